/- Walks of package word: rows. -/
import Derived.Test.YtdbpdanocpfboaaDoorVGood
import Derived.Test.YtdbpdanocpfboaaDoorVKids
import Derived.Shelf.Abstract
import Derived.Deep.RegionWith
namespace Go.Proofs.YtdbpdanocpfboaaDoor
open Go.RowKit Go.Shelf

/-- the slice v is a row of bools of its own, in block b -/
def RowAt (w : World) (b : Nat) (v : Value) (bs : List Bool) : Prop :=
  v = .slice (some ⟨b, 0, none⟩) bs.length bs.length ∧ b < w.heap.size ∧ ∀ i (h : i < bs.length), w.cell? ⟨b, i, none⟩ = some (.bool bs[i]) ∧ w.frozen? ⟨b, i, none⟩ = false

theorem info4 : (Tryd.prog.info? 4).map (fun i => (i.zero, i.size, i.bytes)) = some (some (.bool false), 1, 1) := by kernel_rfl
theorem make107 (n : Nat) (hn : n ≤ 20000) (u : World) : (Instr.makeSlice 104 (.int .i64 (n : Int)) (.int .i64 (n : Int))).run Tryd.prog u = .ok (.slice (some ⟨u.heap.size, 0, none⟩) n n) (u.alloc (.cells (madeCells #[.bool false] n) 4)) := by
  obtain ⟨i0, hi, hz0, hz1, hz2⟩ := info_parts info4
  have h := run_make (P := Tryd.prog) u 104 4 i0 (.bool false) Tryd.underlying104 hi hz0 .i64 .i64 (n : Int) (n : Int) (by omega) (Int.le_refl _) (by rw [hz2]; omega) (by omega)
  simpa [hz1, Value.cells] using h

/-- what a loop over a new row keeps -/
def RowTo (w0 w : World) (b n k : Nat) (f : Nat → Bool) : Prop :=
  Kept (fun _ => False) w0 w ∧ b < w.heap.size ∧ (∀ i, i < n → (w.cell? ⟨b, i, none⟩).isSome = true ∧ w.frozen? ⟨b, i, none⟩ = false) ∧ ∀ i, i < k → w.cell? ⟨b, i, none⟩ = some (.bool (f i))
theorem RowTo.start (w : World) (n : Nat) (f : Nat → Bool) : RowTo w (w.alloc (.cells (madeCells #[.bool false] n) 4)) w.heap.size n 0 f := by
  refine ⟨(Kept.refl _ _).alloc _, by simp, fun i hi => ?_, fun i hi => absurd hi (by omega)⟩
  rw [cell_made _ _ _ hi]
  exact ⟨rfl, by simp⟩
theorem RowTo.step {w0 w : World} {b n k : Nat} {f : Nat → Bool} (h : RowTo w0 w b n k f) (hk : k < n) (hb : w0.heap.size ≤ b) {v : Bool} (hv : v = f k) : RowTo w0 (w.setCell ⟨b, k, none⟩ (.bool v)) b n (k + 1) f := by
  obtain ⟨h1, h2, h3, h4⟩ := h
  refine ⟨h1.setCell (fun hh => by simp at hh; omega) _, by simpa [World.setCell] using h2, fun i hi => ?_, fun i hi => ?_⟩
  · rw [cell_set_row (h3 k hk).1, World.frozen?_setCell]
    refine ⟨?_, (h3 i hi).2⟩
    split
    · rfl
    · exact (h3 i hi).1
  · rw [cell_set_row (h3 k hk).1]
    split
    · rename_i e; subst e; rw [hv]
    · exact h4 i (by omega)
theorem RowTo.drew {w0 w : World} {b n k : Nat} {f : Nat → Bool} (h : RowTo w0 w b n k f) : RowTo w0 w.drew b n k f := ⟨h.1.drew, h.2.1, h.2.2.1, h.2.2.2⟩
theorem RowTo.fin {w0 w : World} {b n : Nat} {f : Nat → Bool} (h : RowTo w0 w b n n f) : RowAt w b (.slice (some ⟨b, 0, none⟩) n n) ((List.range n).map f) := by
  obtain ⟨h1, h2, h3, h4⟩ := h
  refine ⟨by simp, h2, fun i hi => ?_⟩
  have hi' : i < n := by simpa using hi
  refine ⟨?_, (h3 i hi').2⟩
  rw [h4 i hi']
  simp

set_option maxRecDepth 100000 in
set_option maxHeartbeats 1000000 in
theorem where96m (w : World) (xb xo xc : Nat) (xs : List Int) (fid : Nat) (cap : Array Value) (p : Int → Bool) (hl : xs.length ≤ 20000) (hc : ∀ i, (h : i < xs.length) → w.cell? ⟨xb, xo + i, none⟩ = some (.int .i64 xs[i]))
    (hen : ∀ args w, (callFunc fid args).run Tryd.prog w = .ok (.enter fid args) w) (hcall : Hid (∀ (x : Int), x ∈ xs → ∀ (w' : World), Kept (fun _ => False) w w' → Calls Tryd.prog fid (#[.int .i64 x] ++ cap) w' fun e w'' => e = .returned (.bool (p x)) ∧ w'' = w')) :
    Calls Tryd.prog 94 #[.slice (some ⟨xb, xo, none⟩) xs.length xc, .func (.func fid) #[] cap] w fun e w' => ∃ b v, e = .returned v ∧ w.heap.size ≤ b ∧ RowAt w' b v (xs.map p) ∧ Kept (fun _ => False) w w' := by
  have hmk := make107 xs.length hl
  go_enter Tryd.func94, Tryd.ntmps94
  go_wp2
  go_loopw [6, 7, 13] (fun _ _ i wr => ∃ k : Nat, k ≤ xs.length ∧ i = .int .i64 k ∧ RowTo w wr w.heap.size xs.length k (fun i => p (xs.getD i 0))) (fun _ _ i _ => xs.length - (intOf i).toNat)
  case atStart => exact ⟨0, Nat.zero_le _, rfl, RowTo.start _ _ _⟩
  case round =>
    obtain ⟨k, hk, rfl, hr⟩ := hrel
    by_cases hlt : k < xs.length
    · have hck := (hr.1.cell (p := ⟨xb, xo + k, none⟩) (lt_of_cell (hc k hlt)) (fun f => f)).trans (hc k hlt)
      obtain ⟨hs, hf⟩ := hr.2.2.1 k hlt
      obtain ⟨u, hu⟩ := Option.isSome_iff_exists.1 hs
      have HR : Hid _ := hr
      clear hr hmk
      go_wp2_with fail
      refine (hcall.out xs[k] (List.getElem_mem hlt) wr HR.out.1).mono ?_
      rintro e w2 ⟨rfl, rfl⟩
      go_wp2
      go_roundw
      case rel => exact ⟨k + 1, by omega, by go_num, RowTo.step HR.out hlt (Nat.le_refl _) (by simp [List.getD, hlt])⟩
      case measure => simp [intOf]; omega
    · have hkk : k = xs.length := by omega
      have HR : Hid (RowTo w wr w.heap.size xs.length xs.length (fun i => p (xs.getD i 0))) := by subst hkk; exact hr
      have hge : ¬ (k : Int) < (xs.length : Int) := by omega
      clear hkk hr hmk
      go_wp2
      go_ret
      refine ⟨w.heap.size, _, rfl, Nat.le_refl _, ?_, HR.out.1⟩
      have hf := RowTo.fin HR.out
      have e : (List.range xs.length).map (fun i => p (xs.getD i 0)) = xs.map p := by
        apply List.ext_getElem
        · simp
        · intro i h1 h2
          have : i < xs.length := by simpa using h1
          simp [this]
      rw [e] at hf
      exact hf

theorem where96 (w : World) (xb xo xc : Nat) (xs : List Int) (fid : Nat) (cap : Array Value) (p : Int → Bool) (hl : xs.length ≤ 20000) (hc : ∀ i, (h : i < xs.length) → w.cell? ⟨xb, xo + i, none⟩ = some (.int .i64 xs[i]))
    (hen : ∀ args w, (callFunc fid args).run Tryd.prog w = .ok (.enter fid args) w) (hcall : Hid (∀ (x : Int) (w' : World), Kept (fun _ => False) w w' → Calls Tryd.prog fid (#[.int .i64 x] ++ cap) w' fun e w'' => e = .returned (.bool (p x)) ∧ w'' = w')) :
    Calls Tryd.prog 94 #[.slice (some ⟨xb, xo, none⟩) xs.length xc, .func (.func fid) #[] cap] w fun e w' => ∃ b v, e = .returned v ∧ w.heap.size ≤ b ∧ RowAt w' b v (xs.map p) ∧ Kept (fun _ => False) w w' :=
  where96m w xb xo xc xs fid cap p hl hc hen (fun x _ w' hk => hcall.out x w' hk)

set_option maxRecDepth 100000 in
set_option maxHeartbeats 1000000 in
theorem join99 (w : World) (ab bb : Nat) (us vs : List Bool) (fid : Nat) (p : Bool → Bool → Bool) (hl : us.length ≤ 20000) (hlb : vs.length = us.length)
    (ha : ∀ i, (h : i < us.length) → w.cell? ⟨ab, i, none⟩ = some (.bool us[i])) (hb : ∀ i, (h : i < vs.length) → w.cell? ⟨bb, i, none⟩ = some (.bool vs[i]))
    (hen : ∀ args w, (callFunc fid args).run Tryd.prog w = .ok (.enter fid args) w) (hcall : Hid (∀ (x y : Bool) (w' : World), Calls Tryd.prog fid #[.bool x, .bool y] w' fun e w'' => e = .returned (.bool (p x y)) ∧ w'' = w')) :
    Calls Tryd.prog 97 #[.slice (some ⟨ab, 0, none⟩) us.length us.length, .slice (some ⟨bb, 0, none⟩) us.length us.length, .func (.func fid) #[] #[]] w fun e w' => ∃ b v, e = .returned v ∧ w.heap.size ≤ b ∧ RowAt w' b v (List.zipWith p us vs) ∧ Kept (fun _ => False) w w' := by
  have hmk := make107 us.length hl
  have HLB : Hid _ := hlb
  go_enter Tryd.func97, Tryd.ntmps97
  clear hlb
  go_wp2
  go_loopw [8, 14] (fun _ i wr => ∃ k : Nat, k ≤ us.length ∧ i = .int .i64 k ∧ RowTo w wr w.heap.size us.length k (fun i => p (us.getD i false) (vs.getD i false))) (fun _ i _ => us.length - (intOf i).toNat)
  case atStart => exact ⟨0, Nat.zero_le _, rfl, RowTo.start _ _ _⟩
  case round =>
    obtain ⟨k, hk, rfl, hr⟩ := hrel
    by_cases hlt : k < us.length
    · have hlt2 : k < vs.length := by have := HLB.out; omega
      have hca := (hr.1.cell (p := ⟨ab, k, none⟩) (lt_of_cell (ha k hlt)) (fun f => f)).trans (ha k hlt)
      have hcb := (hr.1.cell (p := ⟨bb, k, none⟩) (lt_of_cell (hb k hlt2)) (fun f => f)).trans (hb k hlt2)
      obtain ⟨hs, hf⟩ := hr.2.2.1 k hlt
      obtain ⟨u, hu⟩ := Option.isSome_iff_exists.1 hs
      have HR : Hid _ := hr
      have hlti : (k : Int) < (us.length : Int) := by omega
      clear hr hmk
      go_wp2
      go_region_with (refine (hcall.out _ _ _).mono ?_; rintro e w2 ⟨rfl, rfl⟩)
      all_goals
        go_wp2
        go_roundw
        case rel => exact ⟨k + 1, by omega, by go_num, (RowTo.step HR.out hlt (Nat.le_refl _) (by simp [List.getD, hlt, hlt2])).drew⟩
        case measure => simp [intOf]; omega
    · have hkk : k = us.length := by omega
      have HR : Hid (RowTo w wr w.heap.size us.length us.length (fun i => p (us.getD i false) (vs.getD i false))) := by subst hkk; exact hr
      have hge : ¬ (k : Int) < (us.length : Int) := by omega
      clear hkk hr hmk
      go_wp2
      go_ret
      refine ⟨w.heap.size, _, rfl, Nat.le_refl _, ?_, HR.out.1⟩
      have hf := RowTo.fin HR.out
      have e : (List.range us.length).map (fun i => p (us.getD i false) (vs.getD i false)) = List.zipWith p us vs := by
        have := HLB.out
        apply List.ext_getElem
        · simp; omega
        · intro i h1 h2
          have h3 : i < us.length := by simpa using h1
          have h4 : i < vs.length := by omega
          simp [h3, h4]
      rw [e] at hf
      exact hf

/-- what hangs on itself one place later: behind the last place l0 -/
def goB (p : Bool → Bool → Bool → Bool) (l0 : Bool) : List Bool → List Bool → List Bool
  | a :: r, b :: s => p a b ((goB p l0 r s).headD l0) :: goB p l0 r s
  | _, _ => []
/-- its value at place j of so many -/
def atB (p : Bool → Bool → Bool → Bool) (l0 : Bool) (us vs : List Bool) (j : Nat) : Bool := (goB p l0 (us.drop j) (vs.drop j)).headD l0
theorem atB_end (p : Bool → Bool → Bool → Bool) (l0 : Bool) (us vs : List Bool) : atB p l0 us vs us.length = l0 := by
  unfold atB
  rw [List.drop_length]
  cases vs.drop us.length <;> rfl
theorem atB_step (p : Bool → Bool → Bool → Bool) (l0 : Bool) (us vs : List Bool) (j : Nat) (h : j < us.length) (h' : j < vs.length) : atB p l0 us vs j = p us[j] vs[j] (atB p l0 us vs (j + 1)) := by
  unfold atB
  rw [List.drop_eq_getElem_cons h, List.drop_eq_getElem_cons h']
  rfl

/-- a row filled from its end down to place k -/
def RowDn (w0 w : World) (b n k : Nat) (f : Nat → Bool) : Prop :=
  Kept (fun _ => False) w0 w ∧ b < w.heap.size ∧ (∀ i, i < n → (w.cell? ⟨b, i, none⟩).isSome = true ∧ w.frozen? ⟨b, i, none⟩ = false) ∧ ∀ i, k ≤ i → i < n → w.cell? ⟨b, i, none⟩ = some (.bool (f i))
theorem RowDn.of_to {w0 w : World} {b n k : Nat} {f : Nat → Bool} (h : RowTo w0 w b n k f) (g : Nat → Bool) : RowDn w0 w b n n g := ⟨h.1, h.2.1, h.2.2.1, fun i h1 h2 => absurd h1 (by omega)⟩
theorem RowDn.again {w0 w : World} {b n k : Nat} {f : Nat → Bool} (h : RowDn w0 w b n k f) (g : Nat → Bool) : RowDn w0 w b n n g := ⟨h.1, h.2.1, h.2.2.1, fun i h1 h2 => absurd h1 (by omega)⟩
theorem RowDn.drewN {w0 w : World} {b n k : Nat} {f : Nat → Bool} (h : RowDn w0 w b n k f) (q : Nat) : RowDn w0 (w.drewN q) b n k f := ⟨h.1.drewN q, h.2.1, h.2.2.1, h.2.2.2⟩
theorem RowDn.step {w0 w : World} {b n k : Nat} {f : Nat → Bool} (h : RowDn w0 w b n (k + 1) f) (hk : k < n) (hb : w0.heap.size ≤ b) {v : Bool} (hv : v = f k) : RowDn w0 (w.setCell ⟨b, k, none⟩ (.bool v)) b n k f := by
  obtain ⟨h1, h2, h3, h4⟩ := h
  refine ⟨h1.setCell (fun hh => by simp at hh; omega) _, by simpa [World.setCell] using h2, fun i hi => ?_, fun i hi hi2 => ?_⟩
  · rw [cell_set_row (h3 k hk).1, World.frozen?_setCell]
    refine ⟨?_, (h3 i hi).2⟩
    split
    · rfl
    · exact (h3 i hi).1
  · rw [cell_set_row (h3 k hk).1]
    split
    · rename_i e; subst e; rw [hv]
    · exact h4 i (by omega) hi2
theorem RowDn.fin {w0 w : World} {b n : Nat} {f : Nat → Bool} (h : RowDn w0 w b n 0 f) : RowAt w b (.slice (some ⟨b, 0, none⟩) n n) ((List.range n).map f) := by
  obtain ⟨h1, h2, h3, h4⟩ := h
  refine ⟨by simp, h2, fun i hi => ?_⟩
  have hi' : i < n := by simpa using hi
  refine ⟨?_, (h3 i hi').2⟩
  rw [h4 i (by omega) hi']
  simp

/-- the row behind r rounds, and what it begins the next one with -/
def later (p : Bool → Bool → Bool → Bool) (st : Bool) (us vs : List Bool) (lp : Nat) : Nat → Bool
  | 0 => st
  | r + 1 => atB p (later p st us vs lp r) us vs lp

set_option maxRecDepth 100000 in
set_option maxHeartbeats 2000000 in
theorem back105 (w : World) (ab bb lp : Nat) (us vs : List Bool) (st : Bool) (fid : Nat) (p : Bool → Bool → Bool → Bool) (hl : us.length ≤ 20000) (hlb : vs.length = us.length) (hlp : lp < us.length)
    (ha : ∀ i, (h : i < us.length) → w.cell? ⟨ab, i, none⟩ = some (.bool us[i])) (hb : ∀ i, (h : i < vs.length) → w.cell? ⟨bb, i, none⟩ = some (.bool vs[i]))
    (hen : ∀ args w, (callFunc fid args).run Tryd.prog w = .ok (.enter fid args) w) (hcall : Hid (∀ (x y z : Bool) (w' : World), Calls Tryd.prog fid #[.bool x, .bool y, .bool z] w' fun e w'' => e = .returned (.bool (p x y z)) ∧ w'' = w')) :
    Calls Tryd.prog 103 #[.slice (some ⟨ab, 0, none⟩) us.length us.length, .slice (some ⟨bb, 0, none⟩) us.length us.length, .int .i64 (lp : Int), .bool st, .func (.func fid) #[] #[]] w fun e w' => ∃ b v, e = .returned v ∧ w.heap.size ≤ b ∧ RowAt w' b v ((List.range us.length).map (atB p (later p st us vs lp 1) us vs)) ∧ Kept (fun _ => False) w w' := by
  have hmk := make107 us.length hl
  have HLB : Hid _ := hlb
  have HST : Hid (later p st us vs lp 0 = st) := rfl
  go_enter Tryd.func103, Tryd.ntmps103
  clear hlb
  go_wp2
  go_loopw [12, 13, 18] (fun la _ i wr => ∃ r : Nat, r ≤ 2 ∧ i = .int .i64 r ∧ la = .bool (later p st us vs lp r) ∧ RowDn w wr w.heap.size us.length (if r = 0 then us.length else 0) (atB p (later p st us vs lp (r - 1)) us vs)) (fun _ _ i _ => 2 - (intOf i).toNat)
  case atStart => exact ⟨0, by omega, rfl, rfl, RowDn.of_to (RowTo.start _ _ (fun _ => false)) _⟩
  case round =>
    obtain ⟨r, hr, rfl, rfl, hrow⟩ := hrel
    by_cases hlt : r < 2
    · have HR0 : Hid _ := hrow.again (atB p (later p st us vs lp r) us vs)
      have hri : (r : Int) < 2 := by omega
      clear hrow hmk
      have hLn : ∀ b, b = later p st us vs lp r → atB p b us vs us.length = later p st us vs lp r := fun b e => by rw [e]; exact atB_end ..
      have HLn : Hid _ := hLn
      have HL1 : Hid (later p st us vs lp (r + 1) = atB p (later p st us vs lp r) us vs lp) := rfl
      clear hLn
      generalize hLe : later p st us vs lp r = L at *
      have HLe : Hid _ := hLe
      clear hLe
      go_wp2_with fail
      go_loopw [12, 13] (fun la i wr => ∃ k : Nat, k ≤ us.length ∧ i = .int .i64 ((k : Int) - 1) ∧ la = .bool (atB p L us vs k) ∧ RowDn w wr w.heap.size us.length k (atB p L us vs)) (fun _ i _ => (intOf i + 1).toNat)
      case atStart => exact ⟨us.length, Nat.le_refl _, rfl, by rw [HLn.out L rfl], HR0.out⟩
      case round =>
        obtain ⟨k, hk, rfl, rfl, hrw⟩ := hrel
        by_cases hpos : 0 < k
        · obtain ⟨m, rfl⟩ : ∃ m, k = m + 1 := ⟨k - 1, by omega⟩
          have hm1 : m < us.length := by omega
          have hm2 : m < vs.length := by have := HLB.out; omega
          have hca := (hrw.1.cell (p := ⟨ab, m, none⟩) (lt_of_cell (ha m hm1)) (fun f => f)).trans (ha m hm1)
          have hcb := (hrw.1.cell (p := ⟨bb, m, none⟩) (lt_of_cell (hb m hm2)) (fun f => f)).trans (hb m hm2)
          obtain ⟨hs, hf⟩ := hrw.2.2.1 m hm1
          obtain ⟨u, hu⟩ := Option.isSome_iff_exists.1 hs
          have HR : Hid _ := hrw
          have e1 : (((m + 1 : Nat) : Int) - 1) = (m : Int) := by omega
          have hmi : (m : Int) < (us.length : Int) := by omega
          have HA : Hid (atB p L us vs m = p us[m] vs[m] (atB p L us vs (m + 1))) := atB_step p L us vs m hm1 hm2
          rw [e1]
          generalize atB p L us vs (m + 1) = la at *
          clear hrw
          go_wp2
          go_quiet ((refine Calls.quiet_of_same (hcall.out _ _ _ _)))
          have hu' : (wr.drewN nq).cell? ⟨w.heap.size, m, none⟩ = some u := hu
          have hf' : (wr.drewN nq).frozen? ⟨w.heap.size, m, none⟩ = false := hf
          have HR' : Hid (RowDn w (wr.drewN nq) w.heap.size us.length (m + 1) (atB p L us vs)) := RowDn.drewN HR.out nq
          clear hca hcb hu hf HR
          generalize wr.drewN nq = wq at *
          go_wp2
          go_roundw
          case rel => exact ⟨m, by omega, by simp, by rw [HA.out], RowDn.step HR'.out hm1 (Nat.le_refl _) HA.out.symm⟩
          case measure => simp [intOf]
        · obtain rfl : k = 0 := by omega
          have hcl := hrw.2.2.2 lp (by omega) hlp
          have HR : Hid _ := hrw
          have hli : (lp : Int) < (us.length : Int) := by omega
          clear hrw
          go_wp2
          go_roundw
          case rel => exact ⟨r + 1, by omega, by go_num, by rw [HL1.out], by rw [if_neg (by omega), Nat.add_sub_cancel, HLe.out]; exact HR.out⟩
          case measure => simp [intOf]; omega
    · obtain rfl : r = 2 := by omega
      have HR : Hid (RowDn w wr w.heap.size us.length 0 (atB p (later p st us vs lp 1) us vs)) := by
        have h2 := hrow
        simp at h2
        exact h2
      clear hrow hmk
      go_wp2
      go_ret
      exact ⟨w.heap.size, _, rfl, Nat.le_refl _, RowDn.fin HR.out, HR.out.1⟩
end Go.Proofs.YtdbpdanocpfboaaDoor
