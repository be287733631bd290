import Derived.Test.YtdbpdanocpfboabGreatDoorZBun08
import Derived.Lib.AppendZerosOnto
import Derived.Lib.Walk
import Derived.Lib.SliceRun
/- Walks of package word: fromEnd. -/
namespace Go.Proofs.YtdbpdanocpfboabGreatDoor
open Go.RowKit

set_option maxHeartbeats 1000000 in
theorem fromEnd69 (w : World) (B : Nat) (v : Value) (l : List Int) (n : Nat) (h : IntsV B w v l) (hl : 0 < l.length) (hl2 : l.length ≤ 20000) (hn : n ≤ 20000) :
    Calls Tryz.prog 70 #[v, .int .i64 (n : Int)] w fun e w' => w' = w ∧ e = .returned (.int .i64 (l.getD (l.length - 1 - n % l.length) 0)) := by
  rcases h.cases with ⟨rfl, _⟩ | ⟨_, b, off, cap, rfl, hcap, hcap2, hbB, hcell⟩
  · simp at hl
  have hq := Nat.mod_lt n hl
  obtain ⟨q, hqe⟩ : ∃ q, q = l.length - 1 - n % l.length := ⟨_, rfl⟩
  have hql : q < l.length := by omega
  have hc := hcell q hql
  have hqi : (q : Int) < (l.length : Int) := by omega
  have hmod : (n : Int).tmod (l.length : Int) = ((n % l.length : Nat) : Int) := by
    rw [Int.tmod_eq_emod_of_nonneg (by omega)]
    rfl
  have hsub : ((l.length : Int) - 1 - ((n % l.length : Nat) : Int)) = (q : Int) := by omega
  have hlz : ¬ (l.length : Int) = 0 := by omega
  have hlz2 : ¬ l.length = 0 := by omega
  have HE : Hid (l.getD (l.length - 1 - n % l.length) 0 = l[q]) := by
    rw [← hqe, List.getD_eq_getElem?_getD, List.getElem?_eq_getElem hql]
    rfl
  clear hcell hqe
  generalize hr : n % l.length = r at *
  clear hr
  go_enter Tryz.func70, Tryz.ntmps70
  go_wp2
  go_ret
  exact ⟨rfl, ret_int HE.out.symm⟩
end Go.Proofs.YtdbpdanocpfboabGreatDoor

/- slices.Grow of nothing. -/
namespace Go.Proofs.YtdbpdanocpfboabGreatDoor
open Go.RowKit Go.Lib

theorem zeros_cell (w : World) (a b i : Nat) (hi : i < a + b) : (w.alloc (.cells (Builtin.zeroCells #[.int .i64 0] a ++ Builtin.zeroCells #[.int .i64 0] b) 3)).cell? ⟨w.heap.size, i, none⟩ = some (.int .i64 0) := by
  rw [World.cell?_alloc_at (hn := rfl)]
  by_cases h : i < a
  · rw [Array.getElem?_append_left (by simpa [size_zeroCells] using h)]
    simp [Builtin.zeroCells, h, Nat.mod_one]
  · rw [Array.getElem?_append_right (by simp [size_zeroCells]; omega)]
    have : i - a < b := by omega
    simp [Builtin.zeroCells, this, Nat.mod_one]

set_option maxRecDepth 100000 in
set_option maxHeartbeats 1000000 in
theorem grow113 (w : World) (n : Nat) (h0 : 0 < n) (hn : n ≤ 20000) :
    Calls Tryz.prog 91 #[.slice none 0 0, .int .i64 (n : Int)] w fun e w' => ∃ cap, e = .returned (.slice (some ⟨w.heap.size, 0, none⟩) 0 cap) ∧ n ≤ cap ∧ IRow w w' w.heap.size cap [] := by
  obtain ⟨i0, hi, hz0, hz1, hz2⟩ := info_parts infoI
  have hrz : ∀ ty, (Builtin.append_ #[68, 3] ty #[.slice none 0 0, .int .i64 (n : Int)]).run Tryz.prog w = .ok (.slice (some ⟨w.heap.size, 0, none⟩) n (grownCap w n 0 3)) (w.drew.alloc (.cells (Builtin.zeroCells #[.int .i64 0] n ++ Builtin.zeroCells #[.int .i64 0] (grownCap w n 0 3 - n)) 3)) := fun ty => by
    have h := Lib.run_append_grow_zeros (P := Tryz.prog) w 68 3 ty 3 i0 (.int .i64 0) .i64 .i64 Tryz.underlying68 Tryz.underlying3 hi hz0 none 0 0 [] (by rw [hz1]; exact run_firstCells_none w.drew 1 0 0 0) n h0 (by omega) (by omega) (by omega) (by rw [hz2]; omega) (by rw [hz2]; exact growslice_fits (by omega) (by omega))
    simpa [Value.cells] using h
  have hG := grownCap_ge w n 0 3
  have hG2 : grownCap w n 0 3 ≤ 9223372036854775807 := by
    have := grownCap_le_maxLen w n 0 3 (by unfold maxLen; omega)
    unfold maxLen at this
    omega
  generalize grownCap w n 0 3 = G at *
  go_enter Tryz.func91, Tryz.ntmps91
  go_wp2_with (at_builtin; refine Lib.wpList_append_run _ rfl _ _ _ _ rfl _ _ rfl rfl _ _ (hrz _) ?_)
  all_goals
    go_ret
    refine ⟨G, rfl, hG, ((Kept.refl _ _).drew).alloc _, Nat.le_refl _, Nat.zero_le _, fun i hi => ?_, fun i hi => absurd hi (by simp)⟩
    exact ⟨Option.isSome_iff_exists.2 ⟨_, zeros_cell w n (G - n) i (by omega)⟩, by simp⟩
end Go.Proofs.YtdbpdanocpfboabGreatDoor

/- slices.Concat of two. -/
namespace Go.Proofs.YtdbpdanocpfboabGreatDoor
open Go.RowKit Go.Shelf

theorem append_ints_of {w0 w : World} {b n B : Nat} {xs ys : List Int} {v : Value} {t tx : TypeId} (htx : Tryz.prog.underlying tx = some (.slice 3)) (ht : Tryz.prog.underlying t = some (.slice 3)) (h : IRow w0 w b n xs) (hl : xs.length + ys.length ≤ n) (hv : IntsV B w v ys) :
    ∀ ty, (Builtin.append_ #[t, tx] ty #[.slice (some ⟨b, 0, none⟩) xs.length n, v]).run Tryz.prog w = .ok (.slice (some ⟨b, 0, none⟩) (xs.length + ys.length) n) (w.setCells b xs.length (ys.map (Value.int .i64))) := by
  intro ty
  obtain ⟨i0, hi, hz0, hz1, hz2⟩ := info_parts info3'
  have hsrc : Src Tryz.prog i0.size tx v ys.length (ys.map (Value.int .i64)) w := by
    rw [hz1]
    obtain ⟨a, cap, rfl, hc1, hc2, hc⟩ := hv
    cases a with
    | none =>
      have : ys = [] := by
        cases ys with
        | nil => rfl
        | cons y r => obtain ⟨_, _, e, _⟩ := hc 0 y rfl; cases e
      subst this
      exact Src.ofNil w htx cap
    | some ad =>
      refine Src.ofSlice w htx ad ys.length cap (ys.map (Value.int .i64)) (by simp) (fun j u hu => ?_) (ints_oneCell .i64 ys)
      simp only [List.getElem?_map, Option.map_eq_some_iff] at hu
      obtain ⟨y, hy, rfl⟩ := hu
      obtain ⟨b', off, e, _, hcell⟩ := hc j y hy
      cases e
      have e2 : (⟨b', off, none⟩ : Addr).add j = ⟨b', off + j, none⟩ := by
        unfold Addr.add
        by_cases h0 : j = 0
        · subst h0; simp
        · simp [h0]
      rw [e2]
      exact hcell
  have := run_append_room_src (P := Tryz.prog) w t tx ty 3 i0 ht hi b 0 xs.length n v ys.length (ys.map (Value.int .i64)) hsrc hl
    (fun j hj => by rw [hz1]; simp only [Nat.zero_add, Nat.mul_one]; exact (h.2.2.2.1 _ (by simp at hj; omega)).1) (fun j hj => by rw [hz1]; simp only [Nat.zero_add, Nat.mul_one]; exact (h.2.2.2.1 _ (by simp at hj; omega)).2)
  rw [hz1] at this
  simpa using this

set_option maxRecDepth 100000 in
set_option maxHeartbeats 1000000 in
theorem concat70 (w : World) (B ab : Nat) (va vb : Value) (xs ys : List Int) (hB : B ≤ w.heap.size) (c0 : w.cell? ⟨ab, 0, none⟩ = some va) (c1 : w.cell? ⟨ab, 1, none⟩ = some vb) (ha : IntsV B w va xs) (hb : IntsV B w vb ys) (h0 : 0 < xs.length + ys.length) (hn : xs.length + ys.length ≤ 20000) :
    Calls Tryz.prog 71 #[.slice (some ⟨ab, 0, none⟩) 2 2] w fun e w' => ∃ b cap, e = .returned (.slice (some ⟨b, 0, none⟩) (xs.length + ys.length) cap) ∧ IRow w w' b cap (xs ++ ys) := by
  obtain ⟨aa, ac, rfl, _⟩ := ha.form
  obtain ⟨ba, bc, rfl, _⟩ := hb.form
  have HA : Hid (IntsV B w (.slice aa xs.length ac) xs) := ha
  have HB : Hid (IntsV B w (.slice ba ys.length bc) ys) := hb
  clear ha hb
  go_enter Tryz.func71, Tryz.ntmps71
  go_wp2
  go_loop [3, 5, 11] (fun s _ i => (i = .int .i64 0 ∧ s = .int .i64 0) ∨ (i = .int .i64 1 ∧ s = .int .i64 (xs.length : Int)) ∨ (i = .int .i64 2 ∧ s = .int .i64 ((xs.length + ys.length : Nat) : Int))) (fun _ _ i => 2 - (intOf i).toNat)
  case atStart => exact .inl ⟨rfl, rfl⟩
  case round =>
    rcases hrel with ⟨rfl, rfl⟩ | ⟨rfl, rfl⟩ | ⟨rfl, rfl⟩
    · go_wp2
      go_round
      case rel => exact .inr (.inl ⟨by go_num, by go_num⟩)
      case measure => simp [intOf]
    · have hneg : ¬ ((xs.length : Int) + (ys.length : Int) < 0) := by omega
      go_wp2
      go_round
      case rel => exact .inr (.inr ⟨by go_num, by go_num⟩)
      case measure => simp [intOf]
    · go_upto_region 10 with (go_at_call 91; refine (grow113 _ (xs.length + ys.length) h0 hn).mono ?_; rintro e w1 ⟨cap, rfl, hcap, hI⟩)
      have hk1 := hI.1
      have d0 := (hk1.cell (p := ⟨ab, 0, none⟩) (lt_of_cell c0) (fun f => f)).trans c0
      have HI : Hid (IRow w w1 w.heap.size cap []) := hI
      clear hI hk1
      go_wp2_with fail
      go_loopw [6, 8, 27] (fun s _ i wr => (i = .int .i64 0 ∧ s = .slice (some ⟨w.heap.size, 0, none⟩) 0 cap ∧ IRow w wr w.heap.size cap []) ∨ (i = .int .i64 1 ∧ s = .slice (some ⟨w.heap.size, 0, none⟩) xs.length cap ∧ IRow w wr w.heap.size cap xs) ∨ (i = .int .i64 2 ∧ s = .slice (some ⟨w.heap.size, 0, none⟩) (xs.length + ys.length) cap ∧ IRow w wr w.heap.size cap (xs ++ ys))) (fun _ _ i _ => 2 - (intOf i).toNat)
      case atStart => exact .inl ⟨rfl, rfl, HI.out⟩
      case round =>
        rcases hrel with ⟨rfl, rfl, hr⟩ | ⟨rfl, rfl, hr⟩ | ⟨rfl, rfl, hr⟩
        · have e0 := (hr.1.cell (p := ⟨ab, 0, none⟩) (lt_of_cell c0) (fun f => f)).trans c0
          have hA := HA.out.below (hr.1.below hB (fun _ f => f.elim))
          have hx := append_ints_of Tryz.underlying68 Tryz.underlying68 hr (by simp; omega) hA
          have hr2 := hr.fill (ys := xs) (by simp; omega)
          simp only [List.length_nil, Nat.zero_add, List.nil_append] at hx hr2
          have HX : Hid _ := hx
          have HR2 : Hid _ := hr2
          clear hx hr2 hA hr
          go_wp2_with (at_builtin; refine wpList_append_run rfl _ _ 68 68 rfl (.slice (some ⟨w.heap.size, 0, none⟩) 0 cap) (.slice aa xs.length ac) rfl rfl HX.out ?_)
          go_roundw
          case rel => exact .inr (.inl ⟨by go_num, rfl, HR2.out⟩)
          case measure => simp [intOf]
        · have e0 := (hr.1.cell (p := ⟨ab, 1, none⟩) (lt_of_cell c1) (fun f => f)).trans c1
          have hA := HB.out.below (hr.1.below hB (fun _ f => f.elim))
          have hx := append_ints_of Tryz.underlying68 Tryz.underlying68 hr (by omega) hA
          have hr2 := hr.fill (ys := ys) (by omega)
          have HX : Hid _ := hx
          have HR2 : Hid _ := hr2
          clear hx hr2 hA hr
          go_wp2_with (at_builtin; refine wpList_append_run rfl _ _ 68 68 rfl (.slice (some ⟨w.heap.size, 0, none⟩) xs.length cap) (.slice ba ys.length bc) rfl rfl HX.out ?_)
          go_roundw
          case rel => exact .inr (.inr ⟨by go_num, rfl, HR2.out⟩)
          case measure => simp [intOf]
        · have HR : Hid _ := hr
          clear hr
          go_wp2
          go_ret
          exact ⟨w.heap.size, cap, rfl, HR.out⟩
end Go.Proofs.YtdbpdanocpfboabGreatDoor

/- slices.Equal of ints. -/
namespace Go.Proofs.YtdbpdanocpfboabGreatDoor
open Go.RowKit

set_option maxRecDepth 100000 in
set_option maxHeartbeats 1000000 in
theorem equal73 (w : World) (B C : Nat) (va vb : Value) (xs ys : List Int) (ha : IntsV B w va xs) (hb : IntsV C w vb ys) (hB : B ≤ w.heap.size) (hC : C ≤ w.heap.size) :
    Calls Tryz.prog 43 #[va, vb] w fun e w' => Kept (fun _ => False) w w' ∧ e = .returned (.bool (decide (xs = ys))) := by
  obtain ⟨aa, ac, rfl, hal⟩ := ha.form
  obtain ⟨ba, bc, rfl, hbl⟩ := hb.form
  by_cases hl : xs.length = ys.length
  · have HL : Hid _ := hl
    have HA : Hid (IntsV B w (.slice aa xs.length ac) xs) := ha
    have HB : Hid (IntsV C w (.slice ba ys.length bc) ys) := hb
    have hlb : ((xs.length : Int) != (ys.length : Int)) = false := by simp; omega
    clear ha hb hl
    go_enter Tryz.func43, Tryz.ntmps43
    go_wp2
    go_loopw [5, 13] (fun _ i wr => ∃ k : Nat, k ≤ xs.length ∧ i = .int .i64 k ∧ Kept (fun _ => False) w wr ∧ ∀ j, j < k → xs[j]? = ys[j]?) (fun _ i _ => xs.length - (intOf i).toNat)
    case atStart => exact ⟨0, Nat.zero_le _, rfl, Kept.refl _ _, fun j hj => absurd hj (by omega)⟩
    case round =>
      obtain ⟨k, hk, rfl, hkw, heq⟩ := hrel
      have HQ : Hid (∀ j, j < k → xs[j]? = ys[j]?) := heq
      clear heq
      by_cases hlt : k < xs.length
      · have hlt2 : k < ys.length := by have := HL.out; omega
        obtain ⟨_, _, e1, _, _, q1⟩ := HA.out.below (hkw.below hB (fun _ f => f.elim))
        obtain ⟨b1, o1, r1, _, d1⟩ := q1 k xs[k] (List.getElem?_eq_getElem hlt)
        obtain ⟨_, _, e2, _, _, q2⟩ := HB.out.below (hkw.below hC (fun _ f => f.elim))
        obtain ⟨b2, o2, r2, _, d2⟩ := q2 k ys[k] (List.getElem?_eq_getElem hlt2)
        cases e1
        cases e2
        subst r1 r2
        have hi1 : (k : Int) < (xs.length : Int) := by omega
        have hi2 : (k : Int) < (ys.length : Int) := by omega
        clear q1 q2
        have HX : Hid (xs[k]? = some xs[k]) := List.getElem?_eq_getElem hlt
        have HY : Hid (ys[k]? = some ys[k]) := List.getElem?_eq_getElem hlt2
        by_cases he : xs[k] = ys[k]
        · have HE : Hid (xs[k] = ys[k]) := he
          rw [he] at d1
          clear he
          generalize ys[k] = y at *
          go_wp2
          go_region
          go_wp2
          go_roundw
          case rel => exact ⟨k + 1, by omega, by go_num, hkw.drew, fun j hj => by
            by_cases e : j = k
            · subst e; rw [HX.out, HY.out, HE.out]
            · exact HQ.out j (by omega)⟩
          case measure => simp [intOf]; omega
        · have hneb : (xs[k] != ys[k]) = true := by simpa using he
          have HN : Hid (xs ≠ ys) := fun h => by
            have h1 : some xs[k] = some ys[k] := HX.out.symm.trans ((congrArg (fun l => l[k]?) h).trans HY.out)
            exact he (Option.some.inj h1)
          generalize xs[k] = x at *
          generalize ys[k] = y at *
          go_wp2
          go_region
          go_wp2
          go_ret
          exact ⟨hkw.drew, ret_bool (by simp [HN.out])⟩
      · have HN : Hid (xs = ys) := List.ext_getElem? fun j => by
          by_cases hj : j < k
          · exact HQ.out j hj
          · rw [List.getElem?_eq_none (by omega), List.getElem?_eq_none (by have := HL.out; omega)]
        have hi1 : ¬ (k : Int) < (xs.length : Int) := by omega
        go_wp2
        go_ret
        exact ⟨hkw, ret_bool (by simp [HN.out])⟩
  · have hne : xs ≠ ys := fun h => hl (by rw [h])
    have hlb : ((xs.length : Int) != (ys.length : Int)) = true := by simp; omega
    go_enter Tryz.func43, Tryz.ntmps43
    go_wp2
    go_ret
    exact ⟨Kept.refl _ _, ret_bool (by simp [hne])⟩
end Go.Proofs.YtdbpdanocpfboabGreatDoor
