/- Walks of package word: uses. -/
import Derived.Test.YtdbpdanocpfboaaDoorVGood
import Derived.Test.YtdbpdanocpfboaaDoorVNode
import Derived.Test.YtdbpdanocpfboaaDoorVKids
namespace Go.Proofs.YtdbpdanocpfboaaDoor
open Go.RowKit

theorem wrap_in (n : Int) (h : -9223372036854775808 ≤ n ∧ n ≤ 9223372036854775807) : wrap64 n = n := by unfold wrap64; omega

/-- the numbers of a Node's Kids -/
def kidsL (x : Nd) : List Int := if x.l = -1 then [] else if x.r = -1 then [x.l] else [x.l, x.r]
theorem kidsL_length (x : Nd) : (kidsL x).length ≤ 2 := by unfold kidsL; split <;> (try split) <;> simp

/-- a row of ints, new since w0 -/
def NewInts (w0 w : World) (a : Option Addr) (ks : List Int) : Prop := ∀ (i : Nat) (x : Int), ks[i]? = some x → ∃ b, a = some ⟨b, 0, none⟩ ∧ w0.heap.size ≤ b ∧ w.cell? ⟨b, i, none⟩ = some (.int .i64 x)
theorem kids63 (w : World) (x : Nd) : Calls Tryd.prog 63 #[x.v] w fun e w' => ∃ a c, e = .returned (.slice a (kidsL x).length c) ∧ NewInts w w' a (kidsL x) ∧ Kept (fun _ => False) w w' := by
  by_cases h1 : x.l = -1
  · refine (kids63_none w x h1).mono ?_
    rintro e w' ⟨rfl, hk⟩
    exact ⟨none, 0, by simp [kidsL, h1], fun i y hy => by simp [kidsL, h1] at hy, hk⟩
  · have b1 : (x.l == -1) = false := by simpa using h1
    by_cases h2 : x.r = -1
    · refine (kids63_one w x b1 h2).mono ?_
      rintro e w' ⟨b, rfl, hb, hc, hk⟩
      refine ⟨some ⟨b, 0, none⟩, 1, by simp [kidsL, h1, h2], fun i y hy => ?_, hk⟩
      simp only [kidsL, h1, h2, if_false, if_true] at hy
      match i, hy with
      | 0, hy => simp at hy; subst hy; exact ⟨b, rfl, hb, hc⟩
    · have b2 : (x.r == -1) = false := by simpa using h2
      refine (kids63_two w x b1 b2).mono ?_
      rintro e w' ⟨b, rfl, hb, hc, hc2, hk⟩
      refine ⟨some ⟨b, 0, none⟩, 2, by simp [kidsL, h1, h2], fun i y hy => ?_, hk⟩
      simp only [kidsL, h1, h2, if_false] at hy
      match i, hy with
      | 0, hy => simp at hy; subst hy; exact ⟨b, rfl, hb, hc⟩
      | 1, hy => simp at hy; subst hy; exact ⟨b, rfl, hb, hc2⟩
theorem NewInts.set {w0 w : World} {a : Option Addr} {ks : List Int} (h : NewInts w0 w a ks) {p : Addr} (hp : p.block < w0.heap.size) (v : Value) : NewInts w0 (w.setCell p v) a ks := fun i x hx => by
  obtain ⟨b, e, hb, hc⟩ := h i x hx
  refine ⟨b, e, hb, ?_⟩
  rw [World.cell?_setCell_other _ _ _ _ (by rintro rfl; simp only at hp; omega)]
  exact hc

/-- a List to be read: its Nodes -/
def LRead (w : World) (L : Nat) (ns : List Nd) : Prop :=
  ∃ a c, w.cell? ⟨L, 0, none⟩ = some (.slice a ns.length c) ∧ ns.length ≤ 1073741824 ∧ ∀ j x, ns[j]? = some x → ∃ g, a = some ⟨g, 0, none⟩ ∧ w.cell? ⟨g, j * 4, none⟩ = some (.int .i64 x.op) ∧ w.cell? ⟨g, j * 4 + 1, none⟩ = some (.int .i64 x.n) ∧ w.cell? ⟨g, j * 4 + 2, none⟩ = some (.int .i64 x.l) ∧ w.cell? ⟨g, j * 4 + 3, none⟩ = some (.int .i64 x.r)
theorem LRead.kept {w w' : World} {L : Nat} {ns : List Nd} (h : LRead w L ns) (hk : Kept (fun _ => False) w w') : LRead w' L ns := by
  obtain ⟨a, c, h1, h2, h3⟩ := h
  refine ⟨a, c, (hk.cell (p := ⟨L, 0, none⟩) (lt_of_cell h1) (fun f => f)).trans h1, h2, fun j x hx => ?_⟩
  obtain ⟨g, e, a0, a1, a2, a3⟩ := h3 j x hx
  exact ⟨g, e, (hk.cell (p := ⟨g, j * 4, none⟩) (lt_of_cell a0) (fun f => f)).trans a0, (hk.cell (p := ⟨g, j * 4 + 1, none⟩) (lt_of_cell a1) (fun f => f)).trans a1,
    (hk.cell (p := ⟨g, j * 4 + 2, none⟩) (lt_of_cell a2) (fun f => f)).trans a2, (hk.cell (p := ⟨g, j * 4 + 3, none⟩) (lt_of_cell a3) (fun f => f)).trans a3⟩

theorem flatN_get : ∀ (ns : List Nd) (j : Nat) (x : Nd), ns[j]? = some x → (flatN ns)[j * 4]? = some (.int .i64 x.op) ∧ (flatN ns)[j * 4 + 1]? = some (.int .i64 x.n) ∧ (flatN ns)[j * 4 + 2]? = some (.int .i64 x.l) ∧ (flatN ns)[j * 4 + 3]? = some (.int .i64 x.r)
  | y :: r, 0, x, h => by simp at h; subst h; simp [flatN, Nd.cells]
  | y :: r, j + 1, x, h => by
    have ih := flatN_get r j x (by simpa using h)
    have e : flatN (y :: r) = y.cells ++ flatN r := by simp [flatN]
    have hl : y.cells.length = 4 := rfl
    rw [e]
    have f : ∀ k, (y.cells ++ flatN r)[(j + 1) * 4 + k]? = (flatN r)[j * 4 + k]? := fun k => by
      rw [List.getElem?_append_right (by omega), hl]
      congr 1
      omega
    exact ⟨(f 0).trans ih.1, (f 1).trans ih.2.1, (f 2).trans ih.2.2.1, (f 3).trans ih.2.2.2⟩

theorem LIn.read {w : World} {base L bm : Nat} {nv : Value} {ns : List Nd} (h : LIn w base L bm nv ns) : LRead w L ns := by
  rcases h.own.2 with ⟨rfl, hz⟩ | ⟨g, cap, cur, rfl, _⟩
  · exact ⟨none, 0, by rw [hz]; exact h.c0, h.len, fun j x hx => by rw [List.eq_nil_of_length_eq_zero hz] at hx; simp at hx⟩
  · refine ⟨some ⟨g, 0, none⟩, cap, h.c0, h.len, fun j x hx => ⟨g, rfl, ?_⟩⟩
    have hcl := h.own.cells (g := g) rfl
    obtain ⟨f0, f1, f2, f3⟩ := flatN_get ns j x hx
    have ad : ∀ k, (⟨g, 0, none⟩ : Addr).add k = ⟨g, k, none⟩ := fun k => by
      unfold Addr.add
      by_cases h0 : k = 0
      · subst h0; simp
      · simp [h0]
    have c0 := hcl _ _ f0
    have c1 := hcl _ _ f1
    have c2 := hcl _ _ f2
    have c3 := hcl _ _ f3
    rw [ad] at c0 c1 c2 c3
    exact ⟨c0, c1, c2, c3⟩

theorem at56r (w : World) (L j : Nat) (ns : List Nd) (x : Nd) (h : LRead w L ns) (hx : ns[j]? = some x) : Calls Tryd.prog 61 #[.pointer (some ⟨L, 0, none⟩), .int .i64 (j : Int)] w fun e w' => e = .returned x.v ∧ Kept (fun _ => False) w w' := by
  obtain ⟨a, c, h1, h2, h3⟩ := h
  obtain ⟨g, rfl, a0, a1, a2, a3⟩ := h3 j x hx
  exact at56 w L g ns.length c j x h1 (List.getElem?_eq_some_iff.1 hx).1 a0 a1 a2 a3

/-- how often Node k is a Kid of these -/
def occ (ns : List Nd) (k : Nat) : Nat := (ns.map fun x => (kidsL x).count (k : Int)).sum
theorem occ_snoc (ns : List Nd) (x : Nd) (k : Nat) : occ (ns ++ [x]) k = occ ns k + (kidsL x).count (k : Int) := by simp [occ]

/-- block b, new since w0, is a row of n ints f -/
def CRow (w0 w : World) (b n : Nat) (f : Nat → Int) : Prop :=
  Kept (fun _ => False) w0 w ∧ w0.heap.size ≤ b ∧ ∀ i, i < n → w.cell? ⟨b, i, none⟩ = some (.int .i64 (f i)) ∧ w.frozen? ⟨b, i, none⟩ = false
theorem CRow.kept {w0 w w' : World} {b n : Nat} {f : Nat → Int} (h : CRow w0 w b n f) (hk : Kept (fun _ => False) w w') : CRow w0 w' b n f := by
  obtain ⟨h1, h2, h3⟩ := h
  refine ⟨h1.trans hk (fun _ _ f => f), h2, fun i hi => ?_⟩
  have hl := lt_of_cell (h3 i hi).1
  rw [hk.cell (p := ⟨b, i, none⟩) hl (fun f => f), hk.frozen (p := ⟨b, i, none⟩) hl (fun f => f)]
  exact h3 i hi
theorem CRow.put {w0 w : World} {b n : Nat} {f g : Nat → Int} (h : CRow w0 w b n f) {k : Nat} (hk : k < n) {v : Int} (hg : ∀ i, i < n → g i = if i = k then v else f i) : CRow w0 (w.setCell ⟨b, k, none⟩ (.int .i64 v)) b n g := by
  obtain ⟨h1, h2, h3⟩ := h
  refine ⟨h1.setCell (fun hh => by simp at hh; omega) _, h2, fun i hi => ?_⟩
  rw [cell_set_row (by rw [(h3 k hk).1]; rfl), World.frozen?_setCell, hg i hi]
  refine ⟨?_, (h3 i hi).2⟩
  split
  · rfl
  · exact (h3 i hi).1
theorem CRow.congr {w0 w : World} {b n : Nat} {f g : Nat → Int} (h : CRow w0 w b n f) (hg : ∀ i, i < n → g i = f i) : CRow w0 w b n g :=
  ⟨h.1, h.2.1, fun i hi => by rw [hg i hi]; exact h.2.2 i hi⟩

theorem occ_le (ns : List Nd) (k : Nat) : occ ns k ≤ 2 * ns.length := by
  induction ns with
  | nil => simp [occ]
  | cons x r ih =>
    have e : occ (x :: r) k = (kidsL x).count (k : Int) + occ r k := by simp [occ]
    have h1 := kidsL_length x
    have h2 : (kidsL x).count (k : Int) ≤ (kidsL x).length := List.count_le_length
    rw [e, List.length_cons]
    omega
theorem CRow.start (w : World) (n : Nat) : CRow w (w.alloc (.cells (madeCells #[.int .i64 0] n) 3)) w.heap.size n (fun k => (occ ([] : List Nd) k : Int)) :=
  ⟨(Kept.refl _ _).alloc _, Nat.le_refl _, fun i hi => ⟨(cell_made _ _ _ hi).trans (by simp [occ]), by simp⟩⟩
theorem infoI : (Tryd.prog.info? 3).map (fun i => (i.zero, i.size, i.bytes)) = some (some (.int .i64 0), 1, 8) := by kernel_rfl

set_option maxRecDepth 100000 in
set_option maxHeartbeats 2000000 in
theorem uses61 (w : World) (L : Nat) (ns : List Nd) (h : LRead w L ns) (hok : ∀ (j : Nat) (x : Nd), ns[j]? = some x → ∀ i ∈ kidsL x, 0 ≤ i ∧ i < ns.length) :
    Calls Tryd.prog 60 #[.pointer (some ⟨L, 0, none⟩)] w fun e w' => ∃ b, e = .returned (.slice (some ⟨b, 0, none⟩) ns.length ns.length) ∧ CRow w w' b ns.length (fun k => (occ ns k : Int)) := by
  obtain ⟨la, lc, hc0, hlen, _⟩ := id h
  obtain ⟨i0, hi, hz0, hz1, hz2⟩ := info_parts infoI
  have hmk : ∀ u : World, (Instr.makeSlice 46 (.int .i64 (ns.length : Int)) (.int .i64 (ns.length : Int))).run Tryd.prog u = .ok (.slice (some ⟨u.heap.size, 0, none⟩) ns.length ns.length) (u.alloc (.cells (madeCells #[.int .i64 0] ns.length) 3)) := fun u => by
    have hh := run_make (P := Tryd.prog) u 46 3 i0 (.int .i64 0) Tryd.underlying46 hi hz0 .i64 .i64 (ns.length : Int) (ns.length : Int) (by omega) (Int.le_refl _) (by rw [hz2]; omega) (by omega)
    simpa [hz1, Value.cells] using hh
  have H : Hid (LRead w L ns) := h
  have HO : Hid (∀ (j : Nat) (x : Nd), ns[j]? = some x → ∀ i ∈ kidsL x, 0 ≤ i ∧ i < ns.length) := hok
  clear h hok
  go_enter Tryd.func60, Tryd.ntmps60
  go_wp2_with (go_at_call 50; refine (len50 _ L la ns.length lc hc0).mono ?_; rintro e w' ⟨rfl, hw⟩; subst w')
  go_loopw [4, 6, 12] (fun _ _ i wr => ∃ j : Nat, j ≤ ns.length ∧ i = .int .i64 j ∧ CRow w wr w.heap.size ns.length (fun k => (occ (ns.take j) k : Int))) (fun _ _ i _ => ns.length - (intOf i).toNat)
  case atStart => exact ⟨0, Nat.zero_le _, rfl, CRow.start w ns.length⟩
  case round =>
    obtain ⟨j, hj, rfl, hcr⟩ := hrel
    by_cases hlt : j < ns.length
    · have hx : ns[j]? = some ns[j] := List.getElem?_eq_getElem hlt
      have HX : Hid _ := hx
      have HC : Hid (CRow w wr w.heap.size ns.length (fun k => (occ (ns.take j) k : Int))) := hcr
      have hlti : (j : Int) < (ns.length : Int) := by omega
      clear hx hcr hmk hc0
      have hbw : w.heap.size < wr.heap.size := lt_of_cell (HC.out.2.2 j hlt).1
      go_wp2_with (first | (go_at_call 61; refine (at56r _ L j ns ns[j] (H.out.kept HC.out.1) HX.out).mono ?_; rintro e w2 ⟨rfl, hk2⟩) | (go_at_call 63; refine (kids63 _ _).mono ?_; rintro e w3 ⟨ka, kc, rfl, hkv, hk3⟩))
      have hks : ∀ i ∈ kidsL ns[j], 0 ≤ i ∧ i < ns.length := HO.out j _ HX.out
      have HT : Hid (∀ k, occ (ns.take (j + 1)) k = occ (ns.take j) k + (kidsL ns[j]).count (k : Int)) := fun k => by
        rw [List.take_add_one, HX.out, Option.toList_some, occ_snoc]
      have hkl := kidsL_length ns[j]
      generalize kidsL ns[j] = ks at *
      have HC3 : Hid (CRow w w3 w.heap.size ns.length (fun k => (occ (ns.take j) k : Int))) := CRow.kept (CRow.kept HC.out hk2) hk3
      have hbw2 : w.heap.size < w2.heap.size := Nat.lt_of_lt_of_le hbw hk2.size
      have HKS : Hid (∀ i ∈ ks, 0 ≤ i ∧ i < (ns.length : Int)) := hks
      have HK : Hid (NewInts w2 w3 ka ks) := hkv
      clear HC hk2 hk3 hbw hks hkv
      go_loopw [6, 20] (fun _ i wq => ∃ m : Nat, m ≤ ks.length ∧ i = .int .i64 m ∧ NewInts w2 wq ka ks ∧ CRow w wq w.heap.size ns.length (fun k => (occ (ns.take j) k : Int) + ((ks.take m).count (k : Int) : Int))) (fun _ i _ => ks.length - (intOf i).toNat)
      case atStart => exact ⟨0, Nat.zero_le _, rfl, HK.out, HC3.out.congr (fun i hi => by simp)⟩
      case round =>
        obtain ⟨m, hm, rfl, hki, hcm⟩ := hrel
        by_cases hmt : m < ks.length
        · have hxm : ks[m]? = some ks[m] := List.getElem?_eq_getElem hmt
          have hkr := HKS.out ks[m] (List.getElem_mem hmt)
          have HST : Hid (∀ k : Nat, (ks.take (m + 1)).count (k : Int) = (ks.take m).count (k : Int) + if ks[m] = (k : Int) then 1 else 0) := fun k => by
            rw [List.take_add_one, hxm, Option.toList_some, List.count_append, List.count_singleton]
            simp
          obtain ⟨kb, rfl, hkb, hkc⟩ := hki m _ hxm
          obtain ⟨k, hk⟩ : ∃ k : Nat, ks[m] = (k : Int) := ⟨ks[m].toNat, by omega⟩
          rw [hk] at hkc hkr HST
          have hkn : k < ns.length := by omega
          obtain ⟨hc1, hf1⟩ := hcm.2.2 k hkn
          have HCM : Hid _ := hcm
          have HKI : Hid (NewInts w2 _ (some ⟨kb, 0, none⟩) ks) := hki
          clear hxm hcm hki hk
          have hmti : (m : Int) < (ks.length : Int) := by omega
          have hkni : (k : Int) < (ns.length : Int) := by omega
          go_wp2
          go_roundw
          case rel => exact ⟨m + 1, by omega, by go_num, NewInts.set HKI.out hbw2 _, CRow.put HCM.out hkn (fun i hi => by
            have := HST.out i
            rw [this]
            by_cases e : i = k
            · subst e
              have q1 := occ_le (ns.take j) i
              have q2 : (ks.take m).count (i : Int) ≤ (ks.take m).length := List.count_le_length
              rw [List.length_take] at q1 q2
              simp only [if_true]
              rw [wrap_in _ (by omega)]
              push_cast
              omega
            · rw [if_neg e, if_neg (by omega)]; simp)⟩
          case measure => simp [intOf]; omega
        · obtain rfl : m = ks.length := by omega
          have HCM : Hid _ := hcm
          clear hcm hki
          go_wp2
          go_roundw
          case rel => exact ⟨j + 1, by omega, by go_num, CRow.congr HCM.out (fun i hi => by rw [HT.out i, List.take_length]; simp)⟩
          case measure => simp [intOf]; omega
    · obtain rfl : j = ns.length := by omega
      have HC : Hid _ := hcr
      clear hcr hmk hc0
      go_wp2
      go_ret
      exact ⟨_, rfl, CRow.congr HC.out (fun i hi => by rw [List.take_length])⟩
end Go.Proofs.YtdbpdanocpfboaaDoor
