/- A Form that comes in, opened; its size by the bound. -/
import Derived.Test.YtdbpdanocpfboaaDoorVLaid
import Derived.Test.YtdbpdanocpfboaaDoorVCopy
import Derived.Deep.Slices
import Derived.Deep.Strs
namespace Go.Proofs.YtdbpdanocpfboaaDoor
open Go.ChangeShapes Go.WideShapes Go.ChangeAt Go.RowKit Go.Deep

theorem cells30 : Tryd.prog.cellsOf 30 = 3 := by kernel_rfl
theorem cells28 : Tryd.prog.cellsOf 28 = 1 := by kernel_rfl

/-- so many, each of which there is: a list of them -/
theorem rs_of {B : Nat} {W : World} {b : Nat} : ∀ (len o : Nat) (f : Nat → Nat), (∀ i, i < len → ∃ t, RAt B W b (o + i * 3) t ∧ t.size ≤ f i) → ∃ kids, kids.length = len ∧ RsAt B W b o kids ∧ Tr.sizes kids ≤ ((List.range len).map f).sum
  | 0, _, _, _ => ⟨[], rfl, trivial, by simp [Tr.sizes]⟩
  | len + 1, o, f, h => by
    obtain ⟨t, ht, hs⟩ := h 0 (by omega)
    obtain ⟨kids, hl, hk, hks⟩ := rs_of len (o + 3) (fun i => f (i + 1)) (fun i hi => by
      obtain ⟨t, h1, h2⟩ := h (i + 1) (by omega)
      exact ⟨t, by rwa [show o + (i + 1) * 3 = o + 3 + i * 3 by omega] at h1, h2⟩)
    refine ⟨t :: kids, by simp [hl], ⟨by simpa using ht, hk⟩, ?_⟩
    rw [List.range_succ_eq_map, List.map_cons, List.sum_cons, List.map_map]
    simp only [Tr.sizes]
    exact Nat.add_le_add hs hks
theorem bulkAll_map {H : Type} (D : Nat → DataW H) (l : List Nat) : Rows.uptoBulkAll (l.map D) = (l.map fun i => Rows.uptoBulk (D i)).sum := by
  induction l with
  | nil => simp [Rows.uptoBulkAll]
  | cons a r ih => simp [Rows.uptoBulkAll, ih]
theorem bulk_mem {H : Type} (D : Nat → DataW H) {l : List Nat} {i : Nat} (h : i ∈ l) : Rows.uptoBulk (D i) ≤ Rows.uptoBulkAll (l.map D) := by
  rw [bulkAll_map]
  induction l with
  | nil => simp at h
  | cons a r ih =>
    rcases List.mem_cons.1 h with rfl | h
    · simp
    · have := ih h; simp; omega

set_option maxRecDepth 100000 in
theorem openR {H : Type} {enc : TypeId × Value → H} {W : World} {sp : Nat → Bool} : ∀ (N fuel : Nat) (cs : List Value) (x : DataW H × List MemPlace), Rows.uptoBulk x.1 ≤ N → DataW.trod enc Tryd.prog W 0 sp true fuel 30 cs = some x →
    ∃ op n ka kb ko kc kids, cs = [.int .i64 op, .int .i64 n, .slice ka kids.length kc] ∧ (0 < kids.length → ka = some ⟨kb, ko, none⟩) ∧ RsAt W.heap.size W kb ko kids ∧ (Tr.mk op n kids).size ≤ Rows.uptoBulk x.1 := by
  intro N
  induction N with
  | zero =>
    intro fuel cs x hx h
    obtain ⟨y0, y1, y2, m, rfl, _⟩ := trod_struct3 Tryd.underlying30 h
    simp [Rows.uptoBulk] at hx
  | succ N ih =>
    intro fuel cs x hx h
    obtain ⟨y0, y1, y2, m, rfl, hl, t0, t1, t2⟩ := trod_struct3 Tryd.underlying30 h
    rw [cells30] at hl
    match cs, hl with
    | [c0, c1, c2], _ =>
      simp only [cells3, cells28, List.drop, List.take] at t0 t1 t2
      obtain ⟨op, e0, _⟩ := DataW.trod_int Tryd.underlying3 t0
      obtain ⟨n, e1, _⟩ := DataW.trod_int Tryd.underlying3 t1
      cases e0
      cases e1
      rcases open_slice Tryd.underlying28 t2 with ⟨e2, _⟩ | ⟨a, len, cap, m', n', D, Pl, e2, _, hlc, _, hm', hy, hel⟩
      · cases e2
        exact ⟨op, n, none, 0, 0, 0, [], rfl, by simp, trivial, by simp [Tr.size, Tr.sizes, Rows.uptoBulk]⟩
      · cases e2
        have hlm : len ≤ m' := by rw [hm']; split <;> omega
        have hb2 : Rows.uptoBulk y2.1 = Rows.uptoBulkAll ((List.range len).map D) + Rows.uptoBulkAll ((List.range (m' - len)).map fun j => D (len + j)) + 1 := by rw [hy]; simp [Rows.uptoBulk]
        have hbx : Rows.uptoBulk (DataW.agg [y0.1, y1.1, y2.1]) = Rows.uptoBulk y0.1 + (Rows.uptoBulk y1.1 + Rows.uptoBulk y2.1) + 1 := by simp [Rows.uptoBulk, Rows.uptoBulkAll]
        simp only at hx
        have hspot : 0 < len → a.spot = none := fun h0 => by
          obtain ⟨cs0, hc, _⟩ := hel 0 (by omega)
          rw [cells30] at hc
          obtain ⟨_, hl0, hcc⟩ := World.cells?_some hc
          have q := hcc 0 (by omega)
          rw [List.getElem?_eq_getElem (by omega)] at q
          simpa [Addr.add] using World.cell?_spot q
        have each : ∀ i, i < len → ∃ t, RAt W.heap.size W a.block (a.off + i * 3) t ∧ t.size ≤ Rows.uptoBulk (D i) := fun i hi => by
          obtain ⟨cs', hc, ht⟩ := hel i (by omega)
          have hbi := bulk_mem D (l := List.range len) (i := i) (by simpa using hi)
          obtain ⟨op', n', ka, kb, ko, kc, kids, rfl, g1, g2, g3⟩ := ih _ cs' (D i, Pl i) (by simp only; omega) ht
          rw [cells30] at hc
          obtain ⟨_, _, hcc⟩ := World.cells?_some hc
          have q0 := hcc 0 (by omega)
          have q1 := hcc 1 (by omega)
          have q2 := hcc 2 (by omega)
          have hs := hspot (by omega)
          have e : ∀ j, (a.add (i * 3)).add j = ⟨a.block, a.off + i * 3 + j, none⟩ := fun j => by rw [add_add, add_at hs, Nat.add_assoc]
          rw [e] at q0 q1 q2
          exact ⟨.mk op' n' kids, ⟨lt_of_cell (p := ⟨a.block, a.off + i * 3 + 0, none⟩) q0, q0, q1, ka, kb, ko, kc, q2, g1, g2⟩, g3⟩
        obtain ⟨kids, hkl, hks, hsz⟩ := rs_of len a.off (fun i => Rows.uptoBulk (D i)) each
        refine ⟨op, n, some a, a.block, a.off, cap, kids, by rw [hkl], fun _ => ?_, hks, ?_⟩
        · have hs := hspot (by omega)
          obtain ⟨b, o, sp'⟩ := a
          simp only at hs
          subst hs
          rfl
        · simp only [Tr.size]
          rw [hbx, hb2, bulkAll_map]
          omega
end Go.Proofs.YtdbpdanocpfboaaDoor

namespace Go.Proofs.YtdbpdanocpfboaaDoor
open Go.ChangeShapes Go.WideShapes Go.ChangeAt Go.RowKit Go.Deep

set_option maxRecDepth 100000 in
theorem openF {H : Type} {enc : TypeId × Value → H} {W : World} {r : Reach} {base : Nat} {sp : Nat → Bool} {v : Value} {d : DataW H} {ps : List MemPlace} (hval : Value.okWide Tryd.prog W r base 30 v) (h : DataW.Trod enc Tryd.prog W 0 sp true 30 v d ps) :
    ∃ t, RV W.heap.size W v t ∧ t.size ≤ Rows.uptoBulk d := by
  obtain ⟨cs, rfl, hsz⟩ := okWide_struct Tryd.underlying30 hval
  rw [cells30] at hsz
  obtain ⟨n, h⟩ := h
  obtain ⟨c0, c1, c2, rfl⟩ : ∃ c0 c1 c2, cs = #[c0, c1, c2] := by
    match cs, hsz with
    | ⟨[c0, c1, c2]⟩, _ => exact ⟨c0, c1, c2, rfl⟩
  obtain ⟨op, m, ka, kb, ko, kc, kids, e, h1, h2, h3⟩ := openR _ n _ _ (Nat.le_refl _) h
  simp only [Value.cells, List.cons.injEq, and_true] at e
  obtain ⟨rfl, rfl, rfl⟩ := e
  exact ⟨.mk op m kids, ⟨ka, kb, ko, kc, rfl, h1, h2⟩, h3⟩
/-- the bound, of each of what is handed in -/
theorem bulk_part {H : Type} {d : DataW H} {l : List (DataW H)} (h : d ∈ l) : Rows.uptoBulk d ≤ Rows.uptoBulkAll l := by
  induction l with
  | nil => cases h
  | cons x r ih =>
    simp only [Rows.uptoBulkAll]
    cases List.mem_cons.1 h with
    | inl e => subst e; omega
    | inr e => have := ih e; omega
theorem bulk_small {H : Type} {l : List (DataW H)} (h : Rows.uptoSmall H l = true) {d : DataW H} (hd : d ∈ l) : Rows.uptoBulk d ≤ 1048576 := Nat.le_trans (bulk_part hd) (of_decide_eq_true h)
end Go.Proofs.YtdbpdanocpfboaaDoor
