/- What the rows give: the table, the words that come in; what they ask back. -/
import Derived.Test.YtdbpdanocpfboaaDoorVLaw8
import Derived.Test.YtdbpdanocpfboaaDoorCards
import Derived.Test.YtdbpdanocpfboaaDoorTie
import Derived.WalkKit
import Derived.ProofKit
import Derived.OpenShut
import Derived.Deep.DeepHandedRow
import Derived.Lib.LaidTab
import Derived.SizedLaws
import Derived.ChangeSlices
namespace Go.Proofs.YtdbpdanocpfboaaDoor
open Go.ChangeShapes Go.WideShapes Go.ChangeAt Go.RowKit

theorem own : ownKnob Tryd.prog.godebug = none := by kernel_rfl
theorem gTab : Tryd.prog.globalNamed "vigil/nodes.kidCounts" = some 1 := by kernel_rfl
theorem gTabType : (Tryd.prog.globals[1]?).map (·.type) = some 182 := by kernel_rfl
theorem cells185 : Tryd.prog.cellsOf 182 = 12 := by kernel_rfl
theorem cells3 : Tryd.prog.cellsOf 3 = 1 := by kernel_rfl
theorem cells46 : Tryd.prog.cellsOf 46 = 1 := by kernel_rfl
theorem cells48 : Tryd.prog.cellsOf 48 = 2 := by kernel_rfl
theorem bytes3 : Tryd.prog.bytesOf 3 = 8 := by kernel_rfl
theorem laidOut : laidOutB Tryd.prog = true := by kernel_rfl

theorem tabK_of {W : World} (h : laidMetH Tryd.prog [("vigil/nodes.kidCounts", Rows.laid_vigil_nodes_kidCounts)] W) : TabK W := by
  have ht : Lib.TabIs Tryd.prog W "vigil/nodes.kidCounts" .i64 [0, 0, 0, 1, 2, 2, 2, 1, 2, 2, 1, 1] := Lib.tabIs_of_head (rest := []) gTab gTabType Tryd.underlying182 Tryd.underlying3 cells3 cells185 h
  intro j hj
  have := ht.cell gTab j (by simpa using hj)
  rw [this, kidC]
  simp

section
variable {H : Type} {enc : TypeId × Value → H}

theorem add_at {a : Addr} (h : a.spot = none) (i : Nat) : a.add i = ⟨a.block, a.off + i, none⟩ := by
  obtain ⟨b, o, s⟩ := a
  simp only at h
  subst h
  unfold Addr.add
  by_cases h0 : i = 0
  · subst h0; simp
  · simp [h0]

theorem openI {W : World} {sp : Nat → Bool} {n : Nat} {cs : List Value} {x : DataW H × List MemPlace} (h : DataW.trod enc Tryd.prog W 0 sp true n 46 cs = some x) (hw : ∀ k ∈ x.1.weights Tryd.prog 46, k ≤ reachBytes) :
    ∃ v xs, cs = [v] ∧ IntsV W.heap.size W v xs := by
  rcases open_ints Tryd.underlying46 Tryd.underlying3 cells3 h with ⟨rfl, _⟩ | ⟨a, len, cap, zs, rfl, _, hl, _, hz, rfl, hc, _⟩
  · exact ⟨_, [], rfl, none, 0, rfl, Nat.le_refl _, by simp, fun i x hx => by simp at hx⟩
  · have hzl : len ≤ zs.length := by rw [hz]; split <;> omega
    have hlt : (zs.take len).length = len := by rw [List.length_take]; omega
    have hb : zs.length * 8 ≤ reachBytes := by
      refine hw _ ?_
      simp only [DataW.weights, Tryd.underlying46, bytes3]
      have e : (lits .i64 (zs.take len) (H := H)).length + (lits .i64 (zs.drop len) (H := H)).length = zs.length := by simp [lits]; omega
      rw [e]
      exact List.mem_cons_self
    refine ⟨_, zs.take len, rfl, some a, cap, by rw [hlt], by rw [hlt]; exact hl, ?_, fun i x hx => ?_⟩
    · rw [hlt]
      have : reachBytes = 140737488351232 := rfl
      omega
    · obtain ⟨hi, rfl⟩ := List.getElem?_eq_some_iff.1 hx
      rw [hlt] at hi
      have g := hc i (by omega)
      have g0 := hc 0 (by omega)
      have hs : a.spot = none := by simpa [Addr.add] using World.cell?_spot g0
      rw [add_at hs] at g
      refine ⟨a.block, a.off, by obtain ⟨b, o, s⟩ := a; simp only at hs; subst hs; rfl, lt_of_cell (p := ⟨a.block, a.off + i, none⟩) g, ?_⟩
      rw [g, List.getElem_take, List.getD_eq_getElem?_getD, List.getElem?_eq_getElem (by omega)]
      rfl

set_option maxRecDepth 100000 in
theorem openW {W : World} {r : Reach} {base : Nat} {sp : Nat → Bool} {v : Value} {d : DataW H} {ps : List MemPlace} (hval : Value.okWide Tryd.prog W r base 48 v) (h : DataW.Trod enc Tryd.prog W 0 sp true 48 v d ps) (hw : ∀ k ∈ d.weights Tryd.prog 48, k ≤ reachBytes) :
    ∃ hd lp, WordV W.heap.size W v hd lp := by
  obtain ⟨cs, rfl, hsz⟩ := okWide_struct Tryd.underlying48 hval
  rw [cells48] at hsz
  obtain ⟨n, h⟩ := h
  obtain ⟨y0, y1, m, e, hl, t0, t1⟩ := trod_struct2 Tryd.underlying48 h
  obtain ⟨rfl, rfl⟩ := Prod.mk.inj e
  obtain ⟨c0, c1, rfl⟩ : ∃ c0 c1, cs = #[c0, c1] := by
    match cs, hsz with
    | ⟨[c0, c1]⟩, _ => exact ⟨c0, c1, rfl⟩
  simp only [cells46, Value.cells, List.drop, List.take] at t0 t1
  have hw' : ∀ k, k ∈ y0.1.weights Tryd.prog 46 ∨ k ∈ y1.1.weights Tryd.prog 46 → k ≤ reachBytes := fun k hk => by
    refine hw k ?_
    simp only [DataW.weights, Tryd.underlying48]
    simpa [DataW.weightsEach] using hk
  obtain ⟨v0, xs, e0, h0⟩ := openI t0 (fun k hk => hw' k (.inl hk))
  obtain ⟨v1, ys, e1, h1⟩ := openI t1 (fun k hk => hw' k (.inr hk))
  cases e0
  cases e1
  exact ⟨xs, ys, _, _, rfl, h0, h1⟩
end
end Go.Proofs.YtdbpdanocpfboaaDoor
