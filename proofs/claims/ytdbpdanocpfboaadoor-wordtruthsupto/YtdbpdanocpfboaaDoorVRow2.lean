/- Walks of package word: the row one place later. -/
import Derived.Test.YtdbpdanocpfboaaDoorVRow1
import Derived.Laws.CopyOwn
namespace Go.Proofs.YtdbpdanocpfboaaDoor
open Go.RowKit Go.Shelf

theorem size4 : (Tryd.prog.info? 4).map (·.size) = some 1 := by kernel_rfl

/-- the copy: what it leaves -/
theorem copy107 (w W : World) (ab : Nat) (us : List Bool) (hab : ab < w.heap.size) (hk : Kept (fun _ => False) w W) (ha : ∀ i, (h : i < us.length) → w.cell? ⟨ab, i + 1, none⟩ = some (.bool us[i]))
    (hg : W.heap[w.heap.size]? = some (.cells (madeCells #[.bool false] (us.length + 1)) 4 (0, 0))) :
    ∃ W2, (Builtin.copy_ #[104, 104] 3 #[.slice (some ⟨w.heap.size, 0, none⟩) (us.length + 1) (us.length + 1), .slice (some ⟨ab, 1, none⟩) us.length us.length]).run Tryd.prog W = .ok (goInt us.length) W2 ∧
      Kept (fun _ => False) w W2 ∧ W2.heap[w.heap.size]? = some (.cells (us.map Value.bool ++ [Value.bool false]).toArray 4 (0, 0)) := by
  have h := run_copy_row (P := Tryd.prog) W 104 104 3 4 w.heap.size 0 (us.length + 1) (us.length + 1) ⟨ab, 1, none⟩ us.length us.length (madeCells #[.bool false] (us.length + 1)) 4 (us.map Value.bool)
    Tryd.underlying104 size4 hg (by simp) (fun j v hv => by
      simp only [List.getElem?_map, Option.map_eq_some_iff] at hv
      obtain ⟨b, hb, rfl⟩ := hv
      obtain ⟨hj, e⟩ := List.getElem?_eq_some_iff.1 hb
      have e2 : (⟨ab, 1, none⟩ : Addr).add j = ⟨ab, j + 1, none⟩ := by
        unfold Addr.add
        by_cases h0 : j = 0
        · subst h0; simp
        · simp [h0]; omega
      rw [e2, hk.cell (p := ⟨ab, j + 1, none⟩) hab (fun f => f), ha j hj, e]) (by simp [size_madeCells]) (by intro v hv; simp at hv; rcases hv with ⟨_, rfl⟩ | ⟨_, rfl⟩ <;> rfl)
  rw [List.length_map] at h
  refine ⟨_, h, ?_, ?_⟩
  · refine ⟨hk.os, hk.tape, hk.output, Nat.le_trans hk.size (by simp [World.setRow]), fun k hk' hn => ?_⟩
    rw [setRow_other W _ k _ (by omega)]
    exact hk.block k hk' hn
  · rw [setRow_heap W _ _ _ 4 _ hg]
    have e : (madeCells #[Value.bool false] (us.length + 1)).toList = List.replicate (us.length + 1) (.bool false) := toList_madeCells_one _ _
    rw [e]
    simp

theorem rowAt_last {W : World} {b : Nat} {us : List Bool} {y : Bool} (hg : W.heap[b]? = some (.cells (us.map Value.bool ++ [Value.bool false]).toArray 4 (0, 0))) : RowAt (W.setCell ⟨b, us.length, none⟩ (.bool y)) b (.slice (some ⟨b, 0, none⟩) (us.length + 1) (us.length + 1)) (us ++ [y]) := by
  have hb : b < W.heap.size := (Array.getElem?_eq_some_iff.1 hg).1
  refine ⟨by simp, by simpa [World.setCell] using hb, fun i hi => ⟨?_, ?_⟩⟩
  · rw [cell_set_row (by simp [World.cell?, hg])]
    split
    · rename_i e; subst e; simp
    · have : i < us.length := by simp at hi; omega
      simp [World.cell?, hg, this]
      rw [List.getElem?_append_left (by simpa using this)]
      simp [this]
  · rw [World.frozen?_setCell]
    simp [World.frozen?, hg]

set_option maxRecDepth 100000 in
set_option maxHeartbeats 1000000 in
theorem next104 (w : World) (ab lp : Nat) (x : Bool) (us : List Bool) (hl : us.length + 1 ≤ 20000) (hlp : lp < us.length + 1) (h0 : w.cell? ⟨ab, 0, none⟩ = some (.bool x)) (ha : ∀ i, (h : i < us.length) → w.cell? ⟨ab, i + 1, none⟩ = some (.bool us[i])) :
    Calls Tryd.prog 102 #[.slice (some ⟨ab, 0, none⟩) (us.length + 1) (us.length + 1), .int .i64 (lp : Int)] w fun e w' => ∃ b v, e = .returned v ∧ w.heap.size ≤ b ∧ RowAt w' b v (us ++ [(x :: us).getD lp false]) ∧ Kept (fun _ => False) w w' := by
  have hmk : ∀ u : World, (Instr.makeSlice 104 (.int .i64 ((us.length : Int) + 1)) (.int .i64 ((us.length : Int) + 1))).run Tryd.prog u = .ok (.slice (some ⟨u.heap.size, 0, none⟩) (us.length + 1) (us.length + 1)) (u.alloc (.cells (madeCells #[.bool false] (us.length + 1)) 4)) := make107 (us.length + 1) hl
  have l0 := lt_of_cell h0
  have hcl : w.cell? ⟨ab, lp, none⟩ = some (.bool ((x :: us).getD lp false)) := by
    cases lp with
    | zero => simpa using h0
    | succ m => rw [ha m (by omega)]; simp [List.getD, show m < us.length by omega]
  have hgA : (w.alloc (.cells (madeCells #[.bool false] (us.length + 1)) 4)).heap[w.heap.size]? = some (.cells (madeCells #[.bool false] (us.length + 1)) 4 (0, 0)) := (MapKept.heap_alloc w _).1
  have hkA : Kept (fun _ => False) w (w.alloc (.cells (madeCells #[.bool false] (us.length + 1)) 4)) := (Kept.refl _ _).alloc _
  generalize (x :: us).getD lp false = y at *
  by_cases hne : us = []
  · subst hne
    have hcp : ∀ (a : Option Addr) (W : World), (Builtin.copy_ #[104, 104] 3 #[.slice (some ⟨w.heap.size, 0, none⟩) 1 1, .slice a 0 0]).run Tryd.prog W = .ok (.int .i64 0) W := fun a W => run_copy_none (P := Tryd.prog) W 104 104 3 4 _ a 1 1 0 0 Tryd.underlying104 size4 rfl
    obtain rfl : lp = 0 := by simpa using hlp
    have e : (madeCells #[Value.bool false] 1) = #[Value.bool false] := by apply Array.ext'; rw [toList_madeCells_one]; rfl
    have hmk1 : ∀ u : World, (Instr.makeSlice 104 (.int .i64 1) (.int .i64 1)).run Tryd.prog u = .ok (.slice (some ⟨u.heap.size, 0, none⟩) 1 1) (u.alloc (.cells #[.bool false] 4)) := fun u => by
      have := make107 1 (by omega) u
      rw [e] at this
      exact this
    have l1 : ab < w.heap.size := l0
    simp only [List.length_nil, Nat.zero_add]
    clear hmk hgA ha h0 hkA hlp l0 e
    go_enter Tryd.func102, Tryd.ntmps102
    go_wp2
    go_ret
    refine ⟨w.heap.size, _, rfl, Nat.le_refl _, ⟨rfl, by simp, fun i hi => ?_⟩, (Kept.refl _ _).alloc _⟩
    obtain rfl : i = 0 := by simpa using hi
    simp
  · obtain ⟨W2, hcp, hk2, hg2⟩ := copy107 w _ ab us l0 hkA ha hgA
    have hcl2 := (hk2.cell (p := ⟨ab, lp, none⟩) (lt_of_cell hcl) (fun f => f)).trans hcl
    have hcN : W2.cell? ⟨w.heap.size, us.length, none⟩ = some (.bool false) := by simp [World.cell?, hg2]
    have hfN : W2.frozen? ⟨w.heap.size, us.length, none⟩ = false := by simp [World.frozen?, hg2]
    have hlpi : (lp : Int) < (us.length : Int) + 1 := by omega
    have hus : ¬ us.length = 0 := fun e => hne (List.eq_nil_of_length_eq_zero e)
    have HG : Hid _ := hg2
    clear hg2 hgA ha h0 hcl hne
    go_enter Tryd.func102, Tryd.ntmps102
    go_wp2
    go_ret
    refine ⟨w.heap.size, _, rfl, Nat.le_refl _, ?_, hk2.setCell (fun hh => by simp at hh) _⟩
    exact rowAt_last (HG.out)
end Go.Proofs.YtdbpdanocpfboaaDoor
