/- slices.Grow of nothing. -/
import Derived.Test.YtdbpdanocpfboaaDoorVLeast1
import Derived.Lib.AppendZerosOnto
import Derived.Lib.Walk
import Derived.Lib.SliceRun
namespace Go.Proofs.YtdbpdanocpfboaaDoor
open Go.RowKit Go.Lib

theorem zeros_cell (w : World) (a b i : Nat) (hi : i < a + b) : (w.alloc (.cells (Builtin.zeroCells #[.int .i64 0] a ++ Builtin.zeroCells #[.int .i64 0] b) 3)).cell? ⟨w.heap.size, i, none⟩ = some (.int .i64 0) := by
  rw [World.cell?_alloc_at (hn := rfl)]
  by_cases h : i < a
  · rw [Array.getElem?_append_left (by simpa [size_zeroCells] using h)]
    simp [Builtin.zeroCells, h, Nat.mod_one]
  · rw [Array.getElem?_append_right (by simp [size_zeroCells]; omega)]
    have : i - a < b := by omega
    simp [Builtin.zeroCells, this, Nat.mod_one]

set_option maxRecDepth 100000 in
set_option maxHeartbeats 1000000 in
theorem grow113 (w : World) (n : Nat) (h0 : 0 < n) (hn : n ≤ 20000) :
    Calls Tryd.prog 111 #[.slice none 0 0, .int .i64 (n : Int)] w fun e w' => ∃ cap, e = .returned (.slice (some ⟨w.heap.size, 0, none⟩) 0 cap) ∧ n ≤ cap ∧ IRow w w' w.heap.size cap [] := by
  obtain ⟨i0, hi, hz0, hz1, hz2⟩ := info_parts infoI
  have hrz : ∀ ty, (Builtin.append_ #[95, 3] ty #[.slice none 0 0, .int .i64 (n : Int)]).run Tryd.prog w = .ok (.slice (some ⟨w.heap.size, 0, none⟩) n (grownCap w n 0 3)) (w.drew.alloc (.cells (Builtin.zeroCells #[.int .i64 0] n ++ Builtin.zeroCells #[.int .i64 0] (grownCap w n 0 3 - n)) 3)) := fun ty => by
    have h := Lib.run_append_grow_zeros (P := Tryd.prog) w 95 3 ty 3 i0 (.int .i64 0) .i64 .i64 Tryd.underlying95 Tryd.underlying3 hi hz0 none 0 0 [] (by rw [hz1]; exact run_firstCells_none w.drew 1 0 0 0) n h0 (by omega) (by omega) (by omega) (by rw [hz2]; omega) (by rw [hz2]; exact growslice_fits (by omega) (by omega))
    simpa [Value.cells] using h
  have hG := grownCap_ge w n 0 3
  have hG2 : grownCap w n 0 3 ≤ 9223372036854775807 := by
    have := grownCap_le_maxLen w n 0 3 (by unfold maxLen; omega)
    unfold maxLen at this
    omega
  generalize grownCap w n 0 3 = G at *
  go_enter Tryd.func111, Tryd.ntmps111
  go_wp2_with (at_builtin; refine Lib.wpList_append_run _ rfl _ _ _ _ rfl _ _ rfl rfl _ _ (hrz _) ?_)
  all_goals
    go_ret
    refine ⟨G, rfl, hG, ((Kept.refl _ _).drew).alloc _, Nat.le_refl _, Nat.zero_le _, fun i hi => ?_, fun i hi => absurd hi (by simp)⟩
    exact ⟨Option.isSome_iff_exists.2 ⟨_, zeros_cell w n (G - n) i (by omega)⟩, by simp⟩
end Go.Proofs.YtdbpdanocpfboaaDoor
