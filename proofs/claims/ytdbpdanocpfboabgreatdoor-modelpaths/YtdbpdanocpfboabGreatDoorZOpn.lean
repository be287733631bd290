import Derived.Test.YtdbpdanocpfboabGreatDoorZGm
import Derived.Test.YtdbpdanocpfboabGreatDoorCards
import Derived.Test.YtdbpdanocpfboabGreatDoorTie
import Derived.WalkKit
import Derived.ProofKit
import Derived.OpenShut
import Derived.Deep.DeepHandedRow
import Derived.Deep.Slices
import Derived.Deep.Strs
import Derived.Lib.LaidTab
import Derived.SizedLaws
import Derived.ChangeSlices
import Derived.ChangeMaps5
import Derived.Shelf.Vars
/- What the rows give: the models and words that come in, opened; the variable that is not listed; a world for the witness. -/
namespace Go.Proofs.YtdbpdanocpfboabGreatDoor
open Go.ChangeShapes Go.WideShapes Go.ChangeAt Go.RowKit Go.Deep

theorem own : ownKnob Tryz.prog.godebug = none := by kernel_rfl
theorem laidOut : laidOutB Tryz.prog = true := by kernel_rfl
theorem cells3 : Tryz.prog.cellsOf 3 = 1 := by kernel_rfl
theorem cells9 : Tryz.prog.cellsOf 9 = 1 := by kernel_rfl
theorem cells22 : Tryz.prog.cellsOf 22 = 1 := by kernel_rfl
theorem cells23 : Tryz.prog.cellsOf 23 = 1 := by kernel_rfl
theorem cells24 : Tryz.prog.cellsOf 24 = 1 := by kernel_rfl
theorem cells30 : Tryz.prog.cellsOf 30 = 3 := by kernel_rfl
theorem cells41 : Tryz.prog.cellsOf 41 = 2 := by kernel_rfl
theorem bytes3 : Tryz.prog.bytesOf 3 = 8 := by kernel_rfl
theorem bytes9 : Tryz.prog.bytesOf 9 = 16 := by kernel_rfl
theorem bytes23 : Tryz.prog.bytesOf 23 = 24 := by kernel_rfl

/-- the variable of the library's that is not listed holds some number -/
theorem maxLen_cell {W : World} (h : W.ShapedOpen Tryz.prog) : ∃ mx, W.cell? ⟨0, 0, none⟩ = some (.int .i64 mx) :=
  cell_of_shapedOpen_int (zero := #[.int .i64 0]) (t := 3) h (of_decide_eq_true (by kernel_rfl)) (by kernel_rfl) rfl (by kernel_rfl) (by kernel_rfl) Tryz.underlying3

section
variable {H : Type} {enc : TypeId × Value → H}

theorem spot_at {a : Addr} (h : a.spot = none) (i : Nat) : a.add i = ⟨a.block, a.off + i, none⟩ := by
  obtain ⟨b, o, s⟩ := a
  simp only at h
  subst h
  exact add_at b o i
theorem spot_eta {a : Addr} (h : a.spot = none) : a = ⟨a.block, a.off, none⟩ := by
  obtain ⟨b, o, s⟩ := a
  simp only at h
  subst h
  rfl
/-- cells at an address, as a list to be read -/
theorem ls_of {W : World} {a : Addr} {len cap : Nat} (V : Nat → Value) (hl : len ≤ cap) (hb : len ≤ 17592186044416) (hc : ∀ i, i < len → W.cell? (a.add i) = some (V i)) : LsV W.heap.size W (.slice (some a) len cap) ((List.range len).map V) := by
  refine ⟨some a, cap, by simp, by simpa using hl, by simpa using hb, fun i x hx => ?_⟩
  rw [List.getElem?_map] at hx
  have hi : i < len := by
    rcases Nat.lt_or_ge i len with h | h
    · exact h
    · rw [List.getElem?_eq_none (by simpa using h)] at hx; cases hx
  rw [List.getElem?_range hi] at hx
  simp only [Option.map_some, Option.some.injEq] at hx
  subst hx
  have g := hc i hi
  have g0 := hc 0 (by omega)
  have hs : a.spot = none := by simpa [Addr.add] using World.cell?_spot g0
  rw [spot_at hs] at g
  exact ⟨a.block, a.off, by rw [← spot_eta hs], lt_of_cell (p := ⟨a.block, a.off + i, none⟩) g, g⟩
theorem openI {W : World} {sp : Nat → Bool} {n : Nat} {cs : List Value} {x : DataW H × List MemPlace} (h : DataW.trod enc Tryz.prog W 0 sp true n 23 cs = some x) (hw : ∀ k ∈ x.1.weights Tryz.prog 23, k ≤ reachBytes) :
    ∃ v xs, cs = [v] ∧ IntsV W.heap.size W v xs := by
  rcases open_ints Tryz.underlying23 Tryz.underlying3 cells3 h with ⟨rfl, _⟩ | ⟨a, len, cap, zs, rfl, _, hl, _, hz, rfl, hc, _⟩
  · exact ⟨_, [], rfl, none, 0, rfl, Nat.le_refl _, by simp, fun i x hx => by simp at hx⟩
  · have hzl : len ≤ zs.length := by rw [hz]; split <;> omega
    have hb : zs.length * 8 ≤ reachBytes := by
      refine hw _ ?_
      simp only [DataW.weights, Tryz.underlying23, bytes3]
      have e : (lits .i64 (zs.take len) (H := H)).length + (lits .i64 (zs.drop len) (H := H)).length = zs.length := by simp [lits]; omega
      rw [e]
      exact List.mem_cons_self
    have hr : reachBytes = 140737488351232 := rfl
    refine ⟨_, (List.range len).map (fun i => zs.getD i 0), rfl, LsV.ints ?_⟩
    rw [List.map_map]
    exact ls_of _ hl (by omega) (fun i hi => hc i (by omega))
theorem openS {W : World} {sp : Nat → Bool} {n : Nat} {cs : List Value} {x : DataW H × List MemPlace} (h : DataW.trod enc Tryz.prog W 0 sp true n 22 cs = some x) (hw : ∀ k ∈ x.1.weights Tryz.prog 22, k ≤ reachBytes) :
    ∃ v xs, cs = [v] ∧ StrsV W.heap.size W v xs ∧ xs.length ≤ 8796093022208 ∧ ∀ s ∈ xs, s.size ≤ 9223372036854775807 := by
  rcases open_strs Tryz.underlying22 Tryz.underlying9 cells9 h with ⟨rfl, _⟩ | ⟨a, len, cap, m, Sx, rfl, _, hl, _, hm, rfl, hc⟩
  · exact ⟨_, [], rfl, ⟨none, 0, rfl, Nat.le_refl _, by simp, fun i x hx => by simp at hx⟩, by simp, by simp⟩
  · have hlm : len ≤ m := by rw [hm]; split <;> omega
    have hb : len * 16 + (m - len) * 16 ≤ reachBytes := by
      rw [← Nat.add_mul]
      refine hw _ ?_
      simp only [DataW.weights, Tryz.underlying22, bytes9]
      simp
    have hr : reachBytes = 140737488351232 := rfl
    refine ⟨_, (List.range len).map Sx, rfl, ?_, by simp; omega, fun s hs => ?_⟩
    · rw [StrsV, List.map_map]
      exact ls_of _ hl (by omega) (fun i hi => (hc i (by omega)).1)
    · obtain ⟨i, hi, rfl⟩ := List.mem_map.1 hs
      have := (hc i (by have := List.mem_range.1 hi; omega)).2
      unfold maxLen at this
      omega
theorem weights_all {d : DataW H} {e : TypeId} : ∀ {l : List (DataW H)}, d ∈ l → ∀ k ∈ d.weights Tryz.prog e, k ∈ DataW.weightsAll Tryz.prog e l
  | [], h, _, _ => by cases h
  | x :: r, h, k, hk => by
    rw [DataW.weightsAll]
    rcases List.mem_cons.1 h with rfl | h
    · exact List.mem_append_left _ hk
    · exact List.mem_append_right _ (weights_all h k hk)
theorem openT {W : World} {sp : Nat → Bool} {n : Nat} {cs : List Value} {x : DataW H × List MemPlace} (h : DataW.trod enc Tryz.prog W 0 sp true n 24 cs = some x) (hw : ∀ k ∈ x.1.weights Tryz.prog 24, k ≤ reachBytes) :
    ∃ v rows, cs = [v] ∧ RowsV W.heap.size W v rows ∧ rows.length ≤ 5864062014805 := by
  rcases open_slice1 Tryz.underlying24 cells23 h with ⟨rfl, _⟩ | ⟨a, len, cap, m, n', V, D, Pl, rfl, _, hl, _, hm, rfl, hc⟩
  · exact ⟨_, [], rfl, ⟨[], rfl, ⟨none, 0, rfl, Nat.le_refl _, by simp, fun i x hx => by simp at hx⟩, fun i r row h => by simp at h⟩, by simp⟩
  · have hlm : len ≤ m := by rw [hm]; split <;> omega
    have hr : reachBytes = 140737488351232 := rfl
    have hb : len * 24 + (m - len) * 24 ≤ reachBytes := by
      rw [← Nat.add_mul]
      refine hw _ ?_
      simp only [DataW.weights, Tryz.underlying24, bytes23]
      simp
    have each : ∀ i, i < len → ∃ xs : List Int, IntsV W.heap.size W (V i) xs := fun i hi => by
      obtain ⟨v, xs, e, hx⟩ := openI (hc i (by omega)).2 (fun k hk => hw k (by
        simp only [DataW.weights, Tryz.underlying24]
        refine List.mem_cons_of_mem _ (List.mem_append_left _ (weights_all (d := D i) ?_ k hk))
        exact List.mem_map.2 ⟨i, List.mem_range.2 hi, rfl⟩))
      cases e
      exact ⟨xs, hx⟩
    obtain ⟨X, hX⟩ := choose_lt (α := List Int) each
    refine ⟨_, (List.range len).map X, rfl, ⟨(List.range len).map V, by simp, ls_of _ hl (by omega) (fun i hi => (hc i (by omega)).1), fun i r row h1 h2 => ?_⟩, by simp; omega⟩
    have hi : i < len := by
      rcases Nat.lt_or_ge i len with h | h
      · exact h
      · rw [List.getElem?_eq_none (by simpa using h)] at h1; cases h1
    rw [List.getElem?_map, List.getElem?_range hi] at h1 h2
    simp only [Option.map_some, Option.some.injEq] at h1 h2
    subst h1 h2
    exact hX i hi

set_option maxRecDepth 100000 in
/-- a model that comes in -/
theorem openM {W : World} {r : Reach} {base : Nat} {sp : Nat → Bool} {v : Value} {d : DataW H} {ps : List MemPlace} (hval : Value.okWide Tryz.prog W r base 30 v) (h : DataW.Trod enc Tryz.prog W 0 sp true 30 v d ps) (hw : ∀ k ∈ d.weights Tryz.prog 30, k ≤ reachBytes) :
    ∃ m, ModV W.heap.size W v m ∧ m.names.length ≤ 8796093022208 ∧ m.tos.length ≤ 5864062014805 ∧ ∀ s ∈ m.names, s.size ≤ 9223372036854775807 := by
  obtain ⟨cs, rfl, hsz⟩ := okWide_struct Tryz.underlying30 hval
  rw [cells30] at hsz
  obtain ⟨n, h⟩ := h
  obtain ⟨y0, y1, y2, m, e, hl, t0, t1, t2⟩ := trod_struct3 Tryz.underlying30 h
  obtain ⟨rfl, rfl⟩ := Prod.mk.inj e
  obtain ⟨c0, c1, c2, rfl⟩ : ∃ c0 c1 c2, cs = #[c0, c1, c2] := by
    match cs, hsz with
    | ⟨[c0, c1, c2]⟩, _ => exact ⟨c0, c1, c2, rfl⟩
  simp only [cells22, cells23, cells24, Value.cells, List.drop, List.take] at t0 t1 t2
  have hw' : ∀ k, k ∈ y0.1.weights Tryz.prog 22 ∨ k ∈ y1.1.weights Tryz.prog 23 ∨ k ∈ y2.1.weights Tryz.prog 24 → k ≤ reachBytes := fun k hk => by
    refine hw k ?_
    simp only [DataW.weights, Tryz.underlying30]
    simpa [DataW.weightsEach] using hk
  obtain ⟨v0, names, e0, h0, hn, hs⟩ := openS t0 (fun k hk => hw' k (.inl hk))
  obtain ⟨v1, letters, e1, h1⟩ := openI t1 (fun k hk => hw' k (.inr (.inl hk)))
  obtain ⟨v2, rows, e2, h2, hr⟩ := openT t2 (fun k hk => hw' k (.inr (.inr hk)))
  cases e0
  cases e1
  cases e2
  exact ⟨⟨names, letters, rows⟩, ⟨_, _, _, rfl, h0, h1, h2⟩, hn, hr, hs⟩
set_option maxRecDepth 100000 in
/-- a word that comes in -/
theorem openW {W : World} {r : Reach} {base : Nat} {sp : Nat → Bool} {v : Value} {d : DataW H} {ps : List MemPlace} (hval : Value.okWide Tryz.prog W r base 41 v) (h : DataW.Trod enc Tryz.prog W 0 sp true 41 v d ps) (hw : ∀ k ∈ d.weights Tryz.prog 41, k ≤ reachBytes) :
    ∃ hd lp, WordV W.heap.size W v hd lp := by
  obtain ⟨cs, rfl, hsz⟩ := okWide_struct Tryz.underlying41 hval
  rw [cells41] at hsz
  obtain ⟨n, h⟩ := h
  obtain ⟨y0, y1, m, e, hl, t0, t1⟩ := trod_struct2 Tryz.underlying41 h
  obtain ⟨rfl, rfl⟩ := Prod.mk.inj e
  obtain ⟨c0, c1, rfl⟩ : ∃ c0 c1, cs = #[c0, c1] := by
    match cs, hsz with
    | ⟨[c0, c1]⟩, _ => exact ⟨c0, c1, rfl⟩
  simp only [cells23, Value.cells, List.drop, List.take] at t0 t1
  have hw' : ∀ k, k ∈ y0.1.weights Tryz.prog 23 ∨ k ∈ y1.1.weights Tryz.prog 23 → k ≤ reachBytes := fun k hk => by
    refine hw k ?_
    simp only [DataW.weights, Tryz.underlying41]
    simpa [DataW.weightsEach] using hk
  obtain ⟨v0, xs, e0, h0⟩ := openI t0 (fun k hk => hw' k (.inl hk))
  obtain ⟨v1, ys, e1, h1⟩ := openI t1 (fun k hk => hw' k (.inr hk))
  cases e0
  cases e1
  exact ⟨xs, ys, _, _, rfl, h0, h1⟩
end

/-- a block with other cells -/
def refill (cs : Array Value) : Obj → Obj
  | .cells _ t frozen => .cells cs t frozen
  | o => o
/-- a world for the witness: the tables hold what their initialisers lay -/
noncomputable def laidWorld (os : Os) : World :=
  { World.holding Tryz.prog os ⟨#[], #[], []⟩ with
    heap := ((World.holding Tryz.prog os ⟨#[], #[], []⟩).heap.modify 1 (refill (Go.Pinned.utf8FirstZ.map (fun z : Nat => Value.int .u8 z)).toArray)).modify 2
      (refill (([128, 191, 160, 191, 128, 159, 144, 191, 128, 143, 0, 0, 0, 0, 0, 0, 0, 0, 0, 0, 0, 0, 0, 0, 0, 0, 0, 0, 0, 0, 0, 0] : List Int).map (Value.int .u8)).toArray) }
def argS : Value := .string ⟨#[]⟩
def argM : Value := .agg #[.slice none 0 0, .slice none 0 0, .slice none 0 0]
def argW : Value := .agg #[.slice none 0 0, .slice none 0 0]
theorem laid_met3 (os : Os) : laidMet Tryz.prog Rows.modelParsesRow.laid ((laidWorld os).forCall (fun _ _ => 0) ⟨#[], #[argS], []⟩).memory :=
  laidMet_of_run' 8 (by kernel_rfl) (by kernel_rfl)
theorem laid_met4 (os : Os) : laidMet Tryz.prog Rows.modelPathsRow.laid ((laidWorld os).forCall (fun _ _ => 0) ⟨#[], #[argM, argW], []⟩).memory :=
  laidMet_of_run' 8 (by kernel_rfl) (by kernel_rfl)
end Go.Proofs.YtdbpdanocpfboabGreatDoor
