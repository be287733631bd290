/- Walks of package nodes: kidsOf. -/
import Derived.Test.YtdbpdanocpfboaaDoorVAdd
import Derived.Deep.RegionWith
import Derived.Deep.DeepCutAuto
namespace Go.Proofs.YtdbpdanocpfboaaDoor
open Go.RowKit

def kidC (op : Int) : Int := ([0, 0, 0, 1, 2, 2, 2, 1, 2, 2, 1, 1] : List Int).getD op.toNat 0
def topN (op : Int) : Int := if op = 2 then 7 else 0
def wellN (op n : Int) (kl : Nat) : Prop := 0 ≤ op ∧ op < 12 ∧ (kl : Int) = kidC op ∧ 0 ≤ n ∧ n ≤ topN op
/-- the table in memory -/
def TabK (w : World) : Prop := ∀ j, j < 12 → w.cell? ⟨1, j, none⟩ = some (.int .i64 (kidC j))

set_option maxHeartbeats 1000000 in
theorem kids86_bad (w : World) (pb po : Nat) (op n : Int) (ka : Option Addr) (kl kc : Nat) (hT : TabK w)
    (h0 : w.cell? ⟨pb, po, none⟩ = some (.int .i64 op)) (h1 : w.cell? ⟨pb, po + 1, none⟩ = some (.int .i64 n)) (h2 : w.cell? ⟨pb, po + 2, none⟩ = some (.slice ka kl kc))
    (hbad : ¬ wellN op n kl) :
    Calls Tryd.prog 86 #[.pointer (some ⟨pb, po, none⟩)] w fun e w' => e = .returned (.tuple #[.slice none 0 0, .bool false]) ∧ Kept (fun _ => False) w w' := by
  by_cases a1 : op < 0
  · clear hbad
    have b1 : decide (op < 0) = true := by simpa using a1
    go_enter Tryd.func86, Tryd.ntmps86
    go_wp2
    go_quiet (fail)
    go_wp2
    go_ret2
    exact ⟨rfl, by repeat (first | exact Kept.refl _ _ | apply Kept.drewN | apply Kept.alloc)⟩
  · have b1 : decide (op < 0) = false := by simpa using a1
    have b1' : 0 ≤ op := by omega
    by_cases a2 : 12 ≤ op
    · clear hbad
      go_enter Tryd.func86, Tryd.ntmps86
      go_wp2
      go_quiet (fail)
      go_wp2
      go_ret2
      exact ⟨rfl, by repeat (first | exact Kept.refl _ _ | apply Kept.drewN | apply Kept.alloc)⟩
    · have b2 : op < 12 := by omega
      have hc := hT op.toNat (by omega)
      have ho : ((op.toNat : Nat) : Int) = op := by omega
      rw [ho] at hc
      clear ho
      by_cases a3 : (kl : Int) = kidC op
      · have b3 : ((kl : Int) != kidC op) = false := by simpa using a3
        have hn : n < 0 ∨ topN op < n := by
          by_cases c1 : n < 0
          · exact .inl c1
          · by_cases c2 : topN op < n
            · exact .inr c2
            · exact absurd ⟨b1', b2, a3, by omega, by omega⟩ hbad
        clear hbad a3
        by_cases a4 : op = 2
        · have b4 : (op == 2) = true := by simpa using a4
          have hn' : n < 0 ∨ 7 < n := by simpa [topN, a4] using hn
          clear hn a4
          rcases hn' with c | c
          all_goals
            go_enter Tryd.func86, Tryd.ntmps86
            go_wp2
            go_quiet (fail)
            go_wp2
            go_ret2
            exact ⟨rfl, by repeat (first | exact Kept.refl _ _ | apply Kept.drewN | apply Kept.alloc)⟩
        · have b4 : (op == 2) = false := by simpa using a4
          have hn' : n < 0 ∨ 0 < n := by simpa [topN, a4] using hn
          clear hn a4
          rcases hn' with c | c
          all_goals
            go_enter Tryd.func86, Tryd.ntmps86
            go_wp2
            go_quiet (fail)
            go_wp2
            go_ret2
            exact ⟨rfl, by repeat (first | exact Kept.refl _ _ | apply Kept.drewN | apply Kept.alloc)⟩
      · have b3 : ((kl : Int) != kidC op) = true := by simpa using a3
        clear hbad a3
        go_enter Tryd.func86, Tryd.ntmps86
        go_wp2
        go_quiet (fail)
        go_wp2
        go_ret2
        exact ⟨rfl, by repeat (first | exact Kept.refl _ _ | apply Kept.drewN | apply Kept.alloc)⟩
theorem info121 : (Tryd.prog.info? 118).map (fun i => (i.zero, i.size, i.bytes)) = some (some (.pointer none), 1, 8) := by kernel_rfl

theorem cell_set_row {w : World} {b k : Nat} (h : (w.cell? ⟨b, k, none⟩).isSome = true) (v : Value) (j : Nat) : (w.setCell ⟨b, k, none⟩ v).cell? ⟨b, j, none⟩ = if j = k then some v else w.cell? ⟨b, j, none⟩ := by
  by_cases e : j = k
  · subst e; rw [World.cell?_setCell_same' _ _ _ h]; simp
  · rw [World.cell?_setCell_other _ _ _ _ (by simp)]; simp [e]
theorem cell_made {w : World} (z : Value) (n : Nat) (t : TypeId) {j : Nat} (hj : j < n) : (w.alloc (.cells (madeCells #[z] n) t)).cell? ⟨w.heap.size, j, none⟩ = some z := by
  rw [World.cell?_alloc_new, ← Array.getElem?_toList, toList_madeCells_one]
  simp [hj]

/-- a slice's pointers to the Forms of a row -/
def PtrsAt (w : World) (nb kb ko n : Nat) : Prop := ∀ j, j < n → w.cell? ⟨nb, j, none⟩ = some (.pointer (some ⟨kb, ko + j * 3, none⟩))

set_option maxRecDepth 100000 in
set_option maxHeartbeats 1000000 in
theorem kids86_good (w : World) (pb po : Nat) (op n : Int) (ka : Option Addr) (kb ko kl kc : Nat) (hT : TabK w)
    (h0 : w.cell? ⟨pb, po, none⟩ = some (.int .i64 op)) (h1 : w.cell? ⟨pb, po + 1, none⟩ = some (.int .i64 n)) (h2 : w.cell? ⟨pb, po + 2, none⟩ = some (.slice ka kl kc)) (hka : 0 < kl → ka = some ⟨kb, ko, none⟩) (hkl : kl ≤ 2)
    (hw : wellN op n kl) :
    Calls Tryd.prog 86 #[.pointer (some ⟨pb, po, none⟩)] w fun e w' => ∃ nb, e = .returned (.tuple #[.slice (some ⟨nb, 0, none⟩) kl kl, .bool true]) ∧ w.heap.size ≤ nb ∧ nb < w'.heap.size ∧ PtrsAt w' nb kb ko kl ∧ Kept (fun _ => False) w w' := by
  obtain ⟨b1, b2, a3, b5, b6⟩ := hw
  obtain ⟨i0, hi, hz0, hz1, hz2⟩ := info_parts info121
  have hc := hT op.toNat (by omega)
  have ho : ((op.toNat : Nat) : Int) = op := by omega
  rw [ho] at hc
  clear ho
  have b3 : ((kl : Int) != kidC op) = false := by simpa using a3
  have c1 : decide (op < 0) = false := by simpa using b1
  have c2 : decide (12 ≤ op) = false := by simpa using b2
  clear a3
  have hl := lt_of_cell h0
  have hmk : ∀ u : World, (Instr.makeSlice 177 (.int .i64 (kl : Int)) (.int .i64 (kl : Int))).run Tryd.prog u =
      .ok (.slice (some ⟨u.heap.size, 0, none⟩) kl kl) (u.alloc (.cells (madeCells #[.pointer none] kl) 118)) := fun u => by
    have h := run_make (P := Tryd.prog) u 177 118 i0 (.pointer none) Tryd.underlying177 hi hz0 .i64 .i64 (kl : Int) (kl : Int) (by omega) (Int.le_refl _) (by rw [hz2]; omega) (by omega)
    simpa [hz1, Value.cells] using h
  have hb : (op = 2 ∧ n ≤ 7) ∨ (¬ op = 2 ∧ n ≤ 0) := by
    by_cases e : op = 2
    · exact .inl ⟨e, by simpa [topN, e] using b6⟩
    · exact .inr ⟨e, by simpa [topN, e] using b6⟩
  clear b6
  rcases hb with ⟨e, b6⟩ | ⟨e, b6⟩
  · have b4 : (op == 2) = true := by simpa using e
    clear e
    go_enter Tryd.func86, Tryd.ntmps86
    go_wp2
    go_quiet (fail)
    have d0 : (w.drewN nq).cell? ⟨pb, po, none⟩ = some (.int .i64 op) := h0
    have d1 : (w.drewN nq).cell? ⟨pb, po + 1, none⟩ = some (.int .i64 n) := h1
    have d2 : (w.drewN nq).cell? ⟨pb, po + 2, none⟩ = some (.slice ka kl kc) := h2
    have dl : pb < (w.drewN nq).heap.size := hl
    have dk : Kept (fun _ => False) w (w.drewN nq) := (Kept.refl _ _).drewN _
    clear h0 h1 h2 hl hc
    generalize w.drewN nq = w1 at *
    go_wp2
    go_loopw [6, 62] (fun _ i wr => ∃ k : Nat, k ≤ kl ∧ i = .int .i64 k ∧ (∀ j, j < kl → (wr.cell? ⟨w1.heap.size, j, none⟩).isSome = true ∧ wr.frozen? ⟨w1.heap.size, j, none⟩ = false) ∧ PtrsAt wr w1.heap.size kb ko k ∧ Kept (fun _ => False) w1 wr ∧ w1.heap.size < wr.heap.size) (fun _ i _ => kl - (intOf i).toNat)
    case atStart =>
      refine ⟨0, Nat.zero_le _, rfl, fun j hj => ?_, fun j hj => absurd hj (by omega), (Kept.refl _ _).alloc _, by simp⟩
      rw [cell_made _ _ _ hj]
      exact ⟨rfl, by simp⟩
    case round =>
      obtain ⟨k, hk, rfl, hsome, hp, hkw, hsz⟩ := hrel
      have q2 := (hkw.cell (p := ⟨pb, po + 2, none⟩) dl (fun f => f)).trans d2
      by_cases hlt : k < kl
      · have e := hka (by omega)
        subst e
        obtain ⟨hs, hf⟩ := hsome k hlt
        obtain ⟨u, hu⟩ := Option.isSome_iff_exists.1 hs
        go_wp2
        go_roundw
        case rel =>
          refine ⟨k + 1, by omega, by go_num, ?_, ?_, ?_, by simpa [World.setCell] using hsz⟩
          · intro j hj
            rw [cell_set_row hs, World.frozen?_setCell]
            refine ⟨?_, (hsome j hj).2⟩
            split
            · rfl
            · exact (hsome j hj).1
          · intro j hj
            rw [cell_set_row hs]
            split
            · rename_i e; subst e; rfl
            · exact hp j (by omega)
          · exact hkw.setCell (fun hh => by simp at hh) _
        case measure => simp [intOf]; omega
      · go_wp2
        go_ret2
        exact ⟨w1.heap.size, rfl, dk.size, hsz, fun j hj => hp j (by omega), dk.trans hkw (fun _ _ f => f)⟩
  · have b4 : (op == 2) = false := by simpa using e
    clear e
    go_enter Tryd.func86, Tryd.ntmps86
    go_wp2
    go_quiet (fail)
    have d0 : (w.drewN nq).cell? ⟨pb, po, none⟩ = some (.int .i64 op) := h0
    have d1 : (w.drewN nq).cell? ⟨pb, po + 1, none⟩ = some (.int .i64 n) := h1
    have d2 : (w.drewN nq).cell? ⟨pb, po + 2, none⟩ = some (.slice ka kl kc) := h2
    have dl : pb < (w.drewN nq).heap.size := hl
    have dk : Kept (fun _ => False) w (w.drewN nq) := (Kept.refl _ _).drewN _
    clear h0 h1 h2 hl hc
    generalize w.drewN nq = w1 at *
    go_wp2
    go_loopw [6, 62] (fun _ i wr => ∃ k : Nat, k ≤ kl ∧ i = .int .i64 k ∧ (∀ j, j < kl → (wr.cell? ⟨w1.heap.size, j, none⟩).isSome = true ∧ wr.frozen? ⟨w1.heap.size, j, none⟩ = false) ∧ PtrsAt wr w1.heap.size kb ko k ∧ Kept (fun _ => False) w1 wr ∧ w1.heap.size < wr.heap.size) (fun _ i _ => kl - (intOf i).toNat)
    case atStart =>
      refine ⟨0, Nat.zero_le _, rfl, fun j hj => ?_, fun j hj => absurd hj (by omega), (Kept.refl _ _).alloc _, by simp⟩
      rw [cell_made _ _ _ hj]
      exact ⟨rfl, by simp⟩
    case round =>
      obtain ⟨k, hk, rfl, hsome, hp, hkw, hsz⟩ := hrel
      have q2 := (hkw.cell (p := ⟨pb, po + 2, none⟩) dl (fun f => f)).trans d2
      by_cases hlt : k < kl
      · have e := hka (by omega)
        subst e
        obtain ⟨hs, hf⟩ := hsome k hlt
        obtain ⟨u, hu⟩ := Option.isSome_iff_exists.1 hs
        go_wp2
        go_roundw
        case rel =>
          refine ⟨k + 1, by omega, by go_num, ?_, ?_, ?_, by simpa [World.setCell] using hsz⟩
          · intro j hj
            rw [cell_set_row hs, World.frozen?_setCell]
            refine ⟨?_, (hsome j hj).2⟩
            split
            · rfl
            · exact (hsome j hj).1
          · intro j hj
            rw [cell_set_row hs]
            split
            · rename_i e; subst e; rfl
            · exact hp j (by omega)
          · exact hkw.setCell (fun hh => by simp at hh) _
        case measure => simp [intOf]; omega
      · go_wp2
        go_ret2
        exact ⟨w1.heap.size, rfl, dk.size, hsz, fun j hj => hp j (by omega), dk.trans hkw (fun _ _ f => f)⟩
end Go.Proofs.YtdbpdanocpfboaaDoor
