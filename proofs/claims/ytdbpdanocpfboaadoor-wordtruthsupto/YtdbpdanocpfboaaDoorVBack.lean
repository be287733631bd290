/- slices.Backward over pointers to Forms. -/
import Derived.RangeFuncNested
import Derived.RangeFuncBound
import Derived.RangeFuncCalls
import Derived.RangeFuncLeaves
import Derived.Shelf.Abstract
import Derived.WalkKit
import Derived.OwnWalkIn
import Derived.TacticsInMore
import Derived.LoopNIn
import Derived.LoopIn
import Derived.Test.YtdbpdanocpfboaaDoorVKids
namespace Go.Proofs.YtdbpdanocpfboaaDoor
open Go.RowKit Go.Shelf
attribute [local go_sem] Oper.semAt_some

/-- two blocks stay -/
def Two (p q : Nat) (W W' : World) : Prop := W'.heap[p]? = W.heap[p]? ∧ W'.heap[q]? = W.heap[q]?
theorem Two.trans {p q : Nat} {A B C : World} (h : Two p q A B) (h' : Two p q B C) : Two p q A C := ⟨h'.1.trans h.1, h'.2.trans h.2⟩
theorem Two.refl (p q : Nat) (A : World) : Two p q A A := ⟨rfl, rfl⟩
theorem Two.cell {p q o : Nat} {A B : World} (h : Two p q A B) : B.cell? ⟨p, o, none⟩ = A.cell? ⟨p, o, none⟩ := World.cell?_of_block (w := A) (a := ⟨p, o, none⟩) h.1
theorem Two.cell2 {p q o : Nat} {A B : World} (h : Two p q A B) : B.cell? ⟨q, o, none⟩ = A.cell? ⟨q, o, none⟩ := World.cell?_of_block (w := A) (a := ⟨q, o, none⟩) h.2

/-- what comes when k are left, from the last on -/
def down (kb ko : Nat) (kl k : Nat) : List (Nat × Nat × Nat) := (List.range (kl - k)).map fun j => (kl - 1 - j, kb, ko + (kl - 1 - j) * 3)
theorem down_step (kb ko kl k : Nat) (h : k < kl) : down kb ko kl k = down kb ko kl (k + 1) ++ [(k, kb, ko + k * 3)] := by
  unfold down
  have e : kl - k = (kl - (k + 1)) + 1 := by omega
  rw [e, List.range_succ, List.map_append]
  have e2 : kl - 1 - (kl - (k + 1)) = k := by omega
  simp [e2]
theorem down_length (kb ko kl k : Nat) : (down kb ko kl k).length = kl - k := by simp [down]

set_option maxRecDepth 100000 in
set_option maxHeartbeats 2000000 in
theorem back132 (F : Fence) (n : Nat) (hF : F.fn 132) (hro : F.round = none) (hn : 1 ≤ n) (l Bs nb kb ko kl : Nat) (hkl : kl ≤ 2) (J Jx : List (Nat × Nat × Nat) → World → Prop)
    (hY : ∀ pre (x : Nat × Nat × Nat) W, J pre W → pre.length < kl → YieldAt F (n - 1) Tryd.prog l #[.int .i64 (x.1 : Int), .pointer (some ⟨x.2.1, x.2.2, none⟩)] W fun e W' =>
      (e = .returned (.bool true) ∧ J (pre ++ [x]) W' ∧ Two Bs nb W W') ∨ (e = .returned (.bool false) ∧ Jx (pre ++ [x]) W'))
    (W : World) (hBs : W.cell? ⟨Bs, 0, none⟩ = some (.slice (some ⟨nb, 0, none⟩) kl kl)) (hp : PtrsAt W nb kb ko kl) (h0 : J [] W) :
    CallsIn F n Tryd.prog 132 #[.func (.yield l) #[] #[], .pointer (some ⟨Bs, 0, none⟩)] W fun e W' => (∃ v, e = .returned v) ∧
      ((∃ ys, ys = down kb ko kl 0 ∧ J ys W') ∨ (∃ pre, True ∧ Jx pre W')) := by
  refine callsIn_of_wp Tryd.func132 rfl hF ?_ hro
  simp only [Tryd.ntmps132, List.size_toArray, List.length_cons, List.length_nil, Nat.reduceAdd, Nat.reduceSub, Array.replicate_succ, Array.replicate_zero, List.push_toArray, List.append_toArray, List.nil_append, List.cons_append]
  gi_wp2
  gi_loopw [3] (fun i wr => ∃ k : Nat, k ≤ kl ∧ i = .int .i64 ((k : Int) - 1) ∧ J (down kb ko kl k) wr ∧ Two Bs nb W wr)
    (fun i _ => (intOf i + 1).toNat)
  case atStart => exact ⟨kl, Nat.le_refl _, rfl, by simpa [down] using h0, Two.refl _ _ _⟩
  case round =>
    obtain ⟨k, hk, rfl, hJs, hnx⟩ := hrel
    have hB' := hnx.cell.trans hBs
    by_cases hlt : 0 < k
    · obtain ⟨m, rfl⟩ : ∃ m, k = m + 1 := ⟨k - 1, by omega⟩
      have hcx : wr.cell? ⟨nb, m, none⟩ = some (.pointer (some ⟨kb, ko + m * 3, none⟩)) := hnx.cell2.trans (hp m (by omega))
      obtain ⟨fn, tmps, assign, body, hy, hR⟩ := hY _ (m, kb, ko + m * 3) wr hJs (by rw [down_length]; omega)
      dsimp only at hy
      have e1 : (((m + 1 : Nat) : Int) - 1) = (m : Int) := by omega
      rw [e1]
      gi_wp2
      refine hR.mono ?_
      rintro e W3 (⟨rfl, hJ3, hk3⟩ | ⟨rfl, hJx3⟩)
      · gi_wp2
        go_roundw
        case rel => exact ⟨m, by omega, by simp, by rw [down_step kb ko kl m (by omega)]; exact hJ3, hnx.trans hk3⟩
        case measure => simp [intOf]
      · gi_wp2
        refine bodyPost_ret (results_none rfl _ _ _) rfl ?_
        exact ⟨⟨_, rfl⟩, .inr ⟨_, trivial, hJx3⟩⟩
    · obtain rfl : k = 0 := by omega
      gi_wp2
      go_end0
      exact ⟨⟨_, rfl⟩, .inl ⟨_, rfl, hJs⟩⟩

set_option maxHeartbeats 1000000 in
theorem back124 (a : Option Addr) (len cap : Nat) (w : World) :
    Calls Tryd.prog 122 #[.slice a len cap] w fun e w' => e = .returned (.func (.func 132) #[] #[.pointer (some ⟨w.heap.size, 0, none⟩)]) ∧ w' = w.alloc (.cells #[.slice a len cap] 177) := by
  go_enter Tryd.func122, Tryd.ntmps122
  go_wp2
  go_ret
  exact ⟨rfl, rfl⟩
end Go.Proofs.YtdbpdanocpfboaaDoor
