/- Walks of package nodes: what is small. -/
import Derived.Test.YtdbpdanocpfboaaDoorVKept
namespace Go.Proofs.YtdbpdanocpfboaaDoor
open Go.RowKit

set_option maxHeartbeats 400000 in
theorem leaf81 (op n : Int) (w : World) : Calls Tryd.prog 81 #[.int .i64 op, .int .i64 n] w fun e w' => e = .returned (ndV op n (-1) (-1)) ∧ Kept (fun _ => False) w w' := by
  go_enter Tryd.func81, Tryd.ntmps81
  go_wp2
  exact bodyPost_ret (v := ndV op n (-1) (-1)) (by simp [results, Tryd.results81, go_sem, ndV]) rfl ⟨rfl, by repeat (first | exact Kept.refl _ _ | apply Kept.alloc)⟩

set_option maxHeartbeats 400000 in
theorem one82 (op k : Int) (w : World) : Calls Tryd.prog 82 #[.int .i64 op, .int .i64 k] w fun e w' => e = .returned (ndV op 0 k (-1)) ∧ Kept (fun _ => False) w w' := by
  go_enter Tryd.func82, Tryd.ntmps82
  go_wp2
  exact bodyPost_ret (v := ndV op 0 k (-1)) (by simp [results, Tryd.results82, go_sem, ndV]) rfl ⟨rfl, by repeat (first | exact Kept.refl _ _ | apply Kept.alloc)⟩

set_option maxHeartbeats 400000 in
theorem two83 (op k j : Int) (w : World) : Calls Tryd.prog 83 #[.int .i64 op, .int .i64 k, .int .i64 j] w fun e w' => e = .returned (ndV op 0 k j) ∧ Kept (fun _ => False) w w' := by
  go_enter Tryd.func83, Tryd.ntmps83
  go_wp2
  exact bodyPost_ret (v := ndV op 0 k j) (by simp [results, Tryd.results83, go_sem, ndV]) rfl ⟨rfl, by repeat (first | exact Kept.refl _ _ | apply Kept.alloc)⟩

set_option maxHeartbeats 400000 in
theorem new79 (w : World) : Calls Tryd.prog 79 #[] w fun e w' => e = .returned (.pointer (some ⟨w.heap.size + 1, 0, none⟩)) ∧ w' = (w.alloc (.map #[] 0)).alloc (.cells #[.slice none 0 0, .map (some w.heap.size)] 128) := by
  have hmm := @run_makeMap Tryd.prog
  go_enter Tryd.func79, Tryd.ntmps79
  go_wp2
  go_ret
  exact ⟨rfl, rfl⟩

set_option maxHeartbeats 400000 in
theorem len50 (w : World) (L : Nat) (a : Option Addr) (n c : Nat) (h : w.cell? ⟨L, 0, none⟩ = some (.slice a n c)) : Calls Tryd.prog 50 #[.pointer (some ⟨L, 0, none⟩)] w fun e w' => e = .returned (.int .i64 n) ∧ w' = w := by
  go_enter Tryd.func50, Tryd.ntmps50
  go_wp2
  go_ret
  exact ⟨rfl, rfl⟩

set_option maxHeartbeats 400000 in
theorem at56 (w : World) (L : Nat) (g n c k : Nat) (x : Nd) (h : w.cell? ⟨L, 0, none⟩ = some (.slice (some ⟨g, 0, none⟩) n c)) (hk : k < n)
    (h0 : w.cell? ⟨g, k * 4, none⟩ = some (.int .i64 x.op)) (h1 : w.cell? ⟨g, k * 4 + 1, none⟩ = some (.int .i64 x.n)) (h2 : w.cell? ⟨g, k * 4 + 2, none⟩ = some (.int .i64 x.l)) (h3 : w.cell? ⟨g, k * 4 + 3, none⟩ = some (.int .i64 x.r)) :
    Calls Tryd.prog 61 #[.pointer (some ⟨L, 0, none⟩), .int .i64 k] w fun e w' => e = .returned x.v ∧ Kept (fun _ => False) w w' := by
  have hL := lt_of_cell h
  have hg := lt_of_cell h0
  go_enter Tryd.func61, Tryd.ntmps61
  go_wp2
  exact bodyPost_ret (v := ndV x.op x.n x.l x.r) (by simp [results, Tryd.results61, go_sem, ndV]) rfl ⟨rfl, by repeat (first | exact Kept.refl _ _ | apply Kept.alloc | apply Kept.setCell)⟩
set_option maxHeartbeats 400000 in
theorem kids63_none (w : World) (x : Nd) (h : x.l = -1) : Calls Tryd.prog 63 #[x.v] w fun e w' => e = .returned (.slice none 0 0) ∧ Kept (fun _ => False) w w' := by
  obtain ⟨op, n, l, r⟩ := x
  simp only at h; subst h
  simp only [Nd.v, ndV]
  go_enter Tryd.func63, Tryd.ntmps63
  go_wp2
  go_ret
  exact ⟨rfl, by repeat (first | exact Kept.refl _ _ | apply Kept.alloc)⟩
set_option maxHeartbeats 400000 in
theorem kids63_one (w : World) (x : Nd) (h : (x.l == -1) = false) (h' : x.r = -1) : Calls Tryd.prog 63 #[x.v] w fun e w' => ∃ b, e = .returned (.slice (some ⟨b, 0, none⟩) 1 1) ∧ w.heap.size ≤ b ∧ w'.cell? ⟨b, 0, none⟩ = some (.int .i64 x.l) ∧ Kept (fun _ => False) w w' := by
  obtain ⟨op, n, l, r⟩ := x
  simp only at h h'; subst h'
  simp only [Nd.v, ndV]
  go_enter Tryd.func63, Tryd.ntmps63
  go_wp2
  go_ret
  exact ⟨w.heap.size + 1, rfl, by omega, by simp, by repeat (first | exact Kept.refl _ _ | apply Kept.alloc)⟩
set_option maxHeartbeats 400000 in
theorem kids63_two (w : World) (x : Nd) (h : (x.l == -1) = false) (h' : (x.r == -1) = false) : Calls Tryd.prog 63 #[x.v] w fun e w' => ∃ b, e = .returned (.slice (some ⟨b, 0, none⟩) 2 2) ∧ w.heap.size ≤ b ∧ w'.cell? ⟨b, 0, none⟩ = some (.int .i64 x.l) ∧ w'.cell? ⟨b, 1, none⟩ = some (.int .i64 x.r) ∧ Kept (fun _ => False) w w' := by
  obtain ⟨op, n, l, r⟩ := x
  simp only at h h'
  simp only [Nd.v, ndV]
  go_enter Tryd.func63, Tryd.ntmps63
  go_wp2
  go_ret
  exact ⟨w.heap.size + 1, rfl, by omega, by simp, by simp, by repeat (first | exact Kept.refl _ _ | apply Kept.alloc)⟩
end Go.Proofs.YtdbpdanocpfboaaDoor
