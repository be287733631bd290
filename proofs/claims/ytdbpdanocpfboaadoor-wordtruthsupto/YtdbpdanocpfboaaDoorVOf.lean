/- Walks of package nodes: Of. -/
import Derived.Test.YtdbpdanocpfboaaDoorVWalk
namespace Go.Proofs.YtdbpdanocpfboaaDoor
open Go.RowKit

/-- the value v is the Form t; all that it leads to lies below block B -/
def FormV (B : Nat) (w : World) (v : Value) : Tr → Prop
  | .mk op n kids => ∃ ka kb ko kc, v = .agg #[.int .i64 op, .int .i64 n, .slice ka kids.length kc] ∧ (0 < kids.length → ka = some ⟨kb, ko, none⟩) ∧ FormsAt B w kb ko kids

theorem FormV.below {B : Nat} {w w' : World} {v : Value} {t : Tr} (h : FormV B w v t) (hb : Below B w w') : FormV B w' v t := by
  cases t with
  | mk op n kids =>
    obtain ⟨ka, kb, ko, kc, e, h1, h2⟩ := h
    exact ⟨ka, kb, ko, kc, e, h1, FormsAt.below hb h2⟩
theorem FormV.mono {B B' : Nat} {w : World} {v : Value} {t : Tr} (h : FormV B w v t) (hB : B ≤ B') : FormV B' w v t := by
  cases t with
  | mk op n kids =>
    obtain ⟨ka, kb, ko, kc, e, h1, h2⟩ := h
    exact ⟨ka, kb, ko, kc, e, h1, FormsAt.mono hB h2⟩

theorem push4 {α : Type} (h : Array α) (a b c d : α) : ((((h.push a).push b).push c).push d)[h.size]? = some a ∧ ((((h.push a).push b).push c).push d)[h.size + 1]? = some b ∧ ((((h.push a).push b).push c).push d)[h.size + 1 + 1]? = some c ∧ ((((h.push a).push b).push c).push d)[h.size + 1 + 1 + 1]? = some d := by
  refine ⟨?_, ?_, ?_, ?_⟩
  · rw [Array.getElem?_push, if_neg (by simp only [Array.size_push]; omega), Array.getElem?_push, if_neg (by simp only [Array.size_push]; omega), Array.getElem?_push, if_neg (by simp only [Array.size_push]; omega), Array.getElem?_push, if_pos rfl]
  · rw [Array.getElem?_push, if_neg (by simp only [Array.size_push]; omega), Array.getElem?_push, if_neg (by simp only [Array.size_push]; omega), Array.getElem?_push, if_pos (by simp only [Array.size_push])]
  · rw [Array.getElem?_push, if_neg (by simp only [Array.size_push]; omega), Array.getElem?_push, if_pos (by simp only [Array.size_push])]
  · rw [Array.getElem?_push, if_pos (by simp only [Array.size_push])]

set_option maxRecDepth 100000 in
set_option maxHeartbeats 2000000 in
theorem of49 (w : World) (B : Nat) (v : Value) (t : Tr) (hv : FormV B w v t) (hB : B ≤ w.heap.size) (hT : TabK w) (hB2 : 2 ≤ B) (hsz : t.size ≤ 268435456) :
    Calls Tryd.prog 49 #[v] w fun e w' => Kept (fun _ => False) w w' ∧ ((¬ t.well ∧ e = .returned (.tuple #[.pointer none, .bool false])) ∨
      (t.well ∧ ∃ L bm nv ns, e = .returned (.tuple #[.pointer (some ⟨L, 0, none⟩), .bool true]) ∧ LIn w' (w.heap.size + 1) L bm nv ns ∧ Den ns ((ns.length : Int) - 1) t ∧ Ord ns ∧ ns.length ≤ 2 * t.size)) := by
  obtain ⟨op, n, kids⟩ := t
  obtain ⟨ka, kb, ko, kc, rfl, hka, hkF⟩ := hv
  go_enter Tryd.func49, Tryd.ntmps49
  go_wp2_with (go_at_call 79; refine (new79 _).mono ?_; rintro e w' ⟨rfl, rfl⟩)
  generalize hW : ((((w.alloc (.cells #[.int .i64 op, .int .i64 n, .slice ka kids.length kc] 24)).alloc (.map #[] 0)).alloc (.cells #[.slice none 0 0, .map (some (w.heap.size + 1))] 128)).alloc (.cells #[.pointer (some ⟨w.heap.size + 1 + 1, 0, none⟩)] 80)) = W
  have hh : W.heap = (((w.heap.push (.cells #[.int .i64 op, .int .i64 n, .slice ka kids.length kc] 24)).push (.map #[] 0)).push (.cells #[.slice none 0 0, .map (some (w.heap.size + 1))] 128)).push (.cells #[.pointer (some ⟨w.heap.size + 1 + 1, 0, none⟩)] 80) := by subst hW; rfl
  have hk : Kept (fun _ => False) w W := by subst hW; exact ((((Kept.refl _ _).alloc _).alloc _).alloc _).alloc _
  have g0 : W.heap[w.heap.size]? = some (.cells #[.int .i64 op, .int .i64 n, .slice ka kids.length kc] 24 (0, 0)) := by rw [hh]; exact (push4 _ _ _ _ _).1
  have g1 : W.heap[w.heap.size + 1]? = some (.map #[] 0) := by rw [hh]; exact (push4 _ _ _ _ _).2.1
  have g2 : W.heap[w.heap.size + 1 + 1]? = some (.cells #[.slice none 0 0, .map (some (w.heap.size + 1))] 128 (0, 0)) := by rw [hh]; exact (push4 _ _ _ _ _).2.2.1
  have g3 : W.heap[w.heap.size + 1 + 1 + 1]? = some (.cells #[.pointer (some ⟨w.heap.size + 1 + 1, 0, none⟩)] 80 (0, 0)) := by rw [hh]; exact (push4 _ _ _ _ _).2.2.2
  have hs : W.heap.size = w.heap.size + 4 := by rw [hh]; simp
  clear hh hW
  have hlw : ∀ j, j < 12 → 1 < w.heap.size := fun j hj => lt_of_cell (hT j hj)
  have hL : LIn W (w.heap.size + 1) (w.heap.size + 1 + 1) (w.heap.size + 1) (.slice none 0 0) [] :=
    { c0 := by simp [World.cell?, g2]
      c1 := by simp [World.cell?, g2]
      f0 := by simp [World.frozen?, g2]
      own := World.ownsRow_nil _ _ _ _
      map := ⟨fun _ => none, ⟨#[], 0, g1, by simp, by simp, by simp, by simp⟩, fun x => by simp [numOf]⟩
      sepL := by simp [Value.ownBlock]
      sepM := by simp [Value.ownBlock]
      bL := by omega
      bM := by omega
      len := by simp }
  have hB1 : Below B w W := hk.below hB (fun _ f => f.elim)
  have hF : FormAt (w.heap.size + 1) W w.heap.size 0 (.mk op n kids) :=
    ⟨by omega, ⟨_, _, g0⟩, by simp [World.cell?, g0], by simp [World.cell?, g0], ka, kb, ko, kc, by simp [World.cell?, g0], hka, FormsAt.mono (by omega) (FormsAt.below hB1 hkF)⟩
  have hTW : TabK W := fun j hj => (hk.cell (p := ⟨1, j, none⟩) (hlw j hj) (fun f => f)).trans (hT j hj)
  have hbx : W.cell? ⟨w.heap.size + 1 + 1 + 1, 0, none⟩ = some (.pointer (some ⟨w.heap.size + 1 + 1, 0, none⟩)) := by simp [World.cell?, g3]
  refine (walk85 W (w.heap.size + 1) (w.heap.size + 1 + 1) (w.heap.size + 1) (.slice none 0 0) (w.heap.size + 1 + 1 + 1) w.heap.size 0 (.mk op n kids) [] hL rfl hbx (by omega) (by omega) (by simp [Value.ownBlock]) (by omega) hTW (by omega) hF hsz).mono ?_
  rintro e w' ⟨hk2, hres⟩
  have hk3 : Kept (fun _ => False) w w' := hk.trans hk2 (fun k hk' e => by
    rcases e with e | e | e
    · omega
    · omega
    · cases e)
  rcases hres with ⟨hnw, rfl⟩ | ⟨hw, rfl, nv, ns, h1, h2, h3, h4, h5⟩
  · go_wp2
    go_ret2
    exact ⟨hk3, .inl ⟨hnw, rfl⟩⟩
  · have hbx2 : w'.cell? ⟨w.heap.size + 1 + 1 + 1, 0, none⟩ = some (.pointer (some ⟨w.heap.size + 1 + 1, 0, none⟩)) := (hk2.cell (p := ⟨w.heap.size + 1 + 1 + 1, 0, none⟩) (by simp; omega) (fun e => by
      rcases e with e | e | e
      · have e' : w.heap.size + 1 + 1 + 1 = w.heap.size + 1 + 1 := e
        omega
      · have e' : w.heap.size + 1 + 1 + 1 = w.heap.size + 1 := e
        omega
      · cases e)).trans hbx
    go_wp2
    go_ret2
    exact ⟨hk3, .inr ⟨hw, _, _, nv, ns, rfl, h1, h3, h4, h5⟩⟩
end Go.Proofs.YtdbpdanocpfboaaDoor
