/- A region that draws its order, by what holds whatever has come up. -/
import Derived.Test.YtdbpdanocpfboaaDoorVRef3
namespace Go.Proofs.YtdbpdanocpfboaaDoor
open Go.RowKit

def cntF (L : Array Bool) : Nat := L.toList.count false
theorem cntF_set {L : Array Bool} {i : Nat} (h : L.getD i true = false) : cntF (L.setIfInBounds i true) + 1 = cntF L := by
  have hi : i < L.size := by
    by_cases hi : i < L.size
    · exact hi
    · simp [hi] at h
  have hv : L.toList[i]'(by simpa using hi) = false := by simpa [hi] using h
  unfold cntF
  rw [Array.toList_setIfInBounds, List.count_set (by simpa using hi)]
  simp only [hv]
  have : 0 < L.toList.count false := by
    rw [List.count_pos_iff]
    exact List.mem_iff_getElem.2 ⟨i, by simpa using hi, hv⟩
  have e1 : (true == false) = false := rfl
  simp only [beq_self_eq_true, if_true, e1]
  simp only [Bool.false_eq_true, if_false]
  omega

theorem wpAny_inv {P : Program} {md : Region.Mode} {ops : Array Oper} {Q : Exit → Act → World → Prop} (I : Array Bool → Act → World → Prop)
    (hend : ∀ L a w, I L a w → Region.ready md ops L = [] → Q .normal a w)
    (hstep : ∀ L a w, I L a w → ∀ i, i ∈ Region.ready md ops L → ∀ K : Act → World → Prop, (∀ a' w', I (L.setIfInBounds i true) a' w' → K a' w') → ∀ o, ops[i]? = some o → if Region.wanted o (yielded ops a.tmps) then o.wp P a w K Q else K (a.put o.dst undef) w) :
    ∀ (fuel : Nat) (L : Array Bool) (a : Act) (w : World), I L a w → cntF L = fuel → wpAny P md ops Q fuel L a w := by
  intro fuel
  induction fuel with
  | zero =>
    intro L a w hI hc
    have hr : Region.ready md ops L = [] := by
      cases hr : Region.ready md ops L with
      | nil => rfl
      | cons i r =>
        have hi : i ∈ Region.ready md ops L := by rw [hr]; simp
        have := cntF_set (mem_ready.1 hi).1
        omega
    exact ⟨hr, hend L a w hI hr⟩
  | succ fuel ih =>
    intro L a w hI hc
    refine ⟨fun h0 => hend L a w hI h0, fun i hi => ?_⟩
    obtain ⟨hL, o, ho, _⟩ := mem_ready.1 hi
    have h := hstep L a w hI i hi (wpAny P md ops Q fuel (L.setIfInBounds i true)) (fun a' w' h' => ih _ a' w' h' (by have := cntF_set hL; omega)) o ho
    unfold wpOp
    simp only [ho]
    split
    · rename_i hw
      rw [if_pos hw] at h
      exact .inl h
    · rename_i hw
      rw [if_neg hw] at h
      exact h

theorem IntsV.setS {B : Nat} {w : World} {v : Value} {xs : List Int} (h : IntsV B w v xs) {p : Addr} {x : Value} (hp : w.cell? p = some x) (hx : ∀ n, x ≠ .int .i64 n) (u : Value) : IntsV B (w.setCell p u) v xs := by
  obtain ⟨a, cap, rfl, hc, hc2, hh⟩ := h
  refine ⟨a, cap, rfl, hc, hc2, fun i y hi => ?_⟩
  obtain ⟨b, off, rfl, hB, hcell⟩ := hh i y hi
  refine ⟨b, off, rfl, hB, ?_⟩
  rw [World.cell?_setCell_other _ _ _ _ (fun e => ?_)]
  · exact hcell
  · subst e
    rw [hp] at hcell
    exact hx y (Option.some.inj hcell)
theorem WordV.setS {B : Nat} {w : World} {v : Value} {hd lp : List Int} (h : WordV B w v hd lp) {p : Addr} {x : Value} (hp : w.cell? p = some x) (hx : ∀ n, x ≠ .int .i64 n) (u : Value) : WordV B (w.setCell p u) v hd lp := by
  obtain ⟨hv, lv, e, h1, h2⟩ := h
  exact ⟨hv, lv, e, h1.setS hp hx u, h2.setS hp hx u⟩
theorem WordV.new {w w' : World} {v : Value} {hd lp : List Int} (h : WordV w.heap.size w v hd lp) (hk : Kept (fun _ => False) w w') : WordV w'.heap.size w' v hd lp := (h.kept hk (Nat.le_refl _)).mono hk.size
theorem Box2.other {w : World} {b : Nat} {u v : Value} (h : Box2 w b u v) {p : Addr} (hp : p.block ≠ b) (x : Value) : Box2 (w.setCell p x) b u v := by
  obtain ⟨h1, h2, h3, h4, h5⟩ := h
  have hb : (w.setCell p x).heap[b]? = w.heap[b]? := Below.heap_setCell _ _ _ _ (fun e => hp e.symm)
  refine ⟨Nat.lt_of_lt_of_le h1 (by simp [World.setCell]), ?_, ?_, ?_, ?_⟩
  · rw [World.cell?_of_block (w := w) (a := ⟨b, 0, none⟩) hb]; exact h2
  · rw [World.cell?_of_block (w := w) (a := ⟨b, 1, none⟩) hb]; exact h3
  · rw [World.frozen?_of_block (w := w) (a := ⟨b, 0, none⟩) hb]; exact h4
  · rw [World.frozen?_of_block (w := w) (a := ⟨b, 1, none⟩) hb]; exact h5
theorem Box2.store {w : World} {b : Nat} {u v : Value} (h : Box2 w b u v) (x y : Value) : Box2 ((w.setCell ⟨b, 0, none⟩ x).setCell ⟨b, 1, none⟩ y) b x y := by
  obtain ⟨h1, h2, h3, h4, h5⟩ := h
  refine ⟨Nat.lt_of_lt_of_le h1 (by simp [World.setCell]), ?_, ?_, ?_, ?_⟩ <;> simp [go_sem, h2, h3, h4, h5]
end Go.Proofs.YtdbpdanocpfboaaDoor
