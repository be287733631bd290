/- What is left of a word from a place on. -/
import Derived.Test.YtdbpdanocpfboaaDoorVSat
namespace Go.Proofs.YtdbpdanocpfboaaDoor
open Go.RowKit

theorem wAt_drop (hd lp : List Int) (i m : Nat) (hi : i ≤ hd.length) : wAt (hd.drop i) lp m = wAt hd lp (i + m) := by
  unfold wAt
  rw [List.length_drop]
  by_cases h : m < hd.length - i
  · rw [if_pos h, if_pos (by omega), List.getD_eq_getElem?_getD, List.getElem?_drop, List.getD_eq_getElem?_getD]
  · rw [if_neg h, if_neg (by omega), show i + m - hd.length = m - (hd.length - i) by omega]
theorem wAt_turn (hd lp : List Int) (k m : Nat) (hk : k < lp.length) : wAt [] (lp.drop k ++ lp.take k) m = wAt hd lp (hd.length + k + m) := by
  have hl : (lp.drop k ++ lp.take k).length = lp.length := by rw [List.length_append, List.length_drop, List.length_take]; omega
  unfold wAt
  rw [if_neg (by simp), if_neg (by omega), hl, List.length_nil, Nat.sub_zero, show hd.length + k + m - hd.length = m + k by omega]
  have hq := Nat.mod_lt m (show 0 < lp.length by omega)
  have e : (m + k) % lp.length = (m % lp.length + k) % lp.length := by rw [Nat.mod_add_mod]
  rw [e]
  generalize m % lp.length = r at *
  rw [List.getD_eq_getElem?_getD, List.getD_eq_getElem?_getD]
  by_cases h : r + k < lp.length
  · rw [Nat.mod_eq_of_lt h, List.getElem?_append_left (by rw [List.length_drop]; omega), List.getElem?_drop, Nat.add_comm]
  · rw [Nat.mod_eq_sub_mod (by omega), Nat.mod_eq_of_lt (by omega), List.getElem?_append_right (by rw [List.length_drop]; omega), List.length_drop, List.getElem?_take_of_lt (by omega), show r - (lp.length - k) = r + k - lp.length by omega]
/-- what is true at a place is true at the beginning of what is left from there on -/
theorem sat_left {hd lp hd' lp' : List Int} {t : Tr} {i : Nat} (h : ∀ m, wAt hd' lp' m = wAt hd lp (i + m)) : satT (wAt hd' lp') t 0 ↔ satT (wAt hd lp) t i := satT_shift (k := i) h t 0
theorem head_left {hd lp hd' lp' : List Int} {t : Tr} {i : Nat} (ht : t.well) (hl : 0 < lp.length) (hl' : 0 < lp'.length) (hi : i < hd.length + lp.length) (h : ∀ m, wAt hd' lp' m = wAt hd lp (i + m)) :
    (tvT (hd' ++ lp') hd'.length t).headD false = (tvT (hd ++ lp) hd.length t).getD i false := by
  rw [Bool.eq_iff_iff, tv_head hl' ht, tv_sat hl ht i hi]
  exact sat_left h
theorem good_drop {hd lp : List Int} (hg : goodW hd lp = true) (i : Nat) : goodW (hd.drop i) lp = true := by
  simp only [goodW, Bool.and_eq_true, List.all_eq_true, decide_eq_true_eq] at hg ⊢
  exact ⟨⟨hg.1.1, by rw [List.length_drop]; omega⟩, fun x hx => hg.2.1 x (List.mem_of_mem_drop hx), hg.2.2⟩
theorem good_turn {hd lp : List Int} (hg : goodW hd lp = true) (k : Nat) : goodW [] (lp.drop k ++ lp.take k) = true := by
  have hl : (lp.drop k ++ lp.take k).length = lp.length := by rw [List.length_append, List.length_drop, List.length_take]; omega
  have hlen := goodW_len hg
  simp only [goodW, Bool.and_eq_true, List.all_eq_true, decide_eq_true_eq] at hg ⊢
  refine ⟨⟨?_, by rw [hl, List.length_nil]; omega⟩, fun x hx => by simp at hx, fun x hx => ?_⟩
  · cases h : lp.drop k ++ lp.take k with
    | nil => rw [h] at hl; simp at hl; omega
    | cons => rfl
  · rcases List.mem_append.1 hx with h | h
    · exact hg.2.2 x (List.mem_of_mem_drop h)
    · exact hg.2.2 x (List.mem_of_mem_take h)
end Go.Proofs.YtdbpdanocpfboaaDoor
