import Derived.Test.YtdbpdanocpfboabGreatDoorZBun03
import Derived.Lib.Split
import Derived.Lib.FieldsP
import Derived.Lib.TrimUEq
import Derived.Lib.MapLaws
/- A text cut at a byte: the library's Split and FieldsFunc, and the document's cut. -/
namespace Go.Proofs.YtdbpdanocpfboabGreatDoor
open Go.RowKit

abbrev dl (s : ByteArray) : List UInt8 := s.data.toList
theorem dl_inj {a b : ByteArray} (h : dl a = dl b) : a = b := by
  cases a; cases b
  simp only [dl] at h
  congr
  exact Array.toList_inj.1 h
/-- a list of bytes cut at a byte -/
def pcs (c : UInt8) : List UInt8 → List (List UInt8)
  | [] => [[]]
  | x :: r => if x = c then [] :: pcs c r else (x :: (pcs c r).headD []) :: (pcs c r).tail
theorem pcs_ne (c : UInt8) : ∀ l, pcs c l ≠ []
  | [] => by simp [pcs]
  | x :: r => by unfold pcs; split <;> simp
theorem pcs_cons_ne {c x : UInt8} (h : x ≠ c) {l a : List UInt8} {t : List (List UInt8)} (e : pcs c l = a :: t) : pcs c (x :: l) = (x :: a) :: t := by
  rw [pcs, if_neg h, e]; rfl
theorem pcs_cons_eq (c : UInt8) (l : List UInt8) : pcs c (c :: l) = [] :: pcs c l := by rw [pcs, if_pos rfl]
theorem pcs_none {c : UInt8} : ∀ {a : List UInt8}, c ∉ a → pcs c a = [a]
  | [], _ => rfl
  | x :: r, h => pcs_cons_ne (fun e => h (by simp [e])) (pcs_none (fun h' => h (List.mem_cons_of_mem _ h')))
theorem pcs_app {c : UInt8} {b : List UInt8} : ∀ {a : List UInt8}, c ∉ a → pcs c (a ++ c :: b) = a :: pcs c b
  | [], _ => pcs_cons_eq c b
  | x :: r, h => pcs_cons_ne (fun e => h (by simp [e])) (pcs_app (fun h' => h (List.mem_cons_of_mem _ h')))
theorem pcs_last (c : UInt8) : ∀ l : List UInt8, pcs c (l ++ [c]) = pcs c l ++ [[]]
  | [] => by simp [pcs]
  | x :: r => by
    by_cases h : x = c
    · subst h
      rw [List.cons_append, pcs_cons_eq, pcs_cons_eq, pcs_last, List.cons_append]
    · obtain ⟨a, t, e⟩ := List.exists_cons_of_ne_nil (pcs_ne c r)
      have e2 := pcs_last c r
      rw [e, List.cons_append] at e2
      rw [List.cons_append, pcs_cons_ne h e2, pcs_cons_ne h e, List.cons_append]
theorem pcs_more {c x : UInt8} (h : x ≠ c) : ∀ {l : List UInt8} {f : List (List UInt8)} {a : List UInt8}, pcs c l = f ++ [a] → pcs c (l ++ [x]) = f ++ [a ++ [x]]
  | [], f, a, e => by
    cases f with
    | nil =>
      simp only [pcs, List.nil_append, List.cons.injEq, and_true] at e
      subst e
      rw [List.nil_append, pcs_none (by simp; exact fun e => h e.symm)]
      rfl
    | cons y f => simp [pcs] at e
  | y :: r, f, a, e => by
    by_cases hy : y = c
    · subst hy
      rw [pcs_cons_eq] at e
      cases f with
      | nil =>
        simp only [List.nil_append, List.cons.injEq] at e
        exact absurd e.2 (pcs_ne _ _)
      | cons z f =>
        rw [List.cons_append, List.cons.injEq] at e
        rw [List.cons_append, pcs_cons_eq, pcs_more h e.2, ← e.1, List.cons_append]
    · obtain ⟨b, t, e2⟩ := List.exists_cons_of_ne_nil (pcs_ne c r)
      rw [pcs_cons_ne hy e2] at e
      cases f with
      | nil =>
        simp only [List.nil_append, List.cons.injEq] at e
        obtain ⟨rfl, rfl⟩ := e
        rw [List.cons_append, pcs_cons_ne hy (pcs_more h (f := []) (a := b) e2 : pcs c (r ++ [x]) = (b ++ [x]) :: [])]
        rfl
      | cons z f =>
        rw [List.cons_append, List.cons.injEq] at e
        obtain ⟨rfl, rfl⟩ := e
        rw [List.cons_append, pcs_cons_ne hy (pcs_more h (f := b :: f) (a := a) e2 : pcs c (r ++ [x]) = b :: (f ++ [a ++ [x]]))]
        rfl
theorem pcs_len (c : UInt8) : ∀ l : List UInt8, ((pcs c l).map (fun x => x.length + 1)).sum = l.length + 1
  | [] => rfl
  | x :: r => by
    have := pcs_len c r
    by_cases h : x = c
    · subst h
      rw [pcs_cons_eq, List.map_cons, List.sum_cons, this]
      simp; omega
    · obtain ⟨a, t, e⟩ := List.exists_cons_of_ne_nil (pcs_ne c r)
      rw [e, List.map_cons, List.sum_cons] at this
      rw [pcs_cons_ne h e, List.map_cons, List.sum_cons]
      simp only [List.length_cons]
      omega
theorem sum_filter_le {α : Type} (f : α → Nat) (p : α → Bool) : ∀ l : List α, ((l.filter p).map f).sum ≤ (l.map f).sum
  | [] => by simp
  | x :: r => by
    have := sum_filter_le f p r
    rw [List.filter_cons]
    split
    · simp only [List.map_cons, List.sum_cons]; omega
    · simp only [List.map_cons, List.sum_cons]; omega

/-! the document's cut -/
theorem dl_extract (s : ByteArray) (a b : Nat) : dl (s.extract a b) = ((dl s).take b).drop a := by
  rw [dl, Lib.extract_data, List.drop_take]
theorem byteN_at {s : ByteArray} {k : Nat} (hk : k < s.size) : ∃ x, (dl s)[k]? = some x ∧ byteN s k = x.toNat := by
  have : k < s.data.size := hk
  refine ⟨s.data[k], ?_, ?_⟩
  · simp [dl]
  · rw [byteN, Array.getD, dif_pos this]; rfl
theorem take_one {α : Type} {l : List α} {k : Nat} {x : α} (h : l[k]? = some x) : l.take (k + 1) = l.take k ++ [x] := by rw [List.take_add_one, h]; rfl
theorem cutSt_pcs (s : ByteArray) (c : UInt8) : ∀ k, k ≤ s.size → pcs c ((dl s).take k) = (cutSt s c.toNat k).2.map dl ++ [((dl s).take k).drop (cutSt s c.toNat k).1]
  | 0, _ => by simp [cutSt, pcs]
  | k + 1, hk => by
    have ih := cutSt_pcs s c k (by omega)
    obtain ⟨x, hx, hb⟩ := byteN_at (s := s) (k := k) (by omega)
    have hle := (cutSt_le s c.toNat k).1
    have hlen : ((dl s).take k).length = k := by
      have := (List.getElem?_eq_some_iff.1 hx).1
      rw [List.length_take]; omega
    rw [take_one hx]
    unfold cutSt
    by_cases hc : x = c
    · subst hc
      rw [if_pos (.inr hb), pcs_last, ih, List.map_append, List.map_singleton, dl_extract]
      congr 1
      rw [List.drop_eq_nil_of_le (by simp [hlen])]
    · rw [if_neg (by rw [hb]; rintro (h | h); · omega
                     · exact hc (UInt8.toNat_inj.1 h)), pcs_more hc ih, List.drop_append_of_le_length (by omega)]
theorem cutL_pcs (s : ByteArray) (c : UInt8) : (cutL s c.toNat).map dl = pcs c (dl s) := by
  have h := cutSt_pcs s c s.size (Nat.le_refl _)
  have hl : (dl s).take s.size = dl s := List.take_of_length_le (by simp [dl])
  rw [hl] at h
  rw [cutL, cutSt, if_pos (.inl rfl), List.map_append, List.map_singleton, dl_extract, hl, h]
theorem wordsL_pcs (s : ByteArray) : (wordsL s).map dl = (pcs 32 (dl s)).filter (fun x => decide (x ≠ [])) := by
  have h : (cutL s 32).map dl = pcs 32 (dl s) := cutL_pcs s 32
  rw [← h, wordsL, List.filter_map]
  congr 1
  apply List.filter_congr
  intro x _
  simp only [Function.comp]
  congr 1
  have : x = ⟨#[]⟩ ↔ dl x = [] := ⟨fun e => by rw [e], fun e => dl_inj (by rw [e])⟩
  rw [eq_iff_iff, ne_eq, ne_eq, this]
theorem map_dl_inj {a b : List ByteArray} (h : a.map dl = b.map dl) : a = b := by
  apply List.ext_getElem
  · simpa using congrArg List.length h
  · intro i h1 h2
    have := congrArg (fun l => l[i]?) h
    simp only [List.getElem?_map, List.getElem?_eq_getElem h1, List.getElem?_eq_getElem h2, Option.map_some, Option.some.injEq] at this
    exact dl_inj this

/-! strings.Split at one byte -/
theorem occ_one (s : List UInt8) (c : UInt8) (i : Nat) : Lib.occAt s [c] i = true ↔ s[i]? = some c := by
  rw [Lib.occAt]
  cases h : s.drop i with
  | nil =>
    have : s.length ≤ i := List.drop_eq_nil_iff.1 h
    simp [this]
  | cons y t =>
    have hy : s[i]? = some y := by
      have := congrArg (fun l => l[0]?) h
      simpa using this
    rw [hy]
    simp [List.isPrefixOf]
    exact eq_comm
theorem splitK_pcs (c : UInt8) : ∀ (k : Nat) (s : List UInt8), Lib.count s [c] = k → Lib.splitK [c] 0 k s = pcs c s
  | k, s, hk => by
    rcases Lib.index_spec s [c] with ⟨hi, hn⟩ | ⟨i, hi, hl, ho, hlt⟩
    · have : c ∉ s := fun hm => by
        obtain ⟨j, hj, e⟩ := List.mem_iff_getElem.1 hm
        have h2 := hn j (by omega)
        rw [Bool.eq_false_iff] at h2
        exact h2 ((occ_one s c j).2 (by rw [List.getElem?_eq_getElem hj, e]))
      rw [pcs_none this]
      cases k with
      | zero => rfl
      | succ k => rw [Lib.splitK, if_pos (by rw [hi]; rfl)]
    · have h1 := Lib.count_hit (sub := [c]) (by simp) hi
      have hio := (occ_one s c i).1 ho
      have hil := (List.getElem?_eq_some_iff.1 hio).1
      cases k with
      | zero => omega
      | succ k =>
        rw [Lib.splitK, if_neg (by rw [hi]; simp), hi]
        have ih := splitK_pcs c k (s.drop (i + 1)) (by simp only [List.length_singleton] at h1; omega)
        have hsp : s = s.take i ++ c :: s.drop (i + 1) := by
          have := List.take_append_drop (i + 1) s
          rw [take_one hio, List.append_assoc] at this
          exact this.symm
        have hni : c ∉ s.take i := fun hm => by
          obtain ⟨j, hj, e⟩ := List.mem_iff_getElem.1 hm
          rw [List.length_take] at hj
          have h2 := hlt j (by omega)
          rw [Bool.eq_false_iff] at h2
          rw [List.getElem_take] at e
          exact h2 ((occ_one s c j).2 (by rw [List.getElem?_eq_getElem (by omega), e]))
        rw [show ((i : Int)).toNat = i from rfl, Nat.add_zero, List.length_singleton, ih]
        conv => rhs; rw [hsp]
        rw [pcs_app hni]
theorem split_cutL (s : ByteArray) (c : UInt8) : Lib.splitB ⟨#[c]⟩ 0 (Lib.countB s ⟨#[c]⟩) s = cutL s c.toNat := by
  apply map_dl_inj
  rw [cutL_pcs]
  exact (Lib.splitB_data _ _ _ _).trans (splitK_pcs c _ _ rfl)

/-! strings.FieldsFunc at blanks -/
def blankP (x : Nat) : Bool := decide (x = 32)
def ne0 (x : List UInt8) : Bool := decide (x ≠ [])
/-- what a rune's bytes are: a blank alone, or no blank at all -/
theorem dec_blank (s : ByteArray) (pos : Nat) (h : pos < s.size) :
    (blankP (Utf8.decode s pos).1 = true ∧ (Utf8.decode s pos).2 = 1 ∧ (dl s)[pos]? = some 32) ∨
    (blankP (Utf8.decode s pos).1 = false ∧ 1 ≤ (Utf8.decode s pos).2 ∧ pos + (Utf8.decode s pos).2 ≤ s.size ∧ ∀ j, pos ≤ j → j < pos + (Utf8.decode s pos).2 → (dl s)[j]? ≠ some 32) := by
  have hs : (dl s).length = s.size := by simp [dl]
  have hg : ∀ j, j < s.size → (dl s)[j]? = some ((dl s).getD j 0) := fun j hj => by
    have : j < (dl s).length := by omega
    rw [List.getD_eq_getElem?_getD, List.getElem?_eq_getElem this]; rfl
  have hne : ∀ j, 128 ≤ ((dl s).getD j 0).toNat → j < s.size → (dl s)[j]? ≠ some 32 := fun j hj hl e => by
    rw [hg j hl] at e
    injection e with e
    rw [e] at hj
    revert hj; decide
  rw [Lib.decode_N]
  change _ ∨ _
  generalize h0 : ((dl s).getD pos 0).toNat = b0
  generalize h1 : ((dl s).getD (pos + 1) 0).toNat = b1
  generalize h2 : ((dl s).getD (pos + 2) 0).toNat = b2
  generalize h3 : ((dl s).getD (pos + 3) 0).toNat = b3
  have hlen : s.data.toList.length = s.size := hs
  rw [hlen]
  by_cases ha : b0 < 128
  · rw [Lib.decodeN_ascii _ _ _ _ _ ha]
    by_cases hb : b0 = 32
    · left
      refine ⟨by simp [blankP, hb], rfl, ?_⟩
      rw [hg pos h]
      congr 1
      apply UInt8.toNat_inj.1
      rw [h0, hb]; rfl
    · right
      refine ⟨by simp [blankP, hb], Nat.le_refl _, h, fun j h1 h2 e => ?_⟩
      obtain rfl : j = pos := by simp only at h2; omega
      rw [hg j h] at e
      injection e with e
      rw [e] at h0
      exact hb (h0.symm.trans rfl)
  · right
    rcases Lib.decodeN_shape (s.size - pos) b0 b1 b2 b3 with ⟨hh, _⟩ | ⟨_, hn, c1, hv, e⟩ | ⟨_, hn, c1, c2, hv, _, e⟩ | ⟨_, hn, c1, c2, c3, hv, _, e⟩ | e
    · exact absurd hh ha
    · rw [e]
      refine ⟨by simp [blankP]; omega, by simp, by simp only; omega, fun j h4 h5 => hne j ?_ (by simp only at h5; omega)⟩
      simp only at h5
      rcases (by omega : j = pos ∨ j = pos + 1) with rfl | rfl <;> omega
    · rw [e]
      refine ⟨by simp [blankP]; omega, by simp, by simp only; omega, fun j h4 h5 => hne j ?_ (by simp only at h5; omega)⟩
      simp only at h5
      rcases (by omega : j = pos ∨ j = pos + 1 ∨ j = pos + 2) with rfl | rfl | rfl <;> omega
    · rw [e]
      refine ⟨by simp [blankP]; omega, by simp, by simp only; omega, fun j h4 h5 => hne j ?_ (by simp only at h5; omega)⟩
      simp only at h5
      rcases (by omega : j = pos ∨ j = pos + 1 ∨ j = pos + 2 ∨ j = pos + 3) with rfl | rfl | rfl | rfl <;> omega
    · rw [e]
      refine ⟨by simp [blankP], by simp, by simp only; omega, fun j h4 h5 => hne j ?_ (by simp only at h5; omega)⟩
      simp only at h5
      obtain rfl : j = pos := by omega
      omega
/-- more bytes that are no blanks -/
theorem pcs_run (s : ByteArray) (pos : Nat) {f : List (List UInt8)} {a : List UInt8} (e : pcs 32 ((dl s).take pos) = f ++ [a]) :
    ∀ n, pos + n ≤ s.size → (∀ j, pos ≤ j → j < pos + n → (dl s)[j]? ≠ some 32) → pcs 32 ((dl s).take (pos + n)) = f ++ [a ++ ((dl s).take (pos + n)).drop pos]
  | 0, hn, _ => by
    rw [Nat.add_zero, e, List.drop_eq_nil_of_le (by rw [List.length_take]; omega), List.append_nil]
  | n + 1, hn, h => by
    have ih := pcs_run s pos e n (by omega) (fun j h1 h2 => h j h1 (by omega))
    have hl : pos + n < (dl s).length := by simp [dl]; omega
    have hx : (dl s)[pos + n]? = some (dl s)[pos + n] := List.getElem?_eq_getElem hl
    have hne : (dl s)[pos + n] ≠ 32 := fun e => h (pos + n) (by omega) (by omega) (by rw [hx, e])
    rw [← Nat.add_assoc, take_one hx, pcs_more hne ih, List.append_assoc, List.drop_append_of_le_length (by rw [List.length_take]; omega)]
def lastOf (s : ByteArray) (pos : Nat) : Option Nat → List UInt8
  | none => []
  | some a => ((dl s).take pos).drop a
theorem fields_go (s : ByteArray) : ∀ (f pos : Nat) (st : Option Nat) (acc : List (Nat × Nat)) (fr : List (List UInt8)), pos ≤ s.size → s.size - pos ≤ f → (∀ a, st = some a → a < pos) →
    pcs 32 ((dl s).take pos) = fr ++ [lastOf s pos st] → fr.filter ne0 = acc.map (fun x => dl (s.extract x.1 x.2)) →
    (Lib.closeSpans s (Lib.spansFromP blankP s f pos st acc)).map (fun x => dl (s.extract x.1 x.2)) = (pcs 32 (dl s)).filter ne0
  | f, pos, st, acc, fr, hp, hf, hst, e1, e2 => by
    by_cases hlt : pos < s.size
    · cases f with
      | zero => omega
      | succ f =>
        unfold Lib.spansFromP
        rw [if_pos hlt]
        rcases dec_blank s pos hlt with ⟨hb, hw, hx⟩ | ⟨hb, hw, hw2, hx⟩
        · rw [if_pos hb, hw]
          have e3 : pcs 32 ((dl s).take (pos + 1)) = (fr ++ [lastOf s pos st]) ++ [lastOf s (pos + 1) none] := by rw [take_one hx, pcs_last, e1]; rfl
          cases st with
          | none => exact fields_go s f (pos + 1) none acc _ (by omega) (by omega) (fun a h => by cases h) e3 (by rw [List.filter_append, e2]; simp [lastOf, ne0])
          | some a =>
            have ha := hst a rfl
            refine fields_go s f (pos + 1) none _ _ (by omega) (by omega) (fun a h => by cases h) e3 ?_
            rw [List.filter_append, e2, List.map_append, List.map_singleton, dl_extract]
            congr 1
            have hne : ((dl s).take pos).drop a ≠ [] := fun h => by
              have := List.drop_eq_nil_iff.1 h
              rw [List.length_take] at this
              have : (dl s).length = s.size := by simp [dl]
              omega
            simp [lastOf, ne0, hne]
        · rw [if_neg (by rw [hb]; simp)]
          have e3 := pcs_run s pos e1 _ hw2 hx
          cases st with
          | none =>
            exact fields_go s f _ (some pos) acc fr hw2 (by omega) (fun a h => by cases h; omega) (by rw [e3]; rfl) e2
          | some a =>
            have ha := hst a rfl
            refine fields_go s f _ (some a) acc fr hw2 (by omega) (fun b h => by cases h; omega) ?_ e2
            rw [e3]
            congr 2
            simp only [lastOf]
            have hl : (dl s).length = s.size := by simp [dl]
            generalize (Utf8.decode s pos).2 = n at *
            apply List.ext_getElem?
            intro i
            rw [List.getElem?_append]
            simp only [List.length_drop, List.length_take, List.getElem?_drop, List.getElem?_take]
            by_cases hi : i < min pos (dl s).length - a
            · rw [if_pos hi, if_pos (by omega), if_pos (by omega)]
            · rw [if_neg hi]
              rw [show pos + (i - (min pos (dl s).length - a)) = a + i by omega]
    · obtain rfl : pos = s.size := by omega
      rw [Lib.spansFromP_end _ _ _ _ _ _ hlt]
      have hl : (dl s).take s.size = dl s := List.take_of_length_le (by simp [dl])
      rw [hl] at e1
      rw [e1, List.filter_append, e2]
      cases st with
      | none => simp [Lib.closeSpans, lastOf, ne0]
      | some a =>
        have ha := hst a rfl
        simp only [Lib.closeSpans, lastOf, List.map_append, List.map_singleton, dl_extract]
        congr 1
        have hne : ((dl s).take s.size).drop a ≠ [] := fun h => by
          have := List.drop_eq_nil_iff.1 h
          rw [hl] at this
          have : (dl s).length = s.size := by simp [dl]
          omega
        simp [ne0, hne]
theorem fields_wordsL (s : ByteArray) : Lib.goFieldsP blankP s = wordsL s := by
  apply map_dl_inj
  rw [wordsL_pcs, Lib.goFieldsP, List.map_map]
  exact fields_go s s.size 0 none [] [] (Nat.zero_le _) (by omega) (fun a h => by cases h) (by simp [pcs, lastOf]) rfl
end Go.Proofs.YtdbpdanocpfboabGreatDoor
