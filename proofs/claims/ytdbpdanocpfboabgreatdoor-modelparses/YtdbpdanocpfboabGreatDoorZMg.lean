import Derived.Test.YtdbpdanocpfboabGreatDoorZCb
import Derived.Test.YtdbpdanocpfboabGreatDoorZBun05
/- What is read is good; what is written is read. -/
namespace Go.Proofs.YtdbpdanocpfboabGreatDoor
open Go.RowKit

/-! ### letters, there and back -/
theorem bits_cnt : ∀ j, j < 8 → ∀ n, n < 2 ^ j → (bitsL (n + 2 ^ j) 8).length = (bitsL n 8).length + 1 := by decide +kernel
theorem set_cnt (s : ByteArray) : ∀ (k n : Nat), setN s k = some n → (bitsL n 8).length ≤ k
  | 0, n, h => by
    injection h with h
    subst h
    decide
  | k + 1, n, h => by
    rw [setN] at h
    cases hs : setN s k with
    | none => rw [hs] at h; cases h
    | some m =>
      rw [hs] at h
      simp only [setStep] at h
      split at h
      · rename_i hc
        injection h with h
        subst h
        have := set_cnt s k m hs
        rw [bits_cnt _ (by omega) m hc.2.2]
        omega
      · cases h
theorem shown_size {s : ByteArray} (h1 : 1 ≤ s.size) (h : 0 ≤ lettersZ s) : (shownB (lettersZ s).toNat).size ≤ s.size := by
  rw [lettersZ] at h ⊢
  split at h
  · rename_i e
    subst e
    decide
  · rename_i e
    rw [if_neg e]
    cases hn : setN s s.size with
    | none => rw [hn] at h; exact absurd h (by decide)
    | some n =>
      have h2 := set_cnt s _ n hn
      have h3 : 1 ≤ n := by
        obtain ⟨k, hk⟩ : ∃ k, s.size = k + 1 := ⟨s.size - 1, by omega⟩
        rw [hk] at hn
        have := setN_top hn
        have := Nat.one_le_two_pow (n := byteN s k - 97)
        omega
      simp only [Int.toNat_natCast]
      rw [shownB, if_neg (by omega)]
      exact h2
theorem letters_lt {s : ByteArray} : lettersZ s ≤ 255 := by
  rw [lettersZ]
  split
  · decide
  · cases hn : setN s s.size with
    | none => decide
    | some n =>
      have := setN_lt hn
      simp only; omega
theorem shown_back : ∀ x, x < 256 → lettersZ (shownB x) = (x : Int) := by decide +kernel
theorem shown_no : ∀ x, x < 256 → (32 ∉ dl (shownB x) ∧ 10 ∉ dl (shownB x)) ∧ dl (shownB x) ≠ [] := by decide +kernel

/-! ### names -/
theorem name_no {x : ByteArray} (h : nameB x = true) : (32 ∉ dl x ∧ 10 ∉ dl x) ∧ dl x ≠ [] := by
  have h1 := nameB_size h
  simp only [nameB, Bool.and_eq_true, decide_eq_true_eq, List.all_eq_true, List.mem_range] at h
  have hall : ∀ c, nameC c.toNat = false → c ∉ dl x := fun c hc hm => by
    obtain ⟨i, hi, e⟩ := List.mem_iff_getElem.1 hm
    have hix : i < x.size := by simpa [dl] using hi
    obtain ⟨y, hy, hb⟩ := byteN_at hix
    rw [List.getElem?_eq_getElem hi, e] at hy
    injection hy with hy
    have := h.2 i hix
    rw [hb, ← hy, hc] at this
    cases this
  refine ⟨⟨hall 32 (by decide), hall 10 (by decide)⟩, fun e => ?_⟩
  have : (dl x).length = x.size := by simp [dl]
  rw [e] at this
  simp at this; omega
theorem nd_inj {α : Type} {l : List α} (h : l.Nodup) {i j : Nat} {hi : i < l.length} {hj : j < l.length} (e : l[i] = l[j]) : i = j := by
  rcases Nat.lt_trichotomy i j with h1 | h1 | h1
  · exact absurd e (List.pairwise_iff_getElem.1 h i j hi hj h1)
  · exact h1
  · exact absurd e.symm (List.pairwise_iff_getElem.1 h j i hj hi h1)
theorem nd_map {α β : Type} {f : α → β} {l : List α} (hf : ∀ x ∈ l, ∀ y ∈ l, f x = f y → x = y) (h : l.Nodup) : (l.map f).Nodup := by
  rw [List.nodup_iff_pairwise_ne, List.pairwise_map]
  exact List.Pairwise.imp_of_mem (fun hx hy hne e => hne (hf _ hx _ hy e)) h
theorem find_at {names : List ByteArray} (hn : names.Nodup) {k : Nat} (hk : k < names.length) : findZ names names[k] = (k : Int) :=
  findZ_first hk rfl (fun j hj e => by
    have := nd_inj hn e
    omega)
theorem find_mem {names : List ByteArray} {b : ByteArray} (hb : b ∈ names) (hn : names.Nodup) : 0 ≤ findZ names b ∧ findZ names b < names.length ∧ names.getD (findZ names b).toNat nil = b := by
  obtain ⟨k, hk, rfl⟩ := List.mem_iff_getElem.1 hb
  rw [find_at hn hk]
  refine ⟨by omega, by omega, ?_⟩
  simp [hk]

/-! ### the sizes -/
def szW (l : List ByteArray) : Nat := (l.map (fun x => x.size + 1)).sum
def szT (names : List ByteArray) (letters : List Int) (rows : List (List ByteArray)) : Nat := szW names + (letters.map (fun x => (shownB x.toNat).size + 1)).sum + 2 * names.length + (rows.map szW).sum
theorem dl_size (x : ByteArray) : (dl x).length = x.size := by simp [dl]
theorem words_sz (s : ByteArray) : szW (wordsL s) ≤ s.size + 1 := by
  have h1 := pcs_len 32 (dl s)
  have h2 := sum_filter_le (fun x : List UInt8 => x.length + 1) (fun x => decide (x ≠ [])) (pcs 32 (dl s))
  rw [← wordsL_pcs, h1, List.map_map] at h2
  rw [dl_size] at h2
  have e : (fun x : List UInt8 => x.length + 1) ∘ dl = fun x : ByteArray => x.size + 1 := by funext x; simp [dl]
  rw [e] at h2
  exact h2
theorem cut_sz (s : ByteArray) (c : UInt8) : szW (cutL s c.toNat) = s.size + 1 := by
  have h1 := pcs_len c (dl s)
  rw [← cutL_pcs, List.map_map, dl_size] at h1
  have e : (fun x : List UInt8 => x.length + 1) ∘ dl = fun x : ByteArray => x.size + 1 := by funext x; simp [dl]
  rw [e] at h1
  exact h1
structure PInv (st : PSt) (n : Nat) : Prop where
  n12 : st.names.length ≤ 12
  l : st.letters.length = st.names.length
  b : st.behind.length = st.names.length
  a : st.at_.length = st.names.length
  nm : ∀ x ∈ st.names, nameB x = true
  nd : st.names.Nodup
  lt : ∀ x ∈ st.letters, 0 ≤ x ∧ x ≤ 255
  ne : ∀ r ∈ st.behind, r ≠ []
  bnd : ∀ r ∈ st.behind, r.Nodup
  sz : szT st.names st.letters st.behind ≤ n
theorem szT_push (st : PSt) (i : Nat) {ws : List ByteArray} (hne : ∀ x ∈ ws, 1 ≤ x.size) (hf : formB ws = true) : szT (st.push i ws).names (st.push i ws).letters (st.push i ws).behind ≤ szT st.names st.letters st.behind + szW ws := by
  simp only [formB, Bool.and_eq_true, decide_eq_true_eq] at hf
  obtain ⟨h4, _, hl, hg, _⟩ := hf
  match ws, h4 with
  | a :: b :: c :: r, _ =>
    simp only [List.getD_cons_zero, List.getD_cons_succ, List.drop_succ_cons, List.drop_zero] at *
    subst hg
    have := shown_size (hne b (by simp)) hl
    simp only [szT, PSt.push, szW, List.map_append, List.sum_append, List.map_cons, List.map_nil, List.sum_cons, List.sum_nil, List.length_append, List.length_cons, List.length_nil, List.getD_cons_zero, List.getD_cons_succ, List.drop_succ_cons, List.drop_zero]
    have e : gt.size = 1 := rfl
    omega
theorem lineE_zero {names ws : List ByteArray} (h : lineE names ws = 0) : formB ws = true ∧ twiceB names ws = false ∧ names.length ≠ 12 := by
  rw [lineE] at h
  split at h
  · exact absurd h (by decide)
  · rename_i h1
    split at h
    · exact absurd h (by decide)
    · rename_i h2
      split at h
      · exact absurd h (by decide)
      · rename_i h3
        exact ⟨by simpa using h1, by simpa using h2, h3⟩
theorem wordsL_ne {s x : ByteArray} (h : x ∈ wordsL s) : 1 ≤ x.size := by
  have := (List.mem_filter.1 h).2
  simp only [decide_eq_true_eq] at this
  rcases Nat.eq_zero_or_pos x.size with h0 | h0
  · exact absurd (dl_inj (List.length_eq_zero_iff.1 (by rw [dl_size]; exact h0) : dl x = [])) this
  · exact h0
theorem PInv.push {st : PSt} {n i : Nat} {s : ByteArray} (h : PInv st n) (hE : lineE st.names (wordsL s) = 0) : PInv (st.push i (wordsL s)) (n + (s.size + 1)) := by
  obtain ⟨hf, ht, h12⟩ := lineE_zero hE
  have hsz := szT_push st i (fun x hx => wordsL_ne hx) hf
  have hws := words_sz s
  simp only [formB, Bool.and_eq_true, decide_eq_true_eq] at hf
  simp only [twiceB, Bool.or_eq_false_iff, Bool.not_eq_false', decide_eq_true_eq] at ht
  obtain ⟨h4, hnb, hl, hg, hr⟩ := hf
  have hmem : (wordsL s).getD 0 nil ∉ st.names := fun hm => by rw [memB_iff.2 hm] at ht; cases ht.1
  refine ⟨?_, ?_, ?_, ?_, ?_, ?_, ?_, ?_, ?_, Nat.le_trans hsz (Nat.add_le_add h.sz hws)⟩
  · have := h.n12; simp [PSt.push]; omega
  · simp [PSt.push, h.l]
  · simp [PSt.push, h.b]
  · simp [PSt.push, h.a]
  · intro x hx
    rcases List.mem_append.1 hx with hx | hx
    · exact h.nm x hx
    · rw [List.mem_singleton.1 hx]; exact hnb
  · refine List.nodup_append.2 ⟨h.nd, by simp, fun x hx y hy e => ?_⟩
    rw [List.mem_singleton.1 hy] at e
    exact hmem (e ▸ hx)
  · intro x hx
    rcases List.mem_append.1 hx with hx | hx
    · exact h.lt x hx
    · rw [List.mem_singleton.1 hx]; exact ⟨hl, letters_lt⟩
  · intro x hx
    rcases List.mem_append.1 hx with hx | hx
    · exact h.ne x hx
    · rw [List.mem_singleton.1 hx]
      intro e
      have := congrArg List.length e
      simp at this; omega
  · intro x hx
    rcases List.mem_append.1 hx with hx | hx
    · exact h.bnd x hx
    · rw [List.mem_singleton.1 hx]; exact ht.2
theorem parseL_inv : ∀ (ls : List ByteArray) (i n : Nat) (st st' : PSt), PInv st n → parseL ls i st = .inr st' → PInv st' (n + szW ls)
  | [], i, n, st, st', h, e => by
    simp only [parseL, Sum.inr.injEq] at e
    subst e
    exact h
  | l :: r, i, n, st, st', h, e => by
    rw [parseL] at e
    have hs : szW (l :: r) = l.size + 1 + szW r := by simp [szW]
    split at e
    · have := parseL_inv r (i + 1) n st st' h e
      exact { this with sz := by have := this.sz; omega }
    · split at e
      · rename_i hE
        have := parseL_inv r (i + 1) _ _ st' (h.push hE) e
        rwa [Nat.add_assoc, ← hs] at this
      · cases e
theorem joinL_inr (names : List ByteArray) : ∀ (bs : List (List ByteArray)) (at_ : List Int) (t : List (List Int)), bs.length = at_.length → joinL names bs at_ = .inr t → (∀ b ∈ bs, ∀ x ∈ b, x ∈ names) ∧ t = bs.map (fun b => b.map (findZ names))
  | [], [], t, _, h => by
    simp only [joinL, Sum.inr.injEq] at h
    subst h
    simp
  | [], a :: at_, t, hl, h => by simp at hl
  | b :: bs, [], t, hl, h => by simp at hl
  | b :: bs, a :: at_, t, hl, h => by
    rw [joinL] at h
    split at h
    · rename_i hk
      cases hj : joinL names bs at_ with
      | inl x => rw [hj] at h; cases h
      | inr t' =>
        rw [hj] at h
        simp only [consR, Sum.inr.injEq] at h
        subst h
        obtain ⟨h1, rfl⟩ := joinL_inr names bs at_ t' (by simpa using hl) hj
        refine ⟨fun c hc x hx => ?_, rfl⟩
        rcases List.mem_cons.1 hc with rfl | hc
        · exact memB_iff.1 (List.all_eq_true.1 hk x hx)
        · exact h1 c hc x hx
    · cases h
theorem rowA_sz (m : MD) : ∀ (r : List Int) (acc : ByteArray), (rowA m acc r).size = acc.size + szW (r.map (toName m))
  | [], acc => by simp [rowA, szW]
  | x :: r, acc => by
    rw [rowA, rowA_sz m r, size_app, size_app]
    have : sp.size = 1 := rfl
    simp only [szW, List.map_cons, List.sum_cons]
    omega
theorem sum_take_succ {α : Type} (f : α → Nat) {l : List α} {k : Nat} {x : α} (h : l[k]? = some x) : ((l.take (k + 1)).map f).sum = ((l.take k).map f).sum + f x := by
  rw [take_one h]; simp
theorem textA_sz (m : MD) (hl : m.letters.length = m.names.length) (ht : m.tos.length = m.names.length) : ∀ k, k ≤ m.names.length → (textA m k).size = szT (m.names.take k) (m.letters.take k) ((m.tos.take k).map (fun r => r.map (toName m)))
  | 0, _ => rfl
  | k + 1, hk => by
    have ih := textA_sz m hl ht k (by omega)
    have e1 : m.names[k]? = some (m.names.getD k nil) := by
      have : k < m.names.length := by omega
      simp [this]
    have e2 : m.letters[k]? = some (m.letters.getD k 0) := by
      have : k < m.letters.length := by omega
      simp [this]
    have e3 : m.tos[k]? = some (m.tos.getD k []) := by
      have : k < m.tos.length := by omega
      simp [this]
    rw [textA, size_app, rowA_sz, headA, size_app, size_app, size_app, size_app, ih]
    have h1 : sp.size = 1 := rfl
    have h2 : spgt.size = 2 := rfl
    have h3 : nl.size = 1 := rfl
    simp only [szT, szW, List.map_map]
    rw [sum_take_succ _ e1, sum_take_succ _ e2, sum_take_succ _ e3, List.length_take, List.length_take, h1, h2, h3]
    simp only [Function.comp, szW]
    have h4 : min (k + 1) m.names.length = k + 1 := by omega
    have h5 : min k m.names.length = k := by omega
    rw [h4, h5]
    simp only [List.map_map]
    omega
/-- what is read is good -/
theorem parse_good {s : ByteArray} {m : MD} (h : parseM s = .ok m) : goodM m = true := by
  rw [parseM] at h
  split at h
  · cases h
  · rename_i hs
    split at h
    · cases h
    · rename_i st hst
      have hi : PInv st (0 + szW (cutL s (10 : UInt8).toNat)) := parseL_inv _ 0 0 .zero st ⟨by simp [PSt.zero], rfl, rfl, rfl, by simp [PSt.zero], by simp [PSt.zero], by simp [PSt.zero], by simp [PSt.zero], by simp [PSt.zero], by simp [PSt.zero, szT, szW]⟩ hst
      rw [cut_sz] at hi
      split at h
      · cases h
      · rename_i t ht
        split at h
        · cases h
        · rename_i h0
          injection h with h
          subst h
          obtain ⟨hk, rfl⟩ := joinL_inr _ _ _ t (by rw [hi.b, hi.a]) ht
          have hback : (st.behind.map (fun b => b.map (findZ st.names))).map (fun r => r.map (toName ⟨st.names, st.letters, st.behind.map (fun b => b.map (findZ st.names))⟩)) = st.behind := by
            rw [List.map_map]
            conv => rhs; rw [← List.map_id st.behind]
            apply List.map_congr_left
            intro b hb
            simp only [Function.comp, List.map_map, id]
            conv => rhs; rw [← List.map_id b]
            apply List.map_congr_left
            intro x hx
            exact (find_mem (hk b hb x hx) hi.nd).2.2
          have hF : FitsP ⟨st.names, st.letters, st.behind.map (fun b => b.map (findZ st.names))⟩ := by
            refine ⟨by simp only; omega, hi.n12, hi.l, by simp [hi.b], hi.nm, hi.nd, hi.lt, ?_, ?_, ?_⟩
            · intro r hr
              obtain ⟨b, hb, rfl⟩ := List.mem_map.1 hr
              have := hi.ne b hb
              simpa using this
            · intro r hr t ht
              obtain ⟨b, hb, rfl⟩ := List.mem_map.1 hr
              obtain ⟨x, hx, rfl⟩ := List.mem_map.1 ht
              have := find_mem (hk b hb x hx) hi.nd
              exact ⟨this.1, this.2.1⟩
            · intro r hr
              obtain ⟨b, hb, rfl⟩ := List.mem_map.1 hr
              refine nd_map ?_ (hi.bnd b hb)
              intro x hx y hy e
              have h1 := (find_mem (hk b hb x hx) hi.nd).2.2
              have h2 := (find_mem (hk b hb y hy) hi.nd).2.2
              rw [← h1, ← h2, e]
          rw [goodM, (fitsB_iff _).2 hF, Bool.true_and, decide_eq_true_iff, textM, textA_sz _ hF.l hF.t _ (Nat.le_refl _)]
          have hz := hi.sz
          simp only at *
          rw [List.take_length, ← hi.l, List.take_length, List.take_of_length_le (by simp [hi.b, hi.l]), hback]
          omega

/-! ### what is written is read -/
def lineW (m : MD) (k : Nat) : List ByteArray := m.names.getD k nil :: shownB (m.letters.getD k 0).toNat :: gt :: (m.tos.getD k []).map (toName m)
def lineD (ws : List ByteArray) : List UInt8 := match ws with
  | [] => []
  | w :: r => dl w ++ r.flatMap (fun x => 32 :: dl x)
theorem pcs_line (c : UInt8) : ∀ (r : List (List UInt8)) (w : List UInt8), c ∉ w → (∀ x ∈ r, c ∉ x) → pcs c (w ++ r.flatMap (fun x => c :: x)) = w :: r
  | [], w, h, _ => by simp [pcs_none h]
  | x :: r, w, h, hr => by
    rw [List.flatMap_cons, List.cons_append, pcs_app h, pcs_line c r x (hr x (by simp)) (fun y hy => hr y (by simp [hy]))]
theorem pcs_lines (c : UInt8) : ∀ (r : List (List UInt8)), (∀ x ∈ r, c ∉ x) → pcs c (r.flatMap (fun x => x ++ [c])) = r ++ [[]]
  | [], _ => by simp [pcs]
  | x :: r, hr => by
    rw [List.flatMap_cons, List.append_assoc, List.singleton_append, pcs_app (hr x (by simp)), pcs_lines c r (fun y hy => hr y (by simp [hy])), List.cons_append]
theorem dl_app (a b : ByteArray) : dl (a ++ b) = dl a ++ dl b := by simp [dl]
theorem rowA_dl (m : MD) : ∀ (r : List Int) (acc : ByteArray), dl (rowA m acc r) = dl acc ++ (r.map (toName m)).flatMap (fun x => 32 :: dl x)
  | [], acc => by simp [rowA]
  | x :: r, acc => by
    rw [rowA, rowA_dl m r, dl_app, dl_app, List.map_cons, List.flatMap_cons]
    simp [dl, sp]
theorem textA_dl (m : MD) : ∀ k, dl (textA m k) = ((List.range k).map (fun j => lineD (lineW m j))).flatMap (fun x => x ++ [10])
  | 0 => rfl
  | k + 1 => by
    rw [textA, dl_app, rowA_dl, headA, dl_app, dl_app, dl_app, dl_app, textA_dl m k, List.range_succ, List.map_append, List.flatMap_append]
    have h1 : dl sp = [32] := rfl
    have h2 : dl spgt = [32, 62] := rfl
    have h3 : dl nl = [10] := rfl
    have h4 : dl gt = [62] := rfl
    simp [h1, h2, h3, h4, lineD, lineW]
theorem fits_words {m : MD} (h : FitsP m) {k : Nat} (hk : k < m.names.length) : ∀ x ∈ lineW m k, (32 ∉ dl x ∧ 10 ∉ dl x) ∧ dl x ≠ [] := by
  intro x hx
  simp only [lineW, List.mem_cons] at hx
  rcases hx with rfl | rfl | rfl | hx
  · refine name_no (h.nm _ ?_)
    simp [hk]
  · have : (m.letters.getD k 0) ∈ m.letters := by
      have : k < m.letters.length := by rw [h.l]; exact hk
      simp [this]
    have := h.lt _ this
    exact shown_no _ (by omega)
  · decide
  · obtain ⟨t, ht, rfl⟩ := List.mem_map.1 hx
    have hr : m.tos.getD k [] ∈ m.tos := by
      have : k < m.tos.length := by rw [h.t]; exact hk
      simp [this]
    have := h.rng _ hr t ht
    refine name_no (h.nm _ ?_)
    have h2 : t.toNat < m.names.length := by omega
    simp [toName, h2]
theorem line_words {m : MD} (h : FitsP m) {k : Nat} (hk : k < m.names.length) (s : ByteArray) (hs : dl s = lineD (lineW m k)) : wordsL s = lineW m k := by
  apply map_dl_inj
  have hw := fits_words h hk
  have e : lineD (lineW m k) = dl (m.names.getD k nil) ++ ((lineW m k).tail.map dl).flatMap (fun x => 32 :: x) := by
    simp [lineD, lineW, List.flatMap_map]
  rw [wordsL_pcs, hs, e, pcs_line 32 _ _ (hw _ (by simp [lineW])).1.1 (fun x hx => ?_)]
  · have e2 : dl (m.names.getD k nil) :: (lineW m k).tail.map dl = (lineW m k).map dl := by simp [lineW]
    rw [e2, List.filter_eq_self]
    intro x hx
    obtain ⟨y, hy, rfl⟩ := List.mem_map.1 hx
    simp only [decide_eq_true_eq]
    exact (hw y hy).2
  · obtain ⟨y, hy, rfl⟩ := List.mem_map.1 hx
    exact (hw y (List.mem_of_mem_tail hy)).1.1
theorem mem_lineD {ws : List ByteArray} {c : UInt8} (h : c ∈ lineD ws) : c = 32 ∨ ∃ x ∈ ws, c ∈ dl x := by
  cases ws with
  | nil => simp [lineD] at h
  | cons w r =>
    simp only [lineD, List.mem_append, List.mem_flatMap, List.mem_cons] at h
    rcases h with h | ⟨x, hx, rfl | h⟩
    · exact .inr ⟨w, by simp, h⟩
    · exact .inl rfl
    · exact .inr ⟨x, by simp [hx], h⟩
theorem text_lines {m : MD} (h : FitsP m) : cutL (textM m) 10 = (List.range m.names.length).map (fun j => (⟨(lineD (lineW m j)).toArray⟩ : ByteArray)) ++ [nil] := by
  apply map_dl_inj
  have e := cutL_pcs (textM m) 10
  rw [textM, textA_dl, pcs_lines] at e
  · rw [show (cutL (textM m) 10).map dl = _ from e, List.map_append, List.map_map]
    rfl
  · intro x hx hm
    obtain ⟨k, hk, rfl⟩ := List.mem_map.1 hx
    rcases mem_lineD hm with h' | ⟨y, hy, hc⟩
    · exact absurd h' (by decide)
    · exact (fits_words h (List.mem_range.1 hk) y hy).1.2 hc
theorem mem_getD {α : Type} {l : List α} {k : Nat} (h : k < l.length) (d : α) : l.getD k d ∈ l := by simp [h]
theorem fits_tname {m : MD} (h : FitsP m) {k : Nat} (hk : k < m.names.length) {t : Int} (ht : t ∈ m.tos.getD k []) : ∃ i, ∃ hi : i < m.names.length, t = (i : Int) ∧ toName m t = m.names[i] := by
  have := h.rng _ (mem_getD (by rw [h.t]; exact hk) []) t ht
  refine ⟨t.toNat, by omega, by omega, ?_⟩
  have h2 : t.toNat < m.names.length := by omega
  simp [toName, h2]
theorem fits_lineE {m : MD} (h : FitsP m) {k : Nat} (hk : k < m.names.length) : lineE (m.names.take k) (lineW m k) = 0 := by
  have hr := mem_getD (l := m.tos) (k := k) (by rw [h.t]; exact hk) []
  have hl := h.lt _ (mem_getD (l := m.letters) (k := k) (by rw [h.l]; exact hk) 0)
  have hf : formB (lineW m k) = true := by
    simp only [formB, lineW, Bool.and_eq_true, decide_eq_true_eq, List.getD_cons_zero, List.getD_cons_succ, List.drop_succ_cons, List.drop_zero, List.all_eq_true, List.length_cons, List.length_map]
    refine ⟨?_, h.nm _ (mem_getD hk _), ?_, trivial, fun x hx => ?_⟩
    · have := List.length_pos_iff.2 (h.ne _ hr)
      omega
    · rw [shown_back _ (by omega)]; omega
    · obtain ⟨t, ht, rfl⟩ := List.mem_map.1 hx
      obtain ⟨i, hi, _, e⟩ := fits_tname h hk ht
      rw [e]
      exact h.nm _ (List.getElem_mem hi)
  have ht : twiceB (m.names.take k) (lineW m k) = false := by
    simp only [twiceB, lineW, Bool.or_eq_false_iff, Bool.not_eq_false', decide_eq_true_eq, List.getD_cons_zero, List.drop_succ_cons, List.drop_zero]
    refine ⟨?_, ?_⟩
    · rw [Bool.eq_false_iff]
      intro hm
      obtain ⟨j, hj, e⟩ := List.mem_iff_getElem.1 (memB_iff.1 hm)
      rw [List.length_take] at hj
      have hg : m.names.getD k nil = m.names[k] := by simp [hk]
      rw [List.getElem_take, hg] at e
      have := nd_inj h.nd e
      omega
    · refine nd_map ?_ (h.rnd _ hr)
      intro x hx y hy e
      obtain ⟨i, hi, rfl, e1⟩ := fits_tname h hk hx
      obtain ⟨j, hj, rfl, e2⟩ := fits_tname h hk hy
      rw [e1, e2] at e
      have := nd_inj h.nd e
      omega
  have h12 := h.n12
  rw [lineE, hf, ht, List.length_take]
  simp
  omega
def stAt (m : MD) (k : Nat) : PSt := ⟨m.names.take k, m.letters.take k, (List.range k).map (fun i : Nat => (i : Int) + 1), (m.tos.take k).map (fun r => r.map (toName m))⟩
theorem stAt_push {m : MD} (h : FitsP m) {k : Nat} (hk : k < m.names.length) : (stAt m k).push k (lineW m k) = stAt m (k + 1) := by
  have hl := h.lt _ (mem_getD (l := m.letters) (k := k) (by rw [h.l]; exact hk) 0)
  have e1 : m.names[k]? = some (m.names.getD k nil) := by simp [hk]
  have e2 : m.letters[k]? = some (m.letters.getD k 0) := by
    have : k < m.letters.length := by rw [h.l]; omega
    simp [this]
  have e3 : m.tos[k]? = some (m.tos.getD k []) := by
    have : k < m.tos.length := by rw [h.t]; omega
    simp [this]
  have e4 : lettersZ (shownB (m.letters.getD k 0).toNat) = m.letters.getD k 0 := by rw [shown_back _ (by omega)]; omega
  simp only [PSt.push, stAt, lineW, List.getD_cons_zero, List.getD_cons_succ, List.drop_succ_cons, List.drop_zero, e4]
  rw [take_one e1, take_one e2, take_one e3, List.range_succ, List.map_append, List.map_append]
  rfl
theorem parseL_text {m : MD} (h : FitsP m) : ∀ (j k : Nat), k + j = m.names.length → parseL (((List.range m.names.length).map (fun j => (⟨(lineD (lineW m j)).toArray⟩ : ByteArray)) ++ [nil]).drop k) k (stAt m k) = .inr (stAt m m.names.length)
  | 0, k, e => by
    obtain rfl : k = m.names.length := by omega
    rw [List.drop_append_of_le_length (by simp), List.drop_eq_nil_of_le (by simp), List.nil_append, parseL, if_pos (by rfl), parseL]
  | j + 1, k, e => by
    have hk : k < m.names.length := by omega
    rw [List.drop_eq_getElem_cons (by simp; omega), parseL]
    have hw : wordsL (((List.range m.names.length).map (fun j => (⟨(lineD (lineW m j)).toArray⟩ : ByteArray)) ++ [nil])[k]'(by simp; omega)) = lineW m k := by
      rw [List.getElem_append_left (by simp; omega)]
      simp only [List.getElem_map, List.getElem_range]
      exact line_words h hk _ rfl
    rw [hw, if_neg (by simp [lineW]), if_pos (show Go.Proofs.YtdbpdanocpfboabGreatDoor.lineE (stAt m k).names (lineW m k) = 0 from fits_lineE h hk), stAt_push h hk]
    exact parseL_text h j (k + 1) (by omega)
theorem join_text {m : MD} (h : FitsP m) : ∀ (rows : List (List Int)) (at_ : List Int), rows.length ≤ at_.length → (∀ r ∈ rows, r ∈ m.tos) → joinL m.names (rows.map (fun r => r.map (toName m))) at_ = .inr rows
  | [], at_, _, _ => by simp [joinL]
  | r :: rows, [], hl, _ => by simp at hl
  | r :: rows, a :: at_, hl, hm => by
    have hr : ∀ t ∈ r, ∃ i, ∃ hi : i < m.names.length, t = (i : Int) ∧ toName m t = m.names[i] := fun t ht => by
      have := h.rng _ (hm r (by simp)) t ht
      refine ⟨t.toNat, by omega, by omega, ?_⟩
      have h2 : t.toNat < m.names.length := by omega
      simp [toName, h2]
    rw [List.map_cons, joinL, if_pos, join_text h rows at_ (by simpa using hl) (fun r hr => hm r (by simp [hr])), consR]
    · congr 2
      rw [List.map_map]
      conv => rhs; rw [← List.map_id r]
      apply List.map_congr_left
      intro t ht
      obtain ⟨i, hi, rfl, e⟩ := hr t ht
      simp only [Function.comp, id, e]
      exact find_at h.nd hi
    · rw [knownB, List.all_eq_true]
      intro x hx
      obtain ⟨t, ht, rfl⟩ := List.mem_map.1 hx
      obtain ⟨i, hi, rfl, e⟩ := hr t ht
      rw [e]
      exact memB_iff.2 (List.getElem_mem hi)
/-- what is written is read -/
theorem parse_text {m : MD} (h : FitsP m) (hs : (textM m).size ≤ 1000) : parseM (textM m) = .ok m := by
  have h1 := parseL_text h m.names.length 0 (by omega)
  rw [List.drop_zero, ← text_lines h] at h1
  have hz : stAt m 0 = PSt.zero := by simp [stAt, PSt.zero]
  rw [hz] at h1
  have e1 : m.names.take m.names.length = m.names := List.take_length
  have e2 : m.letters.take m.names.length = m.letters := by rw [← h.l, List.take_length]
  have e3 : m.tos.take m.names.length = m.tos := by rw [← h.t, List.take_length]
  have h2 := join_text h m.tos ((List.range m.names.length).map (fun i : Nat => (i : Int) + 1)) (by simp [h.t]) (fun r hr => hr)
  have h0 := h.n0
  rw [parseM, if_neg (by omega), h1]
  simp only [stAt, e1, e2, e3, h2]
  rw [if_neg (by omega)]
end Go.Proofs.YtdbpdanocpfboabGreatDoor
