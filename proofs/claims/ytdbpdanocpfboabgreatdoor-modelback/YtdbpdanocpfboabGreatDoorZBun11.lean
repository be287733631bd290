import Derived.Test.YtdbpdanocpfboabGreatDoorZAl
import Derived.Test.YtdbpdanocpfboabGreatDoorZBun08
import Derived.Test.YtdbpdanocpfboabGreatDoorZRr
import Derived.Test.YtdbpdanocpfboabGreatDoorZGm
import Derived.Test.YtdbpdanocpfboabGreatDoorZSame
/- What the laws need besides: both readers' answers as one; a model that is spoilt. -/
namespace Go.Proofs.YtdbpdanocpfboabGreatDoor
open Go.RowKit

def mdN : MD := ⟨[], [], []⟩
/-- an answer as a model, an error and a line -/
def resM : PR → MD × Int × Int
  | .err x l => (mdN, x, l)
  | .ok m => (m, 0, 0)
theorem modT_nil (lo : Nat) (w : World) : ModT lo w nilM mdN := ⟨_, _, _, rfl, LsT.nil _ _ _, LsT.nil _ _ _, [], rfl, LsT.nil _ _ _, fun i r row h => by simp at h⟩
theorem modN_nil (lo : Nat) (w : World) : ModN lo w nilM mdN := (modT_nil lo w).modN
theorem Post6.uni {w : World} {r : PR} {e : Ending} {w' : World} (h : Post6 w r e w') : Kept (fun _ => False) w w' ∧ ∃ v, e = .returned (.tuple #[v, .int .i64 (resM r).2.1, .int .i64 (resM r).2.2]) ∧ ModT w.heap.size w' v (resM r).1 := by
  cases r with
  | err x l => exact ⟨h.1, nilM, h.2, modT_nil _ _⟩
  | ok m => exact h
theorem Post7.uni {w : World} {r : PR} {e : Ending} {w' : World} (h : Post7 w r e w') : Kept (fun _ => False) w w' ∧ ∃ v, e = .returned (.tuple #[v, .int .i64 (resM r).2.1, .int .i64 (resM r).2.2]) ∧ ModN w.heap.size w' v (resM r).1 := by
  cases r with
  | err x l => exact ⟨h.1, nilM, h.2, modN_nil _ _⟩
  | ok m => exact h
theorem parseL_err : ∀ (ls : List ByteArray) (i : Nat) (st : PSt) (e l : Int), parseL ls i st = .inl (e, l) → e ≠ 0
  | [], i, st, e, l, h => by cases h
  | x :: r, i, st, e, l, h => by
    rw [parseL] at h
    split at h
    · exact parseL_err r _ _ e l h
    · split at h
      · exact parseL_err r _ _ e l h
      · rename_i h1
        injection h with h
        injection h with h _
        exact fun e0 => h1 (h.trans e0)
theorem parse_err {s : ByteArray} {x l : Int} (h : parseM s = .err x l) : x ≠ 0 := by
  rw [parseM] at h
  split at h
  · injection h with h _
    subst h
    decide
  · split at h
    · rename_i hp
      injection h with h _
      subst h
      exact parseL_err _ _ _ _ _ hp
    · split at h
      · injection h with h _
        subst h
        decide
      · split at h
        · injection h with h _
          subst h
          decide
        · cases h
theorem res_good {s : ByteArray} (h : (resM (parseM s)).2.1 = 0) : goodM (resM (parseM s)).1 = true := by
  cases hp : parseM s with
  | err x l =>
    rw [hp] at h
    exact absurd h (parse_err hp)
  | ok m => exact parse_good hp
/-- as many letters and rows as names, or no names -/
theorem res_len (s : ByteArray) : ((resM (parseM s)).1.names.length ≤ (resM (parseM s)).1.letters.length) ∧ (resM (parseM s)).1.names.length ≤ (resM (parseM s)).1.tos.length := by
  cases hp : parseM s with
  | err x l => exact ⟨Nat.le_refl _, Nat.le_refl _⟩
  | ok m =>
    have hF := goodM_fits (parse_good hp)
    exact ⟨Nat.le_of_eq hF.l.symm, Nat.le_of_eq hF.t.symm⟩
theorem res_sizes (s : ByteArray) : ∀ x ∈ (resM (parseM s)).1.names, x.size ≤ 9223372036854775807 := fun x hx => by
  cases hp : parseM s with
  | err e l => rw [hp] at hx; cases hx
  | ok m =>
    rw [hp] at hx
    have hF := goodM_fits (parse_good hp)
    have := nameB_size (hF.nm x hx)
    omega

/-! ### memory that is written over, all but lists of lists -/
structure Soft (lo hi : Nat) (w W : World) : Prop where
  kept : Kept (fun k => lo ≤ k ∧ k < hi) w W
  size : W.heap.size = w.heap.size
  ty : ∀ (k : Nat) (c : Array Value) (t : TypeId), w.heap[k]? = some (.cells c t (0, 0)) → ∃ c' : Array Value, W.heap[k]? = some (.cells c' t (0, 0)) ∧ c'.size = c.size
  rows : ∀ k, TyB w k 23 → W.heap[k]? = w.heap[k]?
theorem Soft.refl (lo hi : Nat) (w : World) : Soft lo hi w w := ⟨Kept.refl _ _, rfl, fun _ c _ h => ⟨c, h, rfl⟩, fun _ _ => rfl⟩
theorem Soft.set {lo hi : Nat} {w W : World} (h : Soft lo hi w W) {k o : Nat} {t : TypeId} (hk : lo ≤ k ∧ k < hi) (ht : TyB w k t) (h23 : t ≠ 23) (x : Value) : Soft lo hi w (W.setCell ⟨k, o, none⟩ x) := by
  obtain ⟨c, hc⟩ := ht
  obtain ⟨c', hc', hs'⟩ := h.ty k c t hc
  refine ⟨h.kept.setCell (fun _ => hk) _, (World.size_setCell _ _ _).trans h.size, fun j d t' hj => ?_, fun j hj => ?_⟩
  · by_cases e : j = k
    · subst e
      rw [hc] at hj
      injection hj with hj
      injection hj with e1 e2
      subst e1 e2
      exact ⟨_, heap_setCell_same _ _ _ _ _ _ hc', by simp [hs']⟩
    · obtain ⟨d', hd', hs⟩ := h.ty j d t' hj
      exact ⟨d', (Below.heap_setCell _ _ _ _ e).trans hd', hs⟩
  · have e : j ≠ k := fun e => by
      subst e
      obtain ⟨d, hd⟩ := hj
      rw [hc] at hd
      injection hd with hd
      injection hd with _ hd
      exact h23 hd
    exact (Below.heap_setCell _ _ _ _ e).trans (h.rows j hj)
/-- a list in blocks of a type, from lo up to hi -/
def LsU (t : TypeId) (lo hi : Nat) (w : World) (v : Value) (cs : List Value) : Prop := LsS (fun k => lo ≤ k ∧ k < hi ∧ TyB w k t) w v cs
theorem LsT.lsu {t : TypeId} {lo : Nat} {w w' : World} {v : Value} {cs : List Value} (h : LsT t lo w v cs) (hk : Kept (fun _ => False) w w') : LsU t lo w.heap.size w' v cs :=
  LsS.keep h (fun k e => ⟨e.1, e.2.1, e.2.2.of (hk.block k e.2.1 (fun f => f))⟩) (fun k e => hk.block k e.2.1 (fun f => f))
/-- a cell of such a list may be written, whatever was written before -/
theorem LsU.cell {t : TypeId} {lo hi : Nat} {w W : World} {a : Option Addr} {n cap : Nat} {cs : List Value} (h : LsU t lo hi w (.slice a n cap) cs) (hs : Soft lo hi w W) {i : Nat} (hi' : i < cs.length) : ∃ b off, a = some ⟨b, off, none⟩ ∧ (lo ≤ b ∧ b < hi) ∧ TyB w b t ∧ (∃ x, W.cell? ⟨b, off + i, none⟩ = some x) ∧ W.frozen? ⟨b, off + i, none⟩ = false := by
  obtain ⟨b, off, e, hb, hc⟩ := LsS.cell h (List.getElem?_eq_getElem hi')
  obtain ⟨c, hcb⟩ := hb.2.2
  obtain ⟨c', hc', hs'⟩ := hs.ty b c t hcb
  rw [blk_cell hcb] at hc
  have hlt : off + i < c.size := (Array.getElem?_eq_some_iff.1 hc).1
  refine ⟨b, off, e, ⟨hb.1, hb.2.1⟩, hb.2.2, ⟨c'[off + i]'(by omega), ?_⟩, blk_frozen hc' _⟩
  rw [blk_cell hc']
  exact Array.getElem?_eq_getElem (by omega)
theorem LsU.row {lo hi : Nat} {w W : World} {a : Option Addr} {n cap : Nat} {cs : List Value} (h : LsU 23 lo hi w (.slice a n cap) cs) (hs : Soft lo hi w W) {i : Nat} {x : Value} (hx : cs[i]? = some x) : ∃ b off, a = some ⟨b, off, none⟩ ∧ W.cell? ⟨b, off + i, none⟩ = some x := by
  obtain ⟨b, off, e, hb, hc⟩ := LsS.cell h hx
  exact ⟨b, off, e, (World.cell?_of_block (w := w) (hs.rows b hb.2.2)).trans hc⟩
end Go.Proofs.YtdbpdanocpfboabGreatDoor

/- A path gone round once more: a path, with the same trace. -/
namespace Go.Proofs.YtdbpdanocpfboabGreatDoor
open Go.RowKit

theorem round_lo (hd lp : List Int) (hl : 0 < lp.length) {i : Nat} (h : i ≤ hd.length + lp.length) : (hd ++ lp ++ lp ++ lp.take 1)[i]? = (hd ++ lp ++ lp.take 1)[i]? := by
  cases lp with
  | nil => simp at hl
  | cons x r =>
    rw [List.append_assoc (hd ++ (x :: r))]
    by_cases h2 : i < (hd ++ (x :: r)).length
    · rw [List.getElem?_append_left h2, List.getElem?_append_left h2]
    · have : i = (hd ++ (x :: r)).length := by simp only [List.length_append] at h2 ⊢; omega
      subst this
      rw [List.getElem?_append_right (Nat.le_refl _), List.getElem?_append_right (Nat.le_refl _)]
      simp
theorem round_hi (hd lp : List Int) {i : Nat} (h : hd.length + lp.length ≤ i) : (hd ++ lp ++ lp ++ lp.take 1)[i]? = (hd ++ lp ++ lp.take 1)[i - lp.length]? := by
  have e1 : (hd ++ lp ++ (lp ++ lp.take 1))[i]? = (lp ++ lp.take 1)[i - (hd ++ lp).length]? := List.getElem?_append_right (by simpa using h)
  have e2 : (hd ++ (lp ++ lp.take 1))[i - lp.length]? = (lp ++ lp.take 1)[i - lp.length - hd.length]? := List.getElem?_append_right (by omega)
  rw [List.append_assoc (hd ++ lp), e1, List.append_assoc hd, e2]
  congr 1
  simp only [List.length_append]
  omega
theorem path_round {m : MD} {hd lp : List Int} (h : pathM m hd lp = true) (h2 : 2 * (hd.length + lp.length) ≤ 20000) : pathM m (hd ++ lp) lp = true := by
  simp only [pathM, Bool.and_eq_true, decide_eq_true_eq] at h ⊢
  obtain ⟨hg, hl, _, hs⟩ := h
  have hlp : 0 < lp.length := by
    cases lp with
    | nil => simp at hl
    | cons x r => simp
  refine ⟨hg, hl, by simp only [List.length_append]; omega, ?_⟩
  have n1 : 0 < (hd ++ lp ++ lp.take 1).length := by simp only [List.length_append]; omega
  have n2 : 0 < (hd ++ lp ++ lp ++ lp.take 1).length := by simp only [List.length_append]; omega
  have ht : (lp.take 1).length = 1 := by rw [List.length_take]; omega
  obtain ⟨h0, hc⟩ := (start_at m _ n1).1 hs
  refine (start_at m _ n2).2 ⟨?_, fun i hi => ?_⟩
  · have e := round_lo hd lp hlp (i := 0) (by omega)
    rw [List.getElem?_eq_getElem n1, List.getElem?_eq_getElem n2] at e
    injection e with e
    rw [e, h0]
  · simp only [List.length_append] at hi
    by_cases hn : i + 1 ≤ hd.length + lp.length
    · have e1 := round_lo hd lp hlp (i := i) (by omega)
      have e2 := round_lo hd lp hlp (i := i + 1) hn
      have k : i + 1 < (hd ++ lp ++ lp.take 1).length := by simp only [List.length_append]; omega
      rw [List.getElem?_eq_getElem (by simp only [List.length_append]; omega), List.getElem?_eq_getElem (by omega)] at e1
      rw [List.getElem?_eq_getElem (by simp only [List.length_append]; omega), List.getElem?_eq_getElem k] at e2
      injection e1 with e1
      injection e2 with e2
      rw [e1, e2]
      exact hc i k
    · have e1 := round_hi hd lp (i := i) (by omega)
      have e2 := round_hi hd lp (i := i + 1) (by omega)
      have k : i - lp.length + 1 < (hd ++ lp ++ lp.take 1).length := by simp only [List.length_append]; omega
      rw [show i + 1 - lp.length = i - lp.length + 1 by omega] at e2
      rw [List.getElem?_eq_getElem (by simp only [List.length_append]; omega), List.getElem?_eq_getElem (by omega)] at e1
      rw [List.getElem?_eq_getElem (by simp only [List.length_append]; omega), List.getElem?_eq_getElem k] at e2
      injection e1 with e1
      injection e2 with e2
      rw [e1, e2]
      exact hc _ k
theorem path_lp {m : MD} {hd lp : List Int} (h : pathM m hd lp = true) : 0 < lp.length := by
  simp only [pathM, Bool.and_eq_true, decide_eq_true_eq] at h
  cases lp with
  | nil => simp at h
  | cons x r => simp
theorem letterOf_ok {m : MD} (h : FitsP m) {s : Int} (hs : 0 ≤ s ∧ s < (m.names.length : Int)) : okNum (letterOf m s) = true := by
  have hl : s.toNat < m.letters.length := by rw [h.l]; omega
  have := h.lt _ (List.getElem_mem hl)
  rw [letterOf, List.getD_eq_getElem?_getD, List.getElem?_eq_getElem hl, okNum]
  simpa using this
/-- a path's trace is a good word -/
theorem trace_good {m : MD} {hd lp : List Int} (h : pathM m hd lp = true) : goodW (hd.map (letterOf m)) (lp.map (letterOf m)) = true := by
  obtain ⟨hF, h20, hr⟩ := path_rng h
  have hl := path_lp h
  simp only [goodW, Bool.and_eq_true, decide_eq_true_eq, List.all_eq_true, List.length_map]
  refine ⟨⟨?_, h20⟩, fun x hx => ?_, fun x hx => ?_⟩
  · cases lp with
    | nil => simp at hl
    | cons x r => rfl
  · obtain ⟨s, hs, rfl⟩ := List.mem_map.1 hx
    exact letterOf_ok hF (hr s (.inl hs))
  · obtain ⟨s, hs, rfl⟩ := List.mem_map.1 hx
    exact letterOf_ok hF (hr s (.inr hs))
theorem wAt_round (hd lp : List Int) (i : Nat) : wAt (hd ++ lp) lp i = wAt hd lp i := by
  simp only [wAt, List.length_append]
  by_cases h1 : i < hd.length
  · rw [if_pos (by omega), if_pos h1, List.getD_eq_getElem?_getD, List.getD_eq_getElem?_getD, List.getElem?_append_left h1]
  · rw [if_neg h1]
    by_cases h2 : i < hd.length + lp.length
    · rw [if_pos h2, Nat.mod_eq_of_lt (by omega), List.getD_eq_getElem?_getD, List.getD_eq_getElem?_getD, List.getElem?_append_right (by omega)]
    · rw [if_neg h2]
      congr 1
      obtain ⟨j, hj⟩ : ∃ j, i - hd.length = j + lp.length := ⟨i - hd.length - lp.length, by omega⟩
      rw [hj, Nat.add_mod_right]
      congr 1
      omega
theorem trace_round {m : MD} {hd lp : List Int} (h : pathM m hd lp = true) (h2 : 2 * (hd.length + lp.length) ≤ 20000) :
    sameB (hd.map (letterOf m)) (lp.map (letterOf m)) ((hd ++ lp).map (letterOf m)) (lp.map (letterOf m)) = true := by
  have g1 := trace_good h
  have g2 := trace_good (path_round h h2)
  rw [sameB, g1, g2]
  simp only [Bool.true_and, List.all_eq_true, decide_eq_true_eq]
  intro i _
  rw [List.map_append, wAt_round]
end Go.Proofs.YtdbpdanocpfboabGreatDoor

/- What the laws of paths need besides. -/
namespace Go.Proofs.YtdbpdanocpfboabGreatDoor
open Go.RowKit

theorem ModV.below {B : Nat} {w w' : World} {v : Value} {m : MD} (h : ModV B w v m) (hb : Below B w w') : ModV B w' v m := by
  obtain ⟨nv, lv, tv, e, h1, h2, rs, h3, h4, h5⟩ := h.ex
  exact ⟨nv, lv, tv, e, h1.below hb, h2.below hb, rs, h3, h4.below hb, fun i r row a b => (h5 i r row a b).below hb⟩
theorem ModV.mono {B B' : Nat} {w : World} {v : Value} {m : MD} (h : ModV B w v m) (hb : B ≤ B') : ModV B' w v m := by
  obtain ⟨nv, lv, tv, e, h1, h2, rs, h3, h4, h5⟩ := h.ex
  exact ⟨nv, lv, tv, e, h1.mono hb, h2.mono hb, rs, h3, h4.mono hb, fun i r row a b => (h5 i r row a b).mono hb⟩
theorem WordN.later {lo : Nat} {w W : World} {v : Value} {hd lp : List Int} (h : WordN lo w v hd lp) (hb : ∀ k, lo ≤ k → k < w.heap.size → W.heap[k]? = w.heap[k]?) : WordV w.heap.size W v hd lp := by
  obtain ⟨hv, lv, e, h1, h2⟩ := h
  exact ⟨hv, lv, e, (LsS.ls (LsS.keep h1 (fun _ e => e) (fun k e => hb k e.1 e.2)) (fun _ e => e.2)).ints, (LsS.ls (LsS.keep h2 (fun _ e => e) (fun k e => hb k e.1 e.2)) (fun _ e => e.2)).ints⟩
theorem Kept.then {S : Nat → Prop} {w w' w'' : World} (h : Kept (fun _ => False) w w') (h' : Kept S w' w'') : Kept S w w'' := (h.mono (fun _ _ f => f.elim) : Kept S w w').trans h' (fun _ _ e => e)
theorem given15w (w : World) (B : Nat) (v : Value) (hd lp : List Int) (hv : WordV B w v hd lp) (hB : B ≤ w.heap.size) :
    Calls Tryz.prog 15 #[v] w fun e w' => Kept (fun _ => False) w w' ∧ ∃ u, e = .returned u ∧ WordV w'.heap.size w' u hd lp := by
  obtain ⟨hv1, lv1, rfl, h1, h2⟩ := id hv
  obtain ⟨_, _, _, hl1⟩ := h1.form
  obtain ⟨_, _, _, hl2⟩ := h2.form
  refine (given15 w B _ hd lp hv hB).mono ?_
  rintro e w' ⟨a, c, a', c', rfl, n1, n2, _⟩
  exact ⟨n1.1, _, rfl, _, _, rfl, n1.ints hl1, n2.ints hl2⟩
theorem same18t (w : World) (B C : Nat) (va vb : Value) (hd lp : List Int) (ha : WordV B w va hd lp) (hb : WordV C w vb hd lp) (hB : B ≤ w.heap.size) (hC : C ≤ w.heap.size) :
    Calls Tryz.prog 18 #[va, vb] w fun e w' => Kept (fun _ => False) w w' ∧ e = .returned (.bool true) := by
  have h := same18 w B C va vb hd lp hd lp ha hb hB hC
  simpa using h
theorem wordT_u {lo : Nat} {w w' : World} {v : Value} {hd lp : List Int} (h : WordT lo w v hd lp) (hk : Kept (fun _ => False) w w') : ∃ a c a' c', v = .agg #[.slice a hd.length c, .slice a' lp.length c'] ∧ LsU 3 lo w.heap.size w' (.slice a hd.length c) (hd.map (Value.int .i64)) ∧ LsU 3 lo w.heap.size w' (.slice a' lp.length c') (lp.map (Value.int .i64)) ∧ hd.length ≤ 17592186044416 ∧ lp.length ≤ 17592186044416 := by
  obtain ⟨hv, lv, rfl, h1, h2⟩ := h
  obtain ⟨a, c, e1, hl1⟩ := h1.lsn.ls.form
  obtain ⟨a', c', e2, hl2⟩ := h2.lsn.ls.form
  simp only [List.length_map] at e1 e2 hl1 hl2
  subst e1 e2
  exact ⟨a, c, a', c', rfl, h1.lsu hk, h2.lsu hk, hl1, hl2⟩
end Go.Proofs.YtdbpdanocpfboabGreatDoor

/- The law's Same of no model and one. -/
namespace Go.Proofs.YtdbpdanocpfboabGreatDoor
open Go.RowKit

theorem ModV.ints {B : Nat} {w : World} {a b c : Value} {m : MD} (h : ModV B w (.agg #[a, b, c]) m) : IntsV B w b m.letters := by
  obtain ⟨_, _, _, e, _, h, _⟩ := h.ex
  injection e with e
  injection e with e
  injection e with _ e
  injection e with e _
  rw [e]
  exact h

set_option maxRecDepth 100000 in
set_option maxHeartbeats 2000000 in
theorem same8_nil (w : World) (B C : Nat) (v v' : Value) (m : MD) (hm : ModV B w v mdN) (hB : B ≤ w.heap.size) (hm' : ModV C w v' m) (hC : C ≤ w.heap.size) (hne : m.letters ≠ []) : Calls Tryz.prog 8 #[v, v'] w fun e w' => Kept (fun _ => False) w w' ∧ e = .returned (.bool false) := by
  obtain ⟨na, nc, la, lc, ta, tc, rfl⟩ := hm'.form
  obtain ⟨na', nc', la', lc', ta', tc', rfl⟩ := hm.form
  obtain ⟨W0, hW0⟩ : ∃ W0, (w.alloc (.cells #[.slice na' 0 nc', .slice la' 0 lc', .slice ta' 0 tc'] 26)).alloc (.cells #[.slice na m.names.length nc, .slice la m.letters.length lc, .slice ta m.tos.length tc] 30) = W0 := ⟨_, rfl⟩
  have k0 : Kept (fun _ => False) w W0 := by rw [← hW0]; exact ((Kept.refl _ _).alloc _).alloc _
  have b0 : W0.heap[w.heap.size]? = some (.cells #[.slice na' 0 nc', .slice la' 0 lc', .slice ta' 0 tc'] 26 (0, 0)) := by rw [← hW0]; exact (Below.heap_alloc _ _ _ (by simp)).trans (alloc_blk _ _)
  have b1 : W0.heap[w.heap.size + 1]? = some (.cells #[.slice na m.names.length nc, .slice la m.letters.length lc, .slice ta m.tos.length tc] 30 (0, 0)) := by rw [← hW0]; have := alloc_blk (w.alloc (.cells #[.slice na' 0 nc', .slice la' 0 lc', .slice ta' 0 tc'] 26)) (.cells #[.slice na m.names.length nc, .slice la m.letters.length lc, .slice ta m.tos.length tc] 30); rwa [World.size_alloc] at this
  have hl : IntsV C W0 (.slice la m.letters.length lc) m.letters := (hm'.kept k0 hC).ints
  have hl' : IntsV B W0 (.slice la' 0 lc') [] := (hm.kept k0 hB).ints
  have C1 := ints33 W0 B C (.slice la' 0 lc') (.slice la m.letters.length lc) [] m.letters hl' hl (Nat.le_trans hB k0.size) (Nat.le_trans hC k0.size)
  have hd : decide ([] = m.letters) = false := by simpa using hne.symm
  rw [hd] at C1
  have x1 : W0.cell? ⟨w.heap.size, 1, none⟩ = some (.slice la' 0 lc') := blk_cell b0 1
  have y1 : W0.cell? ⟨w.heap.size + 1, 1, none⟩ = some (.slice la m.letters.length lc) := blk_cell b1 1
  have HK0 : Hid (Kept (fun _ => False) w W0) := k0
  clear b0 b1 k0 hl hm' hd hm hl'
  change Calls Tryz.prog 8 #[.agg #[.slice na' 0 nc', .slice la' 0 lc', .slice ta' 0 tc'], _] w _
  go_enter Tryz.func8, Tryz.ntmps8
  go_wp2_with (go_at_call 33; refine C1.mono ?_; rintro e w1 ⟨k1, rfl⟩)
  go_ret
  exact ⟨HK0.out.trans k1 (fun _ _ f => f), rfl⟩
end Go.Proofs.YtdbpdanocpfboabGreatDoor
