/- Walks of the document's own answers of words: again, cut. -/
import Derived.Test.YtdbpdanocpfboaaDoorVRef1
namespace Go.Proofs.YtdbpdanocpfboaaDoor
open Go.RowKit

def againB (l : List Int) (n : Nat) : Bool := decide (l.length % n = 0) && (List.range l.length).all fun i => decide (i < n) || decide (l.getD i 0 = l.getD (i - n) 0)
theorem againB_iff (l : List Int) (n : Nat) : againB l n = true ↔ n ∣ l.length ∧ IsPer l n := by
  simp only [againB, Bool.and_eq_true, decide_eq_true_eq, List.all_eq_true, List.mem_range, Bool.or_eq_true, IsPer]
  constructor
  · rintro ⟨h1, h2⟩
    exact ⟨Nat.dvd_of_mod_eq_zero h1, fun i hi hl => (h2 i hl).resolve_left (by omega)⟩
  · rintro ⟨h1, h2⟩
    refine ⟨Nat.mod_eq_zero_of_dvd h1, fun i hl => ?_⟩
    by_cases h : i < n
    · exact .inl h
    · exact .inr (h2 i (by omega) hl)
theorem againB_false {l : List Int} {n : Nat} (h : ¬ (n ∣ l.length ∧ IsPer l n)) : againB l n = false := by
  cases hb : againB l n with
  | false => rfl
  | true => exact absurd ((againB_iff l n).1 hb) h

set_option maxRecDepth 100000 in
set_option maxHeartbeats 1000000 in
theorem again71 (w : World) (B : Nat) (v : Value) (l : List Int) (n : Nat) (h : IntsV B w v l) (hB : B ≤ w.heap.size) (h1 : 1 ≤ n) (hn : n ≤ 20000) :
    Calls Tryd.prog 71 #[v, .int .i64 (n : Int)] w fun e w' => Kept (fun _ => False) w w' ∧ e = .returned (.bool (againB l n)) := by
  obtain ⟨aa, ac, rfl, hal⟩ := h.form
  have hnz : ¬ n = 0 := by omega
  have hmod : (l.length : Int).tmod (n : Int) = ((l.length % n : Nat) : Int) := by
    rw [Int.tmod_eq_emod_of_nonneg (by omega)]
    rfl
  have HA : Hid (IntsV B w (.slice aa l.length ac) l) := h
  clear h
  by_cases hd : l.length % n = 0
  · have hdb : (((l.length % n : Nat) : Int) != 0) = false := by simp [hd]
    have HD : Hid (n ∣ l.length) := Nat.dvd_of_mod_eq_zero hd
    generalize l.length % n = r at *
    go_enter Tryd.func71, Tryd.ntmps71
    go_wp2
    go_loopw [5] (fun i wr => ∃ k : Nat, n ≤ k ∧ i = .int .i64 k ∧ Kept (fun _ => False) w wr ∧ ∀ j, n ≤ j → j < k → j < l.length → l.getD j 0 = l.getD (j - n) 0) (fun i _ => l.length - (intOf i).toNat)
    case atStart => exact ⟨n, Nat.le_refl _, rfl, Kept.refl _ _, fun j h1 h2 => absurd h1 (by omega)⟩
    case round =>
      obtain ⟨k, hk, rfl, hkw, heq⟩ := hrel
      have HQ : Hid (∀ j, n ≤ j → j < k → j < l.length → l.getD j 0 = l.getD (j - n) 0) := heq
      clear heq
      by_cases hlt : k < l.length
      · obtain ⟨q, hq⟩ : ∃ q, k = n + q := ⟨k - n, by omega⟩
        obtain ⟨_, _, e1, _, _, q1⟩ := HA.out.below (hkw.below hB (fun _ f => f.elim))
        obtain ⟨b1, o1, r1, _, d1⟩ := q1 k l[k] (List.getElem?_eq_getElem hlt)
        have hql : q < l.length := by omega
        obtain ⟨b2, o2, r2, _, d2⟩ := q1 q l[q] (List.getElem?_eq_getElem hql)
        cases e1
        subst r1
        simp only [Option.some.injEq, Addr.mk.injEq, and_true] at r2
        obtain ⟨rfl, rfl⟩ := r2
        have hi1 : (k : Int) < (l.length : Int) := by omega
        have hi2 : (q : Int) < (l.length : Int) := by omega
        have hsub : ((k : Int) - (n : Int)) = (q : Int) := by omega
        clear q1
        have HX : Hid (l.getD k 0 = l[k]) := by simp [Hid, hlt]
        have HY : Hid (l.getD (k - n) 0 = l[q]) := by rw [Hid, show k - n = q by omega]; simp [hql]
        have HK : Hid (k = n + q) := hq
        clear hq
        by_cases he : l[k] = l[q]
        · have hbb : (l[k] != l[q]) = false := by simpa using he
          have HE : Hid (l.getD k 0 = l.getD (k - n) 0) := by rw [Hid, HX.out, HY.out, he]
          generalize l[k] = x at *
          generalize l[q] = y at *
          go_wp2
          go_region
          go_wp2
          go_roundw
          case rel => exact ⟨k + 1, by omega, by go_num, hkw.drew, fun j h1 h2 h3 => by
            rcases Nat.lt_succ_iff_lt_or_eq.1 h2 with h | rfl
            · exact HQ.out j h1 h h3
            · exact HE.out⟩
          case measure => simp [intOf]; omega
        · have hbb : (l[k] != l[q]) = true := by simpa using he
          have HE : Hid (¬ IsPer l n) := fun h => he (by rw [← HX.out, ← HY.out]; exact h k hk hlt)
          generalize l[k] = x at *
          generalize l[q] = y at *
          go_wp2
          go_region
          go_wp2
          go_ret
          exact ⟨hkw.drew, ret_bool (againB_false (fun h => HE.out h.2)).symm⟩
      · have hlti : ¬ (k : Int) < (l.length : Int) := by omega
        have HE : Hid (IsPer l n) := fun j h1 h2 => HQ.out j h1 (by omega) h2
        go_wp2
        go_ret
        exact ⟨hkw, ret_bool ((againB_iff l n).2 ⟨HD.out, HE.out⟩).symm⟩
  · have hdb : (((l.length % n : Nat) : Int) != 0) = true := by simp; omega
    have HD : Hid (¬ n ∣ l.length) := fun h => hd (Nat.mod_eq_zero_of_dvd h)
    generalize l.length % n = r at *
    go_enter Tryd.func71, Tryd.ntmps71
    go_wp2
    go_ret
    exact ⟨Kept.refl _ _, ret_bool (againB_false (fun h => HD.out h.1)).symm⟩

theorem own_ints {w : World} {base : Nat} {v : Value} {n : Nat} {xs : List Int} (h : w.ownsRow base 3 1 v n (xs.map (Value.int .i64))) (hl : n ≤ 17592186044416) : IntsV w.heap.size w v xs := by
  obtain ⟨h1, h2⟩ := h
  have hn : xs.length = n := by simpa using h1
  rcases h2 with ⟨rfl, h0⟩ | ⟨g, cap, cur, rfl, hb, hh, hc, hc2, hs, ht⟩
  · subst h0
    have : xs = [] := List.length_eq_zero_iff.1 hn
    subst this
    exact ⟨none, 0, rfl, Nat.le_refl _, by simp, fun i x hx => by simp at hx⟩
  · refine ⟨some ⟨g, 0, none⟩, cap, by rw [hn], by omega, by omega, fun i x hx => ⟨g, 0, rfl, (Array.getElem?_eq_some_iff.1 hh).1, ?_⟩⟩
    obtain ⟨hi, rfl⟩ := List.getElem?_eq_some_iff.1 hx
    have h3 : (cur.toList.take (n * 1))[i]? = some (.int .i64 xs[i]) := by
      rw [ht, List.getElem?_map, hx]
      rfl
    rw [List.getElem?_take_of_lt (by omega)] at h3
    have h4 : cur[i]? = some (.int .i64 xs[i]) := by simpa using h3
    simp [World.cell?, hh, h4]

theorem IntsV.set {B : Nat} {w : World} {v : Value} {xs : List Int} (h : IntsV B w v xs) {p : Addr} (hp : ∀ b, some b = v.ownBlock → p.block ≠ b) (u : Value) : IntsV B (w.setCell p u) v xs := by
  obtain ⟨a, cap, rfl, hc, hc2, hx⟩ := h
  refine ⟨a, cap, rfl, hc, hc2, fun i x hi => ?_⟩
  obtain ⟨b, off, rfl, hB, hcell⟩ := hx i x hi
  have hb : (w.setCell p u).heap[b]? = w.heap[b]? := Below.heap_setCell _ _ _ _ (fun e => hp b rfl e.symm)
  exact ⟨b, off, rfl, hB, (World.cell?_of_block (w := w) (a := ⟨b, off + i, none⟩) hb).trans hcell⟩
theorem IntsV.kept {B : Nat} {w w' : World} {v : Value} {xs : List Int} (h : IntsV B w v xs) (hk : Kept (fun _ => False) w w') (hB : B ≤ w.heap.size) : IntsV B w' v xs := h.below (hk.below hB (fun _ f => f.elim))

theorem cutW_succ (x : Nat → Int) (a n : Nat) : cutW x a (n + 1) = cutW x a n ++ [x (a + n)] := by simp [cutW, List.range_succ]

set_option maxRecDepth 100000 in
set_option maxHeartbeats 1000000 in
theorem cut72 (w : World) (B : Nat) (wv : Value) (hd lp : List Int) (a n : Nat) (hW : WordV B w wv hd lp) (hB : B ≤ w.heap.size) (hl : 0 < lp.length) (ha : a + n ≤ 40000) :
    Calls Tryd.prog 72 #[wv, .int .i64 (a : Int), .int .i64 (n : Int)] w fun e w' => Kept (fun _ => False) w w' ∧ ∃ v, e = .returned v ∧ IntsV w'.heap.size w' v (cutW (wAt hd lp) a n) ∧ ∀ b, some b = v.ownBlock → w.heap.size ≤ b := by
  obtain ⟨hv1, lv1, rfl, h1, h2⟩ := id hW
  obtain ⟨ha1, hc, rfl, hl1⟩ := h1.form
  obtain ⟨la, lc, rfl, hl2⟩ := h2.form
  obtain ⟨i0, hi, hz0, hz1, hz2⟩ := info_parts infoI
  have hk0 : Kept (fun _ => False) w (w.alloc (.cells #[.slice ha1 hd.length hc, .slice la lp.length lc] 48)) := (Kept.refl _ _).alloc _
  have hc0 : (w.alloc (.cells #[.slice ha1 hd.length hc, .slice la lp.length lc] 48)).cell? ⟨w.heap.size, 0, none⟩ = some (.slice ha1 hd.length hc) := by simp
  have hc1 : (w.alloc (.cells #[.slice ha1 hd.length hc, .slice la lp.length lc] 48)).cell? ⟨w.heap.size, 1, none⟩ = some (.slice la lp.length lc) := by simp
  go_enter Tryd.func72, Tryd.ntmps72
  go_upto_region 1 with fail
  generalize (w.alloc (.cells #[.slice ha1 hd.length hc, .slice la lp.length lc] 48)) = w1 at *
  have HW : Hid (WordV B w (.agg #[.slice ha1 hd.length hc, .slice la lp.length lc]) hd lp) := hW
  have hlt0 := lt_of_cell hc0
  simp only at hlt0
  clear hW h1 h2
  go_wp2
  go_loopw [7, 8, 9] (fun v7 v8 _ wr => ∃ k : Nat, k ≤ n ∧ v8 = .int .i64 ((a + k : Nat) : Int) ∧ Kept (fun _ => False) w1 wr ∧ wr.ownsRow w1.heap.size 3 1 v7 k ((cutW (wAt hd lp) a k).map (Value.int .i64))) (fun _ v8 _ _ => a + n - (intOf v8).toNat)
  case atStart => exact ⟨0, Nat.zero_le _, rfl, Kept.refl _ _, by simp [cutW], .inl ⟨rfl, rfl⟩⟩
  case round =>
    obtain ⟨k, hk, rfl, hkw, hown⟩ := hrel
    have d0 := (hkw.cell (p := ⟨w.heap.size, 0, none⟩) hlt0 (fun f => f)).trans hc0
    have d1 := (hkw.cell (p := ⟨w.heap.size, 1, none⟩) hlt0 (fun f => f)).trans hc1
    have hkk := hk0.trans hkw (fun _ _ f => f)
    have hW2 := HW.out.kept hkk hB
    have hB2 : B ≤ wr.heap.size := Nat.le_trans hB hkk.size
    by_cases hlt : k < n
    · have hlti : ((a + k : Nat) : Int) < (a : Int) + (n : Int) := by omega
      obtain ⟨x, hxe⟩ : ∃ x, wAt hd lp (a + k) = x := ⟨_, rfl⟩
      have HXE : Hid (wAt hd lp (a + k) = x) := hxe
      clear hxe
      have HOWN : Hid (wr.ownsRow w1.heap.size 3 1 u7 k ((cutW (wAt hd lp) a k).map (Value.int .i64))) := hown
      clear hown
      go_upto_region 6 with (go_at_call 66; refine (at66 _ B _ hd lp (a + k) hW2 hB2 (by omega) (by omega)).mono ?_; rintro e w3 ⟨hk3, rfl⟩; rw [HXE.out])
      have hkk3 := hkw.trans hk3 (fun _ _ f => f)
      have OWN3 : Hid (w3.ownsRow w1.heap.size 3 1 u7 k ((cutW (wAt hd lp) a k).map (Value.int .i64))) := ownsRow_of_block HOWN.out (fun q hq => hk3.block q (ownsRow_lt HOWN.out hq).1 (fun f => f))
      clear HOWN d0 d1 hW2
      go_wp2_with (at_builtin; refine wpList_append_own _ rfl _ _ 46 rfl w1.heap.size 3 i0 (.int .i64 0) 1 8 Tryd.underlying46 hi hz0 hz1 hz2 rfl (by decide) u7 k _ rfl (OWN3.out.alloc _) ⟨w3.heap.size, 0, none⟩ 1 1 [.int .i64 x] rfl rfl ?c1 ?c2 ?c3 ?c4 ?c5 ?_; rotate_left 5; intro v' w4 own4 gr4 _)
      case c1 =>
        intro j u hu
        match j with
        | 0 =>
          simp only [List.getElem?_cons_zero, Option.some.injEq] at hu
          subst hu
          simp [Addr.add]
        | j + 1 => simp at hu
      case c2 => intro u hu; simp only [List.mem_singleton] at hu; subst hu; rfl
      case c3 => unfold maxLen; omega
      case c4 => omega
      case c5 => simp; exact Nat.le_trans hkk3.size (Nat.le_succ _)
      go_roundw
      case rel =>
        refine ⟨k + 1, by omega, by go_num, ?_, ?_⟩
        · exact (hkk3.alloc _).grown gr4 (fun q h1 h2 => by have := (ownsRow_lt OWN3.out h2).2; omega)
        · rw [cutW_succ, HXE.out, List.map_append]
          exact own4
      case measure => simp [intOf]; omega
    · have hlti : ¬ ((a + k : Nat) : Int) < (a : Int) + (n : Int) := by omega
      have hkn : k = n := by omega
      have HI : Hid (IntsV wr.heap.size wr u7 (cutW (wAt hd lp) a n)) := by rw [Hid, ← hkn]; exact own_ints hown (by omega)
      have HN : Hid (∀ b, some b = u7.ownBlock → w.heap.size ≤ b) := fun b hb => Nat.le_trans hk0.size (ownsRow_lt hown hb).2
      clear hown hkn
      go_wp2
      go_ret
      exact ⟨hkk, u7, rfl, HI.out, HN.out⟩
end Go.Proofs.YtdbpdanocpfboaaDoor
