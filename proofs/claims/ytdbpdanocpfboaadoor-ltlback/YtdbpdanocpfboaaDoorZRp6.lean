import Derived.Test.YtdbpdanocpfboaaDoorZRp5
/- The document's own answer: how a text is read; one. -/
namespace Go.Proofs.YtdbpdanocpfboaaDoor
open Go.RowKit

theorem PostR.pre {w w1 W : World} {p : Nat} {s : ByteArray} {D : Nat} {A : Int} {q : PRes} {v : Value} (k : Kept (fun k => k = p) w w1) (h : PostR w1 p s D A q v W) : PostR w p s D A q v W := by
  have hs := k.size
  refine ⟨k.trans h.1 (fun _ _ e => e), ?_⟩
  cases q with
  | ok t j => exact ⟨h.2.1, h.2.2.keep (fun b hb => ⟨by omega, hb.2⟩) (fun _ _ => rfl)⟩
  | err e a => exact h.2
theorem PostR.dec {w W : World} {p : Nat} {s : ByteArray} {D : Nat} {A : Int} {q : PRes} {v : Value} (h : PostR w p s (D + 1) A q v W) (hp : p < w.heap.size) : PostR w p s D A q v (W.setCell ⟨p, 2, none⟩ (.int .i64 (D : Int))) := by
  have hk : Kept (fun k => k = p) W (W.setCell ⟨p, 2, none⟩ (.int .i64 (D : Int))) := (Kept.refl (fun k => k = p) W).setCell (p := ⟨p, 2, none⟩) (fun _ => rfl) _
  refine ⟨h.1.trans hk (fun _ _ e => e), ?_⟩
  cases q with
  | ok t j => exact ⟨h.2.1.setD D, h.2.2.keep (fun b hb => ⟨hb.1, Nat.lt_of_lt_of_le hb.2 hk.size⟩) (fun b hb => hk.block b hb.2 (fun e => by have := hb.1; omega))⟩
  | err e a =>
    obtain ⟨⟨I, h1, h2⟩, h3⟩ := h.2
    exact ⟨⟨I, h1.setD D, h2⟩, h3⟩
theorem RVS.one1 {S : Nat → Prop} {w : World} {o1 n1 : Int} {a1 : Option Addr} {l1 c1 : Nat} {t : Tr} (h : RVS S w (.agg #[.int .i64 o1, .int .i64 n1, .slice a1 l1 c1]) t) (hS : ∀ b, S b → b < w.heap.size) (op : Int) (T : TypeId) :
    RVS (fun b => S b ∨ b = w.heap.size) (w.alloc (.cells #[.int .i64 o1, .int .i64 n1, .slice a1 l1 c1] T)) (.agg #[.int .i64 op, .int .i64 0, .slice (some ⟨w.heap.size, 0, none⟩) 1 1]) (.mk op 0 [t]) := by
  obtain ⟨o, n, ks⟩ := t
  obtain ⟨ka, kb, ko, kc, e, e1, g⟩ := h
  injection e with e
  simp only [Array.mk.injEq, List.cons.injEq, Value.int.injEq, true_and, Value.slice.injEq, and_true] at e
  obtain ⟨rfl, rfl, rfl, rfl, rfl⟩ := e
  have kW : Kept (fun _ => False) w (w.alloc (.cells #[.int .i64 o1, .int .i64 n1, .slice a1 ks.length c1] T)) := (Kept.refl _ _).alloc _
  refine ⟨some ⟨w.heap.size, 0, none⟩, w.heap.size, 0, 1, rfl, fun _ => rfl, ⟨.inr rfl, ?_, ?_, a1, kb, ko, c1, ?_, e1, RsS.keep (fun b hb => Or.inl hb) (fun b hb => kW.block b (hS b hb) (fun f => f)) g⟩, trivial⟩
  all_goals (rw [World.cell?_alloc_at (hn := rfl)]; rfl)
theorem wordR_end {s : ByteArray} {i : Nat} (h : i = s.size) : wordR s i = .err 2 i := by
  have e : wendB s i = i := wendB_stay (fun g => by omega)
  have hz : (s.extract i i).size = 0 := by rw [size_extract (by omega)]; omega
  unfold wordR
  simp only [e]
  rw [if_neg (fun h => by rw [h] at hz; cases hz), if_neg (fun h => by rw [h] at hz; cases hz), if_neg (fun h => by omega)]
theorem ahd_0 : ahd 0 = none := rfl
theorem sigR_some {c : Nat} {op : Int} (h : ahd c = some op) : sigR c = op ∧ ¬ op < 0 := by
  have := ahd_op h
  exact ⟨by simp [sigR, h], by omega⟩
theorem sigR_none {c : Nat} (h : ahd c = none) : sigR c = -1 := by simp [sigR, h]

set_option maxRecDepth 100000 in
set_option maxHeartbeats 4000000 in
theorem one135 (s : ByteArray) (hs : s.size ≤ 200) (N : Nat) (w : World) (p i D : Nat) (A : Int) (ih : i < s.size → SaysP s N) (h : Pst w p s i D 0 A) (hi : i ≤ s.size) (hD : D ≤ 20) (hN : 8 * (s.size - i) ≤ N + 1) : CallR s 135 .one w p i D A := by
  obtain ⟨w1, hw1⟩ : ∃ w1, w1 = w.alloc (.cells #[.int .i64 0, .int .i64 0, .slice none 0 0] 30) := ⟨_, rfl⟩
  have k1 : Kept (fun _ => False) w w1 := by rw [hw1]; exact (Kept.refl _ _).alloc _
  have hr : Wb3 w1 w.heap.size (.int .i64 0) (.int .i64 0) (.slice none 0 0) := by rw [hw1]; exact Wb3.new _ _ _ _ _
  have H : Hid (Pst w1 p s i D 0 A) := h.kept k1
  have hpl := h.lt
  have hlr := hr.1
  have IH : Hid (i < s.size → SaysP s N) := ih
  have hsk := le_skipB s i
  have htop := skipB_top (s := s) hi
  obtain ⟨j, hj⟩ : ∃ j, skipB s i = j := ⟨_, rfl⟩
  have HJ : Hid (skipB s i = j) := hj
  rw [hj] at hsk htop
  unfold CallR
  go_enter Tryd.func135, Tryd.ntmps135
  go_upto_region 1 with fail
  rw [← hw1]
  clear hw1 h ih hj
  go_upto_region 2 with (go_at_call 47; refine (blanks47 _ p s i D 0 A H.out hi hs).mono ?_; rintro e w2 ⟨rfl, hp2, k2⟩; rw [HJ.out] at hp2)
  have HP2 : Hid (Pst w2 p s j D 0 A) := hp2
  have hr2 : Wb3 w2 w.heap.size (.int .i64 0) (.int .i64 0) (.slice none 0 0) := hr.keptS k2 (by omega)
  obtain ⟨c0, c1, c2, c3, c4, f1, f2, f3, f4⟩ := hp2
  by_cases hend : j = s.size
  · as_aux_lemma =>
      have hlti : ((j : Int) == (s.size : Int)) = true := by simp; omega
      have HPS : Hid (PS s .one i D (.err 2 j)) := by
        have h0 : byteN s (skipB s i) = 0 := by rw [HJ.out]; exact byteN_end (by omega)
        have := PS.word (s := s) (i := i) (d := D) (by rw [h0]; rfl) (by omega)
        rw [HJ.out, wordR_end hend] at this
        exact this
      clear hend
      go_upto_region 4 with fail
      go_quiet (fail)
      have kq : Kept (fun _ => False) w2 (w2.drewN nq) := (Kept.refl _ _).drewN _
      have HP3 : Hid (Pst (w2.drewN nq) p s j D 0 A) := HP2.out.kept kq
      have hr3 := hr2.kept kq
      have k3 : Kept (fun k => k = p) w1 (w2.drewN nq) := k2.drewN _
      clear c0 c1 c2 c3 c4 f1 f2 f3 f4 kq k2 hr2
      generalize w2.drewN nq = W3 at *
      obtain ⟨c0, c1, c2, c3, c4, f1, f2, f3, f4⟩ := id HP3.out
      go_upto_region 6 with (go_at_call 48; refine (fail48_ok _ p s j D A 2 (j : Int) HP3.out).mono ?_; rintro e w4 ⟨rfl, hp4, k4⟩)
      have HP4 : Hid (Pst w4 p s j D 2 (j : Int)) := hp4
      obtain ⟨_, ⟨y0, y1, y2⟩, y3, y4, y5⟩ := hr3.keptS k4 (by omega)
      have k34 : Kept (fun k => k = p) w1 w4 := k3.trans k4 (fun _ _ e => e)
      clear hp4 k4 k3 c0 c1 c2 c3 c4 f1 f2 f3 f4
      go_wp2
      refine bodyPost_ret (v := .agg #[.int .i64 0, .int .i64 0, .slice none 0 0]) (by simp [results, Tryd.results135, go_sem, y0, y1, y2]) rfl ⟨_, _, rfl, HPS.out, word_err k1 k34 rfl hpl HP4.out htop _ _ _⟩
  · have hlt : j < s.size := by omega
    have hlti : ((j : Int) == (s.size : Int)) = false := by simp; omega
    have hltii : (j : Int) < (s.size : Int) := by omega
    go_upto_region 4 with fail
    go_quiet (fail)
    have kq : Kept (fun _ => False) w2 (w2.drewN nq) := (Kept.refl _ _).drewN _
    have HP3 : Hid (Pst (w2.drewN nq) p s j D 0 A) := HP2.out.kept kq
    have hr3 := hr2.kept kq
    have k3 : Kept (fun k => k = p) w1 (w2.drewN nq) := k2.drewN _
    clear c0 c1 c2 c3 c4 f1 f2 f3 f4 kq k2 hr2
    generalize w2.drewN nq = W3 at *
    obtain ⟨c0, c1, c2, c3, c4, f1, f2, f3, f4⟩ := id HP3.out
    have HBB : (s[j]'hlt).toNat = byteN s j := (byteN_get hlt).symm
    have hc256 := byteN_lt s j
    go_upto_region 7 with fail
    go_quiet (fail)
    have kq : Kept (fun _ => False) W3 (W3.drewN nq) := (Kept.refl _ _).drewN _
    have HP4 : Hid (Pst (W3.drewN nq) p s j D 0 A) := HP3.out.kept kq
    have hr4 := hr3.kept kq
    have k4 : Kept (fun k => k = p) w1 (W3.drewN nq) := k3.drewN _
    clear c0 c1 c2 c3 c4 f1 f2 f3 f4 kq k3 hr3
    generalize W3.drewN nq = W4 at *
    obtain ⟨c0, c1, c2, c3, c4, f1, f2, f3, f4⟩ := id HP4.out
    try rw [HBB]
    have HC : Hid (byteN s (skipB s i) = byteN s j) := by rw [Hid, HJ.out]
    clear HBB
    generalize byteN s j = c at *
    rcases hop : ahd c with _ | op
    · have HS : Hid (sigR c = -1) := sigR_none hop
      by_cases h40 : c = 40
      · subst h40
        have HS : Hid (sigR 40 = -1) := rfl
        by_cases hd : D = 20
        · as_aux_lemma =>
            have hDe : ((D : Int) == 20) = true := by simp; omega
            have HPS : Hid (PS s .one i D (.err 3 j)) := by
              have := PS.deep (s := s) (i := i) (.inr HC.out)
              rw [HJ.out] at this
              rw [Hid, hd]
              exact this
            clear hd hop
            go_upto_region 11 with (go_at_call 137; refine (sign137 _ 40 hc256).mono ?_; rintro e w5 ⟨rfl, hx5⟩; rw [hx5, HS.out]; clear hx5)
            go_upto_region 13 with (go_at_call 48; refine (fail48_ok _ p s j D A 3 (j : Int) HP4.out).mono ?_; rintro e w6 ⟨rfl, hp6, k6⟩)
            have HP6 : Hid (Pst w6 p s j D 3 (j : Int)) := hp6
            obtain ⟨_, ⟨y0, y1, y2⟩, y3, y4, y5⟩ := hr4.keptS k6 (by omega)
            have k46 : Kept (fun k => k = p) w1 w6 := k4.trans k6 (fun _ _ e => e)
            clear hp6 k6 k4 c0 c1 c2 c3 c4 f1 f2 f3 f4
            go_wp2
            refine bodyPost_ret (v := .agg #[.int .i64 0, .int .i64 0, .slice none 0 0]) (by simp [results, Tryd.results135, go_sem, y0, y1, y2]) rfl ⟨_, _, rfl, HPS.out, word_err k1 k46 rfl hpl HP6.out htop _ _ _⟩
        · as_aux_lemma =>
            have hDe : ((D : Int) == 20) = false := by simp; omega
            have HP5 : Hid (Pst ((W4.setCell ⟨p, 2, none⟩ (.int .i64 ((D + 1 : Nat) : Int))).setCell ⟨p, 1, none⟩ (.int .i64 ((j + 1 : Nat) : Int))) p s (j + 1) (D + 1) 0 A) := (HP4.out.setD (D + 1)).setI (j + 1)
            have K5 : Hid (Kept (fun k => k = p) w1 ((W4.setCell ⟨p, 2, none⟩ (.int .i64 ((D + 1 : Nat) : Int))).setCell ⟨p, 1, none⟩ (.int .i64 ((j + 1 : Nat) : Int)))) := (k4.setCell (p := ⟨p, 2, none⟩) (fun _ => rfl) _).setCell (p := ⟨p, 1, none⟩) (fun _ => rfl) _
            have hin1 : wrap64 ((D : Int) + 1) = ((D + 1 : Nat) : Int) := by unfold wrap64; omega
            have hin2 : wrap64 ((j : Int) + 1) = ((j + 1 : Nat) : Int) := by unfold wrap64; omega
            have HJB : Hid (s.size ≤ 200 ∧ i ≤ s.size ∧ D ≤ 20 ∧ 8 * (s.size - i) ≤ N + 1 ∧ p < w.heap.size ∧ w.heap.size < w1.heap.size ∧ j < s.size ∧ i ≤ j ∧ D ≠ 20) := ⟨hs, hi, hD, hN, hpl, hlr, hlt, hsk, hd⟩
            have HOP : Hid (ahd 40 = none) := hop
            have K1 : Hid (Kept (fun _ => False) w w1) := k1
            have HR : Hid (Wb3 w1 w.heap.size (.int .i64 0) (.int .i64 0) (.slice none 0 0)) := hr
            clear hd hop hs hi hD hN hpl hlr hlt hsk hend hlti hltii htop k4 k1 hr hr4
            go_upto_region 11 with (go_at_call 137; refine (sign137 _ 40 hc256).mono ?_; rintro e w5 ⟨rfl, hx5⟩; rw [hx5, HS.out]; clear hx5)
            go_upto_region 16 with fail
            obtain ⟨hs, hi, hD, hN, hpl, hlr, hlt, hsk, hd⟩ := HJB.out
            obtain ⟨W5, hW5⟩ : ∃ W5, W5 = ((W4.setCell ⟨p, 2, none⟩ (.int .i64 ((D + 1 : Nat) : Int))).setCell ⟨p, 1, none⟩ (.int .i64 ((j + 1 : Nat) : Int))) := ⟨_, rfl⟩
            have hW5' : ((W4.setCell ⟨p, 2, none⟩ (.int .i64 ((D : Int) + 1))).setCell ⟨p, 1, none⟩ (.int .i64 ((j : Int) + 1))) = W5 := by rw [hW5]; rfl
            rw [← hW5] at HP5 K5
            first | rw [hW5'] | rw [← hW5]
            clear hW5 hW5' c0 c1 c2 c3 c4 f1 f2 f3 f4 hin1 hin2 HP2 HP3 HP4 HJB hDe
            obtain ⟨W6, hW6⟩ : ∃ W6, W6 = W5.alloc (.cells #[.int .i64 0, .int .i64 0, .slice none 0 0] 30) := ⟨_, rfl⟩
            have k56 : Kept (fun _ => False) W5 W6 := by rw [hW6]; exact (Kept.refl _ _).alloc _
            have b6 : Wb3 W6 W5.heap.size (.int .i64 0) (.int .i64 0) (.slice none 0 0) := by rw [hW6]; exact Wb3.new _ _ _ _ _
            have HP6 : Hid (Pst W6 p s (j + 1) (D + 1) 0 A) := HP5.out.kept k56
            have h5 := K5.out.size
            have hr6 : Wb3 W6 w.heap.size (.int .i64 0) (.int .i64 0) (.slice none 0 0) := (HR.out.keptS K5.out (by omega)).kept k56
            have hb6 := b6.1
            have hne : p ≠ W5.heap.size := by omega
            go_upto_region 17 with fail
            rw [← hW6]
            clear hW6
            generalize hbf : W5.heap.size = bf at *
            go_upto_region 19 with (go_at_call 46; refine ((IH.out (by omega)).form W6 p (j + 1) (D + 1) A HP6.out (by omega) (by omega) (by omega)).mono ?_; rintro e w7 ⟨v, q, rfl, hps, hpost⟩; obtain ⟨o1, n1, a1, l1, e1, rfl⟩ := hpost.agg; obtain ⟨_, ⟨x0, x1, x2⟩, x3, x4, x5⟩ := id (b6.keptS hpost.1 (Ne.symm hne)); have HPO : Hid (PostR W6 p s (D + 1) A q (.agg #[.int .i64 o1, .int .i64 n1, .slice a1 l1 e1]) w7) := hpost; have HPSf : Hid (PS s (.read 0) (j + 1) (D + 1) q) := hps; clear hpost hps)
            have HQ8 := HPO.out.fin (r := bf) k56 (by omega) hb6 (by omega) (.int .i64 o1) (.int .i64 n1) (.slice a1 l1 e1)
            have b8 := (b6.keptS HPO.out.1 (Ne.symm hne)).store (.int .i64 o1) (.int .i64 n1) (.slice a1 l1 e1)
            have hr8 : Wb3 (((w7.setCell ⟨bf, 0, none⟩ (.int .i64 o1)).setCell ⟨bf, 1, none⟩ (.int .i64 n1)).setCell ⟨bf, 2, none⟩ (.slice a1 l1 e1)) w.heap.size (.int .i64 0) (.int .i64 0) (.slice none 0 0) := (hr6.keptS HPO.out.1 (by omega)).other3 (by omega) _ _ _
            clear x0 x1 x2 x3 x4 x5
            have hb7 := HPO.out.1.size
            clear HPO
            generalize (((w7.setCell ⟨bf, 0, none⟩ (.int .i64 o1)).setCell ⟨bf, 1, none⟩ (.int .i64 n1)).setCell ⟨bf, 2, none⟩ (.slice a1 l1 e1)) = w8 at *
            cases q with
            | err x a => as_aux_lemma =>
              obtain ⟨⟨I, hP, hI⟩, _⟩ := HQ8.2
              have hx : x ≠ 0 := by
                rcases (HPSf.out.err_place (by omega) rfl).1 with h | h <;> omega
              have HPS : Hid (PS s .one i D (.err x a)) := PS.oerr HC.out hd (by rw [HJ.out]; exact HPSf.out)
              have HQ : Hid (PostR W5 p s (D + 1) A (.err x a) (.agg #[.int .i64 o1, .int .i64 n1, .slice a1 l1 e1]) w8) := HQ8
              have HP8 : Hid (Pst w8 p s I (D + 1) x (a : Int)) := hP
              clear HQ8 hP HPSf
              go_upto_region 21 with (go_at_call 77; refine (has77_no _ p s I (D + 1) x a 41 hx HP8.out hI hs).mono ?_; rintro e w9 ⟨rfl, hp9, k9⟩)
              have HP9 : Hid (Pst w9 p s (skipB s I) (D + 1) x (a : Int)) := hp9
              have ht9 := skipB_top (s := s) hI
              obtain ⟨c0, c1, c2, c3, c4, f1, f2, f3, f4⟩ := hp9
              go_upto_region 24 with (go_at_call 48; refine (fail48_no _ p s (skipB s I) (D + 1) x a 2 _ hx HP9.out).mono ?_; rintro e w10 ⟨rfl, hp10, k10⟩)
              have k80 : Kept (fun k => k = p) w8 w10 := k9.trans k10 (fun _ _ e => e)
              have HQ10 : Hid (PostR W5 p s (D + 1) A (.err x a) (.agg #[.int .i64 o1, .int .i64 n1, .slice a1 l1 e1]) w10) := HQ.out.onErr k80 hp10 ht9
              obtain ⟨_, ⟨x0, x1, x2⟩, _⟩ := b8.keptS k80 (Ne.symm hne)
              obtain ⟨_, ⟨y0, y1, y2⟩, y3, y4, y5⟩ := hr8.keptS k80 (by omega)
              clear c0 c1 c2 c3 c4 f1 f2 f3 f4 k9 k10 k80
              obtain ⟨c0, c1, c2, c3, c4, f1, f2, f3, f4⟩ := hp10
              have hin : wrap64 (((D + 1 : Nat) : Int) - 1) = (D : Int) := by unfold wrap64; omega
              go_wp2
              refine bodyPost_ret (v := .agg #[.int .i64 o1, .int .i64 n1, .slice a1 l1 e1]) (by simp [results, Tryd.results135, go_sem, y0, y1, y2]) rfl ⟨_, _, rfl, HPS.out, ((HQ10.out.dec (by omega)).pre K5.out).fin K1.out (Nat.le_refl _) hlr hpl _ _ _⟩
            | ok f i1 =>
              have hinf := HPSf.out.info (by omega) rfl
              have hi1 : i1 ≤ s.size := hinf.2.2.1
              have hsk1 : skipB s i1 = i1 := hinf.2.2.2 (by omega)
              have HQ : Hid (PostR W5 p s (D + 1) A (.ok f i1) (.agg #[.int .i64 o1, .int .i64 n1, .slice a1 l1 e1]) w8) := HQ8
              have HP8 : Hid (Pst w8 p s i1 (D + 1) 0 A) := HQ8.2.1
              have HSK : Hid (skipB s i1 = i1) := hsk1
              have HPF : Hid (PS s (.read 0) (skipB s i + 1) (D + 1) (.ok f i1)) := by rw [Hid, HJ.out]; exact HPSf.out
              clear HQ8 hinf hsk1 HPSf
              by_cases h41 : byteN s i1 = 41
              · as_aux_lemma =>
                  have HPS : Hid (PS s .one i D (.ok f (i1 + 1))) := PS.open HC.out hd HPF.out h41
                  go_upto_region 24 with (go_at_call 77; refine (has77_yes _ p s i1 (D + 1) A 41 (by decide) (by rw [HSK.out]; exact h41) HP8.out hi1 hs).mono ?_; rw [HSK.out]; rintro e w9 ⟨rfl, hp9, k9⟩)
                  have HQ9 : Hid (PostR W5 p s (D + 1) A (.ok f (i1 + 1)) (.agg #[.int .i64 o1, .int .i64 n1, .slice a1 l1 e1]) w9) := HQ.out.on k9 hp9 (by omega)
                  obtain ⟨_, ⟨x0, x1, x2⟩, _⟩ := b8.keptS k9 (Ne.symm hne)
                  obtain ⟨_, ⟨y0, y1, y2⟩, y3, y4, y5⟩ := hr8.keptS k9 (by omega)
                  clear k9 h41
                  obtain ⟨c0, c1, c2, c3, c4, f1, f2, f3, f4⟩ := hp9
                  have hin : wrap64 (((D + 1 : Nat) : Int) - 1) = (D : Int) := by unfold wrap64; omega
                  go_wp2
                  refine bodyPost_ret (v := .agg #[.int .i64 o1, .int .i64 n1, .slice a1 l1 e1]) (by simp [results, Tryd.results135, go_sem, y0, y1, y2]) rfl ⟨_, _, rfl, HPS.out, ((HQ9.out.dec (by omega)).pre K5.out).fin K1.out (Nat.le_refl _) hlr hpl _ _ _⟩
              · as_aux_lemma =>
                  have HPS : Hid (PS s .one i D (.err 2 i1)) := PS.obad HC.out hd HPF.out h41
                  go_upto_region 21 with (go_at_call 77; refine (has77_not _ p s i1 (D + 1) A 41 (by decide) (by rw [HSK.out]; exact h41) HP8.out hi1 hs).mono ?_; rw [HSK.out]; rintro e w9 ⟨rfl, hp9, k9⟩)
                  have HP9 : Hid (Pst w9 p s i1 (D + 1) 0 A) := hp9
                  obtain ⟨c0, c1, c2, c3, c4, f1, f2, f3, f4⟩ := hp9
                  clear h41
                  go_upto_region 24 with (go_at_call 48; refine (fail48_ok _ p s i1 (D + 1) A 2 (i1 : Int) HP9.out).mono ?_; rintro e w10 ⟨rfl, hp10, k10⟩)
                  have k80 : Kept (fun k => k = p) w8 w10 := k9.trans k10 (fun _ _ e => e)
                  have HQ10 : Hid (PostR W5 p s (D + 1) A (.err 2 i1) (.agg #[.int .i64 o1, .int .i64 n1, .slice a1 l1 e1]) w10) := ⟨HQ.out.1.trans k80 (fun _ _ e => e), ⟨i1, hp10, hi1⟩, _, _, _, _, _, rfl⟩
                  obtain ⟨_, ⟨x0, x1, x2⟩, _⟩ := b8.keptS k80 (Ne.symm hne)
                  obtain ⟨_, ⟨y0, y1, y2⟩, y3, y4, y5⟩ := hr8.keptS k80 (by omega)
                  clear c0 c1 c2 c3 c4 f1 f2 f3 f4 k9 k10 k80
                  obtain ⟨c0, c1, c2, c3, c4, f1, f2, f3, f4⟩ := hp10
                  have hin : wrap64 (((D + 1 : Nat) : Int) - 1) = (D : Int) := by unfold wrap64; omega
                  go_wp2
                  refine bodyPost_ret (v := .agg #[.int .i64 o1, .int .i64 n1, .slice a1 l1 e1]) (by simp [results, Tryd.results135, go_sem, y0, y1, y2]) rfl ⟨_, _, rfl, HPS.out, ((HQ10.out.dec (by omega)).pre K5.out).fin K1.out (Nat.le_refl _) hlr hpl _ _ _⟩
      · as_aux_lemma =>
          have HPS : Hid (PS s .one i D (wordR s j)) := by
            have := PS.word (s := s) (i := i) (d := D) (by rw [HC.out]; exact hop) (by rw [HC.out]; exact h40)
            rw [HJ.out] at this
            exact this
          have hne : ((c : Int) != 40) = true := by simp; omega
          clear hop h40
          go_upto_region 10 with (go_at_call 137; refine (sign137 _ c hc256).mono ?_; rintro e w5 ⟨rfl, hx5⟩; rw [hx5, HS.out]; clear hx5)
          clear c0 c1 c2 c3 c4 f1 f2 f3 f4
          go_wp2_with (go_at_call 138; refine (word138 _ p s j D A HP4.out htop hs).mono ?_; rintro e w6 ⟨v, rfl, hpost⟩; obtain ⟨o1, n1, a1, l1, e1, rfl⟩ := hpost.agg; obtain ⟨_, ⟨y0, y1, y2⟩, y3, y4, y5⟩ := hr4.keptS hpost.1 (by omega); have HQ : Hid (PostR W4 p s D A (wordR s j) (.agg #[.int .i64 o1, .int .i64 n1, .slice a1 l1 e1]) w6) := hpost; clear hpost)
          refine bodyPost_ret (v := .agg #[.int .i64 o1, .int .i64 n1, .slice a1 l1 e1]) (by simp [results, Tryd.results135, go_sem, y0, y1, y2]) rfl ⟨_, _, rfl, HPS.out, (HQ.out.pre k4).fin k1 (Nat.le_refl _) hlr hpl _ _ _⟩
    · have HS : Hid (sigR c = op) := (sigR_some hop).1
      have hop0 : ¬ op < 0 := (sigR_some hop).2
      by_cases hd : D = 20
      · as_aux_lemma =>
          have hDe : ((D : Int) == 20) = true := by simp; omega
          have HPS : Hid (PS s .one i D (.err 3 j)) := by
            have := PS.deep (s := s) (i := i) (.inl ⟨op, by rw [HC.out]; exact hop⟩)
            rw [HJ.out] at this
            rw [Hid, hd]
            exact this
          clear hd hop
          go_upto_region 11 with (go_at_call 137; refine (sign137 _ c hc256).mono ?_; rintro e w5 ⟨rfl, hx5⟩; rw [hx5, HS.out]; clear hx5)
          go_upto_region 13 with (go_at_call 48; refine (fail48_ok _ p s j D A 3 (j : Int) HP4.out).mono ?_; rintro e w6 ⟨rfl, hp6, k6⟩)
          have HP6 : Hid (Pst w6 p s j D 3 (j : Int)) := hp6
          obtain ⟨_, ⟨y0, y1, y2⟩, y3, y4, y5⟩ := hr4.keptS k6 (by omega)
          have k46 : Kept (fun k => k = p) w1 w6 := k4.trans k6 (fun _ _ e => e)
          clear hp6 k6 k4 c0 c1 c2 c3 c4 f1 f2 f3 f4
          go_wp2
          refine bodyPost_ret (v := .agg #[.int .i64 0, .int .i64 0, .slice none 0 0]) (by simp [results, Tryd.results135, go_sem, y0, y1, y2]) rfl ⟨_, _, rfl, HPS.out, word_err k1 k46 rfl hpl HP6.out htop _ _ _⟩
      · as_aux_lemma =>
          have hDe : ((D : Int) == 20) = false := by simp; omega
          have HP5 : Hid (Pst ((W4.setCell ⟨p, 2, none⟩ (.int .i64 ((D + 1 : Nat) : Int))).setCell ⟨p, 1, none⟩ (.int .i64 ((j + 1 : Nat) : Int))) p s (j + 1) (D + 1) 0 A) := (HP4.out.setD (D + 1)).setI (j + 1)
          have K5 : Hid (Kept (fun k => k = p) w1 ((W4.setCell ⟨p, 2, none⟩ (.int .i64 ((D + 1 : Nat) : Int))).setCell ⟨p, 1, none⟩ (.int .i64 ((j + 1 : Nat) : Int)))) := (k4.setCell (p := ⟨p, 2, none⟩) (fun _ => rfl) _).setCell (p := ⟨p, 1, none⟩) (fun _ => rfl) _
          have hin1 : wrap64 ((D : Int) + 1) = ((D + 1 : Nat) : Int) := by unfold wrap64; omega
          have hin2 : wrap64 ((j : Int) + 1) = ((j + 1 : Nat) : Int) := by unfold wrap64; omega
          have HJB : Hid (s.size ≤ 200 ∧ i ≤ s.size ∧ D ≤ 20 ∧ 8 * (s.size - i) ≤ N + 1 ∧ p < w.heap.size ∧ w.heap.size < w1.heap.size ∧ j < s.size ∧ i ≤ j ∧ D ≠ 20) := ⟨hs, hi, hD, hN, hpl, hlr, hlt, hsk, hd⟩
          have HOP : Hid (ahd c = some op) := hop
          have K1 : Hid (Kept (fun _ => False) w w1) := k1
          have HR : Hid (Wb3 w1 w.heap.size (.int .i64 0) (.int .i64 0) (.slice none 0 0)) := hr
          clear hd hop hs hi hD hN hpl hlr hlt hsk hend hlti hltii htop k4 k1 hr hr4
          go_upto_region 11 with (go_at_call 137; refine (sign137 _ c hc256).mono ?_; rintro e w5 ⟨rfl, hx5⟩; rw [hx5, HS.out]; clear hx5)
          go_upto_region 16 with fail
          obtain ⟨hs, hi, hD, hN, hpl, hlr, hlt, hsk, hd⟩ := HJB.out
          obtain ⟨W5, hW5⟩ : ∃ W5, W5 = ((W4.setCell ⟨p, 2, none⟩ (.int .i64 ((D + 1 : Nat) : Int))).setCell ⟨p, 1, none⟩ (.int .i64 ((j + 1 : Nat) : Int))) := ⟨_, rfl⟩
          have hW5' : ((W4.setCell ⟨p, 2, none⟩ (.int .i64 ((D : Int) + 1))).setCell ⟨p, 1, none⟩ (.int .i64 ((j : Int) + 1))) = W5 := by rw [hW5]; rfl
          rw [← hW5] at HP5 K5
          first | rw [hW5'] | rw [← hW5]
          clear hW5 hW5' c0 c1 c2 c3 c4 f1 f2 f3 f4 hin1 hin2 HP2 HP3 HP4 HJB hDe
          obtain ⟨W6, hW6⟩ : ∃ W6, W6 = W5.alloc (.cells #[.int .i64 0, .int .i64 0, .slice none 0 0] 30) := ⟨_, rfl⟩
          have k56 : Kept (fun _ => False) W5 W6 := by rw [hW6]; exact (Kept.refl _ _).alloc _
          have b6 : Wb3 W6 W5.heap.size (.int .i64 0) (.int .i64 0) (.slice none 0 0) := by rw [hW6]; exact Wb3.new _ _ _ _ _
          have HP6 : Hid (Pst W6 p s (j + 1) (D + 1) 0 A) := HP5.out.kept k56
          have h5 := K5.out.size
          have hr6 : Wb3 W6 w.heap.size (.int .i64 0) (.int .i64 0) (.slice none 0 0) := (HR.out.keptS K5.out (by omega)).kept k56
          have hb6 := b6.1
          have hne : p ≠ W5.heap.size := by omega
          go_upto_region 17 with fail
          rw [← hW6]
          clear hW6
          generalize hbf : W5.heap.size = bf at *
          go_upto_region 23 with (go_at_call 135; refine ((IH.out (by omega)).one W6 p (j + 1) (D + 1) A HP6.out (by omega) (by omega) (by omega)).mono ?_; rintro e w7 ⟨v, q, rfl, hps, hpost⟩; obtain ⟨o1, n1, a1, l1, e1, rfl⟩ := hpost.agg; have HPO : Hid (PostR W6 p s (D + 1) A q (.agg #[.int .i64 o1, .int .i64 n1, .slice a1 l1 e1]) w7) := hpost; have HPSf : Hid (PS s .one (j + 1) (D + 1) q) := hps; clear hpost hps)
          have HPS : Hid (PS s .one i D (q.map fun t => .mk op 0 [t])) := PS.sign (by rw [HC.out]; exact HOP.out) hd (by rw [HJ.out]; exact HPSf.out)
          obtain ⟨w8, hw8⟩ : ∃ w8, w8 = w7.alloc (.cells #[.int .i64 o1, .int .i64 n1, .slice a1 l1 e1] 30) := ⟨_, rfl⟩
          have k78 : Kept (fun _ => False) w7 w8 := by rw [hw8]; exact (Kept.refl _ _).alloc _
          have b7 : Wb3 w8 w7.heap.size (.int .i64 o1) (.int .i64 n1) (.slice a1 l1 e1) := by rw [hw8]; exact Wb3.new _ _ _ _ _
          have HPO8 : Hid (PostR W6 p s (D + 1) A q (.agg #[.int .i64 o1, .int .i64 n1, .slice a1 l1 e1]) w8) := by rw [hw8]; exact HPO.out.al _
          rw [← hw8]
          have hb7 := HPO.out.1.size
          have hb8 := k78.size
          clear hw8 HPO HPSf
          obtain ⟨w9, hw9⟩ : ∃ w9, w9 = w8.alloc (.cells #[.int .i64 o1, .int .i64 n1, .slice a1 l1 e1] 30) := ⟨_, rfl⟩
          have k89 : Kept (fun _ => False) w8 w9 := by rw [hw9]; exact (Kept.refl _ _).alloc _
          have HQ9 : Hid (PostR W6 p s (D + 1) A (q.map fun t => .mk op 0 [t]) (.agg #[.int .i64 op, .int .i64 0, .slice (some ⟨w8.heap.size, 0, none⟩) 1 1]) w9) := by
            have hp8 := HPO8.out
            refine ⟨by rw [hw9]; exact hp8.1.alloc _, ?_⟩
            cases q with
            | ok t i1 =>
              refine ⟨hp8.2.1.kept k89, ?_⟩
              have := hp8.2.2.one1 (fun b hb => hb.2) op 30
              rw [← hw9] at this
              have h8 := hp8.1.size
              have h9 : w8.heap.size < w9.heap.size := by rw [hw9]; simp
              exact this.keep (fun b hb => by rcases hb with hb | rfl <;> omega) (fun _ _ => rfl)
            | err x a =>
              obtain ⟨⟨I, g1, g2⟩, _⟩ := hp8.2
              exact ⟨⟨I, g1.kept k89, g2⟩, _, _, _, _, _, rfl⟩
          have b9 := (b6.keptS HQ9.out.1 (Ne.symm hne))
          have hr9 := (hr6.keptS HQ9.out.1 (by omega : ¬ w.heap.size = p))
          have b8 := (b6.keptS HPO8.out.1 (Ne.symm hne))
          obtain ⟨z9, ⟨z0, z1, z2⟩, _⟩ := id b7
          obtain ⟨x9, ⟨x0, x1, x2⟩, x3, x4, x5⟩ := id b8
          have HW9 : Hid (w9 = w8.alloc (.cells #[.int .i64 o1, .int .i64 n1, .slice a1 l1 e1] 30)) := hw9
          clear hw9
          have hcm : (((w9.setCell ⟨bf, 0, none⟩ (.int .i64 op)).setCell ⟨bf, 1, none⟩ (.int .i64 0)).setCell ⟨bf, 2, none⟩ (.slice (some ⟨w8.heap.size, 0, none⟩) 1 1)) = ((((w8.setCell ⟨bf, 0, none⟩ (.int .i64 op)).setCell ⟨bf, 1, none⟩ (.int .i64 0)).setCell ⟨bf, 2, none⟩ (.slice (some ⟨w8.heap.size, 0, none⟩) 1 1)).alloc (.cells #[.int .i64 o1, .int .i64 n1, .slice a1 l1 e1] 30)) := by
            rw [HW9.out]
            simp [go_sem, x9]
          obtain ⟨w10, hw10⟩ : ∃ w10, w10 = ((((w8.setCell ⟨bf, 0, none⟩ (.int .i64 op)).setCell ⟨bf, 1, none⟩ (.int .i64 0)).setCell ⟨bf, 2, none⟩ (.slice (some ⟨w8.heap.size, 0, none⟩) 1 1)).alloc (.cells #[.int .i64 o1, .int .i64 n1, .slice a1 l1 e1] 30)) := ⟨_, rfl⟩
          have HQ10 : PostR W5 p s (D + 1) A (q.map fun t => .mk op 0 [t]) (.agg #[.int .i64 op, .int .i64 0, .slice (some ⟨w8.heap.size, 0, none⟩) 1 1]) w10 := by
            rw [hw10, ← hcm]
            exact HQ9.out.fin (r := bf) k56 (by omega) hb6 (by omega) (.int .i64 op) (.int .i64 0) (.slice (some ⟨w8.heap.size, 0, none⟩) 1 1)
          have b10 : Wb3 w10 bf (.int .i64 op) (.int .i64 0) (.slice (some ⟨w8.heap.size, 0, none⟩) 1 1) := by
            rw [hw10, ← hcm]
            exact b9.store (.int .i64 op) (.int .i64 0) (.slice (some ⟨w8.heap.size, 0, none⟩) 1 1)
          have hr10 : Wb3 w10 w.heap.size (.int .i64 0) (.int .i64 0) (.slice none 0 0) := by
            rw [hw10, ← hcm]
            exact hr9.other3 (c := bf) (by omega) (.int .i64 op) (.int .i64 0) (.slice (some ⟨w8.heap.size, 0, none⟩) 1 1)
          have HW10 : Hid (w10 = ((((w8.setCell ⟨bf, 0, none⟩ (.int .i64 op)).setCell ⟨bf, 1, none⟩ (.int .i64 0)).setCell ⟨bf, 2, none⟩ (.slice (some ⟨w8.heap.size, 0, none⟩) 1 1)).alloc (.cells #[.int .i64 o1, .int .i64 n1, .slice a1 l1 e1] 30))) := hw10
          have HX10 : Hid (PostR W5 p s (D + 1) A (q.map fun t => .mk op 0 [t]) (.agg #[.int .i64 op, .int .i64 0, .slice (some ⟨w8.heap.size, 0, none⟩) 1 1]) w10 ∧ Wb3 w10 bf (.int .i64 op) (.int .i64 0) (.slice (some ⟨w8.heap.size, 0, none⟩) 1 1) ∧ Wb3 w10 w.heap.size (.int .i64 0) (.int .i64 0) (.slice none 0 0)) := ⟨HQ10, b10, hr10⟩
          clear hw10 hcm HQ10 b10 hr10 HQ9 HPO8 HW9 b7 b9 hr9 b8
          go_upto_region 24 with fail
          rw [← HW10.out]
          obtain ⟨HQ10, b10, hr10⟩ := HX10.out
          clear HW10 HX10 z9 x9 z0 z1 z2 x0 x1 x2 x3 x4 x5
          obtain ⟨I, hE, hPx⟩ : ∃ I E A', Pst w10 p s I (D + 1) E A' := by
            cases q with
            | ok t i1 => exact ⟨_, _, _, HQ10.2.1⟩
            | err x a => obtain ⟨⟨I, g1, g2⟩, _⟩ := HQ10.2; exact ⟨_, _, _, g1⟩
          obtain ⟨A', hPx⟩ := hPx
          have HQ : Hid (PostR W5 p s (D + 1) A (q.map fun t => .mk op 0 [t]) (.agg #[.int .i64 op, .int .i64 0, .slice (some ⟨w8.heap.size, 0, none⟩) 1 1]) w10) := HQ10
          obtain ⟨_, ⟨x0, x1, x2⟩, _⟩ := id b10
          obtain ⟨_, ⟨y0, y1, y2⟩, y3, y4, y5⟩ := id hr10
          obtain ⟨c0, c1, c2, c3, c4, f1, f2, f3, f4⟩ := hPx
          have hin : wrap64 (((D + 1 : Nat) : Int) - 1) = (D : Int) := by unfold wrap64; omega
          clear HQ10 b10 hr10
          go_wp2
          refine bodyPost_ret (v := .agg #[.int .i64 op, .int .i64 0, .slice (some ⟨w8.heap.size, 0, none⟩) 1 1]) (by simp [results, Tryd.results135, go_sem, y0, y1, y2]) rfl ⟨_, _, rfl, HPS.out, ((HQ.out.dec (by omega)).pre K5.out).fin K1.out (Nat.le_refl _) hlr hpl _ _ _⟩
end Go.Proofs.YtdbpdanocpfboaaDoor
