import Derived.Test.YtdbpdanocpfboaaDoorZRp4
/- The document's own answer: how a text is read; the whole. -/
namespace Go.Proofs.YtdbpdanocpfboaaDoor
open Go.RowKit

set_option maxRecDepth 100000 in
set_option maxHeartbeats 400000 in
theorem form46 (s : ByteArray) (hs : s.size ≤ 200) (N : Nat) (ih : SaysP s N) (w : World) (p i D : Nat) (A : Int) (h : Pst w p s i D 0 A) (hi : i ≤ s.size) (hD : D ≤ 20) (hN : 8 * (s.size - i) + 5 ≤ N + 1) : CallR s 46 (.read 0) w p i D A := by
  obtain ⟨w1, hw1⟩ : ∃ w1, w1 = w.alloc (.cells #[.int .i64 0, .int .i64 0, .slice none 0 0] 30) := ⟨_, rfl⟩
  have k1 : Kept (fun _ => False) w w1 := by rw [hw1]; exact (Kept.refl _ _).alloc _
  have hr : Wb3 w1 w.heap.size (.int .i64 0) (.int .i64 0) (.slice none 0 0) := by rw [hw1]; exact Wb3.new _ _ _ _ _
  have H : Hid (Pst w1 p s i D 0 A) := h.kept k1
  have hpl := h.lt
  have IH : Hid (SaysP s N) := ih
  unfold CallR
  go_enter Tryd.func46, Tryd.ntmps46
  go_upto_region 1 with fail
  rw [← hw1]
  clear hw1 h ih
  go_upto_region 2 with (go_at_call 76; refine (IH.out.or w1 p i D A H.out hi hD (by omega)).mono ?_; rintro e w2 ⟨v, q, rfl, hps, hpost⟩; obtain ⟨o1, n1, a1, l1, c1, rfl⟩ := hpost.agg)
  obtain ⟨w3, hw3⟩ : ∃ w3, w3 = w2.alloc (.cells #[.int .i64 o1, .int .i64 n1, .slice a1 l1 c1] 30) := ⟨_, rfl⟩
  have b3 : Wb3 w3 w2.heap.size (.int .i64 o1) (.int .i64 n1) (.slice a1 l1 c1) := by rw [hw3]; exact Wb3.new _ _ _ _ _
  have hpost3 : PostR w1 p s D A q (.agg #[.int .i64 o1, .int .i64 n1, .slice a1 l1 c1]) w3 := by rw [hw3]; exact hpost.al _
  have hr3 : Wb3 w3 w.heap.size (.int .i64 0) (.int .i64 0) (.slice none 0 0) := hr.keptS hpost3.1 (by omega)
  have h12 := hpost.1.size
  have hlr := hr.1
  rw [← hw3]
  clear hw3 hpost
  have hne3 : p ≠ w2.heap.size := by omega
  generalize w2.heap.size = bf at *
  cases q with
  | err x a => as_aux_lemma =>
    obtain ⟨⟨I, hP, hI⟩, _⟩ := hpost3.2
    have hx : x ≠ 0 := by
      rcases (hps.err_place hi rfl).1 with h | h <;> omega
    have HQ : Hid (PostR w1 p s D A (.err x a) (.agg #[.int .i64 o1, .int .i64 n1, .slice a1 l1 c1]) w3) := hpost3
    have HP : Hid (Pst w3 p s I D x (a : Int)) := hP
    have HPS : Hid (PS s (.read 0) i D (.err x a)) := PS.rerr (by omega) hps
    clear hpost3 hP hps
    go_upto_region 3 with (go_at_call 77; refine (has77_no _ p s I D x a 45 hx HP.out hI hs).mono ?_; rintro e w5 ⟨rfl, hp5, k35⟩)
    have HQ5 : Hid (PostR w1 p s D A (.err x a) (.agg #[.int .i64 o1, .int .i64 n1, .slice a1 l1 c1]) w5) := HQ.out.onErr k35 hp5 (skipB_top hI)
    obtain ⟨_, ⟨x0, x1, x2⟩, _⟩ := b3.keptS k35 (Ne.symm hne3)
    obtain ⟨_, ⟨y0, y1, y2⟩, y3, y4, y5⟩ := hr3.keptS k35 (by omega)
    clear hp5 k35
    go_wp2
    refine bodyPost_ret (v := .agg #[.int .i64 o1, .int .i64 n1, .slice a1 l1 c1]) (by simp [results, Tryd.results46, go_sem, y0, y1, y2]) rfl ⟨_, _, rfl, HPS.out, HQ5.out.fin k1 (Nat.le_refl _) hlr hpl _ _ _⟩
  | ok f i1 =>
    obtain ⟨_, hif, hi1, _⟩ := hps.info hi rfl
    have hii : i ≤ i1 := by omega
    have hsk := le_skipB s i1
    have htop := skipB_top (s := s) hi1
    have HQ : Hid (PostR w1 p s D A (.ok f i1) (.agg #[.int .i64 o1, .int .i64 n1, .slice a1 l1 c1]) w3) := hpost3
    have HP : Hid (Pst w3 p s i1 D 0 A) := hpost3.2.1
    clear hpost3 hif
    by_cases hc : byteN s (skipB s i1) = 45
    · have hlt : skipB s i1 < s.size := lt_of_byteN (by omega)
      go_upto_region 4 with (go_at_call 77; refine (has77_yes _ p s i1 D A 45 (by decide) hc HP.out hi1 hs).mono ?_; rintro e w5 ⟨rfl, hp5, k5⟩)
      obtain ⟨J, hJ⟩ : ∃ J, J = skipB s i1 + 1 := ⟨_, rfl⟩
      rw [← hJ] at hp5
      have HJ : Hid (J = skipB s i1 + 1) := hJ
      have hJl : J ≤ s.size := by omega
      have hJi : i + 1 ≤ J := by omega
      have HP5 : Hid (Pst w5 p s J D 0 A) := hp5
      have HQ5 : Hid (PostR w1 p s D A (.ok f J) (.agg #[.int .i64 o1, .int .i64 n1, .slice a1 l1 c1]) w5) := HQ.out.on k5 hp5 (by omega)
      have bf5 : Wb3 w5 bf (.int .i64 o1) (.int .i64 n1) (.slice a1 l1 c1) := b3.keptS k5 (Ne.symm hne3)
      have hr5 : Wb3 w5 w.heap.size (.int .i64 0) (.int .i64 0) (.slice none 0 0) := hr3.keptS k5 (by omega)
      have h5 := HQ5.out.1.size
      obtain ⟨d0, d1, d2, d3, d4, g1, g2, g3, g4⟩ := id hp5
      have HC : Hid (byteN s (skipB s i1) = 45) := hc
      have HPS0 : Hid (PS s (.read 1) i D (.ok f i1)) := hps
      clear hp5 k5 hJ hc hsk htop hlt hps
      by_cases hg : byteN s J = 62
      · as_aux_lemma =>
          have hlt2 : J < s.size := lt_of_byteN (by omega)
          have hlti : ((J : Int) == (s.size : Int)) = false := by simp; omega
          have hb' : (((s[J]'hlt2).toNat : Int) != 62) = false := by rw [bne, show (62 : Int) = ((62 : Nat) : Int) from rfl, byteN_eq hlt2]; simp [hg]
          have HPS : Hid (∀ q2, PS s (.read 0) (J + 1) D q2 → PS s (.read 0) i D (q2.map (binT 6 f))) := fun q2 h2 => by
            have e := HJ.out
            rw [e] at hg h2
            exact PS.rgo (by omega) HPS0.out (PS.imp HC.out hg h2)
          clear hg
          go_quiet (fail)
          have kq : Kept (fun _ => False) w5 (w5.drewN nq) := (Kept.refl _ _).drewN _
          have HK1 : Hid (Kept (fun _ => False) w w1) := k1
          have HPx : Hid (Pst (w5.drewN nq) p s J D 0 A) := HP5.out.kept kq
          have HQx : Hid (PostR w1 p s D A (.ok f J) (.agg #[.int .i64 o1, .int .i64 n1, .slice a1 l1 c1]) (w5.drewN nq)) := HQ5.out.on (kq.mono (fun _ _ f => f.elim)) HPx.out (by omega)
          have bfx := bf5.kept kq
          have hrx := hr5.kept kq
          clear d0 d1 d2 d3 d4 g1 g2 g3 g4 kq HP5 HQ5 bf5 hr5 h5
          clear hlti
          clear hb'
          generalize w5.drewN nq = Wx at *
          have HP6 : Hid (Pst (Wx.setCell ⟨p, 1, none⟩ (.int .i64 ((J + 1 : Nat) : Int))) p s (J + 1) D 0 A) := HPx.out.setI _
          have k6 : Kept (fun k => k = p) Wx (Wx.setCell ⟨p, 1, none⟩ (.int .i64 ((J + 1 : Nat) : Int))) := (Kept.refl (fun k => k = p) Wx).setCell (p := ⟨p, 1, none⟩) (fun _ => rfl) _
          have HQ6 : Hid (PostR w1 p s D A (.ok f (J + 1)) (.agg #[.int .i64 o1, .int .i64 n1, .slice a1 l1 c1]) (Wx.setCell ⟨p, 1, none⟩ (.int .i64 ((J + 1 : Nat) : Int)))) := HQx.out.on k6 HP6.out (by omega)
          have BF6 : Hid (Wb3 (Wx.setCell ⟨p, 1, none⟩ (.int .i64 ((J + 1 : Nat) : Int))) bf (.int .i64 o1) (.int .i64 n1) (.slice a1 l1 c1)) := bfx.keptS k6 (Ne.symm hne3)
          have HR6 : Hid (Wb3 (Wx.setCell ⟨p, 1, none⟩ (.int .i64 ((J + 1 : Nat) : Int))) w.heap.size (.int .i64 0) (.int .i64 0) (.slice none 0 0)) := hrx.keptS k6 (by omega : ¬ w.heap.size = p)
          obtain ⟨e0, e1, e2, e3, e4, m1, m2, m3, m4⟩ := id HPx.out
          have hin : wrap64 ((J : Int) + 1) = ((J + 1 : Nat) : Int) := by unfold wrap64; omega
          have HJB : Hid (J ≤ s.size ∧ i + 1 ≤ J ∧ s.size ≤ 200 ∧ i ≤ s.size ∧ D ≤ 20 ∧ 8 * (s.size - i) + 5 ≤ N + 1 ∧ p < w.heap.size ∧ w1.heap.size ≤ bf ∧ w.heap.size < w1.heap.size ∧ p ≠ bf) := ⟨hJl, hJi, hs, hi, hD, hN, hpl, h12, hlr, hne3⟩
          clear k6 bfx hrx hJl hJi hs hi hD hN hpl h12 hlr hne3 hi1 hii k1 hr hr3 b3 H HP HQ HPS0 HC HJ
          go_upto_region 8 with fail
          obtain ⟨hJl, hJi, hs, hi, hD, hN, hpl, h12, hlr, hne3⟩ := HJB.out
          obtain ⟨W6, hW6⟩ : ∃ W6, W6 = (Wx.setCell ⟨p, 1, none⟩ (.int .i64 ((J + 1 : Nat) : Int))) := ⟨_, rfl⟩
          have hW6' : (Wx.setCell ⟨p, 1, none⟩ (.int .i64 ((J : Int) + 1))) = W6 := by rw [hW6]; rfl
          have bf6 := BF6.out
          have hr6 := HR6.out
          rw [← hW6] at HP6 HQ6 bf6 hr6
          first | rw [hW6'] | rw [← hW6]
          clear BF6 HR6 hin HPx HQx
          have h6 := HQ6.out.1.size
          clear hW6 hW6' e0 e1 e2 e3 e4 m1 m2 m3 m4
          go_upto_region 9 with (go_at_call 46; refine (IH.out.form W6 p (J + 1) D A HP6.out (by omega) hD (by omega)).mono ?_; rintro e w6 ⟨v2, q2, rfl, hps2, hpost2⟩; obtain ⟨o2, n2, a2, l2, c2, rfl⟩ := hpost2.agg)
          obtain ⟨w7, hw7⟩ : ∃ w7, w7 = w6.alloc (.cells #[.int .i64 o2, .int .i64 n2, .slice a2 l2 c2] 30) := ⟨_, rfl⟩
          have b7 : Wb3 w7 w6.heap.size (.int .i64 o2) (.int .i64 n2) (.slice a2 l2 c2) := by rw [hw7]; exact Wb3.new _ _ _ _ _
          have hpost7 : PostR W6 p s D A q2 (.agg #[.int .i64 o2, .int .i64 n2, .slice a2 l2 c2]) w7 := by rw [hw7]; exact hpost2.al _
          have bf7 : Wb3 w7 bf (.int .i64 o1) (.int .i64 n1) (.slice a1 l1 c1) := bf6.keptS hpost7.1 (Ne.symm hne3)
          have hr7 : Wb3 w7 w.heap.size (.int .i64 0) (.int .i64 0) (.slice none 0 0) := hr6.keptS hpost7.1 (by omega)
          rw [← hw7]
          have h67 : W6.heap.size ≤ w6.heap.size := hpost2.1.size
          clear hw7 hpost2
          have HG : Hid (PostR W6 p s D A q2 (.agg #[.int .i64 o2, .int .i64 n2, .slice a2 l2 c2]) w7) := hpost7
          have HPS2 : Hid (PS s (.read 0) i D (q2.map (binT 6 f))) := HPS.out q2 hps2
          clear hpost7 hps2 HPS
          obtain ⟨_, ⟨x0, x1, x2⟩, _⟩ := id b7
          obtain ⟨_, ⟨z0, z1, z2⟩, _⟩ := id bf7
          go_wp2_with (go_at_call 78; refine (two78R 6 HQ6.out HG.out (by omega)).mono ?_; rintro e w8 ⟨v3, rfl, hpost8, k8⟩; obtain ⟨o3, n3, a3, l3, c3, rfl⟩ := hpost8.agg; obtain ⟨_, ⟨y0, y1, y2⟩, y3, y4, y5⟩ := hr7.kept k8; have HQ8 : Hid (PostR w1 p s D A (q2.map (binT 6 f)) (.agg #[.int .i64 o3, .int .i64 n3, .slice a3 l3 c3]) w8) := hpost8; clear hpost8)
          refine bodyPost_ret (v := .agg #[.int .i64 o3, .int .i64 n3, .slice a3 l3 c3]) (by simp [results, Tryd.results46, go_sem, y0, y1, y2]) rfl ⟨_, _, rfl, HPS2.out, HQ8.out.fin HK1.out (Nat.le_refl _) hlr hpl _ _ _⟩
      · have hcase : ((J : Int) == (s.size : Int)) = true ∨ ∃ h : J < s.size, ((J : Int) == (s.size : Int)) = false ∧ (((s[J]'h).toNat : Int) != 62) = true := by
          by_cases h1 : J < s.size
          · refine .inr ⟨h1, by simp; omega, ?_⟩
            rw [bne, show (62 : Int) = ((62 : Nat) : Int) from rfl, byteN_eq h1]
            simp [hg]
          · exact .inl (by simp; omega)
        have HPS : Hid (PS s (.read 0) i D (.err 2 J)) := by
          have e := HJ.out
          rw [e] at hg
          rw [Hid, e]
          exact PS.rgo (by omega) HPS0.out (PS.bad HC.out hg)
        clear hg
        rcases hcase with hl1 | ⟨hl0, hl1, hl2⟩
        all_goals as_aux_lemma =>
          go_quiet (fail)
          have kq : Kept (fun _ => False) w5 (w5.drewN nq) := (Kept.refl _ _).drewN _
          have HP6 : Hid (Pst (w5.drewN nq) p s J D 0 A) := HP5.out.kept kq
          have HQ6 : Hid (PostR w1 p s D A (.ok f J) (.agg #[.int .i64 o1, .int .i64 n1, .slice a1 l1 c1]) (w5.drewN nq)) := HQ5.out.on (kq.mono (fun _ _ f => f.elim)) HP6.out (by omega)
          have bf6 := bf5.kept kq
          have hr6 := hr5.kept kq
          obtain ⟨e0, e1, e2, e3, e4, m1, m2, m3, m4⟩ := id HP6.out
          clear d0 d1 d2 d3 d4 g1 g2 g3 g4 kq
          generalize w5.drewN nq = W6 at *
          have HK1 : Hid (Kept (fun _ => False) w w1) := k1
          have HJB : Hid (J ≤ s.size ∧ p < w.heap.size ∧ w.heap.size < w1.heap.size ∧ p ≠ bf) := ⟨hJl, hpl, hlr, hne3⟩
          clear hJl hJi hs hi hD hN hpl h12 hlr hne3 hi1 hii k1 hr hr3 b3 H HP HQ HPS0 HC HJ h5 HP5 HQ5 bf5 hr5
          go_upto_region 6 with (go_at_call 48; refine (fail48_ok _ p s J D A 2 (J : Int) HP6.out).mono ?_; rintro e w7 ⟨rfl, hp7, k7⟩)
          obtain ⟨hJl, hpl, hlr, hne3⟩ := HJB.out
          have HQ7 : Hid (PostR w1 p s D A (.err 2 J) (.agg #[.int .i64 o1, .int .i64 n1, .slice a1 l1 c1]) w7) := ⟨HQ6.out.1.trans k7 (fun _ _ e => e), ⟨J, hp7, hJl⟩, _, _, _, _, _, rfl⟩
          obtain ⟨_, ⟨x0, x1, x2⟩, _⟩ := bf6.keptS k7 (Ne.symm hne3)
          obtain ⟨_, ⟨y0, y1, y2⟩, y3, y4, y5⟩ := hr6.keptS k7 (by omega)
          clear hp7 k7 e0 e1 e2 e3 e4 m1 m2 m3 m4
          go_wp2
          refine bodyPost_ret (v := .agg #[.int .i64 o1, .int .i64 n1, .slice a1 l1 c1]) (by simp [results, Tryd.results46, go_sem, y0, y1, y2]) rfl ⟨_, _, rfl, HPS.out, HQ7.out.fin HK1.out (Nat.le_refl _) hlr hpl _ _ _⟩
    · as_aux_lemma =>
        have HPS : Hid (PS s (.read 0) i D (.ok f (skipB s i1))) := PS.rgo (by omega) hps (PS.done (by unfold sgn; simp [hc]))
        go_upto_region 3 with (go_at_call 77; refine (has77_not _ p s i1 D A 45 (by decide) (by omega) HP.out hi1 hs).mono ?_; rintro e w5 ⟨rfl, hp5, k5⟩)
        have HQ5 : Hid (PostR w1 p s D A (.ok f (skipB s i1)) (.agg #[.int .i64 o1, .int .i64 n1, .slice a1 l1 c1]) w5) := HQ.out.on k5 hp5 (by omega)
        obtain ⟨_, ⟨x0, x1, x2⟩, _⟩ := b3.keptS k5 (Ne.symm hne3)
        obtain ⟨_, ⟨y0, y1, y2⟩, y3, y4, y5⟩ := hr3.keptS k5 (by omega)
        clear hp5 k5
        go_wp2
        refine bodyPost_ret (v := .agg #[.int .i64 o1, .int .i64 n1, .slice a1 l1 c1]) (by simp [results, Tryd.results46, go_sem, y0, y1, y2]) rfl ⟨_, _, rfl, HPS.out, HQ5.out.fin k1 (Nat.le_refl _) hlr hpl _ _ _⟩
end Go.Proofs.YtdbpdanocpfboaaDoor
