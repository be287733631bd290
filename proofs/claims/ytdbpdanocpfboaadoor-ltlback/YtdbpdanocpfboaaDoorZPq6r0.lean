import Derived.Test.YtdbpdanocpfboaaDoorZBun12
/- The program's reader: read, row 0. -/
namespace Go.Proofs.YtdbpdanocpfboaaDoor
open Go.RowKit

set_option maxRecDepth 100000 in
set_option maxHeartbeats 8000000 in
theorem read118_0 (E : Ev) (s : ByteArray) (hs : s.size ≤ 200) (N : Nat) (ih : SaysQ E s N) (w : World) (i D : Nat) (h : Rdy E w s i D) (hi : i ≤ s.size) (hD : D ≤ 20) (hN : 8 * (s.size - i) + 5 ≤ N + 1 + 0) : CallD E s 0 w i D := by
  obtain ⟨w1, hw1⟩ : ∃ w1, w1 = w.alloc (.cells #[.int .i64 0, .int .i64 0, .slice none 0 0] 24) := ⟨_, rfl⟩
  have k1 : Kept (fun _ => False) w w1 := by rw [hw1]; exact (Kept.refl _ _).alloc _
  have hr : Wb3 w1 w.heap.size (.int .i64 0) (.int .i64 0) (.slice none 0 0) := by rw [hw1]; exact Wb3.new _ _ _ _ _
  have R1 : Hid (Rdy E w1 s i D) := h.kept k1
  have hpl := h.st.lt
  have hlr := hr.1
  have IH : Hid (SaysQ E s N) := ih
  unfold CallD
  go_enter Tryd.func118, Tryd.ntmps118
  go_upto_region 1 with fail
  rw [← hw1]
  clear hw1 h ih
  obtain ⟨el0, el1, el2⟩ := R1.out.env.l0
  go_upto_region 4 with fail
  obtain ⟨w2, hw2⟩ : ∃ w2, w2 = w1.alloc (.cells #[.map (some E.m0), .string ⟨#[62]⟩, .bool true] 166) := ⟨_, rfl⟩
  have k2 : Kept (fun _ => False) w1 w2 := by rw [hw2]; exact (Kept.refl _ _).alloc _
  have bh : Wb3 w2 w1.heap.size (.map (some E.m0)) (.string ⟨#[62]⟩) (.bool true) := by rw [hw2]; exact Wb3.new _ _ _ _ _
  have R2 : Hid (Rdy E w2 s i D) := R1.out.kept k2
  have hr2 := hr.kept k2
  rw [← hw2]
  have hl2 := bh.1
  clear hw2 el0 el1 el2
  have eR := R2.out.env.fR
  go_upto_region 5 with (go_at_call 118; refine (IH.out.read 1 w2 i D (by omega) R2.out hi hD (by omega)).mono ?_; rintro e w3 ⟨q, hps, hpost⟩; rcases q with ⟨t, j⟩ | ⟨x, a⟩; rotate_left; (have hk3 := hpost.1; have he : e = faultE x a := hpost.2; rw [faultE] at he; subst he; exact ⟨rfl, .err x a, PS.rerr (by omega) hps, ((k1.trans k2 (fun _ _ f => f)).mono (T := fun k => k = E.p) (fun _ _ f => f.elim)).trans hk3 (fun _ _ e => e), rfl⟩); (obtain ⟨o1, n1, a1, l1, e1, rfl⟩ := hpost.val; have HPS : Hid (PS s (.read 1) i D (.ok t j)) := hps; have HQ : Hid (PostQ w2 E.p s D (.ok t j) (.returned (.agg #[.int .i64 o1, .int .i64 n1, .slice a1 l1 e1])) w3) := hpost; clear hps hpost))
  obtain ⟨w4, hw4⟩ : ∃ w4, w4 = w3.alloc (.cells #[.int .i64 o1, .int .i64 n1, .slice a1 l1 e1] 24) := ⟨_, rfl⟩
  have b4 : Wb3 w4 w3.heap.size (.int .i64 o1) (.int .i64 n1) (.slice a1 l1 e1) := by rw [hw4]; exact Wb3.new _ _ _ _ _
  have hY : PostY w3.heap.size w2 E.p s D t j (.agg #[.int .i64 o1, .int .i64 n1, .slice a1 l1 e1]) w4 := by rw [hw4]; exact HQ.out.box _
  have h23 := HQ.out.1.size
  rw [← hw4]
  clear hw4 HQ eR
  have R4 : Hid (Rdy E w4 s j D) := R2.out.on hY.1 hY.2.1
  have hr4 : Wb3 w4 w.heap.size (.int .i64 0) (.int .i64 0) (.slice none 0 0) := hr2.keptS hY.1 (by omega)
  have bh4 : Wb3 w4 w1.heap.size (.map (some E.m0)) (.string ⟨#[62]⟩) (.bool true) := bh.keptS hY.1 (by omega)
  obtain ⟨_, i1, i2, _⟩ := HPS.out.info hi rfl
  have HSTART : Hid (Wb3 w4 w3.heap.size (.int .i64 o1) (.int .i64 n1) (.slice a1 l1 e1) ∧ PostY w3.heap.size w2 E.p s D t j (.agg #[.int .i64 o1, .int .i64 n1, .slice a1 l1 e1]) w4 ∧ (∀ q, PS s (.loop 0 t) j D q → PS s (.read 0) i D q) ∧ i ≤ j ∧ j ≤ s.size) := ⟨b4, hY, fun q hq => PS.rgo (by omega) HPS.out hq, by omega, i2⟩
  clear b4 hY HPS i1 i2
  have HB : Hid (E.p < w.heap.size ∧ w.heap.size < w1.heap.size ∧ w1.heap.size < w2.heap.size ∧ w2.heap.size ≤ w3.heap.size) := ⟨hpl, hlr, hl2, h23⟩
  obtain ⟨bf, hbf⟩ : ∃ bf, w3.heap.size = bf := ⟨_, rfl⟩
  obtain ⟨bb, hbb⟩ : ∃ bb, w1.heap.size = bb := ⟨_, rfl⟩
  obtain ⟨br, hbr⟩ : ∃ br, w.heap.size = br := ⟨_, rfl⟩
  have hn1 : ¬ bf = E.p := by omega
  have hn2 : ¬ E.p = bf := by omega
  have hn3 : ¬ bb = E.p := by omega
  have hn4 : ¬ E.p = bb := by omega
  have hn5 : ¬ br = E.p := by omega
  have hn6 : ¬ E.p = br := by omega
  have hn7 : ¬ br = bf := by omega
  have hn8 : ¬ bf = br := by omega
  have hn9 : ¬ bb = bf := by omega
  have hn10 : ¬ bf = bb := by omega
  have HBN : Hid (w3.heap.size = bf ∧ w1.heap.size = bb ∧ w.heap.size = br) := ⟨hbf, hbb, hbr⟩
  rw [hbf] at HSTART
  rw [hbb] at bh4
  rw [hbr] at hr4
  rw [hbf, hbb, hbr]
  clear hpl hlr hl2 h23 hbf hbb hbr bh hr hr2
  go_loopg [9, 10] (s.size - j + 1) (fun k _ _ wr => ∃ f jx o n a l c, Wb3 wr bf (.int .i64 o) (.int .i64 n) (.slice a l c) ∧ Wb3 wr br (.int .i64 0) (.int .i64 0) (.slice none 0 0) ∧ Wb3 wr bb (.map (some E.m0)) (.string ⟨#[62]⟩) (.bool true) ∧ Rdy E wr s jx D ∧ PostY bf w2 E.p s D f jx (.agg #[.int .i64 o, .int .i64 n, .slice a l c]) wr ∧ (∀ q, PS s (.loop 0 f) jx D q → PS s (.read 0) i D q) ∧ i ≤ jx ∧ jx ≤ s.size ∧ k = s.size - jx + 1)
  case atStart =>
    obtain ⟨g1, g2, g3, g4, g5⟩ := HSTART.out
    exact ⟨t, j, o1, n1, a1, l1, e1, g1, hr4, bh4, R4.out, g2, g3, g4, g5, rfl⟩
  case round =>
    clear HSTART R4 hr4 bh4
    obtain ⟨f, jx, o, n, a, l, c, b4, hr4, bh4, hR4, hY, hcont, hij, hjs, hk⟩ := hrel
    have R4 : Hid (Rdy E wr s jx D) := hR4
    have HY : Hid (PostY bf w2 E.p s D f jx (.agg #[.int .i64 o, .int .i64 n, .slice a l c]) wr) := hY
    have HCO : Hid (∀ q, PS s (.loop 0 f) jx D q → PS s (.read 0) i D q) := hcont
    have HK : Hid (gk = s.size - jx + 1) := hk
    have hsk := le_skipB s jx
    have htop := skipB_top (s := s) hjs
    obtain ⟨jj, hjj⟩ : ∃ jj, skipB s jx = jj := ⟨_, rfl⟩
    have HJ : Hid (skipB s jx = jj) := hjj
    rw [hjj] at hsk htop
    clear hR4 hY hcont hk hjj
    have er := R4.out.env.r
    have eR := R4.out.env.fR
    obtain ⟨_, ⟨q0, q1, q2⟩, _⟩ := id bh4
    go_upto_region 5 with fail
    go_cut [9, 10] from 22 to 60 (fun v9 v10 wc => v9 = .int .i64 ((sgn 0 (byteN s jj)).getD 0) ∧ v10 = .bool (sgn 0 (byteN s jj)).isSome ∧ Rst wc E.p s jj D ∧ Kept (fun k => k = E.p) wr wc)
    case first =>
      go_region_with (go_at_call 115; refine (peek115 _ E.p s jx D (R4.out.st.kept ((Kept.refl _ _).drew)) hjs hs).mono ?_; rintro e w5 ⟨rfl, hp5, k5⟩; rw [HJ.out] at hp5; rw [HJ.out]; have k5' : Kept (fun k => k = E.p) wr w5 := (Kept.refl _ _).drew.trans k5 (fun _ _ e => e); have R5 : Hid (Rdy E w5 s jj D) := R4.out.on k5' hp5; obtain ⟨_, ⟨z0, z1, z2⟩, _⟩ := (bh4.keptS k5' hn3); have hlk := R5.out.env.g0.look (byteN s jj); rw [look0] at hlk)
      all_goals
        go_wp2_with fail
        go_meet
        case rel => exact ⟨rfl, rfl, hp5, k5'⟩
    case rest =>
      obtain ⟨rfl, rfl, hp5, k5⟩ := hcut
      have R5 : Hid (Rdy E wc s jj D) := R4.out.on k5 hp5
      have HY5 : Hid (PostY bf w2 E.p s D f jj (.agg #[.int .i64 o, .int .i64 n, .slice a l c]) wc) := HY.out.on k5 hp5 (by have := HB.out; omega)
      have b5 := b4.keptS k5 hn1
      have hr5 := hr4.keptS k5 hn5
      have bh5 := bh4.keptS k5 hn3
      have HC : Hid (byteN s (skipB s jx) = byteN s jj) := by rw [Hid, HJ.out]
      clear b4 hr4 bh4 er eR q0 q1 q2 R4 HY k5 hp5
      rcases hop : sgn 0 (byteN s jj) with _ | op
      · have HPS : Hid (PS s (.read 0) i D (.ok f jj)) := HCO.out _ (by have := PS.done (s := s) (row := 0) (f := f) (i := jx) (d := D) (by rw [HC.out]; exact hop); rw [HJ.out] at this; exact this)
        obtain ⟨_, ⟨x0, x1, x2⟩, _⟩ := id b5
        obtain ⟨_, ⟨y0, y1, y2⟩, y3, y4, y5⟩ := id hr5
        clear hop
        go_wp2
        refine bodyPost_ret (v := .agg #[.int .i64 o, .int .i64 n, .slice a l c]) (by simp [results, Tryd.results118, go_sem, y0, y1, y2]) rfl ⟨_, HPS.out, ?_⟩
        obtain ⟨g1, g2, g3⟩ := HBN.out
        obtain ⟨g4, g5, g6, g7⟩ := HB.out
        exact HY5.out.post.fin (k1.trans k2 (fun _ _ f => f)) (by omega) (by omega) g4 _ _ _
      · have hlt : jj < s.size := lt_of_byteN (sgn_ne hop).1
        have hin : wrap64 ((jj : Int) + 1) = ((jj + 1 : Nat) : Int) := by unfold wrap64; omega
        have st6 : Rst (wc.setCell ⟨E.p, 1, none⟩ (.int .i64 ((jj + 1 : Nat) : Int))) E.p s (jj + 1) D := R5.out.st.setI (jj + 1)
        have k6 : Kept (fun k => k = E.p) wc (wc.setCell ⟨E.p, 1, none⟩ (.int .i64 ((jj + 1 : Nat) : Int))) := (Kept.refl (fun k => k = E.p) wc).setCell (p := ⟨E.p, 1, none⟩) (fun _ => rfl) _
        have HX6 : Hid (Rdy E (wc.setCell ⟨E.p, 1, none⟩ (.int .i64 ((jj + 1 : Nat) : Int))) s (jj + 1) D ∧ PostY bf w2 E.p s D f (jj + 1) (.agg #[.int .i64 o, .int .i64 n, .slice a l c]) (wc.setCell ⟨E.p, 1, none⟩ (.int .i64 ((jj + 1 : Nat) : Int))) ∧ Wb3 (wc.setCell ⟨E.p, 1, none⟩ (.int .i64 ((jj + 1 : Nat) : Int))) bf (.int .i64 o) (.int .i64 n) (.slice a l c) ∧ Wb3 (wc.setCell ⟨E.p, 1, none⟩ (.int .i64 ((jj + 1 : Nat) : Int))) br (.int .i64 0) (.int .i64 0) (.slice none 0 0) ∧ Wb3 (wc.setCell ⟨E.p, 1, none⟩ (.int .i64 ((jj + 1 : Nat) : Int))) bb (.map (some E.m0)) (.string ⟨#[62]⟩) (.bool true)) :=
          ⟨R5.out.on k6 st6, HY5.out.on k6 st6 (by have := HB.out; omega), b5.keptS k6 hn1, hr5.keptS k6 hn5, bh5.keptS k6 hn3⟩
        obtain ⟨c0, c1, c2, f1, f2⟩ := id R5.out.st
        have er := R5.out.env.r
        have HOP : Hid (sgn 0 (byteN s jj) = some op) := hop
        clear st6 k6 hop b5 hr5 bh5 HY5
        go_upto_region 9 with fail
        obtain ⟨W6, hW6⟩ : ∃ W6, W6 = (wc.setCell ⟨E.p, 1, none⟩ (.int .i64 ((jj + 1 : Nat) : Int))) := ⟨_, rfl⟩
        have hW6' : (wc.setCell ⟨E.p, 1, none⟩ (.int .i64 ((jj : Int) + 1))) = W6 := by rw [hW6]; rfl
        rw [← hW6] at HX6
        first | rw [hW6'] | rw [← hW6]
        obtain ⟨hR6, hY6, b6, hr6, bh6⟩ := HX6.out
        have R6 : Hid (Rdy E W6 s (jj + 1) D) := hR6
        have HY6 : Hid (PostY bf w2 E.p s D f (jj + 1) (.agg #[.int .i64 o, .int .i64 n, .slice a l c]) W6) := hY6
        clear hW6 hW6' c0 c1 c2 f1 f2 er hin HX6 R5 hR6 hY6
        have er := R6.out.env.r
        obtain ⟨_, ⟨q0, q1, q2⟩, _⟩ := id bh6
        obtain ⟨h45, h6⟩ := sgn0 HOP.out
        have H45 : Hid (byteN s (skipB s jx) = 45) := HC.out.trans h45
        have H6 : Hid (6 = op) := h6.symm
        clear h45 h6
        by_cases h62 : byteN s (jj + 1) = 62
        · have hlt2 : jj + 1 < s.size := lt_of_byteN (by omega)
          have H62 : Hid (byteN s (skipB s jx + 1) = 62) := by rw [Hid, HJ.out]; exact h62
          go_upto_region 11 with (go_at_call 113; refine (exact113_yes W6 E.p s (jj + 1) D 62 R6.out.st hs hlt2 h62).mono ?_; rintro e w7 ⟨rfl, hp7, k7⟩; have q27 := (bh6.keptS k7 hn3).2.1.2.2)
          clear h62
          have R7 : Hid (Rdy E w7 s (jj + 1 + 1) D) := R6.out.on k7 hp7
          have HY7 : Hid (PostY bf w2 E.p s D f (jj + 1 + 1) (.agg #[.int .i64 o, .int .i64 n, .slice a l c]) w7) := HY6.out.on k7 hp7 (by have := HB.out; omega)
          have b7 := b6.keptS k7 hn1
          have hr7 := hr6.keptS k7 hn5
          have bh7 := bh6.keptS k7 hn3
          clear b6 hr6 bh6 er q0 q1 q2 q27 R6 HY6 k7 hp7
          have eR := R7.out.env.fR
          have kd : Kept (fun _ => False) w7 w7.drew := (Kept.refl _ _).drew
          have R8 : Hid (Rdy E w7.drew s (jj + 1 + 1) D) := R7.out.kept kd
          have HY8 : Hid (PostY bf w2 E.p s D f (jj + 1 + 1) (.agg #[.int .i64 o, .int .i64 n, .slice a l c]) w7.drew) := HY7.out.on (kd.mono (fun _ _ f => f.elim)) R8.out.st (by have := HB.out; omega)
          have b8 := b7.kept kd
          have hr8 := hr7.kept kd
          have bh8 := bh7.kept kd
          have HL8 : Hid (bf < w7.drew.heap.size) := b8.1
          obtain ⟨_, ⟨x0, x1, x2⟩, _⟩ := id b7
          clear kd b7 hr7 bh7 HY7 R7
          go_region_with (go_at_call 118; refine (IH.out.read 0 w7.drew (jj + 1 + 1) D (by omega) R8.out (by omega) hD (by omega)).mono ?_; rintro e w9 ⟨q, hps, hpost⟩; rcases q with ⟨t2, j2⟩ | ⟨x, a⟩; rotate_left; (have hk3 := hpost.1; have he : e = faultE x a := hpost.2; rw [faultE] at he; subst he; exact ⟨rfl, .err x a, HCO.out _ (PS.imp (r := .err x a) H45.out H62.out (by rw [HJ.out]; exact hps)), ((k1.trans k2 (fun _ _ f => f)).mono (T := fun k => k = E.p) (fun _ _ f => f.elim)).trans (HY8.out.1.trans hk3 (fun _ _ e => e)) (fun _ _ e => e), rfl⟩); (obtain ⟨o2, n2, a2, l2, e2, rfl⟩ := hpost.val; have HPS : Hid (PS s (.read 0) i D (.ok (binT op f t2) j2)) := HCO.out _ (H6.out ▸ PS.imp (r := .ok t2 j2) H45.out H62.out (by rw [HJ.out]; exact hps)); have HQ : Hid (PostQ w7.drew E.p s D (.ok t2 j2) (.returned (.agg #[.int .i64 o2, .int .i64 n2, .slice a2 l2 e2])) w9) := hpost; obtain ⟨_, ⟨z0, z1, z2⟩, _⟩ := b8.keptS hpost.1 hn1; obtain ⟨y9, ⟨y0, y1, y2⟩, y3, y4, y5⟩ := hr8.keptS hpost.1 hn5; clear hps hpost))
          all_goals
            go_wp2
            refine bodyPost_ret (v := .agg #[.int .i64 op, .int .i64 0, .slice (some ⟨w9.heap.size, 0, none⟩) 2 2]) (by simp [results, Tryd.results118, go_sem, y0, y1, y2, y9]) rfl ⟨_, HPS.out, ?_⟩
            have hcm : ((((w9.alloc (.cells #[.int .i64 o, .int .i64 n, .slice a l c, .int .i64 o2, .int .i64 n2, .slice a2 l2 e2] 24)).setCell ⟨br, 0, none⟩ (.int .i64 op)).setCell ⟨br, 1, none⟩ (.int .i64 0)).setCell ⟨br, 2, none⟩ (.slice (some ⟨w9.heap.size, 0, none⟩) 2 2)) = ((((w9.setCell ⟨br, 0, none⟩ (.int .i64 op)).setCell ⟨br, 1, none⟩ (.int .i64 0)).setCell ⟨br, 2, none⟩ (.slice (some ⟨w9.heap.size, 0, none⟩) 2 2)).alloc (.cells #[.int .i64 o, .int .i64 n, .slice a l c, .int .i64 o2, .int .i64 n2, .slice a2 l2 e2] 24)) := by simp [go_sem, y9]
            rw [← hcm]
            obtain ⟨g1, g2, g3⟩ := HBN.out
            obtain ⟨g4, g5, g6, g7⟩ := HB.out
            exact (HY8.out.two HQ.out (by omega) HL8.out op 24).post.fin (k1.trans k2 (fun _ _ f => f)) (by omega) (by omega) g4 _ _ _
        · have HPS : Hid (PS s (.read 0) i D (.err 2 (jj + 1))) := HCO.out _ (by have := PS.bad (s := s) (f := f) (i := jx) (d := D) H45.out (by rw [HJ.out]; exact h62); rw [HJ.out] at this; exact this)
          go_wp2_with (go_at_call 113; refine (exact113_not W6 E.p s (jj + 1) D 62 R6.out.st (by omega) h62).mono ?_; rintro e w7 ⟨he, k7⟩; rw [faultE] at he; subst he)
          exact ⟨rfl, _, HPS.out, ((k1.trans k2 (fun _ _ f => f)).mono (T := fun k => k = E.p) (fun _ _ f => f.elim)).trans (HY6.out.1.trans k7 (fun _ _ e => e)) (fun _ _ e => e), rfl⟩
end Go.Proofs.YtdbpdanocpfboaaDoor
