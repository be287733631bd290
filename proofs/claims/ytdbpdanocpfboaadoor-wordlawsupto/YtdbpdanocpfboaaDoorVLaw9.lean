/- The walk of the law of now and next. -/
import Derived.Test.YtdbpdanocpfboaaDoorVNine
namespace Go.Proofs.YtdbpdanocpfboaaDoor
open Go.RowKit

theorem RV.agg {B : Nat} {w : World} {v : Value} {t : Tr} (h : RV B w v t) : ∃ op n a l c, v = .agg #[.int .i64 op, .int .i64 n, .slice a l c] := by
  obtain ⟨op, n, kids⟩ := t
  obtain ⟨ka, kb, ko, kc, e, _⟩ := h
  exact ⟨_, _, _, _, _, e⟩
theorem least37g (w : World) (v : Value) (hd lp : List Int) (hW : WordV w.heap.size w v hd lp) (hg : goodW hd lp = true) :
    Calls Tryd.prog 37 #[v] w fun e w' => ∃ hd' lp' a c a' c', e = .returned (.agg #[.slice a hd'.length c, .slice a' lp'.length c']) ∧ Kept (fun _ => False) w w' ∧ WordV w'.heap.size w' (.agg #[.slice a hd'.length c, .slice a' lp'.length c']) hd' lp' ∧ goodW hd' lp' = true ∧ sameB hd lp hd' lp' = true ∧ ∀ m, wAt hd' lp' m = wAt hd lp m := by
  refine (least37 w w.heap.size v hd lp hW (Nat.le_refl _)).mono ?_
  rintro e w' ⟨hk, ⟨h, _⟩ | ⟨_, h, P, a, c, a', c', rfl, hs, n1, n2, _⟩⟩
  · rw [hg] at h; cases h
  · have hl := goodW_len hg
    have hg' := short_good hg hs
    have hl' := goodW_len hg'
    have l1 := cutW_length (wAt hd lp) 0 h
    have l2 := cutW_length (wAt hd lp) h P
    refine ⟨_, _, a, c, a', c', by rw [l1, l2], hk, ⟨_, _, rfl, n1.ints (by omega), n2.ints (by omega)⟩, hg', short_sameB hg hs, short_same hl.2 hs⟩
theorem wn8 : wellN 8 0 2 := by unfold wellN; decide
theorem wn9 : wellN 9 0 2 := by unfold wellN; decide
theorem wn4 : wellN 4 0 2 := by unfold wellN; decide
theorem wn5 : wellN 5 0 2 := by unfold wellN; decide
theorem wn3 : wellN 3 0 1 := by unfold wellN; decide
theorem wn7 : wellN 7 0 1 := by unfold wellN; decide
theorem wn10 : wellN 10 0 1 := by unfold wellN; decide
theorem wn11 : wellN 11 0 1 := by unfold wellN; decide

set_option maxRecDepth 100000 in
set_option maxHeartbeats 20000000 in
theorem law9 (w : World) (B : Nat) (fv gv wv : Value) (ta tb : Tr) (hd lp : List Int) (hf : RV B w fv ta) (hf' : RV B w gv tb) (hw : WordV B w wv hd lp) (hB : B ≤ w.heap.size) (hT : TabK w) (h2 : 2 ≤ w.heap.size) (hsa : ta.size ≤ 1048576) (hsb : tb.size ≤ 1048576) :
    Calls Tryd.prog 9 #[fv, gv, wv] w fun e w' => Kept (fun _ => False) w w' ∧ e = .returned (.bool true) := by
  obtain ⟨hv1, lv1, rfl, h1, h3⟩ := id hw
  obtain ⟨ha1, hc1, rfl, hl1⟩ := h1.form
  obtain ⟨la1, lc1, rfl, hl2⟩ := h3.form
  obtain ⟨f0, f1, fa, fl, fc, rfl⟩ := hf.agg
  obtain ⟨g0, g1, ga, gl, gc, rfl⟩ := hf'.agg
  obtain ⟨W0, hW0⟩ : ∃ W0, W0 = (((w.alloc (.cells #[.int .i64 f0, .int .i64 f1, .slice fa fl fc] 30)).alloc (.cells #[.int .i64 g0, .int .i64 g1, .slice ga gl gc] 30)).alloc (.cells #[.slice ha1 hd.length hc1, .slice la1 lp.length lc1] 48)) := ⟨_, rfl⟩
  have k0 : Kept (fun _ => False) w W0 := by rw [hW0]; exact (((Kept.refl _ _).alloc _).alloc _).alloc _
  have x0 : Bx3 W0 w.heap.size (.int .i64 f0) (.int .i64 f1) (.slice fa fl fc) := by
    rw [hW0]
    exact ⟨by simp [go_sem], by simp [go_sem], by simp [go_sem]⟩
  have y0 : Bx3 W0 (w.heap.size + 1) (.int .i64 g0) (.int .i64 g1) (.slice ga gl gc) := by
    rw [hW0]
    exact ⟨by rw [World.cell?_alloc_past (hn := by simp), World.cell?_alloc_at (hn := by simp)]; rfl, by rw [World.cell?_alloc_past (hn := by simp), World.cell?_alloc_at (hn := by simp)]; rfl, by rw [World.cell?_alloc_past (hn := by simp), World.cell?_alloc_at (hn := by simp)]; rfl⟩
  have z0 : Bx W0 (w.heap.size + 1 + 1) (.slice ha1 hd.length hc1) (.slice la1 lp.length lc1) := by rw [hW0]; exact ⟨by rw [World.cell?_alloc_at (hn := by simp)]; rfl, by rw [World.cell?_alloc_at (hn := by simp)]; rfl⟩
  have HF : Hid (RV B w (.agg #[.int .i64 f0, .int .i64 f1, .slice fa fl fc]) ta) := hf
  have HG : Hid (RV B w (.agg #[.int .i64 g0, .int .i64 g1, .slice ga gl gc]) tb) := hf'
  have HW : Hid (WordV B w (.agg #[.slice ha1 hd.length hc1, .slice la1 lp.length lc1]) hd lp) := hw
  clear hf hf' hw h1 h3
  have HF0 : Hid (RV B W0 (.agg #[.int .i64 f0, .int .i64 f1, .slice fa fl fc]) ta) := HF.out.below (k0.below hB (fun _ f => f.elim))
  have HG0 : Hid (RV B W0 (.agg #[.int .i64 g0, .int .i64 g1, .slice ga gl gc]) tb) := HG.out.below (k0.below hB (fun _ f => f.elim))
  have HW0 : Hid (WordV B W0 (.agg #[.slice ha1 hd.length hc1, .slice la1 lp.length lc1]) hd lp) := HW.out.kept k0 hB
  have hB0 : B ≤ W0.heap.size := Nat.le_trans hB k0.size
  obtain ⟨x00, x01, x02⟩ := id x0
  obtain ⟨y00, y01, y02⟩ := id y0
  obtain ⟨z00, z01⟩ := id z0
  go_enter Tryd.func9, Tryd.ntmps9
  go_upto_region 1 with fail
  rw [← hW0]
  clear hW0
  cases hwa : wellB ta with
  | false =>
    have HWA : Hid (wellB ta = false) := hwa
    clear hwa
    go_upto_region 2 with (go_at_call 24; refine (well24 1048576 ta hsa _ B _ HF0.out hB0 (by omega)).mono ?_; rintro e w1 ⟨k1, rfl⟩; rw [HWA.out])
    have kw1 := k0.trans k1 (fun _ _ f => f)
    have hT1 := hT.kept kw1
    have h21 := Nat.le_trans h2 kw1.size
    clear x00 x01 x02 y00 y01 y02 z00 z01
    go_wp2_with (go_at_call 36; refine (alive36 _ hT1 h21).mono ?_; rintro e w2 ⟨k2, rfl⟩)
    go_ret
    exact ⟨kw1.trans k2 (fun _ _ f => f), rfl⟩
  | true =>
  have HWA : Hid (wellB ta = true) := hwa
  have hta : ta.well := (wellB_iff ta).1 hwa
  clear hwa
  cases hwb : wellB tb with
  | false =>
    have HWB : Hid (wellB tb = false) := hwb
    clear hwb
    go_upto_region 2 with (first
      | (go_at_call_of 24 (Value.agg #[Value.int IntKind.i64 f0, Value.int IntKind.i64 f1, Value.slice fa fl fc]); refine (well24 1048576 ta hsa _ B _ HF0.out hB0 (by omega)).mono ?_; rintro e w1 ⟨k1, rfl⟩; obtain ⟨y10, y11, y12⟩ := y0.kept k1; have G1 := HG0.out.below (k1.below hB0 (fun _ f => f.elim)); rw [HWA.out])
      | (go_at_call_of 24 (Value.agg #[Value.int IntKind.i64 g0, Value.int IntKind.i64 g1, Value.slice ga gl gc]); refine (well24 1048576 tb hsb _ B _ G1 (Nat.le_trans hB0 k1.size) (by omega)).mono ?_; rintro e w2 ⟨k2, rfl⟩; rw [HWB.out]))
    have kw2 := (k0.trans k1 (fun _ _ f => f)).trans k2 (fun _ _ f => f)
    have hT2 := hT.kept kw2
    have h22 := Nat.le_trans h2 kw2.size
    clear x00 x01 x02 y00 y01 y02 z00 z01 y10 y11 y12
    go_wp2_with (go_at_call 36; refine (alive36 _ hT2 h22).mono ?_; rintro e w3 ⟨k3, rfl⟩)
    go_ret
    exact ⟨kw2.trans k3 (fun _ _ f => f), rfl⟩
  | true =>
  have HWB : Hid (wellB tb = true) := hwb
  have htb : tb.well := (wellB_iff tb).1 hwb
  clear hwb
  cases hg : goodW hd lp with
  | false =>
    have HGD : Hid _ := hg
    clear hg
    go_upto_region 2 with (first
      | (go_at_call_of 24 (Value.agg #[Value.int IntKind.i64 f0, Value.int IntKind.i64 f1, Value.slice fa fl fc]); refine (well24 1048576 ta hsa _ B _ HF0.out hB0 (by omega)).mono ?_; rintro e w1 ⟨k1, rfl⟩; obtain ⟨y10, y11, y12⟩ := y0.kept k1; have G1 := HG0.out.below (k1.below hB0 (fun _ f => f.elim)); rw [HWA.out])
      | (go_at_call_of 24 (Value.agg #[Value.int IntKind.i64 g0, Value.int IntKind.i64 g1, Value.slice ga gl gc]); refine (well24 1048576 tb hsb _ B _ G1 (Nat.le_trans hB0 k1.size) (by omega)).mono ?_; rintro e w2 ⟨k2, rfl⟩; have k12 := k1.trans k2 (fun _ _ f => f); obtain ⟨z10, z11⟩ := z0.kept k12 (fun f => f); have G2 := HW0.out.kept k12 hB0; rw [HWB.out])
      | (go_at_call 30; refine (good30 _ B _ hd lp G2 (Nat.le_trans hB0 k12.size)).mono ?_; rintro e w3 ⟨k3, rfl⟩; rw [HGD.out]))
    have kw3 := (k0.trans k12 (fun _ _ f => f)).trans k3 (fun _ _ f => f)
    have hT3 := hT.kept kw3
    have h23 := Nat.le_trans h2 kw3.size
    clear x00 x01 x02 y00 y01 y02 z00 z01 y10 y11 y12 z10 z11
    go_wp2_with (go_at_call 36; refine (alive36 _ hT3 h23).mono ?_; rintro e w4 ⟨k4, rfl⟩)
    go_ret
    exact ⟨kw3.trans k4 (fun _ _ f => f), rfl⟩
  | true =>
  have HGD : Hid _ := hg
  have hlen := goodW_len hg
  clear hg
  go_upto_region 3 with (first
    | (go_at_call_of 24 (Value.agg #[Value.int IntKind.i64 f0, Value.int IntKind.i64 f1, Value.slice fa fl fc]); refine (well24 1048576 ta hsa _ B _ HF0.out hB0 (by omega)).mono ?_; rintro e w1 ⟨k1, rfl⟩; obtain ⟨y10, y11, y12⟩ := y0.kept k1; have G1 := HG0.out.below (k1.below hB0 (fun _ f => f.elim)); rw [HWA.out])
    | (go_at_call_of 24 (Value.agg #[Value.int IntKind.i64 g0, Value.int IntKind.i64 g1, Value.slice ga gl gc]); refine (well24 1048576 tb hsb _ B _ G1 (Nat.le_trans hB0 k1.size) (by omega)).mono ?_; rintro e w2 ⟨k2, rfl⟩; have k12 := k1.trans k2 (fun _ _ f => f); obtain ⟨z10, z11⟩ := z0.kept k12 (fun f => f); have G2 := HW0.out.kept k12 hB0; rw [HWB.out])
    | (go_at_call 30; refine (good30 _ B _ hd lp G2 (Nat.le_trans hB0 k12.size)).mono ?_; rintro e w3 ⟨k3, rfl⟩; rw [HGD.out]))
  have k03 := k12.trans k3 (fun _ _ f => f)
  have kw3 := k0.trans k03 (fun _ _ f => f)
  have x3 := x0.kept k03
  have y3 := y0.kept k03
  have z3 := z0.kept k03 (fun f => f)
  have HF3 : Hid (RV B w3 (.agg #[.int .i64 f0, .int .i64 f1, .slice fa fl fc]) ta) := HF.out.below (kw3.below hB (fun _ f => f.elim))
  have hB3 := Nat.le_trans hB kw3.size
  clear x00 x01 x02 y00 y01 y02 z00 z01 y10 y11 y12 z10 z11 G1 G2 HF0 HG0 HW0 x0 y0 z0 k0 k1 k2 k12 k3 k03 hB0
  obtain ⟨x30, x31, x32⟩ := id x3
  go_upto_region 4 with (go_at_call 19; refine (given19 1048576 ta hsa (by omega) _ B _ HF3.out hB3).mono ?_; rintro e w4 ⟨v', rfl, k4, hF4⟩; obtain ⟨oA, nA, aA, lA, cA, rfl⟩ := hF4.agg)
  obtain ⟨W4, hW4⟩ : ∃ W4, W4 = w4.alloc (.cells #[.int .i64 oA, .int .i64 nA, .slice aA lA cA] 24) := ⟨_, rfl⟩
  have q4 : Kept (fun _ => False) w4 W4 := by rw [hW4]; exact (Kept.refl _ _).alloc _
  have fA4 : FBox W4 w4.heap.size ta := by rw [hW4]; exact FBox.new (hF4.form (fun b hb => hb.2))
  rw [← hW4]
  clear hW4 hF4
  have k34 := k4.trans q4 (fun _ _ f => f)
  have kw4 := kw3.trans k34 (fun _ _ f => f)
  have y4 := y3.kept k34
  have z4 := z3.kept k34 (fun f => f)
  have HG4 : Hid (RV B W4 (.agg #[.int .i64 g0, .int .i64 g1, .slice ga gl gc]) tb) := HG.out.below (kw4.below hB (fun _ f => f.elim))
  have hB4 := Nat.le_trans hB kw4.size
  clear x30 x31 x32 x3 y3 z3 HF3 hB3 k4 q4 k34 kw3
  obtain ⟨y40, y41, y42⟩ := id y4
  go_upto_region 5 with (go_at_call 19; refine (given19 1048576 tb hsb (by omega) _ B _ HG4.out hB4).mono ?_; rintro e w5 ⟨v', rfl, k5, hF5⟩; obtain ⟨oB, nB, aB, lB, cB, rfl⟩ := hF5.agg)
  obtain ⟨W5, hW5⟩ : ∃ W5, W5 = w5.alloc (.cells #[.int .i64 oB, .int .i64 nB, .slice aB lB cB] 24) := ⟨_, rfl⟩
  have q5 : Kept (fun _ => False) w5 W5 := by rw [hW5]; exact (Kept.refl _ _).alloc _
  have fB5 : FBox W5 w5.heap.size tb := by rw [hW5]; exact FBox.new (hF5.form (fun b hb => hb.2))
  rw [← hW5]
  clear hW5 hF5
  have k45 := k5.trans q5 (fun _ _ f => f)
  have kw5 := kw4.trans k45 (fun _ _ f => f)
  have z5 := z4.kept k45 (fun f => f)
  have fA5 := fA4.kept k45
  have HW5 : Hid (WordV B W5 (.agg #[.slice ha1 hd.length hc1, .slice la1 lp.length lc1]) hd lp) := HW.out.kept kw5 hB
  have hB5 := Nat.le_trans hB kw5.size
  clear y40 y41 y42 y4 z4 HG4 hB4 k5 q5 k45 kw4 fA4
  obtain ⟨z50, z51⟩ := id z5
  go_upto_region 6 with (go_at_call 26; refine (given26 _ B _ hd lp HW5.out hB5).mono ?_; rintro e w6 ⟨a1, c1, a2, c2, rfl, n1, n2, ap1⟩)
  obtain ⟨W6, hW6⟩ : ∃ W6, W6 = w6.alloc (.cells #[.slice a1 hd.length c1, .slice a2 lp.length c2] 49) := ⟨_, rfl⟩
  have q6 : Kept (fun _ => False) w6 W6 := by rw [hW6]; exact (Kept.refl _ _).alloc _
  have u6 : UBox W6 w6.heap.size hd lp := ⟨a1, c1, a2, c2, by rw [hW6]; exact Bx.new w6 _ _ 49, WordV.new ⟨_, _, rfl, n1.ints hl1, n2.ints hl2⟩ q6⟩
  rw [← hW6]
  clear hW6
  have k56 := n1.1.trans q6 (fun _ _ f => f)
  have kw6 := kw5.trans k56 (fun _ _ f => f)
  have fA6 := fA5.kept k56
  have fB6 := fB5.kept k56
  clear z50 z51 z5 HW5 hB5 n1 n2 ap1 q6 k56 kw5 fA5 fB5
  obtain ⟨o1, m1, p1, l1, d1, ⟨s10, s11, s12⟩, F1⟩ := id fA6
  obtain ⟨o2, m2, p2, l2, d2, ⟨s20, s21, s22⟩, F2⟩ := id fB6
  have HF1 : Hid (FormV W6.heap.size W6 (.agg #[.int .i64 o1, .int .i64 m1, .slice p1 l1 d1]) ta) := F1
  have HF2 : Hid (FormV W6.heap.size W6 (.agg #[.int .i64 o2, .int .i64 m2, .slice p2 l2 d2]) tb) := F2
  clear F1 F2
  go_upto_region 7 with (go_at_call 41; refine (two41 _ _ 8 _ _ ta tb HF1.out HF2.out (Nat.le_refl _)).mono ?_; rintro e w7 ⟨v', rfl, k7, hF7⟩; obtain ⟨oC, nC, aC, lC, cC, rfl⟩ := hF7.agg)
  obtain ⟨W7, hW7⟩ : ∃ W7, W7 = w7.alloc (.cells #[.int .i64 oC, .int .i64 nC, .slice aC lC cC] 24) := ⟨_, rfl⟩
  have q7 : Kept (fun _ => False) w7 W7 := by rw [hW7]; exact (Kept.refl _ _).alloc _
  have fC7 : FBox W7 w7.heap.size (bi 8 ta tb) := by rw [hW7]; exact FBox.new hF7
  rw [← hW7]
  clear hW7 hF7
  have k67 := k7.trans q7 (fun _ _ f => f)
  have kw7 := kw6.trans k67 (fun _ _ f => f)
  have fA7 := fA6.kept k67
  have fB7 := fB6.kept k67
  have u7 := u6.kept k67
  clear s10 s11 s12 s20 s21 s22 HF1 HF2 fA6 fB6 u6 k7 q7 k67 kw6
  obtain ⟨o3, m3, p3, l3, d3, ⟨s10, s11, s12⟩, F1⟩ := id fA7
  obtain ⟨o4, m4, p4, l4, d4, ⟨s20, s21, s22⟩, F2⟩ := id fB7
  have HF1 : Hid (FormV W7.heap.size W7 (.agg #[.int .i64 o3, .int .i64 m3, .slice p3 l3 d3]) ta) := F1
  have HF2 : Hid (FormV W7.heap.size W7 (.agg #[.int .i64 o4, .int .i64 m4, .slice p4 l4 d4]) tb) := F2
  clear F1 F2
  go_upto_region 8 with (go_at_call 41; refine (two41 _ _ 9 _ _ ta tb HF1.out HF2.out (Nat.le_refl _)).mono ?_; rintro e w8 ⟨v', rfl, k8, hF8⟩; obtain ⟨oD, nD, aD, lD, cD, rfl⟩ := hF8.agg)
  obtain ⟨W8, hW8⟩ : ∃ W8, W8 = w8.alloc (.cells #[.int .i64 oD, .int .i64 nD, .slice aD lD cD] 24) := ⟨_, rfl⟩
  have q8 : Kept (fun _ => False) w8 W8 := by rw [hW8]; exact (Kept.refl _ _).alloc _
  have fD8 : FBox W8 w8.heap.size (bi 9 ta tb) := by rw [hW8]; exact FBox.new hF8
  rw [← hW8]
  clear hW8 hF8
  have k78 := k8.trans q8 (fun _ _ f => f)
  have kw8 := kw7.trans k78 (fun _ _ f => f)
  have fA8 := fA7.kept k78
  have fB8 := fB7.kept k78
  have fC8 := fC7.kept k78
  have u8 := u7.kept k78
  clear s10 s11 s12 s20 s21 s22 HF1 HF2 fA7 fB7 fC7 u7 k8 q8 k78 kw7
  generalize w4.heap.size = bA at *
  generalize w5.heap.size = bB at *
  generalize w6.heap.size = bU at *
  generalize w7.heap.size = bC at *
  generalize w8.heap.size = bD at *
  have hU : (bi 8 ta tb).well := bi_well wn8 hta htb
  have hR9 : (bi 9 ta tb).well := bi_well wn9 hta htb
  have sU : (bi 8 ta tb).size ≤ 268435456 := by rw [bi_size]; omega
  have sR : (bi 9 ta tb).size ≤ 268435456 := by rw [bi_size]; omega
  have hX1 : (bi 5 tb (bi 4 ta (un 7 (bi 8 ta tb)))).well := bi_well wn5 htb (bi_well wn4 hta (un_well wn7 hU))
  have sX1 : (bi 5 tb (bi 4 ta (un 7 (bi 8 ta tb)))).size ≤ 268435456 := by simp only [bi_size, un_size]; omega
  have hX2 : (bi 4 tb (bi 5 ta (un 7 (bi 9 ta tb)))).well := bi_well wn4 htb (bi_well wn5 hta (un_well wn7 hR9))
  have sX2 : (bi 4 tb (bi 5 ta (un 7 (bi 9 ta tb)))).size ≤ 268435456 := by simp only [bi_size, un_size]; omega
  have hX3 : (un 3 (bi 8 (un 3 ta) (un 3 tb))).well := un_well wn3 (bi_well wn8 (un_well wn3 hta) (un_well wn3 htb))
  have sX3 : (un 3 (bi 8 (un 3 ta) (un 3 tb))).size ≤ 268435456 := by simp only [bi_size, un_size]; omega
  have hX4 : (un 11 ta).well := un_well wn11 hta
  have sX4 : (un 11 ta).size ≤ 268435456 := by simp only [un_size]; omega
  have hX5 : (un 3 (un 10 (un 3 ta))).well := un_well wn3 (un_well wn10 (un_well wn3 hta))
  have sX5 : (un 3 (un 10 (un 3 ta))).size ≤ 268435456 := by simp only [un_size]; omega
  have hX6 : (un 10 ta).well := un_well wn10 hta
  have sX6 : (un 10 ta).size ≤ 268435456 := by simp only [un_size]; omega
  have hX7 : (bi 5 ta (un 7 (un 10 ta))).well := bi_well wn5 hta (un_well wn7 (un_well wn10 hta))
  have sX7 : (bi 5 ta (un 7 (un 10 ta))).size ≤ 268435456 := by simp only [bi_size, un_size]; omega
  refine wp_region_sq [44, 45, 46, 47, 48, 49, 50, 51, 52, 12] [.form (bi 8 ta tb), .form tb, .form ta, .form (bi 8 ta tb), .form (un 7 (bi 8 ta tb)), .form (bi 4 ta (un 7 (bi 8 ta tb))), .form (bi 5 tb (bi 4 ta (un 7 (bi 8 ta tb)))), .word hd lp, .val (.bool true), .val (.bool true)] (by kernel_rfl) rfl (by decide) rfl rfl (by kernel_rfl) ⟨stepR_loadF (s := 10) rfl (by decide) rfl fC8 rfl,
    stepR_loadF (s := 8) rfl (by decide) rfl fB8 rfl,
    stepR_loadF (s := 7) rfl (by decide) rfl fA8 rfl,
    stepR_loadF (s := 10) rfl (by decide) rfl fC8 rfl,
    stepR_one (d := 47) (j := 3) rfl (by simp) rfl rfl rfl,
    stepR_two (d := 46) (d' := 48) (j := 2) (j' := 4) rfl (by simp) (by simp) rfl rfl rfl rfl rfl,
    stepR_two (d := 45) (d' := 49) (j := 1) (j' := 5) rfl (by simp) (by simp) rfl rfl rfl rfl rfl,
    stepR_loadU (s := 9) rfl (by decide) rfl u8 rfl,
    stepR_truths (d1 := 44) (d2 := 50) (d3 := 51) (j1 := 0) (j2 := 6) (j3 := 7) rfl (by simp) (by simp) (by simp) rfl rfl rfl rfl rfl rfl rfl (hT.kept kw8) (Nat.le_trans h2 kw8.size) sU sX1 HGD.out hU hX1 (law_until _ ta tb),
    stepR_assign (d := 52) (j := 8) rfl (by simp) rfl rfl rfl, trivial⟩ ?_
  intro f W9 hk hR
  have e8 : f 8 = .bool true := hR 8 (by decide)
  have e9 : f 9 = .bool true := hR 9 (by decide)
  clear hR
  have fA9 := fA8.kept hk
  have fB9 := fB8.kept hk
  have fC9 := fC8.kept hk
  have fD9 := fD8.kept hk
  have u9 := u8.kept hk
  have kw9 := kw8.trans hk (fun _ _ f => f)
  simp only [puts, Nat.zero_add, Nat.reduceAdd, e8, e9, Act.put, List.setIfInBounds_toArray, List.set_cons_succ, List.set_cons_zero]
  clear e8 e9 hk fA8 fB8 fC8 fD8 u8 kw8
  generalize f 0 = t8_0
  generalize f 1 = t8_1
  generalize f 2 = t8_2
  generalize f 3 = t8_3
  generalize f 4 = t8_4
  generalize f 5 = t8_5
  generalize f 6 = t8_6
  generalize f 7 = t8_7
  clear f
  go_upto_region 9 with fail
  refine wp_region_sq [53, 54, 55, 56, 57, 58, 59, 60, 61, 13] [.form (bi 9 ta tb), .form tb, .form ta, .form (bi 9 ta tb), .form (un 7 (bi 9 ta tb)), .form (bi 5 ta (un 7 (bi 9 ta tb))), .form (bi 4 tb (bi 5 ta (un 7 (bi 9 ta tb)))), .word hd lp, .val (.bool true), .val (.bool true)] (by kernel_rfl) rfl (by decide) rfl rfl (by kernel_rfl) ⟨stepR_loadF (s := 11) rfl (by decide) rfl fD9 rfl,
    stepR_loadF (s := 8) rfl (by decide) rfl fB9 rfl,
    stepR_loadF (s := 7) rfl (by decide) rfl fA9 rfl,
    stepR_loadF (s := 11) rfl (by decide) rfl fD9 rfl,
    stepR_one (d := 56) (j := 3) rfl (by simp) rfl rfl rfl,
    stepR_two (d := 55) (d' := 57) (j := 2) (j' := 4) rfl (by simp) (by simp) rfl rfl rfl rfl rfl,
    stepR_two (d := 54) (d' := 58) (j := 1) (j' := 5) rfl (by simp) (by simp) rfl rfl rfl rfl rfl,
    stepR_loadU (s := 9) rfl (by decide) rfl u9 rfl,
    stepR_truths (d1 := 53) (d2 := 59) (d3 := 60) (j1 := 0) (j2 := 6) (j3 := 7) rfl (by simp) (by simp) (by simp) rfl rfl rfl rfl rfl rfl rfl (hT.kept kw9) (Nat.le_trans h2 kw9.size) sR sX2 HGD.out hR9 hX2 (law_release _ ta tb),
    stepR_assign (d := 61) (j := 8) rfl (by simp) rfl rfl rfl, trivial⟩ ?_
  intro f W10 hk hR
  have e8 : f 8 = .bool true := hR 8 (by decide)
  have e9 : f 9 = .bool true := hR 9 (by decide)
  clear hR
  have fA10 := fA9.kept hk
  have fB10 := fB9.kept hk
  have fC10 := fC9.kept hk
  have fD10 := fD9.kept hk
  have u10 := u9.kept hk
  have kw10 := kw9.trans hk (fun _ _ f => f)
  simp only [puts, Nat.zero_add, Nat.reduceAdd, e8, e9, Act.put, List.setIfInBounds_toArray, List.set_cons_succ, List.set_cons_zero]
  clear e8 e9 hk fA9 fB9 fC9 fD9 u9 kw9
  generalize f 0 = t9_0
  generalize f 1 = t9_1
  generalize f 2 = t9_2
  generalize f 3 = t9_3
  generalize f 4 = t9_4
  generalize f 5 = t9_5
  generalize f 6 = t9_6
  generalize f 7 = t9_7
  clear f
  go_upto_region 10 with fail
  refine wp_region_sq [62, 63, 64, 65, 66, 67, 68, 69, 70, 14] [.form (bi 9 ta tb), .form ta, .form (un 3 ta), .form tb, .form (un 3 tb), .form (bi 8 (un 3 ta) (un 3 tb)), .form (un 3 (bi 8 (un 3 ta) (un 3 tb))), .word hd lp, .val (.bool true), .val (.bool true)] (by kernel_rfl) rfl (by decide) rfl rfl (by kernel_rfl) ⟨stepR_loadF (s := 11) rfl (by decide) rfl fD10 rfl,
    stepR_loadF (s := 7) rfl (by decide) rfl fA10 rfl,
    stepR_one (d := 63) (j := 1) rfl (by simp) rfl rfl rfl,
    stepR_loadF (s := 8) rfl (by decide) rfl fB10 rfl,
    stepR_one (d := 65) (j := 3) rfl (by simp) rfl rfl rfl,
    stepR_two (d := 64) (d' := 66) (j := 2) (j' := 4) rfl (by simp) (by simp) rfl rfl rfl rfl rfl,
    stepR_one (d := 67) (j := 5) rfl (by simp) rfl rfl rfl,
    stepR_loadU (s := 9) rfl (by decide) rfl u10 rfl,
    stepR_truths (d1 := 62) (d2 := 68) (d3 := 69) (j1 := 0) (j2 := 6) (j3 := 7) rfl (by simp) (by simp) (by simp) rfl rfl rfl rfl rfl rfl rfl (hT.kept kw10) (Nat.le_trans h2 kw10.size) sR sX3 HGD.out hR9 hX3 (law_opp _ ta tb),
    stepR_assign (d := 70) (j := 8) rfl (by simp) rfl rfl rfl, trivial⟩ ?_
  intro f W11 hk hR
  have e8 : f 8 = .bool true := hR 8 (by decide)
  have e9 : f 9 = .bool true := hR 9 (by decide)
  clear hR
  have fA11 := fA10.kept hk
  have fB11 := fB10.kept hk
  have fC11 := fC10.kept hk
  have fD11 := fD10.kept hk
  have u11 := u10.kept hk
  have kw11 := kw10.trans hk (fun _ _ f => f)
  simp only [puts, Nat.zero_add, Nat.reduceAdd, e8, e9, Act.put, List.setIfInBounds_toArray, List.set_cons_succ, List.set_cons_zero]
  clear e8 e9 hk fA10 fB10 fC10 fD10 u10 kw10
  generalize f 0 = t10_0
  generalize f 1 = t10_1
  generalize f 2 = t10_2
  generalize f 3 = t10_3
  generalize f 4 = t10_4
  generalize f 5 = t10_5
  generalize f 6 = t10_6
  generalize f 7 = t10_7
  clear f
  go_upto_region 11 with fail
  refine wp_region_sq [71, 72, 73, 74, 75, 76, 77, 78, 15] [.form ta, .form (un 11 ta), .form ta, .form (un 3 ta), .form (un 10 (un 3 ta)), .form (un 3 (un 10 (un 3 ta))), .word hd lp, .val (.bool true), .val (.bool true)] (by kernel_rfl) rfl (by decide) rfl rfl (by kernel_rfl) ⟨stepR_loadF (s := 7) rfl (by decide) rfl fA11 rfl,
    stepR_one (d := 71) (j := 0) rfl (by simp) rfl rfl rfl,
    stepR_loadF (s := 7) rfl (by decide) rfl fA11 rfl,
    stepR_one (d := 73) (j := 2) rfl (by simp) rfl rfl rfl,
    stepR_one (d := 74) (j := 3) rfl (by simp) rfl rfl rfl,
    stepR_one (d := 75) (j := 4) rfl (by simp) rfl rfl rfl,
    stepR_loadU (s := 9) rfl (by decide) rfl u11 rfl,
    stepR_truths (d1 := 72) (d2 := 76) (d3 := 77) (j1 := 1) (j2 := 5) (j3 := 6) rfl (by simp) (by simp) (by simp) rfl rfl rfl rfl rfl rfl rfl (hT.kept kw11) (Nat.le_trans h2 kw11.size) sX4 sX5 HGD.out hX4 hX5 (law_glob _ ta),
    stepR_assign (d := 78) (j := 7) rfl (by simp) rfl rfl rfl, trivial⟩ ?_
  intro f W12 hk hR
  have e7 : f 7 = .bool true := hR 7 (by decide)
  have e8 : f 8 = .bool true := hR 8 (by decide)
  clear hR
  have fA12 := fA11.kept hk
  have fB12 := fB11.kept hk
  have fC12 := fC11.kept hk
  have fD12 := fD11.kept hk
  have u12 := u11.kept hk
  have kw12 := kw11.trans hk (fun _ _ f => f)
  simp only [puts, Nat.zero_add, Nat.reduceAdd, e7, e8, Act.put, List.setIfInBounds_toArray, List.set_cons_succ, List.set_cons_zero]
  clear e7 e8 hk fA11 fB11 fC11 fD11 u11 kw11
  generalize f 0 = t11_0
  generalize f 1 = t11_1
  generalize f 2 = t11_2
  generalize f 3 = t11_3
  generalize f 4 = t11_4
  generalize f 5 = t11_5
  generalize f 6 = t11_6
  clear f
  go_upto_region 12 with fail
  refine wp_region_sq [79, 80, 81, 82, 83, 84, 85, 86, 87, 16] [.form ta, .form (un 10 ta), .form ta, .form ta, .form (un 10 ta), .form (un 7 (un 10 ta)), .form (bi 5 ta (un 7 (un 10 ta))), .word hd lp, .val (.bool true), .val (.bool true)] (by kernel_rfl) rfl (by decide) rfl rfl (by kernel_rfl) ⟨stepR_loadF (s := 7) rfl (by decide) rfl fA12 rfl,
    stepR_one (d := 79) (j := 0) rfl (by simp) rfl rfl rfl,
    stepR_loadF (s := 7) rfl (by decide) rfl fA12 rfl,
    stepR_loadF (s := 7) rfl (by decide) rfl fA12 rfl,
    stepR_one (d := 82) (j := 3) rfl (by simp) rfl rfl rfl,
    stepR_one (d := 83) (j := 4) rfl (by simp) rfl rfl rfl,
    stepR_two (d := 81) (d' := 84) (j := 2) (j' := 5) rfl (by simp) (by simp) rfl rfl rfl rfl rfl,
    stepR_loadU (s := 9) rfl (by decide) rfl u12 rfl,
    stepR_truths (d1 := 80) (d2 := 85) (d3 := 86) (j1 := 1) (j2 := 6) (j3 := 7) rfl (by simp) (by simp) (by simp) rfl rfl rfl rfl rfl rfl rfl (hT.kept kw12) (Nat.le_trans h2 kw12.size) sX6 sX7 HGD.out hX6 hX7 (law_fin _ ta),
    stepR_assign (d := 87) (j := 8) rfl (by simp) rfl rfl rfl, trivial⟩ ?_
  intro f W13 hk hR
  have e8 : f 8 = .bool true := hR 8 (by decide)
  have e9 : f 9 = .bool true := hR 9 (by decide)
  clear hR
  have fA13 := fA12.kept hk
  have fB13 := fB12.kept hk
  have fC13 := fC12.kept hk
  have fD13 := fD12.kept hk
  have u13 := u12.kept hk
  have kw13 := kw12.trans hk (fun _ _ f => f)
  simp only [puts, Nat.zero_add, Nat.reduceAdd, e8, e9, Act.put, List.setIfInBounds_toArray, List.set_cons_succ, List.set_cons_zero]
  clear e8 e9 hk fA12 fB12 fC12 fD12 u12 kw12
  generalize f 0 = t12_0
  generalize f 1 = t12_1
  generalize f 2 = t12_2
  generalize f 3 = t12_3
  generalize f 4 = t12_4
  generalize f 5 = t12_5
  generalize f 6 = t12_6
  generalize f 7 = t12_7
  clear f
  obtain ⟨r1, r2, r3, r4, ⟨s0, s1⟩, hu⟩ := id u13
  have HU : Hid (WordV W13.heap.size W13 (.agg #[.slice r1 hd.length r2, .slice r3 lp.length r4]) hd lp) := hu
  clear hu
  go_upto_region 14 with (go_at_call 37; refine (least37g _ _ hd lp HU.out HGD.out).mono ?_; rintro e w14 ⟨hd', lp', q1, q2, q3, q4, rfl, k14, hw', hg', hsm, hat⟩)
  obtain ⟨W14, hW14⟩ : ∃ W14, W14 = w14.alloc (.cells #[.slice q1 hd'.length q2, .slice q3 lp'.length q4] 49) := ⟨_, rfl⟩
  have j14 : Kept (fun _ => False) w14 W14 := by rw [hW14]; exact (Kept.refl _ _).alloc _
  have v14 : Bx W14 w14.heap.size (.slice q1 hd'.length q2) (.slice q3 lp'.length q4) := by rw [hW14]; exact Bx.new w14 _ _ 49
  rw [← hW14]
  clear hW14
  have l14 := k14.trans j14 (fun _ _ f => f)
  have kw14 := kw13.trans l14 (fun _ _ f => f)
  have hlen' := goodW_len hg'
  obtain ⟨o1, m1, p1, l1, d1, ⟨c10, c11, c12⟩, F1⟩ := fC13.kept l14
  obtain ⟨o2, m2, p2, l2, d2, ⟨c20, c21, c22⟩, F2⟩ := fD13.kept l14
  have U10 : ∀ U : KW W14, U.1.cell? ⟨bC, 0, none⟩ = some (.int .i64 o1) := fun U => U.cell c10
  have U11 : ∀ U : KW W14, U.1.cell? ⟨bC, 1, none⟩ = some (.int .i64 m1) := fun U => U.cell c11
  have U12 : ∀ U : KW W14, U.1.cell? ⟨bC, 2, none⟩ = some (.slice p1 l1 d1) := fun U => U.cell c12
  have U20 : ∀ U : KW W14, U.1.cell? ⟨bD, 0, none⟩ = some (.int .i64 o2) := fun U => U.cell c20
  have U21 : ∀ U : KW W14, U.1.cell? ⟨bD, 1, none⟩ = some (.int .i64 m2) := fun U => U.cell c21
  have U22 : ∀ U : KW W14, U.1.cell? ⟨bD, 2, none⟩ = some (.slice p2 l2 d2) := fun U => U.cell c22
  have hS0 := (l14.cell (lt_of_cell s0) (fun f => f)).trans s0
  have hS1 := (l14.cell (lt_of_cell s1) (fun f => f)).trans s1
  have U30 : ∀ U : KW W14, U.1.cell? ⟨bU, 0, none⟩ = some (.slice r1 hd.length r2) := fun U => U.cell hS0
  have U31 : ∀ U : KW W14, U.1.cell? ⟨bU, 1, none⟩ = some (.slice r3 lp.length r4) := fun U => U.cell hS1
  have U40 : ∀ U : KW W14, U.1.cell? ⟨w14.heap.size, 0, none⟩ = some (.slice q1 hd'.length q2) := fun U => U.cell v14.1
  have U41 : ∀ U : KW W14, U.1.cell? ⟨w14.heap.size, 1, none⟩ = some (.slice q3 lp'.length q4) := fun U => U.cell v14.2
  have hu14 := HU.out.new l14
  have hv14 := hw'.new j14
  have hT14 := hT.kept kw14
  have h214 := Nat.le_trans h2 kw14.size
  obtain ⟨z1, hz1⟩ : ∃ z, (tvT (hd ++ lp) hd.length (bi 8 ta tb)).headD false = z := ⟨_, rfl⟩
  obtain ⟨z2, hz2⟩ : ∃ z, (tvT (hd ++ lp) hd.length (bi 9 ta tb)).headD false = z := ⟨_, rfl⟩
  have hz1' : (tvT (hd' ++ lp') hd'.length (bi 8 ta tb)).headD false = z1 := (head_same hU hlen.2 hlen'.2 hat).trans hz1
  have hz2' : (tvT (hd' ++ lp') hd'.length (bi 9 ta tb)).headD false = z2 := (head_same hR9 hlen.2 hlen'.2 hat).trans hz2
  have C39 : Hid (∀ U : KW W14, Calls Tryd.prog 39 #[.agg #[.slice r1 hd.length r2, .slice r3 lp.length r4], .agg #[.slice q1 hd'.length q2, .slice q3 lp'.length q4]] U.1 fun e w' => Kept (fun _ => False) U.1 w' ∧ e = .returned (.bool true)) := fun U => by
    have h := same39 U.1 _ _ _ _ hd lp hd' lp' (hu14.new U.2) (hv14.new U.2) (Nat.le_refl _) (Nat.le_refl _)
    rwa [hsm] at h
  have Ca : Hid (∀ U : KW W14, Calls Tryd.prog 33 #[.agg #[.int .i64 o1, .int .i64 m1, .slice p1 l1 d1], .agg #[.slice q1 hd'.length q2, .slice q3 lp'.length q4]] U.1 fun e w' => Kept (fun _ => False) U.1 w' ∧ e = .returned (.bool z1)) := fun U => holds33g U.1 _ _ _ hd' lp' _ z1 hz1' (hv14.new U.2) (F1.new U.2) (Nat.le_refl _) (hT14.kept U.2) (Nat.le_trans h214 U.2.size) sU hg' hU
  have Cb : Hid (∀ U : KW W14, Calls Tryd.prog 33 #[.agg #[.int .i64 o1, .int .i64 m1, .slice p1 l1 d1], .agg #[.slice r1 hd.length r2, .slice r3 lp.length r4]] U.1 fun e w' => Kept (fun _ => False) U.1 w' ∧ e = .returned (.bool z1)) := fun U => holds33g U.1 _ _ _ hd lp _ z1 hz1 (hu14.new U.2) (F1.new U.2) (Nat.le_refl _) (hT14.kept U.2) (Nat.le_trans h214 U.2.size) sU HGD.out hU
  have Cc : Hid (∀ U : KW W14, Calls Tryd.prog 33 #[.agg #[.int .i64 o2, .int .i64 m2, .slice p2 l2 d2], .agg #[.slice q1 hd'.length q2, .slice q3 lp'.length q4]] U.1 fun e w' => Kept (fun _ => False) U.1 w' ∧ e = .returned (.bool z2)) := fun U => holds33g U.1 _ _ _ hd' lp' _ z2 hz2' (hv14.new U.2) (F2.new U.2) (Nat.le_refl _) (hT14.kept U.2) (Nat.le_trans h214 U.2.size) sR hg' hR9
  have Cd : Hid (∀ U : KW W14, Calls Tryd.prog 33 #[.agg #[.int .i64 o2, .int .i64 m2, .slice p2 l2 d2], .agg #[.slice r1 hd.length r2, .slice r3 lp.length r4]] U.1 fun e w' => Kept (fun _ => False) U.1 w' ∧ e = .returned (.bool z2)) := fun U => holds33g U.1 _ _ _ hd lp _ z2 hz2 (hu14.new U.2) (F2.new U.2) (Nat.le_refl _) (hT14.kept U.2) (Nat.le_trans h214 U.2.size) sR HGD.out hR9
  have Ce : Hid (∀ U : KW W14, Calls Tryd.prog 36 #[] U.1 fun e w' => Kept (fun _ => False) U.1 w' ∧ e = .returned (.bool true)) := fun U => alive36 U.1 (hT14.kept U.2) (Nat.le_trans h214 U.2.size)
  have KW14 : Hid (Kept (fun _ => False) w W14) := kw14
  clear hz1 hz2 hz1' hz2' hu14 hv14 hT14 h214 F1 F2 c10 c11 c12 c20 c21 c22 hS0 hS1 v14 hw' hg' hsm hat fA13 fB13 fC13 fD13 u13 kw13 kw14 l14 j14 k14 s0 s1 HU hU hR9 sU sR hX1 sX1 hX2 sX2 hX3 sX3 hX4 sX4 hX5 sX5 hX6 sX6 hX7 sX7 hlen' hlen
  refine wp_region_blk_kept (by kernel_rfl) (by kernel_rfl) ?_
  repeat (refine blk_step (fun K hK => ?_); go_simp; first | (refine hK _ ?_; clear hK K) | (apply Exists.intro; refine ⟨fun U => ?_, hK _ ?_⟩; (first | (go_at_call 39; exact Calls.quiet_kept (C39.out U)) | (go_at_call_of 33 (Value.agg #[Value.int IntKind.i64 o1, Value.int IntKind.i64 m1, Value.slice p1 l1 d1]); go_at_call_of 33 (Value.agg #[Value.slice q1 hd'.length q2, Value.slice q3 lp'.length q4]); exact Calls.quiet_kept (Ca.out U)) | (go_at_call_of 33 (Value.agg #[Value.int IntKind.i64 o1, Value.int IntKind.i64 m1, Value.slice p1 l1 d1]); go_at_call_of 33 (Value.agg #[Value.slice r1 hd.length r2, Value.slice r3 lp.length r4]); exact Calls.quiet_kept (Cb.out U)) | (go_at_call_of 33 (Value.agg #[Value.int IntKind.i64 o2, Value.int IntKind.i64 m2, Value.slice p2 l2 d2]); go_at_call_of 33 (Value.agg #[Value.slice q1 hd'.length q2, Value.slice q3 lp'.length q4]); exact Calls.quiet_kept (Cc.out U)) | (go_at_call_of 33 (Value.agg #[Value.int IntKind.i64 o2, Value.int IntKind.i64 m2, Value.slice p2 l2 d2]); go_at_call_of 33 (Value.agg #[Value.slice r1 hd.length r2, Value.slice r3 lp.length r4]); exact Calls.quiet_kept (Cd.out U)) | (go_at_call 36; exact Calls.quiet_kept (Ce.out U))); clear hK K))
  refine blk_nil ?_
  intro w15 hw'
  have k15 : Kept (fun _ => False) W14 w15 := by
    obtain ⟨U, rfl⟩ := hw'
    exact U.2
  clear hw'
  go_wp2_with fail
  go_ret
  exact ⟨KW14.out.trans k15 (fun _ _ f => f), rfl⟩
end Go.Proofs.YtdbpdanocpfboaaDoor
