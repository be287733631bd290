/- Walks of the law's own helpers: Given, ints, Same. -/
import Derived.Test.YtdbpdanocpfboaaDoorVNew
import Derived.Test.YtdbpdanocpfboaaDoorVTi
namespace Go.Proofs.YtdbpdanocpfboaaDoor
open Go.RowKit Go.Shelf

def Apart2 (a a' : Option Addr) : Prop := ∀ b o b' o', a = some ⟨b, o, none⟩ → a' = some ⟨b', o', none⟩ → b ≠ b'

set_option maxRecDepth 100000 in
set_option maxHeartbeats 1000000 in
theorem given26 (w : World) (B : Nat) (v : Value) (hd lp : List Int) (hv : WordV B w v hd lp) (hB : B ≤ w.heap.size) :
    Calls Tryd.prog 26 #[v] w fun e w' => ∃ a c a' c', e = .returned (.agg #[.slice a hd.length c, .slice a' lp.length c']) ∧ NewS w w' a c hd ∧ NewS w w' a' c' lp ∧ Apart2 a a' := by
  obtain ⟨hv1, lv1, rfl, h1, h2⟩ := id hv
  obtain ⟨ha, hc, rfl, hl1⟩ := h1.form
  obtain ⟨la, lc, rfl, hl2⟩ := h2.form
  obtain ⟨W3, hW3⟩ : ∃ W3, W3 = (((w.alloc (.cells #[.slice ha hd.length hc, .slice la lp.length lc] 48)).alloc (.cells #[.slice none 0 0, .slice none 0 0] 49)).alloc (.cells #[.slice none 0 0, .slice none 0 0] 49)) := ⟨_, rfl⟩
  have hk : Kept (fun _ => False) w W3 := by rw [hW3]; exact (((Kept.refl _ _).alloc _).alloc _).alloc _
  have c0 : W3.cell? ⟨w.heap.size, 0, none⟩ = some (.slice ha hd.length hc) := by rw [hW3]; simp [go_sem]
  have c1 : W3.cell? ⟨w.heap.size, 1, none⟩ = some (.slice la lp.length lc) := by rw [hW3]; simp [go_sem]
  have r0 : W3.cell? ⟨w.heap.size + 1, 0, none⟩ = some (.slice none 0 0) := by rw [hW3, World.cell?_alloc_past (hn := by simp), World.cell?_alloc_at (hn := by simp)]; rfl
  have r1 : W3.cell? ⟨w.heap.size + 1, 1, none⟩ = some (.slice none 0 0) := by rw [hW3, World.cell?_alloc_past (hn := by simp), World.cell?_alloc_at (hn := by simp)]; rfl
  have u0 : W3.cell? ⟨w.heap.size + 2, 0, none⟩ = some (.slice none 0 0) := by rw [hW3, World.cell?_alloc_at (hn := by simp)]; rfl
  have u1 : W3.cell? ⟨w.heap.size + 2, 1, none⟩ = some (.slice none 0 0) := by rw [hW3, World.cell?_alloc_at (hn := by simp)]; rfl
  have fr : ∀ i, W3.frozen? ⟨w.heap.size + 1, i, none⟩ = false := fun i => by rw [hW3, World.frozen?_alloc_past (hn := by simp), World.frozen?_alloc_at (hn := by simp)]
  have fu : ∀ i, W3.frozen? ⟨w.heap.size + 2, i, none⟩ = false := fun i => by rw [hW3, World.frozen?_alloc_at (hn := by simp)]
  go_enter Tryd.func26, Tryd.ntmps26
  go_upto_region 2 with fail
  rw [← hW3]
  clear hW3
  have hlu := lt_of_cell u0
  simp only at hlu
  have hB3 : B ≤ W3.heap.size := Nat.le_trans hB hk.size
  obtain ⟨a1, n1, w4, run1, N1⟩ := append_nil_ints (t := 46) (tx := 46) Tryd.underlying46 Tryd.underlying46 (h1.below (hk.below hB (fun _ f => f.elim)))
  have k1 := N1.1
  have hg2 := h2.below ((hk.trans k1 (fun _ _ f => f)).below hB (fun _ f => f.elim))
  have c0' := (k1.cell (p := ⟨w.heap.size, 0, none⟩) (lt_of_cell c0) (fun f => f)).trans c0
  have c1' := (k1.cell (p := ⟨w.heap.size, 1, none⟩) (lt_of_cell c1) (fun f => f)).trans c1
  have r0' := (k1.cell (p := ⟨w.heap.size + 1, 0, none⟩) (lt_of_cell r0) (fun f => f)).trans r0
  have r1' := (k1.cell (p := ⟨w.heap.size + 1, 1, none⟩) (lt_of_cell r1) (fun f => f)).trans r1
  have u0' := (k1.cell (p := ⟨w.heap.size + 2, 0, none⟩) (lt_of_cell u0) (fun f => f)).trans u0
  have u1' := (k1.cell (p := ⟨w.heap.size + 2, 1, none⟩) (lt_of_cell u1) (fun f => f)).trans u1
  have f0' := (k1.frozen (p := ⟨w.heap.size + 1, 0, none⟩) (lt_of_cell r0) (fun f => f)).trans (fr 0)
  have f1' := (k1.frozen (p := ⟨w.heap.size + 1, 1, none⟩) (lt_of_cell r1) (fun f => f)).trans (fr 1)
  have v0' := (k1.frozen (p := ⟨w.heap.size + 2, 0, none⟩) (lt_of_cell u0) (fun f => f)).trans (fu 0)
  have v1' := (k1.frozen (p := ⟨w.heap.size + 2, 1, none⟩) (lt_of_cell u1) (fun f => f)).trans (fu 1)
  have HR1 : Hid (∀ (ty : TypeId), (Builtin.append_ #[46, 46] ty #[.slice none 0 0, .slice ha hd.length hc]).run Tryd.prog W3 = .ok (.slice a1 hd.length n1) w4) := run1
  clear run1
  go_upto_region 3 with (at_builtin; refine wpList_append_run rfl _ _ 46 46 rfl (.slice none 0 0) (.slice ha hd.length hc) rfl rfl HR1.out ?_)
  clear HR1 u0 u1 r0 r1 c0 c1 fr fu
  have hl4 : w.heap.size + 2 < w4.heap.size := Nat.lt_of_lt_of_le hlu k1.size
  obtain ⟨w5, hw5⟩ : ∃ w5, w5 = w4.setCell ⟨w.heap.size + 2, 0, none⟩ (.slice a1 hd.length n1) := ⟨_, rfl⟩
  have kW : Kept (fun _ => False) w w5 := by rw [hw5]; exact (hk.trans k1 (fun _ _ f => f)).setCell (fun hh => absurd hh (by simp)) _
  have M1 : NewS w w5 a1 n1 hd := by
    rw [hw5]
    exact (N1.rebase hk).set (fun b o e => by have := (N1.blk e).1; simp only; omega) (by simp) _
  have s1 : w5.cell? ⟨w.heap.size, 1, none⟩ = some (.slice la lp.length lc) := by rw [hw5]; simp [go_sem, c1']
  have t0 : w5.cell? ⟨w.heap.size + 2, 0, none⟩ = some (.slice a1 hd.length n1) := by rw [hw5]; simp [go_sem, u0']
  have t1 : w5.cell? ⟨w.heap.size + 2, 1, none⟩ = some (.slice none 0 0) := by rw [hw5]; simp [go_sem, u1']
  have q0 : w5.cell? ⟨w.heap.size + 1, 0, none⟩ = some (.slice none 0 0) := by rw [hw5]; simp [go_sem, r0']
  have q1 : w5.cell? ⟨w.heap.size + 1, 1, none⟩ = some (.slice none 0 0) := by rw [hw5]; simp [go_sem, r1']
  have fq0 : w5.frozen? ⟨w.heap.size + 1, 0, none⟩ = false := by rw [hw5]; simp [go_sem, f0']
  have fq1 : w5.frozen? ⟨w.heap.size + 1, 1, none⟩ = false := by rw [hw5]; simp [go_sem, f1']
  have ft1 : w5.frozen? ⟨w.heap.size + 2, 1, none⟩ = false := by rw [hw5]; simp [go_sem, v1']
  rw [← hw5]
  have P4 : Hid (∀ b o, a1 = some ⟨b, o, none⟩ → W3.heap.size ≤ b) := fun b o e => (N1.blk e).1
  clear hw5 hg2 N1 c0' c1' r0' r1' u0' u1' f0' f1' v0' v1'
  obtain ⟨a2, n2, w6, run2, N2⟩ := append_nil_ints (t := 46) (tx := 46) Tryd.underlying46 Tryd.underlying46 (h2.below (kW.below hB (fun _ f => f.elim)))
  have k2 := N2.1
  have g1 := (k2.cell (p := ⟨w.heap.size, 1, none⟩) (lt_of_cell s1) (fun f => f)).trans s1
  have g2 := (k2.cell (p := ⟨w.heap.size + 2, 0, none⟩) (lt_of_cell t0) (fun f => f)).trans t0
  have g3 := (k2.cell (p := ⟨w.heap.size + 2, 1, none⟩) (lt_of_cell t1) (fun f => f)).trans t1
  have g4 := (k2.cell (p := ⟨w.heap.size + 1, 0, none⟩) (lt_of_cell q0) (fun f => f)).trans q0
  have g5 := (k2.cell (p := ⟨w.heap.size + 1, 1, none⟩) (lt_of_cell q1) (fun f => f)).trans q1
  have g6 := (k2.frozen (p := ⟨w.heap.size + 1, 0, none⟩) (lt_of_cell q0) (fun f => f)).trans fq0
  have g7 := (k2.frozen (p := ⟨w.heap.size + 1, 1, none⟩) (lt_of_cell q1) (fun f => f)).trans fq1
  have g8 := (k2.frozen (p := ⟨w.heap.size + 2, 1, none⟩) (lt_of_cell t1) (fun f => f)).trans ft1
  have HR2 : Hid (∀ (ty : TypeId), (Builtin.append_ #[46, 46] ty #[.slice none 0 0, .slice la lp.length lc]).run Tryd.prog w5 = .ok (.slice a2 lp.length n2) w6) := run2
  have hl5 : w.heap.size + 2 < w5.heap.size := lt_of_cell t0
  clear run2
  have P1 : Hid (NewS w w6 a1 n1 hd) := M1.kept k2
  have P2 : Hid (NewS w5 w6 a2 n2 lp) := N2
  have P3 : Hid (NewS w w5 a1 n1 hd) := M1
  clear N2 M1
  go_wp2_with (at_builtin; refine wpList_append_run rfl _ _ 46 46 rfl (.slice none 0 0) (.slice la lp.length lc) rfl rfl HR2.out ?_)
  refine bodyPost_ret (v := .agg #[.slice a1 hd.length n1, .slice a2 lp.length n2]) (by simp [results, Tryd.results26, go_sem, g4, g5]) rfl ⟨a1, n1, a2, n2, rfl, ?_, ?_, ?_⟩
  · have hb : ∀ b o, a1 = some ⟨b, o, none⟩ → w.heap.size + 2 ≠ b ∧ w.heap.size + 1 ≠ b := fun b o e => by
      have := P4.out b o e
      omega
    exact ((P1.out.set (fun b o e => (hb b o e).1) (by first | (simp; done) | (simp; omega)) _).set (fun b o e => (hb b o e).2) (by first | (simp; done) | (simp; omega)) _).set (fun b o e => (hb b o e).2) (by first | (simp; done) | (simp; omega)) _
  · have hb : ∀ b o, a2 = some ⟨b, o, none⟩ → w.heap.size + 2 ≠ b ∧ w.heap.size + 1 ≠ b := fun b o e => by
      have := (P2.out.blk e).1
      omega
    exact (((P2.out.rebase kW).set (fun b o e => (hb b o e).1) (by first | (simp; done) | (simp; omega)) _).set (fun b o e => (hb b o e).2) (by first | (simp; done) | (simp; omega)) _).set (fun b o e => (hb b o e).2) (by first | (simp; done) | (simp; omega)) _
  · intro b o b' o' e e'
    have := (P3.out.blk e).2.1
    have := (P2.out.blk e').1
    omega

set_option maxRecDepth 100000 in
set_option maxHeartbeats 1000000 in
theorem ints67 (w : World) (B C : Nat) (va vb : Value) (xs ys : List Int) (ha : IntsV B w va xs) (hb : IntsV C w vb ys) (hB : B ≤ w.heap.size) (hC : C ≤ w.heap.size) :
    Calls Tryd.prog 67 #[va, vb] w fun e w' => Kept (fun _ => False) w w' ∧ e = .returned (.bool (decide (xs = ys))) := by
  obtain ⟨aa, ac, rfl, hal⟩ := ha.form
  obtain ⟨ba, bc, rfl, hbl⟩ := hb.form
  by_cases hl : xs.length = ys.length
  · have HL : Hid _ := hl
    have HA : Hid (IntsV B w (.slice aa xs.length ac) xs) := ha
    have HB : Hid (IntsV C w (.slice ba ys.length bc) ys) := hb
    have hlb : ((xs.length : Int) != (ys.length : Int)) = false := by simp; omega
    clear ha hb hl
    go_enter Tryd.func67, Tryd.ntmps67
    go_wp2
    go_loopw [5] (fun i wr => ∃ k : Nat, k ≤ xs.length ∧ i = .int .i64 k ∧ Kept (fun _ => False) w wr ∧ ∀ j, j < k → xs[j]? = ys[j]?) (fun i _ => xs.length - (intOf i).toNat)
    case atStart => exact ⟨0, Nat.zero_le _, rfl, Kept.refl _ _, fun j hj => absurd hj (by omega)⟩
    case round =>
      obtain ⟨k, hk, rfl, hkw, heq⟩ := hrel
      have HQ : Hid (∀ j, j < k → xs[j]? = ys[j]?) := heq
      clear heq
      by_cases hlt : k < xs.length
      · have hlt2 : k < ys.length := by have := HL.out; omega
        obtain ⟨_, _, e1, _, _, q1⟩ := HA.out.below (hkw.below hB (fun _ f => f.elim))
        obtain ⟨b1, o1, r1, _, d1⟩ := q1 k xs[k] (List.getElem?_eq_getElem hlt)
        obtain ⟨_, _, e2, _, _, q2⟩ := HB.out.below (hkw.below hC (fun _ f => f.elim))
        obtain ⟨b2, o2, r2, _, d2⟩ := q2 k ys[k] (List.getElem?_eq_getElem hlt2)
        cases e1
        cases e2
        subst r1 r2
        have hi1 : (k : Int) < (xs.length : Int) := by omega
        have hi2 : (k : Int) < (ys.length : Int) := by omega
        clear q1 q2
        have HX : Hid (xs[k]? = some xs[k]) := List.getElem?_eq_getElem hlt
        have HY : Hid (ys[k]? = some ys[k]) := List.getElem?_eq_getElem hlt2
        by_cases he : xs[k] = ys[k]
        · have hbb : (xs[k] != ys[k]) = false := by simpa using he
          have HE : Hid (xs[k]? = ys[k]?) := by rw [Hid, HX.out, HY.out, he]
          generalize xs[k] = x at *
          generalize ys[k] = y at *
          go_wp2
          go_region
          go_wp2
          go_roundw
          case rel => exact ⟨k + 1, by omega, by go_num, hkw.drew, fun j hj => by
            rcases Nat.lt_succ_iff_lt_or_eq.1 hj with h | rfl
            · exact HQ.out j h
            · exact HE.out⟩
          case measure => simp [intOf]; omega
        · have hbb : (xs[k] != ys[k]) = true := by simpa using he
          have HE : Hid (decide (xs = ys) = false) := by
            rw [Hid, decide_eq_false_iff_not]
            intro h
            subst h
            exact he rfl
          generalize xs[k] = x at *
          generalize ys[k] = y at *
          go_wp2
          go_region
          go_wp2
          go_ret
          exact ⟨hkw.drew, ret_bool HE.out.symm⟩
      · have HE : Hid (decide (xs = ys) = true) := by
          rw [Hid, decide_eq_true_iff]
          apply List.ext_getElem?
          intro j
          by_cases hj : j < k
          · exact HQ.out j hj
          · rw [List.getElem?_eq_none (by omega), List.getElem?_eq_none (by have := HL.out; omega)]
        have hlti : ¬ (k : Int) < (xs.length : Int) := by omega
        go_wp2
        go_ret
        exact ⟨hkw, ret_bool HE.out.symm⟩
  · have hlb : ((xs.length : Int) != (ys.length : Int)) = true := by simp; omega
    have HE : Hid (decide (xs = ys) = false) := by
      rw [Hid, decide_eq_false_iff_not]
      intro h
      exact hl (by rw [h])
    clear ha hb
    go_enter Tryd.func67, Tryd.ntmps67
    go_wp2
    go_ret
    exact ⟨Kept.refl _ _, ret_bool HE.out.symm⟩

set_option maxRecDepth 100000 in
set_option maxHeartbeats 1000000 in
theorem same35 (w : World) (B C : Nat) (va vb : Value) (hd lp hd' lp' : List Int) (ha : WordV B w va hd lp) (hb : WordV C w vb hd' lp') (hB : B ≤ w.heap.size) (hC : C ≤ w.heap.size) :
    Calls Tryd.prog 35 #[va, vb] w fun e w' => Kept (fun _ => False) w w' ∧ e = .returned (.bool (decide (hd = hd') && decide (lp = lp'))) := by
  obtain ⟨hv1, lv1, rfl, h1, h2⟩ := id ha
  obtain ⟨ha1, hc1, rfl, hl1⟩ := h1.form
  obtain ⟨la1, lc1, rfl, hl2⟩ := h2.form
  obtain ⟨hv2, lv2, rfl, h3, h4⟩ := id hb
  obtain ⟨ha2, hc2, rfl, hl3⟩ := h3.form
  obtain ⟨la2, lc2, rfl, hl4⟩ := h4.form
  obtain ⟨W3, hW3⟩ : ∃ W3, W3 = ((w.alloc (.cells #[.slice ha1 hd.length hc1, .slice la1 lp.length lc1] 49)).alloc (.cells #[.slice ha2 hd'.length hc2, .slice la2 lp'.length lc2] 48)) := ⟨_, rfl⟩
  have hk : Kept (fun _ => False) w W3 := by rw [hW3]; exact ((Kept.refl _ _).alloc _).alloc _
  have c0 : W3.cell? ⟨w.heap.size, 0, none⟩ = some (.slice ha1 hd.length hc1) := by rw [hW3]; simp [go_sem]
  have c1 : W3.cell? ⟨w.heap.size, 1, none⟩ = some (.slice la1 lp.length lc1) := by rw [hW3]; simp [go_sem]
  have d0 : W3.cell? ⟨w.heap.size + 1, 0, none⟩ = some (.slice ha2 hd'.length hc2) := by rw [hW3, World.cell?_alloc_at (hn := by simp)]; rfl
  have d1 : W3.cell? ⟨w.heap.size + 1, 1, none⟩ = some (.slice la2 lp'.length lc2) := by rw [hW3, World.cell?_alloc_at (hn := by simp)]; rfl
  obtain ⟨x1, hx1⟩ : ∃ x, decide (hd = hd') = x := ⟨_, rfl⟩
  obtain ⟨x2, hx2⟩ : ∃ x, decide (lp = lp') = x := ⟨_, rfl⟩
  have X1 : Hid (decide (hd = hd') = x1) := hx1
  have X2 : Hid (decide (lp = lp') = x2) := hx2
  clear hx1 hx2
  go_enter Tryd.func35, Tryd.ntmps35
  go_upto_region 1 with fail
  rw [← hW3]
  clear hW3
  have H1 : Hid (IntsV B W3 _ hd) := h1.below (hk.below hB (fun _ f => f.elim))
  have H2 : Hid (IntsV B W3 _ lp) := h2.below (hk.below hB (fun _ f => f.elim))
  have H3 : Hid (IntsV C W3 _ hd') := h3.below (hk.below hC (fun _ f => f.elim))
  have H4 : Hid (IntsV C W3 _ lp') := h4.below (hk.below hC (fun _ f => f.elim))
  have hB3 := Nat.le_trans hB hk.size
  have hC3 := Nat.le_trans hC hk.size
  clear ha hb h1 h2 h3 h4
  go_upto_region 2 with (go_at_call 67; refine (ints67 _ B C _ _ hd hd' H1.out H3.out hB3 hC3).mono ?_; rintro e w4 ⟨k1, rfl⟩; rw [X1.out])
  have c1' := (k1.cell (p := ⟨w.heap.size, 1, none⟩) (lt_of_cell c1) (fun f => f)).trans c1
  have d1' := (k1.cell (p := ⟨w.heap.size + 1, 1, none⟩) (lt_of_cell d1) (fun f => f)).trans d1
  have H5 := H2.out.below (k1.below hB3 (fun _ f => f.elim))
  have H6 := H4.out.below (k1.below hC3 (fun _ f => f.elim))
  go_upto_region 3 with (go_at_call 67; refine (ints67 _ B C _ _ lp lp' H5 H6 (Nat.le_trans hB3 k1.size) (Nat.le_trans hC3 k1.size)).mono ?_; rintro e w5 ⟨k2, rfl⟩; rw [X2.out])
  have hkk := (hk.trans k1 (fun _ _ f => f)).trans k2 (fun _ _ f => f)
  cases x1
  · go_wp2
    go_ret
    exact ⟨hkk, ret_bool (by rw [X1.out, X2.out]; rfl)⟩
  · go_wp2
    go_ret
    exact ⟨hkk, ret_bool (by rw [X1.out, X2.out]; rfl)⟩
end Go.Proofs.YtdbpdanocpfboaaDoor
