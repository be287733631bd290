import Derived.Test.YtdbpdanocpfboabGreatDoorZBun10
import Derived.Test.YtdbpdanocpfboabGreatDoorZStp
/- The program's Trace. -/
namespace Go.Proofs.YtdbpdanocpfboabGreatDoor
open Go.RowKit

/-- a list that lies in blocks of a type, from lo on -/
def LsT (t : TypeId) (lo : Nat) (w : World) (v : Value) (cs : List Value) : Prop := LsS (fun k => lo ≤ k ∧ k < w.heap.size ∧ TyB w k t) w v cs
theorem LsT.lsn {t : TypeId} {lo : Nat} {w : World} {v : Value} {cs : List Value} (h : LsT t lo w v cs) : LsN lo w v cs := LsS.keep h (fun _ e => ⟨e.1, e.2.1⟩) (fun _ _ => rfl)
theorem own_lst {w : World} {base n : Nat} {e : TypeId} {v : Value} {xs : List Value} (h : w.ownsRow base e 1 v n xs) (hx : xs.length ≤ 17592186044416) {lo : Nat} (hl : lo ≤ base) : LsT e lo w v xs :=
  (own_lss h hx).keep (fun _ e => ⟨Nat.le_trans hl (ownsRow_lt h e).2, (ownsRow_lt h e).1, row_ty h e⟩) (fun _ _ => rfl)
theorem LsT.keep {t : TypeId} {lo : Nat} {w w' : World} {v : Value} {cs : List Value} (h : LsT t lo w v cs) (hz : w.heap.size ≤ w'.heap.size) (hb : ∀ k, lo ≤ k → k < w.heap.size → TyB w k t → w'.heap[k]? = w.heap[k]?) : LsT t lo w' v cs :=
  LsS.keep h (fun k e => ⟨e.1, Nat.lt_of_lt_of_le e.2.1 hz, e.2.2.of (hb k e.1 e.2.1 e.2.2)⟩) (fun k e => hb k e.1 e.2.1 e.2.2)
theorem LsT.nil (t : TypeId) (lo : Nat) (w : World) : LsT t lo w (.slice none 0 0) [] := ⟨none, 0, rfl, Nat.zero_le _, by simp, fun i x h => by simp at h⟩
/-- a word that lies in blocks of numbers from lo on -/
def WordT (lo : Nat) (w : World) (v : Value) (hd lp : List Int) : Prop := ∃ hv lv, v = .agg #[hv, lv] ∧ LsT 3 lo w hv (hd.map (Value.int .i64)) ∧ LsT 3 lo w lv (lp.map (Value.int .i64))
theorem WordT.wordN {lo : Nat} {w : World} {v : Value} {hd lp : List Int} (h : WordT lo w v hd lp) : WordN lo w v hd lp := by
  obtain ⟨hv, lv, e, h1, h2⟩ := h
  exact ⟨hv, lv, e, h1.lsn, h2.lsn⟩

set_option maxRecDepth 100000 in
set_option maxHeartbeats 4000000 in
theorem trace16 (w : World) (B : Nat) (v wv : Value) (m : MD) (hd lp : List Int) (hm : ModV B w v m) (hw : WordV B w wv hd lp) (hB : B ≤ w.heap.size) (hsz : ∀ x ∈ m.names, x.size ≤ 9223372036854775807) :
    Calls Tryz.prog 16 #[v, wv] w fun e w' => Kept (fun _ => False) w w' ∧ ∃ u, e = .returned u ∧ WordT w.heap.size w' u (traceH m hd lp) (traceL m hd lp) := by
  obtain ⟨nv, lv, tv, rfl, hnn, hll, _⟩ := id hm.ex
  obtain ⟨hv1, lv1, rfl, h1, h2⟩ := id hw
  obtain ⟨W0, hW0⟩ : ∃ W0, W0 = ((w.alloc (.cells #[nv, lv, tv] 26)).alloc (.cells #[hv1, lv1] 43)).alloc (.cells #[.slice none 0 0, .slice none 0 0] 43) := ⟨_, rfl⟩
  have k0 : Kept (fun _ => False) w W0 := by rw [hW0]; exact (((Kept.refl _ _).alloc _).alloc _).alloc _
  have b0 : W0.heap[w.heap.size]? = some (.cells #[nv, lv, tv] 26 (0, 0)) := by
    rw [hW0]
    exact (Below.heap_alloc _ _ _ (by simp; omega)).trans ((Below.heap_alloc _ _ _ (by simp)).trans (alloc_blk _ _))
  have b1 : W0.heap[w.heap.size + 1]? = some (.cells #[hv1, lv1] 43 (0, 0)) := by
    rw [hW0]
    have := alloc_blk (w.alloc (.cells #[nv, lv, tv] 26)) (.cells #[hv1, lv1] 43)
    exact (Below.heap_alloc _ _ _ (by simp)).trans (by simpa using this)
  have b2 : W0.heap[w.heap.size + 1 + 1]? = some (.cells #[.slice none 0 0, .slice none 0 0] 43 (0, 0)) := by
    rw [hW0]
    have := alloc_blk ((w.alloc (.cells #[nv, lv, tv] 26)).alloc (.cells #[hv1, lv1] 43)) (.cells #[.slice none 0 0, .slice none 0 0] 43)
    simpa using this
  have hz0 : w.heap.size + 1 + 1 < W0.heap.size := (Array.getElem?_eq_some_iff.1 b2).1
  have HX : Hid (∀ W, Kept (fun _ => False) W0 W → W.cell? ⟨w.heap.size, 0, none⟩ = some nv ∧ W.cell? ⟨w.heap.size, 1, none⟩ = some lv ∧ W.cell? ⟨w.heap.size, 2, none⟩ = some tv ∧ W.cell? ⟨w.heap.size + 1, 0, none⟩ = some hv1 ∧ W.cell? ⟨w.heap.size + 1, 1, none⟩ = some lv1) := fun W hk =>
    ⟨(hk.cell (p := ⟨w.heap.size, 0, none⟩) (lt_of_cell (blk_cell b0 0)) (fun f => f)).trans (blk_cell b0 0), (hk.cell (p := ⟨w.heap.size, 1, none⟩) (lt_of_cell (blk_cell b0 1)) (fun f => f)).trans (blk_cell b0 1), (hk.cell (p := ⟨w.heap.size, 2, none⟩) (lt_of_cell (blk_cell b0 2)) (fun f => f)).trans (blk_cell b0 2), (hk.cell (p := ⟨w.heap.size + 1, 0, none⟩) (lt_of_cell (blk_cell b1 0)) (fun f => f)).trans (blk_cell b1 0), (hk.cell (p := ⟨w.heap.size + 1, 1, none⟩) (lt_of_cell (blk_cell b1 1)) (fun f => f)).trans (blk_cell b1 1)⟩
  have HR : Hid (∀ W, Kept (fun _ => False) W0 W → W.heap[w.heap.size + 1 + 1]? = some (.cells #[.slice none 0 0, .slice none 0 0] 43 (0, 0))) := fun W hk => (hk.block _ hz0 (fun f => f)).trans b2
  have HI : Hid (∀ W, Kept (fun _ => False) W0 W → IntsV B W lv m.letters ∧ IntsV B W hv1 hd ∧ IntsV B W lv1 lp ∧ B ≤ W.heap.size) := fun W hk =>
    have hb := (k0.trans hk (fun _ _ f => f)).below hB (fun _ f => f.elim)
    ⟨hll.below hb, h1.below hb, h2.below hb, Nat.le_trans hB (Nat.le_trans k0.size hk.size)⟩
  have HK0 : Hid (Kept (fun _ => False) w W0) := k0
  have C1 := path20 W0 B _ _ m hd lp (hm.kept k0 hB) (hw.below (k0.below hB (fun _ f => f.elim))) (Nat.le_trans hB k0.size) hsz
  obtain ⟨x0, x1, x2, y0, y1⟩ := HX.out W0 (Kept.refl _ _)
  clear hm hw hnn hll h1 h2 b0 b1 b2 k0 hsz
  go_enter Tryz.func16, Tryz.ntmps16
  go_upto_region 1 with fail
  generalize hr4 : w.heap.size + 1 + 1 = r4 at *
  rw [← hW0]
  clear hW0
  cases hp : pathM m hd lp with
  | false =>
    have H1 : Hid (traceH m hd lp = [] ∧ traceL m hd lp = []) := by constructor <;> simp [traceH, traceL, hp]
    rw [hp] at C1
    go_wp2_with (go_at_call 20; refine C1.mono ?_; rintro e w1 ⟨k1, rfl⟩; have e2 := HR.out w1 k1; have d0 : w1.cell? ⟨r4, 0, none⟩ = some (.slice none 0 0) := blk_cell e2 0; have d1 : w1.cell? ⟨r4, 1, none⟩ = some (.slice none 0 0) := blk_cell e2 1; have f0 := blk_frozen e2 0; have f1 := blk_frozen e2 1)
    have HKE : Hid (Kept (fun _ => False) w w1) := HK0.out.trans k1 (fun _ _ f => f)
    rw [H1.out.1, H1.out.2]
    refine bodyPost_ret (v := .agg #[.slice none 0 0, .slice none 0 0]) (by simp [results, Tryz.results16, go_sem, d0, d1]) rfl ⟨?_, _, rfl, _, _, rfl, LsT.nil _ _ _, LsT.nil _ _ _⟩
    repeat (first | exact HKE.out | (refine Kept.setCell ?_ (fun hh => absurd hh (by simp only; omega)) _))
  | true =>
    obtain ⟨hF, h20, hrng⟩ := path_rng hp
    have H1 : Hid (traceH m hd lp = hd.map (letterOf m) ∧ traceL m hd lp = lp.map (letterOf m)) := by constructor <;> simp [traceH, traceL, hp]
    have HLN : Hid (m.letters.length = m.names.length) := hF.l
    have HH : Hid (∀ W, Kept (fun _ => False) W0 W → Calls Tryz.prog 37 #[.agg #[nv, lv, tv], hv1] W fun e w' => ∃ sv, e = .returned sv ∧ w'.ownsRow W.heap.size 3 1 sv hd.length ((hd.map (letterOf m)).map (Value.int .i64)) ∧ Kept (fun _ => False) W w') := fun W hk =>
      letters37 W B nv lv tv hv1 m.letters hd (HI.out W hk).1 (HI.out W hk).2.1 (HI.out W hk).2.2.2 (fun s hs => by have := hrng s (.inl hs); rw [HLN.out]; exact this) (by omega)
    have HLL : Hid (∀ W, Kept (fun _ => False) W0 W → Calls Tryz.prog 37 #[.agg #[nv, lv, tv], lv1] W fun e w' => ∃ sv, e = .returned sv ∧ w'.ownsRow W.heap.size 3 1 sv lp.length ((lp.map (letterOf m)).map (Value.int .i64)) ∧ Kept (fun _ => False) W w') := fun W hk =>
      letters37 W B nv lv tv lv1 m.letters lp (HI.out W hk).1 (HI.out W hk).2.2.1 (HI.out W hk).2.2.2 (fun s hs => by have := hrng s (.inr hs); rw [HLN.out]; exact this) (by omega)
    clear hF hrng
    rw [hp] at C1
    go_upto_region 3 with (go_at_call 20; refine C1.mono ?_; rintro e w1 ⟨k1, rfl⟩)
    clear x0 x1 x2 y0 y1 C1
    obtain ⟨x0, x1, x2, y0, y1⟩ := HX.out w1 k1
    have hz1 := k1.size
    have hlh : hd.length ≤ 20000 := by omega
    have hll2 : lp.length ≤ 20000 := by omega
    have HRW : Hid (w1.heap[r4]? = some (.cells #[.slice none 0 0, .slice none 0 0] 43 (0, 0))) := HR.out w1 k1
    have HX1 : Hid (∀ W, Kept (fun _ => False) w1 W → W.cell? ⟨w.heap.size, 0, none⟩ = some nv ∧ W.cell? ⟨w.heap.size, 1, none⟩ = some lv ∧ W.cell? ⟨w.heap.size, 2, none⟩ = some tv ∧ W.cell? ⟨w.heap.size + 1, 0, none⟩ = some hv1 ∧ W.cell? ⟨w.heap.size + 1, 1, none⟩ = some lv1) := fun W hk => HX.out W (k1.trans hk (fun _ _ f => f))
    have HH1 : Hid (∀ W, Kept (fun _ => False) w1 W → Calls Tryz.prog 37 #[.agg #[nv, lv, tv], hv1] W fun e W' => ∃ sv, e = .returned sv ∧ Kept (fun _ => False) W W' ∧ W'.ownsRow W0.heap.size 3 1 sv hd.length ((hd.map (letterOf m)).map (Value.int .i64))) := fun W hk => (HH.out W (k1.trans hk (fun _ _ f => f))).mono (fun e W' h => by
      obtain ⟨sv, e1, o1, k2⟩ := h
      exact ⟨sv, e1, k2, ownsRow_base o1 (Nat.le_trans hz1 hk.size)⟩)
    have HL1 : Hid (∀ W, Kept (fun _ => False) w1 W → Calls Tryz.prog 37 #[.agg #[nv, lv, tv], lv1] W fun e W' => ∃ sv, e = .returned sv ∧ Kept (fun _ => False) W W' ∧ W'.ownsRow W0.heap.size 3 1 sv lp.length ((lp.map (letterOf m)).map (Value.int .i64))) := fun W hk => (HLL.out W (k1.trans hk (fun _ _ f => f))).mono (fun e W' h => by
      obtain ⟨sv, e1, o1, k2⟩ := h
      exact ⟨sv, e1, k2, ownsRow_base o1 (Nat.le_trans hz1 hk.size)⟩)
    have HK1 : Hid (Kept (fun _ => False) w w1) := HK0.out.trans k1 (fun _ _ f => f)
    have hz0' : w.heap.size ≤ W0.heap.size := HK0.out.size
    clear x0 x1 x2 y0 y1 k1 HX HR HH HLL
    refine wp_region_L [10, 11, 12, 13, 14, 15, 16, 17, 18, 99] (fun i v W => match i with
        | 0 => v = .agg #[nv, lv, tv]
        | 1 => v = .pointer (some ⟨w.heap.size + 1, 0, none⟩)
        | 2 => v = hv1
        | 3 => W.ownsRow W0.heap.size 3 1 v hd.length ((hd.map (letterOf m)).map (Value.int .i64))
        | 4 => v = .agg #[nv, lv, tv]
        | 5 => v = .pointer (some ⟨w.heap.size + 1, 1, none⟩)
        | 6 => v = lv1
        | 7 => W.ownsRow W0.heap.size 3 1 v lp.length ((lp.map (letterOf m)).map (Value.int .i64))
        | 8 => ∃ x y, v = .agg #[x, y] ∧ W.ownsRow W0.heap.size 3 1 x hd.length ((hd.map (letterOf m)).map (Value.int .i64)) ∧ W.ownsRow W0.heap.size 3 1 y lp.length ((lp.map (letterOf m)).map (Value.int .i64))
        | _ => True)
      (fun W => ∃ x y, Kept (fun k => k = r4) w1 W ∧ W.heap[r4]? = some (.cells #[x, y] 43 (0, 0)) ∧ W.ownsRow W0.heap.size 3 1 x hd.length ((hd.map (letterOf m)).map (Value.int .i64)) ∧ W.ownsRow W0.heap.size 3 1 y lp.length ((lp.map (letterOf m)).map (Value.int .i64)))
      rfl (by kernel_rfl) (by decide) (by kernel_rfl) (by kernel_rfl) (by simp) ?_ ⟨?_, ?_, ?_, ?_, ?_, ?_, ?_, ?_, ?_, trivial⟩ ?_ ?_
    · intro i v W W' hk h
      match i with
      | 0 => exact h
      | 1 => exact h
      | 2 => exact h
      | 3 => exact own_new h hk
      | 4 => exact h
      | 5 => exact h
      | 6 => exact h
      | 7 => exact own_new h hk
      | 8 =>
        obtain ⟨x, y, e, h1, h2⟩ := h
        exact ⟨x, y, e, own_new h1 hk, own_new h2 hk⟩
      | n + 9 => trivial
    · refine stepN_val (v := .agg #[nv, lv, tv]) rfl (fun a W h => ?_) (fun W _ => rfl)
      have e0 := h.old 2 (by decide)
      obtain ⟨c0, c1, c2, _, _⟩ := HX1.out W h.1
      revert e0; generalize a.eval = ρ; intro e0
      simp [execOp, go_sem, e0, c0, c1, c2]
    · refine stepN_val (v := .pointer (some ⟨w.heap.size + 1, 0, none⟩)) rfl (fun a W h => ?_) (fun W _ => rfl)
      have e0 := h.old 3 (by decide)
      revert e0; generalize a.eval = ρ; intro e0
      simp [execOp, go_sem, e0]
    · refine stepN_val (v := hv1) rfl (fun a W h => ?_) (fun W _ => rfl)
      have e0 : a.eval (.tmp 11) = _ := h.dep 1 11 (by simp) rfl (of_decide_eq_true rfl)
      obtain ⟨_, _, _, c0, c1⟩ := HX1.out W h.1
      revert e0; generalize a.eval = ρ; intro e0
      simp [execOp, go_sem, e0, c0]
    · refine stepN_call rfl (fun a W h => ⟨37, #[.agg #[nv, lv, tv], hv1], ?_, HH1.out W h.1⟩)
      have e0 : a.eval (.tmp 10) = _ := h.dep 0 10 (by simp) rfl (of_decide_eq_true rfl)
      have e1 : a.eval (.tmp 12) = _ := h.dep 2 12 (by simp) rfl (of_decide_eq_true rfl)
      have hf : a.eval (.func 37) = .func (.func 37) #[] #[] := rfl
      revert e0 e1 hf; generalize a.eval = ρ; intro e0 e1 hf
      simp [execOp, go_sem, e0, e1, hf]
    · refine stepN_val (v := .agg #[nv, lv, tv]) rfl (fun a W h => ?_) (fun W _ => rfl)
      have e0 := h.old 2 (by decide)
      obtain ⟨c0, c1, c2, _, _⟩ := HX1.out W h.1
      revert e0; generalize a.eval = ρ; intro e0
      simp [execOp, go_sem, e0, c0, c1, c2]
    · refine stepN_val (v := .pointer (some ⟨w.heap.size + 1, 1, none⟩)) rfl (fun a W h => ?_) (fun W _ => rfl)
      have e0 := h.old 3 (by decide)
      revert e0; generalize a.eval = ρ; intro e0
      simp [execOp, go_sem, e0]
    · refine stepN_val (v := lv1) rfl (fun a W h => ?_) (fun W _ => rfl)
      have e0 : a.eval (.tmp 15) = _ := h.dep 5 15 (by simp) rfl (of_decide_eq_true rfl)
      obtain ⟨_, _, _, c0, c1⟩ := HX1.out W h.1
      revert e0; generalize a.eval = ρ; intro e0
      simp [execOp, go_sem, e0, c1]
    · refine stepN_call rfl (fun a W h => ⟨37, #[.agg #[nv, lv, tv], lv1], ?_, HL1.out W h.1⟩)
      have e0 : a.eval (.tmp 14) = _ := h.dep 4 14 (by simp) rfl (of_decide_eq_true rfl)
      have e1 : a.eval (.tmp 16) = _ := h.dep 6 16 (by simp) rfl (of_decide_eq_true rfl)
      have hf : a.eval (.func 37) = .func (.func 37) #[] #[] := rfl
      revert e0 e1 hf; generalize a.eval = ρ; intro e0 e1 hf
      simp [execOp, go_sem, e0, e1, hf]
    · refine stepN_any rfl (fun a W h => ?_)
      have e0 := h.dep 3 13 (by simp) rfl (of_decide_eq_true rfl)
      have e1 := h.dep 7 17 (by simp) rfl (of_decide_eq_true rfl)
      obtain ⟨x, hx⟩ : ∃ x, a.eval (.tmp 13) = x := ⟨_, rfl⟩
      obtain ⟨y, hy⟩ : ∃ y, a.eval (.tmp 17) = y := ⟨_, rfl⟩
      rw [hx] at e0
      rw [hy] at e1
      obtain ⟨fa, fc, hfv, _⟩ := (own_ls e0 (by simp; omega)).form
      obtain ⟨ga, gc, hgv, _⟩ := (own_ls e1 (by simp; omega)).form
      refine ⟨.agg #[x, y], W, ?_, Kept.refl _ _, x, y, rfl, e0, e1⟩
      subst hfv hgv
      revert hx hy; generalize a.eval = ρ; intro hx hy
      simp [execOp, go_sem, hx, hy]
    · intro a W h
      refine ⟨rfl, fun K hK => ?_⟩
      have e0 : a.eval (.tmp 4) = _ := h.old 4 (by decide)
      obtain ⟨x, y, e1, o1, o2⟩ := h.dep 8 18 (by simp) rfl (of_decide_eq_true rfl)
      have q4 := (h.1.block r4 (by omega) (fun f => f)).trans HRW.out
      have d0 : W.cell? ⟨r4, 0, none⟩ = some (.slice none 0 0) := blk_cell q4 0
      have d1 : W.cell? ⟨r4, 1, none⟩ = some (.slice none 0 0) := blk_cell q4 1
      have f0 := blk_frozen q4 0
      have f1 := blk_frozen q4 1
      obtain ⟨fa, fc, hfv, _⟩ := (own_ls o1 (by simp; omega)).form
      obtain ⟨ga, gc, hgv, _⟩ := (own_ls o2 (by simp; omega)).form
      refine wp_skip (W' := (W.setCell ⟨r4, 0, none⟩ x).setCell ⟨r4, 1, none⟩ y) ?_ (hK _ _ ⟨x, y, ?_, ?_, ?_, ?_⟩)
      · subst hfv hgv
        revert e0 e1; generalize a.eval = ρ; intro e0 e1
        simp [execOp, go_sem, e0, e1, d0, d1, f0, f1]
      · have h1 : Kept (fun k => k = r4) w1 W := h.1.mono (fun k _ f => f.elim)
        have h2 : Kept (fun k => k = r4) w1 (W.setCell ⟨r4, 0, none⟩ x) := Kept.setCell h1 (fun _ => rfl) _
        exact Kept.setCell h2 (fun _ => rfl) _
      · rw [heap_setCell_same _ _ _ _ _ _ (heap_setCell_same _ _ _ _ _ _ q4)]
        rfl
      · exact own_set (own_set o1 (fun e => absurd (ownsRow_lt o1 e).2 (by simp only; omega)) _) (fun e => absurd (ownsRow_lt o1 e).2 (by simp only; omega)) _
      · exact own_set (own_set o2 (fun e => absurd (ownsRow_lt o2 e).2 (by simp only; omega)) _) (fun e => absurd (ownsRow_lt o2 e).2 (by simp only; omega)) _
    · rintro f W ⟨x, y, hk, hb, o1, o2⟩
      have d0 : W.cell? ⟨r4, 0, none⟩ = some x := blk_cell hb 0
      have d1 : W.cell? ⟨r4, 1, none⟩ = some y := blk_cell hb 1
      simp only [puts, Act.put, List.setIfInBounds_toArray, List.set_cons_succ, List.set_cons_zero]
      go_wp2
      rw [H1.out.1, H1.out.2]
      refine bodyPost_ret (v := .agg #[x, y]) (by simp [results, Tryz.results16, go_sem, d0, d1]) rfl ⟨HK1.out.trans hk (fun k hk' e => absurd e (by omega)), _, rfl, _, _, rfl, own_lst o1 (by simp; omega) hz0', own_lst o2 (by simp; omega) hz0'⟩
end Go.Proofs.YtdbpdanocpfboabGreatDoor
