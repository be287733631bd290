/- Walks: the law's Same of formulas; the reference's At, Truths, Holds; the law of truths. -/
import Derived.Test.YtdbpdanocpfboaaDoorVRef6
import Derived.Test.YtdbpdanocpfboaaDoorVRef7
namespace Go.Proofs.YtdbpdanocpfboaaDoor
open Go.RowKit

theorem FormAt.val {B : Nat} {w : World} {b o : Nat} {op n : Int} {ks : List Tr} (h : FormAt B w b o (.mk op n ks)) : ∃ ka kc, w.cell? ⟨b, o, none⟩ = some (.int .i64 op) ∧ w.cell? ⟨b, o + 1, none⟩ = some (.int .i64 n) ∧ w.cell? ⟨b, o + 2, none⟩ = some (.slice ka ks.length kc) ∧ FormV B w (.agg #[.int .i64 op, .int .i64 n, .slice ka ks.length kc]) (.mk op n ks) := by
  obtain ⟨_, _, h0, h1, ka, kb, ko, kc, h2, hk, hf⟩ := h
  exact ⟨ka, kc, h0, h1, h2, ka, kb, ko, kc, rfl, hk, hf⟩
theorem RAt.val {B : Nat} {w : World} {b o : Nat} {op n : Int} {ks : List Tr} (h : RAt B w b o (.mk op n ks)) : ∃ ka kc, w.cell? ⟨b, o, none⟩ = some (.int .i64 op) ∧ w.cell? ⟨b, o + 1, none⟩ = some (.int .i64 n) ∧ w.cell? ⟨b, o + 2, none⟩ = some (.slice ka ks.length kc) ∧ RV B w (.agg #[.int .i64 op, .int .i64 n, .slice ka ks.length kc]) (.mk op n ks) := by
  obtain ⟨_, h0, h1, ka, kb, ko, kc, h2, hk, hf⟩ := h
  exact ⟨ka, kc, h0, h1, h2, ka, kb, ko, kc, rfl, hk, hf⟩

def Says13 (N : Nat) : Prop := ∀ (t : Tr), t.size ≤ N → N ≤ 268435456 → ∀ (w : World) (B : Nat) (av bv : Value), FormV B w av t → RV B w bv t → B ≤ w.heap.size →
    Calls Tryd.prog 13 #[av, bv] w fun e w' => Kept (fun _ => False) w w' ∧ e = .returned (.bool true)

set_option maxRecDepth 100000 in
set_option maxHeartbeats 8000000 in
theorem same13 : ∀ (N : Nat), Says13 N := by
  intro N
  induction N with
  | zero => intro t ht; have := t.size_pos; omega
  | succ N ih =>
    intro t ht hN w B av bv hA hC hB
    obtain ⟨op, nn, kids⟩ := t
    obtain ⟨a1, b1, p1, c1, rfl, e1, g1⟩ := hA
    obtain ⟨a2, b2, p2, c2, rfl, e2, g2⟩ := hC
    have IH : Hid (Says13 N) := ih
    have E1 : Hid (0 < kids.length → a1 = some ⟨b1, p1, none⟩) := e1
    have E2 : Hid (0 < kids.length → a2 = some ⟨b2, p2, none⟩) := e2
    have G1 : Hid (FormsAt B w b1 p1 kids) := g1
    have G2 : Hid (RsAt B w b2 p2 kids) := g2
    have hsz : Tr.sizes kids ≤ N := by simp only [Tr.size] at ht; omega
    have hkl : kids.length ≤ N := by
      have : ∀ l : List Tr, l.length ≤ Tr.sizes l := by
        intro l
        induction l with
        | nil => simp
        | cons t r ih => have := t.size_pos; simp [Tr.sizes]; omega
      exact Nat.le_trans (this kids) hsz
    clear ih e1 e2 g1 g2 ht
    obtain ⟨W0, hW0⟩ : ∃ W0, W0 = ((w.alloc (.cells #[.int .i64 op, .int .i64 nn, .slice a1 kids.length c1] 24)).alloc (.cells #[.int .i64 op, .int .i64 nn, .slice a2 kids.length c2] 30)) := ⟨_, rfl⟩
    have k0 : Kept (fun _ => False) w W0 := by rw [hW0]; exact ((Kept.refl _ _).alloc _).alloc _
    have x0 : Bx3 W0 w.heap.size (.int .i64 op) (.int .i64 nn) (.slice a1 kids.length c1) := by
      rw [hW0]
      exact ⟨by simp [go_sem], by simp [go_sem], by simp [go_sem]⟩
    have y0 : Bx3 W0 (w.heap.size + 1) (.int .i64 op) (.int .i64 nn) (.slice a2 kids.length c2) := by rw [hW0]; exact ⟨by rw [World.cell?_alloc_at (hn := by simp)]; rfl, by rw [World.cell?_alloc_at (hn := by simp)]; rfl, by rw [World.cell?_alloc_at (hn := by simp)]; rfl⟩
    obtain ⟨x00, x01, x02⟩ := id x0
    obtain ⟨y00, y01, y02⟩ := id y0
    go_enter Tryd.func13, Tryd.ntmps13
    go_upto_region 1 with fail
    rw [← hW0]
    clear hW0
    go_wp2
    go_loopw [5, 6] (fun v5 _ wr => ∃ k : Nat, k ≤ kids.length ∧ v5 = .int .i64 (k : Int) ∧ Kept (fun _ => False) W0 wr) (fun v5 _ _ => kids.length - (intOf v5).toNat)
    case atStart => exact ⟨0, Nat.zero_le _, rfl, Kept.refl _ _⟩
    case round =>
      obtain ⟨k, hk, rfl, hkr⟩ := hrel
      have x1 := x0.kept hkr
      have y1 := y0.kept hkr
      obtain ⟨x10, x11, x12⟩ := id x1
      obtain ⟨y10, y11, y12⟩ := id y1
      clear x00 x01 x02 y00 y01 y02
      have kwr := k0.trans hkr (fun _ _ f => f)
      by_cases hlt : k < kids.length
      · have hlti : (k : Int) < (kids.length : Int) := by omega
        have hnle : ¬ ((kids.length : Int) ≤ (k : Int)) := by omega
        have ea := E1.out (by omega)
        have eb := E2.out (by omega)
        subst ea
        subst eb
        obtain ⟨t', ht'⟩ : ∃ t', kids[k]? = some t' := ⟨kids[k], List.getElem?_eq_getElem hlt⟩
        have hts : t'.size ≤ N := Nat.le_trans (Tr.sizes_mem (List.mem_of_getElem? ht')) hsz
        obtain ⟨o', n', ks'⟩ := t'
        obtain ⟨ka, kc, s0, s1, s2, HFa⟩ := ((FormsAt.below (kwr.below hB (fun _ f => f.elim)) G1.out).get ht').val
        obtain ⟨kb, kd, r0, r1, r2, HFb⟩ := ((RsAt.below (kwr.below hB (fun _ f => f.elim)) G2.out).get ht').val
        have HA : Hid (FormV B wr (.agg #[.int .i64 o', .int .i64 n', .slice ka ks'.length kc]) (.mk o' n' ks')) := HFa
        have HC : Hid (RV B wr (.agg #[.int .i64 o', .int .i64 n', .slice kb ks'.length kd]) (.mk o' n' ks')) := HFb
        have hBr := Nat.le_trans hB kwr.size
        clear HFa HFb ht'
        go_upto_region 6 with fail
        go_region_with (go_at_call 13; refine (IH.out (.mk o' n' ks') hts (by omega) _ B _ _ ?_ ?_ ?_).mono ?_; (exact HA.out.below ((Kept.drew (Kept.refl (fun _ => False) _)).below hBr (fun _ f => f.elim))); (exact HC.out.below ((Kept.drew (Kept.refl (fun _ => False) _)).below hBr (fun _ f => f.elim))); (exact hBr); rintro e w4 ⟨k4, rfl⟩)
        all_goals
          go_wp2
          go_roundw
          case rel => exact ⟨k + 1, by omega, by go_num, hkr.trans (Kept.trans (Kept.drew (Kept.refl _ _)) k4 (fun _ _ f => f)) (fun _ _ f => f)⟩
          case measure => simp [intOf]; omega
      · have hlti : ¬ (k : Int) < (kids.length : Int) := by omega
        go_wp2
        go_ret
        exact ⟨kwr, rfl⟩

set_option maxRecDepth 100000 in
set_option maxHeartbeats 2000000 in
theorem at32 (w : World) (B : Nat) (wv : Value) (hd lp : List Int) (n : Int) (hW : WordV B w wv hd lp) (hB : B ≤ w.heap.size) (hn : n ≤ 9223372036854775807) (r : Int) (hr : (if n < 0 ∨ goodW hd lp = false then (-1 : Int) else wAt hd lp n.toNat) = r) :
    Calls Tryd.prog 32 #[wv, .int .i64 n] w fun e w' => Kept (fun _ => False) w w' ∧ e = .returned (.int .i64 r) := by
  obtain ⟨hv1, lv1, rfl, h1, h2⟩ := id hW
  obtain ⟨ha, hc, rfl, hl1⟩ := h1.form
  obtain ⟨la, lc, rfl, hl2⟩ := h2.form
  obtain ⟨W0, hW0⟩ : ∃ W0, W0 = w.alloc (.cells #[.slice ha hd.length hc, .slice la lp.length lc] 48) := ⟨_, rfl⟩
  have k0 : Kept (fun _ => False) w W0 := by rw [hW0]; exact (Kept.refl _ _).alloc _
  have y0 : Bx W0 w.heap.size (.slice ha hd.length hc) (.slice la lp.length lc) := by rw [hW0]; exact Bx.new w _ _ 48
  have HW0 : Hid (WordV B W0 (.agg #[.slice ha hd.length hc, .slice la lp.length lc]) hd lp) := hW.kept k0 hB
  have hB0 := Nat.le_trans hB k0.size
  obtain ⟨y00, y01⟩ := id y0
  clear hW h1 h2
  go_enter Tryd.func32, Tryd.ntmps32
  go_upto_region 1 with fail
  rw [← hW0]
  clear hW0
  by_cases h0 : n < 0
  · have HR : Hid (r = -1) := by rw [Hid, ← hr, if_pos (.inl h0)]
    clear hr
    go_wp2
    go_ret
    exact ⟨k0, ret_int HR.out.symm⟩
  · cases hg : goodW hd lp with
    | false =>
      have HR : Hid (r = -1) := by rw [Hid, ← hr, if_pos (.inr hg)]
      have HG : Hid _ := hg
      clear hr hg
      go_wp2_with (go_at_call 30; refine (good30 _ B _ hd lp HW0.out hB0).mono ?_; rintro e w2 ⟨k2, rfl⟩; rw [HG.out])
      go_ret
      exact ⟨k0.trans k2 (fun _ _ f => f), ret_int HR.out.symm⟩
    | true =>
      obtain ⟨m, rfl⟩ : ∃ m : Nat, n = (m : Int) := ⟨n.toNat, by omega⟩
      have HR : Hid (wAt hd lp m = r) := by rw [Hid, ← hr, if_neg (by simp [hg])]; rfl
      have HG : Hid _ := hg
      have hlen := goodW_len hg
      clear hr hg
      go_wp2_with (first
        | (go_at_call 30; refine (good30 _ B _ hd lp HW0.out hB0).mono ?_; rintro e w2 ⟨k2, rfl⟩; rw [HG.out]; obtain ⟨z0, z1⟩ := y0.kept k2 (fun f => f); have HW2 := HW0.out.kept k2 hB0)
        | (go_at_call 66; refine (at66 _ B _ hd lp m HW2 (Nat.le_trans hB0 k2.size) hlen.2 (by omega)).mono ?_; rintro e w3 ⟨k3, rfl⟩; rw [HR.out]))
      go_ret
      exact ⟨(k0.trans k2 (fun _ _ f => f)).trans k3 (fun _ _ f => f), rfl⟩
end Go.Proofs.YtdbpdanocpfboaaDoor

namespace Go.Proofs.YtdbpdanocpfboaaDoor
open Go.RowKit

theorem RV.agg {B : Nat} {w : World} {v : Value} {t : Tr} (h : RV B w v t) : ∃ op n a l c, v = .agg #[.int .i64 op, .int .i64 n, .slice a l c] := by
  obtain ⟨op, n, kids⟩ := t
  obtain ⟨ka, kb, ko, kc, e, _⟩ := h
  exact ⟨_, _, _, _, _, e⟩

set_option maxRecDepth 100000 in
set_option maxHeartbeats 2000000 in
theorem truths28 (w : World) (B : Nat) (fv wv : Value) (t : Tr) (hd lp : List Int) (n : Nat) (hn : hd.length + lp.length = n) (hf : RV B w fv t) (hw : WordV B w wv hd lp) (hB : B ≤ w.heap.size) (hsz : t.size ≤ 1048576) :
    Calls Tryd.prog 28 #[fv, wv] w fun e w' => Kept (fun _ => False) w w' ∧ ((¬ (goodW hd lp = true ∧ wellB t = true) ∧ e = .returned (.slice none 0 0)) ∨ (goodW hd lp = true ∧ wellB t = true ∧ ∃ b, e = .returned (.slice (some ⟨b, 0, none⟩) n n) ∧ ORow w w' b (tvT (hd ++ lp) hd.length t))) := by
  obtain ⟨hv1, lv1, rfl, h1, h3⟩ := id hw
  obtain ⟨ha1, hc1, rfl, hl1⟩ := h1.form
  obtain ⟨la1, lc1, rfl, hl2⟩ := h3.form
  obtain ⟨f0, f1, fa, fl, fc, rfl⟩ := hf.agg
  obtain ⟨W0, hW0⟩ : ∃ W0, W0 = ((w.alloc (.cells #[.int .i64 f0, .int .i64 f1, .slice fa fl fc] 30)).alloc (.cells #[.slice ha1 hd.length hc1, .slice la1 lp.length lc1] 48)) := ⟨_, rfl⟩
  have k0 : Kept (fun _ => False) w W0 := by rw [hW0]; exact ((Kept.refl _ _).alloc _).alloc _
  have x0 : Bx3 W0 w.heap.size (.int .i64 f0) (.int .i64 f1) (.slice fa fl fc) := by
    rw [hW0]
    exact ⟨by simp [go_sem], by simp [go_sem], by simp [go_sem]⟩
  have y0 : Bx W0 (w.heap.size + 1) (.slice ha1 hd.length hc1) (.slice la1 lp.length lc1) := by rw [hW0]; exact ⟨by rw [World.cell?_alloc_at (hn := by simp)]; rfl, by rw [World.cell?_alloc_at (hn := by simp)]; rfl⟩
  have HF0 : Hid (RV B W0 (.agg #[.int .i64 f0, .int .i64 f1, .slice fa fl fc]) t) := hf.below (k0.below hB (fun _ f => f.elim))
  have HW0 : Hid (WordV B W0 (.agg #[.slice ha1 hd.length hc1, .slice la1 lp.length lc1]) hd lp) := hw.kept k0 hB
  have hB0 : B ≤ W0.heap.size := Nat.le_trans hB k0.size
  obtain ⟨x00, x01, x02⟩ := id x0
  obtain ⟨y00, y01⟩ := id y0
  clear hf hw h1 h3
  go_enter Tryd.func28, Tryd.ntmps28
  go_upto_region 1 with fail
  rw [← hW0]
  clear hW0
  cases hwa : wellB t with
  | false =>
    have HWA : Hid (wellB t = false) := hwa
    clear hwa
    go_wp2_with (go_at_call 24; refine (well24 1048576 t hsz _ B _ HF0.out hB0 (by omega)).mono ?_; rintro e w1 ⟨k1, rfl⟩; rw [HWA.out])
    go_ret
    exact ⟨k0.trans k1 (fun _ _ f => f), .inl ⟨fun h => (by have g := HWA.out; rw [h.2] at g; cases g), rfl⟩⟩
  | true =>
    have HWA : Hid (wellB t = true) := hwa
    have htw : t.well := (wellB_iff t).1 hwa
    clear hwa
    cases hg : goodW hd lp with
    | false =>
      have HG : Hid _ := hg
      clear hg
      go_wp2_with (first
        | (go_at_call 24; refine (well24 1048576 t hsz _ B _ HF0.out hB0 (by omega)).mono ?_; rintro e w1 ⟨k1, rfl⟩; obtain ⟨z0, z1⟩ := y0.kept k1 (fun f => f); have G1 := HW0.out.kept k1 hB0; rw [HWA.out])
        | (go_at_call 30; refine (good30 _ B _ hd lp G1 (Nat.le_trans hB0 k1.size)).mono ?_; rintro e w2 ⟨k2, rfl⟩; rw [HG.out]))
      go_ret
      exact ⟨(k0.trans k1 (fun _ _ f => f)).trans k2 (fun _ _ f => f), .inl ⟨fun h => (by have g := HG.out; rw [h.1] at g; cases g), rfl⟩⟩
    | true =>
      have HG : Hid _ := hg
      clear hg
      go_upto_region 3 with (first
        | (go_at_call 24; refine (well24 1048576 t hsz _ B _ HF0.out hB0 (by omega)).mono ?_; rintro e w1 ⟨k1, rfl⟩; obtain ⟨z0, z1⟩ := y0.kept k1 (fun f => f); have G1 := HW0.out.kept k1 hB0; rw [HWA.out])
        | (go_at_call 30; refine (good30 _ B _ hd lp G1 (Nat.le_trans hB0 k1.size)).mono ?_; rintro e w2 ⟨k2, rfl⟩; rw [HG.out]))
      have k02 := k1.trans k2 (fun _ _ f => f)
      have kw2 := k0.trans k02 (fun _ _ f => f)
      obtain ⟨x20, x21, x22⟩ := x0.kept k02
      obtain ⟨y20, y21⟩ := y0.kept k02 (fun f => f)
      have HF2 : Hid (RV B w2 (.agg #[.int .i64 f0, .int .i64 f1, .slice fa fl fc]) t) := HF0.out.below (k02.below hB0 (fun _ f => f.elim))
      have HW2 : Hid (WordV B w2 (.agg #[.slice ha1 hd.length hc1, .slice la1 lp.length lc1]) hd lp) := HW0.out.kept k02 hB0
      have hB2 := Nat.le_trans hB0 k02.size
      clear x00 x01 x02 y00 y01 z0 z1 G1
      go_wp2_with (go_at_call 64; refine (truths64 1048576 t hsz (by omega) htw _ B _ _ hd lp n hn HF2.out HW2.out HG.out hB2).mono ?_; rintro e w3 ⟨b3, rfl, row3⟩)
      go_ret
      have row := row3.rebase kw2
      exact ⟨row.1, .inr ⟨HG.out, HWA.out, b3, rfl, row⟩⟩

set_option maxRecDepth 100000 in
set_option maxHeartbeats 2000000 in
theorem holds34 (w : World) (B : Nat) (fv wv : Value) (t : Tr) (hd lp : List Int) (z : Bool) (hf : RV B w fv t) (hw : WordV B w wv hd lp) (hB : B ≤ w.heap.size) (hsz : t.size ≤ 1048576)
    (h1 : ¬ (goodW hd lp = true ∧ wellB t = true) → z = false) (h2 : goodW hd lp = true → wellB t = true → (tvT (hd ++ lp) hd.length t).headD false = z) :
    Calls Tryd.prog 34 #[fv, wv] w fun e w' => Kept (fun _ => False) w w' ∧ e = .returned (.bool z) := by
  obtain ⟨hv1, lv1, rfl, h5, h6⟩ := id hw
  obtain ⟨ha1, hc1, rfl, hl1⟩ := h5.form
  obtain ⟨la1, lc1, rfl, hl2⟩ := h6.form
  obtain ⟨f0, f1, fa, fl, fc, rfl⟩ := hf.agg
  obtain ⟨W0, hW0⟩ : ∃ W0, W0 = ((w.alloc (.cells #[.int .i64 f0, .int .i64 f1, .slice fa fl fc] 30)).alloc (.cells #[.slice ha1 hd.length hc1, .slice la1 lp.length lc1] 48)) := ⟨_, rfl⟩
  have k0 : Kept (fun _ => False) w W0 := by rw [hW0]; exact ((Kept.refl _ _).alloc _).alloc _
  have x0 : Bx3 W0 w.heap.size (.int .i64 f0) (.int .i64 f1) (.slice fa fl fc) := by
    rw [hW0]
    exact ⟨by simp [go_sem], by simp [go_sem], by simp [go_sem]⟩
  have y0 : Bx W0 (w.heap.size + 1) (.slice ha1 hd.length hc1) (.slice la1 lp.length lc1) := by rw [hW0]; exact ⟨by rw [World.cell?_alloc_at (hn := by simp)]; rfl, by rw [World.cell?_alloc_at (hn := by simp)]; rfl⟩
  have HF0 : Hid (RV B W0 (.agg #[.int .i64 f0, .int .i64 f1, .slice fa fl fc]) t) := hf.below (k0.below hB (fun _ f => f.elim))
  have HW0 : Hid (WordV B W0 (.agg #[.slice ha1 hd.length hc1, .slice la1 lp.length lc1]) hd lp) := hw.kept k0 hB
  have hB0 : B ≤ W0.heap.size := Nat.le_trans hB k0.size
  obtain ⟨x00, x01, x02⟩ := id x0
  obtain ⟨y00, y01⟩ := id y0
  obtain ⟨n, hn⟩ : ∃ n, hd.length + lp.length = n := ⟨_, rfl⟩
  clear hf hw h5 h6
  go_enter Tryd.func34, Tryd.ntmps34
  go_upto_region 1 with fail
  rw [← hW0]
  clear hW0
  by_cases hgw : goodW hd lp = true ∧ wellB t = true
  · have hz := h2 hgw.1 hgw.2
    have hlen := goodW_len hgw.1
    have hl := tvT_len (hd ++ lp) hd.length (by simp; omega) t ((wellB_iff t).1 hgw.2)
    have HC : Hid (∀ w' b, ORow W0 w' b (tvT (hd ++ lp) hd.length t) → w'.cell? ⟨b, 0, none⟩ = some (.bool z)) := fun w' b h => by
      rw [List.length_append] at hl
      refine h.cell (by omega) ?_
      rw [← hz]
      cases tvT (hd ++ lp) hd.length t <;> rfl
    have HGW : Hid (goodW hd lp = true ∧ wellB t = true) := hgw
    have hn0 : (n : Int) > 0 := by omega
    clear h1 h2 hz hl hgw
    go_wp2_with (go_at_call 28; refine (truths28 _ B _ _ t hd lp n hn HF0.out HW0.out hB0 hsz).mono ?_; rintro e w1 hh; obtain ⟨b1, rfl, k1, row1⟩ : ∃ b, e = .returned (.slice (some ⟨b, 0, none⟩) n n) ∧ Kept (fun _ => False) W0 w1 ∧ ORow W0 w1 b (tvT (hd ++ lp) hd.length t) := hh.2.elim (fun g => absurd HGW.out g.1) (fun g => by { obtain ⟨_, _, b, e, r⟩ := g; exact ⟨b, e, hh.1, r⟩ }); have c1 := HC.out w1 b1 row1; clear row1 hh)
    go_ret
    exact ⟨k0.trans k1 (fun _ _ f => f), rfl⟩
  · have hz := h1 hgw
    have HGW : Hid (¬ (goodW hd lp = true ∧ wellB t = true)) := hgw
    subst hz
    clear h1 h2 hgw
    go_wp2_with (go_at_call 28; refine (truths28 _ B _ _ t hd lp n hn HF0.out HW0.out hB0 hsz).mono ?_; rintro e w1 hh; obtain ⟨rfl, k1⟩ : e = .returned (.slice none 0 0) ∧ Kept (fun _ => False) W0 w1 := hh.2.elim (fun g => ⟨g.2, hh.1⟩) (fun g => absurd ⟨g.1, g.2.1⟩ HGW.out); clear hh)
    go_ret
    exact ⟨k0.trans k1 (fun _ _ f => f), rfl⟩
end Go.Proofs.YtdbpdanocpfboaaDoor

namespace Go.Proofs.YtdbpdanocpfboaaDoor
open Go.RowKit

theorem FormV.agg {B : Nat} {w : World} {v : Value} {t : Tr} (h : FormV B w v t) : ∃ op n a l c, v = .agg #[.int .i64 op, .int .i64 n, .slice a l c] := by
  obtain ⟨op, n, kids⟩ := t
  obtain ⟨ka, kb, ko, kc, e, _⟩ := h
  exact ⟨_, _, _, _, _, e⟩
/-- a box that holds a formula -/
def FBox (W : World) (b : Nat) (t : Tr) : Prop := ∃ o n a l c, Bx3 W b (.int .i64 o) (.int .i64 n) (.slice a l c) ∧ FormV W.heap.size W (.agg #[.int .i64 o, .int .i64 n, .slice a l c]) t
theorem FBox.kept {W W' : World} {b : Nat} {t : Tr} (h : FBox W b t) (hk : Kept (fun _ => False) W W') : FBox W' b t := by
  obtain ⟨o, n, a, l, c, h1, h2⟩ := h
  exact ⟨o, n, a, l, c, h1.kept hk, h2.new hk⟩
theorem FBox.new {w : World} {o n : Int} {a : Option Addr} {l c : Nat} {t : Tr} (h : FormV w.heap.size w (.agg #[.int .i64 o, .int .i64 n, .slice a l c]) t) : FBox (w.alloc (.cells #[.int .i64 o, .int .i64 n, .slice a l c] 24)) w.heap.size t :=
  ⟨o, n, a, l, c, ⟨by simp, by simp, by simp⟩, h.new ((Kept.refl _ _).alloc _)⟩
/-- a box that holds a word -/
def UBox (W : World) (b : Nat) (hd lp : List Int) : Prop := ∃ a c a' c', Bx W b (.slice a hd.length c) (.slice a' lp.length c') ∧ WordV W.heap.size W (.agg #[.slice a hd.length c, .slice a' lp.length c']) hd lp
theorem UBox.kept {W W' : World} {b : Nat} {hd lp : List Int} (h : UBox W b hd lp) (hk : Kept (fun _ => False) W W') : UBox W' b hd lp := by
  obtain ⟨a, c, a', c', h1, h2⟩ := h
  exact ⟨a, c, a', c', h1.kept hk (fun f => f), h2.new hk⟩

mutual
theorem RAt.mono {B B' : Nat} {w : World} (hB : B ≤ B') {b o : Nat} : ∀ {t : Tr}, RAt B w b o t → RAt B' w b o t
  | .mk op n kids, h => by
    obtain ⟨h1, h3, h4, ka, kb, ko, kc, h5, h6, h7⟩ := h
    exact ⟨Nat.lt_of_lt_of_le h1 hB, h3, h4, ka, kb, ko, kc, h5, h6, RsAt.mono hB h7⟩
theorem RsAt.mono {B B' : Nat} {w : World} (hB : B ≤ B') {b o : Nat} : ∀ {l : List Tr}, RsAt B w b o l → RsAt B' w b o l
  | [], _ => trivial
  | _ :: _, h => ⟨RAt.mono hB h.1, RsAt.mono hB h.2⟩
end
theorem RV.mono {B B' : Nat} {w : World} {v : Value} {t : Tr} (h : RV B w v t) (hB : B ≤ B') : RV B' w v t := by
  cases t with
  | mk op n kids =>
    obtain ⟨ka, kb, ko, kc, e, h1, h2⟩ := h
    exact ⟨ka, kb, ko, kc, e, h1, RsAt.mono hB h2⟩
theorem truths27b (w : World) (B : Nat) (fv wv : Value) (hd lp : List Int) (t : Tr) (hW : WordV B w wv hd lp) (hF : FormV B w fv t) (hB : B ≤ w.heap.size) (hT : TabK w) (hB2 : 2 ≤ B) (hsz : t.size ≤ 268435456) (hb : ¬ (goodW hd lp = true ∧ wellB t = true)) :
    Calls Tryd.prog 27 #[fv, wv] w fun e w' => Kept (fun _ => False) w w' ∧ e = .returned (.slice none 0 0) := by
  refine (truths27 w B fv wv hd lp t hW hF hB hT hB2 hsz).mono ?_
  rintro e w' ⟨hk, ⟨_, h⟩ | ⟨h1, h2, _⟩⟩
  · exact ⟨hk, h⟩
  · exact absurd ⟨h1, (wellB_iff t).2 h2⟩ hb
theorem truths27r (w : World) (B : Nat) (fv wv : Value) (hd lp : List Int) (t : Tr) (n : Nat) (hn : hd.length + lp.length = n) (hW : WordV B w wv hd lp) (hF : FormV B w fv t) (hB : B ≤ w.heap.size) (hT : TabK w) (hB2 : 2 ≤ B) (hsz : t.size ≤ 268435456) (hg : goodW hd lp = true) (ht : t.well) :
    Calls Tryd.prog 27 #[fv, wv] w fun e w' => ∃ b, e = .returned (.slice (some ⟨b, 0, none⟩) n n) ∧ ORow w w' b (tvT (hd ++ lp) hd.length t) := by
  refine (truths27 w B fv wv hd lp t hW hF hB hT hB2 hsz).mono ?_
  rintro e w' ⟨hk, ⟨h, _⟩ | ⟨_, _, b, v, rfl, hb, hr⟩⟩
  · exact absurd ⟨hg, ht⟩ h
  · have hl := tvT_len (hd ++ lp) hd.length (by have := (goodW_len hg).2; simp; omega) t ht
    rw [List.length_append, hn] at hl
    obtain ⟨r1, r2, r3⟩ := hr
    exact ⟨b, by rw [r1, hl], hk, hb, r2, r3⟩
theorem holds33z (w : World) (B : Nat) (fv wv : Value) (hd lp : List Int) (t : Tr) (z : Bool) (h1 : ¬ (goodW hd lp = true ∧ wellB t = true) → z = false) (h2 : goodW hd lp = true → wellB t = true → (tvT (hd ++ lp) hd.length t).headD false = z) (hW : WordV B w wv hd lp) (hF : FormV B w fv t) (hB : B ≤ w.heap.size) (hT : TabK w) (hB2 : 2 ≤ B) (hsz : t.size ≤ 268435456) :
    Calls Tryd.prog 33 #[fv, wv] w fun e w' => Kept (fun _ => False) w w' ∧ e = .returned (.bool z) := by
  refine (holds33 w B fv wv hd lp t hW hF hB hT hB2 hsz).mono ?_
  rintro e w' ⟨hk, ⟨h, rfl⟩ | ⟨g1, g2, rfl⟩⟩
  · exact ⟨hk, ret_bool (h1 (fun g => h ⟨g.1, (wellB_iff t).1 g.2⟩)).symm⟩
  · exact ⟨hk, ret_bool (h2 g1 ((wellB_iff t).2 g2))⟩
theorem atW_eq (hd lp : List Int) (n : Int) : (if n < 0 ∨ goodW hd lp = false then (-1 : Int) else wAt hd lp n.toNat) = atW hd lp n := by
  unfold atW wAt
  by_cases h : n < 0 ∨ goodW hd lp = false
  · rw [if_pos h, if_pos h]
  · rw [if_neg h, if_neg h]
    have h0 : 0 ≤ n := by
      by_cases g : n < 0
      · exact absurd (.inl g) h
      · omega
    by_cases g : n < (hd.length : Int)
    · rw [if_pos (by omega), if_pos g]
    · rw [if_neg (by omega), if_neg g]

theorem same35u (w : World) (B C : Nat) (va vb : Value) (hd lp : List Int) (ha : WordV B w va hd lp) (hb : WordV C w vb hd lp) (hB : B ≤ w.heap.size) (hC : C ≤ w.heap.size) :
    Calls Tryd.prog 35 #[va, vb] w fun e w' => Kept (fun _ => False) w w' ∧ e = .returned (.bool true) := by
  have h := same35 w B C va vb hd lp hd lp ha hb hB hC
  rwa [show (decide (hd = hd) && decide (lp = lp)) = true by simp] at h

set_option maxRecDepth 100000 in
set_option maxHeartbeats 20000000 in
theorem law7 (w : World) (B : Nat) (fv wv : Value) (n0 : Int) (t : Tr) (hd lp : List Int) (hf : RV B w fv t) (hw : WordV B w wv hd lp) (hB : B ≤ w.heap.size) (hT : TabK w) (h2 : 2 ≤ w.heap.size) (hsz : t.size ≤ 1048576) (hn0 : -9223372036854775808 ≤ n0 ∧ n0 ≤ 9223372036854775807) :
    Calls Tryd.prog 7 #[fv, wv, .int .i64 n0] w fun e w' => Kept (fun _ => False) w w' ∧ e = .returned (.bool true) := by
  obtain ⟨hv1, lv1, rfl, h1, h3⟩ := id hw
  obtain ⟨ha1, hc1, rfl, hl1⟩ := h1.form
  obtain ⟨la1, lc1, rfl, hl2⟩ := h3.form
  obtain ⟨f0, f1, fa, fl, fc, rfl⟩ := hf.agg
  obtain ⟨W0, hW0⟩ : ∃ W0, W0 = ((w.alloc (.cells #[.int .i64 f0, .int .i64 f1, .slice fa fl fc] 30)).alloc (.cells #[.slice ha1 hd.length hc1, .slice la1 lp.length lc1] 48)) := ⟨_, rfl⟩
  have k0 : Kept (fun _ => False) w W0 := by rw [hW0]; exact ((Kept.refl _ _).alloc _).alloc _
  have x0 : Bx3 W0 w.heap.size (.int .i64 f0) (.int .i64 f1) (.slice fa fl fc) := by
    rw [hW0]
    exact ⟨by simp [go_sem], by simp [go_sem], by simp [go_sem]⟩
  have y0 : Bx W0 (w.heap.size + 1) (.slice ha1 hd.length hc1) (.slice la1 lp.length lc1) := by rw [hW0]; exact ⟨by rw [World.cell?_alloc_at (hn := by simp)]; rfl, by rw [World.cell?_alloc_at (hn := by simp)]; rfl⟩
  have HF : Hid (RV B w (.agg #[.int .i64 f0, .int .i64 f1, .slice fa fl fc]) t) := hf
  have HW : Hid (WordV B w (.agg #[.slice ha1 hd.length hc1, .slice la1 lp.length lc1]) hd lp) := hw
  have HF0 : Hid (RV B W0 (.agg #[.int .i64 f0, .int .i64 f1, .slice fa fl fc]) t) := hf.below (k0.below hB (fun _ f => f.elim))
  have hB0 : B ≤ W0.heap.size := Nat.le_trans hB k0.size
  obtain ⟨x00, x01, x02⟩ := id x0
  clear hf hw h1 h3
  go_enter Tryd.func7, Tryd.ntmps7
  go_upto_region 1 with fail
  rw [← hW0]
  clear hW0
  go_upto_region 2 with (go_at_call 19; refine (given19 1048576 t hsz (by omega) _ B _ HF0.out hB0).mono ?_; rintro e w1 ⟨v', rfl, k1, hF1⟩; obtain ⟨oA, nA, aA, lA, cA, rfl⟩ := hF1.agg)
  obtain ⟨W1, hW1⟩ : ∃ W1, W1 = w1.alloc (.cells #[.int .i64 oA, .int .i64 nA, .slice aA lA cA] 24) := ⟨_, rfl⟩
  have q1 : Kept (fun _ => False) w1 W1 := by rw [hW1]; exact (Kept.refl _ _).alloc _
  have fA1 : FBox W1 w1.heap.size t := by rw [hW1]; exact FBox.new (hF1.form (fun b hb => hb.2))
  rw [← hW1]
  clear hW1 hF1
  have k01 := k1.trans q1 (fun _ _ f => f)
  have kw1 := k0.trans k01 (fun _ _ f => f)
  have x1 := x0.kept k01
  have y1 := y0.kept k01 (fun f => f)
  have HW1 : Hid (WordV B W1 (.agg #[.slice ha1 hd.length hc1, .slice la1 lp.length lc1]) hd lp) := HW.out.kept kw1 hB
  have hB1 := Nat.le_trans hB kw1.size
  clear x00 x01 x02 x0 y0 HF0 hB0 k1 q1 k01 k0
  obtain ⟨y10, y11⟩ := id y1
  go_upto_region 3 with (go_at_call 26; refine (given26 _ B _ hd lp HW1.out hB1).mono ?_; rintro e w2 ⟨a1, c1, a2, c2, rfl, n1, n2, ap1⟩)
  obtain ⟨W2, hW2⟩ : ∃ W2, W2 = w2.alloc (.cells #[.slice a1 hd.length c1, .slice a2 lp.length c2] 49) := ⟨_, rfl⟩
  have q2 : Kept (fun _ => False) w2 W2 := by rw [hW2]; exact (Kept.refl _ _).alloc _
  have bu : Bx W2 w2.heap.size (.slice a1 hd.length c1) (.slice a2 lp.length c2) := by rw [hW2]; exact Bx.new w2 _ _ 49
  have wu : WordV W2.heap.size W2 (.agg #[.slice a1 hd.length c1, .slice a2 lp.length c2]) hd lp := WordV.new ⟨_, _, rfl, n1.ints hl1, n2.ints hl2⟩ q2
  rw [← hW2]
  clear hW2
  have k12 := n1.1.trans q2 (fun _ _ f => f)
  have kw2 := kw1.trans k12 (fun _ _ f => f)
  have x2 := x1.kept k12
  have y2 := y1.kept k12 (fun f => f)
  obtain ⟨o1, m1, p1, l1, d1, ba, fa2⟩ := fA1.kept k12
  generalize w1.heap.size = bA at *
  generalize w2.heap.size = bU at *
  have HU : Hid (WordV W2.heap.size W2 (.agg #[.slice a1 hd.length c1, .slice a2 lp.length c2]) hd lp) := wu
  have HA : Hid (FormV W2.heap.size W2 (.agg #[.int .i64 o1, .int .i64 m1, .slice p1 l1 d1]) t) := fa2
  have HFR : Hid (RV B W2 (.agg #[.int .i64 f0, .int .i64 f1, .slice fa fl fc]) t) := HF.out.below (kw2.below hB (fun _ f => f.elim))
  have HWR : Hid (WordV B W2 (.agg #[.slice ha1 hd.length hc1, .slice la1 lp.length lc1]) hd lp) := HW.out.kept kw2 hB
  have hB2 := Nat.le_trans hB kw2.size
  have hT2 := hT.kept kw2
  have HT2 : Hid (TabK W2) := hT2
  have h22 := Nat.le_trans h2 kw2.size
  have KW2 : Hid (Kept (fun _ => False) w W2) := kw2
  have BA : Hid (Bx3 W2 bA (.int .i64 o1) (.int .i64 m1) (.slice p1 l1 d1)) := ba
  have BU : Hid (Bx W2 bU (.slice a1 hd.length c1) (.slice a2 lp.length c2)) := bu
  have X2 : Hid (Bx3 W2 w.heap.size (.int .i64 f0) (.int .i64 f1) (.slice fa fl fc)) := x2
  have Y2 : Hid (Bx W2 (w.heap.size + 1) (.slice ha1 hd.length hc1) (.slice la1 lp.length lc1)) := y2
  obtain ⟨ba0, ba1, ba2⟩ := id ba
  obtain ⟨bu0, bu1⟩ := id bu
  obtain ⟨n, hn⟩ : ∃ n, hd.length + lp.length = n := ⟨_, rfl⟩
  clear y10 y11 fA1 wu fa2 n1 n2 ap1 q2 k12 kw1 kw2 x1 y1 HW1 hB1 hT2 ba bu x2 y2
  by_cases hgw : goodW hd lp = true ∧ wellB t = true
  · have hwb : t.well := (wellB_iff t).1 hgw.2
    have HGD : Hid (goodW hd lp = true) := hgw.1
    have HGW : Hid (goodW hd lp = true ∧ wellB t = true) := hgw
    have hlen := goodW_len hgw.1
    have hn2 : n ≤ 20000 := by omega
    have hlr := tvT_len (hd ++ lp) hd.length (by simp; omega) t hwb
    rw [List.length_append, hn] at hlr
    obtain ⟨z, hz⟩ : ∃ z, (tvT (hd ++ lp) hd.length t).headD false = z := ⟨_, rfl⟩
    have HZ1 : Hid (¬ (goodW hd lp = true ∧ wellB t = true) → z = false) := fun h => absurd HGW.out h
    have HZ2 : Hid (goodW hd lp = true → wellB t = true → (tvT (hd ++ lp) hd.length t).headD false = z) := fun _ _ => hz
    clear hgw hz
    go_upto_region 4 with (go_at_call 27; refine (truths27r _ _ _ _ hd lp t n hn HU.out HA.out (Nat.le_refl _) HT2.out h22 (by omega) HGD.out hwb).mono ?_; rintro e w3 ⟨b1, rfl, row1⟩)
    have k3 := row1.1
    have x3 := X2.out.kept k3
    have y3 := Y2.out.kept k3 (fun f => f)
    obtain ⟨x30, x31, x32⟩ := id x3
    obtain ⟨y30, y31⟩ := id y3
    have R1 : Hid (ORow W2 w3 b1 (tvT (hd ++ lp) hd.length t)) := row1
    have HF3 : Hid (RV B w3 (.agg #[.int .i64 f0, .int .i64 f1, .slice fa fl fc]) t) := HFR.out.below (k3.below hB2 (fun _ f => f.elim))
    have HW3 : Hid (WordV B w3 (.agg #[.slice ha1 hd.length hc1, .slice la1 lp.length lc1]) hd lp) := HWR.out.kept k3 hB2
    have hB3 := Nat.le_trans hB2 k3.size
    have hb1l : b1 < w3.heap.size := row1.2.2.1
    have hb1 : W2.heap.size ≤ b1 := row1.2.1
    clear row1 ba0 ba1 ba2 bu0 bu1
    go_upto_region 5 with (go_at_call 28; refine (truths28 _ B _ _ t hd lp n hn HF3.out HW3.out hB3 hsz).mono ?_; rintro e w4 hh; obtain ⟨b2, rfl, k4, row2⟩ : ∃ b, e = .returned (.slice (some ⟨b, 0, none⟩) n n) ∧ Kept (fun _ => False) w3 w4 ∧ ORow w3 w4 b (tvT (hd ++ lp) hd.length t) := hh.2.elim (fun g => absurd HGW.out g.1) (fun g => by { obtain ⟨_, _, b, e, r⟩ := g; exact ⟨b, e, hh.1, r⟩ }); clear hh)
    have K5 : Kept (fun _ => False) W2 w4 := k3.trans k4 (fun _ _ f => f)
    have R2 : Hid (ORow w3 w4 b2 (tvT (hd ++ lp) hd.length t)) := row2
    have hb2 : w3.heap.size ≤ b2 := row2.2.1
    clear row2 x30 x31 x32 y30 y31 x3 y3 HF3 HW3
    have hu5 := HU.out.new K5
    obtain ⟨ba0, ba1, ba2⟩ := BA.out.kept K5
    obtain ⟨bu0, bu1⟩ := BU.out.kept K5 (fun f => f)
    obtain ⟨xx0, xx1, xx2⟩ := X2.out.kept K5
    obtain ⟨yy0, yy1⟩ := Y2.out.kept K5 (fun f => f)
    have U10 : ∀ U : KW w4, U.1.cell? ⟨bA, 0, none⟩ = some (.int .i64 o1) := fun U => U.cell ba0
    have U11 : ∀ U : KW w4, U.1.cell? ⟨bA, 1, none⟩ = some (.int .i64 m1) := fun U => U.cell ba1
    have U12 : ∀ U : KW w4, U.1.cell? ⟨bA, 2, none⟩ = some (.slice p1 l1 d1) := fun U => U.cell ba2
    have U20 : ∀ U : KW w4, U.1.cell? ⟨bU, 0, none⟩ = some (.slice a1 hd.length c1) := fun U => U.cell bu0
    have U21 : ∀ U : KW w4, U.1.cell? ⟨bU, 1, none⟩ = some (.slice a2 lp.length c2) := fun U => U.cell bu1
    have U30 : ∀ U : KW w4, U.1.cell? ⟨w.heap.size, 0, none⟩ = some (.int .i64 f0) := fun U => U.cell xx0
    have U31 : ∀ U : KW w4, U.1.cell? ⟨w.heap.size, 1, none⟩ = some (.int .i64 f1) := fun U => U.cell xx1
    have U32 : ∀ U : KW w4, U.1.cell? ⟨w.heap.size, 2, none⟩ = some (.slice fa fl fc) := fun U => U.cell xx2
    have U40 : ∀ U : KW w4, U.1.cell? ⟨w.heap.size + 1, 0, none⟩ = some (.slice ha1 hd.length hc1) := fun U => U.cell yy0
    have U41 : ∀ U : KW w4, U.1.cell? ⟨w.heap.size + 1, 1, none⟩ = some (.slice la1 lp.length lc1) := fun U => U.cell yy1
    have hk5 : ∀ U : KW w4, Kept (fun _ => False) W2 U.1 := fun U => K5.trans U.2 (fun _ _ f => f)
    obtain ⟨gz, hgz⟩ : ∃ z, goodW hd lp = z := ⟨_, rfl⟩
    obtain ⟨rz, hrz⟩ : ∃ z, atW hd lp n0 = z := ⟨_, rfl⟩
    have C29 : Hid (∀ U : KW w4, Calls Tryd.prog 29 #[.agg #[.slice a1 hd.length c1, .slice a2 lp.length c2]] U.1 fun e w' => Kept (fun _ => False) U.1 w' ∧ e = .returned (.bool gz)) := fun U => (good29 U.1 _ _ hd lp (HU.out.new (hk5 U)) (Nat.le_refl _)).mono fun e w' h => ⟨h.2, by rw [h.1, hgz]⟩
    have C30 : Hid (∀ U : KW w4, Calls Tryd.prog 30 #[.agg #[.slice ha1 hd.length hc1, .slice la1 lp.length lc1]] U.1 fun e w' => Kept (fun _ => False) U.1 w' ∧ e = .returned (.bool gz)) := fun U => (good30 U.1 B _ hd lp (HWR.out.kept (hk5 U) hB2) (Nat.le_trans hB2 (hk5 U).size)).mono fun e w' h => ⟨h.1, by rw [h.2, hgz]⟩
    have C31 : Hid (∀ U : KW w4, Calls Tryd.prog 31 #[.agg #[.slice a1 hd.length c1, .slice a2 lp.length c2], .int .i64 n0] U.1 fun e w' => Kept (fun _ => False) U.1 w' ∧ e = .returned (.int .i64 rz)) := fun U => (at31 U.1 _ _ hd lp n0 (HU.out.new (hk5 U)) (Nat.le_refl _) hn0).mono fun e w' h => ⟨h.1, by rw [h.2, hrz]⟩
    have C32 : Hid (∀ U : KW w4, Calls Tryd.prog 32 #[.agg #[.slice ha1 hd.length hc1, .slice la1 lp.length lc1], .int .i64 n0] U.1 fun e w' => Kept (fun _ => False) U.1 w' ∧ e = .returned (.int .i64 rz)) := fun U => at32 U.1 B _ hd lp n0 (HWR.out.kept (hk5 U) hB2) (Nat.le_trans hB2 (hk5 U).size) hn0.2 rz (by rw [atW_eq, hrz])
    have C33 : Hid (∀ U : KW w4, Calls Tryd.prog 33 #[.agg #[.int .i64 o1, .int .i64 m1, .slice p1 l1 d1], .agg #[.slice a1 hd.length c1, .slice a2 lp.length c2]] U.1 fun e w' => Kept (fun _ => False) U.1 w' ∧ e = .returned (.bool z)) := fun U => holds33z U.1 _ _ _ hd lp t z HZ1.out HZ2.out (HU.out.new (hk5 U)) (HA.out.new (hk5 U)) (Nat.le_refl _) (HT2.out.kept (hk5 U)) (Nat.le_trans h22 (hk5 U).size) (by omega)
    have C34 : Hid (∀ U : KW w4, Calls Tryd.prog 34 #[.agg #[.int .i64 f0, .int .i64 f1, .slice fa fl fc], .agg #[.slice ha1 hd.length hc1, .slice la1 lp.length lc1]] U.1 fun e w' => Kept (fun _ => False) U.1 w' ∧ e = .returned (.bool z)) := fun U => holds34 U.1 B _ _ t hd lp z (HFR.out.below ((hk5 U).below hB2 (fun _ f => f.elim))) (HWR.out.kept (hk5 U) hB2) (Nat.le_trans hB2 (hk5 U).size) hsz HZ1.out HZ2.out
    clear hgz hrz hu5 hk5 ba0 ba1 ba2 bu0 bu1 xx0 xx1 xx2 yy0 yy1
    refine wp_region_blk_kept (by kernel_rfl) (by kernel_rfl) ?_
    repeat (refine blk_step (fun K hK => ?_); go_simp; first | (refine hK _ ?_; clear hK K) | (apply Exists.intro; refine ⟨fun U => ?_, hK _ ?_⟩; (first | (go_at_call 29; exact Calls.quiet_kept (C29.out U)) | (go_at_call 30; exact Calls.quiet_kept (C30.out U)) | (go_at_call 31; exact Calls.quiet_kept (C31.out U)) | (go_at_call 32; exact Calls.quiet_kept (C32.out U)) | (go_at_call 33; exact Calls.quiet_kept (C33.out U)) | (go_at_call 34; exact Calls.quiet_kept (C34.out U))); clear hK K))
    refine blk_nil ?_
    intro w5 hw'
    have k5 : Kept (fun _ => False) w4 w5 := by
      obtain ⟨U, rfl⟩ := hw'
      exact U.2
    clear hw' U10 U11 U12 U20 U21 U30 U31 U32 U40 U41 C29 C30 C31 C32 C33 C34
    have R15 : Hid (ORow W2 w5 b1 (tvT (hd ++ lp) hd.length t)) := R1.out.kept (k4.trans k5 (fun _ _ f => f))
    have R25 : Hid (ORow w3 w5 b2 (tvT (hd ++ lp) hd.length t)) := R2.out.kept k5
    have k25 : Kept (fun _ => False) W2 w5 := K5.trans k5 (fun _ _ f => f)
    have K25 : Hid (Kept (fun _ => False) W2 w5) := k25
    have HLR : Hid ((tvT (hd ++ lp) hd.length t).length = n) := hlr
    clear R1 R2 K5 k4 k5 k25 hlr
    generalize hrow : tvT (hd ++ lp) hd.length t = row at *
    go_wp2
    go_loopw [6, 11] (fun _ v11 wr => ∃ i : Nat, i ≤ n ∧ v11 = .int .i64 (i : Int) ∧ Kept (fun q => q = b1) w5 wr ∧ ∀ j, j < n → wr.frozen? ⟨b1, j, none⟩ = false ∧ (wr.cell? ⟨b1, j, none⟩).isSome = true ∧ (i ≤ j → wr.cell? ⟨b1, j, none⟩ = some (.bool (row.getD j false)))) (fun _ v11 _ => n - (intOf v11).toNat)
    case atStart =>
      refine ⟨0, Nat.zero_le _, rfl, Kept.refl _ _, fun j hj => ?_⟩
      have hc := R15.out.cell (i := j) (by rw [HLR.out]; exact hj) rfl
      exact ⟨(R15.out.2.2.2 j (by rw [HLR.out]; exact hj)).2, by rw [hc]; rfl, fun _ => hc⟩
    case round =>
      obtain ⟨i, hi, rfl, hkr, hcells⟩ := hrel
      have HC : Hid (∀ j, j < n → wr.frozen? ⟨b1, j, none⟩ = false ∧ (wr.cell? ⟨b1, j, none⟩).isSome = true ∧ (i ≤ j → wr.cell? ⟨b1, j, none⟩ = some (.bool (row.getD j false)))) := hcells
      have HKR : Hid (Kept (fun q => q = b1) w5 wr) := hkr
      clear hcells hkr
      by_cases hlt : i < n
      · have hlti : (i : Int) < (n : Int) := by omega
        have hnle : ¬ ((n : Int) ≤ (i : Int)) := by omega
        obtain ⟨rv, hrv⟩ : ∃ rv, row.getD i false = rv := ⟨_, rfl⟩
        have c1 : wr.cell? ⟨b1, i, none⟩ = some (.bool rv) := by rw [← hrv]; exact (HC.out i hlt).2.2 (Nat.le_refl _)
        have z1 := (HC.out i hlt).1
        have c2' := R25.out.cell (i := i) (by rw [HLR.out]; exact hlt) hrv
        have c2 := (HKR.out.cell (lt_of_cell c2') (fun e => by simp only at e; omega)).trans c2'
        clear hrv c2'
        go_upto_region 10 with fail
        go_region
        all_goals
          go_wp2
          go_roundw
          case rel =>
            refine ⟨i + 1, by omega, by go_num, (HKR.out.drew).setCell (fun _ => rfl) _, fun j hj => ?_⟩
            obtain ⟨g1, g2, g3⟩ := HC.out j hj
            by_cases e : i = j
            · subst e
              exact ⟨by simp [go_sem, g1], by simp [go_sem, c1], fun h => absurd h (by omega)⟩
            · refine ⟨by simp [go_sem, g1], ?_, fun h => ?_⟩
              · simp [go_sem, g2]
              · simp [go_sem, g3 (by omega)]
          case measure => simp [intOf]; omega
      · have hlti : ¬ (i : Int) < (n : Int) := by omega
        have kr2 : Kept (fun q => q = b1) W2 wr := (K25.out.mono (fun _ _ f => f.elim)).trans HKR.out (fun _ _ f => f)
        have hbal : bA < W2.heap.size := lt_of_cell BA.out.1
        have hbul : bU < W2.heap.size := lt_of_cell BU.out.1
        have hwl : w.heap.size + 1 < W2.heap.size := lt_of_cell Y2.out.1
        have low : ∀ k, k = b1 → W2.heap.size ≤ k := fun k e => by omega
        obtain ⟨ba0r, ba1r, ba2r⟩ : Bx3 wr bA (.int .i64 o1) (.int .i64 m1) (.slice p1 l1 d1) := ⟨(kr2.cell (lt_of_cell BA.out.1) (fun e => by simp only at e; omega)).trans BA.out.1, (kr2.cell (lt_of_cell BA.out.2.1) (fun e => by simp only at e; omega)).trans BA.out.2.1, (kr2.cell (lt_of_cell BA.out.2.2) (fun e => by simp only at e; omega)).trans BA.out.2.2⟩
        obtain ⟨bu0r, bu1r⟩ : Bx wr bU (.slice a1 hd.length c1) (.slice a2 lp.length c2) := ⟨(kr2.cell (lt_of_cell BU.out.1) (fun e => by simp only at e; omega)).trans BU.out.1, (kr2.cell (lt_of_cell BU.out.2) (fun e => by simp only at e; omega)).trans BU.out.2⟩
        have HAr : Hid (FormV W2.heap.size wr (.agg #[.int .i64 o1, .int .i64 m1, .slice p1 l1 d1]) t) := HA.out.below (kr2.below (Nat.le_refl _) low)
        have HUr : Hid (WordV W2.heap.size wr (.agg #[.slice a1 hd.length c1, .slice a2 lp.length c2]) hd lp) := HU.out.below (kr2.below (Nat.le_refl _) low)
        have HTr : Hid (TabK wr) := fun j hj => (kr2.cell (lt_of_cell (HT2.out j hj)) (fun e => by simp only at e; omega)).trans (HT2.out j hj)
        have hsr : W2.heap.size ≤ wr.heap.size := kr2.size
        have R2r : Hid (∀ j, j < n → wr.cell? ⟨b2, j, none⟩ = some (.bool (row.getD j false))) := fun j hj => by
          have c := R25.out.cell (i := j) (by rw [HLR.out]; exact hj) rfl
          exact (HKR.out.cell (lt_of_cell c) (fun e => by simp only at e; omega)).trans c
        have KR2 : Hid (Kept (fun q => q = b1) W2 wr) := kr2
        clear kr2 HC
        go_upto_region 14 with (go_at_call 27; refine (truths27r _ W2.heap.size _ _ hd lp t n hn HUr.out HAr.out hsr HTr.out h22 (by omega) HGD.out hwb).mono ?_; rintro e w6 ⟨b3, rfl, row3⟩; rw [hrow] at row3)
        have k6 := row3.1
        have R36 : Hid (∀ j, j < n → w6.cell? ⟨b3, j, none⟩ = some (.bool (row.getD j false))) := fun j hj => row3.cell (by rw [HLR.out]; exact hj) rfl
        have R26 : Hid (∀ j, j < n → w6.cell? ⟨b2, j, none⟩ = some (.bool (row.getD j false))) := fun j hj => (k6.cell (lt_of_cell (R2r.out j hj)) (fun f => f)).trans (R2r.out j hj)
        have KR6 : Hid (Kept (fun q => q = b1) W2 w6) := KR2.out.trans k6 (fun _ _ f => f.elim)
        clear row3 ba0r ba1r ba2r bu0r bu1r HAr HUr HTr R2r R15 R25 KR2 hsr k6 HKR
        go_wp2
        go_loopw [6, 13] (fun _ v13 ws => ∃ i : Nat, i ≤ n ∧ v13 = .int .i64 (i : Int) ∧ Kept (fun _ => False) w6 ws) (fun _ v13 _ => n - (intOf v13).toNat)
        case atStart => exact ⟨0, Nat.zero_le _, rfl, Kept.refl _ _⟩
        case round =>
          obtain ⟨i2, hi2, rfl, hks⟩ := hrel
          by_cases hlt2 : i2 < n
          · have hlti2 : (i2 : Int) < (n : Int) := by omega
            have hnle2 : ¬ ((n : Int) ≤ (i2 : Int)) := by omega
            obtain ⟨rv, hrv⟩ : ∃ rv, row.getD i2 false = rv := ⟨_, rfl⟩
            have c3 : wr.cell? ⟨b3, i2, none⟩ = some (.bool rv) := by rw [← hrv]; exact (hks.cell (lt_of_cell (R36.out i2 hlt2)) (fun f => f)).trans (R36.out i2 hlt2)
            have c2 : wr.cell? ⟨b2, i2, none⟩ = some (.bool rv) := by rw [← hrv]; exact (hks.cell (lt_of_cell (R26.out i2 hlt2)) (fun f => f)).trans (R26.out i2 hlt2)
            clear hrv
            go_upto_region 17 with fail
            go_region
            all_goals
              go_wp2
              go_roundw
              case rel => exact ⟨i2 + 1, by omega, by go_num, hks.drew⟩
              case measure => simp [intOf]; omega
          · have hlti2 : ¬ (i2 : Int) < (n : Int) := by omega
            have kr7 : Kept (fun q => q = b1) W2 wr := KR6.out.trans hks (fun _ _ f => f.elim)
            obtain ⟨ba0t, ba1t, ba2t⟩ : Bx3 wr bA (.int .i64 o1) (.int .i64 m1) (.slice p1 l1 d1) := ⟨(kr7.cell (lt_of_cell BA.out.1) (fun e => by simp only at e; omega)).trans BA.out.1, (kr7.cell (lt_of_cell BA.out.2.1) (fun e => by simp only at e; omega)).trans BA.out.2.1, (kr7.cell (lt_of_cell BA.out.2.2) (fun e => by simp only at e; omega)).trans BA.out.2.2⟩
            obtain ⟨bu0t, bu1t⟩ : Bx wr bU (.slice a1 hd.length c1) (.slice a2 lp.length c2) := ⟨(kr7.cell (lt_of_cell BU.out.1) (fun e => by simp only at e; omega)).trans BU.out.1, (kr7.cell (lt_of_cell BU.out.2) (fun e => by simp only at e; omega)).trans BU.out.2⟩
            obtain ⟨xx0t, xx1t, xx2t⟩ : Bx3 wr w.heap.size (.int .i64 f0) (.int .i64 f1) (.slice fa fl fc) := ⟨(kr7.cell (lt_of_cell X2.out.1) (fun e => by simp only at e; omega)).trans X2.out.1, (kr7.cell (lt_of_cell X2.out.2.1) (fun e => by simp only at e; omega)).trans X2.out.2.1, (kr7.cell (lt_of_cell X2.out.2.2) (fun e => by simp only at e; omega)).trans X2.out.2.2⟩
            obtain ⟨yy0t, yy1t⟩ : Bx wr (w.heap.size + 1) (.slice ha1 hd.length hc1) (.slice la1 lp.length lc1) := ⟨(kr7.cell (lt_of_cell Y2.out.1) (fun e => by simp only at e; omega)).trans Y2.out.1, (kr7.cell (lt_of_cell Y2.out.2) (fun e => by simp only at e; omega)).trans Y2.out.2⟩
            have HAt : Hid (FormV W2.heap.size wr (.agg #[.int .i64 o1, .int .i64 m1, .slice p1 l1 d1]) t) := HA.out.below (kr7.below (Nat.le_refl _) low)
            have HUt : Hid (WordV W2.heap.size wr (.agg #[.slice a1 hd.length c1, .slice a2 lp.length c2]) hd lp) := HU.out.below (kr7.below (Nat.le_refl _) low)
            have HRt : Hid (RV W2.heap.size wr (.agg #[.int .i64 f0, .int .i64 f1, .slice fa fl fc]) t) := (HFR.out.below (kr7.below hB2 (fun k e => Nat.le_trans hB2 (low k e)))).mono hB2
            have HWt : Hid (WordV B wr (.agg #[.slice ha1 hd.length hc1, .slice la1 lp.length lc1]) hd lp) := HWR.out.below (kr7.below hB2 (fun k e => Nat.le_trans hB2 (low k e)))
            have HTt : Hid (TabK wr) := fun j hj => (kr7.cell (lt_of_cell (HT2.out j hj)) (fun e => by simp only at e; omega)).trans (HT2.out j hj)
            have hst : W2.heap.size ≤ wr.heap.size := kr7.size
            have KFt : Hid (Kept (fun _ => False) w wr) := KW2.out.trans kr7 (fun k hk e => by have g := KW2.out.size; omega)
            go_upto_region 20 with (go_at_call 13; refine (same13 1048576 t hsz (by omega) _ W2.heap.size _ _ HAt.out HRt.out hst).mono ?_; rintro e w9 ⟨k9, rfl⟩)
            have bu09 := (k9.cell (lt_of_cell bu0t) (fun f => f)).trans bu0t
            have bu19 := (k9.cell (lt_of_cell bu1t) (fun f => f)).trans bu1t
            have yy09 := (k9.cell (lt_of_cell yy0t) (fun f => f)).trans yy0t
            have yy19 := (k9.cell (lt_of_cell yy1t) (fun f => f)).trans yy1t
            have HU9 : Hid (WordV W2.heap.size w9 (.agg #[.slice a1 hd.length c1, .slice a2 lp.length c2]) hd lp) := HUt.out.kept k9 hst
            have HW9 : Hid (WordV B w9 (.agg #[.slice ha1 hd.length hc1, .slice la1 lp.length lc1]) hd lp) := HWt.out.kept k9 (Nat.le_trans hB2 hst)
            have hs9 := Nat.le_trans hst k9.size
            go_upto_region 21 with (go_at_call 35; refine (same35u _ W2.heap.size B _ _ hd lp HU9.out HW9.out hs9 (Nat.le_trans hB2 hs9)).mono ?_; rintro e w10 ⟨k10, rfl⟩)
            have k910 := k9.trans k10 (fun _ _ f => f)
            have hT10 := HTt.out.kept k910
            have h210 := Nat.le_trans (Nat.le_trans h22 hst) k910.size
            clear ba0t ba1t ba2t bu0t bu1t xx0t xx1t xx2t yy0t yy1t bu09 bu19 yy09 yy19
            go_wp2_with (go_at_call 36; refine (alive36 _ hT10 h210).mono ?_; rintro e w11 ⟨k11, rfl⟩)
            go_ret
            exact ⟨(KFt.out.trans k910 (fun _ _ f => f)).trans k11 (fun _ _ f => f), rfl⟩
  · have HGW : Hid (¬ (goodW hd lp = true ∧ wellB t = true)) := hgw
    obtain ⟨z, hz⟩ : ∃ z, false = z := ⟨_, rfl⟩
    have HZ1 : Hid (¬ (goodW hd lp = true ∧ wellB t = true) → z = false) := fun _ => hz.symm
    have HZ2 : Hid (goodW hd lp = true → wellB t = true → (tvT (hd ++ lp) hd.length t).headD false = z) := fun h1 h2 => absurd ⟨h1, h2⟩ HGW.out
    clear hgw hz
    go_upto_region 4 with (go_at_call 27; refine (truths27b _ _ _ _ hd lp t HU.out HA.out (Nat.le_refl _) HT2.out h22 (by omega) HGW.out).mono ?_; rintro e w3 ⟨k3, rfl⟩)
    obtain ⟨x30, x31, x32⟩ := X2.out.kept k3
    obtain ⟨y30, y31⟩ := Y2.out.kept k3 (fun f => f)
    have HF3 : Hid (RV B w3 (.agg #[.int .i64 f0, .int .i64 f1, .slice fa fl fc]) t) := HFR.out.below (k3.below hB2 (fun _ f => f.elim))
    have HW3 : Hid (WordV B w3 (.agg #[.slice ha1 hd.length hc1, .slice la1 lp.length lc1]) hd lp) := HWR.out.kept k3 hB2
    have hB3 := Nat.le_trans hB2 k3.size
    clear ba0 ba1 ba2 bu0 bu1
    go_upto_region 5 with (go_at_call 28; refine (truths28 _ B _ _ t hd lp n hn HF3.out HW3.out hB3 hsz).mono ?_; rintro e w4 hh; obtain ⟨rfl, k4⟩ : e = .returned (.slice none 0 0) ∧ Kept (fun _ => False) w3 w4 := hh.2.elim (fun g => ⟨g.2, hh.1⟩) (fun g => absurd ⟨g.1, g.2.1⟩ HGW.out); clear hh)
    have K5 : Kept (fun _ => False) W2 w4 := k3.trans k4 (fun _ _ f => f)
    clear x30 x31 x32 y30 y31 HF3 HW3
    have hu5 := HU.out.new K5
    obtain ⟨ba0, ba1, ba2⟩ := BA.out.kept K5
    obtain ⟨bu0, bu1⟩ := BU.out.kept K5 (fun f => f)
    obtain ⟨xx0, xx1, xx2⟩ := X2.out.kept K5
    obtain ⟨yy0, yy1⟩ := Y2.out.kept K5 (fun f => f)
    have U10 : ∀ U : KW w4, U.1.cell? ⟨bA, 0, none⟩ = some (.int .i64 o1) := fun U => U.cell ba0
    have U11 : ∀ U : KW w4, U.1.cell? ⟨bA, 1, none⟩ = some (.int .i64 m1) := fun U => U.cell ba1
    have U12 : ∀ U : KW w4, U.1.cell? ⟨bA, 2, none⟩ = some (.slice p1 l1 d1) := fun U => U.cell ba2
    have U20 : ∀ U : KW w4, U.1.cell? ⟨bU, 0, none⟩ = some (.slice a1 hd.length c1) := fun U => U.cell bu0
    have U21 : ∀ U : KW w4, U.1.cell? ⟨bU, 1, none⟩ = some (.slice a2 lp.length c2) := fun U => U.cell bu1
    have U30 : ∀ U : KW w4, U.1.cell? ⟨w.heap.size, 0, none⟩ = some (.int .i64 f0) := fun U => U.cell xx0
    have U31 : ∀ U : KW w4, U.1.cell? ⟨w.heap.size, 1, none⟩ = some (.int .i64 f1) := fun U => U.cell xx1
    have U32 : ∀ U : KW w4, U.1.cell? ⟨w.heap.size, 2, none⟩ = some (.slice fa fl fc) := fun U => U.cell xx2
    have U40 : ∀ U : KW w4, U.1.cell? ⟨w.heap.size + 1, 0, none⟩ = some (.slice ha1 hd.length hc1) := fun U => U.cell yy0
    have U41 : ∀ U : KW w4, U.1.cell? ⟨w.heap.size + 1, 1, none⟩ = some (.slice la1 lp.length lc1) := fun U => U.cell yy1
    have hk5 : ∀ U : KW w4, Kept (fun _ => False) W2 U.1 := fun U => K5.trans U.2 (fun _ _ f => f)
    obtain ⟨gz, hgz⟩ : ∃ z, goodW hd lp = z := ⟨_, rfl⟩
    obtain ⟨rz, hrz⟩ : ∃ z, atW hd lp n0 = z := ⟨_, rfl⟩
    have C29 : Hid (∀ U : KW w4, Calls Tryd.prog 29 #[.agg #[.slice a1 hd.length c1, .slice a2 lp.length c2]] U.1 fun e w' => Kept (fun _ => False) U.1 w' ∧ e = .returned (.bool gz)) := fun U => (good29 U.1 _ _ hd lp (HU.out.new (hk5 U)) (Nat.le_refl _)).mono fun e w' h => ⟨h.2, by rw [h.1, hgz]⟩
    have C30 : Hid (∀ U : KW w4, Calls Tryd.prog 30 #[.agg #[.slice ha1 hd.length hc1, .slice la1 lp.length lc1]] U.1 fun e w' => Kept (fun _ => False) U.1 w' ∧ e = .returned (.bool gz)) := fun U => (good30 U.1 B _ hd lp (HWR.out.kept (hk5 U) hB2) (Nat.le_trans hB2 (hk5 U).size)).mono fun e w' h => ⟨h.1, by rw [h.2, hgz]⟩
    have C31 : Hid (∀ U : KW w4, Calls Tryd.prog 31 #[.agg #[.slice a1 hd.length c1, .slice a2 lp.length c2], .int .i64 n0] U.1 fun e w' => Kept (fun _ => False) U.1 w' ∧ e = .returned (.int .i64 rz)) := fun U => (at31 U.1 _ _ hd lp n0 (HU.out.new (hk5 U)) (Nat.le_refl _) hn0).mono fun e w' h => ⟨h.1, by rw [h.2, hrz]⟩
    have C32 : Hid (∀ U : KW w4, Calls Tryd.prog 32 #[.agg #[.slice ha1 hd.length hc1, .slice la1 lp.length lc1], .int .i64 n0] U.1 fun e w' => Kept (fun _ => False) U.1 w' ∧ e = .returned (.int .i64 rz)) := fun U => at32 U.1 B _ hd lp n0 (HWR.out.kept (hk5 U) hB2) (Nat.le_trans hB2 (hk5 U).size) hn0.2 rz (by rw [atW_eq, hrz])
    have C33 : Hid (∀ U : KW w4, Calls Tryd.prog 33 #[.agg #[.int .i64 o1, .int .i64 m1, .slice p1 l1 d1], .agg #[.slice a1 hd.length c1, .slice a2 lp.length c2]] U.1 fun e w' => Kept (fun _ => False) U.1 w' ∧ e = .returned (.bool z)) := fun U => holds33z U.1 _ _ _ hd lp t z HZ1.out HZ2.out (HU.out.new (hk5 U)) (HA.out.new (hk5 U)) (Nat.le_refl _) (HT2.out.kept (hk5 U)) (Nat.le_trans h22 (hk5 U).size) (by omega)
    have C34 : Hid (∀ U : KW w4, Calls Tryd.prog 34 #[.agg #[.int .i64 f0, .int .i64 f1, .slice fa fl fc], .agg #[.slice ha1 hd.length hc1, .slice la1 lp.length lc1]] U.1 fun e w' => Kept (fun _ => False) U.1 w' ∧ e = .returned (.bool z)) := fun U => holds34 U.1 B _ _ t hd lp z (HFR.out.below ((hk5 U).below hB2 (fun _ f => f.elim))) (HWR.out.kept (hk5 U) hB2) (Nat.le_trans hB2 (hk5 U).size) hsz HZ1.out HZ2.out
    clear hgz hrz hu5 hk5 ba0 ba1 ba2 bu0 bu1 xx0 xx1 xx2 yy0 yy1
    refine wp_region_blk_kept (by kernel_rfl) (by kernel_rfl) ?_
    repeat (refine blk_step (fun K hK => ?_); go_simp; first | (refine hK _ ?_; clear hK K) | (apply Exists.intro; refine ⟨fun U => ?_, hK _ ?_⟩; (first | (go_at_call 29; exact Calls.quiet_kept (C29.out U)) | (go_at_call 30; exact Calls.quiet_kept (C30.out U)) | (go_at_call 31; exact Calls.quiet_kept (C31.out U)) | (go_at_call 32; exact Calls.quiet_kept (C32.out U)) | (go_at_call 33; exact Calls.quiet_kept (C33.out U)) | (go_at_call 34; exact Calls.quiet_kept (C34.out U))); clear hK K))
    refine blk_nil ?_
    intro w5 hw'
    have k5 : Kept (fun _ => False) w4 w5 := by
      obtain ⟨U, rfl⟩ := hw'
      exact U.2
    clear hw' U10 U11 U12 U20 U21 U30 U31 U32 U40 U41 C29 C30 C31 C32 C33 C34
    have k25 : Kept (fun _ => False) W2 w5 := K5.trans k5 (fun _ _ f => f)
    have K25 : Hid (Kept (fun _ => False) W2 w5) := k25
    clear K5 k4 k5 k25
    go_wp2
    go_loopw [6, 11] (fun _ v11 wr => v11 = .int .i64 0 ∧ wr = w5) (fun _ _ _ => 0)
    case atStart => exact ⟨rfl, rfl⟩
    case round =>
      obtain ⟨rfl, rfl⟩ := hrel
      have kr2 := K25.out
      have low : ∀ k : Nat, False → W2.heap.size ≤ k := fun _ f => f.elim
      obtain ⟨ba0r, ba1r, ba2r⟩ : Bx3 wr bA (.int .i64 o1) (.int .i64 m1) (.slice p1 l1 d1) := ⟨(kr2.cell (lt_of_cell BA.out.1) (fun f => f)).trans BA.out.1, (kr2.cell (lt_of_cell BA.out.2.1) (fun f => f)).trans BA.out.2.1, (kr2.cell (lt_of_cell BA.out.2.2) (fun f => f)).trans BA.out.2.2⟩
      obtain ⟨bu0r, bu1r⟩ : Bx wr bU (.slice a1 hd.length c1) (.slice a2 lp.length c2) := ⟨(kr2.cell (lt_of_cell BU.out.1) (fun f => f)).trans BU.out.1, (kr2.cell (lt_of_cell BU.out.2) (fun f => f)).trans BU.out.2⟩
      have HAr : Hid (FormV W2.heap.size wr (.agg #[.int .i64 o1, .int .i64 m1, .slice p1 l1 d1]) t) := HA.out.below (kr2.below (Nat.le_refl _) low)
      have HUr : Hid (WordV W2.heap.size wr (.agg #[.slice a1 hd.length c1, .slice a2 lp.length c2]) hd lp) := HU.out.below (kr2.below (Nat.le_refl _) low)
      have HTr : Hid (TabK wr) := HT2.out.kept kr2
      have hsr : W2.heap.size ≤ wr.heap.size := kr2.size
      clear kr2
      go_upto_region 14 with (go_at_call 27; refine (truths27b _ W2.heap.size _ _ hd lp t HUr.out HAr.out hsr HTr.out h22 (by omega) HGW.out).mono ?_; rintro e w6 ⟨k6, rfl⟩)
      have KR6 : Hid (Kept (fun _ => False) W2 w6) := K25.out.trans k6 (fun _ _ f => f)
      clear ba0r ba1r ba2r bu0r bu1r HAr HUr HTr hsr k6
      go_wp2
      go_loopw [6, 13] (fun _ v13 ws => v13 = .int .i64 0 ∧ ws = w6) (fun _ _ _ => 0)
      case atStart => exact ⟨rfl, rfl⟩
      case round =>
        obtain ⟨rfl, rfl⟩ := hrel
        have kr7 := KR6.out
        obtain ⟨ba0t, ba1t, ba2t⟩ : Bx3 wr bA (.int .i64 o1) (.int .i64 m1) (.slice p1 l1 d1) := ⟨(kr7.cell (lt_of_cell BA.out.1) (fun f => f)).trans BA.out.1, (kr7.cell (lt_of_cell BA.out.2.1) (fun f => f)).trans BA.out.2.1, (kr7.cell (lt_of_cell BA.out.2.2) (fun f => f)).trans BA.out.2.2⟩
        obtain ⟨bu0t, bu1t⟩ : Bx wr bU (.slice a1 hd.length c1) (.slice a2 lp.length c2) := ⟨(kr7.cell (lt_of_cell BU.out.1) (fun f => f)).trans BU.out.1, (kr7.cell (lt_of_cell BU.out.2) (fun f => f)).trans BU.out.2⟩
        obtain ⟨xx0t, xx1t, xx2t⟩ : Bx3 wr w.heap.size (.int .i64 f0) (.int .i64 f1) (.slice fa fl fc) := ⟨(kr7.cell (lt_of_cell X2.out.1) (fun f => f)).trans X2.out.1, (kr7.cell (lt_of_cell X2.out.2.1) (fun f => f)).trans X2.out.2.1, (kr7.cell (lt_of_cell X2.out.2.2) (fun f => f)).trans X2.out.2.2⟩
        obtain ⟨yy0t, yy1t⟩ : Bx wr (w.heap.size + 1) (.slice ha1 hd.length hc1) (.slice la1 lp.length lc1) := ⟨(kr7.cell (lt_of_cell Y2.out.1) (fun f => f)).trans Y2.out.1, (kr7.cell (lt_of_cell Y2.out.2) (fun f => f)).trans Y2.out.2⟩
        have HAt : Hid (FormV W2.heap.size wr (.agg #[.int .i64 o1, .int .i64 m1, .slice p1 l1 d1]) t) := HA.out.below (kr7.below (Nat.le_refl _) low)
        have HUt : Hid (WordV W2.heap.size wr (.agg #[.slice a1 hd.length c1, .slice a2 lp.length c2]) hd lp) := HU.out.below (kr7.below (Nat.le_refl _) low)
        have HRt : Hid (RV W2.heap.size wr (.agg #[.int .i64 f0, .int .i64 f1, .slice fa fl fc]) t) := (HFR.out.below (kr7.below hB2 (fun k e => Nat.le_trans hB2 (low k e)))).mono hB2
        have HWt : Hid (WordV B wr (.agg #[.slice ha1 hd.length hc1, .slice la1 lp.length lc1]) hd lp) := HWR.out.below (kr7.below hB2 (fun k e => Nat.le_trans hB2 (low k e)))
        have HTt : Hid (TabK wr) := HT2.out.kept kr7
        have hst : W2.heap.size ≤ wr.heap.size := kr7.size
        have KFt : Hid (Kept (fun _ => False) w wr) := KW2.out.trans kr7 (fun _ _ f => f)
        go_upto_region 20 with (go_at_call 13; refine (same13 1048576 t hsz (by omega) _ W2.heap.size _ _ HAt.out HRt.out hst).mono ?_; rintro e w9 ⟨k9, rfl⟩)
        have bu09 := (k9.cell (lt_of_cell bu0t) (fun f => f)).trans bu0t
        have bu19 := (k9.cell (lt_of_cell bu1t) (fun f => f)).trans bu1t
        have yy09 := (k9.cell (lt_of_cell yy0t) (fun f => f)).trans yy0t
        have yy19 := (k9.cell (lt_of_cell yy1t) (fun f => f)).trans yy1t
        have HU9 : Hid (WordV W2.heap.size w9 (.agg #[.slice a1 hd.length c1, .slice a2 lp.length c2]) hd lp) := HUt.out.kept k9 hst
        have HW9 : Hid (WordV B w9 (.agg #[.slice ha1 hd.length hc1, .slice la1 lp.length lc1]) hd lp) := HWt.out.kept k9 (Nat.le_trans hB2 hst)
        have hs9 := Nat.le_trans hst k9.size
        go_upto_region 21 with (go_at_call 35; refine (same35u _ W2.heap.size B _ _ hd lp HU9.out HW9.out hs9 (Nat.le_trans hB2 hs9)).mono ?_; rintro e w10 ⟨k10, rfl⟩)
        have k910 := k9.trans k10 (fun _ _ f => f)
        have hT10 := HTt.out.kept k910
        have h210 := Nat.le_trans (Nat.le_trans h22 hst) k910.size
        clear ba0t ba1t ba2t bu0t bu1t xx0t xx1t xx2t yy0t yy1t bu09 bu19 yy09 yy19
        go_wp2_with (go_at_call 36; refine (alive36 _ hT10 h210).mono ?_; rintro e w11 ⟨k11, rfl⟩)
        go_ret
        exact ⟨(KFt.out.trans k910 (fun _ _ f => f)).trans k11 (fun _ _ f => f), rfl⟩
end Go.Proofs.YtdbpdanocpfboaaDoor
