/- The walk of the law of what is left of a word. -/
import Derived.Test.YtdbpdanocpfboaaDoorVPre
import Derived.Test.YtdbpdanocpfboaaDoorVLeft
import Derived.Test.YtdbpdanocpfboaaDoorVOwn
namespace Go.Proofs.YtdbpdanocpfboaaDoor
open Go.RowKit

set_option maxRecDepth 100000 in
set_option maxHeartbeats 20000000 in
theorem law10 (w : World) (B : Nat) (fv wv : Value) (t : Tr) (hd lp : List Int) (hf : RV B w fv t) (hw : WordV B w wv hd lp) (hB : B ≤ w.heap.size) (hT : TabK w) (h2 : 2 ≤ w.heap.size) (hsz : t.size ≤ 1048576) :
    Calls Tryd.prog 10 #[fv, wv] w fun e w' => Kept (fun _ => False) w w' ∧ e = .returned (.bool true) := by
  obtain ⟨hv1, lv1, rfl, h1, h3⟩ := id hw
  obtain ⟨ha1, hc1, rfl, hl1⟩ := h1.form
  obtain ⟨la1, lc1, rfl, hl2⟩ := h3.form
  obtain ⟨f0, f1, f2, rfl⟩ : ∃ f0 f1 f2, fv = .agg #[.int .i64 f0, .int .i64 f1, f2] := by
    obtain ⟨op, n, kids⟩ := t
    obtain ⟨_, _, _, _, e, _⟩ := hf
    exact ⟨_, _, _, e⟩
  obtain ⟨fa, fl, fc, rfl⟩ : ∃ fa fl fc, f2 = .slice fa fl fc := by
    obtain ⟨op, n, kids⟩ := t
    obtain ⟨ka, _, _, kc, e, _⟩ := hf
    simp only [Value.agg.injEq, Array.mk.injEq, List.cons.injEq, and_true] at e
    exact ⟨_, _, _, e.2.2⟩
  obtain ⟨W0, hW0⟩ : ∃ W0, W0 = ((w.alloc (.cells #[.int .i64 f0, .int .i64 f1, .slice fa fl fc] 30)).alloc (.cells #[.slice ha1 hd.length hc1, .slice la1 lp.length lc1] 48)) := ⟨_, rfl⟩
  have k0 : Kept (fun _ => False) w W0 := by rw [hW0]; exact ((Kept.refl _ _).alloc _).alloc _
  have f0' : Bx3 W0 w.heap.size (.int .i64 f0) (.int .i64 f1) (.slice fa fl fc) := by
    rw [hW0]
    exact ⟨by rw [World.cell?_alloc_past (hn := by simp), World.cell?_alloc_at (hn := rfl)]; rfl, by rw [World.cell?_alloc_past (hn := by simp), World.cell?_alloc_at (hn := rfl)]; rfl, by rw [World.cell?_alloc_past (hn := by simp), World.cell?_alloc_at (hn := rfl)]; rfl⟩
  have y0 : Bx W0 (w.heap.size + 1) (.slice ha1 hd.length hc1) (.slice la1 lp.length lc1) := by rw [hW0]; exact ⟨by rw [World.cell?_alloc_at (hn := by simp)]; rfl, by rw [World.cell?_alloc_at (hn := by simp)]; rfl⟩
  have HF : Hid (RV B w (.agg #[.int .i64 f0, .int .i64 f1, .slice fa fl fc]) t) := hf
  have HW : Hid (WordV B w (.agg #[.slice ha1 hd.length hc1, .slice la1 lp.length lc1]) hd lp) := hw
  clear hf hw h1 h3
  have HF0 : Hid (RV B W0 (.agg #[.int .i64 f0, .int .i64 f1, .slice fa fl fc]) t) := HF.out.below (k0.below hB (fun _ f => f.elim))
  have HW0 : Hid (WordV B W0 (.agg #[.slice ha1 hd.length hc1, .slice la1 lp.length lc1]) hd lp) := HW.out.kept k0 hB
  have hB0 : B ≤ W0.heap.size := Nat.le_trans hB k0.size
  obtain ⟨g0, g1, g2⟩ := id f0'
  obtain ⟨y00, y01⟩ := id y0
  go_enter Tryd.func10, Tryd.ntmps10
  go_upto_region 1 with fail
  rw [← hW0]
  clear hW0
  cases hwb : wellB t with
  | false =>
    have HWB : Hid (wellB t = false) := hwb
    clear hwb
    go_upto_region 2 with (go_at_call 24; refine (well24 1048576 t hsz _ B _ HF0.out hB0 (by omega)).mono ?_; rintro e w1 ⟨k1, rfl⟩; rw [HWB.out])
    have kw1 := k0.trans k1 (fun _ _ f => f)
    have hT1 := hT.kept kw1
    have h21 := Nat.le_trans h2 kw1.size
    clear g0 g1 g2 y00 y01
    go_wp2_with (go_at_call 36; refine (alive36 _ hT1 h21).mono ?_; rintro e w2 ⟨k2, rfl⟩)
    go_ret
    exact ⟨kw1.trans k2 (fun _ _ f => f), rfl⟩
  | true =>
    have HWB : Hid (wellB t = true) := hwb
    have htw : t.well := (wellB_iff t).1 hwb
    clear hwb
    cases hg : goodW hd lp with
    | false =>
      have HG : Hid _ := hg
      clear hg
      go_upto_region 2 with (first
        | (go_at_call 24; refine (well24 1048576 t hsz _ B _ HF0.out hB0 (by omega)).mono ?_; rintro e w1 ⟨k1, rfl⟩; have z0 := (k1.cell (lt_of_cell y00) (fun f => f)).trans y00; have z1 := (k1.cell (lt_of_cell y01) (fun f => f)).trans y01; have G1 := HW0.out.kept k1 hB0; rw [HWB.out])
        | (go_at_call 30; refine (good30 _ B _ hd lp G1 (Nat.le_trans hB0 k1.size)).mono ?_; rintro e w2 ⟨k2, rfl⟩; rw [HG.out]))
      have kw2 := (k0.trans k1 (fun _ _ f => f)).trans k2 (fun _ _ f => f)
      have hT2 := hT.kept kw2
      have h22 := Nat.le_trans h2 kw2.size
      clear g0 g1 g2 y00 y01 z0 z1
      go_wp2_with (go_at_call 36; refine (alive36 _ hT2 h22).mono ?_; rintro e w3 ⟨k3, rfl⟩)
      go_ret
      exact ⟨kw2.trans k3 (fun _ _ f => f), rfl⟩
    | true =>
      have HG : Hid _ := hg
      have hlen := goodW_len hg
      clear hg
      go_upto_region 3 with (first
        | (go_at_call 24; refine (well24 1048576 t hsz _ B _ HF0.out hB0 (by omega)).mono ?_; rintro e w1 ⟨k1, rfl⟩; have z0 := (k1.cell (lt_of_cell y00) (fun f => f)).trans y00; have z1 := (k1.cell (lt_of_cell y01) (fun f => f)).trans y01; have G1 := HW0.out.kept k1 hB0; rw [HWB.out])
        | (go_at_call 30; refine (good30 _ B _ hd lp G1 (Nat.le_trans hB0 k1.size)).mono ?_; rintro e w2 ⟨k2, rfl⟩; rw [HG.out]))
      have kw2 := (k0.trans k1 (fun _ _ f => f)).trans k2 (fun _ _ f => f)
      have k02 := k1.trans k2 (fun _ _ f => f)
      have fb2 := f0'.kept k02
      have HW2 : Hid (WordV B w2 (.agg #[.slice ha1 hd.length hc1, .slice la1 lp.length lc1]) hd lp) := HW.out.kept kw2 hB
      have hB2 := Nat.le_trans hB kw2.size
      obtain ⟨y20, y21⟩ := y0.kept k02 (fun f => f)
      clear g0 g1 g2 y00 y01 z0 z1 G1 f0' y0 HF0 HW0 hB0 k1 k2 k02 k0
      go_upto_region 4 with (go_at_call 26; refine (given26 _ B _ hd lp HW2.out hB2).mono ?_; rintro e w3 ⟨a1, c1, a2, c2, rfl, n1, n2, ap1⟩; have k3 := n1.1)
      obtain ⟨W3, hW3⟩ : ∃ W3, W3 = w3.alloc (.cells #[.slice a1 hd.length c1, .slice a2 lp.length c2] 49) := ⟨_, rfl⟩
      have q3 : Kept (fun _ => False) w3 W3 := by rw [hW3]; exact (Kept.refl _ _).alloc _
      have x3 : Bx W3 w3.heap.size (.slice a1 hd.length c1) (.slice a2 lp.length c2) := by rw [hW3]; exact Bx.new w3 _ _ 49
      have HX3 : Hid (WordV W3.heap.size W3 (.agg #[.slice a1 hd.length c1, .slice a2 lp.length c2]) hd lp) := WordV.new ⟨_, _, rfl, n1.ints hl1, n2.ints hl2⟩ q3
      rw [← hW3]
      clear hW3
      have k23 := k3.trans q3 (fun _ _ f => f)
      have kw3 := kw2.trans k23 (fun _ _ f => f)
      have fb3 := fb2.kept k23
      have y3 := Bx.kept ⟨y20, y21⟩ k23 (fun f => f)
      have HF3 : Hid (RV B W3 (.agg #[.int .i64 f0, .int .i64 f1, .slice fa fl fc]) t) := HF.out.below (kw3.below hB (fun _ f => f.elim))
      have hB3 := Nat.le_trans hB kw3.size
      have hT3 := hT.kept kw3
      have h23 := Nat.le_trans h2 kw3.size
      have HT3 : Hid (TabK W3) := hT3
      clear y20 y21 fb2 HW2 hB2 n1 n2 ap1 k3 q3 k23 kw2 hT3
      obtain ⟨p0, p1, p2⟩ := id fb3
      obtain ⟨x30, x31⟩ := id x3
      go_cut [6] (fun v6 wc => ∃ b n, v6 = .slice (some ⟨b, 0, none⟩) n n ∧ n = hd.length + lp.length ∧ Kept (fun _ => False) W3 wc ∧ ∀ i, i < n → wc.cell? ⟨b, i, none⟩ = some (.bool ((tvT (hd ++ lp) hd.length t).getD i false)))
      case first =>
        go_region_with (first
          | (go_at_call 19; refine (given19 1048576 t hsz (by omega) _ B _ ?_ ?_).mono ?_; (exact HF3.out.below ((Kept.drew (Kept.refl (fun _ => False) _)).below hB3 (fun _ f => f.elim))); (exact hB3); rintro e wA ⟨v', rfl, kA, hFA⟩; obtain ⟨oA, nA, aA, lA, cA, rfl⟩ := hFA.agg; have kA3 : Kept (fun _ => False) W3 wA := Kept.trans (Kept.drew (Kept.refl _ _)) kA (fun _ _ f => f); have xA0 := (kA3.cell (lt_of_cell x30) (fun f => f)).trans x30; have xA1 := (kA3.cell (lt_of_cell x31) (fun f => f)).trans x31; have hFV := hFA.form (B := wA.heap.size) (fun b hb => hb.2))
          | (go_at_call 27; refine (truths27g _ wA.heap.size _ _ hd lp t ?_ hFV (Nat.le_refl _) ?_ ?_ (by omega) HG.out htw).mono ?_; (exact HX3.out.new kA3); (exact HT3.out.kept kA3); (exact Nat.le_trans h23 kA3.size); rintro e wB ⟨b, n, rfl, hn, kB, hcells⟩))
        all_goals
          go_wp2_with fail
          go_meet
          case rel => exact ⟨b, n, by rw [hn], hn, kA3.trans kB (fun _ _ f => f), hcells⟩
      case rest =>
        obtain ⟨b, n, rfl, hn, kc3, hcells⟩ := hcut
        have HC : Hid (∀ i, i < n → wc.cell? ⟨b, i, none⟩ = some (.bool ((tvT (hd ++ lp) hd.length t).getD i false))) := hcells
        clear hcells p0 p1 p2 x30 x31
        have kw4 := kw3.trans kc3 (fun _ _ f => f)
        have fb4 := fb3.kept kc3
        have y4 := y3.kept kc3 (fun f => f)
        obtain ⟨y40, y41⟩ := id y4
        have HW4 : Hid (WordV B wc (.agg #[.slice ha1 hd.length hc1, .slice la1 lp.length lc1]) hd lp) := HW.out.kept kw4 hB
        have hnn : ((n : Int) != ((hd.length + lp.length : Nat) : Int)) = false := by simp [hn]
        have hnn2 : ((n : Int) != (hd.length : Int) + (lp.length : Int)) = false := by simp [hn]
        go_upto_region 7 with (go_at_call 44; refine (places44 _ B _ hd lp HW4.out).mono ?_; rintro e w5 ⟨k5, rfl⟩)
        have kw5 := kw4.trans k5 (fun _ _ f => f)
        have fb5 := fb4.kept k5
        have y5 := y4.kept k5 (fun f => f)
        have HC5 : Hid (∀ i, i < n → w5.cell? ⟨b, i, none⟩ = some (.bool ((tvT (hd ++ lp) hd.length t).getD i false))) := fun i hi => (k5.cell (lt_of_cell (HC.out i hi)) (fun f => f)).trans (HC.out i hi)
        clear HC fb4 y4 y40 y41 HW4 hnn hnn2 kc3 fb3 y3 x3 HX3 HF3 HT3 kw4
        have FB5 : Hid (Bx3 w5 w.heap.size (.int .i64 f0) (.int .i64 f1) (.slice fa fl fc)) := fb5
        have Y5 : Hid (Bx w5 (w.heap.size + 1) (.slice ha1 hd.length hc1) (.slice la1 lp.length lc1)) := y5
        have KW5 : Hid (Kept (fun _ => False) w w5) := kw5
        have HN : Hid (n = hd.length + lp.length) := hn
        subst hn
        clear fb5 y5 kw5
        go_wp2
        go_loopw [4, 7, 8] (fun v4 v7 _ wr => ∃ i : Nat, i ≤ hd.length + lp.length ∧ v7 = .int .i64 (i : Int) ∧ Kept (fun _ => False) w5 wr) (fun _ v7 _ _ => hd.length + lp.length - (intOf v7).toNat)
        case atStart => exact ⟨0, Nat.zero_le _, rfl, Kept.refl _ _⟩
        case round =>
          obtain ⟨i, hi, rfl, hkr⟩ := hrel
          by_cases hlt : i < hd.length + lp.length
          · have hlti : (i : Int) < (hd.length : Int) + (lp.length : Int) := by omega
            go_upto_region 11 with fail
            obtain ⟨W6, hW6⟩ : ∃ W6, W6 = wr.alloc (.cells #[.slice none 0 0, .slice none 0 0] 49) := ⟨_, rfl⟩
            rw [← hW6]
            have k6 : Kept (fun _ => False) wr W6 := by rw [hW6]; exact (Kept.refl _ _).alloc _
            have kr6 := hkr.trans k6 (fun _ _ f => f)
            have KW6 : Hid (Kept (fun _ => False) w W6) := KW5.out.trans kr6 (fun _ _ f => f)
            have b6 : Box2 W6 wr.heap.size (.slice none 0 0) (.slice none 0 0) := by rw [hW6]; exact ⟨by simp, by simp, by simp, by simp, by simp⟩
            obtain ⟨_, b60, b61, b62, b63⟩ := id b6
            have hl6 : wr.heap.size < W6.heap.size := b6.1
            have HB6 : Hid (Box2 W6 wr.heap.size (.slice none 0 0) (.slice none 0 0)) := b6
            obtain ⟨y60, y61⟩ := Y5.out.kept kr6 (fun f => f)
            have HW6 : Hid (WordV B W6 (.agg #[.slice ha1 hd.length hc1, .slice la1 lp.length lc1]) hd lp) := HW.out.kept KW6.out hB
            have hsy : w.heap.size + 1 < wr.heap.size := Nat.lt_of_lt_of_le (lt_of_cell Y5.out.1) hkr.size
            have hB6 : B ≤ W6.heap.size := Nat.le_trans hB KW6.out.size
            have HB' : Hid (B ≤ wr.heap.size) := Nat.le_trans hB (KW5.out.trans hkr (fun _ _ f => f)).size
            clear hW6 b6
            go_upto_if 39 with fail
            go_cut [8] from 29 to 86 (fun v8 wc2 => v8 = .pointer (some ⟨wr.heap.size, 0, none⟩) ∧ Kept (fun _ => False) wr wc2 ∧ ∃ hd' lp' a c a' c', goodW hd' lp' = true ∧ (∀ m, wAt hd' lp' m = wAt hd lp (i + m)) ∧ Bx wc2 wr.heap.size (.slice a hd'.length c) (.slice a' lp'.length c') ∧ WordV wc2.heap.size wc2 (.agg #[.slice a hd'.length c, .slice a' lp'.length c']) hd' lp')
            case first =>
              by_cases hih : i < hd.length
              · have hihi : (i : Int) < (hd.length : Int) := by omega
                obtain ⟨hv', lv', e', g1, g3⟩ := HW6.out
                cases e'
                obtain ⟨_, _, e1, hcap, _, cells1⟩ := id g1
                cases e1
                obtain ⟨hb, ho, rfl, _⟩ := cells1 0 (hd[0]'(by omega)) (List.getElem?_eq_getElem (by omega))
                have hne : ¬ hc1 = i := by omega
                have hile : i ≤ hd.length := by omega
                have hilei : (i : Int) ≤ (hd.length : Int) := by omega
                have hcapi : (hd.length : Int) ≤ (hc1 : Int) := by omega
                have hic : i ≤ hc1 := by omega
                have hici : (i : Int) ≤ (hc1 : Int) := by omega
                have HAP : Hid (∀ W, Kept (fun _ => False) W6 W → IntsV B W (.slice (some ⟨hb, ho + i, none⟩) (hd.length - i) (hc1 - i)) (hd.drop i)) := fun W hk => by
                  have := (g1.kept hk hB6).dropI i hile
                  rwa [if_neg hne] at this
                have L1 : Hid ((hd.drop i).length = hd.length - i) := List.length_drop
                have G3 : Hid (IntsV B W6 (.slice la1 lp.length lc1) lp) := g3
                clear g1 g3 cells1
                go_upto_region 12 with fail
                go_cut [8] from 29 to 86 (fun v8 wd => v8 = .pointer (some ⟨wr.heap.size, 0, none⟩) ∧ ∃ aA cA, Box2 wd wr.heap.size (.slice aA (hd.length - i) cA) (.slice none 0 0) ∧ NewS wr wd aA cA (hd.drop i) ∧ ∀ b o, aA = some ⟨b, o, none⟩ → wr.heap.size < b)
                case first =>
                  go_region_law (refine step_append_nil (B := B) (ys := hd.drop i) (v := .slice (some ⟨hb, ho + i, none⟩) (hd.length - i) (hc1 - i)) (hd.length - i) L1.out rfl (.tmp 41) (.tmp 45) 46 46 Tryd.underlying46 Tryd.underlying46 rfl (by simp [Act.eval, Act.put]) (by simp [Act.eval, Act.put]) (HAP.out _ ((Kept.refl _ _).drew)) (fun aA cA wA hNA => ?_); have kA : Kept (fun _ => False) W6 wA := Kept.trans (Kept.drew (Kept.refl _ _)) hNA.1 (fun _ _ f => f); obtain ⟨_, rA0, rA1, fA0, fA1⟩ := HB6.out.kept kA)
                  all_goals
                    go_wp2_with fail
                    go_meet
                    case rel =>
                      have hA : ∀ b o, aA = some ⟨b, o, none⟩ → wr.heap.size < b := fun b o e => Nat.lt_of_lt_of_le hl6 (hNA.blk e).1
                      refine ⟨rfl, aA, cA, ⟨?_, ?_, ?_, ?_, ?_⟩, ?_, hA⟩
                      · exact Nat.lt_of_lt_of_le hl6 (Nat.le_trans kA.size (by simp [World.setCell]))
                      · simp [go_sem, rA0]
                      · simp [go_sem, rA1]
                      · simp [go_sem, fA0]
                      · simp [go_sem, fA1]
                      · exact (hNA.rebase (Kept.drew k6)).set (fun b o e => by have := hA b o e; simp only; omega) (by simp) _
                case rest =>
                  obtain ⟨rfl, aA, cA, bx, NA, hA⟩ := hcut
                  obtain ⟨hlx, r0, r1, f0, f1⟩ := bx
                  have kd5 := hkr.trans NA.1 (fun _ _ f => f)
                  obtain ⟨y0, y1⟩ := Y5.out.kept kd5 (fun f => f)
                  have kwd := KW5.out.trans kd5 (fun _ _ f => f)
                  obtain ⟨hv', lv', e', g1, g3⟩ := HW.out.kept kwd hB
                  cases e'
                  obtain ⟨a2, c2, w8, run2, N2⟩ := append_nil_ints (t := 46) (tx := 46) Tryd.underlying46 Tryd.underlying46 g3
                  have k8 := N2.1
                  have HR2 : Hid (∀ (ty : TypeId), (Builtin.append_ #[46, 46] ty #[.slice none 0 0, .slice la1 lp.length lc1]).run Tryd.prog wc = .ok (.slice a2 lp.length c2) w8) := run2
                  have r08 := (k8.cell (lt_of_cell r0) (fun f => f)).trans r0
                  have r18 := (k8.cell (lt_of_cell r1) (fun f => f)).trans r1
                  have f08 := (k8.frozen (p := ⟨wr.heap.size, 0, none⟩) hlx (fun f => f)).trans f0
                  have f18 := (k8.frozen (p := ⟨wr.heap.size, 1, none⟩) hlx (fun f => f)).trans f1
                  have HNA : Hid (NewS wr wc aA cA (hd.drop i)) := NA
                  have HN2 : Hid (NewS wc w8 a2 c2 lp) := N2
                  have HA : Hid (∀ b o, aA = some ⟨b, o, none⟩ → wr.heap.size < b) := hA
                  clear run2 g1 g3 NA N2 hA
                  go_wp2_with (at_builtin; refine wpList_append_run rfl _ _ 46 46 rfl (.slice none 0 0) (.slice la1 lp.length lc1) rfl rfl HR2.out ?_)
                  go_meet
                  case rel =>
                    have hl' : (hd.drop i).length ≤ 17592186044416 := by rw [L1.out]; omega
                    have n1 := ((HNA.out.kept k8).set (p := ⟨wr.heap.size, 1, none⟩) (fun b o e => by have := HA.out b o e; simp only; omega) (by simp) (.slice a2 lp.length c2)).ints hl'
                    have n2 := (HN2.out.rebase HNA.out.1).set (p := ⟨wr.heap.size, 1, none⟩) (fun b o e => by have := (HN2.out.blk e).1; simp only; omega) (by simp) (.slice a2 lp.length c2)
                    refine ⟨rfl, n2.1, hd.drop i, lp, aA, cA, a2, c2, good_drop HG.out i, fun m => wAt_drop hd lp i m hile, ⟨?_, ?_⟩, ⟨_, _, rfl, n1, n2.ints hl2⟩⟩
                    · rw [L1.out]; simp [go_sem, r08]
                    · simp [go_sem, r18]
              · have hihi : ¬ (i : Int) < (hd.length : Int) := by omega
                obtain ⟨hv', lv', e', g1, g3⟩ := HW6.out
                cases e'
                obtain ⟨_, _, e1, hcap, _, cells1⟩ := id g3
                cases e1
                obtain ⟨lb, lo, rfl, _⟩ := cells1 0 (lp[0]'(by omega)) (List.getElem?_eq_getElem (by omega))
                obtain ⟨k, hk⟩ : ∃ k, i = hd.length + k := ⟨i - hd.length, by omega⟩
                have hkl : k < lp.length := by omega
                have hki : ((i : Int) - (hd.length : Int)) = (k : Int) := by omega
                have hkw : IntKind.i64.wrap (k : Int) = (k : Int) := wrapI _ (by omega)
                have hkle : k ≤ lp.length := by omega
                have hklei : (k : Int) ≤ (lp.length : Int) := by omega
                have hcapi : (lp.length : Int) ≤ (lc1 : Int) := by omega
                have hkc : k ≤ lc1 := by omega
                have hkci : (k : Int) ≤ (lc1 : Int) := by omega
                have hne : ¬ lc1 = k := by omega
                have HK : Hid (i = hd.length + k) := hk
                have HD : Hid (∀ W, Kept (fun _ => False) W6 W → IntsV B W (.slice (some ⟨lb, lo + k, none⟩) (lp.length - k) (lc1 - k)) (lp.drop k)) := fun W hk => by
                  have := (g3.kept hk hB6).dropI k hkle
                  rwa [if_neg hne] at this
                have HTK : Hid (∀ W, Kept (fun _ => False) W6 W → IntsV B W (.slice (some ⟨lb, lo, none⟩) k lc1) (lp.take k)) := fun W hk => (g3.kept hk hB6).take k hkle
                have L1 : Hid ((lp.drop k).length = lp.length - k) := List.length_drop
                have L2 : Hid ((lp.take k).length = k) := by rw [Hid, List.length_take]; omega
                have hm0 : 0 < 0 + (lp.length - k) := by omega
                have hm4 : 0 + (lp.length - k) ≤ 40000 := by omega
                clear g1 g3 cells1 hk
                go_upto_region 14 with fail
                go_cut [8] from 29 to 86 (fun v8 wd => v8 = .pointer (some ⟨wr.heap.size, 0, none⟩) ∧ ∃ gA cA, Box2 wd wr.heap.size (.slice none 0 0) (.slice (some ⟨gA, 0, none⟩) (lp.length - k) cA) ∧ Kept (fun _ => False) wr wd ∧ wd.ownsRow W6.heap.size 3 1 (.slice (some ⟨gA, 0, none⟩) (lp.length - k) cA) (lp.length - k) ((lp.drop k).map (Value.int .i64)))
                case first =>
                  go_region_law (refine step_append_iown (B := B) (xs := []) (ys := lp.drop k) (v := .slice none 0 0) W6.heap.size 0 (lp.length - k) L1.out hm0 hm4 rfl (.tmp 55) (.tmp 63) rfl (by simp [Act.eval, Act.put]) (by simp [Act.eval, Act.put]) ⟨_, rfl⟩ ⟨rfl, .inl ⟨rfl, rfl⟩⟩ (HD.out _ ((Kept.refl _ _).drew)) (Nat.le_refl _) (fun gA cA wA own1 gr1 hgA => ?_); have kA : Kept (fun _ => False) W6 wA := Kept.grown (Kept.drew (Kept.refl _ _)) gr1 (fun q h1 h2 => by cases h2); obtain ⟨_, rA0, rA1, fA0, fA1⟩ := HB6.out.kept kA)
                  all_goals
                    go_wp2_with fail
                    go_meet
                    case rel =>
                      refine ⟨rfl, gA, cA, ⟨?_, ?_, ?_, ?_, ?_⟩, ?_, ?_⟩
                      · exact Nat.lt_of_lt_of_le hl6 (Nat.le_trans kA.size (by simp [World.setCell]))
                      · simp [go_sem, rA0]
                      · simp [go_sem, rA1]
                      · simp [go_sem, fA0]
                      · simp [go_sem, fA1]
                      · exact (k6.trans kA (fun _ _ f => f)).setCell (fun hh => absurd hh (by simp)) _
                      · have own1' : wA.ownsRow W6.heap.size 3 1 (.slice (some ⟨gA, 0, none⟩) (lp.length - k) cA) (lp.length - k) ((lp.drop k).map (Value.int .i64)) := by simpa using own1
                        exact ownsRow_of_block own1' (fun q hq => Below.heap_setCell _ _ _ _ (fun e => by cases hq; simp only at e; omega))
                case rest =>
                  obtain ⟨rfl, gA, cA, bx, kd, own1⟩ := hcut
                  obtain ⟨hlx, r0, r1, f0, f1⟩ := bx
                  have kd5 := hkr.trans kd (fun _ _ f => f)
                  obtain ⟨y0, y1⟩ := Y5.out.kept kd5 (fun f => f)
                  have hgA := (ownsRow_lt own1 (k := gA) rfl).2
                  have OWN : Hid (wc.ownsRow W6.heap.size 3 1 (.slice (some ⟨gA, 0, none⟩) (lp.length - k) cA) (lp.length - k) ((lp.drop k).map (Value.int .i64))) := own1
                  have hbs : W6.heap.size ≤ wc.heap.size := Nat.le_trans hgA (Nat.le_of_lt (ownsRow_lt own1 (k := gA) rfl).1)
                  have HTK2 : Hid (IntsV B wc (.slice (some ⟨lb, lo, none⟩) k lc1) (lp.take k)) := by
                    obtain ⟨hv', lv', e', g1, g3⟩ := HW.out.kept (KW5.out.trans kd5 (fun _ _ f => f)) hB
                    cases e'
                    exact g3.take k hkle
                  have hm1 : 0 < lp.length - k + k := by omega
                  have hm5 : lp.length - k + k ≤ 40000 := by omega
                  have LB : Hid (lp.length - k + k = lp.length) := by rw [Hid]; omega
                  have KD : Hid (Kept (fun _ => False) wr wc) := kd
                  clear own1 kd
                  go_upto_region 15 with fail
                  go_region_law (refine step_append_iown (B := B) (xs := lp.drop k) (ys := lp.take k) (v := .slice (some ⟨gA, 0, none⟩) (lp.length - k) cA) W6.heap.size (lp.length - k) k L2.out hm1 hm5 rfl (.tmp 67) (.tmp 75) rfl (by simp [Act.eval, Act.put]) (by simp [Act.eval, Act.put]) ⟨_, rfl⟩ (ownsRow_of_block OWN.out (fun _ _ => rfl)) (HTK2.out.below ((Below.refl _ _).drew)) hbs (fun gB cB wB own2 gr2 hgB => ?_); have kB : Kept (fun q => q = gA) wc wB := Kept.grown (Kept.drew (Kept.refl _ _)) gr2 (fun q h1 h2 => by cases h2; rfl); have rB0 := (kB.cell (lt_of_cell r0) (fun e => by simp only at e; omega)).trans r0; have rB1 := (kB.cell (lt_of_cell r1) (fun e => by simp only at e; omega)).trans r1; have fB0 := (kB.frozen (p := ⟨wr.heap.size, 0, none⟩) hlx (fun e => by simp only at e; omega)).trans f0; have fB1 := (kB.frozen (p := ⟨wr.heap.size, 1, none⟩) hlx (fun e => by simp only at e; omega)).trans f1)
                  all_goals
                    go_wp2_with fail
                    go_meet
                    case rel =>
                      have kwB : Kept (fun _ => False) wr wB := KD.out.drew.grown gr2 (fun q h1 h2 => by exact absurd (show q = gA by cases h2; rfl) (by omega))
                      have own3 : wB.ownsRow W6.heap.size 3 1 (.slice (some ⟨gB, 0, none⟩) lp.length cB) lp.length ((lp.drop k ++ lp.take k).map (Value.int .i64)) := by
                        have := own2
                        rwa [LB.out] at this
                      have iB := ((own_ints own3 (by omega)).set (p := ⟨wr.heap.size, 1, none⟩) (fun b hb => by cases hb; simp only; omega) (.slice (some ⟨gB, 0, none⟩) lp.length cB)).mono (B' := (wB.setCell ⟨wr.heap.size, 1, none⟩ (.slice (some ⟨gB, 0, none⟩) lp.length cB)).heap.size) (by simp [World.setCell])
                      have hL' : (lp.drop k ++ lp.take k).length = lp.length := by rw [List.length_append, L1.out, L2.out, LB.out]
                      refine ⟨rfl, kwB.setCell (fun hh => absurd hh (by simp)) _, [], lp.drop k ++ lp.take k, none, 0, some ⟨gB, 0, none⟩, cB, good_turn HG.out k, fun m => by rw [wAt_turn hd lp k m hkl, HK.out], ⟨?_, ?_⟩, ⟨_, _, rfl, ⟨none, 0, rfl, Nat.zero_le _, Nat.zero_le _, fun i x hx => by simp at hx⟩, ?_⟩⟩
                      · simp [go_sem, rB0]
                      · rw [hL']; simp [go_sem, rB1]
                      · rw [hL']; exact iB
            case rest =>
              obtain ⟨rfl, kc6, hd', lp', a', c', a'', c'', hg', hw', bx', HWd⟩ := hcut
              have kc5 := hkr.trans kc6 (fun _ _ f => f)
              have kwc := KW5.out.trans kc5 (fun _ _ f => f)
              have hlen' := goodW_len hg'
              obtain ⟨bv, hbv⟩ : ∃ bv, (tvT (hd ++ lp) hd.length t).getD i false = bv := ⟨_, rfl⟩
              have HZ : Hid ((tvT (hd' ++ lp') hd'.length t).headD false = bv) := by rw [Hid, ← hbv]; exact head_left htw hlen.2 hlen'.2 hlt hw'
              have fbc := FB5.out.kept kc5
              have cc : wc.cell? ⟨b, i, none⟩ = some (.bool bv) := by rw [← hbv]; exact (kc5.cell (lt_of_cell (HC5.out i hlt)) (fun f => f)).trans (HC5.out i hlt)
              have HRc : Hid (RV B wc (.agg #[.int .i64 f0, .int .i64 f1, .slice fa fl fc]) t) := HF.out.below (kwc.below hB (fun _ f => f.elim))
              have hBc : B ≤ wc.heap.size := Nat.le_trans hB kwc.size
              have HTc : Hid (TabK wc) := hT.kept kwc
              have h2c := Nat.le_trans h2 kwc.size
              clear hbv hw'
              go_upto_region 16 with fail
              refine wp_region_spec [78, 79, 80, 81, 82, 83, 84, 85, 86] [.val (.agg #[.int .i64 f0, .int .i64 f1, .slice fa fl fc]), .form t, .val (.agg #[.slice a' hd'.length c', .slice a'' lp'.length c'']), .val (.bool bv), .val (.slice (some ⟨b, 0, none⟩) (hd.length + lp.length) (hd.length + lp.length)), .val (.int .i64 (i : Int)), .val (.pointer (some ⟨b, i, none⟩)), .val (.bool bv), .val (.bool false)] (by kernel_rfl) rfl (by decide) rfl rfl (by kernel_rfl) ⟨?_, ?_, ?_, ?_, ?_, ?_, ?_, ?_, ?_, trivial⟩ ?_
              · intro a W hk hs hdp K hK
                have e : a.eval (.tmp 2) = .pointer (some ⟨w.heap.size, 0, none⟩) := hs 2 (by decide)
                obtain ⟨c0, c1, c2⟩ := fbc.kept hk
                refine wp_value ?_ (hK _ W (Kept.refl _ _) rfl)
                revert e; generalize a.eval = ρ; intro e
                simp [execOp, go_sem, e, c0, c1, c2]
              · intro a W hk hs hdp K hK
                have e : a.eval (.tmp 78) = .agg #[.int .i64 f0, .int .i64 f1, .slice fa fl fc] := hdp ⟨0, .data⟩ (by simp) rfl 78 rfl
                have hf : a.eval (.func 19) = .func (.func 19) #[] #[] := rfl
                refine wp_enter (args := #[.agg #[.int .i64 f0, .int .i64 f1, .slice fa fl fc]]) (W' := W) (f := 19) ?_ (given19 1048576 t hsz (by omega) W B _ (HRc.out.below (hk.below hBc (fun _ f => f.elim))) (Nat.le_trans hBc hk.size)) ?_
                · revert e hf; generalize a.eval = ρ; intro e hf
                  simp [execOp, go_sem, e, hf]
                · rintro e' w' ⟨v', rfl, k', hF⟩
                  exact ⟨v', rfl, hK v' w' k' (hF.form (fun b hb => hb.2))⟩
              · intro a W hk hs hdp K hK
                have e : a.eval (.tmp 8) = .pointer (some ⟨wr.heap.size, 0, none⟩) := hs 8 (by decide)
                obtain ⟨c0, c1⟩ := bx'.kept hk (fun f => f)
                refine wp_value ?_ (hK _ W (Kept.refl _ _) rfl)
                revert e; generalize a.eval = ρ; intro e
                simp [execOp, go_sem, e, c0, c1]
              · intro a W hk hs hdp K hK
                have e : FormV W.heap.size W (a.eval (.tmp 79)) t := hdp ⟨1, .data⟩ (by simp) rfl 79 rfl
                have e2 : a.eval (.tmp 80) = .agg #[.slice a' hd'.length c', .slice a'' lp'.length c''] := hdp ⟨2, .data⟩ (by simp) rfl 80 rfl
                have hf : a.eval (.func 33) = .func (.func 33) #[] #[] := rfl
                refine wp_enter (args := #[a.eval (.tmp 79), .agg #[.slice a' hd'.length c', .slice a'' lp'.length c'']]) (W' := W) (f := 33) ?_ (holds33g W W.heap.size _ _ hd' lp' t bv HZ.out (HWd.new hk) e (Nat.le_refl _) (HTc.out.kept hk) (Nat.le_trans h2c hk.size) (by omega) hg' htw) ?_
                · revert e2 hf; generalize a.eval = ρ; intro e2 hf
                  simp [execOp, go_sem, e2, hf]
                · rintro e' w' ⟨k', rfl⟩
                  exact ⟨_, rfl, hK _ w' k' rfl⟩
              · intro a W hk hs hdp K hK
                have e : a.eval (.tmp 6) = .slice (some ⟨b, 0, none⟩) (hd.length + lp.length) (hd.length + lp.length) := hs 6 (by decide)
                refine wp_value ?_ (hK _ W (Kept.refl _ _) rfl)
                revert e; generalize a.eval = ρ; intro e
                simp [execOp, go_sem, e]
              · intro a W hk hs hdp K hK
                have e : a.eval (.tmp 7) = .int .i64 (i : Int) := hs 7 (by decide)
                refine wp_value ?_ (hK _ W (Kept.refl _ _) rfl)
                revert e; generalize a.eval = ρ; intro e
                simp [execOp, go_sem, e]
              · intro a W hk hs hdp K hK
                have e : a.eval (.tmp 82) = .slice (some ⟨b, 0, none⟩) (hd.length + lp.length) (hd.length + lp.length) := hdp ⟨4, .data⟩ (by simp) rfl 82 rfl
                have e2 : a.eval (.tmp 83) = .int .i64 (i : Int) := hdp ⟨5, .data⟩ (by simp) rfl 83 rfl
                refine wp_value ?_ (hK _ W (Kept.refl _ _) rfl)
                revert e e2; generalize a.eval = ρ; intro e e2
                have hnle : ¬ ((hd.length : Int) + (lp.length : Int) ≤ (i : Int)) := by omega
                simp [execOp, go_sem, e, e2, hnle]
              · intro a W hk hs hdp K hK
                have e : a.eval (.tmp 84) = .pointer (some ⟨b, i, none⟩) := hdp ⟨6, .data⟩ (by simp) rfl 84 rfl
                have c0 := (hk.cell (lt_of_cell cc) (fun f => f)).trans cc
                refine wp_value ?_ (hK _ W (Kept.refl _ _) rfl)
                revert e; generalize a.eval = ρ; intro e
                simp [execOp, go_sem, e, c0]
              · intro a W hk hs hdp K hK
                have e : a.eval (.tmp 81) = .bool bv := hdp ⟨3, .data⟩ (by simp) rfl 81 rfl
                have e2 : a.eval (.tmp 85) = .bool bv := hdp ⟨7, .data⟩ (by simp) rfl 85 rfl
                refine wp_value ?_ (hK _ W (Kept.refl _ _) rfl)
                revert e e2; generalize a.eval = ρ; intro e e2
                simp [execOp, go_sem, e, e2]
              · intro f W hk hR
                have e0 : f 0 = .agg #[.int .i64 f0, .int .i64 f1, .slice fa fl fc] := hR 0 (by decide)
                have e2 : f 2 = .agg #[.slice a' hd'.length c', .slice a'' lp'.length c''] := hR 2 (by decide)
                have e3 : f 3 = .bool bv := hR 3 (by decide)
                have e4 : f 4 = .slice (some ⟨b, 0, none⟩) (hd.length + lp.length) (hd.length + lp.length) := hR 4 (by decide)
                have e5 : f 5 = .int .i64 (i : Int) := hR 5 (by decide)
                have e6 : f 6 = .pointer (some ⟨b, i, none⟩) := hR 6 (by decide)
                have e7 : f 7 = .bool bv := hR 7 (by decide)
                have e8 : f 8 = .bool false := hR 8 (by decide)
                have KWr : Hid (Kept (fun _ => False) w5 W) := kc5.trans hk (fun _ _ f => f)
                clear hR HRc HTc fbc cc HWd bx' HZ hk kc5 kwc kc6
                simp only [puts, Nat.zero_add, Nat.reduceAdd, e0, e2, e3, e4, e5, e6, e7, e8]
                generalize f 1 = v1
                clear e0 e2 e3 e4 e5 e6 e7 e8
                simp only [Act.put, List.setIfInBounds_toArray, List.set_cons_succ, List.set_cons_zero]
                go_wp2_with fail
                go_roundw
                case rel => exact ⟨i + 1, by omega, by go_num, KWr.out⟩
                case measure => simp [intOf]; omega
          · have hlti : ¬ (i : Int) < (hd.length : Int) + (lp.length : Int) := by omega
            have kwr := KW5.out.trans hkr (fun _ _ f => f)
            have hTr := hT.kept kwr
            have h2r := Nat.le_trans h2 kwr.size
            go_wp2_with (go_at_call 36; refine (alive36 _ hTr h2r).mono ?_; rintro e w9 ⟨k9, rfl⟩)
            go_ret
            exact ⟨kwr.trans k9 (fun _ _ f => f), rfl⟩
end Go.Proofs.YtdbpdanocpfboaaDoor
