/- The reference's own rows: truths. -/
import Derived.Test.YtdbpdanocpfboaaDoorVRef6
namespace Go.Proofs.YtdbpdanocpfboaaDoor
open Go.RowKit

theorem len_two {α : Type} {l : List α} (h : l.length = 2) : ∃ a b, l = [a, b] := by
  match l, h with
  | [a, b], _ => exact ⟨a, b, rfl⟩

def Says64 (N : Nat) : Prop := ∀ (t : Tr), t.size ≤ N → N ≤ 268435456 → t.well → ∀ (w : World) (B : Nat) (fv wv : Value) (hd lp : List Int) (n : Nat), hd.length + lp.length = n → RV B w fv t → WordV B w wv hd lp → goodW hd lp = true → B ≤ w.heap.size →
    Calls Tryd.prog 64 #[fv, wv] w fun e w' => ∃ b, e = .returned (.slice (some ⟨b, 0, none⟩) n n) ∧ ORow w w' b (tvT (hd ++ lp) hd.length t)

set_option maxRecDepth 100000 in
set_option maxHeartbeats 40000000 in
theorem truths64 : ∀ (N : Nat), Says64 N := by
  intro N
  induction N with
  | zero => intro t ht; have := t.size_pos; omega
  | succ N ih =>
    intro t ht hN htw w B fv wv hd lp n hn hv hW hg hB
    obtain ⟨op, nn, kids⟩ := t
    obtain ⟨ka, kb, ko, kc, rfl, hka, hks⟩ := hv
    obtain ⟨hv1, lv1, rfl, h1, h2⟩ := id hW
    obtain ⟨ha, hc, rfl, hl1⟩ := h1.form
    obtain ⟨la, lc, rfl, hl2⟩ := h2.form
    have IH : Hid (Says64 N) := ih
    clear ih
    have hlen := goodW_len hg
    have hn2 : n ≤ 20000 := by omega
    have hL : hd.length < n := by omega
    have hsz : Tr.sizes kids ≤ N := by simp only [Tr.size] at ht; omega
    have HKW : Hid (Tr.wells kids) := htw.2
    have HG : Hid (goodW hd lp = true) := hg
    have HW : Hid (WordV B w (.agg #[.slice ha hd.length hc, .slice la lp.length lc]) hd lp) := hW
    have HTL : Hid (∀ t : Tr, t.well → (tvT (hd ++ lp) hd.length t).length = n) := fun t h => by
      rw [tvT_len (hd ++ lp) hd.length (by simp; omega) t h, List.length_append, hn]
    obtain ⟨hop0, hop12, hkl, hnn0, hnn1⟩ := htw.1
    have HKL : Hid ((kids.length : Int) = kidC op) := hkl
    have HNT : Hid (nn ≤ topN op) := hnn1
    obtain ⟨W0, hW0⟩ : ∃ W0, W0 = ((w.alloc (.cells #[.int .i64 op, .int .i64 nn, .slice ka kids.length kc] 30)).alloc (.cells #[.slice ha hd.length hc, .slice la lp.length lc] 48)) := ⟨_, rfl⟩
    have k0 : Kept (fun _ => False) w W0 := by rw [hW0]; exact ((Kept.refl _ _).alloc _).alloc _
    have x0 : Bx3 W0 w.heap.size (.int .i64 op) (.int .i64 nn) (.slice ka kids.length kc) := by
      rw [hW0]
      exact ⟨by simp [go_sem], by simp [go_sem], by simp [go_sem]⟩
    have y0 : Bx W0 (w.heap.size + 1) (.slice ha hd.length hc) (.slice la lp.length lc) := by rw [hW0]; exact ⟨by rw [World.cell?_alloc_at (hn := by simp)]; rfl, by rw [World.cell?_alloc_at (hn := by simp)]; rfl⟩
    have HW0 : Hid (WordV B W0 (.agg #[.slice ha hd.length hc, .slice la lp.length lc]) hd lp) := hW.kept k0 hB
    obtain ⟨y00, y01⟩ := id y0
    have HKS : Hid (RsAt B w kb ko kids) := hks
    have HKA : Hid (0 < kids.length → ka = some ⟨kb, ko, none⟩) := hka
    clear hW h1 h2 hks hg htw ht hkl hka hnn1
    go_enter Tryd.func64, Tryd.ntmps64
    go_upto_region 1 with fail
    rw [← hW0]
    clear hW0
    have hmk := make51 n hn2
    go_upto_region 3 with (go_at_call 44; refine (places44n _ B _ hd lp n hn HW0.out).mono ?_; rintro e w1 ⟨k1, rfl⟩)
    have kw1 := k0.trans k1 (fun _ _ f => f)
    have hR0 := ORow.new w1 n
    obtain ⟨ob, hob⟩ : ∃ ob, w1.heap.size = ob := ⟨_, rfl⟩
    rw [hob] at hR0 ⊢
    obtain ⟨W2, hW2⟩ : ∃ W2, W2 = w1.alloc (.cells (madeCells #[.bool false] n) 4) := ⟨_, rfl⟩
    rw [← hW2] at hR0 ⊢
    have q2 := hR0.1
    have k02 := k1.trans q2 (fun _ _ f => f)
    have kw2 := kw1.trans q2 (fun _ _ f => f)
    have x2 := x0.kept k02
    have y2 := y0.kept k02 (fun f => f)
    have HR0 : Hid (ORow w1 W2 ob (List.replicate n false)) := hR0
    have KW1 : Hid (Kept (fun _ => False) w w1) := kw1
    have KYL : Hid (w.heap.size + 1 < ob) := by rw [Hid, ← hob]; exact lt_of_cell (y0.kept k1 (fun f => f)).1
    have hobl := hR0.2.2.1
    have HKS2 : Hid (RsAt B W2 kb ko kids) := RsAt.below (kw2.below hB (fun _ f => f.elim)) HKS.out
    have hB2 := Nat.le_trans hB kw2.size
    have HW2 : Hid (WordV B W2 (.agg #[.slice ha hd.length hc, .slice la lp.length lc]) hd lp) := HW.out.kept kw2 hB
    have KW2 : Hid (Kept (fun _ => False) w W2) := kw2
    clear y00 y01 hW2 hR0 kw1 k0 k1 y0 HW0 hob x0 q2 k02 HKS kw2
    obtain ⟨x20, x21, x22⟩ := id x2
    obtain ⟨y20, y21⟩ := id y2
    go_upto_if 20 with fail
    go_cut [7] from 13 (fun v7 wc => Kept (fun _ => False) W2 wc ∧ ∀ t', kids[0]? = some t' → ∃ b, v7 = .slice (some ⟨b, 0, none⟩) n n ∧ ORow W2 wc b (tvT (hd ++ lp) hd.length t'))
    case first =>
      by_cases h2k : 0 < kids.length
      · have h2ki : (kids.length : Int) > 0 := by omega
        have hnle : ¬ ((kids.length : Int) ≤ 0) := by omega
        have hka' := HKA.out (by omega)
        subst hka'
        obtain ⟨t1, ht1⟩ : ∃ t1, kids[0]? = some t1 := ⟨kids[0], List.getElem?_eq_getElem h2k⟩
        obtain ⟨o1, n1, ks1⟩ := t1
        obtain ⟨hbB, s0, s1, ka1, kb1, ko1, kc1, s2, hka1, hks1⟩ := HKS2.out.get ht1
        have HRV : Hid (RV B W2 (.agg #[.int .i64 o1, .int .i64 n1, .slice ka1 ks1.length kc1]) (.mk o1 n1 ks1)) := ⟨ka1, kb1, ko1, kc1, rfl, hka1, hks1⟩
        have hts : (Tr.mk o1 n1 ks1).size ≤ N := Nat.le_trans (Tr.sizes_mem (List.mem_of_getElem? ht1)) hsz
        have htw1 : (Tr.mk o1 n1 ks1).well := Tr.wells_iff.1 HKW.out _ (List.mem_of_getElem? ht1)
        have HT1 : Hid (kids[0]? = some (.mk o1 n1 ks1)) := ht1
        clear hka1 hks1 ht1
        rw [Nat.zero_mul, Nat.add_zero] at s0 s1 s2
        go_upto_region 6 with fail
        go_region_with (go_at_call 64; refine (IH.out (.mk o1 n1 ks1) hts (by omega) htw1 _ B _ _ hd lp n hn ?_ ?_ HG.out ?_).mono ?_; (exact HRV.out.below ((Kept.drew (Kept.refl (fun _ => False) _)).below hB2 (fun _ f => f.elim))); (exact HW2.out.kept (Kept.drew (Kept.refl _ _)) hB2); (exact hB2); rintro e w4 ⟨b4, rfl, row4⟩)
        all_goals
          go_wp2_with fail
          go_meet
          case rel =>
            refine ⟨Kept.trans (Kept.drew (Kept.refl _ _)) row4.1 (fun _ _ f => f), fun t' h => ?_⟩
            rw [HT1.out] at h
            cases h
            exact ⟨b4, rfl, row4.rebase (Kept.drew (Kept.refl _ _))⟩
      · have h2ki : ¬ (kids.length : Int) > 0 := by omega
        have hnle : (kids.length : Int) ≤ 0 := by omega
        go_wp2_with fail
        go_meet
        case rel => exact ⟨Kept.refl _ _, fun t' h => by rw [List.getElem?_eq_none (by omega)] at h; cases h⟩
    case rest =>
    obtain ⟨kc3, hA⟩ := hcut
    have HA : Hid (∀ t', kids[0]? = some t' → ∃ b, u7 = .slice (some ⟨b, 0, none⟩) n n ∧ ORow W2 wc b (tvT (hd ++ lp) hd.length t')) := hA
    have x3 := x2.kept kc3
    have y3 := y2.kept kc3 (fun f => f)
    have kw3 := KW2.out.trans kc3 (fun _ _ f => f)
    have HKS3 : Hid (RsAt B wc kb ko kids) := RsAt.below (kc3.below hB2 (fun _ f => f.elim)) HKS2.out
    have hB3 := Nat.le_trans hB2 kc3.size
    have HW3 : Hid (WordV B wc (.agg #[.slice ha hd.length hc, .slice la lp.length lc]) hd lp) := HW.out.kept kw3 hB
    have KW3 : Hid (Kept (fun _ => False) w wc) := kw3
    have KC3 : Hid (Kept (fun _ => False) W2 wc) := kc3
    clear hA x20 x21 x22 y20 y21 kw3 HKS2 HW2 x2 y2
    generalize wc = w3 at *
    obtain ⟨x30, x31, x32⟩ := id x3
    obtain ⟨y30, y31⟩ := id y3
    go_upto_if 30 with fail
    go_cut [8] from 13 (fun v8 wc => Kept (fun _ => False) w3 wc ∧ ∀ t', kids[1]? = some t' → ∃ b, v8 = .slice (some ⟨b, 0, none⟩) n n ∧ ORow w3 wc b (tvT (hd ++ lp) hd.length t'))
    case first =>
      by_cases h2k : 1 < kids.length
      · have h2ki : (kids.length : Int) > 1 := by omega
        have hnle : ¬ ((kids.length : Int) ≤ 1) := by omega
        have hka' := HKA.out (by omega)
        subst hka'
        obtain ⟨t1, ht1⟩ : ∃ t1, kids[1]? = some t1 := ⟨kids[1], List.getElem?_eq_getElem h2k⟩
        obtain ⟨o1, n1, ks1⟩ := t1
        obtain ⟨hbB, s0, s1, ka1, kb1, ko1, kc1, s2, hka1, hks1⟩ := HKS3.out.get ht1
        have HRV : Hid (RV B w3 (.agg #[.int .i64 o1, .int .i64 n1, .slice ka1 ks1.length kc1]) (.mk o1 n1 ks1)) := ⟨ka1, kb1, ko1, kc1, rfl, hka1, hks1⟩
        have hts : (Tr.mk o1 n1 ks1).size ≤ N := Nat.le_trans (Tr.sizes_mem (List.mem_of_getElem? ht1)) hsz
        have htw1 : (Tr.mk o1 n1 ks1).well := Tr.wells_iff.1 HKW.out _ (List.mem_of_getElem? ht1)
        have HT1 : Hid (kids[1]? = some (.mk o1 n1 ks1)) := ht1
        clear hka1 hks1 ht1
        rw [Nat.one_mul] at s0 s1 s2
        go_upto_region 8 with fail
        go_region_with (go_at_call 64; refine (IH.out (.mk o1 n1 ks1) hts (by omega) htw1 _ B _ _ hd lp n hn ?_ ?_ HG.out ?_).mono ?_; (exact HRV.out.below ((Kept.drew (Kept.refl (fun _ => False) _)).below hB3 (fun _ f => f.elim))); (exact HW3.out.kept (Kept.drew (Kept.refl _ _)) hB3); (exact hB3); rintro e w4 ⟨b4, rfl, row4⟩)
        all_goals
          go_wp2_with fail
          go_meet
          case rel =>
            refine ⟨Kept.trans (Kept.drew (Kept.refl _ _)) row4.1 (fun _ _ f => f), fun t' h => ?_⟩
            rw [HT1.out] at h
            cases h
            exact ⟨b4, rfl, row4.rebase (Kept.drew (Kept.refl _ _))⟩
      · have h2ki : ¬ (kids.length : Int) > 1 := by omega
        have hnle : (kids.length : Int) ≤ 1 := by omega
        go_wp2_with fail
        go_meet
        case rel => exact ⟨Kept.refl _ _, fun t' h => by rw [List.getElem?_eq_none (by omega)] at h; cases h⟩
    case rest =>
    obtain ⟨kc4, hBf⟩ := hcut
    have HBf : Hid (∀ t', kids[1]? = some t' → ∃ b, u8 = .slice (some ⟨b, 0, none⟩) n n ∧ ORow w3 wc b (tvT (hd ++ lp) hd.length t')) := hBf
    have k24 := KC3.out.trans kc4 (fun _ _ f => f)
    have x4 := x3.kept kc4
    have y4 := y3.kept kc4 (fun f => f)
    have kw4 := KW3.out.trans kc4 (fun _ _ f => f)
    have HA4 : Hid (∀ t', kids[0]? = some t' → ∃ b, u7 = .slice (some ⟨b, 0, none⟩) n n ∧ ORow W2 wc b (tvT (hd ++ lp) hd.length t')) := fun t' h => by
      obtain ⟨b, e, r⟩ := HA.out t' h
      exact ⟨b, e, r.kept kc4⟩
    have HB4 : Hid (∀ t', kids[1]? = some t' → ∃ b, u8 = .slice (some ⟨b, 0, none⟩) n n ∧ ORow W2 wc b (tvT (hd ++ lp) hd.length t')) := fun t' h => by
      obtain ⟨b, e, r⟩ := HBf.out t' h
      exact ⟨b, e, r.rebase KC3.out⟩
    have OR4 : Hid (ORow w1 wc ob (List.replicate n false)) := HR0.out.kept k24
    have KW4 : Hid (Kept (fun _ => False) w wc) := kw4
    have hobc : ob < wc.heap.size := Nat.lt_of_lt_of_le hobl k24.size
    clear hBf x30 x31 x32 y30 y31 HKS3 HW3 x3 y3 HA HBf HR0 k24 kw4 KW3 KC3 hB2 hB3 kc3 kc4 KW2
    generalize wc = w4 at *
    go_upto_region 11 with fail
    obtain ⟨W5, hW5⟩ : ∃ W5, W5 = w4.alloc (.cells (madeCells #[.bool false] n) 4) := ⟨_, rfl⟩
    rw [← hW5]
    have r5 : ORow w4 W5 w4.heap.size (List.replicate n false) := by rw [hW5]; exact ORow.new w4 n
    have e5 : W5.heap.size = w4.heap.size + 1 := by rw [hW5]; simp
    clear hW5
    obtain ⟨W6, hW6⟩ : ∃ W6, W6 = W5.alloc (.cells (madeCells #[.bool false] n) 4) := ⟨_, rfl⟩
    rw [← hW6]
    have r6 : ORow W5 W6 (w4.heap.size + 1) (List.replicate n false) := by rw [hW6, ← e5]; exact ORow.new W5 n
    have R5 : Hid (ORow w4 W6 w4.heap.size (List.replicate n false)) := r5.kept r6.1
    have R6 : Hid (ORow w4 W6 (w4.heap.size + 1) (List.replicate n false)) := r6.rebase r5.1
    clear hW6 r5 r6 e5 hmk
    go_wp2
    go_loopw [11] (fun v11 wr => ∃ (k : Nat) (xs : List Bool), k ≤ n ∧ v11 = .int .i64 (k : Int) ∧ xs.length = n ∧ ORow w4 wr w4.heap.size xs ∧ ORow w4 wr (w4.heap.size + 1) (List.replicate n false) ∧ ∀ j, j < k → xs.getD j false = true) (fun v11 _ => n - (intOf v11).toNat)
    case atStart => exact ⟨0, List.replicate n false, Nat.zero_le _, rfl, by simp, R5.out, R6.out, fun j hj => absurd hj (by omega)⟩
    case round =>
    obtain ⟨k, xs, hk, rfl, hxl, hrow, hrow6, hst⟩ := hrel
    have HROW : Hid (ORow w4 wr w4.heap.size xs) := hrow
    have HROW6 : Hid (ORow w4 wr (w4.heap.size + 1) (List.replicate n false)) := hrow6
    have HST : Hid (∀ j, j < k → xs.getD j false = true) := hst
    have HXL : Hid (xs.length = n) := hxl
    clear hrow hrow6 hst hxl
    by_cases hlt : k < n
    · have hlti : (k : Int) < (n : Int) := by omega
      obtain ⟨cc, cf⟩ := HROW.out.2.2.2 k (by rw [HXL.out]; exact hlt)
      go_wp2
      go_roundw
      case rel =>
        refine ⟨k + 1, xs.set k true, by omega, by go_num, by rw [List.length_set, HXL.out], HROW.out.set (by rw [HXL.out]; exact hlt) true, HROW6.out.other (by simp) (by simp) _, fun j hj => ?_⟩
        rw [List.getD_eq_getElem?_getD, List.getElem?_set]
        by_cases e : k = j
        · subst e
          simp [HXL.out, hlt]
        · rw [if_neg e, ← List.getD_eq_getElem?_getD]
          exact HST.out j (by omega)
      case measure => simp [intOf]; omega
    · have hlti : ¬ (k : Int) < (n : Int) := by omega
      have k47 := HROW.out.1
      have x7 := x4.kept k47
      have y7 := y4.kept k47 (fun f => f)
      have kw7 := KW4.out.trans k47 (fun _ _ f => f)
      have HA7 : Hid (∀ t', kids[0]? = some t' → ∃ b, u7 = .slice (some ⟨b, 0, none⟩) n n ∧ ORow W2 wr b (tvT (hd ++ lp) hd.length t')) := fun t' h => by
        obtain ⟨b, e, r⟩ := HA4.out t' h
        exact ⟨b, e, r.kept k47⟩
      have HB7 : Hid (∀ t', kids[1]? = some t' → ∃ b, u8 = .slice (some ⟨b, 0, none⟩) n n ∧ ORow W2 wr b (tvT (hd ++ lp) hd.length t')) := fun t' h => by
        obtain ⟨b, e, r⟩ := HB4.out t' h
        exact ⟨b, e, r.kept k47⟩
      have OR7 : Hid (ORow w1 wr ob (List.replicate n false)) := OR4.out.kept k47
      have CALL : Hid (∀ i, i < n → wr.cell? ⟨w4.heap.size, i, none⟩ = some (.bool ((List.replicate n true).getD i false))) := fun i hi => by
        rw [HROW.out.cell (by rw [HXL.out]; exact hi) (HST.out i (by omega))]
        simp [hi]
      have CNONE : Hid (∀ i, i < n → wr.cell? ⟨w4.heap.size + 1, i, none⟩ = some (.bool ((List.replicate n false).getD i false))) := HROW6.out.cells (by simp)
      have HW7 : Hid (WordV B wr (.agg #[.slice ha hd.length hc, .slice la lp.length lc]) hd lp) := HW.out.kept kw7 hB
      have hB7 := Nat.le_trans hB kw7.size
      have KW7 : Hid (Kept (fun _ => False) w wr) := kw7
      have Y7 : Hid (Bx wr (w.heap.size + 1) (.slice ha hd.length hc) (.slice la lp.length lc)) := y7
      have X7 : Hid (Bx3 wr w.heap.size (.int .i64 op) (.int .i64 nn) (.slice ka kids.length kc)) := x7
      have hob2 : ob < wr.heap.size := Nat.lt_of_lt_of_le hobc k47.size
      have hxob : w.heap.size + 1 < ob := KYL.out
      clear HROW HROW6 HST HXL HA4 HB4 OR4 R5 R6 KW4 x4 y4 kw7 k47
      generalize wr = w7 at *
      obtain ⟨x70, x71, x72⟩ := id x7
      obtain ⟨y70, y71⟩ := id y7
      clear x7 y7
      have hops : op = 0 ∨ op = 1 ∨ op = 2 ∨ op = 3 ∨ op = 4 ∨ op = 5 ∨ op = 6 ∨ op = 7 ∨ op = 8 ∨ op = 9 ∨ op = 10 ∨ op = 11 := by omega
      rcases hops with rfl | rfl | rfl | rfl | rfl | rfl | rfl | rfl | rfl | rfl | rfl | rfl
      · obtain rfl : kids = [] := List.length_eq_zero_iff.1 (by have h := HKL.out; rw [show kidC 0 = 0 from rfl] at h; omega)
        obtain ⟨row, hrw⟩ : ∃ row, rowOp (hd ++ lp) hd.length 0 nn [] [] = row := ⟨_, rfl⟩
        have HTV : Hid (tvT (hd ++ lp) hd.length (.mk 0 nn []) = row) := by rw [Hid, tv_leaf, hrw]
        have HLR : Hid (row.length = n) := by
          rw [Hid, ← HTV.out]
          exact HTL.out _ ⟨⟨by decide, by decide, rfl, hnn0, HNT.out⟩, HKW.out⟩
        have HRW : Hid (rowOp (hd ++ lp) hd.length 0 nn [] [] = row) := hrw
        have hxs : (hd ++ lp).length = n := by rw [List.length_append, hn]
        have HXS : Hid ((hd ++ lp).length = n) := hxs
        clear hrw hxs
        go_wp2
        go_loopw [12] (fun v12 ws => ∃ (k : Nat) (xs : List Bool), k ≤ n ∧ v12 = .int .i64 (k : Int) ∧ xs.length = n ∧ ORow w1 ws ob xs ∧ Kept (fun q => q = ob) w7 ws ∧ (∀ j, j < k → xs.getD j false = row.getD j false) ∧ ∀ j, k ≤ j → xs.getD j false = false) (fun v12 _ => n - (intOf v12).toNat)
        case atStart => exact ⟨0, List.replicate n false, Nat.zero_le _, rfl, by simp, OR7.out, Kept.refl _ _, fun j hj => absurd hj (by omega), fun j _ => by simp only [List.getD_eq_getElem?_getD, List.getElem?_replicate]; split <;> rfl⟩
        case round =>
        obtain ⟨i, xs, hi, rfl, hxl, hrow, hkr, hlo, hhi⟩ := hrel
        have HROW : Hid (ORow w1 wr ob xs) := hrow
        have HXL : Hid (xs.length = n) := hxl
        have HLO : Hid (∀ j, j < i → xs.getD j false = row.getD j false) := hlo
        have HHI : Hid (∀ j, i ≤ j → xs.getD j false = false) := hhi
        have HKR : Hid (Kept (fun q => q = ob) w7 wr) := hkr
        have kwr := KW1.out.trans hrow.1 (fun _ _ f => f)
        have d0 := (hkr.cell (lt_of_cell x70) (fun e => by simp only at e; omega)).trans x70
        have d1 := (hkr.cell (lt_of_cell x71) (fun e => by simp only at e; omega)).trans x71
        have g0 := (hkr.cell (lt_of_cell y70) (fun e => by simp only at e; omega)).trans y70
        have g1 := (hkr.cell (lt_of_cell y71) (fun e => by simp only at e; omega)).trans y71
        clear hrow hxl hlo hhi hkr
        by_cases hlt2 : i < n
        · have hlti2 : (i : Int) < (n : Int) := by omega
          have hnle2 : ¬ ((n : Int) ≤ (i : Int)) := by omega
          obtain ⟨cs, cz⟩ := HROW.out.2.2.2 i (by rw [HXL.out]; exact hlt2)
          have HREL : Hid (∀ (W : World) (b : Bool), b = row.getD i false → ORow w1 W ob xs → Kept (fun q => q = ob) w7 W → ∃ (k : Nat) (xs' : List Bool), k ≤ n ∧ Value.int .i64 ((i : Int) + 1) = .int .i64 (k : Int) ∧ xs'.length = n ∧ ORow w1 (W.setCell ⟨ob, i, none⟩ (.bool b)) ob xs' ∧ Kept (fun q => q = ob) w7 (W.setCell ⟨ob, i, none⟩ (.bool b)) ∧ (∀ j, j < k → xs'.getD j false = row.getD j false) ∧ ∀ j, k ≤ j → xs'.getD j false = false) := by
            intro W b hb hW hkW
            refine ⟨i + 1, xs.set i b, by omega, by go_num, by rw [List.length_set, HXL.out], hW.set (by rw [HXL.out]; exact hlt2) b, hkW.setCell (fun _ => rfl) _, fun j hj => ?_, fun j hj => ?_⟩
            · rw [List.getD_eq_getElem?_getD, List.getElem?_set]
              by_cases e : i = j
              · subst e
                rw [if_pos rfl, if_pos (by rw [HXL.out]; exact hlt2), hb]
                rfl
              · rw [if_neg e, ← List.getD_eq_getElem?_getD]
                exact HLO.out j (by omega)
            · rw [List.getD_eq_getElem?_getD, List.getElem?_set, if_neg (by omega), ← List.getD_eq_getElem?_getD]
              exact HHI.out j (by omega)
          have hval : true = row.getD i false := by rw [← HRW.out, row_get0 HXS.out hlt2]
          have HV : Hid _ := hval
          clear hval
          go_wp2
          go_roundw
          case rel => exact HREL.out wr true HV.out HROW.out HKR.out
          case measure => simp [intOf]; omega
        · have hlti2 : ¬ (i : Int) < (n : Int) := by omega
          go_wp2
          go_ret
          refine ⟨ob, rfl, ?_⟩
          have e : xs = row := by
            apply List.ext_getElem?
            intro j
            by_cases hj : j < n
            · have h1 := HLO.out j (by omega)
              have hjz : j < xs.length := by rw [HXL.out]; exact hj
              have hjs : j < row.length := by rw [HLR.out]; exact hj
              rw [List.getD_eq_getElem?_getD, List.getD_eq_getElem?_getD, List.getElem?_eq_getElem hjz, List.getElem?_eq_getElem hjs] at h1
              rw [List.getElem?_eq_getElem hjz, List.getElem?_eq_getElem hjs]
              exact congrArg some h1
            · rw [List.getElem?_eq_none (by rw [HXL.out]; omega), List.getElem?_eq_none (by rw [HLR.out]; omega)]
          rw [HTV.out, ← e]
          exact HROW.out.rebase KW1.out
      · obtain rfl : kids = [] := List.length_eq_zero_iff.1 (by have h := HKL.out; rw [show kidC 1 = 0 from rfl] at h; omega)
        obtain ⟨row, hrw⟩ : ∃ row, rowOp (hd ++ lp) hd.length 1 nn [] [] = row := ⟨_, rfl⟩
        have HTV : Hid (tvT (hd ++ lp) hd.length (.mk 1 nn []) = row) := by rw [Hid, tv_leaf, hrw]
        have HLR : Hid (row.length = n) := by
          rw [Hid, ← HTV.out]
          exact HTL.out _ ⟨⟨by decide, by decide, rfl, hnn0, HNT.out⟩, HKW.out⟩
        have HRW : Hid (rowOp (hd ++ lp) hd.length 1 nn [] [] = row) := hrw
        have hxs : (hd ++ lp).length = n := by rw [List.length_append, hn]
        have HXS : Hid ((hd ++ lp).length = n) := hxs
        clear hrw hxs
        go_wp2
        go_loopw [12] (fun v12 ws => ∃ (k : Nat) (xs : List Bool), k ≤ n ∧ v12 = .int .i64 (k : Int) ∧ xs.length = n ∧ ORow w1 ws ob xs ∧ Kept (fun q => q = ob) w7 ws ∧ (∀ j, j < k → xs.getD j false = row.getD j false) ∧ ∀ j, k ≤ j → xs.getD j false = false) (fun v12 _ => n - (intOf v12).toNat)
        case atStart => exact ⟨0, List.replicate n false, Nat.zero_le _, rfl, by simp, OR7.out, Kept.refl _ _, fun j hj => absurd hj (by omega), fun j _ => by simp only [List.getD_eq_getElem?_getD, List.getElem?_replicate]; split <;> rfl⟩
        case round =>
        obtain ⟨i, xs, hi, rfl, hxl, hrow, hkr, hlo, hhi⟩ := hrel
        have HROW : Hid (ORow w1 wr ob xs) := hrow
        have HXL : Hid (xs.length = n) := hxl
        have HLO : Hid (∀ j, j < i → xs.getD j false = row.getD j false) := hlo
        have HHI : Hid (∀ j, i ≤ j → xs.getD j false = false) := hhi
        have HKR : Hid (Kept (fun q => q = ob) w7 wr) := hkr
        have kwr := KW1.out.trans hrow.1 (fun _ _ f => f)
        have d0 := (hkr.cell (lt_of_cell x70) (fun e => by simp only at e; omega)).trans x70
        have d1 := (hkr.cell (lt_of_cell x71) (fun e => by simp only at e; omega)).trans x71
        have g0 := (hkr.cell (lt_of_cell y70) (fun e => by simp only at e; omega)).trans y70
        have g1 := (hkr.cell (lt_of_cell y71) (fun e => by simp only at e; omega)).trans y71
        clear hrow hxl hlo hhi hkr
        by_cases hlt2 : i < n
        · have hlti2 : (i : Int) < (n : Int) := by omega
          have hnle2 : ¬ ((n : Int) ≤ (i : Int)) := by omega
          obtain ⟨cs, cz⟩ := HROW.out.2.2.2 i (by rw [HXL.out]; exact hlt2)
          have HREL : Hid (∀ (W : World) (b : Bool), b = row.getD i false → ORow w1 W ob xs → Kept (fun q => q = ob) w7 W → ∃ (k : Nat) (xs' : List Bool), k ≤ n ∧ Value.int .i64 ((i : Int) + 1) = .int .i64 (k : Int) ∧ xs'.length = n ∧ ORow w1 (W.setCell ⟨ob, i, none⟩ (.bool b)) ob xs' ∧ Kept (fun q => q = ob) w7 (W.setCell ⟨ob, i, none⟩ (.bool b)) ∧ (∀ j, j < k → xs'.getD j false = row.getD j false) ∧ ∀ j, k ≤ j → xs'.getD j false = false) := by
            intro W b hb hW hkW
            refine ⟨i + 1, xs.set i b, by omega, by go_num, by rw [List.length_set, HXL.out], hW.set (by rw [HXL.out]; exact hlt2) b, hkW.setCell (fun _ => rfl) _, fun j hj => ?_, fun j hj => ?_⟩
            · rw [List.getD_eq_getElem?_getD, List.getElem?_set]
              by_cases e : i = j
              · subst e
                rw [if_pos rfl, if_pos (by rw [HXL.out]; exact hlt2), hb]
                rfl
              · rw [if_neg e, ← List.getD_eq_getElem?_getD]
                exact HLO.out j (by omega)
            · rw [List.getD_eq_getElem?_getD, List.getElem?_set, if_neg (by omega), ← List.getD_eq_getElem?_getD]
              exact HHI.out j (by omega)
          have hval : false = row.getD i false := by rw [← HRW.out, row_get1 HXS.out hlt2]
          have HV : Hid _ := hval
          clear hval
          go_wp2
          go_roundw
          case rel => exact ⟨i + 1, xs, by omega, by go_num, HXL.out, HROW.out, HKR.out, fun j hj => by
              by_cases e : i = j
              · subst e; rw [HHI.out i (Nat.le_refl _)]; exact HV.out
              · exact HLO.out j (by omega), fun j hj => HHI.out j (by omega)⟩
          case measure => simp [intOf]; omega
        · have hlti2 : ¬ (i : Int) < (n : Int) := by omega
          go_wp2
          go_ret
          refine ⟨ob, rfl, ?_⟩
          have e : xs = row := by
            apply List.ext_getElem?
            intro j
            by_cases hj : j < n
            · have h1 := HLO.out j (by omega)
              have hjz : j < xs.length := by rw [HXL.out]; exact hj
              have hjs : j < row.length := by rw [HLR.out]; exact hj
              rw [List.getD_eq_getElem?_getD, List.getD_eq_getElem?_getD, List.getElem?_eq_getElem hjz, List.getElem?_eq_getElem hjs] at h1
              rw [List.getElem?_eq_getElem hjz, List.getElem?_eq_getElem hjs]
              exact congrArg some h1
            · rw [List.getElem?_eq_none (by rw [HXL.out]; omega), List.getElem?_eq_none (by rw [HLR.out]; omega)]
          rw [HTV.out, ← e]
          exact HROW.out.rebase KW1.out
      · obtain rfl : kids = [] := List.length_eq_zero_iff.1 (by have h := HKL.out; rw [show kidC 2 = 0 from rfl] at h; omega)
        obtain ⟨row, hrw⟩ : ∃ row, rowOp (hd ++ lp) hd.length 2 nn [] [] = row := ⟨_, rfl⟩
        have HTV : Hid (tvT (hd ++ lp) hd.length (.mk 2 nn []) = row) := by rw [Hid, tv_leaf, hrw]
        have HLR : Hid (row.length = n) := by
          rw [Hid, ← HTV.out]
          exact HTL.out _ ⟨⟨by decide, by decide, rfl, hnn0, HNT.out⟩, HKW.out⟩
        have HRW : Hid (rowOp (hd ++ lp) hd.length 2 nn [] [] = row) := hrw
        have hxs : (hd ++ lp).length = n := by rw [List.length_append, hn]
        have HXS : Hid ((hd ++ lp).length = n) := hxs
        clear hrw hxs
        go_wp2
        go_loopw [12] (fun v12 ws => ∃ (k : Nat) (xs : List Bool), k ≤ n ∧ v12 = .int .i64 (k : Int) ∧ xs.length = n ∧ ORow w1 ws ob xs ∧ Kept (fun q => q = ob) w7 ws ∧ (∀ j, j < k → xs.getD j false = row.getD j false) ∧ ∀ j, k ≤ j → xs.getD j false = false) (fun v12 _ => n - (intOf v12).toNat)
        case atStart => exact ⟨0, List.replicate n false, Nat.zero_le _, rfl, by simp, OR7.out, Kept.refl _ _, fun j hj => absurd hj (by omega), fun j _ => by simp only [List.getD_eq_getElem?_getD, List.getElem?_replicate]; split <;> rfl⟩
        case round =>
        obtain ⟨i, xs, hi, rfl, hxl, hrow, hkr, hlo, hhi⟩ := hrel
        have HROW : Hid (ORow w1 wr ob xs) := hrow
        have HXL : Hid (xs.length = n) := hxl
        have HLO : Hid (∀ j, j < i → xs.getD j false = row.getD j false) := hlo
        have HHI : Hid (∀ j, i ≤ j → xs.getD j false = false) := hhi
        have HKR : Hid (Kept (fun q => q = ob) w7 wr) := hkr
        have kwr := KW1.out.trans hrow.1 (fun _ _ f => f)
        have d0 := (hkr.cell (lt_of_cell x70) (fun e => by simp only at e; omega)).trans x70
        have d1 := (hkr.cell (lt_of_cell x71) (fun e => by simp only at e; omega)).trans x71
        have g0 := (hkr.cell (lt_of_cell y70) (fun e => by simp only at e; omega)).trans y70
        have g1 := (hkr.cell (lt_of_cell y71) (fun e => by simp only at e; omega)).trans y71
        clear hrow hxl hlo hhi hkr
        by_cases hlt2 : i < n
        · have hlti2 : (i : Int) < (n : Int) := by omega
          have hnle2 : ¬ ((n : Int) ≤ (i : Int)) := by omega
          obtain ⟨cs, cz⟩ := HROW.out.2.2.2 i (by rw [HXL.out]; exact hlt2)
          have HREL : Hid (∀ (W : World) (b : Bool), b = row.getD i false → ORow w1 W ob xs → Kept (fun q => q = ob) w7 W → ∃ (k : Nat) (xs' : List Bool), k ≤ n ∧ Value.int .i64 ((i : Int) + 1) = .int .i64 (k : Int) ∧ xs'.length = n ∧ ORow w1 (W.setCell ⟨ob, i, none⟩ (.bool b)) ob xs' ∧ Kept (fun q => q = ob) w7 (W.setCell ⟨ob, i, none⟩ (.bool b)) ∧ (∀ j, j < k → xs'.getD j false = row.getD j false) ∧ ∀ j, k ≤ j → xs'.getD j false = false) := by
            intro W b hb hW hkW
            refine ⟨i + 1, xs.set i b, by omega, by go_num, by rw [List.length_set, HXL.out], hW.set (by rw [HXL.out]; exact hlt2) b, hkW.setCell (fun _ => rfl) _, fun j hj => ?_, fun j hj => ?_⟩
            · rw [List.getD_eq_getElem?_getD, List.getElem?_set]
              by_cases e : i = j
              · subst e
                rw [if_pos rfl, if_pos (by rw [HXL.out]; exact hlt2), hb]
                rfl
              · rw [if_neg e, ← List.getD_eq_getElem?_getD]
                exact HLO.out j (by omega)
            · rw [List.getD_eq_getElem?_getD, List.getElem?_set, if_neg (by omega), ← List.getD_eq_getElem?_getD]
              exact HHI.out j (by omega)
          have hval : bitB (wAt hd lp i) nn = row.getD i false := by rw [← HRW.out, row_get2 HXS.out hlt2, wAt_lt (by omega)]
          have HV : Hid _ := hval
          obtain ⟨xv, hxv⟩ : ∃ v, wAt hd lp i = v := ⟨_, rfl⟩
          have HXV : Hid (wAt hd lp i = xv) := hxv
          have hnn7 : nn ≤ 7 := HNT.out
          have HWr : Hid (WordV B wr (.agg #[.slice ha hd.length hc, .slice la lp.length lc]) hd lp) := HW.out.kept kwr hB
          have hBr := Nat.le_trans hB kwr.size
          clear hval hxv
          go_upto_region 30 with fail
          go_region_with (go_at_call 66; refine (at66 _ B _ hd lp i ?_ ?_ hlen.2 (by omega)).mono ?_; (exact HWr.out.kept (Kept.drew (Kept.refl _ _)) hBr); (exact hBr); rintro e w9 ⟨k9, rfl⟩; rw [HXV.out]; have kr9 : Kept (fun _ => False) wr w9 := Kept.trans (Kept.drew (Kept.refl _ _)) k9 (fun _ _ f => f); have d19 := (kr9.cell (lt_of_cell d1) (fun f => f)).trans d1; have cs9 := (kr9.cell (lt_of_cell cs) (fun f => f)).trans cs; have cz9 := (kr9.frozen (lt_of_cell cs) (fun f => f)).trans cz)
          all_goals
            go_wp2
            go_roundw
            case rel => exact HREL.out w9 _ (by rw [← HV.out, HXV.out]; rfl) (HROW.out.kept kr9) (HKR.out.trans kr9 (fun _ _ f => f.elim))
            case measure => simp [intOf]; omega
        · have hlti2 : ¬ (i : Int) < (n : Int) := by omega
          go_wp2
          go_ret
          refine ⟨ob, rfl, ?_⟩
          have e : xs = row := by
            apply List.ext_getElem?
            intro j
            by_cases hj : j < n
            · have h1 := HLO.out j (by omega)
              have hjz : j < xs.length := by rw [HXL.out]; exact hj
              have hjs : j < row.length := by rw [HLR.out]; exact hj
              rw [List.getD_eq_getElem?_getD, List.getD_eq_getElem?_getD, List.getElem?_eq_getElem hjz, List.getElem?_eq_getElem hjs] at h1
              rw [List.getElem?_eq_getElem hjz, List.getElem?_eq_getElem hjs]
              exact congrArg some h1
            · rw [List.getElem?_eq_none (by rw [HXL.out]; omega), List.getElem?_eq_none (by rw [HLR.out]; omega)]
          rw [HTV.out, ← e]
          exact HROW.out.rebase KW1.out
      · obtain ⟨t1, rfl⟩ : ∃ t1, kids = [t1] := List.length_eq_one_iff.1 (by have h := HKL.out; rw [show kidC 3 = 1 from rfl] at h; omega)
        have ht1 : t1.well := HKW.out.1
        obtain ⟨b7, rfl, rA⟩ := HA7.out t1 rfl
        have CA : Hid (∀ i, i < n → w7.cell? ⟨b7, i, none⟩ = some (.bool ((tvT (hd ++ lp) hd.length t1).getD i false))) := rA.cells (HTL.out t1 ht1)
        have hb7 := rA.2.1
        have hb7l := rA.2.2.1
        have hA := HTL.out t1 ht1
        have HLA : Hid ((tvT (hd ++ lp) hd.length t1).length = n) := hA
        clear rA hA
        obtain ⟨row, hrw⟩ : ∃ row, rowOp (hd ++ lp) hd.length 3 nn (tvT (hd ++ lp) hd.length t1) [] = row := ⟨_, rfl⟩
        have HTV : Hid (tvT (hd ++ lp) hd.length (.mk 3 nn [t1]) = row) := by rw [Hid, tv_un, hrw]
        have HLR : Hid (row.length = n) := by
          rw [Hid, ← HTV.out]
          exact HTL.out _ ⟨⟨by decide, by decide, rfl, hnn0, HNT.out⟩, HKW.out⟩
        have HRW : Hid (rowOp (hd ++ lp) hd.length 3 nn (tvT (hd ++ lp) hd.length t1) [] = row) := hrw
        have hxs : (hd ++ lp).length = n := by rw [List.length_append, hn]
        have HXS : Hid ((hd ++ lp).length = n) := hxs
        clear hrw hxs
        go_wp2
        go_loopw [12] (fun v12 ws => ∃ (k : Nat) (xs : List Bool), k ≤ n ∧ v12 = .int .i64 (k : Int) ∧ xs.length = n ∧ ORow w1 ws ob xs ∧ Kept (fun q => q = ob) w7 ws ∧ (∀ j, j < k → xs.getD j false = row.getD j false) ∧ ∀ j, k ≤ j → xs.getD j false = false) (fun v12 _ => n - (intOf v12).toNat)
        case atStart => exact ⟨0, List.replicate n false, Nat.zero_le _, rfl, by simp, OR7.out, Kept.refl _ _, fun j hj => absurd hj (by omega), fun j _ => by simp only [List.getD_eq_getElem?_getD, List.getElem?_replicate]; split <;> rfl⟩
        case round =>
        obtain ⟨i, xs, hi, rfl, hxl, hrow, hkr, hlo, hhi⟩ := hrel
        have HROW : Hid (ORow w1 wr ob xs) := hrow
        have HXL : Hid (xs.length = n) := hxl
        have HLO : Hid (∀ j, j < i → xs.getD j false = row.getD j false) := hlo
        have HHI : Hid (∀ j, i ≤ j → xs.getD j false = false) := hhi
        have HKR : Hid (Kept (fun q => q = ob) w7 wr) := hkr
        have kwr := KW1.out.trans hrow.1 (fun _ _ f => f)
        have d0 := (hkr.cell (lt_of_cell x70) (fun e => by simp only at e; omega)).trans x70
        have d1 := (hkr.cell (lt_of_cell x71) (fun e => by simp only at e; omega)).trans x71
        have g0 := (hkr.cell (lt_of_cell y70) (fun e => by simp only at e; omega)).trans y70
        have g1 := (hkr.cell (lt_of_cell y71) (fun e => by simp only at e; omega)).trans y71
        clear hrow hxl hlo hhi hkr
        by_cases hlt2 : i < n
        · have hlti2 : (i : Int) < (n : Int) := by omega
          have hnle2 : ¬ ((n : Int) ≤ (i : Int)) := by omega
          obtain ⟨cs, cz⟩ := HROW.out.2.2.2 i (by rw [HXL.out]; exact hlt2)
          have HREL : Hid (∀ (W : World) (b : Bool), b = row.getD i false → ORow w1 W ob xs → Kept (fun q => q = ob) w7 W → ∃ (k : Nat) (xs' : List Bool), k ≤ n ∧ Value.int .i64 ((i : Int) + 1) = .int .i64 (k : Int) ∧ xs'.length = n ∧ ORow w1 (W.setCell ⟨ob, i, none⟩ (.bool b)) ob xs' ∧ Kept (fun q => q = ob) w7 (W.setCell ⟨ob, i, none⟩ (.bool b)) ∧ (∀ j, j < k → xs'.getD j false = row.getD j false) ∧ ∀ j, k ≤ j → xs'.getD j false = false) := by
            intro W b hb hW hkW
            refine ⟨i + 1, xs.set i b, by omega, by go_num, by rw [List.length_set, HXL.out], hW.set (by rw [HXL.out]; exact hlt2) b, hkW.setCell (fun _ => rfl) _, fun j hj => ?_, fun j hj => ?_⟩
            · rw [List.getD_eq_getElem?_getD, List.getElem?_set]
              by_cases e : i = j
              · subst e
                rw [if_pos rfl, if_pos (by rw [HXL.out]; exact hlt2), hb]
                rfl
              · rw [if_neg e, ← List.getD_eq_getElem?_getD]
                exact HLO.out j (by omega)
            · rw [List.getD_eq_getElem?_getD, List.getElem?_set, if_neg (by omega), ← List.getD_eq_getElem?_getD]
              exact HHI.out j (by omega)
          obtain ⟨av, hav⟩ : ∃ b, (tvT (hd ++ lp) hd.length t1).getD i false = b := ⟨_, rfl⟩
          have ca : wr.cell? ⟨b7, i, none⟩ = some (.bool av) := by rw [← hav]; exact (HKR.out.cell (lt_of_cell (CA.out i hlt2)) (fun e => by simp only at e; omega)).trans (CA.out i hlt2)
          have hval : (!av) = row.getD i false := by rw [← HRW.out, row_get3 HLA.out hlt2, hav]
          have HV : Hid _ := hval
          clear hval hav
          go_wp2
          go_roundw
          case rel => exact HREL.out wr (!av) HV.out HROW.out HKR.out
          case measure => simp [intOf]; omega
        · have hlti2 : ¬ (i : Int) < (n : Int) := by omega
          go_wp2
          go_ret
          refine ⟨ob, rfl, ?_⟩
          have e : xs = row := by
            apply List.ext_getElem?
            intro j
            by_cases hj : j < n
            · have h1 := HLO.out j (by omega)
              have hjz : j < xs.length := by rw [HXL.out]; exact hj
              have hjs : j < row.length := by rw [HLR.out]; exact hj
              rw [List.getD_eq_getElem?_getD, List.getD_eq_getElem?_getD, List.getElem?_eq_getElem hjz, List.getElem?_eq_getElem hjs] at h1
              rw [List.getElem?_eq_getElem hjz, List.getElem?_eq_getElem hjs]
              exact congrArg some h1
            · rw [List.getElem?_eq_none (by rw [HXL.out]; omega), List.getElem?_eq_none (by rw [HLR.out]; omega)]
          rw [HTV.out, ← e]
          exact HROW.out.rebase KW1.out
      · obtain ⟨t1, t2, rfl⟩ : ∃ t1 t2, kids = [t1, t2] := len_two (by have h := HKL.out; rw [show kidC 4 = 2 from rfl] at h; omega)
        have ht1 : t1.well := HKW.out.1
        have ht2 : t2.well := HKW.out.2.1
        obtain ⟨b7, rfl, rA⟩ := HA7.out t1 rfl
        obtain ⟨b8, rfl, rB⟩ := HB7.out t2 rfl
        have CA : Hid (∀ i, i < n → w7.cell? ⟨b7, i, none⟩ = some (.bool ((tvT (hd ++ lp) hd.length t1).getD i false))) := rA.cells (HTL.out t1 ht1)
        have CB : Hid (∀ i, i < n → w7.cell? ⟨b8, i, none⟩ = some (.bool ((tvT (hd ++ lp) hd.length t2).getD i false))) := rB.cells (HTL.out t2 ht2)
        have hb7 := rA.2.1
        have hb7l := rA.2.2.1
        have hb8 := rB.2.1
        have hb8l := rB.2.2.1
        have HLA : Hid ((tvT (hd ++ lp) hd.length t1).length = n) := HTL.out t1 ht1
        have HLB : Hid ((tvT (hd ++ lp) hd.length t2).length = n) := HTL.out t2 ht2
        clear rA rB
        obtain ⟨row, hrw⟩ : ∃ row, rowOp (hd ++ lp) hd.length 4 nn (tvT (hd ++ lp) hd.length t1) (tvT (hd ++ lp) hd.length t2) = row := ⟨_, rfl⟩
        have HTV : Hid (tvT (hd ++ lp) hd.length (.mk 4 nn [t1, t2]) = row) := by rw [Hid, tv_bi, hrw]
        have HLR : Hid (row.length = n) := by
          rw [Hid, ← HTV.out]
          exact HTL.out _ ⟨⟨by decide, by decide, rfl, hnn0, HNT.out⟩, HKW.out⟩
        have HRW : Hid (rowOp (hd ++ lp) hd.length 4 nn (tvT (hd ++ lp) hd.length t1) (tvT (hd ++ lp) hd.length t2) = row) := hrw
        have hxs : (hd ++ lp).length = n := by rw [List.length_append, hn]
        have HXS : Hid ((hd ++ lp).length = n) := hxs
        clear hrw hxs
        go_wp2
        go_loopw [12] (fun v12 ws => ∃ (k : Nat) (xs : List Bool), k ≤ n ∧ v12 = .int .i64 (k : Int) ∧ xs.length = n ∧ ORow w1 ws ob xs ∧ Kept (fun q => q = ob) w7 ws ∧ (∀ j, j < k → xs.getD j false = row.getD j false) ∧ ∀ j, k ≤ j → xs.getD j false = false) (fun v12 _ => n - (intOf v12).toNat)
        case atStart => exact ⟨0, List.replicate n false, Nat.zero_le _, rfl, by simp, OR7.out, Kept.refl _ _, fun j hj => absurd hj (by omega), fun j _ => by simp only [List.getD_eq_getElem?_getD, List.getElem?_replicate]; split <;> rfl⟩
        case round =>
        obtain ⟨i, xs, hi, rfl, hxl, hrow, hkr, hlo, hhi⟩ := hrel
        have HROW : Hid (ORow w1 wr ob xs) := hrow
        have HXL : Hid (xs.length = n) := hxl
        have HLO : Hid (∀ j, j < i → xs.getD j false = row.getD j false) := hlo
        have HHI : Hid (∀ j, i ≤ j → xs.getD j false = false) := hhi
        have HKR : Hid (Kept (fun q => q = ob) w7 wr) := hkr
        have kwr := KW1.out.trans hrow.1 (fun _ _ f => f)
        have d0 := (hkr.cell (lt_of_cell x70) (fun e => by simp only at e; omega)).trans x70
        have d1 := (hkr.cell (lt_of_cell x71) (fun e => by simp only at e; omega)).trans x71
        have g0 := (hkr.cell (lt_of_cell y70) (fun e => by simp only at e; omega)).trans y70
        have g1 := (hkr.cell (lt_of_cell y71) (fun e => by simp only at e; omega)).trans y71
        clear hrow hxl hlo hhi hkr
        by_cases hlt2 : i < n
        · have hlti2 : (i : Int) < (n : Int) := by omega
          have hnle2 : ¬ ((n : Int) ≤ (i : Int)) := by omega
          obtain ⟨cs, cz⟩ := HROW.out.2.2.2 i (by rw [HXL.out]; exact hlt2)
          have HREL : Hid (∀ (W : World) (b : Bool), b = row.getD i false → ORow w1 W ob xs → Kept (fun q => q = ob) w7 W → ∃ (k : Nat) (xs' : List Bool), k ≤ n ∧ Value.int .i64 ((i : Int) + 1) = .int .i64 (k : Int) ∧ xs'.length = n ∧ ORow w1 (W.setCell ⟨ob, i, none⟩ (.bool b)) ob xs' ∧ Kept (fun q => q = ob) w7 (W.setCell ⟨ob, i, none⟩ (.bool b)) ∧ (∀ j, j < k → xs'.getD j false = row.getD j false) ∧ ∀ j, k ≤ j → xs'.getD j false = false) := by
            intro W b hb hW hkW
            refine ⟨i + 1, xs.set i b, by omega, by go_num, by rw [List.length_set, HXL.out], hW.set (by rw [HXL.out]; exact hlt2) b, hkW.setCell (fun _ => rfl) _, fun j hj => ?_, fun j hj => ?_⟩
            · rw [List.getD_eq_getElem?_getD, List.getElem?_set]
              by_cases e : i = j
              · subst e
                rw [if_pos rfl, if_pos (by rw [HXL.out]; exact hlt2), hb]
                rfl
              · rw [if_neg e, ← List.getD_eq_getElem?_getD]
                exact HLO.out j (by omega)
            · rw [List.getD_eq_getElem?_getD, List.getElem?_set, if_neg (by omega), ← List.getD_eq_getElem?_getD]
              exact HHI.out j (by omega)
          obtain ⟨av, hav⟩ : ∃ b, (tvT (hd ++ lp) hd.length t1).getD i false = b := ⟨_, rfl⟩
          have ca : wr.cell? ⟨b7, i, none⟩ = some (.bool av) := by rw [← hav]; exact (HKR.out.cell (lt_of_cell (CA.out i hlt2)) (fun e => by simp only at e; omega)).trans (CA.out i hlt2)
          obtain ⟨bv, hbv⟩ : ∃ b, (tvT (hd ++ lp) hd.length t2).getD i false = b := ⟨_, rfl⟩
          have cb : wr.cell? ⟨b8, i, none⟩ = some (.bool bv) := by rw [← hbv]; exact (HKR.out.cell (lt_of_cell (CB.out i hlt2)) (fun e => by simp only at e; omega)).trans (CB.out i hlt2)
          have hval : (av && bv) = row.getD i false := by rw [← HRW.out, row_get4 HLA.out HLB.out hlt2, hav, hbv]
          have HV : Hid _ := hval
          clear hval hav hbv
          cases av
          all_goals
            go_wp2
            go_roundw
            case rel => exact HREL.out wr _ (by rw [← HV.out]; first | rfl | (cases bv <;> rfl)) HROW.out HKR.out
            case measure => simp [intOf]; omega
        · have hlti2 : ¬ (i : Int) < (n : Int) := by omega
          go_wp2
          go_ret
          refine ⟨ob, rfl, ?_⟩
          have e : xs = row := by
            apply List.ext_getElem?
            intro j
            by_cases hj : j < n
            · have h1 := HLO.out j (by omega)
              have hjz : j < xs.length := by rw [HXL.out]; exact hj
              have hjs : j < row.length := by rw [HLR.out]; exact hj
              rw [List.getD_eq_getElem?_getD, List.getD_eq_getElem?_getD, List.getElem?_eq_getElem hjz, List.getElem?_eq_getElem hjs] at h1
              rw [List.getElem?_eq_getElem hjz, List.getElem?_eq_getElem hjs]
              exact congrArg some h1
            · rw [List.getElem?_eq_none (by rw [HXL.out]; omega), List.getElem?_eq_none (by rw [HLR.out]; omega)]
          rw [HTV.out, ← e]
          exact HROW.out.rebase KW1.out
      · obtain ⟨t1, t2, rfl⟩ : ∃ t1 t2, kids = [t1, t2] := len_two (by have h := HKL.out; rw [show kidC 5 = 2 from rfl] at h; omega)
        have ht1 : t1.well := HKW.out.1
        have ht2 : t2.well := HKW.out.2.1
        obtain ⟨b7, rfl, rA⟩ := HA7.out t1 rfl
        obtain ⟨b8, rfl, rB⟩ := HB7.out t2 rfl
        have CA : Hid (∀ i, i < n → w7.cell? ⟨b7, i, none⟩ = some (.bool ((tvT (hd ++ lp) hd.length t1).getD i false))) := rA.cells (HTL.out t1 ht1)
        have CB : Hid (∀ i, i < n → w7.cell? ⟨b8, i, none⟩ = some (.bool ((tvT (hd ++ lp) hd.length t2).getD i false))) := rB.cells (HTL.out t2 ht2)
        have hb7 := rA.2.1
        have hb7l := rA.2.2.1
        have hb8 := rB.2.1
        have hb8l := rB.2.2.1
        have HLA : Hid ((tvT (hd ++ lp) hd.length t1).length = n) := HTL.out t1 ht1
        have HLB : Hid ((tvT (hd ++ lp) hd.length t2).length = n) := HTL.out t2 ht2
        clear rA rB
        obtain ⟨row, hrw⟩ : ∃ row, rowOp (hd ++ lp) hd.length 5 nn (tvT (hd ++ lp) hd.length t1) (tvT (hd ++ lp) hd.length t2) = row := ⟨_, rfl⟩
        have HTV : Hid (tvT (hd ++ lp) hd.length (.mk 5 nn [t1, t2]) = row) := by rw [Hid, tv_bi, hrw]
        have HLR : Hid (row.length = n) := by
          rw [Hid, ← HTV.out]
          exact HTL.out _ ⟨⟨by decide, by decide, rfl, hnn0, HNT.out⟩, HKW.out⟩
        have HRW : Hid (rowOp (hd ++ lp) hd.length 5 nn (tvT (hd ++ lp) hd.length t1) (tvT (hd ++ lp) hd.length t2) = row) := hrw
        have hxs : (hd ++ lp).length = n := by rw [List.length_append, hn]
        have HXS : Hid ((hd ++ lp).length = n) := hxs
        clear hrw hxs
        go_wp2
        go_loopw [12] (fun v12 ws => ∃ (k : Nat) (xs : List Bool), k ≤ n ∧ v12 = .int .i64 (k : Int) ∧ xs.length = n ∧ ORow w1 ws ob xs ∧ Kept (fun q => q = ob) w7 ws ∧ (∀ j, j < k → xs.getD j false = row.getD j false) ∧ ∀ j, k ≤ j → xs.getD j false = false) (fun v12 _ => n - (intOf v12).toNat)
        case atStart => exact ⟨0, List.replicate n false, Nat.zero_le _, rfl, by simp, OR7.out, Kept.refl _ _, fun j hj => absurd hj (by omega), fun j _ => by simp only [List.getD_eq_getElem?_getD, List.getElem?_replicate]; split <;> rfl⟩
        case round =>
        obtain ⟨i, xs, hi, rfl, hxl, hrow, hkr, hlo, hhi⟩ := hrel
        have HROW : Hid (ORow w1 wr ob xs) := hrow
        have HXL : Hid (xs.length = n) := hxl
        have HLO : Hid (∀ j, j < i → xs.getD j false = row.getD j false) := hlo
        have HHI : Hid (∀ j, i ≤ j → xs.getD j false = false) := hhi
        have HKR : Hid (Kept (fun q => q = ob) w7 wr) := hkr
        have kwr := KW1.out.trans hrow.1 (fun _ _ f => f)
        have d0 := (hkr.cell (lt_of_cell x70) (fun e => by simp only at e; omega)).trans x70
        have d1 := (hkr.cell (lt_of_cell x71) (fun e => by simp only at e; omega)).trans x71
        have g0 := (hkr.cell (lt_of_cell y70) (fun e => by simp only at e; omega)).trans y70
        have g1 := (hkr.cell (lt_of_cell y71) (fun e => by simp only at e; omega)).trans y71
        clear hrow hxl hlo hhi hkr
        by_cases hlt2 : i < n
        · have hlti2 : (i : Int) < (n : Int) := by omega
          have hnle2 : ¬ ((n : Int) ≤ (i : Int)) := by omega
          obtain ⟨cs, cz⟩ := HROW.out.2.2.2 i (by rw [HXL.out]; exact hlt2)
          have HREL : Hid (∀ (W : World) (b : Bool), b = row.getD i false → ORow w1 W ob xs → Kept (fun q => q = ob) w7 W → ∃ (k : Nat) (xs' : List Bool), k ≤ n ∧ Value.int .i64 ((i : Int) + 1) = .int .i64 (k : Int) ∧ xs'.length = n ∧ ORow w1 (W.setCell ⟨ob, i, none⟩ (.bool b)) ob xs' ∧ Kept (fun q => q = ob) w7 (W.setCell ⟨ob, i, none⟩ (.bool b)) ∧ (∀ j, j < k → xs'.getD j false = row.getD j false) ∧ ∀ j, k ≤ j → xs'.getD j false = false) := by
            intro W b hb hW hkW
            refine ⟨i + 1, xs.set i b, by omega, by go_num, by rw [List.length_set, HXL.out], hW.set (by rw [HXL.out]; exact hlt2) b, hkW.setCell (fun _ => rfl) _, fun j hj => ?_, fun j hj => ?_⟩
            · rw [List.getD_eq_getElem?_getD, List.getElem?_set]
              by_cases e : i = j
              · subst e
                rw [if_pos rfl, if_pos (by rw [HXL.out]; exact hlt2), hb]
                rfl
              · rw [if_neg e, ← List.getD_eq_getElem?_getD]
                exact HLO.out j (by omega)
            · rw [List.getD_eq_getElem?_getD, List.getElem?_set, if_neg (by omega), ← List.getD_eq_getElem?_getD]
              exact HHI.out j (by omega)
          obtain ⟨av, hav⟩ : ∃ b, (tvT (hd ++ lp) hd.length t1).getD i false = b := ⟨_, rfl⟩
          have ca : wr.cell? ⟨b7, i, none⟩ = some (.bool av) := by rw [← hav]; exact (HKR.out.cell (lt_of_cell (CA.out i hlt2)) (fun e => by simp only at e; omega)).trans (CA.out i hlt2)
          obtain ⟨bv, hbv⟩ : ∃ b, (tvT (hd ++ lp) hd.length t2).getD i false = b := ⟨_, rfl⟩
          have cb : wr.cell? ⟨b8, i, none⟩ = some (.bool bv) := by rw [← hbv]; exact (HKR.out.cell (lt_of_cell (CB.out i hlt2)) (fun e => by simp only at e; omega)).trans (CB.out i hlt2)
          have hval : (av || bv) = row.getD i false := by rw [← HRW.out, row_get5 HLA.out HLB.out hlt2, hav, hbv]
          have HV : Hid _ := hval
          clear hval hav hbv
          cases av
          all_goals
            go_wp2
            go_roundw
            case rel => exact HREL.out wr _ (by rw [← HV.out]; first | rfl | (cases bv <;> rfl)) HROW.out HKR.out
            case measure => simp [intOf]; omega
        · have hlti2 : ¬ (i : Int) < (n : Int) := by omega
          go_wp2
          go_ret
          refine ⟨ob, rfl, ?_⟩
          have e : xs = row := by
            apply List.ext_getElem?
            intro j
            by_cases hj : j < n
            · have h1 := HLO.out j (by omega)
              have hjz : j < xs.length := by rw [HXL.out]; exact hj
              have hjs : j < row.length := by rw [HLR.out]; exact hj
              rw [List.getD_eq_getElem?_getD, List.getD_eq_getElem?_getD, List.getElem?_eq_getElem hjz, List.getElem?_eq_getElem hjs] at h1
              rw [List.getElem?_eq_getElem hjz, List.getElem?_eq_getElem hjs]
              exact congrArg some h1
            · rw [List.getElem?_eq_none (by rw [HXL.out]; omega), List.getElem?_eq_none (by rw [HLR.out]; omega)]
          rw [HTV.out, ← e]
          exact HROW.out.rebase KW1.out
      · obtain ⟨t1, t2, rfl⟩ : ∃ t1 t2, kids = [t1, t2] := len_two (by have h := HKL.out; rw [show kidC 6 = 2 from rfl] at h; omega)
        have ht1 : t1.well := HKW.out.1
        have ht2 : t2.well := HKW.out.2.1
        obtain ⟨b7, rfl, rA⟩ := HA7.out t1 rfl
        obtain ⟨b8, rfl, rB⟩ := HB7.out t2 rfl
        have CA : Hid (∀ i, i < n → w7.cell? ⟨b7, i, none⟩ = some (.bool ((tvT (hd ++ lp) hd.length t1).getD i false))) := rA.cells (HTL.out t1 ht1)
        have CB : Hid (∀ i, i < n → w7.cell? ⟨b8, i, none⟩ = some (.bool ((tvT (hd ++ lp) hd.length t2).getD i false))) := rB.cells (HTL.out t2 ht2)
        have hb7 := rA.2.1
        have hb7l := rA.2.2.1
        have hb8 := rB.2.1
        have hb8l := rB.2.2.1
        have HLA : Hid ((tvT (hd ++ lp) hd.length t1).length = n) := HTL.out t1 ht1
        have HLB : Hid ((tvT (hd ++ lp) hd.length t2).length = n) := HTL.out t2 ht2
        clear rA rB
        obtain ⟨row, hrw⟩ : ∃ row, rowOp (hd ++ lp) hd.length 6 nn (tvT (hd ++ lp) hd.length t1) (tvT (hd ++ lp) hd.length t2) = row := ⟨_, rfl⟩
        have HTV : Hid (tvT (hd ++ lp) hd.length (.mk 6 nn [t1, t2]) = row) := by rw [Hid, tv_bi, hrw]
        have HLR : Hid (row.length = n) := by
          rw [Hid, ← HTV.out]
          exact HTL.out _ ⟨⟨by decide, by decide, rfl, hnn0, HNT.out⟩, HKW.out⟩
        have HRW : Hid (rowOp (hd ++ lp) hd.length 6 nn (tvT (hd ++ lp) hd.length t1) (tvT (hd ++ lp) hd.length t2) = row) := hrw
        have hxs : (hd ++ lp).length = n := by rw [List.length_append, hn]
        have HXS : Hid ((hd ++ lp).length = n) := hxs
        clear hrw hxs
        go_wp2
        go_loopw [12] (fun v12 ws => ∃ (k : Nat) (xs : List Bool), k ≤ n ∧ v12 = .int .i64 (k : Int) ∧ xs.length = n ∧ ORow w1 ws ob xs ∧ Kept (fun q => q = ob) w7 ws ∧ (∀ j, j < k → xs.getD j false = row.getD j false) ∧ ∀ j, k ≤ j → xs.getD j false = false) (fun v12 _ => n - (intOf v12).toNat)
        case atStart => exact ⟨0, List.replicate n false, Nat.zero_le _, rfl, by simp, OR7.out, Kept.refl _ _, fun j hj => absurd hj (by omega), fun j _ => by simp only [List.getD_eq_getElem?_getD, List.getElem?_replicate]; split <;> rfl⟩
        case round =>
        obtain ⟨i, xs, hi, rfl, hxl, hrow, hkr, hlo, hhi⟩ := hrel
        have HROW : Hid (ORow w1 wr ob xs) := hrow
        have HXL : Hid (xs.length = n) := hxl
        have HLO : Hid (∀ j, j < i → xs.getD j false = row.getD j false) := hlo
        have HHI : Hid (∀ j, i ≤ j → xs.getD j false = false) := hhi
        have HKR : Hid (Kept (fun q => q = ob) w7 wr) := hkr
        have kwr := KW1.out.trans hrow.1 (fun _ _ f => f)
        have d0 := (hkr.cell (lt_of_cell x70) (fun e => by simp only at e; omega)).trans x70
        have d1 := (hkr.cell (lt_of_cell x71) (fun e => by simp only at e; omega)).trans x71
        have g0 := (hkr.cell (lt_of_cell y70) (fun e => by simp only at e; omega)).trans y70
        have g1 := (hkr.cell (lt_of_cell y71) (fun e => by simp only at e; omega)).trans y71
        clear hrow hxl hlo hhi hkr
        by_cases hlt2 : i < n
        · have hlti2 : (i : Int) < (n : Int) := by omega
          have hnle2 : ¬ ((n : Int) ≤ (i : Int)) := by omega
          obtain ⟨cs, cz⟩ := HROW.out.2.2.2 i (by rw [HXL.out]; exact hlt2)
          have HREL : Hid (∀ (W : World) (b : Bool), b = row.getD i false → ORow w1 W ob xs → Kept (fun q => q = ob) w7 W → ∃ (k : Nat) (xs' : List Bool), k ≤ n ∧ Value.int .i64 ((i : Int) + 1) = .int .i64 (k : Int) ∧ xs'.length = n ∧ ORow w1 (W.setCell ⟨ob, i, none⟩ (.bool b)) ob xs' ∧ Kept (fun q => q = ob) w7 (W.setCell ⟨ob, i, none⟩ (.bool b)) ∧ (∀ j, j < k → xs'.getD j false = row.getD j false) ∧ ∀ j, k ≤ j → xs'.getD j false = false) := by
            intro W b hb hW hkW
            refine ⟨i + 1, xs.set i b, by omega, by go_num, by rw [List.length_set, HXL.out], hW.set (by rw [HXL.out]; exact hlt2) b, hkW.setCell (fun _ => rfl) _, fun j hj => ?_, fun j hj => ?_⟩
            · rw [List.getD_eq_getElem?_getD, List.getElem?_set]
              by_cases e : i = j
              · subst e
                rw [if_pos rfl, if_pos (by rw [HXL.out]; exact hlt2), hb]
                rfl
              · rw [if_neg e, ← List.getD_eq_getElem?_getD]
                exact HLO.out j (by omega)
            · rw [List.getD_eq_getElem?_getD, List.getElem?_set, if_neg (by omega), ← List.getD_eq_getElem?_getD]
              exact HHI.out j (by omega)
          obtain ⟨av, hav⟩ : ∃ b, (tvT (hd ++ lp) hd.length t1).getD i false = b := ⟨_, rfl⟩
          have ca : wr.cell? ⟨b7, i, none⟩ = some (.bool av) := by rw [← hav]; exact (HKR.out.cell (lt_of_cell (CA.out i hlt2)) (fun e => by simp only at e; omega)).trans (CA.out i hlt2)
          obtain ⟨bv, hbv⟩ : ∃ b, (tvT (hd ++ lp) hd.length t2).getD i false = b := ⟨_, rfl⟩
          have cb : wr.cell? ⟨b8, i, none⟩ = some (.bool bv) := by rw [← hbv]; exact (HKR.out.cell (lt_of_cell (CB.out i hlt2)) (fun e => by simp only at e; omega)).trans (CB.out i hlt2)
          have hval : (!av || bv) = row.getD i false := by rw [← HRW.out, row_get6 HLA.out HLB.out hlt2, hav, hbv]
          have HV : Hid _ := hval
          clear hval hav hbv
          cases av
          all_goals
            go_wp2
            go_roundw
            case rel => exact HREL.out wr _ (by rw [← HV.out]; first | rfl | (cases bv <;> rfl)) HROW.out HKR.out
            case measure => simp [intOf]; omega
        · have hlti2 : ¬ (i : Int) < (n : Int) := by omega
          go_wp2
          go_ret
          refine ⟨ob, rfl, ?_⟩
          have e : xs = row := by
            apply List.ext_getElem?
            intro j
            by_cases hj : j < n
            · have h1 := HLO.out j (by omega)
              have hjz : j < xs.length := by rw [HXL.out]; exact hj
              have hjs : j < row.length := by rw [HLR.out]; exact hj
              rw [List.getD_eq_getElem?_getD, List.getD_eq_getElem?_getD, List.getElem?_eq_getElem hjz, List.getElem?_eq_getElem hjs] at h1
              rw [List.getElem?_eq_getElem hjz, List.getElem?_eq_getElem hjs]
              exact congrArg some h1
            · rw [List.getElem?_eq_none (by rw [HXL.out]; omega), List.getElem?_eq_none (by rw [HLR.out]; omega)]
          rw [HTV.out, ← e]
          exact HROW.out.rebase KW1.out
      · obtain ⟨t1, rfl⟩ : ∃ t1, kids = [t1] := List.length_eq_one_iff.1 (by have h := HKL.out; rw [show kidC 7 = 1 from rfl] at h; omega)
        have ht1 : t1.well := HKW.out.1
        obtain ⟨b7, rfl, rA⟩ := HA7.out t1 rfl
        have CA : Hid (∀ i, i < n → w7.cell? ⟨b7, i, none⟩ = some (.bool ((tvT (hd ++ lp) hd.length t1).getD i false))) := rA.cells (HTL.out t1 ht1)
        have hb7 := rA.2.1
        have hb7l := rA.2.2.1
        have hA := HTL.out t1 ht1
        have HLA : Hid ((tvT (hd ++ lp) hd.length t1).length = n) := hA
        clear rA hA
        obtain ⟨row, hrw⟩ : ∃ row, rowOp (hd ++ lp) hd.length 7 nn (tvT (hd ++ lp) hd.length t1) [] = row := ⟨_, rfl⟩
        have HTV : Hid (tvT (hd ++ lp) hd.length (.mk 7 nn [t1]) = row) := by rw [Hid, tv_un, hrw]
        have HLR : Hid (row.length = n) := by
          rw [Hid, ← HTV.out]
          exact HTL.out _ ⟨⟨by decide, by decide, rfl, hnn0, HNT.out⟩, HKW.out⟩
        have HRW : Hid (rowOp (hd ++ lp) hd.length 7 nn (tvT (hd ++ lp) hd.length t1) [] = row) := hrw
        have hxs : (hd ++ lp).length = n := by rw [List.length_append, hn]
        have HXS : Hid ((hd ++ lp).length = n) := hxs
        clear hrw hxs
        go_wp2
        go_loopw [12] (fun v12 ws => ∃ (k : Nat) (xs : List Bool), k ≤ n ∧ v12 = .int .i64 (k : Int) ∧ xs.length = n ∧ ORow w1 ws ob xs ∧ Kept (fun q => q = ob) w7 ws ∧ (∀ j, j < k → xs.getD j false = row.getD j false) ∧ ∀ j, k ≤ j → xs.getD j false = false) (fun v12 _ => n - (intOf v12).toNat)
        case atStart => exact ⟨0, List.replicate n false, Nat.zero_le _, rfl, by simp, OR7.out, Kept.refl _ _, fun j hj => absurd hj (by omega), fun j _ => by simp only [List.getD_eq_getElem?_getD, List.getElem?_replicate]; split <;> rfl⟩
        case round =>
        obtain ⟨i, xs, hi, rfl, hxl, hrow, hkr, hlo, hhi⟩ := hrel
        have HROW : Hid (ORow w1 wr ob xs) := hrow
        have HXL : Hid (xs.length = n) := hxl
        have HLO : Hid (∀ j, j < i → xs.getD j false = row.getD j false) := hlo
        have HHI : Hid (∀ j, i ≤ j → xs.getD j false = false) := hhi
        have HKR : Hid (Kept (fun q => q = ob) w7 wr) := hkr
        have kwr := KW1.out.trans hrow.1 (fun _ _ f => f)
        have d0 := (hkr.cell (lt_of_cell x70) (fun e => by simp only at e; omega)).trans x70
        have d1 := (hkr.cell (lt_of_cell x71) (fun e => by simp only at e; omega)).trans x71
        have g0 := (hkr.cell (lt_of_cell y70) (fun e => by simp only at e; omega)).trans y70
        have g1 := (hkr.cell (lt_of_cell y71) (fun e => by simp only at e; omega)).trans y71
        clear hrow hxl hlo hhi hkr
        by_cases hlt2 : i < n
        · have hlti2 : (i : Int) < (n : Int) := by omega
          have hnle2 : ¬ ((n : Int) ≤ (i : Int)) := by omega
          obtain ⟨cs, cz⟩ := HROW.out.2.2.2 i (by rw [HXL.out]; exact hlt2)
          have HREL : Hid (∀ (W : World) (b : Bool), b = row.getD i false → ORow w1 W ob xs → Kept (fun q => q = ob) w7 W → ∃ (k : Nat) (xs' : List Bool), k ≤ n ∧ Value.int .i64 ((i : Int) + 1) = .int .i64 (k : Int) ∧ xs'.length = n ∧ ORow w1 (W.setCell ⟨ob, i, none⟩ (.bool b)) ob xs' ∧ Kept (fun q => q = ob) w7 (W.setCell ⟨ob, i, none⟩ (.bool b)) ∧ (∀ j, j < k → xs'.getD j false = row.getD j false) ∧ ∀ j, k ≤ j → xs'.getD j false = false) := by
            intro W b hb hW hkW
            refine ⟨i + 1, xs.set i b, by omega, by go_num, by rw [List.length_set, HXL.out], hW.set (by rw [HXL.out]; exact hlt2) b, hkW.setCell (fun _ => rfl) _, fun j hj => ?_, fun j hj => ?_⟩
            · rw [List.getD_eq_getElem?_getD, List.getElem?_set]
              by_cases e : i = j
              · subst e
                rw [if_pos rfl, if_pos (by rw [HXL.out]; exact hlt2), hb]
                rfl
              · rw [if_neg e, ← List.getD_eq_getElem?_getD]
                exact HLO.out j (by omega)
            · rw [List.getD_eq_getElem?_getD, List.getElem?_set, if_neg (by omega), ← List.getD_eq_getElem?_getD]
              exact HHI.out j (by omega)
          obtain ⟨q, hq⟩ : ∃ q, (if i + 1 = n then hd.length else i + 1) = q := ⟨_, rfl⟩
          have hqn : q < n := by
            rw [← hq]
            by_cases e : i + 1 = n
            · rw [if_pos e]; exact hL
            · rw [if_neg e]; omega
          have hnq : ¬ ((n : Int) ≤ (q : Int)) := by omega
          obtain ⟨av, hav⟩ : ∃ b, (tvT (hd ++ lp) hd.length t1).getD q false = b := ⟨_, rfl⟩
          have ca : wr.cell? ⟨b7, q, none⟩ = some (.bool av) := by rw [← hav]; exact (HKR.out.cell (lt_of_cell (CA.out q hqn)) (fun e => by simp only at e; omega)).trans (CA.out q hqn)
          have hval : av = row.getD i false := by rw [← HRW.out, row_get7 HLA.out hlt2, hq, hav]
          have HV : Hid _ := hval
          have HQ : Hid ((if i + 1 = n then hd.length else i + 1) = q) := hq
          have HWr : Hid (WordV B wr (.agg #[.slice ha hd.length hc, .slice la lp.length lc]) hd lp) := HW.out.kept kwr hB
          have hBr := Nat.le_trans hB kwr.size
          clear hval hav hq
          go_wp2_with (go_at_call 110; refine (behind112 _ B _ hd lp n i q hn hn2 hlt2 HQ.out HWr.out hBr).mono ?_; rintro e w9 ⟨k9, rfl⟩; have ca9 := (k9.cell (lt_of_cell ca) (fun f => f)).trans ca; have cs9 := (k9.cell (lt_of_cell cs) (fun f => f)).trans cs; have cz9 := (k9.frozen (lt_of_cell cs) (fun f => f)).trans cz)
          go_roundw
          case rel => exact HREL.out w9 av HV.out (HROW.out.kept k9) (HKR.out.trans k9 (fun _ _ f => f.elim))
          case measure => simp [intOf]; omega
        · have hlti2 : ¬ (i : Int) < (n : Int) := by omega
          go_wp2
          go_ret
          refine ⟨ob, rfl, ?_⟩
          have e : xs = row := by
            apply List.ext_getElem?
            intro j
            by_cases hj : j < n
            · have h1 := HLO.out j (by omega)
              have hjz : j < xs.length := by rw [HXL.out]; exact hj
              have hjs : j < row.length := by rw [HLR.out]; exact hj
              rw [List.getD_eq_getElem?_getD, List.getD_eq_getElem?_getD, List.getElem?_eq_getElem hjz, List.getElem?_eq_getElem hjs] at h1
              rw [List.getElem?_eq_getElem hjz, List.getElem?_eq_getElem hjs]
              exact congrArg some h1
            · rw [List.getElem?_eq_none (by rw [HXL.out]; omega), List.getElem?_eq_none (by rw [HLR.out]; omega)]
          rw [HTV.out, ← e]
          exact HROW.out.rebase KW1.out
      · obtain ⟨t1, t2, rfl⟩ : ∃ t1 t2, kids = [t1, t2] := len_two (by have h := HKL.out; rw [show kidC 8 = 2 from rfl] at h; omega)
        have ht1 : t1.well := HKW.out.1
        have ht2 : t2.well := HKW.out.2.1
        obtain ⟨b7, rfl, rA⟩ := HA7.out t1 rfl
        obtain ⟨b8, rfl, rB⟩ := HB7.out t2 rfl
        have CA : Hid (∀ i, i < n → w7.cell? ⟨b7, i, none⟩ = some (.bool ((tvT (hd ++ lp) hd.length t1).getD i false))) := rA.cells (HTL.out t1 ht1)
        have CB : Hid (∀ i, i < n → w7.cell? ⟨b8, i, none⟩ = some (.bool ((tvT (hd ++ lp) hd.length t2).getD i false))) := rB.cells (HTL.out t2 ht2)
        have hb7 := rA.2.1
        have hb7l := rA.2.2.1
        have hb8 := rB.2.1
        have hb8l := rB.2.2.1
        have HLA : Hid ((tvT (hd ++ lp) hd.length t1).length = n) := HTL.out t1 ht1
        have HLB : Hid ((tvT (hd ++ lp) hd.length t2).length = n) := HTL.out t2 ht2
        clear rA rB
        go_wp2_with (go_at_call 109; refine (later8 _ B _ hd lp (tvT (hd ++ lp) hd.length t1) (tvT (hd ++ lp) hd.length t2) b7 b8 n hn2 hn HLA.out HLB.out hlen.2 HW7.out hB7 CA.out CB.out).mono ?_; rintro e w9 ⟨b9, rfl, row9⟩)
        go_ret
        refine ⟨b9, rfl, ?_⟩
        have h := row9.rebase KW7.out
        rw [tv_bi]
        exact h
      · obtain ⟨t1, t2, rfl⟩ : ∃ t1 t2, kids = [t1, t2] := len_two (by have h := HKL.out; rw [show kidC 9 = 2 from rfl] at h; omega)
        have ht1 : t1.well := HKW.out.1
        have ht2 : t2.well := HKW.out.2.1
        obtain ⟨b7, rfl, rA⟩ := HA7.out t1 rfl
        obtain ⟨b8, rfl, rB⟩ := HB7.out t2 rfl
        have CA : Hid (∀ i, i < n → w7.cell? ⟨b7, i, none⟩ = some (.bool ((tvT (hd ++ lp) hd.length t1).getD i false))) := rA.cells (HTL.out t1 ht1)
        have CB : Hid (∀ i, i < n → w7.cell? ⟨b8, i, none⟩ = some (.bool ((tvT (hd ++ lp) hd.length t2).getD i false))) := rB.cells (HTL.out t2 ht2)
        have hb7 := rA.2.1
        have hb7l := rA.2.2.1
        have hb8 := rB.2.1
        have hb8l := rB.2.2.1
        have HLA : Hid ((tvT (hd ++ lp) hd.length t1).length = n) := HTL.out t1 ht1
        have HLB : Hid ((tvT (hd ++ lp) hd.length t2).length = n) := HTL.out t2 ht2
        clear rA rB
        go_wp2_with (go_at_call 109; refine (later9 _ B _ hd lp (tvT (hd ++ lp) hd.length t1) (tvT (hd ++ lp) hd.length t2) b7 b8 n hn2 hn HLA.out HLB.out hlen.2 HW7.out hB7 CA.out CB.out).mono ?_; rintro e w9 ⟨b9, rfl, row9⟩)
        go_ret
        refine ⟨b9, rfl, ?_⟩
        have h := row9.rebase KW7.out
        rw [tv_bi]
        exact h
      · obtain ⟨t1, rfl⟩ : ∃ t1, kids = [t1] := List.length_eq_one_iff.1 (by have h := HKL.out; rw [show kidC 10 = 1 from rfl] at h; omega)
        have ht1 : t1.well := HKW.out.1
        obtain ⟨b7, rfl, rA⟩ := HA7.out t1 rfl
        have CA : Hid (∀ i, i < n → w7.cell? ⟨b7, i, none⟩ = some (.bool ((tvT (hd ++ lp) hd.length t1).getD i false))) := rA.cells (HTL.out t1 ht1)
        have hb7 := rA.2.1
        have hb7l := rA.2.2.1
        have hA := HTL.out t1 ht1
        have HLA : Hid ((tvT (hd ++ lp) hd.length t1).length = n) := hA
        clear rA hA
        go_wp2_with (go_at_call 109; refine (later8 _ B _ hd lp (List.replicate n true) (tvT (hd ++ lp) hd.length t1) _ b7 n hn2 hn (by simp) HLA.out hlen.2 HW7.out hB7 CALL.out CA.out).mono ?_; rintro e w9 ⟨b9, rfl, row9⟩)
        go_ret
        refine ⟨b9, rfl, ?_⟩
        have h := row9.rebase KW7.out
        rw [tv_un, show rowOp (hd ++ lp) hd.length 10 nn (tvT (hd ++ lp) hd.length t1) [] = backRow pFin false (tvT (hd ++ lp) hd.length t1) (tvT (hd ++ lp) hd.length t1) hd.length from rfl, ← back_fin HLA.out hL]
        exact h
      · obtain ⟨t1, rfl⟩ : ∃ t1, kids = [t1] := List.length_eq_one_iff.1 (by have h := HKL.out; rw [show kidC 11 = 1 from rfl] at h; omega)
        have ht1 : t1.well := HKW.out.1
        obtain ⟨b7, rfl, rA⟩ := HA7.out t1 rfl
        have CA : Hid (∀ i, i < n → w7.cell? ⟨b7, i, none⟩ = some (.bool ((tvT (hd ++ lp) hd.length t1).getD i false))) := rA.cells (HTL.out t1 ht1)
        have hb7 := rA.2.1
        have hb7l := rA.2.2.1
        have hA := HTL.out t1 ht1
        have HLA : Hid ((tvT (hd ++ lp) hd.length t1).length = n) := hA
        clear rA hA
        go_wp2_with (go_at_call 109; refine (later9 _ B _ hd lp (List.replicate n false) (tvT (hd ++ lp) hd.length t1) _ b7 n hn2 hn (by simp) HLA.out hlen.2 HW7.out hB7 CNONE.out CA.out).mono ?_; rintro e w9 ⟨b9, rfl, row9⟩)
        go_ret
        refine ⟨b9, rfl, ?_⟩
        have h := row9.rebase KW7.out
        rw [tv_un, show rowOp (hd ++ lp) hd.length 11 nn (tvT (hd ++ lp) hd.length t1) [] = backRow pGlob true (tvT (hd ++ lp) hd.length t1) (tvT (hd ++ lp) hd.length t1) hd.length from rfl, ← back_glob HLA.out hL]
        exact h
end Go.Proofs.YtdbpdanocpfboaaDoor
