import Derived.Test.YtdbpdanocpfboabGreatDoorZBun05
/- The law's Given: a model for the program. -/
namespace Go.Proofs.YtdbpdanocpfboabGreatDoor
open Go.RowKit

theorem not_nil (b : Nat) : ¬ inRow (.slice none 0 0) b := fun h => by cases h
theorem strs_one (xs : List ByteArray) : ∀ c ∈ xs.map Value.string, c.oneCell' = true := fun c h => by
  obtain ⟨x, _, rfl⟩ := List.mem_map.1 h
  rfl
theorem ints_one (xs : List Int) : ∀ c ∈ xs.map (Value.int .i64), c.oneCell' = true := fun c h => by
  obtain ⟨x, _, rfl⟩ := List.mem_map.1 h
  rfl

set_option maxRecDepth 100000 in
set_option maxHeartbeats 8000000 in
theorem given14 (w : World) (B : Nat) (v : Value) (m : MD) (hm : ModV B w v m) (hB : B ≤ w.heap.size) (hn : m.names.length ≤ 8796093022208) (ht : m.tos.length ≤ 5864062014805) :
    Calls Tryz.prog 14 #[v] w fun e w' => Kept (fun _ => False) w w' ∧ ∃ u, e = .returned u ∧ ModV w'.heap.size w' u m := by
  obtain ⟨nv, lv, tv, rfl, hnv, hlv, rs, hrl, htv, hr⟩ := id hm.ex
  obtain ⟨na, nc, rfl, _⟩ := hnv.form
  obtain ⟨la, lc, rfl, hll⟩ := hlv.form
  obtain ⟨ta, tc, rfl, _⟩ := htv.form
  rw [hrl] at htv hm ⊢
  obtain ⟨W0, hW0⟩ : ∃ W0, W0 = ((w.alloc (.cells #[.slice na m.names.length nc, .slice la m.letters.length lc, .slice ta m.tos.length tc] 30)).alloc (.cells #[.slice none 0 0, .slice none 0 0, .slice none 0 0] 26)).alloc (.cells #[.slice none 0 0, .slice none 0 0, .slice none 0 0] 26) := ⟨_, rfl⟩
  have k0 : Kept (fun _ => False) w W0 := by rw [hW0]; exact (((Kept.refl _ _).alloc _).alloc _).alloc _
  have b0 : W0.heap[w.heap.size]? = some (.cells #[.slice na m.names.length nc, .slice la m.letters.length lc, .slice ta m.tos.length tc] 30 (0, 0)) := by
    rw [hW0]
    exact (Below.heap_alloc _ _ _ (by simp; omega)).trans ((Below.heap_alloc _ _ _ (by simp)).trans (alloc_blk _ _))
  have b1 : W0.heap[w.heap.size + 1]? = some (.cells #[.slice none 0 0, .slice none 0 0, .slice none 0 0] 26 (0, 0)) := by
    rw [hW0]
    have := alloc_blk (w.alloc (.cells #[.slice na m.names.length nc, .slice la m.letters.length lc, .slice ta m.tos.length tc] 30)) (.cells #[.slice none 0 0, .slice none 0 0, .slice none 0 0] 26)
    exact (Below.heap_alloc _ _ _ (by simp)).trans (by simpa using this)
  have b2 : W0.heap[w.heap.size + 1 + 1]? = some (.cells #[.slice none 0 0, .slice none 0 0, .slice none 0 0] 26 (0, 0)) := by
    rw [hW0]
    have := alloc_blk ((w.alloc (.cells #[.slice na m.names.length nc, .slice la m.letters.length lc, .slice ta m.tos.length tc] 30)).alloc (.cells #[.slice none 0 0, .slice none 0 0, .slice none 0 0] 26)) (.cells #[.slice none 0 0, .slice none 0 0, .slice none 0 0] 26)
    simpa using this
  have hz0 : w.heap.size + 1 + 1 < W0.heap.size := (Array.getElem?_eq_some_iff.1 b2).1
  have HK0 : Hid (Kept (fun _ => False) w W0) := k0
  have HB0 : Hid (∀ W, Kept (fun k => k = w.heap.size + 1 + 1) W0 W → W.cell? ⟨w.heap.size, 0, none⟩ = some (.slice na m.names.length nc) ∧ W.cell? ⟨w.heap.size, 1, none⟩ = some (.slice la m.letters.length lc) ∧ W.cell? ⟨w.heap.size, 2, none⟩ = some (.slice ta m.tos.length tc) ∧ W.heap[w.heap.size + 1]? = some (.cells #[.slice none 0 0, .slice none 0 0, .slice none 0 0] 26 (0, 0)) ∧ StrsV B W (.slice na m.names.length nc) m.names ∧ IntsV B W (.slice la m.letters.length lc) m.letters ∧ LsV B W (.slice ta m.tos.length tc) rs ∧ (∀ (i : Nat) (r : Value) (row : List Int), rs[i]? = some r → m.tos[i]? = some row → IntsV B W r row)) := fun W hk => by
    have hbe : Below B w W := (k0.below hB (fun _ f => f.elim)).trans (hk.below (Nat.le_trans hB k0.size) (fun k e => by omega))
    refine ⟨?_, ?_, ?_, ?_, hnv.below hbe, hlv.below hbe, htv.below hbe, fun i r row h1 h2 => (hr i r row h1 h2).below hbe⟩
    · exact (hk.cell (p := ⟨w.heap.size, 0, none⟩) (lt_of_cell (blk_cell b0 0)) (by simp only; omega)).trans (blk_cell b0 0)
    · exact (hk.cell (p := ⟨w.heap.size, 1, none⟩) (lt_of_cell (blk_cell b0 1)) (by simp only; omega)).trans (blk_cell b0 1)
    · exact (hk.cell (p := ⟨w.heap.size, 2, none⟩) (lt_of_cell (blk_cell b0 2)) (by simp only; omega)).trans (blk_cell b0 2)
    · exact (hk.block _ (by omega) (by omega)).trans b1
  have HM0 : Hid (W0.heap[w.heap.size + 1 + 1]? = some (.cells #[.slice none 0 0, .slice none 0 0, .slice none 0 0] 26 (0, 0))) := b2
  obtain ⟨i9, hi9, hv0, hv1, hv2⟩ := info_parts info9
  obtain ⟨i3, hi3, hy0, hy1, hy2⟩ := info_parts info3
  obtain ⟨i23, hi23, hx0, hx1, hx2⟩ := info_parts info23
  clear hm hnv hlv htv hr b0 b1 b2 k0
  go_enter Tryz.func14, Tryz.ntmps14
  go_upto_region 2 with fail
  generalize hN : w.heap.size + 1 + 1 = N at *
  rw [← hW0]
  clear hW0
  obtain ⟨x0, x1, x2, _, hsV, hlV, _⟩ := HB0.out W0 (Kept.refl _ _)
  have HS : Hid (StrsV B W0 (.slice na m.names.length nc) m.names) := hsV
  have HL : Hid (IntsV B W0 (.slice la m.letters.length lc) m.letters) := hlV
  have n0 : W0.cell? ⟨N, 0, none⟩ = some (.slice none 0 0) := blk_cell HM0.out 0
  clear hsV hlV
  go_upto_region 3 with (at_builtin; go_must (refine wpList_append_ls rfl _ _ 22 rfl W0.heap.size 9 i9 _ 16 Tryz.underlying22 hi9 hv0 hv1 hv2 rfl (.slice none 0 0) 0 [] rfl (World.ownsRow_nil _ _ _ _) B _ (m.names.map Value.string) rfl HS.out (strs_one _) (by unfold maxLen; simp; omega) (by simp; omega) (Nat.le_refl _) ?_); intro nv' w1 hown1 hk1 hloc1; simp only [List.nil_append, Nat.zero_add, List.length_map] at hown1; have hk1' : Kept (fun _ => False) W0 w1 := hk1.mono (fun k _ e => not_nil k e); have hM1 := (hk1'.block N (by omega) (fun f => f)).trans HM0.out; have d0 : w1.cell? ⟨N, 0, none⟩ = some (.slice none 0 0) := blk_cell hM1 0; have d1 := blk_frozen hM1 0; obtain ⟨na', nc', hnf, _⟩ := (own_ls hown1 (by simp; omega)).form; simp only [List.length_map] at hnf; subst hnf)
  obtain ⟨w2, hw2⟩ : ∃ w2, w2 = w1.setCell ⟨N, 0, none⟩ (.slice na' m.names.length nc') := ⟨_, rfl⟩
  have hs2 : Kept (fun k => k = N) w1 w2 := by rw [hw2]; exact Kept.setCell (S := fun k => k = N) (Kept.refl _ _) (fun _ => rfl) _
  have HM2 : Hid (w2.heap[N]? = some (.cells #[.slice na' m.names.length nc', .slice none 0 0, .slice none 0 0] 26 (0, 0))) := by rw [Hid, hw2]; exact heap_setCell_same _ _ _ _ _ _ hM1
  have HN2 : Hid (w2.ownsRow W0.heap.size 9 1 (.slice na' m.names.length nc') m.names.length (m.names.map Value.string)) := own_keptM hown1 hs2 (row_blk hown1 hM1 (by decide))
  have HK2 : Hid (Kept (fun k => k = N) W0 w2) := (hk1'.mono (fun _ _ f => f.elim)).trans hs2 (fun _ _ e => e)
  rw [← hw2]
  clear hw2 hs2 hM1 d0 d1 hown1 hk1 hk1' hloc1 n0 x0 x1 x2
  obtain ⟨x0, x1, x2, _, _, hlV, _⟩ := HB0.out w2 HK2.out
  have HL2 : Hid (IntsV B w2 (.slice la m.letters.length lc) m.letters) := hlV
  have n1 : w2.cell? ⟨N, 1, none⟩ = some (.slice none 0 0) := blk_cell HM2.out 1
  have hz2 := HK2.out.size
  clear hlV
  go_upto_region 4 with (at_builtin; go_must (refine wpList_append_ls rfl _ _ 23 rfl W0.heap.size 3 i3 _ 8 Tryz.underlying23 hi3 hy0 hy1 hy2 rfl (.slice none 0 0) 0 [] rfl (World.ownsRow_nil _ _ _ _) B _ (m.letters.map (Value.int .i64)) rfl HL2.out.ls (ints_one _) (by unfold maxLen; simp; omega) (by simp; omega) hz2 ?_); intro lv' w3 hown3 hk3 hloc3; simp only [List.nil_append, Nat.zero_add, List.length_map] at hown3; have hk3' : Kept (fun _ => False) w2 w3 := hk3.mono (fun k _ e => not_nil k e); have hM3 := (hk3'.block N (by omega) (fun f => f)).trans HM2.out; have d0 : w3.cell? ⟨N, 1, none⟩ = some (.slice none 0 0) := blk_cell hM3 1; have d1 := blk_frozen hM3 1; obtain ⟨la', lc', hlf, _⟩ := (own_ls hown3 (by simp; omega)).form; simp only [List.length_map] at hlf; subst hlf)
  obtain ⟨w4, hw4⟩ : ∃ w4, w4 = w3.setCell ⟨N, 1, none⟩ (.slice la' m.letters.length lc') := ⟨_, rfl⟩
  have hs4 : Kept (fun k => k = N) w3 w4 := by rw [hw4]; exact Kept.setCell (S := fun k => k = N) (Kept.refl _ _) (fun _ => rfl) _
  have HM4 : Hid (w4.heap[N]? = some (.cells #[.slice na' m.names.length nc', .slice la' m.letters.length lc', .slice none 0 0] 26 (0, 0))) := by rw [Hid, hw4]; exact heap_setCell_same _ _ _ _ _ _ hM3
  have HL4 : Hid (w4.ownsRow W0.heap.size 3 1 (.slice la' m.letters.length lc') m.letters.length (m.letters.map (Value.int .i64))) := own_keptM hown3 hs4 (row_blk hown3 hM3 (by decide))
  have HN4 : Hid (w4.ownsRow W0.heap.size 9 1 (.slice na' m.names.length nc') m.names.length (m.names.map Value.string)) := own_keptM (own_new HN2.out hk3') hs4 (row_blk (own_new HN2.out hk3') hM3 (by decide))
  have HK4 : Hid (Kept (fun k => k = N) W0 w4) := HK2.out.trans (((hk3'.mono (fun _ _ f => f.elim)).trans hs4 (fun _ _ e => e)) : Kept (fun k => k = N) w2 w4) (fun _ _ e => e)
  rw [← hw4]
  clear hw4 hs4 hM3 d0 d1 hown3 hk3 hk3' hloc3 n1 x0 x1 x2 HN2 HM2 HK2 HL2 hz2
  have hz4 := HK4.out.size
  go_wp2
  go_loopw [4] (fun iv W => ∃ (i : Nat) (tv : Value) (trs : List Value), i ≤ m.tos.length ∧ iv = .int .i64 i ∧ trs.length = i ∧ Kept (fun k => k = N) w4 W ∧ W.heap[N]? = some (.cells #[.slice na' m.names.length nc', .slice la' m.letters.length lc', tv] 26 (0, 0)) ∧ W.ownsRow w4.heap.size 23 1 tv i trs ∧
    ∀ (j : Nat) (r : Value) (row : List Int), trs[j]? = some r → m.tos[j]? = some row → LsS (fun k => k < W.heap.size ∧ TyB W k 3) W r (row.map (Value.int .i64))) (fun iv _ => m.tos.length - (intOf iv).toNat)
  case atStart => exact ⟨0, .slice none 0 0, [], Nat.zero_le _, rfl, rfl, Kept.refl _ _, HM4.out, World.ownsRow_nil _ _ _ _, fun j r row h => by simp at h⟩
  case round =>
    obtain ⟨i, tv, trs, hi0, rfl, htl, hkW, hMW, htv, hrows⟩ := hrel
    have HT : Hid (wr.ownsRow w4.heap.size 23 1 tv i trs) := htv
    have HRO : Hid (∀ (j : Nat) (r : Value) (row : List Int), trs[j]? = some r → m.tos[j]? = some row → LsS (fun k => k < wr.heap.size ∧ TyB wr k 3) wr r (row.map (Value.int .i64))) := hrows
    have HKW : Hid (Kept (fun k => k = N) w4 wr) := hkW
    have HMW : Hid (wr.heap[N]? = some (.cells #[.slice na' m.names.length nc', .slice la' m.letters.length lc', tv] 26 (0, 0))) := hMW
    have HTL : Hid (trs.length = i) := htl
    clear htv hrows hkW hMW htl
    obtain ⟨x0, x1, x2, hres, _, _, hT, hR⟩ := HB0.out wr (HK4.out.trans HKW.out (fun _ _ e => e))
    have hzr := HKW.out.size
    by_cases hlt : i < m.tos.length
    · have hli : (i : Int) < (m.tos.length : Int) := by omega
      have hri : i < rs.length := by omega
      obtain ⟨tb, tof, rfl, _, ct⟩ := hT.cell (List.getElem?_eq_getElem hri)
      obtain ⟨row, hrow⟩ : ∃ row, m.tos[i]? = some row := ⟨_, List.getElem?_eq_getElem hlt⟩
      have hrV := hR i rs[i] row (List.getElem?_eq_getElem hri) hrow
      obtain ⟨ra, rc, hrf, hrow2⟩ := hrV.form
      rw [hrf] at ct hrV
      have HRV : Hid (IntsV B wr (.slice ra row.length rc) row) := hrV
      have n2 : wr.cell? ⟨N, 2, none⟩ = some tv := blk_cell HMW.out 2
      have hNr : N < wr.heap.size := by omega
      clear hT hR hrV hres hrf
      go_upto_region 9 with (at_builtin; go_must (refine wpList_append_ls rfl _ _ 23 rfl wr.heap.size 3 i3 _ 8 Tryz.underlying23 hi3 hy0 hy1 hy2 rfl (.slice none 0 0) 0 [] rfl (World.ownsRow_nil _ _ _ _) B _ (row.map (Value.int .i64)) rfl HRV.out.ls (ints_one _) (by unfold maxLen; simp; omega) (by simp; omega) (Nat.le_refl _) ?_); intro ov w5 hown5 hk5 hloc5; simp only [List.nil_append, Nat.zero_add, List.length_map] at hown5; have hk5' : Kept (fun _ => False) wr w5 := hk5.mono (fun k _ e => not_nil k e); obtain ⟨oa, oc, hof, _⟩ := (own_ls hown5 (by simp; omega)).form; simp only [List.length_map] at hof; subst hof)
      have HO5 : Hid (w5.ownsRow wr.heap.size 3 1 (.slice oa row.length oc) row.length (row.map (Value.int .i64))) := hown5
      have HK5 : Hid (Kept (fun _ => False) wr w5) := hk5'
      have HM5 : Hid (w5.heap[N]? = some (.cells #[.slice na' m.names.length nc', .slice la' m.letters.length lc', tv] 26 (0, 0))) := (hk5'.block N hNr (fun f => f)).trans HMW.out
      have HT5 : Hid (w5.ownsRow w4.heap.size 23 1 tv i trs) := own_new HT.out hk5'
      have hz5 := hk5'.size
      clear hown5 hk5 hk5' hloc5 n2 x0 x1 x2 ct
      have n2 : w5.cell? ⟨N, 2, none⟩ = some tv := blk_cell HM5.out 2
      go_wp2_with (at_builtin; go_must (refine wpList_append_own_at _ rfl _ _ 24 rfl w4.heap.size 23 i23 _ 1 24 Tryz.underlying24 hi23 hx0 hx1 hx2 rfl (by decide) tv i _ rfl (World.ownsRow.alloc HT5.out _) ⟨w5.heap.size, 0, none⟩ 1 1 [.slice oa row.length oc] rfl rfl (cell_one_new _ _ _) (by intro y hy; simp at hy; rcases hy with rfl; rfl) (by unfold maxLen; omega) (by omega) (by simp; omega) ?_); intro tv6 w6 hown6 hgrow6 hnil6 hloc6; obtain ⟨g6, cap6, rfl⟩ := ownsRow_form hown6; have hg6 : Kept (fun b => inRow tv b) w5 w6 := ((Kept.refl _ _).alloc _).grown hgrow6 (fun k _ e => e); have hM6 := (hg6.block _ (Array.getElem?_eq_some_iff.1 HM5.out).1 (row_blk HT5.out HM5.out (by decide))).trans HM5.out; have d0 : w6.cell? ⟨N, 2, none⟩ = some tv := blk_cell hM6 2; have d1 := blk_frozen hM6 2)
      go_roundw
      case rel =>
        have hz6 := hg6.size
        have hTL := HTL.out
        obtain ⟨w7, hw7⟩ : ∃ w7, w7 = w6.setCell ⟨N, 2, none⟩ (.slice (some ⟨g6, 0, none⟩) (i + 1) cap6) := ⟨_, rfl⟩
        have hs7 : Kept (fun k => k = N) w6 w7 := by rw [hw7]; exact Kept.setCell (S := fun k => k = N) (Kept.refl _ _) (fun _ => rfl) _
        have hM7 : w7.heap[N]? = some (.cells #[.slice na' m.names.length nc', .slice la' m.letters.length lc', .slice (some ⟨g6, 0, none⟩) (i + 1) cap6] 26 (0, 0)) := by rw [hw7]; exact heap_setCell_same _ _ _ _ _ _ hM6
        have htv7 := own_keptM hown6 hs7 (row_blk hown6 hM6 (by decide))
        have hbl : ∀ k, k < w5.heap.size → TyB w5 k 3 → w7.heap[k]? = w5.heap[k]? := fun k hk ht => (hs7.block k (Nat.lt_of_lt_of_le hk hz6) (ht.ne HM5.out (by decide))).trans (hg6.block k hk (fun e => by
          obtain ⟨c, hc⟩ := row_ty HT5.out e
          obtain ⟨c', hc'⟩ := ht
          rw [hc] at hc'
          injection hc' with hc'
          injection hc' with _ hc'
          exact absurd hc' (by decide)))
        have hz7 := hs7.size
        refine ⟨i + 1, .slice (some ⟨g6, 0, none⟩) (i + 1) cap6, trs ++ [.slice oa row.length oc], by omega, by simp, by simp [hTL], ?_, ?_, ?_, ?_⟩
        · rw [← hw7]
          exact (((HKW.out.trans HK5.out (fun _ _ f => f.elim)) : Kept (fun k => k = N) w4 w5).trans hg6 (fun k hk e => absurd (ownsRow_lt HT5.out e).2 (by omega))).trans hs7 (fun _ _ e => e)
        · rw [← hw7]; exact hM7
        · rw [← hw7]; exact htv7
        · rw [← hw7]
          intro j r row' h1 h2
          rw [List.getElem?_append] at h1
          by_cases hj' : j < trs.length
          · rw [if_pos hj'] at h1
            refine (HRO.out j r row' h1 h2).keep (fun k e => ⟨by have := e.1; omega, ?_⟩) (fun k e => ?_)
            · have hk' : w5.heap[k]? = wr.heap[k]? := HK5.out.block k e.1 (fun f => f)
              have ht := e.2.of hk'
              exact ht.of (hbl k (by have := e.1; omega) ht)
            · have hk' : w5.heap[k]? = wr.heap[k]? := HK5.out.block k e.1 (fun f => f)
              exact (hbl k (by have := e.1; omega) (e.2.of hk')).trans hk'
          · rw [if_neg hj'] at h1
            have e0 : j - trs.length = 0 := by
              by_cases hz : j - trs.length = 0
              · exact hz
              · rw [List.getElem?_eq_none (by simp; omega)] at h1; cases h1
            have e1 : j = i := by omega
            rw [e0] at h1
            rw [e1, hrow] at h2
            simp at h1 h2
            subst h1 h2
            refine (own_lss HO5.out (by simp; omega)).keep (fun k e => ⟨?_, ?_⟩) (fun k e => hbl k (ownsRow_lt HO5.out e).1 (row_ty HO5.out e))
            · have := (ownsRow_lt HO5.out e).1; omega
            · exact TyB.of (w := w5) (row_ty HO5.out e) (hbl k (ownsRow_lt HO5.out e).1 (row_ty HO5.out e))
      case measure => simp [intOf]; omega
    · obtain rfl : i = m.tos.length := by omega
      have c0 : wr.cell? ⟨N, 0, none⟩ = some (.slice na' m.names.length nc') := blk_cell HMW.out 0
      have c1 : wr.cell? ⟨N, 1, none⟩ = some (.slice la' m.letters.length lc') := blk_cell HMW.out 1
      have c2 : wr.cell? ⟨N, 2, none⟩ = some tv := blk_cell HMW.out 2
      have r0 : wr.cell? ⟨w.heap.size + 1, 0, none⟩ = some (.slice none 0 0) := blk_cell hres 0
      have r1 : wr.cell? ⟨w.heap.size + 1, 1, none⟩ = some (.slice none 0 0) := blk_cell hres 1
      have r2 : wr.cell? ⟨w.heap.size + 1, 2, none⟩ = some (.slice none 0 0) := blk_cell hres 2
      have f0 := blk_frozen hres 0
      have f1 := blk_frozen hres 1
      have f2 := blk_frozen hres 2
      obtain ⟨ta', tc', htf, _⟩ := (own_ls HT.out (by have := HTL.out; omega)).form
      rw [HTL.out] at htf
      subst htf
      have HRS : Hid (wr.heap[w.heap.size + 1]? = some (.cells #[.slice none 0 0, .slice none 0 0, .slice none 0 0] 26 (0, 0))) := hres
      have HKE : Hid (Kept (fun _ => False) w wr) := HK0.out.trans (HK4.out.trans HKW.out (fun _ _ e => e)) (fun k hk e => by omega)
      clear hres hT hR
      go_wp2
      obtain ⟨W7, hW7⟩ : ∃ W7, W7 = ((wr.setCell ⟨w.heap.size + 1, 0, none⟩ (.slice na' m.names.length nc')).setCell ⟨w.heap.size + 1, 1, none⟩ (.slice la' m.letters.length lc')).setCell ⟨w.heap.size + 1, 2, none⟩ (.slice ta' m.tos.length tc') := ⟨_, rfl⟩
      have kR : Kept (fun k => k = w.heap.size + 1) wr W7 := by
        rw [hW7]
        exact ((Kept.setCell (S := fun k => k = w.heap.size + 1) (Kept.refl _ _) (fun _ => rfl) _).setCell (fun _ => rfl) _).setCell (fun _ => rfl) _
      have a1 := own_keptM HN4.out HKW.out (row_blk HN4.out HM4.out (by decide))
      have a2 := own_keptM HL4.out HKW.out (row_blk HL4.out HM4.out (by decide))
      have g1 := own_keptM a1 kR (fun e => absurd (ownsRow_lt a1 e).2 (by omega))
      have g2 := own_keptM a2 kR (fun e => absurd (ownsRow_lt a2 e).2 (by omega))
      have g3 := own_keptM HT.out kR (fun e => absurd (ownsRow_lt HT.out e).2 (by omega))
      refine bodyPost_ret (v := .agg #[.slice na' m.names.length nc', .slice la' m.letters.length lc', .slice ta' m.tos.length tc']) (by simp [results, Tryz.results14, go_sem, r0, r1, r2]) rfl ⟨?_, _, rfl, ⟨_, _, _, rfl, ?_, ?_, ?_⟩⟩
      · repeat (first | exact HKE.out | (refine Kept.setCell ?_ (fun hh => absurd hh (by simp)) _))
      · rw [← hW7]
        exact own_ls g1 (by simp; omega)
      · rw [← hW7]
        exact (own_ls g2 (by simp; omega)).ints
      · rw [← hW7]
        refine ⟨trs, HTL.out, own_ls g3 (by have := HTL.out; omega), fun j r row h1 h2 => LsV.ints ?_⟩
        exact ((HRO.out j r row h1 h2).keep (S' := fun k => k < wr.heap.size) (fun _ e => e.1) (fun k e => kR.block k e.1 (e.2.ne HRS.out (by decide)))).ls (fun k e => Nat.lt_of_lt_of_le e kR.size)
end Go.Proofs.YtdbpdanocpfboabGreatDoor
