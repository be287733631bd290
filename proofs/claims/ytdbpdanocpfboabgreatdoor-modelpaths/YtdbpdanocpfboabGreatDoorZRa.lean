import Derived.Test.YtdbpdanocpfboabGreatDoorZBun05
/- The document's Path. -/
namespace Go.Proofs.YtdbpdanocpfboabGreatDoor
open Go.RowKit Go.Shelf

theorem any_take_succ {r : List Int} {j : Nat} (hj : j < r.length) (t : Int) : (r.take (j + 1)).any (fun x => decide (x = t)) = ((r.take j).any (fun x => decide (x = t)) || decide (r[j] = t)) := by
  rw [List.take_add_one, List.getElem?_eq_getElem hj, List.any_append]
  simp
theorem goodM_fits {m : MD} (h : goodM m = true) : FitsP m := by
  simp only [goodM, Bool.and_eq_true] at h
  exact (fitsB_iff m).1 h.1

set_option maxRecDepth 100000 in
set_option maxHeartbeats 8000000 in
theorem path21 (w : World) (B : Nat) (v wv : Value) (m : MD) (hd lp : List Int) (hm : ModV B w v m) (hw : WordV B w wv hd lp) (hB : B ≤ w.heap.size) (hsz : ∀ x ∈ m.names, x.size ≤ 9223372036854775807) :
    Calls Tryz.prog 21 #[v, wv] w fun e w' => Kept (fun _ => False) w w' ∧ e = .returned (.bool (pathM m hd lp)) := by
  obtain ⟨nv, lv, tv, rfl, _⟩ := id hm.ex
  obtain ⟨hv1, lv1, rfl, h1, h2⟩ := hw
  obtain ⟨ha, hc, rfl, hl1⟩ := h1.form
  obtain ⟨la, lc, rfl, hl2⟩ := h2.form
  obtain ⟨W0, hW0⟩ : ∃ W0, W0 = (w.alloc (.cells #[nv, lv, tv] 30)).alloc (.cells #[.slice ha hd.length hc, .slice la lp.length lc] 41) := ⟨_, rfl⟩
  have k0 : Kept (fun _ => False) w W0 := by rw [hW0]; exact ((Kept.refl _ _).alloc _).alloc _
  have b0 : W0.heap[w.heap.size]? = some (.cells #[nv, lv, tv] 30 (0, 0)) := by
    rw [hW0]
    exact (Below.heap_alloc _ _ _ (by simp)).trans (alloc_blk _ _)
  have b1 : W0.heap[w.heap.size + 1]? = some (.cells #[.slice ha hd.length hc, .slice la lp.length lc] 41 (0, 0)) := by
    rw [hW0]
    have := alloc_blk (w.alloc (.cells #[nv, lv, tv] 30)) (.cells #[.slice ha hd.length hc, .slice la lp.length lc] 41)
    simpa using this
  have HBX : Hid (∀ W, Kept (fun _ => False) W0 W → (W.cell? ⟨w.heap.size, 0, none⟩ = some nv ∧ W.cell? ⟨w.heap.size, 1, none⟩ = some lv ∧ W.cell? ⟨w.heap.size, 2, none⟩ = some tv) ∧ W.cell? ⟨w.heap.size + 1, 0, none⟩ = some (.slice ha hd.length hc) ∧ W.cell? ⟨w.heap.size + 1, 1, none⟩ = some (.slice la lp.length lc)) := fun W hk =>
    ⟨⟨(hk.cell (p := ⟨w.heap.size, 0, none⟩) (lt_of_cell (blk_cell b0 0)) (fun f => f)).trans (blk_cell b0 0), (hk.cell (p := ⟨w.heap.size, 1, none⟩) (lt_of_cell (blk_cell b0 1)) (fun f => f)).trans (blk_cell b0 1), (hk.cell (p := ⟨w.heap.size, 2, none⟩) (lt_of_cell (blk_cell b0 2)) (fun f => f)).trans (blk_cell b0 2)⟩, (hk.cell (p := ⟨w.heap.size + 1, 0, none⟩) (lt_of_cell (blk_cell b1 0)) (fun f => f)).trans (blk_cell b1 0), (hk.cell (p := ⟨w.heap.size + 1, 1, none⟩) (lt_of_cell (blk_cell b1 1)) (fun f => f)).trans (blk_cell b1 1)⟩
  have HM : Hid (∀ W, Kept (fun _ => False) W0 W → ModV B W (.agg #[nv, lv, tv]) m ∧ IntsV B W (.slice ha hd.length hc) hd ∧ IntsV B W (.slice la lp.length lc) lp) := fun W hk => by
    have hk' := k0.trans hk (fun _ _ f => f)
    exact ⟨hm.kept hk' hB, h1.below (hk'.below hB (fun _ f => f.elim)), h2.below (hk'.below hB (fun _ f => f.elim))⟩
  have hB0 : B ≤ W0.heap.size := Nat.le_trans hB k0.size
  have HSZ : Hid (∀ x ∈ m.names, x.size ≤ 9223372036854775807) := hsz
  have HK0 : Hid (Kept (fun _ => False) w W0) := k0
  obtain ⟨⟨x0, x1, x2⟩, y0, y1⟩ := HBX.out W0 (Kept.refl _ _)
  clear hm h1 h2 b0 b1 hsz
  go_enter Tryz.func21, Tryz.ntmps21
  go_upto_region 1 with fail
  rw [← hW0]
  clear hW0 k0
  cases hg : goodM m with
  | false =>
    have HE : Hid (pathM m hd lp = false) := by rw [Hid, pathM, hg]; rfl
    go_wp2_with (go_at_call 19; go_must (refine (good19 W0 B _ m (HM.out W0 (Kept.refl _ _)).1 hB0 HSZ.out).mono ?_); rintro e w1 ⟨k1, rfl⟩; rw [hg])
    go_ret
    exact ⟨HK0.out.trans k1 (fun _ _ f => f), ret_bool HE.out.symm⟩
  | true =>
    have HF : Hid (FitsP m) := goodM_fits hg
    by_cases hlp : lp.length = 0
    · have hlb : ((lp.length : Int) == 0) = true := by rw [hlp]; rfl
      have HE : Hid (pathM m hd lp = false) := by
        have : lp = [] := List.eq_nil_of_length_eq_zero hlp
        rw [Hid, pathM, this]
        simp
      clear hlp
      go_wp2_with (go_at_call 19; go_must (refine (good19 W0 B _ m (HM.out W0 (Kept.refl _ _)).1 hB0 HSZ.out).mono ?_); rintro e w1 ⟨k1, rfl⟩; rw [hg]; have y1 := (HBX.out w1 k1).2.2)
      go_ret
      exact ⟨HK0.out.trans k1 (fun _ _ f => f), ret_bool HE.out.symm⟩
    · have hlb : ((lp.length : Int) == 0) = false := beq_eq_false_iff_ne.2 (by omega)
      by_cases h20 : 20000 < hd.length + lp.length
      · have h20i : (20000 : Int) < (hd.length : Int) + (lp.length : Int) := by omega
        have HE : Hid (pathM m hd lp = false) := by
          rw [Hid, pathM, decide_eq_false (by omega)]
          simp
        go_wp2_with (go_at_call 19; go_must (refine (good19 W0 B _ m (HM.out W0 (Kept.refl _ _)).1 hB0 HSZ.out).mono ?_); rintro e w1 ⟨k1, rfl⟩; rw [hg]; obtain ⟨_, y0, y1⟩ := HBX.out w1 k1)
        go_ret
        exact ⟨HK0.out.trans k1 (fun _ _ f => f), ret_bool HE.out.symm⟩
      · have h20i : ¬ (20000 : Int) < (hd.length : Int) + (lp.length : Int) := by omega
        obtain ⟨all, hall⟩ : ∃ all, all = hd ++ lp ++ lp.take 1 := ⟨_, rfl⟩
        have hlp0 : 0 < lp.length := by omega
        have HPM : Hid (pathM m hd lp = startB m all) := by
          have hne : lp.isEmpty = false := by
            cases lp with
            | nil => simp at hlp0
            | cons a b => rfl
          rw [Hid, pathM, hg, decide_eq_true (by omega), hne, hall]
          rfl
        have HAL : Hid (all.length = hd.length + lp.length + 1) := by rw [Hid, hall]; simp; omega
        have hal1 : all.length ≤ 20001 := by rw [HAL.out]; omega
        obtain ⟨i3, hi3, hy0, hy1, hy2⟩ := info_parts info3
        go_upto_region 3 with (go_at_call 19; go_must (refine (good19 W0 B _ m (HM.out W0 (Kept.refl _ _)).1 hB0 HSZ.out).mono ?_); rintro e w1 ⟨k1, rfl⟩; rw [hg]; obtain ⟨_, y0, y1⟩ := HBX.out w1 k1)
        clear x0 x1 x2
        have hB1 := Nat.le_trans hB0 k1.size
        have HI1 : Hid (LsV B w1 (.slice ha hd.length hc) (hd.map (Value.int .i64))) := (HM.out w1 k1).2.1.ls
        go_upto_region 5 with (at_builtin; go_must (refine wpList_append_ls rfl _ _ 23 rfl w1.heap.size 3 i3 _ 8 Tryz.underlying23 hi3 hy0 hy1 hy2 rfl (.slice none 0 0) 0 [] rfl (World.ownsRow_nil _ _ _ _) B _ (hd.map (Value.int .i64)) rfl HI1.out (by intro c hc; obtain ⟨y, _, rfl⟩ := List.mem_map.1 hc; rfl) (by unfold maxLen; simp; omega) (by simp; omega) (Nat.le_refl _) ?_); intro av2 w2 hown2 hk2 hloc2)
        have k12 : Kept (fun _ => False) w1 w2 := hk2.mono (fun k _ e => by cases e)
        have hk02 := k1.trans k12 (fun _ _ f => f)
        clear y0 y1
        obtain ⟨_, y0, y1⟩ := HBX.out w2 hk02
        simp only [List.length_map, Nat.zero_add, List.nil_append] at hown2
        have HI2 : Hid (LsV B w2 (.slice la lp.length lc) (lp.map (Value.int .i64))) := (HM.out w2 hk02).2.2.ls
        have HO2 : Hid (w2.ownsRow w1.heap.size 3 1 av2 hd.length (hd.map (Value.int .i64))) := hown2
        have z12 := k12.size
        clear hown2 hk2 hloc2 HI1
        go_upto_region 6 with (at_builtin; go_must (refine wpList_append_ls rfl _ _ 23 rfl w1.heap.size 3 i3 _ 8 Tryz.underlying23 hi3 hy0 hy1 hy2 rfl av2 hd.length (hd.map (Value.int .i64)) rfl HO2.out B _ (lp.map (Value.int .i64)) rfl HI2.out (by intro c hc; obtain ⟨y, _, rfl⟩ := List.mem_map.1 hc; rfl) (by unfold maxLen; simp; omega) (by simp; omega) z12 ?_); intro av3 w3 hown3 hk3 hloc3)
        have k13 : Kept (fun _ => False) w1 w3 := k12.trans hk3 (fun k hk e => by have := (ownsRow_lt HO2.out e).2; omega)
        have hk03 := k1.trans k13 (fun _ _ f => f)
        clear y0 y1
        obtain ⟨_, y0, y1⟩ := HBX.out w3 hk03
        have HI3 : Hid (IntsV B w3 (.slice la lp.length lc) lp) := (HM.out w3 hk03).2.2
        obtain ⟨lb0, lo0, rfl, _, c0⟩ := LsV.cell HI3.out.ls (i := 0) (x := .int .i64 lp[0]) (by simp [hlp0])
        rw [Nat.add_zero] at c0
        have HO3 : Hid (w3.ownsRow w1.heap.size 3 1 av3 (hd.length + lp.length) ((hd ++ lp).map (Value.int .i64))) := by
          rw [Hid, List.map_append]
          simpa using hown3
        have z13 := k13.size
        have hL0 : (0 : Int) < (lp.length : Int) := by omega
        clear hown3 hk3 hloc3 HI2 HO2
        go_upto_region 7 with (at_builtin; go_must (refine wpList_append_own_at _ rfl _ _ 23 rfl w1.heap.size 3 i3 _ 1 8 Tryz.underlying23 hi3 hy0 hy1 hy2 rfl (by decide) av3 (hd.length + lp.length) _ rfl (World.ownsRow.alloc HO3.out _) ⟨w3.heap.size, 0, none⟩ 1 1 [.int .i64 lp[0]] rfl rfl (cell_one_new _ _ _) (by intro y hy; simp at hy; rcases hy with rfl; rfl) (by unfold maxLen; omega) (by omega) (by simp; omega) ?_); intro av4 w4 hown4 hgrow4 hnil4 hloc4)
        have hg4 : Kept (fun b => inRow av3 b) w3 w4 := ((Kept.refl _ _).alloc _).grown hgrow4 (fun k _ e => e)
        have k14 : Kept (fun _ => False) w1 w4 := k13.trans hg4 (fun k hk e => by have := (ownsRow_lt HO3.out e).2; omega)
        have hk04 := k1.trans k14 (fun _ _ f => f)
        have hall2 : all = (hd ++ lp) ++ [lp[0]] := by
          rw [hall]
          cases lp with
          | nil => simp at hlp0
          | cons a b => simp
        have hLA : LsV w4.heap.size w4 av4 (all.map (Value.int .i64)) := by
          have h := own_ls hown4 (by simp; omega)
          rw [hall2, List.map_append]
          exact h
        obtain ⟨aa, ac, rfl, _⟩ := hLA.form
        have hal0 : 0 < all.length := by rw [HAL.out]; omega
        obtain ⟨ab, ao, rfl, _, ca0⟩ := hLA.cell (i := 0) (x := .int .i64 all[0]) (by simp [hal0])
        have HA : Hid (∀ W, Kept (fun _ => False) w4 W → ∀ i (h : i < all.length), W.cell? ⟨ab, ao + i, none⟩ = some (.int .i64 all[i])) := fun W hk i hi => by
          obtain ⟨b', o', e, _, h⟩ := (hLA.kept hk (Nat.le_refl _)).cell (i := i) (x := .int .i64 all[i]) (by simp [hi])
          cases e
          exact h
        simp only [List.length_map]
        obtain ⟨nb, no, nc, lb, lo, lc2, tb, to_, tc, rb, ro, rc, hvv, hrd⟩ := MRd.mk' (HM.out w4 hk04).1 (Nat.le_trans hB0 hk04.size) HF.out.n0 (by rw [HF.out.l]; exact HF.out.n0) (by rw [HF.out.t]; exact HF.out.n0)
        injection hvv with hvv
        injection hvv with hvv
        simp only [List.cons.injEq, and_true] at hvv
        obtain ⟨e1, e2, e3⟩ := hvv
        subst e1 e2 e3
        have HR : Hid (MRd w4 nb no nc lb lo lc2 tb to_ tc rb ro rc m) := hrd
        have HBX4 : Hid (∀ W, Kept (fun _ => False) w4 W → W.cell? ⟨w.heap.size, 2, none⟩ = some (.slice (some ⟨tb, to_, none⟩) m.tos.length tc)) := fun W hk => (HBX.out W (hk04.trans hk (fun _ _ f => f))).1.2.2
        have HK4 : Hid (Kept (fun _ => False) w w4) := HK0.out.trans hk04 (fun _ _ f => f)
        have HST : Hid (startB m all = true ↔ all[0] = 0 ∧ ∀ i (h : i + 1 < all.length), stepB m all[i] all[i + 1] = true) := start_at m all hal0
        have hLa : (0 : Int) < (all.length : Int) := by omega
        rw [Nat.add_zero] at ca0
        have hn12 := HF.out.n12
        clear hLA hown4 hgrow4 hnil4 hloc4 hg4 k14 k13 y0 y1 c0 hrd HI3 HO3 hall2 hall HBX HM
        by_cases ha0 : all[0] = 0
        · have ha0b : (all[0] != 0) = false := by simpa using ha0
          have HA0 : Hid (all[0] = 0) := ha0
          clear ha0
          go_wp2
          go_loopw [6] (fun iv wr => ∃ i : Nat, i + 1 ≤ all.length ∧ iv = .int .i64 i ∧ (∀ i' (h : i' + 1 < all.length), i' < i → stepB m all[i'] all[i' + 1] = true) ∧ Kept (fun _ => False) w4 wr) (fun iv _ => all.length - (intOf iv).toNat)
          case atStart => exact ⟨0, by omega, rfl, fun i' _ h => absurd h (by omega), Kept.refl _ _⟩
          case round =>
            obtain ⟨i, hi, rfl, hst, hkr⟩ := hrel
            have HS : Hid (∀ i' (h : i' + 1 < all.length), i' < i → stepB m all[i'] all[i' + 1] = true) := hst
            clear hst
            by_cases hlt : i + 1 < all.length
            · have hil : (i : Int) + 1 < (all.length : Int) := by omega
              have hil0 : i < all.length := by omega
              have hil2 : (i : Int) < (all.length : Int) := by omega
              have hip : (0 : Int) ≤ (i : Int) + 1 := by omega
              have hrng : 0 ≤ all[i] ∧ all[i] < (m.names.length : Int) := by
                cases i with
                | zero => rw [HA0.out]; have := HF.out.n0; omega
                | succ i => exact stepB_rng HF.out (HS.out i hil0 (by omega))
              obtain ⟨sn, hsn⟩ : ∃ sn : Nat, all[i] = (sn : Int) := ⟨(all[i]).toNat, by omega⟩
              have hsn2 : sn < m.tos.length := by rw [HF.out.t]; omega
              have hsni : (sn : Int) < (m.tos.length : Int) := by omega
              have hrne : m.tos[sn] ≠ [] := HF.out.ne _ (List.getElem_mem hsn2)
              have HROW : Hid (stepB m all[i] all[i + 1] = (m.tos[sn]).any (fun x => decide (x = all[i + 1]))) := by rw [Hid, stepB, hsn, Int.toNat_natCast, getD_at hsn2]
              have hbig := HR.out.big sn hsn2
              clear hrng
              go_wp2
              go_loopw [7, 8] (fun okv jv wr => ∃ j : Nat, j ≤ (m.tos[sn]).length ∧ jv = .int .i64 j ∧ okv = .bool (((m.tos[sn]).take j).any (fun x => decide (x = all[i + 1]))) ∧ Kept (fun _ => False) w4 wr) (fun _ jv _ => (m.tos[sn]).length - (intOf jv).toNat)
              case atStart => exact ⟨0, Nat.zero_le _, rfl, rfl, hkr⟩
              case round =>
                obtain ⟨j, hj, rfl, rfl, hkr⟩ := hrel
                have x2 := HBX4.out wr hkr
                have ci : wr.cell? ⟨ab, ao + i, none⟩ = some (.int .i64 (sn : Int)) := by rw [← hsn]; exact HA.out wr hkr i hil0
                have ct := (HR.out.tr wr hkr sn hsn2).1 hrne
                by_cases hjl : j < (m.tos[sn]).length
                · have hji : (j : Int) < ((m.tos[sn]).length : Int) := by omega
                  have ce := HR.out.te wr hkr sn hsn2 j hjl
                  have cn := HA.out wr hkr (i + 1) hlt
                  have HANY : Hid _ := any_take_succ hjl all[i + 1]
                  generalize hok : ((m.tos[sn]).take j).any (fun x => decide (x = all[i + 1])) = ok at *
                  go_upto_region 14 with fail
                  have U0 : ∀ U : KW wr, U.1.cell? ⟨w.heap.size, 2, none⟩ = some (.slice (some ⟨tb, to_, none⟩) m.tos.length tc) := fun U => U.cell x2
                  have U1 : ∀ U : KW wr, U.1.cell? ⟨ab, ao + i, none⟩ = some (.int .i64 (sn : Int)) := fun U => U.cell ci
                  have U2 : ∀ U : KW wr, U.1.cell? ⟨tb, to_ + sn, none⟩ = some (.slice (some ⟨rb sn, ro sn, none⟩) (m.tos[sn]).length (rc sn)) := fun U => U.cell ct
                  refine wp_region_blk_kept (by kernel_rfl) (by kernel_rfl) ?_
                  repeat (refine blk_step (fun K hK => ?_); go_simp; first | (refine hK _ ?_; clear hK K))
                  refine blk_nil ?_
                  intro w5 hw'
                  have k5 : Kept (fun _ => False) wr w5 := by
                    obtain ⟨U, rfl⟩ := hw'
                    exact U.2
                  clear hw' U0 U1 U2
                  have hkr5 := hkr.trans k5 (fun _ _ f => f)
                  have ci5 : w5.cell? ⟨ab, ao + i, none⟩ = some (.int .i64 (sn : Int)) := (k5.cell (p := ⟨ab, ao + i, none⟩) (lt_of_cell ci) (fun f => f)).trans ci
                  have x25 := HBX4.out w5 hkr5
                  have ct5 := (HR.out.tr w5 hkr5 sn hsn2).1 hrne
                  have ce5 := HR.out.te w5 hkr5 sn hsn2 j hjl
                  have cn5 := HA.out w5 hkr5 (i + 1) hlt
                  clear x2 ci ct ce cn hkr k5
                  go_upto_region 16 with fail
                  have hq0 : (0 : Int) ≤ (i : Int) + 1 := by omega
                  have hq1 : (i : Int) + 1 < (all.length : Int) := by omega
                  have hq2 : ((i : Int) + 1).toNat = i + 1 := by omega
                  have hwr : IntKind.i64.wrap ((i : Int) + 1) = (i : Int) + 1 := by rw [IntKind.wrap_i64]; omega
                  cases ok with
                  | true =>
                    have U0 : ∀ U : KW w5, U.1.cell? ⟨w.heap.size, 2, none⟩ = some (.slice (some ⟨tb, to_, none⟩) m.tos.length tc) := fun U => U.cell x25
                    have U1 : ∀ U : KW w5, U.1.cell? ⟨ab, ao + i, none⟩ = some (.int .i64 (sn : Int)) := fun U => U.cell ci5
                    have U2 : ∀ U : KW w5, U.1.cell? ⟨tb, to_ + sn, none⟩ = some (.slice (some ⟨rb sn, ro sn, none⟩) (m.tos[sn]).length (rc sn)) := fun U => U.cell ct5
                    have U3 : ∀ U : KW w5, U.1.cell? ⟨rb sn, ro sn + j, none⟩ = some (.int .i64 (m.tos[sn])[j]) := fun U => U.cell ce5
                    have U4 : ∀ U : KW w5, U.1.cell? ⟨ab, ao + (i + 1), none⟩ = some (.int .i64 all[i + 1]) := fun U => U.cell cn5
                    refine wp_region_blk_kept (by kernel_rfl) (by kernel_rfl) ?_
                    repeat (refine blk_step (fun K hK => ?_); go_simp; first | (refine hK _ ?_; clear hK K))
                    refine blk_nil ?_
                    intro w6 hw'
                    have k6 : Kept (fun _ => False) w5 w6 := by
                      obtain ⟨U, rfl⟩ := hw'
                      exact U.2
                    clear hw' U0 U1 U2 U3 U4
                    go_wp2
                    go_roundw
                    case rel => exact ⟨j + 1, by omega, by simp, by rw [HANY.out]; rfl, hkr5.trans k6 (fun _ _ f => f)⟩
                    case measure => simp [intOf]; omega
                  | false =>
                    have U0 : ∀ U : KW w5, U.1.cell? ⟨w.heap.size, 2, none⟩ = some (.slice (some ⟨tb, to_, none⟩) m.tos.length tc) := fun U => U.cell x25
                    have U1 : ∀ U : KW w5, U.1.cell? ⟨ab, ao + i, none⟩ = some (.int .i64 (sn : Int)) := fun U => U.cell ci5
                    have U2 : ∀ U : KW w5, U.1.cell? ⟨tb, to_ + sn, none⟩ = some (.slice (some ⟨rb sn, ro sn, none⟩) (m.tos[sn]).length (rc sn)) := fun U => U.cell ct5
                    have U3 : ∀ U : KW w5, U.1.cell? ⟨rb sn, ro sn + j, none⟩ = some (.int .i64 (m.tos[sn])[j]) := fun U => U.cell ce5
                    have U4 : ∀ U : KW w5, U.1.cell? ⟨ab, ao + (i + 1), none⟩ = some (.int .i64 all[i + 1]) := fun U => U.cell cn5
                    refine wp_region_blk_kept (by kernel_rfl) (by kernel_rfl) ?_
                    repeat (refine blk_step (fun K hK => ?_); go_simp; first | (refine hK _ ?_; clear hK K))
                    refine blk_nil ?_
                    intro w6 hw'
                    have k6 : Kept (fun _ => False) w5 w6 := by
                      obtain ⟨U, rfl⟩ := hw'
                      exact U.2
                    clear hw' U0 U1 U2 U3 U4
                    go_wp2
                    go_roundw
                    case rel => exact ⟨j + 1, by omega, by simp, by rw [HANY.out]; rfl, hkr5.trans k6 (fun _ _ f => f)⟩
                    case measure => simp [intOf]; omega
                · obtain rfl : j = (m.tos[sn]).length := by omega
                  rw [List.take_length]
                  have HSE : Hid _ := HROW.out
                  generalize hok : (m.tos[sn]).any (fun x => decide (x = all[i + 1])) = ok at *
                  go_upto_region 14 with fail
                  have U0 : ∀ U : KW wr, U.1.cell? ⟨w.heap.size, 2, none⟩ = some (.slice (some ⟨tb, to_, none⟩) m.tos.length tc) := fun U => U.cell x2
                  have U1 : ∀ U : KW wr, U.1.cell? ⟨ab, ao + i, none⟩ = some (.int .i64 (sn : Int)) := fun U => U.cell ci
                  have U2 : ∀ U : KW wr, U.1.cell? ⟨tb, to_ + sn, none⟩ = some (.slice (some ⟨rb sn, ro sn, none⟩) (m.tos[sn]).length (rc sn)) := fun U => U.cell ct
                  refine wp_region_blk_kept (by kernel_rfl) (by kernel_rfl) ?_
                  repeat (refine blk_step (fun K hK => ?_); go_simp; first | (refine hK _ ?_; clear hK K))
                  refine blk_nil ?_
                  intro w5 hw'
                  have k5 : Kept (fun _ => False) wr w5 := by
                    obtain ⟨U, rfl⟩ := hw'
                    exact U.2
                  clear hw' U0 U1 U2
                  have hkr5 := hkr.trans k5 (fun _ _ f => f)
                  clear x2 ci ct hkr k5
                  cases ok with
                  | true =>
                    go_wp2
                    go_roundw
                    case rel =>
                      refine ⟨i + 1, by omega, by simp, fun i' h h' => ?_, hkr5⟩
                      by_cases e : i' = i
                      · subst e; exact HSE.out
                      · exact HS.out i' h (by omega)
                    case measure => simp [intOf]; omega
                  | false =>
                    have HE : Hid (pathM m hd lp = false) := by
                      rw [Hid, HPM.out]
                      cases hs : startB m all with
                      | false => rfl
                      | true => have := (HST.out.1 hs).2 i hlt; rw [HSE.out] at this; cases this
                    go_wp2
                    go_ret
                    exact ⟨HK4.out.trans hkr5 (fun _ _ f => f), ret_bool HE.out.symm⟩
            · have hie : i + 1 = all.length := by omega
              have hil : ¬ (i : Int) + 1 < (all.length : Int) := by omega
              have HE : Hid (pathM m hd lp = true) := by
                rw [Hid, HPM.out]
                exact HST.out.2 ⟨HA0.out, fun i' h => HS.out i' h (by omega)⟩
              clear hie
              go_wp2
              go_ret
              exact ⟨HK4.out.trans hkr (fun _ _ f => f), ret_bool HE.out.symm⟩
        · have ha0b : (all[0] != 0) = true := by simpa using ha0
          have HE : Hid (pathM m hd lp = false) := by
            rw [Hid, HPM.out]
            cases hs : startB m all with
            | false => rfl
            | true => exact absurd (HST.out.1 hs).1 ha0
          clear ha0
          go_wp2
          go_ret
          exact ⟨HK4.out, ret_bool HE.out.symm⟩
end Go.Proofs.YtdbpdanocpfboabGreatDoor
