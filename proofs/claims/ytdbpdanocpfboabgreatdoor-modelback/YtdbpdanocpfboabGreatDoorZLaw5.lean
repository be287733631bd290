import Derived.Test.YtdbpdanocpfboabGreatDoorZBun11
/- The law ModelBack. -/
namespace Go.Proofs.YtdbpdanocpfboabGreatDoor
open Go.RowKit

set_option maxRecDepth 100000 in
set_option maxHeartbeats 8000000 in
theorem law5 (w : World) (B : Nat) (v wv : Value) (m : MD) (hd lp : List Int) (mx : Int) (hm : ModV B w v m) (hw : WordV B w wv hd lp) (hB : B ≤ w.heap.size) (hsz : ∀ x ∈ m.names, x.size ≤ 9223372036854775807) (hn : m.names.length ≤ 8796093022208) (ht : m.tos.length ≤ 5864062014805) (hmx : w.cell? ⟨0, 0, none⟩ = some (.int .i64 mx)) :
    Calls Tryz.prog 5 #[v, wv] w fun e w' => Kept (fun _ => False) w w' ∧ e = .returned (.bool true) := by
  obtain ⟨pna, pnc, pla, plc, pta, ptc, rfl⟩ := hm.form
  obtain ⟨qa, qc, qb, qd, rfl⟩ := hw.form
  obtain ⟨W0, hW0⟩ : ∃ W0, W0 = (w.alloc (.cells #[.slice pna m.names.length pnc, .slice pla m.letters.length plc, .slice pta m.tos.length ptc] 30)).alloc (.cells #[.slice qa hd.length qc, .slice qb lp.length qd] 41) := ⟨_, rfl⟩
  have k0 : Kept (fun _ => False) w W0 := by rw [hW0]; exact ((Kept.refl _ _).alloc _).alloc _
  have b0 : W0.heap[w.heap.size]? = some (.cells #[.slice pna m.names.length pnc, .slice pla m.letters.length plc, .slice pta m.tos.length ptc] 30 (0, 0)) := by rw [hW0]; exact (Below.heap_alloc _ _ _ (by simp)).trans (alloc_blk _ _)
  have b1 : W0.heap[w.heap.size + 1]? = some (.cells #[.slice qa hd.length qc, .slice qb lp.length qd] 41 (0, 0)) := by rw [hW0]; have := alloc_blk (w.alloc (.cells #[.slice pna m.names.length pnc, .slice pla m.letters.length plc, .slice pta m.tos.length ptc] 30)) (.cells #[.slice qa hd.length qc, .slice qb lp.length qd] 41); rwa [World.size_alloc] at this
  have HSZ : Hid (∀ x ∈ m.names, x.size ≤ 9223372036854775807) := hsz
  have HMX : Hid (w.cell? ⟨0, 0, none⟩ = some (.int .i64 mx)) := hmx
  have HB0 : Hid (W0.heap[w.heap.size]? = some (.cells #[.slice pna m.names.length pnc, .slice pla m.letters.length plc, .slice pta m.tos.length ptc] 30 (0, 0))) := b0
  have HB1 : Hid (W0.heap[w.heap.size + 1]? = some (.cells #[.slice qa hd.length qc, .slice qb lp.length qd] 41 (0, 0))) := b1
  have HK0 : Hid (Kept (fun _ => False) w W0) := k0
  have HM : Hid (ModV B W0 (.agg #[.slice pna m.names.length pnc, .slice pla m.letters.length plc, .slice pta m.tos.length ptc]) m) := hm.kept k0 hB
  have HW : Hid (WordV B W0 (.agg #[.slice qa hd.length qc, .slice qb lp.length qd]) hd lp) := hw.kept k0 hB
  have hz0 := k0.size
  have hs1 : w.heap.size + 1 < W0.heap.size := (Array.getElem?_eq_some_iff.1 b1).1
  clear hm hw hsz hmx k0
  have x0 : W0.cell? ⟨w.heap.size, 0, none⟩ = some (.slice pna m.names.length pnc) := blk_cell b0 0
  have x1 : W0.cell? ⟨w.heap.size, 1, none⟩ = some (.slice pla m.letters.length plc) := blk_cell b0 1
  have x2 : W0.cell? ⟨w.heap.size, 2, none⟩ = some (.slice pta m.tos.length ptc) := blk_cell b0 2
  clear b0 b1
  go_enter Tryz.func5, Tryz.ntmps5
  go_upto_region 1 with fail
  generalize hs0 : w.heap.size + 1 = s1 at *
  rw [← hW0]
  clear hW0
  go_upto_region 2 with (go_at_call 14; refine (given14 W0 B _ m HM.out (by omega) hn ht).mono ?_; rintro e w1 ⟨k1, vi, rfl, hi1⟩; obtain ⟨ina, inc, ila, ilc, ita, itc, rfl⟩ := hi1.form)
  obtain ⟨W1, hW1⟩ : ∃ W1, W1 = w1.alloc (.cells #[.slice ina m.names.length inc, .slice ila m.letters.length ilc, .slice ita m.tos.length itc] 26) := ⟨_, rfl⟩
  have kW : Kept (fun _ => False) w1 W1 := by rw [hW1]; exact (Kept.refl _ _).alloc _
  have HB2 : Hid (W1.heap[w1.heap.size]? = some (.cells #[.slice ina m.names.length inc, .slice ila m.letters.length ilc, .slice ita m.tos.length itc] 26 (0, 0))) := by rw [Hid, hW1]; exact alloc_blk _ _
  have HK1 : Hid (Kept (fun _ => False) W0 W1) := k1.trans kW (fun _ _ f => f)
  have HI : Hid (ModV w1.heap.size W1 (.agg #[.slice ina m.names.length inc, .slice ila m.letters.length ilc, .slice ita m.tos.length itc]) m) := hi1.kept kW (Nat.le_refl _)
  have hz1 := k1.size
  have hs2 : w1.heap.size < W1.heap.size := (Array.getElem?_eq_some_iff.1 HB2.out).1
  rw [← hW1]
  clear hW1 kW k1 hi1 x0 x1 x2
  have bw1 := (HK1.out.block s1 hs1 (fun f => f)).trans HB1.out
  have y0 : W1.cell? ⟨s1, 0, none⟩ = some (.slice qa hd.length qc) := blk_cell bw1 0
  have y1 : W1.cell? ⟨s1, 1, none⟩ = some (.slice qb lp.length qd) := blk_cell bw1 1
  go_upto_region 3 with (go_at_call 15; refine (given15w W1 B _ hd lp (HW.out.kept HK1.out (by omega)) (by omega)).mono ?_; rintro e w2 ⟨k2, vu, rfl, hu2⟩; obtain ⟨ua, uc, ub, ud, rfl⟩ := hu2.form)
  obtain ⟨W2, hW2⟩ : ∃ W2, W2 = w2.alloc (.cells #[.slice ua hd.length uc, .slice ub lp.length ud] 43) := ⟨_, rfl⟩
  have kW : Kept (fun _ => False) w2 W2 := by rw [hW2]; exact (Kept.refl _ _).alloc _
  have HB3 : Hid (W2.heap[w2.heap.size]? = some (.cells #[.slice ua hd.length uc, .slice ub lp.length ud] 43 (0, 0))) := by rw [Hid, hW2]; exact alloc_blk _ _
  have HK2 : Hid (Kept (fun _ => False) W1 W2) := k2.trans kW (fun _ _ f => f)
  have HU : Hid (WordV w2.heap.size W2 (.agg #[.slice ua hd.length uc, .slice ub lp.length ud]) hd lp) := hu2.kept kW (Nat.le_refl _)
  have hz2 := k2.size
  have hs3 : w2.heap.size < W2.heap.size := (Array.getElem?_eq_some_iff.1 HB3.out).1
  rw [← hW2]
  clear hW2 kW k2 hu2 y0 y1 bw1
  have HC : Hid (∀ W, Kept (fun _ => False) W2 W → (W.cell? ⟨w.heap.size, 0, none⟩ = some (.slice pna m.names.length pnc) ∧ W.cell? ⟨w.heap.size, 1, none⟩ = some (.slice pla m.letters.length plc) ∧ W.cell? ⟨w.heap.size, 2, none⟩ = some (.slice pta m.tos.length ptc)) ∧ (W.cell? ⟨s1, 0, none⟩ = some (.slice qa hd.length qc) ∧ W.cell? ⟨s1, 1, none⟩ = some (.slice qb lp.length qd)) ∧ (W.cell? ⟨w1.heap.size, 0, none⟩ = some (.slice ina m.names.length inc) ∧ W.cell? ⟨w1.heap.size, 1, none⟩ = some (.slice ila m.letters.length ilc) ∧ W.cell? ⟨w1.heap.size, 2, none⟩ = some (.slice ita m.tos.length itc)) ∧ (W.cell? ⟨w2.heap.size, 0, none⟩ = some (.slice ua hd.length uc) ∧ W.cell? ⟨w2.heap.size, 1, none⟩ = some (.slice ub lp.length ud))) := fun W hk => by
    have k14 := HK2.out.then hk
    have k04 := HK1.out.then k14
    have h0 := (k04.block _ (by omega) (fun f => f)).trans HB0.out
    have h1 := (k04.block _ hs1 (fun f => f)).trans HB1.out
    have h2 := (k14.block _ hs2 (fun f => f)).trans HB2.out
    have h3 := (hk.block _ hs3 (fun f => f)).trans HB3.out
    exact ⟨⟨blk_cell h0 0, blk_cell h0 1, blk_cell h0 2⟩, ⟨blk_cell h1 0, blk_cell h1 1⟩, ⟨blk_cell h2 0, blk_cell h2 1, blk_cell h2 2⟩, ⟨blk_cell h3 0, blk_cell h3 1⟩⟩
  have HV : Hid (∀ W, Kept (fun _ => False) W2 W → ModV W2.heap.size W (.agg #[.slice pna m.names.length pnc, .slice pla m.letters.length plc, .slice pta m.tos.length ptc]) m ∧ WordV W2.heap.size W (.agg #[.slice qa hd.length qc, .slice qb lp.length qd]) hd lp ∧ ModV W2.heap.size W (.agg #[.slice ina m.names.length inc, .slice ila m.letters.length ilc, .slice ita m.tos.length itc]) m ∧ WordV W2.heap.size W (.agg #[.slice ua hd.length uc, .slice ub lp.length ud]) hd lp ∧ W2.heap.size ≤ W.heap.size) := fun W hk => by
    have k14 := HK2.out.then hk
    have k04 := HK1.out.then k14
    exact ⟨(HM.out.kept k04 (by omega)).mono (by omega), (HW.out.kept k04 (by omega)).mono (by omega), (HI.out.kept k14 (by omega)).mono (by omega), (HU.out.kept hk (by omega)).mono (by omega), hk.size⟩
  have HKE : Hid (∀ W, Kept (fun _ => False) W2 W → Kept (fun _ => False) w W) := fun W hk => HK0.out.trans (HK1.out.trans (HK2.out.trans hk (fun _ _ f => f)) (fun _ _ f => f)) (fun _ _ f => f)
  have HMXW : Hid (∀ W, Kept (fun _ => False) W2 W → W.cell? ⟨0, 0, none⟩ = some (.int .i64 mx)) := fun W hk => ((HKE.out W hk).cell (p := ⟨0, 0, none⟩) (lt_of_cell HMX.out) (fun f => f)).trans HMX.out
  obtain ⟨⟨a0, a1, a2⟩, _, ⟨i0, i1, i2⟩, _⟩ := HC.out W2 (Kept.refl _ _)
  have C19 := good19 W2 W2.heap.size _ m (HV.out W2 (Kept.refl _ _)).1 (HV.out W2 (Kept.refl _ _)).2.2.2.2 HSZ.out
  cases hg : goodM m with
  | false =>
    rw [hg] at C19
    have HP : Hid (printM m = ⟨#[]⟩) := by rw [Hid, printM, hg]; rfl
    have HGF : Hid (goodM m = false) := hg
    clear hg
    go_wp2_with (first
      | (go_at_call 19; refine C19.mono ?_; rintro e w3 ⟨k3, rfl⟩; clear a0 a1 a2 i0 i1 i2; obtain ⟨⟨a0, a1, a2⟩, _, ⟨i0, i1, i2⟩, _⟩ := HC.out w3 k3)
      | (go_at_call 10; refine (good10 w3 W2.heap.size _ m (HV.out w3 k3).2.2.1 (HV.out w3 k3).2.2.2.2 HSZ.out).mono ?_; rw [HGF.out]; rintro e w4 ⟨k4, rfl⟩; have K4 := k3.trans k4 (fun _ _ f => f); clear a0 a1 a2 i0 i1 i2; obtain ⟨⟨a0, a1, a2⟩, _, ⟨i0, i1, i2⟩, _⟩ := HC.out w4 K4)
      | (go_at_call 11; refine (print11 w4 W2.heap.size _ m (HV.out w4 K4).2.2.1 (HV.out w4 K4).2.2.2.2 HSZ.out).mono ?_; rw [HP.out]; rintro e w5 ⟨k5, rfl⟩; have K5 := K4.trans k5 (fun _ _ f => f))
      | (go_at_call 13; refine (alive13 w5 mx (HMXW.out w5 K5)).mono ?_; rintro e w6 ⟨k6, rfl⟩))
    go_ret
    exact ⟨(HKE.out w5 K5).trans k6 (fun _ _ f => f), rfl⟩
  | true =>
    rw [hg] at C19
    have HGM : Hid (goodM m = true) := hg
    have HF : Hid (FitsP m) := goodM_fits hg
    obtain ⟨tx, htx⟩ : ∃ tx, printM m = tx := ⟨_, rfl⟩
    have htt : tx = textM m := by rw [← htx, printM, if_pos hg]
    obtain ⟨sh, hsh⟩ : ∃ sh, decide (tx.size ≤ 1000) = sh := ⟨_, rfl⟩
    obtain ⟨mN, hmN⟩ : ∃ mN, (resM (parseM tx)).1 = mN := ⟨_, rfl⟩
    obtain ⟨zE, hzE⟩ : ∃ zE, (resM (parseM tx)).2.1 = zE := ⟨_, rfl⟩
    obtain ⟨lE, hlE⟩ : ∃ lE, (resM (parseM tx)).2.2 = lE := ⟨_, rfl⟩
    have HCS : Hid ((sh = true ∧ mN = m ∧ zE = 0) ∨ (sh = false ∧ mN = mdN)) := by
      by_cases h1 : tx.size ≤ 1000
      · left
        have hp : parseM tx = .ok m := by rw [htt] at h1 ⊢; exact parse_text HF.out h1
        refine ⟨by rw [← hsh]; simpa using h1, by rw [← hmN, hp]; rfl, by rw [← hzE, hp]; rfl⟩
      · right
        have hp : parseM tx = .err 1 0 := by rw [parseM, if_pos (by omega)]
        refine ⟨by rw [← hsh]; simpa using h1, by rw [← hmN, hp]; rfl⟩
    have hgt : decide ((1000 : Int) < (tx.size : Int)) = !sh := by
      rw [← hsh]
      by_cases h1 : tx.size ≤ 1000
      · rw [decide_eq_true h1, decide_eq_false (by omega)]; rfl
      · rw [decide_eq_false h1, decide_eq_true (by omega)]; rfl
    have P6 : Hid (∀ W, W.cell? ⟨0, 0, none⟩ = some (.int .i64 mx) → Calls Tryz.prog 6 #[.string tx] W fun e w' => Kept (fun _ => False) W w' ∧ ∃ v, e = .returned (.tuple #[v, .int .i64 zE, .int .i64 lE]) ∧ ModT W.heap.size w' v mN) := fun W h => (parse6 W tx mx h).mono (fun e w' h => by have := h.uni; rwa [hmN, hzE, hlE] at this)
    have C11 : Hid (∀ W, Kept (fun _ => False) W2 W → Calls Tryz.prog 11 #[.agg #[.slice ina m.names.length inc, .slice ila m.letters.length ilc, .slice ita m.tos.length itc]] W fun e w' => Kept (fun _ => False) W w' ∧ e = .returned (.string tx)) := fun W hk => by
      have h := print11 W W2.heap.size _ m (HV.out W hk).2.2.1 (HV.out W hk).2.2.2.2 HSZ.out
      rwa [htx] at h
    have C8 : Hid (∀ (W : World) (v : Value), Kept (fun _ => False) W2 W → ModV W.heap.size W v mN → Calls Tryz.prog 8 #[v, .agg #[.slice pna m.names.length pnc, .slice pla m.letters.length plc, .slice pta m.tos.length ptc]] W fun e w' => Kept (fun _ => False) W w' ∧ e = .returned (.bool sh)) := fun W v hk hv => by
      rcases HCS.out with ⟨h1, h2, _⟩ | ⟨h1, h2⟩
      · rw [h1]
        rw [h2] at hv
        exact same8 W W.heap.size W2.heap.size _ _ m hv (HV.out W hk).1 (Nat.le_refl _) (HV.out W hk).2.2.2.2
      · rw [h1]
        rw [h2] at hv
        exact same8_nil W W.heap.size W2.heap.size _ _ m hv (Nat.le_refl _) (HV.out W hk).1 (HV.out W hk).2.2.2.2 (fun e => by have h3 := HF.out.l; have h4 := HF.out.n0; rw [e] at h3; simp at h3; omega)
    clear hg htx htt hsh hmN hzE hlE
    go_upto_region 5 with (go_at_call 19; refine C19.mono ?_; rintro e w3 ⟨k3, rfl⟩)
    clear a0 a1 a2 i0 i1 i2 C19
    obtain ⟨⟨a0, a1, a2⟩, _, ⟨i0, i1, i2⟩, _⟩ := HC.out w3 k3
    go_upto_region 6 with (first
      | (go_at_call 11; refine (C11.out w3 k3).mono ?_; rintro e w4 ⟨k4, rfl⟩; have K4 := k3.trans k4 (fun _ _ f => f))
      | (go_at_call 6; refine (P6.out w4 (HMXW.out w4 K4)).mono ?_; rintro e w5 ⟨k5, v, rfl, hm5⟩; obtain ⟨nna, nnc, nla, nlc, nta, ntc, rfl⟩ := hm5.modV.form))
    obtain ⟨W5, hW5⟩ : ∃ W5, W5 = w5.alloc (.cells #[.slice nna mN.names.length nnc, .slice nla mN.letters.length nlc, .slice nta mN.tos.length ntc] 26) := ⟨_, rfl⟩
    have kW : Kept (fun _ => False) w5 W5 := by rw [hW5]; exact (Kept.refl _ _).alloc _
    have HB5 : Hid (W5.heap[w5.heap.size]? = some (.cells #[.slice nna mN.names.length nnc, .slice nla mN.letters.length nlc, .slice nta mN.tos.length ntc] 26 (0, 0))) := by rw [Hid, hW5]; exact alloc_blk _ _
    have K5 : Kept (fun _ => False) W2 W5 := (K4.trans k5 (fun _ _ f => f)).trans kW (fun _ _ f => f)
    have HN5 : Hid (ModN w4.heap.size W5 (.agg #[.slice nna mN.names.length nnc, .slice nla mN.letters.length nlc, .slice nta mN.tos.length ntc]) mN) := hm5.modN.keep kW.size (fun k _ h => kW.block k h (fun f => f))
    have hs5 : w5.heap.size < W5.heap.size := (Array.getElem?_eq_some_iff.1 HB5.out).1
    rw [← hW5]
    clear hW5 kW k5 hm5 a0 a1 a2 i0 i1 i2 k3 k4 K4
    obtain ⟨⟨a0, a1, a2⟩, _, ⟨i0, i1, i2⟩, _⟩ := HC.out W5 K5
    go_upto_region 7 with (go_at_call 11; refine (C11.out W5 K5).mono ?_; rintro e w6 ⟨k6, rfl⟩)
    have K6 := K5.trans k6 (fun _ _ f => f)
    have b6 := (k6.block _ hs5 (fun f => f)).trans HB5.out
    have n0 : w6.cell? ⟨w5.heap.size, 0, none⟩ = some (.slice nna mN.names.length nnc) := blk_cell b6 0
    have n1 : w6.cell? ⟨w5.heap.size, 1, none⟩ = some (.slice nla mN.letters.length nlc) := blk_cell b6 1
    have n2 : w6.cell? ⟨w5.heap.size, 2, none⟩ = some (.slice nta mN.tos.length ntc) := blk_cell b6 2
    have HN6 : Hid (ModV w6.heap.size w6 (.agg #[.slice nna mN.names.length nnc, .slice nla mN.letters.length nlc, .slice nta mN.tos.length ntc]) mN) := (HN5.out.keep k6.size (fun k _ h => k6.block k h (fun f => f))).modV
    clear a0 a1 a2 i0 i1 i2 b6 k6 K5
    obtain ⟨⟨a0, a1, a2⟩, _, ⟨i0, i1, i2⟩, _⟩ := HC.out w6 K6
    go_upto_region 8 with (go_at_call 8; refine (C8.out w6 _ K6 HN6.out).mono ?_; rintro e w7 ⟨k7, rfl⟩)
    have K7 := K6.trans k7 (fun _ _ f => f)
    clear a0 a1 a2 i0 i1 i2 n0 n1 n2 k7 K6 hgt
    go_cut [57] (fun v57 wd => v57 = .bool false ∧ wd = w7)
    case first =>
      rcases HCS.out with ⟨h1, h2, h3⟩ | ⟨h1, h2⟩
      · subst h1 h3
        clear h2
        go_wp2_with (go_at_call 9; refine (num9 w7 0).mono ?_; rintro e w8 ⟨rfl, hx⟩; rw [hx]; clear hx)
        go_meet
        case rel => exact ⟨rfl, rfl⟩
      · subst h1
        clear h2
        go_wp2_with fail
        go_meet
        case rel => exact ⟨rfl, rfl⟩
    case rest =>
      obtain ⟨rfl, hwc⟩ := hcut
      subst hwc
      obtain ⟨⟨a0, a1, a2⟩, ⟨c0, c1⟩, ⟨i0, i1, i2⟩, ⟨d0, d1⟩⟩ := HC.out wc K7
      have C21 := path21 wc W2.heap.size _ _ m hd lp (HV.out wc K7).1 (HV.out wc K7).2.1 (HV.out wc K7).2.2.2.2 HSZ.out
      have HK7 : Hid (Kept (fun _ => False) W2 wc) := K7
      clear K7 HN5 HN6 HCS C8 C11 P6 HB5
      cases hph : pathM m hd lp with
      | false =>
        rw [hph] at C21
        clear hph
        go_wp2_with (first
          | (go_at_call 21; refine C21.mono ?_; rintro e w8 ⟨k8, rfl⟩)
          | (go_at_call 13; refine (alive13 w8 mx (HMXW.out w8 (HK7.out.trans k8 (fun _ _ f => f)))).mono ?_; rintro e w9 ⟨k9, rfl⟩))
        go_ret
        exact ⟨(HKE.out w8 (HK7.out.trans k8 (fun _ _ f => f))).trans k9 (fun _ _ f => f), rfl⟩
      | true =>
        rw [hph] at C21
        have HPH : Hid (pathM m hd lp = true) := hph
        have h20 : hd.length + lp.length ≤ 20000 := (path_rng hph).2.1
        clear hph
        by_cases h2 : 2 * (hd.length + lp.length) ≤ 20000
        rotate_left
        · have hgt : (20000 : Int) < 2 * ((hd.length : Int) + (lp.length : Int)) := by omega
          go_wp2_with (first
            | (go_at_call 21; refine C21.mono ?_; rintro e w8 ⟨k8, rfl⟩; have K8 := HK7.out.trans k8 (fun _ _ f => f); clear a0 a1 a2 c0 c1 i0 i1 i2 d0 d1; obtain ⟨_, ⟨c0, c1⟩, _⟩ := HC.out w8 K8)
            | (go_at_call 22; refine (places22 w8 W2.heap.size _ hd lp (HV.out w8 K8).2.1).mono ?_; rintro e w9 ⟨k9, rfl⟩; have K9 := K8.trans k9 (fun _ _ f => f))
            | (go_at_call 13; refine (alive13 w9 mx (HMXW.out w9 K9)).mono ?_; rintro e w10 ⟨k10, rfl⟩))
          go_ret
          exact ⟨(HKE.out w9 K9).trans k10 (fun _ _ f => f), rfl⟩
        have hle : ¬ (20000 : Int) < 2 * ((hd.length : Int) + (lp.length : Int)) := by omega
        go_upto_region 12 with (first
            | (go_at_call 21; refine C21.mono ?_; rintro e w8 ⟨k8, rfl⟩; have K8 := HK7.out.trans k8 (fun _ _ f => f); clear a0 a1 a2 c0 c1 i0 i1 i2 d0 d1; obtain ⟨_, ⟨c0, c1⟩, _⟩ := HC.out w8 K8)
            | (go_at_call 22; refine (places22 w8 W2.heap.size _ hd lp (HV.out w8 K8).2.1).mono ?_; rintro e w9 ⟨k9, rfl⟩; have K9 := K8.trans k9 (fun _ _ f => f)))
        clear c0 c1 K8 k8 k9 C21 hle
        have HPR : Hid (pathM m (hd ++ lp) lp = true) := path_round HPH.out h2
        obtain ⟨th, hth⟩ : ∃ th, hd.map (letterOf m) = th := ⟨_, rfl⟩
        obtain ⟨tl, htl⟩ : ∃ tl, lp.map (letterOf m) = tl := ⟨_, rfl⟩
        obtain ⟨xh, hxh⟩ : ∃ xh, (hd ++ lp).map (letterOf m) = xh := ⟨_, rfl⟩
        have HGW : Hid (goodW th tl = true) := by rw [Hid, ← hth, ← htl]; exact trace_good HPH.out
        have HSB : Hid (sameB th tl xh tl = true) := by rw [Hid, ← hth, ← htl, ← hxh]; exact trace_round HPH.out h2
        have C16 : Hid (∀ (W : World) (B' : Nat) (a b : Value), ModV B' W a m → WordV B' W b hd lp → B' ≤ W.heap.size → Calls Tryz.prog 16 #[a, b] W fun e w' => Kept (fun _ => False) W w' ∧ ∃ u, e = .returned u ∧ WordT W.heap.size w' u th tl) := fun W B' a b h1 h2 h3 => by
          have h := trace16 W B' a b m hd lp h1 h2 h3 HSZ.out
          rwa [traceH, traceL, if_pos HPH.out, if_pos HPH.out, hth, htl] at h
        have C16x : Hid (∀ (W : World) (B' : Nat) (a b : Value), ModV B' W a m → WordV B' W b (hd ++ lp) lp → B' ≤ W.heap.size → Calls Tryz.prog 16 #[a, b] W fun e w' => Kept (fun _ => False) W w' ∧ ∃ u, e = .returned u ∧ WordT W.heap.size w' u xh tl) := fun W B' a b h1 h2 h3 => by
          have h := trace16 W B' a b m (hd ++ lp) lp h1 h2 h3 HSZ.out
          rwa [traceH, traceL, if_pos HPR.out, if_pos HPR.out, hxh, htl] at h
        clear hth htl hxh
        obtain ⟨_, _, ⟨i0, i1, i2⟩, ⟨d0, d1⟩⟩ := HC.out w9 K9
        go_upto_region 13 with (go_at_call 16; refine (C16.out w9 W2.heap.size _ _ (HV.out w9 K9).2.2.1 (HV.out w9 K9).2.2.2.1 (HV.out w9 K9).2.2.2.2).mono ?_; rintro e w10 ⟨k10, vt, rfl, ht10⟩; obtain ⟨ta, tc, tb, td, rfl⟩ := ht10.wordN.wordV.form)
        obtain ⟨Wt, hWt⟩ : ∃ Wt, Wt = w10.alloc (.cells #[.slice ta th.length tc, .slice tb tl.length td] 43) := ⟨_, rfl⟩
        have kWt : Kept (fun _ => False) w10 Wt := by rw [hWt]; exact (Kept.refl _ _).alloc _
        have HBt : Hid (Wt.heap[w10.heap.size]? = some (.cells #[.slice ta th.length tc, .slice tb tl.length td] 43 (0, 0))) := by rw [Hid, hWt]; exact alloc_blk _ _
        have HTt : Hid (WordN w9.heap.size Wt (.agg #[.slice ta th.length tc, .slice tb tl.length td]) th tl) := ht10.wordN.keep kWt.size (fun k _ h => kWt.block k h (fun f => f))
        have Kt : Kept (fun _ => False) W2 Wt := (K9.trans k10 (fun _ _ f => f)).trans kWt (fun _ _ f => f)
        have hst : w10.heap.size < Wt.heap.size := (Array.getElem?_eq_some_iff.1 HBt.out).1
        rw [← hWt]
        clear hWt kWt k10 ht10 i0 i1 i2 d0 d1
        obtain ⟨W10, hW10⟩ : ∃ W10, W10 = Wt.alloc (.cells #[.slice none 0 0, .slice none 0 0] 43) := ⟨_, rfl⟩
        have kWv : Kept (fun _ => False) Wt W10 := by rw [hW10]; exact (Kept.refl _ _).alloc _
        have HBv : Hid (W10.heap[Wt.heap.size]? = some (.cells #[.slice none 0 0, .slice none 0 0] 43 (0, 0))) := by rw [Hid, hW10]; exact alloc_blk _ _
        have hsv : Wt.heap.size < W10.heap.size := (Array.getElem?_eq_some_iff.1 HBv.out).1
        have HKN : Hid (∀ W, Kept (fun k => k = Wt.heap.size) W10 W → Kept (fun k => k = Wt.heap.size) Wt W) := fun W hk => kWv.then hk
        have hzt := Kt.size
        have HKt : Hid (∀ W, Kept (fun k => k = Wt.heap.size) Wt W → Kept (fun _ => False) W2 W) := fun W hk => Kt.trans hk (fun k hk' e => by omega)
        go_upto_region 14 with fail
        rw [← hW10]
        clear hW10 kWv
        generalize hN : Wt.heap.size = N at *
        obtain ⟨i3, hi3, hy0, hy1, hy2⟩ := info_parts info3
        have kk0 := HKt.out W10 (HKN.out W10 (Kept.refl _ _))
        obtain ⟨_, ⟨c0, c1⟩, _⟩ := HC.out W10 kk0
        have HS : Hid (∀ W, Kept (fun k => k = N) W10 W → IntsV W2.heap.size W (.slice qa hd.length qc) hd ∧ IntsV W2.heap.size W (.slice qb lp.length qd) lp ∧ W2.heap.size ≤ W.heap.size) := fun W hk => by
          have h := HV.out W (HKt.out W (HKN.out W hk))
          obtain ⟨hv, lv, e, g1, g2⟩ := h.2.1
          injection e with e
          injection e with e
          injection e with e1 e
          injection e with e2 _
          subst e1 e2
          exact ⟨g1, g2, h.2.2.2.2⟩
        have n0 : W10.cell? ⟨N, 0, none⟩ = some (.slice none 0 0) := blk_cell HBv.out 0
        go_upto_region 15 with (at_builtin; go_must (refine wpList_append_ls rfl _ _ 23 rfl W10.heap.size 3 i3 _ 8 Tryz.underlying23 hi3 hy0 hy1 hy2 rfl (.slice none 0 0) 0 [] rfl (World.ownsRow_nil _ _ _ _) W2.heap.size _ (hd.map (Value.int .i64)) rfl (HS.out W10 (Kept.refl _ _)).1.ls (ints_one _) (by unfold maxLen; simp; omega) (by simp; omega) (Nat.le_refl _) ?_); intro hv' w11 hown1 hk1 hloc1; simp only [List.nil_append, Nat.zero_add, List.length_map] at hown1; have hk1' : Kept (fun _ => False) W10 w11 := hk1.mono (fun k _ e => not_nil k e); have hM1 := (hk1'.block N (by omega) (fun f => f)).trans HBv.out; have e0 : w11.cell? ⟨N, 0, none⟩ = some (.slice none 0 0) := blk_cell hM1 0; have e1 := blk_frozen hM1 0; obtain ⟨na', nc', hnf, _⟩ := (own_ls hown1 (by simp; omega)).form; simp only [List.length_map] at hnf; subst hnf)
        obtain ⟨W11, hW11⟩ : ∃ W11, W11 = w11.setCell ⟨N, 0, none⟩ (.slice na' hd.length nc') := ⟨_, rfl⟩
        have hs2' : Kept (fun k => k = N) w11 W11 := by rw [hW11]; exact Kept.setCell (S := fun k => k = N) (Kept.refl _ _) (fun _ => rfl) _
        have HM2 : Hid (W11.heap[N]? = some (.cells #[.slice na' hd.length nc', .slice none 0 0] 43 (0, 0))) := by rw [Hid, hW11]; exact heap_setCell_same _ _ _ _ _ _ hM1
        have HN2 : Hid (W11.ownsRow W10.heap.size 3 1 (.slice na' hd.length nc') hd.length (hd.map (Value.int .i64))) := own_keptM hown1 hs2' (row_blk hown1 hM1 (by decide))
        have HK11 : Hid (Kept (fun k => k = N) W10 W11) := hk1'.then hs2'
        rw [← hW11]
        clear hW11 hs2' hM1 e0 e1 hown1 hk1 hk1' hloc1 n0 c0 c1 kk0
        have kk1 := HKt.out W11 (HKN.out W11 HK11.out)
        obtain ⟨_, ⟨c0, c1⟩, _⟩ := HC.out W11 kk1
        have n0 : W11.cell? ⟨N, 0, none⟩ = some (.slice na' hd.length nc') := blk_cell HM2.out 0
        have hz11 := HK11.out.size
        go_upto_region 16 with (at_builtin; go_must (refine wpList_append_ls rfl _ _ 23 rfl W10.heap.size 3 i3 _ 8 Tryz.underlying23 hi3 hy0 hy1 hy2 rfl (.slice na' hd.length nc') hd.length _ rfl HN2.out W2.heap.size _ (lp.map (Value.int .i64)) rfl (HS.out W11 HK11.out).2.1.ls (ints_one _) (by unfold maxLen; simp; omega) (by simp; omega) hz11 ?_); intro hv' w12 hown1 hk1 hloc1; simp only [List.length_map] at hown1; have hM1 := (hk1.block N (by omega) (row_blk HN2.out HM2.out (by decide))).trans HM2.out; have e0 : w12.cell? ⟨N, 0, none⟩ = some (.slice na' hd.length nc') := blk_cell hM1 0; have e1 := blk_frozen hM1 0; obtain ⟨na2, nc2, hnf, _⟩ := (own_ls hown1 (by simp; omega)).form; simp only [List.length_append, List.length_map] at hnf; subst hnf)
        obtain ⟨W12, hW12⟩ : ∃ W12, W12 = w12.setCell ⟨N, 0, none⟩ (.slice na2 (hd.length + lp.length) nc2) := ⟨_, rfl⟩
        have hs2' : Kept (fun k => k = N) w12 W12 := by rw [hW12]; exact Kept.setCell (S := fun k => k = N) (Kept.refl _ _) (fun _ => rfl) _
        have HM3 : Hid (W12.heap[N]? = some (.cells #[.slice na2 (hd.length + lp.length) nc2, .slice none 0 0] 43 (0, 0))) := by rw [Hid, hW12]; exact heap_setCell_same _ _ _ _ _ _ hM1
        have HN3 : Hid (W12.ownsRow W10.heap.size 3 1 (.slice na2 (hd.length + lp.length) nc2) (hd.length + lp.length) (hd.map (Value.int .i64) ++ lp.map (Value.int .i64))) := own_keptM hown1 hs2' (row_blk hown1 hM1 (by decide))
        have HK12 : Hid (Kept (fun k => k = N) W10 W12) := (HK11.out.trans hk1 (fun k hk e => absurd (ownsRow_lt HN2.out e).2 (by omega))).trans hs2' (fun _ _ e => e)
        rw [← hW12]
        clear hW12 hs2' hM1 e0 e1 hown1 hk1 hloc1 n0 c0 c1 kk1
        have kk2 := HKt.out W12 (HKN.out W12 HK12.out)
        obtain ⟨_, ⟨c0, c1⟩, _⟩ := HC.out W12 kk2
        have n1 : W12.cell? ⟨N, 1, none⟩ = some (.slice none 0 0) := blk_cell HM3.out 1
        have hz12 := HK12.out.size
        go_upto_region 17 with (at_builtin; go_must (refine wpList_append_ls rfl _ _ 23 rfl W12.heap.size 3 i3 _ 8 Tryz.underlying23 hi3 hy0 hy1 hy2 rfl (.slice none 0 0) 0 [] rfl (World.ownsRow_nil _ _ _ _) W2.heap.size _ (lp.map (Value.int .i64)) rfl (HS.out W12 HK12.out).2.1.ls (ints_one _) (by unfold maxLen; simp; omega) (by simp; omega) (Nat.le_refl _) ?_); intro hv' w13 hown1 hk1 hloc1; simp only [List.nil_append, Nat.zero_add, List.length_map] at hown1; have hk1' : Kept (fun _ => False) W12 w13 := hk1.mono (fun k _ e => not_nil k e); have hM1 := (hk1'.block N (by omega) (fun f => f)).trans HM3.out; have e0 : w13.cell? ⟨N, 1, none⟩ = some (.slice none 0 0) := blk_cell hM1 1; have e1 := blk_frozen hM1 1; obtain ⟨nb2, nd2, hnf, _⟩ := (own_ls hown1 (by simp; omega)).form; simp only [List.length_map] at hnf; subst hnf)
        obtain ⟨W13, hW13⟩ : ∃ W13, W13 = w13.setCell ⟨N, 1, none⟩ (.slice nb2 lp.length nd2) := ⟨_, rfl⟩
        have hs2' : Kept (fun k => k = N) w13 W13 := by rw [hW13]; exact Kept.setCell (S := fun k => k = N) (Kept.refl _ _) (fun _ => rfl) _
        have HM4 : Hid (W13.heap[N]? = some (.cells #[.slice na2 (hd.length + lp.length) nc2, .slice nb2 lp.length nd2] 43 (0, 0))) := by rw [Hid, hW13]; exact heap_setCell_same _ _ _ _ _ _ hM1
        have HN4 : Hid (W13.ownsRow W12.heap.size 3 1 (.slice nb2 lp.length nd2) lp.length (lp.map (Value.int .i64))) := own_keptM hown1 hs2' (row_blk hown1 hM1 (by decide))
        have HN5 : Hid (W13.ownsRow W10.heap.size 3 1 (.slice na2 (hd.length + lp.length) nc2) (hd.length + lp.length) (hd.map (Value.int .i64) ++ lp.map (Value.int .i64))) := own_keptM (own_new HN3.out hk1') hs2' (row_blk (own_new HN3.out hk1') hM1 (by decide))
        have HK13 : Hid (Kept (fun k => k = N) W10 W13) := HK12.out.trans (hk1'.then hs2') (fun _ _ e => e)
        rw [← hW13]
        clear hW13 hs2' hM1 e0 e1 hown1 hk1 hk1' hloc1 n1 c0 c1 kk2
        have HWv : Hid (∀ W, Kept (fun _ => False) W13 W → WordV W13.heap.size W (.agg #[.slice na2 (hd.length + lp.length) nc2, .slice nb2 lp.length nd2]) (hd ++ lp) lp) := fun W hk =>
          WordV.below ⟨_, _, rfl, LsV.ints (by rw [List.map_append]; exact own_ls HN5.out (by simp; omega)), (own_ls HN4.out (by simp; omega)).ints⟩ (hk.below (Nat.le_refl _) (fun _ f => f.elim))
        have kk3 := HKt.out W13 (HKN.out W13 HK13.out)
        have HK3 : Hid (∀ W, Kept (fun _ => False) W13 W → Kept (fun _ => False) W2 W) := fun W hk => kk3.trans hk (fun _ _ f => f)
        have hz13 := HK13.out.size
        have HTv : Hid (∀ W, Kept (fun _ => False) W13 W → WordV W13.heap.size W (.agg #[.slice ta th.length tc, .slice tb tl.length td]) th tl ∧ (W.cell? ⟨w10.heap.size, 0, none⟩ = some (.slice ta th.length tc) ∧ W.cell? ⟨w10.heap.size, 1, none⟩ = some (.slice tb tl.length td)) ∧ (W.cell? ⟨N, 0, none⟩ = some (.slice na2 (hd.length + lp.length) nc2) ∧ W.cell? ⟨N, 1, none⟩ = some (.slice nb2 lp.length nd2))) := fun W hk => by
          have h1 := HKN.out W13 HK13.out
          have hb := (hk.block w10.heap.size (by omega) (fun f => f)).trans ((h1.block w10.heap.size (by omega) (by omega)).trans HBt.out)
          have hb2 := (hk.block N (by omega) (fun f => f)).trans HM4.out
          have h2 : WordV Wt.heap.size W (.agg #[.slice ta th.length tc, .slice tb tl.length td]) th tl := HTt.out.later (fun k _ h => (hk.block k (by omega) (fun f => f)).trans (h1.block k h (by omega)))
          exact ⟨h2.mono (by omega), ⟨blk_cell hb 0, blk_cell hb 1⟩, ⟨blk_cell hb2 0, blk_cell hb2 1⟩⟩
        obtain ⟨_, _, ⟨i0, i1, i2⟩, _⟩ := HC.out W13 kk3
        obtain ⟨_, ⟨t0, t1⟩, ⟨v0, v1⟩⟩ := HTv.out W13 (Kept.refl _ _)
        clear kk3
        go_upto_region 18 with (go_at_call 16; refine (C16x.out W13 W13.heap.size _ _ ((HV.out W13 (HK3.out W13 (Kept.refl _ _))).2.2.1.mono (HV.out W13 (HK3.out W13 (Kept.refl _ _))).2.2.2.2) (HWv.out W13 (Kept.refl _ _)) (Nat.le_refl _)).mono ?_; rintro e w14 ⟨k14, vx, rfl, hx14⟩; obtain ⟨xa, xc, xb, xd, rfl⟩ := hx14.wordN.wordV.form)
        obtain ⟨W14, hW14⟩ : ∃ W14, W14 = w14.alloc (.cells #[.slice xa xh.length xc, .slice xb tl.length xd] 43) := ⟨_, rfl⟩
        have kW : Kept (fun _ => False) w14 W14 := by rw [hW14]; exact (Kept.refl _ _).alloc _
        have HBx : Hid (W14.heap[w14.heap.size]? = some (.cells #[.slice xa xh.length xc, .slice xb tl.length xd] 43 (0, 0))) := by rw [Hid, hW14]; exact alloc_blk _ _
        have HXv : Hid (WordV W14.heap.size W14 (.agg #[.slice xa xh.length xc, .slice xb tl.length xd]) xh tl) := (hx14.wordN.keep kW.size (fun k _ h => kW.block k h (fun f => f))).wordV
        have HK14 : Hid (Kept (fun _ => False) W13 W14) := k14.trans kW (fun _ _ f => f)
        have hsx : w14.heap.size < W14.heap.size := (Array.getElem?_eq_some_iff.1 HBx.out).1
        have HXC : Hid (∀ W, Kept (fun _ => False) W14 W → W.cell? ⟨w14.heap.size, 0, none⟩ = some (.slice xa xh.length xc) ∧ W.cell? ⟨w14.heap.size, 1, none⟩ = some (.slice xb tl.length xd)) := fun W hk => by
          have hb := (hk.block w14.heap.size hsx (fun f => f)).trans HBx.out
          exact ⟨blk_cell hb 0, blk_cell hb 1⟩
        rw [← hW14]
        clear hW14 kW k14 hx14 i0 i1 i2 t0 t1 v0 v1
        obtain ⟨_, ⟨t0, t1⟩, ⟨v0, v1⟩⟩ := HTv.out W14 HK14.out
        obtain ⟨_, _, ⟨i0, i1, i2⟩, _⟩ := HC.out W14 (HK3.out W14 HK14.out)
        obtain ⟨z0, z1⟩ := HXC.out W14 (Kept.refl _ _)
        have C23 := good23 W14 W13.heap.size _ th tl (HTv.out W14 HK14.out).1 HK14.out.size
        rw [HGW.out] at C23
        go_wp2_with (first
          | (go_at_call 23; refine C23.mono ?_; rintro e w15 ⟨rfl, k15⟩; have K15 := HK14.out.trans k15 (fun _ _ f => f); clear i0 i1 i2 t0 t1 v0 v1 z0 z1; obtain ⟨_, ⟨t0, t1⟩, ⟨v0, v1⟩⟩ := HTv.out w15 K15; obtain ⟨_, _, ⟨i0, i1, i2⟩, _⟩ := HC.out w15 (HK3.out w15 K15); obtain ⟨z0, z1⟩ := HXC.out w15 k15)
          | (go_at_call 20; refine (path20 w15 W13.heap.size _ _ m (hd ++ lp) lp ((HV.out w15 (HK3.out w15 K15)).2.2.1.mono (HV.out W13 (HK3.out W13 (Kept.refl _ _))).2.2.2.2) (HWv.out w15 K15) K15.size HSZ.out).mono ?_; rw [HPR.out]; rintro e w16 ⟨k16, rfl⟩; have K16 := K15.trans k16 (fun _ _ f => f); have L16 := k15.trans k16 (fun _ _ f => f); clear i0 i1 i2 t0 t1 v0 v1 z0 z1; obtain ⟨_, ⟨t0, t1⟩, ⟨v0, v1⟩⟩ := HTv.out w16 K16; obtain ⟨z0, z1⟩ := HXC.out w16 L16)
          | (go_at_call 24; refine (same39 w16 W13.heap.size W14.heap.size _ _ th tl xh tl (HTv.out w16 K16).1 (HXv.out.kept L16 (Nat.le_refl _)) K16.size L16.size).mono ?_; rw [HSB.out]; rintro e w17 ⟨k17, rfl⟩; have K17 := K16.trans k17 (fun _ _ f => f))
          | (go_at_call 13; refine (alive13 w17 mx (HMXW.out w17 (HK3.out w17 K17))).mono ?_; rintro e w18 ⟨k18, rfl⟩))
        go_ret
        exact ⟨(HKE.out w17 (HK3.out w17 K17)).trans k18 (fun _ _ f => f), rfl⟩
end Go.Proofs.YtdbpdanocpfboabGreatDoor
