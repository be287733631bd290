import Derived.Test.YtdbpdanocpfboabGreatDoorZBun11
/- The law ModelPaths. -/
namespace Go.Proofs.YtdbpdanocpfboabGreatDoor
open Go.RowKit

set_option maxRecDepth 100000 in
set_option maxHeartbeats 8000000 in
theorem law4 (w : World) (B : Nat) (v wv : Value) (m : MD) (hd lp : List Int) (mx : Int) (hm : ModV B w v m) (hw : WordV B w wv hd lp) (hB : B ≤ w.heap.size) (hsz : ∀ x ∈ m.names, x.size ≤ 9223372036854775807) (hn : m.names.length ≤ 8796093022208) (ht : m.tos.length ≤ 5864062014805) (hmx : w.cell? ⟨0, 0, none⟩ = some (.int .i64 mx)) :
    Calls Tryz.prog 4 #[v, wv] w fun e w' => Kept (fun _ => False) w w' ∧ e = .returned (.bool true) := by
  obtain ⟨pna, pnc, pla, plc, pta, ptc, rfl⟩ := hm.form
  obtain ⟨qa, qc, qb, qd, rfl⟩ := hw.form
  obtain ⟨W0, hW0⟩ : ∃ W0, W0 = (w.alloc (.cells #[.slice pna m.names.length pnc, .slice pla m.letters.length plc, .slice pta m.tos.length ptc] 30)).alloc (.cells #[.slice qa hd.length qc, .slice qb lp.length qd] 41) := ⟨_, rfl⟩
  have k0 : Kept (fun _ => False) w W0 := by rw [hW0]; exact ((Kept.refl _ _).alloc _).alloc _
  have b0 : W0.heap[w.heap.size]? = some (.cells #[.slice pna m.names.length pnc, .slice pla m.letters.length plc, .slice pta m.tos.length ptc] 30 (0, 0)) := by rw [hW0]; exact (Below.heap_alloc _ _ _ (by simp)).trans (alloc_blk _ _)
  have b1 : W0.heap[w.heap.size + 1]? = some (.cells #[.slice qa hd.length qc, .slice qb lp.length qd] 41 (0, 0)) := by rw [hW0]; have := alloc_blk (w.alloc (.cells #[.slice pna m.names.length pnc, .slice pla m.letters.length plc, .slice pta m.tos.length ptc] 30)) (.cells #[.slice qa hd.length qc, .slice qb lp.length qd] 41); rwa [World.size_alloc] at this
  have HSZ : Hid (∀ x ∈ m.names, x.size ≤ 9223372036854775807) := hsz
  have HMX : Hid (w.cell? ⟨0, 0, none⟩ = some (.int .i64 mx)) := hmx
  have HB0 : Hid (W0.heap[w.heap.size]? = some (.cells #[.slice pna m.names.length pnc, .slice pla m.letters.length plc, .slice pta m.tos.length ptc] 30 (0, 0))) := b0
  have HB1 : Hid (W0.heap[w.heap.size + 1]? = some (.cells #[.slice qa hd.length qc, .slice qb lp.length qd] 41 (0, 0))) := b1
  have HK0 : Hid (Kept (fun _ => False) w W0) := k0
  have HM : Hid (ModV B W0 (.agg #[.slice pna m.names.length pnc, .slice pla m.letters.length plc, .slice pta m.tos.length ptc]) m) := hm.kept k0 hB
  have HW : Hid (WordV B W0 (.agg #[.slice qa hd.length qc, .slice qb lp.length qd]) hd lp) := hw.kept k0 hB
  have hz0 := k0.size
  have hs1 : w.heap.size + 1 < W0.heap.size := (Array.getElem?_eq_some_iff.1 b1).1
  clear hm hw hsz hmx k0
  have x0 : W0.cell? ⟨w.heap.size, 0, none⟩ = some (.slice pna m.names.length pnc) := blk_cell b0 0
  have x1 : W0.cell? ⟨w.heap.size, 1, none⟩ = some (.slice pla m.letters.length plc) := blk_cell b0 1
  have x2 : W0.cell? ⟨w.heap.size, 2, none⟩ = some (.slice pta m.tos.length ptc) := blk_cell b0 2
  clear b0 b1
  go_enter Tryz.func4, Tryz.ntmps4
  go_upto_region 1 with fail
  generalize hs0 : w.heap.size + 1 = s1 at *
  rw [← hW0]
  clear hW0
  go_upto_region 2 with (go_at_call 14; refine (given14 W0 B _ m HM.out (by omega) hn ht).mono ?_; rintro e w1 ⟨k1, vi, rfl, hi1⟩; obtain ⟨ina, inc, ila, ilc, ita, itc, rfl⟩ := hi1.form)
  obtain ⟨W1, hW1⟩ : ∃ W1, W1 = w1.alloc (.cells #[.slice ina m.names.length inc, .slice ila m.letters.length ilc, .slice ita m.tos.length itc] 26) := ⟨_, rfl⟩
  have kW : Kept (fun _ => False) w1 W1 := by rw [hW1]; exact (Kept.refl _ _).alloc _
  have HB2 : Hid (W1.heap[w1.heap.size]? = some (.cells #[.slice ina m.names.length inc, .slice ila m.letters.length ilc, .slice ita m.tos.length itc] 26 (0, 0))) := by rw [Hid, hW1]; exact alloc_blk _ _
  have HK1 : Hid (Kept (fun _ => False) W0 W1) := k1.trans kW (fun _ _ f => f)
  have HI : Hid (ModV w1.heap.size W1 (.agg #[.slice ina m.names.length inc, .slice ila m.letters.length ilc, .slice ita m.tos.length itc]) m) := hi1.kept kW (Nat.le_refl _)
  have hz1 := k1.size
  have hs2 : w1.heap.size < W1.heap.size := (Array.getElem?_eq_some_iff.1 HB2.out).1
  rw [← hW1]
  clear hW1 kW k1 hi1 x0 x1 x2
  have bw1 := (HK1.out.block s1 hs1 (fun f => f)).trans HB1.out
  have y0 : W1.cell? ⟨s1, 0, none⟩ = some (.slice qa hd.length qc) := blk_cell bw1 0
  have y1 : W1.cell? ⟨s1, 1, none⟩ = some (.slice qb lp.length qd) := blk_cell bw1 1
  go_upto_region 3 with (go_at_call 15; refine (given15w W1 B _ hd lp (HW.out.kept HK1.out (by omega)) (by omega)).mono ?_; rintro e w2 ⟨k2, vu, rfl, hu2⟩; obtain ⟨ua, uc, ub, ud, rfl⟩ := hu2.form)
  obtain ⟨W2, hW2⟩ : ∃ W2, W2 = w2.alloc (.cells #[.slice ua hd.length uc, .slice ub lp.length ud] 43) := ⟨_, rfl⟩
  have kW : Kept (fun _ => False) w2 W2 := by rw [hW2]; exact (Kept.refl _ _).alloc _
  have HB3 : Hid (W2.heap[w2.heap.size]? = some (.cells #[.slice ua hd.length uc, .slice ub lp.length ud] 43 (0, 0))) := by rw [Hid, hW2]; exact alloc_blk _ _
  have HK2 : Hid (Kept (fun _ => False) W1 W2) := k2.trans kW (fun _ _ f => f)
  have HU : Hid (WordV w2.heap.size W2 (.agg #[.slice ua hd.length uc, .slice ub lp.length ud]) hd lp) := hu2.kept kW (Nat.le_refl _)
  have hz2 := k2.size
  have hs3 : w2.heap.size < W2.heap.size := (Array.getElem?_eq_some_iff.1 HB3.out).1
  rw [← hW2]
  clear hW2 kW k2 hu2 y0 y1 bw1
  have hb2 : Hid (∀ W, Kept (fun _ => False) W2 W → W.cell? ⟨w1.heap.size, 0, none⟩ = some (.slice ina m.names.length inc) ∧ W.cell? ⟨w1.heap.size, 1, none⟩ = some (.slice ila m.letters.length ilc) ∧ W.cell? ⟨w1.heap.size, 2, none⟩ = some (.slice ita m.tos.length itc) ∧ W.cell? ⟨w2.heap.size, 0, none⟩ = some (.slice ua hd.length uc) ∧ W.cell? ⟨w2.heap.size, 1, none⟩ = some (.slice ub lp.length ud)) := fun W hk => by
    have h1 := ((HK2.out.trans hk (fun _ _ f => f)).block _ hs2 (fun f => f)).trans HB2.out
    have h2 := (hk.block _ hs3 (fun f => f)).trans HB3.out
    exact ⟨blk_cell h1 0, blk_cell h1 1, blk_cell h1 2, blk_cell h2 0, blk_cell h2 1⟩
  obtain ⟨x0, x1, x2, y0, y1⟩ := hb2.out W2 (Kept.refl _ _)
  obtain ⟨th, hth⟩ : ∃ th, traceH m hd lp = th := ⟨_, rfl⟩
  obtain ⟨tl, htl⟩ : ∃ tl, traceL m hd lp = tl := ⟨_, rfl⟩
  have C16 : Hid (∀ (W : World) (B' : Nat) (a b : Value), ModV B' W a m → WordV B' W b hd lp → B' ≤ W.heap.size → Calls Tryz.prog 16 #[a, b] W fun e w' => Kept (fun _ => False) W w' ∧ ∃ u, e = .returned u ∧ WordT W.heap.size w' u th tl) := fun W B' a b h1 h2 h3 => by
    have h := trace16 W B' a b m hd lp h1 h2 h3 HSZ.out
    rwa [hth, htl] at h
  have C17 : Hid (∀ (W : World) (B' : Nat) (a b : Value), ModV B' W a m → WordV B' W b hd lp → B' ≤ W.heap.size → Calls Tryz.prog 17 #[a, b] W fun e w' => Kept (fun _ => False) W w' ∧ ∃ u, e = .returned u ∧ WordN W.heap.size w' u th tl) := fun W B' a b h1 h2 h3 => by
    have h := trace17 W B' a b m hd lp h1 h2 h3 HSZ.out
    rwa [hth, htl] at h
  clear hth htl
  go_upto_region 4 with (go_at_call 16; refine (C16.out W2 W2.heap.size _ _ ((HI.out.kept HK2.out (by omega)).mono (by omega)) (HU.out.mono (by omega)) (Nat.le_refl _)).mono ?_; rintro e w3 ⟨k3, vt, rfl, ht3⟩; obtain ⟨ta, tc, tb, td, rfl⟩ := ht3.wordN.wordV.form)
  obtain ⟨W3, hW3⟩ : ∃ W3, W3 = w3.alloc (.cells #[.slice ta th.length tc, .slice tb tl.length td] 43) := ⟨_, rfl⟩
  have kW : Kept (fun _ => False) w3 W3 := by rw [hW3]; exact (Kept.refl _ _).alloc _
  have HB4 : Hid (W3.heap[w3.heap.size]? = some (.cells #[.slice ta th.length tc, .slice tb tl.length td] 43 (0, 0))) := by rw [Hid, hW3]; exact alloc_blk _ _
  have HK3 : Hid (Kept (fun _ => False) W2 W3) := k3.trans kW (fun _ _ f => f)
  have HT3 : Hid (WordT W2.heap.size w3 (.agg #[.slice ta th.length tc, .slice tb tl.length td]) th tl) := ht3
  have HKT : Hid (Kept (fun _ => False) w3 W3) := kW
  have hz3 := k3.size
  have hs4 : w3.heap.size < W3.heap.size := (Array.getElem?_eq_some_iff.1 HB4.out).1
  rw [← hW3]
  clear hW3 kW k3 ht3 x0 x1 x2 y0 y1
  have HK03 : Hid (Kept (fun _ => False) W0 W3) := (HK1.out.trans HK2.out (fun _ _ f => f)).trans HK3.out (fun _ _ f => f)
  have bm3 := (HK03.out.block _ (by omega) (fun f => f)).trans HB0.out
  have bw3 := (HK03.out.block _ hs1 (fun f => f)).trans HB1.out
  have x0 : W3.cell? ⟨w.heap.size, 0, none⟩ = some (.slice pna m.names.length pnc) := blk_cell bm3 0
  have x1 : W3.cell? ⟨w.heap.size, 1, none⟩ = some (.slice pla m.letters.length plc) := blk_cell bm3 1
  have x2 : W3.cell? ⟨w.heap.size, 2, none⟩ = some (.slice pta m.tos.length ptc) := blk_cell bm3 2
  have y0 : W3.cell? ⟨s1, 0, none⟩ = some (.slice qa hd.length qc) := blk_cell bw3 0
  have y1 : W3.cell? ⟨s1, 1, none⟩ = some (.slice qb lp.length qd) := blk_cell bw3 1
  go_upto_region 5 with (go_at_call 17; refine (C17.out W3 B _ _ (HM.out.kept HK03.out (by omega)) (HW.out.kept HK03.out (by omega)) (by omega)).mono ?_; rintro e w4 ⟨k4, vq, rfl, hq4⟩; obtain ⟨ra, rc, rb, rd, rfl⟩ := hq4.wordV.form)
  obtain ⟨W4, hW4⟩ : ∃ W4, W4 = w4.alloc (.cells #[.slice ra th.length rc, .slice rb tl.length rd] 41) := ⟨_, rfl⟩
  have kW : Kept (fun _ => False) w4 W4 := by rw [hW4]; exact (Kept.refl _ _).alloc _
  have HB5 : Hid (W4.heap[w4.heap.size]? = some (.cells #[.slice ra th.length rc, .slice rb tl.length rd] 41 (0, 0))) := by rw [Hid, hW4]; exact alloc_blk _ _
  have HK4 : Hid (Kept (fun _ => False) W3 W4) := k4.trans kW (fun _ _ f => f)
  have HR4 : Hid (WordN W3.heap.size W4 (.agg #[.slice ra th.length rc, .slice rb tl.length rd]) th tl) := hq4.keep kW.size (fun k _ h => kW.block k h (fun f => f))
  have hz4 := k4.size
  have hs5 : w4.heap.size < W4.heap.size := (Array.getElem?_eq_some_iff.1 HB5.out).1
  rw [← hW4]
  clear hW4 kW k4 hq4 x0 x1 x2 y0 y1 bm3 bw3 hb2
  have HKX : Hid (∀ W, Kept (fun k => W2.heap.size ≤ k ∧ k < w3.heap.size) W4 W → Kept (fun k => W2.heap.size ≤ k ∧ k < w3.heap.size) W0 W) := fun W hk => (HK03.out.trans HK4.out (fun _ _ f => f)).then hk
  have HC : Hid (∀ W, Kept (fun k => W2.heap.size ≤ k ∧ k < w3.heap.size) W4 W → (W.cell? ⟨w.heap.size, 0, none⟩ = some (.slice pna m.names.length pnc) ∧ W.cell? ⟨w.heap.size, 1, none⟩ = some (.slice pla m.letters.length plc) ∧ W.cell? ⟨w.heap.size, 2, none⟩ = some (.slice pta m.tos.length ptc)) ∧ (W.cell? ⟨s1, 0, none⟩ = some (.slice qa hd.length qc) ∧ W.cell? ⟨s1, 1, none⟩ = some (.slice qb lp.length qd)) ∧ (W.cell? ⟨w1.heap.size, 0, none⟩ = some (.slice ina m.names.length inc) ∧ W.cell? ⟨w1.heap.size, 1, none⟩ = some (.slice ila m.letters.length ilc) ∧ W.cell? ⟨w1.heap.size, 2, none⟩ = some (.slice ita m.tos.length itc)) ∧ (W.cell? ⟨w2.heap.size, 0, none⟩ = some (.slice ua hd.length uc) ∧ W.cell? ⟨w2.heap.size, 1, none⟩ = some (.slice ub lp.length ud)) ∧ (W.cell? ⟨w3.heap.size, 0, none⟩ = some (.slice ta th.length tc) ∧ W.cell? ⟨w3.heap.size, 1, none⟩ = some (.slice tb tl.length td)) ∧ (W.cell? ⟨w4.heap.size, 0, none⟩ = some (.slice ra th.length rc) ∧ W.cell? ⟨w4.heap.size, 1, none⟩ = some (.slice rb tl.length rd))) := fun W hk => by
    have k34 := HK4.out.then hk
    have k24 := HK3.out.then k34
    have k14 := HK2.out.then k24
    have k04 := HK1.out.then k14
    have h0 := (k04.block _ (by omega) (by omega)).trans HB0.out
    have h1 := (k04.block _ hs1 (by omega)).trans HB1.out
    have h2 := (k14.block _ hs2 (by omega)).trans HB2.out
    have h3 := (k24.block _ hs3 (by omega)).trans HB3.out
    have h4 := (k34.block _ hs4 (by omega)).trans HB4.out
    have h5 := (hk.block _ hs5 (by omega)).trans HB5.out
    exact ⟨⟨blk_cell h0 0, blk_cell h0 1, blk_cell h0 2⟩, ⟨blk_cell h1 0, blk_cell h1 1⟩, ⟨blk_cell h2 0, blk_cell h2 1, blk_cell h2 2⟩, ⟨blk_cell h3 0, blk_cell h3 1⟩, ⟨blk_cell h4 0, blk_cell h4 1⟩, ⟨blk_cell h5 0, blk_cell h5 1⟩⟩
  have HV : Hid (∀ W, Kept (fun k => W2.heap.size ≤ k ∧ k < w3.heap.size) W4 W → ModV W4.heap.size W (.agg #[.slice pna m.names.length pnc, .slice pla m.letters.length plc, .slice pta m.tos.length ptc]) m ∧ WordV W4.heap.size W (.agg #[.slice qa hd.length qc, .slice qb lp.length qd]) hd lp ∧ ModV W4.heap.size W (.agg #[.slice ina m.names.length inc, .slice ila m.letters.length ilc, .slice ita m.tos.length itc]) m ∧ WordV W4.heap.size W (.agg #[.slice ua hd.length uc, .slice ub lp.length ud]) hd lp ∧ WordV W4.heap.size W (.agg #[.slice ra th.length rc, .slice rb tl.length rd]) th tl ∧ W4.heap.size ≤ W.heap.size) := fun W hk => by
    have k34 := HK4.out.then hk
    have k24 := HK3.out.then k34
    have k14 := HK2.out.then k24
    have k04 := HK1.out.then k14
    refine ⟨(HM.out.below (k04.below (by omega) (fun k e => by omega))).mono (by omega), (HW.out.below (k04.below (by omega) (fun k e => by omega))).mono (by omega), (HI.out.below (k14.below (by omega) (fun k e => by omega))).mono (by omega), (HU.out.below (k24.below (by omega) (fun k e => by omega))).mono (by omega), HR4.out.later (fun k h1 h2 => hk.block k h2 (by omega)), hk.size⟩
  have KT4 : Kept (fun _ => False) w3 W4 := HKT.out.trans HK4.out (fun _ _ f => f)
  have HT4 : Hid (WordV W4.heap.size W4 (.agg #[.slice ta th.length tc, .slice tb tl.length td]) th tl) := (HT3.out.wordN.keep KT4.size (fun k _ h => KT4.block k h (fun f => f))).wordV
  have HKT4 : Hid (Kept (fun _ => False) w3 W4) := KT4
  clear KT4
  obtain ⟨_, _, _, _, ⟨z0, z1⟩, r0, r1⟩ := HC.out W4 (Kept.refl _ _)
  go_upto_if 53 with (go_at_call 18; refine (same18t W4 W4.heap.size W4.heap.size _ _ th tl HT4.out (HV.out W4 (Kept.refl _ _)).2.2.2.2.1 (Nat.le_refl _) (Nat.le_refl _)).mono ?_; rintro e w5 ⟨k5, rfl⟩)
  have k5' : Kept (fun k => W2.heap.size ≤ k ∧ k < w3.heap.size) W4 w5 := k5.mono (fun _ _ f => f.elim)
  have HK5 : Hid (Kept (fun _ => False) W4 w5) := k5
  clear z0 z1 r0 r1 k5
  go_cut [53] (fun v53 wd => v53 = .bool false ∧ Kept (fun _ => False) w5 wd)
  case first =>
    obtain ⟨⟨a0, a1, a2⟩, ⟨c0, c1⟩, ⟨i0, i1, i2⟩, ⟨d0, d1⟩, _⟩ := HC.out w5 k5'
    obtain ⟨tx, htx⟩ : ∃ tx, printM m = tx := ⟨_, rfl⟩
    obtain ⟨gd, hgd⟩ : ∃ gd, goodM m = gd := ⟨_, rfl⟩
    obtain ⟨ph, hph⟩ : ∃ ph, pathM m hd lp = ph := ⟨_, rfl⟩
    have HUK : Hid (∀ U : KW w5, Kept (fun k => W2.heap.size ≤ k ∧ k < w3.heap.size) W4 U.1) := fun U => k5'.trans U.2 (fun _ _ f => f.elim)
    have Q10 : Hid (∀ U : KW w5, Calls Tryz.prog 10 #[.agg #[.slice ina m.names.length inc, .slice ila m.letters.length ilc, .slice ita m.tos.length itc]] U.1 fun e w' => Kept (fun _ => False) U.1 w' ∧ e = .returned (.bool gd)) := fun U => by
      have h := good10 U.1 W4.heap.size _ m (HV.out U.1 (HUK.out U)).2.2.1 (HV.out U.1 (HUK.out U)).2.2.2.2.2 HSZ.out
      rwa [hgd] at h
    have Q19 : Hid (∀ U : KW w5, Calls Tryz.prog 19 #[.agg #[.slice pna m.names.length pnc, .slice pla m.letters.length plc, .slice pta m.tos.length ptc]] U.1 fun e w' => Kept (fun _ => False) U.1 w' ∧ e = .returned (.bool gd)) := fun U => by
      have h := good19 U.1 W4.heap.size _ m (HV.out U.1 (HUK.out U)).1 (HV.out U.1 (HUK.out U)).2.2.2.2.2 HSZ.out
      rwa [hgd] at h
    have Q20 : Hid (∀ U : KW w5, Calls Tryz.prog 20 #[.agg #[.slice ina m.names.length inc, .slice ila m.letters.length ilc, .slice ita m.tos.length itc], .agg #[.slice ua hd.length uc, .slice ub lp.length ud]] U.1 fun e w' => Kept (fun _ => False) U.1 w' ∧ e = .returned (.bool ph)) := fun U => by
      have h := path20 U.1 W4.heap.size _ _ m hd lp (HV.out U.1 (HUK.out U)).2.2.1 (HV.out U.1 (HUK.out U)).2.2.2.1 (HV.out U.1 (HUK.out U)).2.2.2.2.2 HSZ.out
      rwa [hph] at h
    have Q21 : Hid (∀ U : KW w5, Calls Tryz.prog 21 #[.agg #[.slice pna m.names.length pnc, .slice pla m.letters.length plc, .slice pta m.tos.length ptc], .agg #[.slice qa hd.length qc, .slice qb lp.length qd]] U.1 fun e w' => Kept (fun _ => False) U.1 w' ∧ e = .returned (.bool ph)) := fun U => by
      have h := path21 U.1 W4.heap.size _ _ m hd lp (HV.out U.1 (HUK.out U)).1 (HV.out U.1 (HUK.out U)).2.1 (HV.out U.1 (HUK.out U)).2.2.2.2.2 HSZ.out
      rwa [hph] at h
    have Q11 : Hid (∀ U : KW w5, Calls Tryz.prog 11 #[.agg #[.slice ina m.names.length inc, .slice ila m.letters.length ilc, .slice ita m.tos.length itc]] U.1 fun e w' => Kept (fun _ => False) U.1 w' ∧ e = .returned (.string tx)) := fun U => by
      have h := print11 U.1 W4.heap.size _ m (HV.out U.1 (HUK.out U)).2.2.1 (HV.out U.1 (HUK.out U)).2.2.2.2.2 HSZ.out
      rwa [htx] at h
    have Q12 : Hid (∀ U : KW w5, Calls Tryz.prog 12 #[.agg #[.slice pna m.names.length pnc, .slice pla m.letters.length plc, .slice pta m.tos.length ptc]] U.1 fun e w' => Kept (fun _ => False) U.1 w' ∧ e = .returned (.string tx)) := fun U => by
      have h := print12 U.1 W4.heap.size _ m (HV.out U.1 (HUK.out U)).1 (HV.out U.1 (HUK.out U)).2.2.2.2.2 HSZ.out
      rwa [htx] at h
    clear htx hgd hph
    have hgn : (gd != gd) = false := by simp
    have hpn : (ph != ph) = false := by simp
    have U0 : ∀ U : KW w5, U.1.cell? ⟨w.heap.size, 0, none⟩ = some (.slice pna m.names.length pnc) := fun U => U.cell a0
    have U1 : ∀ U : KW w5, U.1.cell? ⟨w.heap.size, 1, none⟩ = some (.slice pla m.letters.length plc) := fun U => U.cell a1
    have U2 : ∀ U : KW w5, U.1.cell? ⟨w.heap.size, 2, none⟩ = some (.slice pta m.tos.length ptc) := fun U => U.cell a2
    have U3 : ∀ U : KW w5, U.1.cell? ⟨s1, 0, none⟩ = some (.slice qa hd.length qc) := fun U => U.cell c0
    have U4 : ∀ U : KW w5, U.1.cell? ⟨s1, 1, none⟩ = some (.slice qb lp.length qd) := fun U => U.cell c1
    have U5 : ∀ U : KW w5, U.1.cell? ⟨w1.heap.size, 0, none⟩ = some (.slice ina m.names.length inc) := fun U => U.cell i0
    have U6 : ∀ U : KW w5, U.1.cell? ⟨w1.heap.size, 1, none⟩ = some (.slice ila m.letters.length ilc) := fun U => U.cell i1
    have U7 : ∀ U : KW w5, U.1.cell? ⟨w1.heap.size, 2, none⟩ = some (.slice ita m.tos.length itc) := fun U => U.cell i2
    have U8 : ∀ U : KW w5, U.1.cell? ⟨w2.heap.size, 0, none⟩ = some (.slice ua hd.length uc) := fun U => U.cell d0
    have U9 : ∀ U : KW w5, U.1.cell? ⟨w2.heap.size, 1, none⟩ = some (.slice ub lp.length ud) := fun U => U.cell d1
    go_upto_region 6 with fail
    refine wp_region_blk_kept (by kernel_rfl) (by kernel_rfl) ?_
    repeat (refine blk_step (fun K hK => ?_); go_simp; first | (refine hK _ ?_; clear hK K) | (apply Exists.intro; refine ⟨fun U => ?_, hK _ ?_⟩; (first | (go_at_call 10; exact Calls.quiet_kept (Q10.out U)) | (go_at_call 19; exact Calls.quiet_kept (Q19.out U)) | (go_at_call 20; exact Calls.quiet_kept (Q20.out U)) | (go_at_call 21; exact Calls.quiet_kept (Q21.out U)) | (go_at_call 11; exact Calls.quiet_kept (Q11.out U)) | (go_at_call 12; exact Calls.quiet_kept (Q12.out U))); clear hK K))
    refine blk_nil ?_
    intro w6 hw'
    have k6 : Kept (fun _ => False) w5 w6 := by
      obtain ⟨U, rfl⟩ := hw'
      exact U.2
    clear hw' U0 U1 U2 U3 U4 U5 U6 U7 U8 U9
    go_wp2_with fail
    go_meet
    case rel => exact ⟨rfl, k6⟩
  case rest =>
    obtain ⟨rfl, k6⟩ := hcut
    have K4X : Kept (fun _ => False) W4 wc := HK5.out.trans k6 (fun _ _ f => f)
    have HK4X : Hid (Kept (fun _ => False) W4 wc) := K4X
    clear k5' k6
    generalize hX : wc = X at *
    clear hX
    obtain ⟨ta', tc', tb', td', e, u1, u2, hl1, hl2⟩ := wordT_u HT3.out (HKT4.out.trans K4X (fun _ _ f => f))
    injection e with e
    injection e with e
    injection e with e1 e
    injection e with e2 _
    injection e1 with e1 _ e3
    injection e2 with e2 _ e4
    subst e1 e2 e3 e4
    have HU1 : Hid (LsU 3 W2.heap.size w3.heap.size X (.slice ta th.length tc) (th.map (Value.int .i64))) := u1
    have HU2 : Hid (LsU 3 W2.heap.size w3.heap.size X (.slice tb tl.length td) (tl.map (Value.int .i64))) := u2
    have HKS : Hid (∀ W, Soft W2.heap.size w3.heap.size X W → Kept (fun k => W2.heap.size ≤ k ∧ k < w3.heap.size) W4 W) := fun W hs => K4X.then hs.kept
    clear u1 u2 K4X
    go_wp2
    go_loopw [10] (fun iv W => ∃ i : Nat, i ≤ th.length ∧ iv = .int .i64 i ∧ Soft W2.heap.size w3.heap.size X W) (fun iv _ => th.length - (intOf iv).toNat)
    case atStart => exact ⟨0, Nat.zero_le _, rfl, Soft.refl _ _ _⟩
    case round =>
      obtain ⟨i, hi, rfl, hs⟩ := hrel
      have HS : Hid (Soft W2.heap.size w3.heap.size X wr) := hs
      clear hs
      obtain ⟨_, _, _, _, ⟨z0, z1⟩, _⟩ := HC.out wr (HKS.out wr HS.out)
      by_cases hlt : i < th.length
      · have hii : (i : Int) < (th.length : Int) := by omega
        obtain ⟨nb, no, rfl, hnb, hnt, ⟨nx, cn⟩, fn⟩ := HU1.out.cell HS.out (i := i) (by simpa using hlt)
        go_wp2
        go_roundw
        case rel => exact ⟨i + 1, by omega, by simp, HS.out.set hnb hnt (by decide) _⟩
        case measure => simp [intOf]; omega
      · obtain rfl : i = th.length := by omega
        go_wp2
        clear z0 z1
        go_loopw [11] (fun iv W => ∃ i : Nat, i ≤ tl.length ∧ iv = .int .i64 i ∧ Soft W2.heap.size w3.heap.size X W) (fun iv _ => tl.length - (intOf iv).toNat)
        case atStart => exact ⟨0, Nat.zero_le _, rfl, HS.out⟩
        case round =>
          obtain ⟨i, hi, rfl, hs⟩ := hrel
          have HSr : Hid (Soft W2.heap.size w3.heap.size X wr) := hs
          clear hs
          obtain ⟨_, _, _, _, ⟨z0, z1⟩, _⟩ := HC.out wr (HKS.out wr HSr.out)
          by_cases hlt2 : i < tl.length
          · have hii : (i : Int) < (tl.length : Int) := by omega
            obtain ⟨nb, no, rfl, hnb, hnt, ⟨nx, cn⟩, fn⟩ := HU2.out.cell HSr.out (i := i) (by simpa using hlt2)
            go_wp2
            go_roundw
            case rel => exact ⟨i + 1, by omega, by simp, HSr.out.set hnb hnt (by decide) _⟩
            case measure => simp [intOf]; omega
          · obtain rfl : i = tl.length := by omega
            have KR := HKS.out wr HSr.out
            have HKR : Hid (Kept (fun k => W2.heap.size ≤ k ∧ k < w3.heap.size) W4 wr) := KR
            have HKE : Hid (∀ W, Kept (fun k => W2.heap.size ≤ k ∧ k < w3.heap.size) W4 W → Kept (fun _ => False) w W) := fun W hk => HK0.out.trans (HKX.out W hk) (fun k hk' e => by omega)
            have HLt : Hid (∀ W, Kept (fun _ => False) wr W → Kept (fun k => W2.heap.size ≤ k ∧ k < w3.heap.size) W4 W) := fun W hk => HKR.out.trans hk (fun _ _ f => f.elim)
            obtain ⟨⟨a0, a1, a2⟩, ⟨c0, c1⟩, ⟨i0, i1, i2⟩, ⟨d0, d1⟩, _⟩ := HC.out wr KR
            clear KR
            go_upto_region 17 with (go_at_call 8; refine (same8 wr W4.heap.size W4.heap.size _ _ m (HV.out wr HKR.out).2.2.1 (HV.out wr HKR.out).1 (HV.out wr HKR.out).2.2.2.2.2 (HV.out wr HKR.out).2.2.2.2.2).mono ?_; rintro e w7 ⟨k7, rfl⟩)
            clear z0 z1 a0 a1 a2 c0 c1 i0 i1 i2 d0 d1
            obtain ⟨⟨a0, a1, a2⟩, ⟨c0, c1⟩, ⟨i0, i1, i2⟩, ⟨d0, d1⟩, _⟩ := HC.out w7 (HLt.out w7 k7)
            go_upto_region 18 with (go_at_call 18; refine (same18t w7 W4.heap.size W4.heap.size _ _ hd lp (HV.out w7 (HLt.out w7 k7)).2.2.2.1 (HV.out w7 (HLt.out w7 k7)).2.1 (HV.out w7 (HLt.out w7 k7)).2.2.2.2.2 (HV.out w7 (HLt.out w7 k7)).2.2.2.2.2).mono ?_; rintro e w8 ⟨k8, rfl⟩)
            have K8 := k7.trans k8 (fun _ _ f => f)
            clear a0 a1 a2 c0 c1 i0 i1 i2 d0 d1 k7 k8
            obtain ⟨⟨a0, a1, a2⟩, ⟨c0, c1⟩, ⟨i0, i1, i2⟩, ⟨d0, d1⟩, _⟩ := HC.out w8 (HLt.out w8 K8)
            go_upto_region 19 with (go_at_call 16; refine (C16.out w8 W4.heap.size _ _ (HV.out w8 (HLt.out w8 K8)).2.2.1 (HV.out w8 (HLt.out w8 K8)).2.2.2.1 (HV.out w8 (HLt.out w8 K8)).2.2.2.2.2).mono ?_; rintro e w9 ⟨k9, va, rfl, ha9⟩; obtain ⟨ga, gc, gb, gd, rfl⟩ := ha9.wordN.wordV.form)
            clear a0 a1 a2 c0 c1 i0 i1 i2 d0 d1
            obtain ⟨W9, hW9⟩ : ∃ W9, W9 = w9.alloc (.cells #[.slice ga th.length gc, .slice gb tl.length gd] 43) := ⟨_, rfl⟩
            have kW : Kept (fun _ => False) w9 W9 := by rw [hW9]; exact (Kept.refl _ _).alloc _
            have b9 : W9.heap[w9.heap.size]? = some (.cells #[.slice ga th.length gc, .slice gb tl.length gd] 43 (0, 0)) := by rw [hW9]; exact alloc_blk _ _
            have K9 : Kept (fun _ => False) wr W9 := (K8.trans k9 (fun _ _ f => f)).trans kW (fun _ _ f => f)
            have g0 : W9.cell? ⟨w9.heap.size, 0, none⟩ = some (.slice ga th.length gc) := blk_cell b9 0
            have g1 : W9.cell? ⟨w9.heap.size, 1, none⟩ = some (.slice gb tl.length gd) := blk_cell b9 1
            have HG9 : Hid (WordV W9.heap.size W9 (.agg #[.slice ga th.length gc, .slice gb tl.length gd]) th tl) := (ha9.wordN.keep kW.size (fun k _ h => kW.block k h (fun f => f))).wordV
            obtain ⟨_, _, _, _, _, r0, r1⟩ := HC.out W9 (HLt.out W9 K9)
            rw [← hW9]
            clear hW9 kW b9 k9 ha9
            go_upto_region 20 with (go_at_call 18; refine (same18t W9 W9.heap.size W4.heap.size _ _ th tl HG9.out (HV.out W9 (HLt.out W9 K9)).2.2.2.2.1 (Nat.le_refl _) (HV.out W9 (HLt.out W9 K9)).2.2.2.2.2).mono ?_; rintro e w10 ⟨k10, rfl⟩)
            have HK10 : Hid (Kept (fun _ => False) w w10) := HKE.out w10 (HLt.out w10 (K9.trans k10 (fun _ _ f => f)))
            have hmx10 : w10.cell? ⟨0, 0, none⟩ = some (.int .i64 mx) := (HK10.out.cell (p := ⟨0, 0, none⟩) (lt_of_cell HMX.out) (fun f => f)).trans HMX.out
            clear g0 g1 r0 r1 K9 k10 K8
            go_wp2_with (go_at_call 13; refine (alive13 w10 mx hmx10).mono ?_; rintro e w11 ⟨k11, rfl⟩)
            go_ret
            exact ⟨HK10.out.trans k11 (fun _ _ f => f), rfl⟩
end Go.Proofs.YtdbpdanocpfboabGreatDoor
