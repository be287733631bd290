import Derived.Test.YtdbpdanocpfboabGreatDoorZBun11
/- The law ModelParses. -/
namespace Go.Proofs.YtdbpdanocpfboabGreatDoor
open Go.RowKit

set_option maxRecDepth 100000 in
set_option maxHeartbeats 8000000 in
theorem law3 (w : World) (s : ByteArray) (mx : Int) (hmx : w.cell? ⟨0, 0, none⟩ = some (.int .i64 mx)) : Calls Tryz.prog 3 #[.string s] w fun e w' => Kept (fun _ => False) w w' ∧ e = .returned (.bool true) := by
  obtain ⟨m, hmd⟩ : ∃ m, (resM (parseM s)).1 = m := ⟨_, rfl⟩
  obtain ⟨x, hxd⟩ : ∃ x, (resM (parseM s)).2.1 = x := ⟨_, rfl⟩
  obtain ⟨l, hld⟩ : ∃ l, (resM (parseM s)).2.2 = l := ⟨_, rfl⟩
  have HG : Hid (x = 0 → goodM m = true) := fun h => by rw [← hmd]; exact res_good (hxd.trans h)
  have HLEN : Hid (m.names.length ≤ m.letters.length ∧ m.names.length ≤ m.tos.length) := by rw [Hid, ← hmd]; exact res_len s
  have HSZ : Hid (∀ x ∈ m.names, x.size ≤ 9223372036854775807) := by rw [Hid, ← hmd]; exact res_sizes s
  have P6 : Hid (∀ W, W.cell? ⟨0, 0, none⟩ = some (.int .i64 mx) → Calls Tryz.prog 6 #[.string s] W fun e w' => Kept (fun _ => False) W w' ∧ ∃ v, e = .returned (.tuple #[v, .int .i64 x, .int .i64 l]) ∧ ModT W.heap.size w' v m) := fun W h => (parse6 W s mx h).mono (fun e w' h => by have := h.uni; rwa [hmd, hxd, hld] at this)
  have P7 : Hid (∀ W, Calls Tryz.prog 7 #[.string s] W fun e w' => Kept (fun _ => False) W w' ∧ ∃ v, e = .returned (.tuple #[v, .int .i64 x, .int .i64 l]) ∧ ModN W.heap.size w' v m) := fun W => (parse7 W s).mono (fun e w' h => by have := h.uni; rwa [hmd, hxd, hld] at this)
  clear hmd hxd hld
  have HMX : Hid (w.cell? ⟨0, 0, none⟩ = some (.int .i64 mx)) := hmx
  clear hmx
  go_enter Tryz.func3, Tryz.ntmps3
  go_upto_region 2 with (go_at_call 6; refine (P6.out w HMX.out).mono ?_; rintro e w1 ⟨k1, v, rfl, hm1⟩; obtain ⟨na, nc, la, lc, ta, tc, rfl⟩ := hm1.modV.form)
  obtain ⟨W1, hW1⟩ : ∃ W1, W1 = w1.alloc (.cells #[.slice na m.names.length nc, .slice la m.letters.length lc, .slice ta m.tos.length tc] 26) := ⟨_, rfl⟩
  have kW1 : Kept (fun _ => False) w1 W1 := by rw [hW1]; exact (Kept.refl _ _).alloc _
  have bA : W1.heap[w1.heap.size]? = some (.cells #[.slice na m.names.length nc, .slice la m.letters.length lc, .slice ta m.tos.length tc] 26 (0, 0)) := by rw [hW1]; exact alloc_blk _ _
  have HM1 : Hid (ModT w.heap.size w1 (.agg #[.slice na m.names.length nc, .slice la m.letters.length lc, .slice ta m.tos.length tc]) m) := hm1
  have HK1 : Hid (Kept (fun _ => False) w w1) := k1
  have HKA : Hid (Kept (fun _ => False) w1 W1) := kW1
  have hA : w1.heap.size < W1.heap.size := (Array.getElem?_eq_some_iff.1 bA).1
  have HA : Hid (W1.heap[w1.heap.size]? = some (.cells #[.slice na m.names.length nc, .slice la m.letters.length lc, .slice ta m.tos.length tc] 26 (0, 0))) := bA
  rw [← hW1]
  clear hW1 kW1 bA hm1 k1
  go_upto_region 3 with (go_at_call 7; refine (P7.out W1).mono ?_; rintro e w2 ⟨k2, v, rfl, hn2⟩; obtain ⟨na', nc', la', lc', ta', tc', rfl⟩ := hn2.modV.form)
  obtain ⟨W2, hW2⟩ : ∃ W2, W2 = w2.alloc (.cells #[.slice na' m.names.length nc', .slice la' m.letters.length lc', .slice ta' m.tos.length tc'] 30) := ⟨_, rfl⟩
  have kW2 : Kept (fun _ => False) w2 W2 := by rw [hW2]; exact (Kept.refl _ _).alloc _
  have bB : W2.heap[w2.heap.size]? = some (.cells #[.slice na' m.names.length nc', .slice la' m.letters.length lc', .slice ta' m.tos.length tc'] 30 (0, 0)) := by rw [hW2]; exact alloc_blk _ _
  have HN2 : Hid (ModN W1.heap.size W2 (.agg #[.slice na' m.names.length nc', .slice la' m.letters.length lc', .slice ta' m.tos.length tc']) m) := hn2.keep kW2.size (fun k _ h => kW2.block k h (fun f => f))
  have HK12 : Hid (Kept (fun _ => False) w1 W2) := (HKA.out.trans k2 (fun _ _ f => f)).trans kW2 (fun _ _ f => f)
  have KA2 : Kept (fun _ => False) W1 W2 := k2.trans kW2 (fun _ _ f => f)
  have hz12 := KA2.size
  have hzB : w2.heap.size < W2.heap.size := (Array.getElem?_eq_some_iff.1 bB).1
  have hz2 := k2.size
  have HC : Hid (∀ W, Kept (fun _ => False) W2 W → W.cell? ⟨w1.heap.size, 0, none⟩ = some (.slice na m.names.length nc) ∧ W.cell? ⟨w1.heap.size, 1, none⟩ = some (.slice la m.letters.length lc) ∧ W.cell? ⟨w1.heap.size, 2, none⟩ = some (.slice ta m.tos.length tc) ∧ W.cell? ⟨w2.heap.size, 0, none⟩ = some (.slice na' m.names.length nc') ∧ W.cell? ⟨w2.heap.size, 1, none⟩ = some (.slice la' m.letters.length lc') ∧ W.cell? ⟨w2.heap.size, 2, none⟩ = some (.slice ta' m.tos.length tc')) := fun W hk => by
    have hb := ((KA2.trans hk (fun _ _ f => f)).block _ hA (fun f => f)).trans HA.out
    have hb2 := (hk.block _ hzB (fun f => f)).trans bB
    exact ⟨blk_cell hb 0, blk_cell hb 1, blk_cell hb 2, blk_cell hb2 0, blk_cell hb2 1, blk_cell hb2 2⟩
  have HV : Hid (∀ W, Kept (fun _ => False) W2 W → ModV W2.heap.size W (.agg #[.slice na m.names.length nc, .slice la m.letters.length lc, .slice ta m.tos.length tc]) m ∧ ModV W2.heap.size W (.agg #[.slice na' m.names.length nc', .slice la' m.letters.length lc', .slice ta' m.tos.length tc']) m ∧ W2.heap.size ≤ W.heap.size) := fun W hk =>
    ⟨((HM1.out.modN.keep HK12.out.size (fun k _ h => HK12.out.block k h (fun f => f))).modV).kept hk (Nat.le_refl _), HN2.out.modV.kept hk (Nat.le_refl _), hk.size⟩
  have HBB : Hid (W2.heap[w2.heap.size]? = some (.cells #[.slice na' m.names.length nc', .slice la' m.letters.length lc', .slice ta' m.tos.length tc'] 30 (0, 0))) := bB
  rw [← hW2]
  clear hW2 kW2 bB k2 hn2
  obtain ⟨x0, x1, x2, y0, y1, y2⟩ := HC.out W2 (Kept.refl _ _)
  go_upto_region 4 with (go_at_call 8; refine (same8 W2 W2.heap.size W2.heap.size _ _ m (HV.out W2 (Kept.refl _ _)).1 (HV.out W2 (Kept.refl _ _)).2.1 (Nat.le_refl _) (Nat.le_refl _)).mono ?_; rintro e w3 ⟨k3, rfl⟩)
  clear x0 x1 x2 y0 y1 y2
  obtain ⟨x0, x1, x2, y0, y1, y2⟩ := HC.out w3 k3
  have hnx : (x != x) = false := by simp
  have hnl : (l != l) = false := by simp
  go_upto_if 57 with (go_at_call 9; refine (num9 w3 x).mono ?_; rintro e w4 ⟨rfl, hx⟩; rw [hx]; clear hx)
  go_cut [57] (fun v57 wd => v57 = .bool false ∧ Kept (fun _ => False) w3 wd)
  case first =>
    by_cases hx0 : x = 0
    · have HGM : Hid (goodM m = true) := HG.out hx0
      obtain ⟨tx, htx⟩ : ∃ tx, printM m = tx := ⟨_, rfl⟩
      subst hx0
      have U0 : ∀ U : KW w3, U.1.cell? ⟨w1.heap.size, 0, none⟩ = some (.slice na m.names.length nc) := fun U => U.cell x0
      have U1 : ∀ U : KW w3, U.1.cell? ⟨w1.heap.size, 1, none⟩ = some (.slice la m.letters.length lc) := fun U => U.cell x1
      have U2 : ∀ U : KW w3, U.1.cell? ⟨w1.heap.size, 2, none⟩ = some (.slice ta m.tos.length tc) := fun U => U.cell x2
      have U3 : ∀ U : KW w3, U.1.cell? ⟨w2.heap.size, 0, none⟩ = some (.slice na' m.names.length nc') := fun U => U.cell y0
      have U4 : ∀ U : KW w3, U.1.cell? ⟨w2.heap.size, 1, none⟩ = some (.slice la' m.letters.length lc') := fun U => U.cell y1
      have U5 : ∀ U : KW w3, U.1.cell? ⟨w2.heap.size, 2, none⟩ = some (.slice ta' m.tos.length tc') := fun U => U.cell y2
      have HU : Hid (∀ U : KW w3, Kept (fun _ => False) W2 U.1) := fun U => k3.trans U.2 (fun _ _ f => f)
      have Q10 : Hid (∀ U : KW w3, Calls Tryz.prog 10 #[.agg #[.slice na m.names.length nc, .slice la m.letters.length lc, .slice ta m.tos.length tc]] U.1 fun e w' => Kept (fun _ => False) U.1 w' ∧ e = .returned (.bool true)) := fun U => by
        have h := good10 U.1 W2.heap.size _ m (HV.out U.1 (HU.out U)).1 (HV.out U.1 (HU.out U)).2.2 HSZ.out
        rwa [HGM.out] at h
      have Q11 : Hid (∀ U : KW w3, Calls Tryz.prog 11 #[.agg #[.slice na m.names.length nc, .slice la m.letters.length lc, .slice ta m.tos.length tc]] U.1 fun e w' => Kept (fun _ => False) U.1 w' ∧ e = .returned (.string tx)) := fun U => by
        have h := print11 U.1 W2.heap.size _ m (HV.out U.1 (HU.out U)).1 (HV.out U.1 (HU.out U)).2.2 HSZ.out
        rwa [htx] at h
      have Q12 : Hid (∀ U : KW w3, Calls Tryz.prog 12 #[.agg #[.slice na' m.names.length nc', .slice la' m.letters.length lc', .slice ta' m.tos.length tc']] U.1 fun e w' => Kept (fun _ => False) U.1 w' ∧ e = .returned (.string tx)) := fun U => by
        have h := print12 U.1 W2.heap.size _ m (HV.out U.1 (HU.out U)).2.1 (HV.out U.1 (HU.out U)).2.2 HSZ.out
        rwa [htx] at h
      go_upto_region 6 with fail
      refine wp_region_blk_kept (by kernel_rfl) (by kernel_rfl) ?_
      repeat (refine blk_step (fun K hK => ?_); go_simp; first | (refine hK _ ?_; clear hK K) | (apply Exists.intro; refine ⟨fun U => ?_, hK _ ?_⟩; (first | (go_at_call 10; exact Calls.quiet_kept (Q10.out U)) | (go_at_call 11; exact Calls.quiet_kept (Q11.out U)) | (go_at_call 12; exact Calls.quiet_kept (Q12.out U))); clear hK K))
      refine blk_nil ?_
      intro w4 hw'
      have k4 : Kept (fun _ => False) w3 w4 := by
        obtain ⟨U, rfl⟩ := hw'
        exact U.2
      clear hw' U0 U1 U2 U3 U4 U5
      go_wp2_with fail
      go_meet
      case rel => exact ⟨rfl, k4⟩
    · have hxb : (x == 0) = false := by simpa using hx0
      go_upto_region 6 with fail
      refine wp_region_blk_kept (by kernel_rfl) (by kernel_rfl) ?_
      repeat (refine blk_step (fun K hK => ?_); go_simp; first | (refine hK _ ?_; clear hK K))
      refine blk_nil ?_
      intro w4 hw'
      have k4 : Kept (fun _ => False) w3 w4 := by
        obtain ⟨U, rfl⟩ := hw'
        exact U.2
      clear hw'
      go_wp2_with fail
      go_meet
      case rel => exact ⟨rfl, k4⟩
  case rest =>
    obtain ⟨rfl, k4⟩ := hcut
    have HKX : Hid (Kept (fun _ => False) W2 wc) := k3.trans k4 (fun _ _ f => f)
    clear x0 x1 x2 y0 y1 y2 k3 k4 hnx hnl
    generalize hX : wc = X at *
    clear hX
    have K1X : Kept (fun _ => False) w1 X := HK12.out.trans HKX.out (fun _ _ f => f)
    obtain ⟨nv, lv, tv, e, t1, t2, rs, h3, t4, t5⟩ := HM1.out.ex
    injection e with e
    injection e with e
    injection e with e1 e
    injection e with e2 e
    injection e with e3 _
    subst e1 e2 e3
    have HU1 : Hid (LsU 9 w.heap.size w1.heap.size X (.slice na m.names.length nc) (m.names.map Value.string)) := t1.lsu K1X
    have HU2 : Hid (LsU 3 w.heap.size w1.heap.size X (.slice la m.letters.length lc) (m.letters.map (Value.int .i64))) := t2.lsu K1X
    have HU4 : Hid (LsU 23 w.heap.size w1.heap.size X (.slice ta m.tos.length tc) rs) := t4.lsu K1X
    have HU5 : Hid (∀ (i : Nat) (r : Value) (row : List Int), rs[i]? = some r → m.tos[i]? = some row → LsU 3 w.heap.size w1.heap.size X r (row.map (Value.int .i64))) := fun i r row a b => (t5 i r row a b).lsu K1X
    have HR3 : Hid (rs.length = m.tos.length) := h3
    have hlo := HK1.out.size
    have hnl2 : m.names.length ≤ 17592186044416 := by
      obtain ⟨_, _, _, h⟩ := (LsS.ls (B := w1.heap.size) HU1.out (fun _ e => e.2.1)).form
      simpa using h
    have HCX : Hid (∀ W, Soft w.heap.size w1.heap.size X W → W.cell? ⟨w1.heap.size, 0, none⟩ = some (.slice na m.names.length nc) ∧ W.cell? ⟨w1.heap.size, 1, none⟩ = some (.slice la m.letters.length lc) ∧ W.cell? ⟨w1.heap.size, 2, none⟩ = some (.slice ta m.tos.length tc)) := fun W hs => by
      obtain ⟨c0, c1, c2, _⟩ := HC.out X HKX.out
      exact ⟨(hs.kept.cell (p := ⟨w1.heap.size, 0, none⟩) (lt_of_cell c0) (by simp)).trans c0, (hs.kept.cell (p := ⟨w1.heap.size, 1, none⟩) (lt_of_cell c1) (by simp)).trans c1, (hs.kept.cell (p := ⟨w1.heap.size, 2, none⟩) (lt_of_cell c2) (by simp)).trans c2⟩
    clear t1 t2 t4 t5 h3 K1X
    go_wp2
    go_loopw [10] (fun iv W => ∃ i : Nat, i ≤ m.names.length ∧ iv = .int .i64 i ∧ Soft w.heap.size w1.heap.size X W) (fun iv _ => m.names.length - (intOf iv).toNat)
    case atStart => exact ⟨0, Nat.zero_le _, rfl, Soft.refl _ _ _⟩
    case round =>
      obtain ⟨i, hi, rfl, hs⟩ := hrel
      have HS : Hid (Soft w.heap.size w1.heap.size X wr) := hs
      clear hs
      obtain ⟨c0, c1, c2⟩ := HCX.out wr HS.out
      by_cases hlt : i < m.names.length
      · have hii : (i : Int) < (m.names.length : Int) := by omega
        have hil : i < m.letters.length := Nat.lt_of_lt_of_le hlt HLEN.out.1
        have hili : (i : Int) < (m.letters.length : Int) := by omega
        have hit : i < m.tos.length := Nat.lt_of_lt_of_le hlt HLEN.out.2
        have hiti : (i : Int) < (m.tos.length : Int) := by omega
        obtain ⟨nb, no, rfl, hnb, hnt, ⟨nx, cn⟩, fn⟩ := HU1.out.cell HS.out (i := i) (by simpa using hlt)
        go_upto_region 12 with fail
        obtain ⟨Wa, hWa⟩ : ∃ Wa, Wa = wr.setCell ⟨nb, no + i, none⟩ (.string ⟨#[63]⟩) := ⟨_, rfl⟩
        have HSa : Hid (Soft w.heap.size w1.heap.size X Wa) := by rw [Hid, hWa]; exact HS.out.set hnb hnt (by decide) _
        rw [← hWa]
        clear hWa c0 c1 c2 cn fn
        obtain ⟨c0, c1, c2⟩ := HCX.out Wa HSa.out
        obtain ⟨lb, lo, rfl, hlb, hlt2, ⟨lx, cl⟩, fl⟩ := HU2.out.cell HSa.out (i := i) (by simpa using hil)
        go_upto_region 13 with fail
        obtain ⟨Wb, hWb⟩ : ∃ Wb, Wb = Wa.setCell ⟨lb, lo + i, none⟩ (.int .i64 (-7)) := ⟨_, rfl⟩
        have HSb : Hid (Soft w.heap.size w1.heap.size X Wb) := by rw [Hid, hWb]; exact HSa.out.set hlb hlt2 (by decide) _
        rw [← hWb]
        clear hWb c0 c1 c2 cl fl
        obtain ⟨row, hrow⟩ : ∃ row, m.tos[i]? = some row := ⟨_, List.getElem?_eq_getElem hit⟩
        have hri : i < rs.length := by rw [HR3.out]; exact hit
        have hu := HU5.out i rs[i] row (List.getElem?_eq_getElem hri) hrow
        obtain ⟨ra, rc, hrf, hrl2⟩ := (LsS.ls (B := w1.heap.size) hu (fun _ e => e.2.1)).form
        simp only [List.length_map] at hrf hrl2
        rw [hrf] at hu
        have HUR : Hid (LsU 3 w.heap.size w1.heap.size X (.slice ra row.length rc) (row.map (Value.int .i64))) := hu
        have HRW : Hid (∀ W, Soft w.heap.size w1.heap.size X W → ∃ tb tof, ta = some ⟨tb, tof, none⟩ ∧ W.cell? ⟨tb, tof + i, none⟩ = some (.slice ra row.length rc)) := fun W hs => HU4.out.row hs (by rw [← hrf]; exact List.getElem?_eq_getElem hri)
        obtain ⟨tb, tof, rfl, _⟩ := HRW.out Wb HSb.out
        clear hu hrf
        go_wp2
        go_loopw [11] (fun jv W => ∃ j : Nat, j ≤ row.length ∧ jv = .int .i64 j ∧ Soft w.heap.size w1.heap.size X W) (fun jv _ => row.length - (intOf jv).toNat)
        case atStart => exact ⟨0, Nat.zero_le _, rfl, HSb.out⟩
        case round =>
          obtain ⟨j, hj, rfl, hs⟩ := hrel
          have HSr : Hid (Soft w.heap.size w1.heap.size X wr) := hs
          clear hs
          obtain ⟨c0, c1, c2⟩ := HCX.out wr HSr.out
          obtain ⟨tb', tof', e, ct⟩ := HRW.out wr HSr.out
          cases e
          by_cases hjl : j < row.length
          · have hji : (j : Int) < (row.length : Int) := by omega
            obtain ⟨rb, ro, rfl, hrb, hrt, ⟨rx, cr⟩, fr⟩ := HUR.out.cell HSr.out (i := j) (by simpa using hjl)
            go_wp2
            go_roundw
            case rel => exact ⟨j + 1, by omega, by simp, HSr.out.set hrb hrt (by decide) _⟩
            case measure => simp [intOf]; omega
          · obtain rfl : j = row.length := by omega
            go_wp2
            go_roundw
            case rel => exact ⟨i + 1, by omega, by simp, HSr.out⟩
            case measure => simp [intOf]; omega
      · obtain rfl : i = m.names.length := by omega
        have k0 : Kept (fun _ => False) w wr := (HK1.out.trans (HK12.out.trans HKX.out (fun _ _ f => f)) (fun _ _ f => f)).trans HS.out.kept (fun k hk e => by omega)
        have HK0 : Hid (Kept (fun _ => False) w wr) := k0
        have hmx2 : wr.cell? ⟨0, 0, none⟩ = some (.int .i64 mx) := (k0.cell (p := ⟨0, 0, none⟩) (lt_of_cell HMX.out) (fun f => f)).trans HMX.out
        have hzX := HKX.out.size
        have hWs := HS.out.size
        have HNr : Hid (ModN W1.heap.size wr (.agg #[.slice na' m.names.length nc', .slice la' m.letters.length lc', .slice ta' m.tos.length tc']) m) := (HN2.out.keep HKX.out.size (fun k _ h => HKX.out.block k h (fun f => f))).keep (by omega) (fun k h1 h2 => HS.out.kept.block k h2 (by omega))
        have HBr : Hid (wr.heap[w2.heap.size]? = some (.cells #[.slice na' m.names.length nc', .slice la' m.letters.length lc', .slice ta' m.tos.length tc'] 30 (0, 0))) := (HS.out.kept.block _ (by omega) (by omega)).trans ((HKX.out.block _ hzB (fun f => f)).trans HBB.out)
        clear k0
        go_upto_region 18 with (go_at_call 6; refine (P6.out wr hmx2).mono ?_; rintro e w6 ⟨k6, v, rfl, hm6⟩; obtain ⟨na6, nc6, la6, lc6, ta6, tc6, rfl⟩ := hm6.modV.form)
        clear c0 c1 c2
        obtain ⟨W6, hW6⟩ : ∃ W6, W6 = w6.alloc (.cells #[.slice na6 m.names.length nc6, .slice la6 m.letters.length lc6, .slice ta6 m.tos.length tc6] 26) := ⟨_, rfl⟩
        have kW6 : Kept (fun _ => False) w6 W6 := by rw [hW6]; exact (Kept.refl _ _).alloc _
        have b6 : W6.heap[w6.heap.size]? = some (.cells #[.slice na6 m.names.length nc6, .slice la6 m.letters.length lc6, .slice ta6 m.tos.length tc6] 26 (0, 0)) := by rw [hW6]; exact alloc_blk _ _
        have KR6 : Kept (fun _ => False) wr W6 := k6.trans kW6 (fun _ _ f => f)
        have bn6 := (KR6.block _ (Array.getElem?_eq_some_iff.1 HBr.out).1 (fun f => f)).trans HBr.out
        have x0 : W6.cell? ⟨w6.heap.size, 0, none⟩ = some (.slice na6 m.names.length nc6) := blk_cell b6 0
        have x1 : W6.cell? ⟨w6.heap.size, 1, none⟩ = some (.slice la6 m.letters.length lc6) := blk_cell b6 1
        have x2 : W6.cell? ⟨w6.heap.size, 2, none⟩ = some (.slice ta6 m.tos.length tc6) := blk_cell b6 2
        have y0 : W6.cell? ⟨w2.heap.size, 0, none⟩ = some (.slice na' m.names.length nc') := blk_cell bn6 0
        have y1 : W6.cell? ⟨w2.heap.size, 1, none⟩ = some (.slice la' m.letters.length lc') := blk_cell bn6 1
        have y2 : W6.cell? ⟨w2.heap.size, 2, none⟩ = some (.slice ta' m.tos.length tc') := blk_cell bn6 2
        have C8 := same8 W6 W6.heap.size W6.heap.size _ _ m ((hm6.modN.keep kW6.size (fun k _ h => kW6.block k h (fun f => f))).modV) ((HNr.out.keep KR6.size (fun k _ h => KR6.block k h (fun f => f))).modV) (Nat.le_refl _) (Nat.le_refl _)
        have HK6 : Hid (Kept (fun _ => False) w W6) := HK0.out.trans KR6 (fun _ _ f => f)
        rw [← hW6]
        clear hW6 kW6 b6 bn6 KR6 k6 hm6 hmx2
        go_upto_region 19 with (go_at_call 8; refine C8.mono ?_; rintro e w7 ⟨k7, rfl⟩)
        have HK7 : Hid (Kept (fun _ => False) w w7) := HK6.out.trans k7 (fun _ _ f => f)
        have hmx7 : w7.cell? ⟨0, 0, none⟩ = some (.int .i64 mx) := (HK7.out.cell (p := ⟨0, 0, none⟩) (lt_of_cell HMX.out) (fun f => f)).trans HMX.out
        clear x0 x1 x2 y0 y1 y2 C8 k7
        go_wp2_with (go_at_call 13; refine (alive13 w7 mx hmx7).mono ?_; rintro e w8 ⟨k8, rfl⟩)
        go_ret
        exact ⟨HK7.out.trans k8 (fun _ _ f => f), rfl⟩
end Go.Proofs.YtdbpdanocpfboabGreatDoor
