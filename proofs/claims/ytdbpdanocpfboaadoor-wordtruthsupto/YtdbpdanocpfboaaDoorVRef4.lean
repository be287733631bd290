/- Walks of the document's own answers of words: Same. -/
import Derived.Test.YtdbpdanocpfboaaDoorVRef3
namespace Go.Proofs.YtdbpdanocpfboaaDoor
open Go.RowKit

def sameB (hd lp hd' lp' : List Int) : Bool := goodW hd lp && goodW hd' lp' && (List.range (max hd.length hd'.length + lp.length + lp'.length)).all fun i => decide (wAt hd lp i = wAt hd' lp' i)
theorem sameB_true {hd lp hd' lp' : List Int} (h1 : goodW hd lp = true) (h2 : goodW hd' lp' = true) (h : ∀ i, i < max hd.length hd'.length + lp.length + lp'.length → wAt hd lp i = wAt hd' lp' i) : sameB hd lp hd' lp' = true := by
  simpa [sameB, h1, h2] using h
theorem sameB_false {hd lp hd' lp' : List Int} {i : Nat} (hi : i < max hd.length hd'.length + lp.length + lp'.length) (h : wAt hd lp i ≠ wAt hd' lp' i) : sameB hd lp hd' lp' = false := by
  cases hb : sameB hd lp hd' lp' with
  | false => rfl
  | true =>
    simp only [sameB, Bool.and_eq_true, List.all_eq_true, List.mem_range, decide_eq_true_eq] at hb
    exact absurd (hb.2 i hi) h

set_option maxRecDepth 100000 in
set_option maxHeartbeats 600000 in
theorem same40 (w : World) (B C : Nat) (va vb : Value) (hd lp hd' lp' : List Int) (ha : WordV B w va hd lp) (hb : WordV C w vb hd' lp') (hB : B ≤ w.heap.size) (hC : C ≤ w.heap.size) :
    Calls Tryd.prog 40 #[va, vb] w fun e w' => Kept (fun _ => False) w w' ∧ e = .returned (.bool (sameB hd lp hd' lp')) := by
  obtain ⟨hv1, lv1, rfl, h1, h2⟩ := id ha
  obtain ⟨ha1, hc1, rfl, hl1⟩ := h1.form
  obtain ⟨la1, lc1, rfl, hl2⟩ := h2.form
  obtain ⟨hv2, lv2, rfl, h3, h4⟩ := id hb
  obtain ⟨ha2, hc2, rfl, hl3⟩ := h3.form
  obtain ⟨la2, lc2, rfl, hl4⟩ := h4.form
  obtain ⟨W3, hW3⟩ : ∃ W3, W3 = ((w.alloc (.cells #[.slice ha1 hd.length hc1, .slice la1 lp.length lc1] 48)).alloc (.cells #[.slice ha2 hd'.length hc2, .slice la2 lp'.length lc2] 48)) := ⟨_, rfl⟩
  have hk : Kept (fun _ => False) w W3 := by rw [hW3]; exact ((Kept.refl _ _).alloc _).alloc _
  have c0 : W3.cell? ⟨w.heap.size, 0, none⟩ = some (.slice ha1 hd.length hc1) := by rw [hW3]; simp [go_sem]
  have c1 : W3.cell? ⟨w.heap.size, 1, none⟩ = some (.slice la1 lp.length lc1) := by rw [hW3]; simp [go_sem]
  have d0 : W3.cell? ⟨w.heap.size + 1, 0, none⟩ = some (.slice ha2 hd'.length hc2) := by rw [hW3, World.cell?_alloc_at (hn := by simp)]; rfl
  have d1 : W3.cell? ⟨w.heap.size + 1, 1, none⟩ = some (.slice la2 lp'.length lc2) := by rw [hW3, World.cell?_alloc_at (hn := by simp)]; rfl
  go_enter Tryd.func40, Tryd.ntmps40
  go_upto_region 1 with fail
  rw [← hW3]
  clear hW3
  have H1 : Hid (WordV B W3 _ hd lp) := ha.kept hk hB
  have H2 : Hid (WordV C W3 _ hd' lp') := hb.kept hk hC
  have hB3 := Nat.le_trans hB hk.size
  have hC3 := Nat.le_trans hC hk.size
  clear ha hb h1 h2 h3 h4
  cases hg : goodW hd lp with
  | false =>
    have HG : Hid _ := hg
    have HE : Hid (sameB hd lp hd' lp' = false) := by simp [Hid, sameB, hg]
    clear hg
    go_wp2_with (go_at_call 30; refine (good30 _ B _ hd lp H1.out hB3).mono ?_; rintro e w4 ⟨k1, rfl⟩; rw [HG.out])
    go_ret
    exact ⟨hk.trans k1 (fun _ _ f => f), ret_bool HE.out.symm⟩
  | true =>
    have HG : Hid _ := hg
    have hlen := goodW_len hg
    cases hg' : goodW hd' lp' with
    | false =>
      have HG' : Hid _ := hg'
      have HE : Hid (sameB hd lp hd' lp' = false) := by simp [Hid, sameB, hg']
      clear hg hg'
      go_wp2_with (first
        | (go_at_call_of 30 (Value.agg #[Value.slice ha1 hd.length hc1, Value.slice la1 lp.length lc1]); refine (good30 _ B _ hd lp H1.out hB3).mono ?_; rintro e w4 ⟨k1, rfl⟩; have y0 := (k1.cell (lt_of_cell d0) (fun f => f)).trans d0; have y1 := (k1.cell (lt_of_cell d1) (fun f => f)).trans d1; have G2 := H2.out.kept k1 hC3; rw [HG.out])
        | (go_at_call_of 30 (Value.agg #[Value.slice ha2 hd'.length hc2, Value.slice la2 lp'.length lc2]); refine (good30 _ C _ hd' lp' G2 (Nat.le_trans hC3 k1.size)).mono ?_; rintro e w5 ⟨k2, rfl⟩; rw [HG'.out]))
      go_ret
      exact ⟨(hk.trans k1 (fun _ _ f => f)).trans k2 (fun _ _ f => f), ret_bool HE.out.symm⟩
    | true =>
      have HG' : Hid _ := hg'
      have hlen' := goodW_len hg'
      clear hg hg'
      go_upto_region 3 with (first
        | (go_at_call_of 30 (Value.agg #[Value.slice ha1 hd.length hc1, Value.slice la1 lp.length lc1]); refine (good30 _ B _ hd lp H1.out hB3).mono ?_; rintro e w4 ⟨k1, rfl⟩; have y0 := (k1.cell (lt_of_cell d0) (fun f => f)).trans d0; have y1 := (k1.cell (lt_of_cell d1) (fun f => f)).trans d1; have G2 := H2.out.kept k1 hC3; rw [HG.out])
        | (go_at_call_of 30 (Value.agg #[Value.slice ha2 hd'.length hc2, Value.slice la2 lp'.length lc2]); refine (good30 _ C _ hd' lp' G2 (Nat.le_trans hC3 k1.size)).mono ?_; rintro e w5 ⟨k2, rfl⟩; rw [HG'.out]))
      have k3 := k1.trans k2 (fun _ _ f => f)
      have x0 := (k3.cell (lt_of_cell c0) (fun f => f)).trans c0
      have x1 := (k3.cell (lt_of_cell c1) (fun f => f)).trans c1
      have z0 := (k3.cell (lt_of_cell d0) (fun f => f)).trans d0
      have z1 := (k3.cell (lt_of_cell d1) (fun f => f)).trans d1
      have HW1 : Hid (WordV B w5 _ hd lp) := H1.out.kept k3 hB3
      have HW2 : Hid (WordV C w5 _ hd' lp') := H2.out.kept k3 hC3
      have hB5 := Nat.le_trans hB3 k3.size
      have hC5 := Nat.le_trans hC3 k3.size
      have hk5 := hk.trans k3 (fun _ _ f => f)
      clear k1 k2 y0 y1 G2 k3 c0 c1 d0 d1 H1 H2 hB3 hC3 hk
      obtain ⟨m, hm⟩ : ∃ m : Nat, m = max hd.length hd'.length := ⟨_, rfl⟩
      have hm1 : hd.length ≤ m := by rw [hm]; exact Nat.le_max_left _ _
      have hm2 : hd'.length ≤ m := by rw [hm]; exact Nat.le_max_right _ _
      have hm3 : m ≤ 20000 := by rw [hm]; exact Nat.max_le.2 ⟨by omega, by omega⟩
      have HM : Hid (m = max hd.length hd'.length) := hm
      go_upto_region 4 with fail
      have e : max (hd.length : Int) (hd'.length : Int) = (m : Int) := by omega
      rw [e]
      clear e hm
      go_wp2
      go_loopw [6] (fun v6 wr => ∃ i : Nat, i ≤ m + lp.length + lp'.length ∧ v6 = .int .i64 (i : Int) ∧ Kept (fun _ => False) w5 wr ∧ ∀ j, j < i → wAt hd lp j = wAt hd' lp' j) (fun v6 _ => m + lp.length + lp'.length - (intOf v6).toNat)
      case atStart => exact ⟨0, Nat.zero_le _, rfl, Kept.refl _ _, fun j h => absurd h (by omega)⟩
      case round =>
        obtain ⟨i, hi, rfl, hkr, hsame⟩ := hrel
        have HS : Hid (∀ j, j < i → wAt hd lp j = wAt hd' lp' j) := hsame
        clear hsame
        have hkk := hk5.trans hkr (fun _ _ f => f)
        by_cases hlt : i < m + lp.length + lp'.length
        · have hlti : (i : Int) < (m : Int) + (lp.length : Int) + (lp'.length : Int) := by omega
          have U0 : ∀ U : KW wr, U.1.cell? ⟨w.heap.size, 0, none⟩ = some (.slice ha1 hd.length hc1) := fun U => (hkr.trans U.2 (fun _ _ f => f)).cell (lt_of_cell x0) (fun f => f) |>.trans x0
          have U1 : ∀ U : KW wr, U.1.cell? ⟨w.heap.size, 1, none⟩ = some (.slice la1 lp.length lc1) := fun U => (hkr.trans U.2 (fun _ _ f => f)).cell (lt_of_cell x1) (fun f => f) |>.trans x1
          have U2 : ∀ U : KW wr, U.1.cell? ⟨w.heap.size + 1, 0, none⟩ = some (.slice ha2 hd'.length hc2) := fun U => (hkr.trans U.2 (fun _ _ f => f)).cell (lt_of_cell z0) (fun f => f) |>.trans z0
          have U3 : ∀ U : KW wr, U.1.cell? ⟨w.heap.size + 1, 1, none⟩ = some (.slice la2 lp'.length lc2) := fun U => (hkr.trans U.2 (fun _ _ f => f)).cell (lt_of_cell z1) (fun f => f) |>.trans z1
          have HWa : Hid (WordV B wr _ hd lp) := HW1.out.kept hkr hB5
          have HWb : Hid (WordV C wr _ hd' lp') := HW2.out.kept hkr hC5
          have hBr := Nat.le_trans hB5 hkr.size
          have hCr := Nat.le_trans hC5 hkr.size
          obtain ⟨x, hx⟩ : ∃ x, wAt hd lp i = x := ⟨_, rfl⟩
          obtain ⟨y, hy⟩ : ∃ y, wAt hd' lp' i = y := ⟨_, rfl⟩
          have HX : Hid (wAt hd lp i = x) := hx
          have HY : Hid (wAt hd' lp' i = y) := hy
          clear hx hy
          go_upto_region 7 with fail
          by_cases hxy : x = y
          · have hb : (x != y) = false := by simpa using hxy
            refine wp_region_quiet_kept (by kernel_rfl) (by kernel_rfl) ?_
            repeat (refine wpQuiet_step (fun K hK => ?_); go_simp; first | (refine hK _ ?_; clear hK K) | (apply Exists.intro; refine ⟨fun U => ?_, hK _ ?_⟩; (first | (go_at_call_of 66 (Value.agg #[Value.slice ha1 hd.length hc1, Value.slice la1 lp.length lc1]); refine Calls.quiet_kept (at66i _ B _ hd lp i _ x ?_ HX.out (HWa.out.kept U.2 hBr) (Nat.le_trans hBr U.2.size) hlen.2 ?_); omega; omega) | (go_at_call 66; refine Calls.quiet_kept (at66i _ C _ hd' lp' i _ y ?_ HY.out (HWb.out.kept U.2 hCr) (Nat.le_trans hCr U.2.size) hlen'.2 ?_); omega; omega)); clear hK K))
            refine wpQuiet_nil ?_
            intro _ hw'
            obtain ⟨⟨U, hU⟩, hw''⟩ := hw'
            subst hw''
            go_wp2
            go_roundw
            case rel => exact ⟨i + 1, by omega, by go_num, hkr.trans hU (fun _ _ f => f), fun j hj => by
              rcases Nat.lt_succ_iff_lt_or_eq.1 hj with h | rfl
              · exact HS.out j h
              · rw [HX.out, HY.out, hxy]⟩
            case measure => simp [intOf]; omega
          · have hb : (x != y) = true := by simpa using hxy
            have HE : Hid (sameB hd lp hd' lp' = false) := sameB_false (i := i) (by rw [← HM.out]; exact hlt) (by rw [HX.out, HY.out]; exact hxy)
            refine wp_region_quiet_kept (by kernel_rfl) (by kernel_rfl) ?_
            repeat (refine wpQuiet_step (fun K hK => ?_); go_simp; first | (refine hK _ ?_; clear hK K) | (apply Exists.intro; refine ⟨fun U => ?_, hK _ ?_⟩; (first | (go_at_call_of 66 (Value.agg #[Value.slice ha1 hd.length hc1, Value.slice la1 lp.length lc1]); refine Calls.quiet_kept (at66i _ B _ hd lp i _ x ?_ HX.out (HWa.out.kept U.2 hBr) (Nat.le_trans hBr U.2.size) hlen.2 ?_); omega; omega) | (go_at_call 66; refine Calls.quiet_kept (at66i _ C _ hd' lp' i _ y ?_ HY.out (HWb.out.kept U.2 hCr) (Nat.le_trans hCr U.2.size) hlen'.2 ?_); omega; omega)); clear hK K))
            refine wpQuiet_nil ?_
            intro _ hw'
            obtain ⟨⟨U, hU⟩, hw''⟩ := hw'
            subst hw''
            go_wp2
            go_ret
            exact ⟨hkk.trans hU (fun _ _ f => f), ret_bool HE.out.symm⟩
        · have hlti : ¬ (i : Int) < (m : Int) + (lp.length : Int) + (lp'.length : Int) := by omega
          have HE : Hid (sameB hd lp hd' lp' = true) := sameB_true HG.out HG'.out (fun j hj => HS.out j (by rw [← HM.out] at hj; omega))
          go_wp2
          go_ret
          exact ⟨hkk, ret_bool HE.out.symm⟩
end Go.Proofs.YtdbpdanocpfboaaDoor
