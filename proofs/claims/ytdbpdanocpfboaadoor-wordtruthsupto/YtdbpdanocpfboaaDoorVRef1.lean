/- Walks of the document's own answers of words: at, Good, again. -/
import Derived.Test.YtdbpdanocpfboaaDoorVEqual
import Derived.Test.YtdbpdanocpfboaaDoorVWords
namespace Go.Proofs.YtdbpdanocpfboaaDoor
open Go.RowKit

set_option maxHeartbeats 1000000 in
theorem at66 (w : World) (B : Nat) (wv : Value) (hd lp : List Int) (n : Nat) (hW : WordV B w wv hd lp) (hB : B ≤ w.heap.size) (hl : 0 < lp.length) (hn : n ≤ 9223372036854775807) :
    Calls Tryd.prog 66 #[wv, .int .i64 (n : Int)] w fun e w' => Kept (fun _ => False) w w' ∧ e = .returned (.int .i64 (wAt hd lp n)) := by
  obtain ⟨hv1, lv1, rfl, h1, h2⟩ := id hW
  obtain ⟨ha, hc, rfl, hl1⟩ := h1.form
  obtain ⟨la, lc, rfl, hl2⟩ := h2.form
  have hk0 : Kept (fun _ => False) w (w.alloc (.cells #[.slice ha hd.length hc, .slice la lp.length lc] 48)) := (Kept.refl _ _).alloc _
  have hc0 : (w.alloc (.cells #[.slice ha hd.length hc, .slice la lp.length lc] 48)).cell? ⟨w.heap.size, 0, none⟩ = some (.slice ha hd.length hc) := by simp
  have hc1 : (w.alloc (.cells #[.slice ha hd.length hc, .slice la lp.length lc] 48)).cell? ⟨w.heap.size, 1, none⟩ = some (.slice la lp.length lc) := by simp
  go_enter Tryd.func66, Tryd.ntmps66
  go_upto_region 1 with fail
  generalize (w.alloc (.cells #[.slice ha hd.length hc, .slice la lp.length lc] 48)) = w1 at *
  have hW1 : Hid (WordV B w1 (.agg #[.slice ha hd.length hc, .slice la lp.length lc]) hd lp) := hW.kept hk0 hB
  clear hW h1 h2
  obtain ⟨_, _, e0, g1, g2⟩ := hW1.out
  simp only [Value.agg.injEq, Array.mk.injEq, List.cons.injEq, and_true] at e0
  obtain ⟨rfl, rfl⟩ := e0
  by_cases hm : n < hd.length
  · obtain ⟨a, cap, e1, _, _, hcell⟩ := g1
    obtain ⟨b, off, hab, hbB, hcc⟩ := hcell n hd[n] (List.getElem?_eq_getElem hm)
    cases e1
    subst hab
    have hmi : (n : Int) < (hd.length : Int) := by omega
    clear hcell
    go_wp2
    go_ret
    exact ⟨hk0, ret_int (by rw [wAt, if_pos hm]; simp [hm])⟩
  · obtain ⟨a, cap, e1, _, _, hcell⟩ := g2
    have hq : (n - hd.length) % lp.length < lp.length := Nat.mod_lt _ hl
    obtain ⟨b, off, hab, hbB, hcc⟩ := hcell _ lp[(n - hd.length) % lp.length] (List.getElem?_eq_getElem hq)
    cases e1
    subst hab
    have hmi : ¬ (n : Int) < (hd.length : Int) := by omega
    have hsub : ((n : Int) - (hd.length : Int)) = ((n - hd.length : Nat) : Int) := by omega
    have hlz : ¬ lp.length = 0 := by omega
    have hmod : (((n - hd.length : Nat) : Int)).tmod (lp.length : Int) = (((n - hd.length) % lp.length : Nat) : Int) := by
      rw [Int.tmod_eq_emod_of_nonneg (by omega)]
      rfl
    have hqi : (((n - hd.length) % lp.length : Nat) : Int) < (lp.length : Int) := by omega
    clear hcell
    have HE : Hid (wAt hd lp n = lp[(n - hd.length) % lp.length]) := by
      rw [Hid, wAt, if_neg hm, List.getD_eq_getElem?_getD, List.getElem?_eq_getElem hq]
      rfl
    generalize hr : (n - hd.length) % lp.length = r at *
    clear hr
    go_wp2
    go_region
    go_wp2
    go_ret
    exact ⟨hk0.drew, ret_int HE.out.symm⟩

theorem okNum_iff (x : Int) : okNum x = true ↔ 0 ≤ x ∧ x ≤ 255 := by simp [okNum]
theorem goodW_iff (hd lp : List Int) : goodW hd lp = true ↔ 0 < lp.length ∧ hd.length + lp.length ≤ 20000 ∧ ∀ i, i < hd.length + lp.length → okNum (wAt hd lp i) = true := by
  constructor
  · intro h
    obtain ⟨l1, l2⟩ := goodW_len h
    refine ⟨l2, l1, fun i hi => ?_⟩
    simp only [goodW, Bool.and_eq_true, List.all_eq_true] at h
    by_cases hh : i < hd.length
    · rw [wAt, if_pos hh, List.getD_eq_getElem?_getD, List.getElem?_eq_getElem hh]
      exact h.2.1 _ (List.getElem_mem _)
    · have hq : (i - hd.length) % lp.length < lp.length := Nat.mod_lt _ l2
      rw [wAt, if_neg hh, List.getD_eq_getElem?_getD, List.getElem?_eq_getElem hq]
      exact h.2.2 _ (List.getElem_mem _)
  · rintro ⟨l2, l1, h⟩
    simp only [goodW, Bool.and_eq_true, List.all_eq_true]
    refine ⟨⟨by cases lp <;> simp at l2 ⊢, by simpa using l1⟩, fun x hx => ?_, fun x hx => ?_⟩
    · obtain ⟨i, hi, rfl⟩ := List.getElem_of_mem hx
      have := h i (by omega)
      rwa [wAt, if_pos hi, List.getD_eq_getElem?_getD, List.getElem?_eq_getElem hi] at this
    · obtain ⟨i, hi, rfl⟩ := List.getElem_of_mem hx
      have := h (hd.length + i) (by omega)
      rwa [wAt, if_neg (by omega), Nat.add_sub_cancel_left, Nat.mod_eq_of_lt hi, List.getD_eq_getElem?_getD, List.getElem?_eq_getElem hi] at this

set_option maxHeartbeats 1000000 in
theorem good30 (w : World) (B : Nat) (wv : Value) (hd lp : List Int) (hW : WordV B w wv hd lp) (hB : B ≤ w.heap.size) :
    Calls Tryd.prog 30 #[wv] w fun e w' => Kept (fun _ => False) w w' ∧ e = .returned (.bool (goodW hd lp)) := by
  obtain ⟨hv1, lv1, rfl, h1, h2⟩ := id hW
  obtain ⟨ha, hc, rfl, hl1⟩ := h1.form
  obtain ⟨la, lc, rfl, hl2⟩ := h2.form
  have hk0 : Kept (fun _ => False) w (w.alloc (.cells #[.slice ha hd.length hc, .slice la lp.length lc] 48)) := (Kept.refl _ _).alloc _
  have hc0 : (w.alloc (.cells #[.slice ha hd.length hc, .slice la lp.length lc] 48)).cell? ⟨w.heap.size, 0, none⟩ = some (.slice ha hd.length hc) := by simp
  have hc1 : (w.alloc (.cells #[.slice ha hd.length hc, .slice la lp.length lc] 48)).cell? ⟨w.heap.size, 1, none⟩ = some (.slice la lp.length lc) := by simp
  go_enter Tryd.func30, Tryd.ntmps30
  go_upto_region 1 with fail
  generalize (w.alloc (.cells #[.slice ha hd.length hc, .slice la lp.length lc] 48)) = w1 at *
  have HW : Hid (WordV B w (.agg #[.slice ha hd.length hc, .slice la lp.length lc]) hd lp) := hW
  have hlt0 := lt_of_cell hc0
  clear hW h1 h2
  by_cases hz : lp.length = 0
  · have HE : Hid (goodW hd lp = false) := by
      rw [Hid]
      have : lp = [] := List.length_eq_zero_iff.1 hz
      subst this
      simp [goodW]
    go_wp2
    go_ret
    exact ⟨hk0, ret_bool HE.out.symm⟩
  · by_cases hb : 20000 < hd.length + lp.length
    · have HE : Hid (goodW hd lp = false) := by
        rw [Hid]
        have : ¬ (hd.length + lp.length ≤ 20000) := by omega
        simp [goodW, this]
      have hbi : (20000 : Int) < (hd.length : Int) + (lp.length : Int) := by omega
      go_wp2
      go_ret
      exact ⟨hk0, ret_bool HE.out.symm⟩
    · have hbi : ¬ (20000 : Int) < (hd.length : Int) + (lp.length : Int) := by omega
      go_wp2
      go_loopw [3, 4] (fun v3 _ wr => ∃ i : Nat, i ≤ hd.length + lp.length ∧ v3 = .int .i64 (i : Int) ∧ Kept (fun _ => False) w1 wr ∧ ∀ j, j < i → okNum (wAt hd lp j) = true) (fun v3 _ _ => hd.length + lp.length - (intOf v3).toNat)
      case atStart => exact ⟨0, Nat.zero_le _, rfl, Kept.refl _ _, fun j hj => absurd hj (by omega)⟩
      case round =>
        obtain ⟨i, hi, rfl, hk, hok⟩ := hrel
        have HOK : Hid (∀ j, j < i → okNum (wAt hd lp j) = true) := hok
        have d0 := (hk.cell (p := ⟨w.heap.size, 0, none⟩) hlt0 (fun f => f)).trans hc0
        have d1 := (hk.cell (p := ⟨w.heap.size, 1, none⟩) hlt0 (fun f => f)).trans hc1
        clear hok
        have hkw := hk0.trans hk (fun _ _ f => f)
        have hW2 := HW.out.kept hkw hB
        have hB2 : B ≤ wr.heap.size := Nat.le_trans hB hkw.size
        by_cases hlt : i < hd.length + lp.length
        · have hlti : (i : Int) < (hd.length : Int) + (lp.length : Int) := by omega
          obtain ⟨x, hxe⟩ : ∃ x, wAt hd lp i = x := ⟨_, rfl⟩
          have HXE : Hid (wAt hd lp i = x) := hxe
          by_cases hx0 : x < 0
          · have HE : Hid (goodW hd lp = false) := by
              rw [Hid]
              cases hg : goodW hd lp with
              | false => rfl
              | true =>
                have := (okNum_iff _).1 (((goodW_iff hd lp).1 hg).2.2 i hlt)
                omega
            clear hxe
            go_wp2_with (go_at_call 66; refine (at66 _ B _ hd lp i hW2 hB2 (by omega) (by omega)).mono ?_; rintro e w3 ⟨hk3, rfl⟩; rw [HXE.out])
            go_ret
            exact ⟨hkw.trans hk3 (fun _ _ f => f), ret_bool HE.out.symm⟩
          · by_cases hx1 : 255 < x
            · have HE : Hid (goodW hd lp = false) := by
                rw [Hid]
                cases hg : goodW hd lp with
                | false => rfl
                | true =>
                  have := (okNum_iff _).1 (((goodW_iff hd lp).1 hg).2.2 i hlt)
                  omega
              clear hxe
              go_wp2_with (go_at_call 66; refine (at66 _ B _ hd lp i hW2 hB2 (by omega) (by omega)).mono ?_; rintro e w3 ⟨hk3, rfl⟩; rw [HXE.out])
              go_ret
              exact ⟨hkw.trans hk3 (fun _ _ f => f), ret_bool HE.out.symm⟩
            · have HX : Hid (okNum (wAt hd lp i) = true) := (okNum_iff _).2 ⟨by omega, by omega⟩
              clear hxe
              go_wp2_with (go_at_call 66; refine (at66 _ B _ hd lp i hW2 hB2 (by omega) (by omega)).mono ?_; rintro e w3 ⟨hk3, rfl⟩; rw [HXE.out])
              go_roundw
              case rel => exact ⟨i + 1, by omega, by go_num, hk.trans hk3 (fun _ _ f => f), fun j hj => by
                rcases Nat.lt_succ_iff_lt_or_eq.1 hj with h | rfl
                · exact HOK.out j h
                · exact HX.out⟩
              case measure => simp [intOf]; omega
        · have hlti : ¬ (i : Int) < (hd.length : Int) + (lp.length : Int) := by omega
          have HE : Hid (goodW hd lp = true) := (goodW_iff hd lp).2 ⟨by omega, by omega, fun j hj => HOK.out j (by omega)⟩
          go_wp2
          go_ret
          exact ⟨hkw, ret_bool HE.out.symm⟩
end Go.Proofs.YtdbpdanocpfboaaDoor
