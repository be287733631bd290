/- Walks of package word: Holds, At. -/
import Derived.Test.YtdbpdanocpfboaaDoorVTruths
namespace Go.Proofs.YtdbpdanocpfboaaDoor
open Go.RowKit

mutual
theorem tvT_len (xs : List Int) (lp : Nat) (hx : 0 < xs.length) : ∀ t : Tr, t.well → (tvT xs lp t).length = xs.length
  | .mk op n kids, hw => by
    have ih := tvTs_all xs lp hx kids hw.2
    obtain ⟨h0, h1, h2, _⟩ := hw.1
    have hl := tvTs_len xs lp kids
    rw [tvT]
    refine rowOp_len h0 h1 hx (fun h => ?_) (fun h => ?_)
    · have hi : 0 < (tvTs xs lp kids).length := by omega
      rw [List.getD_eq_getElem?_getD, List.getElem?_eq_getElem hi, Option.getD_some]
      exact ih _ (List.getElem_mem hi)
    · have hi : 1 < (tvTs xs lp kids).length := by omega
      rw [List.getD_eq_getElem?_getD, List.getElem?_eq_getElem hi, Option.getD_some]
      exact ih _ (List.getElem_mem hi)
theorem tvTs_all (xs : List Int) (lp : Nat) (hx : 0 < xs.length) : ∀ l : List Tr, Tr.wells l → ∀ r ∈ tvTs xs lp l, r.length = xs.length
  | [], _ => by simp [tvTs]
  | t :: r, hw => by
    intro y hy
    rw [tvTs, List.mem_cons] at hy
    rcases hy with rfl | hy
    · exact tvT_len xs lp hx t hw.1
    · exact tvTs_all xs lp hx r hw.2 y hy
end

set_option maxRecDepth 100000 in
set_option maxHeartbeats 1000000 in
theorem holds33 (w : World) (B : Nat) (fv wv : Value) (hd lp : List Int) (t : Tr) (hW : WordV B w wv hd lp) (hF : FormV B w fv t) (hB : B ≤ w.heap.size) (hT : TabK w) (hB2 : 2 ≤ B) (hsz : t.size ≤ 268435456) :
    Calls Tryd.prog 33 #[fv, wv] w fun e w' => Kept (fun _ => False) w w' ∧ ((¬ (goodW hd lp = true ∧ t.well) ∧ e = .returned (.bool false)) ∨ (goodW hd lp = true ∧ t.well ∧ e = .returned (.bool ((tvT (hd ++ lp) hd.length t).headD false)))) := by
  have hlen := fun (h : t.well) (hx : 0 < (hd ++ lp).length) => tvT_len (hd ++ lp) hd.length hx t h
  obtain ⟨op, n, kids⟩ := t
  obtain ⟨ka, kb, ko, kc, rfl, hka, hkF⟩ := id hF
  obtain ⟨hv1, lv1, rfl, h1, h2⟩ := id hW
  obtain ⟨ha, hc, rfl, _⟩ := h1.form
  obtain ⟨la, lc, rfl, _⟩ := h2.form
  have hk0 : Kept (fun _ => False) w ((w.alloc (.cells #[.int .i64 op, .int .i64 n, .slice ka kids.length kc] 24)).alloc (.cells #[.slice ha hd.length hc, .slice la lp.length lc] 49)) := ((Kept.refl _ _).alloc _).alloc _
  have hb0 : ((w.alloc (.cells #[.int .i64 op, .int .i64 n, .slice ka kids.length kc] 24)).alloc (.cells #[.slice ha hd.length hc, .slice la lp.length lc] 49)).cell? ⟨w.heap.size, 0, none⟩ = some (.int .i64 op) := by simp
  have hb1 : ((w.alloc (.cells #[.int .i64 op, .int .i64 n, .slice ka kids.length kc] 24)).alloc (.cells #[.slice ha hd.length hc, .slice la lp.length lc] 49)).cell? ⟨w.heap.size, 1, none⟩ = some (.int .i64 n) := by simp
  have hb2 : ((w.alloc (.cells #[.int .i64 op, .int .i64 n, .slice ka kids.length kc] 24)).alloc (.cells #[.slice ha hd.length hc, .slice la lp.length lc] 49)).cell? ⟨w.heap.size, 2, none⟩ = some (.slice ka kids.length kc) := by simp
  have hc0 : ((w.alloc (.cells #[.int .i64 op, .int .i64 n, .slice ka kids.length kc] 24)).alloc (.cells #[.slice ha hd.length hc, .slice la lp.length lc] 49)).cell? ⟨w.heap.size + 1, 0, none⟩ = some (.slice ha hd.length hc) := by rw [World.cell?_alloc_at (hn := by simp)]; rfl
  have hc1 : ((w.alloc (.cells #[.int .i64 op, .int .i64 n, .slice ka kids.length kc] 24)).alloc (.cells #[.slice ha hd.length hc, .slice la lp.length lc] 49)).cell? ⟨w.heap.size + 1, 1, none⟩ = some (.slice la lp.length lc) := by rw [World.cell?_alloc_at (hn := by simp)]; rfl
  go_enter Tryd.func33, Tryd.ntmps33
  go_upto_region 1 with fail
  generalize ((w.alloc (.cells #[.int .i64 op, .int .i64 n, .slice ka kids.length kc] 24)).alloc (.cells #[.slice ha hd.length hc, .slice la lp.length lc] 49)) = w1 at *
  have hB1 : B ≤ w1.heap.size := Nat.le_trans hB hk0.size
  have hW1 : Hid (WordV B w1 (.agg #[.slice ha hd.length hc, .slice la lp.length lc]) hd lp) := hW.kept hk0 hB
  have hF1 : Hid (FormV B w1 (.agg #[.int .i64 op, .int .i64 n, .slice ka kids.length kc]) (.mk op n kids)) := hF.below (hk0.below hB (fun _ f => f.elim))
  have hT1 : Hid (TabK w1) := fun j hj => (hk0.cell (p := ⟨1, j, none⟩) (lt_of_cell (hT j hj)) (fun f => f)).trans (hT j hj)
  clear hW hF hT h1 h2 hka hkF
  go_upto_region 2 with (go_at_call 27; refine (truths27 _ B _ _ hd lp (.mk op n kids) hW1.out hF1.out hB1 hT1.out hB2 hsz).mono ?_; rintro e w2 ⟨hk1, ⟨hn, rfl⟩ | ⟨hg, hw, b, v, rfl, hb, hrow⟩⟩)
  · go_wp2
    go_ret
    exact ⟨hk0.trans hk1 (fun _ _ f => f), .inl ⟨hn, rfl⟩⟩
  · have hl := hlen hw (by rw [List.length_append]; have := goodW_len hg; omega)
    have hl0 : 0 < (hd ++ lp).length := by rw [List.length_append]; have := goodW_len hg; omega
    obtain ⟨row, hre⟩ : ∃ row, row = tvT (hd ++ lp) hd.length (.mk op n kids) := ⟨_, rfl⟩
    rw [← hre] at hrow hl
    have HRE : Hid _ := hre
    clear hre
    obtain ⟨rfl, hr1, hr2⟩ := hrow
    have hrl : 0 < row.length := by omega
    have hc0 := (hr2 0 hrl).1
    have hrli : (0 : Int) < (row.length : Int) := by omega
    have HH : Hid (row.headD false = row[0]) := by
      cases row with
      | nil => simp at hrl
      | cons x r => rfl
    clear hr2 hl hlen
    go_wp2
    go_ret
    exact ⟨hk0.trans hk1 (fun _ _ f => f), .inr ⟨hg, hw, ret_bool (by rw [← HRE.out]; exact HH.out.symm)⟩⟩

/-- a word's letter -/
def atW (hd lp : List Int) (n : Int) : Int := if n < 0 ∨ goodW hd lp = false then -1 else if n < hd.length then hd.getD n.toNat 0 else lp.getD ((n.toNat - hd.length) % lp.length) 0

set_option maxHeartbeats 1000000 in
theorem at31 (w : World) (B : Nat) (wv : Value) (hd lp : List Int) (n : Int) (hW : WordV B w wv hd lp) (hB : B ≤ w.heap.size) (hn : -9223372036854775808 ≤ n ∧ n ≤ 9223372036854775807) :
    Calls Tryd.prog 31 #[wv, .int .i64 n] w fun e w' => Kept (fun _ => False) w w' ∧ e = .returned (.int .i64 (atW hd lp n)) := by
  obtain ⟨hv1, lv1, rfl, h1, h2⟩ := id hW
  obtain ⟨ha, hc, rfl, hl1⟩ := h1.form
  obtain ⟨la, lc, rfl, hl2⟩ := h2.form
  have hk0 : Kept (fun _ => False) w (w.alloc (.cells #[.slice ha hd.length hc, .slice la lp.length lc] 49)) := (Kept.refl _ _).alloc _
  have hc0 : (w.alloc (.cells #[.slice ha hd.length hc, .slice la lp.length lc] 49)).cell? ⟨w.heap.size, 0, none⟩ = some (.slice ha hd.length hc) := by simp
  have hc1 : (w.alloc (.cells #[.slice ha hd.length hc, .slice la lp.length lc] 49)).cell? ⟨w.heap.size, 1, none⟩ = some (.slice la lp.length lc) := by simp
  go_enter Tryd.func31, Tryd.ntmps31
  go_upto_region 1 with fail
  generalize (w.alloc (.cells #[.slice ha hd.length hc, .slice la lp.length lc] 49)) = w1 at *
  have hB1 : B ≤ w1.heap.size := Nat.le_trans hB hk0.size
  have hW1 : Hid (WordV B w1 (.agg #[.slice ha hd.length hc, .slice la lp.length lc]) hd lp) := hW.kept hk0 hB
  clear hW h1 h2
  by_cases hneg : n < 0
  · go_wp2
    go_ret
    exact ⟨hk0, ret_int (by rw [atW, if_pos (.inl hneg)])⟩
  · cases hg : goodW hd lp with
    | false =>
      have HG : Hid _ := hg
      clear hg
      go_wp2_with (go_at_call 29; refine (good29 _ B _ hd lp hW1.out hB1).mono ?_; rintro e w2 ⟨rfl, hk1⟩; rw [HG.out])
      go_ret
      exact ⟨hk0.trans hk1 (fun _ _ f => f), ret_int (by rw [atW, if_pos (.inr HG.out)])⟩
    | true =>
      have HG : Hid _ := hg
      have hlen := goodW_len hg
      clear hg
      go_upto_region 3 with (go_at_call 29; refine (good29 _ B _ hd lp hW1.out hB1).mono ?_; rintro e w2 ⟨rfl, hk1⟩; rw [HG.out])
      have hW2 : Hid (WordV B w2 (.agg #[.slice ha hd.length hc, .slice la lp.length lc]) hd lp) := hW1.out.kept hk1 hB1
      have d0 := (hk1.cell (p := ⟨w.heap.size, 0, none⟩) (lt_of_cell hc0) (fun f => f)).trans hc0
      have d1 := (hk1.cell (p := ⟨w.heap.size, 1, none⟩) (lt_of_cell hc1) (fun f => f)).trans hc1
      have hk02 := hk0.trans hk1 (fun _ _ f => f)
      obtain ⟨m, rfl⟩ : ∃ m : Nat, n = m := ⟨n.toNat, by omega⟩
      obtain ⟨_, _, e0, g1, g2⟩ := hW2.out
      simp only [Value.agg.injEq, Array.mk.injEq, List.cons.injEq, and_true] at e0
      obtain ⟨rfl, rfl⟩ := e0
      by_cases hm : m < hd.length
      · obtain ⟨a, cap, e1, _, _, hcell⟩ := g1
        obtain ⟨b, off, hab, hbB, hcc⟩ := hcell m hd[m] (List.getElem?_eq_getElem hm)
        cases e1
        subst hab
        have hmi : (m : Int) < (hd.length : Int) := by omega
        clear hk1 hcell
        go_wp2
        go_ret
        exact ⟨hk02, ret_int (by rw [atW, if_neg (by rw [HG.out]; simp), if_pos hmi]; simp [hm])⟩
      · obtain ⟨a, cap, e1, _, _, hcell⟩ := g2
        have hq : (m - hd.length) % lp.length < lp.length := Nat.mod_lt _ hlen.2
        obtain ⟨b, off, hab, hbB, hcc⟩ := hcell _ lp[(m - hd.length) % lp.length] (List.getElem?_eq_getElem hq)
        cases e1
        subst hab
        have hmi : ¬ (m : Int) < (hd.length : Int) := by omega
        have hsub : ((m : Int) - (hd.length : Int)) = ((m - hd.length : Nat) : Int) := by omega
        have hlz : ¬ lp.length = 0 := by omega
        have hmod : (((m - hd.length : Nat) : Int)).tmod (lp.length : Int) = (((m - hd.length) % lp.length : Nat) : Int) := by
          rw [Int.tmod_eq_emod_of_nonneg (by omega)]
          rfl
        have hqi : (((m - hd.length) % lp.length : Nat) : Int) < (lp.length : Int) := by omega
        clear hk1 hcell
        go_wp2
        go_region
        go_wp2
        go_ret
        exact ⟨hk02.drew, ret_int (by rw [atW, if_neg (by rw [HG.out]; simp), if_neg (by omega)]; simp [hq])⟩
end Go.Proofs.YtdbpdanocpfboaaDoor
