import Derived.Test.YtdbpdanocpfboaaDoorZBun14
/- The law of LtlBack. -/
namespace Go.Proofs.YtdbpdanocpfboaaDoor
open Go.RowKit

theorem px_back {t t2 : Tr} {j : Nat} (ht : t.well) (h : PX ⟨(printT t).toArray⟩ (.ok t2 j)) : t2 = t := by
  rcases h with ⟨_, h⟩ | ⟨_, h⟩
  · cases h
  · rcases PW.back t ht with h2 | ⟨a, h2⟩
    · have := h.det h2
      injection this
    · have := h.det h2
      cases this

set_option maxRecDepth 100000 in
set_option maxHeartbeats 4000000 in
theorem law4 (w : World) (s : ByteArray) (hS : TabS w) (hK : TabK w) (hT : TabT w) : Calls Tryd.prog 4 #[.string s] w fun e w' => e = .returned (.bool true) ∧ Kept (fun _ => False) w w' := by
  have h3 : 3 ≤ w.heap.size := by
    have := lt_of_cell (hT 0 (by decide))
    simp only at this
    omega
  go_enter Tryd.func4, Tryd.ntmps4
  go_upto_region 2 with (go_at_call 11; go_must (refine (parseX _ s hS).mono ?_); rintro e w1 ⟨r, o, n, a, l, c, hx, rfl, k1, hF⟩)
  obtain ⟨w2, hw2⟩ : ∃ w2, w2 = w1.alloc (.cells #[.int .i64 o, .int .i64 n, .slice a l c] 24) := ⟨_, rfl⟩
  have k2 : Kept (fun _ => False) w1 w2 := by rw [hw2]; exact (Kept.refl _ _).alloc _
  have b0 : w2.cell? ⟨w1.heap.size, 0, none⟩ = some (.int .i64 o) := by rw [hw2]; simp
  have b1 : w2.cell? ⟨w1.heap.size, 1, none⟩ = some (.int .i64 n) := by rw [hw2]; simp
  have b2 : w2.cell? ⟨w1.heap.size, 2, none⟩ = some (.slice a l c) := by rw [hw2]; simp
  have s12 : w1.heap.size < w2.heap.size := lt_of_cell b0
  rw [← hw2]
  clear hw2
  have HX : Hid (PX s r) := hx
  have HF : Hid (FormV w1.heap.size w1 (.agg #[.int .i64 o, .int .i64 n, .slice a l c]) r.t) := hF.form (fun b hb => hb.2)
  clear hx hF
  go_upto_region 3 with (go_at_call 12; go_must (refine (rparseX _ s).mono ?_); rintro e w3 ⟨r', o', n', a', l', c', hx', rfl, k3, hG⟩)
  obtain rfl := HX.out.det hx'
  obtain ⟨w4, hw4⟩ : ∃ w4, w4 = w3.alloc (.cells #[.int .i64 o', .int .i64 n', .slice a' l' c'] 30) := ⟨_, rfl⟩
  have k4 : Kept (fun _ => False) w3 w4 := by rw [hw4]; exact (Kept.refl _ _).alloc _
  rw [← hw4]
  clear hw4 hx' hG
  have k24 := k3.trans k4 (fun _ _ f => f)
  have k14 := k2.trans k24 (fun _ _ f => f)
  have k04 := k1.trans k14 (fun _ _ f => f)
  have z1 := k1.size
  have z14 := k14.size
  have ALL : ∀ wr, Kept (fun _ => False) w4 wr → TabS wr ∧ TabK wr ∧ TabT wr ∧ FormV w1.heap.size wr (.agg #[.int .i64 o, .int .i64 n, .slice a l c]) r.t ∧ w1.heap.size ≤ wr.heap.size ∧ wr.cell? ⟨w1.heap.size, 0, none⟩ = some (.int .i64 o) ∧ wr.cell? ⟨w1.heap.size, 1, none⟩ = some (.int .i64 n) ∧ wr.cell? ⟨w1.heap.size, 2, none⟩ = some (.slice a l c) := by
    intro wr hk
    have k1r := k14.trans hk (fun _ _ f => f)
    have k0r := k04.trans hk (fun _ _ f => f)
    have c4 : ∀ i v, w2.cell? ⟨w1.heap.size, i, none⟩ = some v → wr.cell? ⟨w1.heap.size, i, none⟩ = some v := fun i v h => ((k24.trans hk (fun _ _ f => f)).cell (p := ⟨w1.heap.size, i, none⟩) s12 (fun f => f)).trans h
    exact ⟨TabS_kept hS k0r, hK.kept k0r (fun f => f), hT.kept k0r (fun f => f), HF.out.below (k1r.below (Nat.le_refl _) (fun _ f => f.elim)), k1r.size, c4 _ _ b0, c4 _ _ b1, c4 _ _ b2⟩
  have HA : Hid _ := ALL
  have HK04 : Hid (Kept (fun _ => False) w w4) := k04
  have hrs := HX.out.size
  clear hS hK hT k1 k2 k3 k4 k24 k14 k04 HF b0 b1 b2 ALL
  rcases HX.out.cases with ⟨t, j, rfl, ht, hts⟩ | ⟨ec, ea, rfl, hec⟩
  · simp only [PRes.e, PRes.a, PRes.t] at *
    obtain ⟨s4, t4, u4, f4, z4, x0, x1, x2⟩ := HA.out w4 (Kept.refl _ _)
    go_upto_region 6 with
      (first
        | (go_at_call 14; refine (num14 _ _).mono ?_; rintro e w6 ⟨rfl, hw6⟩; subst w6)
        | (go_at_call 15; go_must (refine (print15 w4 w1.heap.size _ t ht f4 z4 t4 s4 (by omega) (by omega)).mono ?_); rintro e w5 ⟨rfl, k5⟩))
    obtain ⟨s5, _, _, _, _, _, _, _⟩ := HA.out w5 k5
    clear s4 t4 u4 f4 x0 x1 x2
    go_upto_region 7 with (go_at_call 11; go_must (refine (parseX _ _ s5).mono ?_); rintro e w6 ⟨r2, o2, n2, a2, l2, c2, hx2, rfl, k6, hF2⟩)
    obtain ⟨w7, hw7⟩ : ∃ w7, w7 = w6.alloc (.cells #[.int .i64 o2, .int .i64 n2, .slice a2 l2 c2] 24) := ⟨_, rfl⟩
    have k7 : Kept (fun _ => False) w6 w7 := by rw [hw7]; exact (Kept.refl _ _).alloc _
    have b0 : w7.cell? ⟨w6.heap.size, 0, none⟩ = some (.int .i64 o2) := by rw [hw7]; simp
    have b1 : w7.cell? ⟨w6.heap.size, 1, none⟩ = some (.int .i64 n2) := by rw [hw7]; simp
    have b2 : w7.cell? ⟨w6.heap.size, 2, none⟩ = some (.slice a2 l2 c2) := by rw [hw7]; simp
    have s67 : w6.heap.size < w7.heap.size := lt_of_cell b0
    rw [← hw7]
    clear hw7
    have HX2 : Hid (PX ⟨(printT t).toArray⟩ r2) := hx2
    have HF2 : Hid (FormV w6.heap.size w6 (.agg #[.int .i64 o2, .int .i64 n2, .slice a2 l2 c2]) r2.t) := hF2.form (fun b hb => hb.2)
    clear hx2 hF2
    go_upto_region 8 with (go_at_call 12; go_must (refine (rparseX _ _).mono ?_); rintro e w8 ⟨r3, o3, n3, a3, l3, c3, hx3, rfl, k8, hG3⟩)
    obtain rfl := HX2.out.det hx3
    obtain ⟨w9, hw9⟩ : ∃ w9, w9 = w8.alloc (.cells #[.int .i64 o3, .int .i64 n3, .slice a3 l3 c3] 30) := ⟨_, rfl⟩
    have k9 : Kept (fun _ => False) w8 w9 := by rw [hw9]; exact (Kept.refl _ _).alloc _
    have d0 : w9.cell? ⟨w8.heap.size, 0, none⟩ = some (.int .i64 o3) := by rw [hw9]; simp
    have d1 : w9.cell? ⟨w8.heap.size, 1, none⟩ = some (.int .i64 n3) := by rw [hw9]; simp
    have d2 : w9.cell? ⟨w8.heap.size, 2, none⟩ = some (.slice a3 l3 c3) := by rw [hw9]; simp
    have s89 : w8.heap.size < w9.heap.size := lt_of_cell d0
    rw [← hw9]
    clear hw9 hx3
    have k79 := k8.trans k9 (fun _ _ f => f)
    have k69 := k7.trans k79 (fun _ _ f => f)
    have k49 := (k5.trans k6 (fun _ _ f => f)).trans k69 (fun _ _ f => f)
    have z6 := k6.size
    have z8 := k8.size
    have z5 := k5.size
    have BLL : ∀ wr, Kept (fun _ => False) w9 wr → FormV w6.heap.size wr (.agg #[.int .i64 o2, .int .i64 n2, .slice a2 l2 c2]) r2.t ∧ RV w8.heap.size wr (.agg #[.int .i64 o3, .int .i64 n3, .slice a3 l3 c3]) r2.t ∧ w9.heap.size ≤ wr.heap.size ∧ (wr.cell? ⟨w6.heap.size, 0, none⟩ = some (.int .i64 o2) ∧ wr.cell? ⟨w6.heap.size, 1, none⟩ = some (.int .i64 n2) ∧ wr.cell? ⟨w6.heap.size, 2, none⟩ = some (.slice a2 l2 c2)) ∧ wr.cell? ⟨w8.heap.size, 0, none⟩ = some (.int .i64 o3) ∧ wr.cell? ⟨w8.heap.size, 1, none⟩ = some (.int .i64 n3) ∧ wr.cell? ⟨w8.heap.size, 2, none⟩ = some (.slice a3 l3 c3) := by
      intro wr hk
      have k6r := k69.trans hk (fun _ _ f => f)
      have k8r := k9.trans hk (fun _ _ f => f)
      have c4 : ∀ i v, w7.cell? ⟨w6.heap.size, i, none⟩ = some v → wr.cell? ⟨w6.heap.size, i, none⟩ = some v := fun i v h => ((k79.trans hk (fun _ _ f => f)).cell (p := ⟨w6.heap.size, i, none⟩) s67 (fun f => f)).trans h
      have e4 : ∀ i v, w9.cell? ⟨w8.heap.size, i, none⟩ = some v → wr.cell? ⟨w8.heap.size, i, none⟩ = some v := fun i v h => (hk.cell (p := ⟨w8.heap.size, i, none⟩) s89 (fun f => f)).trans h
      exact ⟨HF2.out.below (k6r.below (Nat.le_refl _) (fun _ f => f.elim)), (hG3.rv (fun b hb => hb.2)).below (k8r.below (Nat.le_refl _) (fun _ f => f.elim)), hk.size, ⟨c4 _ _ b0, c4 _ _ b1, c4 _ _ b2⟩, e4 _ _ d0, e4 _ _ d1, e4 _ _ d2⟩
    have HB : Hid _ := BLL
    have K49 : Hid (Kept (fun _ => False) w4 w9) := k49
    clear BLL hG3 HF2 b0 b1 b2 d0 d1 d2 k5 k6 k7 k8 k9 k79 k69 k49
    rcases HX2.out.cases with ⟨t2, j2, rfl, ht2, hts2⟩ | ⟨ec, ea, rfl, hec⟩
    · obtain rfl : t2 = t := px_back ht HX2.out
      simp only [PRes.e, PRes.a, PRes.t] at *
      obtain ⟨s9, t9, u9, f9, q9, x0, x1, x2⟩ := HA.out w9 K49.out
      obtain ⟨g9, h9, _, ⟨y0, y1, y2⟩, v0, v1, v2⟩ := HB.out w9 (Kept.refl _ _)
      go_upto_region 13 with
        (first
          | (go_at_call 14; refine (num14 _ _).mono ?_; rintro e w10 ⟨rfl, hw10⟩; subst w10)
          | (go_at_call 13; go_must (refine (same13 200 t2 hts2 (by decide) w9 w9.heap.size _ _ (g9.mono (by omega)) (h9.mono (by omega)) (Nat.le_refl _)).mono ?_); rintro e w10 ⟨k10, rfl⟩))
      clear s9 t9 u9 f9 x0 x1 x2 g9 h9 y0 y1 y2 v0 v1 v2
      obtain ⟨s9, t9, u9, f9, q9, x0, x1, x2⟩ := HA.out w10 (K49.out.trans k10 (fun _ _ f => f))
      obtain ⟨g9, h9, z10, ⟨y0, y1, y2⟩, v0, v1, v2⟩ := HB.out w10 k10
      go_upto_region 14 with (go_at_call 13; go_must (refine (same13 200 t2 hts2 (by decide) w10 w10.heap.size _ _ (f9.mono q9) (h9.mono (by omega)) (Nat.le_refl _)).mono ?_); rintro e w11 ⟨k11, rfl⟩)
      clear s9 t9 u9 f9 x0 x1 x2 g9 h9 y0 y1 y2 v0 v1 v2
      obtain ⟨s9, t9, u9, _⟩ := HA.out w11 ((K49.out.trans k10 (fun _ _ f => f)).trans k11 (fun _ _ f => f))
      obtain ⟨g9, h9, z11, ⟨y0, y1, y2⟩, v0, v1, v2⟩ := HB.out w11 (k10.trans k11 (fun _ _ f => f))
      go_wp2_with
        (first
          | (go_at_call 15; go_must (refine (print15 w11 w6.heap.size _ t2 ht g9 (by omega) t9 s9 (by omega) (by omega)).mono ?_); rintro e w12 ⟨rfl, k12⟩)
          | (go_at_call 18; go_must (refine (alive18 w12 (TabS_kept s9 k12) (t9.kept k12 (fun f => f)) (u9.kept k12 (fun f => f))).mono ?_); rintro e w13 ⟨rfl, k13⟩))
      go_ret
      exact ⟨rfl, ((((HK04.out.trans K49.out (fun _ _ f => f)).trans k10 (fun _ _ f => f)).trans k11 (fun _ _ f => f)).trans k12 (fun _ _ f => f)).trans k13 (fun _ _ f => f)⟩
    · simp only [PRes.e, PRes.a, PRes.t] at *
      have he0 : (ec == 0) = false := by simpa using hec
      obtain ⟨s9, t9, u9, _⟩ := HA.out w9 K49.out
      go_wp2_with
        (first
          | (go_at_call 14; refine (num14 _ _).mono ?_; rintro e w10 ⟨rfl, hw10⟩; subst w10)
          | (go_at_call 18; go_must (refine (alive18 w9 s9 t9 u9).mono ?_); rintro e w13 ⟨rfl, k13⟩))
      go_ret
      exact ⟨rfl, (HK04.out.trans K49.out (fun _ _ f => f)).trans k13 (fun _ _ f => f)⟩
  · simp only [PRes.e, PRes.a, PRes.t] at *
    have he0 : (ec == 0) = false := by simpa using hec
    obtain ⟨s4, t4, u4, _⟩ := HA.out w4 (Kept.refl _ _)
    go_wp2_with
      (first
        | (go_at_call 14; refine (num14 _ _).mono ?_; rintro e w10 ⟨rfl, hw10⟩; subst w10)
        | (go_at_call 18; go_must (refine (alive18 w4 s4 t4 u4).mono ?_); rintro e w13 ⟨rfl, k13⟩))
    go_ret
    exact ⟨rfl, HK04.out.trans k13 (fun _ _ f => f)⟩
end Go.Proofs.YtdbpdanocpfboaaDoor
