import Derived.Test.YtdbpdanocpfboaaDoorZBun14
import Derived.Test.YtdbpdanocpfboaaDoorZRpr
/- The law of LtlParses. -/
namespace Go.Proofs.YtdbpdanocpfboaaDoor
open Go.RowKit

set_option maxRecDepth 100000 in
set_option maxHeartbeats 4000000 in
theorem law3 (w : World) (s : ByteArray) (hS : TabS w) (hK : TabK w) (hT : TabT w) : Calls Tryd.prog 3 #[.string s] w fun e w' => e = .returned (.bool true) ∧ Kept (fun _ => False) w w' := by
  have h3 : 3 ≤ w.heap.size := by
    have := lt_of_cell (hT 0 (by decide))
    simp only at this
    omega
  go_enter Tryd.func3, Tryd.ntmps3
  go_upto_region 2 with (go_at_call 11; go_must (refine (parseX _ s hS).mono ?_); rintro e w1 ⟨r, o, n, a, l, c, hx, rfl, k1, hF⟩)
  obtain ⟨w2, hw2⟩ : ∃ w2, w2 = w1.alloc (.cells #[.int .i64 o, .int .i64 n, .slice a l c] 24) := ⟨_, rfl⟩
  have k2 : Kept (fun _ => False) w1 w2 := by rw [hw2]; exact (Kept.refl _ _).alloc _
  have b0 : w2.cell? ⟨w1.heap.size, 0, none⟩ = some (.int .i64 o) := by rw [hw2]; simp
  have b1 : w2.cell? ⟨w1.heap.size, 1, none⟩ = some (.int .i64 n) := by rw [hw2]; simp
  have b2 : w2.cell? ⟨w1.heap.size, 2, none⟩ = some (.slice a l c) := by rw [hw2]; simp
  have s12 : w1.heap.size < w2.heap.size := lt_of_cell b0
  rw [← hw2]
  clear hw2
  have HX : Hid (PX s r) := hx
  have HF : Hid (FVS (fun b => w.heap.size ≤ b ∧ b < w1.heap.size) w1 (.agg #[.int .i64 o, .int .i64 n, .slice a l c]) r.t) := hF
  clear hx hF
  go_upto_region 3 with (go_at_call 12; go_must (refine (rparseX _ s).mono ?_); rintro e w3 ⟨r', o', n', a', l', c', hx', rfl, k3, hG⟩)
  obtain rfl := HX.out.det hx'
  obtain ⟨w4, hw4⟩ : ∃ w4, w4 = w3.alloc (.cells #[.int .i64 o', .int .i64 n', .slice a' l' c'] 30) := ⟨_, rfl⟩
  have k4 : Kept (fun _ => False) w3 w4 := by rw [hw4]; exact (Kept.refl _ _).alloc _
  have d0 : w4.cell? ⟨w3.heap.size, 0, none⟩ = some (.int .i64 o') := by rw [hw4]; simp
  have d1 : w4.cell? ⟨w3.heap.size, 1, none⟩ = some (.int .i64 n') := by rw [hw4]; simp
  have d2 : w4.cell? ⟨w3.heap.size, 2, none⟩ = some (.slice a' l' c') := by rw [hw4]; simp
  have s34 : w3.heap.size < w4.heap.size := lt_of_cell d0
  rw [← hw4]
  clear hw4 hx'
  have k24 := k3.trans k4 (fun _ _ f => f)
  have k14 := k2.trans k24 (fun _ _ f => f)
  have k04 := k1.trans k14 (fun _ _ f => f)
  have z1 := k1.size
  have z3 := k3.size
  have bd : ∀ b, w.heap.size ≤ b ∧ b < w1.heap.size → b < w4.heap.size := fun b hb => by omega
  have ALL : ∀ wr, Kept (fun b => w.heap.size ≤ b ∧ b < w1.heap.size) w4 wr → TabS wr ∧ TabK wr ∧ TabT wr ∧ RV w3.heap.size wr (.agg #[.int .i64 o', .int .i64 n', .slice a' l' c']) r.t ∧ w4.heap.size ≤ wr.heap.size ∧ (wr.cell? ⟨w1.heap.size, 0, none⟩ = some (.int .i64 o) ∧ wr.cell? ⟨w1.heap.size, 1, none⟩ = some (.int .i64 n) ∧ wr.cell? ⟨w1.heap.size, 2, none⟩ = some (.slice a l c)) ∧ wr.cell? ⟨w3.heap.size, 0, none⟩ = some (.int .i64 o') ∧ wr.cell? ⟨w3.heap.size, 1, none⟩ = some (.int .i64 n') ∧ wr.cell? ⟨w3.heap.size, 2, none⟩ = some (.slice a' l' c') := by
    intro wr hk
    have hG4 : RVS (fun b => w2.heap.size ≤ b ∧ b < w3.heap.size) wr (.agg #[.int .i64 o', .int .i64 n', .slice a' l' c']) r.t := hG.keep (fun _ hb => hb) (fun b hb => ((hk.block b (by omega) (by omega)).trans (k4.block b hb.2 (fun f => f))))
    have c4 : ∀ i v, w2.cell? ⟨w1.heap.size, i, none⟩ = some v → wr.cell? ⟨w1.heap.size, i, none⟩ = some v := fun i v h => ((hk.cell (p := ⟨w1.heap.size, i, none⟩) (by simp; omega) (by simp)).trans (k24.cell (p := ⟨w1.heap.size, i, none⟩) s12 (fun f => f))).trans h
    have e4 : ∀ i v, w4.cell? ⟨w3.heap.size, i, none⟩ = some v → wr.cell? ⟨w3.heap.size, i, none⟩ = some v := fun i v h => (hk.cell (p := ⟨w3.heap.size, i, none⟩) s34 (by simp; omega)).trans h
    exact ⟨(TabS_kept hS k04).keptS hk (by omega), (hK.kept k04 (fun f => f)).kept hk (by omega), (hT.kept k04 (fun f => f)).kept hk (by omega), hG4.rv (fun b hb => hb.2), hk.size, ⟨c4 _ _ b0, c4 _ _ b1, c4 _ _ b2⟩, e4 _ _ d0, e4 _ _ d1, e4 _ _ d2⟩
  have HF4 : Hid (FVS (fun b => w.heap.size ≤ b ∧ b < w1.heap.size) w4 (.agg #[.int .i64 o, .int .i64 n, .slice a l c]) r.t) := HF.out.keep (fun _ hb => hb) (fun b hb => k14.block b hb.2 (fun f => f))
  have HA : Hid _ := ALL
  have HK04 : Hid (Kept (fun _ => False) w w4) := k04
  have hrs := HX.out.size
  clear hS hK hT k1 k2 k3 k4 k24 k14 k04 hG HF b0 b1 b2 d0 d1 d2 ALL
  obtain ⟨_, _, _, g4, _, ⟨x0, x1, x2⟩, y0, y1, y2⟩ := HA.out w4 (Kept.refl _ _)
  have hFV : FormV w4.heap.size w4 (.agg #[.int .i64 o, .int .i64 n, .slice a l c]) r.t := HF4.out.form bd
  go_upto_region 4 with (go_at_call 13; go_must (refine (same13 200 r.t hrs (by decide) w4 w4.heap.size _ _ hFV (g4.mono (by omega)) (Nat.le_refl _)).mono ?_); rintro e w5 ⟨k5, rfl⟩)
  clear g4 x0 x1 x2 y0 y1 y2 hFV
  rcases HX.out.cases with ⟨t, j, rfl, ht, hts⟩ | ⟨ec, ea, rfl, hec⟩
  · simp only [PRes.e, PRes.a, PRes.t] at *
    have TAILS : Hid (∀ wr, Kept (fun _ => False) w4 wr → Calls Tryd.prog 17 #[.agg #[.int .i64 o, .int .i64 n, .slice a l c]] wr fun e w' => e = .returned (.tuple #[]) ∧ Kept (fun b => w.heap.size ≤ b ∧ b < w1.heap.size) w4 w') := by
      intro wr hk
      have hF : FVS (fun b => w.heap.size ≤ b ∧ b < w1.heap.size) wr (.agg #[.int .i64 o, .int .i64 n, .slice a l c]) t := HF4.out.keep (fun _ hb => hb) (fun b hb => hk.block b (bd b hb) (fun f => f))
      refine (spoil17 _ wr (fun b hb => Nat.lt_of_lt_of_le (bd b hb) hk.size) 200 t hrs (by decide) wr _ hF (Spl.refl _ _)).mono ?_
      rintro e w' ⟨h1, h2, h3⟩
      exact ⟨h1, (hk.mono (fun _ _ f => f.elim)).trans h3 (fun _ _ f => f)⟩
    have HP : Hid (∀ wr, Kept (fun _ => False) w4 wr → Calls Tryd.prog 15 #[.agg #[.int .i64 o, .int .i64 n, .slice a l c]] wr fun e w' => e = .returned (.string ⟨(printT t).toArray⟩) ∧ Kept (fun _ => False) wr w') := by
      intro wr hk
      obtain ⟨q1, q2, q3, _⟩ := HA.out wr (hk.mono (fun _ _ f => f.elim))
      exact print15 wr w4.heap.size _ t ht ((HF4.out.form bd).below (hk.below (Nat.le_refl _) (fun _ f => f.elim))) hk.size q2 q1 (by omega) (by omega)
    have HQ : Hid (∀ wr, Kept (fun _ => False) w4 wr → Calls Tryd.prog 16 #[.agg #[.int .i64 o', .int .i64 n', .slice a' l' c']] wr fun e w' => e = .returned (.string ⟨(printT t).toArray⟩) ∧ Kept (fun _ => False) wr w') := by
      intro wr hk
      obtain ⟨q1, q2, q3, q4, q5, _⟩ := HA.out wr (hk.mono (fun _ _ f => f.elim))
      refine (print16 200 t hts (by decide) ht wr _ (q4.mono (by omega))).mono ?_
      rintro e w' ⟨h1, h2⟩
      exact ⟨h2, h1⟩
    go_upto_region 6 with (go_at_call 14; refine (num14 _ _).mono ?_; rintro e w6 ⟨rfl, hw6⟩; subst w6)
    obtain ⟨_, _, _, _, _, ⟨p0, p1, p2⟩, q0, q1, q2⟩ := HA.out w5 (k5.mono (fun _ _ f => f.elim))
    go_region_with
      (first
        | (go_at_call 15; refine (HP.out _ k5.drew).mono ?_; rintro e w6 ⟨rfl, k6⟩; have k46 := (k5.drew).trans k6 (fun _ _ f => f); obtain ⟨_, _, _, _, _, ⟨m0, m1, m2⟩, v0, v1, v2⟩ := HA.out w6 (k46.mono (fun _ _ f => f.elim)))
        | (go_at_call 16; refine (HQ.out _ k46).mono ?_; rintro e w7 ⟨rfl, k7⟩; have KW := k46.trans k7 (fun _ _ f => f)))
    all_goals
      obtain ⟨_, _, _, _, _, ⟨p0, p1, p2⟩, q0, q1, q2⟩ := HA.out _ (KW.mono (fun _ _ f => f.elim))
      go_upto_region 9 with (go_at_call 17; go_must (refine (TAILS.out _ KW).mono ?_); rintro e w9 ⟨rfl, k9⟩)
      obtain ⟨s9, _, _, _, z9, _, _, _, _⟩ := HA.out w9 k9
      go_upto_region 10 with (go_at_call 11; go_must (refine (parseX _ s s9).mono ?_); rintro e w10 ⟨r2, o2, n2, a2, l2, c2, hx2, rfl, k10, hF2⟩)
      obtain rfl := HX.out.det hx2
      simp only [PRes.e, PRes.a, PRes.t] at *
      obtain ⟨w11, hw11⟩ : ∃ w11, w11 = w10.alloc (.cells #[.int .i64 o2, .int .i64 n2, .slice a2 l2 c2] 24) := ⟨_, rfl⟩
      have k11 : Kept (fun _ => False) w10 w11 := by rw [hw11]; exact (Kept.refl _ _).alloc _
      have b0 : w11.cell? ⟨w10.heap.size, 0, none⟩ = some (.int .i64 o2) := by rw [hw11]; simp
      have b1 : w11.cell? ⟨w10.heap.size, 1, none⟩ = some (.int .i64 n2) := by rw [hw11]; simp
      have b2 : w11.cell? ⟨w10.heap.size, 2, none⟩ = some (.slice a2 l2 c2) := by rw [hw11]; simp
      have s11 : w10.heap.size < w11.heap.size := lt_of_cell b0
      rw [← hw11]
      clear hw11
      have k911 := k10.trans k11 (fun _ _ f => f)
      have k411 := k9.trans (k911.mono (fun _ _ f => f.elim)) (fun _ _ f => f)
      obtain ⟨s12', t12', u12', g12, z12, _, y0, y1, y2⟩ := HA.out w11 k411
      have hF12 : FormV w11.heap.size w11 (.agg #[.int .i64 o2, .int .i64 n2, .slice a2 l2 c2]) t := ((hF2.form (fun b hb => hb.2)).below (k11.below (Nat.le_refl _) (fun _ f => f.elim))).mono (Nat.le_of_lt s11)
      go_wp2_with
        (first
          | (go_at_call 13; go_must (refine (same13 200 t hrs (by decide) w11 w11.heap.size _ _ hF12 (g12.mono (by omega)) (Nat.le_refl _)).mono ?_); rintro e w12 ⟨k12, rfl⟩)
          | (go_at_call 18; go_must (refine (alive18 w12 (TabS_kept s12' k12) (t12'.kept k12 (fun f => f)) (u12'.kept k12 (fun f => f))).mono ?_); rintro e w13 ⟨rfl, k13⟩))
      go_ret
      exact ⟨rfl, ((HK04.out.trans k411 (fun b hb e => absurd e.1 (by omega))).trans k12 (fun _ _ f => f)).trans k13 (fun _ _ f => f)⟩
  · simp only [PRes.e, PRes.a, PRes.t] at *
    have TAILS : Hid (∀ wr, Kept (fun _ => False) w4 wr → Calls Tryd.prog 17 #[.agg #[.int .i64 o, .int .i64 n, .slice a l c]] wr fun e w' => e = .returned (.tuple #[]) ∧ Kept (fun b => w.heap.size ≤ b ∧ b < w1.heap.size) w4 w') := by
      intro wr hk
      have hF : FVS (fun b => w.heap.size ≤ b ∧ b < w1.heap.size) wr (.agg #[.int .i64 o, .int .i64 n, .slice a l c]) (.mk 0 0 []) := HF4.out.keep (fun _ hb => hb) (fun b hb => hk.block b (bd b hb) (fun f => f))
      refine (spoil17 _ wr (fun b hb => Nat.lt_of_lt_of_le (bd b hb) hk.size) 200 (.mk 0 0 []) hrs (by decide) wr _ hF (Spl.refl _ _)).mono ?_
      rintro e w' ⟨h1, h2, h3⟩
      exact ⟨h1, (hk.mono (fun _ _ f => f.elim)).trans h3 (fun _ _ f => f)⟩
    have he0 : (ec == 0) = false := by simpa using hec
    go_upto_region 6 with (go_at_call 14; refine (num14 _ _).mono ?_; rintro e w6 ⟨rfl, hw6⟩; subst w6)
    go_region
    have KW : Kept (fun _ => False) w4 w5.drew := k5.drew
    obtain ⟨_, _, _, _, _, ⟨p0, p1, p2⟩, q0, q1, q2⟩ := HA.out _ (KW.mono (fun _ _ f => f.elim))
    generalize w5.drew = w8 at *
    go_upto_region 9 with (go_at_call 17; go_must (refine (TAILS.out _ KW).mono ?_); rintro e w9 ⟨rfl, k9⟩)
    obtain ⟨s9, _, _, _, z9, _, _, _, _⟩ := HA.out w9 k9
    go_upto_region 10 with (go_at_call 11; go_must (refine (parseX _ s s9).mono ?_); rintro e w10 ⟨r2, o2, n2, a2, l2, c2, hx2, rfl, k10, hF2⟩)
    obtain rfl := HX.out.det hx2
    simp only [PRes.e, PRes.a, PRes.t] at *
    obtain ⟨w11, hw11⟩ : ∃ w11, w11 = w10.alloc (.cells #[.int .i64 o2, .int .i64 n2, .slice a2 l2 c2] 24) := ⟨_, rfl⟩
    have k11 : Kept (fun _ => False) w10 w11 := by rw [hw11]; exact (Kept.refl _ _).alloc _
    have b0 : w11.cell? ⟨w10.heap.size, 0, none⟩ = some (.int .i64 o2) := by rw [hw11]; simp
    have b1 : w11.cell? ⟨w10.heap.size, 1, none⟩ = some (.int .i64 n2) := by rw [hw11]; simp
    have b2 : w11.cell? ⟨w10.heap.size, 2, none⟩ = some (.slice a2 l2 c2) := by rw [hw11]; simp
    have s11 : w10.heap.size < w11.heap.size := lt_of_cell b0
    rw [← hw11]
    clear hw11
    have k911 := k10.trans k11 (fun _ _ f => f)
    have k411 := k9.trans (k911.mono (fun _ _ f => f.elim)) (fun _ _ f => f)
    obtain ⟨s12', t12', u12', g12, z12, _, y0, y1, y2⟩ := HA.out w11 k411
    have hF12 : FormV w11.heap.size w11 (.agg #[.int .i64 o2, .int .i64 n2, .slice a2 l2 c2]) (.mk 0 0 []) := ((hF2.form (fun b hb => hb.2)).below (k11.below (Nat.le_refl _) (fun _ f => f.elim))).mono (Nat.le_of_lt s11)
    go_wp2_with
      (first
        | (go_at_call 13; go_must (refine (same13 200 (.mk 0 0 []) hrs (by decide) w11 w11.heap.size _ _ hF12 (g12.mono (by omega)) (Nat.le_refl _)).mono ?_); rintro e w12 ⟨k12, rfl⟩)
        | (go_at_call 18; go_must (refine (alive18 w12 (TabS_kept s12' k12) (t12'.kept k12 (fun f => f)) (u12'.kept k12 (fun f => f))).mono ?_); rintro e w13 ⟨rfl, k13⟩))
    go_ret
    exact ⟨rfl, ((HK04.out.trans k411 (fun b hb e => absurd e.1 (by omega))).trans k12 (fun _ _ f => f)).trans k13 (fun _ _ f => f)⟩
end Go.Proofs.YtdbpdanocpfboaaDoor
