import Derived.Test.YtdbpdanocpfboaaDoorZPq1
/- The program's reader: a word. -/
namespace Go.Proofs.YtdbpdanocpfboaaDoor
open Go.RowKit

theorem wordQ {w wr W3 W4 : World} {p bf br : Nat} {s : ByteArray} {i I D : Nat} {t : Tr} {op n : Int} (k1 : Kept (fun _ => False) w wr) (k3 : Kept (fun _ => False) wr W3) (k4 : Kept (fun k => k = bf) W3 W4) (hP : Rst W3 p s i D) (hbr : w.heap.size ≤ br) (hbf : w.heap.size ≤ bf) (hp : p < w.heap.size) (ht : t = .mk op n []) (x y z : Value) :
    PostQ w p s D (.ok t I) (.returned (.agg #[.int .i64 op, .int .i64 n, .slice none 0 0])) ((((W4.setCell ⟨p, 1, none⟩ (.int .i64 (I : Int))).setCell ⟨br, 0, none⟩ x).setCell ⟨br, 1, none⟩ y).setCell ⟨br, 2, none⟩ z) := by
  subst ht
  have k5 : Kept (fun k => k = p) w (W4.setCell ⟨p, 1, none⟩ (.int .i64 (I : Int))) := (((k1.trans k3 (fun _ _ f => f)).mono (T := fun k => k = p) (fun _ _ f => f.elim)).trans k4 (fun k hk e => by omega)).setCell (p := ⟨p, 1, none⟩) (fun _ => rfl) _
  have hk : Kept (fun k => k = br) (W4.setCell ⟨p, 1, none⟩ (.int .i64 (I : Int))) ((((W4.setCell ⟨p, 1, none⟩ (.int .i64 (I : Int))).setCell ⟨br, 0, none⟩ x).setCell ⟨br, 1, none⟩ y).setCell ⟨br, 2, none⟩ z) := (((Kept.refl (fun k => k = br) _).setCell (p := ⟨br, 0, none⟩) (fun _ => rfl) _).setCell (p := ⟨br, 1, none⟩) (fun _ => rfl) _).setCell (p := ⟨br, 2, none⟩) (fun _ => rfl) _
  exact ⟨k5.trans hk (fun k hk e => by omega), _, rfl, ((hP.keptS k4 (by omega)).setI I).keptS hk (by omega), none, 0, 0, 0, rfl, by simp, trivial⟩

set_option maxRecDepth 100000 in
set_option maxHeartbeats 4000000 in
theorem word117 (w : World) (p : Nat) (s : ByteArray) (i D : Nat) (h : Rst w p s i D) (hT : TabS w) (hi : i ≤ s.size) (hs : s.size ≤ 200) :
    Calls Tryd.prog 117 #[.pointer (some ⟨p, 0, none⟩)] w fun e w' => PostQ w p s D (wordR s i) e w' := by
  obtain ⟨w1, hw1⟩ : ∃ w1, w1 = w.alloc (.cells #[.int .i64 0, .int .i64 0, .slice none 0 0] 24) := ⟨_, rfl⟩
  have k1 : Kept (fun _ => False) w w1 := by rw [hw1]; exact (Kept.refl _ _).alloc _
  have hr : Wb3 w1 w.heap.size (.int .i64 0) (.int .i64 0) (.slice none 0 0) := by rw [hw1]; exact Wb3.new _ _ _ _ _
  have H : Hid (Rst w1 p s i D) := h.kept k1
  have HT : Hid (TabS w1) := hT.keptS k1 (fun f => f)
  have hpl := h.lt
  go_enter Tryd.func117, Tryd.ntmps117
  go_upto_region 1 with fail
  rw [← hw1]
  clear hw1 h hT
  obtain ⟨c0, c1, c2, f1, f2⟩ := id H.out
  go_wp2_with fail
  go_loopg [3] (s.size - i) (fun k x wr => ∃ I : Nat, x = .int .i64 (I : Int) ∧ i ≤ I ∧ I ≤ s.size ∧ wendB s I = wendB s i ∧ s.size - I = k ∧ wr = w1)
  case atStart => exact ⟨i, rfl, Nat.le_refl _, hi, rfl, rfl, rfl⟩
  case round =>
    obtain ⟨I, rfl, hiI, hI, hsk, hk, rfl⟩ := hrel
    by_cases hlt : I < s.size ∧ letB (byteN s I)
    · as_aux_lemma =>
        obtain ⟨hlt, hb⟩ := hlt
        have hlti : (I : Int) < (s.size : Int) := by omega
        have HN : Hid (wendB s (I + 1) = wendB s i) := by rw [Hid, ← hsk, wendB_next hlt hb]
        have HK : Hid (s.size - I = gk) := hk
        unfold letB at hb
        rw [byteN_get hlt] at hb
        have hb1 : (97 : Int) ≤ ((s[I]).toNat : Int) := by omega
        have hb2 : ((s[I]).toNat : Int) ≤ 122 := by omega
        have hin : wrap64 ((I : Int) + 1) = ((I + 1 : Nat) : Int) := by unfold wrap64; omega
        clear hb hsk hk
        go_wp2
        go_roundg (s.size - (I + 1))
        case measure => have := HK.out; omega
        case rel => exact ⟨I + 1, by simp, by omega, by omega, HN.out, rfl, rfl⟩
    · have HN : Hid (wendB s i = I) := by rw [Hid, ← hsk, wendB_stay hlt]
      have hcase : ¬ (I : Int) < (s.size : Int) ∨ ∃ h : I < s.size, (I : Int) < (s.size : Int) ∧ (¬ (97 : Int) ≤ ((s[I]).toNat : Int) ∨ ((97 : Int) ≤ ((s[I]).toNat : Int) ∧ ¬ ((s[I]).toNat : Int) ≤ 122)) := by
        by_cases h1 : I < s.size
        · refine .inr ⟨h1, by omega, ?_⟩
          have h2 : ¬ letB (byteN s I) := fun h => hlt ⟨h1, h⟩
          unfold letB at h2
          rw [byteN_get h1] at h2
          omega
        · exact .inl (by omega)
      have hiIi : (i : Int) ≤ (I : Int) := by omega
      clear hsk hk hlt
      have hwc := wordR_cases s i I HN.out
      have hsz : (s.extract i I).size = I - i := size_extract hI
      have hb0 : I = i + 1 → ∀ h : 0 < (s.extract i I).size, ((s.extract i I)[0]'h).toNat = byteN s i := fun e h => by
        have hl : i < s.size := by omega
        rw [byteN_get hl]
        congr 1
        simp [ByteArray.getElem_extract]
      have HB0 : Hid (I = i + 1 → ∀ h : 0 < (s.extract i I).size, ((s.extract i I)[0]'h).toNat = byteN s i) := hb0
      have HSZ : Hid ((s.extract i I).size = I - i) := hsz
      clear hb0 hsz
      have e0 : wr.cell? ⟨0, 0, none⟩ = some (.string ⟨#[116, 114, 117, 101]⟩) := (HT.out 0 (by omega)).1
      have e1 : wr.cell? ⟨0, 2, none⟩ = some (.string ⟨#[102, 97, 108, 115, 101]⟩) := (HT.out 1 (by omega)).1
      rcases hcase with hl1 | ⟨hl0, hl1, hl2 | ⟨hl2, hl3⟩⟩
      all_goals
        go_upto_region 5 with fail
        obtain ⟨w2, hw2⟩ : ∃ w2, w2 = wr.alloc (.cells #[.int .i64 0, .int .i64 0, .slice none 0 0] 24) := ⟨_, rfl⟩
        have k2 : Kept (fun _ => False) wr w2 := by rw [hw2]; exact (Kept.refl _ _).alloc _
        have b2 : Wb3 w2 wr.heap.size (.int .i64 0) (.int .i64 0) (.slice none 0 0) := by rw [hw2]; exact Wb3.new _ _ _ _ _
        rw [← hw2]
        clear hw2 c0 c1 c2 f1 f2
        obtain ⟨c0, c1, c2, f1, f2⟩ := H.out.kept k2
        go_quiet (fail)
        have k3 : Kept (fun _ => False) wr (w2.drewN nq) := k2.drewN _
        have b3 : Wb3 (w2.drewN nq) wr.heap.size (.int .i64 0) (.int .i64 0) (.slice none 0 0) := b2.kept ((Kept.refl _ _).drewN _)
        have hr3 : Wb3 (w2.drewN nq) w.heap.size (.int .i64 0) (.int .i64 0) (.slice none 0 0) := hr.kept k3
        have HP3 : Hid (Rst (w2.drewN nq) p s i D) := H.out.kept k3
        clear c0 c1 c2 f1 f2 k2 b2
        generalize w2.drewN nq = W3 at *
        have g0 : W3.cell? ⟨0, 0, none⟩ = some (.string ⟨#[116, 114, 117, 101]⟩) := (k3.cell (p := ⟨0, 0, none⟩) (lt_of_cell e0) (fun f => f)).trans e0
        have g1 : W3.cell? ⟨0, 2, none⟩ = some (.string ⟨#[102, 97, 108, 115, 101]⟩) := (k3.cell (p := ⟨0, 2, none⟩) (lt_of_cell e1) (fun f => f)).trans e1
        obtain ⟨c0, c1, c2, f1, f2⟩ := id HP3.out
        obtain ⟨_, ⟨b0, b1, b2⟩, h0, h1, h2⟩ := id b3
        clear e0 e1
        have hlr := hr.1
        have hwr := k1.size
        obtain ⟨bf, hbf'⟩ : ∃ bf, wr.heap.size = bf := ⟨_, rfl⟩
        obtain ⟨br, hbr'⟩ : ∃ br, w.heap.size = br := ⟨_, rfl⟩
        rw [hbf'] at b3 b0 b1 b2 h0 h1 h2
        rw [hbr'] at hr3
        rw [hbf', hbr']
        have hn1 : ¬ bf = p := by omega
        have hn2 : ¬ p = bf := by omega
        have hn3 : ¬ br = p := by omega
        have hn4 : ¬ p = br := by omega
        have hn5 : ¬ br = bf := by omega
        have hn6 : ¬ bf = br := by omega
        obtain ⟨_, ⟨y0, y1, y2⟩, y3, y4, y5⟩ := id hr3
        have HBB : Hid (w.heap.size ≤ br ∧ w.heap.size ≤ bf ∧ p < w.heap.size) := ⟨by omega, by omega, hpl⟩
        clear hbf' hbr'
        rcases hwc with ⟨t1, hw⟩ | ⟨t1, t2, hw⟩ | ⟨t1, t2, hne, hw⟩ | ⟨t1, t2, he, h97, ⟨h104, hw⟩ | ⟨h104, hw⟩⟩
        · have HW : Hid _ := hw
          clear hw
          go_wp2
          refine bodyPost_ret (v := .agg #[.int .i64 0, .int .i64 0, .slice none 0 0]) (by simp [results, Tryd.results117, go_sem, y0, y1, y2]) rfl ?_
          rw [HW.out]
          obtain ⟨h1, h2, h3⟩ := HBB.out
          exact wordQ k1 k3 ((Kept.refl (fun k => k = bf) _).setCell (p := ⟨bf, 0, none⟩) (fun _ => rfl) _) HP3.out h1 h2 h3 rfl _ _ _
        · have HW : Hid _ := hw
          clear hw
          go_wp2
          refine bodyPost_ret (v := .agg #[.int .i64 1, .int .i64 0, .slice none 0 0]) (by simp [results, Tryd.results117, go_sem, y0, y1, y2]) rfl ?_
          rw [HW.out]
          obtain ⟨h1, h2, h3⟩ := HBB.out
          exact wordQ k1 k3 ((Kept.refl (fun k => k = bf) _).setCell (p := ⟨bf, 0, none⟩) (fun _ => rfl) _) HP3.out h1 h2 h3 rfl _ _ _
        · have HW : Hid _ := hw
          have hq : (((I - i : Nat) : Int) == 1) = false := by simp; omega
          clear hw hne
          go_wp2_with (go_at_call 119; refine (fail119 _ p s i D 2 HP3.out).mono ?_; rintro e w5 ⟨he, hx5⟩; rw [hx5]; rw [faultE] at he; subst he; clear hx5)
          refine ⟨rfl, ?_⟩
          rw [HW.out]
          exact ⟨(k1.trans k3 (fun _ _ f => f)).mono (fun _ _ f => f.elim), rfl⟩
        · have HW : Hid _ := hw
          have hl1' : (s.extract i I).size = 1 := by have := HSZ.out; omega
          have hq : (((I - i : Nat) : Int) == 1) = true := by simp; omega
          have hx := HB0.out he (by omega)
          have hgt : ¬ (((s.extract i I)[0]'(by omega)).toNat : Int) ≤ 104 := by rw [hx]; omega
          clear hw he hx h104
          go_wp2_with (go_at_call 119; refine (fail119 _ p s i D 2 HP3.out).mono ?_; rintro e w5 ⟨he, hx5⟩; rw [hx5]; rw [faultE] at he; subst he; clear hx5)
          refine ⟨rfl, ?_⟩
          rw [HW.out]
          exact ⟨(k1.trans k3 (fun _ _ f => f)).mono (fun _ _ f => f.elim), rfl⟩
        · have HW : Hid _ := hw
          have hl1' : (s.extract i I).size = 1 := by have := HSZ.out; omega
          have hq : (((I - i : Nat) : Int) == 1) = true := by simp; omega
          have hx := HB0.out he (by omega)
          have hgt : (((s.extract i I)[0]'(by omega)).toNat : Int) ≤ 104 := by rw [hx]; omega
          have hxi : (((s.extract i I)[0]'(by omega)).toNat : Int) = (byteN s i : Int) := by rw [hx]
          have hle : (byteN s i : Int) ≤ 104 := by omega
          clear hw he hx h104
          go_upto_region 12 with fail
          have hwb : IntKind.u8.wrap ((byteN s i : Int) - 97) = (byteN s i : Int) - 97 := by rw [IntKind.wrap_u8]; omega
          have hwi : wrap64 ((byteN s i : Int) - 97) = (byteN s i : Int) - 97 := by unfold wrap64; omega
          go_region
          obtain ⟨W4, hW4⟩ : ∃ W4, W4 = ((W3.setCell ⟨bf, 0, none⟩ (.int .i64 2)).setCell ⟨bf, 1, none⟩ (.int .i64 ((byteN s i : Int) - 97))).drew := ⟨_, rfl⟩
          rw [← hW4]
          have k4 : Kept (fun k => k = bf) W3 W4 := by rw [hW4]; exact (((Kept.refl (fun k => k = bf) _).setCell (p := ⟨bf, 0, none⟩) (fun _ => rfl) _).setCell (p := ⟨bf, 1, none⟩) (fun _ => rfl) _).drew
          have b4 : Wb3 W4 bf (.int .i64 2) (.int .i64 ((byteN s i : Int) - 97)) (.slice none 0 0) := by
            rw [hW4]
            refine ⟨by simpa using b3.1, ⟨?_, ?_, ?_⟩, ?_, ?_, ?_⟩ <;> simp [go_sem, b0, b1, b2, h0, h1, h2]
          have hP4 := HP3.out.keptS k4 hn2
          have hr4 := hr3.keptS k4 hn5
          clear hW4 c0 c1 c2 f1 f2 b0 b1 b2 h0 h1 h2 y0 y1 y2 y3 y4 y5 g0 g1 hwb hwi hgt hxi hle
          obtain ⟨c0, c1, c2, f1, f2⟩ := id hP4
          obtain ⟨_, ⟨b0, b1, b2⟩, h0, h1, h2⟩ := id b4
          obtain ⟨_, ⟨y0, y1, y2⟩, y3, y4, y5⟩ := id hr4
          go_wp2
          refine bodyPost_ret (v := .agg #[.int .i64 2, .int .i64 ((byteN s i : Int) - 97), .slice none 0 0]) (by simp [results, Tryd.results117, go_sem, y0, y1, y2]) rfl ?_
          rw [HW.out]
          obtain ⟨h1, h2, h3⟩ := HBB.out
          exact wordQ k1 k3 k4 HP3.out h1 h2 h3 rfl _ _ _
end Go.Proofs.YtdbpdanocpfboaaDoor
