import Derived.Test.YtdbpdanocpfboaaDoorZBun04
/- The document's own answer: how a text is read; one behind the other. -/
namespace Go.Proofs.YtdbpdanocpfboaaDoor
open Go.RowKit

/-- a reader's call from a place on -/
def CallR (s : ByteArray) (f : FuncId) (n : Nt) (w : World) (p i D : Nat) (A : Int) : Prop :=
  Calls Tryd.prog f #[.pointer (some ⟨p, 0, none⟩)] w fun e w' => ∃ v r, e = .returned v ∧ PS s n i D r ∧ PostR w p s D A r v w'
/-- up to a measure the readers read as the text reads -/
structure SaysP (s : ByteArray) (N : Nat) : Prop where
  one : ∀ w p i D A, Pst w p s i D 0 A → i ≤ s.size → D ≤ 20 → 8 * (s.size - i) ≤ N → CallR s 135 .one w p i D A
  two : ∀ w p i D A, Pst w p s i D 0 A → i ≤ s.size → D ≤ 20 → 8 * (s.size - i) + 2 ≤ N → CallR s 131 (.read 3) w p i D A
  and : ∀ w p i D A, Pst w p s i D 0 A → i ≤ s.size → D ≤ 20 → 8 * (s.size - i) + 3 ≤ N → CallR s 120 (.read 2) w p i D A
  or : ∀ w p i D A, Pst w p s i D 0 A → i ≤ s.size → D ≤ 20 → 8 * (s.size - i) + 4 ≤ N → CallR s 76 (.read 1) w p i D A
  form : ∀ w p i D A, Pst w p s i D 0 A → i ≤ s.size → D ≤ 20 → 8 * (s.size - i) + 5 ≤ N → CallR s 46 (.read 0) w p i D A
theorem PostR.agg {w : World} {p : Nat} {s : ByteArray} {D : Nat} {A : Int} {r : PRes} {v : Value} {w' : World} (h : PostR w p s D A r v w') : ∃ op n ka kl kc, v = .agg #[.int .i64 op, .int .i64 n, .slice ka kl kc] := by
  cases r with
  | ok t j => exact h.2.2.agg
  | err x a => exact h.2.2
/-- what was read is stored in the box of the answer -/
theorem PostR.fin {w w1 W : World} {p r : Nat} {s : ByteArray} {D : Nat} {A : Int} {q : PRes} {v : Value} (h : PostR w1 p s D A q v W) (k1 : Kept (fun _ => False) w w1) (hr : w.heap.size ≤ r) (hr1 : r < w1.heap.size) (hp : p < w.heap.size) (x y z : Value) :
    PostR w p s D A q v (((W.setCell ⟨r, 0, none⟩ x).setCell ⟨r, 1, none⟩ y).setCell ⟨r, 2, none⟩ z) := by
  have hk : Kept (fun k => k = r) W (((W.setCell ⟨r, 0, none⟩ x).setCell ⟨r, 1, none⟩ y).setCell ⟨r, 2, none⟩ z) := (((Kept.refl (fun k => k = r) W).setCell (p := ⟨r, 0, none⟩) (fun _ => rfl) _).setCell (p := ⟨r, 1, none⟩) (fun _ => rfl) _).setCell (p := ⟨r, 2, none⟩) (fun _ => rfl) _
  have hne : p ≠ r := by omega
  refine ⟨((k1.mono (T := fun k => k = p) (fun _ _ f => f.elim)).trans h.1 (fun _ _ e => e)).trans hk (fun k hk e => by omega), ?_⟩
  cases q with
  | ok t j =>
    refine ⟨h.2.1.keptS hk hne, h.2.2.keep (fun b hb => ⟨Nat.le_trans k1.size hb.1, by simpa [World.setCell] using hb.2⟩) (fun b hb => hk.block b hb.2 (fun e => by have := hb.1; omega))⟩
  | err e a =>
    obtain ⟨⟨I, h1, h2⟩, h3⟩ := h.2
    exact ⟨⟨I, h1.keptS hk hne, h2⟩, h3⟩
/-- what was read stays while the reader goes on -/
theorem PostR.on {w W W' : World} {p : Nat} {s : ByteArray} {D : Nat} {A : Int} {t : Tr} {j j' : Nat} {v : Value} (h : PostR w p s D A (.ok t j) v W) (hk : Kept (fun k => k = p) W W') (hP : Pst W' p s j' D 0 A) (hp : p < w.heap.size) : PostR w p s D A (.ok t j') v W' :=
  ⟨h.1.trans hk (fun _ _ e => e), hP, h.2.2.keep (fun b hb => ⟨hb.1, Nat.lt_of_lt_of_le hb.2 hk.size⟩) (fun b hb => hk.block b hb.2 (fun e => by have := hb.1; omega))⟩
theorem PostR.onErr {w W W' : World} {p : Nat} {s : ByteArray} {D : Nat} {A : Int} {e a : _} {I : Nat} {v : Value} (h : PostR w p s D A (.err e a) v W) (hk : Kept (fun k => k = p) W W') (hP : Pst W' p s I D e ((a : Nat) : Int)) (hI : I ≤ s.size) : PostR w p s D A (.err e a) v W' :=
  ⟨h.1.trans hk (fun _ _ e => e), ⟨I, hP, hI⟩, h.2.2⟩
theorem Pst.keptF {W W' : World} {p : Nat} {s : ByteArray} {I D : Nat} {E A : Int} (h : Pst W p s I D E A) (hk : Kept (fun _ => False) W W') : Pst W' p s I D E A := h.kept hk
/-- a box is made -/
theorem PostR.al {w W : World} {p : Nat} {s : ByteArray} {D : Nat} {A : Int} {q : PRes} {v : Value} (h : PostR w p s D A q v W) (o : Obj) : PostR w p s D A q v (W.alloc o) := by
  have hk : Kept (fun _ => False) W (W.alloc o) := (Kept.refl _ _).alloc _
  refine ⟨h.1.alloc _, ?_⟩
  cases q with
  | ok t j => exact ⟨h.2.1.kept hk, h.2.2.keep (fun b hb => ⟨hb.1, Nat.lt_of_lt_of_le hb.2 hk.size⟩) (fun b hb => hk.block b hb.2 (fun f => f))⟩
  | err e a =>
    obtain ⟨⟨I, h1, h2⟩, h3⟩ := h.2
    exact ⟨⟨I, h1.kept hk, h2⟩, h3⟩
theorem bx_keptS {W W' : World} {b : Nat} {x y z : Value} {S : Nat → Prop} (h : Wb3 W b x y z) (hk : Kept S W W') (hb : ¬ S b) : Wb3 W' b x y z := h.keptS hk hb

set_option maxHeartbeats 1000000 in
theorem two78_any (w : World) (op o1 n1 o2 n2 : Int) (a1 a2 : Option Addr) (l1 c1 l2 c2 : Nat) :
    Calls Tryd.prog 78 #[.int .i64 op, .agg #[.int .i64 o1, .int .i64 n1, .slice a1 l1 c1], .agg #[.int .i64 o2, .int .i64 n2, .slice a2 l2 c2]] w fun e w' => ∃ v, e = .returned v ∧ Kept (fun _ => False) w w' ∧ ∃ op n ka kl kc, v = .agg #[.int .i64 op, .int .i64 n, .slice ka kl kc] := by
  go_enter Tryd.func78, Tryd.ntmps78
  go_wp2
  exact bodyPost_ret (v := .agg #[.int .i64 op, .int .i64 0, .slice (some ⟨w.heap.size + 1 + 1 + 1, 0, none⟩) 2 2]) (by simp [results, Tryd.results78, go_sem]) rfl ⟨_, rfl, by repeat (first | exact Kept.refl _ _ | apply Kept.alloc), _, _, _, _, _, rfl⟩
/-- two that were read, one behind the other, put together -/
theorem two78R {w1 W W2 : World} {p : Nat} {s : ByteArray} {D : Nat} {A : Int} {f : Tr} {j : Nat} {q : PRes} {fv gv : Value} (op : Int) (hF : PostR w1 p s D A (.ok f j) fv W) (hG : PostR W p s D A q gv W2) (hp : p < w1.heap.size) :
    Calls Tryd.prog 78 #[.int .i64 op, fv, gv] W2 fun e W4 => ∃ v, e = .returned v ∧ PostR w1 p s D A (q.map (binT op f)) v W4 ∧ Kept (fun _ => False) W2 W4 := by
  have h1 := hF.1.size
  have h2 := hG.1.size
  cases q with
  | ok g j2 =>
    have rf : RVS (fun b => w1.heap.size ≤ b ∧ b < W2.heap.size) W2 fv f := hF.2.2.keep (fun b hb => ⟨hb.1, by omega⟩) (fun b hb => hG.1.block b hb.2 (fun e => by have := hb.1; omega))
    have rg : RVS (fun b => w1.heap.size ≤ b ∧ b < W2.heap.size) W2 gv g := hG.2.2.keep (fun b hb => ⟨by omega, hb.2⟩) (fun _ _ => rfl)
    refine (two78 _ W2 op fv gv f g (fun b hb => hb.2) rf rg).mono ?_
    rintro e W4 ⟨v, rfl, k4, r4⟩
    have h4 := k4.size
    refine ⟨v, rfl, ⟨(hF.1.trans hG.1 (fun _ _ e => e)).trans k4 (fun _ _ f => f.elim), hG.2.1.kept k4, r4.keep (fun b hb => ?_) (fun _ _ => rfl)⟩, k4⟩
    rcases hb with hb | hb
    · exact ⟨hb.1, by omega⟩
    · exact ⟨by omega, hb.2⟩
  | err x a =>
    obtain ⟨o1, n1, a1, l1, c1, rfl⟩ := hF.agg
    obtain ⟨o2, n2, a2, l2, c2, rfl⟩ := hG.agg
    refine (two78_any W2 op o1 n1 o2 n2 a1 a2 l1 c1 l2 c2).mono ?_
    rintro e W4 ⟨v, rfl, k4, hv⟩
    obtain ⟨⟨I, hP, hI⟩, _⟩ := hG.2
    exact ⟨v, rfl, ⟨(hF.1.trans hG.1 (fun _ _ e => e)).trans k4 (fun _ _ f => f.elim), ⟨I, hP.kept k4, hI⟩, hv⟩, k4⟩

set_option maxRecDepth 100000 in
set_option maxHeartbeats 4000000 in
theorem two131 (s : ByteArray) (hs : s.size ≤ 200) (N : Nat) (ih : SaysP s N) (w : World) (p i D : Nat) (A : Int) (h : Pst w p s i D 0 A) (hi : i ≤ s.size) (hD : D ≤ 20) (hN : 8 * (s.size - i) + 2 ≤ N + 1) : CallR s 131 (.read 3) w p i D A := by
  obtain ⟨w1, hw1⟩ : ∃ w1, w1 = w.alloc (.cells #[.int .i64 0, .int .i64 0, .slice none 0 0] 30) := ⟨_, rfl⟩
  have k1 : Kept (fun _ => False) w w1 := by rw [hw1]; exact (Kept.refl _ _).alloc _
  have hr : Wb3 w1 w.heap.size (.int .i64 0) (.int .i64 0) (.slice none 0 0) := by rw [hw1]; exact Wb3.new _ _ _ _ _
  have H : Hid (Pst w1 p s i D 0 A) := h.kept k1
  have hpl := h.lt
  have IH : Hid (SaysP s N) := ih
  unfold CallR
  go_enter Tryd.func131, Tryd.ntmps131
  go_upto_region 1 with fail
  rw [← hw1]
  clear hw1 h ih
  go_upto_region 2 with (go_at_call 135; refine (IH.out.one w1 p i D A H.out hi hD (by omega)).mono ?_; rintro e w2 ⟨v, q, rfl, hps, hpost⟩; obtain ⟨o1, n1, a1, l1, c1, rfl⟩ := hpost.agg)
  obtain ⟨w3, hw3⟩ : ∃ w3, w3 = w2.alloc (.cells #[.int .i64 o1, .int .i64 n1, .slice a1 l1 c1] 30) := ⟨_, rfl⟩
  have b3 : Wb3 w3 w2.heap.size (.int .i64 o1) (.int .i64 n1) (.slice a1 l1 c1) := by rw [hw3]; exact Wb3.new _ _ _ _ _
  have hpost3 : PostR w1 p s D A q (.agg #[.int .i64 o1, .int .i64 n1, .slice a1 l1 c1]) w3 := by rw [hw3]; exact hpost.al _
  have hr3 : Wb3 w3 w.heap.size (.int .i64 0) (.int .i64 0) (.slice none 0 0) := hr.keptS hpost3.1 (by omega)
  have h12 := hpost.1.size
  have hlr := hr.1
  rw [← hw3]
  clear hw3 hpost
  have hne3 : p ≠ w2.heap.size := by omega
  generalize w2.heap.size = bf at *
  cases q with
  | err x a => as_aux_lemma =>
    obtain ⟨⟨I, hP, hI⟩, _⟩ := hpost3.2
    have hx : x ≠ 0 := by
      rcases (hps.err_place hi rfl).1 with h | h <;> omega
    have HQ : Hid (PostR w1 p s D A (.err x a) (.agg #[.int .i64 o1, .int .i64 n1, .slice a1 l1 c1]) w3) := hpost3
    have HP : Hid (Pst w3 p s I D x (a : Int)) := hP
    have HPS : Hid (PS s (.read 3) i D (.err x a)) := PS.rerr (by omega) (PS.bottom hps)
    clear hpost3 hP hps
    go_upto_region 5 with (go_at_call 77; refine (has77_no _ p s I D x a 85 hx HP.out hI hs).mono ?_; rintro e w4 ⟨rfl, hp4, k4⟩)
    have HP4 : Hid (Pst w4 p s (skipB s I) D x (a : Int)) := hp4
    have ht4 := skipB_top (s := s) hI
    clear hp4
    go_upto_region 8 with (go_at_call 77; refine (has77_no _ p s (skipB s I) D x a 82 hx HP4.out ht4 hs).mono ?_; rintro e w5 ⟨rfl, hp5, k5⟩)
    have k35 : Kept (fun k => k = p) w3 w5 := k4.trans k5 (fun _ _ e => e)
    have HQ5 : Hid (PostR w1 p s D A (.err x a) (.agg #[.int .i64 o1, .int .i64 n1, .slice a1 l1 c1]) w5) := HQ.out.onErr k35 hp5 (skipB_top ht4)
    obtain ⟨_, ⟨x0, x1, x2⟩, _⟩ := b3.keptS k35 (Ne.symm hne3)
    obtain ⟨_, ⟨y0, y1, y2⟩, y3, y4, y5⟩ := hr3.keptS k35 (by omega)
    clear hp5 k4 k5 k35
    go_wp2
    refine bodyPost_ret (v := .agg #[.int .i64 o1, .int .i64 n1, .slice a1 l1 c1]) (by simp [results, Tryd.results131, go_sem, y0, y1, y2]) rfl ⟨_, _, rfl, HPS.out, HQ5.out.fin k1 (Nat.le_refl _) hlr hpl _ _ _⟩
  | ok f i1 =>
    have hinf := hps.info hi rfl
    have hi1 : i1 ≤ s.size := hinf.2.2
    have hii : i ≤ i1 := by have := hinf.2.1; omega
    have hsk := le_skipB s i1
    have htop := skipB_top (s := s) hi1
    have HQ : Hid (PostR w1 p s D A (.ok f i1) (.agg #[.int .i64 o1, .int .i64 n1, .slice a1 l1 c1]) w3) := hpost3
    have HP : Hid (Pst w3 p s i1 D 0 A) := hpost3.2.1
    clear hpost3 hinf
    by_cases hc : byteN s (skipB s i1) = 85
    · as_aux_lemma =>
        have HPS : Hid (∀ q2, PS s (.read 3) (skipB s i1 + 1) D q2 → PS s (.read 3) i D (q2.map (binT 8 f))) := fun q2 h2 => PS.rgo (by omega) (PS.bottom hps) (PS.right (op := 8) (by rw [hc]; rfl) h2)
        have hlt : skipB s i1 < s.size := lt_of_byteN (by omega)
        go_upto_region 3 with (go_at_call 77; refine (has77_yes _ p s i1 D A 85 (by decide) hc HP.out hi1 hs).mono ?_; rintro e w5 ⟨rfl, hp5, k5⟩)
        have HP5 : Hid (Pst w5 p s (skipB s i1 + 1) D 0 A) := hp5
        have HQ5 : Hid (PostR w1 p s D A (.ok f (skipB s i1 + 1)) (.agg #[.int .i64 o1, .int .i64 n1, .slice a1 l1 c1]) w5) := HQ.out.on k5 hp5 (by omega)
        have bf5 : Wb3 w5 bf (.int .i64 o1) (.int .i64 n1) (.slice a1 l1 c1) := b3.keptS k5 (Ne.symm hne3)
        have hr5 : Wb3 w5 w.heap.size (.int .i64 0) (.int .i64 0) (.slice none 0 0) := hr3.keptS k5 (by omega)
        have h5 := HQ5.out.1.size
        clear hp5 k5 hps hc
        have hP5 := HP5.out
        go_upto_region 4 with (go_at_call 131; refine (IH.out.two w5 p (skipB s i1 + 1) D A hP5 (by omega) hD (by omega)).mono ?_; rintro e w6 ⟨v2, q2, rfl, hps2, hpost2⟩; obtain ⟨o2, n2, a2, l2, c2, rfl⟩ := hpost2.agg)
        obtain ⟨w7, hw7⟩ : ∃ w7, w7 = w6.alloc (.cells #[.int .i64 o2, .int .i64 n2, .slice a2 l2 c2] 30) := ⟨_, rfl⟩
        have b7 : Wb3 w7 w6.heap.size (.int .i64 o2) (.int .i64 n2) (.slice a2 l2 c2) := by rw [hw7]; exact Wb3.new _ _ _ _ _
        have hpost7 : PostR w5 p s D A q2 (.agg #[.int .i64 o2, .int .i64 n2, .slice a2 l2 c2]) w7 := by rw [hw7]; exact hpost2.al _
        have bf7 : Wb3 w7 bf (.int .i64 o1) (.int .i64 n1) (.slice a1 l1 c1) := bf5.keptS hpost7.1 (Ne.symm hne3)
        have hr7 : Wb3 w7 w.heap.size (.int .i64 0) (.int .i64 0) (.slice none 0 0) := hr5.keptS hpost7.1 (by omega)
        rw [← hw7]
        have h67 : w5.heap.size ≤ w6.heap.size := hpost2.1.size
        clear hw7 hpost2
        have HG : Hid (PostR w5 p s D A q2 (.agg #[.int .i64 o2, .int .i64 n2, .slice a2 l2 c2]) w7) := hpost7
        have HPS2 : Hid (PS s (.read 3) i D (q2.map (binT 8 f))) := HPS.out q2 hps2
        clear hpost7 hps2 HPS
        obtain ⟨_, ⟨x0, x1, x2⟩, _⟩ := id b7
        obtain ⟨_, ⟨z0, z1, z2⟩, _⟩ := id bf7
        go_wp2_with (go_at_call 78; refine (two78R 8 HQ5.out HG.out (by omega)).mono ?_; rintro e w8 ⟨v3, rfl, hpost8, k8⟩; obtain ⟨o3, n3, a3, l3, c3, rfl⟩ := hpost8.agg; obtain ⟨_, ⟨y0, y1, y2⟩, y3, y4, y5⟩ := hr7.kept k8; have HQ8 : Hid (PostR w1 p s D A (q2.map (binT 8 f)) (.agg #[.int .i64 o3, .int .i64 n3, .slice a3 l3 c3]) w8) := hpost8; clear hpost8)
        refine bodyPost_ret (v := .agg #[.int .i64 o3, .int .i64 n3, .slice a3 l3 c3]) (by simp [results, Tryd.results131, go_sem, y0, y1, y2]) rfl ⟨_, _, rfl, HPS2.out, HQ8.out.fin k1 (Nat.le_refl _) hlr hpl _ _ _⟩
    · by_cases hc2 : byteN s (skipB s i1) = 82
      · as_aux_lemma =>
          have hc := hc2
          have HPS : Hid (∀ q2, PS s (.read 3) (skipB s i1 + 1) D q2 → PS s (.read 3) i D (q2.map (binT 9 f))) := fun q2 h2 => PS.rgo (by omega) (PS.bottom hps) (PS.right (op := 9) (by rw [hc]; rfl) h2)
          have hlt : skipB s i1 < s.size := lt_of_byteN (by omega)
          go_upto_region 5 with (go_at_call 77; refine (has77_not _ p s i1 D A 85 (by decide) (by omega) HP.out hi1 hs).mono ?_; rintro e w4 ⟨rfl, hp4, k4⟩)
          have HP4 : Hid (Pst w4 p s (skipB s i1) D 0 A) := hp4
          have hid := skipB_idem s i1
          have HID : Hid (skipB s (skipB s i1) = skipB s i1) := hid
          clear hp4 hid
          go_upto_region 6 with (go_at_call 77; refine (has77_yes _ p s (skipB s i1) D A 82 (by decide) (by rw [HID.out]; exact hc2) HP4.out htop hs).mono ?_; rw [HID.out]; rintro e w5 ⟨rfl, hp5, k5'⟩)
          have k5 : Kept (fun k => k = p) w3 w5 := k4.trans k5' (fun _ _ e => e)
          have HP5 : Hid (Pst w5 p s (skipB s i1 + 1) D 0 A) := hp5
          have HQ5 : Hid (PostR w1 p s D A (.ok f (skipB s i1 + 1)) (.agg #[.int .i64 o1, .int .i64 n1, .slice a1 l1 c1]) w5) := HQ.out.on k5 hp5 (by omega)
          have bf5 : Wb3 w5 bf (.int .i64 o1) (.int .i64 n1) (.slice a1 l1 c1) := b3.keptS k5 (Ne.symm hne3)
          have hr5 : Wb3 w5 w.heap.size (.int .i64 0) (.int .i64 0) (.slice none 0 0) := hr3.keptS k5 (by omega)
          have h5 := HQ5.out.1.size
          clear hp5 k5 k5' k4 hps hc hc2
          have hP5 := HP5.out
          go_upto_region 7 with (go_at_call 131; refine (IH.out.two w5 p (skipB s i1 + 1) D A hP5 (by omega) hD (by omega)).mono ?_; rintro e w6 ⟨v2, q2, rfl, hps2, hpost2⟩; obtain ⟨o2, n2, a2, l2, c2, rfl⟩ := hpost2.agg)
          obtain ⟨w7, hw7⟩ : ∃ w7, w7 = w6.alloc (.cells #[.int .i64 o2, .int .i64 n2, .slice a2 l2 c2] 30) := ⟨_, rfl⟩
          have b7 : Wb3 w7 w6.heap.size (.int .i64 o2) (.int .i64 n2) (.slice a2 l2 c2) := by rw [hw7]; exact Wb3.new _ _ _ _ _
          have hpost7 : PostR w5 p s D A q2 (.agg #[.int .i64 o2, .int .i64 n2, .slice a2 l2 c2]) w7 := by rw [hw7]; exact hpost2.al _
          have bf7 : Wb3 w7 bf (.int .i64 o1) (.int .i64 n1) (.slice a1 l1 c1) := bf5.keptS hpost7.1 (Ne.symm hne3)
          have hr7 : Wb3 w7 w.heap.size (.int .i64 0) (.int .i64 0) (.slice none 0 0) := hr5.keptS hpost7.1 (by omega)
          rw [← hw7]
          have h67 : w5.heap.size ≤ w6.heap.size := hpost2.1.size
          clear hw7 hpost2
          have HG : Hid (PostR w5 p s D A q2 (.agg #[.int .i64 o2, .int .i64 n2, .slice a2 l2 c2]) w7) := hpost7
          have HPS2 : Hid (PS s (.read 3) i D (q2.map (binT 9 f))) := HPS.out q2 hps2
          clear hpost7 hps2 HPS
          obtain ⟨_, ⟨x0, x1, x2⟩, _⟩ := id b7
          obtain ⟨_, ⟨z0, z1, z2⟩, _⟩ := id bf7
          go_wp2_with (go_at_call 78; refine (two78R 9 HQ5.out HG.out (by omega)).mono ?_; rintro e w8 ⟨v3, rfl, hpost8, k8⟩; obtain ⟨o3, n3, a3, l3, c3, rfl⟩ := hpost8.agg; obtain ⟨_, ⟨y0, y1, y2⟩, y3, y4, y5⟩ := hr7.kept k8; have HQ8 : Hid (PostR w1 p s D A (q2.map (binT 9 f)) (.agg #[.int .i64 o3, .int .i64 n3, .slice a3 l3 c3]) w8) := hpost8; clear hpost8)
          refine bodyPost_ret (v := .agg #[.int .i64 o3, .int .i64 n3, .slice a3 l3 c3]) (by simp [results, Tryd.results131, go_sem, y0, y1, y2]) rfl ⟨_, _, rfl, HPS2.out, HQ8.out.fin k1 (Nat.le_refl _) hlr hpl _ _ _⟩
      · as_aux_lemma =>
          have HPS : Hid (PS s (.read 3) i D (.ok f (skipB s i1))) := PS.rgo (by omega) (PS.bottom hps) (PS.done (by unfold sgn; simp [hc, hc2]))
          go_upto_region 5 with (go_at_call 77; refine (has77_not _ p s i1 D A 85 (by decide) (by omega) HP.out hi1 hs).mono ?_; rintro e w4 ⟨rfl, hp4, k4⟩)
          have HP4 : Hid (Pst w4 p s (skipB s i1) D 0 A) := hp4
          have HID : Hid (skipB s (skipB s i1) = skipB s i1) := skipB_idem s i1
          clear hp4
          go_upto_region 8 with (go_at_call 77; refine (has77_not _ p s (skipB s i1) D A 82 (by decide) (by rw [HID.out]; omega) HP4.out htop hs).mono ?_; rw [HID.out]; rintro e w5 ⟨rfl, hp5, k5'⟩)
          have k5 : Kept (fun k => k = p) w3 w5 := k4.trans k5' (fun _ _ e => e)
          have HQ5 : Hid (PostR w1 p s D A (.ok f (skipB s i1)) (.agg #[.int .i64 o1, .int .i64 n1, .slice a1 l1 c1]) w5) := HQ.out.on k5 hp5 (by omega)
          obtain ⟨_, ⟨x0, x1, x2⟩, _⟩ := b3.keptS k5 (Ne.symm hne3)
          obtain ⟨_, ⟨y0, y1, y2⟩, y3, y4, y5⟩ := hr3.keptS k5 (by omega)
          clear hp5 k4 k5 k5'
          go_wp2
          refine bodyPost_ret (v := .agg #[.int .i64 o1, .int .i64 n1, .slice a1 l1 c1]) (by simp [results, Tryd.results131, go_sem, y0, y1, y2]) rfl ⟨_, _, rfl, HPS.out, HQ5.out.fin k1 (Nat.le_refl _) hlr hpl _ _ _⟩
end Go.Proofs.YtdbpdanocpfboaaDoor
