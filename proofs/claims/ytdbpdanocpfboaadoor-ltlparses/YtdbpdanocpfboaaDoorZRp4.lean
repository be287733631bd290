import Derived.Test.YtdbpdanocpfboaaDoorZRp3
/- The document's own answer: how a text is read; rows whose signs stand between many. -/
namespace Go.Proofs.YtdbpdanocpfboaaDoor
open Go.RowKit

/-- as PostR, where nothing of the answer lies in the box bf -/
def PostX (bf : Nat) (w : World) (p : Nat) (s : ByteArray) (D : Nat) (A : Int) (r : PRes) (v : Value) (w' : World) : Prop := Kept (fun k => k = p) w w' ∧ match r with
  | .ok t j => Pst w' p s j D 0 A ∧ RVS (fun b => w.heap.size ≤ b ∧ b < w'.heap.size ∧ b ≠ bf) w' v t
  | .err x a => (∃ I, Pst w' p s I D x (a : Int) ∧ I ≤ s.size) ∧ ∃ op n ka kl kc, v = .agg #[.int .i64 op, .int .i64 n, .slice ka kl kc]
theorem PostX.agg {bf : Nat} {w : World} {p : Nat} {s : ByteArray} {D : Nat} {A : Int} {r : PRes} {v : Value} {w' : World} (h : PostX bf w p s D A r v w') : ∃ op n ka kl kc, v = .agg #[.int .i64 op, .int .i64 n, .slice ka kl kc] := by
  cases r with
  | ok t j => exact h.2.2.agg
  | err x a => exact h.2.2
theorem PostR.box {w W : World} {p : Nat} {s : ByteArray} {D : Nat} {A : Int} {q : PRes} {v : Value} (h : PostR w p s D A q v W) (o : Obj) : PostX W.heap.size w p s D A q v (W.alloc o) := by
  have hk : Kept (fun _ => False) W (W.alloc o) := (Kept.refl _ _).alloc _
  refine ⟨h.1.alloc _, ?_⟩
  cases q with
  | ok t j => exact ⟨h.2.1.kept hk, h.2.2.keep (fun b hb => ⟨hb.1, Nat.lt_of_lt_of_le hb.2 hk.size, by omega⟩) (fun b hb => hk.block b hb.2 (fun f => f))⟩
  | err e a =>
    obtain ⟨⟨I, h1, h2⟩, h3⟩ := h.2
    exact ⟨⟨I, h1.kept hk, h2⟩, h3⟩
theorem PostX.post {bf : Nat} {w W : World} {p : Nat} {s : ByteArray} {D : Nat} {A : Int} {q : PRes} {v : Value} (h : PostX bf w p s D A q v W) : PostR w p s D A q v W := by
  refine ⟨h.1, ?_⟩
  cases q with
  | ok t j => exact ⟨h.2.1, h.2.2.keep (fun b hb => ⟨hb.1, hb.2.1⟩) (fun _ _ => rfl)⟩
  | err e a => exact h.2
theorem PostX.on {bf : Nat} {w W W' : World} {p : Nat} {s : ByteArray} {D : Nat} {A : Int} {t : Tr} {j j' : Nat} {v : Value} (h : PostX bf w p s D A (.ok t j) v W) (hk : Kept (fun k => k = p) W W') (hP : Pst W' p s j' D 0 A) (hp : p < w.heap.size) : PostX bf w p s D A (.ok t j') v W' :=
  ⟨h.1.trans hk (fun _ _ e => e), hP, h.2.2.keep (fun b hb => ⟨hb.1, Nat.lt_of_lt_of_le hb.2.1 hk.size, hb.2.2⟩) (fun b hb => hk.block b hb.2.1 (fun e => by have := hb.1; omega))⟩
theorem PostX.store {bf : Nat} {w W : World} {p : Nat} {s : ByteArray} {D : Nat} {A : Int} {q : PRes} {v : Value} (h : PostX bf w p s D A q v W) (hb : w.heap.size ≤ bf) (hp : p < w.heap.size) (x y z : Value) :
    PostX bf w p s D A q v (((W.setCell ⟨bf, 0, none⟩ x).setCell ⟨bf, 1, none⟩ y).setCell ⟨bf, 2, none⟩ z) := by
  have hk : Kept (fun k => k = bf) W (((W.setCell ⟨bf, 0, none⟩ x).setCell ⟨bf, 1, none⟩ y).setCell ⟨bf, 2, none⟩ z) := (((Kept.refl (fun k => k = bf) W).setCell (p := ⟨bf, 0, none⟩) (fun _ => rfl) _).setCell (p := ⟨bf, 1, none⟩) (fun _ => rfl) _).setCell (p := ⟨bf, 2, none⟩) (fun _ => rfl) _
  have hne : p ≠ bf := by omega
  refine ⟨h.1.trans hk (fun k hk e => by omega), ?_⟩
  cases q with
  | ok t j => exact ⟨h.2.1.keptS hk hne, h.2.2.keep (fun b hb => ⟨hb.1, by simpa [World.setCell] using hb.2.1, hb.2.2⟩) (fun b hb => hk.block b hb.2.1 hb.2.2)⟩
  | err e a =>
    obtain ⟨⟨I, h1, h2⟩, h3⟩ := h.2
    exact ⟨⟨I, h1.keptS hk hne, h2⟩, h3⟩
theorem two78X {bf : Nat} {w1 W W2 : World} {p : Nat} {s : ByteArray} {D : Nat} {A : Int} {f : Tr} {j : Nat} {q : PRes} {fv gv : Value} (op : Int) (hF : PostX bf w1 p s D A (.ok f j) fv W) (hG : PostR W p s D A q gv W2) (hp : p < w1.heap.size) (hb : bf < W.heap.size) :
    Calls Tryd.prog 78 #[.int .i64 op, fv, gv] W2 fun e W4 => ∃ v, e = .returned v ∧ PostX bf w1 p s D A (q.map (binT op f)) v W4 ∧ Kept (fun _ => False) W2 W4 := by
  have h1 := hF.1.size
  have h2 := hG.1.size
  cases q with
  | ok g j2 =>
    have rf : RVS (fun b => w1.heap.size ≤ b ∧ b < W2.heap.size ∧ b ≠ bf) W2 fv f := hF.2.2.keep (fun b hb => ⟨hb.1, by omega, hb.2.2⟩) (fun b hb => hG.1.block b hb.2.1 (fun e => by have := hb.1; omega))
    have rg : RVS (fun b => w1.heap.size ≤ b ∧ b < W2.heap.size ∧ b ≠ bf) W2 gv g := hG.2.2.keep (fun b hb => ⟨by omega, hb.2, by omega⟩) (fun _ _ => rfl)
    refine (two78 _ W2 op fv gv f g (fun b hb => hb.2.1) rf rg).mono ?_
    rintro e W4 ⟨v, rfl, k4, r4⟩
    have h4 := k4.size
    refine ⟨v, rfl, ⟨(hF.1.trans hG.1 (fun _ _ e => e)).trans k4 (fun _ _ f => f.elim), hG.2.1.kept k4, r4.keep (fun b hb => ?_) (fun _ _ => rfl)⟩, k4⟩
    rcases hb with hb | hb
    · exact ⟨hb.1, by omega, hb.2.2⟩
    · exact ⟨by omega, hb.2, by omega⟩
  | err x a =>
    obtain ⟨o1, n1, a1, l1, c1, rfl⟩ := hF.agg
    obtain ⟨o2, n2, a2, l2, c2, rfl⟩ := hG.agg
    refine (two78_any W2 op o1 n1 o2 n2 a1 a2 l1 c1 l2 c2).mono ?_
    rintro e W4 ⟨v, rfl, k4, hv⟩
    obtain ⟨⟨I, hP, hI⟩, _⟩ := hG.2
    exact ⟨v, rfl, ⟨(hF.1.trans hG.1 (fun _ _ e => e)).trans k4 (fun _ _ f => f.elim), ⟨I, hP.kept k4, hI⟩, hv⟩, k4⟩
/-- what is so between two rounds -/
def LoopQ (s : ByteArray) (row i D : Nat) (k : Nat) : PRes → Prop
  | .ok f j => (∀ r, PS s (.loop row f) j D r → PS s (.read row) i D r) ∧ i ≤ j ∧ j ≤ s.size ∧ k = s.size - j + 1
  | .err x a => PS s (.read row) i D (.err x a) ∧ x ≠ 0 ∧ k = 0

set_option maxRecDepth 100000 in
set_option maxHeartbeats 4000000 in
theorem and120 (s : ByteArray) (hs : s.size ≤ 200) (N : Nat) (ih : SaysP s N) (w : World) (p i D : Nat) (A : Int) (h : Pst w p s i D 0 A) (hi : i ≤ s.size) (hD : D ≤ 20) (hN : 8 * (s.size - i) + 3 ≤ N + 1) : CallR s 120 (.read 2) w p i D A := by
  obtain ⟨w1, hw1⟩ : ∃ w1, w1 = w.alloc (.cells #[.int .i64 0, .int .i64 0, .slice none 0 0] 30) := ⟨_, rfl⟩
  have k1 : Kept (fun _ => False) w w1 := by rw [hw1]; exact (Kept.refl _ _).alloc _
  have hr : Wb3 w1 w.heap.size (.int .i64 0) (.int .i64 0) (.slice none 0 0) := by rw [hw1]; exact Wb3.new _ _ _ _ _
  have H : Hid (Pst w1 p s i D 0 A) := h.kept k1
  have hpl := h.lt
  have IH : Hid (SaysP s N) := ih
  unfold CallR
  go_enter Tryd.func120, Tryd.ntmps120
  go_upto_region 1 with fail
  rw [← hw1]
  clear hw1 h ih
  go_upto_region 2 with (go_at_call 131; refine (IH.out.two w1 p i D A H.out hi hD (by omega)).mono ?_; rintro e w2 ⟨v, q, rfl, hps, hpost⟩; obtain ⟨o1, n1, a1, l1, c1, rfl⟩ := hpost.agg)
  obtain ⟨w3, hw3⟩ : ∃ w3, w3 = w2.alloc (.cells #[.int .i64 o1, .int .i64 n1, .slice a1 l1 c1] 30) := ⟨_, rfl⟩
  have b3 : Wb3 w3 w2.heap.size (.int .i64 o1) (.int .i64 n1) (.slice a1 l1 c1) := by rw [hw3]; exact Wb3.new _ _ _ _ _
  have hpost3 : PostX w2.heap.size w1 p s D A q (.agg #[.int .i64 o1, .int .i64 n1, .slice a1 l1 c1]) w3 := by rw [hw3]; exact hpost.box _
  have hr3 : Wb3 w3 w.heap.size (.int .i64 0) (.int .i64 0) (.slice none 0 0) := hr.keptS hpost3.1 (by omega)
  have h12 := hpost.1.size
  have hlr := hr.1
  rw [← hw3]
  clear hw3 hpost
  have hne3 : p ≠ w2.heap.size := by omega
  have hner : w.heap.size ≠ w2.heap.size := by omega
  generalize w2.heap.size = bf at *
  obtain ⟨k0, hk0⟩ : ∃ k0, LoopQ s 2 i D k0 q := by
    cases q with
    | ok f j =>
      obtain ⟨_, i1, i2, _⟩ := hps.info hi rfl
      exact ⟨_, fun r hr => PS.rgo (by omega) hps hr, by omega, i2, rfl⟩
    | err x a =>
      refine ⟨_, PS.rerr (by omega) hps, ?_, rfl⟩
      rcases (hps.err_place hi rfl).1 with h | h <;> omega
  have HQ : Hid (PostX bf w1 p s D A q (.agg #[.int .i64 o1, .int .i64 n1, .slice a1 l1 c1]) w3) := hpost3
  have HK0 : Hid (LoopQ s 2 i D k0 q) := hk0
  clear hpost3 hps hk0
  go_wp2_with fail
  go_loopg [4] k0 (fun k _ wr => ∃ q o n a l c, Wb3 wr bf (.int .i64 o) (.int .i64 n) (.slice a l c) ∧ Wb3 wr w.heap.size (.int .i64 0) (.int .i64 0) (.slice none 0 0) ∧ PostX bf w1 p s D A q (.agg #[.int .i64 o, .int .i64 n, .slice a l c]) wr ∧ LoopQ s 2 i D k q)
  case atStart => exact ⟨q, o1, n1, a1, l1, c1, b3, hr3, HQ.out, HK0.out⟩
  case round =>
    clear b3 hr3 HQ HK0
    obtain ⟨q, o1, n1, a1, l1, c1, b3, hr3, hpost3, hlq⟩ := hrel
    have hws := hpost3.1.size
    cases q with
    | err x a => as_aux_lemma =>
      obtain ⟨⟨I, hP, hI⟩, _⟩ := hpost3.2
      obtain ⟨hps, hx, _⟩ := hlq
      have HQ : Hid (PostX bf w1 p s D A (.err x a) (.agg #[.int .i64 o1, .int .i64 n1, .slice a1 l1 c1]) wr) := hpost3
      have HP : Hid (Pst wr p s I D x (a : Int)) := hP
      have HPS : Hid (PS s (.read 2) i D (.err x a)) := hps
      clear hpost3 hP hps
      go_upto_region 5 with (go_at_call 77; refine (has77_no _ p s I D x a 38 hx HP.out hI hs).mono ?_; rintro e w4 ⟨rfl, hp4, k4⟩)
      have HQ5 : Hid (PostR w1 p s D A (.err x a) (.agg #[.int .i64 o1, .int .i64 n1, .slice a1 l1 c1]) w4) := HQ.out.post.onErr k4 hp4 (skipB_top hI)
      obtain ⟨_, ⟨x0, x1, x2⟩, _⟩ := b3.keptS k4 (Ne.symm hne3)
      obtain ⟨_, ⟨y0, y1, y2⟩, y3, y4, y5⟩ := hr3.keptS k4 (by omega)
      clear hp4 k4
      go_wp2
      refine bodyPost_ret (v := .agg #[.int .i64 o1, .int .i64 n1, .slice a1 l1 c1]) (by simp [results, Tryd.results120, go_sem, y0, y1, y2]) rfl ⟨_, _, rfl, HPS.out, HQ5.out.fin k1 (Nat.le_refl _) hlr hpl _ _ _⟩
    | ok f i1 =>
      obtain ⟨hps, hii, hi1, hk⟩ := hlq
      have hsk := le_skipB s i1
      have htop := skipB_top (s := s) hi1
      have HQ : Hid (PostX bf w1 p s D A (.ok f i1) (.agg #[.int .i64 o1, .int .i64 n1, .slice a1 l1 c1]) wr) := hpost3
      have HP : Hid (Pst wr p s i1 D 0 A) := hpost3.2.1
      have HPS : Hid (∀ r, PS s (.loop 2 f) i1 D r → PS s (.read 2) i D r) := hps
      have HK : Hid (gk = s.size - i1 + 1) := hk
      clear hpost3 hps hk
      by_cases hc : byteN s (skipB s i1) = 38
      · as_aux_lemma =>
          have hlt : skipB s i1 < s.size := lt_of_byteN (by omega)
          have HSG : Hid (sgn 2 (byteN s (skipB s i1)) = some 4) := by rw [Hid, hc]; rfl
          go_upto_region 3 with (go_at_call 77; refine (has77_yes _ p s i1 D A 38 (by decide) hc HP.out hi1 hs).mono ?_; rintro e w5 ⟨rfl, hp5, k5⟩)
          have HP5 : Hid (Pst w5 p s (skipB s i1 + 1) D 0 A) := hp5
          have HQ5 : Hid (PostX bf w1 p s D A (.ok f (skipB s i1 + 1)) (.agg #[.int .i64 o1, .int .i64 n1, .slice a1 l1 c1]) w5) := HQ.out.on k5 hp5 (by omega)
          have bf5 : Wb3 w5 bf (.int .i64 o1) (.int .i64 n1) (.slice a1 l1 c1) := b3.keptS k5 (Ne.symm hne3)
          have hr5 : Wb3 w5 w.heap.size (.int .i64 0) (.int .i64 0) (.slice none 0 0) := hr3.keptS k5 (by omega)
          have h5 := HQ5.out.1.size
          clear hp5 k5 hc
          go_upto_region 4 with (go_at_call 131; refine (IH.out.two w5 p (skipB s i1 + 1) D A HP5.out (by omega) hD (by omega)).mono ?_; rintro e w6 ⟨v2, q2, rfl, hps2, hpost2⟩; obtain ⟨o2, n2, a2, l2, c2, rfl⟩ := hpost2.agg)
          obtain ⟨w7, hw7⟩ : ∃ w7, w7 = w6.alloc (.cells #[.int .i64 o2, .int .i64 n2, .slice a2 l2 c2] 30) := ⟨_, rfl⟩
          have b7 : Wb3 w7 w6.heap.size (.int .i64 o2) (.int .i64 n2) (.slice a2 l2 c2) := by rw [hw7]; exact Wb3.new _ _ _ _ _
          have hpost7 : PostR w5 p s D A q2 (.agg #[.int .i64 o2, .int .i64 n2, .slice a2 l2 c2]) w7 := by rw [hw7]; exact hpost2.al _
          have bf7 : Wb3 w7 bf (.int .i64 o1) (.int .i64 n1) (.slice a1 l1 c1) := bf5.keptS hpost7.1 (Ne.symm hne3)
          have hr7 : Wb3 w7 w.heap.size (.int .i64 0) (.int .i64 0) (.slice none 0 0) := hr5.keptS hpost7.1 (by omega)
          rw [← hw7]
          have h67 : w5.heap.size ≤ w6.heap.size := hpost2.1.size
          clear hw7 hpost2
          have HG : Hid (PostR w5 p s D A q2 (.agg #[.int .i64 o2, .int .i64 n2, .slice a2 l2 c2]) w7) := hpost7
          obtain ⟨k', hk', hkl⟩ : ∃ k', LoopQ s 2 i D k' (q2.map (binT 4 f)) ∧ k' < gk := by
            have hK := HK.out
            cases q2 with
            | ok g j2 =>
              obtain ⟨_, i1', i2', _⟩ := hps2.info (by omega) rfl
              refine ⟨_, ⟨fun r hr => HPS.out r (PS.left (.inr rfl) HSG.out hps2 hr), by omega, i2', rfl⟩, by omega⟩
            | err x a =>
              refine ⟨_, ⟨HPS.out _ (PS.lerr (.inr rfl) HSG.out hps2), ?_, rfl⟩, by omega⟩
              rcases (hps2.err_place (by omega) rfl).1 with h | h <;> omega
          have HKL : Hid (LoopQ s 2 i D k' (q2.map (binT 4 f))) := hk'
          clear hpost7 hps2 hk' HPS
          obtain ⟨_, ⟨x0, x1, x2⟩, _⟩ := id b7
          obtain ⟨_, ⟨z0, z1, z2⟩, _⟩ := id bf7
          have hbl : bf < w5.heap.size := bf5.1
          go_wp2_with (go_at_call 78; refine (two78X 4 HQ5.out HG.out (by omega) hbl).mono ?_; rintro e w8 ⟨v3, rfl, hpost8, k8⟩; obtain ⟨o3, n3, a3, l3, c3, rfl⟩ := hpost8.agg; have bf8 := bf7.kept k8; have hr8 := hr7.kept k8; obtain ⟨_, ⟨t0, t1, t2⟩, t3, t4, t5⟩ := id bf8; have HQ8 : Hid (PostX bf w1 p s D A (q2.map (binT 4 f)) (.agg #[.int .i64 o3, .int .i64 n3, .slice a3 l3 c3]) w8) := hpost8; clear hpost8)
          have BF9 : Hid (Wb3 (((w8.setCell ⟨bf, 0, none⟩ (.int .i64 o3)).setCell ⟨bf, 1, none⟩ (.int .i64 n3)).setCell ⟨bf, 2, none⟩ (.slice a3 l3 c3)) bf (.int .i64 o3) (.int .i64 n3) (.slice a3 l3 c3)) := bf8.store _ _ _
          have HR9 : Hid (Wb3 (((w8.setCell ⟨bf, 0, none⟩ (.int .i64 o3)).setCell ⟨bf, 1, none⟩ (.int .i64 n3)).setCell ⟨bf, 2, none⟩ (.slice a3 l3 c3)) w.heap.size (.int .i64 0) (.int .i64 0) (.slice none 0 0)) := hr8.other3 (Ne.symm hner) _ _ _
          have HQ9 : Hid (PostX bf w1 p s D A (q2.map (binT 4 f)) (.agg #[.int .i64 o3, .int .i64 n3, .slice a3 l3 c3]) (((w8.setCell ⟨bf, 0, none⟩ (.int .i64 o3)).setCell ⟨bf, 1, none⟩ (.int .i64 n3)).setCell ⟨bf, 2, none⟩ (.slice a3 l3 c3))) := HQ8.out.store h12 (by omega) _ _ _
          clear t0 t1 t2 t3 t4 t5 bf8 hr8
          go_roundg k'
          case measure => exact hkl
          case rel => exact ⟨_, o3, n3, a3, l3, c3, BF9.out, HR9.out, HQ9.out, HKL.out⟩
      · as_aux_lemma =>
          have HPS2 : Hid (PS s (.read 2) i D (.ok f (skipB s i1))) := HPS.out _ (PS.done (by unfold sgn; simp [hc]))
          go_upto_region 5 with (go_at_call 77; refine (has77_not _ p s i1 D A 38 (by decide) (by omega) HP.out hi1 hs).mono ?_; rintro e w4 ⟨rfl, hp4, k4⟩)
          have HQ5 : Hid (PostR w1 p s D A (.ok f (skipB s i1)) (.agg #[.int .i64 o1, .int .i64 n1, .slice a1 l1 c1]) w4) := (HQ.out.on k4 hp4 (by omega)).post
          obtain ⟨_, ⟨x0, x1, x2⟩, _⟩ := b3.keptS k4 (Ne.symm hne3)
          obtain ⟨_, ⟨y0, y1, y2⟩, y3, y4, y5⟩ := hr3.keptS k4 (by omega)
          clear hp4 k4
          go_wp2
          refine bodyPost_ret (v := .agg #[.int .i64 o1, .int .i64 n1, .slice a1 l1 c1]) (by simp [results, Tryd.results120, go_sem, y0, y1, y2]) rfl ⟨_, _, rfl, HPS2.out, HQ5.out.fin k1 (Nat.le_refl _) hlr hpl _ _ _⟩

set_option maxRecDepth 100000 in
set_option maxHeartbeats 4000000 in
theorem or76 (s : ByteArray) (hs : s.size ≤ 200) (N : Nat) (ih : SaysP s N) (w : World) (p i D : Nat) (A : Int) (h : Pst w p s i D 0 A) (hi : i ≤ s.size) (hD : D ≤ 20) (hN : 8 * (s.size - i) + 4 ≤ N + 1) : CallR s 76 (.read 1) w p i D A := by
  obtain ⟨w1, hw1⟩ : ∃ w1, w1 = w.alloc (.cells #[.int .i64 0, .int .i64 0, .slice none 0 0] 30) := ⟨_, rfl⟩
  have k1 : Kept (fun _ => False) w w1 := by rw [hw1]; exact (Kept.refl _ _).alloc _
  have hr : Wb3 w1 w.heap.size (.int .i64 0) (.int .i64 0) (.slice none 0 0) := by rw [hw1]; exact Wb3.new _ _ _ _ _
  have H : Hid (Pst w1 p s i D 0 A) := h.kept k1
  have hpl := h.lt
  have IH : Hid (SaysP s N) := ih
  unfold CallR
  go_enter Tryd.func76, Tryd.ntmps76
  go_upto_region 1 with fail
  rw [← hw1]
  clear hw1 h ih
  go_upto_region 2 with (go_at_call 120; refine (IH.out.and w1 p i D A H.out hi hD (by omega)).mono ?_; rintro e w2 ⟨v, q, rfl, hps, hpost⟩; obtain ⟨o1, n1, a1, l1, c1, rfl⟩ := hpost.agg)
  obtain ⟨w3, hw3⟩ : ∃ w3, w3 = w2.alloc (.cells #[.int .i64 o1, .int .i64 n1, .slice a1 l1 c1] 30) := ⟨_, rfl⟩
  have b3 : Wb3 w3 w2.heap.size (.int .i64 o1) (.int .i64 n1) (.slice a1 l1 c1) := by rw [hw3]; exact Wb3.new _ _ _ _ _
  have hpost3 : PostX w2.heap.size w1 p s D A q (.agg #[.int .i64 o1, .int .i64 n1, .slice a1 l1 c1]) w3 := by rw [hw3]; exact hpost.box _
  have hr3 : Wb3 w3 w.heap.size (.int .i64 0) (.int .i64 0) (.slice none 0 0) := hr.keptS hpost3.1 (by omega)
  have h12 := hpost.1.size
  have hlr := hr.1
  rw [← hw3]
  clear hw3 hpost
  have hne3 : p ≠ w2.heap.size := by omega
  have hner : w.heap.size ≠ w2.heap.size := by omega
  generalize w2.heap.size = bf at *
  obtain ⟨k0, hk0⟩ : ∃ k0, LoopQ s 1 i D k0 q := by
    cases q with
    | ok f j =>
      obtain ⟨_, i1, i2, _⟩ := hps.info hi rfl
      exact ⟨_, fun r hr => PS.rgo (by omega) hps hr, by omega, i2, rfl⟩
    | err x a =>
      refine ⟨_, PS.rerr (by omega) hps, ?_, rfl⟩
      rcases (hps.err_place hi rfl).1 with h | h <;> omega
  have HQ : Hid (PostX bf w1 p s D A q (.agg #[.int .i64 o1, .int .i64 n1, .slice a1 l1 c1]) w3) := hpost3
  have HK0 : Hid (LoopQ s 1 i D k0 q) := hk0
  clear hpost3 hps hk0
  go_wp2_with fail
  go_loopg [4] k0 (fun k _ wr => ∃ q o n a l c, Wb3 wr bf (.int .i64 o) (.int .i64 n) (.slice a l c) ∧ Wb3 wr w.heap.size (.int .i64 0) (.int .i64 0) (.slice none 0 0) ∧ PostX bf w1 p s D A q (.agg #[.int .i64 o, .int .i64 n, .slice a l c]) wr ∧ LoopQ s 1 i D k q)
  case atStart => exact ⟨q, o1, n1, a1, l1, c1, b3, hr3, HQ.out, HK0.out⟩
  case round =>
    clear b3 hr3 HQ HK0
    obtain ⟨q, o1, n1, a1, l1, c1, b3, hr3, hpost3, hlq⟩ := hrel
    have hws := hpost3.1.size
    cases q with
    | err x a => as_aux_lemma =>
      obtain ⟨⟨I, hP, hI⟩, _⟩ := hpost3.2
      obtain ⟨hps, hx, _⟩ := hlq
      have HQ : Hid (PostX bf w1 p s D A (.err x a) (.agg #[.int .i64 o1, .int .i64 n1, .slice a1 l1 c1]) wr) := hpost3
      have HP : Hid (Pst wr p s I D x (a : Int)) := hP
      have HPS : Hid (PS s (.read 1) i D (.err x a)) := hps
      clear hpost3 hP hps
      go_upto_region 5 with (go_at_call 77; refine (has77_no _ p s I D x a 124 hx HP.out hI hs).mono ?_; rintro e w4 ⟨rfl, hp4, k4⟩)
      have HQ5 : Hid (PostR w1 p s D A (.err x a) (.agg #[.int .i64 o1, .int .i64 n1, .slice a1 l1 c1]) w4) := HQ.out.post.onErr k4 hp4 (skipB_top hI)
      obtain ⟨_, ⟨x0, x1, x2⟩, _⟩ := b3.keptS k4 (Ne.symm hne3)
      obtain ⟨_, ⟨y0, y1, y2⟩, y3, y4, y5⟩ := hr3.keptS k4 (by omega)
      clear hp4 k4
      go_wp2
      refine bodyPost_ret (v := .agg #[.int .i64 o1, .int .i64 n1, .slice a1 l1 c1]) (by simp [results, Tryd.results76, go_sem, y0, y1, y2]) rfl ⟨_, _, rfl, HPS.out, HQ5.out.fin k1 (Nat.le_refl _) hlr hpl _ _ _⟩
    | ok f i1 =>
      obtain ⟨hps, hii, hi1, hk⟩ := hlq
      have hsk := le_skipB s i1
      have htop := skipB_top (s := s) hi1
      have HQ : Hid (PostX bf w1 p s D A (.ok f i1) (.agg #[.int .i64 o1, .int .i64 n1, .slice a1 l1 c1]) wr) := hpost3
      have HP : Hid (Pst wr p s i1 D 0 A) := hpost3.2.1
      have HPS : Hid (∀ r, PS s (.loop 1 f) i1 D r → PS s (.read 1) i D r) := hps
      have HK : Hid (gk = s.size - i1 + 1) := hk
      clear hpost3 hps hk
      by_cases hc : byteN s (skipB s i1) = 124
      · as_aux_lemma =>
          have hlt : skipB s i1 < s.size := lt_of_byteN (by omega)
          have HSG : Hid (sgn 1 (byteN s (skipB s i1)) = some 5) := by rw [Hid, hc]; rfl
          go_upto_region 3 with (go_at_call 77; refine (has77_yes _ p s i1 D A 124 (by decide) hc HP.out hi1 hs).mono ?_; rintro e w5 ⟨rfl, hp5, k5⟩)
          have HP5 : Hid (Pst w5 p s (skipB s i1 + 1) D 0 A) := hp5
          have HQ5 : Hid (PostX bf w1 p s D A (.ok f (skipB s i1 + 1)) (.agg #[.int .i64 o1, .int .i64 n1, .slice a1 l1 c1]) w5) := HQ.out.on k5 hp5 (by omega)
          have bf5 : Wb3 w5 bf (.int .i64 o1) (.int .i64 n1) (.slice a1 l1 c1) := b3.keptS k5 (Ne.symm hne3)
          have hr5 : Wb3 w5 w.heap.size (.int .i64 0) (.int .i64 0) (.slice none 0 0) := hr3.keptS k5 (by omega)
          have h5 := HQ5.out.1.size
          clear hp5 k5 hc
          go_upto_region 4 with (go_at_call 120; refine (IH.out.and w5 p (skipB s i1 + 1) D A HP5.out (by omega) hD (by omega)).mono ?_; rintro e w6 ⟨v2, q2, rfl, hps2, hpost2⟩; obtain ⟨o2, n2, a2, l2, c2, rfl⟩ := hpost2.agg)
          obtain ⟨w7, hw7⟩ : ∃ w7, w7 = w6.alloc (.cells #[.int .i64 o2, .int .i64 n2, .slice a2 l2 c2] 30) := ⟨_, rfl⟩
          have b7 : Wb3 w7 w6.heap.size (.int .i64 o2) (.int .i64 n2) (.slice a2 l2 c2) := by rw [hw7]; exact Wb3.new _ _ _ _ _
          have hpost7 : PostR w5 p s D A q2 (.agg #[.int .i64 o2, .int .i64 n2, .slice a2 l2 c2]) w7 := by rw [hw7]; exact hpost2.al _
          have bf7 : Wb3 w7 bf (.int .i64 o1) (.int .i64 n1) (.slice a1 l1 c1) := bf5.keptS hpost7.1 (Ne.symm hne3)
          have hr7 : Wb3 w7 w.heap.size (.int .i64 0) (.int .i64 0) (.slice none 0 0) := hr5.keptS hpost7.1 (by omega)
          rw [← hw7]
          have h67 : w5.heap.size ≤ w6.heap.size := hpost2.1.size
          clear hw7 hpost2
          have HG : Hid (PostR w5 p s D A q2 (.agg #[.int .i64 o2, .int .i64 n2, .slice a2 l2 c2]) w7) := hpost7
          obtain ⟨k', hk', hkl⟩ : ∃ k', LoopQ s 1 i D k' (q2.map (binT 5 f)) ∧ k' < gk := by
            have hK := HK.out
            cases q2 with
            | ok g j2 =>
              obtain ⟨_, i1', i2', _⟩ := hps2.info (by omega) rfl
              refine ⟨_, ⟨fun r hr => HPS.out r (PS.left (.inl rfl) HSG.out hps2 hr), by omega, i2', rfl⟩, by omega⟩
            | err x a =>
              refine ⟨_, ⟨HPS.out _ (PS.lerr (.inl rfl) HSG.out hps2), ?_, rfl⟩, by omega⟩
              rcases (hps2.err_place (by omega) rfl).1 with h | h <;> omega
          have HKL : Hid (LoopQ s 1 i D k' (q2.map (binT 5 f))) := hk'
          clear hpost7 hps2 hk' HPS
          obtain ⟨_, ⟨x0, x1, x2⟩, _⟩ := id b7
          obtain ⟨_, ⟨z0, z1, z2⟩, _⟩ := id bf7
          have hbl : bf < w5.heap.size := bf5.1
          go_wp2_with (go_at_call 78; refine (two78X 5 HQ5.out HG.out (by omega) hbl).mono ?_; rintro e w8 ⟨v3, rfl, hpost8, k8⟩; obtain ⟨o3, n3, a3, l3, c3, rfl⟩ := hpost8.agg; have bf8 := bf7.kept k8; have hr8 := hr7.kept k8; obtain ⟨_, ⟨t0, t1, t2⟩, t3, t4, t5⟩ := id bf8; have HQ8 : Hid (PostX bf w1 p s D A (q2.map (binT 5 f)) (.agg #[.int .i64 o3, .int .i64 n3, .slice a3 l3 c3]) w8) := hpost8; clear hpost8)
          have BF9 : Hid (Wb3 (((w8.setCell ⟨bf, 0, none⟩ (.int .i64 o3)).setCell ⟨bf, 1, none⟩ (.int .i64 n3)).setCell ⟨bf, 2, none⟩ (.slice a3 l3 c3)) bf (.int .i64 o3) (.int .i64 n3) (.slice a3 l3 c3)) := bf8.store _ _ _
          have HR9 : Hid (Wb3 (((w8.setCell ⟨bf, 0, none⟩ (.int .i64 o3)).setCell ⟨bf, 1, none⟩ (.int .i64 n3)).setCell ⟨bf, 2, none⟩ (.slice a3 l3 c3)) w.heap.size (.int .i64 0) (.int .i64 0) (.slice none 0 0)) := hr8.other3 (Ne.symm hner) _ _ _
          have HQ9 : Hid (PostX bf w1 p s D A (q2.map (binT 5 f)) (.agg #[.int .i64 o3, .int .i64 n3, .slice a3 l3 c3]) (((w8.setCell ⟨bf, 0, none⟩ (.int .i64 o3)).setCell ⟨bf, 1, none⟩ (.int .i64 n3)).setCell ⟨bf, 2, none⟩ (.slice a3 l3 c3))) := HQ8.out.store h12 (by omega) _ _ _
          clear t0 t1 t2 t3 t4 t5 bf8 hr8
          go_roundg k'
          case measure => exact hkl
          case rel => exact ⟨_, o3, n3, a3, l3, c3, BF9.out, HR9.out, HQ9.out, HKL.out⟩
      · as_aux_lemma =>
          have HPS2 : Hid (PS s (.read 1) i D (.ok f (skipB s i1))) := HPS.out _ (PS.done (by unfold sgn; simp [hc]))
          go_upto_region 5 with (go_at_call 77; refine (has77_not _ p s i1 D A 124 (by decide) (by omega) HP.out hi1 hs).mono ?_; rintro e w4 ⟨rfl, hp4, k4⟩)
          have HQ5 : Hid (PostR w1 p s D A (.ok f (skipB s i1)) (.agg #[.int .i64 o1, .int .i64 n1, .slice a1 l1 c1]) w4) := (HQ.out.on k4 hp4 (by omega)).post
          obtain ⟨_, ⟨x0, x1, x2⟩, _⟩ := b3.keptS k4 (Ne.symm hne3)
          obtain ⟨_, ⟨y0, y1, y2⟩, y3, y4, y5⟩ := hr3.keptS k4 (by omega)
          clear hp4 k4
          go_wp2
          refine bodyPost_ret (v := .agg #[.int .i64 o1, .int .i64 n1, .slice a1 l1 c1]) (by simp [results, Tryd.results76, go_sem, y0, y1, y2]) rfl ⟨_, _, rfl, HPS2.out, HQ5.out.fin k1 (Nat.le_refl _) hlr hpl _ _ _⟩
end Go.Proofs.YtdbpdanocpfboaaDoor
