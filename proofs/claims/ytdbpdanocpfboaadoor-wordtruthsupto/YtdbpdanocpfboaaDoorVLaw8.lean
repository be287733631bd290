/- The walk of the law of the shortest words. -/
import Derived.Test.YtdbpdanocpfboaaDoorVAlive
namespace Go.Proofs.YtdbpdanocpfboaaDoor
open Go.RowKit

/-- what a word's shortest one is, or nothing -/
def LR (hd lp H L : List Int) : Prop := (goodW hd lp = false ∧ H = [] ∧ L = []) ∨ (goodW hd lp = true ∧ ∃ h P, Short hd lp h P ∧ H = cutW (wAt hd lp) 0 h ∧ L = cutW (wAt hd lp) h P)
theorem LR.inj {hd lp H L H' L' : List Int} (h : LR hd lp H L) (h' : LR hd lp H' L') : H = H' ∧ L = L' := by
  rcases h with ⟨g, rfl, rfl⟩ | ⟨g, h, P, s, rfl, rfl⟩ <;> rcases h' with ⟨g', rfl, rfl⟩ | ⟨g', h', P', s', rfl, rfl⟩
  · exact ⟨rfl, rfl⟩
  · rw [g] at g'; cases g'
  · rw [g] at g'; cases g'
  · obtain ⟨rfl, rfl⟩ := s.inj s' (goodW_len g).2
    exact ⟨rfl, rfl⟩
theorem LR.len {hd lp H L : List Int} (h : LR hd lp H L) : H.length ≤ 20000 ∧ L.length ≤ 20000 := by
  rcases h with ⟨g, rfl, rfl⟩ | ⟨g, h, P, s, rfl, rfl⟩
  · simp
  · have := goodW_len g
    have hP : P ≤ lp.length := Nat.le_of_dvd this.2 s.1.2.1
    have hh := s.2.1
    rw [cutW_length, cutW_length]
    omega
theorem least37n (w : World) (B : Nat) (v : Value) (hd lp : List Int) (hW : WordV B w v hd lp) (hB : B ≤ w.heap.size) :
    Calls Tryd.prog 37 #[v] w fun e w' => ∃ H L a c a' c', e = .returned (.agg #[.slice a H.length c, .slice a' L.length c']) ∧ NewS w w' a c H ∧ NewS w w' a' c' L ∧ Apart2 a a' ∧ LR hd lp H L := by
  refine (least37 w B v hd lp hW hB).mono ?_
  rintro e w' ⟨hk, ⟨h0, rfl⟩ | ⟨h0, h, P, a, c, a', c', rfl, hS, n1, n2, ap⟩⟩
  · exact ⟨[], [], none, 0, none, 0, rfl, ⟨hk, .inl ⟨rfl, rfl, rfl⟩⟩, ⟨hk, .inl ⟨rfl, rfl, rfl⟩⟩, fun _ _ _ _ e => (by cases e), .inl ⟨h0, rfl, rfl⟩⟩
  · exact ⟨_, _, a, c, a', c', by rw [cutW_length, cutW_length], n1, n2, ap, .inr ⟨h0, h, P, hS, rfl, rfl⟩⟩
theorem least38n (w : World) (B : Nat) (v : Value) (hd lp : List Int) (hW : WordV B w v hd lp) (hB : B ≤ w.heap.size) :
    Calls Tryd.prog 38 #[v] w fun e w' => ∃ H L a c a' c', e = .returned (.agg #[.slice a H.length c, .slice a' L.length c']) ∧ Kept (fun _ => False) w w' ∧ IntsV w'.heap.size w' (.slice a H.length c) H ∧ IntsV w'.heap.size w' (.slice a' L.length c') L ∧ (∀ b o, a = some ⟨b, o, none⟩ → w.heap.size ≤ b) ∧ (∀ b o, a' = some ⟨b, o, none⟩ → w.heap.size ≤ b) ∧ LR hd lp H L := by
  refine (least38 w B v hd lp hW hB).mono ?_
  rintro e w' ⟨hk, ⟨h0, rfl⟩ | ⟨h0, h, P, hv, lv, rfl, hS, g1, g2, n1, n2⟩⟩
  · exact ⟨[], [], none, 0, none, 0, rfl, hk, ⟨none, 0, rfl, Nat.le_refl _, by simp, fun i x hx => by simp at hx⟩, ⟨none, 0, rfl, Nat.le_refl _, by simp, fun i x hx => by simp at hx⟩, fun b o e => (by cases e), fun b o e => (by cases e), .inl ⟨h0, rfl, rfl⟩⟩
  · obtain ⟨a, c, rfl, _⟩ := g1.form
    obtain ⟨a', c', rfl, _⟩ := g2.form
    exact ⟨_, _, a, c, a', c', rfl, hk, g1, g2, fun b o e => n1 b (by rw [e]; rfl), fun b o e => n2 b (by rw [e]; rfl), .inr ⟨h0, h, P, hS, rfl, rfl⟩⟩

/-- a box of two -/
def Bx (W : World) (b : Nat) (x y : Value) : Prop := W.cell? ⟨b, 0, none⟩ = some x ∧ W.cell? ⟨b, 1, none⟩ = some y
theorem Bx.kept {S : Nat → Prop} {W W' : World} {b : Nat} {x y : Value} (h : Bx W b x y) (hk : Kept S W W') (hn : ¬ S b) : Bx W' b x y :=
  ⟨(hk.cell (lt_of_cell h.1) hn).trans h.1, (hk.cell (lt_of_cell h.2) hn).trans h.2⟩
theorem Bx.new (W : World) (x y : Value) (t : TypeId) : Bx (W.alloc (.cells #[x, y] t)) W.heap.size x y := ⟨by simp, by simp⟩
theorem IntsV.keptS {S : Nat → Prop} {B : Nat} {w w' : World} {a : Option Addr} {n c : Nat} {xs : List Int} (h : IntsV B w (.slice a n c) xs) (hk : Kept S w w') (hB : B ≤ w.heap.size) (hS : ∀ b o, a = some ⟨b, o, none⟩ → ¬ S b) : IntsV B w' (.slice a n c) xs := by
  obtain ⟨a', cap, e, h1, h2, h3⟩ := h
  cases e
  refine ⟨a, c, rfl, h1, h2, fun i x hx => ?_⟩
  obtain ⟨b, off, e, hb, hc⟩ := h3 i x hx
  exact ⟨b, off, e, hb, (hk.cell (p := ⟨b, off + i, none⟩) (Nat.lt_of_lt_of_le hb hB) (hS b off e)).trans hc⟩
/-- a row that may be written over -/
def Wr (W : World) (a : Option Addr) (n : Nat) : Prop := 0 < n → ∃ b, a = some ⟨b, 0, none⟩ ∧ ∀ i, i < n → (W.cell? ⟨b, i, none⟩).isSome = true ∧ W.frozen? ⟨b, i, none⟩ = false
theorem NewS.wr {w0 w : World} {a : Option Addr} {c : Nat} {xs : List Int} (h : NewS w0 w a c xs) : Wr w a xs.length := by
  intro h0
  rcases h with ⟨_, ⟨rfl, _⟩ | ⟨b, rfl, _, hI⟩⟩
  · simp at h0
  · exact ⟨b, rfl, fun i hi => hI.2.2.2.1 i (Nat.lt_of_lt_of_le hi hI.2.2.1)⟩
theorem Wr.kept {S : Nat → Prop} {W W' : World} {a : Option Addr} {n : Nat} (h : Wr W a n) (hk : Kept S W W') (hS : ∀ b o, a = some ⟨b, o, none⟩ → ¬ S b) : Wr W' a n := by
  intro h0
  obtain ⟨b, e, hc⟩ := h h0
  refine ⟨b, e, fun i hi => ?_⟩
  obtain ⟨v, hv⟩ := Option.isSome_iff_exists.1 (hc i hi).1
  have hl := lt_of_cell hv
  rw [hk.cell (p := ⟨b, i, none⟩) hl (hS b 0 e), hk.frozen (p := ⟨b, i, none⟩) hl (hS b 0 e)]
  exact hc i hi
theorem Wr.set {W : World} {b n k : Nat} (h : Wr W (some ⟨b, 0, none⟩) n) (hk : k < n) (v : Value) : Wr (W.setCell ⟨b, k, none⟩ v) (some ⟨b, 0, none⟩) n := by
  intro h0
  obtain ⟨b', e, hc⟩ := h h0
  cases e
  refine ⟨b, rfl, fun i hi => ⟨?_, ?_⟩⟩
  · by_cases e : i = k
    · subst e
      obtain ⟨u, hu⟩ := Option.isSome_iff_exists.1 (hc i hi).1
      rw [World.cell?_setCell_same _ _ _ hu]
      rfl
    · rw [World.cell?_setCell_other _ _ _ _ (fun h => e (by cases h; rfl))]
      exact (hc i hi).1
  · rw [World.frozen?_setCell]
    exact (hc i hi).2
theorem same39z (w : World) (B C : Nat) (va vb : Value) (hd lp hd' lp' : List Int) (z : Bool) (hz : sameB hd lp hd' lp' = z) (ha : WordV B w va hd lp) (hb : WordV C w vb hd' lp') (hB : B ≤ w.heap.size) (hC : C ≤ w.heap.size) :
    Calls Tryd.prog 39 #[va, vb] w fun e w' => Kept (fun _ => False) w w' ∧ e = .returned (.bool z) := by
  subst hz
  exact same39 w B C va vb hd lp hd' lp' ha hb hB hC
theorem same40z (w : World) (B C : Nat) (va vb : Value) (hd lp hd' lp' : List Int) (z : Bool) (hz : sameB hd lp hd' lp' = z) (ha : WordV B w va hd lp) (hb : WordV C w vb hd' lp') (hB : B ≤ w.heap.size) (hC : C ≤ w.heap.size) :
    Calls Tryd.prog 40 #[va, vb] w fun e w' => Kept (fun _ => False) w w' ∧ e = .returned (.bool z) := by
  subst hz
  exact same40 w B C va vb hd lp hd' lp' ha hb hB hC
theorem same35t (w : World) (B C : Nat) (va vb : Value) (hd lp : List Int) (ha : WordV B w va hd lp) (hb : WordV C w vb hd lp) (hB : B ≤ w.heap.size) (hC : C ≤ w.heap.size) :
    Calls Tryd.prog 35 #[va, vb] w fun e w' => Kept (fun _ => False) w w' ∧ e = .returned (.bool true) :=
  (same35 w B C va vb hd lp hd lp ha hb hB hC).mono fun _ _ ⟨h1, h2⟩ => ⟨h1, by rw [h2]; exact ret_bool (by simp)⟩

set_option maxRecDepth 100000 in
set_option maxHeartbeats 1000000 in
theorem law8 (w : World) (B : Nat) (va vb : Value) (hd lp hd' lp' : List Int) (ha : WordV B w va hd lp) (hb : WordV B w vb hd' lp') (hB : B ≤ w.heap.size) (hT : TabK w) (h2 : 2 ≤ w.heap.size) :
    Calls Tryd.prog 8 #[va, vb] w fun e w' => Kept (fun _ => False) w w' ∧ e = .returned (.bool true) := by
  obtain ⟨hv1, lv1, rfl, h1, h3⟩ := id ha
  obtain ⟨ha1, hc1, rfl, hl1⟩ := h1.form
  obtain ⟨la1, lc1, rfl, hl2⟩ := h3.form
  obtain ⟨hv2, lv2, rfl, h4, h5⟩ := id hb
  obtain ⟨ha2, hc2, rfl, hl3⟩ := h4.form
  obtain ⟨la2, lc2, rfl, hl4⟩ := h5.form
  obtain ⟨W0, hW0⟩ : ∃ W0, W0 = ((w.alloc (.cells #[.slice ha1 hd.length hc1, .slice la1 lp.length lc1] 48)).alloc (.cells #[.slice ha2 hd'.length hc2, .slice la2 lp'.length lc2] 48)) := ⟨_, rfl⟩
  have k0 : Kept (fun _ => False) w W0 := by rw [hW0]; exact ((Kept.refl _ _).alloc _).alloc _
  have u0 : Bx W0 w.heap.size (.slice ha1 hd.length hc1) (.slice la1 lp.length lc1) := by rw [hW0]; exact (Bx.new w _ _ 48).kept ((Kept.refl (fun _ => False) _).alloc _) (fun f => f)
  have y0 : Bx W0 (w.heap.size + 1) (.slice ha2 hd'.length hc2) (.slice la2 lp'.length lc2) := by rw [hW0]; exact ⟨by rw [World.cell?_alloc_at (hn := by simp)]; rfl, by rw [World.cell?_alloc_at (hn := by simp)]; rfl⟩
  have HA : Hid (WordV B w (.agg #[.slice ha1 hd.length hc1, .slice la1 lp.length lc1]) hd lp) := ha
  have HB : Hid (WordV B w (.agg #[.slice ha2 hd'.length hc2, .slice la2 lp'.length lc2]) hd' lp') := hb
  clear ha hb h1 h3 h4 h5
  have HA0 : Hid (WordV B W0 (.agg #[.slice ha1 hd.length hc1, .slice la1 lp.length lc1]) hd lp) := HA.out.kept k0 hB
  have hB0 : B ≤ W0.heap.size := Nat.le_trans hB k0.size
  go_enter Tryd.func8, Tryd.ntmps8
  go_upto_region 1 with fail
  rw [← hW0]
  clear hW0
  obtain ⟨u00, u01⟩ := u0
  obtain ⟨y00, y01⟩ := y0
  go_upto_region 2 with (go_at_call 26; refine (given26 _ B _ hd lp HA0.out hB0).mono ?_; rintro e w1 ⟨a1, c1, a2, c2, rfl, n1, n2, ap1⟩; have k1 := n1.1)
  -- x
  obtain ⟨W1, hW1⟩ : ∃ W1, W1 = w1.alloc (.cells #[.slice a1 hd.length c1, .slice a2 lp.length c2] 49) := ⟨_, rfl⟩
  have q1 : Kept (fun _ => False) w1 W1 := by rw [hW1]; exact (Kept.refl _ _).alloc _
  have x1 : Bx W1 w1.heap.size (.slice a1 hd.length c1) (.slice a2 lp.length c2) := by rw [hW1]; exact Bx.new w1 _ _ 49
  have hx : WordV w1.heap.size w1 (.agg #[.slice a1 hd.length c1, .slice a2 lp.length c2]) hd lp := ⟨_, _, rfl, n1.ints hl1, n2.ints hl2⟩
  rw [← hW1]
  clear hW1
  have k01 := (k1.trans q1 (fun _ _ f => f))
  have kw1 := k0.trans k01 (fun _ _ f => f)
  have u1 := Bx.kept ⟨u00, u01⟩ k01 (fun f => f)
  have y1 := Bx.kept ⟨y00, y01⟩ k01 (fun f => f)
  have HX1 : Hid (WordV W1.heap.size W1 (.agg #[.slice a1 hd.length c1, .slice a2 lp.length c2]) hd lp) := hx.new q1
  have HB1 : Hid (WordV B W1 (.agg #[.slice ha2 hd'.length hc2, .slice la2 lp'.length lc2]) hd' lp') := HB.out.kept kw1 hB
  have hB1 : B ≤ W1.heap.size := Nat.le_trans hB kw1.size
  clear u00 u01 y00 y01 HA0 hB0 n1 n2 ap1 hx k0 k01 k1 q1
  obtain ⟨y10, y11⟩ := y1
  go_upto_region 3 with (go_at_call 26; refine (given26 _ B _ hd' lp' HB1.out hB1).mono ?_; rintro e w2 ⟨a3, c3, a4, c4, rfl, n1, n2, ap1⟩; have k1 := n1.1)
  -- y
  obtain ⟨W2, hW2⟩ : ∃ W2, W2 = w2.alloc (.cells #[.slice a3 hd'.length c3, .slice a4 lp'.length c4] 49) := ⟨_, rfl⟩
  have q2 : Kept (fun _ => False) w2 W2 := by rw [hW2]; exact (Kept.refl _ _).alloc _
  have b2 : Bx W2 w2.heap.size (.slice a3 hd'.length c3) (.slice a4 lp'.length c4) := by rw [hW2]; exact Bx.new w2 _ _ 49
  have hy : WordV w2.heap.size w2 (.agg #[.slice a3 hd'.length c3, .slice a4 lp'.length c4]) hd' lp' := ⟨_, _, rfl, n1.ints hl3, n2.ints hl4⟩
  rw [← hW2]
  clear hW2
  have k12 := (k1.trans q2 (fun _ _ f => f))
  have kw2 := kw1.trans k12 (fun _ _ f => f)
  have u2 := u1.kept k12 (fun f => f)
  have y2 := Bx.kept ⟨y10, y11⟩ k12 (fun f => f)
  have x2 := x1.kept k12 (fun f => f)
  have HX2 : Hid (WordV W2.heap.size W2 (.agg #[.slice a1 hd.length c1, .slice a2 lp.length c2]) hd lp) := HX1.out.new k12
  have HY2 : Hid (WordV W2.heap.size W2 (.agg #[.slice a3 hd'.length c3, .slice a4 lp'.length c4]) hd' lp') := hy.new q2
  have s22 : w2.heap.size < W2.heap.size := lt_of_cell b2.1
  have s21 : w1.heap.size < W2.heap.size := lt_of_cell x2.1
  have s20 : w.heap.size + 1 < W2.heap.size := lt_of_cell y2.1
  clear y10 y11 HX1 HB1 hB1 n1 n2 ap1 hy k12 k1 q2 u1 x1 kw1
  obtain ⟨x20, x21⟩ := x2
  go_upto_region 4 with (go_at_call 37; refine (least37n _ W2.heap.size _ hd lp HX2.out (Nat.le_refl _)).mono ?_; rintro e w3 ⟨H, L, a5, c5, a6, c6, rfl, n1, n2, ap1, hLR⟩; have k1 := n1.1)
  -- l
  obtain ⟨W3, hW3⟩ : ∃ W3, W3 = w3.alloc (.cells #[.slice a5 H.length c5, .slice a6 L.length c6] 49) := ⟨_, rfl⟩
  have q3 : Kept (fun _ => False) w3 W3 := by rw [hW3]; exact (Kept.refl _ _).alloc _
  have l3 : Bx W3 w3.heap.size (.slice a5 H.length c5) (.slice a6 L.length c6) := by rw [hW3]; exact Bx.new w3 _ _ 49
  have hlen := hLR.len
  have HL3 : Hid (WordV W3.heap.size W3 (.agg #[.slice a5 H.length c5, .slice a6 L.length c6]) H L) := WordV.new ⟨_, _, rfl, n1.ints (by omega), n2.ints (by omega)⟩ q3
  have N5 : Hid (∀ b o, a5 = some ⟨b, o, none⟩ → W2.heap.size ≤ b ∧ b < w3.heap.size) := fun b o e => ⟨(n1.blk e).1, (n1.blk e).2.1⟩
  have N6 : Hid (∀ b o, a6 = some ⟨b, o, none⟩ → W2.heap.size ≤ b ∧ b < w3.heap.size) := fun b o e => ⟨(n2.blk e).1, (n2.blk e).2.1⟩
  have R5 : Hid (Wr W3 a5 H.length) := n1.wr.kept q3 (fun _ _ _ f => f)
  have R6 : Hid (Wr W3 a6 L.length) := n2.wr.kept q3 (fun _ _ _ f => f)
  have AP : Hid (Apart2 a5 a6) := ap1
  have HLR : Hid (LR hd lp H L) := hLR
  rw [← hW3]
  clear hW3
  have k23 := (k1.trans q3 (fun _ _ f => f))
  have kw3 := kw2.trans k23 (fun _ _ f => f)
  have u3 := u2.kept k23 (fun f => f)
  have y3 := y2.kept k23 (fun f => f)
  have x3 := Bx.kept ⟨x20, x21⟩ k23 (fun f => f)
  have b3 := b2.kept k23 (fun f => f)
  have HA3 : Hid (WordV B W3 (.agg #[.slice ha1 hd.length hc1, .slice la1 lp.length lc1]) hd lp) := HA.out.kept kw3 hB
  have hB3 : B ≤ W3.heap.size := Nat.le_trans hB kw3.size
  have s23 := k23.size
  have s33 : w3.heap.size < W3.heap.size := lt_of_cell l3.1
  clear x20 x21 n1 n2 ap1 hLR k1 q3 u2 y2 b2
  obtain ⟨u30, u31⟩ := u3
  go_upto_region 5 with (go_at_call 38; refine (least38n _ B _ hd lp HA3.out hB3).mono ?_; rintro e w4 ⟨H', L', a7, c7, a8, c8, rfl, k1, g1, g2, N7, N8, hLR'⟩; obtain ⟨rfl, rfl⟩ := LR.inj HLR.out hLR'; clear hLR')
  -- want
  obtain ⟨W4, hW4⟩ : ∃ W4, W4 = w4.alloc (.cells #[.slice a7 H.length c7, .slice a8 L.length c8] 48) := ⟨_, rfl⟩
  have q4 : Kept (fun _ => False) w4 W4 := by rw [hW4]; exact (Kept.refl _ _).alloc _
  have m4 : Bx W4 w4.heap.size (.slice a7 H.length c7) (.slice a8 L.length c8) := by rw [hW4]; exact Bx.new w4 _ _ 48
  have HV4 : Hid (WordV W4.heap.size W4 (.agg #[.slice a7 H.length c7, .slice a8 L.length c8]) H L) := WordV.new ⟨_, _, rfl, g1, g2⟩ q4
  have M7 : Hid (∀ b o, a7 = some ⟨b, o, none⟩ → W3.heap.size ≤ b) := N7
  have M8 : Hid (∀ b o, a8 = some ⟨b, o, none⟩ → W3.heap.size ≤ b) := N8
  rw [← hW4]
  clear hW4
  have k34 := (k1.trans q4 (fun _ _ f => f))
  have kw4 := kw3.trans k34 (fun _ _ f => f)
  have k24 := k23.trans k34 (fun _ _ f => f)
  have u4 := Bx.kept ⟨u30, u31⟩ k34 (fun f => f)
  have y4 := y3.kept k34 (fun f => f)
  have x4 := x3.kept k34 (fun f => f)
  have b4 := b3.kept k34 (fun f => f)
  have l4 := l3.kept k34 (fun f => f)
  have HL4 : Hid (WordV W3.heap.size W4 (.agg #[.slice a5 H.length c5, .slice a6 L.length c6]) H L) := HL3.out.kept k34 (Nat.le_refl _)
  have r5 : Hid (Wr W4 a5 H.length) := R5.out.kept k34 (fun _ _ _ f => f)
  have r6 : Hid (Wr W4 a6 L.length) := R6.out.kept k34 (fun _ _ _ f => f)
  have s44 : w4.heap.size < W4.heap.size := lt_of_cell m4.1
  have s34 : W3.heap.size ≤ w4.heap.size := k1.size
  clear u30 u31 N7 N8 k1 q4 y3 x3 b3 l3 R5 R6 HA3 hB3 HL3 g1 g2 k23 k34 kw2 kw3
  obtain ⟨l40, l41⟩ := l4
  obtain ⟨m40, m41⟩ := m4
  go_upto_region 6 with (go_at_call 35; refine (same35t _ W3.heap.size W4.heap.size _ _ H L HL4.out HV4.out (by omega) (Nat.le_refl _)).mono ?_; rintro e w5 ⟨k45, rfl⟩)
  have kw5 := kw4.trans k45 (fun _ _ f => f)
  have k25 := k24.trans k45 (fun _ _ f => f)
  have u5 := u4.kept k45 (fun f => f)
  have y5 := y4.kept k45 (fun f => f)
  have x5 := x4.kept k45 (fun f => f)
  have b5 := b4.kept k45 (fun f => f)
  have l5 := Bx.kept ⟨l40, l41⟩ k45 (fun f => f)
  have m5 := Bx.kept ⟨m40, m41⟩ k45 (fun f => f)
  have HV5 : Hid (WordV W4.heap.size w5 (.agg #[.slice a7 H.length c7, .slice a8 L.length c8]) H L) := HV4.out.kept k45 (Nat.le_refl _)
  have HX5 : Hid (WordV W2.heap.size w5 (.agg #[.slice a1 hd.length c1, .slice a2 lp.length c2]) hd lp) := HX2.out.kept k25 (Nat.le_refl _)
  have HY5 : Hid (WordV W2.heap.size w5 (.agg #[.slice a3 hd'.length c3, .slice a4 lp'.length c4]) hd' lp') := HY2.out.kept k25 (Nat.le_refl _)
  have HA5 : Hid (WordV B w5 (.agg #[.slice ha1 hd.length hc1, .slice la1 lp.length lc1]) hd lp) := HA.out.kept kw5 hB
  have HB5 : Hid (WordV B w5 (.agg #[.slice ha2 hd'.length hc2, .slice la2 lp'.length lc2]) hd' lp') := HB.out.kept kw5 hB
  have p5 : Hid (Wr w5 a5 H.length) := r5.out.kept k45 (fun _ _ _ f => f)
  have p6 : Hid (Wr w5 a6 L.length) := r6.out.kept k45 (fun _ _ _ f => f)
  have s45 := k45.size
  have s25 := k25.size
  have sB5 := Nat.le_trans hB kw5.size
  clear l40 l41 m40 m41 u4 y4 x4 b4 HL4 HV4 r5 r6 k45 kw4 k24 k25 HX2 HY2
  obtain ⟨z, hz⟩ : ∃ z, sameB hd lp hd' lp' = z := ⟨_, rfl⟩
  have HZ : Hid (sameB hd lp hd' lp' = z) := hz
  clear hz
  have hzz : (z != z) = false := by cases z <;> rfl
  have U0 : ∀ U : KW w5, U.1.cell? ⟨w.heap.size, 0, none⟩ = some (.slice ha1 hd.length hc1) := fun U => U.cell u5.1
  have U1 : ∀ U : KW w5, U.1.cell? ⟨w.heap.size, 1, none⟩ = some (.slice la1 lp.length lc1) := fun U => U.cell u5.2
  have U2 : ∀ U : KW w5, U.1.cell? ⟨w.heap.size + 1, 0, none⟩ = some (.slice ha2 hd'.length hc2) := fun U => U.cell y5.1
  have U3 : ∀ U : KW w5, U.1.cell? ⟨w.heap.size + 1, 1, none⟩ = some (.slice la2 lp'.length lc2) := fun U => U.cell y5.2
  have U4 : ∀ U : KW w5, U.1.cell? ⟨w1.heap.size, 0, none⟩ = some (.slice a1 hd.length c1) := fun U => U.cell x5.1
  have U5 : ∀ U : KW w5, U.1.cell? ⟨w1.heap.size, 1, none⟩ = some (.slice a2 lp.length c2) := fun U => U.cell x5.2
  have U6 : ∀ U : KW w5, U.1.cell? ⟨w2.heap.size, 0, none⟩ = some (.slice a3 hd'.length c3) := fun U => U.cell b5.1
  have U7 : ∀ U : KW w5, U.1.cell? ⟨w2.heap.size, 1, none⟩ = some (.slice a4 lp'.length c4) := fun U => U.cell b5.2
  refine wp_region_quiet_kept (by kernel_rfl) (by kernel_rfl) ?_
  repeat (refine wpQuiet_step (fun K hK => ?_); go_simp; first | (refine hK _ ?_; clear hK K) | (apply Exists.intro; refine ⟨fun U => ?_, hK _ ?_⟩; (first
    | (go_at_call 39; exact Calls.quiet_kept (same39z _ W2.heap.size W2.heap.size _ _ hd lp hd' lp' z HZ.out (HX5.out.kept U.2 s25) (HY5.out.kept U.2 s25) (Nat.le_trans s25 U.2.size) (Nat.le_trans s25 U.2.size)))
    | (go_at_call 40; exact Calls.quiet_kept (same40z _ B B _ _ hd lp hd' lp' z HZ.out (HA5.out.kept U.2 sB5) (HB5.out.kept U.2 sB5) (Nat.le_trans sB5 U.2.size) (Nat.le_trans sB5 U.2.size)))); clear hK K))
  refine wpQuiet_nil ?_
  intro w6 hw'
  have k56 : Kept (fun _ => False) w5 w6 := by
    obtain ⟨U, rfl⟩ := hw'
    exact U.2
  clear hw' U0 U1 U2 U3 U4 U5 U6 U7
  go_upto_region 8 with fail
  have kw6 := kw5.trans k56 (fun _ _ f => f)
  have u6 := u5.kept k56 (fun f => f)
  have y6 := y5.kept k56 (fun f => f)
  have x6 := x5.kept k56 (fun f => f)
  have b6 := b5.kept k56 (fun f => f)
  have l6 := l5.kept k56 (fun f => f)
  have m6 := m5.kept k56 (fun f => f)
  have HX6 : Hid (WordV W2.heap.size w6 (.agg #[.slice a1 hd.length c1, .slice a2 lp.length c2]) hd lp) := HX5.out.kept k56 s25
  have HY6 : Hid (WordV W2.heap.size w6 (.agg #[.slice a3 hd'.length c3, .slice a4 lp'.length c4]) hd' lp') := HY5.out.kept k56 s25
  have HV6 : Hid (WordV W4.heap.size w6 (.agg #[.slice a7 H.length c7, .slice a8 L.length c8]) H L) := HV5.out.kept k56 s45
  have R5 : Hid (Wr w6 a5 H.length) := p5.out.kept k56 (fun _ _ _ f => f)
  have R6 : Hid (Wr w6 a6 L.length) := p6.out.kept k56 (fun _ _ _ f => f)
  have s26 := Nat.le_trans s25 k56.size
  have s46 := Nat.le_trans s45 k56.size
  have HKW : Hid (Kept (fun _ => False) w w6) := kw6
  clear u5 y5 x5 b5 l5 m5 HX5 HY5 HV5 p5 p6 HA5 HB5 k56 kw5 kw6 s25 s45 sB5 HZ hzz
  have BU : Hid (Bx w6 w.heap.size (.slice ha1 hd.length hc1) (.slice la1 lp.length lc1)) := u6
  have BY : Hid (Bx w6 (w.heap.size + 1) (.slice ha2 hd'.length hc2) (.slice la2 lp'.length lc2)) := y6
  have BX : Hid (Bx w6 w1.heap.size (.slice a1 hd.length c1) (.slice a2 lp.length c2)) := x6
  have BB : Hid (Bx w6 w2.heap.size (.slice a3 hd'.length c3) (.slice a4 lp'.length c4)) := b6
  have BL : Hid (Bx w6 w3.heap.size (.slice a5 H.length c5) (.slice a6 L.length c6)) := l6
  have BM : Hid (Bx w6 w4.heap.size (.slice a7 H.length c7) (.slice a8 L.length c8)) := m6
  clear u6 y6 x6 b6 l6 m6
  go_wp2
  go_loopw [10] (fun v10 wr => ∃ k : Nat, k ≤ H.length ∧ v10 = .int .i64 (k : Int) ∧ Kept (fun b => ∃ o, a5 = some ⟨b, o, none⟩) w6 wr ∧ Wr wr a5 H.length) (fun v10 _ => H.length - (intOf v10).toNat)
  case atStart => exact ⟨0, Nat.zero_le _, rfl, Kept.refl _ _, R5.out⟩
  case round =>
    obtain ⟨k, hk, rfl, hkr, hwr⟩ := hrel
    obtain ⟨l0, l1⟩ := BL.out.kept hkr (fun ⟨o, e⟩ => by have := (N5.out _ o e).2; omega)
    by_cases hlt : k < H.length
    · have hlti : (k : Int) < (H.length : Int) := by omega
      obtain ⟨bb, e5, hcc⟩ := hwr (by omega)
      subst e5
      obtain ⟨hcs, hcf⟩ := hcc k hlt
      obtain ⟨cv, hcv⟩ := Option.isSome_iff_exists.1 hcs
      have HWR : Hid (Wr _ (some ⟨bb, 0, none⟩) H.length) := hwr
      have HKR : Hid (Kept (fun b => ∃ o, some (⟨bb, 0, none⟩ : Addr) = some ⟨b, o, none⟩) w6 _) := hkr
      clear hwr hkr hcc hcs
      go_wp2
      go_roundw
      case rel => exact ⟨k + 1, by omega, by go_num, HKR.out.setCell (fun _ => ⟨0, rfl⟩) _, HWR.out.set hlt _⟩
      case measure => simp [intOf]; omega
    · have hlti : ¬ (k : Int) < (H.length : Int) := by omega
      have HK7 : Hid (Kept (fun b => ∃ o, a5 = some ⟨b, o, none⟩) w6 wr) := hkr
      have BL7 : Hid (Bx wr w3.heap.size (.slice a5 H.length c5) (.slice a6 L.length c6)) := ⟨l0, l1⟩
      have R67 : Hid (Wr wr a6 L.length) := R6.out.kept hkr (fun b o e ⟨o', e'⟩ => AP.out b o' b o e' e rfl)
      clear hwr hkr
      generalize wr = w7 at *
      go_wp2
      clear l0 l1
      go_loopw [11] (fun v11 wr => ∃ k : Nat, k ≤ L.length ∧ v11 = .int .i64 (k : Int) ∧ Kept (fun b => ∃ o, a6 = some ⟨b, o, none⟩) w7 wr ∧ Wr wr a6 L.length) (fun v11 _ => L.length - (intOf v11).toNat)
      case atStart => exact ⟨0, Nat.zero_le _, rfl, Kept.refl _ _, R67.out⟩
      case round =>
        obtain ⟨k', hk', rfl, hkr, hwr⟩ := hrel
        obtain ⟨l0, l1⟩ := BL7.out.kept hkr (fun ⟨o, e⟩ => by have := (N6.out _ o e).2; omega)
        by_cases hlt' : k' < L.length
        · have hlti' : (k' : Int) < (L.length : Int) := by omega
          obtain ⟨bb, e5, hcc⟩ := hwr (by omega)
          subst e5
          obtain ⟨hcs, hcf⟩ := hcc k' hlt'
          obtain ⟨cv, hcv⟩ := Option.isSome_iff_exists.1 hcs
          have HWR : Hid (Wr _ (some ⟨bb, 0, none⟩) L.length) := hwr
          have HKR : Hid (Kept (fun b => ∃ o, some (⟨bb, 0, none⟩ : Addr) = some ⟨b, o, none⟩) w7 _) := hkr
          clear hwr hkr hcc hcs
          go_wp2
          go_roundw
          case rel => exact ⟨k' + 1, by omega, by go_num, HKR.out.setCell (fun _ => ⟨0, rfl⟩) _, HWR.out.set hlt' _⟩
          case measure => simp [intOf]; omega
        · have hlti' : ¬ (k' : Int) < (L.length : Int) := by omega
          have hS : ∀ b, ((∃ o, a5 = some ⟨b, o, none⟩) ∨ ∃ o, a6 = some ⟨b, o, none⟩) → W2.heap.size ≤ b ∧ b < w3.heap.size := fun b h => by
            rcases h with ⟨o, e⟩ | ⟨o, e⟩
            · exact N5.out b o e
            · exact N6.out b o e
          have K8 : Kept (fun b => (∃ o, a5 = some ⟨b, o, none⟩) ∨ ∃ o, a6 = some ⟨b, o, none⟩) w6 wr := (HK7.out.mono (fun _ _ h => .inl h)).trans hkr (fun _ _ h => .inr h)
          have hBl := K8.below s26 (fun b h => (hS b h).1)
          have HX8 : Hid (WordV W2.heap.size wr (.agg #[.slice a1 hd.length c1, .slice a2 lp.length c2]) hd lp) := HX6.out.below hBl
          have HY8 : Hid (WordV W2.heap.size wr (.agg #[.slice a3 hd'.length c3, .slice a4 lp'.length c4]) hd' lp') := HY6.out.below hBl
          have HV8 : Hid (WordV W4.heap.size wr (.agg #[.slice a7 H.length c7, .slice a8 L.length c8]) H L) := by
            obtain ⟨_, _, e, g1, g2⟩ := HV6.out
            simp only [Value.agg.injEq, Array.mk.injEq, List.cons.injEq, and_true] at e
            obtain ⟨rfl, rfl⟩ := e
            exact ⟨_, _, rfl, g1.keptS K8 s46 (fun b o e h => by have := M7.out b o e; have := (hS b h).2; omega), g2.keptS K8 s46 (fun b o e h => by have := M8.out b o e; have := (hS b h).2; omega)⟩
          have kw8 : Kept (fun _ => False) w wr := HKW.out.trans K8 (fun b hb h => by have := (hS b h).1; omega)
          have HA8 : Hid (WordV B wr (.agg #[.slice ha1 hd.length hc1, .slice la1 lp.length lc1]) hd lp) := HA.out.kept kw8 hB
          have HB8 : Hid (WordV B wr (.agg #[.slice ha2 hd'.length hc2, .slice la2 lp'.length lc2]) hd' lp') := HB.out.kept kw8 hB
          have u8 := BU.out.kept K8 (fun h => by have := (hS _ h).1; omega)
          have y8 := BY.out.kept K8 (fun h => by have := (hS _ h).1; omega)
          have x8 := BX.out.kept K8 (fun h => by have := (hS _ h).1; omega)
          have b8 := BB.out.kept K8 (fun h => by have := (hS _ h).1; omega)
          have m8 := BM.out.kept K8 (fun h => by have := (hS _ h).2; omega)
          have s28 := Nat.le_trans s26 K8.size
          have s48 := Nat.le_trans s46 K8.size
          have sB8 := Nat.le_trans hB kw8.size
          clear hBl K8 hS hkr hwr HX6 HY6 HV6 BU BY BX BB BL BM BL7 R5 R6 R67 HK7 HKW N5 N6 AP M7 M8
          generalize wr = w8 at *
          obtain ⟨u80, u81⟩ := u8
          obtain ⟨x80, x81⟩ := x8
          go_upto_region 17 with (go_at_call 35; refine (same35t _ W2.heap.size B _ _ hd lp HX8.out HA8.out s28 sB8).mono ?_; rintro e w9 ⟨k89, rfl⟩)
          have HX9 : Hid (WordV W2.heap.size w9 (.agg #[.slice a1 hd.length c1, .slice a2 lp.length c2]) hd lp) := HX8.out.kept k89 s28
          have HY9 : Hid (WordV W2.heap.size w9 (.agg #[.slice a3 hd'.length c3, .slice a4 lp'.length c4]) hd' lp') := HY8.out.kept k89 s28
          have HV9 : Hid (WordV W4.heap.size w9 (.agg #[.slice a7 H.length c7, .slice a8 L.length c8]) H L) := HV8.out.kept k89 s48
          have HB9 : Hid (WordV B w9 (.agg #[.slice ha2 hd'.length hc2, .slice la2 lp'.length lc2]) hd' lp') := HB8.out.kept k89 sB8
          have kw9 := kw8.trans k89 (fun _ _ f => f)
          obtain ⟨y90, y91⟩ := y8.kept k89 (fun f => f)
          obtain ⟨b90, b91⟩ := b8.kept k89 (fun f => f)
          have m9 := m8.kept k89 (fun f => f)
          have x9 := Bx.kept ⟨x80, x81⟩ k89 (fun f => f)
          have s29 := Nat.le_trans s28 k89.size
          have s49 := Nat.le_trans s48 k89.size
          have sB9 := Nat.le_trans sB8 k89.size
          clear HX8 HY8 HV8 HA8 HB8 kw8 k89 u80 u81 x80 x81 y8 b8 m8 s28 s48 sB8
          go_upto_region 18 with (go_at_call 35; refine (same35t _ W2.heap.size B _ _ hd' lp' HY9.out HB9.out s29 sB9).mono ?_; rintro e w10 ⟨k9, rfl⟩)
          have HX10 : Hid (WordV W2.heap.size w10 (.agg #[.slice a1 hd.length c1, .slice a2 lp.length c2]) hd lp) := HX9.out.kept k9 s29
          have HV10 : Hid (WordV W4.heap.size w10 (.agg #[.slice a7 H.length c7, .slice a8 L.length c8]) H L) := HV9.out.kept k9 s49
          have kw10 := kw9.trans k9 (fun _ _ f => f)
          have m10 := m9.kept k9 (fun f => f)
          obtain ⟨x100, x101⟩ := x9.kept k9 (fun f => f)
          have s210 := Nat.le_trans s29 k9.size
          have s410 := Nat.le_trans s49 k9.size
          clear HX9 HY9 HV9 HB9 kw9 k9 y90 y91 b90 b91 m9 x9 s29 s49 sB9
          go_upto_region 19 with (go_at_call 37; refine (least37n _ W2.heap.size _ hd lp HX10.out s210).mono ?_; rintro e w11 ⟨H', L', a9, c9, a10, c10, rfl, n1, n2, _, hLR'⟩; obtain ⟨rfl, rfl⟩ := LR.inj HLR.out hLR'; have k10 := n1.1; clear hLR')
          obtain ⟨W11, hW11⟩ : ∃ W11, W11 = w11.alloc (.cells #[.slice a9 H.length c9, .slice a10 L.length c10] 49) := ⟨_, rfl⟩
          have q11 : Kept (fun _ => False) w11 W11 := by rw [hW11]; exact (Kept.refl _ _).alloc _
          have g11 : Bx W11 w11.heap.size (.slice a9 H.length c9) (.slice a10 L.length c10) := by rw [hW11]; exact Bx.new w11 _ _ 49
          have HG11 : Hid (WordV W11.heap.size W11 (.agg #[.slice a9 H.length c9, .slice a10 L.length c10]) H L) := WordV.new ⟨_, _, rfl, n1.ints (by omega), n2.ints (by omega)⟩ q11
          rw [← hW11]
          clear hW11
          have k11 := k10.trans q11 (fun _ _ f => f)
          have kw11 := kw10.trans k11 (fun _ _ f => f)
          have HV11 : Hid (WordV W4.heap.size W11 (.agg #[.slice a7 H.length c7, .slice a8 L.length c8]) H L) := HV10.out.kept k11 s410
          obtain ⟨m110, m111⟩ := m10.kept k11 (fun f => f)
          obtain ⟨g110, g111⟩ := g11
          have s411 := Nat.le_trans s410 k11.size
          clear HX10 HV10 x100 x101 m10 n1 n2 k10 q11 k11 s210 s410 kw10
          go_upto_region 20 with (go_at_call 35; refine (same35t _ W11.heap.size W4.heap.size _ _ H L HG11.out HV11.out (Nat.le_refl _) s411).mono ?_; rintro e w12 ⟨k12, rfl⟩)
          have kw12 := kw11.trans k12 (fun _ _ f => f)
          have hT12 := hT.kept kw12
          have h12 := Nat.le_trans h2 kw12.size
          clear m110 m111 g110 g111 HG11 HV11 kw11 k12
          go_wp2_with (go_at_call 36; refine (alive36 _ hT12 h12).mono ?_; rintro e w13 ⟨k13, rfl⟩)
          go_ret
          exact ⟨kw12.trans k13 (fun _ _ f => f), rfl⟩
end Go.Proofs.YtdbpdanocpfboaaDoor
