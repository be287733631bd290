/- Walks of package word: Same. -/
import Derived.Test.YtdbpdanocpfboaaDoorVInv
import Derived.Test.YtdbpdanocpfboaaDoorVRef4
import Derived.Test.YtdbpdanocpfboaaDoorVLeast
namespace Go.Proofs.YtdbpdanocpfboaaDoor
open Go.RowKit

/-- the value t is the shortest word, in this world -/
def LeastV (W : World) (t : Value) (hd lp : List Int) : Prop := ∃ h P, Short hd lp h P ∧ WordV W.heap.size W t (cutW (wAt hd lp) 0 h) (cutW (wAt hd lp) h P)
theorem LeastV.new {W W' : World} {t : Value} {hd lp : List Int} (h : LeastV W t hd lp) (hk : Kept (fun _ => False) W W') : LeastV W' t hd lp := by
  obtain ⟨h, P, h1, h2⟩ := h
  exact ⟨h, P, h1, h2.new hk⟩
theorem LeastV.setS {W : World} {t : Value} {hd lp : List Int} (h : LeastV W t hd lp) {p : Addr} {x : Value} (hp : W.cell? p = some x) (hx : ∀ n, x ≠ .int .i64 n) (u : Value) : LeastV (W.setCell p u) t hd lp := by
  obtain ⟨h, P, h1, h2⟩ := h
  exact ⟨h, P, h1, (h2.setS hp hx u).mono (by simp [World.setCell])⟩
theorem LeastV.form {W : World} {t : Value} {hd lp : List Int} (h : LeastV W t hd lp) : ∃ a n c a' n' c', t = .agg #[.slice a n c, .slice a' n' c'] := by
  obtain ⟨h, P, h1, hv, lv, e, g1, g2⟩ := h
  obtain ⟨a, c, rfl, _⟩ := g1.form
  obtain ⟨a', c', rfl, _⟩ := g2.form
  exact ⟨_, _, _, _, _, _, e⟩
/-- a box of two slices -/
def BoxS (W : World) (k : Nat) (v : Value) : Prop := ∃ a n c a' n' c', Box2 W k (.slice a n c) (.slice a' n' c') ∧ v = .agg #[.slice a n c, .slice a' n' c']
theorem BoxS.kept {W W' : World} {k : Nat} {v : Value} (h : BoxS W k v) (hk : Kept (fun _ => False) W W') : BoxS W' k v := by
  obtain ⟨a, n, c, a', n', c', h1, h2⟩ := h
  exact ⟨a, n, c, a', n', c', h1.kept hk, h2⟩
theorem least37' (w : World) (B : Nat) (v : Value) (hd lp : List Int) (hW : WordV B w v hd lp) (hB : B ≤ w.heap.size) (hg : goodW hd lp = true) :
    Calls Tryd.prog 37 #[v] w fun e w' => ∃ t, e = .returned t ∧ Kept (fun _ => False) w w' ∧ LeastV w' t hd lp := by
  refine (least37 w B v hd lp hW hB).mono ?_
  rintro e w' ⟨hk, ⟨h0, _⟩ | ⟨_, h, P, a, c, a', c', rfl, hS, n1, n2, _⟩⟩
  · rw [hg] at h0
    cases h0
  · have hlen := goodW_len hg
    have hP : P ≤ lp.length := Nat.le_of_dvd hlen.2 hS.1.2.1
    have hh := hS.2.1
    refine ⟨_, rfl, hk, h, P, hS, _, _, rfl, ?_, ?_⟩
    · have := n1.ints (by rw [cutW_length]; omega)
      rwa [cutW_length] at this
    · have := n2.ints (by rw [cutW_length]; omega)
      rwa [cutW_length] at this
theorem BoxS.other {W : World} {k k' : Nat} {v : Value} (h : BoxS W k' v) (hne : k ≠ k') (x y : Value) : BoxS ((W.setCell ⟨k, 0, none⟩ x).setCell ⟨k, 1, none⟩ y) k' v := by
  obtain ⟨a, n, c, a', n', c', h1, h2⟩ := h
  exact ⟨a, n, c, a', n', c', (h1.other hne _).other hne _, h2⟩
theorem LeastV.set2 {W : World} {t : Value} {hd lp : List Int} (h : LeastV W t hd lp) {k : Nat} {a a' : Option Addr} {n c n' c' : Nat} (hb : Box2 W k (.slice a n c) (.slice a' n' c')) (x y : Value) : LeastV ((W.setCell ⟨k, 0, none⟩ x).setCell ⟨k, 1, none⟩ y) t hd lp := by
  obtain ⟨_, h2, h3, _, _⟩ := hb
  refine (h.setS h2 (by simp) x).setS (x := .slice a' n' c') ?_ (by simp) y
  simp [go_sem, h3]
theorem box_new (W : World) : BoxS (W.alloc (.cells #[.slice none 0 0, .slice none 0 0] 49)) W.heap.size (.agg #[.slice none 0 0, .slice none 0 0]) :=
  ⟨none, 0, 0, none, 0, 0, ⟨by simp, by simp, by simp, by simp, by simp⟩, rfl⟩
theorem ready_nil {md : Region.Mode} {ops : Array Oper} {L : Array Bool} {i : Nat} {o : Oper} (hr : Region.ready md ops L = []) (h1 : L.getD i true = false) (h2 : ops[i]? = some o) (h3 : ∀ e ∈ o.after, Region.binds md e = true → L.getD e.on false = true) : False := by
  have : i ∈ Region.ready md ops L := mem_ready.2 ⟨h1, o, h2, h3⟩
  rw [hr] at this
  cases this
theorem same_least {hd lp hd' lp' : List Int} {h P h' P' : Nat} (hg : goodW hd lp = true) (hg' : goodW hd' lp' = true) (s : Short hd lp h P) (s' : Short hd' lp' h' P') :
    sameB hd lp hd' lp' = (decide (cutW (wAt hd lp) 0 h = cutW (wAt hd' lp') 0 h') && decide (cutW (wAt hd lp) h P = cutW (wAt hd' lp') h' P')) := by
  have hi := same_iff (goodW_len hg).2 (goodW_len hg').2 s s'
  rw [Bool.eq_iff_iff, Bool.and_eq_true, decide_eq_true_iff, decide_eq_true_iff, hi]
  simp [sameB, hg, hg']

def arr39 (s : Nat) (U V t5 t6 t15 t16 t17 t18 : Value) : Array Value := #[U, V, .pointer (some ⟨s, 0, none⟩), .pointer (some ⟨s + 1, 0, none⟩), .bool false, t5, t6, U, .bool true, .bool false, .bool false, V, .bool true, .bool false, .bool false, t15, t16, t17, t18, undef, undef, undef, undef, undef, undef, undef, undef, undef, undef, undef, undef]
def I39 (w5 : World) (s : Nat) (U V : Value) (hd lp hd' lp' : List Int) (L : Array Bool) (a : Act) (W : World) : Prop :=
  ∃ (b0 b1 b2 b3 b4 b5 b6 b7 : Bool) (t5 t6 t15 t16 t17 t18 : Value), L = #[b0, b1, b2, b3, b4, b5, b6, b7] ∧ a = { tmps := arr39 s U V t5 t6 t15 t16 t17 t18, defers := [] } ∧ Kept (fun _ => False) w5 W ∧
    (b0 = true → t15 = U) ∧ (b2 = true → t17 = V) ∧ (b1 = true → LeastV W t16 hd lp) ∧ (b3 = true → LeastV W t18 hd' lp') ∧
    (b4 = true → ∃ k v, t5 = .pointer (some ⟨k, 0, none⟩) ∧ w5.heap.size ≤ k ∧ BoxS W k v ∧ (b6 = true → v = t16)) ∧ (b5 = true → ∃ k v, t6 = .pointer (some ⟨k, 0, none⟩) ∧ w5.heap.size ≤ k ∧ BoxS W k v ∧ (b7 = true → v = t18)) ∧ (b4 = true → b5 = true → t5 ≠ t6) ∧ (b6 = true → b1 = true ∧ b4 = true) ∧ (b7 = true → b3 = true ∧ b5 = true)
theorem I39.kept {w5 : World} {s : Nat} {U V : Value} {hd lp hd' lp' : List Int} {L : Array Bool} {a : Act} {W W' : World} (h : I39 w5 s U V hd lp hd' lp' L a W) (hk : Kept (fun _ => False) W W') : I39 w5 s U V hd lp hd' lp' L a W' := by
  obtain ⟨b0, b1, b2, b3, b4, b5, b6, b7, t5, t6, t15, t16, t17, t18, h1, h2, h3, h4, h5, h6, h7, h8, h9, h10, h11, h12⟩ := h
  refine ⟨b0, b1, b2, b3, b4, b5, b6, b7, t5, t6, t15, t16, t17, t18, h1, h2, h3.trans hk (fun _ _ f => f), h4, h5, fun h => (h6 h).new hk, fun h => (h7 h).new hk, fun h => ?_, fun h => ?_, h10, h11, h12⟩
  · obtain ⟨k, v, e1, e2, e3, e4⟩ := h8 h
    exact ⟨k, v, e1, e2, e3.kept hk, e4⟩
  · obtain ⟨k, v, e1, e2, e3, e4⟩ := h9 h
    exact ⟨k, v, e1, e2, e3.kept hk, e4⟩

set_option maxRecDepth 100000 in
set_option maxHeartbeats 1000000 in
theorem same39 (w : World) (B C : Nat) (va vb : Value) (hd lp hd' lp' : List Int) (ha : WordV B w va hd lp) (hb : WordV C w vb hd' lp') (hB : B ≤ w.heap.size) (hC : C ≤ w.heap.size) :
    Calls Tryd.prog 39 #[va, vb] w fun e w' => Kept (fun _ => False) w w' ∧ e = .returned (.bool (sameB hd lp hd' lp')) := by
  obtain ⟨hv1, lv1, rfl, h1, h2⟩ := id ha
  obtain ⟨ha1, hc1, rfl, hl1⟩ := h1.form
  obtain ⟨la1, lc1, rfl, hl2⟩ := h2.form
  obtain ⟨hv2, lv2, rfl, h3, h4⟩ := id hb
  obtain ⟨ha2, hc2, rfl, hl3⟩ := h3.form
  obtain ⟨la2, lc2, rfl, hl4⟩ := h4.form
  obtain ⟨W3, hW3⟩ : ∃ W3, W3 = ((w.alloc (.cells #[.slice ha1 hd.length hc1, .slice la1 lp.length lc1] 49)).alloc (.cells #[.slice ha2 hd'.length hc2, .slice la2 lp'.length lc2] 49)) := ⟨_, rfl⟩
  have hk : Kept (fun _ => False) w W3 := by rw [hW3]; exact ((Kept.refl _ _).alloc _).alloc _
  have c0 : W3.cell? ⟨w.heap.size, 0, none⟩ = some (.slice ha1 hd.length hc1) := by rw [hW3]; simp [go_sem]
  have c1 : W3.cell? ⟨w.heap.size, 1, none⟩ = some (.slice la1 lp.length lc1) := by rw [hW3]; simp [go_sem]
  have d0 : W3.cell? ⟨w.heap.size + 1, 0, none⟩ = some (.slice ha2 hd'.length hc2) := by rw [hW3, World.cell?_alloc_at (hn := by simp)]; rfl
  have d1 : W3.cell? ⟨w.heap.size + 1, 1, none⟩ = some (.slice la2 lp'.length lc2) := by rw [hW3, World.cell?_alloc_at (hn := by simp)]; rfl
  go_enter Tryd.func39, Tryd.ntmps39
  go_upto_region 1 with fail
  rw [← hW3]
  clear hW3
  have H1 : Hid (WordV B W3 _ hd lp) := ha.kept hk hB
  have H2 : Hid (WordV C W3 _ hd' lp') := hb.kept hk hC
  have hB3 := Nat.le_trans hB hk.size
  have hC3 := Nat.le_trans hC hk.size
  clear ha hb h1 h2 h3 h4
  cases hg : goodW hd lp with
  | false =>
    have HG : Hid _ := hg
    have HE : Hid (sameB hd lp hd' lp' = false) := by simp [Hid, sameB, hg]
    clear hg
    go_wp2_with (go_at_call 29; refine (good29 _ B _ hd lp H1.out hB3).mono ?_; rintro e w4 ⟨rfl, k1⟩; rw [HG.out])
    go_ret
    exact ⟨hk.trans k1 (fun _ _ f => f), ret_bool HE.out.symm⟩
  | true =>
    have HG : Hid _ := hg
    have hlen := goodW_len hg
    cases hg' : goodW hd' lp' with
    | false =>
      have HG' : Hid _ := hg'
      have HE : Hid (sameB hd lp hd' lp' = false) := by simp [Hid, sameB, hg']
      clear hg hg'
      go_wp2_with (first
        | (go_at_call_of 29 (Value.agg #[Value.slice ha1 hd.length hc1, Value.slice la1 lp.length lc1]); refine (good29 _ B _ hd lp H1.out hB3).mono ?_; rintro e w4 ⟨rfl, k1⟩; have y0 := (k1.cell (lt_of_cell d0) (fun f => f)).trans d0; have y1 := (k1.cell (lt_of_cell d1) (fun f => f)).trans d1; have G2 := H2.out.kept k1 hC3; rw [HG.out])
        | (go_at_call_of 29 (Value.agg #[Value.slice ha2 hd'.length hc2, Value.slice la2 lp'.length lc2]); refine (good29 _ C _ hd' lp' G2 (Nat.le_trans hC3 k1.size)).mono ?_; rintro e w5 ⟨rfl, k2⟩; rw [HG'.out]))
      go_ret
      exact ⟨(hk.trans k1 (fun _ _ f => f)).trans k2 (fun _ _ f => f), ret_bool HE.out.symm⟩
    | true =>
      have HG' : Hid _ := hg'
      have hlen' := goodW_len hg'
      clear hg hg'
      go_upto_region 3 with (first
        | (go_at_call_of 29 (Value.agg #[Value.slice ha1 hd.length hc1, Value.slice la1 lp.length lc1]); refine (good29 _ B _ hd lp H1.out hB3).mono ?_; rintro e w4 ⟨rfl, k1⟩; have y0 := (k1.cell (lt_of_cell d0) (fun f => f)).trans d0; have y1 := (k1.cell (lt_of_cell d1) (fun f => f)).trans d1; have G2 := H2.out.kept k1 hC3; rw [HG.out])
        | (go_at_call_of 29 (Value.agg #[Value.slice ha2 hd'.length hc2, Value.slice la2 lp'.length lc2]); refine (good29 _ C _ hd' lp' G2 (Nat.le_trans hC3 k1.size)).mono ?_; rintro e w5 ⟨rfl, k2⟩; rw [HG'.out]))
      have k3 := k1.trans k2 (fun _ _ f => f)
      have x0 := (k3.cell (lt_of_cell c0) (fun f => f)).trans c0
      have x1 := (k3.cell (lt_of_cell c1) (fun f => f)).trans c1
      have z0 := (k3.cell (lt_of_cell d0) (fun f => f)).trans d0
      have z1 := (k3.cell (lt_of_cell d1) (fun f => f)).trans d1
      have HW1 : Hid (WordV B w5 _ hd lp) := H1.out.kept k3 hB3
      have HW2 : Hid (WordV C w5 _ hd' lp') := H2.out.kept k3 hC3
      have hB5 := Nat.le_trans hB3 k3.size
      have hC5 := Nat.le_trans hC3 k3.size
      have hk5 := hk.trans k3 (fun _ _ f => f)
      clear k1 k2 y0 y1 G2 k3 c0 c1 d0 d1 H1 H2 hB3 hC3 hk
      have HK5 : Hid (Kept (fun _ => False) w w5) := hk5
      clear hk5
      refine wp_region_any (by kernel_rfl) ?_
      refine wpAny_inv (I39 w5 w.heap.size (.agg #[.slice ha1 hd.length hc1, .slice la1 lp.length lc1]) (.agg #[.slice ha2 hd'.length hc2, .slice la2 lp'.length lc2]) hd lp hd' lp') ?_ ?_ _ _ _ _ ?_ (by kernel_rfl)
      · intro L a W hI hr
        obtain ⟨b0, b1, b2, b3, b4, b5, b6, b7, t5, t6, t15, t16, t17, t18, rfl, rfl, h3, h4, h5, h6, h7, h8, h9, h10, h11, h12⟩ := hI
        have hb0 : b0 = true := by
          cases hb : b0 with
          | true => rfl
          | false =>
            subst hb
            exact (ready_nil (i := 0) hr rfl rfl (by simp)).elim
        subst hb0
        have hb1 : b1 = true := by
          cases hb : b1 with
          | true => rfl
          | false =>
            subst hb
            exact (ready_nil (i := 1) hr rfl rfl (by simp)).elim
        subst hb1
        have hb2 : b2 = true := by
          cases hb : b2 with
          | true => rfl
          | false =>
            subst hb
            exact (ready_nil (i := 2) hr rfl rfl (by simp)).elim
        subst hb2
        have hb3 : b3 = true := by
          cases hb : b3 with
          | true => rfl
          | false =>
            subst hb
            exact (ready_nil (i := 3) hr rfl rfl (by simp)).elim
        subst hb3
        have hb4 : b4 = true := by
          cases hb : b4 with
          | true => rfl
          | false =>
            subst hb
            exact (ready_nil (i := 4) hr rfl rfl (by simp)).elim
        subst hb4
        have hb5 : b5 = true := by
          cases hb : b5 with
          | true => rfl
          | false =>
            subst hb
            exact (ready_nil (i := 5) hr rfl rfl (by simp)).elim
        subst hb5
        have hb6 : b6 = true := by
          cases hb : b6 with
          | true => rfl
          | false =>
            subst hb
            exact (ready_nil (i := 6) hr rfl rfl (by simp)).elim
        subst hb6
        have hb7 : b7 = true := by
          cases hb : b7 with
          | true => rfl
          | false =>
            subst hb
            exact (ready_nil (i := 7) hr rfl rfl (by simp)).elim
        subst hb7
        obtain ⟨k, v, rfl, e2, e3, e4⟩ := h8 rfl
        obtain ⟨k', v', rfl, e2', e3', e4'⟩ := h9 rfl
        have e5 := e4 rfl
        have e5' := e4' rfl
        subst e5 e5'
        obtain ⟨a1, n1, c1, a2, n2, c2, ⟨_, m0, m1, _, _⟩, rfl⟩ := e3
        obtain ⟨a3, n3, c3, a4, n4, c4, ⟨_, m2, m3, _, _⟩, rfl⟩ := e3'
        obtain ⟨h, P, hS, _, _, e, g1, g2⟩ := h6 rfl
        simp only [Value.agg.injEq, Array.mk.injEq, List.cons.injEq, and_true] at e
        obtain ⟨rfl, rfl⟩ := e
        obtain ⟨h', P', hS', _, _, e, g1', g2'⟩ := h7 rfl
        simp only [Value.agg.injEq, Array.mk.injEq, List.cons.injEq, and_true] at e
        obtain ⟨rfl, rfl⟩ := e
        have HEQ : Hid (sameB hd lp hd' lp' = (decide (cutW (wAt hd lp) 0 h = cutW (wAt hd' lp') 0 h') && decide (cutW (wAt hd lp) h P = cutW (wAt hd' lp') h' P'))) := same_least HG.out HG'.out hS hS'
        obtain ⟨y1, hy1⟩ : ∃ x, decide (cutW (wAt hd lp) 0 h = cutW (wAt hd' lp') 0 h') = x := ⟨_, rfl⟩
        obtain ⟨y2, hy2⟩ : ∃ x, decide (cutW (wAt hd lp) h P = cutW (wAt hd' lp') h' P') = x := ⟨_, rfl⟩
        have Y1 : Hid (decide (cutW (wAt hd lp) 0 h = cutW (wAt hd' lp') 0 h') = y1) := hy1
        have Y2 : Hid (decide (cutW (wAt hd lp) h P = cutW (wAt hd' lp') h' P') = y2) := hy2
        clear hy1 hy2 hr h4 h5 h6 h7 h8 h9 h10 h11 h12 e4 e4'
        have G1 : Hid (IntsV W.heap.size W (.slice a1 n1 c1) (cutW (wAt hd lp) 0 h)) := g1
        have G2 : Hid (IntsV W.heap.size W (.slice a2 n2 c2) (cutW (wAt hd lp) h P)) := g2
        have G3 : Hid (IntsV W.heap.size W (.slice a3 n3 c3) (cutW (wAt hd' lp') 0 h')) := g1'
        have G4 : Hid (IntsV W.heap.size W (.slice a4 n4 c4) (cutW (wAt hd' lp') h' P')) := g2'
        have hkk := HK5.out.trans h3 (fun _ _ f => f)
        clear g1 g2 g1' g2'
        simp only [arr39]
        cases y1 with
        | false =>
          go_wp2_with (go_at_call 73; refine (equal73 _ W.heap.size W.heap.size _ _ _ _ G1.out G3.out (Nat.le_refl _) (Nat.le_refl _)).mono ?_; rintro e w6 ⟨k6, rfl⟩; rw [Y1.out])
          go_ret
          exact ⟨hkk.trans k6 (fun _ _ f => f), ret_bool (by rw [HEQ.out, Y1.out]; rfl)⟩
        | true =>
          go_wp2_with (first
            | (go_at_call_of 73 (Value.slice a1 n1 c1); refine (equal73 _ W.heap.size W.heap.size _ _ _ _ G1.out G3.out (Nat.le_refl _) (Nat.le_refl _)).mono ?_; rintro e w6 ⟨k6, rfl⟩; have m1' := (k6.cell (lt_of_cell m1) (fun f => f)).trans m1; have m3' := (k6.cell (lt_of_cell m3) (fun f => f)).trans m3; rw [Y1.out])
            | (go_at_call_of 73 (Value.slice a2 n2 c2); refine (equal73 _ W.heap.size W.heap.size _ _ _ _ (G2.out.kept k6 (Nat.le_refl _)) (G4.out.kept k6 (Nat.le_refl _)) k6.size k6.size).mono ?_; rintro e w7 ⟨k7, rfl⟩; rw [Y2.out]))
          go_ret
          exact ⟨(hkk.trans k6 (fun _ _ f => f)).trans k7 (fun _ _ f => f), ret_bool (by rw [HEQ.out, Y1.out, Y2.out]; rfl)⟩
      · intro L a W hI i hi K hK o ho
        obtain ⟨hL, o', ho', hall⟩ := mem_ready.1 hi
        obtain ⟨b0, b1, b2, b3, b4, b5, b6, b7, t5, t6, t15, t16, t17, t18, rfl, rfl, h3, h4, h5, h6, h7, h8, h9, h10, h11, h12⟩ := hI
        rw [ho] at ho'
        cases ho'
        have q0 := (h3.cell (lt_of_cell x0) (fun f => f)).trans x0
        have q1 := (h3.cell (lt_of_cell x1) (fun f => f)).trans x1
        have q2 := (h3.cell (lt_of_cell z0) (fun f => f)).trans z0
        have q3 := (h3.cell (lt_of_cell z1) (fun f => f)).trans z1
        clear hi
        match i, hL, ho, hall, hK with
        | 0, hL, ho, hall, hK =>
          simp only [List.getElem?_toArray, List.getElem?_cons_zero, Option.some.injEq] at ho
          subst ho
          simp only [arr39]
          go_simp
          exact hK _ _ ⟨true, b1, b2, b3, b4, b5, b6, b7, t5, t6, _, t16, t17, t18, rfl, rfl, h3, fun _ => rfl, h5, h6, h7, h8, h9, h10, h11, h12⟩
        | 1, hL, ho, hall, hK =>
          simp only [List.getElem?_toArray, List.getElem?_cons_zero, List.getElem?_cons_succ, Option.some.injEq] at ho
          subst ho
          simp only [arr39]
          have hb0 : b0 = true := by simpa using hall { on := 0, ground := Ground.data } (by simp) rfl
          have hb1 : b1 = false := by simpa using hL
          subst hb0 hb1
          have e := h4 rfl
          subst e
          have hb6 : b6 = false := by cases b6 with | false => rfl | true => exact absurd (h11 rfl).1 (by simp)
          subst hb6
          go_simp
          refine (least37' W B _ hd lp (HW1.out.kept h3 hB5) (Nat.le_trans hB5 h3.size) HG.out).mono ?_
          rintro e W' ⟨t, rfl, hk, hl⟩
          exact hK _ _ ⟨true, true, b2, b3, b4, b5, false, b7, t5, t6, _, t, t17, t18, rfl, rfl, h3.trans hk (fun _ _ f => f), h4, h5, fun _ => hl, fun h => (h7 h).new hk, fun h => by obtain ⟨k, v, e1, e2, e3, e4⟩ := h8 h; exact ⟨k, v, e1, e2, e3.kept hk, by simp⟩, fun h => by obtain ⟨k, v, e1, e2, e3, e4⟩ := h9 h; exact ⟨k, v, e1, e2, e3.kept hk, e4⟩, h10, by simp, h12⟩
        | 2, hL, ho, hall, hK =>
          simp only [List.getElem?_toArray, List.getElem?_cons_zero, List.getElem?_cons_succ, Option.some.injEq] at ho
          subst ho
          simp only [arr39]
          go_simp
          exact hK _ _ ⟨b0, b1, true, b3, b4, b5, b6, b7, t5, t6, t15, t16, _, t18, rfl, rfl, h3, h4, fun _ => rfl, h6, h7, h8, h9, h10, h11, h12⟩
        | 3, hL, ho, hall, hK =>
          simp only [List.getElem?_toArray, List.getElem?_cons_zero, List.getElem?_cons_succ, Option.some.injEq] at ho
          subst ho
          simp only [arr39]
          have hb2 : b2 = true := by simpa using hall { on := 2, ground := Ground.data } (by simp) rfl
          have hb3 : b3 = false := by simpa using hL
          subst hb2 hb3
          have e := h5 rfl
          subst e
          have hb7 : b7 = false := by cases b7 with | false => rfl | true => exact absurd (h12 rfl).1 (by simp)
          subst hb7
          go_simp
          refine (least37' W C _ hd' lp' (HW2.out.kept h3 hC5) (Nat.le_trans hC5 h3.size) HG'.out).mono ?_
          rintro e W' ⟨t, rfl, hk, hl⟩
          exact hK _ _ ⟨b0, b1, true, true, b4, b5, b6, false, t5, t6, t15, t16, _, t, rfl, rfl, h3.trans hk (fun _ _ f => f), h4, h5, fun h => (h6 h).new hk, fun _ => hl, fun h => by obtain ⟨k, v, e1, e2, e3, e4⟩ := h8 h; exact ⟨k, v, e1, e2, e3.kept hk, e4⟩, fun h => by obtain ⟨k, v, e1, e2, e3, e4⟩ := h9 h; exact ⟨k, v, e1, e2, e3.kept hk, by simp⟩, h10, h11, by simp⟩
        | 4, hL, ho, hall, hK =>
          simp only [List.getElem?_toArray, List.getElem?_cons_zero, List.getElem?_cons_succ, Option.some.injEq] at ho
          subst ho
          simp only [arr39]
          have hb4 : b4 = false := by simpa using hL
          subst hb4
          have hb6 : b6 = false := by cases b6 with | false => rfl | true => exact absurd (h11 rfl).2 (by simp)
          subst hb6
          go_simp
          have hk : Kept (fun _ => False) W (W.alloc (.cells #[.slice none 0 0, .slice none 0 0] 49)) := (Kept.refl _ _).alloc _
          exact hK _ _ ⟨b0, b1, b2, b3, true, b5, false, b7, _, t6, t15, t16, t17, t18, rfl, rfl, h3.trans hk (fun _ _ f => f), h4, h5, fun h => (h6 h).new hk, fun h => (h7 h).new hk, fun _ => ⟨W.heap.size, _, rfl, h3.size, box_new W, by simp⟩, fun h => by obtain ⟨k, v, e1, e2, e3, e4⟩ := h9 h; exact ⟨k, v, e1, e2, e3.kept hk, e4⟩, fun _ h => by
            obtain ⟨k, v, e1, e2, ⟨_, _, _, _, _, _, e3, _⟩, e4⟩ := h9 h
            have := e3.1
            intro e5
            rw [e1] at e5
            simp only [Value.pointer.injEq, Option.some.injEq, Addr.mk.injEq, and_true] at e5
            omega, by simp, h12⟩
        | 5, hL, ho, hall, hK =>
          simp only [List.getElem?_toArray, List.getElem?_cons_zero, List.getElem?_cons_succ, Option.some.injEq] at ho
          subst ho
          simp only [arr39]
          have hb5 : b5 = false := by simpa using hL
          subst hb5
          have hb7 : b7 = false := by cases b7 with | false => rfl | true => exact absurd (h12 rfl).2 (by simp)
          subst hb7
          go_simp
          have hk : Kept (fun _ => False) W (W.alloc (.cells #[.slice none 0 0, .slice none 0 0] 49)) := (Kept.refl _ _).alloc _
          exact hK _ _ ⟨b0, b1, b2, b3, b4, true, b6, false, t5, _, t15, t16, t17, t18, rfl, rfl, h3.trans hk (fun _ _ f => f), h4, h5, fun h => (h6 h).new hk, fun h => (h7 h).new hk, fun h => by obtain ⟨k, v, e1, e2, e3, e4⟩ := h8 h; exact ⟨k, v, e1, e2, e3.kept hk, e4⟩, fun _ => ⟨W.heap.size, _, rfl, h3.size, box_new W, by simp⟩, fun h _ => by
            obtain ⟨k, v, e1, e2, ⟨_, _, _, _, _, _, e3, _⟩, e4⟩ := h8 h
            have := e3.1
            intro e5
            rw [e1] at e5
            simp only [Value.pointer.injEq, Option.some.injEq, Addr.mk.injEq, and_true] at e5
            omega, h11, by simp⟩
        | 6, hL, ho, hall, hK =>
          simp only [List.getElem?_toArray, List.getElem?_cons_zero, List.getElem?_cons_succ, Option.some.injEq] at ho
          subst ho
          simp only [arr39]
          have hb1 : b1 = true := by simpa using hall { on := 1, ground := Ground.data } (by simp) rfl
          have hb4 : b4 = true := by simpa using hall { on := 4, ground := Ground.data } (by simp) rfl
          have hb5 : b5 = true := by simpa using hall { on := 5, ground := Ground.phase } (by simp) rfl
          have hb3 : b3 = true := by simpa using hall { on := 3, ground := Ground.chain } (by simp) rfl
          subst hb1 hb3 hb4 hb5
          obtain ⟨k, v, rfl, e2, ⟨_, _, _, _, _, _, e3, _⟩, _⟩ := h8 rfl
          obtain ⟨k', v', rfl, e2', e3', e4'⟩ := h9 rfl
          obtain ⟨a, n, c, a', n', c', e5⟩ := (h6 rfl).form
          subst e5
          have hne : k ≠ k' := fun e => h10 rfl rfl (by rw [e])
          obtain ⟨l1, m0, m1, f0, f1⟩ := id e3
          go_simp
          exact hK _ _ ⟨b0, true, b2, true, true, true, true, b7, _, _, t15, _, t17, t18, rfl, rfl, (h3.setCell (fun hh => by simp at hh; omega) _).setCell (fun hh => by simp at hh; omega) _, h4, h5, fun _ => (h6 rfl).set2 e3 _ _, fun _ => (h7 rfl).set2 e3 _ _, fun _ => ⟨k, _, rfl, e2, ⟨_, _, _, _, _, _, e3.store _ _, rfl⟩, fun _ => rfl⟩, fun _ => ⟨k', v', rfl, e2', e3'.other hne _ _, e4'⟩, h10, by simp, h12⟩
        | 7, hL, ho, hall, hK =>
          simp only [List.getElem?_toArray, List.getElem?_cons_zero, List.getElem?_cons_succ, Option.some.injEq] at ho
          subst ho
          simp only [arr39]
          have hb3 : b3 = true := by simpa using hall { on := 3, ground := Ground.data } (by simp) rfl
          have hb5 : b5 = true := by simpa using hall { on := 5, ground := Ground.data } (by simp) rfl
          have hb4 : b4 = true := by simpa using hall { on := 4, ground := Ground.phase } (by simp) rfl
          have hb1 : b1 = true := by simpa using hall { on := 1, ground := Ground.phase } (by simp) rfl
          subst hb1 hb3 hb4 hb5
          obtain ⟨k, v, rfl, e2, ⟨_, _, _, _, _, _, e3, _⟩, _⟩ := h9 rfl
          obtain ⟨k', v', rfl, e2', e3', e4'⟩ := h8 rfl
          obtain ⟨a, n, c, a', n', c', e5⟩ := (h7 rfl).form
          subst e5
          have hne : k ≠ k' := fun e => h10 rfl rfl (by rw [e])
          obtain ⟨l1, m0, m1, f0, f1⟩ := id e3
          go_simp
          exact hK _ _ ⟨b0, true, b2, true, true, true, b6, true, _, _, t15, t16, t17, _, rfl, rfl, (h3.setCell (fun hh => by simp at hh; omega) _).setCell (fun hh => by simp at hh; omega) _, h4, h5, fun _ => (h6 rfl).set2 e3 _ _, fun _ => (h7 rfl).set2 e3 _ _, fun _ => ⟨k', v', rfl, e2', e3'.other hne _ _, e4'⟩, fun _ => ⟨k, _, rfl, e2, ⟨_, _, _, _, _, _, e3.store _ _, rfl⟩, fun _ => rfl⟩, h10, h11, by simp⟩
        | n + 8, _, ho, hall, hK => simp at ho
      · exact ⟨false, false, false, false, false, false, false, false, undef, undef, undef, undef, undef, undef, rfl, rfl, (Kept.refl _ _).drew, by simp, by simp, by simp, by simp, by simp, by simp, by simp, by simp, by simp⟩
end Go.Proofs.YtdbpdanocpfboaaDoor
