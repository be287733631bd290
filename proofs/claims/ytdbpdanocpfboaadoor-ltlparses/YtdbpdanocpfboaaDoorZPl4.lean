import Derived.Test.YtdbpdanocpfboaaDoorZPl3
import Derived.Test.YtdbpdanocpfboaaDoorZBun03
/- What is plain, laid out: both. -/
namespace Go.Proofs.YtdbpdanocpfboaaDoor
open Go.RowKit

theorem Grown.refl {c : Lc} {w : World} {nv : Value} {ns : List Nd} (h : LSt c w nv ns) : Grown c 0 w nv ns w nv ns :=
  ⟨h.li, h.ord, List.prefix_refl _, by omega, fun _ hj => .inl hj, Kept.refl _ _, fun h => h⟩
theorem Grown.keep {c : Lc} {k : Nat} {W W' W2 : World} {nv nv' : Value} {ns ns' : List Nd} (g : Grown c k W nv ns W' nv' ns') (hk : Kept (fun _ => False) W' W2) : Grown c k W nv ns W2 nv' ns' :=
  { g with li := g.li.keep hk (fun _ _ f => f), kept := g.kept.trans hk (fun _ _ f => f.elim) }
/-- what was answered is stored in the box -/
theorem Grown.store {c : Lc} {k : Nat} {w w1 W' : World} {nv nv' : Value} {ns ns' : List Nd} (g : Grown c k w1 nv ns W' nv' ns') (hs : LSt c w1 nv ns) (hk : Kept (fun _ => False) w w1) (hr : w.heap.size ≤ c.r) (a b : Value) (r' : Nat) : Grown ⟨c.base, c.L, c.bm, r'⟩ k w nv ns ((W'.setCell ⟨c.r, 0, none⟩ a).setCell ⟨c.r, 1, none⟩ b) nv' ns' := by
  have hs' := g.st hs
  have hks : Kept (fun k => k = c.r) W' ((W'.setCell ⟨c.r, 0, none⟩ a).setCell ⟨c.r, 1, none⟩ b) := ((Kept.refl (fun k => k = c.r) W').setCell (p := ⟨c.r, 0, none⟩) (fun _ => rfl) _).setCell (p := ⟨c.r, 1, none⟩) (fun _ => rfl) _
  exact { li := g.li.keep hks (by
            rintro k (e | e | e) rfl
            · exact hs'.rl e
            · exact hs'.rm e
            · exact hs'.rn e.symm)
          ord := g.ord, pre := g.pre, len := g.len, nd := g.nd
          own := fun j hj => (g.own j hj).imp id (fun h => Nat.le_trans hk.size h)
          kept := ((hk.mono (T := LSet c.L c.bm nv) (fun _ _ f => f.elim)).trans g.kept (fun k _ e => e)).trans hks (fun k hk' e => by omega) }
theorem Grown.after {c : Lc} {k n : Nat} {w w1 W W2 : World} {nv nv' nv2 : Value} {ns ns' ns2 : List Nd} (g : Grown c k w1 nv ns W nv' ns') (h : JL c W nv' ns' n W2 nv2 ns2) (hk : Kept (fun _ => False) w w1) (hr : w.heap.size ≤ c.r) (r' : Nat) : Grown ⟨c.base, c.L, c.bm, r'⟩ (k + n) w nv ns W2 nv2 ns2 :=
  { li := h.st.li, ord := h.st.ord, pre := g.pre.trans h.pre, nd := fun h0 => h.nd (g.nd h0), len := by have := h.len; have := g.len; omega
    own := fun j hj => by
      rcases h.own j hj with e | e
      · exact (g.own j e).imp id (fun h => Nat.le_trans hk.size h)
      · exact .inr (Nat.le_trans hk.size (Nat.le_trans g.kept.size e))
    kept := ((hk.mono (T := LSet c.L c.bm nv) (fun _ _ f => f.elim)).trans g.kept (fun k _ e => e)).trans h.kept (fun j hj e => by
      rcases e with (e | e | e) | e
      · exact .inl e
      · exact .inr (.inl e)
      · rcases g.own j e with e | e
        · exact .inr (.inr e)
        · have := hk.size; omega
      · omega) }
theorem LSt.box2 {c : Lc} {W : World} {nv : Value} {ns : List Nd} (h : LSt c W nv ns) : ∃ x y, (W.cell? ⟨c.r, 0, none⟩ = some x ∧ W.cell? ⟨c.r, 1, none⟩ = some y) ∧ W.frozen? ⟨c.r, 0, none⟩ = false ∧ W.frozen? ⟨c.r, 1, none⟩ = false := by
  obtain ⟨x, y, h1, h2⟩ := h.box
  exact ⟨x, y, ⟨h1, h2⟩, h.f0, h.f1⟩
theorem push3 {α : Type} (h : Array α) (a b c : α) : (((h.push a).push b).push c)[h.size]? = some a ∧ (((h.push a).push b).push c)[h.size + 1]? = some b ∧ (((h.push a).push b).push c)[h.size + 1 + 1]? = some c := by
  refine ⟨?_, ?_, ?_⟩
  · rw [Array.getElem?_push, if_neg (by simp only [Array.size_push]; omega), Array.getElem?_push, if_neg (by simp only [Array.size_push]; omega), Array.getElem?_push, if_pos rfl]
  · rw [Array.getElem?_push, if_neg (by simp only [Array.size_push]; omega), Array.getElem?_push, if_pos (by simp only [Array.size_push])]
  · rw [Array.getElem?_push, if_pos (by simp only [Array.size_push])]
/-- the boxes at the beginning -/
structure Ent (w w1 : World) (L : Nat) (op n l r : Int) : Prop where
  kept : Kept (fun _ => False) w w1
  p : w1.cell? ⟨w.heap.size, 0, none⟩ = some (.pointer (some ⟨L, 0, none⟩))
  n0 : w1.cell? ⟨w.heap.size + 1, 0, none⟩ = some (.int .i64 op)
  n1 : w1.cell? ⟨w.heap.size + 1, 1, none⟩ = some (.int .i64 n)
  n2 : w1.cell? ⟨w.heap.size + 1, 2, none⟩ = some (.int .i64 l)
  n3 : w1.cell? ⟨w.heap.size + 1, 3, none⟩ = some (.int .i64 r)
  r0 : w1.cell? ⟨w.heap.size + 1 + 1, 0, none⟩ = some (.int .i64 0)
  r1 : w1.cell? ⟨w.heap.size + 1 + 1, 1, none⟩ = some (.int .i64 0)
  f0 : w1.frozen? ⟨w.heap.size + 1 + 1, 0, none⟩ = false
  f1 : w1.frozen? ⟨w.heap.size + 1 + 1, 1, none⟩ = false
theorem ent90 (w : World) (L : Nat) (op n l r : Int) : Ent w (((w.alloc (.cells #[.pointer (some ⟨L, 0, none⟩)] 145)).alloc (.cells #[.int .i64 op, .int .i64 n, .int .i64 l, .int .i64 r] 102)).alloc (.cells #[.int .i64 0, .int .i64 0] 148)) L op n l r := by
  obtain ⟨w1, hw1⟩ : ∃ w1, w1 = (((w.alloc (.cells #[.pointer (some ⟨L, 0, none⟩)] 145)).alloc (.cells #[.int .i64 op, .int .i64 n, .int .i64 l, .int .i64 r] 102)).alloc (.cells #[.int .i64 0, .int .i64 0] 148)) := ⟨_, rfl⟩
  have hk : Kept (fun _ => False) w w1 := by rw [hw1]; exact (((Kept.refl _ _).alloc _).alloc _).alloc _
  have hh : w1.heap = ((w.heap.push (.cells #[.pointer (some ⟨L, 0, none⟩)] 145)).push (.cells #[.int .i64 op, .int .i64 n, .int .i64 l, .int .i64 r] 102)).push (.cells #[.int .i64 0, .int .i64 0] 148) := by rw [hw1]; rfl
  rw [← hw1]
  clear hw1
  have g0 : w1.heap[w.heap.size]? = some (.cells #[.pointer (some ⟨L, 0, none⟩)] 145 (0, 0)) := by rw [hh]; exact (push3 _ _ _ _).1
  have g1 : w1.heap[w.heap.size + 1]? = some (.cells #[.int .i64 op, .int .i64 n, .int .i64 l, .int .i64 r] 102 (0, 0)) := by rw [hh]; exact (push3 _ _ _ _).2.1
  have g2 : w1.heap[w.heap.size + 1 + 1]? = some (.cells #[.int .i64 0, .int .i64 0] 148 (0, 0)) := by rw [hh]; exact (push3 _ _ _ _).2.2
  clear hh
  exact ⟨hk, by simp [World.cell?, g0], by simp [World.cell?, g1], by simp [World.cell?, g1], by simp [World.cell?, g1], by simp [World.cell?, g1], by simp [World.cell?, g2], by simp [World.cell?, g2], by simp [World.frozen?, g2], by simp [World.frozen?, g2]⟩

set_option maxRecDepth 100000 in
set_option maxHeartbeats 4000000 in
theorem both90_0 (base L bm r' : Nat) (w : World) (nv : Value) (ns : List Nd) (n l r : Int) (dg dn dc : Nat) (hL : LIn w base L bm nv ns) (ho : Ord ns) (hb : base ≤ w.heap.size) (hlen4 : ns.length + 4 ≤ 1073741824) :
    Calls Tryd.prog 90 #[.agg #[.pointer (some ⟨L, 0, none⟩)], .agg #[.int .i64 0, .int .i64 n, .int .i64 l, .int .i64 r], .slice (some ⟨dg, 0, none⟩) dn dc] w fun e w' => Sides ⟨base, L, bm, r'⟩ 4 w nv ns (leafT 0) (leafT 1) e w' := by
  have HL : Hid (LIn w base L bm nv ns) := hL
  clear hL
  go_enter Tryd.func90, Tryd.ntmps90
  go_upto_region 3 with fail
  obtain ⟨w1, hw1⟩ : ∃ w1, w1 = ((w.alloc (.cells #[.pointer (some ⟨L, 0, none⟩)] 145)).alloc (.cells #[.int .i64 0, .int .i64 n, .int .i64 l, .int .i64 r] 102)).alloc (.cells #[.int .i64 0, .int .i64 0] 148) := ⟨_, rfl⟩
  have E : Ent w w1 L 0 n l r := by rw [hw1]; exact ent90 _ _ _ _ _ _
  rw [← hw1]
  clear hw1
  obtain ⟨hk, hp, n0, n1, n2, n3, r0, r1, f0, f1⟩ := E
  have hst : LSt ⟨base, L, bm, w.heap.size + 1 + 1⟩ w1 nv ns := LSt.mk' HL.out ho hb hk (by omega) r0 r1 f0 f1
  go_wp2_with (go_at_call 124; refine (truth124 ⟨base, L, bm, w.heap.size + 1 + 1⟩ _ nv ns hst.li ho hst.hb (by omega)).mono ?_; rintro e W ⟨i, j, nv', ns', rfl, hg, d0, d1⟩; obtain ⟨bx, by', ⟨b0, b1⟩, g0, g1⟩ := (hg.st hst).box2; simp only at b0 b1 g0 g1)
  refine bodyPost_ret (v := .agg #[.int .i64 i, .int .i64 j]) (by simp [results, Tryd.results90, go_sem, b0, b1]) rfl ⟨i, j, nv', ns', rfl, (hg.store hst hk (by simp only; omega) _ _ r').mono (by omega), d0, d1⟩

set_option maxRecDepth 100000 in
set_option maxHeartbeats 4000000 in
theorem both90_1 (base L bm r' : Nat) (w : World) (nv : Value) (ns : List Nd) (n l r : Int) (dg dn dc : Nat) (hL : LIn w base L bm nv ns) (ho : Ord ns) (hb : base ≤ w.heap.size) (hlen4 : ns.length + 4 ≤ 1073741824) :
    Calls Tryd.prog 90 #[.agg #[.pointer (some ⟨L, 0, none⟩)], .agg #[.int .i64 1, .int .i64 n, .int .i64 l, .int .i64 r], .slice (some ⟨dg, 0, none⟩) dn dc] w fun e w' => Sides ⟨base, L, bm, r'⟩ 4 w nv ns (leafT 1) (leafT 0) e w' := by
  have HL : Hid (LIn w base L bm nv ns) := hL
  clear hL
  go_enter Tryd.func90, Tryd.ntmps90
  go_upto_region 5 with fail
  obtain ⟨w1, hw1⟩ : ∃ w1, w1 = ((w.alloc (.cells #[.pointer (some ⟨L, 0, none⟩)] 145)).alloc (.cells #[.int .i64 1, .int .i64 n, .int .i64 l, .int .i64 r] 102)).alloc (.cells #[.int .i64 0, .int .i64 0] 148) := ⟨_, rfl⟩
  have E : Ent w w1 L 1 n l r := by rw [hw1]; exact ent90 _ _ _ _ _ _
  rw [← hw1]
  clear hw1
  obtain ⟨hk, hp, n0, n1, n2, n3, r0, r1, f0, f1⟩ := E
  have hst : LSt ⟨base, L, bm, w.heap.size + 1 + 1⟩ w1 nv ns := LSt.mk' HL.out ho hb hk (by omega) r0 r1 f0 f1
  go_wp2_with (first | (go_at_call 124; refine (truth124 ⟨base, L, bm, w.heap.size + 1 + 1⟩ _ nv ns hst.li ho hst.hb (by omega)).mono ?_; rintro e W ⟨i, j, nv', ns', rfl, hg, d0, d1⟩; obtain ⟨bx, by', ⟨b0, b1⟩, g0, g1⟩ := (hg.st hst).box2; simp only at b0 b1 g0 g1) | (go_at_call 125; refine (other125 _ i j).mono ?_; rintro e W5 ⟨rfl, k5⟩; have s5 := (hg.st hst).kept k5; obtain ⟨bx5, by5, ⟨b50, b51⟩, g50, g51⟩ := s5.box2; simp only at b50 b51 g50 g51))
  refine bodyPost_ret (v := .agg #[.int .i64 j, .int .i64 i]) (by simp [results, Tryd.results90, go_sem, b50, b51]) rfl ⟨j, i, nv', ns', rfl, ((hg.keep k5).store hst hk (by simp only; omega) _ _ r').mono (by omega), d1, d0⟩

set_option maxRecDepth 100000 in
set_option maxHeartbeats 4000000 in
theorem both90_2 (base L bm r' : Nat) (w : World) (nv : Value) (ns : List Nd) (n : Int) (hw : wellN 2 n 0) (dg dn dc : Nat) (hL : LIn w base L bm nv ns) (ho : Ord ns) (hb : base ≤ w.heap.size) (hlen4 : ns.length + 4 ≤ 1073741824) :
    Calls Tryd.prog 90 #[.agg #[.pointer (some ⟨L, 0, none⟩)], .agg #[.int .i64 2, .int .i64 n, .int .i64 (-1), .int .i64 (-1)], .slice (some ⟨dg, 0, none⟩) dn dc] w fun e w' => Sides ⟨base, L, bm, r'⟩ 4 w nv ns (.mk 2 n []) (.mk 3 0 [.mk 2 n []]) e w' := by
  have HL : Hid (LIn w base L bm nv ns) := hL
  clear hL
  go_enter Tryd.func90, Tryd.ntmps90
  go_upto_region 7 with fail
  obtain ⟨w1, hw1⟩ : ∃ w1, w1 = ((w.alloc (.cells #[.pointer (some ⟨L, 0, none⟩)] 145)).alloc (.cells #[.int .i64 2, .int .i64 n, .int .i64 (-1), .int .i64 (-1)] 102)).alloc (.cells #[.int .i64 0, .int .i64 0] 148) := ⟨_, rfl⟩
  have E : Ent w w1 L 2 n (-1) (-1) := by rw [hw1]; exact ent90 _ _ _ _ _ _
  rw [← hw1]
  clear hw1
  obtain ⟨hk, hp, n0, n1, n2, n3, r0, r1, f0, f1⟩ := E
  have hst : LSt ⟨base, L, bm, w.heap.size + 1 + 1⟩ w1 nv ns := LSt.mk' HL.out ho hb hk (by omega) r0 r1 f0 f1
  go_upto_region 8 with (go_at_call 84; refine (add84d ⟨base, L, bm, w.heap.size + 1 + 1⟩ _ nv ns 2 n [] [] hst.li ho hst.hb (by omega) hw rfl).mono ?_; rintro e W ⟨i, nv', ns', rfl, hg, d0⟩)
  have hst2 := hg.st hst
  have hpn : ¬ LSet L bm nv w.heap.size := fun h => not_lset (r := 0) HL.out (.inl (Nat.le_refl _)) (by have := lt_of_cell HL.out.c0; omega) (.inl h)
  have hp2 : W.cell? ⟨w.heap.size, 0, none⟩ = some (.pointer (some ⟨L, 0, none⟩)) := (hg.kept.cell (p := ⟨w.heap.size, 0, none⟩) (lt_of_cell hp) hpn).trans hp
  have hlg := hg.len
  have hlen : ns'.length + [0, 0, 0, 0, 0, 1, 0, 0].sum ≤ 1073741824 := by simp; omega
  have n3' : ¬ (LSet L bm nv' w.heap.size ∨ w.heap.size = w.heap.size + 1 + 1) := by
    rintro ((e | e | e) | e)
    · exact hpn (.inl e)
    · exact hpn (.inr (.inl e))
    · rcases hg.own _ e with e | e
      · exact hpn (.inr (.inr e))
      · have := lt_of_cell hp; simp only at this; omega
    · omega
  refine wp_region_L ⟨base, L, bm, w.heap.size + 1 + 1⟩ (.mk 2 n []) (.mk 3 0 [.mk 2 n []]) nv' ns' [26, 27, 28, 29, 30, 31, 32, 119]
    [.den (.mk 2 n []), .val (.pointer (some ⟨w.heap.size, 0, none⟩)), .val (.pointer (some ⟨L, 0, none⟩)), .val (.int .i64 i), .val (ndV 3 0 i (-1)), .den (.mk 3 0 [.mk 2 n []]), .dens (.mk 2 n []) (.mk 3 0 [.mk 2 n []]), .fill]
    [0, 0, 0, 0, 0, 1, 0, 0] hst2 rfl (by decide) rfl (by kernel_rfl) rfl
    ⟨stepL_pureDen rfl rfl d0 (fun a W hJ hq hd => by
        have e0 := hq 7 (by decide)
        revert e0; generalize a.eval = ρ; intro e0
        simp [execOp, go_sem, e0]),
     stepL_pure rfl rfl (fun a W hJ hq hd => by
        have e0 := hq 3 (by decide)
        revert e0; generalize a.eval = ρ; intro e0
        simp [execOp, go_sem, e0]),
     stepL_pure rfl rfl (fun a W hJ hq hd => by
        have e0 := hd ⟨1, .data⟩ (by simp) rfl 27 rfl (of_decide_eq_true rfl) _ rfl
        have hc0 := hJ.cell hp2 n3'
        revert e0; generalize a.eval = ρ; intro e0
        simp [execOp, go_sem, e0, hc0]),
     stepL_pure rfl rfl (fun a W hJ hq hd => by
        have e0 := hq 7 (by decide)
        revert e0; generalize a.eval = ρ; intro e0
        simp [execOp, go_sem, e0]),
     stepL_call (f := 82) (args := #[.int .i64 3, .int .i64 i]) rfl rfl (fun a W hq hd => by
        have e0 : a.eval (.const (.int .i64 3)) = .int .i64 3 := rfl
        have e1 := hd ⟨3, .data⟩ (by simp) rfl 29 rfl (of_decide_eq_true rfl) _ rfl
        have hf : a.eval (.func 82) = .func (.func 82) #[] #[] := rfl
        revert e0 e1 hf; generalize a.eval = ρ; intro e0 e1 hf
        simp [execOp, go_sem, e0, e1, hf]) (fun W => one82 _ _ W),
     stepL_add (op := 3) (n := 0) (ids := [i]) (kids := [.mk 2 n []]) rfl rfl hlen ⟨by decide, by decide, rfl, by decide, by decide⟩ ⟨i, [], rfl, d0, rfl⟩ (fun a W hq hd => by
        have e1 := hd ⟨2, .data⟩ (by simp) rfl 28 rfl (of_decide_eq_true rfl) _ rfl
        have e2 := hd ⟨4, .data⟩ (by simp) rfl 30 rfl (of_decide_eq_true rfl) _ rfl
        have hf : a.eval (.func 84) = .func (.func 84) #[] #[] := rfl
        revert hf e1 e2; generalize a.eval = ρ; intro hf e1 e2
        simp [execOp, go_sem, hf, e1, e2, mkNd, Nd.v]),
     stepL_build (j := 0) (j' := 5) (d := 26) (d' := 31) rfl (by simp) (by simp) rfl rfl (of_decide_eq_true rfl) (of_decide_eq_true rfl) rfl rfl rfl rfl,
     stepL_store (j := 6) (d := 32) (s := 6) rfl (by decide) rfl (by simp) rfl (of_decide_eq_true rfl) rfl rfl rfl, trivial⟩ ?_
  intro f W2 nv2 ns2 hJ hR
  obtain ⟨x, y, c0, c1, e0, e1⟩ := hJ.fill (hR 7 (by decide))
  have hG := (hg.after hJ hk (by simp only; omega) r').mono (k' := 4) (by simp)
  clear hR hJ hst hst2
  simp only [puts, Nat.zero_add, Nat.reduceAdd, Act.put, List.setIfInBounds_toArray, List.set_cons_succ, List.set_cons_zero, List.set_nil]
  simp only at c0 c1
  go_wp2
  refine bodyPost_ret (v := .agg #[.int .i64 x, .int .i64 y]) (by simp [results, Tryd.results90, go_sem, c0, c1]) rfl ⟨x, y, nv2, ns2, rfl, hG, e0, e1⟩

set_option maxRecDepth 100000 in
set_option maxHeartbeats 4000000 in
theorem both90_3 (base L bm r' : Nat) (w : World) (nv : Value) (ns : List Nd) (k : Nat) (p q : Int) (a : Tr) (dg dn dc : Nat) (hkd : k < dn) (hc0 : w.cell? ⟨dg, k * 2, none⟩ = some (.int .i64 p)) (hc1 : w.cell? ⟨dg, k * 2 + 1, none⟩ = some (.int .i64 q)) (da : Den ns p (plainT a false)) (da' : Den ns q (plainT a true)) (_hdg : ¬ LSet L bm nv dg) (hL : LIn w base L bm nv ns) (ho : Ord ns) (hb : base ≤ w.heap.size) (_hlen4 : ns.length + 4 ≤ 1073741824) :
    Calls Tryd.prog 90 #[.agg #[.pointer (some ⟨L, 0, none⟩)], .agg #[.int .i64 3, .int .i64 0, .int .i64 (k : Int), .int .i64 (-1)], .slice (some ⟨dg, 0, none⟩) dn dc] w fun e w' => Sides ⟨base, L, bm, r'⟩ 4 w nv ns (plainT a true) (plainT a false) e w' := by
  have HL : Hid (LIn w base L bm nv ns) := hL
  clear hL
  go_enter Tryd.func90, Tryd.ntmps90
  go_upto_region 10 with fail
  obtain ⟨w1, hw1⟩ : ∃ w1, w1 = ((w.alloc (.cells #[.pointer (some ⟨L, 0, none⟩)] 145)).alloc (.cells #[.int .i64 3, .int .i64 0, .int .i64 (k : Int), .int .i64 (-1)] 102)).alloc (.cells #[.int .i64 0, .int .i64 0] 148) := ⟨_, rfl⟩
  have E : Ent w w1 L 3 0 (k : Int) (-1) := by rw [hw1]; exact ent90 _ _ _ _ _ _
  rw [← hw1]
  clear hw1
  obtain ⟨hk, hp, n0, n1, n2, n3, r0, r1, f0, f1⟩ := E
  have hst : LSt ⟨base, L, bm, w.heap.size + 1 + 1⟩ w1 nv ns := LSt.mk' HL.out ho hb hk (by omega) r0 r1 f0 f1
  have hd0 : w1.cell? ⟨dg, k * 2, none⟩ = some (.int .i64 p) := (hk.cell (p := ⟨dg, k * 2, none⟩) (lt_of_cell hc0) (fun f => f)).trans hc0
  have hd1 : w1.cell? ⟨dg, k * 2 + 1, none⟩ = some (.int .i64 q) := (hk.cell (p := ⟨dg, k * 2 + 1, none⟩) (lt_of_cell hc1) (fun f => f)).trans hc1
  go_wp2_with (go_at_call 125; refine (other125 _ p q).mono ?_; rintro e W5 ⟨rfl, k5⟩; have s5 := hst.kept k5; obtain ⟨bx5, by5, ⟨b50, b51⟩, g50, g51⟩ := s5.box2; simp only at b50 b51 g50 g51)
  refine bodyPost_ret (v := .agg #[.int .i64 q, .int .i64 p]) (by simp [results, Tryd.results90, go_sem, b50, b51]) rfl ⟨q, p, nv, ns, rfl, (((Grown.refl hst).keep k5).store hst hk (by simp only; omega) _ _ r').mono (by omega), da', da⟩

set_option maxRecDepth 100000 in
set_option maxHeartbeats 4000000 in
theorem both90_7 (base L bm r' : Nat) (w : World) (nv : Value) (ns : List Nd) (k : Nat) (p q : Int) (a : Tr) (dg dn dc : Nat) (hkd : k < dn) (hc0 : w.cell? ⟨dg, k * 2, none⟩ = some (.int .i64 p)) (hc1 : w.cell? ⟨dg, k * 2 + 1, none⟩ = some (.int .i64 q)) (da : Den ns p (plainT a false)) (da' : Den ns q (plainT a true)) (hdg : ¬ LSet L bm nv dg) (hT : TabT w) (h3 : 3 ≤ base) (hL : LIn w base L bm nv ns) (ho : Ord ns) (hb : base ≤ w.heap.size) (hlen4 : ns.length + 4 ≤ 1073741824) :
    Calls Tryd.prog 90 #[.agg #[.pointer (some ⟨L, 0, none⟩)], .agg #[.int .i64 7, .int .i64 0, .int .i64 (k : Int), .int .i64 (-1)], .slice (some ⟨dg, 0, none⟩) dn dc] w fun e w' => Sides ⟨base, L, bm, r'⟩ 4 w nv ns (.mk 7 0 [plainT a false]) (.mk 7 0 [plainT a true]) e w' := by
  have HL : Hid (LIn w base L bm nv ns) := hL
  clear hL
  go_enter Tryd.func90, Tryd.ntmps90
  go_upto_region 12 with fail
  obtain ⟨w1, hw1⟩ : ∃ w1, w1 = ((w.alloc (.cells #[.pointer (some ⟨L, 0, none⟩)] 145)).alloc (.cells #[.int .i64 7, .int .i64 0, .int .i64 (k : Int), .int .i64 (-1)] 102)).alloc (.cells #[.int .i64 0, .int .i64 0] 148) := ⟨_, rfl⟩
  have E : Ent w w1 L 7 0 (k : Int) (-1) := by rw [hw1]; exact ent90 _ _ _ _ _ _
  rw [← hw1]
  clear hw1
  obtain ⟨hk, hp, n0, n1, n2, n3, r0, r1, f0, f1⟩ := E
  have hst : LSt ⟨base, L, bm, w.heap.size + 1 + 1⟩ w1 nv ns := LSt.mk' HL.out ho hb hk (by omega) r0 r1 f0 f1
  have hd0 : w1.cell? ⟨dg, k * 2, none⟩ = some (.int .i64 p) := (hk.cell (p := ⟨dg, k * 2, none⟩) (lt_of_cell hc0) (fun f => f)).trans hc0
  have hd1 : w1.cell? ⟨dg, k * 2 + 1, none⟩ = some (.int .i64 q) := (hk.cell (p := ⟨dg, k * 2 + 1, none⟩) (lt_of_cell hc1) (fun f => f)).trans hc1
  go_upto_region 13 with fail
  obtain ⟨w2, hw2⟩ : ∃ w2, w2 = w1.alloc (.cells #[.int .i64 p, .int .i64 q] 148) := ⟨_, rfl⟩
  have q2 : Kept (fun _ => False) w1 w2 := by rw [hw2]; exact (Kept.refl _ _).alloc _
  have k80 : w2.cell? ⟨w1.heap.size, 0, none⟩ = some (.int .i64 p) := by rw [hw2]; simp
  have k81 : w2.cell? ⟨w1.heap.size, 1, none⟩ = some (.int .i64 q) := by rw [hw2]; simp
  rw [← hw2]
  clear hw2
  have hst2 := hst.kept q2
  have hk2 : Kept (fun _ => False) w w2 := hk.trans q2 (fun _ _ f => f)
  have hp2 := (q2.cell (p := ⟨w.heap.size, 0, none⟩) (lt_of_cell hp) (fun f => f)).trans hp
  have n02 := (q2.cell (p := ⟨w.heap.size + 1, 0, none⟩) (lt_of_cell n0) (fun f => f)).trans n0
  have t7 : w2.cell? ⟨2, 7, none⟩ = some (.int .i64 7) := hT.kept hk2 (fun f => f) 7 (by omega)
  have l2 := hk.size
  have lr := lt_of_cell r0
  simp only at lr
  have m8 : ¬ (LSet L bm nv w1.heap.size ∨ w1.heap.size = w.heap.size + 1 + 1) := not_lset HL.out (.inl l2) (by omega)
  have hlen : ns.length + [0, 0, 0, 0, 0, 0, 0, 1, 0, 0, 0, 0, 0, 0, 0, 0, 0, 1, 0, 0].sum ≤ 1073741824 := by simp; omega
  have m3 : ¬ (LSet L bm nv w.heap.size ∨ w.heap.size = w.heap.size + 1 + 1) := not_lset HL.out (.inl (by omega)) (by omega)
  have m4 : ¬ (LSet L bm nv (w.heap.size + 1) ∨ w.heap.size + 1 = w.heap.size + 1 + 1) := not_lset HL.out (.inl (by omega)) (by omega)
  have m2 : ¬ (LSet L bm nv 2 ∨ 2 = w.heap.size + 1 + 1) := not_lset HL.out (.inr (by omega)) (by omega)
  have md : ¬ (LSet L bm nv dg ∨ dg = w.heap.size + 1 + 1) := by
    rintro (e | e)
    · exact hdg e
    · have := lt_of_cell hc0; simp only at this; omega
  refine wp_region_L ⟨base, L, bm, w.heap.size + 1 + 1⟩ (.mk 7 0 [plainT a false]) (.mk 7 0 [plainT a true]) nv ns [48, 49, 50, 51, 52, 53, 54, 55, 56, 57, 58, 59, 60, 61, 62, 63, 64, 65, 66, 119]
    [.val (.pointer (some ⟨w.heap.size, 0, none⟩)), .val (.pointer (some ⟨L, 0, none⟩)), .val (.pointer (some ⟨w.heap.size + 1, 0, none⟩)), .val (.int .i64 7), .val (.pointer (some ⟨w1.heap.size, 0, none⟩)), .val (.int .i64 p), .val (ndV 7 0 p (-1)), .den (.mk 7 0 [plainT a false]), .val (.pointer (some ⟨w.heap.size, 0, none⟩)), .val (.pointer (some ⟨L, 0, none⟩)), .val (.pointer (some ⟨w.heap.size + 1, 0, none⟩)), .val (.int .i64 7), .val (.pointer (some ⟨2, 7, none⟩)), .val (.int .i64 7), .val (.pointer (some ⟨w1.heap.size, 1, none⟩)), .val (.int .i64 q), .val (ndV 7 0 q (-1)), .den (.mk 7 0 [plainT a true]), .dens (.mk 7 0 [plainT a false]) (.mk 7 0 [plainT a true]), .fill]
    [0, 0, 0, 0, 0, 0, 0, 1, 0, 0, 0, 0, 0, 0, 0, 0, 0, 1, 0, 0] hst2 rfl (by decide) rfl (by kernel_rfl) rfl
    ⟨stepL_pure rfl rfl (fun a W hJ hq hd => by
        have e0 := hq 3 (by decide)
        revert e0; generalize a.eval = ρ; intro e0
        simp [execOp, go_sem, e0]),
     stepL_pure rfl rfl (fun a W hJ hq hd => by
        have e0 := hd ⟨0, .data⟩ (by simp) rfl 48 rfl (of_decide_eq_true rfl) _ rfl
        have hc0 := hJ.cell hp2 m3
        revert e0; generalize a.eval = ρ; intro e0
        simp [execOp, go_sem, e0, hc0]),
     stepL_pure rfl rfl (fun a W hJ hq hd => by
        have e0 := hq 4 (by decide)
        revert e0; generalize a.eval = ρ; intro e0
        simp [execOp, go_sem, e0]),
     stepL_pure rfl rfl (fun a W hJ hq hd => by
        have e0 := hd ⟨2, .data⟩ (by simp) rfl 50 rfl (of_decide_eq_true rfl) _ rfl
        have hc0 := hJ.cell n02 m4
        revert e0; generalize a.eval = ρ; intro e0
        simp [execOp, go_sem, e0, hc0]),
     stepL_pure rfl rfl (fun a W hJ hq hd => by
        have e0 := hq 8 (by decide)
        revert e0; generalize a.eval = ρ; intro e0
        simp [execOp, go_sem, e0]),
     stepL_pure rfl rfl (fun a W hJ hq hd => by
        have e0 := hd ⟨4, .data⟩ (by simp) rfl 52 rfl (of_decide_eq_true rfl) _ rfl
        have hc0 := hJ.cell k80 m8
        revert e0; generalize a.eval = ρ; intro e0
        simp [execOp, go_sem, e0, hc0]),
     stepL_call (f := 82) (args := #[.int .i64 7, .int .i64 p]) rfl rfl (fun a W hq hd => by
        have e0 := hd ⟨3, .data⟩ (by simp) rfl 51 rfl (of_decide_eq_true rfl) _ rfl
        have e1 := hd ⟨5, .data⟩ (by simp) rfl 53 rfl (of_decide_eq_true rfl) _ rfl
        have hf : a.eval (.func 82) = .func (.func 82) #[] #[] := rfl
        revert e0 e1 hf; generalize a.eval = ρ; intro e0 e1 hf
        simp [execOp, go_sem, e0, e1, hf]) (fun W => one82 _ _ W),
     stepL_add (op := 7) (n := 0) (ids := [p]) (kids := [plainT a false]) rfl rfl hlen ⟨by decide, by decide, rfl, by decide, by decide⟩ ⟨p, [], rfl, da, rfl⟩ (fun a W hq hd => by
        have e1 := hd ⟨1, .data⟩ (by simp) rfl 49 rfl (of_decide_eq_true rfl) _ rfl
        have e2 := hd ⟨6, .data⟩ (by simp) rfl 54 rfl (of_decide_eq_true rfl) _ rfl
        have hf : a.eval (.func 84) = .func (.func 84) #[] #[] := rfl
        revert hf e1 e2; generalize a.eval = ρ; intro hf e1 e2
        simp [execOp, go_sem, hf, e1, e2, mkNd, Nd.v]),
     stepL_pure rfl rfl (fun a W hJ hq hd => by
        have e0 := hq 3 (by decide)
        revert e0; generalize a.eval = ρ; intro e0
        simp [execOp, go_sem, e0]),
     stepL_pure rfl rfl (fun a W hJ hq hd => by
        have e0 := hd ⟨8, .data⟩ (by simp) rfl 56 rfl (of_decide_eq_true rfl) _ rfl
        have hc0 := hJ.cell hp2 m3
        revert e0; generalize a.eval = ρ; intro e0
        simp [execOp, go_sem, e0, hc0]),
     stepL_pure rfl rfl (fun a W hJ hq hd => by
        have e0 := hq 4 (by decide)
        revert e0; generalize a.eval = ρ; intro e0
        simp [execOp, go_sem, e0]),
     stepL_pure rfl rfl (fun a W hJ hq hd => by
        have e0 := hd ⟨10, .data⟩ (by simp) rfl 58 rfl (of_decide_eq_true rfl) _ rfl
        have hc0 := hJ.cell n02 m4
        revert e0; generalize a.eval = ρ; intro e0
        simp [execOp, go_sem, e0, hc0]),
     stepL_pure rfl rfl (fun a W hJ hq hd => by
        have e0 := hd ⟨11, .data⟩ (by simp) rfl 59 rfl (of_decide_eq_true rfl) _ rfl
        have e1 : a.eval (.global 2) = .pointer (some ⟨2, 0, none⟩) := rfl
        revert e0 e1; generalize a.eval = ρ; intro e0 e1
        simp [execOp, go_sem, e0, e1]),
     stepL_pure rfl rfl (fun a W hJ hq hd => by
        have e0 := hd ⟨12, .data⟩ (by simp) rfl 60 rfl (of_decide_eq_true rfl) _ rfl
        have hc0 := hJ.cell t7 m2
        revert e0; generalize a.eval = ρ; intro e0
        simp [execOp, go_sem, e0, hc0]),
     stepL_pure rfl rfl (fun a W hJ hq hd => by
        have e0 := hq 8 (by decide)
        revert e0; generalize a.eval = ρ; intro e0
        simp [execOp, go_sem, e0]),
     stepL_pure rfl rfl (fun a W hJ hq hd => by
        have e0 := hd ⟨14, .data⟩ (by simp) rfl 62 rfl (of_decide_eq_true rfl) _ rfl
        have hc0 := hJ.cell k81 m8
        revert e0; generalize a.eval = ρ; intro e0
        simp [execOp, go_sem, e0, hc0]),
     stepL_call (f := 82) (args := #[.int .i64 7, .int .i64 q]) rfl rfl (fun a W hq hd => by
        have e0 := hd ⟨13, .data⟩ (by simp) rfl 61 rfl (of_decide_eq_true rfl) _ rfl
        have e1 := hd ⟨15, .data⟩ (by simp) rfl 63 rfl (of_decide_eq_true rfl) _ rfl
        have hf : a.eval (.func 82) = .func (.func 82) #[] #[] := rfl
        revert e0 e1 hf; generalize a.eval = ρ; intro e0 e1 hf
        simp [execOp, go_sem, e0, e1, hf]) (fun W => one82 _ _ W),
     stepL_add (op := 7) (n := 0) (ids := [q]) (kids := [plainT a true]) rfl rfl hlen ⟨by decide, by decide, rfl, by decide, by decide⟩ ⟨q, [], rfl, da', rfl⟩ (fun a W hq hd => by
        have e1 := hd ⟨9, .data⟩ (by simp) rfl 57 rfl (of_decide_eq_true rfl) _ rfl
        have e2 := hd ⟨16, .data⟩ (by simp) rfl 64 rfl (of_decide_eq_true rfl) _ rfl
        have hf : a.eval (.func 84) = .func (.func 84) #[] #[] := rfl
        revert hf e1 e2; generalize a.eval = ρ; intro hf e1 e2
        simp [execOp, go_sem, hf, e1, e2, mkNd, Nd.v]),
     stepL_build (j := 7) (j' := 17) (d := 55) (d' := 65) rfl (by simp) (by simp) rfl rfl (of_decide_eq_true rfl) (of_decide_eq_true rfl) rfl rfl rfl rfl,
     stepL_store (j := 18) (d := 66) (s := 6) rfl (by decide) rfl (by simp) rfl (of_decide_eq_true rfl) rfl rfl rfl, trivial⟩ ?_
  intro f W2 nv2 ns2 hJ hR
  obtain ⟨x, y, c0, c1, e0, e1⟩ := hJ.fill (hR 19 (by decide))
  have hG := (hJ.grown hk2 (by simp only; omega) r').mono (k' := 4) (by simp)
  clear hR hJ hst hst2
  simp only [puts, Nat.zero_add, Nat.reduceAdd, Act.put, List.setIfInBounds_toArray, List.set_cons_succ, List.set_cons_zero, List.set_nil]
  simp only at c0 c1
  go_wp2
  refine bodyPost_ret (v := .agg #[.int .i64 x, .int .i64 y]) (by simp [results, Tryd.results90, go_sem, c0, c1]) rfl ⟨x, y, nv2, ns2, rfl, hG, e0, e1⟩

set_option maxRecDepth 100000 in
set_option maxHeartbeats 4000000 in
theorem both90_10 (base L bm r' : Nat) (w : World) (nv : Value) (ns : List Nd) (k : Nat) (p q : Int) (a : Tr) (dg dn dc : Nat) (hkd : k < dn) (hc0 : w.cell? ⟨dg, k * 2, none⟩ = some (.int .i64 p)) (hc1 : w.cell? ⟨dg, k * 2 + 1, none⟩ = some (.int .i64 q)) (da : Den ns p (plainT a false)) (da' : Den ns q (plainT a true)) (hdg : ¬ LSet L bm nv dg) (hT : TabT w) (h3 : 3 ≤ base) (hL : LIn w base L bm nv ns) (ho : Ord ns) (hb : base ≤ w.heap.size) (hlen4 : ns.length + 4 ≤ 1073741824) :
    Calls Tryd.prog 90 #[.agg #[.pointer (some ⟨L, 0, none⟩)], .agg #[.int .i64 10, .int .i64 0, .int .i64 (k : Int), .int .i64 (-1)], .slice (some ⟨dg, 0, none⟩) dn dc] w fun e w' => Sides ⟨base, L, bm, r'⟩ 4 w nv ns (binT 8 (leafT 0) (plainT a false)) (binT 9 (leafT 1) (plainT a true)) e w' := by
  have HL : Hid (LIn w base L bm nv ns) := hL
  clear hL
  go_enter Tryd.func90, Tryd.ntmps90
  go_upto_region 17 with fail
  obtain ⟨w1, hw1⟩ : ∃ w1, w1 = ((w.alloc (.cells #[.pointer (some ⟨L, 0, none⟩)] 145)).alloc (.cells #[.int .i64 10, .int .i64 0, .int .i64 (k : Int), .int .i64 (-1)] 102)).alloc (.cells #[.int .i64 0, .int .i64 0] 148) := ⟨_, rfl⟩
  have E : Ent w w1 L 10 0 (k : Int) (-1) := by rw [hw1]; exact ent90 _ _ _ _ _ _
  rw [← hw1]
  clear hw1
  obtain ⟨hk, hp, n0, n1, n2, n3, r0, r1, f0, f1⟩ := E
  have hst : LSt ⟨base, L, bm, w.heap.size + 1 + 1⟩ w1 nv ns := LSt.mk' HL.out ho hb hk (by omega) r0 r1 f0 f1
  have hd0 : w1.cell? ⟨dg, k * 2, none⟩ = some (.int .i64 p) := (hk.cell (p := ⟨dg, k * 2, none⟩) (lt_of_cell hc0) (fun f => f)).trans hc0
  have hd1 : w1.cell? ⟨dg, k * 2 + 1, none⟩ = some (.int .i64 q) := (hk.cell (p := ⟨dg, k * 2 + 1, none⟩) (lt_of_cell hc1) (fun f => f)).trans hc1
  have hlen : ns.length + [0, 0, 2, 0, 0, 0, 0, 0, 2, 0].sum ≤ 1073741824 := by simp; omega
  have hT1 : TabT w1 := hT.kept hk (fun f => f)
  have m3 : ¬ (LSet L bm nv w.heap.size ∨ w.heap.size = w.heap.size + 1 + 1) := not_lset HL.out (.inl (by omega)) (by omega)
  have m4 : ¬ (LSet L bm nv (w.heap.size + 1) ∨ w.heap.size + 1 = w.heap.size + 1 + 1) := not_lset HL.out (.inl (by omega)) (by omega)
  have m2 : ¬ (LSet L bm nv 2 ∨ 2 = w.heap.size + 1 + 1) := not_lset HL.out (.inr (by omega)) (by omega)
  have md : ¬ (LSet L bm nv dg ∨ dg = w.heap.size + 1 + 1) := by
    rintro (e | e)
    · exact hdg e
    · have := lt_of_cell hc0; simp only at this; omega
  refine wp_region_L ⟨base, L, bm, w.heap.size + 1 + 1⟩ (binT 8 (leafT 0) (plainT a false)) (binT 9 (leafT 1) (plainT a true)) nv ns [84, 85, 86, 87, 88, 89, 90, 91, 92, 119]
    [.val (.agg #[.pointer (some ⟨L, 0, none⟩)]), .val (.agg #[.pointer (some ⟨L, 0, none⟩)]), .dens (leafT 0) (leafT 1), .val (.slice (some ⟨dg, 0, none⟩) dn dc), .val (.pointer (some ⟨w.heap.size + 1, 2, none⟩)), .val (.int .i64 (k : Int)), .val (.pointer (some ⟨dg, k * 2, none⟩)), .dens (plainT a false) (plainT a true), .dens (binT 8 (leafT 0) (plainT a false)) (binT 9 (leafT 1) (plainT a true)), .fill]
    [0, 0, 2, 0, 0, 0, 0, 0, 2, 0] hst rfl (by decide) rfl (by kernel_rfl) rfl
    ⟨stepL_pure rfl rfl (fun a W hJ hq hd => by
        have e0 := hq 3 (by decide)
        have hc0 := hJ.cell hp m3
        revert e0; generalize a.eval = ρ; intro e0
        simp [execOp, go_sem, e0, hc0]),
     stepL_pure rfl rfl (fun a W hJ hq hd => by
        have e0 := hq 3 (by decide)
        have hc0 := hJ.cell hp m3
        revert e0; generalize a.eval = ρ; intro e0
        simp [execOp, go_sem, e0, hc0]),
     stepL_truth (j := 1) (d := 85) rfl (by simp) rfl (of_decide_eq_true rfl) rfl hlen rfl rfl,
     stepL_pure rfl rfl (fun a W hJ hq hd => by
        have e0 := hq 2 (by decide)
        revert e0; generalize a.eval = ρ; intro e0
        simp [execOp, go_sem, e0]),
     stepL_pure rfl rfl (fun a W hJ hq hd => by
        have e0 := hq 4 (by decide)
        revert e0; generalize a.eval = ρ; intro e0
        simp [execOp, go_sem, e0]),
     stepL_pure rfl rfl (fun a W hJ hq hd => by
        have e0 := hd ⟨4, .data⟩ (by simp) rfl 88 rfl (of_decide_eq_true rfl) _ rfl
        have hc0 := hJ.cell n2 m4
        revert e0; generalize a.eval = ρ; intro e0
        simp [execOp, go_sem, e0, hc0]),
     stepL_pure rfl rfl (fun a W hJ hq hd => by
        have e0 := hd ⟨3, .data⟩ (by simp) rfl 87 rfl (of_decide_eq_true rfl) _ rfl
        have e1 := hd ⟨5, .data⟩ (by simp) rfl 89 rfl (of_decide_eq_true rfl) _ rfl
        revert e0 e1; generalize a.eval = ρ; intro e0 e1
        simp [execOp, go_sem, e0, e1]
        exact fun h => absurd h (by omega)),
     stepL_pureDens (x := p) (y := q) rfl rfl da da' (fun a W hJ hq hd => by
        have e0 := hd ⟨6, .data⟩ (by simp) rfl 90 rfl (of_decide_eq_true rfl) _ rfl
        have hx0 := hJ.cell hd0 md
        have hx1 := hJ.cell hd1 md
        revert e0; generalize a.eval = ρ; intro e0
        simp [execOp, go_sem, e0, hx0, hx1]),
     stepL_two (j1 := 2) (j2 := 7) (d1 := 86) (d2 := 91) (op := 8) (by simp) (by simp) rfl rfl (of_decide_eq_true rfl) (of_decide_eq_true rfl) rfl hlen (by simp) hT1 h3 m2 rfl rfl rfl (fun a W hq hd => by
        have e0 := hd ⟨0, .data⟩ (by simp) rfl 84 rfl (of_decide_eq_true rfl) _ rfl
        have e1 : a.eval (.const (.int .i64 8)) = .int .i64 8 := rfl
        have hf : a.eval (.func 126) = .func (.func 126) #[] #[] := rfl
        revert e0 e1 hf; generalize a.eval = ρ; intro e0 e1 hf
        simp [execOp, go_sem, e0, e1, hf]),
     stepL_store (j := 8) (d := 92) (s := 6) rfl (by decide) rfl (by simp) rfl (of_decide_eq_true rfl) rfl rfl rfl, trivial⟩ ?_
  intro f W2 nv2 ns2 hJ hR
  obtain ⟨x, y, c0, c1, e0, e1⟩ := hJ.fill (hR 9 (by decide))
  have hG := (hJ.grown hk (by simp only; omega) r').mono (k' := 4) (by simp)
  clear hR hJ hst
  simp only [puts, Nat.zero_add, Nat.reduceAdd, Act.put, List.setIfInBounds_toArray, List.set_cons_succ, List.set_cons_zero, List.set_nil]
  simp only at c0 c1
  go_wp2
  refine bodyPost_ret (v := .agg #[.int .i64 x, .int .i64 y]) (by simp [results, Tryd.results90, go_sem, c0, c1]) rfl ⟨x, y, nv2, ns2, rfl, hG, e0, e1⟩

set_option maxRecDepth 100000 in
set_option maxHeartbeats 4000000 in
theorem both90_11 (base L bm r' : Nat) (w : World) (nv : Value) (ns : List Nd) (k : Nat) (p q : Int) (a : Tr) (dg dn dc : Nat) (hkd : k < dn) (hc0 : w.cell? ⟨dg, k * 2, none⟩ = some (.int .i64 p)) (hc1 : w.cell? ⟨dg, k * 2 + 1, none⟩ = some (.int .i64 q)) (da : Den ns p (plainT a false)) (da' : Den ns q (plainT a true)) (hdg : ¬ LSet L bm nv dg) (hT : TabT w) (h3 : 3 ≤ base) (hL : LIn w base L bm nv ns) (ho : Ord ns) (hb : base ≤ w.heap.size) (hlen4 : ns.length + 4 ≤ 1073741824) :
    Calls Tryd.prog 90 #[.agg #[.pointer (some ⟨L, 0, none⟩)], .agg #[.int .i64 11, .int .i64 0, .int .i64 (k : Int), .int .i64 (-1)], .slice (some ⟨dg, 0, none⟩) dn dc] w fun e w' => Sides ⟨base, L, bm, r'⟩ 4 w nv ns (binT 9 (leafT 1) (plainT a false)) (binT 8 (leafT 0) (plainT a true)) e w' := by
  have HL : Hid (LIn w base L bm nv ns) := hL
  clear hL
  go_enter Tryd.func90, Tryd.ntmps90
  go_upto_region 19 with fail
  obtain ⟨w1, hw1⟩ : ∃ w1, w1 = ((w.alloc (.cells #[.pointer (some ⟨L, 0, none⟩)] 145)).alloc (.cells #[.int .i64 11, .int .i64 0, .int .i64 (k : Int), .int .i64 (-1)] 102)).alloc (.cells #[.int .i64 0, .int .i64 0] 148) := ⟨_, rfl⟩
  have E : Ent w w1 L 11 0 (k : Int) (-1) := by rw [hw1]; exact ent90 _ _ _ _ _ _
  rw [← hw1]
  clear hw1
  obtain ⟨hk, hp, n0, n1, n2, n3, r0, r1, f0, f1⟩ := E
  have hst : LSt ⟨base, L, bm, w.heap.size + 1 + 1⟩ w1 nv ns := LSt.mk' HL.out ho hb hk (by omega) r0 r1 f0 f1
  have hd0 : w1.cell? ⟨dg, k * 2, none⟩ = some (.int .i64 p) := (hk.cell (p := ⟨dg, k * 2, none⟩) (lt_of_cell hc0) (fun f => f)).trans hc0
  have hd1 : w1.cell? ⟨dg, k * 2 + 1, none⟩ = some (.int .i64 q) := (hk.cell (p := ⟨dg, k * 2 + 1, none⟩) (lt_of_cell hc1) (fun f => f)).trans hc1
  have hlen : ns.length + [0, 0, 2, 0, 0, 0, 0, 0, 0, 2, 0].sum ≤ 1073741824 := by simp; omega
  have hT1 : TabT w1 := hT.kept hk (fun f => f)
  have m3 : ¬ (LSet L bm nv w.heap.size ∨ w.heap.size = w.heap.size + 1 + 1) := not_lset HL.out (.inl (by omega)) (by omega)
  have m4 : ¬ (LSet L bm nv (w.heap.size + 1) ∨ w.heap.size + 1 = w.heap.size + 1 + 1) := not_lset HL.out (.inl (by omega)) (by omega)
  have m2 : ¬ (LSet L bm nv 2 ∨ 2 = w.heap.size + 1 + 1) := not_lset HL.out (.inr (by omega)) (by omega)
  have md : ¬ (LSet L bm nv dg ∨ dg = w.heap.size + 1 + 1) := by
    rintro (e | e)
    · exact hdg e
    · have := lt_of_cell hc0; simp only at this; omega
  refine wp_region_L ⟨base, L, bm, w.heap.size + 1 + 1⟩ (binT 9 (leafT 1) (plainT a false)) (binT 8 (leafT 0) (plainT a true)) nv ns [95, 96, 97, 98, 99, 100, 101, 102, 103, 104, 119]
    [.val (.agg #[.pointer (some ⟨L, 0, none⟩)]), .val (.agg #[.pointer (some ⟨L, 0, none⟩)]), .dens (leafT 0) (leafT 1), .dens (leafT 1) (leafT 0), .val (.slice (some ⟨dg, 0, none⟩) dn dc), .val (.pointer (some ⟨w.heap.size + 1, 2, none⟩)), .val (.int .i64 (k : Int)), .val (.pointer (some ⟨dg, k * 2, none⟩)), .dens (plainT a false) (plainT a true), .dens (binT 9 (leafT 1) (plainT a false)) (binT 8 (leafT 0) (plainT a true)), .fill]
    [0, 0, 2, 0, 0, 0, 0, 0, 0, 2, 0] hst rfl (by decide) rfl (by kernel_rfl) rfl
    ⟨stepL_pure rfl rfl (fun a W hJ hq hd => by
        have e0 := hq 3 (by decide)
        have hc0 := hJ.cell hp m3
        revert e0; generalize a.eval = ρ; intro e0
        simp [execOp, go_sem, e0, hc0]),
     stepL_pure rfl rfl (fun a W hJ hq hd => by
        have e0 := hq 3 (by decide)
        have hc0 := hJ.cell hp m3
        revert e0; generalize a.eval = ρ; intro e0
        simp [execOp, go_sem, e0, hc0]),
     stepL_truth (j := 1) (d := 96) rfl (by simp) rfl (of_decide_eq_true rfl) rfl hlen rfl rfl,
     stepL_other (j := 2) (d := 97) rfl (by simp) rfl (of_decide_eq_true rfl) rfl rfl rfl,
     stepL_pure rfl rfl (fun a W hJ hq hd => by
        have e0 := hq 2 (by decide)
        revert e0; generalize a.eval = ρ; intro e0
        simp [execOp, go_sem, e0]),
     stepL_pure rfl rfl (fun a W hJ hq hd => by
        have e0 := hq 4 (by decide)
        revert e0; generalize a.eval = ρ; intro e0
        simp [execOp, go_sem, e0]),
     stepL_pure rfl rfl (fun a W hJ hq hd => by
        have e0 := hd ⟨5, .data⟩ (by simp) rfl 100 rfl (of_decide_eq_true rfl) _ rfl
        have hc0 := hJ.cell n2 m4
        revert e0; generalize a.eval = ρ; intro e0
        simp [execOp, go_sem, e0, hc0]),
     stepL_pure rfl rfl (fun a W hJ hq hd => by
        have e0 := hd ⟨4, .data⟩ (by simp) rfl 99 rfl (of_decide_eq_true rfl) _ rfl
        have e1 := hd ⟨6, .data⟩ (by simp) rfl 101 rfl (of_decide_eq_true rfl) _ rfl
        revert e0 e1; generalize a.eval = ρ; intro e0 e1
        simp [execOp, go_sem, e0, e1]
        exact fun h => absurd h (by omega)),
     stepL_pureDens (x := p) (y := q) rfl rfl da da' (fun a W hJ hq hd => by
        have e0 := hd ⟨7, .data⟩ (by simp) rfl 102 rfl (of_decide_eq_true rfl) _ rfl
        have hx0 := hJ.cell hd0 md
        have hx1 := hJ.cell hd1 md
        revert e0; generalize a.eval = ρ; intro e0
        simp [execOp, go_sem, e0, hx0, hx1]),
     stepL_two (j1 := 3) (j2 := 8) (d1 := 98) (d2 := 103) (op := 9) (by simp) (by simp) rfl rfl (of_decide_eq_true rfl) (of_decide_eq_true rfl) rfl hlen (by simp) hT1 h3 m2 rfl rfl rfl (fun a W hq hd => by
        have e0 := hd ⟨0, .data⟩ (by simp) rfl 95 rfl (of_decide_eq_true rfl) _ rfl
        have e1 : a.eval (.const (.int .i64 9)) = .int .i64 9 := rfl
        have hf : a.eval (.func 126) = .func (.func 126) #[] #[] := rfl
        revert e0 e1 hf; generalize a.eval = ρ; intro e0 e1 hf
        simp [execOp, go_sem, e0, e1, hf]),
     stepL_store (j := 9) (d := 104) (s := 6) rfl (by decide) rfl (by simp) rfl (of_decide_eq_true rfl) rfl rfl rfl, trivial⟩ ?_
  intro f W2 nv2 ns2 hJ hR
  obtain ⟨x, y, c0, c1, e0, e1⟩ := hJ.fill (hR 10 (by decide))
  have hG := (hJ.grown hk (by simp only; omega) r').mono (k' := 4) (by simp)
  clear hR hJ hst
  simp only [puts, Nat.zero_add, Nat.reduceAdd, Act.put, List.setIfInBounds_toArray, List.set_cons_succ, List.set_cons_zero, List.set_nil]
  simp only at c0 c1
  go_wp2
  refine bodyPost_ret (v := .agg #[.int .i64 x, .int .i64 y]) (by simp [results, Tryd.results90, go_sem, c0, c1]) rfl ⟨x, y, nv2, ns2, rfl, hG, e0, e1⟩

set_option maxRecDepth 100000 in
set_option maxHeartbeats 4000000 in
theorem both90_6 (base L bm r' : Nat) (w : World) (nv : Value) (ns : List Nd) (k k2 : Nat) (p q p2 q2 : Int) (a b : Tr) (dg dn dc : Nat) (hkd : k < dn) (hkd2 : k2 < dn) (hc0 : w.cell? ⟨dg, k * 2, none⟩ = some (.int .i64 p)) (hc1 : w.cell? ⟨dg, k * 2 + 1, none⟩ = some (.int .i64 q)) (hc2 : w.cell? ⟨dg, k2 * 2, none⟩ = some (.int .i64 p2)) (hc3 : w.cell? ⟨dg, k2 * 2 + 1, none⟩ = some (.int .i64 q2)) (da : Den ns p (plainT a false)) (da' : Den ns q (plainT a true)) (db : Den ns p2 (plainT b false)) (db' : Den ns q2 (plainT b true)) (hdg : ¬ LSet L bm nv dg) (hT : TabT w) (h3 : 3 ≤ base) (hL : LIn w base L bm nv ns) (ho : Ord ns) (hb : base ≤ w.heap.size) (hlen4 : ns.length + 4 ≤ 1073741824) :
    Calls Tryd.prog 90 #[.agg #[.pointer (some ⟨L, 0, none⟩)], .agg #[.int .i64 6, .int .i64 0, .int .i64 (k : Int), .int .i64 (k2 : Int)], .slice (some ⟨dg, 0, none⟩) dn dc] w fun e w' => Sides ⟨base, L, bm, r'⟩ 4 w nv ns (binT 5 (plainT a true) (plainT b false)) (binT 4 (plainT a false) (plainT b true)) e w' := by
  have HL : Hid (LIn w base L bm nv ns) := hL
  clear hL
  go_enter Tryd.func90, Tryd.ntmps90
  go_upto_region 15 with fail
  obtain ⟨w1, hw1⟩ : ∃ w1, w1 = ((w.alloc (.cells #[.pointer (some ⟨L, 0, none⟩)] 145)).alloc (.cells #[.int .i64 6, .int .i64 0, .int .i64 (k : Int), .int .i64 (k2 : Int)] 102)).alloc (.cells #[.int .i64 0, .int .i64 0] 148) := ⟨_, rfl⟩
  have E : Ent w w1 L 6 0 (k : Int) (k2 : Int) := by rw [hw1]; exact ent90 _ _ _ _ _ _
  rw [← hw1]
  clear hw1
  obtain ⟨hk, hp, n0, n1, n2, n3, r0, r1, f0, f1⟩ := E
  have hst : LSt ⟨base, L, bm, w.heap.size + 1 + 1⟩ w1 nv ns := LSt.mk' HL.out ho hb hk (by omega) r0 r1 f0 f1
  have hd0 : w1.cell? ⟨dg, k * 2, none⟩ = some (.int .i64 p) := (hk.cell (p := ⟨dg, k * 2, none⟩) (lt_of_cell hc0) (fun f => f)).trans hc0
  have hd1 : w1.cell? ⟨dg, k * 2 + 1, none⟩ = some (.int .i64 q) := (hk.cell (p := ⟨dg, k * 2 + 1, none⟩) (lt_of_cell hc1) (fun f => f)).trans hc1
  have hd2 : w1.cell? ⟨dg, k2 * 2, none⟩ = some (.int .i64 p2) := (hk.cell (p := ⟨dg, k2 * 2, none⟩) (lt_of_cell hc2) (fun f => f)).trans hc2
  have hd3 : w1.cell? ⟨dg, k2 * 2 + 1, none⟩ = some (.int .i64 q2) := (hk.cell (p := ⟨dg, k2 * 2 + 1, none⟩) (lt_of_cell hc3) (fun f => f)).trans hc3
  have hlen : ns.length + [0, 0, 0, 0, 0, 0, 0, 0, 0, 0, 0, 0, 2, 0].sum ≤ 1073741824 := by simp; omega
  have hT1 : TabT w1 := hT.kept hk (fun f => f)
  have m3 : ¬ (LSet L bm nv w.heap.size ∨ w.heap.size = w.heap.size + 1 + 1) := not_lset HL.out (.inl (by omega)) (by omega)
  have m4 : ¬ (LSet L bm nv (w.heap.size + 1) ∨ w.heap.size + 1 = w.heap.size + 1 + 1) := not_lset HL.out (.inl (by omega)) (by omega)
  have m2 : ¬ (LSet L bm nv 2 ∨ 2 = w.heap.size + 1 + 1) := not_lset HL.out (.inr (by omega)) (by omega)
  have md : ¬ (LSet L bm nv dg ∨ dg = w.heap.size + 1 + 1) := by
    rintro (e | e)
    · exact hdg e
    · have := lt_of_cell hc0; simp only at this; omega
  refine wp_region_L ⟨base, L, bm, w.heap.size + 1 + 1⟩ (binT 5 (plainT a true) (plainT b false)) (binT 4 (plainT a false) (plainT b true)) nv ns [69, 70, 71, 72, 73, 74, 75, 76, 77, 78, 79, 80, 81, 119]
    [.val (.agg #[.pointer (some ⟨L, 0, none⟩)]), .val (.slice (some ⟨dg, 0, none⟩) dn dc), .val (.pointer (some ⟨w.heap.size + 1, 2, none⟩)), .val (.int .i64 (k : Int)), .val (.pointer (some ⟨dg, k * 2, none⟩)), .dens (plainT a false) (plainT a true), .dens (plainT a true) (plainT a false), .val (.slice (some ⟨dg, 0, none⟩) dn dc), .val (.pointer (some ⟨w.heap.size + 1, 3, none⟩)), .val (.int .i64 (k2 : Int)), .val (.pointer (some ⟨dg, k2 * 2, none⟩)), .dens (plainT b false) (plainT b true), .dens (binT 5 (plainT a true) (plainT b false)) (binT 4 (plainT a false) (plainT b true)), .fill]
    [0, 0, 0, 0, 0, 0, 0, 0, 0, 0, 0, 0, 2, 0] hst rfl (by decide) rfl (by kernel_rfl) rfl
    ⟨stepL_pure rfl rfl (fun a W hJ hq hd => by
        have e0 := hq 3 (by decide)
        have hc0 := hJ.cell hp m3
        revert e0; generalize a.eval = ρ; intro e0
        simp [execOp, go_sem, e0, hc0]),
     stepL_pure rfl rfl (fun a W hJ hq hd => by
        have e0 := hq 2 (by decide)
        revert e0; generalize a.eval = ρ; intro e0
        simp [execOp, go_sem, e0]),
     stepL_pure rfl rfl (fun a W hJ hq hd => by
        have e0 := hq 4 (by decide)
        revert e0; generalize a.eval = ρ; intro e0
        simp [execOp, go_sem, e0]),
     stepL_pure rfl rfl (fun a W hJ hq hd => by
        have e0 := hd ⟨2, .data⟩ (by simp) rfl 71 rfl (of_decide_eq_true rfl) _ rfl
        have hc0 := hJ.cell n2 m4
        revert e0; generalize a.eval = ρ; intro e0
        simp [execOp, go_sem, e0, hc0]),
     stepL_pure rfl rfl (fun a W hJ hq hd => by
        have e0 := hd ⟨1, .data⟩ (by simp) rfl 70 rfl (of_decide_eq_true rfl) _ rfl
        have e1 := hd ⟨3, .data⟩ (by simp) rfl 72 rfl (of_decide_eq_true rfl) _ rfl
        revert e0 e1; generalize a.eval = ρ; intro e0 e1
        simp [execOp, go_sem, e0, e1]
        exact fun h => absurd h (by omega)),
     stepL_pureDens (x := p) (y := q) rfl rfl da da' (fun a W hJ hq hd => by
        have e0 := hd ⟨4, .data⟩ (by simp) rfl 73 rfl (of_decide_eq_true rfl) _ rfl
        have hx0 := hJ.cell hd0 md
        have hx1 := hJ.cell hd1 md
        revert e0; generalize a.eval = ρ; intro e0
        simp [execOp, go_sem, e0, hx0, hx1]),
     stepL_other (j := 5) (d := 74) rfl (by simp) rfl (of_decide_eq_true rfl) rfl rfl rfl,
     stepL_pure rfl rfl (fun a W hJ hq hd => by
        have e0 := hq 2 (by decide)
        revert e0; generalize a.eval = ρ; intro e0
        simp [execOp, go_sem, e0]),
     stepL_pure rfl rfl (fun a W hJ hq hd => by
        have e0 := hq 4 (by decide)
        revert e0; generalize a.eval = ρ; intro e0
        simp [execOp, go_sem, e0]),
     stepL_pure rfl rfl (fun a W hJ hq hd => by
        have e0 := hd ⟨8, .data⟩ (by simp) rfl 77 rfl (of_decide_eq_true rfl) _ rfl
        have hc0 := hJ.cell n3 m4
        revert e0; generalize a.eval = ρ; intro e0
        simp [execOp, go_sem, e0, hc0]),
     stepL_pure rfl rfl (fun a W hJ hq hd => by
        have e0 := hd ⟨7, .data⟩ (by simp) rfl 76 rfl (of_decide_eq_true rfl) _ rfl
        have e1 := hd ⟨9, .data⟩ (by simp) rfl 78 rfl (of_decide_eq_true rfl) _ rfl
        revert e0 e1; generalize a.eval = ρ; intro e0 e1
        simp [execOp, go_sem, e0, e1]
        exact fun h => absurd h (by omega)),
     stepL_pureDens (x := p2) (y := q2) rfl rfl db db' (fun a W hJ hq hd => by
        have e0 := hd ⟨10, .data⟩ (by simp) rfl 79 rfl (of_decide_eq_true rfl) _ rfl
        have hx0 := hJ.cell hd2 md
        have hx1 := hJ.cell hd3 md
        revert e0; generalize a.eval = ρ; intro e0
        simp [execOp, go_sem, e0, hx0, hx1]),
     stepL_two (j1 := 6) (j2 := 11) (d1 := 75) (d2 := 80) (op := 5) (by simp) (by simp) rfl rfl (of_decide_eq_true rfl) (of_decide_eq_true rfl) rfl hlen (by simp) hT1 h3 m2 rfl rfl rfl (fun a W hq hd => by
        have e0 := hd ⟨0, .data⟩ (by simp) rfl 69 rfl (of_decide_eq_true rfl) _ rfl
        have e1 : a.eval (.const (.int .i64 5)) = .int .i64 5 := rfl
        have hf : a.eval (.func 126) = .func (.func 126) #[] #[] := rfl
        revert e0 e1 hf; generalize a.eval = ρ; intro e0 e1 hf
        simp [execOp, go_sem, e0, e1, hf]),
     stepL_store (j := 12) (d := 81) (s := 6) rfl (by decide) rfl (by simp) rfl (of_decide_eq_true rfl) rfl rfl rfl, trivial⟩ ?_
  intro f W2 nv2 ns2 hJ hR
  obtain ⟨x, y, c0, c1, e0, e1⟩ := hJ.fill (hR 13 (by decide))
  have hG := (hJ.grown hk (by simp only; omega) r').mono (k' := 4) (by simp)
  clear hR hJ hst
  simp only [puts, Nat.zero_add, Nat.reduceAdd, Act.put, List.setIfInBounds_toArray, List.set_cons_succ, List.set_cons_zero, List.set_nil]
  simp only at c0 c1
  go_wp2
  refine bodyPost_ret (v := .agg #[.int .i64 x, .int .i64 y]) (by simp [results, Tryd.results90, go_sem, c0, c1]) rfl ⟨x, y, nv2, ns2, rfl, hG, e0, e1⟩

set_option maxRecDepth 100000 in
set_option maxHeartbeats 4000000 in
theorem both90_4 (base L bm r' : Nat) (w : World) (nv : Value) (ns : List Nd) (k k2 : Nat) (p q p2 q2 : Int) (a b : Tr) (dg dn dc : Nat) (hkd : k < dn) (hkd2 : k2 < dn) (hc0 : w.cell? ⟨dg, k * 2, none⟩ = some (.int .i64 p)) (hc1 : w.cell? ⟨dg, k * 2 + 1, none⟩ = some (.int .i64 q)) (hc2 : w.cell? ⟨dg, k2 * 2, none⟩ = some (.int .i64 p2)) (hc3 : w.cell? ⟨dg, k2 * 2 + 1, none⟩ = some (.int .i64 q2)) (da : Den ns p (plainT a false)) (da' : Den ns q (plainT a true)) (db : Den ns p2 (plainT b false)) (db' : Den ns q2 (plainT b true)) (hdg : ¬ LSet L bm nv dg) (hT : TabT w) (h3 : 3 ≤ base) (hL : LIn w base L bm nv ns) (ho : Ord ns) (hb : base ≤ w.heap.size) (hlen4 : ns.length + 4 ≤ 1073741824) :
    Calls Tryd.prog 90 #[.agg #[.pointer (some ⟨L, 0, none⟩)], .agg #[.int .i64 4, .int .i64 0, .int .i64 (k : Int), .int .i64 (k2 : Int)], .slice (some ⟨dg, 0, none⟩) dn dc] w fun e w' => Sides ⟨base, L, bm, r'⟩ 4 w nv ns (binT 4 (plainT a false) (plainT b false)) (binT 5 (plainT a true) (plainT b true)) e w' := by
  have HL : Hid (LIn w base L bm nv ns) := hL
  clear hL
  go_enter Tryd.func90, Tryd.ntmps90
  go_upto_region 20 with fail
  obtain ⟨w1, hw1⟩ : ∃ w1, w1 = ((w.alloc (.cells #[.pointer (some ⟨L, 0, none⟩)] 145)).alloc (.cells #[.int .i64 4, .int .i64 0, .int .i64 (k : Int), .int .i64 (k2 : Int)] 102)).alloc (.cells #[.int .i64 0, .int .i64 0] 148) := ⟨_, rfl⟩
  have E : Ent w w1 L 4 0 (k : Int) (k2 : Int) := by rw [hw1]; exact ent90 _ _ _ _ _ _
  rw [← hw1]
  clear hw1
  obtain ⟨hk, hp, n0, n1, n2, n3, r0, r1, f0, f1⟩ := E
  have hst : LSt ⟨base, L, bm, w.heap.size + 1 + 1⟩ w1 nv ns := LSt.mk' HL.out ho hb hk (by omega) r0 r1 f0 f1
  have hd0 : w1.cell? ⟨dg, k * 2, none⟩ = some (.int .i64 p) := (hk.cell (p := ⟨dg, k * 2, none⟩) (lt_of_cell hc0) (fun f => f)).trans hc0
  have hd1 : w1.cell? ⟨dg, k * 2 + 1, none⟩ = some (.int .i64 q) := (hk.cell (p := ⟨dg, k * 2 + 1, none⟩) (lt_of_cell hc1) (fun f => f)).trans hc1
  have hd2 : w1.cell? ⟨dg, k2 * 2, none⟩ = some (.int .i64 p2) := (hk.cell (p := ⟨dg, k2 * 2, none⟩) (lt_of_cell hc2) (fun f => f)).trans hc2
  have hd3 : w1.cell? ⟨dg, k2 * 2 + 1, none⟩ = some (.int .i64 q2) := (hk.cell (p := ⟨dg, k2 * 2 + 1, none⟩) (lt_of_cell hc3) (fun f => f)).trans hc3
  have hlen : ns.length + [0, 0, 0, 0, 0, 0, 0, 0, 0, 0, 0, 0, 0, 2, 0].sum ≤ 1073741824 := by simp; omega
  have hT1 : TabT w1 := hT.kept hk (fun f => f)
  have m3 : ¬ (LSet L bm nv w.heap.size ∨ w.heap.size = w.heap.size + 1 + 1) := not_lset HL.out (.inl (by omega)) (by omega)
  have m4 : ¬ (LSet L bm nv (w.heap.size + 1) ∨ w.heap.size + 1 = w.heap.size + 1 + 1) := not_lset HL.out (.inl (by omega)) (by omega)
  have m2 : ¬ (LSet L bm nv 2 ∨ 2 = w.heap.size + 1 + 1) := not_lset HL.out (.inr (by omega)) (by omega)
  have md : ¬ (LSet L bm nv dg ∨ dg = w.heap.size + 1 + 1) := by
    rintro (e | e)
    · exact hdg e
    · have := lt_of_cell hc0; simp only at this; omega
  refine wp_region_L ⟨base, L, bm, w.heap.size + 1 + 1⟩ (binT 4 (plainT a false) (plainT b false)) (binT 5 (plainT a true) (plainT b true)) nv ns [105, 106, 107, 108, 109, 110, 111, 112, 113, 114, 115, 116, 117, 118, 119]
    [.val (.agg #[.pointer (some ⟨L, 0, none⟩)]), .val (.pointer (some ⟨w.heap.size + 1, 0, none⟩)), .val (.int .i64 4), .val (.slice (some ⟨dg, 0, none⟩) dn dc), .val (.pointer (some ⟨w.heap.size + 1, 2, none⟩)), .val (.int .i64 (k : Int)), .val (.pointer (some ⟨dg, k * 2, none⟩)), .dens (plainT a false) (plainT a true), .val (.slice (some ⟨dg, 0, none⟩) dn dc), .val (.pointer (some ⟨w.heap.size + 1, 3, none⟩)), .val (.int .i64 (k2 : Int)), .val (.pointer (some ⟨dg, k2 * 2, none⟩)), .dens (plainT b false) (plainT b true), .dens (binT 4 (plainT a false) (plainT b false)) (binT 5 (plainT a true) (plainT b true)), .fill]
    [0, 0, 0, 0, 0, 0, 0, 0, 0, 0, 0, 0, 0, 2, 0] hst rfl (by decide) rfl (by kernel_rfl) rfl
    ⟨stepL_pure rfl rfl (fun a W hJ hq hd => by
        have e0 := hq 3 (by decide)
        have hc0 := hJ.cell hp m3
        revert e0; generalize a.eval = ρ; intro e0
        simp [execOp, go_sem, e0, hc0]),
     stepL_pure rfl rfl (fun a W hJ hq hd => by
        have e0 := hq 4 (by decide)
        revert e0; generalize a.eval = ρ; intro e0
        simp [execOp, go_sem, e0]),
     stepL_pure rfl rfl (fun a W hJ hq hd => by
        have e0 := hd ⟨1, .data⟩ (by simp) rfl 106 rfl (of_decide_eq_true rfl) _ rfl
        have hc0 := hJ.cell n0 m4
        revert e0; generalize a.eval = ρ; intro e0
        simp [execOp, go_sem, e0, hc0]),
     stepL_pure rfl rfl (fun a W hJ hq hd => by
        have e0 := hq 2 (by decide)
        revert e0; generalize a.eval = ρ; intro e0
        simp [execOp, go_sem, e0]),
     stepL_pure rfl rfl (fun a W hJ hq hd => by
        have e0 := hq 4 (by decide)
        revert e0; generalize a.eval = ρ; intro e0
        simp [execOp, go_sem, e0]),
     stepL_pure rfl rfl (fun a W hJ hq hd => by
        have e0 := hd ⟨4, .data⟩ (by simp) rfl 109 rfl (of_decide_eq_true rfl) _ rfl
        have hc0 := hJ.cell n2 m4
        revert e0; generalize a.eval = ρ; intro e0
        simp [execOp, go_sem, e0, hc0]),
     stepL_pure rfl rfl (fun a W hJ hq hd => by
        have e0 := hd ⟨3, .data⟩ (by simp) rfl 108 rfl (of_decide_eq_true rfl) _ rfl
        have e1 := hd ⟨5, .data⟩ (by simp) rfl 110 rfl (of_decide_eq_true rfl) _ rfl
        revert e0 e1; generalize a.eval = ρ; intro e0 e1
        simp [execOp, go_sem, e0, e1]
        exact fun h => absurd h (by omega)),
     stepL_pureDens (x := p) (y := q) rfl rfl da da' (fun a W hJ hq hd => by
        have e0 := hd ⟨6, .data⟩ (by simp) rfl 111 rfl (of_decide_eq_true rfl) _ rfl
        have hx0 := hJ.cell hd0 md
        have hx1 := hJ.cell hd1 md
        revert e0; generalize a.eval = ρ; intro e0
        simp [execOp, go_sem, e0, hx0, hx1]),
     stepL_pure rfl rfl (fun a W hJ hq hd => by
        have e0 := hq 2 (by decide)
        revert e0; generalize a.eval = ρ; intro e0
        simp [execOp, go_sem, e0]),
     stepL_pure rfl rfl (fun a W hJ hq hd => by
        have e0 := hq 4 (by decide)
        revert e0; generalize a.eval = ρ; intro e0
        simp [execOp, go_sem, e0]),
     stepL_pure rfl rfl (fun a W hJ hq hd => by
        have e0 := hd ⟨9, .data⟩ (by simp) rfl 114 rfl (of_decide_eq_true rfl) _ rfl
        have hc0 := hJ.cell n3 m4
        revert e0; generalize a.eval = ρ; intro e0
        simp [execOp, go_sem, e0, hc0]),
     stepL_pure rfl rfl (fun a W hJ hq hd => by
        have e0 := hd ⟨8, .data⟩ (by simp) rfl 113 rfl (of_decide_eq_true rfl) _ rfl
        have e1 := hd ⟨10, .data⟩ (by simp) rfl 115 rfl (of_decide_eq_true rfl) _ rfl
        revert e0 e1; generalize a.eval = ρ; intro e0 e1
        simp [execOp, go_sem, e0, e1]
        exact fun h => absurd h (by omega)),
     stepL_pureDens (x := p2) (y := q2) rfl rfl db db' (fun a W hJ hq hd => by
        have e0 := hd ⟨11, .data⟩ (by simp) rfl 116 rfl (of_decide_eq_true rfl) _ rfl
        have hx0 := hJ.cell hd2 md
        have hx1 := hJ.cell hd3 md
        revert e0; generalize a.eval = ρ; intro e0
        simp [execOp, go_sem, e0, hx0, hx1]),
     stepL_two (j1 := 7) (j2 := 12) (d1 := 112) (d2 := 117) (op := 4) (by simp) (by simp) rfl rfl (of_decide_eq_true rfl) (of_decide_eq_true rfl) rfl hlen (by simp) hT1 h3 m2 rfl rfl rfl (fun a W hq hd => by
        have e0 := hd ⟨0, .data⟩ (by simp) rfl 105 rfl (of_decide_eq_true rfl) _ rfl
        have e1 := hd ⟨2, .data⟩ (by simp) rfl 107 rfl (of_decide_eq_true rfl) _ rfl
        have hf : a.eval (.func 126) = .func (.func 126) #[] #[] := rfl
        revert e0 e1 hf; generalize a.eval = ρ; intro e0 e1 hf
        simp [execOp, go_sem, e0, e1, hf]),
     stepL_store (j := 13) (d := 118) (s := 6) rfl (by decide) rfl (by simp) rfl (of_decide_eq_true rfl) rfl rfl rfl, trivial⟩ ?_
  intro f W2 nv2 ns2 hJ hR
  obtain ⟨x, y, c0, c1, e0, e1⟩ := hJ.fill (hR 14 (by decide))
  have hG := (hJ.grown hk (by simp only; omega) r').mono (k' := 4) (by simp)
  clear hR hJ hst
  simp only [puts, Nat.zero_add, Nat.reduceAdd, Act.put, List.setIfInBounds_toArray, List.set_cons_succ, List.set_cons_zero, List.set_nil]
  simp only at c0 c1
  go_wp2
  refine bodyPost_ret (v := .agg #[.int .i64 x, .int .i64 y]) (by simp [results, Tryd.results90, go_sem, c0, c1]) rfl ⟨x, y, nv2, ns2, rfl, hG, e0, e1⟩

set_option maxRecDepth 100000 in
set_option maxHeartbeats 4000000 in
theorem both90_5 (base L bm r' : Nat) (w : World) (nv : Value) (ns : List Nd) (k k2 : Nat) (p q p2 q2 : Int) (a b : Tr) (dg dn dc : Nat) (hkd : k < dn) (hkd2 : k2 < dn) (hc0 : w.cell? ⟨dg, k * 2, none⟩ = some (.int .i64 p)) (hc1 : w.cell? ⟨dg, k * 2 + 1, none⟩ = some (.int .i64 q)) (hc2 : w.cell? ⟨dg, k2 * 2, none⟩ = some (.int .i64 p2)) (hc3 : w.cell? ⟨dg, k2 * 2 + 1, none⟩ = some (.int .i64 q2)) (da : Den ns p (plainT a false)) (da' : Den ns q (plainT a true)) (db : Den ns p2 (plainT b false)) (db' : Den ns q2 (plainT b true)) (hdg : ¬ LSet L bm nv dg) (hT : TabT w) (h3 : 3 ≤ base) (hL : LIn w base L bm nv ns) (ho : Ord ns) (hb : base ≤ w.heap.size) (hlen4 : ns.length + 4 ≤ 1073741824) :
    Calls Tryd.prog 90 #[.agg #[.pointer (some ⟨L, 0, none⟩)], .agg #[.int .i64 5, .int .i64 0, .int .i64 (k : Int), .int .i64 (k2 : Int)], .slice (some ⟨dg, 0, none⟩) dn dc] w fun e w' => Sides ⟨base, L, bm, r'⟩ 4 w nv ns (binT 5 (plainT a false) (plainT b false)) (binT 4 (plainT a true) (plainT b true)) e w' := by
  have HL : Hid (LIn w base L bm nv ns) := hL
  clear hL
  go_enter Tryd.func90, Tryd.ntmps90
  go_upto_region 20 with fail
  obtain ⟨w1, hw1⟩ : ∃ w1, w1 = ((w.alloc (.cells #[.pointer (some ⟨L, 0, none⟩)] 145)).alloc (.cells #[.int .i64 5, .int .i64 0, .int .i64 (k : Int), .int .i64 (k2 : Int)] 102)).alloc (.cells #[.int .i64 0, .int .i64 0] 148) := ⟨_, rfl⟩
  have E : Ent w w1 L 5 0 (k : Int) (k2 : Int) := by rw [hw1]; exact ent90 _ _ _ _ _ _
  rw [← hw1]
  clear hw1
  obtain ⟨hk, hp, n0, n1, n2, n3, r0, r1, f0, f1⟩ := E
  have hst : LSt ⟨base, L, bm, w.heap.size + 1 + 1⟩ w1 nv ns := LSt.mk' HL.out ho hb hk (by omega) r0 r1 f0 f1
  have hd0 : w1.cell? ⟨dg, k * 2, none⟩ = some (.int .i64 p) := (hk.cell (p := ⟨dg, k * 2, none⟩) (lt_of_cell hc0) (fun f => f)).trans hc0
  have hd1 : w1.cell? ⟨dg, k * 2 + 1, none⟩ = some (.int .i64 q) := (hk.cell (p := ⟨dg, k * 2 + 1, none⟩) (lt_of_cell hc1) (fun f => f)).trans hc1
  have hd2 : w1.cell? ⟨dg, k2 * 2, none⟩ = some (.int .i64 p2) := (hk.cell (p := ⟨dg, k2 * 2, none⟩) (lt_of_cell hc2) (fun f => f)).trans hc2
  have hd3 : w1.cell? ⟨dg, k2 * 2 + 1, none⟩ = some (.int .i64 q2) := (hk.cell (p := ⟨dg, k2 * 2 + 1, none⟩) (lt_of_cell hc3) (fun f => f)).trans hc3
  have hlen : ns.length + [0, 0, 0, 0, 0, 0, 0, 0, 0, 0, 0, 0, 0, 2, 0].sum ≤ 1073741824 := by simp; omega
  have hT1 : TabT w1 := hT.kept hk (fun f => f)
  have m3 : ¬ (LSet L bm nv w.heap.size ∨ w.heap.size = w.heap.size + 1 + 1) := not_lset HL.out (.inl (by omega)) (by omega)
  have m4 : ¬ (LSet L bm nv (w.heap.size + 1) ∨ w.heap.size + 1 = w.heap.size + 1 + 1) := not_lset HL.out (.inl (by omega)) (by omega)
  have m2 : ¬ (LSet L bm nv 2 ∨ 2 = w.heap.size + 1 + 1) := not_lset HL.out (.inr (by omega)) (by omega)
  have md : ¬ (LSet L bm nv dg ∨ dg = w.heap.size + 1 + 1) := by
    rintro (e | e)
    · exact hdg e
    · have := lt_of_cell hc0; simp only at this; omega
  refine wp_region_L ⟨base, L, bm, w.heap.size + 1 + 1⟩ (binT 5 (plainT a false) (plainT b false)) (binT 4 (plainT a true) (plainT b true)) nv ns [105, 106, 107, 108, 109, 110, 111, 112, 113, 114, 115, 116, 117, 118, 119]
    [.val (.agg #[.pointer (some ⟨L, 0, none⟩)]), .val (.pointer (some ⟨w.heap.size + 1, 0, none⟩)), .val (.int .i64 5), .val (.slice (some ⟨dg, 0, none⟩) dn dc), .val (.pointer (some ⟨w.heap.size + 1, 2, none⟩)), .val (.int .i64 (k : Int)), .val (.pointer (some ⟨dg, k * 2, none⟩)), .dens (plainT a false) (plainT a true), .val (.slice (some ⟨dg, 0, none⟩) dn dc), .val (.pointer (some ⟨w.heap.size + 1, 3, none⟩)), .val (.int .i64 (k2 : Int)), .val (.pointer (some ⟨dg, k2 * 2, none⟩)), .dens (plainT b false) (plainT b true), .dens (binT 5 (plainT a false) (plainT b false)) (binT 4 (plainT a true) (plainT b true)), .fill]
    [0, 0, 0, 0, 0, 0, 0, 0, 0, 0, 0, 0, 0, 2, 0] hst rfl (by decide) rfl (by kernel_rfl) rfl
    ⟨stepL_pure rfl rfl (fun a W hJ hq hd => by
        have e0 := hq 3 (by decide)
        have hc0 := hJ.cell hp m3
        revert e0; generalize a.eval = ρ; intro e0
        simp [execOp, go_sem, e0, hc0]),
     stepL_pure rfl rfl (fun a W hJ hq hd => by
        have e0 := hq 4 (by decide)
        revert e0; generalize a.eval = ρ; intro e0
        simp [execOp, go_sem, e0]),
     stepL_pure rfl rfl (fun a W hJ hq hd => by
        have e0 := hd ⟨1, .data⟩ (by simp) rfl 106 rfl (of_decide_eq_true rfl) _ rfl
        have hc0 := hJ.cell n0 m4
        revert e0; generalize a.eval = ρ; intro e0
        simp [execOp, go_sem, e0, hc0]),
     stepL_pure rfl rfl (fun a W hJ hq hd => by
        have e0 := hq 2 (by decide)
        revert e0; generalize a.eval = ρ; intro e0
        simp [execOp, go_sem, e0]),
     stepL_pure rfl rfl (fun a W hJ hq hd => by
        have e0 := hq 4 (by decide)
        revert e0; generalize a.eval = ρ; intro e0
        simp [execOp, go_sem, e0]),
     stepL_pure rfl rfl (fun a W hJ hq hd => by
        have e0 := hd ⟨4, .data⟩ (by simp) rfl 109 rfl (of_decide_eq_true rfl) _ rfl
        have hc0 := hJ.cell n2 m4
        revert e0; generalize a.eval = ρ; intro e0
        simp [execOp, go_sem, e0, hc0]),
     stepL_pure rfl rfl (fun a W hJ hq hd => by
        have e0 := hd ⟨3, .data⟩ (by simp) rfl 108 rfl (of_decide_eq_true rfl) _ rfl
        have e1 := hd ⟨5, .data⟩ (by simp) rfl 110 rfl (of_decide_eq_true rfl) _ rfl
        revert e0 e1; generalize a.eval = ρ; intro e0 e1
        simp [execOp, go_sem, e0, e1]
        exact fun h => absurd h (by omega)),
     stepL_pureDens (x := p) (y := q) rfl rfl da da' (fun a W hJ hq hd => by
        have e0 := hd ⟨6, .data⟩ (by simp) rfl 111 rfl (of_decide_eq_true rfl) _ rfl
        have hx0 := hJ.cell hd0 md
        have hx1 := hJ.cell hd1 md
        revert e0; generalize a.eval = ρ; intro e0
        simp [execOp, go_sem, e0, hx0, hx1]),
     stepL_pure rfl rfl (fun a W hJ hq hd => by
        have e0 := hq 2 (by decide)
        revert e0; generalize a.eval = ρ; intro e0
        simp [execOp, go_sem, e0]),
     stepL_pure rfl rfl (fun a W hJ hq hd => by
        have e0 := hq 4 (by decide)
        revert e0; generalize a.eval = ρ; intro e0
        simp [execOp, go_sem, e0]),
     stepL_pure rfl rfl (fun a W hJ hq hd => by
        have e0 := hd ⟨9, .data⟩ (by simp) rfl 114 rfl (of_decide_eq_true rfl) _ rfl
        have hc0 := hJ.cell n3 m4
        revert e0; generalize a.eval = ρ; intro e0
        simp [execOp, go_sem, e0, hc0]),
     stepL_pure rfl rfl (fun a W hJ hq hd => by
        have e0 := hd ⟨8, .data⟩ (by simp) rfl 113 rfl (of_decide_eq_true rfl) _ rfl
        have e1 := hd ⟨10, .data⟩ (by simp) rfl 115 rfl (of_decide_eq_true rfl) _ rfl
        revert e0 e1; generalize a.eval = ρ; intro e0 e1
        simp [execOp, go_sem, e0, e1]
        exact fun h => absurd h (by omega)),
     stepL_pureDens (x := p2) (y := q2) rfl rfl db db' (fun a W hJ hq hd => by
        have e0 := hd ⟨11, .data⟩ (by simp) rfl 116 rfl (of_decide_eq_true rfl) _ rfl
        have hx0 := hJ.cell hd2 md
        have hx1 := hJ.cell hd3 md
        revert e0; generalize a.eval = ρ; intro e0
        simp [execOp, go_sem, e0, hx0, hx1]),
     stepL_two (j1 := 7) (j2 := 12) (d1 := 112) (d2 := 117) (op := 5) (by simp) (by simp) rfl rfl (of_decide_eq_true rfl) (of_decide_eq_true rfl) rfl hlen (by simp) hT1 h3 m2 rfl rfl rfl (fun a W hq hd => by
        have e0 := hd ⟨0, .data⟩ (by simp) rfl 105 rfl (of_decide_eq_true rfl) _ rfl
        have e1 := hd ⟨2, .data⟩ (by simp) rfl 107 rfl (of_decide_eq_true rfl) _ rfl
        have hf : a.eval (.func 126) = .func (.func 126) #[] #[] := rfl
        revert e0 e1 hf; generalize a.eval = ρ; intro e0 e1 hf
        simp [execOp, go_sem, e0, e1, hf]),
     stepL_store (j := 13) (d := 118) (s := 6) rfl (by decide) rfl (by simp) rfl (of_decide_eq_true rfl) rfl rfl rfl, trivial⟩ ?_
  intro f W2 nv2 ns2 hJ hR
  obtain ⟨x, y, c0, c1, e0, e1⟩ := hJ.fill (hR 14 (by decide))
  have hG := (hJ.grown hk (by simp only; omega) r').mono (k' := 4) (by simp)
  clear hR hJ hst
  simp only [puts, Nat.zero_add, Nat.reduceAdd, Act.put, List.setIfInBounds_toArray, List.set_cons_succ, List.set_cons_zero, List.set_nil]
  simp only at c0 c1
  go_wp2
  refine bodyPost_ret (v := .agg #[.int .i64 x, .int .i64 y]) (by simp [results, Tryd.results90, go_sem, c0, c1]) rfl ⟨x, y, nv2, ns2, rfl, hG, e0, e1⟩

set_option maxRecDepth 100000 in
set_option maxHeartbeats 4000000 in
theorem both90_8 (base L bm r' : Nat) (w : World) (nv : Value) (ns : List Nd) (k k2 : Nat) (p q p2 q2 : Int) (a b : Tr) (dg dn dc : Nat) (hkd : k < dn) (hkd2 : k2 < dn) (hc0 : w.cell? ⟨dg, k * 2, none⟩ = some (.int .i64 p)) (hc1 : w.cell? ⟨dg, k * 2 + 1, none⟩ = some (.int .i64 q)) (hc2 : w.cell? ⟨dg, k2 * 2, none⟩ = some (.int .i64 p2)) (hc3 : w.cell? ⟨dg, k2 * 2 + 1, none⟩ = some (.int .i64 q2)) (da : Den ns p (plainT a false)) (da' : Den ns q (plainT a true)) (db : Den ns p2 (plainT b false)) (db' : Den ns q2 (plainT b true)) (hdg : ¬ LSet L bm nv dg) (hT : TabT w) (h3 : 3 ≤ base) (hL : LIn w base L bm nv ns) (ho : Ord ns) (hb : base ≤ w.heap.size) (hlen4 : ns.length + 4 ≤ 1073741824) :
    Calls Tryd.prog 90 #[.agg #[.pointer (some ⟨L, 0, none⟩)], .agg #[.int .i64 8, .int .i64 0, .int .i64 (k : Int), .int .i64 (k2 : Int)], .slice (some ⟨dg, 0, none⟩) dn dc] w fun e w' => Sides ⟨base, L, bm, r'⟩ 4 w nv ns (binT 8 (plainT a false) (plainT b false)) (binT 9 (plainT a true) (plainT b true)) e w' := by
  have HL : Hid (LIn w base L bm nv ns) := hL
  clear hL
  go_enter Tryd.func90, Tryd.ntmps90
  go_upto_region 20 with fail
  obtain ⟨w1, hw1⟩ : ∃ w1, w1 = ((w.alloc (.cells #[.pointer (some ⟨L, 0, none⟩)] 145)).alloc (.cells #[.int .i64 8, .int .i64 0, .int .i64 (k : Int), .int .i64 (k2 : Int)] 102)).alloc (.cells #[.int .i64 0, .int .i64 0] 148) := ⟨_, rfl⟩
  have E : Ent w w1 L 8 0 (k : Int) (k2 : Int) := by rw [hw1]; exact ent90 _ _ _ _ _ _
  rw [← hw1]
  clear hw1
  obtain ⟨hk, hp, n0, n1, n2, n3, r0, r1, f0, f1⟩ := E
  have hst : LSt ⟨base, L, bm, w.heap.size + 1 + 1⟩ w1 nv ns := LSt.mk' HL.out ho hb hk (by omega) r0 r1 f0 f1
  have hd0 : w1.cell? ⟨dg, k * 2, none⟩ = some (.int .i64 p) := (hk.cell (p := ⟨dg, k * 2, none⟩) (lt_of_cell hc0) (fun f => f)).trans hc0
  have hd1 : w1.cell? ⟨dg, k * 2 + 1, none⟩ = some (.int .i64 q) := (hk.cell (p := ⟨dg, k * 2 + 1, none⟩) (lt_of_cell hc1) (fun f => f)).trans hc1
  have hd2 : w1.cell? ⟨dg, k2 * 2, none⟩ = some (.int .i64 p2) := (hk.cell (p := ⟨dg, k2 * 2, none⟩) (lt_of_cell hc2) (fun f => f)).trans hc2
  have hd3 : w1.cell? ⟨dg, k2 * 2 + 1, none⟩ = some (.int .i64 q2) := (hk.cell (p := ⟨dg, k2 * 2 + 1, none⟩) (lt_of_cell hc3) (fun f => f)).trans hc3
  have hlen : ns.length + [0, 0, 0, 0, 0, 0, 0, 0, 0, 0, 0, 0, 0, 2, 0].sum ≤ 1073741824 := by simp; omega
  have hT1 : TabT w1 := hT.kept hk (fun f => f)
  have m3 : ¬ (LSet L bm nv w.heap.size ∨ w.heap.size = w.heap.size + 1 + 1) := not_lset HL.out (.inl (by omega)) (by omega)
  have m4 : ¬ (LSet L bm nv (w.heap.size + 1) ∨ w.heap.size + 1 = w.heap.size + 1 + 1) := not_lset HL.out (.inl (by omega)) (by omega)
  have m2 : ¬ (LSet L bm nv 2 ∨ 2 = w.heap.size + 1 + 1) := not_lset HL.out (.inr (by omega)) (by omega)
  have md : ¬ (LSet L bm nv dg ∨ dg = w.heap.size + 1 + 1) := by
    rintro (e | e)
    · exact hdg e
    · have := lt_of_cell hc0; simp only at this; omega
  refine wp_region_L ⟨base, L, bm, w.heap.size + 1 + 1⟩ (binT 8 (plainT a false) (plainT b false)) (binT 9 (plainT a true) (plainT b true)) nv ns [105, 106, 107, 108, 109, 110, 111, 112, 113, 114, 115, 116, 117, 118, 119]
    [.val (.agg #[.pointer (some ⟨L, 0, none⟩)]), .val (.pointer (some ⟨w.heap.size + 1, 0, none⟩)), .val (.int .i64 8), .val (.slice (some ⟨dg, 0, none⟩) dn dc), .val (.pointer (some ⟨w.heap.size + 1, 2, none⟩)), .val (.int .i64 (k : Int)), .val (.pointer (some ⟨dg, k * 2, none⟩)), .dens (plainT a false) (plainT a true), .val (.slice (some ⟨dg, 0, none⟩) dn dc), .val (.pointer (some ⟨w.heap.size + 1, 3, none⟩)), .val (.int .i64 (k2 : Int)), .val (.pointer (some ⟨dg, k2 * 2, none⟩)), .dens (plainT b false) (plainT b true), .dens (binT 8 (plainT a false) (plainT b false)) (binT 9 (plainT a true) (plainT b true)), .fill]
    [0, 0, 0, 0, 0, 0, 0, 0, 0, 0, 0, 0, 0, 2, 0] hst rfl (by decide) rfl (by kernel_rfl) rfl
    ⟨stepL_pure rfl rfl (fun a W hJ hq hd => by
        have e0 := hq 3 (by decide)
        have hc0 := hJ.cell hp m3
        revert e0; generalize a.eval = ρ; intro e0
        simp [execOp, go_sem, e0, hc0]),
     stepL_pure rfl rfl (fun a W hJ hq hd => by
        have e0 := hq 4 (by decide)
        revert e0; generalize a.eval = ρ; intro e0
        simp [execOp, go_sem, e0]),
     stepL_pure rfl rfl (fun a W hJ hq hd => by
        have e0 := hd ⟨1, .data⟩ (by simp) rfl 106 rfl (of_decide_eq_true rfl) _ rfl
        have hc0 := hJ.cell n0 m4
        revert e0; generalize a.eval = ρ; intro e0
        simp [execOp, go_sem, e0, hc0]),
     stepL_pure rfl rfl (fun a W hJ hq hd => by
        have e0 := hq 2 (by decide)
        revert e0; generalize a.eval = ρ; intro e0
        simp [execOp, go_sem, e0]),
     stepL_pure rfl rfl (fun a W hJ hq hd => by
        have e0 := hq 4 (by decide)
        revert e0; generalize a.eval = ρ; intro e0
        simp [execOp, go_sem, e0]),
     stepL_pure rfl rfl (fun a W hJ hq hd => by
        have e0 := hd ⟨4, .data⟩ (by simp) rfl 109 rfl (of_decide_eq_true rfl) _ rfl
        have hc0 := hJ.cell n2 m4
        revert e0; generalize a.eval = ρ; intro e0
        simp [execOp, go_sem, e0, hc0]),
     stepL_pure rfl rfl (fun a W hJ hq hd => by
        have e0 := hd ⟨3, .data⟩ (by simp) rfl 108 rfl (of_decide_eq_true rfl) _ rfl
        have e1 := hd ⟨5, .data⟩ (by simp) rfl 110 rfl (of_decide_eq_true rfl) _ rfl
        revert e0 e1; generalize a.eval = ρ; intro e0 e1
        simp [execOp, go_sem, e0, e1]
        exact fun h => absurd h (by omega)),
     stepL_pureDens (x := p) (y := q) rfl rfl da da' (fun a W hJ hq hd => by
        have e0 := hd ⟨6, .data⟩ (by simp) rfl 111 rfl (of_decide_eq_true rfl) _ rfl
        have hx0 := hJ.cell hd0 md
        have hx1 := hJ.cell hd1 md
        revert e0; generalize a.eval = ρ; intro e0
        simp [execOp, go_sem, e0, hx0, hx1]),
     stepL_pure rfl rfl (fun a W hJ hq hd => by
        have e0 := hq 2 (by decide)
        revert e0; generalize a.eval = ρ; intro e0
        simp [execOp, go_sem, e0]),
     stepL_pure rfl rfl (fun a W hJ hq hd => by
        have e0 := hq 4 (by decide)
        revert e0; generalize a.eval = ρ; intro e0
        simp [execOp, go_sem, e0]),
     stepL_pure rfl rfl (fun a W hJ hq hd => by
        have e0 := hd ⟨9, .data⟩ (by simp) rfl 114 rfl (of_decide_eq_true rfl) _ rfl
        have hc0 := hJ.cell n3 m4
        revert e0; generalize a.eval = ρ; intro e0
        simp [execOp, go_sem, e0, hc0]),
     stepL_pure rfl rfl (fun a W hJ hq hd => by
        have e0 := hd ⟨8, .data⟩ (by simp) rfl 113 rfl (of_decide_eq_true rfl) _ rfl
        have e1 := hd ⟨10, .data⟩ (by simp) rfl 115 rfl (of_decide_eq_true rfl) _ rfl
        revert e0 e1; generalize a.eval = ρ; intro e0 e1
        simp [execOp, go_sem, e0, e1]
        exact fun h => absurd h (by omega)),
     stepL_pureDens (x := p2) (y := q2) rfl rfl db db' (fun a W hJ hq hd => by
        have e0 := hd ⟨11, .data⟩ (by simp) rfl 116 rfl (of_decide_eq_true rfl) _ rfl
        have hx0 := hJ.cell hd2 md
        have hx1 := hJ.cell hd3 md
        revert e0; generalize a.eval = ρ; intro e0
        simp [execOp, go_sem, e0, hx0, hx1]),
     stepL_two (j1 := 7) (j2 := 12) (d1 := 112) (d2 := 117) (op := 8) (by simp) (by simp) rfl rfl (of_decide_eq_true rfl) (of_decide_eq_true rfl) rfl hlen (by simp) hT1 h3 m2 rfl rfl rfl (fun a W hq hd => by
        have e0 := hd ⟨0, .data⟩ (by simp) rfl 105 rfl (of_decide_eq_true rfl) _ rfl
        have e1 := hd ⟨2, .data⟩ (by simp) rfl 107 rfl (of_decide_eq_true rfl) _ rfl
        have hf : a.eval (.func 126) = .func (.func 126) #[] #[] := rfl
        revert e0 e1 hf; generalize a.eval = ρ; intro e0 e1 hf
        simp [execOp, go_sem, e0, e1, hf]),
     stepL_store (j := 13) (d := 118) (s := 6) rfl (by decide) rfl (by simp) rfl (of_decide_eq_true rfl) rfl rfl rfl, trivial⟩ ?_
  intro f W2 nv2 ns2 hJ hR
  obtain ⟨x, y, c0, c1, e0, e1⟩ := hJ.fill (hR 14 (by decide))
  have hG := (hJ.grown hk (by simp only; omega) r').mono (k' := 4) (by simp)
  clear hR hJ hst
  simp only [puts, Nat.zero_add, Nat.reduceAdd, Act.put, List.setIfInBounds_toArray, List.set_cons_succ, List.set_cons_zero, List.set_nil]
  simp only at c0 c1
  go_wp2
  refine bodyPost_ret (v := .agg #[.int .i64 x, .int .i64 y]) (by simp [results, Tryd.results90, go_sem, c0, c1]) rfl ⟨x, y, nv2, ns2, rfl, hG, e0, e1⟩

set_option maxRecDepth 100000 in
set_option maxHeartbeats 4000000 in
theorem both90_9 (base L bm r' : Nat) (w : World) (nv : Value) (ns : List Nd) (k k2 : Nat) (p q p2 q2 : Int) (a b : Tr) (dg dn dc : Nat) (hkd : k < dn) (hkd2 : k2 < dn) (hc0 : w.cell? ⟨dg, k * 2, none⟩ = some (.int .i64 p)) (hc1 : w.cell? ⟨dg, k * 2 + 1, none⟩ = some (.int .i64 q)) (hc2 : w.cell? ⟨dg, k2 * 2, none⟩ = some (.int .i64 p2)) (hc3 : w.cell? ⟨dg, k2 * 2 + 1, none⟩ = some (.int .i64 q2)) (da : Den ns p (plainT a false)) (da' : Den ns q (plainT a true)) (db : Den ns p2 (plainT b false)) (db' : Den ns q2 (plainT b true)) (hdg : ¬ LSet L bm nv dg) (hT : TabT w) (h3 : 3 ≤ base) (hL : LIn w base L bm nv ns) (ho : Ord ns) (hb : base ≤ w.heap.size) (hlen4 : ns.length + 4 ≤ 1073741824) :
    Calls Tryd.prog 90 #[.agg #[.pointer (some ⟨L, 0, none⟩)], .agg #[.int .i64 9, .int .i64 0, .int .i64 (k : Int), .int .i64 (k2 : Int)], .slice (some ⟨dg, 0, none⟩) dn dc] w fun e w' => Sides ⟨base, L, bm, r'⟩ 4 w nv ns (binT 9 (plainT a false) (plainT b false)) (binT 8 (plainT a true) (plainT b true)) e w' := by
  have HL : Hid (LIn w base L bm nv ns) := hL
  clear hL
  go_enter Tryd.func90, Tryd.ntmps90
  go_upto_region 20 with fail
  obtain ⟨w1, hw1⟩ : ∃ w1, w1 = ((w.alloc (.cells #[.pointer (some ⟨L, 0, none⟩)] 145)).alloc (.cells #[.int .i64 9, .int .i64 0, .int .i64 (k : Int), .int .i64 (k2 : Int)] 102)).alloc (.cells #[.int .i64 0, .int .i64 0] 148) := ⟨_, rfl⟩
  have E : Ent w w1 L 9 0 (k : Int) (k2 : Int) := by rw [hw1]; exact ent90 _ _ _ _ _ _
  rw [← hw1]
  clear hw1
  obtain ⟨hk, hp, n0, n1, n2, n3, r0, r1, f0, f1⟩ := E
  have hst : LSt ⟨base, L, bm, w.heap.size + 1 + 1⟩ w1 nv ns := LSt.mk' HL.out ho hb hk (by omega) r0 r1 f0 f1
  have hd0 : w1.cell? ⟨dg, k * 2, none⟩ = some (.int .i64 p) := (hk.cell (p := ⟨dg, k * 2, none⟩) (lt_of_cell hc0) (fun f => f)).trans hc0
  have hd1 : w1.cell? ⟨dg, k * 2 + 1, none⟩ = some (.int .i64 q) := (hk.cell (p := ⟨dg, k * 2 + 1, none⟩) (lt_of_cell hc1) (fun f => f)).trans hc1
  have hd2 : w1.cell? ⟨dg, k2 * 2, none⟩ = some (.int .i64 p2) := (hk.cell (p := ⟨dg, k2 * 2, none⟩) (lt_of_cell hc2) (fun f => f)).trans hc2
  have hd3 : w1.cell? ⟨dg, k2 * 2 + 1, none⟩ = some (.int .i64 q2) := (hk.cell (p := ⟨dg, k2 * 2 + 1, none⟩) (lt_of_cell hc3) (fun f => f)).trans hc3
  have hlen : ns.length + [0, 0, 0, 0, 0, 0, 0, 0, 0, 0, 0, 0, 0, 2, 0].sum ≤ 1073741824 := by simp; omega
  have hT1 : TabT w1 := hT.kept hk (fun f => f)
  have m3 : ¬ (LSet L bm nv w.heap.size ∨ w.heap.size = w.heap.size + 1 + 1) := not_lset HL.out (.inl (by omega)) (by omega)
  have m4 : ¬ (LSet L bm nv (w.heap.size + 1) ∨ w.heap.size + 1 = w.heap.size + 1 + 1) := not_lset HL.out (.inl (by omega)) (by omega)
  have m2 : ¬ (LSet L bm nv 2 ∨ 2 = w.heap.size + 1 + 1) := not_lset HL.out (.inr (by omega)) (by omega)
  have md : ¬ (LSet L bm nv dg ∨ dg = w.heap.size + 1 + 1) := by
    rintro (e | e)
    · exact hdg e
    · have := lt_of_cell hc0; simp only at this; omega
  refine wp_region_L ⟨base, L, bm, w.heap.size + 1 + 1⟩ (binT 9 (plainT a false) (plainT b false)) (binT 8 (plainT a true) (plainT b true)) nv ns [105, 106, 107, 108, 109, 110, 111, 112, 113, 114, 115, 116, 117, 118, 119]
    [.val (.agg #[.pointer (some ⟨L, 0, none⟩)]), .val (.pointer (some ⟨w.heap.size + 1, 0, none⟩)), .val (.int .i64 9), .val (.slice (some ⟨dg, 0, none⟩) dn dc), .val (.pointer (some ⟨w.heap.size + 1, 2, none⟩)), .val (.int .i64 (k : Int)), .val (.pointer (some ⟨dg, k * 2, none⟩)), .dens (plainT a false) (plainT a true), .val (.slice (some ⟨dg, 0, none⟩) dn dc), .val (.pointer (some ⟨w.heap.size + 1, 3, none⟩)), .val (.int .i64 (k2 : Int)), .val (.pointer (some ⟨dg, k2 * 2, none⟩)), .dens (plainT b false) (plainT b true), .dens (binT 9 (plainT a false) (plainT b false)) (binT 8 (plainT a true) (plainT b true)), .fill]
    [0, 0, 0, 0, 0, 0, 0, 0, 0, 0, 0, 0, 0, 2, 0] hst rfl (by decide) rfl (by kernel_rfl) rfl
    ⟨stepL_pure rfl rfl (fun a W hJ hq hd => by
        have e0 := hq 3 (by decide)
        have hc0 := hJ.cell hp m3
        revert e0; generalize a.eval = ρ; intro e0
        simp [execOp, go_sem, e0, hc0]),
     stepL_pure rfl rfl (fun a W hJ hq hd => by
        have e0 := hq 4 (by decide)
        revert e0; generalize a.eval = ρ; intro e0
        simp [execOp, go_sem, e0]),
     stepL_pure rfl rfl (fun a W hJ hq hd => by
        have e0 := hd ⟨1, .data⟩ (by simp) rfl 106 rfl (of_decide_eq_true rfl) _ rfl
        have hc0 := hJ.cell n0 m4
        revert e0; generalize a.eval = ρ; intro e0
        simp [execOp, go_sem, e0, hc0]),
     stepL_pure rfl rfl (fun a W hJ hq hd => by
        have e0 := hq 2 (by decide)
        revert e0; generalize a.eval = ρ; intro e0
        simp [execOp, go_sem, e0]),
     stepL_pure rfl rfl (fun a W hJ hq hd => by
        have e0 := hq 4 (by decide)
        revert e0; generalize a.eval = ρ; intro e0
        simp [execOp, go_sem, e0]),
     stepL_pure rfl rfl (fun a W hJ hq hd => by
        have e0 := hd ⟨4, .data⟩ (by simp) rfl 109 rfl (of_decide_eq_true rfl) _ rfl
        have hc0 := hJ.cell n2 m4
        revert e0; generalize a.eval = ρ; intro e0
        simp [execOp, go_sem, e0, hc0]),
     stepL_pure rfl rfl (fun a W hJ hq hd => by
        have e0 := hd ⟨3, .data⟩ (by simp) rfl 108 rfl (of_decide_eq_true rfl) _ rfl
        have e1 := hd ⟨5, .data⟩ (by simp) rfl 110 rfl (of_decide_eq_true rfl) _ rfl
        revert e0 e1; generalize a.eval = ρ; intro e0 e1
        simp [execOp, go_sem, e0, e1]
        exact fun h => absurd h (by omega)),
     stepL_pureDens (x := p) (y := q) rfl rfl da da' (fun a W hJ hq hd => by
        have e0 := hd ⟨6, .data⟩ (by simp) rfl 111 rfl (of_decide_eq_true rfl) _ rfl
        have hx0 := hJ.cell hd0 md
        have hx1 := hJ.cell hd1 md
        revert e0; generalize a.eval = ρ; intro e0
        simp [execOp, go_sem, e0, hx0, hx1]),
     stepL_pure rfl rfl (fun a W hJ hq hd => by
        have e0 := hq 2 (by decide)
        revert e0; generalize a.eval = ρ; intro e0
        simp [execOp, go_sem, e0]),
     stepL_pure rfl rfl (fun a W hJ hq hd => by
        have e0 := hq 4 (by decide)
        revert e0; generalize a.eval = ρ; intro e0
        simp [execOp, go_sem, e0]),
     stepL_pure rfl rfl (fun a W hJ hq hd => by
        have e0 := hd ⟨9, .data⟩ (by simp) rfl 114 rfl (of_decide_eq_true rfl) _ rfl
        have hc0 := hJ.cell n3 m4
        revert e0; generalize a.eval = ρ; intro e0
        simp [execOp, go_sem, e0, hc0]),
     stepL_pure rfl rfl (fun a W hJ hq hd => by
        have e0 := hd ⟨8, .data⟩ (by simp) rfl 113 rfl (of_decide_eq_true rfl) _ rfl
        have e1 := hd ⟨10, .data⟩ (by simp) rfl 115 rfl (of_decide_eq_true rfl) _ rfl
        revert e0 e1; generalize a.eval = ρ; intro e0 e1
        simp [execOp, go_sem, e0, e1]
        exact fun h => absurd h (by omega)),
     stepL_pureDens (x := p2) (y := q2) rfl rfl db db' (fun a W hJ hq hd => by
        have e0 := hd ⟨11, .data⟩ (by simp) rfl 116 rfl (of_decide_eq_true rfl) _ rfl
        have hx0 := hJ.cell hd2 md
        have hx1 := hJ.cell hd3 md
        revert e0; generalize a.eval = ρ; intro e0
        simp [execOp, go_sem, e0, hx0, hx1]),
     stepL_two (j1 := 7) (j2 := 12) (d1 := 112) (d2 := 117) (op := 9) (by simp) (by simp) rfl rfl (of_decide_eq_true rfl) (of_decide_eq_true rfl) rfl hlen (by simp) hT1 h3 m2 rfl rfl rfl (fun a W hq hd => by
        have e0 := hd ⟨0, .data⟩ (by simp) rfl 105 rfl (of_decide_eq_true rfl) _ rfl
        have e1 := hd ⟨2, .data⟩ (by simp) rfl 107 rfl (of_decide_eq_true rfl) _ rfl
        have hf : a.eval (.func 126) = .func (.func 126) #[] #[] := rfl
        revert e0 e1 hf; generalize a.eval = ρ; intro e0 e1 hf
        simp [execOp, go_sem, e0, e1, hf]),
     stepL_store (j := 13) (d := 118) (s := 6) rfl (by decide) rfl (by simp) rfl (of_decide_eq_true rfl) rfl rfl rfl, trivial⟩ ?_
  intro f W2 nv2 ns2 hJ hR
  obtain ⟨x, y, c0, c1, e0, e1⟩ := hJ.fill (hR 14 (by decide))
  have hG := (hJ.grown hk (by simp only; omega) r').mono (k' := 4) (by simp)
  clear hR hJ hst
  simp only [puts, Nat.zero_add, Nat.reduceAdd, Act.put, List.setIfInBounds_toArray, List.set_cons_succ, List.set_cons_zero, List.set_nil]
  simp only at c0 c1
  go_wp2
  refine bodyPost_ret (v := .agg #[.int .i64 x, .int .i64 y]) (by simp [results, Tryd.results90, go_sem, c0, c1]) rfl ⟨x, y, nv2, ns2, rfl, hG, e0, e1⟩

/-- what is done of Kids -/
def Dones (w : World) (dg dn : Nat) (ns : List Nd) : List Int → List Tr → Prop
  | [], [] => True
  | i :: r, t :: s => DoneAt w dg dn ns i t ∧ Dones w dg dn ns r s
  | _, _ => False
theorem dones1 {w : World} {dg dn : Nat} {ns : List Nd} {ids : List Int} {a : Tr} (h : Dones w dg dn ns ids [a]) : ∃ i, ids = [i] ∧ DoneAt w dg dn ns i a := by
  match ids, h with
  | [i], h => exact ⟨i, rfl, h.1⟩
theorem dones2 {w : World} {dg dn : Nat} {ns : List Nd} {ids : List Int} {a b : Tr} (h : Dones w dg dn ns ids [a, b]) : ∃ i j, ids = [i, j] ∧ DoneAt w dg dn ns i a ∧ DoneAt w dg dn ns j b := by
  match ids, h with
  | [i, j], h => exact ⟨i, j, rfl, h.1, h.2.1⟩
theorem both90 (base L bm r' : Nat) (w : World) (nv : Value) (ns : List Nd) (op n : Int) (ids : List Int) (kids : List Tr) (dg dn dc : Nat) (hw : wellN op n kids.length) (hd : Dones w dg dn ns ids kids) (hdg : ¬ LSet L bm nv dg) (hT : TabT w) (h3 : 3 ≤ base) (hL : LIn w base L bm nv ns) (ho : Ord ns) (hb : base ≤ w.heap.size) (hlen : ns.length + 4 ≤ 1073741824) :
    Calls Tryd.prog 90 #[.agg #[.pointer (some ⟨L, 0, none⟩)], (mkNd op n ids).v, .slice (some ⟨dg, 0, none⟩) dn dc] w fun e w' => Sides ⟨base, L, bm, r'⟩ 4 w nv ns (plainT (.mk op n kids) false) (plainT (.mk op n kids) true) e w' := by
  rcases kids_len hw with ⟨rfl, hop⟩ | ⟨a, rfl, hop⟩ | ⟨a, b, rfl, hop⟩
  · obtain rfl : ids = [] := by
      match ids, hd with
      | [], _ => rfl
    rcases hop with rfl | rfl | rfl
    · have := both90_0 base L bm r' w nv ns n (-1) (-1) dg dn dc hL ho hb hlen
      simpa [plainT, mkNd, Nd.v, ndV] using this
    · have := both90_1 base L bm r' w nv ns n (-1) (-1) dg dn dc hL ho hb hlen
      simpa [plainT, mkNd, Nd.v, ndV] using this
    · have := both90_2 base L bm r' w nv ns n hw dg dn dc hL ho hb hlen
      simpa [plainT, mkNd, Nd.v, ndV] using this
  · obtain ⟨i, rfl, k, p, q, rfl, hkd, c0, c1, d0, d1⟩ := dones1 hd
    rcases hop with rfl | rfl | rfl | rfl
    · have := both90_3 base L bm r' w nv ns k p q a dg dn dc hkd c0 c1 d0 d1 hdg hL ho hb hlen
      simpa [plainT, mkNd, Nd.v, ndV] using this
    · have := both90_7 base L bm r' w nv ns k p q a dg dn dc hkd c0 c1 d0 d1 hdg hT h3 hL ho hb hlen
      simpa [plainT, mkNd, Nd.v, ndV] using this
    · have := both90_10 base L bm r' w nv ns k p q a dg dn dc hkd c0 c1 d0 d1 hdg hT h3 hL ho hb hlen
      simpa [plainT, mkNd, Nd.v, ndV] using this
    · have := both90_11 base L bm r' w nv ns k p q a dg dn dc hkd c0 c1 d0 d1 hdg hT h3 hL ho hb hlen
      simpa [plainT, mkNd, Nd.v, ndV] using this
  · obtain ⟨i, j, rfl, ⟨k, p, q, rfl, hkd, c0, c1, d0, d1⟩, k2, p2, q2, rfl, hkd2, c2, c3, d2, d3⟩ := dones2 hd
    rcases hop with rfl | rfl | rfl | rfl | rfl
    · have := both90_4 base L bm r' w nv ns k k2 p q p2 q2 a b dg dn dc hkd hkd2 c0 c1 c2 c3 d0 d1 d2 d3 hdg hT h3 hL ho hb hlen
      simpa [plainT, mkNd, Nd.v, ndV, otherO] using this
    · have := both90_5 base L bm r' w nv ns k k2 p q p2 q2 a b dg dn dc hkd hkd2 c0 c1 c2 c3 d0 d1 d2 d3 hdg hT h3 hL ho hb hlen
      simpa [plainT, mkNd, Nd.v, ndV, otherO] using this
    · have := both90_6 base L bm r' w nv ns k k2 p q p2 q2 a b dg dn dc hkd hkd2 c0 c1 c2 c3 d0 d1 d2 d3 hdg hT h3 hL ho hb hlen
      simpa [plainT, mkNd, Nd.v, ndV, otherO] using this
    · have := both90_8 base L bm r' w nv ns k k2 p q p2 q2 a b dg dn dc hkd hkd2 c0 c1 c2 c3 d0 d1 d2 d3 hdg hT h3 hL ho hb hlen
      simpa [plainT, mkNd, Nd.v, ndV, otherO] using this
    · have := both90_9 base L bm r' w nv ns k k2 p q p2 q2 a b dg dn dc hkd hkd2 c0 c1 c2 c3 d0 d1 d2 d3 hdg hT h3 hL ho hb hlen
      simpa [plainT, mkNd, Nd.v, ndV, otherO] using this
end Go.Proofs.YtdbpdanocpfboaaDoor
