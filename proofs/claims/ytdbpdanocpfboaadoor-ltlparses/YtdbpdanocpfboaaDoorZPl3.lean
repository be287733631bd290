import Derived.Test.YtdbpdanocpfboaaDoorZPl2
/- What is plain, laid out: both. -/
namespace Go.Proofs.YtdbpdanocpfboaaDoor
open Go.RowKit

section
variable {c : Lc} {t0 t0' : Tr} {w : World} {nv0 : Value} {ns0 : List Nd} {Q : Exit → Act → World → Prop} {a0 : Act} {D : List Nat} {S : List Sk} {ws : List Nat} {i : Nat} {o : Oper}
theorem DenAt.den {c : Lc} {W : World} {nv : Value} {ns : List Nd} {i : Int} {t : Tr} (h : DenAt c W i t) (hs : LSt c W nv ns) : Den ns i t := by
  obtain ⟨nv1, ns1, h1, h2⟩ := h
  obtain ⟨rfl, rfl⟩ := hs.li.uniq h1.li
  exact h2
theorem DenAt.of {c : Lc} {w0 : World} {nv0 : Value} {ns0 : List Nd} {n : Nat} {W : World} (h : JX c w0 nv0 ns0 n W) {i : Int} {t : Tr} (hd : Den ns0 i t) : DenAt c W i t := by
  obtain ⟨nv, ns, h⟩ := h
  exact ⟨nv, ns, h.st, hd.grow h.pre⟩
/-- the number of a formula that is there already -/
theorem stepL_pureDen {x : Int} {t : Tr} (hw : ws.getD i 0 = 0) (hS : S.getD i (.val undef) = .den t) (hx : Den ns0 x t)
    (h : ∀ (a : Act) (W : World), JX c w nv0 ns0 ws.sum W → (∀ s, s ∉ D → a.eval (.tmp s) = a0.eval (.tmp s)) → (∀ e ∈ o.after, Region.binds .any e = true → ∀ d, D[e.on]? = some d → d < a0.tmps.size → ∀ x, S.getD e.on (.val undef) = .val x → a.eval (.tmp d) = x) → (execOp a.eval o).run Tryd.prog W = .ok (.value (.int .i64 x)) W) :
    StepJ Tryd.prog Q (JX c w nv0 ns0) (leL c t0 t0') a0 D (skR c t0 t0' S) ws i o := by
  intro n a W hn hJ hq hdp K hK
  rw [hw] at hK hn
  have hJ' : JX c w nv0 ns0 ws.sum W := by
    obtain ⟨nv, ns, hJ⟩ := hJ
    exact ⟨nv, ns, { hJ with len := by have := hJ.len; omega }⟩
  refine wp_value (h a W hJ' hq ?_) (hK _ W hJ (leL.kept (Kept.refl _ _)) ?_)
  · intro e he hb d hd hl x hx
    have := hdp e he hb d hd hl
    unfold skR at this
    rw [hx] at this
    exact this
  · unfold skR; rw [hS]; exact ⟨x, rfl, DenAt.of hJ hx⟩
theorem stepL_pureDens {x y : Int} {t t' : Tr} (hw : ws.getD i 0 = 0) (hS : S.getD i (.val undef) = .dens t t') (hx : Den ns0 x t) (hy : Den ns0 y t')
    (h : ∀ (a : Act) (W : World), JX c w nv0 ns0 ws.sum W → (∀ s, s ∉ D → a.eval (.tmp s) = a0.eval (.tmp s)) → (∀ e ∈ o.after, Region.binds .any e = true → ∀ d, D[e.on]? = some d → d < a0.tmps.size → ∀ x, S.getD e.on (.val undef) = .val x → a.eval (.tmp d) = x) → (execOp a.eval o).run Tryd.prog W = .ok (.value (.agg #[.int .i64 x, .int .i64 y])) W) :
    StepJ Tryd.prog Q (JX c w nv0 ns0) (leL c t0 t0') a0 D (skR c t0 t0' S) ws i o := by
  intro n a W hn hJ hq hdp K hK
  rw [hw] at hK hn
  have hJ' : JX c w nv0 ns0 ws.sum W := by
    obtain ⟨nv, ns, hJ⟩ := hJ
    exact ⟨nv, ns, { hJ with len := by have := hJ.len; omega }⟩
  refine wp_value (h a W hJ' hq ?_) (hK _ W hJ (leL.kept (Kept.refl _ _)) ?_)
  · intro e he hb d hd hl x hx
    have := hdp e he hb d hd hl
    unfold skR at this
    rw [hx] at this
    exact this
  · unfold skR; rw [hS]; exact ⟨x, y, rfl, DenAt.of hJ hx, DenAt.of hJ hy⟩
theorem stepL_other {d j : Nat} {t t' : Tr} (ho : o.op = .call { callee := .value (.func 125), args := #[.tmp d], argTypes := #[148] }) (hj : (⟨j, .data⟩ : Edge) ∈ o.after) (hd : D[j]? = some d) (hl : d < a0.tmps.size) (hw : ws.getD i 0 = 0) (hSj : S.getD j (.val undef) = .dens t t') (hS : S.getD i (.val undef) = .dens t' t) :
    StepJ Tryd.prog Q (JX c w nv0 ns0) (leL c t0 t0') a0 D (skR c t0 t0' S) ws i o := by
  intro n a W hn hJ hq hdp K hK
  rw [hw] at hK
  have e := hdp _ hj rfl d hd hl
  unfold skR at e
  rw [hSj] at e
  obtain ⟨x, y, hx, hX, hY⟩ := e
  have hf : a.eval (.func 125) = .func (.func 125) #[] #[] := rfl
  refine wp_enter (args := #[.agg #[.int .i64 x, .int .i64 y]]) (W' := W) (f := 125) ?_ (other125 W x y) ?_
  · revert hf hx; generalize a.eval = ρ; intro hf hx
    simp [execOp, go_sem, ho, hf, hx]
  · rintro e W' ⟨rfl, hk⟩
    have hle : leL c t0 t0' W W' := leL.kept hk
    exact ⟨_, rfl, hK _ W' (hJ.keep hk) hle (by unfold skR; rw [hS]; exact ⟨y, x, rfl, hY.le hle.1, hX.le hle.1⟩)⟩
theorem stepL_truth {d j : Nat} (ho : o.op = .call { callee := .value (.func 124), args := #[.tmp d], argTypes := #[145] }) (hj : (⟨j, .data⟩ : Edge) ∈ o.after) (hd : D[j]? = some d) (hl : d < a0.tmps.size) (hw : ws.getD i 0 = 2) (hlen : ns0.length + ws.sum ≤ 1073741824) (hSj : S.getD j (.val undef) = .val (.agg #[.pointer (some ⟨c.L, 0, none⟩)])) (hS : S.getD i (.val undef) = .dens (leafT 0) (leafT 1)) :
    StepJ Tryd.prog Q (JX c w nv0 ns0) (leL c t0 t0') a0 D (skR c t0 t0' S) ws i o := by
  rintro n a W hn ⟨nv, ns, hJ⟩ hq hdp K hK
  rw [hw] at hK hn
  have hx := hdp _ hj rfl d hd hl
  unfold skR at hx
  rw [hSj] at hx
  have hx' : a.eval (.tmp d) = .agg #[.pointer (some ⟨c.L, 0, none⟩)] := hx
  have hf : a.eval (.func 124) = .func (.func 124) #[] #[] := rfl
  have hlJ := hJ.len
  refine wp_enter (args := #[.agg #[.pointer (some ⟨c.L, 0, none⟩)]]) (W' := W) (f := 124) ?_ (truth124 c W nv ns hJ.st.li hJ.st.ord hJ.st.hb (by omega)) ?_
  · revert hf hx'; generalize a.eval = ρ; intro hf hx'
    simp [execOp, go_sem, ho, hf, hx']
  · rintro e W' ⟨x, y, nv', ns', rfl, hg, d1, d2⟩
    exact ⟨_, rfl, hK _ W' ⟨nv', ns', hg.J hJ⟩ (hg.le hJ.st) (by unfold skR; rw [hS]; exact ⟨x, y, rfl, ⟨nv', ns', hg.st hJ.st, d1⟩, nv', ns', hg.st hJ.st, d2⟩)⟩
theorem stepL_two {d1 d2 j1 j2 : Nat} {op : Int} {ta ta' tb tb' : Tr} (hj1 : (⟨j1, .data⟩ : Edge) ∈ o.after) (hj2 : (⟨j2, .data⟩ : Edge) ∈ o.after) (hd1 : D[j1]? = some d1) (hd2 : D[j2]? = some d2) (hl1 : d1 < a0.tmps.size) (hl2 : d2 < a0.tmps.size) (hw : ws.getD i 0 = 2) (hlen : ns0.length + ws.sum ≤ 1073741824) (hop : op = 4 ∨ op = 5 ∨ op = 8 ∨ op = 9) (hT : TabT w) (h3 : 3 ≤ c.base) (hn2 : ¬ (LSet c.L c.bm nv0 2 ∨ 2 = c.r))
    (hS1 : S.getD j1 (.val undef) = .dens ta ta') (hS2 : S.getD j2 (.val undef) = .dens tb tb') (hS : S.getD i (.val undef) = .dens (binT op ta tb) (binT (otherO op) ta' tb'))
    (h : ∀ (a : Act) (W : World), (∀ s, s ∉ D → a.eval (.tmp s) = a0.eval (.tmp s)) → (∀ e ∈ o.after, Region.binds .any e = true → ∀ d, D[e.on]? = some d → d < a0.tmps.size → ∀ x, S.getD e.on (.val undef) = .val x → a.eval (.tmp d) = x) → (execOp a.eval o).run Tryd.prog W = .ok (.enter 126 #[.agg #[.pointer (some ⟨c.L, 0, none⟩)], .int .i64 op, a.eval (.tmp d1), a.eval (.tmp d2)]) W) :
    StepJ Tryd.prog Q (JX c w nv0 ns0) (leL c t0 t0') a0 D (skR c t0 t0' S) ws i o := by
  rintro n a W hn ⟨nv, ns, hJ⟩ hq hdp K hK
  rw [hw] at hK hn
  have e1 := hdp _ hj1 rfl d1 hd1 hl1
  have e2 := hdp _ hj2 rfl d2 hd2 hl2
  unfold skR at e1 e2
  rw [hS1] at e1
  rw [hS2] at e2
  obtain ⟨x, y, hx, hX, hY⟩ := e1
  obtain ⟨u, v, hu, hU, hV⟩ := e2
  have hr := h a W hq (fun e he hb d hd hl x hx => by
    have := hdp e he hb d hd hl
    unfold skR at this
    rw [hx] at this
    exact this)
  rw [hx, hu] at hr
  have hlJ := hJ.len
  refine wp_enter hr (two126 c W nv ns op x y u v ta ta' tb tb' hop hJ.st.li hJ.st.ord hJ.st.hb (by omega) (hT.kept hJ.kept hn2) h3 (hX.den hJ.st) (hY.den hJ.st) (hU.den hJ.st) (hV.den hJ.st)) ?_
  rintro e W' ⟨x, y, nv', ns', rfl, hg, d1, d2⟩
  exact ⟨_, rfl, hK _ W' ⟨nv', ns', hg.J hJ⟩ (hg.le hJ.st) (by unfold skR; rw [hS]; exact ⟨x, y, rfl, ⟨nv', ns', hg.st hJ.st, d1⟩, nv', ns', hg.st hJ.st, d2⟩)⟩
end
theorem Grown.mono {c : Lc} {k k' : Nat} {W W' : World} {nv nv' : Value} {ns ns' : List Nd} (g : Grown c k W nv ns W' nv' ns') (h : k ≤ k') : Grown c k' W nv ns W' nv' ns' := { g with len := by have := g.len; omega }
/-- what is done of a Kid -/
def DoneAt (w : World) (dg dn : Nat) (ns : List Nd) (i : Int) (t : Tr) : Prop := ∃ (k : Nat) (p q : Int), i = (k : Int) ∧ k < dn ∧ w.cell? ⟨dg, k * 2, none⟩ = some (.int .i64 p) ∧ w.cell? ⟨dg, k * 2 + 1, none⟩ = some (.int .i64 q) ∧ Den ns p (plainT t false) ∧ Den ns q (plainT t true)
end Go.Proofs.YtdbpdanocpfboaaDoor
