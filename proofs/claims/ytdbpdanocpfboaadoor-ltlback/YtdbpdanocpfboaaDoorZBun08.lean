import Derived.Test.YtdbpdanocpfboaaDoorZBun07
import Derived.Test.YtdbpdanocpfboaaDoorZRpl
import Derived.Test.YtdbpdanocpfboaaDoorZBun02
/- A List of Nodes that grows within a region that draws its order; a box of two numbers for what is answered. -/
namespace Go.Proofs.YtdbpdanocpfboaaDoor
open Go.RowKit

theorem wp_skip {P : Program} {o : Oper} {a : Act} {W W' : World} {K : Act → World → Prop} {Q : Exit → Act → World → Prop} (h : (execOp a.eval o).run P W = .ok .skip W') (hK : K (a.put o.dst undef) W') : o.wp P a W K Q := by
  unfold Oper.wp; rw [h]; exact hK

theorem add84x (w : World) (base L bm : Nat) (nv : Value) (ns : List Nd) (x : Nd) (h : LIn w base L bm nv ns) (hbase : base ≤ w.heap.size) (hlen : ns.length < 1073741824) :
    Calls Tryd.prog 84 #[.pointer (some ⟨L, 0, none⟩), x.v] w fun e w' => ∃ (i : Nat) (nv' : Value) (ns' : List Nd), e = .returned (.int .i64 (i : Int)) ∧ LIn w' base L bm nv' ns' ∧ ((ns' = ns ∧ ns[i]? = some x) ∨ (ns' = ns ++ [x] ∧ i = ns.length ∧ x ∉ ns)) ∧
      (∀ k, some k = nv'.ownBlock → some k = nv.ownBlock ∨ w.heap.size ≤ k) ∧ Kept (LSet L bm nv) w w' := by
  have hL : L < w.heap.size := lt_of_cell h.c0
  obtain ⟨m, gm, hm⟩ := h.map
  cases hx : ns.idxOf? x with
  | some i =>
    have e1 : m x.v = some (.int .i64 (i : Int)) := by rw [hm, numOf, hx]; rfl
    refine (add84_there w L bm x i m h.c1 gm e1).mono ?_
    rintro e w' ⟨rfl, hk⟩
    refine ⟨i, nv, ns, rfl, h.keep hk (fun _ _ hf => hf), .inl ⟨rfl, ?_⟩, fun k hk => .inl hk, hk.mono (fun _ _ hf => hf.elim)⟩
    obtain ⟨hlt, he, _⟩ := List.idxOf?_eq_some_iff.1 hx
    rw [List.getElem?_eq_getElem hlt]
    simpa using he
  | none =>
    have e1 : m x.v = none := by rw [hm, numOf, hx]; rfl
    refine (add84_new w base L bm nv ns.length (flatN ns) x m h.c0 h.c1 h.f0 h.own hbase (by omega) hL h.sepL h.sepM (fun k hk => (ownsRow_lt h.own hk).1) gm e1).mono ?_
    rintro e w' ⟨rfl, W1, w2, g, cap, m5, hk1, hs1, hk2, hown2, hloc, gr5, gm5, k5, o5⟩
    have hK : Kept (LSet L bm nv) w w' := by
      refine Kept.grown (w' := (w2.setCell ⟨L, 0, none⟩ (.slice (some ⟨g, 0, none⟩) (ns.length + 1) cap)).drew) ?_ gr5 (fun k _ e => .inr (.inl (Option.some.inj e)))
      refine Kept.drew (Kept.setCell ?_ (fun _ => .inl rfl) _)
      exact (hk1.mono (fun _ _ hf => hf.elim)).trans hk2 (fun k _ e => .inr (.inr e))
    have hs2 : (W1.alloc (.cells x.cells.toArray 102)).drew.heap.size = w.heap.size + 2 := by simp [hs1]
    have hgg : some g = nv.ownBlock ∨ g = w.heap.size + 2 := by
      rcases hloc with e | e
      · exact .inl e
      · rw [hs2] at e; exact .inr (Option.some.inj e)
    have hgL : g ≠ L := by
      rcases hgg with e | e
      · exact fun q => h.sepL (by rw [← e, q])
      · omega
    have hgM : g ≠ bm := by
      rcases hgg with e | e
      · exact fun q => h.sepM (by rw [← e, q])
      · have := gm.lt; omega
    have hLM : L ≠ bm := fun q => gm.ne_cell h.c0 q.symm
    have hL2 : L < w2.heap.size := by have := hk1.size; have := hk2.size; omega
    have hc2 : w2.cell? ⟨L, 0, none⟩ = some nv := (hk2.cell (p := ⟨L, 0, none⟩) (by simp; omega) (fun e => h.sepL e.symm)).trans ((hk1.cell (p := ⟨L, 0, none⟩) hL (fun f => f)).trans h.c0)
    have hc3 : w2.cell? ⟨L, 1, none⟩ = some (.map (some bm)) := (hk2.cell (p := ⟨L, 1, none⟩) (by simp; omega) (fun e => h.sepL e.symm)).trans ((hk1.cell (p := ⟨L, 1, none⟩) hL (fun f => f)).trans h.c1)
    have hf2 : w2.frozen? ⟨L, 0, none⟩ = false := (hk2.frozen (p := ⟨L, 0, none⟩) (by simp; omega) (fun e => h.sepL e.symm)).trans ((hk1.frozen (p := ⟨L, 0, none⟩) hL (fun f => f)).trans h.f0)
    have hb5 : ∀ k, k < w2.heap.size → k ≠ L → k ≠ bm → w'.heap[k]? = w2.heap[k]? := fun k hk h1 h2 => by
      rw [gr5.block k (by simp [World.setCell]; exact hk) (fun e => h2 (Option.some.inj e))]
      exact Below.heap_setCell _ _ _ _ h1
    have hbL : w'.heap[L]? = (w2.setCell ⟨L, 0, none⟩ (.slice (some ⟨g, 0, none⟩) (ns.length + 1) cap)).heap[L]? :=
      gr5.block L (by simp [World.setCell]; exact hL2) (fun e => hLM (Option.some.inj e))
    refine ⟨ns.length, .slice (some ⟨g, 0, none⟩) (ns.length + 1) cap, ns ++ [x], rfl, ?_, .inr ⟨rfl, rfl, List.idxOf?_eq_none_iff.1 hx⟩, ?_, hK⟩
    · exact {
        c0 := (World.cell?_of_block (w := (w2.setCell ⟨L, 0, none⟩ (.slice (some ⟨g, 0, none⟩) (ns.length + 1) cap))) (a := ⟨L, 0, none⟩) hbL).trans (World.cell?_setCell_same' _ _ _ (by rw [hc2]; rfl))
        c1 := (World.cell?_of_block (w := (w2.setCell ⟨L, 0, none⟩ (.slice (some ⟨g, 0, none⟩) (ns.length + 1) cap))) (a := ⟨L, 1, none⟩) hbL).trans (by rw [World.cell?_setCell_other _ _ _ _ (by simp)]; exact hc3)
        f0 := (World.frozen?_of_block (w := (w2.setCell ⟨L, 0, none⟩ (.slice (some ⟨g, 0, none⟩) (ns.length + 1) cap))) (a := ⟨L, 0, none⟩) hbL).trans (by rw [World.frozen?_setCell]; exact hf2)
        own := by
          have := ownsRow_of_block (w' := w') hown2 (fun k hk => hb5 k (ownsRow_lt hown2 hk).1 (fun q => hgL (by rw [← q]; exact (Option.some.inj hk).symm)) (fun q => hgM (by rw [← q]; exact (Option.some.inj hk).symm)))
          rw [flatN_append]
          simpa using this
        map := ⟨m5, gm5, fun y => by
          by_cases hy : y = x
          · subst hy; rw [k5, numOf_same hx]
          · rw [o5 _ (fun q => hy (Nd.v_inj q)), hm, numOf_other hy]⟩
        sepL := fun q => hgL (Option.some.inj q)
        sepM := fun q => hgM (Option.some.inj q)
        bL := h.bL
        bM := h.bM
        len := by simp; omega }
    · intro k hk
      rcases hgg with e | e
      · left; rw [← e]; exact hk
      · right; have : k = g := Option.some.inj hk; omega

/-- where the List lies; and the box r -/
structure Lc where
  base : Nat
  L : Nat
  bm : Nat
  r : Nat
structure LSt (c : Lc) (W : World) (nv : Value) (ns : List Nd) : Prop where
  li : LIn W c.base c.L c.bm nv ns
  ord : Ord ns
  hb : c.base ≤ W.heap.size
  rl : c.r ≠ c.L
  rm : c.r ≠ c.bm
  rn : nv.ownBlock ≠ some c.r
  box : ∃ x y, W.cell? ⟨c.r, 0, none⟩ = some x ∧ W.cell? ⟨c.r, 1, none⟩ = some y
  f0 : W.frozen? ⟨c.r, 0, none⟩ = false
  f1 : W.frozen? ⟨c.r, 1, none⟩ = false
theorem LSt.lt {c : Lc} {W : World} {nv : Value} {ns : List Nd} (h : LSt c W nv ns) : c.r < W.heap.size := by
  obtain ⟨x, y, h1, _⟩ := h.box
  exact lt_of_cell h1
theorem LSt.kept {c : Lc} {W W' : World} {nv : Value} {ns : List Nd} (h : LSt c W nv ns) (hk : Kept (fun _ => False) W W') : LSt c W' nv ns := by
  have hl := h.lt
  obtain ⟨x, y, h1, h2⟩ := h.box
  exact { li := h.li.keep hk (fun _ _ f => f), ord := h.ord, hb := Nat.le_trans h.hb hk.size, rl := h.rl, rm := h.rm, rn := h.rn
          box := ⟨x, y, (hk.cell (p := ⟨c.r, 0, none⟩) hl (fun f => f)).trans h1, (hk.cell (p := ⟨c.r, 1, none⟩) hl (fun f => f)).trans h2⟩
          f0 := (hk.frozen (p := ⟨c.r, 0, none⟩) hl (fun f => f)).trans h.f0, f1 := (hk.frozen (p := ⟨c.r, 1, none⟩) hl (fun f => f)).trans h.f1 }
theorem flatN_inj : ∀ {a b : List Nd}, flatN a = flatN b → a = b
  | [], [], _ => rfl
  | [], y :: b, h => by simp [flatN, Nd.cells] at h
  | x :: a, [], h => by simp [flatN, Nd.cells] at h
  | x :: a, y :: b, h => by
    obtain ⟨x1, x2, x3, x4⟩ := x
    obtain ⟨y1, y2, y3, y4⟩ := y
    simp only [flatN, List.flatMap_cons, Nd.cells, List.cons_append, List.nil_append, List.cons.injEq, Value.int.injEq, true_and] at h
    obtain ⟨rfl, rfl, rfl, rfl, h⟩ := h
    rw [flatN_inj h]
theorem ownsRow_uniq {w : World} {base : Nat} {e : TypeId} {size : Nat} {v : Value} {n n' : Nat} {xs ys : List Value} (h : w.ownsRow base e size v n xs) (h' : w.ownsRow base e size v n' ys) : xs = ys := by
  obtain ⟨l1, h1⟩ := h
  obtain ⟨l2, h2⟩ := h'
  rcases h1 with ⟨rfl, rfl⟩ | ⟨g, cap, cur, rfl, _, hh, _, _, _, hx⟩
  · rcases h2 with ⟨_, rfl⟩ | ⟨g, cap, cur, e, _⟩
    · rw [List.eq_nil_of_length_eq_zero (l := xs) (by omega), List.eq_nil_of_length_eq_zero (l := ys) (by omega)]
    · cases e
  · rcases h2 with ⟨e, _⟩ | ⟨g', cap', cur', e, _, hh', _, _, _, hx'⟩
    · cases e
    · cases e
      rw [hh] at hh'
      cases hh'
      rw [← hx, ← hx']
theorem LIn.uniq {w : World} {base L bm : Nat} {nv nv' : Value} {ns ns' : List Nd} (h : LIn w base L bm nv ns) (h' : LIn w base L bm nv' ns') : nv = nv' ∧ ns = ns' := by
  have e : nv = nv' := Option.some.inj (h.c0.symm.trans h'.c0)
  subst e
  exact ⟨rfl, flatN_inj (ownsRow_uniq h.own h'.own)⟩
/-- Node number i is the formula t -/
def DenAt (c : Lc) (W : World) (i : Int) (t : Tr) : Prop := ∃ nv ns, LSt c W nv ns ∧ Den ns i t
/-- the box holds the numbers of two formulas -/
def Fill (c : Lc) (t t' : Tr) (W : World) : Prop := ∃ i j, W.cell? ⟨c.r, 0, none⟩ = some (.int .i64 i) ∧ W.cell? ⟨c.r, 1, none⟩ = some (.int .i64 j) ∧ DenAt c W i t ∧ DenAt c W j t'
/-- how the world goes on -/
def leL (c : Lc) (t t' : Tr) (W W' : World) : Prop := (∀ nv ns, LSt c W nv ns → ∃ nv' ns', LSt c W' nv' ns' ∧ ns <+: ns') ∧ (Fill c t t' W → Fill c t t' W')
theorem DenAt.le {c : Lc} {W W' : World} {i : Int} {u : Tr} (h : DenAt c W i u) (hl : ∀ nv ns, LSt c W nv ns → ∃ nv' ns', LSt c W' nv' ns' ∧ ns <+: ns') : DenAt c W' i u := by
  obtain ⟨nv, ns, h1, h2⟩ := h
  obtain ⟨nv', ns', h3, h4⟩ := hl nv ns h1
  exact ⟨nv', ns', h3, h2.grow h4⟩
theorem leL.kept {c : Lc} {t t' : Tr} {W W' : World} (hk : Kept (fun _ => False) W W') : leL c t t' W W' := by
  have h1 : ∀ nv ns, LSt c W nv ns → ∃ nv' ns', LSt c W' nv' ns' ∧ ns <+: ns' := fun nv ns h => ⟨nv, ns, h.kept hk, List.prefix_refl _⟩
  refine ⟨h1, ?_⟩
  rintro ⟨i, j, h2, h3, h4, h5⟩
  have hl : c.r < W.heap.size := lt_of_cell h2
  exact ⟨i, j, (hk.cell (p := ⟨c.r, 0, none⟩) hl (fun f => f)).trans h2, (hk.cell (p := ⟨c.r, 1, none⟩) hl (fun f => f)).trans h3, h4.le h1, h5.le h1⟩
/-- what has been done since w0 -/
structure JL (c : Lc) (w0 : World) (nv0 : Value) (ns0 : List Nd) (n : Nat) (W : World) (nv : Value) (ns : List Nd) : Prop where
  st : LSt c W nv ns
  pre : ns0 <+: ns
  len : ns.length ≤ ns0.length + n
  own : ∀ k, some k = nv.ownBlock → some k = nv0.ownBlock ∨ w0.heap.size ≤ k
  kept : Kept (fun k => LSet c.L c.bm nv0 k ∨ k = c.r) w0 W
  nd : ns0.Nodup → ns.Nodup
def JX (c : Lc) (w0 : World) (nv0 : Value) (ns0 : List Nd) (n : Nat) (W : World) : Prop := ∃ nv ns, JL c w0 nv0 ns0 n W nv ns
theorem JL.keep {c : Lc} {w0 : World} {nv0 : Value} {ns0 : List Nd} {n : Nat} {W W' : World} {nv : Value} {ns : List Nd} (h : JL c w0 nv0 ns0 n W nv ns) (hk : Kept (fun _ => False) W W') : JL c w0 nv0 ns0 n W' nv ns :=
  { st := h.st.kept hk, pre := h.pre, len := h.len, own := h.own, kept := h.kept.trans hk (fun _ _ f => f.elim), nd := h.nd }
theorem JX.keep {c : Lc} {w0 : World} {nv0 : Value} {ns0 : List Nd} {n : Nat} {W W' : World} (h : JX c w0 nv0 ns0 n W) (hk : Kept (fun _ => False) W W') : JX c w0 nv0 ns0 n W' := by
  obtain ⟨nv, ns, h⟩ := h
  exact ⟨nv, ns, h.keep hk⟩
/-- a call of a function that lets the List grow -/
structure Grown (c : Lc) (k : Nat) (W : World) (nv : Value) (ns : List Nd) (W' : World) (nv' : Value) (ns' : List Nd) : Prop where
  li : LIn W' c.base c.L c.bm nv' ns'
  ord : Ord ns'
  pre : ns <+: ns'
  len : ns'.length ≤ ns.length + k
  own : ∀ j, some j = nv'.ownBlock → some j = nv.ownBlock ∨ W.heap.size ≤ j
  kept : Kept (LSet c.L c.bm nv) W W'
  nd : ns.Nodup → ns'.Nodup
theorem Grown.st {c : Lc} {k : Nat} {W W' : World} {nv nv' : Value} {ns ns' : List Nd} (g : Grown c k W nv ns W' nv' ns') (h : LSt c W nv ns) : LSt c W' nv' ns' := by
  have hl := h.lt
  have hr : ¬ LSet c.L c.bm nv c.r := by
    rintro (e | e | e)
    · exact h.rl e
    · exact h.rm e
    · exact h.rn e.symm
  obtain ⟨x, y, h1, h2⟩ := h.box
  exact { li := g.li, ord := g.ord, hb := Nat.le_trans h.hb g.kept.size, rl := h.rl, rm := h.rm
          rn := fun e => by
            rcases g.own c.r e.symm with h3 | h3
            · exact h.rn h3.symm
            · omega
          box := ⟨x, y, (g.kept.cell (p := ⟨c.r, 0, none⟩) hl hr).trans h1, (g.kept.cell (p := ⟨c.r, 1, none⟩) hl hr).trans h2⟩
          f0 := (g.kept.frozen (p := ⟨c.r, 0, none⟩) hl hr).trans h.f0, f1 := (g.kept.frozen (p := ⟨c.r, 1, none⟩) hl hr).trans h.f1 }
theorem Grown.le {c : Lc} {t t' : Tr} {k : Nat} {W W' : World} {nv nv' : Value} {ns ns' : List Nd} (g : Grown c k W nv ns W' nv' ns') (h : LSt c W nv ns) : leL c t t' W W' := by
  have h1 : ∀ nv1 ns1, LSt c W nv1 ns1 → ∃ nv' ns', LSt c W' nv' ns' ∧ ns1 <+: ns' := fun nv1 ns1 h' => by
    obtain ⟨rfl, rfl⟩ := h.li.uniq h'.li
    exact ⟨nv', ns', g.st h, g.pre⟩
  have hl := h.lt
  have hr : ¬ LSet c.L c.bm nv c.r := by
    rintro (e | e | e)
    · exact h.rl e
    · exact h.rm e
    · exact h.rn e.symm
  refine ⟨h1, ?_⟩
  rintro ⟨i, j, h2, h3, h4, h5⟩
  exact ⟨i, j, (g.kept.cell (p := ⟨c.r, 0, none⟩) hl hr).trans h2, (g.kept.cell (p := ⟨c.r, 1, none⟩) hl hr).trans h3, h4.le h1, h5.le h1⟩
theorem Grown.J {c : Lc} {w0 : World} {nv0 : Value} {ns0 : List Nd} {n k : Nat} {W W' : World} {nv nv' : Value} {ns ns' : List Nd} (g : Grown c k W nv ns W' nv' ns') (h : JL c w0 nv0 ns0 n W nv ns) : JL c w0 nv0 ns0 (n + k) W' nv' ns' :=
  { st := g.st h.st, pre := h.pre.trans g.pre, nd := fun h0 => g.nd (h.nd h0), len := by have := h.len; have := g.len; omega
    own := fun j hj => by
      rcases g.own j hj with h1 | h1
      · exact h.own j h1
      · exact .inr (Nat.le_trans h.kept.size h1)
    kept := h.kept.trans g.kept (fun j hj e => by
      rcases e with e | e | e
      · exact .inl (.inl e)
      · exact .inl (.inr (.inl e))
      · rcases h.own j e with h1 | h1
        · exact .inl (.inr (.inr h1))
        · omega) }
/-- what a call that lets the List grow says of two numbers -/
def Sides (c : Lc) (k : Nat) (W : World) (nv : Value) (ns : List Nd) (t t' : Tr) (e : Ending) (W' : World) : Prop :=
  ∃ i j nv' ns', e = .returned (.agg #[.int .i64 i, .int .i64 j]) ∧ Grown c k W nv ns W' nv' ns' ∧ Den ns' i t ∧ Den ns' j t'
theorem Ord.snoc {ns : List Nd} (h : Ord ns) {op n : Int} {ids : List Int} (hw : wellN op n ids.length) (hi : ∀ i ∈ ids, 0 ≤ i ∧ i < (ns.length : Int)) : Ord (ns ++ [mkNd op n ids]) := by
  intro j x hx
  rcases Nat.lt_or_ge j ns.length with hj | hj
  · rw [List.getElem?_append_left hj] at hx
    exact h j x hx
  · rw [List.getElem?_append_right hj] at hx
    have hz : j - ns.length = 0 := by
      have := (List.getElem?_eq_some_iff.1 hx).1
      simp at this
      omega
    rw [hz] at hx
    simp at hx
    exact ⟨op, n, ids, hx.symm, hw, fun i hi' => ⟨(hi i hi').1, by have := (hi i hi').2; omega⟩⟩
theorem nodup_snoc {α : Type} {l : List α} {x : α} (h : l.Nodup) (hx : x ∉ l) : (l ++ [x]).Nodup := by
  rw [List.nodup_append]
  exact ⟨h, by simp, fun a ha b hb e => by simp at hb; subst hb; subst e; exact hx ha⟩
/-- Add, of a Node whose Kids are there -/
theorem add84d (c : Lc) (W : World) (nv : Value) (ns : List Nd) (op n : Int) (ids : List Int) (kids : List Tr) (hL : LIn W c.base c.L c.bm nv ns) (ho : Ord ns) (hb : c.base ≤ W.heap.size) (hlen : ns.length < 1073741824) (hw : wellN op n ids.length) (hd : Dens ns ids kids) :
    Calls Tryd.prog 84 #[.pointer (some ⟨c.L, 0, none⟩), (mkNd op n ids).v] W fun e W' => ∃ i nv' ns', e = .returned (.int .i64 i) ∧ Grown c 1 W nv ns W' nv' ns' ∧ Den ns' i (.mk op n kids) := by
  refine (add84x W c.base c.L c.bm nv ns (mkNd op n ids) hL hb hlen).mono ?_
  rintro e W' ⟨i, nv', ns', rfl, h1, h2, h3, h4⟩
  rcases h2 with ⟨rfl, hx⟩ | ⟨rfl, rfl, hnx⟩
  · exact ⟨i, nv', ns', rfl, ⟨h1, ho, List.prefix_refl _, by omega, h3, h4, fun h => h⟩, i, ids, rfl, hx, hd⟩
  · refine ⟨_, nv', _, rfl, ⟨h1, ho.snoc hw hd.lt, List.prefix_append _ _, by simp, h3, h4, fun hn => nodup_snoc hn hnx⟩, ns.length, ids, rfl, by simp, hd.grow (List.prefix_append _ _)⟩

/-- what an operation answers -/
inductive Sk where
  | val (v : Value)
  | den (t : Tr)
  | dens (t t' : Tr)
  | fill
def Sk.ok (c : Lc) (t0 t0' : Tr) : Sk → Value → World → Prop
  | .val x, v, _ => v = x
  | .den t, v, W => ∃ i, v = .int .i64 i ∧ DenAt c W i t
  | .dens t t', v, W => ∃ i j, v = .agg #[.int .i64 i, .int .i64 j] ∧ DenAt c W i t ∧ DenAt c W j t'
  | .fill, _, W => Fill c t0 t0' W
theorem Sk.mono {c : Lc} {t0 t0' : Tr} {s : Sk} {v : Value} {W W' : World} (hk : leL c t0 t0' W W') (h : s.ok c t0 t0' v W) : s.ok c t0 t0' v W' := by
  cases s with
  | val x => exact h
  | den t => obtain ⟨i, e, h⟩ := h; exact ⟨i, e, h.le hk.1⟩
  | dens t t' => obtain ⟨i, j, e, h1, h2⟩ := h; exact ⟨i, j, e, h1.le hk.1, h2.le hk.1⟩
  | fill => exact hk.2 h
def skR (c : Lc) (t0 t0' : Tr) (l : List Sk) (i : Nat) (v : Value) (W : World) : Prop := (l.getD i (.val undef)).ok c t0 t0' v W

theorem wp_region_L {id : Nat} {Q : Exit → Act → World → Prop} {a0 : Act} {w : World} {l : List Oper} (c : Lc) (t0 t0' : Tr) (nv0 : Value) (ns0 : List Nd) (D : List Nat) (S : List Sk) (ws : List Nat)
    (hst : LSt c w nv0 ns0)
    (hD : dstB a0.tmps.size l D = true) (hn : D.Nodup) (hg : l.all (fun o => o.guard.isNone) = true) (ha : afterB l = true) (hws : ws.length = l.length)
    (hstep : StepsJ Tryd.prog Q (JX c w nv0 ns0) (leL c t0 t0') a0 D (skR c t0 t0' S) ws l 0)
    (hend : ∀ (f : Nat → Value) (W : World) (nv : Value) (ns : List Nd), JL c w nv0 ns0 ws.sum W nv ns → (∀ i, i < l.length → skR c t0 t0' S i (f i) W) → Q .normal (puts a0 D 0 f) W) : (Code.region id l.toArray true).wp Tryd.prog Q a0 w := by
  refine wp_region_J (JX c w nv0 ns0) (leL c t0 t0') D (skR c t0 t0' S) ws (by kernel_rfl) hD hn hg ha hws ?_ (fun _ _ _ _ hk h => Sk.mono hk h) hstep ?_
  · exact ⟨nv0, ns0, hst.kept ((Kept.refl _ _).drew), List.prefix_refl _, by omega, fun k hk => .inl hk, (Kept.refl _ _).drew, fun h => h⟩
  · rintro f W ⟨nv, ns, hJ⟩ hR
    exact hend f W nv ns hJ hR

section
variable {c : Lc} {t0 t0' : Tr} {w : World} {nv0 : Value} {ns0 : List Nd} {Q : Exit → Act → World → Prop} {a0 : Act} {D : List Nat} {S : List Sk} {ws : List Nat} {i : Nat} {o : Oper}

/-- an operation that answers a value and turns nothing -/
theorem stepL_pure {v : Value} (hw : ws.getD i 0 = 0) (hS : S.getD i (.val undef) = .val v)
    (h : ∀ (a : Act) (W : World), JX c w nv0 ns0 ws.sum W → (∀ s, s ∉ D → a.eval (.tmp s) = a0.eval (.tmp s)) → (∀ e ∈ o.after, Region.binds .any e = true → ∀ d, D[e.on]? = some d → d < a0.tmps.size → ∀ x, S.getD e.on (.val undef) = .val x → a.eval (.tmp d) = x) → (execOp a.eval o).run Tryd.prog W = .ok (.value v) W) :
    StepJ Tryd.prog Q (JX c w nv0 ns0) (leL c t0 t0') a0 D (skR c t0 t0' S) ws i o := by
  intro n a W hn hJ hq hdp K hK
  rw [hw] at hK hn
  refine wp_value (h a W ?_ hq ?_) (hK v W hJ (leL.kept (Kept.refl _ _)) ?_)
  · obtain ⟨nv, ns, hJ⟩ := hJ
    exact ⟨nv, ns, { hJ with len := by have := hJ.len; omega }⟩
  · intro e he hb d hd hl x hx
    have := hdp e he hb d hd hl
    unfold skR at this
    rw [hx] at this
    exact this
  · unfold skR; rw [hS]; rfl
/-- a call that keeps the world and answers a value -/
theorem stepL_call {v : Value} {f : FuncId} {args : Array Value} (hw : ws.getD i 0 = 0) (hS : S.getD i (.val undef) = .val v)
    (h : ∀ (a : Act) (W : World), (∀ s, s ∉ D → a.eval (.tmp s) = a0.eval (.tmp s)) → (∀ e ∈ o.after, Region.binds .any e = true → ∀ d, D[e.on]? = some d → d < a0.tmps.size → ∀ x, S.getD e.on (.val undef) = .val x → a.eval (.tmp d) = x) → (execOp a.eval o).run Tryd.prog W = .ok (.enter f args) W)
    (hc : ∀ W, Calls Tryd.prog f args W fun e W' => e = .returned v ∧ Kept (fun _ => False) W W') :
    StepJ Tryd.prog Q (JX c w nv0 ns0) (leL c t0 t0') a0 D (skR c t0 t0' S) ws i o := by
  intro n a W hn hJ hq hdp K hK
  rw [hw] at hK hn
  refine wp_enter (h a W hq ?_) (hc W) ?_
  · intro e he hb d hd hl x hx
    have := hdp e he hb d hd hl
    unfold skR at this
    rw [hx] at this
    exact this
  · rintro e W' ⟨rfl, hk⟩
    exact ⟨v, rfl, hK v W' (hJ.keep hk) (leL.kept hk) (by unfold skR; rw [hS]; rfl)⟩
/-- Add -/
theorem stepL_add {op n : Int} {ids : List Int} {kids : List Tr} (hw : ws.getD i 0 = 1) (hS : S.getD i (.val undef) = .den (.mk op n kids)) (hlen : ns0.length + ws.sum ≤ 1073741824) (hwn : wellN op n ids.length) (hd : Dens ns0 ids kids)
    (h : ∀ (a : Act) (W : World), (∀ s, s ∉ D → a.eval (.tmp s) = a0.eval (.tmp s)) → (∀ e ∈ o.after, Region.binds .any e = true → ∀ d, D[e.on]? = some d → d < a0.tmps.size → ∀ x, S.getD e.on (.val undef) = .val x → a.eval (.tmp d) = x) → (execOp a.eval o).run Tryd.prog W = .ok (.enter 84 #[.pointer (some ⟨c.L, 0, none⟩), (mkNd op n ids).v]) W) :
    StepJ Tryd.prog Q (JX c w nv0 ns0) (leL c t0 t0') a0 D (skR c t0 t0' S) ws i o := by
  rintro m a W hm ⟨nv, ns, hJ⟩ hq hdp K hK
  rw [hw] at hK hm
  have hl := hJ.len
  refine wp_enter (h a W hq ?_) (add84d c W nv ns op n ids kids hJ.st.li hJ.st.ord hJ.st.hb (by omega) hwn (hd.grow hJ.pre)) ?_
  · intro e he hb d hd hl x hx
    have := hdp e he hb d hd hl
    unfold skR at this
    rw [hx] at this
    exact this
  · rintro e W' ⟨k, nv', ns', rfl, hg, hD⟩
    exact ⟨_, rfl, hK _ W' ⟨nv', ns', hg.J hJ⟩ (hg.le hJ.st) (by unfold skR; rw [hS]; exact ⟨k, rfl, nv', ns', hg.st hJ.st, hD⟩)⟩
/-- the two numbers put together -/
theorem stepL_build {t t' : Tr} {j j' d d' : Nat} (ho : o.op = .build 148 #[(0, .tmp d), (1, .tmp d')]) (hj : (⟨j, .data⟩ : Edge) ∈ o.after) (hj' : (⟨j', .data⟩ : Edge) ∈ o.after) (hd : D[j]? = some d) (hd' : D[j']? = some d') (hl : d < a0.tmps.size) (hl' : d' < a0.tmps.size)
    (hw : ws.getD i 0 = 0) (hSj : S.getD j (.val undef) = .den t) (hSj' : S.getD j' (.val undef) = .den t') (hS : S.getD i (.val undef) = .dens t t') :
    StepJ Tryd.prog Q (JX c w nv0 ns0) (leL c t0 t0') a0 D (skR c t0 t0' S) ws i o := by
  intro n a W hn hJ hq hdp K hK
  rw [hw] at hK
  have e := hdp _ hj rfl d hd hl
  have e' := hdp _ hj' rfl d' hd' hl'
  unfold skR at e e'
  rw [hSj] at e
  rw [hSj'] at e'
  obtain ⟨x, hx, hX⟩ := e
  obtain ⟨y, hy, hY⟩ := e'
  refine wp_value (v := .agg #[.int .i64 x, .int .i64 y]) ?_ (hK _ W hJ (leL.kept (Kept.refl _ _)) ?_)
  · revert hx hy; generalize a.eval = ρ; intro hx hy
    simp [execOp, go_sem, ho, hx, hy]
  · unfold skR; rw [hS]; exact ⟨x, y, rfl, hX, hY⟩
/-- what is answered is stored in the box -/
theorem stepL_store {j d s : Nat} (ho : o.op = .store 148 (.tmp s) (.tmp d)) (hs : s ∉ D) (ha : a0.eval (.tmp s) = .pointer (some ⟨c.r, 0, none⟩)) (hj : (⟨j, .data⟩ : Edge) ∈ o.after) (hd : D[j]? = some d) (hl : d < a0.tmps.size)
    (hw : ws.getD i 0 = 0) (hSj : S.getD j (.val undef) = .dens t0 t0') (hS : S.getD i (.val undef) = .fill) :
    StepJ Tryd.prog Q (JX c w nv0 ns0) (leL c t0 t0') a0 D (skR c t0 t0' S) ws i o := by
  rintro n a W hn ⟨nv, ns, hJ⟩ hq hdp K hK
  rw [hw] at hK
  have e := hdp _ hj rfl d hd hl
  have es := (hq s hs).trans ha
  unfold skR at e
  rw [hSj] at e
  obtain ⟨x, y, hx, hX, hY⟩ := e
  have hst := hJ.st
  obtain ⟨u, u', b0, b1⟩ := hst.box
  have g0 := hst.f0
  have g1 := hst.f1
  have hlt := hst.lt
  have hk : Kept (fun k => k = c.r) W ((W.setCell ⟨c.r, 0, none⟩ (.int .i64 x)).setCell ⟨c.r, 1, none⟩ (.int .i64 y)) := ((Kept.refl (fun k => k = c.r) W).setCell (p := ⟨c.r, 0, none⟩) (fun _ => rfl) _).setCell (p := ⟨c.r, 1, none⟩) (fun _ => rfl) _
  have hnl : ∀ nv1, (nv1 : Value).ownBlock ≠ some c.r → ∀ k, LSet c.L c.bm nv1 k → ¬ k = c.r := by
    rintro nv1 hr k (e | e | e) rfl
    · exact hst.rl e
    · exact hst.rm e
    · exact hr e.symm
  have k0 : ((W.setCell ⟨c.r, 0, none⟩ (.int .i64 x)).setCell ⟨c.r, 1, none⟩ (.int .i64 y)).cell? ⟨c.r, 0, none⟩ = some (.int .i64 x) := by simp [go_sem, b0]
  have k1 : ((W.setCell ⟨c.r, 0, none⟩ (.int .i64 x)).setCell ⟨c.r, 1, none⟩ (.int .i64 y)).cell? ⟨c.r, 1, none⟩ = some (.int .i64 y) := by simp [go_sem, b1]
  have hstn : ∀ nv1 ns1, LSt c W nv1 ns1 → LSt c ((W.setCell ⟨c.r, 0, none⟩ (.int .i64 x)).setCell ⟨c.r, 1, none⟩ (.int .i64 y)) nv1 ns1 := fun nv1 ns1 h =>
    { li := h.li.keep hk (hnl nv1 h.rn), ord := h.ord, hb := Nat.le_trans h.hb hk.size, rl := h.rl, rm := h.rm, rn := h.rn
      box := ⟨_, _, k0, k1⟩, f0 := by simp only [World.frozen?_setCell]; exact g0, f1 := by simp only [World.frozen?_setCell]; exact g1 }
  have hle : ∀ nv1 ns1, LSt c W nv1 ns1 → ∃ nv' ns', LSt c ((W.setCell ⟨c.r, 0, none⟩ (.int .i64 x)).setCell ⟨c.r, 1, none⟩ (.int .i64 y)) nv' ns' ∧ ns1 <+: ns' := fun nv1 ns1 h => ⟨nv1, ns1, hstn nv1 ns1 h, List.prefix_refl _⟩
  have hfill : Fill c t0 t0' ((W.setCell ⟨c.r, 0, none⟩ (.int .i64 x)).setCell ⟨c.r, 1, none⟩ (.int .i64 y)) := ⟨x, y, k0, k1, hX.le hle, hY.le hle⟩
  refine wp_skip (W' := ((W.setCell ⟨c.r, 0, none⟩ (.int .i64 x)).setCell ⟨c.r, 1, none⟩ (.int .i64 y))) ?_ ?_
  · revert hx es; generalize a.eval = ρ; intro hx es
    simp [execOp, go_sem, ho, hx, es, b0, b1, g0, g1]
  · refine hK _ _ ⟨nv, ns, hstn nv ns hst, hJ.pre, hJ.len, hJ.own, hJ.kept.trans hk (fun k _ e => .inr e), hJ.nd⟩ ⟨hle, fun _ => hfill⟩ (by unfold skR; rw [hS]; exact hfill)
end
end Go.Proofs.YtdbpdanocpfboaaDoor

/- What is plain, laid out: truth, other, two. -/
namespace Go.Proofs.YtdbpdanocpfboaaDoor
open Go.RowKit

theorem other125 (w : World) (i j : Int) : Calls Tryd.prog 125 #[.agg #[.int .i64 i, .int .i64 j]] w fun e w' => e = .returned (.agg #[.int .i64 j, .int .i64 i]) ∧ Kept (fun _ => False) w w' := by
  go_enter Tryd.func125, Tryd.ntmps125
  go_wp2
  exact bodyPost_ret (v := .agg #[.int .i64 j, .int .i64 i]) (by simp [results, Tryd.results125, go_sem]) rfl ⟨rfl, by repeat (first | exact Kept.refl _ _ | apply Kept.alloc)⟩

/-- what was done since the call's beginning -/
theorem JL.grown {c : Lc} {w w1 : World} {nv nv' : Value} {ns ns' : List Nd} {n : Nat} {W : World} (h : JL c w1 nv ns n W nv' ns') (hk : Kept (fun _ => False) w w1) (hr : w.heap.size ≤ c.r) (r' : Nat) : Grown ⟨c.base, c.L, c.bm, r'⟩ n w nv ns W nv' ns' :=
  { li := h.st.li, ord := h.st.ord, pre := h.pre, len := h.len, nd := h.nd
    own := fun j hj => (h.own j hj).imp id (fun h' => Nat.le_trans hk.size h')
    kept := (hk.mono (T := LSet c.L c.bm nv) (fun _ _ f => f.elim)).trans h.kept (fun k hk' e => by
      rcases e with e | e
      · exact e
      · omega) }
theorem JL.fill {c : Lc} {w1 : World} {nv nv' : Value} {ns ns' : List Nd} {n : Nat} {W : World} {t t' : Tr} (h : JL c w1 nv ns n W nv' ns') (hf : Fill c t t' W) : ∃ i j, W.cell? ⟨c.r, 0, none⟩ = some (.int .i64 i) ∧ W.cell? ⟨c.r, 1, none⟩ = some (.int .i64 j) ∧ Den ns' i t ∧ Den ns' j t' := by
  obtain ⟨i, j, h1, h2, ⟨nv1, ns1, h3, h4⟩, ⟨nv2, ns2, h5, h6⟩⟩ := hf
  obtain ⟨rfl, rfl⟩ := h.st.li.uniq h3.li
  obtain ⟨rfl, rfl⟩ := h.st.li.uniq h5.li
  exact ⟨i, j, h1, h2, h4, h6⟩
/-- a new box beside the List -/
theorem LSt.mk' {base L bm r : Nat} {w w1 : World} {nv : Value} {ns : List Nd} (hL : LIn w base L bm nv ns) (ho : Ord ns) (hb : base ≤ w.heap.size) (hk : Kept (fun _ => False) w w1) (hr : w.heap.size ≤ r) {x y : Value} (h0 : w1.cell? ⟨r, 0, none⟩ = some x) (h1 : w1.cell? ⟨r, 1, none⟩ = some y) (f0 : w1.frozen? ⟨r, 0, none⟩ = false) (f1 : w1.frozen? ⟨r, 1, none⟩ = false) : LSt ⟨base, L, bm, r⟩ w1 nv ns := by
  have l1 : L < w.heap.size := lt_of_cell hL.c0
  have l2 : bm < w.heap.size := by obtain ⟨m, hm, _⟩ := hL.map; exact hm.lt
  exact { li := hL.keep hk (fun _ _ f => f), ord := ho, hb := Nat.le_trans hb hk.size, rl := by simp only; omega, rm := by simp only; omega
          rn := fun e => by
            have := (ownsRow_lt hL.own e.symm).1
            simp only at this
            omega
          box := ⟨x, y, h0, h1⟩, f0 := f0, f1 := f1 }
theorem JX.cell {c : Lc} {w1 : World} {nv0 : Value} {ns0 : List Nd} {n : Nat} {W : World} (h : JX c w1 nv0 ns0 n W) {b o : Nat} {v : Value} (hc : w1.cell? ⟨b, o, none⟩ = some v) (hb : ¬ (LSet c.L c.bm nv0 b ∨ b = c.r)) : W.cell? ⟨b, o, none⟩ = some v := by
  obtain ⟨nv, ns, h⟩ := h
  exact (h.kept.cell (p := ⟨b, o, none⟩) (lt_of_cell hc) hb).trans hc

set_option maxRecDepth 100000 in
set_option maxHeartbeats 2000000 in
theorem truth124 (c : Lc) (w : World) (nv : Value) (ns : List Nd) (hL : LIn w c.base c.L c.bm nv ns) (ho : Ord ns) (hb : c.base ≤ w.heap.size) (hlen : ns.length + 2 ≤ 1073741824) :
    Calls Tryd.prog 124 #[.agg #[.pointer (some ⟨c.L, 0, none⟩)]] w fun e w' => Sides c 2 w nv ns (leafT 0) (leafT 1) e w' := by
  obtain ⟨base, L, bm, r'⟩ := c
  simp only at *
  have HL : Hid (LIn w base L bm nv ns) := hL
  clear hL
  go_enter Tryd.func124, Tryd.ntmps124
  go_upto_region 1 with fail
  obtain ⟨w1, hw1⟩ : ∃ w1, w1 = (w.alloc (.cells #[.pointer (some ⟨L, 0, none⟩)] 145)).alloc (.cells #[.int .i64 0, .int .i64 0] 148) := ⟨_, rfl⟩
  have hk : Kept (fun _ => False) w w1 := by rw [hw1]; exact ((Kept.refl _ _).alloc _).alloc _
  have hbox : w1.cell? ⟨w.heap.size, 0, none⟩ = some (.pointer (some ⟨L, 0, none⟩)) := by rw [hw1]; simp
  have hst : LSt ⟨base, L, bm, w.heap.size + 1⟩ w1 nv ns := LSt.mk' HL.out ho hb hk (by omega) (x := .int .i64 0) (y := .int .i64 0) (by rw [hw1]; simp) (by rw [hw1]; simp) (by rw [hw1]; simp) (by rw [hw1]; simp)
  rw [← hw1]
  clear hw1
  have hn : ¬ (LSet L bm nv w.heap.size ∨ w.heap.size = w.heap.size + 1) := by
    have l1 : L < w.heap.size := lt_of_cell HL.out.c0
    have l2 : bm < w.heap.size := by obtain ⟨m, hm, _⟩ := HL.out.map; exact hm.lt
    rintro ((e | e | e) | e)
    · omega
    · omega
    · have := (ownsRow_lt HL.out.own e).1; omega
    · omega
  refine wp_region_L ⟨base, L, bm, w.heap.size + 1⟩ (leafT 0) (leafT 1) nv ns [3, 4, 5, 6, 7, 8, 9, 10, 11, 12]
    [.val (.pointer (some ⟨w.heap.size, 0, none⟩)), .val (.pointer (some ⟨L, 0, none⟩)), .val (ndV 0 0 (-1) (-1)), .den (leafT 0), .val (.pointer (some ⟨w.heap.size, 0, none⟩)), .val (.pointer (some ⟨L, 0, none⟩)), .val (ndV 1 0 (-1) (-1)), .den (leafT 1), .dens (leafT 0) (leafT 1), .fill]
    [0, 0, 0, 1, 0, 0, 0, 1, 0, 0] hst rfl (by decide) rfl (by kernel_rfl) rfl
    ⟨stepL_pure rfl rfl (fun a W hJ hq hd => by
        have e := hq 1 (by decide)
        revert e; generalize a.eval = ρ; intro e
        simp [execOp, go_sem, e]),
     stepL_pure rfl rfl (fun a W hJ hq hd => by
        have e := hd ⟨0, .data⟩ (by simp) rfl 3 rfl (of_decide_eq_true rfl) _ rfl
        have hc := hJ.cell hbox hn
        revert e; generalize a.eval = ρ; intro e
        simp [execOp, go_sem, e, hc]),
     stepL_call (f := 81) (args := #[.int .i64 0, .int .i64 0]) rfl rfl (fun a W hq hd => by
        have hf : a.eval (.func 81) = .func (.func 81) #[] #[] := rfl
        have hc : a.eval (.const (.int .i64 0)) = .int .i64 0 := rfl
        revert hf hc; generalize a.eval = ρ; intro hf hc
        simp [execOp, go_sem, hf, hc]) (fun W => leaf81 0 0 W),
     stepL_add (op := 0) (n := 0) (ids := []) (kids := []) rfl rfl hlen ⟨by decide, by decide, rfl, by decide, by decide⟩ rfl (fun a W hq hd => by
        have e1 := hd ⟨1, .data⟩ (by simp) rfl 4 rfl (of_decide_eq_true rfl) _ rfl
        have e2 := hd ⟨2, .data⟩ (by simp) rfl 5 rfl (of_decide_eq_true rfl) _ rfl
        have hf : a.eval (.func 84) = .func (.func 84) #[] #[] := rfl
        revert hf e1 e2; generalize a.eval = ρ; intro hf e1 e2
        simp [execOp, go_sem, hf, e1, e2, mkNd, Nd.v]),
     stepL_pure rfl rfl (fun a W hJ hq hd => by
        have e := hq 1 (by decide)
        revert e; generalize a.eval = ρ; intro e
        simp [execOp, go_sem, e]),
     stepL_pure rfl rfl (fun a W hJ hq hd => by
        have e := hd ⟨4, .data⟩ (by simp) rfl 7 rfl (of_decide_eq_true rfl) _ rfl
        have hc := hJ.cell hbox hn
        revert e; generalize a.eval = ρ; intro e
        simp [execOp, go_sem, e, hc]),
     stepL_call (f := 81) (args := #[.int .i64 1, .int .i64 0]) rfl rfl (fun a W hq hd => by
        have hf : a.eval (.func 81) = .func (.func 81) #[] #[] := rfl
        have hc : a.eval (.const (.int .i64 0)) = .int .i64 0 := rfl
        have hc' : a.eval (.const (.int .i64 1)) = .int .i64 1 := rfl
        revert hf hc hc'; generalize a.eval = ρ; intro hf hc hc'
        simp [execOp, go_sem, hf, hc, hc']) (fun W => leaf81 1 0 W),
     stepL_add (op := 1) (n := 0) (ids := []) (kids := []) rfl rfl hlen ⟨by decide, by decide, rfl, by decide, by decide⟩ rfl (fun a W hq hd => by
        have e1 := hd ⟨5, .data⟩ (by simp) rfl 8 rfl (of_decide_eq_true rfl) _ rfl
        have e2 := hd ⟨6, .data⟩ (by simp) rfl 9 rfl (of_decide_eq_true rfl) _ rfl
        have hf : a.eval (.func 84) = .func (.func 84) #[] #[] := rfl
        revert hf e1 e2; generalize a.eval = ρ; intro hf e1 e2
        simp [execOp, go_sem, hf, e1, e2, mkNd, Nd.v]),
     stepL_build (j := 3) (j' := 7) (d := 6) (d' := 10) rfl (by simp) (by simp) rfl rfl (of_decide_eq_true rfl) (of_decide_eq_true rfl) rfl rfl rfl rfl,
     stepL_store (j := 8) (d := 11) (s := 2) rfl (by decide) rfl (by simp) rfl (of_decide_eq_true rfl) rfl rfl rfl, trivial⟩ ?_
  intro f W nv' ns' hJ hR
  obtain ⟨i, j, c0, c1, d0, d1⟩ := hJ.fill (hR 9 (by decide))
  have hG := hJ.grown hk (by simp) r'
  clear hR hJ hst
  simp only [puts, Nat.zero_add, Nat.reduceAdd, Act.put, List.setIfInBounds_toArray, List.set_cons_succ, List.set_cons_zero, List.set_nil]
  simp only at c0 c1
  go_wp2
  exact bodyPost_ret (v := .agg #[.int .i64 i, .int .i64 j]) (by simp [results, Tryd.results124, go_sem, c0, c1]) rfl ⟨i, j, nv', ns', rfl, hG, d0, d1⟩
end Go.Proofs.YtdbpdanocpfboaaDoor
