import Derived.Test.YtdbpdanocpfboaaDoorZBun01
import Derived.Test.YtdbpdanocpfboaaDoorZKids
import Derived.Test.YtdbpdanocpfboaaDoorZMake
import Derived.Test.YtdbpdanocpfboaaDoorZPl4
import Derived.Test.YtdbpdanocpfboaaDoorZBun07
import Derived.Test.YtdbpdanocpfboaaDoorZBun06
/- A List of Nodes to be read. -/
namespace Go.Proofs.YtdbpdanocpfboaaDoor
open Go.RowKit

theorem wrap_in (n : Int) (h : -9223372036854775808 ≤ n ∧ n ≤ 9223372036854775807) : wrap64 n = n := by unfold wrap64; omega

/-- the numbers of a Node's Kids -/
def kidsL (x : Nd) : List Int := if x.l = -1 then [] else if x.r = -1 then [x.l] else [x.l, x.r]
theorem kidsL_length (x : Nd) : (kidsL x).length ≤ 2 := by unfold kidsL; split <;> (try split) <;> simp

/-- a row of ints, new since w0 -/
def NewInts (w0 w : World) (a : Option Addr) (ks : List Int) : Prop := ∀ (i : Nat) (x : Int), ks[i]? = some x → ∃ b, a = some ⟨b, 0, none⟩ ∧ w0.heap.size ≤ b ∧ w.cell? ⟨b, i, none⟩ = some (.int .i64 x)
theorem kids63 (w : World) (x : Nd) : Calls Tryd.prog 63 #[x.v] w fun e w' => ∃ a c, e = .returned (.slice a (kidsL x).length c) ∧ NewInts w w' a (kidsL x) ∧ Kept (fun _ => False) w w' := by
  by_cases h1 : x.l = -1
  · refine (kids63_none w x h1).mono ?_
    rintro e w' ⟨rfl, hk⟩
    exact ⟨none, 0, by simp [kidsL, h1], fun i y hy => by simp [kidsL, h1] at hy, hk⟩
  · have b1 : (x.l == -1) = false := by simpa using h1
    by_cases h2 : x.r = -1
    · refine (kids63_one w x b1 h2).mono ?_
      rintro e w' ⟨b, rfl, hb, hc, hk⟩
      refine ⟨some ⟨b, 0, none⟩, 1, by simp [kidsL, h1, h2], fun i y hy => ?_, hk⟩
      simp only [kidsL, h1, h2, if_false, if_true] at hy
      match i, hy with
      | 0, hy => simp at hy; subst hy; exact ⟨b, rfl, hb, hc⟩
    · have b2 : (x.r == -1) = false := by simpa using h2
      refine (kids63_two w x b1 b2).mono ?_
      rintro e w' ⟨b, rfl, hb, hc, hc2, hk⟩
      refine ⟨some ⟨b, 0, none⟩, 2, by simp [kidsL, h1, h2], fun i y hy => ?_, hk⟩
      simp only [kidsL, h1, h2, if_false] at hy
      match i, hy with
      | 0, hy => simp at hy; subst hy; exact ⟨b, rfl, hb, hc⟩
      | 1, hy => simp at hy; subst hy; exact ⟨b, rfl, hb, hc2⟩
theorem NewInts.set {w0 w : World} {a : Option Addr} {ks : List Int} (h : NewInts w0 w a ks) {p : Addr} (hp : p.block < w0.heap.size) (v : Value) : NewInts w0 (w.setCell p v) a ks := fun i x hx => by
  obtain ⟨b, e, hb, hc⟩ := h i x hx
  refine ⟨b, e, hb, ?_⟩
  rw [World.cell?_setCell_other _ _ _ _ (by rintro rfl; simp only at hp; omega)]
  exact hc

/-- a List to be read: its Nodes -/
def LRead (w : World) (L : Nat) (ns : List Nd) : Prop :=
  ∃ a c, w.cell? ⟨L, 0, none⟩ = some (.slice a ns.length c) ∧ ns.length ≤ 1073741824 ∧ ∀ j x, ns[j]? = some x → ∃ g, a = some ⟨g, 0, none⟩ ∧ w.cell? ⟨g, j * 4, none⟩ = some (.int .i64 x.op) ∧ w.cell? ⟨g, j * 4 + 1, none⟩ = some (.int .i64 x.n) ∧ w.cell? ⟨g, j * 4 + 2, none⟩ = some (.int .i64 x.l) ∧ w.cell? ⟨g, j * 4 + 3, none⟩ = some (.int .i64 x.r)
theorem LRead.kept {w w' : World} {L : Nat} {ns : List Nd} (h : LRead w L ns) (hk : Kept (fun _ => False) w w') : LRead w' L ns := by
  obtain ⟨a, c, h1, h2, h3⟩ := h
  refine ⟨a, c, (hk.cell (p := ⟨L, 0, none⟩) (lt_of_cell h1) (fun f => f)).trans h1, h2, fun j x hx => ?_⟩
  obtain ⟨g, e, a0, a1, a2, a3⟩ := h3 j x hx
  exact ⟨g, e, (hk.cell (p := ⟨g, j * 4, none⟩) (lt_of_cell a0) (fun f => f)).trans a0, (hk.cell (p := ⟨g, j * 4 + 1, none⟩) (lt_of_cell a1) (fun f => f)).trans a1,
    (hk.cell (p := ⟨g, j * 4 + 2, none⟩) (lt_of_cell a2) (fun f => f)).trans a2, (hk.cell (p := ⟨g, j * 4 + 3, none⟩) (lt_of_cell a3) (fun f => f)).trans a3⟩

theorem flatN_get : ∀ (ns : List Nd) (j : Nat) (x : Nd), ns[j]? = some x → (flatN ns)[j * 4]? = some (.int .i64 x.op) ∧ (flatN ns)[j * 4 + 1]? = some (.int .i64 x.n) ∧ (flatN ns)[j * 4 + 2]? = some (.int .i64 x.l) ∧ (flatN ns)[j * 4 + 3]? = some (.int .i64 x.r)
  | y :: r, 0, x, h => by simp at h; subst h; simp [flatN, Nd.cells]
  | y :: r, j + 1, x, h => by
    have ih := flatN_get r j x (by simpa using h)
    have e : flatN (y :: r) = y.cells ++ flatN r := by simp [flatN]
    have hl : y.cells.length = 4 := rfl
    rw [e]
    have f : ∀ k, (y.cells ++ flatN r)[(j + 1) * 4 + k]? = (flatN r)[j * 4 + k]? := fun k => by
      rw [List.getElem?_append_right (by omega), hl]
      congr 1
      omega
    exact ⟨(f 0).trans ih.1, (f 1).trans ih.2.1, (f 2).trans ih.2.2.1, (f 3).trans ih.2.2.2⟩

theorem LIn.read {w : World} {base L bm : Nat} {nv : Value} {ns : List Nd} (h : LIn w base L bm nv ns) : LRead w L ns := by
  rcases h.own.2 with ⟨rfl, hz⟩ | ⟨g, cap, cur, rfl, _⟩
  · exact ⟨none, 0, by rw [hz]; exact h.c0, h.len, fun j x hx => by rw [List.eq_nil_of_length_eq_zero hz] at hx; simp at hx⟩
  · refine ⟨some ⟨g, 0, none⟩, cap, h.c0, h.len, fun j x hx => ⟨g, rfl, ?_⟩⟩
    have hcl := h.own.cells (g := g) rfl
    obtain ⟨f0, f1, f2, f3⟩ := flatN_get ns j x hx
    have ad : ∀ k, (⟨g, 0, none⟩ : Addr).add k = ⟨g, k, none⟩ := fun k => by
      unfold Addr.add
      by_cases h0 : k = 0
      · subst h0; simp
      · simp [h0]
    have c0 := hcl _ _ f0
    have c1 := hcl _ _ f1
    have c2 := hcl _ _ f2
    have c3 := hcl _ _ f3
    rw [ad] at c0 c1 c2 c3
    exact ⟨c0, c1, c2, c3⟩

theorem at56r (w : World) (L j : Nat) (ns : List Nd) (x : Nd) (h : LRead w L ns) (hx : ns[j]? = some x) : Calls Tryd.prog 61 #[.pointer (some ⟨L, 0, none⟩), .int .i64 (j : Int)] w fun e w' => e = .returned x.v ∧ Kept (fun _ => False) w w' := by
  obtain ⟨a, c, h1, h2, h3⟩ := h
  obtain ⟨g, rfl, a0, a1, a2, a3⟩ := h3 j x hx
  exact at56 w L g ns.length c j x h1 (List.getElem?_eq_some_iff.1 hx).1 a0 a1 a2 a3

theorem kidsL_mk {op n : Int} {ids : List Int} (hl : ids.length ≤ 2) (hi : ∀ i ∈ ids, 0 ≤ i) : kidsL (mkNd op n ids) = ids := by
  match ids, hl with
  | [], _ => simp [mkNd, kidsL]
  | [a], _ => have := hi a (by simp); simp [mkNd, kidsL]; omega
  | [a, b], _ =>
    have h1 := hi a (by simp)
    have h2 := hi b (by simp)
    have e1 : a ≠ -1 := by omega
    have e2 : b ≠ -1 := by omega
    simp [mkNd, kidsL, e1, e2]

end Go.Proofs.YtdbpdanocpfboaaDoor

/- What is plain, laid out: Plain. -/
namespace Go.Proofs.YtdbpdanocpfboaaDoor
open Go.RowKit

theorem info148 : (Tryd.prog.info? 148).map (fun i => (i.zero, i.size, i.bytes)) = some (some (.agg #[.int .i64 0, .int .i64 0]), 2, 16) := by kernel_rfl

/-! ### each Node is a formula -/
theorem ord_den {ns : List Nd} (ho : Ord ns) : ∀ (N j : Nat), j < N → j < ns.length → ∃ t, t.well ∧ Den ns (j : Int) t := by
  intro N
  induction N with
  | zero => intro j hj; omega
  | succ N ih =>
    intro j hj hl
    obtain ⟨op, n, ids, e, hw, hi⟩ := ho j ns[j] (List.getElem?_eq_getElem hl)
    have hk : ∀ l : List Int, (∀ i ∈ l, 0 ≤ i ∧ i < (j : Int)) → ∃ ks : List Tr, Dens ns l ks ∧ Tr.wells ks ∧ ks.length = l.length := by
      intro l
      induction l with
      | nil => intro _; exact ⟨[], rfl, trivial, rfl⟩
      | cons i r ihl =>
        intro h
        obtain ⟨ks, h1, h2, h3⟩ := ihl (fun x hx => h x (by simp [hx]))
        have hx := h i (by simp)
        obtain ⟨k, rfl⟩ : ∃ k : Nat, i = (k : Int) := ⟨i.toNat, by omega⟩
        obtain ⟨t, ht, hd⟩ := ih k (by omega) (by omega)
        exact ⟨t :: ks, ⟨_, _, rfl, hd, h1⟩, ⟨ht, h2⟩, by simp [h3]⟩
    obtain ⟨ks, h1, h2, h3⟩ := hk ids hi
    exact ⟨.mk op n ks, ⟨by rw [h3]; exact hw, h2⟩, j, ids, rfl, by rw [List.getElem?_eq_getElem hl, e], h1⟩

/-! ### the List and the row of what is done, while it is made -/
structure PI (base L bm b7 dg m : Nat) (w2 W4 : World) (fs : List Nd) (j : Nat) (wr : World) (nv : Value) (ns : List Nd) : Prop where
  kept : Kept (fun k => base ≤ k) w2 wr
  box : wr.cell? ⟨b7, 0, none⟩ = some (.pointer (some ⟨L, 0, none⟩))
  li : LIn wr base L bm nv ns
  ord : Ord ns
  len : ns.length ≤ 4 * j
  nd : ns.Nodup
  own : ∀ k, some k = nv.ownBlock → W4.heap.size ≤ k
  done : ∀ k, k < j → ∃ p q, wr.cell? ⟨dg, k * 2, none⟩ = some (.int .i64 p) ∧ wr.cell? ⟨dg, k * 2 + 1, none⟩ = some (.int .i64 q) ∧ ∀ t, t.well → Den fs (k : Int) t → Den ns p (plainT t false) ∧ Den ns q (plainT t true)
  row : ∀ i, i < m * 2 → (wr.cell? ⟨dg, i, none⟩).isSome = true ∧ wr.frozen? ⟨dg, i, none⟩ = false
  size : W4.heap.size ≤ wr.heap.size
/-- what is known within a round -/
structure Rnd (base L bm b7 dg : Nat) : Prop where
  b7L : b7 ≠ L
  b7m : b7 ≠ bm
  b7d : b7 ≠ dg
  dL : dg ≠ L
  dm : dg ≠ bm
theorem not_ls {L bm : Nat} {nv : Value} {k : Nat} (h1 : k ≠ L) (h2 : k ≠ bm) (h3 : some k ≠ nv.ownBlock) : ¬ LSet L bm nv k := by
  rintro (e | e | e)
  · exact h1 e
  · exact h2 e
  · exact h3 e
section
variable (base L bm b7 dg m j : Nat) (wr : World) (nv : Value) (ns : List Nd) (tF tT : Tr)
def Mid (W : World) : Prop := ∃ nv' ns' p q, Grown ⟨base, L, bm, 0⟩ 4 wr nv ns W nv' ns' ∧ Den ns' p tF ∧ Den ns' q tT
structure FinA (W : World) (Wb : World) (nv' : Value) (ns' : List Nd) (p q : Int) : Prop where
  g : Grown ⟨base, L, bm, 0⟩ 4 wr nv ns Wb nv' ns'
  d1 : Den ns' p tF
  d2 : Den ns' q tT
  k : Kept (fun k => k = dg) Wb W
  c0 : W.cell? ⟨dg, j * 2, none⟩ = some (.int .i64 p)
  c1 : W.cell? ⟨dg, j * 2 + 1, none⟩ = some (.int .i64 q)
  oth : ∀ i, i ≠ j * 2 → i ≠ j * 2 + 1 → W.cell? ⟨dg, i, none⟩ = Wb.cell? ⟨dg, i, none⟩
  fr : ∀ i, W.frozen? ⟨dg, i, none⟩ = Wb.frozen? ⟨dg, i, none⟩
def Fin2 (W : World) : Prop := ∃ Wb nv' ns' p q, FinA base L bm dg j wr nv ns tF tT W Wb nv' ns' p q
def JP (F : Nat → Bool) (W : World) : Prop := (F 9 = true → F 7 = true ∧ Fin2 base L bm dg j wr nv ns tF tT W) ∧ (F 9 = false → F 7 = true → Mid base L bm wr nv ns tF tT W) ∧ (F 7 = false → Kept (fun _ => False) wr W)
end
theorem JP.up {base L bm dg j : Nat} {wr : World} {nv : Value} {ns : List Nd} {tF tT : Tr} {F : Nat → Bool} {W : World} (h : JP base L bm dg j wr nv ns tF tT F W) {i : Nat} (h7 : i ≠ 7) (h9 : i ≠ 9) : JP base L bm dg j wr nv ns tF tT (upF F i) W := by
  have e7 : upF F i 7 = F 7 := by simp [upF, Ne.symm h7]
  have e9 : upF F i 9 = F 9 := by simp [upF, Ne.symm h9]
  unfold JP
  rw [e7, e9]
  exact h
theorem JP.keep {base L bm dg j : Nat} {wr : World} {nv : Value} {ns : List Nd} {tF tT : Tr} {F : Nat → Bool} {W W' : World} (h : JP base L bm dg j wr nv ns tF tT F W) (hk : Kept (fun _ => False) W W') : JP base L bm dg j wr nv ns tF tT F W' := by
  obtain ⟨h1, h2, h3⟩ := h
  refine ⟨fun e => ?_, fun e e' => ?_, fun e => (h3 e).trans hk (fun _ _ f => f)⟩
  · obtain ⟨e7, Wb, nv', ns', p, q, g⟩ := h1 e
    have hl : dg < W.heap.size := lt_of_cell g.c0
    exact ⟨e7, Wb, nv', ns', p, q, { g with k := g.k.trans hk (fun _ _ f => f.elim), c0 := (hk.cell (p := ⟨dg, j * 2, none⟩) hl (fun f => f)).trans g.c0, c1 := (hk.cell (p := ⟨dg, j * 2 + 1, none⟩) hl (fun f => f)).trans g.c1, oth := fun i a b => (hk.cell (p := ⟨dg, i, none⟩) hl (fun f => f)).trans (g.oth i a b), fr := fun i => (hk.frozen (p := ⟨dg, i, none⟩) hl (fun f => f)).trans (g.fr i) }⟩
  · obtain ⟨nv', ns', p, q, g, a, b⟩ := h2 e e'
    exact ⟨nv', ns', p, q, g.keep hk, a, b⟩
/-- what lies elsewhere is kept -/
theorem JP.kept {base L bm dg j : Nat} {wr : World} {nv : Value} {ns : List Nd} {tF tT : Tr} {F : Nat → Bool} {W : World} (h : JP base L bm dg j wr nv ns tF tT F W) : Kept (fun k => LSet L bm nv k ∨ k = dg) wr W := by
  obtain ⟨h1, h2, h3⟩ := h
  cases e7 : F 7 with
  | false => exact (h3 e7).mono (fun _ _ f => f.elim)
  | true =>
    cases e9 : F 9 with
    | false =>
      obtain ⟨nv', ns', p, q, g, a, b⟩ := h2 e9 e7
      exact g.kept.mono (fun _ _ e => .inl e)
    | true =>
      obtain ⟨_, Wb, nv', ns', p, q, g⟩ := h1 e9
      exact (g.g.kept.mono (T := fun k => LSet L bm nv k ∨ k = dg) (fun _ _ e => .inl e)).trans g.k (fun _ _ e => .inr e)
/-- what an operation of the round answers -/
inductive Sr where
  | val (v : Value)
  | res
def Sr.ok (base L bm : Nat) (tF tT : Tr) : Sr → Value → World → Prop
  | .val x, v, _ => v = x
  | .res, v, W => ∃ p q nv ns, v = .agg #[.int .i64 p, .int .i64 q] ∧ LIn W base L bm nv ns ∧ Den ns p tF ∧ Den ns q tT
def leI (base L bm : Nat) (W W' : World) : Prop := ∀ nv ns, LIn W base L bm nv ns → ∃ nv' ns', LIn W' base L bm nv' ns' ∧ ns <+: ns'
theorem leI.kept {base L bm : Nat} {W W' : World} (hk : Kept (fun _ => False) W W') : leI base L bm W W' := fun nv ns h => ⟨nv, ns, h.keep hk (fun _ _ f => f), List.prefix_refl _⟩
def srR (base L bm : Nat) (tF tT : Tr) (l : List Sr) (i : Nat) (v : Value) (W : World) : Prop := (l.getD i (.val undef)).ok base L bm tF tT v W
theorem Sr.mono {base L bm : Nat} {tF tT : Tr} {s : Sr} {v : Value} {W W' : World} (hk : leI base L bm W W') (h : s.ok base L bm tF tT v W) : s.ok base L bm tF tT v W' := by
  cases s with
  | val x => exact h
  | res =>
    obtain ⟨p, q, nv, ns, e, h1, h2, h3⟩ := h
    obtain ⟨nv', ns', h4, h5⟩ := hk nv ns h1
    exact ⟨p, q, nv', ns', e, h4, h2.grow h5, h3.grow h5⟩
theorem stepP_pure {base L bm dg j : Nat} {wr : World} {nv : Value} {ns : List Nd} {tF tT : Tr} {Q : Exit → Act → World → Prop} {a0 : Act} {D : List Nat} {S : List Sr} {i : Nat} {o : Oper} {v : Value} (h7 : i ≠ 7) (h9 : i ≠ 9) (hS : S.getD i (.val undef) = .val v)
    (h : ∀ (a : Act) (W : World) (F : Nat → Bool), JP base L bm dg j wr nv ns tF tT F W → (∀ s, s ∉ D → a.eval (.tmp s) = a0.eval (.tmp s)) → (∀ e ∈ o.after, Region.binds .any e = true → ∀ d, D[e.on]? = some d → d < a0.tmps.size → ∀ x, S.getD e.on (.val undef) = .val x → a.eval (.tmp d) = x) → (execOp a.eval o).run Tryd.prog W = .ok (.value v) W) :
    StepF Tryd.prog Q (JP base L bm dg j wr nv ns tF tT) (leI base L bm) a0 D (srR base L bm tF tT S) i o := by
  intro F a W hF hdn hJ hq hdp K hK
  refine wp_value (h a W F hJ hq ?_) (hK v W (hJ.up h7 h9) (leI.kept (Kept.refl _ _)) ?_)
  · intro e he hb d hd hl x hx
    have := hdp e he hb d hd hl
    unfold srR at this
    rw [hx] at this
    exact this
  · unfold srR; rw [hS]; rfl
end Go.Proofs.YtdbpdanocpfboaaDoor
