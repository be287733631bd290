import Derived.Test.YtdbpdanocpfboaaDoorZSiz
import Derived.Test.YtdbpdanocpfboaaDoorZBun06
import Derived.Test.YtdbpdanocpfboaaDoorZBun05
/- A Form that is made of a Node, place by place: the memory. -/
namespace Go.Proofs.YtdbpdanocpfboaaDoor
open Go.RowKit

/-- a place that is to be made a formula of a Node -/
structure Tk where
  i : Int
  b : Nat
  o : Nat
  t : Tr
def Tk.cells (k : Tk) : List Value := [.int .i64 k.i, .pointer (some ⟨k.b, k.o, none⟩)]
def flatK (l : List Tk) : List Value := l.flatMap Tk.cells
theorem flatK_append (l : List Tk) (k : Tk) : flatK (l ++ [k]) = flatK l ++ k.cells := by simp [flatK]
theorem flatK_length (l : List Tk) : (flatK l).length = l.length * 2 := by
  induction l with
  | nil => rfl
  | cons x r ih =>
    have e : flatK (x :: r) = x.cells ++ flatK r := by simp [flatK]
    rw [e, List.length_append, ih, List.length_cons]
    simp [Tk.cells]
    omega
/-- the place is made, its Kids have places -/
def Fld (F : Nat → Nat → Tr → Prop) (W : World) (b o : Nat) : Tr → Prop
  | .mk op n kids => W.cell? ⟨b, o, none⟩ = some (.int .i64 op) ∧ W.cell? ⟨b, o + 1, none⟩ = some (.int .i64 n) ∧
      ∃ ka kb ko kc, W.cell? ⟨b, o + 2, none⟩ = some (.slice ka kids.length kc) ∧ (0 < kids.length → ka = some ⟨kb, ko, none⟩) ∧ ∀ i kid, kids[i]? = some kid → F kb (ko + 3 * i) kid
def sumT (l : List Tk) : Nat := (l.map fun k => k.t.size).sum
structure FM (ns : List Nd) (w0 : World) (F : Nat → Nat → Tr → Prop) (holes st : List Tk) (sv : Value) (W : World) : Prop where
  kept : Kept (fun _ => False) w0 W
  own : W.ownsRow w0.heap.size 151 2 sv st.length (flatK st.reverse)
  sub : ∀ k ∈ st, k ∈ holes
  hole : ∀ k ∈ holes, Den ns k.i k.t ∧ k.t.well ∧ F k.b k.o k.t ∧ W.cell? ⟨k.b, k.o + 2, none⟩ = some (.slice none 0 0)
  nd : (holes.map fun k => (k.b, k.o)).Nodup
  slot : ∀ b o t, F b o t → w0.heap.size ≤ b ∧ PlainB W b ∧ some b ≠ sv.ownBlock ∧ o % 3 = 0 ∧ (∀ i, i < 3 → (W.cell? ⟨b, o + i, none⟩).isSome = true) ∧ ((∃ k ∈ holes, k.b = b ∧ k.o = o ∧ k.t = t) ∨ Fld F W b o t)
  fn : ∀ b o t t', F b o t → F b o t' → t = t'
theorem plain_frozen {W : World} {b : Nat} (h : PlainB W b) (o : Nat) : W.frozen? ⟨b, o, none⟩ = false := by
  obtain ⟨c, t, h⟩ := h
  simp [World.frozen?, h]
theorem plain_lt {W : World} {b : Nat} (h : PlainB W b) : b < W.heap.size := by
  obtain ⟨c, t, h⟩ := h
  exact (Array.getElem?_eq_some_iff.1 h).1
theorem Fld.cells {F : Nat → Nat → Tr → Prop} {W W' : World} {b o : Nat} (hc : ∀ i, i < 3 → W'.cell? ⟨b, o + i, none⟩ = W.cell? ⟨b, o + i, none⟩) : ∀ {t : Tr}, Fld F W b o t → Fld F W' b o t
  | .mk op n kids, h => by
    obtain ⟨h0, h1, ka, kb, ko, kc, h2, h3, h4⟩ := h
    exact ⟨(hc 0 (by omega)).trans h0, (hc 1 (by omega)).trans h1, ka, kb, ko, kc, (hc 2 (by omega)).trans h2, h3, h4⟩
section
variable {ns : List Nd} {w0 : World} {F : Nat → Nat → Tr → Prop} {holes st : List Tk} {sv : Value} {W W' : World}
/-- the places' cells are as they were -/
theorem FM.mono (h : FM ns w0 F holes st sv W) {st' : List Tk} {sv' : Value} (hk : Kept (fun _ => False) w0 W') (ho : W'.ownsRow w0.heap.size 151 2 sv' st'.length (flatK st'.reverse)) (hs : ∀ k ∈ st', k ∈ holes)
    (hc : ∀ b o t, F b o t → PlainB W' b ∧ some b ≠ sv'.ownBlock ∧ ∀ i, i < 3 → W'.cell? ⟨b, o + i, none⟩ = W.cell? ⟨b, o + i, none⟩) : FM ns w0 F holes st' sv' W' :=
  { kept := hk, own := ho, sub := hs, nd := h.nd, fn := h.fn
    hole := fun k hk => by
      obtain ⟨a, b, c, d⟩ := h.hole k hk
      exact ⟨a, b, c, ((hc _ _ _ c).2.2 2 (by omega)).trans d⟩
    slot := fun b o t hF => by
      obtain ⟨a1, a2, a3, a4, a5, a6⟩ := h.slot b o t hF
      obtain ⟨c1, c2, c3⟩ := hc b o t hF
      exact ⟨a1, c1, c2, a4, fun i hi => by rw [c3 i hi]; exact a5 i hi, a6.imp id (fun f => f.cells c3)⟩ }
theorem FM.keep (h : FM ns w0 F holes st sv W) (hk : Kept (fun _ => False) W W') : FM ns w0 F holes st sv W' := by
  refine h.mono (h.kept.trans hk (fun _ _ f => f)) (ownsRow_of_block h.own (fun k hk' => hk.block k (ownsRow_lt h.own hk').1 (fun f => f))) h.sub (fun b o t hF => ?_)
  obtain ⟨a1, a2, a3, a4, a5, a6⟩ := h.slot b o t hF
  have hl := plain_lt a2
  exact ⟨a2.of_block (hk.block b hl (fun f => f)), a3, fun i _ => hk.cell (p := ⟨b, o + i, none⟩) hl (fun f => f)⟩
theorem FM.pop {k : Tk} {g c : Nat} (h : FM ns w0 F holes (k :: st) (.slice (some ⟨g, 0, none⟩) (st.length + 1) c) W) : FM ns w0 F holes st (.slice (some ⟨g, 0, none⟩) st.length c) W := by
  have hl : (flatK (k :: st).reverse).take (st.length * 2) = flatK st.reverse := by
    rw [List.reverse_cons, flatK_append]
    have : (flatK st.reverse).length = st.length * 2 := by rw [flatK_length]; simp
    rw [← this, List.take_left]
  refine h.mono h.kept ?_ (fun x hx => h.sub x (by simp [hx])) (fun b o t hF => ?_)
  · have := ownsRow_take h.own (n' := st.length) (by simp)
    rwa [hl] at this
  · obtain ⟨a1, a2, a3, a4, a5, a6⟩ := h.slot b o t hF
    exact ⟨a2, a3, fun _ _ => rfl⟩
/-- the top of the stack, in memory -/
theorem FM.top {k : Tk} {g c : Nat} (h : FM ns w0 F holes (k :: st) (.slice (some ⟨g, 0, none⟩) (st.length + 1) c) W) : W.cell? ⟨g, st.length * 2, none⟩ = some (.int .i64 k.i) ∧ W.cell? ⟨g, st.length * 2 + 1, none⟩ = some (.pointer (some ⟨k.b, k.o, none⟩)) := by
  obtain ⟨_, _, hc⟩ := own_cells h.own
  have e : flatK (k :: st).reverse = flatK st.reverse ++ k.cells := by rw [List.reverse_cons, flatK_append]
  have l : (flatK st.reverse).length = st.length * 2 := by rw [flatK_length]; simp
  have c0 := hc (st.length * 2) (.int .i64 k.i) (by rw [e, List.getElem?_append_right (by omega), l]; simp [Tk.cells])
  have c1 := hc (st.length * 2 + 1) (.pointer (some ⟨k.b, k.o, none⟩)) (by rw [e, List.getElem?_append_right (by omega), l]; simp [Tk.cells])
  rw [Nat.zero_add] at c0 c1
  exact ⟨c0, c1⟩
theorem off3 {o o' i j : Nat} (h : o % 3 = 0) (h' : o' % 3 = 0) (hi : i < 3) (hj : j < 3) (e : o + i = o' + j) : o = o' ∧ i = j := by omega
/-- a cell of a hole is written -/
theorem FM.head (h : FM ns w0 F holes st sv W) {k : Tk} (hk : k ∈ holes) {j : Nat} (hj : j < 2) (v : Value) : FM ns w0 F holes st sv (W.setCell ⟨k.b, k.o + j, none⟩ v) := by
  obtain ⟨_, _, hF, _⟩ := h.hole k hk
  obtain ⟨a1, a2, a3, a4, a5, _⟩ := h.slot _ _ _ hF
  have hcell : ∀ b o i, (b ≠ k.b ∨ o + i ≠ k.o + j) → (W.setCell ⟨k.b, k.o + j, none⟩ v).cell? ⟨b, o + i, none⟩ = W.cell? ⟨b, o + i, none⟩ := fun b o i hne => World.cell?_setCell_other _ _ _ _ (by
    intro e
    injection e with e1 e2
    rcases hne with hne | hne
    · exact hne e1.symm
    · exact hne e2.symm)
  have hown := ownsRow_of_block (w' := W.setCell ⟨k.b, k.o + j, none⟩ v) h.own (fun x hx => Below.heap_setCell _ _ _ _ (fun e => by subst e; exact a3 hx))
  refine { kept := h.kept.setCell (fun hh => absurd hh (by simp only; omega)) _, own := hown, sub := h.sub, nd := h.nd, fn := h.fn, hole := fun x hx => ?_, slot := fun b o t hFt => ?_ }
  · obtain ⟨b1, b2, b3, b4⟩ := h.hole x hx
    obtain ⟨_, _, _, c4, _, _⟩ := h.slot _ _ _ b3
    exact ⟨b1, b2, b3, (hcell _ _ _ (.inr (fun e => by omega))).trans b4⟩
  · obtain ⟨b1, b2, b3, b4, b5, b6⟩ := h.slot b o t hFt
    refine ⟨b1, plain_setCell b b2, b3, b4, fun i hi => ?_, ?_⟩
    · by_cases e : b = k.b ∧ o + i = k.o + j
      · obtain ⟨e1, e2⟩ := e
        rw [e1, e2]
        have := a5 j (by omega)
        rw [World.cell?_setCell_same' _ _ _ this]
        rfl
      · rw [hcell]
        · exact b5 i hi
        · by_cases e1 : b = k.b
          · exact .inr (fun e2 => e ⟨e1, e2⟩)
          · exact .inl e1
    · rcases b6 with b6 | b6
      · exact .inl b6
      · by_cases e : b = k.b ∧ o = k.o
        · obtain ⟨rfl, rfl⟩ := e
          exact .inl ⟨k, hk, rfl, rfl, (h.fn _ _ _ _ hF hFt)⟩
        · refine .inr (b6.cells (fun i hi => hcell _ _ _ ?_))
          by_cases e1 : b = k.b
          · exact .inr (fun e2 => e ⟨e1, by omega⟩)
          · exact .inl e1
/-- a hole of a formula without Kids is made -/
theorem FM.leaf {k : Tk} (h : FM ns w0 F (k :: holes) st sv W) (hst : ∀ x ∈ st, x ∈ holes) {op n : Int} (ht : k.t = .mk op n []) (h0 : W.cell? ⟨k.b, k.o, none⟩ = some (.int .i64 op)) (h1 : W.cell? ⟨k.b, k.o + 1, none⟩ = some (.int .i64 n)) : FM ns w0 F holes st sv W := by
  obtain ⟨_, _, hF, h2⟩ := h.hole k (by simp)
  refine { kept := h.kept, own := h.own, sub := hst, nd := by have := h.nd; simp only [List.map_cons, List.nodup_cons] at this; exact this.2, fn := h.fn, hole := fun x hx => h.hole x (by simp [hx]), slot := fun b o t hFt => ?_ }
  obtain ⟨b1, b2, b3, b4, b5, b6⟩ := h.slot b o t hFt
  refine ⟨b1, b2, b3, b4, b5, ?_⟩
  rcases b6 with ⟨x, hx, e1, e2, e3⟩ | b6
  · rcases List.mem_cons.1 hx with rfl | hx
    · refine .inr ?_
      subst e1 e2
      rw [← e3, ht]
      exact ⟨h0, h1, none, 0, 0, 0, h2, fun hh => absurd hh (by simp), fun i kid hi => by simp at hi⟩
    · exact .inl ⟨x, hx, e1, e2, e3⟩
  · exact .inr b6
/-- the Kids' places -/
def kidTk (kb : Nat) : List Int → List Tr → Nat → List Tk
  | i :: r, t :: s, o => ⟨i, kb, o, t⟩ :: kidTk kb r s (o + 3)
  | _, _, _ => []
theorem kidTk_length (kb : Nat) : ∀ (ids : List Int) (ks : List Tr) (o : Nat), ids.length = ks.length → (kidTk kb ids ks o).length = ids.length
  | [], [], _, _ => rfl
  | i :: r, t :: s, o, h => by simp [kidTk, kidTk_length kb r s (o + 3) (by simpa using h)]
theorem kidTk_get (kb : Nat) : ∀ (ids : List Int) (ks : List Tr) (o m : Nat) (i : Int) (t : Tr), ids[m]? = some i → ks[m]? = some t → (kidTk kb ids ks o)[m]? = some ⟨i, kb, o + 3 * m, t⟩
  | i :: r, t :: s, o, 0, i', t', h, h' => by simp at h h'; subst h h'; simp [kidTk]
  | i :: r, t :: s, o, m + 1, i', t', h, h' => by
    have := kidTk_get kb r s (o + 3) m i' t' (by simpa using h) (by simpa using h')
    simp only [kidTk, List.getElem?_cons_succ, this]
    congr 2
    omega
theorem kidTk_mem (kb : Nat) : ∀ (ids : List Int) (ks : List Tr) (o : Nat) (k : Tk), k ∈ kidTk kb ids ks o → ∃ m, ids[m]? = some k.i ∧ ks[m]? = some k.t ∧ k.b = kb ∧ k.o = o + 3 * m
  | i :: r, t :: s, o, k, h => by
    simp only [kidTk, List.mem_cons] at h
    rcases h with rfl | h
    · exact ⟨0, rfl, rfl, rfl, rfl⟩
    · obtain ⟨m, h1, h2, h3, h4⟩ := kidTk_mem kb r s (o + 3) k h
      exact ⟨m + 1, by simpa using h1, by simpa using h2, h3, by omega⟩
  | [], _, _, k, h => by simp [kidTk] at h
  | _ :: _, [], _, k, h => by simp [kidTk] at h
theorem kidTk_nodup (kb : Nat) : ∀ (ids : List Int) (ks : List Tr) (o : Nat), ((kidTk kb ids ks o).map fun k => (k.b, k.o)).Nodup
  | i :: r, t :: s, o => by
    simp only [kidTk, List.map_cons, List.nodup_cons]
    refine ⟨fun h => ?_, kidTk_nodup kb r s (o + 3)⟩
    obtain ⟨k, hk, e⟩ := List.mem_map.1 h
    obtain ⟨m, _, _, _, h4⟩ := kidTk_mem kb r s (o + 3) k hk
    simp at e
    omega
  | [], _, _ => by simp [kidTk]
  | _ :: _, [], _ => by simp [kidTk]
/-- a hole of a formula with Kids is made: they have a new row of places -/
theorem FM.node {k : Tk} (h : FM ns w0 F (k :: holes) st sv W) (hst : ∀ x ∈ st, x ∈ holes) {op n : Int} {ids : List Int} {ks : List Tr} (ht : k.t = .mk op n ks) (hd : Dens ns ids ks) (h0 : W.cell? ⟨k.b, k.o, none⟩ = some (.int .i64 op)) (h1 : W.cell? ⟨k.b, k.o + 1, none⟩ = some (.int .i64 n)) {cs : Array Value} (hcs : ∀ i, i < ks.length → cs[3 * i]? = some (.int .i64 0) ∧ cs[3 * i + 1]? = some (.int .i64 0) ∧ cs[3 * i + 2]? = some (.slice none 0 0)) (l c : Nat) (hl : l = ks.length) :
    FM ns w0 (fun b o t => F b o t ∨ (b = W.heap.size ∧ ∃ i, o = 3 * i ∧ ks[i]? = some t)) (kidTk W.heap.size ids ks 0 ++ holes) st sv ((W.alloc (.cells cs 24)).setCell ⟨k.b, k.o + 2, none⟩ (.slice (some ⟨W.heap.size, 0, none⟩) l c)) := by
  subst hl
  obtain ⟨_, htw, hF, h2⟩ := h.hole k (by simp)
  obtain ⟨a1, a2, a3, a4, a5, _⟩ := h.slot _ _ _ hF
  have hkb := plain_lt a2
  have hkn : Kept (fun _ => False) W (W.alloc (.cells cs 24)) := (Kept.refl _ _).alloc _
  have hws := h.kept.size
  have hne : k.b ≠ W.heap.size := by omega
  have hin : ∀ b o t, F b o t → b < W.heap.size := fun b o t hf => plain_lt (h.slot b o t hf).2.1
  have hcell : ∀ b o i, b < W.heap.size → (b ≠ k.b ∨ o + i ≠ k.o + 2) → ((W.alloc (.cells cs 24)).setCell ⟨k.b, k.o + 2, none⟩ (.slice (some ⟨W.heap.size, 0, none⟩) ks.length c)).cell? ⟨b, o + i, none⟩ = W.cell? ⟨b, o + i, none⟩ := fun b o i hb hn => by
    rw [World.cell?_setCell_other _ _ _ _ (by
      intro e
      injection e with e1 e2
      rcases hn with hn | hn
      · exact hn e1.symm
      · exact hn e2.symm)]
    exact hkn.cell (p := ⟨b, o + i, none⟩) hb (fun f => f)
  have hsome : ((W.alloc (.cells cs 24)).cell? ⟨k.b, k.o + 2, none⟩).isSome = true := by
    rw [hkn.cell (p := ⟨k.b, k.o + 2, none⟩) hkb (fun f => f), h2]
    rfl
  have hset : ((W.alloc (.cells cs 24)).setCell ⟨k.b, k.o + 2, none⟩ (.slice (some ⟨W.heap.size, 0, none⟩) ks.length c)).cell? ⟨k.b, k.o + 2, none⟩ = some (.slice (some ⟨W.heap.size, 0, none⟩) ks.length c) := World.cell?_setCell_same' _ _ _ hsome
  have hnew : ∀ o, ((W.alloc (.cells cs 24)).setCell ⟨k.b, k.o + 2, none⟩ (.slice (some ⟨W.heap.size, 0, none⟩) ks.length c)).cell? ⟨W.heap.size, o, none⟩ = cs[o]? := fun o => by
    rw [World.cell?_setCell_other _ _ _ _ (by intro e; injection e with e1 e2; exact hne e1), World.cell?_alloc_new]
  have hpn : PlainB ((W.alloc (.cells cs 24)).setCell ⟨k.b, k.o + 2, none⟩ (.slice (some ⟨W.heap.size, 0, none⟩) ks.length c)) W.heap.size := plain_setCell _ ⟨cs, 24, by show (W.heap.push _)[W.heap.size]? = _; simp⟩
  have hpo : ∀ b, PlainB W b → PlainB ((W.alloc (.cells cs 24)).setCell ⟨k.b, k.o + 2, none⟩ (.slice (some ⟨W.heap.size, 0, none⟩) ks.length c)) b := fun b hp => plain_setCell _ (hp.of_block (hkn.block b (plain_lt hp) (fun f => f)))
  have hown := ownsRow_of_block (w' := (W.alloc (.cells cs 24)).setCell ⟨k.b, k.o + 2, none⟩ (.slice (some ⟨W.heap.size, 0, none⟩) ks.length c)) h.own (fun x hx => by
    rw [Below.heap_setCell _ _ _ _ (fun e => by subst e; exact a3 hx)]
    exact hkn.block x (ownsRow_lt h.own hx).1 (fun f => f))
  have hkw : Tr.wells ks := by rw [ht] at htw; exact htw.2
  have hlen := hd.length
  refine { kept := (h.kept.trans hkn (fun _ _ f => f)).setCell (fun hh => absurd hh (by simp only; omega)) _, own := hown, sub := fun x hx => by simp [hst x hx], nd := ?_, hole := fun x hx => ?_, slot := fun b o t hFt => ?_, fn := fun b o t t' hf hf' => ?_ }
  · rcases List.mem_append.1 hx with hx | hx
    · obtain ⟨m, h3, h4, h5, h6⟩ := kidTk_mem _ _ _ _ _ hx
      obtain ⟨t', h7, h8⟩ := hd.get h3
      rw [h4] at h7
      cases h7
      have hm := (List.getElem?_eq_some_iff.1 h4).1
      refine ⟨h8, Tr.wells_iff.1 hkw _ (List.mem_of_getElem? h4), .inr ⟨h5, m, by omega, h4⟩, ?_⟩
      rw [h5, hnew, h6, show 0 + 3 * m + 2 = 3 * m + 2 by omega]
      exact (hcs m hm).2.2
    · obtain ⟨b1, b2, b3, b4⟩ := h.hole x (by simp [hx])
      refine ⟨b1, b2, .inl b3, (hcell _ _ _ (hin _ _ _ b3) ?_).trans b4⟩
      by_cases e : x.b = k.b
      · refine .inr (fun e2 => ?_)
        have hn := h.nd
        simp only [List.map_cons, List.nodup_cons] at hn
        exact hn.1 (List.mem_map.2 ⟨x, hx, by rw [e, show x.o = k.o by omega]⟩)
      · exact .inl e
  · have hn := h.nd
    simp only [List.map_cons, List.nodup_cons] at hn
    rw [List.map_append, List.nodup_append]
    refine ⟨kidTk_nodup _ _ _ _, hn.2, fun x hx y hy e => ?_⟩
    subst e
    obtain ⟨k1, hk1, e1⟩ := List.mem_map.1 hx
    obtain ⟨k2, hk2, e2⟩ := List.mem_map.1 hy
    obtain ⟨m, _, _, h3, _⟩ := kidTk_mem _ _ _ _ _ hk1
    have := hin _ _ _ (h.hole k2 (by simp [hk2])).2.2.1
    rw [← e1] at e2
    simp at e2
    omega
  · rcases hFt with hFt | ⟨rfl, i, rfl, hi⟩
    · obtain ⟨b1, b2, b3, b4, b5, b6⟩ := h.slot b o t hFt
      have hbl := plain_lt b2
      refine ⟨b1, hpo b b2, b3, b4, fun i hi => ?_, ?_⟩
      · by_cases e : b = k.b ∧ o + i = k.o + 2
        · obtain ⟨e1, e2⟩ := e
          rw [e1, e2, hset]
          rfl
        · rw [hcell _ _ _ hbl]
          · exact b5 i hi
          · by_cases e1 : b = k.b
            · exact .inr (fun e2 => e ⟨e1, e2⟩)
            · exact .inl e1
      · by_cases e : b = k.b ∧ o = k.o
        · obtain ⟨rfl, rfl⟩ := e
          have et := h.fn _ _ _ _ hFt hF
          rw [et, ht]
          have q0 := hcell k.b k.o 0 hkb (.inr (by omega))
          have q1 := hcell k.b k.o 1 hkb (.inr (by omega))
          refine .inr ⟨q0.trans h0, q1.trans h1, some ⟨W.heap.size, 0, none⟩, W.heap.size, 0, c, hset, fun _ => rfl, fun i kid hi => .inr ⟨rfl, i, by omega, hi⟩⟩
        · rcases b6 with ⟨x, hx, e1, e2, e3⟩ | b6
          · rcases List.mem_cons.1 hx with rfl | hx
            · exact absurd ⟨e1.symm, e2.symm⟩ e
            · exact .inl ⟨x, by simp [hx], e1, e2, e3⟩
          · obtain ⟨op', n', kids'⟩ := t
            obtain ⟨g0, g1, ka, kb, ko, kc, g2, g3, g4⟩ := b6
            have hcc : ∀ i, i < 3 → (b ≠ k.b ∨ o + i ≠ k.o + 2) := fun i hi => by
              by_cases e1 : b = k.b
              · exact .inr (fun e2 => e ⟨e1, by omega⟩)
              · exact .inl e1
            exact .inr ⟨(hcell _ _ 0 hbl (hcc 0 (by omega))).trans g0, (hcell _ _ 1 hbl (hcc 1 (by omega))).trans g1, ka, kb, ko, kc, (hcell _ _ 2 hbl (hcc 2 (by omega))).trans g2, g3, fun i kid hi => .inl (g4 i kid hi)⟩
    · have hm := (List.getElem?_eq_some_iff.1 hi).1
      obtain ⟨c0, c1, c2⟩ := hcs i hm
      refine ⟨hws, hpn, fun e => ?_, by omega, fun j hj => ?_, .inl ?_⟩
      · have := (ownsRow_lt h.own e).1
        omega
      · rw [hnew]
        obtain rfl | rfl | rfl : j = 0 ∨ j = 1 ∨ j = 2 := by omega
        · rw [Nat.add_zero, c0]; rfl
        · rw [c1]; rfl
        · rw [c2]; rfl
      · have hid : i < ids.length := by omega
        have hg := kidTk_get W.heap.size ids ks 0 i ids[i] t (List.getElem?_eq_getElem hid) hi
        exact ⟨⟨ids[i], W.heap.size, 0 + 3 * i, t⟩, List.mem_append.2 (.inl (List.mem_of_getElem? hg)), rfl, Nat.zero_add _, rfl⟩
  · rcases hf with hf | ⟨rfl, i, rfl, hi⟩
    · rcases hf' with hf' | ⟨rfl, i, rfl, hi⟩
      · exact h.fn _ _ _ _ hf hf'
      · have := hin _ _ _ hf; omega
    · rcases hf' with hf' | ⟨_, j, e, hj⟩
      · have := hin _ _ _ hf'; omega
      · obtain rfl : i = j := by omega
        rw [hi] at hj
        exact Option.some.inj hj
/-- where no hole is left the formula is whole -/
theorem FM.fin (h : FM ns w0 F [] st sv W) : ∀ (N : Nat) (t : Tr) (b o : Nat), t.size ≤ N → F b o t → FS (fun b => w0.heap.size ≤ b ∧ b < W.heap.size) W b o t := by
  intro N
  induction N with
  | zero => intro t b o ht; have := t.size_pos; omega
  | succ N ih =>
    rintro ⟨op, n, kids⟩ b o ht hF
    obtain ⟨b1, b2, b3, b4, b5, b6⟩ := h.slot b o _ hF
    rcases b6 with ⟨k, hk, _⟩ | ⟨g0, g1, ka, kb, ko, kc, g2, g3, g4⟩
    · cases hk
    · refine ⟨⟨b1, plain_lt b2⟩, b2, g0, g1, ka, kb, ko, kc, g2, g3, ?_⟩
      have hs : Tr.sizes kids ≤ N := by simp only [Tr.size] at ht; omega
      clear g2 g3 ht hF g0 g1
      have : ∀ (l : List Tr) (q : Nat), Tr.sizes l ≤ N → (∀ i kid, l[i]? = some kid → F kb (q + 3 * i) kid) → FsS (fun b => w0.heap.size ≤ b ∧ b < W.heap.size) W kb q l := by
        intro l
        induction l with
        | nil => intro q _ _; trivial
        | cons x r ihl =>
          intro q hq hf
          simp only [Tr.sizes] at hq
          refine ⟨ih x kb q (by omega) (by simpa using hf 0 x rfl), ihl (q + 3) (by omega) (fun i kid hi => ?_)⟩
          have := hf (i + 1) kid (by simpa using hi)
          rwa [show q + 3 * (i + 1) = q + 3 + 3 * i by omega] at this
      exact this kids ko hs g4
end
end Go.Proofs.YtdbpdanocpfboaaDoor
