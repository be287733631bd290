import Derived.Test.YtdbpdanocpfboaaDoorZBun09
/- The memory of the walk over numbers of Nodes. -/
namespace Go.Proofs.YtdbpdanocpfboaaDoor
open Go.RowKit

def flatI (l : List TaskI) : List Value := l.flatMap TaskI.cells
theorem flatI_append (l : List TaskI) (k : TaskI) : flatI (l ++ [k]) = flatI l ++ k.cells := by simp [flatI]
theorem flatI_app (a b : List TaskI) : flatI (a ++ b) = flatI a ++ flatI b := by simp [flatI]
theorem flatI_length (l : List TaskI) : (flatI l).length = l.length * 3 := by
  induction l with
  | nil => rfl
  | cons x r ih =>
    have e : flatI (x :: r) = x.cells ++ flatI r := by simp [flatI]
    rw [e, List.length_append, ih, List.length_cons]
    simp [TaskI.cells]
    omega
/-- the block of a value's row, if it has one -/
def inRow (v : Value) (k : Nat) : Prop := some k = v.ownBlock
structure MI (wE : World) (bx bo L mp bs : Nat) (st : List TaskI) (nums od : List Int) (m : Value → Option Value) (sv uv ov : Value) (ds : List Nat) (w : World) : Prop where
  kE : Kept (fun _ => False) wE w
  cbx : w.cell? ⟨bx, 0, none⟩ = some (.pointer (some ⟨L, 0, none⟩))
  cbs : w.cell? ⟨bs, 0, none⟩ = some sv
  fbs : w.frozen? ⟨bs, 0, none⟩ = false
  cbo : w.cell? ⟨bo, 0, none⟩ = some ov
  fbo : w.frozen? ⟨bo, 0, none⟩ = false
  srow : w.ownsRow wE.heap.size 196 3 sv st.length (flatI st.reverse)
  urow : w.ownsRow wE.heap.size 3 1 uv nums.length (nums.map (Value.int .i64))
  orow : w.ownsRow wE.heap.size 3 1 ov od.length (od.map (Value.int .i64))
  gm : Gm isInt w mp m
  hb : wE.heap.size ≤ bx ∧ wE.heap.size ≤ bo ∧ wE.heap.size ≤ bs ∧ wE.heap.size ≤ mp
  n1 : bx ≠ bo ∧ bx ≠ bs ∧ bo ≠ bs
  sx : ¬ inRow sv bx ∧ ¬ inRow sv bo ∧ ¬ inRow sv bs
  ux : ¬ inRow uv bx ∧ ¬ inRow uv bo ∧ ¬ inRow uv bs
  ox : ¬ inRow ov bx ∧ ¬ inRow ov bo ∧ ¬ inRow ov bs
  uo : ∀ k, inRow uv k → ¬ inRow ov k
  mks : ∀ D ∈ ds, wE.heap.size ≤ D ∧ w.heap[D]? = some (.deferred (some []))
section
variable {wE w w' : World} {bx bo L mp bs : Nat} {st : List TaskI} {nums od : List Int} {m : Value → Option Value} {sv uv ov : Value} {ds : List Nat}
theorem row_ty {w : World} {base : Nat} {e : TypeId} {size : Nat} {v : Value} {n : Nat} {xs : List Value} (h : w.ownsRow base e size v n xs) {k : Nat} (hk : inRow v k) : ∃ cs, w.heap[k]? = some (.cells cs e (0, 0)) := by
  rcases h.2 with ⟨rfl, _⟩ | ⟨g, cap, cur, rfl, hg, hh, _⟩
  · simp [inRow, Value.ownBlock] at hk
  · have : k = g := by simpa [inRow, Value.ownBlock] using hk
    subst this
    exact ⟨_, hh⟩
theorem MI.su (h : MI wE bx bo L mp bs st nums od m sv uv ov ds w) {k : Nat} (h1 : inRow sv k) : ¬ inRow uv k ∧ ¬ inRow ov k := by
  obtain ⟨c, e⟩ := row_ty h.srow h1
  refine ⟨fun h2 => ?_, fun h2 => ?_⟩
  · obtain ⟨c2, e2⟩ := row_ty h.urow h2
    rw [e] at e2; cases e2
  · obtain ⟨c2, e2⟩ := row_ty h.orow h2
    rw [e] at e2; cases e2
theorem MI.mpx (h : MI wE bx bo L mp bs st nums od m sv uv ov ds w) : mp ≠ bx ∧ mp ≠ bo ∧ mp ≠ bs ∧ ¬ inRow sv mp ∧ ¬ inRow uv mp ∧ ¬ inRow ov mp := by
  obtain ⟨es, cl, hh, _⟩ := h.gm
  have hc : ∀ {b : Nat} {v : Value}, w.cell? ⟨b, 0, none⟩ = some v → mp ≠ b := by
    rintro b v hv rfl
    simp [World.cell?, hh] at hv
  have hr : ∀ {e : TypeId} {size : Nat} {v : Value} {n : Nat} {xs : List Value}, w.ownsRow wE.heap.size e size v n xs → ¬ inRow v mp := by
    intro e size v n xs ho hk
    obtain ⟨c, e2⟩ := row_ty ho hk
    rw [hh] at e2; cases e2
  exact ⟨hc h.cbx, hc h.cbo, hc h.cbs, hr h.srow, hr h.urow, hr h.orow⟩
theorem MI.dsx (h : MI wE bx bo L mp bs st nums od m sv uv ov ds w) {D : Nat} (hD : D ∈ ds) : D ≠ bx ∧ D ≠ bo ∧ D ≠ bs ∧ D ≠ mp ∧ ¬ inRow sv D ∧ ¬ inRow uv D ∧ ¬ inRow ov D := by
  have hh := (h.mks D hD).2
  have hc : ∀ {b : Nat} {v : Value}, w.cell? ⟨b, 0, none⟩ = some v → D ≠ b := by
    rintro b v hv rfl
    simp [World.cell?, hh] at hv
  have hr : ∀ {e : TypeId} {size : Nat} {v : Value} {n : Nat} {xs : List Value}, w.ownsRow wE.heap.size e size v n xs → ¬ inRow v D := by
    intro e size v n xs ho hk
    obtain ⟨c, e2⟩ := row_ty ho hk
    rw [hh] at e2; cases e2
  refine ⟨hc h.cbx, hc h.cbo, hc h.cbs, ?_, hr h.srow, hr h.urow, hr h.orow⟩
  rintro rfl
  obtain ⟨es, cl, h2, _⟩ := h.gm
  rw [hh] at h2; cases h2
/-- what else is written leaves it -/
theorem MI.keep (h : MI wE bx bo L mp bs st nums od m sv uv ov ds w) {S : Nat → Prop} (hk : Kept S w w') (s0 : ∀ k, k < wE.heap.size → ¬ S k) (s1 : ¬ S bx) (s2 : ¬ S bo) (s3 : ¬ S bs) (s4 : ¬ S mp) (s5 : ∀ k, inRow sv k → ¬ S k) (s6 : ∀ k, inRow uv k → ¬ S k) (s7 : ∀ k, inRow ov k → ¬ S k) (s8 : ∀ D ∈ ds, ¬ S D) : MI wE bx bo L mp bs st nums od m sv uv ov ds w' :=
  { h with
    kE := h.kE.trans hk (fun k hk' hs => s0 k hk' hs)
    cbx := (hk.cell (p := ⟨bx, 0, none⟩) (lt_of_cell h.cbx) s1).trans h.cbx
    cbs := (hk.cell (p := ⟨bs, 0, none⟩) (lt_of_cell h.cbs) s3).trans h.cbs
    fbs := (hk.frozen (p := ⟨bs, 0, none⟩) (lt_of_cell h.cbs) s3).trans h.fbs
    cbo := (hk.cell (p := ⟨bo, 0, none⟩) (lt_of_cell h.cbo) s2).trans h.cbo
    fbo := (hk.frozen (p := ⟨bo, 0, none⟩) (lt_of_cell h.cbo) s2).trans h.fbo
    srow := ownsRow_of_block h.srow (fun k hk' => hk.block k (ownsRow_lt h.srow hk').1 (s5 k hk'))
    urow := ownsRow_of_block h.urow (fun k hk' => hk.block k (ownsRow_lt h.urow hk').1 (s6 k hk'))
    orow := ownsRow_of_block h.orow (fun k hk' => hk.block k (ownsRow_lt h.orow hk').1 (s7 k hk'))
    gm := h.gm.of_block (hk.block mp h.gm.lt s4) (fun _ hk => hk)
    mks := fun D hD => ⟨(h.mks D hD).1, (hk.block D (Array.getElem?_eq_some_iff.1 (h.mks D hD).2).1 (s8 D hD)).trans (h.mks D hD).2⟩ }
theorem MI.keep0 (h : MI wE bx bo L mp bs st nums od m sv uv ov ds w) (hk : Kept (fun _ => False) w w') : MI wE bx bo L mp bs st nums od m sv uv ov ds w' :=
  h.keep hk (fun _ _ f => f) (fun f => f) (fun f => f) (fun f => f) (fun f => f) (fun _ _ f => f) (fun _ _ f => f) (fun _ _ f => f) (fun _ _ f => f)
/-- the stack's box is written -/
theorem MI.box (h : MI wE bx bo L mp bs st nums od m sv uv ov ds w) {sv' : Value} {st' : List TaskI} (hr : w.ownsRow wE.heap.size 196 3 sv' st'.length (flatI st'.reverse)) (hx : ¬ inRow sv' bx ∧ ¬ inRow sv' bo ∧ ¬ inRow sv' bs) : MI wE bx bo L mp bs st' nums od m sv' uv ov ds (w.setCell ⟨bs, 0, none⟩ sv') := by
  have hk : Kept (fun k => k = bs) w (w.setCell ⟨bs, 0, none⟩ sv') := (Kept.refl (fun k => k = bs) _).setCell (p := ⟨bs, 0, none⟩) (fun _ => rfl) _
  obtain ⟨m1, m2, m3, m4, m5, m6⟩ := h.mpx
  have ho : ∀ {e : TypeId} {size : Nat} {v : Value} {n : Nat} {xs : List Value}, w.ownsRow wE.heap.size e size v n xs → ¬ inRow v bs → (w.setCell ⟨bs, 0, none⟩ sv').ownsRow wE.heap.size e size v n xs := fun ho hn => ownsRow_of_block ho (fun k hk' => hk.block k (ownsRow_lt ho hk').1 (fun e => hn (by rw [← e]; exact hk')))
  exact { h with
    kE := h.kE.trans hk (fun k hk' e => by have := h.hb.2.2.1; omega)
    cbx := (hk.cell (p := ⟨bx, 0, none⟩) (lt_of_cell h.cbx) h.n1.2.1).trans h.cbx
    cbs := by have := h.cbs; simp [go_sem, this]
    fbs := by have := h.fbs; simp [go_sem, this]
    cbo := (hk.cell (p := ⟨bo, 0, none⟩) (lt_of_cell h.cbo) h.n1.2.2).trans h.cbo
    fbo := (hk.frozen (p := ⟨bo, 0, none⟩) (lt_of_cell h.cbo) h.n1.2.2).trans h.fbo
    srow := ho hr hx.2.2
    urow := ho h.urow h.ux.2.2
    orow := ho h.orow h.ox.2.2
    gm := h.gm.of_block (hk.block mp h.gm.lt m3) (fun _ hk => hk)
    sx := hx
    mks := fun D hD => ⟨(h.mks D hD).1, (hk.block D (Array.getElem?_eq_some_iff.1 (h.mks D hD).2).1 (h.dsx hD).2.2.1).trans (h.mks D hD).2⟩ }
theorem MI.pop {k : TaskI} {g c : Nat} (h : MI wE bx bo L mp bs (k :: st) nums od m (.slice (some ⟨g, 0, none⟩) (st.length + 1) c) uv ov ds w) : MI wE bx bo L mp bs st nums od m (.slice (some ⟨g, 0, none⟩) st.length c) uv ov ds (w.setCell ⟨bs, 0, none⟩ (.slice (some ⟨g, 0, none⟩) st.length c)) := by
  refine h.box ?_ h.sx
  have := ownsRow_take h.srow (n' := st.length) (by simp)
  have e : (flatI (k :: st).reverse).take (st.length * 3) = flatI st.reverse := by
    rw [List.reverse_cons, flatI_append, List.take_left' (by rw [flatI_length, List.length_reverse])]
  rwa [e] at this
theorem loc_new {v v' : Value} {n : Nat} (hloc : v'.ownBlock = v.ownBlock ∨ v'.ownBlock = some n) {k : Nat} (hk : inRow v' k) : inRow v k ∨ k = n := by
  rcases hloc with e | e
  · exact .inl (hk.trans e)
  · exact .inr (Option.some.inj (hk.trans e))
/-- a number is laid behind the others -/
theorem MI.num (h : MI wE bx bo L mp bs st nums od m sv uv ov ds w) {vv uv' : Value} {nums' : List Int} (hv : vv.ownBlock = uv.ownBlock) (hr : w'.ownsRow wE.heap.size 3 1 uv' nums'.length (nums'.map (Value.int .i64))) (hg : w.grownBy w' vv.ownBlock) (hloc : uv'.ownBlock = vv.ownBlock ∨ uv'.ownBlock = some w.heap.size) : MI wE bx bo L mp bs st nums' od m sv uv' ov ds w' := by
  rw [hv] at hg hloc
  have hk : Kept (fun k => inRow uv k) w w' := (Kept.refl _ _).grown hg (fun k _ e => e)
  have hl := fun {k : Nat} (e : inRow uv' k) => loc_new hloc e
  have lx := lt_of_cell h.cbx
  have lo := lt_of_cell h.cbo
  have ls := lt_of_cell h.cbs
  simp only at lx lo ls
  obtain ⟨m1, m2, m3, m4, m5, m6⟩ := h.mpx
  have h' := h.keep (S := fun k => inRow uv k ∧ False) ((Kept.refl _ _)) (fun _ _ f => f.2) (fun f => f.2) (fun f => f.2) (fun f => f.2) (fun f => f.2) (fun _ _ f => f.2) (fun _ _ f => f.2) (fun _ _ f => f.2) (fun _ _ f => f.2)
  exact { h' with
    kE := h.kE.trans hk (fun k hk' e => by have := (ownsRow_lt h.urow e).2; omega)
    cbx := (hk.cell (p := ⟨bx, 0, none⟩) lx h.ux.1).trans h.cbx
    cbs := (hk.cell (p := ⟨bs, 0, none⟩) ls h.ux.2.2).trans h.cbs
    fbs := (hk.frozen (p := ⟨bs, 0, none⟩) ls h.ux.2.2).trans h.fbs
    cbo := (hk.cell (p := ⟨bo, 0, none⟩) lo h.ux.2.1).trans h.cbo
    fbo := (hk.frozen (p := ⟨bo, 0, none⟩) lo h.ux.2.1).trans h.fbo
    srow := ownsRow_of_block h.srow (fun k hk' => hk.block k (ownsRow_lt h.srow hk').1 (h.su hk').1)
    urow := hr
    orow := ownsRow_of_block h.orow (fun k hk' => hk.block k (ownsRow_lt h.orow hk').1 (fun e => h.uo k e hk'))
    gm := h.gm.of_block (hk.block mp h.gm.lt m5) (fun _ hk => hk)
    ux := ⟨fun e => by rcases hl e with e | e; exact h.ux.1 e; omega, fun e => by rcases hl e with e | e; exact h.ux.2.1 e; omega, fun e => by rcases hl e with e | e; exact h.ux.2.2 e; omega⟩
    uo := fun k e1 e2 => by
      rcases hl e1 with e | e
      · exact h.uo k e e2
      · have := (ownsRow_lt h.orow e2).1; omega
    mks := fun D hD => ⟨(h.mks D hD).1, (hk.block D (Array.getElem?_eq_some_iff.1 (h.mks D hD).2).1 (h.dsx hD).2.2.2.2.2.1).trans (h.mks D hD).2⟩ }
/-- a task is laid on top, and the box written -/
theorem MI.push (h : MI wE bx bo L mp bs st nums od m sv uv ov ds w) {sv' : Value} {k : TaskI} (hr : w'.ownsRow wE.heap.size 196 3 sv' (st.length + 1) (flatI st.reverse ++ k.cells)) (hg : w.grownBy w' sv.ownBlock) (hloc : sv'.ownBlock = sv.ownBlock ∨ sv'.ownBlock = some w.heap.size) : MI wE bx bo L mp bs (k :: st) nums od m sv' uv ov ds (w'.setCell ⟨bs, 0, none⟩ sv') := by
  have hk1 : Kept (fun k => inRow sv k ∨ k = bs) w w' := (Kept.refl _ _).grown hg (fun k _ e => .inl e)
  have hk : Kept (fun k => inRow sv k ∨ k = bs) w (w'.setCell ⟨bs, 0, none⟩ sv') := hk1.setCell (p := ⟨bs, 0, none⟩) (fun _ => .inr rfl) _
  have hl := fun {k : Nat} (e : inRow sv' k) => loc_new hloc e
  have lx := lt_of_cell h.cbx
  have lo := lt_of_cell h.cbo
  have ls := lt_of_cell h.cbs
  simp only at lx lo ls
  obtain ⟨m1, m2, m3, m4, m5, m6⟩ := h.mpx
  have hks : Kept (fun k => inRow sv k) w w' := (Kept.refl _ _).grown hg (fun k _ e => e)
  have cb : w'.cell? ⟨bs, 0, none⟩ = some sv := (hks.cell (p := ⟨bs, 0, none⟩) ls h.sx.2.2).trans h.cbs
  have fb : w'.frozen? ⟨bs, 0, none⟩ = false := (hks.frozen (p := ⟨bs, 0, none⟩) ls h.sx.2.2).trans h.fbs
  have hx : ¬ inRow sv' bx ∧ ¬ inRow sv' bo ∧ ¬ inRow sv' bs := ⟨fun e => by rcases hl e with e | e; exact h.sx.1 e; omega, fun e => by rcases hl e with e | e; exact h.sx.2.1 e; omega, fun e => by rcases hl e with e | e; exact h.sx.2.2 e; omega⟩
  exact {
    kE := h.kE.trans hk (fun k hk' e => by
      rcases e with e | e
      · have := (ownsRow_lt h.srow e).2; omega
      · have := h.hb.2.2.1; omega)
    cbx := (hk.cell (p := ⟨bx, 0, none⟩) lx (fun e => e.elim h.sx.1 h.n1.2.1)).trans h.cbx
    cbs := by simp [go_sem, cb]
    fbs := by simp [go_sem, fb]
    cbo := (hk.cell (p := ⟨bo, 0, none⟩) lo (fun e => e.elim h.sx.2.1 h.n1.2.2)).trans h.cbo
    fbo := (hk.frozen (p := ⟨bo, 0, none⟩) lo (fun e => e.elim h.sx.2.1 h.n1.2.2)).trans h.fbo
    srow := by
      rw [List.reverse_cons, flatI_append]
      exact ownsRow_of_block hr (fun k hk' => Below.heap_setCell _ _ _ _ (fun e => hx.2.2 (by have e' : k = bs := e; rw [← e']; exact hk')))
    urow := ownsRow_of_block h.urow (fun k hk' => hk.block k (ownsRow_lt h.urow hk').1 (fun e => e.elim (fun e => (h.su e).1 hk') (fun e => h.ux.2.2 (by rw [← e]; exact hk'))))
    orow := ownsRow_of_block h.orow (fun k hk' => hk.block k (ownsRow_lt h.orow hk').1 (fun e => e.elim (fun e => (h.su e).2 hk') (fun e => h.ox.2.2 (by rw [← e]; exact hk'))))
    gm := h.gm.of_block (hk.block mp h.gm.lt (fun e => e.elim m4 m3)) (fun _ hk => hk)
    hb := h.hb
    n1 := h.n1
    sx := hx
    ux := h.ux
    ox := h.ox
    uo := h.uo
    mks := fun D hD => ⟨(h.mks D hD).1, (hk.block D (Array.getElem?_eq_some_iff.1 (h.mks D hD).2).1 (fun e => e.elim (h.dsx hD).2.2.2.2.1 (h.dsx hD).2.2.1)).trans (h.mks D hD).2⟩ }
theorem MI.store (h : MI wE bx bo L mp bs st nums od m sv uv ov ds w) {m' : Value → Option Value} (hgm : Gm isInt w' mp m') (hg : w.grownBy w' (some mp)) : MI wE bx bo L mp bs st nums od m' sv uv ov ds w' := by
  have hk : Kept (fun k => k = mp) w w' := (Kept.refl _ _).grown hg (fun k _ e => Option.some.inj e)
  obtain ⟨m1, m2, m3, m4, m5, m6⟩ := h.mpx
  exact { h with
    kE := h.kE.trans hk (fun k hk' e => by have := h.hb.2.2.2; omega)
    cbx := (hk.cell (p := ⟨bx, 0, none⟩) (lt_of_cell h.cbx) (Ne.symm m1)).trans h.cbx
    cbs := (hk.cell (p := ⟨bs, 0, none⟩) (lt_of_cell h.cbs) (Ne.symm m3)).trans h.cbs
    fbs := (hk.frozen (p := ⟨bs, 0, none⟩) (lt_of_cell h.cbs) (Ne.symm m3)).trans h.fbs
    cbo := (hk.cell (p := ⟨bo, 0, none⟩) (lt_of_cell h.cbo) (Ne.symm m2)).trans h.cbo
    fbo := (hk.frozen (p := ⟨bo, 0, none⟩) (lt_of_cell h.cbo) (Ne.symm m2)).trans h.fbo
    srow := ownsRow_of_block h.srow (fun k hk' => hk.block k (ownsRow_lt h.srow hk').1 (fun e => m4 (by rw [← e]; exact hk')))
    urow := ownsRow_of_block h.urow (fun k hk' => hk.block k (ownsRow_lt h.urow hk').1 (fun e => m5 (by rw [← e]; exact hk')))
    orow := ownsRow_of_block h.orow (fun k hk' => hk.block k (ownsRow_lt h.orow hk').1 (fun e => m6 (by rw [← e]; exact hk')))
    gm := hgm
    mks := fun D hD => ⟨(h.mks D hD).1, (hk.block D (Array.getElem?_eq_some_iff.1 (h.mks D hD).2).1 (h.dsx hD).2.2.2.1).trans (h.mks D hD).2⟩ }
/-- the order goes on -/
theorem MI.order (h : MI wE bx bo L mp bs st nums od m sv uv ov ds w) {ov' : Value} {x : Int} (hc : w'.cell? ⟨bo, 0, none⟩ = some ov') (hf : w'.frozen? ⟨bo, 0, none⟩ = false) (hr : w'.ownsRow wE.heap.size 3 1 ov' (od.length + 1) ((od ++ [x]).map (Value.int .i64))) (hk : Kept (fun k => k = bo ∨ some k = ov.ownBlock) w w') (hloc : ov'.ownBlock = ov.ownBlock ∨ ∃ k, ov'.ownBlock = some k ∧ w.heap.size ≤ k) : MI wE bx bo L mp bs st nums (od ++ [x]) m sv uv ov' ds w' := by
  have hl : ∀ {k : Nat}, inRow ov' k → inRow ov k ∨ w.heap.size ≤ k := by
    intro k e
    rcases hloc with h1 | ⟨k', h1, h2⟩
    · exact .inl (e.trans h1)
    · have : k = k' := Option.some.inj (e.trans h1)
      exact .inr (by omega)
  have lx := lt_of_cell h.cbx
  have lo := lt_of_cell h.cbo
  have ls := lt_of_cell h.cbs
  simp only at lx lo ls
  obtain ⟨m1, m2, m3, m4, m5, m6⟩ := h.mpx
  exact {
    kE := h.kE.trans hk (fun k hk' e => by
      rcases e with e | e
      · have := h.hb.2.1; omega
      · have := (ownsRow_lt h.orow e).2; omega)
    cbx := (hk.cell (p := ⟨bx, 0, none⟩) lx (fun e => e.elim h.n1.1 h.ox.1)).trans h.cbx
    cbs := (hk.cell (p := ⟨bs, 0, none⟩) ls (fun e => e.elim (Ne.symm h.n1.2.2) h.ox.2.2)).trans h.cbs
    fbs := (hk.frozen (p := ⟨bs, 0, none⟩) ls (fun e => e.elim (Ne.symm h.n1.2.2) h.ox.2.2)).trans h.fbs
    cbo := hc
    fbo := hf
    srow := ownsRow_of_block h.srow (fun k hk' => hk.block k (ownsRow_lt h.srow hk').1 (fun e => e.elim (fun e => h.sx.2.1 (by rw [← e]; exact hk')) (fun e => (h.su hk').2 e)))
    urow := ownsRow_of_block h.urow (fun k hk' => hk.block k (ownsRow_lt h.urow hk').1 (fun e => e.elim (fun e => h.ux.2.1 (by rw [← e]; exact hk')) (fun e => h.uo k hk' e)))
    orow := by simpa using hr
    gm := h.gm.of_block (hk.block mp h.gm.lt (fun e => e.elim m2 m6)) (fun _ hk => hk)
    hb := h.hb
    n1 := h.n1
    sx := h.sx
    ux := h.ux
    ox := ⟨fun e => by rcases hl e with e | e; exact h.ox.1 e; omega, fun e => by rcases hl e with e | e; exact h.ox.2.1 e; omega, fun e => by rcases hl e with e | e; exact h.ox.2.2 e; omega⟩
    uo := fun k e1 e2 => by
      rcases hl e2 with e | e
      · exact h.uo k e1 e
      · have := (ownsRow_lt h.urow e1).1; omega
    mks := fun D hD => ⟨(h.mks D hD).1, (hk.block D (Array.getElem?_eq_some_iff.1 (h.mks D hD).2).1 (fun e => e.elim (h.dsx hD).2.1 (h.dsx hD).2.2.2.2.2.2)).trans (h.mks D hD).2⟩ }
theorem MI.mark (h : MI wE bx bo L mp bs st nums od m sv uv ov ds w) {D : Nat} (hD : wE.heap.size ≤ D) (hK : w.heap[D]? = some (.deferred (some []))) : MI wE bx bo L mp bs st nums od m sv uv ov (D :: ds) w :=
  have hmk : ∀ D' ∈ D :: ds, wE.heap.size ≤ D' ∧ w.heap[D']? = some (.deferred (some [])) := by
    intro D' hD'
    rcases List.mem_cons.1 hD' with rfl | hD'
    · exact ⟨hD, hK⟩
    · exact h.mks D' hD'
  { h with mks := hmk }
theorem MI.swap (h : MI wE bx bo L mp bs st nums od m sv uv ov ds w) {st' : List TaskI} (e1 : st.length = st'.length) (e2 : flatI st.reverse = flatI st'.reverse) : MI wE bx bo L mp bs st' nums od m sv uv ov ds w :=
  { h with srow := by rw [← e1, ← e2]; exact h.srow }
end
end Go.Proofs.YtdbpdanocpfboaaDoor
