/- The memory of the walk of package nodes. -/
import Derived.Test.YtdbpdanocpfboaaDoorVGhost
import Derived.Test.YtdbpdanocpfboaaDoorVBack
namespace Go.Proofs.YtdbpdanocpfboaaDoor
open Go.RowKit

def flatS (l : List Task) : List Value := l.flatMap Task.cells
theorem flatS_append (l : List Task) (k : Task) : flatS (l ++ [k]) = flatS l ++ k.cells := by simp [flatS]
theorem flatS_length (l : List Task) : (flatS l).length = l.length * 3 := by
  induction l with
  | nil => rfl
  | cons x r ih =>
    have e : flatS (x :: r) = x.cells ++ flatS r := by simp [flatS]
    rw [e, List.length_append, ih, List.length_cons]
    simp [Task.cells]
    omega

/-- pointers to Forms below block Bf -/
def isPB (Bf : Nat) (w : World) (v : Value) : Prop := ∃ b o, v = .pointer (some ⟨b, o, none⟩) ∧ b < Bf ∧ PlainB w b
theorem isPB.ptr {Bf : Nat} {w : World} {v : Value} (h : isPB Bf w v) : isPtr w v := by
  obtain ⟨b, o, e, _, h⟩ := h
  exact ⟨b, o, e, h⟩
theorem ptrKeyB (Bf : Nat) : KeyOk Tryd.prog 118 (isPB Bf) where
  check := fun h => ptrKey.check h.ptr
  eq := fun h h' => ptrKey.eq h.ptr h'.ptr
  now := by
    obtain ⟨d, hd, hn⟩ := ptrKey.now
    exact ⟨d, hd, fun h h' => hn h.ptr h'.ptr⟩
  bits := fun h => ptrKey.bits h.ptr
  stay := by
    rintro w b es es' c c' _ hb ⟨b', o', rfl, hB, cs, t, hp⟩
    refine ⟨b', o', rfl, hB, cs, t, ?_⟩
    by_cases he : b' = b
    · subst he; rw [hb] at hp; cases hp
    · exact ((MapKept.heap_set hb).2 b' he).trans hp
theorem keyStay {Bf : Nat} {S : Nat → Prop} {w w' : World} (hk : Kept S w w') (hS : ∀ b, b < Bf → ¬ S b) (v : Value) (h : isPB Bf w v) : isPB Bf w' v := by
  obtain ⟨b, o, e, hB, c, t, h⟩ := h
  exact ⟨b, o, e, hB, c, t, (hk.block b (Array.getElem?_eq_some_iff.1 h).1 (hS b hB)).trans h⟩

/-- w0: the world at the call; L, bm, nv0: the List; bx: the box of the List's pointer; mp: what is found; bs: the box of the stack -/
structure MS (w0 : World) (Bf L bm : Nat) (nv0 : Value) (bx mp bs : Nat) (st : List Task) (nums : List Int) (ns : List Nd) (m : Value → Option Value) (nv sv uv : Value) (ds : List Nat) (w : World) : Prop where
  li : LIn w Bf L bm nv ns
  cbx : w.cell? ⟨bx, 0, none⟩ = some (.pointer (some ⟨L, 0, none⟩))
  cbs : w.cell? ⟨bs, 0, none⟩ = some sv
  fbs : w.frozen? ⟨bs, 0, none⟩ = false
  srow : w.ownsRow w0.heap.size 175 3 sv st.length (flatS st.reverse)
  urow : w.ownsRow w0.heap.size 3 1 uv nums.length (nums.map (Value.int .i64))
  gm : Gm (isPB Bf) w mp m
  kp : Kept (LSet L bm nv0) w0 w
  nvs : ∀ k, some k = nv.ownBlock → some k = nv0.ownBlock ∨ w0.heap.size ≤ k
  hBf : Bf ≤ w0.heap.size
  hL : L < w0.heap.size
  hM : bm < w0.heap.size
  hbx : bx < w0.heap.size
  hmp : w0.heap.size ≤ mp
  hbs : w0.heap.size ≤ bs
  xL : bx ≠ L
  xM : bx ≠ bm
  xN : nv.ownBlock ≠ some bx
  d1 : nv.ownBlock ≠ some bs
  d2 : sv.ownBlock ≠ some bs
  d3 : uv.ownBlock ≠ some bs
  d4 : ∀ k, some k = sv.ownBlock → some k ≠ nv.ownBlock
  d5 : ∀ k, some k = uv.ownBlock → some k ≠ nv.ownBlock
  d6 : ∀ k, some k = sv.ownBlock → some k ≠ uv.ownBlock
  mks : ∀ D ∈ ds, w0.heap.size ≤ D ∧ w.heap[D]? = some (.deferred (some []))

section
variable {w0 : World} {Bf L bm : Nat} {nv0 : Value} {bx mp bs : Nat} {st : List Task} {nums : List Int} {ns : List Nd} {m : Value → Option Value} {nv sv uv : Value} {ds : List Nat} {w w' : World}

theorem MS.lt_mp (h : MS w0 Bf L bm nv0 bx mp bs st nums ns m nv sv uv ds w) : mp < w.heap.size := h.gm.lt
theorem row_ne {w : World} {base : Nat} {e : TypeId} {size : Nat} {v : Value} {n : Nat} {xs : List Value} (h : w.ownsRow base e size v n xs) {k : Nat} {o : Obj} (hk : w.heap[k]? = some o) (ho : o.isCells = false) : v.ownBlock ≠ some k := by
  intro e'
  rcases h.2 with ⟨h2, _⟩ | ⟨g, cap, cur, hv, hg, hh, r⟩
  · subst h2; cases e'
  · subst hv
    have : g = k := Option.some.inj e'
    subst this
    rw [hh] at hk
    cases hk
    cases ho
theorem gm_ne {Bf : Nat} {w : World} {b : Nat} {m : Value → Option Value} (h : Gm (isPB Bf) w b m) {a : Addr} {v : Value} (hc : w.cell? a = some v) : b ≠ a.block := by
  rintro rfl
  obtain ⟨es, clock, hb, _⟩ := h
  simp [World.cell?, hb] at hc

/-- what a step that leaves the walk's own blocks alone leaves -/
theorem MS.keep (h : MS w0 Bf L bm nv0 bx mp bs st nums ns m nv sv uv ds w) {S : Nat → Prop} (hk : Kept S w w') (s1 : ∀ k, S k → ¬ LSet L bm nv k) (s2 : ¬ S bx) (s3 : ¬ S bs) (s4 : ¬ S mp) (s5 : ∀ k, some k = sv.ownBlock → ¬ S k) (s6 : ∀ k, some k = uv.ownBlock → ¬ S k)
    (s7 : ∀ D ∈ ds, ¬ S D) (s8 : ∀ k, k < w0.heap.size → S k → LSet L bm nv0 k) (s9 : ∀ b, b < Bf → ¬ S b) : MS w0 Bf L bm nv0 bx mp bs st nums ns m nv sv uv ds w' := by
  have l1 : bx < w.heap.size := lt_of_cell h.cbx
  have l2 : bs < w.heap.size := lt_of_cell h.cbs
  exact { h with
    li := h.li.keep hk (fun k hk' hs => s1 k hs hk')
    cbx := (hk.cell (p := ⟨bx, 0, none⟩) l1 s2).trans h.cbx
    cbs := (hk.cell (p := ⟨bs, 0, none⟩) l2 s3).trans h.cbs
    fbs := (hk.frozen (p := ⟨bs, 0, none⟩) l2 s3).trans h.fbs
    srow := ownsRow_of_block h.srow (fun k hk' => hk.block k (ownsRow_lt h.srow hk').1 (s5 k hk'))
    urow := ownsRow_of_block h.urow (fun k hk' => hk.block k (ownsRow_lt h.urow hk').1 (s6 k hk'))
    gm := h.gm.of_block (hk.block mp h.gm.lt s4) (keyStay hk s9)
    kp := h.kp.trans hk s8
    mks := fun D hD => ⟨(h.mks D hD).1, (hk.block D (Array.getElem?_eq_some_iff.1 (h.mks D hD).2).1 (s7 D hD)).trans (h.mks D hD).2⟩ }

theorem plain_kept {S : Nat → Prop} (hk : Kept S w w') (hS : ∀ k, ¬ S k) (b : Nat) (h : PlainB w b) : PlainB w' b := by
  obtain ⟨c, t, h⟩ := h
  exact ⟨c, t, (hk.block b (Array.getElem?_eq_some_iff.1 h).1 (hS b)).trans h⟩

theorem MS.keep0 (h : MS w0 Bf L bm nv0 bx mp bs st nums ns m nv sv uv ds w) (hk : Kept (fun _ => False) w w') : MS w0 Bf L bm nv0 bx mp bs st nums ns m nv sv uv ds w' :=
  h.keep hk (fun _ f => f.elim) id id id (fun _ _ => id) (fun _ _ => id) (fun _ _ => id) (fun _ _ f => f.elim) (fun _ _ => id)

theorem plain_setCell {a : Addr} {v : Value} (b : Nat) (h : PlainB w b) : PlainB (w.setCell a v) b := by
  obtain ⟨c, t, h⟩ := h
  by_cases e : b = a.block
  · subst e
    refine ⟨if a.spot.isSome then c else c.setIfInBounds a.off v, t, ?_⟩
    simp [World.setCell, Array.getElem?_modify, h]
  · exact ⟨c, t, (Below.heap_setCell _ _ _ _ e).trans h⟩

theorem ownsRow_take {w : World} {base : Nat} {e : TypeId} {size : Nat} {g n c n' : Nat} {xs : List Value} (h : w.ownsRow base e size (.slice (some ⟨g, 0, none⟩) n c) n xs) (hn : n' ≤ n) : w.ownsRow base e size (.slice (some ⟨g, 0, none⟩) n' c) n' (xs.take (n' * size)) := by
  obtain ⟨h1, h2⟩ := h
  have hm : n' * size ≤ n * size := Nat.mul_le_mul_right _ hn
  refine ⟨by rw [List.length_take, h1, Nat.min_eq_left hm], .inr ?_⟩
  rcases h2 with ⟨h2, _⟩ | ⟨g', cap, cur, hv, hg, hh, r1, r2, r3, r4⟩
  · cases h2
  · cases hv
    refine ⟨g, c, cur, rfl, hg, hh, by omega, r2, r3, ?_⟩
    rw [← r4, List.take_take, Nat.min_eq_left hm]

/-- the top of the stack goes -/
theorem MS.pop {k : Task} {g c : Nat} (h : MS w0 Bf L bm nv0 bx mp bs (k :: st) nums ns m nv (.slice (some ⟨g, 0, none⟩) (st.length + 1) c) uv ds w) :
    MS w0 Bf L bm nv0 bx mp bs st nums ns m nv (.slice (some ⟨g, 0, none⟩) st.length c) uv ds (w.setCell ⟨bs, 0, none⟩ (.slice (some ⟨g, 0, none⟩) st.length c)) := by
  have hk : Kept (fun k => k = bs) w (w.setCell ⟨bs, 0, none⟩ (.slice (some ⟨g, 0, none⟩) st.length c)) := Kept.setCell (S := fun k => k = bs) (p := ⟨bs, 0, none⟩) (Kept.refl _ _) (fun _ => rfl) _
  have hbsL : ∀ k, k = bs → ¬ LSet L bm nv k := by
    rintro k rfl (e | e | e)
    · have := h.hL; have := h.hbs; omega
    · have := h.hM; have := h.hbs; omega
    · exact h.d1 e.symm
  have hmpbs : mp ≠ bs := gm_ne h.gm h.cbs
  have hmk : ∀ D ∈ ds, ¬ D = bs := by
    intro D hD e
    have := (h.mks D hD).2
    have hc := h.cbs
    rw [e] at this
    simp [World.cell?, this] at hc
  have hl : (flatS (k :: st).reverse).take (st.length * 3) = flatS st.reverse := by
    rw [List.reverse_cons, flatS_append]
    have : (flatS st.reverse).length = st.length * 3 := by rw [flatS_length]; simp
    rw [← this, List.take_left]
  exact { h with
    li := h.li.keep hk (fun k hk' hs => hbsL k hs hk')
    cbx := (hk.cell (p := ⟨bx, 0, none⟩) (lt_of_cell h.cbx) (fun e => by have := h.hbx; have := h.hbs; simp at e; omega)).trans h.cbx
    cbs := World.cell?_setCell_same' _ _ _ (by rw [h.cbs]; rfl)
    fbs := by rw [World.frozen?_setCell]; exact h.fbs
    srow := by
      have := ownsRow_take h.srow (n' := st.length) (by simp)
      rw [hl] at this
      exact ownsRow_of_block this (fun k hk' => hk.block k (ownsRow_lt this hk').1 (fun e => h.d2 (by rw [← e]; exact hk'.symm)))
    urow := ownsRow_of_block h.urow (fun k hk' => hk.block k (ownsRow_lt h.urow hk').1 (fun e => h.d3 (by rw [← e]; exact hk'.symm)))
    gm := h.gm.of_block (hk.block mp h.gm.lt hmpbs) (keyStay hk (fun b hb e => by have := h.hbs; have := h.hBf; omega))
    kp := h.kp.trans hk (fun k hk' e => by have := h.hbs; omega)
    d2 := h.d2
    d4 := h.d4
    d6 := h.d6
    mks := fun D hD => ⟨(h.mks D hD).1, (hk.block D (Array.getElem?_eq_some_iff.1 (h.mks D hD).2).1 (hmk D hD)).trans (h.mks D hD).2⟩ }

/-- a Node has been made -/
theorem MS.made (h : MS w0 Bf L bm nv0 bx mp bs st nums ns m nv sv uv ds w) {nv' : Value} {ns' : List Nd} (hl : LIn w' Bf L bm nv' ns') (hk : Kept (LSet L bm nv) w w') (hn : ∀ k, some k = nv'.ownBlock → some k = nv.ownBlock ∨ w.heap.size ≤ k)
    : MS w0 Bf L bm nv0 bx mp bs st nums ns' m nv' sv uv ds w' := by
  have hs0 := h.kp.size
  have l2 : bs < w.heap.size := lt_of_cell h.cbs
  have nbs : ¬ LSet L bm nv bs := by
    rintro (e | e | e)
    · have := h.hL; have := h.hbs; omega
    · have := h.hM; have := h.hbs; omega
    · exact h.d1 e.symm
  have nbx : ¬ LSet L bm nv bx := by
    rintro (e | e | e)
    · exact h.xL e
    · exact h.xM e
    · exact h.xN e.symm
  obtain ⟨es, clock, hb, _⟩ := id h.gm
  have nmp : ¬ LSet L bm nv mp := by
    rintro (e | e | e)
    · have := h.hL; have := h.hmp; omega
    · have := h.hM; have := h.hmp; omega
    · exact row_ne h.li.own hb rfl e.symm
  have nsv : ∀ k, some k = sv.ownBlock → ¬ LSet L bm nv k := by
    rintro k hk' (e | e | e)
    · have := (ownsRow_lt h.srow hk').2; have := h.hL; omega
    · have := (ownsRow_lt h.srow hk').2; have := h.hM; omega
    · exact h.d4 k hk' e
  have nuv : ∀ k, some k = uv.ownBlock → ¬ LSet L bm nv k := by
    rintro k hk' (e | e | e)
    · have := (ownsRow_lt h.urow hk').2; have := h.hL; omega
    · have := (ownsRow_lt h.urow hk').2; have := h.hM; omega
    · exact h.d5 k hk' e
  have nds : ∀ D ∈ ds, ¬ LSet L bm nv D := by
    rintro D hD (e | e | e)
    · have := (h.mks D hD).1; have := h.hL; omega
    · have := (h.mks D hD).1; have := h.hM; omega
    · exact row_ne h.li.own (h.mks D hD).2 rfl e.symm
  exact { h with
    li := hl
    cbx := (hk.cell (p := ⟨bx, 0, none⟩) (lt_of_cell h.cbx) nbx).trans h.cbx
    cbs := (hk.cell (p := ⟨bs, 0, none⟩) l2 nbs).trans h.cbs
    fbs := (hk.frozen (p := ⟨bs, 0, none⟩) l2 nbs).trans h.fbs
    srow := ownsRow_of_block h.srow (fun k hk' => hk.block k (ownsRow_lt h.srow hk').1 (nsv k hk'))
    urow := ownsRow_of_block h.urow (fun k hk' => hk.block k (ownsRow_lt h.urow hk').1 (nuv k hk'))
    gm := h.gm.of_block (hk.block mp h.gm.lt nmp) (keyStay hk (fun b hb e => by
      rcases e with e | e | e
      · have := h.li.bL; omega
      · have := h.li.bM; omega
      · have := (ownsRow_lt h.li.own e).2; omega))
    kp := h.kp.trans hk (fun k hk' e => by
      rcases e with e | e | e
      · exact .inl e
      · exact .inr (.inl e)
      · rcases h.nvs k e with e | e
        · exact .inr (.inr e)
        · omega)
    nvs := fun k e => by
      rcases hn k e with e | e
      · exact h.nvs k e
      · exact .inr (by omega)
    xN := fun e => by
      rcases hn bx e.symm with e | e
      · exact h.xN e.symm
      · have := h.hbx; omega
    d1 := fun e => by
      rcases hn bs e.symm with e | e
      · exact h.d1 e.symm
      · omega
    d4 := fun k hk' e => by
      rcases hn k e with e | e
      · exact h.d4 k hk' e
      · have := (ownsRow_lt h.srow hk').1; omega
    d5 := fun k hk' e => by
      rcases hn k e with e | e
      · exact h.d5 k hk' e
      · have := (ownsRow_lt h.urow hk').1; omega
    mks := fun D hD => ⟨(h.mks D hD).1, (hk.block D (Array.getElem?_eq_some_iff.1 (h.mks D hD).2).1 (nds D hD)).trans (h.mks D hD).2⟩ }

/-- what is found is written -/
theorem MS.store (h : MS w0 Bf L bm nv0 bx mp bs st nums ns m nv sv uv ds w) {m' : Value → Option Value} (hg : Gm (isPB Bf) w' mp m') (hgr : w.grownBy w' (some mp)) : MS w0 Bf L bm nv0 bx mp bs st nums ns m' nv sv uv ds w' := by
  have hk : Kept (fun k => k = mp) w w' := (Kept.refl _ _).grown hgr (fun k _ e => Option.some.inj e)
  obtain ⟨es, clock, hb, _⟩ := id h.gm
  have n1 : bx ≠ mp := fun e => gm_ne h.gm h.cbx e.symm
  have n2 : bs ≠ mp := fun e => gm_ne h.gm h.cbs e.symm
  exact { h with
    li := h.li.keep hk (fun k hk' e => by
      subst e
      rcases hk' with e | e | e
      · exact gm_ne h.gm h.li.c0 e
      · have := h.hM; have := h.hmp; omega
      · exact row_ne h.li.own hb rfl e.symm)
    cbx := (hk.cell (p := ⟨bx, 0, none⟩) (lt_of_cell h.cbx) n1).trans h.cbx
    cbs := (hk.cell (p := ⟨bs, 0, none⟩) (lt_of_cell h.cbs) n2).trans h.cbs
    fbs := (hk.frozen (p := ⟨bs, 0, none⟩) (lt_of_cell h.cbs) n2).trans h.fbs
    srow := ownsRow_of_block h.srow (fun k hk' => hk.block k (ownsRow_lt h.srow hk').1 (fun e => row_ne h.srow hb rfl (by rw [← e]; exact hk'.symm)))
    urow := ownsRow_of_block h.urow (fun k hk' => hk.block k (ownsRow_lt h.urow hk').1 (fun e => row_ne h.urow hb rfl (by rw [← e]; exact hk'.symm)))
    gm := hg
    kp := h.kp.trans hk (fun k hk' e => by have := h.hmp; omega)
    mks := fun D hD => ⟨(h.mks D hD).1, (hk.block D (Array.getElem?_eq_some_iff.1 (h.mks D hD).2).1 (fun e => by
      have := (h.mks D hD).2
      rw [e, hb] at this
      cases this)).trans (h.mks D hD).2⟩ }

theorem plain_grown {w w' : World} {row : Option Nat} (hg : w.grownBy w' row) (hr : ∀ k, row = some k → PlainB w' k) (b : Nat) (h : PlainB w b) : PlainB w' b := by
  by_cases e : some b = row
  · exact hr b e.symm
  · obtain ⟨c, t, h⟩ := h
    exact ⟨c, t, (hg.block b (Array.getElem?_eq_some_iff.1 h).1 e).trans h⟩
theorem ownsRow_plain {w : World} {base : Nat} {e : TypeId} {size : Nat} {v : Value} {n : Nat} {xs : List Value} (h : w.ownsRow base e size v n xs) {k : Nat} (hk : some k = v.ownBlock) : PlainB w k := by
  rcases h.2 with ⟨h2, _⟩ | ⟨g, cap, cur, hv, hg, hh, r⟩
  · subst h2; cases hk
  · subst hv
    cases hk
    exact ⟨cur, e, hh⟩

/-- a number more; vv: the numbers' slice, maybe cut -/
theorem MS.num (h : MS w0 Bf L bm nv0 bx mp bs st nums ns m nv sv uv ds w) {vv uv' : Value} {nums' : List Int} (hv : vv.ownBlock = uv.ownBlock) (hr : w'.ownsRow w0.heap.size 3 1 uv' nums'.length (nums'.map (Value.int .i64))) (hgr : w.grownBy w' vv.ownBlock)
    (hloc : uv'.ownBlock = vv.ownBlock ∨ uv'.ownBlock = some w.heap.size) : MS w0 Bf L bm nv0 bx mp bs st nums' ns m nv sv uv' ds w' := by
  rw [hv] at hgr hloc
  have hk : Kept (fun k => some k = uv.ownBlock) w w' := (Kept.refl _ _).grown hgr (fun k _ e => e)
  have hs0 := h.kp.size
  have l1 : bx < w.heap.size := lt_of_cell h.cbx
  have l2 : bs < w.heap.size := lt_of_cell h.cbs
  obtain ⟨es, clock, hb, _⟩ := id h.gm
  have nbx : ¬ some bx = uv.ownBlock := fun e => by have := (ownsRow_lt h.urow e).2; have := h.hbx; omega
  exact { h with
    li := h.li.keep hk (fun k hk' e => by
      rcases hk' with e' | e' | e'
      · have := (ownsRow_lt h.urow e).2; have := h.hL; omega
      · have := (ownsRow_lt h.urow e).2; have := h.hM; omega
      · exact h.d5 k e e')
    cbx := (hk.cell (p := ⟨bx, 0, none⟩) l1 nbx).trans h.cbx
    cbs := (hk.cell (p := ⟨bs, 0, none⟩) l2 (fun e => h.d3 e.symm)).trans h.cbs
    fbs := (hk.frozen (p := ⟨bs, 0, none⟩) l2 (fun e => h.d3 e.symm)).trans h.fbs
    srow := ownsRow_of_block h.srow (fun k hk' => hk.block k (ownsRow_lt h.srow hk').1 (fun e => h.d6 k hk' e))
    urow := hr
    gm := h.gm.of_block (hk.block mp h.gm.lt (fun e => row_ne h.urow hb rfl e.symm)) (keyStay hk (fun b hb e => by have := (ownsRow_lt h.urow e).2; have := h.hBf; omega))
    kp := h.kp.trans hk (fun k hk' e => by have := (ownsRow_lt h.urow e).2; omega)
    d3 := fun e => by
      rcases hloc with e' | e'
      · exact h.d3 (e'.symm.trans e)
      · rw [e'] at e; have := Option.some.inj e; omega
    d5 := fun k hk' e => by
      rcases hloc with e' | e'
      · exact h.d5 k (hk'.trans e') e
      · have e2 : k = w.heap.size := Option.some.inj (hk'.trans e')
        have := (ownsRow_lt h.li.own e).1
        omega
    d6 := fun k hk' e => by
      rcases hloc with e' | e'
      · exact h.d6 k hk' (e.trans e')
      · have e2 : k = w.heap.size := Option.some.inj (e.trans e')
        have := (ownsRow_lt h.srow hk').1
        omega
    mks := fun D hD => ⟨(h.mks D hD).1, (hk.block D (Array.getElem?_eq_some_iff.1 (h.mks D hD).2).1 (fun e => row_ne h.urow (h.mks D hD).2 rfl e.symm)).trans (h.mks D hD).2⟩ }

/-- a task more -/
theorem MS.push (h : MS w0 Bf L bm nv0 bx mp bs st nums ns m nv sv uv ds w) {sv' : Value} {k : Task} (hr : w'.ownsRow w0.heap.size 175 3 sv' (st.length + 1) (flatS st.reverse ++ k.cells)) (hgr : w.grownBy w' sv.ownBlock)
    (hloc : sv'.ownBlock = sv.ownBlock ∨ sv'.ownBlock = some w.heap.size) : MS w0 Bf L bm nv0 bx mp bs (k :: st) nums ns m nv sv' uv ds (w'.setCell ⟨bs, 0, none⟩ sv') := by
  have hk1 : Kept (fun k => some k = sv.ownBlock) w w' := (Kept.refl _ _).grown hgr (fun k _ e => e)
  have hk : Kept (fun k => some k = sv.ownBlock ∨ k = bs) w (w'.setCell ⟨bs, 0, none⟩ sv') := Kept.setCell (p := ⟨bs, 0, none⟩) (hk1.mono (fun _ _ e => .inl e)) (fun _ => .inr rfl) _
  have hs0 := h.kp.size
  have l1 : bx < w.heap.size := lt_of_cell h.cbx
  have l2 : bs < w.heap.size := lt_of_cell h.cbs
  obtain ⟨es, clock, hb, _⟩ := id h.gm
  have hsb : sv'.ownBlock ≠ some bs := fun e => by
    rcases hloc with e' | e'
    · exact h.d2 (e'.symm.trans e)
    · rw [e'] at e; have := Option.some.inj e; omega
  have c2 : w'.cell? ⟨bs, 0, none⟩ = some sv := (hk1.cell (p := ⟨bs, 0, none⟩) l2 (fun e => h.d2 e.symm)).trans h.cbs
  have f2 : w'.frozen? ⟨bs, 0, none⟩ = false := (hk1.frozen (p := ⟨bs, 0, none⟩) l2 (fun e => h.d2 e.symm)).trans h.fbs
  exact { h with
    li := h.li.keep hk (fun k hk' e => by
      rcases e with e | e
      · rcases hk' with e' | e' | e'
        · have := (ownsRow_lt h.srow e).2; have := h.hL; omega
        · have := (ownsRow_lt h.srow e).2; have := h.hM; omega
        · exact h.d4 k e e'
      · rcases hk' with e' | e' | e'
        · have := h.hL; have := h.hbs; omega
        · have := h.hM; have := h.hbs; omega
        · rw [e] at e'; exact h.d1 e'.symm)
    cbx := (hk.cell (p := ⟨bx, 0, none⟩) l1 (fun e => by
      rcases e with e | e
      · have e' : some bx = sv.ownBlock := e
        have := (ownsRow_lt h.srow e').2; have := h.hbx; omega
      · have := h.hbx; have := h.hbs; have e' : bx = bs := e; omega)).trans h.cbx
    cbs := World.cell?_setCell_same' _ _ _ (by rw [c2]; rfl)
    fbs := by rw [World.frozen?_setCell]; exact f2
    srow := by
      have e1 : (k :: st).length = st.length + 1 := rfl
      have e2 : flatS (k :: st).reverse = flatS st.reverse ++ k.cells := by rw [List.reverse_cons, flatS_append]
      rw [e1, e2]
      exact ownsRow_of_block hr (fun j hj => Below.heap_setCell _ _ _ _ (fun e => hsb (by rw [← hj, e])))
    urow := ownsRow_of_block h.urow (fun k hk' => hk.block k (ownsRow_lt h.urow hk').1 (fun e => by
      rcases e with e | e
      · exact h.d6 k e hk'
      · exact h.d3 (by rw [← e]; exact hk'.symm)))
    gm := h.gm.of_block (hk.block mp h.gm.lt (fun e => by
      rcases e with e | e
      · exact row_ne h.srow hb rfl e.symm
      · exact gm_ne h.gm h.cbs e)) (keyStay hk (fun b hb e => by
      rcases e with e | e
      · have := (ownsRow_lt h.srow e).2; have := h.hBf; omega
      · have := h.hbs; have := h.hBf; omega))
    kp := h.kp.trans hk (fun k hk' e => by
      rcases e with e | e
      · have := (ownsRow_lt h.srow e).2; omega
      · have := h.hbs; omega)
    d2 := hsb
    d4 := fun j hj e => by
      rcases hloc with e' | e'
      · exact h.d4 j (hj.trans e') e
      · have e2 : j = w.heap.size := Option.some.inj (hj.trans e')
        have := (ownsRow_lt h.li.own e).1
        omega
    d6 := fun j hj e => by
      rcases hloc with e' | e'
      · exact h.d6 j (hj.trans e') e
      · have e2 : j = w.heap.size := Option.some.inj (hj.trans e')
        have := (ownsRow_lt h.urow e).1
        omega
    mks := fun D hD => ⟨(h.mks D hD).1, (hk.block D (Array.getElem?_eq_some_iff.1 (h.mks D hD).2).1 (fun e => by
      rcases e with e | e
      · exact row_ne h.srow (h.mks D hD).2 rfl e.symm
      · have := (h.mks D hD).2
        have hc := h.cbs
        rw [e] at this
        simp [World.cell?, this] at hc)).trans (h.mks D hD).2⟩ }
end
end Go.Proofs.YtdbpdanocpfboaaDoor
