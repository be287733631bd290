/- What a call keeps: all blocks but those of a set. A List of package nodes in memory. -/
import Derived.Test.YtdbpdanocpfboaaDoorVKeys
import Derived.Maps.AppendAt
import Derived.Deep.QuietTactic
import Derived.BigQuiet
namespace Go.Proofs.YtdbpdanocpfboaaDoor
open Go.RowKit

/-- w' is w but for the blocks of S and new ones. -/
structure Kept (S : Nat → Prop) (w w' : World) : Prop where
  os : w'.os = w.os
  tape : w'.tape = w.tape
  output : w'.output = w.output
  size : w.heap.size ≤ w'.heap.size
  block : ∀ k, k < w.heap.size → ¬ S k → w'.heap[k]? = w.heap[k]?

section
variable {S T : Nat → Prop} {w w' w'' : World}
theorem Kept.refl (S : Nat → Prop) (w : World) : Kept S w w := ⟨rfl, rfl, rfl, Nat.le_refl _, fun _ _ _ => rfl⟩
theorem Kept.trans (h : Kept S w w') (h' : Kept T w' w'') (hs : ∀ k, k < w.heap.size → T k → S k) : Kept S w w'' :=
  ⟨h'.os.trans h.os, h'.tape.trans h.tape, h'.output.trans h.output, Nat.le_trans h.size h'.size, fun k hk hn =>
    (h'.block k (Nat.lt_of_lt_of_le hk h.size) (fun ht => hn (hs k hk ht))).trans (h.block k hk hn)⟩
theorem Kept.mono (h : Kept S w w') (hs : ∀ k, k < w.heap.size → S k → T k) : Kept T w w' :=
  ⟨h.os, h.tape, h.output, h.size, fun k hk hn => h.block k hk (fun hS => hn (hs k hk hS))⟩
theorem Kept.drew (h : Kept S w w') : Kept S w w'.drew := ⟨h.os, h.tape, h.output, h.size, h.block⟩
theorem Kept.drewN (h : Kept S w w') (n : Nat) : Kept S w (w'.drewN n) := ⟨h.os, h.tape, h.output, h.size, h.block⟩
theorem Kept.alloc (h : Kept S w w') (o : Obj) : Kept S w (w'.alloc o) :=
  ⟨h.os, h.tape, h.output, Nat.le_trans h.size (by simp), fun k hk hn => (Below.heap_alloc _ _ _ (Nat.lt_of_lt_of_le hk h.size)).trans (h.block k hk hn)⟩
theorem Kept.setCell (h : Kept S w w') {p : Addr} (hp : p.block < w.heap.size → S p.block) (u : Value) : Kept S w (w'.setCell p u) :=
  ⟨h.os, h.tape, h.output, Nat.le_trans h.size (by simp [World.setCell]), fun k hk hn => by
    have hne : k ≠ p.block := by
      intro e
      subst e
      exact hn (hp hk)
    rw [Below.heap_setCell _ _ _ _ hne]
    exact h.block k hk hn⟩
theorem Kept.grown (h : Kept S w w') {row : Option Nat} (hg : w'.grownBy w'' row) (hr : ∀ k, k < w.heap.size → some k = row → S k) : Kept S w w'' :=
  ⟨hg.os.trans h.os, hg.tape.trans h.tape, hg.output.trans h.output, Nat.le_trans h.size hg.size, fun k hk hn =>
    (hg.block k (Nat.lt_of_lt_of_le hk h.size) (fun e => hn (hr k hk e))).trans (h.block k hk hn)⟩
theorem Kept.of_below {B : Nat} (h : Below B w w') : Kept (fun k => B ≤ k) w w' :=
  ⟨h.os, h.tape, h.output, h.size, fun k _ hn => h.block k (by omega)⟩
theorem Kept.below (h : Kept S w w') {B : Nat} (hB : B ≤ w.heap.size) (hs : ∀ k, S k → B ≤ k) : Below B w w' :=
  ⟨h.os, h.tape, h.output, h.size, fun k hk => h.block k (by omega) (fun hS => by have := hs k hS; omega)⟩
theorem Kept.cell (h : Kept S w w') {p : Addr} (hp : p.block < w.heap.size) (hn : ¬ S p.block) : w'.cell? p = w.cell? p := World.cell?_of_block (w := w) (h.block p.block hp hn)
theorem Kept.frozen (h : Kept S w w') {p : Addr} (hp : p.block < w.heap.size) (hn : ¬ S p.block) : w'.frozen? p = w.frozen? p := World.frozen?_of_block (w := w) (h.block p.block hp hn)
end

theorem lt_of_cell {w : World} {p : Addr} {v : Value} (h : w.cell? p = some v) : p.block < w.heap.size := by
  unfold World.cell? at h
  split at h
  · rename_i h'; exact (Array.getElem?_eq_some_iff.1 h').1
  · cases h

/-- A Node. -/
structure Nd where
  op : Int
  n : Int
  l : Int
  r : Int
  deriving DecidableEq

def Nd.v (x : Nd) : Value := ndV x.op x.n x.l x.r
def Nd.cells (x : Nd) : List Value := [.int .i64 x.op, .int .i64 x.n, .int .i64 x.l, .int .i64 x.r]
theorem Nd.v_inj {x y : Nd} (h : x.v = y.v) : x = y := by
  cases x; cases y
  simpa [Nd.v, ndV] using h
def flatN (l : List Nd) : List Value := l.flatMap Nd.cells
theorem flatN_length (l : List Nd) : (flatN l).length = l.length * 4 := by
  induction l with
  | nil => rfl
  | cons x r ih =>
    have e : flatN (x :: r) = x.cells ++ flatN r := by simp [flatN]
    rw [e, List.length_append, ih, List.length_cons]
    simp [Nd.cells]
    omega
theorem flatN_append (l : List Nd) (x : Nd) : flatN (l ++ [x]) = flatN l ++ x.cells := by simp [flatN]

/-- The number of a Node in a list of them. -/
def numOf (ns : List Nd) (x : Nd) : Option Value := (ns.idxOf? x).map fun i => .int .i64 (i : Int)

/-- A List of package nodes: its block L, the slice of its Nodes nv, the block bm of its map; it holds ns. -/
structure LIn (w : World) (base L bm : Nat) (nv : Value) (ns : List Nd) : Prop where
  c0 : w.cell? ⟨L, 0, none⟩ = some nv
  c1 : w.cell? ⟨L, 1, none⟩ = some (.map (some bm))
  f0 : w.frozen? ⟨L, 0, none⟩ = false
  own : w.ownsRow base 102 4 nv ns.length (flatN ns)
  map : ∃ m, Gm isNode w bm m ∧ ∀ x : Nd, m x.v = numOf ns x
  sepL : nv.ownBlock ≠ some L
  sepM : nv.ownBlock ≠ some bm
  bL : base ≤ L
  bM : base ≤ bm
  len : ns.length ≤ 1073741824

/-- the blocks that a List lies in -/
def LSet (L bm : Nat) (nv : Value) (k : Nat) : Prop := k = L ∨ k = bm ∨ some k = nv.ownBlock

theorem ownsRow_of_block {w w' : World} {base : Nat} {e : TypeId} {size : Nat} {v : Value} {n : Nat} {xs : List Value} (h : w.ownsRow base e size v n xs) (hb : ∀ k, some k = v.ownBlock → w'.heap[k]? = w.heap[k]?) : w'.ownsRow base e size v n xs := by
  obtain ⟨h1, h2⟩ := h
  refine ⟨h1, ?_⟩
  rcases h2 with h2 | ⟨g, cap, cur, hv, hg, hh, r⟩
  · exact Or.inl h2
  · exact Or.inr ⟨g, cap, cur, hv, hg, by rw [hb g (by rw [hv]; rfl)]; exact hh, r⟩

theorem ownsRow_lt {w : World} {base : Nat} {e : TypeId} {size : Nat} {v : Value} {n : Nat} {xs : List Value} (h : w.ownsRow base e size v n xs) {k : Nat} (hk : some k = v.ownBlock) : k < w.heap.size ∧ base ≤ k := by
  obtain ⟨h1, h2⟩ := h
  rcases h2 with ⟨h2, _⟩ | ⟨g, cap, cur, hv, hg, hh, r⟩
  · subst h2; cases hk
  · subst hv
    cases hk
    exact ⟨(Array.getElem?_eq_some_iff.1 hh).1, hg⟩

theorem LIn.keep {w w' : World} {base L bm : Nat} {nv : Value} {ns : List Nd} {S : Nat → Prop} (h : LIn w base L bm nv ns) (hk : Kept S w w') (hs : ∀ k, LSet L bm nv k → ¬ S k) : LIn w' base L bm nv ns := by
  have hL : L < w.heap.size := lt_of_cell h.c0
  obtain ⟨m, hm, hx⟩ := h.map
  have hbl : ∀ k, LSet L bm nv k → k < w.heap.size → w'.heap[k]? = w.heap[k]? := fun k hk' hlt => hk.block k hlt (hs k hk')
  have e0 := hbl L (.inl rfl) hL
  exact { c0 := (World.cell?_of_block (w := w) (a := ⟨L, 0, none⟩) e0).trans h.c0
          c1 := (World.cell?_of_block (w := w) (a := ⟨L, 1, none⟩) e0).trans h.c1
          f0 := (World.frozen?_of_block (w := w) (a := ⟨L, 0, none⟩) e0).trans h.f0
          own := ownsRow_of_block h.own (fun k hk' => hbl k (.inr (.inr hk')) (ownsRow_lt h.own hk').1)
          map := ⟨m, hm.of_block (hbl bm (.inr (.inl rfl)) hm.lt) (fun _ hh => hh), hx⟩
          sepL := h.sepL, sepM := h.sepM, bL := h.bL, bM := h.bM, len := h.len }
end Go.Proofs.YtdbpdanocpfboaaDoor
