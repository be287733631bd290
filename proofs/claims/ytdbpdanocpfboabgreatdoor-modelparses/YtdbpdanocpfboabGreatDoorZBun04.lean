import Derived.Test.YtdbpdanocpfboabGreatDoorZRn
import Derived.Laws.Rows
import Derived.Deep.RegionLaw
/- Models as lists; how a text is read; rows of one's own, side by side. -/
namespace Go.Proofs.YtdbpdanocpfboabGreatDoor
open Go.RowKit

structure MD where
  names : List ByteArray
  letters : List Int
  tos : List (List Int)
/-- what was read of some lines -/
structure PSt where
  names : List ByteArray
  letters : List Int
  at_ : List Int
  behind : List (List ByteArray)
def PSt.zero : PSt := ⟨[], [], [], []⟩
def PSt.push (st : PSt) (i : Nat) (ws : List ByteArray) : PSt := ⟨st.names ++ [ws.getD 0 nil], st.letters ++ [lettersZ (ws.getD 1 nil)], st.at_ ++ [(i : Int) + 1], st.behind ++ [ws.drop 3]⟩
def parseL : List ByteArray → Nat → PSt → (Int × Int) ⊕ PSt
  | [], _, st => .inr st
  | l :: r, i, st => if wordsL l = [] then parseL r (i + 1) st else if lineE st.names (wordsL l) = 0 then parseL r (i + 1) (st.push i (wordsL l)) else .inl (lineE st.names (wordsL l), (i : Int) + 1)
def knownB (names bs : List ByteArray) : Bool := bs.all (fun b => memB b names)
def consR (row : List Int) : Int ⊕ List (List Int) → Int ⊕ List (List Int)
  | .inl x => .inl x
  | .inr t => .inr (row :: t)
def joinL (names : List ByteArray) : List (List ByteArray) → List Int → Int ⊕ List (List Int)
  | b :: r, a :: a2 => if knownB names b = true then consR (b.map (findZ names)) (joinL names r a2) else .inl a
  | _, _ => .inr []
inductive PR where
  | ok (m : MD)
  | err (e l : Int)
/-- the document's Parse -/
def parseM (s : ByteArray) : PR :=
  if 1000 < s.size then .err 1 0 else
  match parseL (cutL s 10) 0 .zero with
  | .inl (e, l) => .err e l
  | .inr st => match joinL st.names st.behind st.at_ with
    | .inl l => .err 6 l
    | .inr t => if st.names.length = 0 then .err 6 0 else .ok ⟨st.names, st.letters, t⟩

/-! ### lists in blocks of a set -/
def LsS (S : Nat → Prop) (w : World) (v : Value) (cs : List Value) : Prop :=
  ∃ (a : Option Addr) (cap : Nat), v = .slice a cs.length cap ∧ cs.length ≤ cap ∧ cs.length ≤ 17592186044416 ∧ ∀ i x, cs[i]? = some x → ∃ b off, a = some ⟨b, off, none⟩ ∧ S b ∧ w.cell? ⟨b, off + i, none⟩ = some x
theorem LsS.keep {S S' : Nat → Prop} {w w' : World} {v : Value} {cs : List Value} (h : LsS S w v cs) (hs : ∀ b, S b → S' b) (hb : ∀ b, S b → w'.heap[b]? = w.heap[b]?) : LsS S' w' v cs := by
  obtain ⟨a, cap, e, h1, h2, h3⟩ := h
  refine ⟨a, cap, e, h1, h2, fun i x hx => ?_⟩
  obtain ⟨b, off, e', hS, hc⟩ := h3 i x hx
  exact ⟨b, off, e', hs b hS, (World.cell?_of_block (w := w) (a := ⟨b, off + i, none⟩) (hb b hS)).trans hc⟩
theorem LsS.ls {S : Nat → Prop} {B : Nat} {w : World} {v : Value} {cs : List Value} (h : LsS S w v cs) (hs : ∀ b, S b → b < B) : LsV B w v cs := by
  obtain ⟨a, cap, e, h1, h2, h3⟩ := h
  refine ⟨a, cap, e, h1, h2, fun i x hx => ?_⟩
  obtain ⟨b, off, e', hS, hc⟩ := h3 i x hx
  exact ⟨b, off, e', hs b hS, hc⟩
theorem LsV.lss {B : Nat} {w : World} {v : Value} {cs : List Value} (h : LsV B w v cs) : LsS (fun b => b < B) w v cs := h
theorem own_lss {w : World} {base n : Nat} {e : TypeId} {v : Value} {xs : List Value} (h : w.ownsRow base e 1 v n xs) (hx : xs.length ≤ 17592186044416) : LsS (inRow v) w v xs := by
  have hl := h.1
  rcases h.2 with ⟨rfl, rfl⟩ | ⟨g, cap, cur, rfl, hg, hh, hn, hcap, hsz, htk⟩
  · have : xs = [] := List.eq_nil_of_length_eq_zero (by omega)
    subst this
    exact ⟨none, 0, rfl, Nat.zero_le _, by simp, fun i x hx => by simp at hx⟩
  · have hxn : xs.length = n := by omega
    refine ⟨some ⟨g, 0, none⟩, cap, by rw [hxn], by omega, hx, fun i x hi => ⟨g, 0, rfl, rfl, ?_⟩⟩
    have := h.cells (g := g) rfl i x hi
    rw [addr_add] at this
    rw [Nat.zero_add]
    exact this
theorem row_ty {w : World} {base n size : Nat} {e : TypeId} {v : Value} {xs : List Value} (h : w.ownsRow base e size v n xs) {k : Nat} (hk : inRow v k) : ∃ cs, w.heap[k]? = some (.cells cs e (0, 0)) := by
  rcases h.2 with ⟨rfl, _⟩ | ⟨g, cap, cur, rfl, hg, hh, _⟩
  · cases hk
  · cases hk
    exact ⟨cur, hh⟩
/-- rows of different kinds lie in different blocks -/
theorem row_ne {w : World} {base base' n n' size size' : Nat} {e e' : TypeId} {v v' : Value} {xs xs' : List Value} (h : w.ownsRow base e size v n xs) (h' : w.ownsRow base' e' size' v' n' xs') (hne : e ≠ e') {k : Nat} (hk : inRow v k) : ¬ inRow v' k := fun hk' => by
  obtain ⟨c, h1⟩ := row_ty h hk
  obtain ⟨c', h2⟩ := row_ty h' hk'
  rw [h1] at h2
  injection h2 with h2
  injection h2 with _ h2
  exact hne h2
theorem row_blk {w : World} {base n size : Nat} {e t : TypeId} {v : Value} {xs : List Value} {M : Nat} {cs : Array Value} (h : w.ownsRow base e size v n xs) (hM : w.heap[M]? = some (.cells cs t (0, 0))) (hne : e ≠ t) : ¬ inRow v M := fun hk => by
  obtain ⟨c, h1⟩ := row_ty h hk
  rw [hM] at h1
  injection h1 with h1
  injection h1 with _ h1
  exact hne h1.symm
end Go.Proofs.YtdbpdanocpfboabGreatDoor

/- Four lists that grow side by side, and a block that holds them: while lines are read. -/
namespace Go.Proofs.YtdbpdanocpfboabGreatDoor
open Go.RowKit

theorem info3 : (Tryz.prog.info? 3).map (fun i => (i.zero, i.size, i.bytes)) = some (some (.int .i64 0), 1, 8) := by kernel_rfl
theorem info22 : (Tryz.prog.info? 22).map (fun i => (i.zero, i.size, i.bytes)) = some (some (.slice none 0 0), 1, 24) := by kernel_rfl
theorem info23 : (Tryz.prog.info? 23).map (fun i => (i.zero, i.size, i.bytes)) = some (some (.slice none 0 0), 1, 24) := by kernel_rfl

def TyB (w : World) (k : Nat) (t : TypeId) : Prop := ∃ cs, w.heap[k]? = some (.cells cs t (0, 0))
/-- blocks of lists of texts, apart from one -/
def SB (nv : Value) (w : World) (k : Nat) : Prop := k < w.heap.size ∧ ¬ inRow nv k ∧ TyB w k 9
theorem own_grown {wr w6 : World} {base n size : Nat} {e : TypeId} {v u : Value} {xs : List Value} (h : wr.ownsRow base e size v n xs) (hg : Kept (fun b => inRow u b) wr w6) (hd : ∀ k, inRow v k → ¬ inRow u k) : w6.ownsRow base e size v n xs :=
  ownsRow_of_block h (fun k hk => hg.block k (ownsRow_lt h hk).1 (hd k hk))
theorem own_set {w : World} {base n size : Nat} {e : TypeId} {v : Value} {xs : List Value} (h : w.ownsRow base e size v n xs) {p : Addr} (hp : ¬ inRow v p.block) (x : Value) : (w.setCell p x).ownsRow base e size v n xs :=
  ownsRow_of_block h (fun _ hk => Below.heap_setCell _ _ _ _ (fun e => hp (e ▸ hk)))
theorem own_new {wr w' : World} {base n size : Nat} {e : TypeId} {v : Value} {xs : List Value} (h : wr.ownsRow base e size v n xs) (hk : Kept (fun _ => False) wr w') : w'.ownsRow base e size v n xs :=
  ownsRow_of_block h (fun k e => hk.block k (ownsRow_lt h e).1 (fun f => f))
theorem loc_new {v v' : Value} {n k : Nat} (h : v'.ownBlock = v.ownBlock ∨ v'.ownBlock = some n) (hk : inRow v' k) : inRow v k ∨ k = n := by
  unfold inRow at *
  rcases h with h | h
  · exact .inl (hk.trans h)
  · rw [h] at hk
    injection hk with hk
    exact .inr hk

theorem step_append_own {P : Program} {ops : Array Oper} {o : Oper} {a : Act} {w : World} {K : Act → World → Prop} {Q : Exit → Act → World → Prop} {E : Prop}
    (hg : o.guard = none) (s x : Operand) (t : TypeId) (hop : o.op = Op.call { callee := Callee.builtin Builtin.append, args := #[s, x], argTypes := #[t, t] })
    (base : Nat) (e : TypeId) (i : TypeInfo) (z : Value) (size bytes : Nat) (h1 : P.underlying t = some (.slice e)) (h2 : P.info? e = some i) (h3 : i.zero = some z) (h4 : i.size = size) (h5 : i.bytes = bytes) (h6 : z.cells.size = size) (h7 : 0 < size)
    (v : Value) (n : Nat) (xs : List Value) (hs : a.eval s = v) (hown : w.ownsRow base e size v n xs)
    (ad : Addr) (m c : Nat) (news : List Value) (hx : a.eval x = .slice (some ad) m c) (hn : news.length = m * size) (hc : ∀ j u, news[j]? = some u → w.cell? (ad.add j) = some u) (h1c : ∀ u ∈ news, u.oneCell' = true)
    (b1 : n + m ≤ maxLen) (b2 : (n + m) * bytes ≤ 140737488355328) (hbase : base ≤ w.heap.size)
    (hK : ∀ v' w', w'.ownsRow base e size v' (n + m) (xs ++ news) → w.grownBy w' v.ownBlock → (v'.ownBlock = v.ownBlock ∨ v'.ownBlock = some w.heap.size) → K (a.put o.dst v') w') :
    if Region.wanted o (yielded ops a.tmps) = true then Oper.wp P o a w K Q else E := by
  have hw : Region.wanted o (yielded ops a.tmps) = true := by simp [Region.wanted, hg]
  rw [if_pos hw]
  obtain ⟨v', w', hrun, r1, r2, _, r4⟩ := run_append_own_at (P := P) w base t o.type e i z size bytes h1 h2 h3 h4 h5 h6 h7 v n xs hown ad m c news hn hc h1c b1 b2 hbase
  unfold Oper.wp
  simp [execOp, hop, resolve, invoke, builtin, hs, hx, hrun, Result.andThen]
  exact hK v' w' r1 r2 r4

theorem ownsRow_form {w : World} {base : Nat} {e : TypeId} {size : Nat} {v : Value} {n : Nat} {xs : List Value} (h : w.ownsRow base e size v (n + 1) xs) : ∃ g cap, v = .slice (some ⟨g, 0, none⟩) (n + 1) cap := by
  rcases h.2 with ⟨_, h2⟩ | ⟨g, cap, cur, hv, _⟩
  · cases h2
  · exact ⟨g, cap, hv⟩

theorem LsS.sub {S : Nat → Prop} {w : World} {b off n cap : Nat} {xs : List Value} (h : LsS S w (.slice (some ⟨b, off, none⟩) n cap) xs) {i : Nat} (hi : i ≤ xs.length) : LsS S w (.slice (some ⟨b, off + i, none⟩) (xs.length - i) (cap - i)) (xs.drop i) := by
  obtain ⟨a', cap', e, h1, h2, h3⟩ := h
  cases e
  have hl : (xs.drop i).length = xs.length - i := by simp
  refine ⟨_, _, by rw [hl], by rw [hl]; omega, by rw [hl]; omega, fun k x hx => ?_⟩
  rw [List.getElem?_drop] at hx
  obtain ⟨b', off', e, hb, hcell⟩ := h3 (i + k) x hx
  cases e
  exact ⟨b, off + i, rfl, hb, by rw [Nat.add_assoc]; exact hcell⟩
theorem LsS.cell {S : Nat → Prop} {w : World} {a : Option Addr} {n cap : Nat} {xs : List Value} (h : LsS S w (.slice a n cap) xs) {i : Nat} {x : Value} (hx : xs[i]? = some x) : ∃ b off, a = some ⟨b, off, none⟩ ∧ S b ∧ w.cell? ⟨b, off + i, none⟩ = some x := by
  obtain ⟨a', cap', e, _, _, h⟩ := h
  cases e
  exact h i x hx
theorem LsS.cap {S : Nat → Prop} {w : World} {a : Option Addr} {n cap : Nat} {xs : List Value} (h : LsS S w (.slice a n cap) xs) : xs.length ≤ cap := by
  obtain ⟨a', cap', e, h1, _⟩ := h
  cases e
  exact h1
/-- the memory while lines are read: four lists, and the block M that holds some of them -/
structure RQ (T : TypeId) (C : Value → Value → Value → Value → Array Value) (w : World) (M : Nat) (nv lv av bv : Value) (st : PSt) (rs : List Value) (wr : World) : Prop where
  kept : Kept (fun _ => False) w wr
  mn : w.heap.size ≤ M
  blk : wr.heap[M]? = some (.cells (C nv lv av bv) T (0, 0))
  n : wr.ownsRow w.heap.size 9 1 nv st.names.length (st.names.map Value.string)
  l : wr.ownsRow w.heap.size 3 1 lv st.letters.length (st.letters.map (Value.int .i64))
  a : wr.ownsRow w.heap.size 3 1 av st.at_.length (st.at_.map (Value.int .i64))
  b : wr.ownsRow w.heap.size 22 1 bv st.behind.length rs
  dis : ∀ k, inRow lv k → ¬ inRow av k
  len : rs.length = st.behind.length
  rows : ∀ (i : Nat) (r : Value) (bs : List ByteArray), rs[i]? = some r → st.behind[i]? = some bs → LsS (SB nv wr) wr r (bs.map Value.string)
  ty : T ≠ 3 ∧ T ≠ 9 ∧ T ≠ 22

section
variable {T : TypeId} {C : Value → Value → Value → Value → Array Value} {w : World} {M : Nat} {nv lv av bv : Value} {st : PSt} {rs : List Value} {wr w' w6 w7 : World}
theorem TyB.of {w w' : World} {k : Nat} {t : TypeId} (h : TyB w k t) (e : w'.heap[k]? = w.heap[k]?) : TyB w' k t := by
  obtain ⟨c, h⟩ := h
  exact ⟨c, e.trans h⟩
theorem TyB.ne {w : World} {k M : Nat} {t T : TypeId} {cs : Array Value} (h : TyB w k t) (hM : w.heap[M]? = some (.cells cs T (0, 0))) (hne : t ≠ T) : k ≠ M := fun e => by
  subst e
  obtain ⟨c, hc⟩ := h
  rw [hM] at hc
  injection hc with hc
  injection hc with _ hc
  exact hne hc.symm
theorem RQ.lt (h : RQ T C w M nv lv av bv st rs wr) : M < wr.heap.size := (Array.getElem?_eq_some_iff.1 h.blk).1
/-- a call that makes new blocks alone -/
theorem RQ.new (h : RQ T C w M nv lv av bv st rs wr) (hk : Kept (fun _ => False) wr w') : RQ T C w M nv lv av bv st rs w' := by
  have hb : ∀ k, k < wr.heap.size → w'.heap[k]? = wr.heap[k]? := fun k hk' => hk.block k hk' (fun f => f)
  exact { kept := h.kept.trans hk (fun _ _ f => f), mn := h.mn, blk := (hb M h.lt).trans h.blk
          n := own_new h.n hk, l := own_new h.l hk, a := own_new h.a hk, b := own_new h.b hk
          dis := h.dis, len := h.len, ty := h.ty
          rows := fun i r bs h1 h2 => (h.rows i r bs h1 h2).keep (fun k e => ⟨Nat.lt_of_lt_of_le e.1 hk.size, e.2.1, e.2.2.of (hb k e.1)⟩) (fun k e => hb k e.1) }
theorem own_keptM {wr w7 : World} {base n size : Nat} {e : TypeId} {v : Value} {xs : List Value} {M : Nat} (h : wr.ownsRow base e size v n xs) (hk : Kept (fun k => k = M) wr w7) (hp : ¬ inRow v M) : w7.ownsRow base e size v n xs :=
  ownsRow_of_block h (fun k e => hk.block k (ownsRow_lt h e).1 (fun e' => hp (e' ▸ e)))
theorem RQ.keptM (h : RQ T C w M nv lv av bv st rs wr) {u : Value} (hu : ∀ k, inRow u k → w.heap.size ≤ k) (hg : Kept (fun b => inRow u b) wr w6) (hs : Kept (fun k => k = M) w6 w7) : Kept (fun _ => False) w w7 :=
  (h.kept.trans hg (fun k hk e => by have := hu k e; omega)).trans hs (fun k hk e => by have := h.mn; omega)
theorem RQ.rowsM (h : RQ T C w M nv lv av bv st rs wr) {u nv' : Value} {N : Nat} (hu : ∀ k, SB nv wr k → ¬ inRow u k) (hg : Kept (fun b => inRow u b) wr w6) (hs : Kept (fun k => k = M) w6 w7) (hN : wr.heap.size ≤ N) (hloc : nv'.ownBlock = nv.ownBlock ∨ nv'.ownBlock = some N) {r : Value} {cs : List Value} (hr : LsS (SB nv wr) wr r cs) : LsS (SB nv' w7) w7 r cs := by
  have hb : ∀ k, SB nv wr k → w7.heap[k]? = wr.heap[k]? := fun k e => (hs.block k (Nat.lt_of_lt_of_le e.1 hg.size) (e.2.2.ne h.blk h.ty.2.1.symm)).trans (hg.block k e.1 (hu k e))
  refine hr.keep (fun k e => ⟨Nat.lt_of_lt_of_le e.1 (Nat.le_trans hg.size hs.size), fun e' => ?_, e.2.2.of (hb k e)⟩) hb
  rcases loc_new hloc e' with e' | e'
  · exact e.2.1 e'
  · have := e.1; omega
theorem RQ.notM6 (h : RQ T C w M nv lv av bv st rs wr) {u : Value} (hu : ¬ inRow u M) (hg : Kept (fun b => inRow u b) wr w6) : w6.heap[M]? = some (.cells (C nv lv av bv) T (0, 0)) := (hg.block M h.lt hu).trans h.blk

theorem rowNew (hk : Kept (fun _ => False) wr w') {r : Value} {cs : List Value} (hr : LsS (SB nv wr) wr r cs) : LsS (SB nv w') w' r cs := by
  have hb : ∀ k, k < wr.heap.size → w'.heap[k]? = wr.heap[k]? := fun k hk' => hk.block k hk' (fun f => f)
  exact hr.keep (fun k e => ⟨Nat.lt_of_lt_of_le e.1 hk.size, e.2.1, e.2.2.of (hb k e.1)⟩) (fun k e => hb k e.1)
/-- a list of texts that was made since -/
theorem RQ.rowOwn (h : RQ T C w M nv lv av bv st rs wr) {w3 : World} {r : Value} {n : Nat} {cs : List Value} (hr : w3.ownsRow wr.heap.size 9 1 r n cs) (hl : cs.length ≤ 17592186044416) : LsS (SB nv w3) w3 r cs := by
  refine (own_lss hr hl).keep (fun k e => ⟨(ownsRow_lt hr e).1, fun e' => ?_, row_ty hr e⟩) (fun _ _ => rfl)
  have h1 := (ownsRow_lt h.n e').1
  have h2 := (ownsRow_lt hr e).2
  omega
/-- a name is laid behind the others -/
theorem RQ.name {nv' : Value} {x : ByteArray} {N : Nat} (h : RQ T C w M nv lv av bv st rs wr) (hg : Kept (fun b => inRow nv b) wr w6) (hN : wr.heap.size ≤ N) (hr : w6.ownsRow w.heap.size 9 1 nv' (st.names.length + 1) (st.names.map Value.string ++ [.string x])) (hloc : nv'.ownBlock = nv.ownBlock ∨ nv'.ownBlock = some N)
    (hs : Kept (fun k => k = M) w6 w7) (hM : w7.heap[M]? = some (.cells (C nv' lv av bv) T (0, 0))) : RQ T C w M nv' lv av bv { st with names := st.names ++ [x] } rs w7 := by
  have hM6 := h.notM6 (row_blk h.n h.blk h.ty.2.1.symm) hg
  have hl6 := own_grown h.l hg (fun k e => row_ne h.l h.n (by decide) e)
  have ha6 := own_grown h.a hg (fun k e => row_ne h.a h.n (by decide) e)
  have hb6 := own_grown h.b hg (fun k e => row_ne h.b h.n (by decide) e)
  have hn7 := own_keptM hr hs (row_blk hr hM6 h.ty.2.1.symm)
  exact { kept := h.keptM (fun k e => (ownsRow_lt h.n e).2) hg hs, mn := h.mn, blk := hM, n := by simpa using hn7
          l := own_keptM hl6 hs (row_blk hl6 hM6 h.ty.1.symm), a := own_keptM ha6 hs (row_blk ha6 hM6 h.ty.1.symm), b := own_keptM hb6 hs (row_blk hb6 hM6 h.ty.2.2.symm)
          dis := h.dis, len := h.len, ty := h.ty, rows := fun i r bs h1 h2 => h.rowsM (fun k e => e.2.1) hg hs hN hloc (h.rows i r bs h1 h2) }
/-- letters are -/
theorem RQ.letter {lv' : Value} {x : Int} {N : Nat} (h : RQ T C w M nv lv av bv st rs wr) (hg : Kept (fun b => inRow lv b) wr w6) (hN : wr.heap.size ≤ N) (hr : w6.ownsRow w.heap.size 3 1 lv' (st.letters.length + 1) (st.letters.map (Value.int .i64) ++ [.int .i64 x])) (hloc : lv'.ownBlock = lv.ownBlock ∨ lv'.ownBlock = some N)
    (hs : Kept (fun k => k = M) w6 w7) (hM : w7.heap[M]? = some (.cells (C nv lv' av bv) T (0, 0))) : RQ T C w M nv lv' av bv { st with letters := st.letters ++ [x] } rs w7 := by
  have hM6 := h.notM6 (row_blk h.l h.blk h.ty.1.symm) hg
  have hn6 := own_grown h.n hg (fun k e => row_ne h.n h.l (by decide) e)
  have ha6 := own_grown h.a hg (fun k e e' => h.dis k e' e)
  have hb6 := own_grown h.b hg (fun k e => row_ne h.b h.l (by decide) e)
  have hl7 := own_keptM hr hs (row_blk hr hM6 h.ty.1.symm)
  exact { kept := h.keptM (fun k e => (ownsRow_lt h.l e).2) hg hs, mn := h.mn, blk := hM, l := by simpa using hl7
          n := own_keptM hn6 hs (row_blk hn6 hM6 h.ty.2.1.symm), a := own_keptM ha6 hs (row_blk ha6 hM6 h.ty.1.symm), b := own_keptM hb6 hs (row_blk hb6 hM6 h.ty.2.2.symm)
          dis := fun k e e' => by
            rcases loc_new hloc e with e1 | e1
            · exact h.dis k e1 e'
            · have := (ownsRow_lt h.a e').1; omega
          len := h.len, ty := h.ty
          rows := fun i r bs h1 h2 => h.rowsM (N := N) (fun k e e' => by obtain ⟨c, hc⟩ := row_ty h.l e'; obtain ⟨c', hc'⟩ := e.2.2; rw [hc] at hc'; injection hc' with hc'; injection hc' with _ hc'; exact absurd hc' (by decide)) hg hs hN (.inl rfl) (h.rows i r bs h1 h2) }
/-- a line's number is -/
theorem RQ.at_ {av' : Value} {x : Int} {N : Nat} (h : RQ T C w M nv lv av bv st rs wr) (hg : Kept (fun b => inRow av b) wr w6) (hN : wr.heap.size ≤ N) (hr : w6.ownsRow w.heap.size 3 1 av' (st.at_.length + 1) (st.at_.map (Value.int .i64) ++ [.int .i64 x])) (hloc : av'.ownBlock = av.ownBlock ∨ av'.ownBlock = some N)
    (hs : Kept (fun k => k = M) w6 w7) (hM : w7.heap[M]? = some (.cells (C nv lv av' bv) T (0, 0))) : RQ T C w M nv lv av' bv { st with at_ := st.at_ ++ [x] } rs w7 := by
  have hM6 := h.notM6 (row_blk h.a h.blk h.ty.1.symm) hg
  have hn6 := own_grown h.n hg (fun k e => row_ne h.n h.a (by decide) e)
  have hl6 := own_grown h.l hg (fun k e e' => h.dis k e e')
  have hb6 := own_grown h.b hg (fun k e => row_ne h.b h.a (by decide) e)
  have ha7 := own_keptM hr hs (row_blk hr hM6 h.ty.1.symm)
  exact { kept := h.keptM (fun k e => (ownsRow_lt h.a e).2) hg hs, mn := h.mn, blk := hM, a := by simpa using ha7
          n := own_keptM hn6 hs (row_blk hn6 hM6 h.ty.2.1.symm), l := own_keptM hl6 hs (row_blk hl6 hM6 h.ty.1.symm), b := own_keptM hb6 hs (row_blk hb6 hM6 h.ty.2.2.symm)
          dis := fun k e e' => by
            rcases loc_new hloc e' with e1 | e1
            · exact h.dis k e e1
            · have := (ownsRow_lt h.l e).1; omega
          len := h.len, ty := h.ty
          rows := fun i r bs h1 h2 => h.rowsM (N := N) (fun k e e' => by obtain ⟨c, hc⟩ := row_ty h.a e'; obtain ⟨c', hc'⟩ := e.2.2; rw [hc] at hc'; injection hc' with hc'; injection hc' with _ hc'; exact absurd hc' (by decide)) hg hs hN (.inl rfl) (h.rows i r bs h1 h2) }
/-- the names behind a state are -/
theorem RQ.behind {bv' r : Value} {bs : List ByteArray} {N : Nat} (h : RQ T C w M nv lv av bv st rs wr) (hg : Kept (fun b => inRow bv b) wr w6) (hN : wr.heap.size ≤ N) (hr : w6.ownsRow w.heap.size 22 1 bv' (st.behind.length + 1) (rs ++ [r]))
    (hs : Kept (fun k => k = M) w6 w7) (hM : w7.heap[M]? = some (.cells (C nv lv av bv') T (0, 0))) (hx : LsS (SB nv wr) wr r (bs.map Value.string)) : RQ T C w M nv lv av bv' { st with behind := st.behind ++ [bs] } (rs ++ [r]) w7 := by
  have hM6 := h.notM6 (row_blk h.b h.blk h.ty.2.2.symm) hg
  have hn6 := own_grown h.n hg (fun k e => row_ne h.n h.b (by decide) e)
  have hl6 := own_grown h.l hg (fun k e => row_ne h.l h.b (by decide) e)
  have ha6 := own_grown h.a hg (fun k e => row_ne h.a h.b (by decide) e)
  have hb7 := own_keptM hr hs (row_blk hr hM6 h.ty.2.2.symm)
  have hu : ∀ k, SB nv wr k → ¬ inRow bv k := fun k e e' => by obtain ⟨c, hc⟩ := row_ty h.b e'; obtain ⟨c', hc'⟩ := e.2.2; rw [hc] at hc'; injection hc' with hc'; injection hc' with _ hc'; exact absurd hc' (by decide)
  exact { kept := h.keptM (fun k e => (ownsRow_lt h.b e).2) hg hs, mn := h.mn, blk := hM, b := by simpa using hb7
          n := own_keptM hn6 hs (row_blk hn6 hM6 h.ty.2.1.symm), l := own_keptM hl6 hs (row_blk hl6 hM6 h.ty.1.symm), a := own_keptM ha6 hs (row_blk ha6 hM6 h.ty.1.symm)
          dis := h.dis, len := by simp [h.len], ty := h.ty
          rows := fun i r' bs' h1 h2 => by
            rw [List.getElem?_append] at h1 h2
            by_cases hi : i < rs.length
            · rw [if_pos hi] at h1
              rw [if_pos (by rw [← h.len]; exact hi)] at h2
              exact h.rowsM (N := N) hu hg hs hN (.inl rfl) (h.rows i r' bs' h1 h2)
            · rw [if_neg hi] at h1
              rw [if_neg (by rw [← h.len]; exact hi)] at h2
              have e0 : i - rs.length = 0 := by
                by_cases hz : i - rs.length = 0
                · exact hz
                · rw [List.getElem?_eq_none (by simp; omega)] at h1; cases h1
              rw [e0] at h1
              rw [← h.len, e0] at h2
              simp at h1 h2
              subst h1 h2
              exact h.rowsM (N := N) hu hg hs hN (.inl rfl) hx }
/-- what stays to be read when M alone is written over -/
theorem RQ.later (h : RQ T C w M nv lv av bv st rs wr) (hk : Kept (fun k => k = M) wr w') : w'.ownsRow w.heap.size 9 1 nv st.names.length (st.names.map Value.string) ∧ w'.ownsRow w.heap.size 3 1 lv st.letters.length (st.letters.map (Value.int .i64)) ∧ w'.ownsRow w.heap.size 3 1 av st.at_.length (st.at_.map (Value.int .i64)) ∧ w'.ownsRow w.heap.size 22 1 bv st.behind.length rs ∧
    ∀ (i : Nat) (r : Value) (bs : List ByteArray), rs[i]? = some r → st.behind[i]? = some bs → LsV wr.heap.size w' r (bs.map Value.string) :=
  ⟨own_keptM h.n hk (row_blk h.n h.blk h.ty.2.1.symm), own_keptM h.l hk (row_blk h.l h.blk h.ty.1.symm), own_keptM h.a hk (row_blk h.a h.blk h.ty.1.symm), own_keptM h.b hk (row_blk h.b h.blk h.ty.2.2.symm),
    fun i r bs h1 h2 => ((h.rows i r bs h1 h2).keep (S' := fun k => k < wr.heap.size) (fun _ e => e.1) (fun k e => hk.block k e.1 (e.2.2.ne h.blk h.ty.2.1.symm))).ls (fun _ e => e)⟩
end
end Go.Proofs.YtdbpdanocpfboabGreatDoor
