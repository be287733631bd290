import Derived.Maps.OwnSet
import Derived.Test.YtdbpdanocpfboaaDoorProg
import Derived.WalkKit
import Derived.LaidEql
import Derived.Maps.AppendAt
import Derived.Deep.QuietTactic
import Derived.BigQuiet
/- A map of the call's own whose keys are told by the model's own equality (pointers, structs): what it holds, as a function; a look-up and a store. -/
namespace Go.Proofs.YtdbpdanocpfboaaDoor
open Go.MapKept

/-- Keys of one type whose equality the model tells. -/
structure KeyOk (P : Program) (kt : TypeId) (isK : World → Value → Prop) : Prop where
  check : ∀ {w : World} {k : Value}, isK w k → ∀ (e : Bool), (Instr.checkKey e 10000 kt k).run P w = .ok () w
  eq : ∀ {w : World} {a b : Value}, isK w a → isK w b → ∃ r, (Op.equal kt a b).run P w = .ok r w ∧ (r = true ↔ a = b)
  now : ∃ d, P.underlying kt = some d ∧ ∀ {w : World} {a b : Value}, isK w a → isK w b → Instr.sameNow d a b = none
  bits : ∀ {w : World} {k : Value}, isK w k → Instr.sameBits 10000 k k = true
  stay : ∀ {w : World} {b : Nat} {es es' : Array MapEntry} {c c' : Nat} {k : Value}, w.heap[b]? = some (.map es c) → isK w k → isK { w with heap := w.heap.setIfInBounds b (.map es' c') } k

section
variable {P : Program} {kt : TypeId} {isK : World → Value → Prop}

theorem findAsking_spec (K : KeyOk P kt isK) {w : World} {k : Value} (hk : isK w k) : ∀ (l : List MapEntry) (i : Nat), (∀ x ∈ l, isK w x.key) →
    ((Instr.findAsking kt k l i).run P w = .ok none w ∧ ∀ x ∈ l, x.key ≠ k) ∨ ∃ j e, (Instr.findAsking kt k l i).run P w = .ok (some (i + j, e.val)) w ∧ l[j]? = some e ∧ e.key = k
  | [], _, _ => .inl ⟨by simp [Instr.findAsking], by simp⟩
  | e :: es, i, h => by
    obtain ⟨r, hr, hiff⟩ := K.eq hk (h e (.head _))
    cases r with
    | true => exact .inr ⟨0, e, by simp [Instr.findAsking, hr, Result.andThen], rfl, (hiff.1 rfl).symm⟩
    | false =>
      have hne : e.key ≠ k := fun q => by have := hiff.2 q.symm; cases this
      rcases findAsking_spec K hk es (i + 1) (fun x hx => h x (.tail _ hx)) with ⟨h1, h2⟩ | ⟨j, e', h1, h2, h3⟩
      · exact .inl ⟨by simp [Instr.findAsking, hr, h1, Result.andThen], fun x hx => by
          cases hx with
          | head => exact hne
          | tail _ hx => exact h2 x hx⟩
      · exact .inr ⟨j + 1, e', by simp [Instr.findAsking, hr, h1, Result.andThen]; omega, by simpa using h2, h3⟩

theorem findKey_spec (K : KeyOk P kt isK) {w : World} {k : Value} (hk : isK w k) (l : List MapEntry) (h : ∀ x ∈ l, isK w x.key) :
    ((Instr.findKey kt k l).run P w = .ok none w ∧ ∀ x ∈ l, x.key ≠ k) ∨ ∃ j e, (Instr.findKey kt k l).run P w = .ok (some (j, e.val)) w ∧ l[j]? = some e ∧ e.key = k := by
  obtain ⟨d, hd, hn⟩ := K.now
  cases l with
  | nil => exact .inl ⟨by simp [Instr.findKey, run_underlying hd, Result.andThen, Instr.findNow], by simp⟩
  | cons x r =>
    have e : (Instr.findKey kt k (x :: r)).run P w = (Instr.findAsking kt k (x :: r) 0).run P w := by
      simp [Instr.findKey, run_underlying hd, Result.andThen, Instr.findNow, hn hk (h x (.head _))]
    rw [e]
    rcases findAsking_spec K hk (x :: r) 0 h with h' | ⟨j, e', h1, h2, h3⟩
    · exact .inl h'
    · exact .inr ⟨j, e', by simpa using h1, h2, h3⟩

/-- Block b is a map that holds m. -/
def Gm (isK : World → Value → Prop) (w : World) (b : Nat) (m : Value → Option Value) : Prop :=
  ∃ es clock, w.heap[b]? = some (.map es clock) ∧ (∀ x ∈ es.toList, isK w x.key) ∧ (∀ x ∈ es.toList, m x.key = some x.val) ∧
    (∀ k, m k ≠ none → ∃ x ∈ es.toList, x.key = k) ∧ (∀ (i j : Nat) (x y : MapEntry), es[i]? = some x → es[j]? = some y → x.key = y.key → i = j)

theorem Gm.made (w : World) : Gm isK (w.alloc (.map #[] 0)) w.heap.size (fun _ => none) :=
  ⟨#[], 0, (heap_alloc w _).1, by simp, by simp, by simp, by simp⟩

theorem Gm.of_block {w w' : World} {b : Nat} {m : Value → Option Value} (h : Gm isK w b m) (e : w'.heap[b]? = w.heap[b]?) (hs : ∀ k, isK w k → isK w' k) : Gm isK w' b m := by
  obtain ⟨es, clock, hb, r1, r⟩ := h
  exact ⟨es, clock, e.trans hb, fun x hx => hs _ (r1 x hx), r⟩

theorem Gm.lt {w : World} {b : Nat} {m : Value → Option Value} (h : Gm isK w b m) : b < w.heap.size := by
  obtain ⟨es, clock, hb, _⟩ := h
  exact (Array.getElem?_eq_some_iff.1 hb).1

theorem Gm.look {w : World} {b : Nat} {m : Value → Option Value} {mt et : TypeId} (h : Gm isK w b m) (K : KeyOk P kt isK) (hm : P.underlying mt = some (.map kt et)) {z : Value} (hz : (zeroValue et).run P w = .ok z w)
    {k : Value} (hk : isK w k) : (Instr.lookup mt (.map (some b)) k true).run P w = .ok (.tuple #[(m k).getD z, .bool (m k).isSome]) w := by
  obtain ⟨es, clock, hb, hks, hmem, hdom, _⟩ := h
  rcases findKey_spec K hk es.toList hks with ⟨h1, h2⟩ | ⟨j, e, h1, h2, h3⟩
  · have hn : m k = none := by
      cases hmk : m k with
      | none => rfl
      | some v =>
        obtain ⟨x, hx, e⟩ := hdom k (by rw [hmk]; simp)
        exact absurd e (h2 x hx)
    simp [Instr.lookup, run_underlying hm, MapKept.run_getObj_map hb, K.check hk, h1, hz, hn, Result.andThen]
  · have hx : e ∈ es.toList := List.mem_of_getElem? h2
    have hs : m k = some e.val := by rw [← h3]; exact hmem e hx
    simp [Instr.lookup, run_underlying hm, MapKept.run_getObj_map hb, K.check hk, h1, hs, Result.andThen]

theorem Gm.store {w : World} {b : Nat} {m : Value → Option Value} {mt et : TypeId} (h : Gm isK w b m) (K : KeyOk P kt isK) (hm : P.underlying mt = some (.map kt et)) {k : Value} (hk : isK w k) (v : Value) :
    ∃ w' m', (Instr.mapUpdate mt (.map (some b)) k v).run P w = .ok () w' ∧ Gm isK w' b m' ∧ m' k = some v ∧ (∀ k', k' ≠ k → m' k' = m k') ∧ w.grownBy w' (some b) ∧ w'.heap.size = w.heap.size := by
  obtain ⟨es, clock, hb, hks, hmem, hdom, huniq⟩ := h
  have hm' : ∃ m' : Value → Option Value, m' k = some v ∧ ∀ k', k' ≠ k → m' k' = m k' := by
    refine ⟨fun k' => @ite _ (k' = k) (Classical.propDecidable _) (some v) (m k'), by simp, fun k' hne => by simp [hne]⟩
  obtain ⟨m', e1, e2⟩ := hm'
  have hlt : b < w.heap.size := (Array.getElem?_eq_some_iff.1 hb).1
  have hgr : ∀ o, w.grownBy { w with heap := w.heap.setIfInBounds b o } (some b) := fun o =>
    ⟨rfl, rfl, rfl, by simp, fun k _ hne => (heap_set hb).2 k (fun e => hne (by rw [e]))⟩
  rcases findKey_spec K hk es.toList hks with ⟨h1, h2⟩ | ⟨j, e, h1, h2, h3⟩
  · refine ⟨{ w with heap := w.heap.setIfInBounds b (.map (es.push { key := k, val := v, born := clock }) (clock + 1)) }, m', ?_, ⟨_, _, (heap_set hb).1, ?_, ?_, ?_, ?_⟩, e1, e2, hgr _, by simp⟩
    · simp [Instr.mapUpdate, run_underlying hm, MapKept.run_getObj_map hb, K.check hk, h1, MapKept.run_setObj_map _ hb, Result.andThen]
    · intro x hx
      simp only [Array.toList_push, List.mem_append, List.mem_singleton] at hx
      rcases hx with hx | rfl
      · exact K.stay hb (hks x hx)
      · exact K.stay hb hk
    · intro x hx
      simp only [Array.toList_push, List.mem_append, List.mem_singleton] at hx
      rcases hx with hx | rfl
      · rw [e2 _ (h2 x hx)]; exact hmem x hx
      · exact e1
    · intro k' hk'
      by_cases he : k' = k
      · exact ⟨_, by simp only [Array.toList_push, List.mem_append, List.mem_singleton]; exact .inr rfl, he.symm⟩
      · rw [e2 _ he] at hk'
        obtain ⟨x, hx, e⟩ := hdom k' hk'
        exact ⟨x, by simp only [Array.toList_push, List.mem_append]; exact .inl hx, e⟩
    · intro i i' x y hi hj hxy
      rw [Array.getElem?_push] at hi hj
      split at hi <;> split at hj
      · omega
      · cases hi
        exact absurd hxy.symm (h2 y (by simpa using Array.mem_of_getElem? hj))
      · cases hj
        exact absurd hxy (h2 x (by simpa using Array.mem_of_getElem? hi))
      · exact huniq i i' x y hi hj hxy
  · have hj : es[j]? = some e := by simpa using h2
    have hjl : j < es.size := (Array.getElem?_eq_some_iff.1 hj).1
    have hget : ∀ i x, (es.modify j fun e => { e with key := k, val := v })[i]? = some x → (i = j ∧ x.key = k ∧ x.val = v) ∨ (i ≠ j ∧ es[i]? = some x) := by
      intro i x hx
      rw [Array.getElem?_modify] at hx
      split at hx
      · rename_i heq
        rw [← heq, hj] at hx
        simp at hx
        exact .inl ⟨heq.symm, by rw [← hx], by rw [← hx]⟩
      · rename_i hne
        exact .inr ⟨fun q => hne q.symm, hx⟩
    refine ⟨{ w with heap := w.heap.setIfInBounds b (.map (es.modify j fun e => { e with key := k, val := v }) clock) }, m', ?_, ⟨_, _, (heap_set hb).1, ?_, ?_, ?_, ?_⟩, e1, e2, hgr _, by simp⟩
    · have hst : (Instr.keyThatStays k k).run P w = .ok k w := by simp [Instr.keyThatStays, K.bits hk]
      simp [Instr.mapUpdate, run_underlying hm, MapKept.run_getObj_map hb, K.check hk, h1, hj, h3, hst, MapKept.run_setObj_map _ hb, Result.andThen]
    · intro x hx
      obtain ⟨i, hi⟩ := List.getElem?_of_mem hx
      rcases hget i x (by rw [← Array.getElem?_toList]; exact hi) with ⟨_, e, _⟩ | ⟨_, e⟩
      · rw [e]; exact K.stay hb hk
      · exact K.stay hb (hks x (by simpa using Array.mem_of_getElem? e))
    · intro x hx
      obtain ⟨i, hi⟩ := List.getElem?_of_mem hx
      rcases hget i x (by rw [← Array.getElem?_toList]; exact hi) with ⟨_, e, e'⟩ | ⟨hne, e'⟩
      · rw [e, e']; exact e1
      · have : x.key ≠ k := fun q => hne (huniq i j x e e' hj (q.trans h3.symm))
        rw [e2 _ this]
        exact hmem x (by simpa using Array.mem_of_getElem? e')
    · intro k' hk'
      by_cases he : k' = k
      · refine ⟨{ e with key := k, val := v }, ?_, he.symm⟩
        have : (es.modify j fun e => { e with key := k, val := v })[j]? = some { e with key := k, val := v } := by rw [Array.getElem?_modify]; simp [hj]
        exact Array.mem_toList_iff.2 (Array.mem_of_getElem? this)
      · rw [e2 _ he] at hk'
        obtain ⟨x, hx, ex⟩ := hdom k' hk'
        obtain ⟨i, hi⟩ := List.getElem?_of_mem hx
        have hij : i ≠ j := by
          intro q
          subst q
          have e4 : some x = some e := hi.symm.trans h2
          cases e4
          exact he (ex.symm.trans h3)
        have : (es.modify j fun e => { e with key := k, val := v })[i]? = some x := by rw [Array.getElem?_modify, if_neg (fun q => hij q.symm)]; simpa using hi
        exact ⟨x, Array.mem_toList_iff.2 (Array.mem_of_getElem? this), ex⟩
    · intro i i' x y hi hi' hxy
      rcases hget i x hi with ⟨a1, a2, _⟩ | ⟨a1, a2⟩ <;> rcases hget i' y hi' with ⟨b1, b2, _⟩ | ⟨b1, b2⟩
      · omega
      · exact absurd (huniq i' j y e b2 hj (by rw [← hxy, a2, h3])) b1
      · exact absurd (huniq i j x e a2 hj (by rw [hxy, b2, h3])) a1
      · exact huniq i i' x y a2 b2 hxy

/-- 'v, ok := m[k]' at the operation. -/
theorem wpList_look_gm {w : World} {ops : Array Oper} {rest : List Oper} {o : Oper} {a : Act} {Q : Exit → Act → World → Prop} (hg : o.guard = none) (mo x : Operand) (t : TypeId) (hop : o.op = Op.lookup t mo x true)
    (et : TypeId) (K : KeyOk P kt isK) (ht : P.underlying t = some (.map kt et)) (z : Value) (hz : (zeroValue et).run P w = .ok z w) (b : Nat) (m : Value → Option Value)
    (hm : a.eval mo = .map (some b)) (hown : Gm isK w b m) (key : Value) (hx : a.eval x = key) (hkey : isK w key)
    (hK : wpList P ops Q rest (a.put o.dst (.tuple #[(m key).getD z, .bool (m key).isSome])) w) :
    wpList P ops Q (o :: rest) a w := by
  refine wpList_plain hg fun K' hK' => ?_
  have hrun := hown.look K ht hz hkey
  unfold Oper.wp
  simp [execOp, hop, hm, hx, hrun, Result.andThen]
  exact hK' _ _ hK

/-- 'm[k] = v' at the operation. -/
theorem wpList_store_gm {w : World} {ops : Array Oper} {rest : List Oper} {o : Oper} {a : Act} {Q : Exit → Act → World → Prop} (hg : o.guard = none) (mo x v : Operand) (t : TypeId) (hop : o.op = Op.mapUpdate t mo x v)
    (et : TypeId) (K : KeyOk P kt isK) (ht : P.underlying t = some (.map kt et)) (b : Nat) (m : Value → Option Value)
    (hm : a.eval mo = .map (some b)) (hown : Gm isK w b m) (key val : Value) (hx : a.eval x = key) (hv : a.eval v = val) (hkey : isK w key)
    (hK : ∀ w' m', Gm isK w' b m' → m' key = some val → (∀ k', k' ≠ key → m' k' = m k') → w.grownBy w' (some b) → w'.heap.size = w.heap.size → wpList P ops Q rest (a.put o.dst undef) w') :
    wpList P ops Q (o :: rest) a w := by
  refine wpList_plain hg fun K' hK' => ?_
  obtain ⟨w', m', hrun, r1, r2, r3, r4, r5⟩ := hown.store K ht hkey val
  unfold Oper.wp
  simp [execOp, hop, hm, hx, hv, hrun, Result.andThen]
  exact hK' _ _ (hK w' m' r1 r2 r3 r4 r5)
end
end Go.Proofs.YtdbpdanocpfboaaDoor

/- The keys of the two maps of package nodes: pointers to Forms, Nodes. -/
namespace Go.Proofs.YtdbpdanocpfboaaDoor
open Go.RowKit

/-- a block of plain cells, none frozen -/
def PlainB (w : World) (b : Nat) : Prop := ∃ c t, w.heap[b]? = some (.cells c t (0, 0))
def isPtr (w : World) (v : Value) : Prop := ∃ b o, v = .pointer (some ⟨b, o, none⟩) ∧ PlainB w b
def ndV (a b c d : Int) : Value := .agg #[.int .i64 a, .int .i64 b, .int .i64 c, .int .i64 d]
def isNode (_ : World) (v : Value) : Prop := ∃ a b c d, v = ndV a b c d

theorem PlainB.of_block {w w' : World} {b : Nat} (h : PlainB w b) (e : w'.heap[b]? = w.heap[b]?) : PlainB w' b := by
  obtain ⟨c, t, h⟩ := h
  exact ⟨c, t, e.trans h⟩

theorem ptr_eq {w : World} {b o b' o' : Nat} (h : PlainB w b) (h' : PlainB w b') : (Op.equal 118 (.pointer (some ⟨b, o, none⟩)) (.pointer (some ⟨b', o', none⟩))).run Tryd.prog w = .ok ((⟨b, o, none⟩ : Addr) == ⟨b', o', none⟩) w := by
  unfold Op.equal Op.maxDepth Op.equalIn
  simp [run_underlying Tryd.underlying118, Result.andThen]
  obtain ⟨c, t, h⟩ := h
  obtain ⟨c', t', h'⟩ := h'
  by_cases he : (⟨b, o, none⟩ : Addr) = ⟨b', o', none⟩
  · rw [he, run_sameAddr_same]; simp
  · rw [run_sameAddr_other w he h h']; simp [he]

theorem ptrKey : KeyOk Tryd.prog 118 isPtr where
  check := by
    rintro w _ ⟨b, o, rfl, _⟩ e
    kernel_rfl
  eq := by
    rintro w _ _ ⟨b, o, rfl, h⟩ ⟨b', o', rfl, h'⟩
    exact ⟨(⟨b, o, none⟩ : Addr) == ⟨b', o', none⟩, ptr_eq h h', by simp⟩
  now := ⟨_, Tryd.underlying118, by
    rintro w _ _ ⟨b, o, rfl, _⟩ ⟨b', o', rfl, _⟩
    rfl⟩
  bits := by
    rintro w _ ⟨b, o, rfl, _⟩
    simp [Instr.sameBits]
  stay := by
    rintro w b es es' c c' _ hb ⟨b', o', rfl, cs, t, hp⟩
    refine ⟨b', o', rfl, cs, t, ?_⟩
    by_cases he : b' = b
    · subst he; rw [hb] at hp; cases hp
    · exact ((MapKept.heap_set hb).2 b' he).trans hp

theorem int_eq (n : Nat) (a b : Int) (w : World) : (Op.equalIn (n + 1) 3 (.int .i64 a) (.int .i64 b)).run Tryd.prog w = .ok (a == b) w := by
  simp [Op.equalIn, run_underlying Tryd.underlying3]

theorem part0 (a b c d : Int) (w : World) : (part 3 #[.int .i64 a, .int .i64 b, .int .i64 c, .int .i64 d] 0).run Tryd.prog w = .ok (.int .i64 a) w := by kernel_rfl
theorem part1 (a b c d : Int) (w : World) : (part 3 #[.int .i64 a, .int .i64 b, .int .i64 c, .int .i64 d] 1).run Tryd.prog w = .ok (.int .i64 b) w := by kernel_rfl
theorem part2 (a b c d : Int) (w : World) : (part 3 #[.int .i64 a, .int .i64 b, .int .i64 c, .int .i64 d] 2).run Tryd.prog w = .ok (.int .i64 c) w := by kernel_rfl
theorem part3 (a b c d : Int) (w : World) : (part 3 #[.int .i64 a, .int .i64 b, .int .i64 c, .int .i64 d] 3).run Tryd.prog w = .ok (.int .i64 d) w := by kernel_rfl
theorem int_eq' (a b : Int) (w : World) : (Op.equalIn 9999 3 (.int .i64 a) (.int .i64 b)).run Tryd.prog w = .ok (a == b) w := int_eq 9998 a b w

theorem node_eq (a b c d a' b' c' d' : Int) (w : World) : (Op.equal 102 (ndV a b c d) (ndV a' b' c' d')).run Tryd.prog w = .ok ((a == a') && (b == b') && (c == c') && (d == d')) w := by
  unfold Op.equal Op.maxDepth Op.equalIn ndV
  simp [run_underlying Tryd.underlying102, Result.andThen]
  by_cases h1 : a = a' <;> by_cases h2 : b = b' <;> by_cases h3 : c = c' <;> by_cases h4 : d = d' <;>
    simp [part0, part1, part2, part3, int_eq', h1, h2, h3, h4, Result.andThen]

theorem nodeKey : KeyOk Tryd.prog 102 isNode where
  check := by
    rintro w _ ⟨a, b, c, d, rfl⟩ e
    kernel_rfl
  eq := by
    rintro w _ _ ⟨a, b, c, d, rfl⟩ ⟨a', b', c', d', rfl⟩
    exact ⟨(a == a') && (b == b') && (c == c') && (d == d'), node_eq .., by simp [ndV, and_assoc]⟩
  now := ⟨_, Tryd.underlying102, by
    rintro w _ _ ⟨a, b, c, d, rfl⟩ ⟨a', b', c', d', rfl⟩
    rfl⟩
  bits := by
    rintro w _ ⟨a, b, c, d, rfl⟩
    simp [Instr.sameBits, ndV]
  stay := by
    intro w b es es' c c' k _ h
    exact h
end Go.Proofs.YtdbpdanocpfboaaDoor

/- What a call keeps: all blocks but those of a set. A List of package nodes in memory. -/
namespace Go.Proofs.YtdbpdanocpfboaaDoor
open Go.RowKit

/-- w' is w but for the blocks of S and new ones. -/
structure Kept (S : Nat → Prop) (w w' : World) : Prop where
  os : w'.os = w.os
  tape : w'.tape = w.tape
  output : w'.output = w.output
  size : w.heap.size ≤ w'.heap.size
  block : ∀ k, k < w.heap.size → ¬ S k → w'.heap[k]? = w.heap[k]?

section
variable {S T : Nat → Prop} {w w' w'' : World}
theorem Kept.refl (S : Nat → Prop) (w : World) : Kept S w w := ⟨rfl, rfl, rfl, Nat.le_refl _, fun _ _ _ => rfl⟩
theorem Kept.trans (h : Kept S w w') (h' : Kept T w' w'') (hs : ∀ k, k < w.heap.size → T k → S k) : Kept S w w'' :=
  ⟨h'.os.trans h.os, h'.tape.trans h.tape, h'.output.trans h.output, Nat.le_trans h.size h'.size, fun k hk hn =>
    (h'.block k (Nat.lt_of_lt_of_le hk h.size) (fun ht => hn (hs k hk ht))).trans (h.block k hk hn)⟩
theorem Kept.mono (h : Kept S w w') (hs : ∀ k, k < w.heap.size → S k → T k) : Kept T w w' :=
  ⟨h.os, h.tape, h.output, h.size, fun k hk hn => h.block k hk (fun hS => hn (hs k hk hS))⟩
theorem Kept.drew (h : Kept S w w') : Kept S w w'.drew := ⟨h.os, h.tape, h.output, h.size, h.block⟩
theorem Kept.drewN (h : Kept S w w') (n : Nat) : Kept S w (w'.drewN n) := ⟨h.os, h.tape, h.output, h.size, h.block⟩
theorem Kept.alloc (h : Kept S w w') (o : Obj) : Kept S w (w'.alloc o) :=
  ⟨h.os, h.tape, h.output, Nat.le_trans h.size (by simp), fun k hk hn => (Below.heap_alloc _ _ _ (Nat.lt_of_lt_of_le hk h.size)).trans (h.block k hk hn)⟩
theorem Kept.setCell (h : Kept S w w') {p : Addr} (hp : p.block < w.heap.size → S p.block) (u : Value) : Kept S w (w'.setCell p u) :=
  ⟨h.os, h.tape, h.output, Nat.le_trans h.size (by simp [World.setCell]), fun k hk hn => by
    have hne : k ≠ p.block := by
      intro e
      subst e
      exact hn (hp hk)
    rw [Below.heap_setCell _ _ _ _ hne]
    exact h.block k hk hn⟩
theorem Kept.grown (h : Kept S w w') {row : Option Nat} (hg : w'.grownBy w'' row) (hr : ∀ k, k < w.heap.size → some k = row → S k) : Kept S w w'' :=
  ⟨hg.os.trans h.os, hg.tape.trans h.tape, hg.output.trans h.output, Nat.le_trans h.size hg.size, fun k hk hn =>
    (hg.block k (Nat.lt_of_lt_of_le hk h.size) (fun e => hn (hr k hk e))).trans (h.block k hk hn)⟩
theorem Kept.of_below {B : Nat} (h : Below B w w') : Kept (fun k => B ≤ k) w w' :=
  ⟨h.os, h.tape, h.output, h.size, fun k _ hn => h.block k (by omega)⟩
theorem Kept.below (h : Kept S w w') {B : Nat} (hB : B ≤ w.heap.size) (hs : ∀ k, S k → B ≤ k) : Below B w w' :=
  ⟨h.os, h.tape, h.output, h.size, fun k hk => h.block k (by omega) (fun hS => by have := hs k hS; omega)⟩
theorem Kept.cell (h : Kept S w w') {p : Addr} (hp : p.block < w.heap.size) (hn : ¬ S p.block) : w'.cell? p = w.cell? p := World.cell?_of_block (w := w) (h.block p.block hp hn)
theorem Kept.frozen (h : Kept S w w') {p : Addr} (hp : p.block < w.heap.size) (hn : ¬ S p.block) : w'.frozen? p = w.frozen? p := World.frozen?_of_block (w := w) (h.block p.block hp hn)
end

theorem lt_of_cell {w : World} {p : Addr} {v : Value} (h : w.cell? p = some v) : p.block < w.heap.size := by
  unfold World.cell? at h
  split at h
  · rename_i h'; exact (Array.getElem?_eq_some_iff.1 h').1
  · cases h

/-- A Node. -/
structure Nd where
  op : Int
  n : Int
  l : Int
  r : Int
  deriving DecidableEq

def Nd.v (x : Nd) : Value := ndV x.op x.n x.l x.r
def Nd.cells (x : Nd) : List Value := [.int .i64 x.op, .int .i64 x.n, .int .i64 x.l, .int .i64 x.r]
theorem Nd.v_inj {x y : Nd} (h : x.v = y.v) : x = y := by
  cases x; cases y
  simpa [Nd.v, ndV] using h
def flatN (l : List Nd) : List Value := l.flatMap Nd.cells
theorem flatN_length (l : List Nd) : (flatN l).length = l.length * 4 := by
  induction l with
  | nil => rfl
  | cons x r ih =>
    have e : flatN (x :: r) = x.cells ++ flatN r := by simp [flatN]
    rw [e, List.length_append, ih, List.length_cons]
    simp [Nd.cells]
    omega
theorem flatN_append (l : List Nd) (x : Nd) : flatN (l ++ [x]) = flatN l ++ x.cells := by simp [flatN]

/-- The number of a Node in a list of them. -/
def numOf (ns : List Nd) (x : Nd) : Option Value := (ns.idxOf? x).map fun i => .int .i64 (i : Int)

/-- A List of package nodes: its block L, the slice of its Nodes nv, the block bm of its map; it holds ns. -/
structure LIn (w : World) (base L bm : Nat) (nv : Value) (ns : List Nd) : Prop where
  c0 : w.cell? ⟨L, 0, none⟩ = some nv
  c1 : w.cell? ⟨L, 1, none⟩ = some (.map (some bm))
  f0 : w.frozen? ⟨L, 0, none⟩ = false
  own : w.ownsRow base 102 4 nv ns.length (flatN ns)
  map : ∃ m, Gm isNode w bm m ∧ ∀ x : Nd, m x.v = numOf ns x
  sepL : nv.ownBlock ≠ some L
  sepM : nv.ownBlock ≠ some bm
  bL : base ≤ L
  bM : base ≤ bm
  len : ns.length ≤ 1073741824

/-- the blocks that a List lies in -/
def LSet (L bm : Nat) (nv : Value) (k : Nat) : Prop := k = L ∨ k = bm ∨ some k = nv.ownBlock

theorem ownsRow_of_block {w w' : World} {base : Nat} {e : TypeId} {size : Nat} {v : Value} {n : Nat} {xs : List Value} (h : w.ownsRow base e size v n xs) (hb : ∀ k, some k = v.ownBlock → w'.heap[k]? = w.heap[k]?) : w'.ownsRow base e size v n xs := by
  obtain ⟨h1, h2⟩ := h
  refine ⟨h1, ?_⟩
  rcases h2 with h2 | ⟨g, cap, cur, hv, hg, hh, r⟩
  · exact Or.inl h2
  · exact Or.inr ⟨g, cap, cur, hv, hg, by rw [hb g (by rw [hv]; rfl)]; exact hh, r⟩

theorem ownsRow_lt {w : World} {base : Nat} {e : TypeId} {size : Nat} {v : Value} {n : Nat} {xs : List Value} (h : w.ownsRow base e size v n xs) {k : Nat} (hk : some k = v.ownBlock) : k < w.heap.size ∧ base ≤ k := by
  obtain ⟨h1, h2⟩ := h
  rcases h2 with ⟨h2, _⟩ | ⟨g, cap, cur, hv, hg, hh, r⟩
  · subst h2; cases hk
  · subst hv
    cases hk
    exact ⟨(Array.getElem?_eq_some_iff.1 hh).1, hg⟩

theorem LIn.keep {w w' : World} {base L bm : Nat} {nv : Value} {ns : List Nd} {S : Nat → Prop} (h : LIn w base L bm nv ns) (hk : Kept S w w') (hs : ∀ k, LSet L bm nv k → ¬ S k) : LIn w' base L bm nv ns := by
  have hL : L < w.heap.size := lt_of_cell h.c0
  obtain ⟨m, hm, hx⟩ := h.map
  have hbl : ∀ k, LSet L bm nv k → k < w.heap.size → w'.heap[k]? = w.heap[k]? := fun k hk' hlt => hk.block k hlt (hs k hk')
  have e0 := hbl L (.inl rfl) hL
  exact { c0 := (World.cell?_of_block (w := w) (a := ⟨L, 0, none⟩) e0).trans h.c0
          c1 := (World.cell?_of_block (w := w) (a := ⟨L, 1, none⟩) e0).trans h.c1
          f0 := (World.frozen?_of_block (w := w) (a := ⟨L, 0, none⟩) e0).trans h.f0
          own := ownsRow_of_block h.own (fun k hk' => hbl k (.inr (.inr hk')) (ownsRow_lt h.own hk').1)
          map := ⟨m, hm.of_block (hbl bm (.inr (.inl rfl)) hm.lt) (fun _ hh => hh), hx⟩
          sepL := h.sepL, sepM := h.sepM, bL := h.bL, bM := h.bM, len := h.len }
end Go.Proofs.YtdbpdanocpfboaaDoor

/- Walks of package nodes: what is small. -/
namespace Go.Proofs.YtdbpdanocpfboaaDoor
open Go.RowKit

set_option maxHeartbeats 400000 in
theorem leaf81 (op n : Int) (w : World) : Calls Tryd.prog 81 #[.int .i64 op, .int .i64 n] w fun e w' => e = .returned (ndV op n (-1) (-1)) ∧ Kept (fun _ => False) w w' := by
  go_enter Tryd.func81, Tryd.ntmps81
  go_wp2
  exact bodyPost_ret (v := ndV op n (-1) (-1)) (by simp [results, Tryd.results81, go_sem, ndV]) rfl ⟨rfl, by repeat (first | exact Kept.refl _ _ | apply Kept.alloc)⟩

set_option maxHeartbeats 400000 in
theorem one82 (op k : Int) (w : World) : Calls Tryd.prog 82 #[.int .i64 op, .int .i64 k] w fun e w' => e = .returned (ndV op 0 k (-1)) ∧ Kept (fun _ => False) w w' := by
  go_enter Tryd.func82, Tryd.ntmps82
  go_wp2
  exact bodyPost_ret (v := ndV op 0 k (-1)) (by simp [results, Tryd.results82, go_sem, ndV]) rfl ⟨rfl, by repeat (first | exact Kept.refl _ _ | apply Kept.alloc)⟩

set_option maxHeartbeats 400000 in
theorem two83 (op k j : Int) (w : World) : Calls Tryd.prog 83 #[.int .i64 op, .int .i64 k, .int .i64 j] w fun e w' => e = .returned (ndV op 0 k j) ∧ Kept (fun _ => False) w w' := by
  go_enter Tryd.func83, Tryd.ntmps83
  go_wp2
  exact bodyPost_ret (v := ndV op 0 k j) (by simp [results, Tryd.results83, go_sem, ndV]) rfl ⟨rfl, by repeat (first | exact Kept.refl _ _ | apply Kept.alloc)⟩

set_option maxHeartbeats 400000 in
theorem new79 (w : World) : Calls Tryd.prog 79 #[] w fun e w' => e = .returned (.pointer (some ⟨w.heap.size + 1, 0, none⟩)) ∧ w' = (w.alloc (.map #[] 0)).alloc (.cells #[.slice none 0 0, .map (some w.heap.size)] 128) := by
  have hmm := @run_makeMap Tryd.prog
  go_enter Tryd.func79, Tryd.ntmps79
  go_wp2
  go_ret
  exact ⟨rfl, rfl⟩

set_option maxHeartbeats 400000 in
theorem len50 (w : World) (L : Nat) (a : Option Addr) (n c : Nat) (h : w.cell? ⟨L, 0, none⟩ = some (.slice a n c)) : Calls Tryd.prog 50 #[.pointer (some ⟨L, 0, none⟩)] w fun e w' => e = .returned (.int .i64 n) ∧ w' = w := by
  go_enter Tryd.func50, Tryd.ntmps50
  go_wp2
  go_ret
  exact ⟨rfl, rfl⟩

set_option maxHeartbeats 400000 in
theorem at56 (w : World) (L : Nat) (g n c k : Nat) (x : Nd) (h : w.cell? ⟨L, 0, none⟩ = some (.slice (some ⟨g, 0, none⟩) n c)) (hk : k < n)
    (h0 : w.cell? ⟨g, k * 4, none⟩ = some (.int .i64 x.op)) (h1 : w.cell? ⟨g, k * 4 + 1, none⟩ = some (.int .i64 x.n)) (h2 : w.cell? ⟨g, k * 4 + 2, none⟩ = some (.int .i64 x.l)) (h3 : w.cell? ⟨g, k * 4 + 3, none⟩ = some (.int .i64 x.r)) :
    Calls Tryd.prog 61 #[.pointer (some ⟨L, 0, none⟩), .int .i64 k] w fun e w' => e = .returned x.v ∧ Kept (fun _ => False) w w' := by
  have hL := lt_of_cell h
  have hg := lt_of_cell h0
  go_enter Tryd.func61, Tryd.ntmps61
  go_wp2
  exact bodyPost_ret (v := ndV x.op x.n x.l x.r) (by simp [results, Tryd.results61, go_sem, ndV]) rfl ⟨rfl, by repeat (first | exact Kept.refl _ _ | apply Kept.alloc | apply Kept.setCell)⟩
set_option maxHeartbeats 400000 in
theorem kids63_none (w : World) (x : Nd) (h : x.l = -1) : Calls Tryd.prog 63 #[x.v] w fun e w' => e = .returned (.slice none 0 0) ∧ Kept (fun _ => False) w w' := by
  obtain ⟨op, n, l, r⟩ := x
  simp only at h; subst h
  simp only [Nd.v, ndV]
  go_enter Tryd.func63, Tryd.ntmps63
  go_wp2
  go_ret
  exact ⟨rfl, by repeat (first | exact Kept.refl _ _ | apply Kept.alloc)⟩
set_option maxHeartbeats 400000 in
theorem kids63_one (w : World) (x : Nd) (h : (x.l == -1) = false) (h' : x.r = -1) : Calls Tryd.prog 63 #[x.v] w fun e w' => ∃ b, e = .returned (.slice (some ⟨b, 0, none⟩) 1 1) ∧ w.heap.size ≤ b ∧ w'.cell? ⟨b, 0, none⟩ = some (.int .i64 x.l) ∧ Kept (fun _ => False) w w' := by
  obtain ⟨op, n, l, r⟩ := x
  simp only at h h'; subst h'
  simp only [Nd.v, ndV]
  go_enter Tryd.func63, Tryd.ntmps63
  go_wp2
  go_ret
  exact ⟨w.heap.size + 1, rfl, by omega, by simp, by repeat (first | exact Kept.refl _ _ | apply Kept.alloc)⟩
set_option maxHeartbeats 400000 in
theorem kids63_two (w : World) (x : Nd) (h : (x.l == -1) = false) (h' : (x.r == -1) = false) : Calls Tryd.prog 63 #[x.v] w fun e w' => ∃ b, e = .returned (.slice (some ⟨b, 0, none⟩) 2 2) ∧ w.heap.size ≤ b ∧ w'.cell? ⟨b, 0, none⟩ = some (.int .i64 x.l) ∧ w'.cell? ⟨b, 1, none⟩ = some (.int .i64 x.r) ∧ Kept (fun _ => False) w w' := by
  obtain ⟨op, n, l, r⟩ := x
  simp only at h h'
  simp only [Nd.v, ndV]
  go_enter Tryd.func63, Tryd.ntmps63
  go_wp2
  go_ret
  exact ⟨w.heap.size + 1, rfl, by omega, by simp, by simp, by repeat (first | exact Kept.refl _ _ | apply Kept.alloc)⟩
end Go.Proofs.YtdbpdanocpfboaaDoor

/- A region that draws its order, whose operations read and whose callees make new blocks alone: one walk. -/
namespace Go.Proofs.YtdbpdanocpfboaaDoor
open Go.RowKit

def KW (w : World) : Type := {U : World // Kept (fun _ => False) w U}
instance (w : World) : Nonempty (KW w) := ⟨⟨w, Kept.refl _ _⟩⟩
theorem KW.cell {w : World} (U : KW w) {p : Addr} {v : Value} (h : w.cell? p = some v) : U.1.cell? p = some v := (U.2.cell (lt_of_cell h) (fun f => f)).trans h
theorem wp_region_quiet_kept {P : Program} {id : Nat} {Q : Exit → Act → World → Prop} {a : Act} {w : World} {l : List Oper} (hm : P.follows .mixedOrders = true) (hB : Region.lexB .any l.toArray = true)
    (h : wpQuiet P l.toArray (fun w' => ∃ U : KW w, w' = U.1) (fun a' => ∀ w', (∃ U : KW w, w' = U.1) → Q .normal a' w') l a) : (Code.region id l.toArray true).wp P Q a w :=
  wp_region_quiet (C := fun w' => ∃ U : KW w, w' = U.1) hm hB ⟨⟨w.drew, (Kept.refl _ _).drew⟩, rfl⟩ (by simpa using h)
theorem Calls.quiet_kept {P : Program} {f : FuncId} {args : Array Value} {w : World} {U : KW w} {v : Value}
    (h : Calls P f args U.1 fun e w' => Kept (fun _ => False) U.1 w' ∧ e = .returned v) : Calls P f args U.1 fun e w'' => e = .returned v ∧ ∃ U' : KW w, w'' = U'.1 :=
  h.mono fun _ w' ⟨hk, he⟩ => ⟨he, ⟨w', U.2.trans hk (fun _ _ f => f)⟩, rfl⟩
end Go.Proofs.YtdbpdanocpfboaaDoor

/- A map of the call's own whose keys are ints. -/
namespace Go.Proofs.YtdbpdanocpfboaaDoor
open Go.MapKept

/-- Keys that are found as they stand. -/
structure KeyOk2 (P : Program) (kt : TypeId) (isK : World → Value → Prop) : Prop where
  check : ∀ {w : World} {k : Value}, isK w k → ∀ (e : Bool), (Instr.checkKey e 10000 kt k).run P w = .ok () w
  find : ∀ {w : World} {k : Value}, isK w k → ∀ (l : List MapEntry), (∀ x ∈ l, isK w x.key) →
    ((Instr.findKey kt k l).run P w = .ok none w ∧ ∀ x ∈ l, x.key ≠ k) ∨ ∃ j e, (Instr.findKey kt k l).run P w = .ok (some (j, e.val)) w ∧ l[j]? = some e ∧ e.key = k
  bits : ∀ {w : World} {k : Value}, isK w k → Instr.sameBits 10000 k k = true
  stay : ∀ {w : World} {b : Nat} {es es' : Array MapEntry} {c c' : Nat} {k : Value}, w.heap[b]? = some (.map es c) → isK w k → isK { w with heap := w.heap.setIfInBounds b (.map es' c') } k
def isInt (_ : World) (v : Value) : Prop := ∃ n : Int, v = .int .i64 n
theorem findNow_int (n : Int) : ∀ (l : List MapEntry) (i : Nat), (∀ x ∈ l, ∃ q : Int, x.key = .int .i64 q) →
    (Instr.findNow (.int .i64) (.int .i64 n) l i = some none ∧ ∀ x ∈ l, x.key ≠ .int .i64 n) ∨ ∃ j e, Instr.findNow (.int .i64) (.int .i64 n) l i = some (some (i + j, e.val)) ∧ l[j]? = some e ∧ e.key = .int .i64 n
  | [], _, _ => .inl ⟨rfl, by simp⟩
  | e :: es, i, h => by
    obtain ⟨q, hq⟩ := h e (.head _)
    by_cases hn : n = q
    · exact .inr ⟨0, e, by simp [Instr.findNow, hq, Instr.sameNow, hn], rfl, by rw [hq, hn]⟩
    · have hb : (n == q) = false := by simpa using hn
      rcases findNow_int n es (i + 1) (fun x hx => h x (.tail _ hx)) with ⟨h1, h2⟩ | ⟨j, e', h1, h2, h3⟩
      · refine .inl ⟨by simp [Instr.findNow, hq, Instr.sameNow, hb, h1], fun x hx => ?_⟩
        cases hx with
        | head => rw [hq]; intro he; injection he with _ he; exact hn he.symm
        | tail _ hx => exact h2 x hx
      · exact .inr ⟨j + 1, e', by simp [Instr.findNow, hq, Instr.sameNow, hb, h1]; omega, by simpa using h2, h3⟩
theorem intKey : KeyOk2 Tryd.prog 3 isInt where
  check := by
    rintro w k ⟨n, rfl⟩ e
    exact MapKept.run_checkKey Tryd.underlying3 (by simp [MapKept.IsKey]) e 9999
  find := by
    rintro w k ⟨n, rfl⟩ l hl
    have hf : ∀ r, Instr.findNow (.int .i64) (.int .i64 n) l 0 = some r → (Instr.findKey 3 (.int .i64 n) l).run Tryd.prog w = .ok r w := by
      intro r hr
      simp [Instr.findKey, run_underlying Tryd.underlying3, Result.andThen, hr]
    rcases findNow_int n l 0 hl with ⟨h1, h2⟩ | ⟨j, e, h1, h2, h3⟩
    · exact .inl ⟨hf _ h1, h2⟩
    · exact .inr ⟨j, e, by rw [hf _ h1, Nat.zero_add], h2, h3⟩
  bits := by
    rintro w k ⟨n, rfl⟩
    simp [Instr.sameBits]
  stay := by
    rintro w b es es' c c' k _ h
    exact h

section
variable {P : Program} {kt : TypeId} {isK : World → Value → Prop}
theorem Gm.look2 {w : World} {b : Nat} {m : Value → Option Value} {mt et : TypeId} (h : Gm isK w b m) (K : KeyOk2 P kt isK) (hm : P.underlying mt = some (.map kt et)) {z : Value} (hz : (zeroValue et).run P w = .ok z w)
    {k : Value} (hk : isK w k) : (Instr.lookup mt (.map (some b)) k true).run P w = .ok (.tuple #[(m k).getD z, .bool (m k).isSome]) w := by
  obtain ⟨es, clock, hb, hks, hmem, hdom, _⟩ := h
  rcases K.find hk es.toList hks with ⟨h1, h2⟩ | ⟨j, e, h1, h2, h3⟩
  · have hn : m k = none := by
      cases hmk : m k with
      | none => rfl
      | some v =>
        obtain ⟨x, hx, e⟩ := hdom k (by rw [hmk]; simp)
        exact absurd e (h2 x hx)
    simp [Instr.lookup, run_underlying hm, MapKept.run_getObj_map hb, K.check hk, h1, hz, hn, Result.andThen]
  · have hx : e ∈ es.toList := List.mem_of_getElem? h2
    have hs : m k = some e.val := by rw [← h3]; exact hmem e hx
    simp [Instr.lookup, run_underlying hm, MapKept.run_getObj_map hb, K.check hk, h1, hs, Result.andThen]

theorem Gm.store2 {w : World} {b : Nat} {m : Value → Option Value} {mt et : TypeId} (h : Gm isK w b m) (K : KeyOk2 P kt isK) (hm : P.underlying mt = some (.map kt et)) {k : Value} (hk : isK w k) (v : Value) :
    ∃ w' m', (Instr.mapUpdate mt (.map (some b)) k v).run P w = .ok () w' ∧ Gm isK w' b m' ∧ m' k = some v ∧ (∀ k', k' ≠ k → m' k' = m k') ∧ w.grownBy w' (some b) ∧ w'.heap.size = w.heap.size := by
  obtain ⟨es, clock, hb, hks, hmem, hdom, huniq⟩ := h
  have hm' : ∃ m' : Value → Option Value, m' k = some v ∧ ∀ k', k' ≠ k → m' k' = m k' := by
    refine ⟨fun k' => @ite _ (k' = k) (Classical.propDecidable _) (some v) (m k'), by simp, fun k' hne => by simp [hne]⟩
  obtain ⟨m', e1, e2⟩ := hm'
  have hlt : b < w.heap.size := (Array.getElem?_eq_some_iff.1 hb).1
  have hgr : ∀ o, w.grownBy { w with heap := w.heap.setIfInBounds b o } (some b) := fun o =>
    ⟨rfl, rfl, rfl, by simp, fun k _ hne => (heap_set hb).2 k (fun e => hne (by rw [e]))⟩
  rcases K.find hk es.toList hks with ⟨h1, h2⟩ | ⟨j, e, h1, h2, h3⟩
  · refine ⟨{ w with heap := w.heap.setIfInBounds b (.map (es.push { key := k, val := v, born := clock }) (clock + 1)) }, m', ?_, ⟨_, _, (heap_set hb).1, ?_, ?_, ?_, ?_⟩, e1, e2, hgr _, by simp⟩
    · simp [Instr.mapUpdate, run_underlying hm, MapKept.run_getObj_map hb, K.check hk, h1, MapKept.run_setObj_map _ hb, Result.andThen]
    · intro x hx
      simp only [Array.toList_push, List.mem_append, List.mem_singleton] at hx
      rcases hx with hx | rfl
      · exact K.stay hb (hks x hx)
      · exact K.stay hb hk
    · intro x hx
      simp only [Array.toList_push, List.mem_append, List.mem_singleton] at hx
      rcases hx with hx | rfl
      · rw [e2 _ (h2 x hx)]; exact hmem x hx
      · exact e1
    · intro k' hk'
      by_cases he : k' = k
      · exact ⟨_, by simp only [Array.toList_push, List.mem_append, List.mem_singleton]; exact .inr rfl, he.symm⟩
      · rw [e2 _ he] at hk'
        obtain ⟨x, hx, e⟩ := hdom k' hk'
        exact ⟨x, by simp only [Array.toList_push, List.mem_append]; exact .inl hx, e⟩
    · intro i i' x y hi hj hxy
      rw [Array.getElem?_push] at hi hj
      split at hi <;> split at hj
      · omega
      · cases hi
        exact absurd hxy.symm (h2 y (by simpa using Array.mem_of_getElem? hj))
      · cases hj
        exact absurd hxy (h2 x (by simpa using Array.mem_of_getElem? hi))
      · exact huniq i i' x y hi hj hxy
  · have hj : es[j]? = some e := by simpa using h2
    have hjl : j < es.size := (Array.getElem?_eq_some_iff.1 hj).1
    have hget : ∀ i x, (es.modify j fun e => { e with key := k, val := v })[i]? = some x → (i = j ∧ x.key = k ∧ x.val = v) ∨ (i ≠ j ∧ es[i]? = some x) := by
      intro i x hx
      rw [Array.getElem?_modify] at hx
      split at hx
      · rename_i heq
        rw [← heq, hj] at hx
        simp at hx
        exact .inl ⟨heq.symm, by rw [← hx], by rw [← hx]⟩
      · rename_i hne
        exact .inr ⟨fun q => hne q.symm, hx⟩
    refine ⟨{ w with heap := w.heap.setIfInBounds b (.map (es.modify j fun e => { e with key := k, val := v }) clock) }, m', ?_, ⟨_, _, (heap_set hb).1, ?_, ?_, ?_, ?_⟩, e1, e2, hgr _, by simp⟩
    · have hst : (Instr.keyThatStays k k).run P w = .ok k w := by simp [Instr.keyThatStays, K.bits hk]
      simp [Instr.mapUpdate, run_underlying hm, MapKept.run_getObj_map hb, K.check hk, h1, hj, h3, hst, MapKept.run_setObj_map _ hb, Result.andThen]
    · intro x hx
      obtain ⟨i, hi⟩ := List.getElem?_of_mem hx
      rcases hget i x (by rw [← Array.getElem?_toList]; exact hi) with ⟨_, e, _⟩ | ⟨_, e⟩
      · rw [e]; exact K.stay hb hk
      · exact K.stay hb (hks x (by simpa using Array.mem_of_getElem? e))
    · intro x hx
      obtain ⟨i, hi⟩ := List.getElem?_of_mem hx
      rcases hget i x (by rw [← Array.getElem?_toList]; exact hi) with ⟨_, e, e'⟩ | ⟨hne, e'⟩
      · rw [e, e']; exact e1
      · have : x.key ≠ k := fun q => hne (huniq i j x e e' hj (q.trans h3.symm))
        rw [e2 _ this]
        exact hmem x (by simpa using Array.mem_of_getElem? e')
    · intro k' hk'
      by_cases he : k' = k
      · refine ⟨{ e with key := k, val := v }, ?_, he.symm⟩
        have : (es.modify j fun e => { e with key := k, val := v })[j]? = some { e with key := k, val := v } := by rw [Array.getElem?_modify]; simp [hj]
        exact Array.mem_toList_iff.2 (Array.mem_of_getElem? this)
      · rw [e2 _ he] at hk'
        obtain ⟨x, hx, ex⟩ := hdom k' hk'
        obtain ⟨i, hi⟩ := List.getElem?_of_mem hx
        have hij : i ≠ j := by
          intro q
          subst q
          have e4 : some x = some e := hi.symm.trans h2
          cases e4
          exact he (ex.symm.trans h3)
        have : (es.modify j fun e => { e with key := k, val := v })[i]? = some x := by rw [Array.getElem?_modify, if_neg (fun q => hij q.symm)]; simpa using hi
        exact ⟨x, Array.mem_toList_iff.2 (Array.mem_of_getElem? this), ex⟩
    · intro i i' x y hi hi' hxy
      rcases hget i x hi with ⟨a1, a2, _⟩ | ⟨a1, a2⟩ <;> rcases hget i' y hi' with ⟨b1, b2, _⟩ | ⟨b1, b2⟩
      · omega
      · exact absurd (huniq i' j y e b2 hj (by rw [← hxy, a2, h3])) b1
      · exact absurd (huniq i j x e a2 hj (by rw [hxy, b2, h3])) a1
      · exact huniq i i' x y a2 b2 hxy

/-- 'v, ok := m[k]' at the operation. -/
theorem wpList_look_gm2 {w : World} {ops : Array Oper} {rest : List Oper} {o : Oper} {a : Act} {Q : Exit → Act → World → Prop} (hg : o.guard = none) (mo x : Operand) (t : TypeId) (hop : o.op = Op.lookup t mo x true)
    (et : TypeId) (K : KeyOk2 P kt isK) (ht : P.underlying t = some (.map kt et)) (z : Value) (hz : (zeroValue et).run P w = .ok z w) (b : Nat) (m : Value → Option Value)
    (hm : a.eval mo = .map (some b)) (hown : Gm isK w b m) (key : Value) (hx : a.eval x = key) (hkey : isK w key)
    (hK : wpList P ops Q rest (a.put o.dst (.tuple #[(m key).getD z, .bool (m key).isSome])) w) :
    wpList P ops Q (o :: rest) a w := by
  refine wpList_plain hg fun K' hK' => ?_
  have hrun := hown.look2 K ht hz hkey
  unfold Oper.wp
  simp [execOp, hop, hm, hx, hrun, Result.andThen]
  exact hK' _ _ hK

/-- 'm[k] = v' at the operation. -/
theorem wpList_store_gm2 {w : World} {ops : Array Oper} {rest : List Oper} {o : Oper} {a : Act} {Q : Exit → Act → World → Prop} (hg : o.guard = none) (mo x v : Operand) (t : TypeId) (hop : o.op = Op.mapUpdate t mo x v)
    (et : TypeId) (K : KeyOk2 P kt isK) (ht : P.underlying t = some (.map kt et)) (b : Nat) (m : Value → Option Value)
    (hm : a.eval mo = .map (some b)) (hown : Gm isK w b m) (key val : Value) (hx : a.eval x = key) (hv : a.eval v = val) (hkey : isK w key)
    (hK : ∀ w' m', Gm isK w' b m' → m' key = some val → (∀ k', k' ≠ key → m' k' = m k') → w.grownBy w' (some b) → w'.heap.size = w.heap.size → wpList P ops Q rest (a.put o.dst undef) w') :
    wpList P ops Q (o :: rest) a w := by
  refine wpList_plain hg fun K' hK' => ?_
  obtain ⟨w', m', hrun, r1, r2, r3, r4, r5⟩ := hown.store2 K ht hkey val
  unfold Oper.wp
  simp [execOp, hop, hm, hx, hv, hrun, Result.andThen]
  exact hK' _ _ (hK w' m' r1 r2 r3 r4 r5)
end
end Go.Proofs.YtdbpdanocpfboaaDoor
