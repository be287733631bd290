/- A map of the call's own whose keys are told by the model's own equality (pointers, structs): what it holds, as a function; a look-up and a store. -/
import Derived.Maps.OwnSet
namespace Go.Proofs.YtdbpdanocpfboaaDoor
open Go.MapKept

/-- Keys of one type whose equality the model tells. -/
structure KeyOk (P : Program) (kt : TypeId) (isK : World → Value → Prop) : Prop where
  check : ∀ {w : World} {k : Value}, isK w k → ∀ (e : Bool), (Instr.checkKey e 10000 kt k).run P w = .ok () w
  eq : ∀ {w : World} {a b : Value}, isK w a → isK w b → ∃ r, (Op.equal kt a b).run P w = .ok r w ∧ (r = true ↔ a = b)
  now : ∃ d, P.underlying kt = some d ∧ ∀ {w : World} {a b : Value}, isK w a → isK w b → Instr.sameNow d a b = none
  bits : ∀ {w : World} {k : Value}, isK w k → Instr.sameBits 10000 k k = true
  stay : ∀ {w : World} {b : Nat} {es es' : Array MapEntry} {c c' : Nat} {k : Value}, w.heap[b]? = some (.map es c) → isK w k → isK { w with heap := w.heap.setIfInBounds b (.map es' c') } k

section
variable {P : Program} {kt : TypeId} {isK : World → Value → Prop}

theorem findAsking_spec (K : KeyOk P kt isK) {w : World} {k : Value} (hk : isK w k) : ∀ (l : List MapEntry) (i : Nat), (∀ x ∈ l, isK w x.key) →
    ((Instr.findAsking kt k l i).run P w = .ok none w ∧ ∀ x ∈ l, x.key ≠ k) ∨ ∃ j e, (Instr.findAsking kt k l i).run P w = .ok (some (i + j, e.val)) w ∧ l[j]? = some e ∧ e.key = k
  | [], _, _ => .inl ⟨by simp [Instr.findAsking], by simp⟩
  | e :: es, i, h => by
    obtain ⟨r, hr, hiff⟩ := K.eq hk (h e (.head _))
    cases r with
    | true => exact .inr ⟨0, e, by simp [Instr.findAsking, hr, Result.andThen], rfl, (hiff.1 rfl).symm⟩
    | false =>
      have hne : e.key ≠ k := fun q => by have := hiff.2 q.symm; cases this
      rcases findAsking_spec K hk es (i + 1) (fun x hx => h x (.tail _ hx)) with ⟨h1, h2⟩ | ⟨j, e', h1, h2, h3⟩
      · exact .inl ⟨by simp [Instr.findAsking, hr, h1, Result.andThen], fun x hx => by
          cases hx with
          | head => exact hne
          | tail _ hx => exact h2 x hx⟩
      · exact .inr ⟨j + 1, e', by simp [Instr.findAsking, hr, h1, Result.andThen]; omega, by simpa using h2, h3⟩

theorem findKey_spec (K : KeyOk P kt isK) {w : World} {k : Value} (hk : isK w k) (l : List MapEntry) (h : ∀ x ∈ l, isK w x.key) :
    ((Instr.findKey kt k l).run P w = .ok none w ∧ ∀ x ∈ l, x.key ≠ k) ∨ ∃ j e, (Instr.findKey kt k l).run P w = .ok (some (j, e.val)) w ∧ l[j]? = some e ∧ e.key = k := by
  obtain ⟨d, hd, hn⟩ := K.now
  cases l with
  | nil => exact .inl ⟨by simp [Instr.findKey, run_underlying hd, Result.andThen, Instr.findNow], by simp⟩
  | cons x r =>
    have e : (Instr.findKey kt k (x :: r)).run P w = (Instr.findAsking kt k (x :: r) 0).run P w := by
      simp [Instr.findKey, run_underlying hd, Result.andThen, Instr.findNow, hn hk (h x (.head _))]
    rw [e]
    rcases findAsking_spec K hk (x :: r) 0 h with h' | ⟨j, e', h1, h2, h3⟩
    · exact .inl h'
    · exact .inr ⟨j, e', by simpa using h1, h2, h3⟩

/-- Block b is a map that holds m. -/
def Gm (isK : World → Value → Prop) (w : World) (b : Nat) (m : Value → Option Value) : Prop :=
  ∃ es clock, w.heap[b]? = some (.map es clock) ∧ (∀ x ∈ es.toList, isK w x.key) ∧ (∀ x ∈ es.toList, m x.key = some x.val) ∧
    (∀ k, m k ≠ none → ∃ x ∈ es.toList, x.key = k) ∧ (∀ (i j : Nat) (x y : MapEntry), es[i]? = some x → es[j]? = some y → x.key = y.key → i = j)

theorem Gm.made (w : World) : Gm isK (w.alloc (.map #[] 0)) w.heap.size (fun _ => none) :=
  ⟨#[], 0, (heap_alloc w _).1, by simp, by simp, by simp, by simp⟩

theorem Gm.of_block {w w' : World} {b : Nat} {m : Value → Option Value} (h : Gm isK w b m) (e : w'.heap[b]? = w.heap[b]?) (hs : ∀ k, isK w k → isK w' k) : Gm isK w' b m := by
  obtain ⟨es, clock, hb, r1, r⟩ := h
  exact ⟨es, clock, e.trans hb, fun x hx => hs _ (r1 x hx), r⟩

theorem Gm.lt {w : World} {b : Nat} {m : Value → Option Value} (h : Gm isK w b m) : b < w.heap.size := by
  obtain ⟨es, clock, hb, _⟩ := h
  exact (Array.getElem?_eq_some_iff.1 hb).1

theorem Gm.look {w : World} {b : Nat} {m : Value → Option Value} {mt et : TypeId} (h : Gm isK w b m) (K : KeyOk P kt isK) (hm : P.underlying mt = some (.map kt et)) {z : Value} (hz : (zeroValue et).run P w = .ok z w)
    {k : Value} (hk : isK w k) : (Instr.lookup mt (.map (some b)) k true).run P w = .ok (.tuple #[(m k).getD z, .bool (m k).isSome]) w := by
  obtain ⟨es, clock, hb, hks, hmem, hdom, _⟩ := h
  rcases findKey_spec K hk es.toList hks with ⟨h1, h2⟩ | ⟨j, e, h1, h2, h3⟩
  · have hn : m k = none := by
      cases hmk : m k with
      | none => rfl
      | some v =>
        obtain ⟨x, hx, e⟩ := hdom k (by rw [hmk]; simp)
        exact absurd e (h2 x hx)
    simp [Instr.lookup, run_underlying hm, MapKept.run_getObj_map hb, K.check hk, h1, hz, hn, Result.andThen]
  · have hx : e ∈ es.toList := List.mem_of_getElem? h2
    have hs : m k = some e.val := by rw [← h3]; exact hmem e hx
    simp [Instr.lookup, run_underlying hm, MapKept.run_getObj_map hb, K.check hk, h1, hs, Result.andThen]

theorem Gm.store {w : World} {b : Nat} {m : Value → Option Value} {mt et : TypeId} (h : Gm isK w b m) (K : KeyOk P kt isK) (hm : P.underlying mt = some (.map kt et)) {k : Value} (hk : isK w k) (v : Value) :
    ∃ w' m', (Instr.mapUpdate mt (.map (some b)) k v).run P w = .ok () w' ∧ Gm isK w' b m' ∧ m' k = some v ∧ (∀ k', k' ≠ k → m' k' = m k') ∧ w.grownBy w' (some b) ∧ w'.heap.size = w.heap.size := by
  obtain ⟨es, clock, hb, hks, hmem, hdom, huniq⟩ := h
  have hm' : ∃ m' : Value → Option Value, m' k = some v ∧ ∀ k', k' ≠ k → m' k' = m k' := by
    refine ⟨fun k' => @ite _ (k' = k) (Classical.propDecidable _) (some v) (m k'), by simp, fun k' hne => by simp [hne]⟩
  obtain ⟨m', e1, e2⟩ := hm'
  have hlt : b < w.heap.size := (Array.getElem?_eq_some_iff.1 hb).1
  have hgr : ∀ o, w.grownBy { w with heap := w.heap.setIfInBounds b o } (some b) := fun o =>
    ⟨rfl, rfl, rfl, by simp, fun k _ hne => (heap_set hb).2 k (fun e => hne (by rw [e]))⟩
  rcases findKey_spec K hk es.toList hks with ⟨h1, h2⟩ | ⟨j, e, h1, h2, h3⟩
  · refine ⟨{ w with heap := w.heap.setIfInBounds b (.map (es.push { key := k, val := v, born := clock }) (clock + 1)) }, m', ?_, ⟨_, _, (heap_set hb).1, ?_, ?_, ?_, ?_⟩, e1, e2, hgr _, by simp⟩
    · simp [Instr.mapUpdate, run_underlying hm, MapKept.run_getObj_map hb, K.check hk, h1, MapKept.run_setObj_map _ hb, Result.andThen]
    · intro x hx
      simp only [Array.toList_push, List.mem_append, List.mem_singleton] at hx
      rcases hx with hx | rfl
      · exact K.stay hb (hks x hx)
      · exact K.stay hb hk
    · intro x hx
      simp only [Array.toList_push, List.mem_append, List.mem_singleton] at hx
      rcases hx with hx | rfl
      · rw [e2 _ (h2 x hx)]; exact hmem x hx
      · exact e1
    · intro k' hk'
      by_cases he : k' = k
      · exact ⟨_, by simp only [Array.toList_push, List.mem_append, List.mem_singleton]; exact .inr rfl, he.symm⟩
      · rw [e2 _ he] at hk'
        obtain ⟨x, hx, e⟩ := hdom k' hk'
        exact ⟨x, by simp only [Array.toList_push, List.mem_append]; exact .inl hx, e⟩
    · intro i i' x y hi hj hxy
      rw [Array.getElem?_push] at hi hj
      split at hi <;> split at hj
      · omega
      · cases hi
        exact absurd hxy.symm (h2 y (by simpa using Array.mem_of_getElem? hj))
      · cases hj
        exact absurd hxy (h2 x (by simpa using Array.mem_of_getElem? hi))
      · exact huniq i i' x y hi hj hxy
  · have hj : es[j]? = some e := by simpa using h2
    have hjl : j < es.size := (Array.getElem?_eq_some_iff.1 hj).1
    have hget : ∀ i x, (es.modify j fun e => { e with key := k, val := v })[i]? = some x → (i = j ∧ x.key = k ∧ x.val = v) ∨ (i ≠ j ∧ es[i]? = some x) := by
      intro i x hx
      rw [Array.getElem?_modify] at hx
      split at hx
      · rename_i heq
        rw [← heq, hj] at hx
        simp at hx
        exact .inl ⟨heq.symm, by rw [← hx], by rw [← hx]⟩
      · rename_i hne
        exact .inr ⟨fun q => hne q.symm, hx⟩
    refine ⟨{ w with heap := w.heap.setIfInBounds b (.map (es.modify j fun e => { e with key := k, val := v }) clock) }, m', ?_, ⟨_, _, (heap_set hb).1, ?_, ?_, ?_, ?_⟩, e1, e2, hgr _, by simp⟩
    · have hst : (Instr.keyThatStays k k).run P w = .ok k w := by simp [Instr.keyThatStays, K.bits hk]
      simp [Instr.mapUpdate, run_underlying hm, MapKept.run_getObj_map hb, K.check hk, h1, hj, h3, hst, MapKept.run_setObj_map _ hb, Result.andThen]
    · intro x hx
      obtain ⟨i, hi⟩ := List.getElem?_of_mem hx
      rcases hget i x (by rw [← Array.getElem?_toList]; exact hi) with ⟨_, e, _⟩ | ⟨_, e⟩
      · rw [e]; exact K.stay hb hk
      · exact K.stay hb (hks x (by simpa using Array.mem_of_getElem? e))
    · intro x hx
      obtain ⟨i, hi⟩ := List.getElem?_of_mem hx
      rcases hget i x (by rw [← Array.getElem?_toList]; exact hi) with ⟨_, e, e'⟩ | ⟨hne, e'⟩
      · rw [e, e']; exact e1
      · have : x.key ≠ k := fun q => hne (huniq i j x e e' hj (q.trans h3.symm))
        rw [e2 _ this]
        exact hmem x (by simpa using Array.mem_of_getElem? e')
    · intro k' hk'
      by_cases he : k' = k
      · refine ⟨{ e with key := k, val := v }, ?_, he.symm⟩
        have : (es.modify j fun e => { e with key := k, val := v })[j]? = some { e with key := k, val := v } := by rw [Array.getElem?_modify]; simp [hj]
        exact Array.mem_toList_iff.2 (Array.mem_of_getElem? this)
      · rw [e2 _ he] at hk'
        obtain ⟨x, hx, ex⟩ := hdom k' hk'
        obtain ⟨i, hi⟩ := List.getElem?_of_mem hx
        have hij : i ≠ j := by
          intro q
          subst q
          have e4 : some x = some e := hi.symm.trans h2
          cases e4
          exact he (ex.symm.trans h3)
        have : (es.modify j fun e => { e with key := k, val := v })[i]? = some x := by rw [Array.getElem?_modify, if_neg (fun q => hij q.symm)]; simpa using hi
        exact ⟨x, Array.mem_toList_iff.2 (Array.mem_of_getElem? this), ex⟩
    · intro i i' x y hi hi' hxy
      rcases hget i x hi with ⟨a1, a2, _⟩ | ⟨a1, a2⟩ <;> rcases hget i' y hi' with ⟨b1, b2, _⟩ | ⟨b1, b2⟩
      · omega
      · exact absurd (huniq i' j y e b2 hj (by rw [← hxy, a2, h3])) b1
      · exact absurd (huniq i j x e a2 hj (by rw [hxy, b2, h3])) a1
      · exact huniq i i' x y a2 b2 hxy

/-- 'v, ok := m[k]' at the operation. -/
theorem wpList_look_gm {w : World} {ops : Array Oper} {rest : List Oper} {o : Oper} {a : Act} {Q : Exit → Act → World → Prop} (hg : o.guard = none) (mo x : Operand) (t : TypeId) (hop : o.op = Op.lookup t mo x true)
    (et : TypeId) (K : KeyOk P kt isK) (ht : P.underlying t = some (.map kt et)) (z : Value) (hz : (zeroValue et).run P w = .ok z w) (b : Nat) (m : Value → Option Value)
    (hm : a.eval mo = .map (some b)) (hown : Gm isK w b m) (key : Value) (hx : a.eval x = key) (hkey : isK w key)
    (hK : wpList P ops Q rest (a.put o.dst (.tuple #[(m key).getD z, .bool (m key).isSome])) w) :
    wpList P ops Q (o :: rest) a w := by
  refine wpList_plain hg fun K' hK' => ?_
  have hrun := hown.look K ht hz hkey
  unfold Oper.wp
  simp [execOp, hop, hm, hx, hrun, Result.andThen]
  exact hK' _ _ hK

/-- 'm[k] = v' at the operation. -/
theorem wpList_store_gm {w : World} {ops : Array Oper} {rest : List Oper} {o : Oper} {a : Act} {Q : Exit → Act → World → Prop} (hg : o.guard = none) (mo x v : Operand) (t : TypeId) (hop : o.op = Op.mapUpdate t mo x v)
    (et : TypeId) (K : KeyOk P kt isK) (ht : P.underlying t = some (.map kt et)) (b : Nat) (m : Value → Option Value)
    (hm : a.eval mo = .map (some b)) (hown : Gm isK w b m) (key val : Value) (hx : a.eval x = key) (hv : a.eval v = val) (hkey : isK w key)
    (hK : ∀ w' m', Gm isK w' b m' → m' key = some val → (∀ k', k' ≠ key → m' k' = m k') → w.grownBy w' (some b) → w'.heap.size = w.heap.size → wpList P ops Q rest (a.put o.dst undef) w') :
    wpList P ops Q (o :: rest) a w := by
  refine wpList_plain hg fun K' hK' => ?_
  obtain ⟨w', m', hrun, r1, r2, r3, r4, r5⟩ := hown.store K ht hkey val
  unfold Oper.wp
  simp [execOp, hop, hm, hx, hv, hrun, Result.andThen]
  exact hK' _ _ (hK w' m' r1 r2 r3 r4 r5)
end
end Go.Proofs.YtdbpdanocpfboaaDoor
