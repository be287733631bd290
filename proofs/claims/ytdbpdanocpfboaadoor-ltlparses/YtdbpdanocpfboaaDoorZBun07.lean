import Derived.Test.YtdbpdanocpfboaaDoorZBun01
/- A region that draws its order: one obligation for each operation, whatever the order, where what is said stays true as the world goes on. -/
namespace Go.Proofs.YtdbpdanocpfboaaDoor
open Go.RowKit

def cntF (L : Array Bool) : Nat := L.toList.count false
theorem cntF_set {L : Array Bool} {i : Nat} (h : L.getD i true = false) : cntF (L.setIfInBounds i true) + 1 = cntF L := by
  have hi : i < L.size := by
    by_cases hi : i < L.size
    · exact hi
    · simp [hi] at h
  have hv : L.toList[i]'(by simpa using hi) = false := by simpa [hi] using h
  unfold cntF
  rw [Array.toList_setIfInBounds, List.count_set (by simpa using hi)]
  simp only [hv]
  have : 0 < L.toList.count false := by
    rw [List.count_pos_iff]
    exact List.mem_iff_getElem.2 ⟨i, by simpa using hi, hv⟩
  have e1 : (true == false) = false := rfl
  simp only [beq_self_eq_true, if_true, e1]
  simp only [Bool.false_eq_true, if_false]
  omega

theorem wpAny_inv {P : Program} {md : Region.Mode} {ops : Array Oper} {Q : Exit → Act → World → Prop} (I : Array Bool → Act → World → Prop)
    (hend : ∀ L a w, I L a w → Region.ready md ops L = [] → Q .normal a w)
    (hstep : ∀ L a w, I L a w → ∀ i, i ∈ Region.ready md ops L → ∀ K : Act → World → Prop, (∀ a' w', I (L.setIfInBounds i true) a' w' → K a' w') → ∀ o, ops[i]? = some o → if Region.wanted o (yielded ops a.tmps) then o.wp P a w K Q else K (a.put o.dst undef) w) :
    ∀ (fuel : Nat) (L : Array Bool) (a : Act) (w : World), I L a w → cntF L = fuel → wpAny P md ops Q fuel L a w := by
  intro fuel
  induction fuel with
  | zero =>
    intro L a w hI hc
    have hr : Region.ready md ops L = [] := by
      cases hr : Region.ready md ops L with
      | nil => rfl
      | cons i r =>
        have hi : i ∈ Region.ready md ops L := by rw [hr]; simp
        have := cntF_set (mem_ready.1 hi).1
        omega
    exact ⟨hr, hend L a w hI hr⟩
  | succ fuel ih =>
    intro L a w hI hc
    refine ⟨fun h0 => hend L a w hI h0, fun i hi => ?_⟩
    obtain ⟨hL, o, ho, _⟩ := mem_ready.1 hi
    have h := hstep L a w hI i hi (wpAny P md ops Q fuel (L.setIfInBounds i true)) (fun a' w' h' => ih _ a' w' h' (by have := cntF_set hL; omega)) o ho
    unfold wpOp
    simp only [ho]
    split
    · rename_i hw
      rw [if_pos hw] at h
      exact .inl h
    · rename_i hw
      rw [if_neg hw] at h
      exact h

/-- the values of a region laid into its slots, in the text's order -/
def puts : Act → List Nat → Nat → (Nat → Value) → Act
  | a, [], _, _ => a
  | a, d :: r, k, f => puts (a.put (some d) (f k)) r (k + 1) f
/-- the values of those that have come up -/
def fillT (D : List Nat) (f : Nat → Value) (L : Nat → Bool) (t : Array Value) : Array Value :=
  t.mapIdx fun i v => match D.idxOf? i with
    | some j => if L j then f j else v
    | none => v

theorem idx_get {D : List Nat} (hn : D.Nodup) {j d : Nat} (h : D[j]? = some d) : D.idxOf? d = some j := by
  obtain ⟨hj, rfl⟩ := List.getElem?_eq_some_iff.1 h
  rw [List.idxOf?_eq_some_iff]
  refine ⟨hj, by simp, fun k hk => ?_⟩
  intro e
  exact (List.pairwise_iff_getElem.1 hn) k j (by omega) hj hk (by simpa using e)
theorem idx_some {D : List Nat} {j d : Nat} (h : D.idxOf? d = some j) : D[j]? = some d := by
  rw [List.idxOf?_eq_some_iff] at h
  obtain ⟨hj, e, _⟩ := h
  rw [List.getElem?_eq_getElem hj]
  simpa using e

theorem puts_get {f : Nat → Value} {i : Nat} : ∀ (D : List Nat) (k : Nat) (a : Act), D.Nodup → (puts a D k f).tmps.size = a.tmps.size ∧ (puts a D k f).defers = a.defers ∧ (puts a D k f).tmps[i]? = match D.idxOf? i with
    | some j => if i < a.tmps.size then some (f (k + j)) else none
    | none => a.tmps[i]?
  | [], k, a, _ => by simp [puts]
  | d :: r, k, a, hn => by
    have hn' := List.nodup_cons.1 hn
    have ih := puts_get (f := f) (i := i) r (k + 1) (a.put (some d) (f k)) hn'.2
    simp only [puts]
    refine ⟨ih.1.trans (by simp [Act.put]), ih.2.1.trans rfl, ih.2.2.trans ?_⟩
    by_cases e : d = i
    · subst e
      have h1 : r.idxOf? d = none := by rw [List.idxOf?_eq_none_iff]; exact hn'.1
      have h2 : (d :: r).idxOf? d = some 0 := by simp [List.idxOf?_cons]
      rw [h1, h2]
      simp only [Act.put, Nat.add_zero]
      rw [Array.getElem?_setIfInBounds]
      simp
    · have h2 : (d :: r).idxOf? i = (r.idxOf? i).map (· + 1) := by simp [List.idxOf?_cons, e]
      rw [h2]
      cases hr : r.idxOf? i with
      | none =>
        simp only [Option.map_none, Act.put]
        rw [Array.getElem?_setIfInBounds, if_neg e]
      | some j =>
        simp only [Option.map_some, Act.put, Array.size_setIfInBounds]
        rw [show k + 1 + j = k + (j + 1) by omega]
theorem fill_all {D : List Nat} {f : Nat → Value} {a : Act} (hn : D.Nodup) {L : Nat → Bool} (hL : ∀ j, j < D.length → L j = true) : ({ a with tmps := fillT D f L a.tmps } : Act) = puts a D 0 f := by
  have hp := fun i => puts_get (f := f) (i := i) D 0 a hn
  have ht : fillT D f L a.tmps = (puts a D 0 f).tmps := by
    apply Array.ext_getElem?
    intro i
    rw [(hp i).2.2, fillT, Array.getElem?_mapIdx]
    cases hd : D.idxOf? i with
    | none => simp
    | some j =>
      have hj : j < D.length := (List.getElem?_eq_some_iff.1 (idx_some hd)).1
      simp only [hL j hj, if_true, Nat.zero_add]
      by_cases hi : i < a.tmps.size
      · simp [hi]
      · simp [hi]
  have hd := (hp 0).2.1
  rw [ht, ← hd]
theorem fill_none {D : List Nat} {f : Nat → Value} {t : Array Value} {L : Nat → Bool} (hL : ∀ j, j < D.length → L j = false) : fillT D f L t = t := by
  apply Array.ext_getElem?
  intro i
  rw [fillT, Array.getElem?_mapIdx]
  cases hd : D.idxOf? i with
  | none => simp
  | some j =>
    have hj : j < D.length := (List.getElem?_eq_some_iff.1 (idx_some hd)).1
    simp [hL j hj]
theorem fill_set {D : List Nat} {f : Nat → Value} {t : Array Value} {L : Nat → Bool} (hn : D.Nodup) {j d : Nat} (hj : D[j]? = some d) (v : Value) :
    (fillT D f L t).setIfInBounds d v = fillT D (fun k => if k = j then v else f k) (fun k => if k = j then true else L k) t := by
  apply Array.ext_getElem?
  intro i
  rw [Array.getElem?_setIfInBounds, fillT, fillT, Array.getElem?_mapIdx, Array.getElem?_mapIdx]
  by_cases e : d = i
  · subst e
    rw [if_pos rfl, idx_get hn hj]
    by_cases hi : d < t.size
    · simp [hi]
    · simp [hi]
  · rw [if_neg e]
    cases hd : D.idxOf? i with
    | none => simp
    | some k =>
      have hk : k ≠ j := fun h => by
        subst h
        have := idx_some hd
        rw [hj] at this
        exact e (Option.some.inj this)
      simp [hk]
theorem fill_other {D : List Nat} {f : Nat → Value} {t : Array Value} {L : Nat → Bool} {s : Nat} (hs : s ∉ D) : (fillT D f L t).getD s undef = t.getD s undef := by
  have : (fillT D f L t)[s]? = t[s]? := by
    rw [fillT, Array.getElem?_mapIdx, List.idxOf?_eq_none_iff.2 hs]
    simp
  simp only [Array.getD_eq_getD_getElem?, this]
theorem fill_done {D : List Nat} {f : Nat → Value} {t : Array Value} {L : Nat → Bool} (hn : D.Nodup) {j d : Nat} (hj : D[j]? = some d) (hd : d < t.size) (hL : L j = true) : (fillT D f L t).getD d undef = f j := by
  have : (fillT D f L t)[d]? = some (f j) := by
    rw [fillT, Array.getElem?_mapIdx, idx_get hn hj]
    simp [hd, hL]
  simp only [Array.getD_eq_getD_getElem?, this, Option.getD_some]

/-- each operation waits for earlier ones alone -/
def afterB (l : List Oper) : Bool := (List.range l.length).all fun i => match l[i]? with
  | some o => o.after.all fun e => !Region.binds .any e || decide (e.on < i)
  | none => true

/-- what is asked of an operation: where the others that it waits for have come up, it answers as said; le: how the world may go on -/
def StepR (P : Program) (Q : Exit → Act → World → Prop) (le : World → World → Prop) (a0 : Act) (w : World) (D : List Nat) (R : Nat → Value → World → Prop) (i : Nat) (o : Oper) : Prop :=
  ∀ (a : Act) (W : World), le w W → (∀ s, s ∉ D → a.eval (.tmp s) = a0.eval (.tmp s)) →
    (∀ e ∈ o.after, Region.binds .any e = true → ∀ d, D[e.on]? = some d → R e.on (a.eval (.tmp d)) W) →
    ∀ K : Act → World → Prop, (∀ v W', le W W' → R i v W' → K (a.put o.dst v) W') → o.wp P a W K Q
def StepsR (P : Program) (Q : Exit → Act → World → Prop) (le : World → World → Prop) (a0 : Act) (w : World) (D : List Nat) (R : Nat → Value → World → Prop) : List Oper → Nat → Prop
  | [], _ => True
  | o :: r, i => StepR P Q le a0 w D R i o ∧ StepsR P Q le a0 w D R r (i + 1)
theorem StepsR.get {P : Program} {Q : Exit → Act → World → Prop} {le : World → World → Prop} {a0 : Act} {w : World} {D : List Nat} {R : Nat → Value → World → Prop} {l : List Oper} : ∀ {k : Nat}, StepsR P Q le a0 w D R l k → ∀ {i : Nat} {o : Oper}, l[i]? = some o → StepR P Q le a0 w D R (k + i) o := by
  induction l with
  | nil => intro k _ i o e; simp at e
  | cons x r ih =>
    intro k h i o e
    obtain ⟨h1, h2⟩ := h
    cases i with
    | zero =>
      rw [List.getElem?_cons_zero] at e
      cases e
      exact h1
    | succ i =>
      rw [List.getElem?_cons_succ] at e
      have := ih h2 e
      rwa [show k + 1 + i = k + (i + 1) by omega] at this

theorem wp_region_le {P : Program} {id : Nat} {Q : Exit → Act → World → Prop} {a0 : Act} {w : World} {l : List Oper} (le : World → World → Prop) (D : List Nat) (R : Nat → Value → World → Prop) (hm : P.follows .mixedOrders = true)
    (hD : l.map (·.dst) = D.map some) (hn : D.Nodup) (hg : l.all (fun o => o.guard.isNone) = true) (hb : D.all (fun d => decide (d < a0.tmps.size)) = true) (ha : afterB l = true)
    (htr : ∀ a b c, le a b → le b c → le a c) (hdrew : le w w.drew)
    (hmono : ∀ i v W W', le W W' → R i v W → R i v W')
    (hstep : StepsR P Q le a0 w D R l 0)
    (hend : ∀ (f : Nat → Value) (W : World), le w W → (∀ i, i < l.length → R i (f i) W) → Q .normal (puts a0 D 0 f) W) : (Code.region id l.toArray true).wp P Q a0 w := by
  have hlen : l.length = D.length := by simpa using congrArg List.length hD
  have hdst : ∀ (i : Nat) (o : Oper), l[i]? = some o → ∃ d, D[i]? = some d ∧ o.dst = some d := by
    intro i o ho
    have hi := (List.getElem?_eq_some_iff.1 ho).1
    have h1 : (l.map (·.dst))[i]? = some o.dst := by simp [ho]
    rw [hD, List.getElem?_map] at h1
    cases hd : D[i]? with
    | none => rw [hd] at h1; simp at h1
    | some d => rw [hd] at h1; exact ⟨d, rfl, (Option.some.inj h1).symm⟩
  have hrep : ∀ j, (Array.replicate l.toArray.size false).getD j false = false := by
    intro j
    rw [Array.getD_eq_getD_getElem?, Array.getElem?_replicate]
    split <;> rfl
  refine wp_region_any hm ?_
  refine wpAny_inv (fun L a W => le w W ∧ L.size = l.length ∧ ∃ f : Nat → Value, a = { a0 with tmps := fillT D f (fun j => L.getD j false) a0.tmps } ∧ ∀ i, i < l.length → L.getD i false = true → R i (f i) W) ?_ ?_ _ _ _ _ ?_ ?_
  · rintro L a W ⟨hk, hs, f, rfl, hR⟩ hr
    have hall : ∀ n i, i < n → i < l.length → L.getD i false = true := by
      intro n
      induction n with
      | zero => intro i hi; omega
      | succ n ih =>
        intro i hi hil
        cases hv : L.getD i false with
        | true => rfl
        | false =>
          exfalso
          have : i ∈ Region.ready .any l.toArray L := by
            refine mem_ready.2 ⟨?_, l[i], by simp [hil], fun e he hbd => ?_⟩
            · have h1 : i < L.size := by omega
              simpa [h1] using hv
            · have h2 : e.on < i := by
                have h3 := List.all_eq_true.1 ha i (by simpa using hil)
                rw [List.getElem?_eq_getElem hil] at h3
                have h4 := Array.all_eq_true_iff_forall_mem.1 h3 e he
                simpa [hbd] using h4
              exact ih e.on (by omega) (by omega)
          rw [hr] at this
          cases this
    rw [fill_all hn (fun j hj => hall (j + 1) j (by omega) (by omega))]
    exact hend f W hk (fun i hi => hR i hi (hall (i + 1) i (by omega) hi))
  · rintro L a W ⟨hk, hs, f, rfl, hR⟩ i hi K hK o ho
    have hol : l[i]? = some o := by simpa using ho
    have hil : i < l.length := (List.getElem?_eq_some_iff.1 hol).1
    obtain ⟨d, hd, hod⟩ := hdst i o hol
    have hgo : o.guard = none := by
      have := List.all_eq_true.1 hg o (List.mem_of_getElem? hol)
      simpa using this
    have hw : Region.wanted o (yielded l.toArray ({ a0 with tmps := fillT D f (fun j => L.getD j false) a0.tmps } : Act).tmps) = true := by simp [Region.wanted, hgo]
    rw [if_pos hw]
    obtain ⟨_, o', ho', hdeps⟩ := mem_ready.1 hi
    rw [ho] at ho'
    cases ho'
    have hst := hstep.get hol
    rw [Nat.zero_add] at hst
    refine hst _ W hk (fun s hs => ?_) (fun e he hbd d' hd' => ?_) K (fun v W' hk' hv => hK _ _ ⟨htr _ _ _ hk hk', by simpa using hs, fun k => if k = i then v else f k, ?_, fun k hkl hLk => ?_⟩)
    · simp only [Act.eval]
      exact fill_other hs
    · have hdl : d' < a0.tmps.size := by
        have := List.all_eq_true.1 hb d' (List.mem_of_getElem? hd')
        simpa using this
      have hel : e.on < l.length := by rw [hlen]; exact (List.getElem?_eq_some_iff.1 hd').1
      have e1 : (({ a0 with tmps := fillT D f (fun j => L.getD j false) a0.tmps } : Act).eval (.tmp d')) = f e.on := fill_done hn hd' hdl (hdeps e he hbd)
      rw [e1]
      exact hR e.on hel (hdeps e he hbd)
    · simp only [hod, Act.put]
      rw [fill_set hn hd]
      congr 2
      funext k
      by_cases hki : k = i
      · subst hki
        have : k < L.size := by omega
        simp [this]
      · simp [hki, Ne.symm hki]
    · by_cases hki : k = i
      · subst hki
        simpa using hv
      · simp only [hki, if_false]
        refine hmono k _ W W' hk' (hR k hkl ?_)
        simpa [Array.getElem?_setIfInBounds, Ne.symm hki] using hLk
  · refine ⟨hdrew, by simp, fun _ => undef, ?_, fun i hi hL => ?_⟩
    · rw [fill_none (fun j hj => hrep j)]
    · rw [hrep i] at hL; cases hL
  · simp [cntF]

theorem wp_region_grow {P : Program} {id : Nat} {Q : Exit → Act → World → Prop} {a0 : Act} {w : World} {l : List Oper} (D : List Nat) (R : Nat → Value → World → Prop) (hm : P.follows .mixedOrders = true)
    (hD : l.map (·.dst) = D.map some) (hn : D.Nodup) (hg : l.all (fun o => o.guard.isNone) = true) (hb : D.all (fun d => decide (d < a0.tmps.size)) = true) (ha : afterB l = true)
    (hmono : ∀ i v W W', Kept (fun _ => False) W W' → R i v W → R i v W')
    (hstep : StepsR P Q (Kept (fun _ => False)) a0 w D R l 0)
    (hend : ∀ (f : Nat → Value) (W : World), Kept (fun _ => False) w W → (∀ i, i < l.length → R i (f i) W) → Q .normal (puts a0 D 0 f) W) : (Code.region id l.toArray true).wp P Q a0 w :=
  wp_region_le (Kept (fun _ => False)) D R hm hD hn hg hb ha (fun _ _ _ h h' => h.trans h' (fun _ _ f => f)) ((Kept.refl _ _).drew) hmono hstep hend
theorem wp_value {P : Program} {o : Oper} {a : Act} {W W' : World} {K : Act → World → Prop} {Q : Exit → Act → World → Prop} {v : Value} (h : (execOp a.eval o).run P W = .ok (.value v) W') (hK : K (a.put o.dst v) W') : o.wp P a W K Q := by
  unfold Oper.wp; rw [h]; exact hK
theorem wp_enter {P : Program} {o : Oper} {a : Act} {W W' : World} {K : Act → World → Prop} {Q : Exit → Act → World → Prop} {f : FuncId} {args : Array Value} {R : Ending → World → Prop} (h : (execOp a.eval o).run P W = .ok (.enter f args) W') (hc : Calls P f args W' R) (hK : ∀ e w', R e w' → ∃ v, e = .returned v ∧ K (a.put o.dst v) w') : o.wp P a W K Q := by
  unfold Oper.wp
  rw [h]
  refine Calls.mono hc (fun e w' he => ?_)
  obtain ⟨v, rfl, hk⟩ := hK e w' he
  exact hk

end Go.Proofs.YtdbpdanocpfboaaDoor

/- A region that draws its order, with stores: one obligation for each operation; what the steps weigh is counted. -/
namespace Go.Proofs.YtdbpdanocpfboaaDoor
open Go.RowKit

/-- the slots of a region's operations; one that stores alone has a number that is none of a slot -/
def dstB (n : Nat) (l : List Oper) (D : List Nat) : Bool := l.length == D.length && (l.zip D).all fun p => match p.1.dst with
  | some e => e == p.2 && decide (p.2 < n)
  | none => decide (n ≤ p.2)
theorem dstB_get {n : Nat} {l : List Oper} {D : List Nat} (h : dstB n l D = true) : l.length = D.length ∧ ∀ (i : Nat) (o : Oper), l[i]? = some o → ∃ d, D[i]? = some d ∧ ((o.dst = some d ∧ d < n) ∨ (o.dst = none ∧ n ≤ d)) := by
  simp only [dstB, Bool.and_eq_true, beq_iff_eq] at h
  refine ⟨h.1, fun i o ho => ?_⟩
  have hi := (List.getElem?_eq_some_iff.1 ho).1
  have hiD : i < D.length := by omega
  refine ⟨D[i], List.getElem?_eq_getElem hiD, ?_⟩
  have hm : (o, D[i]) ∈ l.zip D := by
    refine List.mem_of_getElem? (i := i) ?_
    rw [List.getElem?_zip_eq_some]
    exact ⟨ho, List.getElem?_eq_getElem hiD⟩
  have := List.all_eq_true.1 h.2 _ hm
  simp only at this
  cases hd : o.dst with
  | none => rw [hd] at this; exact .inr ⟨rfl, by simpa using this⟩
  | some e =>
    rw [hd] at this
    simp only [Bool.and_eq_true, beq_iff_eq, decide_eq_true_eq] at this
    exact .inl ⟨by rw [this.1], this.2⟩
/-- what those weigh that have not come up -/
def wsum : List Nat → List Bool → Nat
  | w :: ws, b :: bs => (if b = true then 0 else w) + wsum ws bs
  | _, _ => 0
theorem wsum_set : ∀ (ws : List Nat) (L : List Bool) (i : Nat), L[i]? = some false → wsum ws (L.set i true) + ws.getD i 0 = wsum ws L
  | [], L, i, h => by simp [wsum]
  | w :: ws, [], i, h => by simp at h
  | w :: ws, b :: bs, 0, h => by
    simp at h
    subst h
    simp [wsum]
    omega
  | w :: ws, b :: bs, i + 1, h => by
    have := wsum_set ws bs i (by simpa using h)
    simp only [List.set_cons_succ, wsum, List.getD_cons_succ]
    omega
theorem wsum_done : ∀ (ws : List Nat) (L : List Bool), (∀ b ∈ L, b = true) → wsum ws L = 0
  | [], L, h => by simp [wsum]
  | w :: ws, [], h => rfl
  | w :: ws, b :: bs, h => by
    simp only [wsum, h b (by simp), if_true, Nat.zero_add]
    exact wsum_done ws bs (fun x hx => h x (by simp [hx]))
theorem wsum_new : ∀ (ws : List Nat), wsum ws (List.replicate ws.length false) = ws.sum
  | [] => rfl
  | w :: ws => by simp [List.replicate_succ, wsum, wsum_new ws]
/-- what is asked of an operation -/
def StepJ (P : Program) (Q : Exit → Act → World → Prop) (J : Nat → World → Prop) (le : World → World → Prop) (a0 : Act) (D : List Nat) (R : Nat → Value → World → Prop) (ws : List Nat) (i : Nat) (o : Oper) : Prop :=
  ∀ (n : Nat) (a : Act) (W : World), n + ws.getD i 0 ≤ ws.sum → J n W → (∀ s, s ∉ D → a.eval (.tmp s) = a0.eval (.tmp s)) →
    (∀ e ∈ o.after, Region.binds .any e = true → ∀ d, D[e.on]? = some d → d < a0.tmps.size → R e.on (a.eval (.tmp d)) W) →
    ∀ K : Act → World → Prop, (∀ v W', J (n + ws.getD i 0) W' → le W W' → R i v W' → K (a.put o.dst v) W') → o.wp P a W K Q
def StepsJ (P : Program) (Q : Exit → Act → World → Prop) (J : Nat → World → Prop) (le : World → World → Prop) (a0 : Act) (D : List Nat) (R : Nat → Value → World → Prop) (ws : List Nat) : List Oper → Nat → Prop
  | [], _ => True
  | o :: r, i => StepJ P Q J le a0 D R ws i o ∧ StepsJ P Q J le a0 D R ws r (i + 1)
theorem StepsJ.get {P : Program} {Q : Exit → Act → World → Prop} {J : Nat → World → Prop} {le : World → World → Prop} {a0 : Act} {D : List Nat} {R : Nat → Value → World → Prop} {ws : List Nat} {l : List Oper} : ∀ {k : Nat}, StepsJ P Q J le a0 D R ws l k → ∀ {i : Nat} {o : Oper}, l[i]? = some o → StepJ P Q J le a0 D R ws (k + i) o := by
  induction l with
  | nil => intro k _ i o e; simp at e
  | cons x r ih =>
    intro k h i o e
    obtain ⟨h1, h2⟩ := h
    cases i with
    | zero =>
      rw [List.getElem?_cons_zero] at e
      cases e
      exact h1
    | succ i =>
      rw [List.getElem?_cons_succ] at e
      have := ih h2 e
      rwa [show k + 1 + i = k + (i + 1) by omega] at this
theorem fillT_size (D : List Nat) (f : Nat → Value) (L : Nat → Bool) (t : Array Value) : (fillT D f L t).size = t.size := by simp [fillT]

theorem wp_region_J {P : Program} {id : Nat} {Q : Exit → Act → World → Prop} {a0 : Act} {w : World} {l : List Oper} (J : Nat → World → Prop) (le : World → World → Prop) (D : List Nat) (R : Nat → Value → World → Prop) (ws : List Nat) (hm : P.follows .mixedOrders = true)
    (hD : dstB a0.tmps.size l D = true) (hn : D.Nodup) (hg : l.all (fun o => o.guard.isNone) = true) (ha : afterB l = true) (hws : ws.length = l.length)
    (hJ : J 0 w.drew)
    (hmono : ∀ i v W W', le W W' → R i v W → R i v W')
    (hstep : StepsJ P Q J le a0 D R ws l 0)
    (hend : ∀ (f : Nat → Value) (W : World), J ws.sum W → (∀ i, i < l.length → R i (f i) W) → Q .normal (puts a0 D 0 f) W) : (Code.region id l.toArray true).wp P Q a0 w := by
  obtain ⟨hlen, hdst⟩ := dstB_get hD
  have hrep : ∀ j, (Array.replicate l.toArray.size false).getD j false = false := by
    intro j
    rw [Array.getD_eq_getD_getElem?, Array.getElem?_replicate]
    split <;> rfl
  refine wp_region_any hm ?_
  refine wpAny_inv (fun L a W => (∃ n, n + wsum ws L.toList = ws.sum ∧ J n W) ∧ L.size = l.length ∧ ∃ f : Nat → Value, a = { a0 with tmps := fillT D f (fun j => L.getD j false) a0.tmps } ∧ ∀ i, i < l.length → L.getD i false = true → R i (f i) W) ?_ ?_ _ _ _ _ ?_ ?_
  · rintro L a W ⟨⟨n, hc, hk⟩, hs, f, rfl, hR⟩ hr
    have hall : ∀ n i, i < n → i < l.length → L.getD i false = true := by
      intro n
      induction n with
      | zero => intro i hi; omega
      | succ n ih =>
        intro i hi hil
        cases hv : L.getD i false with
        | true => rfl
        | false =>
          exfalso
          have : i ∈ Region.ready .any l.toArray L := by
            refine mem_ready.2 ⟨?_, l[i], by simp [hil], fun e he hbd => ?_⟩
            · have h1 : i < L.size := by omega
              simpa [h1] using hv
            · have h2 : e.on < i := by
                have h3 := List.all_eq_true.1 ha i (by simpa using hil)
                rw [List.getElem?_eq_getElem hil] at h3
                have h4 := Array.all_eq_true_iff_forall_mem.1 h3 e he
                simpa [hbd] using h4
              exact ih e.on (by omega) (by omega)
          rw [hr] at this
          cases this
    have hz : wsum ws L.toList = 0 := by
      refine wsum_done _ _ (fun b hb => ?_)
      obtain ⟨i, hi, e⟩ := List.mem_iff_getElem.1 hb
      have hi' : i < L.size := by simpa using hi
      have := hall (i + 1) i (by omega) (by omega)
      simp [hi'] at this
      simp [this] at e
      exact e
    have hN : n = ws.sum := by omega
    subst hN
    rw [fill_all hn (fun j hj => hall (j + 1) j (by omega) (by omega))]
    exact hend f W hk (fun i hi => hR i hi (hall (i + 1) i (by omega) hi))
  · rintro L a W ⟨⟨n, hc, hk⟩, hs, f, rfl, hR⟩ i hi K hK o ho
    have hol : l[i]? = some o := by simpa using ho
    have hil : i < l.length := (List.getElem?_eq_some_iff.1 hol).1
    obtain ⟨d, hd, hod⟩ := hdst i o hol
    have hgo : o.guard = none := by
      have := List.all_eq_true.1 hg o (List.mem_of_getElem? hol)
      simpa using this
    have hw : Region.wanted o (yielded l.toArray ({ a0 with tmps := fillT D f (fun j => L.getD j false) a0.tmps } : Act).tmps) = true := by simp [Region.wanted, hgo]
    rw [if_pos hw]
    obtain ⟨hLi, o', ho', hdeps⟩ := mem_ready.1 hi
    rw [ho] at ho'
    cases ho'
    have hst := hstep.get hol
    rw [Nat.zero_add] at hst
    have hcs : wsum ws (L.setIfInBounds i true).toList + ws.getD i 0 = wsum ws L.toList := by
      have hi2 : i < L.size := by omega
      rw [Array.toList_setIfInBounds]
      refine wsum_set _ _ _ ?_
      rw [Array.getElem?_toList]
      have : L[i] = false := by simpa [hi2] using hLi
      simp [hi2, this]
    refine hst n _ W (by omega) hk (fun s hs => ?_) (fun e he hbd d' hd' hdl => ?_) K (fun v W' hj hk' hv => hK _ _ ⟨⟨n + ws.getD i 0, by omega, hj⟩, by simpa using hs, fun k => if k = i then v else f k, ?_, fun k hkl hLk => ?_⟩)
    · simp only [Act.eval]
      exact fill_other hs
    · have hel : e.on < l.length := by rw [hlen]; exact (List.getElem?_eq_some_iff.1 hd').1
      have e1 : (({ a0 with tmps := fillT D f (fun j => L.getD j false) a0.tmps } : Act).eval (.tmp d')) = f e.on := fill_done hn hd' hdl (hdeps e he hbd)
      rw [e1]
      exact hR e.on hel (hdeps e he hbd)
    · have e1 : ({ a0 with tmps := fillT D f (fun j => L.getD j false) a0.tmps } : Act).put o.dst v = { a0 with tmps := (fillT D f (fun j => L.getD j false) a0.tmps).setIfInBounds d v } := by
        rcases hod with ⟨hod, _⟩ | ⟨hod, hge⟩
        · rw [hod]; rfl
        · rw [hod]
          simp only [Act.put]
          rw [Array.setIfInBounds_eq_of_size_le (by rw [fillT_size]; exact hge)]
      rw [e1, fill_set hn hd]
      congr 2
      funext k
      by_cases hki : k = i
      · subst hki
        have : k < L.size := by omega
        simp [this]
      · simp [hki, Ne.symm hki]
    · by_cases hki : k = i
      · subst hki
        simpa using hv
      · simp only [hki, if_false]
        refine hmono k _ W W' hk' (hR k hkl ?_)
        simpa [Array.getElem?_setIfInBounds, Ne.symm hki] using hLk
  · refine ⟨⟨0, ?_, hJ⟩, by simp, fun _ => undef, ?_, fun i hi hL => ?_⟩
    · have e : (Array.replicate l.toArray.size false).toList = List.replicate ws.length false := by rw [hws]; simp
      rw [e, wsum_new, Nat.zero_add]
    · rw [fill_none (fun j hj => hrep j)]
    · rw [hrep i] at hL; cases hL
  · simp [cntF]
end Go.Proofs.YtdbpdanocpfboaaDoor

/- A region that draws its order, with stores: one obligation for each operation; which have come up is known. -/
namespace Go.Proofs.YtdbpdanocpfboaaDoor
open Go.RowKit

/-- which have come up, and one more -/
def upF (F : Nat → Bool) (i : Nat) : Nat → Bool := fun k => if k = i then true else F k
/-- what is asked of an operation -/
def StepF (P : Program) (Q : Exit → Act → World → Prop) (J : (Nat → Bool) → World → Prop) (le : World → World → Prop) (a0 : Act) (D : List Nat) (R : Nat → Value → World → Prop) (i : Nat) (o : Oper) : Prop :=
  ∀ (F : Nat → Bool) (a : Act) (W : World), F i = false → (∀ e ∈ o.after, Region.binds .any e = true → F e.on = true) → J F W → (∀ s, s ∉ D → a.eval (.tmp s) = a0.eval (.tmp s)) →
    (∀ e ∈ o.after, Region.binds .any e = true → ∀ d, D[e.on]? = some d → d < a0.tmps.size → R e.on (a.eval (.tmp d)) W) →
    ∀ K : Act → World → Prop, (∀ v W', J (upF F i) W' → le W W' → R i v W' → K (a.put o.dst v) W') → o.wp P a W K Q
def StepsF (P : Program) (Q : Exit → Act → World → Prop) (J : (Nat → Bool) → World → Prop) (le : World → World → Prop) (a0 : Act) (D : List Nat) (R : Nat → Value → World → Prop) : List Oper → Nat → Prop
  | [], _ => True
  | o :: r, i => StepF P Q J le a0 D R i o ∧ StepsF P Q J le a0 D R r (i + 1)
theorem StepsF.get {P : Program} {Q : Exit → Act → World → Prop} {J : (Nat → Bool) → World → Prop} {le : World → World → Prop} {a0 : Act} {D : List Nat} {R : Nat → Value → World → Prop} {l : List Oper} : ∀ {k : Nat}, StepsF P Q J le a0 D R l k → ∀ {i : Nat} {o : Oper}, l[i]? = some o → StepF P Q J le a0 D R (k + i) o := by
  induction l with
  | nil => intro k _ i o e; simp at e
  | cons x r ih =>
    intro k h i o e
    obtain ⟨h1, h2⟩ := h
    cases i with
    | zero =>
      rw [List.getElem?_cons_zero] at e
      cases e
      exact h1
    | succ i =>
      rw [List.getElem?_cons_succ] at e
      have := ih h2 e
      rwa [show k + 1 + i = k + (i + 1) by omega] at this

theorem wp_region_F {P : Program} {id : Nat} {Q : Exit → Act → World → Prop} {a0 : Act} {w : World} {l : List Oper} (J : (Nat → Bool) → World → Prop) (le : World → World → Prop) (D : List Nat) (R : Nat → Value → World → Prop) (hm : P.follows .mixedOrders = true)
    (hD : dstB a0.tmps.size l D = true) (hn : D.Nodup) (hg : l.all (fun o => o.guard.isNone) = true) (ha : afterB l = true)
    (hJ : J (fun _ => false) w.drew)
    (hmono : ∀ i v W W', le W W' → R i v W → R i v W')
    (hstep : StepsF P Q J le a0 D R l 0)
    (hend : ∀ (f : Nat → Value) (W : World), (∃ F : Nat → Bool, (∀ i, i < l.length → F i = true) ∧ J F W) → (∀ i, i < l.length → R i (f i) W) → Q .normal (puts a0 D 0 f) W) : (Code.region id l.toArray true).wp P Q a0 w := by
  obtain ⟨hlen, hdst⟩ := dstB_get hD
  have hrep : ∀ j, (Array.replicate l.toArray.size false).getD j false = false := by
    intro j
    rw [Array.getD_eq_getD_getElem?, Array.getElem?_replicate]
    split <;> rfl
  refine wp_region_any hm ?_
  refine wpAny_inv (fun L a W => J (fun j => L.getD j false) W ∧ L.size = l.length ∧ ∃ f : Nat → Value, a = { a0 with tmps := fillT D f (fun j => L.getD j false) a0.tmps } ∧ ∀ i, i < l.length → L.getD i false = true → R i (f i) W) ?_ ?_ _ _ _ _ ?_ ?_
  · rintro L a W ⟨hk, hs, f, rfl, hR⟩ hr
    have hall : ∀ n i, i < n → i < l.length → L.getD i false = true := by
      intro n
      induction n with
      | zero => intro i hi; omega
      | succ n ih =>
        intro i hi hil
        cases hv : L.getD i false with
        | true => rfl
        | false =>
          exfalso
          have : i ∈ Region.ready .any l.toArray L := by
            refine mem_ready.2 ⟨?_, l[i], by simp [hil], fun e he hbd => ?_⟩
            · have h1 : i < L.size := by omega
              simpa [h1] using hv
            · have h2 : e.on < i := by
                have h3 := List.all_eq_true.1 ha i (by simpa using hil)
                rw [List.getElem?_eq_getElem hil] at h3
                have h4 := Array.all_eq_true_iff_forall_mem.1 h3 e he
                simpa [hbd] using h4
              exact ih e.on (by omega) (by omega)
          rw [hr] at this
          cases this
    rw [fill_all hn (fun j hj => hall (j + 1) j (by omega) (by omega))]
    exact hend f W ⟨_, fun i hi => hall (i + 1) i (by omega) hi, hk⟩ (fun i hi => hR i hi (hall (i + 1) i (by omega) hi))
  · rintro L a W ⟨hk, hs, f, rfl, hR⟩ i hi K hK o ho
    have hol : l[i]? = some o := by simpa using ho
    have hil : i < l.length := (List.getElem?_eq_some_iff.1 hol).1
    obtain ⟨d, hd, hod⟩ := hdst i o hol
    have hgo : o.guard = none := by
      have := List.all_eq_true.1 hg o (List.mem_of_getElem? hol)
      simpa using this
    have hw : Region.wanted o (yielded l.toArray ({ a0 with tmps := fillT D f (fun j => L.getD j false) a0.tmps } : Act).tmps) = true := by simp [Region.wanted, hgo]
    rw [if_pos hw]
    obtain ⟨hLi, o', ho', hdeps⟩ := mem_ready.1 hi
    rw [ho] at ho'
    cases ho'
    have hst := hstep.get hol
    rw [Nat.zero_add] at hst
    have hup : (fun j => (L.setIfInBounds i true).getD j false) = upF (fun j => L.getD j false) i := by
      funext k
      unfold upF
      by_cases hki : k = i
      · subst hki
        have : k < L.size := by omega
        simp [this]
      · simp [hki, Ne.symm hki]
    have hFi : L.getD i false = false := by
      have hi2 : i < L.size := by omega
      simpa [hi2] using hLi
    refine hst _ _ W hFi hdeps hk (fun s hs => ?_) (fun e he hbd d' hd' hdl => ?_) K (fun v W' hj hk' hv => hK _ _ ⟨by rw [hup]; exact hj, by simpa using hs, fun k => if k = i then v else f k, ?_, fun k hkl hLk => ?_⟩)
    · simp only [Act.eval]
      exact fill_other hs
    · have hel : e.on < l.length := by rw [hlen]; exact (List.getElem?_eq_some_iff.1 hd').1
      have e1 : (({ a0 with tmps := fillT D f (fun j => L.getD j false) a0.tmps } : Act).eval (.tmp d')) = f e.on := fill_done hn hd' hdl (hdeps e he hbd)
      rw [e1]
      exact hR e.on hel (hdeps e he hbd)
    · have e1 : ({ a0 with tmps := fillT D f (fun j => L.getD j false) a0.tmps } : Act).put o.dst v = { a0 with tmps := (fillT D f (fun j => L.getD j false) a0.tmps).setIfInBounds d v } := by
        rcases hod with ⟨hod, _⟩ | ⟨hod, hge⟩
        · rw [hod]; rfl
        · rw [hod]
          simp only [Act.put]
          rw [Array.setIfInBounds_eq_of_size_le (by rw [fillT_size]; exact hge)]
      rw [e1, fill_set hn hd]
      congr 2
      funext k
      by_cases hki : k = i
      · subst hki
        have : k < L.size := by omega
        simp [this]
      · simp [hki, Ne.symm hki]
    · by_cases hki : k = i
      · subst hki
        simpa using hv
      · simp only [hki, if_false]
        refine hmono k _ W W' hk' (hR k hkl ?_)
        simpa [Array.getElem?_setIfInBounds, Ne.symm hki] using hLk
  · refine ⟨?_, by simp, fun _ => undef, ?_, fun i hi hL => ?_⟩
    · have e : (fun j => (Array.replicate l.toArray.size false).getD j false) = fun _ => false := by
        funext j
        exact hrep j
      rw [e]
      exact hJ
    · rw [fill_none (fun j hj => hrep j)]
    · rw [hrep i] at hL; cases hL
  · simp [cntF]
end Go.Proofs.YtdbpdanocpfboaaDoor
