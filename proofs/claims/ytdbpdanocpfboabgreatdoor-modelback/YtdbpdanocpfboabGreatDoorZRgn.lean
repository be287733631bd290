import Derived.Test.YtdbpdanocpfboabGreatDoorZBun08
/- A region that draws its order, with guards and stores: one obligation for each operation. -/
namespace Go.Proofs.YtdbpdanocpfboabGreatDoor
open Go.RowKit

/-- the values of a region laid into its slots, in the text's order -/
def puts : Act → List Nat → Nat → (Nat → Value) → Act
  | a, [], _, _ => a
  | a, d :: r, k, f => puts (a.put (some d) (f k)) r (k + 1) f
/-- the values of those that have come up -/
def fillT (D : List Nat) (f : Nat → Value) (L : Nat → Bool) (t : Array Value) : Array Value :=
  t.mapIdx fun i v => match D.idxOf? i with
    | some j => if L j then f j else v
    | none => v

theorem idx_get {D : List Nat} (hn : D.Nodup) {j d : Nat} (h : D[j]? = some d) : D.idxOf? d = some j := by
  obtain ⟨hj, rfl⟩ := List.getElem?_eq_some_iff.1 h
  rw [List.idxOf?_eq_some_iff]
  refine ⟨hj, by simp, fun k hk => ?_⟩
  intro e
  exact (List.pairwise_iff_getElem.1 hn) k j (by omega) hj hk (by simpa using e)
theorem idx_some {D : List Nat} {j d : Nat} (h : D.idxOf? d = some j) : D[j]? = some d := by
  rw [List.idxOf?_eq_some_iff] at h
  obtain ⟨hj, e, _⟩ := h
  rw [List.getElem?_eq_getElem hj]
  simpa using e

theorem puts_get {f : Nat → Value} {i : Nat} : ∀ (D : List Nat) (k : Nat) (a : Act), D.Nodup → (puts a D k f).tmps.size = a.tmps.size ∧ (puts a D k f).defers = a.defers ∧ (puts a D k f).tmps[i]? = match D.idxOf? i with
    | some j => if i < a.tmps.size then some (f (k + j)) else none
    | none => a.tmps[i]?
  | [], k, a, _ => by simp [puts]
  | d :: r, k, a, hn => by
    have hn' := List.nodup_cons.1 hn
    have ih := puts_get (f := f) (i := i) r (k + 1) (a.put (some d) (f k)) hn'.2
    simp only [puts]
    refine ⟨ih.1.trans (by simp [Act.put]), ih.2.1.trans rfl, ih.2.2.trans ?_⟩
    by_cases e : d = i
    · subst e
      have h1 : r.idxOf? d = none := by rw [List.idxOf?_eq_none_iff]; exact hn'.1
      have h2 : (d :: r).idxOf? d = some 0 := by simp [List.idxOf?_cons]
      rw [h1, h2]
      simp only [Act.put, Nat.add_zero]
      rw [Array.getElem?_setIfInBounds]
      simp
    · have h2 : (d :: r).idxOf? i = (r.idxOf? i).map (· + 1) := by simp [List.idxOf?_cons, e]
      rw [h2]
      cases hr : r.idxOf? i with
      | none =>
        simp only [Option.map_none, Act.put]
        rw [Array.getElem?_setIfInBounds, if_neg e]
      | some j =>
        simp only [Option.map_some, Act.put, Array.size_setIfInBounds]
        rw [show k + 1 + j = k + (j + 1) by omega]
theorem fill_all {D : List Nat} {f : Nat → Value} {a : Act} (hn : D.Nodup) {L : Nat → Bool} (hL : ∀ j, j < D.length → L j = true) : ({ a with tmps := fillT D f L a.tmps } : Act) = puts a D 0 f := by
  have hp := fun i => puts_get (f := f) (i := i) D 0 a hn
  have ht : fillT D f L a.tmps = (puts a D 0 f).tmps := by
    apply Array.ext_getElem?
    intro i
    rw [(hp i).2.2, fillT, Array.getElem?_mapIdx]
    cases hd : D.idxOf? i with
    | none => simp
    | some j =>
      have hj : j < D.length := (List.getElem?_eq_some_iff.1 (idx_some hd)).1
      simp only [hL j hj, if_true, Nat.zero_add]
      by_cases hi : i < a.tmps.size
      · simp [hi]
      · simp [hi]
  have hd := (hp 0).2.1
  rw [ht, ← hd]
theorem fill_none {D : List Nat} {f : Nat → Value} {t : Array Value} {L : Nat → Bool} (hL : ∀ j, j < D.length → L j = false) : fillT D f L t = t := by
  apply Array.ext_getElem?
  intro i
  rw [fillT, Array.getElem?_mapIdx]
  cases hd : D.idxOf? i with
  | none => simp
  | some j =>
    have hj : j < D.length := (List.getElem?_eq_some_iff.1 (idx_some hd)).1
    simp [hL j hj]
theorem fill_set {D : List Nat} {f : Nat → Value} {t : Array Value} {L : Nat → Bool} (hn : D.Nodup) {j d : Nat} (hj : D[j]? = some d) (v : Value) :
    (fillT D f L t).setIfInBounds d v = fillT D (fun k => if k = j then v else f k) (fun k => if k = j then true else L k) t := by
  apply Array.ext_getElem?
  intro i
  rw [Array.getElem?_setIfInBounds, fillT, fillT, Array.getElem?_mapIdx, Array.getElem?_mapIdx]
  by_cases e : d = i
  · subst e
    rw [if_pos rfl, idx_get hn hj]
    by_cases hi : d < t.size
    · simp [hi]
    · simp [hi]
  · rw [if_neg e]
    cases hd : D.idxOf? i with
    | none => simp
    | some k =>
      have hk : k ≠ j := fun h => by
        subst h
        have := idx_some hd
        rw [hj] at this
        exact e (Option.some.inj this)
      simp [hk]
theorem fill_other {D : List Nat} {f : Nat → Value} {t : Array Value} {L : Nat → Bool} {s : Nat} (hs : s ∉ D) : (fillT D f L t).getD s undef = t.getD s undef := by
  have : (fillT D f L t)[s]? = t[s]? := by
    rw [fillT, Array.getElem?_mapIdx, List.idxOf?_eq_none_iff.2 hs]
    simp
  simp only [Array.getD_eq_getD_getElem?, this]
theorem fill_done {D : List Nat} {f : Nat → Value} {t : Array Value} {L : Nat → Bool} (hn : D.Nodup) {j d : Nat} (hj : D[j]? = some d) (hd : d < t.size) (hL : L j = true) : (fillT D f L t).getD d undef = f j := by
  have : (fillT D f L t)[d]? = some (f j) := by
    rw [fillT, Array.getElem?_mapIdx, idx_get hn hj]
    simp [hd, hL]
  simp only [Array.getD_eq_getD_getElem?, this, Option.getD_some]

/-- each operation waits for earlier ones alone -/
def afterB (l : List Oper) : Bool := (List.range l.length).all fun i => match l[i]? with
  | some o => o.after.all fun e => !Region.binds .any e || decide (e.on < i)
  | none => true

/-- the slots of a region's operations; one that stores alone has a number that is none of a slot -/
def dstB (n : Nat) (l : List Oper) (D : List Nat) : Bool := l.length == D.length && (l.zip D).all fun p => match p.1.dst with
  | some e => e == p.2 && decide (p.2 < n)
  | none => decide (n ≤ p.2)
theorem dstB_get {n : Nat} {l : List Oper} {D : List Nat} (h : dstB n l D = true) : l.length = D.length ∧ ∀ (i : Nat) (o : Oper), l[i]? = some o → ∃ d, D[i]? = some d ∧ ((o.dst = some d ∧ d < n) ∨ (o.dst = none ∧ n ≤ d)) := by
  simp only [dstB, Bool.and_eq_true, beq_iff_eq] at h
  refine ⟨h.1, fun i o ho => ?_⟩
  have hi := (List.getElem?_eq_some_iff.1 ho).1
  have hiD : i < D.length := by omega
  refine ⟨D[i], List.getElem?_eq_getElem hiD, ?_⟩
  have hm : (o, D[i]) ∈ l.zip D := by
    refine List.mem_of_getElem? (i := i) ?_
    rw [List.getElem?_zip_eq_some]
    exact ⟨ho, List.getElem?_eq_getElem hiD⟩
  have := List.all_eq_true.1 h.2 _ hm
  simp only at this
  cases hd : o.dst with
  | none => rw [hd] at this; exact .inr ⟨rfl, by simpa using this⟩
  | some e =>
    rw [hd] at this
    simp only [Bool.and_eq_true, beq_iff_eq, decide_eq_true_eq] at this
    exact .inl ⟨by rw [this.1], this.2⟩
theorem fillT_size (D : List Nat) (f : Nat → Value) (L : Nat → Bool) (t : Array Value) : (fillT D f L t).size = t.size := by simp [fillT]
theorem wp_value {P : Program} {o : Oper} {a : Act} {W W' : World} {K : Act → World → Prop} {Q : Exit → Act → World → Prop} {v : Value} (h : (execOp a.eval o).run P W = .ok (.value v) W') (hK : K (a.put o.dst v) W') : o.wp P a W K Q := by
  unfold Oper.wp; rw [h]; exact hK
theorem wp_enter {P : Program} {o : Oper} {a : Act} {W W' : World} {K : Act → World → Prop} {Q : Exit → Act → World → Prop} {f : FuncId} {args : Array Value} {R : Ending → World → Prop} (h : (execOp a.eval o).run P W = .ok (.enter f args) W') (hc : Calls P f args W' R) (hK : ∀ e w', R e w' → ∃ v, e = .returned v ∧ K (a.put o.dst v) w') : o.wp P a W K Q := by
  unfold Oper.wp
  rw [h]
  refine Calls.mono hc (fun e w' he => ?_)
  obtain ⟨v, rfl, hk⟩ := hK e w' he
  exact hk

/-- which have come up, and one more -/
def upF (F : Nat → Bool) (i : Nat) : Nat → Bool := fun k => if k = i then true else F k
/-- what is asked of an operation -/
def StepG (P : Program) (Q : Exit → Act → World → Prop) (J : (Nat → Bool) → World → Prop) (le : Nat → World → World → Prop) (a0 : Act) (D : List Nat) (R : (Nat → Bool) → Nat → Value → World → Prop) (i : Nat) (o : Oper) : Prop :=
  ∀ (F : Nat → Bool) (a : Act) (W : World), F i = false → (∀ e ∈ o.after, Region.binds .any e = true → F e.on = true) → J F W → (∀ s, s ∉ D → a.eval (.tmp s) = a0.eval (.tmp s)) →
    (∀ e ∈ o.after, Region.binds .any e = true → ∀ d, D[e.on]? = some d → d < a0.tmps.size → R F e.on (a.eval (.tmp d)) W) →
    ∀ Y : Nat → Option Bool, (∀ j d c, D[j]? = some d → d < a0.tmps.size → a.eval (.tmp d) = .bool c → Y j = some c) →
    ∀ K : Act → World → Prop, (∀ v W', J (upF F i) W' → le i W W' → R (upF F i) i v W' → K (a.put o.dst v) W') → if Region.wanted o Y = true then o.wp P a W K Q else K (a.put o.dst undef) W
def StepsG (P : Program) (Q : Exit → Act → World → Prop) (J : (Nat → Bool) → World → Prop) (le : Nat → World → World → Prop) (a0 : Act) (D : List Nat) (R : (Nat → Bool) → Nat → Value → World → Prop) : List Oper → Nat → Prop
  | [], _ => True
  | o :: r, i => StepG P Q J le a0 D R i o ∧ StepsG P Q J le a0 D R r (i + 1)
theorem StepsG.get {P : Program} {Q : Exit → Act → World → Prop} {J : (Nat → Bool) → World → Prop} {le : Nat → World → World → Prop} {a0 : Act} {D : List Nat} {R : (Nat → Bool) → Nat → Value → World → Prop} {l : List Oper} : ∀ {k : Nat}, StepsG P Q J le a0 D R l k → ∀ {i : Nat} {o : Oper}, l[i]? = some o → StepG P Q J le a0 D R (k + i) o := by
  induction l with
  | nil => intro k _ i o e; simp at e
  | cons x r ih =>
    intro k h i o e
    obtain ⟨h1, h2⟩ := h
    cases i with
    | zero =>
      rw [List.getElem?_cons_zero] at e
      cases e
      exact h1
    | succ i =>
      rw [List.getElem?_cons_succ] at e
      have := ih h2 e
      rwa [show k + 1 + i = k + (i + 1) by omega] at this

theorem wp_region_G {P : Program} {id : Nat} {Q : Exit → Act → World → Prop} {a0 : Act} {w : World} {l : List Oper} (J : (Nat → Bool) → World → Prop) (le : Nat → World → World → Prop) (D : List Nat) (R : (Nat → Bool) → Nat → Value → World → Prop) (hm : P.follows .mixedOrders = true)
    (hD : dstB a0.tmps.size l D = true) (hn : D.Nodup) (ha : afterB l = true)
    (hJ : J (fun _ => false) w.drew)
    (hmono : ∀ F i0 i v W W', le i0 W W' → R F i v W → R (upF F i0) i v W')
    (hstep : StepsG P Q J le a0 D R l 0)
    (hend : ∀ (f : Nat → Value) (W : World) (F : Nat → Bool), (∀ i, i < l.length → F i = true) → J F W → (∀ i, i < l.length → R F i (f i) W) → Q .normal (puts a0 D 0 f) W) : (Code.region id l.toArray true).wp P Q a0 w := by
  obtain ⟨hlen, hdst⟩ := dstB_get hD
  have hrep : ∀ j, (Array.replicate l.toArray.size false).getD j false = false := by
    intro j
    rw [Array.getD_eq_getD_getElem?, Array.getElem?_replicate]
    split <;> rfl
  refine wp_region_any hm ?_
  refine wpAny_inv (fun L a W => J (fun j => L.getD j false) W ∧ L.size = l.length ∧ ∃ f : Nat → Value, a = { a0 with tmps := fillT D f (fun j => L.getD j false) a0.tmps } ∧ ∀ i, i < l.length → L.getD i false = true → R (fun j => L.getD j false) i (f i) W) ?_ ?_ _ _ _ _ ?_ ?_
  · rintro L a W ⟨hk, hs, f, rfl, hR⟩ hr
    have hall : ∀ n i, i < n → i < l.length → L.getD i false = true := by
      intro n
      induction n with
      | zero => intro i hi; omega
      | succ n ih =>
        intro i hi hil
        cases hv : L.getD i false with
        | true => rfl
        | false =>
          exfalso
          have : i ∈ Region.ready .any l.toArray L := by
            refine mem_ready.2 ⟨?_, l[i], by simp [hil], fun e he hbd => ?_⟩
            · have h1 : i < L.size := by omega
              simpa [h1] using hv
            · have h2 : e.on < i := by
                have h3 := List.all_eq_true.1 ha i (by simpa using hil)
                rw [List.getElem?_eq_getElem hil] at h3
                have h4 := Array.all_eq_true_iff_forall_mem.1 h3 e he
                simpa [hbd] using h4
              exact ih e.on (by omega) (by omega)
          rw [hr] at this
          cases this
    rw [fill_all hn (fun j hj => hall (j + 1) j (by omega) (by omega))]
    exact hend f W _ (fun i hi => hall (i + 1) i (by omega) hi) hk (fun i hi => hR i hi (hall (i + 1) i (by omega) hi))
  · rintro L a W ⟨hk, hs, f, rfl, hR⟩ i hi K hK o ho
    have hol : l[i]? = some o := by simpa using ho
    have hil : i < l.length := (List.getElem?_eq_some_iff.1 hol).1
    obtain ⟨d, hd, hod⟩ := hdst i o hol
    obtain ⟨hLi, o', ho', hdeps⟩ := mem_ready.1 hi
    rw [ho] at ho'
    cases ho'
    have hst := hstep.get hol
    rw [Nat.zero_add] at hst
    have hup : (fun j => (L.setIfInBounds i true).getD j false) = upF (fun j => L.getD j false) i := by
      funext k
      unfold upF
      by_cases hki : k = i
      · subst hki
        have : k < L.size := by omega
        simp [this]
      · simp [hki, Ne.symm hki]
    have hFi : L.getD i false = false := by
      have hi2 : i < L.size := by omega
      simpa [hi2] using hLi
    refine hst _ _ W hFi hdeps hk (fun s hs => ?_) (fun e he hbd d' hd' hdl => ?_) _ (fun j d' c hj hdl hc => ?_) K (fun v W' hj hk' hv => hK _ _ ⟨by rw [hup]; exact hj, by simpa using hs, fun k => if k = i then v else f k, ?_, fun k hkl hLk => ?_⟩)
    · simp only [Act.eval]
      exact fill_other hs
    · have hel : e.on < l.length := by rw [hlen]; exact (List.getElem?_eq_some_iff.1 hd').1
      have e1 : (({ a0 with tmps := fillT D f (fun j => L.getD j false) a0.tmps } : Act).eval (.tmp d')) = f e.on := fill_done hn hd' hdl (hdeps e he hbd)
      rw [e1]
      exact hR e.on hel (hdeps e he hbd)
    · have hjl : j < l.length := by rw [hlen]; exact (List.getElem?_eq_some_iff.1 hj).1
      obtain ⟨d2, hd2, hod2⟩ := hdst j _ (List.getElem?_eq_getElem hjl)
      rw [hj] at hd2
      cases hd2
      have hdst2 : l[j].dst = some d' := by
        rcases hod2 with ⟨h1, _⟩ | ⟨_, h1⟩
        · exact h1
        · omega
      have hsz : d' < (fillT D f (fun j => L.getD j false) a0.tmps).size := by rw [fillT_size]; exact hdl
      have hc' : (fillT D f (fun j => L.getD j false) a0.tmps)[d']? = some (.bool c) := by
        rw [Array.getElem?_eq_getElem hsz]
        have hc2 : (fillT D f (fun j => L.getD j false) a0.tmps).getD d' undef = .bool c := hc
        rw [Array.getD_eq_getD_getElem?, Array.getElem?_eq_getElem hsz, Option.getD_some] at hc2
        rw [hc2]
      simp only [yielded, List.getElem?_toArray, List.getElem?_eq_getElem hjl, Option.bind_some, hdst2, hc']
    · have e1 : ({ a0 with tmps := fillT D f (fun j => L.getD j false) a0.tmps } : Act).put o.dst v = { a0 with tmps := (fillT D f (fun j => L.getD j false) a0.tmps).setIfInBounds d v } := by
        rcases hod with ⟨hod, _⟩ | ⟨hod, hge⟩
        · rw [hod]; rfl
        · rw [hod]
          simp only [Act.put]
          rw [Array.setIfInBounds_eq_of_size_le (by rw [fillT_size]; exact hge)]
      rw [e1, fill_set hn hd]
      congr 2
      funext k
      by_cases hki : k = i
      · subst hki
        have : k < L.size := by omega
        simp [this]
      · simp [hki, Ne.symm hki]
    · rw [hup]
      by_cases hki : k = i
      · subst hki
        simpa using hv
      · simp only [hki, if_false]
        refine hmono _ i k _ W W' hk' (hR k hkl ?_)
        simpa [Array.getElem?_setIfInBounds, Ne.symm hki] using hLk
  · refine ⟨?_, by simp, fun _ => undef, ?_, fun i hi hL => ?_⟩
    · have e : (fun j => (Array.replicate l.toArray.size false).getD j false) = fun _ => false := by
        funext j
        exact hrep j
      rw [e]
      exact hJ
    · rw [fill_none (fun j hj => hrep j)]
    · rw [hrep i] at hL; cases hL
  · simp [cntF]

/-! ### where callees make new blocks alone, and the last operation stores -/

/-- what an operation waits for -/
def onsB (l : List Oper) (i : Nat) : List Nat := match l[i]? with
  | some o => (o.after.toList.filter (fun e => Region.binds .any e)).map (·.on)
  | none => []
/-- does the last one wait for all? -/
def needB (l : List Oper) : Nat → List Nat → Bool
  | 0, _ => true
  | i + 1, S => S.contains i && needB l i (S ++ onsB l i)
def closedF (l : List Oper) (F : Nat → Bool) : Prop := ∀ i, F i = true → ∀ j ∈ onsB l i, F j = true
theorem needB_all {l : List Oper} {F : Nat → Bool} (hc : closedF l F) : ∀ (n : Nat) (S : List Nat), needB l n S = true → (∀ j ∈ S, F j = true) → ∀ i, i < n → F i = true
  | 0, _, _, _, i, hi => by omega
  | n + 1, S, h, hS, i, hi => by
    rw [needB, Bool.and_eq_true] at h
    have hn : F n = true := hS n (by simpa using h.1)
    by_cases e : i = n
    · subst e; exact hn
    · exact needB_all hc n _ h.2 (fun j hj => by
        rcases List.mem_append.1 hj with hj | hj
        · exact hS j hj
        · exact hc n hn j hj) i (by omega)
/-- what is asked of an operation that is not the last -/
def StepN (P : Program) (Q : Exit → Act → World → Prop) (w : World) (a0 : Act) (D : List Nat) (R : Nat → Value → World → Prop) (i : Nat) (o : Oper) : Prop :=
  ∀ (a : Act) (W : World), Kept (fun _ => False) w W → (∀ s, s ∉ D → a.eval (.tmp s) = a0.eval (.tmp s)) →
    (∀ e ∈ o.after, Region.binds .any e = true → ∀ d, D[e.on]? = some d → d < a0.tmps.size → R e.on (a.eval (.tmp d)) W) →
    ∀ Y : Nat → Option Bool, (∀ j d c, D[j]? = some d → d < a0.tmps.size → a.eval (.tmp d) = .bool c → Y j = some c) →
    ∀ K : Act → World → Prop, (∀ v W', Kept (fun _ => False) W W' → R i v W' → K (a.put o.dst v) W') → if Region.wanted o Y = true then o.wp P a W K Q else K (a.put o.dst undef) W
def StepsN (P : Program) (Q : Exit → Act → World → Prop) (w : World) (a0 : Act) (D : List Nat) (R : Nat → Value → World → Prop) : List Oper → Nat → Prop
  | [], _ => True
  | o :: r, i => StepN P Q w a0 D R i o ∧ StepsN P Q w a0 D R r (i + 1)
theorem StepsN.get {P : Program} {Q : Exit → Act → World → Prop} {w : World} {a0 : Act} {D : List Nat} {R : Nat → Value → World → Prop} {l : List Oper} : ∀ {k : Nat}, StepsN P Q w a0 D R l k → ∀ {i : Nat} {o : Oper}, l[i]? = some o → StepN P Q w a0 D R (k + i) o := by
  induction l with
  | nil => intro k _ i o e; simp at e
  | cons x r ih =>
    intro k h i o e
    obtain ⟨h1, h2⟩ := h
    cases i with
    | zero =>
      rw [List.getElem?_cons_zero] at e
      cases e
      exact h1
    | succ i =>
      rw [List.getElem?_cons_succ] at e
      have := ih h2 e
      rwa [show k + 1 + i = k + (i + 1) by omega] at this
theorem steps_mk {P : Program} {Q : Exit → Act → World → Prop} {J : (Nat → Bool) → World → Prop} {le : Nat → World → World → Prop} {a0 : Act} {D : List Nat} {R : (Nat → Bool) → Nat → Value → World → Prop} : ∀ (l : List Oper) (k : Nat), (∀ i o, l[i]? = some o → StepG P Q J le a0 D R (k + i) o) → StepsG P Q J le a0 D R l k
  | [], _, _ => trivial
  | o :: r, k, h => ⟨h 0 o rfl, steps_mk r (k + 1) (fun i o' ho => by have := h (i + 1) o' (by simpa using ho); rwa [show k + 1 + i = k + (i + 1) by omega])⟩

/-- new blocks alone -/
theorem wp_region_N {P : Program} {id : Nat} {Q : Exit → Act → World → Prop} {a0 : Act} {w : World} {l : List Oper} (D : List Nat) (R : Nat → Value → World → Prop) (hm : P.follows .mixedOrders = true)
    (hD : dstB a0.tmps.size l D = true) (hn : D.Nodup) (ha : afterB l = true)
    (hmono : ∀ i v W W', Kept (fun _ => False) W W' → R i v W → R i v W')
    (hstep : StepsN P Q w a0 D R l 0)
    (hend : ∀ (f : Nat → Value) (W : World), Kept (fun _ => False) w W → (∀ i, i < l.length → R i (f i) W) → Q .normal (puts a0 D 0 f) W) : (Code.region id l.toArray true).wp P Q a0 w := by
  refine wp_region_G (fun _ W => Kept (fun _ => False) w W) (fun _ W W' => Kept (fun _ => False) W W') D (fun _ => R) hm hD hn ha (Kept.refl _ _).drew (fun _ _ i v W W' hk h => hmono i v W W' hk h) (steps_mk l 0 fun i o ho => ?_) (fun f W _ _ hk hR => hend f W hk hR)
  have hs := hstep.get ho
  intro F a W _ _ hk hq hd Y hY K hK
  exact hs a W hk hq hd Y hY K (fun v W' hk' hv => hK v W' (hk.trans hk' (fun _ _ f => f)) hk' hv)

/-- new blocks, and the last operation, which waits for all others, as it likes -/
theorem wp_region_S {P : Program} {id : Nat} {Q : Exit → Act → World → Prop} {a0 : Act} {w : World} {l : List Oper} (o : Oper) (D : List Nat) (R : Nat → Value → World → Prop) (Z : World → Prop) (hm : P.follows .mixedOrders = true)
    (hD : dstB a0.tmps.size (l ++ [o]) D = true) (hn : D.Nodup) (ha : afterB (l ++ [o]) = true) (hN : needB (l ++ [o]) l.length (onsB (l ++ [o]) l.length) = true)
    (hmono : ∀ i v W W', Kept (fun _ => False) W W' → R i v W → R i v W')
    (hstep : StepsN P Q w a0 D R l 0)
    (hlast : ∀ (a : Act) (W : World), Kept (fun _ => False) w W → (∀ s, s ∉ D → a.eval (.tmp s) = a0.eval (.tmp s)) → (∀ e ∈ o.after, Region.binds .any e = true → ∀ d, D[e.on]? = some d → d < a0.tmps.size → R e.on (a.eval (.tmp d)) W) → o.guard = none ∧ ∀ K : Act → World → Prop, (∀ v W', Z W' → K (a.put o.dst v) W') → o.wp P a W K Q)
    (hend : ∀ (f : Nat → Value) (W : World), Z W → Q .normal (puts a0 D 0 f) W) : (Code.region id (l ++ [o]).toArray true).wp P Q a0 w := by
  have hlast2 : ∀ (i : Nat) (o' : Oper), (l ++ [o])[i]? = some o' → (i < l.length ∧ l[i]? = some o') ∨ (i = l.length ∧ o' = o) := fun i o' ho => by
    rw [List.getElem?_append] at ho
    split at ho
    · rename_i h; exact .inl ⟨h, ho⟩
    · rename_i h
      have : i - l.length = 0 := by
        cases e : i - l.length with
        | zero => rfl
        | succ m => rw [e] at ho; simp at ho
      rw [this] at ho
      simp at ho
      exact .inr ⟨by omega, ho.symm⟩
  refine wp_region_G (fun F W => closedF (l ++ [o]) F ∧ ((F l.length = false ∧ Kept (fun _ => False) w W) ∨ (F l.length = true ∧ Z W))) (fun i W W' => i = l.length ∨ Kept (fun _ => False) W W') D (fun F i v W => F l.length = true ∨ R i v W) hm hD hn ha ⟨fun i h => by simp at h, .inl ⟨rfl, (Kept.refl _ _).drew⟩⟩ (fun F i0 i v W W' hk h => ?_) (steps_mk _ 0 fun i o' ho => ?_) (fun f W F hF hJ hR => ?_)
  · rcases hk with hk | hk
    · left; simp [upF, hk]
    · rcases h with h | h
      · left; unfold upF; split
        · rfl
        · exact h
      · exact .inr (hmono i v W W' hk h)
  · rw [Nat.zero_add]
    intro F a W hFi hdeps hJ hq hd Y hY K hK
    obtain ⟨hcl, hJ⟩ := hJ
    have hons : ∀ j ∈ onsB (l ++ [o]) i, F j = true := fun j hj => by
      simp only [onsB, ho, List.mem_map, List.mem_filter] at hj
      obtain ⟨e, ⟨he, hb⟩, rfl⟩ := hj
      exact hdeps e (by simpa using he) hb
    have hcl' : closedF (l ++ [o]) (upF F i) := fun k hk j hj => by
      unfold upF at hk ⊢
      split
      · rfl
      · split at hk
        · rename_i h; subst h; exact hons j hj
        · exact hcl k hk j hj
    have hnl : F l.length = false := by
      cases hF : F l.length with
      | false => rfl
      | true =>
        exfalso
        have hall := needB_all hcl _ _ hN (fun j hj => hcl _ hF j hj)
        rcases hlast2 i o' ho with ⟨hi, _⟩ | ⟨hi, _⟩
        · rw [hall i hi] at hFi; cases hFi
        · rw [hi, hF] at hFi; cases hFi
    have hk : Kept (fun _ => False) w W := by
      rcases hJ with ⟨_, h⟩ | ⟨h, _⟩
      · exact h
      · rw [hnl] at h; cases h
    have hd' : ∀ e ∈ o'.after, Region.binds .any e = true → ∀ d, D[e.on]? = some d → d < a0.tmps.size → R e.on (a.eval (.tmp d)) W := fun e he hb d h1 h2 => by
      rcases hd e he hb d h1 h2 with h | h
      · rw [hnl] at h; cases h
      · exact h
    rcases hlast2 i o' ho with ⟨hi, hol⟩ | ⟨hi, rfl⟩
    · have hs := hstep.get hol
      rw [Nat.zero_add] at hs
      refine hs a W hk hq hd' Y hY K (fun v W' hk' hv => hK v W' ⟨hcl', .inl ⟨?_, hk.trans hk' (fun _ _ f => f)⟩⟩ (.inr hk') (.inr hv))
      unfold upF
      rw [if_neg (by omega)]
      exact hnl
    · obtain ⟨hg, hw⟩ := hlast a W hk hq hd'
      have hwt : Region.wanted o' Y = true := by simp [Region.wanted, hg]
      rw [if_pos hwt]
      exact hw K (fun v W' hz => hK v W' ⟨hcl', .inr ⟨by simp [upF, hi], hz⟩⟩ (.inl hi) (.inl (by simp [upF, hi])))
  · obtain ⟨_, hJ⟩ := hJ
    rcases hJ with ⟨h, _⟩ | ⟨_, hz⟩
    · rw [hF l.length (by simp)] at h; cases h
    · exact hend f W hz
end Go.Proofs.YtdbpdanocpfboabGreatDoor
