/- A region that draws its order, where callees make new blocks and answer values that tell of them: one obligation for each operation, whatever the order. Small contracts for the laws: places, truths and holds of what is good. -/
import Derived.Test.YtdbpdanocpfboaaDoorVInv
import Derived.Test.YtdbpdanocpfboaaDoorVLaw8
import Derived.Test.YtdbpdanocpfboaaDoorVWell
namespace Go.Proofs.YtdbpdanocpfboaaDoor
open Go.RowKit

/-- the values of a region laid into its slots, in the text's order -/
def puts : Act → List Nat → Nat → (Nat → Value) → Act
  | a, [], _, _ => a
  | a, d :: r, k, f => puts (a.put (some d) (f k)) r (k + 1) f
/-- the values of those that have come up -/
def fillT (D : List Nat) (f : Nat → Value) (L : Nat → Bool) (t : Array Value) : Array Value :=
  t.mapIdx fun i v => match D.idxOf? i with
    | some j => if L j then f j else v
    | none => v

theorem idx_get {D : List Nat} (hn : D.Nodup) {j d : Nat} (h : D[j]? = some d) : D.idxOf? d = some j := by
  obtain ⟨hj, rfl⟩ := List.getElem?_eq_some_iff.1 h
  rw [List.idxOf?_eq_some_iff]
  refine ⟨hj, by simp, fun k hk => ?_⟩
  intro e
  exact (List.pairwise_iff_getElem.1 hn) k j (by omega) hj hk (by simpa using e)
theorem idx_some {D : List Nat} {j d : Nat} (h : D.idxOf? d = some j) : D[j]? = some d := by
  rw [List.idxOf?_eq_some_iff] at h
  obtain ⟨hj, e, _⟩ := h
  rw [List.getElem?_eq_getElem hj]
  simpa using e

theorem puts_get {f : Nat → Value} {i : Nat} : ∀ (D : List Nat) (k : Nat) (a : Act), D.Nodup → (puts a D k f).tmps.size = a.tmps.size ∧ (puts a D k f).defers = a.defers ∧ (puts a D k f).tmps[i]? = match D.idxOf? i with
    | some j => if i < a.tmps.size then some (f (k + j)) else none
    | none => a.tmps[i]?
  | [], k, a, _ => by simp [puts]
  | d :: r, k, a, hn => by
    have hn' := List.nodup_cons.1 hn
    have ih := puts_get (f := f) (i := i) r (k + 1) (a.put (some d) (f k)) hn'.2
    simp only [puts]
    refine ⟨ih.1.trans (by simp [Act.put]), ih.2.1.trans rfl, ih.2.2.trans ?_⟩
    by_cases e : d = i
    · subst e
      have h1 : r.idxOf? d = none := by rw [List.idxOf?_eq_none_iff]; exact hn'.1
      have h2 : (d :: r).idxOf? d = some 0 := by simp [List.idxOf?_cons]
      rw [h1, h2]
      simp only [Act.put, Nat.add_zero]
      rw [Array.getElem?_setIfInBounds]
      simp
    · have h2 : (d :: r).idxOf? i = (r.idxOf? i).map (· + 1) := by simp [List.idxOf?_cons, e]
      rw [h2]
      cases hr : r.idxOf? i with
      | none =>
        simp only [Option.map_none, Act.put]
        rw [Array.getElem?_setIfInBounds, if_neg e]
      | some j =>
        simp only [Option.map_some, Act.put, Array.size_setIfInBounds]
        rw [show k + 1 + j = k + (j + 1) by omega]
theorem fill_all {D : List Nat} {f : Nat → Value} {a : Act} (hn : D.Nodup) {L : Nat → Bool} (hL : ∀ j, j < D.length → L j = true) : ({ a with tmps := fillT D f L a.tmps } : Act) = puts a D 0 f := by
  have hp := fun i => puts_get (f := f) (i := i) D 0 a hn
  have ht : fillT D f L a.tmps = (puts a D 0 f).tmps := by
    apply Array.ext_getElem?
    intro i
    rw [(hp i).2.2, fillT, Array.getElem?_mapIdx]
    cases hd : D.idxOf? i with
    | none => simp
    | some j =>
      have hj : j < D.length := (List.getElem?_eq_some_iff.1 (idx_some hd)).1
      simp only [hL j hj, if_true, Nat.zero_add]
      by_cases hi : i < a.tmps.size
      · simp [hi]
      · simp [hi]
  have hd := (hp 0).2.1
  rw [ht, ← hd]
theorem fill_none {D : List Nat} {f : Nat → Value} {t : Array Value} {L : Nat → Bool} (hL : ∀ j, j < D.length → L j = false) : fillT D f L t = t := by
  apply Array.ext_getElem?
  intro i
  rw [fillT, Array.getElem?_mapIdx]
  cases hd : D.idxOf? i with
  | none => simp
  | some j =>
    have hj : j < D.length := (List.getElem?_eq_some_iff.1 (idx_some hd)).1
    simp [hL j hj]
theorem fill_set {D : List Nat} {f : Nat → Value} {t : Array Value} {L : Nat → Bool} (hn : D.Nodup) {j d : Nat} (hj : D[j]? = some d) (v : Value) :
    (fillT D f L t).setIfInBounds d v = fillT D (fun k => if k = j then v else f k) (fun k => if k = j then true else L k) t := by
  apply Array.ext_getElem?
  intro i
  rw [Array.getElem?_setIfInBounds, fillT, fillT, Array.getElem?_mapIdx, Array.getElem?_mapIdx]
  by_cases e : d = i
  · subst e
    rw [if_pos rfl, idx_get hn hj]
    by_cases hi : d < t.size
    · simp [hi]
    · simp [hi]
  · rw [if_neg e]
    cases hd : D.idxOf? i with
    | none => simp
    | some k =>
      have hk : k ≠ j := fun h => by
        subst h
        have := idx_some hd
        rw [hj] at this
        exact e (Option.some.inj this)
      simp [hk]
theorem fill_other {D : List Nat} {f : Nat → Value} {t : Array Value} {L : Nat → Bool} {s : Nat} (hs : s ∉ D) : (fillT D f L t).getD s undef = t.getD s undef := by
  have : (fillT D f L t)[s]? = t[s]? := by
    rw [fillT, Array.getElem?_mapIdx, List.idxOf?_eq_none_iff.2 hs]
    simp
  simp only [Array.getD_eq_getD_getElem?, this]
theorem fill_done {D : List Nat} {f : Nat → Value} {t : Array Value} {L : Nat → Bool} (hn : D.Nodup) {j d : Nat} (hj : D[j]? = some d) (hd : d < t.size) (hL : L j = true) : (fillT D f L t).getD d undef = f j := by
  have : (fillT D f L t)[d]? = some (f j) := by
    rw [fillT, Array.getElem?_mapIdx, idx_get hn hj]
    simp [hd, hL]
  simp only [Array.getD_eq_getD_getElem?, this, Option.getD_some]

/-- each operation waits for earlier ones alone -/
def afterB (l : List Oper) : Bool := (List.range l.length).all fun i => match l[i]? with
  | some o => o.after.all fun e => !Region.binds .any e || decide (e.on < i)
  | none => true

/-- what is asked of an operation: where the others that it waits for have come up, it answers as said -/
def StepR (P : Program) (Q : Exit → Act → World → Prop) (a0 : Act) (w : World) (D : List Nat) (R : Nat → Value → World → Prop) (i : Nat) (o : Oper) : Prop :=
  ∀ (a : Act) (W : World), Kept (fun _ => False) w W → (∀ s, s ∉ D → a.eval (.tmp s) = a0.eval (.tmp s)) →
    (∀ e ∈ o.after, Region.binds .any e = true → ∀ d, D[e.on]? = some d → R e.on (a.eval (.tmp d)) W) →
    ∀ K : Act → World → Prop, (∀ v W', Kept (fun _ => False) W W' → R i v W' → K (a.put o.dst v) W') → o.wp P a W K Q
def StepsR (P : Program) (Q : Exit → Act → World → Prop) (a0 : Act) (w : World) (D : List Nat) (R : Nat → Value → World → Prop) : List Oper → Nat → Prop
  | [], _ => True
  | o :: r, i => StepR P Q a0 w D R i o ∧ StepsR P Q a0 w D R r (i + 1)
theorem StepsR.get {P : Program} {Q : Exit → Act → World → Prop} {a0 : Act} {w : World} {D : List Nat} {R : Nat → Value → World → Prop} {l : List Oper} : ∀ {k : Nat}, StepsR P Q a0 w D R l k → ∀ {i : Nat} {o : Oper}, l[i]? = some o → StepR P Q a0 w D R (k + i) o := by
  induction l with
  | nil => intro k _ i o e; simp at e
  | cons x r ih =>
    intro k h i o e
    obtain ⟨h1, h2⟩ := h
    cases i with
    | zero =>
      rw [List.getElem?_cons_zero] at e
      cases e
      exact h1
    | succ i =>
      rw [List.getElem?_cons_succ] at e
      have := ih h2 e
      rwa [show k + 1 + i = k + (i + 1) by omega] at this

theorem wp_region_grow {P : Program} {id : Nat} {Q : Exit → Act → World → Prop} {a0 : Act} {w : World} {l : List Oper} (D : List Nat) (R : Nat → Value → World → Prop) (hm : P.follows .mixedOrders = true)
    (hD : l.map (·.dst) = D.map some) (hn : D.Nodup) (hg : l.all (fun o => o.guard.isNone) = true) (hb : D.all (fun d => decide (d < a0.tmps.size)) = true) (ha : afterB l = true)
    (hmono : ∀ i v W W', Kept (fun _ => False) W W' → R i v W → R i v W')
    (hstep : StepsR P Q a0 w D R l 0)
    (hend : ∀ (f : Nat → Value) (W : World), Kept (fun _ => False) w W → (∀ i, i < l.length → R i (f i) W) → Q .normal (puts a0 D 0 f) W) : (Code.region id l.toArray true).wp P Q a0 w := by
  have hlen : l.length = D.length := by simpa using congrArg List.length hD
  have hdst : ∀ (i : Nat) (o : Oper), l[i]? = some o → ∃ d, D[i]? = some d ∧ o.dst = some d := by
    intro i o ho
    have hi := (List.getElem?_eq_some_iff.1 ho).1
    have h1 : (l.map (·.dst))[i]? = some o.dst := by simp [ho]
    rw [hD, List.getElem?_map] at h1
    cases hd : D[i]? with
    | none => rw [hd] at h1; simp at h1
    | some d => rw [hd] at h1; exact ⟨d, rfl, (Option.some.inj h1).symm⟩
  have hrep : ∀ j, (Array.replicate l.toArray.size false).getD j false = false := by
    intro j
    rw [Array.getD_eq_getD_getElem?, Array.getElem?_replicate]
    split <;> rfl
  refine wp_region_any hm ?_
  refine wpAny_inv (fun L a W => Kept (fun _ => False) w W ∧ L.size = l.length ∧ ∃ f : Nat → Value, a = { a0 with tmps := fillT D f (fun j => L.getD j false) a0.tmps } ∧ ∀ i, i < l.length → L.getD i false = true → R i (f i) W) ?_ ?_ _ _ _ _ ?_ ?_
  · rintro L a W ⟨hk, hs, f, rfl, hR⟩ hr
    have hall : ∀ n i, i < n → i < l.length → L.getD i false = true := by
      intro n
      induction n with
      | zero => intro i hi; omega
      | succ n ih =>
        intro i hi hil
        cases hv : L.getD i false with
        | true => rfl
        | false =>
          exfalso
          have : i ∈ Region.ready .any l.toArray L := by
            refine mem_ready.2 ⟨?_, l[i], by simp [hil], fun e he hbd => ?_⟩
            · have h1 : i < L.size := by omega
              simpa [h1] using hv
            · have h2 : e.on < i := by
                have h3 := List.all_eq_true.1 ha i (by simpa using hil)
                rw [List.getElem?_eq_getElem hil] at h3
                have h4 := Array.all_eq_true_iff_forall_mem.1 h3 e he
                simpa [hbd] using h4
              exact ih e.on (by omega) (by omega)
          rw [hr] at this
          cases this
    rw [fill_all hn (fun j hj => hall (j + 1) j (by omega) (by omega))]
    exact hend f W hk (fun i hi => hR i hi (hall (i + 1) i (by omega) hi))
  · rintro L a W ⟨hk, hs, f, rfl, hR⟩ i hi K hK o ho
    have hol : l[i]? = some o := by simpa using ho
    have hil : i < l.length := (List.getElem?_eq_some_iff.1 hol).1
    obtain ⟨d, hd, hod⟩ := hdst i o hol
    have hgo : o.guard = none := by
      have := List.all_eq_true.1 hg o (List.mem_of_getElem? hol)
      simpa using this
    have hw : Region.wanted o (yielded l.toArray ({ a0 with tmps := fillT D f (fun j => L.getD j false) a0.tmps } : Act).tmps) = true := by simp [Region.wanted, hgo]
    rw [if_pos hw]
    obtain ⟨_, o', ho', hdeps⟩ := mem_ready.1 hi
    rw [ho] at ho'
    cases ho'
    have hst := hstep.get hol
    rw [Nat.zero_add] at hst
    refine hst _ W hk (fun s hs => ?_) (fun e he hbd d' hd' => ?_) K (fun v W' hk' hv => hK _ _ ⟨hk.trans hk' (fun _ _ f => f), by simpa using hs, fun k => if k = i then v else f k, ?_, fun k hkl hLk => ?_⟩)
    · simp only [Act.eval]
      exact fill_other hs
    · have hdl : d' < a0.tmps.size := by
        have := List.all_eq_true.1 hb d' (List.mem_of_getElem? hd')
        simpa using this
      have hel : e.on < l.length := by rw [hlen]; exact (List.getElem?_eq_some_iff.1 hd').1
      have e1 : (({ a0 with tmps := fillT D f (fun j => L.getD j false) a0.tmps } : Act).eval (.tmp d')) = f e.on := fill_done hn hd' hdl (hdeps e he hbd)
      rw [e1]
      exact hR e.on hel (hdeps e he hbd)
    · simp only [hod, Act.put]
      rw [fill_set hn hd]
      congr 2
      funext k
      by_cases hki : k = i
      · subst hki
        have : k < L.size := by omega
        simp [this]
      · simp [hki, Ne.symm hki]
    · by_cases hki : k = i
      · subst hki
        simpa using hv
      · simp only [hki, if_false]
        refine hmono k _ W W' hk' (hR k hkl ?_)
        simpa [Array.getElem?_setIfInBounds, Ne.symm hki] using hLk
  · refine ⟨(Kept.refl _ _).drew, by simp, fun _ => undef, ?_, fun i hi hL => ?_⟩
    · rw [fill_none (fun j hj => hrep j)]
    · rw [hrep i] at hL; cases hL
  · simp [cntF]
end Go.Proofs.YtdbpdanocpfboaaDoor

namespace Go.Proofs.YtdbpdanocpfboaaDoor
open Go.RowKit

set_option maxRecDepth 100000 in
set_option maxHeartbeats 1000000 in
theorem places44 (w : World) (B : Nat) (v : Value) (hd lp : List Int) (hW : WordV B w v hd lp) : Calls Tryd.prog 44 #[v] w fun e w' => Kept (fun _ => False) w w' ∧ e = .returned (.int .i64 ((hd.length + lp.length : Nat) : Int)) := by
  obtain ⟨hv1, lv1, rfl, h1, h2⟩ := id hW
  obtain ⟨ha, hc, rfl, hl1⟩ := h1.form
  obtain ⟨la, lc, rfl, hl2⟩ := h2.form
  clear hW h1 h2
  go_enter Tryd.func44, Tryd.ntmps44
  go_wp2
  go_ret
  exact ⟨(Kept.refl _ _).alloc _, ret_int (by omega)⟩

theorem truths27g (w : World) (B : Nat) (fv wv : Value) (hd lp : List Int) (t : Tr) (hW : WordV B w wv hd lp) (hF : FormV B w fv t) (hB : B ≤ w.heap.size) (hT : TabK w) (hB2 : 2 ≤ B) (hsz : t.size ≤ 268435456) (hg : goodW hd lp = true) (ht : t.well) :
    Calls Tryd.prog 27 #[fv, wv] w fun e w' => ∃ b n, e = .returned (.slice (some ⟨b, 0, none⟩) n n) ∧ n = hd.length + lp.length ∧ Kept (fun _ => False) w w' ∧ ∀ i, i < n → w'.cell? ⟨b, i, none⟩ = some (.bool ((tvT (hd ++ lp) hd.length t).getD i false)) := by
  refine (truths27 w B fv wv hd lp t hW hF hB hT hB2 hsz).mono ?_
  rintro e w' ⟨hk, ⟨h, _⟩ | ⟨_, _, b, v, rfl, _, hr⟩⟩
  · exact absurd ⟨hg, ht⟩ h
  · have hl := tvT_len (hd ++ lp) hd.length (by have := (goodW_len hg).2; simp; omega) t ht
    obtain ⟨r1, r2, r3⟩ := hr
    refine ⟨b, _, by rw [r1], by rw [hl]; simp, hk, fun i hi => ?_⟩
    have := (r3 i hi).1
    rw [this, List.getD_eq_getElem?_getD, List.getElem?_eq_getElem hi]
    rfl

theorem holds33g (w : World) (B : Nat) (fv wv : Value) (hd lp : List Int) (t : Tr) (z : Bool) (hz : (tvT (hd ++ lp) hd.length t).headD false = z) (hW : WordV B w wv hd lp) (hF : FormV B w fv t) (hB : B ≤ w.heap.size) (hT : TabK w) (hB2 : 2 ≤ B) (hsz : t.size ≤ 268435456) (hg : goodW hd lp = true) (ht : t.well) :
    Calls Tryd.prog 33 #[fv, wv] w fun e w' => Kept (fun _ => False) w w' ∧ e = .returned (.bool z) := by
  subst hz
  refine (holds33 w B fv wv hd lp t hW hF hB hT hB2 hsz).mono ?_
  rintro e w' ⟨hk, ⟨h, _⟩ | ⟨_, _, h⟩⟩
  · exact absurd ⟨hg, ht⟩ h
  · exact ⟨hk, h⟩
theorem FVS.agg {S : Nat → Prop} {w : World} {v : Value} {t : Tr} (h : FVS S w v t) : ∃ op n a l c, v = .agg #[.int .i64 op, .int .i64 n, .slice a l c] := by
  obtain ⟨op, n, kids⟩ := t
  obtain ⟨ka, kb, ko, kc, e, _⟩ := h
  exact ⟨_, _, _, _, _, e⟩

/-- a Form's box -/
def Bx3 (W : World) (b : Nat) (x y z : Value) : Prop := W.cell? ⟨b, 0, none⟩ = some x ∧ W.cell? ⟨b, 1, none⟩ = some y ∧ W.cell? ⟨b, 2, none⟩ = some z
theorem Bx3.kept {W W' : World} {b : Nat} {x y z : Value} (h : Bx3 W b x y z) (hk : Kept (fun _ => False) W W') : Bx3 W' b x y z :=
  ⟨(hk.cell (lt_of_cell h.1) (fun f => f)).trans h.1, (hk.cell (lt_of_cell h.2.1) (fun f => f)).trans h.2.1, (hk.cell (lt_of_cell h.2.2) (fun f => f)).trans h.2.2⟩

theorem FormV.new {w w' : World} {v : Value} {t : Tr} (h : FormV w.heap.size w v t) (hk : Kept (fun _ => False) w w') : FormV w'.heap.size w' v t := (h.below (hk.below (Nat.le_refl _) (fun _ f => f.elim))).mono hk.size
end Go.Proofs.YtdbpdanocpfboaaDoor

namespace Go.Proofs.YtdbpdanocpfboaaDoor
open Go.RowKit

theorem wp_value {P : Program} {o : Oper} {a : Act} {W W' : World} {K : Act → World → Prop} {Q : Exit → Act → World → Prop} {v : Value} (h : (execOp a.eval o).run P W = .ok (.value v) W') (hK : K (a.put o.dst v) W') : o.wp P a W K Q := by
  unfold Oper.wp; rw [h]; exact hK
theorem wp_enter {P : Program} {o : Oper} {a : Act} {W W' : World} {K : Act → World → Prop} {Q : Exit → Act → World → Prop} {f : FuncId} {args : Array Value} {R : Ending → World → Prop} (h : (execOp a.eval o).run P W = .ok (.enter f args) W') (hc : Calls P f args W' R) (hK : ∀ e w', R e w' → ∃ v, e = .returned v ∧ K (a.put o.dst v) w') : o.wp P a W K Q := by
  unfold Oper.wp
  rw [h]
  refine Calls.mono hc (fun e w' he => ?_)
  obtain ⟨v, rfl, hk⟩ := hK e w' he
  exact hk

/-- what an operation answers: a value; or a formula, in whatever memory -/
inductive Sp where
  | val (v : Value)
  | form (t : Tr)
def Sp.ok : Sp → Value → World → Prop
  | .val x, v, _ => v = x
  | .form t, v, W => FormV W.heap.size W v t
theorem Sp.mono {s : Sp} {v : Value} {W W' : World} (hk : Kept (fun _ => False) W W') (h : s.ok v W) : s.ok v W' := by
  cases s with
  | val x => exact h
  | form t => exact FormV.new h hk
def specR (l : List Sp) (i : Nat) (v : Value) (W : World) : Prop := (l.getD i (.val undef)).ok v W
theorem wp_region_spec {P : Program} {id : Nat} {Q : Exit → Act → World → Prop} {a0 : Act} {w : World} {l : List Oper} (D : List Nat) (S : List Sp) (hm : P.follows .mixedOrders = true)
    (hD : l.map (·.dst) = D.map some) (hn : D.Nodup) (hg : l.all (fun o => o.guard.isNone) = true) (hb : D.all (fun d => decide (d < a0.tmps.size)) = true) (ha : afterB l = true)
    (hstep : StepsR P Q a0 w D (specR S) l 0)
    (hend : ∀ (f : Nat → Value) (W : World), Kept (fun _ => False) w W → (∀ i, i < l.length → specR S i (f i) W) → Q .normal (puts a0 D 0 f) W) : (Code.region id l.toArray true).wp P Q a0 w :=
  wp_region_grow D (specR S) hm hD hn hg hb ha (fun _ _ _ _ hk h => Sp.mono hk h) hstep hend
end Go.Proofs.YtdbpdanocpfboaaDoor
