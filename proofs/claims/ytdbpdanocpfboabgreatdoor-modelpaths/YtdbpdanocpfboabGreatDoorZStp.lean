import Derived.Test.YtdbpdanocpfboabGreatDoorZRgn
/- Steps of a region that draws its order. -/
namespace Go.Proofs.YtdbpdanocpfboabGreatDoor
open Go.RowKit

theorem wp_skip {P : Program} {o : Oper} {a : Act} {W W' : World} {K : Act → World → Prop} {Q : Exit → Act → World → Prop} (h : (execOp a.eval o).run P W = .ok .skip W') (hK : K (a.put o.dst undef) W') : o.wp P a W K Q := by
  unfold Oper.wp; rw [h]; exact hK
section
variable {P : Program} {Q : Exit → Act → World → Prop} {w : World} {a0 : Act} {D : List Nat} {R : Nat → Value → World → Prop} {i : Nat} {o : Oper}
/-- what an operation may know -/
def KnowN (w : World) (a0 : Act) (D : List Nat) (R : Nat → Value → World → Prop) (o : Oper) (a : Act) (W : World) : Prop :=
  Kept (fun _ => False) w W ∧ (∀ s, s ∉ D → a.eval (.tmp s) = a0.eval (.tmp s)) ∧ (∀ e ∈ o.after, Region.binds .any e = true → ∀ d, D[e.on]? = some d → d < a0.tmps.size → R e.on (a.eval (.tmp d)) W)
theorem KnowN.dep {a : Act} {W : World} (h : KnowN w a0 D R o a W) (j d : Nat) (hj : (⟨j, .data⟩ : Edge) ∈ o.after) (hd : D[j]? = some d) (hl : d < a0.tmps.size) : R j (a.eval (.tmp d)) W := h.2.2 ⟨j, .data⟩ hj rfl d hd hl
theorem KnowN.old {a : Act} {W : World} (h : KnowN w a0 D R o a W) (s : Nat) (hs : s ∉ D) : a.eval (.tmp s) = a0.eval (.tmp s) := h.2.1 s hs
/-- an operation that answers a value, with no change of the world -/
theorem stepN_val {v : Value} (hg : o.guard = none) (h : ∀ a W, KnowN w a0 D R o a W → (execOp a.eval o).run P W = .ok (.value v) W) (hR : ∀ W, Kept (fun _ => False) w W → R i v W) : StepN P Q w a0 D R i o := by
  intro a W hk hq hd Y hY K hK
  have hw : Region.wanted o Y = true := by simp [Region.wanted, hg]
  rw [if_pos hw]
  exact wp_value (h a W ⟨hk, hq, hd⟩) (hK v W (Kept.refl _ _) (hR W hk))
/-- the same, where the value is known of each world alone -/
theorem stepN_any (hg : o.guard = none) (h : ∀ a W, KnowN w a0 D R o a W → ∃ v W', (execOp a.eval o).run P W = .ok (.value v) W' ∧ Kept (fun _ => False) W W' ∧ R i v W') : StepN P Q w a0 D R i o := by
  intro a W hk hq hd Y hY K hK
  have hw : Region.wanted o Y = true := by simp [Region.wanted, hg]
  rw [if_pos hw]
  obtain ⟨v, W', h1, h2, h3⟩ := h a W ⟨hk, hq, hd⟩
  exact wp_value h1 (hK v W' h2 h3)
/-- a call -/
theorem stepN_call (hg : o.guard = none) (h : ∀ a W, KnowN w a0 D R o a W → ∃ f args, (execOp a.eval o).run P W = .ok (.enter f args) W ∧ Calls P f args W fun e W' => ∃ v, e = .returned v ∧ Kept (fun _ => False) W W' ∧ R i v W') : StepN P Q w a0 D R i o := by
  intro a W hk hq hd Y hY K hK
  have hw : Region.wanted o Y = true := by simp [Region.wanted, hg]
  rw [if_pos hw]
  obtain ⟨f, args, h1, h2⟩ := h a W ⟨hk, hq, hd⟩
  refine wp_enter h1 h2 ?_
  rintro e W' ⟨v, rfl, hk', hv⟩
  exact ⟨v, rfl, hK v W' hk' hv⟩
/-- an operation that is not wanted -/
theorem stepN_no {j d : Nat} {b c : Bool} (hg : o.guard = some (j, b)) (hj : (⟨j, .guard⟩ : Edge) ∈ o.after) (hd : D[j]? = some d) (hl : d < a0.tmps.size) (hR : ∀ v W, R j v W → v = .bool c) (hc : c ≠ b) (hi : ∀ v W, R i v W) : StepN P Q w a0 D R i o := by
  intro a W hk hq hdp Y hY K hK
  have e := hR _ _ (hdp ⟨j, .guard⟩ hj rfl d hd hl)
  have hy := hY j d c hd hl e
  have hw : ¬ Region.wanted o Y = true := by simp [Region.wanted, hg, hy, hc]
  rw [if_neg hw]
  exact hK undef W (Kept.refl _ _) (hi _ _)
/-- an operation that is -/
theorem stepN_yes {j d : Nat} {b : Bool} (hg : o.guard = some (j, b)) (hj : (⟨j, .guard⟩ : Edge) ∈ o.after) (hd : D[j]? = some d) (hl : d < a0.tmps.size) (hR : ∀ v W, R j v W → v = .bool b) (h : StepN P Q w a0 D R i { o with guard := none }) : StepN P Q w a0 D R i o := by
  intro a W hk hq hdp Y hY K hK
  have e := hR _ _ (hdp ⟨j, .guard⟩ hj rfl d hd hl)
  have hy := hY j d b hd hl e
  have hw : Region.wanted o Y = true := by simp [Region.wanted, hg, hy]
  rw [if_pos hw]
  have h2 := h a W hk hq hdp Y hY K hK
  have hw2 : Region.wanted { o with guard := none } Y = true := rfl
  rw [if_pos hw2] at h2
  exact h2
end

/-- new blocks, and the last operation, which waits for all others, as it likes -/
theorem wp_region_L {P : Program} {id : Nat} {Q : Exit → Act → World → Prop} {a0 : Act} {w : World} {l : List Oper} (D : List Nat) (R : Nat → Value → World → Prop) (Z : World → Prop) (hm : P.follows .mixedOrders = true)
    (hD : dstB a0.tmps.size l D = true) (hn : D.Nodup) (ha : afterB l = true) (hN : needB l (l.length - 1) (onsB l (l.length - 1)) = true) (h0 : l ≠ [])
    (hmono : ∀ i v W W', Kept (fun _ => False) W W' → R i v W → R i v W')
    (hstep : StepsN P Q w a0 D R l.dropLast 0)
    (hlast : ∀ (a : Act) (W : World), KnowN w a0 D R (l.getLast h0) a W → (l.getLast h0).guard = none ∧ ∀ K : Act → World → Prop, (∀ v W', Z W' → K (a.put (l.getLast h0).dst v) W') → (l.getLast h0).wp P a W K Q)
    (hend : ∀ (f : Nat → Value) (W : World), Z W → Q .normal (puts a0 D 0 f) W) : (Code.region id l.toArray true).wp P Q a0 w := by
  have e : l.dropLast ++ [l.getLast h0] = l := List.dropLast_concat_getLast h0
  have el : l.dropLast.length = l.length - 1 := List.length_dropLast
  rw [← e]
  refine wp_region_S (l.getLast h0) D R Z hm (by rw [e]; exact hD) hn (by rw [e]; exact ha) (by rw [e, el]; exact hN) hmono hstep (fun a W h1 h2 h3 => hlast a W ⟨h1, h2, h3⟩) hend
end Go.Proofs.YtdbpdanocpfboabGreatDoor
