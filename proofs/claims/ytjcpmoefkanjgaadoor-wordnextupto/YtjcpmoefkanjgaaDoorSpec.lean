/- What the operations of a region answer, told by lists. -/
import Derived.Test.YtjcpmoefkanjgaaDoorMany
import Derived.Test.YtjcpmoefkanjgaaDoorPre
namespace Go.Proofs.YtjcpmoefkanjgaaDoor
open Go.RowKit

theorem wp_value {P : Program} {o : Oper} {a : Act} {W W' : World} {K : Act → World → Prop} {Q : Exit → Act → World → Prop} {v : Value} (h : (execOp a.eval o).run P W = .ok (.value v) W') (hK : K (a.put o.dst v) W') : o.wp P a W K Q := by
  unfold Oper.wp; rw [h]; exact hK
theorem wp_enter {P : Program} {o : Oper} {a : Act} {W W' : World} {K : Act → World → Prop} {Q : Exit → Act → World → Prop} {f : FuncId} {args : Array Value} {R : Ending → World → Prop} (h : (execOp a.eval o).run P W = .ok (.enter f args) W') (hc : Calls P f args W' R) (hK : ∀ e w', R e w' → ∃ v, e = .returned v ∧ K (a.put o.dst v) w') : o.wp P a W K Q := by
  unfold Oper.wp
  rw [h]
  refine Calls.mono hc (fun e w' he => ?_)
  obtain ⟨v, rfl, hk⟩ := hK e w' he
  exact hk

/-- what an operation answers: a value; or a formula, in whatever memory -/
inductive Sp where
  | val (v : Value)
  | form (t : Tr)
def Sp.ok : Sp → Value → World → Prop
  | .val x, v, _ => v = x
  | .form t, v, W => FormV W.heap.size W v t
theorem Sp.mono {s : Sp} {v : Value} {W W' : World} (hk : Kept (fun _ => False) W W') (h : s.ok v W) : s.ok v W' := by
  cases s with
  | val x => exact h
  | form t => exact FormV.new h hk
def specR (l : List Sp) (i : Nat) (v : Value) (W : World) : Prop := (l.getD i (.val undef)).ok v W
theorem wp_region_spec {P : Program} {id : Nat} {Q : Exit → Act → World → Prop} {a0 : Act} {w : World} {l : List Oper} (D : List Nat) (S : List Sp) (hm : P.follows .mixedOrders = true)
    (hD : l.map (·.dst) = D.map some) (hn : D.Nodup) (hg : l.all (fun o => o.guard.isNone) = true) (hb : D.all (fun d => decide (d < a0.tmps.size)) = true) (ha : afterB l = true)
    (hstep : StepsR P Q a0 w D (specR S) l 0)
    (hend : ∀ (f : Nat → Value) (W : World), Kept (fun _ => False) w W → (∀ i, i < l.length → specR S i (f i) W) → Q .normal (puts a0 D 0 f) W) : (Code.region id l.toArray true).wp P Q a0 w :=
  wp_region_grow D (specR S) hm hD hn hg hb ha (fun _ _ _ _ hk h => Sp.mono hk h) hstep hend
end Go.Proofs.YtjcpmoefkanjgaaDoor
