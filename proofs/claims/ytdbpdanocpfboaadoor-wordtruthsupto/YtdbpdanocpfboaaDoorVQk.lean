/- A region that draws its order, whose operations read and whose callees make new blocks alone: one walk. -/
import Derived.Test.YtdbpdanocpfboaaDoorVKept
namespace Go.Proofs.YtdbpdanocpfboaaDoor
open Go.RowKit

def KW (w : World) : Type := {U : World // Kept (fun _ => False) w U}
instance (w : World) : Nonempty (KW w) := ⟨⟨w, Kept.refl _ _⟩⟩
theorem KW.cell {w : World} (U : KW w) {p : Addr} {v : Value} (h : w.cell? p = some v) : U.1.cell? p = some v := (U.2.cell (lt_of_cell h) (fun f => f)).trans h
theorem wp_region_quiet_kept {P : Program} {id : Nat} {Q : Exit → Act → World → Prop} {a : Act} {w : World} {l : List Oper} (hm : P.follows .mixedOrders = true) (hB : Region.lexB .any l.toArray = true)
    (h : wpQuiet P l.toArray (fun w' => ∃ U : KW w, w' = U.1) (fun a' => ∀ w', (∃ U : KW w, w' = U.1) → Q .normal a' w') l a) : (Code.region id l.toArray true).wp P Q a w :=
  wp_region_quiet (C := fun w' => ∃ U : KW w, w' = U.1) hm hB ⟨⟨w.drew, (Kept.refl _ _).drew⟩, rfl⟩ (by simpa using h)
theorem Calls.quiet_kept {P : Program} {f : FuncId} {args : Array Value} {w : World} {U : KW w} {v : Value}
    (h : Calls P f args U.1 fun e w' => Kept (fun _ => False) U.1 w' ∧ e = .returned v) : Calls P f args U.1 fun e w'' => e = .returned v ∧ ∃ U' : KW w, w'' = U'.1 :=
  h.mono fun _ w' ⟨hk, he⟩ => ⟨he, ⟨w', U.2.trans hk (fun _ _ f => f)⟩, rfl⟩
end Go.Proofs.YtdbpdanocpfboaaDoor
