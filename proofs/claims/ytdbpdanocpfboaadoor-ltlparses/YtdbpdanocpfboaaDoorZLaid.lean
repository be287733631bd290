import Derived.Test.YtdbpdanocpfboaaDoorZPq1
import Derived.Test.YtdbpdanocpfboaaDoorZPl2
import Derived.Test.YtdbpdanocpfboaaDoorCards
import Derived.Test.YtdbpdanocpfboaaDoorTie
import Derived.WalkKit
import Derived.ProofKit
import Derived.OpenShut
import Derived.Deep.DeepHandedRow
import Derived.Lib.LaidTab
import Derived.SizedLaws
import Derived.ChangeSlices
import Derived.ChangeMaps5
/- What the rows give: the three tables, out of the row's condition; and a world for the witness. -/
namespace Go.Proofs.YtdbpdanocpfboaaDoor
open Go.ChangeShapes Go.WideShapes Go.ChangeAt Go.RowKit

theorem own : ownKnob Tryd.prog.godebug = none := by kernel_rfl
theorem gTabK : Tryd.prog.globalNamed "vigil/nodes.kidCounts" = some 1 := by kernel_rfl
theorem gTabT : Tryd.prog.globalNamed "vigil/nodes.turned" = some 2 := by kernel_rfl
theorem gTabS : Tryd.prog.globalNamed "vigil/ltl.kinds" = some 0 := by kernel_rfl
theorem laidOut : laidOutB Tryd.prog = true := by kernel_rfl

/-- one table of integers at the head of what is laid -/
theorem laid_ints {P : Program} {W : World} {name : String} {k : IntKind} {zs : List Int} {rest : List (String × DataW Unit)} {ps : List MemPlace} {g : Nat} {t e : TypeId} {n : Nat}
    (hg : P.globalNamed name = some g) (hty : (P.globals[g]?).map (·.type) = some t) (ht : P.underlying t = some (.array n e)) (he : P.underlying e = some (.int k)) (hce : P.cellsOf e = 1) (hct : P.cellsOf t = n)
    (h : DataW.LaidVars P W ((name, Lib.tabData k zs) :: rest) ps) : Lib.TabIs P W name k zs ∧ ∃ q, DataW.LaidVars P W rest q := by
  obtain ⟨g', t', cs, fuel, p, q, hg', ht', hvar, hd, hr, _⟩ := h
  obtain rfl := Option.some.inj (hg.symm.trans hg')
  obtain rfl := Option.some.inj (hty.symm.trans ht')
  refine ⟨?_, q, hr⟩
  unfold Lib.TabIs
  rw [hvar, ← Lib.cells_of_tab ht he hce hct hd]

/-- a table of pairs, a text and a number each -/
def pairData {H : Type} (ks : List (List UInt8 × Int)) : DataW H := .agg (ks.map fun k => .agg [.lit (.string k.1), .lit (.int .i64 k.2)])

theorem cells_of_pairs {H : Type} {enc : TypeId × Value → H} {P : Program} {w : World} {base : Nat} {sp : Nat → Bool} {held : Bool} {fuel : Nat} {t e a b : TypeId} {f0 f1 : Field} {n : Nat} {cs : List Value} {ks : List (List UInt8 × Int)} {p : List MemPlace}
    (ht : P.underlying t = some (.array n e)) (he : P.underlying e = some (.struct #[f0, f1])) (h0 : f0.type = a) (h1 : f1.type = b) (o0 : f0.offset = 0) (o1 : f1.offset = 1) (ha : P.underlying a = some .string) (hb : P.underlying b = some (.int .i64)) (ca : P.cellsOf a = 1) (cb : P.cellsOf b = 1) (ce : P.cellsOf e = 2)
    (h : DataW.trod enc P w base sp held fuel t cs = some (pairData ks, p)) : ∀ (j : Nat) (k : List UInt8 × Int), ks[j]? = some k → cs[2 * j]? = some (.string ⟨k.1.toArray⟩) ∧ cs[2 * j + 1]? = some (.int .i64 k.2) := by
  obtain ⟨xs, m, _, hx, hl, hxn, hf⟩ := DataW.trod_array ht h
  intro j k hk
  have hxs : xs.map (·.1) = ks.map fun k => (.agg [.lit (.string k.1), .lit (.int .i64 k.2)] : DataW H) := by
    have := congrArg Prod.fst hx
    simp only [pairData] at this
    injection this with this
    exact this.symm
  have hkl : ks.length = n := by
    have := congrArg List.length hxs
    simp at this
    omega
  have hj : j < n := by rw [← hkl]; exact (List.getElem?_eq_some_iff.1 hk).1
  obtain ⟨y, hy⟩ : ∃ y, xs[j]? = some y := ⟨xs[j]'(by omega), List.getElem?_eq_getElem (by omega)⟩
  have hy1 : y.1 = .agg [.lit (.string k.1), .lit (.int .i64 k.2)] := by
    have h3 : (xs.map (·.1))[j]? = some y.1 := by rw [List.getElem?_map, hy]; rfl
    rw [hxs, List.getElem?_map, hk] at h3
    exact (Option.some.inj h3).symm
  have hf' := hf j hj
  rw [hy, ce] at hf'
  obtain ⟨y0, y1, m', e', hl', t0, t1⟩ := trod_struct2 he hf'
  rw [h0, o0, ca] at t0
  rw [h1, o1, cb] at t1
  obtain ⟨s, c0, rfl, _⟩ := DataW.trod_string ha t0
  obtain ⟨z, c1, rfl, _⟩ := DataW.trod_int hb t1
  rw [e'] at hy1
  simp only [DataW.agg.injEq, List.cons.injEq, DataW.lit.injEq, Lit.string.injEq, Lit.int.injEq, true_and, and_true] at hy1
  obtain ⟨q1, q2⟩ := hy1
  constructor
  · have := congrArg (·[0]?) c0
    simp only [List.drop_zero, List.getElem?_take, List.getElem?_drop] at this
    rw [Nat.mul_comm 2 j]
    rw [← q1]
    simpa using this
  · have := congrArg (·[0]?) c1
    simp only [List.getElem?_take, List.getElem?_drop] at this
    rw [Nat.mul_comm 2 j]
    rw [← q2]
    simpa [Nat.add_comm] using this

theorem gK : (Tryd.prog.globals[1]?).map (·.type) = some 182 := by kernel_rfl
theorem gS : (Tryd.prog.globals[0]?).map (·.type) = some 141 := by kernel_rfl
theorem gT : (Tryd.prog.globals[2]?).map (·.type) = some 185 := by kernel_rfl
theorem cells182 : Tryd.prog.cellsOf 182 = 12 := by kernel_rfl
theorem cells185 : Tryd.prog.cellsOf 185 = 10 := by kernel_rfl
theorem cells3 : Tryd.prog.cellsOf 3 = 1 := by kernel_rfl
theorem cells9 : Tryd.prog.cellsOf 9 = 1 := by kernel_rfl
theorem cells140 : Tryd.prog.cellsOf 140 = 2 := by kernel_rfl

def kindList : List (List UInt8 × Int) := [([116, 114, 117, 101], 0), ([102, 97, 108, 115, 101], 0), ([], 0), ([33], 1), ([38], 2), ([124], 2), ([45, 62], 2), ([88], 1), ([85], 2), ([82], 2), ([70], 1), ([71], 1)]

theorem tabs_of {W : World} (h : laidMetH Tryd.prog [("vigil/nodes.kidCounts", Rows.laid_vigil_nodes_kidCounts), ("vigil/nodes.turned", Rows.laid_vigil_nodes_turned), ("vigil/ltl.kinds", Rows.laid_vigil_ltl_kinds)] W) : TabS W ∧ TabK W ∧ TabT W := by
  obtain ⟨ps, hv, _⟩ := (show laidMet Tryd.prog [("vigil/nodes.kidCounts", Lib.tabData .i64 [0, 0, 0, 1, 2, 2, 2, 1, 2, 2, 1, 1]), ("vigil/nodes.turned", Lib.tabData .i64 [0, 0, 0, 0, 5, 4, 0, 7, 9, 8]), ("vigil/ltl.kinds", pairData kindList)] W from h)
  obtain ⟨hK, q, hv⟩ := laid_ints gTabK gK Tryd.underlying182 Tryd.underlying3 cells3 cells182 hv
  obtain ⟨hT, q, hv⟩ := laid_ints gTabT gT Tryd.underlying185 Tryd.underlying3 cells3 cells185 hv
  obtain ⟨g', t', cs, fuel, p, q, hg', ht', hvar, hd, hr, _⟩ := hv
  obtain rfl := Option.some.inj (gTabS.symm.trans hg')
  obtain rfl := Option.some.inj (gS.symm.trans ht')
  have hc := cells_of_pairs Tryd.underlying141 Tryd.underlying140 rfl rfl rfl rfl Tryd.underlying9 Tryd.underlying3 cells9 cells3 cells140 hd
  refine ⟨fun j hj => ?_, fun j hj => ?_, fun j hj => ?_⟩
  · have h0 := World.var?_cell gTabS hvar (2 * j)
    have h1 := World.var?_cell gTabS hvar (2 * j + 1)
    have hcj := hc j (kindList[j]'hj) (List.getElem?_eq_getElem hj)
    rw [Array.getElem?_toList] at hcj
    rw [h0, h1]
    rw [Array.getElem?_toList] at hcj
    rw [hcj.1, hcj.2]
    clear h0 h1 hcj
    match j, hj with
    | 0, _ | 1, _ | 2, _ | 3, _ | 4, _ | 5, _ | 6, _ | 7, _ | 8, _ | 9, _ | 10, _ | 11, _ => exact ⟨rfl, rfl⟩
  · have := hK.cell gTabK j (by simpa using hj)
    rw [this, kidC]
    simp
  · have := hT.cell gTabT j (by simpa using hj)
    rw [this]

/-- a block with other cells -/
def refill (cs : Array Value) : Obj → Obj
  | .cells _ t frozen => .cells cs t frozen
  | o => o
/-- a world for the witness: the tables hold what their initialisers lay -/
noncomputable def laidWorld (os : Os) : World :=
  { World.holding Tryd.prog os ⟨#[], #[], []⟩ with
    heap := (((World.holding Tryd.prog os ⟨#[], #[], []⟩).heap.modify 1 (refill #[.int .i64 0, .int .i64 0, .int .i64 0, .int .i64 1, .int .i64 2, .int .i64 2, .int .i64 2, .int .i64 1, .int .i64 2, .int .i64 2, .int .i64 1, .int .i64 1])).modify 2
      (refill #[.int .i64 0, .int .i64 0, .int .i64 0, .int .i64 0, .int .i64 5, .int .i64 4, .int .i64 0, .int .i64 7, .int .i64 9, .int .i64 8])).modify 0
      (refill #[.string ⟨#[116, 114, 117, 101]⟩, .int .i64 0, .string ⟨#[102, 97, 108, 115, 101]⟩, .int .i64 0, .string ⟨#[]⟩, .int .i64 0, .string ⟨#[33]⟩, .int .i64 1, .string ⟨#[38]⟩, .int .i64 2, .string ⟨#[124]⟩, .int .i64 2, .string ⟨#[45, 62]⟩, .int .i64 2, .string ⟨#[88]⟩, .int .i64 1, .string ⟨#[85]⟩, .int .i64 2, .string ⟨#[82]⟩, .int .i64 2, .string ⟨#[70]⟩, .int .i64 1, .string ⟨#[71]⟩, .int .i64 1]) }
def arg0 : Value := .string ⟨#[]⟩
theorem laid_met (os : Os) : laidMet Tryd.prog Rows.ltlParsesRow.laid ((laidWorld os).forCall (fun _ _ => 0) ⟨#[], #[arg0], []⟩).memory :=
  laidMet_of_run' 8 (by kernel_rfl) (by kernel_rfl)
end Go.Proofs.YtdbpdanocpfboaaDoor
