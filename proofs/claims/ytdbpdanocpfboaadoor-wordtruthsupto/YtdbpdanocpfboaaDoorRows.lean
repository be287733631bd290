/-
  NARROWER THAN 'FOR EVERY INPUT', by the rows' own cells (each row's printed sentence says how): LtlParses: laid · LtlBack: laid · LtlPlain: loops, laid · LtlOpposites: loops, laid · WordTruths: loops, laid · WordLeast: laid · WordLaws: loops, laid · WordNext: loops, laid.
  DERIVED. THE GIVEN ROWS OF THIS SEAT. 8 by the template 'for every input the law returns true; each argument reads behind the call as it read before'; 0 by the template 'total and deterministic' (their statements: YtdbpdanocpfboaaDoorTotals.lean).
  GIVEN WITH THE SEED: the statements are not yours to turn. If you find one false, say at which input.
  Laid BY PROGRAM, IN A SANDBOX (cutbox-rows.mjs): the forced cells as the released guide's own fill.sh prints them over the translation 357ac066a0b34dcf… (all of the seat's roots in one cut). By AI agents, Wed Nov 11 2026. No macro, syntax, notation, axiom, sorry.
-/
import Derived.Test.YtdbpdanocpfboaaDoorChecked
import GoSem.Claim
import GoSem.ClaimJoined
import GoSem.ClaimMapViews
import Derived.JoinedTies
import Derived.KernelRfl
namespace Go.Proofs.YtdbpdanocpfboaaDoor
/- THE CELL 'sum', in the pinned program and in every row, IS THE sha256 OF THE DUMP (.gsa) THAT YtdbpdanocpfboaaDoorProg.lean LOADS. Nothing in Lean hashes anything: it is a label: what it is worth is what the hold of that sum in a sandbox is worth. -/
noncomputable def Tryd.pinned : Pinned := { name := "ytdbpdanocpfboaadoor", sum := "357ac066a0b34dcf1616152f1f3c8bce069269d5f962f5b6da19640275069e58", checked := Tryd.checked }
namespace Rows
def none {H : Type} : Left H := { results := [], args := [] }

/- WHAT THE LISTED PACKAGE-LEVEL VARIABLES READ AS WHEN THE CALL BEGINS. Each datum BY PROGRAM (the guide's laid-datum.mjs) off the statement by which the dump's own 'gosem.cut.vars' lays the variable. In a bare row this is a premise. The card (YtdbpdanocpfboaaDoorCards.lean) ties it to the program's text. -/
def laid_vigil_nodes_kidCounts {H : Type} : DataW H := .agg [.lit (.int .i64 0), .lit (.int .i64 0), .lit (.int .i64 0), .lit (.int .i64 1), .lit (.int .i64 2), .lit (.int .i64 2), .lit (.int .i64 2), .lit (.int .i64 1), .lit (.int .i64 2), .lit (.int .i64 2), .lit (.int .i64 1), .lit (.int .i64 1)]
def laid_vigil_nodes_turned {H : Type} : DataW H := .agg [.lit (.int .i64 0), .lit (.int .i64 0), .lit (.int .i64 0), .lit (.int .i64 0), .lit (.int .i64 5), .lit (.int .i64 4), .lit (.int .i64 0), .lit (.int .i64 7), .lit (.int .i64 9), .lit (.int .i64 8)]
def laid_vigil_ltl_kinds {H : Type} : DataW H := .agg [.agg [.lit (.string [116, 114, 117, 101]), .lit (.int .i64 0)], .agg [.lit (.string [102, 97, 108, 115, 101]), .lit (.int .i64 0)], .agg [.lit (.string []), .lit (.int .i64 0)], .agg [.lit (.string [33]), .lit (.int .i64 1)], .agg [.lit (.string [38]), .lit (.int .i64 2)], .agg [.lit (.string [124]), .lit (.int .i64 2)], .agg [.lit (.string [45, 62]), .lit (.int .i64 2)], .agg [.lit (.string [88]), .lit (.int .i64 1)], .agg [.lit (.string [85]), .lit (.int .i64 2)], .agg [.lit (.string [82]), .lit (.int .i64 2)], .agg [.lit (.string [70]), .lit (.int .i64 1)], .agg [.lit (.string [71]), .lit (.int .i64 1)]]

/-- 'vigillaw01.LtlParses': WHATEVER THE INPUT: true; the input reads as it did. -/
def ltlParsesSpec : ChangeSpec := { name := "ltlParses", fn := fun _ => fun
  | [d] => { results := [.lit (.bool true)], args := [d] }
  | _ => none }
def ltlParsesRow : OpenClaim := { program := "ytdbpdanocpfboaadoor", sum := "357ac066a0b34dcf1616152f1f3c8bce069269d5f962f5b6da19640275069e58", func := "vigil/vigillaw01.LtlParses", spec := "ltlParses", inPlace := ["internal/abi.NoEscape"], unfollowed := true, recurses := true, named := ["vigil/ltl.kinds", "vigil/nodes.kidCounts", "vigil/nodes.turned"], plainKeys := false, apart := false, laid := [("vigil/nodes.kidCounts", laid_vigil_nodes_kidCounts), ("vigil/nodes.turned", laid_vigil_nodes_turned), ("vigil/ltl.kinds", laid_vigil_ltl_kinds)] }
def LtlParsesSaid : Prop := ltlParsesRow.holds Tryd.pinned (OpenSpec.ofChange ltlParsesSpec)

/-- ITS FALSE NEIGHBOUR: 'it returns false'. Refute it at one input. -/
def ltlParsesWrong : ChangeSpec := { name := "ltlParses", fn := fun _ => fun
  | [d] => { results := [.lit (.bool false)], args := [d] }
  | _ => none }
def LtlParsesWrongFalsely : Prop := ltlParsesRow.holds Tryd.pinned (OpenSpec.ofChange ltlParsesWrong)

/-- 'vigillaw01.LtlBack': WHATEVER THE INPUT: true; the input reads as it did. -/
def ltlBackSpec : ChangeSpec := { name := "ltlBack", fn := fun _ => fun
  | [d] => { results := [.lit (.bool true)], args := [d] }
  | _ => none }
def ltlBackRow : OpenClaim := { program := "ytdbpdanocpfboaadoor", sum := "357ac066a0b34dcf1616152f1f3c8bce069269d5f962f5b6da19640275069e58", func := "vigil/vigillaw01.LtlBack", spec := "ltlBack", inPlace := ["internal/abi.NoEscape"], unfollowed := true, recurses := true, named := ["vigil/ltl.kinds", "vigil/nodes.kidCounts", "vigil/nodes.turned"], plainKeys := false, apart := false, laid := [("vigil/nodes.kidCounts", laid_vigil_nodes_kidCounts), ("vigil/nodes.turned", laid_vigil_nodes_turned), ("vigil/ltl.kinds", laid_vigil_ltl_kinds)] }
def LtlBackSaid : Prop := ltlBackRow.holds Tryd.pinned (OpenSpec.ofChange ltlBackSpec)

/-- ITS FALSE NEIGHBOUR: 'it returns false'. Refute it at one input. -/
def ltlBackWrong : ChangeSpec := { name := "ltlBack", fn := fun _ => fun
  | [d] => { results := [.lit (.bool false)], args := [d] }
  | _ => none }
def LtlBackWrongFalsely : Prop := ltlBackRow.holds Tryd.pinned (OpenSpec.ofChange ltlBackWrong)

/-- 'vigillaw01.LtlPlain': WHATEVER THE INPUT: true; the input reads as it did. -/
def ltlPlainSpec : ChangeSpec := { name := "ltlPlain", fn := fun _ => fun
  | [d] => { results := [.lit (.bool true)], args := [d] }
  | _ => none }
def ltlPlainRow : OpenClaim := { program := "ytdbpdanocpfboaadoor", sum := "357ac066a0b34dcf1616152f1f3c8bce069269d5f962f5b6da19640275069e58", func := "vigil/vigillaw01.LtlPlain", spec := "ltlPlain", inPlace := ["internal/abi.NoEscape"], unfollowed := true, recurses := true, named := ["vigil/nodes.kidCounts", "vigil/nodes.turned", "vigil/ltl.kinds"], loops := true, plainKeys := false, apart := false, laid := [("vigil/nodes.kidCounts", laid_vigil_nodes_kidCounts), ("vigil/nodes.turned", laid_vigil_nodes_turned), ("vigil/ltl.kinds", laid_vigil_ltl_kinds)] }
def LtlPlainSaid : Prop := ltlPlainRow.holds Tryd.pinned (OpenSpec.ofChange ltlPlainSpec)

/-- ITS FALSE NEIGHBOUR: 'it returns false'. Refute it at one input. -/
def ltlPlainWrong : ChangeSpec := { name := "ltlPlain", fn := fun _ => fun
  | [d] => { results := [.lit (.bool false)], args := [d] }
  | _ => none }
def LtlPlainWrongFalsely : Prop := ltlPlainRow.holds Tryd.pinned (OpenSpec.ofChange ltlPlainWrong)

/-- 'vigillaw01.LtlOpposites': WHATEVER THE INPUT: true; the input reads as it did. -/
def ltlOppositesSpec : ChangeSpec := { name := "ltlOpposites", fn := fun _ => fun
  | [d] => { results := [.lit (.bool true)], args := [d] }
  | _ => none }
def ltlOppositesRow : OpenClaim := { program := "ytdbpdanocpfboaadoor", sum := "357ac066a0b34dcf1616152f1f3c8bce069269d5f962f5b6da19640275069e58", func := "vigil/vigillaw01.LtlOpposites", spec := "ltlOpposites", inPlace := ["internal/abi.NoEscape"], unfollowed := true, recurses := true, named := ["vigil/ltl.kinds", "vigil/nodes.kidCounts", "vigil/nodes.turned"], loops := true, plainKeys := false, apart := false, laid := [("vigil/nodes.kidCounts", laid_vigil_nodes_kidCounts), ("vigil/nodes.turned", laid_vigil_nodes_turned), ("vigil/ltl.kinds", laid_vigil_ltl_kinds)] }
def LtlOppositesSaid : Prop := ltlOppositesRow.holds Tryd.pinned (OpenSpec.ofChange ltlOppositesSpec)

/-- ITS FALSE NEIGHBOUR: 'it returns false'. Refute it at one input. -/
def ltlOppositesWrong : ChangeSpec := { name := "ltlOpposites", fn := fun _ => fun
  | [d] => { results := [.lit (.bool false)], args := [d] }
  | _ => none }
def LtlOppositesWrongFalsely : Prop := ltlOppositesRow.holds Tryd.pinned (OpenSpec.ofChange ltlOppositesWrong)

/-- 'vigillaw02.WordTruths': WHATEVER THE INPUT: true; the input reads as it did. -/
def wordTruthsSpec : ChangeSpec := { name := "wordTruths", fn := fun _ => fun
  | [d1, d2, d3] => { results := [.lit (.bool true)], args := [d1, d2, d3] }
  | _ => none }
def wordTruthsRow : OpenClaim := { program := "ytdbpdanocpfboaadoor", sum := "357ac066a0b34dcf1616152f1f3c8bce069269d5f962f5b6da19640275069e58", func := "vigil/vigillaw02.WordTruths", spec := "wordTruths", unfollowed := true, recurses := true, named := ["vigil/nodes.kidCounts"], loops := true, plainKeys := false, apart := false, laid := [("vigil/nodes.kidCounts", laid_vigil_nodes_kidCounts)] }
def WordTruthsSaid : Prop := wordTruthsRow.holds Tryd.pinned (OpenSpec.ofChange wordTruthsSpec)

/-- ITS FALSE NEIGHBOUR: 'it returns false'. Refute it at one input. -/
def wordTruthsWrong : ChangeSpec := { name := "wordTruths", fn := fun _ => fun
  | [d1, d2, d3] => { results := [.lit (.bool false)], args := [d1, d2, d3] }
  | _ => none }
def WordTruthsWrongFalsely : Prop := wordTruthsRow.holds Tryd.pinned (OpenSpec.ofChange wordTruthsWrong)

/-- 'vigillaw02.WordLeast': WHATEVER THE INPUT: true; the input reads as it did. -/
def wordLeastSpec : ChangeSpec := { name := "wordLeast", fn := fun _ => fun
  | [d1, d2] => { results := [.lit (.bool true)], args := [d1, d2] }
  | _ => none }
def wordLeastRow : OpenClaim := { program := "ytdbpdanocpfboaadoor", sum := "357ac066a0b34dcf1616152f1f3c8bce069269d5f962f5b6da19640275069e58", func := "vigil/vigillaw02.WordLeast", spec := "wordLeast", unfollowed := true, recurses := true, named := ["vigil/nodes.kidCounts"], plainKeys := false, apart := false, laid := [("vigil/nodes.kidCounts", laid_vigil_nodes_kidCounts)] }
def WordLeastSaid : Prop := wordLeastRow.holds Tryd.pinned (OpenSpec.ofChange wordLeastSpec)

/-- ITS FALSE NEIGHBOUR: 'it returns false'. Refute it at one input. -/
def wordLeastWrong : ChangeSpec := { name := "wordLeast", fn := fun _ => fun
  | [d1, d2] => { results := [.lit (.bool false)], args := [d1, d2] }
  | _ => none }
def WordLeastWrongFalsely : Prop := wordLeastRow.holds Tryd.pinned (OpenSpec.ofChange wordLeastWrong)

/-- 'vigillaw02.WordLaws': WHATEVER THE INPUT: true; the input reads as it did. -/
def wordLawsSpec : ChangeSpec := { name := "wordLaws", fn := fun _ => fun
  | [d1, d2, d3] => { results := [.lit (.bool true)], args := [d1, d2, d3] }
  | _ => none }
def wordLawsRow : OpenClaim := { program := "ytdbpdanocpfboaadoor", sum := "357ac066a0b34dcf1616152f1f3c8bce069269d5f962f5b6da19640275069e58", func := "vigil/vigillaw02.WordLaws", spec := "wordLaws", unfollowed := true, recurses := true, named := ["vigil/nodes.kidCounts"], loops := true, plainKeys := false, apart := false, laid := [("vigil/nodes.kidCounts", laid_vigil_nodes_kidCounts)] }
def WordLawsSaid : Prop := wordLawsRow.holds Tryd.pinned (OpenSpec.ofChange wordLawsSpec)

/-- ITS FALSE NEIGHBOUR: 'it returns false'. Refute it at one input. -/
def wordLawsWrong : ChangeSpec := { name := "wordLaws", fn := fun _ => fun
  | [d1, d2, d3] => { results := [.lit (.bool false)], args := [d1, d2, d3] }
  | _ => none }
def WordLawsWrongFalsely : Prop := wordLawsRow.holds Tryd.pinned (OpenSpec.ofChange wordLawsWrong)

/-- 'vigillaw02.WordNext': WHATEVER THE INPUT: true; the input reads as it did. -/
def wordNextSpec : ChangeSpec := { name := "wordNext", fn := fun _ => fun
  | [d1, d2] => { results := [.lit (.bool true)], args := [d1, d2] }
  | _ => none }
def wordNextRow : OpenClaim := { program := "ytdbpdanocpfboaadoor", sum := "357ac066a0b34dcf1616152f1f3c8bce069269d5f962f5b6da19640275069e58", func := "vigil/vigillaw02.WordNext", spec := "wordNext", unfollowed := true, recurses := true, named := ["vigil/nodes.kidCounts"], loops := true, plainKeys := false, apart := false, laid := [("vigil/nodes.kidCounts", laid_vigil_nodes_kidCounts)] }
def WordNextSaid : Prop := wordNextRow.holds Tryd.pinned (OpenSpec.ofChange wordNextSpec)

/-- ITS FALSE NEIGHBOUR: 'it returns false'. Refute it at one input. -/
def wordNextWrong : ChangeSpec := { name := "wordNext", fn := fun _ => fun
  | [d1, d2] => { results := [.lit (.bool false)], args := [d1, d2] }
  | _ => none }
def WordNextWrongFalsely : Prop := wordNextRow.holds Tryd.pinned (OpenSpec.ofChange wordNextWrong)

/- THE SECOND FORM. 'bulk': how many values and letters a reading holds, each counted each time it is reached (what is shared counts as often as it is met; a slice's spare places count too). A statement '..UptoSaid' is the law's where the arguments, and the package variables that the reading takes, are together of bulk at most 1048576: NARROWER than '..Said'. Prove '..Said' where nothing that the law and all that it calls make is longer than what came in: it says more and counts as full. Else prove '..UptoSaid'. A law counts once. -/
mutual
def uptoBulk {H : Type} : DataW H → Nat
  | .lit (.string bytes) => bytes.length + 1
  | .lit _ => 1
  | .nil => 1
  | .ptr d => uptoBulk d + 1
  | .slice elems spare => uptoBulkAll elems + uptoBulkAll spare + 1
  | .agg parts => uptoBulkAll parts + 1
  | .iface _ d => uptoBulk d + 1
  | .map entries => uptoBulkEntries entries + 1
  | .held _ => 1
def uptoBulkAll {H : Type} : List (DataW H) → Nat
  | [] => 0
  | d :: r => uptoBulk d + uptoBulkAll r
def uptoBulkEntries {H : Type} : List (Lit × DataW H) → Nat
  | [] => 0
  | x :: r => uptoBulkEntry x + uptoBulkEntries r
def uptoBulkEntry {H : Type} : Lit × DataW H → Nat
  | (.string bytes, d) => bytes.length + uptoBulk d + 1
  | (_, d) => uptoBulk d + 1
 end
def uptoSmall : (H : Type) → List (DataW H) → Bool := fun _ ds => decide (uptoBulkAll ds ≤ 1048576)
def OpenSpec.upto (s : _root_.Go.ChangeSpec) : _root_.Go.OpenSpec := { _root_.Go.OpenSpec.ofChange s with cond := some uptoSmall }

/-- 'vigillaw01.LtlParses', WHERE WHAT IT READS IS OF BULK AT MOST 1048576: true; the input reads as it did. -/
def ltlParsesUptoRow : OpenClaim := { program := "ytdbpdanocpfboaadoor", sum := "357ac066a0b34dcf1616152f1f3c8bce069269d5f962f5b6da19640275069e58", func := "vigil/vigillaw01.LtlParses", spec := "ltlParses", inPlace := ["internal/abi.NoEscape"], unfollowed := true, recurses := true, named := ["vigil/ltl.kinds", "vigil/nodes.kidCounts", "vigil/nodes.turned"], plainKeys := false, apart := false, laid := [("vigil/nodes.kidCounts", laid_vigil_nodes_kidCounts), ("vigil/nodes.turned", laid_vigil_nodes_turned), ("vigil/ltl.kinds", laid_vigil_ltl_kinds)], narrowed := true }
def LtlParsesUptoSaid : Prop := ltlParsesUptoRow.holds Tryd.pinned (OpenSpec.upto ltlParsesSpec)

/-- 'vigillaw01.LtlBack', WHERE WHAT IT READS IS OF BULK AT MOST 1048576: true; the input reads as it did. -/
def ltlBackUptoRow : OpenClaim := { program := "ytdbpdanocpfboaadoor", sum := "357ac066a0b34dcf1616152f1f3c8bce069269d5f962f5b6da19640275069e58", func := "vigil/vigillaw01.LtlBack", spec := "ltlBack", inPlace := ["internal/abi.NoEscape"], unfollowed := true, recurses := true, named := ["vigil/ltl.kinds", "vigil/nodes.kidCounts", "vigil/nodes.turned"], plainKeys := false, apart := false, laid := [("vigil/nodes.kidCounts", laid_vigil_nodes_kidCounts), ("vigil/nodes.turned", laid_vigil_nodes_turned), ("vigil/ltl.kinds", laid_vigil_ltl_kinds)], narrowed := true }
def LtlBackUptoSaid : Prop := ltlBackUptoRow.holds Tryd.pinned (OpenSpec.upto ltlBackSpec)

/-- 'vigillaw01.LtlPlain', WHERE WHAT IT READS IS OF BULK AT MOST 1048576: true; the input reads as it did. -/
def ltlPlainUptoRow : OpenClaim := { program := "ytdbpdanocpfboaadoor", sum := "357ac066a0b34dcf1616152f1f3c8bce069269d5f962f5b6da19640275069e58", func := "vigil/vigillaw01.LtlPlain", spec := "ltlPlain", inPlace := ["internal/abi.NoEscape"], unfollowed := true, recurses := true, named := ["vigil/nodes.kidCounts", "vigil/nodes.turned", "vigil/ltl.kinds"], loops := true, plainKeys := false, apart := false, laid := [("vigil/nodes.kidCounts", laid_vigil_nodes_kidCounts), ("vigil/nodes.turned", laid_vigil_nodes_turned), ("vigil/ltl.kinds", laid_vigil_ltl_kinds)], narrowed := true }
def LtlPlainUptoSaid : Prop := ltlPlainUptoRow.holds Tryd.pinned (OpenSpec.upto ltlPlainSpec)

/-- 'vigillaw01.LtlOpposites', WHERE WHAT IT READS IS OF BULK AT MOST 1048576: true; the input reads as it did. -/
def ltlOppositesUptoRow : OpenClaim := { program := "ytdbpdanocpfboaadoor", sum := "357ac066a0b34dcf1616152f1f3c8bce069269d5f962f5b6da19640275069e58", func := "vigil/vigillaw01.LtlOpposites", spec := "ltlOpposites", inPlace := ["internal/abi.NoEscape"], unfollowed := true, recurses := true, named := ["vigil/ltl.kinds", "vigil/nodes.kidCounts", "vigil/nodes.turned"], loops := true, plainKeys := false, apart := false, laid := [("vigil/nodes.kidCounts", laid_vigil_nodes_kidCounts), ("vigil/nodes.turned", laid_vigil_nodes_turned), ("vigil/ltl.kinds", laid_vigil_ltl_kinds)], narrowed := true }
def LtlOppositesUptoSaid : Prop := ltlOppositesUptoRow.holds Tryd.pinned (OpenSpec.upto ltlOppositesSpec)

/-- 'vigillaw02.WordTruths', WHERE WHAT IT READS IS OF BULK AT MOST 1048576: true; the input reads as it did. -/
def wordTruthsUptoRow : OpenClaim := { program := "ytdbpdanocpfboaadoor", sum := "357ac066a0b34dcf1616152f1f3c8bce069269d5f962f5b6da19640275069e58", func := "vigil/vigillaw02.WordTruths", spec := "wordTruths", unfollowed := true, recurses := true, named := ["vigil/nodes.kidCounts"], loops := true, plainKeys := false, apart := false, laid := [("vigil/nodes.kidCounts", laid_vigil_nodes_kidCounts)], narrowed := true }
def WordTruthsUptoSaid : Prop := wordTruthsUptoRow.holds Tryd.pinned (OpenSpec.upto wordTruthsSpec)

/-- 'vigillaw02.WordLeast', WHERE WHAT IT READS IS OF BULK AT MOST 1048576: true; the input reads as it did. -/
def wordLeastUptoRow : OpenClaim := { program := "ytdbpdanocpfboaadoor", sum := "357ac066a0b34dcf1616152f1f3c8bce069269d5f962f5b6da19640275069e58", func := "vigil/vigillaw02.WordLeast", spec := "wordLeast", unfollowed := true, recurses := true, named := ["vigil/nodes.kidCounts"], plainKeys := false, apart := false, laid := [("vigil/nodes.kidCounts", laid_vigil_nodes_kidCounts)], narrowed := true }
def WordLeastUptoSaid : Prop := wordLeastUptoRow.holds Tryd.pinned (OpenSpec.upto wordLeastSpec)

/-- 'vigillaw02.WordLaws', WHERE WHAT IT READS IS OF BULK AT MOST 1048576: true; the input reads as it did. -/
def wordLawsUptoRow : OpenClaim := { program := "ytdbpdanocpfboaadoor", sum := "357ac066a0b34dcf1616152f1f3c8bce069269d5f962f5b6da19640275069e58", func := "vigil/vigillaw02.WordLaws", spec := "wordLaws", unfollowed := true, recurses := true, named := ["vigil/nodes.kidCounts"], loops := true, plainKeys := false, apart := false, laid := [("vigil/nodes.kidCounts", laid_vigil_nodes_kidCounts)], narrowed := true }
def WordLawsUptoSaid : Prop := wordLawsUptoRow.holds Tryd.pinned (OpenSpec.upto wordLawsSpec)

/-- 'vigillaw02.WordNext', WHERE WHAT IT READS IS OF BULK AT MOST 1048576: true; the input reads as it did. -/
def wordNextUptoRow : OpenClaim := { program := "ytdbpdanocpfboaadoor", sum := "357ac066a0b34dcf1616152f1f3c8bce069269d5f962f5b6da19640275069e58", func := "vigil/vigillaw02.WordNext", spec := "wordNext", unfollowed := true, recurses := true, named := ["vigil/nodes.kidCounts"], loops := true, plainKeys := false, apart := false, laid := [("vigil/nodes.kidCounts", laid_vigil_nodes_kidCounts)], narrowed := true }
def WordNextUptoSaid : Prop := wordNextUptoRow.holds Tryd.pinned (OpenSpec.upto wordNextSpec)

end Rows
end Go.Proofs.YtdbpdanocpfboaaDoor
