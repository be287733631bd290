/-
  DERIVED. GIVEN WITH THE SEED: THE CARDS: each row of YtdbpdanocpfboabGreatDoorRows.lean that lists a variable, with what it lists TIED to the program's text (the seventh form; the later family's looks); each row that meets fmt, with fmt's text TOLD by the authors' own Lean function (tested against real Go, not proved from fmt's source: count such statements apart). THE CARD IS WHAT COUNTS. Prove the row's statement (the work); the ties are given (YtdbpdanocpfboabGreatDoorTie.lean); close each card by the builder's one call (the guide's Derived/Test/ToyasCard.lean, 'card_holds'). Laid BY PROGRAM, IN A SANDBOX (cutbox-door.mjs). By AI agents, Wed Nov 11 2026. No macro, syntax, notation, axiom, sorry.
-/
import Derived.Test.YtdbpdanocpfboabGreatDoorRows
import GoSem.ClaimSeven
namespace Go.Proofs.YtdbpdanocpfboabGreatDoor
namespace Rows

/-- THE TIED CARD OF 'vigillaw04.ModelParses'. -/
def modelParsesCard : Claim7 := { stood := { row := modelParsesRow, standIns := [], harness := (true, "4f14806a1b4ae659190598dac2c805b3f4c14c7d3e2e5d6dd755c8345359962e"), looks := false }, kinds := [], alts := [], laidByText := true, laidKinds := [.data, .pinned], laidTests := true, laidLooks := .later }
def ModelParsesCardSaid : Prop := Claim7.holds Tryz.pinned (.plain (OpenSpec.ofChange modelParsesSpec)) modelParsesCard

/-- THE TIED CARD OF 'vigillaw04.ModelPaths'. -/
def modelPathsCard : Claim7 := { stood := { row := modelPathsRow, standIns := [], harness := (true, "4f14806a1b4ae659190598dac2c805b3f4c14c7d3e2e5d6dd755c8345359962e"), looks := false }, kinds := [], alts := [], laidByText := true, laidKinds := [.data, .pinned], laidTests := true, laidLooks := .later }
def ModelPathsCardSaid : Prop := Claim7.holds Tryz.pinned (.plain (OpenSpec.ofChange modelPathsSpec)) modelPathsCard

/-- THE TIED CARD OF 'vigillaw04.ModelBack'. -/
def modelBackCard : Claim7 := { stood := { row := modelBackRow, standIns := [], harness := (true, "4f14806a1b4ae659190598dac2c805b3f4c14c7d3e2e5d6dd755c8345359962e"), looks := false }, kinds := [], alts := [], laidByText := true, laidKinds := [.data, .pinned], laidTests := true, laidLooks := .later }
def ModelBackCardSaid : Prop := Claim7.holds Tryz.pinned (.plain (OpenSpec.ofChange modelBackSpec)) modelBackCard

/-- THE SECOND FORM's CARD OF 'vigillaw04.ModelParses'. -/
def modelParsesUptoCard : Claim7 := { stood := { row := modelParsesUptoRow, standIns := [], harness := (true, "4f14806a1b4ae659190598dac2c805b3f4c14c7d3e2e5d6dd755c8345359962e"), looks := false }, kinds := [], alts := [], laidByText := true, laidKinds := [.data, .pinned], laidTests := true, laidLooks := .later }
def ModelParsesUptoCardSaid : Prop := Claim7.holds Tryz.pinned (.plain (OpenSpec.upto modelParsesSpec)) modelParsesUptoCard

/-- THE SECOND FORM's CARD OF 'vigillaw04.ModelPaths'. -/
def modelPathsUptoCard : Claim7 := { stood := { row := modelPathsUptoRow, standIns := [], harness := (true, "4f14806a1b4ae659190598dac2c805b3f4c14c7d3e2e5d6dd755c8345359962e"), looks := false }, kinds := [], alts := [], laidByText := true, laidKinds := [.data, .pinned], laidTests := true, laidLooks := .later }
def ModelPathsUptoCardSaid : Prop := Claim7.holds Tryz.pinned (.plain (OpenSpec.upto modelPathsSpec)) modelPathsUptoCard

/-- THE SECOND FORM's CARD OF 'vigillaw04.ModelBack'. -/
def modelBackUptoCard : Claim7 := { stood := { row := modelBackUptoRow, standIns := [], harness := (true, "4f14806a1b4ae659190598dac2c805b3f4c14c7d3e2e5d6dd755c8345359962e"), looks := false }, kinds := [], alts := [], laidByText := true, laidKinds := [.data, .pinned], laidTests := true, laidLooks := .later }
def ModelBackUptoCardSaid : Prop := Claim7.holds Tryz.pinned (.plain (OpenSpec.upto modelBackSpec)) modelBackUptoCard
end Rows
end Go.Proofs.YtdbpdanocpfboabGreatDoor
