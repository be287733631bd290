/-
  DERIVED. GIVEN WITH THE SEED: THE CARDS: each row of YtdbpdanocpfboaaDoorRows.lean that lists a variable, with what it lists TIED to the program's text (the seventh form; the later family's looks); each row that meets fmt, with fmt's text TOLD by the authors' own Lean function (tested against real Go, not proved from fmt's source: count such statements apart). THE CARD IS WHAT COUNTS. Prove the row's statement (the work); the ties are given (YtdbpdanocpfboaaDoorTie.lean); close each card by the builder's one call (the guide's Derived/Test/ToyasCard.lean, 'card_holds'). Laid BY PROGRAM, IN A SANDBOX (cutbox-door.mjs). By AI agents, Wed Nov 11 2026. No macro, syntax, notation, axiom, sorry.
-/
import Derived.Test.YtdbpdanocpfboaaDoorRows
import GoSem.ClaimSeven
namespace Go.Proofs.YtdbpdanocpfboaaDoor
namespace Rows

/-- THE TIED CARD OF 'vigillaw01.LtlParses'. -/
def ltlParsesCard : Claim7 := { stood := { row := ltlParsesRow, standIns := [], harness := (true, "343652a6b54f6137dbf8daf59ed37ac47bab5260eaf6acee6241aa2345825702"), looks := true }, kinds := [], alts := [], laidByText := true, laidKinds := [.data, .data, .data], laidTests := true, laidLooks := .later }
def LtlParsesCardSaid : Prop := Claim7.holds Tryd.pinned (.plain (OpenSpec.ofChange ltlParsesSpec)) ltlParsesCard

/-- THE TIED CARD OF 'vigillaw01.LtlBack'. -/
def ltlBackCard : Claim7 := { stood := { row := ltlBackRow, standIns := [], harness := (true, "343652a6b54f6137dbf8daf59ed37ac47bab5260eaf6acee6241aa2345825702"), looks := true }, kinds := [], alts := [], laidByText := true, laidKinds := [.data, .data, .data], laidTests := true, laidLooks := .later }
def LtlBackCardSaid : Prop := Claim7.holds Tryd.pinned (.plain (OpenSpec.ofChange ltlBackSpec)) ltlBackCard

/-- THE TIED CARD OF 'vigillaw01.LtlPlain'. -/
def ltlPlainCard : Claim7 := { stood := { row := ltlPlainRow, standIns := [], harness := (true, "343652a6b54f6137dbf8daf59ed37ac47bab5260eaf6acee6241aa2345825702"), looks := true }, kinds := [], alts := [], laidByText := true, laidKinds := [.data, .data, .data], laidTests := true, laidLooks := .later }
def LtlPlainCardSaid : Prop := Claim7.holds Tryd.pinned (.plain (OpenSpec.ofChange ltlPlainSpec)) ltlPlainCard

/-- THE TIED CARD OF 'vigillaw01.LtlOpposites'. -/
def ltlOppositesCard : Claim7 := { stood := { row := ltlOppositesRow, standIns := [], harness := (true, "343652a6b54f6137dbf8daf59ed37ac47bab5260eaf6acee6241aa2345825702"), looks := true }, kinds := [], alts := [], laidByText := true, laidKinds := [.data, .data, .data], laidTests := true, laidLooks := .later }
def LtlOppositesCardSaid : Prop := Claim7.holds Tryd.pinned (.plain (OpenSpec.ofChange ltlOppositesSpec)) ltlOppositesCard

/-- THE TIED CARD OF 'vigillaw02.WordTruths'. -/
def wordTruthsCard : Claim7 := { stood := { row := wordTruthsRow, standIns := [], harness := (true, "343652a6b54f6137dbf8daf59ed37ac47bab5260eaf6acee6241aa2345825702"), looks := true }, kinds := [], alts := [], laidByText := true, laidKinds := [.data], laidTests := true, laidLooks := .later }
def WordTruthsCardSaid : Prop := Claim7.holds Tryd.pinned (.plain (OpenSpec.ofChange wordTruthsSpec)) wordTruthsCard

/-- THE TIED CARD OF 'vigillaw02.WordLeast'. -/
def wordLeastCard : Claim7 := { stood := { row := wordLeastRow, standIns := [], harness := (true, "343652a6b54f6137dbf8daf59ed37ac47bab5260eaf6acee6241aa2345825702"), looks := true }, kinds := [], alts := [], laidByText := true, laidKinds := [.data], laidTests := true, laidLooks := .later }
def WordLeastCardSaid : Prop := Claim7.holds Tryd.pinned (.plain (OpenSpec.ofChange wordLeastSpec)) wordLeastCard

/-- THE TIED CARD OF 'vigillaw02.WordLaws'. -/
def wordLawsCard : Claim7 := { stood := { row := wordLawsRow, standIns := [], harness := (true, "343652a6b54f6137dbf8daf59ed37ac47bab5260eaf6acee6241aa2345825702"), looks := true }, kinds := [], alts := [], laidByText := true, laidKinds := [.data], laidTests := true, laidLooks := .later }
def WordLawsCardSaid : Prop := Claim7.holds Tryd.pinned (.plain (OpenSpec.ofChange wordLawsSpec)) wordLawsCard

/-- THE TIED CARD OF 'vigillaw02.WordNext'. -/
def wordNextCard : Claim7 := { stood := { row := wordNextRow, standIns := [], harness := (true, "343652a6b54f6137dbf8daf59ed37ac47bab5260eaf6acee6241aa2345825702"), looks := true }, kinds := [], alts := [], laidByText := true, laidKinds := [.data], laidTests := true, laidLooks := .later }
def WordNextCardSaid : Prop := Claim7.holds Tryd.pinned (.plain (OpenSpec.ofChange wordNextSpec)) wordNextCard

/-- THE SECOND FORM's CARD OF 'vigillaw01.LtlParses'. -/
def ltlParsesUptoCard : Claim7 := { stood := { row := ltlParsesUptoRow, standIns := [], harness := (true, "343652a6b54f6137dbf8daf59ed37ac47bab5260eaf6acee6241aa2345825702"), looks := true }, kinds := [], alts := [], laidByText := true, laidKinds := [.data, .data, .data], laidTests := true, laidLooks := .later }
def LtlParsesUptoCardSaid : Prop := Claim7.holds Tryd.pinned (.plain (OpenSpec.upto ltlParsesSpec)) ltlParsesUptoCard

/-- THE SECOND FORM's CARD OF 'vigillaw01.LtlBack'. -/
def ltlBackUptoCard : Claim7 := { stood := { row := ltlBackUptoRow, standIns := [], harness := (true, "343652a6b54f6137dbf8daf59ed37ac47bab5260eaf6acee6241aa2345825702"), looks := true }, kinds := [], alts := [], laidByText := true, laidKinds := [.data, .data, .data], laidTests := true, laidLooks := .later }
def LtlBackUptoCardSaid : Prop := Claim7.holds Tryd.pinned (.plain (OpenSpec.upto ltlBackSpec)) ltlBackUptoCard

/-- THE SECOND FORM's CARD OF 'vigillaw01.LtlPlain'. -/
def ltlPlainUptoCard : Claim7 := { stood := { row := ltlPlainUptoRow, standIns := [], harness := (true, "343652a6b54f6137dbf8daf59ed37ac47bab5260eaf6acee6241aa2345825702"), looks := true }, kinds := [], alts := [], laidByText := true, laidKinds := [.data, .data, .data], laidTests := true, laidLooks := .later }
def LtlPlainUptoCardSaid : Prop := Claim7.holds Tryd.pinned (.plain (OpenSpec.upto ltlPlainSpec)) ltlPlainUptoCard

/-- THE SECOND FORM's CARD OF 'vigillaw01.LtlOpposites'. -/
def ltlOppositesUptoCard : Claim7 := { stood := { row := ltlOppositesUptoRow, standIns := [], harness := (true, "343652a6b54f6137dbf8daf59ed37ac47bab5260eaf6acee6241aa2345825702"), looks := true }, kinds := [], alts := [], laidByText := true, laidKinds := [.data, .data, .data], laidTests := true, laidLooks := .later }
def LtlOppositesUptoCardSaid : Prop := Claim7.holds Tryd.pinned (.plain (OpenSpec.upto ltlOppositesSpec)) ltlOppositesUptoCard

/-- THE SECOND FORM's CARD OF 'vigillaw02.WordTruths'. -/
def wordTruthsUptoCard : Claim7 := { stood := { row := wordTruthsUptoRow, standIns := [], harness := (true, "343652a6b54f6137dbf8daf59ed37ac47bab5260eaf6acee6241aa2345825702"), looks := true }, kinds := [], alts := [], laidByText := true, laidKinds := [.data], laidTests := true, laidLooks := .later }
def WordTruthsUptoCardSaid : Prop := Claim7.holds Tryd.pinned (.plain (OpenSpec.upto wordTruthsSpec)) wordTruthsUptoCard

/-- THE SECOND FORM's CARD OF 'vigillaw02.WordLeast'. -/
def wordLeastUptoCard : Claim7 := { stood := { row := wordLeastUptoRow, standIns := [], harness := (true, "343652a6b54f6137dbf8daf59ed37ac47bab5260eaf6acee6241aa2345825702"), looks := true }, kinds := [], alts := [], laidByText := true, laidKinds := [.data], laidTests := true, laidLooks := .later }
def WordLeastUptoCardSaid : Prop := Claim7.holds Tryd.pinned (.plain (OpenSpec.upto wordLeastSpec)) wordLeastUptoCard

/-- THE SECOND FORM's CARD OF 'vigillaw02.WordLaws'. -/
def wordLawsUptoCard : Claim7 := { stood := { row := wordLawsUptoRow, standIns := [], harness := (true, "343652a6b54f6137dbf8daf59ed37ac47bab5260eaf6acee6241aa2345825702"), looks := true }, kinds := [], alts := [], laidByText := true, laidKinds := [.data], laidTests := true, laidLooks := .later }
def WordLawsUptoCardSaid : Prop := Claim7.holds Tryd.pinned (.plain (OpenSpec.upto wordLawsSpec)) wordLawsUptoCard

/-- THE SECOND FORM's CARD OF 'vigillaw02.WordNext'. -/
def wordNextUptoCard : Claim7 := { stood := { row := wordNextUptoRow, standIns := [], harness := (true, "343652a6b54f6137dbf8daf59ed37ac47bab5260eaf6acee6241aa2345825702"), looks := true }, kinds := [], alts := [], laidByText := true, laidKinds := [.data], laidTests := true, laidLooks := .later }
def WordNextUptoCardSaid : Prop := Claim7.holds Tryd.pinned (.plain (OpenSpec.upto wordNextSpec)) wordNextUptoCard
end Rows
end Go.Proofs.YtdbpdanocpfboaaDoor
