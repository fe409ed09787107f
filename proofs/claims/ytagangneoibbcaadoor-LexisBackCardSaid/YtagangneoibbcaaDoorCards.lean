/-
  DERIVED. GIVEN WITH THE SEED: THE CARDS: each row of YtagangneoibbcaaDoorRows.lean that lists a variable, with what it lists TIED to the program's text (the seventh form; the later family's looks); each row that meets fmt, with fmt's text TOLD by the authors' own Lean function (tested against real Go, not proved from fmt's source: count such statements apart). THE CARD IS WHAT COUNTS. Prove the row's statement (the work); the ties are given (YtagangneoibbcaaDoorTie.lean); close each card by the builder's one call (the guide's Derived/Test/ToyasCard.lean, 'card_holds'). Laid BY PROGRAM, IN A SANDBOX (cutbox-door.mjs). By AI agents, Wed Nov 11 2026. No macro, syntax, notation, axiom, sorry.
-/
import Derived.Test.YtagangneoibbcaaDoorRows
import GoSem.ClaimSeven
namespace Go.Proofs.YtagangneoibbcaaDoor
namespace Rows

/-- THE TIED CARD OF 'keystonelaw12.LexisCuts'. -/
def lexisCutsCard : Claim7 := { stood := { row := lexisCutsRow, standIns := [], harness := (true, "82411acf47a53ab73b5a76cbebdb22b1bd8869ec342ee50b6a8d9d9fb88ffa73"), looks := true }, kinds := [], alts := [], laidByText := true, laidKinds := [.data, .data, .data, .sentinel, .sentinel], laidTests := true, laidLooks := .later }
def LexisCutsCardSaid : Prop := Claim7.holds Tryd.pinned (.plain (OpenSpec.ofChange lexisCutsSpec)) lexisCutsCard

/-- THE TIED CARD OF 'keystonelaw12.LexisTells'. -/
def lexisTellsCard : Claim7 := { stood := { row := lexisTellsRow, standIns := [], harness := (true, "82411acf47a53ab73b5a76cbebdb22b1bd8869ec342ee50b6a8d9d9fb88ffa73"), looks := true }, kinds := [], alts := [], laidByText := true, laidKinds := [.data, .data, .data, .sentinel, .sentinel], laidTests := true, laidLooks := .later }
def LexisTellsCardSaid : Prop := Claim7.holds Tryd.pinned (.plain (OpenSpec.ofChange lexisTellsSpec)) lexisTellsCard

/-- THE TIED CARD OF 'keystonelaw12.LexisNames'. -/
def lexisNamesCard : Claim7 := { stood := { row := lexisNamesRow, standIns := [], harness := (true, "82411acf47a53ab73b5a76cbebdb22b1bd8869ec342ee50b6a8d9d9fb88ffa73"), looks := true }, kinds := [], alts := [], laidByText := true, laidKinds := [.data, .data, .data, .sentinel, .sentinel, .data], laidTests := true, laidLooks := .later }
def LexisNamesCardSaid : Prop := Claim7.holds Tryd.pinned (.plain (OpenSpec.ofChange lexisNamesSpec)) lexisNamesCard

/-- THE TIED CARD OF 'keystonelaw12.LexisPlaces'. -/
def lexisPlacesCard : Claim7 := { stood := { row := lexisPlacesRow, standIns := [], harness := (true, "82411acf47a53ab73b5a76cbebdb22b1bd8869ec342ee50b6a8d9d9fb88ffa73"), looks := true }, kinds := [], alts := [], laidByText := true, laidKinds := [.data, .data, .data, .sentinel, .sentinel], laidTests := true, laidLooks := .later }
def LexisPlacesCardSaid : Prop := Claim7.holds Tryd.pinned (.plain (OpenSpec.ofChange lexisPlacesSpec)) lexisPlacesCard

/-- THE TIED CARD OF 'keystonelaw12.LexisBack'. -/
def lexisBackCard : Claim7 := { stood := { row := lexisBackRow, standIns := [], harness := (true, "82411acf47a53ab73b5a76cbebdb22b1bd8869ec342ee50b6a8d9d9fb88ffa73"), looks := true }, kinds := [], alts := [], laidByText := true, laidKinds := [.data, .data, .data, .sentinel, .sentinel], laidTests := true, laidLooks := .later }
def LexisBackCardSaid : Prop := Claim7.holds Tryd.pinned (.plain (OpenSpec.ofChange lexisBackSpec)) lexisBackCard

/-- THE TIED CARD OF 'keystonelaw12.LexisLoses'. -/
def lexisLosesCard : Claim7 := { stood := { row := lexisLosesRow, standIns := [], harness := (true, "82411acf47a53ab73b5a76cbebdb22b1bd8869ec342ee50b6a8d9d9fb88ffa73"), looks := true }, kinds := [], alts := [], laidByText := true, laidKinds := [.data, .data, .data, .sentinel, .sentinel], laidTests := true, laidLooks := .later }
def LexisLosesCardSaid : Prop := Claim7.holds Tryd.pinned (.plain (OpenSpec.ofChange lexisLosesSpec)) lexisLosesCard

/-- THE SECOND FORM's CARD OF 'keystonelaw12.LexisCuts'. -/
def lexisCutsUptoCard : Claim7 := { stood := { row := lexisCutsUptoRow, standIns := [], harness := (true, "82411acf47a53ab73b5a76cbebdb22b1bd8869ec342ee50b6a8d9d9fb88ffa73"), looks := true }, kinds := [], alts := [], laidByText := true, laidKinds := [.data, .data, .data, .sentinel, .sentinel], laidTests := true, laidLooks := .later }
def LexisCutsUptoCardSaid : Prop := Claim7.holds Tryd.pinned (.plain (OpenSpec.upto lexisCutsSpec)) lexisCutsUptoCard

/-- THE SECOND FORM's CARD OF 'keystonelaw12.LexisTells'. -/
def lexisTellsUptoCard : Claim7 := { stood := { row := lexisTellsUptoRow, standIns := [], harness := (true, "82411acf47a53ab73b5a76cbebdb22b1bd8869ec342ee50b6a8d9d9fb88ffa73"), looks := true }, kinds := [], alts := [], laidByText := true, laidKinds := [.data, .data, .data, .sentinel, .sentinel], laidTests := true, laidLooks := .later }
def LexisTellsUptoCardSaid : Prop := Claim7.holds Tryd.pinned (.plain (OpenSpec.upto lexisTellsSpec)) lexisTellsUptoCard

/-- THE SECOND FORM's CARD OF 'keystonelaw12.LexisNames'. -/
def lexisNamesUptoCard : Claim7 := { stood := { row := lexisNamesUptoRow, standIns := [], harness := (true, "82411acf47a53ab73b5a76cbebdb22b1bd8869ec342ee50b6a8d9d9fb88ffa73"), looks := true }, kinds := [], alts := [], laidByText := true, laidKinds := [.data, .data, .data, .sentinel, .sentinel, .data], laidTests := true, laidLooks := .later }
def LexisNamesUptoCardSaid : Prop := Claim7.holds Tryd.pinned (.plain (OpenSpec.upto lexisNamesSpec)) lexisNamesUptoCard

/-- THE SECOND FORM's CARD OF 'keystonelaw12.LexisPlaces'. -/
def lexisPlacesUptoCard : Claim7 := { stood := { row := lexisPlacesUptoRow, standIns := [], harness := (true, "82411acf47a53ab73b5a76cbebdb22b1bd8869ec342ee50b6a8d9d9fb88ffa73"), looks := true }, kinds := [], alts := [], laidByText := true, laidKinds := [.data, .data, .data, .sentinel, .sentinel], laidTests := true, laidLooks := .later }
def LexisPlacesUptoCardSaid : Prop := Claim7.holds Tryd.pinned (.plain (OpenSpec.upto lexisPlacesSpec)) lexisPlacesUptoCard

/-- THE SECOND FORM's CARD OF 'keystonelaw12.LexisBack'. -/
def lexisBackUptoCard : Claim7 := { stood := { row := lexisBackUptoRow, standIns := [], harness := (true, "82411acf47a53ab73b5a76cbebdb22b1bd8869ec342ee50b6a8d9d9fb88ffa73"), looks := true }, kinds := [], alts := [], laidByText := true, laidKinds := [.data, .data, .data, .sentinel, .sentinel], laidTests := true, laidLooks := .later }
def LexisBackUptoCardSaid : Prop := Claim7.holds Tryd.pinned (.plain (OpenSpec.upto lexisBackSpec)) lexisBackUptoCard

/-- THE SECOND FORM's CARD OF 'keystonelaw12.LexisLoses'. -/
def lexisLosesUptoCard : Claim7 := { stood := { row := lexisLosesUptoRow, standIns := [], harness := (true, "82411acf47a53ab73b5a76cbebdb22b1bd8869ec342ee50b6a8d9d9fb88ffa73"), looks := true }, kinds := [], alts := [], laidByText := true, laidKinds := [.data, .data, .data, .sentinel, .sentinel], laidTests := true, laidLooks := .later }
def LexisLosesUptoCardSaid : Prop := Claim7.holds Tryd.pinned (.plain (OpenSpec.upto lexisLosesSpec)) lexisLosesUptoCard
end Rows
end Go.Proofs.YtagangneoibbcaaDoor
