/-
  DERIVED. GIVEN WITH THE SEED: THE CARDS: each row of YtnpeankmmojebaaGreatDoorRows.lean that lists a variable, with what it lists TIED to the program's text (the seventh form; the later family's looks); each row that meets fmt, with fmt's text TOLD by the authors' own Lean function (tested against real Go, not proved from fmt's source: count such statements apart). THE CARD IS WHAT COUNTS. Prove the row's statement (the work); the ties are given (YtnpeankmmojebaaGreatDoorTie.lean); close each card by the builder's one call (the guide's Derived/Test/ToyasCard.lean, 'card_holds'). Laid BY PROGRAM, IN A SANDBOX (cutbox-door.mjs). By AI agents, Wed Nov 11 2026. No macro, syntax, notation, axiom, sorry.
-/
import Derived.Test.YtnpeankmmojebaaGreatDoorRows
import GoSem.ClaimSeven
namespace Go.Proofs.YtnpeankmmojebaaGreatDoor
namespace Rows

/-- THE TIED CARD OF 'keystonelaw11.SerialOrders'. -/
def serialOrdersCard : Claim7 := { stood := { row := serialOrdersRow, standIns := [], harness := (true, "ed42a979356eb57853797c7e106589ad0c2e371a6e6373a298e24a8449ce911d"), looks := false }, kinds := [], alts := [], laidByText := true, laidKinds := [.data], laidTests := true, laidLooks := .later }
def SerialOrdersCardSaid : Prop := Claim7.holds Tryz.pinned (.plain (OpenSpec.ofChange serialOrdersSpec)) serialOrdersCard

/-- THE TIED CARD OF 'keystonelaw11.SerialOwn'. -/
def serialOwnCard : Claim7 := { stood := { row := serialOwnRow, standIns := [], harness := (true, "ed42a979356eb57853797c7e106589ad0c2e371a6e6373a298e24a8449ce911d"), looks := false }, kinds := [], alts := [], laidByText := true, laidKinds := [.data], laidTests := true, laidLooks := .later }
def SerialOwnCardSaid : Prop := Claim7.holds Tryz.pinned (.plain (OpenSpec.ofChange serialOwnSpec)) serialOwnCard

/-- THE SECOND FORM's CARD OF 'keystonelaw11.SerialOrders'. -/
def serialOrdersUptoCard : Claim7 := { stood := { row := serialOrdersUptoRow, standIns := [], harness := (true, "ed42a979356eb57853797c7e106589ad0c2e371a6e6373a298e24a8449ce911d"), looks := false }, kinds := [], alts := [], laidByText := true, laidKinds := [.data], laidTests := true, laidLooks := .later }
def SerialOrdersUptoCardSaid : Prop := Claim7.holds Tryz.pinned (.plain (OpenSpec.upto serialOrdersSpec)) serialOrdersUptoCard

/-- THE SECOND FORM's CARD OF 'keystonelaw11.SerialOwn'. -/
def serialOwnUptoCard : Claim7 := { stood := { row := serialOwnUptoRow, standIns := [], harness := (true, "ed42a979356eb57853797c7e106589ad0c2e371a6e6373a298e24a8449ce911d"), looks := false }, kinds := [], alts := [], laidByText := true, laidKinds := [.data], laidTests := true, laidLooks := .later }
def SerialOwnUptoCardSaid : Prop := Claim7.holds Tryz.pinned (.plain (OpenSpec.upto serialOwnSpec)) serialOwnUptoCard
end Rows
end Go.Proofs.YtnpeankmmojebaaGreatDoor
