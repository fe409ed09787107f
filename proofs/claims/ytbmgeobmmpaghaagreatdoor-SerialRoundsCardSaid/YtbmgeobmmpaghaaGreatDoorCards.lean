/-
  DERIVED. GIVEN WITH THE SEED: THE CARDS: each row of YtbmgeobmmpaghaaGreatDoorRows.lean that lists a variable, with what it lists TIED to the program's text (the seventh form; the later family's looks); each row that meets fmt, with fmt's text TOLD by the authors' own Lean function (tested against real Go, not proved from fmt's source: count such statements apart). THE CARD IS WHAT COUNTS. Prove the row's statement (the work); the ties are given (YtbmgeobmmpaghaaGreatDoorTie.lean); close each card by the builder's one call (the guide's Derived/Test/ToyasCard.lean, 'card_holds'). Laid BY PROGRAM, IN A SANDBOX (cutbox-door.mjs). By AI agents, Wed Nov 11 2026. No macro, syntax, notation, axiom, sorry.
-/
import Derived.Test.YtbmgeobmmpaghaaGreatDoorRows
import GoSem.ClaimSeven
namespace Go.Proofs.YtbmgeobmmpaghaaGreatDoor
namespace Rows

/-- THE TIED CARD OF 'keystonelaw11.SerialGraphs'. -/
def serialGraphsCard : Claim7 := { stood := { row := serialGraphsRow, standIns := [], harness := (true, "3f93128e2bcc0ad90aff31be1b2ed9b627eb599442a3d96b4d36b6b0f92b2729"), looks := false }, kinds := [], alts := [], laidByText := true, laidKinds := [.data], laidTests := true, laidLooks := .later }
def SerialGraphsCardSaid : Prop := Claim7.holds Tryz.pinned (.plain (OpenSpec.ofChange serialGraphsSpec)) serialGraphsCard

/-- THE TIED CARD OF 'keystonelaw11.SerialOrders'. -/
def serialOrdersCard : Claim7 := { stood := { row := serialOrdersRow, standIns := [], harness := (true, "3f93128e2bcc0ad90aff31be1b2ed9b627eb599442a3d96b4d36b6b0f92b2729"), looks := false }, kinds := [], alts := [], laidByText := true, laidKinds := [.data], laidTests := true, laidLooks := .later }
def SerialOrdersCardSaid : Prop := Claim7.holds Tryz.pinned (.plain (OpenSpec.ofChange serialOrdersSpec)) serialOrdersCard

/-- THE TIED CARD OF 'keystonelaw11.SerialRounds'. -/
def serialRoundsCard : Claim7 := { stood := { row := serialRoundsRow, standIns := [], harness := (true, "3f93128e2bcc0ad90aff31be1b2ed9b627eb599442a3d96b4d36b6b0f92b2729"), looks := false }, kinds := [], alts := [], laidByText := true, laidKinds := [.data], laidTests := true, laidLooks := .later }
def SerialRoundsCardSaid : Prop := Claim7.holds Tryz.pinned (.plain (OpenSpec.ofChange serialRoundsSpec)) serialRoundsCard

/-- THE TIED CARD OF 'keystonelaw11.SerialTells'. -/
def serialTellsCard : Claim7 := { stood := { row := serialTellsRow, standIns := [], harness := (true, "3f93128e2bcc0ad90aff31be1b2ed9b627eb599442a3d96b4d36b6b0f92b2729"), looks := false }, kinds := [], alts := [], laidByText := true, laidKinds := [.data], laidTests := true, laidLooks := .later }
def SerialTellsCardSaid : Prop := Claim7.holds Tryz.pinned (.plain (OpenSpec.ofChange serialTellsSpec)) serialTellsCard

/-- THE TIED CARD OF 'keystonelaw11.SerialOwn'. -/
def serialOwnCard : Claim7 := { stood := { row := serialOwnRow, standIns := [], harness := (true, "3f93128e2bcc0ad90aff31be1b2ed9b627eb599442a3d96b4d36b6b0f92b2729"), looks := false }, kinds := [], alts := [], laidByText := true, laidKinds := [.data], laidTests := true, laidLooks := .later }
def SerialOwnCardSaid : Prop := Claim7.holds Tryz.pinned (.plain (OpenSpec.ofChange serialOwnSpec)) serialOwnCard

/-- THE SECOND FORM's CARD OF 'keystonelaw11.SerialGraphs'. -/
def serialGraphsUptoCard : Claim7 := { stood := { row := serialGraphsUptoRow, standIns := [], harness := (true, "3f93128e2bcc0ad90aff31be1b2ed9b627eb599442a3d96b4d36b6b0f92b2729"), looks := false }, kinds := [], alts := [], laidByText := true, laidKinds := [.data], laidTests := true, laidLooks := .later }
def SerialGraphsUptoCardSaid : Prop := Claim7.holds Tryz.pinned (.plain (OpenSpec.upto serialGraphsSpec)) serialGraphsUptoCard

/-- THE SECOND FORM's CARD OF 'keystonelaw11.SerialOrders'. -/
def serialOrdersUptoCard : Claim7 := { stood := { row := serialOrdersUptoRow, standIns := [], harness := (true, "3f93128e2bcc0ad90aff31be1b2ed9b627eb599442a3d96b4d36b6b0f92b2729"), looks := false }, kinds := [], alts := [], laidByText := true, laidKinds := [.data], laidTests := true, laidLooks := .later }
def SerialOrdersUptoCardSaid : Prop := Claim7.holds Tryz.pinned (.plain (OpenSpec.upto serialOrdersSpec)) serialOrdersUptoCard

/-- THE SECOND FORM's CARD OF 'keystonelaw11.SerialRounds'. -/
def serialRoundsUptoCard : Claim7 := { stood := { row := serialRoundsUptoRow, standIns := [], harness := (true, "3f93128e2bcc0ad90aff31be1b2ed9b627eb599442a3d96b4d36b6b0f92b2729"), looks := false }, kinds := [], alts := [], laidByText := true, laidKinds := [.data], laidTests := true, laidLooks := .later }
def SerialRoundsUptoCardSaid : Prop := Claim7.holds Tryz.pinned (.plain (OpenSpec.upto serialRoundsSpec)) serialRoundsUptoCard

/-- THE SECOND FORM's CARD OF 'keystonelaw11.SerialTells'. -/
def serialTellsUptoCard : Claim7 := { stood := { row := serialTellsUptoRow, standIns := [], harness := (true, "3f93128e2bcc0ad90aff31be1b2ed9b627eb599442a3d96b4d36b6b0f92b2729"), looks := false }, kinds := [], alts := [], laidByText := true, laidKinds := [.data], laidTests := true, laidLooks := .later }
def SerialTellsUptoCardSaid : Prop := Claim7.holds Tryz.pinned (.plain (OpenSpec.upto serialTellsSpec)) serialTellsUptoCard

/-- THE SECOND FORM's CARD OF 'keystonelaw11.SerialOwn'. -/
def serialOwnUptoCard : Claim7 := { stood := { row := serialOwnUptoRow, standIns := [], harness := (true, "3f93128e2bcc0ad90aff31be1b2ed9b627eb599442a3d96b4d36b6b0f92b2729"), looks := false }, kinds := [], alts := [], laidByText := true, laidKinds := [.data], laidTests := true, laidLooks := .later }
def SerialOwnUptoCardSaid : Prop := Claim7.holds Tryz.pinned (.plain (OpenSpec.upto serialOwnSpec)) serialOwnUptoCard
end Rows
end Go.Proofs.YtbmgeobmmpaghaaGreatDoor
