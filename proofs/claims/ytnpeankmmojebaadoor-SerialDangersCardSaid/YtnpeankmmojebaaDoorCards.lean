/-
  DERIVED. GIVEN WITH THE SEED: THE CARDS: each row of YtnpeankmmojebaaDoorRows.lean that lists a variable, with what it lists TIED to the program's text (the seventh form; the later family's looks); each row that meets fmt, with fmt's text TOLD by the authors' own Lean function (tested against real Go, not proved from fmt's source: count such statements apart). THE CARD IS WHAT COUNTS. Prove the row's statement (the work); the ties are given (YtnpeankmmojebaaDoorTie.lean); close each card by the builder's one call (the guide's Derived/Test/ToyasCard.lean, 'card_holds'). Laid BY PROGRAM, IN A SANDBOX (cutbox-door.mjs). By AI agents, Wed Nov 11 2026. No macro, syntax, notation, axiom, sorry.
-/
import Derived.Test.YtnpeankmmojebaaDoorRows
import GoSem.ClaimSeven
namespace Go.Proofs.YtnpeankmmojebaaDoor
namespace Rows

/-- THE TIED CARD OF 'keystonelaw11.SerialReplays'. -/
def serialReplaysCard : Claim7 := { stood := { row := serialReplaysRow, standIns := [], harness := (true, "940844c06d5650442c0f38796bcac41b8f61cd5d598932e306b87ed0d90b7c7a"), looks := false }, kinds := [], alts := [], laidByText := true, laidKinds := [.data], laidTests := true, laidLooks := .later }
def SerialReplaysCardSaid : Prop := Claim7.holds Tryd.pinned (.plain (OpenSpec.ofChange serialReplaysSpec)) serialReplaysCard

/-- THE TIED CARD OF 'keystonelaw11.SerialDangers'. -/
def serialDangersCard : Claim7 := { stood := { row := serialDangersRow, standIns := [], harness := (true, "940844c06d5650442c0f38796bcac41b8f61cd5d598932e306b87ed0d90b7c7a"), looks := false }, kinds := [], alts := [], laidByText := true, laidKinds := [.data], laidTests := true, laidLooks := .later }
def SerialDangersCardSaid : Prop := Claim7.holds Tryd.pinned (.plain (OpenSpec.ofChange serialDangersSpec)) serialDangersCard

/-- THE SECOND FORM's CARD OF 'keystonelaw11.SerialReplays'. -/
def serialReplaysUptoCard : Claim7 := { stood := { row := serialReplaysUptoRow, standIns := [], harness := (true, "940844c06d5650442c0f38796bcac41b8f61cd5d598932e306b87ed0d90b7c7a"), looks := false }, kinds := [], alts := [], laidByText := true, laidKinds := [.data], laidTests := true, laidLooks := .later }
def SerialReplaysUptoCardSaid : Prop := Claim7.holds Tryd.pinned (.plain (OpenSpec.upto serialReplaysSpec)) serialReplaysUptoCard

/-- THE SECOND FORM's CARD OF 'keystonelaw11.SerialDangers'. -/
def serialDangersUptoCard : Claim7 := { stood := { row := serialDangersUptoRow, standIns := [], harness := (true, "940844c06d5650442c0f38796bcac41b8f61cd5d598932e306b87ed0d90b7c7a"), looks := false }, kinds := [], alts := [], laidByText := true, laidKinds := [.data], laidTests := true, laidLooks := .later }
def SerialDangersUptoCardSaid : Prop := Claim7.holds Tryd.pinned (.plain (OpenSpec.upto serialDangersSpec)) serialDangersUptoCard
end Rows
end Go.Proofs.YtnpeankmmojebaaDoor
