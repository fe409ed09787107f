/-
  DERIVED. GIVEN WITH THE SEED: THE CARDS: each row of YtiappioofagpgaaDoorRows.lean that lists a variable, with what it lists TIED to the program's text (the seventh form; the later family's looks); each row that meets fmt, with fmt's text TOLD by the authors' own Lean function (tested against real Go, not proved from fmt's source: count such statements apart). THE CARD IS WHAT COUNTS. Prove the row's statement (the work); the ties are given (YtiappioofagpgaaDoorTie.lean); close each card by the builder's one call (the guide's Derived/Test/ToyasCard.lean, 'card_holds'). Laid BY PROGRAM, IN A SANDBOX (cutbox-door.mjs). By AI agents, Wed Nov 11 2026. No macro, syntax, notation, axiom, sorry.
-/
import Derived.Test.YtiappioofagpgaaDoorRows
import GoSem.ClaimSeven
namespace Go.Proofs.YtiappioofagpgaaDoor
namespace Rows

/-- THE TIED CARD OF 'keystonelaw04.TupleReads'. -/
def tupleReadsCard : Claim7 := { stood := { row := tupleReadsRow, standIns := [], harness := (true, "9a61956014de489ae9a3242ab2ac1e6cee475f5ab452ee479cdadd79442ef31a"), looks := false }, kinds := [], alts := [], laidByText := true, laidKinds := [.data, .data, .data], laidTests := true, laidLooks := .later }
def TupleReadsCardSaid : Prop := Claim7.holds Tryd.pinned (.plain (OpenSpec.ofChange tupleReadsSpec)) tupleReadsCard

/-- THE TIED CARD OF 'keystonelaw04.TupleAbove'. -/
def tupleAboveCard : Claim7 := { stood := { row := tupleAboveRow, standIns := [], harness := (true, "9a61956014de489ae9a3242ab2ac1e6cee475f5ab452ee479cdadd79442ef31a"), looks := false }, kinds := [], alts := [], laidByText := true, laidKinds := [.data, .data, .data], laidTests := true, laidLooks := .later }
def TupleAboveCardSaid : Prop := Claim7.holds Tryd.pinned (.plain (OpenSpec.ofChange tupleAboveSpec)) tupleAboveCard

/-- THE SECOND FORM's CARD OF 'keystonelaw04.TupleReads'. -/
def tupleReadsUptoCard : Claim7 := { stood := { row := tupleReadsUptoRow, standIns := [], harness := (true, "9a61956014de489ae9a3242ab2ac1e6cee475f5ab452ee479cdadd79442ef31a"), looks := false }, kinds := [], alts := [], laidByText := true, laidKinds := [.data, .data, .data], laidTests := true, laidLooks := .later }
def TupleReadsUptoCardSaid : Prop := Claim7.holds Tryd.pinned (.plain (OpenSpec.upto tupleReadsSpec)) tupleReadsUptoCard

/-- THE SECOND FORM's CARD OF 'keystonelaw04.TupleAbove'. -/
def tupleAboveUptoCard : Claim7 := { stood := { row := tupleAboveUptoRow, standIns := [], harness := (true, "9a61956014de489ae9a3242ab2ac1e6cee475f5ab452ee479cdadd79442ef31a"), looks := false }, kinds := [], alts := [], laidByText := true, laidKinds := [.data, .data, .data], laidTests := true, laidLooks := .later }
def TupleAboveUptoCardSaid : Prop := Claim7.holds Tryd.pinned (.plain (OpenSpec.upto tupleAboveSpec)) tupleAboveUptoCard
end Rows
end Go.Proofs.YtiappioofagpgaaDoor
