/-
  DERIVED. GIVEN WITH THE SEED: THE CARDS: each row of YtgaepmmpedaaiaaDoorRows.lean that lists a variable, with what it lists TIED to the program's text (the seventh form; the later family's looks); each row that meets fmt, with fmt's text TOLD by the authors' own Lean function (tested against real Go, not proved from fmt's source: count such statements apart). THE CARD IS WHAT COUNTS. Prove the row's statement (the work); the ties are given (YtgaepmmpedaaiaaDoorTie.lean); close each card by the builder's one call (the guide's Derived/Test/ToyasCard.lean, 'card_holds'). Laid BY PROGRAM, IN A SANDBOX (cutbox-door.mjs). By AI agents, Wed Nov 11 2026. No macro, syntax, notation, axiom, sorry.
-/
import Derived.Test.YtgaepmmpedaaiaaDoorRows
import GoSem.ClaimSeven
namespace Go.Proofs.YtgaepmmpedaaiaaDoor
namespace Rows

/-- THE TIED CARD OF 'balerlaw13.SequencesPick'. -/
def sequencesPickCard : Claim7 := { stood := { row := sequencesPickRow, standIns := [], harness := (true, "c9664835d66ef0d999aa5423c3f5ca8636c95e4defb38fbdb5cde68efbf2eae7"), looks := false }, kinds := [], alts := [], laidByText := true, laidKinds := [.data, .data], laidTests := true, laidLooks := .later }
def SequencesPickCardSaid : Prop := Claim7.holds Tryd.pinned (.plain (OpenSpec.ofChange sequencesPickSpec)) sequencesPickCard

/-- THE SECOND FORM's CARD OF 'balerlaw13.SequencesPick'. -/
def sequencesPickUptoCard : Claim7 := { stood := { row := sequencesPickUptoRow, standIns := [], harness := (true, "c9664835d66ef0d999aa5423c3f5ca8636c95e4defb38fbdb5cde68efbf2eae7"), looks := false }, kinds := [], alts := [], laidByText := true, laidKinds := [.data, .data], laidTests := true, laidLooks := .later }
def SequencesPickUptoCardSaid : Prop := Claim7.holds Tryd.pinned (.plain (OpenSpec.upto sequencesPickSpec)) sequencesPickUptoCard
end Rows
end Go.Proofs.YtgaepmmpedaaiaaDoor
