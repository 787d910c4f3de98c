/-
  DERIVED. GIVEN WITH THE SEED: THE CARDS: each row of YtgaepmmpedaaiaaGreatDoorRows.lean that lists a variable, with what it lists TIED to the program's text (the seventh form; the later family's looks); each row that meets fmt, with fmt's text TOLD by the authors' own Lean function (tested against real Go, not proved from fmt's source: count such statements apart). THE CARD IS WHAT COUNTS. Prove the row's statement (the work); the ties are given (YtgaepmmpedaaiaaGreatDoorTie.lean); close each card by the builder's one call (the guide's Derived/Test/ToyasCard.lean, 'card_holds'). Laid BY PROGRAM, IN A SANDBOX (cutbox-door.mjs). By AI agents, Wed Nov 11 2026. No macro, syntax, notation, axiom, sorry.
-/
import Derived.Test.YtgaepmmpedaaiaaGreatDoorRows
import GoSem.ClaimSeven
namespace Go.Proofs.YtgaepmmpedaaiaaGreatDoor
namespace Rows

/-- THE TIED CARD OF 'balerlaw13.SequencesRead'. -/
def sequencesReadCard : Claim7 := { stood := { row := sequencesReadRow, standIns := [], harness := (true, "84f472e10e436bec1567f17ec3750fef006f61e25a0deb8d480493b6ecb3cb15"), looks := false }, kinds := [], alts := [], laidByText := true, laidKinds := [.data, .data], laidTests := true, laidLooks := .later }
def SequencesReadCardSaid : Prop := Claim7.holds Tryz.pinned (.plain (OpenSpec.ofChange sequencesReadSpec)) sequencesReadCard

/-- THE TIED CARD OF 'balerlaw13.SequencesAhead'. -/
def sequencesAheadCard : Claim7 := { stood := { row := sequencesAheadRow, standIns := [], harness := (true, "84f472e10e436bec1567f17ec3750fef006f61e25a0deb8d480493b6ecb3cb15"), looks := false }, kinds := [], alts := [], laidByText := true, laidKinds := [.data, .data], laidTests := true, laidLooks := .later }
def SequencesAheadCardSaid : Prop := Claim7.holds Tryz.pinned (.plain (OpenSpec.ofChange sequencesAheadSpec)) sequencesAheadCard

/-- THE TIED CARD OF 'balerlaw13.SequencesBack'. -/
def sequencesBackCard : Claim7 := { stood := { row := sequencesBackRow, standIns := [], harness := (true, "84f472e10e436bec1567f17ec3750fef006f61e25a0deb8d480493b6ecb3cb15"), looks := false }, kinds := [], alts := [], laidByText := true, laidKinds := [.data, .data], laidTests := true, laidLooks := .later }
def SequencesBackCardSaid : Prop := Claim7.holds Tryz.pinned (.plain (OpenSpec.ofChange sequencesBackSpec)) sequencesBackCard

/-- THE SECOND FORM's CARD OF 'balerlaw13.SequencesRead'. -/
def sequencesReadUptoCard : Claim7 := { stood := { row := sequencesReadUptoRow, standIns := [], harness := (true, "84f472e10e436bec1567f17ec3750fef006f61e25a0deb8d480493b6ecb3cb15"), looks := false }, kinds := [], alts := [], laidByText := true, laidKinds := [.data, .data], laidTests := true, laidLooks := .later }
def SequencesReadUptoCardSaid : Prop := Claim7.holds Tryz.pinned (.plain (OpenSpec.upto sequencesReadSpec)) sequencesReadUptoCard

/-- THE SECOND FORM's CARD OF 'balerlaw13.SequencesAhead'. -/
def sequencesAheadUptoCard : Claim7 := { stood := { row := sequencesAheadUptoRow, standIns := [], harness := (true, "84f472e10e436bec1567f17ec3750fef006f61e25a0deb8d480493b6ecb3cb15"), looks := false }, kinds := [], alts := [], laidByText := true, laidKinds := [.data, .data], laidTests := true, laidLooks := .later }
def SequencesAheadUptoCardSaid : Prop := Claim7.holds Tryz.pinned (.plain (OpenSpec.upto sequencesAheadSpec)) sequencesAheadUptoCard

/-- THE SECOND FORM's CARD OF 'balerlaw13.SequencesBack'. -/
def sequencesBackUptoCard : Claim7 := { stood := { row := sequencesBackUptoRow, standIns := [], harness := (true, "84f472e10e436bec1567f17ec3750fef006f61e25a0deb8d480493b6ecb3cb15"), looks := false }, kinds := [], alts := [], laidByText := true, laidKinds := [.data, .data], laidTests := true, laidLooks := .later }
def SequencesBackUptoCardSaid : Prop := Claim7.holds Tryz.pinned (.plain (OpenSpec.upto sequencesBackSpec)) sequencesBackUptoCard
end Rows
end Go.Proofs.YtgaepmmpedaaiaaGreatDoor
