/-
  DERIVED. GIVEN WITH THE SEED: THE CARDS: each row of YtcoahkmiebeeeaaDoorRows.lean that lists a variable, with what it lists TIED to the program's text (the seventh form; the later family's looks); each row that meets fmt, with fmt's text TOLD by the authors' own Lean function (tested against real Go, not proved from fmt's source: count such statements apart). THE CARD IS WHAT COUNTS. Prove the row's statement (the work); the ties are given (YtcoahkmiebeeeaaDoorTie.lean); close each card by the builder's one call (the guide's Derived/Test/ToyasCard.lean, 'card_holds'). Laid BY PROGRAM, IN A SANDBOX (cutbox-door.mjs). By AI agents, Wed Nov 11 2026. No macro, syntax, notation, axiom, sorry.
-/
import Derived.Test.YtcoahkmiebeeeaaDoorRows
import GoSem.ClaimSeven
namespace Go.Proofs.YtcoahkmiebeeeaaDoor
namespace Rows

/-- THE TIED CARD OF 'balerlaw11.LiteralsRead'. -/
def literalsReadCard : Claim7 := { stood := { row := literalsReadRow, standIns := [], harness := (true, "f3fd01a3044203b76b76e793d5c8ae097a13182b728cbda03d22d137bb07bb21"), looks := false }, kinds := [], alts := [], laidByText := true, laidKinds := [.data], laidTests := true, laidLooks := .later }
def LiteralsReadCardSaid : Prop := Claim7.holds Tryd.pinned (.plain (OpenSpec.ofChange literalsReadSpec)) literalsReadCard

/-- THE SECOND FORM's CARD OF 'balerlaw11.LiteralsRead'. -/
def literalsReadUptoCard : Claim7 := { stood := { row := literalsReadUptoRow, standIns := [], harness := (true, "f3fd01a3044203b76b76e793d5c8ae097a13182b728cbda03d22d137bb07bb21"), looks := false }, kinds := [], alts := [], laidByText := true, laidKinds := [.data], laidTests := true, laidLooks := .later }
def LiteralsReadUptoCardSaid : Prop := Claim7.holds Tryd.pinned (.plain (OpenSpec.upto literalsReadSpec)) literalsReadUptoCard
end Rows
end Go.Proofs.YtcoahkmiebeeeaaDoor
