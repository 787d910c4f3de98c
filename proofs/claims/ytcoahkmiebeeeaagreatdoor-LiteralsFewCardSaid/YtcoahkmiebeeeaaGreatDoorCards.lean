/-
  DERIVED. GIVEN WITH THE SEED: THE CARDS: each row of YtcoahkmiebeeeaaGreatDoorRows.lean that lists a variable, with what it lists TIED to the program's text (the seventh form; the later family's looks); each row that meets fmt, with fmt's text TOLD by the authors' own Lean function (tested against real Go, not proved from fmt's source: count such statements apart). THE CARD IS WHAT COUNTS. Prove the row's statement (the work); the ties are given (YtcoahkmiebeeeaaGreatDoorTie.lean); close each card by the builder's one call (the guide's Derived/Test/ToyasCard.lean, 'card_holds'). Laid BY PROGRAM, IN A SANDBOX (cutbox-door.mjs). By AI agents, Wed Nov 11 2026. No macro, syntax, notation, axiom, sorry.
-/
import Derived.Test.YtcoahkmiebeeeaaGreatDoorRows
import GoSem.ClaimSeven
namespace Go.Proofs.YtcoahkmiebeeeaaGreatDoor
namespace Rows

/-- THE TIED CARD OF 'balerlaw11.LiteralsBack'. -/
def literalsBackCard : Claim7 := { stood := { row := literalsBackRow, standIns := [], harness := (true, "f44aec587e5b217ff220baa8c0ace1e9f22c41ff32abd4ea038e381978f73d1f"), looks := false }, kinds := [], alts := [], laidByText := true, laidKinds := [.data], laidTests := true, laidLooks := .later }
def LiteralsBackCardSaid : Prop := Claim7.holds Tryz.pinned (.plain (OpenSpec.ofChange literalsBackSpec)) literalsBackCard

/-- THE TIED CARD OF 'balerlaw11.LiteralsTwice'. -/
def literalsTwiceCard : Claim7 := { stood := { row := literalsTwiceRow, standIns := [], harness := (true, "f44aec587e5b217ff220baa8c0ace1e9f22c41ff32abd4ea038e381978f73d1f"), looks := false }, kinds := [], alts := [], laidByText := true, laidKinds := [.data], laidTests := true, laidLooks := .later }
def LiteralsTwiceCardSaid : Prop := Claim7.holds Tryz.pinned (.plain (OpenSpec.ofChange literalsTwiceSpec)) literalsTwiceCard

/-- THE TIED CARD OF 'balerlaw11.LiteralsFew'. -/
def literalsFewCard : Claim7 := { stood := { row := literalsFewRow, standIns := [], harness := (true, "f44aec587e5b217ff220baa8c0ace1e9f22c41ff32abd4ea038e381978f73d1f"), looks := false }, kinds := [], alts := [], laidByText := true, laidKinds := [.data], laidTests := true, laidLooks := .later }
def LiteralsFewCardSaid : Prop := Claim7.holds Tryz.pinned (.plain (OpenSpec.ofChange literalsFewSpec)) literalsFewCard

/-- THE SECOND FORM's CARD OF 'balerlaw11.LiteralsBack'. -/
def literalsBackUptoCard : Claim7 := { stood := { row := literalsBackUptoRow, standIns := [], harness := (true, "f44aec587e5b217ff220baa8c0ace1e9f22c41ff32abd4ea038e381978f73d1f"), looks := false }, kinds := [], alts := [], laidByText := true, laidKinds := [.data], laidTests := true, laidLooks := .later }
def LiteralsBackUptoCardSaid : Prop := Claim7.holds Tryz.pinned (.plain (OpenSpec.upto literalsBackSpec)) literalsBackUptoCard

/-- THE SECOND FORM's CARD OF 'balerlaw11.LiteralsTwice'. -/
def literalsTwiceUptoCard : Claim7 := { stood := { row := literalsTwiceUptoRow, standIns := [], harness := (true, "f44aec587e5b217ff220baa8c0ace1e9f22c41ff32abd4ea038e381978f73d1f"), looks := false }, kinds := [], alts := [], laidByText := true, laidKinds := [.data], laidTests := true, laidLooks := .later }
def LiteralsTwiceUptoCardSaid : Prop := Claim7.holds Tryz.pinned (.plain (OpenSpec.upto literalsTwiceSpec)) literalsTwiceUptoCard

/-- THE SECOND FORM's CARD OF 'balerlaw11.LiteralsFew'. -/
def literalsFewUptoCard : Claim7 := { stood := { row := literalsFewUptoRow, standIns := [], harness := (true, "f44aec587e5b217ff220baa8c0ace1e9f22c41ff32abd4ea038e381978f73d1f"), looks := false }, kinds := [], alts := [], laidByText := true, laidKinds := [.data], laidTests := true, laidLooks := .later }
def LiteralsFewUptoCardSaid : Prop := Claim7.holds Tryz.pinned (.plain (OpenSpec.upto literalsFewSpec)) literalsFewUptoCard
end Rows
end Go.Proofs.YtcoahkmiebeeeaaGreatDoor
