/-
  DERIVED. GIVEN WITH THE SEED: THE CARDS: each row of YtnokemcogjoonaaGreatDoorRows.lean that lists a variable, with what it lists TIED to the program's text (the seventh form; the later family's looks); each row that meets fmt, with fmt's text TOLD by the authors' own Lean function (tested against real Go, not proved from fmt's source: count such statements apart). THE CARD IS WHAT COUNTS. Prove the row's statement (the work); the ties are given (YtnokemcogjoonaaGreatDoorTie.lean); close each card by the builder's one call (the guide's Derived/Test/ToyasCard.lean, 'card_holds'). Laid BY PROGRAM, IN A SANDBOX (cutbox-door.mjs). By AI agents, Wed Nov 11 2026. No macro, syntax, notation, axiom, sorry.
-/
import Derived.Test.YtnokemcogjoonaaGreatDoorRows
import GoSem.ClaimSeven
namespace Go.Proofs.YtnokemcogjoonaaGreatDoor
namespace Rows

/-- THE TIED CARD OF 'balerlaw14.LzmaputBack'. -/
def lzmaputBackCard : Claim7 := { stood := { row := lzmaputBackRow, standIns := [], harness := (true, "47a3778044b3b9a4a0b28e4431b22e54969f6f78af873bd2a417d6380c968459"), looks := true }, kinds := [], alts := [], laidByText := true, laidKinds := [.data], laidTests := true, laidLooks := .later }
def LzmaputBackCardSaid : Prop := Claim7.holds Tryz.pinned (.plain (OpenSpec.ofChange lzmaputBackSpec)) lzmaputBackCard

/-- THE TIED CARD OF 'balerlaw14.LzmaputRefuses'. -/
def lzmaputRefusesCard : Claim7 := { stood := { row := lzmaputRefusesRow, standIns := [], harness := (true, "47a3778044b3b9a4a0b28e4431b22e54969f6f78af873bd2a417d6380c968459"), looks := true }, kinds := [], alts := [], laidByText := true, laidKinds := [.data], laidTests := true, laidLooks := .later }
def LzmaputRefusesCardSaid : Prop := Claim7.holds Tryz.pinned (.plain (OpenSpec.ofChange lzmaputRefusesSpec)) lzmaputRefusesCard

/-- THE SECOND FORM's CARD OF 'balerlaw14.LzmaputBack'. -/
def lzmaputBackUptoCard : Claim7 := { stood := { row := lzmaputBackUptoRow, standIns := [], harness := (true, "47a3778044b3b9a4a0b28e4431b22e54969f6f78af873bd2a417d6380c968459"), looks := true }, kinds := [], alts := [], laidByText := true, laidKinds := [.data], laidTests := true, laidLooks := .later }
def LzmaputBackUptoCardSaid : Prop := Claim7.holds Tryz.pinned (.plain (OpenSpec.upto lzmaputBackSpec)) lzmaputBackUptoCard

/-- THE SECOND FORM's CARD OF 'balerlaw14.LzmaputRefuses'. -/
def lzmaputRefusesUptoCard : Claim7 := { stood := { row := lzmaputRefusesUptoRow, standIns := [], harness := (true, "47a3778044b3b9a4a0b28e4431b22e54969f6f78af873bd2a417d6380c968459"), looks := true }, kinds := [], alts := [], laidByText := true, laidKinds := [.data], laidTests := true, laidLooks := .later }
def LzmaputRefusesUptoCardSaid : Prop := Claim7.holds Tryz.pinned (.plain (OpenSpec.upto lzmaputRefusesSpec)) lzmaputRefusesUptoCard
end Rows
end Go.Proofs.YtnokemcogjoonaaGreatDoor
