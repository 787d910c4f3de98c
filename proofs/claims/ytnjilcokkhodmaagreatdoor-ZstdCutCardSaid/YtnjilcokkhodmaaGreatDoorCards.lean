/-
  DERIVED. GIVEN WITH THE SEED: THE CARDS: each row of YtnjilcokkhodmaaGreatDoorRows.lean that lists a variable, with what it lists TIED to the program's text (the seventh form; the later family's looks); each row that meets fmt, with fmt's text TOLD by the authors' own Lean function (tested against real Go, not proved from fmt's source: count such statements apart). THE CARD IS WHAT COUNTS. Prove the row's statement (the work); the ties are given (YtnjilcokkhodmaaGreatDoorTie.lean); close each card by the builder's one call (the guide's Derived/Test/ToyasCard.lean, 'card_holds'). Laid BY PROGRAM, IN A SANDBOX (cutbox-door.mjs). By AI agents, Wed Nov 11 2026. No macro, syntax, notation, axiom, sorry.
-/
import Derived.Test.YtnjilcokkhodmaaGreatDoorRows
import GoSem.ClaimSeven
namespace Go.Proofs.YtnjilcokkhodmaaGreatDoor
namespace Rows

/-- THE TIED CARD OF 'balerlaw15.ZstdBehind'. -/
def zstdBehindCard : Claim7 := { stood := { row := zstdBehindRow, standIns := [], harness := (true, "149c5ac93884c1e8d7e37d292fd426a0d2dc74b97088d419f3b1d3fe1f8f1d32"), looks := false }, kinds := [], alts := [], laidByText := true, laidKinds := [.data, .data, .data], laidTests := true, laidLooks := .later }
def ZstdBehindCardSaid : Prop := Claim7.holds Tryz.pinned (.plain (OpenSpec.ofChange zstdBehindSpec)) zstdBehindCard

/-- THE TIED CARD OF 'balerlaw15.ZstdCut'. -/
def zstdCutCard : Claim7 := { stood := { row := zstdCutRow, standIns := [], harness := (true, "149c5ac93884c1e8d7e37d292fd426a0d2dc74b97088d419f3b1d3fe1f8f1d32"), looks := false }, kinds := [], alts := [], laidByText := true, laidKinds := [.data, .data, .data], laidTests := true, laidLooks := .later }
def ZstdCutCardSaid : Prop := Claim7.holds Tryz.pinned (.plain (OpenSpec.ofChange zstdCutSpec)) zstdCutCard

/-- THE TIED CARD OF 'balerlaw15.ZstdRoom'. -/
def zstdRoomCard : Claim7 := { stood := { row := zstdRoomRow, standIns := [], harness := (true, "149c5ac93884c1e8d7e37d292fd426a0d2dc74b97088d419f3b1d3fe1f8f1d32"), looks := false }, kinds := [], alts := [], laidByText := true, laidKinds := [.data, .data, .data], laidTests := true, laidLooks := .later }
def ZstdRoomCardSaid : Prop := Claim7.holds Tryz.pinned (.plain (OpenSpec.ofChange zstdRoomSpec)) zstdRoomCard

/-- THE SECOND FORM's CARD OF 'balerlaw15.ZstdBehind'. -/
def zstdBehindUptoCard : Claim7 := { stood := { row := zstdBehindUptoRow, standIns := [], harness := (true, "149c5ac93884c1e8d7e37d292fd426a0d2dc74b97088d419f3b1d3fe1f8f1d32"), looks := false }, kinds := [], alts := [], laidByText := true, laidKinds := [.data, .data, .data], laidTests := true, laidLooks := .later }
def ZstdBehindUptoCardSaid : Prop := Claim7.holds Tryz.pinned (.plain (OpenSpec.upto zstdBehindSpec)) zstdBehindUptoCard

/-- THE SECOND FORM's CARD OF 'balerlaw15.ZstdCut'. -/
def zstdCutUptoCard : Claim7 := { stood := { row := zstdCutUptoRow, standIns := [], harness := (true, "149c5ac93884c1e8d7e37d292fd426a0d2dc74b97088d419f3b1d3fe1f8f1d32"), looks := false }, kinds := [], alts := [], laidByText := true, laidKinds := [.data, .data, .data], laidTests := true, laidLooks := .later }
def ZstdCutUptoCardSaid : Prop := Claim7.holds Tryz.pinned (.plain (OpenSpec.upto zstdCutSpec)) zstdCutUptoCard

/-- THE SECOND FORM's CARD OF 'balerlaw15.ZstdRoom'. -/
def zstdRoomUptoCard : Claim7 := { stood := { row := zstdRoomUptoRow, standIns := [], harness := (true, "149c5ac93884c1e8d7e37d292fd426a0d2dc74b97088d419f3b1d3fe1f8f1d32"), looks := false }, kinds := [], alts := [], laidByText := true, laidKinds := [.data, .data, .data], laidTests := true, laidLooks := .later }
def ZstdRoomUptoCardSaid : Prop := Claim7.holds Tryz.pinned (.plain (OpenSpec.upto zstdRoomSpec)) zstdRoomUptoCard
end Rows
end Go.Proofs.YtnjilcokkhodmaaGreatDoor
