/-
  DERIVED. GIVEN WITH THE SEED: THE CARDS: each row of YtlpibfonpfhakaaDoorRows.lean that lists a variable, with what it lists TIED to the program's text (the seventh form; the later family's looks); each row that meets fmt, with fmt's text TOLD by the authors' own Lean function (tested against real Go, not proved from fmt's source: count such statements apart). THE CARD IS WHAT COUNTS. Prove the row's statement (the work); the ties are given (YtlpibfonpfhakaaDoorTie.lean); close each card by the builder's one call (the guide's Derived/Test/ToyasCard.lean, 'card_holds'). Laid BY PROGRAM, IN A SANDBOX (cutbox-door.mjs). By AI agents, Wed Nov 11 2026. No macro, syntax, notation, axiom, sorry.
-/
import Derived.Test.YtlpibfonpfhakaaDoorRows
import GoSem.ClaimSeven
namespace Go.Proofs.YtlpibfonpfhakaaDoor
namespace Rows

/-- THE TIED CARD OF 'balerlaw08.FinderBack'. -/
def finderBackCard : Claim7 := { stood := { row := finderBackRow, standIns := [], harness := (true, "7130499eb50a1eba5210d7b97568897e5a7a409bf216c31d7532cd80046e5e8a"), looks := false }, kinds := [], alts := [], laidByText := true, laidKinds := [.data], laidTests := true, laidLooks := .later }
def FinderBackCardSaid : Prop := Claim7.holds Tryd.pinned (.plain (OpenSpec.ofChange finderBackSpec)) finderBackCard

/-- THE TIED CARD OF 'balerlaw08.FinderRight'. -/
def finderRightCard : Claim7 := { stood := { row := finderRightRow, standIns := [], harness := (true, "7130499eb50a1eba5210d7b97568897e5a7a409bf216c31d7532cd80046e5e8a"), looks := false }, kinds := [], alts := [], laidByText := true, laidKinds := [.data], laidTests := true, laidLooks := .later }
def FinderRightCardSaid : Prop := Claim7.holds Tryd.pinned (.plain (OpenSpec.ofChange finderRightSpec)) finderRightCard

/-- THE TIED CARD OF 'balerlaw08.FinderAgain'. -/
def finderAgainCard : Claim7 := { stood := { row := finderAgainRow, standIns := [], harness := (true, "7130499eb50a1eba5210d7b97568897e5a7a409bf216c31d7532cd80046e5e8a"), looks := false }, kinds := [], alts := [], laidByText := true, laidKinds := [.data], laidTests := true, laidLooks := .later }
def FinderAgainCardSaid : Prop := Claim7.holds Tryd.pinned (.plain (OpenSpec.ofChange finderAgainSpec)) finderAgainCard

/-- THE TIED CARD OF 'balerlaw08.FinderFinds'. -/
def finderFindsCard : Claim7 := { stood := { row := finderFindsRow, standIns := [], harness := (true, "7130499eb50a1eba5210d7b97568897e5a7a409bf216c31d7532cd80046e5e8a"), looks := false }, kinds := [], alts := [], laidByText := true, laidKinds := [.data], laidTests := true, laidLooks := .later }
def FinderFindsCardSaid : Prop := Claim7.holds Tryd.pinned (.plain (OpenSpec.ofChange finderFindsSpec)) finderFindsCard

/-- THE TIED CARD OF 'balerlaw08.FinderPlain'. -/
def finderPlainCard : Claim7 := { stood := { row := finderPlainRow, standIns := [], harness := (true, "7130499eb50a1eba5210d7b97568897e5a7a409bf216c31d7532cd80046e5e8a"), looks := false }, kinds := [], alts := [], laidByText := true, laidKinds := [.data], laidTests := true, laidLooks := .later }
def FinderPlainCardSaid : Prop := Claim7.holds Tryd.pinned (.plain (OpenSpec.ofChange finderPlainSpec)) finderPlainCard

/-- THE SECOND FORM's CARD OF 'balerlaw08.FinderBack'. -/
def finderBackUptoCard : Claim7 := { stood := { row := finderBackUptoRow, standIns := [], harness := (true, "7130499eb50a1eba5210d7b97568897e5a7a409bf216c31d7532cd80046e5e8a"), looks := false }, kinds := [], alts := [], laidByText := true, laidKinds := [.data], laidTests := true, laidLooks := .later }
def FinderBackUptoCardSaid : Prop := Claim7.holds Tryd.pinned (.plain (OpenSpec.upto finderBackSpec)) finderBackUptoCard

/-- THE SECOND FORM's CARD OF 'balerlaw08.FinderRight'. -/
def finderRightUptoCard : Claim7 := { stood := { row := finderRightUptoRow, standIns := [], harness := (true, "7130499eb50a1eba5210d7b97568897e5a7a409bf216c31d7532cd80046e5e8a"), looks := false }, kinds := [], alts := [], laidByText := true, laidKinds := [.data], laidTests := true, laidLooks := .later }
def FinderRightUptoCardSaid : Prop := Claim7.holds Tryd.pinned (.plain (OpenSpec.upto finderRightSpec)) finderRightUptoCard

/-- THE SECOND FORM's CARD OF 'balerlaw08.FinderAgain'. -/
def finderAgainUptoCard : Claim7 := { stood := { row := finderAgainUptoRow, standIns := [], harness := (true, "7130499eb50a1eba5210d7b97568897e5a7a409bf216c31d7532cd80046e5e8a"), looks := false }, kinds := [], alts := [], laidByText := true, laidKinds := [.data], laidTests := true, laidLooks := .later }
def FinderAgainUptoCardSaid : Prop := Claim7.holds Tryd.pinned (.plain (OpenSpec.upto finderAgainSpec)) finderAgainUptoCard

/-- THE SECOND FORM's CARD OF 'balerlaw08.FinderFinds'. -/
def finderFindsUptoCard : Claim7 := { stood := { row := finderFindsUptoRow, standIns := [], harness := (true, "7130499eb50a1eba5210d7b97568897e5a7a409bf216c31d7532cd80046e5e8a"), looks := false }, kinds := [], alts := [], laidByText := true, laidKinds := [.data], laidTests := true, laidLooks := .later }
def FinderFindsUptoCardSaid : Prop := Claim7.holds Tryd.pinned (.plain (OpenSpec.upto finderFindsSpec)) finderFindsUptoCard

/-- THE SECOND FORM's CARD OF 'balerlaw08.FinderPlain'. -/
def finderPlainUptoCard : Claim7 := { stood := { row := finderPlainUptoRow, standIns := [], harness := (true, "7130499eb50a1eba5210d7b97568897e5a7a409bf216c31d7532cd80046e5e8a"), looks := false }, kinds := [], alts := [], laidByText := true, laidKinds := [.data], laidTests := true, laidLooks := .later }
def FinderPlainUptoCardSaid : Prop := Claim7.holds Tryd.pinned (.plain (OpenSpec.upto finderPlainSpec)) finderPlainUptoCard
end Rows
end Go.Proofs.YtlpibfonpfhakaaDoor
