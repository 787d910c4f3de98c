/-
  The document's next: the byte whose word comes next.
  The document's own New.
  The document's Unpack.
  The document's states: weights that two states tell by turns.
  The document's Read, where bytes are short.
  The document's Read of weights that two states tell.
  The document's Read of weights of four bits.
-/
import Derived.Test.YtcoahkmiebeeeaaGreatDoorLitP7
import Derived.Test.YtcoahkmiebeeeaaGreatDoorLitP8
import Derived.Test.YtcoahkmiebeeeaaGreatDoorLitP10
import Derived.Test.YtcoahkmiebeeeaaGreatDoorLitP12
namespace Go.Proofs.YtcoahkmiebeeeaaGreatDoor
open Go.RowKit Go.Shelf
set_option linter.unusedVariables false

end Go.Proofs.YtcoahkmiebeeeaaGreatDoor

namespace Go.Proofs.YtcoahkmiebeeeaaGreatDoor.Tl
open Go.RowKit Go.Shelf
set_option linter.unusedVariables false

end Go.Proofs.YtcoahkmiebeeeaaGreatDoor.Tl

namespace Go.Proofs.YtcoahkmiebeeeaaGreatDoor
open Go.RowKit Go.Shelf
set_option linter.unusedVariables false

end Go.Proofs.YtcoahkmiebeeeaaGreatDoor

namespace Go.Proofs.YtcoahkmiebeeeaaGreatDoor
open Go.RowKit Go.Shelf
set_option linter.unusedVariables false

def toldD (sy bi ba : Nat → Nat) (bs : List Nat) (l : Nat) : Option (List Nat) := if Tl.tailLen bs < l + l then none else turnsF sy bi ba bs 257 (strm bs 0 l) (strm bs l l) (l + l)
def tellD (bs : List Nat) : Option (List Int × Nat × Nat) → Option (List Nat)
  | none => none
  | some (xs, l, u) => if (bs.drop u)[(bs.drop u).length - 1]?.getD 0 = 0 then none else toldD (symF xs (2 ^ l)) (fun i => bitF l (xF xs (2 ^ l) i)) (fun i => baseF l (xF xs (2 ^ l) i)) (bs.drop u) l
theorem tellT_iff (bs : List Nat) (R : Option (List Int × Nat × Nat)) (M : List Nat) : tellT bs R = some M ↔ tellD bs R = some M ∧ M.length ≤ 255 := by
  cases R with
  | none => exact ⟨(fun h => by cases h), (fun h => by cases h.1)⟩
  | some r =>
    obtain ⟨xs, l, u⟩ := r
    unfold tellT tellD
    dsimp only
    by_cases h0 : (bs.drop u)[(bs.drop u).length - 1]?.getD 0 = 0
    · rw [if_pos h0, if_pos h0]
      exact ⟨(fun h => by cases h), (fun h => by cases h.1)⟩
    · rw [if_neg h0, if_neg h0]
      unfold toldT toldD
      by_cases h1 : Tl.tailLen (bs.drop u) < l + l
      · rw [if_pos h1, if_pos h1]
        exact ⟨(fun h => by cases h), (fun h => by cases h.1)⟩
      · rw [if_neg h1, if_neg h1]
        exact turnsF_more 3 254 _ _ _ M

section
attribute [local go_sem] sliceSem_eq
end

end Go.Proofs.YtcoahkmiebeeeaaGreatDoor

namespace Go.Proofs.YtcoahkmiebeeeaaGreatDoor
open Go.RowKit Go.Shelf
set_option linter.unusedVariables false

theorem readOf_tell (bs : List Nat) (R : Option (List Int × Nat × Nat)) : readOf (tellT bs R) = readOf (tellD bs R) := by
  cases hD : tellD bs R with
  | none =>
    cases hT : tellT bs R with
    | none => rfl
    | some M => have := ((tellT_iff bs R M).1 hT).1; rw [hD] at this; cases this
  | some M =>
    by_cases hl : M.length ≤ 255
    · rw [(tellT_iff bs R M).2 ⟨hD, hl⟩]
    · rw [readOf_no (whole_long M (by omega))]
      cases hT : tellT bs R with
      | none => rfl
      | some M' =>
        have h := (tellT_iff bs R M').1 hT
        rw [hD] at h
        have := h.2
        cases h.1
        omega

end Go.Proofs.YtcoahkmiebeeeaaGreatDoor

namespace Go.Proofs.YtcoahkmiebeeeaaGreatDoor
open Go.RowKit Go.Shelf
set_option linter.unusedVariables false

theorem turnsF_lt {sy bi ba : Nat → Nat} {bs : List Nat} {S : Nat} (hW : Within bi ba S) (hsy : ∀ i, i < S → sy i < 256) : ∀ (f own other q : Nat) (M : List Nat), own < S → other < S → turnsF sy bi ba bs f own other q = some M → ∀ x ∈ M, x < 256 := by
  intro f
  induction f with
  | zero => intro own other q M _ _ h; cases h
  | succ f ih =>
    intro own other q M h1 h2 h
    rw [turnsF_succ] at h
    split at h
    · cases h
      intro x hx
      simp only [List.mem_cons, List.not_mem_nil, or_false] at hx
      rcases hx with rfl | rfl
      · exact hsy _ h1
      · exact hsy _ h2
    · obtain ⟨M', h3, rfl⟩ := Option.map_eq_some_iff.1 h
      intro x hx
      rcases List.mem_cons.1 hx with rfl | hx
      · exact hsy _ h1
      · exact ih _ _ _ _ h2 (within_next hW bs q own h1) h3 x hx
theorem tellD_lt {ds : List Nat} {R : Option (List Int × Nat × Nat)} {M : List Nat} (hR : RdRel ds 6 11 R) (h : tellD ds R = some M) : ∀ j : Nat, M[j]?.getD 0 < 256 := by
  cases R with
  | none => cases h
  | some r =>
    obtain ⟨xs, l, u⟩ := r
    obtain ⟨ok, hI16, hxl, hxne, hub, hl6, hl5, hu1⟩ := hR.ok (by omega) (by omega)
    unfold tellD at h
    dsimp only at h
    split at h
    · cases h
    · unfold toldD at h
      split at h
      · cases h
      · exact lt256 (turnsF_lt (within_ok ok (by omega)) (fun i hi => symF_256 ok (by omega) i hi) _ _ _ _ _ (strm_lt _ _ _) (strm_lt _ _ _) h)

section
attribute [local go_sem] sliceSem_eq
end

end Go.Proofs.YtcoahkmiebeeeaaGreatDoor

namespace Go.Proofs.YtcoahkmiebeeeaaGreatDoor
open Go.RowKit Go.Shelf
set_option linter.unusedVariables false

end Go.Proofs.YtcoahkmiebeeeaaGreatDoor
