/-
  The document's next: the byte whose word comes next.
  The document's own New.
  The document's Unpack.
  The document's states: weights that two states tell by turns.
  The document's Read, where bytes are short.
  The document's Read of weights that two states tell.
  The document's Read of weights of four bits.
-/
import Derived.Test.YtcoahkmiebeeeaaGreatDoorLitP7
import Derived.Test.YtcoahkmiebeeeaaGreatDoorLitP8
import Derived.Test.YtcoahkmiebeeeaaGreatDoorLitP10
import Derived.Test.YtcoahkmiebeeeaaGreatDoorLitP12
namespace Go.Proofs.YtcoahkmiebeeeaaGreatDoor
open Go.RowKit Go.Shelf
set_option linter.unusedVariables false

/-- The words as the document's row has them. -/
def dX (ws : List Nat) (s : Nat) : Nat := if wt ws s = 0 then 0 else wordX ws s
def dN (ws : List Nat) (m s : Nat) : Nat := if wt ws s = 0 then 0 else m + 1 - wt ws s
/-- Which word fits n bits. -/
theorem fits_iff {ws : List Nat} {m : Nat} (hc : IsCode ws m) (bs : List Nat) (q n i : Nat) (hi : i < ws.length) (hn : n ≤ m) : (dN ws m i = n ∧ 0 < n ∧ dX ws i = strm bs q n) ↔ (symX ws m (strm bs q m) = i ∧ n = m + 1 - wt ws i) := by
  have hwm := hc.wt_le i hi
  constructor
  · rintro ⟨h1, h2, h3⟩
    unfold dN at h1
    unfold dX at h3
    by_cases e : wt ws i = 0
    · rw [if_pos e] at h1; omega
    · rw [if_neg e] at h1 h3
      refine ⟨?_, h1.symm⟩
      refine (hc.begins i _ hi (by omega) (strm_lt _ _ _)).1 ?_
      rw [h3, ← strm_head bs q n m hn]
      congr 2
      omega
  · rintro ⟨h1, h2⟩
    have hs := hc.sym (strm bs q m) (strm_lt _ _ _)
    rw [h1] at hs
    have hb := (hc.begins i _ hi hs.2.1 (strm_lt _ _ _)).2 h1
    unfold dN dX
    rw [if_neg (by omega), if_neg (by omega)]
    refine ⟨h2.symm, by omega, ?_⟩
    rw [← hb, ← strm_head bs q n m hn]
    congr 2
    omega


end Go.Proofs.YtcoahkmiebeeeaaGreatDoor

namespace Go.Proofs.YtcoahkmiebeeeaaGreatDoor.Tl
open Go.RowKit Go.Shelf
set_option linter.unusedVariables false





/-- The length of the row that the document's reader holds. -/
def heldQ (W : World) (qb : Nat) : Nat := match W.cell? ⟨qb, 0, none⟩ with | some (.slice _ n _) => n | _ => 0


end Go.Proofs.YtcoahkmiebeeeaaGreatDoor.Tl

namespace Go.Proofs.YtcoahkmiebeeeaaGreatDoor
open Go.RowKit Go.Shelf
set_option linter.unusedVariables false

theorem posU_mono (ws : List Nat) (m : Nat) (bs : List Nat) (i j : Nat) (h : i ≤ j) : posU ws m bs i ≤ posU ws m bs j := by
  induction j with
  | zero => obtain rfl : i = 0 := by omega
            exact Nat.le_refl _
  | succ j ih =>
    by_cases e : i = j + 1
    · subst e; exact Nat.le_refl _
    · have := ih (by omega)
      rw [posU_succ]; omega


end Go.Proofs.YtcoahkmiebeeeaaGreatDoor

namespace Go.Proofs.YtcoahkmiebeeeaaGreatDoor
open Go.RowKit Go.Shelf
set_option linter.unusedVariables false

/-- What the document's states tells: it goes on for 257 weights. -/
def toldD (sy bi ba : Nat → Nat) (bs : List Nat) (l : Nat) : Option (List Nat) := if Tl.tailLen bs < l + l then none else turnsF sy bi ba bs 257 (strm bs 0 l) (strm bs l l) (l + l)
def tellD (bs : List Nat) : Option (List Int × Nat × Nat) → Option (List Nat)
  | none => none
  | some (xs, l, u) => if (bs.drop u)[(bs.drop u).length - 1]?.getD 0 = 0 then none else toldD (symF xs (2 ^ l)) (fun i => bitF l (xF xs (2 ^ l) i)) (fun i => baseF l (xF xs (2 ^ l) i)) (bs.drop u) l
/-- The program tells what the document tells, if it is at most 255 weights. -/
theorem tellT_iff (bs : List Nat) (R : Option (List Int × Nat × Nat)) (M : List Nat) : tellT bs R = some M ↔ tellD bs R = some M ∧ M.length ≤ 255 := by
  cases R with
  | none => exact ⟨(fun h => by cases h), (fun h => by cases h.1)⟩
  | some r =>
    obtain ⟨xs, l, u⟩ := r
    unfold tellT tellD
    dsimp only
    by_cases h0 : (bs.drop u)[(bs.drop u).length - 1]?.getD 0 = 0
    · rw [if_pos h0, if_pos h0]
      exact ⟨(fun h => by cases h), (fun h => by cases h.1)⟩
    · rw [if_neg h0, if_neg h0]
      unfold toldT toldD
      by_cases h1 : Tl.tailLen (bs.drop u) < l + l
      · rw [if_pos h1, if_pos h1]
        exact ⟨(fun h => by cases h), (fun h => by cases h.1)⟩
      · rw [if_neg h1, if_neg h1]
        exact turnsF_more 3 254 _ _ _ M



theorem wrap_small (x : Int) (h0 : 0 ≤ x) (h1 : x < 4096) : IntKind.i64.wrap x = x := by rw [IntKind.wrap_i64]; omega
theorem wrap_two (x y : Int) (h0 : 0 ≤ x) (h1 : 0 ≤ y) (h2 : x + y < 4096) : IntKind.i64.wrap (IntKind.i64.wrap x + IntKind.i64.wrap y) = x + y := by
  rw [wrap_small x h0 (by omega), wrap_small y h1 (by omega), wrap_small _ (by omega) h2]
theorem tellD_none {w w' : World} {T : Option (List Nat)} (h : T = none) (hk : Keep noBlock w w') : TellPost T w (.returned (.tuple #[.slice none 0 0, .bool false])) w' := by subst h; exact ⟨hk, rfl⟩
theorem tellD_some {w w' : World} {T : Option (List Nat)} {M : List Nat} {v : Value} (h : T = some M) (hk : Keep noBlock w w') (ho : w'.ownsRow 0 5 1 v M.length (u8s M)) (hn : ∀ k, v.ownBlock = some k → w.heap.size ≤ k) : TellPost T w (.returned (.tuple #[v, .bool true])) w' := by subst h; exact ⟨hk, v, rfl, ho, hn⟩

section
attribute [local go_sem] sliceSem_eq
end

end Go.Proofs.YtcoahkmiebeeeaaGreatDoor

namespace Go.Proofs.YtcoahkmiebeeeaaGreatDoor
open Go.RowKit Go.Shelf
set_option linter.unusedVariables false

/-- Program and document tell weights that make the same code, or none. -/
theorem readOf_tell (bs : List Nat) (R : Option (List Int × Nat × Nat)) : readOf (tellT bs R) = readOf (tellD bs R) := by
  cases hD : tellD bs R with
  | none =>
    cases hT : tellT bs R with
    | none => rfl
    | some M => have := ((tellT_iff bs R M).1 hT).1; rw [hD] at this; cases this
  | some M =>
    by_cases hl : M.length ≤ 255
    · rw [(tellT_iff bs R M).2 ⟨hD, hl⟩]
    · rw [readOf_no (whole_long M (by omega))]
      cases hT : tellT bs R with
      | none => rfl
      | some M' =>
        have h := (tellT_iff bs R M').1 hT
        rw [hD] at h
        have := h.2
        cases h.1
        omega


end Go.Proofs.YtcoahkmiebeeeaaGreatDoor

namespace Go.Proofs.YtcoahkmiebeeeaaGreatDoor
open Go.RowKit Go.Shelf
set_option linter.unusedVariables false

theorem run_mid5 (a : Option Addr) (len cap k m : Nat) (h1 : k ≤ m) (h2 : m ≤ cap) (w : World) :
    (sliceSem 22 (.slice a len cap) (some (.int .i64 (k : Int))) (some (.int .i64 (m : Int))) none).run Tryz.prog w = .ok (.slice (if cap = k then a else a.map (fun x => x.add k)) (m - k) (cap - k)) w := by
  obtain ⟨i0, hi, hz0, hz1, hz2⟩ := info_parts info5
  simp [sliceSem, Instr.slice, run_underlying Tryz.underlying22, Instr.sliceBounds, Instr.sliceBound, asIntOf, h1, h2, sizeOf, typeInfo, hi, hz1]

theorem turnsF_lt {sy bi ba : Nat → Nat} {bs : List Nat} {S : Nat} (hW : Within bi ba S) (hsy : ∀ i, i < S → sy i < 256) : ∀ (f own other q : Nat) (M : List Nat), own < S → other < S → turnsF sy bi ba bs f own other q = some M → ∀ x ∈ M, x < 256 := by
  intro f
  induction f with
  | zero => intro own other q M _ _ h; cases h
  | succ f ih =>
    intro own other q M h1 h2 h
    rw [turnsF_succ] at h
    split at h
    · cases h
      intro x hx
      simp only [List.mem_cons, List.not_mem_nil, or_false] at hx
      rcases hx with rfl | rfl
      · exact hsy _ h1
      · exact hsy _ h2
    · obtain ⟨M', h3, rfl⟩ := Option.map_eq_some_iff.1 h
      intro x hx
      rcases List.mem_cons.1 hx with rfl | hx
      · exact hsy _ h1
      · exact ih _ _ _ _ h2 (within_next hW bs q own h1) h3 x hx
theorem tellD_lt {ds : List Nat} {R : Option (List Int × Nat × Nat)} {M : List Nat} (hR : RdRel ds 6 11 R) (h : tellD ds R = some M) : ∀ j : Nat, M[j]?.getD 0 < 256 := by
  cases R with
  | none => cases h
  | some r =>
    obtain ⟨xs, l, u⟩ := r
    obtain ⟨ok, hI16, hxl, hxne, hub, hl6, hl5, hu1⟩ := hR.ok (by omega) (by omega)
    unfold tellD at h
    dsimp only at h
    split at h
    · cases h
    · unfold toldD at h
      split at h
      · cases h
      · exact lt256 (turnsF_lt (within_ok ok (by omega)) (fun i hi => symF_256 ok (by omega) i hi) _ _ _ _ _ (strm_lt _ _ _) (strm_lt _ _ _) h)

section
attribute [local go_sem] sliceSem_eq
end

end Go.Proofs.YtcoahkmiebeeeaaGreatDoor

namespace Go.Proofs.YtcoahkmiebeeeaaGreatDoor
open Go.RowKit Go.Shelf
set_option linter.unusedVariables false

theorem fours_and (y i : Nat) (hy : y < 256) : bits .and .u8 (IntKind.u8.wrap ((y : Int) / 2 ^ (4 * (1 - i % 2)))) 15 = ((if i % 2 = 1 then y % 16 else y / 16 : Nat) : Int) := by
  rcases (show i % 2 = 0 ∨ i % 2 = 1 by omega) with e | e
  · rw [e, if_neg (by omega)]
    revert y
    decide +kernel
  · rw [e, if_pos rfl]
    revert y
    decide +kernel


end Go.Proofs.YtcoahkmiebeeeaaGreatDoor
