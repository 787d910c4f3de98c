/-
  A chunk out of a new state and a new window: its error.
-/
import Derived.Test.YtinhlkioeadfdaaWak
import Derived.Test.YtinhlkioeadfdaaSur
namespace Go.Proofs.Ytinhlkioeadfdaa
open Go.RowKit Go.Shelf
set_option linter.unusedVariables false

def beginsB (b : List Nat) : Bool := decide (5 ≤ b.length) && decide (b[0]?.getD 0 = 0)
theorem beginsB_iff (b : List Nat) : beginsB b = true ↔ begins b := by
  unfold beginsB begins
  rw [Bool.and_eq_true, decide_eq_true_iff, decide_eq_true_iff]
/-- Which error a chunk has. -/
def frE (size : Nat) (b : List Nat) (n : Int) : Int := if n < 1 then 2 else if beginsB b then (if (chunkM (ckOf 0 size n.toNat) (newS 3 0 2) even [] b).isSome then 0 else 11) else 11
theorem frE_some {size : Nat} {b : List Nat} {n : Int} (h : frE size b n = 0) : ¬ n < 1 ∧ begins b ∧ ∃ o, chunkM (ckOf 0 size n.toNat) (newS 3 0 2) even [] b = some o := by
  unfold frE at h
  split at h
  · cases h
  · rename_i h1
    split at h
    · rename_i h2
      split at h
      · rename_i h3
        exact ⟨h1, (beginsB_iff b).1 h2, Option.isSome_iff_exists.1 h3⟩
      · cases h
    · cases h
theorem frE_more {size : Nat} {b : List Nat} {n : Int} (y : Nat) (h : frE size b n = 0) : frE size (b ++ [y]) n = 11 := by
  obtain ⟨h1, h2, o, h3⟩ := frE_some h
  unfold frE
  rw [if_neg h1]
  split
  · rw [chunk_more _ _ _ _ b y h2.1 o h3]
    rfl
  · rfl
theorem frE_less {size : Nat} {b : List Nat} {n : Int} (h : frE size b n = 0) : frE size (b.take (b.length - 1)) n = 11 := by
  obtain ⟨h1, h2, o, h3⟩ := frE_some h
  have hne : b ≠ [] := by rintro rfl; have := h2.1; simp at this
  have e : b = b.take (b.length - 1) ++ [b[b.length - 1]?.getD 0] := by
    have hl : b.length - 1 < b.length := by have := h2.1; omega
    conv => lhs; rw [← List.take_append_drop (b.length - 1) b]
    congr 1
    rw [List.drop_eq_getElem_cons hl, List.getElem?_eq_getElem hl, List.drop_eq_nil_of_le (by omega)]
    rfl
  unfold frE
  rw [if_neg h1]
  split
  · rename_i h4
    split
    · rename_i h5
      obtain ⟨o', h6⟩ := Option.isSome_iff_exists.1 h5
      have := chunk_more _ _ _ _ (b.take (b.length - 1)) (b[b.length - 1]?.getD 0) ((beginsB_iff _).1 h4).1 o' h6
      rw [← e, h3] at this
      cases this
    · rfl
  · rfl

theorem fresh (size sb wb lb : Nat) (w W : World) (a : Option Addr) (cap gb off : Nat) (b : List Nat) (n : Int) (hS : IsS W sb (newS 3 0 2) even) (hW : IsW W wb lb size (.slice none 0 0) []) (hB : Bytes W a cap gb off b) (hl : b.length ≤ 140737488355327) (hn : n ≤ 2097152) (hk : Keep noBlock w W) (hs : w.heap.size ≤ sb) (hw : w.heap.size ≤ wb) :
    Calls Try.prog 20 #[.pointer (some ⟨sb, 0, none⟩), .pointer (some ⟨wb, 0, none⟩), .int .i64 0, .slice a b.length cap, .int .i64 n] W fun e w' => (∃ v1 v2 v3, e = .returned (.tuple #[.slice v1 v2 v3, .int .i64 (frE size b n)])) ∧ Keep noBlock w w' := by
  by_cases h1 : n < 1
  · have e : frE size b n = 2 := by unfold frE; rw [if_pos h1]
    refine (chunk_arg sb wb 0 n (.slice a b.length cap) ⟨_, _, _, rfl⟩ (.inl h1) W).mono ?_
    rintro e w' ⟨rfl, rfl⟩
    rw [‹frE size b n = 2›]
    exact ⟨⟨_, _, _, rfl⟩, hk⟩
  · obtain ⟨m, rfl⟩ : ∃ m : Nat, n = (m : Int) := ⟨n.toNat, by omega⟩
    by_cases h2 : begins b
    · refine (chunk_good sb wb lb size (.slice none 0 0) (newS 3 0 2) even [] 0 a cap gb off b m W hS hW hB hl (by omega) (by omega) (by omega) (by omega) h2).mono ?_
      have e : frE size b (m : Int) = if (chunkM (ckOf 0 size m) (newS 3 0 2) even [] b).isSome then 0 else 11 := by unfold frE; rw [if_neg h1, if_pos ((beginsB_iff b).2 h2), Int.toNat_natCast]
      intro e2 w' hP
      rw [e]
      have hkk : ∀ W' : World, Keep (WS sb wb (.slice none 0 0)) W W' → Keep noBlock w W' := fun W' q => hk.trans q (by
        rintro i hi (e | e | e)
        · omega
        · omega
        · cases e)
      generalize chunkM (ckOf 0 size m) (newS 3 0 2) even [] b = R at *
      cases R with
      | none =>
        obtain ⟨rfl, q⟩ := hP
        exact ⟨⟨_, _, _, rfl⟩, hkk _ q⟩
      | some o =>
        obtain ⟨a', cap', g', off', rv', rfl, -, -, -, -, -, q⟩ := hP
        exact ⟨⟨_, _, _, rfl⟩, hkk _ q⟩
    · have e : frE size b (m : Int) = 11 := by
        unfold frE
        rw [if_neg h1]
        split
        · rename_i h3
          exact absurd ((beginsB_iff b).1 h3) h2
        · rfl
      refine (chunk_none sb wb lb size (.slice none 0 0) (newS 3 0 2) even [] 0 a cap gb off b m W hB (by omega) (by omega) (by omega) h2).mono ?_
      rintro e2 w' ⟨rfl, rfl⟩
      rw [e]
      exact ⟨⟨_, _, _, rfl⟩, hk⟩

end Go.Proofs.Ytinhlkioeadfdaa
