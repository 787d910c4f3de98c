/-
  Chunk, whole: what it answers is a function of the state's and the window's content and of the arguments.
-/
import Derived.Test.YtinhlkioeadfdaaDoorWak
namespace Go.Proofs.YtinhlkioeadfdaaDoor
open Go.RowKit Go.Shelf
set_option linter.unusedVariables false

structure Rz where
  err : Int
  told : List Nat
  s : Se
  c : Nat → Nat
  win : List Nat
def beginsB (b : List Nat) : Bool := decide (5 ≤ b.length) && decide (b[0]?.getD 0 = 0)
theorem beginsB_iff (b : List Nat) : beginsB b = true ↔ begins b := by
  unfold beginsB begins
  rw [Bool.and_eq_true, decide_eq_true_iff, decide_eq_true_iff]
def rzOf (s : Se) (c : Nat → Nat) (win : List Nat) : Option Out → Rz
  | none => ⟨11, [], s, c, win⟩
  | some o => ⟨0, o.told, o.s, o.c, o.win⟩
/-- What Chunk answers. -/
def rz (size : Nat) (s : Se) (c : Nat → Nat) (win : List Nat) (total : Int) (b : List Nat) (n : Int) : Rz :=
  if n < 1 ∨ total < 0 then ⟨2, [], s, c, win⟩ else if beginsB b then rzOf s c win (chunkM (ckOf total size n.toNat) s c win b) else ⟨11, [], s, c, win⟩
theorem rz_err (size : Nat) (s : Se) (c : Nat → Nat) (win : List Nat) (total : Int) (b : List Nat) (n : Int) : (rz size s c win total b n).err = 0 ∨ (rz size s c win total b n).err = 2 ∨ (rz size s c win total b n).err = 11 := by
  unfold rz
  split
  · exact .inr (.inl rfl)
  · split
    · cases chunkM (ckOf total size n.toNat) s c win b with
      | none => exact .inr (.inr rfl)
      | some o => exact .inl rfl
    · exact .inr (.inr rfl)
theorem none_bytes (w : World) : Bytes w none 0 0 0 [] := ⟨.inr rfl, fun _ => rfl, fun j hj => by simp at hj, fun j => by simp, Nat.le_refl _, by simp⟩

/-- How Chunk answers. -/
def WhP (W w' : World) (sb wb lb size : Nat) (rv : Value) (r : Rz) (e : Ending) : Prop :=
  (∃ a' cap' g' off' rv', e = .returned (.tuple #[.slice a' r.told.length cap', .int .i64 r.err]) ∧ Bytes w' a' cap' g' off' r.told ∧ (r.err ≠ 11 → IsS w' sb r.s r.c ∧ IsW w' wb lb size rv' r.win ∧ Near W rv rv')) ∧ Keep (WS sb wb rv) W w'

theorem whole (size sb wb lb : Nat) (rv : Value) (s : Se) (c : Nat → Nat) (win : List Nat) (total : Int) (ht : total < 9223372036854775808) (W : World) (a : Option Addr) (cap gb off : Nat) (b : List Nat) (n : Int) (hS : IsS W sb s c) (hW : IsW W wb lb size rv win) (hB : Bytes W a cap gb off b) (hl : b.length ≤ 140737488355327) (hn : n ≤ 2097152) :
    Calls Tryd.prog 7 #[.pointer (some ⟨sb, 0, none⟩), .pointer (some ⟨wb, 0, none⟩), .int .i64 total, .slice a b.length cap, .int .i64 n] W fun e w' => WhP W w' sb wb lb size rv (rz size s c win total b n) e := by
  by_cases h0 : n < 1 ∨ total < 0
  · have er : rz size s c win total b n = ⟨2, [], s, c, win⟩ := by unfold rz; rw [if_pos h0]
    refine (chunk_arg sb wb total n (.slice a b.length cap) ⟨_, _, _, rfl⟩ (by omega) W).mono ?_
    rintro e w' ⟨rfl, rfl⟩
    rw [er]
    exact ⟨⟨none, 0, 0, 0, rv, rfl, none_bytes _, fun _ => ⟨hS, hW, Near.refl _ _⟩⟩, Keep.refl _ _⟩
  · have h1 : ¬ n < 1 := fun h => h0 (.inl h)
    have h2 : ¬ total < 0 := fun h => h0 (.inr h)
    obtain ⟨m, rfl⟩ : ∃ m : Nat, n = (m : Int) := ⟨n.toNat, by omega⟩
    by_cases h3 : begins b
    · have er : rz size s c win total b (m : Int) = rzOf s c win (chunkM (ckOf total size m) s c win b) := by unfold rz; rw [if_neg h0, if_pos ((beginsB_iff b).2 h3), Int.toNat_natCast]
      refine (chunk_good sb wb lb size rv s c win total a cap gb off b m W hS hW hB hl (by omega) ht (by omega) (by omega) h3).mono ?_
      intro e w' hP
      rw [er]
      generalize chunkM (ckOf total size m) s c win b = R at *
      cases R with
      | none =>
        obtain ⟨rfl, q⟩ := hP
        exact ⟨⟨none, 0, 0, 0, rv, rfl, none_bytes _, fun h => absurd rfl h⟩, q⟩
      | some o =>
        obtain ⟨a', cap', g', off', rv', rfl, q1, -, q2, q3, q4, q⟩ := hP
        exact ⟨⟨a', cap', g', off', rv', rfl, q1, fun _ => ⟨q2, q3, q4⟩⟩, q⟩
    · have er : rz size s c win total b (m : Int) = ⟨11, [], s, c, win⟩ := by
        unfold rz
        rw [if_neg h0, if_neg (fun h => h3 ((beginsB_iff b).1 h))]
      refine (chunk_none sb wb lb size rv s c win total a cap gb off b m W hB (by omega) (by omega) (by omega) h3).mono ?_
      rintro e w' ⟨rfl, rfl⟩
      rw [er]
      exact ⟨⟨none, 0, 0, 0, rv, rfl, none_bytes _, fun h => absurd rfl h⟩, Keep.refl _ _⟩

end Go.Proofs.YtinhlkioeadfdaaDoor
