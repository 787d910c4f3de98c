/-
  Small facts on encoders.
-/
import Derived.Test.YtinhlkioeadfdaaGrow
import Derived.Test.YtinhlkioeadfdaaBck
namespace Go.Proofs.Ytinhlkioeadfdaa
open Go.RowKit Go.Shelf
set_option linter.unusedVariables false

/-- What an encoder's call may turn. -/
def EncS (b : Nat) (v : Value) (k : Nat) : Prop := k = b ∨ v.ownBlock = some k
theorem keep_near {w w1 w2 : World} {b : Nat} {v v1 : Value} (k1 : Keep (EncS b v) w w1) (hn : Near w v v1) (k2 : Keep (EncS b v1) w1 w2) : Keep (EncS b v) w w2 :=
  k1.trans k2 (fun i hi h => by
    rcases h with e | e
    · exact .inl e
    · rcases hn with q | ⟨k, q, hk⟩
      · exact .inr (q ▸ e)
      · rw [q] at e
        have : k = i := by simpa using e
        omega)
/-- A store into the encoder's own block. -/
theorem own_set {w : World} {b n : Nat} {v : Value} {xs : List Value} (h : w.ownsRow 0 5 1 v n xs) (hne : v.ownBlock ≠ some b) (i : Nat) (u : Value) : (w.setCell ⟨b, i, none⟩ u).ownsRow 0 5 1 v n xs :=
  owns_kept h ((Keep.refl (fun k => k = b) w).setCell (p := ⟨b, i, none⟩) (fun _ => rfl) _) (fun g hg e => hne (by rw [hg, e]))
theorem flush_at (f n c m : Nat) (h : m < n) : (flushL f n c)[m]? = some (((if m = 0 then f else 255) + c) % 256) := by
  unfold flushL
  cases n with
  | zero => omega
  | succ n =>
    cases m with
    | zero => simp
    | succ m => simp [List.getElem?_replicate]; omega
theorem and_24 (x : Nat) (h : x < 8589934592) : bits .and .u64 (x : Int) 16777215 = ((x % 16777216 : Nat) : Int) := by
  rw [show (16777215 : Int) = ((16777215 : Nat) : Int) from rfl, u64_and_nat _ _ (by omega) (by decide), show (16777215 : Nat) = 2 ^ 24 - 1 from rfl, Nat.and_two_pow_sub_one_eq_mod]
theorem normE_small {e : Enc} (h : e.span < 16777216) : normE e = shiftE { e with span := e.span * 256 } := if_pos h
theorem normE_great {e : Enc} (h : ¬ e.span < 16777216) : normE e = e := if_neg h
theorem bitE_one {e : Enc} {c : Nat} : bitE e c true = normE { e with low := e.low + boundN e.span c, span := e.span - boundN e.span c } := rfl
theorem bitE_zero {e : Enc} {c : Nat} : bitE e c false = normE { e with span := boundN e.span c } := rfl
def shiftsE : Nat → Enc → Enc
  | 0, e => e
  | k + 1, e => shiftE (shiftsE k e)
theorem shiftsE_many (k : Nat) (e : Enc) : manyE (shiftsE k e) = manyE e + k := by
  induction k with
  | zero => rfl
  | succ k ih =>
    show manyE (shiftE (shiftsE k e)) = _
    rw [shiftE_many, ih]
    omega
theorem shiftsE_five (e : Enc) : shiftsE 5 e = closeE e := rfl

end Go.Proofs.Ytinhlkioeadfdaa
