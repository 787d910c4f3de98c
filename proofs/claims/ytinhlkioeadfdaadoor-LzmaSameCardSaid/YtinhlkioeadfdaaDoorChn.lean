/-
  Chances: how they are brought in, what a bit gets of the range, how they learn; of the program and of the document.
-/
import Derived.Test.YtinhlkioeadfdaaDoorByt
import Derived.Test.YtinhlkioeadfdaaDoorMth
namespace Go.Proofs.YtinhlkioeadfdaaDoor
open Go.RowKit Go.Shelf
set_option linter.unusedVariables false

section
attribute [local go_sem] maxSem_eq minSem_eq
set_option maxHeartbeats 400000 in
theorem chanceOf_any (p : Nat) (hp : p < 65536) (w : World) : Calls Tryd.prog 46 #[.int .u16 (p : Int)] w fun e w' => e = .returned (.int .u16 ((fairN p : Nat) : Int)) ∧ w' = w := by
  obtain ⟨x, hx⟩ : ∃ x : Int, x = max (p : Int) 31 := ⟨_, rfl⟩
  have h1 := maxSem_run .u16 #[40, 40] 40 (p : Int) 31 x hx
  have h2 := minSem_run .u16 #[40, 40] 40 x 2017 ((fairN p : Nat) : Int) (by unfold fairN; omega)
  clear hx
  go_enter Tryd.func46, Tryd.ntmps46
  go_wp2
  go_ret
  exact ⟨rfl, rfl⟩
set_option maxHeartbeats 400000 in
theorem directBits_any (n : Int) (w : World) : Calls Tryd.prog 78 #[.int .i64 n] w fun e w' => e = .returned (.int .i64 ((bitsN n : Nat) : Int)) ∧ w' = w := by
  obtain ⟨x, hx⟩ : ∃ x : Int, x = max n 0 := ⟨_, rfl⟩
  have h1 := maxSem_run .i64 #[3, 3] 3 n 0 x hx
  have h2 := minSem_run .i64 #[3, 3] 3 x 32 ((bitsN n : Nat) : Int) (by rw [bitsN_int, hx])
  clear hx
  go_enter Tryd.func78, Tryd.ntmps78
  go_wp2
  go_ret
  exact ⟨rfl, rfl⟩
end
theorem bound_i {s c : Nat} : ((s / 2048 : Nat) : Int) * (c : Int) = ((boundN s c : Nat) : Int) := by unfold boundN; simp
set_option maxHeartbeats 400000 in
theorem bound_any (c s : Nat) (hc : c ≤ 2017) (hs : s < 4294967296) (w : World) : Calls Tryd.prog 47 #[.int .u16 (c : Int), .int .u32 (s : Int)] w fun e w' => e = .returned (.int .u32 ((boundN s c : Nat) : Int)) ∧ w' = w := by
  have hb := boundN_32 hc hs
  obtain ⟨q, hq⟩ : ∃ q, q = s / 2048 := ⟨_, rfl⟩
  have h1 : (s : Int) / 2048 = (q : Int) := by omega
  have h2 : (q : Int) * (c : Int) = ((boundN s c : Nat) : Int) := by rw [hq]; exact bound_i
  have h3 : (((boundN s c : Nat) : Int)) % 4294967296 = ((boundN s c : Nat) : Int) := by omega
  generalize boundN s c = B at *
  have hcI : (c : Int) ≤ 2017 := by omega
  clear hq
  go_enter Tryd.func47, Tryd.ntmps47
  go_wp2
  go_ret
  exact ⟨rfl, rfl⟩
theorem learn_zero {c : Nat} (h : c ≤ 2017) : (c : Int) + (2048 - (c : Int)) / 32 = ((learnN c false : Nat) : Int) := by
  unfold learnN
  simp only [if_false, Bool.false_eq_true]
  omega
theorem learn_one {c : Nat} (h : c ≤ 2017) : (c : Int) - (c : Int) / 32 = ((learnN c true : Nat) : Int) := by
  unfold learnN
  simp only [if_true]
  omega
set_option maxHeartbeats 400000 in
theorem learned_any (c : Nat) (b : Int) (one : Bool) (h1 : 31 ≤ c) (h2 : c ≤ 2017) (hb : one = (b != 0)) (w : World) : Calls Tryd.prog 48 #[.int .u16 (c : Int), .int .i64 b] w fun e w' => e = .returned (.int .u16 ((learnN c one : Nat) : Int)) ∧ w' = w := by
  have hcI : (c : Int) ≤ 2017 := by omega
  have hbd := learnN_bd one h1 h2
  cases one with
  | true =>
    have hne : (b == 0) = false := by simpa using hb.symm
    have h := learn_one h2
    have hc5 : (c : Int) / 32 = ((c / 32 : Nat) : Int) := by omega
    have hc6 : c / 32 ≤ 2017 := by omega
    generalize learnN c true = q at *
    generalize c / 32 = z at *
    have HH := (show Hid _ from h)
    clear h
    have hqI : (q : Int) < 65536 := by omega
    clear hb
    go_enter Tryd.func48, Tryd.ntmps48
    go_wp2
    go_ret
    refine ⟨congrArg (fun x => Ending.returned (Value.int .u16 x)) ?_, rfl⟩
    have := HH.out
    clear HH
    omega
  | false =>
    obtain rfl : b = 0 := by simpa using hb.symm
    have h := learn_zero h2
    obtain ⟨z, hz⟩ : ∃ z : Nat, z = (2048 - c) / 32 := ⟨_, rfl⟩
    obtain ⟨y, hy⟩ : ∃ y : Nat, y = 2048 - c := ⟨_, rfl⟩
    have hc4 : (2048 : Int) - (c : Int) = (y : Int) := by omega
    have hc5 : (y : Int) / 32 = (z : Int) := by omega
    have hc6 : z ≤ 2017 := by omega
    have hc7 : y ≤ 2048 := by omega
    rw [hc4, hc5] at h
    generalize learnN c false = q at *
    have HH := (show Hid _ from h)
    clear h hy hz
    have hqI : (q : Int) < 65536 := by omega
    clear hb
    go_enter Tryd.func48, Tryd.ntmps48
    go_wp2
    go_ret
    refine ⟨congrArg (fun x => Ending.returned (Value.int .u16 x)) ?_, rfl⟩
    have := HH.out
    clear HH
    omega

end Go.Proofs.YtinhlkioeadfdaaDoor
