/-
  Great arrays as they are made, and rows of cells.
-/
import Derived.Test.YtoffnhbopjaocaaCel
namespace Go.Proofs.Ytoffnhbopjaocaa
open Go.RowKit Go.Shelf

def zeros71 : Array Value := (List.replicate 4096 [Value.int .u8 0, Value.int .u8 0, Value.int .u16 0]).flatten.toArray
def zeros103 : Array Value := (List.replicate 4096 (Value.int .u8 0)).toArray
def zeros107 : Array Value := (List.replicate 256 (Value.int .i64 0)).toArray
def zeros112 : Array Value := (List.replicate 256 (Value.int .i16 0)).toArray
theorem zero107 : Try.zeroCells107 = zeros107 := by kernel_rfl
theorem zero112 : Try.zeroCells112 = zeros112 := by kernel_rfl

def isZ (k : IntKind) : Value → Bool
  | .int k' n => decide (k' = k) && n == 0
  | _ => false
theorem isZ_eq {k : IntKind} {v : Value} (h : isZ k v = true) : v = .int k 0 := by
  cases v with
  | int k' n =>
    simp only [isZ, Bool.and_eq_true, decide_eq_true_eq, beq_iff_eq] at h
    rw [h.1, h.2]
  | _ => simp [isZ] at h
def ok1 : Nat → List Value → Bool
  | 0, [] => true
  | n + 1, a :: r => isZ .u8 a && ok1 n r
  | _, _ => false
def ok3 : Nat → List Value → Bool
  | 0, [] => true
  | n + 1, a :: b :: c :: r => isZ .u8 a && (isZ .u8 b && (isZ .u16 c && ok3 n r))
  | _, _ => false
theorem ok1_eq : ∀ (n : Nat) (l : List Value), ok1 n l = true → l = List.replicate n (.int .u8 0)
  | 0, [], _ => rfl
  | 0, _ :: _, h => by simp [ok1] at h
  | n + 1, [], h => by simp [ok1] at h
  | n + 1, a :: r, h => by
    simp only [ok1, Bool.and_eq_true] at h
    rw [isZ_eq h.1, ok1_eq n r h.2, List.replicate_succ]
theorem ok3_eq : ∀ (n : Nat) (l : List Value), ok3 n l = true → l = (List.replicate n [Value.int .u8 0, Value.int .u8 0, Value.int .u16 0]).flatten
  | 0, [], _ => rfl
  | 0, _ :: _, h => by simp [ok3] at h
  | n + 1, [], h => by simp [ok3] at h
  | n + 1, [_], h => by simp [ok3] at h
  | n + 1, [_, _], h => by simp [ok3] at h
  | n + 1, a :: b :: c :: r, h => by
    simp only [ok3, Bool.and_eq_true] at h
    rw [isZ_eq h.1, isZ_eq h.2.1, isZ_eq h.2.2.1, ok3_eq n r h.2.2.2, List.replicate_succ, List.flatten_cons]
    rfl
theorem chk103 : ok1 4096 Try.zeroCells103.toList = true := by kernel_rfl
theorem chk71 : ok3 4096 Try.zeroCells71.toList = true := by kernel_rfl
theorem zero103 : Try.zeroCells103 = zeros103 := by
  apply Array.ext'
  unfold zeros103
  rw [List.toList_toArray]
  exact ok1_eq _ _ chk103
theorem zero71 : Try.zeroCells71 = zeros71 := by
  apply Array.ext'
  unfold zeros71
  rw [List.toList_toArray]
  exact ok3_eq _ _ chk71

end Go.Proofs.Ytoffnhbopjaocaa
