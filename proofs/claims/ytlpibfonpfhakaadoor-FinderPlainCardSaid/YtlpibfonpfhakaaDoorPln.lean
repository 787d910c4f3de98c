/-
  Matches and steps, as plain numbers.
-/
import Derived.Test.YtlpibfonpfhakaaDoorRdA
import Derived.Test.YtlpibfonpfhakaaDoorRdC
namespace Go.Proofs.YtlpibfonpfhakaaDoor

/-- s bytes at a stand b bytes ahead, and may be told so. -/
structure OkM (c : Cf) (a s b : Nat) : Prop where
  lo : c.least ≤ s
  hi : s ≤ c.most
  fin : a + s ≤ c.bs.length
  b1 : 1 ≤ b
  bw : b ≤ c.window
  ba : b ≤ a
  same : ∀ i, i < s → byteN c.bs (a + i) = byteN c.bs (a - b + i)
theorem OkM.lim {c : Cf} {a s b : Nat} (h : OkM c a s b) : s ≤ limN c a := by
  have := h.hi; have := h.fin
  unfold limN; omega
/-- A match, or none. -/
def IsM (c : Cf) (a s b : Nat) : Prop := (a = 0 ∧ s = 0 ∧ b = 0) ∨ OkM c a s b
/-- The bytes from a place on are those that stand one ahead. -/
structure Full (c : Cf) (p : Nat) : Prop where
  p1 : 1 ≤ p
  fits : p + c.least ≤ c.bs.length
  same : ∀ i, i < limN c p → byteN c.bs (p - 1 + i) = byteN c.bs (p + i)
theorem limN_mono (c : Cf) {p q : Nat} (h : p ≤ q) : limN c q ≤ limN c p := by unfold limN; omega
theorem limN_le (c : Cf) (p : Nat) (hp : p ≤ c.bs.length) : p + limN c p ≤ c.bs.length := by unfold limN; omega
end Go.Proofs.YtlpibfonpfhakaaDoor
