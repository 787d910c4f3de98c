/-
  The statements' own helpers: same, sum, and what the document says of four lengths.
-/
import Derived.Test.YtapcohpagipkpaaCodes
import Derived.Test.YtapcohpagipkpaaLimit
namespace Go.Proofs.Ytapcohpagipkpaa
open Go.RowKit Go.Shelf

theorem ext_getD {xs ys : List Nat} (hl : xs.length = ys.length) (h : ∀ i, i < xs.length → xs[i]?.getD 0 = ys[i]?.getD 0) : xs = ys := by
  apply List.ext_getElem hl
  intro i h1 h2
  have := h i h1
  rwa [List.getElem?_eq_getElem h1, List.getElem?_eq_getElem h2] at this

set_option maxRecDepth 100000 in
set_option maxHeartbeats 1000000 in
/-- same of two rows of words. -/
theorem same_any (a b : Option Addr) (ca cb ga gb oa ob : Nat) (xs ys : List Nat) (w : World) (hA : Row w .u16 a ca ga oa xs) (hB : Row w .u16 b cb gb ob ys) (hl : xs.length ≤ 4611686018427387904) :
    Calls Try.prog 10 #[.slice a xs.length ca, .slice b ys.length cb] w fun e w' => e = .returned (.bool (decide (xs = ys))) ∧ ∃ q, w' = w.drewN q := by
  by_cases hlen : xs.length = ys.length
  · have hle : ((xs.length : Int) != (ys.length : Int)) = false := by simp [hlen]
    have HR := (show Hid (Row w .u16 a ca ga oa xs ∧ Row w .u16 b cb gb ob ys ∧ xs.length = ys.length) from ⟨hA, hB, hlen⟩)
    obtain ⟨n, hn⟩ : ∃ n, n = xs.length := ⟨_, rfl⟩
    rw [← hlen, ← hn] at hle ⊢
    rw [← hn] at hl
    have HN := (show Hid (n = xs.length) from hn)
    clear hA hB hlen hn
    go_enter Try.func10, Try.ntmps10
    go_wp2
    go_loopw [13] (fun vi wr => ∃ i : Nat, vi = .int .i64 (i : Int) ∧ i ≤ n ∧ (∃ q, wr = w.drewN q) ∧ Hid (∀ j, j < i → xs[j]?.getD 0 = ys[j]?.getD 0)) (fun vi _ => n - (intOf vi).toNat)
    case atStart => exact ⟨0, rfl, Nat.zero_le _, ⟨0, rfl⟩, fun j hj => by omega⟩
    case round =>
      obtain ⟨i, rfl, hi, ⟨q, rfl⟩, HE⟩ := hrel
      by_cases hlt : i < n
      · obtain ⟨rA, rB, rl⟩ := HR.out
        have hn := HN.out
        obtain rfl : a = some ⟨ga, oa, none⟩ := by
          rcases rA.at_ with h | h
          · exact h
          · rw [h] at hn; simp at hn; omega
        obtain rfl : b = some ⟨gb, ob, none⟩ := by
          rcases rB.at_ with h | h
          · exact h
          · rw [h] at rl; simp at rl; rw [rl] at hn; simp at hn; omega
        have c1 : (w.drewN q).cell? ⟨ga, oa + i, none⟩ = _ := rA.cells i (by omega)
        have c2 : (w.drewN q).cell? ⟨gb, ob + i, none⟩ = _ := rB.cells i (by omega)
        obtain ⟨x1, h1⟩ : ∃ x, x = xs[i]?.getD 0 := ⟨_, rfl⟩
        obtain ⟨x2, h2⟩ : ∃ x, x = ys[i]?.getD 0 := ⟨_, rfl⟩
        rw [← h1] at c1
        rw [← h2] at c2
        have HX := (show Hid (x1 = xs[i]?.getD 0 ∧ x2 = ys[i]?.getD 0) from ⟨h1, h2⟩)
        generalize hw : w.drewN q = wq at c1 c2 ⊢
        have HW := (show Hid (w.drewN q = wq) from hw)
        clear hw h1 h2 rA rB rl hn
        by_cases he : x1 = x2
        · subst he
          have hne : ((x1 : Int) != (x1 : Int)) = false := by simp
          go_wp2_with fail
          go_quiet (fail)
          go_wp2
          go_roundw
          case rel =>
            refine ⟨i + 1, by go_num, by omega, ⟨q + nq, by rw [← HW.out, World.drewN_drewN]⟩, fun j hj => ?_⟩
            by_cases e : j = i
            · rw [e, ← HX.out.1, ← HX.out.2]
            · exact HE.out j (by omega)
          case measure => simp [intOf]; omega
        · have hne : ((x1 : Int) != (x2 : Int)) = true := by simpa using (show (x1 : Int) ≠ (x2 : Int) by omega)
          go_wp2_with fail
          go_quiet (fail)
          go_wp2
          go_ret
          refine ⟨?_, q + nq, by rw [← HW.out, World.drewN_drewN]⟩
          have : ¬ xs = ys := by rintro rfl; exact he (HX.out.1.trans HX.out.2.symm)
          rw [decide_eq_false this]
          rfl
      · obtain rfl : i = n := by omega
        go_wp2
        go_ret
        refine ⟨?_, q, rfl⟩
        have : xs = ys := ext_getD HR.out.2.2 (fun j hj => HE.out j (by rw [HN.out]; exact hj))
        rw [decide_eq_true this]
        rfl
  · have hle : ((xs.length : Int) != (ys.length : Int)) = true := by simpa using (show (xs.length : Int) ≠ (ys.length : Int) by omega)
    have hne : ¬ xs = ys := fun h => hlen (by rw [h])
    rw [decide_eq_false hne]
    clear hA hB hlen hne
    go_enter Try.func10, Try.ntmps10
    go_wp2
    go_ret
    exact ⟨rfl, 0, rfl⟩

/-- Counts times lengths, summed up. -/
def sumTo (xs ls : List Nat) : Nat → Nat
  | 0 => 0
  | i + 1 => sumTo xs ls i + numOf xs i * numOf ls i
theorem sumTo_le (xs ls : List Nat) (hx : ∀ i, numOf xs i < 4294967296) (hy : ∀ i, numOf ls i < 256) (i : Nat) : sumTo xs ls i ≤ 1099511627776 * i := by
  induction i with
  | zero => simp [sumTo]
  | succ i ih =>
    have h1 : numOf xs i * numOf ls i ≤ 4294967296 * 256 := Nat.mul_le_mul (Nat.le_of_lt (hx i)) (Nat.le_of_lt (hy i))
    simp only [sumTo]
    omega

set_option maxRecDepth 100000 in
set_option maxHeartbeats 1000000 in
theorem sum_any (a b : Option Addr) (ca cb ga gb oa ob : Nat) (xs ls : List Nat) (w : World) (hA : Row w .u32 a ca ga oa xs) (hB : Row w .u8 b cb gb ob ls) (hl : xs.length ≤ 1024) (hlen : ls.length = xs.length) (hx : ∀ i, numOf xs i < 4294967296) (hy : ∀ i, numOf ls i < 256) :
    Calls Try.prog 24 #[.slice a xs.length ca, .slice b xs.length cb] w fun e w' => e = .returned (.int .u64 ((sumTo xs ls xs.length : Nat) : Int)) ∧ ∃ q, w' = w.drewN q := by
  have hle : ((xs.length : Int) != (xs.length : Int)) = false := by simp
  have HR := (show Hid (Row w .u32 a ca ga oa xs ∧ Row w .u8 b cb gb ob ls ∧ ls.length = xs.length ∧ (∀ i, numOf xs i < 4294967296) ∧ ∀ i, numOf ls i < 256) from ⟨hA, hB, hlen, hx, hy⟩)
  clear hA hB hlen hx hy
  go_enter Try.func24, Try.ntmps24
  go_wp2
  go_loopw [5, 15] (fun vs vi wr => ∃ i : Nat, vi = .int .i64 (i : Int) ∧ i ≤ xs.length ∧ vs = .int .u64 ((sumTo xs ls i : Nat) : Int) ∧ ∃ q, wr = w.drewN q) (fun _ vi _ => xs.length - (intOf vi).toNat)
  case atStart => exact ⟨0, rfl, Nat.zero_le _, rfl, 0, rfl⟩
  case round =>
    obtain ⟨i, rfl, hi, rfl, q, rfl⟩ := hrel
    by_cases hlt : i < xs.length
    · obtain ⟨rA, rB, rl, rx, ry⟩ := HR.out
      obtain rfl : a = some ⟨ga, oa, none⟩ := by
        rcases rA.at_ with h | h
        · exact h
        · rw [h] at hlt; simp at hlt
      obtain rfl : b = some ⟨gb, ob, none⟩ := by
        rcases rB.at_ with h | h
        · exact h
        · rw [h] at rl; rw [← rl] at hlt; simp at hlt
      have c1 : (w.drewN q).cell? ⟨ga, oa + i, none⟩ = some (.int .u32 ((numOf xs i : Nat) : Int)) := rA.cells i hlt
      have c2 : (w.drewN q).cell? ⟨gb, ob + i, none⟩ = some (.int .u8 ((numOf ls i : Nat) : Int)) := rB.cells i (by omega)
      have hx := rx i
      have hy := ry i
      have hs := sumTo_le xs ls rx ry i
      obtain ⟨z, hz⟩ : ∃ z, z = numOf xs i * numOf ls i := ⟨_, rfl⟩
      have hzI : ((numOf xs i : Nat) : Int) * ((numOf ls i : Nat) : Int) = (z : Int) := by rw [hz]; simp
      have hzb : z ≤ 1099511627776 := by
        have h1 : numOf xs i * numOf ls i ≤ 4294967296 * 256 := Nat.mul_le_mul (Nat.le_of_lt hx) (Nat.le_of_lt hy)
        omega
      have HX := (show Hid (sumTo xs ls (i + 1) = sumTo xs ls i + z) from by show _ = _; rw [sumTo, hz])
      generalize sumTo xs ls i = s0 at hs HX ⊢
      generalize numOf xs i = x1 at c1 hx hzI
      generalize numOf ls i = x2 at c2 hy hzI
      generalize hw : w.drewN q = wq at c1 c2 ⊢
      have HW := (show Hid (w.drewN q = wq) from hw)
      clear hw hz rA rB rl rx ry
      go_wp2_with fail
      go_quiet (fail)
      go_wp2
      go_roundw
      case rel => exact ⟨i + 1, by go_num, by omega, by rw [HX.out]; congr 1, q + nq, by rw [← HW.out, World.drewN_drewN]⟩
      case measure => simp [intOf]; omega
    · obtain rfl : i = xs.length := by omega
      go_wp2
      go_ret
      exact ⟨rfl, q, rfl⟩

end Go.Proofs.Ytapcohpagipkpaa
