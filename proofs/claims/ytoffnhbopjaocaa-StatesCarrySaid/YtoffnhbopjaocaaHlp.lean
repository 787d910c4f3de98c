/-
  The statements' own helpers: same, cells, at rows that are the same.
-/
import Derived.Test.YtoffnhbopjaocaaRdE
import Derived.Test.YtoffnhbopjaocaaTbl
namespace Go.Proofs.Ytoffnhbopjaocaa
open Go.RowKit Go.Shelf

set_option maxRecDepth 100000 in
set_option maxHeartbeats 1000000 in
/-- same of two rows that read the same. -/
theorem same_true (a b : Option Addr) (ca cb ga gb oa ob : Nat) (xs : List Int) (w : World) (hA : RowI w .i16 a ca ga oa xs) (hB : RowI w .i16 b cb gb ob xs) (hl : xs.length ≤ 4611686018427387904) :
    Calls Try.prog 14 #[.slice a xs.length ca, .slice b xs.length cb] w fun e w' => e = .returned (.bool true) ∧ ∃ q, w' = w.drewN q := by
  have hle : ((xs.length : Int) != (xs.length : Int)) = false := by simp
  have HR := (show Hid (RowI w .i16 a ca ga oa xs ∧ RowI w .i16 b cb gb ob xs) from ⟨hA, hB⟩)
  obtain ⟨n, hn⟩ : ∃ n, n = xs.length := ⟨_, rfl⟩
  rw [← hn] at hle hl ⊢
  have HN := (show Hid (n = xs.length) from hn)
  clear hA hB hn
  go_enter Try.func14, Try.ntmps14
  go_wp2
  go_loopw [13] (fun vi wr => ∃ i : Nat, vi = .int .i64 (i : Int) ∧ i ≤ n ∧ Hid (∃ q, wr = w.drewN q)) (fun vi _ => n - (intOf vi).toNat)
  case atStart => exact ⟨0, rfl, Nat.zero_le _, ⟨0, rfl⟩⟩
  case round =>
    obtain ⟨i, rfl, hi, HQ⟩ := hrel
    by_cases hlt : i < n
    · obtain ⟨q, rfl⟩ := HQ.out
      obtain ⟨rA, rB⟩ := HR.out
      have hn := HN.out
      obtain rfl := rA.here (i := i) (by omega)
      obtain rfl := rB.here (i := i) (by omega)
      have c1 : (w.drewN q).cell? ⟨ga, oa + i, none⟩ = _ := rA.cells i (by omega)
      have c2 : (w.drewN q).cell? ⟨gb, ob + i, none⟩ = _ := rB.cells i (by omega)
      generalize xs[i]?.getD 0 = x at c1 c2
      generalize hw : w.drewN q = wq at c1 c2 ⊢
      have HW := (show Hid (w.drewN q = wq) from hw)
      have hne : (x != x) = false := by simp
      have hltI : (i : Int) < (n : Int) := by omega
      clear hw rA rB hn HQ
      go_wp2_with fail
      go_quiet (fail)
      go_wp2
      go_roundw
      case rel => exact ⟨i + 1, by go_num, by omega, q + nq, by rw [← HW.out, World.drewN_drewN]⟩
      case measure => simp [intOf]; omega
    · obtain rfl : i = n := by omega
      have hltI : ¬ (i : Int) < (i : Int) := by omega
      go_wp2
      go_ret
      exact ⟨rfl, HQ.out⟩

set_option maxRecDepth 100000 in
set_option maxHeartbeats 1000000 in
/-- cells of two tables that read the same. -/
theorem cells_true (ga gb n ca cb : Nat) (sy bi ba : Nat → Nat) (w : World) (hA : RowT w ga n sy bi ba) (hB : RowT w gb n sy bi ba) (hl : n ≤ 4096) :
    Calls Try.prog 11 #[.slice (some ⟨ga, 0, none⟩) n ca, .slice (some ⟨gb, 0, none⟩) n cb] w fun e w' => e = .returned (.bool true) ∧ ∃ q, w' = w.drewN q := by
  have hle : ((n : Int) != (n : Int)) = false := by simp
  have HR := (show Hid (RowT w ga n sy bi ba ∧ RowT w gb n sy bi ba) from ⟨hA, hB⟩)
  clear hA hB
  go_enter Try.func11, Try.ntmps11
  go_wp2
  go_loopw [13] (fun vi wr => ∃ i : Nat, vi = .int .i64 (i : Int) ∧ i ≤ n ∧ Hid (∃ q, wr = w.drewN q)) (fun vi _ => n - (intOf vi).toNat)
  case atStart => exact ⟨0, rfl, Nat.zero_le _, ⟨0, rfl⟩⟩
  case round =>
    obtain ⟨i, rfl, hi, HQ⟩ := hrel
    by_cases hlt : i < n
    · obtain ⟨q, rfl⟩ := HQ.out
      obtain ⟨rA, rB⟩ := HR.out
      obtain ⟨c1, c2, c3⟩ := rA.cells i hlt
      obtain ⟨d1, d2, d3⟩ := rB.cells i hlt
      have c1 : (w.drewN q).cell? ⟨ga, i * 3, none⟩ = _ := c1
      have c2 : (w.drewN q).cell? ⟨ga, i * 3 + 1, none⟩ = _ := c2
      have c3 : (w.drewN q).cell? ⟨ga, i * 3 + 2, none⟩ = _ := c3
      have d1 : (w.drewN q).cell? ⟨gb, i * 3, none⟩ = _ := d1
      have d2 : (w.drewN q).cell? ⟨gb, i * 3 + 1, none⟩ = _ := d2
      have d3 : (w.drewN q).cell? ⟨gb, i * 3 + 2, none⟩ = _ := d3
      generalize sy i = x at c1 d1
      generalize bi i = y at c2 d2
      generalize ba i = z at c3 d3
      generalize hw : w.drewN q = wq at c1 c2 c3 d1 d2 d3 ⊢
      have HW := (show Hid (w.drewN q = wq) from hw)
      have hltI : (i : Int) < (n : Int) := by omega
      clear hw rA rB HQ
      go_wp2_with fail
      go_quiet (fail)
      go_wp2
      go_roundw
      case rel => exact ⟨i + 1, by go_num, by omega, q + nq, by rw [← HW.out, World.drewN_drewN]⟩
      case measure => simp [intOf]; omega
    · obtain rfl : i = n := by omega
      have hltI : ¬ (i : Int) < (i : Int) := by omega
      go_wp2
      go_ret
      exact ⟨rfl, HQ.out⟩

end Go.Proofs.Ytoffnhbopjaocaa
