/-
  The program's XXH64: turn, round, number, and what is told of what is left.
-/
import Derived.Test.YtoohkldhfkoocaaXnum
import Derived.RangeFuncBox
namespace Go.Proofs.Ytoohkldhfkoocaa
open Go.RowKit Go.Shelf
set_option linter.unusedVariables false

/-- A number that is brought within 64 bits. -/
theorem wrapN (z : Int) (a : Nat) (h : z = (a : Int)) : IntKind.u64.wrap z = ((a % 2 ^ 64 : Nat) : Int) := by
  subst h; rw [IntKind.wrap_u64]; omega
theorem turn_form (x n : Nat) (hx : x < 2 ^ 64) : bits .or .u64 (IntKind.u64.wrap ((x : Int) * 2 ^ n)) ((x : Int) / 2 ^ (64 - n)) = ((turn x n : Nat) : Int) := by
  have h1 := wrapN ((x : Int) * 2 ^ n) (x * 2 ^ n) (by simp)
  have h2 : (x : Int) / 2 ^ (64 - n) = ((x / 2 ^ (64 - n) : Nat) : Int) := by simp
  rw [h1, h2]
  exact u64_or_nat _ _ (Nat.mod_lt _ (by decide)) (Nat.lt_of_le_of_lt (Nat.div_le_self _ _) hx)
theorem num_form (y v k : Nat) (hy : y < 2 ^ 64) : bits .or .u64 (y : Int) (IntKind.u64.wrap ((v : Int) * 2 ^ (8 * k))) = ((y ||| v * 2 ^ (8 * k) % 2 ^ 64 : Nat) : Int) := by
  rw [wrapN ((v : Int) * 2 ^ (8 * k)) (v * 2 ^ (8 * k)) (by simp)]
  exact u64_or_nat _ _ hy (Nat.mod_lt _ (by decide))

set_option maxHeartbeats 1000000 in
theorem turn_any (x n : Nat) (xi ni : Int) (ex : xi = (x : Int)) (en : ni = (n : Int)) (hx : x < 2 ^ 64) (hn : n < 64) (h0 : 0 < n) (w : World) :
    Calls Try.prog 53 #[.int .u64 xi, .int .i64 ni] w fun e w' => e = .returned (.int .u64 ((turn x n : Nat) : Int)) ∧ ∃ n, w' = w.drewN n := by
  subst ex; subst en
  go_enter Try.func53, Try.ntmps53
  go_wp2
  go_quiet (fail)
  go_wp2
  go_ret
  exact ⟨congrArg (fun z => Ending.returned (Value.int .u64 z)) (turn_form x n hx), _, rfl⟩

set_option maxHeartbeats 1000000 in
theorem round_any (a x : Nat) (ai xi : Int) (ea : ai = (a : Int)) (ex : xi = (x : Int)) (w : World) :
    Calls Try.prog 49 #[.int .u64 ai, .int .u64 xi] w fun e w' => e = .returned (.int .u64 ((round a x : Nat) : Int)) ∧ ∃ n, w' = w.drewN n := by
  subst ea; subst ex
  go_enter Try.func49, Try.ntmps49
  go_wp2_with fail
  refine (turn_any ((a + x * p2 % 2 ^ 64) % 2 ^ 64) 31 _ _ (wrapN _ _ (by rw [wrapN _ (x * p2) (by simp [p2])]; simp)) rfl (Nat.mod_lt _ (by decide)) (by decide) (by decide) _).mono ?_
  rintro e w' ⟨rfl, nq, rfl⟩
  go_wp2_with fail
  go_ret
  exact ⟨congrArg (fun z => Ending.returned (Value.int .u64 z)) (wrapN _ _ (by simp [p1])), _, rfl⟩

set_option maxHeartbeats 1000000 in
theorem number_any (n cap gb off : Nat) (bs : List Nat) (p : Nat) (hfit : n ≤ 8) (w : World)
    (hcs : ∀ j, j < n → w.cell? ⟨gb, off + j, none⟩ = some (.int .u8 ((bs[p + j]?.getD 0 : Nat) : Int))) (hbs : ∀ j : Nat, bs[j]?.getD 0 < 256) :
    Calls Try.prog 50 #[.slice (some ⟨gb, off, none⟩) n cap] w fun e w' => e = .returned (.int .u64 ((num bs p n : Nat) : Int)) ∧ ∃ n, w' = w.drewN n := by
  have HC := (show Hid _ from hcs)
  have HX := (show Hid _ from hbs)
  clear hcs hbs
  go_enter Try.func50, Try.ntmps50
  go_wp2_with fail
  go_loopw [8, 3] (fun i x wr => ∃ (k : Nat), k ≤ n ∧ i = .int .i64 k ∧ x = .int .u64 ((num bs p k : Nat) : Int) ∧ wr = w) (fun i _ _ => n - (intOf i).toNat)
  case atStart => exact ⟨0, Nat.zero_le _, rfl, rfl, rfl⟩
  case round =>
    obtain ⟨k, hk, rfl, rfl, rfl⟩ := hrel
    by_cases hlt : k < n
    · have hcv := HC.out k hlt
      have hv := HX.out (p + k)
      have hs : num bs p (k + 1) = num bs p k ||| bs[p + k]?.getD 0 * 2 ^ (8 * k) % 2 ^ 64 := by rw [num]
      have hy := num_lt bs p k
      generalize bs[p + k]?.getD 0 = v at hcv hv hs
      generalize num bs p k = y at hy hs
      have HS := (show Hid _ from hs)
      clear hs
      have hnf := num_form y v k hy
      go_wp2
      go_roundw
      case rel => exact ⟨k + 1, by omega, by go_num, by rw [HS.out]; exact ⟨rfl, trivial⟩⟩
      case measure => simp [intOf]; omega
    · obtain rfl : k = n := by omega
      go_wp2
      go_ret
      exact ⟨rfl, 0, rfl⟩

/-- A slice's length. -/
def lenV : Value → Nat
  | .slice _ n _ => n
  | _ => 0

theorem xorN (x y : Nat) (xi yi : Int) (ex : xi = (x : Int)) (ey : yi = (y : Int)) (hx : x < 2 ^ 64) (hy : y < 2 ^ 64) : bits .xor .u64 xi yi = ((x ^^^ y : Nat) : Int) := by
  subst ex; subst ey; exact u64_xor_nat x y hx hy
theorem xor_lt64 {x y : Nat} (hx : x < 2 ^ 64) (hy : y < 2 ^ 64) : x ^^^ y < 2 ^ 64 := Nat.xor_lt_two_pow hx hy

set_option maxRecDepth 100000 in
set_option maxHeartbeats 2000000 in
/-- takeRest: what is left goes in. -/
theorem takeRest_any (h m cap gb off : Nat) (hi : Int) (eh : hi = (h : Int)) (hh : h < 2 ^ 64) (bs : List Nat) (p : Nat) (hm : m ≤ cap) (hcap : cap ≤ 2 ^ 40) (w : World)
    (hcs : ∀ j, j < m → w.cell? ⟨gb, off + j, none⟩ = some (.int .u8 ((bs[p + j]?.getD 0 : Nat) : Int))) (hbs : ∀ j : Nat, bs[j]?.getD 0 < 256) :
    Calls Try.prog 52 #[.int .u64 hi, .slice (some ⟨gb, off, none⟩) m cap] w fun e w' => e = .returned (.int .u64 ((restOf h bs p m : Nat) : Int)) ∧ ∃ n, w' = w.drewN n := by
  subst eh
  have HC := (show Hid _ from hcs)
  have HX := (show Hid _ from hbs)
  clear hcs hbs
  go_enter Try.func52, Try.ntmps52
  go_wp2_with fail
  go_loopw [0, 1] (fun x b wr => ∃ (k nq r c o : Nat), (r + 8 * k = m ∧ r ≤ c ∧ c ≤ cap ∧ (o = off + 8 * k ∨ r = 0)) ∧ x = .int .u64 ((rest8 h bs p k : Nat) : Int) ∧ b = .slice (some ⟨gb, o, none⟩) r c ∧ wr = w.drewN nq) (fun _ b _ => lenV b)
  case atStart => exact ⟨0, 0, m, cap, off, ⟨rfl, hm, Nat.le_refl _, .inl rfl⟩, rfl, rfl, rfl⟩
  case round =>
    obtain ⟨k, nq, r, c, o, hk, rfl, rfl, rfl⟩ := hrel
    have hy := rest8_lt h hh bs p k
    have hrc : r ≤ c := by omega
    have hc40 : c ≤ 1099511627776 := by omega
    have HK := (show Hid _ from hk)
    clear hk
    by_cases hlt : 8 ≤ r
    · have h8 : (8 : Int) ≤ (r : Int) := by omega
      have h9 : (8 : Int) ≤ (c : Int) := by omega
      have hs : rest8 h bs p (k + 1) = eightIn (rest8 h bs p k) (num bs (p + 8 * k) 8) := rfl
      generalize rest8 h bs p k = y at hy hs
      have HS := (show Hid _ from hs)
      clear hs
      go_wp2_with fail
      refine (number_any 8 c gb o bs (p + 8 * k) (by decide) _ (fun j hj => ?_) HX.out).mono ?_
      · obtain ⟨h1, h2, h3, h4⟩ := HK.out
        rcases h4 with rfl | h4
        · have := HC.out (8 * k + j) (by omega)
          rw [← Nat.add_assoc, ← Nat.add_assoc] at this
          exact this
        · omega
      rintro e w' ⟨rfl, n1, rfl⟩
      have hn := num_lt bs (p + 8 * k) 8
      generalize num bs (p + 8 * k) 8 = x at HS hn
      go_wp2_with fail
      refine (round_any 0 x _ _ rfl rfl _).mono ?_
      rintro e w' ⟨rfl, n2, rfl⟩
      go_wp2_with fail
      refine (turn_any (y ^^^ round 0 x) 27 _ _ (xorN _ _ _ _ rfl rfl hy (round_lt _ _)) rfl (xor_lt64 hy (round_lt _ _)) (by decide) (by decide) _).mono ?_
      rintro e w' ⟨rfl, n3, rfl⟩
      go_wp2_with fail
      go_roundw
      case rel =>
        obtain ⟨h1, h2, h3, h4⟩ := HK.out
        refine ⟨k + 1, _, r - 8, c - 8, if c = 8 then o else o + 8, ⟨by omega, by omega, by omega, ?_⟩, ?_, ?_, rfl⟩
        · split <;> omega
        · rw [HS.out, wrapN _ (turn (y ^^^ round 0 x) 27 * p1 % 2 ^ 64 + p4) (by rw [wrapN _ (turn (y ^^^ round 0 x) 27 * p1) (by simp [p1])]; simp [p4])]
          rfl
        · split <;> rfl
      case measure => simp only [lenV]; omega
    · have hr8 : r = m % 8 ∧ k = m / 8 := by have := HK.out; omega
      generalize hyd : rest8 h bs p k = y at hy
      by_cases h4 : 4 ≤ r
      · have h8 : (4 : Int) ≤ (r : Int) := by omega
        have h9 : (4 : Int) ≤ (c : Int) := by omega
        have hres : restOf h bs p m = rest1 (fourIn y (num bs (p + 8 * k) 4)) bs (p + 8 * k + 4) (r - 4) := by
          unfold restOf
          rw [← hr8.1, ← hr8.2, if_neg (by omega), hyd]
        have HR := (show Hid _ from hres)
        clear hres hyd hr8
        go_wp2_with fail
        refine (number_any 4 c gb o bs (p + 8 * k) (by decide) _ (fun j hj => ?_) HX.out).mono ?_
        · obtain ⟨h1, h2, h3, h4⟩ := HK.out
          rcases h4 with rfl | h4
          · have := HC.out (8 * k + j) (by omega)
            rw [← Nat.add_assoc, ← Nat.add_assoc] at this
            exact this
          · omega
        rintro e w' ⟨rfl, n1, rfl⟩
        have hn := num_lt bs (p + 8 * k) 4
        generalize num bs (p + 8 * k) 4 = x at HR hn
        go_wp2_with fail
        refine (turn_any (y ^^^ x * p1 % 2 ^ 64) 23 _ _ (xorN _ _ _ _ rfl (wrapN _ _ (by simp [p1])) hy (Nat.mod_lt _ (by decide))) rfl (xor_lt64 hy (Nat.mod_lt _ (by decide))) (by decide) (by decide) _).mono ?_
        rintro e w' ⟨rfl, n3, rfl⟩
        have hfo : IntKind.u64.wrap (IntKind.u64.wrap (((turn (y ^^^ x * p1 % 2 ^ 64) 23 : Nat) : Int) * 14029467366897019727) + 1609587929392839161) = ((fourIn y x : Nat) : Int) :=
          wrapN _ (turn (y ^^^ x * p1 % 2 ^ 64) 23 * p2 % 2 ^ 64 + p3) (by rw [wrapN _ (turn (y ^^^ x * p1 % 2 ^ 64) 23 * p2) (by simp [p2])]; simp [p3])
        have hf := fourIn_lt y x
        generalize turn (y ^^^ x * p1 % 2 ^ 64) 23 = z at hfo
        generalize fourIn y x = y2 at hfo hf HR
        have HB : Hid (∀ j, j < r - 4 → ¬ c = 4 ∧ w.cell? ⟨gb, o + 4 + j, none⟩ = some (.int .u8 ((bs[p + 8 * k + 4 + j]?.getD 0 : Nat) : Int))) := fun j hj => by
          obtain ⟨h1, h2, h3, h4⟩ := HK.out
          refine ⟨by omega, ?_⟩
          have := HC.out (8 * k + 4 + j) (by omega)
          rw [← Nat.add_assoc, ← Nat.add_assoc, ← Nat.add_assoc, ← Nat.add_assoc] at this
          rcases h4 with rfl | h4
          · exact this
          · omega
        clear HC HK
        generalize hrr : r - 4 = rr at HR HB
        have HRR := (show Hid _ from hrr)
        clear hrr
        by_cases hc4 : c = 4
        · obtain rfl : rr = 0 := by
            have := HRR.out; omega
          subst hc4
          obtain rfl : r = 4 := by omega
          go_wp2_with fail
          go_loopw [37, 0] (fun i x wr => i = .int .i64 0 ∧ x = .int .u64 (y2 : Int) ∧ ∃ nq, wr = w.drewN nq) (fun _ _ _ => 0)
          case atStart => exact ⟨rfl, rfl, _, rfl⟩
          case round =>
            obtain ⟨rfl, rfl, nq, rfl⟩ := hrel
            go_wp2
            go_ret
            exact ⟨by rw [HR.out]; rfl, _, rfl⟩
        · have HB2 : Hid (∀ j, j < rr → w.cell? ⟨gb, o + 4 + j, none⟩ = some (.int .u8 ((bs[p + 8 * k + 4 + j]?.getD 0 : Nat) : Int))) := fun j hj => (HB.out j hj).2
          clear HB
          have HB := HB2
          clear HB2
          have hrr4 : rr + 4 = r := by have := HRR.out; omega
          subst hrr4
          clear HRR
          go_wp2_with fail
          go_loopw [37, 0] (fun i x wr => ∃ (j nq : Nat), j ≤ rr ∧ i = .int .i64 j ∧ x = .int .u64 ((rest1 y2 bs (p + 8 * k + 4) j : Nat) : Int) ∧ wr = w.drewN nq) (fun i _ _ => rr - (intOf i).toNat)
          case atStart => exact ⟨0, _, Nat.zero_le _, rfl, rfl, rfl⟩
          case round =>
            obtain ⟨j, nq, hj, rfl, rfl, rfl⟩ := hrel
            by_cases hlt2 : j < rr
            · have hcv := HB.out j hlt2
              have hv := HX.out (p + 8 * k + 4 + j)
              have hz := rest1_lt y2 hf bs (p + 8 * k + 4) j
              have hs : rest1 y2 bs (p + 8 * k + 4) (j + 1) = oneIn (rest1 y2 bs (p + 8 * k + 4) j) (bs[p + 8 * k + 4 + j]?.getD 0) := rfl
              generalize bs[p + 8 * k + 4 + j]?.getD 0 = v at hcv hv hs
              generalize rest1 y2 bs (p + 8 * k + 4) j = z1 at hz hs
              have HS := (show Hid _ from hs)
              clear hs
              go_wp2_with fail
              refine (turn_any (z1 ^^^ v * p5 % 2 ^ 64) 11 _ _ (xorN _ _ _ _ rfl (wrapN _ _ (by simp [p5])) hz (Nat.mod_lt _ (by decide))) rfl (xor_lt64 hz (Nat.mod_lt _ (by decide))) (by decide) (by decide) _).mono ?_
              rintro e w' ⟨rfl, n4, rfl⟩
              go_wp2_with fail
              go_roundw
              case rel =>
                refine ⟨j + 1, _, by omega, by go_num, ?_, rfl⟩
                rw [HS.out, wrapN _ (turn (z1 ^^^ v * p5 % 2 ^ 64) 11 * p1) (by simp [p1])]
                rfl
              case measure => simp [intOf]; omega
            · obtain rfl : j = rr := by omega
              go_wp2
              go_ret
              exact ⟨by rw [HR.out]; rfl, _, rfl⟩
      · have hres : restOf h bs p m = rest1 y bs (p + 8 * k) r := by
          unfold restOf
          rw [← hr8.1, ← hr8.2, if_pos (by omega), hyd]
        have HR := (show Hid _ from hres)
        clear hres hyd hr8
        have HB : Hid (∀ j, j < r → w.cell? ⟨gb, o + j, none⟩ = some (.int .u8 ((bs[p + 8 * k + j]?.getD 0 : Nat) : Int))) := fun j hj => by
          obtain ⟨h1, h2, h3, h4⟩ := HK.out
          have := HC.out (8 * k + j) (by omega)
          rw [← Nat.add_assoc, ← Nat.add_assoc] at this
          rcases h4 with rfl | h4
          · exact this
          · omega
        clear HC HK
        have hf := hy
        go_wp2_with fail
        go_loopw [37, 0] (fun i x wr => ∃ (j nq : Nat), j ≤ r ∧ i = .int .i64 j ∧ x = .int .u64 ((rest1 y bs (p + 8 * k) j : Nat) : Int) ∧ wr = w.drewN nq) (fun i _ _ => r - (intOf i).toNat)
        case atStart => exact ⟨0, _, Nat.zero_le _, rfl, rfl, rfl⟩
        case round =>
          obtain ⟨j, nq, hj, rfl, rfl, rfl⟩ := hrel
          by_cases hlt2 : j < r
          · have hcv := HB.out j hlt2
            have hv := HX.out (p + 8 * k + j)
            have hz := rest1_lt y hf bs (p + 8 * k) j
            have hs : rest1 y bs (p + 8 * k) (j + 1) = oneIn (rest1 y bs (p + 8 * k) j) (bs[p + 8 * k + j]?.getD 0) := rfl
            generalize bs[p + 8 * k + j]?.getD 0 = v at hcv hv hs
            generalize rest1 y bs (p + 8 * k) j = z1 at hz hs
            have HS := (show Hid _ from hs)
            clear hs
            go_wp2_with fail
            refine (turn_any (z1 ^^^ v * p5 % 2 ^ 64) 11 _ _ (xorN _ _ _ _ rfl (wrapN _ _ (by simp [p5])) hz (Nat.mod_lt _ (by decide))) rfl (xor_lt64 hz (Nat.mod_lt _ (by decide))) (by decide) (by decide) _).mono ?_
            rintro e w' ⟨rfl, n4, rfl⟩
            go_wp2_with fail
            go_roundw
            case rel =>
              refine ⟨j + 1, _, by omega, by go_num, ?_, rfl⟩
              rw [HS.out, wrapN _ (turn (z1 ^^^ v * p5 % 2 ^ 64) 11 * p1) (by simp [p1])]
              rfl
            case measure => simp [intOf]; omega
          · obtain rfl : j = r := by omega
            go_wp2
            go_ret
            exact ⟨by rw [HR.out]; rfl, _, rfl⟩

end Go.Proofs.Ytoohkldhfkoocaa
