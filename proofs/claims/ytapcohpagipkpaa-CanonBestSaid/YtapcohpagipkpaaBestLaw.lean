/-
  CanonBest, walked: lengths within a bound make a code, and none make counts shorter.
-/
import Derived.Test.YtapcohpagipkpaaLeast
import Derived.Test.YtapcohpagipkpaaAwake
namespace Go.Proofs.Ytapcohpagipkpaa
open Go.RowKit Go.Shelf

set_option maxRecDepth 100000 in
set_option maxHeartbeats 4000000 in
theorem best_arg (a : Option Addr) (cap n : Nat) (most : Int) (w : World) (h : 1024 < n ∨ most < 1 ∨ 15 < most) :
    Calls Try.prog 7 #[.slice a n cap, .int .i64 most] w fun e w' => e = .returned (.bool true) ∧ Keep noBlock w w' := by
  have H := (show Hid _ from h)
  clear h
  go_enter Try.func7, Try.ntmps7
  go_wp2_with fail
  refine (limit_arg a cap n most w H.out).mono ?_
  rintro e w1 ⟨rfl, hk1⟩
  go_wp2_with fail
  refine (able_arg a cap n most w1 H.out).mono ?_
  rintro e w2 ⟨rfl, hk2⟩
  go_wp2_with fail
  refine (wakes_any _).mono ?_
  rintro e w3 ⟨rfl, hk3⟩
  go_wp2
  go_ret
  exact ⟨rfl, (hk1.trans' hk2).trans' hk3⟩

set_option maxRecDepth 100000 in
set_option maxHeartbeats 4000000 in
theorem best_few (a : Option Addr) (cap gb off most : Nat) (xs : List Nat) (w : World) (hR : Row w .u32 a cap gb off xs) (hl : xs.length ≤ 1024) (hm0 : 1 ≤ most) (hm : most ≤ 15) (hbad : ¬ (2 ≤ (placesTo (numOf xs) xs.length).length ∧ (placesTo (numOf xs) xs.length).length ≤ 2 ^ most)) :
    Calls Try.prog 7 #[.slice a xs.length cap, .int .i64 (most : Int)] w fun e w' => e = .returned (.bool true) ∧ Keep noBlock w w' := by
  have H := (show Hid _ from hbad)
  clear hbad
  go_enter Try.func7, Try.ntmps7
  go_wp2_with fail
  refine (limit_few a cap gb off most xs w hR hl hm0 hm H.out).mono ?_
  rintro e w1 ⟨rfl, hk1⟩
  have hA := able_any a cap gb off most xs w1 (hR.keep hk1 (fun _ h => h)) hl hm0 hm
  rw [decide_eq_false H.out] at hA
  go_wp2_with fail
  refine hA.mono ?_
  rintro e w2 ⟨rfl, hk2⟩
  clear hA
  go_wp2_with fail
  refine (wakes_any _).mono ?_
  rintro e w3 ⟨rfl, hk3⟩
  go_wp2
  go_ret
  exact ⟨rfl, (hk1.trans' hk2).trans' hk3⟩

set_option maxRecDepth 100000 in
set_option maxHeartbeats 8000000 in
theorem best_good (a : Option Addr) (cap gb off most : Nat) (xs : List Nat) (w : World) (hR : Row w .u32 a cap gb off xs) (hx : ∀ i, numOf xs i < 4294967296) (hl : xs.length ≤ 1024) (hm0 : 1 ≤ most) (hm : most ≤ 15) (hgood : 2 ≤ (placesTo (numOf xs) xs.length).length ∧ (placesTo (numOf xs) xs.length).length ≤ 2 ^ most) :
    Calls Try.prog 7 #[.slice a xs.length cap, .int .i64 (most : Int)] w fun e w' => e = .returned (.bool true) ∧ Keep noBlock w w' := by
  have HG := (show Hid _ from hgood)
  have HX := (show Hid (∀ i, numOf xs i < 4294967296) from hx)
  clear hgood hx
  go_enter Try.func7, Try.ntmps7
  go_wp2_with fail
  refine (limit_good a cap gb off most xs w hR HX.out hl hm0 hm HG.out).mono ?_
  rintro e w1 ⟨lb, P, rfl, hO, hRL, hlb1, hlb2, hk1⟩
  have hPl : 2 ≤ P.length ∧ P.length ≤ 2 ^ most := by
    have := hO.len
    have h := HG.out
    unfold placesTo at h
    omega
  have hR1 := hR.keep hk1 (fun _ h => h)
  have hA := able_any a cap gb off most xs w1 hR1 hl hm0 hm
  rw [decide_eq_true HG.out] at hA
  have hcode := best_code hO hPl.1 hm0 hm hPl.2 hl
  have hle : ∀ s, numOf (limitL xs P most) s ≤ most := fun s => best_le s
  have h8 : ∀ s, numOf (limitL xs P most) s < 256 := fun s => by have := hle s; omega
  have hzero : ∀ s, s < xs.length → (numOf (limitL xs P most) s = 0 ↔ numOf xs s = 0) := fun s hs => best_zero hO hPl.1 hm0 hPl.2 s hs
  have hsum := best_sum (xs := xs) hO hm0 hPl.2
  have hll := limitL_len xs P most
  generalize limitL xs P most = ls at hRL hcode hle h8 hzero hsum hll
  have HL := (show Hid (isCode ls = true ∧ (∀ s, numOf ls s ≤ most) ∧ (∀ s, numOf ls s < 256) ∧ (∀ s, s < xs.length → (numOf ls s = 0 ↔ numOf xs s = 0)) ∧ sumTo xs ls xs.length = wsum ((levelL (lvOf xs P) (most - 1)).take (2 * P.length - 2)) ∧ ls.length = xs.length) from ⟨hcode, hle, h8, hzero, hsum, hll⟩)
  have HP := (show Hid (IsOrder (numOf xs) xs.length P ∧ 2 ≤ P.length ∧ P.length ≤ 2 ^ most) from ⟨hO, hPl.1, hPl.2⟩)
  clear hcode hle h8 hzero hsum hll hPl hO HG hR
  go_wp2_with fail
  refine hA.mono ?_
  rintro e w2 ⟨rfl, hk2⟩
  clear hA
  have hR2 := hR1.keep hk2 (fun _ h => h)
  have hRL2 := hRL.keep hk2 (fun _ h => h)
  have hRt := right_any (some ⟨lb, 0, none⟩) xs.length lb 0 ls w2 hRL2 HL.out.2.2.1 (by rw [HL.out.2.2.2.2.2]; exact hl)
  rw [HL.out.1, HL.out.2.2.2.2.2] at hRt
  have hne : ((xs.length : Int) != (xs.length : Int)) = false := by simp
  clear hR1 hRL
  go_wp2_with fail
  refine hRt.mono ?_
  rintro e w3 ⟨rfl, hk3⟩
  clear hRt
  have hR3 := hR2.keep hk3 (fun _ h => h)
  have hRL3 := hRL2.keep hk3 (fun _ h => h)
  have hk := (hk1.trans' hk2).trans' hk3
  have H3 := (show Hid (Row w3 .u32 a cap gb off xs ∧ Row w3 .u8 (some ⟨lb, 0, none⟩) xs.length lb 0 ls ∧ Keep noBlock w w3) from ⟨hR3, hRL3, hk⟩)
  clear hR2 hRL2 hk1 hk2 hk3 hR3 hRL3 hk hlb1 hlb2
  have HW := (show Hid (Keep noBlock w3 w3) from Keep.refl _ _)
  go_wp2_with fail
  go_loopw [44] (fun vi wr => ∃ i : Nat, vi = .int .i64 (i : Int) ∧ i ≤ xs.length ∧ Hid (Keep noBlock w3 wr)) (fun vi _ => xs.length - (intOf vi).toNat)
  case atStart => exact ⟨0, rfl, Nat.zero_le _, HW.out⟩
  case round =>
    clear HW
    obtain ⟨i, rfl, hi, HK⟩ := hrel
    by_cases hlt : i < xs.length
    · have hRw := H3.out.1.keep HK.out (fun _ h => h)
      have hLw := H3.out.2.1.keep HK.out (fun _ h => h)
      obtain rfl : a = some ⟨gb, off, none⟩ := hRw.at_.resolve_right (by rintro rfl; simp at hlt)
      have c1 : wr.cell? ⟨gb, off + i, none⟩ = some (.int .u32 ((numOf xs i : Nat) : Int)) := hRw.cells i hlt
      have c2 : wr.cell? ⟨lb, 0 + i, none⟩ = some (.int .u8 ((numOf ls i : Nat) : Int)) := hLw.cells i (by rw [HL.out.2.2.2.2.2]; exact hlt)
      rw [Nat.zero_add] at c2
      have hz := HL.out.2.2.2.1 i hlt
      have hm1 := HL.out.2.1 i
      have hltI : (i : Int) < (xs.length : Int) := by omega
      generalize numOf xs i = x at c1 hz
      generalize numOf ls i = y at c2 hz hm1
      have g1 : ¬ (most : Int) < (y : Int) := by omega
      have g2 : decide ((most : Int) < (y : Int)) = false := decide_eq_false g1
      have g3 : decide (most < y) = false := decide_eq_false (by omega)
      clear hRw hLw
      by_cases h0 : x = 0
      · have hy0 := hz.2 h0
        subst h0
        subst hy0
        clear hz
        go_wp2_with fail
        go_quiet (fail)
        go_wp2
        go_roundw
        case rel => exact ⟨i + 1, by go_num, by omega, HK.out.trans' (keep_drewN _ _)⟩
        case measure => simp [intOf]; omega
      · have hy0 : ¬ y = 0 := fun e => h0 (hz.1 e)
        have h0I : ¬ (x : Int) = 0 := by omega
        have y0I : ¬ (y : Int) = 0 := by omega
        have h0B : ((x : Int) == 0) = false := by simpa using h0I
        have y0B : ((y : Int) == 0) = false := by simpa using y0I
        clear hz
        go_wp2_with fail
        go_quiet (fail)
        go_wp2
        go_roundw
        case rel => exact ⟨i + 1, by go_num, by omega, HK.out.trans' (keep_drewN _ _)⟩
        case measure => simp [intOf]; omega
    · obtain rfl : i = xs.length := by omega
      have hRw := H3.out.1.keep HK.out (fun _ h => h)
      have hLw := H3.out.2.1.keep HK.out (fun _ h => h)
      have hS := sum_any a (some ⟨lb, 0, none⟩) cap xs.length gb lb off 0 xs ls wr hRw hLw hl HL.out.2.2.2.2.2 HX.out HL.out.2.2.1
      rw [HL.out.2.2.2.2.1] at hS
      have hLe : ∀ q, Calls Try.prog 25 #[.slice a xs.length cap, .int .i64 (most : Int)] (wr.drewN q) fun e w' => e = .returned (.int .u64 ((wsum ((levelL (lvOf xs P) (most - 1)).take (2 * P.length - 2)) : Nat) : Int)) ∧ Keep noBlock (wr.drewN q) w' := fun q =>
        least_any a cap gb off most xs P (wr.drewN q) (hRw.keep (keep_drewN _ _) (fun _ h => h)) HX.out hl HP.out.1 HP.out.2.1 hm0 hm HP.out.2.2
      generalize wsum ((levelL (lvOf xs P) (most - 1)).take (2 * P.length - 2)) = ans at hS hLe
      clear hRw hLw HP HL HX
      go_wp2_with fail
      refine hS.mono ?_
      rintro e w4 ⟨rfl, q, rfl⟩
      have hLq := hLe q
      have hkq : Keep noBlock w (wr.drewN q) := (H3.out.2.2.trans' HK.out).trans' (keep_drewN _ _)
      clear hS hLe
      generalize wr.drewN q = wq at hLq hkq ⊢
      go_wp2_with fail
      refine hLq.mono ?_
      rintro e w5 ⟨rfl, hk5⟩
      clear hLq
      go_wp2_with fail
      refine (wakes_any _).mono ?_
      rintro e w6 ⟨rfl, hk6⟩
      go_wp2
      go_ret
      exact ⟨rfl, (hkq.trans' hk5).trans' hk6⟩

end Go.Proofs.Ytapcohpagipkpaa
