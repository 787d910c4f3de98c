/-
 ZstdRoom, walked: a greater budget makes no difference.
-/
import Derived.Test.YtnjilcokkhodmaaGreatDoorZP22
namespace Go.Proofs.YtnjilcokkhodmaaGreatDoor
open Go.RowKit Go.Shelf
set_option linter.unusedVariables false

theorem winW_le (O : Orc) : ∀ (us : List Un) (F : Fr), F.bud = 16777216 → F.win ≤ 16777216 → (winW O F us).1 ≤ 16777216
  | [], F, _, h => h
  | u :: us, F, h1, h2 => by
    show (if (lookP O F u).2 ≠ 0 then (0, (lookP O F u).2) else if u.p = 1 ∨ u.p = 4 then ((lookP O F u).1.win, 0) else winW O (lookP O F u).1 us).1 ≤ _
    by_cases hc : (lookP O F u).2 = 0
    · obtain ⟨l1, l2, -⟩ := lookP_win hc h1 h2
      rw [if_neg (by omega)]
      split
      · exact l1
      · exact winW_le O us _ l2 l1
    · rw [if_pos hc]; exact Nat.zero_le _
theorem winP_le (O : Orc) (b : List Nat) : (winP O b).1 ≤ 16777216 := winW_le O _ _ rfl (Nat.zero_le _)
section
attribute [local go_sem] maxSem_eq
set_option maxRecDepth 100000 in
set_option maxHeartbeats 4000000 in
theorem room_law (a : Option Addr) (cap gb off : Nat) (b : List Nat) (bud more : Int) (w : World) (hB : Bytes w a cap gb off b) (hg : gb < w.heap.size) (hF : Frm w) (hO : Ords w) (hb1 : -9223372036854775808 ≤ bud) (hb2 : bud ≤ 9223372036854775807) (hm1 : -9223372036854775808 ≤ more) (hm2 : more ≤ 9223372036854775807) :
  Calls Tryz.prog 5 #[.slice a b.length cap, .int .i64 bud, .int .i64 more] w fun e w' => e = .returned (.bool true) ∧ Keep noBlock w w' := by
 obtain ⟨Ω⟩ := oc_ex
 obtain ⟨Δ⟩ := od_ex
 obtain ⟨B, hBB⟩ : ∃ B : Nat, (B : Int) = min (max bud 0) 16777216 := ⟨(min (max bud 0) 16777216).toNat, by omega⟩
 obtain ⟨mx2, hmx2⟩ : ∃ mx2 : Int, mx2 = max bud more := ⟨_, rfl⟩
 obtain ⟨B2, hBB2⟩ : ∃ B2 : Nat, (B2 : Int) = min (max mx2 0) 16777216 := ⟨(min (max mx2 0) 16777216).toNat, by omega⟩
 have hmaxA := maxSem_run .i64 #[3, 3] 3 bud more mx2 hmx2
 obtain ⟨bz, hbz⟩ : ∃ bz : Int, bz = max bud 0 := ⟨_, rfl⟩
 have hmaxB := maxSem_run .i64 #[3, 3] 3 bud 0 bz hbz
 have hle : B ≤ B2 := by omega
 have HW := hid (show ∀ W, Keep noBlock w W → Calls Tryz.prog 7 #[] W fun e w' => e = .returned (.bool true) ∧ Keep noBlock W w' from fun W hW => wakesZ_any W (hF.keep hW) (hO.keep hW (fun h => h) (fun h => h)))
 have HM1 := hid (memberB Ω Δ a cap gb off b bud w hB hg hF hO hb1 hb2 B hBB)
 have HM2 := hid (fun (W : World) (hk : Keep noBlock w W) => memberB Ω Δ a cap gb off b mx2 W (hB.keep hk (fun _ h => h)) (Nat.lt_of_lt_of_le hg hk.size) (hF.keep hk) (hO.keep hk (fun h => h) (fun h => h)) (by omega) (by omega) B2 hBB2)
 have HWn := hid (fun (W : World) (hk : Keep noBlock w W) => window_any ⟨Ω, Δ, W, b, a, cap, gb, off, winP (orc Ω Δ) b⟩ ⟨hB.keep hk (fun _ h => h), Nat.lt_of_lt_of_le hg hk.size⟩ rfl)
 have HOv := hid (memP_over (orc Ω Δ) b B)
 have HRm := hid (memP_room (orc Ω Δ) b B B2 hle)
 have HBz := (show Hid (∀ x : Nat, B < x → x ≤ 16777216 → bz < (x : Int)) from fun x hx hx2 => by omega)
 have HWl := hid (winP_le (orc Ω Δ) b)
 dsimp only at HWn
 obtain ⟨n, hn⟩ : ∃ n, n = b.length := ⟨_, rfl⟩
 rw [← hn] at HM1 HM2 HWn ⊢
 generalize memP (orc Ω Δ) b B = M at *
 generalize memP (orc Ω Δ) b B2 = M2 at *
 generalize winP (orc Ω Δ) b = Wn at *
 obtain ⟨o1, u1, e1⟩ := M
 obtain ⟨o2, u2, e2⟩ := M2
 obtain ⟨wn, we⟩ := Wn
 dsimp only at *
 clear hB hg hF hO hBB hBB2 hmx2 hbz hle hn hb1 hb2 hm1 hm2
 by_cases h40 : e1 = 40
 ·subst h40
  obtain ⟨ho, hw⟩ := HOv.out rfl
  have HLn := hid ho
  have HWw := hid hw
  clear ho hw
  have HM := (show Hid (Calls Tryz.prog 6 #[.slice a n cap, .int .i64 bud] w fun e w' => ∃ oa oc, e = .returned (.tuple #[.slice oa 0 oc, .int .i64 (u1 : Int), .int .i64 40]) ∧ Keep noBlock w w') from HM1.out.mono (by
   rintro e w' ⟨oa, on, oc, og, t1, t2, t3, t4⟩
   rw [HLn.out] at t2
   obtain rfl : on = 0 := t2
   exact ⟨oa, oc, t1, t4⟩))
  clear HM1 HM2 HOv HRm
  rcases HWw.out with h | ⟨h, h2⟩
  ·subst h
   go_enter Tryz.func5, Tryz.ntmps5
   go_wp2_with fail
   refine HM.out.mono ?_
   rintro e w1 ⟨oa, oc, rfl, k1⟩
   have HK1 := hid k1
   have HW1 := hid (HWn.out w1 k1)
   rw [show ((40 : Nat) : Int) = 40 from rfl] at HW1
   clear k1 HM HWn
   go_wp2_with fail
   refine HW1.out.mono ?_
   rintro e w2 ⟨rfl, k2⟩
   have HK2 := hid (HK1.out.trans' k2)
   have HWk := hid (HW.out w2 HK2.out)
   clear k2 HW1
   go_wp2_with fail
   refine HWk.out.mono ?_
   rintro e w3 ⟨rfl, k3⟩
   have HK3 := hid (HK2.out.trans' k3)
   clear k3 HWk
   go_wp2_with fail
   go_ret
   exact ⟨rfl, HK3.out⟩
  ·subst h
   have hgt : bz < (wn : Int) := HBz.out wn h2 HWl.out
   have hgd : decide (bz < (wn : Int)) = true := decide_eq_true hgt
   clear h2
   go_enter Tryz.func5, Tryz.ntmps5
   go_wp2_with fail
   refine HM.out.mono ?_
   rintro e w1 ⟨oa, oc, rfl, k1⟩
   have HK1 := hid k1
   have HW1 := hid (HWn.out w1 k1)
   rw [show ((0 : Nat) : Int) = 0 from rfl] at HW1
   clear k1 HM HWn
   go_wp2_with fail
   refine HW1.out.mono ?_
   rintro e w2 ⟨rfl, k2⟩
   have HK2 := hid (HK1.out.trans' k2)
   have HWk := hid (HW.out w2 HK2.out)
   clear k2 HW1
   go_wp2_with fail
   refine HWk.out.mono ?_
   rintro e w3 ⟨rfl, k3⟩
   have HK3 := hid (HK2.out.trans' k3)
   clear k3 HWk
   go_wp2_with fail
   go_ret
   exact ⟨rfl, HK3.out⟩
 ·have heq := HRm.out h40
  cases heq
  have hne : ((e1 : Int) == 40) = false := by simp; omega
  have hned : decide (e1 = 40) = false := decide_eq_false h40
  clear HOv HRm HWn h40
  go_enter Tryz.func5, Tryz.ntmps5
  go_wp2_with fail
  refine HM1.out.mono ?_
  rintro e w1 ⟨oa, on, oc, og, rfl, t2, t3, k1⟩
  have HK1 := (show Hid (Keep noBlock w w1 ∧ on = o1.length ∧ Bytes w1 oa oc og 0 o1) from ⟨k1, t2, t3⟩)
  have HM3 := hid (HM2.out w1 k1)
  clear k1 t2 t3 HM1 HM2
  go_wp2_with fail
  refine HM3.out.mono ?_
  rintro e w2 ⟨oa2, on2, oc2, og2, rfl, t2, t3, k2⟩
  have hs1 := run_convB (HK1.out.2.2.keep k2 (fun _ h => h)).src
  have hs2 := run_convB t3.src
  rw [← HK1.out.2.1] at hs1
  rw [← t2] at hs2
  have HK2 := hid (HK1.out.1.trans' k2)
  have HWk := hid (HW.out w2 HK2.out)
  clear k2 t2 t3 HM3 HK1
  generalize strOf o1 = S1 at *
  go_wp2_with fail
  refine HWk.out.mono ?_
  rintro e w3 ⟨rfl, k3⟩
  have HK3 := hid (HK2.out.trans' k3)
  clear k3 HWk
  go_wp2_with fail
  go_ret
  exact ⟨rfl, HK3.out⟩
end
end Go.Proofs.YtnjilcokkhodmaaGreatDoor
