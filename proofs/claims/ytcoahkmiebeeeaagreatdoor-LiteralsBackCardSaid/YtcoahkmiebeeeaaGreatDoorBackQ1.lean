/-
  LiteralsBack, walked: literals that are told are read as they were.
-/
import Derived.Test.YtcoahkmiebeeeaaGreatDoorLitP24
namespace Go.Proofs.YtcoahkmiebeeeaaGreatDoor
open Go.RowKit Go.Shelf
set_option linter.unusedVariables false

section
attribute [local go_sem] minSem_eq
set_option maxRecDepth 100000 in
set_option maxHeartbeats 2000000 in
theorem lback_law (a : Option Addr) (cap gb off : Nat) (bs : List Nat) (a2 : Option Addr) (cap2 gb2 off2 : Nat) (ws : List Nat) (a3 : Option Addr) (cap3 gb3 off3 : Nat) (rs : List Nat) (w : World) (hF : Frm w) (hB : Bytes w a cap gb off bs) (hB2 : Bytes w a2 cap2 gb2 off2 ws) (hB3 : Bytes w a3 cap3 gb3 off3 rs) (hl2 : ws.length ≤ 140737488355327) (hl3 : rs.length ≤ 140737488351232) :
    Calls Tryz.prog 3 #[.slice a bs.length cap, .slice a2 ws.length cap2, .slice a3 rs.length cap3] w fun e w' => e = .returned (.bool true) ∧ Keep noBlock w w' := by
  have HW := hid (show ∀ W, Keep noBlock w W → Calls Tryz.prog 7 #[] W fun e w' => e = .returned (.bool true) ∧ Keep noBlock W w' from fun W hW => wakesL_any W (hF.keep hW))
  obtain ⟨n, hn⟩ : ∃ n, n = bs.length := ⟨_, rfl⟩
  obtain ⟨n2, hn2⟩ : ∃ n2, n2 = ws.length := ⟨_, rfl⟩
  obtain ⟨n3, hn3⟩ : ∃ n3, n3 = rs.length := ⟨_, rfl⟩
  have hln := hB.len
  have hlc := hB.cap
  rw [← hn] at hln hlc ⊢
  rw [← hn2, ← hn3] at ⊢
  have hnI : (n : Int) ≤ 281474976710656 := by omega
  have HH := hid (And.intro hF (And.intro hB (And.intro hB2 (And.intro hB3 (And.intro hl2 (And.intro hl3 (And.intro hn (And.intro hn2 hn3))))))))
  clear hF hB hB2 hB3 hl2 hl3 hn hn2 hn3 hln
  by_cases hlong : 131072 < n
  · have hI : (131072 : Int) < (n : Int) := by omega
    have HL := hid (writeL_long a cap n a2 cap2 n2 w hlong)
    clear hlong
    go_enter Tryz.func3, Tryz.ntmps3
    go_wp2_with fail
    refine HL.out.mono ?_
    rintro e w1 ⟨rfl, hk1⟩
    have HK1 := hid hk1
    have HW1 := hid (HW.out _ hk1)
    clear hk1
    go_wp2_with fail
    refine HW1.out.mono ?_
    rintro e w2 ⟨rfl, hk2⟩
    have HK2 := hid (HK1.out.trans' hk2)
    clear hk2
    go_wp2_with fail
    go_ret
    exact ⟨rfl, HK2.out⟩
  · have hI : ¬ (131072 : Int) < (n : Int) := by omega
    obtain ⟨m, hm⟩ : ∃ m, m = min n 20000 := ⟨_, rfl⟩
    have hmin := fun W => minSem_run .i64 #[3, 3] 3 (n : Int) 20000 (m : Int) (by omega) W
    have hmc : (m : Int) ≤ (cap : Int) := by omega
    have hm0 : (0 : Int) ≤ (m : Int) := by omega
    have hmn : m ≤ n := by omega
    have hm2 : m ≤ 20000 := by omega
    have hmI : (m : Int) ≤ 20000 := by omega
    obtain ⟨lits, hlits⟩ : ∃ lits, lits = bs.take m := ⟨_, rfl⟩
    obtain ⟨hF, hB, hB2, hB3, hl2, hl3, q7, q8, q9⟩ := HH.out
    have hBl : Bytes w a cap gb off lits := by rw [hlits]; exact (hB.take m (by omega)).2
    have hll : m = lits.length := by rw [hlits, List.length_take]; omega
    have hwr := writeL_any a cap gb off lits a2 cap2 gb2 off2 ws w hF hBl hB2 (by omega) hl2
    rw [← hll, ← q8] at hwr
    have HWr := hid hwr
    have HM := hid (And.intro hBl hll)
    clear hF hB hB2 hB3 hl2 hl3 q7 q8 q9 hBl hll hwr hlits hm hlong
    go_enter Tryz.func3, Tryz.ntmps3
    go_wp2_with fail
    refine HWr.out.mono ?_
    rintro e w1 ⟨hk1, S, nx, sa, sn, sc, sg, so, na, nn, nc, ng, no, hSh, rfl, hsn, hnn, hBS, hBN⟩
    have hsl : sn ≤ m + 3 := by rw [hsn, HM.out.2]; exact hSh.len
    have hslI : ¬ (m : Int) + 3 < (sn : Int) := by omega
    have hslB : (sn : Int) ≤ 20003 := by omega
    have hnx : nx.length ≤ 140737488355327 := by have := hSh.nx_; have := HH.out.2.2.2.2.1; omega
    obtain ⟨hF, hB, hB2, hB3, hl2, hl3, q7, q8, q9⟩ := HH.out
    obtain ⟨ad3, c3, W3, xa, xc, xg, W4, hrun3, hrun4, hkw4, hBx⟩ := two_appends hBS (hB3.keep hk1 (fun _ h => h)) (by omega) (by omega)
    have hrd := readL_back hSh.sec rs (m : Int) (by rw [← HM.out.2]; exact Int.le_refl _) (by omega) xa xc xg 0 a2 cap2 gb2 off2 W4 ((hF.keep hk1).keep hkw4) hBx ((hB2.keep hk1 (fun _ h => h)).keep hkw4 (fun _ h => h)) hl2
    obtain ⟨ln, hln⟩ : ∃ ln, ln = (S ++ rs).length := ⟨_, rfl⟩
    rw [← hln] at hrun4 hrd
    rw [← hsn] at hrun3 hrun4 hrd
    rw [← q8] at hrd
    rw [← q9] at hrun4
    have HRd := hid hrd
    have H1 := hid (show Keep noBlock w w1 ∧ Keep noBlock w1 W4 ∧ nn = nx.length ∧ Bytes w1 na nc ng no nx from ⟨hk1, hkw4, hnn, hBN⟩)
    clear hk1 hSh hsn hnn hBS hBN hsl hnx hF hB hB2 hB3 hl2 hl3 q7 q8 q9 hkw4 hBx hrd hln hmn hm2 hlc
    go_wp2_with (first | (at_builtin; refine wpList_append_run _ rfl _ _ 22 rfl _ _ _ _ rfl rfl hrun3 ?_) | (at_builtin; refine wpList_append_run _ rfl _ _ 22 rfl _ _ _ _ rfl rfl hrun4 ?_))
    refine HRd.out.mono ?_
    rintro e w5 ⟨hk5, b1, m1, d1, e1, f1, b2, m2, d2, e2, f2, rfl, hm1, hm2', hBl, hBo⟩
    obtain ⟨r1, r2, r3, r4⟩ := H1.out
    have hs1 := run_convB hBl.src
    have hs2 := run_convB (((HM.out.1.keep r1 (fun _ h => h)).keep r2 (fun _ h => h)).keep hk5 (fun _ h => h)).src
    have hs3 := run_convB hBo.src
    have hs4 := run_convB ((r4.keep r2 (fun _ h => h)).keep hk5 (fun _ h => h)).src
    rw [← hm1] at hs1
    rw [← HM.out.2] at hs2
    rw [← hm2'] at hs3
    rw [← r3] at hs4
    have HK5 := hid ((r1.trans' r2).trans' hk5)
    have HWk := hid (HW.out _ HK5.out)
    rw [show (((0 : Nat) : Int)) = (0 : Int) from rfl]
    clear hk5 hm1 hm2' hBl hBo r1 r2 r3 r4 hrun3 hrun4 HRd
    generalize strOf lits = S1 at *
    generalize strOf nx = S2 at *
    go_wp2_with fail
    refine HWk.out.mono ?_
    rintro e w6 ⟨rfl, hk6⟩
    have HK6 := hid (HK5.out.trans' hk6)
    clear hk6
    go_wp2_with fail
    go_ret
    exact ⟨rfl, HK6.out⟩
end
end Go.Proofs.YtcoahkmiebeeeaaGreatDoor
