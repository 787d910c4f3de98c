/-
  LiteralsTwice, walked: a second section leans on the weights of the first one.
-/
import Derived.Test.YtcoahkmiebeeeaaGreatDoorLitP24
namespace Go.Proofs.YtcoahkmiebeeeaaGreatDoor
open Go.RowKit Go.Shelf
set_option linter.unusedVariables false

/-- One way for all that end alike. -/
structure Boxed (p : Prop) : Prop where
  out : p
theorem one_way {G T : Prop} (m : Boxed T → G) (t : T) : G := m ⟨t⟩

section
attribute [local go_sem] minSem_eq sliceSem_eq
set_option maxRecDepth 100000 in
set_option maxHeartbeats 4000000 in
theorem ltwice_law (a : Option Addr) (cap gb off : Nat) (xs : List Nat) (a2 : Option Addr) (cap2 gb2 off2 : Nat) (bs : List Nat) (w : World) (hF : Frm w) (hB : Bytes w a cap gb off xs) (hB2 : Bytes w a2 cap2 gb2 off2 bs) :
    Calls Tryz.prog 4 #[.slice a xs.length cap, .slice a2 bs.length cap2] w fun e w' => e = .returned (.bool true) ∧ Keep noBlock w w' := by
  have HW := hid (show ∀ W, Keep noBlock w W → Calls Tryz.prog 7 #[] W fun e w' => e = .returned (.bool true) ∧ Keep noBlock W w' from fun W hW => wakesL_any W (hF.keep hW))
  obtain ⟨n, hn⟩ : ∃ n, n = xs.length := ⟨_, rfl⟩
  obtain ⟨n2, hn2⟩ : ∃ n2, n2 = bs.length := ⟨_, rfl⟩
  have hln := hB.len
  have hln2 := hB2.len
  have hlc := hB.cap
  have hlc2 := hB2.cap
  rw [← hn] at hln hlc
  rw [← hn2] at hln2 hlc2
  rw [← hn, ← hn2]
  have hnI : (n : Int) ≤ 281474976710656 := by omega
  have hnI2 : (n2 : Int) ≤ 281474976710656 := by omega
  obtain ⟨m, hm⟩ : ∃ m, m = min n 3000 := ⟨_, rfl⟩
  obtain ⟨m2, hm2⟩ : ∃ m2, m2 = min n2 3000 := ⟨_, rfl⟩
  have hmin := fun W => minSem_run .i64 #[3, 3] 3 (n : Int) 3000 (m : Int) (by omega) W
  have hmin2 := fun W => minSem_run .i64 #[3, 3] 3 (n2 : Int) 3000 (m2 : Int) (by omega) W
  have hmc : (m : Int) ≤ (cap : Int) := by omega
  have hmc2 : (m2 : Int) ≤ (cap2 : Int) := by omega
  have hmI : (m : Int) ≤ 3000 := by omega
  have hmI2 : (m2 : Int) ≤ 3000 := by omega
  obtain ⟨A, hA⟩ : ∃ A, A = xs.take m := ⟨_, rfl⟩
  obtain ⟨B, hBd⟩ : ∃ B, B = bs.take m2 := ⟨_, rfl⟩
  have hcA := (hB.take m (by omega)).1
  have hcB := (hB2.take m2 (by omega)).1
  rw [← hn] at hcA
  rw [← hn2] at hcB
  have hBA : Bytes w a cap gb off A := by rw [hA]; exact (hB.take m (by omega)).2
  have hBB : Bytes w a2 cap2 gb2 off2 B := by rw [hBd]; exact (hB2.take m2 (by omega)).2
  have hll : m = A.length := by rw [hA, List.length_take]; omega
  have hll2 : m2 = B.length := by rw [hBd, List.length_take]; omega
  rw [← hA, ← hll] at hcA
  rw [← hBd, ← hll2] at hcB
  have HWr := hid (show ∀ W, Keep noBlock w W → Calls Tryz.prog 6 #[.slice a m cap, .slice none 0 0] W fun e w' => WrAns [] A W e w' from fun W hW => by
    have hwr := writeL_any a cap gb off A none 0 0 0 [] W (hF.keep hW) (hBA.keep hW (fun _ h => h)) (bytes_none _) (by omega) (by simp)
    rw [← hll, show ([] : List Nat).length = 0 from rfl] at hwr
    exact hwr)
  have HM := hid (show Frm w ∧ Bytes w a cap gb off A ∧ Bytes w a2 cap2 gb2 off2 B ∧ m = A.length ∧ m2 = B.length ∧ m ≤ 3000 ∧ m2 ≤ 3000 from ⟨hF, hBA, hBB, hll, hll2, by omega, by omega⟩)
  clear hF hB hB2 hn hn2 hln hln2 hlc hlc2 hm hm2 hA hBd hBA hBB hll hll2
  go_enter Tryz.func4, Tryz.ntmps4
  go_wp2_with fail
  apply one_way
  · intro tail
    go_region_held3 (fun _ => True) (trivial) ((fail))
    all_goals exact tail.out
  go_wp2_with fail
  have hkd : Keep noBlock w w.drew := (Keep.refl noBlock w).drew
  refine (HWr.out w.drew hkd).mono ?_
  generalize w.drew = w0 at hkd
  rintro e w1 ⟨hk1, S, nx, sa, sn, sc, sg, so, na, nn, nc, ng, no, hSh, rfl, hsn, hnn, hBS, hBN⟩
  have hk1 := hkd.trans' hk1
  clear hkd
  obtain ⟨hF, hBA, hBB, hll, hll2, hm3, hm4⟩ := HM.out
  have hnl : nx.length ≤ 256 := by have := hSh.nx_; simpa using this
  have hwr2 := writeL_any a2 cap2 gb2 off2 B na nc ng no nx w1 (hF.keep hk1) (hBB.keep hk1 (fun _ h => h)) hBN (by omega) (by omega)
  rw [← hll2, ← hnn] at hwr2
  have HWr2 := hid hwr2
  have hsl : sn ≤ 3003 := by rw [hsn]; have := hSh.len; omega
  have hslI : (sn : Int) ≤ 3003 := by omega
  have H1 := hid (show Keep noBlock w w1 ∧ Short [] A S nx ∧ sn = S.length ∧ nn = nx.length ∧ Bytes w1 sa sc sg so S ∧ Bytes w1 na nc ng no nx ∧ nx.length ≤ 256 from ⟨hk1, hSh, hsn, hnn, hBS, hBN, hnl⟩)
  clear hk1 hSh hsn hnn hBS hBN hF hBA hBB hll hll2 hm3 hm4 hnl hwr2 hsl HWr
  go_wp2_with fail
  refine HWr2.out.mono ?_
  rintro e w2 ⟨hk2, T, ny, ta, tn, tc, tg, tq, ya, yn, yc, yg, yo, hTh, rfl, htn, hyn, hBT, hBY⟩
  obtain ⟨h1, h2, h3, h4, h5, h6, h7⟩ := H1.out
  obtain ⟨hF, hBA, hBB, hll, hll2, hm3, hm4⟩ := HM.out
  have htl : tn ≤ 3003 := by rw [htn]; have := hTh.len; omega
  have htlI : (tn : Int) ≤ 3003 := by omega
  obtain ⟨ad3, c3, W3, xa, xc, xg, W4, hrun3, hrun4, hkw4, hBx⟩ := two_appends (h5.keep hk2 (fun _ h => h)) hBT (by have := h2.len; omega) (by have := h2.len; have := hTh.len; omega)
  have hkw := (h1.trans' hk2).trans' hkw4
  have hrd := readL_back h2.sec T (m : Int) (by rw [← hll]; exact Int.le_refl _) (by omega) xa xc xg 0 none 0 0 0 W4 (hF.keep hkw) hBx (bytes_none _) (by simp)
  obtain ⟨ln, hln⟩ : ∃ ln, ln = (S ++ T).length := ⟨_, rfl⟩
  have hlne : ln = sn + tn := by rw [hln, List.length_append, h3, htn]
  rw [← hln] at hrun4 hrd
  rw [← h3] at hrun3 hrun4 hrd
  rw [← htn] at hrun4
  rw [show ([] : List Nat).length = 0 from rfl] at hrd
  have HRd := hid hrd
  have hxc : ln ≤ xc := by rw [hln]; exact hBx.cap
  have H2 := hid (show Keep noBlock w W4 ∧ Short nx B T ny ∧ tn = T.length ∧ yn = ny.length ∧ Bytes W4 ya yc yg yo ny ∧ Bytes W4 xa xc xg 0 (S ++ T) ∧ ln = (S ++ T).length from ⟨hkw, hTh, htn, hyn, hBY.keep hkw4 (fun _ h => h), hBx, hln⟩)
  have HLN := hid hlne
  have hlnI : (ln : Int) ≤ 6006 := by omega
  have hsnl : (sn : Int) ≤ (ln : Int) := by omega
  have hxcI : (ln : Int) ≤ (xc : Int) := by omega
  have hsub : (ln : Int) - (sn : Int) = (tn : Int) := by omega
  clear hk2 hTh htn hyn hBT hBY h1 h2 h3 h4 h5 h6 h7 hF hBA hBB hll hll2 hm3 hm4 htl hkw4 hBx hkw hrd hln HWr2 hxc hlne
  go_wp2_with (first | (at_builtin; refine wpList_append_run _ rfl _ _ 22 rfl _ _ _ _ rfl rfl hrun3 ?_) | (at_builtin; refine wpList_append_run _ rfl _ _ 22 rfl _ _ _ _ rfl rfl hrun4 ?_))
  refine HRd.out.mono ?_
  rintro e w5 ⟨hk5, b1, m1, d1, e1, f1, b2, m5, d2, e2, f2, rfl, hm1, hm2', hBl, hBo⟩
  have hs1 := run_convB hBl.src
  obtain ⟨hF, hBA, hBB, hll, hll2, hm3, hm4⟩ := HM.out
  obtain ⟨g1, g2, g3, g4, g5, g6, g7⟩ := H2.out
  obtain ⟨h1, h2, h3, h4, h5, h6, h7⟩ := H1.out
  have hkw5 := g1.trans' hk5
  have hs2 := run_convB (hBA.keep hkw5 (fun _ h => h)).src
  rw [← hm1] at hs1
  rw [← hll] at hs2
  obtain ⟨ra, rof, hcR, hBR, -⟩ := (g6.keep hk5 (fun _ h => h)).drop sn (by rw [← g7]; omega)
  rw [h3, List.drop_left, ← h3, ← g7, ← g3] at hcR
  rw [h3, List.drop_left, ← h3] at hBR
  obtain ⟨rc, hrc⟩ : ∃ rc, rc = xc - sn := ⟨_, rfl⟩
  rw [← hrc] at hcR hBR
  have hrd2 := readL_back g2.sec [] (m2 : Int) (by rw [← hll2]; exact Int.le_refl _) (by omega) ra rc xg rof b2 d2 e2 f2 w5 (hF.keep hkw5) (by rw [List.append_nil]; exact hBR) hBo (by have : (0, A, nx, sn).2.2.1.length = nx.length := rfl; omega)
  rw [List.append_nil, ← g3, show nx.length = m5 from hm2'.symm] at hrd2
  have HRd2 := hid hrd2
  have H5 := hid (show Keep noBlock w w5 ∧ Bytes w5 ya yc yg yo ny ∧ yn = ny.length ∧ Bytes w5 a2 cap2 gb2 off2 B from ⟨hkw5, g5.keep hk5 (fun _ h => h), g4, hBB.keep hkw5 (fun _ h => h)⟩)
  clear hk5 hm1 hm2' hBl hBo g1 g2 g3 g4 g5 g6 g7 h1 h2 h3 h4 h5 h6 h7 hF hBA hBB hll hll2 hm3 hm4 hkw5 hBR hrc hrd2 hrun3 hrun4 HRd hmin hmin2 hcA hcB
  generalize strOf A = SA at *
  rw [show (((0 : Nat) : Int)) = (0 : Int) from rfl]
  go_wp2_with fail
  refine HRd2.out.mono ?_
  rintro e w6 ⟨hk6, b3, m6, d3, e3, f3, b4, m7, d4, e4, f4, rfl, hm6, hm7, hBm, hBe⟩
  obtain ⟨r1, r2, r3, r4⟩ := H5.out
  have hs3 := run_convB hBm.src
  have hs4 := run_convB (r4.keep hk6 (fun _ h => h)).src
  have hs5 := run_convB hBe.src
  have hs6 := run_convB (r2.keep hk6 (fun _ h => h)).src
  rw [← hm6] at hs3
  rw [← HM.out.2.2.2.2.1] at hs4
  rw [← hm7] at hs5
  rw [← r3] at hs6
  have HK6 := hid (r1.trans' hk6)
  have HWk := hid (HW.out _ HK6.out)
  clear hk6 hm6 hm7 hBm hBe r1 r2 r3 r4 hcR
  generalize strOf B = SB at *
  generalize strOf ny = SY at *
  rw [show (((0 : Nat) : Int)) = (0 : Int) from rfl]
  go_wp2_with fail
  refine HWk.out.mono ?_
  rintro e w7 ⟨rfl, hk7⟩
  have HK7 := hid (HK6.out.trans' hk7)
  clear hk7
  go_wp2_with fail
  go_ret
  exact ⟨rfl, HK7.out⟩
end
end Go.Proofs.YtcoahkmiebeeeaaGreatDoor
