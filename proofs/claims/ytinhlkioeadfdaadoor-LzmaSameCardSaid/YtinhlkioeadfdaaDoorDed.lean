/-
  The program's decoder: bits that are as likely, the end, of none.
-/
import Derived.Test.YtinhlkioeadfdaaDoorDec
namespace Go.Proofs.YtinhlkioeadfdaaDoor
open Go.RowKit Go.Shelf
set_option linter.unusedVariables false

theorem u32_twice (x : Nat) (h : x * 2 + 1 < 4294967296) : bits .or .u32 ((x * 2 : Nat) : Int) 1 = ((x * 2 + 1 : Nat) : Int) := by
  have := u32_or_nat (x * 2) 1 (by omega) (by omega)
  rw [nat_join 1 (x * 2) 1 (by omega) (by omega)] at this
  exact this
theorem dirD_step (j : Nat) (D : Dec) (X : Nat) : dirD (j + 1) D X = dirD j (halfD (ordD D)) (X * 2 + if topD (ordD D) then 1 else 0) := rfl

set_option maxHeartbeats 4000000 in
theorem direct_any (b g : Nat) (n : Int) (d : Dec) (w : World) (h : IsD w b g d) : Calls Tryd.prog 71 #[.pointer (some ⟨b, 0, none⟩), .int .i64 n] w fun e w' => e = .returned (.int .u32 (((dirD (bitsN n) d 0).2 : Nat) : Int)) ∧ IsD w' b g (dirD (bitsN n) d 0).1 ∧ Keep (fun k => k = b) w w' := by
  have hm := bitsN_le n
  have HB := hid (directBits_any n)
  generalize bitsN n = m at *
  have hmx : Tryd.prog.follows .mixedOrders = true := by kernel_rfl
  have HS := (show Hid (∃ D X, X < 2 ^ 0 ∧ IsD w b g D ∧ dirD (m - 0) D X = dirD m d 0 ∧ Keep (fun k => k = b) w w ∧ X = 0) from ⟨d, 0, by decide, h, rfl, Keep.refl _ _, rfl⟩)
  clear h
  generalize hR : dirD m d 0 = R at *
  clear hR
  go_enter Tryd.func71, Tryd.ntmps71
  go_wp2_with (go_at_call 78; refine (HB.out _).mono ?_; rintro e w' ⟨rfl, hw⟩; obtain rfl := hw.symm)
  go_loopw [10, 5] (fun i x wr => ∃ (k : Nat) (X : Nat), k ≤ m ∧ i = .int .i64 k ∧ x = .int .u32 (X : Int) ∧ Hid (∃ D, X < 2 ^ k ∧ IsD wr b g D ∧ dirD (m - k) D X = R ∧ Keep (fun k => k = b) w wr)) (fun i _ _ => m - (intOf i).toNat)
  case atStart =>
    obtain ⟨D, X, a1, a2, a3, a4, rfl⟩ := HS.out
    exact ⟨0, 0, Nat.zero_le _, rfl, rfl, ⟨D, a1, a2, a3, a4⟩⟩
  case round =>
    obtain ⟨k, X, hk, rfl, rfl, HR⟩ := hrel
    by_cases hlt : k < m
    · obtain ⟨D, a1, a2, a3, a4⟩ := HR.out
      obtain ⟨j, hj⟩ : ∃ j, m - k = j + 1 := ⟨m - k - 1, by omega⟩
      have hj2 : m - (k + 1) = j := by omega
      rw [hj, dirD_step] at a3
      have hX31 : X < 2147483648 := Nat.lt_of_lt_of_le a1 (Nat.pow_le_pow_right (by omega) (by omega : k ≤ 31))
      have HO := hid (order_any b g D _ a2)
      have hod := ordD_ok a2.ok
      have HK := hid a4
      have HX := hid a1
      have HA := hid a3
      have HJ := hid hj2
      clear HR a1 a2 a3 a4 hj hj2
      generalize ordD D = O at *
      go_wp2_with fail
      refine HO.out.mono ?_
      rintro e w1 ⟨rfl, h1, k1⟩
      obtain ⟨c0, c1, -, hf, -⟩ := h1.cells
      have f0 := hf 0
      have f1 := hf 1
      have hs := hod.span
      have hc := hod.code
      obtain ⟨s, hs2⟩ : ∃ s, s = O.span / 2 := ⟨_, rfl⟩
      have hsI : (O.span : Int) / 2 = (s : Int) := by omega
      obtain ⟨Y, hY⟩ : ∃ Y, Y = X * 2 := ⟨_, rfl⟩
      have hYI : (X : Int) * 2 = (Y : Int) := by omega
      have hor := u32_twice X (by omega)
      rw [← hY] at hor
      obtain ⟨Y1, hY1⟩ : ∃ Y1, Y1 = Y + 1 := ⟨_, rfl⟩
      rw [← hY1] at hor
      have h2 := h1.set_span s (by omega)
      have k2 := (HK.out.trans' k1).setCell (p := ⟨b, 0, none⟩) (fun _ => rfl) (.int .u32 (s : Int))
      have ht : topD O = decide (s ≤ O.code) := by unfold topD; rw [hs2]
      have HD := (show Hid ((topD O = true → IsD ((w1.setCell ⟨b, 0, none⟩ (.int .u32 (s : Int))).setCell ⟨b, 1, none⟩ (.int .u32 ((O.code - s : Nat) : Int))) b g (halfD O)) ∧ (topD O = false → IsD (w1.setCell ⟨b, 0, none⟩ (.int .u32 (s : Int))) b g (halfD O)) ∧ Keep (fun k => k = b) w (w1.setCell ⟨b, 0, none⟩ (.int .u32 (s : Int)))) from by
        refine ⟨fun e => ?_, fun e => ?_, k2⟩
        · have := h2.set_code (O.code - s) (by omega)
          unfold halfD
          rw [if_pos e, ← hs2]
          exact this
        · unfold halfD
          rw [if_neg (by rw [e]; decide), ← hs2]
          exact h2)
      clear h1 k1 hf h2 k2 hod HO HK
      generalize halfD O = E at *
      generalize topD O = z at *
      have HY := (show Hid (Y < 2 ^ (k + 1) ∧ Y1 < 2 ^ (k + 1) ∧ Y = X * 2 ∧ Y1 = Y + 1) from ⟨by have := HX.out; rw [Nat.pow_succ]; omega, by have := HX.out; rw [Nat.pow_succ]; omega, hY, hY1⟩)
      clear hs2 hY hY1 HX
      generalize O.span = S at *
      generalize O.code = C at *
      by_cases hle : s ≤ C
      · have hz : z = true := by rw [ht]; simpa using hle
        subst hz
        have hleI : (s : Int) ≤ (C : Int) := by omega
        have e1 : ((C : Int) - (s : Int)) % 4294967296 = ((C - s : Nat) : Int) := by omega
        have HE := hid (HD.out.1 rfl)
        have HE2 := hid HD.out.2.2
        clear ht HD hs hc hle
        generalize C - s = C' at *
        go_wp2_with fail
        go_quiet (fail)
        go_wp2_with fail
        go_region
        go_wp2_with fail
        go_roundw
        case rel =>
          refine ⟨k + 1, Y1, by omega, by go_num, rfl, (show ∃ D, _ from ⟨E, HY.out.2.1, HE.out.same rfl rfl rfl rfl, ?_, (HE2.out.setCell (p := ⟨b, 1, none⟩) (fun _ => rfl) _).same rfl rfl rfl rfl⟩)⟩
          rw [HJ.out, HY.out.2.2.2, HY.out.2.2.1]
          exact HA.out
        case measure => simp [intOf]; omega
      · have hz : z = false := by rw [ht]; simpa using hle
        subst hz
        have hleI : ¬ (s : Int) ≤ (C : Int) := by omega
        have HE := hid (HD.out.2.1 rfl)
        have HE2 := hid HD.out.2.2
        clear ht HD hs hc hle
        go_wp2_with fail
        go_quiet (fail)
        go_wp2_with fail
        go_roundw
        case rel =>
          refine ⟨k + 1, Y, by omega, by go_num, rfl, (show ∃ D, _ from ⟨E, HY.out.1, HE.out.same rfl rfl rfl rfl, ?_, HE2.out.same rfl rfl rfl rfl⟩)⟩
          rw [HJ.out, HY.out.2.2.1]
          exact HA.out
        case measure => simp [intOf]; omega
    · obtain ⟨D, a1, a2, a3, a4⟩ := HR.out
      have hk2 : k = m := by omega
      rw [hk2, Nat.sub_self] at a3
      have a3' : R = (D, X) := a3.symm
      have HF := (show Hid (IsD _ b g D ∧ Keep (fun k => k = b) w _ ∧ R = (D, X)) from ⟨a2, a4, a3'⟩)
      clear HR a1 a2 a3 a4 a3' hk2
      go_wp2_with fail
      go_ret
      rw [HF.out.2.2]
      exact ⟨rfl, HF.out.1, HF.out.2.1⟩

end Go.Proofs.YtinhlkioeadfdaaDoor
