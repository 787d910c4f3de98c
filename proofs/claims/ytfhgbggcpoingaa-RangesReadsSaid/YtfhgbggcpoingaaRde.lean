/-
  The document's decoder: a bit, bits that are as likely, the end, a new one.
-/
import Derived.Test.YtfhgbggcpoingaaRdd
namespace Go.Proofs.Ytfhgbggcpoingaa
open Go.RowKit Go.Shelf
set_option linter.unusedVariables false

set_option maxHeartbeats 2000000 in
theorem bitQ_any (b g pb i p : Nat) (cs : Array Value) (d : Dec) (w : World) (h : IsQ w b g d) (hp : w.heap[pb]? = some (.cells cs 40 (0, 0))) (hi : cs[i]? = some (.int .u16 (p : Int))) (hp16 : p < 65536) (hgp : g ≠ pb) :
    Calls Try.prog 15 #[.pointer (some ⟨b, 0, none⟩), .pointer (some ⟨pb, i, none⟩)] w fun e w' => e = .returned (.int .i64 (bitI (oneD (ordD d) (fairN p)))) ∧ IsQ w' b g (narD (ordD d) (fairN p)) ∧
      w'.heap[pb]? = some (.cells (cs.setIfInBounds i (.int .u16 ((learnN (fairN p) (oneD (ordD d) (fairN p)) : Nat) : Int))) 40 (0, 0)) ∧ Keep (fun k => k = b ∨ k = pb) w w' := by
  have hne : pb ≠ b := by
    obtain ⟨a, cap, off, ho, hB⟩ := h.obj
    exact ne_of_type hp ho (by decide)
  obtain ⟨hf1, hf2⟩ := fairN_bd p
  have HO := hid (orderQ_any b g d w h)
  have HX := (show Hid (w.heap[pb]? = some (.cells cs 40 (0, 0)) ∧ cs[i]? = some (.int .u16 (p : Int))) from ⟨hp, hi⟩)
  have HC := hid (fair_any p hp16)
  have hod := ordD_ok h.ok
  have cp0 : w.cell? ⟨pb, i, none⟩ = some (.int .u16 (p : Int)) := (cell_of hp i).trans hi
  clear h hp hi
  generalize ordD d = O at *
  generalize fairN p = c at *
  have hok := narD_ok hod hf2
  have hs := hod.span
  have hc := hod.code
  have hbd := boundN_le (s := O.span) hf2
  have HL := hid (learnt_any c)
  have hz : oneD O c = !decide (O.code < boundN O.span c) := rfl
  have HN := (show Hid ((oneD O c = true → narD O c = { O with span := O.span - boundN O.span c, code := O.code - boundN O.span c }) ∧ (oneD O c = false → narD O c = { O with span := boundN O.span c })) from ⟨fun e => by unfold narD; rw [if_pos e], fun e => by unfold narD; rw [if_neg (by rw [e]; decide)]⟩)
  obtain ⟨q, hq⟩ : ∃ q, q = O.span / 2048 := ⟨_, rfl⟩
  have hq1 : (O.span : Int) / 2048 = (q : Int) := by omega
  have hq2 : (q : Int) * (c : Int) = ((boundN O.span c : Nat) : Int) := by rw [hq]; exact bound_i
  have hq3 : ((boundN O.span c : Nat) : Int) % 4294967296 = ((boundN O.span c : Nat) : Int) := by omega
  have hq4 : (q : Int) % 4294967296 = (q : Int) := by omega
  have hcI : (c : Int) ≤ 2017 := by omega
  clear hq
  generalize narD O c = D at *
  generalize oneD O c = z at *
  go_enter Try.func15, Try.ntmps15
  go_wp2_with (go_at_call 34; refine (HC.out _).mono ?_; rintro e w' ⟨rfl, hw⟩; obtain rfl := hw.symm)
  refine HO.out.mono ?_
  rintro e w1 ⟨rfl, h1, k1⟩
  have hp1 := k1.obj HX.out.1 (fun e => hne e)
  have cp : w1.cell? ⟨pb, i, none⟩ = some (.int .u16 (p : Int)) := (cell_of hp1 i).trans HX.out.2
  have fp := frozen_of hp1 i
  obtain ⟨c1, c2, -, hf, -⟩ := h1.cells
  have f1 := hf 1
  have f2 := hf 2
  have HZ := (show Hid ((z = true → IsQ ((w1.setCell ⟨b, 1, none⟩ (.int .u32 ((O.span - boundN O.span c : Nat) : Int))).setCell ⟨b, 2, none⟩ (.int .u32 ((O.code - boundN O.span c : Nat) : Int))) b g D) ∧ (z = false → IsQ (w1.setCell ⟨b, 1, none⟩ (.int .u32 ((boundN O.span c : Nat) : Int))) b g D)) from by
    refine ⟨fun hz => ?_, fun hz => ?_⟩
    · rw [HN.out.1 hz]
      exact (h1.set_span (O.span - boundN O.span c) (by omega)).set_code (O.code - boundN O.span c) (by omega)
    · rw [HN.out.2 hz]
      exact h1.set_span (boundN O.span c) (by omega))
  have H1 := (show Hid (w1.heap[pb]? = some (.cells cs 40 (0, 0)) ∧ Keep (fun k => k = b) w w1) from ⟨hp1, k1⟩)
  clear h1 hp1 k1 hf hok HN hod HO HX cp0
  generalize boundN O.span c = B at *
  generalize O.span = S at *
  generalize O.code = C at *
  by_cases hlt : C < B
  · have hz0 : z = false := by rw [hz]; simpa using hlt
    subst hz0
    have hltI : (C : Int) < (B : Int) := by omega
    have HI := hid (HZ.out.2 rfl)
    clear hz HZ hlt hs hc hbd
    go_wp2_with (first | (go_at_call 35; refine (HL.out 0 false hf1 hf2 rfl _).mono ?_; rintro e w' ⟨rfl, rfl⟩))
    go_ret
    refine ⟨rfl, HI.out.keep ((Keep.refl (fun k => k = pb) _).setCell (p := ⟨pb, i, none⟩) (fun _ => rfl) _) (fun e => hne e.symm) hgp, set_obj (set_far H1.out.1 hne _ _) i _, ?_⟩
    exact (((H1.out.2.mono (fun _ _ e => .inl e)).setCell (p := ⟨b, 1, none⟩) (fun _ => .inl rfl) _).setCell (p := ⟨pb, i, none⟩) (fun _ => .inr rfl) _)
  · have hz0 : z = true := by rw [hz]; simpa using hlt
    subst hz0
    have hltI : ¬ (C : Int) < (B : Int) := by omega
    have e1 : ((C : Int) - (B : Int)) % 4294967296 = ((C - B : Nat) : Int) := by omega
    have e2 : ((S : Int) - (B : Int)) % 4294967296 = ((S - B : Nat) : Int) := by omega
    clear hs hc hbd
    have HI := hid (HZ.out.1 rfl)
    clear hz HZ hlt
    generalize C - B = C' at *
    generalize S - B = S' at *
    go_wp2_with (first | (go_at_call 35; refine (HL.out 1 true hf1 hf2 rfl _).mono ?_; rintro e w' ⟨rfl, rfl⟩))
    go_ret
    refine ⟨rfl, HI.out.keep ((Keep.refl (fun k => k = pb) _).setCell (p := ⟨pb, i, none⟩) (fun _ => rfl) _) (fun e => hne e.symm) hgp, set_obj (set_far (set_far H1.out.1 hne _ _) hne _ _) i _, ?_⟩
    exact ((((H1.out.2.mono (fun _ _ e => .inl e)).setCell (p := ⟨b, 1, none⟩) (fun _ => .inl rfl) _).setCell (p := ⟨b, 2, none⟩) (fun _ => .inl rfl) _).setCell (p := ⟨pb, i, none⟩) (fun _ => .inr rfl) _)

section
attribute [local go_sem] maxSem_eq minSem_eq
set_option maxHeartbeats 4000000 in
theorem directQ_any (b g : Nat) (n : Int) (d : Dec) (w : World) (h : IsQ w b g d) : Calls Try.prog 13 #[.pointer (some ⟨b, 0, none⟩), .int .i64 n] w fun e w' => e = .returned (.int .u32 (((dirD (bitsN n) d 0).2 : Nat) : Int)) ∧ IsQ w' b g (dirD (bitsN n) d 0).1 ∧ Keep (fun k => k = b) w w' := by
  have hm := bitsN_le n
  obtain ⟨x, hx⟩ : ∃ x : Int, x = min n 32 := ⟨_, rfl⟩
  have hmin := minSem_run .i64 #[3, 3] 3 n 32 x hx
  have hmax := maxSem_run .i64 #[3, 3] 3 0 x ((bitsN n : Nat) : Int) (by rw [bitsN_int, hx]; omega)
  clear hx
  generalize bitsN n = m at *
  have hmx : Try.prog.follows .mixedOrders = true := by kernel_rfl
  have HS := (show Hid (∃ D X, X < 2 ^ 0 ∧ IsQ w b g D ∧ dirD (m - 0) D X = dirD m d 0 ∧ Keep (fun k => k = b) w w ∧ X = 0) from ⟨d, 0, by decide, h, rfl, Keep.refl _ _, rfl⟩)
  clear h
  generalize hR : dirD m d 0 = R at *
  clear hR
  go_enter Try.func13, Try.ntmps13
  go_wp2_with fail
  go_loopw [6, 5] (fun i x wr => ∃ (k : Nat) (X : Nat), k ≤ m ∧ i = .int .i64 k ∧ x = .int .u32 (X : Int) ∧ Hid (∃ D, X < 2 ^ k ∧ IsQ wr b g D ∧ dirD (m - k) D X = R ∧ Keep (fun k => k = b) w wr)) (fun i _ _ => m - (intOf i).toNat)
  case atStart =>
    obtain ⟨D, X, a1, a2, a3, a4, rfl⟩ := HS.out
    exact ⟨0, 0, Nat.zero_le _, rfl, rfl, ⟨D, a1, a2, a3, a4⟩⟩
  case round =>
    obtain ⟨k, X, hk, rfl, rfl, HR⟩ := hrel
    by_cases hlt : k < m
    · obtain ⟨D, a1, a2, a3, a4⟩ := HR.out
      obtain ⟨j, hj⟩ : ∃ j, m - k = j + 1 := ⟨m - k - 1, by omega⟩
      have hj2 : m - (k + 1) = j := by omega
      rw [hj, dirD_step] at a3
      have hX31 : X < 2147483648 := Nat.lt_of_lt_of_le a1 (Nat.pow_le_pow_right (by omega) (by omega : k ≤ 31))
      have HO := hid (orderQ_any b g D _ a2)
      have hod := ordD_ok a2.ok
      have HK := hid a4
      have HX := hid a1
      have HA := hid a3
      have HJ := hid hj2
      clear HR a1 a2 a3 a4 hj hj2
      generalize ordD D = O at *
      go_wp2_with fail
      refine HO.out.mono ?_
      rintro e w1 ⟨rfl, h1, k1⟩
      obtain ⟨c1, c2, -, hf, -⟩ := h1.cells
      have f1 := hf 1
      have f2 := hf 2
      have hs := hod.span
      have hc := hod.code
      obtain ⟨s, hs2⟩ : ∃ s, s = O.span / 2 := ⟨_, rfl⟩
      have hsI : (O.span : Int) / 2 = (s : Int) := by omega
      obtain ⟨Y, hY⟩ : ∃ Y, Y = X * 2 := ⟨_, rfl⟩
      have hYI : (X : Int) * 2 = (Y : Int) := by omega
      have hor := u32_twice X (by omega)
      rw [← hY] at hor
      obtain ⟨Y1, hY1⟩ : ∃ Y1, Y1 = Y + 1 := ⟨_, rfl⟩
      rw [← hY1] at hor
      have h2 := h1.set_span s (by omega)
      have k2 := (HK.out.trans' k1).setCell (p := ⟨b, 1, none⟩) (fun _ => rfl) (.int .u32 (s : Int))
      have ht : topD O = decide (s ≤ O.code) := by unfold topD; rw [hs2]
      have HD := (show Hid ((topD O = true → IsQ ((w1.setCell ⟨b, 1, none⟩ (.int .u32 (s : Int))).setCell ⟨b, 2, none⟩ (.int .u32 ((O.code - s : Nat) : Int))) b g (halfD O)) ∧ (topD O = false → IsQ (w1.setCell ⟨b, 1, none⟩ (.int .u32 (s : Int))) b g (halfD O)) ∧ Keep (fun k => k = b) w (w1.setCell ⟨b, 1, none⟩ (.int .u32 (s : Int)))) from by
        refine ⟨fun e => ?_, fun e => ?_, k2⟩
        · have := h2.set_code (O.code - s) (by omega)
          unfold halfD
          rw [if_pos e, ← hs2]
          exact this
        · unfold halfD
          rw [if_neg (by rw [e]; decide), ← hs2]
          exact h2)
      clear h1 k1 hf h2 k2 hod HO HK
      generalize halfD O = E at *
      generalize topD O = z at *
      have HY := (show Hid (Y < 2 ^ (k + 1) ∧ Y1 < 2 ^ (k + 1) ∧ Y = X * 2 ∧ Y1 = Y + 1) from ⟨by have := HX.out; rw [Nat.pow_succ]; omega, by have := HX.out; rw [Nat.pow_succ]; omega, hY, hY1⟩)
      clear hs2 hY hY1 HX
      generalize O.span = S at *
      generalize O.code = C at *
      by_cases hle : s ≤ C
      · have hz : z = true := by rw [ht]; simpa using hle
        subst hz
        have hleI : (s : Int) ≤ (C : Int) := by omega
        have e1 : ((C : Int) - (s : Int)) % 4294967296 = ((C - s : Nat) : Int) := by omega
        have HE := hid (HD.out.1 rfl)
        have HE2 := hid HD.out.2.2
        clear ht HD hs hc hle
        generalize C - s = C' at *
        go_wp2_with fail
        go_quiet (fail)
        go_wp2_with fail
        go_region
        go_wp2_with fail
        go_roundw
        case rel =>
          refine ⟨k + 1, Y1, by omega, by go_num, rfl, (show ∃ D, _ from ⟨E, HY.out.2.1, HE.out.same rfl rfl rfl rfl, ?_, (HE2.out.setCell (p := ⟨b, 2, none⟩) (fun _ => rfl) _).same rfl rfl rfl rfl⟩)⟩
          rw [HJ.out, HY.out.2.2.2, HY.out.2.2.1]
          exact HA.out
        case measure => simp [intOf]; omega
      · have hz : z = false := by rw [ht]; simpa using hle
        subst hz
        have hleI : ¬ (s : Int) ≤ (C : Int) := by omega
        have HE := hid (HD.out.2.1 rfl)
        have HE2 := hid HD.out.2.2
        clear ht HD hs hc hle
        go_wp2_with fail
        go_quiet (fail)
        go_wp2_with fail
        go_roundw
        case rel =>
          refine ⟨k + 1, Y, by omega, by go_num, rfl, (show ∃ D, _ from ⟨E, HY.out.1, HE.out.same rfl rfl rfl rfl, ?_, HE2.out.same rfl rfl rfl rfl⟩)⟩
          rw [HJ.out, HY.out.2.2.1]
          exact HA.out
        case measure => simp [intOf]; omega
    · obtain ⟨D, a1, a2, a3, a4⟩ := HR.out
      have hk2 : k = m := by omega
      rw [hk2, Nat.sub_self] at a3
      have a3' : R = (D, X) := a3.symm
      have HF := (show Hid (IsQ _ b g D ∧ Keep (fun k => k = b) w _ ∧ R = (D, X)) from ⟨a2, a4, a3'⟩)
      clear HR a1 a2 a3 a4 a3' hk2
      go_wp2_with fail
      go_ret
      rw [HF.out.2.2]
      exact ⟨rfl, HF.out.1, HF.out.2.1⟩

end

set_option maxHeartbeats 1000000 in
theorem endQ_any (b g : Nat) (d : Dec) (w : World) (h : IsQ w b g d) : Calls Try.prog 17 #[.pointer (some ⟨b, 0, none⟩)] w fun e w' => e = .returned (.tuple #[.int .i64 ((endL (ordD d) : Nat) : Int), .int .i64 ((endE (ordD d) : Nat) : Int)]) ∧ IsQ w' b g (ordD d) ∧ Keep (fun k => k = b) w w' := by
  have HO := hid (orderQ_any b g d w h)
  have hod := ordD_ok h.ok
  clear h
  generalize ordD d = O at *
  have hc := hod.code
  go_enter Try.func17, Try.ntmps17
  go_wp2_with fail
  refine HO.out.mono ?_
  rintro e w1 ⟨rfl, h1, k1⟩
  obtain ⟨c0, c1, c3, hf, a, cap, c2⟩ := h1.cells
  have HF := (show Hid (IsQ w1 b g O ∧ Keep (fun k => k = b) w w1) from ⟨h1, k1⟩)
  clear h1 k1 hf HO
  have HE : Hid (endE O = if O.want then 10 else if O.code = 0 then 0 else 11) := (show endE O = _ from rfl)
  have HL : Hid (endL O = if endE O = 0 then O.rest.length else 0) := (show endL O = _ from rfl)
  cases hw : O.want with
  | true =>
    rw [hw] at c3
    rw [hw] at HE
    clear hw
    go_wp2_with fail
    refine bodyPost_ret (v := .tuple #[.int .i64 0, .int .i64 10]) (by simp [results, Try.results17]) rfl ?_
    rw [HL.out, HE.out]
    exact ⟨rfl, HF.out⟩
  | false =>
    rw [hw] at c3
    rw [hw] at HE
    clear hw
    by_cases hz : O.code = 0
    · rw [hz] at c1 HE
      rw [show (((0 : Nat) : Int)) = (0 : Int) from rfl] at c1
      go_wp2_with fail
      refine bodyPost_ret (v := .tuple #[.int .i64 (O.rest.length : Int), .int .i64 0]) (by simp [results, Try.results17]) rfl ?_
      rw [HL.out, HE.out]
      exact ⟨rfl, HF.out⟩
    · have hzI : (((O.code : Nat) : Int) != 0) = true := by simp; omega
      have HZ := hid hz
      clear hz
      go_wp2_with fail
      refine bodyPost_ret (v := .tuple #[.int .i64 0, .int .i64 11]) (by simp [results, Try.results17]) rfl ?_
      rw [HL.out, HE.out, if_neg HZ.out]
      exact ⟨rfl, HF.out⟩

end Go.Proofs.Ytfhgbggcpoingaa
