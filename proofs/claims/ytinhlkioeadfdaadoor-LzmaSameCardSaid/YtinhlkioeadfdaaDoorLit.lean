/-
  A byte that is read: by which tree, and by it.
-/
import Derived.Test.YtinhlkioeadfdaaDoorRdr
namespace Go.Proofs.YtinhlkioeadfdaaDoor
open Go.RowKit Go.Shelf
set_option linter.unusedVariables false

theorem or_i64_16 : ∀ p q : Fin 16, bits .or .i64 ((p.val : Nat) : Int) ((q.val : Nat) : Int) = (((p.val ||| q.val : Nat)) : Int) := by decide
theorem atW_lt {win : List Nat} (h : ∀ j : Nat, win[j]?.getD 0 < 256) (back : Nat) : atW win back < 256 := by
  unfold atW
  split
  · exact h _
  · omega
/-- The byte that stands so far back, or 0. -/
theorem at_any (wb lb sz : Nat) (rv : Value) (win : List Nat) (back : Nat) (hb : 1 ≤ back) (w : World) (h : IsW w wb lb sz rv win) :
    Calls Tryd.prog 54 #[.pointer (some ⟨wb, 0, none⟩), .int .i64 (back : Int)] w fun e w' => e = .returned (.tuple #[.int .u8 ((atW win back : Nat) : Int), .bool (decide (back ≤ win.length))]) ∧ ∃ n, w' = w.drewN n := by
  by_cases hle : back ≤ win.length
  · refine (at_ok wb lb sz rv win back w h hb hle).mono ?_
    rintro e w' ⟨rfl, hn⟩
    unfold atW
    rw [if_pos hle, decide_eq_true hle]
    exact ⟨rfl, hn⟩
  · obtain ⟨R, o, hr, rfl⟩ := h
    obtain ⟨a, cap, g, rfl, -, -⟩ := hr.form
    rw [unr_length] at hle
    refine (at_none wb a R.length cap (back : Int) w (cell_of hr.obj 2) (by omega)).mono ?_
    rintro e w' ⟨rfl, rfl⟩
    unfold atW
    rw [unr_length, if_neg hle, decide_eq_false hle]
    exact ⟨rfl, 0, rfl⟩
theorem litT_parts (K : Ck) (s : Se) (win told : List Nat) (hw : ∀ j : Nat, win[j]?.getD 0 < 256) (h : s.lc + s.lp ≤ 4) :
    lowN K told s.lp < 16 ∧ lowN K told s.lp * 2 ^ s.lc < 16 ∧ lastN1 K win told < 256 ∧ lastN1 K win told / 2 ^ (8 - s.lc) < 2 ^ s.lc ∧ litT K s win told < 16 ∧
    bits .or .i64 ((lowN K told s.lp * 2 ^ s.lc : Nat) : Int) ((lastN1 K win told / 2 ^ (8 - s.lc) : Nat) : Int) = ((litT K s win told : Nat) : Int) := by
  have h1 : lowN K told s.lp < 2 ^ s.lp := Nat.mod_lt _ (Nat.two_pow_pos _)
  have h2 : lastN1 K win told < 256 := by
    unfold lastN1
    split
    · exact atW_lt hw 1
    · omega
  have h3 : lastN1 K win told / 2 ^ (8 - s.lc) < 2 ^ s.lc := by
    rw [Nat.div_lt_iff_lt_mul (Nat.two_pow_pos _), ← Nat.pow_add, show s.lc + (8 - s.lc) = 8 from by omega]
    exact h2
  have h4 : (lowN K told s.lp + 1) * 2 ^ s.lc ≤ 2 ^ s.lp * 2 ^ s.lc := Nat.mul_le_mul_right _ h1
  rw [← Nat.pow_add] at h4
  have h5 : 2 ^ (s.lp + s.lc) ≤ 2 ^ 4 := Nat.pow_le_pow_right (by decide) (by omega)
  rw [Nat.add_mul, Nat.one_mul] at h4
  have h6 : 2 ^ s.lp ≤ 2 ^ 4 := Nat.pow_le_pow_right (by decide) (by omega)
  have h7 : litT K s win told = lowN K told s.lp * 2 ^ s.lc + lastN1 K win told / 2 ^ (8 - s.lc) := rfl
  rw [h7]
  have h8 := nat_join s.lc (lowN K told s.lp * 2 ^ s.lc) (lastN1 K win told / 2 ^ (8 - s.lc)) (Nat.mul_mod_left _ _) h3
  generalize lastN1 K win told / 2 ^ (8 - s.lc) = Q at *
  generalize hP : lowN K told s.lp * 2 ^ s.lc = P at *
  generalize 2 ^ s.lc = c at *
  generalize 2 ^ (s.lp + s.lc) = cc at *
  generalize 2 ^ s.lp = cp at *
  have h9 := or_i64_16 ⟨P, by omega⟩ ⟨Q, by omega⟩
  dsimp only at h9
  rw [h8] at h9
  exact ⟨by omega, by omega, h2, h3, by omega, h9⟩

theorem drewN_two (w : World) (a b : Nat) : (w.drewN a).drewN b = w.drewN (a + b) := by
  induction b with
  | zero => rfl
  | succ b ih => rw [← World.drew_drewN, ih, World.drew_drewN, Nat.add_assoc]
/-- The last step: the tree's number. -/
theorem tree_form (K : Ck) (s : Se) (win told : List Nat) (hw : ∀ j : Nat, win[j]?.getD 0 < 256) (h : s.lc + s.lp ≤ 4) :
    ∃ A P L e Q T : Nat, A = lowN K told s.lp ∧ L = lastN1 K win told ∧ T = litT K s win told ∧ A < 16 ∧ L < 256 ∧ T < 16 ∧ P < 16 ∧ (8 : Int) - (s.lc : Int) = (e : Int) ∧ e ≤ 8 ∧ (A : Int) * 2 ^ s.lc = (P : Int) ∧ (L : Int) / 2 ^ e = (Q : Int) ∧ bits .or .i64 (P : Int) (Q : Int) = (T : Int) := by
  obtain ⟨p1, p2, p3, p4, p5, p6⟩ := litT_parts K s win told hw h
  refine ⟨_, lowN K told s.lp * 2 ^ s.lc, _, 8 - s.lc, lastN1 K win told / 2 ^ (8 - s.lc), _, rfl, rfl, rfl, p1, p3, p5, p2, by omega, by omega, by simp, by simp, p6⟩

set_option maxHeartbeats 2000000 in
theorem literalTree_any (G : Rg) (rv tv : Value) (s : Se) (x : Cx) (win told : List Nat) (w : World) (h : Rd G w rv tv s x win told) :
    Calls Tryd.prog 51 #[.pointer (some ⟨G.rb, 0, none⟩)] w fun e w' => e = .returned (.int .i64 ((litT G.K s win told : Nat) : Int)) ∧ ∃ n, w' = w.drewN n := by
  obtain ⟨A, P, L, ex, Q, T, hA, hL, hT, a1, a2, a3, a4, a5, a6, a7, a8, a9⟩ := tree_form G.K s win told h.wi.lt h.pr.st.ok.lc
  have hlc := h.pr.st.ok.lc
  have hlc4 : s.lc ≤ 4 := by omega
  have hlp4 : s.lp ≤ 4 := by omega
  have HA := hid (at_any G.wb G.lb G.K.size rv win 1 (by omega) w h.wi)
  have HLo := hid (fun k n : Nat => lowest_any G rv tv s x win told s.lp (by omega) ((w.drewN k).drewN n) ((h.kept (keep_drewN w k)).kept (keep_drewN _ n)))
  have HLp := hid (fun n : Nat => lowest_any G rv tv s x win told s.lp (by omega) (w.drewN n) (h.kept (keep_drewN w n)))
  rw [← hA] at HLo HLp
  rw [← hT]
  have HL := hid hL
  obtain ⟨c0, -, c2, c3, -, c5, cf⟩ := h.cells
  obtain ⟨f0, f1, -, -, -⟩ := h.pr.st.first
  obtain ⟨ta, tc, rfl⟩ := h.tform
  have hl0 : told.length = 0 ∨ 0 < told.length := by omega
  clear h hA hT hL hlc
  unfold lastN1 at HL
  generalize s.lc = lc at *
  generalize s.lp = lp at *
  generalize atW win 1 = L1 at *
  generalize told.length = n at *
  generalize G.K.ahead = ah at *
  cases ah with
  | true =>
    obtain rfl : L = L1 := by simpa using HL.out
    go_enter Tryd.func51, Tryd.ntmps51
    go_wp2_with fail
    refine HA.out.mono ?_
    rintro e w1 ⟨rfl, k, hk⟩
    have HL2 := HLo.out k
    rw [← hk] at HL2
    have HL2 := hid HL2
    have d0 : w1.cell? ⟨G.rb, 0, none⟩ = some (.pointer (some ⟨G.sb, 0, none⟩)) := by rw [hk]; exact (World.cell?_drewN w k _).trans c0
    have d1 : w1.cell? ⟨G.sb, 0, none⟩ = some (.int .i64 (lc : Int)) := by rw [hk]; exact (World.cell?_drewN w k _).trans f0
    have d2 : w1.cell? ⟨G.sb, 1, none⟩ = some (.int .i64 (lp : Int)) := by rw [hk]; exact (World.cell?_drewN w k _).trans f1
    have HK := hid hk
    clear HA hk
    go_wp2_with fail
    go_quiet (first | (go_at_call 33; refine Calls.quiet_of (HL2.out _)))
    go_wp2_with fail
    go_ret
    exact ⟨rfl, _, by first | rfl | (rw [HK.out]; exact drewN_two _ _ _)⟩
  | false =>
    rcases hl0 with rfl | hl0
    · obtain rfl : L = 0 := by simpa using HL.out
      rw [show (((0 : Nat) : Int)) = (0 : Int) from rfl] at a8
      go_enter Tryd.func51, Tryd.ntmps51
      go_wp2_with fail
      go_quiet (first | (go_at_call 33; refine Calls.quiet_of (HLp.out _)))
      go_wp2_with fail
      go_ret
      exact ⟨rfl, _, by first | rfl | (rw [HK.out]; exact drewN_two _ _ _)⟩
    · obtain rfl : L = L1 := by simpa [hl0] using HL.out
      have hlI : (0 : Int) < (n : Int) := by omega
      go_enter Tryd.func51, Tryd.ntmps51
      go_wp2_with fail
      refine HA.out.mono ?_
      rintro e w1 ⟨rfl, k, hk⟩
      have HL2 := HLo.out k
      rw [← hk] at HL2
      have HL2 := hid HL2
      have d0 : w1.cell? ⟨G.rb, 0, none⟩ = some (.pointer (some ⟨G.sb, 0, none⟩)) := by rw [hk]; exact (World.cell?_drewN w k _).trans c0
      have d1 : w1.cell? ⟨G.sb, 0, none⟩ = some (.int .i64 (lc : Int)) := by rw [hk]; exact (World.cell?_drewN w k _).trans f0
      have d2 : w1.cell? ⟨G.sb, 1, none⟩ = some (.int .i64 (lp : Int)) := by rw [hk]; exact (World.cell?_drewN w k _).trans f1
      have HK := hid hk
      clear HA hk
      go_wp2_with fail
      go_quiet (first | (go_at_call 33; refine Calls.quiet_of (HL2.out _)))
      go_wp2_with fail
      go_ret
      exact ⟨rfl, _, by first | rfl | (rw [HK.out]; exact drewN_two _ _ _)⟩

theorem litM_lo (K : Ck) (s : Se) (win told : List Nat) (x : Cx) (h : s.ph < 7) : litM K s win told x = readM (440 + litT K s win told * 768) 8 x := by unfold litM; rw [if_pos h]
theorem litM_hi (K : Ck) (s : Se) (win told : List Nat) (x : Cx) (h : ¬ s.ph < 7) : litM K s win told x = ((likeM (440 + litT K s win told * 768) (atW win (s.r0 + 1)) 8 1 x).1 - 256, (likeM (440 + litT K s win told * 768) (atW win (s.r0 + 1)) 8 1 x).2) := by unfold litM; rw [if_neg h]; rfl

set_option maxHeartbeats 2000000 in
theorem literal_any (G : Rg) (rv tv : Value) (s : Se) (x : Cx) (win told : List Nat) (w : World) (h : Rd G w rv tv s x win told) :
    Calls Tryd.prog 36 #[.pointer (some ⟨G.rb, 0, none⟩)] w fun e w' => e = .returned (.int .u8 (((litM G.K s win told x).1 : Nat) : Int)) ∧ (litM G.K s win told x).1 < 256 ∧ Rd G w' rv tv s (litM G.K s win told x).2 win told := by
  obtain ⟨-, -, -, -, p5, -⟩ := litT_parts G.K s win told h.wi.lt h.pr.st.ok.lc
  have HT := hid (fun n : Nat => literalTree_any G rv tv s x win told (w.drewN n) (h.kept (keep_drewN w n)))
  have HH := hid h
  obtain ⟨c0, -⟩ := h.cells
  have HM := (show Hid ((s.ph < 7 → litM G.K s win told x = readM (440 + litT G.K s win told * 768) 8 x) ∧ (¬ s.ph < 7 → litM G.K s win told x = ((likeM (440 + litT G.K s win told * 768) (atW win (s.r0 + 1)) 8 1 x).1 - 256, (likeM (440 + litT G.K s win told * 768) (atW win (s.r0 + 1)) 8 1 x).2))) from ⟨litM_lo _ _ _ _ _, litM_hi _ _ _ _ _⟩)
  have hph := h.pr.st.ok.ph
  clear h
  generalize litT G.K s win told = T at *
  generalize litM G.K s win told x = R at *
  have hTI : (T : Int) < 16 := by omega
  have hc := hid (copied_any s.ph hph)
  obtain ⟨-, -, -, f3, -⟩ := HH.out.pr.st.first
  obtain ⟨-, c1, c2, -⟩ := HH.out.cells
  obtain ⟨p, hp⟩ : ∃ p, p = s.ph := ⟨_, rfl⟩
  rw [← hp] at f3 hc HM hph
  clear hp
  by_cases h7 : p < 7
  · rw [decide_eq_true h7] at hc
    have HM1 := hid (HM.out.1 h7)
    have HR := hid (fun n : Nat => read8 G.sb G.db G.gb (440 + T * 768) 768 768 s x (w.drewN n) (HH.out.kept (keep_drewN w n)).pr (by omega) (by omega) (by omega) (by decide))
    clear HM h7
    go_enter Tryd.func36, Tryd.ntmps36
    go_wp2_with fail
    go_quiet (first | (go_at_call 51; refine Calls.quiet_of (HT.out _)))
    go_wp2_with (go_at_call 52; refine (hc.out _).mono ?_; rintro e w' ⟨rfl, rfl⟩)
    refine (HR.out _).mono ?_
    rintro e w2 ⟨rfl, g1, g2, g3⟩
    have HF := (show Hid (Rd G w2 rv tv s R.2 win told) from by rw [HM1.out]; exact (HH.out.kept (keep_drewN w _)).turn g2 g3)
    rw [← HM1.out] at g1 ⊢
    have hr : ((R.1 : Nat) : Int) % 256 = ((R.1 : Nat) : Int) := by omega
    clear g2 g3 HM1 HR HT
    generalize hz : R.1 = z at *
    have HZ := hid hz
    clear hz
    go_wp2_with fail
    go_ret
    rw [HZ.out]
    exact ⟨rfl, g1, HF.out⟩
  · rw [decide_eq_false h7] at hc
    have HM1 := hid (HM.out.2 h7)
    have hat := atW_lt HH.out.wi.lt (s.r0 + 1)
    clear HM h7
    go_enter Tryd.func36, Tryd.ntmps36
    go_wp2_with fail
    go_quiet (first | (go_at_call 51; refine Calls.quiet_of (HT.out _)))
    go_wp2_with (go_at_call 52; refine (hc.out _).mono ?_; rintro e w' ⟨rfl, rfl⟩)
    have HW := HH.out.kept (keep_drewN w nq)
    generalize w.drewN nq = W at *
    have HB := hid (fun k : Nat => backQ_any G rv tv s x win told (W.drewN k) (HW.kept (keep_drewN _ k)))
    have HA := hid (fun k : Nat => at_any G.wb G.lb G.K.size rv win (s.r0 + 1) (by omega) (W.drewN k) (HW.kept (keep_drewN _ k)).wi)
    have HR := hid (fun k : Nat => like_any G.sb G.db G.gb (440 + T * 768) 768 768 (atW win (s.r0 + 1)) s x (W.drewN k) (HW.kept (keep_drewN _ k)).pr hat (by omega) (by omega) (by omega) (by decide))
    obtain ⟨-, d1, d2, -⟩ := HW.cells
    have HW := hid HW
    clear c0 c1 c2 f3
    generalize atW win (s.r0 + 1) = other at *
    generalize s.r0 + 1 = bk at *
    go_quiet (first | (go_at_call 40; refine Calls.quiet_of (HB.out _)) | (go_at_call 54; refine Calls.quiet_of (HA.out _)))
    go_wp2_with fail
    refine (HR.out _).mono ?_
    rintro e w2 ⟨rfl, g1, g2, g3, g4⟩
    have HF := (show Hid (R.1 < 256 ∧ Rd G w2 rv tv s R.2 win told) from by rw [HM1.out]; exact ⟨by show _ - 256 < 256; omega, (HW.out.kept (keep_drewN _ _)).turn g3 g4⟩)
    have HM2 := congrArg (fun x => x.1) HM1.out
    dsimp only at HM2
    rw [← HM2]
    clear g1 g2 g3 g4 HM1 HM2 HR HT HB HA
    generalize hz : R.1 = z at *
    have HZ := hid hz
    clear hz
    go_wp2_with fail
    go_ret
    rw [HZ.out]
    exact ⟨rfl, HF.out⟩

end Go.Proofs.YtinhlkioeadfdaaDoor
