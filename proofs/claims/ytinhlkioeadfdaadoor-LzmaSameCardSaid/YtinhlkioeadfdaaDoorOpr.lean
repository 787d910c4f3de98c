/-
  An operation.
-/
import Derived.Test.YtinhlkioeadfdaaDoorRep
namespace Go.Proofs.YtinhlkioeadfdaaDoor
open Go.RowKit Go.Shelf
set_option linter.unusedVariables false

/-- How an operation ends. -/
def OpP (G : Rg) (w' : World) (rv tv : Value) (win told : List Nat) (r : (Se × Option (Bool × Nat)) × Cx) (e : Ending) : Prop := match r.1.2 with
  | none => e = .panicked malP ∧ Rd G w' rv tv r.1.1 r.2 win told
  | some (true, v) => e = .returned (.int .i64 0) ∧ ∃ rv' tv', Rd G w' rv' tv' r.1.1 r.2 (lastN G.K.size (win ++ [v])) (told ++ [v])
  | some (false, l) => e = .returned (.int .i64 (l : Int)) ∧ 1 ≤ l ∧ l ≤ 273 ∧ Rd G w' rv tv r.1.1 r.2 win told
theorem opM_lit (K : Ck) (s : Se) (win told : List Nat) (x : Cx) (h : bN (bitX x (8 + s.ph * 16 + lowN K told s.pb)) = 0) :
    opM K s win told x = (({ s with ph := behB s.ph }, some (true, (litM K s win told (stepX x (8 + s.ph * 16 + lowN K told s.pb))).1)), (litM K s win told (stepX x (8 + s.ph * 16 + lowN K told s.pb))).2) :=
  bnd_z _ _ _ _ h
theorem opM_match (K : Ck) (s : Se) (win told : List Nat) (x : Cx) (h : ¬ bN (bitX x (8 + s.ph * 16 + lowN K told s.pb)) = 0) (h2 : bN (bitX (stepX x (8 + s.ph * 16 + lowN K told s.pb)) (392 + s.ph)) = 0) :
    opM K s win told x = (((matchM s (lowN K told s.pb) (stepX (stepX x (8 + s.ph * 16 + lowN K told s.pb)) (392 + s.ph))).1.1, if (matchM s (lowN K told s.pb) (stepX (stepX x (8 + s.ph * 16 + lowN K told s.pb)) (392 + s.ph))).1.1.r0 = endMark then none else some (false, (matchM s (lowN K told s.pb) (stepX (stepX x (8 + s.ph * 16 + lowN K told s.pb)) (392 + s.ph))).1.2)), (matchM s (lowN K told s.pb) (stepX (stepX x (8 + s.ph * 16 + lowN K told s.pb)) (392 + s.ph))).2) :=
  (bnd_nz _ _ _ _ h).trans (bnd_z _ _ _ _ h2)
theorem opM_rep (K : Ck) (s : Se) (win told : List Nat) (x : Cx) (h : ¬ bN (bitX x (8 + s.ph * 16 + lowN K told s.pb)) = 0) (h2 : ¬ bN (bitX (stepX x (8 + s.ph * 16 + lowN K told s.pb)) (392 + s.ph)) = 0) :
    opM K s win told x = (((repM s (lowN K told s.pb) (stepX (stepX x (8 + s.ph * 16 + lowN K told s.pb)) (392 + s.ph))).1.1, some (false, (repM s (lowN K told s.pb) (stepX (stepX x (8 + s.ph * 16 + lowN K told s.pb)) (392 + s.ph))).1.2)), (repM s (lowN K told s.pb) (stepX (stepX x (8 + s.ph * 16 + lowN K told s.pb)) (392 + s.ph))).2) :=
  (bnd_nz _ _ _ _ h).trans (bnd_nz _ _ _ _ h2)

set_option maxRecDepth 20000 in
set_option maxHeartbeats 4000000 in
theorem operation_any (G : Rg) (rv tv : Value) (s : Se) (x : Cx) (win told : List Nat) (w : World) (h : Rd G w rv tv s x win told) (hl : told.length < G.K.n) :
    Calls Tryd.prog 22 #[.pointer (some ⟨G.rb, 0, none⟩)] w fun e w' => OpP G w' rv tv win told (opM G.K s win told x) e := by
  have hph := h.pr.st.ok.ph
  have hpb := h.pr.st.ok.pb
  have hphI : (s.ph : Int) < 12 := by omega
  have R0 := hid (opM_lit G.K s win told x)
  have R1 := hid (opM_match G.K s win told x)
  have R2 := hid (opM_rep G.K s win told x)
  have hlow : lowN G.K told s.pb < 16 := by
    have h1 : lowN G.K told s.pb < 2 ^ s.pb := Nat.mod_lt _ (Nat.two_pow_pos _)
    have h2 : 2 ^ s.pb ≤ 2 ^ 4 := Nat.pow_le_pow_right (by decide) hpb
    omega
  obtain ⟨c0, -⟩ := h.cells
  obtain ⟨-, -, c2, -⟩ := h.pr.st.first
  have HL := hid (lowest_any G rv tv s x win told s.pb hpb w h)
  have HF := hid h
  generalize opM G.K s win told x = RR at *
  generalize lowN G.K told s.pb = p at *
  have hpI : (p : Int) < 16 := by omega
  clear h
  go_enter Tryd.func22, Tryd.ntmps22
  go_wp2_with fail
  refine HL.out.mono ?_
  rintro e w1 ⟨rfl, n, hn⟩
  have h1 := HF.out.kept (keep_drewN w n)
  rw [← hn] at h1
  clear HF hn HL c0 c2
  obtain ⟨W2, hW2⟩ : ∃ W2, W2 = w1.drew := ⟨_, rfl⟩
  have h2 := h1.kept ((Keep.refl noBlock w1).drew)
  rw [← hW2] at h2
  obtain ⟨c0, c1, -⟩ := h2.cells
  obtain ⟨-, -, -, c3, -⟩ := h2.pr.st.first
  have HB := hid (h2.bit (8 + s.ph * 16 + p) (by omega) (by omega))
  generalize hx1 : stepX x (8 + s.ph * 16 + p) = x1 at *
  clear hx1
  generalize bitX x (8 + s.ph * 16 + p) = t1 at *
  clear h1 h2
  go_wp2_with fail
  refine region_tail 21 mx (by kernel_rfl) ?_
  rw [← hW2]
  clear hW2
  simp only [List.take_succ_cons, List.take_zero, List.drop_succ_cons, List.drop_zero]
  repeat (quiet_step (fail))
  refine wpQuiet_nil ?_
  go_wp2_with fail
  refine HB.out.mono ?_
  rintro e w3 ⟨rfl, h3⟩
  clear HB c0 c1 c3
  cases t1 with
  | false =>
    replace R0 := hid (R0.out (by decide))
    rw [show bN false = 0 from rfl, show (((0 : Nat) : Int)) = (0 : Int) from rfl]
    clear R1 R2
    have HLi := hid (literal_any G rv tv s x1 win told w3 h3)
    generalize litM G.K s win told x1 = LI at *
    obtain ⟨v, x2⟩ := LI
    dsimp only at HLi R0
    go_wp2_with fail
    refine HLi.out.mono ?_
    rintro e w4 ⟨rfl, v1, h4⟩
    have HP := hid (putByte_any G rv tv s x2 win told v v1 w4 h4 hl)
    clear h3 h4 HLi
    go_wp2_with fail
    refine HP.out.mono ?_
    rintro e w5 ⟨rfl, h5⟩
    have H5 := hid h5
    clear h5 HP
    go_wp2_with fail
    go_ret
    rw [R0.out]
    exact ⟨rfl, H5.out⟩
  | true =>
    replace R1 := hid (R1.out (by decide))
    replace R2 := hid (R2.out (by decide))
    rw [show bN true = 1 from rfl, show (((1 : Nat) : Int)) = (1 : Int) from rfl]
    clear R0
    obtain ⟨W4, hW4⟩ : ∃ W4, W4 = w3.drew := ⟨_, rfl⟩
    have h4 := h3.kept ((Keep.refl noBlock w3).drew)
    rw [← hW4] at h4
    obtain ⟨c0, c1, -⟩ := h4.cells
    obtain ⟨-, -, -, c3, -⟩ := h4.pr.st.first
    have HB := hid (h4.bit (392 + s.ph) (by omega) (by omega))
    generalize hx2 : stepX x1 (392 + s.ph) = x2 at *
    clear hx2
    generalize bitX x1 (392 + s.ph) = t2 at *
    clear h3 h4
    go_wp2_with fail
    refine region_tail 19 mx (by kernel_rfl) ?_
    rw [← hW4]
    clear hW4
    simp only [List.take_succ_cons, List.take_zero, List.drop_succ_cons, List.drop_zero]
    repeat (quiet_step (fail))
    refine wpQuiet_nil ?_
    go_wp2_with fail
    refine HB.out.mono ?_
    rintro e w5 ⟨rfl, h5⟩
    clear HB c0 c1 c3
    cases t2 with
    | false =>
      replace R1 := hid (R1.out (by decide))
      rw [show bN false = 0 from rfl, show (((0 : Nat) : Int)) = (0 : Int) from rfl]
      have HM := hid (match_any G rv tv s x2 win told p hlow w5 h5)
      clear R2 h5
      generalize matchM s p x2 = MM at *
      obtain ⟨⟨s', l⟩, x3⟩ := MM
      dsimp only at HM R1
      go_wp2_with fail
      refine HM.out.mono ?_
      rintro e w6 ⟨he, l1, l2, h6⟩
      have H6 := hid h6
      clear h6 HM
      unfold matchE at he
      dsimp only at he
      by_cases hd : s'.r0 = endMark
      · rw [if_pos hd] at he
        rw [if_pos hd] at R1
        subst he
        refine ⟨rfl, ?_⟩
        rw [R1.out]
        exact ⟨rfl, H6.out⟩
      · rw [if_neg hd] at he
        rw [if_neg hd] at R1
        subst he
        clear hd
        go_wp2_with fail
        go_ret
        rw [R1.out]
        exact ⟨rfl, by omega, l2, H6.out⟩
    | true =>
      replace R2 := hid (R2.out (by decide))
      rw [show bN true = 1 from rfl, show (((1 : Nat) : Int)) = (1 : Int) from rfl]
      have HM := hid (repeat_any G rv tv s x2 win told p hlow w5 h5)
      clear R1 h5
      generalize repM s p x2 = MM at *
      obtain ⟨⟨s', l⟩, x3⟩ := MM
      dsimp only at HM R2
      go_wp2_with fail
      refine HM.out.mono ?_
      rintro e w6 ⟨rfl, l1, l2, h6⟩
      have H6 := hid h6
      clear h6 HM
      go_wp2_with fail
      go_ret
      rw [R2.out]
      exact ⟨rfl, l1, l2, H6.out⟩

end Go.Proofs.YtinhlkioeadfdaaDoor
