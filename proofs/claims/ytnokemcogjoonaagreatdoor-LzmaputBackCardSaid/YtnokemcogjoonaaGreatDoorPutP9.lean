/-
  A byte that is read: by which tree, and by it.
  A region that draws its order: a head that only reads, and a tail that is forced.
  A writer as it lies: its state, encoder, text and place; small calls of it.
  A byte that is written: by which tree, and by it.
  A byte is written.
  A byte that was read is told, and put into the window.
-/
import Derived.StillTailTactics
import Derived.Test.YtnokemcogjoonaaGreatDoorPutP3
import Derived.Test.YtnokemcogjoonaaGreatDoorPutP7
import Derived.Test.YtnokemcogjoonaaGreatDoorPutP8
namespace Go.Proofs.YtnokemcogjoonaaGreatDoor
open Go.RowKit Go.Shelf
set_option linter.unusedVariables false

theorem or_i64_16 : ∀ p q : Fin 16, bits .or .i64 ((p.val : Nat) : Int) ((q.val : Nat) : Int) = (((p.val ||| q.val : Nat)) : Int) := by decide
theorem atW_lt {win : List Nat} (h : ∀ j : Nat, win[j]?.getD 0 < 256) (back : Nat) : atW win back < 256 := by
  unfold atW
  split
  · exact h _
  · omega
/-- The byte that stands so far back, or 0. -/
theorem at_any (wb lb sz : Nat) (rv : Value) (win : List Nat) (back : Nat) (hb : 1 ≤ back) (w : World) (h : IsW w wb lb sz rv win) :
    Calls Tryz.prog 116 #[.pointer (some ⟨wb, 0, none⟩), .int .i64 (back : Int)] w fun e w' => e = .returned (.tuple #[.int .u8 ((atW win back : Nat) : Int), .bool (decide (back ≤ win.length))]) ∧ ∃ n, w' = w.drewN n := by
  by_cases hle : back ≤ win.length
  · refine (at_ok wb lb sz rv win back w h hb hle).mono ?_
    rintro e w' ⟨rfl, hn⟩
    unfold atW
    rw [if_pos hle, decide_eq_true hle]
    exact ⟨rfl, hn⟩
  · obtain ⟨R, o, hr, rfl⟩ := h
    obtain ⟨a, cap, g, rfl, -, -⟩ := hr.form
    rw [unr_length] at hle
    refine (at_none wb a R.length cap (back : Int) w (cell_of hr.obj 2) (by omega)).mono ?_
    rintro e w' ⟨rfl, rfl⟩
    unfold atW
    rw [unr_length, if_neg hle, decide_eq_false hle]
    exact ⟨rfl, 0, rfl⟩
theorem litT_parts (K : Ck) (s : Se) (win told : List Nat) (hw : ∀ j : Nat, win[j]?.getD 0 < 256) (h : s.lc + s.lp ≤ 4) :
    lowN K told s.lp < 16 ∧ lowN K told s.lp * 2 ^ s.lc < 16 ∧ lastN1 K win told < 256 ∧ lastN1 K win told / 2 ^ (8 - s.lc) < 2 ^ s.lc ∧ litT K s win told < 16 ∧
    bits .or .i64 ((lowN K told s.lp * 2 ^ s.lc : Nat) : Int) ((lastN1 K win told / 2 ^ (8 - s.lc) : Nat) : Int) = ((litT K s win told : Nat) : Int) := by
  have h1 : lowN K told s.lp < 2 ^ s.lp := Nat.mod_lt _ (Nat.two_pow_pos _)
  have h2 : lastN1 K win told < 256 := by
    unfold lastN1
    split
    · exact atW_lt hw 1
    · omega
  have h3 : lastN1 K win told / 2 ^ (8 - s.lc) < 2 ^ s.lc := by
    rw [Nat.div_lt_iff_lt_mul (Nat.two_pow_pos _), ← Nat.pow_add, show s.lc + (8 - s.lc) = 8 from by omega]
    exact h2
  have h4 : (lowN K told s.lp + 1) * 2 ^ s.lc ≤ 2 ^ s.lp * 2 ^ s.lc := Nat.mul_le_mul_right _ h1
  rw [← Nat.pow_add] at h4
  have h5 : 2 ^ (s.lp + s.lc) ≤ 2 ^ 4 := Nat.pow_le_pow_right (by decide) (by omega)
  rw [Nat.add_mul, Nat.one_mul] at h4
  have h6 : 2 ^ s.lp ≤ 2 ^ 4 := Nat.pow_le_pow_right (by decide) (by omega)
  have h7 : litT K s win told = lowN K told s.lp * 2 ^ s.lc + lastN1 K win told / 2 ^ (8 - s.lc) := rfl
  rw [h7]
  have h8 := nat_join s.lc (lowN K told s.lp * 2 ^ s.lc) (lastN1 K win told / 2 ^ (8 - s.lc)) (Nat.mul_mod_left _ _) h3
  generalize lastN1 K win told / 2 ^ (8 - s.lc) = Q at *
  generalize hP : lowN K told s.lp * 2 ^ s.lc = P at *
  generalize 2 ^ s.lc = c at *
  generalize 2 ^ (s.lp + s.lc) = cc at *
  generalize 2 ^ s.lp = cp at *
  have h9 := or_i64_16 ⟨P, by omega⟩ ⟨Q, by omega⟩
  dsimp only at h9
  rw [h8] at h9
  exact ⟨by omega, by omega, h2, h3, by omega, h9⟩

theorem drewN_two (w : World) (a b : Nat) : (w.drewN a).drewN b = w.drewN (a + b) := by
  induction b with
  | zero => rfl
  | succ b ih => rw [← World.drew_drewN, ih, World.drew_drewN, Nat.add_assoc]
/-- The last step: the tree's number. -/
theorem tree_form (K : Ck) (s : Se) (win told : List Nat) (hw : ∀ j : Nat, win[j]?.getD 0 < 256) (h : s.lc + s.lp ≤ 4) :
    ∃ A P L e Q T : Nat, A = lowN K told s.lp ∧ L = lastN1 K win told ∧ T = litT K s win told ∧ A < 16 ∧ L < 256 ∧ T < 16 ∧ P < 16 ∧ (8 : Int) - (s.lc : Int) = (e : Int) ∧ e ≤ 8 ∧ (A : Int) * 2 ^ s.lc = (P : Int) ∧ (L : Int) / 2 ^ e = (Q : Int) ∧ bits .or .i64 (P : Int) (Q : Int) = (T : Int) := by
  obtain ⟨p1, p2, p3, p4, p5, p6⟩ := litT_parts K s win told hw h
  refine ⟨_, lowN K told s.lp * 2 ^ s.lc, _, 8 - s.lc, lastN1 K win told / 2 ^ (8 - s.lc), _, rfl, rfl, rfl, p1, p3, p5, p2, by omega, by omega, by simp, by simp, p6⟩

set_option maxHeartbeats 2000000 in
theorem literalTree_any (G : Rg) (rv tv : Value) (s : Se) (x : Cx) (win told : List Nat) (w : World) (h : Rd G w rv tv s x win told) :
    Calls Tryz.prog 113 #[.pointer (some ⟨G.rb, 0, none⟩)] w fun e w' => e = .returned (.int .i64 ((litT G.K s win told : Nat) : Int)) ∧ ∃ n, w' = w.drewN n := by
  obtain ⟨A, P, L, ex, Q, T, hA, hL, hT, a1, a2, a3, a4, a5, a6, a7, a8, a9⟩ := tree_form G.K s win told h.wi.lt h.pr.st.ok.lc
  have hlc := h.pr.st.ok.lc
  have hlc4 : s.lc ≤ 4 := by omega
  have hlp4 : s.lp ≤ 4 := by omega
  have HA := hid (at_any G.wb G.lb G.K.size rv win 1 (by omega) w h.wi)
  have HLo := hid (fun k n : Nat => lowest_any G rv tv s x win told s.lp (by omega) ((w.drewN k).drewN n) ((h.kept (keep_drewN w k)).kept (keep_drewN _ n)))
  have HLp := hid (fun n : Nat => lowest_any G rv tv s x win told s.lp (by omega) (w.drewN n) (h.kept (keep_drewN w n)))
  rw [← hA] at HLo HLp
  rw [← hT]
  have HL := hid hL
  obtain ⟨c0, -, c2, c3, -, c5, cf⟩ := h.cells
  obtain ⟨f0, f1, -, -, -⟩ := h.pr.st.first
  obtain ⟨ta, tc, rfl⟩ := h.tform
  have hl0 : told.length = 0 ∨ 0 < told.length := by omega
  clear h hA hT hL hlc
  unfold lastN1 at HL
  generalize s.lc = lc at *
  generalize s.lp = lp at *
  generalize atW win 1 = L1 at *
  generalize told.length = n at *
  generalize G.K.ahead = ah at *
  cases ah with
  | true =>
    obtain rfl : L = L1 := by simpa using HL.out
    go_enter Tryz.func113, Tryz.ntmps113
    go_wp2_with fail
    refine HA.out.mono ?_
    rintro e w1 ⟨rfl, k, hk⟩
    have HL2 := HLo.out k
    rw [← hk] at HL2
    have HL2 := hid HL2
    have d0 : w1.cell? ⟨G.rb, 0, none⟩ = some (.pointer (some ⟨G.sb, 0, none⟩)) := by rw [hk]; exact (World.cell?_drewN w k _).trans c0
    have d1 : w1.cell? ⟨G.sb, 0, none⟩ = some (.int .i64 (lc : Int)) := by rw [hk]; exact (World.cell?_drewN w k _).trans f0
    have d2 : w1.cell? ⟨G.sb, 1, none⟩ = some (.int .i64 (lp : Int)) := by rw [hk]; exact (World.cell?_drewN w k _).trans f1
    have HK := hid hk
    clear HA hk
    go_wp2_with fail
    go_quiet (first | (go_at_call 77; refine Calls.quiet_of (HL2.out _)))
    go_wp2_with fail
    go_ret
    exact ⟨rfl, _, by first | rfl | (rw [HK.out]; exact drewN_two _ _ _)⟩
  | false =>
    rcases hl0 with rfl | hl0
    · obtain rfl : L = 0 := by simpa using HL.out
      rw [show (((0 : Nat) : Int)) = (0 : Int) from rfl] at a8
      go_enter Tryz.func113, Tryz.ntmps113
      go_wp2_with fail
      go_quiet (first | (go_at_call 77; refine Calls.quiet_of (HLp.out _)))
      go_wp2_with fail
      go_ret
      exact ⟨rfl, _, by first | rfl | (rw [HK.out]; exact drewN_two _ _ _)⟩
    · obtain rfl : L = L1 := by simpa [hl0] using HL.out
      have hlI : (0 : Int) < (n : Int) := by omega
      go_enter Tryz.func113, Tryz.ntmps113
      go_wp2_with fail
      refine HA.out.mono ?_
      rintro e w1 ⟨rfl, k, hk⟩
      have HL2 := HLo.out k
      rw [← hk] at HL2
      have HL2 := hid HL2
      have d0 : w1.cell? ⟨G.rb, 0, none⟩ = some (.pointer (some ⟨G.sb, 0, none⟩)) := by rw [hk]; exact (World.cell?_drewN w k _).trans c0
      have d1 : w1.cell? ⟨G.sb, 0, none⟩ = some (.int .i64 (lc : Int)) := by rw [hk]; exact (World.cell?_drewN w k _).trans f0
      have d2 : w1.cell? ⟨G.sb, 1, none⟩ = some (.int .i64 (lp : Int)) := by rw [hk]; exact (World.cell?_drewN w k _).trans f1
      have HK := hid hk
      clear HA hk
      go_wp2_with fail
      go_quiet (first | (go_at_call 77; refine Calls.quiet_of (HL2.out _)))
      go_wp2_with fail
      go_ret
      exact ⟨rfl, _, by first | rfl | (rw [HK.out]; exact drewN_two _ _ _)⟩

theorem litM_lo (K : Ck) (s : Se) (win told : List Nat) (x : Cx) (h : s.ph < 7) : litM K s win told x = readM (440 + litT K s win told * 768) 8 x := by unfold litM; rw [if_pos h]
theorem litM_hi (K : Ck) (s : Se) (win told : List Nat) (x : Cx) (h : ¬ s.ph < 7) : litM K s win told x = ((likeM (440 + litT K s win told * 768) (atW win (s.r0 + 1)) 8 1 x).1 - 256, (likeM (440 + litT K s win told * 768) (atW win (s.r0 + 1)) 8 1 x).2) := by unfold litM; rw [if_neg h]; rfl

set_option maxHeartbeats 2000000 in
theorem literal_any (G : Rg) (rv tv : Value) (s : Se) (x : Cx) (win told : List Nat) (w : World) (h : Rd G w rv tv s x win told) :
    Calls Tryz.prog 80 #[.pointer (some ⟨G.rb, 0, none⟩)] w fun e w' => e = .returned (.int .u8 (((litM G.K s win told x).1 : Nat) : Int)) ∧ (litM G.K s win told x).1 < 256 ∧ Rd G w' rv tv s (litM G.K s win told x).2 win told := by
  obtain ⟨-, -, -, -, p5, -⟩ := litT_parts G.K s win told h.wi.lt h.pr.st.ok.lc
  have HT := hid (fun n : Nat => literalTree_any G rv tv s x win told (w.drewN n) (h.kept (keep_drewN w n)))
  have HH := hid h
  obtain ⟨c0, -⟩ := h.cells
  have HM := (show Hid ((s.ph < 7 → litM G.K s win told x = readM (440 + litT G.K s win told * 768) 8 x) ∧ (¬ s.ph < 7 → litM G.K s win told x = ((likeM (440 + litT G.K s win told * 768) (atW win (s.r0 + 1)) 8 1 x).1 - 256, (likeM (440 + litT G.K s win told * 768) (atW win (s.r0 + 1)) 8 1 x).2))) from ⟨litM_lo _ _ _ _ _, litM_hi _ _ _ _ _⟩)
  have hph := h.pr.st.ok.ph
  clear h
  generalize litT G.K s win told = T at *
  generalize litM G.K s win told x = R at *
  have hTI : (T : Int) < 16 := by omega
  have hc := hid (copied_any s.ph hph)
  obtain ⟨-, -, -, f3, -⟩ := HH.out.pr.st.first
  obtain ⟨-, c1, c2, -⟩ := HH.out.cells
  obtain ⟨p, hp⟩ : ∃ p, p = s.ph := ⟨_, rfl⟩
  rw [← hp] at f3 hc HM hph
  clear hp
  by_cases h7 : p < 7
  · rw [decide_eq_true h7] at hc
    have HM1 := hid (HM.out.1 h7)
    have HR := hid (fun n : Nat => read8 G.sb G.db G.gb (440 + T * 768) 768 768 s x (w.drewN n) (HH.out.kept (keep_drewN w n)).pr (by omega) (by omega) (by omega) (by decide))
    clear HM h7
    go_enter Tryz.func80, Tryz.ntmps80
    go_wp2_with fail
    go_quiet (first | (go_at_call 113; refine Calls.quiet_of (HT.out _)))
    go_wp2_with (go_at_call 114; refine (hc.out _).mono ?_; rintro e w' ⟨rfl, rfl⟩)
    refine (HR.out _).mono ?_
    rintro e w2 ⟨rfl, g1, g2, g3⟩
    have HF := (show Hid (Rd G w2 rv tv s R.2 win told) from by rw [HM1.out]; exact (HH.out.kept (keep_drewN w _)).turn g2 g3)
    rw [← HM1.out] at g1 ⊢
    have hr : ((R.1 : Nat) : Int) % 256 = ((R.1 : Nat) : Int) := by omega
    clear g2 g3 HM1 HR HT
    generalize hz : R.1 = z at *
    have HZ := hid hz
    clear hz
    go_wp2_with fail
    go_ret
    rw [HZ.out]
    exact ⟨rfl, g1, HF.out⟩
  · rw [decide_eq_false h7] at hc
    have HM1 := hid (HM.out.2 h7)
    have hat := atW_lt HH.out.wi.lt (s.r0 + 1)
    clear HM h7
    go_enter Tryz.func80, Tryz.ntmps80
    go_wp2_with fail
    go_quiet (first | (go_at_call 113; refine Calls.quiet_of (HT.out _)))
    go_wp2_with (go_at_call 114; refine (hc.out _).mono ?_; rintro e w' ⟨rfl, rfl⟩)
    have HW := HH.out.kept (keep_drewN w nq)
    generalize w.drewN nq = W at *
    have HB := hid (fun k : Nat => backQ_any G rv tv s x win told (W.drewN k) (HW.kept (keep_drewN _ k)))
    have HA := hid (fun k : Nat => at_any G.wb G.lb G.K.size rv win (s.r0 + 1) (by omega) (W.drewN k) (HW.kept (keep_drewN _ k)).wi)
    have HR := hid (fun k : Nat => like_any G.sb G.db G.gb (440 + T * 768) 768 768 (atW win (s.r0 + 1)) s x (W.drewN k) (HW.kept (keep_drewN _ k)).pr hat (by omega) (by omega) (by omega) (by decide))
    obtain ⟨-, d1, d2, -⟩ := HW.cells
    have HW := hid HW
    clear c0 c1 c2 f3
    generalize atW win (s.r0 + 1) = other at *
    generalize s.r0 + 1 = bk at *
    go_quiet (first | (go_at_call 84; refine Calls.quiet_of (HB.out _)) | (go_at_call 116; refine Calls.quiet_of (HA.out _)))
    go_wp2_with fail
    refine (HR.out _).mono ?_
    rintro e w2 ⟨rfl, g1, g2, g3, g4⟩
    have HF := (show Hid (R.1 < 256 ∧ Rd G w2 rv tv s R.2 win told) from by rw [HM1.out]; exact ⟨by show _ - 256 < 256; omega, (HW.out.kept (keep_drewN _ _)).turn g3 g4⟩)
    have HM2 := congrArg (fun x => x.1) HM1.out
    dsimp only at HM2
    rw [← HM2]
    clear g1 g2 g3 g4 HM1 HM2 HR HT HB HA
    generalize hz : R.1 = z at *
    have HZ := hid hz
    clear hz
    go_wp2_with fail
    go_ret
    rw [HZ.out]
    exact ⟨rfl, HF.out⟩

end Go.Proofs.YtnokemcogjoonaaGreatDoor

namespace Go.Proofs.YtnokemcogjoonaaGreatDoor
open Go.RowKit Go.Shelf
set_option linter.unusedVariables false

theorem still_of_quiet {P : Program} {ops : Array Oper} {w : World} {Q : Go.Act → Prop} : ∀ (l : List Oper) (a : Go.Act), wpQuiet P ops (fun w' => w' = w) Q l a → wpStill P ops w Q l a
  | [], _, h => h
  | o :: l, a, h => by
    unfold wpQuiet at h
    unfold wpStill
    split
    · rename_i hw
      rw [if_pos hw] at h
      obtain ⟨v, h1, h2⟩ := h
      have h3 := h1 w rfl
      have h4 := still_of_quiet l _ h2
      unfold Oper.quietAt at h3
      unfold Oper.still
      generalize (execOp a.eval o).run P w = r at *
      cases r with
      | ok n w' =>
        cases n <;> simp only [Oper.quietUpon] at h3 <;> simp only [Oper.stillUpon]
        case value u =>
          obtain ⟨e1, e2⟩ := h3
          rw [e1, e2]
          exact ⟨rfl, h4⟩
        case skip =>
          obtain ⟨e1, e2⟩ := h3
          rw [e2] at h4
          exact ⟨e1, h4⟩
        case enter f args =>
          exact ⟨h3.1, v, h3.2, h4⟩
      | halt x w' => simp only [Oper.quietUpon] at h3
    · rename_i hw
      rw [if_neg hw] at h
      exact still_of_quiet l _ h
theorem region_tail {P : Program} {id : Nat} {Q : Exit → Go.Act → World → Prop} {a : Go.Act} {w : World} {l : List Oper} (n : Nat) (hm : P.follows .mixedOrders = true) (hB : Region.lexTailB .any l.toArray n = true)
    (h : wpQuiet P l.toArray (fun w' => w' = w.drew) (fun a' => wpList P l.toArray Q (l.drop n) a' w.drew) (l.take n) a) : (Code.region id l.toArray true).wp P Q a w :=
  wp_region_still_tail n hm hB (still_of_quiet _ _ h)
theorem mx : Tryz.prog.follows .mixedOrders = true := by kernel_rfl

end Go.Proofs.YtnokemcogjoonaaGreatDoor

namespace Go.Proofs.YtnokemcogjoonaaGreatDoor.Pt
open Go.RowKit Go.Shelf
set_option linter.unusedVariables false

/-- The blocks of a writer, and its text. -/
structure Wg where
  wb : Nat
  sb : Nat
  eb : Nat
  ta : Option Addr
  tc : Nat
  tg : Nat
  tf : Nat
  k : Tk
/-- Block wb is a writer. -/
structure Wt (G : Wg) (w : World) (s : Se) (x : Ex) (v : Value) (i : Nat) : Prop where
  obj : w.heap[G.wb]? = some (.cells #[.pointer (some ⟨G.sb, 0, none⟩), .pointer (some ⟨G.eb, 0, none⟩), .slice G.ta G.k.T.length G.tc, .int .i64 (G.k.fr : Int), .int .i64 (i : Int), .int .i64 (G.k.place : Int), .bool G.k.ahead] 102 (0, 0))
  pe : Pe w G.sb G.eb s x v
  tx : Bytes w G.ta G.tc G.tg G.tf G.k.T
  t1 : G.tg ≠ G.wb
  t2 : G.tg ≠ G.sb
  t3 : G.tg ≠ G.eb
  t4 : v.ownBlock ≠ some G.tg
  t0 : G.k.T ≠ []
  tl : G.k.T.length ≤ 65536
  fi : G.k.fr ≤ i
  il : i ≤ G.k.T.length
  pl : G.k.place < 16
/-- What a writer may turn. -/
def WS (G : Wg) (v : Value) (k : Nat) : Prop := k = G.wb ∨ PS G.sb G.eb v k
theorem Wt.ws {G : Wg} {w : World} {s : Se} {x : Ex} {v : Value} {i : Nat} (h : Wt G w s x v i) : G.wb ≠ G.sb ∧ G.wb ≠ G.eb ∧ v.ownBlock ≠ some G.wb :=
  ⟨fun e => h.pe.st.ne h.obj (by decide) e.symm, ne_of_type h.obj h.pe.en.obj (by decide), owns_ne h.pe.en.own h.obj (by decide)⟩
theorem Wt.tlt {G : Wg} {w : World} {s : Se} {x : Ex} {v : Value} {i : Nat} (h : Wt G w s x v i) : G.tg < w.heap.size := h.tx.block h.t0
theorem Wt.bytes {G : Wg} {w : World} {s : Se} {x : Ex} {v : Value} {i : Nat} (h : Wt G w s x v i) : ∀ j, byteT G.k.T j < 256 := h.tx.lt
theorem Wt.kept {G : Wg} {w w' : World} {s : Se} {x : Ex} {v : Value} {i : Nat} (h : Wt G w s x v i) (hk : Keep noBlock w w') : Wt G w' s x v i :=
  ⟨hk.obj h.obj (fun h => h), h.pe.keep hk (fun h => h) (fun h => h) (fun _ _ h => h), h.tx.keep hk (fun _ h => h), h.t1, h.t2, h.t3, h.t4, h.t0, h.tl, h.fi, h.il, h.pl⟩
/-- Behind acts. -/
theorem Wt.turn {G : Wg} {w w' : World} {s s' : Se} {x x' : Ex} {v v' : Value} {i : Nat} (h : Wt G w s x v i) (hw : Wrote w w' G.sb G.eb s' x' v v') : Wt G w' s' x' v' i := by
  obtain ⟨n1, n2, n3⟩ := h.ws
  refine ⟨hw.kp.obj h.obj ?_, hw.pe, h.tx.keep hw.kp (fun _ => ?_), h.t1, h.t2, h.t3, ?_, h.t0, h.tl, h.fi, h.il, h.pl⟩
  · rintro (e | e | e)
    · exact n1 e
    · exact n2 e
    · exact n3 e
  · rintro (e | e | e)
    · exact h.t2 e
    · exact h.t3 e
    · exact h.t4 e
  · rcases hw.near with q | ⟨k, q, hk⟩
    · rw [q]; exact h.t4
    · rw [q]
      intro e
      have : k = G.tg := by simpa using e
      have := h.tlt
      omega
theorem ps_ws {G : Wg} {v : Value} : ∀ i, PS G.sb G.eb v i → WS G v i := fun _ h => .inr h
/-- What lies in a writer. -/
theorem Wt.cells {G : Wg} {w : World} {s : Se} {x : Ex} {v : Value} {i : Nat} (h : Wt G w s x v i) :
    w.cell? ⟨G.wb, 0, none⟩ = some (.pointer (some ⟨G.sb, 0, none⟩)) ∧ w.cell? ⟨G.wb, 1, none⟩ = some (.pointer (some ⟨G.eb, 0, none⟩)) ∧ w.cell? ⟨G.wb, 2, none⟩ = some (.slice G.ta G.k.T.length G.tc) ∧ w.cell? ⟨G.wb, 3, none⟩ = some (.int .i64 (G.k.fr : Int)) ∧
    w.cell? ⟨G.wb, 4, none⟩ = some (.int .i64 (i : Int)) ∧ w.cell? ⟨G.wb, 5, none⟩ = some (.int .i64 (G.k.place : Int)) ∧ w.cell? ⟨G.wb, 6, none⟩ = some (.bool G.k.ahead) ∧ ∀ j, w.frozen? ⟨G.wb, j, none⟩ = false :=
  ⟨cell_of h.obj 0, cell_of h.obj 1, cell_of h.obj 2, cell_of h.obj 3, cell_of h.obj 4, cell_of h.obj 5, cell_of h.obj 6, fun j => frozen_of h.obj j⟩
/-- A byte of the text. -/
theorem Wt.byte {G : Wg} {w : World} {s : Se} {x : Ex} {v : Value} {i : Nat} (h : Wt G w s x v i) {j : Nat} (hj : j < G.k.T.length) : G.ta = some ⟨G.tg, G.tf, none⟩ ∧ w.cell? ⟨G.tg, G.tf + j, none⟩ = some (.int .u8 ((byteT G.k.T j : Nat) : Int)) :=
  ⟨h.tx.at_.resolve_right h.t0, h.tx.cells j hj⟩

/-! The state's number. -/
theorem copied_any (p : Nat) (hp : p < 12) (w : World) : Calls Tryz.prog 103 #[.int .u8 (p : Int)] w fun e w' => e = .returned (.bool (!decide (p < 7))) ∧ w' = w := by
  by_cases h : p < 7
  · have hI : ¬ 7 ≤ (p : Int) := by omega
    rw [decide_eq_true h]
    go_enter Tryz.func103, Tryz.ntmps103
    go_wp2
    go_ret
    exact ⟨rfl, rfl⟩
  · have hI : 7 ≤ (p : Int) := by omega
    rw [decide_eq_false h]
    go_enter Tryz.func103, Tryz.ntmps103
    go_wp2
    go_ret
    exact ⟨rfl, rfl⟩
/-- The state behind an operation of a kind. -/
def behK (p k : Nat) : Nat := if k = 0 then behB p else if k = 1 then behM p else behR p
def selK (k : Nat) (x y z : Int) : Int := if k = 0 then x else if k = 1 then y else z
theorem index_ph (k : Nat) (hk : k < 3) (x y z : Int) (W : World) : (Instr.index 207 (.agg #[.int .u8 x, .int .u8 y, .int .u8 z]) (.int .u8 (k : Int))).run Tryz.prog W = .ok (.int .u8 (selK k x y z)) W := by
  rcases (show k = 0 ∨ k = 1 ∨ k = 2 by omega) with rfl | rfl | rfl <;> kernel_rfl
set_option maxHeartbeats 4000000 in
theorem behind_i (p : Int) (k : Nat) (hk : k < 3) (x y z : Int) (h : (p, x, y, z) ∈ [((0 : Int), (0 : Int), (7 : Int), (8 : Int)), (1, 0, 7, 8), (2, 0, 7, 8), (3, 0, 7, 8), (4, 1, 7, 8), (5, 2, 7, 8), (6, 3, 7, 8), (7, 4, 10, 11), (8, 5, 10, 11), (9, 6, 10, 11), (10, 4, 10, 11), (11, 5, 10, 11)]) (w : World) :
    Calls Tryz.prog 75 #[.int .u8 p, .int .u8 (k : Int)] w fun e w' => e = .returned (.int .u8 (selK k x y z)) ∧ w' = w := by
  have hix := index_ph k hk
  clear hk
  simp only [List.mem_cons, List.not_mem_nil, or_false, Prod.mk.injEq] at h
  rcases h with ⟨rfl, rfl, rfl, rfl⟩ | ⟨rfl, rfl, rfl, rfl⟩ | ⟨rfl, rfl, rfl, rfl⟩ | ⟨rfl, rfl, rfl, rfl⟩ | ⟨rfl, rfl, rfl, rfl⟩ | ⟨rfl, rfl, rfl, rfl⟩ | ⟨rfl, rfl, rfl, rfl⟩ | ⟨rfl, rfl, rfl, rfl⟩ | ⟨rfl, rfl, rfl, rfl⟩ | ⟨rfl, rfl, rfl, rfl⟩ | ⟨rfl, rfl, rfl, rfl⟩ | ⟨rfl, rfl, rfl, rfl⟩
  all_goals
    go_enter Tryz.func75, Tryz.ntmps75
    go_wp2
    go_ret
    exact ⟨rfl, rfl⟩
theorem behind_any (p k : Nat) (hp : p < 12) (hk : k < 3) (w : World) : Calls Tryz.prog 75 #[.int .u8 (p : Int), .int .u8 (k : Int)] w fun e w' => e = .returned (.int .u8 ((behK p k : Nat) : Int)) ∧ w' = w := by
  have e : ((behK p k : Nat) : Int) = selK k ((behB p : Nat) : Int) ((behM p : Nat) : Int) ((behR p : Nat) : Int) := by
    unfold behK selK
    split
    · rfl
    · split <;> rfl
  rw [e]
  refine behind_i (p : Int) k hk _ _ _ ?_ w
  have h1 : p = 0 ∨ p = 1 ∨ p = 2 ∨ p = 3 ∨ p = 4 ∨ p = 5 ∨ p = 6 ∨ p = 7 ∨ p = 8 ∨ p = 9 ∨ p = 10 ∨ p = 11 := by omega
  rcases h1 with rfl | rfl | rfl | rfl | rfl | rfl | rfl | rfl | rfl | rfl | rfl | rfl <;> simp [behB, behM, behR]

set_option maxHeartbeats 1000000 in
theorem lowest_any (G : Wg) (s : Se) (x : Ex) (v : Value) (i b : Nat) (hb : b ≤ 4) (w : World) (h : Wt G w s x v i) :
    Calls Tryz.prog 70 #[.pointer (some ⟨G.wb, 0, none⟩), .int .i64 (b : Int)] w fun e w' => e = .returned (.int .i64 ((lowW G.k i b : Nat) : Int)) ∧ ∃ n, w' = w.drewN n := by
  obtain ⟨-, -, -, c3, c4, c5, -⟩ := h.cells
  have hp := h.pl
  have hfi := h.fi
  have hil := h.il
  have htl := h.tl
  have hm := mask_i64 (G.k.place + (i - G.k.fr)) b hb (by omega)
  obtain ⟨z, hz⟩ : ∃ z : Nat, z = G.k.place + (i - G.k.fr) := ⟨_, rfl⟩
  have hzI : (G.k.place : Int) + (i : Int) - (G.k.fr : Int) = (z : Int) := by omega
  have hL : lowW G.k i b = z % 2 ^ b := by rw [hz]; rfl
  rw [hL]
  rw [← hz] at hm
  generalize z % 2 ^ b = m at *
  clear h hL hz
  generalize G.k.T.length = tl at *
  generalize G.k.place = pl at *
  generalize G.k.fr = fr at *
  go_enter Tryz.func70, Tryz.ntmps70
  go_wp2_with fail
  go_quiet (fail)
  go_wp2_with fail
  go_ret
  refine ⟨congrArg (fun x => Ending.returned (Value.int .i64 x)) ?_, _, rfl⟩
  rw [mask_form b hb]
  exact hm

end Go.Proofs.YtnokemcogjoonaaGreatDoor.Pt

namespace Go.Proofs.YtnokemcogjoonaaGreatDoor.Pt
open Go.RowKit Go.Shelf
set_option linter.unusedVariables false

theorem tree_num (A L lc lp : Nat) (h1 : A < 2 ^ lp) (h2 : L < 256) (h : lc + lp ≤ 4) : A < 16 ∧ A * 2 ^ lc < 16 ∧ A * 2 ^ lc + L / 2 ^ (8 - lc) < 16 ∧ bits .or .i64 ((A * 2 ^ lc : Nat) : Int) ((L / 2 ^ (8 - lc) : Nat) : Int) = ((A * 2 ^ lc + L / 2 ^ (8 - lc) : Nat) : Int) := by
  have h3 : L / 2 ^ (8 - lc) < 2 ^ lc := by
    rw [Nat.div_lt_iff_lt_mul (Nat.two_pow_pos _), ← Nat.pow_add, show lc + (8 - lc) = 8 from by omega]
    exact h2
  have h4 : (A + 1) * 2 ^ lc ≤ 2 ^ lp * 2 ^ lc := Nat.mul_le_mul_right _ h1
  rw [← Nat.pow_add] at h4
  have h5 : 2 ^ (lp + lc) ≤ 2 ^ 4 := Nat.pow_le_pow_right (by decide) (by omega)
  rw [Nat.add_mul, Nat.one_mul] at h4
  have h6 : 2 ^ lp ≤ 2 ^ 4 := Nat.pow_le_pow_right (by decide) (by omega)
  have h8 := nat_join lc (A * 2 ^ lc) (L / 2 ^ (8 - lc)) (Nat.mul_mod_left _ _) h3
  generalize L / 2 ^ (8 - lc) = Q at *
  generalize hP : A * 2 ^ lc = P at *
  generalize 2 ^ lc = c at *
  generalize 2 ^ (lp + lc) = cc at *
  generalize 2 ^ lp = cp at *
  have h9 := or_i64_16 ⟨P, by omega⟩ ⟨Q, by omega⟩
  dsimp only at h9
  rw [h8] at h9
  exact ⟨by omega, by omega, by omega, h9⟩
theorem lastW_lt {k : Tk} (h : ∀ j, byteT k.T j < 256) (i : Nat) : lastW k i < 256 := by
  unfold lastW
  split
  · exact h _
  · omega
theorem treeW_lt {k : Tk} {s : Se} (h : ∀ j, byteT k.T j < 256) (hs : s.lc + s.lp ≤ 4) (i : Nat) : treeW k s i < 16 :=
  (tree_num (lowW k i s.lp) (lastW k i) s.lc s.lp (Nat.mod_lt _ (Nat.two_pow_pos _)) (lastW_lt h i) hs).2.2.1

theorem one_drew (w : World) (n : Nat) {p0 p1 p2 p3 p4 p5 : Addr} {u0 u1 u2 u3 u4 u5 : Value} (h0 : w.cell? p0 = some u0) (h1 : w.cell? p1 = some u1) (h2 : w.cell? p2 = some u2) (h3 : w.cell? p3 = some u3) (h4 : w.cell? p4 = some u4) (h5 : w.cell? p5 = some u5) :
    Hid (w.drewN n = w.drewN n) ∧ (w.drewN n).cell? p0 = some u0 ∧ (w.drewN n).cell? p1 = some u1 ∧ (w.drewN n).cell? p2 = some u2 ∧ (w.drewN n).cell? p3 = some u3 ∧ (w.drewN n).cell? p4 = some u4 ∧ (w.drewN n).cell? p5 = some u5 :=
  ⟨rfl, (World.cell?_drewN w n _).trans h0, (World.cell?_drewN w n _).trans h1, (World.cell?_drewN w n _).trans h2, (World.cell?_drewN w n _).trans h3, (World.cell?_drewN w n _).trans h4, (World.cell?_drewN w n _).trans h5⟩
set_option maxHeartbeats 4000000 in
theorem literalTree_any (G : Wg) (s : Se) (x : Ex) (v : Value) (i : Nat) (w : World) (h : Wt G w s x v i) :
    Calls Tryz.prog 102 #[.pointer (some ⟨G.wb, 0, none⟩)] w fun e w' => e = .returned (.int .i64 ((treeW G.k s i : Nat) : Int)) ∧ ∃ n, w' = w.drewN n := by
  have hlc := h.pe.st.ok.lc
  obtain ⟨n1, n2, n3, n4⟩ := tree_num (lowW G.k i s.lp) (lastW G.k i) s.lc s.lp (Nat.mod_lt _ (Nat.two_pow_pos _)) (lastW_lt h.bytes i) hlc
  have hlc4 : s.lc ≤ 4 := by omega
  have hlp4 : s.lp ≤ 4 := by omega
  have HLo := hid (fun k n : Nat => lowest_any G s x v i s.lp (by omega) ((w.drewN k).drewN n) ((h.kept (keep_drewN w k)).kept (keep_drewN _ n)))
  have HL3 := hid (fun a k n : Nat => lowest_any G s x v i s.lp (by omega) (((w.drewN a).drewN k).drewN n) (((h.kept (keep_drewN w a)).kept (keep_drewN _ k)).kept (keep_drewN _ n)))
  obtain ⟨A, hA⟩ : ∃ A, A = lowW G.k i s.lp := ⟨_, rfl⟩
  obtain ⟨L, hL⟩ : ∃ L, L = lastW G.k i := ⟨_, rfl⟩
  obtain ⟨P, hP⟩ : ∃ P, P = A * 2 ^ s.lc := ⟨_, rfl⟩
  obtain ⟨e8, he8⟩ : ∃ e8, e8 = 8 - s.lc := ⟨_, rfl⟩
  obtain ⟨Q, hQ⟩ : ∃ Q, Q = L / 2 ^ e8 := ⟨_, rfl⟩
  have hT : treeW G.k s i = P + Q := by unfold treeW; rw [hP, hQ, he8, hA, hL]
  rw [← hA] at n1 n2 n3 n4 HLo HL3
  rw [← hL, ← he8, ← hQ, ← hP] at n3 n4
  rw [← hP] at n2
  rw [hT]
  have e1 : (8 : Int) - (s.lc : Int) = (e8 : Int) := by omega
  have e2 : (A : Int) * 2 ^ s.lc = (P : Int) := by rw [hP]; simp
  have e3 : (L : Int) / 2 ^ e8 = (Q : Int) := by rw [hQ]; simp
  have hLb : L < 256 := by rw [hL]; exact lastW_lt h.bytes i
  have he8b : e8 ≤ 8 := by omega
  obtain ⟨c0, -, c2, c3, c4, -, c6, -⟩ := h.cells
  obtain ⟨f0, f1, -⟩ := h.pe.st.first
  have hil := h.il
  have htl := h.tl
  obtain ⟨Z, hZ⟩ : ∃ Z, Z = P + Q := ⟨_, rfl⟩
  rw [← hZ] at n3 n4 ⊢
  have hb := fun (hi : 0 < i) => h.byte (j := i - 1) (by omega)
  unfold lastW at hL
  have HL := hid hL
  have HB := hid hb
  clear h hA hP hQ hL hT he8 hlc hb hZ
  generalize G.k.T.length = tl at *
  generalize s.lc = lc at *
  generalize s.lp = lp at *
  generalize G.k.fr = fr at *
  by_cases h1 : fr < i
  · have h1I : decide ((fr : Int) < (i : Int)) = true := decide_eq_true (by omega)
    have HL := hid (HL.out.trans (if_pos (.inl h1)))
    obtain ⟨b1, b2⟩ := HB.out (by omega)
    rw [← HL.out] at b2
    obtain ⟨i1, hi1⟩ : ∃ i1, i1 = i - 1 := ⟨_, rfl⟩
    have hi1I : (i : Int) - 1 = (i1 : Int) := by omega
    have hi1l : (i1 : Int) < (tl : Int) := by omega
    rw [← hi1] at b2
    rw [b1] at c2
    clear HL HB hi1 HLo
    go_enter Tryz.func102, Tryz.ntmps102
    go_wp2_with fail
    go_quiet (fail)
    have HL1 := hid (HL3.out nq)
    obtain ⟨-, d0, d2, d4, d5, d6, d7⟩ := one_drew w nq c0 c2 c4 f0 f1 b2
    generalize hw1 : w.drewN nq = w1 at *
    have HE1 := hid hw1
    clear hw1
    clear c0 c2 c3 c4 c6 f0 f1 b2 HL3
    go_wp2_with fail
    go_quiet (fail)
    have HL2 := hid (HL1.out nq)
    obtain ⟨-, g0, g2, g4, g5, g6, g7⟩ := one_drew w1 nq d0 d2 d4 d5 d6 d7
    generalize hw2 : w1.drewN nq = w2 at *
    have HE2 := hid hw2
    clear hw2
    clear d0 d2 d4 d5 d6 d7 HL1
    go_wp2_with fail
    go_quiet (first | (go_at_call 70; refine Calls.quiet_of (HL2.out _)))
    go_wp2_with fail
    go_ret
    exact ⟨rfl, _, by rw [← HE2.out, ← HE1.out, drewN_two, drewN_two]⟩
  · have h1I : decide ((fr : Int) < (i : Int)) = false := decide_eq_false (by omega)
    by_cases h2 : 0 < i
    · have h2I : decide (0 < (i : Int)) = true := decide_eq_true (by omega)
      cases hah : G.k.ahead with
      | true =>
        rw [hah] at c6
        have HL := hid (HL.out.trans (if_pos (.inr ⟨h2, hah⟩)))
        obtain ⟨b1, b2⟩ := HB.out (by omega)
        rw [← HL.out] at b2
        obtain ⟨i1, hi1⟩ : ∃ i1, i1 = i - 1 := ⟨_, rfl⟩
        have hi1I : (i : Int) - 1 = (i1 : Int) := by omega
        have hi1l : (i1 : Int) < (tl : Int) := by omega
        rw [← hi1] at b2
        rw [b1] at c2
        clear HL HB hi1 HLo hah
        go_enter Tryz.func102, Tryz.ntmps102
        go_wp2_with fail
        go_quiet (fail)
        have HL1 := hid (HL3.out nq)
        obtain ⟨-, d0, d2, d4, d5, d6, d7⟩ := one_drew w nq c0 c2 c4 f0 f1 b2
        generalize hw1 : w.drewN nq = w1 at *
        have HE1 := hid hw1
        clear hw1
        clear c0 c2 c3 c4 c6 f0 f1 b2 HL3
        go_wp2_with fail
        go_quiet (fail)
        have HL2 := hid (HL1.out nq)
        obtain ⟨-, g0, g2, g4, g5, g6, g7⟩ := one_drew w1 nq d0 d2 d4 d5 d6 d7
        generalize hw2 : w1.drewN nq = w2 at *
        have HE2 := hid hw2
        clear hw2
        clear d0 d2 d4 d5 d6 d7 HL1
        go_wp2_with fail
        go_quiet (first | (go_at_call 70; refine Calls.quiet_of (HL2.out _)))
        go_wp2_with fail
        go_ret
        exact ⟨rfl, _, by rw [← HE2.out, ← HE1.out, drewN_two, drewN_two]⟩
      | false =>
        rw [hah] at c6
        have HL := hid (HL.out.trans (if_neg (fun q => by rcases q with q | q; exact h1 q; rw [hah] at q; cases q.2)))
        obtain rfl : L = 0 := HL.out
        rw [show (((0 : Nat) : Int)) = (0 : Int) from rfl] at e3
        clear HL HB HL3 hah
        go_enter Tryz.func102, Tryz.ntmps102
        go_wp2_with fail
        go_quiet (fail)
        have HL1 := hid (HLo.out nq)
        obtain ⟨-, d0, d2, d4, d5, d6, d7⟩ := one_drew w nq c0 c2 c4 f0 f1 c3
        generalize hw1 : w.drewN nq = w1 at *
        have HE1 := hid hw1
        clear hw1
        clear c0 c2 c3 c4 c6 f0 f1 HLo
        go_wp2_with fail
        go_quiet (first | (go_at_call 70; refine Calls.quiet_of (HL1.out _)))
        go_wp2_with fail
        go_ret
        exact ⟨rfl, _, by rw [← HE1.out, drewN_two]⟩
    · have h2I : decide (0 < (i : Int)) = false := decide_eq_false (by omega)
      have HL := hid (HL.out.trans (if_neg (fun q => by rcases q with q | q; exact h1 q; exact h2 q.1)))
      obtain rfl : L = 0 := HL.out
      rw [show (((0 : Nat) : Int)) = (0 : Int) from rfl] at e3
      clear HL HB HL3
      go_enter Tryz.func102, Tryz.ntmps102
      go_wp2_with fail
      go_quiet (fail)
      have HL1 := hid (HLo.out nq)
      obtain ⟨-, d0, d2, d4, d5, d6, d7⟩ := one_drew w nq c0 c2 c4 f0 f1 c3
      generalize hw1 : w.drewN nq = w1 at *
      have HE1 := hid hw1
      clear hw1
      clear c0 c2 c3 c4 c6 f0 f1 HLo
      go_wp2_with fail
      go_quiet (first | (go_at_call 70; refine Calls.quiet_of (HL1.out _)))
      go_wp2_with fail
      go_ret
      exact ⟨rfl, _, by rw [← HE1.out, drewN_two]⟩

end Go.Proofs.YtnokemcogjoonaaGreatDoor.Pt

namespace Go.Proofs.YtnokemcogjoonaaGreatDoor.Pt
open Go.RowKit Go.Shelf
set_option linter.unusedVariables false

set_option maxRecDepth 20000 in
set_option maxHeartbeats 4000000 in
theorem putByte_any (G : Wg) (s : Se) (x : Ex) (v : Value) (i : Nat) (w : World) (h : Wt G w s x v i) (hi : i < G.k.T.length) (hr : Room x (litA G.k s i)) (h7 : 7 ≤ s.ph → s.r0 + 1 ≤ i) :
    Calls Tryz.prog 72 #[.pointer (some ⟨G.wb, 0, none⟩)] w fun e w' => e = .returned (.tuple #[]) ∧ ∃ v', Wrote w w' G.sb G.eb s (runA (litA G.k s i) x) v v' := by
  have hb := treeW_lt h.bytes h.pe.st.ok.lc i
  have hby := h.bytes
  obtain ⟨b1, b2⟩ := h.byte hi
  obtain ⟨c0, c1, c2, -, c4, -, -, -⟩ := h.cells
  rw [b1] at c2
  obtain ⟨-, -, -, f3, f4, -⟩ := h.pe.st.first
  have hph := h.pe.st.ok.ph
  have hT := hid (fun n => literalTree_any G s x v i (w.drewN n) (h.kept (keep_drewN w n)))
  have HW := hid h
  have hyl := hby i
  have hil : i < 65536 := Nat.lt_of_lt_of_le hi h.tl
  have hlA : litA G.k s i = if s.ph < 7 then treeA (440 + treeW G.k s i * 768) (byteT G.k.T i) 8 else likeA (440 + treeW G.k s i * 768) (byteT G.k.T (i - 1 - s.r0)) 8 1 (byteT G.k.T i) := rfl
  rw [hlA] at hr ⊢
  have hc := hid (copied_any s.ph hph)
  have hiI : (i : Int) < (G.k.T.length : Int) := by omega
  have HB := hid (fun j hj => h.byte (j := j) hj)
  have hlen : G.k.T.length ≤ 65536 := h.tl
  clear hlA h
  generalize treeW G.k s i = t at *
  generalize byteT G.k.T i = y at *
  have htI : (t : Int) < 16 := by omega
  obtain ⟨p, hp⟩ : ∃ p, p = s.ph := ⟨_, rfl⟩
  rw [← hp] at f3 hc hph hr h7 ⊢
  have HP := hid hp
  clear hp b1
  by_cases h7' : p < 7
  · rw [if_pos h7'] at hr ⊢
    rw [decide_eq_true h7', show (!true) = false from rfl] at hc
    have HT := hid (fun n : Nat => tree_any G.sb G.eb (440 + t * 768) 768 768 y 8 s x v (w.drewN n) (HW.out.kept (keep_drewN w n)).pe hr (by omega) (by omega) (by omega) (by omega) (by omega) (by decide))
    unfold Writes at HT
    rw [show (((8 : Nat) : Int)) = (8 : Int) from rfl] at HT
    have hyI : (y : Int) < 256 := by omega
    generalize hT' : G.k.T.length = tl at *
    clear h7 hr h7' HB hT' hph hlen hby
    go_enter Tryz.func72, Tryz.ntmps72
    go_wp2_with fail
    go_quiet (first | (go_at_call 102; refine Calls.quiet_of (hT.out _)))
    go_wp2_with (go_at_call 103; refine (hc.out _).mono ?_; rintro e w' ⟨rfl, rfl⟩)
    refine (HT.out _).mono ?_
    rintro e w2 ⟨rfl, v2, hw2⟩
    have HF := hid (((Wrote.refl HW.out.pe).keep (keep_drewN w nq)).trans hw2)
    clear hw2 HT hT hc
    go_wp2_with fail
    go_end0
    exact ⟨rfl, v2, HF.out⟩
  · rw [if_neg h7'] at hr ⊢
    rw [decide_eq_false h7', show (!false) = true from rfl] at hc
    have hr0 := h7 (by omega)
    obtain ⟨z, hz⟩ : ∃ z, z = i - 1 - s.r0 := ⟨_, rfl⟩
    rw [← hz] at hr ⊢
    have hzI : (i : Int) - 1 - (s.r0 : Int) = (z : Int) := by omega
    have hzl : (z : Int) < (G.k.T.length : Int) := by omega
    obtain ⟨-, b3⟩ := HB.out z (by omega)
    have hoy := hby z
    have HL := hid (fun W (HP : Pe W G.sb G.eb s x v) => like_any G.sb G.eb (440 + t * 768) 768 768 y (byteT G.k.T z) s x v W HP hr hyl hoy (by omega) (by omega) (by omega) (by decide))
    unfold Writes at HL
    have hzN : z < G.k.T.length := by omega
    obtain ⟨oth, hoth⟩ : ∃ oth, oth = byteT G.k.T z := ⟨_, rfl⟩
    have hbz := hid hoth.symm
    rw [← hoth] at b3 hoy HL ⊢
    clear hoth
    have hyI : (y : Int) < 256 := by omega
    have hoI : (oth : Int) < 256 := by omega
    have hrI : (s.r0 : Int) < 65536 := by omega
    obtain ⟨tl, hT'⟩ : ∃ tl, tl = G.k.T.length := ⟨_, rfl⟩
    have hTl := hid hT'.symm
    rw [← hT'] at c2 hiI hzl
    clear h7 hr h7' HB hT' hph hz hr0 hby
    go_enter Tryz.func72, Tryz.ntmps72
    go_wp2_with fail
    go_quiet (first | (go_at_call 102; refine Calls.quiet_of (hT.out _)))
    go_wp2_with (go_at_call 103; refine (hc.out _).mono ?_; rintro e w' ⟨rfl, rfl⟩)
    have H1 := HW.out.kept (keep_drewN w nq)
    have HG := hid ((Wrote.refl HW.out.pe).keep (keep_drewN w nq))
    generalize w.drewN nq = W at *
    obtain ⟨W1, hW1⟩ : ∃ W1, W1 = W.drew := ⟨_, rfl⟩
    have H2 := H1.kept ((Keep.refl noBlock W).drew)
    rw [← hW1] at H2
    obtain ⟨d0, d1, d2, -, d4, -, -, -⟩ := H2.cells
    obtain ⟨d5, d6⟩ := H2.byte (j := z) hzN
    rw [d5] at d2
    rw [hbz.out] at d6
    obtain ⟨-, -, -, -, g4, -⟩ := H2.pe.st.first
    have HG2 := (show Hid (Wrote w W1 G.sb G.eb s x v v) from by rw [hW1]; exact HG.out.drew)
    have HL1 := hid (HL.out W1 H2.pe)
    rw [hTl.out] at d2
    clear H1 H2 d5 HL HG hc hT c0 c1 c2 c4 f3 f4 b2 b3 HW
    have hwz : IntKind.i64.wrap (IntKind.i64.wrap ((i : Int) - 1) - IntKind.i64.wrap (s.r0 : Int)) = (z : Int) := by
      rw [wraps_i64 ((i : Int) - 1) (by omega) (by omega), wraps_i64 (s.r0 : Int) (by omega) (by omega), hzI, wraps_i64 (z : Int) (by omega) (by omega)]
    refine region_tail 27 mx (by kernel_rfl) ?_
    rw [← hW1]
    clear hW1
    simp only [List.take_succ_cons, List.take_zero, List.drop_succ_cons, List.drop_zero]
    repeat (quiet_step (fail))
    refine wpQuiet_nil ?_
    go_wp2_with fail
    refine HL1.out.mono ?_
    rintro e w2 ⟨rfl, v2, hw2⟩
    have HF := hid (HG2.out.trans hw2)
    clear hw2 HL1 HG2
    go_wp2_with fail
    go_end0
    exact ⟨rfl, v2, HF.out⟩

end Go.Proofs.YtnokemcogjoonaaGreatDoor.Pt

namespace Go.Proofs.YtnokemcogjoonaaGreatDoor
open Go.RowKit Go.Shelf
set_option linter.unusedVariables false

/-- A state's number is set. -/
theorem Cells.ph {cs : Array Value} {s : Se} {c : Nat → Nat} (h : Cells cs s c) (p : Nat) : Cells (cs.setIfInBounds 3 (.int .u8 (p : Int))) { s with ph := p } c := by
  have hs := h.size
  have far : ∀ k, k ≠ 3 → (cs.setIfInBounds 3 (.int .u8 (p : Int)))[k]? = cs[k]? := fun k hk => by
    rw [Array.getElem?_setIfInBounds, if_neg (by omega)]
  refine ⟨by rw [Array.size_setIfInBounds]; exact hs, (far 0 (by omega)).trans h.e0, (far 1 (by omega)).trans h.e1, (far 2 (by omega)).trans h.e2, ?_, (far 4 (by omega)).trans h.e4, (far 5 (by omega)).trans h.e5, (far 6 (by omega)).trans h.e6, (far 7 (by omega)).trans h.e7, fun k k1 k2 => (far k (by omega)).trans (h.ch k k1 k2)⟩
  rw [Array.getElem?_setIfInBounds, if_pos rfl, if_pos (by omega)]
theorem Pr.ph {w : World} {sb db gb : Nat} {s : Se} {x : Cx} (h : Pr w sb db gb s x) (p : Nat) (hp : p < 12) : Pr (w.setCell ⟨sb, 3, none⟩ (.int .u8 (p : Int))) sb db gb { s with ph := p } x ∧ Keep (SD sb db) w (w.setCell ⟨sb, 3, none⟩ (.int .u8 (p : Int))) := by
  obtain ⟨cs, ho, hc⟩ := h.st.obj
  have hk : Keep (fun k => k = sb) w (w.setCell ⟨sb, 3, none⟩ (.int .u8 (p : Int))) := (Keep.refl (fun k => k = sb) w).setCell (p := ⟨sb, 3, none⟩) (fun _ => rfl) _
  exact ⟨⟨⟨⟨_, set_obj ho 3 _, hc.ph p⟩, ⟨h.st.ok.lc, h.st.ok.pb, hp, h.st.ok.r0, h.st.ok.r1, h.st.ok.r2, h.st.ok.r3⟩, h.st.lt⟩, h.de.keep hk (fun e => h.sd e.symm) h.ne, h.ne⟩, hk.mono (fun _ _ e => .inr e)⟩
theorem Rd.ph {G : Rg} {w : World} {rv tv : Value} {s : Se} {x : Cx} {win told : List Nat} (h : Rd G w rv tv s x win told) (p : Nat) (hp : p < 12) : Rd G (w.setCell ⟨G.sb, 3, none⟩ (.int .u8 (p : Int))) rv tv { s with ph := p } x win told :=
  h.turn (h.pr.ph p hp).1 (h.pr.ph p hp).2
/-- What is told lies elsewhere now. -/
theorem Rd.tell {G : Rg} {w w' : World} {rv tv tv' : Value} {s : Se} {x : Cx} {win told told' : List Nat} (h : Rd G w rv tv s x win told) (hk : Keep (fun k => tv.ownBlock = some k) w w') (ho : w'.ownsRow 0 5 1 tv' told'.length (u8s told')) (hn : Near w tv tv') (hl : ∀ j : Nat, told'[j]?.getD 0 < 256) (ht : told'.length ≤ G.K.n) :
    Rd G (w'.setCell ⟨G.rb, 3, none⟩ tv') rv tv' s x win told' := by
  obtain ⟨s1, s2, s3, s4, s5⟩ := h.sw
  obtain ⟨⟨t1, t2, t3, t4⟩, r1, r2, r3, r4⟩ := h.rows
  have ob := hk.obj h.obj t1
  have nb : ∀ g, g < w.heap.size → tv'.ownBlock = some g → tv.ownBlock = some g := fun g hg e => by
    rcases hn with q | ⟨k, q, hk⟩
    · rw [← q]; exact e
    · rw [q] at e
      have : k = g := by simpa using e
      omega
  have ne' : tv'.ownBlock ≠ some G.rb := fun e => t1 (nb _ (obj_lt h.obj) e)
  have k1 : Keep (fun k => tv.ownBlock = some k ∨ k = G.rb) w (w'.setCell ⟨G.rb, 3, none⟩ tv') := (hk.mono (fun _ _ e => .inl e)).setCell (p := ⟨G.rb, 3, none⟩) (fun _ => .inr rfl) _
  refine ⟨(set_obj ob 3 _).trans (by simp), h.pr.keep k1 ?_ ?_ ?_, h.wi.keep k1 ?_ ?_, owns_kept ho ((Keep.refl (fun k => k = G.rb) w').setCell (p := ⟨G.rb, 3, none⟩) (fun _ => rfl) _) (fun g hg e => ne' (by rw [hg, e])), hl, ?_, h.gr, ?_, h.g1, h.g2, Nat.lt_of_lt_of_le h.gl k1.size, h.kp.trans k1 ?_, h.n4.trans hn h.kp.size, h.n5, h.pl, ht, h.nn⟩
  · rintro (e | e)
    · exact t2 e
    · exact s3 e.symm
  · rintro (e | e)
    · exact t3 e
    · exact s4 e.symm
  · rintro (e | e)
    · exact h.gt e
    · exact h.g1 e
  · rintro (e | e)
    · exact t4 e
    · exact s5 e.symm
  · rintro g hg (e | e)
    · exact h.tr g e hg
    · exact r1 (by rw [hg, e])
  · exact fun e => h.gt (nb _ h.gl e)
  · intro g hg e
    exact h.tr g (nb g (h.wi.ring_lt e) hg) e
  · rintro i hi (e | e)
    · exact .inr (.inr (.inr (.inr (.inr (near_old h.n4 hi e)))))
    · exact .inr (.inr (.inl e))

/-- Behind a put. -/
theorem Rd.put {G : Rg} {w w' : World} {rv rv' tv : Value} {s : Se} {x : Cx} {win win' told : List Nat} (h : Rd G w rv tv s x win told) (hw : IsW w' G.wb G.lb G.K.size rv' win') (hn : Near w rv rv') (hk : Keep (fun k => k = G.wb ∨ rv.ownBlock = some k) w w') : Rd G w' rv' tv s x win' told := by
  obtain ⟨s1, s2, s3, s4, s5⟩ := h.sw
  obtain ⟨⟨t1, t2, t3, t4⟩, r1, r2, r3, r4⟩ := h.rows
  have nb : ∀ g, g < w.heap.size → rv'.ownBlock = some g → rv.ownBlock = some g := fun g hg e => by
    rcases hn with q | ⟨k, q, hk⟩
    · rw [← q]; exact e
    · rw [q] at e
      have : k = g := by simpa using e
      omega
  have tlt : ∀ g, tv.ownBlock = some g → g < w.heap.size := fun g hg => by
    rcases h.own.2 with ⟨rfl, _⟩ | ⟨g', cap, cur, rfl, _, hh, _⟩
    · cases hg
    · obtain rfl : g' = g := by simpa [Value.ownBlock] using hg
      exact obj_lt hh
  refine ⟨hk.obj h.obj ?_, h.pr.keep hk ?_ ?_ ?_, hw, owns_kept h.own hk ?_, h.lt, h.gt, fun e => h.gr (nb _ h.gl e), fun g hg e => h.tr g hg (nb g (tlt g hg) e), h.g1, h.g2, Nat.lt_of_lt_of_le h.gl hk.size, h.kp.trans hk ?_, h.n4, h.n5.trans hn h.kp.size, h.pl, h.tl, h.nn⟩
  · rintro (e | e)
    · exact s5 e
    · exact r1 e
  · rintro (e | e)
    · exact s1 e
    · exact r2 e
  · rintro (e | e)
    · exact s2 e
    · exact r3 e
  · rintro (e | e)
    · exact h.g2 e
    · exact h.gr e
  · rintro g hg (e | e)
    · exact t4 (by rw [hg, e])
    · exact h.tr g hg e
  · rintro i hi (e | e)
    · exact .inr (.inl e)
    · exact .inr (.inr (.inr (.inr (.inl (near_old h.n5 hi e)))))

section
set_option maxHeartbeats 2000000 in
theorem putByte_any (G : Rg) (rv tv : Value) (s : Se) (x : Cx) (win told : List Nat) (v : Nat) (hv : v < 256) (w : World) (h : Rd G w rv tv s x win told) (hl : told.length < G.K.n) :
    Calls Tryz.prog 79 #[.pointer (some ⟨G.rb, 0, none⟩), .int .u8 (v : Int)] w fun e w' => e = .returned (.tuple #[]) ∧ ∃ rv' tv', Rd G w' rv' tv' { s with ph := behB s.ph } x (lastN G.K.size (win ++ [v])) (told ++ [v]) := by
  have hnn := h.nn
  have hph := h.pr.st.ok.ph
  have hlt2 : ∀ j : Nat, (told ++ [v])[j]?.getD 0 < 256 := lt_app h.lt (lt256 (fun y hy => by
    have : y = v := by simpa using hy
    omega))
  obtain ⟨v2, W2, hr, ho2, hk2, hn2⟩ := own_push h.own v (by omega)
  have hT := h.tell hk2 ho2 hn2 hlt2 (by rw [List.length_append, List.length_singleton]; omega)
  obtain ⟨c0, c1, c2, c3, -⟩ := h.cells
  obtain ⟨ta, tc, rfl⟩ := h.tform
  have ob2 := hk2.obj h.obj h.rows.1.1
  have d3 : W2.cell? ⟨G.rb, 3, none⟩ = some (.slice ta told.length tc) := cell_of ob2 3
  have f3 := frozen_of ob2 3
  obtain ⟨ua, uc, rfl⟩ := owns_form ho2
  obtain ⟨W3, hW3⟩ : ∃ W3, W3 = W2.setCell ⟨G.rb, 3, none⟩ (.slice ua (told ++ [v]).length uc) := ⟨_, rfl⟩
  rw [← hW3] at hT
  obtain ⟨W4, hW4⟩ : ∃ W4, W4 = W3.drew := ⟨_, rfl⟩
  have hT := hT.kept ((Keep.refl noBlock W3).drew)
  rw [← hW4] at hT
  have HT := hid hT
  obtain ⟨e0, e1, e2, e3, -⟩ := hT.cells
  obtain ⟨a, cap, g, hve, hB, hgg⟩ := owns_bytes hT.own hT.lt (by rw [List.length_append, List.length_singleton]; omega)
  simp only [Value.slice.injEq, true_and] at hve
  obtain ⟨rfl, rfl⟩ := hve
  have hlen : (told ++ [v]).length = told.length + 1 := by simp
  have hcap := hB.cap
  rw [hlen] at hcap hW3 hr e3
  obtain rfl : ua = some ⟨g, 0, none⟩ := hB.at_.resolve_right (by simp)
  have hB' : Bytes W4 (some ⟨g, told.length, none⟩) (uc - told.length) g told.length [v] := by
    refine ⟨.inl rfl, ?_, fun j hj => ?_, fun j => ?_, by rw [List.length_singleton]; omega, by rw [List.length_singleton]; decide⟩
    · intro e; cases e
    · obtain rfl : j = 0 := by simpa using hj
      have := hB.cells told.length (by simp)
      simpa using this
    · have := hlt2 (told.length + j)
      rw [List.getElem?_append_right (by omega)] at this
      simpa using this
  have hng : g ≠ G.wb ∧ rv.ownBlock ≠ some g := by
    have e2 : (Value.slice (some ⟨g, 0, none⟩) (told ++ [v]).length uc).ownBlock = some g := rfl
    exact ⟨fun e => hT.rows.1.2.2.2 (by rw [e2, e]), hT.tr g e2⟩
  have HP := hid (put_any G.wb G.lb G.K.size rv win _ (uc - told.length) g told.length [v] W4 hT.wi hB' (fun _ => hng))
  rw [List.length_singleton] at HP
  have HS := hid (behindByte_any s.ph hph)
  have hbb : behB s.ph < 12 := by unfold behB; split <;> (try split) <;> omega
  have hcne : ¬ uc = told.length := by omega
  have hcI : (told.length : Int) + 1 ≤ (uc : Int) := by omega
  have hwr : IntKind.i64.wrap (told.length : Int) = (told.length : Int) := wraps_i64 _ (by omega) (by omega)
  have hwr2 : (told.length : Int) ≤ (told.length : Int) + 1 := by omega
  clear hB hB' hgg hng hT hn2 ob2 ho2 hk2 h hlt2 hlen
  generalize told.length = n at *
  go_enter Tryz.func79, Tryz.ntmps79
  go_wp2_with (at_builtin; refine wpList_append_run _ rfl _ _ 22 rfl _ _ _ _ rfl rfl hr ?_)
  rw [← hW3]
  clear hW3 hr d3 f3 c0 c1 c2 c3
  refine region_tail 15 mx (by kernel_rfl) ?_
  rw [← hW4]
  clear hW4
  simp only [List.take_succ_cons, List.take_zero, List.drop_succ_cons, List.drop_zero]
  repeat (quiet_step (fail))
  refine wpQuiet_nil ?_
  go_wp2_with fail
  refine HP.out.mono ?_
  rintro e w5 ⟨rfl, rv', q1, q2, q3⟩
  have h5 := HT.out.put q1 q2 q3
  obtain ⟨W6, hW6⟩ : ∃ W6, W6 = w5.drew := ⟨_, rfl⟩
  have h6 := h5.kept ((Keep.refl noBlock w5).drew)
  rw [← hW6] at h6
  obtain ⟨b0, -⟩ := h6.cells
  obtain ⟨-, -, -, b3, -, -, -, -, bf⟩ := h6.pr.st.first
  have bf3 := bf 3
  have HF := hid (h6.ph (behB s.ph) hbb)
  clear HP HT q1 q2 q3 h5 h6 bf e0 e1 e2 e3
  obtain ⟨p', hp'⟩ : ∃ p', p' = behB s.ph := ⟨_, rfl⟩
  rw [← hp'] at HF HS
  have HP' := hid hp'
  clear hp' hbb
  go_wp2_with fail
  refine region_tail 14 mx (by kernel_rfl) ?_
  rw [← hW6]
  clear hW6
  simp only [List.take_succ_cons, List.take_zero, List.drop_succ_cons, List.drop_zero]
  iterate 11 (quiet_step (fail))
  refine wpQuiet_step (fun K hK => ?_)
  go_simp
  refine ⟨_, HS.out _, hK _ ?_⟩
  clear hK K
  repeat (quiet_step (fail))
  refine wpQuiet_nil ?_
  go_wp2_with fail
  go_end0
  rw [← HP'.out]
  exact ⟨rfl, rv', _, HF.out⟩
end

end Go.Proofs.YtnokemcogjoonaaGreatDoor
