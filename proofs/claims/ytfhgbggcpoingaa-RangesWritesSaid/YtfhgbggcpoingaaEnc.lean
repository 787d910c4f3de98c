/-
  The program's encoder: brought into order, a bit.
-/
import Derived.Test.YtfhgbggcpoingaaEsh
namespace Go.Proofs.Ytfhgbggcpoingaa
open Go.RowKit Go.Shelf
set_option linter.unusedVariables false

theorem IsE.set_span {w : World} {b : Nat} {e : Enc} {op : Bool} {v : Value} (h : IsE w b e op v) (s : Nat) (hs : s < 4294967296) : IsE (w.setCell ⟨b, 1, none⟩ (.int .u32 (s : Int))) b { e with span := s } op v :=
  ⟨set_obj h.obj 1 _, own_set h.own h.ne 1 _, h.low, hs, h.first, h.out⟩
theorem IsE.set_low {w : World} {b : Nat} {e : Enc} {op : Bool} {v : Value} (h : IsE w b e op v) (s : Nat) (hs : s < 8589934592) : IsE (w.setCell ⟨b, 0, none⟩ (.int .u64 (s : Int))) b { e with low := s } op v :=
  ⟨set_obj h.obj 0 _, own_set h.own h.ne 0 _, hs, h.span, h.first, h.out⟩
theorem IsE.set_open {w : World} {b : Nat} {e : Enc} {op : Bool} {v : Value} (h : IsE w b e op v) (s : Bool) : IsE (w.setCell ⟨b, 5, none⟩ (.bool s)) b e s v :=
  ⟨set_obj h.obj 5 _, own_set h.own h.ne 5 _, h.low, h.span, h.first, h.out⟩
def heldS (W : World) (b : Nat) : Nat := match W.cell? ⟨b, 1, none⟩ with | some (.int _ n) => n.toNat | _ => 0
theorem heldS_of {W : World} {b : Nat} {e : Enc} {op : Bool} {v : Value} (h : IsE W b e op v) : heldS W b = e.span := by
  unfold heldS
  rw [cell_of h.obj 1]
  rfl
theorem normE_small {e : Enc} (h : e.span < 16777216) : normE e = shiftE { e with span := e.span * 256 } := if_pos h
theorem normE_great {e : Enc} (h : ¬ e.span < 16777216) : normE e = e := if_neg h

/-- On the way to order. -/
def Ordg (w wr : World) (b : Nat) (e E : Enc) (op : Bool) (v v' : Value) : Prop := normE E = normE e ∧ IsE wr b E op v' ∧ (E.span < 16777216 → manyE E ≤ 1000000) ∧ 65536 ≤ E.span ∧ Near w v v' ∧ Keep (EncS b v) w wr
set_option maxHeartbeats 2000000 in
theorem orderE_any (b : Nat) (e : Enc) (op : Bool) (v : Value) (w : World) (h : IsE w b e op v) (hm : manyE e ≤ 1000000) (hs : 65536 ≤ e.span) :
    Calls Try.prog 36 #[.pointer (some ⟨b, 0, none⟩)] w fun r w' => r = .returned (.tuple #[]) ∧ ∃ v', IsE w' b (normE e) op v' ∧ Near w v v' ∧ Keep (EncS b v) w w' := by
  have H0 : Ordg w w b e e op v v := ⟨rfl, h, fun _ => hm, hs, Near.refl _ _, Keep.refl _ _⟩
  clear h hm hs
  go_enter Try.func36, Try.ntmps36
  go_wp2_with fail
  go_loopw [] (fun wr => ∃ (E : Enc) (v' : Value), Ordg w wr b e E op v v') (fun wr => 16777216 - heldS wr b)
  case atStart => exact ⟨e, v, H0⟩
  case round =>
    clear H0
    obtain ⟨E, v1, HR⟩ := hrel
    obtain ⟨hnE, hE, hmE, hsE, hN, hK⟩ := HR
    obtain ⟨-, c1, -, -, -, -, hf⟩ := hE.cells
    have f1 := hf 1
    have hsp := hE.span
    have hHS := heldS_of hE
    by_cases hl : E.span < 16777216
    · have hlI : (E.span : Int) < 16777216 := by omega
      obtain ⟨s, hs2⟩ : ∃ s, s = E.span * 256 := ⟨_, rfl⟩
      have hsI : (E.span : Int) * 256 % 4294967296 = (s : Int) := by omega
      have hsI2 : (E.span : Int) * 256 = (s : Int) := by omega
      have hsl : (s : Int) < 4294967296 := by omega
      have h2 := hE.set_span s (by omega)
      have hk := (Keep.refl (EncS b v1) wr).setCell (p := ⟨b, 1, none⟩) (fun _ => .inl rfl) (.int .u32 (s : Int))
      have hnorm := normE_small hl
      rw [← hs2] at hnorm
      have HT := hid (shift_any b _ op v1 _ h2 (hmE hl))
      have HX := (show Hid (normE E = normE e ∧ normE E = shiftE ({ E with span := s } : Enc) ∧ 16777216 ≤ (shiftE ({ E with span := s } : Enc)).span ∧ Near w v v1 ∧ Keep (EncS b v) w wr ∧ Keep (EncS b v1) wr (wr.setCell ⟨b, 1, none⟩ (.int .u32 (s : Int))) ∧ heldS wr b < 16777216) from ⟨hnE, hnorm, by rw [shiftE_span]; show _ ≤ s; omega, hN, hK, hk, by rw [hHS]; exact hl⟩)
      clear hnE hE hmE hsE hN hK hf hHS h2 hk hnorm hs2 hl hsp
      generalize shiftE ({ E with span := s } : Enc) = E2 at *
      generalize E.span = z at *
      go_wp2_with (go_at_call 38; refine HT.out.mono ?_; rintro r w1 ⟨rfl, v2, h3, hn3, hk3⟩)
      go_roundw
      case rel =>
        obtain ⟨x1, x2, x3, x4, x5, x6, x7⟩ := HX.out
        have hsz := x6.size
        exact ⟨E2, v2, ⟨by rw [normE_great (by omega), ← x2]; exact x1, h3, fun q => by omega, by omega, x4.trans hn3 (Nat.le_trans x5.size hsz), keep_near x5 x4 (x6.trans hk3 (fun _ _ h => h))⟩⟩
      case measure =>
        have x3 := HX.out.2.2.1
        have x7 := HX.out.2.2.2.2.2.2
        rw [heldS_of h3]
        omega
    · have hlI : ¬ (E.span : Int) < 16777216 := by omega
      have hnorm := normE_great hl
      have HF := (show Hid (∃ v', IsE wr b (normE e) op v' ∧ Near w v v' ∧ Keep (EncS b v) w wr) from ⟨v1, by rw [← hnE, hnorm]; exact hE, hN, hK⟩)
      clear hnE hE hmE hsE hN hK hf hHS hl hsp hnorm
      go_wp2_with fail
      go_end0
      exact ⟨rfl, HF.out⟩

theorem bitE_one {e : Enc} {c : Nat} : bitE e c true = normE { e with low := e.low + boundN e.span c, span := e.span - boundN e.span c } := rfl
theorem bitE_zero {e : Enc} {c : Nat} : bitE e c false = normE { e with span := boundN e.span c } := rfl
set_option maxHeartbeats 2000000 in
theorem bitE_any (b pb i p : Nat) (bit : Int) (one : Bool) (cs : Array Value) (e : Enc) (v : Value) (w : World) (h : IsE w b e true v) (hok : EncOk e) (hm : manyE e ≤ 1000000) (hp : w.heap[pb]? = some (.cells cs 40 (0, 0))) (hi : cs[i]? = some (.int .u16 (p : Int))) (hp16 : p < 65536) (hb : one = (bit != 0)) :
    Calls Try.prog 22 #[.pointer (some ⟨b, 0, none⟩), .pointer (some ⟨pb, i, none⟩), .int .i64 bit] w fun r w' => r = .returned (.tuple #[]) ∧ ∃ v', IsE w' b (bitE e (fairN p) one) true v' ∧ Near w v v' ∧
      w'.heap[pb]? = some (.cells (cs.setIfInBounds i (.int .u16 ((learnN (fairN p) one : Nat) : Int))) 40 (0, 0)) ∧ Keep (fun k => EncS b v k ∨ k = pb) w w' := by
  have hne : pb ≠ b := ne_of_type hp h.obj (by decide)
  have hnv : v.ownBlock ≠ some pb := owns_ne h.own hp (by decide)
  obtain ⟨hf1, hf2⟩ := fairN_bd p
  have HC := hid (chanceOf_any p hp16)
  have hbd := boundN_lt hf1 hf2 hok.s1
  have hs1 := hok.s1
  have hlow := hok.low
  have hs := h.span
  have HB := hid (bound_any (fairN p) e.span hf2 hs)
  have HL := hid (learned_any (fairN p) bit one hf1 hf2 hb)
  obtain ⟨c0, c1, -, -, -, c5, hf⟩ := h.cells
  have f0 := hf 0
  have f1 := hf 1
  have cp : w.cell? ⟨pb, i, none⟩ = some (.int .u16 (p : Int)) := (cell_of hp i).trans hi
  have fp := frozen_of hp i
  generalize fairN p = c at *
  have hfar : ∀ (W : World), Keep (fun k => k = b) w W → (∀ E : Enc, manyE E ≤ 1000000 → 65536 ≤ E.span → IsE W b E true v →
      Calls Try.prog 36 #[.pointer (some ⟨b, 0, none⟩)] (W.setCell ⟨pb, i, none⟩ (.int .u16 ((learnN c one : Nat) : Int))) fun r w' => r = .returned (.tuple #[]) ∧ ∃ v', IsE w' b (normE E) true v' ∧ Near w v v' ∧
      w'.heap[pb]? = some (.cells (cs.setIfInBounds i (.int .u16 ((learnN c one : Nat) : Int))) 40 (0, 0)) ∧ Keep (fun k => EncS b v k ∨ k = pb) w w') := by
    intro W hk E hmE hsE hE
    have hp1 := hk.obj hp (fun e => hne e)
    have k2 := (Keep.refl (fun k => k = pb) W).setCell (p := ⟨pb, i, none⟩) (fun _ => rfl) (.int .u16 ((learnN c one : Nat) : Int))
    have hE2 := hE.keep k2 (fun e => hne e.symm) (fun g hg e => hnv (by rw [hg, e]))
    have hp2 := set_obj hp1 i (.int .u16 ((learnN c one : Nat) : Int))
    refine (orderE_any b E true v _ hE2 hmE hsE).mono ?_
    rintro r w1 ⟨rfl, v1, a1, a2, a3⟩
    have ksz := hk.size
    have ksz2 := k2.size
    refine ⟨rfl, v1, a1, (show Near w v v1 from ?_), a3.obj hp2 ?_, ?_⟩
    · rcases a2 with q | ⟨k, q, hq⟩
      · exact .inl q
      · exact .inr ⟨k, q, by omega⟩
    · rintro (e | e)
      · exact hne e
      · exact hnv e
    · exact ((hk.mono (fun _ _ e => .inl (.inl e))).trans k2 (fun _ _ e => .inr e)).trans a3 (fun _ _ e => .inl e)
  cases one with
  | true =>
    rw [bitE_one]
    have hbI : (bit == 0) = false := by simpa using hb.symm
    have h2 := (h.set_low (e.low + boundN e.span c) (by omega)).set_span (e.span - boundN e.span c) (by omega)
    have HF := hid (hfar _ (((Keep.refl (fun k => k = b) w).setCell (p := ⟨b, 0, none⟩) (fun _ => rfl) _).setCell (p := ⟨b, 1, none⟩) (fun _ => rfl) _) ({ e with low := e.low + boundN e.span c, span := e.span - boundN e.span c } : Enc) hm (show 65536 ≤ e.span - boundN e.span c by omega) h2)
    have e1 : (e.low : Int) + ((boundN e.span c : Nat) : Int) = ((e.low + boundN e.span c : Nat) : Int) := by omega
    have e2 : ((e.span : Int) - ((boundN e.span c : Nat) : Int)) % 4294967296 = ((e.span - boundN e.span c : Nat) : Int) := by omega
    have e3 : ((e.low + boundN e.span c : Nat) : Int) < 18446744073709551616 := by omega
    have e4 : ((boundN e.span c : Nat) : Int) < 4294967296 := by omega
    clear h h2 hfar hok hm hp hi hb hbd hs1 hlow hs hf
    generalize e.low + boundN e.span c = L' at *
    generalize e.span - boundN e.span c = S' at *
    generalize boundN e.span c = B at *
    go_enter Try.func22, Try.ntmps22
    go_wp2_with (first | (go_at_call 31; refine (HC.out _).mono ?_; rintro r w' ⟨rfl, rfl⟩) | (go_at_call 32; refine (HB.out _).mono ?_; rintro r w' ⟨rfl, rfl⟩) | (go_at_call 33; refine (HL.out _).mono ?_; rintro r w' ⟨rfl, rfl⟩) | (go_at_call 36; refine HF.out.mono ?_; rintro r w1 ⟨rfl, hr⟩))
    go_end0
    exact ⟨rfl, hr⟩
  | false =>
    rw [bitE_zero]
    obtain rfl : bit = 0 := by simpa using hb.symm
    have h2 := h.set_span (boundN e.span c) (by omega)
    have HF := hid (hfar _ ((Keep.refl (fun k => k = b) w).setCell (p := ⟨b, 1, none⟩) (fun _ => rfl) _) ({ e with span := boundN e.span c } : Enc) hm (show 65536 ≤ boundN e.span c by omega) h2)
    clear h h2 hfar hok hm hp hi hb hbd hs1 hlow hs hf
    generalize boundN e.span c = B at *
    go_enter Try.func22, Try.ntmps22
    go_wp2_with (first | (go_at_call 31; refine (HC.out _).mono ?_; rintro r w' ⟨rfl, rfl⟩) | (go_at_call 32; refine (HB.out _).mono ?_; rintro r w' ⟨rfl, rfl⟩) | (go_at_call 33; refine (HL.out _).mono ?_; rintro r w' ⟨rfl, rfl⟩) | (go_at_call 36; refine HF.out.mono ?_; rintro r w1 ⟨rfl, hr⟩))
    go_end0
    exact ⟨rfl, hr⟩

end Go.Proofs.Ytfhgbggcpoingaa
