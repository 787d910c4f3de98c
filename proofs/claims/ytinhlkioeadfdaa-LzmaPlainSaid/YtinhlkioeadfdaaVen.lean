/-
  The document's encoder: brought into order, a bit, bits that are as likely, Close, a new one.
-/
import Derived.Test.YtinhlkioeadfdaaVsh
import Derived.Test.YtinhlkioeadfdaaDec
namespace Go.Proofs.Ytinhlkioeadfdaa
open Go.RowKit Go.Shelf
set_option linter.unusedVariables false

theorem IsV.set_span {w : World} {b : Nat} {e : Enc} {op : Bool} {v : Value} (h : IsV w b e op v) (s : Nat) (hs : s < 4294967296) : IsV (w.setCell ⟨b, 1, none⟩ (.int .u32 (s : Int))) b { e with span := s } op v :=
  ⟨set_obj h.obj 1 _, own_set h.own h.ne 1 _, h.low, hs, h.first, h.out⟩
theorem IsV.set_low {w : World} {b : Nat} {e : Enc} {op : Bool} {v : Value} (h : IsV w b e op v) (s : Nat) (hs : s < 8589934592) : IsV (w.setCell ⟨b, 0, none⟩ (.int .u64 (s : Int))) b { e with low := s } op v :=
  ⟨set_obj h.obj 0 _, own_set h.own h.ne 0 _, hs, h.span, h.first, h.out⟩
theorem IsV.set_open {w : World} {b : Nat} {e : Enc} {op : Bool} {v : Value} (h : IsV w b e op v) (s : Bool) : IsV (w.setCell ⟨b, 5, none⟩ (.bool s)) b e s v :=
  ⟨set_obj h.obj 5 _, own_set h.own h.ne 5 _, h.low, h.span, h.first, h.out⟩
def heldT (W : World) (b : Nat) : Nat := match W.cell? ⟨b, 1, none⟩ with | some (.int _ n) => n.toNat | _ => 0
theorem heldT_of {W : World} {b : Nat} {e : Enc} {op : Bool} {v : Value} (h : IsV W b e op v) : heldT W b = e.span := by
  unfold heldT
  rw [cell_of h.obj 1]
  rfl
/-- On the way to order. -/
def OrdV (w wr : World) (b : Nat) (e E : Enc) (op : Bool) (v v' : Value) : Prop := normE E = normE e ∧ IsV wr b E op v' ∧ (E.span < 16777216 → manyE E ≤ 1000000 ∧ 1 ≤ E.wait) ∧ 65536 ≤ E.span ∧ Near w v v' ∧ Keep (EncS b v) w wr
set_option maxHeartbeats 2000000 in
theorem orderV_any (b : Nat) (e : Enc) (op : Bool) (v : Value) (w : World) (h : IsV w b e op v) (hw1 : 1 ≤ e.wait) (hm : manyE e ≤ 1000000) (hs : 65536 ≤ e.span) :
    Calls Try.prog 60 #[.pointer (some ⟨b, 0, none⟩)] w fun r w' => r = .returned (.tuple #[]) ∧ ∃ v', IsV w' b (normE e) op v' ∧ Near w v v' ∧ Keep (EncS b v) w w' := by
  have H0 : OrdV w w b e e op v v := ⟨rfl, h, fun _ => ⟨hm, hw1⟩, hs, Near.refl _ _, Keep.refl _ _⟩
  clear h hm hs hw1
  go_enter Try.func60, Try.ntmps60
  go_wp2_with fail
  go_loopw [] (fun wr => ∃ (E : Enc) (v' : Value), OrdV w wr b e E op v v') (fun wr => 16777216 - heldT wr b)
  case atStart => exact ⟨e, v, H0⟩
  case round =>
    clear H0
    obtain ⟨E, v1, HR⟩ := hrel
    obtain ⟨hnE, hE, hmE, hsE, hN, hK⟩ := HR
    obtain ⟨-, c1, -, -, -, -, hf⟩ := hE.cells
    have f1 := hf 1
    have hsp := hE.span
    have hHS := heldT_of hE
    by_cases hl : E.span < 16777216
    · have hlI : (E.span : Int) < 16777216 := by omega
      obtain ⟨s, hs2⟩ : ∃ s, s = E.span * 256 := ⟨_, rfl⟩
      have hsI : (E.span : Int) * 256 % 4294967296 = (s : Int) := by omega
      have hsI2 : (E.span : Int) * 256 = (s : Int) := by omega
      have hsl : (s : Int) < 4294967296 := by omega
      have h2 := hE.set_span s (by omega)
      have hk := (Keep.refl (EncS b v1) wr).setCell (p := ⟨b, 1, none⟩) (fun _ => .inl rfl) (.int .u32 (s : Int))
      have hnorm := normE_small hl
      rw [← hs2] at hnorm
      have HT := hid (shiftV_any b _ op v1 _ h2 (hmE hl).2 (hmE hl).1)
      have HX := (show Hid (normE E = normE e ∧ normE E = shiftE ({ E with span := s } : Enc) ∧ 16777216 ≤ (shiftE ({ E with span := s } : Enc)).span ∧ Near w v v1 ∧ Keep (EncS b v) w wr ∧ Keep (EncS b v1) wr (wr.setCell ⟨b, 1, none⟩ (.int .u32 (s : Int))) ∧ heldT wr b < 16777216) from ⟨hnE, hnorm, by rw [shiftE_span]; show _ ≤ s; omega, hN, hK, hk, by rw [hHS]; exact hl⟩)
      clear hnE hE hmE hsE hN hK hf hHS h2 hk hnorm hs2 hl hsp
      generalize shiftE ({ E with span := s } : Enc) = E2 at *
      generalize E.span = z at *
      go_wp2_with (go_at_call 61; refine HT.out.mono ?_; rintro r w1 ⟨rfl, v2, h3, hn3, hk3⟩)
      go_roundw
      case rel =>
        obtain ⟨x1, x2, x3, x4, x5, x6, x7⟩ := HX.out
        have hsz := x6.size
        exact ⟨E2, v2, ⟨by rw [normE_great (by omega), ← x2]; exact x1, h3, fun q => by omega, by omega, x4.trans hn3 (Nat.le_trans x5.size hsz), keep_near x5 x4 (x6.trans hk3 (fun _ _ h => h))⟩⟩
      case measure =>
        have x3 := HX.out.2.2.1
        have x7 := HX.out.2.2.2.2.2.2
        rw [heldT_of h3]
        omega
    · have hlI : ¬ (E.span : Int) < 16777216 := by omega
      have hnorm := normE_great hl
      have HF := (show Hid (∃ v', IsV wr b (normE e) op v' ∧ Near w v v' ∧ Keep (EncS b v) w wr) from ⟨v1, by rw [← hnE, hnorm]; exact hE, hN, hK⟩)
      clear hnE hE hmE hsE hN hK hf hHS hl hsp hnorm
      go_wp2_with fail
      go_end0
      exact ⟨rfl, HF.out⟩

set_option maxHeartbeats 2000000 in
theorem bitV_any (b pb i p : Nat) (t : TypeId) (bit : Int) (one : Bool) (cs : Array Value) (e : Enc) (v : Value) (w : World) (h : IsV w b e false v) (hok : EncOk e) (hm : manyE e ≤ 1000000) (hp : w.heap[pb]? = some (.cells cs t (0, 0))) (ht1 : t ≠ 142) (ht2 : t ≠ 5) (hi : cs[i]? = some (.int .u16 (p : Int))) (hp16 : p < 65536) (hb : one = (bit != 0)) :
    Calls Try.prog 36 #[.pointer (some ⟨b, 0, none⟩), .pointer (some ⟨pb, i, none⟩), .int .i64 bit] w fun r w' => r = .returned (.tuple #[]) ∧ ∃ v', IsV w' b (bitE e (fairN p) one) false v' ∧ Near w v v' ∧
      w'.heap[pb]? = some (.cells (cs.setIfInBounds i (.int .u16 ((learnN (fairN p) one : Nat) : Int))) t (0, 0)) ∧ Keep (fun k => EncS b v k ∨ k = pb) w w' := by
  have hne : pb ≠ b := ne_of_type hp h.obj ht1
  have hnv : v.ownBlock ≠ some pb := owns_ne h.own hp ht2
  obtain ⟨hf1, hf2⟩ := fairN_bd p
  have HC := hid (fair_any p hp16)
  have hbd := boundN_lt hf1 hf2 hok.s1
  have hs1 := hok.s1
  have hlow := hok.low
  have hs := h.span
  have HL := hid (learnt_any (fairN p) bit one hf1 hf2 hb)
  obtain ⟨c0, c1, -, -, -, c5, hf⟩ := h.cells
  have f0 := hf 0
  have f1 := hf 1
  have cp : w.cell? ⟨pb, i, none⟩ = some (.int .u16 (p : Int)) := (cell_of hp i).trans hi
  have fp := frozen_of hp i
  generalize fairN p = c at *
  obtain ⟨q, hq⟩ : ∃ q, q = e.span / 2048 := ⟨_, rfl⟩
  have hq1 : (e.span : Int) / 2048 = (q : Int) := by omega
  have hq2 : (q : Int) * (c : Int) = ((boundN e.span c : Nat) : Int) := by rw [hq]; exact bound_i
  have hq3 : ((boundN e.span c : Nat) : Int) % 4294967296 = ((boundN e.span c : Nat) : Int) := by omega
  have hq4 : (q : Int) % 4294967296 = (q : Int) := by omega
  have hcI : (c : Int) ≤ 2017 := by omega
  clear hq
  have hfar : ∀ (W : World), Keep (fun k => k = b) w W → (∀ E : Enc, 1 ≤ E.wait → manyE E ≤ 1000000 → 65536 ≤ E.span → IsV W b E false v →
      Calls Try.prog 60 #[.pointer (some ⟨b, 0, none⟩)] (W.setCell ⟨pb, i, none⟩ (.int .u16 ((learnN c one : Nat) : Int))) fun r w' => r = .returned (.tuple #[]) ∧ ∃ v', IsV w' b (normE E) false v' ∧ Near w v v' ∧
      w'.heap[pb]? = some (.cells (cs.setIfInBounds i (.int .u16 ((learnN c one : Nat) : Int))) t (0, 0)) ∧ Keep (fun k => EncS b v k ∨ k = pb) w w') := by
    intro W hk E hwE hmE hsE hE
    have hp1 := hk.obj hp (fun e => hne e)
    have k2 := (Keep.refl (fun k => k = pb) W).setCell (p := ⟨pb, i, none⟩) (fun _ => rfl) (.int .u16 ((learnN c one : Nat) : Int))
    have hE2 := hE.keep k2 (fun e => hne e.symm) (fun g hg e => hnv (by rw [hg, e]))
    have hp2 := set_obj hp1 i (.int .u16 ((learnN c one : Nat) : Int))
    refine (orderV_any b E false v _ hE2 hwE hmE hsE).mono ?_
    rintro r w1 ⟨rfl, v1, a1, a2, a3⟩
    have ksz := hk.size
    have ksz2 := k2.size
    refine ⟨rfl, v1, a1, (show Near w v v1 from ?_), a3.obj hp2 ?_, ?_⟩
    · rcases a2 with q | ⟨k, q, hq⟩
      · exact .inl q
      · exact .inr ⟨k, q, by omega⟩
    · rintro (e | e)
      · exact hne e
      · exact hnv e
    · exact ((hk.mono (fun _ _ e => .inl (.inl e))).trans k2 (fun _ _ e => .inr e)).trans a3 (fun _ _ e => .inl e)
  cases one with
  | true =>
    rw [bitE_one]
    have hbI : (bit == 0) = false := by simpa using hb.symm
    have h2 := (h.set_low (e.low + boundN e.span c) (by omega)).set_span (e.span - boundN e.span c) (by omega)
    have HF := hid (hfar _ (((Keep.refl (fun k => k = b) w).setCell (p := ⟨b, 0, none⟩) (fun _ => rfl) _).setCell (p := ⟨b, 1, none⟩) (fun _ => rfl) _) ({ e with low := e.low + boundN e.span c, span := e.span - boundN e.span c } : Enc) hok.wait hm (show 65536 ≤ e.span - boundN e.span c by omega) h2)
    have e1 : (e.low : Int) + ((boundN e.span c : Nat) : Int) = ((e.low + boundN e.span c : Nat) : Int) := by omega
    have e2 : ((e.span : Int) - ((boundN e.span c : Nat) : Int)) % 4294967296 = ((e.span - boundN e.span c : Nat) : Int) := by omega
    have e3 : ((e.low + boundN e.span c : Nat) : Int) < 18446744073709551616 := by omega
    have e4 : ((boundN e.span c : Nat) : Int) < 4294967296 := by omega
    clear h h2 hfar hok hm hp hi hb hbd hs1 hlow hs hf
    generalize e.low + boundN e.span c = L' at *
    generalize e.span - boundN e.span c = S' at *
    generalize boundN e.span c = B at *
    go_enter Try.func36, Try.ntmps36
    go_wp2_with (first | (go_at_call 58; refine (HC.out _).mono ?_; rintro r w' ⟨rfl, rfl⟩) | (go_at_call 59; refine (HL.out _).mono ?_; rintro r w' ⟨rfl, rfl⟩) | (go_at_call 60; refine HF.out.mono ?_; rintro r w1 ⟨rfl, hr⟩))
    go_end0
    exact ⟨rfl, hr⟩
  | false =>
    rw [bitE_zero]
    obtain rfl : bit = 0 := by simpa using hb.symm
    have h2 := h.set_span (boundN e.span c) (by omega)
    have HF := hid (hfar _ ((Keep.refl (fun k => k = b) w).setCell (p := ⟨b, 1, none⟩) (fun _ => rfl) _) ({ e with span := boundN e.span c } : Enc) hok.wait hm (show 65536 ≤ boundN e.span c by omega) h2)
    clear h h2 hfar hok hm hp hi hb hbd hs1 hlow hs hf
    generalize boundN e.span c = B at *
    go_enter Try.func36, Try.ntmps36
    go_wp2_with (first | (go_at_call 58; refine (HC.out _).mono ?_; rintro r w' ⟨rfl, rfl⟩) | (go_at_call 59; refine (HL.out _).mono ?_; rintro r w' ⟨rfl, rfl⟩) | (go_at_call 60; refine HF.out.mono ?_; rintro r w1 ⟨rfl, hr⟩))
    go_end0
    exact ⟨rfl, hr⟩

section
attribute [local go_sem] maxSem_eq minSem_eq


end
/-- A new one. -/
theorem newV_any (w : World) : Calls Try.prog 35 #[] w fun r w' => r = .returned (.pointer (some ⟨w.heap.size, 0, none⟩)) ∧ IsV w' w.heap.size newE false (.slice none 0 0) ∧ Keep noBlock w w' := by
  have HF := (show Hid (IsV (w.alloc (.cells #[.int .u64 0, .int .u32 4294967295, .int .u8 0, .int .i64 1, .slice none 0 0, .bool false] 142)) w.heap.size newE false (.slice none 0 0) ∧ Keep noBlock w (w.alloc (.cells #[.int .u64 0, .int .u32 4294967295, .int .u8 0, .int .i64 1, .slice none 0 0, .bool false] 142))) from
    ⟨⟨alloc_new w _, World.ownsRow_nil _ _ _ _, by decide, by decide, by decide, fun j => by simp [newE]⟩, (Keep.refl _ w).alloc _⟩)
  go_enter Try.func35, Try.ntmps35
  go_wp2_with fail
  go_ret
  exact ⟨rfl, HF.out⟩

theorem shiftsE_wait {k : Nat} {e : Enc} (h : 1 ≤ e.wait) : 1 ≤ (shiftsE k e).wait := by
  induction k with
  | zero => exact h
  | succ k ih =>
    show 1 ≤ (shiftE (shiftsE k e)).wait
    unfold shiftE
    split
    · show 1 ≤ _ + 1; omega
    · exact Nat.le_refl _
/-- Close of one that is open. -/
def CloV (w wr : World) (b k : Nat) (e : Enc) (v v' : Value) : Prop := IsV wr b (shiftsE k e) false v' ∧ Near w v v' ∧ Keep (EncS b v) w wr
set_option maxHeartbeats 2000000 in
theorem closeV_any (b : Nat) (e : Enc) (v : Value) (w : World) (h : IsV w b e false v) (hw1 : 1 ≤ e.wait) (hm : manyE e ≤ 999990) :
    Calls Try.prog 37 #[.pointer (some ⟨b, 0, none⟩)] w fun r w' => ∃ v', r = .returned v' ∧ IsV w' b (closeE e) true v' ∧ Near w v v' ∧ Keep (EncS b v) w w' := by
  have H0 : CloV w w b 0 e v v := ⟨h, Near.refl _ _, Keep.refl _ _⟩
  clear h
  go_enter Try.func37, Try.ntmps37
  go_wp2_with fail
  go_loopw [3] (fun i wr => ∃ (k : Nat) (v' : Value), k ≤ 5 ∧ i = .int .i64 k ∧ CloV w wr b k e v v') (fun i _ => 5 - (intOf i).toNat)
  case atStart => exact ⟨0, v, by omega, rfl, H0⟩
  case round =>
    clear H0
    obtain ⟨k, v1, hk, rfl, hE, hN, hK⟩ := hrel
    obtain ⟨-, -, -, -, c4, c5, hf⟩ := hE.cells
    have f5 := hf 5
    clear hf
    by_cases hlt : k < 5
    · have hltI : (k : Int) < 5 := by omega
      have HT := hid (shiftV_any b _ false v1 _ hE (shiftsE_wait hw1) (by rw [shiftsE_many]; omega))
      have HX := (show Hid (Near w v v1 ∧ Keep (EncS b v) w wr) from ⟨hN, hK⟩)
      clear hE hN hK c4
      go_wp2_with (go_at_call 61; refine HT.out.mono ?_; rintro r w1 ⟨rfl, v2, a1, a2, a3⟩)
      go_roundw
      case rel => exact ⟨k + 1, v2, by omega, by go_num, a1, HX.out.1.trans a2 HX.out.2.size, keep_near HX.out.2 HX.out.1 a3⟩
      case measure => simp [intOf]; omega
    · obtain rfl : k = 5 := by omega
      rw [show (((5 : Nat) : Int)) = (5 : Int) from rfl]
      rw [shiftsE_five] at hE
      have HX := (show Hid (IsV (wr.setCell ⟨b, 5, none⟩ (.bool true)) b (closeE e) true v1 ∧ Near w v v1 ∧ Keep (EncS b v) w (wr.setCell ⟨b, 5, none⟩ (.bool true))) from ⟨hE.set_open true, hN, hK.setCell (p := ⟨b, 5, none⟩) (fun _ => .inl rfl) _⟩)
      obtain ⟨va, vn, vc, rfl⟩ := hE.form
      clear hE hN hK
      go_wp2_with fail
      go_ret
      exact ⟨_, rfl, HX.out⟩


end Go.Proofs.Ytinhlkioeadfdaa
