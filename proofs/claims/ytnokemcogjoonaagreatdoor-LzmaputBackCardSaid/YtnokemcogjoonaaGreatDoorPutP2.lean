/-
  The program's decoder: brought into order, a bit, bits that are as likely, the end.
  The program's decoder: bits that are as likely, the end, of none.
  What an encoder put into bytes is what a decoder reads out of them: as plain numbers.
  The program's decoder: its end; a new one; none.
  The last bytes of many, in a ring; bytes that are copied out of themselves.
-/
import Derived.Test.YtnokemcogjoonaaGreatDoorPutP1
namespace Go.Proofs.YtnokemcogjoonaaGreatDoor
open Go.RowKit Go.Shelf
set_option linter.unusedVariables false

theorem IsD.set_span {w : World} {b g : Nat} {d : Dec} (h : IsD w b g d) (s : Nat) (hs : s < 4294967296) : IsD (w.setCell ⟨b, 0, none⟩ (.int .u32 (s : Int))) b g { d with span := s } := by
  obtain ⟨a, cap, off, ho, hB⟩ := h.obj
  exact ⟨⟨a, cap, off, set_obj ho 0 _, hB.keep ((Keep.refl (fun k => k = b) w).setCell (p := ⟨b, 0, none⟩) (fun _ => rfl) _) (fun _ e => h.ne e)⟩, h.ne, ⟨hs, h.ok.code⟩⟩
theorem IsD.set_code {w : World} {b g : Nat} {d : Dec} (h : IsD w b g d) (s : Nat) (hs : s < 4294967296) : IsD (w.setCell ⟨b, 1, none⟩ (.int .u32 (s : Int))) b g { d with code := s } := by
  obtain ⟨a, cap, off, ho, hB⟩ := h.obj
  exact ⟨⟨a, cap, off, set_obj ho 1 _, hB.keep ((Keep.refl (fun k => k = b) w).setCell (p := ⟨b, 1, none⟩) (fun _ => rfl) _) (fun _ e => h.ne e)⟩, h.ne, ⟨h.ok.span, hs⟩⟩
theorem IsD.drew {w : World} {b g : Nat} {d : Dec} (h : IsD w b g d) : IsD w.drew b g d := h.keep (S := noBlock) (Keep.refl _ w).drew (fun h => h) (fun h => h)
theorem IsD.drewN {w : World} {b g : Nat} {d : Dec} (h : IsD w b g d) (n : Nat) : IsD (w.drewN n) b g d := h.keep (S := noBlock) ⟨rfl, rfl, rfl, Nat.le_refl _, fun _ _ _ => rfl⟩ (fun h => h) (fun h => h)
theorem IsD.same {w : World} {b g : Nat} {d : Dec} (h : IsD w b g d) {W : World} (e1 : W.heap = w.heap) (e2 : W.os = w.os) (e3 : W.tape = w.tape) (e4 : W.output = w.output) : IsD W b g d := h.keep (S := noBlock) ((Keep.refl _ w).same e1 e2 e3 e4) (fun h => h) (fun h => h)
/-- A decoder's cells. -/
theorem IsD.cells {w : World} {b g : Nat} {d : Dec} (h : IsD w b g d) : w.cell? ⟨b, 0, none⟩ = some (.int .u32 (d.span : Int)) ∧ w.cell? ⟨b, 1, none⟩ = some (.int .u32 (d.code : Int)) ∧ w.cell? ⟨b, 3, none⟩ = some (.bool d.want) ∧ (∀ i, w.frozen? ⟨b, i, none⟩ = false) ∧ ∃ a cap, w.cell? ⟨b, 2, none⟩ = some (.slice a d.rest.length cap) := by
  obtain ⟨a, cap, off, ho, hB⟩ := h.obj
  exact ⟨cell_of ho 0, cell_of ho 1, cell_of ho 3, fun i => frozen_of ho i, a, cap, cell_of ho 2⟩

set_option maxHeartbeats 1000000 in
theorem order_any (b g : Nat) (d : Dec) (w : World) (h : IsD w b g d) : Calls Tryz.prog 108 #[.pointer (some ⟨b, 0, none⟩)] w fun e w' => e = .returned (.tuple #[]) ∧ IsD w' b g (ordD d) ∧ Keep (fun k => k = b) w w' := by
  obtain ⟨c0, -, -, hf, -⟩ := h.cells
  have f0 := hf 0
  have hs := h.ok.span
  unfold ordD
  by_cases hl : d.span < 16777216
  · rw [if_pos hl]
    have hlI : (d.span : Int) < 16777216 := by omega
    obtain ⟨s, hs2⟩ : ∃ s, s = d.span * 256 := ⟨_, rfl⟩
    have hsI : (d.span : Int) * 256 % 4294967296 = (s : Int) := by omega
    have hsI2 : (d.span : Int) * 256 = (s : Int) := by omega
    have hsl : (s : Int) < 4294967296 := by omega
    have h2 := h.set_span s (by omega)
    have hk := (Keep.refl (fun k => k = b) w).setCell (p := ⟨b, 0, none⟩) (fun _ => rfl) (.int .u32 (s : Int))
    rw [← hs2]
    have HT := hid (take_any b g _ _ h2)
    have HK := (show Hid (Keep (fun k => k = b) w (w.setCell ⟨b, 0, none⟩ (.int .u32 (s : Int)))) from hk)
    clear h h2 hk hs2 hf hs hl
    generalize d.span = z at *
    go_enter Tryz.func108, Tryz.ntmps108
    go_wp2_with (go_at_call 51; refine HT.out.mono ?_; rintro e w1 ⟨rfl, h3, hk3⟩)
    go_end0
    exact ⟨rfl, h3, HK.out.trans' hk3⟩
  · rw [if_neg hl]
    have hlI : ¬ (d.span : Int) < 16777216 := by omega
    have HH := (show Hid (IsD w b g d) from h)
    clear h hf hl hs
    generalize d.span = z at *
    go_enter Tryz.func108, Tryz.ntmps108
    go_wp2
    go_end0
    exact ⟨rfl, HH.out, Keep.refl _ _⟩

/-- A bit as a number. -/
def bitI (one : Bool) : Int := if one then 1 else 0
theorem ne_of_type {w : World} {a b : Nat} {cs ds : Array Value} {s t : TypeId} (h1 : w.heap[a]? = some (.cells cs s (0, 0))) (h2 : w.heap[b]? = some (.cells ds t (0, 0))) (hne : s ≠ t) : a ≠ b := by
  rintro rfl
  rw [h1] at h2
  simp at h2
  exact hne h2.2

set_option maxHeartbeats 2000000 in
theorem bitD_any (b g pb i p : Nat) (t : TypeId) (cs : Array Value) (d : Dec) (w : World) (h : IsD w b g d) (hne : pb ≠ b) (hp : w.heap[pb]? = some (.cells cs t (0, 0))) (hi : cs[i]? = some (.int .u16 (p : Int))) (hp16 : p < 65536) (hgp : g ≠ pb) :
    Calls Tryz.prog 78 #[.pointer (some ⟨b, 0, none⟩), .pointer (some ⟨pb, i, none⟩)] w fun e w' => e = .returned (.int .i64 (bitI (oneD (ordD d) (fairN p)))) ∧ IsD w' b g (narD (ordD d) (fairN p)) ∧
      w'.heap[pb]? = some (.cells (cs.setIfInBounds i (.int .u16 ((learnN (fairN p) (oneD (ordD d) (fairN p)) : Nat) : Int))) t (0, 0)) ∧ Keep (fun k => k = b ∨ k = pb) w w' := by
  obtain ⟨hf1, hf2⟩ := fairN_bd p
  have HO := hid (order_any b g d w h)
  have HX := (show Hid (w.heap[pb]? = some (.cells cs t (0, 0)) ∧ cs[i]? = some (.int .u16 (p : Int))) from ⟨hp, hi⟩)
  have HC := hid (chanceOf_any p hp16)
  have hod := ordD_ok h.ok
  clear h hp hi
  generalize ordD d = O at *
  generalize fairN p = c at *
  have hok := narD_ok hod hf2
  have hs := hod.span
  have hc := hod.code
  have hbd := boundN_le (s := O.span) hf2
  have HB := hid (bound_any c O.span hf2 hs)
  have HL := hid (learned_any c)
  have hz : oneD O c = !decide (O.code < boundN O.span c) := rfl
  have HN := (show Hid ((oneD O c = true → narD O c = { O with span := O.span - boundN O.span c, code := O.code - boundN O.span c }) ∧ (oneD O c = false → narD O c = { O with span := boundN O.span c })) from ⟨fun e => by unfold narD; rw [if_pos e], fun e => by unfold narD; rw [if_neg (by rw [e]; decide)]⟩)
  generalize narD O c = D at *
  generalize oneD O c = z at *
  go_enter Tryz.func78, Tryz.ntmps78
  go_wp2_with fail
  refine HO.out.mono ?_
  rintro e w1 ⟨rfl, h1, k1⟩
  have hp1 := k1.obj HX.out.1 (fun e => hne e)
  have cp : w1.cell? ⟨pb, i, none⟩ = some (.int .u16 (p : Int)) := (cell_of hp1 i).trans HX.out.2
  have fp := frozen_of hp1 i
  obtain ⟨c0, c1, -, hf, -⟩ := h1.cells
  have f0 := hf 0
  have f1 := hf 1
  have HZ := (show Hid ((z = true → IsD ((w1.setCell ⟨b, 1, none⟩ (.int .u32 ((O.code - boundN O.span c : Nat) : Int))).setCell ⟨b, 0, none⟩ (.int .u32 ((O.span - boundN O.span c : Nat) : Int))) b g D) ∧ (z = false → IsD (w1.setCell ⟨b, 0, none⟩ (.int .u32 ((boundN O.span c : Nat) : Int))) b g D)) from by
    refine ⟨fun hz => ?_, fun hz => ?_⟩
    · rw [HN.out.1 hz]
      exact (h1.set_code (O.code - boundN O.span c) (by omega)).set_span (O.span - boundN O.span c) (by omega)
    · rw [HN.out.2 hz]
      exact h1.set_span (boundN O.span c) (by omega))
  have H1 := (show Hid (w1.heap[pb]? = some (.cells cs t (0, 0)) ∧ Keep (fun k => k = b) w w1) from ⟨hp1, k1⟩)
  clear h1 hp1 k1 hf hok HN hod HO HX
  generalize boundN O.span c = B at *
  generalize O.span = S at *
  generalize O.code = C at *
  by_cases hlt : C < B
  · have hz0 : z = false := by rw [hz]; simpa using hlt
    subst hz0
    have hltI : (C : Int) < (B : Int) := by omega
    have HI := hid (HZ.out.2 rfl)
    clear hz HZ hlt
    go_wp2_with (first | (go_at_call 109; refine (HC.out _).mono ?_; rintro e w' ⟨rfl, rfl⟩) | (go_at_call 110; refine (HB.out _).mono ?_; rintro e w' ⟨rfl, rfl⟩) | (go_at_call 111; refine (HL.out 0 false hf1 hf2 rfl _).mono ?_; rintro e w' ⟨rfl, rfl⟩))
    go_ret
    refine ⟨rfl, HI.out.keep ((Keep.refl (fun k => k = pb) _).setCell (p := ⟨pb, i, none⟩) (fun _ => rfl) _) (fun e => hne e.symm) hgp, set_obj (set_far H1.out.1 hne _ _) i _, ?_⟩
    exact (((H1.out.2.mono (fun _ _ e => .inl e)).setCell (p := ⟨b, 0, none⟩) (fun _ => .inl rfl) _).setCell (p := ⟨pb, i, none⟩) (fun _ => .inr rfl) _)
  · have hz0 : z = true := by rw [hz]; simpa using hlt
    subst hz0
    have hltI : ¬ (C : Int) < (B : Int) := by omega
    have e1 : ((C : Int) - (B : Int)) % 4294967296 = ((C - B : Nat) : Int) := by omega
    have e2 : ((S : Int) - (B : Int)) % 4294967296 = ((S - B : Nat) : Int) := by omega
    clear hs hc hbd
    have HI := hid (HZ.out.1 rfl)
    clear hz HZ hlt
    generalize C - B = C' at *
    generalize S - B = S' at *
    go_wp2_with (first | (go_at_call 109; refine (HC.out _).mono ?_; rintro e w' ⟨rfl, rfl⟩) | (go_at_call 110; refine (HB.out _).mono ?_; rintro e w' ⟨rfl, rfl⟩) | (go_at_call 111; refine (HL.out 1 true hf1 hf2 rfl _).mono ?_; rintro e w' ⟨rfl, rfl⟩))
    go_ret
    refine ⟨rfl, HI.out.keep ((Keep.refl (fun k => k = pb) _).setCell (p := ⟨pb, i, none⟩) (fun _ => rfl) _) (fun e => hne e.symm) hgp, set_obj (set_far (set_far H1.out.1 hne _ _) hne _ _) i _, ?_⟩
    exact ((((H1.out.2.mono (fun _ _ e => .inl e)).setCell (p := ⟨b, 1, none⟩) (fun _ => .inl rfl) _).setCell (p := ⟨b, 0, none⟩) (fun _ => .inl rfl) _).setCell (p := ⟨pb, i, none⟩) (fun _ => .inr rfl) _)

end Go.Proofs.YtnokemcogjoonaaGreatDoor

namespace Go.Proofs.YtnokemcogjoonaaGreatDoor
open Go.RowKit Go.Shelf
set_option linter.unusedVariables false

theorem u32_twice (x : Nat) (h : x * 2 + 1 < 4294967296) : bits .or .u32 ((x * 2 : Nat) : Int) 1 = ((x * 2 + 1 : Nat) : Int) := by
  have := u32_or_nat (x * 2) 1 (by omega) (by omega)
  rw [nat_join 1 (x * 2) 1 (by omega) (by omega)] at this
  exact this
theorem dirD_step (j : Nat) (D : Dec) (X : Nat) : dirD (j + 1) D X = dirD j (halfD (ordD D)) (X * 2 + if topD (ordD D) then 1 else 0) := rfl

set_option maxHeartbeats 4000000 in
theorem direct_any (b g : Nat) (n : Int) (d : Dec) (w : World) (h : IsD w b g d) : Calls Tryz.prog 136 #[.pointer (some ⟨b, 0, none⟩), .int .i64 n] w fun e w' => e = .returned (.int .u32 (((dirD (bitsN n) d 0).2 : Nat) : Int)) ∧ IsD w' b g (dirD (bitsN n) d 0).1 ∧ Keep (fun k => k = b) w w' := by
  have hm := bitsN_le n
  have HB := hid (directBits_any n)
  generalize bitsN n = m at *
  have hmx : Tryz.prog.follows .mixedOrders = true := by kernel_rfl
  have HS := (show Hid (∃ D X, X < 2 ^ 0 ∧ IsD w b g D ∧ dirD (m - 0) D X = dirD m d 0 ∧ Keep (fun k => k = b) w w ∧ X = 0) from ⟨d, 0, by decide, h, rfl, Keep.refl _ _, rfl⟩)
  clear h
  generalize hR : dirD m d 0 = R at *
  clear hR
  go_enter Tryz.func136, Tryz.ntmps136
  go_wp2_with (go_at_call 137; refine (HB.out _).mono ?_; rintro e w' ⟨rfl, hw⟩; obtain rfl := hw.symm)
  go_loopw [10, 5] (fun i x wr => ∃ (k : Nat) (X : Nat), k ≤ m ∧ i = .int .i64 k ∧ x = .int .u32 (X : Int) ∧ Hid (∃ D, X < 2 ^ k ∧ IsD wr b g D ∧ dirD (m - k) D X = R ∧ Keep (fun k => k = b) w wr)) (fun i _ _ => m - (intOf i).toNat)
  case atStart =>
    obtain ⟨D, X, a1, a2, a3, a4, rfl⟩ := HS.out
    exact ⟨0, 0, Nat.zero_le _, rfl, rfl, ⟨D, a1, a2, a3, a4⟩⟩
  case round =>
    obtain ⟨k, X, hk, rfl, rfl, HR⟩ := hrel
    by_cases hlt : k < m
    · obtain ⟨D, a1, a2, a3, a4⟩ := HR.out
      obtain ⟨j, hj⟩ : ∃ j, m - k = j + 1 := ⟨m - k - 1, by omega⟩
      have hj2 : m - (k + 1) = j := by omega
      rw [hj, dirD_step] at a3
      have hX31 : X < 2147483648 := Nat.lt_of_lt_of_le a1 (Nat.pow_le_pow_right (by omega) (by omega : k ≤ 31))
      have HO := hid (order_any b g D _ a2)
      have hod := ordD_ok a2.ok
      have HK := hid a4
      have HX := hid a1
      have HA := hid a3
      have HJ := hid hj2
      clear HR a1 a2 a3 a4 hj hj2
      generalize ordD D = O at *
      go_wp2_with fail
      refine HO.out.mono ?_
      rintro e w1 ⟨rfl, h1, k1⟩
      obtain ⟨c0, c1, -, hf, -⟩ := h1.cells
      have f0 := hf 0
      have f1 := hf 1
      have hs := hod.span
      have hc := hod.code
      obtain ⟨s, hs2⟩ : ∃ s, s = O.span / 2 := ⟨_, rfl⟩
      have hsI : (O.span : Int) / 2 = (s : Int) := by omega
      obtain ⟨Y, hY⟩ : ∃ Y, Y = X * 2 := ⟨_, rfl⟩
      have hYI : (X : Int) * 2 = (Y : Int) := by omega
      have hor := u32_twice X (by omega)
      rw [← hY] at hor
      obtain ⟨Y1, hY1⟩ : ∃ Y1, Y1 = Y + 1 := ⟨_, rfl⟩
      rw [← hY1] at hor
      have h2 := h1.set_span s (by omega)
      have k2 := (HK.out.trans' k1).setCell (p := ⟨b, 0, none⟩) (fun _ => rfl) (.int .u32 (s : Int))
      have ht : topD O = decide (s ≤ O.code) := by unfold topD; rw [hs2]
      have HD := (show Hid ((topD O = true → IsD ((w1.setCell ⟨b, 0, none⟩ (.int .u32 (s : Int))).setCell ⟨b, 1, none⟩ (.int .u32 ((O.code - s : Nat) : Int))) b g (halfD O)) ∧ (topD O = false → IsD (w1.setCell ⟨b, 0, none⟩ (.int .u32 (s : Int))) b g (halfD O)) ∧ Keep (fun k => k = b) w (w1.setCell ⟨b, 0, none⟩ (.int .u32 (s : Int)))) from by
        refine ⟨fun e => ?_, fun e => ?_, k2⟩
        · have := h2.set_code (O.code - s) (by omega)
          unfold halfD
          rw [if_pos e, ← hs2]
          exact this
        · unfold halfD
          rw [if_neg (by rw [e]; decide), ← hs2]
          exact h2)
      clear h1 k1 hf h2 k2 hod HO HK
      generalize halfD O = E at *
      generalize topD O = z at *
      have HY := (show Hid (Y < 2 ^ (k + 1) ∧ Y1 < 2 ^ (k + 1) ∧ Y = X * 2 ∧ Y1 = Y + 1) from ⟨by have := HX.out; rw [Nat.pow_succ]; omega, by have := HX.out; rw [Nat.pow_succ]; omega, hY, hY1⟩)
      clear hs2 hY hY1 HX
      generalize O.span = S at *
      generalize O.code = C at *
      by_cases hle : s ≤ C
      · have hz : z = true := by rw [ht]; simpa using hle
        subst hz
        have hleI : (s : Int) ≤ (C : Int) := by omega
        have e1 : ((C : Int) - (s : Int)) % 4294967296 = ((C - s : Nat) : Int) := by omega
        have HE := hid (HD.out.1 rfl)
        have HE2 := hid HD.out.2.2
        clear ht HD hs hc hle
        generalize C - s = C' at *
        go_wp2_with fail
        go_quiet (fail)
        go_wp2_with fail
        go_region
        go_wp2_with fail
        go_roundw
        case rel =>
          refine ⟨k + 1, Y1, by omega, by go_num, rfl, (show ∃ D, _ from ⟨E, HY.out.2.1, HE.out.same rfl rfl rfl rfl, ?_, (HE2.out.setCell (p := ⟨b, 1, none⟩) (fun _ => rfl) _).same rfl rfl rfl rfl⟩)⟩
          rw [HJ.out, HY.out.2.2.2, HY.out.2.2.1]
          exact HA.out
        case measure => simp [intOf]; omega
      · have hz : z = false := by rw [ht]; simpa using hle
        subst hz
        have hleI : ¬ (s : Int) ≤ (C : Int) := by omega
        have HE := hid (HD.out.2.1 rfl)
        have HE2 := hid HD.out.2.2
        clear ht HD hs hc hle
        go_wp2_with fail
        go_quiet (fail)
        go_wp2_with fail
        go_roundw
        case rel =>
          refine ⟨k + 1, Y, by omega, by go_num, rfl, (show ∃ D, _ from ⟨E, HY.out.1, HE.out.same rfl rfl rfl rfl, ?_, HE2.out.same rfl rfl rfl rfl⟩)⟩
          rw [HJ.out, HY.out.2.2.1]
          exact HA.out
        case measure => simp [intOf]; omega
    · obtain ⟨D, a1, a2, a3, a4⟩ := HR.out
      have hk2 : k = m := by omega
      rw [hk2, Nat.sub_self] at a3
      have a3' : R = (D, X) := a3.symm
      have HF := (show Hid (IsD _ b g D ∧ Keep (fun k => k = b) w _ ∧ R = (D, X)) from ⟨a2, a4, a3'⟩)
      clear HR a1 a2 a3 a4 a3' hk2
      go_wp2_with fail
      go_ret
      rw [HF.out.2.2]
      exact ⟨rfl, HF.out.1, HF.out.2.1⟩

end Go.Proofs.YtnokemcogjoonaaGreatDoor

namespace Go.Proofs.YtnokemcogjoonaaGreatDoor

/-- Bytes as a number, the greatest first. -/
def val (l : List Nat) : Nat := l.foldl (fun a x => a * 256 + x) 0
theorem val_from (l : List Nat) : ∀ a, l.foldl (fun a x => a * 256 + x) a = a * 256 ^ l.length + val l := by
  induction l with
  | nil => intro a; simp [val]
  | cons x r ih =>
    intro a
    show r.foldl _ (a * 256 + x) = _
    have e : val (x :: r) = x * 256 ^ r.length + val r := by
      show r.foldl _ (0 * 256 + x) = _
      rw [ih]; simp
    rw [ih, e, List.length_cons, Nat.pow_succ, Nat.add_mul, Nat.mul_assoc, Nat.mul_comm 256, Nat.add_assoc]
theorem val_cons (x : Nat) (r : List Nat) : val (x :: r) = x * 256 ^ r.length + val r := by
  show r.foldl _ (0 * 256 + x) = _
  rw [val_from]; simp
theorem val_app (a b : List Nat) : val (a ++ b) = val a * 256 ^ b.length + val b := by
  unfold val
  rw [List.foldl_append, val_from]
  rfl
theorem val_one (x : Nat) : val [x] = x := by simp [val]
theorem val_take (b : List Nat) (j : Nat) (h : j < b.length) : val (b.take (j + 1)) = val (b.take j) * 256 + b[j]?.getD 0 := by
  rw [List.take_succ_eq_append_getElem h, val_app, val_one, List.getElem?_eq_getElem h]
  simp
theorem val_rep (n x : Nat) : val (List.replicate n x) * 255 + x = x * 256 ^ n := by
  induction n with
  | zero => simp [val]
  | succ n ih =>
    rw [List.replicate_succ, val_cons, List.length_replicate, Nat.pow_succ, ← Nat.mul_assoc, Nat.add_mul, Nat.add_assoc, ih]
    exact (Nat.mul_succ (x * 256 ^ n) 255).symm
theorem val_flush (f n c : Nat) (hc : c ≤ 1) (hf : f + c < 256) : val (flushL f (n + 1) c) = val (f :: List.replicate n 255) + c := by
  unfold flushL
  show val ((f + c) % 256 :: List.replicate n ((255 + c) % 256)) = _
  rw [val_cons, val_cons, List.length_replicate, List.length_replicate, Nat.mod_eq_of_lt hf]
  have h2 := val_rep n 255
  rcases (show c = 0 ∨ c = 1 by omega) with rfl | rfl
  · simp
  · have h1 := val_rep n 0
    rw [show (255 + 1) % 256 = 0 from rfl, Nat.add_mul]
    omega

/-- All that went out or waits, and low, as one number. -/
def numE (e : Enc) : Nat := val (e.out ++ e.first :: List.replicate (e.wait - 1) 255)
def totE (e : Enc) : Nat := numE e * 4294967296 + e.low
/-- No carry can come to what is full. -/
structure CarR (e : Enc) (r : Nat) : Prop where
  first : e.first < 256
  wait : 1 ≤ e.wait
  pos : 0 < r
  low : e.low + r ≤ 8589934592
  full : e.first = 255 → e.low + r ≤ 4294967296
theorem CarR.less {e : Enc} {r r' : Nat} (h : CarR e r) (h0 : 0 < r') (h1 : r' ≤ r) : CarR e r' :=
  ⟨h.first, h.wait, h0, by have := h.low; omega, fun q => by have := h.full q; omega⟩
theorem shiftE_tot {e : Enc} {r : Nat} (h : CarR e r) : totE (shiftE e) = 256 * totE e := by
  have h1 := h.low
  have h2 := h.pos
  have h3 := h.full
  have h4 := h.first
  obtain ⟨n, hn⟩ : ∃ n, e.wait = n + 1 := ⟨e.wait - 1, by have := h.wait; omega⟩
  unfold totE numE shiftE
  split
  · rename_i hl
    show val (e.out ++ e.first :: List.replicate (e.wait + 1 - 1) 255) * 4294967296 + e.low % 16777216 * 256 = _
    rw [hn, show n + 1 + 1 - 1 = n + 1 from rfl, show n + 1 - 1 = n from rfl, List.replicate_succ', ← List.cons_append, ← List.append_assoc, val_app, val_one, List.length_singleton]
    omega
  · rename_i hl
    show val (e.out ++ flushL e.first e.wait (e.low / 4294967296 % 256) ++ (e.low / 16777216 % 256) :: List.replicate (1 - 1) 255) * 4294967296 + e.low % 16777216 * 256 = _
    rw [hn, show n + 1 - 1 = n from rfl, show (1 - 1 : Nat) = 0 from rfl, List.replicate_zero, val_app, val_one, List.length_singleton, val_app, val_app, flushL_len, List.length_cons, List.length_replicate]
    rw [val_flush e.first n (e.low / 4294967296 % 256) (by omega) (by
      by_cases q : e.first = 255
      · have := h3 q; omega
      · omega)]
    generalize val (e.first :: List.replicate n 255) = V
    generalize val e.out * 256 ^ (n + 1) = U
    omega
theorem shiftE_car {e : Enc} {r : Nat} (h : CarR e r) (hr : r < 16777216) : CarR (shiftE e) (r * 256) := by
  have h1 := h.low
  have h2 := h.pos
  have h3 := h.full
  have h4 := h.first
  unfold shiftE
  split
  · exact ⟨h.first, by show 1 ≤ e.wait + 1; omega, by omega, by show e.low % 16777216 * 256 + _ ≤ _; omega, fun q => by
      have := h3 q
      show e.low % 16777216 * 256 + _ ≤ _
      omega⟩
  · refine ⟨by show e.low / 16777216 % 256 < _; omega, Nat.le_refl _, by omega, by show e.low % 16777216 * 256 + _ ≤ _; omega, fun q => ?_⟩
    have q' : e.low / 16777216 % 256 = 255 := q
    show e.low % 16777216 * 256 + _ ≤ _
    omega

/-- An encoder at work. -/
structure Good (e : Enc) : Prop where
  ok : EncOk e
  full : e.first = 255 → e.low + e.span ≤ 4294967296
  top : totE e + e.span ≤ 4294967296 * 256 ^ (manyE e - 1)
theorem Good.car {e : Enc} (h : Good e) : CarR e e.span := ⟨h.ok.first, h.ok.wait, by have := h.ok.s1; omega, h.ok.low, h.full⟩
theorem many_pos {e : Enc} (h : 1 ≤ e.wait) : 1 ≤ manyE e := by unfold manyE; omega
theorem newE_good : Good newE := ⟨newE_ok, (fun q => by cases q), by decide⟩
/-- What becomes of both numbers where part of the range is taken. -/
theorem cutE_tot {e : Enc} (h : Good e) {o s : Nat} (hs : 65536 ≤ s) (ho : o + s ≤ e.span) :
    (16777216 ≤ s ∧ totE (cutE e o s) = totE e + o ∧ (cutE e o s).span = s ∧ manyE (cutE e o s) = manyE e) ∨ (s < 16777216 ∧ totE (cutE e o s) = (totE e + o) * 256 ∧ (cutE e o s).span = s * 256 ∧ manyE (cutE e o s) = manyE e + 1) := by
  have h1 := h.ok.low
  unfold cutE normE
  by_cases hl : s < 16777216
  · right
    rw [if_pos (show ({ e with low := e.low + o, span := s } : Enc).span < 16777216 from hl)]
    have hc : CarR (⟨e.low + o, s * 256, e.first, e.wait, e.out⟩ : Enc) s := ⟨h.ok.first, h.ok.wait, by omega, by show e.low + o + s ≤ _; omega, fun q => by have := h.full q; show e.low + o + s ≤ _; omega⟩
    refine ⟨hl, ?_, shiftE_span _, shiftE_many _⟩
    show totE (shiftE ⟨e.low + o, s * 256, e.first, e.wait, e.out⟩) = _
    rw [shiftE_tot hc]
    show 256 * (numE e * 4294967296 + (e.low + o)) = (numE e * 4294967296 + e.low + o) * 256
    omega
  · left
    rw [if_neg (show ¬ ({ e with low := e.low + o, span := s } : Enc).span < 16777216 from hl)]
    refine ⟨by omega, ?_, rfl, rfl⟩
    show numE e * 4294967296 + (e.low + o) = numE e * 4294967296 + e.low + o
    omega
theorem cutE_good {e : Enc} (h : Good e) {o s : Nat} (hs : 65536 ≤ s) (ho : o + s ≤ e.span) : Good (cutE e o s) := by
  refine ⟨cutE_ok h.ok hs ho, ?_, ?_⟩
  · unfold cutE normE
    by_cases hl : s < 16777216
    · rw [if_pos (show ({ e with low := e.low + o, span := s } : Enc).span < 16777216 from hl)]
      have h1 := h.ok.low
      have hc : CarR (⟨e.low + o, s * 256, e.first, e.wait, e.out⟩ : Enc) s := ⟨h.ok.first, h.ok.wait, by omega, by show e.low + o + s ≤ _; omega, fun q => by have := h.full q; show e.low + o + s ≤ _; omega⟩
      have := (shiftE_car hc hl).full
      rw [shiftE_span]
      exact this
    · rw [if_neg (show ¬ ({ e with low := e.low + o, span := s } : Enc).span < 16777216 from hl)]
      intro q
      have := h.full q
      show e.low + o + s ≤ _
      omega
  · have ht := h.top
    have hm := many_pos h.ok.wait
    rcases cutE_tot h hs ho with ⟨_, a, b, c⟩ | ⟨_, a, b, c⟩
    · rw [a, b, c]; omega
    · rw [a, b, c, show manyE e + 1 - 1 = manyE e - 1 + 1 from by omega, Nat.pow_succ]
      omega
theorem bitE_good {e : Enc} (h : Good e) {c : Nat} (h1 : 31 ≤ c) (h2 : c ≤ 2017) (one : Bool) : Good (bitE e c one) := by
  have := boundN_lt h1 h2 h.ok.s1
  unfold bitE
  split
  · exact cutE_good h (by omega) (by omega)
  · exact cutE_good h (by omega) (by omega)
theorem halfE_good {e : Enc} (h : Good e) (one : Bool) : Good (halfE e one) := by
  have := h.ok.s1
  unfold halfE
  exact cutE_good h (by omega) (by split <;> omega)
theorem dirE_good (x k : Nat) : ∀ {e : Enc}, Good e → Good (dirE x k e) := by
  induction k with
  | zero => exact fun h => h
  | succ k ih => exact fun h => ih (halfE_good h _)
/-- What Close tells. -/
theorem closeE_val {e : Enc} (h : Good e) : val (closeE e).out = totE e ∧ (closeE e).out.length = manyE e + 4 := by
  have c0 := h.car.less (r' := 1) (by omega) (by have := h.ok.s1; omega)
  have t1 := shiftE_tot c0
  have c1 := (shiftE_car c0 (by omega)).less (r' := 1) (by omega) (by omega)
  have t2 := shiftE_tot c1
  have c2 := (shiftE_car c1 (by omega)).less (r' := 1) (by omega) (by omega)
  have t3 := shiftE_tot c2
  have c3 := (shiftE_car c2 (by omega)).less (r' := 1) (by omega) (by omega)
  have t4 := shiftE_tot c3
  have c4 := (shiftE_car c3 (by omega)).less (r' := 1) (by omega) (by omega)
  have t5 := shiftE_tot c4
  have hl : (shiftE (shiftE (shiftE (shiftE e)))).low = 0 := by
    rw [shiftE_low, shiftE_low, shiftE_low, shiftE_low]
    omega
  have hm := closeE_many e
  unfold closeE at hm ⊢
  generalize hE : shiftE (shiftE (shiftE (shiftE e))) = E at *
  have hs : shiftE E = ⟨0, E.span, 0, 1, E.out ++ flushL E.first E.wait 0⟩ := by
    unfold shiftE
    rw [hl]
    rfl
  rw [hs] at t5 hm ⊢
  have hT : totE (⟨0, E.span, 0, 1, E.out ++ flushL E.first E.wait 0⟩ : Enc) = val (E.out ++ flushL E.first E.wait 0) * 256 * 4294967296 := by
    unfold totE numE
    show val (E.out ++ flushL E.first E.wait 0 ++ 0 :: List.replicate (1 - 1) 255) * 4294967296 + 0 = _
    rw [show (1 - 1 : Nat) = 0 from rfl, List.replicate_zero, val_app (E.out ++ flushL E.first E.wait 0), val_one, List.length_singleton]
    omega
  rw [hT] at t5
  refine ⟨?_, ?_⟩
  · show val (E.out ++ flushL E.first E.wait 0) = _
    omega
  · unfold manyE at hm
    show (E.out ++ flushL E.first E.wait 0).length = _
    have hm' : (E.out ++ flushL E.first E.wait 0).length + 1 = manyE e + 5 := hm
    omega
theorem val_first {x : Nat} {r : List Nat} {m : Nat} (hr : r.length = m) (h : val (x :: r) < 256 ^ m) : x = 0 := by
  rw [val_cons, hr] at h
  cases x with
  | zero => rfl
  | succ x => rw [Nat.succ_mul] at h; omega
theorem closeE_first {e : Enc} (h : Good e) : 5 ≤ (closeE e).out.length ∧ (closeE e).out[0]?.getD 0 = 0 := by
  obtain ⟨h1, h2⟩ := closeE_val h
  have hm := many_pos h.ok.wait
  refine ⟨by omega, ?_⟩
  have ht := h.top
  have hs := h.ok.s1
  cases hb : (closeE e).out with
  | nil => rfl
  | cons x r =>
    rw [hb] at h1 h2
    have : x = 0 := val_first (r := r) (m := manyE e + 3) (by have h3 : r.length + 1 = manyE e + 4 := h2; omega) (by
      rw [h1, show manyE e + 3 = manyE e - 1 + 4 from by omega, Nat.pow_add, show (256 ^ 4 : Nat) = 4294967296 from rfl, Nat.mul_comm]
      omega)
    simpa using this

/-- The bytes b begin as the encoder's numbers tell. -/
structure Has (b : List Nat) (e : Enc) : Prop where
  lo : totE e ≤ val (b.take (manyE e + 4))
  hi : val (b.take (manyE e + 4)) < totE e + e.span
  len : manyE e + 4 ≤ b.length
theorem closeE_has {e : Enc} (h : Good e) : Has (closeE e).out e := by
  obtain ⟨h1, h2⟩ := closeE_val h
  have hs := h.ok.s1
  have e1 : (closeE e).out.take (manyE e + 4) = (closeE e).out := List.take_of_length_le (by omega)
  exact ⟨by rw [e1, h1]; exact Nat.le_refl _, by rw [e1, h1]; omega, by omega⟩
/-- Of bytes that begin as part of the range tells. -/
theorem cut_back {b : List Nat} (hb : ∀ j : Nat, b[j]?.getD 0 < 256) {e : Enc} (h : Good e) {o s : Nat} (hs : 65536 ≤ s) (ho : o + s ≤ e.span) (hh : Has b (cutE e o s)) :
    totE e + o ≤ val (b.take (manyE e + 4)) ∧ val (b.take (manyE e + 4)) < totE e + o + s ∧ manyE e + 4 ≤ b.length := by
  have l1 := hh.lo
  have l2 := hh.hi
  have l3 := hh.len
  rcases cutE_tot h hs ho with ⟨_, a1, a2, a3⟩ | ⟨_, a1, a2, a3⟩
  · rw [a1, a3] at l1; rw [a1, a2, a3] at l2; rw [a3] at l3
    exact ⟨l1, l2, l3⟩
  · rw [a3] at l3
    have ht := val_take b (manyE e + 4) (by omega)
    have hx := hb (manyE e + 4)
    rw [a1, a3, show manyE e + 1 + 4 = manyE e + 4 + 1 from by omega, ht] at l1
    rw [a1, a2, a3, show manyE e + 1 + 4 = manyE e + 4 + 1 from by omega, ht] at l2
    exact ⟨by omega, by omega, by omega⟩
theorem cut_has {b : List Nat} (hb : ∀ j : Nat, b[j]?.getD 0 < 256) {e : Enc} (h : Good e) {o s : Nat} (hs : 65536 ≤ s) (ho : o + s ≤ e.span) (hh : Has b (cutE e o s)) : Has b e := by
  obtain ⟨a1, a2, a3⟩ := cut_back hb h hs ho hh
  exact ⟨by omega, by omega, a3⟩
theorem bit_has {b : List Nat} (hb : ∀ j : Nat, b[j]?.getD 0 < 256) {e : Enc} (h : Good e) {c : Nat} (h1 : 31 ≤ c) (h2 : c ≤ 2017) (one : Bool) (hh : Has b (bitE e c one)) : Has b e := by
  have := boundN_lt h1 h2 h.ok.s1
  unfold bitE at hh
  split at hh
  · exact cut_has hb h (by omega) (by omega) hh
  · exact cut_has hb h (by omega) (by omega) hh
theorem half_has {b : List Nat} (hb : ∀ j : Nat, b[j]?.getD 0 < 256) {e : Enc} (h : Good e) (one : Bool) (hh : Has b (halfE e one)) : Has b e := by
  have := h.ok.s1
  exact cut_has (o := if one then e.span / 2 else 0) (s := e.span / 2) hb h (by omega) (by split <;> omega) hh
theorem dir_has {b : List Nat} (hb : ∀ j : Nat, b[j]?.getD 0 < 256) (x k : Nat) : ∀ {e : Enc}, Good e → Has b (dirE x k e) → Has b e := by
  induction k with
  | zero => exact fun _ h => h
  | succ k ih => exact fun h hh => half_has hb h _ (ih (halfE_good h _) hh)

/-- The decoder, in order, that stands where the encoder stood. -/
def syncD (b : List Nat) (e : Enc) : Dec := ⟨e.span, val (b.take (manyE e + 4)) - totE e, b.drop (manyE e + 4), false⟩
theorem sync_cut {b : List Nat} (hb : ∀ j : Nat, b[j]?.getD 0 < 256) {e : Enc} (h : Good e) {o s : Nat} (hs : 65536 ≤ s) (ho : o + s ≤ e.span) (hh : Has b (cutE e o s)) :
    ordD ⟨s, val (b.take (manyE e + 4)) - totE e - o, b.drop (manyE e + 4), false⟩ = syncD b (cutE e o s) := by
  obtain ⟨l1, l2, l3⟩ := cut_back hb h hs ho hh
  have l4 := hh.len
  have hs2 := h.ok.s2
  unfold ordD syncD
  rcases cutE_tot h hs ho with ⟨q, a1, a2, a3⟩ | ⟨q, a1, a2, a3⟩
  · rw [a1, a2, a3, if_neg (by show ¬ s < _; omega)]
    rw [show val (b.take (manyE e + 4)) - totE e - o = val (b.take (manyE e + 4)) - (totE e + o) from by omega]
  · rw [a3] at l4
    have ht := val_take b (manyE e + 4) (by omega)
    have hx := hb (manyE e + 4)
    have hd : b.drop (manyE e + 4) = (b[manyE e + 4]?.getD 0) :: b.drop (manyE e + 4 + 1) := by
      rw [List.drop_eq_getElem_cons (by omega), List.getElem?_eq_getElem (by omega)]
      rfl
    rw [a1, a2, a3, show manyE e + 1 + 4 = manyE e + 4 + 1 from by omega, ht, if_pos (by show s < _; omega)]
    unfold takeD
    simp only [hd]
    rw [Nat.mod_eq_of_lt (by omega)]
    rw [show (val (b.take (manyE e + 4)) - totE e - o) * 256 + b[manyE e + 4]?.getD 0 = val (b.take (manyE e + 4)) * 256 + b[manyE e + 4]?.getD 0 - (totE e + o) * 256 from by omega]
/-- A bit that went in comes out. -/
theorem bit_sync {b : List Nat} (hb : ∀ j : Nat, b[j]?.getD 0 < 256) {e : Enc} (h : Good e) {c : Nat} (h1 : 31 ≤ c) (h2 : c ≤ 2017) (one : Bool) (hh : Has b (bitE e c one)) {d : Dec} (hd : ordD d = syncD b e) :
    oneD (ordD d) c = one ∧ ordD (narD (ordD d) c) = syncD b (bitE e c one) := by
  have hbd := boundN_lt h1 h2 h.ok.s1
  rw [hd]
  cases one with
  | true =>
    have hh' : Has b (cutE e (boundN e.span c) (e.span - boundN e.span c)) := hh
    obtain ⟨l1, l2, l3⟩ := cut_back hb h (by omega) (by omega) hh'
    have e1 : oneD (syncD b e) c = true := by
      unfold oneD syncD
      simp only [Bool.not_eq_true', decide_eq_false_iff_not]
      omega
    refine ⟨e1, ?_⟩
    unfold narD
    rw [if_pos e1]
    have := sync_cut (o := boundN e.span c) (s := e.span - boundN e.span c) hb h (by omega) (by omega) hh'
    exact this
  | false =>
    have hh' : Has b (cutE e 0 (boundN e.span c)) := hh
    obtain ⟨l1, l2, l3⟩ := cut_back hb h (by omega) (by omega) hh'
    have e1 : oneD (syncD b e) c = false := by
      unfold oneD syncD
      simp only [Bool.not_eq_false', decide_eq_true_eq]
      omega
    refine ⟨e1, ?_⟩
    unfold narD
    rw [if_neg (by rw [e1]; decide)]
    have := sync_cut (o := 0) (s := boundN e.span c) hb h (by omega) (by omega) hh'
    rw [Nat.sub_zero] at this
    exact this
theorem half_sync {b : List Nat} (hb : ∀ j : Nat, b[j]?.getD 0 < 256) {e : Enc} (h : Good e) (one : Bool) (hh : Has b (halfE e one)) {d : Dec} (hd : ordD d = syncD b e) :
    topD (ordD d) = one ∧ ordD (halfD (ordD d)) = syncD b (halfE e one) := by
  have hs1 := h.ok.s1
  rw [hd]
  cases one with
  | true =>
    have hh' : Has b (cutE e (e.span / 2) (e.span / 2)) := hh
    obtain ⟨l1, l2, l3⟩ := cut_back hb h (by omega) (by omega) hh'
    have e1 : topD (syncD b e) = true := by
      unfold topD syncD
      simp only [decide_eq_true_eq]
      omega
    refine ⟨e1, ?_⟩
    unfold halfD
    rw [if_pos e1]
    have := sync_cut (o := e.span / 2) (s := e.span / 2) hb h (by omega) (by omega) hh'
    exact this
  | false =>
    have hh' : Has b (cutE e 0 (e.span / 2)) := hh
    obtain ⟨l1, l2, l3⟩ := cut_back hb h (by omega) (by omega) hh'
    have e1 : topD (syncD b e) = false := by
      unfold topD syncD
      simp only [decide_eq_false_iff_not]
      omega
    refine ⟨e1, ?_⟩
    unfold halfD
    rw [if_neg (by rw [e1]; decide)]
    have := sync_cut (o := 0) (s := e.span / 2) hb h (by omega) (by omega) hh'
    rw [Nat.sub_zero] at this
    exact this
theorem dir_sync {b : List Nat} (hb : ∀ j : Nat, b[j]?.getD 0 < 256) (x k : Nat) : ∀ {e : Enc} (d : Dec) (y : Nat), Good e → Has b (dirE x k e) → ordD d = syncD b e →
    ordD (dirD k d y).1 = syncD b (dirE x k e) ∧ (dirD k d y).2 = y * 2 ^ k + x % 2 ^ k := by
  induction k with
  | zero => exact fun d y _ _ hd => ⟨hd, by simp [dirD, Nat.mod_one]⟩
  | succ k ih =>
    intro e d y h hh hd
    have hh1 : Has b (halfE e (x / 2 ^ k % 2 == 1)) := dir_has hb x k (halfE_good h _) hh
    obtain ⟨s1, s2⟩ := half_sync hb h _ hh1 hd
    obtain ⟨t1, t2⟩ := ih (halfD (ordD d)) (y * 2 + if topD (ordD d) then 1 else 0) (halfE_good h _) hh s2
    refine ⟨t1, ?_⟩
    show (dirD k (halfD (ordD d)) (y * 2 + if topD (ordD d) then 1 else 0)).2 = _
    rw [t2, s1, Nat.mod_pow_succ, Nat.pow_succ]
    have : (if (x / 2 ^ k % 2 == 1) = true then 1 else 0) = x / 2 ^ k % 2 := by
      rcases Nat.mod_two_eq_zero_or_one (x / 2 ^ k) with q | q <;> rw [q] <;> rfl
    rw [this, Nat.add_mul, Nat.mul_assoc, Nat.mul_comm 2 (2 ^ k), Nat.mul_comm (x / 2 ^ k % 2)]
    omega
/-- Where all was read. -/
theorem sync_end {e : Enc} (h : Good e) : syncD (closeE e).out e = ⟨e.span, 0, [], false⟩ := by
  obtain ⟨h1, h2⟩ := closeE_val h
  unfold syncD
  rw [List.take_of_length_le (by omega), h1, Nat.sub_self, List.drop_of_length_le (by omega)]
/-- Where a decoder begins. -/
def newD (b : List Nat) : Dec := ⟨4294967295, val ((b.drop 1).take 4), b.drop 5, false⟩
theorem sync_new {b : List Nat} (h5 : 5 ≤ b.length) (h0 : b[0]?.getD 0 = 0) : ordD (newD b) = syncD b newE := by
  have ht : totE newE = 0 := by decide
  unfold ordD syncD
  rw [if_neg (by show ¬ 4294967295 < 16777216; omega), ht]
  show newD b = ⟨4294967295, val (b.take 5) - 0, b.drop 5, false⟩
  cases b with
  | nil => simp at h5
  | cons x r =>
    have : x = 0 := by simpa using h0
    subst this
    unfold newD
    rw [List.drop_succ_cons, List.drop_zero, Nat.sub_zero, List.take_succ_cons, val_cons, Nat.zero_mul, Nat.zero_add]

end Go.Proofs.YtnokemcogjoonaaGreatDoor

namespace Go.Proofs.YtnokemcogjoonaaGreatDoor
open Go.RowKit Go.Shelf
set_option linter.unusedVariables false

/-- What End tells. -/
def endE (d : Dec) : Nat := if d.want then 10 else if d.code = 0 then 0 else 11
def endL (d : Dec) : Nat := if endE d = 0 then d.rest.length else 0

set_option maxHeartbeats 1000000 in
theorem end_any (b g : Nat) (d : Dec) (w : World) (h : IsD w b g d) : Calls Tryz.prog 85 #[.pointer (some ⟨b, 0, none⟩)] w fun e w' => e = .returned (.tuple #[.int .i64 ((endL (ordD d) : Nat) : Int), .int .i64 ((endE (ordD d) : Nat) : Int)]) ∧ IsD w' b g (ordD d) ∧ Keep (fun k => k = b) w w' := by
  have HO := hid (order_any b g d w h)
  have hod := ordD_ok h.ok
  clear h
  generalize ordD d = O at *
  have hc := hod.code
  go_enter Tryz.func85, Tryz.ntmps85
  go_wp2_with fail
  refine HO.out.mono ?_
  rintro e w1 ⟨rfl, h1, k1⟩
  obtain ⟨c0, c1, c3, hf, a, cap, c2⟩ := h1.cells
  have HF := (show Hid (IsD w1 b g O ∧ Keep (fun k => k = b) w w1) from ⟨h1, k1⟩)
  clear h1 k1 hf HO
  have HE : Hid (endE O = if O.want then 10 else if O.code = 0 then 0 else 11) := (show endE O = _ from rfl)
  have HL : Hid (endL O = if endE O = 0 then O.rest.length else 0) := (show endL O = _ from rfl)
  cases hw : O.want with
  | true =>
    rw [hw] at c3
    rw [hw] at HE
    clear hw
    go_wp2_with fail
    refine bodyPost_ret (v := .tuple #[.int .i64 0, .int .i64 10]) (by simp [results, Tryz.results85]) rfl ?_
    rw [HL.out, HE.out]
    exact ⟨rfl, HF.out⟩
  | false =>
    rw [hw] at c3
    rw [hw] at HE
    clear hw
    by_cases hz : O.code = 0
    · rw [hz] at c1 HE
      rw [show (((0 : Nat) : Int)) = (0 : Int) from rfl] at c1
      go_wp2_with fail
      refine bodyPost_ret (v := .tuple #[.int .i64 (O.rest.length : Int), .int .i64 0]) (by simp [results, Tryz.results85]) rfl ?_
      rw [HL.out, HE.out]
      exact ⟨rfl, HF.out⟩
    · have hzI : (((O.code : Nat) : Int) != 0) = true := by simp; omega
      have HZ := hid hz
      clear hz
      go_wp2_with fail
      refine bodyPost_ret (v := .tuple #[.int .i64 0, .int .i64 11]) (by simp [results, Tryz.results85]) rfl ?_
      rw [HL.out, HE.out, if_neg HZ.out]
      exact ⟨rfl, HF.out⟩

/-- Of none. -/
theorem end_nil (w : World) : Calls Tryz.prog 85 #[.pointer none] w fun e w' => e = .returned (.tuple #[.int .i64 0, .int .i64 1]) ∧ w' = w := by
  go_enter Tryz.func85, Tryz.ntmps85
  go_wp2
  exact bodyPost_ret (v := .tuple #[.int .i64 0, .int .i64 1]) (by simp [results, Tryz.results85]) rfl ⟨rfl, rfl⟩
theorem bitD_nil (p : Value) (hp : ∃ a, p = .pointer a) (w : World) : Calls Tryz.prog 78 #[.pointer none, p] w fun e w' => e = .returned (.int .i64 0) ∧ w' = w := by
  obtain ⟨a, rfl⟩ := hp
  go_enter Tryz.func78, Tryz.ntmps78
  go_wp2
  go_ret
  exact ⟨rfl, rfl⟩
theorem direct_nil (n : Int) (w : World) : Calls Tryz.prog 136 #[.pointer none, .int .i64 n] w fun e w' => e = .returned (.int .u32 0) ∧ w' = w := by
  go_enter Tryz.func136, Tryz.ntmps136
  go_wp2
  go_ret
  exact ⟨rfl, rfl⟩

def takesD : Nat → Dec → Dec
  | 0, d => d
  | k + 1, d => takeD (takesD k d)
theorem takes_four {bs : List Nat} (h5 : 5 ≤ bs.length) (hb : ∀ j : Nat, bs[j]?.getD 0 < 256) : takesD 4 ⟨4294967295, 0, bs.drop 1, false⟩ = newD bs := by
  match bs, h5, hb with
  | x0 :: x1 :: x2 :: x3 :: x4 :: r, _, hb =>
    have h1 := hb 1
    have h2 := hb 2
    have h3 := hb 3
    have h4 := hb 4
    simp only [List.getElem?_cons_succ, List.getElem?_cons_zero, Option.getD_some] at h1 h2 h3 h4
    simp only [takesD, takeD, newD, List.drop_succ_cons, List.drop_zero, List.take_succ_cons, List.take_zero, val, List.foldl_cons, List.foldl_nil]
    congr 1
    omega
theorem owns_base {w : World} {base n : Nat} {v : Value} {xs : List Value} (h : w.ownsRow base 5 1 v n xs) : w.ownsRow 0 5 1 v n xs := by
  refine ⟨h.1, ?_⟩
  rcases h.2 with e | ⟨g, cap, cur, e, hb, hr⟩
  · exact .inl e
  · exact .inr ⟨g, cap, cur, e, Nat.zero_le _, hr⟩
theorem owns_ge {w : World} {base n : Nat} {v : Value} {xs : List Value} (h : w.ownsRow base 5 1 v n xs) (g : Nat) (hg : v.ownBlock = some g) : base ≤ g := by
  rcases h.2 with ⟨rfl, _⟩ | ⟨g', cap, cur, rfl, hb, hr⟩
  · cases hg
  · have : g' = g := by simpa [Value.ownBlock] using hg
    omega

section
attribute [local go_sem] sliceSem_eq
theorem newD_short (a : Option Addr) (cap gb off : Nat) (bs : List Nat) (w : World) (hB : Bytes w a cap gb off bs) (hl : bs.length < 5) :
    Calls Tryz.prog 29 #[.slice a bs.length cap] w fun e w' => e = .returned (.tuple #[.pointer none, .int .i64 10]) ∧ w' = w := by
  have hI : (bs.length : Int) < 5 := by omega
  generalize bs.length = n at *
  clear hB hl
  go_enter Tryz.func29, Tryz.ntmps29
  go_wp2
  exact bodyPost_ret (v := .tuple #[.pointer none, .int .i64 10]) (by simp [results, Tryz.results29]) rfl ⟨rfl, rfl⟩
set_option maxHeartbeats 1000000 in
theorem newD_bad (a : Option Addr) (cap gb off : Nat) (bs : List Nat) (w : World) (hB : Bytes w a cap gb off bs) (hl : 5 ≤ bs.length) (h0 : bs[0]?.getD 0 ≠ 0) :
    Calls Tryz.prog 29 #[.slice a bs.length cap] w fun e w' => e = .returned (.tuple #[.pointer none, .int .i64 11]) ∧ w' = w := by
  have hI : ¬ (bs.length : Int) < 5 := by omega
  have hI2 : (0 : Int) < (bs.length : Int) := by omega
  have hc := hB.cells 0 (by omega)
  rw [Nat.add_zero] at hc
  obtain rfl : a = some ⟨gb, off, none⟩ := by
    rcases hB.at_ with e | e
    · exact e
    · rw [e] at hl; simp at hl
  have hn : (((bs[0]?.getD 0 : Nat) : Int) != 0) = true := by simp; omega
  have hlt := hB.lt 0
  have hl2 : bs.length < 2 ^ 48 := hB.len
  generalize bs[0]?.getD 0 = x at *
  generalize bs.length = n at *
  clear hB h0
  go_enter Tryz.func29, Tryz.ntmps29
  go_wp2
  exact bodyPost_ret (v := .tuple #[.pointer none, .int .i64 11]) (by simp [results, Tryz.results29]) rfl ⟨rfl, rfl⟩
set_option maxHeartbeats 2000000 in
theorem newD_good (a : Option Addr) (cap gb off : Nat) (bs : List Nat) (w : World) (hB : Bytes w a cap gb off bs) (hl : 5 ≤ bs.length) (hmax : bs.length ≤ 140737488355327) (h0 : bs[0]?.getD 0 = 0) :
    Calls Tryz.prog 29 #[.slice a bs.length cap] w fun e w' => ∃ b g, e = .returned (.tuple #[.pointer (some ⟨b, 0, none⟩), .int .i64 0]) ∧ w.heap.size ≤ b ∧ w.heap.size ≤ g ∧ g < b ∧ IsD w' b g (newD bs) ∧ Keep noBlock w w' := by
  have hI : ¬ (bs.length : Int) < 5 := by omega
  have hI2 : (0 : Int) < (bs.length : Int) := by omega
  have hc := hB.cells 0 (by omega)
  rw [Nat.add_zero, h0] at hc
  rw [show (((0 : Nat) : Int)) = (0 : Int) from rfl] at hc
  obtain rfl : a = some ⟨gb, off, none⟩ := by
    rcases hB.at_ with e | e
    · exact e
    · rw [e] at hl; simp at hl
  obtain ⟨a', off', hsl, hB', -⟩ := hB.drop 1 (by omega)
  rw [show (((1 : Nat) : Int)) = (1 : Int) from rfl] at hsl
  have hgb := hB.block (by rintro rfl; simp at hl)
  have hdl : (bs.drop 1).length = bs.length - 1 := by simp
  have hsrc : Src w (.slice a' (bs.drop 1).length (cap - 1)) (bs.drop 1) := by
    rcases hB'.at_ with e | e
    · subst e
      refine .inr ⟨_, _, rfl, hgb, fun j u hu => ?_⟩
      have hj : j < (bs.drop 1).length := by rw [← u8s_length]; exact (List.getElem?_eq_some_iff.1 hu).1
      rw [addO, hB'.cells j hj, ← u8s_at _ j hj, hu]
    · have := congrArg List.length e
      simp at this; omega
  have HC := hid (clone_any (.slice a' (bs.drop 1).length (cap - 1)) (bs.drop 1) (by omega) w hsrc)
  have HT := (show Hid (takesD 4 ⟨4294967295, 0, bs.drop 1, false⟩ = newD bs ∧ (∀ j : Nat, (bs.drop 1)[j]?.getD 0 < 256) ∧ (bs.drop 1).length < 2 ^ 48 ∧ 0 < (bs.drop 1).length) from ⟨takes_four hl hB.lt, hB'.lt, hB'.len, by omega⟩)
  generalize newD bs = N at *
  generalize bs.drop 1 = rs at *
  have hl2 : bs.length < 2 ^ 48 := hB.len
  generalize bs.length = n at *
  clear hB hB' h0 hsrc hdl hl
  generalize hrl : rs.length = rn at *
  have HRL := hid hrl
  clear hrl
  go_enter Tryz.func29, Tryz.ntmps29
  go_wp2_with fail
  refine HC.out.mono ?_
  rintro e w1 ⟨v', rfl, hown, hk, -⟩
  obtain ⟨sa, scap, rfl⟩ := owns_form hown
  rw [← HRL.out] at hown
  have hown0 := owns_base hown
  obtain ⟨a2, cap2, g2, hv2, hB2, hg2⟩ := bytes_own hown0 HT.out.2.1 (by rw [HRL.out]; exact HT.out.2.2.1)
  have hsz := hk.size
  have hD : IsD (w1.alloc (.cells #[.int .u32 4294967295, .int .u32 0, .slice sa rn scap, .bool false] 160)) w1.heap.size g2 ⟨4294967295, 0, rs, false⟩ ∧ w.heap.size ≤ g2 ∧ g2 < w1.heap.size := by
    rw [HRL.out] at hv2
    simp only [Value.slice.injEq, true_and] at hv2
    obtain ⟨rfl, rfl⟩ := hv2
    have hb2 : g2 < w1.heap.size := hB2.block (fun e => by have h3 := HRL.out; have h4 := HT.out.2.2.2; rw [e] at h3; simp at h3; omega)
    have hge : w.heap.size ≤ g2 := by
      rcases hg2 with ⟨_, e⟩ | ⟨e, _⟩
      · have := HT.out.2.2.2; have h3 := HRL.out; rw [e] at h3; simp at h3; omega
      · rw [e] at hown
        exact owns_ge hown g2 rfl
    refine ⟨⟨⟨sa, scap, 0, ?_, hB2.keep (S := noBlock) ((Keep.refl _ w1).alloc _) (fun _ h => h)⟩, by omega, ⟨by show 4294967295 < 4294967296; omega, by show 0 < 4294967296; omega⟩⟩, hge, hb2⟩
    rw [HRL.out]
    exact alloc_new w1 _
  have HD := (show Hid (IsD (w1.alloc (.cells #[.int .u32 4294967295, .int .u32 0, .slice sa rn scap, .bool false] 160)) w1.heap.size g2 ⟨4294967295, 0, rs, false⟩ ∧ w.heap.size ≤ g2 ∧ Keep noBlock w (w1.alloc (.cells #[.int .u32 4294967295, .int .u32 0, .slice sa rn scap, .bool false] 160)) ∧ w.heap.size ≤ w1.heap.size ∧ g2 < w1.heap.size) from ⟨hD.1, hD.2.1, hk.alloc _, hsz, hD.2.2⟩)
  clear hown hown0 hv2 hB2 hg2 hsz hD hk HC
  go_wp2_with fail
  generalize w1.alloc (.cells #[.int .u32 4294967295, .int .u32 0, .slice sa rn scap, .bool false] 160) = W at *
  generalize w1.heap.size = nb at *
  go_loopw [17] (fun i wr => ∃ (k : Nat), k ≤ 4 ∧ i = .int .i64 k ∧ Hid (IsD wr nb g2 (takesD k ⟨4294967295, 0, rs, false⟩) ∧ Keep noBlock w wr)) (fun i _ => 4 - (intOf i).toNat)
  case atStart => exact ⟨0, by omega, rfl, (show _ ∧ _ from ⟨HD.out.1, HD.out.2.2.1⟩)⟩
  case round =>
    obtain ⟨k, hk, rfl, HR⟩ := hrel
    have hkI : (k : Int) ≤ 4 := by omega
    by_cases hlt : k < 4
    · have hltI : (k : Int) < 4 := by omega
      go_wp2_with (go_at_call 51; refine (take_any nb g2 _ _ HR.out.1).mono ?_; rintro e w2 ⟨rfl, h2, k2⟩)
      go_roundw
      case rel => exact ⟨k + 1, by omega, by go_num, (show _ ∧ _ from ⟨h2, HR.out.2.trans k2 (fun i hi e => by have := HD.out.2.2.2.1; omega)⟩)⟩
      case measure => simp [intOf]; omega
    · have hk4 : k = 4 := by omega
      have hltI : ¬ (k : Int) < 4 := by omega
      have HF := HR
      rw [hk4] at HF
      clear HR hk4 hlt
      go_wp2_with fail
      refine bodyPost_ret (v := .tuple #[.pointer (some ⟨nb, 0, none⟩), .int .i64 0]) (by simp [results, Tryz.results29]) rfl ?_
      refine ⟨nb, rfl, HD.out.2.2.2.1, g2, HD.out.2.1, HD.out.2.2.2.2, ?_, HF.out.2⟩
      rw [← HT.out.1]
      exact HF.out.1
end

end Go.Proofs.YtnokemcogjoonaaGreatDoor

namespace Go.Proofs.YtnokemcogjoonaaGreatDoor
set_option linter.unusedVariables false

/-- The last s of L. -/
def lastN (s : Nat) (L : List Nat) : List Nat := L.drop (L.length - s)
theorem lastN_length (s : Nat) (L : List Nat) : (lastN s L).length = min s L.length := by unfold lastN; rw [List.length_drop]; omega
theorem lastN_all (s : Nat) (L : List Nat) (h : L.length ≤ s) : lastN s L = L := by unfold lastN; rw [show L.length - s = 0 by omega]; rfl
theorem lastN_left (s : Nat) (L b : List Nat) : lastN s (lastN s L ++ b) = lastN s (L ++ b) := by
  unfold lastN
  simp only [List.length_append, List.length_drop, List.drop_append, List.drop_drop]
  congr 1
  · congr 1; omega
  · congr 1; omega
theorem lastN_tail (s : Nat) (A B : List Nat) (h : s ≤ B.length) : lastN s (A ++ B) = lastN s B := by
  unfold lastN
  rw [List.length_append, List.drop_append, List.drop_eq_nil_of_le (show A.length ≤ A.length + B.length - s by omega), List.nil_append]
  congr 1; omega
theorem lastN_right (s : Nat) (L b : List Nat) : lastN s (L ++ lastN s b) = lastN s (L ++ b) := by
  by_cases h : b.length ≤ s
  · rw [lastN_all s b h]
  · have hl := lastN_length s b
    rw [lastN_tail s L b (by omega), lastN_tail s L _ (by omega), lastN_all s _ (by omega)]
theorem lastN_full (s k : Nat) (M X : List Nat) (hM : M.length = s) (hX : X.length = k) : lastN s (M ++ X) = (M ++ X).drop k := by
  unfold lastN; rw [List.length_append]; congr 1; omega
theorem lastN_at (s : Nat) (L : List Nat) (back : Nat) (h1 : 1 ≤ back) (h2 : back ≤ (lastN s L).length) (i : Nat) : (lastN s L)[(lastN s L).length - back + i]?.getD 0 = L[L.length - back + i]?.getD 0 := by
  have hl := lastN_length s L
  unfold lastN at *
  rw [List.getElem?_drop]
  congr 2
  omega

/-- A ring, from its oldest on. -/
def unr (R : List Nat) (o : Nat) : List Nat := R.drop o ++ R.take o
theorem unr_length (R : List Nat) (o : Nat) : (unr R o).length = R.length := by unfold unr; rw [List.length_append, List.length_drop, List.length_take]; omega
theorem unr_zero (R : List Nat) : unr R 0 = R := by simp [unr]
theorem unr_all (R : List Nat) : unr R R.length = R := by simp [unr]
/-- X laid over R from o on. -/
def over (R : List Nat) (o : Nat) (X : List Nat) : List Nat := R.take o ++ X ++ R.drop (o + X.length)
theorem over_length (R : List Nat) (o : Nat) (X : List Nat) (h : o + X.length ≤ R.length) : (over R o X).length = R.length := by unfold over; simp only [List.length_append, List.length_take, List.length_drop]; omega
theorem unr_over (R : List Nat) (o : Nat) (X : List Nat) (h : o + X.length ≤ R.length) : unr (over R o X) (o + X.length) = lastN R.length (unr R o ++ X) := by
  rw [lastN_full R.length X.length _ _ (unr_length R o) rfl]
  have hl : (R.take o ++ X).length = o + X.length := by rw [List.length_append, List.length_take]; omega
  have e1 : (over R o X).drop (o + X.length) = R.drop (o + X.length) := by unfold over; exact List.drop_left' hl
  have e2 : (over R o X).take (o + X.length) = R.take o ++ X := by unfold over; exact List.take_left' hl
  show (over R o X).drop (o + X.length) ++ (over R o X).take (o + X.length) = _
  rw [e1, e2]
  unfold unr
  rw [List.append_assoc, List.drop_append_of_le_length (by rw [List.length_drop]; omega), List.drop_drop]

/-- Where the byte stands that is back bytes ahead of the end. -/
def place (n o back : Nat) : Nat := if back ≤ o then o - back else o + n - back
theorem place_lt (n o back : Nat) (ho : o ≤ n) (h1 : 1 ≤ back) (h2 : back ≤ n) : place n o back < n := by unfold place; split <;> omega
theorem place_at (R : List Nat) (o back : Nat) (ho : o ≤ R.length) (h1 : 1 ≤ back) (h2 : back ≤ R.length) : R[place R.length o back]? = (unr R o)[R.length - back]? := by
  unfold place unr
  rw [List.getElem?_append]
  simp only [List.length_drop]
  by_cases h : back ≤ o
  · rw [if_pos h, if_neg (by omega), List.getElem?_take, if_pos (by omega)]
    congr 1; omega
  · rw [if_neg h, if_pos (by omega), List.getElem?_drop]
    congr 1; omega
theorem place_take (R : List Nat) (o back t : Nat) (ho : o ≤ R.length) (h1 : 1 ≤ back) (h2 : back ≤ R.length) (ht : t ≤ back) : (R.drop (place R.length o back) ++ R).take t = ((unr R o).drop (R.length - back)).take t := by
  unfold place unr
  by_cases h : back ≤ o
  · have e : (R.drop o ++ R.take o).drop (R.length - back) = (R.take o).drop (o - back) := by
      rw [List.drop_append, List.drop_eq_nil_of_le (by rw [List.length_drop]; omega), List.nil_append, List.length_drop]
      congr 1; omega
    rw [if_pos h, e, List.take_append_of_le_length (by rw [List.length_drop]; omega), List.drop_take, List.take_take]
    congr 1; omega
  · rw [if_neg h, List.drop_append_of_le_length (by rw [List.length_drop]; omega), List.drop_drop, List.take_append, List.take_append]
    rw [show o + (R.length - back) = o + R.length - back by omega]
    congr 1
    rw [List.take_take, List.length_drop]
    congr 1; omega

/-- n bytes, each the one that stands back bytes ahead of the end as it is by then. -/
def outL (M : List Nat) (back n : Nat) : List Nat := (List.range n).map (fun j => M[M.length - back + j % back]?.getD 0)
theorem outL_length (M : List Nat) (back n : Nat) : (outL M back n).length = n := by simp [outL]
theorem outL_at (M : List Nat) (back n j : Nat) (hj : j < n) : (outL M back n)[j]?.getD 0 = M[M.length - back + j % back]?.getD 0 := by simp [outL, hj]
theorem outL_succ (M : List Nat) (back n : Nat) : outL M back (n + 1) = outL M back n ++ [M[M.length - back + n % back]?.getD 0] := by simp [outL, List.range_succ]
theorem outL_take (M : List Nat) (back n t : Nat) (h : t ≤ n) : (outL M back n).take t = outL M back t := by
  unfold outL
  rw [← List.map_take, List.take_range, Nat.min_eq_left h]
theorem getD_ext {A B : List Nat} (hl : A.length = B.length) (h : ∀ j, j < A.length → A[j]?.getD 0 = B[j]?.getD 0) : A = B := by
  refine List.ext_getElem hl fun j h1 h2 => ?_
  have := h j h1
  rwa [List.getElem?_eq_getElem h1, List.getElem?_eq_getElem h2] at this
theorem outL_first (M : List Nat) (back t : Nat) (h1 : 1 ≤ back) (h2 : back ≤ M.length) (ht : t ≤ back) : (M.drop (M.length - back)).take t = outL M back t := by
  refine getD_ext (by rw [outL_length, List.length_take, List.length_drop]; omega) fun j hj => ?_
  have hj' : j < t := by rw [List.length_take] at hj; omega
  rw [outL_at M back t j hj', List.getElem?_take, if_pos hj', List.getElem?_drop, Nat.mod_eq_of_lt (by omega)]
theorem outL_more (M : List Nat) (back d c : Nat) (hd : back ∣ d) (hc : c ≤ d) : outL M back (d + c) = outL M back d ++ (outL M back d).take c := by
  rw [outL_take M back d c hc]
  refine getD_ext (by rw [List.length_append, outL_length, outL_length, outL_length]) fun j hj => ?_
  rw [outL_length] at hj
  rw [outL_at M back _ j hj, List.getElem?_append, outL_length]
  by_cases h : j < d
  · rw [if_pos h, outL_at M back d j h]
  · rw [if_neg h, outL_at M back c (j - d) (by omega)]
    obtain ⟨q, rfl⟩ := hd
    have : j % back = (j - back * q) % back := by
      conv => lhs; rw [show j = (j - back * q) + back * q by omega]
      rw [Nat.add_mul_mod_self_left]
    rw [this]
/-- The byte that comes next stands back bytes ahead of the end. -/
theorem outL_next (M : List Nat) (back n : Nat) (h1 : 1 ≤ back) (h2 : back ≤ M.length) : (M ++ outL M back n)[M.length + n - back]?.getD 0 = M[M.length - back + n % back]?.getD 0 := by
  rw [List.getElem?_append]
  by_cases h : n < back
  · rw [if_pos (by omega), Nat.mod_eq_of_lt h]; congr 2; omega
  · rw [if_neg (by omega), outL_at M back n _ (by omega), show M.length + n - back - M.length = n - back by omega]
    rw [Nat.mod_eq_sub_mod (show back ≤ n by omega)]
theorem outL_last (s : Nat) (L : List Nat) (back n : Nat) (h1 : 1 ≤ back) (h2 : back ≤ (lastN s L).length) : outL (lastN s L) back n = outL L back n := by
  unfold outL
  refine List.map_congr_left fun j _ => ?_
  exact lastN_at s L back h1 h2 _

theorem lt_out {M : List Nat} (h : ∀ j : Nat, M[j]?.getD 0 < 256) (back n : Nat) : ∀ j : Nat, (outL M back n)[j]?.getD 0 < 256 := by
  intro j
  by_cases hj : j < n
  · rw [outL_at M back n j hj]; exact h _
  · rw [List.getElem?_eq_none (by rw [outL_length]; omega)]; decide
theorem lt_over {R X : List Nat} (hR : ∀ j : Nat, R[j]?.getD 0 < 256) (hX : ∀ j : Nat, X[j]?.getD 0 < 256) (o : Nat) : ∀ j : Nat, (over R o X)[j]?.getD 0 < 256 :=
  lt_app (lt_app (lt_take hR o) hX) (lt_drop hR _)

end Go.Proofs.YtnokemcogjoonaaGreatDoor
