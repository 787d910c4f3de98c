/-
  The program's decoder: brought into order, a bit, bits that are as likely, the end.
-/
import Derived.Test.YtinhlkioeadfdaaDoorDtk
namespace Go.Proofs.YtinhlkioeadfdaaDoor
open Go.RowKit Go.Shelf
set_option linter.unusedVariables false

theorem IsD.set_span {w : World} {b g : Nat} {d : Dec} (h : IsD w b g d) (s : Nat) (hs : s < 4294967296) : IsD (w.setCell ⟨b, 0, none⟩ (.int .u32 (s : Int))) b g { d with span := s } := by
  obtain ⟨a, cap, off, ho, hB⟩ := h.obj
  exact ⟨⟨a, cap, off, set_obj ho 0 _, hB.keep ((Keep.refl (fun k => k = b) w).setCell (p := ⟨b, 0, none⟩) (fun _ => rfl) _) (fun _ e => h.ne e)⟩, h.ne, ⟨hs, h.ok.code⟩⟩
theorem IsD.set_code {w : World} {b g : Nat} {d : Dec} (h : IsD w b g d) (s : Nat) (hs : s < 4294967296) : IsD (w.setCell ⟨b, 1, none⟩ (.int .u32 (s : Int))) b g { d with code := s } := by
  obtain ⟨a, cap, off, ho, hB⟩ := h.obj
  exact ⟨⟨a, cap, off, set_obj ho 1 _, hB.keep ((Keep.refl (fun k => k = b) w).setCell (p := ⟨b, 1, none⟩) (fun _ => rfl) _) (fun _ e => h.ne e)⟩, h.ne, ⟨h.ok.span, hs⟩⟩
theorem IsD.drew {w : World} {b g : Nat} {d : Dec} (h : IsD w b g d) : IsD w.drew b g d := h.keep (S := noBlock) (Keep.refl _ w).drew (fun h => h) (fun h => h)
theorem IsD.drewN {w : World} {b g : Nat} {d : Dec} (h : IsD w b g d) (n : Nat) : IsD (w.drewN n) b g d := h.keep (S := noBlock) ⟨rfl, rfl, rfl, Nat.le_refl _, fun _ _ _ => rfl⟩ (fun h => h) (fun h => h)
theorem IsD.same {w : World} {b g : Nat} {d : Dec} (h : IsD w b g d) {W : World} (e1 : W.heap = w.heap) (e2 : W.os = w.os) (e3 : W.tape = w.tape) (e4 : W.output = w.output) : IsD W b g d := h.keep (S := noBlock) ((Keep.refl _ w).same e1 e2 e3 e4) (fun h => h) (fun h => h)
/-- A decoder's cells. -/
theorem IsD.cells {w : World} {b g : Nat} {d : Dec} (h : IsD w b g d) : w.cell? ⟨b, 0, none⟩ = some (.int .u32 (d.span : Int)) ∧ w.cell? ⟨b, 1, none⟩ = some (.int .u32 (d.code : Int)) ∧ w.cell? ⟨b, 3, none⟩ = some (.bool d.want) ∧ (∀ i, w.frozen? ⟨b, i, none⟩ = false) ∧ ∃ a cap, w.cell? ⟨b, 2, none⟩ = some (.slice a d.rest.length cap) := by
  obtain ⟨a, cap, off, ho, hB⟩ := h.obj
  exact ⟨cell_of ho 0, cell_of ho 1, cell_of ho 3, fun i => frozen_of ho i, a, cap, cell_of ho 2⟩

set_option maxHeartbeats 1000000 in
theorem order_any (b g : Nat) (d : Dec) (w : World) (h : IsD w b g d) : Calls Tryd.prog 45 #[.pointer (some ⟨b, 0, none⟩)] w fun e w' => e = .returned (.tuple #[]) ∧ IsD w' b g (ordD d) ∧ Keep (fun k => k = b) w w' := by
  obtain ⟨c0, -, -, hf, -⟩ := h.cells
  have f0 := hf 0
  have hs := h.ok.span
  unfold ordD
  by_cases hl : d.span < 16777216
  · rw [if_pos hl]
    have hlI : (d.span : Int) < 16777216 := by omega
    obtain ⟨s, hs2⟩ : ∃ s, s = d.span * 256 := ⟨_, rfl⟩
    have hsI : (d.span : Int) * 256 % 4294967296 = (s : Int) := by omega
    have hsI2 : (d.span : Int) * 256 = (s : Int) := by omega
    have hsl : (s : Int) < 4294967296 := by omega
    have h2 := h.set_span s (by omega)
    have hk := (Keep.refl (fun k => k = b) w).setCell (p := ⟨b, 0, none⟩) (fun _ => rfl) (.int .u32 (s : Int))
    rw [← hs2]
    have HT := hid (take_any b g _ _ h2)
    have HK := (show Hid (Keep (fun k => k = b) w (w.setCell ⟨b, 0, none⟩ (.int .u32 (s : Int)))) from hk)
    clear h h2 hk hs2 hf hs hl
    generalize d.span = z at *
    go_enter Tryd.func45, Tryd.ntmps45
    go_wp2_with (go_at_call 19; refine HT.out.mono ?_; rintro e w1 ⟨rfl, h3, hk3⟩)
    go_end0
    exact ⟨rfl, h3, HK.out.trans' hk3⟩
  · rw [if_neg hl]
    have hlI : ¬ (d.span : Int) < 16777216 := by omega
    have HH := (show Hid (IsD w b g d) from h)
    clear h hf hl hs
    generalize d.span = z at *
    go_enter Tryd.func45, Tryd.ntmps45
    go_wp2
    go_end0
    exact ⟨rfl, HH.out, Keep.refl _ _⟩

/-- A bit as a number. -/
def bitI (one : Bool) : Int := if one then 1 else 0
theorem ne_of_type {w : World} {a b : Nat} {cs ds : Array Value} {s t : TypeId} (h1 : w.heap[a]? = some (.cells cs s (0, 0))) (h2 : w.heap[b]? = some (.cells ds t (0, 0))) (hne : s ≠ t) : a ≠ b := by
  rintro rfl
  rw [h1] at h2
  simp at h2
  exact hne h2.2

set_option maxHeartbeats 2000000 in
theorem bitD_any (b g pb i p : Nat) (t : TypeId) (cs : Array Value) (d : Dec) (w : World) (h : IsD w b g d) (hne : pb ≠ b) (hp : w.heap[pb]? = some (.cells cs t (0, 0))) (hi : cs[i]? = some (.int .u16 (p : Int))) (hp16 : p < 65536) (hgp : g ≠ pb) :
    Calls Tryd.prog 34 #[.pointer (some ⟨b, 0, none⟩), .pointer (some ⟨pb, i, none⟩)] w fun e w' => e = .returned (.int .i64 (bitI (oneD (ordD d) (fairN p)))) ∧ IsD w' b g (narD (ordD d) (fairN p)) ∧
      w'.heap[pb]? = some (.cells (cs.setIfInBounds i (.int .u16 ((learnN (fairN p) (oneD (ordD d) (fairN p)) : Nat) : Int))) t (0, 0)) ∧ Keep (fun k => k = b ∨ k = pb) w w' := by
  obtain ⟨hf1, hf2⟩ := fairN_bd p
  have HO := hid (order_any b g d w h)
  have HX := (show Hid (w.heap[pb]? = some (.cells cs t (0, 0)) ∧ cs[i]? = some (.int .u16 (p : Int))) from ⟨hp, hi⟩)
  have HC := hid (chanceOf_any p hp16)
  have hod := ordD_ok h.ok
  clear h hp hi
  generalize ordD d = O at *
  generalize fairN p = c at *
  have hok := narD_ok hod hf2
  have hs := hod.span
  have hc := hod.code
  have hbd := boundN_le (s := O.span) hf2
  have HB := hid (bound_any c O.span hf2 hs)
  have HL := hid (learned_any c)
  have hz : oneD O c = !decide (O.code < boundN O.span c) := rfl
  have HN := (show Hid ((oneD O c = true → narD O c = { O with span := O.span - boundN O.span c, code := O.code - boundN O.span c }) ∧ (oneD O c = false → narD O c = { O with span := boundN O.span c })) from ⟨fun e => by unfold narD; rw [if_pos e], fun e => by unfold narD; rw [if_neg (by rw [e]; decide)]⟩)
  generalize narD O c = D at *
  generalize oneD O c = z at *
  go_enter Tryd.func34, Tryd.ntmps34
  go_wp2_with fail
  refine HO.out.mono ?_
  rintro e w1 ⟨rfl, h1, k1⟩
  have hp1 := k1.obj HX.out.1 (fun e => hne e)
  have cp : w1.cell? ⟨pb, i, none⟩ = some (.int .u16 (p : Int)) := (cell_of hp1 i).trans HX.out.2
  have fp := frozen_of hp1 i
  obtain ⟨c0, c1, -, hf, -⟩ := h1.cells
  have f0 := hf 0
  have f1 := hf 1
  have HZ := (show Hid ((z = true → IsD ((w1.setCell ⟨b, 1, none⟩ (.int .u32 ((O.code - boundN O.span c : Nat) : Int))).setCell ⟨b, 0, none⟩ (.int .u32 ((O.span - boundN O.span c : Nat) : Int))) b g D) ∧ (z = false → IsD (w1.setCell ⟨b, 0, none⟩ (.int .u32 ((boundN O.span c : Nat) : Int))) b g D)) from by
    refine ⟨fun hz => ?_, fun hz => ?_⟩
    · rw [HN.out.1 hz]
      exact (h1.set_code (O.code - boundN O.span c) (by omega)).set_span (O.span - boundN O.span c) (by omega)
    · rw [HN.out.2 hz]
      exact h1.set_span (boundN O.span c) (by omega))
  have H1 := (show Hid (w1.heap[pb]? = some (.cells cs t (0, 0)) ∧ Keep (fun k => k = b) w w1) from ⟨hp1, k1⟩)
  clear h1 hp1 k1 hf hok HN hod HO HX
  generalize boundN O.span c = B at *
  generalize O.span = S at *
  generalize O.code = C at *
  by_cases hlt : C < B
  · have hz0 : z = false := by rw [hz]; simpa using hlt
    subst hz0
    have hltI : (C : Int) < (B : Int) := by omega
    have HI := hid (HZ.out.2 rfl)
    clear hz HZ hlt
    go_wp2_with (first | (go_at_call 46; refine (HC.out _).mono ?_; rintro e w' ⟨rfl, rfl⟩) | (go_at_call 47; refine (HB.out _).mono ?_; rintro e w' ⟨rfl, rfl⟩) | (go_at_call 48; refine (HL.out 0 false hf1 hf2 rfl _).mono ?_; rintro e w' ⟨rfl, rfl⟩))
    go_ret
    refine ⟨rfl, HI.out.keep ((Keep.refl (fun k => k = pb) _).setCell (p := ⟨pb, i, none⟩) (fun _ => rfl) _) (fun e => hne e.symm) hgp, set_obj (set_far H1.out.1 hne _ _) i _, ?_⟩
    exact (((H1.out.2.mono (fun _ _ e => .inl e)).setCell (p := ⟨b, 0, none⟩) (fun _ => .inl rfl) _).setCell (p := ⟨pb, i, none⟩) (fun _ => .inr rfl) _)
  · have hz0 : z = true := by rw [hz]; simpa using hlt
    subst hz0
    have hltI : ¬ (C : Int) < (B : Int) := by omega
    have e1 : ((C : Int) - (B : Int)) % 4294967296 = ((C - B : Nat) : Int) := by omega
    have e2 : ((S : Int) - (B : Int)) % 4294967296 = ((S - B : Nat) : Int) := by omega
    clear hs hc hbd
    have HI := hid (HZ.out.1 rfl)
    clear hz HZ hlt
    generalize C - B = C' at *
    generalize S - B = S' at *
    go_wp2_with (first | (go_at_call 46; refine (HC.out _).mono ?_; rintro e w' ⟨rfl, rfl⟩) | (go_at_call 47; refine (HB.out _).mono ?_; rintro e w' ⟨rfl, rfl⟩) | (go_at_call 48; refine (HL.out 1 true hf1 hf2 rfl _).mono ?_; rintro e w' ⟨rfl, rfl⟩))
    go_ret
    refine ⟨rfl, HI.out.keep ((Keep.refl (fun k => k = pb) _).setCell (p := ⟨pb, i, none⟩) (fun _ => rfl) _) (fun e => hne e.symm) hgp, set_obj (set_far (set_far H1.out.1 hne _ _) hne _ _) i _, ?_⟩
    exact ((((H1.out.2.mono (fun _ _ e => .inl e)).setCell (p := ⟨b, 1, none⟩) (fun _ => .inl rfl) _).setCell (p := ⟨b, 0, none⟩) (fun _ => .inl rfl) _).setCell (p := ⟨pb, i, none⟩) (fun _ => .inr rfl) _)

end Go.Proofs.YtinhlkioeadfdaaDoor
