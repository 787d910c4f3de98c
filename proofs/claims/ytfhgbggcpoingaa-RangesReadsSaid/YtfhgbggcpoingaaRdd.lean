/-
  The document's decoder: brought into order, a bit.
-/
import Derived.Test.YtfhgbggcpoingaaDen
namespace Go.Proofs.Ytfhgbggcpoingaa
open Go.RowKit Go.Shelf
set_option linter.unusedVariables false

/-- Block b is a decoder of the document's; what is not taken yet lies in block g. -/
structure IsQ (w : World) (b g : Nat) (d : Dec) : Prop where
  obj : ∃ a cap off, w.heap[b]? = some (.cells #[.slice a d.rest.length cap, .int .u32 (d.span : Int), .int .u32 (d.code : Int), .bool d.want] 60 (0, 0)) ∧ Bytes w a cap g off d.rest
  ne : g ≠ b
  ok : DecOk d
theorem IsQ.keep {w w' : World} {S : Nat → Prop} {b g : Nat} {d : Dec} (h : IsQ w b g d) (hk : Keep S w w') (h1 : ¬ S b) (h2 : ¬ S g) : IsQ w' b g d := by
  obtain ⟨a, cap, off, ho, hB⟩ := h.obj
  exact ⟨⟨a, cap, off, hk.obj ho h1, hB.keep hk (fun _ => h2)⟩, h.ne, h.ok⟩
theorem IsQ.set_span {w : World} {b g : Nat} {d : Dec} (h : IsQ w b g d) (s : Nat) (hs : s < 4294967296) : IsQ (w.setCell ⟨b, 1, none⟩ (.int .u32 (s : Int))) b g { d with span := s } := by
  obtain ⟨a, cap, off, ho, hB⟩ := h.obj
  exact ⟨⟨a, cap, off, set_obj ho 1 _, hB.keep ((Keep.refl (fun k => k = b) w).setCell (p := ⟨b, 1, none⟩) (fun _ => rfl) _) (fun _ e => h.ne e)⟩, h.ne, ⟨hs, h.ok.code⟩⟩
theorem IsQ.set_code {w : World} {b g : Nat} {d : Dec} (h : IsQ w b g d) (s : Nat) (hs : s < 4294967296) : IsQ (w.setCell ⟨b, 2, none⟩ (.int .u32 (s : Int))) b g { d with code := s } := by
  obtain ⟨a, cap, off, ho, hB⟩ := h.obj
  exact ⟨⟨a, cap, off, set_obj ho 2 _, hB.keep ((Keep.refl (fun k => k = b) w).setCell (p := ⟨b, 2, none⟩) (fun _ => rfl) _) (fun _ e => h.ne e)⟩, h.ne, ⟨h.ok.span, hs⟩⟩
theorem IsQ.drew {w : World} {b g : Nat} {d : Dec} (h : IsQ w b g d) : IsQ w.drew b g d := h.keep (S := noBlock) (Keep.refl _ w).drew (fun h => h) (fun h => h)
theorem IsQ.drewN {w : World} {b g : Nat} {d : Dec} (h : IsQ w b g d) (n : Nat) : IsQ (w.drewN n) b g d := h.keep (S := noBlock) ⟨rfl, rfl, rfl, Nat.le_refl _, fun _ _ _ => rfl⟩ (fun h => h) (fun h => h)
theorem IsQ.same {w : World} {b g : Nat} {d : Dec} (h : IsQ w b g d) {W : World} (e1 : W.heap = w.heap) (e2 : W.os = w.os) (e3 : W.tape = w.tape) (e4 : W.output = w.output) : IsQ W b g d := h.keep (S := noBlock) ((Keep.refl _ w).same e1 e2 e3 e4) (fun h => h) (fun h => h)
/-- A decoder's cells. -/
theorem IsQ.cells {w : World} {b g : Nat} {d : Dec} (h : IsQ w b g d) : w.cell? ⟨b, 1, none⟩ = some (.int .u32 (d.span : Int)) ∧ w.cell? ⟨b, 2, none⟩ = some (.int .u32 (d.code : Int)) ∧ w.cell? ⟨b, 3, none⟩ = some (.bool d.want) ∧ (∀ i, w.frozen? ⟨b, i, none⟩ = false) ∧ ∃ a cap, w.cell? ⟨b, 0, none⟩ = some (.slice a d.rest.length cap) := by
  obtain ⟨a, cap, off, ho, hB⟩ := h.obj
  exact ⟨cell_of ho 1, cell_of ho 2, cell_of ho 3, fun i => frozen_of ho i, a, cap, cell_of ho 0⟩

section
attribute [local go_sem] sliceSem_eq
set_option maxHeartbeats 2000000 in
theorem orderQ_any (b g : Nat) (d : Dec) (w : World) (h : IsQ w b g d) : Calls Try.prog 30 #[.pointer (some ⟨b, 0, none⟩)] w fun e w' => e = .returned (.tuple #[]) ∧ IsQ w' b g (ordD d) ∧ Keep (fun k => k = b) w w' := by
  have hok := ordD_ok h.ok
  obtain ⟨a, cap, off, ho, hB⟩ := h.obj
  have hne := h.ne
  have hs := h.ok.span
  have hc := h.ok.code
  have h' := h
  obtain ⟨span, code, rest, want⟩ := d
  dsimp only at ho hB hc hs
  have c0 : w.cell? ⟨b, 0, none⟩ = some (.slice a rest.length cap) := cell_of ho 0
  have c1 : w.cell? ⟨b, 1, none⟩ = some (.int .u32 (span : Int)) := cell_of ho 1
  have c2 : w.cell? ⟨b, 2, none⟩ = some (.int .u32 (code : Int)) := cell_of ho 2
  have c3 : w.cell? ⟨b, 3, none⟩ = some (.bool want) := cell_of ho 3
  have f0 := frozen_of ho 0
  have f1 := frozen_of ho 1
  have f2 := frozen_of ho 2
  have f3 := frozen_of ho 3
  have hmx : Try.prog.follows .mixedOrders = true := by kernel_rfl
  by_cases hl : span < 16777216
  · have hod : ordD ⟨span, code, rest, want⟩ = takeD ⟨span * 256, code, rest, want⟩ := if_pos hl
    rw [hod] at hok ⊢
    have hlI : ¬ (16777216 : Int) ≤ (span : Int) := by omega
    obtain ⟨s, hs2⟩ : ∃ s, s = span * 256 := ⟨_, rfl⟩
    have hsI : (span : Int) * 256 = (s : Int) := by omega
    have hsm : (span : Int) * 256 % 4294967296 = (s : Int) := by omega
    have hsl : (s : Int) < 4294967296 := by omega
    obtain ⟨z, hz⟩ : ∃ z : Nat, z = code * 256 % 4294967296 := ⟨_, rfl⟩
    have hzI : (code : Int) * 256 % 4294967296 = (z : Int) := by omega
    rw [← hs2] at hok ⊢
    cases rest with
    | nil =>
      simp only [List.length_nil] at c0 ho hB
      have HF := (show Hid (IsQ (((w.setCell ⟨b, 1, none⟩ (.int .u32 (s : Int))).setCell ⟨b, 2, none⟩ (.int .u32 (z : Int))).setCell ⟨b, 3, none⟩ (.bool true)) b g (takeD ⟨s, code, [], want⟩) ∧ Keep (fun k => k = b) w (((w.setCell ⟨b, 1, none⟩ (.int .u32 (s : Int))).setCell ⟨b, 2, none⟩ (.int .u32 (z : Int))).setCell ⟨b, 3, none⟩ (.bool true))) from by
        have hk := (((Keep.refl (fun k => k = b) w).setCell (p := ⟨b, 1, none⟩) (fun _ => rfl) (.int .u32 (s : Int))).setCell (p := ⟨b, 2, none⟩) (fun _ => rfl) (.int .u32 (z : Int))).setCell (p := ⟨b, 3, none⟩) (fun _ => rfl) (.bool true)
        refine ⟨⟨⟨a, cap, off, ?_, ?_⟩, hne, hok⟩, hk⟩
        · refine (set_obj (set_obj (set_obj ho 1 _) 2 _) 3 _).trans ?_
          rw [hz]
          rfl
        · exact hB.keep hk (fun e => absurd rfl e))
      clear hz hok ho hB h h' hc hod hs2 hl hs hsm hsl
      go_enter Try.func30, Try.ntmps30
      go_wp2_with fail
      refine bodyPost_ret (results_none rfl _ _ _) rfl ?_
      exact ⟨rfl, HF.out⟩
    | cons x r =>
      have hx : x < 256 := by have := hB.lt 0; simpa using this
      have hj := u32_join code x hx
      rw [← hz] at hj
      obtain ⟨y, hy⟩ : ∃ y : Nat, y = (code * 256 + x) % 4294967296 := ⟨_, rfl⟩
      rw [← hy] at hj
      obtain ⟨a', off', hsl2, hB', -⟩ := hB.drop 1 (by simp)
      rw [show (x :: r).drop 1 = r from rfl] at hsl2 hB'
      rw [show (((1 : Nat) : Int)) = (1 : Int) from rfl] at hsl2
      have hcx : w.cell? ⟨g, off, none⟩ = some (.int .u8 (x : Int)) := by
        have := hB.cells 0 (by simp)
        simpa using this
      obtain rfl : a = some ⟨g, off, none⟩ := by
        rcases hB.at_ with e | e
        · exact e
        · cases e
      have HF := (show Hid (∀ W : World, W.heap = ((((w.setCell ⟨b, 1, none⟩ (.int .u32 (s : Int))).setCell ⟨b, 2, none⟩ (.int .u32 (z : Int))).setCell ⟨b, 2, none⟩ (.int .u32 (y : Int))).setCell ⟨b, 0, none⟩ (.slice a' r.length (cap - 1))).heap → W.os = w.os → W.tape = w.tape → W.output = w.output → IsQ W b g (takeD ⟨s, code, x :: r, want⟩) ∧ Keep (fun k => k = b) w W) from by
        intro W e1 e2 e3 e4
        have hk := ((((Keep.refl (fun k => k = b) w).setCell (p := ⟨b, 1, none⟩) (fun _ => rfl) (.int .u32 (s : Int))).setCell (p := ⟨b, 2, none⟩) (fun _ => rfl) (.int .u32 (z : Int))).setCell (p := ⟨b, 2, none⟩) (fun _ => rfl) (.int .u32 (y : Int))).setCell (p := ⟨b, 0, none⟩) (fun _ => rfl) (.slice a' r.length (cap - 1))
        have hkW := hk.same e1 e2 e3 e4
        refine ⟨⟨⟨a', cap - 1, off', ?_, ?_⟩, hne, hok⟩, hkW⟩
        · rw [e1]
          refine (set_obj (set_obj (set_obj (set_obj ho 1 _) 2 _) 2 _) 0 _).trans ?_
          rw [hy]
          rfl
        · exact hB'.keep hkW (fun _ e => hne e))
      have hrl : r.length < 2 ^ 48 := hB'.len
      obtain ⟨m, hm⟩ : ∃ m, m = (x :: r).length := ⟨_, rfl⟩
      rw [← hm] at hsl2 c0
      rw [List.length_cons] at hm
      have hm0 : 0 < m := by omega
      have hl0 : ((m : Int) == 0) = false := by rw [beq_eq_false_iff_ne]; omega
      generalize r.length = n at *
      have hmI : (0 : Int) < (m : Int) := by omega
      have hxI : (x : Int) < 256 := by omega
      clear hz hok ho hB h hB' hy hm hc h' hod hs2 hl hs hsm hsl
      go_enter Try.func30, Try.ntmps30
      go_wp2_with fail
      go_region
      go_wp2_with fail
      go_end0
      exact ⟨rfl, HF.out _ rfl rfl rfl rfl⟩
  · have hod : ordD ⟨span, code, rest, want⟩ = ⟨span, code, rest, want⟩ := if_neg hl
    rw [hod]
    have hlI : (16777216 : Int) ≤ (span : Int) := by omega
    have HH := (show Hid (IsQ w b g ⟨span, code, rest, want⟩) from h')
    clear h h' ho hB hok hod hl
    go_enter Try.func30, Try.ntmps30
    go_wp2_with fail
    refine bodyPost_ret (results_none rfl _ _ _) rfl ?_
    exact ⟨rfl, HH.out, Keep.refl _ _⟩
end

end Go.Proofs.Ytfhgbggcpoingaa
