/-
  Bytes are copied out of the window, and told; the end.
-/
import Derived.Test.YtinhlkioeadfdaaDoorPtb
namespace Go.Proofs.YtinhlkioeadfdaaDoor
open Go.RowKit Go.Shelf
set_option linter.unusedVariables false

/-- With what a chunk that is none is left. -/
def malP : List PanicEntry := [{ v := .iface 29 (.int .i64 11), recovered := false }]
set_option maxHeartbeats 2000000 in
theorem putCopy_far (G : Rg) (rv tv : Value) (s : Se) (x : Cx) (win told : List Nat) (l : Nat) (hl : l ≤ 273) (w : World) (h : Rd G w rv tv s x win told) (hf : win.length < s.r0 + 1) :
    Calls Tryd.prog 23 #[.pointer (some ⟨G.rb, 0, none⟩), .int .i64 (l : Int)] w fun e w' => e = .panicked malP ∧ Rd G w' rv tv s x win told := by
  have h1 := h.kept ((Keep.refl noBlock w).drew)
  obtain ⟨-, -, c2, -⟩ := h.cells
  obtain ⟨-, -, d2, -⟩ := h1.cells
  have HB := hid (back_any G rv tv s x win told w.drew h1)
  have HC := hid (copy_far G.wb G.lb G.K.size rv win (((s.r0 + 1 : Nat)) : Int) (l : Int) w.drew h1.wi (by omega) (by omega) (by omega))
  have HF := hid h1
  clear h h1
  generalize s.r0 + 1 = bk at *
  go_enter Tryd.func23, Tryd.ntmps23
  go_wp2_with fail
  go_region_with (first | (go_at_call 40; refine HB.out.mono ?_; rintro e w' ⟨rfl, rfl⟩) | (go_at_call 39; refine HC.out.mono ?_; rintro e w' ⟨rfl, rfl⟩))
  all_goals go_wp2_with fail
  all_goals exact ⟨rfl, rfl, HF.out⟩

/-- What is appended behind what is told. -/
theorem Rd.more {G : Rg} {w : World} {rv tv : Value} {s : Se} {x : Cx} {win told : List Nat} (h : Rd G w rv tv s x win told) (g : Nat) (bs : List Nat) (hg : w.heap[g]? = some (.cells (u8s bs).toArray 5 (0, 0))) (hlt : ∀ j : Nat, bs[j]?.getD 0 < 256) (hl : told.length + bs.length ≤ G.K.n) :
    ∃ tv' w', (Builtin.append_ #[22, 22] 22 #[tv, .slice (some ⟨g, 0, none⟩) bs.length bs.length]).run Tryd.prog w = .ok tv' w' ∧ w'.cell? ⟨G.rb, 3, none⟩ = some tv ∧ w'.frozen? ⟨G.rb, 3, none⟩ = false ∧ (∃ ta tn tc, tv' = .slice ta tn tc) ∧ Rd G (w'.setCell ⟨G.rb, 3, none⟩ tv') rv tv' s x win (told ++ bs) := by
  have hnn := h.nn
  have hsrc : SrcB w (.slice (some ⟨g, 0, none⟩) bs.length bs.length) bs := .inr ⟨_, _, rfl, fun j u hu => by
    rw [add0]
    rw [cell_of hg j, List.getElem?_toArray]
    exact hu⟩
  obtain ⟨v', w', hr, ho, hk, hn⟩ := run_append_all w 22 tv told bs h.own (by omega) _ hsrc
  have ob := hk.obj h.obj h.rows.1.1
  obtain ⟨ta, tc, e⟩ := owns_form ho
  exact ⟨v', w', hr, cell_of ob 3, frozen_of ob 3, ⟨_, _, _, e⟩, h.tell hk ho hn (lt_app h.lt hlt) (by rw [List.length_append]; exact hl)⟩

set_option maxHeartbeats 2000000 in
theorem putCopy_ok (G : Rg) (rv tv : Value) (s : Se) (x : Cx) (win told : List Nat) (l : Nat) (hl : l ≤ 273) (w : World) (h : Rd G w rv tv s x win told) (hf : s.r0 + 1 ≤ win.length) (ht : told.length + l ≤ G.K.n) :
    Calls Tryd.prog 23 #[.pointer (some ⟨G.rb, 0, none⟩), .int .i64 (l : Int)] w fun e w' => e = .returned (.tuple #[]) ∧ ∃ rv' tv', Rd G w' rv' tv' s x (lastN G.K.size (win ++ outL win (s.r0 + 1) l)) (told ++ outL win (s.r0 + 1) l) := by
  have h1 := h.kept ((Keep.refl noBlock w).drew)
  obtain ⟨-, -, c2, -⟩ := h.cells
  obtain ⟨-, -, d2, -⟩ := h1.cells
  have HB := hid (back_any G rv tv s x win told w.drew h1)
  have HC := hid (copy_ok G.wb G.lb G.K.size rv win (s.r0 + 1) l w.drew h1.wi (by omega) hf (by omega))
  have HO := (show Hid ((outL win (s.r0 + 1) l).length = l ∧ ∀ j : Nat, (outL win (s.r0 + 1) l)[j]?.getD 0 < 256) from ⟨outL_length _ _ _, lt_out h.wi.lt _ _⟩)
  have HF := hid h1
  obtain ⟨ta, tc, rfl⟩ := h.tform
  clear h h1 hf
  generalize hO : outL win (s.r0 + 1) l = O at *
  have HOO := hid hO
  clear hO
  generalize s.r0 + 1 = bk at *
  go_enter Tryd.func23, Tryd.ntmps23
  go_wp2_with fail
  go_region_with (first | (go_at_call 40; refine HB.out.mono ?_; rintro e w' ⟨rfl, rfl⟩) | (go_at_call 39; refine HC.out.mono ?_; rintro e w5 ⟨rfl, q1, rv', q2, q3, q4, q5⟩))
  all_goals
    have h5 := HF.out.put q2 q3 q5
    obtain ⟨tv', w6, r1, r2, r3, ⟨ua, un, uc, rfl⟩, r4⟩ := h5.more _ O q1 HO.out.2 (by rw [HO.out.1]; exact ht)
    rw [HO.out.1] at r1
    obtain ⟨-, -, -, e3, -⟩ := h5.cells
    have HR := hid r4
    clear q1 q2 q3 q4 q5 h5 r4 HF HC HB HO
    go_wp2_with (at_builtin; refine wpList_append_run _ rfl _ _ 22 rfl _ _ _ _ rfl rfl r1 ?_)
    go_end0
    exact ⟨rfl, rv', _, HR.out⟩

theorem ended_any (G : Rg) (rv tv : Value) (s : Se) (x : Cx) (win told : List Nat) (w : World) (h : Rd G w rv tv s x win told) :
    Calls Tryd.prog 24 #[.pointer (some ⟨G.rb, 0, none⟩)] w fun e w' => e = .returned (.bool (okEnd x.d)) ∧ Rd G w' rv tv s ⟨x.c, ordD x.d⟩ win told := by
  obtain ⟨-, c1, -⟩ := h.cells
  have HE := hid (end_any G.db G.gb x.d w h.pr.de)
  have HF := hid h
  have HO := (show Hid (okEnd x.d = (decide (endL (ordD x.d) = 0) && decide (endE (ordD x.d) = 0))) from rfl)
  clear h
  generalize endL (ordD x.d) = el at *
  generalize endE (ordD x.d) = ee at *
  generalize okEnd x.d = ok at *
  go_enter Tryd.func24, Tryd.ntmps24
  go_wp2_with fail
  refine HE.out.mono ?_
  rintro e w1 ⟨rfl, q1, q2⟩
  have HR := (show Hid (Rd G w1 rv tv s ⟨x.c, ordD x.d⟩ win told) from HF.out.turn ⟨HF.out.pr.st.keep q2 (fun e => HF.out.pr.sd e), q1, HF.out.pr.ne⟩ (q2.mono (fun _ _ e => .inl e)))
  clear q1 q2 HE HF
  by_cases h1 : el = 0
  · subst h1
    by_cases h2 : ee = 0
    · subst h2
      go_wp2_with fail
      go_ret
      rw [HO.out]
      exact ⟨rfl, HR.out⟩
    · have h2I : ((ee : Int) == 0) = false := by simp; omega
      rw [decide_eq_false h2] at HO
      clear h2
      go_wp2_with fail
      go_ret
      rw [HO.out]
      exact ⟨by simp, HR.out⟩
  · have h1I : ((el : Int) == 0) = false := by simp; omega
    rw [decide_eq_false h1] at HO
    clear h1
    go_wp2_with fail
    go_ret
    rw [HO.out]
    exact ⟨by simp, HR.out⟩

end Go.Proofs.YtinhlkioeadfdaaDoor
