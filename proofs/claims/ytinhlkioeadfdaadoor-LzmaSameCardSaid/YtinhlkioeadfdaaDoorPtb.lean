/-
  A byte that was read is told, and put into the window.
-/
import Derived.Test.YtinhlkioeadfdaaDoorLit
import Derived.Test.YtinhlkioeadfdaaDoorQtl
namespace Go.Proofs.YtinhlkioeadfdaaDoor
open Go.RowKit Go.Shelf
set_option linter.unusedVariables false

/-- A state's number is set. -/
theorem Cells.ph {cs : Array Value} {s : Se} {c : Nat → Nat} (h : Cells cs s c) (p : Nat) : Cells (cs.setIfInBounds 3 (.int .u8 (p : Int))) { s with ph := p } c := by
  have hs := h.size
  have far : ∀ k, k ≠ 3 → (cs.setIfInBounds 3 (.int .u8 (p : Int)))[k]? = cs[k]? := fun k hk => by
    rw [Array.getElem?_setIfInBounds, if_neg (by omega)]
  refine ⟨by rw [Array.size_setIfInBounds]; exact hs, (far 0 (by omega)).trans h.e0, (far 1 (by omega)).trans h.e1, (far 2 (by omega)).trans h.e2, ?_, (far 4 (by omega)).trans h.e4, (far 5 (by omega)).trans h.e5, (far 6 (by omega)).trans h.e6, (far 7 (by omega)).trans h.e7, fun k k1 k2 => (far k (by omega)).trans (h.ch k k1 k2)⟩
  rw [Array.getElem?_setIfInBounds, if_pos rfl, if_pos (by omega)]
theorem Pr.ph {w : World} {sb db gb : Nat} {s : Se} {x : Cx} (h : Pr w sb db gb s x) (p : Nat) (hp : p < 12) : Pr (w.setCell ⟨sb, 3, none⟩ (.int .u8 (p : Int))) sb db gb { s with ph := p } x ∧ Keep (SD sb db) w (w.setCell ⟨sb, 3, none⟩ (.int .u8 (p : Int))) := by
  obtain ⟨cs, ho, hc⟩ := h.st.obj
  have hk : Keep (fun k => k = sb) w (w.setCell ⟨sb, 3, none⟩ (.int .u8 (p : Int))) := (Keep.refl (fun k => k = sb) w).setCell (p := ⟨sb, 3, none⟩) (fun _ => rfl) _
  exact ⟨⟨⟨⟨_, set_obj ho 3 _, hc.ph p⟩, ⟨h.st.ok.lc, h.st.ok.pb, hp, h.st.ok.r0, h.st.ok.r1, h.st.ok.r2, h.st.ok.r3⟩, h.st.lt⟩, h.de.keep hk (fun e => h.sd e.symm) h.ne, h.ne⟩, hk.mono (fun _ _ e => .inr e)⟩
theorem Rd.ph {G : Rg} {w : World} {rv tv : Value} {s : Se} {x : Cx} {win told : List Nat} (h : Rd G w rv tv s x win told) (p : Nat) (hp : p < 12) : Rd G (w.setCell ⟨G.sb, 3, none⟩ (.int .u8 (p : Int))) rv tv { s with ph := p } x win told :=
  h.turn (h.pr.ph p hp).1 (h.pr.ph p hp).2
/-- What is told lies elsewhere now. -/
theorem Rd.tell {G : Rg} {w w' : World} {rv tv tv' : Value} {s : Se} {x : Cx} {win told told' : List Nat} (h : Rd G w rv tv s x win told) (hk : Keep (fun k => tv.ownBlock = some k) w w') (ho : w'.ownsRow 0 5 1 tv' told'.length (u8s told')) (hn : Near w tv tv') (hl : ∀ j : Nat, told'[j]?.getD 0 < 256) (ht : told'.length ≤ G.K.n) :
    Rd G (w'.setCell ⟨G.rb, 3, none⟩ tv') rv tv' s x win told' := by
  obtain ⟨s1, s2, s3, s4, s5⟩ := h.sw
  obtain ⟨⟨t1, t2, t3, t4⟩, r1, r2, r3, r4⟩ := h.rows
  have ob := hk.obj h.obj t1
  have nb : ∀ g, g < w.heap.size → tv'.ownBlock = some g → tv.ownBlock = some g := fun g hg e => by
    rcases hn with q | ⟨k, q, hk⟩
    · rw [← q]; exact e
    · rw [q] at e
      have : k = g := by simpa using e
      omega
  have ne' : tv'.ownBlock ≠ some G.rb := fun e => t1 (nb _ (obj_lt h.obj) e)
  have k1 : Keep (fun k => tv.ownBlock = some k ∨ k = G.rb) w (w'.setCell ⟨G.rb, 3, none⟩ tv') := (hk.mono (fun _ _ e => .inl e)).setCell (p := ⟨G.rb, 3, none⟩) (fun _ => .inr rfl) _
  refine ⟨(set_obj ob 3 _).trans (by simp), h.pr.keep k1 ?_ ?_ ?_, h.wi.keep k1 ?_ ?_, owns_kept ho ((Keep.refl (fun k => k = G.rb) w').setCell (p := ⟨G.rb, 3, none⟩) (fun _ => rfl) _) (fun g hg e => ne' (by rw [hg, e])), hl, ?_, h.gr, ?_, h.g1, h.g2, Nat.lt_of_lt_of_le h.gl k1.size, h.kp.trans k1 ?_, h.n4.trans hn h.kp.size, h.n5, h.pl, ht, h.nn⟩
  · rintro (e | e)
    · exact t2 e
    · exact s3 e.symm
  · rintro (e | e)
    · exact t3 e
    · exact s4 e.symm
  · rintro (e | e)
    · exact h.gt e
    · exact h.g1 e
  · rintro (e | e)
    · exact t4 e
    · exact s5 e.symm
  · rintro g hg (e | e)
    · exact h.tr g e hg
    · exact r1 (by rw [hg, e])
  · exact fun e => h.gt (nb _ h.gl e)
  · intro g hg e
    exact h.tr g (nb g (h.wi.ring_lt e) hg) e
  · rintro i hi (e | e)
    · exact .inr (.inr (.inr (.inr (.inr (near_old h.n4 hi e)))))
    · exact .inr (.inr (.inl e))

/-- Behind a put. -/
theorem Rd.put {G : Rg} {w w' : World} {rv rv' tv : Value} {s : Se} {x : Cx} {win win' told : List Nat} (h : Rd G w rv tv s x win told) (hw : IsW w' G.wb G.lb G.K.size rv' win') (hn : Near w rv rv') (hk : Keep (fun k => k = G.wb ∨ rv.ownBlock = some k) w w') : Rd G w' rv' tv s x win' told := by
  obtain ⟨s1, s2, s3, s4, s5⟩ := h.sw
  obtain ⟨⟨t1, t2, t3, t4⟩, r1, r2, r3, r4⟩ := h.rows
  have nb : ∀ g, g < w.heap.size → rv'.ownBlock = some g → rv.ownBlock = some g := fun g hg e => by
    rcases hn with q | ⟨k, q, hk⟩
    · rw [← q]; exact e
    · rw [q] at e
      have : k = g := by simpa using e
      omega
  have tlt : ∀ g, tv.ownBlock = some g → g < w.heap.size := fun g hg => by
    rcases h.own.2 with ⟨rfl, _⟩ | ⟨g', cap, cur, rfl, _, hh, _⟩
    · cases hg
    · obtain rfl : g' = g := by simpa [Value.ownBlock] using hg
      exact obj_lt hh
  refine ⟨hk.obj h.obj ?_, h.pr.keep hk ?_ ?_ ?_, hw, owns_kept h.own hk ?_, h.lt, h.gt, fun e => h.gr (nb _ h.gl e), fun g hg e => h.tr g hg (nb g (tlt g hg) e), h.g1, h.g2, Nat.lt_of_lt_of_le h.gl hk.size, h.kp.trans hk ?_, h.n4, h.n5.trans hn h.kp.size, h.pl, h.tl, h.nn⟩
  · rintro (e | e)
    · exact s5 e
    · exact r1 e
  · rintro (e | e)
    · exact s1 e
    · exact r2 e
  · rintro (e | e)
    · exact s2 e
    · exact r3 e
  · rintro (e | e)
    · exact h.g2 e
    · exact h.gr e
  · rintro g hg (e | e)
    · exact t4 (by rw [hg, e])
    · exact h.tr g hg e
  · rintro i hi (e | e)
    · exact .inr (.inl e)
    · exact .inr (.inr (.inr (.inr (.inl (near_old h.n5 hi e)))))

section
set_option maxHeartbeats 2000000 in
theorem putByte_any (G : Rg) (rv tv : Value) (s : Se) (x : Cx) (win told : List Nat) (v : Nat) (hv : v < 256) (w : World) (h : Rd G w rv tv s x win told) (hl : told.length < G.K.n) :
    Calls Tryd.prog 35 #[.pointer (some ⟨G.rb, 0, none⟩), .int .u8 (v : Int)] w fun e w' => e = .returned (.tuple #[]) ∧ ∃ rv' tv', Rd G w' rv' tv' { s with ph := behB s.ph } x (lastN G.K.size (win ++ [v])) (told ++ [v]) := by
  have hnn := h.nn
  have hph := h.pr.st.ok.ph
  have hlt2 : ∀ j : Nat, (told ++ [v])[j]?.getD 0 < 256 := lt_app h.lt (lt256 (fun y hy => by
    have : y = v := by simpa using hy
    omega))
  obtain ⟨v2, W2, hr, ho2, hk2, hn2⟩ := own_push h.own v (by omega)
  have hT := h.tell hk2 ho2 hn2 hlt2 (by rw [List.length_append, List.length_singleton]; omega)
  obtain ⟨c0, c1, c2, c3, -⟩ := h.cells
  obtain ⟨ta, tc, rfl⟩ := h.tform
  have ob2 := hk2.obj h.obj h.rows.1.1
  have d3 : W2.cell? ⟨G.rb, 3, none⟩ = some (.slice ta told.length tc) := cell_of ob2 3
  have f3 := frozen_of ob2 3
  obtain ⟨ua, uc, rfl⟩ := owns_form ho2
  obtain ⟨W3, hW3⟩ : ∃ W3, W3 = W2.setCell ⟨G.rb, 3, none⟩ (.slice ua (told ++ [v]).length uc) := ⟨_, rfl⟩
  rw [← hW3] at hT
  obtain ⟨W4, hW4⟩ : ∃ W4, W4 = W3.drew := ⟨_, rfl⟩
  have hT := hT.kept ((Keep.refl noBlock W3).drew)
  rw [← hW4] at hT
  have HT := hid hT
  obtain ⟨e0, e1, e2, e3, -⟩ := hT.cells
  obtain ⟨a, cap, g, hve, hB, hgg⟩ := owns_bytes hT.own hT.lt (by rw [List.length_append, List.length_singleton]; omega)
  simp only [Value.slice.injEq, true_and] at hve
  obtain ⟨rfl, rfl⟩ := hve
  have hlen : (told ++ [v]).length = told.length + 1 := by simp
  have hcap := hB.cap
  rw [hlen] at hcap hW3 hr e3
  obtain rfl : ua = some ⟨g, 0, none⟩ := hB.at_.resolve_right (by simp)
  have hB' : Bytes W4 (some ⟨g, told.length, none⟩) (uc - told.length) g told.length [v] := by
    refine ⟨.inl rfl, ?_, fun j hj => ?_, fun j => ?_, by rw [List.length_singleton]; omega, by rw [List.length_singleton]; decide⟩
    · intro e; cases e
    · obtain rfl : j = 0 := by simpa using hj
      have := hB.cells told.length (by simp)
      simpa using this
    · have := hlt2 (told.length + j)
      rw [List.getElem?_append_right (by omega)] at this
      simpa using this
  have hng : g ≠ G.wb ∧ rv.ownBlock ≠ some g := by
    have e2 : (Value.slice (some ⟨g, 0, none⟩) (told ++ [v]).length uc).ownBlock = some g := rfl
    exact ⟨fun e => hT.rows.1.2.2.2 (by rw [e2, e]), hT.tr g e2⟩
  have HP := hid (put_any G.wb G.lb G.K.size rv win _ (uc - told.length) g told.length [v] W4 hT.wi hB' (fun _ => hng))
  rw [List.length_singleton] at HP
  have HS := hid (behindByte_any s.ph hph)
  have hbb : behB s.ph < 12 := by unfold behB; split <;> (try split) <;> omega
  have hcne : ¬ uc = told.length := by omega
  have hcI : (told.length : Int) + 1 ≤ (uc : Int) := by omega
  have hwr : IntKind.i64.wrap (told.length : Int) = (told.length : Int) := wraps_i64 _ (by omega) (by omega)
  have hwr2 : (told.length : Int) ≤ (told.length : Int) + 1 := by omega
  clear hB hB' hgg hng hT hn2 ob2 ho2 hk2 h hlt2 hlen
  generalize told.length = n at *
  go_enter Tryd.func35, Tryd.ntmps35
  go_wp2_with (at_builtin; refine wpList_append_run _ rfl _ _ 22 rfl _ _ _ _ rfl rfl hr ?_)
  rw [← hW3]
  clear hW3 hr d3 f3 c0 c1 c2 c3
  refine region_tail 15 mx (by kernel_rfl) ?_
  rw [← hW4]
  clear hW4
  simp only [List.take_succ_cons, List.take_zero, List.drop_succ_cons, List.drop_zero]
  repeat (quiet_step (fail))
  refine wpQuiet_nil ?_
  go_wp2_with fail
  refine HP.out.mono ?_
  rintro e w5 ⟨rfl, rv', q1, q2, q3⟩
  have h5 := HT.out.put q1 q2 q3
  obtain ⟨W6, hW6⟩ : ∃ W6, W6 = w5.drew := ⟨_, rfl⟩
  have h6 := h5.kept ((Keep.refl noBlock w5).drew)
  rw [← hW6] at h6
  obtain ⟨b0, -⟩ := h6.cells
  obtain ⟨-, -, -, b3, -, -, -, -, bf⟩ := h6.pr.st.first
  have bf3 := bf 3
  have HF := hid (h6.ph (behB s.ph) hbb)
  clear HP HT q1 q2 q3 h5 h6 bf e0 e1 e2 e3
  obtain ⟨p', hp'⟩ : ∃ p', p' = behB s.ph := ⟨_, rfl⟩
  rw [← hp'] at HF HS
  have HP' := hid hp'
  clear hp' hbb
  go_wp2_with fail
  refine region_tail 14 mx (by kernel_rfl) ?_
  rw [← hW6]
  clear hW6
  simp only [List.take_succ_cons, List.take_zero, List.drop_succ_cons, List.drop_zero]
  iterate 11 (quiet_step (fail))
  refine wpQuiet_step (fun K hK => ?_)
  go_simp
  refine ⟨_, HS.out _, hK _ ?_⟩
  clear hK K
  repeat (quiet_step (fail))
  refine wpQuiet_nil ?_
  go_wp2_with fail
  go_end0
  rw [← HP'.out]
  exact ⟨rfl, rv', _, HF.out⟩
end

end Go.Proofs.YtinhlkioeadfdaaDoor
