/-
  Bytes are copied out of the window, and told; the end.
  A match: its length and its distance, which is the newest then.
  A match is written: its length, its distance, which is the newest then.
-/
import Derived.Test.YtnokemcogjoonaaGreatDoorPutP9
namespace Go.Proofs.YtnokemcogjoonaaGreatDoor
open Go.RowKit Go.Shelf
set_option linter.unusedVariables false

/-- With what a chunk that is none is left. -/
def malP : List PanicEntry := [{ v := .iface 26 (.int .i64 11), recovered := false }]
set_option maxHeartbeats 2000000 in
theorem putCopy_far (G : Rg) (rv tv : Value) (s : Se) (x : Cx) (win told : List Nat) (l : Nat) (hl : l ≤ 273) (w : World) (h : Rd G w rv tv s x win told) (hf : win.length < s.r0 + 1) :
    Calls Tryz.prog 55 #[.pointer (some ⟨G.rb, 0, none⟩), .int .i64 (l : Int)] w fun e w' => e = .panicked malP ∧ Rd G w' rv tv s x win told := by
  have h1 := h.kept ((Keep.refl noBlock w).drew)
  obtain ⟨-, -, c2, -⟩ := h.cells
  obtain ⟨-, -, d2, -⟩ := h1.cells
  have HB := hid (back_any G rv tv s x win told w.drew h1)
  have HC := hid (copy_far G.wb G.lb G.K.size rv win (((s.r0 + 1 : Nat)) : Int) (l : Int) w.drew h1.wi (by omega) (by omega) (by omega))
  have HF := hid h1
  clear h h1
  generalize s.r0 + 1 = bk at *
  go_enter Tryz.func55, Tryz.ntmps55
  go_wp2_with fail
  go_region_with (first | (go_at_call 84; refine HB.out.mono ?_; rintro e w' ⟨rfl, rfl⟩) | (go_at_call 83; refine HC.out.mono ?_; rintro e w' ⟨rfl, rfl⟩))
  all_goals go_wp2_with fail
  all_goals exact ⟨rfl, rfl, HF.out⟩

/-- What is appended behind what is told. -/
theorem Rd.more {G : Rg} {w : World} {rv tv : Value} {s : Se} {x : Cx} {win told : List Nat} (h : Rd G w rv tv s x win told) (g : Nat) (bs : List Nat) (hg : w.heap[g]? = some (.cells (u8s bs).toArray 5 (0, 0))) (hlt : ∀ j : Nat, bs[j]?.getD 0 < 256) (hl : told.length + bs.length ≤ G.K.n) :
    ∃ tv' w', (Builtin.append_ #[22, 22] 22 #[tv, .slice (some ⟨g, 0, none⟩) bs.length bs.length]).run Tryz.prog w = .ok tv' w' ∧ w'.cell? ⟨G.rb, 3, none⟩ = some tv ∧ w'.frozen? ⟨G.rb, 3, none⟩ = false ∧ (∃ ta tn tc, tv' = .slice ta tn tc) ∧ Rd G (w'.setCell ⟨G.rb, 3, none⟩ tv') rv tv' s x win (told ++ bs) := by
  have hnn := h.nn
  have hsrc : SrcB w (.slice (some ⟨g, 0, none⟩) bs.length bs.length) bs := .inr ⟨_, _, rfl, fun j u hu => by
    rw [add0]
    rw [cell_of hg j, List.getElem?_toArray]
    exact hu⟩
  obtain ⟨v', w', hr, ho, hk, hn⟩ := run_append_all w 22 tv told bs h.own (by omega) _ hsrc
  have ob := hk.obj h.obj h.rows.1.1
  obtain ⟨ta, tc, e⟩ := owns_form ho
  exact ⟨v', w', hr, cell_of ob 3, frozen_of ob 3, ⟨_, _, _, e⟩, h.tell hk ho hn (lt_app h.lt hlt) (by rw [List.length_append]; exact hl)⟩

set_option maxHeartbeats 2000000 in
theorem putCopy_ok (G : Rg) (rv tv : Value) (s : Se) (x : Cx) (win told : List Nat) (l : Nat) (hl : l ≤ 273) (w : World) (h : Rd G w rv tv s x win told) (hf : s.r0 + 1 ≤ win.length) (ht : told.length + l ≤ G.K.n) :
    Calls Tryz.prog 55 #[.pointer (some ⟨G.rb, 0, none⟩), .int .i64 (l : Int)] w fun e w' => e = .returned (.tuple #[]) ∧ ∃ rv' tv', Rd G w' rv' tv' s x (lastN G.K.size (win ++ outL win (s.r0 + 1) l)) (told ++ outL win (s.r0 + 1) l) := by
  have h1 := h.kept ((Keep.refl noBlock w).drew)
  obtain ⟨-, -, c2, -⟩ := h.cells
  obtain ⟨-, -, d2, -⟩ := h1.cells
  have HB := hid (back_any G rv tv s x win told w.drew h1)
  have HC := hid (copy_ok G.wb G.lb G.K.size rv win (s.r0 + 1) l w.drew h1.wi (by omega) hf (by omega))
  have HO := (show Hid ((outL win (s.r0 + 1) l).length = l ∧ ∀ j : Nat, (outL win (s.r0 + 1) l)[j]?.getD 0 < 256) from ⟨outL_length _ _ _, lt_out h.wi.lt _ _⟩)
  have HF := hid h1
  obtain ⟨ta, tc, rfl⟩ := h.tform
  clear h h1 hf
  generalize hO : outL win (s.r0 + 1) l = O at *
  have HOO := hid hO
  clear hO
  generalize s.r0 + 1 = bk at *
  go_enter Tryz.func55, Tryz.ntmps55
  go_wp2_with fail
  go_region_with (first | (go_at_call 84; refine HB.out.mono ?_; rintro e w' ⟨rfl, rfl⟩) | (go_at_call 83; refine HC.out.mono ?_; rintro e w5 ⟨rfl, q1, rv', q2, q3, q4, q5⟩))
  all_goals
    have h5 := HF.out.put q2 q3 q5
    obtain ⟨tv', w6, r1, r2, r3, ⟨ua, un, uc, rfl⟩, r4⟩ := h5.more _ O q1 HO.out.2 (by rw [HO.out.1]; exact ht)
    rw [HO.out.1] at r1
    obtain ⟨-, -, -, e3, -⟩ := h5.cells
    have HR := hid r4
    clear q1 q2 q3 q4 q5 h5 r4 HF HC HB HO
    go_wp2_with (at_builtin; refine wpList_append_run _ rfl _ _ 22 rfl _ _ _ _ rfl rfl r1 ?_)
    go_end0
    exact ⟨rfl, rv', _, HR.out⟩

theorem ended_any (G : Rg) (rv tv : Value) (s : Se) (x : Cx) (win told : List Nat) (w : World) (h : Rd G w rv tv s x win told) :
    Calls Tryz.prog 56 #[.pointer (some ⟨G.rb, 0, none⟩)] w fun e w' => e = .returned (.bool (okEnd x.d)) ∧ Rd G w' rv tv s ⟨x.c, ordD x.d⟩ win told := by
  obtain ⟨-, c1, -⟩ := h.cells
  have HE := hid (end_any G.db G.gb x.d w h.pr.de)
  have HF := hid h
  have HO := (show Hid (okEnd x.d = (decide (endL (ordD x.d) = 0) && decide (endE (ordD x.d) = 0))) from rfl)
  clear h
  generalize endL (ordD x.d) = el at *
  generalize endE (ordD x.d) = ee at *
  generalize okEnd x.d = ok at *
  go_enter Tryz.func56, Tryz.ntmps56
  go_wp2_with fail
  refine HE.out.mono ?_
  rintro e w1 ⟨rfl, q1, q2⟩
  have HR := (show Hid (Rd G w1 rv tv s ⟨x.c, ordD x.d⟩ win told) from HF.out.turn ⟨HF.out.pr.st.keep q2 (fun e => HF.out.pr.sd e), q1, HF.out.pr.ne⟩ (q2.mono (fun _ _ e => .inl e)))
  clear q1 q2 HE HF
  by_cases h1 : el = 0
  · subst h1
    by_cases h2 : ee = 0
    · subst h2
      go_wp2_with fail
      go_ret
      rw [HO.out]
      exact ⟨rfl, HR.out⟩
    · have h2I : ((ee : Int) == 0) = false := by simp; omega
      rw [decide_eq_false h2] at HO
      clear h2
      go_wp2_with fail
      go_ret
      rw [HO.out]
      exact ⟨by simp, HR.out⟩
  · have h1I : ((el : Int) == 0) = false := by simp; omega
    rw [decide_eq_false h1] at HO
    clear h1
    go_wp2_with fail
    go_ret
    rw [HO.out]
    exact ⟨by simp, HR.out⟩

end Go.Proofs.YtnokemcogjoonaaGreatDoor

namespace Go.Proofs.YtnokemcogjoonaaGreatDoor
open Go.RowKit Go.Shelf
set_option linter.unusedVariables false

theorem size48 : (Tryz.prog.info? 55).map (·.size) = some 1 := by kernel_rfl
theorem wpList_copy_run {ops : Array Oper} {rest : List Oper} {o : Oper} {a : Go.Act} {Q : Exit → Go.Act → World → Prop} (w : World) (hgd : o.guard = none) (s x : Operand) (t : TypeId)
    (ho : o.op = .call { callee := .builtin .copy, args := #[s, x], argTypes := #[t, t] }) (v sv v' : Value) (w' : World) (hs : a.eval s = v) (hx : a.eval x = sv)
    (hr : (Builtin.copy_ #[t, t] o.type #[v, sv]).run Tryz.prog w = .ok v' w') (hk : wpList Tryz.prog ops Q rest (a.put o.dst v') w') : wpList Tryz.prog ops Q (o :: rest) a w := by
  refine wpList_plain hgd fun K hK => ?_
  unfold Oper.wp execOp
  simp only [ho, resolve, invoke, builtin, Sem.run_bind, Sem.run_pure, Result.andThen_ok, List.map_toArray, List.map_cons, List.map_nil, hs, hx, hr]
  exact hK _ _ hk
/-- The distances ahead of number k move up. -/
def shiftR (s : Se) (k : Nat) : Se := match k with
  | 0 => s
  | 1 => { s with r1 := s.r0 }
  | 2 => { s with r1 := s.r0, r2 := s.r1 }
  | _ => { s with r1 := s.r0, r2 := s.r1, r3 := s.r2 }
def repsL (s : Se) : List Value := [.int .u32 (s.r0 : Int), .int .u32 (s.r1 : Int), .int .u32 (s.r2 : Int)]
theorem over_at (L V : List Value) (o i : Nat) (h : o + V.length ≤ L.length) : (L.take o ++ V ++ L.drop (o + V.length)).toArray[i]? = if i < o then L[i]? else if i < o + V.length then V[i - o]? else L[i]? := by
  rw [List.getElem?_toArray, List.append_assoc, List.getElem?_append]
  have ht : (L.take o).length = o := by rw [List.length_take]; omega
  rw [ht]
  split
  · rw [List.getElem?_take, if_pos (by assumption)]
  · rw [List.getElem?_append]
    split
    · rw [if_pos (by omega)]
    · rw [if_neg (by omega), List.getElem?_drop]
      congr 1
      omega
theorem Cells.shift {cs : Array Value} {s : Se} {c : Nat → Nat} (h : Cells cs s c) (k : Nat) (hk : k ≤ 3) : Cells (cs.toList.take 5 ++ (repsL s).take k ++ cs.toList.drop (5 + ((repsL s).take k).length)).toArray (shiftR s k) c := by
  have hs := h.size
  have hl : ((repsL s).take k).length = k := by rw [List.length_take]; simp [repsL]; omega
  have hat := fun i => over_at cs.toList ((repsL s).take k) 5 i (by rw [hl, Array.length_toList]; omega)
  rw [hl] at hat ⊢
  have far : ∀ i, ¬ (5 ≤ i ∧ i < 5 + k) → (cs.toList.take 5 ++ (repsL s).take k ++ cs.toList.drop (5 + k)).toArray[i]? = cs[i]? := fun i hi => by
    rw [hat]
    by_cases h5 : i < 5
    · rw [if_pos h5, Array.getElem?_toList]
    · rw [if_neg h5, if_neg (by omega), Array.getElem?_toList]
  have near : ∀ i, i < k → (cs.toList.take 5 ++ (repsL s).take k ++ cs.toList.drop (5 + k)).toArray[5 + i]? = (repsL s)[i]? := fun i hi => by
    rw [hat, if_neg (by omega), if_pos (by omega), show 5 + i - 5 = i from by omega, List.getElem?_take, if_pos hi]
  have hsz : (cs.toList.take 5 ++ (repsL s).take k ++ cs.toList.drop (5 + k)).toArray.size = 14143 := by
    rw [List.size_toArray, List.length_append, List.length_append, List.length_take, hl, List.length_drop, Array.length_toList]; omega
  have hc : k = 0 ∨ k = 1 ∨ k = 2 ∨ k = 3 := by omega
  rcases hc with rfl | rfl | rfl | rfl
  · exact ⟨hsz, (far 0 (by omega)).trans h.e0, (far 1 (by omega)).trans h.e1, (far 2 (by omega)).trans h.e2, (far 3 (by omega)).trans h.e3, (far 4 (by omega)).trans h.e4, (far 5 (by omega)).trans h.e5, (far 6 (by omega)).trans h.e6, (far 7 (by omega)).trans h.e7, fun i i1 i2 => (far i (by omega)).trans (h.ch i i1 i2)⟩
  · exact ⟨hsz, (far 0 (by omega)).trans h.e0, (far 1 (by omega)).trans h.e1, (far 2 (by omega)).trans h.e2, (far 3 (by omega)).trans h.e3, (far 4 (by omega)).trans h.e4, near 0 (by omega), (far 6 (by omega)).trans h.e6, (far 7 (by omega)).trans h.e7, fun i i1 i2 => (far i (by omega)).trans (h.ch i i1 i2)⟩
  · exact ⟨hsz, (far 0 (by omega)).trans h.e0, (far 1 (by omega)).trans h.e1, (far 2 (by omega)).trans h.e2, (far 3 (by omega)).trans h.e3, (far 4 (by omega)).trans h.e4, near 0 (by omega), near 1 (by omega), (far 7 (by omega)).trans h.e7, fun i i1 i2 => (far i (by omega)).trans (h.ch i i1 i2)⟩
  · exact ⟨hsz, (far 0 (by omega)).trans h.e0, (far 1 (by omega)).trans h.e1, (far 2 (by omega)).trans h.e2, (far 3 (by omega)).trans h.e3, (far 4 (by omega)).trans h.e4, near 0 (by omega), near 1 (by omega), near 2 (by omega), fun i i1 i2 => (far i (by omega)).trans (h.ch i i1 i2)⟩
theorem shiftR_ok {s : Se} (h : SeOk s) (k : Nat) : SeOk (shiftR s k) := by
  unfold shiftR
  split
  · exact h
  · exact ⟨h.lc, h.pb, h.ph, h.r0, h.r0, h.r2, h.r3⟩
  · exact ⟨h.lc, h.pb, h.ph, h.r0, h.r0, h.r1, h.r3⟩
  · exact ⟨h.lc, h.pb, h.ph, h.r0, h.r0, h.r1, h.r2⟩
theorem Pr.shift {w : World} {sb db gb : Nat} {s : Se} {x : Cx} (h : Pr w sb db gb s x) (k kc : Nat) (hk : k ≤ 3) :
    ∃ w', (Builtin.copy_ #[206, 206] 3 #[.slice (some ⟨sb, 5, none⟩) k kc, .slice (some ⟨sb, 4, none⟩) 4 4]).run Tryz.prog w = .ok (.int .i64 (k : Int)) w' ∧ Pr w' sb db gb (shiftR s k) x ∧ Keep (SD sb db) w w' := by
  obtain ⟨cs, ho, hc⟩ := h.st.obj
  have hl : ((repsL s).take k).length = k := by rw [List.length_take]; simp [repsL]; omega
  have hs := hc.size
  have := run_copy_row Tryz.prog w 206 206 3 55 sb 5 k kc ⟨sb, 4, none⟩ 4 4 cs 88 ((repsL s).take k) Tryz.underlying206 size48 ho (by rw [hl]; show k = min 4 k; omega)
    (fun j v hv => by
      rw [List.getElem?_take] at hv
      split at hv
      · rw [addO, cell_of ho]
        rcases j with _ | _ | _ | j
        · exact hc.e4.trans (by simpa [repsL] using hv)
        · exact hc.e5.trans (by simpa [repsL] using hv)
        · exact hc.e6.trans (by simpa [repsL] using hv)
        · omega
      · cases hv) (by rw [hl]; omega) (fun v hv => by
        have := List.mem_of_mem_take hv
        simp [repsL] at this
        rcases this with rfl | rfl | rfl <;> rfl)
  rw [show goInt ((repsL s).take k).length = .int .i64 (k : Int) from by rw [hl]; rfl] at this
  have hk2 : Keep (fun i => i = sb) w (w.setRow sb (cs.toList.take 5 ++ (repsL s).take k ++ cs.toList.drop (5 + ((repsL s).take k).length)).toArray) := keep_setRow (Keep.refl (fun i => i = sb) w) sb (fun _ => rfl) _
  refine ⟨_, this, ⟨⟨⟨_, ?_, hc.shift k hk⟩, shiftR_ok h.st.ok k, h.st.lt⟩, h.de.keep hk2 (fun e => h.sd e.symm) h.ne, h.ne⟩, hk2.mono (fun _ _ e => .inr e)⟩
  exact setRow_heap w sb cs _ 88 (0, 0) ho

/-- The newest distance is set. -/
theorem Cells.r0 {cs : Array Value} {s : Se} {c : Nat → Nat} (h : Cells cs s c) (p : Nat) : Cells (cs.setIfInBounds 4 (.int .u32 (p : Int))) { s with r0 := p } c := by
  have hs := h.size
  have far : ∀ k, k ≠ 4 → (cs.setIfInBounds 4 (.int .u32 (p : Int)))[k]? = cs[k]? := fun k hk => by
    rw [Array.getElem?_setIfInBounds, if_neg (by omega)]
  refine ⟨by rw [Array.size_setIfInBounds]; exact hs, (far 0 (by omega)).trans h.e0, (far 1 (by omega)).trans h.e1, (far 2 (by omega)).trans h.e2, (far 3 (by omega)).trans h.e3, ?_, (far 5 (by omega)).trans h.e5, (far 6 (by omega)).trans h.e6, (far 7 (by omega)).trans h.e7, fun k k1 k2 => (far k (by omega)).trans (h.ch k k1 k2)⟩
  rw [Array.getElem?_setIfInBounds, if_pos rfl, if_pos (by omega)]
theorem Pr.r0 {w : World} {sb db gb : Nat} {s : Se} {x : Cx} (h : Pr w sb db gb s x) (p : Nat) (hp : p < 4294967296) : Pr (w.setCell ⟨sb, 4, none⟩ (.int .u32 (p : Int))) sb db gb { s with r0 := p } x ∧ Keep (SD sb db) w (w.setCell ⟨sb, 4, none⟩ (.int .u32 (p : Int))) := by
  obtain ⟨cs, ho, hc⟩ := h.st.obj
  have hk : Keep (fun k => k = sb) w (w.setCell ⟨sb, 4, none⟩ (.int .u32 (p : Int))) := (Keep.refl (fun k => k = sb) w).setCell (p := ⟨sb, 4, none⟩) (fun _ => rfl) _
  exact ⟨⟨⟨⟨_, set_obj ho 4 _, hc.r0 p⟩, ⟨h.st.ok.lc, h.st.ok.pb, h.st.ok.ph, hp, h.st.ok.r1, h.st.ok.r2, h.st.ok.r3⟩, h.st.lt⟩, h.de.keep hk (fun e => h.sd e.symm) h.ne, h.ne⟩, hk.mono (fun _ _ e => .inr e)⟩
theorem Rd.r0 {G : Rg} {w : World} {rv tv : Value} {s : Se} {x : Cx} {win told : List Nat} (h : Rd G w rv tv s x win told) (p : Nat) (hp : p < 4294967296) : Rd G (w.setCell ⟨G.sb, 4, none⟩ (.int .u32 (p : Int))) rv tv { s with r0 := p } x win told :=
  h.turn (h.pr.r0 p hp).1 (h.pr.r0 p hp).2
theorem matchM_eq (s : Se) (p : Nat) (x : Cx) : matchM s p x = (({ s with ph := behM s.ph, r0 := (distM (lenM 12728 p x).1 (lenM 12728 p x).2).1, r1 := s.r0, r2 := s.r1, r3 := s.r2 }, (lenM 12728 p x).1), (distM (lenM 12728 p x).1 (lenM 12728 p x).2).2) := rfl
/-- How a match ends. -/
def matchE (r : Se × Nat) : Ending := if r.1.r0 = endMark then .panicked malP else .returned (.int .i64 (r.2 : Int))

set_option maxHeartbeats 4000000 in
theorem match_any (G : Rg) (rv tv : Value) (s : Se) (x : Cx) (win told : List Nat) (p : Nat) (hp : p < 16) (w : World) (h : Rd G w rv tv s x win told) :
    Calls Tryz.prog 81 #[.pointer (some ⟨G.rb, 0, none⟩), .int .i64 (p : Int)] w fun e w' => e = matchE (matchM s p x).1 ∧ 2 ≤ (matchM s p x).1.2 ∧ (matchM s p x).1.2 ≤ 273 ∧ Rd G w' rv tv (matchM s p x).1.1 (matchM s p x).2 win told := by
  rw [matchM_eq]
  obtain ⟨W1, hW1⟩ : ∃ W1, W1 = w.drew := ⟨_, rfl⟩
  have h1 := h.kept ((Keep.refl noBlock w).drew)
  rw [← hW1] at h1
  obtain ⟨W2, r1, r2, r3⟩ := h1.pr.shift 3 3 (by omega)
  rw [show (((3 : Nat) : Int)) = (3 : Int) from rfl] at r1
  have h2 := h1.turn r2 r3
  obtain ⟨c0, -⟩ := h1.cells
  obtain ⟨W3, hW3⟩ : ∃ W3, W3 = W2.drew := ⟨_, rfl⟩
  have h3 := h2.kept ((Keep.refl noBlock W2).drew)
  rw [← hW3] at h3
  obtain ⟨d0, d1, -⟩ := h3.cells
  have HL := hid (length_any G.sb G.db G.gb 12728 p _ x W3 h3.pr (by omega) (by omega) hp)
  have HF3 := hid h3
  clear h h1 h2 h3 r2 r3
  have hs1 : (shiftR s 3).ph = s.ph := rfl
  generalize hLe : lenM 12728 p x = LE at *
  obtain ⟨l, x1⟩ := LE
  have HLe := hid hLe
  clear hLe
  dsimp only at HL ⊢
  have HD := hid (fun W S H l1 l2 => distance_any G.sb G.db G.gb l S x1 W H l1 l2)
  generalize distM l x1 = DE at *
  obtain ⟨d, x2⟩ := DE
  dsimp only at HD ⊢
  have hbm : behM s.ph < 12 := by unfold behM; split <;> omega
  have HS := hid (fun hph => behindMatch_any s.ph hph)
  generalize behM s.ph = p' at *
  go_enter Tryz.func81, Tryz.ntmps81
  go_wp2_with fail
  refine region_tail 14 mx (by kernel_rfl) ?_
  rw [← hW1]
  clear hW1
  simp only [List.take_succ_cons, List.take_zero, List.drop_succ_cons, List.drop_zero]
  repeat (quiet_step (fail))
  refine wpQuiet_nil ?_
  refine wpList_copy_run _ rfl _ _ 206 rfl _ _ _ _ rfl rfl r1 ?_
  go_wp2_with fail
  refine region_tail 12 mx (by kernel_rfl) ?_
  rw [← hW3]
  clear hW3 r1 c0
  simp only [List.take_succ_cons, List.take_zero, List.drop_succ_cons, List.drop_zero]
  repeat (quiet_step (fail))
  refine wpQuiet_nil ?_
  go_wp2_with fail
  refine HL.out.mono ?_
  rintro e w4 ⟨rfl, l1, l2, q1, q2⟩
  have h4 := HF3.out.turn q1 q2
  obtain ⟨W5, hW5⟩ : ∃ W5, W5 = w4.drew := ⟨_, rfl⟩
  have h5 := h4.kept ((Keep.refl noBlock w4).drew)
  rw [← hW5] at h5
  obtain ⟨e0, -⟩ := h5.cells
  obtain ⟨-, -, -, e3, -, -, -, -, ef⟩ := h5.pr.st.first
  have ef3 := ef 3
  have hph := h5.pr.st.ok.ph
  rw [hs1] at hph e3
  have HS := hid (HS.out hph)
  have h6 := h5.ph p' hbm
  have h7 := h6.kept ((Keep.refl noBlock _).drew)
  have HD := hid (HD.out _ _ h7.pr l1 l2)
  obtain ⟨f0, f1, -⟩ := h7.cells
  have HF7 := hid h7
  clear h4 h5 h6 h7 q1 q2 HL HF3 ef hph hbm d0 d1 hs1
  go_wp2_with fail
  refine region_tail 14 mx (by kernel_rfl) ?_
  rw [← hW5]
  clear hW5
  simp only [List.take_succ_cons, List.take_zero, List.drop_succ_cons, List.drop_zero]
  iterate 11 (quiet_step (fail))
  refine wpQuiet_step (fun K hK => ?_)
  go_simp
  refine ⟨_, HS.out _, hK _ ?_⟩
  clear hK K
  repeat (quiet_step (fail))
  refine wpQuiet_nil ?_
  go_wp2_with fail
  generalize W5.setCell ⟨G.sb, 3, none⟩ (.int .u8 (p' : Int)) = W6 at *
  clear e0 e3 ef3 HS
  go_region_with (first | (go_at_call 120; refine HD.out.mono ?_; rintro e w8 ⟨rfl, dl, q1, q2⟩; obtain ⟨k0, HK⟩ := (show w8.cell? ⟨G.rb, 0, none⟩ = some (.pointer (some ⟨G.sb, 0, none⟩)) ∧ Hid (Rd G w8 rv tv { shiftR s 3 with ph := p' } x2 win told) from ⟨(HF7.out.turn q1 q2).cells.1, hid (HF7.out.turn q1 q2)⟩); obtain ⟨k4, kf⟩ := (show w8.cell? ⟨G.sb, 4, none⟩ = some (.int .u32 (s.r0 : Int)) ∧ w8.frozen? ⟨G.sb, 4, none⟩ = false from ⟨q1.st.first.2.2.2.2.1, q1.st.first.2.2.2.2.2.2.2.2 4⟩); clear q1 q2))
  all_goals
    have h9 := HK.out.r0 d dl
    have m0 := h9.cells.1
    have m4 := h9.pr.st.first.2.2.2.2.1
    have HR := (show Hid (Rd G (w8.setCell ⟨G.sb, 4, none⟩ (.int .u32 (d : Int))) rv tv { s with ph := p', r0 := d, r1 := s.r0, r2 := s.r1, r3 := s.r2 } x2 win told) from h9)
    clear h9 HK HF7 HD f0 f1 k0 k4 kf
    dsimp only at m4
    generalize w8.setCell ⟨G.sb, 4, none⟩ (.int .u32 (d : Int)) = W9 at *
    by_cases hd : d = endMark
    · have hdI : ((d : Int) == 4294967295) = true := by rw [hd]; rfl
      have HX := hid (show matchE ({ s with ph := p', r0 := d, r1 := s.r0, r2 := s.r1, r3 := s.r2 }, l) = .panicked malP from by unfold matchE; exact if_pos hd)
      clear hd
      go_wp2_with fail
      refine ⟨rfl, ?_, l1, l2, HR.out⟩
      rw [HX.out]
      rfl
    · have hdI : ((d : Int) == 4294967295) = false := by unfold endMark at hd; simp; omega
      have HX := hid (show matchE ({ s with ph := p', r0 := d, r1 := s.r0, r2 := s.r1, r3 := s.r2 }, l) = .returned (.int .i64 (l : Int)) from by unfold matchE; exact if_neg hd)
      clear hd
      go_wp2_with fail
      go_ret
      rw [HX.out]
      exact ⟨rfl, l1, l2, HR.out⟩

end Go.Proofs.YtnokemcogjoonaaGreatDoor

namespace Go.Proofs.YtnokemcogjoonaaGreatDoor.Pt
open Go.RowKit Go.Shelf
set_option linter.unusedVariables false

theorem Pe.shift {w : World} {sb eb : Nat} {s : Se} {x : Ex} {v : Value} (h : Pe w sb eb s x v) (k kc : Nat) (hk : k ≤ 3) :
    ∃ w', (Builtin.copy_ #[206, 206] 3 #[.slice (some ⟨sb, 5, none⟩) k kc, .slice (some ⟨sb, 4, none⟩) 4 4]).run Tryz.prog w = .ok (.int .i64 (k : Int)) w' ∧ Wrote w w' sb eb (shiftR s k) x v v := by
  obtain ⟨cs, ho, hc⟩ := h.st.obj
  have hl : ((repsL s).take k).length = k := by rw [List.length_take]; simp [repsL]; omega
  have hs := hc.size
  have := run_copy_row Tryz.prog w 206 206 3 55 sb 5 k kc ⟨sb, 4, none⟩ 4 4 cs 77 ((repsL s).take k) Tryz.underlying206 size48 ho (by rw [hl]; show k = min 4 k; omega)
    (fun j v hv => by
      rw [List.getElem?_take] at hv
      split at hv
      · rw [addO, cell_of ho]
        rcases j with _ | _ | _ | j
        · exact hc.e4.trans (by simpa [repsL] using hv)
        · exact hc.e5.trans (by simpa [repsL] using hv)
        · exact hc.e6.trans (by simpa [repsL] using hv)
        · omega
      · cases hv) (by rw [hl]; omega) (fun v hv => by
        have := List.mem_of_mem_take hv
        simp [repsL] at this
        rcases this with rfl | rfl | rfl <;> rfl)
  rw [show goInt ((repsL s).take k).length = .int .i64 (k : Int) from by rw [hl]; rfl] at this
  have hk2 : Keep (fun i => i = sb) w (w.setRow sb (cs.toList.take 5 ++ (repsL s).take k ++ cs.toList.drop (5 + ((repsL s).take k).length)).toArray) := keep_setRow (Keep.refl (fun i => i = sb) w) sb (fun _ => rfl) _
  refine ⟨_, this, ⟨⟨⟨_, ?_, hc.shift k hk⟩, shiftR_ok h.st.ok k, h.st.lt⟩, h.en.keep hk2 (fun e => h.ne e.symm) (fun g hg e => h.nv (e ▸ hg)), h.good⟩, Near.refl _ _, hk2.mono (fun _ _ e => .inl e)⟩
  exact setRow_heap w sb cs _ 77 (0, 0) ho
theorem Pe.r0 {w : World} {sb eb : Nat} {s : Se} {x : Ex} {v : Value} (h : Pe w sb eb s x v) (p : Nat) (hp : p < 4294967296) : Wrote w (w.setCell ⟨sb, 4, none⟩ (.int .u32 (p : Int))) sb eb { s with r0 := p } x v v := by
  obtain ⟨cs, ho, hc⟩ := h.st.obj
  have hk : Keep (fun k => k = sb) w (w.setCell ⟨sb, 4, none⟩ (.int .u32 (p : Int))) := (Keep.refl (fun k => k = sb) w).setCell (p := ⟨sb, 4, none⟩) (fun _ => rfl) _
  exact ⟨⟨⟨⟨_, set_obj ho 4 _, hc.r0 p⟩, ⟨h.st.ok.lc, h.st.ok.pb, h.st.ok.ph, hp, h.st.ok.r1, h.st.ok.r2, h.st.ok.r3⟩, h.st.lt⟩, h.en.keep hk (fun e => h.ne e.symm) (fun g hg e => h.nv (e ▸ hg)), h.good⟩, Near.refl _ _, hk.mono (fun _ _ e => .inl e)⟩
/-- What is no state, no encoder and no row of bytes stays. -/
theorem Wrote.other {w w' : World} {sb eb ob : Nat} {s s' : Se} {x x' : Ex} {v v' : Value} {cs : Array Value} (h : Pe w sb eb s x v) (hw : Wrote w w' sb eb s' x' v v') (ho : w.heap[ob]? = some (.cells cs 152 (0, 0))) : w'.heap[ob]? = some (.cells cs 152 (0, 0)) := by
  refine hw.kp.obj ho ?_
  rintro (e | e | e)
  · exact h.st.ne ho (by decide) e.symm
  · exact ne_of_type ho h.en.obj (by decide) e
  · exact owns_ne h.en.own ho (by decide) e
/-- A writer, and an operation in a block of its own. -/
structure Wo (G : Wg) (w : World) (s : Se) (x : Ex) (v : Value) (i ob : Nat) (o : Opn) : Prop where
  wt : Wt G w s x v i
  ob : w.heap[ob]? = some (.cells #[.int .u8 (o.kind : Int), .int .i64 (o.len : Int), .int .u32 (o.far : Int), .int .i64 (o.which : Int)] 152 (0, 0))
theorem Wo.turn {G : Wg} {w w' : World} {s s' : Se} {x x' : Ex} {v v' : Value} {i ob : Nat} {o : Opn} (h : Wo G w s x v i ob o) (hw : Wrote w w' G.sb G.eb s' x' v v') : Wo G w' s' x' v' i ob o := ⟨h.wt.turn hw, hw.other h.wt.pe h.ob⟩
theorem Wo.kept {G : Wg} {w w' : World} {s : Se} {x : Ex} {v : Value} {i ob : Nat} {o : Opn} (h : Wo G w s x v i ob o) (hk : Keep noBlock w w') : Wo G w' s x v i ob o := ⟨h.wt.kept hk, hk.obj h.ob (fun h => h)⟩
theorem Wo.cells {G : Wg} {w : World} {s : Se} {x : Ex} {v : Value} {i ob : Nat} {o : Opn} (h : Wo G w s x v i ob o) :
    w.cell? ⟨ob, 0, none⟩ = some (.int .u8 (o.kind : Int)) ∧ w.cell? ⟨ob, 1, none⟩ = some (.int .i64 (o.len : Int)) ∧ w.cell? ⟨ob, 2, none⟩ = some (.int .u32 (o.far : Int)) ∧ w.cell? ⟨ob, 3, none⟩ = some (.int .i64 (o.which : Int)) :=
  ⟨cell_of h.ob 0, cell_of h.ob 1, cell_of h.ob 2, cell_of h.ob 3⟩
def opV (o : Opn) : Value := .agg #[.int .u8 (o.kind : Int), .int .i64 (o.len : Int), .int .u32 (o.far : Int), .int .i64 (o.which : Int)]
theorem Wt.box {G : Wg} {w : World} {s : Se} {x : Ex} {v : Value} {i : Nat} (h : Wt G w s x v i) (o : Opn) :
    Wo G (w.alloc (.cells #[.int .u8 (o.kind : Int), .int .i64 (o.len : Int), .int .u32 (o.far : Int), .int .i64 (o.which : Int)] 152)) s x v i w.heap.size o ∧ Wrote w (w.alloc (.cells #[.int .u8 (o.kind : Int), .int .i64 (o.len : Int), .int .u32 (o.far : Int), .int .i64 (o.which : Int)] 152)) G.sb G.eb s x v v :=
  ⟨⟨h.kept ((Keep.refl noBlock w).alloc _), alloc_new w _⟩, (Wrote.refl h.pe).keep ((Keep.refl noBlock w).alloc _)⟩

set_option maxRecDepth 20000 in
set_option maxHeartbeats 4000000 in
theorem putMatch_any (G : Wg) (s : Se) (x : Ex) (v : Value) (i p : Nat) (o : Opn) (w : World) (h : Wt G w s x v i) (hp : p < 16) (h2 : 2 ≤ o.len) (h3 : o.len ≤ 273) (hf : o.far < 65536) (hr : Room x (lenA 12728 p o.len ++ distA o.len o.far)) :
    Calls Tryz.prog 73 #[.pointer (some ⟨G.wb, 0, none⟩), opV o, .int .i64 (p : Int)] w fun e w' => e = .returned (.tuple #[]) ∧ ∃ v', Wrote w w' G.sb G.eb { s with r0 := o.far, r1 := s.r0, r2 := s.r1, r3 := s.r2 } (runA (lenA 12728 p o.len ++ distA o.len o.far) x) v v' := by
  unfold opV
  obtain ⟨hA, hG⟩ := h.box o
  rw [runA_app]
  generalize hob : w.heap.size = ob at *
  have HOB := hid hob
  clear hob
  obtain ⟨W0, hW0⟩ : ∃ W0, W0 = w.alloc (.cells #[.int .u8 (o.kind : Int), .int .i64 (o.len : Int), .int .u32 (o.far : Int), .int .i64 (o.which : Int)] 152) := ⟨_, rfl⟩
  rw [← hW0] at hA hG
  obtain ⟨W1, hW1⟩ : ∃ W1, W1 = W0.drew := ⟨_, rfl⟩
  have hA := hA.kept ((Keep.refl noBlock W0).drew)
  have hG := hG.drew
  rw [← hW1] at hA hG
  obtain ⟨c0, c1, -⟩ := hA.wt.cells
  obtain ⟨-, o1, -⟩ := hA.cells
  have HL := hid (length_any G.sb G.eb 12728 p o.len s x v W1 hA.wt.pe hr.left (by omega) (by omega) hp h2 h3)
  unfold Writes at HL
  have HR := hid hr.right
  have HA := hid hA
  have HG := hid hG
  clear h hA hG hr
  generalize runA (lenA 12728 p o.len) x = x1 at *
  go_enter Tryz.func73, Tryz.ntmps73
  go_wp2_with fail
  rw [HOB.out, ← hW0]
  clear hW0
  refine region_tail 14 mx (by kernel_rfl) ?_
  rw [← hW1]
  clear hW1
  simp only [List.take_succ_cons, List.take_zero, List.drop_succ_cons, List.drop_zero]
  repeat (quiet_step (fail))
  refine wpQuiet_nil ?_
  go_wp2_with fail
  refine HL.out.mono ?_
  rintro e w2 ⟨rfl, v2, hw2⟩
  have hB := HA.out.turn hw2
  have hG := HG.out.trans hw2
  obtain ⟨W3, hW3⟩ : ∃ W3, W3 = w2.drew := ⟨_, rfl⟩
  have hB := hB.kept ((Keep.refl noBlock w2).drew)
  have hG := hG.drew
  rw [← hW3] at hB hG
  clear hw2 HL HA HG c0 c1 o1
  obtain ⟨c0, c1, -⟩ := hB.wt.cells
  obtain ⟨-, o1, o2, -⟩ := hB.cells
  have HD := hid (distance_any G.sb G.eb o.len o.far s x1 v2 W3 hB.wt.pe HR.out h2 h3 hf)
  unfold Writes at HD
  have HB := hid hB
  have HG := hid hG
  clear hB hG HR
  go_wp2_with fail
  refine region_tail 15 mx (by kernel_rfl) ?_
  rw [← hW3]
  clear hW3
  simp only [List.take_succ_cons, List.take_zero, List.drop_succ_cons, List.drop_zero]
  repeat (quiet_step (fail))
  refine wpQuiet_nil ?_
  go_wp2_with fail
  refine HD.out.mono ?_
  rintro e w4 ⟨rfl, v4, hw4⟩
  have hC := HB.out.turn hw4
  have hG := HG.out.trans hw4
  obtain ⟨W5, hW5⟩ : ∃ W5, W5 = w4.drew := ⟨_, rfl⟩
  have hC := hC.kept ((Keep.refl noBlock w4).drew)
  have hG := hG.drew
  rw [← hW5] at hC hG
  clear hw4 HD HB HG c0 c1 o1 o2
  obtain ⟨c0, -⟩ := hC.wt.cells
  obtain ⟨W6, r1, r2⟩ := hC.wt.pe.shift 3 3 (by omega)
  rw [show (((3 : Nat) : Int)) = (3 : Int) from rfl] at r1
  have hD := hC.turn r2
  have hG := hG.trans r2
  obtain ⟨W7, hW7⟩ : ∃ W7, W7 = W6.drew := ⟨_, rfl⟩
  have hD := hD.kept ((Keep.refl noBlock W6).drew)
  have hG := hG.drew
  rw [← hW7] at hD hG
  obtain ⟨d0, -⟩ := hD.wt.cells
  obtain ⟨-, -, o2, -⟩ := hD.cells
  have hf4 := hD.wt.pe.st.first.2.2.2.2.2.2.2.2 4
  have hf5 := hD.wt.pe.st.first.2.2.2.2.1
  have HG := (show Hid (Wrote w (W7.setCell ⟨G.sb, 4, none⟩ (.int .u32 (o.far : Int))) G.sb G.eb { s with r0 := o.far, r1 := s.r0, r2 := s.r1, r3 := s.r2 } (runA (distA o.len o.far) x1) v v4) from hG.trans (hD.wt.pe.r0 o.far (by omega)))
  clear hC hD hG r2
  go_wp2_with fail
  refine region_tail 14 mx (by kernel_rfl) ?_
  rw [← hW5]
  clear hW5
  simp only [List.take_succ_cons, List.take_zero, List.drop_succ_cons, List.drop_zero]
  repeat (quiet_step (fail))
  refine wpQuiet_nil ?_
  refine wpList_copy_run _ rfl _ _ 206 rfl _ _ _ _ rfl rfl r1 ?_
  go_wp2_with fail
  refine region_tail 8 mx (by kernel_rfl) ?_
  rw [← hW7]
  clear hW7 r1 c0
  simp only [List.take_succ_cons, List.take_zero, List.drop_succ_cons, List.drop_zero]
  repeat (quiet_step (fail))
  refine wpQuiet_nil ?_
  go_wp2_with fail
  go_end0
  exact ⟨rfl, v4, HG.out⟩

end Go.Proofs.YtnokemcogjoonaaGreatDoor.Pt
