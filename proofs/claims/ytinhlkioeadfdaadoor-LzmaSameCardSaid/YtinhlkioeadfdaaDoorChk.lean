/-
  A chunk's operations, one behind the other, and its end.
-/
import Derived.Test.YtinhlkioeadfdaaDoorOpr
import Derived.Test.YtinhlkioeadfdaaDoorCat
import Derived.WalkMore
namespace Go.Proofs.YtinhlkioeadfdaaDoor
open Go.RowKit Go.Shelf
set_option linter.unusedVariables false

theorem runM_none {K : Ck} {k : Nat} {s s1 : Se} {win told : List Nat} {x x1 : Cx} (h : told.length < K.n) (ho : opM K s win told x = ((s1, none), x1)) : runM K (k + 1) s win told x = (none, x1) := by
  unfold runM
  rw [if_neg (by omega)]
  unfold bnd
  rw [ho]
  rfl
theorem runM_byte {K : Ck} {k v : Nat} {s s1 : Se} {win told : List Nat} {x x1 : Cx} (h : told.length < K.n) (ho : opM K s win told x = ((s1, some (true, v)), x1)) : runM K (k + 1) s win told x = runM K k s1 (lastN K.size (win ++ [v])) (told ++ [v]) x1 := by
  conv => lhs; unfold runM
  rw [if_neg (by omega)]
  unfold bnd
  rw [ho]
theorem runM_long {K : Ck} {k l : Nat} {s s1 : Se} {win told : List Nat} {x x1 : Cx} (h : told.length < K.n) (ho : opM K s win told x = ((s1, some (false, l)), x1)) (hl : K.n - told.length < l) : runM K (k + 1) s win told x = (none, x1) := by
  unfold runM
  rw [if_neg (by omega)]
  unfold bnd
  rw [ho]
  dsimp only
  rw [if_pos hl]
  rfl
theorem runM_far {K : Ck} {k l : Nat} {s s1 : Se} {win told : List Nat} {x x1 : Cx} (h : told.length < K.n) (ho : opM K s win told x = ((s1, some (false, l)), x1)) (hl : ¬ K.n - told.length < l) (hf : win.length < s1.r0 + 1) : runM K (k + 1) s win told x = (none, x1) := by
  unfold runM
  rw [if_neg (by omega)]
  unfold bnd
  rw [ho]
  dsimp only
  rw [if_neg hl, if_pos hf]
  rfl
theorem runM_copy {K : Ck} {k l : Nat} {s s1 : Se} {win told : List Nat} {x x1 : Cx} (h : told.length < K.n) (ho : opM K s win told x = ((s1, some (false, l)), x1)) (hl : ¬ K.n - told.length < l) (hf : ¬ win.length < s1.r0 + 1) :
    runM K (k + 1) s win told x = runM K k s1 (lastN K.size (win ++ outL win (s1.r0 + 1) l)) (told ++ outL win (s1.r0 + 1) l) x1 := by
  conv => lhs; unfold runM
  rw [if_neg (by omega)]
  unfold bnd
  rw [ho]
  dsimp only
  rw [if_neg hl, if_neg hf]

theorem Rd.far {G : Rg} {w w' : World} {rv tv : Value} {s : Se} {x : Cx} {win told : List Nat} {S : Nat → Prop} (h : Rd G w rv tv s x win told) (hk : Keep S w w') (hS : ∀ k, S k → G.w0.heap.size ≤ k ∧ k ≠ G.sb ∧ k ≠ G.db ∧ k ≠ G.gb ∧ k ≠ G.wb ∧ k ≠ G.rb ∧ rv.ownBlock ≠ some k ∧ tv.ownBlock ≠ some k) : Rd G w' rv tv s x win told :=
  ⟨hk.obj h.obj (fun q => (hS _ q).2.2.2.2.2.1 rfl), h.pr.keep hk (fun q => (hS _ q).2.1 rfl) (fun q => (hS _ q).2.2.1 rfl) (fun q => (hS _ q).2.2.2.1 rfl), h.wi.keep hk (fun q => (hS _ q).2.2.2.2.1 rfl) (fun g hg q => (hS _ q).2.2.2.2.2.2.1 hg), owns_kept h.own hk (fun g hg q => (hS _ q).2.2.2.2.2.2.2 hg), h.lt, h.gt, h.gr, h.tr, h.g1, h.g2, Nat.lt_of_lt_of_le h.gl hk.size, h.kp.trans hk (fun i hi q => absurd hi (by have := (hS i q).1; omega)), h.n4, h.n5, h.pl, h.tl, h.nn⟩
/-- The world ahead of a reader is another one. -/
def Rg.at (G : Rg) (w : World) : Rg := ⟨w, G.rb, G.sb, G.db, G.gb, G.wb, G.lb, G.rv0, G.tv0, G.K⟩
theorem Rd.rebase {G : Rg} {w w' : World} {s : Se} {x : Cx} {win told : List Nat} (h : Rd G w G.rv0 G.tv0 s x win told) (hk : Keep noBlock w w') : Rd (G.at w') w' G.rv0 G.tv0 s x win told :=
  let h' := h.kept hk
  ⟨h'.obj, h'.pr, h'.wi, h'.own, h'.lt, h'.gt, h'.gr, h'.tr, h'.g1, h'.g2, h'.gl, Keep.refl _ _, Near.refl _ _, Near.refl _ _, h'.pl, h'.tl, h'.nn⟩
theorem Rd.back {G : Rg} {w1 w : World} {rv tv : Value} {s : Se} {x : Cx} {win told : List Nat} (h : Rd (G.at w1) w rv tv s x win told) (hk : Keep noBlock G.w0 w1) : Rd G w rv tv s x win told := by
  have hk2 : Keep (RS G) w1 w := h.kp
  refine ⟨h.obj, h.pr, h.wi, h.own, h.lt, h.gt, h.gr, h.tr, h.g1, h.g2, h.gl, (hk.mono (fun _ _ h => h.elim)).trans hk2 (fun _ _ h => h), ?_, ?_, h.pl, h.tl, h.nn⟩
  · rcases h.n4 with e | ⟨k, e, hk'⟩
    · exact .inl e
    · exact .inr ⟨k, e, Nat.le_trans hk.size hk'⟩
  · rcases h.n5 with e | ⟨k, e, hk'⟩
    · exact .inl e
    · exact .inr ⟨k, e, Nat.le_trans hk.size hk'⟩
/-- How many bytes are told, as it lies. -/
def toldW (rb : Nat) (W : World) : Nat := match W.cell? ⟨rb, 3, none⟩ with | some (.slice _ n _) => n | _ => 0
theorem toldW_of {G : Rg} {w : World} {rv tv : Value} {s : Se} {x : Cx} {win told : List Nat} (h : Rd G w rv tv s x win told) : toldW G.rb w = told.length := by
  obtain ⟨ta, tc, rfl⟩ := h.tform
  unfold toldW
  rw [cell_of h.obj 3]
  rfl
theorem Rd.var {G : Rg} {w1 W : World} {rv tv : Value} {s s' : Se} {x x' : Cx} {win win' told told' : List Nat} (h1 : Rd (G.at w1) w1 G.rv0 G.tv0 s x win told) (h : Rd (G.at w1) W rv tv s' x' win' told') {vb : Nat} {cs : Array Value} {t : TypeId} (hv : w1.heap[vb]? = some (.cells cs t (0, 0)))
    (t1 : t ≠ 60) (t2 : t ≠ 75) (t3 : t ≠ 70) (t4 : t ≠ 86) (t5 : t ≠ 5) : W.heap[vb]? = some (.cells cs t (0, 0)) := by
  refine h.kp.obj hv ?_
  obtain ⟨R, o, hw, -⟩ := h1.wi
  obtain ⟨a, cap, off, hd, hB⟩ := h1.pr.de.obj
  rintro (e | e | e | e | e | e)
  · exact h1.pr.st.ne hv t1 e.symm
  · exact ne_of_type hv hw.obj t2 e
  · exact ne_of_type hv h1.obj t3 e
  · exact ne_of_type hv hd t4 e
  · exact h1.wi.ring_ne hv t5 e
  · exact owns_ne h1.own hv t5 e
/-- The two variables are set. -/
theorem Rd.vars {G : Rg} {w1 W W' : World} {rv tv : Value} {s : Se} {x : Cx} {win told : List Nat} (h : Rd (G.at w1) W rv tv s x win told) (hk : Keep noBlock G.w0 w1) (vb : Nat) {c1 c2 : Array Value} (hv1 : W.heap[vb]? = some (.cells c1 22 (0, 0))) (hv2 : W.heap[vb + 1]? = some (.cells c2 29 (0, 0))) (hb : G.w0.heap.size ≤ vb) (hg : G.gb < G.w0.heap.size)
    (hK : Keep (fun k => k = vb ∨ k = vb + 1) W W') : Rd G W' rv tv s x win told := by
  obtain ⟨R, o, hw, -⟩ := h.wi
  obtain ⟨a, cap, off, hd, hB⟩ := h.pr.de.obj
  refine (h.back hk).far hK ?_
  rintro k (rfl | rfl)
  · exact ⟨hb, fun e => h.pr.st.ne hv1 (by decide) e.symm, ne_of_type hv1 hd (by decide), by omega, ne_of_type hv1 hw.obj (by decide), ne_of_type hv1 h.obj (by decide), h.wi.ring_ne hv1 (by decide), owns_ne h.own hv1 (by decide)⟩
  · exact ⟨by omega, fun e => h.pr.st.ne hv2 (by decide) e.symm, ne_of_type hv2 hd (by decide), by omega, ne_of_type hv2 hw.obj (by decide), ne_of_type hv2 h.obj (by decide), h.wi.ring_ne hv2 (by decide), owns_ne h.own hv2 (by decide)⟩
theorem two_cells (W : World) (b : Nat) (A B a0 b0 : Value) (t1 t2 : TypeId) (h1 : W.heap[b]? = some (.cells #[a0] t1 (0, 0))) (h2 : W.heap[b + 1]? = some (.cells #[b0] t2 (0, 0))) :
    ((W.setCell ⟨b, 0, none⟩ A).setCell ⟨b + 1, 0, none⟩ B).cell? ⟨b, 0, none⟩ = some A ∧ ((W.setCell ⟨b, 0, none⟩ A).setCell ⟨b + 1, 0, none⟩ B).cell? ⟨b + 1, 0, none⟩ = some B := by
  have q1 := set_far (set_obj h1 0 A) (show b ≠ b + 1 by omega) 0 B
  have q2 := set_obj (set_far h2 (show b + 1 ≠ b by omega) 0 A) 0 B
  exact ⟨(cell_of q1 0).trans (by simp), (cell_of q2 0).trans (by simp)⟩
/-- How a chunk ends. -/
def ChP (G : Rg) (w' : World) (r : Option Out) (e : Ending) : Prop := match r with
  | none => e = .returned (.tuple #[.slice none 0 0, .int .i64 11]) ∧ ∃ rv' tv' s' x' win' told', Rd G w' rv' tv' s' x' win' told'
  | some o => ∃ rv' tv' d, e = .returned (.tuple #[tv', .int .i64 0]) ∧ Rd G w' rv' tv' o.s ⟨o.c, d⟩ o.win o.told

set_option maxRecDepth 20000 in
set_option maxHeartbeats 4000000 in
theorem chunk_any (G : Rg) (s : Se) (x : Cx) (win : List Nat) (w : World) (hG : G.w0 = w) (h : Rd G w G.rv0 G.tv0 s x win []) :
    Calls Tryd.prog 14 #[.pointer (some ⟨G.rb, 0, none⟩), .int .i64 (G.K.n : Int)] w fun e w' => ChP G w' (chunkR (runM G.K G.K.n s win [] x)) e := by
  have hmf : ∀ (fn : Fn) (first cap : Array Value) (w : World), (Instr.makeFunc fn first cap).run Tryd.prog w = .ok (.func fn first cap) w := fun _ _ _ _ => rfl
  have hk1 : Keep noBlock w ((w.alloc (.cells #[.slice none 0 0] 22)).alloc (.cells #[.int .i64 0] 29)) := ((Keep.refl noBlock w).alloc _).alloc _
  have h1 := h.rebase hk1
  generalize hR : runM G.K G.K.n s win [] x = R at *
  have HR := hid hR
  have hnn := h.nn
  clear hR
  go_enter_defers Tryd.func14, Tryd.ntmps14
  go_wp2_with fail
  go_step3
  go_wp2_with fail
  go_step3
  go_wp2_with fail
  obtain ⟨W1, hW1⟩ : ∃ W1, W1 = (w.alloc (.cells #[.slice none 0 0] 22)).alloc (.cells #[.int .i64 0] 29) := ⟨_, rfl⟩
  rw [← hW1] at hk1 h1
  rw [← hW1]
  have v1 : W1.heap[w.heap.size]? = some (.cells #[.slice none 0 0] 22 (0, 0)) := by rw [hW1]; exact alloc_far (alloc_new w _) _
  have v2 : W1.heap[w.heap.size + 1]? = some (.cells #[.int .i64 0] 29 (0, 0)) := by
    have := alloc_new (w.alloc (.cells #[.slice none 0 0] 22)) (.cells #[.int .i64 0] 29)
    rw [World.size_alloc] at this
    rw [hW1]; exact this
  have HV := (show Hid (W1.heap[w.heap.size]? = some (.cells #[.slice none 0 0] 22 (0, 0)) ∧ W1.heap[w.heap.size + 1]? = some (.cells #[.int .i64 0] 29 (0, 0)) ∧ Keep noBlock w W1 ∧ G.gb < w.heap.size) from ⟨v1, v2, hk1, h.gl⟩)
  have H1 := hid h1
  clear hW1 v1 v2 hk1 h1 h
  go_loopw [6] (fun i wr => Hid (∃ k s' x' win' told' rv' tv', runM G.K k s' win' told' x' = R ∧ G.K.n ≤ told'.length + k ∧ Rd (G.at W1) wr rv' tv' s' x' win' told')) (fun _ wr => G.K.n - toldW G.rb wr)
  case atStart => exact (show ∃ k s' x' win' told' rv' tv', _ from ⟨G.K.n, s, x, win, [], G.rv0, G.tv0, HR.out, by simp, H1.out⟩)
  case round =>
    obtain ⟨k, s', x', win', told', rv', tv', b1, b2, h2⟩ := hrel.out
    have HB := hid hrel.out
    clear hrel
    obtain ⟨va1, va2, va3, va4⟩ := HV.out
    have e1 := H1.out.var h2 va1 (by decide) (by decide) (by decide) (by decide) (by decide)
    have e2 := H1.out.var h2 va2 (by decide) (by decide) (by decide) (by decide) (by decide)
    have y1 := cell_of e1 0
    have y2 := cell_of e2 0
    have y3 := frozen_of e1 0
    have y4 := frozen_of e2 0
    have HW2 := hid h2
    have htw : toldW G.rb wr = told'.length := toldW_of (G := G.at W1) h2
    obtain ⟨ta, tc, rfl⟩ := h2.tform
    have c3 : wr.cell? ⟨G.rb, 3, none⟩ = some (.slice ta told'.length tc) := h2.cells.2.2.2.1
    by_cases hlt : told'.length < G.K.n
    · have hltI : (told'.length : Int) < (G.K.n : Int) := by omega
      have HO := hid (operation_any (G.at W1) rv' _ s' x' win' told' wr h2 hlt)
      have hop := (show opM G.K s' win' told' x' = opM (G.at W1).K s' win' told' x' from rfl)
      generalize opM (G.at W1).K s' win' told' x' = OP at *
      obtain ⟨⟨s1, q⟩, x1⟩ := OP
      obtain ⟨k, rfl⟩ : ∃ k', k = k' + 1 := ⟨k - 1, by omega⟩
      have HRN := hid (fun hq => runM_none (k := k) (s1 := s1) (x1 := x1) hlt (hop.trans hq))
      have HRB := hid (fun v hq => runM_byte (k := k) (s1 := s1) (x1 := x1) (v := v) hlt (hop.trans hq))
      have HRL := hid (fun l hq => runM_long (k := k) (s1 := s1) (x1 := x1) (l := l) hlt (hop.trans hq))
      have HRF := hid (fun l hq => runM_far (k := k) (s1 := s1) (x1 := x1) (l := l) hlt (hop.trans hq))
      have HRC := hid (fun l hq => runM_copy (k := k) (s1 := s1) (x1 := x1) (l := l) hlt (hop.trans hq))
      rw [b1] at HRN HRB HRL HRF HRC
      have HB2 := (show Hid (G.K.n ≤ told'.length + (k + 1) ∧ toldW G.rb wr = told'.length) from ⟨b2, htw⟩)
      clear b1 b2 h2 va1 va2 va3 va4 e1 e2 y1 y2 y3 y4 HB htw hop HW2
      match q with
      | none =>
        go_wp2_with fail
        refine HO.out.mono ?_
        rintro e w3 ⟨rfl, h3⟩
        have HRR := hid (show chunkR R = none from by rw [HRN.out (by first | rfl | trivial)]; rfl)
        obtain ⟨va1, va2, va3, va4⟩ := HV.out
        have e1 := H1.out.var h3 va1 (by decide) (by decide) (by decide) (by decide) (by decide)
        have e2 := H1.out.var h3 va2 (by decide) (by decide) (by decide) (by decide) (by decide)
        have y1 : w3.cell? ⟨w.heap.size, 0, none⟩ = some (.slice none 0 0) := cell_of e1 0
        have y2 : w3.cell? ⟨w.heap.size + 1, 0, none⟩ = some (.int .i64 0) := cell_of e2 0
        have y3 := frozen_of e1 0
        have y4 := frozen_of e2 0
        have HX := hid (h3.vars (G := G) (W' := (w3.setCell ⟨w.heap.size, 0, none⟩ (.slice none 0 0)).setCell ⟨w.heap.size + 1, 0, none⟩ (.int .i64 11)) (by rw [hG]; exact va3) w.heap.size e1 e2 (by rw [hG]; omega) (by rw [hG]; exact va4) (((Keep.refl (fun k => k = w.heap.size ∨ k = w.heap.size + 1) w3).setCell (p := ⟨w.heap.size, 0, none⟩) (fun _ => .inl rfl) _).setCell (p := ⟨w.heap.size + 1, 0, none⟩) (fun _ => .inr rfl) _))
        obtain ⟨z1, z2⟩ := two_cells w3 w.heap.size (.slice none 0 0) (.int .i64 11) _ _ 22 29 e1 e2
        clear va1 va2 va3 va4 e1 e2
        refine leaves_cons (f := 20) (args := #[.pointer (some ⟨w.heap.size, 0, none⟩), .pointer (some ⟨w.heap.size + 1, 0, none⟩)]) (by simp) (by simp [go_sem]) ?_
        refine (catch_panicking ⟨w.heap.size, 0, none⟩ ⟨w.heap.size + 1, 0, none⟩ _ _ [] w3 y1 y2 y3 y4 (by simp)).mono ?_
        rintro e u' w'' ⟨rfl, rfl, rfl⟩
        generalize (w3.setCell ⟨w.heap.size, 0, none⟩ (.slice none 0 0)).setCell ⟨w.heap.size + 1, 0, none⟩ (.int .i64 11) = W9 at *
        simp [Leaves, settle, results, Tryd.results14, go_sem, z1, z2]
        rw [HRR.out]
        exact ⟨rfl, _, _, _, _, _, _, HX.out⟩
      | some (true, v) =>
        go_wp2_with fail
        refine HO.out.mono ?_
        rintro e w3 ⟨rfl, rv2, tv2, h3⟩
        have HRX := hid (HRB.out v rfl)
        obtain ⟨ta2, tc2, rfl⟩ := h3.tform
        have c4 : w3.cell? ⟨G.rb, 3, none⟩ = some (.slice ta2 (told' ++ [v]).length tc2) := h3.cells.2.2.2.1
        have ht2 : toldW G.rb w3 = (told' ++ [v]).length := toldW_of (G := G.at W1) h3
        have hl2 : (told' ++ [v]).length = told'.length + 1 := by simp
        rw [hl2] at c4
        have H3 := hid h3
        have HT2 := hid (show toldW G.rb w3 = told'.length + 1 from by rw [ht2, hl2])
        have hI3 : ¬ ((G.K.n : Int) - ((told'.length : Int) + 1) < 0) := by omega
        clear h3 ht2 hl2 HRN HRB HRL HRF HRC HO
        go_wp2_with fail
        go_roundw
        case rel => exact (show ∃ k s' x' win' told' rv' tv', _ from ⟨k, s1, x1, _, _, rv2, _, HRX.out.symm, by have := HB2.out.1; rw [List.length_append, List.length_singleton]; omega, H3.out⟩)
        case measure => rw [HT2.out, HB2.out.2]; omega
      | some (false, l) =>
        go_wp2_with fail
        refine HO.out.mono ?_
        rintro e w3 ⟨rfl, l1, l2, h3⟩
        have c4 : w3.cell? ⟨G.rb, 3, none⟩ = some (.slice ta told'.length tc) := h3.cells.2.2.2.1
        have HRL := hid (HRL.out l rfl)
        have HRF := hid (HRF.out l rfl)
        have HRC := hid (HRC.out l rfl)
        clear HRN HRB HO
        by_cases hl : G.K.n - told'.length < l
        · have hlI : (G.K.n : Int) - (told'.length : Int) < (l : Int) := by omega
          have HRR := (show Hid (chunkR R = none) from by rw [HRL.out hl]; rfl)
          obtain ⟨va1, va2, va3, va4⟩ := HV.out
          have e1 := H1.out.var h3 va1 (by decide) (by decide) (by decide) (by decide) (by decide)
          have e2 := H1.out.var h3 va2 (by decide) (by decide) (by decide) (by decide) (by decide)
          have y1 : w3.cell? ⟨w.heap.size, 0, none⟩ = some (.slice none 0 0) := cell_of e1 0
          have y2 : w3.cell? ⟨w.heap.size + 1, 0, none⟩ = some (.int .i64 0) := cell_of e2 0
          have y3 := frozen_of e1 0
          have y4 := frozen_of e2 0
          have HX := hid (h3.vars (G := G) (W' := (w3.setCell ⟨w.heap.size, 0, none⟩ (.slice none 0 0)).setCell ⟨w.heap.size + 1, 0, none⟩ (.int .i64 11)) (by rw [hG]; exact va3) w.heap.size e1 e2 (by rw [hG]; omega) (by rw [hG]; exact va4) (((Keep.refl (fun k => k = w.heap.size ∨ k = w.heap.size + 1) w3).setCell (p := ⟨w.heap.size, 0, none⟩) (fun _ => .inl rfl) _).setCell (p := ⟨w.heap.size + 1, 0, none⟩) (fun _ => .inr rfl) _))
          obtain ⟨z1, z2⟩ := two_cells w3 w.heap.size (.slice none 0 0) (.int .i64 11) _ _ 22 29 e1 e2
          clear va1 va2 va3 va4 e1 e2
          clear HRL HRF HRC hl
          go_wp2_with fail
          generalize (w3.setCell ⟨w.heap.size, 0, none⟩ (.slice none 0 0)).setCell ⟨w.heap.size + 1, 0, none⟩ (.int .i64 11) = W9 at *
          refine leaves_cons (f := 20) (args := #[.pointer (some ⟨w.heap.size, 0, none⟩), .pointer (some ⟨w.heap.size + 1, 0, none⟩)]) (by simp) (by simp [go_sem]) ?_
          refine (catch_idle _ _ _).mono ?_
          rintro e u' w'' ⟨rfl, rfl, rfl⟩
          simp [Leaves, settle, results, Tryd.results14, go_sem, z1, z2]
          rw [HRR.out]
          exact ⟨rfl, _, _, _, _, _, _, HX.out⟩
        · have hlI : ¬ (G.K.n : Int) - (told'.length : Int) < (l : Int) := by omega
          have hl0 : (0 : Int) < (l : Int) := by omega
          have HRF := hid (HRF.out hl)
          have HRC := hid (HRC.out hl)
          by_cases hf : win'.length < s1.r0 + 1
          · have HRR := (show Hid (chunkR R = none) from by rw [HRF.out hf]; rfl)
            have HPC := hid (putCopy_far (G.at W1) rv' _ s1 x1 win' told' l l2 w3 h3 hf)
            clear HRL HRF HRC hl hf h3
            go_wp2_with fail
            refine HPC.out.mono ?_
            rintro e w4 ⟨rfl, h4⟩
            obtain ⟨va1, va2, va3, va4⟩ := HV.out
            have e1 := H1.out.var h4 va1 (by decide) (by decide) (by decide) (by decide) (by decide)
            have e2 := H1.out.var h4 va2 (by decide) (by decide) (by decide) (by decide) (by decide)
            have y1 : w4.cell? ⟨w.heap.size, 0, none⟩ = some (.slice none 0 0) := cell_of e1 0
            have y2 : w4.cell? ⟨w.heap.size + 1, 0, none⟩ = some (.int .i64 0) := cell_of e2 0
            have y3 := frozen_of e1 0
            have y4 := frozen_of e2 0
            have HX := hid (h4.vars (G := G) (W' := (w4.setCell ⟨w.heap.size, 0, none⟩ (.slice none 0 0)).setCell ⟨w.heap.size + 1, 0, none⟩ (.int .i64 11)) (by rw [hG]; exact va3) w.heap.size e1 e2 (by rw [hG]; omega) (by rw [hG]; exact va4) (((Keep.refl (fun k => k = w.heap.size ∨ k = w.heap.size + 1) w4).setCell (p := ⟨w.heap.size, 0, none⟩) (fun _ => .inl rfl) _).setCell (p := ⟨w.heap.size + 1, 0, none⟩) (fun _ => .inr rfl) _))
            obtain ⟨z1, z2⟩ := two_cells w4 w.heap.size (.slice none 0 0) (.int .i64 11) _ _ 22 29 e1 e2
            clear va1 va2 va3 va4 e1 e2
            refine leaves_cons (f := 20) (args := #[.pointer (some ⟨w.heap.size, 0, none⟩), .pointer (some ⟨w.heap.size + 1, 0, none⟩)]) (by simp) (by simp [go_sem]) ?_
            refine (catch_panicking ⟨w.heap.size, 0, none⟩ ⟨w.heap.size + 1, 0, none⟩ _ _ [] w4 y1 y2 y3 y4 (by simp)).mono ?_
            rintro e u' w'' ⟨rfl, rfl, rfl⟩
            generalize (w4.setCell ⟨w.heap.size, 0, none⟩ (.slice none 0 0)).setCell ⟨w.heap.size + 1, 0, none⟩ (.int .i64 11) = W9 at *
            simp [Leaves, settle, results, Tryd.results14, go_sem, z1, z2]
            rw [HRR.out]
            exact ⟨rfl, _, _, _, _, _, _, HX.out⟩
          · have HRX := hid (HRC.out hf)
            have HPC := hid (putCopy_ok (G.at W1) rv' _ s1 x1 win' told' l l2 w3 h3 (by omega) (show told'.length + l ≤ G.K.n by omega))
            clear HRL HRF HRC hl hf h3
            go_wp2_with fail
            refine HPC.out.mono ?_
            rintro e w4 ⟨rfl, rv2, tv2, h4⟩
            have ht2 : toldW G.rb w4 = (told' ++ outL win' (s1.r0 + 1) l).length := toldW_of (G := G.at W1) h4
            rw [List.length_append, outL_length] at ht2
            have H4 := hid h4
            have HT2 := hid ht2
            clear h4 ht2 HPC
            go_wp2_with fail
            go_roundw
            case rel => exact (show ∃ k s' x' win' told' rv' tv', _ from ⟨k, s1, x1, _, _, rv2, tv2, HRX.out.symm, by have := HB2.out.1; rw [List.length_append, outL_length]; omega, H4.out⟩)
            case measure => rw [HT2.out, HB2.out.2]; omega
    · have hltI : ¬ (told'.length : Int) < (G.K.n : Int) := by omega
      have HE := hid (ended_any (G.at W1) rv' _ s' x' win' told' wr h2)
      have hRd : R = (some (s', win', told'), x') := by
        rw [← b1, runM_done G.K k s' win' told' (by omega)]; rfl
      have HRR := (show Hid (chunkR R = if okEnd x'.d then some ⟨s', x'.c, win', told'⟩ else none) from by rw [hRd]; rfl)
      clear b1 hRd h2 va1 va2 va3 va4 HB htw
      generalize okEnd x'.d = ok at *
      go_wp2_with fail
      refine HE.out.mono ?_
      rintro e w3 ⟨rfl, h3⟩
      obtain ⟨va1, va2, va3, va4⟩ := HV.out
      have e1 := H1.out.var h3 va1 (by decide) (by decide) (by decide) (by decide) (by decide)
      have e2 := H1.out.var h3 va2 (by decide) (by decide) (by decide) (by decide) (by decide)
      have y1 : w3.cell? ⟨w.heap.size, 0, none⟩ = some (.slice none 0 0) := cell_of e1 0
      have y2 : w3.cell? ⟨w.heap.size + 1, 0, none⟩ = some (.int .i64 0) := cell_of e2 0
      have y3 := frozen_of e1 0
      have y4 := frozen_of e2 0
      have c3 : w3.cell? ⟨G.rb, 3, none⟩ = some (.slice ta told'.length tc) := h3.cells.2.2.2.1
      have HX := hid (fun (a b : Value) => h3.vars (G := G) (W' := (w3.setCell ⟨w.heap.size, 0, none⟩ a).setCell ⟨w.heap.size + 1, 0, none⟩ b) (by rw [hG]; exact va3) w.heap.size e1 e2 (by rw [hG]; omega) (by rw [hG]; exact va4) (((Keep.refl (fun k => k = w.heap.size ∨ k = w.heap.size + 1) w3).setCell (p := ⟨w.heap.size, 0, none⟩) (fun _ => .inl rfl) a).setCell (p := ⟨w.heap.size + 1, 0, none⟩) (fun _ => .inr rfl) b))
      have HY := hid (fun (a b : Value) => two_cells w3 w.heap.size a b _ _ 22 29 e1 e2)
      clear h3 va1 va2 va3 va4 e1 e2 HE HW2
      cases ok with
      | true =>
        have HX := hid (HX.out (.slice ta told'.length tc) (.int .i64 0))
        obtain ⟨z1, z2⟩ := HY.out (.slice ta told'.length tc) (.int .i64 0)
        go_wp2_with fail
        generalize (w3.setCell ⟨w.heap.size, 0, none⟩ (.slice ta told'.length tc)).setCell ⟨w.heap.size + 1, 0, none⟩ (.int .i64 0) = W4 at *
        refine leaves_cons (f := 20) (args := #[.pointer (some ⟨w.heap.size, 0, none⟩), .pointer (some ⟨w.heap.size + 1, 0, none⟩)]) (by simp) (by simp [go_sem]) ?_
        refine (catch_idle _ _ _).mono ?_
        rintro e u' w'' ⟨rfl, rfl, rfl⟩
        simp [Leaves, settle, results, Tryd.results14, go_sem, z1, z2]
        rw [HRR.out]
        exact ⟨_, _, _, rfl, HX.out⟩
      | false =>
        have HX := hid (HX.out (.slice none 0 0) (.int .i64 11))
        obtain ⟨z1, z2⟩ := HY.out (.slice none 0 0) (.int .i64 11)
        go_wp2_with fail
        generalize (w3.setCell ⟨w.heap.size, 0, none⟩ (.slice none 0 0)).setCell ⟨w.heap.size + 1, 0, none⟩ (.int .i64 11) = W4 at *
        refine leaves_cons (f := 20) (args := #[.pointer (some ⟨w.heap.size, 0, none⟩), .pointer (some ⟨w.heap.size + 1, 0, none⟩)]) (by simp) (by simp [go_sem]) ?_
        refine (catch_idle _ _ _).mono ?_
        rintro e u' w'' ⟨rfl, rfl, rfl⟩
        simp [Leaves, settle, results, Tryd.results14, go_sem, z1, z2]
        rw [HRR.out]
        exact ⟨rfl, _, _, _, _, _, _, HX.out⟩

end Go.Proofs.YtinhlkioeadfdaaDoor
