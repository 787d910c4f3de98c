/-
  The program's encoder: a shift.
-/
import Derived.Test.YtfhgbggcpoingaaDec
namespace Go.Proofs.Ytfhgbggcpoingaa
open Go.RowKit Go.Shelf
set_option linter.unusedVariables false

/-- Block b is an encoder; v is the slice of what went out. -/
structure IsE (w : World) (b : Nat) (e : Enc) (op : Bool) (v : Value) : Prop where
  obj : w.heap[b]? = some (.cells #[.int .u64 (e.low : Int), .int .u32 (e.span : Int), .int .u8 (e.first : Int), .int .i64 (e.wait : Int), v, .bool op] 69 (0, 0))
  own : w.ownsRow 0 5 1 v e.out.length (u8s e.out)
  low : e.low < 8589934592
  span : e.span < 4294967296
  first : e.first < 256
  out : ∀ j : Nat, e.out[j]?.getD 0 < 256
/-- The row is the old one or a new one. -/
def Near (w : World) (v v' : Value) : Prop := v'.ownBlock = v.ownBlock ∨ ∃ k, v'.ownBlock = some k ∧ w.heap.size ≤ k
theorem Near.refl (w : World) (v : Value) : Near w v v := .inl rfl
theorem Near.trans {w w1 : World} {v v1 v2 : Value} (h1 : Near w v v1) (h2 : Near w1 v1 v2) (hs : w.heap.size ≤ w1.heap.size) : Near w v v2 := by
  rcases h2 with e | ⟨k, e, hk⟩
  · rcases h1 with e' | ⟨k, e', hk⟩
    · exact .inl (e.trans e')
    · exact .inr ⟨k, e.trans e', hk⟩
  · exact .inr ⟨k, e, Nat.le_trans hs hk⟩
/-- What an encoder's call may turn. -/
def EncS (b : Nat) (v : Value) (k : Nat) : Prop := k = b ∨ v.ownBlock = some k
theorem keep_near {w w1 w2 : World} {b : Nat} {v v1 : Value} (k1 : Keep (EncS b v) w w1) (hn : Near w v v1) (k2 : Keep (EncS b v1) w1 w2) : Keep (EncS b v) w w2 :=
  k1.trans k2 (fun i hi h => by
    rcases h with e | e
    · exact .inl e
    · rcases hn with q | ⟨k, q, hk⟩
      · exact .inr (q ▸ e)
      · rw [q] at e
        have : k = i := by simpa using e
        omega)
theorem IsE.ne {w : World} {b : Nat} {e : Enc} {op : Bool} {v : Value} (h : IsE w b e op v) : v.ownBlock ≠ some b := owns_ne h.own h.obj (by decide)
theorem IsE.keep {w w' : World} {S : Nat → Prop} {b : Nat} {e : Enc} {op : Bool} {v : Value} (h : IsE w b e op v) (hk : Keep S w w') (h1 : ¬ S b) (h2 : ∀ g, v.ownBlock = some g → ¬ S g) : IsE w' b e op v :=
  ⟨hk.obj h.obj h1, owns_kept h.own hk h2, h.low, h.span, h.first, h.out⟩
theorem IsE.same {w : World} {b : Nat} {e : Enc} {op : Bool} {v : Value} (h : IsE w b e op v) {W : World} (e1 : W.heap = w.heap) (e2 : W.os = w.os) (e3 : W.tape = w.tape) (e4 : W.output = w.output) : IsE W b e op v :=
  h.keep (S := noBlock) ((Keep.refl _ w).same e1 e2 e3 e4) (fun h => h) (fun _ _ h => h)
/-- A store into the encoder's own block. -/
theorem own_set {w : World} {b n : Nat} {v : Value} {xs : List Value} (h : w.ownsRow 0 5 1 v n xs) (hne : v.ownBlock ≠ some b) (i : Nat) (u : Value) : (w.setCell ⟨b, i, none⟩ u).ownsRow 0 5 1 v n xs :=
  owns_kept h ((Keep.refl (fun k => k = b) w).setCell (p := ⟨b, i, none⟩) (fun _ => rfl) _) (fun g hg e => hne (by rw [hg, e]))
theorem IsE.cells {w : World} {b : Nat} {e : Enc} {op : Bool} {v : Value} (h : IsE w b e op v) : w.cell? ⟨b, 0, none⟩ = some (.int .u64 (e.low : Int)) ∧ w.cell? ⟨b, 1, none⟩ = some (.int .u32 (e.span : Int)) ∧ w.cell? ⟨b, 2, none⟩ = some (.int .u8 (e.first : Int)) ∧ w.cell? ⟨b, 3, none⟩ = some (.int .i64 (e.wait : Int)) ∧ w.cell? ⟨b, 4, none⟩ = some v ∧ w.cell? ⟨b, 5, none⟩ = some (.bool op) ∧ (∀ i, w.frozen? ⟨b, i, none⟩ = false) :=
  ⟨cell_of h.obj 0, cell_of h.obj 1, cell_of h.obj 2, cell_of h.obj 3, cell_of h.obj 4, cell_of h.obj 5, fun i => frozen_of h.obj i⟩
theorem IsE.form {w : World} {b : Nat} {e : Enc} {op : Bool} {v : Value} (h : IsE w b e op v) : ∃ va vn vc, v = .slice va vn vc := by
  obtain ⟨a, c, hv⟩ := owns_form h.own
  exact ⟨_, _, _, hv⟩
/-- How many wait, as it lies. -/
def heldW (W : World) (b : Nat) : Nat := match W.cell? ⟨b, 3, none⟩ with | some (.int _ n) => n.toNat | _ => 0
theorem heldW_of {W : World} {b : Nat} {e : Enc} {op : Bool} {v : Value} (h : IsE W b e op v) : heldW W b = e.wait := by
  unfold heldW
  rw [cell_of h.obj 3]
  rfl
/-- What went out behind m of those that waited. -/
def midE (e : Enc) (m : Nat) : Enc := ⟨e.low, e.span, if m = 0 then e.first else 255, e.wait - m, e.out ++ (flushL e.first e.wait (e.low / 4294967296 % 256)).take m⟩
theorem midE_zero (e : Enc) : midE e 0 = e := by simp [midE]
theorem flush_at (f n c m : Nat) (h : m < n) : (flushL f n c)[m]? = some (((if m = 0 then f else 255) + c) % 256) := by
  unfold flushL
  cases n with
  | zero => omega
  | succ n =>
    cases m with
    | zero => simp
    | succ m => simp [List.getElem?_replicate]; omega
theorem midE_succ (e : Enc) (m : Nat) (h : m < e.wait) : midE e (m + 1) = ⟨(midE e m).low, (midE e m).span, 255, (midE e m).wait - 1, (midE e m).out ++ [((midE e m).first + e.low / 4294967296 % 256) % 256]⟩ := by
  unfold midE
  have := flush_at e.first e.wait (e.low / 4294967296 % 256) m h
  rw [List.take_add_one, this]
  simp only [Option.toList_some, List.append_assoc, Nat.add_one_ne_zero, if_false]
  congr 1
theorem midE_all (e : Enc) (h : ¬ e.low / 16777216 = 255) : shiftE e = ⟨(midE e e.wait).low % 16777216 * 256, (midE e e.wait).span, e.low / 16777216 % 256, 1, (midE e e.wait).out⟩ := by
  unfold shiftE midE
  rw [if_neg h, List.take_of_length_le (by rw [flushL_len]; exact Nat.le_refl _)]
theorem and_24 (x : Nat) (h : x < 8589934592) : bits .and .u64 (x : Int) 16777215 = ((x % 16777216 : Nat) : Int) := by
  rw [show (16777215 : Int) = ((16777215 : Nat) : Int) from rfl, u64_and_nat _ _ (by omega) (by decide), show (16777215 : Nat) = 2 ^ 24 - 1 from rfl, Nat.and_two_pow_sub_one_eq_mod]

set_option maxHeartbeats 4000000 in
theorem shift_any (b : Nat) (e : Enc) (op : Bool) (v : Value) (w : World) (h : IsE w b e op v) (hm : manyE e ≤ 1000000) :
    Calls Try.prog 38 #[.pointer (some ⟨b, 0, none⟩)] w fun r w' => r = .returned (.tuple #[]) ∧ ∃ v', IsE w' b (shiftE e) op v' ∧ Near w v v' ∧ Keep (EncS b v) w w' := by
  obtain ⟨c0, c1, c2, c3, c4, c5, hf⟩ := h.cells
  have f0 := hf 0
  have f3 := hf 3
  have hlow := h.low
  obtain ⟨l24, hl24⟩ : ∃ x, x = e.low / 16777216 := ⟨_, rfl⟩
  obtain ⟨l32, hl32⟩ : ∃ x, x = e.low / 4294967296 := ⟨_, rfl⟩
  obtain ⟨lm, hlm⟩ : ∃ x, x = e.low % 16777216 := ⟨_, rfl⟩
  obtain ⟨lw, hlw⟩ : ∃ x, x = lm * 256 := ⟨_, rfl⟩
  have i24 : (e.low : Int) / 16777216 = (l24 : Int) := by omega
  have i32 : (e.low : Int) / 4294967296 = (l32 : Int) := by omega
  have iand : bits .and .u64 (e.low : Int) 16777215 = (lm : Int) := by rw [hlm]; exact and_24 _ hlow
  have ilw : (lm : Int) * 256 = (lw : Int) := by omega
  have hlwb : (lw : Int) < 4294967296 := by omega
  have hlmb : (lm : Int) < 16777216 := by omega
  have hw : (e.wait : Int) ≤ 1000000 := by unfold manyE at hm; omega
  by_cases h255 : e.low / 16777216 = 255
  · have hsh : shiftE e = ⟨lw, e.span, e.first, e.wait + 1, e.out⟩ := by unfold shiftE; rw [if_pos h255, hlw, hlm]
    have h24 : (l24 : Int) = 255 := by omega
    have h32 : (l32 : Int) = 0 := by omega
    rw [h24] at i24
    rw [h32] at i32
    have HF := (show Hid (∀ x : Int, x = (e.wait : Int) + 1 → IsE ((w.setCell ⟨b, 3, none⟩ (.int .i64 x)).setCell ⟨b, 0, none⟩ (.int .u64 (lw : Int))) b (shiftE e) op v ∧ Keep (EncS b v) w ((w.setCell ⟨b, 3, none⟩ (.int .i64 x)).setCell ⟨b, 0, none⟩ (.int .u64 (lw : Int)))) from by
      intro x hx
      have hk := ((Keep.refl (EncS b v) w).setCell (p := ⟨b, 3, none⟩) (fun _ => .inl rfl) (.int .i64 x)).setCell (p := ⟨b, 0, none⟩) (fun _ => .inl rfl) (.int .u64 (lw : Int))
      refine ⟨⟨?_, ?_, ?_, ?_, ?_, ?_⟩, hk⟩
      · refine (set_obj (set_obj h.obj 3 _) 0 _).trans ?_
        rw [hsh, hx]
        simp
      · rw [hsh]; exact own_set (own_set h.own h.ne 3 _) h.ne 0 _
      · rw [hsh]; show lw < _; omega
      · rw [hsh]; exact h.span
      · rw [hsh]; exact h.first
      · rw [hsh]; exact h.out)
    clear h hf hsh h24 h32 hl24 hl32 hlm hlw h255 hlow
    go_enter Try.func38, Try.ntmps38
    go_wp2_with fail
    refine wp_scope_straight ?_
    go_wp2_with fail
    refine wp_label ?_
    go_wp2_with fail
    refine wp_loop_rounds 1 ?_
    rw [rounds_succ]
    go_wp2_with fail
    simp only [Exit.noGoto]
    go_end0
    exact ⟨rfl, v, (HF.out _ rfl).1, Near.refl _ _, (HF.out _ rfl).2⟩
  · have h24 : ((l24 : Int) == 255) = false := by rw [beq_eq_false_iff_ne]; omega
    obtain ⟨ca, hca⟩ : ∃ x, x = l32 % 256 := ⟨_, rfl⟩
    have ica : (l32 : Int) % 256 = (ca : Int) := by omega
    have ica2 : (l32 : Int) = (ca : Int) := by omega
    obtain ⟨lb, hlb⟩ : ∃ x, x = l24 % 256 := ⟨_, rfl⟩
    have ilb : (l24 : Int) % 256 = (lb : Int) := by omega
    have hcaB : (ca : Int) ≤ 1 := by omega
    rw [ica2] at i32
    have HS := (show Hid (shiftE e = ⟨lw, e.span, lb, 1, (midE e e.wait).out⟩ ∧ e.low / 4294967296 % 256 = ca ∧ lb < 256) from ⟨by rw [midE_all e h255, hlb, hl24, hlw, hlm]; rfl, by rw [hca, hl32], by omega⟩)
    have HM := hid hm
    have H0 := (show Hid (IsE w b (midE e 0) op v ∧ Near w v v ∧ Keep (EncS b v) w w) from ⟨by rw [midE_zero]; exact h, Near.refl _ _, Keep.refl _ _⟩)
    clear h hf hl24 hl32 hlm hlw h255 hca hlb ica ica2 hm
    go_enter Try.func38, Try.ntmps38
    go_wp2_with fail
    refine wp_scope_straight ?_
    go_wp2_with fail
    refine wp_label ?_
    go_wp2_with fail
    go_loopw [] (fun wr => ∃ (m : Nat) (v' : Value), m ≤ e.wait ∧ Hid (IsE wr b (midE e m) op v' ∧ Near w v v' ∧ Keep (EncS b v) w wr)) (fun wr => heldW wr b)
    case atStart => exact ⟨0, v, Nat.zero_le _, H0.out⟩
    case round =>
      clear H0 c0 c1 c2 c3 c4 c5 f0 f3
      obtain ⟨m, v1, hmw, HR⟩ := hrel
      obtain ⟨hE, hN, hK⟩ := HR.out
      obtain ⟨c0, c1, c2, c3, c4, c5, hf⟩ := hE.cells
      have f0 := hf 0
      have f2 := hf 2
      have f3 := hf 3
      have f4 := hf 4
      have hHW := heldW_of hE
      have c0' : wr.cell? ⟨b, 0, none⟩ = some (.int .u64 (e.low : Int)) := c0
      clear c0
      by_cases hlt : m < e.wait
      · have hsuc := midE_succ e m hlt
        rw [HS.out.2.1] at hsuc
        have hw1 : (midE e m).wait = e.wait - m := rfl
        have hol : (midE e m).out.length = e.out.length + m := by
          show (e.out ++ (flushL e.first e.wait (e.low / 4294967296 % 256)).take m).length = _
          rw [List.length_append, List.length_take, flushL_len]
          omega
        have hmany := HM.out
        unfold manyE at hmany
        obtain ⟨x, hx⟩ : ∃ x, x = ((midE e m).first + ca) % 256 := ⟨_, rfl⟩
        rw [← hx] at hsuc
        obtain ⟨y, hy⟩ : ∃ y, y = (midE e m).first + ca := ⟨_, rfl⟩
        have ix : ((midE e m).first : Int) + (ca : Int) = (y : Int) := by omega
        have ix2 : IntKind.u8.wrap (y : Int) = (x : Int) := by rw [IntKind.wrap_u8']; omega
        have a4 : (wr.alloc (.cells #[.int .u8 (x : Int)] 5)).cell? ⟨b, 4, none⟩ = some v1 := cell_of (alloc_far hE.obj _) 4
        have a2 : (wr.alloc (.cells #[.int .u8 (x : Int)] 5)).cell? ⟨b, 2, none⟩ = some (.int .u8 ((midE e m).first : Int)) := cell_of (alloc_far hE.obj _) 2
        have hk0 : Keep noBlock wr wr.drew := (Keep.refl _ wr).drew
        have hEd := hE.keep hk0 (fun h => h) (fun _ _ h => h)
        obtain ⟨v2, W2, hr, ho2, hk2, hn2⟩ := own_push hEd.own x (by omega)
        have hr' : (Builtin.append_ #[22, 22] 22 #[v1, .slice (some ⟨wr.heap.size, 0, none⟩) 1 1]).run Try.prog (wr.alloc (.cells #[.int .u8 (x : Int)] 5)).drew = .ok v2 W2 := hr
        have ob2 := hk2.obj hEd.obj hEd.ne
        have d4 : W2.cell? ⟨b, 4, none⟩ = some v1 := cell_of ob2 4
        have d2 : W2.cell? ⟨b, 2, none⟩ = some (.int .u8 ((midE e m).first : Int)) := cell_of ob2 2
        have d3 : W2.cell? ⟨b, 3, none⟩ = some (.int .i64 ((midE e m).wait : Int)) := cell_of ob2 3
        have g2 := frozen_of ob2 2
        have g3 := frozen_of ob2 3
        have g4 := frozen_of ob2 4
        have hne2 : v2.ownBlock ≠ some b := owns_ne ho2 ob2 (by decide)
        obtain ⟨wn, hwn⟩ : ∃ x, x = (midE e m).wait - 1 := ⟨_, rfl⟩
        have iwn : ((midE e m).wait : Int) - 1 = (wn : Int) := by omega
        have hwI : (((midE e m).wait : Int) == 0) = false := by rw [beq_eq_false_iff_ne]; omega
        have hwB : ((midE e m).wait : Int) ≤ 1000000 := by omega
        have hnn : Near w v v2 := hN.trans (w1 := wr.drew) hn2 hK.size
        have HF := (show Hid (IsE (((W2.setCell ⟨b, 4, none⟩ v2).setCell ⟨b, 2, none⟩ (.int .u8 255)).setCell ⟨b, 3, none⟩ (.int .i64 (wn : Int))) b (midE e (m + 1)) op v2 ∧ Near w v v2 ∧ Keep (EncS b v) w (((W2.setCell ⟨b, 4, none⟩ v2).setCell ⟨b, 2, none⟩ (.int .u8 255)).setCell ⟨b, 3, none⟩ (.int .i64 (wn : Int)))) from by
          have k2 : Keep (EncS b v1) wr W2 := (hk0.mono (fun _ _ h => h.elim)).trans hk2 (fun _ _ h => .inr h)
          have k3 := ((k2.setCell (p := ⟨b, 4, none⟩) (fun _ => .inl rfl) v2).setCell (p := ⟨b, 2, none⟩) (fun _ => .inl rfl) (.int .u8 255)).setCell (p := ⟨b, 3, none⟩) (fun _ => .inl rfl) (.int .i64 (wn : Int))
          refine ⟨⟨?_, ?_, ?_, ?_, ?_, ?_⟩, hnn, keep_near hK hN k3⟩
          · refine (set_obj (set_obj (set_obj ob2 4 _) 2 _) 3 _).trans ?_
            rw [hsuc, ← hwn]
            rfl
          · rw [hsuc]; exact own_set (own_set (own_set ho2 hne2 4 _) hne2 2 _) hne2 3 _
          · rw [hsuc]; exact hE.low
          · rw [hsuc]; exact hE.span
          · rw [hsuc]; show 255 < 256; omega
          · rw [hsuc]
            exact lt_app hE.out (lt256 (fun y hy => by
              have : y = x := by simpa using hy
              omega)))
        obtain ⟨va, vn, vc, rfl⟩ := hE.form
        obtain ⟨ua, uc, rfl⟩ := owns_form ho2
        have HW := hid hHW
        have HWN := hid (show (midE e m).wait = e.wait - m ∧ m < e.wait from ⟨rfl, hlt⟩)
        have hfb := hE.first
        clear hE hN hK hf hHW HR hsuc hw1 hol hmany hx hy hk0 hEd hr ob2 ho2 hk2 hn2 hne2 hwn hnn c1 c5
        generalize (midE e m).first = fi at *
        generalize (midE e m).wait = wt at *
        generalize ((midE e m).out ++ [x]).length = on at *
        have hfbI : (fi : Int) < 256 := by omega
        go_wp2_with fail
        go_region_law (refine step_append_run _ (by rfl) _ _ 22 (by rfl) (.slice va vn vc) (.slice (some ⟨wr.heap.size, 0, none⟩) 1 1) (.slice ua on uc) W2 (by rfl) (by rfl) hr' ?_)
        all_goals
          go_wp2_with fail
          go_roundw
          case rel => exact ⟨m + 1, _, by omega, HF.out⟩
          case measure =>
            rw [heldW_of HF.out.1, HW.out]
            have h1 := HWN.out
            show (midE e (m + 1)).wait < wt
            have h2 : (midE e (m + 1)).wait = e.wait - (m + 1) := rfl
            omega
      · obtain rfl : m = e.wait := by omega
        have hw0 : (midE e e.wait).wait = 0 := by show e.wait - e.wait = 0; omega
        rw [hw0, show (((0 : Nat) : Int)) = (0 : Int) from rfl] at c3
        have hlbI : (lb : Int) < 256 := by have := HS.out.2.2; omega
        have HF := (show Hid (IsE (((wr.setCell ⟨b, 2, none⟩ (.int .u8 (lb : Int))).setCell ⟨b, 3, none⟩ (.int .i64 1)).setCell ⟨b, 0, none⟩ (.int .u64 (lw : Int))) b (shiftE e) op v1 ∧ Near w v v1 ∧ Keep (EncS b v) w (((wr.setCell ⟨b, 2, none⟩ (.int .u8 (lb : Int))).setCell ⟨b, 3, none⟩ (.int .i64 1)).setCell ⟨b, 0, none⟩ (.int .u64 (lw : Int)))) from by
          have k3 := (((Keep.refl (EncS b v1) wr).setCell (p := ⟨b, 2, none⟩) (fun _ => .inl rfl) (.int .u8 (lb : Int))).setCell (p := ⟨b, 3, none⟩) (fun _ => .inl rfl) (.int .i64 1)).setCell (p := ⟨b, 0, none⟩) (fun _ => .inl rfl) (.int .u64 (lw : Int))
          have hne := hE.ne
          rw [HS.out.1]
          refine ⟨⟨?_, ?_, ?_, ?_, ?_, ?_⟩, hN, keep_near hK hN k3⟩
          · exact (set_obj (set_obj (set_obj hE.obj 2 _) 3 _) 0 _).trans rfl
          · exact own_set (own_set (own_set hE.own hne 2 _) hne 3 _) hne 0 _
          · show lw < _; omega
          · exact hE.span
          · exact HS.out.2.2
          · exact hE.out)
        clear hE hN hK hf hHW HR hw0 hlt hmw
        go_wp2_with fail
        simp only [Exit.noGoto]
        go_end0
        exact ⟨rfl, v1, HF.out⟩

end Go.Proofs.Ytfhgbggcpoingaa
