/-
  The document's encoder: a shift.
-/
import Derived.Test.YtinhlkioeadfdaaEsx
import Derived.Test.YtinhlkioeadfdaaChn
namespace Go.Proofs.Ytinhlkioeadfdaa
open Go.RowKit Go.Shelf
set_option linter.unusedVariables false

/-- Block b is an encoder of the document's; v is the slice of what went out. -/
structure IsV (w : World) (b : Nat) (e : Enc) (op : Bool) (v : Value) : Prop where
  obj : w.heap[b]? = some (.cells #[.int .u64 (e.low : Int), .int .u32 (e.span : Int), .int .u8 (e.first : Int), .int .i64 (e.wait : Int), v, .bool op] 142 (0, 0))
  own : w.ownsRow 0 5 1 v e.out.length (u8s e.out)
  low : e.low < 8589934592
  span : e.span < 4294967296
  first : e.first < 256
  out : ∀ j : Nat, e.out[j]?.getD 0 < 256
theorem IsV.ne {w : World} {b : Nat} {e : Enc} {op : Bool} {v : Value} (h : IsV w b e op v) : v.ownBlock ≠ some b := owns_ne h.own h.obj (by decide)
theorem IsV.keep {w w' : World} {S : Nat → Prop} {b : Nat} {e : Enc} {op : Bool} {v : Value} (h : IsV w b e op v) (hk : Keep S w w') (h1 : ¬ S b) (h2 : ∀ g, v.ownBlock = some g → ¬ S g) : IsV w' b e op v :=
  ⟨hk.obj h.obj h1, owns_kept h.own hk h2, h.low, h.span, h.first, h.out⟩
theorem IsV.same {w : World} {b : Nat} {e : Enc} {op : Bool} {v : Value} (h : IsV w b e op v) {W : World} (e1 : W.heap = w.heap) (e2 : W.os = w.os) (e3 : W.tape = w.tape) (e4 : W.output = w.output) : IsV W b e op v :=
  h.keep (S := noBlock) ((Keep.refl _ w).same e1 e2 e3 e4) (fun h => h) (fun _ _ h => h)
theorem IsV.cells {w : World} {b : Nat} {e : Enc} {op : Bool} {v : Value} (h : IsV w b e op v) : w.cell? ⟨b, 0, none⟩ = some (.int .u64 (e.low : Int)) ∧ w.cell? ⟨b, 1, none⟩ = some (.int .u32 (e.span : Int)) ∧ w.cell? ⟨b, 2, none⟩ = some (.int .u8 (e.first : Int)) ∧ w.cell? ⟨b, 3, none⟩ = some (.int .i64 (e.wait : Int)) ∧ w.cell? ⟨b, 4, none⟩ = some v ∧ w.cell? ⟨b, 5, none⟩ = some (.bool op) ∧ (∀ i, w.frozen? ⟨b, i, none⟩ = false) :=
  ⟨cell_of h.obj 0, cell_of h.obj 1, cell_of h.obj 2, cell_of h.obj 3, cell_of h.obj 4, cell_of h.obj 5, fun i => frozen_of h.obj i⟩
theorem IsV.form {w : World} {b : Nat} {e : Enc} {op : Bool} {v : Value} (h : IsV w b e op v) : ∃ va vn vc, v = .slice va vn vc := by
  obtain ⟨a, c, hv⟩ := owns_form h.own
  exact ⟨_, _, _, hv⟩
/-- How many wait, as it lies. -/
def heldV (W : World) (b : Nat) : Nat := match W.cell? ⟨b, 3, none⟩ with | some (.int _ n) => n.toNat | _ => 0
theorem heldV_of {W : World} {b : Nat} {e : Enc} {op : Bool} {v : Value} (h : IsV W b e op v) : heldV W b = e.wait := by
  unfold heldV
  rw [cell_of h.obj 3]
  rfl
/-- What went out behind m of those that waited: the document's way. -/
def midV (e : Enc) (m : Nat) : Enc := ⟨e.low, e.span, e.first, e.wait - (m - 1), e.out ++ (flushL e.first e.wait (e.low / 4294967296 % 256)).take m⟩
theorem midV_one (e : Enc) (h : 1 ≤ e.wait) : midV e 1 = ⟨e.low, e.span, e.first, e.wait, e.out ++ [(e.first + e.low / 4294967296 % 256) % 256]⟩ := by
  have := flush_at e.first e.wait (e.low / 4294967296 % 256) 0 (by omega)
  unfold midV
  rw [List.take_add_one, this]
  simp
theorem midV_succ (e : Enc) (m : Nat) (h1 : 1 ≤ m) (h : m < e.wait) : midV e (m + 1) = ⟨(midV e m).low, (midV e m).span, (midV e m).first, (midV e m).wait - 1, (midV e m).out ++ [(255 + e.low / 4294967296 % 256) % 256]⟩ := by
  have := flush_at e.first e.wait (e.low / 4294967296 % 256) m h
  rw [if_neg (by omega)] at this
  unfold midV
  rw [List.take_add_one, this]
  simp only [Option.toList_some, List.append_assoc]
  congr 1
  omega
theorem midV_all (e : Enc) (h : ¬ e.low / 16777216 = 255) : shiftE e = ⟨(midV e e.wait).low % 16777216 * 256, (midV e e.wait).span, e.low / 16777216 % 256, 1, (midV e e.wait).out⟩ := by
  unfold shiftE midV
  rw [if_neg h, List.take_of_length_le (by rw [flushL_len]; exact Nat.le_refl _)]

set_option maxHeartbeats 4000000 in
theorem shiftV_any (b : Nat) (e : Enc) (op : Bool) (v : Value) (w : World) (h : IsV w b e op v) (hw1 : 1 ≤ e.wait) (hm : manyE e ≤ 1000000) :
    Calls Try.prog 61 #[.pointer (some ⟨b, 0, none⟩)] w fun r w' => r = .returned (.tuple #[]) ∧ ∃ v', IsV w' b (shiftE e) op v' ∧ Near w v v' ∧ Keep (EncS b v) w w' := by
  obtain ⟨c0, c1, c2, c3, c4, c5, hf⟩ := h.cells
  have f0 := hf 0
  have f3 := hf 3
  have hlow := h.low
  obtain ⟨l24, hl24⟩ : ∃ x, x = e.low / 16777216 := ⟨_, rfl⟩
  obtain ⟨l32, hl32⟩ : ∃ x, x = e.low / 4294967296 := ⟨_, rfl⟩
  obtain ⟨lm, hlm⟩ : ∃ x, x = e.low % 16777216 := ⟨_, rfl⟩
  obtain ⟨lw, hlw⟩ : ∃ x, x = lm * 256 := ⟨_, rfl⟩
  have i24 : (e.low : Int) / 16777216 = (l24 : Int) := by omega
  have i32 : (e.low : Int) / 4294967296 = (l32 : Int) := by omega
  have iand : bits .and .u64 (e.low : Int) 16777215 = (lm : Int) := by rw [hlm]; exact and_24 _ hlow
  have ilw : (lm : Int) * 256 = (lw : Int) := by omega
  have hlwb : (lw : Int) < 4294967296 := by omega
  have hlmb : (lm : Int) < 16777216 := by omega
  have hw : (e.wait : Int) ≤ 1000000 := by unfold manyE at hm; omega
  by_cases h255 : e.low / 16777216 = 255
  · have hsh : shiftE e = ⟨lw, e.span, e.first, e.wait + 1, e.out⟩ := by unfold shiftE; rw [if_pos h255, hlw, hlm]
    have g1 : ¬ (e.low : Int) < 4278190080 := by omega
    have g2 : ¬ (4294967296 : Int) ≤ (e.low : Int) := by omega
    have HF := (show Hid (∀ x : Int, x = (e.wait : Int) + 1 → IsV ((w.setCell ⟨b, 3, none⟩ (.int .i64 x)).setCell ⟨b, 0, none⟩ (.int .u64 (lw : Int))) b (shiftE e) op v ∧ Keep (EncS b v) w ((w.setCell ⟨b, 3, none⟩ (.int .i64 x)).setCell ⟨b, 0, none⟩ (.int .u64 (lw : Int)))) from by
      intro x hx
      have hk := ((Keep.refl (EncS b v) w).setCell (p := ⟨b, 3, none⟩) (fun _ => .inl rfl) (.int .i64 x)).setCell (p := ⟨b, 0, none⟩) (fun _ => .inl rfl) (.int .u64 (lw : Int))
      refine ⟨⟨?_, ?_, ?_, ?_, ?_, ?_⟩, hk⟩
      · refine (set_obj (set_obj h.obj 3 _) 0 _).trans ?_
        rw [hsh, hx]
        simp
      · rw [hsh]; exact own_set (own_set h.own h.ne 3 _) h.ne 0 _
      · rw [hsh]; show lw < _; omega
      · rw [hsh]; exact h.span
      · rw [hsh]; exact h.first
      · rw [hsh]; exact h.out)
    clear h hf hsh hl24 hl32 hlm hlw h255 hlow i24 i32
    go_enter Try.func61, Try.ntmps61
    go_wp2_with fail
    go_end0
    exact ⟨rfl, v, (HF.out _ rfl).1, Near.refl _ _, (HF.out _ rfl).2⟩
  · have g1 : (decide ((e.low : Int) < 4278190080) = true) ∨ (decide ((e.low : Int) < 4278190080) = false ∧ (4294967296 : Int) ≤ (e.low : Int)) := by
      by_cases q : (e.low : Int) < 4278190080
      · exact .inl (decide_eq_true q)
      · exact .inr ⟨decide_eq_false q, by omega⟩
    obtain ⟨ca, hca⟩ : ∃ x, x = l32 % 256 := ⟨_, rfl⟩
    have ica2 : (l32 : Int) = (ca : Int) := by omega
    obtain ⟨lb, hlb⟩ : ∃ x, x = l24 % 256 := ⟨_, rfl⟩
    have ilb : (l24 : Int) % 256 = (lb : Int) := by omega
    have hcaB : (ca : Int) ≤ 1 := by omega
    rw [ica2] at i32
    have HS := (show Hid (shiftE e = ⟨lw, e.span, lb, 1, (midV e e.wait).out⟩ ∧ e.low / 4294967296 % 256 = ca ∧ lb < 256) from ⟨by rw [midV_all e h255, hlb, hl24, hlw, hlm]; rfl, by rw [hca, hl32], by omega⟩)
    have HM := (show Hid (manyE e ≤ 1000000 ∧ 1 ≤ e.wait) from ⟨hm, hw1⟩)
    have hone := midV_one e hw1
    rw [HS.out.2.1] at hone
    have hE := h
    have hmany := hm
    unfold manyE at hmany
    obtain ⟨x, hx⟩ : ∃ x, x = (e.first + ca) % 256 := ⟨_, rfl⟩
    rw [← hx] at hone
    obtain ⟨y, hy⟩ : ∃ y, y = e.first + ca := ⟨_, rfl⟩
    have ix : (e.first : Int) + (ca : Int) = (y : Int) := by omega
    have ix2 : IntKind.u8.wrap (y : Int) = (x : Int) := by rw [IntKind.wrap_u8']; omega
    have a4 : (w.alloc (.cells #[.int .u8 (x : Int)] 5)).cell? ⟨b, 4, none⟩ = some v := cell_of (alloc_far hE.obj _) 4
    have a2 : (w.alloc (.cells #[.int .u8 (x : Int)] 5)).cell? ⟨b, 2, none⟩ = some (.int .u8 (e.first : Int)) := cell_of (alloc_far hE.obj _) 2
    have hk0 : Keep noBlock w w.drew := (Keep.refl _ w).drew
    have hEd := hE.keep hk0 (fun h => h) (fun _ _ h => h)
    obtain ⟨v2, W2, hr, ho2, hk2, hn2⟩ := own_push hEd.own x (by omega)
    have hr' : (Builtin.append_ #[22, 22] 22 #[v, .slice (some ⟨w.heap.size, 0, none⟩) 1 1]).run Try.prog (w.alloc (.cells #[.int .u8 (x : Int)] 5)).drew = .ok v2 W2 := hr
    have ob2 := hk2.obj hEd.obj hEd.ne
    have d4 : W2.cell? ⟨b, 4, none⟩ = some v := cell_of ob2 4
    have g4 := frozen_of ob2 4
    have hne2 : v2.ownBlock ≠ some b := owns_ne ho2 ob2 (by decide)
    have HF := (show Hid (IsV (W2.setCell ⟨b, 4, none⟩ v2) b (midV e 1) op v2 ∧ Near w v v2 ∧ Keep (EncS b v) w (W2.setCell ⟨b, 4, none⟩ v2)) from by
      have k2 : Keep (EncS b v) w W2 := (hk0.mono (fun _ _ h => h.elim)).trans hk2 (fun _ _ h => .inr h)
      refine ⟨⟨?_, ?_, ?_, ?_, ?_, ?_⟩, hn2, k2.setCell (p := ⟨b, 4, none⟩) (fun _ => .inl rfl) v2⟩
      · refine (set_obj ob2 4 _).trans ?_
        rw [hone]
        rfl
      · rw [hone]; exact own_set ho2 hne2 4 _
      · rw [hone]; exact hE.low
      · rw [hone]; exact hE.span
      · rw [hone]; exact hE.first
      · rw [hone]
        exact lt_app hE.out (lt256 (fun y hy => by
          have : y = x := by simpa using hy
          omega)))
    obtain ⟨va, vn, vc, rfl⟩ := hE.form
    obtain ⟨ua, uc, rfl⟩ := owns_form ho2
    have hfb := hE.first
    have hfbI : (e.first : Int) < 256 := by omega
    generalize (e.out ++ [x]).length = on at *
    clear h hE hf hone hmany hx hy hk0 hEd hr ob2 ho2 hk2 hn2 hne2 hl24 hl32 hlm hlw h255 hca hlb ica2 hm hw1 hlow c1 c5
    rcases g1 with g1 | ⟨g1, g2⟩
    all_goals
      go_enter Try.func61, Try.ntmps61
      go_wp2_with fail
      go_region_law (refine step_append_run _ (by rfl) _ _ 22 (by rfl) (.slice va vn vc) (.slice (some ⟨w.heap.size, 0, none⟩) 1 1) (.slice ua on uc) W2 (by rfl) (by rfl) hr' ?_)
    all_goals
      go_wp2_with fail
      clear c0 c2 c3 c4 f0 f3 a4 a2 hr' d4 g4 g1 ix ix2
      go_loopw [] (fun wr => ∃ (m : Nat) (v' : Value), 1 ≤ m ∧ m ≤ e.wait ∧ Hid (IsV wr b (midV e m) op v' ∧ Near w (.slice va vn vc) v' ∧ Keep (EncS b (.slice va vn vc)) w wr)) (fun wr => heldV wr b)
      case atStart => exact ⟨1, _, Nat.le_refl _, HM.out.2, HF.out⟩
      case round =>
        clear HF
        obtain ⟨m, v1, hm1, hmw, HR⟩ := hrel
        obtain ⟨hE, hN, hK⟩ := HR.out
        obtain ⟨c0, c1, c2, c3, c4, c5, hf⟩ := hE.cells
        have f0 := hf 0
        have f2 := hf 2
        have f3 := hf 3
        have f4 := hf 4
        have hHW := heldV_of hE
        have c0' : wr.cell? ⟨b, 0, none⟩ = some (.int .u64 (e.low : Int)) := c0
        clear c0
        by_cases hlt : m < e.wait
        · have hsuc := midV_succ e m hm1 hlt
          rw [HS.out.2.1] at hsuc
          have hw1 : (midV e m).wait = e.wait - (m - 1) := rfl
          have hol : (midV e m).out.length = e.out.length + m := by
            show (e.out ++ (flushL e.first e.wait (e.low / 4294967296 % 256)).take m).length = _
            rw [List.length_append, List.length_take, flushL_len]
            omega
          have hmany := HM.out.1
          unfold manyE at hmany
          obtain ⟨z, hz⟩ : ∃ z, z = (255 + ca) % 256 := ⟨_, rfl⟩
          rw [← hz] at hsuc
          obtain ⟨yz, hyz⟩ : ∃ yz, yz = 255 + ca := ⟨_, rfl⟩
          have iz : (255 : Int) + (ca : Int) = (yz : Int) := by omega
          have iz2 : (yz : Int) % 256 = (z : Int) := by omega
          obtain ⟨v3, W3, hr3, ho3, hk3, hn3⟩ := own_push hE.own z (by omega)
          have ob3 := hk3.obj hE.obj hE.ne
          have e4 : W3.cell? ⟨b, 4, none⟩ = some v1 := cell_of ob3 4
          have e3 : W3.cell? ⟨b, 3, none⟩ = some (.int .i64 ((midV e m).wait : Int)) := cell_of ob3 3
          have k3 := frozen_of ob3 3
          have k4 := frozen_of ob3 4
          have hne3 : v3.ownBlock ≠ some b := owns_ne ho3 ob3 (by decide)
          obtain ⟨wn, hwn⟩ : ∃ x, x = (midV e m).wait - 1 := ⟨_, rfl⟩
          have iwn : ((midV e m).wait : Int) - 1 = (wn : Int) := by omega
          have hwI : (1 : Int) < ((midV e m).wait : Int) := by omega
          have hwB : ((midV e m).wait : Int) ≤ 1000000 := by omega
          have hnn : Near w (.slice va vn vc) v3 := hN.trans (w1 := wr) hn3 hK.size
          have HF := (show Hid (IsV ((W3.setCell ⟨b, 4, none⟩ v3).setCell ⟨b, 3, none⟩ (.int .i64 (wn : Int))) b (midV e (m + 1)) op v3 ∧ Near w (.slice va vn vc) v3 ∧ Keep (EncS b (.slice va vn vc)) w ((W3.setCell ⟨b, 4, none⟩ v3).setCell ⟨b, 3, none⟩ (.int .i64 (wn : Int)))) from by
            have q2 : Keep (EncS b v1) wr W3 := hk3.mono (fun _ _ h => .inr h)
            have q3 := (q2.setCell (p := ⟨b, 4, none⟩) (fun _ => .inl rfl) v3).setCell (p := ⟨b, 3, none⟩) (fun _ => .inl rfl) (.int .i64 (wn : Int))
            refine ⟨⟨?_, ?_, ?_, ?_, ?_, ?_⟩, hnn, keep_near hK hN q3⟩
            · refine (set_obj (set_obj ob3 4 _) 3 _).trans ?_
              rw [hsuc, ← hwn]
              rfl
            · rw [hsuc]; exact own_set (own_set ho3 hne3 4 _) hne3 3 _
            · rw [hsuc]; exact hE.low
            · rw [hsuc]; exact hE.span
            · rw [hsuc]; exact hE.first
            · rw [hsuc]
              exact lt_app hE.out (lt256 (fun y hy => by
                have : y = z := by simpa using hy
                omega)))
          obtain ⟨ea, en, ec, rfl⟩ := hE.form
          obtain ⟨ta, tc, rfl⟩ := owns_form ho3
          have HW := hid hHW
          have HWN := hid (show (midV e m).wait = e.wait - (m - 1) ∧ m < e.wait from ⟨rfl, hlt⟩)
          clear hE hN hK hf hHW HR hsuc hw1 hol hmany hz hyz ob3 ho3 hk3 hn3 hne3 hwn hnn c1 c5 c2
          generalize (midV e m).wait = wt at *
          generalize ((midV e m).out ++ [z]).length = tn at *
          go_wp2_with (at_builtin; refine wpList_append_run _ rfl _ _ 22 rfl _ _ _ _ rfl rfl hr3 ?_)
          go_roundw
          case rel => exact ⟨m + 1, _, by omega, by omega, HF.out⟩
          case measure =>
            rw [heldV_of HF.out.1, HW.out]
            have h1 := HWN.out
            show (midV e (m + 1)).wait < wt
            have h2 : (midV e (m + 1)).wait = e.wait - (m + 1 - 1) := rfl
            omega
        · obtain rfl : m = e.wait := by omega
          have hw0 : (midV e e.wait).wait = 1 := by show e.wait - (e.wait - 1) = 1; omega
          rw [hw0, show (((1 : Nat) : Int)) = (1 : Int) from rfl] at c3
          have hlbI : (lb : Int) < 256 := by have := HS.out.2.2; omega
          have HF := (show Hid (IsV (((wr.setCell ⟨b, 2, none⟩ (.int .u8 (lb : Int))).setCell ⟨b, 3, none⟩ (.int .i64 1)).setCell ⟨b, 0, none⟩ (.int .u64 (lw : Int))) b (shiftE e) op v1 ∧ Near w (.slice va vn vc) v1 ∧ Keep (EncS b (.slice va vn vc)) w (((wr.setCell ⟨b, 2, none⟩ (.int .u8 (lb : Int))).setCell ⟨b, 3, none⟩ (.int .i64 1)).setCell ⟨b, 0, none⟩ (.int .u64 (lw : Int)))) from by
            have q3 := (((Keep.refl (EncS b v1) wr).setCell (p := ⟨b, 2, none⟩) (fun _ => .inl rfl) (.int .u8 (lb : Int))).setCell (p := ⟨b, 3, none⟩) (fun _ => .inl rfl) (.int .i64 1)).setCell (p := ⟨b, 0, none⟩) (fun _ => .inl rfl) (.int .u64 (lw : Int))
            have hne := hE.ne
            rw [HS.out.1]
            refine ⟨⟨?_, ?_, ?_, ?_, ?_, ?_⟩, hN, keep_near hK hN q3⟩
            · exact (set_obj (set_obj (set_obj hE.obj 2 _) 3 _) 0 _).trans rfl
            · exact own_set (own_set (own_set hE.own hne 2 _) hne 3 _) hne 0 _
            · show lw < _; omega
            · exact hE.span
            · exact HS.out.2.2
            · exact hE.out)
          clear hE hN hK hf hHW HR hw0 hlt hmw
          go_wp2_with fail
          go_end0
          exact ⟨rfl, v1, HF.out⟩

end Go.Proofs.Ytinhlkioeadfdaa
