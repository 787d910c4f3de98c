/-
  Bytes that stand further back, too; two rows of bytes that are the same.
  The program's encoder: a shift.
  The program's encoder: brought into order, a bit.
  The program's encoder: bits that are as likely.
  A writer's state as it lies, with an encoder; a bit by one of its chances.
  Trees, written: a walk, a number, a number backwards, a byte that is like another one.
-/
import Derived.Test.YtnokemcogjoonaaGreatPutP2
import Derived.Test.YtnokemcogjoonaaGreatPutP3
import Derived.Test.YtnokemcogjoonaaGreatPutP4
import Derived.Test.YtnokemcogjoonaaGreatPutP5
import Derived.Test.YtnokemcogjoonaaGreatPutP6
namespace Go.Proofs.YtnokemcogjoonaaGreat.Pt
open Go.RowKit Go.Shelf
set_option linter.unusedVariables false

theorem fold_data (l : List Int) : ∀ acc : ByteArray, (l.foldl (fun r n => r.push (UInt8.ofNat n.toNat)) acc).data.toList = acc.data.toList ++ l.map (fun n => UInt8.ofNat n.toNat) := by
  induction l with
  | nil => intro acc; simp
  | cons a l ih =>
    intro acc
    rw [List.foldl_cons, ih]
    have : (acc.push (UInt8.ofNat a.toNat)).data.toList = acc.data.toList ++ [UInt8.ofNat a.toNat] := by cases acc; simp [ByteArray.push]
    rw [this]
    simp
theorem strOf_data (bs : List Nat) : (strOf bs).data.toList = bs.map (fun b => UInt8.ofNat b) := by
  unfold strOf
  rw [fold_data]
  simp [List.map_map, Function.comp_def]
theorem ofNat_inj {a b : Nat} (ha : a < 256) (hb : b < 256) (h : UInt8.ofNat a = UInt8.ofNat b) : a = b := by
  have := congrArg UInt8.toNat h
  simp only [UInt8.toNat_ofNat'] at this
  omega
theorem map_inj : ∀ {A B : List Nat}, (∀ b ∈ A, b < 256) → (∀ b ∈ B, b < 256) → A.map (fun b => UInt8.ofNat b) = B.map (fun b => UInt8.ofNat b) → A = B
  | [], [], _, _, _ => rfl
  | [], b :: B, _, _, h => by simp at h
  | a :: A, [], _, _, h => by simp at h
  | a :: A, b :: B, h1, h2, h => by
    simp only [List.map_cons, List.cons.injEq] at h
    rw [ofNat_inj (h1 a (by simp)) (h2 b (by simp)) h.1, map_inj (fun x hx => h1 x (by simp [hx])) (fun x hx => h2 x (by simp [hx])) h.2]
theorem strOf_inj {A B : List Nat} (h1 : ∀ j : Nat, A[j]?.getD 0 < 256) (h2 : ∀ j : Nat, B[j]?.getD 0 < 256) (h : strOf A = strOf B) : A = B := by
  refine map_inj (lt_mem h1) (lt_mem h2) ?_
  rw [← strOf_data, ← strOf_data, h]
theorem str_same {A B : List Nat} (h1 : ∀ j : Nat, A[j]?.getD 0 < 256) (h2 : ∀ j : Nat, B[j]?.getD 0 < 256) : ((strOf A).toList == (strOf B).toList) = decide (A = B) := by
  rw [ByteArray.toList_eq, ByteArray.toList_eq, strOf_data, strOf_data]
  by_cases h : A = B
  · rw [h]; simp
  · rw [decide_eq_false h]
    have : ¬ A.map (fun b => UInt8.ofNat b) = B.map (fun b => UInt8.ofNat b) := fun e => h (map_inj (lt_mem h1) (lt_mem h2) e)
    exact beq_eq_false_iff_ne.2 this
theorem equal_any (v1 v2 : Value) (A B : List Nat) (w : World) (s1 : SrcB w v1 A) (s2 : SrcB w v2 B) (h1 : ∀ j : Nat, A[j]?.getD 0 < 256) (h2 : ∀ j : Nat, B[j]?.getD 0 < 256) :
    Calls Tryz.prog 40 #[v1, v2] w fun e w' => e = .returned (.bool (decide (A = B))) ∧ w' = w := by
  have r1 := run_convB s1
  have r2 := run_convB s2
  have he := str_same h1 h2
  rw [← he]
  clear he s1 s2 h1 h2
  generalize strOf A = sa at *
  generalize strOf B = sb at *
  go_enter Tryz.func40, Tryz.ntmps40
  go_wp2_with fail
  go_ret
  exact ⟨rfl, rfl⟩
section
attribute [local go_sem] sliceSem_eq
set_option maxHeartbeats 2000000 in
theorem stands_any (ta : Option Addr) (tc tg tf : Nat) (T : List Nat) (i len : Nat) (back : Int) (w : World) (h : Bytes w ta tc tg tf T) (hT : T.length ≤ 1099511627776) (hi : i ≤ T.length) (h1 : 1 ≤ len) (hl : len ≤ 1099511627776) (hb : -9223372036854775808 ≤ back ∧ back < 9223372036854775808) :
    Calls Tryz.prog 25 #[.slice ta T.length tc, .int .i64 (i : Int), .int .i64 (len : Int), .int .i64 back] w fun e w' => e = .returned (.bool (standN T i len back)) ∧ ∃ n, w' = w.drewN n := by
  unfold standN
  by_cases c1 : i + len ≤ T.length
  · have c1I : decide ((T.length : Int) - (i : Int) < (len : Int)) = false := decide_eq_false (by omega)
    rw [decide_eq_true c1, Bool.true_and]
    by_cases c2 : 1 ≤ back
    · have c2I : decide (back < 1) = false := decide_eq_false (by omega)
      rw [decide_eq_true c2, Bool.true_and]
      by_cases c3 : back ≤ (i : Int)
      · have c3I : decide ((i : Int) < back) = false := decide_eq_false (by omega)
        rw [decide_eq_true c3, Bool.true_and]
        have hne : T ≠ [] := fun e => by rw [e] at c1; simp at c1; omega
        have hta : ta = some ⟨tg, tf, none⟩ := h.at_.resolve_right hne
        obtain ⟨k, hk⟩ : ∃ k : Nat, (k : Int) = back := ⟨back.toNat, by omega⟩
        subst hk
        rw [Int.toNat_natCast]
        have hcap := h.cap
        have m1 := Fd.run_mid tg tf T.length tc i (i + len) (by omega) (by omega)
        have m2 := Fd.run_mid tg tf T.length tc (i - k) (i - k + len) (by omega) (by omega)
        obtain ⟨a1, z1, r1, b1, y1⟩ := h.drop i hi
        obtain ⟨a2, z2, r2, b2, y2⟩ := h.drop (i - k) (by omega)
        have l1 : ((T.drop i).take len).length = len := by rw [List.length_take, List.length_drop]; omega
        have l2 : ((T.drop (i - k)).take len).length = len := by rw [List.length_take, List.length_drop]; omega
        have n1 : T.drop i ≠ [] := fun e => by have := congrArg List.length e; rw [List.length_drop] at this; simp at this; omega
        have n2 : T.drop (i - k) ≠ [] := fun e => by have := congrArg List.length e; rw [List.length_drop] at this; simp at this; omega
        have q1 := (b1.take len (by rw [List.length_drop]; omega)).2
        have q2 := (b2.take len (by rw [List.length_drop]; omega)).2
        have e1 := q1.at_.resolve_right (fun e => by rw [e] at l1; simp at l1; omega)
        have e2 := q2.at_.resolve_right (fun e => by rw [e] at l2; simp at l2; omega)
        have s1 := q1.src
        have s2 := q2.src
        rw [e1, l1, y1 n1] at s1
        rw [e2, l2, y2 n2] at s2
        rw [show i + len - i = len from by omega] at m1
        rw [show i - k + len - (i - k) = len from by omega] at m2
        have HE := hid (fun n : Nat => equal_any (.slice (some ⟨tg, tf + i, none⟩) len (tc - i)) (.slice (some ⟨tg, tf + (i - k), none⟩) len (tc - (i - k))) _ _ (w.drewN n) (s1.keep (keep_drewN w n)) (s2.keep (keep_drewN w n)) q1.lt q2.lt)
        obtain ⟨z, hz⟩ : ∃ z : Nat, z = i - k := ⟨_, rfl⟩
        rw [← hz] at m2 HE ⊢
        have hzI : (i : Int) - (k : Int) = (z : Int) := by omega
        obtain ⟨u, hu⟩ : ∃ u : Nat, u = i + len := ⟨_, rfl⟩
        obtain ⟨y, hy⟩ : ∃ y : Nat, y = z + len := ⟨_, rfl⟩
        rw [← hu] at m1
        rw [← hy] at m2
        have huI : (i : Int) + (len : Int) = (u : Int) := by omega
        have hyI : (z : Int) + (len : Int) = (y : Int) := by omega
        have hm1 : ∀ W, (sliceSem 22 (.slice (some ⟨tg, tf, none⟩) T.length tc) (some (.int .i64 (i : Int))) (some (.int .i64 (u : Int))) none).run Tryz.prog W = .ok (.slice (some ⟨tg, tf + i, none⟩) len (tc - i)) W := m1
        have hm2 : ∀ W, (sliceSem 22 (.slice (some ⟨tg, tf, none⟩) T.length tc) (some (.int .i64 (z : Int))) (some (.int .i64 (y : Int))) none).run Tryz.prog W = .ok (.slice (some ⟨tg, tf + z, none⟩) len (tc - z)) W := m2
        have w1 : IntKind.i64.wrap ((i : Int) + (len : Int)) = (u : Int) := by rw [huI]; exact wraps_i64 _ (by omega) (by omega)
        have w2 : IntKind.i64.wrap ((i : Int) - (k : Int)) = (z : Int) := by rw [hzI]; exact wraps_i64 _ (by omega) (by omega)
        have w3 : IntKind.i64.wrap (IntKind.i64.wrap ((i : Int) - (k : Int)) + (len : Int)) = (y : Int) := by rw [w2, hyI]; exact wraps_i64 _ (by omega) (by omega)
        have w4 : IntKind.i64.wrap ((z : Int) + (len : Int)) = (y : Int) := by rw [hyI]; exact wraps_i64 _ (by omega) (by omega)
        rw [hta]
        generalize decide ((T.drop i).take len = (T.drop z).take len) = r at *
        generalize T.length = tl at *
        clear m1 m2 a1 a2 b1 b2 q1 q2 e1 e2 s1 s2 l1 l2 r1 r2 y1 y2 n1 n2 h hta hne hz hu hy hcap
        go_enter Tryz.func25, Tryz.ntmps25
        go_wp2_with fail
        go_quiet (first | (go_at_call 40; refine Calls.quiet_of ((HE.out _).mono (fun e w' h => ⟨h.1, 0, h.2⟩))))
        go_wp2_with fail
        go_ret
        exact ⟨rfl, _, rfl⟩
      · have c3I : decide ((i : Int) < back) = true := decide_eq_true (by omega)
        rw [decide_eq_false c3, Bool.false_and]
        clear h
        go_enter Tryz.func25, Tryz.ntmps25
        go_wp2_with fail
        go_ret
        exact ⟨rfl, 0, rfl⟩
    · have c2I : decide (back < 1) = true := decide_eq_true (by omega)
      rw [decide_eq_false c2, Bool.false_and]
      clear h
      go_enter Tryz.func25, Tryz.ntmps25
      go_wp2_with fail
      go_ret
      exact ⟨rfl, 0, rfl⟩
  · have c1I : decide ((T.length : Int) - (i : Int) < (len : Int)) = true := decide_eq_true (by omega)
    rw [decide_eq_false c1, Bool.false_and]
    clear h
    go_enter Tryz.func25, Tryz.ntmps25
    go_wp2_with fail
    go_ret
    exact ⟨rfl, 0, rfl⟩
end

end Go.Proofs.YtnokemcogjoonaaGreat.Pt

namespace Go.Proofs.YtnokemcogjoonaaGreat
open Go.RowKit Go.Shelf
set_option linter.unusedVariables false

/-- Block b is an encoder; v is the slice of what went out. -/
structure IsE (w : World) (b : Nat) (e : Enc) (op : Bool) (v : Value) : Prop where
  obj : w.heap[b]? = some (.cells #[.int .u64 (e.low : Int), .int .u32 (e.span : Int), .int .u8 (e.first : Int), .int .i64 (e.wait : Int), v, .bool op] 88 (0, 0))
  own : w.ownsRow 0 5 1 v e.out.length (u8s e.out)
  low : e.low < 8589934592
  span : e.span < 4294967296
  first : e.first < 256
  out : ∀ j : Nat, e.out[j]?.getD 0 < 256
/-- What an encoder's call may turn. -/
def EncS (b : Nat) (v : Value) (k : Nat) : Prop := k = b ∨ v.ownBlock = some k
theorem keep_near {w w1 w2 : World} {b : Nat} {v v1 : Value} (k1 : Keep (EncS b v) w w1) (hn : Near w v v1) (k2 : Keep (EncS b v1) w1 w2) : Keep (EncS b v) w w2 :=
  k1.trans k2 (fun i hi h => by
    rcases h with e | e
    · exact .inl e
    · rcases hn with q | ⟨k, q, hk⟩
      · exact .inr (q ▸ e)
      · rw [q] at e
        have : k = i := by simpa using e
        omega)
theorem IsE.ne {w : World} {b : Nat} {e : Enc} {op : Bool} {v : Value} (h : IsE w b e op v) : v.ownBlock ≠ some b := owns_ne h.own h.obj (by decide)
theorem IsE.keep {w w' : World} {S : Nat → Prop} {b : Nat} {e : Enc} {op : Bool} {v : Value} (h : IsE w b e op v) (hk : Keep S w w') (h1 : ¬ S b) (h2 : ∀ g, v.ownBlock = some g → ¬ S g) : IsE w' b e op v :=
  ⟨hk.obj h.obj h1, owns_kept h.own hk h2, h.low, h.span, h.first, h.out⟩
theorem IsE.same {w : World} {b : Nat} {e : Enc} {op : Bool} {v : Value} (h : IsE w b e op v) {W : World} (e1 : W.heap = w.heap) (e2 : W.os = w.os) (e3 : W.tape = w.tape) (e4 : W.output = w.output) : IsE W b e op v :=
  h.keep (S := noBlock) ((Keep.refl _ w).same e1 e2 e3 e4) (fun h => h) (fun _ _ h => h)
/-- A store into the encoder's own block. -/
theorem own_set {w : World} {b n : Nat} {v : Value} {xs : List Value} (h : w.ownsRow 0 5 1 v n xs) (hne : v.ownBlock ≠ some b) (i : Nat) (u : Value) : (w.setCell ⟨b, i, none⟩ u).ownsRow 0 5 1 v n xs :=
  owns_kept h ((Keep.refl (fun k => k = b) w).setCell (p := ⟨b, i, none⟩) (fun _ => rfl) _) (fun g hg e => hne (by rw [hg, e]))
theorem IsE.cells {w : World} {b : Nat} {e : Enc} {op : Bool} {v : Value} (h : IsE w b e op v) : w.cell? ⟨b, 0, none⟩ = some (.int .u64 (e.low : Int)) ∧ w.cell? ⟨b, 1, none⟩ = some (.int .u32 (e.span : Int)) ∧ w.cell? ⟨b, 2, none⟩ = some (.int .u8 (e.first : Int)) ∧ w.cell? ⟨b, 3, none⟩ = some (.int .i64 (e.wait : Int)) ∧ w.cell? ⟨b, 4, none⟩ = some v ∧ w.cell? ⟨b, 5, none⟩ = some (.bool op) ∧ (∀ i, w.frozen? ⟨b, i, none⟩ = false) :=
  ⟨cell_of h.obj 0, cell_of h.obj 1, cell_of h.obj 2, cell_of h.obj 3, cell_of h.obj 4, cell_of h.obj 5, fun i => frozen_of h.obj i⟩
theorem IsE.form {w : World} {b : Nat} {e : Enc} {op : Bool} {v : Value} (h : IsE w b e op v) : ∃ va vn vc, v = .slice va vn vc := by
  obtain ⟨a, c, hv⟩ := owns_form h.own
  exact ⟨_, _, _, hv⟩
/-- How many wait, as it lies. -/
def heldW (W : World) (b : Nat) : Nat := match W.cell? ⟨b, 3, none⟩ with | some (.int _ n) => n.toNat | _ => 0
theorem heldW_of {W : World} {b : Nat} {e : Enc} {op : Bool} {v : Value} (h : IsE W b e op v) : heldW W b = e.wait := by
  unfold heldW
  rw [cell_of h.obj 3]
  rfl
/-- What went out behind m of those that waited. -/
def midE (e : Enc) (m : Nat) : Enc := ⟨e.low, e.span, if m = 0 then e.first else 255, e.wait - m, e.out ++ (flushL e.first e.wait (e.low / 4294967296 % 256)).take m⟩
theorem midE_zero (e : Enc) : midE e 0 = e := by simp [midE]
theorem flush_at (f n c m : Nat) (h : m < n) : (flushL f n c)[m]? = some (((if m = 0 then f else 255) + c) % 256) := by
  unfold flushL
  cases n with
  | zero => omega
  | succ n =>
    cases m with
    | zero => simp
    | succ m => simp [List.getElem?_replicate]; omega
theorem midE_succ (e : Enc) (m : Nat) (h : m < e.wait) : midE e (m + 1) = ⟨(midE e m).low, (midE e m).span, 255, (midE e m).wait - 1, (midE e m).out ++ [((midE e m).first + e.low / 4294967296 % 256) % 256]⟩ := by
  unfold midE
  have := flush_at e.first e.wait (e.low / 4294967296 % 256) m h
  rw [List.take_add_one, this]
  simp only [Option.toList_some, List.append_assoc, Nat.add_one_ne_zero, if_false]
  congr 1
theorem midE_all (e : Enc) (h : ¬ e.low / 16777216 = 255) : shiftE e = ⟨(midE e e.wait).low % 16777216 * 256, (midE e e.wait).span, e.low / 16777216 % 256, 1, (midE e e.wait).out⟩ := by
  unfold shiftE midE
  rw [if_neg h, List.take_of_length_le (by rw [flushL_len]; exact Nat.le_refl _)]
theorem and_24 (x : Nat) (h : x < 8589934592) : bits .and .u64 (x : Int) 16777215 = ((x % 16777216 : Nat) : Int) := by
  rw [show (16777215 : Int) = ((16777215 : Nat) : Int) from rfl, u64_and_nat _ _ (by omega) (by decide), show (16777215 : Nat) = 2 ^ 24 - 1 from rfl, Nat.and_two_pow_sub_one_eq_mod]

set_option maxHeartbeats 4000000 in
theorem shift_any (b : Nat) (e : Enc) (op : Bool) (v : Value) (w : World) (h : IsE w b e op v) (hm : manyE e ≤ 1000000) :
    Calls Tryz.prog 47 #[.pointer (some ⟨b, 0, none⟩)] w fun r w' => r = .returned (.tuple #[]) ∧ ∃ v', IsE w' b (shiftE e) op v' ∧ Near w v v' ∧ Keep (EncS b v) w w' := by
  obtain ⟨c0, c1, c2, c3, c4, c5, hf⟩ := h.cells
  have f0 := hf 0
  have f3 := hf 3
  have hlow := h.low
  obtain ⟨l24, hl24⟩ : ∃ x, x = e.low / 16777216 := ⟨_, rfl⟩
  obtain ⟨l32, hl32⟩ : ∃ x, x = e.low / 4294967296 := ⟨_, rfl⟩
  obtain ⟨lm, hlm⟩ : ∃ x, x = e.low % 16777216 := ⟨_, rfl⟩
  obtain ⟨lw, hlw⟩ : ∃ x, x = lm * 256 := ⟨_, rfl⟩
  have i24 : (e.low : Int) / 16777216 = (l24 : Int) := by omega
  have i32 : (e.low : Int) / 4294967296 = (l32 : Int) := by omega
  have iand : bits .and .u64 (e.low : Int) 16777215 = (lm : Int) := by rw [hlm]; exact and_24 _ hlow
  have ilw : (lm : Int) * 256 = (lw : Int) := by omega
  have hlwb : (lw : Int) < 4294967296 := by omega
  have hlmb : (lm : Int) < 16777216 := by omega
  have hw : (e.wait : Int) ≤ 1000000 := by unfold manyE at hm; omega
  by_cases h255 : e.low / 16777216 = 255
  · have hsh : shiftE e = ⟨lw, e.span, e.first, e.wait + 1, e.out⟩ := by unfold shiftE; rw [if_pos h255, hlw, hlm]
    have h24 : (l24 : Int) = 255 := by omega
    have h32 : (l32 : Int) = 0 := by omega
    rw [h24] at i24
    rw [h32] at i32
    have HF := (show Hid (∀ x : Int, x = (e.wait : Int) + 1 → IsE ((w.setCell ⟨b, 3, none⟩ (.int .i64 x)).setCell ⟨b, 0, none⟩ (.int .u64 (lw : Int))) b (shiftE e) op v ∧ Keep (EncS b v) w ((w.setCell ⟨b, 3, none⟩ (.int .i64 x)).setCell ⟨b, 0, none⟩ (.int .u64 (lw : Int)))) from by
      intro x hx
      have hk := ((Keep.refl (EncS b v) w).setCell (p := ⟨b, 3, none⟩) (fun _ => .inl rfl) (.int .i64 x)).setCell (p := ⟨b, 0, none⟩) (fun _ => .inl rfl) (.int .u64 (lw : Int))
      refine ⟨⟨?_, ?_, ?_, ?_, ?_, ?_⟩, hk⟩
      · refine (set_obj (set_obj h.obj 3 _) 0 _).trans ?_
        rw [hsh, hx]
        simp
      · rw [hsh]; exact own_set (own_set h.own h.ne 3 _) h.ne 0 _
      · rw [hsh]; show lw < _; omega
      · rw [hsh]; exact h.span
      · rw [hsh]; exact h.first
      · rw [hsh]; exact h.out)
    clear h hf hsh h24 h32 hl24 hl32 hlm hlw h255 hlow
    go_enter Tryz.func47, Tryz.ntmps47
    go_wp2_with fail
    refine wp_scope_straight ?_
    go_wp2_with fail
    refine wp_label ?_
    go_wp2_with fail
    refine wp_loop_rounds 1 ?_
    rw [rounds_succ]
    go_wp2_with fail
    simp only [Exit.noGoto]
    go_end0
    exact ⟨rfl, v, (HF.out _ rfl).1, Near.refl _ _, (HF.out _ rfl).2⟩
  · have h24 : ((l24 : Int) == 255) = false := by rw [beq_eq_false_iff_ne]; omega
    obtain ⟨ca, hca⟩ : ∃ x, x = l32 % 256 := ⟨_, rfl⟩
    have ica : (l32 : Int) % 256 = (ca : Int) := by omega
    have ica2 : (l32 : Int) = (ca : Int) := by omega
    obtain ⟨lb, hlb⟩ : ∃ x, x = l24 % 256 := ⟨_, rfl⟩
    have ilb : (l24 : Int) % 256 = (lb : Int) := by omega
    have hcaB : (ca : Int) ≤ 1 := by omega
    rw [ica2] at i32
    have HS := (show Hid (shiftE e = ⟨lw, e.span, lb, 1, (midE e e.wait).out⟩ ∧ e.low / 4294967296 % 256 = ca ∧ lb < 256) from ⟨by rw [midE_all e h255, hlb, hl24, hlw, hlm]; rfl, by rw [hca, hl32], by omega⟩)
    have HM := hid hm
    have H0 := (show Hid (IsE w b (midE e 0) op v ∧ Near w v v ∧ Keep (EncS b v) w w) from ⟨by rw [midE_zero]; exact h, Near.refl _ _, Keep.refl _ _⟩)
    clear h hf hl24 hl32 hlm hlw h255 hca hlb ica ica2 hm
    go_enter Tryz.func47, Tryz.ntmps47
    go_wp2_with fail
    refine wp_scope_straight ?_
    go_wp2_with fail
    refine wp_label ?_
    go_wp2_with fail
    go_loopw [] (fun wr => ∃ (m : Nat) (v' : Value), m ≤ e.wait ∧ Hid (IsE wr b (midE e m) op v' ∧ Near w v v' ∧ Keep (EncS b v) w wr)) (fun wr => heldW wr b)
    case atStart => exact ⟨0, v, Nat.zero_le _, H0.out⟩
    case round =>
      clear H0 c0 c1 c2 c3 c4 c5 f0 f3
      obtain ⟨m, v1, hmw, HR⟩ := hrel
      obtain ⟨hE, hN, hK⟩ := HR.out
      obtain ⟨c0, c1, c2, c3, c4, c5, hf⟩ := hE.cells
      have f0 := hf 0
      have f2 := hf 2
      have f3 := hf 3
      have f4 := hf 4
      have hHW := heldW_of hE
      have c0' : wr.cell? ⟨b, 0, none⟩ = some (.int .u64 (e.low : Int)) := c0
      clear c0
      by_cases hlt : m < e.wait
      · have hsuc := midE_succ e m hlt
        rw [HS.out.2.1] at hsuc
        have hw1 : (midE e m).wait = e.wait - m := rfl
        have hol : (midE e m).out.length = e.out.length + m := by
          show (e.out ++ (flushL e.first e.wait (e.low / 4294967296 % 256)).take m).length = _
          rw [List.length_append, List.length_take, flushL_len]
          omega
        have hmany := HM.out
        unfold manyE at hmany
        obtain ⟨x, hx⟩ : ∃ x, x = ((midE e m).first + ca) % 256 := ⟨_, rfl⟩
        rw [← hx] at hsuc
        obtain ⟨y, hy⟩ : ∃ y, y = (midE e m).first + ca := ⟨_, rfl⟩
        have ix : ((midE e m).first : Int) + (ca : Int) = (y : Int) := by omega
        have ix2 : IntKind.u8.wrap (y : Int) = (x : Int) := by rw [IntKind.wrap_u8']; omega
        have a4 : (wr.alloc (.cells #[.int .u8 (x : Int)] 5)).cell? ⟨b, 4, none⟩ = some v1 := cell_of (alloc_far hE.obj _) 4
        have a2 : (wr.alloc (.cells #[.int .u8 (x : Int)] 5)).cell? ⟨b, 2, none⟩ = some (.int .u8 ((midE e m).first : Int)) := cell_of (alloc_far hE.obj _) 2
        have hk0 : Keep noBlock wr wr.drew := (Keep.refl _ wr).drew
        have hEd := hE.keep hk0 (fun h => h) (fun _ _ h => h)
        obtain ⟨v2, W2, hr, ho2, hk2, hn2⟩ := own_push hEd.own x (by omega)
        have hr' : (Builtin.append_ #[22, 22] 22 #[v1, .slice (some ⟨wr.heap.size, 0, none⟩) 1 1]).run Tryz.prog (wr.alloc (.cells #[.int .u8 (x : Int)] 5)).drew = .ok v2 W2 := hr
        have ob2 := hk2.obj hEd.obj hEd.ne
        have d4 : W2.cell? ⟨b, 4, none⟩ = some v1 := cell_of ob2 4
        have d2 : W2.cell? ⟨b, 2, none⟩ = some (.int .u8 ((midE e m).first : Int)) := cell_of ob2 2
        have d3 : W2.cell? ⟨b, 3, none⟩ = some (.int .i64 ((midE e m).wait : Int)) := cell_of ob2 3
        have g2 := frozen_of ob2 2
        have g3 := frozen_of ob2 3
        have g4 := frozen_of ob2 4
        have hne2 : v2.ownBlock ≠ some b := owns_ne ho2 ob2 (by decide)
        obtain ⟨wn, hwn⟩ : ∃ x, x = (midE e m).wait - 1 := ⟨_, rfl⟩
        have iwn : ((midE e m).wait : Int) - 1 = (wn : Int) := by omega
        have hwI : (((midE e m).wait : Int) == 0) = false := by rw [beq_eq_false_iff_ne]; omega
        have hwB : ((midE e m).wait : Int) ≤ 1000000 := by omega
        have hnn : Near w v v2 := hN.trans (w1 := wr.drew) hn2 hK.size
        have HF := (show Hid (IsE (((W2.setCell ⟨b, 4, none⟩ v2).setCell ⟨b, 2, none⟩ (.int .u8 255)).setCell ⟨b, 3, none⟩ (.int .i64 (wn : Int))) b (midE e (m + 1)) op v2 ∧ Near w v v2 ∧ Keep (EncS b v) w (((W2.setCell ⟨b, 4, none⟩ v2).setCell ⟨b, 2, none⟩ (.int .u8 255)).setCell ⟨b, 3, none⟩ (.int .i64 (wn : Int)))) from by
          have k2 : Keep (EncS b v1) wr W2 := (hk0.mono (fun _ _ h => h.elim)).trans hk2 (fun _ _ h => .inr h)
          have k3 := ((k2.setCell (p := ⟨b, 4, none⟩) (fun _ => .inl rfl) v2).setCell (p := ⟨b, 2, none⟩) (fun _ => .inl rfl) (.int .u8 255)).setCell (p := ⟨b, 3, none⟩) (fun _ => .inl rfl) (.int .i64 (wn : Int))
          refine ⟨⟨?_, ?_, ?_, ?_, ?_, ?_⟩, hnn, keep_near hK hN k3⟩
          · refine (set_obj (set_obj (set_obj ob2 4 _) 2 _) 3 _).trans ?_
            rw [hsuc, ← hwn]
            rfl
          · rw [hsuc]; exact own_set (own_set (own_set ho2 hne2 4 _) hne2 2 _) hne2 3 _
          · rw [hsuc]; exact hE.low
          · rw [hsuc]; exact hE.span
          · rw [hsuc]; show 255 < 256; omega
          · rw [hsuc]
            exact lt_app hE.out (lt256 (fun y hy => by
              have : y = x := by simpa using hy
              omega)))
        obtain ⟨va, vn, vc, rfl⟩ := hE.form
        obtain ⟨ua, uc, rfl⟩ := owns_form ho2
        have HW := hid hHW
        have HWN := hid (show (midE e m).wait = e.wait - m ∧ m < e.wait from ⟨rfl, hlt⟩)
        have hfb := hE.first
        clear hE hN hK hf hHW HR hsuc hw1 hol hmany hx hy hk0 hEd hr ob2 ho2 hk2 hn2 hne2 hwn hnn c1 c5
        generalize (midE e m).first = fi at *
        generalize (midE e m).wait = wt at *
        generalize ((midE e m).out ++ [x]).length = on at *
        have hfbI : (fi : Int) < 256 := by omega
        go_wp2_with fail
        go_region_law (refine step_append_run _ (by rfl) _ _ 22 (by rfl) (.slice va vn vc) (.slice (some ⟨wr.heap.size, 0, none⟩) 1 1) (.slice ua on uc) W2 (by rfl) (by rfl) hr' ?_)
        all_goals
          go_wp2_with fail
          go_roundw
          case rel => exact ⟨m + 1, _, by omega, HF.out⟩
          case measure =>
            rw [heldW_of HF.out.1, HW.out]
            have h1 := HWN.out
            show (midE e (m + 1)).wait < wt
            have h2 : (midE e (m + 1)).wait = e.wait - (m + 1) := rfl
            omega
      · obtain rfl : m = e.wait := by omega
        have hw0 : (midE e e.wait).wait = 0 := by show e.wait - e.wait = 0; omega
        rw [hw0, show (((0 : Nat) : Int)) = (0 : Int) from rfl] at c3
        have hlbI : (lb : Int) < 256 := by have := HS.out.2.2; omega
        have HF := (show Hid (IsE (((wr.setCell ⟨b, 2, none⟩ (.int .u8 (lb : Int))).setCell ⟨b, 3, none⟩ (.int .i64 1)).setCell ⟨b, 0, none⟩ (.int .u64 (lw : Int))) b (shiftE e) op v1 ∧ Near w v v1 ∧ Keep (EncS b v) w (((wr.setCell ⟨b, 2, none⟩ (.int .u8 (lb : Int))).setCell ⟨b, 3, none⟩ (.int .i64 1)).setCell ⟨b, 0, none⟩ (.int .u64 (lw : Int)))) from by
          have k3 := (((Keep.refl (EncS b v1) wr).setCell (p := ⟨b, 2, none⟩) (fun _ => .inl rfl) (.int .u8 (lb : Int))).setCell (p := ⟨b, 3, none⟩) (fun _ => .inl rfl) (.int .i64 1)).setCell (p := ⟨b, 0, none⟩) (fun _ => .inl rfl) (.int .u64 (lw : Int))
          have hne := hE.ne
          rw [HS.out.1]
          refine ⟨⟨?_, ?_, ?_, ?_, ?_, ?_⟩, hN, keep_near hK hN k3⟩
          · exact (set_obj (set_obj (set_obj hE.obj 2 _) 3 _) 0 _).trans rfl
          · exact own_set (own_set (own_set hE.own hne 2 _) hne 3 _) hne 0 _
          · show lw < _; omega
          · exact hE.span
          · exact HS.out.2.2
          · exact hE.out)
        clear hE hN hK hf hHW HR hw0 hlt hmw
        go_wp2_with fail
        simp only [Exit.noGoto]
        go_end0
        exact ⟨rfl, v1, HF.out⟩

end Go.Proofs.YtnokemcogjoonaaGreat

namespace Go.Proofs.YtnokemcogjoonaaGreat
open Go.RowKit Go.Shelf
set_option linter.unusedVariables false

theorem IsE.set_span {w : World} {b : Nat} {e : Enc} {op : Bool} {v : Value} (h : IsE w b e op v) (s : Nat) (hs : s < 4294967296) : IsE (w.setCell ⟨b, 1, none⟩ (.int .u32 (s : Int))) b { e with span := s } op v :=
  ⟨set_obj h.obj 1 _, own_set h.own h.ne 1 _, h.low, hs, h.first, h.out⟩
theorem IsE.set_low {w : World} {b : Nat} {e : Enc} {op : Bool} {v : Value} (h : IsE w b e op v) (s : Nat) (hs : s < 8589934592) : IsE (w.setCell ⟨b, 0, none⟩ (.int .u64 (s : Int))) b { e with low := s } op v :=
  ⟨set_obj h.obj 0 _, own_set h.own h.ne 0 _, hs, h.span, h.first, h.out⟩
theorem IsE.set_open {w : World} {b : Nat} {e : Enc} {op : Bool} {v : Value} (h : IsE w b e op v) (s : Bool) : IsE (w.setCell ⟨b, 5, none⟩ (.bool s)) b e s v :=
  ⟨set_obj h.obj 5 _, own_set h.own h.ne 5 _, h.low, h.span, h.first, h.out⟩
def heldS (W : World) (b : Nat) : Nat := match W.cell? ⟨b, 1, none⟩ with | some (.int _ n) => n.toNat | _ => 0
theorem heldS_of {W : World} {b : Nat} {e : Enc} {op : Bool} {v : Value} (h : IsE W b e op v) : heldS W b = e.span := by
  unfold heldS
  rw [cell_of h.obj 1]
  rfl
theorem normE_small {e : Enc} (h : e.span < 16777216) : normE e = shiftE { e with span := e.span * 256 } := if_pos h
theorem normE_great {e : Enc} (h : ¬ e.span < 16777216) : normE e = e := if_neg h

/-- On the way to order. -/
def Ordg (w wr : World) (b : Nat) (e E : Enc) (op : Bool) (v v' : Value) : Prop := normE E = normE e ∧ IsE wr b E op v' ∧ (E.span < 16777216 → manyE E ≤ 1000000) ∧ 65536 ≤ E.span ∧ Near w v v' ∧ Keep (EncS b v) w wr
set_option maxHeartbeats 2000000 in
theorem orderE_any (b : Nat) (e : Enc) (op : Bool) (v : Value) (w : World) (h : IsE w b e op v) (hm : manyE e ≤ 1000000) (hs : 65536 ≤ e.span) :
    Calls Tryz.prog 84 #[.pointer (some ⟨b, 0, none⟩)] w fun r w' => r = .returned (.tuple #[]) ∧ ∃ v', IsE w' b (normE e) op v' ∧ Near w v v' ∧ Keep (EncS b v) w w' := by
  have H0 : Ordg w w b e e op v v := ⟨rfl, h, fun _ => hm, hs, Near.refl _ _, Keep.refl _ _⟩
  clear h hm hs
  go_enter Tryz.func84, Tryz.ntmps84
  go_wp2_with fail
  go_loopw [] (fun wr => ∃ (E : Enc) (v' : Value), Ordg w wr b e E op v v') (fun wr => 16777216 - heldS wr b)
  case atStart => exact ⟨e, v, H0⟩
  case round =>
    clear H0
    obtain ⟨E, v1, HR⟩ := hrel
    obtain ⟨hnE, hE, hmE, hsE, hN, hK⟩ := HR
    obtain ⟨-, c1, -, -, -, -, hf⟩ := hE.cells
    have f1 := hf 1
    have hsp := hE.span
    have hHS := heldS_of hE
    by_cases hl : E.span < 16777216
    · have hlI : (E.span : Int) < 16777216 := by omega
      obtain ⟨s, hs2⟩ : ∃ s, s = E.span * 256 := ⟨_, rfl⟩
      have hsI : (E.span : Int) * 256 % 4294967296 = (s : Int) := by omega
      have hsI2 : (E.span : Int) * 256 = (s : Int) := by omega
      have hsl : (s : Int) < 4294967296 := by omega
      have h2 := hE.set_span s (by omega)
      have hk := (Keep.refl (EncS b v1) wr).setCell (p := ⟨b, 1, none⟩) (fun _ => .inl rfl) (.int .u32 (s : Int))
      have hnorm := normE_small hl
      rw [← hs2] at hnorm
      have HT := hid (shift_any b _ op v1 _ h2 (hmE hl))
      have HX := (show Hid (normE E = normE e ∧ normE E = shiftE ({ E with span := s } : Enc) ∧ 16777216 ≤ (shiftE ({ E with span := s } : Enc)).span ∧ Near w v v1 ∧ Keep (EncS b v) w wr ∧ Keep (EncS b v1) wr (wr.setCell ⟨b, 1, none⟩ (.int .u32 (s : Int))) ∧ heldS wr b < 16777216) from ⟨hnE, hnorm, by rw [shiftE_span]; show _ ≤ s; omega, hN, hK, hk, by rw [hHS]; exact hl⟩)
      clear hnE hE hmE hsE hN hK hf hHS h2 hk hnorm hs2 hl hsp
      generalize shiftE ({ E with span := s } : Enc) = E2 at *
      generalize E.span = z at *
      go_wp2_with (go_at_call 47; refine HT.out.mono ?_; rintro r w1 ⟨rfl, v2, h3, hn3, hk3⟩)
      go_roundw
      case rel =>
        obtain ⟨x1, x2, x3, x4, x5, x6, x7⟩ := HX.out
        have hsz := x6.size
        exact ⟨E2, v2, ⟨by rw [normE_great (by omega), ← x2]; exact x1, h3, fun q => by omega, by omega, x4.trans hn3 (Nat.le_trans x5.size hsz), keep_near x5 x4 (x6.trans hk3 (fun _ _ h => h))⟩⟩
      case measure =>
        have x3 := HX.out.2.2.1
        have x7 := HX.out.2.2.2.2.2.2
        rw [heldS_of h3]
        omega
    · have hlI : ¬ (E.span : Int) < 16777216 := by omega
      have hnorm := normE_great hl
      have HF := (show Hid (∃ v', IsE wr b (normE e) op v' ∧ Near w v v' ∧ Keep (EncS b v) w wr) from ⟨v1, by rw [← hnE, hnorm]; exact hE, hN, hK⟩)
      clear hnE hE hmE hsE hN hK hf hHS hl hsp hnorm
      go_wp2_with fail
      go_end0
      exact ⟨rfl, HF.out⟩

theorem bitE_one {e : Enc} {c : Nat} : bitE e c true = normE { e with low := e.low + boundN e.span c, span := e.span - boundN e.span c } := rfl
theorem bitE_zero {e : Enc} {c : Nat} : bitE e c false = normE { e with span := boundN e.span c } := rfl
set_option maxHeartbeats 2000000 in
theorem bitE_any (b pb i p : Nat) (bit : Int) (one : Bool) (t : TypeId) (ht : t ≠ 88) (ht5 : t ≠ 5) (cs : Array Value) (e : Enc) (v : Value) (w : World) (h : IsE w b e true v) (hok : EncOk e) (hm : manyE e ≤ 1000000) (hp : w.heap[pb]? = some (.cells cs t (0, 0))) (hi : cs[i]? = some (.int .u16 (p : Int))) (hp16 : p < 65536) (hb : one = (bit != 0)) :
    Calls Tryz.prog 58 #[.pointer (some ⟨b, 0, none⟩), .pointer (some ⟨pb, i, none⟩), .int .i64 bit] w fun r w' => r = .returned (.tuple #[]) ∧ ∃ v', IsE w' b (bitE e (fairN p) one) true v' ∧ Near w v v' ∧
      w'.heap[pb]? = some (.cells (cs.setIfInBounds i (.int .u16 ((learnN (fairN p) one : Nat) : Int))) t (0, 0)) ∧ Keep (fun k => EncS b v k ∨ k = pb) w w' := by
  have hne : pb ≠ b := ne_of_type hp h.obj ht
  have hnv : v.ownBlock ≠ some pb := owns_ne h.own hp ht5
  obtain ⟨hf1, hf2⟩ := fairN_bd p
  have HC := hid (chanceOf_any p hp16)
  have hbd := boundN_lt hf1 hf2 hok.s1
  have hs1 := hok.s1
  have hlow := hok.low
  have hs := h.span
  have HB := hid (bound_any (fairN p) e.span hf2 hs)
  have HL := hid (learned_any (fairN p) bit one hf1 hf2 hb)
  obtain ⟨c0, c1, -, -, -, c5, hf⟩ := h.cells
  have f0 := hf 0
  have f1 := hf 1
  have cp : w.cell? ⟨pb, i, none⟩ = some (.int .u16 (p : Int)) := (cell_of hp i).trans hi
  have fp := frozen_of hp i
  generalize fairN p = c at *
  have hfar : ∀ (W : World), Keep (fun k => k = b) w W → (∀ E : Enc, manyE E ≤ 1000000 → 65536 ≤ E.span → IsE W b E true v →
      Calls Tryz.prog 84 #[.pointer (some ⟨b, 0, none⟩)] (W.setCell ⟨pb, i, none⟩ (.int .u16 ((learnN c one : Nat) : Int))) fun r w' => r = .returned (.tuple #[]) ∧ ∃ v', IsE w' b (normE E) true v' ∧ Near w v v' ∧
      w'.heap[pb]? = some (.cells (cs.setIfInBounds i (.int .u16 ((learnN c one : Nat) : Int))) t (0, 0)) ∧ Keep (fun k => EncS b v k ∨ k = pb) w w') := by
    intro W hk E hmE hsE hE
    have hp1 := hk.obj hp (fun e => hne e)
    have k2 := (Keep.refl (fun k => k = pb) W).setCell (p := ⟨pb, i, none⟩) (fun _ => rfl) (.int .u16 ((learnN c one : Nat) : Int))
    have hE2 := hE.keep k2 (fun e => hne e.symm) (fun g hg e => hnv (by rw [hg, e]))
    have hp2 := set_obj hp1 i (.int .u16 ((learnN c one : Nat) : Int))
    refine (orderE_any b E true v _ hE2 hmE hsE).mono ?_
    rintro r w1 ⟨rfl, v1, a1, a2, a3⟩
    have ksz := hk.size
    have ksz2 := k2.size
    refine ⟨rfl, v1, a1, (show Near w v v1 from ?_), a3.obj hp2 ?_, ?_⟩
    · rcases a2 with q | ⟨k, q, hq⟩
      · exact .inl q
      · exact .inr ⟨k, q, by omega⟩
    · rintro (e | e)
      · exact hne e
      · exact hnv e
    · exact ((hk.mono (fun _ _ e => .inl (.inl e))).trans k2 (fun _ _ e => .inr e)).trans a3 (fun _ _ e => .inl e)
  cases one with
  | true =>
    rw [bitE_one]
    have hbI : (bit == 0) = false := by simpa using hb.symm
    have h2 := (h.set_low (e.low + boundN e.span c) (by omega)).set_span (e.span - boundN e.span c) (by omega)
    have HF := hid (hfar _ (((Keep.refl (fun k => k = b) w).setCell (p := ⟨b, 0, none⟩) (fun _ => rfl) _).setCell (p := ⟨b, 1, none⟩) (fun _ => rfl) _) ({ e with low := e.low + boundN e.span c, span := e.span - boundN e.span c } : Enc) hm (show 65536 ≤ e.span - boundN e.span c by omega) h2)
    have e1 : (e.low : Int) + ((boundN e.span c : Nat) : Int) = ((e.low + boundN e.span c : Nat) : Int) := by omega
    have e2 : ((e.span : Int) - ((boundN e.span c : Nat) : Int)) % 4294967296 = ((e.span - boundN e.span c : Nat) : Int) := by omega
    have e3 : ((e.low + boundN e.span c : Nat) : Int) < 18446744073709551616 := by omega
    have e4 : ((boundN e.span c : Nat) : Int) < 4294967296 := by omega
    clear h h2 hfar hok hm hp hi hb hbd hs1 hlow hs hf
    generalize e.low + boundN e.span c = L' at *
    generalize e.span - boundN e.span c = S' at *
    generalize boundN e.span c = B at *
    go_enter Tryz.func58, Tryz.ntmps58
    go_wp2_with (first | (go_at_call 81; refine (HC.out _).mono ?_; rintro r w' ⟨rfl, rfl⟩) | (go_at_call 82; refine (HB.out _).mono ?_; rintro r w' ⟨rfl, rfl⟩) | (go_at_call 83; refine (HL.out _).mono ?_; rintro r w' ⟨rfl, rfl⟩) | (go_at_call 84; refine HF.out.mono ?_; rintro r w1 ⟨rfl, hr⟩))
    go_end0
    exact ⟨rfl, hr⟩
  | false =>
    rw [bitE_zero]
    obtain rfl : bit = 0 := by simpa using hb.symm
    have h2 := h.set_span (boundN e.span c) (by omega)
    have HF := hid (hfar _ ((Keep.refl (fun k => k = b) w).setCell (p := ⟨b, 1, none⟩) (fun _ => rfl) _) ({ e with span := boundN e.span c } : Enc) hm (show 65536 ≤ boundN e.span c by omega) h2)
    clear h h2 hfar hok hm hp hi hb hbd hs1 hlow hs hf
    generalize boundN e.span c = B at *
    go_enter Tryz.func58, Tryz.ntmps58
    go_wp2_with (first | (go_at_call 81; refine (HC.out _).mono ?_; rintro r w' ⟨rfl, rfl⟩) | (go_at_call 82; refine (HB.out _).mono ?_; rintro r w' ⟨rfl, rfl⟩) | (go_at_call 83; refine (HL.out _).mono ?_; rintro r w' ⟨rfl, rfl⟩) | (go_at_call 84; refine HF.out.mono ?_; rintro r w1 ⟨rfl, hr⟩))
    go_end0
    exact ⟨rfl, hr⟩

end Go.Proofs.YtnokemcogjoonaaGreat

namespace Go.Proofs.YtnokemcogjoonaaGreat
open Go.RowKit Go.Shelf
set_option linter.unusedVariables false

theorem halfE_eq (e : Enc) (one : Bool) : halfE e one = normE { e with low := e.low + (if one then e.span / 2 else 0), span := e.span / 2 } := rfl
theorem dirE_succ (x k : Nat) (e : Enc) : dirE x (k + 1) e = dirE x k (halfE e (x / 2 ^ k % 2 == 1)) := rfl
/-- On the way through the bits. -/
def Dirg (w wr : World) (b x : Nat) (R E : Enc) (k m : Nat) (M : Nat) (v v' : Value) : Prop := dirE x k E = R ∧ IsE wr b E true v' ∧ EncOk E ∧ manyE E + k ≤ M ∧ Near w v v' ∧ Keep (EncS b v) w wr

set_option maxHeartbeats 4000000 in
theorem directE_any (b x : Nat) (n : Int) (e : Enc) (v : Value) (w : World) (h : IsE w b e true v) (hok : EncOk e) (hx : x < 4294967296) (hm : manyE e + 32 ≤ 1000000) :
    Calls Tryz.prog 88 #[.pointer (some ⟨b, 0, none⟩), .int .u32 (x : Int), .int .i64 n] w fun r w' => r = .returned (.tuple #[]) ∧ ∃ v', IsE w' b (dirE x (bitsN n) e) true v' ∧ Near w v v' ∧ Keep (EncS b v) w w' := by
  have hml := bitsN_le n
  have HB := hid (directBits_any n)
  have H0 : Dirg w w b x (dirE x (bitsN n) e) e (bitsN n) (bitsN n) 1000000 v v := ⟨rfl, h, hok, by omega, Near.refl _ _, Keep.refl _ _⟩
  generalize dirE x (bitsN n) e = R at *
  generalize bitsN n = m at *
  have c5 := h.cells.2.2.2.2.2.1
  have hmI : (m : Int) ≤ 32 := by omega
  have hxI : (x : Int) < 4294967296 := by omega
  have hmx : Tryz.prog.follows .mixedOrders = true := by kernel_rfl
  clear h hok hm
  go_enter Tryz.func88, Tryz.ntmps88
  go_wp2_with (go_at_call 106; refine (HB.out _).mono ?_; rintro r w' ⟨rfl, hw⟩; obtain rfl := hw.symm)
  go_loopw [6] (fun i wr => ∃ (k : Nat) (E : Enc) (v' : Value), k ≤ m ∧ i = .int .i64 ((k : Int) - 1) ∧ Dirg w wr b x R E k m 1000000 v v') (fun i _ => (intOf i + 1).toNat)
  case atStart => exact ⟨m, e, v, Nat.le_refl _, rfl, H0⟩
  case round =>
    clear H0 c5
    obtain ⟨k, E, v1, hkm, rfl, hD⟩ := hrel
    obtain ⟨hdir, hE, hok, hmany, hN, hK⟩ := hD
    cases k with
    | zero =>
      have HF := (show Hid (∃ v', IsE wr b R true v' ∧ Near w v v' ∧ Keep (EncS b v) w wr) from ⟨v1, by rw [← hdir]; exact hE, hN, hK⟩)
      clear hdir hE hok hmany hN hK
      go_wp2_with fail
      go_end0
      exact ⟨rfl, HF.out⟩
    | succ j =>
      rw [show (((j + 1 : Nat)) : Int) - 1 = (j : Int) from by omega]
      obtain ⟨c0, c1, -, -, -, -, hf⟩ := hE.cells
      have f0 := hf 0
      have f1 := hf 1
      have hjI : (j : Int) < 32 := by omega
      obtain ⟨q, hq⟩ : ∃ q, q = x / 2 ^ j := ⟨_, rfl⟩
      obtain ⟨t, ht⟩ : ∃ t, t = q % 2 := ⟨_, rfl⟩
      have hqb : q ≤ x := by rw [hq]; exact Nat.div_le_self _ _
      have hqI : (x : Int) / 2 ^ j = (q : Int) := by rw [hq]; simp
      have hand : bits .and .u32 (q : Int) 1 = (t : Int) := by
        have := u32_and_nat q 1 (by omega) (by omega)
        rw [nat_mask1, ← ht] at this
        exact this
      rw [dirE_succ, ← hq, ← ht] at hdir
      clear hq
      obtain ⟨s, hs⟩ : ∃ s, s = E.span / 2 := ⟨_, rfl⟩
      have hsI : (E.span : Int) / 2 = (s : Int) := by omega
      have hs1 := hok.s1
      have hlow := hok.low
      have hsp := hE.span
      have hh := halfE_eq E (t == 1)
      rw [← hs] at hh
      have hhok := halfE_ok hok (t == 1)
      have hhm := halfE_many E (t == 1)
      have h2 := hE.set_span s (by omega)
      have k2 := (Keep.refl (EncS b v1) wr).setCell (p := ⟨b, 1, none⟩) (fun _ => .inl rfl) (.int .u32 (s : Int))
      have HX := (show Hid (dirE x j (halfE E (t == 1)) = R ∧ EncOk (halfE E (t == 1)) ∧ manyE (halfE E (t == 1)) + j ≤ 1000000 ∧ Near w v v1 ∧ Keep (EncS b v) w wr) from ⟨hdir, hhok, by omega, hN, hK⟩)
      have hend : ∀ (W : World) (v2 : Value) (W2 : World), Keep (EncS b v1) wr W → IsE W2 b (halfE E (t == 1)) true v2 → Near W v1 v2 → Keep (EncS b v1) W W2 → Hid (Dirg w W2 b x R (halfE E (t == 1)) j m 1000000 v v2) := by
        intro W v2 W2 q1 q2 q3 q4
        obtain ⟨x1, x2, x3, x4, x5⟩ := HX.out
        exact ⟨x1, q2, x2, x3, x4.trans q3 (Nat.le_trans x5.size q1.size), keep_near x5 x4 (q1.trans q4 (fun _ _ h => h))⟩
      have HE := hid hend
      clear hend
      have hm1 : manyE E ≤ 1000000 := by omega
      rcases (show t = 0 ∨ t = 1 by omega) with rfl | rfl
      · rw [show (((0 : Nat) : Int)) = (0 : Int) from rfl] at hand
        have hh2 : halfE E ((0 : Nat) == 1) = normE { E with span := s } := by rw [hh]; rfl
        have HO := hid (orderE_any b ({ E with span := s } : Enc) true v1 _ h2 hm1 (show 65536 ≤ s by omega))
        have HK := hid k2
        rw [← hh2] at HO
        clear hdir hE hok hmany hN hK hf ht hs hs1 hlow hsp hh hhok hhm h2 k2 hh2 hm1 HX
        generalize E.span = z at *
        go_wp2_with (go_at_call 84; refine HO.out.mono ?_; rintro r w1 ⟨rfl, v2, a1, a2, a3⟩)
        have HR := HE.out _ _ _ HK.out a1 a2 a3
        go_roundw
        case rel => exact ⟨j, _, v2, by omega, rfl, HR.out⟩
        case measure => simp [intOf]
      · rw [show (((1 : Nat) : Int)) = (1 : Int) from rfl] at hand
        have hh2 : halfE E ((1 : Nat) == 1) = normE { E with low := E.low + s, span := s } := by rw [hh]; rfl
        have h3 := h2.set_low (E.low + s) (by omega)
        have k3 := k2.setCell (p := ⟨b, 0, none⟩) (fun _ => .inl rfl) (.int .u64 ((E.low + s : Nat) : Int))
        have HO := hid (fun (W : World) (e1 : W.heap = _) (e2 : W.os = _) (e3 : W.tape = _) (e4 : W.output = _) => orderE_any b ({ E with low := E.low + s, span := s } : Enc) true v1 W (h3.same e1 e2 e3 e4) hm1 (show 65536 ≤ s by omega))
        have HK := hid k3
        rw [← hh2] at HO
        have e1 : (E.low : Int) + (s : Int) = ((E.low + s : Nat) : Int) := by omega
        have e3 : ((E.low + s : Nat) : Int) < 18446744073709551616 := by omega
        have e4 : (s : Int) < 4294967296 := by omega
        clear hdir hE hok hmany hN hK hf ht hs hs1 hlow hsp hh hhok hhm h2 k2 hh2 hm1 HX h3 k3
        generalize E.low + s = L' at *
        generalize E.span = z at *
        go_wp2_with fail
        go_region
        go_wp2_with fail
        refine (HO.out ((wr.setCell ⟨b, 1, none⟩ (.int .u32 (s : Int))).setCell ⟨b, 0, none⟩ (.int .u64 (L' : Int))).drew rfl rfl rfl rfl).mono ?_
        rintro r w1 ⟨rfl, v2, a1, a2, a3⟩
        have HK2 := HK.out.same (W := ((wr.setCell ⟨b, 1, none⟩ (.int .u32 (s : Int))).setCell ⟨b, 0, none⟩ (.int .u64 (L' : Int))).drew) rfl rfl rfl rfl
        have HR := HE.out _ _ _ HK2 a1 a2 a3
        go_wp2_with fail
        go_roundw
        case rel => exact ⟨j, _, v2, by omega, rfl, HR.out⟩
        case measure => simp [intOf]

/-- Of one that is closed. -/
theorem directE_closed (b x : Nat) (n : Int) (e : Enc) (v : Value) (w : World) (h : IsE w b e false v) :
    Calls Tryz.prog 88 #[.pointer (some ⟨b, 0, none⟩), .int .u32 (x : Int), .int .i64 n] w fun r w' => r = .returned (.tuple #[]) ∧ w' = w := by
  have c5 := h.cells.2.2.2.2.2.1
  clear h
  go_enter Tryz.func88, Tryz.ntmps88
  go_wp2_with fail
  exact bodyPost_ret (results_none rfl _ _ _) rfl ⟨rfl, rfl⟩
/-- Of none. -/
theorem directE_nil (x n : Int) (w : World) : Calls Tryz.prog 88 #[.pointer none, .int .u32 x, .int .i64 n] w fun r w' => r = .returned (.tuple #[]) ∧ w' = w := by
  go_enter Tryz.func88, Tryz.ntmps88
  go_wp2_with fail
  exact bodyPost_ret (results_none rfl _ _ _) rfl ⟨rfl, rfl⟩
theorem bitE_nil (a : Option Addr) (n : Int) (w : World) : Calls Tryz.prog 58 #[.pointer none, .pointer a, .int .i64 n] w fun r w' => r = .returned (.tuple #[]) ∧ w' = w := by
  go_enter Tryz.func58, Tryz.ntmps58
  go_wp2_with fail
  exact bodyPost_ret (results_none rfl _ _ _) rfl ⟨rfl, rfl⟩
theorem bitE_none (b : Nat) (n : Int) (w : World) : Calls Tryz.prog 58 #[.pointer (some ⟨b, 0, none⟩), .pointer none, .int .i64 n] w fun r w' => r = .returned (.tuple #[]) ∧ w' = w := by
  go_enter Tryz.func58, Tryz.ntmps58
  go_wp2_with fail
  exact bodyPost_ret (results_none rfl _ _ _) rfl ⟨rfl, rfl⟩
theorem close_nil (w : World) : Calls Tryz.prog 30 #[.pointer none] w fun r w' => r = .returned (.slice none 0 0) ∧ w' = w := by
  go_enter Tryz.func30, Tryz.ntmps30
  go_wp2_with fail
  go_ret
  exact ⟨rfl, rfl⟩
/-- A new one. -/
theorem newE_any (w : World) : Calls Tryz.prog 17 #[] w fun r w' => r = .returned (.pointer (some ⟨w.heap.size, 0, none⟩)) ∧ IsE w' w.heap.size newE true (.slice none 0 0) ∧ Keep noBlock w w' := by
  have HF := (show Hid (IsE (w.alloc (.cells #[.int .u64 0, .int .u32 4294967295, .int .u8 0, .int .i64 1, .slice none 0 0, .bool true] 88)) w.heap.size newE true (.slice none 0 0) ∧ Keep noBlock w (w.alloc (.cells #[.int .u64 0, .int .u32 4294967295, .int .u8 0, .int .i64 1, .slice none 0 0, .bool true] 88))) from
    ⟨⟨alloc_new w _, World.ownsRow_nil _ _ _ _, by decide, by decide, by decide, fun j => by simp [newE]⟩, (Keep.refl _ w).alloc _⟩)
  go_enter Tryz.func17, Tryz.ntmps17
  go_wp2_with fail
  go_ret
  exact ⟨rfl, HF.out⟩

def shiftsE : Nat → Enc → Enc
  | 0, e => e
  | k + 1, e => shiftE (shiftsE k e)
theorem shiftsE_many (k : Nat) (e : Enc) : manyE (shiftsE k e) = manyE e + k := by
  induction k with
  | zero => rfl
  | succ k ih =>
    show manyE (shiftE (shiftsE k e)) = _
    rw [shiftE_many, ih]
    omega
theorem shiftsE_five (e : Enc) : shiftsE 5 e = closeE e := rfl

/-- Close of one that is open. -/
def Closg (w wr : World) (b k : Nat) (e : Enc) (v v' : Value) : Prop := IsE wr b (shiftsE k e) false v' ∧ Near w v v' ∧ Keep (EncS b v) w wr
set_option maxHeartbeats 2000000 in
theorem close_any (b : Nat) (e : Enc) (v : Value) (w : World) (h : IsE w b e true v) (hm : manyE e ≤ 999990) :
    Calls Tryz.prog 30 #[.pointer (some ⟨b, 0, none⟩)] w fun r w' => ∃ u v', r = .returned u ∧ w'.ownsRow w.heap.size 5 1 u (closeE e).out.length (u8s (closeE e).out) ∧ IsE w' b (closeE e) false v' ∧ Near w v v' ∧ Keep (EncS b v) w w' := by
  have c5 := h.cells.2.2.2.2.2.1
  have f5 := h.cells.2.2.2.2.2.2 5
  have H0 : Closg w (w.setCell ⟨b, 5, none⟩ (.bool false)) b 0 e v v := ⟨h.set_open false, Near.refl _ _, (Keep.refl (EncS b v) w).setCell (p := ⟨b, 5, none⟩) (fun _ => .inl rfl) _⟩
  clear h
  go_enter Tryz.func30, Tryz.ntmps30
  go_wp2_with fail
  go_loopw [12] (fun i wr => ∃ (k : Nat) (v' : Value), k ≤ 5 ∧ i = .int .i64 k ∧ Closg w wr b k e v v') (fun i _ => 5 - (intOf i).toNat)
  case atStart => exact ⟨0, v, by omega, rfl, H0⟩
  case round =>
    clear H0 c5 f5
    obtain ⟨k, v1, hk, rfl, hE, hN, hK⟩ := hrel
    by_cases hlt : k < 5
    · have hltI : (k : Int) < 5 := by omega
      have HT := hid (shift_any b _ false v1 _ hE (by rw [shiftsE_many]; omega))
      have HX := (show Hid (Near w v v1 ∧ Keep (EncS b v) w wr) from ⟨hN, hK⟩)
      clear hE hN hK
      go_wp2_with (go_at_call 47; refine HT.out.mono ?_; rintro r w1 ⟨rfl, v2, a1, a2, a3⟩)
      go_roundw
      case rel => exact ⟨k + 1, v2, by omega, by go_num, a1, HX.out.1.trans a2 HX.out.2.size, keep_near HX.out.2 HX.out.1 a3⟩
      case measure => simp [intOf]; omega
    · obtain rfl : k = 5 := by omega
      rw [show (((5 : Nat) : Int)) = (5 : Int) from rfl]
      rw [shiftsE_five] at hE
      have c4 := hE.cells.2.2.2.2.1
      have hcl : (closeE e).out.length ≤ 1000000 := by
        have := closeE_many e
        unfold manyE at this hm
        omega
      have HC := hid (clone_any v1 (closeE e).out (by omega) wr (Src.of_owns hE.own))
      have HX := (show Hid (IsE wr b (closeE e) false v1 ∧ Near w v v1 ∧ Keep (EncS b v) w wr) from ⟨hE, hN, hK⟩)
      obtain ⟨va, vn, vc, rfl⟩ := hE.form
      clear hE hN hK hcl
      go_wp2_with (go_at_call 48; refine HC.out.mono ?_; rintro r w1 ⟨u, rfl, ho, hk1, -⟩)
      go_ret
      obtain ⟨x1, x2, x3⟩ := HX.out
      refine ⟨u, _, rfl, ?_, x1.keep hk1 (fun h => h) (fun _ _ h => h), x2, x3.trans hk1 (fun _ _ h => h.elim)⟩
      refine ⟨ho.1, ?_⟩
      rcases ho.2 with q | ⟨g, cap, cur, q1, q2, q3⟩
      · exact .inl q
      · exact .inr ⟨g, cap, cur, q1, Nat.le_trans x3.size q2, q3⟩

end Go.Proofs.YtnokemcogjoonaaGreat

namespace Go.Proofs.YtnokemcogjoonaaGreat.Pt
open Go.RowKit Go.Shelf
set_option linter.unusedVariables false

/-- Block b is a writer's state. -/
structure IsS (w : World) (b : Nat) (s : Se) (c : Nat → Nat) : Prop where
  obj : ∃ cs, w.heap[b]? = some (.cells cs 70 (0, 0)) ∧ Cells cs s c
  ok : SeOk s
  lt : ∀ i, c i < 65536
theorem IsS.keep {w w' : World} {S : Nat → Prop} {b : Nat} {s : Se} {c : Nat → Nat} (h : IsS w b s c) (hk : Keep S w w') (h1 : ¬ S b) : IsS w' b s c := by
  obtain ⟨cs, ho, hc⟩ := h.obj
  exact ⟨⟨cs, hk.obj ho h1, hc⟩, h.ok, h.lt⟩
theorem IsS.block {w : World} {b : Nat} {s : Se} {c : Nat → Nat} (h : IsS w b s c) : b < w.heap.size := by
  obtain ⟨cs, ho, hc⟩ := h.obj
  exact obj_lt ho
theorem IsS.ne {w : World} {b k : Nat} {s : Se} {c : Nat → Nat} {cs : Array Value} {t : TypeId} (h : IsS w b s c) (ho : w.heap[k]? = some (.cells cs t (0, 0))) (ht : t ≠ 70) : b ≠ k := by
  obtain ⟨cs', ho', hc⟩ := h.obj
  exact ne_of_type ho' ho (fun e => ht e.symm)
/-- What lies in a state's first cells. -/
theorem IsS.first {w : World} {b : Nat} {s : Se} {c : Nat → Nat} (h : IsS w b s c) :
    w.cell? ⟨b, 0, none⟩ = some (.int .i64 (s.lc : Int)) ∧ w.cell? ⟨b, 1, none⟩ = some (.int .i64 (s.lp : Int)) ∧ w.cell? ⟨b, 2, none⟩ = some (.int .i64 (s.pb : Int)) ∧ w.cell? ⟨b, 3, none⟩ = some (.int .u8 (s.ph : Int)) ∧
    w.cell? ⟨b, 4, none⟩ = some (.int .u32 (s.r0 : Int)) ∧ w.cell? ⟨b, 5, none⟩ = some (.int .u32 (s.r1 : Int)) ∧ w.cell? ⟨b, 6, none⟩ = some (.int .u32 (s.r2 : Int)) ∧ w.cell? ⟨b, 7, none⟩ = some (.int .u32 (s.r3 : Int)) ∧
    ∀ i, w.frozen? ⟨b, i, none⟩ = false := by
  obtain ⟨cs, ho, hc⟩ := h.obj
  exact ⟨(cell_of ho 0).trans hc.e0, (cell_of ho 1).trans hc.e1, (cell_of ho 2).trans hc.e2, (cell_of ho 3).trans hc.e3, (cell_of ho 4).trans hc.e4, (cell_of ho 5).trans hc.e5, (cell_of ho 6).trans hc.e6, (cell_of ho 7).trans hc.e7, fun i => frozen_of ho i⟩

/-- A state and an encoder; v is what went out. -/
structure Pe (w : World) (sb eb : Nat) (s : Se) (x : Ex) (v : Value) : Prop where
  st : IsS w sb s x.c
  en : IsE w eb x.e true v
  good : Good x.e
theorem Pe.ne {w : World} {sb eb : Nat} {s : Se} {x : Ex} {v : Value} (h : Pe w sb eb s x v) : sb ≠ eb := h.st.ne h.en.obj (by decide)
theorem Pe.nv {w : World} {sb eb : Nat} {s : Se} {x : Ex} {v : Value} (h : Pe w sb eb s x v) : v.ownBlock ≠ some sb := by
  obtain ⟨cs, ho, hc⟩ := h.st.obj
  exact owns_ne h.en.own ho (by decide)
theorem Pe.ve {w : World} {sb eb : Nat} {s : Se} {x : Ex} {v : Value} (h : Pe w sb eb s x v) : v.ownBlock ≠ some eb := h.en.ne
theorem Pe.keep {w w' : World} {S : Nat → Prop} {sb eb : Nat} {s : Se} {x : Ex} {v : Value} (h : Pe w sb eb s x v) (hk : Keep S w w') (h1 : ¬ S sb) (h2 : ¬ S eb) (h3 : ∀ g, v.ownBlock = some g → ¬ S g) : Pe w' sb eb s x v :=
  ⟨h.st.keep hk h1, h.en.keep hk h2 h3, h.good⟩
theorem Pe.same {w : World} {sb eb : Nat} {s : Se} {x : Ex} {v : Value} (h : Pe w sb eb s x v) {W : World} (e1 : W.heap = w.heap) (e2 : W.os = w.os) (e3 : W.tape = w.tape) (e4 : W.output = w.output) : Pe W sb eb s x v :=
  h.keep (S := noBlock) ((Keep.refl _ w).same e1 e2 e3 e4) (fun h => h) (fun h => h) (fun _ _ h => h)
/-- What writing may turn. -/
def PS (sb eb : Nat) (v : Value) (k : Nat) : Prop := k = sb ∨ k = eb ∨ v.ownBlock = some k
/-- Behind acts. -/
structure Wrote (w w' : World) (sb eb : Nat) (s : Se) (x : Ex) (v v' : Value) : Prop where
  pe : Pe w' sb eb s x v'
  near : Near w v v'
  kp : Keep (PS sb eb v) w w'
theorem ps_near {w : World} {sb eb : Nat} {v v1 : Value} (hn : Near w v v1) : ∀ i, i < w.heap.size → PS sb eb v1 i → PS sb eb v i := by
  rintro i hi (e | e | e)
  · exact .inl e
  · exact .inr (.inl e)
  · rcases hn with q | ⟨k, q, hk⟩
    · exact .inr (.inr (q ▸ e))
    · rw [q] at e
      have : k = i := by simpa using e
      omega
theorem Wrote.refl {w : World} {sb eb : Nat} {s : Se} {x : Ex} {v : Value} (h : Pe w sb eb s x v) : Wrote w w sb eb s x v v := ⟨h, Near.refl _ _, Keep.refl _ _⟩
theorem Wrote.trans {w w1 w2 : World} {sb eb : Nat} {s s2 : Se} {x x2 : Ex} {v v1 v2 : Value} (h : Wrote w w1 sb eb s x v v1) (k : Wrote w1 w2 sb eb s2 x2 v1 v2) : Wrote w w2 sb eb s2 x2 v v2 :=
  ⟨k.pe, h.near.trans k.near h.kp.size, h.kp.trans k.kp (ps_near (sb := sb) (eb := eb) h.near)⟩
theorem Wrote.drew {w w1 : World} {sb eb : Nat} {s : Se} {x : Ex} {v v1 : Value} (h : Wrote w w1 sb eb s x v v1) : Wrote w w1.drew sb eb s x v v1 := ⟨h.pe.same rfl rfl rfl rfl, h.near, h.kp.drew⟩
/-- There is room for so much more. -/
def Room (x : Ex) (L : List Act) : Prop := manyE x.e + costA L ≤ 999900
theorem Room.left {x : Ex} {L M : List Act} (h : Room x (L ++ M)) : Room x L := by unfold Room at *; rw [costA_app] at h; omega
theorem Room.right {x : Ex} {L M : List Act} (h : Room x (L ++ M)) : Room (runA L x) M := by
  have := runA_many L x
  unfold Room at *; rw [costA_app] at h; omega

/-- A call that writes. -/
def Writes (f : Nat) (args : Array Value) (w : World) (sb eb : Nat) (s : Se) (x : Ex) (v : Value) (L : List Act) : Prop :=
  Calls Tryz.prog f args w fun r w' => r = .returned (.tuple #[]) ∧ ∃ v', Wrote w w' sb eb s (runA L x) v v'

set_option maxHeartbeats 1000000 in
theorem bit_any (sb eb o len cap m k : Nat) (s : Se) (x : Ex) (v : Value) (w : World) (h : Pe w sb eb s x v) (hm : manyE x.e ≤ 999990) (h8 : 8 ≤ o) (ho : o + m < 14143) (hl : m < len) (h48 : len < 2 ^ 48) :
    Writes 42 #[.slice (some ⟨sb, o, none⟩) len cap, .pointer (some ⟨eb, 0, none⟩), .int .i64 (m : Int), .int .i64 (k : Int)] w sb eb s x v [bitA (o + m) k] := by
  unfold Writes
  obtain ⟨cs, hob, hc⟩ := h.st.obj
  have HB := hid (bitE_any eb sb (o + m) (x.c (o + m)) (k : Int) (k != 0) 70 (by decide) (by decide) cs x.e v w h.en h.good.ok (by omega) hob (hc.ch (o + m) (by omega) ho) (h.st.lt _) (by cases k with | zero => rfl | succ n => simp; omega))
  have HP := (show Hid (Pe w sb eb s x v ∧ w.heap[sb]? = some (.cells cs 70 (0, 0)) ∧ Cells cs s x.c) from ⟨h, hob, hc⟩)
  have hlI : (m : Int) < (len : Int) := by omega
  clear h hob hc
  go_enter Tryz.func42, Tryz.ntmps42
  go_wp2_with fail
  refine HB.out.mono ?_
  rintro r w1 ⟨rfl, v1, a1, a2, a3, a4⟩
  have HF := (show Hid (Wrote w w1 sb eb s (runA [bitA (o + m) k] x) v v1) from by
    obtain ⟨p1, p2, p3⟩ := HP.out
    refine ⟨⟨⟨⟨_, a3, p3.put (o + m) _ (by omega)⟩, p1.st.ok, putC_lt p1.st.lt _ _ (learn_lt _ _)⟩, a1, actE_good (a := bitA (o + m) k) p1.good⟩, a2, a4.mono ?_⟩
    rintro i hi ((e | e) | e)
    · exact .inr (.inl e)
    · exact .inr (.inr e)
    · exact .inl e)
  clear a1 a2 a3 a4 HB HP
  go_wp2_with fail
  go_end0
  exact ⟨rfl, v1, HF.out⟩

end Go.Proofs.YtnokemcogjoonaaGreat.Pt

namespace Go.Proofs.YtnokemcogjoonaaGreat.Pt
open Go.RowKit Go.Shelf
set_option linter.unusedVariables false

theorem walkA_succ (o k m x : Nat) : walkA o (k + 1) m x = [bitA (o + m) (x / 2 ^ k % 2)] ++ walkA o k (2 * m + x / 2 ^ k % 2) x := rfl
theorem and_one (z : Nat) (hx : z < 4294967296) : bits .and .i64 (z : Int) 1 = ((z % 2 : Nat) : Int) := by
  exact (bits_mask .i64 63 (by decide) wraps_i64 1 (by decide) (z : Int) (by omega) (by omega)).trans (by omega)
/-- On the way through a walk: k bits more, of a world. -/
def Wlk (w wr : World) (sb eb : Nat) (s : Se) (v v' : Value) (R y : Ex) (L : List Act) : Prop := runA L y = R ∧ Room y L ∧ Wrote w wr sb eb s y v v'
set_option maxHeartbeats 2000000 in
theorem walk_any (sb eb o len cap k m A x : Nat) (s : Se) (y : Ex) (v : Value) (w : World) (h : Pe w sb eb s y v) (hr : Room y (walkA o k m x)) (hx : x < 4294967296) (hk : k ≤ 8) (h1 : A ≤ m) (h2 : m < 2 * A) (h8 : 8 ≤ o) (ho : o + A * 2 ^ k ≤ 14143) (hl : A * 2 ^ k ≤ len) (h48 : len < 2 ^ 48) :
    Writes 85 #[.slice (some ⟨sb, o, none⟩) len cap, .pointer (some ⟨eb, 0, none⟩), .int .i64 (m : Int), .int .i64 (x : Int), .int .i64 (k : Int)] w sb eb s y v (walkA o k m x) := by
  unfold Writes
  have H0 : Wlk w w sb eb s v v (runA (walkA o k m x) y) y (walkA o k m x) := ⟨rfl, hr, Wrote.refl h⟩
  have hlen : (len : Int) < 281474976710656 := by omega
  generalize runA (walkA o k m x) y = R at *
  obtain ⟨E, hE⟩ : ∃ E, E = A * 2 ^ k := ⟨_, rfl⟩
  have hA : A ≤ E := by rw [hE]; exact Nat.le_mul_of_pos_right _ (Nat.two_pow_pos k)
  rw [← hE] at ho hl
  have H0 := (show Hid (∃ (B : Nat) (z : Ex) (v' : Value), B ≤ m ∧ m < 2 * B ∧ E = B * 2 ^ k ∧ Wlk w w sb eb s v v' R z (walkA o k m x)) from ⟨A, y, v, h1, h2, hE, H0⟩)
  have hmE : m < 2 * E := by omega
  clear h hr hE hA h1 h2
  go_enter Tryz.func85, Tryz.ntmps85
  go_wp2_with fail
  go_loopw [10, 2] (fun i mm wr => ∃ (j q : Nat), i = .int .i64 ((j : Int) - 1) ∧ mm = .int .i64 (q : Int) ∧ j ≤ k ∧ q < 2 * E ∧ Hid (∃ (B : Nat) (z : Ex) (v' : Value), B ≤ q ∧ q < 2 * B ∧ E = B * 2 ^ j ∧ Wlk w wr sb eb s v v' R z (walkA o j q x))) (fun i _ _ => (intOf i + 1).toNat)
  case atStart => exact ⟨k, m, rfl, rfl, Nat.le_refl _, hmE, H0⟩
  case round =>
    clear H0
    obtain ⟨j, q, rfl, rfl, hj, hq, HQ⟩ := hrel
    cases j with
    | zero =>
      have HF := (show Hid (∃ v', Wrote w wr sb eb s R v v') from by
        obtain ⟨B, z, v', -, -, -, hz, -, hw⟩ := HQ.out
        have e : z = R := hz
        rw [← e]
        exact ⟨v', hw⟩)
      clear HQ
      go_wp2_with fail
      go_end0
      exact ⟨rfl, HF.out⟩
    | succ j =>
      rw [show (((j + 1 : Nat)) : Int) - 1 = (j : Int) from by omega]
      obtain ⟨B, z, v', b1, b2, b3, b4, b5, b6⟩ := HQ.out
      rw [walkA_succ] at b4 b5
      have hqE : q < E := by
        have := Nat.two_pow_pos j
        have : 2 * B ≤ E := by rw [b3, Nat.pow_succ, Nat.mul_comm (2 ^ j) 2, ← Nat.mul_assoc, Nat.mul_comm B 2]; exact Nat.le_mul_of_pos_right _ (by omega)
        omega
      obtain ⟨xq, hxq⟩ : ∃ xq, xq = x / 2 ^ j := ⟨_, rfl⟩
      have hxI : (x : Int) / 2 ^ j = (xq : Int) := by rw [hxq]; simp
      have hxl : xq ≤ x := by rw [hxq]; exact Nat.div_le_self _ _
      rw [← hxq] at b4 b5
      clear hxq
      obtain ⟨bt, hbt⟩ : ∃ bt, bt = xq % 2 := ⟨_, rfl⟩
      have hand := and_one xq (by omega)
      rw [← hbt] at hand b4 b5
      have hb1 : bt ≤ 1 := by omega
      have hjI : (j : Int) < 32 := by omega
      have HC := hid (bit_any sb eb o len cap q bt s z v' wr b6.pe (by have := b5; unfold Room at this; omega) h8 (by omega) (by omega) h48)
      have HN := (show Hid (2 * B ≤ 2 * q + bt ∧ 2 * q + bt < 2 * (2 * B) ∧ E = 2 * B * 2 ^ j ∧ runA (walkA o j (2 * q + bt) x) (runA [bitA (o + q) bt] z) = R ∧ Room (runA [bitA (o + q) bt] z) (walkA o j (2 * q + bt) x) ∧ Wrote w wr sb eb s z v v') from
        ⟨by omega, by omega, by rw [b3, Nat.pow_succ, Nat.mul_comm (2 ^ j) 2, ← Nat.mul_assoc, Nat.mul_comm B 2], by rw [← runA_app]; exact b4, b5.right, b6⟩)
      clear b1 b2 b3 b4 b5 b6 HQ hbt
      go_wp2_with fail
      refine HC.out.mono ?_
      rintro r w1 ⟨rfl, v1, hw1⟩
      have HG := (show Hid (∃ (B : Nat) (z : Ex) (v' : Value), B ≤ 2 * q + bt ∧ 2 * q + bt < 2 * B ∧ E = B * 2 ^ j ∧ Wlk w w1 sb eb s v v' R z (walkA o j (2 * q + bt) x)) from
        ⟨2 * B, _, v1, HN.out.1, HN.out.2.1, HN.out.2.2.1, HN.out.2.2.2.1, HN.out.2.2.2.2.1, HN.out.2.2.2.2.2.trans hw1⟩)
      clear hw1 HN HC
      go_wp2_with fail
      go_roundw
      case rel => exact ⟨j, 2 * q + bt, by go_num, by go_num, by omega, by omega, HG⟩
      case measure => simp [intOf]

end Go.Proofs.YtnokemcogjoonaaGreat.Pt
