/-
  A piece out of the midst of a slice of bytes; what is left as it is of a text; steps and what is left make it again.
-/
import Derived.Test.YtlpibfonpfhakaaDoorRgt
import Derived.Test.YtlpibfonpfhakaaDoorBak
namespace Go.Proofs.YtlpibfonpfhakaaDoor
open Go.RowKit Go.Shelf
set_option linter.unusedVariables false

theorem run_lowhigh (a : Option Addr) (len cap lo hi : Nat) (h1 : lo ≤ hi) (h2 : hi ≤ cap) (w : World) :
    (sliceSem 22 (.slice a len cap) (some (.int .i64 (lo : Int))) (some (.int .i64 (hi : Int))) none).run Tryd.prog w = .ok (.slice (if cap = lo then a else a.map (fun x => x.add lo)) (hi - lo) (cap - lo)) w := by
  obtain ⟨i0, hi0, hz0, hz1, hz2⟩ := info_parts info5
  simp [sliceSem, Instr.slice, run_underlying Tryd.underlying22, Instr.sliceBounds, Instr.sliceBound, asIntOf, h1, h2, sizeOf, typeInfo, hi0, hz1]
theorem Bytes.mid {w : World} {a : Option Addr} {cap gb off : Nat} {bs : List Nat} (h : Bytes w a cap gb off bs) (lo hi : Nat) (h1 : lo ≤ hi) (h2 : hi ≤ bs.length) :
    ∃ a' off', (∀ W, (sliceSem 22 (.slice a bs.length cap) (some (.int .i64 (lo : Int))) (some (.int .i64 (hi : Int))) none).run Tryd.prog W = .ok (.slice a' (hi - lo) (cap - lo)) W) ∧ Bytes w a' (cap - lo) gb off' ((bs.drop lo).take (hi - lo)) := by
  have hc := h.cap
  have hl := h.len
  have hB : Bytes w (if cap = lo then a else a.map (fun x => x.add lo)) (cap - lo) gb (if cap = lo then off else off + lo) (bs.drop lo) := by
    refine ⟨?_, ?_, ?_, lt_drop h.lt lo, by rw [List.length_drop]; omega, by rw [List.length_drop]; omega⟩
    · rcases h.at_ with e | e
      · left
        subst e
        split
        · rfl
        · simp [addO]
      · right; rw [e]; simp
    · intro e
      split at e
      · have := h.nil e; omega
      · rw [Option.map_eq_none_iff] at e
        have := h.nil e; omega
    · intro j hj
      rw [List.length_drop] at hj
      have := h.cells (lo + j) (by omega)
      rw [if_neg (by omega), List.getElem?_drop, Nat.add_assoc]
      exact this
  exact ⟨_, _, run_lowhigh a bs.length cap lo hi h1 (by omega), (hB.take (hi - lo) (by rw [List.length_drop]; omega)).2⟩

/-- The bytes that steps have as they are. -/
def litsL (bs : List Nat) : Nat → List Trip → List Nat
  | _, [] => []
  | p, (l, m, _) :: r => (bs.drop p).take l ++ litsL bs (p + l + m) r
theorem take_more (bs : List Nat) (p l : Nat) : bs.take p ++ (bs.drop p).take l = bs.take (p + l) := by
  rw [List.take_add]
theorem outL_same {bs : List Nat} {q m b : Nat} (hb : 1 ≤ b) (hq : b ≤ q) (hf : q + m ≤ bs.length) (h : ∀ i, i < m → byteN bs (q + i) = byteN bs (q - b + i)) : outL (bs.take q) b m = (bs.drop q).take m := by
  have hlq : (bs.take q).length = q := by rw [List.length_take]; omega
  have key : ∀ j, j < m → byteN bs (q + j) = byteN bs (q - b + j % b) := by
    intro j
    induction j using Nat.strongRecOn with
    | ind j ih =>
      intro hj
      rw [h j hj]
      by_cases e : j < b
      · rw [Nat.mod_eq_of_lt e]
      · have := ih (j - b) (by omega) (by omega)
        rw [show q - b + j = q + (j - b) from by omega, this, Nat.mod_eq_sub_mod (show b ≤ j by omega)]
  refine getD_ext (by rw [outL_length, List.length_take, List.length_drop]; omega) fun j hj => ?_
  rw [outL_length] at hj
  have hmod : j % b < b := Nat.mod_lt _ (by omega)
  have e1 : ((bs.drop q).take m)[j]?.getD 0 = byteN bs (q + j) := by rw [List.getElem?_take, if_pos hj, List.getElem?_drop]; rfl
  rw [outL_at _ _ _ j hj, hlq, e1, List.getElem?_take, if_pos (by omega)]
  exact (key j hj).symm
theorem again_list {bs : List Nat} {win lo hi : Nat} (hn : bs.length < 65536) (hlo : 2 ≤ lo) : ∀ {L : List Trip} {p : Nat}, RightL (cf0 bs win lo hi) p L → okB (litsL bs p L).length p (triI L) = true ∧ outB (bs.take p) (litsL bs p L) (triI L) = bs
  | [], p, h => by
    have h : p = bs.length := h
    subst h
    refine ⟨?_, ?_⟩
    · show decide ((bs.length : Int) ≤ 16777216) = true
      exact decide_eq_true (by omega)
    · show bs.take bs.length = bs
      exact List.take_length
  | (l, m, b) :: r, p, h => by
    have hll : (litsL bs p ((l, m, b) :: r)).length = ((bs.drop p).take l).length + (litsL bs (p + l + m) r).length := by rw [litsL, List.length_append]
    rcases h with ⟨q1, q2, q3, q4, q5⟩ | ⟨q1, q2⟩
    · have q5 : p + l = bs.length := q5
      subst q1 q2 q3
      have hl1 : ((bs.drop p).take l).length = l := by rw [List.length_take, List.length_drop]; omega
      have hL : litsL bs p [(l, 0, 0)] = (bs.drop p).take l := by simp [litsL]
      have hT : triI [(l, 0, 0)] = [((l : Int), 0, 0)] := rfl
      rw [hL, hT]
      refine ⟨?_, ?_⟩
      · rw [okB_go (by show 0 ≤ (l : Int) ∧ (0 : Int) ≤ 0 ∧ (0 : Int) ≤ 0 ∧ (l : Int) ≤ _ ∧ (0 : Int) ≤ 16777216 - ((p : Int) + l) ∧ _; exact ⟨by omega, by omega, by omega, by omega, by omega, fun h => absurd (show (0 : Int) < 0 from h) (by decide)⟩)]
        show decide ((p : Int) + l + 0 ≤ 16777216) = true
        exact decide_eq_true (by omega)
      · show (bs.take p ++ ((bs.drop p).take l).take (l : Int).toNat) ++ outL _ 0 0 = bs
        have e3 : ((bs.drop p).take l).take l = (bs.drop p).take l := List.take_of_length_le (Nat.le_of_eq hl1)
        rw [outL_zero, List.append_nil, Int.toNat_natCast, e3, take_more, q5]
        exact List.take_length
    · have f1 : p + l + m ≤ bs.length := q1.fin
      have f2 := q1.b1
      have f3 := q1.ba
      have f4 : lo ≤ m := q1.lo
      have hl1 : ((bs.drop p).take l).length = l := by rw [List.length_take, List.length_drop]; omega
      obtain ⟨i1, i2⟩ := again_list hn hlo q2
      have hT : triI ((l, m, b) :: r) = ((l : Int), (m : Int), (b : Int)) :: triI r := rfl
      rw [hT]
      refine ⟨?_, ?_⟩
      · rw [okB_go (by show 0 ≤ (l : Int) ∧ (0 : Int) ≤ m ∧ (0 : Int) ≤ b ∧ (l : Int) ≤ _ ∧ (m : Int) ≤ 16777216 - ((p : Int) + l) ∧ (0 < (m : Int) → (b : Int) ≠ 0 ∧ (b : Int) ≤ (p : Int) + l); exact ⟨by omega, by omega, by omega, by omega, by omega, fun h => ⟨by omega, by omega⟩⟩)]
        show okB (((litsL bs p ((l, m, b) :: r)).length : Int) - l) ((p : Int) + l + m) (triI r) = true
        rw [show (((litsL bs p ((l, m, b) :: r)).length : Int) - l) = ((litsL bs (p + l + m) r).length : Int) from by rw [hll]; omega, show ((p : Int) + l + m) = ((p + l + m : Nat) : Int) from by omega]
        exact i1
      · show outB ((bs.take p ++ (litsL bs p ((l, m, b) :: r)).take (l : Int).toNat) ++ outL (bs.take p ++ (litsL bs p ((l, m, b) :: r)).take (l : Int).toNat) (b : Int).toNat (m : Int).toNat) ((litsL bs p ((l, m, b) :: r)).drop (l : Int).toNat) (triI r) = bs
        have e1 : (litsL bs p ((l, m, b) :: r)).take l = (bs.drop p).take l := by
          show ((bs.drop p).take l ++ litsL bs (p + l + m) r).take l = _
          exact List.take_left' hl1
        have e2 : (litsL bs p ((l, m, b) :: r)).drop l = litsL bs (p + l + m) r := by
          show ((bs.drop p).take l ++ litsL bs (p + l + m) r).drop l = _
          exact List.drop_left' hl1
        rw [Int.toNat_natCast, Int.toNat_natCast, Int.toNat_natCast, e1, e2, take_more, outL_same f2 f3 f1 q1.same, take_more]
        exact i2
end Go.Proofs.YtlpibfonpfhakaaDoor
