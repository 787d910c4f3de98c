/-
  Trees: a walk, a number, a number backwards, a byte that is like another one.
-/
import Derived.Test.YtinhlkioeadfdaaDoorSta
namespace Go.Proofs.YtinhlkioeadfdaaDoor
open Go.RowKit Go.Shelf
set_option linter.unusedVariables false

theorem walkM_bd (o : Nat) (k : Nat) : ∀ (m A : Nat) (x : Cx), A ≤ m → m < 2 * A → A * 2 ^ k ≤ (walkM o k m x).1 ∧ (walkM o k m x).1 < 2 * (A * 2 ^ k) := by
  induction k with
  | zero => intro m A x h1 h2; simp [walkM, ret]; omega
  | succ k ih =>
    intro m A x h1 h2
    have := ih (2 * m + bN (bitX x (o + m))) (2 * A) (stepX x (o + m)) (by omega) (by have := bN_le (bitX x (o + m)); omega)
    rw [Nat.pow_succ, show A * (2 ^ k * 2) = 2 * A * 2 ^ k from by rw [Nat.mul_comm (2 ^ k) 2, ← Nat.mul_assoc, Nat.mul_comm A 2]]
    exact this

set_option maxHeartbeats 1000000 in
theorem walk_any (sb db gb o len cap k m A E : Nat) (s : Se) (x : Cx) (w : World) (h : Pr w sb db gb s x) (hA : 1 ≤ A) (h1 : A ≤ m) (h2 : m < 2 * A) (hE : E = A * 2 ^ k) (h8 : 8 ≤ o) (ho : o + E ≤ 14143) (hl : E ≤ len) (h48 : len < 2 ^ 48) :
    Calls Tryd.prog 68 #[.slice (some ⟨sb, o, none⟩) len cap, .pointer (some ⟨db, 0, none⟩), .int .i64 (m : Int), .int .i64 (E : Int)] w fun e w' =>
      e = .returned (.int .i64 (((walkM o k m x).1 - E : Nat) : Int)) ∧ E ≤ (walkM o k m x).1 ∧ (walkM o k m x).1 < 2 * E ∧ Pr w' sb db gb s (walkM o k m x).2 ∧ Keep (SD sb db) w w' := by
  have hbd := walkM_bd o k m A x h1 h2
  rw [← hE] at hbd
  have HB := hid hbd
  have HE := hid hE
  have HP := (show Hid (Pr w sb db gb s x ∧ A ≤ m ∧ m < 2 * A) from ⟨h, h1, h2⟩)
  clear h hE h1 h2 hbd
  generalize hR : walkM o k m x = R at *
  have HR := hid hR
  clear hR
  have hEI : (E : Int) ≤ (len : Int) := by omega
  go_enter Tryd.func68, Tryd.ntmps68
  go_wp2_with fail
  go_loopw [2] (fun i wr => ∃ (q : Nat), i = .int .i64 q ∧ q < 2 * E ∧ Hid (∃ (r B : Nat) (y : Cx), 1 ≤ B ∧ B ≤ q ∧ q < 2 * B ∧ E = B * 2 ^ r ∧ walkM o r q y = R ∧ Pr wr sb db gb s y ∧ Keep (SD sb db) w wr)) (fun i _ => 2 * E - (intOf i).toNat)
  case atStart =>
    refine ⟨m, rfl, ?_, (show ∃ (r B : Nat) (y : Cx), _ from ⟨k, A, x, hA, HP.out.2.1, HP.out.2.2, HE.out, HR.out, HP.out.1, Keep.refl _ _⟩)⟩
    have := HP.out.2.2
    have := HE.out
    have : A * 1 ≤ A * 2 ^ k := Nat.mul_le_mul_left _ (Nat.one_le_two_pow)
    omega
  case round =>
    obtain ⟨q, rfl, hq, HQ⟩ := hrel
    by_cases hlt : q < E
    · obtain ⟨r, B, y, b1, b2, b3, b4, b5, b6, b7⟩ := HQ.out
      clear HQ
      obtain ⟨r, rfl⟩ : ∃ r', r = r' + 1 := ⟨r - 1, by
        rcases r with _ | r
        · simp at b4; omega
        · omega⟩
      have hltI : (q : Int) < (E : Int) := by omega
      have hqI : (q : Int) < (len : Int) := by omega
      have HC := hid (bit_any sb db gb (o + q) s y _ b6 (by omega) (by omega))
      have hb := bN_le (bitX y (o + q))
      have HN := (show Hid (E = (2 * B) * 2 ^ r ∧ walkM o r (2 * q + bN (bitX y (o + q))) (stepX y (o + q)) = R ∧ 1 ≤ B ∧ B ≤ q ∧ q < 2 * B ∧ Keep (SD sb db) w wr) from ⟨by rw [b4, Nat.pow_succ, Nat.mul_comm (2 ^ r) 2, ← Nat.mul_assoc, Nat.mul_comm B 2], b5, b1, b2, b3, b7⟩)
      clear b1 b2 b3 b4 b5 b6 b7
      generalize stepX y (o + q) = y' at *
      generalize bN (bitX y (o + q)) = bt at *
      go_wp2_with fail
      refine HC.out.mono ?_
      rintro e w1 ⟨rfl, g1, g2⟩
      have HG := (show Hid (Pr w1 sb db gb s y' ∧ Keep (SD sb db) w w1) from ⟨g1, HN.out.2.2.2.2.2.trans' g2⟩)
      clear g1 g2 HC
      go_wp2_with fail
      go_roundw
      case rel =>
        refine ⟨2 * q + bt, by go_num, ?_, (show ∃ (r B : Nat) (y : Cx), _ from ⟨r, 2 * B, y', by have := HN.out.2.2.1; omega, by have := HN.out.2.2.2.1; omega, by have := HN.out.2.2.2.2.1; omega, HN.out.1, HN.out.2.1, HG.out.1, HG.out.2⟩)⟩
        omega
      case measure => simp [intOf]; have := HN.out.2.2.1; have := HN.out.2.2.2.1; omega
    · have HF := (show Hid (R.1 = q ∧ Pr wr sb db gb s R.2 ∧ Keep (SD sb db) w wr) from by
        obtain ⟨r, B, y, b1, b2, b3, b4, b5, b6, b7⟩ := HQ.out
        have : r = 0 := by
          rcases r with _ | r
          · rfl
          · have : B * 2 ≤ B * 2 ^ (r + 1) := Nat.mul_le_mul_left _ (by rw [Nat.pow_succ]; have := Nat.one_le_two_pow (n := r); omega)
            omega
        subst this
        have e : R = (q, y) := b5.symm
        rw [e]
        exact ⟨rfl, b6, b7⟩)
      clear HQ
      have hltI : ¬ (q : Int) < (E : Int) := by omega
      have hs : (q : Int) - (E : Int) = ((q - E : Nat) : Int) := by omega
      go_wp2_with fail
      go_ret
      rw [HF.out.1]
      refine ⟨?_, by omega, hq, HF.out.2⟩
      go_num

end Go.Proofs.YtinhlkioeadfdaaDoor
