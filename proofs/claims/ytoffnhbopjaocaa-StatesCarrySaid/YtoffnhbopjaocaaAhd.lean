/-
  Ahead: from which state one comes to a state.
-/
import Derived.Test.YtoffnhbopjaocaaTbl
namespace Go.Proofs.Ytoffnhbopjaocaa
open Go.RowKit Go.Shelf

/-- From state i of symbol s one comes to nx. -/
def Leads (sy bi ba : Nat → Nat) (n s nx i : Nat) : Prop := i < n ∧ sy i = s ∧ ba i ≤ nx ∧ nx < ba i + 2 ^ bi i
/-- Cells of a table. -/
def Fits (sy bi ba : Nat → Nat) (n : Nat) : Prop := ∀ i, i < n → sy i < 256 ∧ bi i ≤ 12 ∧ ba i < 4096

set_option maxRecDepth 100000 in
set_option maxHeartbeats 4000000 in
theorem ahead_any (g n cap s nx : Nat) (sy bi ba : Nat → Nat) (w : World) (hT : RowT w g n sy bi ba) (hn : n ≤ 4096) (hf : Fits sy bi ba n) (hnx : nx < 4096) (hs : s < 256) (hex : ∃ i, Leads sy bi ba n s nx i) :
    Calls Try.prog 18 #[.slice (some ⟨g, 0, none⟩) n cap, .int .u8 (s : Int), .int .i64 (nx : Int)] w fun e w' => ∃ i, e = .returned (.tuple #[.int .i64 ((i : Nat) : Int), .bool true]) ∧ Leads sy bi ba n s nx i ∧ Keep noBlock w w' := by
  have HH := (show Hid (RowT w g n sy bi ba ∧ Fits sy bi ba n ∧ ∃ i, Leads sy bi ba n s nx i) from ⟨hT, hf, hex⟩)
  have hnI : (n : Int) ≤ 4096 := by omega
  have hsI : (s : Int) < 256 := by omega
  have hnxI : (nx : Int) < 4096 := by omega
  clear hT hf hex
  go_enter Try.func18, Try.ntmps18
  go_wp2_with fail
  go_loopw [12] (fun v12 wr => ∃ i : Nat, v12 = .int .i64 (i : Int) ∧ i ≤ n ∧ Hid (Keep noBlock w wr ∧ ∀ j, j < i → ¬ Leads sy bi ba n s nx j)) (fun v12 _ => n - (intOf v12).toNat)
  case atStart => exact ⟨0, rfl, Nat.zero_le _, Keep.refl _ _, fun j hj => by omega⟩
  case round =>
    obtain ⟨i, rfl, hi, HC⟩ := hrel
    have hin : i < n := by
      obtain ⟨j, hj⟩ := HH.out.2.2
      rcases Nat.lt_or_ge i n with h | h
      · exact h
      · exact absurd hj (HC.out.2 j (by have := hj.1; omega))
    obtain ⟨hK, hno⟩ := HC.out
    obtain ⟨c1, c2, c3⟩ := (HH.out.1.keep hK (fun h => h)).cells i hin
    obtain ⟨f1, f2, f3⟩ := HH.out.2.1 i hin
    have hiI : (i : Int) < (n : Int) := by omega
    have HL := (show Hid (Leads sy bi ba n s nx i ↔ (sy i = s ∧ ba i ≤ nx ∧ nx < ba i + 2 ^ bi i)) from ⟨fun h => h.2, fun h => ⟨hin, h⟩⟩)
    have HNX := (show Hid (¬ Leads sy bi ba n s nx i → ∀ j, j < i + 1 → ¬ Leads sy bi ba n s nx j) from fun h j hj => by
      by_cases e : j = i
      · subst e; exact h
      · exact hno j (by omega))
    generalize sy i = x at *
    generalize bi i = y at *
    generalize ba i = z at *
    have f1I : (x : Int) < 256 := by omega
    have f2I : (y : Int) ≤ 12 := by omega
    have f3I : (z : Int) < 4096 := by omega
    have hk2 : Keep noBlock w (wr.alloc (.cells #[.int .u8 (x : Int), .int .u8 (y : Int), .int .u16 (z : Int)] 50)) := hK.alloc _
    have HK := (show Hid _ from hk2)
    clear hK hno HC hk2 f1 f2 f3 hi
    by_cases hxe : x = s
    · subst hxe
      have hxs : ((x : Int) != (x : Int)) = false := by simp
      by_cases hz : nx < z
      · have hzI : (nx : Int) < (z : Int) := by omega
        have hzB : decide (nx < z) = true := decide_eq_true hz
        go_wp2_with fail
        go_roundw
        case rel => exact ⟨i + 1, by go_num, by omega, HK.out, HNX.out (fun h => by have := (HL.out.1 h).2.1; omega)⟩
        case measure => simp [intOf]; omega
      · have hzI : ¬ (nx : Int) < (z : Int) := by omega
        have hzB : decide (nx < z) = false := decide_eq_false hz
        obtain ⟨d, hd⟩ : ∃ d, nx = z + d := ⟨nx - z, by omega⟩
        have hdI : (nx : Int) - (z : Int) = (d : Int) := by omega
        obtain ⟨q, hq⟩ : ∃ q, q = d / 2 ^ y := ⟨_, rfl⟩
        have hqI : (d : Int) / 2 ^ y = (q : Int) := by rw [hq]; simp
        have hpy : 0 < 2 ^ y := Nat.pow_pos (by omega)
        have hdb : (d : Int) < 4096 := by omega
        have hqd : q ≤ d := by rw [hq]; exact Nat.div_le_self _ _
        have hqb : (q : Int) < 4096 := by omega
        have HQ := (show Hid (q = 0 ↔ nx < z + 2 ^ y) from by
          by_cases h : d < 2 ^ y
          · have h1 : q = 0 := by rw [hq]; exact Nat.div_eq_of_lt h
            exact ⟨fun _ => by omega, fun _ => h1⟩
          · have h1 : 0 < q := by rw [hq]; exact Nat.div_pos (by omega) hpy
            exact ⟨fun e => by omega, fun e => by omega⟩)
        have HD := (show Hid (nx = z + d) from hd)
        clear hd hq hpy hqd
        by_cases hq0 : q = 0
        · subst hq0
          rw [show ((0 : Nat) : Int) = (0 : Int) from rfl] at hqI
          go_wp2_with fail
          go_ret2
          exact ⟨i, rfl, HL.out.2 ⟨trivial, by omega, HQ.out.1 trivial⟩, HK.out⟩
        · have hqB : ((q : Int) == 0) = false := by rw [beq_eq_false_iff_ne]; omega
          go_wp2_with fail
          go_roundw
          case rel => exact ⟨i + 1, by go_num, by omega, HK.out, HNX.out (fun h => hq0 (HQ.out.2 (HL.out.1 h).2.2))⟩
          case measure => simp [intOf]; omega
    · have hxs : ((x : Int) != (s : Int)) = true := by simpa using (show (x : Int) ≠ (s : Int) by omega)
      go_wp2_with fail
      go_roundw
      case rel => exact ⟨i + 1, by go_num, by omega, HK.out, HNX.out (fun h => hxe (HL.out.1 h).1)⟩
      case measure => simp [intOf]; omega

end Go.Proofs.Ytoffnhbopjaocaa
