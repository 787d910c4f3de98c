/-
  slices.SortStableFunc's small parts: swapRangeCmpFunc and rotateCmpFunc at a row of numbers.
-/
import Derived.Test.YtapcohpagipkpaaRefW
import Derived.Test.YtapcohpagipkpaaOrd
namespace Go.Proofs.Ytapcohpagipkpaa
open Go.RowKit Go.Shelf

/-- Block g is a row whose first n places hold f, each below N; every other block of w0 lies as it lay. -/
structure DS (w0 W : World) (g n N : Nat) (f : Nat → Nat) : Prop where
  row : ∃ cs, W.heap[g]? = some (.cells cs 3 (0, 0)) ∧ ∀ i, i < n → cs[i]? = some (.int .i64 ((f i : Nat) : Int))
  keep : Keep (fun k => k = g) w0 W
  lt : ∀ i, i < n → f i < N
theorem DS.cell {w0 W : World} {g n N : Nat} {f : Nat → Nat} (h : DS w0 W g n N f) (i : Nat) (hi : i < n) : W.cell? ⟨g, i, none⟩ = some (.int .i64 ((f i : Nat) : Int)) := by
  obtain ⟨cs, ho, hc⟩ := h.row
  rw [cell_of ho, hc i hi]
theorem DS.frozen {w0 W : World} {g n N : Nat} {f : Nat → Nat} (h : DS w0 W g n N f) (i : Nat) : W.frozen? ⟨g, i, none⟩ = false := by
  obtain ⟨cs, ho, hc⟩ := h.row
  exact frozen_of ho i
theorem DS.drewN {w0 W : World} {g n N : Nat} {f : Nat → Nat} (h : DS w0 W g n N f) (q : Nat) : DS w0 (W.drewN q) g n N f :=
  ⟨h.row, ⟨h.keep.os, h.keep.tape, h.keep.output, h.keep.size, h.keep.block⟩, h.lt⟩
theorem DS.drew {w0 W : World} {g n N : Nat} {f : Nat → Nat} (h : DS w0 W g n N f) : DS w0 W.drew g n N f :=
  ⟨h.row, h.keep.drew, h.lt⟩
theorem DS.swap {w0 W : World} {g n N : Nat} {f : Nat → Nat} (h : DS w0 W g n N f) (i j : Nat) (hi : i < n) (hj : j < n) :
    DS w0 ((W.setCell ⟨g, i, none⟩ (.int .i64 ((f j : Nat) : Int))).setCell ⟨g, j, none⟩ (.int .i64 ((f i : Nat) : Int))) g n N (swapF f i j) := by
  obtain ⟨cs, ho, hc⟩ := h.row
  refine ⟨⟨_, set_obj (set_obj ho i _) j _, fun k hk => ?_⟩, (h.keep.setCell (fun _ => rfl) _).setCell (fun _ => rfl) _, fun k hk => ?_⟩
  · have hs : k < cs.size := (Array.getElem?_eq_some_iff.1 (hc k hk)).1
    rw [Array.getElem?_setIfInBounds, Array.getElem?_setIfInBounds]
    unfold swapF
    by_cases e1 : k = i
    · by_cases e2 : k = j
      · rw [if_pos e2.symm, if_pos (by simpa [← e2] using hs), if_pos e1, ← e2, ← e1]
      · rw [if_neg (fun e => e2 e.symm), if_pos e1.symm, if_pos (by rw [← e1]; exact hs), if_pos e1]
    · by_cases e2 : k = j
      · rw [if_pos e2.symm, if_pos (by simpa [← e2] using hs), if_neg e1, if_pos e2]
      · rw [if_neg (fun e => e2 e.symm), if_neg (fun e => e1 e.symm), if_neg e1, if_neg e2]; exact hc k hk
  · unfold swapF
    split
    · exact h.lt j hj
    · split
      · exact h.lt i hi
      · exact h.lt k hk

set_option maxHeartbeats 1000000 in
theorem swapRange_any (g n cap N a b m fn B : Nat) (f : Nat → Nat) (w0 w : World) (h : DS w0 w g n N f) (hab : a + m ≤ b) (hb : b + m ≤ n) (hn : n ≤ 1024) :
    Calls Try.prog 77 #[.slice (some ⟨g, 0, none⟩) n cap, .int .i64 (a : Int), .int .i64 (b : Int), .int .i64 (m : Int), .func (.func fn) #[] #[.pointer (some ⟨B, 0, none⟩)]] w fun e w' => e = .returned (.tuple #[]) ∧ DS w0 w' g n N (swapR a b m f) := by
  go_enter Try.func77, Try.ntmps77
  go_wp2
  go_loopw [10] (fun vi wr => ∃ i : Nat, i ≤ m ∧ vi = .int .i64 (i : Int) ∧ DS w0 wr g n N (swapR a b i f)) (fun vi _ => m - (intOf vi).toNat)
  case atStart => exact ⟨0, Nat.zero_le _, rfl, by rw [swapR_zero]; exact h⟩
  case round =>
    obtain ⟨i, hi, rfl, hd⟩ := hrel
    by_cases hlt : i < m
    · have hs := swapR_succ a b i f (by omega)
      have hd2 := (hd.swap (a + i) (b + i) (by omega) (by omega)).drew
      rw [hs] at hd2
      have c1 := hd.cell (a + i) (by omega)
      have c2 := hd.cell (b + i) (by omega)
      have f1 := hd.frozen (a + i)
      have f2 := hd.frozen (b + i)
      generalize swapR a b i f (a + i) = x1 at c1 hd2
      generalize swapR a b i f (b + i) = x2 at c2 hd2
      have HD := (show Hid _ from hd2)
      have hne : a + i ≠ b + i := by omega
      clear hs hd2 hd h
      go_wp2_with fail
      go_big_region
      all_goals go_wp2
      go_roundw
      case rel => exact ⟨i + 1, by omega, by go_num, HD.out⟩
      case measure => simp [intOf]; omega
    · obtain rfl : i = m := by omega
      go_wp2
      go_end0
      exact ⟨rfl, hd⟩

theorem swapRange_i (g n cap N a b m fn B : Nat) (ai bi mi : Int) (ea : ai = (a : Int)) (eb : bi = (b : Int)) (em : mi = (m : Int)) (f : Nat → Nat) (w0 w : World) (h : DS w0 w g n N f) (hab : a + m ≤ b) (hb : b + m ≤ n) (hn : n ≤ 1024) :
    Calls Try.prog 77 #[.slice (some ⟨g, 0, none⟩) n cap, .int .i64 ai, .int .i64 bi, .int .i64 mi, .func (.func fn) #[] #[.pointer (some ⟨B, 0, none⟩)]] w fun e w' => e = .returned (.tuple #[]) ∧ DS w0 w' g n N (swapR a b m f) := by
  subst ea; subst eb; subst em
  exact swapRange_any g n cap N a b m fn B f w0 w h hab hb hn

set_option maxHeartbeats 1000000 in
/-- rotateCmpFunc: the places from a up to m, and those from m up to b, the one behind the other. -/
theorem rotate_any (g n cap N a m b fn B : Nat) (f : Nat → Nat) (w0 w : World) (h : DS w0 w g n N f) (ham : a < m) (hmb : m < b) (hb : b ≤ n) (hn : n ≤ 1024) :
    Calls Try.prog 76 #[.slice (some ⟨g, 0, none⟩) n cap, .int .i64 (a : Int), .int .i64 (m : Int), .int .i64 (b : Int), .func (.func fn) #[] #[.pointer (some ⟨B, 0, none⟩)]] w fun e w' => e = .returned (.tuple #[]) ∧ DS w0 w' g n N (rot a m b f) ∧ PermOn a b f (rot a m b f) := by
  go_enter Try.func76, Try.ntmps76
  go_wp2
  go_loopw [10, 11] (fun vi vj wr => ∃ (i j : Nat) (fc : Nat → Nat), vi = .int .i64 (i : Int) ∧ vj = .int .i64 (j : Int) ∧ 1 ≤ i ∧ 1 ≤ j ∧ a + i ≤ m ∧ m + j ≤ b ∧ DS w0 wr g n N fc ∧ rot (m - i) m (m + j) fc = rot a m b f ∧ PermOn a b f fc) (fun vi vj _ => (intOf vi).toNat + (intOf vj).toNat)
  case atStart => exact ⟨m - a, b - m, f, by congr 1; omega, by congr 1; omega, by omega, by omega, by omega, by omega, h, by rw [show m - (m - a) = a from by omega, show m + (b - m) = b from by omega], PermOn.refl _ _ _⟩
  case round =>
    obtain ⟨i, j, fc, rfl, rfl, hi, hj, hia, hjb, hd, hr, hp⟩ := hrel
    have HR := (show Hid _ from hr)
    have HP := (show Hid _ from hp)
    clear hr hp h
    by_cases hij : i = j
    · subst hij
      have e2 : ((i : Int) != (i : Int)) = false := by simp
      go_wp2_with (go_at_call 77; refine (swapRange_i g n cap N (m - i) m i fn B _ _ _ (by omega) rfl rfl fc w0 _ hd (by omega) (by omega) hn).mono ?_; rintro e w1 ⟨rfl, hd1⟩)
      go_end0
      have hs := rot_same m i fc (by omega)
      rw [hs, HR.out] at hd1
      have hq := PermOn.trans HP.out (swapR_perm (m - i) m i a b fc (by omega) (by omega) (by omega))
      rw [hs, HR.out] at hq
      exact ⟨rfl, hd1, hq⟩
    · have e2 : ((i : Int) != (j : Int)) = true := by simpa using (show (i : Int) ≠ (j : Int) by omega)
      by_cases hlt : j < i
      · go_wp2_with (go_at_call 77; refine (swapRange_i g n cap N (m - i) m j fn B _ _ _ (by omega) rfl rfl fc w0 _ hd (by omega) (by omega) hn).mono ?_; rintro e w1 ⟨rfl, hd1⟩)
        go_roundw
        case rel =>
          refine ⟨i - j, j, _, by congr 1; omega, rfl, by omega, hj, by omega, hjb, hd1, ?_, PermOn.trans HP.out (swapR_perm (m - i) m j a b fc (by omega) (by omega) (by omega))⟩
          rw [← HR.out, ← rot_left m i j fc hlt (by omega), show m - (i - j) = m - i + j from by omega]
        case measure => simp [intOf]; omega
      · go_wp2_with (go_at_call 77; refine (swapRange_i g n cap N (m - i) (m + j - i) i fn B _ _ _ (by omega) (by omega) rfl fc w0 _ hd (by omega) (by omega) hn).mono ?_; rintro e w1 ⟨rfl, hd1⟩)
        go_roundw
        case rel =>
          refine ⟨i, j - i, _, rfl, by congr 1; omega, hi, by omega, hia, by omega, hd1, ?_, PermOn.trans HP.out (swapR_perm (m - i) (m + j - i) i a b fc (by omega) (by omega) (by omega))⟩
          rw [← HR.out, ← rot_right m i j fc (by omega) (by omega)]
        case measure => simp [intOf]; omega

end Go.Proofs.Ytapcohpagipkpaa
