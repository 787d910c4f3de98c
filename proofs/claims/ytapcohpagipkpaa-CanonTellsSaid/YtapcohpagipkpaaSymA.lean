/-
  slices.symMergeCmpFunc, where one of the two parts is a single place.
-/
import Derived.Test.YtapcohpagipkpaaInsert
namespace Go.Proofs.Ytapcohpagipkpaa
open Go.RowKit Go.Shelf

set_option maxRecDepth 1000000 in
set_option maxHeartbeats 4000000 in
theorem sym_left (g n cap N a b fn B : Nat) (K f : Nat → Nat) (w0 w : World) (h : DS w0 w g n N f) (C : CmpOk w0 g N K fn B) (hmb : a + 1 < b) (hb : b ≤ n) (hn : n ≤ 1024) (hR : SortedOn K f (a + 1) b) (hA : Ahead f a (a + 1) b) :
    Calls Try.prog 72 #[.slice (some ⟨g, 0, none⟩) n cap, .int .i64 (a : Int), .int .i64 ((a : Int) + 1), .int .i64 (b : Int), .func (.func fn) #[] #[.pointer (some ⟨B, 0, none⟩)]] w fun e w' => e = .returned (.tuple #[]) ∧ ∃ f', DS w0 w' g n N f' ∧ Merged K a b f f' := by
  have eg := C.enters
  have HC := (show Hid _ from C.call)
  have HA := (show Hid (SortedOn K f (a + 1) b ∧ Ahead f a (a + 1) b) from ⟨hR, hA⟩)
  have ha1 : (a : Int) + 1 - (a : Int) = 1 := by omega
  clear C hR hA
  go_enter Try.func72, Try.ntmps72
  go_wp2
  go_loopw [10, 11] (fun vi vj wr => ∃ (i j : Nat), vi = .int .i64 (i : Int) ∧ vj = .int .i64 (j : Int) ∧ a + 1 ≤ i ∧ i ≤ j ∧ j ≤ b ∧ DS w0 wr g n N f ∧ Hid ((∀ k, a + 1 ≤ k → k < i → Lx K (f k) (f a)) ∧ (∀ k, j ≤ k → k < b → Lx K (f a) (f k)))) (fun vi vj _ => (intOf vj).toNat - (intOf vi).toNat)
  case atStart => exact ⟨a + 1, b, by go_num, rfl, Nat.le_refl _, by omega, Nat.le_refl _, h, fun k h1 h2 => by omega, fun k h1 h2 => by omega⟩
  case round =>
    clear h
    obtain ⟨i, j, rfl, rfl, hi, hij, hj, hd, HB⟩ := hrel
    by_cases hlt : i < j
    · obtain ⟨c, hc0⟩ : ∃ c : Nat, c = (i + j) / 2 := ⟨_, rfl⟩
      have hc1 : i ≤ c ∧ c < j := by omega
      have hcI : ((i : Int) + (j : Int)) / 2 = (c : Int) := by omega
      have c1 := hd.cell c (by omega)
      have c2 := hd.cell a (by omega)
      have hc : ∀ q, _ := fun q => HC.out (wr.drewN q) (hd.drewN q).keep (f c) (f a) (hd.lt _ (by omega)) (hd.lt _ (by omega))
      have HK := (show Hid (cmpOf K (f c) (f a) < 0 ↔ K (f c) < K (f a)) from cmpOf_neg K (f c) (f a))
      have HD := (show Hid (∀ q, DS w0 (wr.drewN q) g n N f) from fun q => hd.drewN q)
      obtain ⟨cv, hcv⟩ : ∃ cv, cmpOf K (f c) (f a) = cv := ⟨_, rfl⟩
      rw [hcv] at HK hc
      obtain ⟨x1, hx1⟩ : ∃ x, f c = x := ⟨_, rfl⟩
      obtain ⟨x2, hx2⟩ : ∃ x, f a = x := ⟨_, rfl⟩
      rw [hx1] at c1 hc
      rw [hx2] at c2 hc
      clear hx1 hx2
      clear hd hcv hc0
      by_cases hlv : cv < 0
      · go_wp2_with fail
        go_quiet (first | (go_at_fn fn; refine Calls.quiet_of (hc _)))
        go_wp2
        go_roundw
        case rel =>
          refine ⟨c + 1, j, by go_num, rfl, by omega, by omega, hj, HD.out nq, fun k h1 h2 => ?_, HB.out.2⟩
          have hl : Lx K (f c) (f a) := .inl (HK.out.1 hlv)
          exact HA.out.1.le h1 (by omega) (by omega) hl
        case measure => simp [intOf]; omega
      · go_wp2_with fail
        go_quiet (first | (go_at_fn fn; refine Calls.quiet_of (hc _)))
        go_wp2
        go_roundw
        case rel =>
          refine ⟨i, c, rfl, rfl, hi, by omega, by omega, HD.out nq, HB.out.1, fun k h1 h2 => ?_⟩
          have hl : Lx K (f a) (f c) := Lx.of_not (HA.out.2 a c (Nat.le_refl _) (by omega) (by omega) (by omega)) (fun hk => by have := HK.out.2 hk; omega)
          exact HA.out.1.ge (by omega) h1 (by omega) hl
        case measure => simp [intOf]; omega
    · obtain rfl : i = j := by omega
      go_wp2
      go_loopw [13] (fun vk wr => ∃ (k : Nat), vk = .int .i64 (k : Int) ∧ a ≤ k ∧ k + 1 ≤ i ∧ DS w0 wr g n N (rot a (a + 1) (k + 1) f) ∧ PermOn a b f (rot a (a + 1) (k + 1) f)) (fun vk _ => i - (intOf vk).toNat)
      case atStart => exact ⟨a, rfl, Nat.le_refl _, by omega, by rw [rot_none_left]; exact hd, by rw [rot_none_left]; exact PermOn.refl _ _ _⟩
      case round =>
        clear hd
        obtain ⟨k, rfl, hk1, hk2, hd, hp⟩ := hrel
        have HP := (show Hid (PermOn a b f (rot a (a + 1) (k + 1) f)) from hp)
        clear hp
        by_cases hkl : k + 1 < i
        · have hs := rot_up a k f hk1
          have hd2 := (hd.swap k (k + 1) (by omega) (by omega)).drew
          have hp2 : PermOn a b f (rot a (a + 1) (k + 2) f) := PermOn.trans HP.out (by rw [← hs]; exact PermOn.swap _ _ _ (by omega) (by omega) (by omega) (by omega))
          rw [hs] at hd2
          have c1 := hd.cell k (by omega)
          have c2 := hd.cell (k + 1) (by omega)
          have f1 := hd.frozen k
          have f2 := hd.frozen (k + 1)
          generalize rot a (a + 1) (k + 1) f k = x1 at c1 hd2
          generalize rot a (a + 1) (k + 1) f (k + 1) = x2 at c2 hd2
          have HD := (show Hid (DS w0 _ g n N (rot a (a + 1) (k + 2) f) ∧ PermOn a b f (rot a (a + 1) (k + 2) f)) from ⟨hd2, hp2⟩)
          clear hs hd2 hp2 hd
          have kl : (k : Int) < (i : Int) - 1 := by omega
          go_wp2_with fail
          go_big_region
          all_goals go_wp2
          go_roundw
          case rel => exact ⟨k + 1, by go_num, by omega, by omega, HD.out.1, HD.out.2⟩
          case measure => simp [intOf]; omega
        · obtain rfl : i = k + 1 := by omega
          have kl : ¬ (k : Int) < ((k + 1 : Nat) : Int) - 1 := by omega
          go_wp2
          refine bodyPost_ret (results_none rfl _ _ _) rfl ?_
          exact ⟨rfl, _, hd, HP.out, one_left K f a (k + 1) b HA.out.1 (by omega) hj HB.out.1 HB.out.2⟩

set_option maxRecDepth 1000000 in
set_option maxHeartbeats 4000000 in
theorem sym_right (g n cap N a m fn B : Nat) (K f : Nat → Nat) (w0 w : World) (h : DS w0 w g n N f) (C : CmpOk w0 g N K fn B) (ham : a + 1 < m) (hb : m + 1 ≤ n) (hn : n ≤ 1024) (hL : SortedOn K f a m) (hA : Ahead f a m (m + 1)) :
    Calls Try.prog 72 #[.slice (some ⟨g, 0, none⟩) n cap, .int .i64 (a : Int), .int .i64 (m : Int), .int .i64 ((m : Int) + 1), .func (.func fn) #[] #[.pointer (some ⟨B, 0, none⟩)]] w fun e w' => e = .returned (.tuple #[]) ∧ ∃ f', DS w0 w' g n N f' ∧ Merged K a (m + 1) f f' := by
  have eg := C.enters
  have HC := (show Hid _ from C.call)
  have HA := (show Hid (SortedOn K f a m ∧ Ahead f a m (m + 1)) from ⟨hL, hA⟩)
  have ha1 : (m : Int) + 1 - (m : Int) = 1 := by omega
  have ha2 : ((m : Int) - (a : Int) == 1) = false := by simpa using (show (m : Int) - (a : Int) ≠ 1 by omega)
  clear C hL hA
  go_enter Try.func72, Try.ntmps72
  go_wp2
  go_loopw [14, 15] (fun vi vj wr => ∃ (i j : Nat), vi = .int .i64 (i : Int) ∧ vj = .int .i64 (j : Int) ∧ a ≤ i ∧ i ≤ j ∧ j ≤ m ∧ DS w0 wr g n N f ∧ Hid ((∀ k, a ≤ k → k < i → Lx K (f k) (f m)) ∧ (∀ k, j ≤ k → k < m → Lx K (f m) (f k)))) (fun vi vj _ => (intOf vj).toNat - (intOf vi).toNat)
  case atStart => exact ⟨a, m, rfl, rfl, Nat.le_refl _, by omega, Nat.le_refl _, h, fun k h1 h2 => by omega, fun k h1 h2 => by omega⟩
  case round =>
    clear h
    obtain ⟨i, j, rfl, rfl, hi, hij, hj, hd, HB⟩ := hrel
    by_cases hlt : i < j
    · obtain ⟨c, hc0⟩ : ∃ c : Nat, c = (i + j) / 2 := ⟨_, rfl⟩
      have hc1 : i ≤ c ∧ c < j := by omega
      have hcI : ((i : Int) + (j : Int)) / 2 = (c : Int) := by omega
      have c1 := hd.cell c (by omega)
      have c2 := hd.cell m (by omega)
      have hc : ∀ q, _ := fun q => HC.out (wr.drewN q) (hd.drewN q).keep (f m) (f c) (hd.lt _ (by omega)) (hd.lt _ (by omega))
      have HK := (show Hid (cmpOf K (f m) (f c) < 0 ↔ K (f m) < K (f c)) from cmpOf_neg K (f m) (f c))
      have HD := (show Hid (∀ q, DS w0 (wr.drewN q) g n N f) from fun q => hd.drewN q)
      obtain ⟨cv, hcv⟩ : ∃ cv, cmpOf K (f m) (f c) = cv := ⟨_, rfl⟩
      rw [hcv] at HK hc
      obtain ⟨x1, hx1⟩ : ∃ x, f c = x := ⟨_, rfl⟩
      obtain ⟨x2, hx2⟩ : ∃ x, f m = x := ⟨_, rfl⟩
      rw [hx1] at c1 hc
      rw [hx2] at c2 hc
      clear hx1 hx2
      clear hd hcv hc0
      by_cases hlv : cv < 0
      · have hlb : decide (cv < 0) = true := decide_eq_true hlv
        go_wp2_with fail
        go_quiet (first | (go_at_fn fn; refine Calls.quiet_of (hc _)))
        go_wp2
        go_roundw
        case rel =>
          refine ⟨i, c, rfl, rfl, hi, by omega, by omega, HD.out nq, HB.out.1, fun k h1 h2 => ?_⟩
          have hl : Lx K (f m) (f c) := .inl (HK.out.1 hlv)
          exact HA.out.1.ge (by omega) h1 (by omega) hl
        case measure => simp [intOf]; omega
      · have hlb : decide (cv < 0) = false := decide_eq_false hlv
        go_wp2_with fail
        go_quiet (first | (go_at_fn fn; refine Calls.quiet_of (hc _)))
        go_wp2
        go_roundw
        case rel =>
          refine ⟨c + 1, j, by go_num, rfl, by omega, by omega, hj, HD.out nq, fun k h1 h2 => ?_, HB.out.2⟩
          have hl : Lx K (f c) (f m) := Lx.of_not (HA.out.2 c m (by omega) (by omega) (by omega) (by omega)) (fun hk => by have := HK.out.2 hk; omega)
          exact HA.out.1.le h1 (by omega) (by omega) hl
        case measure => simp [intOf]; omega
    · obtain rfl : i = j := by omega
      go_wp2
      go_loopw [17] (fun vk wr => ∃ (k : Nat), vk = .int .i64 (k : Int) ∧ i ≤ k ∧ k ≤ m ∧ DS w0 wr g n N (rot k m (m + 1) f) ∧ PermOn a (m + 1) f (rot k m (m + 1) f)) (fun vk _ => (intOf vk).toNat)
      case atStart => exact ⟨m, rfl, hj, Nat.le_refl _, by rw [rot_none_right]; exact hd, by rw [rot_none_right]; exact PermOn.refl _ _ _⟩
      case round =>
        clear hd
        obtain ⟨k, rfl, hk1, hk2, hd, hp⟩ := hrel
        have HP := (show Hid (PermOn a (m + 1) f (rot k m (m + 1) f)) from hp)
        clear hp
        by_cases hkl : i < k
        · obtain ⟨kp, rfl⟩ : ∃ kp, k = kp + 1 := ⟨k - 1, by omega⟩
          have hs := rot_down kp m f (by omega)
          have hd2 := (hd.swap (kp + 1) kp (by omega) (by omega)).drew
          have hp2 : PermOn a (m + 1) f (rot kp m (m + 1) f) := PermOn.trans HP.out (by rw [← hs]; exact PermOn.swap _ _ _ (by omega) (by omega) (by omega) (by omega))
          rw [hs] at hd2
          have c1 := hd.cell (kp + 1) (by omega)
          have c2 := hd.cell kp (by omega)
          have f1 := hd.frozen (kp + 1)
          have f2 := hd.frozen kp
          generalize rot (kp + 1) m (m + 1) f (kp + 1) = x1 at c1 hd2
          generalize rot (kp + 1) m (m + 1) f kp = x2 at c2 hd2
          have HD := (show Hid (DS w0 _ g n N (rot kp m (m + 1) f) ∧ PermOn a (m + 1) f (rot kp m (m + 1) f)) from ⟨hd2, hp2⟩)
          clear hs hd2 hp2 hd
          have kl : (i : Int) < (kp : Int) + 1 := by omega
          have jz : (kp : Int) + 1 < (n : Int) := by omega
          have jz1 : (kp : Int) < (n : Int) := by omega
          go_wp2_with fail
          go_big_region
          all_goals go_wp2
          go_roundw
          case rel => exact ⟨kp, by go_num, by omega, by omega, HD.out.1, HD.out.2⟩
          case measure => simp [intOf]
        · obtain rfl : i = k := by omega
          go_wp2
          refine bodyPost_ret (results_none rfl _ _ _) rfl ?_
          exact ⟨rfl, _, hd, HP.out, one_right K f a i m HA.out.1 (by omega) hj HB.out.1 HB.out.2⟩

end Go.Proofs.Ytapcohpagipkpaa
