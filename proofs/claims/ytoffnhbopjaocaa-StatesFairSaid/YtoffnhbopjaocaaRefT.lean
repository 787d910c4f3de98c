/-
  The document's parts, width and Right.
-/
import Derived.Test.YtoffnhbopjaocaaCnt
namespace Go.Proofs.Ytoffnhbopjaocaa
open Go.RowKit Go.Shelf

set_option maxHeartbeats 400000 in
theorem parts_any (c : Int) (h1 : -32768 ≤ c) (h2 : c ≤ 32767) (w : World) : Calls Try.prog 34 #[.int .i16 c] w fun e w' => e = .returned (.int .i64 (shareN c)) ∧ w' = w := by
  unfold shareN
  by_cases h : c = -1
  · subst h
    go_enter Try.func34, Try.ntmps34
    go_wp2
    go_ret
    exact ⟨rfl, rfl⟩
  · rw [if_neg h]
    have hb : (c == -1) = false := by simpa using h
    go_enter Try.func34, Try.ntmps34
    go_wp2
    go_ret
    exact ⟨rfl, rfl⟩

set_option maxHeartbeats 1000000 in
theorem width_any (n : Nat) (hn : n < 4611686018427387904) (w : World) : Calls Try.prog 40 #[.int .i64 (n : Int)] w fun e w' => e = .returned (.int .i64 ((lenN n : Nat) : Int)) ∧ w' = w := by
  have hlen : lenN n ≤ 62 := lenN_le n 62 (by omega)
  go_enter Try.func40, Try.ntmps40
  go_wp2
  go_loop [0, 3] (fun x i => ∃ y k : Nat, x = .int .i64 (y : Int) ∧ i = .int .i64 (k : Int) ∧ k + lenN y = lenN n ∧ y ≤ n) (fun x _ => (intOf x).toNat)
  case atStart => exact ⟨n, 0, rfl, rfl, by omega, Nat.le_refl _⟩
  case round =>
    obtain ⟨y, k, rfl, rfl, hk, hy⟩ := hrel
    have HK := (show Hid (k + lenN y = lenN n) from hk)
    by_cases h0 : 0 < y
    · have hs := lenN_half y (by omega)
      have HS := (show Hid _ from hs)
      have hkb : (k : Int) < 62 := by omega
      have h0I : 0 < (y : Int) := by omega
      obtain ⟨z, hz⟩ : ∃ z, z = y / 2 := ⟨_, rfl⟩
      have hdiv : (y : Int) / 2 = (z : Int) := by omega
      have HZ := (show Hid (z = y / 2) from hz)
      clear hk hs hz
      go_wp2
      go_round
      case rel => exact ⟨z, k + 1, rfl, by go_num, by have h1 := HK.out; have h2 := HS.out; rw [← HZ.out] at h2; omega, by have := HZ.out; omega⟩
      case measure => have := HZ.out; simp [intOf]; omega
    · obtain rfl : y = 0 := by omega
      rw [show ((0 : Nat) : Int) = (0 : Int) from rfl]
      have HE := (show Hid (k = lenN n) from by have := HK.out; simp [lenN_zero] at this; exact this)
      clear hk
      go_wp2
      go_ret
      exact ⟨by rw [← HE.out]; rfl, rfl⟩
theorem width_i (x : Nat) (xi : Int) (hi : xi = (x : Int)) (hx : x < 65536) (w : World) : Calls Try.prog 40 #[.int .i64 xi] w fun e w' => e = .returned (.int .i64 ((lenN x : Nat) : Int)) ∧ w' = w := by
  subst hi; exact width_any x (by omega) w

set_option maxRecDepth 100000 in
set_option maxHeartbeats 2000000 in
theorem right_any (a : Option Addr) (cap gb off : Nat) (xs : List Int) (log : Int) (w : World) (h : RowI w .i16 a cap gb off xs) (hx : I16 xs) :
    Calls Try.prog 17 #[.slice a xs.length cap, .int .i64 log] w fun e w' => e = .returned (.bool (okT xs log)) ∧ w' = w := by
  by_cases hl : 5 ≤ log ∧ log ≤ 12
  · obtain ⟨hl5, hl12⟩ := hl
    have hl : 5 ≤ log ∧ log ≤ 12 := ⟨hl5, hl12⟩
    have hlb : ¬ log < 5 := by omega
    have hlc : ¬ 12 < log := by omega
    have HLL := (show Hid (5 ≤ log ∧ log ≤ 12) from hl)
    clear hl
    by_cases h0 : xs.length = 0
    · have hz : ((xs.length : Int) == 0) = true := by simp [h0]
      have hr : okT xs log = false := decide_eq_false (fun h => h.2.2.1 h0)
      rw [hr]
      clear h
      generalize xs.length = n at *
      go_enter Try.func17, Try.ntmps17
      go_wp2
      go_ret
      exact ⟨rfl, rfl⟩
    · have hz : ((xs.length : Int) == 0) = false := by rw [beq_eq_false_iff_ne]; omega
      by_cases h256 : xs.length ≤ 256
      · have hg : ¬ (256 : Int) < (xs.length : Int) := by omega
        obtain ⟨k, hk⟩ : ∃ k, xs.length = k + 1 := ⟨xs.length - 1, by omega⟩
        have hk1 : (xs.length : Int) - 1 = (k : Int) := by omega
        obtain rfl := h.here (i := k) (by omega)
        have hc := h.cells k (by omega)
        obtain ⟨y, hy⟩ : ∃ y, xs[k]?.getD 0 = y := ⟨_, rfl⟩
        rw [hy] at hc
        by_cases hy0 : y = 0
        · have hr : okT xs log = false := decide_eq_false (fun h => h.2.2.2.2.1 (by rw [hk, Nat.add_sub_cancel, hy]; exact hy0))
          rw [hr]
          subst hy0
          have HK := (show Hid _ from hk)
          have hki : (k : Int) < (xs.length : Int) := by omega
          clear h hk
          generalize xs.length = n at *
          go_enter Try.func17, Try.ntmps17
          go_wp2
          go_ret
          exact ⟨rfl, rfl⟩
        · have hyb : (y == 0) = false := by simpa using hy0
          obtain ⟨l, rfl, hl1, hl2, hp1, hp2, hpe⟩ := pow_log log HLL.out.1 HLL.out.2
          have HR := (show Hid (RowI w .i16 (some ⟨gb, off, none⟩) cap gb off xs) from h)
          have HY := (show Hid (xs[k]?.getD 0 = y ∧ xs.length = k + 1 ∧ y ≠ 0) from ⟨hy, hk, hy0⟩)
          have hki : (k : Int) < (xs.length : Int) := by omega
          have HX := (show Hid (I16 xs) from hx)
          have HN := (show Hid (∃ n, n = xs.length) from ⟨_, rfl⟩)
          obtain ⟨n, hn⟩ := HN.out
          rw [← hn] at h256 hz hg hk1 hki ⊢
          have HN := (show Hid (n = xs.length) from hn)
          clear h hk hy hn hy0 hx hpe
          go_enter Try.func17, Try.ntmps17
          go_wp2
          go_loop [5, 6] (fun s i => ∃ j : Nat, j ≤ n ∧ i = .int .i64 j ∧ s = .int .i64 (sumS xs j) ∧ Hid (∀ i : Nat, i < j → -1 ≤ xs[i]?.getD 0)) (fun _ i => n - (intOf i).toNat)
          case atStart => exact ⟨0, Nat.zero_le _, rfl, rfl, fun i hi => by omega⟩
          case round =>
            clear hc hk1 hki
            obtain ⟨j, hj, rfl, rfl, HA⟩ := hrel
            have hs := sumS_le xs HX.out j
            by_cases hlt : j < n
            · have hcj := HR.out.cells j (by have := HN.out; omega)
              have hb := HX.out j
              have HS := (show Hid (sumS xs (j + 1) = sumS xs j + shareN (xs[j]?.getD 0)) from rfl)
              have hAs : -1 ≤ xs[j]?.getD 0 → ∀ i : Nat, i < j + 1 → -1 ≤ xs[i]?.getD 0 := fun h i hi => by
                by_cases e : i = j
                · subst e; exact h
                · exact HA.out i (by omega)
              have HAS := (show Hid _ from hAs)
              have HOK := (show Hid (okT xs (l : Int) = true → -1 ≤ xs[j]?.getD 0) from fun h => (of_decide_eq_true h).2.2.2.2.2.1 j (by have := HN.out; omega))
              clear hAs
              generalize xs[j]?.getD 0 = x at *
              have hbs := shareN_le x hb.1 hb.2
              have HSH := (show Hid (∀ w : World, _) from fun w => parts_any x hb.1 hb.2 w)
              obtain ⟨b1, b2⟩ := hb
              obtain ⟨b3, b4⟩ := hbs
              obtain ⟨b5, b6⟩ := hs
              have b7 : (j : Int) ≤ 256 := by omega
              generalize shareN x = sx at *
              generalize sumS xs j = sj at *
              by_cases hx1 : x < -1
              · go_wp2
                go_ret
                refine ⟨?_, rfl⟩
                have : okT xs (l : Int) = false := by
                  cases hb : okT xs (l : Int) with
                  | false => rfl
                  | true => have := HOK.out hb; omega
                rw [this]
                rfl
              · go_wp2_with (go_at_call 34; refine (HSH.out _).mono ?_; rintro e w' ⟨rfl, rfl⟩)
                go_round
                case rel => exact ⟨j + 1, by omega, by go_num, by rw [HS.out], HAS.out (by omega)⟩
                case measure => simp [intOf]; omega
            · obtain rfl : j = n := by omega
              have HB := (show Hid (okT xs (l : Int) = (sumS xs j == 2 ^ l)) from by
                have hn := HN.out
                obtain ⟨hy1, hy2, hy3⟩ := HY.out
                rw [Bool.eq_iff_iff]
                unfold okT
                rw [decide_eq_true_iff, beq_iff_eq]
                constructor
                · intro h; have := h.2.2.2.2.2.2; rw [← hn] at this; simpa using this
                · intro h
                  refine ⟨by omega, by omega, by omega, by omega, ?_, ?_, ?_⟩
                  · rw [hy2, Nat.add_sub_cancel, hy1]; exact hy3
                  · rw [← hn]; exact HA.out
                  · rw [← hn]; simpa using h)
              clear HR HX HY HN HA
              obtain ⟨b5, b6⟩ := hs
              generalize sumS xs j = sj at *
              go_wp2
              go_ret
              exact ⟨by rw [HB.out]; rfl, rfl⟩
      · have hg : (256 : Int) < (xs.length : Int) := by omega
        have hr : okT xs log = false := decide_eq_false (fun h => h256 h.2.2.2.1)
        rw [hr]
        clear h
        generalize xs.length = n at *
        go_enter Try.func17, Try.ntmps17
        go_wp2
        go_ret
        exact ⟨rfl, rfl⟩
  · have hr : okT xs log = false := decide_eq_false (fun h => hl ⟨h.1, h.2.1⟩)
    rw [hr]
    clear h
    by_cases hl5 : log < 5
    · go_enter Try.func17, Try.ntmps17
      go_wp2
      go_ret
      exact ⟨rfl, rfl⟩
    · have hl12 : 12 < log := by omega
      go_enter Try.func17, Try.ntmps17
      go_wp2
      go_ret
      exact ⟨rfl, rfl⟩

end Go.Proofs.Ytoffnhbopjaocaa
