/-
  StatesFair answers true: counts that are made make a table, with a part for each thing that is there.
-/
import Derived.Test.YtoffnhbopjaocaaCtu
import Derived.Test.YtoffnhbopjaocaaRefT
import Derived.Test.YtoffnhbopjaocaaWak
namespace Go.Proofs.Ytoffnhbopjaocaa
open Go.RowKit Go.Shelf

set_option maxHeartbeats 400000 in
theorem counts_far (a : Option Addr) (n cap : Nat) (log : Int) (w : World) (h : 256 < n ∨ ¬ (5 ≤ log ∧ log ≤ 12)) :
    Calls Try.prog 15 #[.slice a n cap, .int .i64 log] w fun e w' => e = .returned (.tuple #[.slice none 0 0, .int .i64 2]) ∧ w' = w := by
  by_cases hn : 256 < n
  · have hnI : (256 : Int) < (n : Int) := by omega
    go_enter Try.func15, Try.ntmps15
    go_wp2
    go_ret2
    exact ⟨rfl, rfl⟩
  · have hnI : ¬ (256 : Int) < (n : Int) := by omega
    have hd : decide (5 ≤ log ∧ log ≤ 12) = false := decide_eq_false (h.resolve_left hn)
    have HL := (show Hid (∀ w : World, Calls Try.prog 41 #[.int .i64 log] w fun e w' => e = .returned (.bool false) ∧ w' = w) from fun w => by have := isLog_any log w; rwa [hd] at this)
    go_enter Try.func15, Try.ntmps15
    go_wp2_with (go_at_call 41; refine (HL.out _).mono ?_; rintro e w' ⟨rfl, rfl⟩)
    go_ret2
    exact ⟨rfl, rfl⟩

set_option maxRecDepth 100000 in
set_option maxHeartbeats 1000000 in
theorem statesFair_bad (a : Option Addr) (cap gb off : Nat) (fs : List Int) (log : Int) (w : World) (hR : RowI w .u32 a cap gb off fs) (hu : U32 fs) (hb : ableF fs log = false)
    (hc : Calls Try.prog 15 #[.slice a fs.length cap, .int .i64 log] w fun e w' => e = .returned (.tuple #[.slice none 0 0, .int .i64 2]) ∧ w' = w) :
    Calls Try.prog 5 #[.slice a fs.length cap, .int .i64 log] w fun e w' => e = .returned (.bool true) ∧ Keep noBlock w w' := by
  have H1 := (show Hid (Calls Try.prog 15 _ w _) from hc)
  have h2 := able_any a cap gb off fs log w hR hu
  rw [hb] at h2
  have H2 := (show Hid (Calls Try.prog 16 _ w _) from h2)
  generalize fs.length = n at *
  clear hR hu hb h2 hc
  go_enter Try.func5, Try.ntmps5
  go_wp2_with fail
  refine H1.out.mono ?_
  rintro e w1 ⟨rfl, rfl⟩
  go_wp2_with fail
  refine H2.out.mono ?_
  rintro e w2 ⟨rfl, rfl⟩
  go_wp2_with fail
  refine (wakes_any _).mono ?_
  rintro e w3 ⟨rfl, hk⟩
  go_wp2_with fail
  go_ret
  exact ⟨rfl, hk⟩

set_option maxRecDepth 100000 in
set_option maxHeartbeats 4000000 in
theorem statesFair_good (a : Option Addr) (cap gb off : Nat) (fs : List Int) (l : Nat) (w : World) (hR : RowI w .u32 a cap gb off fs) (hu : U32 fs) (hb : ableF fs (l : Int) = true) :
    Calls Try.prog 5 #[.slice a fs.length cap, .int .i64 (l : Int)] w fun e w' => e = .returned (.bool true) ∧ Keep noBlock w w' := by
  obtain ⟨b1, b2, b3, b4, b5⟩ := of_decide_eq_true hb
  have H1 := (show Hid (Calls Try.prog 15 _ w _) from counts_in a cap gb off fs l w hR hu b1 (by omega) (by omega))
  have H2 := (show Hid (∀ W, Keep noBlock w W → Calls Try.prog 16 #[.slice a fs.length cap, .int .i64 (l : Int)] W fun e w' => e = .returned (.bool true) ∧ w' = W) from fun W hk => by
    have := able_any a cap gb off fs (l : Int) W (hR.keep hk (fun _ h => h)) hu
    rwa [hb] at this)
  have HH := (show Hid (RowI w .u32 a cap gb off fs ∧ U32 fs ∧ ableF fs (l : Int) = true) from ⟨hR, hu, hb⟩)
  obtain ⟨n, hn⟩ : ∃ n, n = fs.length := ⟨_, rfl⟩
  rw [← hn] at H1 H2 b1 ⊢
  have HN := (show Hid (n = fs.length) from hn)
  have hnI : (n : Int) ≤ 256 := by omega
  clear hR hu hb b2 b3 b4 b5 hn
  go_enter Try.func5, Try.ntmps5
  go_wp2_with fail
  refine H1.out.mono ?_
  rintro e w1 (⟨hf, -⟩ | ⟨-, cb, xs, rfl, hRow, hok, hx, hle, hiff, hK1⟩)
  · have := HH.out.2.2; rw [hf] at this; cases this
  obtain ⟨k, hk⟩ : ∃ k, k = xs.length := ⟨_, rfl⟩
  have h3 := right_any (some ⟨cb, 0, none⟩) xs.length cb 0 xs (l : Int) w1 hRow hx
  rw [hok] at h3
  rw [← hk] at h3 hle ⊢
  have H3 := (show Hid (Calls Try.prog 17 _ w1 _) from h3)
  have HR1 := (show Hid (RowI w1 .i16 (some ⟨cb, 0, none⟩) xs.length cb 0 xs ∧ RowI w1 .u32 a cap gb off fs ∧ Keep noBlock w w1 ∧ (∀ i, i < fs.length → (0 < fr fs i ↔ (i < xs.length ∧ xs[i]?.getD 0 ≠ 0))) ∧ k = xs.length) from ⟨hRow, HH.out.1.keep hK1 (fun _ h => h), hK1, hiff, hk⟩)
  have HK1 := (show Hid (Keep noBlock w w1) from hK1)
  have hkn : ¬ (n : Int) < (k : Int) := by have := HN.out; omega
  have hknB : decide (n < k) = false := decide_eq_false (by omega)
  clear h3 hRow hok hx hiff hk hK1 H1
  go_wp2_with fail
  refine (H2.out w1 HK1.out).mono ?_
  rintro e w2 ⟨rfl, rfl⟩
  go_wp2_with fail
  refine H3.out.mono ?_
  rintro e w3 ⟨rfl, rfl⟩
  clear H2 H3
  go_wp2_with fail
  go_loopw [45] (fun v45 wr => ∃ i : Nat, v45 = .int .i64 (i : Int) ∧ i ≤ n ∧ Hid (∃ q, wr = w3.drewN q)) (fun v45 _ => n - (intOf v45).toNat)
  case atStart => exact ⟨0, rfl, Nat.zero_le _, 0, rfl⟩
  case round =>
    obtain ⟨i, rfl, hi, HQ⟩ := hrel
    by_cases hlt : i < n
    · obtain ⟨q, rfl⟩ := HQ.out
      obtain ⟨rX, rF, -, hiff, hk⟩ := HR1.out
      have hix : i < fs.length := by have := HN.out; omega
      obtain rfl := rF.here hix
      have c0 : (w3.drewN q).cell? ⟨gb, off + i, none⟩ = _ := rF.fr HH.out.2.1 i hix
      have hi2 := hiff i hix
      have hfl := fr_lt HH.out.2.1 i
      have hltI : (i : Int) < (n : Int) := by omega
      have hfI : ((fr fs i : Nat) : Int) < 4294967296 := by omega
      by_cases hik : i < k
      · have c1 : (w3.drewN q).cell? ⟨cb, 0 + i, none⟩ = _ := rX.cells i (by omega)
        rw [Nat.zero_add] at c1
        have hikI : (i : Int) < (k : Int) := by omega
        have hikB : decide ((i : Int) < (k : Int)) = true := decide_eq_true hikI
        by_cases hx0 : xs[i]?.getD 0 = 0
        · have hf0 : fr fs i = 0 := by
            rcases Nat.eq_zero_or_pos (fr fs i) with e | e
            · exact e
            · exact absurd hx0 (hi2.1 e).2
          rw [hf0] at c0
          rw [hx0] at c1
          rw [show ((0 : Nat) : Int) = (0 : Int) from rfl] at c0
          clear rX rF hiff hk hi2 hfl hfI hf0 hx0 HQ
          generalize hw : w3.drewN q = wq at c0 c1 ⊢
          have HW := (show Hid (w3.drewN q = wq) from hw)
          clear hw
          go_wp2_with fail
          go_quiet (fail)
          go_wp2
          go_roundw
          case rel => exact ⟨i + 1, by go_num, by omega, q + nq, by rw [← HW.out, World.drewN_drewN]⟩
          case measure => simp [intOf]; omega
        · have hf0 : 0 < fr fs i := hi2.2 ⟨by omega, hx0⟩
          have hfp : 0 < ((fr fs i : Nat) : Int) := by omega
          have hfN : decide (0 < fr fs i) = true := decide_eq_true hf0
          have hxb : (xs[i]?.getD 0 != 0) = true := by simpa using hx0
          have hxe : ¬ xs[i]?.getD 0 = 0 := hx0
          clear rX rF hiff hk hi2 hfl hx0 HQ
          generalize xs[i]?.getD 0 = x at *
          generalize fr fs i = fi at *
          generalize hw : w3.drewN q = wq at c0 c1 ⊢
          have HW := (show Hid (w3.drewN q = wq) from hw)
          clear hw
          go_wp2_with fail
          go_quiet (fail)
          go_wp2
          go_roundw
          case rel => exact ⟨i + 1, by go_num, by omega, q + nq, by rw [← HW.out, World.drewN_drewN]⟩
          case measure => simp [intOf]; omega
      · have hf0 : fr fs i = 0 := by
          rcases Nat.eq_zero_or_pos (fr fs i) with e | e
          · exact e
          · have := (hi2.1 e).1; omega
        rw [hf0] at c0
        rw [show ((0 : Nat) : Int) = (0 : Int) from rfl] at c0
        have hikI : ¬ (i : Int) < (k : Int) := by omega
        have hikB : decide ((i : Int) < (k : Int)) = false := decide_eq_false hikI
        clear rX rF hiff hk hi2 hfl hfI hf0 HQ
        generalize hw : w3.drewN q = wq at c0 ⊢
        have HW := (show Hid (w3.drewN q = wq) from hw)
        clear hw
        go_wp2_with fail
        go_quiet (fail)
        go_wp2
        go_roundw
        case rel => exact ⟨i + 1, by go_num, by omega, q + nq, by rw [← HW.out, World.drewN_drewN]⟩
        case measure => simp [intOf]; omega
    · obtain rfl : i = n := by omega
      have hltI : ¬ (i : Int) < (i : Int) := by omega
      obtain ⟨q, rfl⟩ := HQ.out
      have HK := (show Hid (Keep noBlock w (w3.drewN q)) from HK1.out.trans' (keep_drewN w3 q))
      generalize w3.drewN q = wq at HK ⊢
      clear HQ
      go_wp2_with fail
      refine (wakes_any _).mono ?_
      rintro e w4 ⟨rfl, hk4⟩
      go_wp2_with fail
      go_ret
      exact ⟨rfl, HK.out.trans' hk4⟩

theorem statesFair_any (a : Option Addr) (cap gb off : Nat) (fs : List Int) (log : Int) (w : World) (hR : RowI w .u32 a cap gb off fs) (hu : U32 fs) :
    Calls Try.prog 5 #[.slice a fs.length cap, .int .i64 log] w fun e w' => e = .returned (.bool true) ∧ Keep noBlock w w' := by
  cases hb : ableF fs log with
  | true =>
    have h5 := (of_decide_eq_true hb).2.1
    obtain ⟨l, rfl⟩ := Int.eq_ofNat_of_zero_le (show 0 ≤ log by omega)
    exact statesFair_good a cap gb off fs l w hR hu hb
  | false =>
    by_cases hf : 256 < fs.length ∨ ¬ (5 ≤ log ∧ log ≤ 12)
    · exact statesFair_bad a cap gb off fs log w hR hu hb (counts_far a fs.length cap log w hf)
    · have h1 : ¬ 256 < fs.length := fun h => hf (.inl h)
      have h2 : 5 ≤ log ∧ log ≤ 12 := Classical.byContradiction fun h => hf (.inr h)
      obtain ⟨l, rfl⟩ := Int.eq_ofNat_of_zero_le (show 0 ≤ log by omega)
      refine statesFair_bad a cap gb off fs l w hR hu hb ((counts_in a cap gb off fs l w hR hu (by omega) (by omega) (by omega)).mono ?_)
      rintro e w' (⟨_, h3, h4⟩ | ⟨h, _⟩)
      · exact ⟨h3, h4⟩
      · rw [hb] at h; cases h

end Go.Proofs.Ytoffnhbopjaocaa
