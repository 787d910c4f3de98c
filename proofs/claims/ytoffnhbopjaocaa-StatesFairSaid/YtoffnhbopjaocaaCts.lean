/-
  The parts of Counts: sumOf, wholeParts, markRare; the document's Able.
-/
import Derived.Test.YtoffnhbopjaocaaStl
import Derived.Test.YtoffnhbopjaocaaSet
namespace Go.Proofs.Ytoffnhbopjaocaa
open Go.RowKit Go.Shelf

theorem usedN_le (f : Nat → Nat) (n : Nat) : usedN f n ≤ n := by
  have := sumN_le (fun i => if 0 < f i then 1 else 0) n 1 (fun i _ => by split <;> omega)
  unfold usedN; omega

set_option maxRecDepth 100000 in
set_option maxHeartbeats 1000000 in
theorem sumOf_any (a : Option Addr) (cap gb off : Nat) (fs : List Int) (w : World) (hR : RowI w .u32 a cap gb off fs) (hu : U32 fs) (hl : fs.length ≤ 256) :
    Calls Try.prog 46 #[.slice a fs.length cap] w fun e w' => e = .returned (.tuple #[.int .u64 ((sumN (fr fs) fs.length : Nat) : Int), .int .i64 ((usedN (fr fs) fs.length : Nat) : Int)]) ∧ w' = w := by
  have HH := (show Hid (RowI w .u32 a cap gb off fs ∧ U32 fs) from ⟨hR, hu⟩)
  obtain ⟨n, hn⟩ : ∃ n, n = fs.length := ⟨_, rfl⟩
  rw [← hn] at hl ⊢
  have HN := (show Hid (n = fs.length) from hn)
  have hnI : (n : Int) ≤ 256 := by omega
  clear hR hu hn
  go_enter Try.func46, Try.ntmps46
  go_wp2
  go_loop [2, 3, 8] (fun v2 v3 v8 => ∃ i : Nat, v8 = .int .i64 (i : Int) ∧ v2 = .int .u64 ((sumN (fr fs) i : Nat) : Int) ∧ v3 = .int .i64 ((usedN (fr fs) i : Nat) : Int) ∧ i ≤ n) (fun _ _ v8 => n - (intOf v8).toNat)
  case atStart => exact ⟨0, rfl, rfl, rfl, Nat.zero_le _⟩
  case round =>
    obtain ⟨i, rfl, rfl, rfl, hi⟩ := hrel
    have hsb : sumN (fr fs) i ≤ i * 4294967296 := sumN_le _ i _ (fun j _ => by have := fr_lt HH.out.2 j; omega)
    have hub := usedN_le (fr fs) i
    have hsI : ((sumN (fr fs) i : Nat) : Int) ≤ 1099511627776 := by omega
    have huI : ((usedN (fr fs) i : Nat) : Int) ≤ 256 := by omega
    by_cases hlt : i < n
    · have hix : i < fs.length := by have := HN.out; omega
      obtain rfl := HH.out.1.here hix
      have c0 := HH.out.1.fr HH.out.2 i hix
      have hfi := fr_lt HH.out.2 i
      have hltI : (i : Int) < (n : Int) := by omega
      have hfI : ((fr fs i : Nat) : Int) < 4294967296 := by omega
      have HS := (show Hid (sumN (fr fs) (i + 1) = sumN (fr fs) i + fr fs i ∧ usedN (fr fs) (i + 1) = usedN (fr fs) i + (if 0 < fr fs i then 1 else 0)) from ⟨rfl, rfl⟩)
      clear hsb hub
      generalize fr fs i = x at *
      generalize sumN (fr fs) i = si at *
      generalize usedN (fr fs) i = ui at *
      by_cases h0 : 0 < x
      · have h0I : 0 < (x : Int) := by omega
        go_wp2_with fail
        go_round
        case rel => exact ⟨i + 1, by go_num, by rw [HS.out.1]; go_num, by rw [HS.out.2, if_pos h0]; go_num, by omega⟩
        case measure => simp [intOf]; omega
      · have h0I : ¬ 0 < (x : Int) := by omega
        go_wp2_with fail
        go_round
        case rel => exact ⟨i + 1, by go_num, by rw [HS.out.1]; go_num, by rw [HS.out.2, if_neg h0]; go_num, by omega⟩
        case measure => simp [intOf]; omega
    · obtain rfl : i = n := by omega
      have hltI : ¬ (i : Int) < (i : Int) := by omega
      go_wp2
      go_ret2
      exact ⟨rfl, rfl⟩

/-- May freqs be given counts? -/
def ableF (fs : List Int) (log : Int) : Bool := decide (fs.length ≤ 256 ∧ 5 ≤ log ∧ log ≤ 12 ∧ 1 ≤ usedN (fr fs) fs.length ∧ usedN (fr fs) fs.length ≤ 2 ^ log.toNat)

set_option maxRecDepth 100000 in
set_option maxHeartbeats 2000000 in
theorem able_any (a : Option Addr) (cap gb off : Nat) (fs : List Int) (log : Int) (w : World) (hR : RowI w .u32 a cap gb off fs) (hu : U32 fs) :
    Calls Try.prog 16 #[.slice a fs.length cap, .int .i64 log] w fun e w' => e = .returned (.bool (ableF fs log)) ∧ w' = w := by
  by_cases hl : fs.length ≤ 256
  · have hlI : ¬ (256 : Int) < (fs.length : Int) := by omega
    by_cases h5 : 5 ≤ log
    · have h5I : ¬ log < 5 := by omega
      by_cases h12 : log ≤ 12
      · have h12I : ¬ 12 < log := by omega
        obtain ⟨l, rfl, hl1, hl2, hp1, hp2, hpe⟩ := pow_log log h5 h12
        have HE := (show Hid (ableF fs (l : Int) = decide (1 ≤ usedN (fr fs) fs.length ∧ usedN (fr fs) fs.length ≤ 2 ^ l)) from by
          unfold ableF
          rw [Bool.eq_iff_iff, decide_eq_true_iff, decide_eq_true_iff, Int.toNat_natCast]
          exact ⟨fun h => h.2.2.2, fun h => ⟨hl, h5, h12, h⟩⟩)
        have HH := (show Hid (RowI w .u32 a cap gb off fs ∧ U32 fs) from ⟨hR, hu⟩)
        obtain ⟨n, hn⟩ : ∃ n, n = fs.length := ⟨_, rfl⟩
        rw [← hn] at hl hlI HE ⊢
        have HN := (show Hid (n = fs.length) from hn)
        have hnI : (n : Int) ≤ 256 := by omega
        have HPE := (show Hid ((2 : Int) ^ l = ((2 ^ l : Nat) : Int)) from hpe)
        clear hR hu hn hpe h5 h12
        go_enter Try.func16, Try.ntmps16
        go_wp2
        go_loop [5, 6] (fun v5 v6 => ∃ i : Nat, v6 = .int .i64 (i : Int) ∧ v5 = .int .i64 ((usedN (fr fs) i : Nat) : Int) ∧ i ≤ n) (fun _ v6 => n - (intOf v6).toNat)
        case atStart => exact ⟨0, rfl, rfl, Nat.zero_le _⟩
        case round =>
          obtain ⟨i, rfl, rfl, hi⟩ := hrel
          have hub := usedN_le (fr fs) i
          have huI : ((usedN (fr fs) i : Nat) : Int) ≤ 256 := by omega
          by_cases hlt : i < n
          · have hix : i < fs.length := by have := HN.out; omega
            obtain rfl := HH.out.1.here hix
            have c0 := HH.out.1.fr HH.out.2 i hix
            have hfi := fr_lt HH.out.2 i
            have hltI : (i : Int) < (n : Int) := by omega
            have hfI : ((fr fs i : Nat) : Int) < 4294967296 := by omega
            have HS := (show Hid (usedN (fr fs) (i + 1) = usedN (fr fs) i + (if 0 < fr fs i then 1 else 0)) from rfl)
            clear hub
            generalize fr fs i = x at *
            generalize usedN (fr fs) i = ui at *
            by_cases h0 : 0 < x
            · have h0I : 0 < (x : Int) := by omega
              go_wp2_with fail
              go_round
              case rel => exact ⟨i + 1, by go_num, by rw [HS.out, if_pos h0]; go_num, by omega⟩
              case measure => simp [intOf]; omega
            · have h0I : ¬ 0 < (x : Int) := by omega
              go_wp2_with fail
              go_round
              case rel => exact ⟨i + 1, by go_num, by rw [HS.out, if_neg h0]; go_num, by omega⟩
              case measure => simp [intOf]; omega
          · obtain rfl : i = n := by omega
            have hltI : ¬ (i : Int) < (i : Int) := by omega
            have hlI2 : (l : Int) ≤ 12 := by omega
            by_cases h1 : 1 ≤ usedN (fr fs) i
            · have h1I : (1 : Int) ≤ ((usedN (fr fs) i : Nat) : Int) := by omega
              have HD := (show Hid (decide (((usedN (fr fs) i : Nat) : Int) ≤ 2 ^ l) = ableF fs (l : Int)) from by
                rw [HE.out, HPE.out, Bool.eq_iff_iff, decide_eq_true_iff, decide_eq_true_iff]
                exact ⟨fun h => ⟨h1, Int.ofNat_le.1 h⟩, fun h => Int.ofNat_le.2 h.2⟩)
              generalize usedN (fr fs) i = ui at *
              go_wp2_with fail
              go_ret
              exact ⟨by rw [← HD.out]; rfl, rfl⟩
            · have h1I : ¬ (1 : Int) ≤ ((usedN (fr fs) i : Nat) : Int) := by omega
              have HD := (show Hid (ableF fs (l : Int) = false) from by
                rw [HE.out]; exact decide_eq_false (fun h => h1 h.1))
              generalize usedN (fr fs) i = ui at *
              go_wp2_with fail
              go_ret
              exact ⟨by rw [HD.out]; rfl, rfl⟩
      · have h12I : 12 < log := by omega
        rw [show ableF fs log = false from decide_eq_false (fun h => h12 h.2.2.1)]
        clear hR
        go_enter Try.func16, Try.ntmps16
        go_wp2
        go_ret
        exact ⟨rfl, rfl⟩
    · have h5I : log < 5 := by omega
      rw [show ableF fs log = false from decide_eq_false (fun h => h5 h.2.1)]
      clear hR
      go_enter Try.func16, Try.ntmps16
      go_wp2
      go_ret
      exact ⟨rfl, rfl⟩
  · have hlI : (256 : Int) < (fs.length : Int) := by omega
    rw [show ableF fs log = false from decide_eq_false (fun h => hl h.1)]
    clear hR
    go_enter Try.func16, Try.ntmps16
    go_wp2
    go_ret
    exact ⟨rfl, rfl⟩

end Go.Proofs.Ytoffnhbopjaocaa
