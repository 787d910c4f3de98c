/-
  RangesSmall answers true.
-/
import Derived.Test.YtfhgbggcpoingaaWak
import Derived.Test.YtfhgbggcpoingaaSml
import Derived.Test.YtfhgbggcpoingaaBck
namespace Go.Proofs.Ytfhgbggcpoingaa
open Go.RowKit Go.Shelf
set_option linter.unusedVariables false

/-- On the way through bits that are alike. -/
def Smlg (w wr : World) (b pb : Nat) (one : Bool) (i : Nat) (v' : Value) : Prop := ∃ (E : Enc) (c : Nat), (E.span, c, manyE E) = simN one i ∧ 31 ≤ c ∧ c ≤ 2017 ∧ IsE wr b E true v' ∧ Good E ∧ wr.heap[pb]? = some (.cells #[.int .u16 (c : Int)] 40 (0, 0)) ∧ (∀ g, v'.ownBlock = some g → w.heap.size ≤ g) ∧ Keep noBlock w wr

theorem smlg_step {w wr : World} {b pb i : Nat} {one : Bool} {v : Value} (hb : w.heap.size ≤ b) (hpb : w.heap.size ≤ pb) (hi : i < 32768) (bit : Int) (hbit : one = (bit != 0)) (h : Smlg w wr b pb one i v) :
    Calls Try.prog 22 #[.pointer (some ⟨b, 0, none⟩), .pointer (some ⟨pb, 0, none⟩), .int .i64 bit] wr fun r w' => r = .returned (.tuple #[]) ∧ ∃ v', Smlg w w' b pb one (i + 1) v' := by
  obtain ⟨E, c, h1, h2, h3, h4, h5, h6, h7, h8⟩ := h
  have hm := sim_small one i
  have hm2 : manyE E = (simN one i).2.2 := by rw [← h1]
  have hfair : fairN c = c := by unfold fairN; omega
  refine (bitE_any b pb 0 c bit one _ E v wr h4 h5.ok (by omega) h6 rfl (by omega) hbit).mono ?_
  rintro r w1 ⟨rfl, v1, a1, a2, a3, a4⟩
  rw [hfair] at a1 a3
  refine ⟨rfl, v1, bitE E c one, learnN c one, ?_, (learnN_bd one h2 h3).1, (learnN_bd one h2 h3).2, a1, bitE_good h5 h2 h3 one, a3, near_new h8.size h7 a2, ?_⟩
  · rw [sim_bit (e := E) (one := one) (c := c) rfl, h1]
    rfl
  · refine h8.trans a4 (fun k hk e => ?_)
    rcases e with (e | e) | e
    · omega
    · have := h7 k e; omega
    · omega

set_option maxRecDepth 100000 in
set_option maxHeartbeats 4000000 in
theorem small_any (n : Int) (bit : Bool) (w : World) : Calls Try.prog 6 #[.int .i64 n, .bool bit] w fun e w' => e = .returned (.bool true) ∧ Keep noBlock w w' := by
  obtain ⟨r, hr⟩ : ∃ r, r = n.tmod 32768 := ⟨_, rfl⟩
  have hr1 : r < 32768 := by rw [hr]; exact Int.tmod_lt_of_pos _ (by omega)
  have hr2 : -32768 < r := by rw [hr]; exact Int.lt_tmod_of_pos _ (by omega)
  obtain ⟨s, hs⟩ : ∃ s : Nat, s = (r + 32768).toNat := ⟨_, rfl⟩
  have hsI : r + 32768 = (s : Int) := by omega
  obtain ⟨N, hN⟩ : ∃ N : Nat, N = s % 32768 := ⟨_, rfl⟩
  have hNI : (s : Int) % 32768 = (N : Int) := by omega
  have hNb : N < 32768 := by omega
  obtain ⟨q, hq⟩ : ∃ q : Nat, q = N / 32 := ⟨_, rfl⟩
  have hqI : (N : Int) / 32 = (q : Int) := by omega
  have hrI : n.tmod 32768 = r := hr.symm
  have HQ := hid hq
  clear hr hs hN hq
  go_enter Try.func6, Try.ntmps6
  go_wp2_with fail
  refine (newE_any w).mono ?_
  rintro e w1 ⟨rfl, hE1, hK1⟩
  have H0 : ∀ one, Smlg w (w1.alloc (.cells #[.int .u16 1024] 40)) w.heap.size w1.heap.size one 0 (.slice none 0 0) := fun one =>
    ⟨newE, 1024, rfl, by omega, by omega, hE1.keep (S := noBlock) ((Keep.refl _ w1).alloc _) (fun h => h) (fun _ _ h => h), newE_good, alloc_new w1 _, (fun g hg => by cases hg), hK1.alloc _⟩
  have hs1 := hK1.size
  clear hE1 hK1
  generalize hb : w.heap.size = b at *
  have HB := hid hb
  clear hb
  have HS := (show Hid (b ≤ w1.heap.size) from hs1)
  clear hs1
  generalize hpb : w1.heap.size = pb at *
  have HPB := hid hpb
  clear hpb
  have HS2 := (show Hid (w.heap.size ≤ b ∧ w.heap.size ≤ pb) from ⟨by rw [HB.out]; exact Nat.le_refl _, by rw [HB.out]; exact HS.out⟩)
  cases bit with
  | true =>
    have H1 := H0 true
    clear H0
    go_wp2_with fail
    rw [HPB.out]
    generalize w1.alloc (.cells #[.int .u16 1024] 40) = W at *
    go_loopw [8] (fun i wr => ∃ (k : Nat) (v' : Value), k ≤ N ∧ i = .int .i64 k ∧ Smlg w wr b pb true k v') (fun i _ => N - (intOf i).toNat)
    case atStart => exact ⟨0, _, Nat.zero_le _, rfl, H1⟩
    case round =>
      clear H1
      obtain ⟨k, v1, hk, rfl, hS⟩ := hrel
      by_cases hlt : k < N
      · have HC := hid (smlg_step HS2.out.1 HS2.out.2 (by omega) 1 rfl hS)
        clear hS
        go_wp2_with (go_at_call 22; refine HC.out.mono ?_; rintro r w2 ⟨rfl, v2, h2⟩)
        go_roundw
        case rel => exact ⟨k + 1, v2, by omega, by go_num, h2⟩
        case measure => simp [intOf]; omega
      · obtain rfl : k = N := by omega
        obtain ⟨E, c, h1, h2, h3, h4, h5, h6, h7, h8⟩ := hS
        have hm := sim_small true k
        have hm2 : manyE E = (simN true k).2.2 := by rw [← h1]
        have hol := (closeE_val h5).2
        have HC := hid (close_any b E v1 _ h4 (by omega))
        have hlen : (closeE E).out.length ≤ q + 16 := by have := HQ.out; omega
        have HX := (show Hid ((∀ g, v1.ownBlock = some g → w.heap.size ≤ g) ∧ Keep noBlock w wr) from ⟨h7, h8⟩)
        clear h1 h2 h3 h4 h5 h6 h7 h8 hm hm2 hol hlt hk
        generalize (closeE E).out.length = cl at *
        have hqb : (q : Int) ≤ 1024 := by omega
        have hlI : (cl : Int) ≤ (q : Int) + 16 := by omega
        go_wp2_with fail
        refine HC.out.mono ?_
        rintro e w3 ⟨u, v3, rfl, hown, hE3, hN3, hK3⟩
        have HK3 := hid (keep_new HX.out.2 HS2.out.1 HX.out.1 hK3)
        obtain ⟨sa, sc, rfl⟩ := owns_form hown
        clear hown hE3 hN3 hK3
        go_wp2_with (go_at_call 8; refine (wakes_any _).mono ?_; rintro e w7 ⟨rfl, hK7⟩)
        go_ret
        exact ⟨rfl, HK3.out.trans' hK7⟩
  | false =>
    have H1 := H0 false
    clear H0
    go_wp2_with fail
    rw [HPB.out]
    generalize w1.alloc (.cells #[.int .u16 1024] 40) = W at *
    go_loopw [8] (fun i wr => ∃ (k : Nat) (v' : Value), k ≤ N ∧ i = .int .i64 k ∧ Smlg w wr b pb false k v') (fun i _ => N - (intOf i).toNat)
    case atStart => exact ⟨0, _, Nat.zero_le _, rfl, H1⟩
    case round =>
      clear H1
      obtain ⟨k, v1, hk, rfl, hS⟩ := hrel
      by_cases hlt : k < N
      · have HC := hid (smlg_step HS2.out.1 HS2.out.2 (by omega) 0 rfl hS)
        clear hS
        go_wp2_with (go_at_call 22; refine HC.out.mono ?_; rintro r w2 ⟨rfl, v2, h2⟩)
        go_roundw
        case rel => exact ⟨k + 1, v2, by omega, by go_num, h2⟩
        case measure => simp [intOf]; omega
      · obtain rfl : k = N := by omega
        obtain ⟨E, c, h1, h2, h3, h4, h5, h6, h7, h8⟩ := hS
        have hm := sim_small false k
        have hm2 : manyE E = (simN false k).2.2 := by rw [← h1]
        have hol := (closeE_val h5).2
        have HC := hid (close_any b E v1 _ h4 (by omega))
        have hlen : (closeE E).out.length ≤ q + 16 := by have := HQ.out; omega
        have HX := (show Hid ((∀ g, v1.ownBlock = some g → w.heap.size ≤ g) ∧ Keep noBlock w wr) from ⟨h7, h8⟩)
        clear h1 h2 h3 h4 h5 h6 h7 h8 hm hm2 hol hlt hk
        generalize (closeE E).out.length = cl at *
        have hqb : (q : Int) ≤ 1024 := by omega
        have hlI : (cl : Int) ≤ (q : Int) + 16 := by omega
        go_wp2_with fail
        refine HC.out.mono ?_
        rintro e w3 ⟨u, v3, rfl, hown, hE3, hN3, hK3⟩
        have HK3 := hid (keep_new HX.out.2 HS2.out.1 HX.out.1 hK3)
        obtain ⟨sa, sc, rfl⟩ := owns_form hown
        clear hown hE3 hN3 hK3
        go_wp2_with (go_at_call 8; refine (wakes_any _).mono ?_; rintro e w7 ⟨rfl, hK7⟩)
        go_ret
        exact ⟨rfl, HK3.out.trans' hK7⟩

end Go.Proofs.Ytfhgbggcpoingaa
