/-
  turned, and bytes.Count of one byte; a word written is the word read.
-/
import Derived.Test.YtapcohpagipkpaaRead5
import Derived.Shelf.Bytes.SlCountOne
namespace Go.Proofs.Ytapcohpagipkpaa
open Go.RowKit Go.Shelf

theorem shl_or_u64 (v b : Nat) (hv : v < 32768) (hb : b < 2) : bits .or .u64 ((v : Int) * 2) (b : Int) = ((2 * v + b : Nat) : Int) := by
  have e : bits .or .u64 ((v : Int) * 2) (b : Int) = IntKind.u64.wrap ((BitVec.ofInt 64 ((v : Int) * 2) ||| BitVec.ofInt 64 (b : Int)).toNat : Int) := rfl
  have e1 : (BitVec.ofInt 64 ((v : Int) * 2)).toNat = v * 2 := by rw [BitVec.toNat_ofInt]; omega
  have e2 : (BitVec.ofInt 64 (b : Int)).toNat = b := by rw [BitVec.toNat_ofInt]; omega
  rw [e, BitVec.toNat_or, e1, e2, show v * 2 ||| b = v * 2 + b from by
    have h := Nat.two_pow_add_eq_or_of_lt (i := 1) (b := b) (by simpa using hb) v
    rw [Nat.pow_one, Nat.mul_comm] at h
    exact h.symm, IntKind.wrap_u64]
  omega
theorem and_one_i64 (v : Nat) (hv : v < 9223372036854775808) : bits .and .i64 (v : Int) 1 = ((v % 2 : Nat) : Int) := by
  have e : bits .and .i64 (v : Int) 1 = IntKind.i64.wrap ((BitVec.ofInt 64 (v : Int) &&& BitVec.ofInt 64 1).toNat : Int) := rfl
  have e1 : (BitVec.ofInt 64 (v : Int)).toNat = v := by rw [BitVec.toNat_ofInt]; omega
  rw [e, BitVec.toNat_and, e1, show (BitVec.ofInt 64 1).toNat = 1 from rfl, Nat.and_one_is_mod, IntKind.wrap_i64]
  omega

/-- The bits of a number that was put together, the highest first. -/
theorem bitOf_valF (b : Nat → Nat) (hb : ∀ i, b i < 2) (l j : Nat) (h : j < l) : bitOf (valF b l) j = b (l - 1 - j) := by
  induction l generalizing j with
  | zero => omega
  | succ l ih =>
    simp only [valF]
    have h2 := hb l
    cases j with
    | zero =>
      unfold bitOf
      rw [Nat.pow_zero, Nat.div_one, show l + 1 - 1 - 0 = l by omega]
      omega
    | succ j =>
      have h3 := ih j (by omega)
      unfold bitOf at h3 ⊢
      rw [show l + 1 - 1 - (j + 1) = l - 1 - j by omega, ← h3, Nat.pow_succ, Nat.mul_comm (2 ^ j) 2, ← Nat.div_div_eq_div_mul, show (2 * valF b l + b l) / 2 = valF b l by omega]
/-- A number is its bits, the highest first. -/
theorem valF_bits (v : Nat) : ∀ l k, valF (fun i => bitOf v (k + l - 1 - i)) l = v / 2 ^ k % 2 ^ l
  | 0, k => by simp [valF, Nat.mod_one]
  | l + 1, k => by
    have h := valF_bits v l (k + 1)
    have h2 := valF_congr (fun i => bitOf v (k + (l + 1) - 1 - i)) (fun i => bitOf v (k + 1 + l - 1 - i)) l (fun i _ => by rw [show k + (l + 1) - 1 - i = k + 1 + l - 1 - i by omega])
    simp only [valF]
    rw [h2, h, show k + (l + 1) - 1 - l = k by omega]
    unfold bitOf
    rw [Nat.pow_succ 2 k, ← Nat.div_div_eq_div_mul, Nat.pow_succ 2 l, Nat.mul_comm (2 ^ l) 2, Nat.mod_mul]
    omega
theorem valF_first (b : Nat → Nat) (hb : ∀ i, b i < 2) (k d : Nat) : valF b (k + d) / 2 ^ d = valF b k := by
  induction d with
  | zero => simp
  | succ d ih =>
    have := hb (k + d)
    rw [← Nat.add_assoc]
    simp only [valF]
    rw [Nat.pow_succ, Nat.mul_comm (2 ^ d) 2, ← Nat.div_div_eq_div_mul, show (2 * valF b (k + d) + b (k + d)) / 2 = valF b (k + d) by omega, ih]
theorem next_far (c : Nat → Nat) (k d : Nat) : (nextF c k + c k) * 2 ^ (d + 1) ≤ nextF c (k + d + 1) := by
  induction d with
  | zero => simp only [nextF, Nat.zero_add, Nat.pow_one]; omega
  | succ d ih =>
    have e : nextF c (k + (d + 1) + 1) = 2 * (nextF c (k + d + 1) + c (k + d + 1)) := rfl
    rw [e, Nat.pow_succ, ← Nat.mul_assoc]
    omega
/-- The bits of a symbol's word are a word. -/
theorem word_is (c b : Nat → Nat) (hb : ∀ i, b i < 2) (l v : Nat) (h1 : 1 ≤ l) (h2 : l ≤ 15) (hv : valF b l = v) (hlo : nextF c l ≤ v) (hhi : v < nextF c l + c l) : IsWord c b l := by
  refine ⟨h1, h2, by omega, by omega, fun k hk h0 => ?_⟩
  obtain ⟨d, rfl⟩ : ∃ d, l = k + d + 1 := ⟨l - k - 1, by omega⟩
  have h3 := valF_first b hb k (d + 1)
  have h4 := next_far c k d
  rw [show k + (d + 1) = k + d + 1 by omega, hv] at h3
  rw [← h3]
  exact (Nat.le_div_iff_mul_le (Nat.two_pow_pos _)).2 (by omega)

set_option maxRecDepth 100000 in
set_option maxHeartbeats 1000000 in
/-- turned: the number whose lowest bit is the word's highest. -/
theorem turned_any (v l : Nat) (hv : v < 65536) (hl : l ≤ 15) (w : World) :
    Calls Try.prog 32 #[.int .i64 (v : Int), .int .i64 (l : Int)] w fun e w' => e = .returned (.int .u64 ((valF (bitOf v) l : Nat) : Int)) ∧ w' = w := by
  go_enter Try.func32, Try.ntmps32
  go_wp2
  go_loopw [0, 5, 7] (fun vw vx vi wr => ∃ i d x : Nat, vi = .int .i64 (i : Int) ∧ i ≤ l ∧ vw = .int .i64 (d : Int) ∧ vx = .int .u64 (x : Int) ∧ Hid (d = v / 2 ^ i ∧ x = valF (bitOf v) i) ∧ wr = w) (fun _ _ vi _ => l - (intOf vi).toNat)
  case atStart => exact ⟨0, v, 0, rfl, Nat.zero_le _, rfl, rfl, ⟨by simp, rfl⟩, rfl⟩
  case round =>
    obtain ⟨i, d, x, rfl, hi, rfl, rfl, HD, rfl⟩ := hrel
    by_cases hlt : i < l
    · have hd : d < 65536 := by rw [HD.out.1]; exact Nat.lt_of_le_of_lt (Nat.div_le_self _ _) hv
      have hx : x < 32768 := by rw [HD.out.2]; exact Nat.lt_of_lt_of_le (valF_lt _ (bitOf_lt v) i) (Nat.le_trans (Nat.pow_le_pow_right (by omega) (show i ≤ 15 by omega)) (by decide))
      have ha := and_one_i64 d (by omega)
      obtain ⟨t, ht⟩ : ∃ t, t = d % 2 := ⟨_, rfl⟩
      rw [← ht] at ha
      have ht2 : t < 2 := by omega
      have ho := shl_or_u64 x t hx ht2
      obtain ⟨y, hy⟩ : ∃ y, y = 2 * x + t := ⟨_, rfl⟩
      rw [← hy] at ho
      have HY := (show Hid (y = valF (bitOf v) (i + 1)) from by
        show _ = _
        simp only [valF]
        unfold bitOf
        rw [hy, ht, HD.out.2, HD.out.1]
        rfl)
      have HD2 := (show Hid (d / 2 = v / 2 ^ (i + 1)) from by
        show _ = _
        rw [HD.out.1, Nat.div_div_eq_div_mul, Nat.pow_succ])
      clear ht hy
      go_wp2
      go_roundw
      case rel => exact ⟨i + 1, d / 2, y, by go_num, by omega, by congr 1, by first | rfl | (congr 1), ⟨HD2.out, HY.out⟩, trivial⟩
      case measure => simp [intOf]; omega
    · obtain rfl : i = l := by omega
      go_wp2
      go_ret
      exact ⟨by rw [HD.out.2]; rfl, rfl⟩

/-- bytes.Count of one byte of a row, among those ahead of it. -/
theorem run_count (gb off s cap : Nat) (xs : List Nat) (w : World) (hR : Row w .u8 (some ⟨gb, off, none⟩) cap gb off xs) (h8 : ∀ i, numOf xs i < 256) (hs : s < xs.length) :
    (Extern.BytealgCount.count #[.slice (some ⟨gb, off, none⟩) s cap, .int .u8 ((numOf xs s : Nat) : Int)]).run Try.prog w = .ok (.int .i64 ((rank xs s : Nat) : Int)) w := by
  have hmap : ∀ i, i < s → w.cell? ⟨gb, off + i, none⟩ = some (.int .u8 (((xs.take s).map (fun x : Nat => (x : Int))).getD i 0)) := fun i hi => by
    rw [hR.cells i (by omega)]
    simp [hi, List.getElem?_eq_getElem (show i < xs.length by omega)]
  rw [Lib.run_countSlice w gb off s cap ((xs.take s).map (fun x : Nat => (x : Int))) (by simp; omega) hmap]
  congr 2
  rw [rank_eq xs s (by omega)]
  unfold Lib.countByte Lib.bytesOf
  congr 1
  rw [List.map_map]
  have e : ∀ L : List Nat, (∀ x ∈ L, x < 256) → (L.map ((fun n : Int => UInt8.ofNat n.toNat) ∘ fun x : Nat => (x : Int))).count (Nat.toUInt8 ((numOf xs s : Nat) : Int).toNat) = L.count (numOf xs s) := by
    intro L hL
    induction L with
    | nil => rfl
    | cons x L ih =>
      rw [List.map_cons, List.count_cons, List.count_cons, ih (fun y hy => hL y (List.mem_cons_of_mem _ hy))]
      congr 1
      have h1 := hL x (List.mem_cons_self ..)
      have h2 := h8 s
      by_cases hx : x = numOf xs s
      · subst hx; simp
      · have : ¬ (UInt8.ofNat x = UInt8.ofNat (numOf xs s)) := fun h => hx (by
          have := congrArg UInt8.toNat h
          simp at this
          omega)
        simp [hx, this]
  refine e _ (fun x hx => ?_)
  obtain ⟨i, hi, rfl⟩ := List.mem_iff_getElem.1 hx
  have := h8 i
  unfold numOf at this
  simp at hi
  rw [List.getElem?_eq_getElem (by omega)] at this
  simpa using this

set_option maxRecDepth 100000 in
set_option maxHeartbeats 1000000 in
theorem count_any (gb off s cap d : Nat) (xs : List Nat) (w : World) (hR : Row w .u8 (some ⟨gb, off, none⟩) cap gb off xs) (h8 : ∀ i, numOf xs i < 256) (hs : s < xs.length) :
    Calls Try.prog 30 #[.slice (some ⟨gb, off, none⟩) s cap, .slice (some ⟨gb, off + s, none⟩) 1 d] w fun e w' => e = .returned (.int .i64 ((rank xs s : Nat) : Int)) ∧ w' = w := by
  have hrun := run_count gb off s cap xs w hR h8 hs
  have hc2 : w.cell? ⟨gb, off + s, none⟩ = some (.int .u8 ((numOf xs s : Nat) : Int)) := hR.cells s hs
  obtain ⟨x, hx⟩ : ∃ x, x = numOf xs s := ⟨_, rfl⟩
  rw [← hx] at hrun hc2
  clear hx hR
  go_enter Try.func30, Try.ntmps30
  go_wp2
  rw [run_callFunc_extern Try.func47 (by kernel_rfl) (by kernel_rfl) (by kernel_rfl) (e := Extern.BytealgCount.count) (by kernel_rfl), hrun]
  simp only [Result.andThen]
  rw [Oper.upon_value]
  go_wp2
  go_ret
  exact ⟨rfl, rfl⟩

end Go.Proofs.Ytapcohpagipkpaa
