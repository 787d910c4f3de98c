/-
  symbolAt: the symbol of a length that has so many others ahead.
-/
import Derived.Test.YtapcohpagipkpaaKraft
import Derived.Test.YtapcohpagipkpaaNil
namespace Go.Proofs.Ytapcohpagipkpaa
open Go.RowKit Go.Shelf

theorem rank_as (xs : List Nat) (l i : Nat) (h : numOf xs i = l) : rank xs i = ((List.range i).filter (fun s => numOf xs s == l)).length := by unfold rank; rw [h]
theorem filt_succ (xs : List Nat) (l i : Nat) : ((List.range (i + 1)).filter (fun s => numOf xs s == l)).length = ((List.range i).filter (fun s => numOf xs s == l)).length + (if numOf xs i = l then 1 else 0) := by
  rw [List.range_succ, List.filter_append, List.length_append]
  by_cases h : numOf xs i = l <;> simp [h]

set_option maxRecDepth 100000 in
set_option maxHeartbeats 1000000 in
theorem symbolAt_any (a : Option Addr) (cap gb off l k sym : Nat) (xs : List Nat) (w : World) (hR : Row w .u8 a cap gb off xs) (hl : xs.length ≤ 1024) (hk : (symsOf xs l)[k]? = some sym) :
    Calls Try.prog 36 #[.slice a xs.length cap, .int .u8 (l : Int), .int .i64 (k : Int)] w fun e w' => e = .returned (.int .i64 (sym : Int)) ∧ w' = w := by
  have hkl : k < (symsOf xs l).length := (List.getElem?_eq_some_iff.1 hk).1
  have HK := (show Hid (Row w .u8 a cap gb off xs ∧ (symsOf xs l)[k]? = some sym ∧ k < (symsOf xs l).length) from ⟨hR, hk, hkl⟩)
  have hk1 : k < 1024 := by
    rw [symsOf_length] at hkl
    have : xs.count l ≤ xs.length := List.count_le_length
    omega
  clear hR hk hkl
  go_enter Try.func36, Try.ntmps36
  go_wp2
  go_loopw [2, 11] (fun vk vi wr => ∃ i c : Nat, vi = .int .i64 (i : Int) ∧ i ≤ xs.length ∧ vk = .int .i64 (c : Int) ∧ Hid (((List.range i).filter (fun s => numOf xs s == l)).length + c = k) ∧ c ≤ k ∧ wr = w) (fun _ vi _ => xs.length - (intOf vi).toNat)
  case atStart => exact ⟨0, k, rfl, Nat.zero_le _, rfl, by show _ = _; simp, Nat.le_refl _, rfl⟩
  case round =>
    obtain ⟨i, c, rfl, hi, rfl, HC, hck, rfl⟩ := hrel
    by_cases hlt : i < xs.length
    · obtain ⟨hR, hs, hkl⟩ := HK.out
      obtain rfl : a = some ⟨gb, off, none⟩ := by
        rcases hR.at_ with h | h
        · exact h
        · rw [h] at hlt; simp at hlt
      have c1 : wr.cell? ⟨gb, off + i, none⟩ = some (.int .u8 ((numOf xs i : Nat) : Int)) := hR.cells i hlt
      have HF := (show Hid _ from filt_succ xs l i)
      obtain ⟨x, hx⟩ : ∃ x, x = numOf xs i := ⟨_, rfl⟩
      rw [← hx] at c1 HF
      have HX := (show Hid (x = numOf xs i) from hx)
      clear hx hR
      by_cases he : x = l
      · subst he
        have hne : ((x : Int) != (x : Int)) = false := by simp
        by_cases hc0 : c = 0
        · subst hc0
          go_wp2
          go_ret
          refine ⟨?_, rfl⟩
          have h1 := symsOf_rank xs i hlt
          rw [rank_as xs x i HX.out.symm, ← HX.out] at h1
          have h2 := HC.out
          simp only [Nat.add_zero] at h2
          rw [h2, hs] at h1
          rw [Option.some.inj h1]
          rfl
        · have hc1 : ((c : Int) == 0) = false := by simpa using (show (c : Int) ≠ 0 by omega)
          clear hs
          go_wp2
          go_roundw
          case rel => exact ⟨i + 1, c - 1, by go_num, by omega, by congr 1; omega, (by have h1 := HF.out; have h2 := HC.out; rw [if_pos rfl] at h1; show _ = _; omega), by omega, trivial⟩
          case measure => simp [intOf]; omega
      · have hne : ((x : Int) != (l : Int)) = true := by simpa using (show (x : Int) ≠ (l : Int) by omega)
        clear hs
        go_wp2
        go_roundw
        case rel => exact ⟨i + 1, c, by go_num, by omega, rfl, (by have h1 := HF.out; have h2 := HC.out; rw [if_neg he] at h1; show _ = _; omega), hck, trivial⟩
        case measure => simp [intOf]; omega
    · obtain rfl : i = xs.length := by omega
      exfalso
      have h1 := HC.out
      have h2 := HK.out.2.2
      unfold symsOf at h2
      omega

end Go.Proofs.Ytapcohpagipkpaa
