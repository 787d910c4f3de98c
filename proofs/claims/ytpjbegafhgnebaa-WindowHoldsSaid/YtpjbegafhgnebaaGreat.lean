/-
  Acts that came in, and how many bytes they are.
-/
import Derived.Test.YtpjbegafhgnebaaLive
namespace Go.Proofs.Ytpjbegafhgnebaa
open Go.RowKit Go.Shelf
set_option linter.unusedVariables false

/-- An act that came in. -/
structure ActD where
  what : Int
  bs : List Nat
  back : Int
  n : Int
  a : Option Addr
  cap : Nat
  gb : Nat
  off : Nat
/-- The acts, as they lie. -/
structure Acts (w : World) (a : Option Addr) (len b off : Nat) (ps : Nat → ActD) : Prop where
  at_ : a = some ⟨b, off, none⟩ ∨ len = 0
  cells : ∀ j, j < len → w.cell? ⟨b, off + j * 4, none⟩ = some (.int .i64 (ps j).what) ∧ w.cell? ⟨b, off + j * 4 + 1, none⟩ = some (.slice (ps j).a (ps j).bs.length (ps j).cap) ∧
    w.cell? ⟨b, off + j * 4 + 2, none⟩ = some (.int .i64 (ps j).back) ∧ w.cell? ⟨b, off + j * 4 + 3, none⟩ = some (.int .i64 (ps j).n)
  bytes : ∀ j, j < len → Bytes w (ps j).a (ps j).cap (ps j).gb (ps j).off (ps j).bs
/-- How many bytes an act is. -/
def cost (x : ActD) : Nat := x.bs.length + (if 0 < x.n ∧ x.n ≤ 16777216 then x.n.toNat else 0)
/-- .. and all below k. -/
def costs (ps : Nat → ActD) : Nat → Nat
  | 0 => 0
  | k + 1 => costs ps k + cost (ps k)

/-- What great answers. -/
def IsGreat (w : World) (ps : Nat → ActD) (len : Nat) (e : Ending) (w' : World) : Prop := w' = w ∧ (e = .returned (.bool true) ∨ (e = .returned (.bool false) ∧ len ≤ 200 ∧ costs ps len ≤ 65536))
set_option maxRecDepth 100000 in
set_option maxHeartbeats 4000000 in
theorem great_any (a : Option Addr) (len cap b off : Nat) (ps : Nat → ActD) (w : World) (h : Acts w a len b off ps) (hl : len < 2 ^ 60) :
    Calls Try.prog 7 #[.slice a len cap] w fun e w' => IsGreat w ps len e w' := by
  have HA := (show Hid (Acts w a len b off ps) from h)
  clear h
  go_enter Try.func7, Try.ntmps7
  go_wp2_with fail
  go_loopw [3, 4] (fun vn vi wr => ∃ k : Nat, vi = .int .i64 (k : Int) ∧ vn = .int .i64 ((costs ps k : Nat) : Int) ∧ k ≤ len ∧ k ≤ 201 ∧ costs ps k ≤ 2 ^ 50 ∧ wr = w) (fun _ vi _ => len - (intOf vi).toNat)
  case atStart => exact ⟨0, rfl, rfl, Nat.zero_le _, by omega, by simp [costs], rfl⟩
  case round =>
    obtain ⟨k, rfl, rfl, hk, hk2, hc, rfl⟩ := hrel
    by_cases hlt : k < len
    · obtain ⟨-, c1, -, c3⟩ := HA.out.cells k hlt
      have hbl := (HA.out.bytes k hlt).len
      obtain rfl : a = some ⟨b, off, none⟩ := HA.out.at_.resolve_right (by omega)
      have hs : costs ps (k + 1) = costs ps k + cost (ps k) := rfl
      have hco : cost (ps k) = (ps k).bs.length + (if 0 < (ps k).n ∧ (ps k).n ≤ 16777216 then (ps k).n.toNat else 0) := rfl
      have hltI : (k : Int) < (len : Int) := by omega
      generalize ps k = x at c1 c3 hbl hs hco
      obtain ⟨what, bs, back, n, xa, xcap, xgb, xoff⟩ := x
      dsimp only at c1 c3 hbl hco
      generalize bs.length = bl at c1 hbl hco
      generalize cost _ = cc at hs hco
      obtain ⟨T1, hT1⟩ : ∃ T1, T1 = costs ps (k + 1) := ⟨_, rfl⟩
      have HT := (show Hid (T1 = costs ps (k + 1)) from hT1)
      rw [← hT1] at hs
      clear hT1
      generalize hT0 : costs ps k = T at hc hs ⊢
      by_cases h200 : k ≤ 200
      · have h200I : (k : Int) ≤ 200 := by omega
        by_cases hT : T ≤ 65536
        · have hTI : (T : Int) ≤ 65536 := by omega
          obtain ⟨U, hU⟩ : ∃ U : Nat, U = T + bl := ⟨_, rfl⟩
          have hadd : (T : Int) + (bl : Int) = (U : Int) := by omega
          by_cases hn0 : 0 < n
          · by_cases hn1 : n ≤ 16777216
            · rw [if_pos ⟨hn0, hn1⟩] at hco
              have hadd2 : (U : Int) + n = (T1 : Int) := by omega
              clear hU hco hs hT0
              go_wp2_with fail
              go_roundw
              case rel => exact ⟨k + 1, by go_num, by rw [← HT.out], by omega, by omega, by rw [← HT.out]; omega, trivial⟩
              case measure => simp [intOf]; omega
            · rw [if_neg (fun e => hn1 e.2)] at hco
              have hU1 : U = T1 := by omega
              subst hU1
              clear hU hco hs hT0
              go_wp2_with fail
              go_roundw
              case rel => exact ⟨k + 1, by go_num, by rw [← HT.out], by omega, by omega, by rw [← HT.out]; omega, trivial⟩
              case measure => simp [intOf]; omega
          · rw [if_neg (fun e => hn0 e.1)] at hco
            have hU1 : U = T1 := by omega
            subst hU1
            clear hU hco hs hT0
            go_wp2_with fail
            go_roundw
            case rel => exact ⟨k + 1, by go_num, by rw [← HT.out], by omega, by omega, by rw [← HT.out]; omega, trivial⟩
            case measure => simp [intOf]; omega
        · have hTI : ¬ (T : Int) ≤ 65536 := by omega
          have hTJ : (65536 : Int) < (T : Int) := by omega
          clear hco hs hT0
          by_cases hL : 200 < len
          · have hLI : (200 : Int) < (len : Int) := by omega
            go_wp2_with fail
            go_ret
            exact ⟨rfl, .inl rfl⟩
          · have hLI : ¬ (200 : Int) < (len : Int) := by omega
            go_wp2_with fail
            go_ret
            exact ⟨rfl, .inl rfl⟩
      · have h200I : ¬ (k : Int) ≤ 200 := by omega
        have hLI : (200 : Int) < (len : Int) := by omega
        clear hco hs hT0
        go_wp2_with fail
        go_ret
        exact ⟨rfl, .inl rfl⟩
    · obtain rfl : k = len := by omega
      generalize hT0 : costs ps k = T at hc ⊢
      by_cases hL : 200 < k
      · have hLI : (200 : Int) < (k : Int) := by omega
        go_wp2_with fail
        go_ret
        exact ⟨rfl, .inl rfl⟩
      · have hLI : ¬ (200 : Int) < (k : Int) := by omega
        by_cases hT : 65536 < T
        · have hTI : (65536 : Int) < (T : Int) := by omega
          go_wp2_with fail
          go_ret
          exact ⟨rfl, .inl rfl⟩
        · have hTI : ¬ (65536 : Int) < (T : Int) := by omega
          go_wp2_with fail
          go_ret
          exact ⟨rfl, .inr ⟨rfl, by omega, by omega⟩⟩

end Go.Proofs.Ytpjbegafhgnebaa
