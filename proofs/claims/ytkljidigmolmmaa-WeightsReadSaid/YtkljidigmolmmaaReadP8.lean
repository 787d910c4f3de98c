/-
  share, sumOf, makeCode; the document's Bits.
  makeCode, and the document's Bits.
  words: the words of a code, one behind the other.
  slices.Backward over bytes.
  The array of words, and the bits that are packed.
  The array of cells in which words are found.
-/
import Derived.Laws.Rows
import Derived.Laws.Tables
import Derived.Deep.WholeRow
import Derived.Test.YtkljidigmolmmaaReadP7
namespace Go.Proofs.Ytkljidigmolmmaa
open Go.RowKit Go.Shelf

set_option maxRecDepth 100000 in
set_option maxHeartbeats 1000000 in
/-- math/bits.Len64 of a number below 2^24. -/
theorem len64_big (x : Nat) (hx : x < 16777216) (w : World) : Calls Try.prog 67 #[.int .u64 (x : Int)] w fun e w' => e = .returned (.int .i64 ((lenN x : Nat) : Int)) ∧ w' = w := by
  by_cases h : x < 65536
  · exact len64_any x h w
  · have g1 : ¬ (4294967296 : Int) ≤ (x : Int) := by omega
    have g2 : (65536 : Int) ≤ (x : Int) := by omega
    have hs : lenN x = 16 + lenN (x / 65536) := by
      have h1 := lenN_shift x (by omega)
      have h2 := lenN_shift (x / 256) (by omega)
      rw [Nat.div_div_eq_div_mul, show 256 * 256 = 65536 from rfl] at h2
      omega
    obtain ⟨y, hy⟩ : ∃ y, y = x / 65536 := ⟨_, rfl⟩
    have hd : (x : Int) / 2 ^ 16 = (y : Int) := by omega
    have hd' : (x : Int) / 65536 = (y : Int) := by omega
    rw [← hy] at hs
    have hy2 : y < 256 := by omega
    have hyI : (y : Int) < 256 := by omega
    have hyn : ¬ (256 : Int) ≤ (y : Int) := by omega
    generalize lenN x = lx at hs ⊢
    have HS := (show Hid _ from hs)
    have HY := (show Hid _ from hy)
    clear hs hy
    go_enter Try.func67, Try.ntmps67
    go_wp2
    go_ret
    refine ⟨congrArg (fun x => Ending.returned (Value.int .i64 x)) ?_, rfl⟩
    rw [HS.out]
    clear w g1 g2 hx HS HY hd hd' h x lx
    revert hyn hyI hy2
    revert y
    decide +kernel

set_option maxHeartbeats 400000 in
theorem len_big (x : Nat) (hx : x < 16777216) (w : World) : Calls Try.prog 40 #[.int .u64 (x : Int)] w fun e w' => e = .returned (.int .i64 ((lenN x : Nat) : Int)) ∧ w' = w := by
  go_enter Try.func40, Try.ntmps40
  go_wp2_with (go_at_call 67; refine (len64_big x hx _).mono ?_; rintro e w' ⟨rfl, rfl⟩)
  go_ret
  exact ⟨rfl, rfl⟩

set_option maxHeartbeats 400000 in
/-- share. -/
theorem shareW_any (x : Nat) (hx : x ≤ 11) (w : World) : Calls Try.prog 45 #[.int .u8 (x : Int)] w fun e w' => e = .returned (.int .i64 ((shN x : Nat) : Int)) ∧ w' = w := by
  by_cases h0 : x = 0
  · subst h0
    go_enter Try.func45, Try.ntmps45
    go_wp2
    go_ret
    exact ⟨rfl, rfl⟩
  · have hb : ((x : Int) == 0) = false := by rw [beq_eq_false_iff_ne]; omega
    obtain ⟨k, hk⟩ : ∃ k, x = k + 1 := ⟨x - 1, by omega⟩
    have hkI : (x : Int) - 1 = (k : Int) := by omega
    have hk10 : (k : Int) ≤ 10 := by omega
    have hxI : (x : Int) ≤ 11 := by omega
    have hsh : shN x = 2 ^ k := by rw [hk]; rfl
    have hp : 2 ^ k ≤ 1024 := Nat.pow_le_pow_right (n := 2) (j := 10) (by omega) (by omega)
    have hpI : wrap64 ((2 : Int) ^ k) = ((shN x : Nat) : Int) := by
      rw [hsh]
      have e : (2 : Int) ^ k = ((2 ^ k : Nat) : Int) := by simp
      rw [e]
      generalize 2 ^ k = y at hp
      unfold wrap64; omega
    generalize shN x = y at *
    have HP := (show Hid _ from hpI)
    clear hk hsh hp hpI
    go_enter Try.func45, Try.ntmps45
    go_wp2
    go_ret
    exact ⟨congrArg (fun x => Ending.returned (Value.int .i64 x)) HP.out, rfl⟩

/-- No weight is too great. -/
def okW (ws : List Nat) : Bool := decide (∀ i, i < ws.length → wt ws i ≤ 11)

set_option maxRecDepth 100000 in
set_option maxHeartbeats 1000000 in
/-- sumOf. -/
theorem sumOfW_any (a : Option Addr) (cap gb off : Nat) (ws : List Nat) (w : World) (hB : Bytes w a cap gb off ws) (hl : ws.length ≤ 256) :
    Calls Try.prog 39 #[.slice a ws.length cap] w fun e w' => (okW ws = true ∧ e = .returned (.tuple #[.int .i64 ((sumW ws ws.length : Nat) : Int), .bool true]) ∨ okW ws = false ∧ e = .returned (.tuple #[.int .i64 0, .bool false])) ∧ w' = w := by
  have HB := (show Hid (Bytes w a cap gb off ws) from hB)
  obtain ⟨n, hn⟩ : ∃ n, n = ws.length := ⟨_, rfl⟩
  rw [← hn] at hl ⊢
  have HN := (show Hid (n = ws.length) from hn)
  have hnI : (n : Int) ≤ 256 := by omega
  clear hB hn
  go_enter Try.func39, Try.ntmps39
  go_wp2
  go_loop [2, 8] (fun v2 v8 => ∃ i : Nat, v8 = .int .i64 (i : Int) ∧ v2 = .int .i64 ((sumW ws i : Nat) : Int) ∧ i ≤ n ∧ Hid (∀ j, j < i → wt ws j ≤ 11)) (fun _ v8 => n - (intOf v8).toNat)
  case atStart => exact ⟨0, rfl, rfl, Nat.zero_le _, fun j hj => by omega⟩
  case round =>
    obtain ⟨i, rfl, rfl, hi, HA⟩ := hrel
    have hsb := sumW_le ws i HA.out
    have hsI : ((sumW ws i : Nat) : Int) ≤ 262144 := by omega
    by_cases hlt : i < n
    · have hix : i < ws.length := by have := HN.out; omega
      obtain rfl : a = some ⟨gb, off, none⟩ := by
        rcases HB.out.at_ with e | e
        · exact e
        · rw [e] at hix; simp at hix
      have c0 := HB.out.cells i hix
      have hx256 := HB.out.lt i
      have HS := (show Hid (sumW ws (i + 1) = sumW ws i + shN (wt ws i)) from rfl)
      have hltI : (i : Int) < (n : Int) := by omega
      have HX := (show Hid (wt ws i = ws[i]?.getD 0) from rfl)
      rw [HX.out] at HS
      obtain ⟨x, hx⟩ : ∃ x, x = ws[i]?.getD 0 := ⟨_, rfl⟩
      rw [← hx] at c0 hx256 HS HX
      clear hsb hx
      by_cases h11 : x ≤ 11
      · have hxI : (x : Int) ≤ 11 := by omega
        have hs1 := shN_le x h11
        have HSH := (show Hid (∀ w : World, _) from fun w => shareW_any x h11 w)
        generalize shN x = y at *
        generalize sumW ws i = si at *
        have hyI : (y : Int) ≤ 1024 := by omega
        go_wp2_with (go_at_call 45; refine (HSH.out _).mono ?_; rintro e w' ⟨rfl, rfl⟩)
        go_round
        case rel => exact ⟨i + 1, by go_num, by rw [HS.out]; go_num, by omega, fun j hj => by
          by_cases e : j = i
          · subst e; rw [HX.out]; exact h11
          · exact HA.out j (by omega)⟩
        case measure => simp [intOf]; omega
      · have hxI : ¬ (x : Int) ≤ 11 := by omega
        have hx256I : (x : Int) < 256 := by omega
        generalize sumW ws i = si at *
        go_wp2_with fail
        go_ret2
        exact ⟨.inr ⟨decide_eq_false (fun h => h11 (by have := h i hix; rwa [HX.out] at this)), rfl⟩, rfl⟩
    · obtain rfl : i = n := by omega
      have hltI : ¬ (i : Int) < (i : Int) := by omega
      clear hsb
      go_wp2
      go_ret2
      exact ⟨.inl ⟨decide_eq_true (fun j hj => HA.out j (by have := HN.out; omega)), rfl⟩, rfl⟩

end Go.Proofs.Ytkljidigmolmmaa

namespace Go.Proofs.Ytkljidigmolmmaa
open Go.RowKit Go.Shelf

theorem Bytes.here {w : World} {a : Option Addr} {cap gb off : Nat} {bs : List Nat} (h : Bytes w a cap gb off bs) {i : Nat} (hi : i < bs.length) : a = some ⟨gb, off, none⟩ := by
  rcases h.at_ with e | e
  · exact e
  · rw [e] at hi; simp at hi

theorem codeB_short {ws : List Nat} (h : ws.length < 2) : codeB ws = false := decide_eq_false (fun q => by omega)
theorem codeB_long {ws : List Nat} (h : 256 < ws.length) : codeB ws = false := decide_eq_false (fun q => by omega)
theorem codeB_last {ws : List Nat} (h : wt ws (ws.length - 1) = 0) : codeB ws = false := decide_eq_false (fun q => q.2.2.1 h)
theorem codeB_ok {ws : List Nat} (h : okW ws = false) : codeB ws = false := decide_eq_false (fun q => (of_decide_eq_false h) q.2.2.2.1)

/-- What makeCode answers. -/
def Made (ws : List Nat) (w : World) (e : Ending) (w' : World) : Prop := ∃ l : Int, e = .returned (.tuple #[.int .i64 l, .bool (codeB ws)]) ∧ (codeB ws = true → l = ((codeM ws : Nat) : Int)) ∧ w' = w
theorem made_no {ws : List Nat} {w : World} (l : Int) (h : codeB ws = false) : Made ws w (.returned (.tuple #[.int .i64 l, .bool false])) w := ⟨l, by rw [h], fun e => (by rw [h] at e; cases e), rfl⟩

set_option maxRecDepth 100000 in
set_option maxHeartbeats 2000000 in
/-- makeCode. -/
theorem makeCode_any (a : Option Addr) (cap gb off : Nat) (ws : List Nat) (w : World) (hB : Bytes w a cap gb off ws) :
    Calls Try.prog 21 #[.slice a ws.length cap] w fun e w' => Made ws w e w' := by
  have HB := (show Hid (Bytes w a cap gb off ws) from hB)
  have h48 := hB.len
  obtain ⟨n, hn⟩ : ∃ n, n = ws.length := ⟨_, rfl⟩
  have HN := (show Hid (n = ws.length) from hn)
  have hnI : (n : Int) < 281474976710656 := by omega
  rw [← hn]
  by_cases h2 : n < 2
  · have h2I : (n : Int) < 2 := by omega
    have HC := (show Hid _ from codeB_short (ws := ws) (by omega))
    clear hB hn
    go_enter Try.func21, Try.ntmps21
    go_wp2
    go_ret2
    exact made_no 0 HC.out
  · have h2I : ¬ (n : Int) < 2 := by omega
    by_cases h256 : 256 < n
    · have h256I : (256 : Int) < (n : Int) := by omega
      have HC := (show Hid _ from codeB_long (ws := ws) (by omega))
      clear hB hn
      go_enter Try.func21, Try.ntmps21
      go_wp2
      go_ret2
      exact made_no 0 HC.out
    · have h256I : ¬ (256 : Int) < (n : Int) := by omega
      obtain ⟨k, hk⟩ : ∃ k, n = k + 1 := ⟨n - 1, by omega⟩
      have hk1 : (n : Int) - 1 = (k : Int) := by omega
      have hkn : (k : Int) < (n : Int) := by omega
      obtain rfl := hB.here (i := k) (by omega)
      have c0 := hB.cells k (by omega)
      have hx256 := hB.lt k
      obtain ⟨x, hx⟩ : ∃ x, x = ws[k]?.getD 0 := ⟨_, rfl⟩
      have hlast : wt ws (ws.length - 1) = x := by unfold wt; rw [hx]; congr 2; omega
      rw [← hx] at c0 hx256
      have HS := (show Hid (∀ u : Unit, Calls Try.prog 39 _ w _) from fun _ => sumOfW_any _ cap gb off ws w hB (by omega))
      rw [← hn] at HS
      by_cases hx0 : x = 0
      · have HC := (show Hid _ from codeB_last (ws := ws) (by rw [hlast]; exact hx0))
        subst hx0
        clear hB hn hk hlast hx
        go_enter Try.func21, Try.ntmps21
        go_wp2
        go_ret2
        exact made_no 0 HC.out
      · have hxb : ((x : Int) == 0) = false := by rw [beq_eq_false_iff_ne]; omega
        have hxI : (x : Int) < 256 := by omega
        have HL := (show Hid (wt ws (ws.length - 1) ≠ 0 ∧ n = k + 1) from ⟨by rw [hlast]; exact hx0, hk⟩)
        clear hB hn hk hlast hx hx0
        go_enter Try.func21, Try.ntmps21
        cases hok : okW ws with
        | false =>
          have HC := (show Hid _ from codeB_ok (ws := ws) hok)
          have HS2 := (show Hid (Calls Try.prog 39 #[.slice (some ⟨gb, off, none⟩) n cap] w fun e w' => e = .returned (.tuple #[.int .i64 0, .bool false]) ∧ w' = w) from (HS.out ()).mono (by
            rintro e w' ⟨h, rfl⟩
            rw [hok] at h
            rcases h with ⟨h, _⟩ | ⟨_, rfl⟩
            · cases h
            · exact ⟨rfl, rfl⟩))
          clear HS hok
          go_wp2_with (go_at_call 39; refine HS2.out.mono ?_; rintro e w' ⟨rfl, rfl⟩)
          go_ret2
          exact made_no 0 HC.out
        | true =>
          have HS2 := (show Hid (Calls Try.prog 39 #[.slice (some ⟨gb, off, none⟩) n cap] w fun e w' => e = .returned (.tuple #[.int .i64 ((sumW ws ws.length : Nat) : Int), .bool true]) ∧ w' = w) from (HS.out ()).mono (by
            rintro e w' ⟨h, rfl⟩
            rw [hok] at h
            rcases h with ⟨_, rfl⟩ | ⟨h, _⟩
            · rw [HN.out]; exact ⟨rfl, rfl⟩
            · cases h))
          have HOK := (show Hid (okW ws = true) from hok)
          have hsb := sumW_le ws ws.length (of_decide_eq_true hok)
          have hs0 : 0 < sumW ws ws.length := by
            have h1 := sumN_ge (fun j => shN (wt ws j)) ws.length (ws.length - 1) (by have := HN.out; omega)
            have h2 : 0 < shN (wt ws (ws.length - 1)) := by rw [shN_pos _ HL.out.1]; exact Nat.two_pow_pos _
            unfold sumW
            omega
          have hsS : sumW ws ws.length < 16777216 := by have := HN.out; omega
          have HCB := (show Hid (codeB ws = decide (sumW ws ws.length = 2 ^ (lenN (sumW ws ws.length) - 1) ∧ lenN (sumW ws ws.length) - 1 ≤ 11 ∧ 2 ≤ onesW ws ws.length)) from by
            have hnn := HN.out
            unfold codeB
            rw [Bool.eq_iff_iff, decide_eq_true_iff, decide_eq_true_iff]
            exact ⟨fun h => h.2.2.2.2, fun h => ⟨by omega, by omega, HL.out.1, of_decide_eq_true hok, h⟩⟩)
          have HCM := (show Hid (codeB ws = true → codeM ws = lenN (sumW ws ws.length) - 1) from fun h => by unfold codeM; rw [if_pos h])
          obtain ⟨q1, q2, q3⟩ := lenN_pos (sumW ws ws.length) (by omega)
          have hl18 : lenN (sumW ws ws.length) ≤ 24 := lenN_le _ _ (by omega)
          have HLN := (show Hid (∀ w : World, _) from fun w => len_big _ hsS w)
          generalize sumW ws ws.length = S at *
          obtain ⟨L1, hL1⟩ : ∃ L1, L1 = lenN S := ⟨_, rfl⟩
          rw [← hL1] at HLN HCB HCM hl18 q3
          obtain ⟨l, hl⟩ : ∃ l, l = L1 - 1 := ⟨_, rfl⟩
          have hl1 : (L1 : Int) - 1 = (l : Int) := by omega
          rw [← hl] at HCB HCM
          have hSI : (S : Int) < 16777216 := by omega
          have hlI : (L1 : Int) ≤ 24 := by omega
          clear HS hok hsb q1 q2 q3 hl hL1
          by_cases h11 : l ≤ 11
          · have h11I : ¬ (11 : Int) < (l : Int) := by omega
            have hp : 2 ^ l ≤ 2048 := Nat.pow_le_pow_right (n := 2) (j := 11) (by omega) h11
            have hpI : wrap64 ((2 : Int) ^ l) = ((2 ^ l : Nat) : Int) := by
              have e : (2 : Int) ^ l = ((2 ^ l : Nat) : Int) := by simp
              rw [e]
              generalize 2 ^ l = y at hp
              unfold wrap64; omega
            generalize 2 ^ l = P at *
            by_cases hSP : S = P
            · subst hSP
              have hne : ((S : Int) != (S : Int)) = false := by simp
              go_wp2_with (go_at_call 39; refine HS2.out.mono ?_; rintro e w' ⟨rfl, rfl⟩)
              refine (HLN.out _).mono ?_
              rintro e w' ⟨rfl, rfl⟩
              have H11 := (show Hid _ from h11)
              clear hSI hp hs0 hsS hk1 hkn hxb h2I h256I hlI h48 hl18 hx256 hxI h11 c0 hnI
              go_wp2_with fail
              go_loop [6, 46] (fun v6 v46 => ∃ i : Nat, v46 = .int .i64 (i : Int) ∧ v6 = .int .i64 ((onesW ws i : Nat) : Int) ∧ i ≤ n) (fun _ v46 => n - (intOf v46).toNat)
              case atStart => exact ⟨0, rfl, rfl, Nat.zero_le _⟩
              case round =>
                clear hne hpI
                have h256I : (n : Int) ≤ 256 := by omega
                obtain ⟨i, rfl, rfl, hi⟩ := hrel
                have hob := onesW_le ws i
                have hoI : ((onesW ws i : Nat) : Int) ≤ 256 := by omega
                by_cases hlt : i < n
                · have hix : i < ws.length := by have := HN.out; omega
                  have c1 := HB.out.cells i hix
                  have hx256 := HB.out.lt i
                  have HO := (show Hid (onesW ws (i + 1) = onesW ws i + (if ws[i]?.getD 0 = 1 then 1 else 0)) from rfl)
                  have hltI : (i : Int) < (n : Int) := by omega
                  clear hob
                  generalize ws[i]?.getD 0 = y at *
                  generalize onesW ws i = oi at *
                  have hyI : (y : Int) < 256 := by omega
                  by_cases hy1 : y = 1
                  · have hyb : ((y : Int) == 1) = true := by simp [hy1]
                    have HY := (show Hid _ from hy1)
                    clear hy1
                    go_wp2_with fail
                    go_round
                    case rel => exact ⟨i + 1, by go_num, by rw [HO.out, if_pos HY.out]; go_num, by omega⟩
                    case measure => simp [intOf]; omega
                  · have hyb : ((y : Int) == 1) = false := by rw [beq_eq_false_iff_ne]; omega
                    go_wp2_with fail
                    go_round
                    case rel => exact ⟨i + 1, by go_num, by rw [HO.out, if_neg hy1]; go_num, by omega⟩
                    case measure => simp [intOf]; omega
                · obtain rfl : i = n := by omega
                  have hltI : ¬ (i : Int) < (i : Int) := by omega
                  have HO := (show Hid (codeB ws = decide (2 ≤ onesW ws i)) from by
                    rw [HCB.out, HN.out, Bool.eq_iff_iff, decide_eq_true_iff, decide_eq_true_iff]
                    exact ⟨fun h => h.2.2, fun h => ⟨trivial, H11.out, h⟩⟩)
                  clear hob
                  generalize onesW ws i = oi at *
                  by_cases h2o : 2 ≤ oi
                  · have h2I : (2 : Int) ≤ (oi : Int) := by omega
                    go_wp2_with fail
                    go_ret2
                    have hcb : codeB ws = true := by rw [HO.out]; exact decide_eq_true h2o
                    exact ⟨l, by rw [hcb]; rfl, fun h => by rw [HCM.out h], rfl⟩
                  · have h2I : ¬ (2 : Int) ≤ (oi : Int) := by omega
                    go_wp2_with fail
                    go_ret2
                    exact made_no l (by rw [HO.out]; exact decide_eq_false h2o)
            · have hne : ((S : Int) != (P : Int)) = true := by simp; omega
              have HC := (show Hid (codeB ws = false) from by rw [HCB.out]; exact decide_eq_false (fun h => hSP h.1))
              go_wp2_with (first | (go_at_call 39; refine HS2.out.mono ?_; rintro e w' ⟨rfl, rfl⟩) | (go_at_call 40; refine (HLN.out _).mono ?_; rintro e w' ⟨rfl, rfl⟩))
              go_ret2
              exact made_no 0 HC.out
          · have h11I : (11 : Int) < (l : Int) := by omega
            have HC := (show Hid (codeB ws = false) from by rw [HCB.out]; exact decide_eq_false (fun h => h11 h.2.1))
            go_wp2_with (first | (go_at_call 39; refine HS2.out.mono ?_; rintro e w' ⟨rfl, rfl⟩) | (go_at_call 40; refine (HLN.out _).mono ?_; rintro e w' ⟨rfl, rfl⟩))
            go_ret2
            exact made_no 0 HC.out
theorem codeM_no {ws : List Nat} (h : codeB ws = false) : codeM ws = 0 := codeM_zero.2 h

end Go.Proofs.Ytkljidigmolmmaa

namespace Go.Proofs.Ytkljidigmolmmaa
open Go.RowKit Go.Shelf
set_option linter.unusedVariables false

attribute [local go_sem] Oper.semAt_some

set_option maxHeartbeats 1000000 in
/-- words(weights, longest): two boxes, and the closure over them. -/
theorem words_in (F : Fence) (n : Nat) (h22 : F.fn 22) (hro : F.round = none) (a : Option Addr) (len cap : Nat) (m : Int) (w : World) :
    CallsIn F n Try.prog 22 #[.slice a len cap, .int .i64 m] w fun e w' => e = .returned (.func (.func 44) #[] #[.pointer (some ⟨w.heap.size + 1, 0, none⟩), .pointer (some ⟨w.heap.size, 0, none⟩)]) ∧ w' = (w.alloc (.cells #[.slice a len cap] 22)).alloc (.cells #[.int .i64 m] 3) := by
  refine callsIn_of_wp Try.func22 rfl h22 ?_ hro
  simp only [Try.ntmps22, List.size_toArray, List.length_cons, List.length_nil, Nat.reduceAdd, Nat.reduceSub, Array.replicate_succ, Array.replicate_zero, List.push_toArray, List.append_toArray, List.nil_append, List.cons_append]
  gi_wp2
  go_ret
  exact ⟨rfl, rfl⟩

/-- The boxes of a range over words, and the weights. -/
structure WBox (Bs Bm : Nat) (a : Option Addr) (cap gb off : Nat) (ws : List Nat) (m : Nat) (W : World) : Prop where
  bs : W.heap[Bs]? = some (.cells #[.slice a ws.length cap] 22 (0, 0))
  bm : W.heap[Bm]? = some (.cells #[.int .i64 (m : Int)] 3 (0, 0))
  row : Bytes W a cap gb off ws
def wordV (ws : List Nat) (m s : Nat) : Array Value := #[.int .u8 (s : Int), .agg #[.int .u64 ((wordX ws s : Nat) : Int), .int .i64 ((m + 1 - wt ws s : Nat) : Int)]]
/-- What words hands over behind the bytes pre. -/
def wordR (ws : List Nat) (m : Nat) (pre : List Nat) (vs : Array Value) (pre' : List Nat) (_ : World) : Prop := ∃ s, s < ws.length ∧ 1 ≤ wt ws s ∧ wt ws s ≤ m ∧ pre = ordTo ws (wt ws s - 1) s ∧ pre' = pre ++ [s] ∧ vs = wordV ws m s

set_option maxRecDepth 100000 in
set_option maxHeartbeats 4000000 in
/-- The closure that words makes. -/
theorem words1_in (n : Nat) (hn : 1 ≤ n) (l Bs Bm : Nat) (a : Option Addr) (cap gb off : Nat) (ws : List Nat) (m : Nat) (hc : IsCode ws m) (J : List Nat → World → Prop) (Jx : World → Prop)
    (hB : ∀ p W, J p W → WBox Bs Bm a cap gb off ws m W) (hD : ∀ p X Y, J p X → Keep noBlock X Y → J p Y)
    (hY : ∀ p vs p' V, wordR ws m p vs p' V → J p V → YieldAt Fence.wide (n - 1) Try.prog l vs V fun e W' => (e = .returned (.bool true) ∧ J p' W') ∨ (e = .returned (.bool false) ∧ Jx W')) (W : World) (h0 : J [] W) :
    CallsIn Fence.wide n Try.prog 44 #[.func (.yield l) #[] #[], .pointer (some ⟨Bm, 0, none⟩), .pointer (some ⟨Bs, 0, none⟩)] W fun e W' => (∃ v, e = .returned v) ∧ (J (ordC ws m) W' ∨ Jx W') := by
  have hb0 := hB _ _ h0
  have c1 : W.cell? ⟨Bm, 0, none⟩ = some (.int .i64 (m : Int)) := cell_of hb0.bm 0
  have hlen := hc.len
  have hm11 := hc.m11
  have HC := (show Hid (IsCode ws m) from hc)
  have HB := (show Hid (∀ p W, J p W → WBox Bs Bm a cap gb off ws m W) from hB)
  have HY := (show Hid (∀ p vs p' V, wordR ws m p vs p' V → J p V → _) from hY)
  have HD := (show Hid (∀ p X Y, J p X → Keep noBlock X Y → J p Y) from hD)
  obtain ⟨N, hN⟩ : ∃ N, N = ws.length := ⟨_, rfl⟩
  have HN := (show Hid (N = ws.length) from hN)
  rw [← hN] at hlen
  have hNI : (N : Int) ≤ 256 := by omega
  have hmI : (m : Int) ≤ 11 := by omega
  clear hB hY hb0 hc hN hD
  refine callsIn_of_wp Try.func44 rfl trivial ?_ rfl
  simp only [Try.ntmps44, List.size_toArray, List.length_cons, List.length_nil, Nat.reduceAdd, Nat.reduceSub, Array.replicate_succ, Array.replicate_zero, List.push_toArray, List.append_toArray, List.nil_append, List.cons_append]
  gi_wp2
  clear c1
  gi_loopw [4, 9] (fun v4 v9 wr => ∃ (c x : Nat), v9 = .int .i64 (c : Int) ∧ v4 = .int .i64 (x : Int) ∧ c ≤ m ∧ Hid (x = nextL ws (ordC ws c)) ∧ J (ordC ws c) wr) (fun _ v9 _ => m - (intOf v9).toNat)
  case atStart => exact ⟨0, 0, rfl, rfl, Nat.zero_le _, rfl, h0⟩
  case round =>
    clear h0
    obtain ⟨c, x, rfl, rfl, hcm, HX, hJ⟩ := hrel
    by_cases hlt : c < m
    · have hltI : (c : Int) < (m : Int) := by omega
      have hbx := HB.out _ _ hJ
      have c2 : wr.cell? ⟨Bs, 0, none⟩ = some (.slice a ws.length cap) := cell_of hbx.bs 0
      rw [← HN.out] at c2
      clear hbx
      gi_wp2_with fail
      clear c2
      gi_loopw [4, 14] (fun v4 v14 wr => ∃ (i x : Nat), v14 = .int .i64 (i : Int) ∧ v4 = .int .i64 (x : Int) ∧ i ≤ N ∧ Hid (x = nextL ws (ordTo ws c i)) ∧ J (ordTo ws c i) wr) (fun _ v14 _ => N - (intOf v14).toNat)
      case atStart => exact ⟨0, x, rfl, rfl, Nat.zero_le _, by rw [ordTo_zero]; exact HX.out, by rw [ordTo_zero]; exact hJ⟩
      case round =>
        clear hJ HX
        obtain ⟨i, x, rfl, rfl, hi, HX, hJ⟩ := hrel
        by_cases hil : i < N
        · have hix : i < ws.length := by have := HN.out; omega
          have hbx := HB.out _ _ hJ
          obtain rfl := hbx.row.here hix
          have c3 := hbx.row.cells i hix
          have hy11 := HC.out.le i hix
          have hilI : (i : Int) < (N : Int) := by omega
          have HW := (show Hid (wt ws i = ws[i]?.getD 0) from rfl)
          obtain ⟨y, hy⟩ : ∃ y, y = ws[i]?.getD 0 := ⟨_, rfl⟩
          rw [← hy] at c3 HW
          rw [HW.out] at hy11
          have hyI : (y : Int) ≤ 11 := by omega
          have c1 : wr.cell? ⟨Bm, 0, none⟩ = some (.int .i64 (m : Int)) := cell_of hbx.bm 0
          clear hbx hy
          by_cases hyc : y = c + 1
          · have hwi : wt ws i = c + 1 := by rw [HW.out]; exact hyc
            have hst : startW ws i = x := by unfold startW; rw [hwi, Nat.add_sub_cancel]; exact HX.out.symm
            obtain ⟨X, hX⟩ : ∃ X, X = wordX ws i := ⟨_, rfl⟩
            have hXx : X = x / 2 ^ c := by rw [hX]; unfold wordX; rw [hst, hwi, Nat.add_sub_cancel]
            have hXI : (x : Int) / 2 ^ c = (X : Int) := by rw [hXx]; simp
            have hxl : x + 2 ^ c ≤ 2 ^ m := by have := HC.out.start_le i hix (by omega); rw [hst, hwi, Nat.add_sub_cancel] at this; exact this
            have hp11 : 2 ^ m ≤ 2048 := Nat.pow_le_pow_right (n := 2) (j := 11) (by omega) hm11
            have hXl : X ≤ x := by rw [hXx]; exact Nat.div_le_self _ _
            have hx2 : x ≤ 2048 := Nat.le_trans (Nat.le_trans (Nat.le_add_right _ _) hxl) hp11
            obtain ⟨L, hL⟩ : ∃ L, L = m + 1 - wt ws i := ⟨_, rfl⟩
            have hLI : (m : Int) - (c : Int) = (L : Int) := by clear hxl hp11 hXI hXx; omega
            have hy2 := HY.out _ _ _ wr.drew ⟨i, hix, by omega, by omega, by rw [hwi, Nat.add_sub_cancel], rfl, rfl⟩ (HD.out _ _ _ hJ (Keep.refl _ wr).drew)
            unfold wordV at hy2
            rw [← hX, ← hL] at hy2
            rw [← ordTo_here ws c i hwi] at hy2
            obtain ⟨sh, hsh⟩ : ∃ sh, sh = shN y := ⟨_, rfl⟩
            have HSH := (show Hid (∀ w : World, Calls Try.prog 45 #[.int .u8 (y : Int)] w fun e w' => e = .returned (.int .i64 (sh : Int)) ∧ w' = w) from fun w => by rw [hsh]; exact shareW_any y hy11 w)
            have hshl : sh ≤ 1024 := by rw [hsh]; exact shN_le y hy11
            have hn2 : x + sh = nextL ws (ordTo ws c (i + 1)) := by rw [ordTo_here ws c i hwi, nextL_app, nextL_one, HW.out, hsh, HX.out]
            have HN2 := (show Hid _ from hn2)
            have hmx : Try.prog.follows .mixedOrders = true := by kernel_rfl
            have hiI : (i : Int) < 256 := by clear hxl hp11 hXI hXx; omega
            have hx2I : (x : Int) ≤ 2048 := by clear hxl hp11 hXI hXx; omega
            have hX2I : (X : Int) ≤ 2048 := by clear hxl hp11 hXI hXx; omega
            have hshI : (sh : Int) ≤ 1024 := by clear hxl hp11 hXI hXx; omega
            have hyc2 : (c : Int) + 1 = (y : Int) := by clear hxl hp11 hXI hXx; omega
            have hne : ((y : Int) != (y : Int)) = false := by simp
            have hw1 : IntKind.u8.wrap (i : Int) = (i : Int) := by clear hxl hp11 hXI hXx; rw [IntKind.wrap_u8]; omega
            have hw2 : IntKind.u64.wrap (X : Int) = (X : Int) := by clear hxl hp11 hXI hXx; rw [IntKind.wrap_u64]; omega
            have hw3 : IntKind.i64.wrap (L : Int) = (L : Int) := by clear hxl hp11 hXI hXx; rw [IntKind.wrap_i64]; omega
            clear hxl hp11 hXx hst hX hL hsh hXl hwi hyc hJ hn2
            obtain ⟨fn, tmps, assign, body, hy, hR⟩ := hy2
            have HR := (show Hid (RoundIn Fence.wide (n - 1) Try.prog l fn tmps assign body wr.drew fun e W' => ∃ b : Bool, e = .returned (.bool b) ∧ Hid ((b = true ∧ J (ordTo ws c (i + 1)) W') ∨ (b = false ∧ Jx W'))) from hR.mono (by
              rintro e W' (⟨rfl, h⟩ | ⟨rfl, h⟩)
              · exact ⟨true, rfl, .inl ⟨rfl, h⟩⟩
              · exact ⟨false, rfl, .inr ⟨rfl, h⟩⟩))
            clear hR
            gi_wp2_with fail
            refine wpIn_calm ?_
            gi_region_with_o (refine HR.out.mono ?_; rintro e W3 ⟨b, rfl, HJ3⟩)
            all_goals
              simp only [calm]
              cases b with
              | true =>
                have hJ3 : J (ordTo ws c (i + 1)) W3 := by
                  rcases HJ3.out with ⟨_, h⟩ | ⟨h, _⟩
                  · exact h
                  · cases h
                gi_wp2_with (refine ⟨trivial, ?_⟩; gi_at_call 45; refine (callsIn_wide.2 (HSH.out _)).mono ?_; rintro e w' ⟨rfl, rfl⟩)
                go_roundw
                case rel => exact ⟨i + 1, x + sh, by go_num, by go_num, by omega, HN2.out, hJ3⟩
                case measure => simp [intOf]; omega
              | false =>
                have hJ3 : Jx W3 := by
                  rcases HJ3.out with ⟨h, _⟩ | ⟨_, h⟩
                  · cases h
                  · exact h
                gi_wp2
                refine bodyPost_ret (results_none rfl _ _ _) rfl ?_
                exact ⟨⟨_, rfl⟩, .inr hJ3⟩
          · have hne : ((y : Int) != (c : Int) + 1) = true := by simp; omega
            have HJ := (show Hid (J (ordTo ws c (i + 1)) wr ∧ x = nextL ws (ordTo ws c (i + 1))) from by rw [ordTo_not ws c i (by rw [HW.out]; exact hyc)]; exact ⟨hJ, HX.out⟩)
            clear hJ hyc
            gi_wp2_with fail
            go_roundw
            case rel => exact ⟨i + 1, x, by go_num, rfl, by omega, HJ.out.2, HJ.out.1⟩
            case measure => simp [intOf]; omega
        · obtain rfl : i = N := by omega
          have hilI : ¬ (i : Int) < (i : Int) := by omega
          have HJ := (show Hid (J (ordC ws (c + 1)) wr ∧ x = nextL ws (ordC ws (c + 1))) from by rw [← ordTo_all, ← HN.out]; exact ⟨hJ, HX.out⟩)
          clear hJ
          gi_wp2_with fail
          go_roundw
          case rel => exact ⟨c + 1, x, by go_num, rfl, by omega, HJ.out.2, HJ.out.1⟩
          case measure => simp [intOf]; omega
    · obtain rfl : c = m := by omega
      have hltI : ¬ (c : Int) < (c : Int) := by omega
      gi_wp2
      go_end0
      exact ⟨⟨_, rfl⟩, .inl hJ⟩

end Go.Proofs.Ytkljidigmolmmaa

namespace Go.Proofs.Ytkljidigmolmmaa
open Go.RowKit Go.Shelf
set_option linter.unusedVariables false

attribute [local go_sem] Oper.semAt_some

set_option maxHeartbeats 1000000 in
/-- Backward(s): a box, and the closure over it. -/
theorem backward_in (F : Fence) (n : Nat) (h23 : F.fn 23) (hro : F.round = none) (a : Option Addr) (len cap : Nat) (w : World) :
    CallsIn F n Try.prog 23 #[.slice a len cap] w fun e w' => e = .returned (.func (.func 46) #[] #[.pointer (some ⟨w.heap.size, 0, none⟩)]) ∧ w' = w.alloc (.cells #[.slice a len cap] 22) := by
  refine callsIn_of_wp Try.func23 rfl h23 ?_ hro
  simp only [Try.ntmps23, List.size_toArray, List.length_cons, List.length_nil, Nat.reduceAdd, Nat.reduceSub, Array.replicate_succ, Array.replicate_zero, List.push_toArray, List.append_toArray, List.nil_append, List.cons_append]
  gi_wp2
  go_ret
  exact ⟨rfl, rfl⟩

/-- The box of a range over Backward, and the bytes. -/
structure BBox (Bs : Nat) (a : Option Addr) (cap gb off : Nat) (bs : List Nat) (W : World) : Prop where
  box : W.heap[Bs]? = some (.cells #[.slice a bs.length cap] 22 (0, 0))
  row : Bytes W a cap gb off bs
def backV (bs : List Nat) (k : Nat) : Array Value := #[.int .i64 (k : Int), .int .u8 ((bs[k]?.getD 0 : Nat) : Int)]
/-- What Backward hands over where k bytes are still to come. -/
def backR (bs : List Nat) (k : Nat) (vs : Array Value) (k' : Nat) (_ : World) : Prop := k = k' + 1 ∧ k ≤ bs.length ∧ vs = backV bs k'

set_option maxRecDepth 100000 in
set_option maxHeartbeats 4000000 in
/-- The closure that Backward makes. -/
theorem backward1_in (n : Nat) (hn : 1 ≤ n) (l Bs : Nat) (a : Option Addr) (cap gb off : Nat) (bs : List Nat) (J : Nat → World → Prop) (Jx : World → Prop)
    (hB : ∀ p W, J p W → BBox Bs a cap gb off bs W)
    (hY : ∀ p vs p' V, backR bs p vs p' V → J p V → YieldAt Fence.wide (n - 1) Try.prog l vs V fun e W' => (e = .returned (.bool true) ∧ J p' W') ∨ (e = .returned (.bool false) ∧ Jx W')) (W : World) (h0 : J bs.length W) :
    CallsIn Fence.wide n Try.prog 46 #[.func (.yield l) #[] #[], .pointer (some ⟨Bs, 0, none⟩)] W fun e W' => (∃ v, e = .returned v) ∧ (J 0 W' ∨ Jx W') := by
  have hb0 := hB _ _ h0
  have c1 : W.cell? ⟨Bs, 0, none⟩ = some (.slice a bs.length cap) := cell_of hb0.box 0
  have h48 := hb0.row.len
  have HB := (show Hid (∀ p W, J p W → BBox Bs a cap gb off bs W) from hB)
  have HY := (show Hid (∀ p vs p' V, backR bs p vs p' V → J p V → _) from hY)
  obtain ⟨N, hN⟩ : ∃ N, N = bs.length := ⟨_, rfl⟩
  have HN := (show Hid (N = bs.length) from hN)
  rw [← hN] at h48 c1 h0
  have hNI : (N : Int) < 281474976710656 := by omega
  clear hB hY hb0 hN h48
  refine callsIn_of_wp Try.func46 rfl trivial ?_ rfl
  simp only [Try.ntmps46, List.size_toArray, List.length_cons, List.length_nil, Nat.reduceAdd, Nat.reduceSub, Array.replicate_succ, Array.replicate_zero, List.push_toArray, List.append_toArray, List.nil_append, List.cons_append]
  gi_wp2
  clear c1
  gi_loopw [3] (fun v3 wr => ∃ (k : Nat), v3 = .int .i64 ((k : Int) - 1) ∧ k ≤ N ∧ J k wr) (fun v3 _ => (intOf v3 + 1).toNat)
  case atStart => exact ⟨N, rfl, Nat.le_refl _, h0⟩
  case round =>
    clear h0
    obtain ⟨k, rfl, hk, hJ⟩ := hrel
    cases k with
    | zero =>
      rw [show (((0 : Nat) : Int) - 1) = -1 from rfl]
      gi_wp2
      go_end0
      exact ⟨⟨_, rfl⟩, .inl hJ⟩
    | succ k =>
      rw [show (((k + 1 : Nat) : Int) - 1) = (k : Int) from by omega]
      have hkx : k < bs.length := by have := HN.out; omega
      have hbx := HB.out _ _ hJ
      obtain rfl := hbx.row.here hkx
      have c2 := hbx.row.cells k hkx
      have hx256 := hbx.row.lt k
      have c1 : wr.cell? ⟨Bs, 0, none⟩ = some (.slice (some ⟨gb, off, none⟩) bs.length cap) := cell_of hbx.box 0
      rw [← HN.out] at c1
      have hy2 := HY.out _ _ _ wr ⟨rfl, hkx, rfl⟩ hJ
      unfold backV at hy2
      generalize bs[k]?.getD 0 = x at *
      obtain ⟨fn, tmps, assign, body, hy, hR⟩ := hy2
      have hkI : (k : Int) < (N : Int) := by omega
      clear hbx hJ
      gi_wp2
      refine hR.mono ?_
      rintro e W3 (⟨rfl, hJ3⟩ | ⟨rfl, hJx3⟩)
      · gi_wp2
        go_roundw
        case rel => exact ⟨k, rfl, by omega, hJ3⟩
        case measure => simp [intOf]
      · gi_wp2
        refine bodyPost_ret (results_none rfl _ _ _) rfl ?_
        exact ⟨⟨_, rfl⟩, .inr hJx3⟩

end Go.Proofs.Ytkljidigmolmmaa

namespace Go.Proofs.Ytkljidigmolmmaa
open Go.RowKit Go.Shelf
set_option linter.unusedVariables false

theorem results_cell2 {fn : Func} {a b : Tmp} {t u : TypeId} (h : fn.results = #[.cell a t, .cell b u]) (tmps : Array Value) (P : Program) (w : World) (p q : Addr) (v x : Value) (ha : tmps[a]?.getD undef = .pointer (some p)) (hb : tmps[b]?.getD undef = .pointer (some q)) (hv : (loadVar t p).run P w = .ok v w) (hx : (loadVar u q).run P w = .ok x w) :
    (results fn tmps).run P w = .ok (.tuple #[v, x]) w := by
  simp [results, h, ha, hb, asAddr, hv, hx]
theorem agg22 : ∀ w, (isAgg 22).run Try.prog w = .ok false w := by intro w; kernel_rfl
theorem loadVar22 {w : World} {p : Addr} {v : Value} (h : w.cell? p = some v) : (loadVar 22 p).run Try.prog w = .ok v w := by
  simp only [loadVar, Sem.run_bind, agg22, Result.andThen]
  simp [run_load, h]
theorem agg23 : ∀ w, (isAgg 23).run Try.prog w = .ok false w := by intro w; kernel_rfl
theorem loadVar23 {w : World} {p : Addr} {v : Value} (h : w.cell? p = some v) : (loadVar 23 p).run Try.prog w = .ok v w := by
  simp only [loadVar, Sem.run_bind, agg23, Result.andThen]
  simp [run_load, h]

def zeros44 : Array Value := (List.replicate 256 [Value.int .u64 0, Value.int .i64 0]).flatten.toArray
theorem zero44 : Try.zeroCells44 = zeros44 := by kernel_rfl

/-- Block b is the array of words. -/
structure OfA (w : World) (b : Nat) (X N : Nat → Nat) : Prop where
  obj : ∃ cs, w.heap[b]? = some (.cells cs 44 (0, 0)) ∧ cs.size = 512 ∧ ∀ i, i < 256 → cs[i * 2]? = some (.int .u64 ((X i : Nat) : Int)) ∧ cs[i * 2 + 1]? = some (.int .i64 ((N i : Nat) : Int))
theorem OfA.cells {w : World} {b : Nat} {X N : Nat → Nat} (h : OfA w b X N) (i : Nat) (hi : i < 256) :
    w.cell? ⟨b, i * 2, none⟩ = some (.int .u64 ((X i : Nat) : Int)) ∧ w.cell? ⟨b, i * 2 + 1, none⟩ = some (.int .i64 ((N i : Nat) : Int)) := by
  obtain ⟨cs, h1, _, h3⟩ := h.obj
  rw [cell_of h1, cell_of h1]
  exact h3 i hi
theorem OfA.frozen {w : World} {b : Nat} {X N : Nat → Nat} (h : OfA w b X N) (i : Nat) : w.frozen? ⟨b, i, none⟩ = false := by
  obtain ⟨cs, h1, _⟩ := h.obj
  exact frozen_of h1 i
theorem OfA.lt {w : World} {b : Nat} {X N : Nat → Nat} (h : OfA w b X N) : b < w.heap.size := by
  obtain ⟨cs, h1, _⟩ := h.obj
  exact obj_lt h1
theorem OfA.keep {w w' : World} {S : Nat → Prop} {b : Nat} {X N : Nat → Nat} (h : OfA w b X N) (hk : Keep S w w') (hS : ¬ S b) : OfA w' b X N := by
  obtain ⟨cs, h1, h2⟩ := h.obj
  exact ⟨cs, hk.obj h1 hS, h2⟩
theorem OfA.keepN {w w' : World} {B : Nat} {b : Nat} {X N : Nat → Nat} (h : OfA w b X N) (hk : KeepN B w w') : OfA w' b X N := by
  obtain ⟨cs, h1, h2⟩ := h.obj
  exact ⟨cs, hk.obj h1, h2⟩
theorem OfA.congr {w : World} {b : Nat} {X N X' N' : Nat → Nat} (h : OfA w b X N) (h1 : ∀ i, i < 256 → X i = X' i) (h2 : ∀ i, i < 256 → N i = N' i) : OfA w b X' N' := by
  obtain ⟨cs, a1, a2, a3⟩ := h.obj
  refine ⟨cs, a1, a2, fun i hi => ?_⟩
  rw [← h1 i hi, ← h2 i hi]
  exact a3 i hi
theorem OfA.set {w : World} {b : Nat} {X N : Nat → Nat} (h : OfA w b X N) (i x n : Nat) : OfA ((w.setCell ⟨b, i * 2, none⟩ (.int .u64 (x : Int))).setCell ⟨b, i * 2 + 1, none⟩ (.int .i64 (n : Int))) b (fun j => if j = i then x else X j) (fun j => if j = i then n else N j) := by
  obtain ⟨cs, h1, h2, h3⟩ := h.obj
  refine ⟨_, set_obj (set_obj h1 _ _) _ _, by rw [Array.size_setIfInBounds, Array.size_setIfInBounds, h2], fun j hj => ?_⟩
  rw [Array.getElem?_setIfInBounds, Array.getElem?_setIfInBounds, Array.getElem?_setIfInBounds, Array.getElem?_setIfInBounds, Array.size_setIfInBounds, if_neg (show ¬ i * 2 + 1 = j * 2 by omega), if_neg (show ¬ i * 2 = j * 2 + 1 by omega)]
  by_cases e : i = j
  · subst e
    simp only [if_true]
    rw [if_pos (by omega), if_pos (by omega)]
    exact ⟨rfl, rfl⟩
  · have e1 : ¬ i * 2 = j * 2 := by omega
    have e2 : ¬ i * 2 + 1 = j * 2 + 1 := by omega
    have e3 : ¬ j = i := fun h => e h.symm
    simp only [if_neg e1, if_neg e2, if_neg e3]
    exact h3 j hj
theorem flat2 (n : Nat) (a b : Value) : ((List.replicate n [a, b]).flatten).length = 2 * n ∧ ∀ i, i < n → ((List.replicate n [a, b]).flatten)[i * 2]? = some a ∧ ((List.replicate n [a, b]).flatten)[i * 2 + 1]? = some b := by
  induction n with
  | zero => exact ⟨rfl, fun i hi => by omega⟩
  | succ n ih =>
    rw [List.replicate_succ, List.flatten_cons]
    refine ⟨by rw [List.length_append, ih.1]; simp; omega, fun i hi => ?_⟩
    cases i with
    | zero => exact ⟨rfl, rfl⟩
    | succ i =>
      obtain ⟨a1, a2⟩ := ih.2 i (by omega)
      refine ⟨?_, ?_⟩
      · rw [List.getElem?_append_right (by simp; omega)]; simpa [Nat.succ_mul] using a1
      · rw [List.getElem?_append_right (by simp; omega)]
        have e : (i + 1) * 2 + 1 - [a, b].length = i * 2 + 1 := by simp; omega
        rw [e]; exact a2
theorem ofA_zeros (w : World) : OfA (w.alloc (.cells Try.zeroCells44 44)) w.heap.size (fun _ => 0) (fun _ => 0) := by
  obtain ⟨h1, h2⟩ := flat2 256 (Value.int .u64 0) (Value.int .i64 0)
  rw [zero44]
  refine ⟨_, World.alloc_heap_new w _, by unfold zeros44; rw [List.size_toArray]; exact h1, fun i hi => ?_⟩
  unfold zeros44
  simp only [List.getElem?_toArray]
  exact h2 i hi

/-- The words of those bytes that were met. -/
def ofX (ws pre : List Nat) (s : Nat) : Nat := if s ∈ pre then wordX ws s else 0
def ofN (ws : List Nat) (m : Nat) (pre : List Nat) (s : Nat) : Nat := if s ∈ pre then m + 1 - wt ws s else 0
theorem ofX_snoc (ws pre : List Nat) (s i : Nat) : (if i = s then wordX ws s else ofX ws pre i) = ofX ws (pre ++ [s]) i := by
  unfold ofX
  by_cases h : i = s
  · subst h; simp
  · simp [h]
theorem ofN_snoc (ws : List Nat) (m : Nat) (pre : List Nat) (s i : Nat) : (if i = s then m + 1 - wt ws s else ofN ws m pre i) = ofN ws m (pre ++ [s]) i := by
  unfold ofN
  by_cases h : i = s
  · subst h; simp
  · simp [h]
theorem wt_far (ws : List Nat) (i : Nat) (h : ws.length ≤ i) : wt ws i = 0 := by unfold wt; rw [List.getElem?_eq_none h]; rfl
theorem IsCode.mem {ws : List Nat} {m : Nat} (h : IsCode ws m) (s : Nat) : s ∈ ordC ws m ↔ wt ws s ≠ 0 := by
  rw [mem_ordC]
  constructor
  · rintro ⟨_, h2, _⟩; omega
  · intro h0
    have hs : s < ws.length := by
      by_cases e : s < ws.length
      · exact e
      · exact absurd (wt_far ws s (by omega)) h0
    exact ⟨hs, by omega, h.wt_le s hs⟩
theorem IsCode.ofX {ws : List Nat} {m : Nat} (h : IsCode ws m) (s : Nat) : ofX ws (ordC ws m) s = if wt ws s = 0 then 0 else wordX ws s := by
  unfold Ytkljidigmolmmaa.ofX
  by_cases e : wt ws s = 0
  · rw [if_pos e, if_neg (fun q => ((h.mem s).1 q) e)]
  · rw [if_neg e, if_pos ((h.mem s).2 e)]
theorem IsCode.ofN {ws : List Nat} {m : Nat} (h : IsCode ws m) (s : Nat) : ofN ws m (ordC ws m) s = if wt ws s = 0 then 0 else m + 1 - wt ws s := by
  unfold Ytkljidigmolmmaa.ofN
  by_cases e : wt ws s = 0
  · rw [if_pos e, if_neg (fun q => ((h.mem s).1 q) e)]
  · rw [if_neg e, if_pos ((h.mem s).2 e)]
theorem IsCode.wt_in {ws : List Nat} {m : Nat} (h : IsCode ws m) (s : Nat) (h0 : wt ws s ≠ 0) : s < ws.length ∧ wt ws s ≤ m := by
  have := (mem_ordC ws m s).1 ((h.mem s).2 h0)
  exact ⟨this.1, this.2.2⟩

/-- The bits that are put for bytes, the last byte's first. -/
def packL (ws : List Nat) (m : Nat) : List Nat → List (Fin 2)
  | [] => []
  | b :: l => packL ws m l ++ low (wordX ws b) (m + 1 - wt ws b)
theorem packL_drop (ws : List Nat) (m : Nat) (bs : List Nat) (k : Nat) (hk : k < bs.length) : packL ws m (bs.drop k) = packL ws m (bs.drop (k + 1)) ++ low (wordX ws (bs[k]?.getD 0)) (m + 1 - wt ws (bs[k]?.getD 0)) := by
  rw [List.drop_eq_getElem_cons hk, List.getElem?_eq_getElem hk]; rfl
theorem packL_len (ws : List Nat) (m : Nat) (bs : List Nat) : (packL ws m bs).length ≤ (m + 1) * bs.length := by
  induction bs with
  | nil => simp [packL]
  | cons b l ih =>
    rw [packL, List.length_append, low_length, List.length_cons, Nat.mul_succ]
    omega
/-- Each byte has a word. -/
def packOk (ws bs : List Nat) : Bool := decide (∀ b ∈ bs, wt ws b ≠ 0)

end Go.Proofs.Ytkljidigmolmmaa

namespace Go.Proofs.Ytkljidigmolmmaa
open Go.RowKit Go.Shelf
set_option linter.unusedVariables false

def ok2 : Nat → List Value → Bool
  | 0, [] => true
  | n + 1, a :: b :: r => isZ .u8 a && (isZ .u8 b && ok2 n r)
  | _, _ => false
theorem ok2_eq : ∀ (n : Nat) (l : List Value), ok2 n l = true → l = (List.replicate n [Value.int .u8 0, Value.int .u8 0]).flatten
  | 0, [], _ => rfl
  | 0, _ :: _, h => by simp [ok2] at h
  | n + 1, [], h => by simp [ok2] at h
  | n + 1, [_], h => by simp [ok2] at h
  | n + 1, a :: b :: r, h => by
    simp only [ok2, Bool.and_eq_true] at h
    rw [isZ_eq h.1, isZ_eq h.2.1, ok2_eq n r h.2.2, List.replicate_succ, List.flatten_cons]
    rfl
theorem chk105 : ok2 2048 Try.zeroCells105.toList = true := by kernel_rfl
theorem zero105 : Try.zeroCells105 = ((List.replicate 2048 [Value.int .u8 0, Value.int .u8 0]).flatten).toArray := by
  apply Array.ext'
  rw [List.toList_toArray]
  exact ok2_eq _ _ chk105

/-- Block b is the array of cells: symbols and lengths. -/
structure CelA (w : World) (b : Nat) (S N : Nat → Nat) : Prop where
  obj : ∃ cs, w.heap[b]? = some (.cells cs 105 (0, 0)) ∧ cs.size = 4096 ∧ ∀ i, i < 2048 → cs[i * 2]? = some (.int .u8 ((S i : Nat) : Int)) ∧ cs[i * 2 + 1]? = some (.int .u8 ((N i : Nat) : Int))
theorem CelA.cells {w : World} {b : Nat} {S N : Nat → Nat} (h : CelA w b S N) (i : Nat) (hi : i < 2048) :
    w.cell? ⟨b, i * 2, none⟩ = some (.int .u8 ((S i : Nat) : Int)) ∧ w.cell? ⟨b, i * 2 + 1, none⟩ = some (.int .u8 ((N i : Nat) : Int)) := by
  obtain ⟨cs, h1, _, h3⟩ := h.obj
  rw [cell_of h1, cell_of h1]
  exact h3 i hi
theorem CelA.frozen {w : World} {b : Nat} {S N : Nat → Nat} (h : CelA w b S N) (i : Nat) : w.frozen? ⟨b, i, none⟩ = false := by
  obtain ⟨cs, h1, _⟩ := h.obj
  exact frozen_of h1 i
theorem CelA.lt {w : World} {b : Nat} {S N : Nat → Nat} (h : CelA w b S N) : b < w.heap.size := by
  obtain ⟨cs, h1, _⟩ := h.obj
  exact obj_lt h1
theorem CelA.keep {w w' : World} {T : Nat → Prop} {b : Nat} {S N : Nat → Nat} (h : CelA w b S N) (hk : Keep T w w') (hS : ¬ T b) : CelA w' b S N := by
  obtain ⟨cs, h1, h2⟩ := h.obj
  exact ⟨cs, hk.obj h1 hS, h2⟩
theorem CelA.keepN {w w' : World} {B : Nat} {b : Nat} {S N : Nat → Nat} (h : CelA w b S N) (hk : KeepN B w w') : CelA w' b S N := by
  obtain ⟨cs, h1, h2⟩ := h.obj
  exact ⟨cs, hk.obj h1, h2⟩
theorem CelA.congr {w : World} {b : Nat} {S N S' N' : Nat → Nat} (h : CelA w b S N) (h1 : ∀ i, i < 2048 → S i = S' i) (h2 : ∀ i, i < 2048 → N i = N' i) : CelA w b S' N' := by
  obtain ⟨cs, a1, a2, a3⟩ := h.obj
  refine ⟨cs, a1, a2, fun i hi => ?_⟩
  rw [← h1 i hi, ← h2 i hi]
  exact a3 i hi
theorem CelA.set {w : World} {b : Nat} {S N : Nat → Nat} (h : CelA w b S N) (i x n : Nat) : CelA ((w.setCell ⟨b, i * 2, none⟩ (.int .u8 (x : Int))).setCell ⟨b, i * 2 + 1, none⟩ (.int .u8 (n : Int))) b (fun j => if j = i then x else S j) (fun j => if j = i then n else N j) := by
  obtain ⟨cs, h1, h2, h3⟩ := h.obj
  refine ⟨_, set_obj (set_obj h1 _ _) _ _, by rw [Array.size_setIfInBounds, Array.size_setIfInBounds, h2], fun j hj => ?_⟩
  rw [Array.getElem?_setIfInBounds, Array.getElem?_setIfInBounds, Array.getElem?_setIfInBounds, Array.getElem?_setIfInBounds, Array.size_setIfInBounds, if_neg (show ¬ i * 2 + 1 = j * 2 by omega), if_neg (show ¬ i * 2 = j * 2 + 1 by omega)]
  by_cases e : i = j
  · subst e
    simp only [if_true]
    rw [if_pos (by omega), if_pos (by omega)]
    exact ⟨rfl, rfl⟩
  · have e1 : ¬ i * 2 = j * 2 := by omega
    have e2 : ¬ i * 2 + 1 = j * 2 + 1 := by omega
    have e3 : ¬ j = i := fun h => e h.symm
    simp only [if_neg e1, if_neg e2, if_neg e3]
    exact h3 j hj
theorem celA_zeros (w : World) : CelA (w.alloc (.cells Try.zeroCells105 105)) w.heap.size (fun _ => 0) (fun _ => 0) := by
  obtain ⟨h1, h2⟩ := flat2 2048 (Value.int .u8 0) (Value.int .u8 0)
  rw [zero105]
  refine ⟨_, World.alloc_heap_new w _, by rw [List.size_toArray]; exact h1, fun i hi => ?_⟩
  simp only [List.getElem?_toArray]
  exact h2 i hi
theorem agg105 : ∀ w, (isAgg 105).run Try.prog w = .ok true w := by intro w; kernel_rfl
theorem size105 : ∀ w, (Go.sizeOf 105).run Try.prog w = .ok 4096 w := by intro w; kernel_rfl
theorem info105 : (Try.prog.info? 105).map (·.size) = some 4096 := by kernel_rfl
theorem cells_one {cs : Array Value} {S N : Nat → Nat} (h1 : cs.size = 4096) (h2 : ∀ i, i < 2048 → cs[i * 2]? = some (.int .u8 ((S i : Nat) : Int)) ∧ cs[i * 2 + 1]? = some (.int .u8 ((N i : Nat) : Int))) : cs.all (·.oneCell') = true := by
  rw [Array.all_eq_true]
  intro i hi
  obtain ⟨a1, a2⟩ := h2 (i / 2) (by omega)
  by_cases e : i % 2 = 0
  · rw [show i / 2 * 2 = i from by omega, Array.getElem?_eq_getElem hi] at a1
    rw [Option.some.inj a1]; rfl
  · rw [show i / 2 * 2 + 1 = i from by omega, Array.getElem?_eq_getElem hi] at a2
    rw [Option.some.inj a2]; rfl
/-- The whole array is read. -/
theorem load105 {w : World} {b : Nat} {cs : Array Value} (h : w.heap[b]? = some (.cells cs 105 (0, 0))) (h1 : cs.size = 4096) : (loadCellsFrom ⟨b, 0, none⟩ 0 4096 #[]).run Try.prog w = .ok cs w := by
  have := run_loadCells_list (P := Try.prog) w ⟨b, 0, none⟩ cs.toList (fun j v hv => by
    rw [add0, cell_of h]
    simpa using hv)
  rw [Array.length_toList, h1] at this
  simpa [loadCells] using this
/-- It is laid over an array. -/
theorem store105 {w : World} {b : Nat} {old cs : Array Value} (h : w.heap[b]? = some (.cells old 105 (0, 0))) (h0 : old.size = 4096) (h1 : cs.size = 4096) (h2 : cs.all (·.oneCell') = true) : (storeCells ⟨b, 0, none⟩ cs.toList 0).run Try.prog w = .ok () (w.setRow b cs) := by
  have := run_storeVar_row (P := Try.prog) w b 105 105 old cs h (by rw [h1]; exact info105) (by omega) h2
  obtain ⟨i, hi⟩ : ∃ i, Try.prog.info? 105 = some i := by
    cases hq : Try.prog.info? 105 with
    | none => have := info105; rw [hq] at this; cases this
    | some i => exact ⟨i, rfl⟩
  have hs : i.size = 4096 := by have := info105; rw [hi] at this; simpa using this
  simpa [storeVar, Go.sizeOf, typeInfo, hi, Value.cells, hs, h1] using this

/-- The cells of the numbers l, one behind the other. -/
def tS (l : List Nat) (x : Nat) : Nat := l[x]?.getD 0
def tN (ws : List Nat) (m : Nat) (l : List Nat) (x : Nat) : Nat := if x < l.length then m + 1 - wt ws (l[x]?.getD 0) else 0
theorem tS_snoc (l : List Nat) (s x : Nat) : (if x = l.length then s else tS l x) = tS (l ++ [s]) x := by
  unfold tS
  by_cases h : x = l.length
  · subst h; simp
  · rw [if_neg h]
    by_cases h2 : x < l.length
    · rw [List.getElem?_append_left h2]
    · rw [List.getElem?_eq_none (by omega), List.getElem?_eq_none (by simp; omega)]
theorem tN_snoc (ws : List Nat) (m : Nat) (l : List Nat) (s x : Nat) : (if x = l.length then m + 1 - wt ws s else tN ws m l x) = tN ws m (l ++ [s]) x := by
  unfold tN
  by_cases h : x = l.length
  · subst h; simp
  · rw [if_neg h]
    by_cases h2 : x < l.length
    · rw [if_pos h2, if_pos (by simp; omega), List.getElem?_append_left h2]
    · rw [if_neg h2, if_neg (by simp; omega)]
theorem rep_snoc (j s : Nat) (l : List Nat) : l ++ List.replicate (j + 1) s = (l ++ List.replicate j s) ++ [s] := by
  rw [List.replicate_succ', List.append_assoc]

end Go.Proofs.Ytkljidigmolmmaa
