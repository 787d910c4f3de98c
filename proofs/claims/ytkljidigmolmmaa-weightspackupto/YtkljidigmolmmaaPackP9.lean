/-
  The document's Bits.
  setNext: each state is given its Bits and its Base.
  Table of counts: the cells of all states, or ErrCounts.
  The document's parts, width and Right.
-/
import Derived.Test.YtkljidigmolmmaaPackP8
namespace Go.Proofs.Ytkljidigmolmmaa
open Go.RowKit Go.Shelf

set_option maxRecDepth 100000 in
set_option maxHeartbeats 4000000 in
/-- The document's Bits. -/
theorem bitsD_any (a : Option Addr) (cap gb off : Nat) (ws : List Nat) (w : World) (hB : Bytes w a cap gb off ws) :
    Calls Try.prog 15 #[.slice a ws.length cap] w fun e w' => e = .returned (.int .i64 ((codeM ws : Nat) : Int)) ∧ w' = w := by
  have HB := (show Hid (Bytes w a cap gb off ws) from hB)
  have h48 := hB.len
  obtain ⟨n, hn⟩ : ∃ n, n = ws.length := ⟨_, rfl⟩
  have HN := (show Hid (n = ws.length) from hn)
  have hnI : (n : Int) < 281474976710656 := by omega
  rw [← hn]
  by_cases h2 : n < 2
  · have h2I : (n : Int) < 2 := by omega
    rw [codeM_no (codeB_short (by omega))]
    clear hB hn h48
    go_enter Try.func15, Try.ntmps15
    go_wp2
    go_ret
    exact ⟨rfl, rfl⟩
  · have h2I : ¬ (n : Int) < 2 := by omega
    by_cases h256 : 256 < n
    · have h256I : (256 : Int) < (n : Int) := by omega
      rw [codeM_no (codeB_long (by omega))]
      clear hB hn h48
      go_enter Try.func15, Try.ntmps15
      go_wp2
      go_ret
      exact ⟨rfl, rfl⟩
    · have h256I : ¬ (256 : Int) < (n : Int) := by omega
      obtain ⟨k, hk⟩ : ∃ k, n = k + 1 := ⟨n - 1, by omega⟩
      have hk1 : (n : Int) - 1 = (k : Int) := by omega
      have hkn : (k : Int) < (n : Int) := by omega
      obtain rfl := hB.here (i := k) (by omega)
      have c0 := hB.cells k (by omega)
      have hx256 := hB.lt k
      obtain ⟨x, hx⟩ : ∃ x, x = ws[k]?.getD 0 := ⟨_, rfl⟩
      have hlast : wt ws (ws.length - 1) = x := by unfold wt; rw [hx]; congr 2; omega
      rw [← hx] at c0 hx256
      by_cases hx0 : x = 0
      · rw [codeM_no (codeB_last (by rw [hlast]; exact hx0))]
        subst hx0
        clear hB hn hk hlast hx h48
        go_enter Try.func15, Try.ntmps15
        go_wp2
        go_ret
        exact ⟨rfl, rfl⟩
      · have hxb : ((x : Int) == 0) = false := by rw [beq_eq_false_iff_ne]; omega
        have hxI : (x : Int) < 256 := by omega
        have HL := (show Hid (wt ws (ws.length - 1) ≠ 0 ∧ n = k + 1) from ⟨by rw [hlast]; exact hx0, hk⟩)
        clear hB hn hk hlast hx hx0
        go_enter Try.func15, Try.ntmps15
        go_wp2
        clear c0 hk1 hkn hxb hxI hx256 h48 hnI
        go_loop [3, 4, 5] (fun v3 v4 v5 => ∃ i : Nat, v5 = .int .i64 (i : Int) ∧ v3 = .int .i64 ((sumW ws i : Nat) : Int) ∧ v4 = .int .i64 ((onesW ws i : Nat) : Int) ∧ i ≤ n ∧ Hid (∀ j, j < i → wt ws j ≤ 11)) (fun _ _ v5 => n - (intOf v5).toNat)
        case atStart => exact ⟨0, rfl, rfl, rfl, Nat.zero_le _, fun j hj => by omega⟩
        case round =>
          obtain ⟨i, rfl, rfl, rfl, hi, HA⟩ := hrel
          have hsb := sumW_le ws i HA.out
          have hsI : ((sumW ws i : Nat) : Int) ≤ 262144 := by omega
          have hob := onesW_le ws i
          have hoI : ((onesW ws i : Nat) : Int) ≤ 256 := by omega
          by_cases hlt : i < n
          · have hix : i < ws.length := by have := HN.out; omega
            have c1 := HB.out.cells i hix
            have hx256 := HB.out.lt i
            have HX := (show Hid (wt ws i = ws[i]?.getD 0 ∧ sumW ws (i + 1) = sumW ws i + shN (ws[i]?.getD 0) ∧ onesW ws (i + 1) = onesW ws i + (if ws[i]?.getD 0 = 1 then 1 else 0)) from ⟨rfl, rfl, rfl⟩)
            have hltI : (i : Int) < (n : Int) := by omega
            clear hsb hob
            generalize ws[i]?.getD 0 = y at *
            generalize sumW ws i = si at *
            generalize onesW ws i = oi at *
            by_cases h11 : y ≤ 11
            · have hyI : ¬ (11 : Int) < (y : Int) := by omega
              by_cases hy0 : y = 0
              · subst hy0
                have hyb : (((0 : Nat) : Int) == 1) = false := by decide
                go_wp2_with fail
                go_round
                case rel => exact ⟨i + 1, by go_num, by rw [HX.out.2.1]; rfl, by rw [HX.out.2.2]; rfl, by omega, fun j hj => by
                  by_cases e : j = i
                  · subst e; rw [HX.out.1]; exact h11
                  · exact HA.out j (by omega)⟩
                case measure => simp [intOf]; omega
              · obtain ⟨q, hq⟩ : ∃ q, y = q + 1 := ⟨y - 1, by omega⟩
                have hy0I : (0 : Int) < (y : Int) := by omega
                have hqI : (y : Int) - 1 = (q : Int) := by omega
                have hq10 : (q : Int) ≤ 10 := by omega
                have hsh : shN y = 2 ^ q := by rw [hq]; rfl
                have hp : 2 ^ q ≤ 1024 := Nat.pow_le_pow_right (n := 2) (j := 10) (by omega) (by omega)
                obtain ⟨P, hP⟩ : ∃ P, P = shN y := ⟨_, rfl⟩
                have hPl : P ≤ 1024 := hP ▸ shN_le y h11
                have hPI : (P : Int) ≤ 1024 := by clear hp hsh hP hq; omega
                have hSP : IntKind.i64.wrap ((si : Int) + (P : Int)) = ((si + P : Nat) : Int) := by clear hp hsh hP hq hPI; rw [IntKind.wrap_i64]; omega
                have hpI : wrap64 ((2 : Int) ^ q) = (P : Int) := by
                  have e : (2 : Int) ^ q = ((2 ^ q : Nat) : Int) := by simp
                  rw [e, hP, hsh]
                  generalize 2 ^ q = z at hp
                  unfold wrap64; omega
                rw [← hP] at HX
                have HP := (show Hid _ from hpI)
                have HQ := (show Hid _ from hq)
                clear hp hsh hP hq hPl
                have hyI2 : (y : Int) < 256 := by omega
                by_cases hy1 : y = 1
                · have hyb : ((y : Int) == 1) = true := by simp [hy1]
                  have HY := (show Hid _ from hy1)
                  clear hy1 hy0
                  go_wp2_with fail
                  go_round
                  case rel => exact ⟨i + 1, by go_num, by rw [HX.out.2.1]; go_num, by rw [HX.out.2.2, if_pos HY.out]; go_num, by omega, fun j hj => by
                    by_cases e : j = i
                    · subst e; rw [HX.out.1]; exact h11
                    · exact HA.out j (by omega)⟩
                  case measure => simp [intOf]; omega
                · have hyb : ((y : Int) == 1) = false := by rw [beq_eq_false_iff_ne]; omega
                  go_wp2_with fail
                  go_round
                  case rel => exact ⟨i + 1, by go_num, by rw [HX.out.2.1]; go_num, by rw [HX.out.2.2, if_neg hy1]; rfl, by omega, fun j hj => by
                    by_cases e : j = i
                    · subst e; rw [HX.out.1]; exact h11
                    · exact HA.out j (by omega)⟩
                  case measure => simp [intOf]; omega
            · have hyI : (11 : Int) < (y : Int) := by omega
              have hyI2 : (y : Int) < 256 := by omega
              have HC := (show Hid (codeM ws = 0) from codeM_no (codeB_ok (decide_eq_false (fun h => h11 (by have := h i hix; rwa [HX.out.1] at this)))))
              go_wp2_with fail
              go_ret
              exact ⟨by rw [HC.out]; rfl, rfl⟩
          · obtain rfl : i = n := by omega
            have hltI : ¬ (i : Int) < (i : Int) := by omega
            have HCB := (show Hid (codeB ws = decide (sumW ws i = 2 ^ (lenN (sumW ws i) - 1) ∧ lenN (sumW ws i) - 1 ≤ 11 ∧ 2 ≤ onesW ws i)) from by
              have hnn := HN.out
              unfold codeB
              rw [Bool.eq_iff_iff, decide_eq_true_iff, decide_eq_true_iff, ← hnn]
              exact ⟨fun h => h.2.2.2.2, fun h => ⟨by omega, by omega, by rw [hnn]; exact HL.out.1, HA.out, h⟩⟩)
            have HS1 := (show Hid (2 ≤ onesW ws i → sumW ws i ≠ 1) from fun h e => by have := ones_le_sum ws i; omega)
            have HCM := (show Hid (codeM ws = if codeB ws then lenN (sumW ws i) - 1 else 0) from by rw [HN.out]; rfl)
            clear hsb hob
            generalize sumW ws i = S at *
            generalize onesW ws i = oi at *
            go_wp2_with fail
            go_loop [6] (fun v6 => ∃ m : Nat, v6 = .int .i64 (m : Int) ∧ 1 ≤ m ∧ m ≤ 12 ∧ Hid (∀ j, 1 ≤ j → j < m → ¬ (S = 2 ^ j ∧ 2 ≤ oi))) (fun v6 => 12 - (intOf v6).toNat)
            case atStart => exact ⟨1, rfl, by omega, by omega, fun j h1 h2 => by omega⟩
            case round =>
              obtain ⟨m, rfl, hm1, hm12, HJ⟩ := hrel
              by_cases hm : m ≤ 11
              · have hmI : (m : Int) ≤ 11 := by omega
                obtain ⟨P, hP⟩ : ∃ P, P = 2 ^ m := ⟨_, rfl⟩
                have hPl : P ≤ 2048 := hP ▸ Nat.pow_le_pow_right (n := 2) (j := 11) (by omega) hm
                have HP := (show Hid (P = 2 ^ m) from hP)
                have hpI : wrap64 ((2 : Int) ^ m) = (P : Int) := by
                  have e : (2 : Int) ^ m = (P : Int) := by rw [hP]; simp
                  rw [e]
                  clear hP e
                  unfold wrap64; omega
                clear hP
                by_cases hSP : S = P
                · have HSP := (show Hid _ from hSP)
                  by_cases ho : 2 ≤ oi
                  · have hoI2 : (2 : Int) ≤ (oi : Int) := by omega
                    subst hSP
                    have hb : ((S : Int) == (S : Int)) = true := by simp
                    have HR := (show Hid (codeM ws = m) from by
                      have e1 : lenN S = m + 1 := by rw [HP.out]; exact lenN_pow m
                      have e2 : codeB ws = true := by
                        rw [HCB.out, e1]
                        exact decide_eq_true ⟨HP.out, hm, ho⟩
                      rw [HCM.out, if_pos e2, e1]; rfl)
                    clear hPl hsI
                    go_wp2_with fail
                    go_ret
                    exact ⟨by rw [HR.out]; rfl, rfl⟩
                  · have hoI2 : ¬ (2 : Int) ≤ (oi : Int) := by omega
                    subst hSP
                    have hb : ((S : Int) == (S : Int)) = true := by simp
                    clear hPl hsI
                    go_wp2_with fail
                    go_round
                    case rel => exact ⟨m + 1, by go_num, by omega, by omega, fun j h1 h2 h => ho h.2⟩
                    case measure => simp [intOf]; omega
                · have hb : ((S : Int) == (P : Int)) = false := by rw [beq_eq_false_iff_ne]; omega
                  have HNE := (show Hid _ from hSP)
                  clear hPl hsI hSP
                  go_wp2_with fail
                  go_round
                  case rel => exact ⟨m + 1, by go_num, by omega, by omega, fun j h1 h2 h => by
                    by_cases e : j = m
                    · subst e; exact HNE.out (by rw [HP.out]; exact h.1)
                    · exact HJ.out j h1 (by omega) h⟩
                  case measure => simp [intOf]; omega
              · obtain rfl : m = 12 := by omega
                have HR := (show Hid (codeM ws = 0) from by
                  have e2 : codeB ws = false := by
                    rw [HCB.out]
                    refine decide_eq_false (fun h => ?_)
                    have h3 := HJ.out (lenN S - 1)
                    by_cases e : 1 ≤ lenN S - 1
                    · exact h3 e (by omega) ⟨h.1, h.2.2⟩
                    · have h1 := h.1
                      rw [show lenN S - 1 = 0 from by omega] at h1
                      exact HS1.out h.2.2 h1
                  rw [HCM.out, e2]; rfl)
                rw [show ((12 : Nat) : Int) = (12 : Int) from rfl]
                go_wp2_with fail
                go_ret
                exact ⟨by rw [HR.out]; rfl, rfl⟩

end Go.Proofs.Ytkljidigmolmmaa

namespace Go.Proofs.Ytkljidigmolmmaa
open Go.RowKit Go.Shelf

/-- The array nth when i states are done. -/
def nthF (xs : List Int) (S i s : Nat) : Int := (if s < xs.length then shareN (xs[s]?.getD 0) else 0) + ((cntP (fun j => decide (symF xs S j = s)) i : Nat) : Int)
theorem nthF_at {xs : List Int} {S : Nat} (h : Tab xs S) (i : Nat) (hi : i < S) : nthF xs S i (symF xs S i) = ((xF xs S i : Nat) : Int) := by
  obtain ⟨c, e, c1, c2, c3, c4⟩ := h.x i hi
  obtain ⟨-, h2, -⟩ := h.symF i hi
  unfold nthF
  rw [if_pos h2, e, c4]
  unfold blF
  omega
theorem nthF_succ (xs : List Int) (S i s : Nat) : nthF xs S (i + 1) s = if s = symF xs S i then nthF xs S i s + 1 else nthF xs S i s := by
  unfold nthF
  simp only [cntP]
  by_cases e : symF xs S i = s
  · subst e; simp; omega
  · rw [if_neg (show ¬ s = symF xs S i from fun h => e h.symm)]; simp [e]

set_option maxRecDepth 100000 in
set_option maxHeartbeats 4000000 in
theorem setNext_any (cb l : Nat) (xs : List Int) (a : Option Addr) (cap gb off : Nat) (w : World) (hT : IsT w cb 119 4096 (symF xs (2 ^ l)) (fun _ => 0) (fun _ => 0)) (hR : RowI w .i16 a cap gb off xs) (hx : I16 xs) (hgb : xs ≠ [] → gb ≠ cb) (hTab : Tab xs (2 ^ l)) (hl12 : l ≤ 12) :
    Calls Try.prog 64 #[.slice (some ⟨cb, 0, none⟩) (2 ^ l) 4096, .slice a xs.length cap, .int .i64 (l : Int)] w fun e w' => e = .returned (.tuple #[]) ∧
      IsT w' cb 119 4096 (symF xs (2 ^ l)) (fun i => if i < 2 ^ l then bitF l (xF xs (2 ^ l) i) else 0) (fun i => if i < 2 ^ l then baseF l (xF xs (2 ^ l) i) else 0) ∧ Keep (fun k => k = cb) w w' := by
  have hcb := hT.lt
  have hSb : 2 ^ l ≤ 4096 := Nat.pow_le_pow_right (n := 2) (j := 12) (by omega) hl12
  have hlen := hTab.len
  have HH := (show Hid (RowI w .i16 a cap gb off xs ∧ (xs ≠ [] → gb ≠ cb) ∧ Tab xs (2 ^ l) ∧ I16 xs) from ⟨hR, hgb, hTab, hx⟩)
  have hA : IsA (w.alloc (.cells Try.zeroCells159 159)) w.heap.size 159 .i64 256 (fun _ => 0) := by rw [zero107]; exact isA_zeros w 159 .i64 256
  have HA := (show Hid (IsA (w.alloc (.cells Try.zeroCells159 159)) w.heap.size 159 .i64 256 (fun _ => 0) ∧ Keep (fun k => k = cb) w (w.alloc (.cells Try.zeroCells159 159)) ∧ IsT (w.alloc (.cells Try.zeroCells159 159)) cb 119 4096 (symF xs (2 ^ l)) (fun _ => 0) (fun _ => 0)) from
    ⟨hA, (Keep.refl _ w).alloc _, hT.keep ((Keep.refl noBlock w).alloc _) (fun h => h)⟩)
  obtain ⟨n, hn⟩ : ∃ n, n = xs.length := ⟨_, rfl⟩
  rw [← hn] at hlen ⊢
  have HN := (show Hid (n = xs.length) from hn)
  obtain ⟨S, hS⟩ : ∃ S, S = 2 ^ l := ⟨_, rfl⟩
  rw [← hS] at hSb HH HA ⊢
  have HS := (show Hid (S = 2 ^ l) from hS)
  clear hT hR hgb hTab hn hS hA hx
  go_enter Try.func64, Try.ntmps64
  go_wp2_with fail
  generalize w.alloc (.cells Try.zeroCells159 159) = W1 at HA ⊢
  obtain ⟨nb, hnb⟩ : ∃ nb, nb = w.heap.size := ⟨_, rfl⟩
  rw [← hnb] at HA hcb ⊢
  have HNB := (show Hid (nb = w.heap.size) from hnb)
  clear hnb
  go_loopw [14] (fun v14 wr => ∃ i : Nat, v14 = .int .i64 (i : Int) ∧ i ≤ n ∧ Hid (IsA wr nb 159 .i64 256 (fun s => if s < i then shareN (xs[s]?.getD 0) else 0) ∧ Keep (fun k => k = cb) w wr ∧ IsT wr cb 119 4096 (symF xs S) (fun _ => 0) (fun _ => 0))) (fun v14 _ => n - (intOf v14).toNat)
  case atStart => exact ⟨0, rfl, Nat.zero_le _, HA.out.1.congr (fun i _ => by simp), HA.out.2⟩
  case round =>
    clear HA
    obtain ⟨i, rfl, hi, HC⟩ := hrel
    by_cases hlt : i < n
    · obtain ⟨h1, h2, h3⟩ := HC.out
      obtain ⟨hR, hgb, hTab, hx⟩ := HH.out
      have hix : i < xs.length := by have := HN.out; omega
      have hR2 := hR.keep h2 hgb
      obtain rfl := hR2.here hix
      have c0 := hR2.cells i hix
      have HSH := (show Hid (∀ w : World, _) from fun w => share_any (xs[i]?.getD 0) (hx i).1 (hx i).2 w)
      have fz := h1.frozen i
      have ci := h1.cell i (by omega)
      have hst := h1.set i (shareN (xs[i]?.getD 0))
      have hltI : (i : Int) < (n : Int) := by omega
      have hi256 : (i : Int) < 256 := by omega
      have hkk : Keep (fun k => k = nb) wr (wr.setCell ⟨nb, i, none⟩ (.int .i64 (shareN (xs[i]?.getD 0)))) := Keep.setCell (S := fun k => k = nb) (p := ⟨nb, i, none⟩) (Keep.refl _ wr) (fun _ => rfl) _
      have HG := (show Hid (IsA (wr.setCell ⟨nb, i, none⟩ (.int .i64 (shareN (xs[i]?.getD 0)))) nb 159 .i64 256 (fun s => if s < i + 1 then shareN (xs[s]?.getD 0) else 0) ∧ Keep (fun k => k = cb) w (wr.setCell ⟨nb, i, none⟩ (.int .i64 (shareN (xs[i]?.getD 0)))) ∧ IsT (wr.setCell ⟨nb, i, none⟩ (.int .i64 (shareN (xs[i]?.getD 0)))) cb 119 4096 (symF xs S) (fun _ => 0) (fun _ => 0)) from by
        refine ⟨hst.congr (fun j _ => ?_), h2.trans hkk (fun j hj e => by have := HNB.out; omega), h3.keep hkk (by omega)⟩
        by_cases e : j = i
        · subst e; rw [if_pos rfl, if_pos (by omega)]
        · rw [if_neg e]
          by_cases hj : j < i
          · rw [if_pos hj, if_pos (by omega)]
          · rw [if_neg hj, if_neg (by omega)])
      generalize hsc : shareN (xs[i]?.getD 0) = sc at *
      generalize xs[i]?.getD 0 = c at *
      clear h1 h2 h3 hR hgb hTab hx hR2 hst hkk HC hsc
      go_wp2_with (go_at_call 86; refine (HSH.out _).mono ?_; rintro e w'' ⟨rfl, rfl⟩)
      go_roundw
      case rel => exact ⟨i + 1, by go_num, by omega, HG⟩
      case measure => simp [intOf]; omega
    · obtain rfl : i = n := by omega
      have HD := (show Hid (IsA wr nb 159 .i64 256 (nthF xs S 0) ∧ Keep (fun k => k = cb) w wr ∧ IsT wr cb 119 4096 (symF xs S) (fun i => if i < 0 then bitF l (xF xs S i) else 0) (fun i => if i < 0 then baseF l (xF xs S i) else 0)) from by
        obtain ⟨h1, h2, h3⟩ := HC.out
        refine ⟨h1.congr (fun j _ => ?_), h2, h3.congr (fun _ _ => rfl) (fun _ _ => by simp) (fun _ _ => by simp)⟩
        unfold nthF
        rw [← HN.out]; simp [cntP])
      have hltI : ¬ (i : Int) < (i : Int) := by omega
      clear HC HN
      go_wp2_with fail
      go_loopw [26] (fun v26 wr => ∃ i : Nat, v26 = .int .i64 (i : Int) ∧ i ≤ S ∧ Hid (IsA wr nb 159 .i64 256 (nthF xs S i) ∧ Keep (fun k => k = cb) w wr ∧ IsT wr cb 119 4096 (symF xs S) (fun j => if j < i then bitF l (xF xs S j) else 0) (fun j => if j < i then baseF l (xF xs S j) else 0))) (fun v26 _ => S - (intOf v26).toNat)
      case atStart => exact ⟨0, rfl, Nat.zero_le _, HD⟩
      case round =>
        clear HD
        obtain ⟨i, rfl, hi, HC⟩ := hrel
        by_cases hlt : i < S
        · obtain ⟨h1, h2, h3⟩ := HC.out
          obtain ⟨hR, hgb, hTab, hx⟩ := HH.out
          obtain ⟨ct, cb1, cb2⟩ := h3.cells i (by omega)
          have f1 := h3.frozen (i * 3 + 1)
          have f2 := h3.frozen (i * 3 + 2)
          have hsl := (hTab.symF i hlt).2.1
          have hsl256 : symF xs S i < 256 := by have := hTab.len; omega
          have cn := h1.cell (symF xs S i) hsl256
          have fn := h1.frozen (symF xs S i)
          rw [nthF_at hTab i hlt] at cn
          have hcl : xF xs S i ≠ 0 ∧ xF xs S i < 2 ^ (l + 1) ∧ bitF l (xF xs S i) ≤ l ∧ baseF l (xF xs S i) < S ∧ 1 ≤ lenN (xF xs S i) ∧ lenN (xF xs S i) ≤ l + 1 ∧ S ≤ xF xs S i * 2 ^ bitF l (xF xs S i) ∧ xF xs S i * 2 ^ bitF l (xF xs S i) < 2 ^ (l + 1) := by
            have hT2 := hTab
            have hl2 := hlt
            rw [HS.out] at hT2 hl2 ⊢
            obtain ⟨a1, a2, a3, a4, a5, a6, a7, a8⟩ := hT2.cell i hl2
            exact ⟨a1, a2, a3, a4, a6, a7, a8, (cell_fits l _ a1 a2).2.2.1⟩
          have hp13 : 2 ^ (l + 1) ≤ 8192 := Nat.pow_le_pow_right (n := 2) (j := 13) (by omega) (by omega)
          obtain ⟨s, hs⟩ : ∃ s, s = symF xs S i := ⟨_, rfl⟩
          obtain ⟨x, hxe⟩ : ∃ x, x = xF xs S i := ⟨_, rfl⟩
          rw [← hxe] at hcl cn
          rw [← hs] at ct cn fn hsl256
          obtain ⟨k1, k2, k3, k4, k5, k6, k7, k8⟩ := hcl
          obtain ⟨b, hb⟩ : ∃ b, b = bitF l x := ⟨_, rfl⟩
          obtain ⟨z, hz⟩ : ∃ z, z = baseF l x := ⟨_, rfl⟩
          obtain ⟨y, hy⟩ : ∃ y, y = x * 2 ^ bitF l x := ⟨_, rfl⟩
          rw [← hy] at k7 k8
          rw [← hb] at k3
          rw [← hz] at k4
          have hbI : (l : Int) + 1 - ((lenN x : Nat) : Int) = (b : Int) := by rw [hb]; unfold bitF; omega
          have hyI : (x : Int) * 2 ^ b = (y : Int) := by rw [hy, hb]; simp
          have hzI : (y : Int) - (S : Int) = (z : Int) := by rw [hz, hy]; unfold baseF; rw [hy, HS.out] at k7; rw [HS.out]; omega
          have HLen := (show Hid (∀ w : World, _) from fun w => len_any x (by omega) w)
          have hLb : ((lenN x : Nat) : Int) ≤ 13 := by omega
          have hL0 : (0 : Int) ≤ ((lenN x : Nat) : Int) := by omega
          have hxb : (x : Int) < 8192 := by omega
          have hyb : (y : Int) < 8192 := by omega
          have hzb : (z : Int) < 4096 := by omega
          have hbb : (b : Int) ≤ 12 := by omega
          have hsI : (s : Int) < 256 := by omega
          have hltI2 : (i : Int) < (S : Int) := by omega
          have hSI : (S : Int) ≤ 4096 := by omega
          have hlI : (l : Int) ≤ 12 := by omega
          have hst := h1.set s ((x : Int) + 1)
          have hkk : Keep (fun k => k = nb) wr (wr.setCell ⟨nb, s, none⟩ (.int .i64 ((x : Int) + 1))) := Keep.setCell (S := fun k => k = nb) (p := ⟨nb, s, none⟩) (Keep.refl _ wr) (fun _ => rfl) _
          have hT2 := h3.keep hkk (by omega)
          have hA2 : IsA (wr.setCell ⟨nb, s, none⟩ (.int .i64 ((x : Int) + 1))) nb 159 .i64 256 (nthF xs S (i + 1)) := hst.congr (fun j _ => by
            rw [nthF_succ, ← hs]
            split
            · rename_i e; rw [e, hs, nthF_at hTab i hlt, hxe]
            · rfl)
          have HG := (show Hid (IsA (wr.setCell ⟨nb, s, none⟩ (.int .i64 ((x : Int) + 1))) nb 159 .i64 256 (nthF xs S (i + 1)) ∧ Keep (fun k => k = cb) w (wr.setCell ⟨nb, s, none⟩ (.int .i64 ((x : Int) + 1))) ∧ IsT (wr.setCell ⟨nb, s, none⟩ (.int .i64 ((x : Int) + 1))) cb 119 4096 (symF xs S) (fun j => if j < i then bitF l (xF xs S j) else 0) (fun j => if j < i then baseF l (xF xs S j) else 0)) from
            ⟨hA2, h2.trans hkk (fun j hj e => by have := HNB.out; omega), hT2⟩)
          have HX := (show Hid (b = bitF l (xF xs S i) ∧ z = baseF l (xF xs S i)) from ⟨by rw [hb, hxe], by rw [hz, hxe]⟩)
          obtain ⟨cta, cb1a, cb2a⟩ := hT2.cells i (by omega)
          have f1a := hT2.frozen (i * 3 + 1)
          have f2a := hT2.frozen (i * 3 + 2)
          generalize lenN x = L at *
          clear h1 h2 h3 hR hgb hTab hx HC hst hkk hT2 hA2 hs hxe hb hz hy k1 k2 k3 k4 k5 k6 k7 k8 hp13 hsl cb1 cb2 f1 f2 hsl256
          go_wp2_with fail
          generalize wr.setCell ⟨nb, s, none⟩ (.int .i64 ((x : Int) + 1)) = W2 at HG cta cb1a cb2a f1a f2a ⊢
          refine (HLen.out _).mono ?_
          rintro e w'' ⟨rfl, rfl⟩
          go_wp2_with fail
          go_roundw
          case rel =>
            obtain ⟨g1, g2, g3⟩ := HG.out
            obtain ⟨e1, e2⟩ := HX.out
            have t1 := (g3.setBit i b).setBase i z
            have kk : Keep (fun k => k = cb) w'' ((w''.setCell ⟨cb, i * 3 + 1, none⟩ (.int .u8 (b : Int))).setCell ⟨cb, i * 3 + 2, none⟩ (.int .u16 (z : Int))) :=
              Keep.setCell (S := fun k => k = cb) (p := ⟨cb, i * 3 + 2, none⟩) (Keep.setCell (S := fun k => k = cb) (p := ⟨cb, i * 3 + 1, none⟩) (Keep.refl _ w'') (fun _ => rfl) _) (fun _ => rfl) _
            refine ⟨i + 1, by go_num, by omega, g1.keep kk (by omega), g2.trans kk (fun _ _ h => h), t1.congr (fun _ _ => rfl) (fun j _ => ?_) (fun j _ => ?_)⟩
            · by_cases e : j = i
              · subst e; rw [if_pos rfl, if_pos (by omega), e1]
              · rw [if_neg e]
                by_cases hj : j < i
                · rw [if_pos hj, if_pos (by omega)]
                · rw [if_neg hj, if_neg (by omega)]
            · by_cases e : j = i
              · subst e; rw [if_pos rfl, if_pos (by omega), e2]
              · rw [if_neg e]
                by_cases hj : j < i
                · rw [if_pos hj, if_pos (by omega)]
                · rw [if_neg hj, if_neg (by omega)]
          case measure => simp [intOf]; omega
        · obtain rfl : i = S := by omega
          have hltI2 : ¬ (i : Int) < (i : Int) := by omega
          go_wp2_with fail
          go_end0
          obtain ⟨h1, h2, h3⟩ := HC.out
          exact ⟨rfl, h3, h2⟩

end Go.Proofs.Ytkljidigmolmmaa

namespace Go.Proofs.Ytkljidigmolmmaa
open Go.RowKit Go.Shelf

/-- The slice at block g reads as n cells. -/
structure RowT (w : World) (g n : Nat) (sy bi ba : Nat → Nat) : Prop where
  cells : ∀ i, i < n → w.cell? ⟨g, i * 3, none⟩ = some (.int .u8 ((sy i : Nat) : Int)) ∧ w.cell? ⟨g, i * 3 + 1, none⟩ = some (.int .u8 ((bi i : Nat) : Int)) ∧ w.cell? ⟨g, i * 3 + 2, none⟩ = some (.int .u16 ((ba i : Nat) : Int))
  lt : g < w.heap.size
theorem RowT.keep {w w' : World} {S : Nat → Prop} {g n : Nat} {sy bi ba : Nat → Nat} (h : RowT w g n sy bi ba) (hk : Keep S w w') (hS : ¬ S g) : RowT w' g n sy bi ba := by
  have e := hk.block g h.lt hS
  refine ⟨fun i hi => ?_, Nat.lt_of_lt_of_le h.lt hk.size⟩
  obtain ⟨a, b, c⟩ := h.cells i hi
  exact ⟨(World.cell?_of_block e).trans a, (World.cell?_of_block e).trans b, (World.cell?_of_block e).trans c⟩

theorem info50 : (Try.prog.info? 91).map (fun i => (i.zero, i.size, i.bytes)) = some (some (.agg #[.int .u8 0, .int .u8 0, .int .u16 0]), 3, 4) := by kernel_rfl

/-- What is read of the first n cells of an array. -/
theorem IsT.list {w : World} {b t N : Nat} {sy bi ba : Nat → Nat} (h : IsT w b t N sy bi ba) (n : Nat) (hn : n ≤ N) :
    ∃ L : List Value, L.length = n * 3 ∧ (∀ j u, L[j]? = some u → w.cell? ⟨b, j, none⟩ = some u) ∧ (∀ u ∈ L, u.oneCell' = true) ∧ ∀ i, i < n → L[i * 3]? = some (.int .u8 ((sy i : Nat) : Int)) ∧ L[i * 3 + 1]? = some (.int .u8 ((bi i : Nat) : Int)) ∧ L[i * 3 + 2]? = some (.int .u16 ((ba i : Nat) : Int)) := by
  obtain ⟨cs, h1, h2, h3⟩ := h.obj
  have hat : ∀ j, j < n * 3 → (cs.toList.take (n * 3))[j]? = cs[j]? := fun j hj => by
    rw [List.getElem?_take, if_pos hj]; simp
  have hlen : (cs.toList.take (n * 3)).length = n * 3 := by rw [List.length_take, Array.length_toList, h2]; omega
  refine ⟨cs.toList.take (n * 3), hlen, fun j u hu => ?_, fun u hu => ?_, fun i hi => ?_⟩
  · have hj : j < n * 3 := by rw [← hlen]; exact (List.getElem?_eq_some_iff.1 hu).1
    rw [hat j hj] at hu
    rw [cell_of h1, hu]
  · obtain ⟨j, hj, e⟩ := List.getElem_of_mem hu
    rw [hlen] at hj
    have e2 := hat j hj
    rw [List.getElem?_eq_getElem (by rw [hlen]; exact hj), e] at e2
    obtain ⟨d1, d2, d3⟩ := h3 (j / 3) (by omega)
    have hj3 : j = j / 3 * 3 ∨ j = j / 3 * 3 + 1 ∨ j = j / 3 * 3 + 2 := by omega
    rcases hj3 with hj3 | hj3 | hj3
    · rw [← hj3, ← e2] at d1; cases d1; rfl
    · rw [← hj3, ← e2] at d2; cases d2; rfl
    · rw [← hj3, ← e2] at d3; cases d3; rfl
  · rw [hat _ (by omega), hat _ (by omega), hat _ (by omega)]
    exact h3 i (by omega)

set_option maxHeartbeats 1000000 in
/-- slices.Clone of cells: the same cells in memory of its own. -/
theorem clone39_any (cb n cap : Nat) (sy bi ba : Nat → Nat) (hn : n ≤ 4096) (w : World) (h : IsT w cb 119 4096 sy bi ba) :
    Calls Try.prog 65 #[.slice (some ⟨cb, 0, none⟩) n cap] w fun e w' => ∃ g cap', e = .returned (.slice (some ⟨g, 0, none⟩) n cap') ∧ w.heap.size ≤ g ∧ n ≤ cap' ∧ RowT w' g n sy bi ba ∧ Keep noBlock w w' := by
  obtain ⟨i0, hi, hz0, hz1, hz2⟩ := info_parts info50
  obtain ⟨L, l1, l2, l3, l4⟩ := h.list n hn
  have hmax : n ≤ maxLen := by unfold maxLen; omega
  have hby : n * 4 ≤ 140737488355328 := by omega
  have heq := fun (w : World) (a : Option Addr) (n c n' c' : Nat) => Lib.run_eql_slice_nil (P := Try.prog) w 82 91 a n c n' c' Try.underlying82
  have hlt := h.lt
  have hown := World.ownsRow_made (e := 91) (size := 3) (base := w.heap.size) w #[] 0 (Nat.le_refl _) (Nat.zero_le _) rfl
  have hc' : ∀ j u, L[j]? = some u → (w.alloc (.cells #[] 91)).cell? ((⟨cb, 0, none⟩ : Addr).add j) = some u := fun j u hu => by
    rw [add0]
    exact (World.cell?_of_block (Below.heap_alloc _ _ _ hlt)).trans (l2 j u hu)
  have HL := (show Hid (∀ i, i < n → L[i * 3]? = some (.int .u8 ((sy i : Nat) : Int)) ∧ L[i * 3 + 1]? = some (.int .u8 ((bi i : Nat) : Int)) ∧ L[i * 3 + 2]? = some (.int .u16 ((ba i : Nat) : Int))) from l4)
  clear l2 l4
  go_enter Try.func65, Try.ntmps65
  go_wp2_with (at_builtin; refine wpList_append_own _ rfl _ _ 82 rfl w.heap.size 91 i0 (.agg #[.int .u8 0, .int .u8 0, .int .u16 0]) 3 4 Try.underlying82 hi hz0 hz1 hz2 rfl (by decide) (.slice (some ⟨w.heap.size, 0, none⟩) 0 0) 0 [] rfl hown ⟨cb, 0, none⟩ n cap L rfl l1 hc' l3 (by omega) (by omega) (by simp) ?_; intro v' w1 hown' hgrow hnil)
  go_ret
  have hk : Keep noBlock w w1 := ((Keep.refl _ w).alloc _).grown hgrow (fun k e hk => by
    have e' : w.heap.size = k := by simpa [Value.ownBlock] using e
    omega)
  rw [List.nil_append, Nat.zero_add] at hown'
  rcases hown'.2 with ⟨e1, h0⟩ | ⟨g, cap', cur, e1, hb, hg, hr1, hr2, hr3, hr4⟩
  · have := hnil.1 e1
    cases this.1
  · subst e1
    refine ⟨g, cap', rfl, hb, hr1, ⟨fun i hi => ?_, obj_lt hg⟩, hk⟩
    obtain ⟨d1, d2, d3⟩ := HL.out i hi
    have q1 := hown'.cells (g := g) rfl _ _ d1
    have q2 := hown'.cells (g := g) rfl _ _ d2
    have q3 := hown'.cells (g := g) rfl _ _ d3
    rw [add0] at q1 q2 q3
    exact ⟨q1, q2, q3⟩

set_option maxHeartbeats 400000 in
theorem table_bad (a : Option Addr) (cap gb off : Nat) (xs : List Int) (log : Int) (w : World) (h : RowI w .i16 a cap gb off xs) (hx : I16 xs) (hb : okT xs log = false) :
    Calls Try.prog 37 #[.slice a xs.length cap, .int .i64 log] w fun e w' => e = .returned (.tuple #[.slice none 0 0, .int .i64 70]) ∧ w' = w := by
  have HT := (show Hid (∀ w : World, RowI w .i16 a cap gb off xs → Calls Try.prog 62 #[.slice a xs.length cap, .int .i64 log] w fun e w' => e = .returned (.bool false) ∧ w' = w) from fun w h => by have := makeTable_any a cap gb off xs log w h hx; rwa [hb] at this)
  go_enter Try.func37, Try.ntmps37
  go_wp2_with (go_at_call 62; refine (HT.out _ h).mono ?_; rintro e w' ⟨rfl, rfl⟩)
  go_ret2
  exact ⟨rfl, rfl⟩

section
attribute [local go_sem] sliceSem_eq
set_option maxRecDepth 100000 in
set_option maxHeartbeats 2000000 in
theorem table_good (a : Option Addr) (cap gb off : Nat) (xs : List Int) (l : Nat) (w : World) (h : RowI w .i16 a cap gb off xs) (hx : I16 xs) (hb : okT xs (l : Int) = true) :
    Calls Try.prog 37 #[.slice a xs.length cap, .int .i64 (l : Int)] w fun e w' => ∃ g cap', e = .returned (.tuple #[.slice (some ⟨g, 0, none⟩) (2 ^ l) cap', .int .i64 0]) ∧ w.heap.size ≤ g ∧ 2 ^ l ≤ cap' ∧
      RowT w' g (2 ^ l) (symF xs (2 ^ l)) (fun i => bitF l (xF xs (2 ^ l) i)) (fun i => baseF l (xF xs (2 ^ l) i)) ∧ Keep noBlock w w' := by
  have HT := (show Hid (∀ w : World, RowI w .i16 a cap gb off xs → Calls Try.prog 62 #[.slice a xs.length cap, .int .i64 (l : Int)] w fun e w' => e = .returned (.bool true) ∧ w' = w) from fun w h => by have := makeTable_any a cap gb off xs l w h hx; rwa [hb] at this)
  obtain ⟨hG, hT, hne, hlen, hl5, hl12⟩ := okT_good hb
  have hTab := okT_tab hb
  have hSb : 2 ^ l ≤ 4096 := Nat.pow_le_pow_right (n := 2) (j := 12) (by omega) hl12
  have hp : (2 : Int) ^ l = ((2 ^ l : Nat) : Int) := by simp
  obtain ⟨S, hS⟩ : ∃ S, S = 2 ^ l := ⟨_, rfl⟩
  rw [← hS] at hp hSb hTab ⊢
  have HS := (show Hid (S = 2 ^ l) from hS)
  have hSI : (S : Int) ≤ 4096 := by omega
  have hlI : (l : Int) ≤ 12 := by omega
  have HTB := (show Hid (Tab xs S ∧ Good xs) from ⟨hTab, hG⟩)
  clear hT hS hG hTab
  go_enter Try.func37, Try.ntmps37
  go_wp2_with (go_at_call 62; refine (HT.out _ h).mono ?_; rintro e w' ⟨rfl, rfl⟩)
  have hT0 : IsT (w'.alloc (.cells Try.zeroCells119 119)) w'.heap.size 119 4096 (fun _ => 0) (fun _ => 0) (fun _ => 0) := by rw [zero71]; exact isT_zeros w' 119 4096
  have hK1 : Keep noBlock w' (w'.alloc (.cells Try.zeroCells119 119)) := (Keep.refl _ w').alloc _
  have hgb : xs ≠ [] → gb ≠ w'.heap.size := fun hn e => by have := h.block hn; omega
  have hR1 := h.keep hK1 (fun _ h => h)
  generalize w'.alloc (.cells Try.zeroCells119 119) = W1 at hT0 hK1 hR1 ⊢
  obtain ⟨cb, hcb⟩ : ∃ cb, cb = w'.heap.size := ⟨_, rfl⟩
  rw [← hcb] at hT0 hgb ⊢
  have HCB := (show Hid (cb = w'.heap.size) from hcb)
  clear hcb HT
  refine (setSymbols_any cb S xs a cap gb off W1 hT0 hR1 hgb HTB.out.1).mono ?_
  rintro e W2 ⟨rfl, hT2, hK2⟩
  have hR2 := hR1.keep hK2 hgb
  have hN := setNext_any cb l xs a cap gb off W2 (by rw [← HS.out]; exact hT2) hR2 hx hgb (by rw [← HS.out]; exact HTB.out.1) (by omega)
  rw [← HS.out] at hN
  have HNX := (show Hid (Calls Try.prog 64 _ W2 _) from hN)
  have HK := (show Hid (Keep noBlock w' W1 ∧ Keep (fun k => k = cb) W1 W2) from ⟨hK1, hK2⟩)
  clear hT0 hR1 hT2 hK2 hK1 hN
  go_wp2_with fail
  refine HNX.out.mono ?_
  rintro e W3 ⟨rfl, hT3, hK3⟩
  go_wp2_with fail
  refine (clone39_any cb S 4096 _ _ _ hSb W3 hT3).mono ?_
  rintro e W4 ⟨g, cap', rfl, hg, hcap, hRT, hK4⟩
  go_wp2_with fail
  go_ret2
  have k1 : Keep noBlock w' W3 := (HK.out.1.trans HK.out.2 (fun i hi e => by have := HCB.out; omega)).trans hK3 (fun i hi e => by have := HCB.out; omega)
  have hz := k1.size
  refine ⟨g, cap', rfl, by omega, hcap, ⟨fun i hi => ?_, hRT.lt⟩, k1.trans hK4 (fun _ _ h => h)⟩
  have := hRT.cells i hi
  rw [if_pos hi, if_pos hi] at this
  exact this
end

end Go.Proofs.Ytkljidigmolmmaa

namespace Go.Proofs.Ytkljidigmolmmaa
open Go.RowKit Go.Shelf

set_option maxHeartbeats 400000 in
theorem parts_any (c : Int) (h1 : -32768 ≤ c) (h2 : c ≤ 32767) (w : World) : Calls Try.prog 70 #[.int .i16 c] w fun e w' => e = .returned (.int .i64 (shareN c)) ∧ w' = w := by
  unfold shareN
  by_cases h : c = -1
  · subst h
    go_enter Try.func70, Try.ntmps70
    go_wp2
    go_ret
    exact ⟨rfl, rfl⟩
  · rw [if_neg h]
    have hb : (c == -1) = false := by simpa using h
    go_enter Try.func70, Try.ntmps70
    go_wp2
    go_ret
    exact ⟨rfl, rfl⟩

set_option maxHeartbeats 1000000 in
theorem width_any (n : Nat) (hn : n < 4611686018427387904) (w : World) : Calls Try.prog 72 #[.int .i64 (n : Int)] w fun e w' => e = .returned (.int .i64 ((lenN n : Nat) : Int)) ∧ w' = w := by
  have hlen : lenN n ≤ 62 := lenN_le n 62 (by omega)
  go_enter Try.func72, Try.ntmps72
  go_wp2
  go_loop [0, 3] (fun x i => ∃ y k : Nat, x = .int .i64 (y : Int) ∧ i = .int .i64 (k : Int) ∧ k + lenN y = lenN n ∧ y ≤ n) (fun x _ => (intOf x).toNat)
  case atStart => exact ⟨n, 0, rfl, rfl, by omega, Nat.le_refl _⟩
  case round =>
    obtain ⟨y, k, rfl, rfl, hk, hy⟩ := hrel
    have HK := (show Hid (k + lenN y = lenN n) from hk)
    by_cases h0 : 0 < y
    · have hs := lenN_half y (by omega)
      have HS := (show Hid _ from hs)
      have hkb : (k : Int) < 62 := by omega
      have h0I : 0 < (y : Int) := by omega
      obtain ⟨z, hz⟩ : ∃ z, z = y / 2 := ⟨_, rfl⟩
      have hdiv : (y : Int) / 2 = (z : Int) := by omega
      have HZ := (show Hid (z = y / 2) from hz)
      clear hk hs hz
      go_wp2
      go_round
      case rel => exact ⟨z, k + 1, rfl, by go_num, by have h1 := HK.out; have h2 := HS.out; rw [← HZ.out] at h2; omega, by have := HZ.out; omega⟩
      case measure => have := HZ.out; simp [intOf]; omega
    · obtain rfl : y = 0 := by omega
      rw [show ((0 : Nat) : Int) = (0 : Int) from rfl]
      have HE := (show Hid (k = lenN n) from by have := HK.out; simp [lenN_zero] at this; exact this)
      clear hk
      go_wp2
      go_ret
      exact ⟨by rw [← HE.out]; rfl, rfl⟩
theorem width_i (x : Nat) (xi : Int) (hi : xi = (x : Int)) (hx : x < 65536) (w : World) : Calls Try.prog 72 #[.int .i64 xi] w fun e w' => e = .returned (.int .i64 ((lenN x : Nat) : Int)) ∧ w' = w := by
  subst hi; exact width_any x (by omega) w

set_option maxRecDepth 100000 in
set_option maxHeartbeats 2000000 in
theorem right_any (a : Option Addr) (cap gb off : Nat) (xs : List Int) (log : Int) (w : World) (h : RowI w .i16 a cap gb off xs) (hx : I16 xs) :
    Calls Try.prog 71 #[.slice a xs.length cap, .int .i64 log] w fun e w' => e = .returned (.bool (okT xs log)) ∧ w' = w := by
  by_cases hl : 5 ≤ log ∧ log ≤ 12
  · obtain ⟨hl5, hl12⟩ := hl
    have hl : 5 ≤ log ∧ log ≤ 12 := ⟨hl5, hl12⟩
    have hlb : ¬ log < 5 := by omega
    have hlc : ¬ 12 < log := by omega
    have HLL := (show Hid (5 ≤ log ∧ log ≤ 12) from hl)
    clear hl
    by_cases h0 : xs.length = 0
    · have hz : ((xs.length : Int) == 0) = true := by simp [h0]
      have hr : okT xs log = false := decide_eq_false (fun h => h.2.2.1 h0)
      rw [hr]
      clear h
      generalize xs.length = n at *
      go_enter Try.func71, Try.ntmps71
      go_wp2
      go_ret
      exact ⟨rfl, rfl⟩
    · have hz : ((xs.length : Int) == 0) = false := by rw [beq_eq_false_iff_ne]; omega
      by_cases h256 : xs.length ≤ 256
      · have hg : ¬ (256 : Int) < (xs.length : Int) := by omega
        obtain ⟨k, hk⟩ : ∃ k, xs.length = k + 1 := ⟨xs.length - 1, by omega⟩
        have hk1 : (xs.length : Int) - 1 = (k : Int) := by omega
        obtain rfl := h.here (i := k) (by omega)
        have hc := h.cells k (by omega)
        obtain ⟨y, hy⟩ : ∃ y, xs[k]?.getD 0 = y := ⟨_, rfl⟩
        rw [hy] at hc
        by_cases hy0 : y = 0
        · have hr : okT xs log = false := decide_eq_false (fun h => h.2.2.2.2.1 (by rw [hk, Nat.add_sub_cancel, hy]; exact hy0))
          rw [hr]
          subst hy0
          have HK := (show Hid _ from hk)
          have hki : (k : Int) < (xs.length : Int) := by omega
          clear h hk
          generalize xs.length = n at *
          go_enter Try.func71, Try.ntmps71
          go_wp2
          go_ret
          exact ⟨rfl, rfl⟩
        · have hyb : (y == 0) = false := by simpa using hy0
          obtain ⟨l, rfl, hl1, hl2, hp1, hp2, hpe⟩ := pow_log log HLL.out.1 HLL.out.2
          have HR := (show Hid (RowI w .i16 (some ⟨gb, off, none⟩) cap gb off xs) from h)
          have HY := (show Hid (xs[k]?.getD 0 = y ∧ xs.length = k + 1 ∧ y ≠ 0) from ⟨hy, hk, hy0⟩)
          have hki : (k : Int) < (xs.length : Int) := by omega
          have HX := (show Hid (I16 xs) from hx)
          have HN := (show Hid (∃ n, n = xs.length) from ⟨_, rfl⟩)
          obtain ⟨n, hn⟩ := HN.out
          rw [← hn] at h256 hz hg hk1 hki ⊢
          have HN := (show Hid (n = xs.length) from hn)
          clear h hk hy hn hy0 hx hpe
          go_enter Try.func71, Try.ntmps71
          go_wp2
          go_loop [5, 6] (fun s i => ∃ j : Nat, j ≤ n ∧ i = .int .i64 j ∧ s = .int .i64 (sumS xs j) ∧ Hid (∀ i : Nat, i < j → -1 ≤ xs[i]?.getD 0)) (fun _ i => n - (intOf i).toNat)
          case atStart => exact ⟨0, Nat.zero_le _, rfl, rfl, fun i hi => by omega⟩
          case round =>
            clear hc hk1 hki
            obtain ⟨j, hj, rfl, rfl, HA⟩ := hrel
            have hs := sumS_le xs HX.out j
            by_cases hlt : j < n
            · have hcj := HR.out.cells j (by have := HN.out; omega)
              have hb := HX.out j
              have HS := (show Hid (sumS xs (j + 1) = sumS xs j + shareN (xs[j]?.getD 0)) from rfl)
              have hAs : -1 ≤ xs[j]?.getD 0 → ∀ i : Nat, i < j + 1 → -1 ≤ xs[i]?.getD 0 := fun h i hi => by
                by_cases e : i = j
                · subst e; exact h
                · exact HA.out i (by omega)
              have HAS := (show Hid _ from hAs)
              have HOK := (show Hid (okT xs (l : Int) = true → -1 ≤ xs[j]?.getD 0) from fun h => (of_decide_eq_true h).2.2.2.2.2.1 j (by have := HN.out; omega))
              clear hAs
              generalize xs[j]?.getD 0 = x at *
              have hbs := shareN_le x hb.1 hb.2
              have HSH := (show Hid (∀ w : World, _) from fun w => parts_any x hb.1 hb.2 w)
              obtain ⟨b1, b2⟩ := hb
              obtain ⟨b3, b4⟩ := hbs
              obtain ⟨b5, b6⟩ := hs
              have b7 : (j : Int) ≤ 256 := by omega
              generalize shareN x = sx at *
              generalize sumS xs j = sj at *
              by_cases hx1 : x < -1
              · go_wp2
                go_ret
                refine ⟨?_, rfl⟩
                have : okT xs (l : Int) = false := by
                  cases hb : okT xs (l : Int) with
                  | false => rfl
                  | true => have := HOK.out hb; omega
                rw [this]
                rfl
              · go_wp2_with (go_at_call 70; refine (HSH.out _).mono ?_; rintro e w' ⟨rfl, rfl⟩)
                go_round
                case rel => exact ⟨j + 1, by omega, by go_num, by rw [HS.out], HAS.out (by omega)⟩
                case measure => simp [intOf]; omega
            · obtain rfl : j = n := by omega
              have HB := (show Hid (okT xs (l : Int) = (sumS xs j == 2 ^ l)) from by
                have hn := HN.out
                obtain ⟨hy1, hy2, hy3⟩ := HY.out
                rw [Bool.eq_iff_iff]
                unfold okT
                rw [decide_eq_true_iff, beq_iff_eq]
                constructor
                · intro h; have := h.2.2.2.2.2.2; rw [← hn] at this; simpa using this
                · intro h
                  refine ⟨by omega, by omega, by omega, by omega, ?_, ?_, ?_⟩
                  · rw [hy2, Nat.add_sub_cancel, hy1]; exact hy3
                  · rw [← hn]; exact HA.out
                  · rw [← hn]; simpa using h)
              clear HR HX HY HN HA
              obtain ⟨b5, b6⟩ := hs
              generalize sumS xs j = sj at *
              go_wp2
              go_ret
              exact ⟨by rw [HB.out]; rfl, rfl⟩
      · have hg : (256 : Int) < (xs.length : Int) := by omega
        have hr : okT xs log = false := decide_eq_false (fun h => h256 h.2.2.2.1)
        rw [hr]
        clear h
        generalize xs.length = n at *
        go_enter Try.func71, Try.ntmps71
        go_wp2
        go_ret
        exact ⟨rfl, rfl⟩
  · have hr : okT xs log = false := decide_eq_false (fun h => hl ⟨h.1, h.2.1⟩)
    rw [hr]
    clear h
    by_cases hl5 : log < 5
    · go_enter Try.func71, Try.ntmps71
      go_wp2
      go_ret
      exact ⟨rfl, rfl⟩
    · have hl12 : 12 < log := by omega
      go_enter Try.func71, Try.ntmps71
      go_wp2
      go_ret
      exact ⟨rfl, rfl⟩

end Go.Proofs.Ytkljidigmolmmaa
