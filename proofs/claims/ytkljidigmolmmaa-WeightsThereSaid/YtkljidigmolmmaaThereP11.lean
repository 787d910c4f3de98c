/-
  Read: the last weight, and what Read makes of weights that are told.
  Read, by what the description tells.
  What the statements' own example comes to: true.
  What Pack and Unpack answer, whatever they are handed.
  WeightsThere answers true: packed is unpacked as it was, unpacked is packed as it was.
-/
import Derived.Test.YtkljidigmolmmaaThereP10
namespace Go.Proofs.Ytkljidigmolmmaa
open Go.RowKit Go.Shelf
set_option linter.unusedVariables false

/-- The weight that stands behind those told. -/
def lastW (M : List Nat) : Nat := lenN (2 ^ lenN (sumW M M.length) - sumW M M.length)
theorem wt_app (M : List Nat) (x i : Nat) (h : i < M.length) : wt (M ++ [x]) i = wt M i := by unfold wt; rw [List.getElem?_append_left h]
theorem codeB_okW {M : List Nat} (x : Nat) (h : okW M = false) : codeB (M ++ [x]) = false := by
  refine codeB_ok (decide_eq_false (fun q => (of_decide_eq_false h) (fun i hi => ?_)))
  have := q i (by simp; omega)
  rwa [wt_app M x i hi] at this

/-- What withLast answers. -/
def LastPost (M : List Nat) (w : World) (e : Ending) (w' : World) : Prop :=
  (codeB (M ++ [lastW M]) = true ∧ ∃ v, e = .returned (.tuple #[v, .bool true]) ∧ w'.ownsRow 0 5 1 v (M ++ [lastW M]).length (u8s (M ++ [lastW M])) ∧ ∀ k, v.ownBlock = some k → w.heap.size ≤ k) ∨
  (codeB (M ++ [lastW M]) = false ∧ ∃ v, e = .returned (.tuple #[v, .bool false]))

set_option maxRecDepth 100000 in
set_option maxHeartbeats 2000000 in
theorem withLast_any (w : World) (v : Value) (M : List Nat) (W : World) (hown : W.ownsRow 0 5 1 v M.length (u8s M)) (hlt : ∀ j : Nat, M[j]?.getD 0 < 256) (hl : M.length ≤ 255) (hnew : ∀ k, v.ownBlock = some k → w.heap.size ≤ k) (hsz : w.heap.size ≤ W.heap.size) :
    Calls Try.prog 18 #[v] W fun e W' => LastPost M w e W' ∧ Keep (fun k => w.heap.size ≤ k) W W' := by
  obtain ⟨a, cap, g, rfl, hB, hg⟩ := owns_bytes hown hlt (by omega)
  have HS := (show Hid (Calls Try.prog 39 _ W _) from sumOfW_any a cap g 0 M W hB (by omega))
  obtain ⟨n, hn⟩ : ∃ n, n = M.length := ⟨_, rfl⟩
  have HN := (show Hid (n = M.length) from hn)
  cases hok : okW M with
  | false =>
    have HC := (show Hid (codeB (M ++ [lastW M]) = false) from codeB_okW _ hok)
    have HS2 := (show Hid (Calls Try.prog 39 #[.slice a n cap] W fun e w' => e = .returned (.tuple #[.int .i64 0, .bool false]) ∧ w' = W) from by
      rw [hn]
      exact HS.out.mono (by
        rintro e w' ⟨h, rfl⟩
        rw [hok] at h
        rcases h with ⟨h, _⟩ | ⟨_, rfl⟩
        · cases h
        · exact ⟨rfl, rfl⟩))
    rw [← hn]
    clear HS hB hown hlt hnew hn hok hg
    go_enter Try.func18, Try.ntmps18
    go_wp2_with (go_at_call 39; refine HS2.out.mono ?_; rintro e w' ⟨rfl, rfl⟩)
    go_ret2
    exact ⟨.inr ⟨HC.out, _, rfl⟩, Keep.refl _ _⟩
  | true =>
    have HS2 := (show Hid (Calls Try.prog 39 #[.slice a n cap] W fun e w' => e = .returned (.tuple #[.int .i64 ((sumW M M.length : Nat) : Int), .bool true]) ∧ w' = W) from by
      rw [hn]
      exact HS.out.mono (by
        rintro e w' ⟨h, rfl⟩
        rw [hok] at h
        rcases h with ⟨_, rfl⟩ | ⟨h, _⟩
        · exact ⟨rfl, rfl⟩
        · cases h))
    have hsb := sumW_le M M.length (of_decide_eq_true hok)
    have hS18 : sumW M M.length < 262144 := by omega
    have hl18 : lenN (sumW M M.length) ≤ 18 := lenN_le _ _ (by omega)
    have hp18 : 2 ^ lenN (sumW M M.length) ≤ 262144 := Nat.pow_le_pow_right (n := 2) (j := 18) (by omega) hl18
    have hSP : sumW M M.length ≤ 2 ^ lenN (sumW M M.length) := by
      by_cases h0 : sumW M M.length = 0
      · rw [h0]; exact Nat.zero_le _
      · exact Nat.le_of_lt (lenN_pos _ h0).2.1
    have HL1 := (show Hid (∀ w : World, _) from fun w => len_big (sumW M M.length) (by omega) w)
    have hlw : lastW M = lenN (2 ^ lenN (sumW M M.length) - sumW M M.length) := rfl
    obtain ⟨L1, hL1⟩ : ∃ L1, L1 = lenN (sumW M M.length) := ⟨_, rfl⟩
    obtain ⟨P, hP⟩ : ∃ P, P = 2 ^ lenN (sumW M M.length) := ⟨_, rfl⟩
    obtain ⟨S, hS⟩ : ∃ S, S = sumW M M.length := ⟨_, rfl⟩
    have hPI : wrap64 ((2 : Int) ^ L1) = (P : Int) := by
      have e : (2 : Int) ^ L1 = (P : Int) := by rw [hP, hL1]; simp
      rw [e]
      rw [← hP] at hp18
      clear e hP hlw hSP
      unfold wrap64; omega
    rw [← hP] at hlw hp18 hSP
    rw [← hL1] at HL1 hl18
    rw [← hS] at HL1 HS2 hlw hSP hS18
    have hwant : P - S ≤ 262144 := by clear hPI; omega
    obtain ⟨D, hD⟩ : ∃ D, D = P - S := ⟨_, rfl⟩
    rw [← hD] at hlw
    have hDI : (P : Int) - (S : Int) = (D : Int) := by clear hPI; omega
    have HL2 := (show Hid (∀ w : World, Calls Try.prog 40 #[.int .u64 (D : Int)] w fun e w' => e = .returned (.int .i64 ((lastW M : Nat) : Int)) ∧ w' = w) from fun w => by rw [hlw]; exact len_big D (by clear hPI; omega) w)
    have hlw19 : lastW M ≤ 19 := by rw [hlw]; exact lenN_le _ _ (by clear hPI; omega)
    obtain ⟨v', W', hrun, hown', hk', hm'⟩ := own_push hown (lastW M) (by omega)
    have hnew' : ∀ k, v'.ownBlock = some k → w.heap.size ≤ k := fun k e => by
      rcases hm' with e2 | ⟨j, e2, hj⟩
      · rw [e2] at e; exact hnew k e
      · rw [e2] at e; cases e; omega
    have hlt' : ∀ j : Nat, (M ++ [lastW M])[j]?.getD 0 < 256 := lt_app hlt (lt256 (fun b hb => by rw [List.mem_singleton.1 hb]; omega))
    obtain ⟨a', cap', g', rfl, hB', hg'⟩ := owns_bytes hown' hlt' (by simp; omega)
    have HM := (show Hid (Calls Try.prog 21 _ W' _) from makeCode_any a' cap' g' 0 (M ++ [lastW M]) W' hB')
    have HF := (show Hid (W'.ownsRow 0 5 1 (.slice a' (M ++ [lastW M]).length cap') (M ++ [lastW M]).length (u8s (M ++ [lastW M])) ∧ Keep (fun k => w.heap.size ≤ k) W W' ∧ ∀ k, (Value.slice a' (M ++ [lastW M]).length cap').ownBlock = some k → w.heap.size ≤ k) from ⟨hown', hk'.mono (fun i hi e => hnew i e), hnew'⟩)
    rw [← hn] at hrun
    obtain ⟨n', hn'⟩ : ∃ n', n' = (M ++ [lastW M]).length := ⟨_, rfl⟩
    rw [← hn'] at hrun HM HF
    have HN' := (show Hid (n' = (M ++ [lastW M]).length) from hn')
    rw [← hn]
    clear HS hB hown hlt hnew hn hok hg hn' hown' hk' hm' hnew' hlt' hB' hg' hlw hD hP hL1 hS hsb hSP
    obtain ⟨lw, hlwe⟩ : ∃ lw, lastW M = lw := ⟨_, rfl⟩
    rw [hlwe] at HL2 hlw19 hrun HM HF HN'
    have HLW := (show Hid (lastW M = lw) from hlwe)
    clear hlwe
    have hlwI : (lw : Int) ≤ 19 := by omega
    have hDl : (D : Int) ≤ 262144 := by omega
    have hL1I : (L1 : Int) ≤ 18 := by omega
    clear hwant hp18 hl18
    go_enter Try.func18, Try.ntmps18
    go_wp2_with (go_at_call 39; refine HS2.out.mono ?_; rintro e w' ⟨rfl, rfl⟩)
    refine (HL1.out _).mono ?_
    rintro e w2 ⟨rfl, rfl⟩
    have HX := (show Hid _ from hS18)
    clear hS18
    go_wp2_with fail
    refine (HL2.out _).mono ?_
    rintro e w3 ⟨rfl, rfl⟩
    clear hPI hDI
    go_wp2_with (at_builtin; refine wpList_append_run _ rfl _ _ 22 rfl _ _ _ _ rfl rfl hrun ?_)
    refine HM.out.mono ?_
    rintro e w4 ⟨l, rfl, -, rfl⟩
    cases hcb : codeB (M ++ [lw]) with
    | true =>
      go_wp2_with fail
      go_ret2
      exact ⟨.inl ⟨by rw [HLW.out]; exact hcb, _, rfl, by rw [HLW.out, ← HN'.out]; exact HF.out.1, HF.out.2.2⟩, HF.out.2.1⟩
    | false =>
      go_wp2_with fail
      go_ret2
      exact ⟨.inr ⟨by rw [HLW.out]; exact hcb, _, rfl⟩, HF.out.2.1⟩

end Go.Proofs.Ytkljidigmolmmaa

namespace Go.Proofs.Ytkljidigmolmmaa
open Go.RowKit Go.Shelf
set_option linter.unusedVariables false

/-- What tell answers: the weights told, or none. -/
def TellPost (T : Option (List Nat)) (w : World) (e : Ending) (w' : World) : Prop :=
  Keep noBlock w w' ∧ match T with
    | none => e = .returned (.tuple #[.slice none 0 0, .bool false])
    | some M => ∃ v, e = .returned (.tuple #[v, .bool true]) ∧ w'.ownsRow 0 5 1 v M.length (u8s M) ∧ ∀ k, v.ownBlock = some k → w.heap.size ≤ k
/-- All weights, if they make a code. -/
def readOf : Option (List Nat) → Option (List Nat)
  | none => none
  | some M => if codeB (M ++ [lastW M]) then some (M ++ [lastW M]) else none
theorem readOf_yes {M : List Nat} (h : codeB (M ++ [lastW M]) = true) : readOf (some M) = some (M ++ [lastW M]) := if_pos h
theorem readOf_no {M : List Nat} (h : codeB (M ++ [lastW M]) = false) : readOf (some M) = none := if_neg (by rw [h]; decide)
/-- What Read answers: all weights and the bytes used, or that there are none. -/
def ReadPost (R : Option (List Nat)) (u : Nat) (w : World) (e : Ending) (w' : World) : Prop :=
  Keep noBlock w w' ∧ match R with
    | none => e = .returned (.tuple #[.slice none 0 0, .int .i64 0, .int .i64 11])
    | some ws => ∃ v, e = .returned (.tuple #[v, .int .i64 (u : Int), .int .i64 0]) ∧ w'.ownsRow 0 5 1 v ws.length (u8s ws)

set_option maxRecDepth 100000 in
set_option maxHeartbeats 2000000 in
theorem read_short (a : Option Addr) (cap gb off : Nat) (bs : List Nat) (w : World) (hB : Bytes w a cap gb off bs) (hs : bs.length < usedN (bs[0]?.getD 0)) :
    Calls Try.prog 7 #[.slice a bs.length cap] w fun e w' => e = .returned (.tuple #[.slice none 0 0, .int .i64 0, .int .i64 10]) ∧ w' = w := by
  by_cases h0 : bs.length = 0
  · rw [h0]
    go_enter Try.func7, Try.ntmps7
    go_wp2
    exact bodyPost_ret (by simp [results, Try.results7]) rfl ⟨rfl, rfl⟩
  · obtain rfl := hB.here (i := 0) (by omega)
    have c0 := hB.cells 0 (by omega)
    have hx := hB.lt 0
    have HD := (show Hid (∀ w : World, _) from fun w => describedIn_any (bs[0]?.getD 0) hx w)
    rw [Nat.add_zero] at c0
    have h48 := hB.len
    obtain ⟨n, hn⟩ : ∃ n, n = bs.length := ⟨_, rfl⟩
    rw [← hn] at hs h0 h48 ⊢
    generalize bs[0]?.getD 0 = h at *
    generalize usedN h = u at *
    have hsI : (n : Int) < (u : Int) := by omega
    have hn0 : ((n : Int) == 0) = false := by rw [beq_eq_false_iff_ne]; omega
    have hn1 : (0 : Int) < (n : Int) := by omega
    clear hB hn h48
    go_enter Try.func7, Try.ntmps7
    go_wp2_with (go_at_call 16; refine (HD.out _).mono ?_; rintro e w' ⟨rfl, rfl⟩)
    exact bodyPost_ret (by simp [results, Try.results7]) rfl ⟨rfl, rfl⟩

section
attribute [local go_sem] sliceSem_eq
set_option maxRecDepth 100000 in
set_option maxHeartbeats 2000000 in
theorem read_told (a : Option Addr) (cap gb off : Nat) (bs : List Nat) (u : Nat) (T : Option (List Nat)) (w : World) (hB : Bytes w a cap gb off bs) (hne : bs ≠ []) (hu : u = usedN (bs[0]?.getD 0)) (hs : u ≤ bs.length)
    (hT : Calls Try.prog 17 #[.slice a (bs.take u).length cap] w fun e w' => TellPost T w e w') (hM : ∀ M, T = some M → M.length ≤ 255 ∧ ∀ j : Nat, M[j]?.getD 0 < 256) :
    Calls Try.prog 7 #[.slice a bs.length cap] w fun e w' => ReadPost (readOf T) u w e w' := by
  have hpos : 0 < bs.length := List.length_pos_iff.2 hne
  obtain rfl := hB.here (i := 0) hpos
  have c0 := hB.cells 0 hpos
  have hx := hB.lt 0
  have HD := (show Hid (∀ w : World, _) from fun w => describedIn_any (bs[0]?.getD 0) hx w)
  rw [← hu] at HD
  rw [Nat.add_zero] at c0
  have h48 := hB.len
  have hrun := (hB.take u hs).1
  have HT := (show Hid (Calls Try.prog 17 #[.slice (some ⟨gb, off, none⟩) (bs.take u).length cap] w fun e w' => TellPost T w e w') from hT)
  have hu256 : u ≤ 256 := by rw [hu]; unfold usedN; split <;> omega
  obtain ⟨n, hn⟩ : ∃ n, n = bs.length := ⟨_, rfl⟩
  obtain ⟨k, hk⟩ : ∃ k, k = (bs.take u).length := ⟨_, rfl⟩
  rw [← hn] at hs hpos h48 hrun ⊢
  rw [← hk] at HT hrun
  generalize bs[0]?.getD 0 = h at *
  have hsI : ¬ (n : Int) < (u : Int) := by omega
  have hn0 : ((n : Int) == 0) = false := by rw [beq_eq_false_iff_ne]; omega
  have hn1 : (0 : Int) < (n : Int) := by omega
  have huI : (u : Int) ≤ 256 := by omega
  clear hB hn h48 hT hu hk hne hu256
  cases T with
  | none =>
    go_enter Try.func7, Try.ntmps7
    go_wp2_with (first | (go_at_call 16; refine (HD.out _).mono ?_; rintro e w' ⟨rfl, rfl⟩) | (go_at_call 17; refine HT.out.mono ?_; rintro e w1 ⟨hK, rfl⟩))
    exact bodyPost_ret (by simp [results, Try.results7]) rfl ⟨hK, rfl⟩
  | some M =>
    obtain ⟨hl, hlt⟩ := hM M rfl
    have HM := (show Hid (M.length ≤ 255 ∧ ∀ j : Nat, M[j]?.getD 0 < 256) from ⟨hl, hlt⟩)
    clear hl hlt hM
    go_enter Try.func7, Try.ntmps7
    go_wp2_with (go_at_call 16; refine (HD.out _).mono ?_; rintro e w' ⟨rfl, rfl⟩)
    refine HT.out.mono ?_
    rintro e w1 ⟨hK, v, rfl, hown, hnew⟩
    have HL := (show Hid (Calls Try.prog 18 _ w1 _) from withLast_any _ v M w1 hown HM.out.2 HM.out.1 hnew hK.size)
    obtain ⟨sa, scap, rfl⟩ := owns_form hown
    have HK := (show Hid (Keep noBlock w' w1) from hK)
    clear hown hnew HT hK c0
    go_wp2_with fail
    refine HL.out.mono ?_
    rintro e w2 ⟨hP, hK2⟩
    have HK2 := (show Hid (Keep noBlock w' w2) from HK.out.trans hK2 (fun i hi e => by omega))
    rcases hP with ⟨hc, v2, rfl, hown2, hnew2⟩ | ⟨hc, v2, rfl⟩
    · obtain ⟨sb, bcap, rfl⟩ := owns_form hown2
      have HO := (show Hid (w2.ownsRow 0 5 1 (.slice sb (M ++ [lastW M]).length bcap) (M ++ [lastW M]).length (u8s (M ++ [lastW M])) ∧ readOf (some M) = some (M ++ [lastW M])) from ⟨hown2, readOf_yes hc⟩)
      obtain ⟨L, hL⟩ : ∃ L, L = (M ++ [lastW M]).length := ⟨_, rfl⟩
      rw [← hL] at HO ⊢
      have HLL := (show Hid (L = (M ++ [lastW M]).length) from hL)
      clear hL
      clear hown2 hnew2 hK2
      go_wp2_with fail
      refine bodyPost_ret (by simp [results, Try.results7]; rfl) rfl ⟨HK2.out, ?_⟩
      rw [HO.out.2]
      exact ⟨_, rfl, by rw [← HLL.out]; exact HO.out.1⟩
    · have HO := (show Hid (readOf (some M) = none) from readOf_no hc)
      clear hK2
      go_wp2_with fail
      refine bodyPost_ret (by simp [results, Try.results7]; rfl) rfl ⟨HK2.out, ?_⟩
      rw [HO.out]

set_option maxRecDepth 100000 in
set_option maxHeartbeats 2000000 in
/-- tell of weights of four bits. -/
theorem tell_fours (a : Option Addr) (cap gb off : Nat) (bs : List Nat) (n : Nat) (w : World) (hB : Bytes w a cap gb off bs) (hne : bs ≠ []) (h1 : bs[0]?.getD 0 = n + 127) (h2 : 1 ≤ n) (h3 : (n + 1) / 2 + 1 ≤ bs.length) :
    Calls Try.prog 17 #[.slice a bs.length cap] w fun e w' => TellPost (some ((List.range n).map (fourW (bs.drop 1)))) w e w' := by
  have hpos : 0 < bs.length := List.length_pos_iff.2 hne
  obtain rfl := hB.here (i := 0) hpos
  have c0 := hB.cells 0 hpos
  have hx := hB.lt 0
  rw [Nat.add_zero] at c0
  have h48 := hB.len
  obtain ⟨a', off', hrun, hB', -⟩ := hB.drop 1 hpos
  have HF := (show Hid (∀ q, Calls Try.prog 35 #[.slice a' (bs.drop 1).length (cap - 1), .int .i64 (n : Int)] (w.drewN q) _) from fun q => tellFours_any a' (cap - 1) gb off' (bs.drop 1) n (w.drewN q) (hB'.keep (keep_drewN w q) (fun _ h => h)) (by omega) (by rw [List.length_drop]; omega))
  obtain ⟨N, hN⟩ : ∃ N, N = bs.length := ⟨_, rfl⟩
  obtain ⟨k, hk⟩ : ∃ k, k = (bs.drop 1).length := ⟨_, rfl⟩
  obtain ⟨c', hc'⟩ : ∃ c', c' = cap - 1 := ⟨_, rfl⟩
  rw [← hk, ← hc'] at HF
  rw [← hN] at hpos h48 ⊢
  rw [← hN, ← hk, ← hc', show (((1 : Nat) : Int)) = (1 : Int) from rfl] at hrun
  obtain ⟨h, hh⟩ : ∃ h, h = bs[0]?.getD 0 := ⟨_, rfl⟩
  rw [← hh] at h1 hx c0
  have hgt : (127 : Int) < (h : Int) := by omega
  have hnI : (h : Int) - 127 = (n : Int) := by omega
  have hhI : (h : Int) < 256 := by omega
  have hp1 : (0 : Int) < (N : Int) := by omega
  have hML : ((List.range n).map (fourW (bs.drop 1))).length = n := by simp
  have HML := (show Hid _ from hML)
  clear hB hB' hN hk hc' hh h1 hx h48 hne h3 hML
  go_enter Try.func17, Try.ntmps17
  go_wp2_with fail
  go_quiet (fail)
  go_wp2_with (go_at_call 35; refine (HF.out _).mono ?_; rintro e w1 ⟨v, rfl, hown, hK, hnew⟩)
  go_ret2
  exact ⟨(keep_drewN w _).trans' hK, v, rfl, by rw [HML.out]; exact hown, hnew⟩
end

end Go.Proofs.Ytkljidigmolmmaa

namespace Go.Proofs.Ytkljidigmolmmaa
open Go.RowKit Go.Shelf
set_option linter.unusedVariables false

theorem wk_told : ((List.range 3).map (fourW ([130, 17, 32].drop 1))) = [1, 1, 2] := by decide +kernel
theorem wk_read : readOf (some [1, 1, 2]) = some [1, 1, 2, 3] := by decide +kernel
theorem wk_code : codeB [1, 1, 2, 3] = true := by decide +kernel
theorem wk_is : IsCode [1, 1, 2, 3] 3 := codeB_is wk_code
theorem wk_ok : packOk [1, 1, 2, 3] [3, 2, 0] = true := by decide +kernel
theorem wk_pack : pack (packL [1, 1, 2, 3] 3 [3, 2, 0] ++ [1]) = [104] := by decide +kernel
theorem wk_str4 : strOf [1, 1, 2, 3] = ⟨#[1, 1, 2, 3]⟩ := by decide
theorem wk_str1 : strOf [104] = ⟨#[104]⟩ := by decide

theorem wk_first (w : World) : Calls Try.prog 7 #[.slice (some ⟨w.heap.size, 0, none⟩) 3 3] (w.alloc (.cells #[.int .u8 130, .int .u8 17, .int .u8 32] 5)) fun e w' => ∃ v, e = .returned (.tuple #[v, .int .i64 3, .int .i64 0]) ∧ w'.ownsRow 0 5 1 v 4 (u8s [1, 1, 2, 3]) ∧ Keep noBlock (w.alloc (.cells #[.int .u8 130, .int .u8 17, .int .u8 32] 5)) w' := by
  have hB := bytes_new w [130, 17, 32] #[.int .u8 130, .int .u8 17, .int .u8 32] (0, 0) 3 rfl rfl (lt256 (by decide)) (by decide)
  have hT := tell_fours (some ⟨w.heap.size, 0, none⟩) 3 w.heap.size 0 [130, 17, 32] 3 _ hB (by decide) (by decide) (by decide) (by decide)
  rw [wk_told] at hT
  have := read_told (some ⟨w.heap.size, 0, none⟩) 3 w.heap.size 0 [130, 17, 32] 3 (some [1, 1, 2]) _ hB (by decide) (by decide) (by decide) hT (fun M hM => by cases hM; exact ⟨by decide, lt256 (by decide)⟩)
  rw [wk_read] at this
  refine this.mono ?_
  rintro e w' ⟨hk, v, rfl, ho⟩
  exact ⟨v, rfl, ho, hk⟩
theorem wk_third (w : World) : Calls Try.prog 7 #[.slice (some ⟨w.heap.size, 0, none⟩) 2 2] (w.alloc (.cells #[.int .u8 130, .int .u8 17] 5)) fun e w' => e = .returned (.tuple #[.slice none 0 0, .int .i64 0, .int .i64 10]) ∧ w' = w.alloc (.cells #[.int .u8 130, .int .u8 17] 5) := by
  have hB := bytes_new w [130, 17] #[.int .u8 130, .int .u8 17] (0, 0) 2 rfl rfl (lt256 (by decide)) (by decide)
  exact read_short (some ⟨w.heap.size, 0, none⟩) 2 w.heap.size 0 [130, 17] _ hB (by decide)
theorem wk_second (w : World) (v : Value) (hown : w.ownsRow 0 5 1 v 4 (u8s [1, 1, 2, 3])) : Calls Try.prog 10 #[v, .slice (some ⟨w.heap.size, 0, none⟩) 3 3] (w.alloc (.cells #[.int .u8 3, .int .u8 2, .int .u8 0] 5)) fun e w' => ∃ v', e = .returned (.tuple #[v', .int .i64 0]) ∧ w'.ownsRow 0 5 1 v' 1 (u8s [104]) ∧ w'.ownsRow 0 5 1 v 4 (u8s [1, 1, 2, 3]) ∧ Keep noBlock (w.alloc (.cells #[.int .u8 3, .int .u8 2, .int .u8 0] 5)) w' := by
  have hk : Keep noBlock w (w.alloc (.cells #[.int .u8 3, .int .u8 2, .int .u8 0] 5)) := (Keep.refl _ w).alloc _
  have hown2 := owns_kept hown hk (fun _ _ h => h)
  have hB2 := bytes_new w [3, 2, 0] #[.int .u8 3, .int .u8 2, .int .u8 0] (0, 0) 3 rfl rfl (lt256 (by decide)) (by decide)
  obtain ⟨a, cap, g, rfl, hB, -⟩ := owns_bytes (M := [1, 1, 2, 3]) hown2 (lt256 (by decide)) (by decide)
  refine (pack_any a cap g 0 [1, 1, 2, 3] 3 (some ⟨w.heap.size, 0, none⟩) 3 w.heap.size 0 [3, 2, 0] _ hB hB2 wk_is (by decide)).mono ?_
  rintro e w' ⟨hk2, ⟨_, v', rfl, ho⟩ | ⟨h, _⟩⟩
  · rw [wk_pack] at ho
    exact ⟨v', rfl, ho, owns_kept hown2 hk2 (fun _ _ h => h), hk2⟩
  · rw [wk_ok] at h; cases h

set_option maxRecDepth 100000 in
set_option maxHeartbeats 2000000 in
theorem wakes_any (w : World) : Calls Try.prog 9 #[] w fun e w' => e = .returned (.bool true) ∧ Keep noBlock w w' := by
  go_enter Try.func9, Try.ntmps9
  go_wp2_with fail
  refine (wk_first w).mono ?_
  rintro e w1 ⟨v, rfl, hown, hK1⟩
  have hKw1 : Keep noBlock w w1 := ((Keep.refl _ w).alloc _).trans' hK1
  clear hK1
  obtain ⟨a, cap, hv⟩ := owns_form hown
  subst hv
  go_wp2_with fail
  refine (wk_second w1 _ hown).mono ?_
  rintro e w2 ⟨v2, rfl, hown2, hown1, hK2⟩
  have hKw2 : Keep noBlock w w2 := (hKw1.alloc _).trans' hK2
  clear hK2 hKw1 hown
  obtain ⟨a2, cap2, hv2⟩ := owns_form hown2
  subst hv2
  go_wp2_with fail
  refine (wk_third w2).mono ?_
  rintro e w3 ⟨rfl, rfl⟩
  have hk3 : Keep noBlock w2 (w2.alloc (.cells #[.int .u8 130, .int .u8 17] 5)) := (Keep.refl _ w2).alloc _
  have hc1 := run_conv (Src.of_owns (bs := [1, 1, 2, 3]) (owns_kept hown1 hk3 (fun _ _ h => h)))
  have hc2 := run_conv (Src.of_owns (bs := [104]) (owns_kept hown2 hk3 (fun _ _ h => h)))
  rw [wk_str4] at hc1
  rw [wk_str1] at hc2
  have hKw3 := hKw2.trans' hk3
  generalize w2.alloc (.cells #[.int .u8 130, .int .u8 17] 5) = W3 at *
  clear hown1 hown2 hk3 hKw2
  go_wp2_with fail
  go_ret
  exact ⟨rfl, hKw3⟩

end Go.Proofs.Ytkljidigmolmmaa

namespace Go.Proofs.Ytkljidigmolmmaa
open Go.RowKit Go.Shelf
set_option linter.unusedVariables false

/-- Pack's error, and its bytes. -/
def packC (ws bs : List Nat) : Nat := if codeB ws then (if 131072 < bs.length then 2 else if packOk ws bs then 0 else 2) else 50
def packV (ws bs : List Nat) : List Nat := if packC ws bs = 0 then pack (packL ws (codeM ws) bs ++ [1]) else []
/-- Unpack's error, and its bytes. -/
def unpC (ws bs : List Nat) (n : Int) : Nat := if codeB ws then (if 0 ≤ n ∧ n ≤ 131072 then (if unpOk ws (codeM ws) bs n.toNat then 0 else 11) else 2) else 50
def unpV (ws bs : List Nat) (n : Int) : List Nat := if unpC ws bs n = 0 then (List.range n.toNat).map (symU ws (codeM ws) bs) else []
/-- An error, and bytes in a row of one's own. -/
def Ans (c : Nat) (bs : List Nat) (w : World) (e : Ending) (w' : World) : Prop :=
  Keep noBlock w w' ∧ ∃ a n cap, e = .returned (.tuple #[.slice a n cap, .int .i64 (c : Int)]) ∧ n = bs.length ∧ w'.ownsRow 0 5 1 (.slice a n cap) n (u8s bs)
theorem ans_none {c : Nat} {w w' : World} (hk : Keep noBlock w w') : Ans c [] w (.returned (.tuple #[.slice none 0 0, .int .i64 (c : Int)])) w' := ⟨hk, none, 0, 0, rfl, rfl, World.ownsRow_nil _ _ _ _⟩
theorem ans_row {c : Nat} {bs : List Nat} {v : Value} {w w' : World} (hk : Keep noBlock w w') (h : w'.ownsRow 0 5 1 v bs.length (u8s bs)) : Ans c bs w (.returned (.tuple #[v, .int .i64 (c : Int)])) w' := by
  obtain ⟨a, cap, rfl⟩ := owns_form h
  exact ⟨hk, a, _, cap, rfl, rfl, h⟩

theorem codeM_is {ws : List Nat} (h : codeB ws = true) : IsCode ws (codeM ws) := by
  have := codeB_is h
  unfold codeM
  rw [if_pos h]
  exact this
theorem packV_no {ws bs : List Nat} (h : packC ws bs ≠ 0) : packV ws bs = [] := if_neg h
theorem unpV_no {ws bs : List Nat} {n : Int} (h : unpC ws bs n ≠ 0) : unpV ws bs n = [] := if_neg h
theorem packV_lt (ws bs : List Nat) : ∀ j : Nat, (packV ws bs)[j]?.getD 0 < 256 := by
  unfold packV
  split
  · exact pack_lt _
  · intro j; simp
theorem unpV_lt (ws bs : List Nat) (n : Int) : ∀ j : Nat, (unpV ws bs n)[j]?.getD 0 < 256 := by
  by_cases h : unpC ws bs n = 0
  · have hc : codeB ws = true := by
      unfold unpC at h
      by_cases e : codeB ws = true
      · exact e
      · rw [if_neg e] at h; omega
    have hI := codeM_is hc
    unfold unpV
    rw [if_pos h]
    refine lt256 (fun b hb => ?_)
    obtain ⟨k, _, rfl⟩ := List.mem_map.1 hb
    have h1 := (hI.sym (strm bs (posU ws (codeM ws) bs k) (codeM ws)) (strm_lt _ _ _)).1
    have h2 := hI.len
    show symX ws (codeM ws) (strm bs (posU ws (codeM ws) bs k) (codeM ws)) < 256
    omega
  · rw [unpV_no h]; intro j; simp

theorem pk_cells (w : World) (c : Int) : ((w.alloc (.cells #[.slice none 0 0] 22)).alloc (.cells #[.int .i64 c] 23)).cell? ⟨w.heap.size, 0, none⟩ = some (.slice none 0 0) ∧ ((w.alloc (.cells #[.slice none 0 0] 22)).alloc (.cells #[.int .i64 c] 23)).cell? ⟨w.heap.size + 1, 0, none⟩ = some (.int .i64 c) := by
  refine ⟨cell_of (alloc_far (World.alloc_heap_new w _) _) 0, ?_⟩
  have := World.alloc_heap_new (w.alloc (.cells #[.slice none 0 0] 22)) (.cells #[.int .i64 c] 23)
  rw [World.size_alloc] at this
  exact cell_of this 0

set_option maxRecDepth 100000 in
set_option maxHeartbeats 2000000 in
theorem pack_all (a : Option Addr) (cap gb off : Nat) (ws : List Nat) (a2 : Option Addr) (cap2 gb2 off2 : Nat) (bs : List Nat) (w : World) (hB : Bytes w a cap gb off ws) (hB2 : Bytes w a2 cap2 gb2 off2 bs) :
    Calls Try.prog 10 #[.slice a ws.length cap, .slice a2 bs.length cap2] w fun e w' => Ans (packC ws bs) (packV ws bs) w e w' := by
  cases hc : codeB ws with
  | false =>
    have e1 : packC ws bs = 50 := by unfold packC; rw [hc]; rfl
    have e2 := packV_no (ws := ws) (bs := bs) (by omega)
    rw [e1, e2]
    have HM := (show Hid (∀ W, Keep noBlock w W → Calls Try.prog 21 #[.slice a ws.length cap] W fun e w' => ∃ l, e = .returned (.tuple #[.int .i64 l, .bool false]) ∧ w' = W) from fun W hk => made_not hc (hB.keep hk (fun _ h => h)))
    generalize ws.length = n1 at *
    generalize bs.length = n2 at *
    clear hB hB2
    refine (callsIn_wide (n := 4)).1 ?_
    refine callsIn_of_wp_marks Try.func10 rfl trivial ?_ rfl
    simp only [Try.ntmps10, List.size_toArray, List.length_cons, List.length_nil, Nat.reduceAdd, Nat.reduceSub, Array.replicate_succ, Array.replicate_zero, List.push_toArray, List.append_toArray, List.nil_append, List.cons_append]
    gi_wp2_with (refine ⟨trivial, ?_⟩; gi_at_call 21; refine (callsIn_wide.2 (HM.out _ (((Keep.refl _ w).alloc _).alloc _))).mono ?_; rintro e w' ⟨l, rfl, rfl⟩)
    exact ⟨_, results_cell2 rfl _ _ _ ⟨w.heap.size, 0, none⟩ ⟨w.heap.size + 1, 0, none⟩ (.slice none 0 0) (.int .i64 50) rfl rfl (loadVar22 (pk_cells w 50).1) (loadVar23 (pk_cells w 50).2), ans_none (((Keep.refl _ w).alloc _).alloc _)⟩
  | true =>
    have hI := codeM_is hc
    by_cases hl : 131072 < bs.length
    · have e1 : packC ws bs = 2 := by unfold packC; rw [if_pos hc, if_pos hl]
      have e2 := packV_no (ws := ws) (bs := bs) (by omega)
      rw [e1, e2]
      have HM := (show Hid (∀ W, Keep noBlock w W → Calls Try.prog 21 #[.slice a ws.length cap] W fun e w' => e = .returned (.tuple #[.int .i64 ((codeM ws : Nat) : Int), .bool true]) ∧ w' = W) from fun W hk => made_is hI (hB.keep hk (fun _ h => h)))
      have h48 := hB2.len
      have hlI : (131072 : Int) < ((bs.length : Nat) : Int) := by omega
      generalize ws.length = n1 at *
      generalize bs.length = n2 at *
      clear hB hB2 hI hl h48
      refine (callsIn_wide (n := 4)).1 ?_
      refine callsIn_of_wp_marks Try.func10 rfl trivial ?_ rfl
      simp only [Try.ntmps10, List.size_toArray, List.length_cons, List.length_nil, Nat.reduceAdd, Nat.reduceSub, Array.replicate_succ, Array.replicate_zero, List.push_toArray, List.append_toArray, List.nil_append, List.cons_append]
      gi_wp2_with (refine ⟨trivial, ?_⟩; gi_at_call 21; refine (callsIn_wide.2 (HM.out _ (((Keep.refl _ w).alloc _).alloc _))).mono ?_; rintro e w' ⟨rfl, rfl⟩)
      exact ⟨_, results_cell2 rfl _ _ _ ⟨w.heap.size, 0, none⟩ ⟨w.heap.size + 1, 0, none⟩ (.slice none 0 0) (.int .i64 2) rfl rfl (loadVar22 (pk_cells w 2).1) (loadVar23 (pk_cells w 2).2), ans_none (((Keep.refl _ w).alloc _).alloc _)⟩
    · refine (pack_any a cap gb off ws (codeM ws) a2 cap2 gb2 off2 bs w hB hB2 hI (by omega)).mono ?_
      rintro e w' ⟨hk, ⟨h1, v, rfl, h2⟩ | ⟨h1, rfl⟩⟩
      · have e1 : packC ws bs = 0 := by unfold packC; rw [if_pos hc, if_neg hl, if_pos h1]
        have e2 : packV ws bs = pack (packL ws (codeM ws) bs ++ [1]) := if_pos e1
        rw [e1, e2]
        exact ans_row hk h2
      · have e1 : packC ws bs = 2 := by unfold packC; rw [if_pos hc, if_neg hl, h1]; rfl
        have e2 := packV_no (ws := ws) (bs := bs) (by omega)
        rw [e1, e2]
        exact ans_none hk

set_option maxRecDepth 100000 in
set_option maxHeartbeats 2000000 in
theorem unpack_all (a : Option Addr) (cap gb off : Nat) (ws : List Nat) (a2 : Option Addr) (cap2 gb2 off2 : Nat) (bs : List Nat) (n : Int) (w : World) (hB : Bytes w a cap gb off ws) (hB2 : Bytes w a2 cap2 gb2 off2 bs) (hl : bs.length ≤ 140737488351232) :
    Calls Try.prog 12 #[.slice a ws.length cap, .slice a2 bs.length cap2, .int .i64 n] w fun e w' => Ans (unpC ws bs n) (unpV ws bs n) w e w' := by
  cases hc : codeB ws with
  | false =>
    have e1 : unpC ws bs n = 50 := by unfold unpC; rw [hc]; rfl
    have e2 := unpV_no (ws := ws) (bs := bs) (n := n) (by omega)
    rw [e1, e2]
    have HM := (show Hid (Calls Try.prog 21 #[.slice a ws.length cap] w fun e w' => ∃ l, e = .returned (.tuple #[.int .i64 l, .bool false]) ∧ w' = w) from made_not hc hB)
    generalize ws.length = n1 at *
    generalize bs.length = n2 at *
    clear hB hB2 hl
    go_enter Try.func12, Try.ntmps12
    go_wp2_with (go_at_call 21; refine HM.out.mono ?_; rintro e w' ⟨l, rfl, rfl⟩)
    go_ret2
    exact ans_none (Keep.refl _ _)
  | true =>
    have hI := codeM_is hc
    by_cases hn : 0 ≤ n ∧ n ≤ 131072
    · obtain ⟨k, rfl⟩ := Int.eq_ofNat_of_zero_le hn.1
      refine (unpack_any a cap gb off ws (codeM ws) a2 cap2 gb2 off2 bs k w hB hB2 hI hl (by omega)).mono ?_
      rintro e w' ⟨hk, ⟨h1, v, rfl, h2⟩ | ⟨h1, rfl⟩⟩
      · have e1 : unpC ws bs (k : Int) = 0 := by unfold unpC; rw [if_pos hc, if_pos hn, Int.toNat_natCast, if_pos h1]
        have e2 : unpV ws bs (k : Int) = (List.range k).map (symU ws (codeM ws) bs) := if_pos e1
        rw [e1, e2]
        refine ans_row hk ?_
        rw [show ((List.range k).map (symU ws (codeM ws) bs)).length = k from by simp]
        exact h2
      · have e1 : unpC ws bs (k : Int) = 11 := by unfold unpC; rw [if_pos hc, if_pos hn, Int.toNat_natCast, h1]; rfl
        have e2 := unpV_no (ws := ws) (bs := bs) (n := (k : Int)) (by omega)
        rw [e1, e2]
        exact ans_none hk
    · have e1 : unpC ws bs n = 2 := by unfold unpC; rw [if_pos hc, if_neg hn]
      have e2 := unpV_no (ws := ws) (bs := bs) (n := n) (by omega)
      rw [e1, e2]
      have HM := (show Hid (Calls Try.prog 21 #[.slice a ws.length cap] w fun e w' => e = .returned (.tuple #[.int .i64 ((codeM ws : Nat) : Int), .bool true]) ∧ w' = w) from made_is hI hB)
      generalize ws.length = n1 at *
      generalize bs.length = n2 at *
      clear hB hB2 hl hI
      by_cases h0 : n < 0
      · go_enter Try.func12, Try.ntmps12
        go_wp2_with (go_at_call 21; refine HM.out.mono ?_; rintro e w' ⟨rfl, rfl⟩)
        go_ret2
        exact ans_none (Keep.refl _ _)
      · have h1 : 131072 < n := by omega
        go_enter Try.func12, Try.ntmps12
        go_wp2_with (go_at_call 21; refine HM.out.mono ?_; rintro e w' ⟨rfl, rfl⟩)
        go_ret2
        exact ans_none (Keep.refl _ _)

end Go.Proofs.Ytkljidigmolmmaa

namespace Go.Proofs.Ytkljidigmolmmaa
open Go.RowKit Go.Shelf
set_option linter.unusedVariables false

theorem there1 {ws bs : List Nat} (h : packC ws bs = 0) (hl : bs.length ≤ 131072) : unpC ws (packV ws bs) (bs.length : Int) = 0 ∧ unpV ws (packV ws bs) (bs.length : Int) = bs := by
  have hv : packV ws bs = pack (packL ws (codeM ws) bs ++ [1]) := if_pos h
  unfold packC at h
  by_cases hc : codeB ws = true
  · rw [if_pos hc, if_neg (by omega)] at h
    by_cases hok : packOk ws bs = true
    · have hI := codeM_is hc
      have h1 := unp_pack hI bs hok
      have e1 : unpC ws (packV ws bs) (bs.length : Int) = 0 := by
        unfold unpC
        rw [if_pos hc, if_pos ⟨by omega, by omega⟩, Int.toNat_natCast, hv, if_pos h1]
      refine ⟨e1, ?_⟩
      unfold unpV
      rw [if_pos e1, Int.toNat_natCast, hv]
      exact pack_text hI bs hok
    · rw [if_neg hok] at h; omega
  · rw [if_neg hc] at h; omega
theorem there2 {ws bs : List Nat} {n : Int} (h : unpC ws bs n = 0) (hlt : ∀ j : Nat, bs[j]?.getD 0 < 256) : packC ws (unpV ws bs n) = 0 ∧ packV ws (unpV ws bs n) = bs ∧ (unpV ws bs n).length ≤ 131072 := by
  have hv : unpV ws bs n = (List.range n.toNat).map (symU ws (codeM ws) bs) := if_pos h
  unfold unpC at h
  by_cases hc : codeB ws = true
  · rw [if_pos hc] at h
    by_cases hn : 0 ≤ n ∧ n ≤ 131072
    · rw [if_pos hn] at h
      by_cases hok : unpOk ws (codeM ws) bs n.toNat = true
      · obtain ⟨h1, h2⟩ := pack_unp (codeM_is hc) bs n.toNat hlt hok
        have hl : (unpV ws bs n).length ≤ 131072 := by rw [hv]; simp; omega
        have e1 : packC ws (unpV ws bs n) = 0 := by
          unfold packC
          rw [if_pos hc, if_neg (by omega), hv, if_pos h1]
        refine ⟨e1, ?_, hl⟩
        unfold packV
        rw [if_pos e1, hv]
        exact h2
      · rw [if_neg hok] at h; omega
    · rw [if_neg hn] at h; omega
  · rw [if_neg hc] at h; omega

section
attribute [local go_sem] sliceSem_eq minSem_eq
set_option maxRecDepth 100000 in
set_option maxHeartbeats 8000000 in
theorem there_any (a1 : Option Addr) (cap1 gb1 off1 : Nat) (ws : List Nat) (a2 : Option Addr) (cap2 gb2 off2 : Nat) (bs : List Nat) (a3 : Option Addr) (cap3 gb3 off3 : Nat) (ps : List Nat) (n : Int) (w : World)
    (hB1 : Bytes w a1 cap1 gb1 off1 ws) (hB2 : Bytes w a2 cap2 gb2 off2 bs) (hB3 : Bytes w a3 cap3 gb3 off3 ps) (hl : ps.length ≤ 140737488351232) :
    Calls Try.prog 6 #[.slice a1 ws.length cap1, .slice a2 bs.length cap2, .slice a3 ps.length cap3, .int .i64 n] w fun e w' => e = .returned (.bool true) ∧ Keep noBlock w w' := by
  obtain ⟨cs, hcs, hcl, hBc, hsl⟩ : ∃ cs, (bs.length ≤ 3000 → cs = bs) ∧ cs.length ≤ 3000 ∧ Bytes w a2 cap2 gb2 off2 cs ∧ (3000 < bs.length → ∀ W, (sliceSem 22 (.slice a2 bs.length cap2) none (some (.int .i64 ((3000 : Nat) : Int))) none).run Try.prog W = .ok (.slice a2 cs.length cap2) W) := by
    by_cases h : bs.length ≤ 3000
    · exact ⟨bs, fun _ => rfl, h, hB2, fun q => by omega⟩
    · have := hB2.take 3000 (by omega)
      exact ⟨bs.take 3000, fun q => by omega, by rw [List.length_take]; omega, this.2, fun _ => this.1⟩
  obtain ⟨nn, hnn⟩ : ∃ nn : Int, nn = min n 3000 := ⟨_, rfl⟩
  have hmin : ∀ W : World, _ := fun W => minSem_run .i64 #[3, 3] 3 n 3000 nn hnn W
  have HP := (show Hid (Calls Try.prog 10 #[.slice a1 ws.length cap1, .slice a2 cs.length cap2] w fun e w' => Ans (packC ws cs) (packV ws cs) w e w') from pack_all a1 cap1 gb1 off1 ws a2 cap2 gb2 off2 cs w hB1 hBc)
  have HU := (show Hid (∀ W, Keep noBlock w W → Calls Try.prog 12 #[.slice a1 ws.length cap1, .slice a3 ps.length cap3, .int .i64 nn] W fun e w' => Ans (unpC ws ps nn) (unpV ws ps nn) W e w') from fun W hk => unpack_all a1 cap1 gb1 off1 ws a3 cap3 gb3 off3 ps nn W (hB1.keep hk (fun _ h => h)) (hB3.keep hk (fun _ h => h)) hl)
  have HH := (show Hid (Bytes w a1 cap1 gb1 off1 ws ∧ Bytes w a2 cap2 gb2 off2 cs ∧ Bytes w a3 cap3 gb3 off3 ps ∧ cs.length ≤ 3000) from ⟨hB1, hBc, hB3, hcl⟩)
  obtain ⟨n1, hn1⟩ : ∃ n1, n1 = ws.length := ⟨_, rfl⟩
  obtain ⟨n2, hn2⟩ : ∃ n2, n2 = bs.length := ⟨_, rfl⟩
  obtain ⟨n3, hn3⟩ : ∃ n3, n3 = ps.length := ⟨_, rfl⟩
  obtain ⟨nc, hnc⟩ : ∃ nc, nc = cs.length := ⟨_, rfl⟩
  have h48 := hB2.len
  rw [← hn1] at HP HU ⊢
  rw [← hn2] at hcs hsl h48 ⊢
  rw [← hn3] at HU hl ⊢
  rw [← hnc] at HP hcl hsl
  have HL := (show Hid (n1 = ws.length ∧ n3 = ps.length ∧ nc = cs.length) from ⟨hn1, hn3, hnc⟩)
  have hcn : n2 ≤ 3000 → nc = n2 := fun h => by rw [hnc, hcs h, hn2]
  clear hB1 hB2 hB3 hBc hn1 hn2 hn3 hnc hcs hnn
  have hncI : (nc : Int) ≤ 3000 := by omega
  have hn2I : (n2 : Int) < 281474976710656 := by omega
  go_enter Try.func6, Try.ntmps6
  by_cases hbig : 3000 < n2
  · have hbI : (3000 : Int) < (n2 : Int) := by omega
    have hs := hsl hbig
    rw [show (((3000 : Nat) : Int)) = (3000 : Int) from rfl] at hs
    clear hcn hsl h48 hn2I
    go_wp2_with fail
    refine HP.out.mono ?_
    rintro e w1 ⟨hK1, xa, xn, xc, rfl, hxn, hown1⟩
    by_cases hp : packC ws cs = 0
    · obtain ⟨t1, t2⟩ := there1 hp (by have := HH.out.2.2.2; omega)
      have hown2 : w1.ownsRow 0 5 1 (.slice xa xn xc) (packV ws cs).length (u8s (packV ws cs)) := by rw [← hxn]; exact hown1
      have hvl : (packV ws cs).length ≤ 140737488351232 := by
        have e1 : packV ws cs = pack (packL ws (codeM ws) cs ++ [1]) := if_pos hp
        have e2 := packL_len ws (codeM ws) cs
        have e3 : codeM ws ≤ 11 := by
          unfold codeM
          split
          · rename_i q; exact (codeB_is q).m11
          · omega
        have e4 : (codeM ws + 1) * cs.length ≤ 12 * 3000 := Nat.mul_le_mul (by omega) HH.out.2.2.2
        rw [e1, pack_length, List.length_append]
        simp
        omega
      obtain ⟨xa', xc', xg, hxe, hxB, -⟩ := owns_bytes hown2 (packV_lt ws cs) (by omega)
      rw [Value.slice.injEq] at hxe
      obtain ⟨rfl, -, rfl⟩ := hxe
      have HU1 := (show Hid (Calls Try.prog 12 #[.slice a1 n1 cap1, .slice xa xn xc, .int .i64 (nc : Int)] w1 fun e w' => Ans 0 cs w1 e w') from by
        have := unpack_all a1 cap1 gb1 off1 ws xa xc xg 0 (packV ws cs) (cs.length : Int) w1 (HH.out.1.keep hK1 (fun _ h => h)) hxB hvl
        rw [t1, t2, ← HL.out.1, ← HL.out.2.2, ← hxn] at this
        exact this)
      rw [hp, show (((0 : Nat) : Int)) = (0 : Int) from rfl]
      have HK1 := (show Hid (Keep noBlock w w1) from hK1)
      clear hxB hown1 hown2 hvl t1 t2 hxn hp hK1
      go_wp2_with fail
      refine HU1.out.mono ?_
      rintro e w2 ⟨hK2, va, vn, vc, rfl, hvn, hown3⟩
      have hK2w := HK1.out.trans' hK2
      have hc1 := run_conv (Src.of_owns (bs := cs) (by rw [hvn] at hown3; exact hown3))
      rw [← hvn] at hc1
      have hc2 := run_convB (HH.out.2.1.keep hK2w (fun _ h => h)).src
      rw [← HL.out.2.2] at hc2
      generalize strOf cs = S1 at hc1 hc2
      rw [show (((0 : Nat) : Int)) = (0 : Int) from rfl]
      have HKA := (show Hid (Keep noBlock w w2) from hK2w)
      clear hown3 hK2 hK2w hvn HU1 HK1
      go_wp2_with fail
      refine (HU.out _ HKA.out).mono ?_
      rintro e w5 ⟨hK5, ya, yn, yc, rfl, hyn, hown5⟩
      have HK5 := (show Hid (Keep noBlock w w5) from HKA.out.trans' hK5)
      by_cases hu : unpC ws ps nn = 0
      · obtain ⟨t1, t2, t3⟩ := there2 hu HH.out.2.2.1.lt
        rw [hu, show (((0 : Nat) : Int)) = (0 : Int) from rfl]
        have hown6 : w5.ownsRow 0 5 1 (.slice ya yn yc) (unpV ws ps nn).length (u8s (unpV ws ps nn)) := by rw [← hyn]; exact hown5
        obtain ⟨ya', yc', yg, hye, hyB, -⟩ := owns_bytes hown6 (unpV_lt ws ps nn) (by omega)
        rw [Value.slice.injEq] at hye
        obtain ⟨rfl, -, rfl⟩ := hye
        have HPk := (show Hid (Calls Try.prog 10 #[.slice a1 n1 cap1, .slice ya yn yc] w5 fun e w' => Ans 0 ps w5 e w') from by
          have := pack_all a1 cap1 gb1 off1 ws ya yc yg 0 (unpV ws ps nn) w5 (HH.out.1.keep HK5.out (fun _ h => h)) hyB
          rw [t1, t2, ← HL.out.1, ← hyn] at this
          exact this)
        clear hyB hown5 hown6 t1 t2 t3 hK5 hyn hu HKA
        go_wp2_with fail
        refine HPk.out.mono ?_
        rintro e w6 ⟨hK6, za, zn, zc, rfl, hzn, hown7⟩
        have hK6w := HK5.out.trans' hK6
        have hc1 := run_conv (Src.of_owns (bs := ps) (by rw [hzn] at hown7; exact hown7))
        rw [← hzn] at hc1
        have hc2 := run_convB (HH.out.2.2.1.keep hK6w (fun _ h => h)).src
        rw [← HL.out.2.1] at hc2
        generalize strOf ps = S3 at hc1 hc2
        rw [show (((0 : Nat) : Int)) = (0 : Int) from rfl]
        have HK6 := (show Hid (Keep noBlock w w6) from hK6w)
        clear hown7 hK6 hK6w hzn HPk HK5
        go_wp2_with (go_at_call 9; refine (wakes_any _).mono ?_; rintro e w7 ⟨rfl, hK7⟩)
        go_ret
        exact ⟨rfl, HK6.out.trans' hK7⟩
      · have hy0 : yn = 0 := by rw [hyn, unpV_no hu]; rfl
        subst hy0
        have hne : (((unpC ws ps nn : Nat) : Int) != 0) = true := by simp; omega
        clear hown5 hK5 hyn
        generalize unpC ws ps nn = uc at *
        go_wp2_with (go_at_call 9; refine (wakes_any _).mono ?_; rintro e w7 ⟨rfl, hK7⟩)
        go_ret
        exact ⟨rfl, HK5.out.trans' hK7⟩
    · have hne : (((packC ws cs : Nat) : Int) == 0) = false := by rw [beq_eq_false_iff_ne]; omega
      have HKA := (show Hid (Keep noBlock w w1) from hK1)
      clear hown1 hxn hK1
      generalize packC ws cs = pc at *
      go_wp2_with fail
      refine (HU.out _ HKA.out).mono ?_
      rintro e w5 ⟨hK5, ya, yn, yc, rfl, hyn, hown5⟩
      have HK5 := (show Hid (Keep noBlock w w5) from HKA.out.trans' hK5)
      by_cases hu : unpC ws ps nn = 0
      · obtain ⟨t1, t2, t3⟩ := there2 hu HH.out.2.2.1.lt
        rw [hu, show (((0 : Nat) : Int)) = (0 : Int) from rfl]
        have hown6 : w5.ownsRow 0 5 1 (.slice ya yn yc) (unpV ws ps nn).length (u8s (unpV ws ps nn)) := by rw [← hyn]; exact hown5
        obtain ⟨ya', yc', yg, hye, hyB, -⟩ := owns_bytes hown6 (unpV_lt ws ps nn) (by omega)
        rw [Value.slice.injEq] at hye
        obtain ⟨rfl, -, rfl⟩ := hye
        have HPk := (show Hid (Calls Try.prog 10 #[.slice a1 n1 cap1, .slice ya yn yc] w5 fun e w' => Ans 0 ps w5 e w') from by
          have := pack_all a1 cap1 gb1 off1 ws ya yc yg 0 (unpV ws ps nn) w5 (HH.out.1.keep HK5.out (fun _ h => h)) hyB
          rw [t1, t2, ← HL.out.1, ← hyn] at this
          exact this)
        clear hyB hown5 hown6 t1 t2 t3 hK5 hyn hu HKA
        go_wp2_with fail
        refine HPk.out.mono ?_
        rintro e w6 ⟨hK6, za, zn, zc, rfl, hzn, hown7⟩
        have hK6w := HK5.out.trans' hK6
        have hc1 := run_conv (Src.of_owns (bs := ps) (by rw [hzn] at hown7; exact hown7))
        rw [← hzn] at hc1
        have hc2 := run_convB (HH.out.2.2.1.keep hK6w (fun _ h => h)).src
        rw [← HL.out.2.1] at hc2
        generalize strOf ps = S3 at hc1 hc2
        rw [show (((0 : Nat) : Int)) = (0 : Int) from rfl]
        have HK6 := (show Hid (Keep noBlock w w6) from hK6w)
        clear hown7 hK6 hK6w hzn HPk HK5
        go_wp2_with (go_at_call 9; refine (wakes_any _).mono ?_; rintro e w7 ⟨rfl, hK7⟩)
        go_ret
        exact ⟨rfl, HK6.out.trans' hK7⟩
      · have hy0 : yn = 0 := by rw [hyn, unpV_no hu]; rfl
        subst hy0
        have hne : (((unpC ws ps nn : Nat) : Int) != 0) = true := by simp; omega
        clear hown5 hK5 hyn
        generalize unpC ws ps nn = uc at *
        go_wp2_with (go_at_call 9; refine (wakes_any _).mono ?_; rintro e w7 ⟨rfl, hK7⟩)
        go_ret
        exact ⟨rfl, HK5.out.trans' hK7⟩
  · have hbI : ¬ (3000 : Int) < (n2 : Int) := by omega
    obtain rfl := hcn (by omega)
    clear hcn hsl h48 hn2I
    go_wp2_with fail
    refine HP.out.mono ?_
    rintro e w1 ⟨hK1, xa, xn, xc, rfl, hxn, hown1⟩
    by_cases hp : packC ws cs = 0
    · obtain ⟨t1, t2⟩ := there1 hp (by have := HH.out.2.2.2; omega)
      have hown2 : w1.ownsRow 0 5 1 (.slice xa xn xc) (packV ws cs).length (u8s (packV ws cs)) := by rw [← hxn]; exact hown1
      have hvl : (packV ws cs).length ≤ 140737488351232 := by
        have e1 : packV ws cs = pack (packL ws (codeM ws) cs ++ [1]) := if_pos hp
        have e2 := packL_len ws (codeM ws) cs
        have e3 : codeM ws ≤ 11 := by
          unfold codeM
          split
          · rename_i q; exact (codeB_is q).m11
          · omega
        have e4 : (codeM ws + 1) * cs.length ≤ 12 * 3000 := Nat.mul_le_mul (by omega) HH.out.2.2.2
        rw [e1, pack_length, List.length_append]
        simp
        omega
      obtain ⟨xa', xc', xg, hxe, hxB, -⟩ := owns_bytes hown2 (packV_lt ws cs) (by omega)
      rw [Value.slice.injEq] at hxe
      obtain ⟨rfl, -, rfl⟩ := hxe
      have HU1 := (show Hid (Calls Try.prog 12 #[.slice a1 n1 cap1, .slice xa xn xc, .int .i64 (nc : Int)] w1 fun e w' => Ans 0 cs w1 e w') from by
        have := unpack_all a1 cap1 gb1 off1 ws xa xc xg 0 (packV ws cs) (cs.length : Int) w1 (HH.out.1.keep hK1 (fun _ h => h)) hxB hvl
        rw [t1, t2, ← HL.out.1, ← HL.out.2.2, ← hxn] at this
        exact this)
      rw [hp, show (((0 : Nat) : Int)) = (0 : Int) from rfl]
      have HK1 := (show Hid (Keep noBlock w w1) from hK1)
      clear hxB hown1 hown2 hvl t1 t2 hxn hp hK1
      go_wp2_with fail
      refine HU1.out.mono ?_
      rintro e w2 ⟨hK2, va, vn, vc, rfl, hvn, hown3⟩
      have hK2w := HK1.out.trans' hK2
      have hc1 := run_conv (Src.of_owns (bs := cs) (by rw [hvn] at hown3; exact hown3))
      rw [← hvn] at hc1
      have hc2 := run_convB (HH.out.2.1.keep hK2w (fun _ h => h)).src
      rw [← HL.out.2.2] at hc2
      generalize strOf cs = S1 at hc1 hc2
      rw [show (((0 : Nat) : Int)) = (0 : Int) from rfl]
      have HKA := (show Hid (Keep noBlock w w2) from hK2w)
      clear hown3 hK2 hK2w hvn HU1 HK1
      go_wp2_with fail
      refine (HU.out _ HKA.out).mono ?_
      rintro e w5 ⟨hK5, ya, yn, yc, rfl, hyn, hown5⟩
      have HK5 := (show Hid (Keep noBlock w w5) from HKA.out.trans' hK5)
      by_cases hu : unpC ws ps nn = 0
      · obtain ⟨t1, t2, t3⟩ := there2 hu HH.out.2.2.1.lt
        rw [hu, show (((0 : Nat) : Int)) = (0 : Int) from rfl]
        have hown6 : w5.ownsRow 0 5 1 (.slice ya yn yc) (unpV ws ps nn).length (u8s (unpV ws ps nn)) := by rw [← hyn]; exact hown5
        obtain ⟨ya', yc', yg, hye, hyB, -⟩ := owns_bytes hown6 (unpV_lt ws ps nn) (by omega)
        rw [Value.slice.injEq] at hye
        obtain ⟨rfl, -, rfl⟩ := hye
        have HPk := (show Hid (Calls Try.prog 10 #[.slice a1 n1 cap1, .slice ya yn yc] w5 fun e w' => Ans 0 ps w5 e w') from by
          have := pack_all a1 cap1 gb1 off1 ws ya yc yg 0 (unpV ws ps nn) w5 (HH.out.1.keep HK5.out (fun _ h => h)) hyB
          rw [t1, t2, ← HL.out.1, ← hyn] at this
          exact this)
        clear hyB hown5 hown6 t1 t2 t3 hK5 hyn hu HKA
        go_wp2_with fail
        refine HPk.out.mono ?_
        rintro e w6 ⟨hK6, za, zn, zc, rfl, hzn, hown7⟩
        have hK6w := HK5.out.trans' hK6
        have hc1 := run_conv (Src.of_owns (bs := ps) (by rw [hzn] at hown7; exact hown7))
        rw [← hzn] at hc1
        have hc2 := run_convB (HH.out.2.2.1.keep hK6w (fun _ h => h)).src
        rw [← HL.out.2.1] at hc2
        generalize strOf ps = S3 at hc1 hc2
        rw [show (((0 : Nat) : Int)) = (0 : Int) from rfl]
        have HK6 := (show Hid (Keep noBlock w w6) from hK6w)
        clear hown7 hK6 hK6w hzn HPk HK5
        go_wp2_with (go_at_call 9; refine (wakes_any _).mono ?_; rintro e w7 ⟨rfl, hK7⟩)
        go_ret
        exact ⟨rfl, HK6.out.trans' hK7⟩
      · have hy0 : yn = 0 := by rw [hyn, unpV_no hu]; rfl
        subst hy0
        have hne : (((unpC ws ps nn : Nat) : Int) != 0) = true := by simp; omega
        clear hown5 hK5 hyn
        generalize unpC ws ps nn = uc at *
        go_wp2_with (go_at_call 9; refine (wakes_any _).mono ?_; rintro e w7 ⟨rfl, hK7⟩)
        go_ret
        exact ⟨rfl, HK5.out.trans' hK7⟩
    · have hne : (((packC ws cs : Nat) : Int) == 0) = false := by rw [beq_eq_false_iff_ne]; omega
      have HKA := (show Hid (Keep noBlock w w1) from hK1)
      clear hown1 hxn hK1
      generalize packC ws cs = pc at *
      go_wp2_with fail
      refine (HU.out _ HKA.out).mono ?_
      rintro e w5 ⟨hK5, ya, yn, yc, rfl, hyn, hown5⟩
      have HK5 := (show Hid (Keep noBlock w w5) from HKA.out.trans' hK5)
      by_cases hu : unpC ws ps nn = 0
      · obtain ⟨t1, t2, t3⟩ := there2 hu HH.out.2.2.1.lt
        rw [hu, show (((0 : Nat) : Int)) = (0 : Int) from rfl]
        have hown6 : w5.ownsRow 0 5 1 (.slice ya yn yc) (unpV ws ps nn).length (u8s (unpV ws ps nn)) := by rw [← hyn]; exact hown5
        obtain ⟨ya', yc', yg, hye, hyB, -⟩ := owns_bytes hown6 (unpV_lt ws ps nn) (by omega)
        rw [Value.slice.injEq] at hye
        obtain ⟨rfl, -, rfl⟩ := hye
        have HPk := (show Hid (Calls Try.prog 10 #[.slice a1 n1 cap1, .slice ya yn yc] w5 fun e w' => Ans 0 ps w5 e w') from by
          have := pack_all a1 cap1 gb1 off1 ws ya yc yg 0 (unpV ws ps nn) w5 (HH.out.1.keep HK5.out (fun _ h => h)) hyB
          rw [t1, t2, ← HL.out.1, ← hyn] at this
          exact this)
        clear hyB hown5 hown6 t1 t2 t3 hK5 hyn hu HKA
        go_wp2_with fail
        refine HPk.out.mono ?_
        rintro e w6 ⟨hK6, za, zn, zc, rfl, hzn, hown7⟩
        have hK6w := HK5.out.trans' hK6
        have hc1 := run_conv (Src.of_owns (bs := ps) (by rw [hzn] at hown7; exact hown7))
        rw [← hzn] at hc1
        have hc2 := run_convB (HH.out.2.2.1.keep hK6w (fun _ h => h)).src
        rw [← HL.out.2.1] at hc2
        generalize strOf ps = S3 at hc1 hc2
        rw [show (((0 : Nat) : Int)) = (0 : Int) from rfl]
        have HK6 := (show Hid (Keep noBlock w w6) from hK6w)
        clear hown7 hK6 hK6w hzn HPk HK5
        go_wp2_with (go_at_call 9; refine (wakes_any _).mono ?_; rintro e w7 ⟨rfl, hK7⟩)
        go_ret
        exact ⟨rfl, HK6.out.trans' hK7⟩
      · have hy0 : yn = 0 := by rw [hyn, unpV_no hu]; rfl
        subst hy0
        have hne : (((unpC ws ps nn : Nat) : Int) != 0) = true := by simp; omega
        clear hown5 hK5 hyn
        generalize unpC ws ps nn = uc at *
        go_wp2_with (go_at_call 9; refine (wakes_any _).mono ?_; rintro e w7 ⟨rfl, hK7⟩)
        go_ret
        exact ⟨rfl, HK5.out.trans' hK7⟩
end

end Go.Proofs.Ytkljidigmolmmaa
