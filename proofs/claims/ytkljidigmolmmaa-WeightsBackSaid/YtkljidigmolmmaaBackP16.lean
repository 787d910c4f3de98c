/-
  The document's next: the byte whose word comes next.
  What is packed and unpacked, as lists: no program is named here.
  What the statements' own example comes to: true.
  What Pack and Unpack answer, whatever they are handed.
  The document's own New.
-/
import Derived.Test.YtkljidigmolmmaaBackP15
namespace Go.Proofs.Ytkljidigmolmmaa
open Go.RowKit Go.Shelf
set_option linter.unusedVariables false

/-- The words as the document's row has them. -/
def dX (ws : List Nat) (s : Nat) : Nat := if wt ws s = 0 then 0 else wordX ws s
def dN (ws : List Nat) (m s : Nat) : Nat := if wt ws s = 0 then 0 else m + 1 - wt ws s
/-- Which word fits n bits. -/
theorem fits_iff {ws : List Nat} {m : Nat} (hc : IsCode ws m) (bs : List Nat) (q n i : Nat) (hi : i < ws.length) (hn : n ≤ m) : (dN ws m i = n ∧ 0 < n ∧ dX ws i = strm bs q n) ↔ (symX ws m (strm bs q m) = i ∧ n = m + 1 - wt ws i) := by
  have hwm := hc.wt_le i hi
  constructor
  · rintro ⟨h1, h2, h3⟩
    unfold dN at h1
    unfold dX at h3
    by_cases e : wt ws i = 0
    · rw [if_pos e] at h1; omega
    · rw [if_neg e] at h1 h3
      refine ⟨?_, h1.symm⟩
      refine (hc.begins i _ hi (by omega) (strm_lt _ _ _)).1 ?_
      rw [h3, ← strm_head bs q n m hn]
      congr 2
      omega
  · rintro ⟨h1, h2⟩
    have hs := hc.sym (strm bs q m) (strm_lt _ _ _)
    rw [h1] at hs
    have hb := (hc.begins i _ hi hs.2.1 (strm_lt _ _ _)).2 h1
    unfold dN dX
    rw [if_neg (by omega), if_neg (by omega)]
    refine ⟨h2.symm, by omega, ?_⟩
    rw [← hb, ← strm_head bs q n m hn]
    congr 2
    omega

set_option maxRecDepth 100000 in
set_option maxHeartbeats 4000000 in
theorem nextD_any (qb gq : Nat) (bs : List Nat) (q : Nat) (g : Nat) (ws : List Nat) (m : Nat) (w : World) (hR : AtQ w qb gq bs q) (hW : WdA w g ws.length (dX ws) (dN ws m)) (hc : IsCode ws m) (hgq : g ≠ qb) (hq : q + 12 < 1000000000000) (hT : Tl.tailLen bs < 1125899906842624) :
    Calls Try.prog 33 #[.pointer (some ⟨qb, 0, none⟩), .slice (some ⟨g, 0, none⟩) ws.length ws.length, .int .i64 (m : Int)] w fun e w' => e = .returned (.tuple #[.int .u8 ((symX ws m (strm bs q m) : Nat) : Int), .bool (decide (q + (m + 1 - wt ws (symX ws m (strm bs q m))) ≤ Tl.tailLen bs))]) ∧ AtQ w' qb gq bs (q + (m + 1 - wt ws (symX ws m (strm bs q m)))) ∧ Keep (fun k => k = qb) w w' := by
  have hlen := hc.len
  have hm11 := hc.m11
  have HH := (show Hid (IsCode ws m ∧ WdA w g ws.length (dX ws) (dN ws m)) from ⟨hc, hW⟩)
  obtain ⟨hs1, hs2, -, -⟩ := hc.sym (strm bs q m) (strm_lt _ _ _)
  have hsm := hc.wt_le _ hs1
  obtain ⟨s, hs⟩ : ∃ s, s = symX ws m (strm bs q m) := ⟨_, rfl⟩
  obtain ⟨K, hK⟩ : ∃ K, K = m + 1 - wt ws s := ⟨_, rfl⟩
  rw [← hs] at hs1 hs2 hsm ⊢
  rw [← hK]
  have hK1 : 1 ≤ K ∧ K ≤ m := by omega
  have HS := (show Hid (∀ n i, i < ws.length → n ≤ m → ((dN ws m i = n ∧ 0 < n ∧ dX ws i = strm bs q n) ↔ (i = s ∧ n = K))) from fun n i h1 h2 => by
    rw [fits_iff hc bs q n i h1 h2, ← hs]
    constructor
    · rintro ⟨h3, h4⟩; subst h3; exact ⟨rfl, by rw [hK]; exact h4⟩
    · rintro ⟨h3, h4⟩; subst h3; exact ⟨rfl, by rw [← hK]; exact h4⟩)
  obtain ⟨N, hN⟩ : ∃ N, N = ws.length := ⟨_, rfl⟩
  rw [← hN] at hlen hs1 ⊢
  have HN := (show Hid (N = ws.length) from hN)
  have hNI : (N : Int) ≤ 256 := by omega
  have hmI : (m : Int) ≤ 11 := by omega
  have HR := (show Hid (AtQ w qb gq bs q) from hR)
  have HQ := (show Hid (g ≠ qb ∧ Tl.tailLen bs < 1125899906842624) from ⟨hgq, hT⟩)
  clear hc hW hR hs hK hN hgq hT
  go_enter Try.func33, Try.ntmps33
  go_wp2
  go_loopw [8, 9] (fun v8 v9 wr => ∃ (n x : Nat), v9 = .int .i64 (n : Int) ∧ v8 = .int .u64 (x : Int) ∧ n ≤ K ∧ Hid (x = strm bs q n ∧ AtQ wr qb gq bs (q + n) ∧ Keep (fun k => k = qb) w wr)) (fun _ v9 _ => m + 1 - (intOf v9).toNat)
  case atStart => exact ⟨0, 0, rfl, rfl, Nat.zero_le _, rfl, HR.out, Keep.refl _ _⟩
  case round =>
    obtain ⟨n, x, rfl, rfl, hnK, HC⟩ := hrel
    have hnm : (n : Int) ≤ (m : Int) := by omega
    have hxl : x < 4096 := by
      rw [HC.out.1]
      exact Nat.lt_of_lt_of_le (strm_lt _ _ _) (Nat.pow_le_pow_right (n := 2) (j := 12) (by omega) (by omega))
    have hxI : (x : Int) < 4096 := by omega
    go_wp2_with fail
    go_loop [10] (fun v10 => ∃ i : Nat, v10 = .int .i64 (i : Int) ∧ i ≤ N ∧ (n = K → i ≤ s)) (fun v10 => N - (intOf v10).toNat)
    case atStart => exact ⟨0, rfl, Nat.zero_le _, fun _ => Nat.zero_le _⟩
    case round =>
      obtain ⟨i, rfl, hi, his⟩ := hrel
      by_cases hil : i < N
      · have hix : i < ws.length := by have := HN.out; omega
        have hilI : (i : Int) < (N : Int) := by omega
        obtain ⟨hx, hA, hKw⟩ := HC.out
        have hWr := HH.out.2.keep hKw (by exact HQ.out.1)
        obtain ⟨t1, t2⟩ := hWr.cells i hix
        have hfit := HS.out n i hix (by omega)
        rw [← hx] at hfit
        have hcl := hA.is.left
        have hdNl : dN ws m i ≤ 12 := by unfold dN; split <;> omega
        have hdNI : ((dN ws m i : Nat) : Int) ≤ 12 := by omega
        by_cases hm1 : i = s ∧ n = K
        · obtain ⟨f1, f2, f3⟩ := hfit.2 hm1
          rw [f1] at t2
          rw [f3] at t1
          have hn0 : (0 : Int) < (n : Int) := by omega
          have hb1 : ((n : Int) == (n : Int)) = true := by simp
          have hb2 : ((x : Int) == (x : Int)) = true := by simp
          have hwi : IntKind.u8.wrap (i : Int) = (i : Int) := by rw [IntKind.wrap_u8]; omega
          obtain ⟨T, hT⟩ : ∃ T, T = Tl.tailLen bs := ⟨_, rfl⟩
          obtain ⟨L, hL⟩ : ∃ L : Int, L = ((Tl.tailLen bs : Nat) : Int) - ((q + n : Nat) : Int) := ⟨_, rfl⟩
          rw [← hL] at hcl
          have hD : decide ((0 : Int) ≤ L) = decide (q + K ≤ Tl.tailLen bs) := by
            rw [Bool.eq_iff_iff, decide_eq_true_iff, decide_eq_true_iff, hL, hm1.2]
            omega
          have HD := (show Hid _ from hD)
          clear hD
          have HE := (show Hid (AtQ wr qb gq bs (q + K) ∧ Keep (fun k => k = qb) w wr ∧ i = s) from ⟨by rw [← hm1.2]; exact hA, hKw, hm1.1⟩)
          have hLb : -1000000000000 < L ∧ L < 1125899906842624 := by have := HQ.out.2; omega
          clear hA hKw hWr hfit hm1 f1 f2 f3 his hL hT hdNl hdNI hx
          go_wp2_with fail
          go_quiet (fail)
          go_wp2_with fail
          go_ret2
          refine ⟨?_, HE.out.1.drewN _, HE.out.2.1.trans (keep_drewN wr _) (fun _ _ h => h.elim)⟩
          rw [← HD.out, ← HE.out.2.2]
          rfl
        · have hno := fun h => hm1 (hfit.1 h)
          have hisK : n = K → i + 1 ≤ s := fun e => by
            have := his e
            by_cases e2 : i = s
            · exact absurd ⟨e2, e⟩ hm1
            · omega
          clear hA hKw hWr hfit hm1 his hdNl hx hcl
          by_cases e1 : dN ws m i = n
          · have hb1 : (((dN ws m i : Nat) : Int) == (n : Int)) = true := by rw [e1]; simp
            by_cases e2 : 0 < n
            · have hn0 : (0 : Int) < (n : Int) := by omega
              have hb2 : (((dX ws i : Nat) : Int) == (x : Int)) = false := by
                rw [beq_eq_false_iff_ne]
                intro e
                exact hno ⟨e1, e2, by omega⟩
              clear hno
              have HE1 := (show Hid _ from e1)
              clear e1
              generalize dN ws m i = di at *
              generalize dX ws i = xi at *
              go_wp2_with fail
              go_round
              case rel => exact ⟨i + 1, by go_num, by omega, hisK⟩
              case measure => simp [intOf]; omega
            · have hn0 : ¬ (0 : Int) < (n : Int) := by omega
              clear hno
              have HE1 := (show Hid _ from e1)
              clear e1
              generalize dN ws m i = di at *
              generalize dX ws i = xi at *
              go_wp2_with fail
              go_round
              case rel => exact ⟨i + 1, by go_num, by omega, hisK⟩
              case measure => simp [intOf]; omega
          · have hb1 : (((dN ws m i : Nat) : Int) == (n : Int)) = false := by rw [beq_eq_false_iff_ne]; omega
            clear hno
            generalize dN ws m i = di at *
            generalize dX ws i = xi at *
            go_wp2_with fail
            go_round
            case rel => exact ⟨i + 1, by go_num, by omega, hisK⟩
            case measure => simp [intOf]; omega
      · obtain rfl : i = N := by omega
        have hilI : ¬ (i : Int) < (i : Int) := by omega
        have hnK2 : n < K := by
          by_cases e : n = K
          · have := his e; omega
          · omega
        obtain ⟨hx, hA, hKw⟩ := HC.out
        have HBt := (show Hid (Calls Try.prog 43 #[.pointer (some ⟨qb, 0, none⟩), .int .i64 1] wr _) from hA.bits 1 (by omega) (by omega))
        have hst : strm bs q (n + 1) = 2 * strm bs q n + strm bs (q + n) 1 := by simp [strm]
        have hb1 := strm_lt bs (q + n) 1
        rw [← hx] at hst
        have HST := (show Hid (strm bs q (n + 1) = 2 * x + strm bs (q + n) 1 ∧ Keep (fun k => k = qb) w wr) from ⟨hst, hKw⟩)
        have hb1I : ((strm bs (q + n) 1 : Nat) : Int) < 2 := by omega
        clear hx hA hKw hst hb1 HC his
        generalize strm bs (q + n) 1 = bt at *
        go_wp2_with fail
        refine HBt.out.mono ?_
        rintro e w2 ⟨rfl, hA2, hK2⟩
        go_wp2_with fail
        go_roundw
        case rel => exact ⟨n + 1, 2 * x + bt, by go_num, by go_num, by omega, HST.out.1.symm, hA2, HST.out.2.trans hK2 (fun _ _ h => h)⟩
        case measure => simp [intOf]; omega

end Go.Proofs.Ytkljidigmolmmaa

namespace Go.Proofs.Ytkljidigmolmmaa
open Go.RowKit Go.Shelf
set_option linter.unusedVariables false

theorem strm_bit (bs : List Nat) (q n i : Nat) (hi : i < n) : bitOf (strm bs q n) (n - 1 - i) = bitS bs (q + i) := by
  induction n with
  | zero => omega
  | succ n ih =>
    have hb := bitS_lt bs (q + n)
    by_cases e : i = n
    · subst e
      rw [show i + 1 - 1 - i = 0 from by omega, strm]
      unfold bitOf
      omega
    · have h := ih (by omega)
      rw [show n + 1 - 1 - i = (n - 1 - i) + 1 from by omega, strm]
      unfold bitOf at h ⊢
      rw [Nat.pow_succ, Nat.mul_comm (2 ^ (n - 1 - i)) 2, ← Nat.div_div_eq_div_mul, show (2 * strm bs q n + bitS bs (q + n)) / 2 = strm bs q n from by omega]
      exact h
/-- What was put last is read first. -/
theorem strm_put (A M : List (Fin 2)) (x n : Nat) (hx : x < 2 ^ n) : strm (pack (A ++ low x n ++ M ++ [1])) M.length n = x := by
  have hT : Tl.tailLen (pack (A ++ low x n ++ M ++ [1])) = A.length + n + M.length := by
    rw [Tl.tailLen_mark, List.length_append, List.length_append, low_length]
  rw [strm_qv _ M.length A.length n n (by rw [hT]; omega) (.inl rfl) n (Nat.le_refl _), Tl.qv_low _ _ _ _ (Nat.le_refl _), Nat.add_sub_cancel, Tl.num_back A (M ++ [1]) x n _ (by simp), Nat.mod_eq_of_lt hx]

/-- The bits of the first k bytes. -/
theorem pack_read {ws : List Nat} {m : Nat} (hc : IsCode ws m) (bs : List Nat) (hok : packOk ws bs = true) (k : Nat) (hk : k ≤ bs.length) :
    (∃ M, packL ws m bs = packL ws m (bs.drop k) ++ M ∧ M.length = posU ws m (pack (packL ws m bs ++ [1])) k) ∧ ∀ j, j < k → symU ws m (pack (packL ws m bs ++ [1])) j = bs[j]?.getD 0 := by
  induction k with
  | zero => exact ⟨⟨[], by simp, rfl⟩, fun j hj => by omega⟩
  | succ k ih =>
    obtain ⟨⟨M, h1, h2⟩, h3⟩ := ih (by omega)
    have hb : wt ws (bs[k]?.getD 0) ≠ 0 := by
      have := of_decide_eq_true hok
      refine this _ ?_
      rw [List.getElem?_eq_getElem (by omega)]
      exact List.getElem_mem _
    obtain ⟨hbl, hbm⟩ := hc.wt_in _ hb
    have hd := packL_drop ws m bs k (by omega)
    have hwl := hc.word_lt _ hbl (by omega)
    rw [hd] at h1
    generalize hx : bs[k]?.getD 0 = b at *
    have hst := strm_put (packL ws m (bs.drop (k + 1))) M (wordX ws b) (m + 1 - wt ws b) hwl
    rw [← h1, h2] at hst
    have hsy : symU ws m (pack (packL ws m bs ++ [1])) k = b := by
      have hh := strm_head (pack (packL ws m bs ++ [1])) (posU ws m (pack (packL ws m bs ++ [1])) k) (m + 1 - wt ws b) m (by omega)
      rw [hst, show m - (m + 1 - wt ws b) = wt ws b - 1 from by omega] at hh
      exact (hc.begins b _ hbl (by omega) (strm_lt _ _ _)).1 hh
    refine ⟨⟨low (wordX ws b) (m + 1 - wt ws b) ++ M, by rw [h1, List.append_assoc], ?_⟩, fun j hj => ?_⟩
    · rw [List.length_append, low_length, h2, posU_succ, hsy]; omega
    · by_cases e : j = k
      · rw [e, hsy, hx]
      · exact h3 j (by omega)
theorem pack_pos {ws : List Nat} {m : Nat} (hc : IsCode ws m) (bs : List Nat) (hok : packOk ws bs = true) : posU ws m (pack (packL ws m bs ++ [1])) bs.length = (packL ws m bs).length := by
  obtain ⟨⟨M, h1, h2⟩, -⟩ := pack_read hc bs hok bs.length (Nat.le_refl _)
  rw [List.drop_length] at h1
  rw [← h2, h1]; simp [packL]
theorem pack_text {ws : List Nat} {m : Nat} (hc : IsCode ws m) (bs : List Nat) (hok : packOk ws bs = true) : (List.range bs.length).map (symU ws m (pack (packL ws m bs ++ [1]))) = bs := by
  obtain ⟨-, h3⟩ := pack_read hc bs hok bs.length (Nat.le_refl _)
  refine List.ext_getElem? fun j => ?_
  by_cases hj : j < bs.length
  · rw [List.getElem?_map, List.getElem?_range hj, List.getElem?_eq_getElem hj]
    have := h3 j hj
    rw [List.getElem?_eq_getElem hj] at this
    exact congrArg some this
  · rw [List.getElem?_eq_none (by simp; omega), List.getElem?_eq_none (by omega)]
/-- Unpack of Pack. -/
theorem unp_pack {ws : List Nat} {m : Nat} (hc : IsCode ws m) (bs : List Nat) (hok : packOk ws bs = true) : unpOk ws m (pack (packL ws m bs ++ [1])) bs.length = true :=
  decide_eq_true ⟨Tl.mark_ne _, by rw [pack_pos hc bs hok, Tl.tailLen_mark]⟩

/-- The words of what is read are the bits that are read. -/
theorem unp_bits {ws : List Nat} {m : Nat} (hc : IsCode ws m) (bs : List Nat) (n d : Nat) (hd : d ≤ n) (hT : posU ws m bs n = Tl.tailLen bs) :
    posU ws m bs (n - d) + (packL ws m (((List.range n).map (symU ws m bs)).drop (n - d))).length = Tl.tailLen bs ∧ ∀ i, i < (packL ws m (((List.range n).map (symU ws m bs)).drop (n - d))).length → bitL (packL ws m (((List.range n).map (symU ws m bs)).drop (n - d))) ((packL ws m (((List.range n).map (symU ws m bs)).drop (n - d))).length - 1 - i) = bitS bs (posU ws m bs (n - d) + i) := by
  have hl : ((List.range n).map (symU ws m bs)).length = n := by simp
  induction d with
  | zero =>
    rw [Nat.sub_zero, show ((List.range n).map (symU ws m bs)).drop n = [] from List.drop_eq_nil_of_le (by omega)]
    exact ⟨by rw [hT]; rfl, fun i hi => by simp [packL] at hi⟩
  | succ d ih =>
    obtain ⟨h1, h2⟩ := ih (by omega)
    obtain ⟨k, hk⟩ : ∃ k, k = n - (d + 1) := ⟨_, rfl⟩
    rw [← hk]
    rw [show n - d = k + 1 from by omega] at h1 h2
    have hat : ((List.range n).map (symU ws m bs))[k]?.getD 0 = symU ws m bs k := by
      rw [List.getElem?_map, List.getElem?_range (by omega)]; rfl
    have hd2 := packL_drop ws m ((List.range n).map (symU ws m bs)) k (by omega)
    rw [hat] at hd2
    obtain ⟨hs1, hs2, -, -⟩ := hc.sym (strm bs (posU ws m bs k) m) (strm_lt _ _ _)
    have hwm := hc.wt_le _ hs1
    have hbg := (hc.begins (symU ws m bs k) (strm bs (posU ws m bs k) m) hs1 hs2 (strm_lt _ _ _)).2 rfl
    have hX : wordX ws (symU ws m bs k) = strm bs (posU ws m bs k) (m + 1 - wt ws (symU ws m bs k)) := by
      rw [← hbg, ← strm_head bs (posU ws m bs k) (m + 1 - wt ws (symU ws m bs k)) m (by unfold symU; omega)]
      congr 2
      unfold symU
      omega
    have hps := posU_succ ws m bs k
    rw [hd2, hX]
    generalize packL ws m (((List.range n).map (symU ws m bs)).drop (k + 1)) = A at *
    generalize m + 1 - wt ws (symU ws m bs k) = N at *
    rw [List.length_append, low_length]
    refine ⟨by omega, fun i hi => ?_⟩
    by_cases hiN : i < N
    · rw [show A.length + N - 1 - i = A.length + (N - 1 - i) from by omega, bitL_behind, bitL_low _ _ _ (by omega), strm_bit _ _ _ _ hiN]
    · rw [show A.length + N - 1 - i = A.length - 1 - (i - N) from by omega, bitL_app _ _ _ (by omega), h2 (i - N) (by omega), hps]
      congr 1
      omega
theorem byte_bits (x : Nat) (h : x < 256) : numF (bitOf x) 8 = x := by
  have := numF_bitOf x 8
  rw [show numF (bitOf x) 8 = numF (fun k => bitOf x k) 8 from rfl, this]
  exact Nat.mod_eq_of_lt (by omega)
/-- Bytes that have the bits of a tail are its bytes. -/
theorem pack_eq (L : List (Fin 2)) (bs : List Nat) (hlt : ∀ j : Nat, bs[j]?.getD 0 < 256) (h0 : bs[bs.length - 1]?.getD 0 ≠ 0) (hL : L.length = Tl.tailLen bs) (hb : ∀ i, i < L.length → bitL L (L.length - 1 - i) = bitS bs i) : pack (L ++ [1]) = bs := by
  have hn : 0 < bs.length := by
    cases bs with
    | nil => simp at h0
    | cons x l => simp
  have hlb := Tl.lenB_le _ (hlt (bs.length - 1))
  have hlp := Tl.lenB_pos _ h0
  have hTl : Tl.tailLen bs = 8 * (bs.length - 1) + (Tl.lenB (bs[bs.length - 1]?.getD 0) - 1) := rfl
  have hlen : (pack (L ++ [1])).length = bs.length := by rw [pack_length, List.length_append]; simp; omega
  have hbit : ∀ i, i < 8 * bs.length → bitL (L ++ [1]) i = bitAt bs i := fun i hi => by
    by_cases h1 : i < L.length
    · rw [bitL_app _ _ _ h1]
      have := hb (L.length - 1 - i) (by omega)
      rw [show L.length - 1 - (L.length - 1 - i) = i from by omega] at this
      rw [this]
      unfold bitS
      rw [if_pos (by omega), ← hL, show L.length - 1 - (L.length - 1 - i) = i from by omega]
    · by_cases h2 : i = L.length
      · rw [h2, bitL_new, hL, Tl.mark_one bs hlt h0]; rfl
      · rw [bitL_far _ _ (by simp; omega), Tl.mark_above bs h0 i (by omega) hi]
  refine List.ext_getElem? fun j => ?_
  by_cases hj : j < bs.length
  · have e1 := pack_at (L ++ [1]) j (by rw [← pack_length, hlen]; exact hj)
    rw [List.getElem?_eq_getElem (by omega)] at e1 ⊢
    rw [List.getElem?_eq_getElem hj]
    have hx := hlt j
    rw [List.getElem?_eq_getElem hj] at hx
    congr 1
    show (some (pack (L ++ [1]))[j]).getD 0 = _
    rw [e1]
    unfold byteOf
    rw [← byte_bits bs[j] hx]
    refine numF_congr _ _ _ (fun i hi => ?_)
    rw [hbit (8 * j + i) (by omega)]
    unfold bitAt
    rw [show (8 * j + i) / 8 = j from by omega, show (8 * j + i) % 8 = i from by omega, List.getElem?_eq_getElem hj]
    rfl
  · rw [List.getElem?_eq_none (by omega), List.getElem?_eq_none (by omega)]
/-- Pack of Unpack. -/
theorem pack_unp {ws : List Nat} {m : Nat} (hc : IsCode ws m) (bs : List Nat) (n : Nat) (hlt : ∀ j : Nat, bs[j]?.getD 0 < 256) (hok : unpOk ws m bs n = true) : packOk ws ((List.range n).map (symU ws m bs)) = true ∧ pack (packL ws m ((List.range n).map (symU ws m bs)) ++ [1]) = bs := by
  obtain ⟨h0, hT⟩ := of_decide_eq_true hok
  refine ⟨decide_eq_true (fun b hb => ?_), ?_⟩
  · obtain ⟨k, _, rfl⟩ := List.mem_map.1 hb
    have := (hc.sym (strm bs (posU ws m bs k) m) (strm_lt _ _ _)).2.1
    show wt ws (symX ws m (strm bs (posU ws m bs k) m)) ≠ 0
    omega
  · obtain ⟨h1, h2⟩ := unp_bits hc bs n n (Nat.le_refl _) hT
    rw [Nat.sub_self, List.drop_zero] at h1 h2
    refine pack_eq _ bs hlt h0 (by rw [← h1]; simp [posU]) (fun i hi => ?_)
    rw [h2 i hi]
    congr 1
    simp [posU]

end Go.Proofs.Ytkljidigmolmmaa

namespace Go.Proofs.Ytkljidigmolmmaa
open Go.RowKit Go.Shelf
set_option linter.unusedVariables false

theorem wk_told : ((List.range 3).map (fourW ([130, 17, 32].drop 1))) = [1, 1, 2] := by decide +kernel
theorem wk_read : readOf (some [1, 1, 2]) = some [1, 1, 2, 3] := by decide +kernel
theorem wk_code : codeB [1, 1, 2, 3] = true := by decide +kernel
theorem wk_is : IsCode [1, 1, 2, 3] 3 := codeB_is wk_code
theorem wk_ok : packOk [1, 1, 2, 3] [3, 2, 0] = true := by decide +kernel
theorem wk_pack : pack (packL [1, 1, 2, 3] 3 [3, 2, 0] ++ [1]) = [104] := by decide +kernel
theorem wk_str4 : strOf [1, 1, 2, 3] = ⟨#[1, 1, 2, 3]⟩ := by decide
theorem wk_str1 : strOf [104] = ⟨#[104]⟩ := by decide

theorem wk_first (w : World) : Calls Try.prog 7 #[.slice (some ⟨w.heap.size, 0, none⟩) 3 3] (w.alloc (.cells #[.int .u8 130, .int .u8 17, .int .u8 32] 5)) fun e w' => ∃ v, e = .returned (.tuple #[v, .int .i64 3, .int .i64 0]) ∧ w'.ownsRow 0 5 1 v 4 (u8s [1, 1, 2, 3]) ∧ Keep noBlock (w.alloc (.cells #[.int .u8 130, .int .u8 17, .int .u8 32] 5)) w' := by
  have hB := bytes_new w [130, 17, 32] #[.int .u8 130, .int .u8 17, .int .u8 32] (0, 0) 3 rfl rfl (lt256 (by decide)) (by decide)
  have hT := tell_fours (some ⟨w.heap.size, 0, none⟩) 3 w.heap.size 0 [130, 17, 32] 3 _ hB (by decide) (by decide) (by decide) (by decide)
  rw [wk_told] at hT
  have := read_told (some ⟨w.heap.size, 0, none⟩) 3 w.heap.size 0 [130, 17, 32] 3 (some [1, 1, 2]) _ hB (by decide) (by decide) (by decide) hT (fun M hM => by cases hM; exact ⟨by decide, lt256 (by decide)⟩)
  rw [wk_read] at this
  refine this.mono ?_
  rintro e w' ⟨hk, v, rfl, ho⟩
  exact ⟨v, rfl, ho, hk⟩
theorem wk_third (w : World) : Calls Try.prog 7 #[.slice (some ⟨w.heap.size, 0, none⟩) 2 2] (w.alloc (.cells #[.int .u8 130, .int .u8 17] 5)) fun e w' => e = .returned (.tuple #[.slice none 0 0, .int .i64 0, .int .i64 10]) ∧ w' = w.alloc (.cells #[.int .u8 130, .int .u8 17] 5) := by
  have hB := bytes_new w [130, 17] #[.int .u8 130, .int .u8 17] (0, 0) 2 rfl rfl (lt256 (by decide)) (by decide)
  exact read_short (some ⟨w.heap.size, 0, none⟩) 2 w.heap.size 0 [130, 17] _ hB (by decide)
theorem wk_second (w : World) (v : Value) (hown : w.ownsRow 0 5 1 v 4 (u8s [1, 1, 2, 3])) : Calls Try.prog 10 #[v, .slice (some ⟨w.heap.size, 0, none⟩) 3 3] (w.alloc (.cells #[.int .u8 3, .int .u8 2, .int .u8 0] 5)) fun e w' => ∃ v', e = .returned (.tuple #[v', .int .i64 0]) ∧ w'.ownsRow 0 5 1 v' 1 (u8s [104]) ∧ w'.ownsRow 0 5 1 v 4 (u8s [1, 1, 2, 3]) ∧ Keep noBlock (w.alloc (.cells #[.int .u8 3, .int .u8 2, .int .u8 0] 5)) w' := by
  have hk : Keep noBlock w (w.alloc (.cells #[.int .u8 3, .int .u8 2, .int .u8 0] 5)) := (Keep.refl _ w).alloc _
  have hown2 := owns_kept hown hk (fun _ _ h => h)
  have hB2 := bytes_new w [3, 2, 0] #[.int .u8 3, .int .u8 2, .int .u8 0] (0, 0) 3 rfl rfl (lt256 (by decide)) (by decide)
  obtain ⟨a, cap, g, rfl, hB, -⟩ := owns_bytes (M := [1, 1, 2, 3]) hown2 (lt256 (by decide)) (by decide)
  refine (pack_any a cap g 0 [1, 1, 2, 3] 3 (some ⟨w.heap.size, 0, none⟩) 3 w.heap.size 0 [3, 2, 0] _ hB hB2 wk_is (by decide)).mono ?_
  rintro e w' ⟨hk2, ⟨_, v', rfl, ho⟩ | ⟨h, _⟩⟩
  · rw [wk_pack] at ho
    exact ⟨v', rfl, ho, owns_kept hown2 hk2 (fun _ _ h => h), hk2⟩
  · rw [wk_ok] at h; cases h

set_option maxRecDepth 100000 in
set_option maxHeartbeats 2000000 in
theorem wakes_any (w : World) : Calls Try.prog 9 #[] w fun e w' => e = .returned (.bool true) ∧ Keep noBlock w w' := by
  go_enter Try.func9, Try.ntmps9
  go_wp2_with fail
  refine (wk_first w).mono ?_
  rintro e w1 ⟨v, rfl, hown, hK1⟩
  have hKw1 : Keep noBlock w w1 := ((Keep.refl _ w).alloc _).trans' hK1
  clear hK1
  obtain ⟨a, cap, hv⟩ := owns_form hown
  subst hv
  go_wp2_with fail
  refine (wk_second w1 _ hown).mono ?_
  rintro e w2 ⟨v2, rfl, hown2, hown1, hK2⟩
  have hKw2 : Keep noBlock w w2 := (hKw1.alloc _).trans' hK2
  clear hK2 hKw1 hown
  obtain ⟨a2, cap2, hv2⟩ := owns_form hown2
  subst hv2
  go_wp2_with fail
  refine (wk_third w2).mono ?_
  rintro e w3 ⟨rfl, rfl⟩
  have hk3 : Keep noBlock w2 (w2.alloc (.cells #[.int .u8 130, .int .u8 17] 5)) := (Keep.refl _ w2).alloc _
  have hc1 := run_conv (Src.of_owns (bs := [1, 1, 2, 3]) (owns_kept hown1 hk3 (fun _ _ h => h)))
  have hc2 := run_conv (Src.of_owns (bs := [104]) (owns_kept hown2 hk3 (fun _ _ h => h)))
  rw [wk_str4] at hc1
  rw [wk_str1] at hc2
  have hKw3 := hKw2.trans' hk3
  generalize w2.alloc (.cells #[.int .u8 130, .int .u8 17] 5) = W3 at *
  clear hown1 hown2 hk3 hKw2
  go_wp2_with fail
  go_ret
  exact ⟨rfl, hKw3⟩

end Go.Proofs.Ytkljidigmolmmaa

namespace Go.Proofs.Ytkljidigmolmmaa
open Go.RowKit Go.Shelf
set_option linter.unusedVariables false

/-- Pack's error, and its bytes. -/
def packC (ws bs : List Nat) : Nat := if codeB ws then (if 131072 < bs.length then 2 else if packOk ws bs then 0 else 2) else 50
def packV (ws bs : List Nat) : List Nat := if packC ws bs = 0 then pack (packL ws (codeM ws) bs ++ [1]) else []
/-- Unpack's error, and its bytes. -/
def unpC (ws bs : List Nat) (n : Int) : Nat := if codeB ws then (if 0 ≤ n ∧ n ≤ 131072 then (if unpOk ws (codeM ws) bs n.toNat then 0 else 11) else 2) else 50
def unpV (ws bs : List Nat) (n : Int) : List Nat := if unpC ws bs n = 0 then (List.range n.toNat).map (symU ws (codeM ws) bs) else []
/-- An error, and bytes in a row of one's own. -/
def Ans (c : Nat) (bs : List Nat) (w : World) (e : Ending) (w' : World) : Prop :=
  Keep noBlock w w' ∧ ∃ a n cap, e = .returned (.tuple #[.slice a n cap, .int .i64 (c : Int)]) ∧ n = bs.length ∧ w'.ownsRow 0 5 1 (.slice a n cap) n (u8s bs)
theorem ans_none {c : Nat} {w w' : World} (hk : Keep noBlock w w') : Ans c [] w (.returned (.tuple #[.slice none 0 0, .int .i64 (c : Int)])) w' := ⟨hk, none, 0, 0, rfl, rfl, World.ownsRow_nil _ _ _ _⟩
theorem ans_row {c : Nat} {bs : List Nat} {v : Value} {w w' : World} (hk : Keep noBlock w w') (h : w'.ownsRow 0 5 1 v bs.length (u8s bs)) : Ans c bs w (.returned (.tuple #[v, .int .i64 (c : Int)])) w' := by
  obtain ⟨a, cap, rfl⟩ := owns_form h
  exact ⟨hk, a, _, cap, rfl, rfl, h⟩

theorem codeM_is {ws : List Nat} (h : codeB ws = true) : IsCode ws (codeM ws) := by
  have := codeB_is h
  unfold codeM
  rw [if_pos h]
  exact this
theorem packV_no {ws bs : List Nat} (h : packC ws bs ≠ 0) : packV ws bs = [] := if_neg h
theorem unpV_no {ws bs : List Nat} {n : Int} (h : unpC ws bs n ≠ 0) : unpV ws bs n = [] := if_neg h
theorem packV_lt (ws bs : List Nat) : ∀ j : Nat, (packV ws bs)[j]?.getD 0 < 256 := by
  unfold packV
  split
  · exact pack_lt _
  · intro j; simp
theorem unpV_lt (ws bs : List Nat) (n : Int) : ∀ j : Nat, (unpV ws bs n)[j]?.getD 0 < 256 := by
  by_cases h : unpC ws bs n = 0
  · have hc : codeB ws = true := by
      unfold unpC at h
      by_cases e : codeB ws = true
      · exact e
      · rw [if_neg e] at h; omega
    have hI := codeM_is hc
    unfold unpV
    rw [if_pos h]
    refine lt256 (fun b hb => ?_)
    obtain ⟨k, _, rfl⟩ := List.mem_map.1 hb
    have h1 := (hI.sym (strm bs (posU ws (codeM ws) bs k) (codeM ws)) (strm_lt _ _ _)).1
    have h2 := hI.len
    show symX ws (codeM ws) (strm bs (posU ws (codeM ws) bs k) (codeM ws)) < 256
    omega
  · rw [unpV_no h]; intro j; simp

theorem pk_cells (w : World) (c : Int) : ((w.alloc (.cells #[.slice none 0 0] 22)).alloc (.cells #[.int .i64 c] 23)).cell? ⟨w.heap.size, 0, none⟩ = some (.slice none 0 0) ∧ ((w.alloc (.cells #[.slice none 0 0] 22)).alloc (.cells #[.int .i64 c] 23)).cell? ⟨w.heap.size + 1, 0, none⟩ = some (.int .i64 c) := by
  refine ⟨cell_of (alloc_far (World.alloc_heap_new w _) _) 0, ?_⟩
  have := World.alloc_heap_new (w.alloc (.cells #[.slice none 0 0] 22)) (.cells #[.int .i64 c] 23)
  rw [World.size_alloc] at this
  exact cell_of this 0

set_option maxRecDepth 100000 in
set_option maxHeartbeats 2000000 in
theorem pack_all (a : Option Addr) (cap gb off : Nat) (ws : List Nat) (a2 : Option Addr) (cap2 gb2 off2 : Nat) (bs : List Nat) (w : World) (hB : Bytes w a cap gb off ws) (hB2 : Bytes w a2 cap2 gb2 off2 bs) :
    Calls Try.prog 10 #[.slice a ws.length cap, .slice a2 bs.length cap2] w fun e w' => Ans (packC ws bs) (packV ws bs) w e w' := by
  cases hc : codeB ws with
  | false =>
    have e1 : packC ws bs = 50 := by unfold packC; rw [hc]; rfl
    have e2 := packV_no (ws := ws) (bs := bs) (by omega)
    rw [e1, e2]
    have HM := (show Hid (∀ W, Keep noBlock w W → Calls Try.prog 21 #[.slice a ws.length cap] W fun e w' => ∃ l, e = .returned (.tuple #[.int .i64 l, .bool false]) ∧ w' = W) from fun W hk => made_not hc (hB.keep hk (fun _ h => h)))
    generalize ws.length = n1 at *
    generalize bs.length = n2 at *
    clear hB hB2
    refine (callsIn_wide (n := 4)).1 ?_
    refine callsIn_of_wp_marks Try.func10 rfl trivial ?_ rfl
    simp only [Try.ntmps10, List.size_toArray, List.length_cons, List.length_nil, Nat.reduceAdd, Nat.reduceSub, Array.replicate_succ, Array.replicate_zero, List.push_toArray, List.append_toArray, List.nil_append, List.cons_append]
    gi_wp2_with (refine ⟨trivial, ?_⟩; gi_at_call 21; refine (callsIn_wide.2 (HM.out _ (((Keep.refl _ w).alloc _).alloc _))).mono ?_; rintro e w' ⟨l, rfl, rfl⟩)
    exact ⟨_, results_cell2 rfl _ _ _ ⟨w.heap.size, 0, none⟩ ⟨w.heap.size + 1, 0, none⟩ (.slice none 0 0) (.int .i64 50) rfl rfl (loadVar22 (pk_cells w 50).1) (loadVar23 (pk_cells w 50).2), ans_none (((Keep.refl _ w).alloc _).alloc _)⟩
  | true =>
    have hI := codeM_is hc
    by_cases hl : 131072 < bs.length
    · have e1 : packC ws bs = 2 := by unfold packC; rw [if_pos hc, if_pos hl]
      have e2 := packV_no (ws := ws) (bs := bs) (by omega)
      rw [e1, e2]
      have HM := (show Hid (∀ W, Keep noBlock w W → Calls Try.prog 21 #[.slice a ws.length cap] W fun e w' => e = .returned (.tuple #[.int .i64 ((codeM ws : Nat) : Int), .bool true]) ∧ w' = W) from fun W hk => made_is hI (hB.keep hk (fun _ h => h)))
      have h48 := hB2.len
      have hlI : (131072 : Int) < ((bs.length : Nat) : Int) := by omega
      generalize ws.length = n1 at *
      generalize bs.length = n2 at *
      clear hB hB2 hI hl h48
      refine (callsIn_wide (n := 4)).1 ?_
      refine callsIn_of_wp_marks Try.func10 rfl trivial ?_ rfl
      simp only [Try.ntmps10, List.size_toArray, List.length_cons, List.length_nil, Nat.reduceAdd, Nat.reduceSub, Array.replicate_succ, Array.replicate_zero, List.push_toArray, List.append_toArray, List.nil_append, List.cons_append]
      gi_wp2_with (refine ⟨trivial, ?_⟩; gi_at_call 21; refine (callsIn_wide.2 (HM.out _ (((Keep.refl _ w).alloc _).alloc _))).mono ?_; rintro e w' ⟨rfl, rfl⟩)
      exact ⟨_, results_cell2 rfl _ _ _ ⟨w.heap.size, 0, none⟩ ⟨w.heap.size + 1, 0, none⟩ (.slice none 0 0) (.int .i64 2) rfl rfl (loadVar22 (pk_cells w 2).1) (loadVar23 (pk_cells w 2).2), ans_none (((Keep.refl _ w).alloc _).alloc _)⟩
    · refine (pack_any a cap gb off ws (codeM ws) a2 cap2 gb2 off2 bs w hB hB2 hI (by omega)).mono ?_
      rintro e w' ⟨hk, ⟨h1, v, rfl, h2⟩ | ⟨h1, rfl⟩⟩
      · have e1 : packC ws bs = 0 := by unfold packC; rw [if_pos hc, if_neg hl, if_pos h1]
        have e2 : packV ws bs = pack (packL ws (codeM ws) bs ++ [1]) := if_pos e1
        rw [e1, e2]
        exact ans_row hk h2
      · have e1 : packC ws bs = 2 := by unfold packC; rw [if_pos hc, if_neg hl, h1]; rfl
        have e2 := packV_no (ws := ws) (bs := bs) (by omega)
        rw [e1, e2]
        exact ans_none hk

set_option maxRecDepth 100000 in
set_option maxHeartbeats 2000000 in
theorem unpack_all (a : Option Addr) (cap gb off : Nat) (ws : List Nat) (a2 : Option Addr) (cap2 gb2 off2 : Nat) (bs : List Nat) (n : Int) (w : World) (hB : Bytes w a cap gb off ws) (hB2 : Bytes w a2 cap2 gb2 off2 bs) (hl : bs.length ≤ 140737488351232) :
    Calls Try.prog 12 #[.slice a ws.length cap, .slice a2 bs.length cap2, .int .i64 n] w fun e w' => Ans (unpC ws bs n) (unpV ws bs n) w e w' := by
  cases hc : codeB ws with
  | false =>
    have e1 : unpC ws bs n = 50 := by unfold unpC; rw [hc]; rfl
    have e2 := unpV_no (ws := ws) (bs := bs) (n := n) (by omega)
    rw [e1, e2]
    have HM := (show Hid (Calls Try.prog 21 #[.slice a ws.length cap] w fun e w' => ∃ l, e = .returned (.tuple #[.int .i64 l, .bool false]) ∧ w' = w) from made_not hc hB)
    generalize ws.length = n1 at *
    generalize bs.length = n2 at *
    clear hB hB2 hl
    go_enter Try.func12, Try.ntmps12
    go_wp2_with (go_at_call 21; refine HM.out.mono ?_; rintro e w' ⟨l, rfl, rfl⟩)
    go_ret2
    exact ans_none (Keep.refl _ _)
  | true =>
    have hI := codeM_is hc
    by_cases hn : 0 ≤ n ∧ n ≤ 131072
    · obtain ⟨k, rfl⟩ := Int.eq_ofNat_of_zero_le hn.1
      refine (unpack_any a cap gb off ws (codeM ws) a2 cap2 gb2 off2 bs k w hB hB2 hI hl (by omega)).mono ?_
      rintro e w' ⟨hk, ⟨h1, v, rfl, h2⟩ | ⟨h1, rfl⟩⟩
      · have e1 : unpC ws bs (k : Int) = 0 := by unfold unpC; rw [if_pos hc, if_pos hn, Int.toNat_natCast, if_pos h1]
        have e2 : unpV ws bs (k : Int) = (List.range k).map (symU ws (codeM ws) bs) := if_pos e1
        rw [e1, e2]
        refine ans_row hk ?_
        rw [show ((List.range k).map (symU ws (codeM ws) bs)).length = k from by simp]
        exact h2
      · have e1 : unpC ws bs (k : Int) = 11 := by unfold unpC; rw [if_pos hc, if_pos hn, Int.toNat_natCast, h1]; rfl
        have e2 := unpV_no (ws := ws) (bs := bs) (n := (k : Int)) (by omega)
        rw [e1, e2]
        exact ans_none hk
    · have e1 : unpC ws bs n = 2 := by unfold unpC; rw [if_pos hc, if_neg hn]
      have e2 := unpV_no (ws := ws) (bs := bs) (n := n) (by omega)
      rw [e1, e2]
      have HM := (show Hid (Calls Try.prog 21 #[.slice a ws.length cap] w fun e w' => e = .returned (.tuple #[.int .i64 ((codeM ws : Nat) : Int), .bool true]) ∧ w' = w) from made_is hI hB)
      generalize ws.length = n1 at *
      generalize bs.length = n2 at *
      clear hB hB2 hl hI
      by_cases h0 : n < 0
      · go_enter Try.func12, Try.ntmps12
        go_wp2_with (go_at_call 21; refine HM.out.mono ?_; rintro e w' ⟨rfl, rfl⟩)
        go_ret2
        exact ans_none (Keep.refl _ _)
      · have h1 : 131072 < n := by omega
        go_enter Try.func12, Try.ntmps12
        go_wp2_with (go_at_call 21; refine HM.out.mono ?_; rintro e w' ⟨rfl, rfl⟩)
        go_ret2
        exact ans_none (Keep.refl _ _)

end Go.Proofs.Ytkljidigmolmmaa

namespace Go.Proofs.Ytkljidigmolmmaa.Tl
open Go.RowKit Go.Shelf
set_option linter.unusedVariables false

set_option maxHeartbeats 400000 in
theorem newQ_none (sa : Option Addr) (cap : Nat) (w : World) : Calls Try.prog 32 #[.slice sa 0 cap] w fun e w' => e = .returned (.tuple #[.pointer none, .int .i64 11]) ∧ w' = w := by
  go_enter Try.func32, Try.ntmps32
  go_wp2
  go_ret2
  exact ⟨rfl, rfl⟩

set_option maxHeartbeats 400000 in
theorem newQ_zero (gb off cap k : Nat) (w : World) (hk : k < 140737488355328) (hc : w.cell? ⟨gb, off + k, none⟩ = some (.int .u8 0)) : Calls Try.prog 32 #[.slice (some ⟨gb, off, none⟩) (k + 1) cap] w fun e w' => e = .returned (.tuple #[.pointer none, .int .i64 11]) ∧ w' = w := by
  have h0 : ((k : Int) + 1 == 0) = false := by simp; omega
  go_enter Try.func32, Try.ntmps32
  go_wp2
  go_ret2
  exact ⟨rfl, rfl⟩

/-- The document's reader while its bits are laid: xs so far, in row v. -/
structure IsN (w W : World) (qb : Nat) (v : Value) (xs : List Nat) : Prop where
  obj : W.heap[qb]? = some (.cells #[v, .int .i64 0] 74 (0, 0))
  row : W.ownsRow 0 5 1 v xs.length (u8s xs)
  ub : ∀ k, v.ownBlock = some k → w.heap.size ≤ k
  keep : Keep noBlock w W
theorem isN_snoc {w W w1 : World} {qb g cap : Nat} {v : Value} {xs : List Nat} {d : Nat} {o : Obj} (h : IsN w W qb v xs) (hqb : w.heap.size ≤ qb)
    (hown : w1.ownsRow 0 5 1 (.slice (some ⟨g, 0, none⟩) (xs.length + 1) cap) (xs.length + 1) (u8s xs ++ [.int .u8 (d : Int)])) (hgrow : (W.alloc o).drew.grownBy w1 v.ownBlock) (hat : v.ownBlock = some g ∨ g = W.heap.size + 1) :
    IsN w (w1.setCell ⟨qb, 0, none⟩ (.slice (some ⟨g, 0, none⟩) (xs.length + 1) cap)) qb (.slice (some ⟨g, 0, none⟩) (xs.length + 1) cap) (xs ++ [d]) := by
  have hvb := owns_ne h.row h.obj (by decide)
  have hlt := obj_lt h.obj
  have hob1 : w1.heap[qb]? = _ := (hgrow.block qb (by simp; omega) (Ne.symm hvb)).trans (alloc_far h.obj _)
  have hs := h.keep.size
  have hne : g ≠ qb := by
    rintro rfl
    rcases hat with e | e
    · exact hvb e
    · omega
  refine ⟨(set_obj hob1 0 _).trans (by simp), ?_, fun k e => ?_, ?_⟩
  · have h2 := owns_far hown hne 0 (.slice (some ⟨g, 0, none⟩) (xs.length + 1) cap)
    simpa [u8s] using h2
  · obtain rfl : g = k := by simpa [Value.ownBlock] using e
    rcases hat with e1 | e1
    · exact h.ub g e1
    · omega
  · exact (((h.keep.alloc _).drew).grown hgrow (fun k e hk => by have := h.ub k e; omega)).setCell (p := ⟨qb, 0, none⟩) (fun hl => by dsimp only at hl; omega) _

/-- The document's reader when all its bits are laid, and its row is cut to n of them. -/
structure IsT (w W : World) (qb g : Nat) (bs : List Nat) (K cap n : Nat) : Prop where
  obj : W.heap[qb]? = some (.cells #[.slice (some ⟨g, 0, none⟩) n cap, .int .i64 0] 74 (0, 0))
  cells : ∀ j, j < K → W.cell? ⟨g, j, none⟩ = some (.int .u8 ((bitAt bs j : Nat) : Int))
  lt : g < W.heap.size
  ne : g ≠ qb
  new : w.heap.size ≤ g
  room : K ≤ cap
  keep : Keep noBlock w W
theorem IsT.drewN {w W : World} {qb g : Nat} {bs : List Nat} {K cap n : Nat} (h : IsT w W qb g bs K cap n) (i : Nat) : IsT w (W.drewN i) qb g bs K cap n := ⟨h.obj, h.cells, h.lt, h.ne, h.new, h.room, h.keep.trans' (keep_drewN _ _)⟩
theorem IsT.drew {w W : World} {qb g : Nat} {bs : List Nat} {K cap n : Nat} (h : IsT w W qb g bs K cap n) : IsT w W.drew qb g bs K cap n := ⟨h.obj, h.cells, h.lt, h.ne, h.new, h.room, h.keep.drew⟩
theorem isT_cut {w W : World} {qb g : Nat} {bs : List Nat} {K cap n : Nat} (h : IsT w W qb g bs K cap n) (hqb : w.heap.size ≤ qb) (m : Nat) : IsT w (W.setCell ⟨qb, 0, none⟩ (.slice (some ⟨g, 0, none⟩) m cap)) qb g bs K cap m :=
  ⟨(set_obj h.obj 0 _).trans (by simp), fun j hj => (World.cell?_of_block (Below.heap_setCell _ _ _ _ h.ne)).trans (h.cells j hj), by simpa [World.setCell] using h.lt, h.ne, h.new, h.room, h.keep.setCell (p := ⟨qb, 0, none⟩) (fun hl => by dsimp only at hl; omega) _⟩

/-- The length of the row that the document's reader holds. -/
def heldQ (W : World) (qb : Nat) : Nat := match W.cell? ⟨qb, 0, none⟩ with | some (.slice _ n _) => n | _ => 0
theorem heldQ_of {w W : World} {qb g : Nat} {bs : List Nat} {K cap n : Nat} (h : IsT w W qb g bs K cap n) : heldQ W qb = n := by
  unfold heldQ
  rw [cell_of h.obj 0]
  rfl

set_option maxRecDepth 100000 in
set_option maxHeartbeats 2000000 in
theorem newQ_mark (gb off cap k c : Nat) (bs : List Nat) (hlen : bs.length = k + 1) (hk : k < 1099511627776) (hbs : ∀ j : Nat, bs[j]?.getD 0 < 256) (w : World) (hck : bs[k]?.getD 0 = c) (hc0 : c ≠ 0)
    (hcs : ∀ j, j < bs.length → w.cell? ⟨gb, off + j, none⟩ = some (.int .u8 ((bs[j]?.getD 0 : Nat) : Int))) :
    Calls Try.prog 32 #[.slice (some ⟨gb, off, none⟩) (k + 1) cap] w fun e w' => ∃ qb g, e = .returned (.tuple #[.pointer (some ⟨qb, 0, none⟩), .int .i64 0]) ∧ w.heap.size ≤ qb ∧ w.heap.size ≤ g ∧ IsQ w' qb g bs (tailLen bs) ((tailLen bs : Nat) : Int) ∧ Keep noBlock w w' := by
  obtain ⟨i0, hi, hz0, hz1, hz2⟩ := info_parts info5
  have hc : w.cell? ⟨gb, off + k, none⟩ = some (.int .u8 (c : Int)) := by rw [hcs k (by omega), hck]
  have h0 : ((k : Int) + 1 == 0) = false := by simp; omega
  have hce : ((c : Int) == 0) = false := by simp; omega
  have hgb : gb < w.heap.size := World.block_lt_of_cell? w ⟨gb, off + k, none⟩ hc
  have hlast : bs[bs.length - 1]?.getD 0 ≠ 0 := by rw [show bs.length - 1 = k from by omega, hck]; exact hc0
  have HT1 := (show Hid _ from mark_one bs hbs hlast)
  have HT2 := (show Hid _ from mark_above bs hlast)
  have HT3 := (show Hid _ from tailLen_lt bs hbs hlast)
  have HL := (show Hid _ from hlen)
  have HC := (show Hid _ from hcs)
  have HX := (show Hid _ from hbs)
  have hN0 : IsN w (w.alloc (.cells #[.slice none 0 0, .int .i64 0] 74)) w.heap.size (.slice none 0 0) (bitsTo bs 0) :=
    ⟨World.alloc_heap_new w _, World.ownsRow_nil _ _ _ _, fun k e => (by cases e), (Keep.refl _ w).alloc _⟩
  have hmx : Try.prog.follows .mixedOrders = true := by kernel_rfl
  clear hcs hbs hlen hlast hck hc0
  generalize tailLen bs = T at HT1 HT2 HT3 ⊢
  go_enter Try.func32, Try.ntmps32
  go_wp2
  go_loopw [5] (fun i wr => ∃ (n : Nat) (v : Value), n ≤ 8 * (k + 1) ∧ i = .int .i64 n ∧ IsN w wr w.heap.size v (bitsTo bs n)) (fun i _ => 8 * (k + 1) - (intOf i).toNat)
  case atStart => exact ⟨0, _, Nat.zero_le _, rfl, hN0⟩
  case round =>
    clear hN0
    obtain ⟨n, v, hn, rfl, hN⟩ := hrel
    by_cases hlt : n < 8 * (k + 1)
    · have hidx : n / 8 < bs.length := by have := HL.out; omega
      have hcg : wr.cell? ⟨gb, off + n / 8, none⟩ = some (.int .u8 ((bs[n / 8]?.getD 0 : Nat) : Int)) := (World.cell?_of_block (hN.keep.block gb hgb (fun h => h))).trans (HC.out _ hidx)
      have hc256 := HX.out (n / 8)
      have hba : bitAt bs n = bitOf (bs[n / 8]?.getD 0) (n % 8) := rfl
      have hbl := bitAt_lt bs n
      have hbs1 := bitsTo_succ bs n
      have hbn := bitsTo_length bs n
      rw [hba] at hbs1 hbl
      have HBS := (show Hid _ from hbs1)
      have HBN := (show Hid _ from hbn)
      clear hba hbs1 hbn
      generalize bs[n / 8]?.getD 0 = y at hcg hc256 HBS hbl
      have hq8 : n % 8 < 8 := by omega
      have hI : (n : Int).tmod 8 = ((n % 8 : Nat) : Int) := by rw [Int.tmod_eq_emod_of_nonneg (by omega)]; omega
      have hD : (n : Int).tdiv 8 = ((n / 8 : Nat) : Int) := by rw [Int.tdiv_eq_ediv_of_nonneg (by omega)]; omega
      have hI' : (n : Int) % 8 = ((n % 8 : Nat) : Int) := by omega
      have hD' : (n : Int) / 8 = ((n / 8 : Nat) : Int) := by omega
      have hd1 : n / 8 < k + 1 := by omega
      generalize n % 8 = q at hq8 hI hI' HBS hbl
      generalize n / 8 = d at hcg hD hD' hidx hd1
      have hb1 := and_bit_u8 y q hc256
      have hwd : IntKind.i64.wrap (d : Int) = (d : Int) := by rw [IntKind.wrap_i64]; omega
      have hwq : IntKind.u64.wrap (q : Int) = (q : Int) := by rw [IntKind.wrap_u64]; omega
      have hdI : (d : Int) < (k : Int) + 1 := by omega
      generalize bitOf y q = bt at hb1 HBS hbl
      have hll : (bitsTo bs n).length < 140737488355327 := by have := HBN.out; omega
      generalize bitsTo bs n = xs at hN HBS HBN hll
      have hcq : wr.cell? ⟨w.heap.size, 0, none⟩ = some v := cell_of hN.obj 0
      have hob := hN.obj
      have hrow := hN.row
      have hvb := owns_ne hrow hob (by decide)
      have hwb := obj_lt hob
      have hmax : xs.length + 1 ≤ maxLen := by unfold maxLen; omega
      obtain ⟨sa, cap0, rfl⟩ := owns_form hrow
      go_wp2
      go_region_law (refine step_append_lies _ rfl (.tmp 31) (.tmp 42) 22 rfl 0 5 i0 (.int .u8 0) 1 1 Try.underlying22 hi hz0 hz1 hz2 rfl (by decide) (.slice sa xs.length cap0) xs.length (u8s xs) (by simp [Act.eval]) (hrow.alloc _) ⟨wr.heap.size, 0, none⟩ 1 1 [.int .u8 (bt : Int)] (by simp [Act.eval]) rfl (World.news_of_block (World.alloc_heap_new wr _)) (by simp [Value.oneCell']) (by decide) hmax (by omega) (Nat.zero_le _) (wr.heap.size + 1) (by simp) ?_; intro g cap1 w1 hown hgrow hat hltg; have hob1 := (hgrow.block w.heap.size (by simp; omega) (Ne.symm hvb)).trans (alloc_far hob _); have hcb := cell_of hob1 0; have hfb := frozen_of hob1 0)
      all_goals
        have hN2 := isN_snoc (d := bt) hN (Nat.le_refl _) hown hgrow hat
        clear hob hrow hvb hob1 hcb hfb hown hgrow hat hN hcq hcg
        go_wp2
        go_roundw
      all_goals first | exact ⟨n + 1, _, by omega, by go_num, by rw [HBS.out]; exact hN2⟩ | (simp [intOf]; omega)
    · obtain rfl : n = 8 * (k + 1) := by omega
      obtain ⟨g, cap1, rfl, hT⟩ : ∃ g cap1, v = .slice (some ⟨g, 0, none⟩) (8 * (k + 1)) cap1 ∧ IsT w wr w.heap.size g bs (8 * (k + 1)) cap1 (8 * (k + 1)) := by
        have hbl := bitsTo_length bs (8 * (k + 1))
        have hvb := owns_ne hN.row hN.obj (by decide)
        have hob := hN.obj
        rcases hN.row.2 with ⟨rfl, h0⟩ | ⟨g, cap1, cur, rfl, hb, hg, hr1, hr2, hr3, hr4⟩
        · omega
        · rw [hbl] at hob hr1
          refine ⟨g, cap1, by rw [hbl], hob, fun j hj => ?_, obj_lt hg, fun e => hvb (by rw [e]; rfl), hN.ub g rfl, hr1, hN.keep⟩
          have := hN.row.cells (g := g) rfl j _ (u8s_at (bitsTo bs (8 * (k + 1))) j (by omega))
          rw [add0, bitsTo_at bs _ j hj] at this
          exact this
      clear hN hlt hn
      go_wp2
      go_loopw [] (fun wr => ∃ j : Nat, T ≤ j ∧ j + 1 ≤ 8 * (k + 1) ∧ IsT w wr w.heap.size g bs (8 * (k + 1)) cap1 (j + 1)) (fun wr => heldQ wr w.heap.size)
      case atStart => exact ⟨8 * k + 7, by have := HT3.out; have := HL.out; omega, by omega, hT⟩
      case round =>
        clear hT
        obtain ⟨j, hj1, hj2, hT⟩ := hrel
        have hcq : wr.cell? ⟨w.heap.size, 0, none⟩ = some (.slice (some ⟨g, 0, none⟩) (j + 1) cap1) := cell_of hT.obj 0
        have hcj := hT.cells j (by omega)
        have hfq := frozen_of hT.obj 0
        have hroom := hT.room
        have hjc : (j : Int) ≤ (cap1 : Int) := by omega
        have hj0 : (0 : Int) ≤ (j : Int) := by omega
        by_cases hjT : j = T
        · subst hjT
          rw [HT1.out] at hcj
          go_wp2
          go_quiet (fail)
          go_wp2
          have hT2 := hT.drewN nq
          generalize wr.drewN nq = W2 at hT2 ⊢
          clear hcq hcj hfq hT
          have hcq : W2.cell? ⟨w.heap.size, 0, none⟩ = some (.slice (some ⟨g, 0, none⟩) (j + 1) cap1) := cell_of hT2.obj 0
          have hfq := frozen_of hT2.obj 0
          go_region
          all_goals
            have hT3 := (isT_cut hT2 (Nat.le_refl _) j).drew
            generalize (W2.setCell ⟨w.heap.size, 0, none⟩ (.slice (some ⟨g, 0, none⟩) j cap1)).drew = W3 at hT3 ⊢
            clear hcq hfq hT2
            have hcq : W3.cell? ⟨w.heap.size, 0, none⟩ = some (.slice (some ⟨g, 0, none⟩) j cap1) := cell_of hT3.obj 0
            have hc1 : W3.cell? ⟨w.heap.size, 1, none⟩ = some (.int .i64 0) := cell_of hT3.obj 1
            have hf1 := frozen_of hT3.obj 1
            go_wp2
            go_ret2
            refine ⟨w.heap.size, g, rfl, Nat.le_refl _, hT3.new, ⟨⟨cap1, (set_obj hT3.obj 1 _).trans (by simp)⟩, fun i hi => (World.cell?_of_block (Below.heap_setCell _ _ _ _ hT3.ne)).trans (hT3.cells i (by omega)), by simpa [World.setCell] using hT3.lt, hT3.ne, by omega⟩, hT3.keep.setCell (p := ⟨w.heap.size, 1, none⟩) (fun hl => by dsimp only at hl; omega) _⟩
        · rw [HT2.out j (by omega) (by have := HL.out; omega)] at hcj
          go_wp2
          go_quiet (fail)
          go_wp2
          have hT2 := hT.drewN nq
          have hheld := heldQ_of hT
          generalize wr.drewN nq = W2 at hT2 ⊢
          have HHD := (show Hid _ from hheld)
          clear hcq hcj hfq hT hheld
          have hcq : W2.cell? ⟨w.heap.size, 0, none⟩ = some (.slice (some ⟨g, 0, none⟩) (j + 1) cap1) := cell_of hT2.obj 0
          have hfq := frozen_of hT2.obj 0
          go_region
          all_goals
            go_wp2
            have hT3 := (isT_cut hT2 (Nat.le_refl _) j).drew
            go_roundw
          all_goals first | exact ⟨j - 1, by omega, by omega, by rw [show j - 1 + 1 = j from by omega]; exact hT3⟩ | (rw [HHD.out]; have := heldQ_of hT3; rw [this]; omega)

end Go.Proofs.Ytkljidigmolmmaa.Tl
