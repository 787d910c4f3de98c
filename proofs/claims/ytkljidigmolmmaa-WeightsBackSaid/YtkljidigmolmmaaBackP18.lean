/-
  The document's Read of weights of four bits.
  Read, the program's and the document's, as one contract.
  A description that lies in bytes is read as the counts that it tells.
  Weights that are told by two states by turns, as lists: no program is named here.
  Weights that make a code: what is told of them, and the last one: no program is named here.
  Descriptions that are read as the weights of which they were made.
-/
import Derived.Test.YtkljidigmolmmaaBackP17
namespace Go.Proofs.Ytkljidigmolmmaa
open Go.RowKit Go.Shelf
set_option linter.unusedVariables false

theorem fours_and (y i : Nat) (hy : y < 256) : bits .and .u8 (IntKind.u8.wrap ((y : Int) / 2 ^ (4 * (1 - i % 2)))) 15 = ((if i % 2 = 1 then y % 16 else y / 16 : Nat) : Int) := by
  rcases (show i % 2 = 0 ∨ i % 2 = 1 by omega) with e | e
  · rw [e, if_neg (by omega)]
    revert y
    decide +kernel
  · rw [e, if_pos rfl]
    revert y
    decide +kernel

set_option maxRecDepth 100000 in
set_option maxHeartbeats 1000000 in
theorem readD_fours (a : Option Addr) (cap gb off : Nat) (bs : List Nat) (n : Nat) (w : World) (hB : Bytes w a cap gb off bs) (hne : bs ≠ []) (h1 : bs[0]?.getD 0 = n + 127) (h2 : 1 ≤ n) (h3 : (n + 1) / 2 + 1 ≤ bs.length) :
    Calls Try.prog 8 #[.slice a bs.length cap] w fun e w' => ReadPost (readOf (some ((List.range n).map (fourW (bs.drop 1))))) (1 + (n + 1) / 2) w e w' := by
  have hpos : 0 < bs.length := List.length_pos_iff.2 hne
  obtain rfl := hB.here (i := 0) hpos
  have c0 := hB.cells 0 hpos
  have hx := hB.lt 0
  rw [Nat.add_zero] at c0
  have h48 := hB.len
  have hgbw := hB.block hne
  obtain ⟨N, hN⟩ : ∃ N, N = bs.length := ⟨_, rfl⟩
  rw [← hN] at hpos h48 h3 ⊢
  obtain ⟨h, hh⟩ : ∃ h, h = bs[0]?.getD 0 := ⟨_, rfl⟩
  rw [← hh] at h1 hx c0
  obtain ⟨d, hd⟩ : ∃ d, d = (n + 1) / 2 := ⟨_, rfl⟩
  rw [← hd] at h3 ⊢
  have hdI : ((n : Int) + 1) / 2 = (d : Int) := by omega
  have hdT : ((n : Int) + 1).tdiv 2 = (d : Int) := by rw [Int.tdiv_eq_ediv_of_nonneg (by omega)]; exact hdI
  have hgt : (128 : Int) ≤ (h : Int) := by omega
  have hnI : (h : Int) - 127 = (n : Int) := by omega
  have hhI : (h : Int) < 256 := by omega
  have hsI : ¬ (N : Int) < 1 + (d : Int) := by omega
  have hn0 : ((N : Int) == 0) = false := by rw [beq_eq_false_iff_ne]; omega
  have hn1 : (0 : Int) < (N : Int) := by omega
  have hd2 : (d : Int) < 100 := by omega
  have hn128 : (n : Int) ≤ 128 := by omega
  have HB := (show Hid (Bytes w (some ⟨gb, off, none⟩) cap gb off bs ∧ N = bs.length ∧ d = (n + 1) / 2 ∧ d + 1 ≤ N ∧ gb < w.heap.size ∧ n ≤ 128) from ⟨hB, hN, hd, h3, hgbw, by omega⟩)
  clear hB hN hh h1 hd h3 h48 hne hgbw hx
  go_enter Try.func8, Try.ntmps8
  go_wp2
  go_loopw [6, 8] (fun v6 v8 wr => ∃ (i : Nat) (sa : Option Addr) (sn sc : Nat), v6 = .slice sa sn sc ∧ v8 = .int .i64 (i : Int) ∧ i ≤ n ∧ sn = i ∧ Hid (wr.ownsRow 0 5 1 (.slice sa sn sc) ((List.range i).map (fourW (bs.drop 1))).length (u8s ((List.range i).map (fourW (bs.drop 1)))) ∧ (∀ k, (Value.slice sa sn sc).ownBlock = some k → w.heap.size ≤ k) ∧ Keep noBlock w wr)) (fun _ v8 _ => n - (intOf v8).toNat)
  case atStart => exact ⟨0, none, 0, 0, rfl, rfl, Nat.zero_le _, rfl, World.ownsRow_nil _ _ _ _, (fun k e => by cases e), Keep.refl _ _⟩
  case round =>
    obtain ⟨i, sa, sn, sc, rfl, rfl, hi, rfl, HC⟩ := hrel
    by_cases hlt : sn < n
    · have hltI : (sn : Int) < (n : Int) := by omega
      obtain ⟨hown, hnew, hK⟩ := HC.out
      obtain ⟨e, he⟩ : ∃ e, e = sn / 2 := ⟨_, rfl⟩
      have heI : (sn : Int) / 2 = (e : Int) := by omega
      have heT : (sn : Int).tdiv 2 = (e : Int) := by rw [Int.tdiv_eq_ediv_of_nonneg (by omega)]; exact heI
      have hb := HB.out
      have h1e : 1 + e < bs.length := by omega
      have hBr := hb.1.keep hK (fun _ h => h)
      have c1 := hBr.cells (1 + e) h1e
      have hy256 := hb.1.lt (1 + e)
      have heN : 1 + (e : Int) < (N : Int) := by omega
      obtain ⟨r, hr⟩ : ∃ r, r = sn % 2 := ⟨_, rfl⟩
      have hrI : (sn : Int) % 2 = (r : Int) := by omega
      have hrT : (sn : Int).tmod 2 = (r : Int) := by rw [Int.tmod_eq_emod_of_nonneg (by omega)]; exact hrI
      have hfw : fourW (bs.drop 1) sn = if sn % 2 = 1 then bs[1 + e]?.getD 0 % 16 else bs[1 + e]?.getD 0 / 16 := by
        unfold fourW
        rw [List.getElem?_drop, he]
      obtain ⟨y, hy⟩ : ∃ y, y = bs[1 + e]?.getD 0 := ⟨_, rfl⟩
      rw [← hy] at c1 hy256 hfw
      have hand := fours_and y sn hy256
      rw [← hfw] at hand
      have hmap : (List.range (sn + 1)).map (fourW (bs.drop 1)) = (List.range sn).map (fourW (bs.drop 1)) ++ [fourW (bs.drop 1) sn] := by rw [List.range_succ, List.map_append]; rfl
      have hml : ((List.range sn).map (fourW (bs.drop 1))).length = sn := by simp
      obtain ⟨z, hz⟩ : ∃ z, z = fourW (bs.drop 1) sn := ⟨_, rfl⟩
      rw [← hz] at hand hmap
      have hz16 : z < 256 := by rw [hz, hfw]; split <;> omega
      obtain ⟨v', W', hrun, hown5, hk5, hm5⟩ := own_push hown z (by omega)
      rw [← hmap] at hown5
      obtain ⟨oa', oc', hv'⟩ := owns_form hown5
      have hml2 : ((List.range (sn + 1)).map (fourW (bs.drop 1))).length = sn + 1 := by simp
      rw [hml2] at hv'
      subst hv'
      have HE := (show Hid (W'.ownsRow 0 5 1 (.slice oa' (sn + 1) oc') ((List.range (sn + 1)).map (fourW (bs.drop 1))).length (u8s ((List.range (sn + 1)).map (fourW (bs.drop 1)))) ∧ (∀ k, (Value.slice oa' (sn + 1) oc').ownBlock = some k → w.heap.size ≤ k) ∧ Keep noBlock w W') from ⟨hown5, fun k e => by
        rcases hm5 with e2 | ⟨j, e2, hj⟩
        · rw [e2] at e; exact hnew k e
        · rw [e2] at e; cases e; have := hK.size; omega, hK.trans hk5 (fun j hj e => by have := hnew j e; omega)⟩)
      have hzI : (z : Int) < 256 := by omega
      have hyI : (y : Int) < 256 := by omega
      have hsn : (sn : Int) ≤ 128 := by omega
      have heb : (e : Int) ≤ 64 := by omega
      rcases (show sn % 2 = 0 ∨ sn % 2 = 1 by omega) with h0 | h0
      · have hmI : (sn : Int) % 2 = 0 := by omega
        have hmT : (sn : Int).tmod 2 = 0 := by rw [Int.tmod_eq_emod_of_nonneg (by omega)]; exact hmI
        rw [h0] at hand
        have hq : (y : Int) / 2 ^ (4 * (1 - 0)) = (y : Int) / 16 := rfl
        have hw16 : IntKind.u8.wrap ((y : Int) / 16) = (y : Int) / 16 := by rw [IntKind.wrap_u8]; omega
        rw [hq, hw16] at hand
        obtain ⟨y16, hy16⟩ : ∃ y16 : Nat, (y : Int) / 16 = (y16 : Int) := ⟨y / 16, by omega⟩
        rw [hy16] at hand
        have hy16b : (y16 : Int) < 16 := by omega
        clear hq hw16
        clear hown hnew hK he hb hBr hr hrI hrT hfw hy hz hmap hml hown5 hk5 hm5 hml2 HC h0 hz16 h1e hy256 hdI hdT hsI hd2 hgt
        go_wp2_with (at_builtin; refine wpList_append_run _ rfl _ _ 22 rfl _ _ _ _ rfl rfl hrun ?_)
        go_roundw
        case rel => exact ⟨sn + 1, oa', sn + 1, oc', rfl, by go_num, by omega, rfl, HE.out⟩
        case measure => simp [intOf]; omega
      · have hmI : (sn : Int) % 2 = 1 := by omega
        have hmT : (sn : Int).tmod 2 = 1 := by rw [Int.tmod_eq_emod_of_nonneg (by omega)]; exact hmI
        rw [h0] at hand
        have hq : (y : Int) / 2 ^ (4 * (1 - 1)) = (y : Int) := by simp
        have hw16 : IntKind.u8.wrap (y : Int) = (y : Int) := by rw [IntKind.wrap_u8]; omega
        rw [hq, hw16] at hand
        clear hq hw16
        clear hown hnew hK he hb hBr hr hrI hrT hfw hy hz hmap hml hown5 hk5 hm5 hml2 HC h0 hz16 h1e hy256 hdI hdT hsI hd2 hgt
        go_wp2_with (at_builtin; refine wpList_append_run _ rfl _ _ 22 rfl _ _ _ _ rfl rfl hrun ?_)
        go_roundw
        case rel => exact ⟨sn + 1, oa', sn + 1, oc', rfl, by go_num, by omega, rfl, HE.out⟩
        case measure => simp [intOf]; omega
    · obtain rfl : sn = n := by omega
      have hltI : ¬ (sn : Int) < (sn : Int) := by omega
      obtain ⟨hown, hnew, hK⟩ := HC.out
      obtain ⟨M, hM⟩ : ∃ M, M = (List.range sn).map (fourW (bs.drop 1)) := ⟨_, rfl⟩
      have hML : M.length = sn := by rw [hM]; simp
      rw [← hM] at hown
      have HMe := (show Hid (M = (List.range sn).map (fourW (bs.drop 1))) from hM)
      have hlt : ∀ j : Nat, M[j]?.getD 0 < 256 := by
        refine lt256 (fun b hb => ?_)
        rw [hM] at hb
        obtain ⟨j, -, rfl⟩ := List.mem_map.1 hb
        have := fourW_lt (bs.drop 1) j (lt_drop HB.out.1.lt 1)
        omega
      obtain ⟨a2, cap2, g2, hv2, hB2, hg2⟩ := owns_bytes hown hlt (by omega)
      have HL := (show Hid (Calls Try.prog 20 #[.slice sa sn sc] wr _) from by
        have := whole_any a2 cap2 g2 0 M wr hB2
        rw [← hv2] at this
        exact this)
      have HK := (show Hid (Keep noBlock w wr) from hK)
      clear hown hnew hK hlt hv2 hB2 hg2 HC hM hML
      go_wp2_with fail
      refine HL.out.mono ?_
      rintro e w2 ⟨hK2, hP⟩
      have HK2 := (show Hid (Keep noBlock w w2) from HK.out.trans' hK2)
      rcases hP with ⟨hc, v2, rfl, hown2, hnew2⟩ | ⟨hc, v2, rfl⟩
      · obtain ⟨sb, bcap, rfl⟩ := owns_form hown2
        have HO := (show Hid (w2.ownsRow 0 5 1 (.slice sb (M ++ [lastW M]).length bcap) (M ++ [lastW M]).length (u8s (M ++ [lastW M])) ∧ readOf (some M) = some (M ++ [lastW M])) from ⟨hown2, readOf_yes hc⟩)
        obtain ⟨L, hL⟩ : ∃ L, L = (M ++ [lastW M]).length := ⟨_, rfl⟩
        rw [← hL] at HO ⊢
        have HLL := (show Hid (L = (M ++ [lastW M]).length) from hL)
        clear hL
        clear hown2 hnew2 hK2
        go_wp2_with fail
        refine bodyPost_ret (v := .tuple #[.slice sb L bcap, .int .i64 ((1 + d : Nat) : Int), .int .i64 0]) (by simp [results, Try.results8]) rfl ?_
        rw [← HMe.out, HO.out.2]
        exact ⟨HK2.out, _, rfl, by rw [← HLL.out]; exact HO.out.1⟩
      · have HO := (show Hid (readOf (some M) = none) from readOf_no hc)
        clear hK2
        go_wp2_with fail
        refine bodyPost_ret (v := .tuple #[.slice none 0 0, .int .i64 0, .int .i64 11]) (by simp [results, Try.results8]) rfl ?_
        rw [← HMe.out, HO.out]
        exact ⟨HK2.out, rfl⟩

end Go.Proofs.Ytkljidigmolmmaa

namespace Go.Proofs.Ytkljidigmolmmaa
open Go.RowKit Go.Shelf
set_option linter.unusedVariables false

/-- What Read answers: an error, weights, how many bytes were used. -/
def RAns (c u : Nat) (V : List Nat) (w : World) (e : Ending) (w' : World) : Prop :=
  Keep noBlock w w' ∧ ∃ a n cap, e = .returned (.tuple #[.slice a n cap, .int .i64 (u : Int), .int .i64 (c : Int)]) ∧ n = V.length ∧ w'.ownsRow 0 5 1 (.slice a n cap) n (u8s V)
theorem rans_of {R : Option (List Nat)} {u : Nat} {w w' : World} {e : Ending} (h : ReadPost R u w e w') : RAns (if R = none then 11 else 0) (if R = none then 0 else u) (R.getD []) w e w' := by
  obtain ⟨hk, hm⟩ := h
  cases R with
  | none => exact ⟨hk, none, 0, 0, hm, rfl, World.ownsRow_nil _ _ _ _⟩
  | some ws =>
    obtain ⟨v, rfl, ho⟩ := hm
    obtain ⟨a, cap, rfl⟩ := owns_form ho
    exact ⟨hk, a, _, cap, rfl, rfl, ho⟩
theorem rans_short {w w' : World} {e : Ending} (h : e = .returned (.tuple #[.slice none 0 0, .int .i64 0, .int .i64 10]) ∧ w' = w) : RAns 10 0 [] w e w' := by
  obtain ⟨rfl, rfl⟩ := h
  exact ⟨Keep.refl _ _, none, 0, 0, rfl, rfl, World.ownsRow_nil _ _ _ _⟩

/-- Both Reads answer the same. -/
theorem read_both (bs : List Nat) : ∃ (c u : Nat) (V : List Nat),
    (∀ (a : Option Addr) (cap gb off : Nat) (w : World), Bytes w a cap gb off bs → Calls Try.prog 7 #[.slice a bs.length cap] w fun e w' => RAns c u V w e w') ∧
    (∀ (a : Option Addr) (cap gb off : Nat) (w : World), Bytes w a cap gb off bs → Calls Try.prog 8 #[.slice a bs.length cap] w fun e w' => RAns c u V w e w') := by
  by_cases hs : bs.length < usedN (bs[0]?.getD 0)
  · exact ⟨10, 0, [], fun a cap gb off w hB => (read_short a cap gb off bs w hB hs).mono fun e w' h => rans_short h, fun a cap gb off w hB => (readD_short a cap gb off bs w hB hs).mono fun e w' h => rans_short h⟩
  · have hu : 1 ≤ usedN (bs[0]?.getD 0) := by unfold usedN; split <;> omega
    have hne : bs ≠ [] := by intro e; rw [e] at hs hu; exact hs hu
    have htl : (bs.take (usedN (bs[0]?.getD 0))).length = usedN (bs[0]?.getD 0) := by rw [List.length_take]; omega
    have ht0 : (bs.take (usedN (bs[0]?.getD 0)))[0]?.getD 0 = bs[0]?.getD 0 := by rw [List.getElem?_take, if_pos (by omega)]
    have htne : bs.take (usedN (bs[0]?.getD 0)) ≠ [] := by intro h; rw [h] at htl; simp at htl; omega
    by_cases h1 : bs[0]?.getD 0 ≤ 127
    · have hue : usedN (bs[0]?.getD 0) = 1 + bs[0]?.getD 0 := if_pos h1
      obtain ⟨u, hu2⟩ : ∃ u, u = usedN (bs[0]?.getD 0) := ⟨_, rfl⟩
      rw [← hu2] at hs htl ht0 htne hue hu
      obtain ⟨R0, hR0⟩ : ∃ R0, ∀ R, RdRel ((bs.take u).drop 1) 6 11 R → R = R0 := by
        by_cases h : ∃ R, RdRel ((bs.take u).drop 1) 6 11 R
        · obtain ⟨R, hR⟩ := h
          exact ⟨R, fun R' h' => h'.det hR⟩
        · exact ⟨none, fun R' h' => absurd ⟨R', h'⟩ h⟩
      refine ⟨if readOf (tellD ((bs.take u).drop 1) R0) = none then 11 else 0, if readOf (tellD ((bs.take u).drop 1) R0) = none then 0 else u, (readOf (tellD ((bs.take u).drop 1) R0)).getD [], fun a cap gb off w hB => ?_, fun a cap gb off w hB => ((readD_states a cap gb off bs u w hB hne h1 hue (by omega)).mono fun e w' h => ?_)⟩
      · by_cases hex : RdRel ((bs.take u).drop 1) 6 11 R0
        · have hT := (tell_states a cap gb off (bs.take u) w (hB.take u (by omega)).2 htne (by rw [ht0]; exact h1) (by omega)).mono (fun e w' h => show TellPost (tellT ((bs.take u).drop 1) R0) w e w' from by
            obtain ⟨R, hR, h⟩ := h
            rw [hR0 R hR] at h
            exact h)
          have := read_told a cap gb off bs u _ w hB hne hu2 (by omega) hT (fun M hM => by
            have h := (tellT_iff _ _ _).1 hM
            exact ⟨h.2, tellD_lt hex h.1⟩)
          rw [readOf_tell] at this
          exact this.mono fun e w' h => rans_of h
        · obtain ⟨e, w', fr, ⟨R, hR, -⟩, -⟩ := (tell_states a cap gb off (bs.take u) w (hB.take u (by omega)).2 htne (by rw [ht0]; exact h1) (by omega)) []
          rw [hR0 R hR] at hR
          exact absurd hR hex
      · obtain ⟨R, hR, h⟩ := h
        rw [hR0 R hR] at h
        exact rans_of h
    · have hue : usedN (bs[0]?.getD 0) = 1 + (bs[0]?.getD 0 - 127 + 1) / 2 := if_neg h1
      obtain ⟨u, hu2⟩ : ∃ u, u = usedN (bs[0]?.getD 0) := ⟨_, rfl⟩
      rw [← hu2] at hs htl ht0 htne hue hu
      obtain ⟨n, hn⟩ : ∃ n, n = bs[0]?.getD 0 - 127 := ⟨_, rfl⟩
      rw [← hn] at hue
      have hfe : (List.range n).map (fourW ((bs.take u).drop 1)) = (List.range n).map (fourW (bs.drop 1)) := by
        refine List.map_congr_left fun k hk => ?_
        have hk' := List.mem_range.1 hk
        have : ((bs.take u).drop 1)[k / 2]? = (bs.drop 1)[k / 2]? := by rw [List.getElem?_drop, List.getElem?_drop, List.getElem?_take, if_pos (by omega)]
        unfold fourW
        rw [this]
      refine ⟨_, _, _, fun a cap gb off w hB => ?_, fun a cap gb off w hB => ((readD_fours a cap gb off bs n w hB hne (by omega) (by omega) (by omega)).mono fun e w' h => by rw [← hue] at h; exact rans_of h)⟩
      have hx := hB.lt 0
      have hT := tell_fours a cap gb off (bs.take u) n w (hB.take u (by omega)).2 htne (by rw [ht0]; omega) (by omega) (by omega)
      rw [hfe] at hT
      exact (read_told a cap gb off bs u _ w hB hne hu2 (by omega) hT (fun M hM => by
        cases hM
        refine ⟨by simp; omega, lt256 (fun b hb => ?_)⟩
        obtain ⟨j, -, rfl⟩ := List.mem_map.1 hb
        have := fourW_lt (bs.drop 1) j (lt_drop hB.lt 1)
        omega)).mono fun e w' h => rans_of h

end Go.Proofs.Ytkljidigmolmmaa

namespace Go.Proofs.Ytkljidigmolmmaa
open Go.RowKit Go.Shelf
set_option linter.unusedVariables false

theorem valR_laid {bs : List Nat} {p R v : Nat} (hR1 : 1 ≤ R) (hv : v ≤ R + 1) (hL : Laid bs p (valBits R v)) : valR bs p R = some (v, p + (valBits R v).length) := by
  have hm2 := valM_ge R hR1
  have hT := valT_eq R
  obtain ⟨hH1, hH2, hH3⟩ := val_half R hR1
  have hle := hL.le
  unfold valR
  rcases valBits_cases R v with ⟨h1, e1⟩ | ⟨h1, h2, e1⟩ | ⟨h1, h2, e1⟩
  · rw [e1] at hL hle ⊢
    rw [low_length] at hle ⊢
    have hn : numAt bs p (valM R - 1) = v := by rw [hL.num _ (Nat.le_refl _), Nat.mod_eq_of_lt (by omega)]
    rw [if_neg (by omega), hn, if_pos h1]
  · rw [e1] at hL hle ⊢
    rw [low_length] at hle ⊢
    have hn : numAt bs p (valM R - 1) = v := by rw [hL.num _ (by omega), Nat.mod_eq_of_lt h2]
    have hn2 : numAt bs (p + (valM R - 1)) 1 = 0 := by rw [hL.one _ (by omega), Nat.div_eq_of_lt h2]
    rw [if_neg (by omega), hn, if_neg h1, if_neg (by omega), hn2, if_neg (by decide), show p + (valM R - 1) + 1 = p + valM R from by omega]
  · rw [e1] at hL hle ⊢
    rw [low_length] at hle ⊢
    obtain ⟨P, hP⟩ : ∃ P, P = 2 ^ (valM R - 1) := ⟨_, rfl⟩
    obtain ⟨u, hu⟩ : ∃ u, v + valT R = u + P := ⟨v + valT R - P, by omega⟩
    have hn : numAt bs p (valM R - 1) = u := by rw [hL.num _ (by omega), ← hP, hu, Nat.add_mod_right, Nat.mod_eq_of_lt (by omega)]
    have hn2 : numAt bs (p + (valM R - 1)) 1 = 1 := by rw [hL.one _ (by omega), ← hP, hu, Nat.add_div_right _ (by omega), Nat.div_eq_of_lt (by omega)]
    rw [if_neg (by omega), hn, if_neg (by omega), if_neg (by omega), hn2, if_pos rfl, show p + (valM R - 1) + 1 = p + valM R from by omega, ← hP, show u + P - valT R = v from by omega]

theorem cnt_zeros {bs : List Nat} {ms R : Nat} {T : Option (List Int × Nat)} (hR : 1 ≤ R) : ∀ (N z p : Nat) (acc : List Int), z ≤ N → acc.length + z ≤ ms → Laid bs p (zbits z) →
    Cnt bs ms R (p + (zbits z).length) (acc ++ List.replicate z 0) false T → Cnt bs ms R p acc true T := by
  intro N
  induction N with
  | zero =>
    intro z p acc hz hl hL hT
    obtain rfl : z = 0 := by omega
    rw [zbits_few 0 (by omega)] at hL hT
    have hn : numAt bs p 2 = 0 := hL.num 2 (Nat.le_refl _)
    have hle := hL.le
    rw [low_length] at hle hT
    refine Cnt.zeros R p acc T hR (by omega) (by omega) ?_
    rw [hn]
    exact hT
  | succ N ih =>
    intro z p acc hz hl hL hT
    by_cases h3 : 3 ≤ z
    · obtain ⟨k, rfl⟩ : ∃ k, z = k + 3 := ⟨z - 3, by omega⟩
      rw [zbits_more] at hL hT
      have hn : numAt bs p 2 = 3 := hL.left.num 2 (Nat.le_refl _)
      have hle := hL.left.le
      have hr := hL.right
      rw [low_length] at hle hr
      rw [List.length_append, low_length, ← Nat.add_assoc] at hT
      refine Cnt.zeros R p acc T hR (by omega) (by omega) ?_
      rw [hn]
      refine ih k (p + 2) (acc ++ List.replicate 3 0) (by omega) (by simp; omega) hr ?_
      rw [List.append_assoc, List.replicate_append_replicate, show 3 + k = k + 3 from by omega]
      exact hT
    · rw [zbits_few z (by omega)] at hL hT
      have hn : numAt bs p 2 = z := by rw [hL.num 2 (Nat.le_refl _)]; exact Nat.mod_eq_of_lt (by omega)
      have hle := hL.le
      rw [low_length] at hle hT
      refine Cnt.zeros R p acc T hR (by omega) (by omega) ?_
      rw [hn, decide_eq_false (by omega)]
      exact hT
theorem zl_split (cs : List Int) : cs = List.replicate (zl cs) 0 ++ cs.drop (zl cs) := by
  refine List.ext_getElem? fun j => ?_
  have hle := zl_le cs
  by_cases hj : j < zl cs
  · rw [List.getElem?_append_left (by simpa using hj), List.getElem?_replicate, if_pos hj]
    have := zl_zero cs j hj
    rw [List.getElem?_eq_getElem (by omega)] at this ⊢
    exact congrArg some this
  · rw [List.getElem?_append_right (by simp; omega), List.getElem?_drop, List.length_replicate, show zl cs + (j - zl cs) = j from by omega]
theorem cnt_laid {bs : List Nat} {ms : Nat} : ∀ (f : Nat) (cs : List Int) (R p : Nat) (acc : List Int), cs.length ≤ f → Good cs → R = tot cs → acc.length + cs.length ≤ ms + 1 → Laid bs p (dsc f R cs) →
    Cnt bs ms R p acc false (some (acc ++ cs, p + (dsc f R cs).length)) := by
  intro f
  induction f with
  | zero =>
    intro cs R p acc hf hG hR hl hL
    obtain rfl : cs = [] := List.eq_nil_of_length_eq_zero (by omega)
    subst hR
    simp only [dsc, List.append_nil, List.length_nil, Nat.add_zero]
    exact Cnt.done p acc false
  | succ f ih =>
    intro cs R p acc hf hG hR hl hL
    cases cs with
    | nil =>
      subst hR
      simp only [dsc, List.append_nil, List.length_nil, Nat.add_zero]
      exact Cnt.done p acc false
    | cons c cs =>
      have hpos := hG.pos (by simp)
      rw [← hR] at hpos
      have hb := hG.low c (by simp)
      have hsh := tot_mem (c :: cs) 0 hG.low
      rw [← hR] at hsh
      simp only [List.getElem?_cons_zero, Option.getD_some] at hsh
      obtain ⟨v, hv⟩ : ∃ v, v = (c + 1).toNat := ⟨_, rfl⟩
      have hcv : (v : Int) - 1 = c := by omega
      have hvR : v ≤ R + 1 := by unfold shareN at hsh; split at hsh <;> omega
      have htt : R = (shareN c).toNat + tot cs := hR
      have hd : dsc (f + 1) R (c :: cs) = valBits R v ++ (if c = 0 then zbits (zl cs) ++ dsc f R (cs.drop (zl cs)) else dsc f (R - (shareN c).toNat) cs) := by rw [hv]; rfl
      rw [hd] at hL ⊢
      rw [List.length_append, ← Nat.add_assoc]
      have hr := hL.right
      simp only [List.length_cons] at hl hf
      refine Cnt.count R p acc v _ _ hpos (by omega) (valR_laid hpos hvR hL.left) ?_
      rw [hcv]
      by_cases hc : c = 0
      · rw [if_pos hc] at hr ⊢
        have hs0 : (shareN c).toNat = 0 := by rw [(shareN_zero c).2 hc]; rfl
        rw [hs0] at htt ⊢
        rw [decide_eq_true hc, Nat.sub_zero]
        have hne : cs ≠ [] := by
          intro e
          rw [e, hc] at hG
          exact hG.last (by simp) rfl
        have hz := hG.tail.zl hne
        refine cnt_zeros hpos (zl cs) (zl cs) _ _ (Nat.le_refl _) (by simp; omega) hr.left ?_
        have := ih (cs.drop (zl cs)) R (p + (valBits R v).length + (zbits (zl cs)).length) (acc ++ [c] ++ List.replicate (zl cs) 0) (by rw [List.length_drop]; omega) (hG.tail.drop _) (by rw [tot_zeros cs _ (Nat.le_refl _)]; omega) (by rw [List.length_drop]; simp; omega) hr.right
        rw [List.append_assoc (acc ++ [c]), ← zl_split, List.append_assoc acc [c] cs, Nat.add_assoc _ (zbits (zl cs)).length] at this
        rw [List.length_append]
        exact this
      · rw [if_neg hc] at hr ⊢
        rw [decide_eq_false hc]
        have := ih cs (R - (shareN c).toNat) _ (acc ++ [c]) (by omega) hG.tail (by omega) (by simp; omega) hr
        rw [List.append_assoc] at this
        exact this
theorem rdRel_laid {bs : List Nat} {xs : List Int} {l : Nat} (hb : okT xs (l : Int) = true) (hl : l ≤ 6) (hx : xs.length ≤ 12) (hL : Laid bs 0 (dscAll xs l)) : RdRel bs 6 11 (some (xs, l, ((dscAll xs l).length + 7) / 8)) := by
  obtain ⟨hG, hT, hne, hlen, hl5, hl12⟩ := okT_good hb
  have hle := hL.left.le
  rw [low_length] at hle
  have hn : numAt bs 0 4 = l - 5 := by rw [hL.left.num 4 (Nat.le_refl _)]; exact Nat.mod_eq_of_lt (by omega)
  have hr := hL.right
  rw [low_length] at hr
  unfold RdRel
  rw [if_neg (by omega), hn, show l - 5 + 5 = l from by omega, if_neg (by omega)]
  have := cnt_laid (ms := 11) xs.length xs (2 ^ l) (0 + 4) [] (Nat.le_refl _) hG hT.symm (by simp; omega) hr
  refine ⟨_, this, ?_⟩
  simp only [Option.map_some, List.nil_append]
  unfold dscAll
  rw [List.length_append, low_length, Nat.zero_add]
theorem bitAt_app (A B : List Nat) (k : Nat) (h : k < 8 * A.length) : bitAt (A ++ B) k = bitAt A k := by
  unfold bitAt
  rw [List.getElem?_append_left (by omega)]
theorem laid_pack (L : List (Fin 2)) (M B : List (Fin 2)) (T : List Nat) (hM : M = L ++ B) : Laid (pack M ++ T) 0 L := by
  have hl : (pack M).length = (M.length + 7) / 8 := pack_length M
  have hm : M.length = L.length + B.length := by rw [hM, List.length_append]
  refine ⟨by rw [List.length_append]; omega, fun k hk => ?_⟩
  rw [Nat.zero_add, bitAt_app _ _ _ (by omega), bitAt_pack, hM, bitL_app _ _ _ hk]

end Go.Proofs.Ytkljidigmolmmaa

namespace Go.Proofs.Ytkljidigmolmmaa
open Go.RowKit Go.Shelf
set_option linter.unusedVariables false

/-- From the states own and other on the weights are told, by these bits. -/
def Lay (sy bi ba : Nat → Nat) (S : Nat) : List Nat → Nat → Nat → List (Fin 2) → Prop
  | [], _, _, _ => False
  | a :: M, own, other, L => own < S ∧ sy own = a ∧ ((∃ b, M = [b] ∧ other < S ∧ sy other = b ∧ 1 ≤ bi own ∧ L = []) ∨ (∃ nx L', Lay sy bi ba S M other nx L' ∧ Leads sy bi ba S a nx own ∧ L = L' ++ low (nx - ba own) (bi own)))
theorem Lay.len {sy bi ba : Nat → Nat} {S : Nat} : ∀ {M : List Nat} {own other : Nat} {L : List (Fin 2)}, Lay sy bi ba S M own other L → 2 ≤ M.length := by
  intro M
  induction M with
  | nil => intro own other L h; exact h.elim
  | cons a M ih =>
    intro own other L h
    obtain ⟨-, -, h⟩ := h
    rcases h with ⟨b, rfl, -⟩ | ⟨nx, L', h, -⟩
    · simp
    · have := ih h; simp; omega
theorem Lay.lt {sy bi ba : Nat → Nat} {S : Nat} {M : List Nat} {own other : Nat} {L : List (Fin 2)} (h : Lay sy bi ba S M own other L) : own < S ∧ other < S := by
  cases M with
  | nil => exact h.elim
  | cons a M =>
    obtain ⟨h1, -, h⟩ := h
    refine ⟨h1, ?_⟩
    rcases h with ⟨b, rfl, h, -⟩ | ⟨nx, L', h, -⟩
    · exact h
    · cases M with
      | nil => exact h.elim
      | cons b M => exact h.1
theorem Lay.read {sy bi ba : Nat → Nat} {S : Nat} : ∀ {M : List Nat} {own other : Nat} {L : List (Fin 2)}, Lay sy bi ba S M own other L → ∀ (B : List (Fin 2)) (f : Nat), M.length ≤ f + 1 → turnsF sy bi ba (pack (L ++ B ++ [1])) f own other B.length = some M := by
  intro M
  induction M with
  | nil => intro own other L h; exact h.elim
  | cons a M ih =>
    intro own other L h B f hf
    have h2 := h.len
    obtain ⟨h1, hs, h⟩ := h
    obtain ⟨f, rfl⟩ : ∃ f', f = f' + 1 := ⟨f - 1, by simp at h2 hf; omega⟩
    rw [turnsF_succ, Tl.tailLen_mark]
    rcases h with ⟨b, rfl, ho, hsb, hb, rfl⟩ | ⟨nx, L', h, hl, rfl⟩
    · rw [if_pos (by simp; omega), hs, hsb]
    · obtain ⟨-, -, l1, l2⟩ := hl
      rw [if_neg (by simp [low_length]; omega)]
      have hp := strm_put L' B (nx - ba own) (bi own) (by omega)
      rw [hp, show ba own + (nx - ba own) = nx from by omega]
      have := ih h (low (nx - ba own) (bi own) ++ B) f (by simp at hf; omega)
      rw [List.length_append, low_length, Nat.add_comm (bi own), ← List.append_assoc] at this
      rw [this, hs]
      rfl
theorem Lay.told {sy bi ba : Nat → Nat} {S l : Nat} {M : List Nat} {own other : Nat} {L : List (Fin 2)} (h : Lay sy bi ba S M own other L) (hS : S = 2 ^ l) (hM : M.length ≤ 255) :
    toldT sy bi ba (pack (L ++ low other l ++ low own l ++ [1])) l = some M := by
  obtain ⟨h1, h2⟩ := h.lt
  unfold toldT
  rw [Tl.tailLen_mark, if_neg (by rw [List.length_append, List.length_append, low_length, low_length]; omega)]
  have e1 := strm_put (L ++ low other l) [] own l (by rw [← hS]; exact h1)
  have e2 := strm_put L (low own l) other l (by rw [← hS]; exact h2)
  rw [List.append_nil] at e1
  rw [low_length] at e2
  rw [show strm (pack (L ++ low other l ++ low own l ++ [1])) 0 l = own from e1, e2]
  have := h.read (low other l ++ low own l) 254 (by omega)
  rw [List.length_append, low_length, low_length, ← List.append_assoc] at this
  exact this
/-- How many bits at most. -/
def costL (bd : Nat → Nat) : List Nat → Nat
  | [] => 0
  | a :: M => bd a + costL bd M
theorem Lay.bits {sy bi ba : Nat → Nat} {S : Nat} {bd : Nat → Nat} (hb : ∀ i, i < S → bi i ≤ bd (sy i)) : ∀ {M : List Nat} {own other : Nat} {L : List (Fin 2)}, Lay sy bi ba S M own other L → L.length ≤ costL bd M := by
  intro M
  induction M with
  | nil => intro own other L h; exact h.elim
  | cons a M ih =>
    intro own other L h
    obtain ⟨h1, hs, h⟩ := h
    simp only [costL]
    rcases h with ⟨b, rfl, -, -, -, rfl⟩ | ⟨nx, L', h, -, rfl⟩
    · simp
    · have e1 := ih h
      have e2 := hb own h1
      rw [hs] at e2
      rw [List.length_append, low_length]
      omega
theorem costL_le (bd : Nat → Nat) (B : Nat) (M : List Nat) (h : ∀ a ∈ M, bd a ≤ B) : costL bd M ≤ B * M.length := by
  induction M with
  | nil => simp [costL]
  | cons a M ih =>
    have e1 := h a (by simp)
    have e2 := ih (fun x hx => h x (by simp [hx]))
    simp only [costL, List.length_cons, Nat.mul_add]
    omega
theorem costL_sum (bd : Nat → Nat) (M : List Nat) (h : ∀ a ∈ M, 32 * bd a ≤ 96 + shN a) : 32 * costL bd M ≤ 96 * M.length + sumW M M.length := by
  have e : ∀ (M : List Nat), sumW M M.length = costL shN M := by
    intro M
    have key : ∀ (M : List Nat) (n : Nat), n ≤ M.length → sumW M n = costL shN (M.take n) := by
      intro M n
      induction n with
      | zero => intro _; rfl
      | succ n ih =>
        intro hn
        rw [sumW_succ, ih (by omega), List.take_succ_eq_append_getElem (by omega)]
        have ha : ∀ (A : List Nat) (x : Nat), costL shN (A ++ [x]) = costL shN A + shN x := by
          intro A x
          induction A with
          | nil => simp [costL]
          | cons b A ih => simp only [List.cons_append, costL, ih]; omega
        rw [ha]
        unfold wt
        rw [List.getElem?_eq_getElem (by omega)]
        rfl
    rw [key M M.length (Nat.le_refl _), List.take_length]
  rw [e M]
  clear e
  induction M with
  | nil => simp [costL]
  | cons a M ih =>
    have e1 := h a (by simp)
    have e2 := ih (fun x hx => h x (by simp [hx]))
    simp only [costL, List.length_cons]
    omega

end Go.Proofs.Ytkljidigmolmmaa

namespace Go.Proofs.Ytkljidigmolmmaa
open Go.RowKit Go.Shelf
set_option linter.unusedVariables false

theorem sumT_app (M : List Nat) (x : Nat) (i : Nat) (h : i ≤ M.length) : sumW (M ++ [x]) i = sumW M i := by
  induction i with
  | zero => rfl
  | succ i ih => rw [sumW_succ, sumW_succ, ih (by omega), wt_app M x i (by omega)]
theorem onesT_app (M : List Nat) (x : Nat) (i : Nat) (h : i ≤ M.length) : onesW (M ++ [x]) i = onesW M i := by
  induction i with
  | zero => rfl
  | succ i ih => rw [onesW_succ, onesW_succ, ih (by omega), wt_app M x i (by omega)]
theorem wt_last (M : List Nat) (x : Nat) : wt (M ++ [x]) M.length = x := by unfold wt; simp
/-- What is told of a code. -/
structure Told (M : List Nat) (x m : Nat) : Prop where
  len1 : 1 ≤ M.length
  len : M.length ≤ 255
  le : ∀ i, i < M.length → wt M i ≤ 11
  ones : 1 ≤ onesW M M.length
  sum : sumW M M.length + 2 ^ (x - 1) = 2 ^ m
  m11 : m ≤ 11
  x1 : 1 ≤ x
  xm : x ≤ m
  code : codeB (M ++ [x]) = true
  last : lastW M = x
theorem IsCode.told {ws : List Nat} {m : Nat} (h : IsCode ws m) : ∃ M x, ws = M ++ [x] ∧ Told M x m := by
  have h2 := h.len2
  have hne : ws ≠ [] := by rintro rfl; simp at h2
  obtain ⟨M, x, hM⟩ : ∃ M x, ws = M ++ [x] := ⟨ws.dropLast, ws.getLast hne, (List.dropLast_concat_getLast hne).symm⟩
  subst hM
  have hl : (M ++ [x]).length = M.length + 1 := by simp
  have h1 := h.last
  have h3 := h.le
  have h4 := h.sum
  have h5 := h.ones
  have h6 := h.len
  rw [hl] at h1 h2 h3 h4 h5 h6
  rw [Nat.add_sub_cancel, wt_last] at h1
  rw [sumW_succ, sumT_app M x _ (Nat.le_refl _), wt_last, shN_pos x h1] at h4
  rw [onesW_succ, onesT_app M x _ (Nat.le_refl _)] at h5
  have h7 : 1 ≤ onesW M M.length := by split at h5 <;> omega
  have h8 := ones_le_sum M M.length
  have h9 : x - 1 < m := by
    rcases Nat.lt_or_ge (x - 1) m with h | h
    · exact h
    · have : 2 ^ m ≤ 2 ^ (x - 1) := Nat.pow_le_pow_right (by omega) h
      omega
  have h10 : 2 ^ (x - 1) ≤ 2 ^ (m - 1) := Nat.pow_le_pow_right (by omega) (by omega)
  have h11 : 2 ^ m = 2 * 2 ^ (m - 1) := by rw [Nat.mul_comm, ← Nat.pow_succ, show (m - 1).succ = m from by omega]
  have h12 : 0 < 2 ^ (x - 1) := Nat.two_pow_pos _
  have hlen : lenN (sumW M M.length) = m := by
    obtain ⟨k, rfl⟩ : ∃ k, m = k + 1 := ⟨m - 1, by omega⟩
    rw [Nat.add_sub_cancel] at h10 h11
    exact lenN_eq _ _ (by omega) (by omega)
  refine ⟨M, x, rfl, by omega, by omega, fun i hi => ?_, h7, h4, h.m11, by omega, by omega, h.codeB.1, ?_⟩
  · have := h3 i (by omega)
    rwa [wt_app M x i hi] at this
  · unfold lastW
    rw [hlen, show 2 ^ m - sumW M M.length = 2 ^ (x - 1) from by omega, lenN_pow]
    omega
theorem Told.read {M : List Nat} {x m : Nat} (h : Told M x m) : readOf (some M) = some (M ++ [x]) := by
  rw [← h.last]
  exact readOf_yes (by rw [h.last]; exact h.code)
theorem Told.lt {M : List Nat} {x m : Nat} (h : Told M x m) (j : Nat) : M[j]?.getD 0 < 256 := by
  by_cases hj : j < M.length
  · have := h.le j hj; unfold wt at this; omega
  · rw [List.getElem?_eq_none (by omega)]; simp
theorem Told.one {M : List Nat} {x m : Nat} (h : Told M x m) : ∃ i, i < M.length ∧ wt M i = 1 := by
  obtain ⟨i, h1, h2⟩ := sumN_pos (fun j => if wt M j = 1 then 1 else 0) _ h.ones
  refine ⟨i, h1, ?_⟩
  split at h2
  · assumption
  · omega
theorem Told.sum11 {M : List Nat} {x m : Nat} (h : Told M x m) : sumW M M.length < 2048 := by
  have h1 := h.sum
  have h2 : 0 < 2 ^ (x - 1) := Nat.two_pow_pos _
  have h3 : 2 ^ m ≤ 2 ^ 11 := Nat.pow_le_pow_right (by omega) h.m11
  omega

end Go.Proofs.Ytkljidigmolmmaa

namespace Go.Proofs.Ytkljidigmolmmaa
open Go.RowKit Go.Shelf
set_option linter.unusedVariables false

/-- A description of weights, whatever stands behind. -/
structure Desc (V ws : List Nat) : Prop where
  ne : V ≠ []
  len : V.length ≤ 129
  lt : ∀ j : Nat, V[j]?.getD 0 < 256
  read : ∀ (B : List Nat) (a : Option Addr) (cap gb off : Nat) (w : World), Bytes w a cap gb off (V ++ B) → Calls Try.prog 7 #[.slice a (V ++ B).length cap] w fun e w' => RAns 0 V.length ws w e w'
theorem take_front (V B : List Nat) : (V ++ B).take V.length = V := by simp
theorem first_front (V B : List Nat) (h : V ≠ []) : (V ++ B)[0]?.getD 0 = V[0]?.getD 0 := by
  rw [List.getElem?_append_left (List.length_pos_iff.2 h)]

/-- Weights of four bits. -/
theorem desc_fours {M : List Nat} {x m : Nat} (hT : Told M x m) (V : List Nat) (hl : M.length ≤ 128) (hV : V.length = 1 + (M.length + 1) / 2) (h0 : V[0]?.getD 0 = M.length + 127) (hlt : ∀ j : Nat, V[j]?.getD 0 < 256)
    (hm : (List.range M.length).map (fourW (V.drop 1)) = M) : Desc V (M ++ [x]) := by
  have h1 := hT.len1
  have hne : V ≠ [] := by rintro rfl; simp at hV; omega
  refine ⟨hne, by omega, hlt, fun B a cap gb off w hB => ?_⟩
  have hu : V.length = usedN ((V ++ B)[0]?.getD 0) := by rw [first_front V B hne, h0]; unfold usedN; rw [if_neg (by omega)]; omega
  have hs : V.length ≤ (V ++ B).length := by simp
  have hBt := (hB.take V.length hs).2
  have htf := take_front V B
  have hTl : Calls Try.prog 17 #[.slice a ((V ++ B).take V.length).length cap] w fun e w' => TellPost (some M) w e w' := by
    rw [htf] at hBt ⊢
    have := tell_fours a cap gb off V M.length w hBt hne h0 h1 (by omega)
    rw [hm] at this
    exact this
  have := read_told a cap gb off (V ++ B) V.length (some M) w hB (by simp [hne]) hu hs hTl (fun M' hM' => by cases hM'; exact ⟨hT.len, hT.lt⟩)
  rw [hT.read] at this
  exact this.mono fun e w' h => rans_of h

/-- Counts by whose states weights can be told. -/
structure Fit (M : List Nat) (xs : List Int) (l : Nat) : Prop where
  ok : okT xs (l : Int) = true
  i16 : I16 xs
  len : xs.length ≤ 12
  l6 : l ≤ 6
  has : ∀ i, i < M.length → wt M i < xs.length ∧ xs[wt M i]?.getD 0 ≠ 0
  two : ∀ s, s < xs.length → ∃ t, t ≠ s ∧ t < xs.length ∧ xs[t]?.getD 0 ≠ 0

/-- Weights by two states. -/
theorem desc_states {M : List Nat} {x m : Nat} (hT : Told M x m) {xs : List Int} {l : Nat} (hF : Fit M xs l) {own other : Nat} {L : List (Fin 2)}
    (hL : Lay (symF xs (2 ^ l)) (fun i => bitF l (xF xs (2 ^ l) i)) (fun i => baseF l (xF xs (2 ^ l) i)) (2 ^ l) M own other L) (V : List Nat) (h : Nat)
    (hV : V = [h] ++ pack (alignL (dscAll xs l)) ++ pack (L ++ low other l ++ low own l ++ [1])) (hh : V.length = 1 + h) (h127 : h ≤ 127) (hlt : ∀ j : Nat, V[j]?.getD 0 < 256) : Desc V (M ++ [x]) := by
  have hne : V ≠ [] := by rintro rfl; simp at hh; omega
  have h0 : V[0]?.getD 0 = h := by rw [hV]; simp
  refine ⟨hne, by omega, hlt, fun B a cap gb off w hB => ?_⟩
  have hu : V.length = usedN ((V ++ B)[0]?.getD 0) := by rw [first_front V B hne, h0]; unfold usedN; rw [if_pos h127]; exact hh
  have hs : V.length ≤ (V ++ B).length := by simp
  have hBt := (hB.take V.length hs).2
  have htf := take_front V B
  have hd1 : V.drop 1 = pack (alignL (dscAll xs l)) ++ pack (L ++ low other l ++ low own l ++ [1]) := by rw [hV]; simp
  have hR := rdRel_laid hF.ok hF.l6 hF.len (laid_pack (dscAll xs l) (alignL (dscAll xs l)) _ (pack (L ++ low other l ++ low own l ++ [1])) rfl)
  have hTl : Calls Try.prog 17 #[.slice a ((V ++ B).take V.length).length cap] w fun e w' => TellPost (some M) w e w' := by
    rw [htf] at hBt ⊢
    refine (tell_states a cap gb off V w hBt hne (by omega) (by omega)).mono fun e w' hq => ?_
    obtain ⟨R, hR2, hq⟩ := hq
    rw [hd1] at hR2 hq
    rw [hR2.det hR] at hq
    have hdr : (pack (alignL (dscAll xs l)) ++ pack (L ++ low other l ++ low own l ++ [1])).drop (((dscAll xs l).length + 7) / 8) = pack (L ++ low other l ++ low own l ++ [1]) := by
      have e1 : (pack (alignL (dscAll xs l))).length = ((dscAll xs l).length + 7) / 8 := by
        rw [pack_length]
        unfold alignL
        rw [List.length_append, low_length]
        omega
      rw [← e1]
      simp
    have : tellT (pack (alignL (dscAll xs l)) ++ pack (L ++ low other l ++ low own l ++ [1])) (some (xs, l, ((dscAll xs l).length + 7) / 8)) = some M := by
      unfold tellT
      simp only []
      rw [hdr, if_neg (Tl.mark_ne _)]
      exact hL.told rfl hT.len
    rw [this] at hq
    exact hq
  have := read_told a cap gb off (V ++ B) V.length (some M) w hB (by simp [hne]) hu hs hTl (fun M' hM' => by cases hM'; exact ⟨hT.len, hT.lt⟩)
  rw [hT.read] at this
  exact this.mono fun e w' h => rans_of h

/-- Counts that tell every code's weights in few bytes. -/
def sureL : List Int := [14, 8, 8, 8, 8, 8, 4, 2, 1, 1, 1, 1]
theorem sure_ok : okT sureL ((6 : Nat) : Int) = true := by decide +kernel
theorem sure_dsc : (pack (alignL (dscAll sureL 6))).length ≤ 8 := by decide +kernel
theorem sure_fit {M : List Nat} {x m : Nat} (hT : Told M x m) : Fit M sureL 6 := by
  have hall : ∀ s, s < 12 → sureL[s]?.getD 0 ≠ 0 := by decide
  refine ⟨sure_ok, ?_, by decide, by omega, fun i hi => ?_, fun s hs => ?_⟩
  · intro i
    by_cases hi : i < 12
    · revert i; decide
    · rw [List.getElem?_eq_none (by simp [sureL]; omega)]; simp
  · have := hT.le i hi
    exact ⟨by simp [sureL]; omega, hall _ (by omega)⟩
  · by_cases h0 : s = 0
    · exact ⟨1, by omega, by decide, by decide⟩
    · exact ⟨0, by omega, by decide, by decide⟩
def bdW (a : Nat) : Nat := if a ≤ 5 then 3 else if a = 6 then 4 else if a = 7 then 5 else 6
theorem bdW_sh (a : Nat) (h : a ≤ 11) : 32 * bdW a ≤ 96 + shN a := by
  revert a; decide
theorem lenN_mono {a b : Nat} (h : a ≤ b) (h0 : a ≠ 0) : lenN a ≤ lenN b := by
  have h1 := lenN_pos a h0
  have h2 := lenN_pos b (by omega)
  rcases Nat.lt_or_ge (lenN b) (lenN a) with h3 | h3
  · have : 2 ^ lenN b ≤ 2 ^ (lenN a - 1) := Nat.pow_le_pow_right (by omega) (by omega)
    omega
  · exact h3
theorem sure_bits (i : Nat) (hi : i < 2 ^ 6) : bitF 6 (xF sureL (2 ^ 6) i) ≤ bdW (symF sureL (2 ^ 6) i) := by
  have hTab := okT_tab sure_ok
  obtain ⟨c, h1, h2, h3, h4, h5⟩ := hTab.x i hi
  have h6 := (hTab.symF i hi).2.1
  have h7 : ∀ s, s < 12 → bitF 6 (shareN (sureL[s]?.getD 0)).toNat ≤ bdW s := by decide +kernel
  have h8 := h7 _ (show symF sureL (2 ^ 6) i < 12 from h6)
  rw [h1, Int.toNat_natCast] at h8
  have h9 := lenN_mono (a := c) (b := xF sureL (2 ^ 6) i) (by omega) (by omega)
  unfold bitF at h8 ⊢
  omega
theorem sure_short {M : List Nat} {x m : Nat} (hT : Told M x m) {own other : Nat} {L : List (Fin 2)}
    (hL : Lay (symF sureL (2 ^ 6)) (fun i => bitF 6 (xF sureL (2 ^ 6) i)) (fun i => baseF 6 (xF sureL (2 ^ 6) i)) (2 ^ 6) M own other L) :
    (pack (alignL (dscAll sureL 6))).length + (pack (L ++ low other 6 ++ low own 6 ++ [1])).length ≤ 127 := by
  have h1 := hL.bits (bd := bdW) sure_bits
  have h2 := costL_sum bdW M (fun a ha => by
    obtain ⟨j, hj, rfl⟩ := List.mem_iff_getElem.1 ha
    have := hT.le j hj
    unfold wt at this
    rw [List.getElem?_eq_getElem hj] at this
    exact bdW_sh _ this)
  have h3 := hT.sum11
  have h4 := hT.len
  have h5 := sure_dsc
  rw [pack_length (L ++ low other 6 ++ low own 6 ++ [1]), List.length_append, List.length_append, List.length_append, low_length, low_length]
  simp only [List.length_cons, List.length_nil]
  omega

end Go.Proofs.Ytkljidigmolmmaa
