/-
  The document's Read of weights of four bits.
  Read, the program's and the document's, as one contract.
  WeightsRead answers true: a description is read as the document says.
-/
import Derived.Test.YtkljidigmolmmaaReadP17
namespace Go.Proofs.Ytkljidigmolmmaa
open Go.RowKit Go.Shelf
set_option linter.unusedVariables false

theorem fours_and (y i : Nat) (hy : y < 256) : bits .and .u8 (IntKind.u8.wrap ((y : Int) / 2 ^ (4 * (1 - i % 2)))) 15 = ((if i % 2 = 1 then y % 16 else y / 16 : Nat) : Int) := by
  rcases (show i % 2 = 0 ∨ i % 2 = 1 by omega) with e | e
  · rw [e, if_neg (by omega)]
    revert y
    decide +kernel
  · rw [e, if_pos rfl]
    revert y
    decide +kernel

set_option maxRecDepth 100000 in
set_option maxHeartbeats 1000000 in
theorem readD_fours (a : Option Addr) (cap gb off : Nat) (bs : List Nat) (n : Nat) (w : World) (hB : Bytes w a cap gb off bs) (hne : bs ≠ []) (h1 : bs[0]?.getD 0 = n + 127) (h2 : 1 ≤ n) (h3 : (n + 1) / 2 + 1 ≤ bs.length) :
    Calls Try.prog 8 #[.slice a bs.length cap] w fun e w' => ReadPost (readOf (some ((List.range n).map (fourW (bs.drop 1))))) (1 + (n + 1) / 2) w e w' := by
  have hpos : 0 < bs.length := List.length_pos_iff.2 hne
  obtain rfl := hB.here (i := 0) hpos
  have c0 := hB.cells 0 hpos
  have hx := hB.lt 0
  rw [Nat.add_zero] at c0
  have h48 := hB.len
  have hgbw := hB.block hne
  obtain ⟨N, hN⟩ : ∃ N, N = bs.length := ⟨_, rfl⟩
  rw [← hN] at hpos h48 h3 ⊢
  obtain ⟨h, hh⟩ : ∃ h, h = bs[0]?.getD 0 := ⟨_, rfl⟩
  rw [← hh] at h1 hx c0
  obtain ⟨d, hd⟩ : ∃ d, d = (n + 1) / 2 := ⟨_, rfl⟩
  rw [← hd] at h3 ⊢
  have hdI : ((n : Int) + 1) / 2 = (d : Int) := by omega
  have hdT : ((n : Int) + 1).tdiv 2 = (d : Int) := by rw [Int.tdiv_eq_ediv_of_nonneg (by omega)]; exact hdI
  have hgt : (128 : Int) ≤ (h : Int) := by omega
  have hnI : (h : Int) - 127 = (n : Int) := by omega
  have hhI : (h : Int) < 256 := by omega
  have hsI : ¬ (N : Int) < 1 + (d : Int) := by omega
  have hn0 : ((N : Int) == 0) = false := by rw [beq_eq_false_iff_ne]; omega
  have hn1 : (0 : Int) < (N : Int) := by omega
  have hd2 : (d : Int) < 100 := by omega
  have hn128 : (n : Int) ≤ 128 := by omega
  have HB := (show Hid (Bytes w (some ⟨gb, off, none⟩) cap gb off bs ∧ N = bs.length ∧ d = (n + 1) / 2 ∧ d + 1 ≤ N ∧ gb < w.heap.size ∧ n ≤ 128) from ⟨hB, hN, hd, h3, hgbw, by omega⟩)
  clear hB hN hh h1 hd h3 h48 hne hgbw hx
  go_enter Try.func8, Try.ntmps8
  go_wp2
  go_loopw [6, 8] (fun v6 v8 wr => ∃ (i : Nat) (sa : Option Addr) (sn sc : Nat), v6 = .slice sa sn sc ∧ v8 = .int .i64 (i : Int) ∧ i ≤ n ∧ sn = i ∧ Hid (wr.ownsRow 0 5 1 (.slice sa sn sc) ((List.range i).map (fourW (bs.drop 1))).length (u8s ((List.range i).map (fourW (bs.drop 1)))) ∧ (∀ k, (Value.slice sa sn sc).ownBlock = some k → w.heap.size ≤ k) ∧ Keep noBlock w wr)) (fun _ v8 _ => n - (intOf v8).toNat)
  case atStart => exact ⟨0, none, 0, 0, rfl, rfl, Nat.zero_le _, rfl, World.ownsRow_nil _ _ _ _, (fun k e => by cases e), Keep.refl _ _⟩
  case round =>
    obtain ⟨i, sa, sn, sc, rfl, rfl, hi, rfl, HC⟩ := hrel
    by_cases hlt : sn < n
    · have hltI : (sn : Int) < (n : Int) := by omega
      obtain ⟨hown, hnew, hK⟩ := HC.out
      obtain ⟨e, he⟩ : ∃ e, e = sn / 2 := ⟨_, rfl⟩
      have heI : (sn : Int) / 2 = (e : Int) := by omega
      have heT : (sn : Int).tdiv 2 = (e : Int) := by rw [Int.tdiv_eq_ediv_of_nonneg (by omega)]; exact heI
      have hb := HB.out
      have h1e : 1 + e < bs.length := by omega
      have hBr := hb.1.keep hK (fun _ h => h)
      have c1 := hBr.cells (1 + e) h1e
      have hy256 := hb.1.lt (1 + e)
      have heN : 1 + (e : Int) < (N : Int) := by omega
      obtain ⟨r, hr⟩ : ∃ r, r = sn % 2 := ⟨_, rfl⟩
      have hrI : (sn : Int) % 2 = (r : Int) := by omega
      have hrT : (sn : Int).tmod 2 = (r : Int) := by rw [Int.tmod_eq_emod_of_nonneg (by omega)]; exact hrI
      have hfw : fourW (bs.drop 1) sn = if sn % 2 = 1 then bs[1 + e]?.getD 0 % 16 else bs[1 + e]?.getD 0 / 16 := by
        unfold fourW
        rw [List.getElem?_drop, he]
      obtain ⟨y, hy⟩ : ∃ y, y = bs[1 + e]?.getD 0 := ⟨_, rfl⟩
      rw [← hy] at c1 hy256 hfw
      have hand := fours_and y sn hy256
      rw [← hfw] at hand
      have hmap : (List.range (sn + 1)).map (fourW (bs.drop 1)) = (List.range sn).map (fourW (bs.drop 1)) ++ [fourW (bs.drop 1) sn] := by rw [List.range_succ, List.map_append]; rfl
      have hml : ((List.range sn).map (fourW (bs.drop 1))).length = sn := by simp
      obtain ⟨z, hz⟩ : ∃ z, z = fourW (bs.drop 1) sn := ⟨_, rfl⟩
      rw [← hz] at hand hmap
      have hz16 : z < 256 := by rw [hz, hfw]; split <;> omega
      obtain ⟨v', W', hrun, hown5, hk5, hm5⟩ := own_push hown z (by omega)
      rw [← hmap] at hown5
      obtain ⟨oa', oc', hv'⟩ := owns_form hown5
      have hml2 : ((List.range (sn + 1)).map (fourW (bs.drop 1))).length = sn + 1 := by simp
      rw [hml2] at hv'
      subst hv'
      have HE := (show Hid (W'.ownsRow 0 5 1 (.slice oa' (sn + 1) oc') ((List.range (sn + 1)).map (fourW (bs.drop 1))).length (u8s ((List.range (sn + 1)).map (fourW (bs.drop 1)))) ∧ (∀ k, (Value.slice oa' (sn + 1) oc').ownBlock = some k → w.heap.size ≤ k) ∧ Keep noBlock w W') from ⟨hown5, fun k e => by
        rcases hm5 with e2 | ⟨j, e2, hj⟩
        · rw [e2] at e; exact hnew k e
        · rw [e2] at e; cases e; have := hK.size; omega, hK.trans hk5 (fun j hj e => by have := hnew j e; omega)⟩)
      have hzI : (z : Int) < 256 := by omega
      have hyI : (y : Int) < 256 := by omega
      have hsn : (sn : Int) ≤ 128 := by omega
      have heb : (e : Int) ≤ 64 := by omega
      rcases (show sn % 2 = 0 ∨ sn % 2 = 1 by omega) with h0 | h0
      · have hmI : (sn : Int) % 2 = 0 := by omega
        have hmT : (sn : Int).tmod 2 = 0 := by rw [Int.tmod_eq_emod_of_nonneg (by omega)]; exact hmI
        rw [h0] at hand
        have hq : (y : Int) / 2 ^ (4 * (1 - 0)) = (y : Int) / 16 := rfl
        have hw16 : IntKind.u8.wrap ((y : Int) / 16) = (y : Int) / 16 := by rw [IntKind.wrap_u8]; omega
        rw [hq, hw16] at hand
        obtain ⟨y16, hy16⟩ : ∃ y16 : Nat, (y : Int) / 16 = (y16 : Int) := ⟨y / 16, by omega⟩
        rw [hy16] at hand
        have hy16b : (y16 : Int) < 16 := by omega
        clear hq hw16
        clear hown hnew hK he hb hBr hr hrI hrT hfw hy hz hmap hml hown5 hk5 hm5 hml2 HC h0 hz16 h1e hy256 hdI hdT hsI hd2 hgt
        go_wp2_with (at_builtin; refine wpList_append_run _ rfl _ _ 22 rfl _ _ _ _ rfl rfl hrun ?_)
        go_roundw
        case rel => exact ⟨sn + 1, oa', sn + 1, oc', rfl, by go_num, by omega, rfl, HE.out⟩
        case measure => simp [intOf]; omega
      · have hmI : (sn : Int) % 2 = 1 := by omega
        have hmT : (sn : Int).tmod 2 = 1 := by rw [Int.tmod_eq_emod_of_nonneg (by omega)]; exact hmI
        rw [h0] at hand
        have hq : (y : Int) / 2 ^ (4 * (1 - 1)) = (y : Int) := by simp
        have hw16 : IntKind.u8.wrap (y : Int) = (y : Int) := by rw [IntKind.wrap_u8]; omega
        rw [hq, hw16] at hand
        clear hq hw16
        clear hown hnew hK he hb hBr hr hrI hrT hfw hy hz hmap hml hown5 hk5 hm5 hml2 HC h0 hz16 h1e hy256 hdI hdT hsI hd2 hgt
        go_wp2_with (at_builtin; refine wpList_append_run _ rfl _ _ 22 rfl _ _ _ _ rfl rfl hrun ?_)
        go_roundw
        case rel => exact ⟨sn + 1, oa', sn + 1, oc', rfl, by go_num, by omega, rfl, HE.out⟩
        case measure => simp [intOf]; omega
    · obtain rfl : sn = n := by omega
      have hltI : ¬ (sn : Int) < (sn : Int) := by omega
      obtain ⟨hown, hnew, hK⟩ := HC.out
      obtain ⟨M, hM⟩ : ∃ M, M = (List.range sn).map (fourW (bs.drop 1)) := ⟨_, rfl⟩
      have hML : M.length = sn := by rw [hM]; simp
      rw [← hM] at hown
      have HMe := (show Hid (M = (List.range sn).map (fourW (bs.drop 1))) from hM)
      have hlt : ∀ j : Nat, M[j]?.getD 0 < 256 := by
        refine lt256 (fun b hb => ?_)
        rw [hM] at hb
        obtain ⟨j, -, rfl⟩ := List.mem_map.1 hb
        have := fourW_lt (bs.drop 1) j (lt_drop HB.out.1.lt 1)
        omega
      obtain ⟨a2, cap2, g2, hv2, hB2, hg2⟩ := owns_bytes hown hlt (by omega)
      have HL := (show Hid (Calls Try.prog 20 #[.slice sa sn sc] wr _) from by
        have := whole_any a2 cap2 g2 0 M wr hB2
        rw [← hv2] at this
        exact this)
      have HK := (show Hid (Keep noBlock w wr) from hK)
      clear hown hnew hK hlt hv2 hB2 hg2 HC hM hML
      go_wp2_with fail
      refine HL.out.mono ?_
      rintro e w2 ⟨hK2, hP⟩
      have HK2 := (show Hid (Keep noBlock w w2) from HK.out.trans' hK2)
      rcases hP with ⟨hc, v2, rfl, hown2, hnew2⟩ | ⟨hc, v2, rfl⟩
      · obtain ⟨sb, bcap, rfl⟩ := owns_form hown2
        have HO := (show Hid (w2.ownsRow 0 5 1 (.slice sb (M ++ [lastW M]).length bcap) (M ++ [lastW M]).length (u8s (M ++ [lastW M])) ∧ readOf (some M) = some (M ++ [lastW M])) from ⟨hown2, readOf_yes hc⟩)
        obtain ⟨L, hL⟩ : ∃ L, L = (M ++ [lastW M]).length := ⟨_, rfl⟩
        rw [← hL] at HO ⊢
        have HLL := (show Hid (L = (M ++ [lastW M]).length) from hL)
        clear hL
        clear hown2 hnew2 hK2
        go_wp2_with fail
        refine bodyPost_ret (v := .tuple #[.slice sb L bcap, .int .i64 ((1 + d : Nat) : Int), .int .i64 0]) (by simp [results, Try.results8]) rfl ?_
        rw [← HMe.out, HO.out.2]
        exact ⟨HK2.out, _, rfl, by rw [← HLL.out]; exact HO.out.1⟩
      · have HO := (show Hid (readOf (some M) = none) from readOf_no hc)
        clear hK2
        go_wp2_with fail
        refine bodyPost_ret (v := .tuple #[.slice none 0 0, .int .i64 0, .int .i64 11]) (by simp [results, Try.results8]) rfl ?_
        rw [← HMe.out, HO.out]
        exact ⟨HK2.out, rfl⟩

end Go.Proofs.Ytkljidigmolmmaa

namespace Go.Proofs.Ytkljidigmolmmaa
open Go.RowKit Go.Shelf
set_option linter.unusedVariables false

/-- What Read answers: an error, weights, how many bytes were used. -/
def RAns (c u : Nat) (V : List Nat) (w : World) (e : Ending) (w' : World) : Prop :=
  Keep noBlock w w' ∧ ∃ a n cap, e = .returned (.tuple #[.slice a n cap, .int .i64 (u : Int), .int .i64 (c : Int)]) ∧ n = V.length ∧ w'.ownsRow 0 5 1 (.slice a n cap) n (u8s V)
theorem rans_of {R : Option (List Nat)} {u : Nat} {w w' : World} {e : Ending} (h : ReadPost R u w e w') : RAns (if R = none then 11 else 0) (if R = none then 0 else u) (R.getD []) w e w' := by
  obtain ⟨hk, hm⟩ := h
  cases R with
  | none => exact ⟨hk, none, 0, 0, hm, rfl, World.ownsRow_nil _ _ _ _⟩
  | some ws =>
    obtain ⟨v, rfl, ho⟩ := hm
    obtain ⟨a, cap, rfl⟩ := owns_form ho
    exact ⟨hk, a, _, cap, rfl, rfl, ho⟩
theorem rans_short {w w' : World} {e : Ending} (h : e = .returned (.tuple #[.slice none 0 0, .int .i64 0, .int .i64 10]) ∧ w' = w) : RAns 10 0 [] w e w' := by
  obtain ⟨rfl, rfl⟩ := h
  exact ⟨Keep.refl _ _, none, 0, 0, rfl, rfl, World.ownsRow_nil _ _ _ _⟩

/-- Both Reads answer the same. -/
theorem read_both (bs : List Nat) : ∃ (c u : Nat) (V : List Nat),
    (∀ (a : Option Addr) (cap gb off : Nat) (w : World), Bytes w a cap gb off bs → Calls Try.prog 7 #[.slice a bs.length cap] w fun e w' => RAns c u V w e w') ∧
    (∀ (a : Option Addr) (cap gb off : Nat) (w : World), Bytes w a cap gb off bs → Calls Try.prog 8 #[.slice a bs.length cap] w fun e w' => RAns c u V w e w') := by
  by_cases hs : bs.length < usedN (bs[0]?.getD 0)
  · exact ⟨10, 0, [], fun a cap gb off w hB => (read_short a cap gb off bs w hB hs).mono fun e w' h => rans_short h, fun a cap gb off w hB => (readD_short a cap gb off bs w hB hs).mono fun e w' h => rans_short h⟩
  · have hu : 1 ≤ usedN (bs[0]?.getD 0) := by unfold usedN; split <;> omega
    have hne : bs ≠ [] := by intro e; rw [e] at hs hu; exact hs hu
    have htl : (bs.take (usedN (bs[0]?.getD 0))).length = usedN (bs[0]?.getD 0) := by rw [List.length_take]; omega
    have ht0 : (bs.take (usedN (bs[0]?.getD 0)))[0]?.getD 0 = bs[0]?.getD 0 := by rw [List.getElem?_take, if_pos (by omega)]
    have htne : bs.take (usedN (bs[0]?.getD 0)) ≠ [] := by intro h; rw [h] at htl; simp at htl; omega
    by_cases h1 : bs[0]?.getD 0 ≤ 127
    · have hue : usedN (bs[0]?.getD 0) = 1 + bs[0]?.getD 0 := if_pos h1
      obtain ⟨u, hu2⟩ : ∃ u, u = usedN (bs[0]?.getD 0) := ⟨_, rfl⟩
      rw [← hu2] at hs htl ht0 htne hue hu
      obtain ⟨R0, hR0⟩ : ∃ R0, ∀ R, RdRel ((bs.take u).drop 1) 6 11 R → R = R0 := by
        by_cases h : ∃ R, RdRel ((bs.take u).drop 1) 6 11 R
        · obtain ⟨R, hR⟩ := h
          exact ⟨R, fun R' h' => h'.det hR⟩
        · exact ⟨none, fun R' h' => absurd ⟨R', h'⟩ h⟩
      refine ⟨if readOf (tellD ((bs.take u).drop 1) R0) = none then 11 else 0, if readOf (tellD ((bs.take u).drop 1) R0) = none then 0 else u, (readOf (tellD ((bs.take u).drop 1) R0)).getD [], fun a cap gb off w hB => ?_, fun a cap gb off w hB => ((readD_states a cap gb off bs u w hB hne h1 hue (by omega)).mono fun e w' h => ?_)⟩
      · by_cases hex : RdRel ((bs.take u).drop 1) 6 11 R0
        · have hT := (tell_states a cap gb off (bs.take u) w (hB.take u (by omega)).2 htne (by rw [ht0]; exact h1) (by omega)).mono (fun e w' h => show TellPost (tellT ((bs.take u).drop 1) R0) w e w' from by
            obtain ⟨R, hR, h⟩ := h
            rw [hR0 R hR] at h
            exact h)
          have := read_told a cap gb off bs u _ w hB hne hu2 (by omega) hT (fun M hM => by
            have h := (tellT_iff _ _ _).1 hM
            exact ⟨h.2, tellD_lt hex h.1⟩)
          rw [readOf_tell] at this
          exact this.mono fun e w' h => rans_of h
        · obtain ⟨e, w', fr, ⟨R, hR, -⟩, -⟩ := (tell_states a cap gb off (bs.take u) w (hB.take u (by omega)).2 htne (by rw [ht0]; exact h1) (by omega)) []
          rw [hR0 R hR] at hR
          exact absurd hR hex
      · obtain ⟨R, hR, h⟩ := h
        rw [hR0 R hR] at h
        exact rans_of h
    · have hue : usedN (bs[0]?.getD 0) = 1 + (bs[0]?.getD 0 - 127 + 1) / 2 := if_neg h1
      obtain ⟨u, hu2⟩ : ∃ u, u = usedN (bs[0]?.getD 0) := ⟨_, rfl⟩
      rw [← hu2] at hs htl ht0 htne hue hu
      obtain ⟨n, hn⟩ : ∃ n, n = bs[0]?.getD 0 - 127 := ⟨_, rfl⟩
      rw [← hn] at hue
      have hfe : (List.range n).map (fourW ((bs.take u).drop 1)) = (List.range n).map (fourW (bs.drop 1)) := by
        refine List.map_congr_left fun k hk => ?_
        have hk' := List.mem_range.1 hk
        have : ((bs.take u).drop 1)[k / 2]? = (bs.drop 1)[k / 2]? := by rw [List.getElem?_drop, List.getElem?_drop, List.getElem?_take, if_pos (by omega)]
        unfold fourW
        rw [this]
      refine ⟨_, _, _, fun a cap gb off w hB => ?_, fun a cap gb off w hB => ((readD_fours a cap gb off bs n w hB hne (by omega) (by omega) (by omega)).mono fun e w' h => by rw [← hue] at h; exact rans_of h)⟩
      have hx := hB.lt 0
      have hT := tell_fours a cap gb off (bs.take u) n w (hB.take u (by omega)).2 htne (by rw [ht0]; omega) (by omega) (by omega)
      rw [hfe] at hT
      exact (read_told a cap gb off bs u _ w hB hne hu2 (by omega) hT (fun M hM => by
        cases hM
        refine ⟨by simp; omega, lt256 (fun b hb => ?_)⟩
        obtain ⟨j, -, rfl⟩ := List.mem_map.1 hb
        have := fourW_lt (bs.drop 1) j (lt_drop hB.lt 1)
        omega)).mono fun e w' h => rans_of h

end Go.Proofs.Ytkljidigmolmmaa

namespace Go.Proofs.Ytkljidigmolmmaa
open Go.RowKit Go.Shelf
set_option linter.unusedVariables false

set_option maxRecDepth 100000 in
set_option maxHeartbeats 2000000 in
theorem reads_any (a : Option Addr) (cap gb off : Nat) (bs : List Nat) (w : World) (hB : Bytes w a cap gb off bs) :
    Calls Try.prog 3 #[.slice a bs.length cap] w fun e w' => e = .returned (.bool true) ∧ Keep noBlock w w' := by
  obtain ⟨c, u, V, h1, h2⟩ := read_both bs
  have HP := (show Hid (Calls Try.prog 7 #[.slice a bs.length cap] w fun e w' => RAns c u V w e w') from h1 a cap gb off w hB)
  have HD := (show Hid (∀ W, Keep noBlock w W → Calls Try.prog 8 #[.slice a bs.length cap] W fun e w' => RAns c u V W e w') from fun W hk => h2 a cap gb off W (hB.keep hk (fun _ h => h)))
  have h48 := hB.len
  generalize bs.length = n at *
  clear hB h1 h2 h48
  go_enter Try.func3, Try.ntmps3
  go_wp2_with fail
  refine HP.out.mono ?_
  rintro e w1 ⟨hK1, xa, xn, xc, rfl, hxn, hown1⟩
  have HK1 := (show Hid (Keep noBlock w w1 ∧ w1.ownsRow 0 5 1 (.slice xa xn xc) V.length (u8s V)) from ⟨hK1, by rw [← hxn]; exact hown1⟩)
  clear hK1 hown1 hxn HP
  go_wp2_with fail
  refine (HD.out _ HK1.out.1).mono ?_
  rintro e w2 ⟨hK2, ya, yn, yc, rfl, hyn, hown2⟩
  have hc1 := run_conv (Src.of_owns (bs := V) (owns_kept HK1.out.2 hK2 (fun _ _ h => h)))
  have hc2 := run_conv (Src.of_owns (bs := V) (by rw [← hyn]; exact hown2 : w2.ownsRow 0 5 1 (.slice ya yn yc) V.length (u8s V)))
  have HK2 := (show Hid (Keep noBlock w w2) from HK1.out.1.trans' hK2)
  generalize strOf V = S1 at hc1 hc2
  clear hK2 hown2 hyn HK1 HD
  go_wp2_with (go_at_call 9; refine (wakes_any _).mono ?_; rintro e w7 ⟨rfl, hK7⟩)
  go_ret
  exact ⟨rfl, HK2.out.trans' hK7⟩

end Go.Proofs.Ytkljidigmolmmaa
