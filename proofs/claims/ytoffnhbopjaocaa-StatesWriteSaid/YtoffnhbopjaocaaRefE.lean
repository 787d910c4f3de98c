/-
  The document's Write: all of it.
-/
import Derived.Test.YtoffnhbopjaocaaRefD
namespace Go.Proofs.Ytoffnhbopjaocaa
open Go.RowKit Go.Shelf

set_option maxHeartbeats 400000 in
theorem writeQ_bad (a : Option Addr) (cap gb off : Nat) (xs : List Int) (log : Int) (w : World) (h : RowI w .i16 a cap gb off xs) (hx : I16 xs) (hb : okT xs log = false) :
    Calls Try.prog 8 #[.slice a xs.length cap, .int .i64 log] w fun e w' => e = .returned (.tuple #[.slice none 0 0, .int .i64 70]) ∧ w' = w := by
  have HT := (show Hid (∀ w : World, RowI w .i16 a cap gb off xs → Calls Try.prog 17 #[.slice a xs.length cap, .int .i64 log] w fun e w' => e = .returned (.bool false) ∧ w' = w) from fun w h => by have := right_any a cap gb off xs log w h hx; rwa [hb] at this)
  go_enter Try.func8, Try.ntmps8
  go_wp2_with (go_at_call 17; refine (HT.out _ h).mono ?_; rintro e w' ⟨rfl, rfl⟩)
  go_ret2
  exact ⟨rfl, rfl⟩

theorem getD_drop (xs : List Int) (i j : Nat) : (xs.drop i)[j]?.getD 0 = xs[i + j]?.getD 0 := by rw [List.getElem?_drop]
theorem drop_cons (xs : List Int) (i : Nat) (h : i < xs.length) : xs.drop i = (xs[i]?.getD 0) :: xs.drop (i + 1) := by
  rw [List.drop_eq_getElem_cons h, List.getElem?_eq_getElem h]; rfl

set_option maxRecDepth 100000 in
set_option maxHeartbeats 4000000 in
theorem writeQ_good (a : Option Addr) (cap gb off : Nat) (xs : List Int) (l : Nat) (w : World) (h : RowI w .i16 a cap gb off xs) (hx : I16 xs) (hb : okT xs (l : Int) = true) :
    Calls Try.prog 8 #[.slice a xs.length cap, .int .i64 (l : Int)] w fun e w' => ∃ v, e = .returned (.tuple #[v, .int .i64 0]) ∧ w'.ownsRow 0 5 1 v (pack (alignL (dscAll xs l))).length (u8s (pack (alignL (dscAll xs l)))) ∧ Keep noBlock w w' := by
  obtain ⟨hG, hT, hne, hlen, hl5, hl12⟩ := okT_good hb
  have HT := (show Hid (∀ w : World, RowI w .i16 a cap gb off xs → Calls Try.prog 17 #[.slice a xs.length cap, .int .i64 (l : Int)] w fun e w' => e = .returned (.bool true) ∧ w' = w) from fun w h => by have := right_any a cap gb off xs l w h hx; rwa [hb] at this)
  obtain rfl := h.here (i := 0) (List.length_pos_iff.2 hne)
  have hdl := dsc_le xs.length (2 ^ l) xs (by rw [← hT]; exact hG.le)
  have hD : low (l - 5) 4 ++ dsc xs.length (tot xs) xs = dscAll xs l := by rw [hT]; rfl
  have hDl : (dscAll xs l).length ≤ 3844 := by
    unfold dscAll
    rw [List.length_append, low_length]; omega
  generalize dscAll xs l = D at hD hDl ⊢
  have hl5' : (l : Int) - 5 = ((l - 5 : Nat) : Int) := by omega
  obtain ⟨l5, hle⟩ : ∃ l5, l5 = l - 5 := ⟨_, rfl⟩
  rw [← hle] at hl5' hD
  have hp : (2 : Int) ^ l = ((tot xs : Nat) : Int) := by rw [hT]; simp
  have hTb := hG.le
  have hl12' : (l : Int) ≤ 12 := by omega
  have h5b : (l5 : Int) ≤ 7 := by omega
  obtain ⟨T, hTe⟩ : ∃ T, T = tot xs := ⟨_, rfl⟩
  have hTI : (T : Int) ≤ 4096 := by omega
  have HD := (show Hid (low l5 4 ++ dsc xs.length (tot xs) xs = D) from hD)
  rw [← hTe] at hp
  have HTE := (show Hid (T = tot xs) from hTe)
  have HH := (show Hid (RowI w .i16 (some ⟨gb, off, none⟩) cap gb off xs ∧ Good xs) from ⟨h, hG⟩)
  obtain ⟨n, hn⟩ : ∃ n, n = xs.length := ⟨_, rfl⟩
  rw [← hn] at HT hlen ⊢
  have HN := (show Hid (n = xs.length) from hn)
  clear hT hdl hD hle hTe hx hb hG hTb hn
  go_enter Try.func8, Try.ntmps8
  go_wp2_with (go_at_call 17; refine (HT.out _ h).mono ?_; rintro e w' ⟨rfl, rfl⟩)
  refine ((mineV_new w').put_i l5 4 _ _ rfl rfl (by omega) (by decide) (by simp)).mono ?_
  rintro e W1 ⟨rfl, hM1⟩
  obtain ⟨wb, hwb⟩ : ∃ wb, wb = w'.heap.size := ⟨_, rfl⟩
  rw [← hwb] at hM1 ⊢
  have HWB := (show Hid (wb = w'.heap.size) from hwb)
  rw [List.nil_append] at hM1
  clear hwb HT h
  go_wp2_with fail
  go_loopw [7, 8] (fun v7 v8 wr => ∃ (i f R : Nat) (M : List (Fin 2)), v7 = .int .i64 (R : Int) ∧ v8 = .int .i64 (i : Int) ∧ i ≤ n ∧ Hid (Good (xs.drop i) ∧ R = tot (xs.drop i) ∧ n - i ≤ f ∧ M ++ dsc f R (xs.drop i) = D) ∧ Hid (MineV w' wr wb M)) (fun _ v8 _ => n - (intOf v8).toNat)
  case atStart => exact ⟨0, xs.length, T, low l5 4, rfl, rfl, Nat.zero_le _, ⟨HH.out.2, HTE.out, by have := HN.out; omega, by rw [HTE.out]; exact HD.out⟩, hM1⟩
  case round =>
    clear HD HTE hM1 hp hl5' hTI
    obtain ⟨i, f, R, M, rfl, rfl, hi, HC, HM⟩ := hrel
    by_cases hlt : i < n
    · obtain ⟨hG, hR, hf, hD⟩ := HC.out
      have hlt' : i < xs.length := by have := HN.out; omega
      have hdc := drop_cons xs i hlt'
      obtain ⟨f, rfl⟩ : ∃ f', f = f' + 1 := ⟨f - 1, by omega⟩
      have hb := HH.out.2.at_ i
      have hsh := tot_mem (xs.drop i) 0 hG.low
      rw [getD_drop, Nat.add_zero] at hsh
      have hpos := hG.pos (by rw [hdc]; simp)
      have hle := hG.le
      rw [← hR] at hsh hpos hle
      have hML : M.length ≤ 3844 := by rw [← hD] at hDl; rw [List.length_append] at hDl; omega
      have c0 : wr.cell? ⟨gb, off + i, none⟩ = some (.int .i16 (xs[i]?.getD 0)) := (HH.out.1.keep HM.out.keep (fun _ h => h)).cells i hlt'
      obtain ⟨c, hc⟩ : ∃ c, c = xs[i]?.getD 0 := ⟨_, rfl⟩
      rw [← hc] at hb hsh c0 hdc
      obtain ⟨v, hv⟩ : ∃ v, v = (c + 1).toNat := ⟨_, rfl⟩
      have hcv : c + 1 = (v : Int) := by omega
      have hvR : v ≤ R + 1 := by unfold shareN at hsh; split at hsh <;> omega
      have hs0 := shareN_pos c hb.1
      have hsz := shareN_zero c
      have htt : R = (shareN c).toNat + tot (xs.drop (i + 1)) := by rw [hR, hdc]; rfl
      have hdd : dsc (f + 1) R (xs.drop i) = valBits R v ++ (if c = 0 then zbits (zl (xs.drop (i + 1))) ++ dsc f R ((xs.drop (i + 1)).drop (zl (xs.drop (i + 1)))) else dsc f (R - (shareN c).toNat) (xs.drop (i + 1))) := by rw [hv, hdc]; rfl
      have hG2 : Good (xs.drop (i + 1)) := by rw [hdc] at hG; exact hG.tail
      have HF := (show Hid (M ++ dsc (f + 1) R (xs.drop i) = D ∧ dsc (f + 1) R (xs.drop i) = valBits R v ++ (if c = 0 then zbits (zl (xs.drop (i + 1))) ++ dsc f R ((xs.drop (i + 1)).drop (zl (xs.drop (i + 1)))) else dsc f (R - (shareN c).toNat) (xs.drop (i + 1))) ∧ n - (i + 1) ≤ f ∧ Good (xs.drop (i + 1)) ∧ R = (shareN c).toNat + tot (xs.drop (i + 1)) ∧ Good (c :: xs.drop (i + 1))) from
        ⟨hD, hdd, by omega, hG2, htt, by rw [← hdc]; exact hG⟩)
      have HSH := (show Hid (∀ w : World, _) from fun w => parts_any c (by omega) (by omega) w)
      have HW := (show Hid (Calls Try.prog 33 _ wr _) from putQ_any w' wr wb M R v HM.out (by omega) hpos hle hvR)
      have hcb : -1 ≤ c := hb.1
      have hcb2 : c ≤ 4096 := hb.2
      have hRb : (R : Int) ≤ 4096 := by omega
      have hRp : 0 < (R : Int) := by omega
      have hiI : (i : Int) < (n : Int) := by omega
      have hnI : (n : Int) ≤ 256 := by omega
      clear HC hG hR hf hD hdc hdd hG2 htt hc hv hvR HM hlt'
      go_wp2_with fail
      refine HW.out.mono ?_
      rintro e W2 ⟨rfl, hM2⟩
      have HM2 := (show Hid (MineV w' W2 wb _) from hM2)
      clear c0 HW hM2
      by_cases hc0 : c = 0
      · subst hc0
        have h10 : shareN 0 = 0 := rfl
        obtain ⟨hD, hdd, hf, hG, htt, hG0⟩ := HF.out
        rw [if_pos rfl] at hdd
        have hne2 : xs.drop (i + 1) ≠ [] := by
          intro e
          rw [e] at hG0
          exact hG0.last (by simp) rfl
        have hzl := hG.zl hne2
        have hz0 := zl_zero (xs.drop (i + 1))
        have hze := zl_end (xs.drop (i + 1)) hzl
        rw [List.length_drop] at hzl
        obtain ⟨p, hp⟩ : ∃ p, p = i + 1 := ⟨_, rfl⟩
        have hpI : (i : Int) + 1 = (p : Int) := by omega
        rw [← hp] at hdd hf hG htt hne2 hzl hz0 hze
        obtain ⟨k, hk⟩ : ∃ k, k = zl (xs.drop p) := ⟨_, rfl⟩
        rw [← hk] at hdd hzl hz0 hze
        have hz0' : ∀ j, j < k → xs[p + j]?.getD 0 = 0 := fun j hj => by rw [← getD_drop]; exact hz0 j hj
        have hze' : xs[p + k]?.getD 0 ≠ 0 := by rw [← getD_drop]; exact hze
        have hlv := valBits_le R v (by omega)
        have hml : (M ++ valBits R v).length < 100000 := by rw [List.length_append]; omega
        have hn := HN.out
        have HF2 := (show Hid ((M ++ valBits R v) ++ (zbits k ++ dsc f R (xs.drop (p + k))) = D ∧ n - (p + k) ≤ f ∧ Good (xs.drop (p + k)) ∧ R = tot (xs.drop (p + k)) ∧ p = i + 1) from
          ⟨by rw [List.append_assoc, ← List.drop_drop, ← hdd]; exact hD, by omega, by rw [← List.drop_drop]; exact hG.drop _, by rw [← List.drop_drop, tot_zeros _ _ (by rw [← hk]; exact Nat.le_refl _)]; simpa [h10] using htt, hp⟩)
        have HZ := (show Hid ((∀ j, j < k → xs[p + j]?.getD 0 = 0) ∧ xs[p + k]?.getD 0 ≠ 0 ∧ (M ++ valBits R v).length < 100000) from ⟨hz0', hze', hml⟩)
        have HP := (show Hid (p = i + 1) from hp)
        have hpkn : p + k < n := by omega
        have hpkI : (p : Int) + (k : Int) < (n : Int) := by omega
        have hpb : (p : Int) ≤ 256 := by omega
        have hsub : (R : Int) - 0 = (R : Int) := by omega
        clear HF hD hdd hf hG htt hG0 hne2 hzl hz0 hze hz0' hze' hlv hml hk hp hn hsz
        have hcell := fun q (hq : q < n) => (HH.out.1.keep HM2.out.keep (fun _ h => h)).cells q (by have := HN.out; omega)
        have HCE := (show Hid (∀ q, q < n → W2.cell? ⟨gb, off + q, none⟩ = some (.int .i16 (xs[q]?.getD 0))) from hcell)
        clear hcell
        go_wp2_with (go_at_call 34; refine (HSH.out _).mono ?_; rintro e w'' ⟨rfl, rfl⟩)
        go_loop [10] (fun v10 => ∃ j : Nat, j ≤ k ∧ v10 = .int .i64 (j : Int)) (fun v10 => k - (intOf v10).toNat)
        case atStart => exact ⟨0, Nat.zero_le _, rfl⟩
        case round =>
          obtain ⟨j, hj, rfl⟩ := hrel
          obtain ⟨q, hq⟩ : ∃ q, q = p + j := ⟨_, rfl⟩
          have hqI : (p : Int) + (j : Int) = (q : Int) := by omega
          have hqn : (q : Int) < (n : Int) := by omega
          have cq := HCE.out q (by omega)
          by_cases hjk : j < k
          · have e0 : xs[q]?.getD 0 = 0 := by rw [hq]; exact HZ.out.1 j hjk
            rw [e0] at cq
            clear e0 hq
            go_wp2_with fail
            go_round
            case rel => exact ⟨j + 1, by omega, by go_num⟩
            case measure => simp [intOf]; omega
          · obtain rfl : j = k := by omega
            have e0 : xs[q]?.getD 0 ≠ 0 := by rw [hq]; exact HZ.out.2.1
            generalize xs[q]?.getD 0 = y at cq e0
            have e0b : (y == 0) = false := by simpa using e0
            have HQ := (show Hid (q = p + j) from hq)
            clear hq e0
            go_wp2_with fail
            go_loopw [10] (fun v10 wr => ∃ (z : Nat) (M2 : List (Fin 2)), z ≤ j ∧ v10 = .int .i64 (z : Int) ∧ Hid (MineV w' wr wb M2 ∧ M2 ++ zbits z = (M ++ valBits R v) ++ zbits j ∧ M2.length + z ≤ (M ++ valBits R v).length + j)) (fun v10 _ => (intOf v10).toNat)
            case atStart => exact ⟨j, _, Nat.le_refl _, rfl, HM2.out, rfl, Nat.le_refl _⟩
            case round =>
              obtain ⟨z, M2, hz, rfl, HM3⟩ := hrel
              have hml := HZ.out.2.2
              have hm2 := HM3.out.2.2
              have hm2l : M2.length < 1000000 := by omega
              clear hml hm2
              by_cases h3 : 3 ≤ z
              · obtain ⟨z2, hz2⟩ : ∃ z2, z = z2 + 3 := ⟨z - 3, by omega⟩
                have h3I : (3 : Int) ≤ (z : Int) := by omega
                have h3J : (z : Int) - 3 = (z2 : Int) := by omega
                have hz2b : (z2 : Int) ≤ 256 := by omega
                have HZ2 := (show Hid (z = z2 + 3) from hz2)
                clear hz2
                go_wp2_with (go_at_call 32; refine (HM3.out.1.put_i 3 2 _ _ rfl rfl (by decide) (by decide) (by omega)).mono ?_; rintro e w'' ⟨rfl, hM4⟩)
                go_roundw
                case rel => exact ⟨z2, M2 ++ low 3 2, by have := HZ2.out; omega, rfl, hM4, by rw [← HM3.out.2.1, HZ2.out, zbits_more, List.append_assoc], by rw [List.length_append, low_length]; have := HZ2.out; have := HM3.out.2.2; omega⟩
                case measure => have := HZ2.out; simp [intOf]; omega
              · have h3I : ¬ (3 : Int) ≤ (z : Int) := by omega
                have hzb : (z : Int) ≤ 2 := by omega
                go_wp2_with (go_at_call 32; refine (HM3.out.1.put_i z 2 _ _ rfl rfl (by omega) (by decide) (by omega)).mono ?_; rintro e w'' ⟨rfl, hM4⟩)
                go_roundw
                case rel =>
                  obtain ⟨hD, hf, hG, htt, hp⟩ := HF2.out
                  have hq := HQ.out
                  rw [← hq] at hD hf hG htt
                  refine ⟨q, f, R, M2 ++ low z 2, rfl, rfl, by omega, ⟨hG, htt, hf, ?_⟩, hM4⟩
                  rw [← zbits_few z (by omega), HM3.out.2.1, List.append_assoc]; exact hD
                case measure => have := HQ.out; have := HP.out; simp [intOf]; omega
      · have hcb0 : (c != 0) = true := by simpa using hc0
        have hsp : shareN c ≠ 0 := fun e => hc0 (hsz.1 e)
        obtain ⟨R2, hR2e⟩ : ∃ R2, R2 = R - (shareN c).toNat := ⟨_, rfl⟩
        have hsub : (R : Int) - shareN c = (R2 : Int) := by omega
        have HR2 := (show Hid (R2 = R - (shareN c).toNat) from hR2e)
        have hR2b : (R2 : Int) ≤ 4096 := by omega
        clear hsz hR2e
        generalize hs : shareN c = sc at *
        go_wp2_with (go_at_call 34; refine (HSH.out _).mono ?_; rintro e w'' ⟨rfl, rfl⟩)
        go_roundw
        case rel =>
          obtain ⟨hD, hdd, hf, hG, htt, -⟩ := HF.out
          rw [if_neg hc0] at hdd
          refine ⟨i + 1, f, R2, M ++ valBits R v, rfl, by go_num, by omega, ⟨hG, by have := HR2.out; omega, hf, ?_⟩, HM2.out⟩
          rw [List.append_assoc, HR2.out, ← hdd]; exact hD
        case measure => simp [intOf]; omega
    · obtain rfl : i = n := by omega
      have hx : xs.drop i = [] := List.drop_eq_nil_of_le (by have := HN.out; omega)
      have HE := (show Hid (M = D ∧ R = 0) from by
        obtain ⟨h1, h2, h3, h4⟩ := HC.out
        rw [hx] at h2 h4
        have h5 : dsc f R [] = [] := by cases f <;> rfl
        rw [h5, List.append_nil] at h4
        exact ⟨h4, h2⟩)
      obtain ⟨-, rfl⟩ := HE.out
      rw [show ((0 : Nat) : Int) = (0 : Int) from rfl]
      clear hx
      go_wp2_with fail
      refine (HM.out.align (by rw [HE.out.1]; omega)).mono ?_
      rintro e W2 ⟨rfl, hM2⟩
      go_wp2_with fail
      refine (hM2.bytes (by rw [HE.out.1, List.length_append, low_length]; omega)).mono ?_
      rintro e W3 ⟨v, rfl, hown, hK⟩
      rw [HE.out.1] at hown
      go_wp2_with fail
      go_ret2
      exact ⟨v, rfl, hown, hK⟩

end Go.Proofs.Ytoffnhbopjaocaa
