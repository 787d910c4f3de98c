/-
  Write of counts: their description, or ErrCounts.
-/
import Derived.Test.YtoffnhbopjaocaaWrD
namespace Go.Proofs.Ytoffnhbopjaocaa
open Go.RowKit Go.Shelf

/-- The bits of a description, up to the end of a byte. -/
def dscAll (xs : List Int) (l : Nat) : List (Fin 2) := low (l - 5) 4 ++ dsc xs.length (2 ^ l) xs
def alignL (L : List (Fin 2)) : List (Fin 2) := L ++ low 0 ((8 - L.length % 8) % 8)
/-- How long a slice is. -/
def sliceLen : Value → Nat
  | .slice _ n _ => n
  | _ => 0

set_option maxHeartbeats 400000 in
theorem write_bad (a : Option Addr) (cap gb off : Nat) (xs : List Int) (log : Int) (w : World) (h : RowI w .i16 a cap gb off xs) (hx : I16 xs) (hb : okT xs log = false) :
    Calls Try.prog 7 #[.slice a xs.length cap, .int .i64 log] w fun e w' => e = .returned (.tuple #[.slice none 0 0, .int .i64 70]) ∧ w' = w := by
  have HT := (show Hid (∀ w : World, RowI w .i16 a cap gb off xs → Calls Try.prog 24 #[.slice a xs.length cap, .int .i64 log] w fun e w' => e = .returned (.bool false) ∧ w' = w) from fun w h => by have := makeTable_any a cap gb off xs log w h hx; rwa [hb] at this)
  go_enter Try.func7, Try.ntmps7
  go_wp2_with (go_at_call 24; refine (HT.out _ h).mono ?_; rintro e w' ⟨rfl, rfl⟩)
  go_ret2
  exact ⟨rfl, rfl⟩

section
attribute [local go_sem] sliceSem_eq
set_option maxRecDepth 100000 in
set_option maxHeartbeats 2000000 in
theorem write_good (a : Option Addr) (cap gb off : Nat) (xs : List Int) (l : Nat) (w : World) (h : RowI w .i16 a cap gb off xs) (hx : I16 xs) (hb : okT xs (l : Int) = true) :
    Calls Try.prog 7 #[.slice a xs.length cap, .int .i64 (l : Int)] w fun e w' => ∃ v, e = .returned (.tuple #[v, .int .i64 0]) ∧ w'.ownsRow w.heap.size 5 1 v (pack (alignL (dscAll xs l))).length (u8s (pack (alignL (dscAll xs l)))) ∧ Keep noBlock w w' := by
  obtain ⟨hG, hT, hne, hlen, hl5, hl12⟩ := okT_good hb
  have HT := (show Hid (∀ w : World, RowI w .i16 a cap gb off xs → Calls Try.prog 24 #[.slice a xs.length cap, .int .i64 (l : Int)] w fun e w' => e = .returned (.bool true) ∧ w' = w) from fun w h => by have := makeTable_any a cap gb off xs l w h hx; rwa [hb] at this)
  have hdl := dsc_le xs.length (2 ^ l) xs (by rw [← hT]; exact hG.le)
  have hD : low (l - 5) 4 ++ dsc xs.length (tot xs) xs = dscAll xs l := by rw [hT]; rfl
  have hDl : (dscAll xs l).length ≤ 3844 := by
    unfold dscAll
    rw [List.length_append, low_length]; omega
  generalize dscAll xs l = D at hD hDl ⊢
  have hl5' : (l : Int) - 5 = ((l - 5 : Nat) : Int) := by omega
  obtain ⟨l5, hle⟩ : ∃ l5, l5 = l - 5 := ⟨_, rfl⟩
  rw [← hle] at hl5' hD
  have hp : (2 : Int) ^ l = ((tot xs : Nat) : Int) := by rw [hT]; simp
  have hTb := hG.le
  have hl12' : (l : Int) ≤ 12 := by omega
  have h5b : (l5 : Int) ≤ 7 := by omega
  obtain ⟨T, hTe⟩ : ∃ T, T = tot xs := ⟨_, rfl⟩
  have hTI : (T : Int) ≤ 4096 := by omega
  have HD := (show Hid (low l5 4 ++ dsc xs.length (tot xs) xs = D) from hD)
  rw [← hTe] at hp
  have HTE := (show Hid (T = tot xs) from hTe)
  have HH := (show Hid (RowI w .i16 a cap gb off xs ∧ Good xs) from ⟨h, hG⟩)
  obtain ⟨n, hn⟩ : ∃ n, n = xs.length := ⟨_, rfl⟩
  rw [← hn] at HT ⊢
  have HN := (show Hid (n = xs.length) from hn)
  clear hT hdl hD hle hTe hx hb hG hTb hn
  go_enter Try.func7, Try.ntmps7
  go_wp2_with (go_at_call 24; refine (HT.out _ h).mono ?_; rintro e w' ⟨rfl, rfl⟩)
  refine ((mine_new w').put_i l5 4 _ _ rfl rfl (by omega) (by decide) (by simp)).mono ?_
  rintro e W1 ⟨rfl, hM1⟩
  obtain ⟨wb, hwb⟩ : ∃ wb, wb = w'.heap.size := ⟨_, rfl⟩
  rw [← hwb] at hM1 ⊢
  have HWB := (show Hid (wb = w'.heap.size) from hwb)
  rw [List.nil_append] at hM1
  clear hwb HT h
  go_wp2_with fail
  go_loopw [0, 7] (fun v0 v7 wr => ∃ (cs : List Int) (a' : Option Addr) (cap' off' f R : Nat) (M : List (Fin 2)), v0 = .slice a' cs.length cap' ∧ v7 = .int .i64 (R : Int) ∧ Hid (RowI w' .i16 a' cap' gb off' cs ∧ Good cs ∧ R = tot cs ∧ cs.length ≤ f ∧ M ++ dsc f R cs = D ∧ cs.length ≤ 256) ∧ Hid (Mine w' wr wb M)) (fun v0 _ _ => sliceLen v0)
  case atStart => exact ⟨xs, a, cap, off, xs.length, T, low l5 4, by rw [HN.out], rfl, ⟨HH.out.1, HH.out.2, HTE.out, Nat.le_refl _, by rw [HTE.out]; exact HD.out, hlen⟩, hM1⟩
  case round =>
    clear HD HTE HH hM1 HN hp hl5' hTI
    obtain ⟨cs, a', cap', off', f, R, M, rfl, rfl, HC, HM⟩ := hrel
    cases cs with
    | nil =>
      have HE := (show Hid (M = D) from by
        have h : M ++ dsc f R [] = D := HC.out.2.2.2.2.1
        have h2 : dsc f R [] = [] := by cases f <;> rfl
        rw [h2, List.append_nil] at h
        exact h)
      rw [show ((([] : List Int).length : Nat)) = 0 from rfl]
      go_wp2_with fail
      refine (HM.out.align (by rw [HE.out]; omega)).mono ?_
      rintro e W2 ⟨rfl, hM2⟩
      go_wp2_with fail
      refine (hM2.bytes (by rw [HE.out, List.length_append, low_length]; omega)).mono ?_
      rintro e W3 ⟨v, rfl, hown, hK⟩
      rw [HE.out] at hown
      go_wp2_with fail
      go_ret2
      exact ⟨v, rfl, hown, hK⟩
    | cons c cs =>
      obtain ⟨hRow, hG, hR, hf, hD, h256⟩ := HC.out
      obtain ⟨f, rfl⟩ : ∃ f', f = f' + 1 := ⟨f - 1, by simp at hf; omega⟩
      obtain rfl := hRow.here (i := 0) (by simp)
      have hb := hG.at_ 0
      have hsh := tot_mem (c :: cs) 0 hG.low
      have hpos := hG.pos (by simp)
      have hle := hG.le
      rw [← hR] at hsh hpos hle
      rw [List.getElem?_cons_zero, Option.getD_some] at hb hsh
      have hML : M.length ≤ 3844 := by rw [← hD] at hDl; rw [List.length_append] at hDl; omega
      obtain ⟨v, hv⟩ : ∃ v, v = (c + 1).toNat := ⟨_, rfl⟩
      have hcv : c + 1 = (v : Int) := by omega
      have hvR : v ≤ R + 1 := by unfold shareN at hsh; split at hsh <;> omega
      have hs0 := shareN_pos c hb.1
      have hsz := shareN_zero c
      have htt : R = (shareN c).toNat + tot cs := hR
      obtain ⟨a2, off2, hsl, hR2⟩ := hRow.drop Try.underlying22 info42 1 (by simp)
      rw [show (c :: cs).drop 1 = cs from rfl] at hsl hR2
      rw [show ((1 : Nat) : Int) = (1 : Int) from rfl] at hsl
      have c0 : wr.cell? ⟨gb, off', none⟩ = some (.int .i16 c) := by
        have := (hRow.keep HM.out.keep (fun _ h => h)).cells 0 (by simp)
        simpa using this
      have hcell : ∀ W M', Mine w' W wb M' → W.cell? ⟨gb, off', none⟩ = some (.int .i16 c) := fun W M' hM => by
        have := (hRow.keep hM.keep (fun _ h => h)).cells 0 (by simp)
        simpa using this
      obtain ⟨n1, hn1⟩ : ∃ n1, n1 = (c :: cs).length := ⟨_, rfl⟩
      rw [← hn1] at hsl ⊢
      have hn1p : 0 < (n1 : Int) := by rw [List.length_cons] at hn1; omega
      have hn1b : (n1 : Int) ≤ 256 := by omega
      have hdd : dsc (f + 1) R (c :: cs) = valBits R v ++ (if c = 0 then zbits (zl cs) ++ dsc f R (cs.drop (zl cs)) else dsc f (R - (shareN c).toNat) cs) := by rw [hv]; rfl
      have HF := (show Hid (n1 = cs.length + 1 ∧ M ++ dsc (f + 1) R (c :: cs) = D ∧ dsc (f + 1) R (c :: cs) = valBits R v ++ (if c = 0 then zbits (zl cs) ++ dsc f R (cs.drop (zl cs)) else dsc f (R - (shareN c).toNat) cs) ∧ cs.length ≤ f ∧ Good cs ∧ RowI w' .i16 a2 (cap' - 1) gb off2 cs ∧ R = (shareN c).toNat + tot cs ∧ cs.length ≤ 256) from
        ⟨hn1, hD, hdd, by simp at hf; omega, hG.tail, hR2, htt, by simp at h256; omega⟩)
      have HW := (show Hid (Calls Try.prog 26 _ wr _) from writeCount_any w' wr wb M R v c HM.out (by omega) hpos hle hcv hvR)
      have HCE := (show Hid (∀ W M', Mine w' W wb M' → _) from hcell)
      have HSH := (show Hid (∀ w : World, _) from fun w => share_any c (by omega) (by omega) w)
      have hcb : -1 ≤ c := hb.1
      have hcb2 : c ≤ 4096 := hb.2
      have hRb : (R : Int) ≤ 4096 := by omega
      clear HC hRow hG hR hf hD h256 hR2 hdd hcell hn1 HM htt hv hcv hvR
      go_wp2_with fail
      refine HW.out.mono ?_
      rintro e W2 ⟨rfl, hM2⟩
      have c2 := HCE.out W2 _ hM2
      have HM2 := (show Hid (Mine w' W2 wb _) from hM2)
      clear c0 HW hM2
      by_cases hc0 : c = 0
      · subst hc0
        have h1 : shareN 0 = 0 := rfl
        obtain ⟨hn1, hD, hdd, hf, hG, hR2, htt, h256⟩ := HF.out
        rw [if_pos rfl] at hdd
        obtain ⟨a3, off3, hsl3, hR3⟩ := hR2.drop Try.underlying22 info42 (zl cs) (zl_le cs)
        have HZ := (show Hid (∀ W M', Mine w' W wb M' → Calls Try.prog 28 #[.slice a2 cs.length (cap' - 1)] W fun e w' => e = .returned (.int .i64 ((zl cs : Nat) : Int)) ∧ w' = W) from fun W M' hM => zerosAhead_any a2 (cap' - 1) gb off2 cs W (hR2.keep hM.keep (fun _ h => h)) h256)
        have hlv := valBits_le R v (by omega)
        have HF2 := (show Hid (n1 = cs.length + 1 ∧ (M ++ valBits R v) ++ (zbits (zl cs) ++ dsc f R (cs.drop (zl cs))) = D ∧ cs.length ≤ f ∧ Good (cs.drop (zl cs)) ∧ RowI w' .i16 a3 (cap' - 1 - zl cs) gb off3 (cs.drop (zl cs)) ∧ R = tot (cs.drop (zl cs)) ∧ cs.length ≤ 256) from
          ⟨hn1, by rw [List.append_assoc, ← hdd]; exact hD, hf, hG.drop _, hR3, by rw [tot_zeros cs _ (Nat.le_refl _)]; simpa [h1] using htt, h256⟩)
        have hzl := zl_le cs
        have hml : (M ++ valBits R v).length < 100000 := by rw [List.length_append]; omega
        have HML := (show Hid ((M ++ valBits R v).length < 100000) from hml)
        have hzb : zl cs ≤ 256 := by omega
        clear HF hn1 hD hdd hf hG hR2 htt h256 hR3 hlv hml hzl
        have hdl : (cs.drop (zl cs)).length = cs.length - zl cs := List.length_drop
        generalize hk : zl cs = k at *
        go_wp2_with (go_at_call 27; refine (HSH.out _).mono ?_; rintro e w'' ⟨rfl, rfl⟩)
        refine (HZ.out _ _ HM2.out).mono ?_
        rintro e w'' ⟨rfl, rfl⟩
        go_wp2_with fail
        refine (writeZeros_any w' _ wb _ k HM2.out HML.out hzb).mono ?_
        rintro e W3 ⟨rfl, hM3⟩
        go_wp2_with fail
        go_roundw
        case rel =>
          obtain ⟨hn1, hD, hf, hG, hR2, htt, h256⟩ := HF2.out
          exact ⟨cs.drop k, a3, cap' - 1 - k, off3, f, R, (M ++ valBits R v) ++ zbits k, by rw [List.length_drop], rfl, ⟨hR2, hG, htt, by rw [List.length_drop]; omega, by rw [List.append_assoc]; exact hD, by rw [List.length_drop]; omega⟩, hM3⟩
        case measure =>
          have := HF2.out.1
          show sliceLen _ < sliceLen _
          simp [sliceLen]; omega
      · have hcb0 : (c == 0) = false := by simpa using hc0
        have hsp : shareN c ≠ 0 := fun e => hc0 (hsz.1 e)
        obtain ⟨R2, hR2e⟩ : ∃ R2, R2 = R - (shareN c).toNat := ⟨_, rfl⟩
        have hsub : (R : Int) - shareN c = (R2 : Int) := by omega
        have HR2 := (show Hid (R2 = R - (shareN c).toNat) from hR2e)
        have hR2b : (R2 : Int) ≤ 4096 := by omega
        clear hsz hR2e
        generalize hs : shareN c = sc at *
        go_wp2_with (go_at_call 27; refine (HSH.out _).mono ?_; rintro e w'' ⟨rfl, rfl⟩)
        go_roundw
        case rel =>
          obtain ⟨hn1, hD, hdd, hf, hG, hR2, htt, h256⟩ := HF.out
          rw [if_neg hc0] at hdd
          refine ⟨cs, a2, cap' - 1, off2, f, R2, M ++ valBits R v, rfl, rfl, ⟨hR2, hG, by have := HR2.out; omega, hf, ?_, h256⟩, HM2.out⟩
          rw [List.append_assoc, HR2.out, ← hdd]; exact hD
        case measure =>
          have := HF.out.1
          show sliceLen _ < sliceLen _
          simp [sliceLen]; omega
end

end Go.Proofs.Ytoffnhbopjaocaa
