/-
  Counts: counts that make a table, or ErrArg.
-/
import Derived.Test.YtoffnhbopjaocaaCtt
import Derived.Test.YtoffnhbopjaocaaWrE
namespace Go.Proofs.Ytoffnhbopjaocaa
open Go.RowKit Go.Shelf

theorem used_zero (f : Nat → Nat) (k n : Nat) (hk : k ≤ n) (h : ∀ j, k ≤ j → j < n → f j = 0) : usedN f n = usedN f k := by
  induction n with
  | zero => obtain rfl : k = 0 := by omega
            rfl
  | succ n ih =>
    by_cases e : k = n + 1
    · subst e; rfl
    · have h1 := ih (by omega) (fun j h1 h2 => h j h1 (by omega))
      have h2 := h n (by omega) (by omega)
      show usedN f n + (if 0 < f n then 1 else 0) = _
      rw [h1, h2]; simp
theorem fr_take (fs : List Int) (k i : Nat) (h : i < k) : fr (fs.take k) i = fr fs i := by
  unfold fr; rw [List.getElem?_take, if_pos h]
theorem used_take (fs : List Int) (k : Nat) (hk : k ≤ fs.length) (h : ∀ j, k ≤ j → j < fs.length → fr fs j = 0) : usedN (fr (fs.take k)) (fs.take k).length = usedN (fr fs) fs.length := by
  have e : (fs.take k).length = k := by rw [List.length_take]; omega
  rw [e, used_zero (fr fs) k fs.length hk h]
  exact sumN_congr _ _ k (fun i hi => by rw [fr_take fs k i hi])
theorem u32_take {fs : List Int} (h : U32 fs) (k : Nat) : U32 (fs.take k) := fun i => by
  rw [List.getElem?_take]
  split
  · exact h i
  · simp
theorem sum_pos (f : Nat → Nat) (n : Nat) (h : 0 < usedN f n) : 0 < sumN f n := by
  obtain ⟨j, hj, hf⟩ := some_there f n h
  have := sumN_ge f n j hj
  omega

/-- The counts as they come out. -/
def outC (f c : Nat → Nat) (T l n : Nat) : List Int := (List.range n).map (markF f c T l)
theorem outC_length (f c : Nat → Nat) (T l n : Nat) : (outC f c T l n).length = n := by simp [outC]
theorem outC_at (f c : Nat → Nat) (T l n i : Nat) (hi : i < n) : (outC f c T l n)[i]?.getD 0 = markF f c T l i := by
  unfold outC
  rw [List.getElem?_map, List.getElem?_range hi]; rfl
theorem mark_share (f c : Nat → Nat) (T l i : Nat) : shareN (markF f c T l i) = ((c i : Nat) : Int) := by
  unfold markF
  split
  · rename_i h; rw [h.1]; rfl
  · unfold shareN; rw [if_neg (by omega)]
theorem mark_zero (f c : Nat → Nat) (T l i : Nat) : markF f c T l i = 0 ↔ c i = 0 := by
  unfold markF
  split
  · rename_i h; rw [h.1]; simp
  · omega
theorem mark_bounds (f c : Nat → Nat) (T l i : Nat) (h : c i ≤ 4096) : -1 ≤ markF f c T l i ∧ markF f c T l i ≤ 4096 := by
  unfold markF; split <;> omega
theorem out_sum (f c : Nat → Nat) (T l n m : Nat) (hm : m ≤ n) : sumS (outC f c T l n) m = ((sumN c m : Nat) : Int) := by
  induction m with
  | zero => rfl
  | succ m ih => simp only [sumS, sumN]; rw [ih (by omega), outC_at f c T l n m (by omega), mark_share]; omega
theorem out_ok (f c : Nat → Nat) (T l n : Nat) (hl5 : 5 ≤ l) (hl12 : l ≤ 12) (hn : n ≠ 0) (hn2 : n ≤ 256) (hI : InvC f c n) (hlast : 0 < f (n - 1)) (hs : sumN c n = 2 ^ l) : okT (outC f c T l n) (l : Int) = true := by
  unfold okT
  refine decide_eq_true ⟨by omega, by omega, by rw [outC_length]; exact hn, by rw [outC_length]; exact hn2, ?_, fun i hi => ?_, ?_⟩
  · rw [outC_length, outC_at f c T l n (n - 1) (by omega)]
    intro e
    have h1 := (mark_zero f c T l (n - 1)).1 e
    have h2 := (hI (n - 1) (by omega)).1 hlast
    omega
  · rw [outC_length] at hi
    rw [outC_at f c T l n i hi]
    exact (mark_bounds f c T l i (hI i hi).2.2).1
  · rw [outC_length, out_sum f c T l n n (Nat.le_refl _), hs, Int.toNat_natCast]; simp

/-- What Counts gives. -/
def IsCounts (fs : List Int) (l : Nat) (w : World) (e : Ending) (w' : World) : Prop :=
  (ableF fs (l : Int) = false ∧ e = .returned (.tuple #[.slice none 0 0, .int .i64 2]) ∧ w' = w) ∨
  (ableF fs (l : Int) = true ∧ ∃ (cb : Nat) (xs : List Int), e = .returned (.tuple #[.slice (some ⟨cb, 0, none⟩) xs.length xs.length, .int .i64 0]) ∧ RowI w' .i16 (some ⟨cb, 0, none⟩) xs.length cb 0 xs ∧ okT xs (l : Int) = true ∧ I16 xs ∧ xs.length ≤ fs.length ∧
    (∀ i, i < fs.length → (0 < fr fs i ↔ (i < xs.length ∧ xs[i]?.getD 0 ≠ 0))) ∧ Keep noBlock w w')

section
attribute [local go_sem] sliceSem_eq
set_option maxRecDepth 100000 in
set_option maxHeartbeats 4000000 in
theorem counts_in (a : Option Addr) (cap gb off : Nat) (fs : List Int) (l : Nat) (w : World) (hR : RowI w .u32 a cap gb off fs) (hu : U32 fs) (hl : fs.length ≤ 256) (hl5 : 5 ≤ l) (hl12 : l ≤ 12) :
    Calls Try.prog 15 #[.slice a fs.length cap, .int .i64 (l : Int)] w fun e w' => IsCounts fs l w e w' := by
  have hd : decide (5 ≤ (l : Int) ∧ (l : Int) ≤ 12) = true := decide_eq_true ⟨by omega, by omega⟩
  have HIL := (show Hid (∀ w : World, Calls Try.prog 41 #[.int .i64 (l : Int)] w fun e w' => e = .returned (.bool true) ∧ w' = w) from fun w => by have := isLog_any (l : Int) w; rwa [hd] at this)
  have hlI : ¬ (256 : Int) < (fs.length : Int) := by omega
  have HH := (show Hid (RowI w .u32 a cap gb off fs ∧ U32 fs) from ⟨hR, hu⟩)
  have hSb : 2 ^ l ≤ 4096 := Nat.pow_le_pow_right (n := 2) (j := 12) (by omega) hl12
  have hp : (2 : Int) ^ l = ((2 ^ l : Nat) : Int) := by simp
  obtain ⟨S, hS⟩ : ∃ S, S = 2 ^ l := ⟨_, rfl⟩
  rw [← hS] at hSb hp
  have HSE := (show Hid (S = 2 ^ l) from hS)
  have hSI : (S : Int) ≤ 4096 := by omega
  have hllI : (l : Int) ≤ 12 := by omega
  obtain ⟨n, hn⟩ : ∃ n, n = fs.length := ⟨_, rfl⟩
  rw [← hn] at hl hlI ⊢
  have HN := (show Hid (n = fs.length) from hn)
  have hnI : (n : Int) ≤ 256 := by omega
  clear hR hu hd hn hS
  go_enter Try.func15, Try.ntmps15
  go_wp2_with (go_at_call 41; refine (HIL.out _).mono ?_; rintro e w' ⟨rfl, rfl⟩)
  go_loop [0] (fun v0 => ∃ k : Nat, v0 = .slice a k cap ∧ k ≤ n ∧ Hid (∀ j, k ≤ j → j < fs.length → fr fs j = 0)) (fun v0 => sliceLen v0)
  case atStart => exact ⟨n, rfl, Nat.le_refl _, fun j h1 h2 => by have := HN.out; omega⟩
  case round =>
    obtain ⟨k, rfl, hk, HZ⟩ := hrel
    by_cases hz : 0 < k ∧ fr fs (k - 1) = 0
    · obtain ⟨hk0, hf0⟩ := hz
      obtain ⟨m, hm⟩ : ∃ m, k = m + 1 := ⟨k - 1, by omega⟩
      have hix : m < fs.length := by have := HN.out; omega
      obtain ⟨hR, hu⟩ := HH.out
      obtain rfl := hR.here hix
      have c0 := hR.fr hu m hix
      rw [show k - 1 = m from by omega] at hf0
      have HZ2 := (show Hid (∀ j, m ≤ j → j < fs.length → fr fs j = 0) from fun j h1 h2 => by
        by_cases e : j = m
        · subst e; exact hf0
        · exact HZ.out j (by omega) h2)
      rw [hf0] at c0
      have hsl := fun W => run_high (t := 37) Try.underlying37 info41 (some ⟨gb, off, none⟩) k cap m (by have := hR.le; omega) W
      have hk0I : 0 < (k : Int) := by omega
      have hkmI : (k : Int) - 1 = (m : Int) := by omega
      have hkb : (k : Int) ≤ 256 := by omega
      have hmk : (m : Int) < (k : Int) := by omega
      have HM := (show Hid (k = m + 1) from hm)
      clear hR hu hf0 hm
      rw [show ((0 : Nat) : Int) = (0 : Int) from rfl] at c0
      go_wp2_with fail
      go_round
      case rel => exact ⟨m, rfl, by have := HM.out; omega, HZ2⟩
      case measure => have := HM.out; simp [sliceLen]; omega
    · obtain ⟨hR, hu⟩ := HH.out
      have hnf := HN.out
      obtain ⟨-, hRk⟩ := hR.take Try.underlying37 info41 k (by omega)
      have hkl : (fs.take k).length = k := by rw [List.length_take]; omega
      have hut := u32_take hu k
      have hus := used_take fs k (by omega) HZ.out
      have hsu := sumOf_any a cap gb off (fs.take k) w' hRk hut (by rw [hkl]; omega)
      rw [hkl] at hsu hus
      have HAB := (show Hid (ableF fs (l : Int) = decide (1 ≤ usedN (fr (fs.take k)) k ∧ usedN (fr (fs.take k)) k ≤ S)) from by
        unfold ableF
        rw [Bool.eq_iff_iff, decide_eq_true_iff, decide_eq_true_iff, Int.toNat_natCast, hus, HSE.out]
        exact ⟨fun h => h.2.2.2, fun h => ⟨by omega, by omega, by omega, h⟩⟩)
      have HSU := (show Hid (Calls Try.prog 46 _ w' _) from hsu)
      have hub := usedN_le (fr (fs.take k)) k
      have huI : ((usedN (fr (fs.take k)) k : Nat) : Int) ≤ 256 := by omega
      by_cases hk0 : k = 0
      · subst hk0
        have hU0 : usedN (fr (fs.take 0)) 0 = 0 := rfl
        have hT0 : sumN (fr (fs.take 0)) 0 = 0 := rfl
        rw [hU0, hT0] at HSU
        have HF := (show Hid (ableF fs (l : Int) = false) from by rw [HAB.out, hU0]; rfl)
        clear hR hu hnf hRk hkl hut hus hsu hub huI hU0 hT0 HAB hz
        rw [show ((0 : Nat) : Int) = (0 : Int) from rfl] at HSU
        go_wp2_with (go_at_call 46; refine (HSU.out).mono ?_; rintro e w1 ⟨rfl, rfl⟩)
        go_ret2
        exact .inl ⟨HF.out, rfl, rfl⟩
      · have hf1 : fr fs (k - 1) ≠ 0 := fun e => hz ⟨by omega, e⟩
        obtain ⟨m, hm⟩ : ∃ m, k = m + 1 := ⟨k - 1, by omega⟩
        have hix : m < fs.length := by omega
        obtain rfl := hR.here hix
        have c0 := hR.fr hu m hix
        rw [show k - 1 = m from by omega] at hf1
        have hfp : 0 < fr (fs.take k) (k - 1) := by rw [fr_take fs k (k - 1) (by omega), show k - 1 = m from by omega]; omega
        have hU1 : 1 ≤ usedN (fr (fs.take k)) k := by
          have := sumN_ge (fun i => if 0 < fr (fs.take k) i then 1 else 0) k (k - 1) (by omega)
          rw [if_pos hfp] at this
          exact this
        have hk0I : 0 < (k : Int) := by omega
        have hkmI : (k : Int) - 1 = (m : Int) := by omega
        have hkb : (k : Int) ≤ 256 := by omega
        have hmk : (m : Int) < (k : Int) := by omega
        have hfb : (((fr fs m : Nat) : Int) == 0) = false := by rw [beq_eq_false_iff_ne]; omega
        have hTp := sum_pos (fr (fs.take k)) k (by omega)
        have hTb : sumN (fr (fs.take k)) k ≤ 256 * 4294967296 := Nat.le_trans (sumN_le _ k 4294967296 (fun j _ => by have := fr_lt hut j; omega)) (Nat.mul_le_mul_right _ (by omega))
        have hU1b : (((usedN (fr (fs.take k)) k : Nat) : Int) == 0) = false := by rw [beq_eq_false_iff_ne]; omega
        by_cases hUS : usedN (fr (fs.take k)) k ≤ S
        · have hUSI : ¬ (S : Int) < ((usedN (fr (fs.take k)) k : Nat) : Int) := by omega
          have HF := (show Hid (ableF fs (l : Int) = true) from by rw [HAB.out]; exact decide_eq_true ⟨hU1, hUS⟩)
          obtain ⟨T, hT⟩ : ∃ T, T = sumN (fr (fs.take k)) k := ⟨_, rfl⟩
          rw [← hT] at HSU hTp hTb
          have HW := (show Hid (∀ W, RowI W .u32 (some ⟨gb, off, none⟩) cap gb off (fs.take k) → Calls Try.prog 47 #[.slice (some ⟨gb, off, none⟩) k cap, .int .u64 (T : Int), .int .i64 (l : Int)] W fun e w' => e = .returned (.slice (some ⟨W.heap.size, 0, none⟩) k k) ∧ IsA w' W.heap.size 42 .i16 k (fun i => ((partF (fr (fs.take k)) T l i : Nat) : Int)) ∧ Keep noBlock W w') from fun W hW => by
            have := wholeParts_any (some ⟨gb, off, none⟩) cap gb off (fs.take k) l T W hW hut (by rw [hkl]; omega) (by omega) (by rw [hkl]; exact hT) hTp
            rwa [hkl] at this)
          have hpi := part_inv (fr (fs.take k)) T l k (by omega) (fun i hi => by rw [hT]; exact sumN_ge _ k i hi) hTp
          have HST := (show Hid (∀ W cb, RowI W .u32 (some ⟨gb, off, none⟩) cap gb off (fs.take k) → gb ≠ cb → IsA W cb 42 .i16 k (fun i => ((partF (fr (fs.take k)) T l i : Nat) : Int)) → Calls Try.prog 48 #[.slice (some ⟨cb, 0, none⟩) k k, .slice (some ⟨gb, off, none⟩) k cap, .int .i64 (S : Int)] W fun e w' => e = .returned (.tuple #[]) ∧ ∃ c : Nat → Nat, IsA w' cb 42 .i16 k (fun i => ((c i : Nat) : Int)) ∧ InvC (fr (fs.take k)) c k ∧ sumN c k = S ∧ Keep (fun k => k = cb) W w') from fun W cb hW hne hA => by
            have := settle_any cb S (partF (fr (fs.take k)) T l) (some ⟨gb, off, none⟩) cap gb off (fs.take k) W (by rw [hkl]; exact hA) hW (fun _ => hne) hut (by rw [hkl]; omega) (by rw [hkl]; exact hpi) (by rw [hkl]; omega) (by rw [hkl]; exact hUS) hSb
            rwa [hkl] at this)
          have HMR := (show Hid (∀ W cb (c : Nat → Nat), RowI W .u32 (some ⟨gb, off, none⟩) cap gb off (fs.take k) → gb ≠ cb → IsA W cb 42 .i16 k (fun i => ((c i : Nat) : Int)) → InvC (fr (fs.take k)) c k → Calls Try.prog 49 #[.slice (some ⟨cb, 0, none⟩) k k, .slice (some ⟨gb, off, none⟩) k cap, .int .u64 (T : Int), .int .i64 (l : Int)] W fun e w' => e = .returned (.tuple #[]) ∧ IsA w' cb 42 .i16 k (markF (fr (fs.take k)) c T l) ∧ Keep (fun k => k = cb) W w') from fun W cb c hW hne hA hI => by
            have := markRare_any cb c (some ⟨gb, off, none⟩) cap gb off (fs.take k) l T W (by rw [hkl]; exact hA) hW (fun _ => hne) hut (by rw [hkl]; omega) (by omega) (by omega) (fun i hi => (hI i (by omega)).2.2)
            rwa [hkl] at this)
          have hgbl := hRk.block (by intro e; rw [e] at hkl; simp at hkl; omega)
          have HFX := (show Hid (0 < fr (fs.take k) (k - 1) ∧ RowI w' .u32 (some ⟨gb, off, none⟩) cap gb off (fs.take k) ∧ gb < w'.heap.size ∧ k = m + 1) from ⟨hfp, hRk, hgbl, hm⟩)
          have hTI : (T : Int) ≤ 1099511627776 := by omega
          clear hR hu hRk hkl hut hus hsu hub hf1 hfp hT hTb hpi hgbl HAB hz hU1 hm
          generalize usedN (fr (fs.take k)) k = U at *
          generalize fr fs m = fm at *
          go_wp2_with (go_at_call 46; refine (HSU.out).mono ?_; rintro e w1 ⟨rfl, rfl⟩)
          refine (HW.out _ HFX.out.2.1).mono ?_
          rintro e w2 ⟨rfl, hA2, hK2⟩
          obtain ⟨cb, hcb⟩ : ∃ cb, cb = w1.heap.size := ⟨_, rfl⟩
          rw [← hcb] at hA2 ⊢
          have HCB := (show Hid (cb = w1.heap.size ∧ gb ≠ cb) from ⟨hcb, by have := HFX.out.2.2.1; omega⟩)
          have hR2 := HFX.out.2.1.keep hK2 (fun _ h => h)
          clear hcb
          go_wp2_with fail
          refine (HST.out w2 cb hR2 HCB.out.2 hA2).mono ?_
          rintro e w3 ⟨rfl, c, hA3, hI3, hS3, hK3⟩
          have hR3 := hR2.keep hK3 (fun _ => HCB.out.2)
          have HI := (show Hid (InvC (fr (fs.take k)) c k ∧ sumN c k = S) from ⟨hI3, hS3⟩)
          clear hS3
          go_wp2_with fail
          refine (HMR.out w3 cb c hR3 HCB.out.2 hA3 hI3).mono ?_
          rintro e w4 ⟨rfl, hA4, hK4⟩
          go_wp2_with fail
          go_ret2
          have hcbe := HCB.out.1
          have kk : Keep noBlock w1 w4 := (hK2.trans hK3 (fun i hi e => by omega)).trans hK4 (fun i hi e => by omega)
          have hol := outC_length (fr (fs.take k)) c T l k
          refine .inr ⟨HF.out, cb, outC (fr (fs.take k)) c T l k, by rw [hol]; rfl, ⟨.inl rfl, (fun e => by cases e), fun j hj => ?_, Nat.le_refl _⟩, ?_, fun i => ?_, by rw [hol]; omega, fun i hi => ?_, kk⟩
          · rw [hol] at hj
            rw [Nat.zero_add, hA4.cell j hj, outC_at _ _ _ _ _ _ hj]
          · exact out_ok _ _ _ _ _ hl5 hl12 hk0 (by omega) HI.out.1 HFX.out.1 (by rw [HI.out.2]; exact HSE.out)
          · by_cases hi : i < k
            · rw [outC_at _ _ _ _ _ _ hi]
              have := mark_bounds (fr (fs.take k)) c T l i (HI.out.1 i hi).2.2
              omega
            · rw [List.getElem?_eq_none (by omega)]; simp
          · rw [hol]
            by_cases hik : i < k
            · rw [outC_at _ _ _ _ _ _ hik, ← fr_take fs k i hik]
              have h1 := HI.out.1 i hik
              have h2 := mark_zero (fr (fs.take k)) c T l i
              constructor
              · intro h; exact ⟨hik, fun e => by have := h2.1 e; have := h1.1 h; omega⟩
              · rintro ⟨_, h⟩
                rcases Nat.eq_zero_or_pos (fr (fs.take k) i) with e | e
                · exact absurd (h2.2 (h1.2.1 e)) h
                · exact e
            · have h3 := HZ.out i (by omega) hi
              rw [h3]
              constructor
              · intro h; omega
              · rintro ⟨h, _⟩; exact absurd h hik
        · have hUSI : (S : Int) < ((usedN (fr (fs.take k)) k : Nat) : Int) := by omega
          have HF := (show Hid (ableF fs (l : Int) = false) from by rw [HAB.out]; exact decide_eq_false (fun h => hUS h.2))
          have hTI : ((sumN (fr (fs.take k)) k : Nat) : Int) ≤ 1099511627776 := by omega
          clear hR hu hRk hkl hut hus hsu hub hf1 hfp hTb HAB hz hU1 hm hTp
          generalize usedN (fr (fs.take k)) k = U at *
          generalize sumN (fr (fs.take k)) k = T at *
          generalize fr fs m = fm at *
          go_wp2_with (go_at_call 46; refine (HSU.out).mono ?_; rintro e w1 ⟨rfl, rfl⟩)
          go_ret2
          exact .inl ⟨HF.out, rfl, rfl⟩
end

end Go.Proofs.Ytoffnhbopjaocaa
