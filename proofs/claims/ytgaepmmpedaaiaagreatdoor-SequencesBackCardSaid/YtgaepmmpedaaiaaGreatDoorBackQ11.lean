/-
  Counts: counts that make a table, or ErrArg.
  Tables of states by their symbols alone: which state leads to which, as plain numbers.
  ahead: the state of a symbol from which a next one is come to.
  A region that draws its order and ends with a store into what it has read: loads may be taken first all the same, since the store waits for all of them.
  append, where its run is handed in; a row of uint16 of one's own that grows by one.
  statesOf: the states of each symbol, in rows of their own.
-/
import Derived.OrdersHeld
import Derived.RegionTactic
import Derived.Maps.AppendAt
import Derived.Test.YtgaepmmpedaaiaaGreatDoorBackQ6
import Derived.Test.YtgaepmmpedaaiaaGreatDoorBackQ7
import Derived.Test.YtgaepmmpedaaiaaGreatDoorBackQ9
import Derived.Test.YtgaepmmpedaaiaaGreatDoorBackQ10
namespace Go.Proofs.YtgaepmmpedaaiaaGreatDoor
open Go.RowKit Go.Shelf

theorem used_zero (f : Nat → Nat) (k n : Nat) (hk : k ≤ n) (h : ∀ j, k ≤ j → j < n → f j = 0) : usedC f n = usedC f k := by
  induction n with
  | zero => obtain rfl : k = 0 := by omega
            rfl
  | succ n ih =>
    by_cases e : k = n + 1
    · subst e; rfl
    · have h1 := ih (by omega) (fun j h1 h2 => h j h1 (by omega))
      have h2 := h n (by omega) (by omega)
      show usedC f n + (if 0 < f n then 1 else 0) = _
      rw [h1, h2]; simp
theorem fr_take (fs : List Int) (k i : Nat) (h : i < k) : fr (fs.take k) i = fr fs i := by
  unfold fr; rw [List.getElem?_take, if_pos h]
theorem used_take (fs : List Int) (k : Nat) (hk : k ≤ fs.length) (h : ∀ j, k ≤ j → j < fs.length → fr fs j = 0) : usedC (fr (fs.take k)) (fs.take k).length = usedC (fr fs) fs.length := by
  have e : (fs.take k).length = k := by rw [List.length_take]; omega
  rw [e, used_zero (fr fs) k fs.length hk h]
  exact sumN_congr _ _ k (fun i hi => by rw [fr_take fs k i hi])
theorem u32_take {fs : List Int} (h : U32 fs) (k : Nat) : U32 (fs.take k) := fun i => by
  rw [List.getElem?_take]
  split
  · exact h i
  · simp
theorem sum_pos (f : Nat → Nat) (n : Nat) (h : 0 < usedC f n) : 0 < sumN f n := by
  obtain ⟨j, hj, hf⟩ := some_there f n h
  have := sumN_ge f n j hj
  omega

/-- The counts as they come out. -/
def outC (f c : Nat → Nat) (T l n : Nat) : List Int := (List.range n).map (markF f c T l)
theorem outC_length (f c : Nat → Nat) (T l n : Nat) : (outC f c T l n).length = n := by simp [outC]
theorem outC_at (f c : Nat → Nat) (T l n i : Nat) (hi : i < n) : (outC f c T l n)[i]?.getD 0 = markF f c T l i := by
  unfold outC
  rw [List.getElem?_map, List.getElem?_range hi]; rfl
theorem mark_share (f c : Nat → Nat) (T l i : Nat) : shareN (markF f c T l i) = ((c i : Nat) : Int) := by
  unfold markF
  split
  · rename_i h; rw [h.1]; rfl
  · unfold shareN; rw [if_neg (by omega)]
theorem mark_zero (f c : Nat → Nat) (T l i : Nat) : markF f c T l i = 0 ↔ c i = 0 := by
  unfold markF
  split
  · rename_i h; rw [h.1]; simp
  · omega
theorem mark_bounds (f c : Nat → Nat) (T l i : Nat) (h : c i ≤ 4096) : -1 ≤ markF f c T l i ∧ markF f c T l i ≤ 4096 := by
  unfold markF; split <;> omega
theorem out_sum (f c : Nat → Nat) (T l n m : Nat) (hm : m ≤ n) : sumS (outC f c T l n) m = ((sumN c m : Nat) : Int) := by
  induction m with
  | zero => rfl
  | succ m ih => simp only [sumS, sumN]; rw [ih (by omega), outC_at f c T l n m (by omega), mark_share]; omega
theorem out_ok (f c : Nat → Nat) (T l n : Nat) (hl5 : 5 ≤ l) (hl12 : l ≤ 12) (hn : n ≠ 0) (hn2 : n ≤ 256) (hI : InvC f c n) (hlast : 0 < f (n - 1)) (hs : sumN c n = 2 ^ l) : okT (outC f c T l n) (l : Int) = true := by
  unfold okT
  refine decide_eq_true ⟨by omega, by omega, by rw [outC_length]; exact hn, by rw [outC_length]; exact hn2, ?_, fun i hi => ?_, ?_⟩
  · rw [outC_length, outC_at f c T l n (n - 1) (by omega)]
    intro e
    have h1 := (mark_zero f c T l (n - 1)).1 e
    have h2 := (hI (n - 1) (by omega)).1 hlast
    omega
  · rw [outC_length] at hi
    rw [outC_at f c T l n i hi]
    exact (mark_bounds f c T l i (hI i hi).2.2).1
  · rw [outC_length, out_sum f c T l n n (Nat.le_refl _), hs, Int.toNat_natCast]; simp

/-- What Counts gives. -/
def IsCounts (fs : List Int) (l : Nat) (w : World) (e : Ending) (w' : World) : Prop :=
  (ableF fs (l : Int) = false ∧ e = .returned (.tuple #[.slice none 0 0, .int .i64 2]) ∧ w' = w) ∨
  (ableF fs (l : Int) = true ∧ ∃ (cb : Nat) (xs : List Int), e = .returned (.tuple #[.slice (some ⟨cb, 0, none⟩) xs.length xs.length, .int .i64 0]) ∧ RowI w' .i16 (some ⟨cb, 0, none⟩) xs.length cb 0 xs ∧ okT xs (l : Int) = true ∧ I16 xs ∧ xs.length ≤ fs.length ∧
    (∀ i, i < fs.length → (0 < fr fs i ↔ (i < xs.length ∧ xs[i]?.getD 0 ≠ 0))) ∧ Keep noBlock w w')

section
attribute [local go_sem] sliceSem_eq
set_option maxRecDepth 100000 in
set_option maxHeartbeats 4000000 in
theorem counts_in (a : Option Addr) (cap gb off : Nat) (fs : List Int) (l : Nat) (w : World) (hR : RowI w .u32 a cap gb off fs) (hu : U32 fs) (hl : fs.length ≤ 256) (hl5 : 5 ≤ l) (hl12 : l ≤ 12) :
    Calls Tryz.prog 81 #[.slice a fs.length cap, .int .i64 (l : Int)] w fun e w' => IsCounts fs l w e w' := by
  have hd : decide (5 ≤ (l : Int) ∧ (l : Int) ≤ 12) = true := decide_eq_true ⟨by omega, by omega⟩
  have HIL := (show Hid (∀ w : World, Calls Tryz.prog 98 #[.int .i64 (l : Int)] w fun e w' => e = .returned (.bool true) ∧ w' = w) from fun w => by have := isLog_any (l : Int) w; rwa [hd] at this)
  have hlI : ¬ (256 : Int) < (fs.length : Int) := by omega
  have HH := (show Hid (RowI w .u32 a cap gb off fs ∧ U32 fs) from ⟨hR, hu⟩)
  have hSb : 2 ^ l ≤ 4096 := Nat.pow_le_pow_right (n := 2) (j := 12) (by omega) hl12
  have hp : (2 : Int) ^ l = ((2 ^ l : Nat) : Int) := by simp
  obtain ⟨S, hS⟩ : ∃ S, S = 2 ^ l := ⟨_, rfl⟩
  rw [← hS] at hSb hp
  have HSE := (show Hid (S = 2 ^ l) from hS)
  have hSI : (S : Int) ≤ 4096 := by omega
  have hllI : (l : Int) ≤ 12 := by omega
  obtain ⟨n, hn⟩ : ∃ n, n = fs.length := ⟨_, rfl⟩
  rw [← hn] at hl hlI ⊢
  have HN := (show Hid (n = fs.length) from hn)
  have hnI : (n : Int) ≤ 256 := by omega
  clear hR hu hd hn hS
  go_enter Tryz.func81, Tryz.ntmps81
  go_wp2_with (go_at_call 98; refine (HIL.out _).mono ?_; rintro e w' ⟨rfl, rfl⟩)
  go_loop [0] (fun v0 => ∃ k : Nat, v0 = .slice a k cap ∧ k ≤ n ∧ Hid (∀ j, k ≤ j → j < fs.length → fr fs j = 0)) (fun v0 => sliceLen v0)
  case atStart => exact ⟨n, rfl, Nat.le_refl _, fun j h1 h2 => by have := HN.out; omega⟩
  case round =>
    obtain ⟨k, rfl, hk, HZ⟩ := hrel
    by_cases hz : 0 < k ∧ fr fs (k - 1) = 0
    · obtain ⟨hk0, hf0⟩ := hz
      obtain ⟨m, hm⟩ : ∃ m, k = m + 1 := ⟨k - 1, by omega⟩
      have hix : m < fs.length := by have := HN.out; omega
      obtain ⟨hR, hu⟩ := HH.out
      obtain rfl := hR.here hix
      have c0 := hR.fr hu m hix
      rw [show k - 1 = m from by omega] at hf0
      have HZ2 := (show Hid (∀ j, m ≤ j → j < fs.length → fr fs j = 0) from fun j h1 h2 => by
        by_cases e : j = m
        · subst e; exact hf0
        · exact HZ.out j (by omega) h2)
      rw [hf0] at c0
      have hsl := fun W => run_high (t := 161) Tryz.underlying161 info41 (some ⟨gb, off, none⟩) k cap m (by have := hR.le; omega) W
      have hk0I : 0 < (k : Int) := by omega
      have hkmI : (k : Int) - 1 = (m : Int) := by omega
      have hkb : (k : Int) ≤ 256 := by omega
      have hmk : (m : Int) < (k : Int) := by omega
      have HM := (show Hid (k = m + 1) from hm)
      clear hR hu hf0 hm
      rw [show ((0 : Nat) : Int) = (0 : Int) from rfl] at c0
      go_wp2_with fail
      go_round
      case rel => exact ⟨m, rfl, by have := HM.out; omega, HZ2⟩
      case measure => have := HM.out; simp [sliceLen]; omega
    · obtain ⟨hR, hu⟩ := HH.out
      have hnf := HN.out
      obtain ⟨-, hRk⟩ := hR.take Tryz.underlying161 info41 k (by omega)
      have hkl : (fs.take k).length = k := by rw [List.length_take]; omega
      have hut := u32_take hu k
      have hus := used_take fs k (by omega) HZ.out
      have hsu := sumOf_any a cap gb off (fs.take k) w' hRk hut (by rw [hkl]; omega)
      rw [hkl] at hsu hus
      have HAB := (show Hid (ableF fs (l : Int) = decide (1 ≤ usedC (fr (fs.take k)) k ∧ usedC (fr (fs.take k)) k ≤ S)) from by
        unfold ableF
        rw [Bool.eq_iff_iff, decide_eq_true_iff, decide_eq_true_iff, Int.toNat_natCast, hus, HSE.out]
        exact ⟨fun h => h.2.2.2, fun h => ⟨by omega, by omega, by omega, h⟩⟩)
      have HSU := (show Hid (Calls Tryz.prog 103 _ w' _) from hsu)
      have hub := usedN_le (fr (fs.take k)) k
      have huI : ((usedC (fr (fs.take k)) k : Nat) : Int) ≤ 256 := by omega
      by_cases hk0 : k = 0
      · subst hk0
        have hU0 : usedC (fr (fs.take 0)) 0 = 0 := rfl
        have hT0 : sumN (fr (fs.take 0)) 0 = 0 := rfl
        rw [hU0, hT0] at HSU
        have HF := (show Hid (ableF fs (l : Int) = false) from by rw [HAB.out, hU0]; rfl)
        clear hR hu hnf hRk hkl hut hus hsu hub huI hU0 hT0 HAB hz
        rw [show ((0 : Nat) : Int) = (0 : Int) from rfl] at HSU
        go_wp2_with (go_at_call 103; refine (HSU.out).mono ?_; rintro e w1 ⟨rfl, rfl⟩)
        go_ret2
        exact .inl ⟨HF.out, rfl, rfl⟩
      · have hf1 : fr fs (k - 1) ≠ 0 := fun e => hz ⟨by omega, e⟩
        obtain ⟨m, hm⟩ : ∃ m, k = m + 1 := ⟨k - 1, by omega⟩
        have hix : m < fs.length := by omega
        obtain rfl := hR.here hix
        have c0 := hR.fr hu m hix
        rw [show k - 1 = m from by omega] at hf1
        have hfp : 0 < fr (fs.take k) (k - 1) := by rw [fr_take fs k (k - 1) (by omega), show k - 1 = m from by omega]; omega
        have hU1 : 1 ≤ usedC (fr (fs.take k)) k := by
          have := sumN_ge (fun i => if 0 < fr (fs.take k) i then 1 else 0) k (k - 1) (by omega)
          rw [if_pos hfp] at this
          exact this
        have hk0I : 0 < (k : Int) := by omega
        have hkmI : (k : Int) - 1 = (m : Int) := by omega
        have hkb : (k : Int) ≤ 256 := by omega
        have hmk : (m : Int) < (k : Int) := by omega
        have hfb : (((fr fs m : Nat) : Int) == 0) = false := by rw [beq_eq_false_iff_ne]; omega
        have hTp := sum_pos (fr (fs.take k)) k (by omega)
        have hTb : sumN (fr (fs.take k)) k ≤ 256 * 4294967296 := Nat.le_trans (sumN_le _ k 4294967296 (fun j _ => by have := fr_lt hut j; omega)) (Nat.mul_le_mul_right _ (by omega))
        have hU1b : (((usedC (fr (fs.take k)) k : Nat) : Int) == 0) = false := by rw [beq_eq_false_iff_ne]; omega
        by_cases hUS : usedC (fr (fs.take k)) k ≤ S
        · have hUSI : ¬ (S : Int) < ((usedC (fr (fs.take k)) k : Nat) : Int) := by omega
          have HF := (show Hid (ableF fs (l : Int) = true) from by rw [HAB.out]; exact decide_eq_true ⟨hU1, hUS⟩)
          obtain ⟨T, hT⟩ : ∃ T, T = sumN (fr (fs.take k)) k := ⟨_, rfl⟩
          rw [← hT] at HSU hTp hTb
          have HW := (show Hid (∀ W, RowI W .u32 (some ⟨gb, off, none⟩) cap gb off (fs.take k) → Calls Tryz.prog 104 #[.slice (some ⟨gb, off, none⟩) k cap, .int .u64 (T : Int), .int .i64 (l : Int)] W fun e w' => e = .returned (.slice (some ⟨W.heap.size, 0, none⟩) k k) ∧ IsA w' W.heap.size 89 .i16 k (fun i => ((partF (fr (fs.take k)) T l i : Nat) : Int)) ∧ Keep noBlock W w') from fun W hW => by
            have := wholeParts_any (some ⟨gb, off, none⟩) cap gb off (fs.take k) l T W hW hut (by rw [hkl]; omega) (by omega) (by rw [hkl]; exact hT) hTp
            rwa [hkl] at this)
          have hpi := part_inv (fr (fs.take k)) T l k (by omega) (fun i hi => by rw [hT]; exact sumN_ge _ k i hi) hTp
          have HST := (show Hid (∀ W cb, RowI W .u32 (some ⟨gb, off, none⟩) cap gb off (fs.take k) → gb ≠ cb → IsA W cb 89 .i16 k (fun i => ((partF (fr (fs.take k)) T l i : Nat) : Int)) → Calls Tryz.prog 105 #[.slice (some ⟨cb, 0, none⟩) k k, .slice (some ⟨gb, off, none⟩) k cap, .int .i64 (S : Int)] W fun e w' => e = .returned (.tuple #[]) ∧ ∃ c : Nat → Nat, IsA w' cb 89 .i16 k (fun i => ((c i : Nat) : Int)) ∧ InvC (fr (fs.take k)) c k ∧ sumN c k = S ∧ Keep (fun k => k = cb) W w') from fun W cb hW hne hA => by
            have := settle_any cb S (partF (fr (fs.take k)) T l) (some ⟨gb, off, none⟩) cap gb off (fs.take k) W (by rw [hkl]; exact hA) hW (fun _ => hne) hut (by rw [hkl]; omega) (by rw [hkl]; exact hpi) (by rw [hkl]; omega) (by rw [hkl]; exact hUS) hSb
            rwa [hkl] at this)
          have HMR := (show Hid (∀ W cb (c : Nat → Nat), RowI W .u32 (some ⟨gb, off, none⟩) cap gb off (fs.take k) → gb ≠ cb → IsA W cb 89 .i16 k (fun i => ((c i : Nat) : Int)) → InvC (fr (fs.take k)) c k → Calls Tryz.prog 106 #[.slice (some ⟨cb, 0, none⟩) k k, .slice (some ⟨gb, off, none⟩) k cap, .int .u64 (T : Int), .int .i64 (l : Int)] W fun e w' => e = .returned (.tuple #[]) ∧ IsA w' cb 89 .i16 k (markF (fr (fs.take k)) c T l) ∧ Keep (fun k => k = cb) W w') from fun W cb c hW hne hA hI => by
            have := markRare_any cb c (some ⟨gb, off, none⟩) cap gb off (fs.take k) l T W (by rw [hkl]; exact hA) hW (fun _ => hne) hut (by rw [hkl]; omega) (by omega) (by omega) (fun i hi => (hI i (by omega)).2.2)
            rwa [hkl] at this)
          have hgbl := hRk.block (by intro e; rw [e] at hkl; simp at hkl; omega)
          have HFX := (show Hid (0 < fr (fs.take k) (k - 1) ∧ RowI w' .u32 (some ⟨gb, off, none⟩) cap gb off (fs.take k) ∧ gb < w'.heap.size ∧ k = m + 1) from ⟨hfp, hRk, hgbl, hm⟩)
          have hTI : (T : Int) ≤ 1099511627776 := by omega
          clear hR hu hRk hkl hut hus hsu hub hf1 hfp hT hTb hpi hgbl HAB hz hU1 hm
          generalize usedC (fr (fs.take k)) k = U at *
          generalize fr fs m = fm at *
          go_wp2_with (go_at_call 103; refine (HSU.out).mono ?_; rintro e w1 ⟨rfl, rfl⟩)
          refine (HW.out _ HFX.out.2.1).mono ?_
          rintro e w2 ⟨rfl, hA2, hK2⟩
          obtain ⟨cb, hcb⟩ : ∃ cb, cb = w1.heap.size := ⟨_, rfl⟩
          rw [← hcb] at hA2 ⊢
          have HCB := (show Hid (cb = w1.heap.size ∧ gb ≠ cb) from ⟨hcb, by have := HFX.out.2.2.1; omega⟩)
          have hR2 := HFX.out.2.1.keep hK2 (fun _ h => h)
          clear hcb
          go_wp2_with fail
          refine (HST.out w2 cb hR2 HCB.out.2 hA2).mono ?_
          rintro e w3 ⟨rfl, c, hA3, hI3, hS3, hK3⟩
          have hR3 := hR2.keep hK3 (fun _ => HCB.out.2)
          have HI := (show Hid (InvC (fr (fs.take k)) c k ∧ sumN c k = S) from ⟨hI3, hS3⟩)
          clear hS3
          go_wp2_with fail
          refine (HMR.out w3 cb c hR3 HCB.out.2 hA3 hI3).mono ?_
          rintro e w4 ⟨rfl, hA4, hK4⟩
          go_wp2_with fail
          go_ret2
          have hcbe := HCB.out.1
          have kk : Keep noBlock w1 w4 := (hK2.trans hK3 (fun i hi e => by omega)).trans hK4 (fun i hi e => by omega)
          have hol := outC_length (fr (fs.take k)) c T l k
          refine .inr ⟨HF.out, cb, outC (fr (fs.take k)) c T l k, by rw [hol]; rfl, ⟨.inl rfl, (fun e => by cases e), fun j hj => ?_, Nat.le_refl _⟩, ?_, fun i => ?_, by rw [hol]; omega, fun i hi => ?_, kk⟩
          · rw [hol] at hj
            rw [Nat.zero_add, hA4.cell j hj, outC_at _ _ _ _ _ _ hj]
          · exact out_ok _ _ _ _ _ hl5 hl12 hk0 (by omega) HI.out.1 HFX.out.1 (by rw [HI.out.2]; exact HSE.out)
          · by_cases hi : i < k
            · rw [outC_at _ _ _ _ _ _ hi]
              have := mark_bounds (fr (fs.take k)) c T l i (HI.out.1 i hi).2.2
              omega
            · rw [List.getElem?_eq_none (by omega)]; simp
          · rw [hol]
            by_cases hik : i < k
            · rw [outC_at _ _ _ _ _ _ hik, ← fr_take fs k i hik]
              have h1 := HI.out.1 i hik
              have h2 := mark_zero (fr (fs.take k)) c T l i
              constructor
              · intro h; exact ⟨hik, fun e => by have := h2.1 e; have := h1.1 h; omega⟩
              · rintro ⟨_, h⟩
                rcases Nat.eq_zero_or_pos (fr (fs.take k) i) with e | e
                · exact absurd (h2.2 (h1.2.1 e)) h
                · exact e
            · have h3 := HZ.out i (by omega) hi
              rw [h3]
              constructor
              · intro h; omega
              · rintro ⟨h, _⟩; exact absurd h hik
        · have hUSI : (S : Int) < ((usedC (fr (fs.take k)) k : Nat) : Int) := by omega
          have HF := (show Hid (ableF fs (l : Int) = false) from by rw [HAB.out]; exact decide_eq_false (fun h => hUS h.2))
          have hTI : ((sumN (fr (fs.take k)) k : Nat) : Int) ≤ 1099511627776 := by omega
          clear hR hu hRk hkl hut hus hsu hub hf1 hfp hTb HAB hz hU1 hm hTp
          generalize usedC (fr (fs.take k)) k = U at *
          generalize sumN (fr (fs.take k)) k = T at *
          generalize fr fs m = fm at *
          go_wp2_with (go_at_call 103; refine (HSU.out).mono ?_; rintro e w1 ⟨rfl, rfl⟩)
          go_ret2
          exact .inl ⟨HF.out, rfl, rfl⟩
end

end Go.Proofs.YtgaepmmpedaaiaaGreatDoor

namespace Go.Proofs.YtgaepmmpedaaiaaGreatDoor
open Go.RowKit Go.Shelf
set_option linter.unusedVariables false

/-- How many of the first n states have symbol s. -/
def cntY (sy : Nat → Nat) (s n : Nat) : Nat := cntP (fun j => decide (sy j = s)) n
/-- The number x of a state (chapter 7). -/
def xOf (sy : Nat → Nat) (n i : Nat) : Nat := cntY sy (sy i) n + cntY sy (sy i) i
/-- Cells are as chapter 7 reckons them from the states' symbols. -/
def XT (sy bi ba : Nat → Nat) (l : Nat) : Prop := ∀ i, i < 2 ^ l → bi i = bitF l (xOf sy (2 ^ l) i) ∧ ba i = baseF l (xOf sy (2 ^ l) i)
theorem tab_xt {xs : List Int} {l : Nat} (h : Tab xs (2 ^ l)) : XT (symF xs (2 ^ l)) (fun i => bitF l (xF xs (2 ^ l) i)) (fun i => baseF l (xF xs (2 ^ l) i)) l := fun i hi => by
  obtain ⟨c, h1, h2, h3, h4, h5⟩ := h.x i hi
  have hc := h.cnt (symF xs (2 ^ l) i) (h.symF i hi).2.1
  rw [h1] at hc
  have e : xF xs (2 ^ l) i = xOf (symF xs (2 ^ l)) (2 ^ l) i := by
    rw [h5]
    unfold xOf cntY
    have : cntP (fun j => decide (symF xs (2 ^ l) j = symF xs (2 ^ l) i)) (2 ^ l) = c := by exact_mod_cast hc
    rw [this]
    rfl
  exact ⟨congrArg (bitF l) e, congrArg (baseF l) e⟩
theorem alone_xt (c : Nat) : XT (fun _ => c) (fun _ => 0) (fun _ => 0) 0 := fun i hi => by
  obtain rfl : i = 0 := by simpa using hi
  have e : xOf (fun _ => c) (2 ^ 0) 0 = 1 := by simp [xOf, cntY, cntP]
  rw [e]
  exact ⟨rfl, rfl⟩
/-- The number that leads to a next state, among c to 2 c - 1. -/
def aheadB (l c nx : Nat) : Nat := if (nx + 2 ^ l) / 2 ^ (l + 1 - lenN c) < c then l + 1 - lenN c - 1 else l + 1 - lenN c
def aheadX (l c nx : Nat) : Nat := (nx + 2 ^ l) / 2 ^ aheadB l c nx
theorem ahead_math (l c nx : Nat) (h1 : 1 ≤ c) (h2 : c ≤ 2 ^ l) (hn : nx < 2 ^ l) : c ≤ aheadX l c nx ∧ aheadX l c nx < 2 * c ∧ bitF l (aheadX l c nx) = aheadB l c nx ∧ baseF l (aheadX l c nx) ≤ nx ∧ nx < baseF l (aheadX l c nx) + 2 ^ bitF l (aheadX l c nx) := by
  obtain ⟨k1, k2, k3⟩ := lenN_pos c (by omega)
  have hp : 2 ^ (l + 1) = 2 * 2 ^ l := by rw [Nat.pow_succ]; omega
  have hkl : lenN c ≤ l + 1 := lenN_le c (l + 1) (by omega)
  obtain ⟨k, hk⟩ : ∃ k, k = lenN c := ⟨_, rfl⟩
  obtain ⟨y, hy⟩ : ∃ y, y = nx + 2 ^ l := ⟨_, rfl⟩
  have hly : lenN y = l + 1 := lenN_eq _ l (by omega) (by omega)
  have key : ∀ b, y / 2 ^ b ≠ 0 → c ≤ y / 2 ^ b → y / 2 ^ b < 2 * c → c ≤ y / 2 ^ b ∧ y / 2 ^ b < 2 * c ∧ bitF l (y / 2 ^ b) = b ∧ baseF l (y / 2 ^ b) ≤ nx ∧ nx < baseF l (y / 2 ^ b) + 2 ^ bitF l (y / 2 ^ b) := fun b h0 h3 h4 => by
    have hlx := lenN_div y b h0
    have hx1 := lenN_pos (y / 2 ^ b) h0
    have eb : bitF l (y / 2 ^ b) = b := by unfold bitF; omega
    refine ⟨h3, h4, eb, ?_, ?_⟩
    · unfold baseF; rw [eb]
      have := Nat.div_mul_le_self y (2 ^ b)
      omega
    · unfold baseF; rw [eb]
      have hd := Nat.div_add_mod y (2 ^ b)
      have hm := Nat.mod_lt y (Nat.pow_pos (n := b) (show 0 < 2 by omega))
      rw [Nat.mul_comm] at hd
      omega
  have hb0 : 2 ^ (l + 1 - k) ≤ 2 ^ l := Nat.pow_le_pow_right (by omega) (by omega)
  have hx0 : y / 2 ^ (l + 1 - k) ≠ 0 := by
    have := (Nat.le_div_iff_mul_le (Nat.pow_pos (n := l + 1 - k) (show 0 < 2 by omega)) (x := 1) (y := y)).2 (by omega)
    omega
  have hl0 := lenN_div y (l + 1 - k) hx0
  obtain ⟨m1, m2, m3⟩ := lenN_pos _ hx0
  have e0 : lenN (y / 2 ^ (l + 1 - k)) = k := by omega
  rw [e0] at m1 m2
  rw [← hk] at k1 k2
  have hkk : 2 ^ k = 2 * 2 ^ (k - 1) := by
    rw [show k = k - 1 + 1 from by omega, Nat.pow_succ]
    simp
    omega
  unfold aheadX aheadB
  rw [← hy, ← hk]
  by_cases hc : y / 2 ^ (l + 1 - k) < c
  · rw [if_pos hc]
    have hb1 : l + 1 - k ≠ 0 := fun e => by
      rw [e] at hc
      simp at hc
      omega
    have hdd : y / 2 ^ (l + 1 - k) = y / 2 ^ (l + 1 - k - 1) / 2 := by
      rw [Nat.div_div_eq_div_mul, ← Nat.pow_succ]
      congr 2
      omega
    exact key _ (by omega) (by omega) (by omega)
  · rw [if_neg hc]
    exact key _ hx0 (by omega) (by omega)
/-- The states of a symbol, from the least on. -/
def ownL (sy : Nat → Nat) (s n : Nat) : List Nat := (List.range n).filter (fun i => decide (sy i = s))
theorem ownL_succ (sy : Nat → Nat) (s n : Nat) : ownL sy s (n + 1) = ownL sy s n ++ (if sy n = s then [n] else []) := by
  unfold ownL
  rw [List.range_succ, List.filter_append]
  congr 1
  by_cases h : sy n = s <;> simp [h]
theorem ownL_length (sy : Nat → Nat) (s n : Nat) : (ownL sy s n).length = cntY sy s n := by
  induction n with
  | zero => rfl
  | succ n ih =>
    rw [ownL_succ, List.length_append, ih]
    unfold cntY
    show _ = (cntP _ n + if _ then 1 else 0)
    by_cases h : sy n = s <;> simp [h]
/-- State number j of a symbol. -/
theorem ownL_at (sy : Nat → Nat) (s n i : Nat) (hi : i < n) (hs : sy i = s) : (ownL sy s n)[cntY sy s i]? = some i := by
  induction n with
  | zero => omega
  | succ n ih =>
    rw [ownL_succ]
    by_cases e : i = n
    · subst e
      rw [if_pos hs, List.getElem?_append_right (by rw [ownL_length]; exact Nat.le_refl _), ownL_length, Nat.sub_self]
      rfl
    · have := ih (by omega)
      rw [List.getElem?_append_left (List.getElem?_eq_some_iff.1 this).1]
      exact this
/-- The state of a symbol that leads to a next one. -/
theorem lead_at (sy bi ba : Nat → Nat) (l s nx : Nat) (hX : XT sy bi ba l) (hc : 1 ≤ cntY sy s (2 ^ l)) (hn : nx < 2 ^ l) :
    ∃ i, i < 2 ^ l ∧ sy i = s ∧ (ownL sy s (2 ^ l))[aheadX l (cntY sy s (2 ^ l)) nx - cntY sy s (2 ^ l)]? = some i ∧ ba i ≤ nx ∧ nx < ba i + 2 ^ bi i := by
  have hle : cntY sy s (2 ^ l) ≤ 2 ^ l := cntP_le _ _
  obtain ⟨h1, h2, h3, h4, h5⟩ := ahead_math l (cntY sy s (2 ^ l)) nx hc hle hn
  obtain ⟨i, i1, i2, i3⟩ := cntP_find (fun j => decide (sy j = s)) (2 ^ l) (aheadX l (cntY sy s (2 ^ l)) nx - cntY sy s (2 ^ l)) (by unfold cntY at *; omega)
  have hs : sy i = s := by simpa using i2
  have hx : xOf sy (2 ^ l) i = aheadX l (cntY sy s (2 ^ l)) nx := by
    unfold xOf
    rw [hs]
    have : cntY sy s i = aheadX l (cntY sy s (2 ^ l)) nx - cntY sy s (2 ^ l) := i3
    omega
  obtain ⟨x1, x2⟩ := hX i i1
  refine ⟨i, i1, hs, ?_, ?_, ?_⟩
  · rw [← i3]
    exact ownL_at sy s (2 ^ l) i i1 hs
  · rw [x2, hx]; exact h4
  · rw [x1, x2, hx]; exact h5
end Go.Proofs.YtgaepmmpedaaiaaGreatDoor

namespace Go.Proofs.YtgaepmmpedaaiaaGreatDoor
open Go.RowKit Go.Shelf
set_option linter.unusedVariables false

/-- A slice of uint16 from a block's beginning on. -/
structure RowU (w : World) (a : Option Addr) (gb : Nat) (xs : List Nat) : Prop where
  at_ : a = some ⟨gb, 0, none⟩ ∨ xs = []
  cells : ∀ j, j < xs.length → w.cell? ⟨gb, j, none⟩ = some (.int .u16 ((xs[j]?.getD 0 : Nat) : Int))
theorem RowU.block {w : World} {a : Option Addr} {gb : Nat} {xs : List Nat} (h : RowU w a gb xs) (hx : xs ≠ []) : gb < w.heap.size := World.block_lt_of_cell? w ⟨gb, 0, none⟩ (h.cells 0 (List.length_pos_iff.2 hx))
theorem RowU.keep {w w' : World} {S : Nat → Prop} {a : Option Addr} {gb : Nat} {xs : List Nat} (h : RowU w a gb xs) (hk : Keep S w w') (hS : xs ≠ [] → ¬ S gb) : RowU w' a gb xs :=
  ⟨h.at_, fun j hj => (World.cell?_of_block (hk.block gb (h.block (fun e => by rw [e] at hj; simp at hj)) (hS (fun e => by rw [e] at hj; simp at hj)))).trans (h.cells j hj)⟩

theorem bits0_le (l c : Nat) : l + 1 - lenN c ≤ l + 1 := by omega
set_option maxHeartbeats 2000000 in
theorem ahead_at (a : Option Addr) (cap gb l nx i : Nat) (sy bi ba : Nat → Nat) (s : Nat) (w : World) (hl : l ≤ 12) (hn : nx < 2 ^ l) (hc : 1 ≤ cntY sy s (2 ^ l)) (hR : RowU w a gb (ownL sy s (2 ^ l))) (i3 : (ownL sy s (2 ^ l))[aheadX l (cntY sy s (2 ^ l)) nx - cntY sy s (2 ^ l)]? = some i) :
    Calls Tryz.prog 90 #[.slice a (cntY sy s (2 ^ l)) cap, .int .i64 (l : Int), .int .u16 (nx : Int)] w fun e w' => e = .returned (.int .u16 (i : Int)) ∧ w' = w := by
  have hle : cntY sy s (2 ^ l) ≤ 2 ^ l := cntP_le _ _
  obtain ⟨m1, m2, -, -, -⟩ := ahead_math l (cntY sy s (2 ^ l)) nx hc hle hn
  have hlen := ownL_length sy s (2 ^ l)
  have hp12 := pow12 hl
  obtain ⟨c, hcc⟩ : ∃ c, c = cntY sy s (2 ^ l) := ⟨_, rfl⟩
  rw [← hcc] at m1 m2 i3 hlen hle hc ⊢
  have hcl : aheadX l c nx - c < c := by omega
  have hc1 := hR.cells (aheadX l c nx - c) (by omega)
  rw [i3] at hc1
  obtain rfl := hR.at_.resolve_right (fun e => by rw [e] at hlen; simp at hlen; omega)
  have hk := lenN_pos c (by omega)
  have hkl : lenN c ≤ l + 1 := lenN_le c (l + 1) (by rw [Nat.pow_succ]; omega)
  have HL := hid (len_any c (by omega) w)
  have hX1 : aheadX l c nx = (nx + 2 ^ l) / 2 ^ aheadB l c nx := rfl
  have hB1 : aheadB l c nx = if (nx + 2 ^ l) / 2 ^ (l + 1 - lenN c) < c then l + 1 - lenN c - 1 else l + 1 - lenN c := rfl
  obtain ⟨k, hk2⟩ : ∃ k, k = lenN c := ⟨_, rfl⟩
  rw [← hk2] at HL hk hkl hB1
  obtain ⟨S, hS⟩ : ∃ S, S = 2 ^ l := ⟨_, rfl⟩
  rw [← hS] at hB1 hX1 hp12 hle hn
  have hSI : (2 : Int) ^ l = (S : Int) := by rw [hS]; simp
  obtain ⟨t, ht⟩ : ∃ t, t = nx + S := ⟨_, rfl⟩
  rw [← ht] at hB1 hX1
  have htI : (nx : Int) + (S : Int) = (t : Int) := by omega
  obtain ⟨b0, hb0⟩ : ∃ b0, b0 = l + 1 - k := ⟨_, rfl⟩
  rw [← hb0] at hB1
  have hkI : (k : Int) ≤ 13 := by omega
  have hkI0 : (1 : Int) ≤ (k : Int) := by omega
  have hcI : (c : Int) ≤ 4096 := by omega
  have hwc : IntKind.u64.wrap (c : Int) = (c : Int) := by rw [IntKind.wrap_u64]; omega
  have hnI : (nx : Int) < 4096 := by omega
  have hwn : IntKind.i64.wrap (nx : Int) = (nx : Int) := by rw [IntKind.wrap_i64]; omega
  have hlI : (l : Int) ≤ 12 := by omega
  have hSb : (S : Int) ≤ 4096 := by omega
  have htb : (t : Int) < 8192 := by omega
  obtain ⟨k1, hk1⟩ : ∃ k1, k1 = k - 1 := ⟨_, rfl⟩
  have hk1I : (k : Int) - 1 = (k1 : Int) := by omega
  have hb0I : (l : Int) - (k1 : Int) = (b0 : Int) := by omega
  have hb0b : (b0 : Int) ≤ 12 := by omega
  have HH := (show Hid (aheadX l c nx = t / 2 ^ aheadB l c nx ∧ (aheadB l c nx = if t / 2 ^ b0 < c then b0 - 1 else b0) ∧ c ≤ aheadX l c nx ∧ aheadX l c nx < 2 * c ∧ S = 2 ^ l ∧ t = nx + S ∧ c ≤ S) from ⟨hX1, hB1, m1, m2, hS, ht, hle⟩)
  clear i3 hR hlen hcc hX1 hB1 m1 m2 hS ht hb0 hk1 hk hkl hk2 hp12 hle hcl hn hc hl
  obtain ⟨d, hd⟩ : ∃ d, d = aheadX l c nx - c := ⟨_, rfl⟩
  rw [← hd] at hc1
  obtain ⟨x0, hx0⟩ : ∃ x0, x0 = t / 2 ^ b0 := ⟨_, rfl⟩
  have hx0I : (t : Int) / 2 ^ b0 = (x0 : Int) := by rw [hx0]; simp
  have hx0b : (x0 : Int) < 8192 := by
    have := Nat.div_le_self t (2 ^ b0)
    omega
  by_cases hlt : x0 < c
  · have hltI : decide ((x0 : Int) < (c : Int)) = true := decide_eq_true (by omega)
    have hltN : decide (x0 < c) = true := decide_eq_true hlt
    obtain ⟨q1, q2, q3, q4, q5, q6, q7⟩ := HH.out
    rw [← hx0, if_pos hlt] at q2
    have hb1 : b0 ≠ 0 := fun e => by
      rw [e] at hx0
      simp at hx0
      omega
    obtain ⟨b1, hb1e⟩ : ∃ b1, b1 = b0 - 1 := ⟨_, rfl⟩
    rw [q2, ← hb1e] at q1
    have hb1I : (b0 : Int) - 1 = (b1 : Int) := by omega
    have hb1b : (b1 : Int) ≤ 12 := by omega
    obtain ⟨x1, hx1⟩ : ∃ x1, x1 = t / 2 ^ b1 := ⟨_, rfl⟩
    have hx1I : (t : Int) / 2 ^ b1 = (x1 : Int) := by rw [hx1]; simp
    have hx1b : (x1 : Int) < 8192 := by
      have := Nat.div_le_self t (2 ^ b1)
      omega
    have hdI : (x1 : Int) - (c : Int) = (d : Int) := by omega
    have hdc : d < c := by omega
    have hdcI : (d : Int) < (c : Int) := by omega
    clear q1 q2 q3 q4 q5 q6 q7 HH hd hx0 hx1 hb1 hb1e hlt
    go_enter Tryz.func90, Tryz.ntmps90
    go_wp2_with fail
    refine HL.out.mono ?_
    rintro e w' ⟨rfl, rfl⟩
    go_wp2_with fail
    go_ret
    exact ⟨rfl, rfl⟩
  · have hltI : decide ((x0 : Int) < (c : Int)) = false := decide_eq_false (by omega)
    have hltN : decide (x0 < c) = false := decide_eq_false hlt
    obtain ⟨q1, q2, q3, q4, q5, q6, q7⟩ := HH.out
    rw [← hx0, if_neg hlt] at q2
    rw [q2, ← hx0] at q1
    have hdI : (x0 : Int) - (c : Int) = (d : Int) := by omega
    have hdc : d < c := by omega
    have hdcI : (d : Int) < (c : Int) := by omega
    clear q1 q2 q3 q4 q5 q6 q7 HH hd hx0 hlt
    go_enter Tryz.func90, Tryz.ntmps90
    go_wp2_with fail
    refine HL.out.mono ?_
    rintro e w' ⟨rfl, rfl⟩
    go_wp2_with fail
    go_ret
    exact ⟨rfl, rfl⟩
end Go.Proofs.YtgaepmmpedaaiaaGreatDoor

namespace Go.Proofs.YtgaepmmpedaaiaaGreatDoor
open Go.RowKit Go.Shelf

section
variable {P : Program} {ops : Array Oper} {Q : Exit → Act → World → Prop} {md : Region.Mode} {S : World → Prop} {z : Nat}

/-- Whatever comes up next, and so on; behind each operation but z the world meets S. -/
def wpLast (P : Program) (md : Region.Mode) (ops : Array Oper) (Q : Exit → Act → World → Prop) (S : World → Prop) (z : Nat) : Nat → Array Bool → Act → World → Prop
  | 0, listed, a, w => Region.ready md ops listed = [] ∧ Q .normal a w
  | n + 1, listed, a, w => (Region.ready md ops listed = [] → Q .normal a w) ∧
      ∀ j ∈ Region.ready md ops listed, wpOp P ops Q j (fun a' w' => wpLast P md ops Q S z n (listed.setIfInBounds j true) a' w' ∧ (j ≠ z → S w')) a w
theorem any_of_last (n : Nat) : ∀ (listed : Array Bool) (a : Act) (w : World), wpLast P md ops Q S z n listed a w → wpAny P md ops Q n listed a w := by
  induction n with
  | zero => exact fun _ _ _ h => h
  | succ n ih => exact fun _ _ _ h => ⟨h.1, fun j hj => wpOp_mono (fun a' w' q => ih _ a' w' q.1) (h.2 j hj)⟩
/-- Does operation z wait for operation i? -/
def waits (md : Region.Mode) (ops : Array Oper) (z i : Nat) : Bool := match ops[z]? with
  | some o => o.after.any (fun e => Region.binds md e && e.on == i)
  | none => true
theorem waits_not {i : Nat} {listed : Array Bool} (h : waits md ops z i = true) (hi : i ∈ Region.ready md ops listed) : z ∉ Region.ready md ops listed := by
  intro hz
  obtain ⟨_, o, ho, hall⟩ := mem_ready.1 hz
  have hun := (mem_ready.1 hi).1
  unfold waits at h
  rw [ho] at h
  obtain ⟨k, hk, e⟩ := Array.any_eq_true.1 h
  rw [Bool.and_eq_true, beq_iff_eq] at e
  have := hall _ (Array.getElem_mem hk) e.1
  rw [e.2] at this
  rcases Nat.lt_or_ge i listed.size with q | q
  · simp [q] at hun this
    rw [hun] at this
    cases this
  · simp [Array.getElem?_eq_none q] at this
theorem last_first {i : Nat} {oi : Oper} {v : Value} (hi : ops[i]? = some oi) (hsel : ∀ (j : Nat) (o : Oper) cs b, ops[j]? = some o → o.op ≠ .select cs b)
    (hQ : ∀ c a w, Q (.panic c) (a.put oi.dst v) w → Q (.panic c) a w) (hz : waits md ops z i = true) (n : Nat) :
    ∀ (listed : Array Bool) (a : Act) (w : World), (∀ j oj, ops[j]? = some oj → j ≠ i → listed.getD j true = false → (∀ e ∈ oj.after, Region.binds md e = true → e.on ≠ i) → oi.apart ops oj = true) →
      i ∈ Region.ready md ops listed → YieldsIf P ops S oi v a → S w → wpLast P md ops Q S z n (listed.setIfInBounds i true) (a.put oi.dst v) w → wpLast P md ops Q S z (n + 1) listed a w := by
  induction n with
  | zero =>
    intro listed a w _ hr hy hS H
    refine ⟨fun e => absurd hr (by rw [e]; simp), fun j hj => ?_⟩
    rcases Nat.decEq j i with q | q
    · have q2 := ready_mono hj q
      rw [H.1] at q2
      cases q2
    · subst q
      exact hy.wpOp hi hS ⟨H, fun _ => hS⟩
  | succ n ih =>
    intro listed a w hfree hr hy hS H
    refine ⟨fun e => absurd hr (by rw [e]; simp), fun j hj => ?_⟩
    rcases Nat.decEq j i with q | q
    · obtain ⟨hun, oj, hoj, hall⟩ := mem_ready.1 hj
      have hni : ∀ e ∈ oj.after, Region.binds md e = true → e.on ≠ i := fun e he hb q1 => by
        have q2 := hall e he hb
        have q3 := (mem_ready.1 hr).1
        rw [q1] at q2
        rcases Nat.lt_or_ge i listed.size with q4 | q4
        · simp [q4] at q2 q3
          rw [q3] at q2
          cases q2
        · simp [Array.getElem?_eq_none q4] at q2
      have hjz : j ≠ z := fun e => waits_not hz hr (e ▸ hj)
      have hput := wpOp_putIf hoj (hfree j oj hoj q hun hni) (fun cs b => hsel i oi cs b hi) (fun cs b => hsel j oj cs b hoj) hQ hy (H.2 j (ready_mono hj q))
      refine wpOp_mono (fun a' w' r => ?_) hput
      have hS' := r.2.2 hjz
      refine ⟨ih (listed.setIfInBounds j true) a' w' (fun k ok hk hki hku hno => hfree k ok hk hki ?_ hno) (ready_mono hr (Ne.symm q)) r.1 hS' ?_, fun _ => hS'⟩
      · rcases Nat.decEq j k with q5 | q5
        · rwa [getD_set_ne true q5] at hku
        · subst q5; exact hun
      · rw [Array.setIfInBounds_comm _ _ q]
        exact r.2.1
    · subst q
      exact hy.wpOp hi hS ⟨H, fun _ => hS⟩
/-- Take number i first. -/
theorem last_take {i : Nat} {oi : Oper} {v : Value} {n : Nat} {listed : Array Bool} {a : Act} {w : World} (hi : ops[i]? = some oi) (hs : Region.noSelect ops = true) (hf : Region.free md ops listed i = true) (hr : (Region.ready md ops listed).contains i = true)
    (hz : waits md ops z i = true) (hQ : ∀ c a w, Q (.panic c) (a.put oi.dst v) w → Q (.panic c) a w) (hy : YieldsIf P ops S oi v a) (hS : S w) (h : wpLast P md ops Q S z n (listed.setIfInBounds i true) (a.put oi.dst v) w) : wpLast P md ops Q S z (n + 1) listed a w :=
  last_first hi (Region.noSelect_spec hs) hQ hz n listed a w (Region.free_spec hi hf) (by simpa using hr) hy hS h
/-- Only number j can come up. -/
theorem last_one {j : Nat} {o : Oper} {n : Nat} {listed : Array Bool} {a : Act} {w : World} (hr : Region.ready md ops listed = [j]) (ho : ops[j]? = some o)
    (h : ∀ K' : Act → World → Prop, Shut (∀ a' w', (j ≠ z → S w') → wpLast P md ops Q S z n (listed.setIfInBounds j true) a' w' → K' a' w') → if Region.wanted o (yielded ops a.tmps) = true then Oper.wp P o a w K' Q else K' (a.put o.dst undef) w) : wpLast P md ops Q S z (n + 1) listed a w := by
  refine ⟨fun e => (by rw [hr] at e; cases e), fun i hi => ?_⟩
  rw [hr] at hi
  obtain rfl : i = j := by simpa using hi
  exact wpOp_step ho (fun K' hK => h K' (fun a' w' q1 q2 => hK a' w' ⟨q2, q1⟩))
theorem last_done {listed : Array Bool} {a : Act} {w : World} (hr : Region.ready md ops listed = []) (h : Q .normal a w) : ∀ n, wpLast P md ops Q S z n listed a w
  | 0 => ⟨hr, h⟩
  | _ + 1 => ⟨fun _ => h, by rw [hr]; intro j hj; cases hj⟩
theorem region_last {id : Nat} {a : Act} {w : World} (S : World → Prop) (z : Nat) (hm : P.follows .mixedOrders = true) (hS : S w.drew) (h : S w.drew → wpLast P .any ops Q S z ops.size (Array.replicate ops.size false) a w.drew) : (Code.region id ops true).wp P Q a w :=
  wp_region_any hm (any_of_last _ _ _ _ (h hS))
end
end Go.Proofs.YtgaepmmpedaaiaaGreatDoor

namespace Go.Proofs.YtgaepmmpedaaiaaGreatDoor
open Go.RowKit Go.Shelf
set_option linter.unusedVariables false

theorem wpList_append_run {ops : Array Oper} {rest : List Oper} {o : Oper} {a : Act} {Q : Exit → Act → World → Prop} (w : World) (hgd : o.guard = none) (s x : Operand) (t : TypeId)
    (ho : o.op = .call { callee := .builtin .append, args := #[s, x], argTypes := #[t, t] }) (v sv v' : Value) (w' : World) (hs : a.eval s = v) (hx : a.eval x = sv)
    (hr : (Builtin.append_ #[t, t] o.type #[v, sv]).run Tryz.prog w = .ok v' w') (hk : wpList Tryz.prog ops Q rest (a.put o.dst v') w') : wpList Tryz.prog ops Q (o :: rest) a w := by
  refine wpList_plain hgd fun K hK => ?_
  unfold Oper.wp execOp
  simp only [ho, resolve, invoke, builtin, Sem.run_bind, Sem.run_pure, Result.andThen_ok, List.map_toArray, List.map_cons, List.map_nil, hs, hx, hr]
  exact hK _ _ hk
/-- .. at a step of a region that draws. -/
theorem step_append_run {ops : Array Oper} {o : Oper} {a : Act} {K : Act → World → Prop} {Q : Exit → Act → World → Prop} {E : Prop} (w : World) (hgd : o.guard = none) (s x : Operand) (t : TypeId)
    (ho : o.op = .call { callee := .builtin .append, args := #[s, x], argTypes := #[t, t] }) (v sv v' : Value) (w' : World) (hs : a.eval s = v) (hx : a.eval x = sv)
    (hr : (Builtin.append_ #[t, t] o.type #[v, sv]).run Tryz.prog w = .ok v' w') (hk : K (a.put o.dst v') w') : if Region.wanted o (yielded ops a.tmps) = true then Oper.wp Tryz.prog o a w K Q else E := by
  have hw : Region.wanted o (yielded ops a.tmps) = true := by simp [Region.wanted, hgd]
  rw [if_pos hw]
  unfold Oper.wp execOp
  simp only [ho, resolve, invoke, builtin, Sem.run_bind, Sem.run_pure, Result.andThen_ok, List.map_toArray, List.map_cons, List.map_nil, hs, hx, hr]
  exact hk

def u16s (xs : List Nat) : List Value := xs.map (fun x => Value.int .u16 ((x : Nat) : Int))
theorem u16s_length (xs : List Nat) : (u16s xs).length = xs.length := by simp [u16s]
theorem info77 : (Tryz.prog.info? 77).map (fun i => (i.zero, i.size, i.bytes)) = some (some (.int .u16 0), 1, 2) := by kernel_rfl
/-- One number more. -/
theorem run_append_u16 (w : World) (base : Nat) (ty : TypeId) (v : Value) (xs : List Nat) (x g : Nat) (hown : w.ownsRow base 77 1 v xs.length (u16s xs)) (hb : base ≤ w.heap.size) (hl : xs.length ≤ 8192) (hg : w.heap[g]? = some (.cells #[.int .u16 (x : Int)] 77 (0, 0))) :
    ∃ v' w', (Builtin.append_ #[120, 120] ty #[v, .slice (some ⟨g, 0, none⟩) 1 1]).run Tryz.prog w = .ok v' w' ∧ w'.ownsRow base 77 1 v' (xs ++ [x]).length (u16s (xs ++ [x])) ∧ Keep (fun k => v.ownBlock = some k) w w' ∧ (v'.ownBlock = v.ownBlock ∨ v'.ownBlock = some w.heap.size) := by
  obtain ⟨i0, hi, hz0, hz1, hz2⟩ := info_parts info77
  obtain ⟨v', w', hr, h2, h3, h4, h5⟩ := run_append_own_at (P := Tryz.prog) w base 120 ty 77 i0 (.int .u16 0) 1 2 Tryz.underlying120 hi hz0 hz1 hz2 rfl (by decide) v xs.length (u16s xs) hown ⟨g, 0, none⟩ 1 1 [.int .u16 (x : Int)] rfl (fun j u hu => by
    rw [add0, cell_of hg, List.getElem?_toArray]
    exact hu) (fun u hu => by
      obtain rfl : u = _ := by simpa using hu
      rfl) (by unfold maxLen; omega) (by omega) hb
  refine ⟨v', w', hr, ?_, (Keep.refl _ w).grown h3 (fun k e _ => e), h5⟩
  rw [List.length_append, show u16s (xs ++ [x]) = u16s xs ++ [.int .u16 (x : Int)] from by simp [u16s]]
  exact h2
end Go.Proofs.YtgaepmmpedaaiaaGreatDoor

namespace Go.Proofs.YtgaepmmpedaaiaaGreatDoor
open Go.RowKit Go.Shelf
set_option linter.unusedVariables false

/-- Rows of states under way: block ob holds 53 slices, the states below i are in them. -/
structure OwnS (w W : World) (ob : Nat) (sy : Nat → Nat) (i : Nat) (vs : Nat → Value) : Prop where
  obj : ∃ arr, W.heap[ob]? = some (.cells arr 170 (0, 0)) ∧ arr.size = 53 ∧ ∀ s, s < 53 → arr[s]? = some (vs s)
  row : ∀ s, s < 53 → W.ownsRow w.heap.size 77 1 (vs s) (ownL sy s i).length (u16s (ownL sy s i))
  ne : ∀ s, s < 53 → ∀ k, (vs s).ownBlock = some k → k ≠ ob
  apart : ∀ s t, s < 53 → t < 53 → s ≠ t → ∀ k, (vs s).ownBlock = some k → (vs t).ownBlock ≠ some k
  new : w.heap.size ≤ ob
  kp : Keep noBlock w W
theorem ownsK {w w' : World} {S : Nat → Prop} {base e sz : Nat} {v : Value} {n : Nat} {xs : List Value} (h : w.ownsRow base e sz v n xs) (hk : Keep S w w') (hS : ∀ g, v.ownBlock = some g → ¬ S g) : w'.ownsRow base e sz v n xs := by
  refine ⟨h.1, ?_⟩
  rcases h.2 with ⟨e, h0⟩ | ⟨g, cap, cur, rfl, hb, hg, hr⟩
  · exact .inl ⟨e, h0⟩
  · exact .inr ⟨g, cap, cur, rfl, hb, hk.obj hg (hS g rfl), hr⟩
theorem OwnS.still {w W W' : World} {ob : Nat} {sy : Nat → Nat} {i : Nat} {vs : Nat → Value} (h : OwnS w W ob sy i vs) (hk : Keep noBlock W W') : OwnS w W' ob sy i vs := by
  obtain ⟨arr, a1, a2, a3⟩ := h.obj
  exact ⟨⟨arr, hk.obj a1 (fun h => h), a2, a3⟩, fun s hs => ownsK (h.row s hs) hk (fun _ _ h => h), h.ne, h.apart, h.new, h.kp.trans hk (fun _ _ h => h)⟩
theorem owns_lt {w : World} {base e sz : Nat} {v : Value} {n : Nat} {xs : List Value} (h : w.ownsRow base e sz v n xs) {k : Nat} (hk : v.ownBlock = some k) : base ≤ k ∧ k < w.heap.size := by
  rcases h.2 with ⟨rfl, _⟩ | ⟨g, cap, cur, rfl, hb, hg, _⟩
  · cases hk
  · obtain rfl : g = k := by simpa [Value.ownBlock] using hk
    exact ⟨hb, obj_lt hg⟩
/-- One state more: append has run, the slice is stored. -/
theorem OwnS.next {w W W1 : World} {ob : Nat} {sy : Nat → Nat} {i : Nat} {vs : Nat → Value} (h : OwnS w W ob sy i vs) (hs : sy i < 53) {v' : Value} (h1 : W1.ownsRow w.heap.size 77 1 v' (ownL sy (sy i) i ++ [i]).length (u16s (ownL sy (sy i) i ++ [i])))
    (h2 : Keep (fun k => (vs (sy i)).ownBlock = some k) W W1) (h3 : v'.ownBlock = (vs (sy i)).ownBlock ∨ ∃ k, v'.ownBlock = some k ∧ W.heap.size ≤ k) :
    ∃ vs', OwnS w (W1.setCell ⟨ob, sy i, none⟩ v') ob sy (i + 1) vs' := by
  obtain ⟨arr, a1, a2, a3⟩ := h.obj
  have hob : ¬ (vs (sy i)).ownBlock = some ob := fun e => h.ne _ hs _ e rfl
  have b1 := h2.obj a1 hob
  have hobW := obj_lt a1
  have hv'ob : ∀ k, v'.ownBlock = some k → k ≠ ob := fun k hk => by
    rcases h3 with e | ⟨k', e, hk'⟩
    · exact h.ne _ hs k (e ▸ hk)
    · rw [hk] at e
      obtain rfl : k = k' := by simpa using e
      omega
  have hk3 : Keep (fun k => k = ob) W1 (W1.setCell ⟨ob, sy i, none⟩ v') := (Keep.refl (fun k => k = ob) W1).setCell (p := ⟨ob, sy i, none⟩) (fun _ => rfl) _
  have hap : ∀ t, t < 53 → t ≠ sy i → ∀ k, (vs t).ownBlock = some k → v'.ownBlock ≠ some k := fun t ht hne k hk e => by
    rcases h3 with e3 | ⟨k', e3, hk'⟩
    · exact h.apart t (sy i) ht hs hne k hk (e3 ▸ e)
    · rw [e] at e3
      obtain rfl : k = k' := by simpa using e3
      have := (owns_lt (h.row t ht) hk).2
      omega
  refine ⟨fun t => if t = sy i then v' else vs t, ⟨_, set_obj b1 (sy i) v', by rw [Array.size_setIfInBounds]; exact a2, fun s hs' => ?_⟩, fun s hs' => ?_, fun s hs' k hk => ?_, fun s t hs' ht hst k hk e => ?_, h.new, ?_⟩
  · rw [Array.getElem?_setIfInBounds]
    by_cases e : sy i = s
    · rw [if_pos e, if_pos (by omega), if_pos e.symm]
    · rw [if_neg e, if_neg (fun q => e q.symm)]
      exact a3 s hs'
  · rw [ownL_succ]
    by_cases e : s = sy i
    · subst e
      rw [if_pos rfl, if_pos rfl]
      exact ownsK h1 hk3 (fun g hg => hv'ob g hg)
    · rw [if_neg e, if_neg (fun q => e q.symm), List.append_nil]
      refine ownsK (ownsK (h.row s hs') h2 (fun g hg q => h.apart s (sy i) hs' hs e g hg q)) hk3 (fun g hg => h.ne s hs' g hg)
  · try dsimp only at hk
    split at hk
    · exact hv'ob k hk
    · exact h.ne s hs' k hk
  · try dsimp only at hk e
    split at hk
    · rename_i e1
      split at e
      · omega
      · rename_i e2
        exact hap t ht e2 k e hk
    · rename_i e1
      split at e
      · exact hap s hs' e1 k hk e
      · exact h.apart s t hs' ht hst k hk e
  · refine (h.kp.trans h2 (fun i' hi' e => ?_)).trans hk3 (fun i' hi' e => by have := h.new; omega)
    have := (owns_lt (h.row _ hs) e).1
    omega

theorem info170 : (Tryz.prog.info? 170).map (·.size) = some 53 := by kernel_rfl
def arr53 (vs : Nat → Value) : Array Value := ((List.range 53).map vs).toArray
def nils53 : Array Value := (List.replicate 53 (Value.slice none 0 0)).toArray
theorem ownS_new (w W : World) (hk : Keep noBlock w W) (o : Obj) (ho : o = .cells nils53 170 (0, 0)) (ob : Nat) (hob : ob = W.heap.size) (sy : Nat → Nat) : OwnS w (W.alloc o) ob sy 0 (fun _ => .slice none 0 0) := by
  rw [ho, hob]
  refine ⟨⟨_, alloc_new W _, by simp [nils53], fun s hs => ?_⟩, fun s hs => World.ownsRow_nil _ _ _ _, fun s hs k hk => (by cases hk), fun s t hs ht hst k hk => (by cases hk), hk.size, hk.alloc _⟩
  unfold nils53
  rw [List.getElem?_toArray, List.getElem?_replicate, if_pos hs]

set_option maxRecDepth 10000 in
set_option maxHeartbeats 4000000 in
theorem statesOf_any (g n cap : Nat) (sy bi ba : Nat → Nat) (w : World) (hT : RowT w g n sy bi ba) (hn : n ≤ 4096) (hsy : ∀ i, i < n → sy i < 53) :
    Calls Tryz.prog 89 #[.slice (some ⟨g, 0, none⟩) n cap] w fun e w' => ∃ (vs : Nat → Value) (ob : Nat), e = .returned (.agg (arr53 vs)) ∧ OwnS w w' ob sy n vs := by
  have hO := ownS_new w w (Keep.refl _ w) (.cells nils53 170 (0, 0)) rfl _ rfl sy
  have HT := (show Hid (RowT w g n sy bi ba ∧ ∀ i, i < n → sy i < 53) from ⟨hT, hsy⟩)
  have hnI : (n : Int) ≤ 4096 := by omega
  clear hT hsy
  go_enter Tryz.func89, Tryz.ntmps89
  go_wp2_with fail
  obtain ⟨ob, hob⟩ : ∃ ob, ob = w.heap.size := ⟨_, rfl⟩
  rw [← hob] at hO ⊢
  have HOB := hid hob
  clear hob
  go_loopw [7] (fun v7 wr => ∃ i : Nat, v7 = .int .i64 (i : Int) ∧ i ≤ n ∧ Hid (∃ vs, OwnS w wr ob sy i vs)) (fun v7 _ => n - (intOf v7).toNat)
  case atStart => exact ⟨0, rfl, Nat.zero_le _, _, hO⟩
  case round =>
    clear hO
    obtain ⟨i, rfl, hi, HC⟩ := hrel
    by_cases hlt : i < n
    · have hltI : (i : Int) < (n : Int) := by omega
      obtain ⟨vs, hS⟩ := HC.out
      obtain ⟨c0, c1, c2⟩ := (HT.out.1.keep hS.kp (fun h => h)).cells i hlt
      have hs := HT.out.2 i hlt
      obtain ⟨s, hse⟩ : ∃ s, s = sy i := ⟨_, rfl⟩
      rw [← hse] at c0 hs
      have hsI : (s : Int) < 53 := by omega
      obtain ⟨B, hB⟩ : ∃ B, B = bi i := ⟨_, rfl⟩
      obtain ⟨E, hE⟩ : ∃ E, E = ba i := ⟨_, rfl⟩
      rw [← hB] at c1
      rw [← hE] at c2
      have hka : Keep noBlock wr (wr.alloc (.cells #[.int .u8 (s : Int), .int .u8 (B : Int), .int .u16 (E : Int)] 79)) := (Keep.refl _ wr).alloc _
      have hS3 := hS.still hka
      have hcb : (wr.alloc (.cells #[.int .u8 (s : Int), .int .u8 (B : Int), .int .u16 (E : Int)] 79)).heap[wr.heap.size]? = some (.cells #[.int .u8 (s : Int), .int .u8 (B : Int), .int .u16 (E : Int)] 79 (0, 0)) := alloc_new wr _
      have HW3 := (show Hid (∀ W3, W3 = wr.alloc (.cells #[.int .u8 (s : Int), .int .u8 (B : Int), .int .u16 (E : Int)] 79) → OwnS w W3 ob sy i vs ∧ W3.heap[wr.heap.size]? = some (.cells #[.int .u8 (s : Int), .int .u8 (B : Int), .int .u16 (E : Int)] 79 (0, 0))) from fun W3 e => by rw [e]; exact ⟨hS3, hcb⟩)
      have hiw : IntKind.u16.wrap (i : Int) = (i : Int) := by rw [IntKind.wrap_u16]; omega
      have hs53 : s < 53 := hs
      have HSE := hid hse
      clear hS hS3 hcb hka HC hB hE hse
      go_wp2_with fail
      generalize hW3 : wr.alloc (.cells #[.int .u8 (s : Int), .int .u8 (B : Int), .int .u16 (E : Int)] 79) = W3
      obtain ⟨hS3, hcb⟩ := HW3.out W3 hW3.symm
      generalize wr.heap.size = cb at *
      clear HW3 hW3 c0 c1 c2
      have HS4 := hid (hS3.still ((Keep.refl noBlock W3).drew))
      obtain ⟨W4, hW4⟩ : ∃ W4, W4 = W3.drew := ⟨_, rfl⟩
      rw [← hW4] at HS4
      have o4 : W4.heap[cb]? = some (.cells #[.int .u8 (s : Int), .int .u8 (B : Int), .int .u16 (E : Int)] 79 (0, 0)) := by rw [hW4]; exact hcb
      have d0 : W4.cell? ⟨cb, 0, none⟩ = some (.int .u8 (s : Int)) := by rw [cell_of o4]; rfl
      obtain ⟨arr, a1, a2, a3⟩ := HS4.out.obj
      have d1 : W4.cell? ⟨ob, s, none⟩ = some (vs s) := by rw [cell_of a1, a3 s hs]
      obtain ⟨vv, hvv⟩ : ∃ vv, vv = vs s := ⟨_, rfl⟩
      rw [← hvv] at d1
      obtain ⟨W5, hW5⟩ : ∃ W5, W5 = W4.alloc (.cells #[.int .u16 (i : Int)] 77) := ⟨_, rfl⟩
      have hk5 : Keep noBlock W4 W5 := by rw [hW5]; exact (Keep.refl _ W4).alloc _
      have HS5 := hid (HS4.out.still hk5)
      have e0 : W5.cell? ⟨cb, 0, none⟩ = some (.int .u8 (s : Int)) := by rw [cell_of (hk5.obj o4 (fun h => h))]; rfl
      have e1 : W5.cell? ⟨ob, s, none⟩ = some vv := by rw [cell_of (hk5.obj a1 (fun h => h)), a3 s hs, hvv]
      obtain ⟨v', W6, hrun, r1, r2, r3⟩ := run_append_u16 W5 w.heap.size 120 vv (ownL sy s i) i W4.heap.size (by rw [hvv]; exact HS5.out.row s hs) HS5.out.kp.size (by have := cntP_le (fun j => decide (sy j = s)) i; rw [ownL_length]; unfold cntY; omega) (by rw [hW5]; exact alloc_new W4 _)
      obtain ⟨vg, vc, hvf⟩ : ∃ vg vc, v' = .slice (some ⟨vg, 0, none⟩) (ownL sy s i ++ [i]).length vc := by
        rcases r1.2 with ⟨_, q0⟩ | ⟨gg, cc, cur, q1, _⟩
        · rw [List.length_append] at q0; simp at q0
        · exact ⟨gg, cc, q1⟩
      obtain ⟨vl, hvl⟩ : ∃ vl, vl = (ownL sy s i ++ [i]).length := ⟨_, rfl⟩
      rw [← hvl] at hvf
      subst hvf
      have HVL := hid hvl
      clear hvl
      have hobn : ¬ vv.ownBlock = some ob := fun e => HS5.out.ne s hs ob (by rw [← hvv]; exact e) rfl
      have g1 := r2.obj (hk5.obj a1 (fun h => h)) hobn
      have f0 : W6.frozen? ⟨ob, s, none⟩ = false := frozen_of g1 s
      have f1 : W6.cell? ⟨ob, s, none⟩ = some vv := by rw [cell_of g1, a3 s hs, hvv]
      have HE := (show Hid (∃ vs', OwnS w (W6.setCell ⟨ob, s, none⟩ (.slice (some ⟨vg, 0, none⟩) vl vc)) ob sy (i + 1) vs') from by
        have := HS5.out.next (W1 := W6) (v' := .slice (some ⟨vg, 0, none⟩) vl vc) (by rw [← HSE.out]; exact hs) (by rw [← HSE.out]; exact r1) (by rw [← HSE.out, ← hvv]; exact r2) (by rw [← HSE.out, ← hvv]; exact r3.imp id (fun e => ⟨_, e, Nat.le_refl _⟩))
        rw [← HSE.out] at this
        exact this)
      have f2 : W6.cell? ⟨cb, 0, none⟩ = some (.int .u8 (s : Int)) := by
        have hcbn : ¬ vv.ownBlock = some cb := fun e => by
          have q := HS5.out.row s hs
          rw [← hvv] at q
          rcases q.2 with ⟨q1, _⟩ | ⟨gg, cc, cur, q1, _, q2, _⟩
          · rw [q1] at e; cases e
          · rw [q1] at e
            obtain rfl : gg = cb := by simpa [Value.ownBlock] using e
            rw [hk5.obj o4 (fun h => h)] at q2
            cases q2
        rw [cell_of (r2.obj (hk5.obj o4 (fun h => h)) hcbn)]; rfl
      clear HS4 HS5 r1 r2 r3 g1 a1 a3 a2 o4 hS3 hcb hvv hk5 hobn
      refine region_last (fun W' => W'.cell? ⟨cb, 0, none⟩ = some (.int .u8 (s : Int)) ∧ W'.cell? ⟨ob, s, none⟩ = some vv) 11 mx (by rw [← hW4]; exact ⟨d0, d1⟩) (fun hS => ?_)
      refine last_take (i := 0) (v := ?_) rfl (by kernel_rfl) (by kernel_rfl) (by kernel_rfl) (by kernel_rfl) (fun _ _ _ h => h) (Or.inl ⟨by rfl, ?_⟩) (by assumption) ?_
      rotate_left 1
      · intro w hSw; (try dsimp only at hSw); (try obtain ⟨hSw1, hSw2⟩ := hSw); (go_simp <;> with_reducible rfl)
      simp only [Act.put, List.getElem_toArray, List.getElem_cons_zero, List.setIfInBounds_toArray, List.set_cons_zero, List.set_cons_succ]
      refine last_take (i := 1) (v := ?_) rfl (by kernel_rfl) (by kernel_rfl) (by kernel_rfl) (by kernel_rfl) (fun _ _ _ h => h) (Or.inl ⟨by rfl, ?_⟩) (by assumption) ?_
      rotate_left 1
      · intro w hSw; (try dsimp only at hSw); (try obtain ⟨hSw1, hSw2⟩ := hSw); (go_simp <;> with_reducible rfl)
      simp only [Act.put, List.getElem_toArray, List.getElem_cons_zero, List.getElem_cons_succ, List.setIfInBounds_toArray, List.set_cons_zero, List.set_cons_succ]
      refine last_take (i := 2) (v := ?_) rfl (by kernel_rfl) (by kernel_rfl) (by kernel_rfl) (by kernel_rfl) (fun _ _ _ h => h) (Or.inl ⟨by rfl, ?_⟩) (by assumption) ?_
      rotate_left 1
      · intro w hSw; (try dsimp only at hSw); (try obtain ⟨hSw1, hSw2⟩ := hSw); (go_simp <;> with_reducible rfl)
      simp only [Act.put, List.getElem_toArray, List.getElem_cons_zero, List.getElem_cons_succ, List.setIfInBounds_toArray, List.set_cons_zero, List.set_cons_succ]
      refine last_take (i := 3) (v := ?_) rfl (by kernel_rfl) (by kernel_rfl) (by kernel_rfl) (by kernel_rfl) (fun _ _ _ h => h) (Or.inl ⟨by rfl, ?_⟩) (by assumption) ?_
      rotate_left 1
      · intro w hSw; (try dsimp only at hSw); (try obtain ⟨hSw1, hSw2⟩ := hSw); (go_simp <;> with_reducible rfl)
      simp only [Act.put, List.getElem_toArray, List.getElem_cons_zero, List.getElem_cons_succ, List.setIfInBounds_toArray, List.set_cons_zero, List.set_cons_succ]
      refine last_take (i := 4) (v := ?_) rfl (by kernel_rfl) (by kernel_rfl) (by kernel_rfl) (by kernel_rfl) (fun _ _ _ h => h) (Or.inl ⟨by rfl, ?_⟩) (by assumption) ?_
      rotate_left 1
      · intro w hSw; (try dsimp only at hSw); (try obtain ⟨hSw1, hSw2⟩ := hSw); (go_simp <;> with_reducible rfl)
      simp only [Act.put, List.getElem_toArray, List.getElem_cons_zero, List.getElem_cons_succ, List.setIfInBounds_toArray, List.set_cons_zero, List.set_cons_succ]
      refine last_take (i := 5) (v := ?_) rfl (by kernel_rfl) (by kernel_rfl) (by kernel_rfl) (by kernel_rfl) (fun _ _ _ h => h) (Or.inl ⟨by rfl, ?_⟩) (by assumption) ?_
      rotate_left 1
      · intro w hSw; (try dsimp only at hSw); (try obtain ⟨hSw1, hSw2⟩ := hSw); (go_simp <;> with_reducible rfl)
      simp only [Act.put, List.getElem_toArray, List.getElem_cons_zero, List.getElem_cons_succ, List.setIfInBounds_toArray, List.set_cons_zero, List.set_cons_succ]
      refine last_take (i := 6) (v := ?_) rfl (by kernel_rfl) (by kernel_rfl) (by kernel_rfl) (by kernel_rfl) (fun _ _ _ h => h) (Or.inl ⟨by rfl, ?_⟩) (by assumption) ?_
      rotate_left 1
      · intro w hSw; (try dsimp only at hSw); (try obtain ⟨hSw1, hSw2⟩ := hSw); (go_simp <;> with_reducible rfl)
      simp only [Act.put, List.getElem_toArray, List.getElem_cons_zero, List.getElem_cons_succ, List.setIfInBounds_toArray, List.set_cons_zero, List.set_cons_succ]
      refine last_take (i := 7) (v := ?_) rfl (by kernel_rfl) (by kernel_rfl) (by kernel_rfl) (by kernel_rfl) (fun _ _ _ h => h) (Or.inl ⟨by rfl, ?_⟩) (by assumption) ?_
      rotate_left 1
      · intro w hSw; (try dsimp only at hSw); (try obtain ⟨hSw1, hSw2⟩ := hSw); (go_simp <;> with_reducible rfl)
      simp only [Act.put, List.getElem_toArray, List.getElem_cons_zero, List.getElem_cons_succ, List.setIfInBounds_toArray, List.set_cons_zero, List.set_cons_succ]
      rw [← hW4]
      clear hW4
      refine last_one (j := 8) (by kernel_rfl) rfl (fun K hK => ?_)
      rw [if_pos (by rfl)]
      simp only [List.getElem_toArray, List.getElem_cons_zero, List.getElem_cons_succ]
      go_simp
      rw [← hW5]
      refine hK.out _ _ (fun _ => ⟨e0, e1⟩) ?_
      try simp only [Act.put, List.getElem_toArray, List.getElem_cons_zero, List.getElem_cons_succ, List.setIfInBounds_toArray, List.set_cons_zero, List.set_cons_succ]
      clear hK K
      refine last_one (j := 9) (by kernel_rfl) rfl (fun K hK => ?_)
      refine step_append_run _ rfl _ _ 120 rfl _ _ _ _ rfl rfl hrun ?_
      refine hK.out _ _ (fun _ => ⟨f2, f1⟩) ?_
      try simp only [Act.put, List.getElem_toArray, List.getElem_cons_zero, List.getElem_cons_succ, List.setIfInBounds_toArray, List.set_cons_zero, List.set_cons_succ]
      clear hK K
      refine last_one (j := 10) (by kernel_rfl) rfl (fun K hK => ?_)
      rw [if_pos (by rfl)]
      simp only [List.getElem_toArray, List.getElem_cons_zero, List.getElem_cons_succ]
      go_simp
      refine hK.out _ _ (fun _ => ⟨f2, f1⟩) ?_
      try simp only [Act.put, List.getElem_toArray, List.getElem_cons_zero, List.getElem_cons_succ, List.setIfInBounds_toArray, List.set_cons_zero, List.set_cons_succ]
      clear hK K
      refine last_one (j := 11) (by kernel_rfl) rfl (fun K hK => ?_)
      rw [if_pos (by rfl)]
      simp only [List.getElem_toArray, List.getElem_cons_zero, List.getElem_cons_succ]
      go_simp
      refine hK.out _ _ (fun e => absurd rfl e) ?_
      clear hK K
      refine last_done (by kernel_rfl) ?_ _
      go_wp2_with fail
      go_roundw
      case rel => exact ⟨i + 1, by go_num, by omega, HE.out⟩
      case measure => simp [intOf]; omega
    · obtain rfl : i = n := by omega
      have hltI : ¬ (i : Int) < (i : Int) := by omega
      obtain ⟨vs, hS⟩ := HC.out
      obtain ⟨arr, a1, a2, a3⟩ := hS.obj
      have hA : arr = arr53 vs := by
        apply Array.ext_getElem?
        intro s
        rw [show (arr53 vs)[s]? = ((List.range 53).map vs)[s]? from List.getElem?_toArray, List.getElem?_map]
        by_cases hs : s < 53
        · rw [a3 s hs, List.getElem?_range hs]; rfl
        · rw [Array.getElem?_eq_none (by omega), List.getElem?_eq_none (by simp; omega)]; rfl
      have HSf := hid (setRow_self wr ob arr 170 (0, 0) a1)
      have HO := hid a1
      have HJ : Hid ((Tryz.prog.info? 170).map (·.size) = some arr.size) := by rw [a2]; exact info170
      have H1 : Hid (arr.all (·.oneCell') = true) := by
        rw [hA, arr53]
        refine all_oneCell_toArray (fun v hv => ?_)
        obtain ⟨s, hs, rfl⟩ := List.mem_map.1 hv
        have hs' : s < 53 := by simpa using hs
        rcases (hS.row s hs').2 with ⟨e, _⟩ | ⟨gg, cc, cur, e, _⟩ <;> rw [e] <;> rfl
      have HS := hid hS
      have HA := hid hA
      clear hS a1 a2 a3 hA HC
      go_wp2_with (first | (refine wpList_load_row rfl 170 (.tmp 2) rfl ob rfl 170 arr (0, 0) _ HO.out Tryz.underlying170 rfl HJ.out ?_) | (refine wpList_store_row rfl 170 (.tmp 2) (.tmp 24) rfl ob arr rfl rfl 170 arr HO.out HJ.out rfl H1.out ?_; rw [HSf.out]))
      refine bodyPost_ret (results_cell rfl _ _ _ ⟨ob, 0, none⟩ (.agg arr) rfl (run_loadVar_row _ _ 170 170 _ (0, 0) _ HO.out Tryz.underlying170 rfl HJ.out)) rfl ?_
      exact ⟨vs, by rw [HA.out], ob, HS.out⟩
end Go.Proofs.YtgaepmmpedaaiaaGreatDoor
