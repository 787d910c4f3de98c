/-
  Counts: counts that make a table, or ErrArg.
  tables: the tables by whose states weights may be told.
  firstOf: a weight's first state.
  putByTurns: the tail from which two states tell the weights.
  slices.Grow of none, and slices.Concat.
  putByStates: a description of weights by two states.
-/
import Derived.Lib.AppendZeros
import Derived.Test.YtcoahkmiebeeeaaGreatDoorLitP3
import Derived.Test.YtcoahkmiebeeeaaGreatDoorLitP5
import Derived.Test.YtcoahkmiebeeeaaGreatDoorLitP6
import Derived.Test.YtcoahkmiebeeeaaGreatDoorLitP7
import Derived.Test.YtcoahkmiebeeeaaGreatDoorLitP8
import Derived.Test.YtcoahkmiebeeeaaGreatDoorLitP12
import Derived.Test.YtcoahkmiebeeeaaGreatDoorLitP15
import Derived.Test.YtcoahkmiebeeeaaGreatDoorLitP20
namespace Go.Proofs.YtcoahkmiebeeeaaGreatDoor
open Go.RowKit Go.Shelf

theorem used_zero (f : Nat → Nat) (k n : Nat) (hk : k ≤ n) (h : ∀ j, k ≤ j → j < n → f j = 0) : usedC f n = usedC f k := by
  induction n with
  | zero => obtain rfl : k = 0 := by omega
            rfl
  | succ n ih =>
    by_cases e : k = n + 1
    · subst e; rfl
    · have h1 := ih (by omega) (fun j h1 h2 => h j h1 (by omega))
      have h2 := h n (by omega) (by omega)
      show usedC f n + (if 0 < f n then 1 else 0) = _
      rw [h1, h2]; simp
theorem fr_take (fs : List Int) (k i : Nat) (h : i < k) : fr (fs.take k) i = fr fs i := by
  unfold fr; rw [List.getElem?_take, if_pos h]
theorem used_take (fs : List Int) (k : Nat) (hk : k ≤ fs.length) (h : ∀ j, k ≤ j → j < fs.length → fr fs j = 0) : usedC (fr (fs.take k)) (fs.take k).length = usedC (fr fs) fs.length := by
  have e : (fs.take k).length = k := by rw [List.length_take]; omega
  rw [e, used_zero (fr fs) k fs.length hk h]
  exact sumN_congr _ _ k (fun i hi => by rw [fr_take fs k i hi])
theorem u32_take {fs : List Int} (h : U32 fs) (k : Nat) : U32 (fs.take k) := fun i => by
  rw [List.getElem?_take]
  split
  · exact h i
  · simp
theorem sum_pos (f : Nat → Nat) (n : Nat) (h : 0 < usedC f n) : 0 < sumN f n := by
  obtain ⟨j, hj, hf⟩ := some_there f n h
  have := sumN_ge f n j hj
  omega

def outC (f c : Nat → Nat) (T l n : Nat) : List Int := (List.range n).map (markF f c T l)
theorem outC_length (f c : Nat → Nat) (T l n : Nat) : (outC f c T l n).length = n := by simp [outC]
theorem outC_at (f c : Nat → Nat) (T l n i : Nat) (hi : i < n) : (outC f c T l n)[i]?.getD 0 = markF f c T l i := by
  unfold outC
  rw [List.getElem?_map, List.getElem?_range hi]; rfl
theorem mark_share (f c : Nat → Nat) (T l i : Nat) : shareN (markF f c T l i) = ((c i : Nat) : Int) := by
  unfold markF
  split
  · rename_i h; rw [h.1]; rfl
  · unfold shareN; rw [if_neg (by omega)]
theorem mark_zero (f c : Nat → Nat) (T l i : Nat) : markF f c T l i = 0 ↔ c i = 0 := by
  unfold markF
  split
  · rename_i h; rw [h.1]; simp
  · omega
theorem mark_bounds (f c : Nat → Nat) (T l i : Nat) (h : c i ≤ 4096) : -1 ≤ markF f c T l i ∧ markF f c T l i ≤ 4096 := by
  unfold markF; split <;> omega
theorem out_sum (f c : Nat → Nat) (T l n m : Nat) (hm : m ≤ n) : sumS (outC f c T l n) m = ((sumN c m : Nat) : Int) := by
  induction m with
  | zero => rfl
  | succ m ih => simp only [sumS, sumN]; rw [ih (by omega), outC_at f c T l n m (by omega), mark_share]; omega
theorem out_ok (f c : Nat → Nat) (T l n : Nat) (hl5 : 5 ≤ l) (hl12 : l ≤ 12) (hn : n ≠ 0) (hn2 : n ≤ 256) (hI : InvC f c n) (hlast : 0 < f (n - 1)) (hs : sumN c n = 2 ^ l) : okT (outC f c T l n) (l : Int) = true := by
  unfold okT
  refine decide_eq_true ⟨by omega, by omega, by rw [outC_length]; exact hn, by rw [outC_length]; exact hn2, ?_, fun i hi => ?_, ?_⟩
  · rw [outC_length, outC_at f c T l n (n - 1) (by omega)]
    intro e
    have h1 := (mark_zero f c T l (n - 1)).1 e
    have h2 := (hI (n - 1) (by omega)).1 hlast
    omega
  · rw [outC_length] at hi
    rw [outC_at f c T l n i hi]
    exact (mark_bounds f c T l i (hI i hi).2.2).1
  · rw [outC_length, out_sum f c T l n n (Nat.le_refl _), hs, Int.toNat_natCast]; simp

def IsCounts (fs : List Int) (l : Nat) (w : World) (e : Ending) (w' : World) : Prop :=
  (ableF fs (l : Int) = false ∧ e = .returned (.tuple #[.slice none 0 0, .int .i64 2]) ∧ w' = w) ∨
  (ableF fs (l : Int) = true ∧ ∃ (cb : Nat) (xs : List Int), e = .returned (.tuple #[.slice (some ⟨cb, 0, none⟩) xs.length xs.length, .int .i64 0]) ∧ RowI w' .i16 (some ⟨cb, 0, none⟩) xs.length cb 0 xs ∧ okT xs (l : Int) = true ∧ I16 xs ∧ xs.length ≤ fs.length ∧
    (∀ i, i < fs.length → (0 < fr fs i ↔ (i < xs.length ∧ xs[i]?.getD 0 ≠ 0))) ∧ Keep noBlock w w')

section
attribute [local go_sem] sliceSem_eq
set_option maxRecDepth 100000 in
set_option maxHeartbeats 4000000 in
theorem counts_in (a : Option Addr) (cap gb off : Nat) (fs : List Int) (l : Nat) (w : World) (hR : RowI w .u32 a cap gb off fs) (hu : U32 fs) (hl : fs.length ≤ 256) (hl5 : 5 ≤ l) (hl12 : l ≤ 12) :
    Calls Tryz.prog 93 #[.slice a fs.length cap, .int .i64 (l : Int)] w fun e w' => IsCounts fs l w e w' := by
  have hd : decide (5 ≤ (l : Int) ∧ (l : Int) ≤ 12) = true := decide_eq_true ⟨by omega, by omega⟩
  have HIL := (show Hid (∀ w : World, Calls Tryz.prog 73 #[.int .i64 (l : Int)] w fun e w' => e = .returned (.bool true) ∧ w' = w) from fun w => by have := isLog_any (l : Int) w; rwa [hd] at this)
  have hlI : ¬ (256 : Int) < (fs.length : Int) := by omega
  have HH := (show Hid (RowI w .u32 a cap gb off fs ∧ U32 fs) from ⟨hR, hu⟩)
  have hSb : 2 ^ l ≤ 4096 := Nat.pow_le_pow_right (n := 2) (j := 12) (by omega) hl12
  have hp : (2 : Int) ^ l = ((2 ^ l : Nat) : Int) := by simp
  obtain ⟨S, hS⟩ : ∃ S, S = 2 ^ l := ⟨_, rfl⟩
  rw [← hS] at hSb hp
  have HSE := (show Hid (S = 2 ^ l) from hS)
  have hSI : (S : Int) ≤ 4096 := by omega
  have hllI : (l : Int) ≤ 12 := by omega
  obtain ⟨n, hn⟩ : ∃ n, n = fs.length := ⟨_, rfl⟩
  rw [← hn] at hl hlI ⊢
  have HN := (show Hid (n = fs.length) from hn)
  have hnI : (n : Int) ≤ 256 := by omega
  clear hR hu hd hn hS
  go_enter Tryz.func93, Tryz.ntmps93
  go_wp2_with (go_at_call 73; refine (HIL.out _).mono ?_; rintro e w' ⟨rfl, rfl⟩)
  go_loop [0] (fun v0 => ∃ k : Nat, v0 = .slice a k cap ∧ k ≤ n ∧ Hid (∀ j, k ≤ j → j < fs.length → fr fs j = 0)) (fun v0 => sliceLen v0)
  case atStart => exact ⟨n, rfl, Nat.le_refl _, fun j h1 h2 => by have := HN.out; omega⟩
  case round =>
    obtain ⟨k, rfl, hk, HZ⟩ := hrel
    by_cases hz : 0 < k ∧ fr fs (k - 1) = 0
    · obtain ⟨hk0, hf0⟩ := hz
      obtain ⟨m, hm⟩ : ∃ m, k = m + 1 := ⟨k - 1, by omega⟩
      have hix : m < fs.length := by have := HN.out; omega
      obtain ⟨hR, hu⟩ := HH.out
      obtain rfl := hR.here hix
      have c0 := hR.fr hu m hix
      rw [show k - 1 = m from by omega] at hf0
      have HZ2 := (show Hid (∀ j, m ≤ j → j < fs.length → fr fs j = 0) from fun j h1 h2 => by
        by_cases e : j = m
        · subst e; exact hf0
        · exact HZ.out j (by omega) h2)
      rw [hf0] at c0
      have hsl := fun W => run_high (t := 101) Tryz.underlying101 info41 (some ⟨gb, off, none⟩) k cap m (by have := hR.le; omega) W
      have hk0I : 0 < (k : Int) := by omega
      have hkmI : (k : Int) - 1 = (m : Int) := by omega
      have hkb : (k : Int) ≤ 256 := by omega
      have hmk : (m : Int) < (k : Int) := by omega
      have HM := (show Hid (k = m + 1) from hm)
      clear hR hu hf0 hm
      rw [show ((0 : Nat) : Int) = (0 : Int) from rfl] at c0
      go_wp2_with fail
      go_round
      case rel => exact ⟨m, rfl, by have := HM.out; omega, HZ2⟩
      case measure => have := HM.out; simp [sliceLen]; omega
    · obtain ⟨hR, hu⟩ := HH.out
      have hnf := HN.out
      obtain ⟨-, hRk⟩ := hR.take Tryz.underlying101 info41 k (by omega)
      have hkl : (fs.take k).length = k := by rw [List.length_take]; omega
      have hut := u32_take hu k
      have hus := used_take fs k (by omega) HZ.out
      have hsu := sumOf_any a cap gb off (fs.take k) w' hRk hut (by rw [hkl]; omega)
      rw [hkl] at hsu hus
      have HAB := (show Hid (ableF fs (l : Int) = decide (1 ≤ usedC (fr (fs.take k)) k ∧ usedC (fr (fs.take k)) k ≤ S)) from by
        unfold ableF
        rw [Bool.eq_iff_iff, decide_eq_true_iff, decide_eq_true_iff, Int.toNat_natCast, hus, HSE.out]
        exact ⟨fun h => h.2.2.2, fun h => ⟨by omega, by omega, by omega, h⟩⟩)
      have HSU := (show Hid (Calls Tryz.prog 107 _ w' _) from hsu)
      have hub := usedN_le (fr (fs.take k)) k
      have huI : ((usedC (fr (fs.take k)) k : Nat) : Int) ≤ 256 := by omega
      by_cases hk0 : k = 0
      · subst hk0
        have hU0 : usedC (fr (fs.take 0)) 0 = 0 := rfl
        have hT0 : sumN (fr (fs.take 0)) 0 = 0 := rfl
        rw [hU0, hT0] at HSU
        have HF := (show Hid (ableF fs (l : Int) = false) from by rw [HAB.out, hU0]; rfl)
        clear hR hu hnf hRk hkl hut hus hsu hub huI hU0 hT0 HAB hz
        rw [show ((0 : Nat) : Int) = (0 : Int) from rfl] at HSU
        go_wp2_with (go_at_call 107; refine (HSU.out).mono ?_; rintro e w1 ⟨rfl, rfl⟩)
        go_ret2
        exact .inl ⟨HF.out, rfl, rfl⟩
      · have hf1 : fr fs (k - 1) ≠ 0 := fun e => hz ⟨by omega, e⟩
        obtain ⟨m, hm⟩ : ∃ m, k = m + 1 := ⟨k - 1, by omega⟩
        have hix : m < fs.length := by omega
        obtain rfl := hR.here hix
        have c0 := hR.fr hu m hix
        rw [show k - 1 = m from by omega] at hf1
        have hfp : 0 < fr (fs.take k) (k - 1) := by rw [fr_take fs k (k - 1) (by omega), show k - 1 = m from by omega]; omega
        have hU1 : 1 ≤ usedC (fr (fs.take k)) k := by
          have := sumN_ge (fun i => if 0 < fr (fs.take k) i then 1 else 0) k (k - 1) (by omega)
          rw [if_pos hfp] at this
          exact this
        have hk0I : 0 < (k : Int) := by omega
        have hkmI : (k : Int) - 1 = (m : Int) := by omega
        have hkb : (k : Int) ≤ 256 := by omega
        have hmk : (m : Int) < (k : Int) := by omega
        have hfb : (((fr fs m : Nat) : Int) == 0) = false := by rw [beq_eq_false_iff_ne]; omega
        have hTp := sum_pos (fr (fs.take k)) k (by omega)
        have hTb : sumN (fr (fs.take k)) k ≤ 256 * 4294967296 := Nat.le_trans (sumN_le _ k 4294967296 (fun j _ => by have := fr_lt hut j; omega)) (Nat.mul_le_mul_right _ (by omega))
        have hU1b : (((usedC (fr (fs.take k)) k : Nat) : Int) == 0) = false := by rw [beq_eq_false_iff_ne]; omega
        by_cases hUS : usedC (fr (fs.take k)) k ≤ S
        · have hUSI : ¬ (S : Int) < ((usedC (fr (fs.take k)) k : Nat) : Int) := by omega
          have HF := (show Hid (ableF fs (l : Int) = true) from by rw [HAB.out]; exact decide_eq_true ⟨hU1, hUS⟩)
          obtain ⟨T, hT⟩ : ∃ T, T = sumN (fr (fs.take k)) k := ⟨_, rfl⟩
          rw [← hT] at HSU hTp hTb
          have HW := (show Hid (∀ W, RowI W .u32 (some ⟨gb, off, none⟩) cap gb off (fs.take k) → Calls Tryz.prog 108 #[.slice (some ⟨gb, off, none⟩) k cap, .int .u64 (T : Int), .int .i64 (l : Int)] W fun e w' => e = .returned (.slice (some ⟨W.heap.size, 0, none⟩) k k) ∧ IsA w' W.heap.size 184 .i16 k (fun i => ((partF (fr (fs.take k)) T l i : Nat) : Int)) ∧ Keep noBlock W w') from fun W hW => by
            have := wholeParts_any (some ⟨gb, off, none⟩) cap gb off (fs.take k) l T W hW hut (by rw [hkl]; omega) (by omega) (by rw [hkl]; exact hT) hTp
            rwa [hkl] at this)
          have hpi := part_inv (fr (fs.take k)) T l k (by omega) (fun i hi => by rw [hT]; exact sumN_ge _ k i hi) hTp
          have HST := (show Hid (∀ W cb, RowI W .u32 (some ⟨gb, off, none⟩) cap gb off (fs.take k) → gb ≠ cb → IsA W cb 184 .i16 k (fun i => ((partF (fr (fs.take k)) T l i : Nat) : Int)) → Calls Tryz.prog 109 #[.slice (some ⟨cb, 0, none⟩) k k, .slice (some ⟨gb, off, none⟩) k cap, .int .i64 (S : Int)] W fun e w' => e = .returned (.tuple #[]) ∧ ∃ c : Nat → Nat, IsA w' cb 184 .i16 k (fun i => ((c i : Nat) : Int)) ∧ InvC (fr (fs.take k)) c k ∧ sumN c k = S ∧ Keep (fun k => k = cb) W w') from fun W cb hW hne hA => by
            have := settle_any cb S (partF (fr (fs.take k)) T l) (some ⟨gb, off, none⟩) cap gb off (fs.take k) W (by rw [hkl]; exact hA) hW (fun _ => hne) hut (by rw [hkl]; omega) (by rw [hkl]; exact hpi) (by rw [hkl]; omega) (by rw [hkl]; exact hUS) hSb
            rwa [hkl] at this)
          have HMR := (show Hid (∀ W cb (c : Nat → Nat), RowI W .u32 (some ⟨gb, off, none⟩) cap gb off (fs.take k) → gb ≠ cb → IsA W cb 184 .i16 k (fun i => ((c i : Nat) : Int)) → InvC (fr (fs.take k)) c k → Calls Tryz.prog 110 #[.slice (some ⟨cb, 0, none⟩) k k, .slice (some ⟨gb, off, none⟩) k cap, .int .u64 (T : Int), .int .i64 (l : Int)] W fun e w' => e = .returned (.tuple #[]) ∧ IsA w' cb 184 .i16 k (markF (fr (fs.take k)) c T l) ∧ Keep (fun k => k = cb) W w') from fun W cb c hW hne hA hI => by
            have := markRare_any cb c (some ⟨gb, off, none⟩) cap gb off (fs.take k) l T W (by rw [hkl]; exact hA) hW (fun _ => hne) hut (by rw [hkl]; omega) (by omega) (by omega) (fun i hi => (hI i (by omega)).2.2)
            rwa [hkl] at this)
          have hgbl := hRk.block (by intro e; rw [e] at hkl; simp at hkl; omega)
          have HFX := (show Hid (0 < fr (fs.take k) (k - 1) ∧ RowI w' .u32 (some ⟨gb, off, none⟩) cap gb off (fs.take k) ∧ gb < w'.heap.size ∧ k = m + 1) from ⟨hfp, hRk, hgbl, hm⟩)
          have hTI : (T : Int) ≤ 1099511627776 := by omega
          clear hR hu hRk hkl hut hus hsu hub hf1 hfp hT hTb hpi hgbl HAB hz hU1 hm
          generalize usedC (fr (fs.take k)) k = U at *
          generalize fr fs m = fm at *
          go_wp2_with (go_at_call 107; refine (HSU.out).mono ?_; rintro e w1 ⟨rfl, rfl⟩)
          refine (HW.out _ HFX.out.2.1).mono ?_
          rintro e w2 ⟨rfl, hA2, hK2⟩
          obtain ⟨cb, hcb⟩ : ∃ cb, cb = w1.heap.size := ⟨_, rfl⟩
          rw [← hcb] at hA2 ⊢
          have HCB := (show Hid (cb = w1.heap.size ∧ gb ≠ cb) from ⟨hcb, by have := HFX.out.2.2.1; omega⟩)
          have hR2 := HFX.out.2.1.keep hK2 (fun _ h => h)
          clear hcb
          go_wp2_with fail
          refine (HST.out w2 cb hR2 HCB.out.2 hA2).mono ?_
          rintro e w3 ⟨rfl, c, hA3, hI3, hS3, hK3⟩
          have hR3 := hR2.keep hK3 (fun _ => HCB.out.2)
          have HI := (show Hid (InvC (fr (fs.take k)) c k ∧ sumN c k = S) from ⟨hI3, hS3⟩)
          clear hS3
          go_wp2_with fail
          refine (HMR.out w3 cb c hR3 HCB.out.2 hA3 hI3).mono ?_
          rintro e w4 ⟨rfl, hA4, hK4⟩
          go_wp2_with fail
          go_ret2
          have hcbe := HCB.out.1
          have kk : Keep noBlock w1 w4 := (hK2.trans hK3 (fun i hi e => by omega)).trans hK4 (fun i hi e => by omega)
          have hol := outC_length (fr (fs.take k)) c T l k
          refine .inr ⟨HF.out, cb, outC (fr (fs.take k)) c T l k, by rw [hol]; rfl, ⟨.inl rfl, (fun e => by cases e), fun j hj => ?_, Nat.le_refl _⟩, ?_, fun i => ?_, by rw [hol]; omega, fun i hi => ?_, kk⟩
          · rw [hol] at hj
            rw [Nat.zero_add, hA4.cell j hj, outC_at _ _ _ _ _ _ hj]
          · exact out_ok _ _ _ _ _ hl5 hl12 hk0 (by omega) HI.out.1 HFX.out.1 (by rw [HI.out.2]; exact HSE.out)
          · by_cases hi : i < k
            · rw [outC_at _ _ _ _ _ _ hi]
              have := mark_bounds (fr (fs.take k)) c T l i (HI.out.1 i hi).2.2
              omega
            · rw [List.getElem?_eq_none (by omega)]; simp
          · rw [hol]
            by_cases hik : i < k
            · rw [outC_at _ _ _ _ _ _ hik, ← fr_take fs k i hik]
              have h1 := HI.out.1 i hik
              have h2 := mark_zero (fr (fs.take k)) c T l i
              constructor
              · intro h; exact ⟨hik, fun e => by have := h2.1 e; have := h1.1 h; omega⟩
              · rintro ⟨_, h⟩
                rcases Nat.eq_zero_or_pos (fr (fs.take k) i) with e | e
                · exact absurd (h2.2 (h1.2.1 e)) h
                · exact e
            · have h3 := HZ.out i (by omega) hi
              rw [h3]
              constructor
              · intro h; omega
              · rintro ⟨h, _⟩; exact absurd h hik
        · have hUSI : (S : Int) < ((usedC (fr (fs.take k)) k : Nat) : Int) := by omega
          have HF := (show Hid (ableF fs (l : Int) = false) from by rw [HAB.out]; exact decide_eq_false (fun h => hUS h.2))
          have hTI : ((sumN (fr (fs.take k)) k : Nat) : Int) ≤ 1099511627776 := by omega
          clear hR hu hRk hkl hut hus hsu hub hf1 hfp hTb HAB hz hU1 hm hTp
          generalize usedC (fr (fs.take k)) k = U at *
          generalize sumN (fr (fs.take k)) k = T at *
          generalize fr fs m = fm at *
          go_wp2_with (go_at_call 107; refine (HSU.out).mono ?_; rintro e w1 ⟨rfl, rfl⟩)
          go_ret2
          exact .inl ⟨HF.out, rfl, rfl⟩
end

end Go.Proofs.YtcoahkmiebeeeaaGreatDoor

namespace Go.Proofs.YtcoahkmiebeeeaaGreatDoor
open Go.RowKit Go.Shelf
set_option linter.unusedVariables false

attribute [local go_sem] Oper.semAt_some

theorem fqN_full (M : List Nat) (k s : Nat) (h : ∀ i, i < k → wt M i = s) : fqN M k s = k := by
  induction k with
  | zero => rfl
  | succ k ih => rw [fqN_succ, ih (fun i hi => h i (by omega)), if_pos (h k (by omega))]
theorem fr_fqL (M : List Nat) (s : Nat) (hs : s < 12) : fr (fqL M) s = fqF M s := by
  unfold fr fqL
  rw [List.getElem?_map, List.getElem?_range hs]
  simp
theorem fqF_pos {M : List Nat} (i : Nat) (hi : i < M.length) : 0 < fqF M (wt M i) := by
  unfold fqF
  split
  · omega
  · exact fqN_pos M _ i hi
theorem fit_counts {M : List Nat} {x m : Nat} (hT : Told M x m) {xs : List Int} {l : Nat} (ok : okT xs (l : Int) = true) (hi : I16 xs) (hl : l ≤ 6) (hx : xs.length ≤ 12) (hc : ∀ i, i < 12 → (0 < fqF M i ↔ (i < xs.length ∧ xs[i]?.getD 0 ≠ 0))) : Fit M xs l := by
  refine ⟨ok, hi, hx, hl, fun i hi => ?_, fun s hs => ?_⟩
  · exact (hc _ (by have := hT.le i hi; omega)).1 (fqF_pos i hi)
  · obtain ⟨i1, h1, h2⟩ := hT.one
    by_cases hs1 : s = 1
    · by_cases hall : ∀ i, i < M.length → wt M i = 1
      · have h0 : 0 < fqF M 0 := by unfold fqF; rw [if_pos ⟨fqN_full M _ 1 hall, rfl⟩]; omega
        exact ⟨0, by omega, (hc 0 (by omega)).1 h0⟩
      · obtain ⟨i, hi⟩ : ∃ i, ¬ (i < M.length → wt M i = 1) := Classical.not_forall.1 hall
        have hi1 : i < M.length := Classical.byContradiction fun q => hi (fun h => absurd h q)
        have hi2 : wt M i ≠ 1 := fun q => hi (fun _ => q)
        exact ⟨wt M i, by omega, (hc _ (by have := hT.le i hi1; omega)).1 (fqF_pos i hi1)⟩
    · have := fqF_pos i1 h1
      rw [h2] at this
      exact ⟨1, fun e => hs1 e.symm, (hc 1 (by omega)).1 this⟩

set_option maxHeartbeats 1000000 in
theorem tables_in (F : Fence) (n : Nat) (h55 : F.fn 68) (hro : F.round = none) (a : Option Addr) (len cap : Nat) (w : World) :
    CallsIn F n Tryz.prog 68 #[.slice a len cap] w fun e w' => e = .returned (.func (.func 91) #[] #[.pointer (some ⟨w.heap.size, 0, none⟩)]) ∧ w' = w.alloc (.cells #[.slice a len cap] 22) := by
  refine callsIn_of_wp Tryz.func68 rfl h55 ?_ hro
  simp only [Tryz.ntmps68, List.size_toArray, List.length_cons, List.length_nil, Nat.reduceAdd, Nat.reduceSub, Array.replicate_succ, Array.replicate_zero, List.push_toArray, List.append_toArray, List.nil_append, List.cons_append]
  gi_wp2
  go_ret
  exact ⟨rfl, rfl⟩

def tabR (M : List Nat) (p : Bool) (vs : Array Value) (p' : Bool) (V : World) : Prop := ∃ (xs : List Int) (l : Nat) (a : Option Addr) (cap gb off : Nat), vs = #[.int .i64 (l : Int), .slice a xs.length cap] ∧ RowI V .i16 a cap gb off xs ∧ Fit M xs l ∧ p' = (p || decide (xs = sureL ∧ l = 6))

set_option maxRecDepth 100000 in
set_option maxHeartbeats 4000000 in
theorem tables1_in (n : Nat) (hn : 1 ≤ n) (l Bs : Nat) (a : Option Addr) (cap gb off : Nat) (M : List Nat) (x m : Nat) (hT : Told M x m) (J : Bool → World → Prop)
    (hD : ∀ p X Y, J p X → Keep noBlock X Y → J p Y)
    (hY : ∀ p vs p' V, tabR M p vs p' V → J p V → YieldAt Fence.wide (n - 1) Tryz.prog l vs V fun e W' => e = .returned (.bool true) ∧ J p' W' ∧ KpL l V W') (W : World) (hb0 : BBox Bs a cap gb off M W) (p0 : Bool) (h0 : J p0 W) :
    CallsIn Fence.wide n Tryz.prog 91 #[.func (.yield l) #[] #[], .pointer (some ⟨Bs, 0, none⟩)] W fun e W' => (∃ v, e = .returned v) ∧ J true W' := by
  have c1 : W.cell? ⟨Bs, 0, none⟩ = some (.slice a M.length cap) := cell_of hb0.box 0
  have HF := (show Hid (Calls Tryz.prog 92 #[.slice a M.length cap] W _) from freqOf_any a cap gb off M W hb0.row hT.len hT.le)
  have HH := (show Hid (Told M x m ∧ (∀ p X Y, J p X → Keep noBlock X Y → J p Y) ∧ J p0 W) from ⟨hT, hD, h0⟩)
  have HY := (show Hid (∀ p vs p' V, tabR M p vs p' V → J p V → _) from hY)
  obtain ⟨N, hN⟩ : ∃ N, N = M.length := ⟨_, rfl⟩
  rw [← hN] at c1 HF
  obtain ⟨F, hF⟩ : ∃ F : Nat → Int, F = fun s => ((fqF M s : Nat) : Int) := ⟨_, rfl⟩
  rw [← hF] at HF
  have HF := (show Hid (Calls Tryz.prog 92 #[.slice a N cap] W fun e w' => e = .returned (.agg #[.int .u32 (F 0), .int .u32 (F 1), .int .u32 (F 2), .int .u32 (F 3), .int .u32 (F 4), .int .u32 (F 5), .int .u32 (F 6), .int .u32 (F 7), .int .u32 (F 8), .int .u32 (F 9), .int .u32 (F 10), .int .u32 (F 11)]) ∧ Keep noBlock W w') from HF.out)
  have HFE := (show Hid (F = fun s => ((fqF M s : Nat) : Int)) from hF)
  clear hY hb0 hN hD hT h0 hF
  refine callsIn_of_wp Tryz.func91 rfl trivial ?_ rfl
  simp only [Tryz.ntmps91, List.size_toArray, List.length_cons, List.length_nil, Nat.reduceAdd, Nat.reduceSub, Array.replicate_succ, Array.replicate_zero, List.push_toArray, List.append_toArray, List.nil_append, List.cons_append]
  gi_wp2_with (refine ⟨trivial, ?_⟩; gi_at_call 92; refine (callsIn_wide.2 HF.out).mono ?_; rintro e w1 ⟨rfl, hK1⟩)
  obtain ⟨fb, hfb⟩ : ∃ fb, fb = w1.heap.size := ⟨_, rfl⟩
  have HA := (show Hid ((w1.alloc (.cells #[.int .u32 (F 0), .int .u32 (F 1), .int .u32 (F 2), .int .u32 (F 3), .int .u32 (F 4), .int .u32 (F 5), .int .u32 (F 6), .int .u32 (F 7), .int .u32 (F 8), .int .u32 (F 9), .int .u32 (F 10), .int .u32 (F 11)] 172)).heap[fb]? = some (.cells (fqA F) 172 (0, 0)) ∧ J p0 (w1.alloc (.cells #[.int .u32 (F 0), .int .u32 (F 1), .int .u32 (F 2), .int .u32 (F 3), .int .u32 (F 4), .int .u32 (F 5), .int .u32 (F 6), .int .u32 (F 7), .int .u32 (F 8), .int .u32 (F 9), .int .u32 (F 10), .int .u32 (F 11)] 172))) from ⟨by rw [hfb]; exact World.alloc_heap_new w1 _, HH.out.2.1 _ _ _ HH.out.2.2 (hK1.alloc _)⟩)
  generalize w1.alloc (.cells #[.int .u32 (F 0), .int .u32 (F 1), .int .u32 (F 2), .int .u32 (F 3), .int .u32 (F 4), .int .u32 (F 5), .int .u32 (F 6), .int .u32 (F 7), .int .u32 (F 8), .int .u32 (F 9), .int .u32 (F 10), .int .u32 (F 11)] 172) = W1 at HA ⊢
  rw [← hfb]
  clear hfb hK1 c1 HF
  gi_loopw [4] (fun v4 wr => ∃ (lg : Nat) (p : Bool), v4 = .int .i64 (lg : Int) ∧ lg ≤ 7 ∧ 5 ≤ lg ∧ Hid (wr.heap[fb]? = some (.cells (fqA F) 172 (0, 0)) ∧ J p wr)) (fun v4 _ => 7 - (intOf v4).toNat)
  case atStart => exact ⟨5, p0, rfl, by omega, by omega, HA.out⟩
  case round =>
    clear HA
    obtain ⟨lg, p, rfl, h7, h5, HC⟩ := hrel
    by_cases hlt : lg ≤ 6
    · have hltI : (lg : Int) ≤ 6 := by omega
      have hl : (fqL M).length = 12 := by simp [fqL]
      have hrow : RowI wr .u32 (some ⟨fb, 0, none⟩) 12 fb 0 (fqL M) := by
        refine ⟨.inl rfl, (fun e => by cases e), fun j hj => ?_, by omega⟩
        rw [hl] at hj
        rw [Nat.zero_add, cell_of HC.out.1]
        unfold fqL
        rw [List.getElem?_map, List.getElem?_range hj, HFE.out]
        rcases (show j = 0 ∨ j = 1 ∨ j = 2 ∨ j = 3 ∨ j = 4 ∨ j = 5 ∨ j = 6 ∨ j = 7 ∨ j = 8 ∨ j = 9 ∨ j = 10 ∨ j = 11 by omega) with rfl | rfl | rfl | rfl | rfl | rfl | rfl | rfl | rfl | rfl | rfl | rfl <;> rfl
      have hu : U32 (fqL M) := fun j => by
        by_cases hj : j < 12
        · unfold fqL
          rw [List.getElem?_map, List.getElem?_range hj]
          have h1 := fqN_le M M.length j
          have h2 := HH.out.1.len
          simp only [Option.map_some, Option.getD_some]
          unfold fqF
          split <;> omega
        · rw [List.getElem?_eq_none (by omega)]; simp
      have HCt := (show Hid (Calls Tryz.prog 93 #[.slice (some ⟨fb, 0, none⟩) 12 12, .int .i64 (lg : Int)] wr fun e w' => IsCounts (fqL M) lg wr e w') from by
        have := counts_in (some ⟨fb, 0, none⟩) 12 fb 0 (fqL M) lg wr hrow hu (by omega) h5 (by omega)
        rw [hl] at this
        exact this)
      clear hl hrow hu
      gi_wp2_with fail
      refine ⟨trivial, ?_⟩
      refine (callsIn_wide.2 HCt.out).mono ?_
      rintro e w2 (⟨hab, rfl, rfl⟩ | ⟨hab, cb, xs, rfl, hR, ok, hI, hxl, hcc, hK2⟩)
      · clear hab HCt
        gi_wp2
        refine ⟨(fun _ h => by cases h), ?_⟩
        gi_wp2
        go_roundw
        case rel => exact ⟨lg + 1, p, by go_num, by omega, by omega, HC.out⟩
        case measure => simp [intOf]; omega
      · have hxl12 : xs.length ≤ 12 := by simpa [fqL] using hxl
        have hfit : Fit M xs lg := fit_counts HH.out.1 ok hI hlt hxl12 (fun i hi => by
          have := hcc i (by simp [fqL]; exact hi)
          rw [fr_fqL M i hi] at this
          exact this)
        have hy2 := HY.out p _ _ w2 ⟨xs, lg, _, _, _, _, rfl, hR, hfit, rfl⟩ (HH.out.2.1 _ _ _ HC.out.2 hK2)
        have HK2 := (show Hid (w2.heap[fb]? = some (.cells (fqA F) 172 (0, 0))) from hK2.obj HC.out.1 (fun h => h))
        obtain ⟨q, hq⟩ : ∃ q, q = (p || decide (xs = sureL ∧ lg = 6)) := ⟨_, rfl⟩
        rw [← hq] at hy2
        obtain ⟨xl, hxle⟩ : ∃ xl, xl = xs.length := ⟨_, rfl⟩
        rw [← hxle] at hy2 ⊢
        obtain ⟨fn, tmps, assign, body, hy, hR2⟩ := hy2
        clear hab HCt hR ok hI hxl hcc hK2 hxl12 hfit hq hxle HC
        gi_wp2_with fail
        refine hR2.mono ?_
        rintro e W3 ⟨rfl, hJ3, hk3⟩
        have HE := (show Hid (W3.heap[fb]? = some (.cells (fqA F) 172 (0, 0)) ∧ J q W3) from ⟨hk3.cells _ _ _ (.inl rfl) HK2.out, hJ3⟩)
        clear hk3 hJ3 hR2
        gi_wp2
        go_roundw
        case rel => exact ⟨lg + 1, q, by go_num, by omega, by omega, HE.out⟩
        case measure => simp [intOf]; omega
    · obtain rfl : lg = 7 := by omega
      rw [show (((7 : Nat) : Int)) = (7 : Int) from rfl]
      gi_wp2_with fail
      refine ⟨trivial, ?_⟩
      refine (callsIn_wide.2 (sureCounts_any wr)).mono ?_
      rintro e w2 ⟨g, rfl, hg, hR, hK2⟩
      have hy2 := HY.out p _ _ w2 ⟨sureL, 6, _, _, _, _, rfl, hR, sure_fit HH.out.1, rfl⟩ (HH.out.2.1 _ _ _ HC.out.2 hK2)
      rw [show (p || decide (sureL = sureL ∧ 6 = 6)) = true from by simp] at hy2
      rw [show (((6 : Nat) : Int)) = (6 : Int) from rfl] at hy2
      obtain ⟨fn, tmps, assign, body, hy, hR2⟩ := hy2
      clear hR hK2 HC hg
      gi_wp2_with fail
      refine hR2.mono ?_
      rintro e W3 ⟨rfl, hJ3, hk3⟩
      gi_wp2
      go_end0
      exact ⟨⟨_, rfl⟩, hJ3⟩

end Go.Proofs.YtcoahkmiebeeeaaGreatDoor

namespace Go.Proofs.YtcoahkmiebeeeaaGreatDoor
open Go.RowKit Go.Shelf
set_option linter.unusedVariables false

set_option maxRecDepth 100000 in
set_option maxHeartbeats 1000000 in
theorem first1_any (x y z s B : Nat) (w : World) (hB : w.heap[B]? = some (.cells #[.int .u8 (s : Int)] 5 (0, 0))) :
    Calls Tryz.prog 131 #[.agg #[.int .u8 (x : Int), .int .u8 (y : Int), .int .u16 (z : Int)], .pointer (some ⟨B, 0, none⟩)] w fun e w' => e = .returned (.bool (decide (x = s))) ∧ Keep noBlock w w' := by
  have hk : Keep noBlock w (w.alloc (.cells #[.int .u8 (x : Int), .int .u8 (y : Int), .int .u16 (z : Int)] 157)) := (Keep.refl _ w).alloc _
  have c1 : (w.alloc (.cells #[.int .u8 (x : Int), .int .u8 (y : Int), .int .u16 (z : Int)] 157)).cell? ⟨B, 0, none⟩ = some (.int .u8 (s : Int)) := cell_of (hk.obj hB (fun h => h)) 0
  have HK := (show Hid _ from hk)
  by_cases h : x = s
  · subst h
    rw [decide_eq_true rfl]
    have e1 : ((x : Int) == (x : Int)) = true := by simp
    clear hB hk
    go_enter Tryz.func131, Tryz.ntmps131
    go_wp2
    go_ret
    exact ⟨rfl, HK.out⟩
  · rw [decide_eq_false h]
    have e1 : ((x : Int) == (s : Int)) = false := by rw [beq_eq_false_iff_ne]; omega
    clear hB hk
    go_enter Tryz.func131, Tryz.ntmps131
    go_wp2
    go_ret
    exact ⟨rfl, HK.out⟩

set_option maxRecDepth 100000 in
set_option maxHeartbeats 2000000 in
theorem indexFunc_any (g n cap s B : Nat) (sy bi ba : Nat → Nat) (w : World) (hB : w.heap[B]? = some (.cells #[.int .u8 (s : Int)] 5 (0, 0))) (hT : RowT w g n sy bi ba) (hn : n ≤ 4096) (hex : ∃ i, i < n ∧ sy i = s) :
    Calls Tryz.prog 130 #[.slice (some ⟨g, 0, none⟩) n cap, .func (.func 131) #[] #[.pointer (some ⟨B, 0, none⟩)]] w fun e w' => ∃ i : Nat, e = .returned (.int .i64 (i : Int)) ∧ i < n ∧ sy i = s ∧ (∀ j, j < i → sy j ≠ s) ∧ Keep noBlock w w' := by
  have HH := (show Hid (RowT w g n sy bi ba ∧ (∃ i, i < n ∧ sy i = s) ∧ w.heap[B]? = some (.cells #[.int .u8 (s : Int)] 5 (0, 0))) from ⟨hT, hex, hB⟩)
  have hnI : (n : Int) ≤ 4096 := by omega
  clear hT hex hB
  go_enter Tryz.func130, Tryz.ntmps130
  go_wp2_with fail
  go_loopw [8] (fun v8 wr => ∃ i : Nat, v8 = .int .i64 (i : Int) ∧ i ≤ n ∧ Hid (Keep noBlock w wr ∧ ∀ j, j < i → sy j ≠ s)) (fun v8 _ => n - (intOf v8).toNat)
  case atStart => exact ⟨0, rfl, Nat.zero_le _, Keep.refl _ _, fun j hj => by omega⟩
  case round =>
    obtain ⟨i, rfl, hi, HC⟩ := hrel
    have hin : i < n := by
      obtain ⟨j, hj, hs⟩ := HH.out.2.1
      rcases Nat.lt_or_ge i n with h | h
      · exact h
      · exact absurd hs (HC.out.2 j (by omega))
    obtain ⟨hK, hno⟩ := HC.out
    obtain ⟨c1, c2, c3⟩ := (HH.out.1.keep hK (fun h => h)).cells i hin
    have hiI : (i : Int) < (n : Int) := by omega
    have HF := (show Hid (Calls Tryz.prog 131 #[.agg #[.int .u8 ((sy i : Nat) : Int), .int .u8 ((bi i : Nat) : Int), .int .u16 ((ba i : Nat) : Int)], .pointer (some ⟨B, 0, none⟩)] wr _) from first1_any (sy i) (bi i) (ba i) s B wr (hK.obj HH.out.2.2 (fun h => h)))
    have HK := (show Hid _ from hK)
    have HN := (show Hid (∀ j, j < i → sy j ≠ s) from hno)
    obtain ⟨x, hx⟩ : ∃ x, x = sy i := ⟨_, rfl⟩
    have HX := (show Hid (x = sy i) from hx)
    rw [← hx] at HF c1
    generalize bi i = y at *
    generalize ba i = z at *
    clear hK hno HC hi hx
    by_cases hxe : x = s
    · rw [decide_eq_true hxe] at HF
      have HXE := (show Hid (x = s) from hxe)
      clear hxe
      go_wp2_with fail
      refine HF.out.mono ?_; rintro e w1 ⟨rfl, hK1⟩
      go_wp2_with fail
      go_ret
      exact ⟨i, rfl, hin, by rw [← HX.out]; exact HXE.out, HN.out, HK.out.trans' hK1⟩
    · rw [decide_eq_false hxe] at HF
      go_wp2_with (go_at_call 131; refine HF.out.mono ?_; rintro e w1 ⟨rfl, hK1⟩)
      go_roundw
      case rel => exact ⟨i + 1, by go_num, by omega, HK.out.trans' hK1, fun j hj => by
        by_cases e : j = i
        · subst e; rw [← HX.out]; exact hxe
        · exact HN.out j (by omega)⟩
      case measure => simp [intOf]; omega

set_option maxRecDepth 100000 in
set_option maxHeartbeats 1000000 in
theorem firstOf_any (g n cap s : Nat) (sy bi ba : Nat → Nat) (w : World) (hT : RowT w g n sy bi ba) (hn : n ≤ 4096) (hex : ∃ i, i < n ∧ sy i = s) :
    Calls Tryz.prog 117 #[.slice (some ⟨g, 0, none⟩) n cap, .int .u8 (s : Int)] w fun e w' => ∃ i : Nat, e = .returned (.int .i64 (i : Int)) ∧ i < n ∧ sy i = s ∧ (∀ j, j < i → sy j ≠ s) ∧ Keep noBlock w w' := by
  have hk : Keep noBlock w (w.alloc (.cells #[.int .u8 (s : Int)] 5)) := (Keep.refl _ w).alloc _
  have HI := (show Hid (Calls Tryz.prog 130 _ (w.alloc (.cells #[.int .u8 (s : Int)] 5)) _) from indexFunc_any g n cap s w.heap.size sy bi ba _ (World.alloc_heap_new w _) (hT.keep hk (fun h => h)) hn hex)
  have HK := (show Hid _ from hk)
  clear hT hex hk
  go_enter Tryz.func117, Tryz.ntmps117
  go_wp2_with (go_at_call 130; refine HI.out.mono ?_; rintro e w1 ⟨i, rfl, h1, h2, h3, hK1⟩)
  go_ret
  exact ⟨i, rfl, h1, h2, h3, HK.out.trans' hK1⟩

end Go.Proofs.YtcoahkmiebeeeaaGreatDoor

namespace Go.Proofs.YtcoahkmiebeeeaaGreatDoor
open Go.RowKit Go.Shelf
set_option linter.unusedVariables false

attribute [local go_sem] Oper.semAt_some

/-- What a table must have for weights to be put. -/
structure Tells (sy bi ba : Nat → Nat) (S l : Nat) (M : List Nat) : Prop where
  pow : S = 2 ^ l
  l12 : l ≤ 12
  fits : Fits sy bi ba S
  leads : ∀ i, i < M.length → ∀ nx, nx < S → ∃ j, Leads sy bi ba S (wt M i) nx j
  first : ∀ i, i < M.length → ∀ j, j < S → sy j = wt M i → (∀ j', j' < j → sy j' ≠ wt M i) → 1 ≤ bi j
  lt : ∀ i, i < M.length → wt M i < 256

def pr (p0 p1 i : Nat) : Nat := if i % 2 = 0 then p0 else p1
def PtS (sy bi ba : Nat → Nat) (S : Nat) (M : List Nat) (k p0 p1 : Nat) (L : List (Fin 2)) : Prop :=
  (k = M.length ∧ L = []) ∨ (k + 1 = M.length ∧ L = [] ∧ pr p0 p1 k < S ∧ sy (pr p0 p1 k) = wt M k) ∨ (k + 2 ≤ M.length ∧ Lay sy bi ba S (M.drop k) (pr p0 p1 k) (pr p0 p1 (k + 1)) L)
theorem PtS.len {sy bi ba : Nat → Nat} {S : Nat} {M : List Nat} {k p0 p1 : Nat} {L : List (Fin 2)} (h : PtS sy bi ba S M k p0 p1 L) (hb : ∀ i, i < S → bi i ≤ 12) (hl : M.length ≤ 255) : L.length ≤ 3060 := by
  rcases h with ⟨_, rfl⟩ | ⟨_, rfl, _⟩ | ⟨_, h⟩
  · simp
  · simp
  · have h1 := h.bits (bd := fun _ => 12) hb
    have h2 := costL_le (fun _ => 12) 12 (M.drop k) (fun _ _ => Nat.le_refl _)
    rw [List.length_drop] at h2
    omega

/-- What putByTurns has, while weights are put. -/
structure PtJ (w : World) (a : Option Addr) (n cap tg S tcap b : Nat) (p0 p1 : Nat) (L : List (Fin 2)) (V : World) : Prop where
  bx : V.heap[b]? = some (.cells #[.slice a n cap] 22 (0, 0))
  cx : V.heap[b + 1]? = some (.cells #[.slice (some ⟨tg, 0, none⟩) S tcap] 117 (0, 0))
  pb : V.heap[b + 1 + 1 + 1]? = some (.cells #[.pointer (some ⟨b + 1 + 1, 0, none⟩)] 90 (0, 0))
  prs : V.heap[b + 1 + 1 + 1 + 1]? = some (.cells #[.int .i64 (p0 : Int), .int .i64 (p1 : Int)] 209 (0, 0))
  bb : V.heap[b + 1 + 1 + 1 + 1 + 1]? = some (.cells #[.slice a n cap] 22 (0, 0))
  wr : Tl.MineT w V (b + 1 + 1) L
theorem PtJ.keepN {w : World} {a : Option Addr} {n cap tg S tcap b p0 p1 : Nat} {L : List (Fin 2)} {U V : World} {B : Nat} (h : PtJ w a n cap tg S tcap b p0 p1 L U) (hk : KeepN B U V) (hB : w.heap.size ≤ B) : PtJ w a n cap tg S tcap b p0 p1 L V :=
  ⟨hk.obj h.bx, hk.obj h.cx, hk.obj h.pb, hk.obj h.prs, hk.obj h.bb, h.wr.keepN hk hB⟩
theorem PtJ.keeps {w : World} {a : Option Addr} {n cap tg S tcap b p0 p1 : Nat} {L : List (Fin 2)} {U V : World} (h : PtJ w a n cap tg S tcap b p0 p1 L U) (hk : Keep noBlock U V) : PtJ w a n cap tg S tcap b p0 p1 L V :=
  ⟨hk.obj h.bx (fun h => h), hk.obj h.cx (fun h => h), hk.obj h.pb (fun h => h), hk.obj h.prs (fun h => h), hk.obj h.bb (fun h => h), h.wr.keeps hk⟩

theorem mineT_set {w V : World} {wb q t : Nat} {L : List (Fin 2)} {cs : Array Value} (h : Tl.MineT w V wb L) (ho : V.heap[q]? = some (.cells cs t (0, 0))) (ht : t ≠ 5) (hne : q ≠ wb) (hq : w.heap.size ≤ q) (i : Nat) (x : Value) : Tl.MineT w (V.setCell ⟨q, i, none⟩ x) wb L := by
  have hk : Keep (fun j => j = q) V (V.setCell ⟨q, i, none⟩ x) := (Keep.refl (fun j => j = q) V).setCell (p := ⟨q, i, none⟩) (fun _ => rfl) _
  obtain ⟨v, hv, hn⟩ := h.is
  refine ⟨⟨v, hv.keep hk (fun e => hne e.symm) (fun k e e2 => ?_), hn⟩, h.new, h.keep.trans hk (fun k hk e => by omega)⟩
  subst e2
  exact owns_ne hv.row ho ht e
theorem PtJ.set {w : World} {a : Option Addr} {n cap tg S tcap b p0 p1 : Nat} {L : List (Fin 2)} {V : World} (h : PtJ w a n cap tg S tcap b p0 p1 L V) (hb : b = w.heap.size) (r i : Nat) (hr : r < 2) :
    PtJ w a n cap tg S tcap b (if r = 0 then i else p0) (if r = 0 then p1 else i) L (V.setCell ⟨b + 1 + 1 + 1 + 1, r, none⟩ (.int .i64 (i : Int))) := by
  refine ⟨set_far h.bx (by omega) _ _, set_far h.cx (by omega) _ _, set_far h.pb (by omega) _ _, ?_, set_far h.bb (by omega) _ _, mineT_set h.wr h.prs (by decide) (by omega) (by omega) _ _⟩
  rw [set_obj h.prs]
  rcases (show r = 0 ∨ r = 1 by omega) with rfl | rfl
  · simp
  · simp
theorem pr_set (p0 p1 k r i : Nat) (hr : r = k % 2) : pr (if r = 0 then i else p0) (if r = 0 then p1 else i) k = i ∧ pr (if r = 0 then i else p0) (if r = 0 then p1 else i) (k + 1) = pr p0 p1 (k + 1) := by
  subst hr
  unfold pr
  rcases (show k % 2 = 0 ∨ k % 2 = 1 by omega) with e | e
  · have e2 : (k + 1) % 2 = 1 := by omega
    simp [e, e2]
  · have e2 : (k + 1) % 2 = 0 := by omega
    simp [e, e2]
theorem PtJ.pair {w : World} {a : Option Addr} {n cap tg S tcap b p0 p1 : Nat} {L : List (Fin 2)} {V : World} (h : PtJ w a n cap tg S tcap b p0 p1 L V) (k r : Nat) (hr : r = k % 2) : V.cell? ⟨b + 1 + 1 + 1 + 1, r, none⟩ = some (.int .i64 ((pr p0 p1 k : Nat) : Int)) := by
  rw [cell_of h.prs]
  unfold pr
  rcases (show k % 2 = 0 ∨ k % 2 = 1 by omega) with e | e
  · rw [if_pos e, hr, e]; rfl
  · rw [if_neg (by omega), hr, e]; rfl
theorem pr_two (p0 p1 k : Nat) : pr p0 p1 (k + 1 + 1) = pr p0 p1 k := by
  unfold pr
  rcases (show k % 2 = 0 ∨ k % 2 = 1 by omega) with e | e
  · rw [if_pos (by omega), if_pos e]
  · rw [if_neg (by omega), if_neg (by omega)]

set_option maxRecDepth 100000 in
set_option maxHeartbeats 4000000 in
theorem putByTurns_any (a : Option Addr) (cap gb off : Nat) (M : List Nat) (tg S tcap l : Nat) (sy bi ba : Nat → Nat) (w : World) (hB : Bytes w a cap gb off M) (hT : RowT w tg S sy bi ba) (hL : Tells sy bi ba S l M) (h2 : 2 ≤ M.length) (hl : M.length ≤ 255) :
    Calls Tryz.prog 96 #[.slice a M.length cap, .slice (some ⟨tg, 0, none⟩) S tcap, .int .i64 (l : Int)] w fun e w' => ∃ v own other L, e = .returned v ∧ Lay sy bi ba S M own other L ∧
      w'.ownsRow 0 5 1 v (pack (L ++ low other l ++ low own l ++ [1])).length (u8s (pack (L ++ low other l ++ low own l ++ [1]))) ∧ Keep noBlock w w' ∧ ∀ k, v.ownBlock = some k → w.heap.size ≤ k := by
  have HH := (show Hid (Bytes w a cap gb off M ∧ RowT w tg S sy bi ba ∧ Tells sy bi ba S l M) from ⟨hB, hT, hL⟩)
  obtain ⟨n, hn⟩ : ∃ n, n = M.length := ⟨_, rfl⟩
  have HN := (show Hid (n = M.length) from hn)
  rw [← hn] at h2 hl ⊢
  have hl12 := hL.l12
  have hlI : (l : Int) ≤ 12 := by omega
  have hnI : (n : Int) ≤ 255 := by omega
  have hn2 : (2 : Int) ≤ (n : Int) := by omega
  clear hB hT hL hn hl12
  refine (callsIn_wide (n := 6)).1 ?_
  refine callsIn_of_wp_marks Tryz.func96 rfl trivial ?_ rfl
  simp only [Tryz.ntmps96, List.size_toArray, List.length_cons, List.length_nil, Nat.reduceAdd, Nat.reduceSub, Array.replicate_succ, Array.replicate_zero, List.push_toArray, List.append_toArray, List.nil_append, List.cons_append]
  gi_wp2_with (refine ⟨trivial, ?_⟩; gi_at_call 42; refine (backward_in Fence.wide _ trivial rfl _ _ _ _).mono ?_; rintro e w' ⟨rfl, rfl⟩)
  obtain ⟨b, hb⟩ : ∃ b, b = w.heap.size := ⟨_, rfl⟩
  have hJ0 : PtJ w a n cap tg S tcap b 0 0 [] ((((((w.alloc (.cells #[.slice a n cap] 22)).alloc (.cells #[.slice (some ⟨tg, 0, none⟩) S tcap] 117)).alloc (.cells #[.slice none 0 0, .int .u8 0, .int .i64 0] 92)).alloc (.cells #[.pointer (some ⟨w.heap.size + 1 + 1, 0, none⟩)] 90)).alloc (.cells #[.int .i64 0, .int .i64 0] 209)).alloc (.cells #[.slice a n cap] 22)) := by
    have o1 := World.alloc_heap_new w (.cells #[.slice a n cap] 22)
    have o2 := World.alloc_heap_new (w.alloc (.cells #[.slice a n cap] 22)) (.cells #[.slice (some ⟨tg, 0, none⟩) S tcap] 117)
    have o3 := Tl.mineT_new w ((w.alloc (.cells #[.slice a n cap] 22)).alloc (.cells #[.slice (some ⟨tg, 0, none⟩) S tcap] 117)) (((Keep.refl _ w).alloc _).alloc _)
    have o4 := World.alloc_heap_new (((w.alloc (.cells #[.slice a n cap] 22)).alloc (.cells #[.slice (some ⟨tg, 0, none⟩) S tcap] 117)).alloc (.cells #[.slice none 0 0, .int .u8 0, .int .i64 0] 92)) (.cells #[.pointer (some ⟨w.heap.size + 1 + 1, 0, none⟩)] 90)
    have o5 := World.alloc_heap_new ((((w.alloc (.cells #[.slice a n cap] 22)).alloc (.cells #[.slice (some ⟨tg, 0, none⟩) S tcap] 117)).alloc (.cells #[.slice none 0 0, .int .u8 0, .int .i64 0] 92)).alloc (.cells #[.pointer (some ⟨w.heap.size + 1 + 1, 0, none⟩)] 90)) (.cells #[.int .i64 0, .int .i64 0] 209)
    have o6 := World.alloc_heap_new (((((w.alloc (.cells #[.slice a n cap] 22)).alloc (.cells #[.slice (some ⟨tg, 0, none⟩) S tcap] 117)).alloc (.cells #[.slice none 0 0, .int .u8 0, .int .i64 0] 92)).alloc (.cells #[.pointer (some ⟨w.heap.size + 1 + 1, 0, none⟩)] 90)).alloc (.cells #[.int .i64 0, .int .i64 0] 209)) (.cells #[.slice a n cap] 22)
    simp only [World.size_alloc] at o1 o2 o3 o4 o5 o6
    rw [← hb] at o1 o2 o3 o4 o5 o6 ⊢
    exact ⟨alloc_far (alloc_far (alloc_far (alloc_far (alloc_far o1 _) _) _) _) _, alloc_far (alloc_far (alloc_far (alloc_far o2 _) _) _) _, alloc_far (alloc_far o4 _) _, alloc_far o5 _, o6, o3.keeps ((((Keep.refl noBlock _).alloc _).alloc _).alloc _)⟩
  have hsz : ((((((w.alloc (.cells #[.slice a n cap] 22)).alloc (.cells #[.slice (some ⟨tg, 0, none⟩) S tcap] 117)).alloc (.cells #[.slice none 0 0, .int .u8 0, .int .i64 0] 92)).alloc (.cells #[.pointer (some ⟨w.heap.size + 1 + 1, 0, none⟩)] 90)).alloc (.cells #[.int .i64 0, .int .i64 0] 209)).alloc (.cells #[.slice a n cap] 22)).heap.size = b + 6 := by simp only [World.size_alloc]; rw [hb]
  generalize ((((((w.alloc (.cells #[.slice a n cap] 22)).alloc (.cells #[.slice (some ⟨tg, 0, none⟩) S tcap] 117)).alloc (.cells #[.slice none 0 0, .int .u8 0, .int .i64 0] 92)).alloc (.cells #[.pointer (some ⟨w.heap.size + 1 + 1, 0, none⟩)] 90)).alloc (.cells #[.int .i64 0, .int .i64 0] 209)).alloc (.cells #[.slice a n cap] 22)) = W0 at hJ0 hsz ⊢
  rw [← hb]
  have HBW := (show Hid (b = w.heap.size ∧ W0.heap.size = b + 6) from ⟨hb, hsz⟩)
  have HJ0 := (show Hid _ from hJ0)
  clear hb hsz hJ0
  refine range_iter (gf := 61) (by omega) rfl (enters_of Tryz.func61 (by kernel_rfl) rfl) (backR M) (fun p => p = 0) n (fun p U => ∃ p0 p1 L, PtJ w a n cap tg S tcap b p0 p1 L U ∧ PtS sy bi ba S M p p0 p1 L ∧ b + 6 ≤ U.heap.size)
    (fun l J Jx W _ hJI hD hY h0 => ?iter) (fun i vs i' V h => ?ps) (fun _ _ => False)
    (fun p vs p' a' U => ∃ x, p = p' + 1 ∧ p ≤ n ∧ x = M[p']?.getD 0 ∧
      a' = { tmps := #[.slice a n cap, .slice (some ⟨tg, 0, none⟩) S tcap, .int .i64 (l : Int), .pointer (some ⟨b, 0, none⟩), .pointer (some ⟨b + 1, 0, none⟩), undef, .slice none 0 0, .pointer (some ⟨b + 1 + 1 + 1, 0, none⟩), .pointer (some ⟨b + 1 + 1 + 1 + 1, 0, none⟩), .int .i64 (p' : Int), .int .u8 (x : Int), undef, undef, undef,
        .agg #[.slice none 0 0, .int .u8 0, .int .i64 0], .pointer (some ⟨b + 1 + 1, 0, none⟩), .slice a n cap, .func (.func 61) #[] #[.pointer (some ⟨b + 1 + 1 + 1 + 1 + 1, 0, none⟩)], .int .i64 (p' : Int), .int .u8 (x : Int),
        undef, undef, undef, undef, undef, undef, undef, undef, undef, undef, undef, undef, undef, undef, undef, undef, undef, undef, undef, undef, undef, undef, undef, undef, undef, undef, undef, undef, undef, undef, undef, undef, undef, undef, undef, undef, undef, undef, undef, undef, undef, undef, undef, undef, undef, undef, undef, undef, undef, undef, undef, undef, undef, undef, undef, undef, undef], defers := [] })
    (fun p U U' h hk => ?keepI) (fun _ _ _ h _ => h.elim) (fun p vs p' a' U U' h hk => h) ?start ?assign ?body ?done (fun _ _ h _ => h.elim)
  case iter =>
    refine (backward1_in 5 (by omega) l (b + 1 + 1 + 1 + 1 + 1) a cap gb off M J Jx (fun p U hp => ?_) hY W (by rw [← HN.out]; exact h0)).mono ?_
    · obtain ⟨p0, p1, L, hj, -, -⟩ := hJI p U hp
      exact ⟨by rw [← HN.out]; exact hj.bb, HH.out.1.keep hj.wr.keep (fun _ h => h)⟩
    · rintro e W' ⟨h1, h2⟩
      exact ⟨h1, h2.imp (fun h => ⟨_, rfl, h⟩) (fun h => h)⟩
  case ps =>
    obtain ⟨_, _, rfl⟩ := h
    rfl
  case keepI =>
    obtain ⟨p0, p1, L, h1, h2, h3⟩ := h
    exact ⟨p0, p1, L, h1.keepN hk (by have := HBW.out; omega), h2, Nat.le_trans h3 hk.size⟩
  case start => exact ⟨0, 0, [], HJ0.out, .inl ⟨HN.out, rfl⟩, by have := HBW.out; omega⟩
  case assign =>
    rintro p vs p' U K ⟨h1, h2, rfl⟩ hi hK
    unfold backV
    gi_wp2
    exact hK _ _ (KeepsFrom.refl _ _) hi ⟨_, h1, by rw [HN.out]; exact h2, rfl, rfl⟩
  case body =>
    rintro p vs p' a' V ⟨p0, p1, L, hj, hst, hsz2⟩ ⟨x, rfl, hp, hx, rfl⟩
    have hpx : p' < M.length := by have := HN.out; omega
    have hxw : x = wt M p' := hx
    have hx256 := HH.out.2.2.lt p' hpx
    rw [← hxw] at hx256
    have hxI : (x : Int) < 256 := by omega
    have hTV := HH.out.2.1.keep hj.wr.keep (fun h => h)
    have c0 : V.cell? ⟨b, 0, none⟩ = some (.slice a n cap) := cell_of hj.bx 0
    have c1 : V.cell? ⟨b + 1, 0, none⟩ = some (.slice (some ⟨tg, 0, none⟩) S tcap) := cell_of hj.cx 0
    have hS12 : S ≤ 4096 := by rw [HH.out.2.2.pow]; exact Nat.pow_le_pow_right (n := 2) (j := 12) (by omega) HH.out.2.2.l12
    obtain ⟨r, hr⟩ : ∃ r, r = p' % 2 := ⟨_, rfl⟩
    have hr2 : r < 2 := by omega
    have hrI : (r : Int) < 2 := by omega
    have hrM : (p' : Int) % 2 = (r : Int) := by omega
    have hrT : (p' : Int).tmod 2 = (r : Int) := by rw [Int.tmod_eq_emod_of_nonneg (by omega)]; exact hrM
    have HJ := (show Hid (PtJ w a n cap tg S tcap b p0 p1 L V ∧ PtS sy bi ba S M (p' + 1) p0 p1 L ∧ p' < M.length ∧ x = wt M p' ∧ r = p' % 2 ∧ b + 6 ≤ V.heap.size) from ⟨hj, hst, hpx, hxw, hr, hsz2⟩)
    have hp255 : (p' : Int) < 255 := by omega
    by_cases hge : n ≤ p' + 2
    · have hgeI : (n : Int) - 2 ≤ (p' : Int) := by omega
      have HF := (show Hid (Calls Tryz.prog 117 #[.slice (some ⟨tg, 0, none⟩) S tcap, .int .u8 (x : Int)] V _) from firstOf_any tg S tcap x sy bi ba V hTV hS12 (by
        obtain ⟨j, hj1, hj2, -⟩ := HH.out.2.2.leads p' hpx 0 (by rw [HH.out.2.2.pow]; exact Nat.two_pow_pos _)
        exact ⟨j, hj1, by rw [hj2, hxw]⟩))
      clear hj hst hpx hxw hx hTV hr hsz2
      gi_wp2_with (refine ⟨trivial, ?_⟩; gi_at_call 117; refine (CallsIn.inRound _ (callsIn_wide.2 HF.out)).mono ?_; rintro e w1 ⟨i, rfl, h1, h2, h3, hK1⟩; have hj1 := HJ.out.1.keeps hK1; have c4 := hj1.pair p' r HJ.out.2.2.2.2.1; have f4 := frozen_of hj1.prs r)
      obtain ⟨hj, hst, hpx, hxw, hr, hsz2⟩ := HJ.out
      have hn := HN.out
      refine ⟨(KeepsFrom.trans (⟨hK1.size, fun k' o _ ho _ => hK1.obj ho (fun h => h)⟩ : KeepsFrom _ V w1) ((KeepsOthers.setCell _ _ _).from _)), _, _, L, hj1.set HBW.out.1 r i hr2, ?_, by simp only [World.size_setCell]; exact Nat.le_trans hsz2 hK1.size⟩
      obtain ⟨q1, q2⟩ := pr_set p0 p1 p' r i hr
      rcases hst with ⟨e, rfl⟩ | ⟨e, rfl, s1, s2⟩ | ⟨e, -⟩
      · exact .inr (.inl ⟨e, rfl, by rw [q1]; exact h1, by rw [q1, h2]; exact hxw⟩)
      · refine .inr (.inr ⟨by omega, ?_⟩)
        rw [q1, q2, List.drop_eq_getElem_cons hpx, List.drop_eq_getElem_cons (show p' + 1 < M.length by omega), List.drop_eq_nil_of_le (show M.length ≤ p' + 1 + 1 by omega)]
        have g1 : M[p'] = wt M p' := by unfold wt; rw [List.getElem?_eq_getElem hpx]; rfl
        have g2 : M[p' + 1] = wt M (p' + 1) := by unfold wt; rw [List.getElem?_eq_getElem (by omega)]; rfl
        rw [g1, g2]
        exact ⟨h1, by rw [h2]; exact hxw, .inl ⟨_, rfl, s1, s2, HH.out.2.2.first p' hpx i h1 (by rw [h2]; exact hxw) (by rw [← hxw]; exact h3), rfl⟩⟩
      · omega
    · have hgeI : ¬ (n : Int) - 2 ≤ (p' : Int) := by omega
      have hlay : p' + 1 + 2 ≤ M.length ∧ Lay sy bi ba S (M.drop (p' + 1)) (pr p0 p1 (p' + 1)) (pr p0 p1 p') L := by
        have hn := HN.out
        rcases hst with ⟨e, -⟩ | ⟨e, -⟩ | ⟨e, h⟩
        · omega
        · omega
        · rw [pr_two] at h; exact ⟨e, h⟩
      obtain ⟨nx, hnx⟩ : ∃ nx, nx = pr p0 p1 p' := ⟨_, rfl⟩
      have hnxS : nx < S := by rw [hnx]; exact hlay.2.lt.2
      have c4 := hj.pair p' r hr
      rw [← hnx] at c4
      have hnxI : (nx : Int) < 4096 := by omega
      have HA := (show Hid (Calls Tryz.prog 118 #[.slice (some ⟨tg, 0, none⟩) S tcap, .int .u8 (x : Int), .int .i64 (nx : Int)] V _) from ahead_any tg S tcap x nx sy bi ba V hTV hS12 HH.out.2.2.fits (by omega) hx256 (by rw [hxw]; exact HH.out.2.2.leads p' hpx nx hnxS))
      have HLY := (show Hid (Lay sy bi ba S (M.drop (p' + 1)) (pr p0 p1 (p' + 1)) nx L ∧ L.length ≤ 3060) from ⟨by rw [hnx]; exact hlay.2, hst.len (fun i hi => (HH.out.2.2.fits i hi).2.1) (by have := HN.out; omega)⟩)
      clear hj hst hpx hxw hx hTV hr hlay hnx hnxS hsz2
      gi_wp2_with (refine ⟨trivial, ?_⟩; gi_at_call 118; refine (CallsIn.inRound _ (callsIn_wide.2 HA.out)).mono ?_; rintro e w1 ⟨i, rfl, hld, hK1⟩)
      have hj1 := HJ.out.1.keeps hK1
      obtain ⟨t1, t2, t3⟩ := (HH.out.2.1.keep hj1.wr.keep (fun h => h)).cells i hld.1
      obtain ⟨z1, z2, z3⟩ := HH.out.2.2.fits i hld.1
      have c1 : w1.cell? ⟨b + 1, 0, none⟩ = some (.slice (some ⟨tg, 0, none⟩) S tcap) := cell_of hj1.cx 0
      have c3 : w1.cell? ⟨b + 1 + 1 + 1, 0, none⟩ = some (.pointer (some ⟨b + 1 + 1, 0, none⟩)) := cell_of hj1.pb 0
      obtain ⟨l1, l2, l3, l4⟩ := hld
      have hiS : (i : Int) < (S : Int) := by omega
      have hi4 : (i : Int) < 4096 := by omega
      have HLD := (show Hid (Leads sy bi ba S x nx i) from ⟨l1, l2, l3, l4⟩)
      obtain ⟨y, hy⟩ : ∃ y, y = bi i := ⟨_, rfl⟩
      obtain ⟨z, hz⟩ : ∃ z, z = ba i := ⟨_, rfl⟩
      rw [← hy] at t2 z2
      rw [← hz] at t3 z3 l3
      obtain ⟨d, hd⟩ : ∃ d, d = nx - z := ⟨_, rfl⟩
      have HYZ := (show Hid (y = bi i ∧ z = ba i ∧ d = nx - z ∧ y ≤ 12) from ⟨hy, hz, hd, z2⟩)
      have hdI : (nx : Int) - (z : Int) = (d : Int) := by omega
      have hd4 : (d : Int) < 4096 := by omega
      have hyI : (y : Int) ≤ 12 := by omega
      have hzI : (z : Int) < 4096 := by omega
      have hmx : Tryz.prog.follows .mixedOrders = true := by kernel_rfl
      have hw1 : IntKind.i64.wrap (z : Int) = (z : Int) := by rw [IntKind.wrap_i64]; omega
      have hw2 : IntKind.i64.wrap (d : Int) = (d : Int) := by rw [IntKind.wrap_i64]; omega
      have hw3 : IntKind.u64.wrap (d : Int) = (d : Int) := by rw [IntKind.wrap_u64]; omega
      have hw4 : IntKind.i64.wrap (y : Int) = (y : Int) := by rw [IntKind.wrap_i64]; omega
      clear l1 l2 l3 l4 hy hz hd z1 z2 z3 t1
      refine region_round (fun w' => w'.cell? ⟨b + 1 + 1 + 1, 0, none⟩ = some (.pointer (some ⟨b + 1 + 1, 0, none⟩)) ∧ w'.cell? ⟨b + 1, 0, none⟩ = some (.slice (some ⟨tg, 0, none⟩) S tcap) ∧ w'.cell? ⟨tg, i * 3 + 1, none⟩ = some (.int .u8 (y : Int)) ∧ w'.cell? ⟨tg, i * 3 + 2, none⟩ = some (.int .u16 (z : Int))) (by kernel_rfl) hmx ⟨c3, c1, t2, t3⟩ (fun hS => ?_)
      refine wpAnyH_take (i := 0) (v := ?_) rfl (by kernel_rfl) (by kernel_rfl) (by kernel_rfl) (fun _ _ _ h => h) (Or.inl ⟨by rfl, ?_⟩) (by assumption) ?_
      rotate_left 1
      · intro w hSw; (try dsimp only at hSw); (go_simp <;> with_reducible rfl)
      simp only [Act.put, List.getElem_toArray, List.getElem_cons_zero, List.setIfInBounds_toArray, List.set_cons_zero, List.set_cons_succ]
      refine wpAnyH_take (i := 1) (v := ?_) rfl (by kernel_rfl) (by kernel_rfl) (by kernel_rfl) (fun _ _ _ h => h) (Or.inl ⟨by rfl, ?_⟩) (by assumption) ?_
      rotate_left 1
      · intro w hSw; (try dsimp only at hSw); (go_simp <;> with_reducible rfl)
      simp only [Act.put, List.getElem_toArray, List.getElem_cons_zero, List.getElem_cons_succ, List.setIfInBounds_toArray, List.set_cons_zero, List.set_cons_succ]
      refine wpAnyH_take (i := 2) (v := ?_) rfl (by kernel_rfl) (by kernel_rfl) (by kernel_rfl) (fun _ _ _ h => h) (Or.inl ⟨by rfl, ?_⟩) (by assumption) ?_
      rotate_left 1
      · intro w hSw; (try dsimp only at hSw); (go_simp <;> with_reducible rfl)
      simp only [Act.put, List.getElem_toArray, List.getElem_cons_zero, List.getElem_cons_succ, List.setIfInBounds_toArray, List.set_cons_zero, List.set_cons_succ]
      refine wpAnyH_take (i := 3) (v := ?_) rfl (by kernel_rfl) (by kernel_rfl) (by kernel_rfl) (fun _ _ _ h => h) (Or.inl ⟨by rfl, ?_⟩) (by assumption) ?_
      rotate_left 1
      · intro w hSw; (try dsimp only at hSw); (go_simp <;> with_reducible rfl)
      simp only [Act.put, List.getElem_toArray, List.getElem_cons_zero, List.getElem_cons_succ, List.setIfInBounds_toArray, List.set_cons_zero, List.set_cons_succ]
      refine wpAnyH_take (i := 4) (v := ?_) rfl (by kernel_rfl) (by kernel_rfl) (by kernel_rfl) (fun _ _ _ h => h) (Or.inl ⟨by rfl, ?_⟩) (by assumption) ?_
      rotate_left 1
      · intro w hSw; (try dsimp only at hSw); (go_simp <;> with_reducible rfl)
      simp only [Act.put, List.getElem_toArray, List.getElem_cons_zero, List.getElem_cons_succ, List.setIfInBounds_toArray, List.set_cons_zero, List.set_cons_succ]
      refine wpAnyH_take (i := 5) (v := ?_) rfl (by kernel_rfl) (by kernel_rfl) (by kernel_rfl) (fun _ _ _ h => h) (Or.inl ⟨by rfl, ?_⟩) (by assumption) ?_
      rotate_left 1
      · intro w hSw; (try dsimp only at hSw); (go_simp <;> with_reducible rfl)
      simp only [Act.put, List.getElem_toArray, List.getElem_cons_zero, List.getElem_cons_succ, List.setIfInBounds_toArray, List.set_cons_zero, List.set_cons_succ]
      refine wpAnyH_take (i := 6) (v := ?_) rfl (by kernel_rfl) (by kernel_rfl) (by kernel_rfl) (fun _ _ _ h => h) (Or.inl ⟨by rfl, ?_⟩) (by assumption) ?_
      rotate_left 1
      · intro w hSw; (try dsimp only at hSw); (go_simp <;> with_reducible rfl)
      simp only [Act.put, List.getElem_toArray, List.getElem_cons_zero, List.getElem_cons_succ, List.setIfInBounds_toArray, List.set_cons_zero, List.set_cons_succ]
      refine wpAnyH_take (i := 7) (v := ?_) rfl (by kernel_rfl) (by kernel_rfl) (by kernel_rfl) (fun _ _ _ h => h) (Or.inl ⟨by rfl, ?_⟩) (by assumption) ?_
      rotate_left 1
      · intro w hSw; (try dsimp only at hSw); (go_simp <;> with_reducible rfl)
      simp only [Act.put, List.getElem_toArray, List.getElem_cons_zero, List.getElem_cons_succ, List.setIfInBounds_toArray, List.set_cons_zero, List.set_cons_succ]
      refine wpAnyH_take (i := 8) (v := ?_) rfl (by kernel_rfl) (by kernel_rfl) (by kernel_rfl) (fun _ _ _ h => h) (Or.inl ⟨by rfl, ?_⟩) (by assumption) ?_
      rotate_left 1
      · intro w hSw; (try dsimp only at hSw); (go_simp <;> with_reducible rfl)
      simp only [Act.put, List.getElem_toArray, List.getElem_cons_zero, List.getElem_cons_succ, List.setIfInBounds_toArray, List.set_cons_zero, List.set_cons_succ]
      refine wpAnyH_take (i := 9) (v := ?_) rfl (by kernel_rfl) (by kernel_rfl) (by kernel_rfl) (fun _ _ _ h => h) (Or.inl ⟨by rfl, ?_⟩) (by assumption) ?_
      rotate_left 1
      · intro w hSw; (try dsimp only at hSw); (go_simp <;> with_reducible rfl)
      simp only [Act.put, List.getElem_toArray, List.getElem_cons_zero, List.getElem_cons_succ, List.setIfInBounds_toArray, List.set_cons_zero, List.set_cons_succ]
      refine wpAnyH_take (i := 10) (v := ?_) rfl (by kernel_rfl) (by kernel_rfl) (by kernel_rfl) (fun _ _ _ h => h) (Or.inl ⟨by rfl, ?_⟩) (by assumption) ?_
      rotate_left 1
      · intro w hSw; (try dsimp only at hSw); (go_simp <;> with_reducible rfl)
      simp only [Act.put, List.getElem_toArray, List.getElem_cons_zero, List.getElem_cons_succ, List.setIfInBounds_toArray, List.set_cons_zero, List.set_cons_succ]
      refine wpAnyH_take (i := 11) (v := ?_) rfl (by kernel_rfl) (by kernel_rfl) (by kernel_rfl) (fun _ _ _ h => h) (Or.inl ⟨by rfl, ?_⟩) (by assumption) ?_
      rotate_left 1
      · intro w hSw; (try dsimp only at hSw); (go_simp <;> with_reducible rfl)
      simp only [Act.put, List.getElem_toArray, List.getElem_cons_zero, List.getElem_cons_succ, List.setIfInBounds_toArray, List.set_cons_zero, List.set_cons_succ]
      refine wpAnyH_take (i := 12) (v := ?_) rfl (by kernel_rfl) (by kernel_rfl) (by kernel_rfl) (fun _ _ _ h => h) (Or.inl ⟨by rfl, ?_⟩) (by assumption) ?_
      rotate_left 1
      · intro w hSw; (try dsimp only at hSw); (go_simp <;> with_reducible rfl)
      simp only [Act.put, List.getElem_toArray, List.getElem_cons_zero, List.getElem_cons_succ, List.setIfInBounds_toArray, List.set_cons_zero, List.set_cons_succ]
      refine wpAnyH_take (i := 13) (v := ?_) rfl (by kernel_rfl) (by kernel_rfl) (by kernel_rfl) (fun _ _ _ h => h) (Or.inl ⟨by rfl, ?_⟩) (by assumption) ?_
      rotate_left 1
      · intro w hSw; (try dsimp only at hSw); (go_simp <;> with_reducible rfl)
      simp only [Act.put, List.getElem_toArray, List.getElem_cons_zero, List.getElem_cons_succ, List.setIfInBounds_toArray, List.set_cons_zero, List.set_cons_succ]
      refine wpAnyH_take (i := 14) (v := ?_) rfl (by kernel_rfl) (by kernel_rfl) (by kernel_rfl) (fun _ _ _ h => h) (Or.inl ⟨by rfl, ?_⟩) (by assumption) ?_
      rotate_left 1
      · intro w hSw; (try dsimp only at hSw); (go_simp <;> with_reducible rfl)
      simp only [Act.put, List.getElem_toArray, List.getElem_cons_zero, List.getElem_cons_succ, List.setIfInBounds_toArray, List.set_cons_zero, List.set_cons_succ]
      refine wpAnyH_take (i := 15) (v := ?_) rfl (by kernel_rfl) (by kernel_rfl) (by kernel_rfl) (fun _ _ _ h => h) (Or.inl ⟨by rfl, ?_⟩) (by assumption) ?_
      rotate_left 1
      · intro w hSw; (try dsimp only at hSw); (go_simp <;> with_reducible rfl)
      simp only [Act.put, List.getElem_toArray, List.getElem_cons_zero, List.getElem_cons_succ, List.setIfInBounds_toArray, List.set_cons_zero, List.set_cons_succ]
      refine wpAnyH_ready (rs := [16]) (by kernel_rfl) (by simp) ?_
      refine AllReadyH.cons rfl (fun K hK => ?_) AllReadyH.nil
      rw [if_pos (by rfl)]
      simp only [List.getElem_toArray, List.getElem_cons_zero, List.getElem_cons_succ]
      go_simp
      have hjd := hj1.keeps (Keep.refl noBlock w1).drew
      refine (hjd.wr.putO d y (by omega) (by omega) (by have := HLY.out.2; omega)).mono ?_
      rintro e w2 ⟨rfl, hM2, hO2⟩
      have hj2 : PtJ w a n cap tg S tcap b p0 p1 (L ++ low d y) w2 := ⟨hO2.cells hjd.bx (by omega) (by decide), hO2.cells hjd.cx (by omega) (by decide), hO2.cells hjd.pb (by omega) (by decide), hO2.cells hjd.prs (by omega) (by decide), hO2.cells hjd.bb (by omega) (by decide), hM2⟩
      obtain ⟨cs0, hw0⟩ := hjd.wr.obj
      have HE := (show Hid (PtJ w a n cap tg S tcap b p0 p1 (L ++ low d y) w2 ∧ KeepsFrom W0.heap.size V w2 ∧ V.heap.size ≤ w2.heap.size) from ⟨hj2, (KeepsFrom.trans (⟨hK1.size, fun k' o _ ho _ => (hK1.trans' (Keep.refl noBlock w1).drew).obj ho (fun h => h)⟩ : KeepsFrom _ V w1.drew) (hO2.from hw0 _)), Nat.le_trans hK1.size hO2.size⟩)
      obtain ⟨-, u2, u3⟩ := (HH.out.2.1.keep hM2.keep (fun h => h)).cells i HLD.out.1
      rw [← HYZ.out.1] at u2
      rw [← HYZ.out.2.1] at u3
      refine hK.out _ _ ⟨cell_of hj2.pb 0, cell_of hj2.cx 0, u2, u3⟩ (fun hS => ?_)
      refine wpAnyH_done (by kernel_rfl) ?_ _
      simp only [onward]
      have c5 := hj2.pair p' r HJ.out.2.2.2.2.1
      have f5 := frozen_of hj2.prs r
      clear hj1 hjd hj2 hM2 hO2 hw0 u2 u3 c1 c3 t2 t3 hS hK
      gi_wp2
      obtain ⟨hj, hst, hpx, hxw, hr, hsz2⟩ := HJ.out
      obtain ⟨e1, e2, e3⟩ := HE.out
      refine ⟨e2.trans ((KeepsOthers.setCell _ _ _).from _), _, _, L ++ low d y, e1.set HBW.out.1 r i hr2, .inr (.inr ⟨by have := HN.out; omega, ?_⟩), by simp only [World.size_setCell]; omega⟩
      obtain ⟨q1, q2⟩ := pr_set p0 p1 p' r i hr
      have g1 : M[p'] = wt M p' := by unfold wt; rw [List.getElem?_eq_getElem hpx]; rfl
      have hl := HLD.out
      rw [hxw] at hl
      rw [q1, q2, List.drop_eq_getElem_cons hpx, g1]
      exact ⟨hl.1, hl.2.1, .inr ⟨nx, L, HLY.out.1, hl, by rw [HYZ.out.1, HYZ.out.2.2.1, HYZ.out.2.1]⟩⟩
  case done =>
    rintro p U rfl ⟨p0, p1, L, hj, hst, hsz2⟩ hD
    have hlay : Lay sy bi ba S M p0 p1 L := by
      have hn := HN.out
      rcases hst with ⟨e, -⟩ | ⟨e, -⟩ | ⟨e, h⟩
      · omega
      · omega
      · rw [List.drop_zero] at h; exact h
    have hLl := hst.len (fun i hi => (HH.out.2.2.fits i hi).2.1) (by have := HN.out; omega)
    have hS12 : S ≤ 4096 := by rw [HH.out.2.2.pow]; exact Nat.pow_le_pow_right (n := 2) (j := 12) (by omega) HH.out.2.2.l12
    have hp0 : (p0 : Int) < 4096 := by have := hlay.lt; omega
    have hp1 : (p1 : Int) < 4096 := by have := hlay.lt; omega
    have c1 : U.cell? ⟨b + 1 + 1 + 1 + 1, 1, none⟩ = some (.int .i64 (p1 : Int)) := cell_of hj.prs 1
    have c3 : U.cell? ⟨b + 1 + 1 + 1, 0, none⟩ = some (.pointer (some ⟨b + 1 + 1, 0, none⟩)) := cell_of hj.pb 0
    have HP := (show Hid (Calls Tryz.prog 43 #[.pointer (some ⟨b + 1 + 1, 0, none⟩), .int .u64 (p1 : Int), .int .i64 (l : Int)] U _) from hj.wr.putO p1 l (by omega) (by omega) (by omega))
    have HI := (show Hid (PtJ w a n cap tg S tcap b p0 p1 L U ∧ U.heap[W0.heap.size]? = some (.deferred (some [])) ∧ Lay sy bi ba S M p0 p1 L ∧ L.length ≤ 3060) from ⟨hj, hD, hlay, hLl⟩)
    clear hj hst hD hlay hLl hS12
    gi_wp2_with fail
    refine ⟨trivial, ?_⟩
    refine (callsIn_wide.2 HP.out).mono ?_
    rintro e w1 ⟨rfl, hM1, hO1⟩
    have hI := HI.out.1
    have hj1 : PtJ w a n cap tg S tcap b p0 p1 (L ++ low p1 l) w1 := ⟨hO1.cells hI.bx (by omega) (by decide), hO1.cells hI.cx (by omega) (by decide), hO1.cells hI.pb (by omega) (by decide), hO1.cells hI.prs (by omega) (by decide), hO1.cells hI.bb (by omega) (by decide), hM1⟩
    have hD1 := hO1.mark HI.out.2.1 (by have := HBW.out; omega) rfl
    have d0 : w1.cell? ⟨b + 1 + 1 + 1 + 1, 0, none⟩ = some (.int .i64 (p0 : Int)) := cell_of hj1.prs 0
    have d3 : w1.cell? ⟨b + 1 + 1 + 1, 0, none⟩ = some (.pointer (some ⟨b + 1 + 1, 0, none⟩)) := cell_of hj1.pb 0
    have HP2 := (show Hid (Calls Tryz.prog 43 #[.pointer (some ⟨b + 1 + 1, 0, none⟩), .int .u64 (p0 : Int), .int .i64 (l : Int)] w1 _) from hj1.wr.putO p0 l (by omega) (by omega) (by rw [List.length_append, low_length]; have := HI.out.2.2.2; omega))
    have HI1 := (show Hid (PtJ w a n cap tg S tcap b p0 p1 (L ++ low p1 l) w1 ∧ w1.heap[W0.heap.size]? = some (.deferred (some []))) from ⟨hj1, hD1⟩)
    clear hM1 hO1 hI hj1 hD1 c1 c3 HP
    gi_wp2_with fail
    refine ⟨trivial, ?_⟩
    refine (callsIn_wide.2 HP2.out).mono ?_
    rintro e w2 ⟨rfl, hM2, hO2⟩
    have hI := HI1.out.1
    have hD2 := hO2.mark HI1.out.2 (by have := HBW.out; omega) rfl
    have q3 := hO2.cells hI.pb (show b + 1 + 1 + 1 ≠ b + 1 + 1 by omega) (by decide)
    have d4 : w2.cell? ⟨b + 1 + 1 + 1, 0, none⟩ = some (.pointer (some ⟨b + 1 + 1, 0, none⟩)) := cell_of q3 0
    have HP3 := (show Hid (Calls Tryz.prog 44 #[.pointer (some ⟨b + 1 + 1, 0, none⟩)] w2 _) from hM2.closeO (by rw [List.length_append, List.length_append, low_length, low_length]; have := HI.out.2.2.2; omega))
    have HI2 := (show Hid (w2.heap[W0.heap.size]? = some (.deferred (some []))) from hD2)
    clear hM2 hO2 hI hD2 q3 d0 d3 HP2
    gi_wp2_with fail
    refine ⟨trivial, ?_⟩
    refine (callsIn_wide.2 HP3.out).mono ?_
    rintro e w3 ⟨v, rfl, hown, hK3, hO3, hnew⟩
    have hD3 := hO3.mark HI2.out (by have := HBW.out; omega) rfl
    have HI3 := (show Hid (w3.ownsRow 0 5 1 v (pack (L ++ low p1 l ++ low p0 l ++ [1])).length (u8s (pack (L ++ low p1 l ++ low p0 l ++ [1]))) ∧ Keep noBlock w w3 ∧ (∀ k, v.ownBlock = some k → w.heap.size ≤ k) ∧ w3.heap[W0.heap.size]? = some (.deferred (some []))) from ⟨hown, hK3, hnew, hD3⟩)
    clear hown hK3 hO3 hnew hD3 HP3 d4
    gi_wp2_with fail
    obtain ⟨hown, hK3, hnew, hD3⟩ := HI3.out
    refine ⟨by simp, .inl ⟨_, _, rfl, run_takeDeferred hD3, ?_⟩⟩
    have hkp : Keep (fun j => j = W0.heap.size) w3 (w3.putObj W0.heap.size (.deferred none)) := (Keep.refl _ w3).putObj _ _ (fun _ => rfl)
    refine ⟨v, by simp [results, Tryz.results96], v, p0, p1, L, rfl, HI.out.2.2.1, owns_kept hown hkp (fun g hg e => ?_), hK3.trans hkp (fun i hi e => by have := HBW.out; omega), hnew⟩
    rcases hown.2 with ⟨e1, _⟩ | ⟨g2, cap2, cur, e1, _, hg2, _⟩
    · rw [e1] at hg; cases hg
    · rw [e1] at hg
      obtain rfl : g2 = g := by simpa [Value.ownBlock] using hg
      rw [e, hD3] at hg2
      cases hg2

end Go.Proofs.YtcoahkmiebeeeaaGreatDoor

namespace Go.Proofs.YtcoahkmiebeeeaaGreatDoor
open Go.RowKit Go.Shelf
set_option linter.unusedVariables false

theorem zeroCells_u8 (n : Nat) : (Builtin.zeroCells #[Value.int .u8 0] n).size = n := by
  simp [Builtin.zeroCells]

section
attribute [local go_sem] sliceSem_eq
set_option maxRecDepth 1000000 in
set_option maxHeartbeats 1000000 in
theorem grow_any (n : Nat) (h1 : 1 ≤ n) (h2 : n ≤ 1000000) (w : World) :
    Calls Tryz.prog 38 #[.slice none 0 0, .int .i64 (n : Int)] w fun e w' => ∃ v, e = .returned v ∧ w'.ownsRow 0 5 1 v 0 (u8s []) ∧ Keep noBlock w w' ∧ ∀ k, v.ownBlock = some k → w.heap.size ≤ k := by
  obtain ⟨i0, hi, hz0, hz1, hz2⟩ := info_parts info5
  have hr := Lib.run_append_nil_zeros (P := Tryz.prog) w 22 3 22 5 i0 (.int .u8 0) .i64 .i64 Tryz.underlying22 Tryz.underlying3 hi hz0 n h1 (by omega) (by omega) (by rw [hz2]; omega)
  obtain ⟨C, hC⟩ : ∃ C, C = grownCap w n 0 5 := ⟨_, rfl⟩
  rw [← hC] at hr
  have hCn : n ≤ C := by rw [hC]; exact grownCap_ge w n 0 5
  have hCm : C ≤ maxLen := by rw [hC]; exact grownCap_le_maxLen w n 0 5 (by unfold maxLen; omega)
  obtain ⟨cur, hcur⟩ : ∃ cur, cur = Builtin.zeroCells (Value.int .u8 0).cells n ++ Builtin.zeroCells (Value.int .u8 0).cells (C - n) := ⟨_, rfl⟩
  have hsz : cur.size = C := by
    rw [hcur, Array.size_append]
    have e1 := zeroCells_u8 n
    have e2 := zeroCells_u8 (C - n)
    rw [show (Value.int .u8 0).cells = #[.int .u8 0] from rfl, e1, e2]
    omega
  rw [← hcur] at hr
  have hk : Keep noBlock w (w.drew.alloc (.cells cur 5)) := (Keep.refl _ w).drew.alloc _
  have hown : (w.drew.alloc (.cells cur 5)).ownsRow 0 5 1 (.slice (some ⟨w.heap.size, 0, none⟩) 0 C) 0 (u8s []) := owns_mk (M := []) (World.alloc_heap_new w.drew _) (Nat.zero_le _) hCm hsz rfl
  have HE := (show Hid (Keep noBlock w (w.drew.alloc (.cells cur 5)) ∧ (w.drew.alloc (.cells cur 5)).ownsRow 0 5 1 (.slice (some ⟨w.heap.size, 0, none⟩) 0 C) 0 (u8s [])) from ⟨hk, hown⟩)
  have hs1 : ∀ W, (sliceSem 22 (.slice none 0 0) none (some (.int .i64 0)) none).run Tryz.prog W = .ok (.slice none 0 0) W := fun W => run_high5 none 0 0 0 (Nat.le_refl _) W
  have hs2 : ∀ W, (sliceSem 22 (.slice (some ⟨w.heap.size, 0, none⟩) n C) none (some (.int .i64 0)) none).run Tryz.prog W = .ok (.slice (some ⟨w.heap.size, 0, none⟩) 0 C) W := fun W => run_high5 (some ⟨w.heap.size, 0, none⟩) n C 0 (Nat.zero_le _) W
  have hnI : ¬ (n : Int) < 0 := by omega
  have hnJ : (0 : Int) < (n : Int) := by omega
  have hnB : (n : Int) ≤ 1000000 := by omega
  clear hk hown hsz hcur hCn hCm hC
  go_enter Tryz.func38, Tryz.ntmps38
  go_wp2_with (at_builtin; refine Lib.wpList_append_run _ rfl _ _ 22 3 rfl _ _ rfl rfl _ _ hr ?_)
  go_ret
  exact ⟨_, rfl, HE.out.2, HE.out.1, fun k e => by simp [Value.ownBlock] at e; omega⟩
end

/-- Slices of bytes that lie one behind the other. -/
structure Srcs (w : World) (vb : Nat) (bss : List (List Nat)) : Prop where
  src : ∀ i bs, bss[i]? = some bs → ∃ a cap, w.cell? ⟨vb, i, none⟩ = some (.slice a bs.length cap) ∧ SrcB w (.slice a bs.length cap) bs
  lt : vb < w.heap.size
theorem Srcs.keep {w w' : World} {vb : Nat} {bss : List (List Nat)} (h : Srcs w vb bss) (hk : Keep noBlock w w') : Srcs w' vb bss :=
  ⟨fun i bs hb => by
    obtain ⟨a, cap, h1, h2⟩ := h.src i bs hb
    exact ⟨a, cap, (World.cell?_of_block (hk.block _ h.lt (fun h => h))).trans h1, h2.keep hk⟩, Nat.lt_of_lt_of_le h.lt hk.size⟩
def lens : List (List Nat) → Nat
  | [] => 0
  | b :: bss => b.length + lens bss
theorem lens_take (bss : List (List Nat)) (i : Nat) (b : List Nat) (h : bss[i]? = some b) : lens (bss.take (i + 1)) = lens (bss.take i) + b.length ∧ (bss.take (i + 1)).flatten = (bss.take i).flatten ++ b := by
  induction bss generalizing i with
  | nil => simp at h
  | cons c bss ih =>
    cases i with
    | zero => simp at h; subst h; simp [lens]
    | succ i =>
      have := ih i (by simpa using h)
      simp only [List.take_succ_cons, lens, List.flatten_cons, List.append_assoc]
      exact ⟨by omega, by rw [this.2]⟩
theorem lens_le (bss : List (List Nat)) (i : Nat) : lens (bss.take i) ≤ lens bss := by
  induction bss generalizing i with
  | nil => simp [lens]
  | cons c bss ih =>
    cases i with
    | zero => simp [lens]
    | succ i => have := ih i; simp only [List.take_succ_cons, lens]; omega
theorem lens_flat (bss : List (List Nat)) : bss.flatten.length = lens bss := by
  induction bss with
  | nil => rfl
  | cons c bss ih => rw [List.flatten_cons, List.length_append, ih]; rfl

set_option maxRecDepth 1000000 in
set_option maxHeartbeats 2000000 in
theorem concat_any (vb : Nat) (bss : List (List Nat)) (w : World) (h : Srcs w vb bss) (h1 : 1 ≤ lens bss) (h2 : lens bss ≤ 1000000) (hn : bss.length ≤ 1000) :
    Calls Tryz.prog 22 #[.slice (some ⟨vb, 0, none⟩) bss.length bss.length] w fun e w' => ∃ v, e = .returned v ∧ w'.ownsRow 0 5 1 v bss.flatten.length (u8s bss.flatten) ∧ Keep noBlock w w' ∧ ∀ k, v.ownBlock = some k → w.heap.size ≤ k := by
  have HH := (show Hid (Srcs w vb bss ∧ lens bss ≤ 1000000) from ⟨h, h2⟩)
  have HG := (show Hid (Calls Tryz.prog 38 #[.slice none 0 0, .int .i64 ((lens bss : Nat) : Int)] w _) from grow_any (lens bss) h1 h2 w)
  obtain ⟨n, hnn⟩ : ∃ n, n = bss.length := ⟨_, rfl⟩
  have HN := (show Hid (n = bss.length) from hnn)
  rw [← hnn] at hn ⊢
  have hnI : (n : Int) ≤ 1000 := by omega
  clear h h1 h2 hnn
  go_enter Tryz.func22, Tryz.ntmps22
  go_wp2_with fail
  go_loopw [3, 11] (fun v3 v11 wr => ∃ i s : Nat, v11 = .int .i64 (i : Int) ∧ v3 = .int .i64 (s : Int) ∧ i ≤ n ∧ w = wr ∧ Hid (s = lens (bss.take i))) (fun _ v11 _ => n - (intOf v11).toNat)
  case atStart => exact ⟨0, 0, rfl, rfl, Nat.zero_le _, rfl, rfl⟩
  case round =>
    obtain ⟨i, s, rfl, rfl, hi, rfl, HC⟩ := hrel
    by_cases hlt : i < n
    · have hlI : (i : Int) < (n : Int) := by omega
      obtain ⟨b, hb⟩ : ∃ b, bss[i]? = some b := ⟨_, List.getElem?_eq_getElem (by have := HN.out; omega)⟩
      obtain ⟨a, cap, c1, -⟩ := HH.out.1.src i b hb
      obtain ⟨t1, t2⟩ := lens_take bss i b hb
      have t3 := lens_le bss (i + 1)
      have hh := HH.out.2
      have hs : s = lens (bss.take i) := HC.out
      have HS := (show Hid (s + b.length = lens (bss.take (i + 1))) from by have q : s = lens (bss.take i) := HC.out; rw [t1, ← q]; exact rfl)
      generalize b.length = bl at *
      have hsb : (s : Int) ≤ 1000000 := by omega
      have hbb : (bl : Int) ≤ 1000000 := by omega
      have hneg : ¬ (s : Int) + (bl : Int) < 0 := by omega
      clear t1 t2 t3 hh hs hb
      go_wp2_with fail
      go_roundw
      case rel => exact ⟨i + 1, s + bl, by go_num, by go_num, by omega, trivial, HS.out⟩
      case measure => simp [intOf]; omega
    · obtain rfl : i = n := by omega
      have hs : s = lens (bss.take i) := HC.out
      rw [HN.out, List.take_length] at hs
      subst hs
      clear HC
      go_wp2_with fail
      refine HG.out.mono ?_
      rintro e w1 ⟨v, rfl, hown, hK, hnew⟩
      have HR := (show Hid (w1.ownsRow 0 5 1 v 0 (u8s []) ∧ Keep noBlock w w1 ∧ ∀ k, v.ownBlock = some k → w.heap.size ≤ k) from ⟨hown, hK, hnew⟩)
      obtain ⟨va, vc, rfl⟩ := owns_form hown
      clear hown hK hnew
      go_wp2_with fail
      go_loopw [6, 27] (fun v6 v27 wr => ∃ (j : Nat) (sa : Option Addr) (sn sc : Nat), v27 = .int .i64 (j : Int) ∧ v6 = .slice sa sn sc ∧ j ≤ i ∧ Hid (sn = (bss.take j).flatten.length ∧ wr.ownsRow 0 5 1 (.slice sa sn sc) (bss.take j).flatten.length (u8s (bss.take j).flatten) ∧ Keep noBlock w wr ∧ ∀ k, (Value.slice sa sn sc).ownBlock = some k → w.heap.size ≤ k)) (fun _ v27 _ => i - (intOf v27).toNat)
      case atStart => exact ⟨0, va, 0, vc, rfl, rfl, Nat.zero_le _, rfl, HR.out.1, HR.out.2.1, HR.out.2.2⟩
      case round =>
        obtain ⟨j, sa, sn, sc, rfl, rfl, hj, HC2⟩ := hrel
        by_cases hlt2 : j < i
        · have hlI : (j : Int) < (i : Int) := by omega
          obtain ⟨b, hb⟩ : ∃ b, bss[j]? = some b := ⟨_, List.getElem?_eq_getElem (by have := HN.out; omega)⟩
          obtain ⟨q1, q2, q3, q4⟩ := HC2.out
          obtain ⟨a, cap, c1, hsrc⟩ := (HH.out.1.keep q3).src j b hb
          obtain ⟨t1, t2⟩ := lens_take bss j b hb
          have t3 := lens_le bss (j + 1)
          have t4 := lens_flat (bss.take j)
          have hh := HH.out.2
          obtain ⟨v', W', hrun, hown5, hk5, hm5⟩ := run_append_all wr 22 (.slice sa sn sc) (bss.take j).flatten b q2 (by omega) (.slice a b.length cap) hsrc
          rw [← t2] at hown5
          obtain ⟨oa', oc', hv'⟩ := owns_form hown5
          subst hv'
          obtain ⟨N', hN'⟩ : ∃ N', N' = (bss.take (j + 1)).flatten.length := ⟨_, rfl⟩
          have HE := (show Hid (N' = (bss.take (j + 1)).flatten.length ∧ W'.ownsRow 0 5 1 (.slice oa' N' oc') (bss.take (j + 1)).flatten.length (u8s (bss.take (j + 1)).flatten) ∧ Keep noBlock w W' ∧ ∀ k, (Value.slice oa' N' oc').ownBlock = some k → w.heap.size ≤ k) from by
            refine ⟨hN', by rw [hN']; exact hown5, q3.trans hk5 (fun k hk e => by have := q4 k e; omega), fun k e => ?_⟩
            rw [hN'] at e
            rcases hm5 with e2 | ⟨j2, e2, hj2⟩
            · rw [e2] at e; exact q4 k e
            · rw [e2] at e; cases e; have := q3.size; omega)
          rw [← hN'] at hrun
          generalize b.length = bl at *
          clear q1 q2 q3 q4 hsrc t1 t2 t3 t4 hh hown5 hk5 hm5 hN' HC2 hb HR
          go_wp2_with (at_builtin; refine wpList_append_run _ rfl _ _ 22 rfl _ _ _ _ rfl rfl hrun ?_)
          go_roundw
          case rel => exact ⟨j + 1, oa', N', oc', by go_num, rfl, by omega, HE.out⟩
          case measure => simp [intOf]; omega
        · obtain rfl : j = i := by omega
          clear HR
          go_wp2_with fail
          go_ret
          obtain ⟨q1, q2, q3, q4⟩ := HC2.out
          rw [HN.out, List.take_length] at q2
          exact ⟨_, rfl, q2, q3, q4⟩

end Go.Proofs.YtcoahkmiebeeeaaGreatDoor

namespace Go.Proofs.YtcoahkmiebeeeaaGreatDoor
open Go.RowKit Go.Shelf
set_option linter.unusedVariables false

theorem Fit.tells {M : List Nat} {xs : List Int} {l : Nat} (h : Fit M xs l) : Tells (symF xs (2 ^ l)) (fun i => bitF l (xF xs (2 ^ l) i)) (fun i => baseF l (xF xs (2 ^ l) i)) (2 ^ l) l M := by
  have hT := okT_tab h.ok
  have hl := h.l6
  have h12 : 2 ^ l ≤ 2 ^ 12 := Nat.pow_le_pow_right (by omega) (by omega)
  refine ⟨rfl, by omega, fun i hi => ?_, fun i hi nx hnx => ?_, fun i hi j hj hs hno => ?_, fun i hi => ?_⟩
  · have q := hT.cell i hi
    exact ⟨symF_256 h.ok (by have := h.len; omega) i hi, Nat.le_trans q.2.2.1 (by omega), Nat.lt_of_lt_of_le q.2.2.2.1 (by omega)⟩
  · obtain ⟨h1, h2⟩ := h.has i hi
    exact hT.comes (wt M i) h1 h2 nx hnx
  · obtain ⟨h1, h2⟩ := h.has i hi
    obtain ⟨c, e1, e2, e3, e4, e5⟩ := hT.x j hj
    have hbl : blF xs (2 ^ l) j = 0 := cntP_none _ _ (fun k hk => decide_eq_false (by rw [hs]; exact hno k hk))
    have hcl : c < 2 ^ l := by
      rcases Nat.lt_or_ge c (2 ^ l) with q | q
      · exact q
      · obtain ⟨t, t1, t2, t3⟩ := h.two (wt M i) h1
        have hcnt := hT.cnt (wt M i) h1
        rw [← hs, e1, hs] at hcnt
        have hfull := cntP_full (fun k => decide (symF xs (2 ^ l) k = wt M i)) (2 ^ l) (by omega)
        obtain ⟨k, k1, k2, -⟩ := hT.comes t t2 t3 0 (Nat.two_pow_pos _)
        have := of_decide_eq_true (hfull k k1)
        exact absurd (k2.symm.trans this) t1
    show 1 ≤ bitF l (xF xs (2 ^ l) j)
    rw [e5, hbl, Nat.add_zero]
    unfold bitF
    have := lenN_le c l hcl
    omega
  · have := (h.has i hi).1
    have := h.len
    omega

def PsPost (ws : List Nat) (sure : Prop) (w : World) (e : Ending) (w' : World) : Prop :=
  Keep noBlock w w' ∧ ((∃ v V, e = .returned (.tuple #[v, .bool true]) ∧ w'.ownsRow 0 5 1 v V.length (u8s V) ∧ Desc V ws ∧ ∀ k, v.ownBlock = some k → w.heap.size ≤ k) ∨ (¬ sure ∧ e = .returned (.tuple #[.slice none 0 0, .bool false])))

theorem owns_u8set {w : World} {a : Option Addr} {N cap : Nat} {V : List Nat} (h : w.ownsRow 0 5 1 (.slice a N cap) V.length (u8s V)) (hN : N = V.length) (h1 : 1 ≤ V.length) (x : Nat) :
    ∃ g, a = some ⟨g, 0, none⟩ ∧ (∃ v0, w.cell? ⟨g, 0, none⟩ = some v0) ∧ w.frozen? ⟨g, 0, none⟩ = false ∧ (w.setCell ⟨g, 0, none⟩ (.int .u8 (x : Int))).ownsRow 0 5 1 (.slice a N cap) (V.set 0 x).length (u8s (V.set 0 x)) := by
  subst hN
  rcases h.2 with ⟨e, h0⟩ | ⟨g, cap', cur, e, hb, hg, q1, q2, q3, q4⟩
  · rw [Value.slice.injEq] at e; omega
  · rw [Value.slice.injEq] at e
    obtain ⟨rfl, -, rfl⟩ := e
    refine ⟨g, rfl, ⟨_, h.cells (g := g) rfl 0 _ (u8s_at V 0 h1)⟩, frozen_of hg 0, ?_⟩
    rw [Nat.mul_one] at q3 q4
    have := owns_mk (M := V.set 0 x) (set_obj hg 0 (.int .u8 (x : Int))) (by rw [List.length_set]; exact q1) q2 (by rw [Array.size_setIfInBounds]; exact q3) (by
      rw [List.length_set]
      have e1 : (cur.setIfInBounds 0 (.int .u8 (x : Int))).toList = cur.toList.set 0 (.int .u8 (x : Int)) := by simp
      rw [e1, List.take_set, q4]
      simp [u8s])
    rw [List.length_set] at this ⊢
    exact this

theorem owns_base0 {w : World} {base : Nat} {v : Value} {n : Nat} {ys : List Value} (h : w.ownsRow base 5 1 v n ys) : w.ownsRow 0 5 1 v n ys := by
  refine ⟨h.1, ?_⟩
  rcases h.2 with q | ⟨g, cap, cur, e, hb, q⟩
  · exact .inl q
  · exact .inr ⟨g, cap, cur, e, Nat.zero_le _, q⟩
theorem srcB_owns {w : World} {v : Value} {V : List Nat} (h : w.ownsRow 0 5 1 v V.length (u8s V)) (hV : ∀ j : Nat, V[j]?.getD 0 < 256) (hl : V.length < 2 ^ 48) : SrcB w v V := by
  obtain ⟨a, cap, g, rfl, hB, -⟩ := owns_bytes h hV hl
  exact hB.src
theorem pack_lt8 (L : List (Fin 2)) (j : Nat) : (pack L)[j]?.getD 0 < 256 := by
  by_cases h : j < (pack L).length
  · rw [pack_at L j (by rw [← pack_length]; exact h)]
    exact byteOf_lt L j
  · rw [List.getElem?_eq_none (by omega)]; simp

section
set_option maxRecDepth 100000 in
set_option maxHeartbeats 2000000 in
theorem putByStates_any (a : Option Addr) (cap gb off : Nat) (M : List Nat) (x m : Nat) (a2 : Option Addr) (cap2 gb2 off2 : Nat) (xs : List Int) (l : Nat) (w : World) (hB : Bytes w a cap gb off M) (hR : RowI w .i16 a2 cap2 gb2 off2 xs) (hT : Told M x m) (hF : Fit M xs l) (h2 : 2 ≤ M.length) :
    Calls Tryz.prog 69 #[.slice a M.length cap, .slice a2 xs.length cap2, .int .i64 (l : Int)] w fun e w' => PsPost (M ++ [x]) (xs = sureL ∧ l = 6) w e w' := by
  have HW := (show Hid (Calls Tryz.prog 95 #[.slice a2 xs.length cap2, .int .i64 (l : Int)] w _) from write_good a2 cap2 gb2 off2 xs l w hR hF.i16 hF.ok)
  have HTb := (show Hid (∀ W, Keep noBlock w W → Calls Tryz.prog 55 #[.slice a2 xs.length cap2, .int .i64 (l : Int)] W _) from fun W hk => table_good a2 cap2 gb2 off2 xs l W (hR.keep hk (fun _ h => h)) hF.i16 hF.ok)
  have HH := (show Hid (Bytes w a cap gb off M ∧ Told M x m ∧ Fit M xs l) from ⟨hB, hT, hF⟩)
  obtain ⟨n, hn⟩ : ∃ n, n = M.length := ⟨_, rfl⟩
  have HN := (show Hid (n = M.length ∧ 2 ≤ n) from ⟨hn, by omega⟩)
  rw [← hn]
  obtain ⟨xl, hxl⟩ : ∃ xl, xl = xs.length := ⟨_, rfl⟩
  rw [← hxl] at HW HTb ⊢
  have hl6 := hF.l6
  have hlI : (l : Int) ≤ 6 := by omega
  clear hB hR hT hF hn h2 hxl hl6
  go_enter Tryz.func69, Tryz.ntmps69
  go_wp2_with fail
  refine HW.out.mono ?_
  rintro e w1 ⟨v1, rfl, hown1, hK1⟩
  have HK1 := (show Hid (Keep noBlock w w1 ∧ w1.ownsRow w.heap.size 5 1 v1 (pack (alignL (dscAll xs l))).length (u8s (pack (alignL (dscAll xs l))))) from ⟨hK1, hown1⟩)
  obtain ⟨va, vc, rfl⟩ := owns_form hown1
  obtain ⟨dn, hdn⟩ : ∃ dn, dn = (pack (alignL (dscAll xs l))).length := ⟨_, rfl⟩
  rw [← hdn] at HK1 ⊢
  have HDN := (show Hid (dn = (pack (alignL (dscAll xs l))).length) from hdn)
  clear hK1 hown1 HW hdn
  go_wp2_with fail
  refine (HTb.out _ HK1.out.1).mono ?_
  rintro e w2 ⟨tg, tcap, rfl, htg, htc, hRT, hK2⟩
  have HK2 := (show Hid (Keep noBlock w w2 ∧ w2.ownsRow w.heap.size 5 1 (.slice va dn vc) dn (u8s (pack (alignL (dscAll xs l)))) ∧ RowT w2 tg (2 ^ l) (symF xs (2 ^ l)) (fun i => bitF l (xF xs (2 ^ l) i)) (fun i => baseF l (xF xs (2 ^ l) i))) from ⟨HK1.out.1.trans' hK2, owns_kept HK1.out.2 hK2 (fun _ _ h => h), hRT⟩)
  obtain ⟨S, hS⟩ : ∃ S, S = 2 ^ l := ⟨_, rfl⟩
  rw [← hS]
  have HS := (show Hid (S = 2 ^ l) from hS)
  clear HK1 hK2 hRT htg htc HTb hS
  have hk3 : Keep noBlock w2 (w2.alloc (.cells #[.int .u8 0] 5)) := (Keep.refl _ w2).alloc _
  have HP := (show Hid (Calls Tryz.prog 96 #[.slice a n cap, .slice (some ⟨tg, 0, none⟩) S tcap, .int .i64 (l : Int)] (w2.alloc (.cells #[.int .u8 0] 5)) _) from by
    have := putByTurns_any a cap gb off M tg (2 ^ l) tcap l _ _ _ (w2.alloc (.cells #[.int .u8 0] 5)) ((HH.out.1.keep HK2.out.1 (fun _ h => h)).keep hk3 (fun _ h => h)) (HK2.out.2.2.keep hk3 (fun h => h)) HH.out.2.2.tells (by have := HN.out; omega) HH.out.2.1.len
    rw [← HN.out.1, ← HS.out] at this
    exact this)
  have HK3 := (show Hid (Keep noBlock w (w2.alloc (.cells #[.int .u8 0] 5)) ∧ (w2.alloc (.cells #[.int .u8 0] 5)).ownsRow w.heap.size 5 1 (.slice va dn vc) dn (u8s (pack (alignL (dscAll xs l)))) ∧ SrcB (w2.alloc (.cells #[.int .u8 0] 5)) (.slice (some ⟨w2.heap.size, 0, none⟩) 1 1) [0]) from
    ⟨HK2.out.1.trans' hk3, owns_kept HK2.out.2.1 hk3 (fun _ _ h => h), (bytes_new w2 [0] #[.int .u8 0] (0, 0) 1 rfl rfl (lt256 (by decide)) (by decide)).src⟩)
  obtain ⟨zb, hzb⟩ : ∃ zb, zb = w2.heap.size := ⟨_, rfl⟩
  rw [← hzb] at HK3
  clear hk3 HK2
  go_wp2_with fail
  rw [← hzb]
  generalize w2.alloc (.cells #[.int .u8 0] 5) = W3 at HP HK3 ⊢
  clear hzb
  refine HP.out.mono ?_
  rintro e w4 ⟨v4, own, other, L, rfl, hLay, hown4, hK4, hnew4⟩
  obtain ⟨ta, tc, rfl⟩ := owns_form hown4
  obtain ⟨T, hTe⟩ : ∃ T, T = pack (L ++ low other l ++ low own l ++ [1]) := ⟨_, rfl⟩
  rw [← hTe] at hown4
  obtain ⟨D, hD⟩ : ∃ D, D = pack (alignL (dscAll xs l)) := ⟨_, rfl⟩
  have hdn := HDN.out
  rw [← hD] at HK3 hdn
  obtain ⟨tn, htn⟩ : ∃ tn, tn = T.length := ⟨_, rfl⟩
  rw [hTe] at htn
  rw [← htn]
  rw [← hTe] at htn
  rw [← htn] at hown4
  have hLb : L.length ≤ 3060 := by
    have h1 := hLay.bits (bd := fun _ => 12) (fun i hi => by
      have := (HH.out.2.2.tells.fits i (by rw [← HS.out]; exact hi)).2.1
      rw [HS.out]; exact this)
    have h2 := costL_le (fun _ => 12) 12 M (fun _ _ => Nat.le_refl _)
    have h3 := HH.out.2.1.len
    omega
  have hTl : tn ≤ 1000 := by
    rw [htn, hTe, pack_length, List.length_append, List.length_append, List.length_append, low_length, low_length]
    have := HH.out.2.2.l6
    simp only [List.length_cons, List.length_nil]
    omega
  have hDl : dn ≤ 1000 := by
    have := dsc_le xs.length (2 ^ l) xs (Nat.le_trans (Nat.pow_le_pow_right (n := 2) (j := 6) (by omega) HH.out.2.2.l6) (by omega))
    have h12 := HH.out.2.2.len
    rw [hdn, hD, pack_length]
    unfold alignL dscAll
    rw [List.length_append, List.length_append, low_length, low_length]
    omega
  have hk5 : Keep noBlock w4 (w4.alloc (.cells #[.slice (some ⟨zb, 0, none⟩) 1 1, .slice va dn vc, .slice ta tn tc] 22)) := (Keep.refl _ w4).alloc _
  have hK35 : Keep noBlock W3 (w4.alloc (.cells #[.slice (some ⟨zb, 0, none⟩) 1 1, .slice va dn vc, .slice ta tn tc] 22)) := hK4.trans' hk5
  have hsrcs : Srcs (w4.alloc (.cells #[.slice (some ⟨zb, 0, none⟩) 1 1, .slice va dn vc, .slice ta tn tc] 22)) w4.heap.size [[0], D, T] := by
    have hnb := World.alloc_heap_new w4 (.cells #[.slice (some ⟨zb, 0, none⟩) 1 1, .slice va dn vc, .slice ta tn tc] 22)
    refine ⟨fun i bs hb => ?_, obj_lt hnb⟩
    rcases (show i = 0 ∨ i = 1 ∨ i = 2 ∨ 3 ≤ i by omega) with rfl | rfl | rfl | hi
    · cases hb
      exact ⟨_, _, cell_of hnb 0, HK3.out.2.2.keep hK35⟩
    · cases hb
      rw [← hdn]
      refine ⟨_, _, cell_of hnb 1, srcB_owns (by rw [← hdn]; exact owns_base0 (owns_kept HK3.out.2.1 hK35 (fun _ _ h => h))) (by rw [hD]; exact pack_lt8 _) (by omega)⟩
    · cases hb
      rw [← htn]
      refine ⟨_, _, cell_of hnb 2, srcB_owns (by rw [← htn]; exact owns_kept hown4 hk5 (fun _ _ h => h)) (by rw [hTe]; exact pack_lt8 _) (by omega)⟩
    · rw [List.getElem?_eq_none (by simpa using hi)] at hb; cases hb
  have hlens : lens [[0], D, T] = 1 + dn + tn := by simp [lens, ← hdn, ← htn]; omega
  have HC := (show Hid (Calls Tryz.prog 22 #[.slice (some ⟨w4.heap.size, 0, none⟩) 3 3] (w4.alloc (.cells #[.slice (some ⟨zb, 0, none⟩) 1 1, .slice va dn vc, .slice ta tn tc] 22)) _) from concat_any w4.heap.size [[0], D, T] _ hsrcs (by omega) (by omega) (by simp))
  have HE := (show Hid (Lay (symF xs S) (fun i => bitF l (xF xs S i)) (fun i => baseF l (xF xs S i)) S M own other L ∧ T = pack (L ++ low other l ++ low own l ++ [1]) ∧ D = pack (alignL (dscAll xs l)) ∧ dn = D.length ∧ tn = T.length ∧ Keep noBlock w (w4.alloc (.cells #[.slice (some ⟨zb, 0, none⟩) 1 1, .slice va dn vc, .slice ta tn tc] 22))) from ⟨hLay, hTe, hD, hdn, htn, HK3.out.1.trans' hK35⟩)
  have hdI : (dn : Int) ≤ 1000 := by omega
  have htI : (tn : Int) ≤ 1000 := by omega
  obtain ⟨gb4, hgb4⟩ : ∃ gb4, gb4 = w4.heap.size := ⟨_, rfl⟩
  clear hLay hTe hD hdn htn hown4 hK4 hnew4 hk5 hK35 hsrcs HP HK3 hLb hTl hDl
  go_wp2_with fail
  refine HC.out.mono ?_
  rintro e w5 ⟨v5, rfl, hown5, hK5, hnew5⟩
  have hfl : [[0], D, T].flatten = [0] ++ D ++ T := by simp
  rw [hfl] at hown5
  obtain ⟨N, hN⟩ : ∃ N, N = ([0] ++ D ++ T).length := ⟨_, rfl⟩
  obtain ⟨oa, oc, rfl⟩ := owns_form hown5
  rw [← hN]
  have hNl : N = 1 + dn + tn := by rw [hN, HE.out.2.2.2.1, HE.out.2.2.2.2.1]; simp; omega
  have hKw5 : Keep noBlock w w5 := HE.out.2.2.2.2.2.trans' hK5
  have hNI : (N : Int) ≤ 2001 := by omega
  by_cases hbig : 127 < N - 1
  · have hbI : (127 : Int) < (N : Int) - 1 := by omega
    have HF := (show Hid (Keep noBlock w w5 ∧ ¬ (xs = sureL ∧ l = 6)) from ⟨hKw5, by
      rintro ⟨rfl, rfl⟩
      obtain ⟨q1, q2, q3, q4, q5, -⟩ := HE.out
      have hS := HS.out
      subst hS
      have := sure_short HH.out.2.1 q1
      rw [← q2, ← q3, ← q4, ← q5] at this
      omega⟩)
    clear hown5 hK5 hnew5 hKw5 HE hN hNl hbig
    go_wp2_with fail
    go_ret2
    exact ⟨HF.out.1, .inr ⟨HF.out.2, rfl⟩⟩
  · have hbI : ¬ (127 : Int) < (N : Int) - 1 := by omega
    obtain ⟨h, hh⟩ : ∃ h, h = N - 1 := ⟨_, rfl⟩
    have hhI : (N : Int) - 1 = (h : Int) := by omega
    have hh8 : (h : Int) < 256 := by omega
    rw [← hN] at hown5
    obtain ⟨g, rfl, ⟨v0, c0⟩, f0, hown6⟩ := owns_u8set (V := [0] ++ D ++ T) (by rw [← hN]; exact hown5) hN (by omega) h
    have hset : ([0] ++ D ++ T).set 0 h = [h] ++ D ++ T := rfl
    rw [hset] at hown6
    have hgnew := hnew5 g (by simp [Value.ownBlock])
    have HF := (show Hid (Keep noBlock w (w5.setCell ⟨g, 0, none⟩ (.int .u8 (h : Int))) ∧ (w5.setCell ⟨g, 0, none⟩ (.int .u8 (h : Int))).ownsRow 0 5 1 (.slice (some ⟨g, 0, none⟩) N oc) ([h] ++ D ++ T).length (u8s ([h] ++ D ++ T)) ∧ Desc ([h] ++ D ++ T) (M ++ [x]) ∧ w.heap.size ≤ g) from by
      have hsz := HE.out.2.2.2.2.2.size
      refine ⟨hKw5.setCell (p := ⟨g, 0, none⟩) (fun q => by dsimp only at q; omega) _, hown6, ?_, by omega⟩
      obtain ⟨q1, q2, q3, q4, q5, -⟩ := HE.out
      rw [HS.out] at q1
      refine desc_states HH.out.2.1 HH.out.2.2 q1 _ h (by rw [q2, q3]) (by simp; omega) (by omega) (fun j => ?_)
      rw [List.append_assoc]
      rcases j with _ | j
      · simp; omega
      · simp only [List.cons_append, List.nil_append, List.getElem?_cons_succ]
        by_cases hj : j < D.length
        · rw [List.getElem?_append_left hj, q3]; exact pack_lt8 _ _
        · rw [List.getElem?_append_right (by omega), q2]; exact pack_lt8 _ _)
    have hNp : (0 : Int) < (N : Int) := by omega
    clear hown5 hK5 hnew5 hKw5 HE hN hNl hbig hown6 hset hh hgnew
    go_wp2_with fail
    go_ret2
    obtain ⟨q1, q2, q3, q4⟩ := HF.out
    exact ⟨q1, .inl ⟨_, _, rfl, q2, q3, fun k e => by simp [Value.ownBlock] at e; omega⟩⟩
end

end Go.Proofs.YtcoahkmiebeeeaaGreatDoor
