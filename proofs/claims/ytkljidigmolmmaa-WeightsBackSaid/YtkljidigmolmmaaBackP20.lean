/-
  wholeParts and markRare.
  Counts: counts that make a table, or ErrArg.
  tables: the tables by whose states weights may be told.
  firstOf: a weight's first state.
-/
import Derived.Test.YtkljidigmolmmaaBackP19
namespace Go.Proofs.Ytkljidigmolmmaa
open Go.RowKit Go.Shelf

/-- The whole part of a symbol's share, and 1 at least. -/
def partF (f : Nat → Nat) (T l i : Nat) : Nat := if 0 < f i then max (f i * 2 ^ l / T) 1 else 0
theorem part_le (f : Nat → Nat) (T l i : Nat) (hl : l ≤ 12) (hf : f i ≤ T) (_hT : 0 < T) : partF f T l i ≤ 4096 ∧ f i * 2 ^ l / T ≤ 4096 := by
  have h1 : f i * 2 ^ l / T ≤ 4096 := by
    have h2 : f i * 2 ^ l ≤ T * 4096 := Nat.mul_le_mul hf (Nat.pow_le_pow_right (n := 2) (j := 12) (by omega) hl)
    exact Nat.div_le_of_le_mul h2
  unfold partF
  refine ⟨?_, h1⟩
  split <;> omega
theorem part_inv (f : Nat → Nat) (T l n : Nat) (hl : l ≤ 12) (hf : ∀ i, i < n → f i ≤ T) (hT : 0 < T) : InvC f (partF f T l) n := fun i hi => by
  refine ⟨fun h => ?_, fun h => ?_, (part_le f T l i hl (hf i hi) hT).1⟩
  · unfold partF; rw [if_pos h]; omega
  · unfold partF; rw [if_neg (by omega)]
theorem run_make22 (n : Nat) (h : n ≤ 256) (w : World) : (Instr.makeSlice 79 (.int .i64 (n : Int)) (.int .i64 (n : Int))).run Try.prog w = .ok (.slice (some ⟨w.heap.size, 0, none⟩) n n) (w.alloc (.cells (madeCells #[.int .i16 0] n) 132)) :=
  run_make_row' 79 132 (.int .i16 0) 2 Try.underlying79 info42 rfl .i64 .i64 n (by omega) (by omega) w
theorem isA_new42 (w : World) (n : Nat) : IsA (w.alloc (.cells (madeCells #[.int .i16 0] n) 132)) w.heap.size 132 .i16 n (fun _ => 0) :=
  ⟨_, World.alloc_heap_new w _, size_madeCells _ _, fun i hi => by simp [madeCells, hi, Nat.mod_one]⟩

section
attribute [local go_sem] maxSem_eq
set_option maxRecDepth 100000 in
set_option maxHeartbeats 2000000 in
theorem wholeParts_any (a : Option Addr) (cap gb off : Nat) (fs : List Int) (l T : Nat) (w : World) (hR : RowI w .u32 a cap gb off fs) (hu : U32 fs) (hl : fs.length ≤ 256) (hl12 : l ≤ 12) (hT : T = sumN (fr fs) fs.length) (hT0 : 0 < T) :
    Calls Try.prog 93 #[.slice a fs.length cap, .int .u64 (T : Int), .int .i64 (l : Int)] w fun e w' => e = .returned (.slice (some ⟨w.heap.size, 0, none⟩) fs.length fs.length) ∧ IsA w' w.heap.size 132 .i16 fs.length (fun i => ((partF (fr fs) T l i : Nat) : Int)) ∧ Keep noBlock w w' := by
  have hTb : T ≤ 256 * 4294967296 := by
    rw [hT]
    exact Nat.le_trans (sumN_le _ _ 4294967296 (fun j _ => by have := fr_lt hu j; omega)) (Nat.mul_le_mul_right _ hl)
  have HH := (show Hid (RowI w .u32 a cap gb off fs ∧ U32 fs ∧ ∀ i, i < fs.length → fr fs i ≤ T) from ⟨hR, hu, fun i hi => by rw [hT]; exact sumN_ge _ _ i hi⟩)
  obtain ⟨n, hn⟩ : ∃ n, n = fs.length := ⟨_, rfl⟩
  rw [← hn] at hl ⊢
  have HN := (show Hid (n = fs.length) from hn)
  have hnI : (n : Int) ≤ 256 := by omega
  have hlI : (l : Int) ≤ 12 := by omega
  have hTI : (T : Int) ≤ 1099511627776 := by omega
  have hT0I : 0 < (T : Int) := by omega
  have hTnb : ((T : Int) == 0) = false := by rw [beq_eq_false_iff_ne]; omega
  have hmk := fun W => run_make22 n hl W
  clear hR hu hn hT
  go_enter Try.func93, Try.ntmps93
  go_wp2_with fail
  have hA0 := isA_new42 w n
  have hK0 : Keep noBlock w (w.alloc (.cells (madeCells #[.int .i16 0] n) 132)) := (Keep.refl _ w).alloc _
  generalize w.alloc (.cells (madeCells #[.int .i16 0] n) 132) = W1 at hA0 hK0 ⊢
  obtain ⟨cb, hcb⟩ : ∃ cb, cb = w.heap.size := ⟨_, rfl⟩
  rw [← hcb] at hA0 ⊢
  have HCB := (show Hid (cb = w.heap.size) from hcb)
  have HA0 := (show Hid (IsA W1 cb 132 .i16 n (fun _ => 0) ∧ Keep noBlock w W1) from ⟨hA0, hK0⟩)
  clear hcb hA0 hK0 hmk
  go_loopw [15] (fun v15 wr => ∃ i : Nat, v15 = .int .i64 (i : Int) ∧ i ≤ n ∧ Hid (IsA wr cb 132 .i16 n (fun j => (((if j < i then partF (fr fs) T l j else 0) : Nat) : Int)) ∧ Keep noBlock w wr)) (fun v15 _ => n - (intOf v15).toNat)
  case atStart => exact ⟨0, rfl, Nat.zero_le _, HA0.out.1.congr (fun j _ => by simp), HA0.out.2⟩
  case round =>
    clear HA0
    obtain ⟨i, rfl, hi, HC⟩ := hrel
    by_cases hlt : i < n
    · have hix : i < fs.length := by have := HN.out; omega
      obtain ⟨hR, hu, hfT⟩ := HH.out
      have hR2 := hR.keep HC.out.2 (fun _ h => h)
      obtain rfl := hR2.here hix
      have c0 := hR2.fr hu i hix
      have hfi := fr_lt hu i
      have hfTi := hfT i hix
      have hpl := part_le (fr fs) T l i hl12 hfTi hT0
      have hltI : (i : Int) < (n : Int) := by omega
      have hfI : ((fr fs i : Nat) : Int) < 4294967296 := by omega
      have hAc : ∀ (W : World) (v : Int), v = ((partF (fr fs) T l i : Nat) : Int) → IsA (wr.setCell ⟨cb, i, none⟩ (.int .i16 v)) cb 132 .i16 n (fun j => (((if j < i + 1 then partF (fr fs) T l j else 0) : Nat) : Int)) := fun W v hv => by
        refine (HC.out.1.set i v).congr (fun j _ => ?_)
        by_cases e : j = i
        · subst e; rw [if_pos rfl, if_pos (by omega)]; exact hv
        · rw [if_neg e]
          by_cases hj : j < i
          · rw [if_pos hj, if_pos (by omega)]
          · rw [if_neg hj, if_neg (by omega)]
      by_cases h0 : 0 < fr fs i
      · have h0I : 0 < ((fr fs i : Nat) : Int) := by omega
        obtain ⟨y, hy⟩ : ∃ y, y = fr fs i * 2 ^ l := ⟨_, rfl⟩
        obtain ⟨q, hq⟩ : ∃ q, q = y / T := ⟨_, rfl⟩
        obtain ⟨m, hm⟩ : ∃ m, m = max q 1 := ⟨_, rfl⟩
        have hyb : y ≤ 4294967296 * 4096 := by rw [hy]; exact Nat.mul_le_mul (by omega) (Nat.pow_le_pow_right (n := 2) (j := 12) (by omega) hl12)
        have hyI : ((fr fs i : Nat) : Int) * 2 ^ l = (y : Int) := by rw [hy]; simp
        have hqI : (y : Int) / (T : Int) = (q : Int) := by rw [hq]; simp
        have hq2 : q ≤ 4096 := by rw [hq, hy]; exact hpl.2
        have hmx := fun W => maxSem_run .u64 #[41, 41] 41 (q : Int) 1 (m : Int) (by omega) W
        have hpm : partF (fr fs) T l i = m := by unfold partF; rw [if_pos h0, hm, hq, hy]
        have hyB : (y : Int) ≤ 17592186044416 := by omega
        have hqB : (q : Int) ≤ 4096 := by omega
        have hmB : (m : Int) ≤ 4096 := by omega
        have ci := HC.out.1.cell i hlt
        have fi := HC.out.1.frozen i
        have HG := (show Hid (IsA (wr.setCell ⟨cb, i, none⟩ (.int .i16 (m : Int))) cb 132 .i16 n (fun j => (((if j < i + 1 then partF (fr fs) T l j else 0) : Nat) : Int)) ∧ Keep noBlock w (wr.setCell ⟨cb, i, none⟩ (.int .i16 (m : Int)))) from
          ⟨hAc wr _ (by rw [hpm]), HC.out.2.trans (Keep.setCell (S := fun k => k = cb) (p := ⟨cb, i, none⟩) (Keep.refl _ wr) (fun _ => rfl) _) (fun j hj e => by have := HCB.out; omega)⟩)
        clear hR hu hfT hR2 hfi hfTi hpl hAc hy hq hm hyb hq2 hpm HC
        generalize fr fs i = x at *
        go_wp2_with fail
        go_roundw
        case rel => exact ⟨i + 1, by go_num, by omega, HG⟩
        case measure => simp [intOf]; omega
      · have h0I : ¬ 0 < ((fr fs i : Nat) : Int) := by omega
        have HG := (show Hid (IsA wr cb 132 .i16 n (fun j => (((if j < i + 1 then partF (fr fs) T l j else 0) : Nat) : Int)) ∧ Keep noBlock w wr) from by
          refine ⟨HC.out.1.congr (fun j _ => ?_), HC.out.2⟩
          by_cases e : j = i
          · subst e
            rw [if_neg (by omega), if_pos (by omega)]
            have : partF (fr fs) T l j = 0 := by unfold partF; rw [if_neg h0]
            rw [this]
          · by_cases hj : j < i
            · rw [if_pos hj, if_pos (by omega)]
            · rw [if_neg hj, if_neg (by omega)])
        clear hR hu hfT hR2 hfi hfTi hpl hAc HC
        generalize fr fs i = x at *
        go_wp2_with fail
        go_roundw
        case rel => exact ⟨i + 1, by go_num, by omega, HG⟩
        case measure => simp [intOf]; omega
    · obtain rfl : i = n := by omega
      have hltI : ¬ (i : Int) < (i : Int) := by omega
      go_wp2
      go_ret
      rw [← HCB.out]
      exact ⟨rfl, HC.out.1.congr (fun j hj => by rw [if_pos hj]), HC.out.2⟩
end

/-- A count, or -1, where a symbol is rarer than its one state. -/
def markF (f c : Nat → Nat) (T l i : Nat) : Int := if c i = 1 ∧ f i * 2 ^ l < T then -1 else ((c i : Nat) : Int)

set_option maxRecDepth 100000 in
set_option maxHeartbeats 2000000 in
theorem markRare_any (cb : Nat) (c : Nat → Nat) (a : Option Addr) (cap gb off : Nat) (fs : List Int) (l T : Nat) (w : World) (hA : IsA w cb 132 .i16 fs.length (fun i => ((c i : Nat) : Int))) (hR : RowI w .u32 a cap gb off fs) (hgb : fs ≠ [] → gb ≠ cb) (hu : U32 fs) (hl : fs.length ≤ 256) (hl12 : l ≤ 12) (hTb : T ≤ 1099511627776) (hc : ∀ i, i < fs.length → c i ≤ 4096) :
    Calls Try.prog 95 #[.slice (some ⟨cb, 0, none⟩) fs.length fs.length, .slice a fs.length cap, .int .u64 (T : Int), .int .i64 (l : Int)] w fun e w' => e = .returned (.tuple #[]) ∧ IsA w' cb 132 .i16 fs.length (markF (fr fs) c T l) ∧ Keep (fun k => k = cb) w w' := by
  have HH := (show Hid (RowI w .u32 a cap gb off fs ∧ (fs ≠ [] → gb ≠ cb) ∧ U32 fs ∧ ∀ i, i < fs.length → c i ≤ 4096) from ⟨hR, hgb, hu, hc⟩)
  have HA0 := (show Hid (IsA w cb 132 .i16 fs.length (fun i => ((c i : Nat) : Int))) from hA)
  obtain ⟨n, hn⟩ : ∃ n, n = fs.length := ⟨_, rfl⟩
  rw [← hn] at hl HA0 ⊢
  have HN := (show Hid (n = fs.length) from hn)
  have hnI : (n : Int) ≤ 256 := by omega
  have hlI : (l : Int) ≤ 12 := by omega
  have hTI : (T : Int) ≤ 1099511627776 := by omega
  clear hR hu hn hA hgb hc
  go_enter Try.func95, Try.ntmps95
  go_wp2_with fail
  go_loopw [12] (fun v12 wr => ∃ i : Nat, v12 = .int .i64 (i : Int) ∧ i ≤ n ∧ Hid (IsA wr cb 132 .i16 n (fun j => if j < i then markF (fr fs) c T l j else ((c j : Nat) : Int)) ∧ Keep (fun k => k = cb) w wr)) (fun v12 _ => n - (intOf v12).toNat)
  case atStart => exact ⟨0, rfl, Nat.zero_le _, HA0.out.congr (fun j _ => by simp), Keep.refl _ _⟩
  case round =>
    clear HA0
    obtain ⟨i, rfl, hi, HC⟩ := hrel
    by_cases hlt : i < n
    · have hix : i < fs.length := by have := HN.out; omega
      obtain ⟨hR, hgb, hu, hc⟩ := HH.out
      have hR2 := hR.keep HC.out.2 hgb
      obtain rfl := hR2.here hix
      have c0 := hR2.fr hu i hix
      have hfi := fr_lt hu i
      have hltI : (i : Int) < (n : Int) := by omega
      have hfI : ((fr fs i : Nat) : Int) < 4294967296 := by omega
      have ci := HC.out.1.cell i hlt
      rw [if_neg (by omega)] at ci
      have fi := HC.out.1.frozen i
      have hci := hc i hix
      have hcI : ((c i : Nat) : Int) ≤ 4096 := by omega
      obtain ⟨y, hy⟩ : ∃ y, y = fr fs i * 2 ^ l := ⟨_, rfl⟩
      have hyb : y ≤ 4294967296 * 4096 := by rw [hy]; exact Nat.mul_le_mul (by omega) (Nat.pow_le_pow_right (n := 2) (j := 12) (by omega) hl12)
      have hyI : ((fr fs i : Nat) : Int) * 2 ^ l = (y : Int) := by rw [hy]; simp
      have hyB : (y : Int) ≤ 17592186044416 := by omega
      by_cases hm : c i = 1 ∧ y < T
      · have hmk : markF (fr fs) c T l i = -1 := by unfold markF; rw [← hy, if_pos hm]
        have h1b : (((c i : Nat) : Int) == 1) = true := by rw [hm.1]; rfl
        have h2I : (y : Int) < (T : Int) := by omega
        have HG := (show Hid (IsA (wr.setCell ⟨cb, i, none⟩ (.int .i16 (-1))) cb 132 .i16 n (fun j => if j < i + 1 then markF (fr fs) c T l j else ((c j : Nat) : Int)) ∧ Keep (fun k => k = cb) w (wr.setCell ⟨cb, i, none⟩ (.int .i16 (-1)))) from by
          refine ⟨(HC.out.1.set i (-1)).congr (fun j _ => ?_), Keep.setCell (S := fun k => k = cb) (p := ⟨cb, i, none⟩) HC.out.2 (fun _ => rfl) _⟩
          by_cases e : j = i
          · subst e; rw [if_pos rfl, if_pos (by omega), hmk]
          · rw [if_neg e]
            by_cases hj : j < i
            · rw [if_pos hj, if_pos (by omega)]
            · rw [if_neg hj, if_neg (by omega)])
        clear hR hgb hu hc hR2 hfi hci hy hyb hm hmk HC
        generalize fr fs i = x at *
        generalize c i = cc at *
        go_wp2_with fail
        go_roundw
        case rel => exact ⟨i + 1, by go_num, by omega, HG⟩
        case measure => simp [intOf]; omega
      · have hmk : markF (fr fs) c T l i = ((c i : Nat) : Int) := by unfold markF; rw [← hy, if_neg hm]
        have HG := (show Hid (IsA wr cb 132 .i16 n (fun j => if j < i + 1 then markF (fr fs) c T l j else ((c j : Nat) : Int)) ∧ Keep (fun k => k = cb) w wr) from by
          refine ⟨HC.out.1.congr (fun j _ => ?_), HC.out.2⟩
          by_cases e : j = i
          · subst e; rw [if_neg (by omega), if_pos (by omega), hmk]
          · by_cases hj : j < i
            · rw [if_pos hj, if_pos (by omega)]
            · rw [if_neg hj, if_neg (by omega)])
        by_cases h1 : c i = 1
        · have h1b : (((c i : Nat) : Int) == 1) = true := by rw [h1]; rfl
          have h2I : ¬ (y : Int) < (T : Int) := by have : ¬ y < T := fun h => hm ⟨h1, h⟩; omega
          clear hR hgb hu hc hR2 hfi hci hy hyb hm hmk HC h1
          generalize fr fs i = x at *
          generalize c i = cc at *
          go_wp2_with fail
          go_roundw
          case rel => exact ⟨i + 1, by go_num, by omega, HG⟩
          case measure => simp [intOf]; omega
        · have h1b : (((c i : Nat) : Int) == 1) = false := by rw [beq_eq_false_iff_ne]; omega
          clear hR hgb hu hc hR2 hfi hci hy hyb hm hmk HC h1
          generalize fr fs i = x at *
          generalize c i = cc at *
          go_wp2_with fail
          go_roundw
          case rel => exact ⟨i + 1, by go_num, by omega, HG⟩
          case measure => simp [intOf]; omega
    · obtain rfl : i = n := by omega
      have hltI : ¬ (i : Int) < (i : Int) := by omega
      go_wp2
      go_end0
      exact ⟨rfl, HC.out.1.congr (fun j hj => by rw [if_pos hj]), HC.out.2⟩

end Go.Proofs.Ytkljidigmolmmaa

namespace Go.Proofs.Ytkljidigmolmmaa
open Go.RowKit Go.Shelf

theorem used_zero (f : Nat → Nat) (k n : Nat) (hk : k ≤ n) (h : ∀ j, k ≤ j → j < n → f j = 0) : usedC f n = usedC f k := by
  induction n with
  | zero => obtain rfl : k = 0 := by omega
            rfl
  | succ n ih =>
    by_cases e : k = n + 1
    · subst e; rfl
    · have h1 := ih (by omega) (fun j h1 h2 => h j h1 (by omega))
      have h2 := h n (by omega) (by omega)
      show usedC f n + (if 0 < f n then 1 else 0) = _
      rw [h1, h2]; simp
theorem fr_take (fs : List Int) (k i : Nat) (h : i < k) : fr (fs.take k) i = fr fs i := by
  unfold fr; rw [List.getElem?_take, if_pos h]
theorem used_take (fs : List Int) (k : Nat) (hk : k ≤ fs.length) (h : ∀ j, k ≤ j → j < fs.length → fr fs j = 0) : usedC (fr (fs.take k)) (fs.take k).length = usedC (fr fs) fs.length := by
  have e : (fs.take k).length = k := by rw [List.length_take]; omega
  rw [e, used_zero (fr fs) k fs.length hk h]
  exact sumN_congr _ _ k (fun i hi => by rw [fr_take fs k i hi])
theorem u32_take {fs : List Int} (h : U32 fs) (k : Nat) : U32 (fs.take k) := fun i => by
  rw [List.getElem?_take]
  split
  · exact h i
  · simp
theorem sum_pos (f : Nat → Nat) (n : Nat) (h : 0 < usedC f n) : 0 < sumN f n := by
  obtain ⟨j, hj, hf⟩ := some_there f n h
  have := sumN_ge f n j hj
  omega

/-- The counts as they come out. -/
def outC (f c : Nat → Nat) (T l n : Nat) : List Int := (List.range n).map (markF f c T l)
theorem outC_length (f c : Nat → Nat) (T l n : Nat) : (outC f c T l n).length = n := by simp [outC]
theorem outC_at (f c : Nat → Nat) (T l n i : Nat) (hi : i < n) : (outC f c T l n)[i]?.getD 0 = markF f c T l i := by
  unfold outC
  rw [List.getElem?_map, List.getElem?_range hi]; rfl
theorem mark_share (f c : Nat → Nat) (T l i : Nat) : shareN (markF f c T l i) = ((c i : Nat) : Int) := by
  unfold markF
  split
  · rename_i h; rw [h.1]; rfl
  · unfold shareN; rw [if_neg (by omega)]
theorem mark_zero (f c : Nat → Nat) (T l i : Nat) : markF f c T l i = 0 ↔ c i = 0 := by
  unfold markF
  split
  · rename_i h; rw [h.1]; simp
  · omega
theorem mark_bounds (f c : Nat → Nat) (T l i : Nat) (h : c i ≤ 4096) : -1 ≤ markF f c T l i ∧ markF f c T l i ≤ 4096 := by
  unfold markF; split <;> omega
theorem out_sum (f c : Nat → Nat) (T l n m : Nat) (hm : m ≤ n) : sumS (outC f c T l n) m = ((sumN c m : Nat) : Int) := by
  induction m with
  | zero => rfl
  | succ m ih => simp only [sumS, sumN]; rw [ih (by omega), outC_at f c T l n m (by omega), mark_share]; omega
theorem out_ok (f c : Nat → Nat) (T l n : Nat) (hl5 : 5 ≤ l) (hl12 : l ≤ 12) (hn : n ≠ 0) (hn2 : n ≤ 256) (hI : InvC f c n) (hlast : 0 < f (n - 1)) (hs : sumN c n = 2 ^ l) : okT (outC f c T l n) (l : Int) = true := by
  unfold okT
  refine decide_eq_true ⟨by omega, by omega, by rw [outC_length]; exact hn, by rw [outC_length]; exact hn2, ?_, fun i hi => ?_, ?_⟩
  · rw [outC_length, outC_at f c T l n (n - 1) (by omega)]
    intro e
    have h1 := (mark_zero f c T l (n - 1)).1 e
    have h2 := (hI (n - 1) (by omega)).1 hlast
    omega
  · rw [outC_length] at hi
    rw [outC_at f c T l n i hi]
    exact (mark_bounds f c T l i (hI i hi).2.2).1
  · rw [outC_length, out_sum f c T l n n (Nat.le_refl _), hs, Int.toNat_natCast]; simp

/-- What Counts gives. -/
def IsCounts (fs : List Int) (l : Nat) (w : World) (e : Ending) (w' : World) : Prop :=
  (ableF fs (l : Int) = false ∧ e = .returned (.tuple #[.slice none 0 0, .int .i64 2]) ∧ w' = w) ∨
  (ableF fs (l : Int) = true ∧ ∃ (cb : Nat) (xs : List Int), e = .returned (.tuple #[.slice (some ⟨cb, 0, none⟩) xs.length xs.length, .int .i64 0]) ∧ RowI w' .i16 (some ⟨cb, 0, none⟩) xs.length cb 0 xs ∧ okT xs (l : Int) = true ∧ I16 xs ∧ xs.length ≤ fs.length ∧
    (∀ i, i < fs.length → (0 < fr fs i ↔ (i < xs.length ∧ xs[i]?.getD 0 ≠ 0))) ∧ Keep noBlock w w')

section
attribute [local go_sem] sliceSem_eq
set_option maxRecDepth 100000 in
set_option maxHeartbeats 4000000 in
theorem counts_in (a : Option Addr) (cap gb off : Nat) (fs : List Int) (l : Nat) (w : World) (hR : RowI w .u32 a cap gb off fs) (hu : U32 fs) (hl : fs.length ≤ 256) (hl5 : 5 ≤ l) (hl12 : l ≤ 12) :
    Calls Try.prog 78 #[.slice a fs.length cap, .int .i64 (l : Int)] w fun e w' => IsCounts fs l w e w' := by
  have hd : decide (5 ≤ (l : Int) ∧ (l : Int) ≤ 12) = true := decide_eq_true ⟨by omega, by omega⟩
  have HIL := (show Hid (∀ w : World, Calls Try.prog 57 #[.int .i64 (l : Int)] w fun e w' => e = .returned (.bool true) ∧ w' = w) from fun w => by have := isLog_any (l : Int) w; rwa [hd] at this)
  have hlI : ¬ (256 : Int) < (fs.length : Int) := by omega
  have HH := (show Hid (RowI w .u32 a cap gb off fs ∧ U32 fs) from ⟨hR, hu⟩)
  have hSb : 2 ^ l ≤ 4096 := Nat.pow_le_pow_right (n := 2) (j := 12) (by omega) hl12
  have hp : (2 : Int) ^ l = ((2 ^ l : Nat) : Int) := by simp
  obtain ⟨S, hS⟩ : ∃ S, S = 2 ^ l := ⟨_, rfl⟩
  rw [← hS] at hSb hp
  have HSE := (show Hid (S = 2 ^ l) from hS)
  have hSI : (S : Int) ≤ 4096 := by omega
  have hllI : (l : Int) ≤ 12 := by omega
  obtain ⟨n, hn⟩ : ∃ n, n = fs.length := ⟨_, rfl⟩
  rw [← hn] at hl hlI ⊢
  have HN := (show Hid (n = fs.length) from hn)
  have hnI : (n : Int) ≤ 256 := by omega
  clear hR hu hd hn hS
  go_enter Try.func78, Try.ntmps78
  go_wp2_with (go_at_call 57; refine (HIL.out _).mono ?_; rintro e w' ⟨rfl, rfl⟩)
  go_loop [0] (fun v0 => ∃ k : Nat, v0 = .slice a k cap ∧ k ≤ n ∧ Hid (∀ j, k ≤ j → j < fs.length → fr fs j = 0)) (fun v0 => sliceLen v0)
  case atStart => exact ⟨n, rfl, Nat.le_refl _, fun j h1 h2 => by have := HN.out; omega⟩
  case round =>
    obtain ⟨k, rfl, hk, HZ⟩ := hrel
    by_cases hz : 0 < k ∧ fr fs (k - 1) = 0
    · obtain ⟨hk0, hf0⟩ := hz
      obtain ⟨m, hm⟩ : ∃ m, k = m + 1 := ⟨k - 1, by omega⟩
      have hix : m < fs.length := by have := HN.out; omega
      obtain ⟨hR, hu⟩ := HH.out
      obtain rfl := hR.here hix
      have c0 := hR.fr hu m hix
      rw [show k - 1 = m from by omega] at hf0
      have HZ2 := (show Hid (∀ j, m ≤ j → j < fs.length → fr fs j = 0) from fun j h1 h2 => by
        by_cases e : j = m
        · subst e; exact hf0
        · exact HZ.out j (by omega) h2)
      rw [hf0] at c0
      have hsl := fun W => run_high (t := 144) Try.underlying144 info41 (some ⟨gb, off, none⟩) k cap m (by have := hR.le; omega) W
      have hk0I : 0 < (k : Int) := by omega
      have hkmI : (k : Int) - 1 = (m : Int) := by omega
      have hkb : (k : Int) ≤ 256 := by omega
      have hmk : (m : Int) < (k : Int) := by omega
      have HM := (show Hid (k = m + 1) from hm)
      clear hR hu hf0 hm
      rw [show ((0 : Nat) : Int) = (0 : Int) from rfl] at c0
      go_wp2_with fail
      go_round
      case rel => exact ⟨m, rfl, by have := HM.out; omega, HZ2⟩
      case measure => have := HM.out; simp [sliceLen]; omega
    · obtain ⟨hR, hu⟩ := HH.out
      have hnf := HN.out
      obtain ⟨-, hRk⟩ := hR.take Try.underlying144 info41 k (by omega)
      have hkl : (fs.take k).length = k := by rw [List.length_take]; omega
      have hut := u32_take hu k
      have hus := used_take fs k (by omega) HZ.out
      have hsu := sumOf_any a cap gb off (fs.take k) w' hRk hut (by rw [hkl]; omega)
      rw [hkl] at hsu hus
      have HAB := (show Hid (ableF fs (l : Int) = decide (1 ≤ usedC (fr (fs.take k)) k ∧ usedC (fr (fs.take k)) k ≤ S)) from by
        unfold ableF
        rw [Bool.eq_iff_iff, decide_eq_true_iff, decide_eq_true_iff, Int.toNat_natCast, hus, HSE.out]
        exact ⟨fun h => h.2.2.2, fun h => ⟨by omega, by omega, by omega, h⟩⟩)
      have HSU := (show Hid (Calls Try.prog 92 _ w' _) from hsu)
      have hub := usedN_le (fr (fs.take k)) k
      have huI : ((usedC (fr (fs.take k)) k : Nat) : Int) ≤ 256 := by omega
      by_cases hk0 : k = 0
      · subst hk0
        have hU0 : usedC (fr (fs.take 0)) 0 = 0 := rfl
        have hT0 : sumN (fr (fs.take 0)) 0 = 0 := rfl
        rw [hU0, hT0] at HSU
        have HF := (show Hid (ableF fs (l : Int) = false) from by rw [HAB.out, hU0]; rfl)
        clear hR hu hnf hRk hkl hut hus hsu hub huI hU0 hT0 HAB hz
        rw [show ((0 : Nat) : Int) = (0 : Int) from rfl] at HSU
        go_wp2_with (go_at_call 92; refine (HSU.out).mono ?_; rintro e w1 ⟨rfl, rfl⟩)
        go_ret2
        exact .inl ⟨HF.out, rfl, rfl⟩
      · have hf1 : fr fs (k - 1) ≠ 0 := fun e => hz ⟨by omega, e⟩
        obtain ⟨m, hm⟩ : ∃ m, k = m + 1 := ⟨k - 1, by omega⟩
        have hix : m < fs.length := by omega
        obtain rfl := hR.here hix
        have c0 := hR.fr hu m hix
        rw [show k - 1 = m from by omega] at hf1
        have hfp : 0 < fr (fs.take k) (k - 1) := by rw [fr_take fs k (k - 1) (by omega), show k - 1 = m from by omega]; omega
        have hU1 : 1 ≤ usedC (fr (fs.take k)) k := by
          have := sumN_ge (fun i => if 0 < fr (fs.take k) i then 1 else 0) k (k - 1) (by omega)
          rw [if_pos hfp] at this
          exact this
        have hk0I : 0 < (k : Int) := by omega
        have hkmI : (k : Int) - 1 = (m : Int) := by omega
        have hkb : (k : Int) ≤ 256 := by omega
        have hmk : (m : Int) < (k : Int) := by omega
        have hfb : (((fr fs m : Nat) : Int) == 0) = false := by rw [beq_eq_false_iff_ne]; omega
        have hTp := sum_pos (fr (fs.take k)) k (by omega)
        have hTb : sumN (fr (fs.take k)) k ≤ 256 * 4294967296 := Nat.le_trans (sumN_le _ k 4294967296 (fun j _ => by have := fr_lt hut j; omega)) (Nat.mul_le_mul_right _ (by omega))
        have hU1b : (((usedC (fr (fs.take k)) k : Nat) : Int) == 0) = false := by rw [beq_eq_false_iff_ne]; omega
        by_cases hUS : usedC (fr (fs.take k)) k ≤ S
        · have hUSI : ¬ (S : Int) < ((usedC (fr (fs.take k)) k : Nat) : Int) := by omega
          have HF := (show Hid (ableF fs (l : Int) = true) from by rw [HAB.out]; exact decide_eq_true ⟨hU1, hUS⟩)
          obtain ⟨T, hT⟩ : ∃ T, T = sumN (fr (fs.take k)) k := ⟨_, rfl⟩
          rw [← hT] at HSU hTp hTb
          have HW := (show Hid (∀ W, RowI W .u32 (some ⟨gb, off, none⟩) cap gb off (fs.take k) → Calls Try.prog 93 #[.slice (some ⟨gb, off, none⟩) k cap, .int .u64 (T : Int), .int .i64 (l : Int)] W fun e w' => e = .returned (.slice (some ⟨W.heap.size, 0, none⟩) k k) ∧ IsA w' W.heap.size 132 .i16 k (fun i => ((partF (fr (fs.take k)) T l i : Nat) : Int)) ∧ Keep noBlock W w') from fun W hW => by
            have := wholeParts_any (some ⟨gb, off, none⟩) cap gb off (fs.take k) l T W hW hut (by rw [hkl]; omega) (by omega) (by rw [hkl]; exact hT) hTp
            rwa [hkl] at this)
          have hpi := part_inv (fr (fs.take k)) T l k (by omega) (fun i hi => by rw [hT]; exact sumN_ge _ k i hi) hTp
          have HST := (show Hid (∀ W cb, RowI W .u32 (some ⟨gb, off, none⟩) cap gb off (fs.take k) → gb ≠ cb → IsA W cb 132 .i16 k (fun i => ((partF (fr (fs.take k)) T l i : Nat) : Int)) → Calls Try.prog 94 #[.slice (some ⟨cb, 0, none⟩) k k, .slice (some ⟨gb, off, none⟩) k cap, .int .i64 (S : Int)] W fun e w' => e = .returned (.tuple #[]) ∧ ∃ c : Nat → Nat, IsA w' cb 132 .i16 k (fun i => ((c i : Nat) : Int)) ∧ InvC (fr (fs.take k)) c k ∧ sumN c k = S ∧ Keep (fun k => k = cb) W w') from fun W cb hW hne hA => by
            have := settle_any cb S (partF (fr (fs.take k)) T l) (some ⟨gb, off, none⟩) cap gb off (fs.take k) W (by rw [hkl]; exact hA) hW (fun _ => hne) hut (by rw [hkl]; omega) (by rw [hkl]; exact hpi) (by rw [hkl]; omega) (by rw [hkl]; exact hUS) hSb
            rwa [hkl] at this)
          have HMR := (show Hid (∀ W cb (c : Nat → Nat), RowI W .u32 (some ⟨gb, off, none⟩) cap gb off (fs.take k) → gb ≠ cb → IsA W cb 132 .i16 k (fun i => ((c i : Nat) : Int)) → InvC (fr (fs.take k)) c k → Calls Try.prog 95 #[.slice (some ⟨cb, 0, none⟩) k k, .slice (some ⟨gb, off, none⟩) k cap, .int .u64 (T : Int), .int .i64 (l : Int)] W fun e w' => e = .returned (.tuple #[]) ∧ IsA w' cb 132 .i16 k (markF (fr (fs.take k)) c T l) ∧ Keep (fun k => k = cb) W w') from fun W cb c hW hne hA hI => by
            have := markRare_any cb c (some ⟨gb, off, none⟩) cap gb off (fs.take k) l T W (by rw [hkl]; exact hA) hW (fun _ => hne) hut (by rw [hkl]; omega) (by omega) (by omega) (fun i hi => (hI i (by omega)).2.2)
            rwa [hkl] at this)
          have hgbl := hRk.block (by intro e; rw [e] at hkl; simp at hkl; omega)
          have HFX := (show Hid (0 < fr (fs.take k) (k - 1) ∧ RowI w' .u32 (some ⟨gb, off, none⟩) cap gb off (fs.take k) ∧ gb < w'.heap.size ∧ k = m + 1) from ⟨hfp, hRk, hgbl, hm⟩)
          have hTI : (T : Int) ≤ 1099511627776 := by omega
          clear hR hu hRk hkl hut hus hsu hub hf1 hfp hT hTb hpi hgbl HAB hz hU1 hm
          generalize usedC (fr (fs.take k)) k = U at *
          generalize fr fs m = fm at *
          go_wp2_with (go_at_call 92; refine (HSU.out).mono ?_; rintro e w1 ⟨rfl, rfl⟩)
          refine (HW.out _ HFX.out.2.1).mono ?_
          rintro e w2 ⟨rfl, hA2, hK2⟩
          obtain ⟨cb, hcb⟩ : ∃ cb, cb = w1.heap.size := ⟨_, rfl⟩
          rw [← hcb] at hA2 ⊢
          have HCB := (show Hid (cb = w1.heap.size ∧ gb ≠ cb) from ⟨hcb, by have := HFX.out.2.2.1; omega⟩)
          have hR2 := HFX.out.2.1.keep hK2 (fun _ h => h)
          clear hcb
          go_wp2_with fail
          refine (HST.out w2 cb hR2 HCB.out.2 hA2).mono ?_
          rintro e w3 ⟨rfl, c, hA3, hI3, hS3, hK3⟩
          have hR3 := hR2.keep hK3 (fun _ => HCB.out.2)
          have HI := (show Hid (InvC (fr (fs.take k)) c k ∧ sumN c k = S) from ⟨hI3, hS3⟩)
          clear hS3
          go_wp2_with fail
          refine (HMR.out w3 cb c hR3 HCB.out.2 hA3 hI3).mono ?_
          rintro e w4 ⟨rfl, hA4, hK4⟩
          go_wp2_with fail
          go_ret2
          have hcbe := HCB.out.1
          have kk : Keep noBlock w1 w4 := (hK2.trans hK3 (fun i hi e => by omega)).trans hK4 (fun i hi e => by omega)
          have hol := outC_length (fr (fs.take k)) c T l k
          refine .inr ⟨HF.out, cb, outC (fr (fs.take k)) c T l k, by rw [hol]; rfl, ⟨.inl rfl, (fun e => by cases e), fun j hj => ?_, Nat.le_refl _⟩, ?_, fun i => ?_, by rw [hol]; omega, fun i hi => ?_, kk⟩
          · rw [hol] at hj
            rw [Nat.zero_add, hA4.cell j hj, outC_at _ _ _ _ _ _ hj]
          · exact out_ok _ _ _ _ _ hl5 hl12 hk0 (by omega) HI.out.1 HFX.out.1 (by rw [HI.out.2]; exact HSE.out)
          · by_cases hi : i < k
            · rw [outC_at _ _ _ _ _ _ hi]
              have := mark_bounds (fr (fs.take k)) c T l i (HI.out.1 i hi).2.2
              omega
            · rw [List.getElem?_eq_none (by omega)]; simp
          · rw [hol]
            by_cases hik : i < k
            · rw [outC_at _ _ _ _ _ _ hik, ← fr_take fs k i hik]
              have h1 := HI.out.1 i hik
              have h2 := mark_zero (fr (fs.take k)) c T l i
              constructor
              · intro h; exact ⟨hik, fun e => by have := h2.1 e; have := h1.1 h; omega⟩
              · rintro ⟨_, h⟩
                rcases Nat.eq_zero_or_pos (fr (fs.take k) i) with e | e
                · exact absurd (h2.2 (h1.2.1 e)) h
                · exact e
            · have h3 := HZ.out i (by omega) hi
              rw [h3]
              constructor
              · intro h; omega
              · rintro ⟨h, _⟩; exact absurd h hik
        · have hUSI : (S : Int) < ((usedC (fr (fs.take k)) k : Nat) : Int) := by omega
          have HF := (show Hid (ableF fs (l : Int) = false) from by rw [HAB.out]; exact decide_eq_false (fun h => hUS h.2))
          have hTI : ((sumN (fr (fs.take k)) k : Nat) : Int) ≤ 1099511627776 := by omega
          clear hR hu hRk hkl hut hus hsu hub hf1 hfp hTb HAB hz hU1 hm hTp
          generalize usedC (fr (fs.take k)) k = U at *
          generalize sumN (fr (fs.take k)) k = T at *
          generalize fr fs m = fm at *
          go_wp2_with (go_at_call 92; refine (HSU.out).mono ?_; rintro e w1 ⟨rfl, rfl⟩)
          go_ret2
          exact .inl ⟨HF.out, rfl, rfl⟩
end

end Go.Proofs.Ytkljidigmolmmaa

namespace Go.Proofs.Ytkljidigmolmmaa
open Go.RowKit Go.Shelf
set_option linter.unusedVariables false

attribute [local go_sem] Oper.semAt_some

theorem fqN_full (M : List Nat) (k s : Nat) (h : ∀ i, i < k → wt M i = s) : fqN M k s = k := by
  induction k with
  | zero => rfl
  | succ k ih => rw [fqN_succ, ih (fun i hi => h i (by omega)), if_pos (h k (by omega))]
theorem fr_fqL (M : List Nat) (s : Nat) (hs : s < 12) : fr (fqL M) s = fqF M s := by
  unfold fr fqL
  rw [List.getElem?_map, List.getElem?_range hs]
  simp
theorem fqF_pos {M : List Nat} (i : Nat) (hi : i < M.length) : 0 < fqF M (wt M i) := by
  unfold fqF
  split
  · omega
  · exact fqN_pos M _ i hi
theorem fit_counts {M : List Nat} {x m : Nat} (hT : Told M x m) {xs : List Int} {l : Nat} (ok : okT xs (l : Int) = true) (hi : I16 xs) (hl : l ≤ 6) (hx : xs.length ≤ 12) (hc : ∀ i, i < 12 → (0 < fqF M i ↔ (i < xs.length ∧ xs[i]?.getD 0 ≠ 0))) : Fit M xs l := by
  refine ⟨ok, hi, hx, hl, fun i hi => ?_, fun s hs => ?_⟩
  · exact (hc _ (by have := hT.le i hi; omega)).1 (fqF_pos i hi)
  · obtain ⟨i1, h1, h2⟩ := hT.one
    by_cases hs1 : s = 1
    · by_cases hall : ∀ i, i < M.length → wt M i = 1
      · have h0 : 0 < fqF M 0 := by unfold fqF; rw [if_pos ⟨fqN_full M _ 1 hall, rfl⟩]; omega
        exact ⟨0, by omega, (hc 0 (by omega)).1 h0⟩
      · obtain ⟨i, hi⟩ : ∃ i, ¬ (i < M.length → wt M i = 1) := Classical.not_forall.1 hall
        have hi1 : i < M.length := Classical.byContradiction fun q => hi (fun h => absurd h q)
        have hi2 : wt M i ≠ 1 := fun q => hi (fun _ => q)
        exact ⟨wt M i, by omega, (hc _ (by have := hT.le i hi1; omega)).1 (fqF_pos i hi1)⟩
    · have := fqF_pos i1 h1
      rw [h2] at this
      exact ⟨1, fun e => hs1 e.symm, (hc 1 (by omega)).1 this⟩

set_option maxHeartbeats 1000000 in
theorem tables_in (F : Fence) (n : Nat) (h55 : F.fn 55) (hro : F.round = none) (a : Option Addr) (len cap : Nat) (w : World) :
    CallsIn F n Try.prog 55 #[.slice a len cap] w fun e w' => e = .returned (.func (.func 76) #[] #[.pointer (some ⟨w.heap.size, 0, none⟩)]) ∧ w' = w.alloc (.cells #[.slice a len cap] 22) := by
  refine callsIn_of_wp Try.func55 rfl h55 ?_ hro
  simp only [Try.ntmps55, List.size_toArray, List.length_cons, List.length_nil, Nat.reduceAdd, Nat.reduceSub, Array.replicate_succ, Array.replicate_zero, List.push_toArray, List.append_toArray, List.nil_append, List.cons_append]
  gi_wp2
  go_ret
  exact ⟨rfl, rfl⟩

/-- What tables hands over. -/
def tabR (M : List Nat) (p : Bool) (vs : Array Value) (p' : Bool) (V : World) : Prop := ∃ (xs : List Int) (l : Nat) (a : Option Addr) (cap gb off : Nat), vs = #[.int .i64 (l : Int), .slice a xs.length cap] ∧ RowI V .i16 a cap gb off xs ∧ Fit M xs l ∧ p' = (p || decide (xs = sureL ∧ l = 6))

set_option maxRecDepth 100000 in
set_option maxHeartbeats 4000000 in
theorem tables1_in (n : Nat) (hn : 1 ≤ n) (l Bs : Nat) (a : Option Addr) (cap gb off : Nat) (M : List Nat) (x m : Nat) (hT : Told M x m) (J : Bool → World → Prop)
    (hD : ∀ p X Y, J p X → Keep noBlock X Y → J p Y)
    (hY : ∀ p vs p' V, tabR M p vs p' V → J p V → YieldAt Fence.wide (n - 1) Try.prog l vs V fun e W' => e = .returned (.bool true) ∧ J p' W' ∧ KpL l V W') (W : World) (hb0 : BBox Bs a cap gb off M W) (p0 : Bool) (h0 : J p0 W) :
    CallsIn Fence.wide n Try.prog 76 #[.func (.yield l) #[] #[], .pointer (some ⟨Bs, 0, none⟩)] W fun e W' => (∃ v, e = .returned v) ∧ J true W' := by
  have c1 : W.cell? ⟨Bs, 0, none⟩ = some (.slice a M.length cap) := cell_of hb0.box 0
  have HF := (show Hid (Calls Try.prog 77 #[.slice a M.length cap] W _) from freqOf_any a cap gb off M W hb0.row hT.len hT.le)
  have HH := (show Hid (Told M x m ∧ (∀ p X Y, J p X → Keep noBlock X Y → J p Y) ∧ J p0 W) from ⟨hT, hD, h0⟩)
  have HY := (show Hid (∀ p vs p' V, tabR M p vs p' V → J p V → _) from hY)
  obtain ⟨N, hN⟩ : ∃ N, N = M.length := ⟨_, rfl⟩
  rw [← hN] at c1 HF
  obtain ⟨F, hF⟩ : ∃ F : Nat → Int, F = fun s => ((fqF M s : Nat) : Int) := ⟨_, rfl⟩
  rw [← hF] at HF
  have HF := (show Hid (Calls Try.prog 77 #[.slice a N cap] W fun e w' => e = .returned (.agg #[.int .u32 (F 0), .int .u32 (F 1), .int .u32 (F 2), .int .u32 (F 3), .int .u32 (F 4), .int .u32 (F 5), .int .u32 (F 6), .int .u32 (F 7), .int .u32 (F 8), .int .u32 (F 9), .int .u32 (F 10), .int .u32 (F 11)]) ∧ Keep noBlock W w') from HF.out)
  have HFE := (show Hid (F = fun s => ((fqF M s : Nat) : Int)) from hF)
  clear hY hb0 hN hD hT h0 hF
  refine callsIn_of_wp Try.func76 rfl trivial ?_ rfl
  simp only [Try.ntmps76, List.size_toArray, List.length_cons, List.length_nil, Nat.reduceAdd, Nat.reduceSub, Array.replicate_succ, Array.replicate_zero, List.push_toArray, List.append_toArray, List.nil_append, List.cons_append]
  gi_wp2_with (refine ⟨trivial, ?_⟩; gi_at_call 77; refine (callsIn_wide.2 HF.out).mono ?_; rintro e w1 ⟨rfl, hK1⟩)
  obtain ⟨fb, hfb⟩ : ∃ fb, fb = w1.heap.size := ⟨_, rfl⟩
  have HA := (show Hid ((w1.alloc (.cells #[.int .u32 (F 0), .int .u32 (F 1), .int .u32 (F 2), .int .u32 (F 3), .int .u32 (F 4), .int .u32 (F 5), .int .u32 (F 6), .int .u32 (F 7), .int .u32 (F 8), .int .u32 (F 9), .int .u32 (F 10), .int .u32 (F 11)] 141)).heap[fb]? = some (.cells (fqA F) 141 (0, 0)) ∧ J p0 (w1.alloc (.cells #[.int .u32 (F 0), .int .u32 (F 1), .int .u32 (F 2), .int .u32 (F 3), .int .u32 (F 4), .int .u32 (F 5), .int .u32 (F 6), .int .u32 (F 7), .int .u32 (F 8), .int .u32 (F 9), .int .u32 (F 10), .int .u32 (F 11)] 141))) from ⟨by rw [hfb]; exact World.alloc_heap_new w1 _, HH.out.2.1 _ _ _ HH.out.2.2 (hK1.alloc _)⟩)
  generalize w1.alloc (.cells #[.int .u32 (F 0), .int .u32 (F 1), .int .u32 (F 2), .int .u32 (F 3), .int .u32 (F 4), .int .u32 (F 5), .int .u32 (F 6), .int .u32 (F 7), .int .u32 (F 8), .int .u32 (F 9), .int .u32 (F 10), .int .u32 (F 11)] 141) = W1 at HA ⊢
  rw [← hfb]
  clear hfb hK1 c1 HF
  gi_loopw [4] (fun v4 wr => ∃ (lg : Nat) (p : Bool), v4 = .int .i64 (lg : Int) ∧ lg ≤ 7 ∧ 5 ≤ lg ∧ Hid (wr.heap[fb]? = some (.cells (fqA F) 141 (0, 0)) ∧ J p wr)) (fun v4 _ => 7 - (intOf v4).toNat)
  case atStart => exact ⟨5, p0, rfl, by omega, by omega, HA.out⟩
  case round =>
    clear HA
    obtain ⟨lg, p, rfl, h7, h5, HC⟩ := hrel
    by_cases hlt : lg ≤ 6
    · have hltI : (lg : Int) ≤ 6 := by omega
      have hl : (fqL M).length = 12 := by simp [fqL]
      have hrow : RowI wr .u32 (some ⟨fb, 0, none⟩) 12 fb 0 (fqL M) := by
        refine ⟨.inl rfl, (fun e => by cases e), fun j hj => ?_, by omega⟩
        rw [hl] at hj
        rw [Nat.zero_add, cell_of HC.out.1]
        unfold fqL
        rw [List.getElem?_map, List.getElem?_range hj, HFE.out]
        rcases (show j = 0 ∨ j = 1 ∨ j = 2 ∨ j = 3 ∨ j = 4 ∨ j = 5 ∨ j = 6 ∨ j = 7 ∨ j = 8 ∨ j = 9 ∨ j = 10 ∨ j = 11 by omega) with rfl | rfl | rfl | rfl | rfl | rfl | rfl | rfl | rfl | rfl | rfl | rfl <;> rfl
      have hu : U32 (fqL M) := fun j => by
        by_cases hj : j < 12
        · unfold fqL
          rw [List.getElem?_map, List.getElem?_range hj]
          have h1 := fqN_le M M.length j
          have h2 := HH.out.1.len
          simp only [Option.map_some, Option.getD_some]
          unfold fqF
          split <;> omega
        · rw [List.getElem?_eq_none (by omega)]; simp
      have HCt := (show Hid (Calls Try.prog 78 #[.slice (some ⟨fb, 0, none⟩) 12 12, .int .i64 (lg : Int)] wr fun e w' => IsCounts (fqL M) lg wr e w') from by
        have := counts_in (some ⟨fb, 0, none⟩) 12 fb 0 (fqL M) lg wr hrow hu (by omega) h5 (by omega)
        rw [hl] at this
        exact this)
      clear hl hrow hu
      gi_wp2_with fail
      refine ⟨trivial, ?_⟩
      refine (callsIn_wide.2 HCt.out).mono ?_
      rintro e w2 (⟨hab, rfl, rfl⟩ | ⟨hab, cb, xs, rfl, hR, ok, hI, hxl, hcc, hK2⟩)
      · clear hab HCt
        gi_wp2
        refine ⟨(fun _ h => by cases h), ?_⟩
        gi_wp2
        go_roundw
        case rel => exact ⟨lg + 1, p, by go_num, by omega, by omega, HC.out⟩
        case measure => simp [intOf]; omega
      · have hxl12 : xs.length ≤ 12 := by simpa [fqL] using hxl
        have hfit : Fit M xs lg := fit_counts HH.out.1 ok hI hlt hxl12 (fun i hi => by
          have := hcc i (by simp [fqL]; exact hi)
          rw [fr_fqL M i hi] at this
          exact this)
        have hy2 := HY.out p _ _ w2 ⟨xs, lg, _, _, _, _, rfl, hR, hfit, rfl⟩ (HH.out.2.1 _ _ _ HC.out.2 hK2)
        have HK2 := (show Hid (w2.heap[fb]? = some (.cells (fqA F) 141 (0, 0))) from hK2.obj HC.out.1 (fun h => h))
        obtain ⟨q, hq⟩ : ∃ q, q = (p || decide (xs = sureL ∧ lg = 6)) := ⟨_, rfl⟩
        rw [← hq] at hy2
        obtain ⟨xl, hxle⟩ : ∃ xl, xl = xs.length := ⟨_, rfl⟩
        rw [← hxle] at hy2 ⊢
        obtain ⟨fn, tmps, assign, body, hy, hR2⟩ := hy2
        clear hab HCt hR ok hI hxl hcc hK2 hxl12 hfit hq hxle HC
        gi_wp2_with fail
        refine hR2.mono ?_
        rintro e W3 ⟨rfl, hJ3, hk3⟩
        have HE := (show Hid (W3.heap[fb]? = some (.cells (fqA F) 141 (0, 0)) ∧ J q W3) from ⟨hk3.cells _ _ _ (.inl rfl) HK2.out, hJ3⟩)
        clear hk3 hJ3 hR2
        gi_wp2
        go_roundw
        case rel => exact ⟨lg + 1, q, by go_num, by omega, by omega, HE.out⟩
        case measure => simp [intOf]; omega
    · obtain rfl : lg = 7 := by omega
      rw [show (((7 : Nat) : Int)) = (7 : Int) from rfl]
      gi_wp2_with fail
      refine ⟨trivial, ?_⟩
      refine (callsIn_wide.2 (sureCounts_any wr)).mono ?_
      rintro e w2 ⟨g, rfl, hg, hR, hK2⟩
      have hy2 := HY.out p _ _ w2 ⟨sureL, 6, _, _, _, _, rfl, hR, sure_fit HH.out.1, rfl⟩ (HH.out.2.1 _ _ _ HC.out.2 hK2)
      rw [show (p || decide (sureL = sureL ∧ 6 = 6)) = true from by simp] at hy2
      rw [show (((6 : Nat) : Int)) = (6 : Int) from rfl] at hy2
      obtain ⟨fn, tmps, assign, body, hy, hR2⟩ := hy2
      clear hR hK2 HC hg
      gi_wp2_with fail
      refine hR2.mono ?_
      rintro e W3 ⟨rfl, hJ3, hk3⟩
      gi_wp2
      go_end0
      exact ⟨⟨_, rfl⟩, hJ3⟩

end Go.Proofs.Ytkljidigmolmmaa

namespace Go.Proofs.Ytkljidigmolmmaa
open Go.RowKit Go.Shelf
set_option linter.unusedVariables false

set_option maxRecDepth 100000 in
set_option maxHeartbeats 1000000 in
theorem first1_any (x y z s B : Nat) (w : World) (hB : w.heap[B]? = some (.cells #[.int .u8 (s : Int)] 5 (0, 0))) :
    Calls Try.prog 114 #[.agg #[.int .u8 (x : Int), .int .u8 (y : Int), .int .u16 (z : Int)], .pointer (some ⟨B, 0, none⟩)] w fun e w' => e = .returned (.bool (decide (x = s))) ∧ Keep noBlock w w' := by
  have hk : Keep noBlock w (w.alloc (.cells #[.int .u8 (x : Int), .int .u8 (y : Int), .int .u16 (z : Int)] 91)) := (Keep.refl _ w).alloc _
  have c1 : (w.alloc (.cells #[.int .u8 (x : Int), .int .u8 (y : Int), .int .u16 (z : Int)] 91)).cell? ⟨B, 0, none⟩ = some (.int .u8 (s : Int)) := cell_of (hk.obj hB (fun h => h)) 0
  have HK := (show Hid _ from hk)
  by_cases h : x = s
  · subst h
    rw [decide_eq_true rfl]
    have e1 : ((x : Int) == (x : Int)) = true := by simp
    clear hB hk
    go_enter Try.func114, Try.ntmps114
    go_wp2
    go_ret
    exact ⟨rfl, HK.out⟩
  · rw [decide_eq_false h]
    have e1 : ((x : Int) == (s : Int)) = false := by rw [beq_eq_false_iff_ne]; omega
    clear hB hk
    go_enter Try.func114, Try.ntmps114
    go_wp2
    go_ret
    exact ⟨rfl, HK.out⟩

set_option maxRecDepth 100000 in
set_option maxHeartbeats 2000000 in
theorem indexFunc_any (g n cap s B : Nat) (sy bi ba : Nat → Nat) (w : World) (hB : w.heap[B]? = some (.cells #[.int .u8 (s : Int)] 5 (0, 0))) (hT : RowT w g n sy bi ba) (hn : n ≤ 4096) (hex : ∃ i, i < n ∧ sy i = s) :
    Calls Try.prog 113 #[.slice (some ⟨g, 0, none⟩) n cap, .func (.func 114) #[] #[.pointer (some ⟨B, 0, none⟩)]] w fun e w' => ∃ i : Nat, e = .returned (.int .i64 (i : Int)) ∧ i < n ∧ sy i = s ∧ (∀ j, j < i → sy j ≠ s) ∧ Keep noBlock w w' := by
  have HH := (show Hid (RowT w g n sy bi ba ∧ (∃ i, i < n ∧ sy i = s) ∧ w.heap[B]? = some (.cells #[.int .u8 (s : Int)] 5 (0, 0))) from ⟨hT, hex, hB⟩)
  have hnI : (n : Int) ≤ 4096 := by omega
  clear hT hex hB
  go_enter Try.func113, Try.ntmps113
  go_wp2_with fail
  go_loopw [8] (fun v8 wr => ∃ i : Nat, v8 = .int .i64 (i : Int) ∧ i ≤ n ∧ Hid (Keep noBlock w wr ∧ ∀ j, j < i → sy j ≠ s)) (fun v8 _ => n - (intOf v8).toNat)
  case atStart => exact ⟨0, rfl, Nat.zero_le _, Keep.refl _ _, fun j hj => by omega⟩
  case round =>
    obtain ⟨i, rfl, hi, HC⟩ := hrel
    have hin : i < n := by
      obtain ⟨j, hj, hs⟩ := HH.out.2.1
      rcases Nat.lt_or_ge i n with h | h
      · exact h
      · exact absurd hs (HC.out.2 j (by omega))
    obtain ⟨hK, hno⟩ := HC.out
    obtain ⟨c1, c2, c3⟩ := (HH.out.1.keep hK (fun h => h)).cells i hin
    have hiI : (i : Int) < (n : Int) := by omega
    have HF := (show Hid (Calls Try.prog 114 #[.agg #[.int .u8 ((sy i : Nat) : Int), .int .u8 ((bi i : Nat) : Int), .int .u16 ((ba i : Nat) : Int)], .pointer (some ⟨B, 0, none⟩)] wr _) from first1_any (sy i) (bi i) (ba i) s B wr (hK.obj HH.out.2.2 (fun h => h)))
    have HK := (show Hid _ from hK)
    have HN := (show Hid (∀ j, j < i → sy j ≠ s) from hno)
    obtain ⟨x, hx⟩ : ∃ x, x = sy i := ⟨_, rfl⟩
    have HX := (show Hid (x = sy i) from hx)
    rw [← hx] at HF c1
    generalize bi i = y at *
    generalize ba i = z at *
    clear hK hno HC hi hx
    by_cases hxe : x = s
    · rw [decide_eq_true hxe] at HF
      have HXE := (show Hid (x = s) from hxe)
      clear hxe
      go_wp2_with fail
      refine HF.out.mono ?_; rintro e w1 ⟨rfl, hK1⟩
      go_wp2_with fail
      go_ret
      exact ⟨i, rfl, hin, by rw [← HX.out]; exact HXE.out, HN.out, HK.out.trans' hK1⟩
    · rw [decide_eq_false hxe] at HF
      go_wp2_with (go_at_call 114; refine HF.out.mono ?_; rintro e w1 ⟨rfl, hK1⟩)
      go_roundw
      case rel => exact ⟨i + 1, by go_num, by omega, HK.out.trans' hK1, fun j hj => by
        by_cases e : j = i
        · subst e; rw [← HX.out]; exact hxe
        · exact HN.out j (by omega)⟩
      case measure => simp [intOf]; omega

set_option maxRecDepth 100000 in
set_option maxHeartbeats 1000000 in
theorem firstOf_any (g n cap s : Nat) (sy bi ba : Nat → Nat) (w : World) (hT : RowT w g n sy bi ba) (hn : n ≤ 4096) (hex : ∃ i, i < n ∧ sy i = s) :
    Calls Try.prog 103 #[.slice (some ⟨g, 0, none⟩) n cap, .int .u8 (s : Int)] w fun e w' => ∃ i : Nat, e = .returned (.int .i64 (i : Int)) ∧ i < n ∧ sy i = s ∧ (∀ j, j < i → sy j ≠ s) ∧ Keep noBlock w w' := by
  have hk : Keep noBlock w (w.alloc (.cells #[.int .u8 (s : Int)] 5)) := (Keep.refl _ w).alloc _
  have HI := (show Hid (Calls Try.prog 113 _ (w.alloc (.cells #[.int .u8 (s : Int)] 5)) _) from indexFunc_any g n cap s w.heap.size sy bi ba _ (World.alloc_heap_new w _) (hT.keep hk (fun h => h)) hn hex)
  have HK := (show Hid _ from hk)
  clear hT hex hk
  go_enter Try.func103, Try.ntmps103
  go_wp2_with (go_at_call 113; refine HI.out.mono ?_; rintro e w1 ⟨i, rfl, h1, h2, h3, hK1⟩)
  go_ret
  exact ⟨i, rfl, h1, h2, h3, HK.out.trans' hK1⟩

end Go.Proofs.Ytkljidigmolmmaa
