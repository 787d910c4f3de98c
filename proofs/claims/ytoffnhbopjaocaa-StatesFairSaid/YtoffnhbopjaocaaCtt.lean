/-
  wholeParts and markRare.
-/
import Derived.Test.YtoffnhbopjaocaaCts
namespace Go.Proofs.Ytoffnhbopjaocaa
open Go.RowKit Go.Shelf

/-- The whole part of a symbol's share, and 1 at least. -/
def partF (f : Nat → Nat) (T l i : Nat) : Nat := if 0 < f i then max (f i * 2 ^ l / T) 1 else 0
theorem part_le (f : Nat → Nat) (T l i : Nat) (hl : l ≤ 12) (hf : f i ≤ T) (_hT : 0 < T) : partF f T l i ≤ 4096 ∧ f i * 2 ^ l / T ≤ 4096 := by
  have h1 : f i * 2 ^ l / T ≤ 4096 := by
    have h2 : f i * 2 ^ l ≤ T * 4096 := Nat.mul_le_mul hf (Nat.pow_le_pow_right (n := 2) (j := 12) (by omega) hl)
    exact Nat.div_le_of_le_mul h2
  unfold partF
  refine ⟨?_, h1⟩
  split <;> omega
theorem part_inv (f : Nat → Nat) (T l n : Nat) (hl : l ≤ 12) (hf : ∀ i, i < n → f i ≤ T) (hT : 0 < T) : InvC f (partF f T l) n := fun i hi => by
  refine ⟨fun h => ?_, fun h => ?_, (part_le f T l i hl (hf i hi) hT).1⟩
  · unfold partF; rw [if_pos h]; omega
  · unfold partF; rw [if_neg (by omega)]
theorem run_make22 (n : Nat) (h : n ≤ 256) (w : World) : (Instr.makeSlice 22 (.int .i64 (n : Int)) (.int .i64 (n : Int))).run Try.prog w = .ok (.slice (some ⟨w.heap.size, 0, none⟩) n n) (w.alloc (.cells (madeCells #[.int .i16 0] n) 42)) :=
  run_make_row' 22 42 (.int .i16 0) 2 Try.underlying22 info42 rfl .i64 .i64 n (by omega) (by omega) w
theorem isA_new42 (w : World) (n : Nat) : IsA (w.alloc (.cells (madeCells #[.int .i16 0] n) 42)) w.heap.size 42 .i16 n (fun _ => 0) :=
  ⟨_, World.alloc_heap_new w _, size_madeCells _ _, fun i hi => by simp [madeCells, hi, Nat.mod_one]⟩

section
attribute [local go_sem] maxSem_eq
set_option maxRecDepth 100000 in
set_option maxHeartbeats 2000000 in
theorem wholeParts_any (a : Option Addr) (cap gb off : Nat) (fs : List Int) (l T : Nat) (w : World) (hR : RowI w .u32 a cap gb off fs) (hu : U32 fs) (hl : fs.length ≤ 256) (hl12 : l ≤ 12) (hT : T = sumN (fr fs) fs.length) (hT0 : 0 < T) :
    Calls Try.prog 47 #[.slice a fs.length cap, .int .u64 (T : Int), .int .i64 (l : Int)] w fun e w' => e = .returned (.slice (some ⟨w.heap.size, 0, none⟩) fs.length fs.length) ∧ IsA w' w.heap.size 42 .i16 fs.length (fun i => ((partF (fr fs) T l i : Nat) : Int)) ∧ Keep noBlock w w' := by
  have hTb : T ≤ 256 * 4294967296 := by
    rw [hT]
    exact Nat.le_trans (sumN_le _ _ 4294967296 (fun j _ => by have := fr_lt hu j; omega)) (Nat.mul_le_mul_right _ hl)
  have HH := (show Hid (RowI w .u32 a cap gb off fs ∧ U32 fs ∧ ∀ i, i < fs.length → fr fs i ≤ T) from ⟨hR, hu, fun i hi => by rw [hT]; exact sumN_ge _ _ i hi⟩)
  obtain ⟨n, hn⟩ : ∃ n, n = fs.length := ⟨_, rfl⟩
  rw [← hn] at hl ⊢
  have HN := (show Hid (n = fs.length) from hn)
  have hnI : (n : Int) ≤ 256 := by omega
  have hlI : (l : Int) ≤ 12 := by omega
  have hTI : (T : Int) ≤ 1099511627776 := by omega
  have hT0I : 0 < (T : Int) := by omega
  have hTnb : ((T : Int) == 0) = false := by rw [beq_eq_false_iff_ne]; omega
  have hmk := fun W => run_make22 n hl W
  clear hR hu hn hT
  go_enter Try.func47, Try.ntmps47
  go_wp2_with fail
  have hA0 := isA_new42 w n
  have hK0 : Keep noBlock w (w.alloc (.cells (madeCells #[.int .i16 0] n) 42)) := (Keep.refl _ w).alloc _
  generalize w.alloc (.cells (madeCells #[.int .i16 0] n) 42) = W1 at hA0 hK0 ⊢
  obtain ⟨cb, hcb⟩ : ∃ cb, cb = w.heap.size := ⟨_, rfl⟩
  rw [← hcb] at hA0 ⊢
  have HCB := (show Hid (cb = w.heap.size) from hcb)
  have HA0 := (show Hid (IsA W1 cb 42 .i16 n (fun _ => 0) ∧ Keep noBlock w W1) from ⟨hA0, hK0⟩)
  clear hcb hA0 hK0 hmk
  go_loopw [15] (fun v15 wr => ∃ i : Nat, v15 = .int .i64 (i : Int) ∧ i ≤ n ∧ Hid (IsA wr cb 42 .i16 n (fun j => (((if j < i then partF (fr fs) T l j else 0) : Nat) : Int)) ∧ Keep noBlock w wr)) (fun v15 _ => n - (intOf v15).toNat)
  case atStart => exact ⟨0, rfl, Nat.zero_le _, HA0.out.1.congr (fun j _ => by simp), HA0.out.2⟩
  case round =>
    clear HA0
    obtain ⟨i, rfl, hi, HC⟩ := hrel
    by_cases hlt : i < n
    · have hix : i < fs.length := by have := HN.out; omega
      obtain ⟨hR, hu, hfT⟩ := HH.out
      have hR2 := hR.keep HC.out.2 (fun _ h => h)
      obtain rfl := hR2.here hix
      have c0 := hR2.fr hu i hix
      have hfi := fr_lt hu i
      have hfTi := hfT i hix
      have hpl := part_le (fr fs) T l i hl12 hfTi hT0
      have hltI : (i : Int) < (n : Int) := by omega
      have hfI : ((fr fs i : Nat) : Int) < 4294967296 := by omega
      have hAc : ∀ (W : World) (v : Int), v = ((partF (fr fs) T l i : Nat) : Int) → IsA (wr.setCell ⟨cb, i, none⟩ (.int .i16 v)) cb 42 .i16 n (fun j => (((if j < i + 1 then partF (fr fs) T l j else 0) : Nat) : Int)) := fun W v hv => by
        refine (HC.out.1.set i v).congr (fun j _ => ?_)
        by_cases e : j = i
        · subst e; rw [if_pos rfl, if_pos (by omega)]; exact hv
        · rw [if_neg e]
          by_cases hj : j < i
          · rw [if_pos hj, if_pos (by omega)]
          · rw [if_neg hj, if_neg (by omega)]
      by_cases h0 : 0 < fr fs i
      · have h0I : 0 < ((fr fs i : Nat) : Int) := by omega
        obtain ⟨y, hy⟩ : ∃ y, y = fr fs i * 2 ^ l := ⟨_, rfl⟩
        obtain ⟨q, hq⟩ : ∃ q, q = y / T := ⟨_, rfl⟩
        obtain ⟨m, hm⟩ : ∃ m, m = max q 1 := ⟨_, rfl⟩
        have hyb : y ≤ 4294967296 * 4096 := by rw [hy]; exact Nat.mul_le_mul (by omega) (Nat.pow_le_pow_right (n := 2) (j := 12) (by omega) hl12)
        have hyI : ((fr fs i : Nat) : Int) * 2 ^ l = (y : Int) := by rw [hy]; simp
        have hqI : (y : Int) / (T : Int) = (q : Int) := by rw [hq]; simp
        have hq2 : q ≤ 4096 := by rw [hq, hy]; exact hpl.2
        have hmx := fun W => maxSem_run .u64 #[52, 52] 52 (q : Int) 1 (m : Int) (by omega) W
        have hpm : partF (fr fs) T l i = m := by unfold partF; rw [if_pos h0, hm, hq, hy]
        have hyB : (y : Int) ≤ 17592186044416 := by omega
        have hqB : (q : Int) ≤ 4096 := by omega
        have hmB : (m : Int) ≤ 4096 := by omega
        have ci := HC.out.1.cell i hlt
        have fi := HC.out.1.frozen i
        have HG := (show Hid (IsA (wr.setCell ⟨cb, i, none⟩ (.int .i16 (m : Int))) cb 42 .i16 n (fun j => (((if j < i + 1 then partF (fr fs) T l j else 0) : Nat) : Int)) ∧ Keep noBlock w (wr.setCell ⟨cb, i, none⟩ (.int .i16 (m : Int)))) from
          ⟨hAc wr _ (by rw [hpm]), HC.out.2.trans (Keep.setCell (S := fun k => k = cb) (p := ⟨cb, i, none⟩) (Keep.refl _ wr) (fun _ => rfl) _) (fun j hj e => by have := HCB.out; omega)⟩)
        clear hR hu hfT hR2 hfi hfTi hpl hAc hy hq hm hyb hq2 hpm HC
        generalize fr fs i = x at *
        go_wp2_with fail
        go_roundw
        case rel => exact ⟨i + 1, by go_num, by omega, HG⟩
        case measure => simp [intOf]; omega
      · have h0I : ¬ 0 < ((fr fs i : Nat) : Int) := by omega
        have HG := (show Hid (IsA wr cb 42 .i16 n (fun j => (((if j < i + 1 then partF (fr fs) T l j else 0) : Nat) : Int)) ∧ Keep noBlock w wr) from by
          refine ⟨HC.out.1.congr (fun j _ => ?_), HC.out.2⟩
          by_cases e : j = i
          · subst e
            rw [if_neg (by omega), if_pos (by omega)]
            have : partF (fr fs) T l j = 0 := by unfold partF; rw [if_neg h0]
            rw [this]
          · by_cases hj : j < i
            · rw [if_pos hj, if_pos (by omega)]
            · rw [if_neg hj, if_neg (by omega)])
        clear hR hu hfT hR2 hfi hfTi hpl hAc HC
        generalize fr fs i = x at *
        go_wp2_with fail
        go_roundw
        case rel => exact ⟨i + 1, by go_num, by omega, HG⟩
        case measure => simp [intOf]; omega
    · obtain rfl : i = n := by omega
      have hltI : ¬ (i : Int) < (i : Int) := by omega
      go_wp2
      go_ret
      rw [← HCB.out]
      exact ⟨rfl, HC.out.1.congr (fun j hj => by rw [if_pos hj]), HC.out.2⟩
end

/-- A count, or -1, where a symbol is rarer than its one state. -/
def markF (f c : Nat → Nat) (T l i : Nat) : Int := if c i = 1 ∧ f i * 2 ^ l < T then -1 else ((c i : Nat) : Int)

set_option maxRecDepth 100000 in
set_option maxHeartbeats 2000000 in
theorem markRare_any (cb : Nat) (c : Nat → Nat) (a : Option Addr) (cap gb off : Nat) (fs : List Int) (l T : Nat) (w : World) (hA : IsA w cb 42 .i16 fs.length (fun i => ((c i : Nat) : Int))) (hR : RowI w .u32 a cap gb off fs) (hgb : fs ≠ [] → gb ≠ cb) (hu : U32 fs) (hl : fs.length ≤ 256) (hl12 : l ≤ 12) (hTb : T ≤ 1099511627776) (hc : ∀ i, i < fs.length → c i ≤ 4096) :
    Calls Try.prog 49 #[.slice (some ⟨cb, 0, none⟩) fs.length fs.length, .slice a fs.length cap, .int .u64 (T : Int), .int .i64 (l : Int)] w fun e w' => e = .returned (.tuple #[]) ∧ IsA w' cb 42 .i16 fs.length (markF (fr fs) c T l) ∧ Keep (fun k => k = cb) w w' := by
  have HH := (show Hid (RowI w .u32 a cap gb off fs ∧ (fs ≠ [] → gb ≠ cb) ∧ U32 fs ∧ ∀ i, i < fs.length → c i ≤ 4096) from ⟨hR, hgb, hu, hc⟩)
  have HA0 := (show Hid (IsA w cb 42 .i16 fs.length (fun i => ((c i : Nat) : Int))) from hA)
  obtain ⟨n, hn⟩ : ∃ n, n = fs.length := ⟨_, rfl⟩
  rw [← hn] at hl HA0 ⊢
  have HN := (show Hid (n = fs.length) from hn)
  have hnI : (n : Int) ≤ 256 := by omega
  have hlI : (l : Int) ≤ 12 := by omega
  have hTI : (T : Int) ≤ 1099511627776 := by omega
  clear hR hu hn hA hgb hc
  go_enter Try.func49, Try.ntmps49
  go_wp2_with fail
  go_loopw [12] (fun v12 wr => ∃ i : Nat, v12 = .int .i64 (i : Int) ∧ i ≤ n ∧ Hid (IsA wr cb 42 .i16 n (fun j => if j < i then markF (fr fs) c T l j else ((c j : Nat) : Int)) ∧ Keep (fun k => k = cb) w wr)) (fun v12 _ => n - (intOf v12).toNat)
  case atStart => exact ⟨0, rfl, Nat.zero_le _, HA0.out.congr (fun j _ => by simp), Keep.refl _ _⟩
  case round =>
    clear HA0
    obtain ⟨i, rfl, hi, HC⟩ := hrel
    by_cases hlt : i < n
    · have hix : i < fs.length := by have := HN.out; omega
      obtain ⟨hR, hgb, hu, hc⟩ := HH.out
      have hR2 := hR.keep HC.out.2 hgb
      obtain rfl := hR2.here hix
      have c0 := hR2.fr hu i hix
      have hfi := fr_lt hu i
      have hltI : (i : Int) < (n : Int) := by omega
      have hfI : ((fr fs i : Nat) : Int) < 4294967296 := by omega
      have ci := HC.out.1.cell i hlt
      rw [if_neg (by omega)] at ci
      have fi := HC.out.1.frozen i
      have hci := hc i hix
      have hcI : ((c i : Nat) : Int) ≤ 4096 := by omega
      obtain ⟨y, hy⟩ : ∃ y, y = fr fs i * 2 ^ l := ⟨_, rfl⟩
      have hyb : y ≤ 4294967296 * 4096 := by rw [hy]; exact Nat.mul_le_mul (by omega) (Nat.pow_le_pow_right (n := 2) (j := 12) (by omega) hl12)
      have hyI : ((fr fs i : Nat) : Int) * 2 ^ l = (y : Int) := by rw [hy]; simp
      have hyB : (y : Int) ≤ 17592186044416 := by omega
      by_cases hm : c i = 1 ∧ y < T
      · have hmk : markF (fr fs) c T l i = -1 := by unfold markF; rw [← hy, if_pos hm]
        have h1b : (((c i : Nat) : Int) == 1) = true := by rw [hm.1]; rfl
        have h2I : (y : Int) < (T : Int) := by omega
        have HG := (show Hid (IsA (wr.setCell ⟨cb, i, none⟩ (.int .i16 (-1))) cb 42 .i16 n (fun j => if j < i + 1 then markF (fr fs) c T l j else ((c j : Nat) : Int)) ∧ Keep (fun k => k = cb) w (wr.setCell ⟨cb, i, none⟩ (.int .i16 (-1)))) from by
          refine ⟨(HC.out.1.set i (-1)).congr (fun j _ => ?_), Keep.setCell (S := fun k => k = cb) (p := ⟨cb, i, none⟩) HC.out.2 (fun _ => rfl) _⟩
          by_cases e : j = i
          · subst e; rw [if_pos rfl, if_pos (by omega), hmk]
          · rw [if_neg e]
            by_cases hj : j < i
            · rw [if_pos hj, if_pos (by omega)]
            · rw [if_neg hj, if_neg (by omega)])
        clear hR hgb hu hc hR2 hfi hci hy hyb hm hmk HC
        generalize fr fs i = x at *
        generalize c i = cc at *
        go_wp2_with fail
        go_roundw
        case rel => exact ⟨i + 1, by go_num, by omega, HG⟩
        case measure => simp [intOf]; omega
      · have hmk : markF (fr fs) c T l i = ((c i : Nat) : Int) := by unfold markF; rw [← hy, if_neg hm]
        have HG := (show Hid (IsA wr cb 42 .i16 n (fun j => if j < i + 1 then markF (fr fs) c T l j else ((c j : Nat) : Int)) ∧ Keep (fun k => k = cb) w wr) from by
          refine ⟨HC.out.1.congr (fun j _ => ?_), HC.out.2⟩
          by_cases e : j = i
          · subst e; rw [if_neg (by omega), if_pos (by omega), hmk]
          · by_cases hj : j < i
            · rw [if_pos hj, if_pos (by omega)]
            · rw [if_neg hj, if_neg (by omega)])
        by_cases h1 : c i = 1
        · have h1b : (((c i : Nat) : Int) == 1) = true := by rw [h1]; rfl
          have h2I : ¬ (y : Int) < (T : Int) := by have : ¬ y < T := fun h => hm ⟨h1, h⟩; omega
          clear hR hgb hu hc hR2 hfi hci hy hyb hm hmk HC h1
          generalize fr fs i = x at *
          generalize c i = cc at *
          go_wp2_with fail
          go_roundw
          case rel => exact ⟨i + 1, by go_num, by omega, HG⟩
          case measure => simp [intOf]; omega
        · have h1b : (((c i : Nat) : Int) == 1) = false := by rw [beq_eq_false_iff_ne]; omega
          clear hR hgb hu hc hR2 hfi hci hy hyb hm hmk HC h1
          generalize fr fs i = x at *
          generalize c i = cc at *
          go_wp2_with fail
          go_roundw
          case rel => exact ⟨i + 1, by go_num, by omega, HG⟩
          case measure => simp [intOf]; omega
    · obtain rfl : i = n := by omega
      have hltI : ¬ (i : Int) < (i : Int) := by omega
      go_wp2
      go_end0
      exact ⟨rfl, HC.out.1.congr (fun j hj => by rw [if_pos hj]), HC.out.2⟩

end Go.Proofs.Ytoffnhbopjaocaa
