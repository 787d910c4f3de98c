/-
  freqOf and sureCounts.
  mostGain and leastLoss.
  settle: the counts are brought to all states; it comes to an end.
  The parts of Counts: sumOf, wholeParts, markRare; the document's Able.
-/
import Derived.Test.YtkljidigmolmmaaBackP18
namespace Go.Proofs.Ytkljidigmolmmaa
open Go.RowKit Go.Shelf
set_option linter.unusedVariables false

/-- How often weight s is among the first k. -/
def fqN (M : List Nat) (k s : Nat) : Nat := sumN (fun j => if wt M j = s then 1 else 0) k
theorem fqN_le (M : List Nat) (k s : Nat) : fqN M k s ≤ k := by
  have := sumN_le (fun j => if wt M j = s then 1 else 0) k 1 (fun j _ => by split <;> omega)
  unfold fqN; omega
theorem fqN_succ (M : List Nat) (k s : Nat) : fqN M (k + 1) s = fqN M k s + if wt M k = s then 1 else 0 := rfl
theorem fqN_pos (M : List Nat) (k i : Nat) (h : i < k) : 0 < fqN M k (wt M i) := by
  induction k with
  | zero => omega
  | succ k ih =>
    rw [fqN_succ]
    by_cases e : i = k
    · subst e; rw [if_pos rfl]; omega
    · have := ih (by omega); omega
theorem fqN_all (M : List Nat) (k s : Nat) (h : fqN M k s = k) : ∀ i, i < k → wt M i = s := by
  induction k with
  | zero => intro i hi; omega
  | succ k ih =>
    rw [fqN_succ] at h
    have h1 := fqN_le M k s
    split at h
    · rename_i e
      intro i hi
      by_cases q : i = k
      · subst q; exact e
      · exact ih (by omega) i (by omega)
    · omega
/-- What freqOf tells. -/
def fqF (M : List Nat) (s : Nat) : Nat := if fqN M M.length 1 = M.length ∧ s = 0 then 1 else fqN M M.length s
def fqL (M : List Nat) : List Int := (List.range 12).map (fun s => ((fqF M s : Nat) : Int))
def fqA (f : Nat → Int) : Array Value := #[.int .u32 (f 0), .int .u32 (f 1), .int .u32 (f 2), .int .u32 (f 3), .int .u32 (f 4), .int .u32 (f 5), .int .u32 (f 6), .int .u32 (f 7), .int .u32 (f 8), .int .u32 (f 9), .int .u32 (f 10), .int .u32 (f 11)]

theorem isA_12 {w : World} {b : Nat} {f : Nat → Int} (h : IsA w b 141 .u32 12 f) : w.heap[b]? = some (.cells (fqA f) 141 (0, 0)) := by
  obtain ⟨cs, h1, h2, h3⟩ := h.obj
  have : cs = fqA f := by
    refine Array.ext (by rw [h2]; rfl) fun i hi1 hi2 => ?_
    have hi : i < 12 := by omega
    have e := h3 i hi
    rw [Array.getElem?_eq_getElem hi1] at e
    injection e with e
    rw [e]
    rcases (show i = 0 ∨ i = 1 ∨ i = 2 ∨ i = 3 ∨ i = 4 ∨ i = 5 ∨ i = 6 ∨ i = 7 ∨ i = 8 ∨ i = 9 ∨ i = 10 ∨ i = 11 by omega) with rfl | rfl | rfl | rfl | rfl | rfl | rfl | rfl | rfl | rfl | rfl | rfl <;> rfl
  rw [h1, this]

theorem results_cell {fn : Func} {a : Tmp} {t : TypeId} (h : fn.results = #[.cell a t]) (tmps : Array Value) (P : Program) (w : World) (p : Addr) (v : Value) (ha : tmps[a]?.getD undef = .pointer (some p)) (hv : (loadVar t p).run P w = .ok v w) :
    (results fn tmps).run P w = .ok v w := by
  simp [results, h, ha, asAddr, hv]
theorem agg141 : ∀ w, (isAgg 141).run Try.prog w = .ok true w := by intro w; kernel_rfl
theorem size141 : ∀ w, (Go.sizeOf 141).run Try.prog w = .ok 12 w := by intro w; kernel_rfl
theorem loadVar141 {w : World} {b : Nat} {f : Nat → Int} (h : IsA w b 141 .u32 12 f) : (loadVar 141 ⟨b, 0, none⟩).run Try.prog w = .ok (.agg (fqA f)) w := by
  have hl := run_loadCellsFrom (P := Try.prog) w ⟨b, 0, none⟩ (fun l => Value.int .u32 (f l)) 12 0 #[] (fun j hj => by rw [Nat.zero_add, add0]; exact h.cell j hj)
  simp only [loadVar, Sem.run_bind, agg141, Result.andThen, if_true, size141, loadCells]
  rw [hl]
  rfl
/-- The twelve numbers, stored once more. -/
def setAll (w : World) (b : Nat) (f : Nat → Int) : Nat → World
  | 0 => w
  | k + 1 => (setAll w b f k).setCell ⟨b, k, none⟩ (.int .u32 (f k))
theorem setAll_is {w : World} {b : Nat} {f : Nat → Int} (h : IsA w b 141 .u32 12 f) (k : Nat) : IsA (setAll w b f k) b 141 .u32 12 f := by
  induction k with
  | zero => exact h
  | succ k ih => exact (ih.set k (f k)).congr (fun i _ => by by_cases e : i = k <;> simp [e])
theorem setAll_keep {w V : World} {b : Nat} (f : Nat → Int) (h : Keep noBlock V w) (hb : V.heap.size ≤ b) (k : Nat) : Keep noBlock V (setAll w b f k) := by
  induction k with
  | zero => exact h
  | succ k ih => exact ih.setCell (p := ⟨b, k, none⟩) (fun h => by dsimp only at h; omega) _

set_option maxRecDepth 100000 in
set_option maxHeartbeats 2000000 in
theorem freqOf_any (a : Option Addr) (cap gb off : Nat) (M : List Nat) (w : World) (hB : Bytes w a cap gb off M) (hl : M.length ≤ 255) (hle : ∀ i, i < M.length → wt M i ≤ 11) :
    Calls Try.prog 77 #[.slice a M.length cap] w fun e w' => e = .returned (.agg (fqA (fun s => ((fqF M s : Nat) : Int)))) ∧ Keep noBlock w w' := by
  have HB := (show Hid (Bytes w a cap gb off M ∧ ∀ i, i < M.length → wt M i ≤ 11) from ⟨hB, hle⟩)
  obtain ⟨n, hn⟩ : ∃ n, n = M.length := ⟨_, rfl⟩
  have HN := (show Hid (n = M.length) from hn)
  rw [← hn] at hl ⊢
  have hnI : (n : Int) ≤ 255 := by omega
  obtain ⟨tb, htb⟩ : ∃ tb, tb = w.heap.size := ⟨_, rfl⟩
  have HT := (show Hid (tb = w.heap.size) from htb)
  clear hB hle hn
  have HA := (show Hid (IsA (w.alloc (.cells (List.replicate 12 (Value.int .u32 0)).toArray 141)) tb 141 .u32 12 (fun s => ((fqN M 0 s : Nat) : Int)) ∧ Keep noBlock w (w.alloc (.cells (List.replicate 12 (Value.int .u32 0)).toArray 141))) from by
    rw [htb]
    exact ⟨(isA_zeros w 141 .u32 12).congr (fun _ _ => rfl), (Keep.refl _ w).alloc _⟩)
  go_enter Try.func77, Try.ntmps77
  go_wp2
  rw [← htb]
  clear htb
  go_loopw [7] (fun v7 wr => ∃ i : Nat, v7 = .int .i64 (i : Int) ∧ i ≤ n ∧ Hid (IsA wr tb 141 .u32 12 (fun s => ((fqN M i s : Nat) : Int)) ∧ Keep noBlock w wr)) (fun v7 _ => n - (intOf v7).toNat)
  case atStart => exact ⟨0, rfl, Nat.zero_le _, HA.out⟩
  case round =>
    clear HA
    obtain ⟨i, rfl, hi, HC⟩ := hrel
    by_cases hlt : i < n
    · have hltI : (i : Int) < (n : Int) := by omega
      have hix : i < M.length := by have := HN.out; omega
      obtain ⟨hA, hK⟩ := HC.out
      obtain rfl := HB.out.1.here hix
      have c1 := (HB.out.1.keep hK (fun _ h => h)).cells i hix
      have hx11 := HB.out.2 i hix
      have hxw : wt M i = M[i]?.getD 0 := rfl
      obtain ⟨x, hx⟩ : ∃ x, x = M[i]?.getD 0 := ⟨_, rfl⟩
      rw [← hx] at c1 hxw
      rw [hxw] at hx11
      have hxI : (x : Int) ≤ 11 := by omega
      have c2 := hA.cell x (by omega)
      have f2 := hA.frozen x
      have hqle := fqN_le M i x
      have hset := hA.set x ((fqN M i x + 1 : Nat) : Int)
      have HE := (show Hid (IsA (wr.setCell ⟨tb, x, none⟩ (.int .u32 ((fqN M i x + 1 : Nat) : Int))) tb 141 .u32 12 (fun s => ((fqN M (i + 1) s : Nat) : Int)) ∧ Keep noBlock w (wr.setCell ⟨tb, x, none⟩ (.int .u32 ((fqN M i x + 1 : Nat) : Int)))) from by
        refine ⟨hset.congr (fun s _ => ?_), hK.setCell (p := ⟨tb, x, none⟩) (fun h => by dsimp only at h; have := HT.out; omega) _⟩
        rw [fqN_succ, hxw]
        by_cases e : s = x
        · rw [if_pos e, if_pos e.symm, e]
        · rw [if_neg e, if_neg (fun q => e q.symm)]; rfl)
      obtain ⟨q, hq⟩ : ∃ q, q = fqN M i x := ⟨_, rfl⟩
      rw [← hq] at c2 HE hqle
      obtain ⟨q1, hq1⟩ : ∃ q1, q1 = q + 1 := ⟨_, rfl⟩
      rw [← hq1] at HE
      have hq1I : (q : Int) + 1 = (q1 : Int) := by omega
      have hq1b : (q1 : Int) ≤ 256 := by omega
      clear hA hK hset HC hx hq hqle hxw hx11 hix hq1
      go_wp2
      go_roundw
      case rel => exact ⟨i + 1, by go_num, by omega, HE.out⟩
      case measure => simp [intOf]; omega
    · obtain rfl : i = n := by omega
      have hltI : ¬ (i : Int) < (i : Int) := by omega
      obtain ⟨hA, hK⟩ := HC.out
      have c0 := hA.cell 0 (by omega)
      have f0 := hA.frozen 0
      have c1 := hA.cell 1 (by omega)
      have f1 := hA.frozen 1
      have c2 := hA.cell 2 (by omega)
      have f2 := hA.frozen 2
      have c3 := hA.cell 3 (by omega)
      have f3 := hA.frozen 3
      have c4 := hA.cell 4 (by omega)
      have f4 := hA.frozen 4
      have c5 := hA.cell 5 (by omega)
      have f5 := hA.frozen 5
      have c6 := hA.cell 6 (by omega)
      have f6 := hA.frozen 6
      have c7 := hA.cell 7 (by omega)
      have f7 := hA.frozen 7
      have c8 := hA.cell 8 (by omega)
      have f8 := hA.frozen 8
      have c9 := hA.cell 9 (by omega)
      have f9 := hA.frozen 9
      have c10 := hA.cell 10 (by omega)
      have f10 := hA.frozen 10
      have c11 := hA.cell 11 (by omega)
      have f11 := hA.frozen 11
      have hqle := fqN_le M i 1
      have HA := (show Hid (IsA wr tb 141 .u32 12 (fun s => ((fqN M i s : Nat) : Int)) ∧ Keep noBlock w wr) from ⟨hA, hK⟩)
      clear hA hK HC
      obtain ⟨g0, hg0⟩ : ∃ g, g = fqN M i 0 := ⟨_, rfl⟩
      rw [← hg0] at c0
      obtain ⟨g1, hg1⟩ : ∃ g, g = fqN M i 1 := ⟨_, rfl⟩
      rw [← hg1] at c1
      obtain ⟨g2, hg2⟩ : ∃ g, g = fqN M i 2 := ⟨_, rfl⟩
      rw [← hg2] at c2
      obtain ⟨g3, hg3⟩ : ∃ g, g = fqN M i 3 := ⟨_, rfl⟩
      rw [← hg3] at c3
      obtain ⟨g4, hg4⟩ : ∃ g, g = fqN M i 4 := ⟨_, rfl⟩
      rw [← hg4] at c4
      obtain ⟨g5, hg5⟩ : ∃ g, g = fqN M i 5 := ⟨_, rfl⟩
      rw [← hg5] at c5
      obtain ⟨g6, hg6⟩ : ∃ g, g = fqN M i 6 := ⟨_, rfl⟩
      rw [← hg6] at c6
      obtain ⟨g7, hg7⟩ : ∃ g, g = fqN M i 7 := ⟨_, rfl⟩
      rw [← hg7] at c7
      obtain ⟨g8, hg8⟩ : ∃ g, g = fqN M i 8 := ⟨_, rfl⟩
      rw [← hg8] at c8
      obtain ⟨g9, hg9⟩ : ∃ g, g = fqN M i 9 := ⟨_, rfl⟩
      rw [← hg9] at c9
      obtain ⟨g10, hg10⟩ : ∃ g, g = fqN M i 10 := ⟨_, rfl⟩
      rw [← hg10] at c10
      obtain ⟨g11, hg11⟩ : ∃ g, g = fqN M i 11 := ⟨_, rfl⟩
      rw [← hg11] at c11
      rw [← hg1] at hqle
      have HG := (show Hid (g0 = fqN M i 0 ∧ g1 = fqN M i 1) from ⟨hg0, hg1⟩)
      have hq2 : (g1 : Int) ≤ 255 := by omega
      have HF := (show Hid (∀ s, fqN M i s = [g0, g1, g2, g3, g4, g5, g6, g7, g8, g9, g10, g11][s]?.getD 0 ∨ 12 ≤ s) from fun s => by
        by_cases hs : s < 12
        · left
          rcases (show s = 0 ∨ s = 1 ∨ s = 2 ∨ s = 3 ∨ s = 4 ∨ s = 5 ∨ s = 6 ∨ s = 7 ∨ s = 8 ∨ s = 9 ∨ s = 10 ∨ s = 11 by omega) with rfl | rfl | rfl | rfl | rfl | rfl | rfl | rfl | rfl | rfl | rfl | rfl <;> simp [*]
        · right; omega)
      clear hg0 hg1 hg2 hg3 hg4 hg5 hg6 hg7 hg8 hg9 hg10 hg11
      by_cases hall : g1 = i
      · have hallB : ((g1 : Int) == (i : Int)) = true := by rw [beq_iff_eq]; omega
        have HAL := (show Hid (g1 = i) from hall)
        clear hall
        go_wp2
        obtain ⟨hA, hK⟩ := HA.out
        have hfF : ∀ s, s < 12 → fqF M s = if s = 0 then 1 else fqN M i s := fun s _ => by
          unfold fqF
          rw [← HN.out]
          by_cases e : s = 0
          · rw [if_pos ⟨by rw [← HG.out.2]; exact HAL.out, e⟩, if_pos e]
          · rw [if_neg (fun q => e q.2), if_neg e]
        have hA2 : IsA (wr.setCell ⟨tb, 0, none⟩ (.int .u32 1)) tb 141 .u32 12 (fun s => ((fqF M s : Nat) : Int)) := (hA.set 0 1).congr (fun s hs => by
          rw [hfF s hs]
          by_cases e : s = 0
          · rw [if_pos e, if_pos e]; rfl
          · rw [if_neg e, if_neg e])
        have hK2 : Keep noBlock w (wr.setCell ⟨tb, 0, none⟩ (.int .u32 1)) := hK.setCell (p := ⟨tb, 0, none⟩) (fun h => by dsimp only at h; have := HT.out; omega) _
        have hS := setAll_is hA2 12
        have hSK := setAll_keep (b := tb) (fun s => ((fqF M s : Nat) : Int)) hK2 (by have := HT.out; omega) 12
        have hg : ∀ s, s < 12 → fqF M s = [1, g1, g2, g3, g4, g5, g6, g7, g8, g9, g10, g11][s]?.getD 0 := fun s hs => by
          rw [hfF s hs]
          by_cases e : s = 0
          · rw [if_pos e, e]; rfl
          · rw [if_neg e]
            rcases HF.out s with q | q
            · rw [q]
              obtain ⟨t, rfl⟩ : ∃ t, s = t + 1 := ⟨s - 1, by omega⟩
              rfl
            · omega
        have e0 : ((fqF M 0 : Nat) : Int) = 1 := by rw [hg 0 (by omega)]; rfl
        have e1 : fqF M 1 = g1 := hg 1 (by omega)
        have e2 : fqF M 2 = g2 := hg 2 (by omega)
        have e3 : fqF M 3 = g3 := hg 3 (by omega)
        have e4 : fqF M 4 = g4 := hg 4 (by omega)
        have e5 : fqF M 5 = g5 := hg 5 (by omega)
        have e6 : fqF M 6 = g6 := hg 6 (by omega)
        have e7 : fqF M 7 = g7 := hg 7 (by omega)
        have e8 : fqF M 8 = g8 := hg 8 (by omega)
        have e9 : fqF M 9 = g9 := hg 9 (by omega)
        have e10 : fqF M 10 = g10 := hg 10 (by omega)
        have e11 : fqF M 11 = g11 := hg 11 (by omega)
        simp only [setAll, e0, e1, e2, e3, e4, e5, e6, e7, e8, e9, e10, e11] at hS hSK
        exact bodyPost_ret (results_cell rfl _ _ _ ⟨tb, 0, none⟩ (.agg (fqA (fun s => ((fqF M s : Nat) : Int)))) rfl (loadVar141 hS)) rfl ⟨rfl, hSK⟩
      · have hallB : ((g1 : Int) == (i : Int)) = false := by rw [beq_eq_false_iff_ne]; omega
        have HAL := (show Hid (¬ g1 = i) from hall)
        clear hall
        go_wp2
        obtain ⟨hA, hK⟩ := HA.out
        have hfF : ∀ s, s < 12 → fqF M s = fqN M i s := fun s _ => by
          unfold fqF
          rw [← HN.out, if_neg (fun q => HAL.out (by rw [HG.out.2]; exact q.1))]
        have hA2 : IsA wr tb 141 .u32 12 (fun s => ((fqF M s : Nat) : Int)) := hA.congr (fun s hs => by rw [hfF s hs])
        have hS := setAll_is hA2 12
        have hSK := setAll_keep (b := tb) (fun s => ((fqF M s : Nat) : Int)) hK (by have := HT.out; omega) 12
        have hg : ∀ s, s < 12 → fqF M s = [g0, g1, g2, g3, g4, g5, g6, g7, g8, g9, g10, g11][s]?.getD 0 := fun s hs => by
          rw [hfF s hs]
          rcases HF.out s with q | q
          · exact q
          · omega
        have e0 : ((fqF M 0 : Nat) : Int) = (g0 : Int) := by rw [hg 0 (by omega)]; rfl
        have e1 : fqF M 1 = g1 := hg 1 (by omega)
        have e2 : fqF M 2 = g2 := hg 2 (by omega)
        have e3 : fqF M 3 = g3 := hg 3 (by omega)
        have e4 : fqF M 4 = g4 := hg 4 (by omega)
        have e5 : fqF M 5 = g5 := hg 5 (by omega)
        have e6 : fqF M 6 = g6 := hg 6 (by omega)
        have e7 : fqF M 7 = g7 := hg 7 (by omega)
        have e8 : fqF M 8 = g8 := hg 8 (by omega)
        have e9 : fqF M 9 = g9 := hg 9 (by omega)
        have e10 : fqF M 10 = g10 := hg 10 (by omega)
        have e11 : fqF M 11 = g11 := hg 11 (by omega)
        simp only [setAll, e0, e1, e2, e3, e4, e5, e6, e7, e8, e9, e10, e11] at hS hSK
        exact bodyPost_ret (results_cell rfl _ _ _ ⟨tb, 0, none⟩ (.agg (fqA (fun s => ((fqF M s : Nat) : Int)))) rfl (loadVar141 hS)) rfl ⟨rfl, hSK⟩

theorem sureCounts_any (w : World) : Calls Try.prog 79 #[] w fun e w' => ∃ g, e = .returned (.slice (some ⟨g, 0, none⟩) sureL.length sureL.length) ∧ w.heap.size ≤ g ∧ RowI w' .i16 (some ⟨g, 0, none⟩) sureL.length g 0 sureL ∧ Keep noBlock w w' := by
  go_enter Try.func79, Try.ntmps79
  go_wp2
  go_ret
  refine ⟨w.heap.size, rfl, Nat.le_refl _, ⟨.inl rfl, (fun e => by cases e), fun j hj => ?_, Nat.le_refl _⟩, (Keep.refl _ w).alloc _⟩
  rw [Nat.zero_add]
  have h1 := World.alloc_heap_new w (.cells (i16s sureL).toArray 132)
  rw [← i16s_at sureL j hj, ← List.getElem?_toArray]
  exact cell_of h1 j

end Go.Proofs.Ytkljidigmolmmaa

namespace Go.Proofs.Ytkljidigmolmmaa
open Go.RowKit Go.Shelf

/-- Numbers of 32 bits. -/
def U32 (fs : List Int) : Prop := ∀ i : Nat, 0 ≤ fs[i]?.getD 0 ∧ fs[i]?.getD 0 ≤ 4294967295
/-- How often a symbol is there. -/
def fr (fs : List Int) (i : Nat) : Nat := (fs[i]?.getD 0).toNat
theorem fr_lt {fs : List Int} (h : U32 fs) (i : Nat) : fr fs i < 4294967296 := by have := h i; unfold fr; omega
theorem RowI.fr {w : World} {a : Option Addr} {cap gb off : Nat} {fs : List Int} (h : RowI w .u32 a cap gb off fs) (hu : U32 fs) (i : Nat) (hi : i < fs.length) : w.cell? ⟨gb, off + i, none⟩ = some (.int .u32 ((fr fs i : Nat) : Int)) := by
  rw [h.cells i hi]
  have := hu i
  unfold Go.Proofs.Ytkljidigmolmmaa.fr
  congr 2
  omega

/-- What mostGain finds. -/
def IsMost (f c : Nat → Nat) (n s g : Nat) : Prop := (g = 0 ∧ s = 0 ∧ ∀ j, j < n → f j * savedN (c j) = 0) ∨ (s < n ∧ g = f s * savedN (c s) ∧ 0 < g)
/-- What leastLoss finds. -/
def IsLeast (f c : Nat → Nat) (n s g : Nat) : Prop := (g = 18446744073709551615 ∧ s = 0 ∧ ∀ j, j < n → c j < 2) ∨ (s < n ∧ g = f s * savedN (c s - 1) ∧ 2 ≤ c s)

theorem gain_lt (f c x : Nat) (hf : f < 4294967296) (hc : c ≤ 4096) (h0 : c = 0 → f = 0) (hx : x = f * savedN c) : x < 9223372036854775808 := by
  by_cases h : c = 0
  · rw [hx, h0 h]; simp
  · have h1 := (saved_facts c (by omega) hc).2.1
    have : f * savedN c ≤ 4294967295 * 2147483647 := Nat.mul_le_mul (by omega) (by omega)
    omega

set_option maxRecDepth 100000 in
set_option maxHeartbeats 2000000 in
theorem mostGain_any (cb : Nat) (c : Nat → Nat) (a : Option Addr) (cap gb off : Nat) (fs : List Int) (w : World) (hA : IsA w cb 132 .i16 fs.length (fun i => ((c i : Nat) : Int))) (hR : RowI w .u32 a cap gb off fs) (hu : U32 fs) (hl : fs.length ≤ 256) (hc : ∀ i, i < fs.length → c i ≤ 4096) (h0 : ∀ i, i < fs.length → c i = 0 → fr fs i = 0) :
    Calls Try.prog 108 #[.slice (some ⟨cb, 0, none⟩) fs.length fs.length, .slice a fs.length cap] w fun e w' => ∃ s g, e = .returned (.tuple #[.int .i64 ((s : Nat) : Int), .int .u64 ((g : Nat) : Int)]) ∧ IsMost (fr fs) c fs.length s g ∧ w' = w := by
  have HH := (show Hid (IsA w cb 132 .i16 fs.length (fun i => ((c i : Nat) : Int)) ∧ RowI w .u32 a cap gb off fs ∧ U32 fs ∧ (∀ i, i < fs.length → c i ≤ 4096) ∧ (∀ i, i < fs.length → c i = 0 → fr fs i = 0)) from ⟨hA, hR, hu, hc, h0⟩)
  obtain ⟨n, hn⟩ : ∃ n, n = fs.length := ⟨_, rfl⟩
  rw [← hn] at hl ⊢
  have HN := (show Hid (n = fs.length) from hn)
  clear hA hR hu hc h0 hn
  go_enter Try.func108, Try.ntmps108
  go_wp2
  go_loop [4, 5, 11] (fun v4 v5 v11 => ∃ (i s g : Nat), v11 = .int .i64 (i : Int) ∧ v4 = .int .i64 (s : Int) ∧ v5 = .int .u64 (g : Int) ∧ i ≤ n ∧ g < 9223372036854775808 ∧ Hid (IsMost (fr fs) c i s g)) (fun _ _ v11 => n - (intOf v11).toNat)
  case atStart => exact ⟨0, 0, 0, rfl, rfl, rfl, Nat.zero_le _, by decide, .inl ⟨rfl, rfl, fun j hj => by omega⟩⟩
  case round =>
    obtain ⟨i, s, g, rfl, rfl, rfl, hi, hgb, HM⟩ := hrel
    by_cases hlt : i < n
    · obtain ⟨hA, hR, hu, hc, h0⟩ := HH.out
      have hix : i < fs.length := by have := HN.out; omega
      obtain rfl := hR.here hix
      have c0 := hR.fr hu i hix
      have c1 := hA.cell i hix
      have hci := hc i hix
      have hfi := fr_lt hu i
      have h0i := h0 i hix
      obtain ⟨x, hx⟩ : ∃ x, x = fr fs i * savedN (c i) := ⟨_, rfl⟩
      have hxb := gain_lt (fr fs i) (c i) x hfi hci h0i hx
      have hxI : ((fr fs i : Nat) : Int) * ((savedN (c i) : Nat) : Int) = (x : Int) := by rw [hx]; simp
      have HS := (show Hid (∀ w : World, _) from fun w => saved_any (c i) hci w)
      have HX := (show Hid (x = fr fs i * savedN (c i)) from hx)
      have hsb := saved_lt (c i) hci
      have hltI : (i : Int) < (n : Int) := by omega
      have hxbI : (x : Int) < 9223372036854775808 := by omega
      have hgbI : (g : Int) < 9223372036854775808 := by omega
      have hnI : (n : Int) ≤ 256 := by omega
      have hcI : ((c i : Nat) : Int) ≤ 4096 := by omega
      have hfI : ((fr fs i : Nat) : Int) < 4294967296 := by omega
      have hsI : ((savedN (c i) : Nat) : Int) < 8589934592 := by omega
      clear hA hR hu hc h0 h0i hx hci hfi hsb hxb
      by_cases hgt : g < x
      · have hgtI : (g : Int) < (x : Int) := by omega
        have HM2 := (show Hid (IsMost (fr fs) c (i + 1) i x) from .inr ⟨by omega, HX.out, by omega⟩)
        generalize fr fs i = fi at *
        generalize savedN (c i) = si at *
        generalize c i = ci at *
        go_wp2_with (go_at_call 116; refine (HS.out _).mono ?_; rintro e w' ⟨rfl, rfl⟩)
        go_round
        case rel => exact ⟨i + 1, i, x, by go_num, rfl, rfl, by omega, by omega, HM2⟩
        case measure => simp [intOf]; omega
      · have hgtI : ¬ (g : Int) < (x : Int) := by omega
        have HM2 := (show Hid (IsMost (fr fs) c (i + 1) s g) from by
          rcases HM.out with ⟨e1, e2, e3⟩ | ⟨e1, e2, e3⟩
          · refine .inl ⟨e1, e2, fun j hj => ?_⟩
            by_cases e : j = i
            · subst e; rw [← HX.out]; omega
            · exact e3 j (by omega)
          · exact .inr ⟨by omega, e2, e3⟩)
        generalize fr fs i = fi at *
        generalize savedN (c i) = si at *
        generalize c i = ci at *
        go_wp2_with (go_at_call 116; refine (HS.out _).mono ?_; rintro e w' ⟨rfl, rfl⟩)
        go_round
        case rel => exact ⟨i + 1, s, g, by go_num, rfl, rfl, by omega, by omega, HM2⟩
        case measure => simp [intOf]; omega
    · obtain rfl : i = n := by omega
      have hltI : ¬ (i : Int) < (i : Int) := by omega
      go_wp2
      go_ret2
      exact ⟨s, g, rfl, HM.out, rfl⟩

set_option maxRecDepth 100000 in
set_option maxHeartbeats 2000000 in
theorem leastLoss_any (cb : Nat) (c : Nat → Nat) (a : Option Addr) (cap gb off : Nat) (fs : List Int) (w : World) (hA : IsA w cb 132 .i16 fs.length (fun i => ((c i : Nat) : Int))) (hR : RowI w .u32 a cap gb off fs) (hu : U32 fs) (hl : fs.length ≤ 256) (hc : ∀ i, i < fs.length → c i ≤ 4096) :
    Calls Try.prog 109 #[.slice (some ⟨cb, 0, none⟩) fs.length fs.length, .slice a fs.length cap] w fun e w' => ∃ s g, e = .returned (.tuple #[.int .i64 ((s : Nat) : Int), .int .u64 ((g : Nat) : Int)]) ∧ IsLeast (fr fs) c fs.length s g ∧ g ≤ 18446744073709551615 ∧ w' = w := by
  have HH := (show Hid (IsA w cb 132 .i16 fs.length (fun i => ((c i : Nat) : Int)) ∧ RowI w .u32 a cap gb off fs ∧ U32 fs ∧ (∀ i, i < fs.length → c i ≤ 4096)) from ⟨hA, hR, hu, hc⟩)
  obtain ⟨n, hn⟩ : ∃ n, n = fs.length := ⟨_, rfl⟩
  rw [← hn] at hl ⊢
  have HN := (show Hid (n = fs.length) from hn)
  clear hA hR hu hc hn
  go_enter Try.func109, Try.ntmps109
  go_wp2
  go_loop [4, 5, 11] (fun v4 v5 v11 => ∃ (i s g : Nat), v11 = .int .i64 (i : Int) ∧ v4 = .int .i64 (s : Int) ∧ v5 = .int .u64 (g : Int) ∧ i ≤ n ∧ g ≤ 18446744073709551615 ∧ Hid (IsLeast (fr fs) c i s g)) (fun _ _ v11 => n - (intOf v11).toNat)
  case atStart => exact ⟨0, 0, 18446744073709551615, rfl, rfl, rfl, Nat.zero_le _, Nat.le_refl _, .inl ⟨rfl, rfl, fun j hj => by omega⟩⟩
  case round =>
    obtain ⟨i, s, g, rfl, rfl, rfl, hi, hgb, HM⟩ := hrel
    by_cases hlt : i < n
    · obtain ⟨hA, hR, hu, hc⟩ := HH.out
      have hix : i < fs.length := by have := HN.out; omega
      obtain rfl := hR.here hix
      have c0 := hR.fr hu i hix
      have c1 := hA.cell i hix
      have hci := hc i hix
      have hfi := fr_lt hu i
      have hltI : (i : Int) < (n : Int) := by omega
      have hgbI : (g : Int) ≤ 18446744073709551615 := by omega
      have hnI : (n : Int) ≤ 256 := by omega
      have hcI : ((c i : Nat) : Int) ≤ 4096 := by omega
      have hfI : ((fr fs i : Nat) : Int) < 4294967296 := by omega
      by_cases h2 : c i < 2
      · have h2I : ((c i : Nat) : Int) < 2 := by omega
        have HM2 := (show Hid (IsLeast (fr fs) c (i + 1) s g) from by
          rcases HM.out with ⟨e1, e2, e3⟩ | ⟨e1, e2, e3⟩
          · refine .inl ⟨e1, e2, fun j hj => ?_⟩
            by_cases e : j = i
            · subst e; exact h2
            · exact e3 j (by omega)
          · exact .inr ⟨by omega, e2, e3⟩)
        clear hA hR hu hc hci hfi
        generalize fr fs i = fi at *
        generalize c i = ci at *
        go_wp2_with fail
        go_round
        case rel => exact ⟨i + 1, s, g, by go_num, rfl, rfl, by omega, hgb, HM2⟩
        case measure => simp [intOf]; omega
      · have h2I : ¬ ((c i : Nat) : Int) < 2 := by omega
        obtain ⟨d, hd⟩ : ∃ d, c i = d + 1 := ⟨c i - 1, by omega⟩
        have hdI : ((c i : Nat) : Int) - 1 = (d : Int) := by omega
        obtain ⟨x, hx⟩ : ∃ x, x = fr fs i * savedN d := ⟨_, rfl⟩
        have hxb := gain_lt (fr fs i) d x hfi (by omega) (by omega) hx
        have hxI : ((fr fs i : Nat) : Int) * ((savedN d : Nat) : Int) = (x : Int) := by rw [hx]; simp
        have HS := (show Hid (∀ w : World, _) from fun w => saved_any d (by omega) w)
        have hsb := saved_lt d (by omega)
        have hsI : ((savedN d : Nat) : Int) < 8589934592 := by omega
        have hxbI : (x : Int) < 9223372036854775808 := by omega
        have HX := (show Hid (x = fr fs i * savedN (c i - 1)) from by rw [hd, Nat.add_sub_cancel]; exact hx)
        have hdb : (d : Int) ≤ 4096 := by omega
        by_cases hgt : x < g
        · have hgtI : (x : Int) < (g : Int) := by omega
          have HM2 := (show Hid (IsLeast (fr fs) c (i + 1) i x) from .inr ⟨by omega, HX.out, by omega⟩)
          clear hA hR hu hc hci hfi hx hxb hsb hd
          generalize fr fs i = fi at *
          generalize savedN d = si at *
          generalize c i = ci at *
          go_wp2_with (go_at_call 116; refine (HS.out _).mono ?_; rintro e w' ⟨rfl, rfl⟩)
          go_round
          case rel => exact ⟨i + 1, i, x, by go_num, rfl, rfl, by omega, by omega, HM2⟩
          case measure => simp [intOf]; omega
        · have hgtI : ¬ (x : Int) < (g : Int) := by omega
          have HM2 := (show Hid (IsLeast (fr fs) c (i + 1) s g) from by
            rcases HM.out with ⟨e1, e2, e3⟩ | ⟨e1, e2, e3⟩
            · omega
            · exact .inr ⟨by omega, e2, e3⟩)
          clear hA hR hu hc hci hfi hx hxb hsb hd
          generalize fr fs i = fi at *
          generalize savedN d = si at *
          generalize c i = ci at *
          go_wp2_with (go_at_call 116; refine (HS.out _).mono ?_; rintro e w' ⟨rfl, rfl⟩)
          go_round
          case rel => exact ⟨i + 1, s, g, by go_num, rfl, rfl, by omega, hgb, HM2⟩
          case measure => simp [intOf]; omega
    · obtain rfl : i = n := by omega
      have hltI : ¬ (i : Int) < (i : Int) := by omega
      go_wp2
      go_ret2
      exact ⟨s, g, rfl, HM.out, hgb, rfl⟩

end Go.Proofs.Ytkljidigmolmmaa

namespace Go.Proofs.Ytkljidigmolmmaa
open Go.RowKit Go.Shelf

/-- Counts on their way. -/
def InvC (f c : Nat → Nat) (n : Nat) : Prop := ∀ i, i < n → (0 < f i → 1 ≤ c i) ∧ (f i = 0 → c i = 0) ∧ c i ≤ 4096
/-- How many symbols are there. -/
def usedC (f : Nat → Nat) (n : Nat) : Nat := sumN (fun i => if 0 < f i then 1 else 0) n
/-- The counts as they lie. -/
def cOf (cb : Nat) (w : World) (i : Nat) : Nat := match w.cell? ⟨cb, i, none⟩ with | some (.int _ x) => x.toNat | _ => 0
theorem cOf_eq {cb n : Nat} {c : Nat → Nat} {w : World} (h : IsA w cb 132 .i16 n (fun i => ((c i : Nat) : Int))) (i : Nat) (hi : i < n) : cOf cb w i = c i := by
  unfold cOf; rw [h.cell i hi]; simp
theorem potF_eq {cb n : Nat} {c f : Nat → Nat} {w : World} (h : IsA w cb 132 .i16 n (fun i => ((c i : Nat) : Int))) : potF f (cOf cb w) n = potF f c n :=
  sumN_congr _ _ n (fun i hi => by show f i * SP (cOf cb w i) = f i * SP (c i); rw [cOf_eq h i hi])
/-- Far from the end. -/
def farN (f : Nat → Nat) (cb n : Nat) (v6 : Value) (w : World) : Nat := (intOf v6).natAbs * (potMax + 1) + (potMax - potF f (cOf cb w) n)

theorem some_two (f c : Nat → Nat) (n S : Nat) (hI : InvC f c n) (hU : usedC f n ≤ S) (h : S < sumN c n) : ∃ j, j < n ∧ 2 ≤ c j := by
  refine Classical.byContradiction fun hno => ?_
  have : sumN c n ≤ usedC f n := sumN_mono _ _ n (fun i hi => by
    have h1 := hI i hi
    have h2 : ¬ 2 ≤ c i := fun h => hno ⟨i, hi, h⟩
    by_cases hf : 0 < f i
    · rw [if_pos hf]; omega
    · rw [if_neg hf, h1.2.1 (by omega)]; omega)
  omega
theorem some_there (f : Nat → Nat) (n : Nat) (h : 0 < usedC f n) : ∃ j, j < n ∧ 0 < f j := by
  refine Classical.byContradiction fun hno => ?_
  have : usedC f n ≤ n * 0 := sumN_le _ n 0 (fun i hi => by
    have h2 : ¬ 0 < f i := fun h => hno ⟨i, hi, h⟩
    rw [if_neg h2]; omega)
  omega
theorem most_there {f c : Nat → Nat} {n s g : Nat} (h : IsMost f c n s g) (hI : InvC f c n) (hU : 0 < usedC f n) : s < n ∧ g = f s * savedN (c s) ∧ 0 < g ∧ 0 < f s := by
  rcases h with ⟨_, _, h3⟩ | ⟨h1, h2, h3⟩
  · obtain ⟨j, hj, hf⟩ := some_there f n hU
    have h4 := hI j hj
    have h5 := (saved_facts (c j) (h4.1 hf) h4.2.2).1
    have := h3 j hj
    have h6 : 0 < f j * savedN (c j) := Nat.mul_pos hf h5
    omega
  · refine ⟨h1, h2, h3, ?_⟩
    rcases Nat.eq_zero_or_pos (f s) with e | e
    · rw [e, Nat.zero_mul] at h2; omega
    · exact e

theorem far_less {f : Nat → Nat} {cb n : Nat} {x y : Int} {w w' : World} (h : y.natAbs + 1 = x.natAbs) : farN f cb n (.int .i64 y) w' < farN f cb n (.int .i64 x) w := by
  unfold farN
  show y.natAbs * (potMax + 1) + _ < x.natAbs * (potMax + 1) + _
  rw [← h, Nat.succ_mul]
  omega
theorem far_same {f c c' : Nat → Nat} {cb n : Nat} {x : Int} {w w' : World} (h : IsA w cb 132 .i16 n (fun i => ((c i : Nat) : Int))) (h' : IsA w' cb 132 .i16 n (fun i => ((c' i : Nat) : Int))) (hp : potF f c n < potF f c' n) (hb : potF f c' n ≤ potMax) : farN f cb n (.int .i64 x) w' < farN f cb n (.int .i64 x) w := by
  unfold farN
  rw [potF_eq h, potF_eq h']
  omega
theorem InvC.up {f c : Nat → Nat} {n i : Nat} (h : InvC f c n) (hf : 0 < f i) (hb : c i + 1 ≤ 4096) : InvC f (fun j => if j = i then c i + 1 else c j) n := fun j hj => by
  dsimp only
  by_cases e : j = i
  · subst e; rw [if_pos rfl]; exact ⟨fun _ => by omega, fun e => by omega, hb⟩
  · rw [if_neg e]; exact h j hj
theorem InvC.down {f c : Nat → Nat} {n i : Nat} (h : InvC f c n) (hi : i < n) (h2 : 2 ≤ c i) : InvC f (fun j => if j = i then c i - 1 else c j) n := fun j hj => by
  dsimp only
  have := h i hi
  by_cases e : j = i
  · subst e; rw [if_pos rfl]; exact ⟨fun _ => by omega, fun e => by have := this.2.1 e; omega, by omega⟩
  · rw [if_neg e]; exact h j hj
theorem sum_up (c : Nat → Nat) (n i : Nat) (hi : i < n) : sumN (fun j => if j = i then c i + 1 else c j) n = sumN c n + 1 := by
  have := sumN_set c (fun j => if j = i then c i + 1 else c j) n i hi (fun k _ hk => by simp [hk])
  simp only [if_true] at this
  omega
theorem sum_down (c : Nat → Nat) (n i : Nat) (hi : i < n) (h2 : 2 ≤ c i) : sumN (fun j => if j = i then c i - 1 else c j) n + 1 = sumN c n := by
  have := sumN_set c (fun j => if j = i then c i - 1 else c j) n i hi (fun k _ hk => by simp [hk])
  simp only [if_true] at this
  omega
theorem isA_up {w : World} {cb n : Nat} {c : Nat → Nat} (h : IsA w cb 132 .i16 n (fun i => ((c i : Nat) : Int))) (i : Nat) (v : Int) (x : Nat) (hv : v = (x : Int)) : IsA (w.setCell ⟨cb, i, none⟩ (.int .i16 v)) cb 132 .i16 n (fun j => (((if j = i then x else c j) : Nat) : Int)) :=
  (h.set i v).congr (fun j _ => by split <;> first | exact hv | rfl)

set_option maxRecDepth 100000 in
set_option maxHeartbeats 4000000 in
theorem settle_any (cb S : Nat) (c0 : Nat → Nat) (a : Option Addr) (cap gb off : Nat) (fs : List Int) (w : World) (hA : IsA w cb 132 .i16 fs.length (fun i => ((c0 i : Nat) : Int))) (hR : RowI w .u32 a cap gb off fs) (hgb : fs ≠ [] → gb ≠ cb) (hu : U32 fs) (hl : fs.length ≤ 256) (hI : InvC (fr fs) c0 fs.length) (hU0 : 0 < usedC (fr fs) fs.length) (hUS : usedC (fr fs) fs.length ≤ S) (hS : S ≤ 4096) :
    Calls Try.prog 94 #[.slice (some ⟨cb, 0, none⟩) fs.length fs.length, .slice a fs.length cap, .int .i64 (S : Int)] w fun e w' => e = .returned (.tuple #[]) ∧ ∃ c : Nat → Nat, IsA w' cb 132 .i16 fs.length (fun i => ((c i : Nat) : Int)) ∧ InvC (fr fs) c fs.length ∧ sumN c fs.length = S ∧ Keep (fun k => k = cb) w w' := by
  have HH := (show Hid (RowI w .u32 a cap gb off fs ∧ (fs ≠ [] → gb ≠ cb) ∧ U32 fs ∧ 0 < usedC (fr fs) fs.length ∧ usedC (fr fs) fs.length ≤ S ∧ fs.length ≤ 256) from ⟨hR, hgb, hu, hU0, hUS, hl⟩)
  have HA := (show Hid (IsA w cb 132 .i16 fs.length (fun i => ((c0 i : Nat) : Int)) ∧ InvC (fr fs) c0 fs.length) from ⟨hA, hI⟩)
  obtain ⟨n, hn⟩ : ∃ n, n = fs.length := ⟨_, rfl⟩
  rw [← hn] at hl HA HH ⊢
  have HN := (show Hid (n = fs.length) from hn)
  have hSI : (S : Int) ≤ 4096 := by omega
  have hnI : (n : Int) ≤ 256 := by omega
  clear hA hR hgb hu hI hU0 hUS hn
  go_enter Try.func94, Try.ntmps94
  go_wp2_with fail
  go_loop [6, 16] (fun v6 v16 => ∃ i : Nat, v16 = .int .i64 (i : Int) ∧ v6 = .int .i64 ((S : Int) - ((sumN c0 i : Nat) : Int)) ∧ i ≤ n) (fun _ v16 => n - (intOf v16).toNat)
  case atStart => exact ⟨0, rfl, by simp [sumN], Nat.zero_le _⟩
  case round =>
    obtain ⟨i, rfl, rfl, hi⟩ := hrel
    have hsb : sumN c0 i ≤ i * 4096 := sumN_le c0 i 4096 (fun j hj => (HA.out.2 j (by omega)).2.2)
    by_cases hlt : i < n
    · have c1 := HA.out.1.cell i hlt
      have hci := (HA.out.2 i hlt).2.2
      have HSU := (show Hid (sumN c0 (i + 1) = sumN c0 i + c0 i) from rfl)
      have hltI : (i : Int) < (n : Int) := by omega
      have hcI : ((c0 i : Nat) : Int) ≤ 4096 := by omega
      have hsI : ((sumN c0 i : Nat) : Int) ≤ 1048576 := by omega
      generalize c0 i = ci at *
      generalize sumN c0 i = si at *
      clear hci hsb
      go_wp2_with fail
      go_round
      case rel => exact ⟨i + 1, by go_num, by rw [HSU.out]; congr 1; omega, by omega⟩
      case measure => simp [intOf]; omega
    · obtain rfl : i = n := by omega
      have hltI : ¬ (i : Int) < (i : Int) := by omega
      go_wp2_with fail
      go_loopw [6] (fun v6 wr => ∃ (sp : Int) (c : Nat → Nat), v6 = .int .i64 sp ∧ -1048576 ≤ sp ∧ sp ≤ 4096 ∧ Hid (IsA wr cb 132 .i16 i (fun i => ((c i : Nat) : Int)) ∧ InvC (fr fs) c i ∧ ((sumN c i : Nat) : Int) + sp = (S : Int) ∧ Keep (fun k => k = cb) w wr)) (fun v6 wr => farN (fr fs) cb i v6 wr)
      case atStart => exact ⟨_, c0, rfl, by omega, by omega, HA.out.1, HA.out.2, by omega, Keep.refl _ _⟩
      case round =>
        clear HA hsb
        obtain ⟨sp, c, rfl, hsp1, hsp2, HC⟩ := hrel
        obtain ⟨hA, hI, hsum, hK⟩ := HC.out
        obtain ⟨hR, hgb, hu, hU0, hUS, hl⟩ := HH.out
        have hR2 := hR.keep hK hgb
        have hn := HN.out
        have h1 := mostGain_any cb c a cap gb off fs wr (by rw [← hn]; exact hA) hR2 hu (by omega) (fun j hj => (hI j (by omega)).2.2) (fun j hj e => by
          have h3 := hI j (by omega)
          rcases Nat.eq_zero_or_pos (fr fs j) with e2 | e2
          · exact e2
          · have := h3.1 e2; omega)
        have h2 := leastLoss_any cb c a cap gb off fs wr (by rw [← hn]; exact hA) hR2 hu (by omega) (fun j hj => (hI j (by omega)).2.2)
        rw [← hn] at h1 h2
        have H1 := (show Hid (Calls Try.prog 108 _ wr _) from h1)
        have H2 := (show Hid (Calls Try.prog 109 _ wr _) from h2)
        clear h1 h2 hR hgb hu hR2 hn hA hI hsum hK
        go_wp2_with fail
        refine H1.out.mono ?_
        rintro e w1 ⟨to_, gain, rfl, hmost, rfl⟩
        go_wp2_with fail
        refine H2.out.mono ?_
        rintro e w1 ⟨from_, loss, rfl, hleast, hlossb, rfl⟩
        clear H1 H2
        obtain ⟨hA, hI, hsum, hK⟩ := HC.out
        obtain ⟨m1, m2, m3, m4⟩ := most_there hmost hI hU0
        have hgb2 : gain < 9223372036854775808 := gain_lt _ _ gain (fr_lt HH.out.2.2.1 to_) (hI to_ m1).2.2 (fun e => by have := (hI to_ m1).1 m4; omega) m2
        have hkk : ∀ (W : World) (j : Nat) (v : Value), Keep (fun k => k = cb) w W → Keep (fun k => k = cb) w (W.setCell ⟨cb, j, none⟩ v) := fun W j v hk => Keep.setCell (S := fun k => k = cb) (p := ⟨cb, j, none⟩) hk (fun _ => rfl) _
        by_cases hp : 0 < sp
        · have hge := sumN_ge c i to_ m1
          have hup := isA_up hA to_ (((c to_ : Nat) : Int) + 1) (c to_ + 1) (by omega)
          have HG := (show Hid (IsA (w1.setCell ⟨cb, to_, none⟩ (.int .i16 (((c to_ : Nat) : Int) + 1))) cb 132 .i16 i (fun j => (((if j = to_ then c to_ + 1 else c j) : Nat) : Int)) ∧ InvC (fr fs) (fun j => if j = to_ then c to_ + 1 else c j) i ∧ ((sumN (fun j => if j = to_ then c to_ + 1 else c j) i : Nat) : Int) + (sp - 1) = (S : Int) ∧ Keep (fun k => k = cb) w (w1.setCell ⟨cb, to_, none⟩ (.int .i16 (((c to_ : Nat) : Int) + 1)))) from
            ⟨hup, hI.up m4 (by omega), by rw [sum_up c i to_ m1]; omega, hkk _ _ _ hK⟩)
          have ct := hA.cell to_ m1
          have ft := hA.frozen to_
          have hcb : ((c to_ : Nat) : Int) ≤ 4096 := by omega
          have htI : (to_ : Int) < (i : Int) := by omega
          clear hA hI hsum hK m2 m3 m4 hmost hleast hkk hup HC hge
          generalize c to_ = x at *
          go_wp2_with fail
          go_roundw
          case rel => exact ⟨sp - 1, _, rfl, by omega, by omega, HG⟩
          case measure => exact far_less (by omega)
        · by_cases hq : sp < 0
          · obtain ⟨l1, l2, l3⟩ : from_ < i ∧ loss = fr fs from_ * savedN (c from_ - 1) ∧ 2 ≤ c from_ := by
              rcases hleast with ⟨_, _, h3⟩ | h
              · obtain ⟨j, hj, h4⟩ := some_two (fr fs) c i S hI hUS (by omega)
                have := h3 j hj; omega
              · exact h
            have hdn := isA_up hA from_ (((c from_ : Nat) : Int) - 1) (c from_ - 1) (by omega)
            have hsd := sum_down c i from_ l1 l3
            have HG := (show Hid (IsA (w1.setCell ⟨cb, from_, none⟩ (.int .i16 (((c from_ : Nat) : Int) - 1))) cb 132 .i16 i (fun j => (((if j = from_ then c from_ - 1 else c j) : Nat) : Int)) ∧ InvC (fr fs) (fun j => if j = from_ then c from_ - 1 else c j) i ∧ ((sumN (fun j => if j = from_ then c from_ - 1 else c j) i : Nat) : Int) + (sp + 1) = (S : Int) ∧ Keep (fun k => k = cb) w (w1.setCell ⟨cb, from_, none⟩ (.int .i16 (((c from_ : Nat) : Int) - 1)))) from
              ⟨hdn, hI.down l1 l3, by omega, hkk _ _ _ hK⟩)
            have ct := hA.cell from_ l1
            have ft := hA.frozen from_
            have hcb : ((c from_ : Nat) : Int) ≤ 4096 := by have := (hI from_ l1).2.2; omega
            have hcl : (2 : Int) ≤ ((c from_ : Nat) : Int) := by omega
            have htI : (from_ : Int) < (i : Int) := by omega
            clear hA hI hsum hK m2 m3 m4 hmost hleast hkk hdn HC hsd l2 l3
            generalize c from_ = x at *
            go_wp2_with fail
            go_roundw
            case rel => exact ⟨sp + 1, _, rfl, by omega, by omega, HG⟩
            case measure => exact far_less (by omega)
          · obtain rfl : sp = 0 := by omega
            have hgI : (gain : Int) < 9223372036854775808 := by omega
            have hlI : (loss : Int) ≤ 18446744073709551615 := by omega
            by_cases hgl : loss < gain
            · obtain ⟨l1, l2, l3⟩ : from_ < i ∧ loss = fr fs from_ * savedN (c from_ - 1) ∧ 2 ≤ c from_ := by
                rcases hleast with ⟨h1, _, _⟩ | h
                · omega
                · exact h
              have hne : to_ ≠ from_ := by
                rintro rfl
                have h5 := (saved_facts (c to_ - 1) (by omega) (by have := (hI to_ m1).2.2; omega)).2.2
                rw [show c to_ - 1 + 1 = c to_ from by omega] at h5
                have : fr fs to_ * savedN (c to_) ≤ fr fs to_ * savedN (c to_ - 1) := Nat.mul_le_mul_left _ h5
                omega
              have htwo := sumN_two c i to_ from_ m1 l1 hne
              have hup := isA_up hA to_ (((c to_ : Nat) : Int) + 1) (c to_ + 1) (by omega)
              have hI2 := hI.up (i := to_) m4 (by omega)
              have hdn := isA_up hup from_ (((c from_ : Nat) : Int) - 1) (c from_ - 1) (by omega)
              have l3' : 2 ≤ (fun j => if j = to_ then c to_ + 1 else c j) from_ := by dsimp only; rw [if_neg (fun h => hne h.symm)]; exact l3
              have hI3 := hI2.down l1 l3'
              have hs1 := sum_up c i to_ m1
              have hs2 := sum_down (fun j => if j = to_ then c to_ + 1 else c j) i from_ l1 l3'
              have efr : (if from_ = to_ then c to_ + 1 else c from_) = c from_ := if_neg (fun h => hne h.symm)
              simp only [efr] at hI3 hs2
              have hpm := pot_move (fr fs) c i to_ from_ m1 l1 hne l3 (by rw [← l2, ← m2]; exact hgl)
              have hpb := pot_le (fr fs) (fun k => if k = from_ then c from_ - 1 else if k = to_ then c to_ + 1 else c k) i (by omega) (fr_lt HH.out.2.2.1) (fun j hj => (hI3 j hj).2.2)
              have HG := (show Hid (IsA ((w1.setCell ⟨cb, to_, none⟩ (.int .i16 (((c to_ : Nat) : Int) + 1))).setCell ⟨cb, from_, none⟩ (.int .i16 (((c from_ : Nat) : Int) - 1))) cb 132 .i16 i (fun j => (((if j = from_ then c from_ - 1 else if j = to_ then c to_ + 1 else c j) : Nat) : Int)) ∧ InvC (fr fs) (fun j => if j = from_ then c from_ - 1 else if j = to_ then c to_ + 1 else c j) i ∧ ((sumN (fun j => if j = from_ then c from_ - 1 else if j = to_ then c to_ + 1 else c j) i : Nat) : Int) + 0 = (S : Int) ∧ Keep (fun k => k = cb) w ((w1.setCell ⟨cb, to_, none⟩ (.int .i16 (((c to_ : Nat) : Int) + 1))).setCell ⟨cb, from_, none⟩ (.int .i16 (((c from_ : Nat) : Int) - 1)))) from
                ⟨hdn, hI3, by omega, hkk _ _ _ (hkk _ _ _ hK)⟩)
              have HPT := (show Hid (IsA w1 cb 132 .i16 i (fun i => ((c i : Nat) : Int)) ∧ potF (fr fs) c i < potF (fr fs) (fun k => if k = from_ then c from_ - 1 else if k = to_ then c to_ + 1 else c k) i ∧ potF (fr fs) (fun k => if k = from_ then c from_ - 1 else if k = to_ then c to_ + 1 else c k) i ≤ potMax) from ⟨hA, hpm, hpb⟩)
              have ct := hA.cell to_ m1
              have ft := hA.frozen to_
              have cf := hA.cell from_ l1
              have ff := hA.frozen from_
              have hct : ((c to_ : Nat) : Int) ≤ 4096 := by have := (hI to_ m1).2.2; omega
              have hcf : ((c from_ : Nat) : Int) ≤ 4096 := by have := (hI from_ l1).2.2; omega
              have hcl : (2 : Int) ≤ ((c from_ : Nat) : Int) := by omega
              have htI : (to_ : Int) < (i : Int) := by omega
              have hfI : (from_ : Int) < (i : Int) := by omega
              have hne2 : from_ ≠ to_ := fun h => hne h.symm
              have hglI : (loss : Int) < (gain : Int) := by omega
              have hp0 : ¬ (0 : Int) < 0 := by omega
              clear hA hI hsum hK m2 m3 m4 hmost hleast hkk hup hdn hI2 hI3 hs1 hs2 efr hpm hpb HC l2 l3 l3' htwo hp hq
              go_wp2_with fail
              go_roundw
              case rel => exact ⟨0, _, rfl, by omega, by omega, HG⟩
              case measure => exact far_same HPT.out.1 HG.out.1 HPT.out.2.1 HPT.out.2.2
            · have hglI : ¬ (loss : Int) < (gain : Int) := by omega
              have hp0 : ¬ (0 : Int) < 0 := by omega
              clear hp hq hA hI hsum hK m2 m3 m4 hmost hleast hkk
              go_wp2_with fail
              refine bodyPost_ret (results_none rfl _ _ _) rfl ?_
              obtain ⟨hA, hI, hsum, hK⟩ := HC.out
              exact ⟨rfl, c, hA, hI, by omega, hK⟩

end Go.Proofs.Ytkljidigmolmmaa

namespace Go.Proofs.Ytkljidigmolmmaa
open Go.RowKit Go.Shelf

theorem usedN_le (f : Nat → Nat) (n : Nat) : usedC f n ≤ n := by
  have := sumN_le (fun i => if 0 < f i then 1 else 0) n 1 (fun i _ => by split <;> omega)
  unfold usedC; omega

set_option maxRecDepth 100000 in
set_option maxHeartbeats 1000000 in
theorem sumOf_any (a : Option Addr) (cap gb off : Nat) (fs : List Int) (w : World) (hR : RowI w .u32 a cap gb off fs) (hu : U32 fs) (hl : fs.length ≤ 256) :
    Calls Try.prog 92 #[.slice a fs.length cap] w fun e w' => e = .returned (.tuple #[.int .u64 ((sumN (fr fs) fs.length : Nat) : Int), .int .i64 ((usedC (fr fs) fs.length : Nat) : Int)]) ∧ w' = w := by
  have HH := (show Hid (RowI w .u32 a cap gb off fs ∧ U32 fs) from ⟨hR, hu⟩)
  obtain ⟨n, hn⟩ : ∃ n, n = fs.length := ⟨_, rfl⟩
  rw [← hn] at hl ⊢
  have HN := (show Hid (n = fs.length) from hn)
  have hnI : (n : Int) ≤ 256 := by omega
  clear hR hu hn
  go_enter Try.func92, Try.ntmps92
  go_wp2
  go_loop [2, 3, 8] (fun v2 v3 v8 => ∃ i : Nat, v8 = .int .i64 (i : Int) ∧ v2 = .int .u64 ((sumN (fr fs) i : Nat) : Int) ∧ v3 = .int .i64 ((usedC (fr fs) i : Nat) : Int) ∧ i ≤ n) (fun _ _ v8 => n - (intOf v8).toNat)
  case atStart => exact ⟨0, rfl, rfl, rfl, Nat.zero_le _⟩
  case round =>
    obtain ⟨i, rfl, rfl, rfl, hi⟩ := hrel
    have hsb : sumN (fr fs) i ≤ i * 4294967296 := sumN_le _ i _ (fun j _ => by have := fr_lt HH.out.2 j; omega)
    have hub := usedN_le (fr fs) i
    have hsI : ((sumN (fr fs) i : Nat) : Int) ≤ 1099511627776 := by omega
    have huI : ((usedC (fr fs) i : Nat) : Int) ≤ 256 := by omega
    by_cases hlt : i < n
    · have hix : i < fs.length := by have := HN.out; omega
      obtain rfl := HH.out.1.here hix
      have c0 := HH.out.1.fr HH.out.2 i hix
      have hfi := fr_lt HH.out.2 i
      have hltI : (i : Int) < (n : Int) := by omega
      have hfI : ((fr fs i : Nat) : Int) < 4294967296 := by omega
      have HS := (show Hid (sumN (fr fs) (i + 1) = sumN (fr fs) i + fr fs i ∧ usedC (fr fs) (i + 1) = usedC (fr fs) i + (if 0 < fr fs i then 1 else 0)) from ⟨rfl, rfl⟩)
      clear hsb hub
      generalize fr fs i = x at *
      generalize sumN (fr fs) i = si at *
      generalize usedC (fr fs) i = ui at *
      by_cases h0 : 0 < x
      · have h0I : 0 < (x : Int) := by omega
        go_wp2_with fail
        go_round
        case rel => exact ⟨i + 1, by go_num, by rw [HS.out.1]; go_num, by rw [HS.out.2, if_pos h0]; go_num, by omega⟩
        case measure => simp [intOf]; omega
      · have h0I : ¬ 0 < (x : Int) := by omega
        go_wp2_with fail
        go_round
        case rel => exact ⟨i + 1, by go_num, by rw [HS.out.1]; go_num, by rw [HS.out.2, if_neg h0]; go_num, by omega⟩
        case measure => simp [intOf]; omega
    · obtain rfl : i = n := by omega
      have hltI : ¬ (i : Int) < (i : Int) := by omega
      go_wp2
      go_ret2
      exact ⟨rfl, rfl⟩

/-- May freqs be given counts? -/
def ableF (fs : List Int) (log : Int) : Bool := decide (fs.length ≤ 256 ∧ 5 ≤ log ∧ log ≤ 12 ∧ 1 ≤ usedC (fr fs) fs.length ∧ usedC (fr fs) fs.length ≤ 2 ^ log.toNat)

end Go.Proofs.Ytkljidigmolmmaa
