/-
  Weights that make a code: what is told of them, and the last one: no program is named here.
  Descriptions that are read as the weights of which they were made.
  freqOf and sureCounts.
  Rows of numbers as functions of their places: exchanges, rotations, and what a merge that keeps the order of equals makes. No program is named here.
  slices.SortStableFunc's small parts: swapRangeCmpFunc and rotateCmpFunc at a row of numbers.
  slices.insertionSortCmpFunc at a row of numbers, by a comparison that reads alone.
  slices.symMergeCmpFunc, where one of the two parts is a single place.
-/
import Derived.BigQuiet
import Derived.Test.YtcoahkmiebeeeaaGreatDoorLitP4
import Derived.Test.YtcoahkmiebeeeaaGreatDoorLitP6
import Derived.Test.YtcoahkmiebeeeaaGreatDoorLitP8
import Derived.Test.YtcoahkmiebeeeaaGreatDoorLitP14
namespace Go.Proofs.YtcoahkmiebeeeaaGreatDoor
open Go.RowKit Go.Shelf
set_option linter.unusedVariables false

theorem sumT_app (M : List Nat) (x : Nat) (i : Nat) (h : i ≤ M.length) : sumW (M ++ [x]) i = sumW M i := by
  induction i with
  | zero => rfl
  | succ i ih => rw [sumW_succ, sumW_succ, ih (by omega), wt_app M x i (by omega)]
theorem onesT_app (M : List Nat) (x : Nat) (i : Nat) (h : i ≤ M.length) : onesW (M ++ [x]) i = onesW M i := by
  induction i with
  | zero => rfl
  | succ i ih => rw [onesW_succ, onesW_succ, ih (by omega), wt_app M x i (by omega)]
theorem wt_last (M : List Nat) (x : Nat) : wt (M ++ [x]) M.length = x := by unfold wt; simp
/-- What is told of a code. -/
structure Told (M : List Nat) (x m : Nat) : Prop where
  len1 : 1 ≤ M.length
  len : M.length ≤ 255
  le : ∀ i, i < M.length → wt M i ≤ 11
  ones : 1 ≤ onesW M M.length
  sum : sumW M M.length + 2 ^ (x - 1) = 2 ^ m
  m11 : m ≤ 11
  x1 : 1 ≤ x
  xm : x ≤ m
  code : codeB (M ++ [x]) = true
  last : lastW M = x
theorem IsCode.told {ws : List Nat} {m : Nat} (h : IsCode ws m) : ∃ M x, ws = M ++ [x] ∧ Told M x m := by
  have h2 := h.len2
  have hne : ws ≠ [] := by rintro rfl; simp at h2
  obtain ⟨M, x, hM⟩ : ∃ M x, ws = M ++ [x] := ⟨ws.dropLast, ws.getLast hne, (List.dropLast_concat_getLast hne).symm⟩
  subst hM
  have hl : (M ++ [x]).length = M.length + 1 := by simp
  have h1 := h.last
  have h3 := h.le
  have h4 := h.sum
  have h5 := h.ones
  have h6 := h.len
  rw [hl] at h1 h2 h3 h4 h5 h6
  rw [Nat.add_sub_cancel, wt_last] at h1
  rw [sumW_succ, sumT_app M x _ (Nat.le_refl _), wt_last, shN_pos x h1] at h4
  rw [onesW_succ, onesT_app M x _ (Nat.le_refl _)] at h5
  have h7 : 1 ≤ onesW M M.length := by split at h5 <;> omega
  have h8 := ones_le_sum M M.length
  have h9 : x - 1 < m := by
    rcases Nat.lt_or_ge (x - 1) m with h | h
    · exact h
    · have : 2 ^ m ≤ 2 ^ (x - 1) := Nat.pow_le_pow_right (by omega) h
      omega
  have h10 : 2 ^ (x - 1) ≤ 2 ^ (m - 1) := Nat.pow_le_pow_right (by omega) (by omega)
  have h11 : 2 ^ m = 2 * 2 ^ (m - 1) := by rw [Nat.mul_comm, ← Nat.pow_succ, show (m - 1).succ = m from by omega]
  have h12 : 0 < 2 ^ (x - 1) := Nat.two_pow_pos _
  have hlen : lenN (sumW M M.length) = m := by
    obtain ⟨k, rfl⟩ : ∃ k, m = k + 1 := ⟨m - 1, by omega⟩
    rw [Nat.add_sub_cancel] at h10 h11
    exact lenN_eq _ _ (by omega) (by omega)
  refine ⟨M, x, rfl, by omega, by omega, fun i hi => ?_, h7, h4, h.m11, by omega, by omega, h.codeB.1, ?_⟩
  · have := h3 i (by omega)
    rwa [wt_app M x i hi] at this
  · unfold lastW
    rw [hlen, show 2 ^ m - sumW M M.length = 2 ^ (x - 1) from by omega, lenN_pow]
    omega
theorem Told.read {M : List Nat} {x m : Nat} (h : Told M x m) : readOf (some M) = some (M ++ [x]) := by
  rw [← h.last]
  exact readOf_yes (by rw [h.last]; exact h.code)
theorem Told.lt {M : List Nat} {x m : Nat} (h : Told M x m) (j : Nat) : M[j]?.getD 0 < 256 := by
  by_cases hj : j < M.length
  · have := h.le j hj; unfold wt at this; omega
  · rw [List.getElem?_eq_none (by omega)]; simp
theorem Told.one {M : List Nat} {x m : Nat} (h : Told M x m) : ∃ i, i < M.length ∧ wt M i = 1 := by
  obtain ⟨i, h1, h2⟩ := sumN_pos (fun j => if wt M j = 1 then 1 else 0) _ h.ones
  refine ⟨i, h1, ?_⟩
  split at h2
  · assumption
  · omega
theorem Told.sum11 {M : List Nat} {x m : Nat} (h : Told M x m) : sumW M M.length < 2048 := by
  have h1 := h.sum
  have h2 : 0 < 2 ^ (x - 1) := Nat.two_pow_pos _
  have h3 : 2 ^ m ≤ 2 ^ 11 := Nat.pow_le_pow_right (by omega) h.m11
  omega

end Go.Proofs.YtcoahkmiebeeeaaGreatDoor

namespace Go.Proofs.YtcoahkmiebeeeaaGreatDoor
open Go.RowKit Go.Shelf
set_option linter.unusedVariables false

/-- A description of weights, whatever stands behind. -/
structure Desc (V ws : List Nat) : Prop where
  ne : V ≠ []
  len : V.length ≤ 129
  lt : ∀ j : Nat, V[j]?.getD 0 < 256
  read : ∀ (B : List Nat) (a : Option Addr) (cap gb off : Nat) (w : World), Bytes w a cap gb off (V ++ B) → Calls Tryz.prog 21 #[.slice a (V ++ B).length cap] w fun e w' => RAns 0 V.length ws w e w'
theorem take_front (V B : List Nat) : (V ++ B).take V.length = V := by simp
theorem first_front (V B : List Nat) (h : V ≠ []) : (V ++ B)[0]?.getD 0 = V[0]?.getD 0 := by
  rw [List.getElem?_append_left (List.length_pos_iff.2 h)]

theorem desc_fours {M : List Nat} {x m : Nat} (hT : Told M x m) (V : List Nat) (hl : M.length ≤ 128) (hV : V.length = 1 + (M.length + 1) / 2) (h0 : V[0]?.getD 0 = M.length + 127) (hlt : ∀ j : Nat, V[j]?.getD 0 < 256)
    (hm : (List.range M.length).map (fourW (V.drop 1)) = M) : Desc V (M ++ [x]) := by
  have h1 := hT.len1
  have hne : V ≠ [] := by rintro rfl; simp at hV; omega
  refine ⟨hne, by omega, hlt, fun B a cap gb off w hB => ?_⟩
  have hu : V.length = usedN ((V ++ B)[0]?.getD 0) := by rw [first_front V B hne, h0]; unfold usedN; rw [if_neg (by omega)]; omega
  have hs : V.length ≤ (V ++ B).length := by simp
  have hBt := (hB.take V.length hs).2
  have htf := take_front V B
  have hTl : Calls Tryz.prog 36 #[.slice a ((V ++ B).take V.length).length cap] w fun e w' => TellPost (some M) w e w' := by
    rw [htf] at hBt ⊢
    have := tell_fours a cap gb off V M.length w hBt hne h0 h1 (by omega)
    rw [hm] at this
    exact this
  have := read_told a cap gb off (V ++ B) V.length (some M) w hB (by simp [hne]) hu hs hTl (fun M' hM' => by cases hM'; exact ⟨hT.len, hT.lt⟩)
  rw [hT.read] at this
  exact this.mono fun e w' h => rans_of h

/-- Counts by whose states weights can be told. -/
structure Fit (M : List Nat) (xs : List Int) (l : Nat) : Prop where
  ok : okT xs (l : Int) = true
  i16 : I16 xs
  len : xs.length ≤ 12
  l6 : l ≤ 6
  has : ∀ i, i < M.length → wt M i < xs.length ∧ xs[wt M i]?.getD 0 ≠ 0
  two : ∀ s, s < xs.length → ∃ t, t ≠ s ∧ t < xs.length ∧ xs[t]?.getD 0 ≠ 0

theorem desc_states {M : List Nat} {x m : Nat} (hT : Told M x m) {xs : List Int} {l : Nat} (hF : Fit M xs l) {own other : Nat} {L : List (Fin 2)}
    (hL : Lay (symF xs (2 ^ l)) (fun i => bitF l (xF xs (2 ^ l) i)) (fun i => baseF l (xF xs (2 ^ l) i)) (2 ^ l) M own other L) (V : List Nat) (h : Nat)
    (hV : V = [h] ++ pack (alignL (dscAll xs l)) ++ pack (L ++ low other l ++ low own l ++ [1])) (hh : V.length = 1 + h) (h127 : h ≤ 127) (hlt : ∀ j : Nat, V[j]?.getD 0 < 256) : Desc V (M ++ [x]) := by
  have hne : V ≠ [] := by rintro rfl; simp at hh; omega
  have h0 : V[0]?.getD 0 = h := by rw [hV]; simp
  refine ⟨hne, by omega, hlt, fun B a cap gb off w hB => ?_⟩
  have hu : V.length = usedN ((V ++ B)[0]?.getD 0) := by rw [first_front V B hne, h0]; unfold usedN; rw [if_pos h127]; exact hh
  have hs : V.length ≤ (V ++ B).length := by simp
  have hBt := (hB.take V.length hs).2
  have htf := take_front V B
  have hd1 : V.drop 1 = pack (alignL (dscAll xs l)) ++ pack (L ++ low other l ++ low own l ++ [1]) := by rw [hV]; simp
  have hR := rdRel_laid hF.ok hF.l6 hF.len (laid_pack (dscAll xs l) (alignL (dscAll xs l)) _ (pack (L ++ low other l ++ low own l ++ [1])) rfl)
  have hTl : Calls Tryz.prog 36 #[.slice a ((V ++ B).take V.length).length cap] w fun e w' => TellPost (some M) w e w' := by
    rw [htf] at hBt ⊢
    refine (tell_states a cap gb off V w hBt hne (by omega) (by omega)).mono fun e w' hq => ?_
    obtain ⟨R, hR2, hq⟩ := hq
    rw [hd1] at hR2 hq
    rw [hR2.det hR] at hq
    have hdr : (pack (alignL (dscAll xs l)) ++ pack (L ++ low other l ++ low own l ++ [1])).drop (((dscAll xs l).length + 7) / 8) = pack (L ++ low other l ++ low own l ++ [1]) := by
      have e1 : (pack (alignL (dscAll xs l))).length = ((dscAll xs l).length + 7) / 8 := by
        rw [pack_length]
        unfold alignL
        rw [List.length_append, low_length]
        omega
      rw [← e1]
      simp
    have : tellT (pack (alignL (dscAll xs l)) ++ pack (L ++ low other l ++ low own l ++ [1])) (some (xs, l, ((dscAll xs l).length + 7) / 8)) = some M := by
      unfold tellT
      simp only []
      rw [hdr, if_neg (Tl.mark_ne _)]
      exact hL.told rfl hT.len
    rw [this] at hq
    exact hq
  have := read_told a cap gb off (V ++ B) V.length (some M) w hB (by simp [hne]) hu hs hTl (fun M' hM' => by cases hM'; exact ⟨hT.len, hT.lt⟩)
  rw [hT.read] at this
  exact this.mono fun e w' h => rans_of h

def sureL : List Int := [14, 8, 8, 8, 8, 8, 4, 2, 1, 1, 1, 1]
theorem sure_ok : okT sureL ((6 : Nat) : Int) = true := by decide +kernel
theorem sure_dsc : (pack (alignL (dscAll sureL 6))).length ≤ 8 := by decide +kernel
theorem sure_fit {M : List Nat} {x m : Nat} (hT : Told M x m) : Fit M sureL 6 := by
  have hall : ∀ s, s < 12 → sureL[s]?.getD 0 ≠ 0 := by decide
  refine ⟨sure_ok, ?_, by decide, by omega, fun i hi => ?_, fun s hs => ?_⟩
  · intro i
    by_cases hi : i < 12
    · revert i; decide
    · rw [List.getElem?_eq_none (by simp [sureL]; omega)]; simp
  · have := hT.le i hi
    exact ⟨by simp [sureL]; omega, hall _ (by omega)⟩
  · by_cases h0 : s = 0
    · exact ⟨1, by omega, by decide, by decide⟩
    · exact ⟨0, by omega, by decide, by decide⟩
def bdW (a : Nat) : Nat := if a ≤ 5 then 3 else if a = 6 then 4 else if a = 7 then 5 else 6
theorem bdW_sh (a : Nat) (h : a ≤ 11) : 32 * bdW a ≤ 96 + shN a := by
  revert a; decide
theorem lenN_mono {a b : Nat} (h : a ≤ b) (h0 : a ≠ 0) : lenN a ≤ lenN b := by
  have h1 := lenN_pos a h0
  have h2 := lenN_pos b (by omega)
  rcases Nat.lt_or_ge (lenN b) (lenN a) with h3 | h3
  · have : 2 ^ lenN b ≤ 2 ^ (lenN a - 1) := Nat.pow_le_pow_right (by omega) (by omega)
    omega
  · exact h3
theorem sure_bits (i : Nat) (hi : i < 2 ^ 6) : bitF 6 (xF sureL (2 ^ 6) i) ≤ bdW (symF sureL (2 ^ 6) i) := by
  have hTab := okT_tab sure_ok
  obtain ⟨c, h1, h2, h3, h4, h5⟩ := hTab.x i hi
  have h6 := (hTab.symF i hi).2.1
  have h7 : ∀ s, s < 12 → bitF 6 (shareN (sureL[s]?.getD 0)).toNat ≤ bdW s := by decide +kernel
  have h8 := h7 _ (show symF sureL (2 ^ 6) i < 12 from h6)
  rw [h1, Int.toNat_natCast] at h8
  have h9 := lenN_mono (a := c) (b := xF sureL (2 ^ 6) i) (by omega) (by omega)
  unfold bitF at h8 ⊢
  omega
theorem sure_short {M : List Nat} {x m : Nat} (hT : Told M x m) {own other : Nat} {L : List (Fin 2)}
    (hL : Lay (symF sureL (2 ^ 6)) (fun i => bitF 6 (xF sureL (2 ^ 6) i)) (fun i => baseF 6 (xF sureL (2 ^ 6) i)) (2 ^ 6) M own other L) :
    (pack (alignL (dscAll sureL 6))).length + (pack (L ++ low other 6 ++ low own 6 ++ [1])).length ≤ 127 := by
  have h1 := hL.bits (bd := bdW) sure_bits
  have h2 := costL_sum bdW M (fun a ha => by
    obtain ⟨j, hj, rfl⟩ := List.mem_iff_getElem.1 ha
    have := hT.le j hj
    unfold wt at this
    rw [List.getElem?_eq_getElem hj] at this
    exact bdW_sh _ this)
  have h3 := hT.sum11
  have h4 := hT.len
  have h5 := sure_dsc
  rw [pack_length (L ++ low other 6 ++ low own 6 ++ [1]), List.length_append, List.length_append, List.length_append, low_length, low_length]
  simp only [List.length_cons, List.length_nil]
  omega

end Go.Proofs.YtcoahkmiebeeeaaGreatDoor

namespace Go.Proofs.YtcoahkmiebeeeaaGreatDoor
open Go.RowKit Go.Shelf
set_option linter.unusedVariables false

def fqN (M : List Nat) (k s : Nat) : Nat := sumN (fun j => if wt M j = s then 1 else 0) k
theorem fqN_le (M : List Nat) (k s : Nat) : fqN M k s ≤ k := by
  have := sumN_le (fun j => if wt M j = s then 1 else 0) k 1 (fun j _ => by split <;> omega)
  unfold fqN; omega
theorem fqN_succ (M : List Nat) (k s : Nat) : fqN M (k + 1) s = fqN M k s + if wt M k = s then 1 else 0 := rfl
theorem fqN_pos (M : List Nat) (k i : Nat) (h : i < k) : 0 < fqN M k (wt M i) := by
  induction k with
  | zero => omega
  | succ k ih =>
    rw [fqN_succ]
    by_cases e : i = k
    · subst e; rw [if_pos rfl]; omega
    · have := ih (by omega); omega
def fqF (M : List Nat) (s : Nat) : Nat := if fqN M M.length 1 = M.length ∧ s = 0 then 1 else fqN M M.length s
def fqL (M : List Nat) : List Int := (List.range 12).map (fun s => ((fqF M s : Nat) : Int))
def fqA (f : Nat → Int) : Array Value := #[.int .u32 (f 0), .int .u32 (f 1), .int .u32 (f 2), .int .u32 (f 3), .int .u32 (f 4), .int .u32 (f 5), .int .u32 (f 6), .int .u32 (f 7), .int .u32 (f 8), .int .u32 (f 9), .int .u32 (f 10), .int .u32 (f 11)]

theorem results_cell {fn : Func} {a : Tmp} {t : TypeId} (h : fn.results = #[.cell a t]) (tmps : Array Value) (P : Program) (w : World) (p : Addr) (v : Value) (ha : tmps[a]?.getD undef = .pointer (some p)) (hv : (loadVar t p).run P w = .ok v w) :
    (results fn tmps).run P w = .ok v w := by
  simp [results, h, ha, asAddr, hv]
theorem agg141 : ∀ w, (isAgg 172).run Tryz.prog w = .ok true w := by intro w; kernel_rfl
theorem size141 : ∀ w, (Go.sizeOf 172).run Tryz.prog w = .ok 12 w := by intro w; kernel_rfl
theorem loadVar141 {w : World} {b : Nat} {f : Nat → Int} (h : IsA w b 172 .u32 12 f) : (loadVar 172 ⟨b, 0, none⟩).run Tryz.prog w = .ok (.agg (fqA f)) w := by
  have hl := run_loadCellsFrom (P := Tryz.prog) w ⟨b, 0, none⟩ (fun l => Value.int .u32 (f l)) 12 0 #[] (fun j hj => by rw [Nat.zero_add, add0]; exact h.cell j hj)
  simp only [loadVar, Sem.run_bind, agg141, Result.andThen, if_true, size141, loadCells]
  rw [hl]
  rfl
def setAll (w : World) (b : Nat) (f : Nat → Int) : Nat → World
  | 0 => w
  | k + 1 => (setAll w b f k).setCell ⟨b, k, none⟩ (.int .u32 (f k))
theorem setAll_is {w : World} {b : Nat} {f : Nat → Int} (h : IsA w b 172 .u32 12 f) (k : Nat) : IsA (setAll w b f k) b 172 .u32 12 f := by
  induction k with
  | zero => exact h
  | succ k ih => exact (ih.set k (f k)).congr (fun i _ => by by_cases e : i = k <;> simp [e])
theorem setAll_keep {w V : World} {b : Nat} (f : Nat → Int) (h : Keep noBlock V w) (hb : V.heap.size ≤ b) (k : Nat) : Keep noBlock V (setAll w b f k) := by
  induction k with
  | zero => exact h
  | succ k ih => exact ih.setCell (p := ⟨b, k, none⟩) (fun h => by dsimp only at h; omega) _

set_option maxRecDepth 100000 in
set_option maxHeartbeats 2000000 in
theorem freqOf_any (a : Option Addr) (cap gb off : Nat) (M : List Nat) (w : World) (hB : Bytes w a cap gb off M) (hl : M.length ≤ 255) (hle : ∀ i, i < M.length → wt M i ≤ 11) :
    Calls Tryz.prog 92 #[.slice a M.length cap] w fun e w' => e = .returned (.agg (fqA (fun s => ((fqF M s : Nat) : Int)))) ∧ Keep noBlock w w' := by
  have HB := (show Hid (Bytes w a cap gb off M ∧ ∀ i, i < M.length → wt M i ≤ 11) from ⟨hB, hle⟩)
  obtain ⟨n, hn⟩ : ∃ n, n = M.length := ⟨_, rfl⟩
  have HN := (show Hid (n = M.length) from hn)
  rw [← hn] at hl ⊢
  have hnI : (n : Int) ≤ 255 := by omega
  obtain ⟨tb, htb⟩ : ∃ tb, tb = w.heap.size := ⟨_, rfl⟩
  have HT := (show Hid (tb = w.heap.size) from htb)
  clear hB hle hn
  have HA := (show Hid (IsA (w.alloc (.cells (List.replicate 12 (Value.int .u32 0)).toArray 172)) tb 172 .u32 12 (fun s => ((fqN M 0 s : Nat) : Int)) ∧ Keep noBlock w (w.alloc (.cells (List.replicate 12 (Value.int .u32 0)).toArray 172))) from by
    rw [htb]
    exact ⟨(isA_zeros w 172 .u32 12).congr (fun _ _ => rfl), (Keep.refl _ w).alloc _⟩)
  go_enter Tryz.func92, Tryz.ntmps92
  go_wp2
  rw [← htb]
  clear htb
  go_loopw [7] (fun v7 wr => ∃ i : Nat, v7 = .int .i64 (i : Int) ∧ i ≤ n ∧ Hid (IsA wr tb 172 .u32 12 (fun s => ((fqN M i s : Nat) : Int)) ∧ Keep noBlock w wr)) (fun v7 _ => n - (intOf v7).toNat)
  case atStart => exact ⟨0, rfl, Nat.zero_le _, HA.out⟩
  case round =>
    clear HA
    obtain ⟨i, rfl, hi, HC⟩ := hrel
    by_cases hlt : i < n
    · have hltI : (i : Int) < (n : Int) := by omega
      have hix : i < M.length := by have := HN.out; omega
      obtain ⟨hA, hK⟩ := HC.out
      obtain rfl := HB.out.1.here hix
      have c1 := (HB.out.1.keep hK (fun _ h => h)).cells i hix
      have hx11 := HB.out.2 i hix
      have hxw : wt M i = M[i]?.getD 0 := rfl
      obtain ⟨x, hx⟩ : ∃ x, x = M[i]?.getD 0 := ⟨_, rfl⟩
      rw [← hx] at c1 hxw
      rw [hxw] at hx11
      have hxI : (x : Int) ≤ 11 := by omega
      have c2 := hA.cell x (by omega)
      have f2 := hA.frozen x
      have hqle := fqN_le M i x
      have hset := hA.set x ((fqN M i x + 1 : Nat) : Int)
      have HE := (show Hid (IsA (wr.setCell ⟨tb, x, none⟩ (.int .u32 ((fqN M i x + 1 : Nat) : Int))) tb 172 .u32 12 (fun s => ((fqN M (i + 1) s : Nat) : Int)) ∧ Keep noBlock w (wr.setCell ⟨tb, x, none⟩ (.int .u32 ((fqN M i x + 1 : Nat) : Int)))) from by
        refine ⟨hset.congr (fun s _ => ?_), hK.setCell (p := ⟨tb, x, none⟩) (fun h => by dsimp only at h; have := HT.out; omega) _⟩
        rw [fqN_succ, hxw]
        by_cases e : s = x
        · rw [if_pos e, if_pos e.symm, e]
        · rw [if_neg e, if_neg (fun q => e q.symm)]; rfl)
      obtain ⟨q, hq⟩ : ∃ q, q = fqN M i x := ⟨_, rfl⟩
      rw [← hq] at c2 HE hqle
      obtain ⟨q1, hq1⟩ : ∃ q1, q1 = q + 1 := ⟨_, rfl⟩
      rw [← hq1] at HE
      have hq1I : (q : Int) + 1 = (q1 : Int) := by omega
      have hq1b : (q1 : Int) ≤ 256 := by omega
      clear hA hK hset HC hx hq hqle hxw hx11 hix hq1
      go_wp2
      go_roundw
      case rel => exact ⟨i + 1, by go_num, by omega, HE.out⟩
      case measure => simp [intOf]; omega
    · obtain rfl : i = n := by omega
      have hltI : ¬ (i : Int) < (i : Int) := by omega
      obtain ⟨hA, hK⟩ := HC.out
      have c0 := hA.cell 0 (by omega)
      have f0 := hA.frozen 0
      have c1 := hA.cell 1 (by omega)
      have f1 := hA.frozen 1
      have c2 := hA.cell 2 (by omega)
      have f2 := hA.frozen 2
      have c3 := hA.cell 3 (by omega)
      have f3 := hA.frozen 3
      have c4 := hA.cell 4 (by omega)
      have f4 := hA.frozen 4
      have c5 := hA.cell 5 (by omega)
      have f5 := hA.frozen 5
      have c6 := hA.cell 6 (by omega)
      have f6 := hA.frozen 6
      have c7 := hA.cell 7 (by omega)
      have f7 := hA.frozen 7
      have c8 := hA.cell 8 (by omega)
      have f8 := hA.frozen 8
      have c9 := hA.cell 9 (by omega)
      have f9 := hA.frozen 9
      have c10 := hA.cell 10 (by omega)
      have f10 := hA.frozen 10
      have c11 := hA.cell 11 (by omega)
      have f11 := hA.frozen 11
      have hqle := fqN_le M i 1
      have HA := (show Hid (IsA wr tb 172 .u32 12 (fun s => ((fqN M i s : Nat) : Int)) ∧ Keep noBlock w wr) from ⟨hA, hK⟩)
      clear hA hK HC
      obtain ⟨g0, hg0⟩ : ∃ g, g = fqN M i 0 := ⟨_, rfl⟩
      rw [← hg0] at c0
      obtain ⟨g1, hg1⟩ : ∃ g, g = fqN M i 1 := ⟨_, rfl⟩
      rw [← hg1] at c1
      obtain ⟨g2, hg2⟩ : ∃ g, g = fqN M i 2 := ⟨_, rfl⟩
      rw [← hg2] at c2
      obtain ⟨g3, hg3⟩ : ∃ g, g = fqN M i 3 := ⟨_, rfl⟩
      rw [← hg3] at c3
      obtain ⟨g4, hg4⟩ : ∃ g, g = fqN M i 4 := ⟨_, rfl⟩
      rw [← hg4] at c4
      obtain ⟨g5, hg5⟩ : ∃ g, g = fqN M i 5 := ⟨_, rfl⟩
      rw [← hg5] at c5
      obtain ⟨g6, hg6⟩ : ∃ g, g = fqN M i 6 := ⟨_, rfl⟩
      rw [← hg6] at c6
      obtain ⟨g7, hg7⟩ : ∃ g, g = fqN M i 7 := ⟨_, rfl⟩
      rw [← hg7] at c7
      obtain ⟨g8, hg8⟩ : ∃ g, g = fqN M i 8 := ⟨_, rfl⟩
      rw [← hg8] at c8
      obtain ⟨g9, hg9⟩ : ∃ g, g = fqN M i 9 := ⟨_, rfl⟩
      rw [← hg9] at c9
      obtain ⟨g10, hg10⟩ : ∃ g, g = fqN M i 10 := ⟨_, rfl⟩
      rw [← hg10] at c10
      obtain ⟨g11, hg11⟩ : ∃ g, g = fqN M i 11 := ⟨_, rfl⟩
      rw [← hg11] at c11
      rw [← hg1] at hqle
      have HG := (show Hid (g0 = fqN M i 0 ∧ g1 = fqN M i 1) from ⟨hg0, hg1⟩)
      have hq2 : (g1 : Int) ≤ 255 := by omega
      have HF := (show Hid (∀ s, fqN M i s = [g0, g1, g2, g3, g4, g5, g6, g7, g8, g9, g10, g11][s]?.getD 0 ∨ 12 ≤ s) from fun s => by
        by_cases hs : s < 12
        · left
          rcases (show s = 0 ∨ s = 1 ∨ s = 2 ∨ s = 3 ∨ s = 4 ∨ s = 5 ∨ s = 6 ∨ s = 7 ∨ s = 8 ∨ s = 9 ∨ s = 10 ∨ s = 11 by omega) with rfl | rfl | rfl | rfl | rfl | rfl | rfl | rfl | rfl | rfl | rfl | rfl <;> simp [*]
        · right; omega)
      clear hg0 hg1 hg2 hg3 hg4 hg5 hg6 hg7 hg8 hg9 hg10 hg11
      by_cases hall : g1 = i
      · have hallB : ((g1 : Int) == (i : Int)) = true := by rw [beq_iff_eq]; omega
        have HAL := (show Hid (g1 = i) from hall)
        clear hall
        go_wp2
        obtain ⟨hA, hK⟩ := HA.out
        have hfF : ∀ s, s < 12 → fqF M s = if s = 0 then 1 else fqN M i s := fun s _ => by
          unfold fqF
          rw [← HN.out]
          by_cases e : s = 0
          · rw [if_pos ⟨by rw [← HG.out.2]; exact HAL.out, e⟩, if_pos e]
          · rw [if_neg (fun q => e q.2), if_neg e]
        have hA2 : IsA (wr.setCell ⟨tb, 0, none⟩ (.int .u32 1)) tb 172 .u32 12 (fun s => ((fqF M s : Nat) : Int)) := (hA.set 0 1).congr (fun s hs => by
          rw [hfF s hs]
          by_cases e : s = 0
          · rw [if_pos e, if_pos e]; rfl
          · rw [if_neg e, if_neg e])
        have hK2 : Keep noBlock w (wr.setCell ⟨tb, 0, none⟩ (.int .u32 1)) := hK.setCell (p := ⟨tb, 0, none⟩) (fun h => by dsimp only at h; have := HT.out; omega) _
        have hS := setAll_is hA2 12
        have hSK := setAll_keep (b := tb) (fun s => ((fqF M s : Nat) : Int)) hK2 (by have := HT.out; omega) 12
        have hg : ∀ s, s < 12 → fqF M s = [1, g1, g2, g3, g4, g5, g6, g7, g8, g9, g10, g11][s]?.getD 0 := fun s hs => by
          rw [hfF s hs]
          by_cases e : s = 0
          · rw [if_pos e, e]; rfl
          · rw [if_neg e]
            rcases HF.out s with q | q
            · rw [q]
              obtain ⟨t, rfl⟩ : ∃ t, s = t + 1 := ⟨s - 1, by omega⟩
              rfl
            · omega
        have e0 : ((fqF M 0 : Nat) : Int) = 1 := by rw [hg 0 (by omega)]; rfl
        have e1 : fqF M 1 = g1 := hg 1 (by omega)
        have e2 : fqF M 2 = g2 := hg 2 (by omega)
        have e3 : fqF M 3 = g3 := hg 3 (by omega)
        have e4 : fqF M 4 = g4 := hg 4 (by omega)
        have e5 : fqF M 5 = g5 := hg 5 (by omega)
        have e6 : fqF M 6 = g6 := hg 6 (by omega)
        have e7 : fqF M 7 = g7 := hg 7 (by omega)
        have e8 : fqF M 8 = g8 := hg 8 (by omega)
        have e9 : fqF M 9 = g9 := hg 9 (by omega)
        have e10 : fqF M 10 = g10 := hg 10 (by omega)
        have e11 : fqF M 11 = g11 := hg 11 (by omega)
        simp only [setAll, e0, e1, e2, e3, e4, e5, e6, e7, e8, e9, e10, e11] at hS hSK
        exact bodyPost_ret (results_cell rfl _ _ _ ⟨tb, 0, none⟩ (.agg (fqA (fun s => ((fqF M s : Nat) : Int)))) rfl (loadVar141 hS)) rfl ⟨rfl, hSK⟩
      · have hallB : ((g1 : Int) == (i : Int)) = false := by rw [beq_eq_false_iff_ne]; omega
        have HAL := (show Hid (¬ g1 = i) from hall)
        clear hall
        go_wp2
        obtain ⟨hA, hK⟩ := HA.out
        have hfF : ∀ s, s < 12 → fqF M s = fqN M i s := fun s _ => by
          unfold fqF
          rw [← HN.out, if_neg (fun q => HAL.out (by rw [HG.out.2]; exact q.1))]
        have hA2 : IsA wr tb 172 .u32 12 (fun s => ((fqF M s : Nat) : Int)) := hA.congr (fun s hs => by rw [hfF s hs])
        have hS := setAll_is hA2 12
        have hSK := setAll_keep (b := tb) (fun s => ((fqF M s : Nat) : Int)) hK (by have := HT.out; omega) 12
        have hg : ∀ s, s < 12 → fqF M s = [g0, g1, g2, g3, g4, g5, g6, g7, g8, g9, g10, g11][s]?.getD 0 := fun s hs => by
          rw [hfF s hs]
          rcases HF.out s with q | q
          · exact q
          · omega
        have e0 : ((fqF M 0 : Nat) : Int) = (g0 : Int) := by rw [hg 0 (by omega)]; rfl
        have e1 : fqF M 1 = g1 := hg 1 (by omega)
        have e2 : fqF M 2 = g2 := hg 2 (by omega)
        have e3 : fqF M 3 = g3 := hg 3 (by omega)
        have e4 : fqF M 4 = g4 := hg 4 (by omega)
        have e5 : fqF M 5 = g5 := hg 5 (by omega)
        have e6 : fqF M 6 = g6 := hg 6 (by omega)
        have e7 : fqF M 7 = g7 := hg 7 (by omega)
        have e8 : fqF M 8 = g8 := hg 8 (by omega)
        have e9 : fqF M 9 = g9 := hg 9 (by omega)
        have e10 : fqF M 10 = g10 := hg 10 (by omega)
        have e11 : fqF M 11 = g11 := hg 11 (by omega)
        simp only [setAll, e0, e1, e2, e3, e4, e5, e6, e7, e8, e9, e10, e11] at hS hSK
        exact bodyPost_ret (results_cell rfl _ _ _ ⟨tb, 0, none⟩ (.agg (fqA (fun s => ((fqF M s : Nat) : Int)))) rfl (loadVar141 hS)) rfl ⟨rfl, hSK⟩

theorem sureCounts_any (w : World) : Calls Tryz.prog 94 #[] w fun e w' => ∃ g, e = .returned (.slice (some ⟨g, 0, none⟩) sureL.length sureL.length) ∧ w.heap.size ≤ g ∧ RowI w' .i16 (some ⟨g, 0, none⟩) sureL.length g 0 sureL ∧ Keep noBlock w w' := by
  go_enter Tryz.func94, Tryz.ntmps94
  go_wp2
  go_ret
  refine ⟨w.heap.size, rfl, Nat.le_refl _, ⟨.inl rfl, (fun e => by cases e), fun j hj => ?_, Nat.le_refl _⟩, (Keep.refl _ w).alloc _⟩
  rw [Nat.zero_add]
  have h1 := World.alloc_heap_new w (.cells (i16s sureL).toArray 184)
  rw [← i16s_at sureL j hj, ← List.getElem?_toArray]
  exact cell_of h1 j

end Go.Proofs.YtcoahkmiebeeeaaGreatDoor

namespace Go.Proofs.YtcoahkmiebeeeaaGreatDoor.C5

def swapF (f : Nat → Nat) (i j : Nat) : Nat → Nat := fun k => if k = i then f j else if k = j then f i else f k

def PermOn (a b : Nat) (f g : Nat → Nat) : Prop :=
  ∃ s t : Nat → Nat, (∀ k, g k = f (s k)) ∧ (∀ k, s (t k) = k) ∧ (∀ k, t (s k) = k) ∧ ∀ k, ¬ (a ≤ k ∧ k < b) → s k = k

theorem PermOn.refl (a b : Nat) (f : Nat → Nat) : PermOn a b f f := ⟨id, id, fun _ => rfl, fun _ => rfl, fun _ => rfl, fun _ _ => rfl⟩
theorem PermOn.trans {a b : Nat} {f g h : Nat → Nat} (p : PermOn a b f g) (q : PermOn a b g h) : PermOn a b f h := by
  obtain ⟨s, t, p1, p2, p3, p4⟩ := p
  obtain ⟨s', t', q1, q2, q3, q4⟩ := q
  refine ⟨fun k => s (s' k), fun k => t' (t k), fun k => by rw [q1, p1], fun k => by show s (s' (t' (t k))) = k; rw [q2, p2], fun k => by show t' (t (s (s' k))) = k; rw [p3, q3], fun k hk => ?_⟩
  show s (s' k) = k
  rw [q4 k hk, p4 k hk]
theorem PermOn.mono {a b a' b' : Nat} {f g : Nat → Nat} (p : PermOn a b f g) (ha : a' ≤ a) (hb : b ≤ b') : PermOn a' b' f g := by
  obtain ⟨s, t, p1, p2, p3, p4⟩ := p
  exact ⟨s, t, p1, p2, p3, fun k hk => p4 k (fun h => hk ⟨by omega, by omega⟩)⟩
theorem PermOn.out {a b : Nat} {f g : Nat → Nat} (p : PermOn a b f g) (k : Nat) (hk : ¬ (a ≤ k ∧ k < b)) : g k = f k := by
  obtain ⟨s, t, p1, _, _, p4⟩ := p
  rw [p1, p4 k hk]
theorem PermOn.inn {a b : Nat} {f g : Nat → Nat} (p : PermOn a b f g) (k : Nat) (ha : a ≤ k) (hb : k < b) : ∃ i, a ≤ i ∧ i < b ∧ g k = f i := by
  obtain ⟨s, t, p1, p2, p3, p4⟩ := p
  by_cases h : a ≤ s k ∧ s k < b
  · exact ⟨s k, h.1, h.2, p1 k⟩
  · have e := p4 (s k) h
    have e2 := congrArg t e
    rw [p3, p3] at e2
    rw [e2] at h
    exact absurd ⟨ha, hb⟩ h
theorem PermOn.swap {a b : Nat} (f : Nat → Nat) (i j : Nat) (h1 : a ≤ i) (h2 : i < b) (h3 : a ≤ j) (h4 : j < b) : PermOn a b f (swapF f i j) := by
  have inv : ∀ k : Nat, (if (if k = i then j else if k = j then i else k) = i then j else if (if k = i then j else if k = j then i else k) = j then i else (if k = i then j else if k = j then i else k)) = k := by
    intro k
    by_cases e1 : k = i
    · by_cases e3 : j = i
      · simp [e1, e3]
      · simp [e1, e3]
    · by_cases e2 : k = j
      · simp [e2, show ¬ j = i from fun h => e1 (by omega)]
      · simp [e1, e2]
  refine ⟨fun k => if k = i then j else if k = j then i else k, fun k => if k = i then j else if k = j then i else k, fun k => ?_, inv, inv, fun k hk => ?_⟩
  · unfold swapF; dsimp only; split
    · rfl
    · split <;> rfl
  · dsimp only
    rw [if_neg (by omega), if_neg (by omega)]

def swapR (a b n : Nat) (f : Nat → Nat) : Nat → Nat := fun k => if a ≤ k ∧ k < a + n then f (k - a + b) else if b ≤ k ∧ k < b + n then f (k - b + a) else f k
def rot (a m b : Nat) (f : Nat → Nat) : Nat → Nat := fun k => if k < a then f k else if k < a + (b - m) then f (k - a + m) else if k < b then f (k - (b - m)) else f k

theorem swapR_zero (a b : Nat) (f : Nat → Nat) : swapR a b 0 f = f := by
  funext k; unfold swapR; rw [if_neg (by omega), if_neg (by omega)]
theorem swapR_succ (a b n : Nat) (f : Nat → Nat) (h : a + n < b) : swapF (swapR a b n f) (a + n) (b + n) = swapR a b (n + 1) f := by
  funext k
  unfold swapF swapR
  repeat' split
  all_goals first | omega | rfl | (congr 1; omega)
theorem swapR_perm (a b n lo hi : Nat) (f : Nat → Nat) (h : a + n ≤ b) (h1 : lo ≤ a) (h2 : b + n ≤ hi) : PermOn lo hi f (swapR a b n f) := by
  have inv : ∀ k : Nat, (fun k => if a ≤ k ∧ k < a + n then k - a + b else if b ≤ k ∧ k < b + n then k - b + a else k) ((fun k => if a ≤ k ∧ k < a + n then k - a + b else if b ≤ k ∧ k < b + n then k - b + a else k) k) = k := by
    intro k
    dsimp only
    repeat' split
    all_goals omega
  refine ⟨fun k => if a ≤ k ∧ k < a + n then k - a + b else if b ≤ k ∧ k < b + n then k - b + a else k, fun k => if a ≤ k ∧ k < a + n then k - a + b else if b ≤ k ∧ k < b + n then k - b + a else k, fun k => ?_, inv, inv, fun k hk => ?_⟩
  · unfold swapR
    dsimp only
    by_cases e1 : a ≤ k ∧ k < a + n
    · rw [if_pos e1, if_pos e1]
    · rw [if_neg e1, if_neg e1]
      by_cases e2 : b ≤ k ∧ k < b + n
      · rw [if_pos e2, if_pos e2]
      · rw [if_neg e2, if_neg e2]
  · dsimp only
    rw [if_neg (by omega), if_neg (by omega)]
theorem rot_left (m i j : Nat) (f : Nat → Nat) (h : j < i) (him : i ≤ m) : rot (m - i + j) m (m + j) (swapR (m - i) m j f) = rot (m - i) m (m + j) f := by
  funext k
  unfold rot swapR
  repeat' split
  all_goals first | omega | rfl | (congr 1; omega)
theorem rot_right (m i j : Nat) (f : Nat → Nat) (h : i < j) (him : i ≤ m) : rot (m - i) m (m + (j - i)) (swapR (m - i) (m + j - i) i f) = rot (m - i) m (m + j) f := by
  funext k
  unfold rot swapR
  repeat' split
  all_goals first | omega | rfl | (congr 1; omega)
theorem rot_same (m i : Nat) (f : Nat → Nat) (him : i ≤ m) : swapR (m - i) m i f = rot (m - i) m (m + i) f := by
  funext k
  unfold rot swapR
  repeat' split
  all_goals first | omega | rfl | (congr 1; omega)

def Lx (K : Nat → Nat) (x y : Nat) : Prop := K x < K y ∨ (K x = K y ∧ x < y)
theorem Lx.trans {K : Nat → Nat} {x y z : Nat} (h : Lx K x y) (k : Lx K y z) : Lx K x z := by unfold Lx at *; omega
theorem Lx.of_not {K : Nat → Nat} {x y : Nat} (h : x < y) (k : ¬ K y < K x) : Lx K x y := by unfold Lx; omega
theorem Lx.irrefl {K : Nat → Nat} {x : Nat} (h : Lx K x x) : False := by unfold Lx at h; omega

def SortedOn (K f : Nat → Nat) (a b : Nat) : Prop := ∀ i j, a ≤ i → i < j → j < b → Lx K (f i) (f j)
def Ahead (f : Nat → Nat) (a m b : Nat) : Prop := ∀ i j, a ≤ i → i < m → m ≤ j → j < b → f i < f j

theorem SortedOn.one (K f : Nat → Nat) (a b : Nat) (h : b ≤ a + 1) : SortedOn K f a b := fun i j h1 h2 h3 => by omega
theorem SortedOn.le {K f : Nat → Nat} {a b : Nat} (h : SortedOn K f a b) {i j : Nat} (h1 : a ≤ i) (h2 : i ≤ j) (h3 : j < b) {z : Nat} (hz : Lx K (f j) z) : Lx K (f i) z := by
  rcases Nat.lt_or_ge i j with e | e
  · exact (h i j h1 e h3).trans hz
  · obtain rfl : i = j := by omega
    exact hz
theorem SortedOn.ge {K f : Nat → Nat} {a b : Nat} (h : SortedOn K f a b) {i j : Nat} (h1 : a ≤ i) (h2 : i ≤ j) (h3 : j < b) {z : Nat} (hz : Lx K z (f i)) : Lx K z (f j) := by
  rcases Nat.lt_or_ge i j with e | e
  · exact hz.trans (h i j h1 e h3)
  · obtain rfl : i = j := by omega
    exact hz
theorem SortedOn.sub {K f : Nat → Nat} {a b a' b' : Nat} (h : SortedOn K f a b) (ha : a ≤ a') (hb : b' ≤ b) : SortedOn K f a' b' := fun i j h1 h2 h3 => h i j (by omega) h2 (by omega)

def Merged (K : Nat → Nat) (a b : Nat) (f g : Nat → Nat) : Prop := PermOn a b f g ∧ SortedOn K g a b

theorem split_halves (K f : Nat → Nat) (a m b mid s e : Nat) (hL : SortedOn K f a m) (hR : SortedOn K f m b) (hA : Ahead f a m b) (h1 : a ≤ s) (h2 : s ≤ m) (h3 : m ≤ e) (h4 : e ≤ b) (h5 : s + e = mid + m)
    (c1 : s = a ∨ e = b ∨ Lx K (f (s - 1)) (f e)) (c2 : s = m ∨ e = m ∨ Lx K (f (e - 1)) (f s)) :
    SortedOn K (rot s m e f) a s ∧ SortedOn K (rot s m e f) s mid ∧ Ahead (rot s m e f) a s mid ∧ SortedOn K (rot s m e f) mid e ∧ SortedOn K (rot s m e f) e b ∧ Ahead (rot s m e f) mid e b ∧
    ∀ i j, a ≤ i → i < mid → mid ≤ j → j < b → Lx K (rot s m e f i) (rot s m e f j) := by
  have r1 : ∀ k, k < s → rot s m e f k = f k := fun k hk => by unfold rot; rw [if_pos hk]
  have r2 : ∀ k, s ≤ k → k < mid → rot s m e f k = f (k - s + m) := fun k h h' => by unfold rot; rw [if_neg (by omega), if_pos (by omega)]
  have r3 : ∀ k, mid ≤ k → k < e → rot s m e f k = f (k - (e - m)) := fun k h h' => by unfold rot; rw [if_neg (by omega), if_neg (by omega), if_pos h']
  have r4 : ∀ k, e ≤ k → rot s m e f k = f k := fun k h => by unfold rot; rw [if_neg (by omega), if_neg (by omega), if_neg (by omega)]
  refine ⟨fun i j x y z => ?_, fun i j x y z => ?_, fun i j x y z u => ?_, fun i j x y z => ?_, fun i j x y z => ?_, fun i j x y z u => ?_, fun i j x y z u => ?_⟩
  · rw [r1 i (by omega), r1 j (by omega)]; exact hL i j x y (by omega)
  · rw [r2 i x (by omega), r2 j (by omega) z]; exact hR _ _ (by omega) (by omega) (by omega)
  · rw [r1 i y, r2 j z u]; exact hA _ _ x (by omega) (by omega) (by omega)
  · rw [r3 i x (by omega), r3 j (by omega) z]; exact hL _ _ (by omega) (by omega) (by omega)
  · rw [r4 i x, r4 j (by omega)]; exact hR _ _ (by omega) y z
  · rw [r3 i x y, r4 j z]; exact hA _ _ (by omega) (by omega) (by omega) u
  · by_cases p : i < s
    · rw [r1 i p]
      by_cases q : j < e
      · rw [r3 j z q]; exact hL _ _ x (by omega) (by omega)
      · rw [r4 j (by omega)]
        rcases c1 with c | c | c
        · omega
        · omega
        · exact hL.le x (show i ≤ s - 1 by omega) (by omega) (hR.ge (show m ≤ e by omega) (by omega) u c)
    · rw [r2 i (by omega) y]
      by_cases q : j < e
      · rw [r3 j z q]
        rcases c2 with c | c | c
        · omega
        · omega
        · exact hR.le (show m ≤ i - s + m by omega) (show i - s + m ≤ e - 1 by omega) (by omega) (hL.ge (show a ≤ s by omega) (by omega) (by omega) c)
      · rw [r4 j (by omega)]; exact hR _ _ (by omega) (by omega) u

theorem merge_halves (K f f1 f2 f3 : Nat → Nat) (a mid b : Nat) (ha : a ≤ mid) (hb : mid ≤ b) (h1 : PermOn a b f f1) (hx : ∀ i j, a ≤ i → i < mid → mid ≤ j → j < b → Lx K (f1 i) (f1 j)) (h2 : Merged K a mid f1 f2) (h3 : Merged K mid b f2 f3) : Merged K a b f f3 := by
  refine ⟨(h1.trans (h2.1.mono (Nat.le_refl _) hb)).trans (h3.1.mono ha (Nat.le_refl _)), fun i j x y z => ?_⟩
  by_cases p : j < mid
  · rw [h3.1.out i (by omega), h3.1.out j (by omega)]; exact h2.2 i j x y p
  · by_cases q : mid ≤ i
    · exact h3.2 i j q y z
    · rw [h3.1.out i (by omega)]
      obtain ⟨i', u1, u2, u3⟩ := h2.1.inn i x (by omega)
      obtain ⟨j', v1, v2, v3⟩ := h3.1.inn j (by omega) z
      rw [u3, v3, h2.1.out j' (by omega)]
      exact hx i' j' u1 u2 v1 v2
theorem merged_nil (K f : Nat → Nat) (a s mid : Nat) (h1 : SortedOn K f a s) (h2 : SortedOn K f s mid) (h : ¬ (a < s ∧ s < mid)) : Merged K a mid f f := by
  refine ⟨PermOn.refl _ _ _, fun i j x y z => ?_⟩
  by_cases p : a < s
  · exact h1 i j x y (by omega)
  · exact h2 i j (by omega) y z

theorem one_left (K f : Nat → Nat) (a i b : Nat) (hR : SortedOn K f (a + 1) b) (h1 : a + 1 ≤ i) (h2 : i ≤ b) (hlt : ∀ k, a + 1 ≤ k → k < i → Lx K (f k) (f a)) (hge : ∀ k, i ≤ k → k < b → Lx K (f a) (f k)) : SortedOn K (rot a (a + 1) i f) a b := by
  have r2 : ∀ k, a ≤ k → k + 1 < i → rot a (a + 1) i f k = f (k + 1) := fun k h h' => by unfold rot; rw [if_neg (by omega), if_pos (by omega)]; congr 1; omega
  have r3 : rot a (a + 1) i f (i - 1) = f a := by unfold rot; rw [if_neg (by omega), if_neg (by omega), if_pos (by omega)]; congr 1; omega
  have r4 : ∀ k, i ≤ k → rot a (a + 1) i f k = f k := fun k h => by unfold rot; rw [if_neg (by omega), if_neg (by omega), if_neg (by omega)]
  intro x y hx hxy hy
  by_cases p : x + 1 < i
  · rw [r2 x hx p]
    by_cases q : y + 1 < i
    · rw [r2 y (by omega) q]; exact hR _ _ (by omega) (by omega) (by omega)
    · by_cases q2 : y = i - 1
      · rw [q2, r3]; exact hlt _ (by omega) (by omega)
      · rw [r4 y (by omega)]; exact hR _ _ (by omega) (by omega) hy
  · by_cases p2 : x = i - 1
    · rw [p2, r3, r4 y (by omega)]; exact hge _ (by omega) hy
    · rw [r4 x (by omega), r4 y (by omega)]; exact hR _ _ (by omega) hxy hy
theorem one_right (K f : Nat → Nat) (a i m : Nat) (hL : SortedOn K f a m) (h1 : a ≤ i) (h2 : i ≤ m) (hlt : ∀ k, a ≤ k → k < i → Lx K (f k) (f m)) (hge : ∀ k, i ≤ k → k < m → Lx K (f m) (f k)) : SortedOn K (rot i m (m + 1) f) a (m + 1) := by
  have r1 : ∀ k, k < i → rot i m (m + 1) f k = f k := fun k h => by unfold rot; rw [if_pos h]
  have r2 : rot i m (m + 1) f i = f m := by unfold rot; rw [if_neg (by omega), if_pos (by omega)]; congr 1; omega
  have r3 : ∀ k, i < k → k < m + 1 → rot i m (m + 1) f k = f (k - 1) := fun k h h' => by unfold rot; rw [if_neg (by omega), if_neg (by omega), if_pos h']; congr 1; omega
  intro x y hx hxy hy
  by_cases p : x < i
  · rw [r1 x p]
    by_cases q : y < i
    · rw [r1 y q]; exact hL _ _ hx hxy (by omega)
    · by_cases q2 : y = i
      · rw [q2, r2]; exact hlt _ hx p
      · rw [r3 y (by omega) hy]
        exact hL _ _ hx (by omega) (by omega)
  · by_cases p2 : x = i
    · rw [p2, r2, r3 y (by omega) hy]; exact hge _ (by omega) (by omega)
    · rw [r3 x (by omega) (by omega), r3 y (by omega) hy]; exact hL _ _ (by omega) (by omega) (by omega)
theorem rot_up (a k : Nat) (f : Nat → Nat) (h : a ≤ k) : swapF (rot a (a + 1) (k + 1) f) k (k + 1) = rot a (a + 1) (k + 2) f := by
  funext x
  unfold swapF rot
  repeat' split
  all_goals first | omega | rfl | (congr 1; omega)
theorem rot_down (k m : Nat) (f : Nat → Nat) (h : k < m) : swapF (rot (k + 1) m (m + 1) f) (k + 1) k = rot k m (m + 1) f := by
  funext x
  unfold swapF rot
  repeat' split
  all_goals first | omega | rfl | (congr 1; omega)
theorem rot_none_left (a : Nat) (f : Nat → Nat) : rot a (a + 1) (a + 1) f = f := by
  funext x
  unfold rot
  repeat' split
  all_goals first | omega | rfl | (congr 1; omega)
theorem rot_none_right (m : Nat) (f : Nat → Nat) : rot m m (m + 1) f = f := by
  funext x
  unfold rot
  repeat' split
  all_goals first | omega | rfl | (congr 1; omega)
theorem rot_none (s m e : Nat) (f : Nat → Nat) (h1 : s ≤ m) (h2 : m ≤ e) (h : ¬ (s < m ∧ m < e)) : rot s m e f = f := by
  funext x
  unfold rot
  repeat' split
  all_goals first | omega | rfl | (congr 1; omega)

def Ins (K f : Nat → Nat) (a i j : Nat) : Prop :=
  (∀ x y, a ≤ x → x < y → y ≤ i → x ≠ j → y ≠ j → Lx K (f x) (f y)) ∧ (∀ y, j < y → y ≤ i → Lx K (f j) (f y)) ∧ ∀ x, a ≤ x → x ≤ i → x ≠ j → f x < f j
theorem Ins.step {K f : Nat → Nat} {a i j : Nat} (h : Ins K f a i (j + 1)) (ha : a ≤ j) (hi : j + 1 ≤ i) (hk : K (f (j + 1)) < K (f j)) : Ins K (swapF f (j + 1) j) a i j := by
  have s1 : swapF f (j + 1) j (j + 1) = f j := by unfold swapF; rw [if_pos rfl]
  have s2 : swapF f (j + 1) j j = f (j + 1) := by unfold swapF; rw [if_neg (by omega), if_pos rfl]
  have s3 : ∀ k, k ≠ j → k ≠ j + 1 → swapF f (j + 1) j k = f k := fun k h1 h2 => by unfold swapF; rw [if_neg h2, if_neg h1]
  refine ⟨fun x y h1 h2 h3 h4 h5 => ?_, fun y h1 h2 => ?_, fun x h1 h2 h3 => ?_⟩
  · by_cases p : x = j + 1
    · rw [p, s1, s3 y h5 (by omega)]; exact h.1 j y ha (by omega) h3 (by omega) (by omega)
    · by_cases q : y = j + 1
      · rw [q, s1, s3 x h4 p]; exact h.1 x j h1 (by omega) (by omega) (by omega) (by omega)
      · rw [s3 x h4 p, s3 y h5 q]; exact h.1 x y h1 h2 h3 p q
  · rw [s2]
    by_cases q : y = j + 1
    · rw [q, s1]; exact .inl hk
    · rw [s3 y (by omega) q]; exact h.2.1 y (by omega) h2
  · rw [s2]
    by_cases q : x = j + 1
    · rw [q, s1]; exact h.2.2 j ha (by omega) (by omega)
    · rw [s3 x h3 q]; exact h.2.2 x h1 h2 q
theorem Ins.done {K f : Nat → Nat} {a i j : Nat} (h : Ins K f a i j) (ha : a ≤ j) (hi : j ≤ i) (hk : j = a ∨ ¬ K (f j) < K (f (j - 1))) : SortedOn K f a (i + 1) := by
  intro x y h1 h2 h3
  by_cases p : x = j
  · rw [p]; exact h.2.1 y (by omega) (by omega)
  · by_cases q : y = j
    · rw [q]
      rcases hk with hk | hk
      · omega
      · have hl : Lx K (f (j - 1)) (f j) := Lx.of_not (h.2.2 (j - 1) (by omega) (by omega) (by omega)) hk
        by_cases r : x = j - 1
        · rw [r]; exact hl
        · exact (h.1 x (j - 1) h1 (by omega) (by omega) p (by omega)).trans hl
    · exact h.1 x y h1 h2 (by omega) p q
theorem Ins.start {K f : Nat → Nat} {a i : Nat} (hs : SortedOn K f a i) (hA : ∀ x, a ≤ x → x < i → f x < f i) : Ins K f a i i :=
  ⟨fun x y h1 h2 h3 h4 h5 => hs x y h1 h2 (by omega), fun y h1 h2 => by omega, fun x h1 h2 h3 => hA x h1 (by omega)⟩

end Go.Proofs.YtcoahkmiebeeeaaGreatDoor.C5

namespace Go.Proofs.YtcoahkmiebeeeaaGreatDoor.C5
open Go.RowKit Go.Shelf

/-- Block g is a row whose first n places hold f, each below N; every other block of w0 lies as it lay. -/
structure DS (w0 W : World) (g n N : Nat) (f : Nat → Nat) : Prop where
  row : ∃ cs, W.heap[g]? = some (.cells cs 3 (0, 0)) ∧ ∀ i, i < n → cs[i]? = some (.int .i64 ((f i : Nat) : Int))
  keep : Keep (fun k => k = g) w0 W
  lt : ∀ i, i < n → f i < N
theorem DS.cell {w0 W : World} {g n N : Nat} {f : Nat → Nat} (h : DS w0 W g n N f) (i : Nat) (hi : i < n) : W.cell? ⟨g, i, none⟩ = some (.int .i64 ((f i : Nat) : Int)) := by
  obtain ⟨cs, ho, hc⟩ := h.row
  rw [cell_of ho, hc i hi]
theorem DS.frozen {w0 W : World} {g n N : Nat} {f : Nat → Nat} (h : DS w0 W g n N f) (i : Nat) : W.frozen? ⟨g, i, none⟩ = false := by
  obtain ⟨cs, ho, hc⟩ := h.row
  exact frozen_of ho i
theorem DS.drewN {w0 W : World} {g n N : Nat} {f : Nat → Nat} (h : DS w0 W g n N f) (q : Nat) : DS w0 (W.drewN q) g n N f :=
  ⟨h.row, ⟨h.keep.os, h.keep.tape, h.keep.output, h.keep.size, h.keep.block⟩, h.lt⟩
theorem DS.drew {w0 W : World} {g n N : Nat} {f : Nat → Nat} (h : DS w0 W g n N f) : DS w0 W.drew g n N f :=
  ⟨h.row, h.keep.drew, h.lt⟩
theorem DS.swap {w0 W : World} {g n N : Nat} {f : Nat → Nat} (h : DS w0 W g n N f) (i j : Nat) (hi : i < n) (hj : j < n) :
    DS w0 ((W.setCell ⟨g, i, none⟩ (.int .i64 ((f j : Nat) : Int))).setCell ⟨g, j, none⟩ (.int .i64 ((f i : Nat) : Int))) g n N (swapF f i j) := by
  obtain ⟨cs, ho, hc⟩ := h.row
  refine ⟨⟨_, set_obj (set_obj ho i _) j _, fun k hk => ?_⟩, (h.keep.setCell (fun _ => rfl) _).setCell (fun _ => rfl) _, fun k hk => ?_⟩
  · have hs : k < cs.size := (Array.getElem?_eq_some_iff.1 (hc k hk)).1
    rw [Array.getElem?_setIfInBounds, Array.getElem?_setIfInBounds]
    unfold swapF
    by_cases e1 : k = i
    · by_cases e2 : k = j
      · rw [if_pos e2.symm, if_pos (by simpa [← e2] using hs), if_pos e1, ← e2, ← e1]
      · rw [if_neg (fun e => e2 e.symm), if_pos e1.symm, if_pos (by rw [← e1]; exact hs), if_pos e1]
    · by_cases e2 : k = j
      · rw [if_pos e2.symm, if_pos (by simpa [← e2] using hs), if_neg e1, if_pos e2]
      · rw [if_neg (fun e => e2 e.symm), if_neg (fun e => e1 e.symm), if_neg e1, if_neg e2]; exact hc k hk
  · unfold swapF
    split
    · exact h.lt j hj
    · split
      · exact h.lt i hi
      · exact h.lt k hk

set_option maxHeartbeats 1000000 in
theorem swapRange_any (g n cap N a b m fn B : Nat) (f : Nat → Nat) (w0 w : World) (h : DS w0 w g n N f) (hab : a + m ≤ b) (hb : b + m ≤ n) (hn : n ≤ 1024) :
    Calls Tryz.prog 136 #[.slice (some ⟨g, 0, none⟩) n cap, .int .i64 (a : Int), .int .i64 (b : Int), .int .i64 (m : Int), .func (.func fn) #[] #[.pointer (some ⟨B, 0, none⟩)]] w fun e w' => e = .returned (.tuple #[]) ∧ DS w0 w' g n N (swapR a b m f) := by
  go_enter Tryz.func136, Tryz.ntmps136
  go_wp2
  go_loopw [10] (fun vi wr => ∃ i : Nat, i ≤ m ∧ vi = .int .i64 (i : Int) ∧ DS w0 wr g n N (swapR a b i f)) (fun vi _ => m - (intOf vi).toNat)
  case atStart => exact ⟨0, Nat.zero_le _, rfl, by rw [swapR_zero]; exact h⟩
  case round =>
    obtain ⟨i, hi, rfl, hd⟩ := hrel
    by_cases hlt : i < m
    · have hs := swapR_succ a b i f (by omega)
      have hd2 := (hd.swap (a + i) (b + i) (by omega) (by omega)).drew
      rw [hs] at hd2
      have c1 := hd.cell (a + i) (by omega)
      have c2 := hd.cell (b + i) (by omega)
      have f1 := hd.frozen (a + i)
      have f2 := hd.frozen (b + i)
      generalize swapR a b i f (a + i) = x1 at c1 hd2
      generalize swapR a b i f (b + i) = x2 at c2 hd2
      have HD := (show Hid _ from hd2)
      have hne : a + i ≠ b + i := by omega
      clear hs hd2 hd h
      go_wp2_with fail
      go_big_region
      all_goals go_wp2
      go_roundw
      case rel => exact ⟨i + 1, by omega, by go_num, HD.out⟩
      case measure => simp [intOf]; omega
    · obtain rfl : i = m := by omega
      go_wp2
      go_end0
      exact ⟨rfl, hd⟩

theorem swapRange_i (g n cap N a b m fn B : Nat) (ai bi mi : Int) (ea : ai = (a : Int)) (eb : bi = (b : Int)) (em : mi = (m : Int)) (f : Nat → Nat) (w0 w : World) (h : DS w0 w g n N f) (hab : a + m ≤ b) (hb : b + m ≤ n) (hn : n ≤ 1024) :
    Calls Tryz.prog 136 #[.slice (some ⟨g, 0, none⟩) n cap, .int .i64 ai, .int .i64 bi, .int .i64 mi, .func (.func fn) #[] #[.pointer (some ⟨B, 0, none⟩)]] w fun e w' => e = .returned (.tuple #[]) ∧ DS w0 w' g n N (swapR a b m f) := by
  subst ea; subst eb; subst em
  exact swapRange_any g n cap N a b m fn B f w0 w h hab hb hn

set_option maxHeartbeats 1000000 in
theorem rotate_any (g n cap N a m b fn B : Nat) (f : Nat → Nat) (w0 w : World) (h : DS w0 w g n N f) (ham : a < m) (hmb : m < b) (hb : b ≤ n) (hn : n ≤ 1024) :
    Calls Tryz.prog 133 #[.slice (some ⟨g, 0, none⟩) n cap, .int .i64 (a : Int), .int .i64 (m : Int), .int .i64 (b : Int), .func (.func fn) #[] #[.pointer (some ⟨B, 0, none⟩)]] w fun e w' => e = .returned (.tuple #[]) ∧ DS w0 w' g n N (rot a m b f) ∧ PermOn a b f (rot a m b f) := by
  go_enter Tryz.func133, Tryz.ntmps133
  go_wp2
  go_loopw [10, 11] (fun vi vj wr => ∃ (i j : Nat) (fc : Nat → Nat), vi = .int .i64 (i : Int) ∧ vj = .int .i64 (j : Int) ∧ 1 ≤ i ∧ 1 ≤ j ∧ a + i ≤ m ∧ m + j ≤ b ∧ DS w0 wr g n N fc ∧ rot (m - i) m (m + j) fc = rot a m b f ∧ PermOn a b f fc) (fun vi vj _ => (intOf vi).toNat + (intOf vj).toNat)
  case atStart => exact ⟨m - a, b - m, f, by congr 1; omega, by congr 1; omega, by omega, by omega, by omega, by omega, h, by rw [show m - (m - a) = a from by omega, show m + (b - m) = b from by omega], PermOn.refl _ _ _⟩
  case round =>
    obtain ⟨i, j, fc, rfl, rfl, hi, hj, hia, hjb, hd, hr, hp⟩ := hrel
    have HR := (show Hid _ from hr)
    have HP := (show Hid _ from hp)
    clear hr hp h
    by_cases hij : i = j
    · subst hij
      have e2 : ((i : Int) != (i : Int)) = false := by simp
      go_wp2_with (go_at_call 136; refine (swapRange_i g n cap N (m - i) m i fn B _ _ _ (by omega) rfl rfl fc w0 _ hd (by omega) (by omega) hn).mono ?_; rintro e w1 ⟨rfl, hd1⟩)
      go_end0
      have hs := rot_same m i fc (by omega)
      rw [hs, HR.out] at hd1
      have hq := PermOn.trans HP.out (swapR_perm (m - i) m i a b fc (by omega) (by omega) (by omega))
      rw [hs, HR.out] at hq
      exact ⟨rfl, hd1, hq⟩
    · have e2 : ((i : Int) != (j : Int)) = true := by simpa using (show (i : Int) ≠ (j : Int) by omega)
      by_cases hlt : j < i
      · go_wp2_with (go_at_call 136; refine (swapRange_i g n cap N (m - i) m j fn B _ _ _ (by omega) rfl rfl fc w0 _ hd (by omega) (by omega) hn).mono ?_; rintro e w1 ⟨rfl, hd1⟩)
        go_roundw
        case rel =>
          refine ⟨i - j, j, _, by congr 1; omega, rfl, by omega, hj, by omega, hjb, hd1, ?_, PermOn.trans HP.out (swapR_perm (m - i) m j a b fc (by omega) (by omega) (by omega))⟩
          rw [← HR.out, ← rot_left m i j fc hlt (by omega), show m - (i - j) = m - i + j from by omega]
        case measure => simp [intOf]; omega
      · go_wp2_with (go_at_call 136; refine (swapRange_i g n cap N (m - i) (m + j - i) i fn B _ _ _ (by omega) (by omega) rfl fc w0 _ hd (by omega) (by omega) hn).mono ?_; rintro e w1 ⟨rfl, hd1⟩)
        go_roundw
        case rel =>
          refine ⟨i, j - i, _, rfl, by congr 1; omega, hi, by omega, hia, by omega, hd1, ?_, PermOn.trans HP.out (swapR_perm (m - i) (m + j - i) i a b fc (by omega) (by omega) (by omega))⟩
          rw [← HR.out, ← rot_right m i j fc (by omega) (by omega)]
        case measure => simp [intOf]; omega

end Go.Proofs.YtcoahkmiebeeeaaGreatDoor.C5

namespace Go.Proofs.YtcoahkmiebeeeaaGreatDoor.C5
open Go.RowKit Go.Shelf

def cmpOf (K : Nat → Nat) (x y : Nat) : Int := if K x < K y then -1 else if K y < K x then 1 else 0
theorem cmpOf_neg (K : Nat → Nat) (x y : Nat) : cmpOf K x y < 0 ↔ K x < K y := by
  unfold cmpOf
  repeat' split
  all_goals simp_all

/-- Function fn over the box B compares places below N by the numbers K, wherever only block g has turned. -/
structure CmpOk (w0 : World) (g N : Nat) (K : Nat → Nat) (fn B : Nat) : Prop where
  enters : ∀ args w, (callFunc fn args).run Tryz.prog w = .ok (.enter fn args) w
  call : ∀ W, Keep (fun k => k = g) w0 W → ∀ x y : Nat, x < N → y < N → Calls Tryz.prog fn #[.int .i64 (x : Int), .int .i64 (y : Int), .pointer (some ⟨B, 0, none⟩)] W fun e w' => e = .returned (.int .i64 (cmpOf K x y)) ∧ ∃ q, w' = W.drewN q

def Inc (f : Nat → Nat) (a i b : Nat) : Prop := ∀ x y, a ≤ x → x < y → i ≤ y → y < b → f x < f y
theorem Inc.next {f f' : Nat → Nat} {a i b : Nat} (h : Inc f a i b) (p : PermOn a (i + 1) f f') : Inc f' a (i + 1) b := by
  intro x y h1 h2 h3 h4
  rw [p.out y (by omega)]
  by_cases e : x < i + 1
  · obtain ⟨x', u1, u2, u3⟩ := p.inn x h1 e
    rw [u3]; exact h x' y u1 (by omega) (by omega) h4
  · rw [p.out x (by omega)]; exact h x y h1 h2 (by omega) h4

set_option maxHeartbeats 2000000 in
theorem insertion_any (g n cap N a b fn B : Nat) (K f : Nat → Nat) (w0 w : World) (h : DS w0 w g n N f) (C : CmpOk w0 g N K fn B) (hab : a ≤ b) (hb : b ≤ n) (hn : n ≤ 1024) (hinc : Inc f a a b) :
    Calls Tryz.prog 123 #[.slice (some ⟨g, 0, none⟩) n cap, .int .i64 (a : Int), .int .i64 (b : Int), .func (.func fn) #[] #[.pointer (some ⟨B, 0, none⟩)]] w fun e w' => e = .returned (.tuple #[]) ∧ ∃ f', DS w0 w' g n N f' ∧ Merged K a b f f' := by
  have eg := C.enters
  have HC := (show Hid _ from C.call)
  clear C
  go_enter Tryz.func123, Tryz.ntmps123
  go_wp2
  go_loopw [8] (fun vi wr => ∃ (i : Nat) (fc : Nat → Nat), vi = .int .i64 (i : Int) ∧ a + 1 ≤ i ∧ i ≤ b + 1 ∧ DS w0 wr g n N fc ∧ PermOn a b f fc ∧ SortedOn K fc a i ∧ Inc fc a i b) (fun vi _ => b + 1 - (intOf vi).toNat)
  case atStart => exact ⟨a + 1, f, by go_num, Nat.le_refl _, by omega, h, PermOn.refl _ _ _, SortedOn.one _ _ _ _ (Nat.le_refl _), fun x y h1 h2 h3 h4 => hinc x y h1 h2 (by omega) h4⟩
  case round =>
    obtain ⟨i, fc, rfl, hi1, hi2, hd, hp, hs, hin⟩ := hrel
    have HS := (show Hid (PermOn a b f fc ∧ SortedOn K fc a i ∧ Inc fc a i b) from ⟨hp, hs, hin⟩)
    by_cases hlt : i < b
    · clear h hinc
      have hI : Ins K fc a i i := Ins.start hs (fun x h1 h2 => hin x i h1 h2 (Nat.le_refl _) hlt)
      clear hp hs hin
      go_wp2
      go_loopw [9] (fun vj wr2 => ∃ (j : Nat) (fj : Nat → Nat), vj = .int .i64 (j : Int) ∧ a ≤ j ∧ j ≤ i ∧ DS w0 wr2 g n N fj ∧ Ins K fj a i j ∧ PermOn a (i + 1) fc fj) (fun vj _ => (intOf vj).toNat)
      case atStart => exact ⟨i, fc, rfl, by omega, Nat.le_refl _, hd, hI, PermOn.refl _ _ _⟩
      case round =>
        clear hd hI
        obtain ⟨j, fj, rfl, hj1, hj2, hd, hI, hp⟩ := hrel
        have HI := (show Hid (Ins K fj a i j ∧ PermOn a (i + 1) fc fj) from ⟨hI, hp⟩)
        clear hI hp
        by_cases hja : a < j
        · obtain ⟨jp, rfl⟩ : ∃ jp, j = jp + 1 := ⟨j - 1, by omega⟩
          have c1 := hd.cell (jp + 1) (by omega)
          have c2 := hd.cell jp (by omega)
          have f1 := hd.frozen (jp + 1)
          have f2 := hd.frozen jp
          have hsw := hd.swap (jp + 1) jp (by omega) (by omega)
          have hjz : (a : Int) < (jp : Int) + 1 := by omega
          have jz : (jp : Int) + 1 < (n : Int) := by omega
          have jz1 : (jp : Int) < (n : Int) := by omega
          have hc : ∀ q, _ := fun q => HC.out (wr.drewN q) (hd.drewN q).keep (fj (jp + 1)) (fj jp) (hd.lt _ (by omega)) (hd.lt _ (by omega))
          have HK := (show Hid (cmpOf K (fj (jp + 1)) (fj jp) < 0 ↔ K (fj (jp + 1)) < K (fj jp)) from cmpOf_neg K (fj (jp + 1)) (fj jp))
          have HSW := (show Hid (∀ q, DS w0 (((wr.drewN q).setCell ⟨g, jp + 1, none⟩ (.int .i64 ((fj jp : Nat) : Int))).setCell ⟨g, jp, none⟩ (.int .i64 ((fj (jp + 1) : Nat) : Int))).drew g n N (swapF fj (jp + 1) jp)) from fun q => ((hd.drewN q).swap (jp + 1) jp (by omega) (by omega)).drew)
          have HD := (show Hid (∀ q, DS w0 (wr.drewN q) g n N fj) from fun q => hd.drewN q)
          obtain ⟨cv, hcv⟩ : ∃ cv, cmpOf K (fj (jp + 1)) (fj jp) = cv := ⟨_, rfl⟩
          rw [hcv] at HK hc
          generalize fj (jp + 1) = x1 at c1 hc HSW
          generalize fj jp = x2 at c2 hc HSW
          clear hd hcv
          by_cases hlv : cv < 0
          · go_wp2_with fail
            go_quiet (first | (go_at_fn fn; refine Calls.quiet_of (hc _)))
            go_wp2_with fail
            have HS2 := (show Hid _ from HSW.out nq)
            have c1' : (wr.drewN nq).cell? ⟨g, jp + 1, none⟩ = some (.int .i64 (x1 : Int)) := c1
            have c2' : (wr.drewN nq).cell? ⟨g, jp, none⟩ = some (.int .i64 (x2 : Int)) := c2
            have f1' : (wr.drewN nq).frozen? ⟨g, jp + 1, none⟩ = false := f1
            have f2' : (wr.drewN nq).frozen? ⟨g, jp, none⟩ = false := f2
            clear c1 c2 f1 f2 HSW hc HD
            generalize wr.drewN nq = wq at c1' c2' f1' f2' HS2 ⊢
            go_big_region
            all_goals go_wp2
            go_roundw
            case rel => exact ⟨jp, _, by go_num, by omega, by omega, HS2.out, HI.out.1.step (by omega) (by omega) (HK.out.1 hlv), HI.out.2.trans (PermOn.swap _ _ _ (by omega) (by omega) (by omega) (by omega))⟩
            case measure => simp [intOf]
          · go_wp2_with fail
            go_quiet (first | (go_at_fn fn; refine Calls.quiet_of (hc _)))
            go_wp2
            go_roundw
            case rel =>
              obtain ⟨p1, p2, p3⟩ := HS.out
              exact ⟨i + 1, fj, by go_num, by omega, by omega, HD.out nq, p1.trans (HI.out.2.mono (Nat.le_refl _) (by omega)), HI.out.1.done (by omega) (by omega) (.inr (fun hk => by have := HK.out.2 hk; omega)), p3.next HI.out.2⟩
            case measure => simp [intOf]; omega
        · obtain rfl : j = a := by omega
          have hjz : ¬ (j : Int) < (j : Int) := by omega
          have HD := (show Hid (DS w0 wr.drew g n N fj) from hd.drew)
          clear hd
          go_wp2_with fail
          go_big_region
          all_goals go_wp2
          go_roundw
          case rel =>
            obtain ⟨p1, p2, p3⟩ := HS.out
            exact ⟨i + 1, fj, by go_num, by omega, by omega, HD.out, p1.trans (HI.out.2.mono (Nat.le_refl _) (by omega)), HI.out.1.done (by omega) (by omega) (.inl rfl), p3.next HI.out.2⟩
          case measure => simp [intOf]; omega
    · go_wp2
      go_end0
      obtain ⟨p1, p2, p3⟩ := HS.out
      exact ⟨rfl, fc, hd, p1, p2.sub (Nat.le_refl _) (by omega)⟩

end Go.Proofs.YtcoahkmiebeeeaaGreatDoor.C5

namespace Go.Proofs.YtcoahkmiebeeeaaGreatDoor.C5
open Go.RowKit Go.Shelf

set_option maxRecDepth 1000000 in
set_option maxHeartbeats 4000000 in
theorem sym_left (g n cap N a b fn B : Nat) (K f : Nat → Nat) (w0 w : World) (h : DS w0 w g n N f) (C : CmpOk w0 g N K fn B) (hmb : a + 1 < b) (hb : b ≤ n) (hn : n ≤ 1024) (hR : SortedOn K f (a + 1) b) (hA : Ahead f a (a + 1) b) :
    Calls Tryz.prog 124 #[.slice (some ⟨g, 0, none⟩) n cap, .int .i64 (a : Int), .int .i64 ((a : Int) + 1), .int .i64 (b : Int), .func (.func fn) #[] #[.pointer (some ⟨B, 0, none⟩)]] w fun e w' => e = .returned (.tuple #[]) ∧ ∃ f', DS w0 w' g n N f' ∧ Merged K a b f f' := by
  have eg := C.enters
  have HC := (show Hid _ from C.call)
  have HA := (show Hid (SortedOn K f (a + 1) b ∧ Ahead f a (a + 1) b) from ⟨hR, hA⟩)
  have ha1 : (a : Int) + 1 - (a : Int) = 1 := by omega
  clear C hR hA
  go_enter Tryz.func124, Tryz.ntmps124
  go_wp2
  go_loopw [10, 11] (fun vi vj wr => ∃ (i j : Nat), vi = .int .i64 (i : Int) ∧ vj = .int .i64 (j : Int) ∧ a + 1 ≤ i ∧ i ≤ j ∧ j ≤ b ∧ DS w0 wr g n N f ∧ Hid ((∀ k, a + 1 ≤ k → k < i → Lx K (f k) (f a)) ∧ (∀ k, j ≤ k → k < b → Lx K (f a) (f k)))) (fun vi vj _ => (intOf vj).toNat - (intOf vi).toNat)
  case atStart => exact ⟨a + 1, b, by go_num, rfl, Nat.le_refl _, by omega, Nat.le_refl _, h, fun k h1 h2 => by omega, fun k h1 h2 => by omega⟩
  case round =>
    clear h
    obtain ⟨i, j, rfl, rfl, hi, hij, hj, hd, HB⟩ := hrel
    by_cases hlt : i < j
    · obtain ⟨c, hc0⟩ : ∃ c : Nat, c = (i + j) / 2 := ⟨_, rfl⟩
      have hc1 : i ≤ c ∧ c < j := by omega
      have hcI : ((i : Int) + (j : Int)) / 2 = (c : Int) := by omega
      have c1 := hd.cell c (by omega)
      have c2 := hd.cell a (by omega)
      have hc : ∀ q, _ := fun q => HC.out (wr.drewN q) (hd.drewN q).keep (f c) (f a) (hd.lt _ (by omega)) (hd.lt _ (by omega))
      have HK := (show Hid (cmpOf K (f c) (f a) < 0 ↔ K (f c) < K (f a)) from cmpOf_neg K (f c) (f a))
      have HD := (show Hid (∀ q, DS w0 (wr.drewN q) g n N f) from fun q => hd.drewN q)
      obtain ⟨cv, hcv⟩ : ∃ cv, cmpOf K (f c) (f a) = cv := ⟨_, rfl⟩
      rw [hcv] at HK hc
      obtain ⟨x1, hx1⟩ : ∃ x, f c = x := ⟨_, rfl⟩
      obtain ⟨x2, hx2⟩ : ∃ x, f a = x := ⟨_, rfl⟩
      rw [hx1] at c1 hc
      rw [hx2] at c2 hc
      clear hx1 hx2
      clear hd hcv hc0
      by_cases hlv : cv < 0
      · go_wp2_with fail
        go_quiet (first | (go_at_fn fn; refine Calls.quiet_of (hc _)))
        go_wp2
        go_roundw
        case rel =>
          refine ⟨c + 1, j, by go_num, rfl, by omega, by omega, hj, HD.out nq, fun k h1 h2 => ?_, HB.out.2⟩
          have hl : Lx K (f c) (f a) := .inl (HK.out.1 hlv)
          exact HA.out.1.le h1 (by omega) (by omega) hl
        case measure => simp [intOf]; omega
      · go_wp2_with fail
        go_quiet (first | (go_at_fn fn; refine Calls.quiet_of (hc _)))
        go_wp2
        go_roundw
        case rel =>
          refine ⟨i, c, rfl, rfl, hi, by omega, by omega, HD.out nq, HB.out.1, fun k h1 h2 => ?_⟩
          have hl : Lx K (f a) (f c) := Lx.of_not (HA.out.2 a c (Nat.le_refl _) (by omega) (by omega) (by omega)) (fun hk => by have := HK.out.2 hk; omega)
          exact HA.out.1.ge (by omega) h1 (by omega) hl
        case measure => simp [intOf]; omega
    · obtain rfl : i = j := by omega
      go_wp2
      go_loopw [13] (fun vk wr => ∃ (k : Nat), vk = .int .i64 (k : Int) ∧ a ≤ k ∧ k + 1 ≤ i ∧ DS w0 wr g n N (rot a (a + 1) (k + 1) f) ∧ PermOn a b f (rot a (a + 1) (k + 1) f)) (fun vk _ => i - (intOf vk).toNat)
      case atStart => exact ⟨a, rfl, Nat.le_refl _, by omega, by rw [rot_none_left]; exact hd, by rw [rot_none_left]; exact PermOn.refl _ _ _⟩
      case round =>
        clear hd
        obtain ⟨k, rfl, hk1, hk2, hd, hp⟩ := hrel
        have HP := (show Hid (PermOn a b f (rot a (a + 1) (k + 1) f)) from hp)
        clear hp
        by_cases hkl : k + 1 < i
        · have hs := rot_up a k f hk1
          have hd2 := (hd.swap k (k + 1) (by omega) (by omega)).drew
          have hp2 : PermOn a b f (rot a (a + 1) (k + 2) f) := PermOn.trans HP.out (by rw [← hs]; exact PermOn.swap _ _ _ (by omega) (by omega) (by omega) (by omega))
          rw [hs] at hd2
          have c1 := hd.cell k (by omega)
          have c2 := hd.cell (k + 1) (by omega)
          have f1 := hd.frozen k
          have f2 := hd.frozen (k + 1)
          generalize rot a (a + 1) (k + 1) f k = x1 at c1 hd2
          generalize rot a (a + 1) (k + 1) f (k + 1) = x2 at c2 hd2
          have HD := (show Hid (DS w0 _ g n N (rot a (a + 1) (k + 2) f) ∧ PermOn a b f (rot a (a + 1) (k + 2) f)) from ⟨hd2, hp2⟩)
          clear hs hd2 hp2 hd
          have kl : (k : Int) < (i : Int) - 1 := by omega
          go_wp2_with fail
          go_big_region
          all_goals go_wp2
          go_roundw
          case rel => exact ⟨k + 1, by go_num, by omega, by omega, HD.out.1, HD.out.2⟩
          case measure => simp [intOf]; omega
        · obtain rfl : i = k + 1 := by omega
          have kl : ¬ (k : Int) < ((k + 1 : Nat) : Int) - 1 := by omega
          go_wp2
          refine bodyPost_ret (results_none rfl _ _ _) rfl ?_
          exact ⟨rfl, _, hd, HP.out, one_left K f a (k + 1) b HA.out.1 (by omega) hj HB.out.1 HB.out.2⟩

set_option maxRecDepth 1000000 in
set_option maxHeartbeats 4000000 in
theorem sym_right (g n cap N a m fn B : Nat) (K f : Nat → Nat) (w0 w : World) (h : DS w0 w g n N f) (C : CmpOk w0 g N K fn B) (ham : a + 1 < m) (hb : m + 1 ≤ n) (hn : n ≤ 1024) (hL : SortedOn K f a m) (hA : Ahead f a m (m + 1)) :
    Calls Tryz.prog 124 #[.slice (some ⟨g, 0, none⟩) n cap, .int .i64 (a : Int), .int .i64 (m : Int), .int .i64 ((m : Int) + 1), .func (.func fn) #[] #[.pointer (some ⟨B, 0, none⟩)]] w fun e w' => e = .returned (.tuple #[]) ∧ ∃ f', DS w0 w' g n N f' ∧ Merged K a (m + 1) f f' := by
  have eg := C.enters
  have HC := (show Hid _ from C.call)
  have HA := (show Hid (SortedOn K f a m ∧ Ahead f a m (m + 1)) from ⟨hL, hA⟩)
  have ha1 : (m : Int) + 1 - (m : Int) = 1 := by omega
  have ha2 : ((m : Int) - (a : Int) == 1) = false := by simpa using (show (m : Int) - (a : Int) ≠ 1 by omega)
  clear C hL hA
  go_enter Tryz.func124, Tryz.ntmps124
  go_wp2
  go_loopw [14, 15] (fun vi vj wr => ∃ (i j : Nat), vi = .int .i64 (i : Int) ∧ vj = .int .i64 (j : Int) ∧ a ≤ i ∧ i ≤ j ∧ j ≤ m ∧ DS w0 wr g n N f ∧ Hid ((∀ k, a ≤ k → k < i → Lx K (f k) (f m)) ∧ (∀ k, j ≤ k → k < m → Lx K (f m) (f k)))) (fun vi vj _ => (intOf vj).toNat - (intOf vi).toNat)
  case atStart => exact ⟨a, m, rfl, rfl, Nat.le_refl _, by omega, Nat.le_refl _, h, fun k h1 h2 => by omega, fun k h1 h2 => by omega⟩
  case round =>
    clear h
    obtain ⟨i, j, rfl, rfl, hi, hij, hj, hd, HB⟩ := hrel
    by_cases hlt : i < j
    · obtain ⟨c, hc0⟩ : ∃ c : Nat, c = (i + j) / 2 := ⟨_, rfl⟩
      have hc1 : i ≤ c ∧ c < j := by omega
      have hcI : ((i : Int) + (j : Int)) / 2 = (c : Int) := by omega
      have c1 := hd.cell c (by omega)
      have c2 := hd.cell m (by omega)
      have hc : ∀ q, _ := fun q => HC.out (wr.drewN q) (hd.drewN q).keep (f m) (f c) (hd.lt _ (by omega)) (hd.lt _ (by omega))
      have HK := (show Hid (cmpOf K (f m) (f c) < 0 ↔ K (f m) < K (f c)) from cmpOf_neg K (f m) (f c))
      have HD := (show Hid (∀ q, DS w0 (wr.drewN q) g n N f) from fun q => hd.drewN q)
      obtain ⟨cv, hcv⟩ : ∃ cv, cmpOf K (f m) (f c) = cv := ⟨_, rfl⟩
      rw [hcv] at HK hc
      obtain ⟨x1, hx1⟩ : ∃ x, f c = x := ⟨_, rfl⟩
      obtain ⟨x2, hx2⟩ : ∃ x, f m = x := ⟨_, rfl⟩
      rw [hx1] at c1 hc
      rw [hx2] at c2 hc
      clear hx1 hx2
      clear hd hcv hc0
      by_cases hlv : cv < 0
      · have hlb : decide (cv < 0) = true := decide_eq_true hlv
        go_wp2_with fail
        go_quiet (first | (go_at_fn fn; refine Calls.quiet_of (hc _)))
        go_wp2
        go_roundw
        case rel =>
          refine ⟨i, c, rfl, rfl, hi, by omega, by omega, HD.out nq, HB.out.1, fun k h1 h2 => ?_⟩
          have hl : Lx K (f m) (f c) := .inl (HK.out.1 hlv)
          exact HA.out.1.ge (by omega) h1 (by omega) hl
        case measure => simp [intOf]; omega
      · have hlb : decide (cv < 0) = false := decide_eq_false hlv
        go_wp2_with fail
        go_quiet (first | (go_at_fn fn; refine Calls.quiet_of (hc _)))
        go_wp2
        go_roundw
        case rel =>
          refine ⟨c + 1, j, by go_num, rfl, by omega, by omega, hj, HD.out nq, fun k h1 h2 => ?_, HB.out.2⟩
          have hl : Lx K (f c) (f m) := Lx.of_not (HA.out.2 c m (by omega) (by omega) (by omega) (by omega)) (fun hk => by have := HK.out.2 hk; omega)
          exact HA.out.1.le h1 (by omega) (by omega) hl
        case measure => simp [intOf]; omega
    · obtain rfl : i = j := by omega
      go_wp2
      go_loopw [17] (fun vk wr => ∃ (k : Nat), vk = .int .i64 (k : Int) ∧ i ≤ k ∧ k ≤ m ∧ DS w0 wr g n N (rot k m (m + 1) f) ∧ PermOn a (m + 1) f (rot k m (m + 1) f)) (fun vk _ => (intOf vk).toNat)
      case atStart => exact ⟨m, rfl, hj, Nat.le_refl _, by rw [rot_none_right]; exact hd, by rw [rot_none_right]; exact PermOn.refl _ _ _⟩
      case round =>
        clear hd
        obtain ⟨k, rfl, hk1, hk2, hd, hp⟩ := hrel
        have HP := (show Hid (PermOn a (m + 1) f (rot k m (m + 1) f)) from hp)
        clear hp
        by_cases hkl : i < k
        · obtain ⟨kp, rfl⟩ : ∃ kp, k = kp + 1 := ⟨k - 1, by omega⟩
          have hs := rot_down kp m f (by omega)
          have hd2 := (hd.swap (kp + 1) kp (by omega) (by omega)).drew
          have hp2 : PermOn a (m + 1) f (rot kp m (m + 1) f) := PermOn.trans HP.out (by rw [← hs]; exact PermOn.swap _ _ _ (by omega) (by omega) (by omega) (by omega))
          rw [hs] at hd2
          have c1 := hd.cell (kp + 1) (by omega)
          have c2 := hd.cell kp (by omega)
          have f1 := hd.frozen (kp + 1)
          have f2 := hd.frozen kp
          generalize rot (kp + 1) m (m + 1) f (kp + 1) = x1 at c1 hd2
          generalize rot (kp + 1) m (m + 1) f kp = x2 at c2 hd2
          have HD := (show Hid (DS w0 _ g n N (rot kp m (m + 1) f) ∧ PermOn a (m + 1) f (rot kp m (m + 1) f)) from ⟨hd2, hp2⟩)
          clear hs hd2 hp2 hd
          have kl : (i : Int) < (kp : Int) + 1 := by omega
          have jz : (kp : Int) + 1 < (n : Int) := by omega
          have jz1 : (kp : Int) < (n : Int) := by omega
          go_wp2_with fail
          go_big_region
          all_goals go_wp2
          go_roundw
          case rel => exact ⟨kp, by go_num, by omega, by omega, HD.out.1, HD.out.2⟩
          case measure => simp [intOf]
        · obtain rfl : i = k := by omega
          go_wp2
          refine bodyPost_ret (results_none rfl _ _ _) rfl ?_
          exact ⟨rfl, _, hd, HP.out, one_right K f a i m HA.out.1 (by omega) hj HB.out.1 HB.out.2⟩

end Go.Proofs.YtcoahkmiebeeeaaGreatDoor.C5
