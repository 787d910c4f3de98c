/-
  tally: how many words each length has, and whether the lengths make a code.
-/
import Derived.Test.YtapcohpagipkpaaOrder
import Derived.Deep.DeepCutAuto
namespace Go.Proofs.Ytapcohpagipkpaa
open Go.RowKit Go.Shelf

/-- Sixteen numbers as values. -/
def arr16 (c : Nat → Nat) : Array Value := ((List.range 16).map (fun l => Value.int .i64 ((c l : Nat) : Int))).toArray
theorem arr16_at (c : Nat → Nat) (l : Nat) (h : l < 16) : (arr16 c)[l]? = some (.int .i64 ((c l : Nat) : Int)) := by
  unfold arr16
  rw [List.getElem?_toArray, List.getElem?_map, List.getElem?_range h]
  rfl
theorem arr16_size (c : Nat → Nat) : (arr16 c).size = 16 := by simp [arr16]
theorem arr16_set (c : Nat → Nat) (l v : Nat) (_h : l < 16) : (arr16 c).setIfInBounds l (.int .i64 (v : Int)) = arr16 (fun k => if k = l then v else c k) := by
  apply Array.ext_getElem?
  intro i
  rw [Array.getElem?_setIfInBounds]
  by_cases hi : i < 16
  · rw [arr16_at (fun k => if k = l then v else c k) i hi]
    by_cases e : l = i
    · rw [if_pos e, if_pos (by rw [arr16_size]; omega), if_pos e.symm]
    · rw [if_neg e, if_neg (show ¬ i = l from fun h => e h.symm), arr16_at c i hi]
  · rw [Array.getElem?_eq_none (by rw [arr16_size]; omega)]
    split
    · rw [if_neg (by rw [arr16_size]; omega), Array.getElem?_eq_none (by rw [arr16_size]; omega)]
    · rw [Array.getElem?_eq_none (by rw [arr16_size]; omega)]
theorem arr16_lit (c : Nat → Nat) : arr16 c = #[.int .i64 ((c 0 : Nat) : Int), .int .i64 ((c 1 : Nat) : Int), .int .i64 ((c 2 : Nat) : Int), .int .i64 ((c 3 : Nat) : Int), .int .i64 ((c 4 : Nat) : Int), .int .i64 ((c 5 : Nat) : Int), .int .i64 ((c 6 : Nat) : Int), .int .i64 ((c 7 : Nat) : Int), .int .i64 ((c 8 : Nat) : Int), .int .i64 ((c 9 : Nat) : Int), .int .i64 ((c 10 : Nat) : Int), .int .i64 ((c 11 : Nat) : Int), .int .i64 ((c 12 : Nat) : Int), .int .i64 ((c 13 : Nat) : Int), .int .i64 ((c 14 : Nat) : Int), .int .i64 ((c 15 : Nat) : Int)] := rfl

/-- A store of what lies there. -/
theorem setCell_self {w : World} {b i : Nat} {v : Value} (h : w.cell? ⟨b, i, none⟩ = some v) : w.setCell ⟨b, i, none⟩ v = w := by
  have e : (w.setCell ⟨b, i, none⟩ v).heap = w.heap := by
    apply Array.ext_getElem?
    intro k
    by_cases hk : k = b
    · subst hk
      cases ho : w.heap[k]? with
      | none => simp [World.cell?, ho] at h
      | some o =>
        cases o with
        | cells cs t fz =>
          simp [World.cell?, ho] at h
          obtain ⟨hlt, hv⟩ := Array.getElem?_eq_some_iff.1 ho
          show (w.heap.modify k _)[k]? = _
          rw [Array.getElem?_eq_getElem (by rw [Array.size_modify]; exact hlt), Array.getElem_modify_self, hv]
          simp only [Option.isSome_none, if_false, Bool.false_eq_true]
          congr 2
          apply Array.ext_getElem?
          intro j
          rw [Array.getElem?_setIfInBounds]
          by_cases e : i = j
          · subst e
            rw [if_pos rfl, if_pos (Array.getElem?_eq_some_iff.1 h).1, h]
          · rw [if_neg e]
        | _ => simp [World.cell?, ho] at h
    · exact Below.heap_setCell _ _ _ _ hk
  cases w with
  | mk heap tape drawn os output =>
    simp only [World.setCell] at e ⊢
    rw [e]

/-- The 16 cells of a block of sixteen numbers. -/
theorem cells16 {w : World} {b : Nat} {c : Nat → Nat} (h : w.heap[b]? = some (.cells (arr16 c) 63 (0, 0))) (l : Nat) (hl : l < 16) : w.cell? ⟨b, l, none⟩ = some (.int .i64 ((c l : Nat) : Int)) := by
  rw [cell_of h, arr16_at c l hl]

/-- How many of the numbers are l; of 0 none are counted. -/
def many (xs : List Nat) (l : Nat) : Nat := if l = 0 then 0 else xs.count l
/-- The sum up to a length, in parts of 2^-15. -/
def partsTo (c : Nat → Nat) : Nat → Nat
  | 0 => 0
  | l + 1 => partsTo c l + c l * 2 ^ (15 - l)
/-- Do lengths make a code? -/
def isCode (xs : List Nat) : Bool := decide (xs.length ≤ 1024 ∧ (∀ x ∈ xs, x ≤ 15) ∧ partsTo (many xs) 16 = 32768)

theorem results_cell_tmp {fn : Func} {a u : Tmp} {t : TypeId} (h : fn.results = #[.cell a t, .tmp u]) (tmps : Array Value) (P : Program) (w : World) (p : Addr) (v : Value) (ha : tmps[a]?.getD undef = .pointer (some p)) (hv : (loadVar t p).run P w = .ok v w) :
    (results fn tmps).run P w = .ok (.tuple #[v, tmps.getD u undef]) w := by
  simp [results, h, ha, asAddr, hv]
theorem agg63 : ∀ w, (isAgg 63).run Try.prog w = .ok true w := by intro w; kernel_rfl
theorem size63 : ∀ w, (Go.sizeOf 63).run Try.prog w = .ok 16 w := by intro w; kernel_rfl
theorem loadVar63 {w : World} {b : Nat} {c : Nat → Nat} (h : w.heap[b]? = some (.cells (arr16 c) 63 (0, 0))) : (loadVar 63 ⟨b, 0, none⟩).run Try.prog w = .ok (.agg (arr16 c)) w := by
  have hl := run_loadCellsFrom (P := Try.prog) w ⟨b, 0, none⟩ (fun l => Value.int .i64 ((c l : Nat) : Int)) 16 0 #[] (fun j hj => by rw [Nat.zero_add, add0]; exact cells16 h j hj)
  simp only [loadVar, Sem.run_bind, agg63, Result.andThen, if_true, size63, loadCells]
  rw [hl]
  simp [arr16]

attribute [local go_sem] setCell_self

theorem run_index63 (A : Array Value) (i : Nat) (h : i < 16) (v : Value) (hv : A[i]? = some v) (w : World) : (Instr.index 63 (.agg A) (.int .i64 (i : Int))).run Try.prog w = .ok v w := by
  have ha : ∀ w, (isAgg 3).run Try.prog w = .ok false w := by intro w; kernel_rfl
  have hs : ∀ w, (Go.sizeOf 3).run Try.prog w = .ok 1 w := by intro w; kernel_rfl
  simp [Instr.index, run_underlying Try.underlying63, asIntOf, part, ha, hs, hv]
  intro h'
  omega

theorem partsTo_le (c : Nat → Nat) (h : ∀ l, c l ≤ 1024) (l : Nat) : partsTo c l ≤ 33554432 * l := by
  induction l with
  | zero => simp [partsTo]
  | succ l ih =>
    have h1 : c l * 2 ^ (15 - l) ≤ 1024 * 2 ^ 15 := Nat.mul_le_mul (h l) (Nat.pow_le_pow_right (by omega) (by omega))
    simp only [partsTo]
    omega

theorem take_count (xs : List Nat) (i l : Nat) (h : i < xs.length) : (xs.take (i + 1)).count l = if l = xs[i]?.getD 0 then (xs.take i).count l + 1 else (xs.take i).count l := by
  rw [List.take_add_one, List.count_append, List.getElem?_eq_getElem h]
  by_cases e : l = xs[i]
  · simp [e]
  · simp [e, Ne.symm e]

set_option maxRecDepth 100000 in
set_option maxHeartbeats 4000000 in
theorem tally_any (a : Option Addr) (cap gb off : Nat) (xs : List Nat) (w : World) (hR : Row w .u8 a cap gb off xs) (hl : xs.length ≤ 1024) :
    Calls Try.prog 26 #[.slice a xs.length cap] w fun e w' => ∃ c, e = .returned (.tuple #[.agg (arr16 c), .bool (isCode xs)]) ∧ (isCode xs = true → c = many xs) ∧ Keep noBlock w w' := by
  have h0 := World.alloc_heap_new w (.cells (arr16 (fun _ => 0)) 63)
  have hk0 : Keep noBlock w (w.alloc (.cells (arr16 (fun _ => 0)) 63)) := (Keep.refl _ w).alloc _
  have HR := (show Hid (Row w .u8 a cap gb off xs) from hR)
  rw [arr16_lit] at h0 hk0
  clear hR
  have H0 := (show Hid (_ ∧ _) from ⟨h0, hk0⟩)
  clear h0 hk0
  have hlI : ¬ (1024 : Int) < (xs.length : Int) := by omega
  go_enter Try.func26, Try.ntmps26
  go_wp2
  obtain ⟨mb, hmb⟩ : ∃ mb, mb = w.heap.size := ⟨_, rfl⟩
  rw [← hmb] at H0 ⊢
  have HM := (show Hid (mb = w.heap.size) from hmb)
  clear hmb
  go_loopw [15] (fun vi wr => ∃ (i : Nat) (c : Nat → Nat), vi = .int .i64 (i : Int) ∧ i ≤ xs.length ∧ c = (fun l => (xs.take i).count l) ∧ (∀ j, j < i → xs[j]?.getD 0 ≤ 15) ∧ wr.heap[mb]? = some (.cells (arr16 c) 63 (0, 0)) ∧ Keep noBlock w wr) (fun vi _ => xs.length - (intOf vi).toNat)
  case atStart => exact ⟨0, fun _ => 0, rfl, Nat.zero_le _, by funext l; simp, fun j hj => by omega, by rw [arr16_lit]; exact H0.out.1, H0.out.2⟩
  case round =>
    clear H0
    obtain ⟨i, c, rfl, hi, hc, hle, ho, hk⟩ := hrel
    by_cases hlt : i < xs.length
    · have hRw := HR.out.keep hk (fun _ h => h)
      obtain rfl : a = some ⟨gb, off, none⟩ := by
        rcases hRw.at_ with h | h
        · exact h
        · rw [h] at hlt; simp at hlt
      have c1 := hRw.cells i hlt
      obtain ⟨x, hx⟩ : ∃ x, xs[i]?.getD 0 = x := ⟨_, rfl⟩
      rw [hx] at c1
      by_cases hx15 : x ≤ 15
      · have hcx : c x ≤ 1024 := by
          rw [hc]
          exact Nat.le_trans List.count_le_length (by rw [List.length_take]; omega)
        have c2 := cells16 ho x (by omega)
        have z2 := frozen_of ho x
        have hset := set_obj ho x (.int .i64 ((c x : Int) + 1))
        rw [show ((c x : Int) + 1) = ((c x + 1 : Nat) : Int) from by omega, arr16_set c x (c x + 1) (by omega), show ((c x + 1 : Nat) : Int) = ((c x : Int) + 1) from by omega] at hset
        have hks : Keep noBlock w (wr.setCell ⟨mb, x, none⟩ (.int .i64 ((c x : Int) + 1))) := hk.setCell (p := ⟨mb, x, none⟩) (fun h => by have := HM.out; dsimp only at h; omega) _
        have HS := (show Hid ((wr.setCell ⟨mb, x, none⟩ (.int .i64 ((c x : Int) + 1))).heap[mb]? = some (.cells (arr16 (fun k => if k = x then c x + 1 else c k)) 63 (0, 0)) ∧ Keep noBlock w (wr.setCell ⟨mb, x, none⟩ (.int .i64 ((c x : Int) + 1)))) from ⟨hset, hks⟩)
        have HC := (show Hid ((fun k => if k = x then c x + 1 else c k) = (fun l => (xs.take (i + 1)).count l) ∧ ∀ j, j < i + 1 → xs[j]?.getD 0 ≤ 15) from ⟨by
          funext l
          rw [take_count xs i l hlt, hx, hc]
          by_cases e : l = x
          · subst e; simp
          · simp [e], fun j hj => by
          by_cases e : j = i
          · subst e; rw [hx]; exact hx15
          · exact hle j (by omega)⟩)
        have hx15I : ¬ (15 : Int) < (x : Int) := by omega
        have hx16 : (x : Int) < 16 := by omega
        clear hset hks hRw ho hk hc hle hx
        generalize c x = cx at c2 hcx HS HC
        go_wp2
        go_roundw
        case rel => exact ⟨i + 1, _, by go_num, by omega, HC.out.1, HC.out.2, HS.out.1, HS.out.2⟩
        case measure => simp [intOf]; omega
      · have hbad : isCode xs = false := by
          unfold isCode
          refine decide_eq_false (fun h => ?_)
          have := h.2.1 x (by rw [← hx, List.getElem?_eq_getElem hlt]; exact List.getElem_mem hlt)
          omega
        have HBAD := (show Hid (isCode xs = false) from hbad)
        clear hbad
        have hx15I : (15 : Int) < (x : Int) := by omega
        have k0 := cells16 ho 0 (by omega)
        have z0 := frozen_of ho 0
        have k1 := cells16 ho 1 (by omega)
        have z1 := frozen_of ho 1
        have k2 := cells16 ho 2 (by omega)
        have z2 := frozen_of ho 2
        have k3 := cells16 ho 3 (by omega)
        have z3 := frozen_of ho 3
        have k4 := cells16 ho 4 (by omega)
        have z4 := frozen_of ho 4
        have k5 := cells16 ho 5 (by omega)
        have z5 := frozen_of ho 5
        have k6 := cells16 ho 6 (by omega)
        have z6 := frozen_of ho 6
        have k7 := cells16 ho 7 (by omega)
        have z7 := frozen_of ho 7
        have k8 := cells16 ho 8 (by omega)
        have z8 := frozen_of ho 8
        have k9 := cells16 ho 9 (by omega)
        have z9 := frozen_of ho 9
        have k10 := cells16 ho 10 (by omega)
        have z10 := frozen_of ho 10
        have k11 := cells16 ho 11 (by omega)
        have z11 := frozen_of ho 11
        have k12 := cells16 ho 12 (by omega)
        have z12 := frozen_of ho 12
        have k13 := cells16 ho 13 (by omega)
        have z13 := frozen_of ho 13
        have k14 := cells16 ho 14 (by omega)
        have z14 := frozen_of ho 14
        have k15 := cells16 ho 15 (by omega)
        have z15 := frozen_of ho 15
        clear hRw hc hle hx
        have HO := (show Hid (_ ∧ _) from ⟨ho, hk⟩)
        clear ho hk
        go_wp2
        refine bodyPost_ret (results_cell_tmp rfl _ _ _ ⟨mb, 0, none⟩ (.agg (arr16 c)) rfl (loadVar63 HO.out.1)) rfl ?_
        exact ⟨c, by rw [HBAD.out]; rfl, fun h => (by rw [HBAD.out] at h; cases h), HO.out.2⟩
    · obtain rfl : i = xs.length := by omega
      have c0 := cells16 ho 0 (by omega)
      have z0' := frozen_of ho 0
      have hset := set_obj ho 0 (.int .i64 0)
      rw [show (0 : Int) = ((0 : Nat) : Int) from rfl, arr16_set c 0 0 (by omega), show ((0 : Nat) : Int) = (0 : Int) from rfl] at hset
      have hce : (fun k => if k = 0 then 0 else c k) = many xs := by
        funext k
        unfold many
        rw [hc, List.take_length]
      rw [hce] at hset
      have hks : Keep noBlock w (wr.setCell ⟨mb, 0, none⟩ (.int .i64 0)) := hk.setCell (p := ⟨mb, 0, none⟩) (fun h => by have := HM.out; dsimp only at h; omega) _
      have hle' : ∀ x ∈ xs, x ≤ 15 := fun x hx => by
        obtain ⟨j, hj, e⟩ := List.mem_iff_getElem.1 hx
        have := hle j hj
        rw [List.getElem?_eq_getElem hj] at this
        simpa [e] using this
      have HS := (show Hid ((wr.setCell ⟨mb, 0, none⟩ (.int .i64 0)).heap[mb]? = some (.cells (arr16 (many xs)) 63 (0, 0)) ∧ Keep noBlock w (wr.setCell ⟨mb, 0, none⟩ (.int .i64 0)) ∧ ∀ x ∈ xs, x ≤ 15) from ⟨hset, hks, hle'⟩)
      clear hset hks hle' hce ho hk hc hle
      go_upto_region 12 with fail
      clear c0 z0'
      generalize wr.setCell ⟨mb, 0, none⟩ (.int .i64 0) = W1 at HS ⊢
      have ho := HS.out.1
      have hmle : ∀ l, many xs l ≤ 1024 := fun l => by
        unfold many
        split
        · omega
        · exact Nat.le_trans List.count_le_length hl
      have HX := (show Hid (isCode xs = decide (partsTo (many xs) 16 = 32768)) from by
        show _ = _
        unfold isCode
        by_cases h : partsTo (many xs) 16 = 32768
        · rw [decide_eq_true h]; exact decide_eq_true ⟨hl, HS.out.2.2, h⟩
        · rw [decide_eq_false h]; exact decide_eq_false (fun h' => h h'.2.2))
      obtain ⟨m, hm⟩ : ∃ m, m = many xs := ⟨_, rfl⟩
      rw [← hm] at ho hmle HX
      have HMM := (show Hid (m = many xs) from hm)
      clear hm
      have k0 := cells16 ho 0 (by omega)
      have z0 := frozen_of ho 0
      have k1 := cells16 ho 1 (by omega)
      have z1 := frozen_of ho 1
      have k2 := cells16 ho 2 (by omega)
      have z2 := frozen_of ho 2
      have k3 := cells16 ho 3 (by omega)
      have z3 := frozen_of ho 3
      have k4 := cells16 ho 4 (by omega)
      have z4 := frozen_of ho 4
      have k5 := cells16 ho 5 (by omega)
      have z5 := frozen_of ho 5
      have k6 := cells16 ho 6 (by omega)
      have z6 := frozen_of ho 6
      have k7 := cells16 ho 7 (by omega)
      have z7 := frozen_of ho 7
      have k8 := cells16 ho 8 (by omega)
      have z8 := frozen_of ho 8
      have k9 := cells16 ho 9 (by omega)
      have z9 := frozen_of ho 9
      have k10 := cells16 ho 10 (by omega)
      have z10 := frozen_of ho 10
      have k11 := cells16 ho 11 (by omega)
      have z11 := frozen_of ho 11
      have k12 := cells16 ho 12 (by omega)
      have z12 := frozen_of ho 12
      have k13 := cells16 ho 13 (by omega)
      have z13 := frozen_of ho 13
      have k14 := cells16 ho 14 (by omega)
      have z14 := frozen_of ho 14
      have k15 := cells16 ho 15 (by omega)
      have z15 := frozen_of ho 15
      have HO := (show Hid (W1.heap[mb]? = some (.cells (arr16 m) 63 (0, 0))) from ho)
      clear ho
      go_wp2
      rw [← arr16_lit m]
      have HAt := (show Hid (∀ l, l < 16 → (arr16 m)[l]? = some (.int .i64 ((m l : Nat) : Int))) from arr16_at m)
      generalize arr16 m = A at HAt ⊢
      go_loopw [6, 30] (fun vp vi wk => ∃ i : Nat, vi = .int .i64 (i : Int) ∧ i ≤ 16 ∧ vp = .int .i64 ((partsTo m i : Nat) : Int) ∧ wk = W1) (fun _ vi _ => 16 - (intOf vi).toNat)
      case atStart => exact ⟨0, rfl, by omega, rfl, rfl⟩
      case round =>
        obtain ⟨i, rfl, hi16, rfl, rfl⟩ := hrel
        by_cases hlt16 : i < 16
        · have hAi : ∀ W, _ := fun W => run_index63 A i hlt16 _ (HAt.out i hlt16) W
          obtain ⟨q, hq⟩ : ∃ q, q = 15 - i := ⟨_, rfl⟩
          have hqI : (15 : Int) - (i : Int) = (q : Int) := by omega
          have hmi := hmle i
          obtain ⟨z, hz⟩ : ∃ z, z = m i * 2 ^ q := ⟨_, rfl⟩
          have hzI : ((m i : Nat) : Int) * 2 ^ q = (z : Int) := by rw [hz]; simp
          have hzb : z ≤ 33554432 := by
            have h1 : m i * 2 ^ q ≤ 1024 * 2 ^ 15 := Nat.mul_le_mul hmi (Nat.pow_le_pow_right (by omega) (by omega))
            omega
          have hpb := partsTo_le m hmle i
          have HP := (show Hid (partsTo m (i + 1) = partsTo m i + z) from by show _ = _; rw [partsTo, hz, hq])
          generalize partsTo m i = p0 at hpb HP ⊢
          generalize m i = mi at hAi hzI
          clear hz hq hmi hmle
          go_wp2
          go_roundw
          case rel => exact ⟨i + 1, by go_num, by omega, by rw [HP.out]; congr 1 <;> omega, trivial⟩
          case measure => simp [intOf]; omega
        · obtain rfl : i = 16 := by omega
          rw [show ((16 : Nat) : Int) = (16 : Int) from rfl]
          generalize partsTo m 16 = p16 at HX ⊢
          clear hmle
          go_wp2
          refine bodyPost_ret (results_cell_tmp rfl _ _ _ ⟨mb, 0, none⟩ (.agg (arr16 m)) rfl (loadVar63 HO.out)) rfl ?_
          exact ⟨m, by rw [HX.out, show decide (p16 = 32768) = ((p16 : Int) == 32768) from by rw [Bool.eq_iff_iff]; simp; omega]; rfl, fun _ => HMM.out, HS.out.2.1⟩

end Go.Proofs.Ytapcohpagipkpaa
