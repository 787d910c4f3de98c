/-
  A new XXH64, and bytes that go into one.
-/
import Derived.Test.YtoohkldhfkoocaaXval
namespace Go.Proofs.Ytoohkldhfkoocaa
open Go.RowKit Go.Shelf
set_option linter.unusedVariables false

def build60 (parts : Array (Nat × Value)) : Sem Value := Instr.build 60 parts
theorem run_build60 (parts : Array (Nat × Value)) : Instr.build 60 parts = build60 parts := rfl
def xxhZero : Array Value := ([Value.int .u64 6983438078262162902, .int .u64 14029467366897019727, .int .u64 0, .int .u64 7046029288634856825] ++ List.replicate 32 (Value.int .u8 0) ++ [Value.int .u64 0]).toArray
theorem build60_at (w : World) : (build60 #[(0, .agg #[.int .u64 6983438078262162902, .int .u64 14029467366897019727, .int .u64 0, .int .u64 7046029288634856825])]).run Try.prog w = .ok (.agg xxhZero) w :=
  run_build w 60 _ xxhZero (by kernel_rfl)
theorem rep_at (a b c d z n : Value) (m j : Nat) (hj : j < m) : ([a, b, c, d] ++ List.replicate m z ++ [n]).toArray[4 + j]? = some z := by
  simp only [List.getElem?_toArray]
  rw [List.getElem?_append_left (by simp; omega), List.getElem?_append_right (by simp)]
  simp [hj]
theorem xxhZero_c : Xc [] 0 0 xxhZero := by
  refine ⟨rfl, fun i hi => ?_, fun j hj => ⟨0, rep_at _ _ _ _ _ _ 32 j hj⟩, fun j hj => by omega, rfl⟩
  obtain rfl | rfl | rfl | rfl : i = 0 ∨ i = 1 ∨ i = 2 ∨ i = 3 := by omega
  all_goals rfl

section
attribute [local go_sem ↓] run_build60
set_option maxHeartbeats 1000000 in
theorem newX_any (w : World) : Calls Try.prog 26 #[] w fun e w' => e = .returned (.pointer (some ⟨w.heap.size, 0, none⟩)) ∧ IsX w' w.heap.size [] ∧ Keep noBlock w w' := by
  have hb := build60_at
  have hw1 : IntKind.u64.wrap 25430182151971714518 = 6983438078262162902 := by rw [IntKind.wrap_u64]; rfl
  have hw2 : IntKind.u64.wrap (-11400714785074694791) = 7046029288634856825 := by rw [IntKind.wrap_u64]; rfl
  go_enter Try.func26, Try.ntmps26
  go_wp2_with fail
  go_ret
  exact ⟨rfl, ⟨⟨xxhZero, World.alloc_heap_new w _, xxhZero_c⟩, fun j => by simp, by decide⟩, (Keep.refl _ w).alloc _⟩
end

/-- A store of one of the four. -/
theorem Xc.setFour {bs : List Nat} {k r : Nat} {cs : Array Value} (i : Nat) (v : Nat) (hs : cs.size = 37) (hi : i < 4) (h : ∀ j, j < 4 → cs[j]? = some (.int .u64 ((if j < i then lane bs (k + 1) j else lane bs k j : Nat) : Int))) (hv : v = lane bs (k + 1) i) :
    ∀ j, j < 4 → (cs.setIfInBounds i (.int .u64 (v : Int)))[j]? = some (.int .u64 ((if j < i + 1 then lane bs (k + 1) j else lane bs k j : Nat) : Int)) := by
  intro j hj
  rw [Array.getElem?_setIfInBounds]
  by_cases e : i = j
  · subst e
    rw [if_pos rfl, if_pos (by omega), if_pos (by omega), hv]
  · rw [if_neg e, h j hj]
    by_cases h2 : j < i
    · rw [if_pos h2, if_pos (by omega)]
    · rw [if_neg h2, if_neg (by omega)]

/-- The cells within a stripe's taking: i of the four are taken. -/
structure Xs (bs : List Nat) (k i : Nat) (cs : Array Value) : Prop where
  size : cs.size = 37
  four : ∀ j, j < 4 → cs[j]? = some (.int .u64 ((if j < i then lane bs (k + 1) j else lane bs k j : Nat) : Int))
  rest : ∀ j, j < 32 → cs[4 + j]? = some (.int .u8 ((bs[32 * k + j]?.getD 0 : Nat) : Int))
  num : cs[36]? = some (.int .u64 (bs.length : Int))

theorem Xs.set {bs : List Nat} {k i : Nat} {cs : Array Value} (h : Xs bs k i cs) (hi : i < 4) : Xs bs k (i + 1) (cs.setIfInBounds i (.int .u64 ((lane bs (k + 1) i : Nat) : Int))) := by
  have hs := h.size
  refine ⟨by simp [hs], Xc.setFour (r := 0) i _ hs hi h.four rfl, fun j hj => ?_, ?_⟩
  · rw [Array.getElem?_setIfInBounds, if_neg (by omega)]; exact h.rest j hj
  · rw [Array.getElem?_setIfInBounds, if_neg (by omega)]; exact h.num

/-- Bytes that are copied behind those that wait. -/
def grown (cs : Array Value) (m : Nat) (X : List Nat) (n : Nat) : Array Value :=
  ((cs.toList.take (4 + m) ++ (u8s X ++ cs.toList.drop (4 + m + (u8s X).length))).toArray).setIfInBounds 36 (.int .u64 (n : Int))
theorem mid_at {α : Type} (l x : List α) (p i : Nat) (hl : p + x.length ≤ l.length) : (l.take p ++ (x ++ l.drop (p + x.length)))[i]? = if i < p then l[i]? else if i < p + x.length then x[i - p]? else l[i]? := by
  by_cases h1 : i < p
  · rw [if_pos h1, List.getElem?_append_left (by simp; omega), List.getElem?_take, if_pos h1]
  · rw [if_neg h1, List.getElem?_append_right (by simp; omega), List.length_take, Nat.min_eq_left (by omega)]
    by_cases h2 : i < p + x.length
    · rw [if_pos h2, List.getElem?_append_left (by omega)]
    · rw [if_neg h2, List.getElem?_append_right (by omega), List.getElem?_drop]
      congr 1; omega
theorem app_left (L X : List Nat) (j : Nat) (h : j < L.length) : (L ++ X)[j]?.getD 0 = L[j]?.getD 0 := by rw [List.getElem?_append_left h]
theorem app_right (L X : List Nat) (j : Nat) : (L ++ X)[L.length + j]?.getD 0 = X[j]?.getD 0 := by rw [List.getElem?_append_right (by omega)]; congr 2; omega
theorem Xc.grow {L : List Nat} {cs : Array Value} (h : Xc L (L.length / 32) (L.length % 32) cs) (X : List Nat) (hX : L.length % 32 + X.length ≤ 32) :
    Xc (L ++ X) (L.length / 32) (L.length % 32 + X.length) (grown cs (L.length % 32) X (L.length + X.length)) := by
  have hs := h.size
  have hsl : cs.toList.length = 37 := by simpa using hs
  have hat : ∀ i, i < 36 → (grown cs (L.length % 32) X (L.length + X.length))[i]? = if i < 4 + L.length % 32 then cs[i]? else if i < 4 + L.length % 32 + X.length then (u8s X)[i - (4 + L.length % 32)]? else cs[i]? := fun i hi => by
    unfold grown
    rw [Array.getElem?_setIfInBounds, if_neg (by omega), List.getElem?_toArray, mid_at _ _ _ _ (by rw [u8s_length]; omega), u8s_length]
    simp
  refine ⟨?_, fun i hi => ?_, fun j hj => ?_, fun j hj => ?_, ?_⟩
  · unfold grown
    simp [u8s_length]; omega
  · rw [hat i (by omega), if_pos (by omega), h.four i hi, lane_of L (L ++ X) (L.length / 32) i hi (fun j hj => (app_left L X j (by omega)).symm)]
  · rw [hat _ (by omega)]
    split
    · exact h.all j hj
    · split
      · rw [u8s_at X _ (by omega)]; exact ⟨_, rfl⟩
      · exact h.all j hj
  · rw [hat _ (by omega)]
    by_cases hj2 : j < L.length % 32
    · rw [if_pos (by omega), h.rest j hj2, app_left L X _ (by omega)]
    · rw [if_neg (by omega), if_pos (by omega), u8s_at X _ (by omega)]
      have e : 32 * (L.length / 32) + j = L.length + (j - L.length % 32) := by omega
      have e2 : 4 + j - (4 + L.length % 32) = j - L.length % 32 := by omega
      rw [e, app_right, e2]
  · unfold grown
    rw [Array.getElem?_setIfInBounds, if_pos rfl, if_pos (by simp [u8s_length]; omega)]
    simp

set_option maxRecDepth 100000 in
set_option maxHeartbeats 4000000 in
/-- takeStripe: a whole stripe goes into the four. -/
theorem stripe_any (b : Nat) (bs : List Nat) (k : Nat) (cs : Array Value) (hbs : ∀ j : Nat, bs[j]?.getD 0 < 256) (w : World) (ho : w.heap[b]? = some (.cells cs 60 (0, 0))) (hx : Xs bs k 0 cs) :
    Calls Try.prog 46 #[.pointer (some ⟨b, 0, none⟩)] w fun e w' => e = .returned (.tuple #[]) ∧ (∃ cs', w'.heap[b]? = some (.cells cs' 60 (0, 0)) ∧ Xs bs k 4 cs') ∧ Keep (fun k => k = b) w w' := by
  have hc0 : w.cell? ⟨b, 0, none⟩ = some (.int .u64 ((lane bs k 0 : Nat) : Int)) := (cell_of ho 0).trans (hx.four 0 (by decide))
  have hc1 : w.cell? ⟨b, 1, none⟩ = some (.int .u64 ((lane bs k 1 : Nat) : Int)) := (cell_of ho 1).trans (hx.four 1 (by decide))
  have hc2 : w.cell? ⟨b, 2, none⟩ = some (.int .u64 ((lane bs k 2 : Nat) : Int)) := (cell_of ho 2).trans (hx.four 2 (by decide))
  have hc3 : w.cell? ⟨b, 3, none⟩ = some (.int .u64 ((lane bs k 3 : Nat) : Int)) := (cell_of ho 3).trans (hx.four 3 (by decide))
  have HX := (show Hid _ from hbs)
  have HO := (show Hid _ from ho)
  clear hbs ho
  have hf : ∀ i, lane bs (k + 1) i = round (lane bs k i) (num bs (32 * k + 8 * i) 8) := fun i => rfl
  have HF := (show Hid _ from hf)
  clear hf
  generalize hg : lane bs k = f at hc0 hc1 hc2 hc3 HF
  have HG := (show Hid _ from hg)
  clear hg
  go_enter Try.func46, Try.ntmps46
  go_wp2_with fail
  clear hc0 hc1 hc2 hc3
  go_loopw [8] (fun i wr => ∃ (j : Nat) (cs' : Array Value), j ≤ 4 ∧ i = .int .i64 j ∧ wr.heap[b]? = some (.cells cs' 60 (0, 0)) ∧ Xs bs k j cs' ∧ Keep (fun k => k = b) w wr) (fun i _ => 4 - (intOf i).toNat)
  case atStart => exact ⟨0, cs, by omega, rfl, HO.out, hx, Keep.refl _ _⟩
  case round =>
    clear HO hx
    obtain ⟨j, cs', hj, rfl, ho, hx, hK⟩ := hrel
    by_cases hlt : j < 4
    · obtain ⟨u, hu⟩ : ∃ u, cs'[j]? = some (.int .u64 u) := ⟨_, hx.four j hlt⟩
      have hc : wr.cell? ⟨b, j, none⟩ = some (.int .u64 u) := (cell_of ho j).trans hu
      have hfz := frozen_of ho j
      have hmx : Try.prog.follows .mixedOrders = true := by kernel_rfl
      have hrest : ∀ i, i < 8 → wr.cell? ⟨b, 4 + 8 * j + i, none⟩ = some (.int .u8 ((bs[32 * k + 8 * j + i]?.getD 0 : Nat) : Int)) := fun i hi => by
        rw [Nat.add_assoc 4, Nat.add_assoc (32 * k)]
        exact (cell_of ho _).trans (hx.rest (8 * j + i) (by omega))
      have HR := (show Hid _ from hrest)
      clear hrest
      have hix : ∀ w, (Instr.index 57 (.agg #[.int .u64 (f 0 : Int), .int .u64 (f 1 : Int), .int .u64 (f 2 : Int), .int .u64 (f 3 : Int)]) (.int .i64 (j : Int))).run Try.prog w = .ok (.int .u64 (f j : Int)) w := fun w => by
        obtain rfl | rfl | rfl | rfl : j = 0 ∨ j = 1 ∨ j = 2 ∨ j = 3 := by omega
        · exact idx0 _ _ _ _ w
        · exact idx1 _ _ _ _ w
        · exact idx2 _ _ _ _ w
        · exact idx3 _ _ _ _ w
      obtain ⟨q, hq⟩ : ∃ q, 8 * j = q := ⟨_, rfl⟩
      have hw1 : IntKind.i64.wrap (8 * (j : Int)) = (q : Int) := by rw [IntKind.wrap_i64]; omega
      have hw2 : IntKind.i64.wrap ((q : Int) + 8) = (q : Int) + 8 := by rw [IntKind.wrap_i64]; omega
      have hb1 : (q : Int) + 8 ≤ 32 := by omega
      have hb0 : (0 : Int) ≤ (q : Int) := by omega
      have hb2 : (q : Int) ≤ (q : Int) + 8 := by omega
      have hb3 : ¬ 32 = q := by omega
      have hlen : ((q : Int) + 8).toNat - q = 8 := by omega
      rw [hq] at HR
      have HQ := (show Hid _ from hq)
      clear hq
      go_wp2_with fail
      go_region_with (first | (go_at_call 50; refine (number_any 8 (32 - q) b (4 + q) bs (32 * k + q) (by decide) _ ?_ HX.out).mono ?_; exact fun i hi => HR.out i hi; rintro e w' ⟨rfl, n1, rfl⟩) | (go_at_call 49; refine (round_any (f j) (num bs (32 * k + q) 8) _ _ rfl rfl _).mono ?_; rintro e w' ⟨rfl, n2, rfl⟩))
      go_wp2
      go_roundw
      case rel =>
        have hl : round (f j) (num bs (32 * k + q) 8) = lane bs (k + 1) j := by rw [HF.out j, HQ.out]
        rw [hl]
        exact ⟨j + 1, _, by omega, by go_num, set_obj (w := wr.drewN _) ho j _, hx.set hlt, hK.trans (Keep.setCell (S := fun i => i = b) (p := ⟨b, j, none⟩) (keep_drewN wr _ |>.mono (fun _ _ h => h.elim)) (fun _ => rfl) _) (fun i _ e => e)⟩
      case measure => simp [intOf]; omega
    · obtain rfl : j = 4 := by omega
      go_wp2
      go_end0
      exact ⟨rfl, ⟨cs', ho, hx⟩, hK⟩

end Go.Proofs.Ytoohkldhfkoocaa
