/-
  pathOf: the states that tell some codes, from the last one to the first.
  pathOf, walked.
  Read of a description: all counts.
  Read of a description, as Write gives it, whatever stands behind.
  states.Read of a description that lies in bytes, whatever stands behind, at any place of a block.
-/
import Derived.Deep.WholeRow
import Derived.Test.YtgaepmmpedaaiaaGreatDoorBackQ4
import Derived.Test.YtgaepmmpedaaiaaGreatDoorBackQ6
import Derived.Test.YtgaepmmpedaaiaaGreatDoorBackQ7
import Derived.Test.YtgaepmmpedaaiaaGreatDoorBackQ11
namespace Go.Proofs.YtgaepmmpedaaiaaGreatDoor
open Go.RowKit Go.Shelf
set_option linter.unusedVariables false

theorem ownL_mem (sy : Nat → Nat) (s n j i : Nat) (h : (ownL sy s n)[j]? = some i) : i < n ∧ sy i = s := by
  have := List.mem_of_getElem? h
  unfold ownL at this
  simpa using this
theorem OwnS.rowU {w W : World} {ob : Nat} {sy : Nat → Nat} {n : Nat} {vs : Nat → Value} (h : OwnS w W ob sy n vs) (s : Nat) (hs : s < 53) (h1 : 1 ≤ cntY sy s n) : ∃ gb cap, vs s = .slice (some ⟨gb, 0, none⟩) (cntY sy s n) cap ∧ RowU W (some ⟨gb, 0, none⟩) gb (ownL sy s n) := by
  have hr := h.row s hs
  have hl := ownL_length sy s n
  rcases hr.2 with ⟨e, h0⟩ | ⟨g, cap, cur, e, _, hg, h2, h3, h4, h5⟩
  · omega
  · refine ⟨g, cap, by rw [e, hl], .inl rfl, fun j hj => ?_⟩
    rw [cell_of hg]
    have := congrArg (fun l => l[j]?) h5
    simp only [Nat.mul_one] at this
    rw [List.getElem?_take, if_pos hj, Array.getElem?_toList] at this
    rw [this]
    simp [u16s, List.getElem?_map, List.getElem?_eq_getElem hj]
/-- A path of states: each tells its code, and leads to the next one. -/
structure PathOk (sy bi ba : Nat → Nat) (n : Nat) (cs : List Nat) (f : Nat → Nat) (k : Nat) : Prop where
  st : ∀ j, k ≤ j → j < cs.length → f j < n ∧ sy (f j) = cs[j]?.getD 0
  nx : ∀ j, k ≤ j → j + 1 < cs.length → ba (f j) ≤ f (j + 1) ∧ f (j + 1) < ba (f j) + 2 ^ bi (f j)
theorem PathOk.step {sy bi ba : Nat → Nat} {n : Nat} {cs : List Nat} {f : Nat → Nat} {k i : Nat} (h : PathOk sy bi ba n cs f (k + 1)) (hk : k + 1 < cs.length) (h1 : i < n) (h2 : sy i = cs[k]?.getD 0) (h3 : ba i ≤ f (k + 1)) (h4 : f (k + 1) < ba i + 2 ^ bi i) : PathOk sy bi ba n cs (fun j => if j = k then i else f j) k := by
  refine ⟨fun j hj1 hj2 => ?_, fun j hj1 hj2 => ?_⟩
  · by_cases e : j = k
    · rw [if_pos e, e]; exact ⟨h1, h2⟩
    · rw [if_neg e]; exact h.st j (by omega) hj2
  · by_cases e : j = k
    · rw [if_pos e, if_neg (by omega), e]; exact ⟨h3, h4⟩
    · rw [if_neg e, if_neg (by omega)]; exact h.nx j (by omega) hj2
/-- A table as it lies, and codes that it has. -/
structure TabC (w : World) (g l : Nat) (sy bi ba : Nat → Nat) (cs : List Nat) : Prop where
  tab : RowT w g (2 ^ l) sy bi ba
  hl : l ≤ 9
  xt : XT sy bi ba l
  sm : ∀ i, i < 2 ^ l → sy i < 53
  has : ∀ c ∈ cs, c < 53 ∧ 1 ≤ cntY sy c (2 ^ l)
theorem TabC.keep {w w' : World} {S : Nat → Prop} {g l : Nat} {sy bi ba : Nat → Nat} {cs : List Nat} (h : TabC w g l sy bi ba cs) (hk : Keep S w w') (hS : ¬ S g) : TabC w' g l sy bi ba cs := ⟨h.tab.keep hk hS, h.hl, h.xt, h.sm, h.has⟩
theorem xOf_bounds (sy : Nat → Nat) (l i : Nat) (hi : i < 2 ^ l) : xOf sy (2 ^ l) i ≠ 0 ∧ xOf sy (2 ^ l) i < 2 ^ (l + 1) := by
  have h1 : cntY sy (sy i) i < cntY sy (sy i) (2 ^ l) := cntP_lt _ i (2 ^ l) hi (by simp)
  have h2 : cntY sy (sy i) (2 ^ l) ≤ 2 ^ l := cntP_le _ _
  unfold xOf
  rw [Nat.pow_succ]
  omega
theorem XT.fits {sy bi ba : Nat → Nat} {l : Nat} (h : XT sy bi ba l) (i : Nat) (hi : i < 2 ^ l) : bi i ≤ l ∧ ba i < 2 ^ l ∧ ba i + 2 ^ bi i ≤ 2 ^ l := by
  obtain ⟨e1, e2⟩ := h i hi
  obtain ⟨x1, x2⟩ := xOf_bounds sy l i hi
  obtain ⟨d1, d2, d3, d4, d5⟩ := cell_fits l _ x1 x2
  rw [e1, e2]
  have hp : 2 ^ (l + 1) = 2 * 2 ^ l := by rw [Nat.pow_succ]; omega
  refine ⟨d1, by unfold baseF; omega, ?_⟩
  have ep : 2 ^ (l + 1) = 2 ^ (l + 1 - bitF l (xOf sy (2 ^ l) i)) * 2 ^ bitF l (xOf sy (2 ^ l) i) := by rw [← Nat.pow_add]; congr 1; omega
  have h3 : xOf sy (2 ^ l) i < 2 ^ (l + 1 - bitF l (xOf sy (2 ^ l) i)) := by
    have := (lenN_pos _ x1).2.1
    rw [show l + 1 - bitF l (xOf sy (2 ^ l) i) = lenN (xOf sy (2 ^ l) i) from by unfold bitF; omega]
    exact this
  have h4 : (xOf sy (2 ^ l) i + 1) * 2 ^ bitF l (xOf sy (2 ^ l) i) ≤ 2 ^ (l + 1) := by rw [ep]; exact Nat.mul_le_mul_right _ h3
  rw [Nat.add_mul, Nat.one_mul] at h4
  unfold baseF
  omega
theorem run_make120 (n : Nat) (h : n ≤ 65535) (w : World) : (Instr.makeSlice 120 (.int .i64 (n : Int)) (.int .i64 (n : Int))).run Tryz.prog w = .ok (.slice (some ⟨w.heap.size, 0, none⟩) n n) (w.alloc (.cells (madeCells #[.int .u16 0] n) 77)) :=
  run_make_row' 120 77 (.int .u16 0) 2 Tryz.underlying120 info77 rfl .i64 .i64 n (by omega) (by omega) w
theorem isA_new77 (w : World) (n : Nat) : IsA (w.alloc (.cells (madeCells #[.int .u16 0] n) 77)) w.heap.size 77 .u16 n (fun _ => 0) :=
  ⟨_, World.alloc_heap_new w _, size_madeCells _ _, fun i hi => by simp [madeCells, hi, Nat.mod_one]⟩
end Go.Proofs.YtgaepmmpedaaiaaGreatDoor

namespace Go.Proofs.YtgaepmmpedaaiaaGreatDoor
open Go.RowKit Go.Shelf
set_option linter.unusedVariables false

def PathPost (w : World) (l : Nat) (sy bi ba : Nat → Nat) (cs : List Nat) (e : Ending) (w' : World) : Prop :=
  ∃ (pg : Nat) (f : Nat → Nat) (t : Nat), e = .returned (.tuple #[.slice (some ⟨pg, 0, none⟩) cs.length cs.length, .int .i64 (t : Int)]) ∧ IsA w' pg 77 .u16 cs.length (fun j => ((f j : Nat) : Int)) ∧ PathOk sy bi ba (2 ^ l) cs f 0 ∧ t ≤ 12 * (cs.length + 1) ∧ w.heap.size ≤ pg ∧ Keep noBlock w w'
theorem arr53_size (vs : Nat → Value) : (arr53 vs).size = 53 := by simp [arr53]
theorem arr53_at (vs : Nat → Value) (s : Nat) (hs : s < 53) : (arr53 vs)[s]? = some (vs s) := by
  unfold arr53
  rw [List.getElem?_toArray, List.getElem?_map, List.getElem?_range hs]
  rfl
theorem OwnS.one {w W : World} {ob : Nat} {sy : Nat → Nat} {n : Nat} {vs : Nat → Value} (h : OwnS w W ob sy n vs) : (arr53 vs).all (·.oneCell') = true := by
  unfold arr53
  refine all_oneCell_toArray (fun v hv => ?_)
  obtain ⟨s, hs, rfl⟩ := List.mem_map.1 hv
  have hs' : s < 53 := by simpa using hs
  rcases (h.row s hs').2 with ⟨e, _⟩ | ⟨gg, cc, cur, e, _⟩ <;> rw [e] <;> rfl
/-- The rows of states, and a block that has their slices. -/
structure OwnB (w W : World) (b : Nat) (sy : Nat → Nat) (n : Nat) (vs : Nat → Value) : Prop where
  own : ∃ ob, OwnS w W ob sy n vs
  blk : W.heap[b]? = some (.cells (arr53 vs) 170 (0, 0))
  new : w.heap.size ≤ b
theorem OwnB.still {w W W' : World} {b : Nat} {sy : Nat → Nat} {n : Nat} {vs : Nat → Value} (h : OwnB w W b sy n vs) (hk : Keep noBlock W W') : OwnB w W' b sy n vs := by
  obtain ⟨ob, ho⟩ := h.own
  exact ⟨⟨ob, ho.still hk⟩, hk.obj h.blk (fun h => h), h.new⟩
theorem OwnB.at_ {w W : World} {b : Nat} {sy : Nat → Nat} {n : Nat} {vs : Nat → Value} (h : OwnB w W b sy n vs) (s : Nat) (hs : s < 53) (h1 : 1 ≤ cntY sy s n) : ∃ gb cap, W.cell? ⟨b, s, none⟩ = some (.slice (some ⟨gb, 0, none⟩) (cntY sy s n) cap) ∧ RowU W (some ⟨gb, 0, none⟩) gb (ownL sy s n) := by
  obtain ⟨ob, ho⟩ := h.own
  obtain ⟨gb, cap, e, hr⟩ := ho.rowU s hs h1
  exact ⟨gb, cap, by rw [cell_of h.blk, arr53_at vs s hs, e], hr⟩

set_option maxRecDepth 10000 in
set_option maxHeartbeats 8000000 in
theorem pathOf_any (g l cap : Nat) (sy bi ba : Nat → Nat) (a : Option Addr) (capc gc off : Nat) (cs : List Nat) (w : World) (hT : TabC w g l sy bi ba cs) (hB : Bytes w a capc gc off cs) (h1 : 1 ≤ cs.length) (h2 : cs.length ≤ 65535) :
    Calls Tryz.prog 69 #[.slice (some ⟨g, 0, none⟩) (2 ^ l) cap, .slice a cs.length capc] w fun e w' => PathPost w l sy bi ba cs e w' := by
  obtain ⟨n, hn⟩ : ∃ n, n = 2 ^ l := ⟨_, rfl⟩
  have hp12 := pow12 (show l ≤ 12 by have := hT.hl; omega)
  obtain rfl := hB.at_.resolve_right (fun e => by rw [e] at h1; simp at h1)
  have HS := hid (statesOf_any g (2 ^ l) cap sy bi ba w hT.tab hp12 hT.sm)
  have HL := hid (fun W => logOf_any (some ⟨g, 0, none⟩) (2 ^ l) l cap rfl (by have := hT.hl; omega) W)
  obtain ⟨N, hN⟩ : ∃ N, N = cs.length := ⟨_, rfl⟩
  have HE := (show Hid (TabC w g l sy bi ba cs ∧ Bytes w (some ⟨gc, off, none⟩) capc gc off cs ∧ N = cs.length ∧ n = 2 ^ l) from ⟨hT, hB, hN, hn⟩)
  have hl9 := hT.hl
  rw [← hN] at h1 h2 ⊢
  rw [← hn] at HS HL hp12 ⊢
  have hNI : (N : Int) ≤ 65535 := by omega
  have hN1I : (1 : Int) ≤ (N : Int) := by omega
  have hnI : (n : Int) ≤ 4096 := by omega
  have hlI : (l : Int) ≤ 9 := by omega
  have hmk := run_make120 N (by omega)
  obtain ⟨m, hm⟩ : ∃ m, m = N - 1 := ⟨_, rfl⟩
  have hmI : (N : Int) - 1 = (m : Int) := by omega
  have HM := hid hm
  clear hT hB hN hn hm
  go_enter Tryz.func69, Tryz.ntmps69
  go_wp2_with fail
  refine HS.out.mono ?_
  rintro e w1 ⟨vs, ob, rfl, hS⟩
  rw [HE.out.2.2.2] at hS
  have HS1 := hid hS
  have HZ1 : Hid ((Tryz.prog.info? 170).map (·.size) = some (arr53 vs).size) := by rw [arr53_size]; exact info170
  have HZ4 : Hid ((#[.slice none 0 0, .slice none 0 0, .slice none 0 0, .slice none 0 0, .slice none 0 0, .slice none 0 0, .slice none 0 0, .slice none 0 0, .slice none 0 0, .slice none 0 0, .slice none 0 0, .slice none 0 0, .slice none 0 0, .slice none 0 0, .slice none 0 0, .slice none 0 0, .slice none 0 0, .slice none 0 0, .slice none 0 0, .slice none 0 0, .slice none 0 0, .slice none 0 0, .slice none 0 0, .slice none 0 0, .slice none 0 0, .slice none 0 0, .slice none 0 0, .slice none 0 0, .slice none 0 0, .slice none 0 0, .slice none 0 0, .slice none 0 0, .slice none 0 0, .slice none 0 0, .slice none 0 0, .slice none 0 0, .slice none 0 0, .slice none 0 0, .slice none 0 0, .slice none 0 0, .slice none 0 0, .slice none 0 0, .slice none 0 0, .slice none 0 0, .slice none 0 0, .slice none 0 0, .slice none 0 0, .slice none 0 0, .slice none 0 0, .slice none 0 0, .slice none 0 0, .slice none 0 0, .slice none 0 0] : Array Value).size = (arr53 vs).size) := by rw [arr53_size]; rfl
  have HZ3 := hid hS.one
  clear hS HS
  go_wp2_with (refine wpList_store_row rfl 170 (.tmp 6) (.tmp 11) rfl w1.heap.size (arr53 vs) rfl rfl 170 _ (World.alloc_heap_new w1 _) HZ1.out HZ4.out HZ3.out ?_; rw [World.setRow_alloc_new])
  have hOB : OwnB w (w1.alloc (.cells (arr53 vs) 170)) w1.heap.size sy (2 ^ l) vs := ⟨⟨ob, HS1.out.still ((Keep.refl _ w1).alloc _)⟩, alloc_new w1 _, HS1.out.kp.size⟩
  have hk2 : Keep noBlock w (w1.alloc (.cells (arr53 vs) 170)) := HS1.out.kp.alloc _
  generalize w1.alloc (.cells (arr53 vs) 170) = W2 at *
  generalize w1.heap.size = sb at *
  clear HS1 HZ1 HZ4 HZ3
  refine (HL.out _).mono ?_
  rintro e w' ⟨rfl, rfl⟩
  have HB2 := hid hOB
  have HK2 := hid hk2
  have hA := isA_new77 w' N
  have hka : Keep noBlock w' (w'.alloc (.cells (madeCells #[.int .u16 0] N) 77)) := (Keep.refl _ w').alloc _
  have HA := (show Hid (∀ W3, W3 = w'.alloc (.cells (madeCells #[.int .u16 0] N) 77) → IsA W3 w'.heap.size 77 .u16 N (fun _ => 0) ∧ OwnB w W3 sb sy (2 ^ l) vs ∧ Keep noBlock w W3 ∧ Keep noBlock w' W3) from fun W3 e => by
    rw [e]; exact ⟨hA, hOB.still hka, hk2.trans hka (fun _ _ h => h), hka⟩)
  clear hOB hk2 hA hka
  have hmN : m < N := by have := HM.out; omega
  have hmNI : (m : Int) < (N : Int) := by omega
  -- the last code
  obtain ⟨c, hc⟩ : ∃ c, c = cs[m]?.getD 0 := ⟨_, rfl⟩
  have hcm : c ∈ cs := by rw [hc, List.getElem?_eq_getElem (by rw [← HE.out.2.2.1]; exact hmN)]; exact List.getElem_mem _
  obtain ⟨hc53, hcn⟩ := HE.out.1.has c hcm
  have hcI : (c : Int) < 53 := by omega
  obtain ⟨W3, hW3⟩ : ∃ W3, W3 = w'.alloc (.cells (madeCells #[.int .u16 0] N) 77) := ⟨_, rfl⟩
  obtain ⟨hA3, hB3, hK3, hK23⟩ := HA.out W3 hW3
  obtain ⟨gb, ocap, o1, o2⟩ := hB3.at_ c hc53 hcn
  have e1 := (HE.out.2.1.keep hK3 (fun _ h => h)).cells m (by rw [← HE.out.2.2.1]; exact hmN)
  rw [← hc] at e1
  obtain ⟨i0, hi0⟩ : ∃ i0, (ownL sy c (2 ^ l))[0]? = some i0 := ⟨_, List.getElem?_eq_getElem (by rw [ownL_length]; omega)⟩
  have e2 := o2.cells 0 (by rw [ownL_length]; omega)
  rw [hi0] at e2
  obtain ⟨hi1, hi2⟩ := ownL_mem _ _ _ _ _ hi0
  obtain ⟨q, hq⟩ : ∃ q, q = cntY sy c (2 ^ l) := ⟨_, rfl⟩
  rw [← hq] at o1 hcn
  have hq0 : 0 < q := by omega
  obtain ⟨pg, hpg⟩ : ∃ pg, pg = w'.heap.size := ⟨_, rfl⟩
  rw [← hpg] at hA3
  have e3 := hA3.cell m hmN
  have e4 := hA3.frozen m
  have HP0 := (show Hid (IsA (W3.setCell ⟨pg, m, none⟩ (.int .u16 (i0 : Int))) pg 77 .u16 N (fun j => (((if j = m then i0 else 0) : Nat) : Int)) ∧ PathOk sy bi ba (2 ^ l) cs (fun j => if j = m then i0 else 0) m ∧ Keep noBlock w' (W3.setCell ⟨pg, m, none⟩ (.int .u16 (i0 : Int))) ∧ OwnB w (W3.setCell ⟨pg, m, none⟩ (.int .u16 (i0 : Int))) sb sy (2 ^ l) vs) from by
    have hk : Keep noBlock w' (W3.setCell ⟨pg, m, none⟩ (.int .u16 (i0 : Int))) := hK23.setCell (p := ⟨pg, m, none⟩) (fun h => by dsimp only at h; omega) _
    refine ⟨(hA3.set m (i0 : Int)).congr (fun j hj => ?_), ⟨fun j hj1 hj2 => ?_, fun j hj1 hj2 => ?_⟩, hk, HB2.out.still hk⟩
    · by_cases e : j = m
      · rw [if_pos e, if_pos e]
      · rw [if_neg e, if_neg e]; rfl
    · have e : j = m := by have := HM.out; have := HE.out.2.2.1; omega
      rw [if_pos e, e]
      exact ⟨hi1, by rw [hi2, hc]⟩
    · have := HM.out; have := HE.out.2.2.1; omega)
  have HPG := hid hpg
  have hmk' := hmk w'
  rw [← hW3, ← hpg] at hmk'
  clear hmk hW3
  clear hA3 hB3 hK3 hK23 o2 hi0 hi1 hi2 hq hcm hc HA hpg
  go_wp2_with fail
  generalize W3.setCell ⟨pg, m, none⟩ (.int .u16 (i0 : Int)) = W4 at *
  have hl12 : l ≤ 12 := by omega
  clear e1 e2 e3 e4 o1 hq0 hcn hc53 hmk'
  go_loopw [5, 9] (fun v5 v9 wr => ∃ (k t : Nat) (f : Nat → Nat), v9 = .int .i64 ((k : Int) - 1) ∧ v5 = .int .i64 (t : Int) ∧ k ≤ m ∧ Hid (IsA wr pg 77 .u16 N (fun j => ((f j : Nat) : Int)) ∧ PathOk sy bi ba (2 ^ l) cs f k ∧ Keep noBlock w' wr ∧ t ≤ l + 12 * (m - k))) (fun _ v9 _ => (intOf v9 + 1).toNat)
  case atStart => exact ⟨m, l, _, by go_num, rfl, Nat.le_refl _, HP0.out.1, HP0.out.2.1, HP0.out.2.2.1, by omega⟩
  case round =>
    clear HP0
    obtain ⟨k, t, f, rfl, rfl, hk, HC⟩ := hrel
    obtain ⟨hA, hP, hKw, ht⟩ := HC.out
    rcases k with _ | k
    · have HF := (show Hid (IsA wr pg 77 .u16 N (fun j => ((f j : Nat) : Int)) ∧ PathOk sy bi ba (2 ^ l) cs f 0 ∧ Keep noBlock w' wr ∧ t ≤ l + 12 * (m - 0)) from ⟨hA, hP, hKw, ht⟩)
      clear hA hP hKw ht HC
      rw [show (((0 : Nat) : Int)) - 1 = (-1 : Int) from rfl]
      go_wp2_with fail
      go_ret2
      obtain ⟨q1, q2, q3, q4⟩ := HF.out
      have hm1 := HM.out
      have hN1 := HE.out.2.2.1
      refine ⟨pg, f, t, by rw [← hN1]; rfl, by rw [← hN1]; exact q1, q2, by omega, by rw [HPG.out]; exact HK2.out.size, HK2.out.trans q3 (fun _ _ h => h)⟩
    · rw [show (((k + 1 : Nat) : Int)) - 1 = (k : Int) from by omega]
      have hkN : k + 1 < N := by have := HM.out; omega
      have hkI : (k : Int) < (N : Int) := by omega
      have hkI2 : ¬ (k : Int) < 0 := by omega
      obtain ⟨k1, hk1⟩ : ∃ k1, k1 = k + 1 := ⟨_, rfl⟩
      have hk1I : (k : Int) + 1 = (k1 : Int) := by omega
      have hk1N : (k1 : Int) < (N : Int) := by omega
      have hk1n : k1 < N := by omega
      have hwk1 : IntKind.i64.wrap (k1 : Int) = (k1 : Int) := by rw [IntKind.wrap_i64]; omega
      obtain ⟨c, hc⟩ : ∃ c, c = cs[k]?.getD 0 := ⟨_, rfl⟩
      have hcm : c ∈ cs := by rw [hc, List.getElem?_eq_getElem (by rw [← HE.out.2.2.1]; omega)]; exact List.getElem_mem _
      obtain ⟨hc53, hcn⟩ := HE.out.1.has c hcm
      have hcI : (c : Int) < 53 := by omega
      have hkw : Keep noBlock w wr := HK2.out.trans hKw (fun _ _ h => h)
      obtain ⟨W5, hW5⟩ : ∃ W5, W5 = wr.drew := ⟨_, rfl⟩
      have hk5 : Keep noBlock wr W5 := by rw [hW5]; exact (Keep.refl _ wr).drew
      have e1 := (HE.out.2.1.keep (hkw.trans hk5 (fun _ _ h => h)) (fun _ h => h)).cells k (by rw [← HE.out.2.2.1]; omega)
      rw [← hc] at e1
      obtain ⟨gb, ocap, o1, o2⟩ := (HB2.out.still (hKw.trans hk5 (fun _ _ h => h))).at_ c hc53 hcn
      have hA5 := hA.keep hk5 (fun h => h)
      have e2 := hA5.cell k1 hk1n
      obtain ⟨y, hy⟩ : ∃ y, y = f k1 := ⟨_, rfl⟩
      rw [← hy] at e2
      have hyn : y < 2 ^ l := by rw [hy]; exact (hP.st k1 (by omega) (by rw [← HE.out.2.2.1]; exact hk1n)).1
      obtain ⟨i, i1, i2, i3, i4, i5⟩ := lead_at sy bi ba l c y HE.out.1.xt hcn hyn
      have HAh := hid (ahead_at (some ⟨gb, 0, none⟩) ocap gb l y i sy bi ba c W5 (by omega) hyn hcn o2 i3)
      obtain ⟨q, hq⟩ : ∃ q, q = cntY sy c (2 ^ l) := ⟨_, rfl⟩
      rw [← hq] at o1 HAh
      have e3 := hA5.cell k (by omega)
      have e4 := hA5.frozen k
      have hfit := HE.out.1.xt.fits i i1
      obtain ⟨B, hB⟩ : ∃ B, B = bi i := ⟨_, rfl⟩
      have hk6 : Keep noBlock w' (W5.setCell ⟨pg, k, none⟩ (.int .u16 (i : Int))) := (hKw.trans hk5 (fun _ _ h => h)).setCell (p := ⟨pg, k, none⟩) (fun h => by dsimp only at h; have := HPG.out; omega) _
      have hA6 := (hA5.set k (i : Int)).congr (g := fun j => (((if j = k then i else f j) : Nat) : Int)) (fun j hj => by by_cases e : j = k <;> simp [e])
      have e5 := hA6.cell k (by omega)
      rw [if_pos rfl] at e5
      have e6 := (((HE.out.1.keep HK2.out (fun h => h)).keep hk6 (fun h => h)).tab.cells i i1).2.1
      rw [← hB] at e6
      have hiS : i < n := by rw [HE.out.2.2.2]; exact i1
      have hiI : (i : Int) < (n : Int) := by omega
      have hBI : (B : Int) ≤ 9 := by have := HE.out.1.hl; omega
      have hwB : IntKind.i64.wrap (B : Int) = (B : Int) := by rw [IntKind.wrap_i64]; omega
      obtain ⟨t', ht'⟩ : ∃ t', t' = t + B := ⟨_, rfl⟩
      have htI : (t : Int) + (B : Int) = (t' : Int) := by omega
      have htb : (t' : Int) ≤ 1000000 := by have := HM.out; omega
      have HN := (show Hid (IsA (W5.setCell ⟨pg, k, none⟩ (.int .u16 (i : Int))) pg 77 .u16 N (fun j => (((if j = k then i else f j) : Nat) : Int)) ∧ PathOk sy bi ba (2 ^ l) cs (fun j => if j = k then i else f j) k ∧ Keep noBlock w' (W5.setCell ⟨pg, k, none⟩ (.int .u16 (i : Int))) ∧ t' ≤ l + 12 * (m - k)) from
        ⟨hA6, hP.step (by rw [← HE.out.2.2.1]; exact hkN) i1 (by rw [i2, hc]) (by rw [← hk1, ← hy]; exact i4) (by rw [← hk1, ← hy]; exact i5), hk6, by omega⟩)
      have HK := hid hk
      clear hA hP hKw ht HC hcm hc hkw hk5 hA5 hy hyn i1 i2 i3 i4 i5 o2 hq hfit hB hk6 hA6 ht' hk1 hk hcn
      go_wp2_with fail
      refine region_tail 15 mx (by kernel_rfl) ?_
      rw [← hW5]
      clear hW5
      simp only [List.take_succ_cons, List.take_zero, List.drop_succ_cons, List.drop_zero]
      repeat (quiet_step (fail))
      refine wpQuiet_step (fun K hK => ?_)
      go_simp
      refine ⟨_, HAh.out, hK _ ?_⟩
      clear hK K
      refine wpQuiet_nil ?_
      go_wp2_with fail
      go_roundw
      case rel => exact ⟨k, t', _, by go_num, rfl, by have := HK.out; omega, HN.out⟩
      case measure => simp [intOf]
end Go.Proofs.YtgaepmmpedaaiaaGreatDoor

namespace Go.Proofs.YtgaepmmpedaaiaaGreatDoor
open Go.RowKit Go.Shelf

def i16s (xs : List Int) : List Value := xs.map (fun x => Value.int .i16 x)
theorem i16s_length (xs : List Int) : (i16s xs).length = xs.length := by simp [i16s]
theorem i16s_one (xs : List Int) : ∀ u ∈ i16s xs, u.oneCell' = true := by
  intro u hu
  simp only [i16s, List.mem_map] at hu
  obtain ⟨b, _, rfl⟩ := hu
  rfl
theorem i16s_at (xs : List Int) (j : Nat) (hj : j < xs.length) : (i16s xs)[j]? = some (.int .i16 (xs[j]?.getD 0)) := by simp [i16s, hj]

set_option maxHeartbeats 1000000 in
/-- slices.Clone of counts: the same in memory of its own. -/
theorem clone65_any (ab n cap : Nat) (xs : List Int) (hn : n = xs.length) (hl : xs.length ≤ 4096) (w : World) (hlt : ab < w.heap.size) (h : ∀ j, j < xs.length → w.cell? ⟨ab, j, none⟩ = some (.int .i16 (xs[j]?.getD 0))) :
    Calls Tryz.prog 119 #[.slice (some ⟨ab, 0, none⟩) n cap] w fun e w' => ∃ g cap', e = .returned (.slice (some ⟨g, 0, none⟩) xs.length cap') ∧ w.heap.size ≤ g ∧ RowI w' .i16 (some ⟨g, 0, none⟩) cap' g 0 xs ∧ Keep noBlock w w' := by
  subst hn
  obtain ⟨i0, hi, hz0, hz1, hz2⟩ := info_parts info42
  have hmax : xs.length ≤ maxLen := by unfold maxLen; omega
  have hby : xs.length * 2 ≤ 140737488355328 := by omega
  have heq := fun (w : World) (a : Option Addr) (n c n' c' : Nat) => Lib.run_eql_slice_nil (P := Tryz.prog) w 55 89 a n c n' c' Tryz.underlying55
  have hown := World.ownsRow_made (e := 89) (size := 1) (base := w.heap.size) w #[] 0 (Nat.le_refl _) (Nat.zero_le _) rfl
  have hc' : ∀ j u, (i16s xs)[j]? = some u → (w.alloc (.cells #[] 89)).cell? ((⟨ab, 0, none⟩ : Addr).add j) = some u := fun j u hu => by
    have hj : j < xs.length := by rw [← i16s_length]; exact (List.getElem?_eq_some_iff.1 hu).1
    rw [add0]
    refine (World.cell?_of_block (Below.heap_alloc _ _ _ hlt)).trans ((h j hj).trans ?_)
    rw [← i16s_at xs j hj, hu]
  have HL := (show Hid ((i16s xs).length = xs.length * 1) from by rw [i16s_length]; exact (Nat.mul_one _).symm)
  clear h
  go_enter Tryz.func119, Tryz.ntmps119
  go_wp2_with (at_builtin; refine wpList_append_own _ rfl _ _ 55 rfl w.heap.size 89 i0 (.int .i16 0) 1 2 Tryz.underlying55 hi hz0 hz1 hz2 rfl (by decide) (.slice (some ⟨w.heap.size, 0, none⟩) 0 0) 0 [] rfl hown ⟨ab, 0, none⟩ xs.length cap (i16s xs) rfl HL.out hc' (i16s_one xs) (by omega) (by omega) (by simp) ?_; intro v' w1 hown' hgrow hnil)
  go_ret
  have hk : Keep noBlock w w1 := ((Keep.refl _ w).alloc _).grown hgrow (fun k e hk => by
    have e' : w.heap.size = k := by simpa [Value.ownBlock] using e
    omega)
  rw [List.nil_append, Nat.zero_add] at hown'
  rcases hown'.2 with ⟨e1, h0⟩ | ⟨g, cap', cur, e1, hb, hg, hr1, hr2, hr3, hr4⟩
  · have := hnil.1 e1
    cases this.1
  · subst e1
    refine ⟨g, cap', rfl, hb, ⟨.inl rfl, (fun e => by cases e), fun j hj => ?_, hr1⟩, hk⟩
    have q1 := hown'.cells (g := g) rfl _ _ (i16s_at xs j hj)
    rw [add0] at q1
    rw [Nat.zero_add]; exact q1

/-- What of a description is still to be read. -/
def Rest (bs : List Nat) (xs : List Int) (i R q E : Nat) : Bool → Prop
  | false => ∃ f, xs.length - i ≤ f ∧ Laid bs q (dsc f R (xs.drop i)) ∧ q + (dsc f R (xs.drop i)).length = E
  | true => xs.drop i ≠ [] ∧ ∃ f, xs.length - i ≤ f ∧ Laid bs q (zbits (zl (xs.drop i)) ++ dsc f R ((xs.drop i).drop (zl (xs.drop i)))) ∧ q + (zbits (zl (xs.drop i)) ++ dsc f R ((xs.drop i).drop (zl (xs.drop i)))).length = E
def boolN : Value → Nat
  | .bool true => 1
  | _ => 0
theorem getD_dropI (xs : List Int) (i j : Nat) : (xs.drop i)[j]?.getD 0 = xs[i + j]?.getD 0 := by rw [List.getElem?_drop]
theorem drop_consI (xs : List Int) (i : Nat) (h : i < xs.length) : xs.drop i = (xs[i]?.getD 0) :: xs.drop (i + 1) := by
  rw [List.drop_eq_getElem_cons h, List.getElem?_eq_getElem h]; rfl

set_option maxRecDepth 100000 in
set_option maxHeartbeats 4000000 in
theorem readCounts_any (rb g : Nat) (bs : List Nat) (p ms f : Nat) (xs : List Int) (w : World) (h : IsR w rb g bs p) (hrb : rb < w.heap.size) (hG : Good xs) (hL : Laid bs p (dsc f (tot xs) xs)) (hf : xs.length ≤ f) (hms : xs.length ≤ ms + 1) (hms2 : ms ≤ 255) :
    Calls Tryz.prog 101 #[.pointer (some ⟨rb, 0, none⟩), .int .i64 ((tot xs : Nat) : Int), .int .i64 (ms : Int)] w fun e w' => ∃ gc cap', e = .returned (.tuple #[.slice (some ⟨gc, 0, none⟩) xs.length cap', .int .i64 0]) ∧ w.heap.size ≤ gc ∧ RowI w' .i16 (some ⟨gc, 0, none⟩) cap' gc 0 xs ∧
      IsR w' rb g bs (p + (dsc f (tot xs) xs).length) ∧ Keep (fun k => k = rb) w w' := by
  have hA : IsA (w.alloc (.cells Tryz.zeroCells208 208)) w.heap.size 208 .i16 256 (fun _ => 0) := by rw [zero112]; exact isA_zeros w 208 .i16 256
  have hI1 := h.keep ((Keep.refl noBlock w).alloc (.cells Tryz.zeroCells208 208)) (fun h => h) (fun _ h => h)
  obtain ⟨E, hE⟩ : ∃ E, E = p + (dsc f (tot xs) xs).length := ⟨_, rfl⟩
  rw [← hE]
  have hlt := hG.le
  have HA := (show Hid (IsA (w.alloc (.cells Tryz.zeroCells208 208)) w.heap.size 208 .i16 256 (fun _ => 0) ∧ IsR (w.alloc (.cells Tryz.zeroCells208 208)) rb g bs p ∧ Keep (fun k => k = rb) w (w.alloc (.cells Tryz.zeroCells208 208)) ∧ Rest bs xs 0 (tot xs) p E false) from
    ⟨hA, hI1, (Keep.refl _ w).alloc _, f, by omega, hL, hE.symm⟩)
  have HH := (show Hid (Good xs ∧ xs.length ≤ 256 ∧ g < w.heap.size) from ⟨hG, by omega, h.lt⟩)
  obtain ⟨n, hn⟩ : ∃ n, n = xs.length := ⟨_, rfl⟩
  rw [← hn] at hms ⊢
  have HN := (show Hid (n = xs.length) from hn)
  obtain ⟨R0, hR0⟩ : ∃ R0, R0 = tot xs := ⟨_, rfl⟩
  rw [← hR0] at HA hlt ⊢
  have HR0 := (show Hid (R0 = tot xs) from hR0)
  clear hA hI1 hE h hG hL hf hn hR0
  go_enter Tryz.func101, Tryz.ntmps101
  go_wp2_with fail
  refine wp_scope_straight ?_
  go_wp2_with fail
  refine wp_label ?_
  go_wp2_with fail
  generalize w.alloc (.cells Tryz.zeroCells208 208) = W1 at HA ⊢
  obtain ⟨ab, hab⟩ : ∃ ab, ab = w.heap.size := ⟨_, rfl⟩
  rw [← hab] at HA hrb ⊢
  have HAB := (show Hid (ab = w.heap.size) from hab)
  clear hab
  go_loopw [1, 9, 10, 11] (fun v1 v9 v10 v11 wr => ∃ (i R q : Nat) (more : Bool), v1 = .int .i64 (R : Int) ∧ v9 = .int .i64 (i : Int) ∧ v10 = .int .i64 0 ∧ v11 = .bool more ∧ i ≤ n ∧
    Hid (R = tot (xs.drop i) ∧ IsA wr ab 208 .i16 256 (fun j => if j < i then xs[j]?.getD 0 else 0) ∧ IsR wr rb g bs q ∧ Keep (fun k => k = rb) w wr ∧ Rest bs xs i R q E more)) (fun _ v9 _ v11 _ => 2 * (n - (intOf v9).toNat) + boolN v11)
  case atStart =>
    obtain ⟨a1, a2, a3, a4⟩ := HA.out
    exact ⟨0, R0, p, false, rfl, rfl, rfl, rfl, Nat.zero_le _, HR0.out, a1.congr (fun _ _ => by simp), a2, a3, a4⟩
  case round =>
    clear HA
    obtain ⟨i, R, q, more, rfl, rfl, rfl, rfl, hi, HC⟩ := hrel
    cases more with
    | true =>
      obtain ⟨hR, hA, hI, hK, hne, f, hf, hL, hE⟩ := HC.out
      have hG := HH.out.1.drop i
      have hin : i < n := by
        rcases Nat.lt_or_ge i n with h | h
        · exact h
        · exact absurd (List.drop_eq_nil_of_le (by have := HN.out; omega)) hne
      have hpos := hG.pos hne
      rw [← hR] at hpos
      have hle := hG.le
      rw [← hR] at hle
      have hzl := hG.zl hne
      have hz0 := zl_zero (xs.drop i)
      have hn := HN.out
      rw [List.length_drop] at hzl
      have hRp : 0 < (R : Int) := by omega
      have hmsI : ¬ (ms : Int) < (i : Int) := by omega
      have hib : (i : Int) ≤ 256 := by omega
      by_cases h3 : 3 ≤ zl (xs.drop i)
      · obtain ⟨k, hk⟩ : ∃ k, zl (xs.drop i) = k + 3 := ⟨zl (xs.drop i) - 3, by omega⟩
        rw [hk, zbits_more, List.append_assoc] at hL hE
        have hnum : numAt bs q 2 = 3 := hL.left.num 2 (by omega)
        have hle2 := hL.left.le
        rw [low_length] at hle2
        have hR2 := hL.right
        rw [low_length] at hR2
        have hzd : zl (xs.drop (i + 3)) = k := by rw [← List.drop_drop, zl_drop _ 3 (by omega), hk]; omega
        have htd : tot (xs.drop (i + 3)) = tot (xs.drop i) := by rw [← List.drop_drop]; exact tot_zeros _ 3 (by omega)
        have HB := (show Hid (Calls Tryz.prog 100 #[.pointer (some ⟨rb, 0, none⟩), .int .i64 2] wr _) from bits_take_i rb g bs q 2 3 2 rfl (by omega) wr hI hle2 hnum)
        have HG2 := (show Hid (R = tot (xs.drop (i + 3)) ∧ IsA wr ab 208 .i16 256 (fun j => if j < i + 3 then xs[j]?.getD 0 else 0) ∧ Keep (fun k => k = rb) w wr ∧ Rest bs xs (i + 3) R (q + 2) E true ∧ i + 3 ≤ n) from by
          refine ⟨by rw [htd]; exact hR, hA.congr (fun j _ => ?_), hK, ⟨?_, f, by omega, ?_, ?_⟩, by omega⟩
          · by_cases hj : j < i
            · rw [if_pos hj, if_pos (by omega)]
            · rw [if_neg hj]
              by_cases hj3 : j < i + 3
              · rw [if_pos hj3]
                have := hz0 (j - i) (by omega)
                rw [getD_dropI, show i + (j - i) = j from by omega] at this
                exact this.symm
              · rw [if_neg hj3]
          · intro e
            have := congrArg List.length e
            rw [List.length_drop] at this
            simp at this
            omega
          · rw [hzd, List.drop_drop, show i + 3 + k = i + (k + 3) from by omega, ← List.drop_drop]; exact hR2
          · rw [hzd, List.drop_drop, show i + 3 + k = i + (k + 3) from by omega, ← List.drop_drop]
            rw [List.length_append, low_length] at hE
            omega)
        have hi3 : (i : Int) + 3 = ((i + 3 : Nat) : Int) := by omega
        obtain ⟨i3, hi3e⟩ : ∃ i3, i3 = i + 3 := ⟨_, rfl⟩
        rw [← hi3e] at hi3 HG2
        have hi3b : (i3 : Int) ≤ 256 := by omega
        have HI3 := (show Hid (i3 = i + 3) from hi3e)
        clear hR hA hI hK hne hf hL hE hG hpos hle hzl hz0 hn h3 hk hnum hle2 hR2 hzd htd HC hi3e
        go_wp2_with fail
        refine HB.out.mono ?_
        rintro e w1 ⟨rfl, hI1, hK1⟩
        have HI1 := (show Hid (IsR w1 rb g bs (q + 2) ∧ Keep (fun k => k = rb) wr w1) from ⟨hI1, hK1⟩)
        clear hI1 hK1
        rw [show ((3 : Nat) : Int) = (3 : Int) from rfl]
        go_wp2_with fail
        go_roundw
        case rel =>
          obtain ⟨g1, g2, g3, g4, g5⟩ := HG2.out
          obtain ⟨e1, e2⟩ := HI1.out
          exact ⟨i3, R, q + 2, true, rfl, rfl, rfl, rfl, g5, g1, g2.keep e2 (by omega), e1, g3.trans e2 (fun _ _ h => h), g4⟩
        case measure => have := HI3.out; have := HG2.out.2.2.2.2; simp [intOf, boolN]; omega
      · obtain ⟨k, hk⟩ : ∃ k, zl (xs.drop i) = k := ⟨_, rfl⟩
        rw [hk] at h3 hzl hz0
        rw [hk, zbits_few k (by omega)] at hL hE
        have hnum : numAt bs q 2 = k := by rw [hL.left.num 2 (by omega)]; exact Nat.mod_eq_of_lt (by omega)
        have hle2 := hL.left.le
        rw [low_length] at hle2
        have hR2 := hL.right
        rw [low_length, List.drop_drop] at hR2
        have htd : tot (xs.drop (i + k)) = tot (xs.drop i) := by rw [← List.drop_drop]; exact tot_zeros _ k (by omega)
        have HB := (show Hid (Calls Tryz.prog 100 #[.pointer (some ⟨rb, 0, none⟩), .int .i64 2] wr _) from bits_take_i rb g bs q 2 k 2 rfl (by omega) wr hI hle2 hnum)
        have HG2 := (show Hid (R = tot (xs.drop (i + k)) ∧ IsA wr ab 208 .i16 256 (fun j => if j < i + k then xs[j]?.getD 0 else 0) ∧ Keep (fun k => k = rb) w wr ∧ Rest bs xs (i + k) R (q + 2) E false ∧ i + k ≤ n) from by
          refine ⟨by rw [htd]; exact hR, hA.congr (fun j _ => ?_), hK, ⟨f, by omega, hR2, ?_⟩, by omega⟩
          · by_cases hj : j < i
            · rw [if_pos hj, if_pos (by omega)]
            · rw [if_neg hj]
              by_cases hj3 : j < i + k
              · rw [if_pos hj3]
                have := hz0 (j - i) (by omega)
                rw [getD_dropI, show i + (j - i) = j from by omega] at this
                exact this.symm
              · rw [if_neg hj3]
          · rw [List.length_append, low_length, List.drop_drop] at hE
            omega)
        have hi3 : (i : Int) + (k : Int) = ((i + k : Nat) : Int) := by omega
        obtain ⟨i3, hi3e⟩ : ∃ i3, i3 = i + k := ⟨_, rfl⟩
        rw [← hi3e] at hi3 HG2
        have hi3b : (i3 : Int) ≤ 256 := by omega
        have hk3 : ((k : Int) == 3) = false := by rw [beq_eq_false_iff_ne]; omega
        have hkb : (k : Int) < 3 := by omega
        have HI3 := (show Hid (i3 = i + k) from hi3e)
        clear hR hA hI hK hne hf hL hE hG hpos hle hzl hz0 hn h3 hk hnum hle2 hR2 htd HC hi3e
        go_wp2_with fail
        refine HB.out.mono ?_
        rintro e w1 ⟨rfl, hI1, hK1⟩
        have HI1 := (show Hid (IsR w1 rb g bs (q + 2) ∧ Keep (fun k => k = rb) wr w1) from ⟨hI1, hK1⟩)
        clear hI1 hK1
        go_wp2_with fail
        go_roundw
        case rel =>
          obtain ⟨g1, g2, g3, g4, g5⟩ := HG2.out
          obtain ⟨e1, e2⟩ := HI1.out
          exact ⟨i3, R, q + 2, false, rfl, rfl, rfl, rfl, g5, g1, g2.keep e2 (by omega), e1, g3.trans e2 (fun _ _ h => h), g4⟩
        case measure => have := HI3.out; have := HG2.out.2.2.2.2; simp [intOf, boolN]; omega
    | false =>
      by_cases hin : i < n
      · obtain ⟨hR, hA, hI, hK, f, hf, hL, hE⟩ := HC.out
        have hG := HH.out.1.drop i
        have hn := HN.out
        have hdc := drop_consI xs i (by omega)
        have hne : xs.drop i ≠ [] := by rw [hdc]; simp
        have hpos := hG.pos hne
        have hle := hG.le
        rw [← hR] at hpos hle
        have hb := HH.out.1.at_ i
        have hsh := tot_mem (xs.drop i) 0 hG.low
        rw [getD_dropI, Nat.add_zero, ← hR] at hsh
        obtain ⟨f, rfl⟩ : ∃ f', f = f' + 1 := ⟨f - 1, by omega⟩
        obtain ⟨c, hc⟩ : ∃ c, c = xs[i]?.getD 0 := ⟨_, rfl⟩
        rw [← hc] at hb hsh hdc
        obtain ⟨v, hv⟩ : ∃ v, v = (c + 1).toNat := ⟨_, rfl⟩
        have hcv : (v : Int) - 1 = c := by omega
        have hvR : v ≤ R + 1 := by unfold shareN at hsh; split at hsh <;> omega
        have hs0 := shareN_pos c hb.1
        have hsz := shareN_zero c
        have htt : R = (shareN c).toNat + tot (xs.drop (i + 1)) := by rw [hR, hdc]; rfl
        have hdd : dsc (f + 1) R (xs.drop i) = valBits R v ++ (if c = 0 then zbits (zl (xs.drop (i + 1))) ++ dsc f R ((xs.drop (i + 1)).drop (zl (xs.drop (i + 1)))) else dsc f (R - (shareN c).toNat) (xs.drop (i + 1))) := by rw [hv, hdc]; rfl
        rw [hdd] at hL hE
        have HB := (show Hid (Calls Tryz.prog 118 _ wr _) from readCount_any rb g bs q R v wr hI hL.left hpos hle hvR)
        rw [hcv] at HB
        obtain ⟨R2, hR2e⟩ : ∃ R2, R2 = R - (shareN c).toNat := ⟨_, rfl⟩
        have hsub : (R : Int) - shareN c = (R2 : Int) := by omega
        have hst := hA.set i c
        have HG2 := (show Hid (R2 = tot (xs.drop (i + 1)) ∧ IsA (wr.setCell ⟨ab, i, none⟩ (.int .i16 c)) ab 208 .i16 256 (fun j => if j < i + 1 then xs[j]?.getD 0 else 0) ∧ Keep (fun k => k = rb) w wr ∧ Rest bs xs (i + 1) R2 (q + (valBits R v).length) E (decide (c = 0)) ∧ IsA wr ab 208 .i16 256 (fun j => if j < i then xs[j]?.getD 0 else 0) ∧ c = xs[i]?.getD 0) from by
          refine ⟨by omega, hst.congr (fun j _ => ?_), hK, ?_, hA, hc⟩
          · by_cases e : j = i
            · subst e; rw [if_pos rfl, if_pos (by omega)]; exact hc
            · rw [if_neg e]
              by_cases hj : j < i
              · rw [if_pos hj, if_pos (by omega)]
              · rw [if_neg hj, if_neg (by omega)]
          · have hLr := hL.right
            rw [List.length_append] at hE
            by_cases hc0 : c = 0
            · rw [if_pos hc0] at hLr hE
              have hRR : R2 = R := by rw [hR2e, hsz.2 hc0]; simp
              rw [decide_eq_true hc0, hRR]
              refine ⟨?_, f, by omega, hLr, by omega⟩
              intro e
              rw [hdc, e, hc0] at hG
              exact hG.last (by simp) rfl
            · rw [if_neg hc0] at hLr hE
              rw [decide_eq_false hc0, hR2e]
              exact ⟨f, by omega, hLr, by omega⟩)
        have HSH := (show Hid (∀ w : World, _) from fun w => share_any c (by omega) (by omega) w)
        have hRp : 0 < (R : Int) := by omega
        have hmsI : ¬ (ms : Int) < (i : Int) := by omega
        have hib : (i : Int) < 256 := by omega
        have hRb : (R : Int) ≤ 4096 := by omega
        have hR2b : (R2 : Int) ≤ 4096 := by omega
        have hcb : -1 ≤ c := hb.1
        have hcb2 : c ≤ 4096 := hb.2
        have hgl := HH.out.2.2
        clear hR hA hI hK hf hL hE hG hpos hle hn HC hdc hne hsh hv hcv hvR htt hdd hR2e hst hb hc hsz
        generalize shareN c = sc at *
        go_wp2_with fail
        refine HB.out.mono ?_
        rintro e w1 ⟨rfl, hI1, hK1⟩
        have hA1 := HG2.out.2.2.2.2.1.keep hK1 (by omega)
        have fz := hA1.frozen i
        have cz := hA1.cell i (by omega)
        have HI1 := (show Hid (IsR w1 rb g bs (q + (valBits R v).length) ∧ Keep (fun k => k = rb) wr w1) from ⟨hI1, hK1⟩)
        have HG3 := (show Hid (IsA (w1.setCell ⟨ab, i, none⟩ (.int .i16 c)) ab 208 .i16 256 (fun j => if j < i + 1 then xs[j]?.getD 0 else 0) ∧ IsR (w1.setCell ⟨ab, i, none⟩ (.int .i16 c)) rb g bs (q + (valBits R v).length) ∧ Keep (fun k => k = rb) w (w1.setCell ⟨ab, i, none⟩ (.int .i16 c))) from by
          have kk : Keep (fun k => k = ab) w1 (w1.setCell ⟨ab, i, none⟩ (.int .i16 c)) := Keep.setCell (S := fun k => k = ab) (p := ⟨ab, i, none⟩) (Keep.refl _ w1) (fun _ => rfl) _
          have hab := HAB.out
          refine ⟨(hA1.set i c).congr (fun j _ => ?_), hI1.keep kk (by omega) (fun _ => by omega), (HG2.out.2.2.1.trans hK1 (fun _ _ h => h)).trans kk (fun j hj e => by omega)⟩
          by_cases e : j = i
          · subst e; rw [if_pos rfl, if_pos (by omega)]; exact HG2.out.2.2.2.2.2
          · rw [if_neg e]
            by_cases hj : j < i
            · rw [if_pos hj, if_pos (by omega)]
            · rw [if_neg hj, if_neg (by omega)])
        clear hI1 hK1 hA1
        by_cases hc0 : c = 0
        · have hd : decide (c = 0) = true := decide_eq_true hc0
          rw [hd] at HG2
          subst hc0
          go_wp2_with (go_at_call 109; refine (HSH.out _).mono ?_; rintro e w'' ⟨rfl, rfl⟩)
          go_roundw
          case rel =>
            obtain ⟨g1, g2, g3, g4, -⟩ := HG2.out
            obtain ⟨e1, e2, e3⟩ := HG3.out
            exact ⟨i + 1, R2, _, true, rfl, by go_num, rfl, rfl, by omega, g1, e1, e2, e3, g4⟩
          case measure => simp [intOf, boolN]; omega
        · have hd : decide (c = 0) = false := decide_eq_false hc0
          rw [hd] at HG2
          have hcb0 : (c == 0) = false := by simpa using hc0
          go_wp2_with (go_at_call 109; refine (HSH.out _).mono ?_; rintro e w'' ⟨rfl, rfl⟩)
          go_roundw
          case rel =>
            obtain ⟨g1, g2, g3, g4, -⟩ := HG2.out
            obtain ⟨e1, e2, e3⟩ := HG3.out
            exact ⟨i + 1, R2, _, false, rfl, by go_num, rfl, rfl, by omega, g1, e1, e2, e3, g4⟩
          case measure => simp [intOf, boolN]; omega
      · obtain rfl : i = n := by omega
        have HD := (show Hid (R = 0 ∧ IsA wr ab 208 .i16 256 (fun j => if j < i then xs[j]?.getD 0 else 0) ∧ IsR wr rb g bs E ∧ Keep (fun k => k = rb) w wr) from by
          obtain ⟨hR, hA, hI, hK, f, hf, hL, hE⟩ := HC.out
          have hd : xs.drop i = [] := List.drop_eq_nil_of_le (by have := HN.out; omega)
          rw [hd] at hR hL hE
          have h5 : dsc f R [] = [] := by cases f <;> rfl
          rw [h5] at hE
          have : q = E := by simpa using hE
          rw [this] at hI
          exact ⟨hR, hA, hI, hK⟩)
        obtain ⟨rfl, -⟩ := HD.out
        rw [show ((0 : Nat) : Int) = (0 : Int) from rfl]
        have hib : (i : Int) ≤ 256 := by have := HH.out.2.1; have := HN.out; omega
        clear HC
        go_wp2_with fail
        refine (clone65_any ab i 256 xs HN.out (by have := HH.out.2.1; omega) wr HD.out.2.1.lt (fun j hj => ?_)).mono ?_
        · rw [HD.out.2.1.cell j (by have := HH.out.2.1; omega), if_pos (by have := HN.out; omega)]
        · rintro e w3 ⟨gc, cap', rfl, hgc, hRow, hK3⟩
          rw [← HN.out]
          go_wp2_with fail
          simp only [Exit.noGoto]
          go_ret2
          have hk := HD.out.2.2.2
          refine ⟨gc, cap', rfl, by have := hk.size; omega, hRow, HD.out.2.2.1.keep hK3 (fun h => h) (fun _ h => h), hk.trans hK3 (fun _ _ h => h.elim)⟩

end Go.Proofs.YtgaepmmpedaaiaaGreatDoor

namespace Go.Proofs.YtgaepmmpedaaiaaGreatDoor
open Go.RowKit Go.Shelf

theorem left_i (rb g : Nat) (bs : List Nat) (p y : Nat) (hy : bs.length * 8 = p + y) (w : World) (h : IsR w rb g bs p) :
    Calls Tryz.prog 102 #[.pointer (some ⟨rb, 0, none⟩)] w fun e w' => e = .returned (.int .i64 (y : Int)) ∧ ∃ n, w' = w.drewN n := by
  have := left_any rb g bs p w h
  rw [show (bs.length : Int) * 8 - (p : Int) = (y : Int) from by omega] at this
  exact this

section
attribute [local go_sem] sliceSem_eq minSem_eq
set_option maxRecDepth 100000 in
set_option maxHeartbeats 4000000 in
theorem read_good (base : Nat) (v : Value) (bs : List Nat) (xs : List Int) (l ml ms : Nat) (w : World) (hown : w.ownsRow base 5 1 v bs.length (u8s bs)) (hbs : ∀ j : Nat, bs[j]?.getD 0 < 256) (hlen : bs.length ≤ 140737488355327) (hb : okT xs (l : Int) = true)
    (hL : Laid (bs.take 481) 0 (dscAll xs l)) (hml : l ≤ ml) (hml2 : ml ≤ 12) (hms : xs.length ≤ ms + 1) (hms2 : ms ≤ 255) :
    Calls Tryz.prog 80 #[v, .int .i64 (ml : Int), .int .i64 (ms : Int)] w fun e w' => ∃ gc cap', e = .returned (.tuple #[.slice (some ⟨gc, 0, none⟩) xs.length cap', .int .i64 (l : Int), .int .i64 ((((dscAll xs l).length + 7) / 8 : Nat) : Int), .int .i64 0]) ∧ w.heap.size ≤ gc ∧
      RowI w' .i16 (some ⟨gc, 0, none⟩) cap' gc 0 xs ∧ Keep noBlock w w' := by
  obtain ⟨hG, hT, hne, hxl, hl5, hl12⟩ := okT_good hb
  have hL4 := hL.left
  have hLr := hL.right
  have hle := hL.le
  rw [low_length] at hLr
  have hdl : (dscAll xs l).length = 4 + (dsc xs.length (2 ^ l) xs).length := by unfold dscAll; rw [List.length_append, low_length]
  obtain ⟨k, hk⟩ : ∃ k, k = min bs.length 481 := ⟨_, rfl⟩
  have htl : (bs.take 481).length = k := by rw [List.length_take, hk]; omega
  rw [htl] at hle
  have hbne : bs.length ≠ 0 := by
    intro e
    omega
  rcases hown.2 with ⟨_, h0⟩ | ⟨g, cap, cur, rfl, hg0, hg, hr1, hr2, hr3, hr4⟩
  · exact absurd h0 hbne
  have hmin := fun W => minSem_run .i64 #[3, 3] 3 (bs.length : Int) 481 (k : Int) (by omega) W
  have hsl := fun W => run_high (t := 22) Tryz.underlying22 info5 (some ⟨g, 0, none⟩) bs.length cap k (by omega) W
  have hsrc : Src w (.slice (some ⟨g, 0, none⟩) k cap) (bs.take 481) := by
    refine .inr ⟨⟨g, 0, none⟩, cap, by rw [htl], obj_lt hg, fun j u hu => ?_⟩
    refine hown.cells (g := g) rfl j u ?_
    have e : u8s (bs.take 481) = (u8s bs).take 481 := by simp [u8s, List.map_take]
    rw [e, List.getElem?_take] at hu
    split at hu
    · exact hu
    · cases hu
  have hlt : ∀ j : Nat, (bs.take 481)[j]?.getD 0 < 256 := fun j => by
    rw [List.getElem?_take]
    split
    · exact hbs j
    · simp
  have HN := (show Hid (∀ W, Src W (.slice (some ⟨g, 0, none⟩) k cap) (bs.take 481) → _) from fun W hs => new_any (.slice (some ⟨g, 0, none⟩) k cap) (bs.take 481) (by omega) hlt W hs)
  have hn4 : numAt (bs.take 481) 0 4 = l - 5 := by
    rw [hL4.num 4 (Nat.le_refl _)]; exact Nat.mod_eq_of_lt (by omega)
  have hLr2 : Laid (bs.take 481) 4 (dsc xs.length (tot xs) xs) := by rw [hT]; simpa using hLr
  have hdl2 : (dscAll xs l).length = 4 + (dsc xs.length (tot xs) xs).length := by rw [hT]; exact hdl
  obtain ⟨E, hE⟩ : ∃ E, E = (dscAll xs l).length := ⟨_, rfl⟩
  rw [← hE] at hdl2 hle ⊢
  obtain ⟨y, hy⟩ : ∃ y, k * 8 = E + y := ⟨k * 8 - E, by omega⟩
  obtain ⟨u, hu⟩ : ∃ u, u = (E + 7) / 8 := ⟨_, rfl⟩
  obtain ⟨z, hz⟩ : ∃ z, z = y / 8 := ⟨_, rfl⟩
  have hzI : (y : Int) / 8 = (z : Int) := by omega
  have huI : (k : Int) - (z : Int) = (u : Int) := by omega
  rw [← hu]
  have HF := (show Hid (numAt (bs.take 481) 0 4 = l - 5 ∧ Laid (bs.take 481) 4 (dsc xs.length (tot xs) xs) ∧ E = 4 + (dsc xs.length (tot xs) xs).length ∧ Good xs ∧ (bs.take 481).length = k ∧ k * 8 = E + y ∧ 2 ^ l = tot xs ∧ 4 ≤ 8 * (bs.take 481).length) from ⟨hn4, hLr2, hdl2, hG, htl, hy, hT.symm, by rw [htl]; omega⟩)
  have hl5' : (5 : Int) + ((l - 5 : Nat) : Int) = (l : Int) := by omega
  obtain ⟨l5, hl5e⟩ : ∃ l5, l5 = l - 5 := ⟨_, rfl⟩
  rw [← hl5e] at hl5' HF
  have hlm : ¬ (ml : Int) < (l : Int) := by omega
  have hp : (2 : Int) ^ l = ((tot xs : Nat) : Int) := by rw [hT]; simp
  have hTb := hG.le
  obtain ⟨T, hTe⟩ : ∃ T, T = tot xs := ⟨_, rfl⟩
  rw [← hTe] at hp hTb
  have hTI : (T : Int) ≤ 4096 := by omega
  have HTE := (show Hid (T = tot xs) from hTe)
  have hd : decide (5 ≤ (ml : Int) ∧ (ml : Int) ≤ 12) = true := decide_eq_true ⟨by omega, by omega⟩
  have HIL := (show Hid (∀ w : World, Calls Tryz.prog 98 #[.int .i64 (ml : Int)] w fun e w' => e = .returned (.bool true) ∧ w' = w) from fun w => by have := isLog_any (ml : Int) w; rwa [hd] at this)
  have hm0 : ¬ (ms : Int) < 0 := by omega
  have hm2 : ¬ (256 : Int) ≤ (ms : Int) := by omega
  have hkI : (k : Int) ≤ 481 := by omega
  have hzb : (z : Int) ≤ 481 := by omega
  have hyb : (y : Int) ≤ 4000 := by omega
  have hl5b : (l5 : Int) ≤ 7 := by omega
  have hlI : (l : Int) ≤ 12 := by omega
  have HMS := (show Hid (xs.length ≤ ms + 1 ∧ ms ≤ 255) from ⟨hms, hms2⟩)
  clear hL hL4 hLr hle hdl htl hbne hr1 hr2 hr3 hr4 hlt hn4 hLr2 hdl2 hE hy hu hz hG hT hTe hd hb hl5e hk hown hg hms hms2
  generalize bs.length = bl at *
  go_enter Tryz.func80, Tryz.ntmps80
  go_wp2_with (go_at_call 98; refine (HIL.out _).mono ?_; rintro e w' ⟨rfl, rfl⟩)
  refine (HN.out _ hsrc).mono ?_
  rintro e w1 ⟨rb, gg, rfl, hrb, hgg, hI1, hK1⟩
  have HI1 := (show Hid (IsR w1 rb gg (bs.take 481) 0 ∧ Keep noBlock w' w1 ∧ w'.heap.size ≤ rb ∧ w'.heap.size ≤ gg) from ⟨hI1, hK1, hrb, hgg⟩)
  clear hI1 hK1 hrb hgg hsrc
  go_wp2_with fail
  refine (bits_take_i rb gg (bs.take 481) 0 4 l5 _ rfl (by omega) w1 HI1.out.1 (by have := HF.out.2.2.2.2.2.2.2; omega) HF.out.1).mono ?_
  rintro e w2 ⟨rfl, hI2, hK2⟩
  rw [Nat.zero_add] at hI2
  have HI2 := (show Hid (IsR w2 rb gg (bs.take 481) 4 ∧ Keep (fun k => k = rb) w1 w2) from ⟨hI2, hK2⟩)
  clear hI2 hK2
  go_wp2_with fail
  rw [HTE.out]
  refine (readCounts_any rb gg (bs.take 481) 4 ms xs.length xs w2 HI2.out.1 (by obtain ⟨_, _, _, ho⟩ := HI2.out.1.obj; exact obj_lt ho) HF.out.2.2.2.1 HF.out.2.1 (Nat.le_refl _) HMS.out.1 HMS.out.2).mono ?_
  rintro e w3 ⟨gc, cap', rfl, hgc, hRow, hI3, hK3⟩
  rw [← HF.out.2.2.1] at hI3
  have HI3 := (show Hid (w2.heap.size ≤ gc ∧ RowI w3 .i16 (some ⟨gc, 0, none⟩) cap' gc 0 xs ∧ IsR w3 rb gg (bs.take 481) E ∧ Keep (fun k => k = rb) w2 w3) from ⟨hgc, hRow, hI3, hK3⟩)
  clear hgc hRow hI3 hK3
  go_wp2_with fail
  refine (left_i rb gg (bs.take 481) E y (by rw [HF.out.2.2.2.2.1]; exact HF.out.2.2.2.2.2.1) w3 HI3.out.2.2.1).mono ?_
  rintro e w4 ⟨rfl, nq, rfl⟩
  go_wp2_with fail
  obtain ⟨h1, h2, h3, h4⟩ := HI3.out
  obtain ⟨i1, i2, i3, i4⟩ := HI1.out
  have k1 : Keep noBlock w' w3 := (i2.trans HI2.out.2 (fun i hi e => by omega)).trans h4 (fun i hi e => by omega)
  have hz2 : w'.heap.size ≤ w2.heap.size := Nat.le_trans i2.size HI2.out.2.size
  exact bodyPost_ret (v := .tuple #[.slice (some ⟨gc, 0, none⟩) xs.length cap', .int .i64 (l : Int), .int .i64 (u : Int), .int .i64 0]) (by simp [results, Tryz.results80, go_sem]) rfl ⟨gc, cap', rfl, by omega, h2.keep (keep_drewN w3 nq) (fun _ h => h), k1.trans (keep_drewN w3 nq) (fun _ _ h => h)⟩
end

end Go.Proofs.YtgaepmmpedaaiaaGreatDoor

namespace Go.Proofs.YtgaepmmpedaaiaaGreatDoor
open Go.RowKit Go.Shelf
set_option linter.unusedVariables false

/-- A description lies in what Write gives, whatever stands behind. -/
theorem laid_pack (D : List (Fin 2)) (hD : D.length ≤ 3844) (bh : List Nat) : Laid ((pack (alignL D) ++ bh).take 481) 0 D := by
  have hal : (alignL D).length = D.length + (8 - D.length % 8) % 8 := by unfold alignL; rw [List.length_append, low_length]
  have hpl := pack_length (alignL D)
  have hp : (pack (alignL D)).length ≤ 481 := by omega
  have hlen : D.length ≤ 8 * (pack (alignL D)).length := by omega
  refine ⟨?_, fun k hk => ?_⟩
  · rw [List.length_take, List.length_append]; omega
  · rw [Nat.zero_add]
    have e : bitAt ((pack (alignL D) ++ bh).take 481) k = bitAt (pack (alignL D)) k := by
      unfold bitAt
      rw [List.getElem?_take, if_pos (by omega), List.getElem?_append_left (by omega)]
    rw [e, bitAt_pack]
    unfold alignL
    exact bitL_app _ _ _ hk
/-- How many bytes a description has. -/
theorem dscB_len {xs : List Int} {l : Nat} (hb : okT xs (l : Int) = true) : (dscAll xs l).length ≤ 3844 ∧ (pack (alignL (dscAll xs l))).length ≤ 481 ∧ ((dscAll xs l).length + 7) / 8 = (pack (alignL (dscAll xs l))).length := by
  have hlen := (okT_good hb).2.2.2.1
  have hGd := okT_good hb
  have hdl := dsc_le xs.length (2 ^ l) xs (by rw [← hGd.2.1]; exact hGd.1.le)
  have hDl : (dscAll xs l).length ≤ 3844 := by unfold dscAll; rw [List.length_append, low_length]; omega
  have hal : (alignL (dscAll xs l)).length = (dscAll xs l).length + (8 - (dscAll xs l).length % 8) % 8 := by unfold alignL; rw [List.length_append, low_length]
  have hpl := pack_length (alignL (dscAll xs l))
  exact ⟨hDl, by omega, by omega⟩

section
attribute [local go_sem] sliceSem_eq minSem_eq
set_option maxRecDepth 100000 in
set_option maxHeartbeats 4000000 in
theorem read_bytes (g off cap : Nat) (bs : List Nat) (xs : List Int) (l ml ms : Nat) (w : World) (hB : Bytes w (some ⟨g, off, none⟩) cap g off bs) (hlen : bs.length ≤ 140737488355327) (hb : okT xs (l : Int) = true)
    (hL : Laid (bs.take 481) 0 (dscAll xs l)) (hml : l ≤ ml) (hml2 : ml ≤ 12) (hms : xs.length ≤ ms + 1) (hms2 : ms ≤ 255) :
    Calls Tryz.prog 80 #[.slice (some ⟨g, off, none⟩) bs.length cap, .int .i64 (ml : Int), .int .i64 (ms : Int)] w fun e w' => ∃ gc cap', e = .returned (.tuple #[.slice (some ⟨gc, 0, none⟩) xs.length cap', .int .i64 (l : Int), .int .i64 ((((dscAll xs l).length + 7) / 8 : Nat) : Int), .int .i64 0]) ∧ w.heap.size ≤ gc ∧
      RowI w' .i16 (some ⟨gc, 0, none⟩) cap' gc 0 xs ∧ Keep noBlock w w' := by
  obtain ⟨hG, hT, hne, hxl, hl5, hl12⟩ := okT_good hb
  have hL4 := hL.left
  have hLr := hL.right
  have hle := hL.le
  rw [low_length] at hLr
  have hdl : (dscAll xs l).length = 4 + (dsc xs.length (2 ^ l) xs).length := by unfold dscAll; rw [List.length_append, low_length]
  obtain ⟨k, hk⟩ : ∃ k, k = min bs.length 481 := ⟨_, rfl⟩
  have htl : (bs.take 481).length = k := by rw [List.length_take, hk]; omega
  rw [htl] at hle
  have hbne : bs.length ≠ 0 := by
    intro e
    omega
  have hbs := hB.lt
  have hr1 := hB.cap
  have hmin := fun W => minSem_run .i64 #[3, 3] 3 (bs.length : Int) 481 (k : Int) (by omega) W
  have hsl := fun W => run_high (t := 22) Tryz.underlying22 info5 (some ⟨g, off, none⟩) bs.length cap k (by omega) W
  have hsrc : Src w (.slice (some ⟨g, off, none⟩) k cap) (bs.take 481) := by
    refine .inr ⟨⟨g, off, none⟩, cap, by rw [htl], hB.block (fun e => hbne (by rw [e]; rfl)), fun j u hu => ?_⟩
    have hj : j < (bs.take 481).length := by rw [← u8s_length]; exact (List.getElem?_eq_some_iff.1 hu).1
    rw [u8s_at _ j hj] at hu
    have hj2 : j < bs.length ∧ j < 481 := by rw [List.length_take] at hj; omega
    rw [addO, hB.cells j hj2.1]
    rw [List.getElem?_take, if_pos hj2.2] at hu
    exact hu
  have hlt : ∀ j : Nat, (bs.take 481)[j]?.getD 0 < 256 := fun j => by
    rw [List.getElem?_take]
    split
    · exact hbs j
    · simp
  have HN := (show Hid (∀ W, Src W (.slice (some ⟨g, off, none⟩) k cap) (bs.take 481) → _) from fun W hs => new_any (.slice (some ⟨g, off, none⟩) k cap) (bs.take 481) (by omega) hlt W hs)
  have hn4 : numAt (bs.take 481) 0 4 = l - 5 := by
    rw [hL4.num 4 (Nat.le_refl _)]; exact Nat.mod_eq_of_lt (by omega)
  have hLr2 : Laid (bs.take 481) 4 (dsc xs.length (tot xs) xs) := by rw [hT]; simpa using hLr
  have hdl2 : (dscAll xs l).length = 4 + (dsc xs.length (tot xs) xs).length := by rw [hT]; exact hdl
  obtain ⟨E, hE⟩ : ∃ E, E = (dscAll xs l).length := ⟨_, rfl⟩
  rw [← hE] at hdl2 hle ⊢
  obtain ⟨y, hy⟩ : ∃ y, k * 8 = E + y := ⟨k * 8 - E, by omega⟩
  obtain ⟨u, hu⟩ : ∃ u, u = (E + 7) / 8 := ⟨_, rfl⟩
  obtain ⟨z, hz⟩ : ∃ z, z = y / 8 := ⟨_, rfl⟩
  have hzI : (y : Int) / 8 = (z : Int) := by omega
  have huI : (k : Int) - (z : Int) = (u : Int) := by omega
  rw [← hu]
  have HF := (show Hid (numAt (bs.take 481) 0 4 = l - 5 ∧ Laid (bs.take 481) 4 (dsc xs.length (tot xs) xs) ∧ E = 4 + (dsc xs.length (tot xs) xs).length ∧ Good xs ∧ (bs.take 481).length = k ∧ k * 8 = E + y ∧ 2 ^ l = tot xs ∧ 4 ≤ 8 * (bs.take 481).length) from ⟨hn4, hLr2, hdl2, hG, htl, hy, hT.symm, by rw [htl]; omega⟩)
  have hl5' : (5 : Int) + ((l - 5 : Nat) : Int) = (l : Int) := by omega
  obtain ⟨l5, hl5e⟩ : ∃ l5, l5 = l - 5 := ⟨_, rfl⟩
  rw [← hl5e] at hl5' HF
  have hlm : ¬ (ml : Int) < (l : Int) := by omega
  have hp : (2 : Int) ^ l = ((tot xs : Nat) : Int) := by rw [hT]; simp
  have hTb := hG.le
  obtain ⟨T, hTe⟩ : ∃ T, T = tot xs := ⟨_, rfl⟩
  rw [← hTe] at hp hTb
  have hTI : (T : Int) ≤ 4096 := by omega
  have HTE := (show Hid (T = tot xs) from hTe)
  have hd : decide (5 ≤ (ml : Int) ∧ (ml : Int) ≤ 12) = true := decide_eq_true ⟨by omega, by omega⟩
  have HIL := (show Hid (∀ w : World, Calls Tryz.prog 98 #[.int .i64 (ml : Int)] w fun e w' => e = .returned (.bool true) ∧ w' = w) from fun w => by have := isLog_any (ml : Int) w; rwa [hd] at this)
  have hm0 : ¬ (ms : Int) < 0 := by omega
  have hm2 : ¬ (256 : Int) ≤ (ms : Int) := by omega
  have hkI : (k : Int) ≤ 481 := by omega
  have hzb : (z : Int) ≤ 481 := by omega
  have hyb : (y : Int) ≤ 4000 := by omega
  have hl5b : (l5 : Int) ≤ 7 := by omega
  have hlI : (l : Int) ≤ 12 := by omega
  have HMS := (show Hid (xs.length ≤ ms + 1 ∧ ms ≤ 255) from ⟨hms, hms2⟩)
  clear hL hL4 hLr hle hdl htl hbne hr1 hlt hn4 hLr2 hdl2 hE hy hu hz hG hT hTe hd hb hl5e hk hB hbs hms hms2
  generalize bs.length = bl at *
  go_enter Tryz.func80, Tryz.ntmps80
  go_wp2_with (go_at_call 98; refine (HIL.out _).mono ?_; rintro e w' ⟨rfl, rfl⟩)
  refine (HN.out _ hsrc).mono ?_
  rintro e w1 ⟨rb, gg, rfl, hrb, hgg, hI1, hK1⟩
  have HI1 := (show Hid (IsR w1 rb gg (bs.take 481) 0 ∧ Keep noBlock w' w1 ∧ w'.heap.size ≤ rb ∧ w'.heap.size ≤ gg) from ⟨hI1, hK1, hrb, hgg⟩)
  clear hI1 hK1 hrb hgg hsrc
  go_wp2_with fail
  refine (bits_take_i rb gg (bs.take 481) 0 4 l5 _ rfl (by omega) w1 HI1.out.1 (by have := HF.out.2.2.2.2.2.2.2; omega) HF.out.1).mono ?_
  rintro e w2 ⟨rfl, hI2, hK2⟩
  rw [Nat.zero_add] at hI2
  have HI2 := (show Hid (IsR w2 rb gg (bs.take 481) 4 ∧ Keep (fun k => k = rb) w1 w2) from ⟨hI2, hK2⟩)
  clear hI2 hK2
  go_wp2_with fail
  rw [HTE.out]
  refine (readCounts_any rb gg (bs.take 481) 4 ms xs.length xs w2 HI2.out.1 (by obtain ⟨_, _, _, ho⟩ := HI2.out.1.obj; exact obj_lt ho) HF.out.2.2.2.1 HF.out.2.1 (Nat.le_refl _) HMS.out.1 HMS.out.2).mono ?_
  rintro e w3 ⟨gc, cap', rfl, hgc, hRow, hI3, hK3⟩
  rw [← HF.out.2.2.1] at hI3
  have HI3 := (show Hid (w2.heap.size ≤ gc ∧ RowI w3 .i16 (some ⟨gc, 0, none⟩) cap' gc 0 xs ∧ IsR w3 rb gg (bs.take 481) E ∧ Keep (fun k => k = rb) w2 w3) from ⟨hgc, hRow, hI3, hK3⟩)
  clear hgc hRow hI3 hK3
  go_wp2_with fail
  refine (left_i rb gg (bs.take 481) E y (by rw [HF.out.2.2.2.2.1]; exact HF.out.2.2.2.2.2.1) w3 HI3.out.2.2.1).mono ?_
  rintro e w4 ⟨rfl, nq, rfl⟩
  go_wp2_with fail
  obtain ⟨h1, h2, h3, h4⟩ := HI3.out
  obtain ⟨i1, i2, i3, i4⟩ := HI1.out
  have k1 : Keep noBlock w' w3 := (i2.trans HI2.out.2 (fun i hi e => by omega)).trans h4 (fun i hi e => by omega)
  have hz2 : w'.heap.size ≤ w2.heap.size := Nat.le_trans i2.size HI2.out.2.size
  exact bodyPost_ret (v := .tuple #[.slice (some ⟨gc, 0, none⟩) xs.length cap', .int .i64 (l : Int), .int .i64 (u : Int), .int .i64 0]) (by simp [results, Tryz.results80, go_sem]) rfl ⟨gc, cap', rfl, by omega, h2.keep (keep_drewN w3 nq) (fun _ h => h), k1.trans (keep_drewN w3 nq) (fun _ _ h => h)⟩
end

end Go.Proofs.YtgaepmmpedaaiaaGreatDoor
