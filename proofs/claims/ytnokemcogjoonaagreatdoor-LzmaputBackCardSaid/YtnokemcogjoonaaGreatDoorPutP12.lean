/-
  The operation that copies so many bytes, if there is one.
  Bytes are written, one by one.
  What steps make of bytes, as plain lists.
  Rows of steps: three cells each.
  Slices of steps that are read; size.
  A step is split into operations; a chunk of all steps.
-/
import Derived.Deep.RegionLaw
import Derived.Test.YtnokemcogjoonaaGreatDoorPutP3
import Derived.Test.YtnokemcogjoonaaGreatDoorPutP4
import Derived.Test.YtnokemcogjoonaaGreatDoorPutP7
import Derived.Test.YtnokemcogjoonaaGreatDoorPutP11
namespace Go.Proofs.YtnokemcogjoonaaGreatDoor.Pt
open Go.RowKit Go.Shelf
set_option linter.unusedVariables false

def copyV (r : Option Opn) : Value := match r with
  | some o => .tuple #[opV o, .bool true]
  | none => .tuple #[opV ⟨0, 0, 0, 0⟩, .bool false]
theorem index_reps (s : Se) (k : Nat) (hk : k < 4) (W : World) : (Instr.index 56 (.agg #[.int .u32 (s.r0 : Int), .int .u32 (s.r1 : Int), .int .u32 (s.r2 : Int), .int .u32 (s.r3 : Int)]) (.int .i64 (k : Int))).run Tryz.prog W = .ok (.int .u32 ((repN s k : Nat) : Int)) W := by
  rcases (show k = 0 ∨ k = 1 ∨ k = 2 ∨ k = 3 by omega) with rfl | rfl | rfl | rfl <;> kernel_rfl
theorem repN_lt {s : Se} (h : SeOk s) (k : Nat) : repN s k < 4294967296 := by
  unfold repN
  split
  · exact h.r0
  · exact h.r1
  · exact h.r2
  · exact h.r3
theorem keep_four {w : World} {W : World} (h : Keep noBlock w W) (b : Nat) (hb : w.heap.size ≤ b) (v0 v1 v2 v3 : Value) : Keep noBlock w ((((W.setCell ⟨b, 0, none⟩ v0).setCell ⟨b, 1, none⟩ v1).setCell ⟨b, 2, none⟩ v2).setCell ⟨b, 3, none⟩ v3) :=
  (((h.setCell (p := ⟨b, 0, none⟩) (fun q => absurd q (by show ¬ b < _; omega)) v0).setCell (p := ⟨b, 1, none⟩) (fun q => absurd q (by show ¬ b < _; omega)) v1).setCell (p := ⟨b, 2, none⟩) (fun q => absurd q (by show ¬ b < _; omega)) v2).setCell (p := ⟨b, 3, none⟩) (fun q => absurd q (by show ¬ b < _; omega)) v3
set_option maxHeartbeats 4000000 in
theorem copying_few (G : Wg) (i : Nat) (len back : Int) (reach : Nat) (s : Se) (w : World) (hl : len < 2) :
    Calls Tryz.prog 47 #[.pointer (some ⟨G.wb, 0, none⟩), .int .i64 len, .int .i64 back, .int .i64 (reach : Int)] w fun e w' => e = .returned (copyV (copyN G.k.T reach s i len back.toNat)) ∧ Keep noBlock w w' := by
  have e : copyN G.k.T reach s i len back.toNat = none := by unfold copyN; rw [if_pos hl]
  rw [e]
  unfold copyV opV
  dsimp only
  clear e
  go_enter Tryz.func47, Tryz.ntmps47
  go_wp2_with fail
  exact bodyPost_ret (v := .tuple #[.agg #[.int .u8 0, .int .i64 0, .int .u32 0, .int .i64 0], .bool false]) (by simp [results, Tryz.results47, go_sem]) rfl ⟨rfl, by first | exact keep_four ((Keep.refl noBlock w).alloc _) _ (Nat.le_refl _) _ _ _ _ | exact ((Keep.refl noBlock w).alloc _)⟩
/-- On the way through the kept distances. -/
structure Cpw (G : Wg) (w W : World) (s : Se) (x : Ex) (v : Value) (i ob : Nat) : Prop where
  wt : Wt G W s x v i
  obj : W.heap[ob]? = some (.cells #[.int .u8 0, .int .i64 0, .int .u32 0, .int .i64 0] 152 (0, 0))
  kp : Keep noBlock w W
  sz : w.heap.size ≤ ob
theorem Cpw.keep {G : Wg} {w W W' : World} {s : Se} {x : Ex} {v : Value} {i ob : Nat} (h : Cpw G w W s x v i ob) (k : Keep noBlock W W') : Cpw G w W' s x v i ob := ⟨h.wt.kept k, k.obj h.obj (fun h => h), h.kp.trans k (fun _ _ h => h), h.sz⟩
theorem Cpw.cells {G : Wg} {w W : World} {s : Se} {x : Ex} {v : Value} {i ob : Nat} (h : Cpw G w W s x v i ob) :
    W.cell? ⟨ob, 0, none⟩ = some (.int .u8 0) ∧ W.cell? ⟨ob, 1, none⟩ = some (.int .i64 0) ∧ W.cell? ⟨ob, 2, none⟩ = some (.int .u32 0) ∧ W.cell? ⟨ob, 3, none⟩ = some (.int .i64 0) ∧ W.frozen? ⟨ob, 0, none⟩ = false ∧ W.frozen? ⟨ob, 1, none⟩ = false ∧ W.frozen? ⟨ob, 2, none⟩ = false ∧ W.frozen? ⟨ob, 3, none⟩ = false :=
  ⟨cell_of h.obj 0, cell_of h.obj 1, cell_of h.obj 2, cell_of h.obj 3, frozen_of h.obj 0, frozen_of h.obj 1, frozen_of h.obj 2, frozen_of h.obj 3⟩
theorem repFrom_succ (T : List Nat) (s : Se) (i len reach n k : Nat) : repFrom T s i len reach (n + 1) k = if fitK T s i len reach k then some k else repFrom T s i len reach n (k + 1) := rfl
set_option maxRecDepth 20000 in
set_option maxHeartbeats 4000000 in
theorem copying_more (G : Wg) (s : Se) (x : Ex) (v : Value) (i len back reach : Nat) (w : World) (h : Wt G w s x v i) (hl : 2 ≤ len) (hl2 : len ≤ 65536) (hb : 1 ≤ back) (hb2 : back ≤ 65536) (hr : reach ≤ 65536) :
    Calls Tryz.prog 47 #[.pointer (some ⟨G.wb, 0, none⟩), .int .i64 (len : Int), .int .i64 (back : Int), .int .i64 (reach : Int)] w fun e w' => e = .returned (copyV (copyN G.k.T reach s i (len : Int) back)) ∧ Keep noBlock w w' := by
  have hlI : ¬ (len : Int) < 2 := by omega
  obtain ⟨R, hR⟩ : ∃ R, R = copyN G.k.T reach s i (len : Int) back := ⟨_, rfl⟩
  rw [← hR]
  unfold copyN at hR
  rw [if_neg hlI, Int.toNat_natCast] at hR
  have hso := h.pe.st.ok
  have hA : Cpw G w (w.alloc (.cells #[.int .u8 0, .int .i64 0, .int .u32 0, .int .i64 0] 152)) s x v i w.heap.size := ⟨h.kept ((Keep.refl noBlock w).alloc _), alloc_new w _, (Keep.refl noBlock w).alloc _, Nat.le_refl _⟩
  obtain ⟨c0, -⟩ := hA.wt.cells
  obtain ⟨-, -, -, -, f4, f5, f6, f7, -⟩ := hA.wt.pe.st.first
  have hIx := index_reps s
  have HRp := hid (fun k : Nat => repN_lt hso k)
  clear h hso
  have HR := hid hR
  have H0 := hid (show Cpw G w (w.alloc (.cells #[.int .u8 0, .int .i64 0, .int .u32 0, .int .i64 0] 152)) s x v i w.heap.size ∧ repFrom G.k.T s i len reach (4 - 0) 0 = repFrom G.k.T s i len reach 4 0 from ⟨hA, rfl⟩)
  clear hA hR
  have hil : G.k.T.length ≤ 65536 := H0.out.1.wt.tl
  go_enter Tryz.func47, Tryz.ntmps47
  go_wp2_with fail
  generalize hob : w.heap.size = ob at *
  have HOB := hid hob
  clear c0 f4 f5 f6 f7 hob
  go_loopw [23] (fun t wr => ∃ j : Nat, t = .int .i64 (j : Int) ∧ j ≤ 4 ∧ Hid (Cpw G w wr s x v i ob ∧ repFrom G.k.T s i len reach (4 - j) j = repFrom G.k.T s i len reach 4 0)) (fun t _ => 4 - (intOf t).toNat)
  case atStart => exact ⟨0, rfl, by omega, H0.out.1, rfl⟩
  case round =>
    clear H0
    obtain ⟨j, rfl, hj, HQ⟩ := hrel
    by_cases hlt : j < 4
    · have hltI : (j : Int) < 4 := by omega
      obtain ⟨q1, q2⟩ := HQ.out
      rw [show 4 - j = 4 - (j + 1) + 1 from by omega, repFrom_succ] at q2
      have hrp := HRp.out j
      have hix := hIx j hlt
      obtain ⟨kp, hkp⟩ : ∃ kp : Nat, kp = repN s j + 1 := ⟨_, rfl⟩
      have hkI : ((repN s j : Nat) : Int) + 1 = (kp : Int) := by omega
      have hkw : IntKind.i64.wrap (((repN s j : Nat) : Int) + 1) = (kp : Int) := by rw [hkI]; exact wraps_i64 _ (by omega) (by omega)
      have hfit : fitK G.k.T s i len reach j = (decide (kp ≤ reach) && standN G.k.T i len (kp : Int)) := by unfold fitK; rw [hkp]
      rw [hfit] at q2
      obtain ⟨d0, -, d2, -, d4, -⟩ := q1.wt.cells
      obtain ⟨o0, o1, o2, o3, z0, z1, z2, z3⟩ := q1.cells
      have HS := hid (fun n : Nat => stands_any G.ta G.tc G.tg G.tf G.k.T i len (kp : Int) (wr.drewN n) (q1.wt.tx.keep (keep_drewN wr n) (fun _ h => h)) (by omega) q1.wt.il (by omega) (by omega) (by omega))
      have HQ1 := hid q1
      have HQ2 := hid q2
      clear q1 q2 HQ hkp hfit hIx
      generalize repN s j = rp at *
      by_cases ck : kp ≤ reach
      · have ckI : decide (kp ≤ reach) = true := decide_eq_true ck
        rw [decide_eq_true ck, Bool.true_and] at HQ2
        generalize standN G.k.T i len (kp : Int) = bb at *
        cases bb with
        | true =>
          have HF := hid (show copyV R = .tuple #[.agg #[.int .u8 2, .int .i64 (len : Int), .int .u32 0, .int .i64 (j : Int)], .bool true] from by
            have := HQ2.out
            rw [if_pos rfl] at this
            rw [HR.out, ← this]
            rfl)
          clear HQ2 HR ck
          go_wp2_with fail
          go_quiet (first | (go_at_call 44; refine Calls.quiet_of (HS.out _)))
          go_wp2_with fail
          exact bodyPost_ret (v := .tuple #[.agg #[.int .u8 2, .int .i64 (len : Int), .int .u32 0, .int .i64 (j : Int)], .bool true]) (by simp [results, Tryz.results47, go_sem, o0, o1, o2, o3]) rfl ⟨by rw [HF.out], keep_four (HQ1.out.keep (keep_drewN wr _)).kp _ HQ1.out.sz _ _ _ _⟩
        | false =>
          have HN := hid (show repFrom G.k.T s i len reach (4 - (j + 1)) (j + 1) = repFrom G.k.T s i len reach 4 0 from by
            have := HQ2.out
            rw [if_neg (by decide)] at this
            exact this)
          clear HQ2 ck
          go_wp2_with fail
          go_quiet (first | (go_at_call 44; refine Calls.quiet_of (HS.out _)))
          go_wp2_with fail
          go_roundw
          case rel => exact ⟨j + 1, by go_num, by omega, HQ1.out.keep (keep_drewN wr _), HN.out⟩
          case measure => simp [intOf]; omega
      · have ckI : decide (kp ≤ reach) = false := decide_eq_false ck
        rw [decide_eq_false ck, Bool.false_and] at HQ2
        have HN := hid (show repFrom G.k.T s i len reach (4 - (j + 1)) (j + 1) = repFrom G.k.T s i len reach 4 0 from by
          have := HQ2.out
          rw [if_neg (by decide)] at this
          exact this)
        clear HQ2 ck
        go_wp2_with fail
        go_quiet (first | (go_at_call 44; refine Calls.quiet_of (HS.out _)))
        go_wp2_with fail
        go_roundw
        case rel => exact ⟨j + 1, by go_num, by omega, HQ1.out.keep (keep_drewN wr _), HN.out⟩
        case measure => simp [intOf]; omega
    · have hltI : ¬ (j : Int) < 4 := by omega
      obtain ⟨q1, q2⟩ := HQ.out
      rw [show 4 - j = 0 from by omega] at q2
      have HN := hid (show R = (if reach < back then none else some ⟨1, len, back - 1, 0⟩) from by rw [HR.out, ← q2]; rfl)
      obtain ⟨o0, o1, o2, o3, z0, z1, z2, z3⟩ := q1.cells
      have HQ1 := hid q1
      clear q1 q2 HQ HR hIx
      by_cases cb : reach < back
      · have cbI : (reach : Int) < (back : Int) := by omega
        have HF := hid (show copyV R = .tuple #[.agg #[.int .u8 0, .int .i64 0, .int .u32 0, .int .i64 0], .bool false] from by rw [HN.out, if_pos cb]; rfl)
        clear HN cb
        go_wp2_with fail
        exact bodyPost_ret (v := .tuple #[.agg #[.int .u8 0, .int .i64 0, .int .u32 0, .int .i64 0], .bool false]) (by simp [results, Tryz.results47, go_sem, o0, o1, o2, o3]) rfl ⟨by rw [HF.out], keep_four HQ1.out.kp _ HQ1.out.sz _ _ _ _⟩
      · have cbI : ¬ (reach : Int) < (back : Int) := by omega
        obtain ⟨b1, hb1⟩ : ∃ b1 : Nat, b1 = back - 1 := ⟨_, rfl⟩
        have hbI : (back : Int) - 1 = (b1 : Int) := by omega
        have hbl : (b1 : Int) < 65536 := by omega
        have HF := hid (show copyV R = .tuple #[.agg #[.int .u8 1, .int .i64 (len : Int), .int .u32 (b1 : Int), .int .i64 0], .bool true] from by rw [HN.out, if_neg cb, hb1]; rfl)
        clear HN cb hb1
        go_wp2_with fail
        exact bodyPost_ret (v := .tuple #[.agg #[.int .u8 1, .int .i64 (len : Int), .int .u32 (b1 : Int), .int .i64 0], .bool true]) (by simp [results, Tryz.results47, go_sem, o0, o1, o2, o3]) rfl ⟨by rw [HF.out], keep_four HQ1.out.kp _ HQ1.out.sz _ _ _ _⟩

end Go.Proofs.YtnokemcogjoonaaGreatDoor.Pt

namespace Go.Proofs.YtnokemcogjoonaaGreatDoor.Pt
open Go.RowKit Go.Shelf
set_option linter.unusedVariables false

/-- Under way, in a state: what is still to be written makes S and X of what there is. -/
def Way (G : Wg) (w wr : World) (v : Value) (s : Se) (A : List Opn) (S : Se) (X : Ex) (i : Nat) : Prop :=
  ∃ x v', Puts G w wr s x v v' i ∧ opsOk G.k A s i ∧ Room x (opsA G.k A s i) ∧ opsS A s = S ∧ runA (opsA G.k A s i) x = X
theorem Way.step {G : Wg} {w wr : World} {v : Value} {s : Se} {o : Opn} {A : List Opn} {S : Se} {X : Ex} {i : Nat} (h : Way G w wr v s (o :: A) S X i) :
    Calls Tryz.prog 48 #[.pointer (some ⟨G.wb, 0, none⟩), opV o] wr fun e w' => e = .returned (.tuple #[]) ∧ Way G w w' v (opS o s) A S X (i + o.len) := by
  obtain ⟨x, v', h1, h2, h3, h4, h5⟩ := h
  have h3' : Room x (opA G.k s i o ++ opsA G.k A (opS o s) (i + o.len)) := h3
  have h5' : runA (opA G.k s i o ++ opsA G.k A (opS o s) (i + o.len)) x = X := h5
  refine (put_any G s x v' i o wr h1.wt h2.1 h3'.left).mono ?_
  rintro e w' ⟨rfl, v2, k⟩
  refine ⟨rfl, _, v2, h1.trans k, h2.2, h3'.right, h4, ?_⟩
  rw [← runA_app]
  exact h5'
theorem Way.keep {G : Wg} {w wr wq : World} {v : Value} {s : Se} {A : List Opn} {S : Se} {X : Ex} {i : Nat} (h : Way G w wr v s A S X i) (k : Keep noBlock wr wq) : Way G w wq v s A S X i := by
  obtain ⟨x, v', h1, h2⟩ := h
  exact ⟨x, v', h1.keep k, h2⟩
set_option maxHeartbeats 2000000 in
/-- Bytes one by one, with more behind them. -/
theorem single_way (G : Wg) (w : World) (v : Value) (n : Nat) (s : Se) (A : List Opn) (S : Se) (X : Ex) (i : Nat) (hn : n ≤ 65536) (w0 : World) (h : Way G w w0 v s (litsO n ++ A) S X i) :
    Calls Tryz.prog 46 #[.pointer (some ⟨G.wb, 0, none⟩), .int .i64 (n : Int)] w0 fun e w' => e = .returned (.tuple #[]) ∧ Way G w w' v (opsS (litsO n) s) A S X (i + n) := by
  have H0 := (show Hid (opsS (litsO (n - 0)) s = opsS (litsO n) s ∧ Way G w w0 v s (litsO (n - 0) ++ A) S X (i + 0)) from ⟨rfl, h⟩)
  clear h
  go_enter Tryz.func46, Tryz.ntmps46
  go_wp2_with fail
  go_loopw [5] (fun t wr => ∃ j : Nat, t = .int .i64 (j : Int) ∧ j ≤ n ∧ Hid (∃ s', opsS (litsO (n - j)) s' = opsS (litsO n) s ∧ Way G w wr v s' (litsO (n - j) ++ A) S X (i + j))) (fun t _ => n - (intOf t).toNat)
  case atStart => exact ⟨0, rfl, by omega, s, H0.out.1, H0.out.2⟩
  case round =>
    clear H0
    obtain ⟨j, rfl, hj, HQ⟩ := hrel
    by_cases hlt : j < n
    · have hltI : (j : Int) < (n : Int) := by omega
      obtain ⟨s', q1, q2⟩ := HQ.out
      rw [show n - j = n - (j + 1) + 1 from by omega, litsO_succ] at q1 q2
      have HQ1 := hid (show opsS (litsO (n - (j + 1))) (opS litO s') = opsS (litsO n) s from q1)
      have HC := hid (Way.step (o := litO) (A := litsO (n - (j + 1)) ++ A) q2)
      clear q1 q2
      unfold opV litO at HC
      dsimp only at HC
      rw [show (((0 : Nat)) : Int) = (0 : Int) from rfl, show (((1 : Nat)) : Int) = (1 : Int) from rfl] at HC
      clear HQ
      generalize hs2 : opS (⟨0, 1, 0, 0⟩ : Opn) s' = s2 at *
      have HQ1 := hid (show opsS (litsO (n - (j + 1))) s2 = opsS (litsO n) s from by rw [← hs2]; exact HQ1.out)
      clear hs2
      go_wp2_with fail
      refine HC.out.mono ?_
      rintro e w1 ⟨rfl, hw⟩
      have HN := hid (show ∃ s', opsS (litsO (n - (j + 1))) s' = opsS (litsO n) s ∧ Way G w w1 v s' (litsO (n - (j + 1)) ++ A) S X (i + (j + 1)) from ⟨s2, HQ1.out, hw⟩)
      clear hw HC
      go_wp2_with fail
      go_roundw
      case rel => exact ⟨j + 1, by go_num, by omega, HN⟩
      case measure => simp [intOf]; omega
    · have hltI : ¬ (j : Int) < (n : Int) := by omega
      have HF := hid (show Way G w wr v (opsS (litsO n) s) A S X (i + n) from by
        obtain ⟨s', q1, q2⟩ := HQ.out
        rw [show n - j = 0 from by omega] at q1
        rw [show n - j = 0 from by omega, show i + j = i + n from by omega] at q2
        rw [← q1]
        exact q2)
      clear HQ
      go_wp2_with fail
      go_end0
      exact ⟨rfl, HF.out⟩

end Go.Proofs.YtnokemcogjoonaaGreatDoor.Pt

namespace Go.Proofs.YtnokemcogjoonaaGreatDoor.Fd
set_option linter.unusedVariables false
/-- n bytes, each the one that stands back bytes ahead of the end as it is by then. -/
def outL (M : List Nat) (back n : Nat) : List Nat := (List.range n).map (fun j => M[M.length - back + j % back]?.getD 0)
theorem outL_length (M : List Nat) (back n : Nat) : (outL M back n).length = n := by simp [outL]
theorem outL_at (M : List Nat) (back n j : Nat) (hj : j < n) : (outL M back n)[j]?.getD 0 = M[M.length - back + j % back]?.getD 0 := by simp [outL, hj]
theorem outL_succ (M : List Nat) (back n : Nat) : outL M back (n + 1) = outL M back n ++ [M[M.length - back + n % back]?.getD 0] := by simp [outL, List.range_succ]
theorem outL_take (M : List Nat) (back n t : Nat) (h : t ≤ n) : (outL M back n).take t = outL M back t := by
  unfold outL
  rw [← List.map_take, List.take_range, Nat.min_eq_left h]
theorem getD_ext {A B : List Nat} (hl : A.length = B.length) (h : ∀ j, j < A.length → A[j]?.getD 0 = B[j]?.getD 0) : A = B := by
  refine List.ext_getElem hl fun j h1 h2 => ?_
  have := h j h1
  rwa [List.getElem?_eq_getElem h1, List.getElem?_eq_getElem h2] at this
theorem outL_first (M : List Nat) (back t : Nat) (h1 : 1 ≤ back) (h2 : back ≤ M.length) (ht : t ≤ back) : (M.drop (M.length - back)).take t = outL M back t := by
  refine getD_ext (by rw [outL_length, List.length_take, List.length_drop]; omega) fun j hj => ?_
  have hj' : j < t := by rw [List.length_take] at hj; omega
  rw [outL_at M back t j hj', List.getElem?_take, if_pos hj', List.getElem?_drop, Nat.mod_eq_of_lt (by omega)]
theorem outL_more (M : List Nat) (back d c : Nat) (hd : back ∣ d) (hc : c ≤ d) : outL M back (d + c) = outL M back d ++ (outL M back d).take c := by
  rw [outL_take M back d c hc]
  refine getD_ext (by rw [List.length_append, outL_length, outL_length, outL_length]) fun j hj => ?_
  rw [outL_length] at hj
  rw [outL_at M back _ j hj, List.getElem?_append, outL_length]
  by_cases h : j < d
  · rw [if_pos h, outL_at M back d j h]
  · rw [if_neg h, outL_at M back c (j - d) (by omega)]
    obtain ⟨q, rfl⟩ := hd
    have : j % back = (j - back * q) % back := by
      conv => lhs; rw [show j = (j - back * q) + back * q by omega]
      rw [Nat.add_mul_mod_self_left]
    rw [this]
/-- The byte that comes next stands back bytes ahead of the end. -/
theorem outL_next (M : List Nat) (back n : Nat) (h1 : 1 ≤ back) (h2 : back ≤ M.length) : (M ++ outL M back n)[M.length + n - back]?.getD 0 = M[M.length - back + n % back]?.getD 0 := by
  rw [List.getElem?_append]
  by_cases h : n < back
  · rw [if_pos (by omega), Nat.mod_eq_of_lt h]; congr 2; omega
  · rw [if_neg (by omega), outL_at M back n _ (by omega), show M.length + n - back - M.length = n - back by omega]
    rw [Nat.mod_eq_sub_mod (show back ≤ n by omega)]
theorem outL_zero (M : List Nat) (back : Nat) : outL M back 0 = [] := rfl
/-- What is copied of a row that grows out of itself. -/
theorem outL_grow (M : List Nat) (back k t : Nat) (h1 : 1 ≤ back) (h2 : back ≤ M.length) (hd : back ∣ k) (ht : t ≤ back + k) : outL M back (k + t) = outL M back k ++ ((M ++ outL M back k).drop (M.length - back)).take t := by
  have hl : ((M ++ outL M back k).drop (M.length - back)).length = back + k := by rw [List.length_drop, List.length_append, outL_length]; omega
  refine getD_ext (by rw [outL_length, List.length_append, outL_length, List.length_take, hl]; omega) fun j hj => ?_
  rw [outL_length] at hj
  rw [outL_at M back _ j hj, List.getElem?_append, outL_length]
  by_cases h : j < k
  · rw [if_pos h, outL_at M back k j h]
  · rw [if_neg h, List.getElem?_take, if_pos (by omega), List.getElem?_drop, List.getElem?_append]
    have hm : j % back = (j - k) % back := by
      obtain ⟨q, rfl⟩ := hd
      conv => lhs; rw [show j = (j - back * q) + back * q by omega]
      rw [Nat.add_mul_mod_self_left]
    by_cases h3 : j - k < back
    · rw [if_pos (by omega), hm, Nat.mod_eq_of_lt h3]
    · rw [if_neg (by omega), outL_at M back k _ (by omega), hm, show M.length - back + (j - k) - M.length = j - k - back by omega, Nat.mod_eq_sub_mod (show back ≤ j - k by omega)]

abbrev Tri := Int × Int × Int
/-- May a step be, where so many bytes are left and so many are there? -/
def okT (rest whole : Int) (t : Tri) : Prop := 0 ≤ t.1 ∧ 0 ≤ t.2.1 ∧ 0 ≤ t.2.2 ∧ t.1 ≤ rest ∧ t.2.1 ≤ 16777216 - (whole + t.1) ∧ (0 < t.2.1 → t.2.2 ≠ 0 ∧ t.2.2 ≤ whole + t.1)
def okTD (rest whole : Int) (t : Tri) : Decidable (okT rest whole t) := by unfold okT; exact inferInstance
/-- May all be? -/
def okB (rest whole : Int) : List Tri → Bool
  | [] => decide (whole ≤ 16777216)
  | t :: r => @decide (okT rest whole t) (okTD rest whole t) && okB (rest - t.1) (whole + t.1 + t.2.1) r
theorem okB_no {rest whole : Int} {t : Tri} {r : List Tri} (h : ¬ okT rest whole t) : okB rest whole (t :: r) = false := by simp [okB, h]
theorem okB_go {rest whole : Int} {t : Tri} {r : List Tri} (h : okT rest whole t) : okB rest whole (t :: r) = okB (rest - t.1) (whole + t.1 + t.2.1) r := by simp [okB, h]
/-- How many bytes there are then. -/
def sizeB (whole : Int) : List Tri → Int
  | [] => whole
  | t :: r => sizeB (whole + t.1 + t.2.1) r
theorem sizeB_le {rest whole : Int} {ts : List Tri} (h : okB rest whole ts = true) (h0 : 0 ≤ whole) : 0 ≤ sizeB whole ts ∧ sizeB whole ts ≤ 16777216 := by
  induction ts generalizing rest whole with
  | nil => simp [okB] at h; exact ⟨h0, h⟩
  | cons t r ih =>
    by_cases e : okT rest whole t
    · rw [okB_go e] at h
      exact ih h (by have := e.1; have := e.2.1; omega)
    · rw [okB_no e] at h; cases h
/-- What steps make. -/
def outB (out rest : List Nat) : List Tri → List Nat
  | [] => out
  | t :: r => outB ((out ++ rest.take t.1.toNat) ++ outL (out ++ rest.take t.1.toNat) t.2.2.toNat t.2.1.toNat) (rest.drop t.1.toNat) r
theorem drop_cons {ts : List Tri} {i : Nat} (h : i < ts.length) : ts.drop i = ts[i]?.getD (0, 0, 0) :: ts.drop (i + 1) := by
  rw [List.drop_eq_getElem_cons h, List.getElem?_eq_getElem h]; rfl
theorem lt_out {M : List Nat} (h : ∀ j : Nat, M[j]?.getD 0 < 256) (back n : Nat) : ∀ j : Nat, (outL M back n)[j]?.getD 0 < 256 := by
  intro j
  by_cases e : j < n
  · rw [outL_at M back n j e]; exact h _
  · rw [List.getElem?_eq_none (by rw [outL_length]; omega)]; decide
end Go.Proofs.YtnokemcogjoonaaGreatDoor.Fd

namespace Go.Proofs.YtnokemcogjoonaaGreatDoor.Fd
open Go.RowKit Go.Shelf
set_option linter.unusedVariables false

theorem info25 : (Tryz.prog.info? 46).map (fun i => (i.zero, i.size, i.bytes)) = some (some (.agg #[.int .i64 0, .int .i64 0, .int .i64 0]), 3, 24) := by kernel_rfl
/-- Steps as values. -/
def seqs (L : List (Nat × Nat × Nat)) : List Value := L.flatMap (fun t => [.int .i64 (t.1 : Int), .int .i64 (t.2.1 : Int), .int .i64 (t.2.2 : Int)])
theorem seqs_app (A B : List (Nat × Nat × Nat)) : seqs (A ++ B) = seqs A ++ seqs B := by simp [seqs]
theorem seqs_length (L : List (Nat × Nat × Nat)) : (seqs L).length = L.length * 3 := by
  induction L with
  | nil => rfl
  | cons t r ih => rw [show seqs (t :: r) = seqs [t] ++ seqs r from seqs_app [t] r, List.length_append, ih]; simp [seqs]; omega
theorem seqs_at (L : List (Nat × Nat × Nat)) (j : Nat) (hj : j < L.length) : (seqs L)[j * 3]? = some (.int .i64 ((L[j]?.getD (0, 0, 0)).1 : Int)) ∧ (seqs L)[j * 3 + 1]? = some (.int .i64 ((L[j]?.getD (0, 0, 0)).2.1 : Int)) ∧ (seqs L)[j * 3 + 2]? = some (.int .i64 ((L[j]?.getD (0, 0, 0)).2.2 : Int)) := by
  induction L generalizing j with
  | nil => simp at hj
  | cons t r ih =>
    cases j with
    | zero => simp [seqs]
    | succ j =>
      have e : seqs (t :: r) = [.int .i64 (t.1 : Int), .int .i64 (t.2.1 : Int), .int .i64 (t.2.2 : Int)] ++ seqs r := seqs_app [t] r
      have := ih j (by simpa using hj)
      rw [e, List.getElem?_append_right (by simp; omega), List.getElem?_append_right (by simp; omega), List.getElem?_append_right (by simp; omega)]
      simp only [List.length_cons, List.length_nil, List.getElem?_cons_succ]
      rw [show (j + 1) * 3 - (0 + 1 + 1 + 1) = j * 3 from by omega, show (j + 1) * 3 + 1 - (0 + 1 + 1 + 1) = j * 3 + 1 from by omega, show (j + 1) * 3 + 2 - (0 + 1 + 1 + 1) = j * 3 + 2 from by omega]
      exact this
theorem seqs_one (L : List (Nat × Nat × Nat)) : ∀ u ∈ seqs L, u.oneCell' = true := by
  intro u hu
  simp only [seqs, List.mem_flatMap] at hu
  obtain ⟨t, _, ht⟩ := hu
  simp at ht
  rcases ht with rfl | rfl | rfl <;> rfl
/-- A slice of steps of one's own. -/
abbrev ownsQ (w : World) (v : Value) (L : List (Nat × Nat × Nat)) : Prop := w.ownsRow 0 46 3 v L.length (seqs L)
theorem ownsQ_nil (w : World) : ownsQ w (.slice none 0 0) [] := ⟨rfl, .inl ⟨rfl, rfl⟩⟩
theorem ownsQ_kept {w w' : World} {S : Nat → Prop} {v : Value} {L : List (Nat × Nat × Nat)} (h : ownsQ w v L) (hk : Keep S w w') (hS : ∀ g, v.ownBlock = some g → ¬ S g) : ownsQ w' v L := by
  refine ⟨h.1, ?_⟩
  rcases h.2 with ⟨e, h0⟩ | ⟨g, cap, cur, rfl, hb, hg, hr⟩
  · exact .inl ⟨e, h0⟩
  · exact .inr ⟨g, cap, cur, rfl, hb, hk.obj hg (hS g rfl), hr⟩
theorem ownsQ_form {w : World} {v : Value} {L : List (Nat × Nat × Nat)} (h : ownsQ w v L) : ∃ a cap, v = .slice a L.length cap := by
  rcases h.2 with ⟨e, h0⟩ | ⟨g, cap, cur, rfl, hb, hg, hr⟩
  · exact ⟨none, 0, by rw [h0]; exact e⟩
  · exact ⟨_, cap, rfl⟩
/-- One step more. -/
theorem seq_append (w : World) (v : Value) (L : List (Nat × Nat × Nat)) (h : ownsQ w v L) (hl : L.length < 1000000) (l m b : Nat) :
    ∃ v' w', (Builtin.append_ #[38, 38] 38 #[v, .slice (some ⟨w.heap.size, 0, none⟩) 1 1]).run Tryz.prog (w.alloc (.cells #[.int .i64 (l : Int), .int .i64 (m : Int), .int .i64 (b : Int)] 46)).drew = .ok v' w' ∧ ownsQ w' v' (L ++ [(l, m, b)]) ∧ Keep (fun k => v.ownBlock = some k) w w' ∧ (v'.ownBlock = v.ownBlock ∨ ∃ k, v'.ownBlock = some k ∧ w.heap.size ≤ k) := by
  obtain ⟨i0, hi, hz0, hz1, hz2⟩ := info_parts info25
  have k0 : Keep noBlock w (w.alloc (.cells #[.int .i64 (l : Int), .int .i64 (m : Int), .int .i64 (b : Int)] 46)).drew := ((Keep.refl _ w).alloc _).drew
  have h0 := ownsQ_kept h k0 (fun _ _ h => h)
  have hc : ∀ j u, (seqs [(l, m, b)])[j]? = some u → (w.alloc (.cells #[.int .i64 (l : Int), .int .i64 (m : Int), .int .i64 (b : Int)] 46)).drew.cell? ((⟨w.heap.size, 0, none⟩ : Addr).add j) = some u := fun j u hu => by
    rw [add0]
    have hn : (w.alloc (.cells #[.int .i64 (l : Int), .int .i64 (m : Int), .int .i64 (b : Int)] 46)).drew.heap[w.heap.size]? = some (.cells #[.int .i64 (l : Int), .int .i64 (m : Int), .int .i64 (b : Int)] 46 (0, 0)) := alloc_new w _
    rw [cell_of hn j]
    simpa [seqs] using hu
  obtain ⟨v', w', hr, h2, h3, h4, h5⟩ := run_append_own_at (P := Tryz.prog) _ 0 38 38 46 i0 (.agg #[.int .i64 0, .int .i64 0, .int .i64 0]) 3 24 Tryz.underlying38 hi hz0 hz1 hz2 rfl (by decide) v L.length (seqs L) h0 ⟨w.heap.size, 0, none⟩ 1 1 (seqs [(l, m, b)]) rfl hc (seqs_one _) (by unfold maxLen; omega) (by omega) (Nat.zero_le _)
  refine ⟨v', w', hr, by unfold ownsQ; rw [seqs_app, List.length_append, List.length_singleton]; exact h2, (k0.mono (T := fun k => v.ownBlock = some k) (fun _ _ h => h.elim)).grown h3 (fun k e _ => e), ?_⟩
  rcases h5 with e | e
  · exact .inl e
  · exact .inr ⟨_, e, k0.size⟩
/-- append, its run handed in: at a plain region's list. -/
theorem wpList_append_run {ops : Array Oper} {rest : List Oper} {o : Oper} {a : Go.Act} {Q : Exit → Go.Act → World → Prop} (w : World) (hgd : o.guard = none) (s x : Operand) (t : TypeId)
    (ho : o.op = .call { callee := .builtin .append, args := #[s, x], argTypes := #[t, t] }) (v sv v' : Value) (w' : World) (hs : a.eval s = v) (hx : a.eval x = sv)
    (hr : (Builtin.append_ #[t, t] o.type #[v, sv]).run Tryz.prog w = .ok v' w') (hk : wpList Tryz.prog ops Q rest (a.put o.dst v') w') : wpList Tryz.prog ops Q (o :: rest) a w := by
  refine wpList_plain hgd fun K hK => ?_
  unfold Oper.wp execOp
  simp only [ho, resolve, invoke, builtin, Sem.run_bind, Sem.run_pure, Result.andThen_ok, List.map_toArray, List.map_cons, List.map_nil, hs, hx, hr]
  exact hK _ _ hk
/-- .. at a step of a region that draws. -/
theorem step_append_run {ops : Array Oper} {o : Oper} {a : Go.Act} {K : Go.Act → World → Prop} {Q : Exit → Go.Act → World → Prop} {E : Prop} (w : World) (hgd : o.guard = none) (s x : Operand) (t : TypeId)
    (ho : o.op = .call { callee := .builtin .append, args := #[s, x], argTypes := #[t, t] }) (v sv v' : Value) (w' : World) (hs : a.eval s = v) (hx : a.eval x = sv)
    (hr : (Builtin.append_ #[t, t] o.type #[v, sv]).run Tryz.prog w = .ok v' w') (hk : K (a.put o.dst v') w') : if Region.wanted o (yielded ops a.tmps) = true then Oper.wp Tryz.prog o a w K Q else E := by
  have hw : Region.wanted o (yielded ops a.tmps) = true := by simp [Region.wanted, hgd]
  rw [if_pos hw]
  unfold Oper.wp execOp
  simp only [ho, resolve, invoke, builtin, Sem.run_bind, Sem.run_pure, Result.andThen_ok, List.map_toArray, List.map_cons, List.map_nil, hs, hx, hr]
  exact hk
end Go.Proofs.YtnokemcogjoonaaGreatDoor.Fd

namespace Go.Proofs.YtnokemcogjoonaaGreatDoor.Fd
open Go.RowKit Go.Shelf
set_option linter.unusedVariables false

/-- The slice reads as steps. -/
structure RowQ (w : World) (a : Option Addr) (cap gb off : Nat) (ts : List Tri) : Prop where
  at_ : a = some (⟨gb, off, none⟩ : Addr) ∨ ts = []
  cells : ∀ j, j < ts.length → w.cell? ⟨gb, off + j * 3, none⟩ = some (.int .i64 (ts[j]?.getD (0, 0, 0)).1) ∧ w.cell? ⟨gb, off + j * 3 + 1, none⟩ = some (.int .i64 (ts[j]?.getD (0, 0, 0)).2.1) ∧ w.cell? ⟨gb, off + j * 3 + 2, none⟩ = some (.int .i64 (ts[j]?.getD (0, 0, 0)).2.2)
  b63 : ∀ j : Nat, (ts[j]?.getD (0, 0, 0)).2.2 < 9223372036854775808
theorem RowQ.block {w : World} {a : Option Addr} {cap gb off : Nat} {ts : List Tri} (h : RowQ w a cap gb off ts) (hb : ts ≠ []) : gb < w.heap.size :=
  World.block_lt_of_cell? w ⟨gb, off + 0 * 3, none⟩ (h.cells 0 (List.length_pos_iff.2 hb)).1
theorem RowQ.keep {w w' : World} {S : Nat → Prop} {a : Option Addr} {cap gb off : Nat} {ts : List Tri} (h : RowQ w a cap gb off ts) (hk : Keep S w w') (hS : ts ≠ [] → ¬ S gb) : RowQ w' a cap gb off ts :=
  ⟨h.at_, fun j hj => by
    have hne : ts ≠ [] := by rintro rfl; simp at hj
    have e := hk.block gb (h.block hne) (hS hne)
    obtain ⟨q1, q2, q3⟩ := h.cells j hj
    exact ⟨(World.cell?_of_block e).trans q1, (World.cell?_of_block e).trans q2, (World.cell?_of_block e).trans q3⟩, h.b63⟩
theorem RowQ.here {w : World} {a : Option Addr} {cap gb off : Nat} {ts : List Tri} (h : RowQ w a cap gb off ts) {i : Nat} (hi : i < ts.length) : a = some ⟨gb, off, none⟩ := by
  rcases h.at_ with h | h
  · exact h
  · rw [h] at hi; simp at hi


end Go.Proofs.YtnokemcogjoonaaGreatDoor.Fd

namespace Go.Proofs.YtnokemcogjoonaaGreatDoor.Pt
open Go.RowKit Go.Shelf
set_option linter.unusedVariables false

/-- The three variables that split reads. -/
structure Cap (G : Wg) (W : World) (bw bl br reach : Nat) : Prop where
  w0 : W.heap[bw]? = some (.cells #[.pointer (some ⟨G.wb, 0, none⟩)] 98 (0, 0))
  l0 : W.heap[bl]? = some (.cells #[.int .i64 ((G.k.T.length : Int) - 1)] 3 (0, 0))
  r0 : W.heap[br]? = some (.cells #[.int .i64 (reach : Int)] 3 (0, 0))
theorem Cap.keep {G : Wg} {W W' : World} {bw bl br reach : Nat} (h : Cap G W bw bl br reach) (k : Keep noBlock W W') : Cap G W' bw bl br reach := ⟨k.obj h.w0 (fun h => h), k.obj h.l0 (fun h => h), k.obj h.r0 (fun h => h)⟩
theorem Cap.cells {G : Wg} {W : World} {bw bl br reach : Nat} (h : Cap G W bw bl br reach) : W.cell? ⟨bw, 0, none⟩ = some (.pointer (some ⟨G.wb, 0, none⟩)) ∧ W.cell? ⟨bl, 0, none⟩ = some (.int .i64 ((G.k.T.length : Int) - 1)) ∧ W.cell? ⟨br, 0, none⟩ = some (.int .i64 (reach : Int)) := ⟨cell_of h.w0 0, cell_of h.l0 0, cell_of h.r0 0⟩
/-- A block of one of these types is none that a writer turns. -/
theorem ws_no {G : Wg} {w : World} {s : Se} {x : Ex} {v : Value} {i b : Nat} {cs : Array Value} {t : TypeId} (h : Wt G w s x v i) (ho : w.heap[b]? = some (.cells cs t (0, 0))) (h1 : t ≠ 102) (h2 : t ≠ 77) (h3 : t ≠ 149) (h4 : t ≠ 5) : ¬ WS G v b := by
  rintro (e | e | e | e)
  · exact ne_of_type ho h.obj h1 e
  · exact h.pe.st.ne ho h2 e.symm
  · exact ne_of_type ho h.pe.en.obj h3 e
  · exact owns_ne h.pe.en.own ho h4 e

end Go.Proofs.YtnokemcogjoonaaGreatDoor.Pt
