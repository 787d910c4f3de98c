/-
  Great arrays as they are made, and rows of cells.
  A range over places(states, below): the states in the order in which symbols take them.
  The statement 'for k, state := range places(..)': its body is asked for the places alone, in their order.
  The statement 'for .. := range g': its body is asked for what the function hands over alone, told by a relation.
  How much shorter words get with one state more, as plain numbers; sums over symbols.
  Weights that make a code, and the words of their bytes: no program is named here.
  A region that draws its order, inside the body of a range over a function: walked as outside of it.
-/
import Derived.Deep.RegionHeld3
import Derived.Test.YtcoahkmiebeeeaaGreatDoorLitP2
namespace Go.Proofs.YtcoahkmiebeeeaaGreatDoor
open Go.RowKit Go.Shelf

def zeros71 : Array Value := (List.replicate 4096 [Value.int .u8 0, Value.int .u8 0, Value.int .u16 0]).flatten.toArray
def zeros103 : Array Value := (List.replicate 4096 (Value.int .u8 0)).toArray
def zeros107 : Array Value := (List.replicate 256 (Value.int .i64 0)).toArray
def zeros112 : Array Value := (List.replicate 256 (Value.int .i16 0)).toArray
theorem zero107 : Tryz.zeroCells194 = zeros107 := by kernel_rfl
theorem zero112 : Tryz.zeroCells185 = zeros112 := by kernel_rfl

def isZ (k : IntKind) : Value → Bool
  | .int k' n => decide (k' = k) && n == 0
  | _ => false
theorem isZ_eq {k : IntKind} {v : Value} (h : isZ k v = true) : v = .int k 0 := by
  cases v with
  | int k' n =>
    simp only [isZ, Bool.and_eq_true, decide_eq_true_eq, beq_iff_eq] at h
    rw [h.1, h.2]
  | _ => simp [isZ] at h
def ok1 : Nat → List Value → Bool
  | 0, [] => true
  | n + 1, a :: r => isZ .u8 a && ok1 n r
  | _, _ => false
def ok3 : Nat → List Value → Bool
  | 0, [] => true
  | n + 1, a :: b :: c :: r => isZ .u8 a && (isZ .u8 b && (isZ .u16 c && ok3 n r))
  | _, _ => false
theorem ok1_eq : ∀ (n : Nat) (l : List Value), ok1 n l = true → l = List.replicate n (.int .u8 0)
  | 0, [], _ => rfl
  | 0, _ :: _, h => by simp [ok1] at h
  | n + 1, [], h => by simp [ok1] at h
  | n + 1, a :: r, h => by
    simp only [ok1, Bool.and_eq_true] at h
    rw [isZ_eq h.1, ok1_eq n r h.2, List.replicate_succ]
theorem ok3_eq : ∀ (n : Nat) (l : List Value), ok3 n l = true → l = (List.replicate n [Value.int .u8 0, Value.int .u8 0, Value.int .u16 0]).flatten
  | 0, [], _ => rfl
  | 0, _ :: _, h => by simp [ok3] at h
  | n + 1, [], h => by simp [ok3] at h
  | n + 1, [_], h => by simp [ok3] at h
  | n + 1, [_, _], h => by simp [ok3] at h
  | n + 1, a :: b :: c :: r, h => by
    simp only [ok3, Bool.and_eq_true] at h
    rw [isZ_eq h.1, isZ_eq h.2.1, isZ_eq h.2.2.1, ok3_eq n r h.2.2.2, List.replicate_succ, List.flatten_cons]
    rfl
theorem chk103 : ok1 4096 Tryz.zeroCells190.toList = true := by kernel_rfl
theorem chk71 : ok3 4096 Tryz.zeroCells158.toList = true := by kernel_rfl
theorem zero103 : Tryz.zeroCells190 = zeros103 := by
  apply Array.ext'
  unfold zeros103
  rw [List.toList_toArray]
  exact ok1_eq _ _ chk103
theorem zero71 : Tryz.zeroCells158 = zeros71 := by
  apply Array.ext'
  unfold zeros71
  rw [List.toList_toArray]
  exact ok3_eq _ _ chk71

end Go.Proofs.YtcoahkmiebeeeaaGreatDoor

namespace Go.Proofs.YtcoahkmiebeeeaaGreatDoor
open Go.RowKit Go.Shelf

attribute [local go_sem] Oper.semAt_some

set_option maxHeartbeats 1000000 in
theorem places_in (F : Fence) (n : Nat) (h61 : F.fn 104) (hro : F.round = none) (s h : Int) (w : World) :
    CallsIn F n Tryz.prog 104 #[.int .i64 s, .int .i64 h] w fun e w' => e = .returned (.func (.func 122) #[] #[.pointer (some ⟨w.heap.size, 0, none⟩), .pointer (some ⟨w.heap.size + 1, 0, none⟩)]) ∧ w' = (w.alloc (.cells #[.int .i64 s] 3)).alloc (.cells #[.int .i64 h] 3) := by
  refine callsIn_of_wp Tryz.func104 rfl h61 ?_ hro
  simp only [Tryz.ntmps104, List.size_toArray, List.length_cons, List.length_nil, Nat.reduceAdd, Nat.reduceSub, Array.replicate_succ, Array.replicate_zero, List.push_toArray, List.append_toArray, List.nil_append, List.cons_append]
  gi_wp2
  go_ret
  exact ⟨rfl, rfl⟩

def PBox (Bs Bh S H : Nat) (W : World) : Prop := W.heap[Bs]? = some (.cells #[.int .i64 (S : Int)] 3 (0, 0)) ∧ W.heap[Bh]? = some (.cells #[.int .i64 (H : Int)] 3 (0, 0))
def placeV (S H k : Nat) : Array Value := #[.int .i64 (k : Int), .int .i64 ((place S H k : Nat) : Int)]

set_option maxRecDepth 100000 in
set_option maxHeartbeats 4000000 in
theorem places1_in (F : Fence) (n : Nat) (h71 : F.fn 122) (hro : F.round = none) (hn : 1 ≤ n) (l Bs Bh S H v : Nat) (ho : Odd S v) (hS : S ≤ 4096) (hH : H ≤ S) (J : Nat → World → Prop) (Jx : World → Prop)
    (hB : ∀ k W, J k W → PBox Bs Bh S H W)
    (hY : ∀ k W, k < H → J k W → YieldAt F (n - 1) Tryz.prog l (placeV S H k) W fun e W' => (e = .returned (.bool true) ∧ J (k + 1) W') ∨ (e = .returned (.bool false) ∧ Jx W')) (W : World) (h0 : J 0 W) :
    CallsIn F n Tryz.prog 122 #[.func (.yield l) #[] #[], .pointer (some ⟨Bs, 0, none⟩), .pointer (some ⟨Bh, 0, none⟩)] W fun e W' => (∃ v, e = .returned v) ∧ (J H W' ∨ Jx W') := by
  obtain ⟨b1, b2⟩ := hB 0 W h0
  have c1 : W.cell? ⟨Bs, 0, none⟩ = some (.int .i64 (S : Int)) := cell_of b1 0
  have c2 : W.cell? ⟨Bh, 0, none⟩ = some (.int .i64 (H : Int)) := cell_of b2 0
  obtain ⟨P, hP⟩ : ∃ P, P = stepN S := ⟨_, rfl⟩
  have hPI : (S : Int) / 2 + (S : Int) / 8 + 3 = (P : Int) := by rw [hP]; unfold stepN; omega
  have hPb : (P : Int) ≤ 4096 := by rw [hP]; unfold stepN; omega
  have HP := (show Hid (P = stepN S) from hP)
  have HY := (show Hid (∀ k W, k < H → J k W → _) from hY)
  have HB := (show Hid (∀ k W, J k W → PBox Bs Bh S H W) from hB)
  have hSI : (S : Int) ≤ 4096 := by omega
  have hHI : (H : Int) ≤ (S : Int) := by omega
  have hSp : 0 < (S : Int) := by have := ho.pos; omega
  have HO := (show Hid (Odd S v) from ho)
  clear hY hB b1 b2 hP ho
  refine callsIn_of_wp Tryz.func122 rfl h71 ?_ hro
  simp only [Tryz.ntmps122, List.size_toArray, List.length_cons, List.length_nil, Nat.reduceAdd, Nat.reduceSub, Array.replicate_succ, Array.replicate_zero, List.push_toArray, List.append_toArray, List.nil_append, List.cons_append]
  gi_wp2
  clear c1 c2
  gi_loopw [5, 14] (fun vs vi wr => ∃ (k x : Nat), vi = .int .i64 (k : Int) ∧ vs = .int .i64 (x : Int) ∧ k ≤ H ∧ Hid (k < H → Turn S H k x) ∧ J k wr) (fun _ vi _ => H - (intOf vi).toNat)
  case atStart => exact ⟨0, 0, rfl, rfl, Nat.zero_le _, fun h => turn_zero S H (by omega) h, h0⟩
  case round =>
    clear h0 hPI
    obtain ⟨k, x, rfl, rfl, hk, HT, hJ⟩ := hrel
    by_cases hlt : k < H
    · have hT := HT.out hlt
      obtain ⟨fn, tmps, assign, body, hy, hR⟩ := HY.out k wr hlt hJ
      unfold placeV at hy
      rw [hT.place] at hy
      have hxS : x < H := hT.lt
      have hltI : (k : Int) < (H : Int) := by omega
      clear hJ
      gi_wp2
      refine hR.mono ?_
      rintro e W3 (⟨rfl, hJ3⟩ | ⟨rfl, hJx3⟩)
      · obtain ⟨b1, b2⟩ := HB.out _ _ hJ3
        have c1 : W3.cell? ⟨Bs, 0, none⟩ = some (.int .i64 (S : Int)) := cell_of b1 0
        have c2 : W3.cell? ⟨Bh, 0, none⟩ = some (.int .i64 (H : Int)) := cell_of b2 0
        obtain ⟨y, hy2⟩ : ∃ y, y = (x + P) % S := ⟨_, rfl⟩
        have hyI : ((x : Int) + (P : Int)) % (S : Int) = (y : Int) := by rw [hy2]; simp
        have HYI := (show Hid (((x : Int) + (P : Int)) % (S : Int) = (y : Int)) from hyI)
        have HM := (show Hid (Mid S H k y) from by rw [hy2, HP.out]; exact hT.next)
        have hSne : (S : Int) ≠ 0 := by omega
        have hSnb : ((S : Int) == 0) = false := by simpa using hSne
        have HJ3 := (show Hid (J (k + 1) W3) from hJ3)
        clear hT hy2 hJ3 b1 b2 hR hy hyI
        gi_wp2_with fail
        gi_loop [5] (fun vs => ∃ z : Nat, vs = .int .i64 (z : Int) ∧ Hid (Mid S H k z)) (fun vs => meas S v (intOf vs).toNat)
        case atStart => exact ⟨y, by rw [HYI.out], HM⟩
        case round =>
          clear HM
          obtain ⟨z, rfl, HM⟩ := hrel
          have hzS : (z : Int) < (S : Int) := by have := HM.out.lt HO.out; omega
          by_cases hz : H ≤ z
          · have hzI : (H : Int) ≤ (z : Int) := by omega
            obtain ⟨y2, hy2⟩ : ∃ y, y = (z + P) % S := ⟨_, rfl⟩
            have hyI : ((z : Int) + (P : Int)) % (S : Int) = (y2 : Int) := by rw [hy2]; simp
            have HYI := (show Hid (((z : Int) + (P : Int)) % (S : Int) = (y2 : Int)) from hyI)
            have HM2 := (show Hid (Mid S H k y2 ∧ meas S v y2 < meas S v z) from by rw [hy2, HP.out]; exact ⟨HM.out.next (by omega) hz, HM.out.meas HO.out (by omega) hz⟩)
            clear hy2 hyI
            gi_wp2_with fail
            go_round
            case rel => exact ⟨y2, by rw [HYI.out], HM2.out.1⟩
            case measure => have h := HYI.out; simp only [intOf]; simp; rw [h]; simpa using HM2.out.2
          · have hzI : ¬ (H : Int) ≤ (z : Int) := by omega
            gi_wp2_with fail
            go_roundw
            case rel => exact ⟨k + 1, z, by go_num, rfl, by omega, fun h => (HM.out.end_ HO.out hH (by omega)).resolve_left (by omega), HJ3.out⟩
            case measure => simp [intOf]; omega
      · gi_wp2
        refine bodyPost_ret (results_none rfl _ _ _) rfl ?_
        exact ⟨⟨_, rfl⟩, .inr hJx3⟩
    · obtain rfl : k = H := by omega
      gi_wp2
      go_end0
      exact ⟨⟨_, rfl⟩, .inl hJ⟩

end Go.Proofs.YtcoahkmiebeeeaaGreatDoor

namespace Go.Proofs.YtcoahkmiebeeeaaGreatDoor
open Go.RowKit Go.Shelf

def goesOn (B : Nat) (J : World → Prop) (X : Code → World → Prop) (W : World) : Exit → Act → World → Prop
  | .normal, _, V => KeepsFrom B W V ∧ J V
  | .ret, _, V => KeepsFrom B W V ∧ X .ret V
  | .exit i, _, V => KeepsFrom B W V ∧ X (.exit i) V
  | _, _, _ => False

theorem range_places {n : Nat} {g : Operand} {ps : Array Tmp} {assign body : Code} {Q : Exit → Act → World → Prop} {a : Act} {w : World} (hn : 3 ≤ n) (Bs Bh S H v : Nat) (ho : Odd S v) (hS : S ≤ 4096) (hH : H ≤ S)
    (hg : a.eval g = .func (.func 122) #[] #[.pointer (some ⟨Bs, 0, none⟩), .pointer (some ⟨Bh, 0, none⟩)]) (hps : ps.size = 2)
    (I : Nat → World → Prop) (X : Code → World → Prop) (A : Nat → Act → World → Prop) (hI : OwnFrom w.heap.size I) (hX : OwnFrom w.heap.size X) (hA : ∀ k a', OwnFrom w.heap.size (fun (_ : Unit) V => A k a' V)) (h0 : I 0 w) (hIB : ∀ k V, I k V → PBox Bs Bh S H V)
    (hassign : ∀ k V (K : Act → World → Prop), k < H → I k V → (∀ a' V', KeepsFrom w.heap.size V V' → I k V' → A k a' V' → K a' V') →
      assign.wpIn (Fence.wide.inRound (w.heap.size + 1)) (n - 1 - 1) Tryz.prog (Exit.then K (fun _ _ _ => False)) { tmps := (ps.zip (placeV S H k)).foldl (fun t (p, v) => t.setIfInBounds p v) a.tmps, defers := [] } V)
    (hbody : ∀ k a' V, k < H → I k V → A k a' V → body.wpIn (Fence.wide.inRound (w.heap.size + 1)) (n - 1 - 1) Tryz.prog (goesOn w.heap.size (I (k + 1)) X V) a' V)
    (hdone : ∀ V, I H V → V.heap[w.heap.size]? = some (.deferred (some [])) → Q .normal { a with defers := { target := .collected w.heap.size, args := #[] } :: a.defers } V)
    (hstop : ∀ j V, X j V → V.heap[w.heap.size]? = some (.deferred (some [])) → j.wpIn Fence.wide n Tryz.prog Q { a with defers := { target := .collected w.heap.size, args := #[] } :: a.defers } V) :
    (Code.rangeFunc g ps assign body).wpIn Fence.wide n Tryz.prog Q a w := by
  refine wpIn_rangeFunc fun fn hfn => ?_
  -- the loop's record
  obtain ⟨mk, hmk⟩ : ∃ mk : LoopState → Option Code → Obj, mk = fun st pe => .loop { state := st, pending := pe, fn, tmps := a.tmps, params := ps, assign, body, defers := w.heap.size } := ⟨_, rfl⟩
  have mkc : ∀ st pe, (mk st pe).isCells = false := fun st pe => by rw [hmk]; rfl
  obtain ⟨V1, hV1⟩ : ∃ V1, V1 = (w.alloc (.deferred (some []))).alloc (mk .ready none) := ⟨_, rfl⟩
  have hsz : (w.alloc (.deferred (some []))).heap.size = w.heap.size + 1 := World.size_alloc _ _
  have hrec : V1.heap[w.heap.size + 1]? = some (mk .ready none) := by rw [hV1, ← hsz]; exact World.alloc_heap_new _ _
  have hdef : V1.heap[w.heap.size]? = some (.deferred (some [])) := by rw [hV1]; exact alloc_far (World.alloc_heap_new w _) _
  have hI1 : I 0 V1 := by rw [hV1]; exact hI.alloc _ (hI.alloc _ h0)
  refine ⟨w.heap.size + 1, [{ target := .collected w.heap.size, args := #[] }], V1, { target := .fn (.func 122) #[.pointer (some ⟨Bs, 0, none⟩), .pointer (some ⟨Bh, 0, none⟩)], args := #[.func (.yield (w.heap.size + 1)) #[] #[]] }, V1, 122,
    #[.func (.yield (w.heap.size + 1)) #[] #[], .pointer (some ⟨Bs, 0, none⟩), .pointer (some ⟨Bh, 0, none⟩)], V1, ?_, ?_, fun _ _ => trivial, ?_, fun _ => by omega, ?_⟩
  · rw [hV1, hmk]; exact run_enterLoop_outer _ _ _ _ _
  · simp only [resolve, hg]
    simp [go_sem]
  · simp [invoke, go_sem]
  · refine (places1_in Fence.wide (n - 1) trivial rfl (by omega) (w.heap.size + 1) Bs Bh S H v ho hS hH
      (fun k V => I k V ∧ V.heap[w.heap.size + 1]? = some (mk .ready none) ∧ V.heap[w.heap.size]? = some (.deferred (some [])))
      (fun V => ∃ j, X j V ∧ V.heap[w.heap.size + 1]? = some (mk .done (some j)) ∧ V.heap[w.heap.size]? = some (.deferred (some [])))
      (fun k V h => hIB k V h.1) ?_ V1 ⟨hI1, hrec, hdef⟩).mono ?_
    · rintro k V hk ⟨hi, hl, hd⟩
      have hy := run_yield (P := Tryz.prog) (args := placeV S H k) (by rw [hmk] at hl; exact hl) (by simp [hps, placeV])
      refine ⟨fn, _, assign, body, hy, roundIn_of_wpIn hfn (hassign k V _ hk hi fun a' V2 hkf hi2 hax => ?_)⟩
      have hl2 := hkf.same _ _ (Nat.le_succ _) hl (mkc _ _)
      have hd2 := hkf.same _ _ (Nat.le_refl _) hd rfl
      have hlt : w.heap.size + 1 < V2.heap.size := obj_lt hl2
      have hbr := run_beginRound (P := Tryz.prog) (by rw [hmk] at hl2; exact hl2) rfl
      refine ⟨_, hbr, ?_⟩
      obtain ⟨V3, hV3⟩ : ∃ V3, V3 = V2.putObj (w.heap.size + 1) (mk .busy none) := ⟨_, rfl⟩
      have hl3 : V3.heap[w.heap.size + 1]? = some (mk .busy none) := by rw [hV3]; exact World.putObj_heap_same hlt
      have hd3 : V3.heap[w.heap.size]? = some (.deferred (some [])) := by rw [hV3]; exact (World.putObj_heap_other (by omega)).trans hd2
      have hi3 : I k V3 := by rw [hV3]; exact hI.putObj _ hi2 (Nat.le_succ _) hl2 (mkc _ _)
      have hx3 : A k a' V3 := by rw [hV3]; exact (hA k a').putObj (s := ()) _ hax (Nat.le_succ _) hl2 (mkc _ _)
      have hb := hbody k a' V3 hk hi3 hx3
      rw [hV3, hmk] at hb
      refine wpIn_mono hb ?_
      -- however the round ends, the record is turned
      have fin : ∀ (j : Option Code) (V4 : World), KeepsFrom w.heap.size V3 V4 → (Instr.endRound (w.heap.size + 1) j).run Tryz.prog V4 = .ok (.bool j.isNone) (V4.putObj (w.heap.size + 1) (mk (if j.isNone then .ready else .done) j)) ∧
          V4.heap[w.heap.size + 1]? = some (mk .busy none) ∧ (V4.putObj (w.heap.size + 1) (mk (if j.isNone then .ready else .done) j)).heap[w.heap.size + 1]? = some (mk (if j.isNone then .ready else .done) j) ∧
          (V4.putObj (w.heap.size + 1) (mk (if j.isNone then .ready else .done) j)).heap[w.heap.size]? = some (.deferred (some [])) := by
        intro j V4 h4
        have hl4 := h4.same _ _ (Nat.le_succ _) hl3 (mkc _ _)
        have hr := run_endRound (P := Tryz.prog) j (by rw [hmk] at hl4; exact hl4)
        refine ⟨?_, hl4, World.putObj_heap_same (obj_lt hl4), (World.putObj_heap_other (by omega)).trans (h4.same _ _ (Nat.le_refl _) hd3 rfl)⟩
        rw [hmk]; exact hr
      intro e a4 V4 hp
      have hp' : goesOn w.heap.size (I (k + 1)) X V3 e a4 V4 := by rw [hV3, hmk]; exact hp
      clear hp hb
      cases e with
      | normal =>
        obtain ⟨r1, r2, r3, r4⟩ := fin none V4 hp'.1
        exact ⟨_, _, r1, .inl ⟨rfl, hI.putObj _ hp'.2 (Nat.le_succ _) r2 (mkc _ _), r3, r4⟩⟩
      | ret =>
        obtain ⟨r1, r2, r3, r4⟩ := fin (some .ret) V4 hp'.1
        exact ⟨_, _, r1, .inr ⟨rfl, .ret, hX.putObj _ hp'.2 (Nat.le_succ _) r2 (mkc _ _), r3, r4⟩⟩
      | exit i =>
        obtain ⟨r1, r2, r3, r4⟩ := fin (some (.exit i)) V4 hp'.1
        exact ⟨_, _, r1, .inr ⟨rfl, .exit i, hX.putObj _ hp'.2 (Nat.le_succ _) r2 (mkc _ _), r3, r4⟩⟩
      | goto t => exact hp'.elim
      | panic ch => exact hp'.elim
      | outgrown => exact hp'.elim
    · rintro e V ⟨⟨v, rfl⟩, (⟨hi, hl, hd⟩ | ⟨j, hj, hl, hd⟩)⟩
      · have hr := run_endLoop (P := Tryz.prog) (by rw [hmk] at hl; exact hl) (by simp)
        exact ⟨none, _, hr, hdone _ (hI.putObj _ hi (Nat.le_succ _) hl (mkc _ _)) ((World.putObj_heap_other (by omega)).trans hd)⟩
      · have hr := run_endLoop (P := Tryz.prog) (by rw [hmk] at hl; exact hl) (by simp)
        exact ⟨some j, _, hr, hstop j _ (hX.putObj _ hj (Nat.le_succ _) hl (mkc _ _)) ((World.putObj_heap_other (by omega)).trans hd)⟩

end Go.Proofs.YtcoahkmiebeeeaaGreatDoor

namespace Go.Proofs.YtcoahkmiebeeeaaGreatDoor
open Go.RowKit Go.Shelf
set_option linter.unusedVariables false

/-- Whatever is cells, or lies below B, lies as it lay. -/
structure KeepN (B : Nat) (X Y : World) : Prop where
  os : Y.os = X.os
  tape : Y.tape = X.tape
  output : Y.output = X.output
  size : X.heap.size ≤ Y.heap.size
  block : ∀ k o, X.heap[k]? = some o → (k < B ∨ o.isCells = true) → Y.heap[k]? = some o
theorem KeepN.obj {B : Nat} {X Y : World} (h : KeepN B X Y) {b : Nat} {cs : Array Value} {t : TypeId} {fz : Nat × Nat} (hb : X.heap[b]? = some (.cells cs t fz)) : Y.heap[b]? = some (.cells cs t fz) := h.block b _ hb (.inr rfl)
theorem KeepN.refl (B : Nat) (X : World) : KeepN B X X := ⟨rfl, rfl, rfl, Nat.le_refl _, fun _ _ h _ => h⟩
theorem KeepN.trans {B : Nat} {X Y Z : World} (h : KeepN B X Y) (k : KeepN B Y Z) : KeepN B X Z :=
  ⟨k.os.trans h.os, k.tape.trans h.tape, k.output.trans h.output, Nat.le_trans h.size k.size, fun i o hi ho => k.block i o (h.block i o hi ho) ho⟩
theorem Keep.toN {X Y : World} (h : Keep noBlock X Y) (B : Nat) : KeepN B X Y := ⟨h.os, h.tape, h.output, h.size, fun k o hk _ => h.obj hk (fun h => h)⟩
theorem Keep.transN {w X Y : World} {S : Nat → Prop} {B : Nat} (h : Keep S w X) (k : KeepN B X Y) (hB : w.heap.size ≤ B) : Keep S w Y :=
  ⟨k.os.trans h.os, k.tape.trans h.tape, k.output.trans h.output, Nat.le_trans h.size k.size, fun i hi hs => by
    have e := h.block i hi hs
    rw [Array.getElem?_eq_getElem hi] at e ⊢
    exact k.block i _ e (.inl (by omega))⟩
theorem keepN_putObj {B l : Nat} {X : World} {o : Obj} (o' : Obj) (hB : B ≤ l) (hl : X.heap[l]? = some o) (hc : o.isCells = false) : KeepN B X (X.putObj l o') := by
  have hg := grownBy_putObj' X l o'
  refine ⟨hg.os, hg.tape, hg.output, hg.size, fun k o2 hk ho => (hg.block k (obj_lt hk) (fun e => ?_)).trans hk⟩
  cases e
  rw [hl] at hk; cases hk
  rcases ho with h | h
  · omega
  · rw [hc] at h; cases h

theorem range_iter {ι : Type} {n gf : Nat} {lb : Array Value} {g : Operand} {ps : Array Tmp} {assign body : Code} {Q : Exit → Act → World → Prop} {a : Act} {w : World} (hn : 3 ≤ n)
    (hg : a.eval g = .func (.func gf) #[] lb) (eg : ∀ args w, (callFunc gf args).run Tryz.prog w = .ok (.enter gf args) w)
    (R : ι → Array Value → ι → World → Prop) (E : ι → Prop) (i0 : ι) (I : ι → World → Prop)
    (hit : ∀ (l : Nat) (J : ι → World → Prop) (Jx : World → Prop) (W : World), KeepN w.heap.size w W → (∀ i V, J i V → I i V) → (∀ i X Y, J i X → Keep noBlock X Y → J i Y) →
      (∀ i vs i' V, R i vs i' V → J i V → YieldAt Fence.wide (n - 1 - 1) Tryz.prog l vs V fun e V' => (e = .returned (.bool true) ∧ J i' V') ∨ (e = .returned (.bool false) ∧ Jx V')) → J i0 W →
      CallsIn Fence.wide (n - 1) Tryz.prog gf (#[.func (.yield l) #[] #[]] ++ lb) W fun e W' => (∃ v, e = .returned v) ∧ ((∃ i, E i ∧ J i W') ∨ Jx W'))
    (hps : ∀ i vs i' V, R i vs i' V → vs.size = ps.size)
    (X : Code → World → Prop) (A : ι → Array Value → ι → Act → World → Prop)
    (hI : ∀ i U V, I i U → KeepN w.heap.size U V → I i V) (hX : ∀ c U V, X c U → KeepN w.heap.size U V → X c V) (hA : ∀ i vs i' a' U V, A i vs i' a' U → KeepN w.heap.size U V → A i vs i' a' V) (h0 : I i0 w)
    (hassign : ∀ i vs i' V (K : Act → World → Prop), R i vs i' V → I i V → (∀ a' V', KeepsFrom w.heap.size V V' → I i V' → A i vs i' a' V' → K a' V') →
      assign.wpIn (Fence.wide.inRound (w.heap.size + 1)) (n - 1 - 1) Tryz.prog (Exit.then K (fun _ _ _ => False)) { tmps := (ps.zip vs).foldl (fun t (p, v) => t.setIfInBounds p v) a.tmps, defers := [] } V)
    (hbody : ∀ i vs i' a' V, I i V → A i vs i' a' V → body.wpIn (Fence.wide.inRound (w.heap.size + 1)) (n - 1 - 1) Tryz.prog (goesOn w.heap.size (I i') X V) a' V)
    (hdone : ∀ i V, E i → I i V → V.heap[w.heap.size]? = some (.deferred (some [])) → Q .normal { a with defers := { target := .collected w.heap.size, args := #[] } :: a.defers } V)
    (hstop : ∀ j V, X j V → V.heap[w.heap.size]? = some (.deferred (some [])) → j.wpIn Fence.wide n Tryz.prog Q { a with defers := { target := .collected w.heap.size, args := #[] } :: a.defers } V) :
    (Code.rangeFunc g ps assign body).wpIn Fence.wide n Tryz.prog Q a w := by
  refine wpIn_rangeFunc fun fn hfn => ?_
  -- the loop's record
  obtain ⟨mk, hmk⟩ : ∃ mk : LoopState → Option Code → Obj, mk = fun st pe => .loop { state := st, pending := pe, fn, tmps := a.tmps, params := ps, assign, body, defers := w.heap.size } := ⟨_, rfl⟩
  have mkc : ∀ st pe, (mk st pe).isCells = false := fun st pe => by rw [hmk]; rfl
  obtain ⟨V1, hV1⟩ : ∃ V1, V1 = (w.alloc (.deferred (some []))).alloc (mk .ready none) := ⟨_, rfl⟩
  have hsz : (w.alloc (.deferred (some []))).heap.size = w.heap.size + 1 := World.size_alloc _ _
  have hrec : V1.heap[w.heap.size + 1]? = some (mk .ready none) := by rw [hV1, ← hsz]; exact World.alloc_heap_new _ _
  have hdef : V1.heap[w.heap.size]? = some (.deferred (some [])) := by rw [hV1]; exact alloc_far (World.alloc_heap_new w _) _
  have hK1 : KeepN w.heap.size w V1 := by rw [hV1]; exact (((Keep.refl noBlock w).alloc _).alloc _).toN _
  have hI1 : I i0 V1 := hI _ _ _ h0 hK1
  refine ⟨w.heap.size + 1, [{ target := .collected w.heap.size, args := #[] }], V1, { target := .fn (.func gf) lb, args := #[.func (.yield (w.heap.size + 1)) #[] #[]] }, V1, gf,
    #[.func (.yield (w.heap.size + 1)) #[] #[]] ++ lb, V1, ?_, ?_, fun _ _ => trivial, ?_, fun _ => by omega, ?_⟩
  · rw [hV1, hmk]; exact run_enterLoop_outer _ _ _ _ _
  · simp only [resolve, hg]
    simp [go_sem]
  · simp [invoke, go_sem, eg]
  · refine (hit (w.heap.size + 1)
      (fun i V => I i V ∧ V.heap[w.heap.size + 1]? = some (mk .ready none) ∧ V.heap[w.heap.size]? = some (.deferred (some [])))
      (fun V => ∃ j, X j V ∧ V.heap[w.heap.size + 1]? = some (mk .done (some j)) ∧ V.heap[w.heap.size]? = some (.deferred (some [])))
      V1 hK1 (fun i V h => h.1) (fun i U V h hk => ⟨hI _ _ _ h.1 (hk.toN _), hk.obj h.2.1 (fun h => h), hk.obj h.2.2 (fun h => h)⟩) ?_ ⟨hI1, hrec, hdef⟩).mono ?_
    · rintro i vs i' V hR ⟨hi, hl, hd⟩
      have hy := run_yield (P := Tryz.prog) (args := vs) (by rw [hmk] at hl; exact hl) (by simp [hps i vs i' V hR])
      refine ⟨fn, _, assign, body, hy, roundIn_of_wpIn hfn (hassign i vs i' V _ hR hi fun a' V2 hkf hi2 hax => ?_)⟩
      have hl2 := hkf.same _ _ (Nat.le_succ _) hl (mkc _ _)
      have hd2 := hkf.same _ _ (Nat.le_refl _) hd rfl
      have hlt : w.heap.size + 1 < V2.heap.size := obj_lt hl2
      have hbr := run_beginRound (P := Tryz.prog) (by rw [hmk] at hl2; exact hl2) rfl
      refine ⟨_, hbr, ?_⟩
      obtain ⟨V3, hV3⟩ : ∃ V3, V3 = V2.putObj (w.heap.size + 1) (mk .busy none) := ⟨_, rfl⟩
      have hl3 : V3.heap[w.heap.size + 1]? = some (mk .busy none) := by rw [hV3]; exact World.putObj_heap_same hlt
      have hd3 : V3.heap[w.heap.size]? = some (.deferred (some [])) := by rw [hV3]; exact (World.putObj_heap_other (by omega)).trans hd2
      have hk3 : KeepN w.heap.size V2 V3 := by rw [hV3]; exact keepN_putObj _ (Nat.le_succ _) hl2 (mkc _ _)
      have hi3 : I i V3 := hI _ _ _ hi2 hk3
      have hx3 : A i vs i' a' V3 := hA _ _ _ _ _ _ hax hk3
      have hb := hbody i vs i' a' V3 hi3 hx3
      rw [hV3, hmk] at hb
      refine wpIn_mono hb ?_
      -- however the round ends, the record is turned
      have fin : ∀ (j : Option Code) (V4 : World), KeepsFrom w.heap.size V3 V4 → (Instr.endRound (w.heap.size + 1) j).run Tryz.prog V4 = .ok (.bool j.isNone) (V4.putObj (w.heap.size + 1) (mk (if j.isNone then .ready else .done) j)) ∧
          V4.heap[w.heap.size + 1]? = some (mk .busy none) ∧ (V4.putObj (w.heap.size + 1) (mk (if j.isNone then .ready else .done) j)).heap[w.heap.size + 1]? = some (mk (if j.isNone then .ready else .done) j) ∧
          (V4.putObj (w.heap.size + 1) (mk (if j.isNone then .ready else .done) j)).heap[w.heap.size]? = some (.deferred (some [])) := by
        intro j V4 h4
        have hl4 := h4.same _ _ (Nat.le_succ _) hl3 (mkc _ _)
        have hr := run_endRound (P := Tryz.prog) j (by rw [hmk] at hl4; exact hl4)
        refine ⟨?_, hl4, World.putObj_heap_same (obj_lt hl4), (World.putObj_heap_other (by omega)).trans (h4.same _ _ (Nat.le_refl _) hd3 rfl)⟩
        rw [hmk]; exact hr
      intro e a4 V4 hp
      have hp' : goesOn w.heap.size (I i') X V3 e a4 V4 := by rw [hV3, hmk]; exact hp
      clear hp hb
      cases e with
      | normal =>
        obtain ⟨r1, r2, r3, r4⟩ := fin none V4 hp'.1
        exact ⟨_, _, r1, .inl ⟨rfl, hI _ _ _ hp'.2 (keepN_putObj _ (Nat.le_succ _) r2 (mkc _ _)), r3, r4⟩⟩
      | ret =>
        obtain ⟨r1, r2, r3, r4⟩ := fin (some .ret) V4 hp'.1
        exact ⟨_, _, r1, .inr ⟨rfl, .ret, hX _ _ _ hp'.2 (keepN_putObj _ (Nat.le_succ _) r2 (mkc _ _)), r3, r4⟩⟩
      | exit i =>
        obtain ⟨r1, r2, r3, r4⟩ := fin (some (.exit i)) V4 hp'.1
        exact ⟨_, _, r1, .inr ⟨rfl, .exit i, hX _ _ _ hp'.2 (keepN_putObj _ (Nat.le_succ _) r2 (mkc _ _)), r3, r4⟩⟩
      | goto t => exact hp'.elim
      | panic ch => exact hp'.elim
      | outgrown => exact hp'.elim
    · rintro e V ⟨⟨v, rfl⟩, (⟨i, hE, hi, hl, hd⟩ | ⟨j, hj, hl, hd⟩)⟩
      · have hr := run_endLoop (P := Tryz.prog) (by rw [hmk] at hl; exact hl) (by simp)
        exact ⟨none, _, hr, hdone i _ hE (hI _ _ _ hi (keepN_putObj _ (Nat.le_succ _) hl (mkc _ _))) ((World.putObj_heap_other (by omega)).trans hd)⟩
      · have hr := run_endLoop (P := Tryz.prog) (by rw [hmk] at hl; exact hl) (by simp)
        exact ⟨some j, _, hr, hstop j _ (hX _ _ _ hj (keepN_putObj _ (Nat.le_succ _) hl (mkc _ _))) ((World.putObj_heap_other (by omega)).trans hd)⟩

end Go.Proofs.YtcoahkmiebeeeaaGreatDoor

namespace Go.Proofs.YtcoahkmiebeeeaaGreatDoor
open Go.RowKit Go.Shelf

def savedN (c : Nat) : Nat := ((15 * (2 * c + 1) * (2 * c + 1) - 4) * 2 ^ 32) / ((2 * c + 1) * (15 * (2 * c + 1) * (2 * c + 1) - 9))
def savedChk : Nat → Bool
  | 0 => true
  | n + 1 => (decide (1 ≤ savedN (n + 1)) && (decide (savedN (n + 1) < 2147483648) && decide (savedN (n + 2) ≤ savedN (n + 1)))) && savedChk n
theorem savedChk_all : savedChk 4096 = true := by decide +kernel
theorem savedChk_at (n c : Nat) (h : savedChk n = true) (h1 : 1 ≤ c) (h2 : c ≤ n) : 1 ≤ savedN c ∧ savedN c < 2147483648 ∧ savedN (c + 1) ≤ savedN c := by
  induction n with
  | zero => omega
  | succ n ih =>
    simp only [savedChk, Bool.and_eq_true, decide_eq_true_eq] at h
    by_cases e : c = n + 1
    · subst e; exact ⟨h.1.1, h.1.2.1, h.1.2.2⟩
    · exact ih h.2 (by omega)
theorem saved_facts (c : Nat) (h1 : 1 ≤ c) (h2 : c ≤ 4096) : 1 ≤ savedN c ∧ savedN c < 2147483648 ∧ savedN (c + 1) ≤ savedN c := savedChk_at 4096 c savedChk_all h1 h2
theorem saved_lt (c : Nat) (h2 : c ≤ 4096) : savedN c < 8589934592 := by
  by_cases h : c = 0
  · subst h; decide
  · have := (saved_facts c (by omega) h2).2.1; omega

set_option maxHeartbeats 1000000 in
theorem saved_any (c : Nat) (hc : c ≤ 4096) (w : World) : Calls Tryz.prog 134 #[.int .i16 (c : Int)] w fun e w' => e = .returned (.int .u64 ((savedN c : Nat) : Int)) ∧ w' = w := by
  obtain ⟨d, hd⟩ : ∃ d, d = 2 * c + 1 := ⟨_, rfl⟩
  obtain ⟨e1, he1⟩ : ∃ e1, e1 = 15 * d := ⟨_, rfl⟩
  obtain ⟨g, hg⟩ : ∃ g, g = e1 * d := ⟨_, rfl⟩
  have hgb : g ≤ 122895 * 8193 := by rw [hg]; exact Nat.mul_le_mul (by omega) (by omega)
  have hgl : 15 ≤ g := by rw [hg]; exact Nat.le_trans (by omega) (Nat.mul_le_mul (show 15 ≤ e1 by omega) (show 1 ≤ d by omega))
  obtain ⟨h4, hh4⟩ : ∃ h4, h4 = g - 4 := ⟨_, rfl⟩
  obtain ⟨j, hj⟩ : ∃ j, j = h4 * 2 ^ 32 := ⟨_, rfl⟩
  obtain ⟨k, hk⟩ : ∃ k, k = g - 9 := ⟨_, rfl⟩
  obtain ⟨m, hm⟩ : ∃ m, m = d * k := ⟨_, rfl⟩
  have hmb : m ≤ 8193 * (122895 * 8193) := by rw [hm]; exact Nat.mul_le_mul (by omega) (by omega)
  have hm1 : 1 ≤ m := by rw [hm]; exact Nat.le_trans (by omega) (Nat.mul_le_mul (show 1 ≤ d by omega) (show 6 ≤ k by omega))
  have hs : savedN c = j / m := by unfold savedN; rw [hj, hm, hh4, hk, hg, he1, hd]
  obtain ⟨s, hs2⟩ : ∃ s, s = j / m := ⟨_, rfl⟩
  have i1 : 2 * (c : Int) + 1 = (d : Int) := by omega
  have i2 : 15 * (d : Int) = (e1 : Int) := by omega
  have i3 : (e1 : Int) * (d : Int) = (g : Int) := by rw [hg]; simp
  have i4 : (g : Int) - 4 = (h4 : Int) := by omega
  have i5 : (h4 : Int) * 2 ^ 32 = (j : Int) := by rw [hj]; simp
  have i5' : (h4 : Int) * 4294967296 = (j : Int) := by omega
  have i6 : (g : Int) - 9 = (k : Int) := by omega
  have i7 : (d : Int) * (k : Int) = (m : Int) := by rw [hm]; simp
  have i8 : (j : Int) / (m : Int) = (s : Int) := by rw [hs2]; simp
  have b1 : (d : Int) ≤ 8193 := by omega
  have b2 : (e1 : Int) ≤ 122895 := by omega
  have b3 : (g : Int) ≤ 1006878735 := by omega
  have b4 : (h4 : Int) ≤ 1006878735 := by omega
  have b5 : (j : Int) ≤ 4611686018427387904 := by omega
  have b6 : (k : Int) ≤ 1006878735 := by omega
  have b7 : (m : Int) ≤ 8249357476000 := by omega
  have b8 : (1 : Int) ≤ (m : Int) := by omega
  have b9 : ((m : Int) == 0) = false := by rw [beq_eq_false_iff_ne]; omega
  have b10 : (4 : Int) ≤ (g : Int) := by omega
  have b11 : (9 : Int) ≤ (g : Int) := by omega
  have hcI : (c : Int) ≤ 4096 := by omega
  have hsj : s ≤ j := by rw [hs2]; exact Nat.div_le_self _ _
  have b12 : (s : Int) ≤ 4611686018427387904 := by omega
  rw [hs, ← hs2]
  clear hd he1 hg hgb hgl hh4 hj hk hm hmb hm1 hs hs2 hsj
  go_enter Tryz.func134, Tryz.ntmps134
  go_wp2
  go_ret
  exact ⟨rfl, rfl⟩

def sumN (g : Nat → Nat) : Nat → Nat
  | 0 => 0
  | n + 1 => sumN g n + g n
theorem sumN_congr (g h : Nat → Nat) (n : Nat) (e : ∀ i, i < n → g i = h i) : sumN g n = sumN h n := by
  induction n with
  | zero => rfl
  | succ n ih => simp only [sumN]; rw [ih (fun i hi => e i (by omega)), e n (by omega)]
theorem sumN_set (g h : Nat → Nat) (n i : Nat) (hi : i < n) (e : ∀ k, k < n → k ≠ i → g k = h k) : sumN g n + h i = sumN h n + g i := by
  induction n with
  | zero => omega
  | succ n ih =>
    simp only [sumN]
    by_cases ei : i = n
    · subst ei
      rw [sumN_congr g h i (fun k hk => e k (by omega) (by omega))]; omega
    · have h1 := ih (by omega) (fun k hk hne => e k (by omega) hne)
      have h2 := e n (by omega) (fun h => ei h.symm)
      omega
theorem sumN_ge (g : Nat → Nat) (n i : Nat) (hi : i < n) : g i ≤ sumN g n := by
  induction n with
  | zero => omega
  | succ n ih =>
    simp only [sumN]
    by_cases e : i = n
    · subst e; omega
    · have := ih (by omega); omega
theorem sumN_two (g : Nat → Nat) (n i j : Nat) (hi : i < n) (hj : j < n) (hne : i ≠ j) : g i + g j ≤ sumN g n := by
  induction n with
  | zero => omega
  | succ n ih =>
    simp only [sumN]
    by_cases e : i = n
    · have := sumN_ge g n j (by omega); subst e; omega
    · by_cases e2 : j = n
      · have := sumN_ge g n i (by omega); subst e2; omega
      · have := ih (by omega) (by omega); omega
theorem sumN_le (g : Nat → Nat) (n B : Nat) (h : ∀ i, i < n → g i ≤ B) : sumN g n ≤ n * B := by
  induction n with
  | zero => simp [sumN]
  | succ n ih =>
    simp only [sumN]
    have h1 := ih (fun i hi => h i (by omega))
    have h2 := h n (by omega)
    rw [Nat.succ_mul]; omega
theorem sumN_mono (g h : Nat → Nat) (n : Nat) (e : ∀ i, i < n → g i ≤ h i) : sumN g n ≤ sumN h n := by
  induction n with
  | zero => simp [sumN]
  | succ n ih => simp only [sumN]; have := ih (fun i hi => e i (by omega)); have := e n (by omega); omega

def SP : Nat → Nat
  | 0 => 0
  | c + 1 => SP c + savedN c
theorem SP_le (c : Nat) (h : c ≤ 4097) : SP c ≤ c * 8589934592 := by
  induction c with
  | zero => simp [SP]
  | succ c ih => have := ih (by omega); have := saved_lt c (by omega); simp only [SP]; omega
def potF (f c : Nat → Nat) (n : Nat) : Nat := sumN (fun i => f i * SP (c i)) n
def potMax : Nat := 256 * (4294967296 * (4097 * 8589934592))
theorem pot_le (f c : Nat → Nat) (n : Nat) (hn : n ≤ 256) (hf : ∀ i, f i < 4294967296) (hc : ∀ i, i < n → c i ≤ 4096) : potF f c n ≤ potMax := by
  have h1 := sumN_le (fun i => f i * SP (c i)) n (4294967296 * (4097 * 8589934592)) (fun i hi => by
    have h2 := SP_le (c i) (by have := hc i hi; omega)
    have h3 : SP (c i) ≤ 4097 * 8589934592 := Nat.le_trans h2 (Nat.mul_le_mul_right _ (by have := hc i hi; omega))
    exact Nat.mul_le_mul (by have := hf i; omega) h3)
  exact Nat.le_trans h1 (Nat.mul_le_mul_right _ hn)
theorem pot_move (f c : Nat → Nat) (n i j : Nat) (hi : i < n) (hj : j < n) (hne : i ≠ j) (hcj : 2 ≤ c j) (hg : f j * savedN (c j - 1) < f i * savedN (c i)) :
    potF f c n < potF f (fun k => if k = j then c j - 1 else if k = i then c i + 1 else c k) n := by
  have h1 := sumN_set (fun k => f k * SP (c k)) (fun k => f k * SP (if k = i then c i + 1 else c k)) n i hi (fun k _ hk => by simp [hk])
  have h2 := sumN_set (fun k => f k * SP (if k = i then c i + 1 else c k)) (fun k => f k * SP (if k = j then c j - 1 else if k = i then c i + 1 else c k)) n j hj (fun k _ hk => by simp [hk])
  simp only [if_true] at h1 h2
  rw [if_neg (fun h => hne h.symm)] at h2
  have e1 : f i * SP (c i + 1) = f i * SP (c i) + f i * savedN (c i) := by simp only [SP]; rw [Nat.mul_add]
  have e2 : f j * SP (c j) = f j * SP (c j - 1) + f j * savedN (c j - 1) := by
    obtain ⟨d, hd⟩ : ∃ d, c j = d + 1 := ⟨c j - 1, by omega⟩
    rw [hd, Nat.add_sub_cancel]; simp only [SP]; rw [Nat.mul_add]
  show sumN (fun k => f k * SP (c k)) n < sumN (fun k => f k * SP (if k = j then c j - 1 else if k = i then c i + 1 else c k)) n
  omega

end Go.Proofs.YtcoahkmiebeeeaaGreatDoor

namespace Go.Proofs.YtcoahkmiebeeeaaGreatDoor
open Go

theorem sumN_add (g h : Nat → Nat) (n : Nat) : sumN (fun i => g i + h i) n = sumN g n + sumN h n := by
  induction n with
  | zero => rfl
  | succ n ih => simp only [sumN]; omega
theorem sumN_pos (g : Nat → Nat) (n : Nat) (h : 0 < sumN g n) : ∃ i, i < n ∧ 0 < g i := by
  induction n with
  | zero => simp [sumN] at h
  | succ n ih =>
    simp only [sumN] at h
    by_cases h0 : 0 < g n
    · exact ⟨n, by omega, h0⟩
    · obtain ⟨i, h1, h2⟩ := ih (by omega)
      exact ⟨i, by omega, h2⟩

def wt (ws : List Nat) (i : Nat) : Nat := ws[i]?.getD 0
def shN (x : Nat) : Nat := if x = 0 then 0 else 2 ^ (x - 1)
theorem shN_le (x : Nat) (h : x ≤ 11) : shN x ≤ 1024 := by
  unfold shN
  split
  · omega
  · exact Nat.pow_le_pow_right (n := 2) (j := 10) (by omega) (by omega)
theorem shN_pos (x : Nat) (h : x ≠ 0) : shN x = 2 ^ (x - 1) := if_neg h
theorem shN_succ (c : Nat) : shN (c + 1) = 2 ^ c := rfl
def sumW (ws : List Nat) (i : Nat) : Nat := sumN (fun j => shN (wt ws j)) i
def onesW (ws : List Nat) (i : Nat) : Nat := sumN (fun j => if wt ws j = 1 then 1 else 0) i
theorem sumW_succ (ws : List Nat) (i : Nat) : sumW ws (i + 1) = sumW ws i + shN (wt ws i) := rfl
theorem onesW_succ (ws : List Nat) (i : Nat) : onesW ws (i + 1) = onesW ws i + (if wt ws i = 1 then 1 else 0) := rfl
theorem onesW_le (ws : List Nat) (i : Nat) : onesW ws i ≤ i := by
  have := sumN_le (fun j => if wt ws j = 1 then 1 else 0) i 1 (fun j _ => by split <;> omega)
  unfold onesW; omega
theorem sumW_le (ws : List Nat) (i : Nat) (h : ∀ j, j < i → wt ws j ≤ 11) : sumW ws i ≤ i * 1024 := sumN_le _ _ _ (fun j hj => shN_le _ (h j hj))

/-- The weights make a code of 2^m. -/
structure IsCode (ws : List Nat) (m : Nat) : Prop where
  len2 : 2 ≤ ws.length
  len : ws.length ≤ 256
  last : wt ws (ws.length - 1) ≠ 0
  le : ∀ i, i < ws.length → wt ws i ≤ 11
  sum : sumW ws ws.length = 2 ^ m
  m11 : m ≤ 11
  ones : 2 ≤ onesW ws ws.length
def codeB (ws : List Nat) : Bool := decide (2 ≤ ws.length ∧ ws.length ≤ 256 ∧ wt ws (ws.length - 1) ≠ 0 ∧ (∀ i, i < ws.length → wt ws i ≤ 11) ∧ sumW ws ws.length = 2 ^ (lenN (sumW ws ws.length) - 1) ∧ lenN (sumW ws ws.length) - 1 ≤ 11 ∧ 2 ≤ onesW ws ws.length)
def codeM (ws : List Nat) : Nat := if codeB ws then lenN (sumW ws ws.length) - 1 else 0
theorem codeB_is {ws : List Nat} (h : codeB ws = true) : IsCode ws (lenN (sumW ws ws.length) - 1) := by
  obtain ⟨h1, h2, h3, h4, h5, h6, h7⟩ := of_decide_eq_true h
  exact ⟨h1, h2, h3, h4, h5, h6, h7⟩
theorem lenN_pow (m : Nat) : lenN (2 ^ m) = m + 1 := lenN_eq _ _ (Nat.le_refl _) (Nat.pow_lt_pow_right (by omega) (by omega))
theorem IsCode.codeB {ws : List Nat} {m : Nat} (h : IsCode ws m) : codeB ws = true ∧ lenN (sumW ws ws.length) - 1 = m := by
  have e : lenN (sumW ws ws.length) - 1 = m := by rw [h.sum, lenN_pow]; omega
  refine ⟨decide_eq_true ⟨h.len2, h.len, h.last, h.le, ?_, ?_, h.ones⟩, e⟩
  · rw [e]; exact h.sum
  · rw [e]; exact h.m11
theorem IsCode.codeM {ws : List Nat} {m : Nat} (h : IsCode ws m) : codeM ws = m := by
  unfold YtcoahkmiebeeeaaGreatDoor.codeM; rw [if_pos h.codeB.1]; exact h.codeB.2
theorem ones_le_sum (ws : List Nat) (n : Nat) : onesW ws n ≤ sumW ws n := sumN_mono _ _ _ (fun i _ => by
  split
  · rename_i e; rw [e]; exact Nat.le_refl _
  · omega)
theorem IsCode.m1 {ws : List Nat} {m : Nat} (h : IsCode ws m) : 1 ≤ m := by
  have h1 := ones_le_sum ws ws.length
  have h2 := h.sum
  have h3 := h.ones
  rcases m with _ | m
  · simp at h2; omega
  · omega
theorem IsCode.wt_le {ws : List Nat} {m : Nat} (h : IsCode ws m) (i : Nat) (hi : i < ws.length) : wt ws i ≤ m := by
  have hm := h.m1
  by_cases hw : wt ws i ≤ m
  · exact hw
  · exfalso
    obtain ⟨k, hk, hk1⟩ := sumN_pos _ _ (show 0 < onesW ws ws.length by have := h.ones; omega)
    have hk2 : wt ws k = 1 := by
      by_cases e : wt ws k = 1
      · exact e
      · rw [if_neg e] at hk1; omega
    have hne : i ≠ k := by rintro rfl; omega
    have := sumN_two (fun j => shN (wt ws j)) ws.length i k hi hk hne
    rw [hk2] at this
    have hs : sumN (fun j => shN (wt ws j)) ws.length = 2 ^ m := h.sum
    rw [hs, shN_pos _ (show wt ws i ≠ 0 by omega)] at this
    have h2 : 2 ^ m ≤ 2 ^ (wt ws i - 1) := Nat.pow_le_pow_right (by omega) (by omega)
    have : shN 1 = 1 := rfl
    omega

def symsW (ws : List Nat) (c : Nat) : Nat → List Nat
  | 0 => []
  | i + 1 => if wt ws i = c + 1 then symsW ws c i ++ [i] else symsW ws c i
def ordC (ws : List Nat) : Nat → List Nat
  | 0 => []
  | c + 1 => ordC ws c ++ symsW ws c ws.length
def ordTo (ws : List Nat) (c i : Nat) : List Nat := ordC ws c ++ symsW ws c i
theorem ordTo_zero (ws : List Nat) (c : Nat) : ordTo ws c 0 = ordC ws c := List.append_nil _
theorem ordTo_all (ws : List Nat) (c : Nat) : ordTo ws c ws.length = ordC ws (c + 1) := rfl
theorem ordTo_here (ws : List Nat) (c i : Nat) (h : wt ws i = c + 1) : ordTo ws c (i + 1) = ordTo ws c i ++ [i] := by
  simp only [ordTo, symsW]; rw [if_pos h, List.append_assoc]
theorem ordTo_not (ws : List Nat) (c i : Nat) (h : wt ws i ≠ c + 1) : ordTo ws c (i + 1) = ordTo ws c i := by
  simp only [ordTo, symsW]; rw [if_neg h]
theorem symsW_grow (ws : List Nat) (c i n : Nat) (h : i ≤ n) : ∃ r, symsW ws c n = symsW ws c i ++ r := by
  induction n with
  | zero => obtain rfl : i = 0 := by omega
            exact ⟨[], rfl⟩
  | succ n ih =>
    by_cases e : i = n + 1
    · subst e; exact ⟨[], (List.append_nil _).symm⟩
    · obtain ⟨r, hr⟩ := ih (by omega)
      simp only [symsW]
      split
      · exact ⟨r ++ [n], by rw [hr, List.append_assoc]⟩
      · exact ⟨r, hr⟩
theorem ordC_grow (ws : List Nat) (c d : Nat) (h : c ≤ d) : ∃ r, ordC ws d = ordC ws c ++ r := by
  induction d with
  | zero => obtain rfl : c = 0 := by omega
            exact ⟨[], rfl⟩
  | succ d ih =>
    by_cases e : c = d + 1
    · subst e; exact ⟨[], (List.append_nil _).symm⟩
    · obtain ⟨r, hr⟩ := ih (by omega)
      exact ⟨r ++ symsW ws d ws.length, by rw [ordC, hr, List.append_assoc]⟩
theorem ordTo_grow (ws : List Nat) (c i m : Nat) (hi : i ≤ ws.length) (hc : c < m) : ∃ r, ordC ws m = ordTo ws c i ++ r := by
  obtain ⟨r1, h1⟩ := symsW_grow ws c i ws.length hi
  obtain ⟨r2, h2⟩ := ordC_grow ws (c + 1) m (by omega)
  exact ⟨r1 ++ r2, by rw [h2, ordC, h1, ordTo, List.append_assoc, List.append_assoc, List.append_assoc]⟩
theorem mem_symsW (ws : List Nat) (c n s : Nat) : s ∈ symsW ws c n ↔ s < n ∧ wt ws s = c + 1 := by
  induction n with
  | zero => simp [symsW]
  | succ n ih =>
    simp only [symsW]
    split
    · rename_i e
      rw [List.mem_append, ih, List.mem_singleton]
      constructor
      · rintro (⟨h1, h2⟩ | rfl)
        · exact ⟨by omega, h2⟩
        · exact ⟨by omega, e⟩
      · rintro ⟨h1, h2⟩
        by_cases h : s = n
        · exact .inr h
        · exact .inl ⟨by omega, h2⟩
    · rename_i e
      rw [ih]
      constructor
      · rintro ⟨h1, h2⟩; exact ⟨by omega, h2⟩
      · rintro ⟨h1, h2⟩
        refine ⟨?_, h2⟩
        by_cases h : s = n
        · subst h; exact absurd h2 e
        · omega
theorem mem_ordC (ws : List Nat) (c s : Nat) : s ∈ ordC ws c ↔ s < ws.length ∧ 1 ≤ wt ws s ∧ wt ws s ≤ c := by
  induction c with
  | zero => simp [ordC]; omega
  | succ c ih =>
    rw [ordC, List.mem_append, ih, mem_symsW]
    omega

def cellsL (ws : List Nat) : List Nat → List Nat
  | [] => []
  | s :: l => List.replicate (shN (wt ws s)) s ++ cellsL ws l
theorem cellsL_app (ws : List Nat) (a b : List Nat) : cellsL ws (a ++ b) = cellsL ws a ++ cellsL ws b := by
  induction a with
  | nil => rfl
  | cons s a ih => rw [List.cons_append, cellsL, cellsL, ih, List.append_assoc]
theorem cellsL_one (ws : List Nat) (s : Nat) : cellsL ws [s] = List.replicate (shN (wt ws s)) s := by simp [cellsL]
def nextL (ws : List Nat) (l : List Nat) : Nat := (cellsL ws l).length
theorem nextL_app (ws : List Nat) (a b : List Nat) : nextL ws (a ++ b) = nextL ws a + nextL ws b := by unfold nextL; rw [cellsL_app, List.length_append]
theorem nextL_one (ws : List Nat) (s : Nat) : nextL ws [s] = shN (wt ws s) := by unfold nextL; rw [cellsL_one, List.length_replicate]
theorem nextL_syms (ws : List Nat) (c i : Nat) : nextL ws (symsW ws c i) = sumN (fun j => if wt ws j = c + 1 then shN (wt ws j) else 0) i ∧ ∃ k, nextL ws (symsW ws c i) = k * 2 ^ c := by
  induction i with
  | zero => exact ⟨rfl, 0, by rw [Nat.zero_mul]; rfl⟩
  | succ i ih =>
    obtain ⟨h1, k, h2⟩ := ih
    simp only [symsW, sumN]
    split
    · rename_i e
      rw [nextL_app, nextL_one]
      refine ⟨by rw [h1], k + 1, ?_⟩
      rw [h2, e, shN_succ, Nat.add_mul, Nat.one_mul]
    · exact ⟨by rw [h1]; rfl, k, h2⟩
theorem nextL_ordC (ws : List Nat) (c : Nat) : nextL ws (ordC ws c) = sumN (fun j => if 1 ≤ wt ws j ∧ wt ws j ≤ c then shN (wt ws j) else 0) ws.length := by
  induction c with
  | zero =>
    show 0 = _
    rw [sumN_congr _ (fun _ => 0) _ (fun i _ => if_neg (by omega))]
    have := sumN_le (fun _ => 0) ws.length 0 (fun _ _ => Nat.le_refl _)
    omega
  | succ c ih =>
    rw [ordC, nextL_app, ih, (nextL_syms ws c ws.length).1, ← sumN_add]
    refine sumN_congr _ _ _ (fun i _ => ?_)
    by_cases h1 : 1 ≤ wt ws i ∧ wt ws i ≤ c
    · rw [if_pos h1, if_neg (by omega), if_pos (by omega)]; rfl
    · rw [if_neg h1]
      by_cases h2 : wt ws i = c + 1
      · rw [if_pos h2, if_pos (by omega), Nat.zero_add]
      · rw [if_neg h2, if_neg (by omega)]
theorem IsCode.all {ws : List Nat} {m : Nat} (h : IsCode ws m) : nextL ws (ordC ws m) = 2 ^ m := by
  rw [nextL_ordC, ← h.sum]
  refine sumN_congr _ _ _ (fun i hi => ?_)
  have := h.wt_le i hi
  by_cases h1 : 1 ≤ wt ws i
  · rw [if_pos ⟨h1, this⟩]
  · rw [if_neg (by omega), show wt ws i = 0 from by omega]; rfl
theorem nextL_mul (ws : List Nat) (c d : Nat) (h : c ≤ d) : ∃ k, nextL ws (ordC ws d) = nextL ws (ordC ws c) + k * 2 ^ c := by
  induction d with
  | zero => obtain rfl : c = 0 := by omega
            exact ⟨0, by omega⟩
  | succ d ih =>
    by_cases e : c = d + 1
    · subst e; exact ⟨0, by omega⟩
    · obtain ⟨k, hk⟩ := ih (by omega)
      obtain ⟨j, hj⟩ := (nextL_syms ws d ws.length).2
      refine ⟨k + j * 2 ^ (d - c), ?_⟩
      rw [ordC, nextL_app, hk, hj, Nat.add_mul, Nat.mul_assoc, ← Nat.pow_add, show d - c + c = d from by omega]
      omega
def startW (ws : List Nat) (s : Nat) : Nat := nextL ws (ordTo ws (wt ws s - 1) s)
def wordX (ws : List Nat) (s : Nat) : Nat := startW ws s / 2 ^ (wt ws s - 1)
theorem IsCode.start_mul {ws : List Nat} {m : Nat} (h : IsCode ws m) (c i : Nat) (hc : c ≤ m) : ∃ k, nextL ws (ordTo ws c i) = k * 2 ^ c := by
  obtain ⟨k, hk⟩ := nextL_mul ws c m hc
  obtain ⟨j, hj⟩ := (nextL_syms ws c i).2
  rw [h.all] at hk
  have e : 2 ^ m = 2 ^ (m - c) * 2 ^ c := by rw [← Nat.pow_add, show m - c + c = m from by omega]
  refine ⟨2 ^ (m - c) - k + j, ?_⟩
  rw [ordTo, nextL_app, hj, Nat.add_mul, Nat.sub_mul, ← e]
  omega
theorem IsCode.word {ws : List Nat} {m : Nat} (h : IsCode ws m) (s : Nat) (hs : s < ws.length) : startW ws s = wordX ws s * 2 ^ (wt ws s - 1) := by
  obtain ⟨k, hk⟩ := h.start_mul (wt ws s - 1) s (by have := h.wt_le s hs; omega)
  unfold wordX startW
  rw [hk, Nat.mul_div_cancel _ (Nat.two_pow_pos _)]
theorem IsCode.start_le {ws : List Nat} {m : Nat} (h : IsCode ws m) (s : Nat) (hs : s < ws.length) (h1 : 1 ≤ wt ws s) : startW ws s + 2 ^ (wt ws s - 1) ≤ 2 ^ m := by
  have hm := h.wt_le s hs
  obtain ⟨r, hr⟩ := ordTo_grow ws (wt ws s - 1) (s + 1) m (by omega) (by omega)
  have hall := h.all
  rw [hr, nextL_app, ordTo_here ws _ s (by omega), nextL_app, nextL_one, shN_pos _ (by omega)] at hall
  unfold startW
  omega
theorem IsCode.word_lt {ws : List Nat} {m : Nat} (h : IsCode ws m) (s : Nat) (hs : s < ws.length) (h1 : 1 ≤ wt ws s) : wordX ws s < 2 ^ (m + 1 - wt ws s) := by
  have h2 := h.start_le s hs h1
  have h3 := h.word s hs
  have h4 := h.wt_le s hs
  have e : 2 ^ m = 2 ^ (m + 1 - wt ws s) * 2 ^ (wt ws s - 1) := by rw [← Nat.pow_add, show m + 1 - wt ws s + (wt ws s - 1) = m from by omega]
  rw [h3, e] at h2
  have h5 : (wordX ws s + 1) * 2 ^ (wt ws s - 1) ≤ 2 ^ (m + 1 - wt ws s) * 2 ^ (wt ws s - 1) := by rw [Nat.add_mul, Nat.one_mul]; exact h2
  have := Nat.le_of_mul_le_mul_right h5 (Nat.two_pow_pos _)
  omega
def symX (ws : List Nat) (m x : Nat) : Nat := (cellsL ws (ordC ws m))[x]?.getD 0
theorem sym_in (ws : List Nat) (c i x : Nat) (hi : i ≤ ws.length) (hx : x < nextL ws (ordTo ws c i))
    (h0 : x < nextL ws (ordC ws c) → ∃ s, (cellsL ws (ordC ws c))[x]? = some s ∧ s < ws.length ∧ 1 ≤ wt ws s ∧ startW ws s ≤ x ∧ x < startW ws s + 2 ^ (wt ws s - 1)) :
    ∃ s, (cellsL ws (ordTo ws c i))[x]? = some s ∧ s < ws.length ∧ 1 ≤ wt ws s ∧ startW ws s ≤ x ∧ x < startW ws s + 2 ^ (wt ws s - 1) := by
  induction i with
  | zero =>
    rw [ordTo_zero] at hx ⊢
    exact h0 hx
  | succ i ih =>
    by_cases e : wt ws i = c + 1
    · have he := ordTo_here ws c i e
      rw [he] at hx ⊢
      by_cases hlt : x < nextL ws (ordTo ws c i)
      · obtain ⟨s, h1, h2⟩ := ih (by omega) hlt
        exact ⟨s, by rw [cellsL_app, List.getElem?_append_left hlt]; exact h1, h2⟩
      · rw [nextL_app, nextL_one] at hx
        have hst : startW ws i = nextL ws (ordTo ws c i) := by unfold startW; rw [e, Nat.add_sub_cancel]
        rw [shN_pos _ (by omega)] at hx
        refine ⟨i, ?_, by omega, by omega, by omega, by omega⟩
        rw [cellsL_app, List.getElem?_append_right (by unfold nextL at hlt; omega), cellsL_one, List.getElem?_replicate, if_pos]
        rw [shN_pos _ (by omega)]
        unfold nextL at hlt hx
        omega
    · rw [ordTo_not ws c i e] at hx ⊢
      exact ih (by omega) hx
theorem sym_to (ws : List Nat) (c i x : Nat) (hi : i ≤ ws.length) (hx : x < nextL ws (ordTo ws c i)) :
    ∃ s, (cellsL ws (ordTo ws c i))[x]? = some s ∧ s < ws.length ∧ 1 ≤ wt ws s ∧ startW ws s ≤ x ∧ x < startW ws s + 2 ^ (wt ws s - 1) := by
  induction c generalizing i x with
  | zero => exact sym_in ws 0 i x hi hx (fun h => by simp [ordC, nextL, cellsL] at h)
  | succ c ih =>
    refine sym_in ws (c + 1) i x hi hx (fun h => ?_)
    rw [← ordTo_all] at h ⊢
    exact ih ws.length x (Nat.le_refl _) h
theorem IsCode.sym {ws : List Nat} {m : Nat} (h : IsCode ws m) (x : Nat) (hx : x < 2 ^ m) :
    symX ws m x < ws.length ∧ 1 ≤ wt ws (symX ws m x) ∧ startW ws (symX ws m x) ≤ x ∧ x < startW ws (symX ws m x) + 2 ^ (wt ws (symX ws m x) - 1) := by
  have hm := h.m1
  obtain ⟨k, rfl⟩ : ∃ k, m = k + 1 := ⟨m - 1, by omega⟩
  obtain ⟨s, h1, h2⟩ := sym_to ws k ws.length x (Nat.le_refl _) (by rw [ordTo_all, h.all]; exact hx)
  rw [ordTo_all] at h1
  have e : symX ws (k + 1) x = s := by unfold symX; rw [h1]; rfl
  rw [e]
  exact h2
theorem IsCode.block {ws : List Nat} {m : Nat} (h : IsCode ws m) (s x : Nat) (hs : s < ws.length) (h1 : 1 ≤ wt ws s) (hx1 : startW ws s ≤ x) (hx2 : x < startW ws s + 2 ^ (wt ws s - 1)) : symX ws m x = s := by
  have hm := h.wt_le s hs
  obtain ⟨r, hr⟩ := ordTo_grow ws (wt ws s - 1) (s + 1) m (by omega) (by omega)
  unfold symX
  rw [hr, ordTo_here ws _ s (by omega), cellsL_app, cellsL_app]
  unfold startW nextL at hx1 hx2
  rw [List.getElem?_append_left (by rw [List.length_append, cellsL_one, List.length_replicate, shN_pos _ (by omega)]; omega), List.getElem?_append_right hx1, cellsL_one, List.getElem?_replicate, if_pos (by rw [shN_pos _ (by omega)]; omega)]
  rfl
theorem IsCode.begins {ws : List Nat} {m : Nat} (h : IsCode ws m) (s x : Nat) (hs : s < ws.length) (h1 : 1 ≤ wt ws s) (hx : x < 2 ^ m) : x / 2 ^ (wt ws s - 1) = wordX ws s ↔ symX ws m x = s := by
  have hw := h.word s hs
  have hp := Nat.two_pow_pos (wt ws s - 1)
  constructor
  · intro e
    have e1 := Nat.div_add_mod x (2 ^ (wt ws s - 1))
    have e2 := Nat.mod_lt x hp
    rw [e, Nat.mul_comm, ← hw] at e1
    exact h.block s x hs h1 (by omega) (by omega)
  · intro e
    have := h.sym x hx
    rw [e] at this
    obtain ⟨-, -, a, b⟩ := this
    rw [hw] at a b
    refine Nat.div_eq_of_lt_le a ?_
    rw [Nat.add_mul, Nat.one_mul]; exact b

end Go.Proofs.YtcoahkmiebeeeaaGreatDoor

namespace Go.Proofs.YtcoahkmiebeeeaaGreatDoor
open Go.RowKit Go.Shelf

theorem rows_wide {n : Nat} {P : Program} {row : String} {args : Array Value} {w : World} {R : Value → World → Prop} (h : Rows P row args w R) : RowsIn Fence.wide n P row args w R :=
  fun c cs _ => let ⟨v, w', r, s⟩ := h c cs; ⟨v, w', r, stepsIn_wide.2 s⟩
theorem upon_round {l n : Nat} {P : Program} {o : Oper} {a : Act} {next : Act → World → Prop} {Q : Exit → Act → World → Prop} {r : Result Next} (h : o.upon P a next Q r) : o.uponIn (Fence.wide.inRound l) n P a next Q r := by
  cases r with
  | ok nx w' =>
    cases nx with
    | value v => exact h
    | skip => exact h
    | defer d => exact h
    | enter f args => exact ⟨(fun e => by cases e), CallsIn.inRound l (callsIn_wide.2 h)⟩
    | row row args => exact ⟨(fun e => by cases e), rows_wide h⟩
    | _ => exact h.elim
  | halt x w' => cases x <;> first | exact h | exact h.elim

def noDefer (ops : Array Oper) : Bool := ops.all (fun o => match o.op with | .defer _ => false | _ => true)
theorem noDefer_at {ops : Array Oper} (h : noDefer ops = true) {i : Nat} {o : Oper} (ho : ops[i]? = some o) : ∀ c, o.op ≠ .defer c := by
  intro c e
  obtain ⟨hi, rfl⟩ := Array.getElem?_eq_some_iff.1 ho
  have := Array.all_eq_true.1 h i hi
  rw [e] at this
  cases this

theorem any_round {l n : Nat} {P : Program} {md : Region.Mode} {ops : Array Oper} {Q : Exit → Act → World → Prop} {S : World → Prop} (hd : noDefer ops = true) (hq : ¬ LetsOut Q) :
    ∀ (fuel : Nat) (listed : Array Bool) (a : Act) (w : World), wpAnyH P md ops Q S fuel listed a w → wpAnyIn (Fence.wide.inRound l) n P md ops Q fuel listed a w
  | 0, _, _, _, h => h
  | fuel + 1, listed, a, w, h => ⟨h.1, fun i hi => by
      have h1 := h.2 i hi
      unfold wpOp at h1
      unfold wpOpIn
      cases ho : ops[i]? with
      | none =>
        rw [ho] at h1
        exact any_round hd hq fuel _ _ _ h1.2
      | some o =>
        rw [ho] at h1
        dsimp only at h1 ⊢
        by_cases hw : Region.wanted o (yielded ops a.tmps) = true
        · rw [if_pos hw] at h1 ⊢
          refine ⟨fun _ _ => trivial, ?_⟩
          rw [Oper.semAt_eq _ _ _ (fun c => noDefer_at hd ho c)]
          refine upon_round ?_
          have h2 := h1.resolve_right (fun h => hq h.2)
          exact Oper.wp_mono (fun a' w' h3 => any_round hd hq fuel _ a' w' h3.2) h2
        · rw [if_neg hw] at h1 ⊢
          exact ⟨fun _ _ => trivial, any_round hd hq fuel _ _ _ h1.2⟩⟩

def onward (Q : Exit → Act → World → Prop) : Exit → Act → World → Prop
  | .normal, a, w => Q .normal a w
  | _, _, _ => False
theorem region_round {l n id : Nat} {P : Program} {ops : Array Oper} {Q : Exit → Act → World → Prop} {a : Act} {w : World} (S : World → Prop) (hd : noDefer ops = true) (hm : P.follows .mixedOrders = true) (hS : S w.drew)
    (h : S w.drew → wpAnyH P .any ops (onward Q) S ops.size (Array.replicate ops.size false) a w.drew) : (Code.region id ops true).wpIn (Fence.wide.inRound l) n P Q a w :=
  wpIn_mono (wpIn_region_any hm (any_round hd (fun ⟨_, _, h⟩ => h) _ _ _ _ (h hS))) (fun e a w h => by cases e <;> first | exact h | exact h.elim)

end Go.Proofs.YtcoahkmiebeeeaaGreatDoor
