/-
  A region that draws its order: a head that only reads, and a tail that is forced.
  Value tells a distance and brings it to the front; Pick finds the least back that means it.
  A section's next byte; a section of no steps.
  The statement 'for .. := range g': its body is asked for what the function hands over alone, told by a relation.
  How much shorter words get with one state more, as plain numbers; sums over symbols.
  Weights that make a code, and the words of their bytes: no program is named here.
  share, sumOf, makeCode; the document's Bits.
  makeCode, and the document's Bits.
-/
import Derived.BigQuiet
import Derived.Deep.QuietTactic
import Derived.StillTailTactics
import Derived.Laws.CopyRow
import Derived.Laws.IdiomCopy
import Derived.Laws.Tables
import Derived.Lib.SmallJoins
import Derived.Laws.Rows
import Derived.Test.YtnjilcokkhodmaaGreatDoorZP2
import Derived.Test.YtnjilcokkhodmaaGreatDoorZP4
namespace Go.Proofs.YtnjilcokkhodmaaGreatDoor
open Go.RowKit Go.Shelf
set_option linter.unusedVariables false

theorem still_of_quiet {P : Program} {ops : Array Oper} {w : World} {Q : Act → Prop} : ∀ (l : List Oper) (a : Act), wpQuiet P ops (fun w' => w' = w) Q l a → wpStill P ops w Q l a
  | [], _, h => h
  | o :: l, a, h => by
    unfold wpQuiet at h
    unfold wpStill
    split
    · rename_i hw
      rw [if_pos hw] at h
      obtain ⟨v, h1, h2⟩ := h
      have h3 := h1 w rfl
      have h4 := still_of_quiet l _ h2
      unfold Oper.quietAt at h3
      unfold Oper.still
      generalize (execOp a.eval o).run P w = r at *
      cases r with
      | ok n w' =>
        cases n <;> simp only [Oper.quietUpon] at h3 <;> simp only [Oper.stillUpon]
        case value u =>
          obtain ⟨e1, e2⟩ := h3
          rw [e1, e2]
          exact ⟨rfl, h4⟩
        case skip =>
          obtain ⟨e1, e2⟩ := h3
          rw [e2] at h4
          exact ⟨e1, h4⟩
        case enter f args =>
          exact ⟨h3.1, v, h3.2, h4⟩
      | halt x w' => simp only [Oper.quietUpon] at h3
    · rename_i hw
      rw [if_neg hw] at h
      exact still_of_quiet l _ h
theorem region_tail {P : Program} {id : Nat} {Q : Exit → Act → World → Prop} {a : Act} {w : World} {l : List Oper} (n : Nat) (hm : P.follows .mixedOrders = true) (hB : Region.lexTailB .any l.toArray n = true)
  (h : wpQuiet P l.toArray (fun w' => w' = w.drew) (fun a' => wpList P l.toArray Q (l.drop n) a' w.drew) (l.take n) a) : (Code.region id l.toArray true).wp P Q a w :=
 wp_region_still_tail n hm hB (still_of_quiet _ _ h)
theorem mx : Tryz.prog.follows .mixedOrders = true := by kernel_rfl

end Go.Proofs.YtnjilcokkhodmaaGreatDoor

namespace Go.Proofs.YtnjilcokkhodmaaGreatDoor
open Go.RowKit Go.Shelf
set_option linter.unusedVariables false

def movedR (r0 r1 r2 : Int) (m : Nat) : Int × Int × Int := if m = 0 then (r0, r1, r2) else if m = 1 then (r0, r0, r2) else (r0, r0, r1)

theorem meantM_le (r0 : Int) (z : Bool) (back : Nat) : meantM r0 z back ≤ 2 := by
 unfold meantM
 split
 ·omega
 ·split
  ·omega
  ·split <;> omega

def sliceAtSem (t : TypeId) (x : Value) (lo hi mx : Option Value) : Sem Value := Instr.sliceAt t x lo hi mx
theorem sliceAtSem_eq (t : TypeId) (x : Value) (lo hi mx : Option Value) : Instr.sliceAt t x lo hi mx = sliceAtSem t x lo hi mx := rfl

section
attribute [local go_sem] sliceAtSem_eq
end
end Go.Proofs.YtnjilcokkhodmaaGreatDoor

namespace Go.Proofs.YtnjilcokkhodmaaGreatDoor
open Go.RowKit Go.Shelf
set_option linter.unusedVariables false

def IsSec (w : World) (sb : Nat) (v : Value) : Prop := w.heap[sb]? = some (.cells #[v] 98 (0, 0))
theorem IsSec.keep {w w' : World} {S : Nat → Prop} {sb : Nat} {v : Value} (h : IsSec w sb v) (hk : Keep S w w') (h1 : ¬ S sb) : IsSec w' sb v := hk.obj h h1

theorem next_none (sb : Nat) (a : Option Addr) (cap : Nat) (w : World) (h : IsSec w sb (.slice a 0 cap)) :
  Calls Tryz.prog 62 #[.pointer (some ⟨sb, 0, none⟩)] w fun e w' => e = .returned (.tuple #[.int .i64 0, .bool false]) ∧ w' = w := by
 have c0 : w.cell? ⟨sb, 0, none⟩ = some (.slice a 0 cap) := by rw [cell_of h]; rfl
 go_enter Tryz.func62, Tryz.ntmps62
 go_wp2_with fail
 go_ret2
 exact ⟨rfl, rfl⟩

section
attribute [local go_sem] sliceSem_eq
set_option maxHeartbeats 1000000 in
theorem next_some (sb g o n cap x c' : Nat) (a' : Option Addr) (w : World) (h : IsSec w sb (.slice (some ⟨g, o, none⟩) (n + 1) cap)) (hc : w.cell? ⟨g, o, none⟩ = some (.int .u8 (x : Int))) (hx : x < 256)
  (hsl : ∀ W, (sliceSem 22 (.slice (some ⟨g, o, none⟩) (n + 1) cap) (some (.int .i64 1)) none none).run Tryz.prog W = .ok (.slice a' n c') W) :
  Calls Tryz.prog 62 #[.pointer (some ⟨sb, 0, none⟩)] w fun e w' => e = .returned (.tuple #[.int .i64 (x : Int), .bool true]) ∧ IsSec w' sb (.slice a' n c') ∧ Keep (fun k => k = sb) w w' := by
 obtain ⟨W1, hW1⟩ : ∃ W1, W1 = w.drew := ⟨_, rfl⟩
 have hk1 : Keep noBlock w W1 := by rw [hW1]; exact (Keep.refl _ w).drew
 have h1 : IsSec W1 sb (.slice (some ⟨g, o, none⟩) (n + 1) cap) := h.keep hk1 (fun h => h)
 have hc1 : W1.cell? ⟨g, o, none⟩ = some (.int .u8 (x : Int)) := by rw [hW1]; exact hc
 have c0 : w.cell? ⟨sb, 0, none⟩ = some (.slice (some ⟨g, o, none⟩) (n + 1) cap) := by rw [cell_of h]; rfl
 have c1 : W1.cell? ⟨sb, 0, none⟩ = some (.slice (some ⟨g, o, none⟩) (n + 1) cap) := by rw [cell_of h1]; rfl
 have z1 : W1.frozen? ⟨sb, 0, none⟩ = false := frozen_of h1 0
 have HF := (show Hid (IsSec (W1.setCell ⟨sb, 0, none⟩ (.slice a' n c')) sb (.slice a' n c') ∧ Keep (fun k => k = sb) w (W1.setCell ⟨sb, 0, none⟩ (.slice a' n c'))) from
  ⟨set_obj h1 0 _, (hk1.mono (T := fun k => k = sb) (fun _ _ h => h.elim)).setCell (p := ⟨sb, 0, none⟩) (fun _ => rfl) _⟩)
 have hn : (((n + 1 : Nat) : Int) == 0) = false := by simp; omega
 have hn1 : (0 : Int) < ((n + 1 : Nat) : Int) := by omega
 have hxI : (x : Int) < 256 := by omega
 obtain ⟨N, hN⟩ : ∃ N, N = n + 1 := ⟨_, rfl⟩
 rw [← hN] at hn hn1 c0 c1 hsl
 have hn2 : 0 < N := by omega
 have hxw : IntKind.i64.wrap (x : Int) = (x : Int) := by rw [IntKind.wrap_i64]; omega
 clear h h1 hk1 hc hN
 go_enter Tryz.func62, Tryz.ntmps62
 go_wp2_with fail
 refine region_tail 14 mx (by kernel_rfl) ?_
 rw [← hW1]
 clear hW1
 simp only [List.take_succ_cons, List.take_zero, List.drop_succ_cons, List.drop_zero]
 repeat (quiet_step (fail))
 refine wpQuiet_nil ?_
 go_wp2_with fail
 go_ret2
 exact ⟨rfl, HF.out⟩
end

theorem results_cell {fn : Func} {a : Tmp} {t : TypeId} (h : fn.results = #[.cell a t]) (tmps : Array Value) (P : Program) (w : World) (p : Addr) (v : Value) (ha : tmps[a]?.getD undef = .pointer (some p)) (hv : (loadVar t p).run P w = .ok v w) :
  (results fn tmps).run P w = .ok v w := by
 simp [results, h, ha, asAddr, hv]
theorem results_tct {fn : Func} {x a u : Tmp} {t : TypeId} (h : fn.results = #[.tmp x, .cell a t, .tmp u]) (tmps : Array Value) (P : Program) (w : World) (p : Addr) (v : Value) (ha : tmps[a]?.getD undef = .pointer (some p)) (hv : (loadVar t p).run P w = .ok v w) :
  (results fn tmps).run P w = .ok (.tuple #[tmps.getD x undef, v, tmps.getD u undef]) w := by
 simp [results, h, ha, asAddr, hv]

def z3 : Array Value := #[.slice none 0 0, .slice none 0 0, .slice none 0 0]
/-- The worlds in which Read begins: its tables, the answer's tables, the section. -/
structure Begun (w W : World) (b0 b1 b2 : Nat) (v : Value) : Prop where
 o0 : W.heap[b0]? = some (.cells z3 38 (0, 0))
 o1 : W.heap[b1]? = some (.cells z3 38 (0, 0))
 o2 : IsSec W b2 v
 ne1 : b1 ≠ b0
 ne2 : b2 ≠ b0
 ne3 : b2 ≠ b1
 n0 : w.heap.size ≤ b0
 n1 : w.heap.size ≤ b1
 n2 : w.heap.size ≤ b2
 kp : Keep noBlock w W

end Go.Proofs.YtnjilcokkhodmaaGreatDoor

namespace Go.Proofs.YtnjilcokkhodmaaGreatDoor
open Go.RowKit Go.Shelf
set_option linter.unusedVariables false

/-- Whatever is cells, or lies below B, lies as it lay. -/
structure KeepN (B : Nat) (X Y : World) : Prop where
 os : Y.os = X.os
 tape : Y.tape = X.tape
 output : Y.output = X.output
 size : X.heap.size ≤ Y.heap.size
 block : ∀ k o, X.heap[k]? = some o → (k < B ∨ o.isCells = true) → Y.heap[k]? = some o
theorem KeepN.obj {B : Nat} {X Y : World} (h : KeepN B X Y) {b : Nat} {cs : Array Value} {t : TypeId} {fz : Nat × Nat} (hb : X.heap[b]? = some (.cells cs t fz)) : Y.heap[b]? = some (.cells cs t fz) := h.block b _ hb (.inr rfl)
theorem Keep.toN {X Y : World} (h : Keep noBlock X Y) (B : Nat) : KeepN B X Y := ⟨h.os, h.tape, h.output, h.size, fun k o hk _ => h.obj hk (fun h => h)⟩
theorem Keep.transN {w X Y : World} {S : Nat → Prop} {B : Nat} (h : Keep S w X) (k : KeepN B X Y) (hB : w.heap.size ≤ B) : Keep S w Y :=
 ⟨k.os.trans h.os, k.tape.trans h.tape, k.output.trans h.output, Nat.le_trans h.size k.size, fun i hi hs => by
  have e := h.block i hi hs
  rw [Array.getElem?_eq_getElem hi] at e ⊢
  exact k.block i _ e (.inl (by omega))⟩
theorem keepN_putObj {B l : Nat} {X : World} {o : Obj} (o' : Obj) (hB : B ≤ l) (hl : X.heap[l]? = some o) (hc : o.isCells = false) : KeepN B X (X.putObj l o') := by
 have hg := grownBy_putObj' X l o'
 refine ⟨hg.os, hg.tape, hg.output, hg.size, fun k o2 hk ho => (hg.block k (obj_lt hk) (fun e => ?_)).trans hk⟩
 cases e
 rw [hl] at hk; cases hk
 rcases ho with h | h
 ·omega
 ·rw [hc] at h; cases h

theorem range_iter {ι : Type} {n gf : Nat} {lb : Array Value} {g : Operand} {ps : Array Tmp} {assign body : Code} {Q : Exit → Act → World → Prop} {a : Act} {w : World} (hn : 3 ≤ n)
    (hg : a.eval g = .func (.func gf) #[] lb) (eg : ∀ args w, (callFunc gf args).run Tryz.prog w = .ok (.enter gf args) w)
    (R : ι → Array Value → ι → World → Prop) (E : ι → Prop) (i0 : ι) (I : ι → World → Prop)
    (hit : ∀ (l : Nat) (J : ι → World → Prop) (Jx : World → Prop) (W : World), KeepN w.heap.size w W → (∀ i V, J i V → I i V) → (∀ i X Y, J i X → Keep noBlock X Y → J i Y) →
      (∀ i vs i' V, R i vs i' V → J i V → YieldAt Fence.wide (n - 1 - 1) Tryz.prog l vs V fun e V' => (e = .returned (.bool true) ∧ J i' V') ∨ (e = .returned (.bool false) ∧ Jx V')) → J i0 W →
      CallsIn Fence.wide (n - 1) Tryz.prog gf (#[.func (.yield l) #[] #[]] ++ lb) W fun e W' => (∃ v, e = .returned v) ∧ ((∃ i, E i ∧ J i W') ∨ Jx W'))
    (hps : ∀ i vs i' V, R i vs i' V → vs.size = ps.size)
    (X : Code → World → Prop) (A : ι → Array Value → ι → Act → World → Prop)
    (hI : ∀ i U V, I i U → KeepN w.heap.size U V → I i V) (hX : ∀ c U V, X c U → KeepN w.heap.size U V → X c V) (hA : ∀ i vs i' a' U V, A i vs i' a' U → KeepN w.heap.size U V → A i vs i' a' V) (h0 : I i0 w)
    (hassign : ∀ i vs i' V (K : Act → World → Prop), R i vs i' V → I i V → (∀ a' V', KeepsFrom w.heap.size V V' → I i V' → A i vs i' a' V' → K a' V') →
      assign.wpIn (Fence.wide.inRound (w.heap.size + 1)) (n - 1 - 1) Tryz.prog (Exit.then K (fun _ _ _ => False)) { tmps := (ps.zip vs).foldl (fun t (p, v) => t.setIfInBounds p v) a.tmps, defers := [] } V)
    (hbody : ∀ i vs i' a' V, I i V → A i vs i' a' V → body.wpIn (Fence.wide.inRound (w.heap.size + 1)) (n - 1 - 1) Tryz.prog (goesOn w.heap.size (I i') X V) a' V)
    (hdone : ∀ i V, E i → I i V → V.heap[w.heap.size]? = some (.deferred (some [])) → Q .normal { a with defers := { target := .collected w.heap.size, args := #[] } :: a.defers } V)
    (hstop : ∀ j V, X j V → V.heap[w.heap.size]? = some (.deferred (some [])) → j.wpIn Fence.wide n Tryz.prog Q { a with defers := { target := .collected w.heap.size, args := #[] } :: a.defers } V) :
    (Code.rangeFunc g ps assign body).wpIn Fence.wide n Tryz.prog Q a w := by
  refine wpIn_rangeFunc fun fn hfn => ?_
  -- the loop's record
  obtain ⟨mk, hmk⟩ : ∃ mk : LoopState → Option Code → Obj, mk = fun st pe => .loop { state := st, pending := pe, fn, tmps := a.tmps, params := ps, assign, body, defers := w.heap.size } := ⟨_, rfl⟩
  have mkc : ∀ st pe, (mk st pe).isCells = false := fun st pe => by rw [hmk]; rfl
  obtain ⟨V1, hV1⟩ : ∃ V1, V1 = (w.alloc (.deferred (some []))).alloc (mk .ready none) := ⟨_, rfl⟩
  have hsz : (w.alloc (.deferred (some []))).heap.size = w.heap.size + 1 := World.size_alloc _ _
  have hrec : V1.heap[w.heap.size + 1]? = some (mk .ready none) := by rw [hV1, ← hsz]; exact World.alloc_heap_new _ _
  have hdef : V1.heap[w.heap.size]? = some (.deferred (some [])) := by rw [hV1]; exact alloc_far (World.alloc_heap_new w _) _
  have hK1 : KeepN w.heap.size w V1 := by rw [hV1]; exact (((Keep.refl noBlock w).alloc _).alloc _).toN _
  have hI1 : I i0 V1 := hI _ _ _ h0 hK1
  refine ⟨w.heap.size + 1, [{ target := .collected w.heap.size, args := #[] }], V1, { target := .fn (.func gf) lb, args := #[.func (.yield (w.heap.size + 1)) #[] #[]] }, V1, gf,
    #[.func (.yield (w.heap.size + 1)) #[] #[]] ++ lb, V1, ?_, ?_, fun _ _ => trivial, ?_, fun _ => by omega, ?_⟩
  · rw [hV1, hmk]; exact run_enterLoop_outer _ _ _ _ _
  · simp only [resolve, hg]
    simp [go_sem]
  · simp [invoke, go_sem, eg]
  · refine (hit (w.heap.size + 1)
      (fun i V => I i V ∧ V.heap[w.heap.size + 1]? = some (mk .ready none) ∧ V.heap[w.heap.size]? = some (.deferred (some [])))
      (fun V => ∃ j, X j V ∧ V.heap[w.heap.size + 1]? = some (mk .done (some j)) ∧ V.heap[w.heap.size]? = some (.deferred (some [])))
      V1 hK1 (fun i V h => h.1) (fun i U V h hk => ⟨hI _ _ _ h.1 (hk.toN _), hk.obj h.2.1 (fun h => h), hk.obj h.2.2 (fun h => h)⟩) ?_ ⟨hI1, hrec, hdef⟩).mono ?_
    · rintro i vs i' V hR ⟨hi, hl, hd⟩
      have hy := run_yield (P := Tryz.prog) (args := vs) (by rw [hmk] at hl; exact hl) (by simp [hps i vs i' V hR])
      refine ⟨fn, _, assign, body, hy, roundIn_of_wpIn hfn (hassign i vs i' V _ hR hi fun a' V2 hkf hi2 hax => ?_)⟩
      have hl2 := hkf.same _ _ (Nat.le_succ _) hl (mkc _ _)
      have hd2 := hkf.same _ _ (Nat.le_refl _) hd rfl
      have hlt : w.heap.size + 1 < V2.heap.size := obj_lt hl2
      have hbr := run_beginRound (P := Tryz.prog) (by rw [hmk] at hl2; exact hl2) rfl
      refine ⟨_, hbr, ?_⟩
      obtain ⟨V3, hV3⟩ : ∃ V3, V3 = V2.putObj (w.heap.size + 1) (mk .busy none) := ⟨_, rfl⟩
      have hl3 : V3.heap[w.heap.size + 1]? = some (mk .busy none) := by rw [hV3]; exact World.putObj_heap_same hlt
      have hd3 : V3.heap[w.heap.size]? = some (.deferred (some [])) := by rw [hV3]; exact (World.putObj_heap_other (by omega)).trans hd2
      have hk3 : KeepN w.heap.size V2 V3 := by rw [hV3]; exact keepN_putObj _ (Nat.le_succ _) hl2 (mkc _ _)
      have hi3 : I i V3 := hI _ _ _ hi2 hk3
      have hx3 : A i vs i' a' V3 := hA _ _ _ _ _ _ hax hk3
      have hb := hbody i vs i' a' V3 hi3 hx3
      rw [hV3, hmk] at hb
      refine wpIn_mono hb ?_
      -- however the round ends, the record is turned
      have fin : ∀ (j : Option Code) (V4 : World), KeepsFrom w.heap.size V3 V4 → (Instr.endRound (w.heap.size + 1) j).run Tryz.prog V4 = .ok (.bool j.isNone) (V4.putObj (w.heap.size + 1) (mk (if j.isNone then .ready else .done) j)) ∧
          V4.heap[w.heap.size + 1]? = some (mk .busy none) ∧ (V4.putObj (w.heap.size + 1) (mk (if j.isNone then .ready else .done) j)).heap[w.heap.size + 1]? = some (mk (if j.isNone then .ready else .done) j) ∧
          (V4.putObj (w.heap.size + 1) (mk (if j.isNone then .ready else .done) j)).heap[w.heap.size]? = some (.deferred (some [])) := by
        intro j V4 h4
        have hl4 := h4.same _ _ (Nat.le_succ _) hl3 (mkc _ _)
        have hr := run_endRound (P := Tryz.prog) j (by rw [hmk] at hl4; exact hl4)
        refine ⟨?_, hl4, World.putObj_heap_same (obj_lt hl4), (World.putObj_heap_other (by omega)).trans (h4.same _ _ (Nat.le_refl _) hd3 rfl)⟩
        rw [hmk]; exact hr
      intro e a4 V4 hp
      have hp' : goesOn w.heap.size (I i') X V3 e a4 V4 := by rw [hV3, hmk]; exact hp
      clear hp hb
      cases e with
      | normal =>
        obtain ⟨r1, r2, r3, r4⟩ := fin none V4 hp'.1
        exact ⟨_, _, r1, .inl ⟨rfl, hI _ _ _ hp'.2 (keepN_putObj _ (Nat.le_succ _) r2 (mkc _ _)), r3, r4⟩⟩
      | ret =>
        obtain ⟨r1, r2, r3, r4⟩ := fin (some .ret) V4 hp'.1
        exact ⟨_, _, r1, .inr ⟨rfl, .ret, hX _ _ _ hp'.2 (keepN_putObj _ (Nat.le_succ _) r2 (mkc _ _)), r3, r4⟩⟩
      | exit i =>
        obtain ⟨r1, r2, r3, r4⟩ := fin (some (.exit i)) V4 hp'.1
        exact ⟨_, _, r1, .inr ⟨rfl, .exit i, hX _ _ _ hp'.2 (keepN_putObj _ (Nat.le_succ _) r2 (mkc _ _)), r3, r4⟩⟩
      | goto t => exact hp'.elim
      | panic ch => exact hp'.elim
      | outgrown => exact hp'.elim
    · rintro e V ⟨⟨v, rfl⟩, (⟨i, hE, hi, hl, hd⟩ | ⟨j, hj, hl, hd⟩)⟩
      · have hr := run_endLoop (P := Tryz.prog) (by rw [hmk] at hl; exact hl) (by simp)
        exact ⟨none, _, hr, hdone i _ hE (hI _ _ _ hi (keepN_putObj _ (Nat.le_succ _) hl (mkc _ _))) ((World.putObj_heap_other (by omega)).trans hd)⟩
      · have hr := run_endLoop (P := Tryz.prog) (by rw [hmk] at hl; exact hl) (by simp)
        exact ⟨some j, _, hr, hstop j _ (hX _ _ _ hj (keepN_putObj _ (Nat.le_succ _) hl (mkc _ _))) ((World.putObj_heap_other (by omega)).trans hd)⟩

end Go.Proofs.YtnjilcokkhodmaaGreatDoor

namespace Go.Proofs.YtnjilcokkhodmaaGreatDoor
open Go.RowKit Go.Shelf

def sumN (g : Nat → Nat) : Nat → Nat
 | 0 => 0
 | n + 1 => sumN g n + g n
theorem sumN_congr (g h : Nat → Nat) (n : Nat) (e : ∀ i, i < n → g i = h i) : sumN g n = sumN h n := by
 induction n with
 | zero => rfl
 | succ n ih => simp only [sumN]; rw [ih (fun i hi => e i (by omega)), e n (by omega)]
theorem sumN_ge (g : Nat → Nat) (n i : Nat) (hi : i < n) : g i ≤ sumN g n := by
  induction n with
  | zero => omega
  | succ n ih =>
    simp only [sumN]
    by_cases e : i = n
    · subst e; omega
    · have := ih (by omega); omega
theorem sumN_two (g : Nat → Nat) (n i j : Nat) (hi : i < n) (hj : j < n) (hne : i ≠ j) : g i + g j ≤ sumN g n := by
  induction n with
  | zero => omega
  | succ n ih =>
    simp only [sumN]
    by_cases e : i = n
    · have := sumN_ge g n j (by omega); subst e; omega
    · by_cases e2 : j = n
      · have := sumN_ge g n i (by omega); subst e2; omega
      · have := ih (by omega) (by omega); omega
theorem sumN_le (g : Nat → Nat) (n B : Nat) (h : ∀ i, i < n → g i ≤ B) : sumN g n ≤ n * B := by
  induction n with
  | zero => simp [sumN]
  | succ n ih =>
    simp only [sumN]
    have h1 := ih (fun i hi => h i (by omega))
    have h2 := h n (by omega)
    rw [Nat.succ_mul]; omega
theorem sumN_mono (g h : Nat → Nat) (n : Nat) (e : ∀ i, i < n → g i ≤ h i) : sumN g n ≤ sumN h n := by
 induction n with
 | zero => simp [sumN]
 | succ n ih => simp only [sumN]; have := ih (fun i hi => e i (by omega)); have := e n (by omega); omega

end Go.Proofs.YtnjilcokkhodmaaGreatDoor

namespace Go.Proofs.YtnjilcokkhodmaaGreatDoor
open Go

theorem sumN_add (g h : Nat → Nat) (n : Nat) : sumN (fun i => g i + h i) n = sumN g n + sumN h n := by
 induction n with
 | zero => rfl
 | succ n ih => simp only [sumN]; omega
theorem sumN_pos (g : Nat → Nat) (n : Nat) (h : 0 < sumN g n) : ∃ i, i < n ∧ 0 < g i := by
  induction n with
  | zero => simp [sumN] at h
  | succ n ih =>
    simp only [sumN] at h
    by_cases h0 : 0 < g n
    · exact ⟨n, by omega, h0⟩
    · obtain ⟨i, h1, h2⟩ := ih (by omega)
      exact ⟨i, by omega, h2⟩

def wt (ws : List Nat) (i : Nat) : Nat := ws[i]?.getD 0
def shN (x : Nat) : Nat := if x = 0 then 0 else 2 ^ (x - 1)
theorem shN_le (x : Nat) (h : x ≤ 11) : shN x ≤ 1024 := by
 unfold shN
 split
 ·omega
 ·exact Nat.pow_le_pow_right (n := 2) (j := 10) (by omega) (by omega)
theorem shN_pos (x : Nat) (h : x ≠ 0) : shN x = 2 ^ (x - 1) := if_neg h
theorem shN_succ (c : Nat) : shN (c + 1) = 2 ^ c := rfl
def sumW (ws : List Nat) (i : Nat) : Nat := sumN (fun j => shN (wt ws j)) i
def onesW (ws : List Nat) (i : Nat) : Nat := sumN (fun j => if wt ws j = 1 then 1 else 0) i
theorem onesW_le (ws : List Nat) (i : Nat) : onesW ws i ≤ i := by
 have := sumN_le (fun j => if wt ws j = 1 then 1 else 0) i 1 (fun j _ => by split <;> omega)
 unfold onesW; omega
theorem sumW_le (ws : List Nat) (i : Nat) (h : ∀ j, j < i → wt ws j ≤ 11) : sumW ws i ≤ i * 1024 := sumN_le _ _ _ (fun j hj => shN_le _ (h j hj))

/-- The weights make a code of 2^m. -/
structure IsCode (ws : List Nat) (m : Nat) : Prop where
 len2 : 2 ≤ ws.length
 len : ws.length ≤ 256
 last : wt ws (ws.length - 1) ≠ 0
 le : ∀ i, i < ws.length → wt ws i ≤ 11
 sum : sumW ws ws.length = 2 ^ m
 m11 : m ≤ 11
 ones : 2 ≤ onesW ws ws.length
def codeB (ws : List Nat) : Bool := decide (2 ≤ ws.length ∧ ws.length ≤ 256 ∧ wt ws (ws.length - 1) ≠ 0 ∧ (∀ i, i < ws.length → wt ws i ≤ 11) ∧ sumW ws ws.length = 2 ^ (lenN (sumW ws ws.length) - 1) ∧ lenN (sumW ws ws.length) - 1 ≤ 11 ∧ 2 ≤ onesW ws ws.length)
def codeM (ws : List Nat) : Nat := if codeB ws then lenN (sumW ws ws.length) - 1 else 0
theorem codeB_is {ws : List Nat} (h : codeB ws = true) : IsCode ws (lenN (sumW ws ws.length) - 1) := by
 obtain ⟨h1, h2, h3, h4, h5, h6, h7⟩ := of_decide_eq_true h
 exact ⟨h1, h2, h3, h4, h5, h6, h7⟩
theorem lenN_pow (m : Nat) : lenN (2 ^ m) = m + 1 := lenN_eq _ _ (Nat.le_refl _) (Nat.pow_lt_pow_right (by omega) (by omega))
theorem IsCode.codeB {ws : List Nat} {m : Nat} (h : IsCode ws m) : codeB ws = true ∧ lenN (sumW ws ws.length) - 1 = m := by
 have e : lenN (sumW ws ws.length) - 1 = m := by rw [h.sum, lenN_pow]; omega
 refine ⟨decide_eq_true ⟨h.len2, h.len, h.last, h.le, ?_, ?_, h.ones⟩, e⟩
 ·rw [e]; exact h.sum
 ·rw [e]; exact h.m11
theorem IsCode.codeM {ws : List Nat} {m : Nat} (h : IsCode ws m) : codeM ws = m := by
 unfold YtnjilcokkhodmaaGreatDoor.codeM; rw [if_pos h.codeB.1]; exact h.codeB.2
theorem ones_le_sum (ws : List Nat) (n : Nat) : onesW ws n ≤ sumW ws n := sumN_mono _ _ _ (fun i _ => by
 split
 ·rename_i e; rw [e]; exact Nat.le_refl _
 ·omega)
theorem IsCode.m1 {ws : List Nat} {m : Nat} (h : IsCode ws m) : 1 ≤ m := by
 have h1 := ones_le_sum ws ws.length
 have h2 := h.sum
 have h3 := h.ones
 rcases m with _ | m
 ·simp at h2; omega
 ·omega
theorem IsCode.wt_le {ws : List Nat} {m : Nat} (h : IsCode ws m) (i : Nat) (hi : i < ws.length) : wt ws i ≤ m := by
 have hm := h.m1
 by_cases hw : wt ws i ≤ m
 ·exact hw
 ·exfalso
  obtain ⟨k, hk, hk1⟩ := sumN_pos _ _ (show 0 < onesW ws ws.length by have := h.ones; omega)
  have hk2 : wt ws k = 1 := by
   by_cases e : wt ws k = 1
   ·exact e
   ·rw [if_neg e] at hk1; omega
  have hne : i ≠ k := by rintro rfl; omega
  have := sumN_two (fun j => shN (wt ws j)) ws.length i k hi hk hne
  rw [hk2] at this
  have hs : sumN (fun j => shN (wt ws j)) ws.length = 2 ^ m := h.sum
  rw [hs, shN_pos _ (show wt ws i ≠ 0 by omega)] at this
  have h2 : 2 ^ m ≤ 2 ^ (wt ws i - 1) := Nat.pow_le_pow_right (by omega) (by omega)
  have : shN 1 = 1 := rfl
  omega

def symsW (ws : List Nat) (c : Nat) : Nat → List Nat
 | 0 => []
 | i + 1 => if wt ws i = c + 1 then symsW ws c i ++ [i] else symsW ws c i
def ordC (ws : List Nat) : Nat → List Nat
 | 0 => []
 | c + 1 => ordC ws c ++ symsW ws c ws.length
def ordTo (ws : List Nat) (c i : Nat) : List Nat := ordC ws c ++ symsW ws c i
theorem ordTo_zero (ws : List Nat) (c : Nat) : ordTo ws c 0 = ordC ws c := List.append_nil _
theorem ordTo_all (ws : List Nat) (c : Nat) : ordTo ws c ws.length = ordC ws (c + 1) := rfl
theorem ordTo_here (ws : List Nat) (c i : Nat) (h : wt ws i = c + 1) : ordTo ws c (i + 1) = ordTo ws c i ++ [i] := by
 simp only [ordTo, symsW]; rw [if_pos h, List.append_assoc]
theorem ordTo_not (ws : List Nat) (c i : Nat) (h : wt ws i ≠ c + 1) : ordTo ws c (i + 1) = ordTo ws c i := by
 simp only [ordTo, symsW]; rw [if_neg h]
theorem symsW_grow (ws : List Nat) (c i n : Nat) (h : i ≤ n) : ∃ r, symsW ws c n = symsW ws c i ++ r := by
  induction n with
  | zero => obtain rfl : i = 0 := by omega
            exact ⟨[], rfl⟩
  | succ n ih =>
    by_cases e : i = n + 1
    · subst e; exact ⟨[], (List.append_nil _).symm⟩
    · obtain ⟨r, hr⟩ := ih (by omega)
      simp only [symsW]
      split
      · exact ⟨r ++ [n], by rw [hr, List.append_assoc]⟩
      · exact ⟨r, hr⟩
theorem ordC_grow (ws : List Nat) (c d : Nat) (h : c ≤ d) : ∃ r, ordC ws d = ordC ws c ++ r := by
  induction d with
  | zero => obtain rfl : c = 0 := by omega
            exact ⟨[], rfl⟩
  | succ d ih =>
    by_cases e : c = d + 1
    · subst e; exact ⟨[], (List.append_nil _).symm⟩
    · obtain ⟨r, hr⟩ := ih (by omega)
      exact ⟨r ++ symsW ws d ws.length, by rw [ordC, hr, List.append_assoc]⟩
theorem ordTo_grow (ws : List Nat) (c i m : Nat) (hi : i ≤ ws.length) (hc : c < m) : ∃ r, ordC ws m = ordTo ws c i ++ r := by
 obtain ⟨r1, h1⟩ := symsW_grow ws c i ws.length hi
 obtain ⟨r2, h2⟩ := ordC_grow ws (c + 1) m (by omega)
 exact ⟨r1 ++ r2, by rw [h2, ordC, h1, ordTo, List.append_assoc, List.append_assoc, List.append_assoc]⟩

def cellsL (ws : List Nat) : List Nat → List Nat
 | [] => []
 | s :: l => List.replicate (shN (wt ws s)) s ++ cellsL ws l
theorem cellsL_app (ws : List Nat) (a b : List Nat) : cellsL ws (a ++ b) = cellsL ws a ++ cellsL ws b := by
 induction a with
 | nil => rfl
 | cons s a ih => rw [List.cons_append, cellsL, cellsL, ih, List.append_assoc]
theorem cellsL_one (ws : List Nat) (s : Nat) : cellsL ws [s] = List.replicate (shN (wt ws s)) s := by simp [cellsL]
def nextL (ws : List Nat) (l : List Nat) : Nat := (cellsL ws l).length
theorem nextL_app (ws : List Nat) (a b : List Nat) : nextL ws (a ++ b) = nextL ws a + nextL ws b := by unfold nextL; rw [cellsL_app, List.length_append]
theorem nextL_one (ws : List Nat) (s : Nat) : nextL ws [s] = shN (wt ws s) := by unfold nextL; rw [cellsL_one, List.length_replicate]
theorem nextL_syms (ws : List Nat) (c i : Nat) : nextL ws (symsW ws c i) = sumN (fun j => if wt ws j = c + 1 then shN (wt ws j) else 0) i ∧ ∃ k, nextL ws (symsW ws c i) = k * 2 ^ c := by
  induction i with
  | zero => exact ⟨rfl, 0, by rw [Nat.zero_mul]; rfl⟩
  | succ i ih =>
    obtain ⟨h1, k, h2⟩ := ih
    simp only [symsW, sumN]
    split
    · rename_i e
      rw [nextL_app, nextL_one]
      refine ⟨by rw [h1], k + 1, ?_⟩
      rw [h2, e, shN_succ, Nat.add_mul, Nat.one_mul]
    · exact ⟨by rw [h1]; rfl, k, h2⟩
theorem nextL_ordC (ws : List Nat) (c : Nat) : nextL ws (ordC ws c) = sumN (fun j => if 1 ≤ wt ws j ∧ wt ws j ≤ c then shN (wt ws j) else 0) ws.length := by
  induction c with
  | zero =>
    show 0 = _
    rw [sumN_congr _ (fun _ => 0) _ (fun i _ => if_neg (by omega))]
    have := sumN_le (fun _ => 0) ws.length 0 (fun _ _ => Nat.le_refl _)
    omega
  | succ c ih =>
    rw [ordC, nextL_app, ih, (nextL_syms ws c ws.length).1, ← sumN_add]
    refine sumN_congr _ _ _ (fun i _ => ?_)
    by_cases h1 : 1 ≤ wt ws i ∧ wt ws i ≤ c
    · rw [if_pos h1, if_neg (by omega), if_pos (by omega)]; rfl
    · rw [if_neg h1]
      by_cases h2 : wt ws i = c + 1
      · rw [if_pos h2, if_pos (by omega), Nat.zero_add]
      · rw [if_neg h2, if_neg (by omega)]
theorem IsCode.all {ws : List Nat} {m : Nat} (h : IsCode ws m) : nextL ws (ordC ws m) = 2 ^ m := by
 rw [nextL_ordC, ← h.sum]
 refine sumN_congr _ _ _ (fun i hi => ?_)
 have := h.wt_le i hi
 by_cases h1 : 1 ≤ wt ws i
 ·rw [if_pos ⟨h1, this⟩]
 ·rw [if_neg (by omega), show wt ws i = 0 from by omega]; rfl
def startW (ws : List Nat) (s : Nat) : Nat := nextL ws (ordTo ws (wt ws s - 1) s)
def wordX (ws : List Nat) (s : Nat) : Nat := startW ws s / 2 ^ (wt ws s - 1)
theorem IsCode.start_le {ws : List Nat} {m : Nat} (h : IsCode ws m) (s : Nat) (hs : s < ws.length) (h1 : 1 ≤ wt ws s) : startW ws s + 2 ^ (wt ws s - 1) ≤ 2 ^ m := by
 have hm := h.wt_le s hs
 obtain ⟨r, hr⟩ := ordTo_grow ws (wt ws s - 1) (s + 1) m (by omega) (by omega)
 have hall := h.all
 rw [hr, nextL_app, ordTo_here ws _ s (by omega), nextL_app, nextL_one, shN_pos _ (by omega)] at hall
 unfold startW
 omega
def symX (ws : List Nat) (m x : Nat) : Nat := (cellsL ws (ordC ws m))[x]?.getD 0
theorem sym_in (ws : List Nat) (c i x : Nat) (hi : i ≤ ws.length) (hx : x < nextL ws (ordTo ws c i))
    (h0 : x < nextL ws (ordC ws c) → ∃ s, (cellsL ws (ordC ws c))[x]? = some s ∧ s < ws.length ∧ 1 ≤ wt ws s ∧ startW ws s ≤ x ∧ x < startW ws s + 2 ^ (wt ws s - 1)) :
    ∃ s, (cellsL ws (ordTo ws c i))[x]? = some s ∧ s < ws.length ∧ 1 ≤ wt ws s ∧ startW ws s ≤ x ∧ x < startW ws s + 2 ^ (wt ws s - 1) := by
  induction i with
  | zero =>
    rw [ordTo_zero] at hx ⊢
    exact h0 hx
  | succ i ih =>
    by_cases e : wt ws i = c + 1
    · have he := ordTo_here ws c i e
      rw [he] at hx ⊢
      by_cases hlt : x < nextL ws (ordTo ws c i)
      · obtain ⟨s, h1, h2⟩ := ih (by omega) hlt
        exact ⟨s, by rw [cellsL_app, List.getElem?_append_left hlt]; exact h1, h2⟩
      · rw [nextL_app, nextL_one] at hx
        have hst : startW ws i = nextL ws (ordTo ws c i) := by unfold startW; rw [e, Nat.add_sub_cancel]
        rw [shN_pos _ (by omega)] at hx
        refine ⟨i, ?_, by omega, by omega, by omega, by omega⟩
        rw [cellsL_app, List.getElem?_append_right (by unfold nextL at hlt; omega), cellsL_one, List.getElem?_replicate, if_pos]
        rw [shN_pos _ (by omega)]
        unfold nextL at hlt hx
        omega
    · rw [ordTo_not ws c i e] at hx ⊢
      exact ih (by omega) hx
theorem sym_to (ws : List Nat) (c i x : Nat) (hi : i ≤ ws.length) (hx : x < nextL ws (ordTo ws c i)) :
    ∃ s, (cellsL ws (ordTo ws c i))[x]? = some s ∧ s < ws.length ∧ 1 ≤ wt ws s ∧ startW ws s ≤ x ∧ x < startW ws s + 2 ^ (wt ws s - 1) := by
  induction c generalizing i x with
  | zero => exact sym_in ws 0 i x hi hx (fun h => by simp [ordC, nextL, cellsL] at h)
  | succ c ih =>
    refine sym_in ws (c + 1) i x hi hx (fun h => ?_)
    rw [← ordTo_all] at h ⊢
    exact ih ws.length x (Nat.le_refl _) h
theorem IsCode.sym {ws : List Nat} {m : Nat} (h : IsCode ws m) (x : Nat) (hx : x < 2 ^ m) :
  symX ws m x < ws.length ∧ 1 ≤ wt ws (symX ws m x) ∧ startW ws (symX ws m x) ≤ x ∧ x < startW ws (symX ws m x) + 2 ^ (wt ws (symX ws m x) - 1) := by
 have hm := h.m1
 obtain ⟨k, rfl⟩ : ∃ k, m = k + 1 := ⟨m - 1, by omega⟩
 obtain ⟨s, h1, h2⟩ := sym_to ws k ws.length x (Nat.le_refl _) (by rw [ordTo_all, h.all]; exact hx)
 rw [ordTo_all] at h1
 have e : symX ws (k + 1) x = s := by unfold symX; rw [h1]; rfl
 rw [e]
 exact h2

end Go.Proofs.YtnjilcokkhodmaaGreatDoor

namespace Go.Proofs.YtnjilcokkhodmaaGreatDoor
open Go.RowKit Go.Shelf

set_option maxRecDepth 100000 in
set_option maxHeartbeats 1000000 in
theorem len64_big (x : Nat) (hx : x < 16777216) (w : World) : Calls Tryz.prog 110 #[.int .u64 (x : Int)] w fun e w' => e = .returned (.int .i64 ((lenN x : Nat) : Int)) ∧ w' = w := by
 by_cases h : x < 65536
 ·exact len64_any x h w
 ·have g1 : ¬ (4294967296 : Int) ≤ (x : Int) := by omega
  have g2 : (65536 : Int) ≤ (x : Int) := by omega
  have hs : lenN x = 16 + lenN (x / 65536) := by
   have h1 := lenN_shift x (by omega)
   have h2 := lenN_shift (x / 256) (by omega)
   rw [Nat.div_div_eq_div_mul, show 256 * 256 = 65536 from rfl] at h2
   omega
  obtain ⟨y, hy⟩ : ∃ y, y = x / 65536 := ⟨_, rfl⟩
  have hd : (x : Int) / 2 ^ 16 = (y : Int) := by omega
  have hd' : (x : Int) / 65536 = (y : Int) := by omega
  rw [← hy] at hs
  have hy2 : y < 256 := by omega
  have hyI : (y : Int) < 256 := by omega
  have hyn : ¬ (256 : Int) ≤ (y : Int) := by omega
  generalize lenN x = lx at hs ⊢
  have HS := (show Hid _ from hs)
  have HY := (show Hid _ from hy)
  clear hs hy
  go_enter Tryz.func110, Tryz.ntmps110
  go_wp2
  go_ret
  refine ⟨congrArg (fun x => Ending.returned (Value.int .i64 x)) ?_, rfl⟩
  rw [HS.out]
  clear w g1 g2 hx HS HY hd hd' h x lx
  revert hyn hyI hy2
  revert y
  decide +kernel

set_option maxHeartbeats 400000 in
theorem len_big (x : Nat) (hx : x < 16777216) (w : World) : Calls Tryz.prog 92 #[.int .u64 (x : Int)] w fun e w' => e = .returned (.int .i64 ((lenN x : Nat) : Int)) ∧ w' = w := by
 go_enter Tryz.func92, Tryz.ntmps92
 go_wp2_with (go_at_call 110; refine (len64_big x hx _).mono ?_; rintro e w' ⟨rfl, rfl⟩)
 go_ret
 exact ⟨rfl, rfl⟩

set_option maxHeartbeats 400000 in
theorem shareW_any (x : Nat) (hx : x ≤ 11) (w : World) : Calls Tryz.prog 120 #[.int .u8 (x : Int)] w fun e w' => e = .returned (.int .i64 ((shN x : Nat) : Int)) ∧ w' = w := by
 by_cases h0 : x = 0
 ·subst h0
  go_enter Tryz.func120, Tryz.ntmps120
  go_wp2
  go_ret
  exact ⟨rfl, rfl⟩
 ·have hb : ((x : Int) == 0) = false := by rw [beq_eq_false_iff_ne]; omega
  obtain ⟨k, hk⟩ : ∃ k, x = k + 1 := ⟨x - 1, by omega⟩
  have hkI : (x : Int) - 1 = (k : Int) := by omega
  have hk10 : (k : Int) ≤ 10 := by omega
  have hxI : (x : Int) ≤ 11 := by omega
  have hsh : shN x = 2 ^ k := by rw [hk]; rfl
  have hp : 2 ^ k ≤ 1024 := Nat.pow_le_pow_right (n := 2) (j := 10) (by omega) (by omega)
  have hpI : wrap64 ((2 : Int) ^ k) = ((shN x : Nat) : Int) := by
   rw [hsh]
   have e : (2 : Int) ^ k = ((2 ^ k : Nat) : Int) := by simp
   rw [e]
   generalize 2 ^ k = y at hp
   unfold wrap64; omega
  generalize shN x = y at *
  have HP := (show Hid _ from hpI)
  clear hk hsh hp hpI
  go_enter Tryz.func120, Tryz.ntmps120
  go_wp2
  go_ret
  exact ⟨congrArg (fun x => Ending.returned (Value.int .i64 x)) HP.out, rfl⟩

def okW (ws : List Nat) : Bool := decide (∀ i, i < ws.length → wt ws i ≤ 11)

set_option maxRecDepth 100000 in
set_option maxHeartbeats 1000000 in
theorem sumOfW_any (a : Option Addr) (cap gb off : Nat) (ws : List Nat) (w : World) (hB : Bytes w a cap gb off ws) (hl : ws.length ≤ 256) :
  Calls Tryz.prog 101 #[.slice a ws.length cap] w fun e w' => (okW ws = true ∧ e = .returned (.tuple #[.int .i64 ((sumW ws ws.length : Nat) : Int), .bool true]) ∨ okW ws = false ∧ e = .returned (.tuple #[.int .i64 0, .bool false])) ∧ w' = w := by
 have HB := (show Hid (Bytes w a cap gb off ws) from hB)
 obtain ⟨n, hn⟩ : ∃ n, n = ws.length := ⟨_, rfl⟩
 rw [← hn] at hl ⊢
 have HN := (show Hid (n = ws.length) from hn)
 have hnI : (n : Int) ≤ 256 := by omega
 clear hB hn
 go_enter Tryz.func101, Tryz.ntmps101
 go_wp2
 go_loop [2, 8] (fun v2 v8 => ∃ i : Nat, v8 = .int .i64 (i : Int) ∧ v2 = .int .i64 ((sumW ws i : Nat) : Int) ∧ i ≤ n ∧ Hid (∀ j, j < i → wt ws j ≤ 11)) (fun _ v8 => n - (intOf v8).toNat)
 case atStart => exact ⟨0, rfl, rfl, Nat.zero_le _, fun j hj => by omega⟩
 case round =>
  obtain ⟨i, rfl, rfl, hi, HA⟩ := hrel
  have hsb := sumW_le ws i HA.out
  have hsI : ((sumW ws i : Nat) : Int) ≤ 262144 := by omega
  by_cases hlt : i < n
  ·have hix : i < ws.length := by have := HN.out; omega
   obtain rfl : a = some ⟨gb, off, none⟩ := by
    rcases HB.out.at_ with e | e
    ·exact e
    ·rw [e] at hix; simp at hix
   have c0 := HB.out.cells i hix
   have hx256 := HB.out.lt i
   have HS := (show Hid (sumW ws (i + 1) = sumW ws i + shN (wt ws i)) from rfl)
   have hltI : (i : Int) < (n : Int) := by omega
   have HX := (show Hid (wt ws i = ws[i]?.getD 0) from rfl)
   rw [HX.out] at HS
   obtain ⟨x, hx⟩ : ∃ x, x = ws[i]?.getD 0 := ⟨_, rfl⟩
   rw [← hx] at c0 hx256 HS HX
   clear hsb hx
   by_cases h11 : x ≤ 11
   ·have hxI : (x : Int) ≤ 11 := by omega
    have hs1 := shN_le x h11
    have HSH := (show Hid (∀ w : World, _) from fun w => shareW_any x h11 w)
    generalize shN x = y at *
    generalize sumW ws i = si at *
    have hyI : (y : Int) ≤ 1024 := by omega
    go_wp2_with (go_at_call 120; refine (HSH.out _).mono ?_; rintro e w' ⟨rfl, rfl⟩)
    go_round
    case rel => exact ⟨i + 1, by go_num, by rw [HS.out]; go_num, by omega, fun j hj => by
     by_cases e : j = i
     ·subst e; rw [HX.out]; exact h11
     ·exact HA.out j (by omega)⟩
    case measure => simp [intOf]; omega
   ·have hxI : ¬ (x : Int) ≤ 11 := by omega
    have hx256I : (x : Int) < 256 := by omega
    generalize sumW ws i = si at *
    go_wp2_with fail
    go_ret2
    exact ⟨.inr ⟨decide_eq_false (fun h => h11 (by have := h i hix; rwa [HX.out] at this)), rfl⟩, rfl⟩
  ·obtain rfl : i = n := by omega
   have hltI : ¬ (i : Int) < (i : Int) := by omega
   clear hsb
   go_wp2
   go_ret2
   exact ⟨.inl ⟨decide_eq_true (fun j hj => HA.out j (by have := HN.out; omega)), rfl⟩, rfl⟩

end Go.Proofs.YtnjilcokkhodmaaGreatDoor

namespace Go.Proofs.YtnjilcokkhodmaaGreatDoor
open Go.RowKit Go.Shelf

theorem Bytes.here {w : World} {a : Option Addr} {cap gb off : Nat} {bs : List Nat} (h : Bytes w a cap gb off bs) {i : Nat} (hi : i < bs.length) : a = some ⟨gb, off, none⟩ := by
 rcases h.at_ with e | e
 ·exact e
 ·rw [e] at hi; simp at hi

theorem codeB_short {ws : List Nat} (h : ws.length < 2) : codeB ws = false := decide_eq_false (fun q => by omega)
theorem codeB_long {ws : List Nat} (h : 256 < ws.length) : codeB ws = false := decide_eq_false (fun q => by omega)
theorem codeB_last {ws : List Nat} (h : wt ws (ws.length - 1) = 0) : codeB ws = false := decide_eq_false (fun q => q.2.2.1 h)
theorem codeB_ok {ws : List Nat} (h : okW ws = false) : codeB ws = false := decide_eq_false (fun q => (of_decide_eq_false h) q.2.2.2.1)

def Made (ws : List Nat) (w : World) (e : Ending) (w' : World) : Prop := ∃ l : Int, e = .returned (.tuple #[.int .i64 l, .bool (codeB ws)]) ∧ (codeB ws = true → l = ((codeM ws : Nat) : Int)) ∧ w' = w
theorem made_no {ws : List Nat} {w : World} (l : Int) (h : codeB ws = false) : Made ws w (.returned (.tuple #[.int .i64 l, .bool false])) w := ⟨l, by rw [h], fun e => (by rw [h] at e; cases e), rfl⟩

set_option maxRecDepth 100000 in
set_option maxHeartbeats 2000000 in
theorem makeCode_any (a : Option Addr) (cap gb off : Nat) (ws : List Nat) (w : World) (hB : Bytes w a cap gb off ws) :
    Calls Tryz.prog 95 #[.slice a ws.length cap] w fun e w' => Made ws w e w' := by
  have HB := (show Hid (Bytes w a cap gb off ws) from hB)
  have h48 := hB.len
  obtain ⟨n, hn⟩ : ∃ n, n = ws.length := ⟨_, rfl⟩
  have HN := (show Hid (n = ws.length) from hn)
  have hnI : (n : Int) < 281474976710656 := by omega
  rw [← hn]
  by_cases h2 : n < 2
  · have h2I : (n : Int) < 2 := by omega
    have HC := (show Hid _ from codeB_short (ws := ws) (by omega))
    clear hB hn
    go_enter Tryz.func95, Tryz.ntmps95
    go_wp2
    go_ret2
    exact made_no 0 HC.out
  · have h2I : ¬ (n : Int) < 2 := by omega
    by_cases h256 : 256 < n
    · have h256I : (256 : Int) < (n : Int) := by omega
      have HC := (show Hid _ from codeB_long (ws := ws) (by omega))
      clear hB hn
      go_enter Tryz.func95, Tryz.ntmps95
      go_wp2
      go_ret2
      exact made_no 0 HC.out
    · have h256I : ¬ (256 : Int) < (n : Int) := by omega
      obtain ⟨k, hk⟩ : ∃ k, n = k + 1 := ⟨n - 1, by omega⟩
      have hk1 : (n : Int) - 1 = (k : Int) := by omega
      have hkn : (k : Int) < (n : Int) := by omega
      obtain rfl := hB.here (i := k) (by omega)
      have c0 := hB.cells k (by omega)
      have hx256 := hB.lt k
      obtain ⟨x, hx⟩ : ∃ x, x = ws[k]?.getD 0 := ⟨_, rfl⟩
      have hlast : wt ws (ws.length - 1) = x := by unfold wt; rw [hx]; congr 2; omega
      rw [← hx] at c0 hx256
      have HS := (show Hid (∀ u : Unit, Calls Tryz.prog 101 _ w _) from fun _ => sumOfW_any _ cap gb off ws w hB (by omega))
      rw [← hn] at HS
      by_cases hx0 : x = 0
      · have HC := (show Hid _ from codeB_last (ws := ws) (by rw [hlast]; exact hx0))
        subst hx0
        clear hB hn hk hlast hx
        go_enter Tryz.func95, Tryz.ntmps95
        go_wp2
        go_ret2
        exact made_no 0 HC.out
      · have hxb : ((x : Int) == 0) = false := by rw [beq_eq_false_iff_ne]; omega
        have hxI : (x : Int) < 256 := by omega
        have HL := (show Hid (wt ws (ws.length - 1) ≠ 0 ∧ n = k + 1) from ⟨by rw [hlast]; exact hx0, hk⟩)
        clear hB hn hk hlast hx hx0
        go_enter Tryz.func95, Tryz.ntmps95
        cases hok : okW ws with
        | false =>
          have HC := (show Hid _ from codeB_ok (ws := ws) hok)
          have HS2 := (show Hid (Calls Tryz.prog 101 #[.slice (some ⟨gb, off, none⟩) n cap] w fun e w' => e = .returned (.tuple #[.int .i64 0, .bool false]) ∧ w' = w) from (HS.out ()).mono (by
            rintro e w' ⟨h, rfl⟩
            rw [hok] at h
            rcases h with ⟨h, _⟩ | ⟨_, rfl⟩
            · cases h
            · exact ⟨rfl, rfl⟩))
          clear HS hok
          go_wp2_with (go_at_call 101; refine HS2.out.mono ?_; rintro e w' ⟨rfl, rfl⟩)
          go_ret2
          exact made_no 0 HC.out
        | true =>
          have HS2 := (show Hid (Calls Tryz.prog 101 #[.slice (some ⟨gb, off, none⟩) n cap] w fun e w' => e = .returned (.tuple #[.int .i64 ((sumW ws ws.length : Nat) : Int), .bool true]) ∧ w' = w) from (HS.out ()).mono (by
            rintro e w' ⟨h, rfl⟩
            rw [hok] at h
            rcases h with ⟨_, rfl⟩ | ⟨h, _⟩
            · rw [HN.out]; exact ⟨rfl, rfl⟩
            · cases h))
          have HOK := (show Hid (okW ws = true) from hok)
          have hsb := sumW_le ws ws.length (of_decide_eq_true hok)
          have hs0 : 0 < sumW ws ws.length := by
            have h1 := sumN_ge (fun j => shN (wt ws j)) ws.length (ws.length - 1) (by have := HN.out; omega)
            have h2 : 0 < shN (wt ws (ws.length - 1)) := by rw [shN_pos _ HL.out.1]; exact Nat.two_pow_pos _
            unfold sumW
            omega
          have hsS : sumW ws ws.length < 16777216 := by have := HN.out; omega
          have HCB := (show Hid (codeB ws = decide (sumW ws ws.length = 2 ^ (lenN (sumW ws ws.length) - 1) ∧ lenN (sumW ws ws.length) - 1 ≤ 11 ∧ 2 ≤ onesW ws ws.length)) from by
            have hnn := HN.out
            unfold codeB
            rw [Bool.eq_iff_iff, decide_eq_true_iff, decide_eq_true_iff]
            exact ⟨fun h => h.2.2.2.2, fun h => ⟨by omega, by omega, HL.out.1, of_decide_eq_true hok, h⟩⟩)
          have HCM := (show Hid (codeB ws = true → codeM ws = lenN (sumW ws ws.length) - 1) from fun h => by unfold codeM; rw [if_pos h])
          obtain ⟨q1, q2, q3⟩ := lenN_pos (sumW ws ws.length) (by omega)
          have hl18 : lenN (sumW ws ws.length) ≤ 24 := lenN_le _ _ (by omega)
          have HLN := (show Hid (∀ w : World, _) from fun w => len_big _ hsS w)
          generalize sumW ws ws.length = S at *
          obtain ⟨L1, hL1⟩ : ∃ L1, L1 = lenN S := ⟨_, rfl⟩
          rw [← hL1] at HLN HCB HCM hl18 q3
          obtain ⟨l, hl⟩ : ∃ l, l = L1 - 1 := ⟨_, rfl⟩
          have hl1 : (L1 : Int) - 1 = (l : Int) := by omega
          rw [← hl] at HCB HCM
          have hSI : (S : Int) < 16777216 := by omega
          have hlI : (L1 : Int) ≤ 24 := by omega
          clear HS hok hsb q1 q2 q3 hl hL1
          by_cases h11 : l ≤ 11
          · have h11I : ¬ (11 : Int) < (l : Int) := by omega
            have hp : 2 ^ l ≤ 2048 := Nat.pow_le_pow_right (n := 2) (j := 11) (by omega) h11
            have hpI : wrap64 ((2 : Int) ^ l) = ((2 ^ l : Nat) : Int) := by
              have e : (2 : Int) ^ l = ((2 ^ l : Nat) : Int) := by simp
              rw [e]
              generalize 2 ^ l = y at hp
              unfold wrap64; omega
            generalize 2 ^ l = P at *
            by_cases hSP : S = P
            · subst hSP
              have hne : ((S : Int) != (S : Int)) = false := by simp
              go_wp2_with (go_at_call 101; refine HS2.out.mono ?_; rintro e w' ⟨rfl, rfl⟩)
              refine (HLN.out _).mono ?_
              rintro e w' ⟨rfl, rfl⟩
              have H11 := (show Hid _ from h11)
              clear hSI hp hs0 hsS hk1 hkn hxb h2I h256I hlI h48 hl18 hx256 hxI h11 c0 hnI
              go_wp2_with fail
              go_loop [6, 46] (fun v6 v46 => ∃ i : Nat, v46 = .int .i64 (i : Int) ∧ v6 = .int .i64 ((onesW ws i : Nat) : Int) ∧ i ≤ n) (fun _ v46 => n - (intOf v46).toNat)
              case atStart => exact ⟨0, rfl, rfl, Nat.zero_le _⟩
              case round =>
                clear hne hpI
                have h256I : (n : Int) ≤ 256 := by omega
                obtain ⟨i, rfl, rfl, hi⟩ := hrel
                have hob := onesW_le ws i
                have hoI : ((onesW ws i : Nat) : Int) ≤ 256 := by omega
                by_cases hlt : i < n
                · have hix : i < ws.length := by have := HN.out; omega
                  have c1 := HB.out.cells i hix
                  have hx256 := HB.out.lt i
                  have HO := (show Hid (onesW ws (i + 1) = onesW ws i + (if ws[i]?.getD 0 = 1 then 1 else 0)) from rfl)
                  have hltI : (i : Int) < (n : Int) := by omega
                  clear hob
                  generalize ws[i]?.getD 0 = y at *
                  generalize onesW ws i = oi at *
                  have hyI : (y : Int) < 256 := by omega
                  by_cases hy1 : y = 1
                  · have hyb : ((y : Int) == 1) = true := by simp [hy1]
                    have HY := (show Hid _ from hy1)
                    clear hy1
                    go_wp2_with fail
                    go_round
                    case rel => exact ⟨i + 1, by go_num, by rw [HO.out, if_pos HY.out]; go_num, by omega⟩
                    case measure => simp [intOf]; omega
                  · have hyb : ((y : Int) == 1) = false := by rw [beq_eq_false_iff_ne]; omega
                    go_wp2_with fail
                    go_round
                    case rel => exact ⟨i + 1, by go_num, by rw [HO.out, if_neg hy1]; go_num, by omega⟩
                    case measure => simp [intOf]; omega
                · obtain rfl : i = n := by omega
                  have hltI : ¬ (i : Int) < (i : Int) := by omega
                  have HO := (show Hid (codeB ws = decide (2 ≤ onesW ws i)) from by
                    rw [HCB.out, HN.out, Bool.eq_iff_iff, decide_eq_true_iff, decide_eq_true_iff]
                    exact ⟨fun h => h.2.2, fun h => ⟨trivial, H11.out, h⟩⟩)
                  clear hob
                  generalize onesW ws i = oi at *
                  by_cases h2o : 2 ≤ oi
                  · have h2I : (2 : Int) ≤ (oi : Int) := by omega
                    go_wp2_with fail
                    go_ret2
                    have hcb : codeB ws = true := by rw [HO.out]; exact decide_eq_true h2o
                    exact ⟨l, by rw [hcb]; rfl, fun h => by rw [HCM.out h], rfl⟩
                  · have h2I : ¬ (2 : Int) ≤ (oi : Int) := by omega
                    go_wp2_with fail
                    go_ret2
                    exact made_no l (by rw [HO.out]; exact decide_eq_false h2o)
            · have hne : ((S : Int) != (P : Int)) = true := by simp; omega
              have HC := (show Hid (codeB ws = false) from by rw [HCB.out]; exact decide_eq_false (fun h => hSP h.1))
              go_wp2_with (first | (go_at_call 101; refine HS2.out.mono ?_; rintro e w' ⟨rfl, rfl⟩) | (go_at_call 92; refine (HLN.out _).mono ?_; rintro e w' ⟨rfl, rfl⟩))
              go_ret2
              exact made_no 0 HC.out
          · have h11I : (11 : Int) < (l : Int) := by omega
            have HC := (show Hid (codeB ws = false) from by rw [HCB.out]; exact decide_eq_false (fun h => h11 h.2.1))
            go_wp2_with (first | (go_at_call 101; refine HS2.out.mono ?_; rintro e w' ⟨rfl, rfl⟩) | (go_at_call 92; refine (HLN.out _).mono ?_; rintro e w' ⟨rfl, rfl⟩))
            go_ret2
            exact made_no 0 HC.out

end Go.Proofs.YtnjilcokkhodmaaGreatDoor
