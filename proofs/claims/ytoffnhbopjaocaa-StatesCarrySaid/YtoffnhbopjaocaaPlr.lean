/-
  The statement 'for k, state := range places(..)': its body is asked for the places alone, in their order.
-/
import Derived.Test.YtoffnhbopjaocaaPlc
namespace Go.Proofs.Ytoffnhbopjaocaa
open Go.RowKit Go.Shelf

/-- How a round may end: it goes on to the next one, or it leaves the loop. -/
def goesOn (B : Nat) (J : World → Prop) (X : Code → World → Prop) (W : World) : Exit → Act → World → Prop
  | .normal, _, V => KeepsFrom B W V ∧ J V
  | .ret, _, V => KeepsFrom B W V ∧ X .ret V
  | .exit i, _, V => KeepsFrom B W V ∧ X (.exit i) V
  | _, _, _ => False

theorem range_places {n : Nat} {g : Operand} {ps : Array Tmp} {assign body : Code} {Q : Exit → Act → World → Prop} {a : Act} {w : World} (hn : 3 ≤ n) (Bs Bh S H v : Nat) (ho : Odd S v) (hS : S ≤ 4096) (hH : H ≤ S)
    (hg : a.eval g = .func (.func 71) #[] #[.pointer (some ⟨Bs, 0, none⟩), .pointer (some ⟨Bh, 0, none⟩)]) (hps : ps.size = 2)
    (I : Nat → World → Prop) (X : Code → World → Prop) (A : Nat → Act → World → Prop) (hI : OwnFrom w.heap.size I) (hX : OwnFrom w.heap.size X) (hA : ∀ k a', OwnFrom w.heap.size (fun (_ : Unit) V => A k a' V)) (h0 : I 0 w) (hIB : ∀ k V, I k V → PBox Bs Bh S H V)
    (hassign : ∀ k V (K : Act → World → Prop), k < H → I k V → (∀ a' V', KeepsFrom w.heap.size V V' → I k V' → A k a' V' → K a' V') →
      assign.wpIn (Fence.wide.inRound (w.heap.size + 1)) (n - 1 - 1) Try.prog (Exit.then K (fun _ _ _ => False)) { tmps := (ps.zip (placeV S H k)).foldl (fun t (p, v) => t.setIfInBounds p v) a.tmps, defers := [] } V)
    (hbody : ∀ k a' V, k < H → I k V → A k a' V → body.wpIn (Fence.wide.inRound (w.heap.size + 1)) (n - 1 - 1) Try.prog (goesOn w.heap.size (I (k + 1)) X V) a' V)
    (hdone : ∀ V, I H V → V.heap[w.heap.size]? = some (.deferred (some [])) → Q .normal { a with defers := { target := .collected w.heap.size, args := #[] } :: a.defers } V)
    (hstop : ∀ j V, X j V → V.heap[w.heap.size]? = some (.deferred (some [])) → j.wpIn Fence.wide n Try.prog Q { a with defers := { target := .collected w.heap.size, args := #[] } :: a.defers } V) :
    (Code.rangeFunc g ps assign body).wpIn Fence.wide n Try.prog Q a w := by
  refine wpIn_rangeFunc fun fn hfn => ?_
  -- the loop's record
  obtain ⟨mk, hmk⟩ : ∃ mk : LoopState → Option Code → Obj, mk = fun st pe => .loop { state := st, pending := pe, fn, tmps := a.tmps, params := ps, assign, body, defers := w.heap.size } := ⟨_, rfl⟩
  have mkc : ∀ st pe, (mk st pe).isCells = false := fun st pe => by rw [hmk]; rfl
  obtain ⟨V1, hV1⟩ : ∃ V1, V1 = (w.alloc (.deferred (some []))).alloc (mk .ready none) := ⟨_, rfl⟩
  have hsz : (w.alloc (.deferred (some []))).heap.size = w.heap.size + 1 := World.size_alloc _ _
  have hrec : V1.heap[w.heap.size + 1]? = some (mk .ready none) := by rw [hV1, ← hsz]; exact World.alloc_heap_new _ _
  have hdef : V1.heap[w.heap.size]? = some (.deferred (some [])) := by rw [hV1]; exact alloc_far (World.alloc_heap_new w _) _
  have hI1 : I 0 V1 := by rw [hV1]; exact hI.alloc _ (hI.alloc _ h0)
  refine ⟨w.heap.size + 1, [{ target := .collected w.heap.size, args := #[] }], V1, { target := .fn (.func 71) #[.pointer (some ⟨Bs, 0, none⟩), .pointer (some ⟨Bh, 0, none⟩)], args := #[.func (.yield (w.heap.size + 1)) #[] #[]] }, V1, 71,
    #[.func (.yield (w.heap.size + 1)) #[] #[], .pointer (some ⟨Bs, 0, none⟩), .pointer (some ⟨Bh, 0, none⟩)], V1, ?_, ?_, fun _ _ => trivial, ?_, fun _ => by omega, ?_⟩
  · rw [hV1, hmk]; exact run_enterLoop_outer _ _ _ _ _
  · simp only [resolve, hg]
    simp [go_sem]
  · simp [invoke, go_sem]
  · refine (places1_in Fence.wide (n - 1) trivial rfl (by omega) (w.heap.size + 1) Bs Bh S H v ho hS hH
      (fun k V => I k V ∧ V.heap[w.heap.size + 1]? = some (mk .ready none) ∧ V.heap[w.heap.size]? = some (.deferred (some [])))
      (fun V => ∃ j, X j V ∧ V.heap[w.heap.size + 1]? = some (mk .done (some j)) ∧ V.heap[w.heap.size]? = some (.deferred (some [])))
      (fun k V h => hIB k V h.1) ?_ V1 ⟨hI1, hrec, hdef⟩).mono ?_
    · rintro k V hk ⟨hi, hl, hd⟩
      have hy := run_yield (P := Try.prog) (args := placeV S H k) (by rw [hmk] at hl; exact hl) (by simp [hps, placeV])
      refine ⟨fn, _, assign, body, hy, roundIn_of_wpIn hfn (hassign k V _ hk hi fun a' V2 hkf hi2 hax => ?_)⟩
      have hl2 := hkf.same _ _ (Nat.le_succ _) hl (mkc _ _)
      have hd2 := hkf.same _ _ (Nat.le_refl _) hd rfl
      have hlt : w.heap.size + 1 < V2.heap.size := obj_lt hl2
      have hbr := run_beginRound (P := Try.prog) (by rw [hmk] at hl2; exact hl2) rfl
      refine ⟨_, hbr, ?_⟩
      obtain ⟨V3, hV3⟩ : ∃ V3, V3 = V2.putObj (w.heap.size + 1) (mk .busy none) := ⟨_, rfl⟩
      have hl3 : V3.heap[w.heap.size + 1]? = some (mk .busy none) := by rw [hV3]; exact World.putObj_heap_same hlt
      have hd3 : V3.heap[w.heap.size]? = some (.deferred (some [])) := by rw [hV3]; exact (World.putObj_heap_other (by omega)).trans hd2
      have hi3 : I k V3 := by rw [hV3]; exact hI.putObj _ hi2 (Nat.le_succ _) hl2 (mkc _ _)
      have hx3 : A k a' V3 := by rw [hV3]; exact (hA k a').putObj (s := ()) _ hax (Nat.le_succ _) hl2 (mkc _ _)
      have hb := hbody k a' V3 hk hi3 hx3
      rw [hV3, hmk] at hb
      refine wpIn_mono hb ?_
      -- however the round ends, the record is turned
      have fin : ∀ (j : Option Code) (V4 : World), KeepsFrom w.heap.size V3 V4 → (Instr.endRound (w.heap.size + 1) j).run Try.prog V4 = .ok (.bool j.isNone) (V4.putObj (w.heap.size + 1) (mk (if j.isNone then .ready else .done) j)) ∧
          V4.heap[w.heap.size + 1]? = some (mk .busy none) ∧ (V4.putObj (w.heap.size + 1) (mk (if j.isNone then .ready else .done) j)).heap[w.heap.size + 1]? = some (mk (if j.isNone then .ready else .done) j) ∧
          (V4.putObj (w.heap.size + 1) (mk (if j.isNone then .ready else .done) j)).heap[w.heap.size]? = some (.deferred (some [])) := by
        intro j V4 h4
        have hl4 := h4.same _ _ (Nat.le_succ _) hl3 (mkc _ _)
        have hr := run_endRound (P := Try.prog) j (by rw [hmk] at hl4; exact hl4)
        refine ⟨?_, hl4, World.putObj_heap_same (obj_lt hl4), (World.putObj_heap_other (by omega)).trans (h4.same _ _ (Nat.le_refl _) hd3 rfl)⟩
        rw [hmk]; exact hr
      intro e a4 V4 hp
      have hp' : goesOn w.heap.size (I (k + 1)) X V3 e a4 V4 := by rw [hV3, hmk]; exact hp
      clear hp hb
      cases e with
      | normal =>
        obtain ⟨r1, r2, r3, r4⟩ := fin none V4 hp'.1
        exact ⟨_, _, r1, .inl ⟨rfl, hI.putObj _ hp'.2 (Nat.le_succ _) r2 (mkc _ _), r3, r4⟩⟩
      | ret =>
        obtain ⟨r1, r2, r3, r4⟩ := fin (some .ret) V4 hp'.1
        exact ⟨_, _, r1, .inr ⟨rfl, .ret, hX.putObj _ hp'.2 (Nat.le_succ _) r2 (mkc _ _), r3, r4⟩⟩
      | exit i =>
        obtain ⟨r1, r2, r3, r4⟩ := fin (some (.exit i)) V4 hp'.1
        exact ⟨_, _, r1, .inr ⟨rfl, .exit i, hX.putObj _ hp'.2 (Nat.le_succ _) r2 (mkc _ _), r3, r4⟩⟩
      | goto t => exact hp'.elim
      | panic ch => exact hp'.elim
      | outgrown => exact hp'.elim
    · rintro e V ⟨⟨v, rfl⟩, (⟨hi, hl, hd⟩ | ⟨j, hj, hl, hd⟩)⟩
      · have hr := run_endLoop (P := Try.prog) (by rw [hmk] at hl; exact hl) (by simp)
        exact ⟨none, _, hr, hdone _ (hI.putObj _ hi (Nat.le_succ _) hl (mkc _ _)) ((World.putObj_heap_other (by omega)).trans hd)⟩
      · have hr := run_endLoop (P := Try.prog) (by rw [hmk] at hl; exact hl) (by simp)
        exact ⟨some j, _, hr, hstop j _ (hX.putObj _ hj (Nat.le_succ _) hl (mkc _ _)) ((World.putObj_heap_other (by omega)).trans hd)⟩

end Go.Proofs.Ytoffnhbopjaocaa
