/-
  push of a writer: one bit behind.
-/
import Derived.Test.YtoffnhbopjaocaaTlNew
import Derived.BigRegion
import Derived.Deep.RegionLaw
namespace Go.Proofs.Ytoffnhbopjaocaa.Tl
open Go.RowKit Go.Shelf
set_option linter.unusedVariables false
set_option maxHeartbeats 1000000 in
/-- A bit into a byte that is not whole then. -/
theorem push_small (wb q c b : Nat) (v : Value) (hq : q < 7) (hc : c < 256) (hb : b < 2) (w : World) (ho : w.heap[wb]? = some (.cells #[v, .int .u8 (c : Int), .int .i64 (q : Int)] 45 (0, 0))) :
    Calls Try.prog 51 #[.pointer (some ⟨wb, 0, none⟩), .int .u8 (b : Int)] w fun e w' => e = .returned (.tuple #[]) ∧ w'.heap[wb]? = some (.cells #[v, .int .u8 ((c ||| b * 2 ^ q : Nat) : Int), .int .i64 ((q + 1 : Nat) : Int)] 45 (0, 0)) ∧ Keep (fun k => k = wb) w w' := by
  have hc1 : w.cell? ⟨wb, 1, none⟩ = some (.int .u8 (c : Int)) := cell_of ho 1
  have hc2 : w.cell? ⟨wb, 2, none⟩ = some (.int .i64 (q : Int)) := cell_of ho 2
  have hf1 := frozen_of ho 1
  have hf2 := frozen_of ho 2
  have hor := shl_or_u8 c b q hc hb (by omega)
  have hmx : Try.prog.follows .mixedOrders = true := by kernel_rfl
  have h8 : ((q : Int) + 1 == 8) = false := by simp; omega
  go_enter Try.func51, Try.ntmps51
  go_wp2
  go_region
  all_goals
    go_wp2
    go_end0
    refine ⟨rfl, ?_, (((Keep.refl (fun k => k = wb) w).setCell (p := ⟨wb, 1, none⟩) (fun _ => rfl) _).drew).setCell (p := ⟨wb, 2, none⟩) (fun _ => rfl) _⟩
    refine (set_obj (w := (w.setCell _ _).drew) (set_obj ho 1 _) 2 _).trans ?_
    simp

set_option maxHeartbeats 1000000 in
/-- The eighth bit: the byte goes behind the whole ones. -/
theorem push_full (wb c b : Nat) (v : Value) (bs : List Nat) (hc : c < 256) (hb : b < 2) (hbl : bs.length < 140737488355327) (w : World) (ho : w.heap[wb]? = some (.cells #[v, .int .u8 (c : Int), .int .i64 7] 45 (0, 0))) (hrow : w.ownsRow 0 5 1 v bs.length (u8s bs)) :
    Calls Try.prog 51 #[.pointer (some ⟨wb, 0, none⟩), .int .u8 (b : Int)] w fun e w' => e = .returned (.tuple #[]) ∧ ∃ g cap, w'.heap[wb]? = some (.cells #[.slice (some ⟨g, 0, none⟩) (bs.length + 1) cap, .int .u8 0, .int .i64 0] 45 (0, 0)) ∧
      w'.ownsRow 0 5 1 (.slice (some ⟨g, 0, none⟩) (bs.length + 1) cap) (bs.length + 1) (u8s (bs ++ [c ||| b * 2 ^ 7])) ∧ (v.ownBlock = some g ∨ w.heap.size ≤ g) ∧ Keep (fun k => k = wb ∨ v.ownBlock = some k) w w' := by
  obtain ⟨i0, hi, hz0, hz1, hz2⟩ := info_parts info5
  have hc1 : w.cell? ⟨wb, 1, none⟩ = some (.int .u8 (c : Int)) := cell_of ho 1
  have hc2 : w.cell? ⟨wb, 2, none⟩ = some (.int .i64 7) := cell_of ho 2
  have hf1 := frozen_of ho 1
  have hf2 := frozen_of ho 2
  have hor : bits .or .u8 (c : Int) ((b : Int) * 128) = ((c ||| b * 2 ^ 7 : Nat) : Int) := by
    have h := shl_or_u8 c b 7 hc hb (by omega)
    rw [show (b : Int) * 2 ^ 7 % 256 = (b : Int) * 128 from by omega] at h
    exact h
  have hmx : Try.prog.follows .mixedOrders = true := by kernel_rfl
  have hvb := owns_ne hrow ho (by decide)
  generalize c ||| b * 2 ^ 7 = d at hor ⊢
  go_enter Try.func51, Try.ntmps51
  go_wp2
  go_region
  go_wp2
  have ho1 : ((w.setCell ⟨wb, 1, none⟩ (.int .u8 (d : Int))).setCell ⟨wb, 2, none⟩ (.int .i64 8)).drew.heap[wb]? = some (.cells #[v, .int .u8 (d : Int), .int .i64 8] 45 (0, 0)) := (set_obj (set_obj ho 1 _) 2 _).trans (by simp)
  have hK1 : Keep (fun k => k = wb) w ((w.setCell ⟨wb, 1, none⟩ (.int .u8 (d : Int))).setCell ⟨wb, 2, none⟩ (.int .i64 8)).drew :=
    (((Keep.refl (fun k => k = wb) w).setCell (p := ⟨wb, 1, none⟩) (fun _ => rfl) _).setCell (p := ⟨wb, 2, none⟩) (fun _ => rfl) _).drew
  generalize ((w.setCell ⟨wb, 1, none⟩ (.int .u8 (d : Int))).setCell ⟨wb, 2, none⟩ (.int .i64 8)).drew = W1 at ho1 hK1 ⊢
  clear hc1 hc2 hf1 hf2
  have hrow1 : W1.ownsRow 0 5 1 v bs.length (u8s bs) := by
    refine ⟨hrow.1, ?_⟩
    rcases hrow.2 with hn | ⟨g, cap, cur, rfl, hb', hg, hr⟩
    · exact .inl hn
    · exact .inr ⟨g, cap, cur, rfl, hb', hK1.obj hg (fun e => hvb (by rw [← e]; rfl)), hr⟩
  have hc0 : W1.cell? ⟨wb, 0, none⟩ = some v := cell_of ho1 0
  have hc1 : W1.cell? ⟨wb, 1, none⟩ = some (.int .u8 (d : Int)) := cell_of ho1 1
  have hwb := obj_lt ho1
  have hmax : bs.length + 1 ≤ maxLen := by unfold maxLen; omega
  obtain ⟨sa, cap0, rfl⟩ := owns_form hrow1
  go_region_law (refine step_append_lies _ rfl (.tmp 33) (.tmp 38) 23 rfl 0 5 i0 (.int .u8 0) 1 1 Try.underlying23 hi hz0 hz1 hz2 rfl (by decide) (.slice sa bs.length cap0) bs.length (u8s bs) (by simp [Act.eval]) (hrow1.alloc _) ⟨W1.heap.size, 0, none⟩ 1 1 [.int .u8 (d : Int)] (by simp [Act.eval]) rfl (World.news_of_block (World.alloc_heap_new W1 _)) (by simp [Value.oneCell']) (by decide) hmax (by omega) (Nat.zero_le _) (W1.heap.size + 1) (by simp) ?_; intro g cap w1 hown hgrow hat hlt; have hob1 := (hgrow.block wb (by simp; omega) (Ne.symm hvb)).trans (alloc_far ho1 _); have hcb := cell_of hob1 0; have hfb := frozen_of hob1 0)
  all_goals
    have hne : g ≠ wb := by
      rintro rfl
      rcases hat with e | e
      · exact hvb e
      · omega
    have ho2 : (w1.setCell ⟨wb, 0, none⟩ (.slice (some ⟨g, 0, none⟩) (bs.length + 1) cap)).heap[wb]? = some (.cells #[.slice (some ⟨g, 0, none⟩) (bs.length + 1) cap, .int .u8 (d : Int), .int .i64 8] 45 (0, 0)) := (set_obj hob1 0 _).trans (by simp)
    have hown2 : (w1.setCell ⟨wb, 0, none⟩ (.slice (some ⟨g, 0, none⟩) (bs.length + 1) cap)).ownsRow 0 5 1 (.slice (some ⟨g, 0, none⟩) (bs.length + 1) cap) (bs.length + 1) (u8s (bs ++ [d])) := by
      have := owns_far hown hne 0 (.slice (some ⟨g, 0, none⟩) (bs.length + 1) cap)
      simpa [u8s] using this
    have hk2 : Keep (fun k => k = wb ∨ (Value.slice sa bs.length cap0).ownBlock = some k) w (w1.setCell ⟨wb, 0, none⟩ (.slice (some ⟨g, 0, none⟩) (bs.length + 1) cap)) :=
      ((((hK1.mono (T := fun k => k = wb ∨ (Value.slice sa bs.length cap0).ownBlock = some k) (fun _ _ e => .inl e)).alloc _).drew).grown hgrow (fun k e _ => .inr e)).setCell (p := ⟨wb, 0, none⟩) (fun _ => .inl rfl) _
    have hgw : (Value.slice sa bs.length cap0).ownBlock = some g ∨ w.heap.size ≤ g := hat.imp id (fun e => by have := hK1.size; omega)
    generalize w1.setCell ⟨wb, 0, none⟩ (.slice (some ⟨g, 0, none⟩) (bs.length + 1) cap) = W2 at ho2 hown2 hk2 ⊢
    clear hcb hfb hob1 hgrow hown hrow1 ho1 hc0 hc1 hrow ho hz0 hz1 hz2 hi hK1
    have hd1 : W2.cell? ⟨wb, 1, none⟩ = some (.int .u8 (d : Int)) := cell_of ho2 1
    have hd2 : W2.cell? ⟨wb, 2, none⟩ = some (.int .i64 8) := cell_of ho2 2
    have hf1 := frozen_of ho2 1
    have hf2 := frozen_of ho2 2
    go_wp2
    go_end0
    refine ⟨rfl, g, cap, (set_obj (set_obj ho2 1 _) 2 _).trans (by simp), owns_far (owns_far hown2 hne 1 _) hne 2 _, hgw, (hk2.setCell (p := ⟨wb, 1, none⟩) (fun _ => .inl rfl) _).setCell (p := ⟨wb, 2, none⟩) (fun _ => .inl rfl) _⟩

end Go.Proofs.Ytoffnhbopjaocaa.Tl
