/-
  push of a writer: one bit behind.
-/
import Derived.Test.YtdkjciilhlhagaaNew
import Derived.BigRegion
import Derived.Deep.RegionLaw
namespace Go.Proofs.Ytdkjciilhlhagaa
open Go.RowKit Go.Shelf
set_option linter.unusedVariables false

theorem shl_or_u8 (c b q : Nat) (hc : c < 256) (hb : b < 2) (hq : q < 8) : bits .or .u8 (c : Int) ((b : Int) * 2 ^ q % 256) = ((c ||| b * 2 ^ q : Nat) : Int) := by
  have h1 : ((b : Nat) : Int) * 2 ^ q = ((b * 2 ^ q : Nat) : Int) := by simp
  have h2 : b * 2 ^ q < 256 := by
    have h3 : b * 2 ^ q ≤ 1 * 2 ^ q := Nat.mul_le_mul_right _ (by omega)
    have h4 : 2 ^ q ≤ 2 ^ 7 := Nat.pow_le_pow_right (by omega) (by omega)
    omega
  rw [h1, ← u8_or_nat _ _ hc h2]
  congr 1
  omega

theorem set_last (bs : List Nat) (b : Nat) : (bs ++ [0]).set bs.length b = bs ++ [b] := by simp

/-- A store into a row that is owned. -/
theorem owns_set {w : World} {base : Nat} {g n cap : Nat} {bs : List Nat} (h : w.ownsRow base 5 1 (.slice (some ⟨g, 0, none⟩) n cap) n (u8s bs)) (i x : Nat) : (w.setCell ⟨g, i, none⟩ (.int .u8 (x : Int))).ownsRow base 5 1 (.slice (some ⟨g, 0, none⟩) n cap) n (u8s (bs.set i x)) := by
  obtain ⟨h1, h2⟩ := h
  refine ⟨by simpa [u8s] using h1, ?_⟩
  rcases h2 with ⟨e, _⟩ | ⟨g', cap', cur, e, hb, hg, hr1, hr2, hr3, hr4⟩
  · cases e
  · simp only [Value.slice.injEq, Option.some.injEq, Addr.mk.injEq] at e
    obtain ⟨⟨rfl, _⟩, _, rfl⟩ := e
    refine .inr ⟨g, cap, cur.setIfInBounds i (.int .u8 (x : Int)), rfl, hb, set_obj hg i _, hr1, hr2, by simpa using hr3, ?_⟩
    simp only [Array.toList_setIfInBounds, List.take_set, hr4, u8s, List.map_set]

theorem grownBy_set (W : World) (b i : Nat) (v : Value) : W.grownBy (W.setCell ⟨b, i, none⟩ v) (some b) :=
  ⟨rfl, rfl, rfl, by simp [World.setCell], fun k _ hk => Below.heap_setCell _ _ _ k (fun e => hk (by rw [e]))⟩

theorem owns_drew {w : World} {base e size n : Nat} {v : Value} {xs : List Value} (h : w.ownsRow base e size v n xs) : w.drew.ownsRow base e size v n xs := h
/-- A store into another block. -/
theorem owns_far {w : World} {base e size n g cap : Nat} {xs : List Value} (h : w.ownsRow base e size (.slice (some ⟨g, 0, none⟩) n cap) n xs) {b : Nat} (hne : g ≠ b) (i : Nat) (u : Value) : (w.setCell ⟨b, i, none⟩ u).ownsRow base e size (.slice (some ⟨g, 0, none⟩) n cap) n xs :=
  h.kept (grownBy_set w b i u) (.inr (fun e => hne (by simpa [Value.ownBlock] using e)))

theorem owns_ne {w : World} {base n e t : Nat} {v : Value} {xs : List Value} {wb : Nat} {cs : Array Value} (h : w.ownsRow base e 1 v n xs) (ho : w.heap[wb]? = some (.cells cs t (0, 0))) (hte : t ≠ e) : v.ownBlock ≠ some wb := by
  intro hv
  rcases h.2 with ⟨rfl, _⟩ | ⟨g, cap, cur, rfl, _, hg, _⟩
  · cases hv
  · obtain rfl : g = wb := by simpa [Value.ownBlock] using hv
    rw [ho] at hg; simp at hg; exact hte hg.2

set_option maxHeartbeats 1000000 in
/-- A bit into a byte that is not whole then. -/
theorem push_small (wb q c b : Nat) (v : Value) (hq : q < 7) (hc : c < 256) (hb : b < 2) (w : World) (ho : w.heap[wb]? = some (.cells #[v, .int .u8 (c : Int), .int .i64 (q : Int)] 41 (0, 0))) :
    Calls Try.prog 22 #[.pointer (some ⟨wb, 0, none⟩), .int .u8 (b : Int)] w fun e w' => e = .returned (.tuple #[]) ∧ w'.heap[wb]? = some (.cells #[v, .int .u8 ((c ||| b * 2 ^ q : Nat) : Int), .int .i64 ((q + 1 : Nat) : Int)] 41 (0, 0)) ∧ Keep (fun k => k = wb) w w' := by
  have hc1 : w.cell? ⟨wb, 1, none⟩ = some (.int .u8 (c : Int)) := cell_of ho 1
  have hc2 : w.cell? ⟨wb, 2, none⟩ = some (.int .i64 (q : Int)) := cell_of ho 2
  have hf1 := frozen_of ho 1
  have hf2 := frozen_of ho 2
  have hor := shl_or_u8 c b q hc hb (by omega)
  have hmx : Try.prog.follows .mixedOrders = true := by kernel_rfl
  have h8 : ((q : Int) + 1 == 8) = false := by simp; omega
  go_enter Try.func22, Try.ntmps22
  go_wp2
  go_region
  all_goals
    go_wp2
    go_end0
    refine ⟨rfl, ?_, (((Keep.refl (fun k => k = wb) w).setCell (p := ⟨wb, 1, none⟩) (fun _ => rfl) _).drew).setCell (p := ⟨wb, 2, none⟩) (fun _ => rfl) _⟩
    refine (set_obj (w := (w.setCell _ _).drew) (set_obj ho 1 _) 2 _).trans ?_
    simp

set_option maxHeartbeats 1000000 in
/-- The eighth bit: the byte goes behind the whole ones. -/
theorem push_full (wb c b : Nat) (v : Value) (bs : List Nat) (hc : c < 256) (hb : b < 2) (hbl : bs.length < 140737488355327) (w : World) (ho : w.heap[wb]? = some (.cells #[v, .int .u8 (c : Int), .int .i64 7] 41 (0, 0))) (hrow : w.ownsRow 0 5 1 v bs.length (u8s bs)) :
    Calls Try.prog 22 #[.pointer (some ⟨wb, 0, none⟩), .int .u8 (b : Int)] w fun e w' => e = .returned (.tuple #[]) ∧ ∃ g cap, w'.heap[wb]? = some (.cells #[.slice (some ⟨g, 0, none⟩) (bs.length + 1) cap, .int .u8 0, .int .i64 0] 41 (0, 0)) ∧
      w'.ownsRow 0 5 1 (.slice (some ⟨g, 0, none⟩) (bs.length + 1) cap) (bs.length + 1) (u8s (bs ++ [c ||| b * 2 ^ 7])) ∧ (v.ownBlock = some g ∨ w.heap.size ≤ g) ∧ Keep (fun k => k = wb ∨ v.ownBlock = some k) w w' := by
  obtain ⟨i0, hi, hz0, hz1, hz2⟩ := info_parts info5
  have hc1 : w.cell? ⟨wb, 1, none⟩ = some (.int .u8 (c : Int)) := cell_of ho 1
  have hc2 : w.cell? ⟨wb, 2, none⟩ = some (.int .i64 7) := cell_of ho 2
  have hf1 := frozen_of ho 1
  have hf2 := frozen_of ho 2
  have hor : bits .or .u8 (c : Int) ((b : Int) * 128) = ((c ||| b * 2 ^ 7 : Nat) : Int) := by
    rw [← shl_or_u8 c b 7 hc hb (by omega)]
    congr 1
    omega
  have hmx : Try.prog.follows .mixedOrders = true := by kernel_rfl
  have hvb := owns_ne hrow ho (by decide)
  generalize c ||| b * 2 ^ 7 = d at hor ⊢
  go_enter Try.func22, Try.ntmps22
  go_wp2
  go_region
  go_wp2
  have ho1 : ((w.setCell ⟨wb, 1, none⟩ (.int .u8 (d : Int))).setCell ⟨wb, 2, none⟩ (.int .i64 8)).drew.heap[wb]? = some (.cells #[v, .int .u8 (d : Int), .int .i64 8] 41 (0, 0)) := (set_obj (set_obj ho 1 _) 2 _).trans (by simp)
  have hK1 : Keep (fun k => k = wb) w ((w.setCell ⟨wb, 1, none⟩ (.int .u8 (d : Int))).setCell ⟨wb, 2, none⟩ (.int .i64 8)).drew :=
    (((Keep.refl (fun k => k = wb) w).setCell (p := ⟨wb, 1, none⟩) (fun _ => rfl) _).setCell (p := ⟨wb, 2, none⟩) (fun _ => rfl) _).drew
  generalize ((w.setCell ⟨wb, 1, none⟩ (.int .u8 (d : Int))).setCell ⟨wb, 2, none⟩ (.int .i64 8)).drew = W1 at ho1 hK1 ⊢
  clear hc1 hc2 hf1 hf2
  have hrow1 : W1.ownsRow 0 5 1 v bs.length (u8s bs) := by
    refine ⟨hrow.1, ?_⟩
    rcases hrow.2 with hn | ⟨g, cap, cur, rfl, hb', hg, hr⟩
    · exact .inl hn
    · exact .inr ⟨g, cap, cur, rfl, hb', hK1.obj hg (fun e => hvb (by rw [← e]; rfl)), hr⟩
  have hc0 : W1.cell? ⟨wb, 0, none⟩ = some v := cell_of ho1 0
  have hc1 : W1.cell? ⟨wb, 1, none⟩ = some (.int .u8 (d : Int)) := cell_of ho1 1
  have hwb := obj_lt ho1
  have hmax : bs.length + 1 ≤ maxLen := by unfold maxLen; omega
  obtain ⟨sa, cap0, rfl⟩ := owns_form hrow1
  go_region_law (refine step_append_lies _ rfl (.tmp 33) (.tmp 38) 22 rfl 0 5 i0 (.int .u8 0) 1 1 Try.underlying22 hi hz0 hz1 hz2 rfl (by decide) (.slice sa bs.length cap0) bs.length (u8s bs) (by simp [Act.eval]) (hrow1.alloc _) ⟨W1.heap.size, 0, none⟩ 1 1 [.int .u8 (d : Int)] (by simp [Act.eval]) rfl (World.news_of_block (World.alloc_heap_new W1 _)) (by simp [Value.oneCell']) (by decide) hmax (by omega) (Nat.zero_le _) (W1.heap.size + 1) (by simp) ?_; intro g cap w1 hown hgrow hat hlt; have hob1 := (hgrow.block wb (by simp; omega) (Ne.symm hvb)).trans (alloc_far ho1 _); have hcb := cell_of hob1 0; have hfb := frozen_of hob1 0)
  all_goals
    have hne : g ≠ wb := by
      rintro rfl
      rcases hat with e | e
      · exact hvb e
      · omega
    have ho2 : (w1.setCell ⟨wb, 0, none⟩ (.slice (some ⟨g, 0, none⟩) (bs.length + 1) cap)).heap[wb]? = some (.cells #[.slice (some ⟨g, 0, none⟩) (bs.length + 1) cap, .int .u8 (d : Int), .int .i64 8] 41 (0, 0)) := (set_obj hob1 0 _).trans (by simp)
    have hown2 : (w1.setCell ⟨wb, 0, none⟩ (.slice (some ⟨g, 0, none⟩) (bs.length + 1) cap)).ownsRow 0 5 1 (.slice (some ⟨g, 0, none⟩) (bs.length + 1) cap) (bs.length + 1) (u8s (bs ++ [d])) := by
      have := owns_far hown hne 0 (.slice (some ⟨g, 0, none⟩) (bs.length + 1) cap)
      simpa [u8s] using this
    have hk2 : Keep (fun k => k = wb ∨ (Value.slice sa bs.length cap0).ownBlock = some k) w (w1.setCell ⟨wb, 0, none⟩ (.slice (some ⟨g, 0, none⟩) (bs.length + 1) cap)) :=
      ((((hK1.mono (T := fun k => k = wb ∨ (Value.slice sa bs.length cap0).ownBlock = some k) (fun _ _ e => .inl e)).alloc _).drew).grown hgrow (fun k e _ => .inr e)).setCell (p := ⟨wb, 0, none⟩) (fun _ => .inl rfl) _
    have hgw : (Value.slice sa bs.length cap0).ownBlock = some g ∨ w.heap.size ≤ g := hat.imp id (fun e => by have := hK1.size; omega)
    generalize w1.setCell ⟨wb, 0, none⟩ (.slice (some ⟨g, 0, none⟩) (bs.length + 1) cap) = W2 at ho2 hown2 hk2 ⊢
    clear hcb hfb hob1 hgrow hown hrow1 ho1 hc0 hc1 hrow ho hz0 hz1 hz2 hi hK1
    have hd1 : W2.cell? ⟨wb, 1, none⟩ = some (.int .u8 (d : Int)) := cell_of ho2 1
    have hd2 : W2.cell? ⟨wb, 2, none⟩ = some (.int .i64 8) := cell_of ho2 2
    have hf1 := frozen_of ho2 1
    have hf2 := frozen_of ho2 2
    go_wp2
    go_end0
    refine ⟨rfl, g, cap, (set_obj (set_obj ho2 1 _) 2 _).trans (by simp), owns_far (owns_far hown2 hne 1 _) hne 2 _, hgw, (hk2.setCell (p := ⟨wb, 1, none⟩) (fun _ => .inl rfl) _).setCell (p := ⟨wb, 2, none⟩) (fun _ => .inl rfl) _⟩

end Go.Proofs.Ytdkjciilhlhagaa
