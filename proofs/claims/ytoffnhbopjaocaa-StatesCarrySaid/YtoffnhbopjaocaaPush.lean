/-
  push of a writer: one bit behind.
-/
import Derived.Test.YtoffnhbopjaocaaNew
import Derived.BigRegion
namespace Go.Proofs.Ytoffnhbopjaocaa
open Go.RowKit Go.Shelf

theorem shl_or_u8 (c b q : Nat) (hc : c < 256) (hb : b < 2) (hq : q < 8) : bits .or .u8 (c : Int) ((b : Int) * 2 ^ q % 256) = ((c ||| b * 2 ^ q : Nat) : Int) := by
  have h1 : ((b : Nat) : Int) * 2 ^ q = ((b * 2 ^ q : Nat) : Int) := by simp
  have h2 : b * 2 ^ q < 256 := by
    have h3 : b * 2 ^ q ≤ 1 * 2 ^ q := Nat.mul_le_mul_right _ (by omega)
    have h4 : 2 ^ q ≤ 2 ^ 7 := Nat.pow_le_pow_right (by omega) (by omega)
    omega
  rw [h1, ← u8_or_nat _ _ hc h2]
  congr 1
  omega

theorem set_last (bs : List Nat) (b : Nat) : (bs ++ [0]).set bs.length b = bs ++ [b] := by simp

/-- A store into a row that is owned. -/
theorem owns_set {w : World} {base : Nat} {g n cap : Nat} {bs : List Nat} (h : w.ownsRow base 5 1 (.slice (some ⟨g, 0, none⟩) n cap) n (u8s bs)) (i x : Nat) : (w.setCell ⟨g, i, none⟩ (.int .u8 (x : Int))).ownsRow base 5 1 (.slice (some ⟨g, 0, none⟩) n cap) n (u8s (bs.set i x)) := by
  obtain ⟨h1, h2⟩ := h
  refine ⟨by simpa [u8s] using h1, ?_⟩
  rcases h2 with ⟨e, _⟩ | ⟨g', cap', cur, e, hb, hg, hr1, hr2, hr3, hr4⟩
  · cases e
  · simp only [Value.slice.injEq, Option.some.injEq, Addr.mk.injEq] at e
    obtain ⟨⟨rfl, _⟩, _, rfl⟩ := e
    refine .inr ⟨g, cap, cur.setIfInBounds i (.int .u8 (x : Int)), rfl, hb, set_obj hg i _, hr1, hr2, by simpa using hr3, ?_⟩
    simp only [Array.toList_setIfInBounds, List.take_set, hr4, u8s, List.map_set]

theorem grownBy_set (W : World) (b i : Nat) (v : Value) : W.grownBy (W.setCell ⟨b, i, none⟩ v) (some b) :=
  ⟨rfl, rfl, rfl, by simp [World.setCell], fun k _ hk => Below.heap_setCell _ _ _ k (fun e => hk (by rw [e]))⟩

theorem owns_drew {w : World} {base e size n : Nat} {v : Value} {xs : List Value} (h : w.ownsRow base e size v n xs) : w.drew.ownsRow base e size v n xs := h
/-- A store into another block. -/
theorem owns_far {w : World} {base e size n g cap : Nat} {xs : List Value} (h : w.ownsRow base e size (.slice (some ⟨g, 0, none⟩) n cap) n xs) {b : Nat} (hne : g ≠ b) (i : Nat) (u : Value) : (w.setCell ⟨b, i, none⟩ u).ownsRow base e size (.slice (some ⟨g, 0, none⟩) n cap) n xs :=
  h.kept (grownBy_set w b i u) (.inr (fun e => hne (by simpa [Value.ownBlock] using e)))

theorem owns_ne {w : World} {base n e t : Nat} {v : Value} {xs : List Value} {wb : Nat} {cs : Array Value} (h : w.ownsRow base e 1 v n xs) (ho : w.heap[wb]? = some (.cells cs t (0, 0))) (hte : t ≠ e) : v.ownBlock ≠ some wb := by
  intro hv
  rcases h.2 with ⟨rfl, _⟩ | ⟨g, cap, cur, rfl, _, hg, _⟩
  · cases hv
  · obtain rfl : g = wb := by simpa [Value.ownBlock] using hv
    rw [ho] at hg; simp at hg; exact hte hg.2

set_option maxHeartbeats 1000000 in
/-- A bit behind a byte that is begun. -/
theorem push_old (wb g cap n b : Nat) (bs : List Nat) (hb : b < 2) (hn : n < 1099511627776) (w : World) (ho : w.heap[wb]? = some (.cells #[.slice (some ⟨g, 0, none⟩) bs.length cap, .int .i64 (n : Int)] 61 (0, 0)))
    (hrow : w.ownsRow 0 5 1 (.slice (some ⟨g, 0, none⟩) bs.length cap) bs.length (u8s bs)) (hbs : ∀ j : Nat, bs[j]?.getD 0 < 256) (hlen : n / 8 < bs.length) (hmod : n % 8 ≠ 0) :
    Calls Try.prog 58 #[.pointer (some ⟨wb, 0, none⟩), .int .u8 (b : Int)] w fun e w' => e = .returned (.tuple #[]) ∧ w'.heap[wb]? = some (.cells #[.slice (some ⟨g, 0, none⟩) bs.length cap, .int .i64 ((n + 1 : Nat) : Int)] 61 (0, 0)) ∧
      w'.ownsRow 0 5 1 (.slice (some ⟨g, 0, none⟩) bs.length cap) bs.length (u8s (bs.set (n / 8) (bs[n / 8]?.getD 0 ||| b * 2 ^ (n % 8)))) ∧ Keep (fun k => k = wb ∨ k = g) w w' := by
  have hc0 : w.cell? ⟨wb, 0, none⟩ = some (.slice (some ⟨g, 0, none⟩) bs.length cap) := cell_of ho 0
  have hc1 : w.cell? ⟨wb, 1, none⟩ = some (.int .i64 (n : Int)) := cell_of ho 1
  have hf1 := frozen_of ho 1
  have hne : g ≠ wb := fun e => owns_ne hrow ho (by decide) (by rw [e]; rfl)
  have hcg : w.cell? ⟨g, n / 8, none⟩ = some (.int .u8 ((bs[n / 8]?.getD 0 : Nat) : Int)) := by
    have := hrow.cells (g := g) rfl (n / 8) _ (u8s_at bs _ hlen)
    rwa [add0] at this
  have hfg : w.frozen? ⟨g, n / 8, none⟩ = false := by
    rcases hrow.2 with ⟨e, _⟩ | ⟨g', cap', cur, e, _, hg, _⟩
    · cases e
    · simp only [Value.slice.injEq, Option.some.injEq, Addr.mk.injEq] at e
      obtain ⟨⟨rfl, _⟩, _, rfl⟩ := e
      exact frozen_of hg _
  have hc256 := hbs (n / 8)
  generalize bs[n / 8]?.getD 0 = c at hcg hc256 ⊢
  obtain ⟨q, hq⟩ : ∃ q, n % 8 = q := ⟨_, rfl⟩
  have hq8 : q < 8 := by omega
  have hq0 : 0 < q := by omega
  have h7 : bits .and .i64 (n : Int) 7 = (q : Int) := by rw [← hq]; exact and_seven_i64 n (by omega)
  have hor := shl_or_u8 c b q hc256 hb hq8
  have HQ : Hid (n % 8 = q) := hq
  obtain ⟨d, hd⟩ : ∃ d, n / 8 = d := ⟨_, rfl⟩
  have hdI : (n : Int) / 8 = (d : Int) := by omega
  rw [hd] at hcg hfg hlen ⊢
  rw [HQ.out]
  have hmx : Try.prog.follows .mixedOrders = true := by kernel_rfl
  clear hq hmod hd
  go_enter Try.func58, Try.ntmps58
  go_wp2
  go_region
  go_wp2
  go_end0
  refine ⟨rfl, (set_obj (set_far ho hne.symm d _) 1 _).trans (by simp), owns_drew (owns_far (owns_set hrow d _) hne 1 _), ?_⟩
  exact (((Keep.refl (fun k => k = wb ∨ k = g) w).setCell (p := ⟨g, d, none⟩) (fun _ => .inr rfl) _).setCell (p := ⟨wb, 1, none⟩) (fun _ => .inl rfl) _).drew

set_option maxHeartbeats 1000000 in
/-- A bit at a byte's beginning. -/
theorem push_new (wb n b : Nat) (v : Value) (bs : List Nat) (hb : b < 2) (hn : n < 1099511627776) (w : World) (ho : w.heap[wb]? = some (.cells #[v, .int .i64 (n : Int)] 61 (0, 0)))
    (hrow : w.ownsRow 0 5 1 v bs.length (u8s bs)) (hlen : bs.length = n / 8) (hmod : n % 8 = 0) :
    Calls Try.prog 58 #[.pointer (some ⟨wb, 0, none⟩), .int .u8 (b : Int)] w fun e w' => e = .returned (.tuple #[]) ∧ ∃ g cap, w'.heap[wb]? = some (.cells #[.slice (some ⟨g, 0, none⟩) (bs.length + 1) cap, .int .i64 ((n + 1 : Nat) : Int)] 61 (0, 0)) ∧
      w'.ownsRow 0 5 1 (.slice (some ⟨g, 0, none⟩) (bs.length + 1) cap) (bs.length + 1) (u8s (bs ++ [b])) ∧ (v.ownBlock = some g ∨ w.heap.size ≤ g) ∧ Keep (fun k => k = wb ∨ v.ownBlock = some k) w w' := by
  obtain ⟨i0, hi, hz0, hz1, hz2⟩ := info_parts info5
  have hc0 : w.cell? ⟨wb, 0, none⟩ = some v := cell_of ho 0
  have hc1 : w.cell? ⟨wb, 1, none⟩ = some (.int .i64 (n : Int)) := cell_of ho 1
  have h7 : bits .and .i64 (n : Int) 7 = 0 := by
    have := and_seven_i64 n (by omega)
    rw [hmod] at this; exact this
  have hwb := obj_lt ho
  have hvb := owns_ne hrow ho (by decide)
  have hdI : (n : Int) / 8 = (bs.length : Int) := by omega
  have hmax : bs.length + 1 ≤ maxLen := by unfold maxLen; omega
  have hbl : bs.length < 140737488355327 := by omega
  have hmx : Try.prog.follows .mixedOrders = true := by kernel_rfl
  obtain ⟨sa, cap0, rfl⟩ := owns_form hrow
  have HM : Hid (bs.length = n / 8) := hlen
  clear hlen hmod
  go_enter Try.func58, Try.ntmps58
  go_wp2_with (at_builtin; refine wpList_append_lies _ rfl _ _ 23 rfl 0 5 i0 (.int .u8 0) 1 1 Try.underlying23 hi hz0 hz1 hz2 rfl (by decide) (.slice sa bs.length cap0) bs.length (u8s bs) rfl (hrow.alloc _) ⟨w.heap.size, 0, none⟩ 1 1 [.int .u8 0] rfl rfl (cell_one_new _ _ _) (by simp [Value.oneCell']) (by decide) hmax (by omega) (Nat.zero_le _) (w.heap.size + 1) (by simp) ?_; intro g cap w1 hown hgrow hat hlt; have hob1 := (hgrow.block wb (by simp; omega) (Ne.symm hvb)).trans (alloc_far ho _); have hcb := cell_of hob1 0; have hfb := frozen_of hob1 0)
  have hsz := hgrow.size
  rw [World.size_alloc] at hsz
  have hgwb : g ≠ wb := by
    rintro rfl
    rcases hat with e | e
    · exact hvb e
    · omega
  have ho2 : (w1.setCell ⟨wb, 0, none⟩ (.slice (some ⟨g, 0, none⟩) (bs.length + 1) cap)).heap[wb]? = some (.cells #[.slice (some ⟨g, 0, none⟩) (bs.length + 1) cap, .int .i64 (n : Int)] 61 (0, 0)) := (set_obj hob1 0 _).trans (by simp)
  have hown2 : (w1.setCell ⟨wb, 0, none⟩ (.slice (some ⟨g, 0, none⟩) (bs.length + 1) cap)).ownsRow 0 5 1 (.slice (some ⟨g, 0, none⟩) (bs.length + 1) cap) (bs.length + 1) (u8s (bs ++ [0])) := by
    have := hown.kept (grownBy_set w1 wb 0 (.slice (some ⟨g, 0, none⟩) (bs.length + 1) cap)) (.inr (fun e => hgwb (by simpa [Value.ownBlock] using e)))
    simpa [u8s] using this
  have hk2 : Keep (fun k => k = wb ∨ (Value.slice sa bs.length cap0).ownBlock = some k) w (w1.setCell ⟨wb, 0, none⟩ (.slice (some ⟨g, 0, none⟩) (bs.length + 1) cap)) :=
    (((Keep.refl _ w).alloc _).grown hgrow (fun k e _ => .inr e)).setCell (p := ⟨wb, 0, none⟩) (fun _ => .inl rfl) _
  generalize w1.setCell ⟨wb, 0, none⟩ (.slice (some ⟨g, 0, none⟩) (bs.length + 1) cap) = W2 at ho2 hown2 hk2 ⊢
  have hc0' : W2.cell? ⟨wb, 0, none⟩ = some (.slice (some ⟨g, 0, none⟩) (bs.length + 1) cap) := cell_of ho2 0
  have hc1' : W2.cell? ⟨wb, 1, none⟩ = some (.int .i64 (n : Int)) := cell_of ho2 1
  have hf1' := frozen_of ho2 1
  have hcg : W2.cell? ⟨g, bs.length, none⟩ = some (.int .u8 0) := by
    have := hown2.cells (g := g) rfl bs.length (.int .u8 0) (by simp [u8s])
    rwa [add0] at this
  have hfg : W2.frozen? ⟨g, bs.length, none⟩ = false := by
    rcases hown2.2 with ⟨e, _⟩ | ⟨g', cap', cur, e, _, hg, _⟩
    · cases e
    · simp only [Value.slice.injEq, Option.some.injEq, Addr.mk.injEq] at e
      obtain ⟨⟨rfl, _⟩, _, rfl⟩ := e
      exact frozen_of hg _
  clear hc0 hc1 hcb hfb hob1 hgrow hown hrow ho hz0 hz1 hz2 hi
  have hor : bits .or .u8 0 (b : Int) = (b : Int) := by
    have := u8_or_nat 0 b (by omega) (by omega)
    simpa using this
  go_region
  go_wp2
  go_end0
  have hset := owns_set hown2 bs.length b
  rw [set_last] at hset
  refine ⟨rfl, g, cap, (set_obj (set_far ho2 hgwb.symm bs.length _) 1 _).trans (by simp), owns_drew (owns_far hset hgwb 1 _), hat.imp id (by omega), ?_⟩
  refine ((hk2.setCell (p := ⟨g, bs.length, none⟩) (fun hg => ?_) _).setCell (p := ⟨wb, 1, none⟩) (fun _ => .inl rfl) _).drew
  rcases hat with e | e
  · exact .inr e
  · dsimp only at hg; omega

end Go.Proofs.Ytoffnhbopjaocaa
