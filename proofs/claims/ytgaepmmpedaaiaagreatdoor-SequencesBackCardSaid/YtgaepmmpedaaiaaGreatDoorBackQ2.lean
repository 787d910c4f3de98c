/-
  push of a writer: one bit behind.
  Bits in bytes, as numbers: no program is named here.
  The writer of package bits: what each of its calls does.
  How many bits a number has, and in how many a count is told: math/bits.Len, isLog, share, valueBits.
  Rows of numbers, cut; which counts make a table: makeTable, and the document's Right.
-/
import Derived.BigRegion
import Derived.Laws.CopyRow
import Derived.Deep.OwnRows
import Derived.Test.YtgaepmmpedaaiaaGreatDoorBackQ1
namespace Go.Proofs.YtgaepmmpedaaiaaGreatDoor
open Go.RowKit Go.Shelf

theorem shl_or_u8 (c b q : Nat) (hc : c < 256) (hb : b < 2) (hq : q < 8) : bits .or .u8 (c : Int) ((b : Int) * 2 ^ q % 256) = ((c ||| b * 2 ^ q : Nat) : Int) := by
  have h1 : ((b : Nat) : Int) * 2 ^ q = ((b * 2 ^ q : Nat) : Int) := by simp
  have h2 : b * 2 ^ q < 256 := by
    have h3 : b * 2 ^ q ≤ 1 * 2 ^ q := Nat.mul_le_mul_right _ (by omega)
    have h4 : 2 ^ q ≤ 2 ^ 7 := Nat.pow_le_pow_right (by omega) (by omega)
    omega
  rw [h1, ← u8_or_nat _ _ hc h2]
  congr 1
  omega

theorem set_last (bs : List Nat) (b : Nat) : (bs ++ [0]).set bs.length b = bs ++ [b] := by simp

/-- A store into a row that is owned. -/
theorem owns_set {w : World} {base : Nat} {g n cap : Nat} {bs : List Nat} (h : w.ownsRow base 5 1 (.slice (some ⟨g, 0, none⟩) n cap) n (u8s bs)) (i x : Nat) : (w.setCell ⟨g, i, none⟩ (.int .u8 (x : Int))).ownsRow base 5 1 (.slice (some ⟨g, 0, none⟩) n cap) n (u8s (bs.set i x)) := by
  obtain ⟨h1, h2⟩ := h
  refine ⟨by simpa [u8s] using h1, ?_⟩
  rcases h2 with ⟨e, _⟩ | ⟨g', cap', cur, e, hb, hg, hr1, hr2, hr3, hr4⟩
  · cases e
  · simp only [Value.slice.injEq, Option.some.injEq, Addr.mk.injEq] at e
    obtain ⟨⟨rfl, _⟩, _, rfl⟩ := e
    refine .inr ⟨g, cap, cur.setIfInBounds i (.int .u8 (x : Int)), rfl, hb, set_obj hg i _, hr1, hr2, by simpa using hr3, ?_⟩
    simp only [Array.toList_setIfInBounds, List.take_set, hr4, u8s, List.map_set]

theorem grownBy_set (W : World) (b i : Nat) (v : Value) : W.grownBy (W.setCell ⟨b, i, none⟩ v) (some b) :=
  ⟨rfl, rfl, rfl, by simp [World.setCell], fun k _ hk => Below.heap_setCell _ _ _ k (fun e => hk (by rw [e]))⟩

theorem owns_drew {w : World} {base e size n : Nat} {v : Value} {xs : List Value} (h : w.ownsRow base e size v n xs) : w.drew.ownsRow base e size v n xs := h
/-- A store into another block. -/
theorem owns_far {w : World} {base e size n g cap : Nat} {xs : List Value} (h : w.ownsRow base e size (.slice (some ⟨g, 0, none⟩) n cap) n xs) {b : Nat} (hne : g ≠ b) (i : Nat) (u : Value) : (w.setCell ⟨b, i, none⟩ u).ownsRow base e size (.slice (some ⟨g, 0, none⟩) n cap) n xs :=
  h.kept (grownBy_set w b i u) (.inr (fun e => hne (by simpa [Value.ownBlock] using e)))

theorem owns_ne {w : World} {base n e t : Nat} {v : Value} {xs : List Value} {wb : Nat} {cs : Array Value} (h : w.ownsRow base e 1 v n xs) (ho : w.heap[wb]? = some (.cells cs t (0, 0))) (hte : t ≠ e) : v.ownBlock ≠ some wb := by
  intro hv
  rcases h.2 with ⟨rfl, _⟩ | ⟨g, cap, cur, rfl, _, hg, _⟩
  · cases hv
  · obtain rfl : g = wb := by simpa [Value.ownBlock] using hv
    rw [ho] at hg; simp at hg; exact hte hg.2

set_option maxHeartbeats 1000000 in
/-- A bit behind a byte that is begun. -/
theorem push_old (wb g cap n b : Nat) (bs : List Nat) (hb : b < 2) (hn : n < 1099511627776) (w : World) (ho : w.heap[wb]? = some (.cells #[.slice (some ⟨g, 0, none⟩) bs.length cap, .int .i64 (n : Int)] 192 (0, 0)))
    (hrow : w.ownsRow 0 5 1 (.slice (some ⟨g, 0, none⟩) bs.length cap) bs.length (u8s bs)) (hbs : ∀ j : Nat, bs[j]?.getD 0 < 256) (hlen : n / 8 < bs.length) (hmod : n % 8 ≠ 0) :
    Calls Tryz.prog 123 #[.pointer (some ⟨wb, 0, none⟩), .int .u8 (b : Int)] w fun e w' => e = .returned (.tuple #[]) ∧ w'.heap[wb]? = some (.cells #[.slice (some ⟨g, 0, none⟩) bs.length cap, .int .i64 ((n + 1 : Nat) : Int)] 192 (0, 0)) ∧
      w'.ownsRow 0 5 1 (.slice (some ⟨g, 0, none⟩) bs.length cap) bs.length (u8s (bs.set (n / 8) (bs[n / 8]?.getD 0 ||| b * 2 ^ (n % 8)))) ∧ Keep (fun k => k = wb ∨ k = g) w w' := by
  have hc0 : w.cell? ⟨wb, 0, none⟩ = some (.slice (some ⟨g, 0, none⟩) bs.length cap) := cell_of ho 0
  have hc1 : w.cell? ⟨wb, 1, none⟩ = some (.int .i64 (n : Int)) := cell_of ho 1
  have hf1 := frozen_of ho 1
  have hne : g ≠ wb := fun e => owns_ne hrow ho (by decide) (by rw [e]; rfl)
  have hcg : w.cell? ⟨g, n / 8, none⟩ = some (.int .u8 ((bs[n / 8]?.getD 0 : Nat) : Int)) := by
    have := hrow.cells (g := g) rfl (n / 8) _ (u8s_at bs _ hlen)
    rwa [add0] at this
  have hfg : w.frozen? ⟨g, n / 8, none⟩ = false := by
    rcases hrow.2 with ⟨e, _⟩ | ⟨g', cap', cur, e, _, hg, _⟩
    · cases e
    · simp only [Value.slice.injEq, Option.some.injEq, Addr.mk.injEq] at e
      obtain ⟨⟨rfl, _⟩, _, rfl⟩ := e
      exact frozen_of hg _
  have hc256 := hbs (n / 8)
  generalize bs[n / 8]?.getD 0 = c at hcg hc256 ⊢
  obtain ⟨q, hq⟩ : ∃ q, n % 8 = q := ⟨_, rfl⟩
  have hq8 : q < 8 := by omega
  have hq0 : 0 < q := by omega
  have h7 : bits .and .i64 (n : Int) 7 = (q : Int) := by rw [← hq]; exact and_seven_i64 n (by omega)
  have hor := shl_or_u8 c b q hc256 hb hq8
  have HQ : Hid (n % 8 = q) := hq
  obtain ⟨d, hd⟩ : ∃ d, n / 8 = d := ⟨_, rfl⟩
  have hdI : (n : Int) / 8 = (d : Int) := by omega
  rw [hd] at hcg hfg hlen ⊢
  rw [HQ.out]
  have hmx : Tryz.prog.follows .mixedOrders = true := by kernel_rfl
  clear hq hmod hd
  go_enter Tryz.func123, Tryz.ntmps123
  go_wp2
  go_region
  go_wp2
  go_end0
  refine ⟨rfl, (set_obj (set_far ho hne.symm d _) 1 _).trans (by simp), owns_drew (owns_far (owns_set hrow d _) hne 1 _), ?_⟩
  exact (((Keep.refl (fun k => k = wb ∨ k = g) w).setCell (p := ⟨g, d, none⟩) (fun _ => .inr rfl) _).setCell (p := ⟨wb, 1, none⟩) (fun _ => .inl rfl) _).drew

set_option maxHeartbeats 1000000 in
/-- A bit at a byte's beginning. -/
theorem push_new (wb n b : Nat) (v : Value) (bs : List Nat) (hb : b < 2) (hn : n < 1099511627776) (w : World) (ho : w.heap[wb]? = some (.cells #[v, .int .i64 (n : Int)] 192 (0, 0)))
    (hrow : w.ownsRow 0 5 1 v bs.length (u8s bs)) (hlen : bs.length = n / 8) (hmod : n % 8 = 0) :
    Calls Tryz.prog 123 #[.pointer (some ⟨wb, 0, none⟩), .int .u8 (b : Int)] w fun e w' => e = .returned (.tuple #[]) ∧ ∃ g cap, w'.heap[wb]? = some (.cells #[.slice (some ⟨g, 0, none⟩) (bs.length + 1) cap, .int .i64 ((n + 1 : Nat) : Int)] 192 (0, 0)) ∧
      w'.ownsRow 0 5 1 (.slice (some ⟨g, 0, none⟩) (bs.length + 1) cap) (bs.length + 1) (u8s (bs ++ [b])) ∧ (v.ownBlock = some g ∨ w.heap.size ≤ g) ∧ Keep (fun k => k = wb ∨ v.ownBlock = some k) w w' := by
  obtain ⟨i0, hi, hz0, hz1, hz2⟩ := info_parts info5
  have hc0 : w.cell? ⟨wb, 0, none⟩ = some v := cell_of ho 0
  have hc1 : w.cell? ⟨wb, 1, none⟩ = some (.int .i64 (n : Int)) := cell_of ho 1
  have h7 : bits .and .i64 (n : Int) 7 = 0 := by
    have := and_seven_i64 n (by omega)
    rw [hmod] at this; exact this
  have hwb := obj_lt ho
  have hvb := owns_ne hrow ho (by decide)
  have hdI : (n : Int) / 8 = (bs.length : Int) := by omega
  have hmax : bs.length + 1 ≤ maxLen := by unfold maxLen; omega
  have hbl : bs.length < 140737488355327 := by omega
  have hmx : Tryz.prog.follows .mixedOrders = true := by kernel_rfl
  obtain ⟨sa, cap0, rfl⟩ := owns_form hrow
  have HM : Hid (bs.length = n / 8) := hlen
  clear hlen hmod
  go_enter Tryz.func123, Tryz.ntmps123
  go_wp2_with (at_builtin; refine wpList_append_lies _ rfl _ _ 22 rfl 0 5 i0 (.int .u8 0) 1 1 Tryz.underlying22 hi hz0 hz1 hz2 rfl (by decide) (.slice sa bs.length cap0) bs.length (u8s bs) rfl (hrow.alloc _) ⟨w.heap.size, 0, none⟩ 1 1 [.int .u8 0] rfl rfl (cell_one_new _ _ _) (by simp [Value.oneCell']) (by decide) hmax (by omega) (Nat.zero_le _) (w.heap.size + 1) (by simp) ?_; intro g cap w1 hown hgrow hat hlt; have hob1 := (hgrow.block wb (by simp; omega) (Ne.symm hvb)).trans (alloc_far ho _); have hcb := cell_of hob1 0; have hfb := frozen_of hob1 0)
  have hsz := hgrow.size
  rw [World.size_alloc] at hsz
  have hgwb : g ≠ wb := by
    rintro rfl
    rcases hat with e | e
    · exact hvb e
    · omega
  have ho2 : (w1.setCell ⟨wb, 0, none⟩ (.slice (some ⟨g, 0, none⟩) (bs.length + 1) cap)).heap[wb]? = some (.cells #[.slice (some ⟨g, 0, none⟩) (bs.length + 1) cap, .int .i64 (n : Int)] 192 (0, 0)) := (set_obj hob1 0 _).trans (by simp)
  have hown2 : (w1.setCell ⟨wb, 0, none⟩ (.slice (some ⟨g, 0, none⟩) (bs.length + 1) cap)).ownsRow 0 5 1 (.slice (some ⟨g, 0, none⟩) (bs.length + 1) cap) (bs.length + 1) (u8s (bs ++ [0])) := by
    have := hown.kept (grownBy_set w1 wb 0 (.slice (some ⟨g, 0, none⟩) (bs.length + 1) cap)) (.inr (fun e => hgwb (by simpa [Value.ownBlock] using e)))
    simpa [u8s] using this
  have hk2 : Keep (fun k => k = wb ∨ (Value.slice sa bs.length cap0).ownBlock = some k) w (w1.setCell ⟨wb, 0, none⟩ (.slice (some ⟨g, 0, none⟩) (bs.length + 1) cap)) :=
    (((Keep.refl _ w).alloc _).grown hgrow (fun k e _ => .inr e)).setCell (p := ⟨wb, 0, none⟩) (fun _ => .inl rfl) _
  generalize w1.setCell ⟨wb, 0, none⟩ (.slice (some ⟨g, 0, none⟩) (bs.length + 1) cap) = W2 at ho2 hown2 hk2 ⊢
  have hc0' : W2.cell? ⟨wb, 0, none⟩ = some (.slice (some ⟨g, 0, none⟩) (bs.length + 1) cap) := cell_of ho2 0
  have hc1' : W2.cell? ⟨wb, 1, none⟩ = some (.int .i64 (n : Int)) := cell_of ho2 1
  have hf1' := frozen_of ho2 1
  have hcg : W2.cell? ⟨g, bs.length, none⟩ = some (.int .u8 0) := by
    have := hown2.cells (g := g) rfl bs.length (.int .u8 0) (by simp [u8s])
    rwa [add0] at this
  have hfg : W2.frozen? ⟨g, bs.length, none⟩ = false := by
    rcases hown2.2 with ⟨e, _⟩ | ⟨g', cap', cur, e, _, hg, _⟩
    · cases e
    · simp only [Value.slice.injEq, Option.some.injEq, Addr.mk.injEq] at e
      obtain ⟨⟨rfl, _⟩, _, rfl⟩ := e
      exact frozen_of hg _
  clear hc0 hc1 hcb hfb hob1 hgrow hown hrow ho hz0 hz1 hz2 hi
  have hor : bits .or .u8 0 (b : Int) = (b : Int) := by
    have := u8_or_nat 0 b (by omega) (by omega)
    simpa using this
  go_region
  go_wp2
  go_end0
  have hset := owns_set hown2 bs.length b
  rw [set_last] at hset
  refine ⟨rfl, g, cap, (set_obj (set_far ho2 hgwb.symm bs.length _) 1 _).trans (by simp), owns_drew (owns_far hset hgwb 1 _), hat.imp id (by omega), ?_⟩
  refine ((hk2.setCell (p := ⟨g, bs.length, none⟩) (fun hg => ?_) _).setCell (p := ⟨wb, 1, none⟩) (fun _ => .inl rfl) _).drew
  rcases hat with e | e
  · exact .inr e
  · dsimp only at hg; omega

end Go.Proofs.YtgaepmmpedaaiaaGreatDoor

namespace Go.Proofs.YtgaepmmpedaaiaaGreatDoor

/-- The number whose bit i is f i, of m bits. -/
def numF (f : Nat → Nat) : Nat → Nat
  | 0 => 0
  | m + 1 => numF f m + f m * 2 ^ m
theorem numF_lt (f : Nat → Nat) (hf : ∀ i, f i < 2) (m : Nat) : numF f m < 2 ^ m := by
  induction m with
  | zero => simp [numF]
  | succ m ih =>
    have := hf m
    simp only [numF, Nat.pow_succ]
    have h2 : f m * 2 ^ m ≤ 1 * 2 ^ m := Nat.mul_le_mul_right _ (by omega)
    omega
theorem numF_congr (f g : Nat → Nat) (m : Nat) (h : ∀ i, i < m → f i = g i) : numF f m = numF g m := by
  induction m with
  | zero => rfl
  | succ m ih => simp only [numF]; rw [ih (fun i hi => h i (by omega)), h m (by omega)]
theorem numF_bit (f : Nat → Nat) (hf : ∀ i, f i < 2) (m i : Nat) (hi : i < m) : bitOf (numF f m) i = f i := by
  induction m with
  | zero => omega
  | succ m ih =>
    have hlt := numF_lt f hf m
    simp only [numF]
    by_cases h : i = m
    · subst h
      unfold bitOf
      rw [Nat.add_mul_div_right _ _ (Nat.two_pow_pos i), Nat.div_eq_of_lt hlt, Nat.zero_add]
      exact Nat.mod_eq_of_lt (hf i)
    · rw [← ih (by omega)]
      unfold bitOf
      have e : 2 ^ m = 2 ^ i * (2 * 2 ^ (m - i - 1)) := by
        rw [show 2 * 2 ^ (m - i - 1) = 2 ^ (m - i - 1 + 1) from by rw [Nat.pow_succ, Nat.mul_comm], ← Nat.pow_add]
        congr 1
        omega
      have e2 : f m * 2 ^ m = 2 ^ i * (2 * (f m * 2 ^ (m - i - 1))) := by
        rw [e, Nat.mul_left_comm, Nat.mul_left_comm (f m)]
      rw [e2, Nat.add_mul_div_left _ _ (Nat.two_pow_pos i)]
      omega
theorem numAt_numF (bs : List Nat) (p m : Nat) : numAt bs p m = numF (fun k => bitAt bs (p + k)) m := by
  induction m with
  | zero => rfl
  | succ m ih => simp only [numAt, numF]; rw [ih]
/-- Bits that are the same up to a place, and 0 behind: the number is the same. -/
theorem numF_ext (f : Nat → Nat) (a b : Nat) (h : a ≤ b) (hz : ∀ i, a ≤ i → i < b → f i = 0) : numF f b = numF f a := by
  induction b with
  | zero => rw [show a = 0 from by omega]
  | succ b ih =>
    by_cases e : a = b + 1
    · rw [e]
    · simp only [numF]
      rw [hz b (by omega) (by omega), ih (by omega) (fun i h1 h2 => hz i h1 (by omega))]
      omega

/-- Bit k of a row of bits; 0 beyond. -/
def bitL (L : List (Fin 2)) (k : Nat) : Nat := (L[k]?.getD 0).val
theorem bitL_lt (L : List (Fin 2)) (k : Nat) : bitL L k < 2 := (L[k]?.getD 0).isLt
theorem bitL_old (L : List (Fin 2)) (b : Fin 2) (k : Nat) (h : k < L.length) : bitL (L ++ [b]) k = bitL L k := by
  unfold bitL; rw [List.getElem?_append_left h]
theorem bitL_new (L : List (Fin 2)) (b : Fin 2) : bitL (L ++ [b]) L.length = b.val := by
  unfold bitL; simp
theorem bitL_far (L : List (Fin 2)) (k : Nat) (h : L.length ≤ k) : bitL L k = 0 := by
  unfold bitL; rw [List.getElem?_eq_none h]; rfl
theorem bitL_app (L M : List (Fin 2)) (k : Nat) (h : k < L.length) : bitL (L ++ M) k = bitL L k := by
  unfold bitL; rw [List.getElem?_append_left h]
theorem bitL_behind (L M : List (Fin 2)) (k : Nat) : bitL (L ++ M) (L.length + k) = bitL M k := by
  unfold bitL; rw [List.getElem?_append_right (by omega)]; congr 3; omega

/-- Byte j of a row of bits. -/
def byteOf (L : List (Fin 2)) (j : Nat) : Nat := numF (fun i => bitL L (8 * j + i)) 8
theorem byteOf_lt (L : List (Fin 2)) (j : Nat) : byteOf L j < 256 := numF_lt _ (fun _ => bitL_lt _ _) 8
/-- The bytes of a row of bits. -/
def pack (L : List (Fin 2)) : List Nat := (List.range ((L.length + 7) / 8)).map (byteOf L)
theorem pack_length (L : List (Fin 2)) : (pack L).length = (L.length + 7) / 8 := by simp [pack]
theorem pack_at (L : List (Fin 2)) (j : Nat) (h : j < (L.length + 7) / 8) : (pack L)[j]?.getD 0 = byteOf L j := by
  unfold pack
  rw [List.getElem?_map, List.getElem?_range h]
  rfl
theorem pack_lt (L : List (Fin 2)) (j : Nat) : (pack L)[j]?.getD 0 < 256 := by
  by_cases h : j < (L.length + 7) / 8
  · rw [pack_at L j h]; exact byteOf_lt L j
  · rw [List.getElem?_eq_none (by rw [pack_length]; omega)]; decide
/-- A bit of the bytes is the bit of the row. -/
theorem bitAt_pack (L : List (Fin 2)) (i : Nat) : bitAt (pack L) i = bitL L i := by
  unfold bitAt
  by_cases h : i / 8 < (L.length + 7) / 8
  · rw [pack_at L _ h]
    unfold byteOf
    rw [numF_bit _ (fun _ => bitL_lt _ _) 8 (i % 8) (by omega)]
    congr 1
    omega
  · rw [List.getElem?_eq_none (by rw [pack_length]; omega), bitL_far L i (by omega)]
    simp [bitOf]

theorem byteOf_old (L : List (Fin 2)) (b : Fin 2) (j : Nat) (h : j < L.length / 8) : byteOf (L ++ [b]) j = byteOf L j :=
  numF_congr _ _ _ (fun i hi => bitL_old L b _ (by omega))
theorem byteOf_last (L : List (Fin 2)) (b : Fin 2) : byteOf (L ++ [b]) (L.length / 8) = byteOf L (L.length / 8) ||| b.val * 2 ^ (L.length % 8) := by
  have h1 : byteOf L (L.length / 8) = numF (fun i => bitL L (8 * (L.length / 8) + i)) (L.length % 8) :=
    numF_ext _ _ _ (by omega) (fun i h1 h2 => bitL_far L _ (by omega))
  have h2 : byteOf (L ++ [b]) (L.length / 8) = numF (fun i => bitL (L ++ [b]) (8 * (L.length / 8) + i)) (L.length % 8 + 1) :=
    numF_ext _ _ _ (by omega) (fun i h1 h2 => bitL_far _ _ (by simp; omega))
  have h3 : numF (fun i => bitL (L ++ [b]) (8 * (L.length / 8) + i)) (L.length % 8) = numF (fun i => bitL L (8 * (L.length / 8) + i)) (L.length % 8) :=
    numF_congr _ _ _ (fun i hi => bitL_old L b _ (by omega))
  have h4 : bitL (L ++ [b]) (8 * (L.length / 8) + L.length % 8) = b.val := by
    rw [show 8 * (L.length / 8) + L.length % 8 = L.length from by omega]; exact bitL_new L b
  rw [h1, h2]
  simp only [numF]
  rw [h3, h4, Nat.or_comm, nat_join (L.length % 8) _ _ (Nat.mul_mod_left _ _) (numF_lt _ (fun _ => bitL_lt _ _) _)]
  omega
theorem byteOf_far (L : List (Fin 2)) (j : Nat) (h : L.length ≤ 8 * j) : byteOf L j = 0 :=
  numF_ext _ 0 8 (by omega) (fun i _ _ => bitL_far L _ (by omega))

/-- A bit at a byte's beginning. -/
theorem pack_new (L : List (Fin 2)) (b : Fin 2) (h : L.length % 8 = 0) : pack (L ++ [b]) = pack L ++ [b.val] := by
  have e : ((L ++ [b]).length + 7) / 8 = (L.length + 7) / 8 + 1 := by simp; omega
  have e2 : (L.length + 7) / 8 = L.length / 8 := by omega
  unfold pack
  rw [e, List.range_succ, List.map_append, e2]
  congr 1
  · exact List.map_congr_left (fun j hj => byteOf_old L b j (List.mem_range.1 hj))
  · simp only [List.map_cons, List.map_nil]
    rw [byteOf_last, byteOf_far L _ (by omega), h]
    simp
/-- A bit behind a byte that is begun. -/
theorem pack_old (L : List (Fin 2)) (b : Fin 2) (h : L.length % 8 ≠ 0) : pack (L ++ [b]) = (pack L).set (L.length / 8) ((pack L)[L.length / 8]?.getD 0 ||| b.val * 2 ^ (L.length % 8)) := by
  have e : ((L ++ [b]).length + 7) / 8 = (L.length + 7) / 8 := by simp; omega
  have hlt : L.length / 8 < (L.length + 7) / 8 := by omega
  rw [pack_at L _ hlt]
  apply List.ext_getElem
  · rw [List.length_set, pack_length, pack_length, e]
  · intro j h1 h2
    rw [List.getElem_set]
    simp only [pack, List.getElem_map, List.getElem_range]
    rw [pack_length, e] at h1
    by_cases hj : L.length / 8 = j
    · rw [if_pos hj, ← hj, byteOf_last]
    · rw [if_neg hj, byteOf_old L b j (by omega)]

end Go.Proofs.YtgaepmmpedaaiaaGreatDoor

namespace Go.Proofs.YtgaepmmpedaaiaaGreatDoor
open Go.RowKit Go.Shelf

attribute [local go_sem] Oper.semAt_some

/-- Block wb is a writer that was given the bits L; v is its row of bytes. -/
structure IsW (W : World) (wb : Nat) (v : Value) (L : List (Fin 2)) : Prop where
  obj : W.heap[wb]? = some (.cells #[v, .int .i64 (L.length : Int)] 192 (0, 0))
  row : W.ownsRow 0 5 1 v (pack L).length (u8s (pack L))

/-- The row v' lies where v lay, or in memory that is new since there were n blocks. -/
def Moves (n : Nat) (v v' : Value) : Prop := v'.ownBlock = v.ownBlock ∨ ∃ k, v'.ownBlock = some k ∧ n ≤ k
theorem Moves.refl (n : Nat) (v : Value) : Moves n v v := .inl rfl
theorem Moves.trans {m n : Nat} {a b c : Value} (h : Moves m a b) (k : Moves n b c) (hmn : m ≤ n) : Moves m a c := by
  rcases k with k | ⟨i, k, hi⟩
  · rcases h with h | ⟨j, h, hj⟩
    · exact .inl (k.trans h)
    · exact .inr ⟨j, k.trans h, hj⟩
  · exact .inr ⟨i, k, by omega⟩

theorem owns_keep {W W' : World} {S : Nat → Prop} {base e size n : Nat} {v : Value} {xs : List Value} (h : W.ownsRow base e size v n xs) (hk : Keep S W W') (h2 : ∀ k, v.ownBlock = some k → ¬ S k) : W'.ownsRow base e size v n xs := by
  refine ⟨h.1, ?_⟩
  rcases h.2 with hn | ⟨g, cap, cur, rfl, hb, hg, hr⟩
  · exact .inl hn
  · exact .inr ⟨g, cap, cur, rfl, hb, hk.obj hg (h2 g rfl), hr⟩
/-- A writer lies on wherever its blocks lie on. -/
theorem IsW.keep {W W' : World} {S : Nat → Prop} {wb : Nat} {v : Value} {L : List (Fin 2)} (h : IsW W wb v L) (hk : Keep S W W') (h1 : ¬ S wb) (h2 : ∀ k, v.ownBlock = some k → ¬ S k) : IsW W' wb v L :=
  ⟨hk.obj h.obj h1, owns_keep h.row hk h2⟩
theorem IsW.row_lt {W : World} {wb : Nat} {v : Value} {L : List (Fin 2)} (h : IsW W wb v L) : ∀ k, v.ownBlock = some k → k < W.heap.size := fun k e => (h.row.lt k e).2

/-- push: a bit behind. -/
theorem push_any (wb : Nat) (v : Value) (L : List (Fin 2)) (b : Fin 2) (hL : L.length < 1099511627776) (w : World) (h : IsW w wb v L) :
    Calls Tryz.prog 123 #[.pointer (some ⟨wb, 0, none⟩), .int .u8 ((b.val : Nat) : Int)] w fun e w' => e = .returned (.tuple #[]) ∧ ∃ v', IsW w' wb v' (L ++ [b]) ∧ Moves w.heap.size v v' ∧ Keep (fun k => k = wb ∨ v.ownBlock = some k) w w' := by
  have hpl := pack_length L
  by_cases hm : L.length % 8 = 0
  · refine (push_new wb L.length b.val v (pack L) b.isLt hL w h.obj h.row (by rw [hpl]; omega) hm).mono ?_
    rintro e w' ⟨rfl, g, cap, ho, hr, hat, hk⟩
    refine ⟨rfl, .slice (some ⟨g, 0, none⟩) ((pack L).length + 1) cap, ⟨?_, ?_⟩, hat.elim (fun e => .inl e.symm) (fun e => .inr ⟨g, rfl, e⟩), hk⟩
    · rw [ho]; simp
    · rw [pack_new L b hm]; simpa using hr
  · have hr0 := h.row
    rcases hr0.2 with ⟨rfl, h0⟩ | ⟨g, cap, cur, rfl, _, hg, _⟩
    · rw [hpl] at h0; omega
    · refine (push_old wb g cap L.length b.val (pack L) b.isLt hL w h.obj h.row (pack_lt L) (by rw [hpl]; omega) hm).mono ?_
      rintro e w' ⟨rfl, ho, hr, hk⟩
      refine ⟨rfl, _, ⟨?_, ?_⟩, .inl rfl, hk.mono (fun k _ hk => hk.imp id (fun e => by rw [e]; rfl))⟩
      · rw [ho]; simp
      · rw [pack_old L b hm]; simpa using hr

theorem keepsFrom_push {W W' : World} {wb : Nat} {v : Value} {L : List (Fin 2)} (h : IsW W wb v L) (hk : Keep (fun k => k = wb ∨ v.ownBlock = some k) W W') (B : Nat) : KeepsFrom B W W' := by
  refine ⟨hk.size, fun k o _ ho hc => hk.obj ho ?_⟩
  rintro (rfl | e)
  · rw [h.obj] at ho; cases ho; cases hc
  · rcases h.row.2 with ⟨rfl, _⟩ | ⟨g, cap, cur, rfl, _, hg, _⟩
    · cases e
    · obtain rfl : g = k := by simpa [Value.ownBlock] using e
      rw [hg] at ho; cases ho; cases hc

theorem isW_own (wb n : Nat) (v : Value) (L : List (Fin 2)) : Own (fun (pre : List (Fin 2)) W => ∃ v', IsW W wb v' (L ++ pre) ∧ Moves n v v') := by
  rintro s X Y row ⟨v', h, hm⟩ hg hrow
  have hc : ∀ {b : Nat} {cs : Array Value} {t : TypeId}, X.heap[b]? = some (.cells cs t (0, 0)) → some b ≠ row := fun {b cs t} hb e => by
    obtain ⟨o, ho, hc⟩ := hrow b e.symm
    rw [hb] at ho; cases ho; cases hc
  refine ⟨v', ⟨(hg.block wb (obj_lt h.obj) (hc h.obj)).trans h.obj, h.row.1, ?_⟩, hm⟩
  rcases h.row.2 with hn | ⟨g, cap, cur, rfl, hb, hgb, hr⟩
  · exact .inl hn
  · exact .inr ⟨g, cap, cur, rfl, hb, (hg.block g (obj_lt hgb) (hc hgb)).trans hgb, hr⟩

/-- The iterator's word, at the world where the loop begins. -/
theorem lowest_stops (n : Nat) (hn : 1 ≤ n) (Bx Bn x m : Nat) (hx : x < 18446744073709551616) (hm : m ≤ 56)
    (W : World) (hBx : W.heap[Bx]? = some (.cells #[.int .u64 (x : Int)] 104 (0, 0))) (hBn : W.heap[Bn]? = some (.cells #[.int .i64 (m : Int)] 3 (0, 0))) :
    SeqStopsK Fence.wide n Tryz.prog 130 #[.pointer (some ⟨Bn, 0, none⟩), .pointer (some ⟨Bx, 0, none⟩)] (fun b : Fin 2 => #[Value.int .u8 ((b.val : Nat) : Int)])
      (Stay (fun k => k = Bx ∨ k = Bn)) (fun ys => ys = upto (fun j => (⟨bitOf x j, bitOf_lt x j⟩ : Fin 2)) m) (fun _ => True) m W := fun l J Jx W1 hW _ _ hY h0 => by
  refine lowest1_in Fence.wide n trivial rfl hn l Bx Bn x m hx hm J Jx hY W1 ((hW.block _ (obj_lt hBx)).trans hBx) ((hW.block _ (obj_lt hBn)).trans hBn) h0

theorem boxes3 (w : World) (o0 o1 o2 : Obj) :
    (((w.alloc o0).alloc o1).alloc o2).heap[w.heap.size]? = some o0 ∧ (((w.alloc o0).alloc o1).alloc o2).heap[w.heap.size + 1]? = some o1 ∧
    (((w.alloc o0).alloc o1).alloc o2).heap[w.heap.size + 1 + 1]? = some o2 ∧ (((w.alloc o0).alloc o1).alloc o2).heap.size = w.heap.size + 3 ∧ Keep noBlock w (((w.alloc o0).alloc o1).alloc o2) := by
  have e0 := World.alloc_heap_new w o0
  have e1 := World.alloc_heap_new (w.alloc o0) o1
  have e2 := World.alloc_heap_new ((w.alloc o0).alloc o1) o2
  simp only [World.size_alloc] at e1 e2
  refine ⟨alloc_far (alloc_far e0 _) _, alloc_far e1 _, e2, ?_, ((((Keep.refl _ w).alloc _).alloc _).alloc _)⟩
  simp only [World.size_alloc]

/-- The lowest m bits of x. -/
def low (x m : Nat) : List (Fin 2) := upto (fun j => (⟨bitOf x j, bitOf_lt x j⟩ : Fin 2)) m
theorem low_length (x m : Nat) : (low x m).length = m := upto_length _ _

set_option maxRecDepth 100000 in
set_option maxHeartbeats 1000000 in
/-- Put(x, m): the lowest m bits of x behind. -/
theorem put_any (wb : Nat) (v : Value) (L : List (Fin 2)) (x m : Nat) (hx : x < 18446744073709551616) (hm : m ≤ 56) (hL : L.length < 1000000000000) (w : World) (h : IsW w wb v L) :
    Calls Tryz.prog 107 #[.pointer (some ⟨wb, 0, none⟩), .int .u64 (x : Int), .int .i64 (m : Int)] w fun e w' => e = .returned (.int .i64 0) ∧ ∃ v', IsW w' wb v' (L ++ low x m) ∧ Moves w.heap.size v v' ∧ Keep (fun k => k = wb ∨ v.ownBlock = some k) w w' := by
  have hd : decide (0 ≤ (m : Int) ∧ (m : Int) ≤ 56) = true := decide_eq_true ⟨by omega, by omega⟩
  refine (callsIn_wide (n := 4)).1 ?_
  refine callsIn_of_wp_marks Tryz.func107 rfl trivial ?_ rfl
  simp only [Tryz.ntmps107, List.size_toArray, List.length_cons, List.length_nil, Nat.reduceAdd, Nat.reduceSub, Array.replicate_succ, Array.replicate_zero, List.push_toArray, List.append_toArray, List.nil_append, List.cons_append]
  gi_wp2_with (refine ⟨trivial, ?_⟩; first | (gi_at_call 116; refine (callsIn_wide.2 (canCount_any _ _)).mono ?_; rw [hd]; rintro e w' ⟨rfl, rfl⟩) | (gi_at_call 122; refine (lowest_in Fence.wide _ trivial rfl _ _ _).mono ?_; rintro e w' ⟨rfl, rfl⟩))
  obtain ⟨b0, b1, b2, bsz, bkp⟩ := boxes3 w (Obj.cells #[Value.pointer (some { block := wb, off := 0 })] 190) (Obj.cells #[Value.int IntKind.u64 ↑x] 104) (Obj.cells #[Value.int IntKind.i64 ↑m] 3)
  generalize ((w.alloc (Obj.cells #[Value.pointer (some { block := wb, off := 0 })] 190)).alloc (Obj.cells #[Value.int IntKind.u64 ↑x] 104)).alloc (Obj.cells #[Value.int IntKind.i64 ↑m] 3) = W0 at b0 b1 b2 bsz bkp ⊢
  have hwb := obj_lt h.obj
  have h0 : IsW W0 wb v L := h.keep bkp (fun h => h) (fun _ _ h => h)
  refine wpIn_rangeFunc_ownG rfl (by omega) (gf := 130) rfl trivial (enters_of Tryz.func130 (by kernel_rfl) rfl)
    (lowest_stops 3 (by omega) (w.heap.size + 1) (w.heap.size + 1 + 1) x m hx hm W0 b1 b2)
    (fun h k => h.trans k) (Stay.putObj (by rintro k (rfl | rfl) <;> omega)) (Below.refl _ _) (fun _ => rfl)
    (fun pre W => (∃ v', IsW W wb v' (L ++ pre) ∧ Moves w.heap.size v v') ∧ Boxed W w.heap.size 190 (.pointer (some ⟨wb, 0, none⟩)) ∧ Boxed W (w.heap.size + 1) 104 (.int .u64 (x : Int)) ∧ Boxed W (w.heap.size + 1 + 1) 3 (.int .i64 (m : Int)) ∧ Keep (fun k => k = wb ∨ v.ownBlock = some k) w W)
    (fun _ _ _ => False)
    (OwnFrom.and (Own.from (isW_own _ _ _ _) _) (OwnFrom.and (Own.from (boxed_own _ _ _) _) (OwnFrom.and (Own.from (boxed_own _ _ _) _) (OwnFrom.and (Own.from (boxed_own _ _ _) _) (ownFrom_keep (by omega))))))
    (fun _ _ _ _ _ hs _ _ => hs)
    ⟨⟨v, by simpa using h0, .inl rfl⟩, b0, b1, b2, bkp.mono (fun _ _ h => h.elim)⟩
    (fun b => { tmps := #[.pointer (some ⟨wb, 0, none⟩), .int .u64 (x : Int), .int .i64 (m : Int), .pointer (some ⟨w.heap.size, 0, none⟩), undef, undef, .int .i64 0, .int .u8 ((b.val : Nat) : Int), .pointer (some ⟨wb, 0, none⟩), .bool false, .int .i64 (m : Int), .bool true, .bool false,
      .int .u64 (x : Int), .int .i64 (m : Int), .func (.func 130) #[] #[.pointer (some ⟨w.heap.size + 1 + 1, 0, none⟩), .pointer (some ⟨w.heap.size + 1, 0, none⟩)], .int .u8 ((b.val : Nat) : Int), undef, undef, undef], defers := [] }) ?assign ?body ?done ?stop
  case assign =>
    intro l b W K hK
    gi_wp2
    exact hK
  case body =>
    rintro l pre b W ⟨⟨v1, hW1, hM1⟩, c0, c1, c2, hKw⟩ hlt
    have hc0 := c0.cell
    have hlen : (L ++ pre).length < 1099511627776 := by rw [List.length_append]; omega
    gi_wp2_with (refine ⟨trivial, ?_⟩; gi_at_call 123; refine (CallsIn.inRound l (callsIn_wide.2 (push_any wb v1 (L ++ pre) b hlen _ hW1))).mono ?_; rintro e w' ⟨rfl, v2, hW2, hM2, hK2⟩)
    have n0 : ¬ (w.heap.size = wb ∨ v1.ownBlock = some w.heap.size) := by rintro (e | e); omega; exact owns_ne hW1.row c0 (by decide) e
    have n1 : ¬ (w.heap.size + 1 = wb ∨ v1.ownBlock = some (w.heap.size + 1)) := by rintro (e | e); omega; exact owns_ne hW1.row c1 (by decide) e
    have n2 : ¬ (w.heap.size + 1 + 1 = wb ∨ v1.ownBlock = some (w.heap.size + 1 + 1)) := by rintro (e | e); omega; exact owns_ne hW1.row c2 (by decide) e
    refine ⟨keepsFrom_push hW1 hK2 _, ?_, ⟨v2, by rw [← List.append_assoc]; exact hW2, hM1.trans hM2 hKw.size⟩, hK2.obj c0 n0, hK2.obj c1 n1, hK2.obj c2 n2, hKw.trans hK2 ?_⟩
    · rintro k (rfl | rfl)
      · exact hK2.block _ (obj_lt c1) n1
      · exact hK2.block _ (obj_lt c2) n2
    · rintro i hi (e | e)
      · exact .inl e
      · rcases hM1 with e2 | ⟨k, e2, hk⟩
        · exact .inr (by rw [← e2]; exact e)
        · rw [e2] at e; cases e; omega
  case done =>
    rintro D ys W hD rfl ⟨⟨v1, hW1, hM1⟩, c0, c1, c2, hKw⟩ hK
    gi_wp2
    refine ⟨by simp, .inl ⟨_, _, rfl, run_takeDeferred hK, ?_⟩⟩
    have hk : Keep (fun k => k = D) W (W.putObj D (.deferred none)) := (Keep.refl _ W).putObj D _ (fun _ => rfl)
    refine ⟨_, results_tmp rfl _ _ _, rfl, v1, hW1.keep hk ?_ ?_, hM1, hKw.putObj D _ (fun hd => by omega)⟩
    · rintro rfl; rw [hW1.obj] at hK; cases hK
    · rintro k e rfl
      rcases hW1.row.2 with ⟨rfl, _⟩ | ⟨g, cap, cur, rfl, _, hg, _⟩
      · cases e
      · obtain rfl : g = k := by simpa [Value.ownBlock] using e
        rw [hg] at hK; cases hK
  case stop =>
    rintro D c pre W _ _ h _
    exact h.elim

set_option maxHeartbeats 400000 in
/-- Put, where so many bits can't be put. -/
theorem put_arg (wb : Nat) (x n : Int) (hn : ¬ (0 ≤ n ∧ n ≤ 56)) (w : World) :
    Calls Tryz.prog 107 #[.pointer (some ⟨wb, 0, none⟩), .int .u64 x, .int .i64 n] w fun e w' => e = .returned (.int .i64 2) ∧ Keep noBlock w w' := by
  have hd : decide (0 ≤ n ∧ n ≤ 56) = false := decide_eq_false hn
  refine (callsIn_wide (n := 4)).1 ?_
  refine callsIn_of_wp_marks Tryz.func107 rfl trivial ?_ rfl
  simp only [Tryz.ntmps107, List.size_toArray, List.length_cons, List.length_nil, Nat.reduceAdd, Nat.reduceSub, Array.replicate_succ, Array.replicate_zero, List.push_toArray, List.append_toArray, List.nil_append, List.cons_append]
  gi_wp2_with (refine ⟨trivial, ?_⟩; gi_at_call 116; refine (callsIn_wide.2 (canCount_any _ _)).mono ?_; rw [hd]; rintro e w' ⟨rfl, rfl⟩)
  exact ⟨_, results_tmp rfl _ _ _, rfl, (Keep.refl _ w).alloc _⟩

set_option maxHeartbeats 400000 in
/-- Put of no writer. -/
theorem put_nil (x n : Int) (w : World) :
    Calls Tryz.prog 107 #[.pointer none, .int .u64 x, .int .i64 n] w fun e w' => e = .returned (.int .i64 1) ∧ Keep noBlock w w' := by
  refine (callsIn_wide (n := 4)).1 ?_
  refine callsIn_of_wp_marks Tryz.func107 rfl trivial ?_ rfl
  simp only [Tryz.ntmps107, List.size_toArray, List.length_cons, List.length_nil, Nat.reduceAdd, Nat.reduceSub, Array.replicate_succ, Array.replicate_zero, List.push_toArray, List.append_toArray, List.nil_append, List.cons_append]
  gi_wp2
  exact ⟨_, results_tmp rfl _ _ _, rfl, (Keep.refl _ w).alloc _⟩

set_option maxHeartbeats 400000 in
/-- Bytes of a writer. -/
theorem bytes_any (wb : Nat) (v : Value) (L : List (Fin 2)) (hL : L.length < 1099511627776) (w : World) (h : IsW w wb v L) :
    Calls Tryz.prog 113 #[.pointer (some ⟨wb, 0, none⟩)] w fun e w' => ∃ v', e = .returned v' ∧ w'.ownsRow w.heap.size 5 1 v' (pack L).length (u8s (pack L)) ∧ Keep noBlock w w' := by
  have hc0 : w.cell? ⟨wb, 0, none⟩ = some v := cell_of h.obj 0
  obtain ⟨sa, cap, rfl⟩ := owns_form h.row
  have hpl : (pack L).length ≤ 140737488355327 := by rw [pack_length]; omega
  go_enter Tryz.func113, Tryz.ntmps113
  go_wp2_with (go_at_call 59; refine (clone_any _ (pack L) hpl _ (Src.of_owns h.row)).mono ?_; rintro e w1 ⟨v', rfl, hown, hk, hn⟩)
  go_ret
  exact ⟨v', rfl, hown, hk⟩

set_option maxHeartbeats 400000 in
/-- Align of a writer: bits 0 behind up to the next byte's beginning. -/
theorem alignW_any (wb : Nat) (v : Value) (L : List (Fin 2)) (hL : L.length < 1000000000000) (w : World) (h : IsW w wb v L) :
    Calls Tryz.prog 112 #[.pointer (some ⟨wb, 0, none⟩)] w fun e w' => e = .returned (.tuple #[]) ∧ ∃ v', IsW w' wb v' (L ++ low 0 ((8 - L.length % 8) % 8)) ∧ Moves w.heap.size v v' ∧ Keep (fun k => k = wb ∨ v.ownBlock = some k) w w' := by
  have hc1 : w.cell? ⟨wb, 1, none⟩ = some (.int .i64 (L.length : Int)) := cell_of h.obj 1
  have htb := toByte_any L.length (by omega)
  have b1 : (8 - L.length % 8) % 8 ≤ 56 := by omega
  generalize (8 - L.length % 8) % 8 = q at htb b1 ⊢
  have HT : Hid (∀ w, _) := htb
  clear htb
  go_enter Tryz.func112, Tryz.ntmps112
  go_wp2_with (first | (go_at_call 125; refine (HT.out _).mono ?_; rintro e w' ⟨rfl, rfl⟩) | (go_at_call 107; refine (put_any wb v L 0 q (by decide) b1 hL _ h).mono ?_; rintro e w' ⟨rfl, h1⟩))
  go_end0
  exact ⟨rfl, h1⟩

end Go.Proofs.YtgaepmmpedaaiaaGreatDoor

namespace Go.Proofs.YtgaepmmpedaaiaaGreatDoor
open Go.RowKit Go.Shelf

/-- How many bits a number has. -/
def lenN (x : Nat) : Nat := if x = 0 then 0 else Nat.log2 x + 1
theorem lenN_zero : lenN 0 = 0 := rfl
theorem lenN_pos (x : Nat) (h : x ≠ 0) : 2 ^ (lenN x - 1) ≤ x ∧ x < 2 ^ lenN x ∧ 0 < lenN x := by
  unfold lenN
  rw [if_neg h]
  refine ⟨?_, ?_, by omega⟩
  · rw [Nat.add_sub_cancel]; exact Nat.log2_self_le h
  · exact (Nat.log2_lt h).1 (Nat.lt_succ_self _)
theorem lenN_le (x k : Nat) (h : x < 2 ^ k) : lenN x ≤ k := by
  unfold lenN
  split
  · omega
  · rename_i h0
    have := (Nat.log2_lt h0 (k := k)).2 h
    omega
theorem lenN_eq (x k : Nat) (h1 : 2 ^ k ≤ x) (h2 : x < 2 ^ (k + 1)) : lenN x = k + 1 := by
  have h0 : x ≠ 0 := by have : 0 < 2 ^ k := Nat.pow_pos (by omega); omega
  unfold lenN
  rw [if_neg h0, (Nat.log2_eq_iff h0).2 ⟨h1, h2⟩]
theorem lenN_half (x : Nat) (h : x ≠ 0) : lenN x = lenN (x / 2) + 1 := by
  by_cases h1 : x = 1
  · subst h1; rfl
  · have h2 : x / 2 ≠ 0 := by omega
    obtain ⟨a, b, c⟩ := lenN_pos (x / 2) h2
    refine lenN_eq x (lenN (x / 2)) ?_ ?_
    · have e : 2 ^ lenN (x / 2) = 2 ^ (lenN (x / 2) - 1) * 2 := by rw [← Nat.pow_succ]; congr 1; omega
      omega
    · rw [Nat.pow_succ]; omega
theorem lenN_shift (x : Nat) (h : 256 ≤ x) : lenN x = 8 + lenN (x / 256) := by
  have h0 : x / 256 ≠ 0 := by omega
  obtain ⟨a, b, c⟩ := lenN_pos (x / 256) h0
  obtain ⟨k, hk⟩ : ∃ k, lenN (x / 256) = k + 1 := ⟨lenN (x / 256) - 1, by omega⟩
  rw [hk] at a b ⊢
  rw [Nat.add_sub_cancel] at a
  rw [lenN_eq x (k + 8) ?_ ?_]
  · omega
  · rw [Nat.pow_add]; omega
  · rw [show k + 8 + 1 = k + 1 + 8 from by omega, Nat.pow_add]; omega

set_option maxRecDepth 100000 in
set_option maxHeartbeats 1000000 in
/-- math/bits.Len64 of a number below 2^16. -/
theorem len64_any (x : Nat) (hx : x < 65536) (w : World) : Calls Tryz.prog 86 #[.int .u64 (x : Int)] w fun e w' => e = .returned (.int .i64 ((lenN x : Nat) : Int)) ∧ w' = w := by
  have g1 : ¬ (4294967296 : Int) ≤ (x : Int) := by omega
  have g2 : ¬ (65536 : Int) ≤ (x : Int) := by omega
  by_cases h : x < 256
  · have g3 : ¬ (256 : Int) ≤ (x : Int) := by omega
    go_enter Tryz.func86, Tryz.ntmps86
    go_wp2
    go_ret
    refine ⟨congrArg (fun x => Ending.returned (Value.int .i64 x)) ?_, rfl⟩
    clear w g1 g2 hx
    revert g3 h
    revert x
    decide +kernel
  · have g3 : (256 : Int) ≤ (x : Int) := by omega
    have hs := lenN_shift x (by omega)
    obtain ⟨y, hy⟩ : ∃ y, y = x / 256 := ⟨_, rfl⟩
    have hd : (x : Int) / 2 ^ 8 = (y : Int) := by omega
    have hd' : (x : Int) / 256 = (y : Int) := by omega
    rw [← hy] at hs
    have hy2 : y < 256 := by omega
    have hyI : (y : Int) < 256 := by omega
    generalize lenN x = lx at hs ⊢
    have HS := (show Hid _ from hs)
    have HY := (show Hid _ from hy)
    clear hs hy
    go_enter Tryz.func86, Tryz.ntmps86
    go_wp2
    go_ret
    refine ⟨congrArg (fun x => Ending.returned (Value.int .i64 x)) ?_, rfl⟩
    rw [HS.out]
    clear w g1 g2 g3 hx HS HY hd hd' h x lx
    revert hyI hy2
    revert y
    decide +kernel

set_option maxHeartbeats 400000 in
theorem len_any (x : Nat) (hx : x < 65536) (w : World) : Calls Tryz.prog 62 #[.int .u64 (x : Int)] w fun e w' => e = .returned (.int .i64 ((lenN x : Nat) : Int)) ∧ w' = w := by
  go_enter Tryz.func62, Tryz.ntmps62
  go_wp2_with (go_at_call 86; refine (len64_any x hx _).mono ?_; rintro e w' ⟨rfl, rfl⟩)
  go_ret
  exact ⟨rfl, rfl⟩
theorem len_i (x : Nat) (xi : Int) (hi : xi = (x : Int)) (hx : x < 65536) (w : World) : Calls Tryz.prog 62 #[.int .u64 xi] w fun e w' => e = .returned (.int .i64 ((lenN x : Nat) : Int)) ∧ w' = w := by
  subst hi; exact len_any x hx w

set_option maxHeartbeats 400000 in
theorem isLog_any (n : Int) (w : World) : Calls Tryz.prog 98 #[.int .i64 n] w fun e w' => e = .returned (.bool (decide (5 ≤ n ∧ n ≤ 12))) ∧ w' = w := by
  by_cases h1 : 5 ≤ n
  · by_cases h2 : n ≤ 12
    · rw [decide_eq_true ⟨h1, h2⟩]
      go_enter Tryz.func98, Tryz.ntmps98
      go_wp2
      go_ret
      exact ⟨rfl, rfl⟩
    · rw [decide_eq_false (fun h => h2 h.2)]
      go_enter Tryz.func98, Tryz.ntmps98
      go_wp2
      go_ret
      exact ⟨rfl, rfl⟩
  · rw [decide_eq_false (fun h => h1 h.1)]
    go_enter Tryz.func98, Tryz.ntmps98
    go_wp2
    go_ret
    exact ⟨rfl, rfl⟩

/-- How many states a count takes. -/
def shareN (c : Int) : Int := if c = -1 then 1 else c

set_option maxHeartbeats 400000 in
theorem share_any (c : Int) (h1 : -32768 ≤ c) (h2 : c ≤ 32767) (w : World) : Calls Tryz.prog 109 #[.int .i16 c] w fun e w' => e = .returned (.int .i64 (shareN c)) ∧ w' = w := by
  unfold shareN
  by_cases h : c = -1
  · subst h
    go_enter Tryz.func109, Tryz.ntmps109
    go_wp2
    go_ret
    exact ⟨rfl, rfl⟩
  · rw [if_neg h]
    have hb : (c == -1) = false := by simpa using h
    go_enter Tryz.func109, Tryz.ntmps109
    go_wp2
    go_ret
    exact ⟨rfl, rfl⟩

/-- The bits of the greatest value that may come, and below which value one bit fewer serves. -/
def valM (R : Nat) : Nat := lenN (R + 1)
def valT (R : Nat) : Nat := 2 ^ valM R - 1 - (R + 1)
theorem valM_ge (R : Nat) (h : 1 ≤ R) : 2 ≤ valM R := by
  have := lenN_pos (R + 1) (by omega)
  unfold valM
  rcases Nat.lt_or_ge (lenN (R + 1)) 2 with h' | h'
  · have : 2 ^ lenN (R + 1) ≤ 2 ^ 1 := Nat.pow_le_pow_right (by omega) (by omega)
    omega
  · exact h'
theorem valM_le (R : Nat) (h : R ≤ 4096) : valM R ≤ 13 := lenN_le _ _ (by omega)
theorem valT_eq (R : Nat) : valT R + (R + 1) + 1 = 2 ^ valM R := by
  have := lenN_pos (R + 1) (by omega)
  unfold valT valM
  omega
theorem val_half (R : Nat) (h : 1 ≤ R) : 2 ^ (valM R - 1) ≤ R + 1 ∧ 2 ^ valM R = 2 * 2 ^ (valM R - 1) ∧ valT R < 2 ^ (valM R - 1) := by
  have h1 := lenN_pos (R + 1) (by omega)
  have h2 := valM_ge R h
  have h3 := valT_eq R
  have e : 2 ^ valM R = 2 * 2 ^ (valM R - 1) := by rw [Nat.mul_comm, ← Nat.pow_succ, show (valM R - 1).succ = valM R from by omega]
  have h4 := h1.1
  unfold valM at *
  exact ⟨h4, e, by omega⟩

set_option maxHeartbeats 1000000 in
theorem valueBits_any (R : Nat) (hR : R ≤ 4096) (w : World) : Calls Tryz.prog 124 #[.int .i64 (R : Int)] w fun e w' => e = .returned (.tuple #[.int .i64 ((valM R : Nat) : Int), .int .u64 ((valT R : Nat) : Int)]) ∧ ∃ q, w' = w.drewN q := by
  have hM := valM_le R hR
  have hT := valT_eq R
  have hl := len_i (R + 1) ((R : Int) + 1) (by omega) (by omega)
  have e1 : (2 : Int) ^ valM R - 1 - ((R : Int) + 1) = ((valT R : Nat) : Int) := by
    have : ((2 ^ valM R : Nat) : Int) = (2 : Int) ^ valM R := by simp
    omega
  have hp : (2 : Nat) ^ valM R ≤ 2 ^ 13 := Nat.pow_le_pow_right (by omega) hM
  have hpI : (2 : Int) ^ valM R ≤ 8192 := by
    have : ((2 ^ valM R : Nat) : Int) = (2 : Int) ^ valM R := by simp
    omega
  have hp0 : (0 : Int) < (2 : Int) ^ valM R := by
    have : ((2 ^ valM R : Nat) : Int) = (2 : Int) ^ valM R := by simp
    have : 0 < 2 ^ valM R := Nat.pow_pos (by omega)
    omega
  unfold valM at *
  have HL := (show Hid (∀ w, _) from hl)
  have hT2 : valT R ≤ 8192 := by omega
  clear hl hT hp
  generalize lenN (R + 1) = m at *
  generalize valT R = t at *
  go_enter Tryz.func124, Tryz.ntmps124
  go_wp2_with (go_at_call 62; refine (HL.out _).mono ?_; rintro e w' ⟨rfl, rfl⟩)
  go_quiet (fail)
  go_wp2
  go_ret2
  exact ⟨rfl, _, rfl⟩

end Go.Proofs.YtgaepmmpedaaiaaGreatDoor

namespace Go.Proofs.YtgaepmmpedaaiaaGreatDoor
open Go.RowKit Go.Shelf

theorem addO (g o j : Nat) : (⟨g, o, none⟩ : Addr).add j = ⟨g, o + j, none⟩ := by unfold Addr.add; split <;> simp_all

/-- The slice at a reads as the numbers xs of kind k, which lie in block gb from off on. -/
structure RowI (w : World) (k : IntKind) (a : Option Addr) (cap gb off : Nat) (xs : List Int) : Prop where
  at_ : a = some (⟨gb, off, none⟩ : Addr) ∨ xs = []
  nil : a = none → cap = 0
  cells : ∀ j, j < xs.length → w.cell? ⟨gb, off + j, none⟩ = some (.int k (xs[j]?.getD 0))
  le : xs.length ≤ cap
theorem RowI.block {w : World} {k : IntKind} {a : Option Addr} {cap gb off : Nat} {xs : List Int} (h : RowI w k a cap gb off xs) (hb : xs ≠ []) : gb < w.heap.size :=
  World.block_lt_of_cell? w ⟨gb, off + 0, none⟩ (h.cells 0 (List.length_pos_iff.2 hb))
theorem RowI.keep {w w' : World} {S : Nat → Prop} {k : IntKind} {a : Option Addr} {cap gb off : Nat} {xs : List Int} (h : RowI w k a cap gb off xs) (hk : Keep S w w') (hS : xs ≠ [] → ¬ S gb) : RowI w' k a cap gb off xs :=
  ⟨h.at_, h.nil, fun j hj => by
    have hne : xs ≠ [] := by rintro rfl; simp at hj
    exact (World.cell?_of_block (hk.block gb (h.block hne) (hS hne))).trans (h.cells j hj), h.le⟩
theorem RowI.here {w : World} {k : IntKind} {a : Option Addr} {cap gb off : Nat} {xs : List Int} (h : RowI w k a cap gb off xs) {i : Nat} (hi : i < xs.length) : a = some ⟨gb, off, none⟩ := by
  rcases h.at_ with h | h
  · exact h
  · rw [h] at hi; simp at hi

/-- The slice operation by a name of one's own. -/
def sliceSem (t : TypeId) (x : Value) (lo hi mx : Option Value) : Sem Value := Instr.slice t x lo hi mx
theorem sliceSem_eq (t : TypeId) (x : Value) (lo hi mx : Option Value) : Instr.slice t x lo hi mx = sliceSem t x lo hi mx := rfl

theorem info42 : (Tryz.prog.info? 89).map (fun i => (i.zero, i.size, i.bytes)) = some (some (.int .i16 0), 1, 2) := by kernel_rfl
theorem info41 : (Tryz.prog.info? 52).map (fun i => (i.zero, i.size, i.bytes)) = some (some (.int .u32 0), 1, 4) := by kernel_rfl
theorem info3 : (Tryz.prog.info? 3).map (fun i => (i.zero, i.size, i.bytes)) = some (some (.int .i64 0), 1, 8) := by kernel_rfl

/-- Reslices of a type whose elements take one cell each. -/
theorem run_low {t e : TypeId} {z : Value} {b : Nat} (hu : Tryz.prog.underlying t = some (.slice e)) (hinfo : (Tryz.prog.info? e).map (fun i => (i.zero, i.size, i.bytes)) = some (some z, 1, b)) (a : Option Addr) (len cap k : Nat) (h1 : k ≤ len) (w : World) :
    (sliceSem t (.slice a len cap) (some (.int .i64 (k : Int))) none none).run Tryz.prog w = .ok (.slice (if cap = k then a else a.map (fun x => x.add k)) (len - k) (cap - k)) w := by
  obtain ⟨i0, hi, hz0, hz1, hz2⟩ := info_parts hinfo
  simp [sliceSem, Instr.slice, run_underlying hu, Instr.sliceBounds, Instr.sliceBound, asIntOf, h1, sizeOf, typeInfo, hi, hz1]
theorem run_high {t e : TypeId} {z : Value} {b : Nat} (hu : Tryz.prog.underlying t = some (.slice e)) (hinfo : (Tryz.prog.info? e).map (fun i => (i.zero, i.size, i.bytes)) = some (some z, 1, b)) (a : Option Addr) (len cap k : Nat) (h1 : k ≤ cap) (w : World) :
    (sliceSem t (.slice a len cap) none (some (.int .i64 (k : Int))) none).run Tryz.prog w = .ok (.slice a k cap) w := by
  obtain ⟨i0, hi, hz0, hz1, hz2⟩ := info_parts hinfo
  have e : (if cap = 0 then a else a.map (fun x => x.add 0)) = a := by
    split
    · rfl
    · cases a <;> simp [Addr.add]
  simp [sliceSem, Instr.slice, run_underlying hu, Instr.sliceBounds, Instr.sliceBound, asIntOf, h1, sizeOf, typeInfo, hi, e]

theorem RowI.drop {t e : TypeId} {z : Value} {b : Nat} (hu : Tryz.prog.underlying t = some (.slice e)) (hinfo : (Tryz.prog.info? e).map (fun i => (i.zero, i.size, i.bytes)) = some (some z, 1, b)) {w : World} {ki : IntKind} {a : Option Addr} {cap gb off : Nat} {xs : List Int} (h : RowI w ki a cap gb off xs) (k : Nat) (hk : k ≤ xs.length) :
    ∃ a' off', (∀ W, (sliceSem t (.slice a xs.length cap) (some (.int .i64 (k : Int))) none none).run Tryz.prog W = .ok (.slice a' (xs.drop k).length (cap - k)) W) ∧ RowI w ki a' (cap - k) gb off' (xs.drop k) := by
  have hc := h.le
  refine ⟨if cap = k then a else a.map (fun x => x.add k), if cap = k then off else off + k, fun W => by rw [run_low hu hinfo a xs.length cap k hk W, List.length_drop], ⟨?_, ?_, ?_, by rw [List.length_drop]; omega⟩⟩
  · rcases h.at_ with e | e
    · left
      subst e
      split
      · rfl
      · simp [addO]
    · right; rw [e]; simp
  · intro e
    split at e
    · have := h.nil e; omega
    · rw [Option.map_eq_none_iff] at e
      have := h.nil e; omega
  · intro j hj
    rw [List.length_drop] at hj
    have := h.cells (k + j) (by omega)
    rw [List.getElem?_drop, if_neg (by omega), Nat.add_assoc]
    exact this
theorem RowI.take {t e : TypeId} {z : Value} {b : Nat} (hu : Tryz.prog.underlying t = some (.slice e)) (hinfo : (Tryz.prog.info? e).map (fun i => (i.zero, i.size, i.bytes)) = some (some z, 1, b)) {w : World} {ki : IntKind} {a : Option Addr} {cap gb off : Nat} {xs : List Int} (h : RowI w ki a cap gb off xs) (k : Nat) (hk : k ≤ xs.length) :
    (∀ W, (sliceSem t (.slice a xs.length cap) none (some (.int .i64 (k : Int))) none).run Tryz.prog W = .ok (.slice a (xs.take k).length cap) W) ∧ RowI w ki a cap gb off (xs.take k) := by
  have hc := h.le
  have e : (xs.take k).length = k := by rw [List.length_take]; omega
  refine ⟨fun W => by rw [run_high hu hinfo a xs.length cap k (by omega) W, e], ⟨?_, h.nil, ?_, by omega⟩⟩
  · rcases h.at_ with e | e
    · exact .inl e
    · right; rw [e]; simp
  · intro j hj
    rw [e] at hj
    rw [List.getElem?_take, if_pos hj]
    exact h.cells j (by omega)

/-- Numbers of 16 bits. -/
def I16 (xs : List Int) : Prop := ∀ i : Nat, -32768 ≤ xs[i]?.getD 0 ∧ xs[i]?.getD 0 ≤ 32767
/-- How many states the first n counts take. -/
def sumS (xs : List Int) : Nat → Int
  | 0 => 0
  | n + 1 => sumS xs n + shareN (xs[n]?.getD 0)
/-- Do counts make a table? -/
def okT (xs : List Int) (log : Int) : Bool :=
  decide (5 ≤ log ∧ log ≤ 12 ∧ xs.length ≠ 0 ∧ xs.length ≤ 256 ∧ xs[xs.length - 1]?.getD 0 ≠ 0 ∧ (∀ i : Nat, i < xs.length → -1 ≤ xs[i]?.getD 0) ∧ sumS xs xs.length = 2 ^ log.toNat)
theorem shareN_le (c : Int) (h1 : -32768 ≤ c) (h2 : c ≤ 32767) : -32768 ≤ shareN c ∧ shareN c ≤ 32767 := by unfold shareN; split <;> omega
theorem sumS_le (xs : List Int) (h : I16 xs) (n : Nat) : -32768 * (n : Int) ≤ sumS xs n ∧ sumS xs n ≤ 32767 * (n : Int) := by
  induction n with
  | zero => simp [sumS]
  | succ n ih =>
    have := shareN_le _ (h n).1 (h n).2
    simp only [sumS]
    omega

section
attribute [local go_sem] sliceSem_eq

theorem pow_log (log : Int) (h1 : 5 ≤ log) (h2 : log ≤ 12) : ∃ l : Nat, log = (l : Int) ∧ 5 ≤ l ∧ l ≤ 12 ∧ (2 : Int) ^ l ≤ 4096 ∧ 32 ≤ (2 : Int) ^ l ∧ (2 : Int) ^ l = ((2 ^ l : Nat) : Int) := by
  obtain ⟨l, rfl⟩ := Int.eq_ofNat_of_zero_le (show 0 ≤ log by omega)
  have h3 : l = 5 ∨ l = 6 ∨ l = 7 ∨ l = 8 ∨ l = 9 ∨ l = 10 ∨ l = 11 ∨ l = 12 := by omega
  refine ⟨l, rfl, by omega, by omega, ?_⟩
  rcases h3 with rfl | rfl | rfl | rfl | rfl | rfl | rfl | rfl <;> decide

set_option maxRecDepth 100000 in
set_option maxHeartbeats 2000000 in
theorem makeTable_any (a : Option Addr) (cap gb off : Nat) (xs : List Int) (log : Int) (w : World) (h : RowI w .i16 a cap gb off xs) (hx : I16 xs) :
    Calls Tryz.prog 94 #[.slice a xs.length cap, .int .i64 log] w fun e w' => e = .returned (.bool (okT xs log)) ∧ w' = w := by
  by_cases hl : 5 ≤ log ∧ log ≤ 12
  · have hd : decide (5 ≤ log ∧ log ≤ 12) = true := decide_eq_true hl
    have HL := (show Hid (∀ w : World, Calls Tryz.prog 98 #[.int .i64 log] w fun e w' => e = .returned (.bool true) ∧ w' = w) from fun w => by have := isLog_any log w; rwa [hd] at this)
    by_cases h0 : xs.length = 0
    · have hz : ((xs.length : Int) == 0) = true := by simp [h0]
      have hr : okT xs log = false := decide_eq_false (fun h => h.2.2.1 h0)
      rw [hr]
      clear h
      generalize xs.length = n at *
      go_enter Tryz.func94, Tryz.ntmps94
      go_wp2_with (go_at_call 98; refine (HL.out _).mono ?_; rintro e w' ⟨rfl, rfl⟩)
      go_ret
      exact ⟨rfl, rfl⟩
    · have hz : ((xs.length : Int) == 0) = false := by rw [beq_eq_false_iff_ne]; omega
      by_cases h256 : xs.length ≤ 256
      · have hg : ¬ (256 : Int) < (xs.length : Int) := by omega
        obtain ⟨k, hk⟩ : ∃ k, xs.length = k + 1 := ⟨xs.length - 1, by omega⟩
        have hk1 : (xs.length : Int) - 1 = (k : Int) := by omega
        obtain rfl := h.here (i := k) (by omega)
        have hc := h.cells k (by omega)
        obtain ⟨y, hy⟩ : ∃ y, xs[k]?.getD 0 = y := ⟨_, rfl⟩
        rw [hy] at hc
        by_cases hy0 : y = 0
        · have hr : okT xs log = false := decide_eq_false (fun h => h.2.2.2.2.1 (by rw [hk, Nat.add_sub_cancel, hy]; exact hy0))
          rw [hr]
          subst hy0
          have HK := (show Hid _ from hk)
          have hki : (k : Int) < (xs.length : Int) := by omega
          clear h hk
          generalize xs.length = n at *
          go_enter Tryz.func94, Tryz.ntmps94
          go_wp2_with (go_at_call 98; refine (HL.out _).mono ?_; rintro e w' ⟨rfl, rfl⟩)
          go_ret
          exact ⟨rfl, rfl⟩
        · have hyb : (y == 0) = false := by simpa using hy0
          obtain ⟨l, rfl, hl1, hl2, hp1, hp2, hpe⟩ := pow_log log hl.1 hl.2
          have HR := (show Hid (RowI w .i16 (some ⟨gb, off, none⟩) cap gb off xs) from h)
          have HY := (show Hid (xs[k]?.getD 0 = y ∧ xs.length = k + 1 ∧ y ≠ 0) from ⟨hy, hk, hy0⟩)
          have hki : (k : Int) < (xs.length : Int) := by omega
          have HX := (show Hid (I16 xs) from hx)
          have HN := (show Hid (∃ n, n = xs.length) from ⟨_, rfl⟩)
          obtain ⟨n, hn⟩ := HN.out
          rw [← hn] at h256 hz hg hk1 hki ⊢
          have HN := (show Hid (n = xs.length) from hn)
          clear h hk hy hn hy0 hx hpe
          go_enter Tryz.func94, Tryz.ntmps94
          go_wp2_with (go_at_call 98; refine (HL.out _).mono ?_; rintro e w' ⟨rfl, rfl⟩)
          go_loop [5, 32] (fun s i => ∃ j : Nat, j ≤ n ∧ i = .int .i64 j ∧ s = .int .i64 (sumS xs j) ∧ Hid (∀ i : Nat, i < j → -1 ≤ xs[i]?.getD 0)) (fun _ i => n - (intOf i).toNat)
          case atStart => exact ⟨0, Nat.zero_le _, rfl, rfl, fun i hi => by omega⟩
          case round =>
            clear hc hk1 hki
            obtain ⟨j, hj, rfl, rfl, HA⟩ := hrel
            have hs := sumS_le xs HX.out j
            by_cases hlt : j < n
            · have hcj := HR.out.cells j (by have := HN.out; omega)
              have hb := HX.out j
              have HS := (show Hid (sumS xs (j + 1) = sumS xs j + shareN (xs[j]?.getD 0)) from rfl)
              have hAs : -1 ≤ xs[j]?.getD 0 → ∀ i : Nat, i < j + 1 → -1 ≤ xs[i]?.getD 0 := fun h i hi => by
                by_cases e : i = j
                · subst e; exact h
                · exact HA.out i (by omega)
              have HAS := (show Hid _ from hAs)
              have HOK := (show Hid (okT xs (l : Int) = true → -1 ≤ xs[j]?.getD 0) from fun h => (of_decide_eq_true h).2.2.2.2.2.1 j (by have := HN.out; omega))
              clear hAs
              generalize xs[j]?.getD 0 = x at *
              have hbs := shareN_le x hb.1 hb.2
              have HSH := (show Hid (∀ w : World, _) from fun w => share_any x hb.1 hb.2 w)
              obtain ⟨b1, b2⟩ := hb
              obtain ⟨b3, b4⟩ := hbs
              obtain ⟨b5, b6⟩ := hs
              have b7 : (j : Int) ≤ 256 := by omega
              generalize shareN x = sx at *
              generalize sumS xs j = sj at *
              by_cases hx1 : x < -1
              · go_wp2
                go_ret
                refine ⟨?_, rfl⟩
                have : okT xs (l : Int) = false := by
                  cases hb : okT xs (l : Int) with
                  | false => rfl
                  | true => have := HOK.out hb; omega
                rw [this]
                rfl
              · go_wp2_with (go_at_call 109; refine (HSH.out _).mono ?_; rintro e w' ⟨rfl, rfl⟩)
                go_round
                case rel => exact ⟨j + 1, by omega, by go_num, by rw [HS.out], HAS.out (by omega)⟩
                case measure => simp [intOf]; omega
            · obtain rfl : j = n := by omega
              have HB := (show Hid (okT xs (l : Int) = (sumS xs j == 2 ^ l)) from by
                have hn := HN.out
                obtain ⟨hy1, hy2, hy3⟩ := HY.out
                rw [Bool.eq_iff_iff]
                unfold okT
                rw [decide_eq_true_iff, beq_iff_eq]
                constructor
                · intro h; have := h.2.2.2.2.2.2; rw [← hn] at this; simpa using this
                · intro h
                  refine ⟨by omega, by omega, by omega, by omega, ?_, ?_, ?_⟩
                  · rw [hy2, Nat.add_sub_cancel, hy1]; exact hy3
                  · rw [← hn]; exact HA.out
                  · rw [← hn]; simpa using h)
              clear HR HX HY HN HA HL
              obtain ⟨b5, b6⟩ := hs
              generalize sumS xs j = sj at *
              go_wp2
              go_ret
              exact ⟨by rw [HB.out]; rfl, rfl⟩
      · have hg : (256 : Int) < (xs.length : Int) := by omega
        have hr : okT xs log = false := decide_eq_false (fun h => h256 h.2.2.2.1)
        rw [hr]
        clear h
        generalize xs.length = n at *
        go_enter Tryz.func94, Tryz.ntmps94
        go_wp2_with (go_at_call 98; refine (HL.out _).mono ?_; rintro e w' ⟨rfl, rfl⟩)
        go_ret
        exact ⟨rfl, rfl⟩
  · have hd : decide (5 ≤ log ∧ log ≤ 12) = false := decide_eq_false hl
    have hr : okT xs log = false := decide_eq_false (fun h => hl ⟨h.1, h.2.1⟩)
    have HL := (show Hid (∀ w : World, Calls Tryz.prog 98 #[.int .i64 log] w fun e w' => e = .returned (.bool false) ∧ w' = w) from fun w => by have := isLog_any log w; rwa [hd] at this)
    rw [hr]
    clear h
    go_enter Tryz.func94, Tryz.ntmps94
    go_wp2_with (go_at_call 98; refine (HL.out _).mono ?_; rintro e w' ⟨rfl, rfl⟩)
    go_ret
    exact ⟨rfl, rfl⟩

end

end Go.Proofs.YtgaepmmpedaaiaaGreatDoor
