/-
  The writer of package tail: what each of its calls does.
-/
import Derived.Test.YtoffnhbopjaocaaTlPush
namespace Go.Proofs.Ytoffnhbopjaocaa.Tl
open Go.RowKit Go.Shelf
set_option linter.unusedVariables false

attribute [local go_sem] Oper.semAt_some

/-- The bytes of a row of bits that are whole. -/
def whole (L : List (Fin 2)) : List Nat := (List.range (L.length / 8)).map (byteOf L)
theorem whole_length (L : List (Fin 2)) : (whole L).length = L.length / 8 := by simp [whole]
theorem whole_small (L : List (Fin 2)) (b : Fin 2) (h : L.length % 8 ≠ 7) : whole (L ++ [b]) = whole L := by
  have e : (L ++ [b]).length / 8 = L.length / 8 := by simp; omega
  unfold whole
  rw [e]
  exact List.map_congr_left (fun j hj => byteOf_old L b j (List.mem_range.1 hj))
theorem whole_full (L : List (Fin 2)) (b : Fin 2) (h : L.length % 8 = 7) : whole (L ++ [b]) = whole L ++ [byteOf (L ++ [b]) (L.length / 8)] := by
  have e : (L ++ [b]).length / 8 = L.length / 8 + 1 := by simp; omega
  unfold whole
  rw [e, List.range_succ, List.map_append]
  congr 1
  exact List.map_congr_left (fun j hj => byteOf_old L b j (List.mem_range.1 hj))
theorem bitL_pad (M : List (Fin 2)) (k i : Nat) : bitL (M ++ List.replicate k 0) i = bitL M i := by
  by_cases h : i < M.length
  · exact bitL_app M _ i h
  · obtain ⟨d, rfl⟩ : ∃ d, i = M.length + d := ⟨i - M.length, by omega⟩
    rw [bitL_behind, bitL_far M _ (by omega)]
    unfold bitL
    rw [List.getElem?_replicate]
    split <;> rfl
theorem byteOf_pad (M : List (Fin 2)) (k j : Nat) : byteOf (M ++ List.replicate k 0) j = byteOf M j :=
  numF_congr _ _ _ (fun i _ => bitL_pad M k _)
/-- Bits that are filled up to a byte's end: all bytes are whole. -/
theorem whole_pad (M : List (Fin 2)) (k : Nat) (hk : k < 8) (h : (M.length + k) % 8 = 0) : whole (M ++ List.replicate k 0) = pack M := by
  have e : (M ++ List.replicate k 0).length / 8 = (M.length + 7) / 8 := by simp; omega
  unfold whole pack
  rw [e]
  exact List.map_congr_left (fun j _ => byteOf_pad M k j)

/-- Block wb is a writer that was given the bits L; v is its row of whole bytes. -/
structure IsW (W : World) (wb : Nat) (v : Value) (L : List (Fin 2)) : Prop where
  obj : W.heap[wb]? = some (.cells #[v, .int .u8 ((byteOf L (L.length / 8) : Nat) : Int), .int .i64 ((L.length % 8 : Nat) : Int)] 45 (0, 0))
  row : W.ownsRow 0 5 1 v (whole L).length (u8s (whole L))

/-- A writer lies on wherever its blocks lie on. -/
theorem IsW.keep {W W' : World} {S : Nat → Prop} {wb : Nat} {v : Value} {L : List (Fin 2)} (h : IsW W wb v L) (hk : Keep S W W') (h1 : ¬ S wb) (h2 : ∀ k, v.ownBlock = some k → ¬ S k) : IsW W' wb v L :=
  ⟨hk.obj h.obj h1, owns_keep h.row hk h2⟩
theorem IsW.row_lt {W : World} {wb : Nat} {v : Value} {L : List (Fin 2)} (h : IsW W wb v L) : ∀ k, v.ownBlock = some k → k < W.heap.size := fun k e => (h.row.lt k e).2

/-- push: a bit behind. -/
theorem push_any (wb : Nat) (v : Value) (L : List (Fin 2)) (b : Fin 2) (hL : L.length < 1099511627776) (w : World) (h : IsW w wb v L) :
    Calls Try.prog 51 #[.pointer (some ⟨wb, 0, none⟩), .int .u8 ((b.val : Nat) : Int)] w fun e w' => e = .returned (.tuple #[]) ∧ ∃ v', IsW w' wb v' (L ++ [b]) ∧ Moves w.heap.size v v' ∧ Keep (fun k => k = wb ∨ v.ownBlock = some k) w w' := by
  have hwl := whole_length L
  have hl1 : (L ++ [b]).length = L.length + 1 := by simp
  have hbl := byteOf_last L b
  by_cases hm : L.length % 8 = 7
  · have ho := h.obj
    rw [hm] at ho
    refine (push_full wb (byteOf L (L.length / 8)) b.val v (whole L) (byteOf_lt _ _) b.isLt (by omega) w ho h.row).mono ?_
    rintro e w' ⟨rfl, g, cap, ho', hr, hat, hk⟩
    rw [hm] at hbl
    rw [← hbl] at hr
    refine ⟨rfl, .slice (some ⟨g, 0, none⟩) ((whole L).length + 1) cap, ⟨?_, ?_⟩, hat.elim (fun e => .inl e.symm) (fun e => .inr ⟨g, rfl, e⟩), hk⟩
    · rw [ho', byteOf_far (L ++ [b]) ((L ++ [b]).length / 8) (by omega), show (L ++ [b]).length % 8 = 0 from by omega]
      rfl
    · rw [whole_full L b hm]; simpa using hr
  · refine (push_small wb (L.length % 8) (byteOf L (L.length / 8)) b.val v (by omega) (byteOf_lt _ _) b.isLt w h.obj).mono ?_
    rintro e w' ⟨rfl, ho', hk⟩
    have hvb := owns_ne h.row h.obj (by decide)
    refine ⟨rfl, v, ⟨?_, ?_⟩, .inl rfl, hk.mono (fun k _ e => .inl e)⟩
    · rw [ho', ← hbl, show (L ++ [b]).length / 8 = L.length / 8 from by omega, show (L ++ [b]).length % 8 = L.length % 8 + 1 from by omega]
    · rw [whole_small L b hm]
      exact owns_keep h.row hk (fun k e1 e2 => hvb (by rw [← e2]; exact e1))

theorem keepsFrom_push {W W' : World} {wb : Nat} {v : Value} {L : List (Fin 2)} (h : IsW W wb v L) (hk : Keep (fun k => k = wb ∨ v.ownBlock = some k) W W') (B : Nat) : KeepsFrom B W W' := by
  refine ⟨hk.size, fun k o _ ho hc => hk.obj ho ?_⟩
  rintro (rfl | e)
  · rw [h.obj] at ho; cases ho; cases hc
  · rcases h.row.2 with ⟨rfl, _⟩ | ⟨g, cap, cur, rfl, _, hg, _⟩
    · cases e
    · obtain rfl : g = k := by simpa [Value.ownBlock] using e
      rw [hg] at ho; cases ho; cases hc

theorem isW_own (wb n : Nat) (v : Value) (L : List (Fin 2)) : Own (fun (pre : List (Fin 2)) W => ∃ v', IsW W wb v' (L ++ pre) ∧ Moves n v v') := by
  rintro s X Y row ⟨v', h, hm⟩ hg hrow
  have hc : ∀ {b : Nat} {cs : Array Value} {t : TypeId}, X.heap[b]? = some (.cells cs t (0, 0)) → some b ≠ row := fun {b cs t} hb e => by
    obtain ⟨o, ho, hc⟩ := hrow b e.symm
    rw [hb] at ho; cases ho; cases hc
  refine ⟨v', ⟨(hg.block wb (obj_lt h.obj) (hc h.obj)).trans h.obj, h.row.1, ?_⟩, hm⟩
  rcases h.row.2 with hn | ⟨g, cap, cur, rfl, hb, hgb, hr⟩
  · exact .inl hn
  · exact .inr ⟨g, cap, cur, rfl, hb, (hg.block g (obj_lt hgb) (hc hgb)).trans hgb, hr⟩

/-- The iterator's word, at the world where the loop begins. -/
theorem lowest_stops (n : Nat) (hn : 1 ≤ n) (Bx Bn x m : Nat) (hx : x < 18446744073709551616) (hm : m ≤ 56)
    (W : World) (hBx : W.heap[Bx]? = some (.cells #[.int .u64 (x : Int)] 52 (0, 0))) (hBn : W.heap[Bn]? = some (.cells #[.int .i64 (m : Int)] 3 (0, 0))) :
    SeqStopsK Fence.wide n Try.prog 68 #[.pointer (some ⟨Bn, 0, none⟩), .pointer (some ⟨Bx, 0, none⟩)] (fun b : Fin 2 => #[Value.int .u8 ((b.val : Nat) : Int)])
      (Stay (fun k => k = Bx ∨ k = Bn)) (fun ys => ys = upto (fun j => (⟨bitOf x j, bitOf_lt x j⟩ : Fin 2)) m) (fun _ => True) m W := fun l J Jx W1 hW _ _ hY h0 => by
  refine lowest1_in Fence.wide n trivial rfl hn l Bx Bn x m hx hm J Jx hY W1 ((hW.block _ (obj_lt hBx)).trans hBx) ((hW.block _ (obj_lt hBn)).trans hBn) h0

set_option maxRecDepth 100000 in
set_option maxHeartbeats 1000000 in
/-- Put(x, m): the lowest m bits of x behind. -/
theorem put_any (wb : Nat) (v : Value) (L : List (Fin 2)) (x m : Nat) (hx : x < 18446744073709551616) (hm : m ≤ 56) (hL : L.length < 1000000000000) (w : World) (h : IsW w wb v L) :
    Calls Try.prog 19 #[.pointer (some ⟨wb, 0, none⟩), .int .u64 (x : Int), .int .i64 (m : Int)] w fun e w' => e = .returned (.int .i64 0) ∧ ∃ v', IsW w' wb v' (L ++ low x m) ∧ Moves w.heap.size v v' ∧ Keep (fun k => k = wb ∨ v.ownBlock = some k) w w' := by
  have hd1 : decide ((m : Int) < 0) = false := decide_eq_false (by omega)
  have hd2 : decide (56 < (m : Int)) = false := decide_eq_false (by omega)
  refine (callsIn_wide (n := 4)).1 ?_
  refine callsIn_of_wp_marks Try.func19 rfl trivial ?_ rfl
  simp only [Try.ntmps19, List.size_toArray, List.length_cons, List.length_nil, Nat.reduceAdd, Nat.reduceSub, Array.replicate_succ, Array.replicate_zero, List.push_toArray, List.append_toArray, List.nil_append, List.cons_append]
  gi_wp2_with (refine ⟨trivial, ?_⟩; (gi_at_call 50; refine (lowest_in Fence.wide _ trivial rfl _ _ _).mono ?_; rintro e w' ⟨rfl, rfl⟩))
  obtain ⟨b0, b1, b2, bsz, bkp⟩ := boxes3 w (Obj.cells #[Value.pointer (some { block := wb, off := 0 })] 43) (Obj.cells #[Value.int IntKind.u64 ↑x] 52) (Obj.cells #[Value.int IntKind.i64 ↑m] 3)
  generalize ((w.alloc (Obj.cells #[Value.pointer (some { block := wb, off := 0 })] 43)).alloc (Obj.cells #[Value.int IntKind.u64 ↑x] 52)).alloc (Obj.cells #[Value.int IntKind.i64 ↑m] 3) = W0 at b0 b1 b2 bsz bkp ⊢
  have hwb := obj_lt h.obj
  have h0 : IsW W0 wb v L := h.keep bkp (fun h => h) (fun _ _ h => h)
  refine wpIn_rangeFunc_ownG rfl (by omega) (gf := 68) rfl trivial (enters_of Try.func68 (by kernel_rfl) rfl)
    (lowest_stops 3 (by omega) (w.heap.size + 1) (w.heap.size + 1 + 1) x m hx hm W0 b1 b2)
    (fun h k => h.trans k) (Stay.putObj (by rintro k (rfl | rfl) <;> omega)) (Below.refl _ _) (fun _ => rfl)
    (fun pre W => (∃ v', IsW W wb v' (L ++ pre) ∧ Moves w.heap.size v v') ∧ Boxed W w.heap.size 43 (.pointer (some ⟨wb, 0, none⟩)) ∧ Boxed W (w.heap.size + 1) 52 (.int .u64 (x : Int)) ∧ Boxed W (w.heap.size + 1 + 1) 3 (.int .i64 (m : Int)) ∧ Keep (fun k => k = wb ∨ v.ownBlock = some k) w W)
    (fun _ _ _ => False)
    (OwnFrom.and (Own.from (isW_own _ _ _ _) _) (OwnFrom.and (Own.from (boxed_own _ _ _) _) (OwnFrom.and (Own.from (boxed_own _ _ _) _) (OwnFrom.and (Own.from (boxed_own _ _ _) _) (ownFrom_keep (by omega))))))
    (fun _ _ _ _ _ hs _ _ => hs)
    ⟨⟨v, by simpa using h0, .inl rfl⟩, b0, b1, b2, bkp.mono (fun _ _ h => h.elim)⟩
    (fun b => { tmps := #[.pointer (some ⟨wb, 0, none⟩), .int .u64 (x : Int), .int .i64 (m : Int), .pointer (some ⟨w.heap.size, 0, none⟩), undef, undef, .int .i64 0, .int .u8 ((b.val : Nat) : Int), .pointer (some ⟨wb, 0, none⟩), .bool false, .int .i64 (m : Int), .bool false, .bool false, .int .i64 (m : Int), .bool false, .bool false,
      .int .u64 (x : Int), .int .i64 (m : Int), .func (.func 68) #[] #[.pointer (some ⟨w.heap.size + 1 + 1, 0, none⟩), .pointer (some ⟨w.heap.size + 1, 0, none⟩)], .int .u8 ((b.val : Nat) : Int), undef, undef, undef], defers := [] }) ?assign ?body ?done ?stop
  case assign =>
    intro l b W K hK
    gi_wp2
    exact hK
  case body =>
    rintro l pre b W ⟨⟨v1, hW1, hM1⟩, c0, c1, c2, hKw⟩ hlt
    have hc0 := c0.cell
    have hlen : (L ++ pre).length < 1099511627776 := by rw [List.length_append]; omega
    gi_wp2_with (refine ⟨trivial, ?_⟩; gi_at_call 51; refine (CallsIn.inRound l (callsIn_wide.2 (push_any wb v1 (L ++ pre) b hlen _ hW1))).mono ?_; rintro e w' ⟨rfl, v2, hW2, hM2, hK2⟩)
    have n0 : ¬ (w.heap.size = wb ∨ v1.ownBlock = some w.heap.size) := by rintro (e | e); omega; exact owns_ne hW1.row c0 (by decide) e
    have n1 : ¬ (w.heap.size + 1 = wb ∨ v1.ownBlock = some (w.heap.size + 1)) := by rintro (e | e); omega; exact owns_ne hW1.row c1 (by decide) e
    have n2 : ¬ (w.heap.size + 1 + 1 = wb ∨ v1.ownBlock = some (w.heap.size + 1 + 1)) := by rintro (e | e); omega; exact owns_ne hW1.row c2 (by decide) e
    refine ⟨keepsFrom_push hW1 hK2 _, ?_, ⟨v2, by rw [← List.append_assoc]; exact hW2, hM1.trans hM2 hKw.size⟩, hK2.obj c0 n0, hK2.obj c1 n1, hK2.obj c2 n2, hKw.trans hK2 ?_⟩
    · rintro k (rfl | rfl)
      · exact hK2.block _ (obj_lt c1) n1
      · exact hK2.block _ (obj_lt c2) n2
    · rintro i hi (e | e)
      · exact .inl e
      · rcases hM1 with e2 | ⟨k, e2, hk⟩
        · exact .inr (by rw [← e2]; exact e)
        · rw [e2] at e; cases e; omega
  case done =>
    rintro D ys W hD rfl ⟨⟨v1, hW1, hM1⟩, c0, c1, c2, hKw⟩ hK
    gi_wp2
    refine ⟨by simp, .inl ⟨_, _, rfl, run_takeDeferred hK, ?_⟩⟩
    have hk : Keep (fun k => k = D) W (W.putObj D (.deferred none)) := (Keep.refl _ W).putObj D _ (fun _ => rfl)
    refine ⟨_, results_tmp rfl _ _ _, rfl, v1, hW1.keep hk ?_ ?_, hM1, hKw.putObj D _ (fun hd => by omega)⟩
    · rintro rfl; rw [hW1.obj] at hK; cases hK
    · rintro k e rfl
      rcases hW1.row.2 with ⟨rfl, _⟩ | ⟨g, cap, cur, rfl, _, hg, _⟩
      · cases e
      · obtain rfl : g = k := by simpa [Value.ownBlock] using e
        rw [hg] at hK; cases hK
  case stop =>
    rintro D c pre W _ _ h _
    exact h.elim

set_option maxHeartbeats 400000 in
/-- Put, where so many bits can't be put. -/
theorem put_arg (wb : Nat) (x n : Int) (hn : ¬ (0 ≤ n ∧ n ≤ 56)) (w : World) :
    Calls Try.prog 19 #[.pointer (some ⟨wb, 0, none⟩), .int .u64 x, .int .i64 n] w fun e w' => e = .returned (.int .i64 2) ∧ Keep noBlock w w' := by
  refine (callsIn_wide (n := 4)).1 ?_
  refine callsIn_of_wp_marks Try.func19 rfl trivial ?_ rfl
  simp only [Try.ntmps19, List.size_toArray, List.length_cons, List.length_nil, Nat.reduceAdd, Nat.reduceSub, Array.replicate_succ, Array.replicate_zero, List.push_toArray, List.append_toArray, List.nil_append, List.cons_append]
  by_cases h0 : n < 0
  · have hd1 : decide (n < 0) = true := decide_eq_true h0
    gi_wp2
    exact ⟨_, results_tmp rfl _ _ _, rfl, (Keep.refl _ w).alloc _⟩
  · have hd1 : decide (n < 0) = false := decide_eq_false h0
    have hd2 : decide (56 < n) = true := decide_eq_true (by omega)
    gi_wp2
    exact ⟨_, results_tmp rfl _ _ _, rfl, (Keep.refl _ w).alloc _⟩

/-- How many bits the byte has that is not whole. -/
def heldN (W : World) (wb : Nat) : Nat := match W.cell? ⟨wb, 2, none⟩ with | some (.int _ n) => n.toNat | _ => 0
theorem heldN_of {W : World} {wb : Nat} {v : Value} {L : List (Fin 2)} (h : IsW W wb v L) : heldN W wb = L.length % 8 := by
  unfold heldN
  rw [cell_of h.obj 2]
  rfl

set_option maxRecDepth 100000 in
set_option maxHeartbeats 1000000 in
/-- Close: the bytes of what was put, with the mark; the writer is empty then. -/
theorem close_any (wb : Nat) (v : Value) (L : List (Fin 2)) (hL : L.length < 1000000000000) (w : World) (h : IsW w wb v L) :
    Calls Try.prog 21 #[.pointer (some ⟨wb, 0, none⟩)] w fun e w' => ∃ v', e = .returned v' ∧ w'.ownsRow 0 5 1 v' (pack (L ++ [1])).length (u8s (pack (L ++ [1]))) ∧ IsW w' wb (.slice none 0 0) [] ∧ Moves w.heap.size v v' ∧ Keep (fun k => k = wb ∨ v.ownBlock = some k) w w' := by
  go_enter Try.func21, Try.ntmps21
  go_wp2_with (go_at_call 51; refine (push_any wb v L 1 (by omega) _ h).mono ?_; rintro e w1 ⟨rfl, v1, hW1, hM1, hK1⟩)
  have hl1 : (L ++ [1]).length = L.length + 1 := by simp
  go_loopw [] (fun wr => ∃ (k : Nat) (v' : Value), k ≤ (8 - (L.length + 1) % 8) % 8 ∧ IsW wr wb v' (L ++ [1] ++ List.replicate k 0) ∧ Moves w.heap.size v v' ∧ Keep (fun k => k = wb ∨ v.ownBlock = some k) w wr) (fun wr => (8 - heldN wr wb % 8) % 8)
  case atStart => exact ⟨0, v1, Nat.zero_le _, by simpa using hW1, hM1, hK1⟩
  case round =>
    obtain ⟨k, v2, hk, hW, hM, hK⟩ := hrel
    have hll : (L ++ [1] ++ List.replicate k 0).length = L.length + 1 + k := by simp; omega
    have hc2 : wr.cell? ⟨wb, 2, none⟩ = some (.int .i64 (((L ++ [1] ++ List.replicate k 0).length % 8 : Nat) : Int)) := cell_of hW.obj 2
    have hrep : L ++ [1] ++ List.replicate (k + 1) 0 = L ++ [1] ++ List.replicate k 0 ++ [0] := by rw [List.replicate_succ', ← List.append_assoc]
    have hHN := heldN_of hW
    have HREP := (show Hid _ from hrep)
    have HPAD : Hid (k = (8 - (L.length + 1) % 8) % 8 → whole (L ++ [1] ++ List.replicate k 0) = pack (L ++ [1])) := fun e => whole_pad _ k (by omega) (by rw [hl1]; omega)
    clear hrep
    generalize L ++ [1] ++ List.replicate k 0 = M at hW hll hc2 HREP hHN HPAD
    obtain ⟨q, hq⟩ : ∃ q, M.length % 8 = q := ⟨_, rfl⟩
    rw [hq] at hc2 hHN
    by_cases hlt : k < (8 - (L.length + 1) % 8) % 8
    · have hne : ((q : Int) != 0) = true := by simp; omega
      have hML : M.length < 1099511627776 := by omega
      have HH := (show Hid _ from hHN)
      have HQ := (show Hid _ from hq)
      clear hHN hq
      go_wp2_with (go_at_call 51; refine (push_any wb v2 M 0 hML _ hW).mono ?_; rintro e w2 ⟨rfl, v3, hW3, hM3, hK3⟩)
      go_roundw
      case rel =>
        refine ⟨k + 1, v3, by omega, by rw [HREP.out]; exact hW3, hM.trans hM3 hK.size, hK.trans hK3 ?_⟩
        rintro i hi (e | e)
        · exact .inl e
        · rcases hM with e2 | ⟨j, e2, hj⟩
          · exact .inr (by rw [← e2]; exact e)
          · rw [e2] at e; cases e; omega
      case measure =>
        rw [heldN_of hW3, HH.out]
        have := HQ.out
        simp
        omega
    · have hke : k = (8 - (L.length + 1) % 8) % 8 := by omega
      have hq0 : q = 0 := by omega
      subst hq0
      have hwp := HPAD.out hke
      have hrow := hW.row
      rw [hwp] at hrow
      have hvb := owns_ne hW.row hW.obj (by decide)
      have ho := hW.obj
      have hc0 : wr.cell? ⟨wb, 0, none⟩ = some v2 := cell_of hW.obj 0
      have hc1 : wr.cell? ⟨wb, 1, none⟩ = some (.int .u8 ((byteOf M (M.length / 8) : Nat) : Int)) := cell_of hW.obj 1
      have hc20 : wr.cell? ⟨wb, 2, none⟩ = some (.int .i64 0) := hc2
      clear hc2
      have hf0 := frozen_of ho 0
      have hf1 := frozen_of ho 1
      have hf2 := frozen_of ho 2
      have HK := (show Hid _ from hke)
      clear hke hlt hk hHN hq
      obtain ⟨sa, cap, rfl⟩ := owns_form hrow
      go_wp2
      go_ret
      have hks : Keep (fun k => k = wb) wr (((wr.setCell ⟨wb, 0, none⟩ (.slice none 0 0)).setCell ⟨wb, 1, none⟩ (.int .u8 0)).setCell ⟨wb, 2, none⟩ (.int .i64 0)) :=
        (((Keep.refl (fun k => k = wb) wr).setCell (p := ⟨wb, 0, none⟩) (fun _ => rfl) _).setCell (p := ⟨wb, 1, none⟩) (fun _ => rfl) _).setCell (p := ⟨wb, 2, none⟩) (fun _ => rfl) _
      refine ⟨_, rfl, owns_keep hrow hks (fun k e1 e2 => hvb (by rw [← e2]; exact e1)), ⟨(set_obj (set_obj (set_obj ho 0 _) 1 _) 2 _).trans ?_, World.ownsRow_nil _ _ _ _⟩, hM, hK.trans hks (fun i hi e => .inl e)⟩
      rw [show byteOf ([] : List (Fin 2)) (([] : List (Fin 2)).length / 8) = 0 from by decide]
      simp

/-- A new writer. -/
theorem isW_new (w : World) : IsW (w.alloc (.cells #[.slice none 0 0, .int .u8 0, .int .i64 0] 45)) w.heap.size (.slice none 0 0) [] := by
  refine ⟨(World.alloc_heap_new w _).trans ?_, World.ownsRow_nil _ _ _ _⟩
  rw [show byteOf ([] : List (Fin 2)) (([] : List (Fin 2)).length / 8) = 0 from by decide]
  rfl

end Go.Proofs.Ytoffnhbopjaocaa.Tl
