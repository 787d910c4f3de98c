/-
  The writer of package bits: what each of its calls does.
-/
import Derived.Test.YtoffnhbopjaocaaPush
import Derived.Test.YtoffnhbopjaocaaPack
namespace Go.Proofs.Ytoffnhbopjaocaa
open Go.RowKit Go.Shelf

attribute [local go_sem] Oper.semAt_some

/-- Block wb is a writer that was given the bits L; v is its row of bytes. -/
structure IsW (W : World) (wb : Nat) (v : Value) (L : List (Fin 2)) : Prop where
  obj : W.heap[wb]? = some (.cells #[v, .int .i64 (L.length : Int)] 61 (0, 0))
  row : W.ownsRow 0 5 1 v (pack L).length (u8s (pack L))

/-- The row v' lies where v lay, or in memory that is new since there were n blocks. -/
def Moves (n : Nat) (v v' : Value) : Prop := v'.ownBlock = v.ownBlock ∨ ∃ k, v'.ownBlock = some k ∧ n ≤ k
theorem Moves.refl (n : Nat) (v : Value) : Moves n v v := .inl rfl
theorem Moves.trans {m n : Nat} {a b c : Value} (h : Moves m a b) (k : Moves n b c) (hmn : m ≤ n) : Moves m a c := by
  rcases k with k | ⟨i, k, hi⟩
  · rcases h with h | ⟨j, h, hj⟩
    · exact .inl (k.trans h)
    · exact .inr ⟨j, k.trans h, hj⟩
  · exact .inr ⟨i, k, by omega⟩

theorem owns_keep {W W' : World} {S : Nat → Prop} {base e size n : Nat} {v : Value} {xs : List Value} (h : W.ownsRow base e size v n xs) (hk : Keep S W W') (h2 : ∀ k, v.ownBlock = some k → ¬ S k) : W'.ownsRow base e size v n xs := by
  refine ⟨h.1, ?_⟩
  rcases h.2 with hn | ⟨g, cap, cur, rfl, hb, hg, hr⟩
  · exact .inl hn
  · exact .inr ⟨g, cap, cur, rfl, hb, hk.obj hg (h2 g rfl), hr⟩
/-- A writer lies on wherever its blocks lie on. -/
theorem IsW.keep {W W' : World} {S : Nat → Prop} {wb : Nat} {v : Value} {L : List (Fin 2)} (h : IsW W wb v L) (hk : Keep S W W') (h1 : ¬ S wb) (h2 : ∀ k, v.ownBlock = some k → ¬ S k) : IsW W' wb v L :=
  ⟨hk.obj h.obj h1, owns_keep h.row hk h2⟩
theorem IsW.row_lt {W : World} {wb : Nat} {v : Value} {L : List (Fin 2)} (h : IsW W wb v L) : ∀ k, v.ownBlock = some k → k < W.heap.size := fun k e => (h.row.lt k e).2

/-- push: a bit behind. -/
theorem push_any (wb : Nat) (v : Value) (L : List (Fin 2)) (b : Fin 2) (hL : L.length < 1099511627776) (w : World) (h : IsW w wb v L) :
    Calls Try.prog 58 #[.pointer (some ⟨wb, 0, none⟩), .int .u8 ((b.val : Nat) : Int)] w fun e w' => e = .returned (.tuple #[]) ∧ ∃ v', IsW w' wb v' (L ++ [b]) ∧ Moves w.heap.size v v' ∧ Keep (fun k => k = wb ∨ v.ownBlock = some k) w w' := by
  have hpl := pack_length L
  by_cases hm : L.length % 8 = 0
  · refine (push_new wb L.length b.val v (pack L) b.isLt hL w h.obj h.row (by rw [hpl]; omega) hm).mono ?_
    rintro e w' ⟨rfl, g, cap, ho, hr, hat, hk⟩
    refine ⟨rfl, .slice (some ⟨g, 0, none⟩) ((pack L).length + 1) cap, ⟨?_, ?_⟩, hat.elim (fun e => .inl e.symm) (fun e => .inr ⟨g, rfl, e⟩), hk⟩
    · rw [ho]; simp
    · rw [pack_new L b hm]; simpa using hr
  · have hr0 := h.row
    rcases hr0.2 with ⟨rfl, h0⟩ | ⟨g, cap, cur, rfl, _, hg, _⟩
    · rw [hpl] at h0; omega
    · refine (push_old wb g cap L.length b.val (pack L) b.isLt hL w h.obj h.row (pack_lt L) (by rw [hpl]; omega) hm).mono ?_
      rintro e w' ⟨rfl, ho, hr, hk⟩
      refine ⟨rfl, _, ⟨?_, ?_⟩, .inl rfl, hk.mono (fun k _ hk => hk.imp id (fun e => by rw [e]; rfl))⟩
      · rw [ho]; simp
      · rw [pack_old L b hm]; simpa using hr

theorem keepsFrom_push {W W' : World} {wb : Nat} {v : Value} {L : List (Fin 2)} (h : IsW W wb v L) (hk : Keep (fun k => k = wb ∨ v.ownBlock = some k) W W') (B : Nat) : KeepsFrom B W W' := by
  refine ⟨hk.size, fun k o _ ho hc => hk.obj ho ?_⟩
  rintro (rfl | e)
  · rw [h.obj] at ho; cases ho; cases hc
  · rcases h.row.2 with ⟨rfl, _⟩ | ⟨g, cap, cur, rfl, _, hg, _⟩
    · cases e
    · obtain rfl : g = k := by simpa [Value.ownBlock] using e
      rw [hg] at ho; cases ho; cases hc

theorem isW_own (wb n : Nat) (v : Value) (L : List (Fin 2)) : Own (fun (pre : List (Fin 2)) W => ∃ v', IsW W wb v' (L ++ pre) ∧ Moves n v v') := by
  rintro s X Y row ⟨v', h, hm⟩ hg hrow
  have hc : ∀ {b : Nat} {cs : Array Value} {t : TypeId}, X.heap[b]? = some (.cells cs t (0, 0)) → some b ≠ row := fun {b cs t} hb e => by
    obtain ⟨o, ho, hc⟩ := hrow b e.symm
    rw [hb] at ho; cases ho; cases hc
  refine ⟨v', ⟨(hg.block wb (obj_lt h.obj) (hc h.obj)).trans h.obj, h.row.1, ?_⟩, hm⟩
  rcases h.row.2 with hn | ⟨g, cap, cur, rfl, hb, hgb, hr⟩
  · exact .inl hn
  · exact .inr ⟨g, cap, cur, rfl, hb, (hg.block g (obj_lt hgb) (hc hgb)).trans hgb, hr⟩

/-- The iterator's word, at the world where the loop begins. -/
theorem lowest_stops (n : Nat) (hn : 1 ≤ n) (Bx Bn x m : Nat) (hx : x < 18446744073709551616) (hm : m ≤ 56)
    (W : World) (hBx : W.heap[Bx]? = some (.cells #[.int .u64 (x : Int)] 52 (0, 0))) (hBn : W.heap[Bn]? = some (.cells #[.int .i64 (m : Int)] 3 (0, 0))) :
    SeqStopsK Fence.wide n Try.prog 70 #[.pointer (some ⟨Bn, 0, none⟩), .pointer (some ⟨Bx, 0, none⟩)] (fun b : Fin 2 => #[Value.int .u8 ((b.val : Nat) : Int)])
      (Stay (fun k => k = Bx ∨ k = Bn)) (fun ys => ys = upto (fun j => (⟨bitOf x j, bitOf_lt x j⟩ : Fin 2)) m) (fun _ => True) m W := fun l J Jx W1 hW _ _ hY h0 => by
  refine lowest1_in Fence.wide n trivial rfl hn l Bx Bn x m hx hm J Jx hY W1 ((hW.block _ (obj_lt hBx)).trans hBx) ((hW.block _ (obj_lt hBn)).trans hBn) h0

theorem boxes3 (w : World) (o0 o1 o2 : Obj) :
    (((w.alloc o0).alloc o1).alloc o2).heap[w.heap.size]? = some o0 ∧ (((w.alloc o0).alloc o1).alloc o2).heap[w.heap.size + 1]? = some o1 ∧
    (((w.alloc o0).alloc o1).alloc o2).heap[w.heap.size + 1 + 1]? = some o2 ∧ (((w.alloc o0).alloc o1).alloc o2).heap.size = w.heap.size + 3 ∧ Keep noBlock w (((w.alloc o0).alloc o1).alloc o2) := by
  have e0 := World.alloc_heap_new w o0
  have e1 := World.alloc_heap_new (w.alloc o0) o1
  have e2 := World.alloc_heap_new ((w.alloc o0).alloc o1) o2
  simp only [World.size_alloc] at e1 e2
  refine ⟨alloc_far (alloc_far e0 _) _, alloc_far e1 _, e2, ?_, ((((Keep.refl _ w).alloc _).alloc _).alloc _)⟩
  simp only [World.size_alloc]

/-- The lowest m bits of x. -/
def low (x m : Nat) : List (Fin 2) := upto (fun j => (⟨bitOf x j, bitOf_lt x j⟩ : Fin 2)) m
theorem low_length (x m : Nat) : (low x m).length = m := upto_length _ _

set_option maxRecDepth 100000 in
set_option maxHeartbeats 1000000 in
/-- Put(x, m): the lowest m bits of x behind. -/
theorem put_any (wb : Nat) (v : Value) (L : List (Fin 2)) (x m : Nat) (hx : x < 18446744073709551616) (hm : m ≤ 56) (hL : L.length < 1000000000000) (w : World) (h : IsW w wb v L) :
    Calls Try.prog 25 #[.pointer (some ⟨wb, 0, none⟩), .int .u64 (x : Int), .int .i64 (m : Int)] w fun e w' => e = .returned (.int .i64 0) ∧ ∃ v', IsW w' wb v' (L ++ low x m) ∧ Moves w.heap.size v v' ∧ Keep (fun k => k = wb ∨ v.ownBlock = some k) w w' := by
  have hd : decide (0 ≤ (m : Int) ∧ (m : Int) ≤ 56) = true := decide_eq_true ⟨by omega, by omega⟩
  refine (callsIn_wide (n := 4)).1 ?_
  refine callsIn_of_wp_marks Try.func25 rfl trivial ?_ rfl
  simp only [Try.ntmps25, List.size_toArray, List.length_cons, List.length_nil, Nat.reduceAdd, Nat.reduceSub, Array.replicate_succ, Array.replicate_zero, List.push_toArray, List.append_toArray, List.nil_append, List.cons_append]
  gi_wp2_with (refine ⟨trivial, ?_⟩; first | (gi_at_call 56; refine (callsIn_wide.2 (canCount_any _ _)).mono ?_; rw [hd]; rintro e w' ⟨rfl, rfl⟩) | (gi_at_call 57; refine (lowest_in Fence.wide _ trivial rfl _ _ _).mono ?_; rintro e w' ⟨rfl, rfl⟩))
  obtain ⟨b0, b1, b2, bsz, bkp⟩ := boxes3 w (Obj.cells #[Value.pointer (some { block := wb, off := 0 })] 59) (Obj.cells #[Value.int IntKind.u64 ↑x] 52) (Obj.cells #[Value.int IntKind.i64 ↑m] 3)
  generalize ((w.alloc (Obj.cells #[Value.pointer (some { block := wb, off := 0 })] 59)).alloc (Obj.cells #[Value.int IntKind.u64 ↑x] 52)).alloc (Obj.cells #[Value.int IntKind.i64 ↑m] 3) = W0 at b0 b1 b2 bsz bkp ⊢
  have hwb := obj_lt h.obj
  have h0 : IsW W0 wb v L := h.keep bkp (fun h => h) (fun _ _ h => h)
  refine wpIn_rangeFunc_ownG rfl (by omega) (gf := 70) rfl trivial (enters_of Try.func70 (by kernel_rfl) rfl)
    (lowest_stops 3 (by omega) (w.heap.size + 1) (w.heap.size + 1 + 1) x m hx hm W0 b1 b2)
    (fun h k => h.trans k) (Stay.putObj (by rintro k (rfl | rfl) <;> omega)) (Below.refl _ _) (fun _ => rfl)
    (fun pre W => (∃ v', IsW W wb v' (L ++ pre) ∧ Moves w.heap.size v v') ∧ Boxed W w.heap.size 59 (.pointer (some ⟨wb, 0, none⟩)) ∧ Boxed W (w.heap.size + 1) 52 (.int .u64 (x : Int)) ∧ Boxed W (w.heap.size + 1 + 1) 3 (.int .i64 (m : Int)) ∧ Keep (fun k => k = wb ∨ v.ownBlock = some k) w W)
    (fun _ _ _ => False)
    (OwnFrom.and (Own.from (isW_own _ _ _ _) _) (OwnFrom.and (Own.from (boxed_own _ _ _) _) (OwnFrom.and (Own.from (boxed_own _ _ _) _) (OwnFrom.and (Own.from (boxed_own _ _ _) _) (ownFrom_keep (by omega))))))
    (fun _ _ _ _ _ hs _ _ => hs)
    ⟨⟨v, by simpa using h0, .inl rfl⟩, b0, b1, b2, bkp.mono (fun _ _ h => h.elim)⟩
    (fun b => { tmps := #[.pointer (some ⟨wb, 0, none⟩), .int .u64 (x : Int), .int .i64 (m : Int), .pointer (some ⟨w.heap.size, 0, none⟩), undef, undef, .int .i64 0, .int .u8 ((b.val : Nat) : Int), .pointer (some ⟨wb, 0, none⟩), .bool false, .int .i64 (m : Int), .bool true, .bool false,
      .int .u64 (x : Int), .int .i64 (m : Int), .func (.func 70) #[] #[.pointer (some ⟨w.heap.size + 1 + 1, 0, none⟩), .pointer (some ⟨w.heap.size + 1, 0, none⟩)], .int .u8 ((b.val : Nat) : Int), undef, undef, undef], defers := [] }) ?assign ?body ?done ?stop
  case assign =>
    intro l b W K hK
    gi_wp2
    exact hK
  case body =>
    rintro l pre b W ⟨⟨v1, hW1, hM1⟩, c0, c1, c2, hKw⟩ hlt
    have hc0 := c0.cell
    have hlen : (L ++ pre).length < 1099511627776 := by rw [List.length_append]; omega
    gi_wp2_with (refine ⟨trivial, ?_⟩; gi_at_call 58; refine (CallsIn.inRound l (callsIn_wide.2 (push_any wb v1 (L ++ pre) b hlen _ hW1))).mono ?_; rintro e w' ⟨rfl, v2, hW2, hM2, hK2⟩)
    have n0 : ¬ (w.heap.size = wb ∨ v1.ownBlock = some w.heap.size) := by rintro (e | e); omega; exact owns_ne hW1.row c0 (by decide) e
    have n1 : ¬ (w.heap.size + 1 = wb ∨ v1.ownBlock = some (w.heap.size + 1)) := by rintro (e | e); omega; exact owns_ne hW1.row c1 (by decide) e
    have n2 : ¬ (w.heap.size + 1 + 1 = wb ∨ v1.ownBlock = some (w.heap.size + 1 + 1)) := by rintro (e | e); omega; exact owns_ne hW1.row c2 (by decide) e
    refine ⟨keepsFrom_push hW1 hK2 _, ?_, ⟨v2, by rw [← List.append_assoc]; exact hW2, hM1.trans hM2 hKw.size⟩, hK2.obj c0 n0, hK2.obj c1 n1, hK2.obj c2 n2, hKw.trans hK2 ?_⟩
    · rintro k (rfl | rfl)
      · exact hK2.block _ (obj_lt c1) n1
      · exact hK2.block _ (obj_lt c2) n2
    · rintro i hi (e | e)
      · exact .inl e
      · rcases hM1 with e2 | ⟨k, e2, hk⟩
        · exact .inr (by rw [← e2]; exact e)
        · rw [e2] at e; cases e; omega
  case done =>
    rintro D ys W hD rfl ⟨⟨v1, hW1, hM1⟩, c0, c1, c2, hKw⟩ hK
    gi_wp2
    refine ⟨by simp, .inl ⟨_, _, rfl, run_takeDeferred hK, ?_⟩⟩
    have hk : Keep (fun k => k = D) W (W.putObj D (.deferred none)) := (Keep.refl _ W).putObj D _ (fun _ => rfl)
    refine ⟨_, results_tmp rfl _ _ _, rfl, v1, hW1.keep hk ?_ ?_, hM1, hKw.putObj D _ (fun hd => by omega)⟩
    · rintro rfl; rw [hW1.obj] at hK; cases hK
    · rintro k e rfl
      rcases hW1.row.2 with ⟨rfl, _⟩ | ⟨g, cap, cur, rfl, _, hg, _⟩
      · cases e
      · obtain rfl : g = k := by simpa [Value.ownBlock] using e
        rw [hg] at hK; cases hK
  case stop =>
    rintro D c pre W _ _ h _
    exact h.elim

set_option maxHeartbeats 400000 in
/-- Put, where so many bits can't be put. -/
theorem put_arg (wb : Nat) (x n : Int) (hn : ¬ (0 ≤ n ∧ n ≤ 56)) (w : World) :
    Calls Try.prog 25 #[.pointer (some ⟨wb, 0, none⟩), .int .u64 x, .int .i64 n] w fun e w' => e = .returned (.int .i64 2) ∧ Keep noBlock w w' := by
  have hd : decide (0 ≤ n ∧ n ≤ 56) = false := decide_eq_false hn
  refine (callsIn_wide (n := 4)).1 ?_
  refine callsIn_of_wp_marks Try.func25 rfl trivial ?_ rfl
  simp only [Try.ntmps25, List.size_toArray, List.length_cons, List.length_nil, Nat.reduceAdd, Nat.reduceSub, Array.replicate_succ, Array.replicate_zero, List.push_toArray, List.append_toArray, List.nil_append, List.cons_append]
  gi_wp2_with (refine ⟨trivial, ?_⟩; gi_at_call 56; refine (callsIn_wide.2 (canCount_any _ _)).mono ?_; rw [hd]; rintro e w' ⟨rfl, rfl⟩)
  exact ⟨_, results_tmp rfl _ _ _, rfl, (Keep.refl _ w).alloc _⟩

set_option maxHeartbeats 400000 in
/-- Put of no writer. -/
theorem put_nil (x n : Int) (w : World) :
    Calls Try.prog 25 #[.pointer none, .int .u64 x, .int .i64 n] w fun e w' => e = .returned (.int .i64 1) ∧ Keep noBlock w w' := by
  refine (callsIn_wide (n := 4)).1 ?_
  refine callsIn_of_wp_marks Try.func25 rfl trivial ?_ rfl
  simp only [Try.ntmps25, List.size_toArray, List.length_cons, List.length_nil, Nat.reduceAdd, Nat.reduceSub, Array.replicate_succ, Array.replicate_zero, List.push_toArray, List.append_toArray, List.nil_append, List.cons_append]
  gi_wp2
  exact ⟨_, results_tmp rfl _ _ _, rfl, (Keep.refl _ w).alloc _⟩

set_option maxHeartbeats 400000 in
/-- Bytes of a writer. -/
theorem bytes_any (wb : Nat) (v : Value) (L : List (Fin 2)) (hL : L.length < 1099511627776) (w : World) (h : IsW w wb v L) :
    Calls Try.prog 31 #[.pointer (some ⟨wb, 0, none⟩)] w fun e w' => ∃ v', e = .returned v' ∧ w'.ownsRow w.heap.size 5 1 v' (pack L).length (u8s (pack L)) ∧ Keep noBlock w w' := by
  have hc0 : w.cell? ⟨wb, 0, none⟩ = some v := cell_of h.obj 0
  obtain ⟨sa, cap, rfl⟩ := owns_form h.row
  have hpl : (pack L).length ≤ 140737488355327 := by rw [pack_length]; omega
  go_enter Try.func31, Try.ntmps31
  go_wp2_with (go_at_call 53; refine (clone_any _ (pack L) hpl _ (Src.of_owns h.row)).mono ?_; rintro e w1 ⟨v', rfl, hown, hk, hn⟩)
  go_ret
  exact ⟨v', rfl, hown, hk⟩

set_option maxHeartbeats 400000 in
/-- Align of a writer: bits 0 behind up to the next byte's beginning. -/
theorem alignW_any (wb : Nat) (v : Value) (L : List (Fin 2)) (hL : L.length < 1000000000000) (w : World) (h : IsW w wb v L) :
    Calls Try.prog 30 #[.pointer (some ⟨wb, 0, none⟩)] w fun e w' => e = .returned (.tuple #[]) ∧ ∃ v', IsW w' wb v' (L ++ low 0 ((8 - L.length % 8) % 8)) ∧ Moves w.heap.size v v' ∧ Keep (fun k => k = wb ∨ v.ownBlock = some k) w w' := by
  have hc1 : w.cell? ⟨wb, 1, none⟩ = some (.int .i64 (L.length : Int)) := cell_of h.obj 1
  have htb := toByte_any L.length (by omega)
  have b1 : (8 - L.length % 8) % 8 ≤ 56 := by omega
  generalize (8 - L.length % 8) % 8 = q at htb b1 ⊢
  have HT : Hid (∀ w, _) := htb
  clear htb
  go_enter Try.func30, Try.ntmps30
  go_wp2_with (first | (go_at_call 60; refine (HT.out _).mono ?_; rintro e w' ⟨rfl, rfl⟩) | (go_at_call 25; refine (put_any wb v L 0 q (by decide) b1 hL _ h).mono ?_; rintro e w' ⟨rfl, h1⟩))
  go_end0
  exact ⟨rfl, h1⟩

end Go.Proofs.Ytoffnhbopjaocaa
