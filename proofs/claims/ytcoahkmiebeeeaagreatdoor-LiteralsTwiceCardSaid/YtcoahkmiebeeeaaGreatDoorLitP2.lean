/-
  Bits in bytes, as numbers: no program is named here.
  The writer of package bits: what each of its calls does.
  How many bits a number has, and in how many a count is told: math/bits.Len, isLog, share, valueBits.
  Rows of numbers, cut; which counts make a table: makeTable, and the document's Right.
  A description of counts, as bits.
  Which symbol each state has, as plain numbers; each symbol has as many states as its count says.
  A table's cells as plain numbers; from each symbol every state is come to.
-/
import Derived.Laws.CopyRow
import Derived.Deep.OwnRows
import Derived.Test.YtcoahkmiebeeeaaGreatDoorLitP1
namespace Go.Proofs.YtcoahkmiebeeeaaGreatDoor

def numF (f : Nat → Nat) : Nat → Nat
  | 0 => 0
  | m + 1 => numF f m + f m * 2 ^ m
theorem numF_lt (f : Nat → Nat) (hf : ∀ i, f i < 2) (m : Nat) : numF f m < 2 ^ m := by
  induction m with
  | zero => simp [numF]
  | succ m ih =>
    have := hf m
    simp only [numF, Nat.pow_succ]
    have h2 : f m * 2 ^ m ≤ 1 * 2 ^ m := Nat.mul_le_mul_right _ (by omega)
    omega
theorem numF_congr (f g : Nat → Nat) (m : Nat) (h : ∀ i, i < m → f i = g i) : numF f m = numF g m := by
  induction m with
  | zero => rfl
  | succ m ih => simp only [numF]; rw [ih (fun i hi => h i (by omega)), h m (by omega)]
theorem numF_bit (f : Nat → Nat) (hf : ∀ i, f i < 2) (m i : Nat) (hi : i < m) : bitOf (numF f m) i = f i := by
  induction m with
  | zero => omega
  | succ m ih =>
    have hlt := numF_lt f hf m
    simp only [numF]
    by_cases h : i = m
    · subst h
      unfold bitOf
      rw [Nat.add_mul_div_right _ _ (Nat.two_pow_pos i), Nat.div_eq_of_lt hlt, Nat.zero_add]
      exact Nat.mod_eq_of_lt (hf i)
    · rw [← ih (by omega)]
      unfold bitOf
      have e : 2 ^ m = 2 ^ i * (2 * 2 ^ (m - i - 1)) := by
        rw [show 2 * 2 ^ (m - i - 1) = 2 ^ (m - i - 1 + 1) from by rw [Nat.pow_succ, Nat.mul_comm], ← Nat.pow_add]
        congr 1
        omega
      have e2 : f m * 2 ^ m = 2 ^ i * (2 * (f m * 2 ^ (m - i - 1))) := by
        rw [e, Nat.mul_left_comm, Nat.mul_left_comm (f m)]
      rw [e2, Nat.add_mul_div_left _ _ (Nat.two_pow_pos i)]
      omega
theorem numAt_numF (bs : List Nat) (p m : Nat) : numAt bs p m = numF (fun k => bitAt bs (p + k)) m := by
  induction m with
  | zero => rfl
  | succ m ih => simp only [numAt, numF]; rw [ih]
theorem numF_ext (f : Nat → Nat) (a b : Nat) (h : a ≤ b) (hz : ∀ i, a ≤ i → i < b → f i = 0) : numF f b = numF f a := by
  induction b with
  | zero => rw [show a = 0 from by omega]
  | succ b ih =>
    by_cases e : a = b + 1
    · rw [e]
    · simp only [numF]
      rw [hz b (by omega) (by omega), ih (by omega) (fun i h1 h2 => hz i h1 (by omega))]
      omega

def bitL (L : List (Fin 2)) (k : Nat) : Nat := (L[k]?.getD 0).val
theorem bitL_lt (L : List (Fin 2)) (k : Nat) : bitL L k < 2 := (L[k]?.getD 0).isLt
theorem bitL_old (L : List (Fin 2)) (b : Fin 2) (k : Nat) (h : k < L.length) : bitL (L ++ [b]) k = bitL L k := by
  unfold bitL; rw [List.getElem?_append_left h]
theorem bitL_new (L : List (Fin 2)) (b : Fin 2) : bitL (L ++ [b]) L.length = b.val := by
  unfold bitL; simp
theorem bitL_far (L : List (Fin 2)) (k : Nat) (h : L.length ≤ k) : bitL L k = 0 := by
  unfold bitL; rw [List.getElem?_eq_none h]; rfl
theorem bitL_app (L M : List (Fin 2)) (k : Nat) (h : k < L.length) : bitL (L ++ M) k = bitL L k := by
  unfold bitL; rw [List.getElem?_append_left h]
theorem bitL_behind (L M : List (Fin 2)) (k : Nat) : bitL (L ++ M) (L.length + k) = bitL M k := by
  unfold bitL; rw [List.getElem?_append_right (by omega)]; congr 3; omega

def byteOf (L : List (Fin 2)) (j : Nat) : Nat := numF (fun i => bitL L (8 * j + i)) 8
theorem byteOf_lt (L : List (Fin 2)) (j : Nat) : byteOf L j < 256 := numF_lt _ (fun _ => bitL_lt _ _) 8
def pack (L : List (Fin 2)) : List Nat := (List.range ((L.length + 7) / 8)).map (byteOf L)
theorem pack_length (L : List (Fin 2)) : (pack L).length = (L.length + 7) / 8 := by simp [pack]
theorem pack_at (L : List (Fin 2)) (j : Nat) (h : j < (L.length + 7) / 8) : (pack L)[j]?.getD 0 = byteOf L j := by
  unfold pack
  rw [List.getElem?_map, List.getElem?_range h]
  rfl
theorem pack_lt (L : List (Fin 2)) (j : Nat) : (pack L)[j]?.getD 0 < 256 := by
  by_cases h : j < (L.length + 7) / 8
  · rw [pack_at L j h]; exact byteOf_lt L j
  · rw [List.getElem?_eq_none (by rw [pack_length]; omega)]; decide
theorem bitAt_pack (L : List (Fin 2)) (i : Nat) : bitAt (pack L) i = bitL L i := by
  unfold bitAt
  by_cases h : i / 8 < (L.length + 7) / 8
  · rw [pack_at L _ h]
    unfold byteOf
    rw [numF_bit _ (fun _ => bitL_lt _ _) 8 (i % 8) (by omega)]
    congr 1
    omega
  · rw [List.getElem?_eq_none (by rw [pack_length]; omega), bitL_far L i (by omega)]
    simp [bitOf]

theorem byteOf_old (L : List (Fin 2)) (b : Fin 2) (j : Nat) (h : j < L.length / 8) : byteOf (L ++ [b]) j = byteOf L j :=
  numF_congr _ _ _ (fun i hi => bitL_old L b _ (by omega))
theorem byteOf_last (L : List (Fin 2)) (b : Fin 2) : byteOf (L ++ [b]) (L.length / 8) = byteOf L (L.length / 8) ||| b.val * 2 ^ (L.length % 8) := by
  have h1 : byteOf L (L.length / 8) = numF (fun i => bitL L (8 * (L.length / 8) + i)) (L.length % 8) :=
    numF_ext _ _ _ (by omega) (fun i h1 h2 => bitL_far L _ (by omega))
  have h2 : byteOf (L ++ [b]) (L.length / 8) = numF (fun i => bitL (L ++ [b]) (8 * (L.length / 8) + i)) (L.length % 8 + 1) :=
    numF_ext _ _ _ (by omega) (fun i h1 h2 => bitL_far _ _ (by simp; omega))
  have h3 : numF (fun i => bitL (L ++ [b]) (8 * (L.length / 8) + i)) (L.length % 8) = numF (fun i => bitL L (8 * (L.length / 8) + i)) (L.length % 8) :=
    numF_congr _ _ _ (fun i hi => bitL_old L b _ (by omega))
  have h4 : bitL (L ++ [b]) (8 * (L.length / 8) + L.length % 8) = b.val := by
    rw [show 8 * (L.length / 8) + L.length % 8 = L.length from by omega]; exact bitL_new L b
  rw [h1, h2]
  simp only [numF]
  rw [h3, h4, Nat.or_comm, nat_join (L.length % 8) _ _ (Nat.mul_mod_left _ _) (numF_lt _ (fun _ => bitL_lt _ _) _)]
  omega
theorem byteOf_far (L : List (Fin 2)) (j : Nat) (h : L.length ≤ 8 * j) : byteOf L j = 0 :=
  numF_ext _ 0 8 (by omega) (fun i _ _ => bitL_far L _ (by omega))

theorem pack_new (L : List (Fin 2)) (b : Fin 2) (h : L.length % 8 = 0) : pack (L ++ [b]) = pack L ++ [b.val] := by
  have e : ((L ++ [b]).length + 7) / 8 = (L.length + 7) / 8 + 1 := by simp; omega
  have e2 : (L.length + 7) / 8 = L.length / 8 := by omega
  unfold pack
  rw [e, List.range_succ, List.map_append, e2]
  congr 1
  · exact List.map_congr_left (fun j hj => byteOf_old L b j (List.mem_range.1 hj))
  · simp only [List.map_cons, List.map_nil]
    rw [byteOf_last, byteOf_far L _ (by omega), h]
    simp
theorem pack_old (L : List (Fin 2)) (b : Fin 2) (h : L.length % 8 ≠ 0) : pack (L ++ [b]) = (pack L).set (L.length / 8) ((pack L)[L.length / 8]?.getD 0 ||| b.val * 2 ^ (L.length % 8)) := by
  have e : ((L ++ [b]).length + 7) / 8 = (L.length + 7) / 8 := by simp; omega
  have hlt : L.length / 8 < (L.length + 7) / 8 := by omega
  rw [pack_at L _ hlt]
  apply List.ext_getElem
  · rw [List.length_set, pack_length, pack_length, e]
  · intro j h1 h2
    rw [List.getElem_set]
    simp only [pack, List.getElem_map, List.getElem_range]
    rw [pack_length, e] at h1
    by_cases hj : L.length / 8 = j
    · rw [if_pos hj, ← hj, byteOf_last]
    · rw [if_neg hj, byteOf_old L b j (by omega)]

end Go.Proofs.YtcoahkmiebeeeaaGreatDoor

namespace Go.Proofs.YtcoahkmiebeeeaaGreatDoor
open Go.RowKit Go.Shelf

attribute [local go_sem] Oper.semAt_some

/-- Block wb is a writer that was given the bits L; v is its row of bytes. -/
structure IsW (W : World) (wb : Nat) (v : Value) (L : List (Fin 2)) : Prop where
  obj : W.heap[wb]? = some (.cells #[v, .int .i64 (L.length : Int)] 205 (0, 0))
  row : W.ownsRow 0 5 1 v (pack L).length (u8s (pack L))

def Moves (n : Nat) (v v' : Value) : Prop := v'.ownBlock = v.ownBlock ∨ ∃ k, v'.ownBlock = some k ∧ n ≤ k
theorem Moves.refl (n : Nat) (v : Value) : Moves n v v := .inl rfl
theorem Moves.trans {m n : Nat} {a b c : Value} (h : Moves m a b) (k : Moves n b c) (hmn : m ≤ n) : Moves m a c := by
  rcases k with k | ⟨i, k, hi⟩
  · rcases h with h | ⟨j, h, hj⟩
    · exact .inl (k.trans h)
    · exact .inr ⟨j, k.trans h, hj⟩
  · exact .inr ⟨i, k, by omega⟩

theorem owns_keep {W W' : World} {S : Nat → Prop} {base e size n : Nat} {v : Value} {xs : List Value} (h : W.ownsRow base e size v n xs) (hk : Keep S W W') (h2 : ∀ k, v.ownBlock = some k → ¬ S k) : W'.ownsRow base e size v n xs := by
  refine ⟨h.1, ?_⟩
  rcases h.2 with hn | ⟨g, cap, cur, rfl, hb, hg, hr⟩
  · exact .inl hn
  · exact .inr ⟨g, cap, cur, rfl, hb, hk.obj hg (h2 g rfl), hr⟩
theorem IsW.keep {W W' : World} {S : Nat → Prop} {wb : Nat} {v : Value} {L : List (Fin 2)} (h : IsW W wb v L) (hk : Keep S W W') (h1 : ¬ S wb) (h2 : ∀ k, v.ownBlock = some k → ¬ S k) : IsW W' wb v L :=
  ⟨hk.obj h.obj h1, owns_keep h.row hk h2⟩

theorem push_any (wb : Nat) (v : Value) (L : List (Fin 2)) (b : Fin 2) (hL : L.length < 1099511627776) (w : World) (h : IsW w wb v L) :
    Calls Tryz.prog 128 #[.pointer (some ⟨wb, 0, none⟩), .int .u8 ((b.val : Nat) : Int)] w fun e w' => e = .returned (.tuple #[]) ∧ ∃ v', IsW w' wb v' (L ++ [b]) ∧ Moves w.heap.size v v' ∧ Keep (fun k => k = wb ∨ v.ownBlock = some k) w w' := by
  have hpl := pack_length L
  by_cases hm : L.length % 8 = 0
  · refine (push_new wb L.length b.val v (pack L) b.isLt hL w h.obj h.row (by rw [hpl]; omega) hm).mono ?_
    rintro e w' ⟨rfl, g, cap, ho, hr, hat, hk⟩
    refine ⟨rfl, .slice (some ⟨g, 0, none⟩) ((pack L).length + 1) cap, ⟨?_, ?_⟩, hat.elim (fun e => .inl e.symm) (fun e => .inr ⟨g, rfl, e⟩), hk⟩
    · rw [ho]; simp
    · rw [pack_new L b hm]; simpa using hr
  · have hr0 := h.row
    rcases hr0.2 with ⟨rfl, h0⟩ | ⟨g, cap, cur, rfl, _, hg, _⟩
    · rw [hpl] at h0; omega
    · refine (push_old wb g cap L.length b.val (pack L) b.isLt hL w h.obj h.row (pack_lt L) (by rw [hpl]; omega) hm).mono ?_
      rintro e w' ⟨rfl, ho, hr, hk⟩
      refine ⟨rfl, _, ⟨?_, ?_⟩, .inl rfl, hk.mono (fun k _ hk => hk.imp id (fun e => by rw [e]; rfl))⟩
      · rw [ho]; simp
      · rw [pack_old L b hm]; simpa using hr

theorem keepsFrom_push {W W' : World} {wb : Nat} {v : Value} {L : List (Fin 2)} (h : IsW W wb v L) (hk : Keep (fun k => k = wb ∨ v.ownBlock = some k) W W') (B : Nat) : KeepsFrom B W W' := by
  refine ⟨hk.size, fun k o _ ho hc => hk.obj ho ?_⟩
  rintro (rfl | e)
  · rw [h.obj] at ho; cases ho; cases hc
  · rcases h.row.2 with ⟨rfl, _⟩ | ⟨g, cap, cur, rfl, _, hg, _⟩
    · cases e
    · obtain rfl : g = k := by simpa [Value.ownBlock] using e
      rw [hg] at ho; cases ho; cases hc

theorem isW_own (wb n : Nat) (v : Value) (L : List (Fin 2)) : Own (fun (pre : List (Fin 2)) W => ∃ v', IsW W wb v' (L ++ pre) ∧ Moves n v v') := by
  rintro s X Y row ⟨v', h, hm⟩ hg hrow
  have hc : ∀ {b : Nat} {cs : Array Value} {t : TypeId}, X.heap[b]? = some (.cells cs t (0, 0)) → some b ≠ row := fun {b cs t} hb e => by
    obtain ⟨o, ho, hc⟩ := hrow b e.symm
    rw [hb] at ho; cases ho; cases hc
  refine ⟨v', ⟨(hg.block wb (obj_lt h.obj) (hc h.obj)).trans h.obj, h.row.1, ?_⟩, hm⟩
  rcases h.row.2 with hn | ⟨g, cap, cur, rfl, hb, hgb, hr⟩
  · exact .inl hn
  · exact .inr ⟨g, cap, cur, rfl, hb, (hg.block g (obj_lt hgb) (hc hgb)).trans hgb, hr⟩

theorem lowest_stops (n : Nat) (hn : 1 ≤ n) (Bx Bn x m : Nat) (hx : x < 18446744073709551616) (hm : m ≤ 56)
    (W : World) (hBx : W.heap[Bx]? = some (.cells #[.int .u64 (x : Int)] 54 (0, 0))) (hBn : W.heap[Bn]? = some (.cells #[.int .i64 (m : Int)] 3 (0, 0))) :
    SeqStopsK Fence.wide n Tryz.prog 135 #[.pointer (some ⟨Bn, 0, none⟩), .pointer (some ⟨Bx, 0, none⟩)] (fun b : Fin 2 => #[Value.int .u8 ((b.val : Nat) : Int)])
      (Stay (fun k => k = Bx ∨ k = Bn)) (fun ys => ys = upto (fun j => (⟨bitOf x j, bitOf_lt x j⟩ : Fin 2)) m) (fun _ => True) m W := fun l J Jx W1 hW _ _ hY h0 => by
  refine lowest1_in Fence.wide n trivial rfl hn l Bx Bn x m hx hm J Jx hY W1 ((hW.block _ (obj_lt hBx)).trans hBx) ((hW.block _ (obj_lt hBn)).trans hBn) h0

theorem boxes3 (w : World) (o0 o1 o2 : Obj) :
    (((w.alloc o0).alloc o1).alloc o2).heap[w.heap.size]? = some o0 ∧ (((w.alloc o0).alloc o1).alloc o2).heap[w.heap.size + 1]? = some o1 ∧
    (((w.alloc o0).alloc o1).alloc o2).heap[w.heap.size + 1 + 1]? = some o2 ∧ (((w.alloc o0).alloc o1).alloc o2).heap.size = w.heap.size + 3 ∧ Keep noBlock w (((w.alloc o0).alloc o1).alloc o2) := by
  have e0 := World.alloc_heap_new w o0
  have e1 := World.alloc_heap_new (w.alloc o0) o1
  have e2 := World.alloc_heap_new ((w.alloc o0).alloc o1) o2
  simp only [World.size_alloc] at e1 e2
  refine ⟨alloc_far (alloc_far e0 _) _, alloc_far e1 _, e2, ?_, ((((Keep.refl _ w).alloc _).alloc _).alloc _)⟩
  simp only [World.size_alloc]

def low (x m : Nat) : List (Fin 2) := upto (fun j => (⟨bitOf x j, bitOf_lt x j⟩ : Fin 2)) m
theorem low_length (x m : Nat) : (low x m).length = m := upto_length _ _

set_option maxRecDepth 100000 in
set_option maxHeartbeats 1000000 in
theorem put_any (wb : Nat) (v : Value) (L : List (Fin 2)) (x m : Nat) (hx : x < 18446744073709551616) (hm : m ≤ 56) (hL : L.length < 1000000000000) (w : World) (h : IsW w wb v L) :
    Calls Tryz.prog 111 #[.pointer (some ⟨wb, 0, none⟩), .int .u64 (x : Int), .int .i64 (m : Int)] w fun e w' => e = .returned (.int .i64 0) ∧ ∃ v', IsW w' wb v' (L ++ low x m) ∧ Moves w.heap.size v v' ∧ Keep (fun k => k = wb ∨ v.ownBlock = some k) w w' := by
  have hd : decide (0 ≤ (m : Int) ∧ (m : Int) ≤ 56) = true := decide_eq_true ⟨by omega, by omega⟩
  refine (callsIn_wide (n := 4)).1 ?_
  refine callsIn_of_wp_marks Tryz.func111 rfl trivial ?_ rfl
  simp only [Tryz.ntmps111, List.size_toArray, List.length_cons, List.length_nil, Nat.reduceAdd, Nat.reduceSub, Array.replicate_succ, Array.replicate_zero, List.push_toArray, List.append_toArray, List.nil_append, List.cons_append]
  gi_wp2_with (refine ⟨trivial, ?_⟩; first | (gi_at_call 99; refine (callsIn_wide.2 (canCount_any _ _)).mono ?_; rw [hd]; rintro e w' ⟨rfl, rfl⟩) | (gi_at_call 127; refine (lowest_in Fence.wide _ trivial rfl _ _ _).mono ?_; rintro e w' ⟨rfl, rfl⟩))
  obtain ⟨b0, b1, b2, bsz, bkp⟩ := boxes3 w (Obj.cells #[Value.pointer (some { block := wb, off := 0 })] 203) (Obj.cells #[Value.int IntKind.u64 ↑x] 54) (Obj.cells #[Value.int IntKind.i64 ↑m] 3)
  generalize ((w.alloc (Obj.cells #[Value.pointer (some { block := wb, off := 0 })] 203)).alloc (Obj.cells #[Value.int IntKind.u64 ↑x] 54)).alloc (Obj.cells #[Value.int IntKind.i64 ↑m] 3) = W0 at b0 b1 b2 bsz bkp ⊢
  have hwb := obj_lt h.obj
  have h0 : IsW W0 wb v L := h.keep bkp (fun h => h) (fun _ _ h => h)
  refine wpIn_rangeFunc_ownG rfl (by omega) (gf := 135) rfl trivial (enters_of Tryz.func135 (by kernel_rfl) rfl)
    (lowest_stops 3 (by omega) (w.heap.size + 1) (w.heap.size + 1 + 1) x m hx hm W0 b1 b2)
    (fun h k => h.trans k) (Stay.putObj (by rintro k (rfl | rfl) <;> omega)) (Below.refl _ _) (fun _ => rfl)
    (fun pre W => (∃ v', IsW W wb v' (L ++ pre) ∧ Moves w.heap.size v v') ∧ Boxed W w.heap.size 203 (.pointer (some ⟨wb, 0, none⟩)) ∧ Boxed W (w.heap.size + 1) 54 (.int .u64 (x : Int)) ∧ Boxed W (w.heap.size + 1 + 1) 3 (.int .i64 (m : Int)) ∧ Keep (fun k => k = wb ∨ v.ownBlock = some k) w W)
    (fun _ _ _ => False)
    (OwnFrom.and (Own.from (isW_own _ _ _ _) _) (OwnFrom.and (Own.from (boxed_own _ _ _) _) (OwnFrom.and (Own.from (boxed_own _ _ _) _) (OwnFrom.and (Own.from (boxed_own _ _ _) _) (ownFrom_keep (by omega))))))
    (fun _ _ _ _ _ hs _ _ => hs)
    ⟨⟨v, by simpa using h0, .inl rfl⟩, b0, b1, b2, bkp.mono (fun _ _ h => h.elim)⟩
    (fun b => { tmps := #[.pointer (some ⟨wb, 0, none⟩), .int .u64 (x : Int), .int .i64 (m : Int), .pointer (some ⟨w.heap.size, 0, none⟩), undef, undef, .int .i64 0, .int .u8 ((b.val : Nat) : Int), .pointer (some ⟨wb, 0, none⟩), .bool false, .int .i64 (m : Int), .bool true, .bool false,
      .int .u64 (x : Int), .int .i64 (m : Int), .func (.func 135) #[] #[.pointer (some ⟨w.heap.size + 1 + 1, 0, none⟩), .pointer (some ⟨w.heap.size + 1, 0, none⟩)], .int .u8 ((b.val : Nat) : Int), undef, undef, undef], defers := [] }) ?assign ?body ?done ?stop
  case assign =>
    intro l b W K hK
    gi_wp2
    exact hK
  case body =>
    rintro l pre b W ⟨⟨v1, hW1, hM1⟩, c0, c1, c2, hKw⟩ hlt
    have hc0 := c0.cell
    have hlen : (L ++ pre).length < 1099511627776 := by rw [List.length_append]; omega
    gi_wp2_with (refine ⟨trivial, ?_⟩; gi_at_call 128; refine (CallsIn.inRound l (callsIn_wide.2 (push_any wb v1 (L ++ pre) b hlen _ hW1))).mono ?_; rintro e w' ⟨rfl, v2, hW2, hM2, hK2⟩)
    have n0 : ¬ (w.heap.size = wb ∨ v1.ownBlock = some w.heap.size) := by rintro (e | e); omega; exact owns_ne hW1.row c0 (by decide) e
    have n1 : ¬ (w.heap.size + 1 = wb ∨ v1.ownBlock = some (w.heap.size + 1)) := by rintro (e | e); omega; exact owns_ne hW1.row c1 (by decide) e
    have n2 : ¬ (w.heap.size + 1 + 1 = wb ∨ v1.ownBlock = some (w.heap.size + 1 + 1)) := by rintro (e | e); omega; exact owns_ne hW1.row c2 (by decide) e
    refine ⟨keepsFrom_push hW1 hK2 _, ?_, ⟨v2, by rw [← List.append_assoc]; exact hW2, hM1.trans hM2 hKw.size⟩, hK2.obj c0 n0, hK2.obj c1 n1, hK2.obj c2 n2, hKw.trans hK2 ?_⟩
    · rintro k (rfl | rfl)
      · exact hK2.block _ (obj_lt c1) n1
      · exact hK2.block _ (obj_lt c2) n2
    · rintro i hi (e | e)
      · exact .inl e
      · rcases hM1 with e2 | ⟨k, e2, hk⟩
        · exact .inr (by rw [← e2]; exact e)
        · rw [e2] at e; cases e; omega
  case done =>
    rintro D ys W hD rfl ⟨⟨v1, hW1, hM1⟩, c0, c1, c2, hKw⟩ hK
    gi_wp2
    refine ⟨by simp, .inl ⟨_, _, rfl, run_takeDeferred hK, ?_⟩⟩
    have hk : Keep (fun k => k = D) W (W.putObj D (.deferred none)) := (Keep.refl _ W).putObj D _ (fun _ => rfl)
    refine ⟨_, results_tmp rfl _ _ _, rfl, v1, hW1.keep hk ?_ ?_, hM1, hKw.putObj D _ (fun hd => by omega)⟩
    · rintro rfl; rw [hW1.obj] at hK; cases hK
    · rintro k e rfl
      rcases hW1.row.2 with ⟨rfl, _⟩ | ⟨g, cap, cur, rfl, _, hg, _⟩
      · cases e
      · obtain rfl : g = k := by simpa [Value.ownBlock] using e
        rw [hg] at hK; cases hK
  case stop =>
    rintro D c pre W _ _ h _
    exact h.elim

set_option maxHeartbeats 400000 in
theorem bytes_any (wb : Nat) (v : Value) (L : List (Fin 2)) (hL : L.length < 1099511627776) (w : World) (h : IsW w wb v L) :
    Calls Tryz.prog 116 #[.pointer (some ⟨wb, 0, none⟩)] w fun e w' => ∃ v', e = .returned v' ∧ w'.ownsRow w.heap.size 5 1 v' (pack L).length (u8s (pack L)) ∧ Keep noBlock w w' := by
  have hc0 : w.cell? ⟨wb, 0, none⟩ = some v := cell_of h.obj 0
  obtain ⟨sa, cap, rfl⟩ := owns_form h.row
  have hpl : (pack L).length ≤ 140737488355327 := by rw [pack_length]; omega
  go_enter Tryz.func116, Tryz.ntmps116
  go_wp2_with (go_at_call 14; refine (clone_any _ (pack L) hpl _ (Src.of_owns h.row)).mono ?_; rintro e w1 ⟨v', rfl, hown, hk, hn⟩)
  go_ret
  exact ⟨v', rfl, hown, hk⟩

set_option maxHeartbeats 400000 in
theorem alignW_any (wb : Nat) (v : Value) (L : List (Fin 2)) (hL : L.length < 1000000000000) (w : World) (h : IsW w wb v L) :
    Calls Tryz.prog 115 #[.pointer (some ⟨wb, 0, none⟩)] w fun e w' => e = .returned (.tuple #[]) ∧ ∃ v', IsW w' wb v' (L ++ low 0 ((8 - L.length % 8) % 8)) ∧ Moves w.heap.size v v' ∧ Keep (fun k => k = wb ∨ v.ownBlock = some k) w w' := by
  have hc1 : w.cell? ⟨wb, 1, none⟩ = some (.int .i64 (L.length : Int)) := cell_of h.obj 1
  have htb := toByte_any L.length (by omega)
  have b1 : (8 - L.length % 8) % 8 ≤ 56 := by omega
  generalize (8 - L.length % 8) % 8 = q at htb b1 ⊢
  have HT : Hid (∀ w, _) := htb
  clear htb
  go_enter Tryz.func115, Tryz.ntmps115
  go_wp2_with (first | (go_at_call 129; refine (HT.out _).mono ?_; rintro e w' ⟨rfl, rfl⟩) | (go_at_call 111; refine (put_any wb v L 0 q (by decide) b1 hL _ h).mono ?_; rintro e w' ⟨rfl, h1⟩))
  go_end0
  exact ⟨rfl, h1⟩

end Go.Proofs.YtcoahkmiebeeeaaGreatDoor

namespace Go.Proofs.YtcoahkmiebeeeaaGreatDoor
open Go.RowKit Go.Shelf

def lenN (x : Nat) : Nat := if x = 0 then 0 else Nat.log2 x + 1
theorem lenN_pos (x : Nat) (h : x ≠ 0) : 2 ^ (lenN x - 1) ≤ x ∧ x < 2 ^ lenN x ∧ 0 < lenN x := by
  unfold lenN
  rw [if_neg h]
  refine ⟨?_, ?_, by omega⟩
  · rw [Nat.add_sub_cancel]; exact Nat.log2_self_le h
  · exact (Nat.log2_lt h).1 (Nat.lt_succ_self _)
theorem lenN_le (x k : Nat) (h : x < 2 ^ k) : lenN x ≤ k := by
  unfold lenN
  split
  · omega
  · rename_i h0
    have := (Nat.log2_lt h0 (k := k)).2 h
    omega
theorem lenN_eq (x k : Nat) (h1 : 2 ^ k ≤ x) (h2 : x < 2 ^ (k + 1)) : lenN x = k + 1 := by
  have h0 : x ≠ 0 := by have : 0 < 2 ^ k := Nat.pow_pos (by omega); omega
  unfold lenN
  rw [if_neg h0, (Nat.log2_eq_iff h0).2 ⟨h1, h2⟩]
theorem lenN_half (x : Nat) (h : x ≠ 0) : lenN x = lenN (x / 2) + 1 := by
  by_cases h1 : x = 1
  · subst h1; rfl
  · have h2 : x / 2 ≠ 0 := by omega
    obtain ⟨a, b, c⟩ := lenN_pos (x / 2) h2
    refine lenN_eq x (lenN (x / 2)) ?_ ?_
    · have e : 2 ^ lenN (x / 2) = 2 ^ (lenN (x / 2) - 1) * 2 := by rw [← Nat.pow_succ]; congr 1; omega
      omega
    · rw [Nat.pow_succ]; omega
theorem lenN_shift (x : Nat) (h : 256 ≤ x) : lenN x = 8 + lenN (x / 256) := by
  have h0 : x / 256 ≠ 0 := by omega
  obtain ⟨a, b, c⟩ := lenN_pos (x / 256) h0
  obtain ⟨k, hk⟩ : ∃ k, lenN (x / 256) = k + 1 := ⟨lenN (x / 256) - 1, by omega⟩
  rw [hk] at a b ⊢
  rw [Nat.add_sub_cancel] at a
  rw [lenN_eq x (k + 8) ?_ ?_]
  · omega
  · rw [Nat.pow_add]; omega
  · rw [show k + 8 + 1 = k + 1 + 8 from by omega, Nat.pow_add]; omega

set_option maxRecDepth 100000 in
set_option maxHeartbeats 1000000 in
theorem len64_any (x : Nat) (hx : x < 65536) (w : World) : Calls Tryz.prog 83 #[.int .u64 (x : Int)] w fun e w' => e = .returned (.int .i64 ((lenN x : Nat) : Int)) ∧ w' = w := by
  have g1 : ¬ (4294967296 : Int) ≤ (x : Int) := by omega
  have g2 : ¬ (65536 : Int) ≤ (x : Int) := by omega
  by_cases h : x < 256
  · have g3 : ¬ (256 : Int) ≤ (x : Int) := by omega
    go_enter Tryz.func83, Tryz.ntmps83
    go_wp2
    go_ret
    refine ⟨congrArg (fun x => Ending.returned (Value.int .i64 x)) ?_, rfl⟩
    clear w g1 g2 hx
    revert g3 h
    revert x
    decide +kernel
  · have g3 : (256 : Int) ≤ (x : Int) := by omega
    have hs := lenN_shift x (by omega)
    obtain ⟨y, hy⟩ : ∃ y, y = x / 256 := ⟨_, rfl⟩
    have hd : (x : Int) / 2 ^ 8 = (y : Int) := by omega
    have hd' : (x : Int) / 256 = (y : Int) := by omega
    rw [← hy] at hs
    have hy2 : y < 256 := by omega
    have hyI : (y : Int) < 256 := by omega
    generalize lenN x = lx at hs ⊢
    have HS := (show Hid _ from hs)
    have HY := (show Hid _ from hy)
    clear hs hy
    go_enter Tryz.func83, Tryz.ntmps83
    go_wp2
    go_ret
    refine ⟨congrArg (fun x => Ending.returned (Value.int .i64 x)) ?_, rfl⟩
    rw [HS.out]
    clear w g1 g2 g3 hx HS HY hd hd' h x lx
    revert hyI hy2
    revert y
    decide +kernel

set_option maxHeartbeats 400000 in
theorem len_any (x : Nat) (hx : x < 65536) (w : World) : Calls Tryz.prog 58 #[.int .u64 (x : Int)] w fun e w' => e = .returned (.int .i64 ((lenN x : Nat) : Int)) ∧ w' = w := by
  go_enter Tryz.func58, Tryz.ntmps58
  go_wp2_with (go_at_call 83; refine (len64_any x hx _).mono ?_; rintro e w' ⟨rfl, rfl⟩)
  go_ret
  exact ⟨rfl, rfl⟩
theorem len_i (x : Nat) (xi : Int) (hi : xi = (x : Int)) (hx : x < 65536) (w : World) : Calls Tryz.prog 58 #[.int .u64 xi] w fun e w' => e = .returned (.int .i64 ((lenN x : Nat) : Int)) ∧ w' = w := by
  subst hi; exact len_any x hx w

set_option maxHeartbeats 400000 in
theorem isLog_any (n : Int) (w : World) : Calls Tryz.prog 73 #[.int .i64 n] w fun e w' => e = .returned (.bool (decide (5 ≤ n ∧ n ≤ 12))) ∧ w' = w := by
  by_cases h1 : 5 ≤ n
  · by_cases h2 : n ≤ 12
    · rw [decide_eq_true ⟨h1, h2⟩]
      go_enter Tryz.func73, Tryz.ntmps73
      go_wp2
      go_ret
      exact ⟨rfl, rfl⟩
    · rw [decide_eq_false (fun h => h2 h.2)]
      go_enter Tryz.func73, Tryz.ntmps73
      go_wp2
      go_ret
      exact ⟨rfl, rfl⟩
  · rw [decide_eq_false (fun h => h1 h.1)]
    go_enter Tryz.func73, Tryz.ntmps73
    go_wp2
    go_ret
    exact ⟨rfl, rfl⟩

def shareN (c : Int) : Int := if c = -1 then 1 else c

set_option maxHeartbeats 400000 in
theorem share_any (c : Int) (h1 : -32768 ≤ c) (h2 : c ≤ 32767) (w : World) : Calls Tryz.prog 102 #[.int .i16 c] w fun e w' => e = .returned (.int .i64 (shareN c)) ∧ w' = w := by
  unfold shareN
  by_cases h : c = -1
  · subst h
    go_enter Tryz.func102, Tryz.ntmps102
    go_wp2
    go_ret
    exact ⟨rfl, rfl⟩
  · rw [if_neg h]
    have hb : (c == -1) = false := by simpa using h
    go_enter Tryz.func102, Tryz.ntmps102
    go_wp2
    go_ret
    exact ⟨rfl, rfl⟩

def valM (R : Nat) : Nat := lenN (R + 1)
def valT (R : Nat) : Nat := 2 ^ valM R - 1 - (R + 1)
theorem valM_ge (R : Nat) (h : 1 ≤ R) : 2 ≤ valM R := by
  have := lenN_pos (R + 1) (by omega)
  unfold valM
  rcases Nat.lt_or_ge (lenN (R + 1)) 2 with h' | h'
  · have : 2 ^ lenN (R + 1) ≤ 2 ^ 1 := Nat.pow_le_pow_right (by omega) (by omega)
    omega
  · exact h'
theorem valM_le (R : Nat) (h : R ≤ 4096) : valM R ≤ 13 := lenN_le _ _ (by omega)
theorem valT_eq (R : Nat) : valT R + (R + 1) + 1 = 2 ^ valM R := by
  have := lenN_pos (R + 1) (by omega)
  unfold valT valM
  omega
theorem val_half (R : Nat) (h : 1 ≤ R) : 2 ^ (valM R - 1) ≤ R + 1 ∧ 2 ^ valM R = 2 * 2 ^ (valM R - 1) ∧ valT R < 2 ^ (valM R - 1) := by
  have h1 := lenN_pos (R + 1) (by omega)
  have h2 := valM_ge R h
  have h3 := valT_eq R
  have e : 2 ^ valM R = 2 * 2 ^ (valM R - 1) := by rw [Nat.mul_comm, ← Nat.pow_succ, show (valM R - 1).succ = valM R from by omega]
  have h4 := h1.1
  unfold valM at *
  exact ⟨h4, e, by omega⟩

set_option maxHeartbeats 1000000 in
theorem valueBits_any (R : Nat) (hR : R ≤ 4096) (w : World) : Calls Tryz.prog 121 #[.int .i64 (R : Int)] w fun e w' => e = .returned (.tuple #[.int .i64 ((valM R : Nat) : Int), .int .u64 ((valT R : Nat) : Int)]) ∧ ∃ q, w' = w.drewN q := by
  have hM := valM_le R hR
  have hT := valT_eq R
  have hl := len_i (R + 1) ((R : Int) + 1) (by omega) (by omega)
  have e1 : (2 : Int) ^ valM R - 1 - ((R : Int) + 1) = ((valT R : Nat) : Int) := by
    have : ((2 ^ valM R : Nat) : Int) = (2 : Int) ^ valM R := by simp
    omega
  have hp : (2 : Nat) ^ valM R ≤ 2 ^ 13 := Nat.pow_le_pow_right (by omega) hM
  have hpI : (2 : Int) ^ valM R ≤ 8192 := by
    have : ((2 ^ valM R : Nat) : Int) = (2 : Int) ^ valM R := by simp
    omega
  have hp0 : (0 : Int) < (2 : Int) ^ valM R := by
    have : ((2 ^ valM R : Nat) : Int) = (2 : Int) ^ valM R := by simp
    have : 0 < 2 ^ valM R := Nat.pow_pos (by omega)
    omega
  unfold valM at *
  have HL := (show Hid (∀ w, _) from hl)
  have hT2 : valT R ≤ 8192 := by omega
  clear hl hT hp
  generalize lenN (R + 1) = m at *
  generalize valT R = t at *
  go_enter Tryz.func121, Tryz.ntmps121
  go_wp2_with (go_at_call 58; refine (HL.out _).mono ?_; rintro e w' ⟨rfl, rfl⟩)
  go_quiet (fail)
  go_wp2
  go_ret2
  exact ⟨rfl, _, rfl⟩

end Go.Proofs.YtcoahkmiebeeeaaGreatDoor

namespace Go.Proofs.YtcoahkmiebeeeaaGreatDoor
open Go.RowKit Go.Shelf

theorem addO (g o j : Nat) : (⟨g, o, none⟩ : Addr).add j = ⟨g, o + j, none⟩ := by unfold Addr.add; split <;> simp_all

/-- The slice at a reads as the numbers xs of kind k, which lie in block gb from off on. -/
structure RowI (w : World) (k : IntKind) (a : Option Addr) (cap gb off : Nat) (xs : List Int) : Prop where
  at_ : a = some (⟨gb, off, none⟩ : Addr) ∨ xs = []
  nil : a = none → cap = 0
  cells : ∀ j, j < xs.length → w.cell? ⟨gb, off + j, none⟩ = some (.int k (xs[j]?.getD 0))
  le : xs.length ≤ cap
theorem RowI.block {w : World} {k : IntKind} {a : Option Addr} {cap gb off : Nat} {xs : List Int} (h : RowI w k a cap gb off xs) (hb : xs ≠ []) : gb < w.heap.size :=
  World.block_lt_of_cell? w ⟨gb, off + 0, none⟩ (h.cells 0 (List.length_pos_iff.2 hb))
theorem RowI.keep {w w' : World} {S : Nat → Prop} {k : IntKind} {a : Option Addr} {cap gb off : Nat} {xs : List Int} (h : RowI w k a cap gb off xs) (hk : Keep S w w') (hS : xs ≠ [] → ¬ S gb) : RowI w' k a cap gb off xs :=
  ⟨h.at_, h.nil, fun j hj => by
    have hne : xs ≠ [] := by rintro rfl; simp at hj
    exact (World.cell?_of_block (hk.block gb (h.block hne) (hS hne))).trans (h.cells j hj), h.le⟩
theorem RowI.here {w : World} {k : IntKind} {a : Option Addr} {cap gb off : Nat} {xs : List Int} (h : RowI w k a cap gb off xs) {i : Nat} (hi : i < xs.length) : a = some ⟨gb, off, none⟩ := by
  rcases h.at_ with h | h
  · exact h
  · rw [h] at hi; simp at hi

def sliceSem (t : TypeId) (x : Value) (lo hi mx : Option Value) : Sem Value := Instr.slice t x lo hi mx
theorem sliceSem_eq (t : TypeId) (x : Value) (lo hi mx : Option Value) : Instr.slice t x lo hi mx = sliceSem t x lo hi mx := rfl

theorem info42 : (Tryz.prog.info? 184).map (fun i => (i.zero, i.size, i.bytes)) = some (some (.int .i16 0), 1, 2) := by kernel_rfl
theorem info41 : (Tryz.prog.info? 98).map (fun i => (i.zero, i.size, i.bytes)) = some (some (.int .u32 0), 1, 4) := by kernel_rfl
theorem info3 : (Tryz.prog.info? 3).map (fun i => (i.zero, i.size, i.bytes)) = some (some (.int .i64 0), 1, 8) := by kernel_rfl

theorem run_low {t e : TypeId} {z : Value} {b : Nat} (hu : Tryz.prog.underlying t = some (.slice e)) (hinfo : (Tryz.prog.info? e).map (fun i => (i.zero, i.size, i.bytes)) = some (some z, 1, b)) (a : Option Addr) (len cap k : Nat) (h1 : k ≤ len) (w : World) :
    (sliceSem t (.slice a len cap) (some (.int .i64 (k : Int))) none none).run Tryz.prog w = .ok (.slice (if cap = k then a else a.map (fun x => x.add k)) (len - k) (cap - k)) w := by
  obtain ⟨i0, hi, hz0, hz1, hz2⟩ := info_parts hinfo
  simp [sliceSem, Instr.slice, run_underlying hu, Instr.sliceBounds, Instr.sliceBound, asIntOf, h1, sizeOf, typeInfo, hi, hz1]
theorem run_high {t e : TypeId} {z : Value} {b : Nat} (hu : Tryz.prog.underlying t = some (.slice e)) (hinfo : (Tryz.prog.info? e).map (fun i => (i.zero, i.size, i.bytes)) = some (some z, 1, b)) (a : Option Addr) (len cap k : Nat) (h1 : k ≤ cap) (w : World) :
    (sliceSem t (.slice a len cap) none (some (.int .i64 (k : Int))) none).run Tryz.prog w = .ok (.slice a k cap) w := by
  obtain ⟨i0, hi, hz0, hz1, hz2⟩ := info_parts hinfo
  have e : (if cap = 0 then a else a.map (fun x => x.add 0)) = a := by
    split
    · rfl
    · cases a <;> simp [Addr.add]
  simp [sliceSem, Instr.slice, run_underlying hu, Instr.sliceBounds, Instr.sliceBound, asIntOf, h1, sizeOf, typeInfo, hi, e]

theorem RowI.drop {t e : TypeId} {z : Value} {b : Nat} (hu : Tryz.prog.underlying t = some (.slice e)) (hinfo : (Tryz.prog.info? e).map (fun i => (i.zero, i.size, i.bytes)) = some (some z, 1, b)) {w : World} {ki : IntKind} {a : Option Addr} {cap gb off : Nat} {xs : List Int} (h : RowI w ki a cap gb off xs) (k : Nat) (hk : k ≤ xs.length) :
    ∃ a' off', (∀ W, (sliceSem t (.slice a xs.length cap) (some (.int .i64 (k : Int))) none none).run Tryz.prog W = .ok (.slice a' (xs.drop k).length (cap - k)) W) ∧ RowI w ki a' (cap - k) gb off' (xs.drop k) := by
  have hc := h.le
  refine ⟨if cap = k then a else a.map (fun x => x.add k), if cap = k then off else off + k, fun W => by rw [run_low hu hinfo a xs.length cap k hk W, List.length_drop], ⟨?_, ?_, ?_, by rw [List.length_drop]; omega⟩⟩
  · rcases h.at_ with e | e
    · left
      subst e
      split
      · rfl
      · simp [addO]
    · right; rw [e]; simp
  · intro e
    split at e
    · have := h.nil e; omega
    · rw [Option.map_eq_none_iff] at e
      have := h.nil e; omega
  · intro j hj
    rw [List.length_drop] at hj
    have := h.cells (k + j) (by omega)
    rw [List.getElem?_drop, if_neg (by omega), Nat.add_assoc]
    exact this
theorem RowI.take {t e : TypeId} {z : Value} {b : Nat} (hu : Tryz.prog.underlying t = some (.slice e)) (hinfo : (Tryz.prog.info? e).map (fun i => (i.zero, i.size, i.bytes)) = some (some z, 1, b)) {w : World} {ki : IntKind} {a : Option Addr} {cap gb off : Nat} {xs : List Int} (h : RowI w ki a cap gb off xs) (k : Nat) (hk : k ≤ xs.length) :
    (∀ W, (sliceSem t (.slice a xs.length cap) none (some (.int .i64 (k : Int))) none).run Tryz.prog W = .ok (.slice a (xs.take k).length cap) W) ∧ RowI w ki a cap gb off (xs.take k) := by
  have hc := h.le
  have e : (xs.take k).length = k := by rw [List.length_take]; omega
  refine ⟨fun W => by rw [run_high hu hinfo a xs.length cap k (by omega) W, e], ⟨?_, h.nil, ?_, by omega⟩⟩
  · rcases h.at_ with e | e
    · exact .inl e
    · right; rw [e]; simp
  · intro j hj
    rw [e] at hj
    rw [List.getElem?_take, if_pos hj]
    exact h.cells j (by omega)

def I16 (xs : List Int) : Prop := ∀ i : Nat, -32768 ≤ xs[i]?.getD 0 ∧ xs[i]?.getD 0 ≤ 32767
def sumS (xs : List Int) : Nat → Int
  | 0 => 0
  | n + 1 => sumS xs n + shareN (xs[n]?.getD 0)
def okT (xs : List Int) (log : Int) : Bool :=
  decide (5 ≤ log ∧ log ≤ 12 ∧ xs.length ≠ 0 ∧ xs.length ≤ 256 ∧ xs[xs.length - 1]?.getD 0 ≠ 0 ∧ (∀ i : Nat, i < xs.length → -1 ≤ xs[i]?.getD 0) ∧ sumS xs xs.length = 2 ^ log.toNat)
theorem shareN_le (c : Int) (h1 : -32768 ≤ c) (h2 : c ≤ 32767) : -32768 ≤ shareN c ∧ shareN c ≤ 32767 := by unfold shareN; split <;> omega
theorem sumS_le (xs : List Int) (h : I16 xs) (n : Nat) : -32768 * (n : Int) ≤ sumS xs n ∧ sumS xs n ≤ 32767 * (n : Int) := by
  induction n with
  | zero => simp [sumS]
  | succ n ih =>
    have := shareN_le _ (h n).1 (h n).2
    simp only [sumS]
    omega

section
attribute [local go_sem] sliceSem_eq

theorem pow_log (log : Int) (h1 : 5 ≤ log) (h2 : log ≤ 12) : ∃ l : Nat, log = (l : Int) ∧ 5 ≤ l ∧ l ≤ 12 ∧ (2 : Int) ^ l ≤ 4096 ∧ 32 ≤ (2 : Int) ^ l ∧ (2 : Int) ^ l = ((2 ^ l : Nat) : Int) := by
  obtain ⟨l, rfl⟩ := Int.eq_ofNat_of_zero_le (show 0 ≤ log by omega)
  have h3 : l = 5 ∨ l = 6 ∨ l = 7 ∨ l = 8 ∨ l = 9 ∨ l = 10 ∨ l = 11 ∨ l = 12 := by omega
  refine ⟨l, rfl, by omega, by omega, ?_⟩
  rcases h3 with rfl | rfl | rfl | rfl | rfl | rfl | rfl | rfl <;> decide

set_option maxRecDepth 100000 in
set_option maxHeartbeats 2000000 in
theorem makeTable_any (a : Option Addr) (cap gb off : Nat) (xs : List Int) (log : Int) (w : World) (h : RowI w .i16 a cap gb off xs) (hx : I16 xs) :
    Calls Tryz.prog 78 #[.slice a xs.length cap, .int .i64 log] w fun e w' => e = .returned (.bool (okT xs log)) ∧ w' = w := by
  by_cases hl : 5 ≤ log ∧ log ≤ 12
  · have hd : decide (5 ≤ log ∧ log ≤ 12) = true := decide_eq_true hl
    have HL := (show Hid (∀ w : World, Calls Tryz.prog 73 #[.int .i64 log] w fun e w' => e = .returned (.bool true) ∧ w' = w) from fun w => by have := isLog_any log w; rwa [hd] at this)
    by_cases h0 : xs.length = 0
    · have hz : ((xs.length : Int) == 0) = true := by simp [h0]
      have hr : okT xs log = false := decide_eq_false (fun h => h.2.2.1 h0)
      rw [hr]
      clear h
      generalize xs.length = n at *
      go_enter Tryz.func78, Tryz.ntmps78
      go_wp2_with (go_at_call 73; refine (HL.out _).mono ?_; rintro e w' ⟨rfl, rfl⟩)
      go_ret
      exact ⟨rfl, rfl⟩
    · have hz : ((xs.length : Int) == 0) = false := by rw [beq_eq_false_iff_ne]; omega
      by_cases h256 : xs.length ≤ 256
      · have hg : ¬ (256 : Int) < (xs.length : Int) := by omega
        obtain ⟨k, hk⟩ : ∃ k, xs.length = k + 1 := ⟨xs.length - 1, by omega⟩
        have hk1 : (xs.length : Int) - 1 = (k : Int) := by omega
        obtain rfl := h.here (i := k) (by omega)
        have hc := h.cells k (by omega)
        obtain ⟨y, hy⟩ : ∃ y, xs[k]?.getD 0 = y := ⟨_, rfl⟩
        rw [hy] at hc
        by_cases hy0 : y = 0
        · have hr : okT xs log = false := decide_eq_false (fun h => h.2.2.2.2.1 (by rw [hk, Nat.add_sub_cancel, hy]; exact hy0))
          rw [hr]
          subst hy0
          have HK := (show Hid _ from hk)
          have hki : (k : Int) < (xs.length : Int) := by omega
          clear h hk
          generalize xs.length = n at *
          go_enter Tryz.func78, Tryz.ntmps78
          go_wp2_with (go_at_call 73; refine (HL.out _).mono ?_; rintro e w' ⟨rfl, rfl⟩)
          go_ret
          exact ⟨rfl, rfl⟩
        · have hyb : (y == 0) = false := by simpa using hy0
          obtain ⟨l, rfl, hl1, hl2, hp1, hp2, hpe⟩ := pow_log log hl.1 hl.2
          have HR := (show Hid (RowI w .i16 (some ⟨gb, off, none⟩) cap gb off xs) from h)
          have HY := (show Hid (xs[k]?.getD 0 = y ∧ xs.length = k + 1 ∧ y ≠ 0) from ⟨hy, hk, hy0⟩)
          have hki : (k : Int) < (xs.length : Int) := by omega
          have HX := (show Hid (I16 xs) from hx)
          have HN := (show Hid (∃ n, n = xs.length) from ⟨_, rfl⟩)
          obtain ⟨n, hn⟩ := HN.out
          rw [← hn] at h256 hz hg hk1 hki ⊢
          have HN := (show Hid (n = xs.length) from hn)
          clear h hk hy hn hy0 hx hpe
          go_enter Tryz.func78, Tryz.ntmps78
          go_wp2_with (go_at_call 73; refine (HL.out _).mono ?_; rintro e w' ⟨rfl, rfl⟩)
          go_loop [5, 32] (fun s i => ∃ j : Nat, j ≤ n ∧ i = .int .i64 j ∧ s = .int .i64 (sumS xs j) ∧ Hid (∀ i : Nat, i < j → -1 ≤ xs[i]?.getD 0)) (fun _ i => n - (intOf i).toNat)
          case atStart => exact ⟨0, Nat.zero_le _, rfl, rfl, fun i hi => by omega⟩
          case round =>
            clear hc hk1 hki
            obtain ⟨j, hj, rfl, rfl, HA⟩ := hrel
            have hs := sumS_le xs HX.out j
            by_cases hlt : j < n
            · have hcj := HR.out.cells j (by have := HN.out; omega)
              have hb := HX.out j
              have HS := (show Hid (sumS xs (j + 1) = sumS xs j + shareN (xs[j]?.getD 0)) from rfl)
              have hAs : -1 ≤ xs[j]?.getD 0 → ∀ i : Nat, i < j + 1 → -1 ≤ xs[i]?.getD 0 := fun h i hi => by
                by_cases e : i = j
                · subst e; exact h
                · exact HA.out i (by omega)
              have HAS := (show Hid _ from hAs)
              have HOK := (show Hid (okT xs (l : Int) = true → -1 ≤ xs[j]?.getD 0) from fun h => (of_decide_eq_true h).2.2.2.2.2.1 j (by have := HN.out; omega))
              clear hAs
              generalize xs[j]?.getD 0 = x at *
              have hbs := shareN_le x hb.1 hb.2
              have HSH := (show Hid (∀ w : World, _) from fun w => share_any x hb.1 hb.2 w)
              obtain ⟨b1, b2⟩ := hb
              obtain ⟨b3, b4⟩ := hbs
              obtain ⟨b5, b6⟩ := hs
              have b7 : (j : Int) ≤ 256 := by omega
              generalize shareN x = sx at *
              generalize sumS xs j = sj at *
              by_cases hx1 : x < -1
              · go_wp2
                go_ret
                refine ⟨?_, rfl⟩
                have : okT xs (l : Int) = false := by
                  cases hb : okT xs (l : Int) with
                  | false => rfl
                  | true => have := HOK.out hb; omega
                rw [this]
                rfl
              · go_wp2_with (go_at_call 102; refine (HSH.out _).mono ?_; rintro e w' ⟨rfl, rfl⟩)
                go_round
                case rel => exact ⟨j + 1, by omega, by go_num, by rw [HS.out], HAS.out (by omega)⟩
                case measure => simp [intOf]; omega
            · obtain rfl : j = n := by omega
              have HB := (show Hid (okT xs (l : Int) = (sumS xs j == 2 ^ l)) from by
                have hn := HN.out
                obtain ⟨hy1, hy2, hy3⟩ := HY.out
                rw [Bool.eq_iff_iff]
                unfold okT
                rw [decide_eq_true_iff, beq_iff_eq]
                constructor
                · intro h; have := h.2.2.2.2.2.2; rw [← hn] at this; simpa using this
                · intro h
                  refine ⟨by omega, by omega, by omega, by omega, ?_, ?_, ?_⟩
                  · rw [hy2, Nat.add_sub_cancel, hy1]; exact hy3
                  · rw [← hn]; exact HA.out
                  · rw [← hn]; simpa using h)
              clear HR HX HY HN HA HL
              obtain ⟨b5, b6⟩ := hs
              generalize sumS xs j = sj at *
              go_wp2
              go_ret
              exact ⟨by rw [HB.out]; rfl, rfl⟩
      · have hg : (256 : Int) < (xs.length : Int) := by omega
        have hr : okT xs log = false := decide_eq_false (fun h => h256 h.2.2.2.1)
        rw [hr]
        clear h
        generalize xs.length = n at *
        go_enter Tryz.func78, Tryz.ntmps78
        go_wp2_with (go_at_call 73; refine (HL.out _).mono ?_; rintro e w' ⟨rfl, rfl⟩)
        go_ret
        exact ⟨rfl, rfl⟩
  · have hd : decide (5 ≤ log ∧ log ≤ 12) = false := decide_eq_false hl
    have hr : okT xs log = false := decide_eq_false (fun h => hl ⟨h.1, h.2.1⟩)
    have HL := (show Hid (∀ w : World, Calls Tryz.prog 73 #[.int .i64 log] w fun e w' => e = .returned (.bool false) ∧ w' = w) from fun w => by have := isLog_any log w; rwa [hd] at this)
    rw [hr]
    clear h
    go_enter Tryz.func78, Tryz.ntmps78
    go_wp2_with (go_at_call 73; refine (HL.out _).mono ?_; rintro e w' ⟨rfl, rfl⟩)
    go_ret
    exact ⟨rfl, rfl⟩

end

end Go.Proofs.YtcoahkmiebeeeaaGreatDoor

namespace Go.Proofs.YtcoahkmiebeeeaaGreatDoor

def valBits (R v : Nat) : List (Fin 2) := if v < valT R then low v (valM R - 1) else if v < 2 ^ (valM R - 1) then low v (valM R) else low (v + valT R) (valM R)
def zbits (n : Nat) : List (Fin 2) := (List.replicate (n / 3) (low 3 2)).flatten ++ low (n % 3) 2
theorem zbits_more (n : Nat) : zbits (n + 3) = low 3 2 ++ zbits n := by
  unfold zbits
  rw [show (n + 3) / 3 = n / 3 + 1 from by omega, show (n + 3) % 3 = n % 3 from by omega, List.replicate_succ, List.flatten_cons, List.append_assoc]
theorem zbits_few (n : Nat) (h : n < 3) : zbits n = low n 2 := by
  unfold zbits
  rw [show n / 3 = 0 from by omega, show n % 3 = n from by omega]
  rfl
def zl : List Int → Nat
  | [] => 0
  | c :: cs => if c = 0 then zl cs + 1 else 0
theorem zl_le (cs : List Int) : zl cs ≤ cs.length := by
  induction cs with
  | nil => simp [zl]
  | cons c cs ih => simp only [zl]; split <;> simp <;> omega
theorem zl_zero (cs : List Int) : ∀ i, i < zl cs → cs[i]?.getD 0 = 0 := by
  induction cs with
  | nil => intro i hi; simp [zl] at hi
  | cons c cs ih =>
    intro i hi
    simp only [zl] at hi
    split at hi
    · rename_i hc
      cases i with
      | zero => simpa using hc
      | succ i => simpa using ih i (by omega)
    · omega
theorem zl_end (cs : List Int) (h : zl cs < cs.length) : cs[zl cs]?.getD 0 ≠ 0 := by
  induction cs with
  | nil => simp at h
  | cons c cs ih =>
    simp only [zl] at h ⊢
    by_cases hc : c = 0
    · rw [if_pos hc] at h ⊢
      simpa using ih (by simpa using h)
    · rw [if_neg hc]; simpa using hc
theorem zl_uniq (cs : List Int) (n : Nat) (h1 : ∀ i, i < n → cs[i]?.getD 0 = 0) (hn : n < cs.length) (h2 : cs[n]?.getD 0 ≠ 0) : zl cs = n := by
  have hz := zl_zero cs
  rcases Nat.lt_trichotomy (zl cs) n with h | h | h
  · exact absurd (h1 _ h) (zl_end cs (by omega))
  · exact h
  · exact absurd (hz n h) h2

def tot : List Int → Nat
  | [] => 0
  | c :: cs => (shareN c).toNat + tot cs
def dsc : Nat → Nat → List Int → List (Fin 2)
  | 0, _, _ => []
  | _ + 1, _, [] => []
  | f + 1, R, c :: cs => valBits R (c + 1).toNat ++ (if c = 0 then zbits (zl cs) ++ dsc f R (cs.drop (zl cs)) else dsc f (R - (shareN c).toNat) cs)

/-- Counts that may be left. -/
structure Good (cs : List Int) : Prop where
  low : ∀ c ∈ cs, -1 ≤ c
  last : cs ≠ [] → cs[cs.length - 1]?.getD 0 ≠ 0
  le : tot cs ≤ 4096
theorem shareN_pos (c : Int) (h : -1 ≤ c) : 0 ≤ shareN c := by unfold shareN; split <;> omega
theorem shareN_zero (c : Int) : shareN c = 0 ↔ c = 0 := by unfold shareN; split <;> omega
theorem Good.tail {c : Int} {cs : List Int} (h : Good (c :: cs)) : Good cs := by
  refine ⟨fun x hx => h.low x (List.mem_cons_of_mem _ hx), fun hne => ?_, by have := h.le; simp only [tot] at this; omega⟩
  have := h.last (by simp)
  cases cs with
  | nil => exact absurd rfl hne
  | cons d ds => simpa using this
theorem Good.drop {cs : List Int} (h : Good cs) (k : Nat) : Good (cs.drop k) := by
  induction k generalizing cs with
  | zero => simpa using h
  | succ k ih =>
    cases cs with
    | nil => simpa using h
    | cons c cs => exact ih h.tail
theorem Good.pos {cs : List Int} (h : Good cs) (hne : cs ≠ []) : 0 < tot cs := by
  induction cs with
  | nil => exact absurd rfl hne
  | cons c cs ih =>
    simp only [tot]
    by_cases hn : cs = []
    · subst hn
      have h1 := h.last (by simp)
      have h2 := h.low c (by simp)
      have h3 := shareN_pos c h2
      have h4 := shareN_zero c
      have : c ≠ 0 := by simpa using h1
      simp only [tot]
      have : shareN c ≠ 0 := fun e => this (h4.1 e)
      omega
    · have := ih h.tail hn; omega
theorem tot_zeros (cs : List Int) (k : Nat) (h : k ≤ zl cs) : tot (cs.drop k) = tot cs := by
  induction k generalizing cs with
  | zero => simp
  | succ k ih =>
    cases cs with
    | nil => simp
    | cons c cs =>
      simp only [zl] at h
      by_cases hc : c = 0
      · rw [if_pos hc] at h
        rw [List.drop_succ_cons, ih cs (by omega)]
        simp only [tot]
        rw [hc]; simp [shareN]
      · rw [if_neg hc] at h; omega
theorem Good.zl {cs : List Int} (h : Good cs) (hne : cs ≠ []) : zl cs < cs.length := by
  rcases Nat.lt_or_ge (Go.Proofs.YtcoahkmiebeeeaaGreatDoor.zl cs) cs.length with h1 | h1
  · exact h1
  · exact absurd (zl_zero cs (cs.length - 1) (by have := List.length_pos_iff.2 hne; omega)) (h.last hne)
theorem tot_mem (cs : List Int) (i : Nat) (h : ∀ c ∈ cs, -1 ≤ c) : shareN (cs[i]?.getD 0) ≤ tot cs := by
  induction cs generalizing i with
  | nil => simp [tot, shareN]
  | cons c cs ih =>
    simp only [tot]
    have h1 := shareN_pos c (h c (by simp))
    cases i with
    | zero => simp; omega
    | succ i => have := ih i (fun x hx => h x (by simp [hx])); simp; omega
theorem Good.at_ {cs : List Int} (h : Good cs) (i : Nat) : -1 ≤ cs[i]?.getD 0 ∧ cs[i]?.getD 0 ≤ 4096 := by
  by_cases hi : i < cs.length
  · have h1 := h.low _ (List.getElem_mem hi)
    have h2 := tot_mem cs i h.low
    have h3 := h.le
    rw [List.getElem?_eq_getElem hi] at h2 ⊢
    simp only [Option.getD_some] at h2 ⊢
    unfold shareN at h2
    split at h2 <;> omega
  · rw [List.getElem?_eq_none (by omega)]; simp

theorem valBits_le (R v : Nat) (h : R ≤ 4096) : (valBits R v).length ≤ 13 := by
  have := valM_le R h
  unfold valBits
  split
  · rw [low_length]; omega
  · split <;> rw [low_length] <;> omega
theorem zbits_length (n : Nat) : (zbits n).length = 2 * (n / 3) + 2 := by
  unfold zbits
  rw [List.length_append, low_length, List.length_flatten, List.map_replicate, List.sum_replicate_nat, low_length]
  omega
theorem dsc_le (f R : Nat) (cs : List Int) (h : R ≤ 4096) : (dsc f R cs).length ≤ 15 * cs.length := by
  induction f generalizing R cs with
  | zero => simp [dsc]
  | succ f ih =>
    cases cs with
    | nil => simp [dsc]
    | cons c cs =>
      have h1 := valBits_le R (c + 1).toNat h
      simp only [dsc]
      rw [List.length_append]
      by_cases hc : c = 0
      · rw [if_pos hc, List.length_append, zbits_length]
        have h2 := ih R (cs.drop (zl cs)) h
        have h3 := zl_le cs
        rw [List.length_drop] at h2
        simp only [List.length_cons]
        omega
      · rw [if_neg hc]
        have h2 := ih (R - (shareN c).toNat) cs (by omega)
        simp only [List.length_cons]
        omega

theorem tot_snoc (cs : List Int) (c : Int) : tot (cs ++ [c]) = tot cs + (shareN c).toNat := by
  induction cs with
  | nil => simp [tot]
  | cons d ds ih => simp only [List.cons_append, tot]; omega
theorem sumS_tot (xs : List Int) (h : ∀ i : Nat, i < xs.length → -1 ≤ xs[i]?.getD 0) (n : Nat) (hn : n ≤ xs.length) : sumS xs n = ((tot (xs.take n) : Nat) : Int) := by
  induction n with
  | zero => simp [sumS, tot]
  | succ n ih =>
    have h1 := shareN_pos _ (h n (by omega))
    rw [List.take_succ_eq_append_getElem (by omega), tot_snoc]
    simp only [sumS]
    rw [ih (by omega)]
    rw [List.getElem?_eq_getElem (by omega)] at h1 ⊢
    simp only [Option.getD_some] at h1 ⊢
    omega
theorem okT_good {xs : List Int} {l : Nat} (h : okT xs (l : Int) = true) : Good xs ∧ tot xs = 2 ^ l ∧ xs ≠ [] ∧ xs.length ≤ 256 ∧ 5 ≤ l ∧ l ≤ 12 := by
  obtain ⟨h1, h2, h3, h4, h5, h6, h7⟩ := of_decide_eq_true h
  have hs := sumS_tot xs h6 xs.length (Nat.le_refl _)
  rw [List.take_of_length_le (Nat.le_refl _)] at hs
  have ht : tot xs = 2 ^ l := by
    have e : ((2 ^ l : Nat) : Int) = (2 : Int) ^ l := by simp
    rw [hs, Int.toNat_natCast, ← e] at h7
    omega
  have hp : (2 : Nat) ^ l ≤ 2 ^ 12 := Nat.pow_le_pow_right (by omega) (by omega)
  refine ⟨⟨fun c hc => ?_, fun _ => h5, by omega⟩, ht, fun e => h3 (by rw [e]; rfl), h4, by omega, by omega⟩
  obtain ⟨i, hi, e⟩ := List.getElem_of_mem hc
  have := h6 i hi
  rwa [List.getElem?_eq_getElem hi, Option.getD_some, e] at this

end Go.Proofs.YtcoahkmiebeeeaaGreatDoor

namespace Go.Proofs.YtcoahkmiebeeeaaGreatDoor

def Turn (S H k x : Nat) : Prop := ∃ j, j < S ∧ x = orb S j ∧ orb S j < H ∧ cntP (below S H) j = k
def Mid (S H k x : Nat) : Prop := ∃ i, 1 ≤ i ∧ i ≤ S ∧ x = orb S i ∧ cntP (below S H) i = k + 1
theorem turn_zero (S H : Nat) (hS : 0 < S) (hH : 0 < H) : Turn S H 0 0 := ⟨0, hS, (orb_zero S).symm, by rw [orb_zero]; exact hH, rfl⟩
theorem Turn.place {S H k x : Nat} (h : Turn S H k x) : place S H k = x := by
  obtain ⟨j, h1, rfl, h2, h3⟩ := h
  exact place_eq S H k j h1 h2 h3
theorem Turn.lt {S H k x : Nat} (h : Turn S H k x) : x < H := by obtain ⟨j, _, rfl, h2, _⟩ := h; exact h2
theorem Turn.next {S H k x : Nat} (h : Turn S H k x) : Mid S H k ((x + stepN S) % S) := by
  obtain ⟨j, h1, rfl, h2, h3⟩ := h
  refine ⟨j + 1, by omega, by omega, (orb_succ S j).symm, ?_⟩
  simp [cntP, below, h2, h3]
theorem Mid.lt {S v H k x : Nat} (ho : Odd S v) (h : Mid S H k x) : x < S := by obtain ⟨i, _, _, rfl, _⟩ := h; exact orb_lt ho i
theorem Mid.next {S H k x : Nat} (hH : 0 < H) (h : Mid S H k x) (hx : H ≤ x) : Mid S H k ((x + stepN S) % S) := by
  obtain ⟨i, h1, h2, rfl, h3⟩ := h
  have : i ≠ S := by rintro rfl; rw [orb_all] at hx; omega
  refine ⟨i + 1, by omega, by omega, (orb_succ S i).symm, ?_⟩
  have h4 : ¬ orb S i < H := by omega
  simp [cntP, below, h4, h3]
theorem Mid.end_ {S v H k x : Nat} (ho : Odd S v) (hH : H ≤ S) (h : Mid S H k x) (hx : x < H) : k + 1 = H ∨ Turn S H (k + 1) x := by
  obtain ⟨i, h1, h2, rfl, h3⟩ := h
  by_cases e : i = S
  · subst e; rw [below_all ho H hH] at h3; omega
  · exact .inr ⟨i, by omega, rfl, hx, h3⟩
def meas (S v x : Nat) : Nat := if x = 0 then 0 else S - x * v % S
theorem Mid.meas {S v H k x : Nat} (ho : Odd S v) (hH : 0 < H) (h : Mid S H k x) (hx : H ≤ x) : meas S v ((x + stepN S) % S) < meas S v x := by
  obtain ⟨i, h1, h2, rfl, h3⟩ := h
  have hp := ho.pos
  have hi : i ≠ S := by rintro rfl; rw [orb_all] at hx; omega
  rw [← orb_succ]
  unfold Go.Proofs.YtcoahkmiebeeeaaGreatDoor.meas
  rw [if_neg (show ¬ orb S i = 0 by omega), orb_inv ho i, Nat.mod_eq_of_lt (show i < S by omega)]
  split
  · omega
  · rename_i h0
    have : i + 1 ≠ S := fun e => h0 (by rw [e]; exact orb_all S)
    rw [orb_inv ho (i + 1), Nat.mod_eq_of_lt (show i + 1 < S by omega)]
    omega

def upd (f : Nat → Option Nat) (i s : Nat) : Nat → Option Nat := fun k => if k = i then some s else f k
def isRare (xs : List Int) (s : Nat) : Bool := decide (xs[s]?.getD 0 = -1)
def nr (xs : List Int) (n : Nat) : Nat := cntP (isRare xs) n
def rareF (xs : List Int) (S : Nat) : Nat → Nat → Option Nat
  | 0 => fun _ => none
  | n + 1 => if xs[n]?.getD 0 = -1 then upd (rareF xs S n) (S - nr xs (n + 1)) n else rareF xs S n
def rowL (xs : List Int) : Nat → List Nat
  | 0 => []
  | n + 1 => rowL xs n ++ List.replicate (xs[n]?.getD 0).toNat n
def rowAt (xs : List Int) (k : Nat) : Nat := (rowL xs xs.length)[k]?.getD 0
def putF (xs : List Int) (S H : Nat) : Nat → Nat → Option Nat
  | 0 => rareF xs S xs.length
  | k + 1 => upd (putF xs S H k) (place S H k) (rowAt xs k)
def symO (xs : List Int) (S : Nat) : Nat → Option Nat := putF xs S (S - nr xs xs.length) (S - nr xs xs.length)
def symF (xs : List Int) (S i : Nat) : Nat := (symO xs S i).getD 0

theorem nr_succ (xs : List Int) (n : Nat) : nr xs (n + 1) = nr xs n + (if xs[n]?.getD 0 = -1 then 1 else 0) := by
  unfold nr
  simp only [cntP, isRare]
  congr 1
  by_cases h : xs[n]?.getD 0 = -1 <;> simp [h]
theorem rowL_len (xs : List Int) (h : ∀ i : Nat, i < xs.length → -1 ≤ xs[i]?.getD 0) (n : Nat) (hn : n ≤ xs.length) : (rowL xs n).length + nr xs n = tot (xs.take n) := by
  induction n with
  | zero => simp [rowL, nr, cntP, tot]
  | succ n ih =>
    have h1 := h n (by omega)
    have h2 := ih (by omega)
    rw [nr_succ, List.take_succ_eq_append_getElem (by omega), tot_snoc]
    simp only [rowL]
    rw [List.length_append, List.length_replicate]
    rw [List.getElem?_eq_getElem (by omega), Option.getD_some] at h1 ⊢
    unfold shareN
    split <;> omega
theorem rowL_grow (xs : List Int) (m n : Nat) (h : m ≤ n) : ∃ T, rowL xs n = rowL xs m ++ T := by
  induction n with
  | zero => obtain rfl : m = 0 := by omega
            exact ⟨[], by simp⟩
  | succ n ih =>
    by_cases e : m = n + 1
    · subst e; exact ⟨[], by simp⟩
    · obtain ⟨T, hT⟩ := ih (by omega)
      exact ⟨T ++ List.replicate (xs[n]?.getD 0).toNat n, by simp only [rowL]; rw [hT, List.append_assoc]⟩
theorem rowL_count (xs : List Int) (s n : Nat) : (rowL xs n).count s = if s < n then (xs[s]?.getD 0).toNat else 0 := by
  induction n with
  | zero => simp [rowL]
  | succ n ih =>
    simp only [rowL]
    rw [List.count_append, ih, List.count_replicate]
    by_cases e : n = s
    · subst e; simp
    · have e2 : (n == s) = false := by simpa using e
      have e3 : (s < n + 1) ↔ (s < n) := by omega
      simp [e2, e3]
theorem count_cntP (L : List Nat) (s : Nat) : cntP (fun k => decide (L[k]?.getD 0 = s)) L.length = L.count s := by
  have key : ∀ n, n ≤ L.length → cntP (fun k => decide (L[k]?.getD 0 = s)) n = (L.take n).count s := by
    intro n
    induction n with
    | zero => intro _; simp [cntP]
    | succ n ih =>
      intro hn
      simp only [cntP]
      have hv : L[n]?.getD 0 = L[n] := by rw [List.getElem?_eq_getElem (by omega)]; rfl
      rw [ih (by omega), List.take_succ_eq_append_getElem (by omega), List.count_append]
      by_cases e : L[n] = s
      · simp [e, hv]
      · simp [e, hv]
  have := key L.length (Nat.le_refl _)
  rwa [List.take_of_length_le (Nat.le_refl _)] at this

def cntS (f : Nat → Option Nat) (S s : Nat) : Nat := cntP (fun i => decide (f i = some s)) S
def cntN (f : Nat → Option Nat) (S : Nat) : Nat := cntP (fun i => decide (f i = none)) S
theorem cntS_upd (f : Nat → Option Nat) (S i s t : Nat) (hi : i < S) (hf : f i = none) : cntS (upd f i s) S t = cntS f S t + if t = s then 1 else 0 := by
  unfold cntS
  by_cases e : t = s
  · subst e
    rw [if_pos rfl]
    exact cntP_add _ _ S i hi (by simp [hf]) (by simp [upd]) (fun k _ hk => by simp [upd, hk])
  · rw [if_neg e, Nat.add_zero]
    refine cntP_congr _ _ S (fun k _ => ?_)
    by_cases ek : k = i
    · subst ek; simp [upd, hf, Ne.symm e]
    · simp [upd, ek]
theorem cntN_upd (f : Nat → Option Nat) (S i s : Nat) (hi : i < S) (hf : f i = none) : cntN (upd f i s) S + 1 = cntN f S := by
  unfold cntN
  exact (cntP_add _ _ S i hi (by simp [upd]) (by simp [hf]) (fun k _ hk => by simp [upd, hk])).symm

theorem rareF_facts (xs : List Int) (S n : Nat) (h : nr xs n ≤ S) :
    (∀ i, i < S - nr xs n → rareF xs S n i = none) ∧ (∀ i s, rareF xs S n i = some s → s < n ∧ xs[s]?.getD 0 = -1) ∧
    (∀ s, cntS (rareF xs S n) S s = if s < n ∧ xs[s]?.getD 0 = -1 then 1 else 0) ∧ cntN (rareF xs S n) S + nr xs n = S := by
  induction n with
  | zero =>
    refine ⟨fun _ _ => rfl, fun i s h => by simp [rareF] at h, fun s => ?_, ?_⟩
    · rw [if_neg (by omega)]; exact cntP_none _ _ (fun i _ => by simp [rareF])
    · have : cntN (rareF xs S 0) S = S := by
        have h1 : ∀ n, cntP (fun i => decide (rareF xs S 0 i = none)) n = n := by
          intro n
          induction n with
          | zero => rfl
          | succ n ih => simp only [cntP]; rw [ih]; simp [rareF]
        exact h1 S
      rw [this]; rfl
  | succ n ih =>
    have hs := nr_succ xs n
    by_cases hr : xs[n]?.getD 0 = -1
    · rw [if_pos hr] at hs
      obtain ⟨a1, a2, a3, a4⟩ := ih (by omega)
      have e : rareF xs S (n + 1) = upd (rareF xs S n) (S - nr xs (n + 1)) n := by simp only [rareF]; rw [if_pos hr]
      rw [e]
      have hn0 := a1 (S - nr xs (n + 1)) (by omega)
      refine ⟨fun i hi => ?_, fun i s h => ?_, fun s => ?_, ?_⟩
      · simp only [upd]; rw [if_neg (by omega)]; exact a1 i (by omega)
      · simp only [upd] at h
        split at h
        · cases h; exact ⟨by omega, hr⟩
        · have := a2 i s h; exact ⟨by omega, this.2⟩
      · rw [cntS_upd _ S _ n s (by omega) hn0, a3 s]
        by_cases e : s = n
        · subst e; rw [if_neg (by omega), if_pos rfl, if_pos ⟨by omega, hr⟩]
        · rw [if_neg e, Nat.add_zero]
          by_cases h2 : s < n ∧ xs[s]?.getD 0 = -1
          · rw [if_pos h2, if_pos ⟨by omega, h2.2⟩]
          · rw [if_neg h2, if_neg (fun h => h2 ⟨by omega, h.2⟩)]
      · have := cntN_upd (rareF xs S n) S (S - nr xs (n + 1)) n (by omega) hn0
        omega
    · rw [if_neg hr] at hs
      obtain ⟨a1, a2, a3, a4⟩ := ih (by omega)
      have e : rareF xs S (n + 1) = rareF xs S n := by simp only [rareF]; rw [if_neg hr]
      rw [e, hs]
      refine ⟨a1, fun i s h => ⟨by have := a2 i s h; omega, (a2 i s h).2⟩, fun s => ?_, a4⟩
      rw [a3 s]
      by_cases h2 : s < n ∧ xs[s]?.getD 0 = -1
      · rw [if_pos h2, if_pos ⟨by omega, h2.2⟩]
      · rw [if_neg h2, if_neg]
        rintro ⟨h3, h4⟩
        by_cases e : s = n
        · subst e; exact hr h4
        · exact h2 ⟨by omega, h4⟩

theorem putF_facts (xs : List Int) (S v : Nat) (ho : Odd S v) (H : Nat) (hH : H + nr xs xs.length = S) (hrow : (rowL xs xs.length).length = H) (k : Nat) (hk : k ≤ H) :
    (∀ i, i < H → (∀ j, j < k → place S H j ≠ i) → putF xs S H k i = none) ∧ (∀ i s, putF xs S H k i = some s → s < xs.length ∧ xs[s]?.getD 0 ≠ 0) ∧
    (∀ s, cntS (putF xs S H k) S s = (if s < xs.length ∧ xs[s]?.getD 0 = -1 then 1 else 0) + cntP (fun j => decide (rowAt xs j = s)) k) ∧ cntN (putF xs S H k) S + nr xs xs.length + k = S := by
  induction k with
  | zero =>
    obtain ⟨a1, a2, a3, a4⟩ := rareF_facts xs S xs.length (by omega)
    refine ⟨fun i hi _ => a1 i (by omega), fun i s h => ⟨(a2 i s h).1, by rw [(a2 i s h).2]; decide⟩, fun s => ?_, by simp only [putF]; omega⟩
    simp only [putF, cntP]
    rw [a3 s]; rfl
  | succ k ih =>
    obtain ⟨a1, a2, a3, a4⟩ := ih (by omega)
    have hpl := place_lt ho H (by omega) k (by omega)
    have hn0 : putF xs S H k (place S H k) = none := a1 _ hpl (fun j hj e => by
      have := place_inj ho H (by omega) j k (by omega) (by omega) e
      omega)
    simp only [putF]
    refine ⟨fun i hi h => ?_, fun i s h => ?_, fun s => ?_, ?_⟩
    · have hne := h k (by omega)
      simp only [upd]
      rw [if_neg (fun e => hne e.symm)]
      exact a1 i hi (fun j hj => h j (by omega))
    · simp only [upd] at h
      split at h
      · have hmem : rowAt xs k ∈ rowL xs xs.length := by
          unfold rowAt
          rw [List.getElem?_eq_getElem (by omega), Option.getD_some]
          exact List.getElem_mem _
        have hc := rowL_count xs (rowAt xs k) xs.length
        have hpos := List.count_pos_iff.2 hmem
        have e : rowAt xs k = s := by simpa using h
        rw [e] at hc hpos
        split at hc
        · exact ⟨by assumption, fun e0 => by rw [e0] at hc; simp at hc; omega⟩
        · omega
      · exact a2 i s h
    · rw [cntS_upd _ S _ _ s (by omega) hn0, a3 s]
      simp only [cntP]
      by_cases e : rowAt xs k = s
      · rw [if_pos (show s = rowAt xs k from e.symm), if_pos (show decide (rowAt xs k = s) = true from decide_eq_true e)]; omega
      · rw [if_neg (show ¬ s = rowAt xs k from fun h => e h.symm), if_neg (show ¬ decide (rowAt xs k = s) = true from by simpa using e)]; omega
    · have := cntN_upd (putF xs S H k) S (place S H k) (rowAt xs k) (by omega) hn0
      omega

/-- A table's counts, as plain numbers. -/
structure Tab (xs : List Int) (S : Nat) : Prop where
  low : ∀ i : Nat, i < xs.length → -1 ≤ xs[i]?.getD 0
  tot : tot xs = S
  len : xs.length ≤ 256
  ne : xs ≠ []
  log : ∃ l, S = 2 ^ l ∧ 5 ≤ l ∧ l ≤ 12
theorem okT_tab {xs : List Int} {l : Nat} (h : okT xs (l : Int) = true) : Tab xs (2 ^ l) := by
  obtain ⟨h1, h2, h3, h4, h5, h6⟩ := okT_good h
  exact ⟨(of_decide_eq_true h).2.2.2.2.2.1, h2, h4, h3, l, rfl, h5, h6⟩
theorem Tab.row {xs : List Int} {S : Nat} (h : Tab xs S) : (rowL xs xs.length).length + nr xs xs.length = S := by
  have := rowL_len xs h.low xs.length (Nat.le_refl _)
  rw [List.take_of_length_le (Nat.le_refl _), h.tot] at this
  exact this
theorem Tab.sym {xs : List Int} {S : Nat} (h : Tab xs S) : (∀ i, i < S → ∃ s, symO xs S i = some s ∧ s < xs.length ∧ xs[s]?.getD 0 ≠ 0) ∧ ∀ s, s < xs.length → (cntS (symO xs S) S s : Int) = shareN (xs[s]?.getD 0) := by
  obtain ⟨l, rfl, h5, h12⟩ := h.log
  obtain ⟨v, ho⟩ := odd_pow l h5 h12
  have hr := h.row
  obtain ⟨a1, a2, a3, a4⟩ := putF_facts xs (2 ^ l) v ho (2 ^ l - nr xs xs.length) (by omega) (by omega) _ (Nat.le_refl _)
  refine ⟨fun i hi => ?_, fun s hs => ?_⟩
  · have h0 : cntN (symO xs (2 ^ l)) (2 ^ l) = 0 := by unfold symO; omega
    cases e : symO xs (2 ^ l) i with
    | none =>
      have := cntP_lt (fun i => decide (symO xs (2 ^ l) i = none)) i (2 ^ l) hi (by simp [e])
      unfold cntN at h0
      omega
    | some s => exact ⟨s, rfl, a2 i s e⟩
  · have hc := a3 s
    have e1 : cntP (fun j => decide (rowAt xs j = s)) (2 ^ l - nr xs xs.length) = (xs[s]?.getD 0).toNat := by
      have := count_cntP (rowL xs xs.length) s
      rw [rowL_count, if_pos hs] at this
      rw [← this, show (rowL xs xs.length).length = 2 ^ l - nr xs xs.length from by omega]
      rfl
    rw [e1] at hc
    have hlow := h.low s hs
    unfold symO
    unfold shareN
    by_cases e : xs[s]?.getD 0 = -1
    · rw [if_pos ⟨hs, e⟩] at hc; rw [if_pos e, hc, e]; rfl
    · rw [if_neg (fun h => e h.2)] at hc; rw [if_neg e, hc]; omega

end Go.Proofs.YtcoahkmiebeeeaaGreatDoor

namespace Go.Proofs.YtcoahkmiebeeeaaGreatDoor

def blF (xs : List Int) (S i : Nat) : Nat := cntP (fun j => decide (symF xs S j = symF xs S i)) i
def xF (xs : List Int) (S i : Nat) : Nat := (shareN (xs[symF xs S i]?.getD 0)).toNat + blF xs S i
def bitF (l x : Nat) : Nat := l + 1 - lenN x
def baseF (l x : Nat) : Nat := x * 2 ^ bitF l x - 2 ^ l

theorem Tab.symF {xs : List Int} {S : Nat} (h : Tab xs S) (i : Nat) (hi : i < S) : symO xs S i = some (symF xs S i) ∧ symF xs S i < xs.length ∧ xs[symF xs S i]?.getD 0 ≠ 0 := by
  obtain ⟨s, h1, h2, h3⟩ := h.sym.1 i hi
  have e : Go.Proofs.YtcoahkmiebeeeaaGreatDoor.symF xs S i = s := by unfold Go.Proofs.YtcoahkmiebeeeaaGreatDoor.symF; rw [h1]; rfl
  rw [e]; exact ⟨h1, h2, h3⟩
theorem Tab.cnt {xs : List Int} {S : Nat} (h : Tab xs S) (s : Nat) (hs : s < xs.length) : (cntP (fun j => decide (Go.Proofs.YtcoahkmiebeeeaaGreatDoor.symF xs S j = s)) S : Int) = shareN (xs[s]?.getD 0) := by
  rw [← h.sym.2 s hs]
  congr 1
  refine cntP_congr _ _ S (fun i hi => ?_)
  rw [(h.symF i hi).1]
  simp
theorem shareN_one (c : Int) (h1 : -1 ≤ c) (h2 : c ≠ 0) : 1 ≤ shareN c := by unfold shareN; split <;> omega
theorem Tab.share {xs : List Int} {S : Nat} (h : Tab xs S) (s : Nat) (hs : s < xs.length) (h0 : xs[s]?.getD 0 ≠ 0) : ∃ c : Nat, shareN (xs[s]?.getD 0) = (c : Int) ∧ 1 ≤ c ∧ c ≤ S := by
  have h1 := shareN_one _ (h.low s hs) h0
  have h2 := h.cnt s hs
  have h3 := cntP_le (fun j => decide (Go.Proofs.YtcoahkmiebeeeaaGreatDoor.symF xs S j = s)) S
  exact ⟨(shareN (xs[s]?.getD 0)).toNat, by omega, by omega, by omega⟩
theorem Tab.x {xs : List Int} {S : Nat} (h : Tab xs S) (i : Nat) (hi : i < S) : ∃ c : Nat, shareN (xs[Go.Proofs.YtcoahkmiebeeeaaGreatDoor.symF xs S i]?.getD 0) = (c : Int) ∧ 1 ≤ c ∧ c ≤ S ∧ blF xs S i < c ∧ xF xs S i = c + blF xs S i := by
  obtain ⟨h1, h2, h3⟩ := h.symF i hi
  obtain ⟨c, e, c1, c2⟩ := h.share _ h2 h3
  have h4 := h.cnt _ h2
  have h5 := cntP_lt (fun j => decide (Go.Proofs.YtcoahkmiebeeeaaGreatDoor.symF xs S j = Go.Proofs.YtcoahkmiebeeeaaGreatDoor.symF xs S i)) i S hi (by simp)
  refine ⟨c, e, c1, c2, ?_, by unfold xF; rw [e]; omega⟩
  unfold blF
  omega
theorem lenN_div (y b : Nat) (h : y / 2 ^ b ≠ 0) : lenN (y / 2 ^ b) + b = lenN y := by
  induction b with
  | zero => simp
  | succ b ih =>
    have e : y / 2 ^ (b + 1) = y / 2 ^ b / 2 := by rw [Nat.pow_succ, Nat.div_div_eq_div_mul]
    have h0 : y / 2 ^ b ≠ 0 := by rw [e] at h; omega
    have h1 := ih h0
    have h2 := lenN_half (y / 2 ^ b) h0
    rw [e]; omega
theorem cell_fits (l x : Nat) (h0 : x ≠ 0) (h1 : x < 2 ^ (l + 1)) : bitF l x ≤ l ∧ 2 ^ l ≤ x * 2 ^ bitF l x ∧ x * 2 ^ bitF l x < 2 ^ (l + 1) ∧ 1 ≤ lenN x ∧ lenN x ≤ l + 1 := by
  obtain ⟨a, b, c⟩ := lenN_pos x h0
  have d := lenN_le x (l + 1) h1
  have e : bitF l x + lenN x = l + 1 := by unfold bitF; omega
  have e1 : 2 ^ (bitF l x) * 2 ^ (lenN x) = 2 ^ (l + 1) := by rw [← Nat.pow_add, e]
  have e2 : 2 ^ (bitF l x) * 2 ^ (lenN x - 1) = 2 ^ l := by rw [← Nat.pow_add]; congr 1; omega
  refine ⟨by omega, ?_, ?_, c, d⟩
  · rw [← e2, Nat.mul_comm]; exact Nat.mul_le_mul_right _ a
  · rw [← e1, Nat.mul_comm]; exact Nat.mul_lt_mul_of_pos_left b (Nat.pow_pos (by omega))
theorem halves (c : Nat) (hc : 1 ≤ c) (y : Nat) : c ≤ y → ∃ b, c ≤ y / 2 ^ b ∧ y / 2 ^ b < 2 * c := by
  induction y using Nat.strongRecOn with
  | _ y ih =>
    intro h
    by_cases h2 : y < 2 * c
    · exact ⟨0, by simpa using h, by simpa using h2⟩
    · obtain ⟨b, h3, h4⟩ := ih (y / 2) (by omega) (by omega)
      refine ⟨b + 1, ?_, ?_⟩ <;> rw [Nat.pow_succ, Nat.mul_comm, ← Nat.div_div_eq_div_mul] <;> assumption
theorem Tab.comes {xs : List Int} {l : Nat} (h : Tab xs (2 ^ l)) (s : Nat) (hs : s < xs.length) (h0 : xs[s]?.getD 0 ≠ 0) (n : Nat) (hn : n < 2 ^ l) :
    ∃ i, i < 2 ^ l ∧ Go.Proofs.YtcoahkmiebeeeaaGreatDoor.symF xs (2 ^ l) i = s ∧ baseF l (xF xs (2 ^ l) i) ≤ n ∧ n < baseF l (xF xs (2 ^ l) i) + 2 ^ bitF l (xF xs (2 ^ l) i) := by
  obtain ⟨c, ec, c1, c2⟩ := h.share s hs h0
  have hcnt := h.cnt s hs
  rw [ec] at hcnt
  obtain ⟨b, b1, b2⟩ := halves c c1 (n + 2 ^ l) (by omega)
  obtain ⟨i, i1, i2, i3⟩ := cntP_find (fun j => decide (Go.Proofs.YtcoahkmiebeeeaaGreatDoor.symF xs (2 ^ l) j = s)) (2 ^ l) ((n + 2 ^ l) / 2 ^ b - c) (by omega)
  have i2' : Go.Proofs.YtcoahkmiebeeeaaGreatDoor.symF xs (2 ^ l) i = s := by simpa using i2
  have ex : xF xs (2 ^ l) i = (n + 2 ^ l) / 2 ^ b := by
    unfold xF blF
    rw [i2', ec, i3]
    omega
  have hp : 2 ^ (l + 1) = 2 * 2 ^ l := by rw [Nat.pow_succ]; omega
  have hly : lenN (n + 2 ^ l) = l + 1 := lenN_eq _ l (by omega) (by omega)
  have hlx := lenN_div (n + 2 ^ l) b (by omega)
  have hx1 := lenN_pos ((n + 2 ^ l) / 2 ^ b) (by omega)
  have eb : bitF l (xF xs (2 ^ l) i) = b := by rw [ex]; unfold bitF; omega
  refine ⟨i, i1, i2', ?_, ?_⟩
  · unfold baseF; rw [eb, ex]
    have := Nat.div_mul_le_self (n + 2 ^ l) (2 ^ b)
    omega
  · unfold baseF; rw [eb, ex]
    have hd := Nat.div_add_mod (n + 2 ^ l) (2 ^ b)
    have hm := Nat.mod_lt (n + 2 ^ l) (Nat.pow_pos (n := b) (show 0 < 2 by omega))
    rw [Nat.mul_comm] at hd
    omega
theorem Tab.cell {xs : List Int} {l : Nat} (h : Tab xs (2 ^ l)) (i : Nat) (hi : i < 2 ^ l) : xF xs (2 ^ l) i ≠ 0 ∧ xF xs (2 ^ l) i < 2 ^ (l + 1) ∧ bitF l (xF xs (2 ^ l) i) ≤ l ∧ baseF l (xF xs (2 ^ l) i) < 2 ^ l ∧ baseF l (xF xs (2 ^ l) i) + 2 ^ bitF l (xF xs (2 ^ l) i) ≤ 2 ^ l ∧ 1 ≤ lenN (xF xs (2 ^ l) i) ∧ lenN (xF xs (2 ^ l) i) ≤ l + 1 ∧ 2 ^ l ≤ xF xs (2 ^ l) i * 2 ^ bitF l (xF xs (2 ^ l) i) := by
  obtain ⟨c, e, c1, c2, c3, c4⟩ := h.x i hi
  have hp : 2 ^ (l + 1) = 2 * 2 ^ l := by rw [Nat.pow_succ]; omega
  have h1 : xF xs (2 ^ l) i ≠ 0 := by omega
  have h2 : xF xs (2 ^ l) i < 2 ^ (l + 1) := by omega
  obtain ⟨d1, d2, d3, d4, d5⟩ := cell_fits l _ h1 h2
  refine ⟨h1, h2, d1, by unfold baseF; omega, ?_, d4, d5, d2⟩
  have ep : 2 ^ (l + 1) = 2 ^ (l + 1 - bitF l (xF xs (2 ^ l) i)) * 2 ^ bitF l (xF xs (2 ^ l) i) := by rw [← Nat.pow_add]; congr 1; omega
  have h3 : xF xs (2 ^ l) i < 2 ^ (l + 1 - bitF l (xF xs (2 ^ l) i)) := by
    have := (lenN_pos _ h1).2.1
    have e2 : l + 1 - bitF l (xF xs (2 ^ l) i) = lenN (xF xs (2 ^ l) i) := by unfold bitF; omega
    rw [e2]; exact this
  have h4 : (xF xs (2 ^ l) i + 1) * 2 ^ bitF l (xF xs (2 ^ l) i) ≤ 2 ^ (l + 1) := by rw [ep]; exact Nat.mul_le_mul_right _ h3
  rw [Nat.succ_mul] at h4
  unfold baseF
  omega

end Go.Proofs.YtcoahkmiebeeeaaGreatDoor
