/-
  Read under way: the boxes, and the reader.
-/
import Derived.Test.YtapcohpagipkpaaSymAt
namespace Go.Proofs.Ytapcohpagipkpaa
open Go.RowKit Go.Shelf

/-- Read when h bits are read and no word was found: its boxes begin at b, and at mb. -/
structure RS (xs bs : List Nat) (w V : World) (rb g p : Nat) (a : Option Addr) (cap gb off b mb h : Nat) : Prop where
  rbox : V.heap[b]? = some (.cells #[.pointer (some ⟨rb, 0, none⟩)] 38 (0, 0))
  lbox : V.heap[b + 1]? = some (.cells #[.slice a xs.length cap] 22 (0, 0))
  wbox : V.heap[mb + 1]? = some (.cells #[.int .i64 ((valF (fun i => bitAt bs (p + i)) h : Nat) : Int)] 3 (0, 0))
  hbox : V.heap[mb + 1 + 1]? = some (.cells #[.int .i64 (h : Int)] 3 (0, 0))
  sbox : V.heap[mb + 1 + 1 + 1]? = some (.cells #[.int .i64 0] 3 (0, 0))
  ebox : V.heap[mb + 1 + 1 + 1 + 1]? = some (.cells #[.int .i64 0] 25 (0, 0))
  rd : IsR V rb g bs (p + h)
  row : Row V .u8 a cap gb off xs
  keep : Keep (fun k => k = rb) w V
theorem IsR.own {W W' : World} {row : Option Nat} {rb g : Nat} {bs : List Nat} {p : Nat} (h : IsR W rb g bs p) (hg : W.grownBy W' row) (hr : ∀ r, row = some r → ∃ o : Obj, W.heap[r]? = some o ∧ o.isCells = false) : IsR W' rb g bs p := by
  obtain ⟨sa, c, h1, h2⟩ := h.obj
  exact ⟨Nat.lt_of_lt_of_le h.lt hg.size, ⟨sa, c, h1, own_obj hg hr h2 rfl⟩, fun j hj => own_cell hg hr (h.cells j hj), h.fits, h.bytes, h.in_⟩
theorem RS.own {xs bs : List Nat} {w V V' : World} {row : Option Nat} {rb g p : Nat} {a : Option Addr} {cap gb off b mb h B : Nat} (k : RS xs bs w V rb g p a cap gb off b mb h) (hB : w.heap.size ≤ B) (hg : V.grownBy V' row) (hr : ∀ r, row = some r → B ≤ r ∧ ∃ o : Obj, V.heap[r]? = some o ∧ o.isCells = false) : RS xs bs w V' rb g p a cap gb off b mb h := by
  have hr' : ∀ r, row = some r → ∃ o : Obj, V.heap[r]? = some o ∧ o.isCells = false := fun r e => (hr r e).2
  exact ⟨own_obj hg hr' k.rbox rfl, own_obj hg hr' k.lbox rfl, own_obj hg hr' k.wbox rfl, own_obj hg hr' k.hbox rfl, own_obj hg hr' k.sbox rfl, own_obj hg hr' k.ebox rfl, k.rd.own hg hr', own_row hg hr' k.row, k.keep.grown hg (fun r e hk => by have := (hr r e).1; omega)⟩
theorem RS.alloc {xs bs : List Nat} {w V : World} {rb g p : Nat} {a : Option Addr} {cap gb off b mb h : Nat} (k : RS xs bs w V rb g p a cap gb off b mb h) (o : Obj) : RS xs bs w (V.alloc o) rb g p a cap gb off b mb h :=
  k.own (Nat.le_refl _) (World.grownBy_alloc V o none) (fun r e => by cases e)
/-- What turns cells alone keeps the loop's own blocks. -/
theorem keeps_of {S : Nat → Prop} {W W' : World} (B : Nat) (hk : Keep S W W') (hS : ∀ k o, W.heap[k]? = some o → o.isCells = false → ¬ S k) : KeepsFrom B W W' :=
  ⟨hk.size, fun k o _ ho hc => hk.obj ho (hS k o ho hc)⟩
theorem keeps_set (B : Nat) {V W : World} (h : KeepsFrom B V W) (p : Addr) (v : Value) : KeepsFrom B V (W.setCell p v) :=
  ⟨by rw [World.size_setCell]; exact h.size, fun k o h1 h2 h3 => ((KeepsOthers.setCell W p v).from B).same k o h1 (h.same k o h1 h2 h3) h3⟩
theorem keeps_trans (B : Nat) {U V W : World} (h : KeepsFrom B U V) (k : KeepsFrom B V W) : KeepsFrom B U W :=
  ⟨Nat.le_trans h.size k.size, fun i o h1 h2 h3 => k.same i o h1 (h.same i o h1 h2 h3) h3⟩

theorem boxes5 (w : World) (o0 o1 o2 o3 o4 : Obj) :
    (((((w.alloc o0).alloc o1).alloc o2).alloc o3).alloc o4).heap[w.heap.size]? = some o0 ∧ (((((w.alloc o0).alloc o1).alloc o2).alloc o3).alloc o4).heap[w.heap.size + 1]? = some o1 ∧
    (((((w.alloc o0).alloc o1).alloc o2).alloc o3).alloc o4).heap[w.heap.size + 1 + 1]? = some o2 ∧ (((((w.alloc o0).alloc o1).alloc o2).alloc o3).alloc o4).heap[w.heap.size + 1 + 1 + 1]? = some o3 ∧
    (((((w.alloc o0).alloc o1).alloc o2).alloc o3).alloc o4).heap[w.heap.size + 1 + 1 + 1 + 1]? = some o4 ∧ (((((w.alloc o0).alloc o1).alloc o2).alloc o3).alloc o4).heap.size = w.heap.size + 5 ∧ Keep noBlock w (((((w.alloc o0).alloc o1).alloc o2).alloc o3).alloc o4) := by
  obtain ⟨b0, b1, b2, bz, bk⟩ := boxes3 w o0 o1 o2
  have e3 := World.alloc_heap_new (((w.alloc o0).alloc o1).alloc o2) o3
  have e4 := World.alloc_heap_new ((((w.alloc o0).alloc o1).alloc o2).alloc o3) o4
  rw [bz] at e3
  rw [World.size_alloc, bz] at e4
  exact ⟨alloc_far (alloc_far b0 _) _, alloc_far (alloc_far b1 _) _, alloc_far (alloc_far b2 _) _, alloc_far e3 _, e4, by rw [World.size_alloc, World.size_alloc, bz], (bk.alloc _).alloc _⟩

/-- The number in a box. -/
def heldI (W : World) (b : Nat) : Nat := match W.cell? ⟨b, 0, none⟩ with | some (.int _ n) => n.toNat | _ => 0
theorem heldI_of {W : World} {b h : Nat} {t : TypeId} (hb : W.heap[b]? = some (.cells #[.int .i64 (h : Int)] t (0, 0))) : heldI W b = h := by
  unfold heldI
  rw [cell_of hb]
  simp
theorem exists_word (xs bs : List Nat) (p : Nat) (hc : isCode xs = true) : ∃ l, IsWord (many xs) (fun i => bitAt bs (p + i)) l := by
  have h16 : partsTo (many xs) 16 = 32768 := (of_decide_eq_true hc).2.2
  have key : ∀ k, k ≤ 16 → (∃ l, IsWord (many xs) (fun i => bitAt bs (p + i)) l) ∨ ∀ l, l < k → 0 < many xs l → nextF (many xs) l + many xs l ≤ valF (fun i => bitAt bs (p + i)) l := by
    intro k
    induction k with
    | zero => intro _; exact .inr (fun l hl => by omega)
    | succ k ih =>
      intro hk
      rcases ih (by omega) with h | h
      · exact .inl h
      · by_cases hw : 0 < many xs k ∧ valF (fun i => bitAt bs (p + i)) k < nextF (many xs) k + many xs k
        · refine .inl ⟨k, ?_, by omega, val_ge _ _ k h k (Nat.le_refl _), hw.2, h⟩
          have : k ≠ 0 := by rintro rfl; simp [many] at hw
          omega
        · refine .inr (fun l hl h0 => ?_)
          by_cases e : l = k
          · subst e
            by_cases e2 : valF (fun i => bitAt bs (p + i)) l < nextF (many xs) l + many xs l
            · exact absurd ⟨h0, e2⟩ hw
            · omega
          · exact h l (by omega) h0
  rcases key 16 (Nat.le_refl _) with h | h
  · exact h
  · exact (some_word (many xs) _ (fun i => bitAt_lt bs _) h16 h).elim

/-- One bit. -/
theorem numAt_one (bs : List Nat) (p : Nat) : numAt bs p 1 = bitAt bs p := by simp [numAt]
theorem bit_one (bs : List Nat) (p : Nat) (hp : p + 1 ≤ 8 * bs.length) : bitsAns bs p 1 = (bitAt bs p, 0, p + 1) := by
  unfold bitsAns
  rw [if_pos (by omega), if_neg (by omega), show ((1 : Int)).toNat = 1 from rfl, numAt_one]
theorem bit_none (bs : List Nat) (p : Nat) (hp : 8 * bs.length < p + 1) : bitsAns bs p 1 = (0, 10, p) := by
  unfold bitsAns
  rw [if_pos (by omega), if_pos (by omega)]
theorem shl_or_bit (v b : Nat) (hv : v < 32768) (hb : b < 2) : bits .or .i64 ((v : Int) * 2) (b : Int) = ((2 * v + b : Nat) : Int) := by
  have e : bits .or .i64 ((v : Int) * 2) (b : Int) = IntKind.i64.wrap ((BitVec.ofInt 64 ((v : Int) * 2) ||| BitVec.ofInt 64 (b : Int)).toNat : Int) := rfl
  have e1 : (BitVec.ofInt 64 ((v : Int) * 2)).toNat = v * 2 := by rw [BitVec.toNat_ofInt]; omega
  have e2 : (BitVec.ofInt 64 (b : Int)).toNat = b := by rw [BitVec.toNat_ofInt]; omega
  rw [e, BitVec.toNat_or, e1, e2, show v * 2 ||| b = v * 2 + b from by
    have h := Nat.two_pow_add_eq_or_of_lt (i := 1) (b := b) (by simpa using hb) v
    rw [Nat.pow_one, Nat.mul_comm] at h
    exact h.symm, IntKind.wrap_i64]
  omega

/-- Where the boxes lie. -/
structure Lay (xs bs : List Nat) (w : World) (rb g gb b mb : Nat) : Prop where
  f1 : rb < w.heap.size
  f2 : g < w.heap.size
  f3 : xs ≠ [] → gb < w.heap.size
  f4 : bs ≠ [] → g ≠ rb
  f5 : xs ≠ [] → gb ≠ rb
  f6 : b = w.heap.size
  f7 : b + 2 ≤ mb
/-- A call that turned the reader alone. -/
theorem RS.after {xs bs : List Nat} {w V W : World} {rb g p : Nat} {a : Option Addr} {cap gb off b mb h : Nat} (k : RS xs bs w V rb g p a cap gb off b mb h) (L : Lay xs bs w rb g gb b mb) (hk : Keep (fun x => x = rb) V W) :
    W.heap[b]? = some (.cells #[.pointer (some ⟨rb, 0, none⟩)] 38 (0, 0)) ∧ W.heap[b + 1]? = some (.cells #[.slice a xs.length cap] 22 (0, 0)) ∧ W.heap[mb + 1]? = some (.cells #[.int .i64 ((valF (fun i => bitAt bs (p + i)) h : Nat) : Int)] 3 (0, 0)) ∧ W.heap[mb + 1 + 1]? = some (.cells #[.int .i64 (h : Int)] 3 (0, 0)) ∧
    W.heap[mb + 1 + 1 + 1]? = some (.cells #[.int .i64 0] 3 (0, 0)) ∧ W.heap[mb + 1 + 1 + 1 + 1]? = some (.cells #[.int .i64 0] 25 (0, 0)) ∧ Row W .u8 a cap gb off xs ∧ Keep (fun k => k = rb) w W := by
  have h1 := L.f1
  have h2 := L.f6
  have h3 := L.f7
  exact ⟨hk.obj k.rbox (by omega), hk.obj k.lbox (by omega), hk.obj k.wbox (by omega), hk.obj k.hbox (by omega), hk.obj k.sbox (by omega), hk.obj k.ebox (by omega), k.row.keep hk (fun hne => L.f5 hne), k.keep.trans hk (fun _ _ e => e)⟩
/-- A bit more. -/
theorem RS.next {xs bs : List Nat} {w V W : World} {rb g p : Nat} {a : Option Addr} {cap gb off b mb h : Nat} (k : RS xs bs w V rb g p a cap gb off b mb h) (L : Lay xs bs w rb g gb b mb) (hk : Keep (fun x => x = rb) V W) (hI : IsR W rb g bs (p + h + 1)) :
    RS xs bs w (((W.setCell ⟨mb + 1 + 1 + 1 + 1, 0, none⟩ (.int .i64 0)).setCell ⟨mb + 1, 0, none⟩ (.int .i64 ((valF (fun i => bitAt bs (p + i)) (h + 1) : Nat) : Int))).setCell ⟨mb + 1 + 1, 0, none⟩ (.int .i64 ((h : Int) + 1))) rb g p a cap gb off b mb (h + 1) := by
  obtain ⟨q1, q2, q3, q4, q5, q6, q7, q8⟩ := k.after L hk
  have h1 := L.f1
  have h2 := L.f6
  have h3 := L.f7
  have h4 := L.f2
  have hkk : Keep (fun x => x = mb + 1 + 1 + 1 + 1 ∨ x = mb + 1 ∨ x = mb + 1 + 1) W (((W.setCell ⟨mb + 1 + 1 + 1 + 1, 0, none⟩ (.int .i64 0)).setCell ⟨mb + 1, 0, none⟩ (.int .i64 ((valF (fun i => bitAt bs (p + i)) (h + 1) : Nat) : Int))).setCell ⟨mb + 1 + 1, 0, none⟩ (.int .i64 ((h : Int) + 1))) :=
    Keep.setCell (p := ⟨mb + 1 + 1, 0, none⟩) (Keep.setCell (p := ⟨mb + 1, 0, none⟩) (Keep.setCell (S := fun x => x = mb + 1 + 1 + 1 + 1 ∨ x = mb + 1 ∨ x = mb + 1 + 1) (p := ⟨mb + 1 + 1 + 1 + 1, 0, none⟩) (Keep.refl _ W) (fun _ => .inl rfl) _) (fun _ => .inr (.inl rfl)) _) (fun _ => .inr (.inr rfl)) _
  refine ⟨hkk.obj q1 (by omega), hkk.obj q2 (by omega), set_far ((set_obj (set_far q3 (by omega) _ _) 0 _).trans (by simp)) (by omega) _ _, (set_obj (set_far (set_far q4 (by omega) _ _) (by omega) _ _) 0 _).trans (by simp), hkk.obj q5 (by omega), set_far (set_far ((set_obj q6 0 _).trans (by simp)) (by omega) _ _) (by omega) _ _, ?_, q7.keep hkk (fun hne => by have := L.f3 hne; omega), q8.trans hkk (fun i hi e => by omega)⟩
  exact hI.keep hkk (by omega) (fun _ => by omega)
theorem RS.keeps {xs bs : List Nat} {w V W : World} {rb g p : Nat} {a : Option Addr} {cap gb off b mb h : Nat} (k : RS xs bs w V rb g p a cap gb off b mb h) (B : Nat) (hk : Keep (fun x => x = rb) V W) : KeepsFrom B V W := by
  refine keeps_of B hk (fun i o ho hc e => ?_)
  obtain ⟨sa, c, _, h2⟩ := k.rd.obj
  subst e
  rw [h2] at ho
  cases ho
  cases hc

end Go.Proofs.Ytapcohpagipkpaa
