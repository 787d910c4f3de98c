/-
  Bytes as strings; lits and then Back.
-/
import Derived.Test.YtlpibfonpfhakaaDoorLit
import Derived.Laws.BytesString
import Derived.Lib.SlBytesConst
namespace Go.Proofs.YtlpibfonpfhakaaDoor
open Go.RowKit Go.Shelf
set_option linter.unusedVariables false

/-- Bytes as a string. -/
def strOf (bs : List Nat) : ByteArray := (bs.map (fun b => ((b : Nat) : Int))).foldl (fun r n => r.push (UInt8.ofNat n.toNat)) ByteArray.empty
theorem run_conv {w : World} {v : Value} {bs : List Nat} (h : SrcB w v bs) : (convert 22 9 v).run Tryd.prog w = .ok (.string (strOf bs)) w := by
  rcases h with ⟨rfl, rfl⟩ | ⟨a, cap, rfl, hc⟩
  · rw [run_convert_bytes_string w 22 9 5 none 0 0 Tryd.underlying22 Tryd.underlying5 Tryd.underlying9]
    rfl
  · rw [run_convert_bytes_string w 22 9 5 (some a) bs.length cap Tryd.underlying22 Tryd.underlying5 Tryd.underlying9]
    refine run_bytesToString w a bs.length cap (bs.map (fun b => ((b : Nat) : Int))) ?_
    have := run_loadCells_list (P := Tryd.prog) w a (u8s bs) hc
    rw [u8s_length] at this
    rw [this]
    simp [u8s]
/-- A row of one's own, as a slice of bytes. -/
theorem owns_bytes {w : World} {v : Value} {M : List Nat} (h : ownsU w v M) (hM : ∀ j : Nat, M[j]?.getD 0 < 256) (hl : M.length < 2 ^ 48) : ∃ a cap g, v = .slice a M.length cap ∧ Bytes w a cap g 0 M := by
  obtain ⟨a, cap, g, e, hB, -⟩ := bytes_own h hM hl
  exact ⟨a, cap, g, e, hB⟩
theorem SrcB.keep {w w' : World} {v : Value} {bs : List Nat} (h : SrcB w v bs) (hk : Keep noBlock w w') : SrcB w' v bs := by
  rcases h with h | ⟨a, cap, e, hc⟩
  · exact .inl h
  · exact .inr ⟨a, cap, e, fun j u hu => by
      have := hc j u hu
      exact (World.cell?_of_block (hk.block _ (World.block_lt_of_cell? w _ this) (fun h => h))).trans this⟩
/-- Bytes that are built. -/
theorem bytes_new (w : World) (bs : List Nat) (vs : Array Value) (mk : Nat × Nat) (n : Nat) (hn : n = bs.length) (hv : vs = (u8s bs).toArray) (hl : ∀ j : Nat, bs[j]?.getD 0 < 256) (h48 : bs.length < 2 ^ 48) : Bytes (w.alloc (.cells vs 5 mk)) (some ⟨w.heap.size, 0, none⟩) n w.heap.size 0 bs := by
  subst hn hv
  refine ⟨.inl rfl, (fun e => by cases e), fun j hj => ?_, hl, Nat.le_refl _, h48⟩
  have e : (w.alloc (.cells (u8s bs).toArray 5 mk)).cell? ⟨w.heap.size, 0 + j, none⟩ = (u8s bs).toArray[0 + j]? := by
    have h := alloc_new w (.cells (u8s bs).toArray 5 mk)
    generalize w.alloc (.cells (u8s bs).toArray 5 mk) = W at h ⊢
    simp [World.cell?, h]
  rw [e, Nat.zero_add, List.getElem?_toArray]
  exact u8s_at bs j hj
theorem rowq_new (w : World) (l m b : Int) (hb : b < 9223372036854775808) : RowQ (w.alloc (.cells #[.int .i64 l, .int .i64 m, .int .i64 b] 25)) (some ⟨w.heap.size, 0, none⟩) 1 w.heap.size 0 [(l, m, b)] := by
  refine ⟨.inl rfl, fun j hj => ?_, fun j => ?_⟩
  · have : j = 0 := by simpa using hj
    subst this
    exact ⟨cell_of (alloc_new w _) 0, cell_of (alloc_new w _) 1, cell_of (alloc_new w _) 2⟩
  · rcases j with _ | j
    · exact hb
    · show (0 : Int) < _; decide
theorem two_new (W : World) (l m b : Int) (hb : b < 9223372036854775808) (mk : Nat × Nat) (bs : List Nat) (vs : Array Value) (n : Nat) (hn : n = bs.length) (hv : vs = (u8s bs).toArray) (hl : ∀ j : Nat, bs[j]?.getD 0 < 256) (h48 : bs.length < 2 ^ 48) :
    Bytes ((W.alloc (.cells vs 5 mk)).alloc (.cells #[.int .i64 l, .int .i64 m, .int .i64 b] 25)) (some ⟨W.heap.size, 0, none⟩) n W.heap.size 0 bs ∧ RowQ ((W.alloc (.cells vs 5 mk)).alloc (.cells #[.int .i64 l, .int .i64 m, .int .i64 b] 25)) (some ⟨W.heap.size + 1, 0, none⟩) 1 (W.heap.size + 1) 0 [(l, m, b)] ∧ Keep noBlock W ((W.alloc (.cells vs 5 mk)).alloc (.cells #[.int .i64 l, .int .i64 m, .int .i64 b] 25)) := by
  have k1 : Keep noBlock W (W.alloc (.cells vs 5 mk)) := (Keep.refl _ W).alloc _
  have k2 : Keep noBlock (W.alloc (.cells vs 5 mk)) ((W.alloc (.cells vs 5 mk)).alloc (.cells #[.int .i64 l, .int .i64 m, .int .i64 b] 25)) := (Keep.refl _ _).alloc _
  have hs : (W.alloc (.cells vs 5 mk)).heap.size = W.heap.size + 1 := by
    show (W.heap.push _).size = _
    simp
  have h1 := bytes_new W bs vs mk n hn hv hl h48
  have h2 := rowq_new (W.alloc (.cells vs 5 mk)) l m b hb
  rw [hs] at h2
  exact ⟨h1.keep k2 (fun _ h => h), h2, k1.trans' k2⟩
theorem lt256 {bs : List Nat} (h : ∀ b ∈ bs, b < 256) : ∀ j : Nat, bs[j]?.getD 0 < 256 := fun j => by
  by_cases hj : j < bs.length
  · rw [List.getElem?_eq_getElem hj]; exact h _ (List.getElem_mem hj)
  · rw [List.getElem?_eq_none (by omega)]; decide
theorem litsL_lt {bs : List Nat} (h : ∀ j : Nat, bs[j]?.getD 0 < 256) : ∀ (L : List Trip) (p : Nat) (j : Nat), (litsL bs p L)[j]?.getD 0 < 256
  | [], p, j => by simp [litsL]
  | (l, m, b) :: r, p, j => lt_app (lt_take (lt_drop h p) l) (litsL_lt h r (p + l + m)) j
theorem litsL_len {bs : List Nat} {win lo hi : Nat} : ∀ {L : List Trip} {p : Nat}, RightL (cf0 bs win lo hi) p L → p + (litsL bs p L).length ≤ bs.length
  | [], p, h => by
    have h : p = bs.length := h
    subst h
    show bs.length + 0 ≤ bs.length
    omega
  | (l, m, b) :: r, p, h => by
    have hll : (litsL bs p ((l, m, b) :: r)).length = ((bs.drop p).take l).length + (litsL bs (p + l + m) r).length := by rw [litsL, List.length_append]
    have hl1 : ((bs.drop p).take l).length ≤ l := by rw [List.length_take]; omega
    rcases h with ⟨q1, q2, q3, q4, q5⟩ | ⟨q1, q2⟩
    · have q5 : p + l = bs.length := q5
      subst q2
      have : (litsL bs (p + l + m) []).length = 0 := rfl
      omega
    · have := litsL_len q2
      omega
theorem lits_take {bs : List Nat} {F : Nat} (L : List Trip) (hF : F ≤ bs.length) : (bs.take F ++ litsL bs F L).take F = bs.take F ∧ (bs.take F ++ litsL bs F L).drop F = litsL bs F L := by
  have hl : (bs.take F).length = F := by rw [List.length_take]; omega
  exact ⟨List.take_left' hl, List.drop_left' hl⟩

/-- lits, then Back: the text again. -/
theorem round_any (a : Option Addr) (cap gb off : Nat) (bs : List Nat) (F win lo hi : Nat) (la : Option Addr) (lcap lg loff : Nat) (L : List Trip) (w : World) (hB : Bytes w a cap gb off bs) (hQ : RowQ w la lcap lg loff (triI L)) (hR : RightL (cf0 bs win lo hi) F L) (hn : bs.length < 65536) (hL : L.length < 1000000) (hF : F ≤ bs.length) (hlo : 2 ≤ lo) :
    Calls Tryd.prog 14 #[.slice a bs.length cap, .int .i64 (F : Int), .slice la L.length lcap] w fun e w' => (∃ (x : Option Addr) (xl xc : Nat), e = .returned (.slice x xl xc) ∧ Calls Tryd.prog 9 #[.slice x xl xc, .int .i64 (F : Int), .slice la L.length lcap] w' fun e2 w2 => (∃ (y : Option Addr) (yl yc : Nat), e2 = .returned (.tuple #[.slice y yl yc, .int .i64 0]) ∧ SrcB w2 (.slice y yl yc) bs ∧ ∃ g, Bytes w2 y yc g 0 bs ∧ yl = bs.length) ∧ Keep noBlock w w2) ∧ Keep noBlock w w' := by
  refine (lits_any a cap gb off bs F win lo hi la lcap lg loff L w hB hQ hR hn hL hF).mono ?_
  rintro e w' ⟨⟨v, rfl, own, new⟩, k⟩
  have hlt : ∀ j : Nat, (bs.take F ++ litsL bs F L)[j]?.getD 0 < 256 := lt_app (lt_take hB.lt F) (litsL_lt hB.lt L F)
  obtain ⟨x, xc, g, rfl, hBx⟩ := owns_bytes own hlt (by have := litsL_len hR; rw [List.length_append, List.length_take]; omega)
  refine ⟨⟨x, _, xc, rfl, ?_⟩, k⟩
  have hlen : (bs.take F).length = F := by rw [List.length_take]; omega
  have hll : (bs.take F ++ litsL bs F L).length = F + (litsL bs F L).length := by rw [List.length_append, hlen]
  have hle := litsL_len hR
  obtain ⟨a1, a2⟩ := again_list hn hlo hR
  obtain ⟨t1, t2⟩ := lits_take L hF
  have hb := back_ok x xc g 0 F (bs.take F ++ litsL bs F L) la lcap lg loff (triI L) w' (by omega) hBx (hQ.keep k (fun _ h => h)) (by omega) (by rw [triI_length]; omega) (by rw [show (bs.take F ++ litsL bs F L).length - F = (litsL bs F L).length from by omega]; exact a1)
  rw [t1, t2, a2, triI_length] at hb
  refine hb.mono ?_
  rintro e2 w2 ⟨⟨v2, rfl, own2, new2⟩, k2⟩
  obtain ⟨y, yc, g2, rfl, hBy⟩ := owns_bytes own2 hB.lt (by omega)
  exact ⟨⟨y, _, yc, rfl, hBy.src, g2, hBy, rfl⟩, k.trans' k2⟩

theorem okB_a : okB ((([97, 98, 99] : List Nat).length - 0 : Nat) : Int) ((0 : Nat) : Int) [(3, 6, 3)] = true := by decide +kernel
theorem okB_b : okB (((3 : Nat) - 0 : Nat) : Int) ((0 : Nat) : Int) [(1, 1, 2)] = false := by decide +kernel
theorem outB_a : outB (([97, 98, 99] : List Nat).take 0) (([97, 98, 99] : List Nat).drop 0) [(3, 6, 3)] = [97, 98, 99, 97, 98, 99, 97, 98, 99] := by decide +kernel
theorem lt9 : ∀ j : Nat, ([97, 98, 99, 97, 98, 99, 97, 98, 99] : List Nat)[j]?.getD 0 < 256 := lt256 (by decide)
theorem lt3 : ∀ j : Nat, ([97, 98, 99] : List Nat)[j]?.getD 0 < 256 := lt256 (by decide)
theorem len9 : ([97, 98, 99, 97, 98, 99, 97, 98, 99] : List Nat).length = 9 := rfl

end Go.Proofs.YtlpibfonpfhakaaDoor
