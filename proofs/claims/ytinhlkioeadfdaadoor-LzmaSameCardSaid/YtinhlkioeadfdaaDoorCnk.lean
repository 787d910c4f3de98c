/-
  Chunk.
-/
import Derived.Test.YtinhlkioeadfdaaDoorChk
import Derived.Test.YtinhlkioeadfdaaDoorNst
namespace Go.Proofs.YtinhlkioeadfdaaDoor
open Go.RowKit Go.Shelf
set_option linter.unusedVariables false

/-- What Chunk of a chunk may turn. -/
def WS (sb wb : Nat) (rv : Value) (k : Nat) : Prop := k = sb ∨ k = wb ∨ rv.ownBlock = some k
/-- How Chunk answers: a chunk's bytes, or an error. -/
def CkP (w w' : World) (sb wb lb size : Nat) (rv : Value) (r : Option Out) (e : Ending) : Prop := match r with
  | none => e = .returned (.tuple #[.slice none 0 0, .int .i64 11]) ∧ Keep (WS sb wb rv) w w'
  | some o => ∃ a cap g off rv', e = .returned (.tuple #[.slice a o.told.length cap, .int .i64 0]) ∧ Bytes w' a cap g off o.told ∧ (o.told ≠ [] → w.heap.size ≤ g ∧ rv'.ownBlock ≠ some g) ∧ IsS w' sb o.s o.c ∧ IsW w' wb lb size rv' o.win ∧ Near w rv rv' ∧ Keep (WS sb wb rv) w w'
theorem chunk_nil (v : Value) (hv : ∃ a, v = .pointer a) (total n : Int) (b : Value) (hb : ∃ x y z, b = .slice x y z) (w : World) : Calls Tryd.prog 7 #[.pointer none, v, .int .i64 total, b, .int .i64 n] w fun e w' => e = .returned (.tuple #[.slice none 0 0, .int .i64 1]) ∧ w' = w := by
  obtain ⟨a, rfl⟩ := hv
  obtain ⟨x, y, z, rfl⟩ := hb
  go_enter Tryd.func7, Tryd.ntmps7
  go_wp2
  exact bodyPost_ret (v := .tuple #[.slice none 0 0, .int .i64 1]) (by simp [results, Tryd.results7]) rfl ⟨rfl, rfl⟩
theorem chunk_nowin (sb : Nat) (total n : Int) (b : Value) (hb : ∃ x y z, b = .slice x y z) (w : World) : Calls Tryd.prog 7 #[.pointer (some ⟨sb, 0, none⟩), .pointer none, .int .i64 total, b, .int .i64 n] w fun e w' => e = .returned (.tuple #[.slice none 0 0, .int .i64 1]) ∧ w' = w := by
  obtain ⟨x, y, z, rfl⟩ := hb
  go_enter Tryd.func7, Tryd.ntmps7
  go_wp2
  exact bodyPost_ret (v := .tuple #[.slice none 0 0, .int .i64 1]) (by simp [results, Tryd.results7]) rfl ⟨rfl, rfl⟩
theorem chunk_arg (sb wb : Nat) (total n : Int) (b : Value) (hb : ∃ x y z, b = .slice x y z) (h : n < 1 ∨ 2097152 < n ∨ total < 0) (w : World) : Calls Tryd.prog 7 #[.pointer (some ⟨sb, 0, none⟩), .pointer (some ⟨wb, 0, none⟩), .int .i64 total, b, .int .i64 n] w fun e w' => e = .returned (.tuple #[.slice none 0 0, .int .i64 2]) ∧ w' = w := by
  obtain ⟨x, y, z, rfl⟩ := hb
  by_cases h1 : n < 1
  · clear h
    go_enter Tryd.func7, Tryd.ntmps7
    go_wp2_with fail
    exact bodyPost_ret (v := .tuple #[.slice none 0 0, .int .i64 2]) (by simp [results, Tryd.results7]) rfl ⟨rfl, rfl⟩
  · by_cases h2 : 2097152 < n
    · clear h
      go_enter Tryd.func7, Tryd.ntmps7
      go_wp2_with fail
      exact bodyPost_ret (v := .tuple #[.slice none 0 0, .int .i64 2]) (by simp [results, Tryd.results7]) rfl ⟨rfl, rfl⟩
    · have h3 : total < 0 := by omega
      clear h
      go_enter Tryd.func7, Tryd.ntmps7
      go_wp2_with fail
      exact bodyPost_ret (v := .tuple #[.slice none 0 0, .int .i64 2]) (by simp [results, Tryd.results7]) rfl ⟨rfl, rfl⟩
/-- What b must be to begin ranges. -/
def begins (b : List Nat) : Prop := 5 ≤ b.length ∧ b[0]?.getD 0 = 0
def ckOf (total : Int) (size n : Nat) : Ck := ⟨(total % 16).toNat, decide (0 < total), size, n⟩
theorem chunk_none (sb wb lb size : Nat) (rv : Value) (s : Se) (c : Nat → Nat) (win : List Nat) (total : Int) (a : Option Addr) (cap gb off : Nat) (b : List Nat) (n : Nat) (w : World) (hB : Bytes w a cap gb off b) (ht : 0 ≤ total) (h1 : 1 ≤ n) (h2 : n ≤ 2097152) (hb : ¬ begins b) :
    Calls Tryd.prog 7 #[.pointer (some ⟨sb, 0, none⟩), .pointer (some ⟨wb, 0, none⟩), .int .i64 total, .slice a b.length cap, .int .i64 (n : Int)] w fun e w' => e = .returned (.tuple #[.slice none 0 0, .int .i64 11]) ∧ w' = w := by
  have i1 : ¬ (n : Int) < 1 := by omega
  have i2 : ¬ 2097152 < (n : Int) := by omega
  have i3 : ¬ total < 0 := by omega
  by_cases hl : b.length < 5
  · have HN := hid (newD_short a cap gb off b w hB hl)
    clear hB hb hl
    generalize b.length = bl at *
    go_enter Tryd.func7, Tryd.ntmps7
    go_wp2_with fail
    refine HN.out.mono ?_
    rintro e w1 ⟨rfl, rfl⟩
    go_wp2_with fail
    exact bodyPost_ret (v := .tuple #[.slice none 0 0, .int .i64 11]) (by simp [results, Tryd.results7]) rfl ⟨rfl, rfl⟩
  · have HN := hid (newD_bad a cap gb off b w hB (by omega) (fun e => hb ⟨by omega, e⟩))
    clear hB hb hl
    generalize b.length = bl at *
    go_enter Tryd.func7, Tryd.ntmps7
    go_wp2_with fail
    refine HN.out.mono ?_
    rintro e w1 ⟨rfl, rfl⟩
    go_wp2_with fail
    exact bodyPost_ret (v := .tuple #[.slice none 0 0, .int .i64 11]) (by simp [results, Tryd.results7]) rfl ⟨rfl, rfl⟩

set_option maxRecDepth 20000 in
set_option maxHeartbeats 4000000 in
theorem chunk_good (sb wb lb size : Nat) (rv : Value) (s : Se) (c : Nat → Nat) (win : List Nat) (total : Int) (a : Option Addr) (cap gb off : Nat) (b : List Nat) (n : Nat) (w : World) (hS : IsS w sb s c) (hW : IsW w wb lb size rv win) (hB : Bytes w a cap gb off b) (hbl : b.length ≤ 140737488355327) (ht : 0 ≤ total) (ht2 : total < 9223372036854775808) (h1 : 1 ≤ n) (h2 : n ≤ 2097152) (hb : begins b) :
    Calls Tryd.prog 7 #[.pointer (some ⟨sb, 0, none⟩), .pointer (some ⟨wb, 0, none⟩), .int .i64 total, .slice a b.length cap, .int .i64 (n : Int)] w fun e w' => CkP w w' sb wb lb size rv (chunkM (ckOf total size n) s c win b) e := by
  have i1 : ¬ (n : Int) < 1 := by omega
  have i2 : ¬ 2097152 < (n : Int) := by omega
  have i3 : ¬ total < 0 := by omega
  have HN := hid (newD_good a cap gb off b w hB hb.1 hbl hb.2)
  have HS := (show Hid (IsS w sb s c ∧ IsW w wb lb size rv win) from ⟨hS, hW⟩)
  clear hB hb hS hW
  generalize b.length = bl at *
  go_enter Tryd.func7, Tryd.ntmps7
  go_wp2_with fail
  refine HN.out.mono ?_
  rintro e w1 ⟨db, g, rfl, n1, n2, n3, n4, n5⟩
  have i4 : bits .and .i64 total 15 = (((total % 16).toNat : Nat) : Int) := by
    have := bits_mask .i64 63 (by decide) wraps_i64 4 (by decide) total ht (by omega)
    exact this.trans (by omega)
  obtain ⟨pl, hpl⟩ : ∃ pl, pl = (total % 16).toNat := ⟨_, rfl⟩
  rw [← hpl] at i4
  have hmk := run_make_u8 0 n (by omega) (by omega) w1
  rw [show (((0 : Nat) : Int)) = (0 : Int) from rfl] at hmk
  have HP := hid hpl
  clear hpl
  go_wp2_with fail
  obtain ⟨W2, hW2⟩ : ∃ W2, W2 = (w1.alloc (.cells (u8s (List.replicate n 0)).toArray 5)).alloc (.cells #[.pointer (some ⟨sb, 0, none⟩), .pointer (some ⟨db, 0, none⟩), .pointer (some ⟨wb, 0, none⟩), .slice (some ⟨w1.heap.size, 0, none⟩) 0 n, .int .i64 (pl : Int), .bool (decide (0 < total))] 70) := ⟨_, rfl⟩
  have ho1 : W2.heap[w1.heap.size]? = some (.cells (u8s (List.replicate n 0)).toArray 5 (0, 0)) := by rw [hW2]; exact alloc_far (alloc_new w1 _) _
  have ho2 : W2.heap[w1.heap.size + 1]? = some (.cells #[.pointer (some ⟨sb, 0, none⟩), .pointer (some ⟨db, 0, none⟩), .pointer (some ⟨wb, 0, none⟩), .slice (some ⟨w1.heap.size, 0, none⟩) 0 n, .int .i64 (pl : Int), .bool (decide (0 < total))] 70 (0, 0)) := by
    have := alloc_new (w1.alloc (.cells (u8s (List.replicate n 0)).toArray 5)) (.cells #[.pointer (some ⟨sb, 0, none⟩), .pointer (some ⟨db, 0, none⟩), .pointer (some ⟨wb, 0, none⟩), .slice (some ⟨w1.heap.size, 0, none⟩) 0 n, .int .i64 (pl : Int), .bool (decide (0 < total))] 70)
    rw [World.size_alloc] at this
    rw [hW2]; exact this
  have k12 : Keep noBlock w1 W2 := by rw [hW2]; exact ((Keep.refl noBlock w1).alloc _).alloc _
  have k02 : Keep noBlock w W2 := n5.trans k12 (fun _ _ h => h)
  rw [← hW2]
  have hsb := HS.out.1.block
  have hwb := HS.out.2.block
  have hdb : db < w1.heap.size := by
    obtain ⟨a, cap, off, ho, hB⟩ := n4.obj
    exact obj_lt ho
  have hrg : ∀ k, rv.ownBlock = some k → k < w.heap.size := fun k hk => HS.out.2.ring_lt hk
  have hRd : Rd ⟨W2, w1.heap.size + 1, sb, db, g, wb, lb, rv, .slice (some ⟨w1.heap.size, 0, none⟩) 0 n, ckOf total size n⟩ W2 rv (.slice (some ⟨w1.heap.size, 0, none⟩) 0 n) s ⟨c, newD b⟩ win [] := by
    refine ⟨?_, ⟨HS.out.1.keep k02 (fun h => h), n4.keep k12 (fun h => h) (fun h => h), ?_⟩, HS.out.2.keep k02 (fun h => h) (fun _ _ h => h), ?_, fun j => by simp, ?_, ?_, ?_, ?_, ?_, ?_, Keep.refl _ _, Near.refl _ _, Near.refl _ _, ?_, ?_, h2⟩
    · rw [show (ckOf total size n).place = pl from HP.out.symm]
      exact ho2
    · show g ≠ sb; omega
    · exact owns_mk (M := []) ho1 (Nat.zero_le _) (by unfold maxLen; omega) (by simp [u8s]) (by simp [u8s])
    · show (Value.slice (some ⟨w1.heap.size, 0, none⟩) 0 n).ownBlock ≠ some g
      intro e
      have : w1.heap.size = g := by simpa [Value.ownBlock] using e
      omega
    · show rv.ownBlock ≠ some g
      intro e
      have := hrg g e
      omega
    · intro k hk e
      have : w1.heap.size = k := by simpa [Value.ownBlock] using hk
      have := hrg k e
      have := n5.size
      omega
    · show g ≠ w1.heap.size + 1; omega
    · show g ≠ wb; omega
    · show g < W2.heap.size
      have := k12.size
      omega
    · show (total % 16).toNat < 16; omega
    · exact Nat.zero_le _
  have HC := hid (chunk_any ⟨W2, w1.heap.size + 1, sb, db, g, wb, lb, rv, .slice (some ⟨w1.heap.size, 0, none⟩) 0 n, ckOf total size n⟩ s ⟨c, newD b⟩ win W2 rfl hRd)
  have hKK : ∀ w', Keep (RS ⟨W2, w1.heap.size + 1, sb, db, g, wb, lb, rv, .slice (some ⟨w1.heap.size, 0, none⟩) 0 n, ckOf total size n⟩) W2 w' → Keep (WS sb wb rv) w w' := fun w' hk => by
    refine (k02.mono (T := WS sb wb rv) (fun _ _ h => h.elim)).trans hk ?_
    have := n5.size
    rintro i hi (e | e | e | e | e | e)
    · exact .inl e
    · exact .inr (.inl e)
    · have e : i = w1.heap.size + 1 := e; omega
    · have e : i = db := e; omega
    · exact .inr (.inr e)
    · have : w1.heap.size = i := by
        have e : (Value.slice (some ⟨w1.heap.size, 0, none⟩) 0 n).ownBlock = some i := e
        simpa [Value.ownBlock] using e
      omega
  have HK := (show Hid ((∀ w', Keep (RS ⟨W2, w1.heap.size + 1, sb, db, g, wb, lb, rv, .slice (some ⟨w1.heap.size, 0, none⟩) 0 n, ckOf total size n⟩) W2 w' → Keep (WS sb wb rv) w w') ∧ w.heap.size ≤ w1.heap.size ∧ w1.heap.size ≤ W2.heap.size) from ⟨hKK, n5.size, k12.size⟩)
  clear hRd hKK hW2 ho1 ho2 k12 k02 hsb hwb hdb hrg n1 n2 n3 n4 n5 HS HN hmk
  refine HC.out.mono ?_
  intro e w3 hP
  have HCM := (show Hid (chunkM (ckOf total size n) s c win b = chunkR (runM (ckOf total size n) (ckOf total size n).n s win [] ⟨c, newD b⟩)) from rfl)
  clear HC
  dsimp only at hP
  generalize chunkR (runM (ckOf total size n) (ckOf total size n).n s win [] ⟨c, newD b⟩) = R at *
  cases R with
  | none =>
    obtain ⟨rfl, rv', tv', s', x', win', told', h3⟩ := hP
    have HF := hid (HK.out.1 _ h3.kp)
    clear h3 HK
    go_wp2_with fail
    refine bodyPost_ret (v := .tuple #[.slice none 0 0, .int .i64 11]) (by simp [results, Tryd.results7]) rfl ?_
    rw [HCM.out]
    exact ⟨rfl, HF.out⟩
  | some o =>
    obtain ⟨rv', tv', d, rfl, h3⟩ := hP
    obtain ⟨a3, c3, g3, rfl, hB3, hg3⟩ := owns_bytes h3.own h3.lt (by have := h3.tl; have := h3.nn; omega)
    have HF := (show Hid (Bytes w3 a3 c3 g3 0 o.told ∧ (o.told ≠ [] → w.heap.size ≤ g3 ∧ rv'.ownBlock ≠ some g3) ∧ IsS w3 sb o.s o.c ∧ IsW w3 wb lb size rv' o.win ∧ Near w rv rv' ∧ Keep (WS sb wb rv) w w3) from by
      refine ⟨hB3, fun hne => ?_, h3.pr.st, h3.wi, ?_, HK.out.1 _ h3.kp⟩
      · have e := hB3.at_.resolve_right hne
        subst e
        refine ⟨?_, h3.tr g3 rfl⟩
        rcases h3.n4 with q | ⟨k, q, hk⟩
        · have q : some g3 = some w1.heap.size := q
          have : g3 = w1.heap.size := by simpa using q
          have := HK.out.2.1
          omega
        · have q : some g3 = some k := q
          have : g3 = k := by simpa using q
          have hk : W2.heap.size ≤ k := hk
          have := HK.out.2
          omega
      · rcases h3.n5 with q | ⟨k, q, hk⟩
        · exact .inl q
        · have hk : W2.heap.size ≤ k := hk
          have := HK.out.2
          exact .inr ⟨k, q, by omega⟩)
    clear hB3 hg3 h3 HK
    go_wp2_with fail
    refine bodyPost_ret (v := .tuple #[.slice a3 o.told.length c3, .int .i64 0]) (by simp [results, Tryd.results7]) rfl ?_
    rw [HCM.out]
    exact ⟨a3, c3, g3, 0, rv', rfl, HF.out⟩

end Go.Proofs.YtinhlkioeadfdaaDoor
