/-
  Chunk.
  Props of settings that may be; room; a read of nothing into a window.
  The statements' own read, of one chunk.
  The statements' own example.
  key and step of a roll.
  A search, as it lies: its fields, its two tables, its map, its text.
-/
import Derived.Lib.SlBytesConst
import Derived.BigRegion
import Derived.Maps.OwnOps
import Derived.Maps.Views
import Derived.Test.YtnokemcogjoonaaGreatDoorPutP3
import Derived.Test.YtnokemcogjoonaaGreatDoorPutP4
import Derived.Test.YtnokemcogjoonaaGreatDoorPutP6
import Derived.Test.YtnokemcogjoonaaGreatDoorPutP7
import Derived.Test.YtnokemcogjoonaaGreatDoorPutP14
import Derived.Test.YtnokemcogjoonaaGreatDoorPutP15
namespace Go.Proofs.YtnokemcogjoonaaGreatDoor
open Go.RowKit Go.Shelf
set_option linter.unusedVariables false

/-- What Chunk of a chunk may turn. -/
def WS (sb wb : Nat) (rv : Value) (k : Nat) : Prop := k = sb ∨ k = wb ∨ rv.ownBlock = some k
/-- How Chunk answers: a chunk's bytes, or an error. -/
def CkP (w w' : World) (sb wb lb size : Nat) (rv : Value) (r : Option Out) (e : Ending) : Prop := match r with
  | none => e = .returned (.tuple #[.slice none 0 0, .int .i64 11]) ∧ Keep (WS sb wb rv) w w'
  | some o => ∃ a cap g off rv', e = .returned (.tuple #[.slice a o.told.length cap, .int .i64 0]) ∧ Bytes w' a cap g off o.told ∧ (o.told ≠ [] → w.heap.size ≤ g ∧ rv'.ownBlock ≠ some g) ∧ IsS w' sb o.s o.c ∧ IsW w' wb lb size rv' o.win ∧ Near w rv rv' ∧ Keep (WS sb wb rv) w w'
theorem chunk_nil (v : Value) (hv : ∃ a, v = .pointer a) (total n : Int) (b : Value) (hb : ∃ x y z, b = .slice x y z) (w : World) : Calls Tryz.prog 16 #[.pointer none, v, .int .i64 total, b, .int .i64 n] w fun e w' => e = .returned (.tuple #[.slice none 0 0, .int .i64 1]) ∧ w' = w := by
  obtain ⟨a, rfl⟩ := hv
  obtain ⟨x, y, z, rfl⟩ := hb
  go_enter Tryz.func16, Tryz.ntmps16
  go_wp2
  exact bodyPost_ret (v := .tuple #[.slice none 0 0, .int .i64 1]) (by simp [results, Tryz.results16]) rfl ⟨rfl, rfl⟩
theorem chunk_nowin (sb : Nat) (total n : Int) (b : Value) (hb : ∃ x y z, b = .slice x y z) (w : World) : Calls Tryz.prog 16 #[.pointer (some ⟨sb, 0, none⟩), .pointer none, .int .i64 total, b, .int .i64 n] w fun e w' => e = .returned (.tuple #[.slice none 0 0, .int .i64 1]) ∧ w' = w := by
  obtain ⟨x, y, z, rfl⟩ := hb
  go_enter Tryz.func16, Tryz.ntmps16
  go_wp2
  exact bodyPost_ret (v := .tuple #[.slice none 0 0, .int .i64 1]) (by simp [results, Tryz.results16]) rfl ⟨rfl, rfl⟩
theorem chunk_arg (sb wb : Nat) (total n : Int) (b : Value) (hb : ∃ x y z, b = .slice x y z) (h : n < 1 ∨ 2097152 < n ∨ total < 0) (w : World) : Calls Tryz.prog 16 #[.pointer (some ⟨sb, 0, none⟩), .pointer (some ⟨wb, 0, none⟩), .int .i64 total, b, .int .i64 n] w fun e w' => e = .returned (.tuple #[.slice none 0 0, .int .i64 2]) ∧ w' = w := by
  obtain ⟨x, y, z, rfl⟩ := hb
  by_cases h1 : n < 1
  · clear h
    go_enter Tryz.func16, Tryz.ntmps16
    go_wp2_with fail
    exact bodyPost_ret (v := .tuple #[.slice none 0 0, .int .i64 2]) (by simp [results, Tryz.results16]) rfl ⟨rfl, rfl⟩
  · by_cases h2 : 2097152 < n
    · clear h
      go_enter Tryz.func16, Tryz.ntmps16
      go_wp2_with fail
      exact bodyPost_ret (v := .tuple #[.slice none 0 0, .int .i64 2]) (by simp [results, Tryz.results16]) rfl ⟨rfl, rfl⟩
    · have h3 : total < 0 := by omega
      clear h
      go_enter Tryz.func16, Tryz.ntmps16
      go_wp2_with fail
      exact bodyPost_ret (v := .tuple #[.slice none 0 0, .int .i64 2]) (by simp [results, Tryz.results16]) rfl ⟨rfl, rfl⟩
/-- What b must be to begin ranges. -/
def begins (b : List Nat) : Prop := 5 ≤ b.length ∧ b[0]?.getD 0 = 0
def ckOf (total : Int) (size n : Nat) : Ck := ⟨(total % 16).toNat, decide (0 < total), size, n⟩
theorem chunk_none (sb wb lb size : Nat) (rv : Value) (s : Se) (c : Nat → Nat) (win : List Nat) (total : Int) (a : Option Addr) (cap gb off : Nat) (b : List Nat) (n : Nat) (w : World) (hB : Bytes w a cap gb off b) (ht : 0 ≤ total) (h1 : 1 ≤ n) (h2 : n ≤ 2097152) (hb : ¬ begins b) :
    Calls Tryz.prog 16 #[.pointer (some ⟨sb, 0, none⟩), .pointer (some ⟨wb, 0, none⟩), .int .i64 total, .slice a b.length cap, .int .i64 (n : Int)] w fun e w' => e = .returned (.tuple #[.slice none 0 0, .int .i64 11]) ∧ w' = w := by
  have i1 : ¬ (n : Int) < 1 := by omega
  have i2 : ¬ 2097152 < (n : Int) := by omega
  have i3 : ¬ total < 0 := by omega
  by_cases hl : b.length < 5
  · have HN := hid (newD_short a cap gb off b w hB hl)
    clear hB hb hl
    generalize b.length = bl at *
    go_enter Tryz.func16, Tryz.ntmps16
    go_wp2_with fail
    refine HN.out.mono ?_
    rintro e w1 ⟨rfl, rfl⟩
    go_wp2_with fail
    exact bodyPost_ret (v := .tuple #[.slice none 0 0, .int .i64 11]) (by simp [results, Tryz.results16]) rfl ⟨rfl, rfl⟩
  · have HN := hid (newD_bad a cap gb off b w hB (by omega) (fun e => hb ⟨by omega, e⟩))
    clear hB hb hl
    generalize b.length = bl at *
    go_enter Tryz.func16, Tryz.ntmps16
    go_wp2_with fail
    refine HN.out.mono ?_
    rintro e w1 ⟨rfl, rfl⟩
    go_wp2_with fail
    exact bodyPost_ret (v := .tuple #[.slice none 0 0, .int .i64 11]) (by simp [results, Tryz.results16]) rfl ⟨rfl, rfl⟩

set_option maxRecDepth 20000 in
set_option maxHeartbeats 4000000 in
theorem chunk_good (sb wb lb size : Nat) (rv : Value) (s : Se) (c : Nat → Nat) (win : List Nat) (total : Int) (a : Option Addr) (cap gb off : Nat) (b : List Nat) (n : Nat) (w : World) (hS : IsS w sb s c) (hW : IsW w wb lb size rv win) (hB : Bytes w a cap gb off b) (hbl : b.length ≤ 140737488355327) (ht : 0 ≤ total) (ht2 : total < 9223372036854775808) (h1 : 1 ≤ n) (h2 : n ≤ 2097152) (hb : begins b) :
    Calls Tryz.prog 16 #[.pointer (some ⟨sb, 0, none⟩), .pointer (some ⟨wb, 0, none⟩), .int .i64 total, .slice a b.length cap, .int .i64 (n : Int)] w fun e w' => CkP w w' sb wb lb size rv (chunkM (ckOf total size n) s c win b) e := by
  have i1 : ¬ (n : Int) < 1 := by omega
  have i2 : ¬ 2097152 < (n : Int) := by omega
  have i3 : ¬ total < 0 := by omega
  have HN := hid (newD_good a cap gb off b w hB hb.1 hbl hb.2)
  have HS := (show Hid (IsS w sb s c ∧ IsW w wb lb size rv win) from ⟨hS, hW⟩)
  clear hB hb hS hW
  generalize b.length = bl at *
  go_enter Tryz.func16, Tryz.ntmps16
  go_wp2_with fail
  refine HN.out.mono ?_
  rintro e w1 ⟨db, g, rfl, n1, n2, n3, n4, n5⟩
  have i4 : bits .and .i64 total 15 = (((total % 16).toNat : Nat) : Int) := by
    have := bits_mask .i64 63 (by decide) wraps_i64 4 (by decide) total ht (by omega)
    exact this.trans (by omega)
  obtain ⟨pl, hpl⟩ : ∃ pl, pl = (total % 16).toNat := ⟨_, rfl⟩
  rw [← hpl] at i4
  have hmk := run_make_u8 0 n (by omega) (by omega) w1
  rw [show (((0 : Nat) : Int)) = (0 : Int) from rfl] at hmk
  have HP := hid hpl
  clear hpl
  go_wp2_with fail
  obtain ⟨W2, hW2⟩ : ∃ W2, W2 = (w1.alloc (.cells (u8s (List.replicate n 0)).toArray 5)).alloc (.cells #[.pointer (some ⟨sb, 0, none⟩), .pointer (some ⟨db, 0, none⟩), .pointer (some ⟨wb, 0, none⟩), .slice (some ⟨w1.heap.size, 0, none⟩) 0 n, .int .i64 (pl : Int), .bool (decide (0 < total))] 109) := ⟨_, rfl⟩
  have ho1 : W2.heap[w1.heap.size]? = some (.cells (u8s (List.replicate n 0)).toArray 5 (0, 0)) := by rw [hW2]; exact alloc_far (alloc_new w1 _) _
  have ho2 : W2.heap[w1.heap.size + 1]? = some (.cells #[.pointer (some ⟨sb, 0, none⟩), .pointer (some ⟨db, 0, none⟩), .pointer (some ⟨wb, 0, none⟩), .slice (some ⟨w1.heap.size, 0, none⟩) 0 n, .int .i64 (pl : Int), .bool (decide (0 < total))] 109 (0, 0)) := by
    have := alloc_new (w1.alloc (.cells (u8s (List.replicate n 0)).toArray 5)) (.cells #[.pointer (some ⟨sb, 0, none⟩), .pointer (some ⟨db, 0, none⟩), .pointer (some ⟨wb, 0, none⟩), .slice (some ⟨w1.heap.size, 0, none⟩) 0 n, .int .i64 (pl : Int), .bool (decide (0 < total))] 109)
    rw [World.size_alloc] at this
    rw [hW2]; exact this
  have k12 : Keep noBlock w1 W2 := by rw [hW2]; exact ((Keep.refl noBlock w1).alloc _).alloc _
  have k02 : Keep noBlock w W2 := n5.trans k12 (fun _ _ h => h)
  rw [← hW2]
  have hsb := HS.out.1.block
  have hwb := HS.out.2.block
  have hdb : db < w1.heap.size := by
    obtain ⟨a, cap, off, ho, hB⟩ := n4.obj
    exact obj_lt ho
  have hrg : ∀ k, rv.ownBlock = some k → k < w.heap.size := fun k hk => HS.out.2.ring_lt hk
  have hRd : Rd ⟨W2, w1.heap.size + 1, sb, db, g, wb, lb, rv, .slice (some ⟨w1.heap.size, 0, none⟩) 0 n, ckOf total size n⟩ W2 rv (.slice (some ⟨w1.heap.size, 0, none⟩) 0 n) s ⟨c, newD b⟩ win [] := by
    refine ⟨?_, ⟨HS.out.1.keep k02 (fun h => h), n4.keep k12 (fun h => h) (fun h => h), ?_⟩, HS.out.2.keep k02 (fun h => h) (fun _ _ h => h), ?_, fun j => by simp, ?_, ?_, ?_, ?_, ?_, ?_, Keep.refl _ _, Near.refl _ _, Near.refl _ _, ?_, ?_, h2⟩
    · rw [show (ckOf total size n).place = pl from HP.out.symm]
      exact ho2
    · show g ≠ sb; omega
    · exact owns_mk (M := []) ho1 (Nat.zero_le _) (by unfold maxLen; omega) (by simp [u8s]) (by simp [u8s])
    · show (Value.slice (some ⟨w1.heap.size, 0, none⟩) 0 n).ownBlock ≠ some g
      intro e
      have : w1.heap.size = g := by simpa [Value.ownBlock] using e
      omega
    · show rv.ownBlock ≠ some g
      intro e
      have := hrg g e
      omega
    · intro k hk e
      have : w1.heap.size = k := by simpa [Value.ownBlock] using hk
      have := hrg k e
      have := n5.size
      omega
    · show g ≠ w1.heap.size + 1; omega
    · show g ≠ wb; omega
    · show g < W2.heap.size
      have := k12.size
      omega
    · show (total % 16).toNat < 16; omega
    · exact Nat.zero_le _
  have HC := hid (chunk_any ⟨W2, w1.heap.size + 1, sb, db, g, wb, lb, rv, .slice (some ⟨w1.heap.size, 0, none⟩) 0 n, ckOf total size n⟩ s ⟨c, newD b⟩ win W2 rfl hRd)
  have hKK : ∀ w', Keep (RS ⟨W2, w1.heap.size + 1, sb, db, g, wb, lb, rv, .slice (some ⟨w1.heap.size, 0, none⟩) 0 n, ckOf total size n⟩) W2 w' → Keep (WS sb wb rv) w w' := fun w' hk => by
    refine (k02.mono (T := WS sb wb rv) (fun _ _ h => h.elim)).trans hk ?_
    have := n5.size
    rintro i hi (e | e | e | e | e | e)
    · exact .inl e
    · exact .inr (.inl e)
    · have e : i = w1.heap.size + 1 := e; omega
    · have e : i = db := e; omega
    · exact .inr (.inr e)
    · have : w1.heap.size = i := by
        have e : (Value.slice (some ⟨w1.heap.size, 0, none⟩) 0 n).ownBlock = some i := e
        simpa [Value.ownBlock] using e
      omega
  have HK := (show Hid ((∀ w', Keep (RS ⟨W2, w1.heap.size + 1, sb, db, g, wb, lb, rv, .slice (some ⟨w1.heap.size, 0, none⟩) 0 n, ckOf total size n⟩) W2 w' → Keep (WS sb wb rv) w w') ∧ w.heap.size ≤ w1.heap.size ∧ w1.heap.size ≤ W2.heap.size) from ⟨hKK, n5.size, k12.size⟩)
  clear hRd hKK hW2 ho1 ho2 k12 k02 hsb hwb hdb hrg n1 n2 n3 n4 n5 HS HN hmk
  refine HC.out.mono ?_
  intro e w3 hP
  have HCM := (show Hid (chunkM (ckOf total size n) s c win b = chunkR (runM (ckOf total size n) (ckOf total size n).n s win [] ⟨c, newD b⟩)) from rfl)
  clear HC
  dsimp only at hP
  generalize chunkR (runM (ckOf total size n) (ckOf total size n).n s win [] ⟨c, newD b⟩) = R at *
  cases R with
  | none =>
    obtain ⟨rfl, rv', tv', s', x', win', told', h3⟩ := hP
    have HF := hid (HK.out.1 _ h3.kp)
    clear h3 HK
    go_wp2_with fail
    refine bodyPost_ret (v := .tuple #[.slice none 0 0, .int .i64 11]) (by simp [results, Tryz.results16]) rfl ?_
    rw [HCM.out]
    exact ⟨rfl, HF.out⟩
  | some o =>
    obtain ⟨rv', tv', d, rfl, h3⟩ := hP
    obtain ⟨a3, c3, g3, rfl, hB3, hg3⟩ := owns_bytes h3.own h3.lt (by have := h3.tl; have := h3.nn; omega)
    have HF := (show Hid (Bytes w3 a3 c3 g3 0 o.told ∧ (o.told ≠ [] → w.heap.size ≤ g3 ∧ rv'.ownBlock ≠ some g3) ∧ IsS w3 sb o.s o.c ∧ IsW w3 wb lb size rv' o.win ∧ Near w rv rv' ∧ Keep (WS sb wb rv) w w3) from by
      refine ⟨hB3, fun hne => ?_, h3.pr.st, h3.wi, ?_, HK.out.1 _ h3.kp⟩
      · have e := hB3.at_.resolve_right hne
        subst e
        refine ⟨?_, h3.tr g3 rfl⟩
        rcases h3.n4 with q | ⟨k, q, hk⟩
        · have q : some g3 = some w1.heap.size := q
          have : g3 = w1.heap.size := by simpa using q
          have := HK.out.2.1
          omega
        · have q : some g3 = some k := q
          have : g3 = k := by simpa using q
          have hk : W2.heap.size ≤ k := hk
          have := HK.out.2
          omega
      · rcases h3.n5 with q | ⟨k, q, hk⟩
        · exact .inl q
        · have hk : W2.heap.size ≤ k := hk
          have := HK.out.2
          exact .inr ⟨k, q, by omega⟩)
    clear hB3 hg3 h3 HK
    go_wp2_with fail
    refine bodyPost_ret (v := .tuple #[.slice a3 o.told.length c3, .int .i64 0]) (by simp [results, Tryz.results16]) rfl ?_
    rw [HCM.out]
    exact ⟨a3, c3, g3, 0, rv', rfl, HF.out⟩

end Go.Proofs.YtnokemcogjoonaaGreatDoor

namespace Go.Proofs.YtnokemcogjoonaaGreatDoor
open Go.RowKit Go.Shelf
set_option linter.unusedVariables false

/-- The byte of settings. -/
def prN (lc lp pb : Nat) : Nat := (pb * 5 + lp) * 9 + lc
set_option maxRecDepth 20000 in
set_option maxHeartbeats 2000000 in
theorem props_good (sb : Nat) (s : Se) (c : Nat → Nat) (lc lp pb : Nat) (h1 : lc + lp ≤ 4) (h2 : pb ≤ 4) (w : World) (h : IsS w sb s c) :
    Calls Tryz.prog 10 #[.pointer (some ⟨sb, 0, none⟩), .int .u8 ((prN lc lp pb : Nat) : Int)] w fun e w' => e = .returned (.int .i64 0) ∧ IsS w' sb (newS lc lp pb) (fun _ => 1024) ∧ Keep (fun k => k = sb) w w' := by
  obtain ⟨b, hb⟩ : ∃ b : Nat, b = prN lc lp pb := ⟨_, rfl⟩
  rw [← hb]
  unfold prN at hb
  obtain ⟨b9, hb9⟩ : ∃ b9 : Nat, b9 = b / 9 := ⟨_, rfl⟩
  have i1 : (b : Int) % 9 = (lc : Int) := by omega
  have i2 : (b : Int) / 9 = (b9 : Int) := by omega
  have i3 : (b9 : Int) % 5 = (lp : Int) := by omega
  have i4 : (b : Int) / 45 = (pb : Int) := by omega
  have l1 : lc < 9 := by omega
  have l2 : lp < 5 := by omega
  have l3 : pb < 6 := by omega
  have l4 : b9 < 30 := by omega
  have l5 : b < 256 := by omega
  obtain ⟨f0, f1, f2, -, -, -, -, -, ff⟩ := h.first
  have g0 := ff 0
  have g1 := ff 1
  have g2 := ff 2
  have HI := hid h
  clear hb9 h ff hb
  have h1I : ¬ 4 < (pb : Int) := by omega
  have h2I : ¬ 4 < (lc : Int) + (lp : Int) := by omega
  have ka : Keep noBlock w (w.alloc (.cells #[.int .i64 (lc : Int), .int .i64 (lp : Int), .int .i64 (pb : Int)] 79)) := (Keep.refl noBlock w).alloc _
  have h3 := HI.out.keep ka (fun h => h)
  obtain ⟨b0, b1, b2, -, -, -, -, -, bf⟩ := h3.first
  have d0 := bf 0
  have d1 := bf 1
  have d2 := bf 2
  have h4 := h3.sett lc lp pb (by omega) (by omega)
  have HR := hid (reset_any sb _ _ _ h4)
  have HK := (show Hid (Keep (fun k => k = sb) w (((((w.alloc (.cells #[.int .i64 (lc : Int), .int .i64 (lp : Int), .int .i64 (pb : Int)] 79)).setCell ⟨sb, 0, none⟩ (.int .i64 (lc : Int))).setCell ⟨sb, 1, none⟩ (.int .i64 (lp : Int))).setCell ⟨sb, 2, none⟩ (.int .i64 (pb : Int))))) from
    ((((ka.mono (T := fun k => k = sb) (fun _ _ h => h.elim)).setCell (p := ⟨sb, 0, none⟩) (fun _ => rfl) _).setCell (p := ⟨sb, 1, none⟩) (fun _ => rfl) _).setCell (p := ⟨sb, 2, none⟩) (fun _ => rfl) _))
  clear h3 h4 bf ka
  go_enter Tryz.func10, Tryz.ntmps10
  go_wp2_with fail
  refine HR.out.mono ?_
  rintro e w5 ⟨rfl, h5, k5⟩
  have HF := (show Hid (IsS w5 sb (newS lc lp pb) (fun _ => 1024) ∧ Keep (fun k => k = sb) w w5) from ⟨h5, HK.out.trans' k5⟩)
  clear h5 k5 HR HK
  go_wp2_with fail
  go_ret
  exact ⟨rfl, HF.out⟩
theorem room_any (size : Nat) (h1 : 1 ≤ size) (h2 : size ≤ 16777216) (w : World) :
    Calls Tryz.prog 9 #[.int .i64 (size : Int)] w fun e w' => ∃ wb lb, e = .returned (.pointer (some ⟨wb, 0, none⟩)) ∧ w.heap.size ≤ wb ∧ IsW w' wb lb size (.slice none 0 0) [] ∧ Keep noBlock w w' := by
  have HL := hid (new_any 16777216 w)
  rw [show budget 16777216 = 16777216 from rfl] at HL
  go_enter Tryz.func9, Tryz.ntmps9
  go_wp2_with fail
  refine HL.out.mono ?_
  rintro e w1 ⟨rfl, l1, k1⟩
  have HN := hid (wnew_ok size w.heap.size 16777216 0 0 w1 h1 h2 l1 (by omega))
  have HK := hid k1
  clear l1 k1 HL
  go_wp2_with fail
  refine HN.out.mono ?_
  rintro e w2 ⟨wb, rfl, b1, b2, -, b3⟩
  have HF := (show Hid (w.heap.size ≤ wb ∧ IsW w2 wb w.heap.size size (.slice none 0 0) [] ∧ Keep noBlock w w2) from ⟨by have := HK.out.size; omega, b2, HK.out.trans b3 (fun i hi e => by have := HK.out.size; omega)⟩)
  clear b1 b2 b3 HN HK
  go_wp2_with fail
  go_ret
  exact ⟨wb, w.heap.size, rfl, HF.out.1, HF.out.2⟩

end Go.Proofs.YtnokemcogjoonaaGreatDoor

namespace Go.Proofs.YtnokemcogjoonaaGreatDoor
open Go.RowKit Go.Shelf
set_option linter.unusedVariables false

theorem lastN_nil (n : Nat) : lastN n ([] ++ []) = [] := by unfold lastN; simp
theorem bytes_nil (w : World) : Bytes w none 0 0 0 [] := ⟨.inr rfl, (fun _ => rfl), (fun j hj => by simp at hj), (fun j => by simp), Nat.le_refl _, by decide⟩
theorem str_empty : strOf [] = ⟨#[]⟩ := rfl
/-- What read meets. -/
structure Rdn (w W : World) (gl gs g cap : Nat) (M : List Nat) (n : Nat) : Prop where
  l0 : W.cell? ⟨gl, 0, none⟩ = some (.slice (some ⟨g, 0, none⟩) M.length cap)
  s0 : W.cell? ⟨gs, 0, none⟩ = some (.int .i64 (n : Int))
  bt : Bytes W (some ⟨g, 0, none⟩) cap g 0 M
theorem keep_cell1 {w w' : World} {S : Nat → Prop} (hk : Keep S w w') {b i : Nat} {v : Value} (h : w.cell? ⟨b, i, none⟩ = some v) (hS : ¬ S b) : w'.cell? ⟨b, i, none⟩ = some v :=
  (World.cell?_of_block (hk.block b (World.block_lt_of_cell? w ⟨b, i, none⟩ h) hS)).trans h
theorem Rdn.keep {w W W' : World} {S : Nat → Prop} {gl gs g cap n : Nat} {M : List Nat} (h : Rdn w W gl gs g cap M n) (k : Keep S W W') (h1 : ¬ S gl) (h2 : ¬ S gs) (h3 : ¬ S g) : Rdn w W' gl gs g cap M n :=
  ⟨keep_cell1 k h.l0 h1, keep_cell1 k h.s0 h2, h.bt.keep k (fun _ => h3)⟩
theorem Rdn.lt {w W : World} {gl gs g cap n : Nat} {M : List Nat} (h : Rdn w W gl gs g cap M n) (hM : M ≠ []) : gl < W.heap.size ∧ gs < W.heap.size ∧ g < W.heap.size :=
  ⟨World.block_lt_of_cell? W ⟨gl, 0, none⟩ h.l0, World.block_lt_of_cell? W ⟨gs, 0, none⟩ h.s0, h.bt.block hM⟩
theorem str_size (T : List Nat) : (strOf T).size = T.length := by
  have := congrArg List.length (Pt.strOf_data T)
  rw [List.length_map, Array.length_toList] at this
  exact this
theorem str_add (s : ByteArray) : (⟨#[]⟩ : ByteArray) ++ s = s := by
  apply ByteArray.ext
  simp [ByteArray.data_append]
/-- Where read stands: the state, the window, what it reads. -/
structure Rdw (w W : World) (sb wb lb : Nat) (s : Se) (rv : Value) (gl gs g cap : Nat) (M : List Nat) (n : Nat) : Prop where
  st : IsS W sb s (fun _ => 1024)
  wi : IsW W wb lb 65536 rv []
  rn : Rdn w W gl gs g cap M n
  kp : Keep noBlock w W
  n1 : w.heap.size ≤ sb
  n2 : w.heap.size ≤ wb
  n3 : ∀ k, rv.ownBlock = some k → w.heap.size ≤ k
theorem Rdw.keep {w W W' : World} {sb wb lb : Nat} {s : Se} {rv : Value} {gl gs g cap n : Nat} {M : List Nat} (h : Rdw w W sb wb lb s rv gl gs g cap M n) (k : Keep noBlock W W') : Rdw w W' sb wb lb s rv gl gs g cap M n :=
  ⟨h.st.keep k (fun h => h), h.wi.keep k (fun h => h) (fun _ _ h => h), h.rn.keep k (fun h => h) (fun h => h) (fun h => h), h.kp.trans' k, h.n1, h.n2, h.n3⟩
set_option maxRecDepth 20000 in
set_option maxHeartbeats 4000000 in
theorem read_good (lc lp pb : Nat) (h1 : lc + lp ≤ 4) (h2 : pb ≤ 4) (gl gs g cap : Nat) (M T : List Nat) (total : Int) (S : Se) (C : Nat → Nat) (V : List Nat) (w : World) (h : Rdn w w gl gs g cap M T.length) (hb : begins M) (hml : M.length ≤ 140737488355327) (ht : 0 ≤ total) (ht2 : total ≤ 1099511627776) (hn1 : 1 ≤ T.length) (hn2 : T.length ≤ 2097152)
    (hc : chunkM (ckOf total 65536 T.length) (newS lc lp pb) (fun _ => 1024) [] M = some ⟨S, C, V, T⟩) :
    Calls Tryz.prog 17 #[.int .u8 ((prN lc lp pb : Nat) : Int), .slice none 0 0, .slice (some ⟨gl, 0, none⟩) 1 1, .slice (some ⟨gs, 0, none⟩) 1 1, .int .i64 total] w fun e w' => e = .returned (.tuple #[.string (strOf T), .bool true]) ∧ Keep noBlock w w' := by
  have hMne : M ≠ [] := fun e => by have := hb.1; rw [e] at this; simp at this
  have HN := hid (new_state w)
  have HH := hid h
  have HC := hid (And.intro hb hc)
  clear h hb hc
  obtain ⟨pv, hpv⟩ : ∃ pv, pv = prN lc lp pb := ⟨_, rfl⟩
  rw [← hpv]
  have HPV := hid hpv
  clear hpv
  go_enter Tryz.func17, Tryz.ntmps17
  go_wp2_with fail
  refine HN.out.mono ?_
  rintro e w1 ⟨rfl, s1, k1⟩
  have HR := hid (room_any 65536 (by omega) (by omega) w1)
  rw [show (((65536 : Nat)) : Int) = (65536 : Int) from rfl] at HR
  generalize hsb : w.heap.size = sb at *
  have HSB := hid hsb
  have H1 := hid (And.intro s1 k1)
  clear s1 k1 HN hsb
  go_wp2_with fail
  refine HR.out.mono ?_
  rintro e w2 ⟨wb, lb, rfl, wl, w2w, k2⟩
  obtain ⟨s1, k1⟩ := H1.out
  have HP := hid (props_good sb _ _ lc lp pb h1 h2 w2 (s1.keep k2 (fun h => h)))
  rw [← HPV.out] at HP
  have H2 := hid (And.intro wl (And.intro w2w (And.intro k2 (And.intro (k1.trans' k2) s1.block))))
  clear s1 k1 wl w2w k2 HR H1
  go_wp2_with fail
  refine HP.out.mono ?_
  rintro e w3 ⟨rfl, s3, k3⟩
  obtain ⟨a1, a2, a3, a4, a5⟩ := H2.out
  have hne : wb ≠ sb := by omega
  have w3w := a2.keep k3 (fun e => hne e) (fun g hg => by cases hg)
  have HU := hid (put_any wb lb 65536 (.slice none 0 0) [] none 0 0 0 [] w3 w3w (bytes_nil w3) (fun h => absurd rfl h))
  rw [show ([] : List Nat).length = 0 from rfl] at HU
  have H3 := hid (And.intro s3 k3)
  clear s3 k3 HP w3w a1 a2 a3 a4 a5
  go_wp2_with fail
  refine HU.out.mono ?_
  rintro e w4 ⟨rfl, rv, p1, p2, p3⟩
  have H4 := hid (show Rdw w w4 sb wb lb (newS lc lp pb) rv gl gs g cap M T.length from by
    obtain ⟨s3, k3⟩ := H3.out
    obtain ⟨a1, a2, a3, a4, a5⟩ := H2.out
    have hs := HSB.out
    have sz := (a4.trans k3 (fun i hi e => by omega)).size
    have k4 : Keep noBlock w w4 := (a4.trans k3 (fun i hi e => by omega)).trans p3 (fun i hi e => by
      rcases e with e | e
      · omega
      · cases e)
    refine ⟨s3.keep p3 ?_, ?_, HH.out.keep k4 (fun h => h) (fun h => h) (fun h => h), k4, by omega, by omega, ?_⟩
    · rintro (e | e)
      · exact hne e.symm
      · cases e
    · rw [lastN_nil] at p1; exact p1
    · intro k hk
      rcases p2 with e | ⟨k', e, hk'⟩
      · rw [e] at hk; cases hk
      · rw [e] at hk
        have : k' = k := by simpa using hk
        have := (a4.trans k3 (fun i hi e => by omega) : Keep noBlock w w3).size
        omega)
  have hlt := HH.out.lt hMne
  have HLT := hid hlt
  clear p1 p2 p3 HU H2 H3 HH hlt
  go_wp2_with fail
  go_loopw [4, 14, 15] (fun t4 t14 t15 wr => ∃ j : Nat, t15 = .int .i64 (j : Int) ∧ ((j = 0 ∧ t4 = .int .i64 total ∧ t14 = .string ⟨#[]⟩ ∧ Hid (Rdw w wr sb wb lb (newS lc lp pb) rv gl gs g cap M T.length)) ∨ (j = 1 ∧ (∃ tt, t4 = .int .i64 tt) ∧ t14 = .string (strOf T) ∧ Hid (Keep noBlock w wr)))) (fun _ _ t15 _ => 2 - (intOf t15).toNat)
  case atStart => exact ⟨0, rfl, .inl ⟨rfl, rfl, rfl, H4⟩⟩
  case round =>
    clear H4
    obtain ⟨j, rfl, hr⟩ := hrel
    rcases hr with ⟨rfl, rfl, rfl, HW⟩ | ⟨rfl, ⟨tt, rfl⟩, rfl, HK⟩
    · rw [show (((0 : Nat)) : Int) = (0 : Int) from rfl]
      have hk1 : Keep noBlock wr (wr.drewN 1) := keep_drewN wr 1
      have hW1 := HW.out.keep hk1
      have HC1 := hid ((chunk_good sb wb lb 65536 rv (newS lc lp pb) (fun _ => 1024) [] total (some ⟨g, 0, none⟩) cap g 0 M T.length (wr.drewN 1) hW1.st hW1.wi hW1.rn.bt hml ht (by omega) hn1 hn2 HC.out.1).mono
        (R' := fun e w'' => ∃ a cp, e = .returned (.tuple #[.slice a T.length cp, .int .i64 0]) ∧ (w''.cell? ⟨gl, 0, none⟩ = some (.slice (some ⟨g, 0, none⟩) M.length cap) ∧ w''.cell? ⟨gs, 0, none⟩ = some (.int .i64 (T.length : Int))) ∧ SrcB w'' (.slice a T.length cp) T ∧ Keep noBlock w w'') (fun e w'' hh => by
          rw [HC.out.2] at hh
          obtain ⟨a, cp, g', off, rv', e1, e2, e3, e4, e5, e6, e7⟩ := hh
          obtain ⟨z1, z2, z3⟩ := HLT.out
          have hno : ∀ k, k < w.heap.size → ¬ WS sb wb rv k := by
            rintro k hk (e | e | e)
            · have := hW1.n1; omega
            · have := hW1.n2; omega
            · have := hW1.n3 k e; omega
          exact ⟨a, cp, e1, ⟨keep_cell1 e7 hW1.rn.l0 (hno _ z1), keep_cell1 e7 hW1.rn.s0 (hno _ z2)⟩, e2.src, hW1.kp.trans e7 (fun i hi e => absurd e (hno i hi))⟩))
      have c2 := And.intro HW.out.rn.l0 HW.out.rn.s0
      have c3 := And.intro hW1.rn.l0 hW1.rn.s0
      clear hW1
      go_wp2_with fail
      go_region_held3 (fun W => W.cell? ⟨gl, 0, none⟩ = some (.slice (some ⟨g, 0, none⟩) M.length cap) ∧ W.cell? ⟨gs, 0, none⟩ = some (.int .i64 (T.length : Int))) (first | exact c2 | exact c3 | exact f9) ((first
        | (go_at_call 16; refine HC1.out.mono ?_; rintro e w5 ⟨a, cp, rfl, f9, f8, f7⟩)))
      all_goals
        have r1 := run_convB f8
        have hsz := str_size T
        have hss : ¬ 9223372036854775807 < 0 + (strOf T).size := by omega
        have HF := hid f7
        have hadd := str_add (strOf T)
        clear f7 f8 f9 HC1 c2 c3 hsz
        go_wp2_with fail
        go_roundw
        case rel => exact ⟨1, by go_num, .inr ⟨rfl, ⟨_, rfl⟩, by first | rfl | rw [hadd], HF⟩⟩
        case measure => simp [intOf]
    · rw [show (((1 : Nat)) : Int) = (1 : Int) from rfl]
      go_wp2_with fail
      exact bodyPost_ret (v := .tuple #[.string (strOf T), .bool true]) (by simp [results, Tryz.results17]) rfl ⟨rfl, HK.out⟩

end Go.Proofs.YtnokemcogjoonaaGreatDoor

namespace Go.Proofs.YtnokemcogjoonaaGreatDoor.Pt
open Go.RowKit Go.Shelf
set_option linter.unusedVariables false

theorem rowq_new (w : World) (l m b : Int) (hb : b < 9223372036854775808) : Fd.RowQ (w.alloc (.cells #[.int .i64 l, .int .i64 m, .int .i64 b] 46)) (some ⟨w.heap.size, 0, none⟩) 1 w.heap.size 0 [(l, m, b)] := by
  have ho : (w.alloc (.cells #[.int .i64 l, .int .i64 m, .int .i64 b] 46)).heap[w.heap.size]? = some (.cells #[.int .i64 l, .int .i64 m, .int .i64 b] 46 (0, 0)) := alloc_new w _
  refine ⟨.inl rfl, fun j hj => ?_, fun j => ?_⟩
  · have : j = 0 := by simpa using hj
    subst this
    exact ⟨cell_of ho 0, cell_of ho 1, cell_of ho 2⟩
  · cases j with
    | zero => exact hb
    | succ j => show (0 : Int) < _; omega
/-- What was written by steps that make a text is read as the text. -/
theorem steps_read (T : List Nat) (fr : Nat) (total : Int) (ts : List Tri) (s : Se) (c : Nat → Nat) (size : Nat) (hl : T.length ≤ 32768) (hs : T.length ≤ size) (hfr : fr ≤ T.length) (hb : ∀ j, byteT T j < 256) (hph : s.ph < 7) (hm : madeB T ts fr = true) :
    chunkM (ckOf total size (T.length - fr)) s c (T.take fr) (outA (opsA (tkOf T fr total) (opsOf T fr total ts s) s fr) c) = some ⟨opsS (opsOf T fr total ts s) s, (runA (opsA (tkOf T fr total) (opsOf T fr total ts s) s fr) ⟨c, newE⟩).c, T, T.drop fr⟩ := by
  obtain ⟨o1, o2, o3⟩ := chunkO_ok (k := tkOf T fr total) (reach := max fr 1) (by show T.length ≤ 65536; omega) (mid_low hph) (by show fr ≤ T.length; omega) hm
  exact chunk_back (K := ckOf total size (T.length - fr)) (k := tkOf T fr total) rfl rfl rfl (by show T.length ≤ size; omega) hb _ s c o1 o2
theorem steps_low (T : List Nat) (fr : Nat) (total : Int) (ts : List Tri) (s : Se) (hl : T.length ≤ 32768) (hfr : fr ≤ T.length) (hph : s.ph < 7) (hm : madeB T ts fr = true) : (opsS (opsOf T fr total ts s) s).ph < 7 := by
  obtain ⟨o1, o2, o3⟩ := chunkO_ok (k := tkOf T fr total) (reach := max fr 1) (by show T.length ≤ 65536; omega) (mid_low hph) (by show fr ≤ T.length; omega) hm
  exact o3.end
theorem out_begins (L : List Act) (c : Nat → Nat) : begins (outA L c) := outA_begins L c
theorem outA_len (L : List Act) (c : Nat → Nat) : (outA L c).length ≤ costA L + 6 := by
  have h1 := out_long (runA L ⟨c, newE⟩).e
  have h2 := runA_many L ⟨c, newE⟩
  have h3 : manyE (⟨c, newE⟩ : Ex).e = 1 := rfl
  unfold outA
  omega
theorem steps_len (T : List Nat) (fr : Nat) (total : Int) (ts : List Tri) (s : Se) (c : Nat → Nat) (hl : T.length ≤ 32768) (hfr : fr ≤ T.length) (hph : s.ph < 7) (hm : madeB T ts fr = true) : (outA (opsA (tkOf T fr total) (opsOf T fr total ts s) s fr) c).length ≤ 1000000 := by
  obtain ⟨o1, o2, o3⟩ := chunkO_ok (k := tkOf T fr total) (reach := max fr 1) (by show T.length ≤ 65536; omega) (mid_low hph) (by show fr ≤ T.length; omega) hm
  have h1 := opsA_cost o1
  rw [o2] at h1
  have h2 := outA_len (opsA (tkOf T fr total) (opsOf T fr total ts s) s fr) c
  have h3 : (tkOf T fr total).T.length = T.length := rfl
  unfold opsOf at *
  omega
theorem two_new (W : World) (l m b : Int) (hb : b < 9223372036854775808) (mk : Nat × Nat) (bs : List Nat) (vs : Array Value) (n : Nat) (hn : n = bs.length) (hv : vs = (u8s bs).toArray) (hl : ∀ j : Nat, bs[j]?.getD 0 < 256) (h48 : bs.length < 2 ^ 48) :
    Bytes ((W.alloc (.cells vs 5 mk)).alloc (.cells #[.int .i64 l, .int .i64 m, .int .i64 b] 46)) (some ⟨W.heap.size, 0, none⟩) n W.heap.size 0 bs ∧ Fd.RowQ ((W.alloc (.cells vs 5 mk)).alloc (.cells #[.int .i64 l, .int .i64 m, .int .i64 b] 46)) (some ⟨W.heap.size + 1, 0, none⟩) 1 (W.heap.size + 1) 0 [(l, m, b)] ∧ Keep noBlock W ((W.alloc (.cells vs 5 mk)).alloc (.cells #[.int .i64 l, .int .i64 m, .int .i64 b] 46)) := by
  have k1 : Keep noBlock W (W.alloc (.cells vs 5 mk)) := (Keep.refl _ W).alloc _
  have k2 : Keep noBlock (W.alloc (.cells vs 5 mk)) ((W.alloc (.cells vs 5 mk)).alloc (.cells #[.int .i64 l, .int .i64 m, .int .i64 b] 46)) := (Keep.refl _ _).alloc _
  have h1 := bytes_new W bs vs mk n hn hv hl h48
  have h2 := rowq_new (W.alloc (.cells vs 5 mk)) l m b hb
  rw [World.size_alloc] at h2
  exact ⟨h1.keep k2 (fun _ h => h), h2, k1.trans' k2⟩
set_option maxHeartbeats 1000000 in
theorem propsV_any (lc lp pb : Nat) (h1 : lc ≤ 4) (h2 : lp ≤ 4) (h3 : pb ≤ 4) (w : World) : Calls Tryz.prog 11 #[.int .i64 (lc : Int), .int .i64 (lp : Int), .int .i64 (pb : Int)] w fun e w' => e = .returned (.int .u8 ((prN lc lp pb : Nat) : Int)) ∧ w' = w := by
  obtain ⟨p, hp⟩ : ∃ p, p = prN lc lp pb := ⟨_, rfl⟩
  rw [← hp]
  unfold prN at hp
  have e1 : ((pb : Int) * 5 + (lp : Int)) * 9 + (lc : Int) = (p : Int) := by omega
  have e2 : (p : Int) % 256 = (p : Int) := by omega
  have e3 : (p : Int) < 256 := by omega
  clear hp
  go_enter Tryz.func11, Tryz.ntmps11
  go_wp2_with fail
  go_ret
  exact ⟨rfl, rfl⟩
theorem rdn_new (W : World) (u : Value) (g cap n : Nat) (M : List Nat) (hu : u = .slice (some ⟨g, 0, none⟩) M.length cap) (hB : Bytes W (some ⟨g, 0, none⟩) cap g 0 M) :
    Rdn ((W.alloc (.cells #[u] 22)).alloc (.cells #[.int .i64 (n : Int)] 3)) ((W.alloc (.cells #[u] 22)).alloc (.cells #[.int .i64 (n : Int)] 3)) W.heap.size (W.heap.size + 1) g cap M n := by
  have k1 : Keep noBlock W (W.alloc (.cells #[u] 22)) := (Keep.refl _ W).alloc _
  have k2 : Keep noBlock (W.alloc (.cells #[u] 22)) ((W.alloc (.cells #[u] 22)).alloc (.cells #[.int .i64 (n : Int)] 3)) := (Keep.refl _ _).alloc _
  have h1 : (W.alloc (.cells #[u] 22)).heap[W.heap.size]? = some (.cells #[u] 22 (0, 0)) := alloc_new W _
  have h2 : ((W.alloc (.cells #[u] 22)).alloc (.cells #[.int .i64 (n : Int)] 3)).heap[(W.alloc (.cells #[u] 22)).heap.size]? = some (.cells #[.int .i64 (n : Int)] 3 (0, 0)) := alloc_new _ _
  rw [World.size_alloc] at h2
  exact ⟨by rw [← hu]; exact cell_of (k2.obj h1 (fun h => h)) 0, cell_of h2 0, (hB.keep k1 (fun _ h => h)).keep k2 (fun _ h => h)⟩
def abc6 : List Nat := [97, 98, 99, 97, 98, 99]
theorem abc6_made : madeB abc6 [(3, 3, 3)] 0 = true := by decide +kernel
theorem abc_not : madeB [97, 98, 99] [(2, 0, 0)] 0 = false := by decide +kernel
theorem abc6_str : strOf abc6 = ⟨#[97, 98, 99, 97, 98, 99]⟩ := by decide +kernel
theorem abc6_lt : ∀ j : Nat, abc6[j]?.getD 0 < 256 := lt256 (by decide)
set_option maxRecDepth 20000 in
set_option maxHeartbeats 4000000 in
theorem wakes_any (w : World) : Calls Tryz.prog 5 #[] w fun e w' => e = .returned (.bool true) ∧ Keep noBlock w w' := by
  have hcv := fun (w : World) (C : Array Value) (n c : Nat) => Lib.run_convert_bytes_const (P := Tryz.prog) w 22 5 C n c Tryz.underlying22 Tryz.underlying5
  have H1 := hid (new_good 3 0 2 (by omega) (by omega) w)
  rw [show (((3 : Nat)) : Int) = (3 : Int) from rfl, show (((0 : Nat)) : Int) = (0 : Int) from rfl, show (((2 : Nat)) : Int) = (2 : Int) from rfl] at H1
  go_enter Tryz.func5, Tryz.ntmps5
  go_wp2_with fail
  refine H1.out.mono ?_
  rintro e w1 ⟨sb, rfl, b1, s1, k1⟩
  have H2 := hid (new_bad 4 1 0 (by omega) (by decide) w1)
  have HA := hid (And.intro s1 (And.intro k1 b1))
  clear s1 k1 b1 H1
  go_wp2_with fail
  refine H2.out.mono ?_
  rintro e w2 ⟨rfl, k2⟩
  have H3 := hid (new_bad 0 0 5 (by omega) (by decide) w2)
  have HK2 := hid k2
  clear k2 H2
  go_wp2_with fail
  refine H3.out.mono ?_
  rintro e w3 ⟨rfl, k3⟩
  obtain ⟨s1, k1, b1⟩ := HA.out
  have s3 := (s1.keep HK2.out (fun h => h)).keep k3 (fun h => h)
  have k13 : Keep noBlock w w3 := (k1.trans' HK2.out).trans' k3
  have HB := hid (And.intro s3 (And.intro k13 b1))
  clear s1 k1 b1 s3 k13 k3 H3 HA HK2
  go_wp2_with fail
  obtain ⟨s3, k13, b1⟩ := HB.out
  obtain ⟨h5, q5, k5⟩ := two_new w3 3 3 3 (by decide) (6, 7) abc6 #[.int .u8 97, .int .u8 98, .int .u8 99, .int .u8 97, .int .u8 98, .int .u8 99] 6 rfl rfl abc6_lt (by decide)
  have hsl := s3.block
  have hg1 : w3.heap.size ≠ sb := by omega
  have hg2 : w3.heap.size + 1 ≠ sb := by omega
  have s5 := s3.keep k5 (fun h => h)
  generalize hz1 : w3.heap.size = g1 at *
  generalize hz2 : g1 + 1 = g2 at *
  clear hz1 hz2 hsl
  generalize (w3.alloc (.cells #[.int .u8 97, .int .u8 98, .int .u8 99, .int .u8 97, .int .u8 98, .int .u8 99] 5 (6, 7))).alloc (.cells #[.int .i64 3, .int .i64 3, .int .i64 3] 46) = W5 at *
  have HC := hid (chunkP_good sb (newS 3 0 2) (fun _ => 1024) (some ⟨g1, 0, none⟩) 6 g1 0 abc6 0 (some ⟨g2, 0, none⟩) 1 g2 0 [(3, 3, 3)] 0 W5 s5 (by decide) h5 q5 (by decide) (by decide) (by decide) (by decide) (by decide) abc6_made hg1 (fun _ => hg2))
  rw [show abc6.length = 6 from rfl, show ([(3, 3, 3)] : List Tri).length = 1 from rfl, show (((0 : Nat)) : Int) = (0 : Int) from rfl] at HC
  have HK := hid (And.intro (k13.trans' k5) b1)
  clear h5 q5 k5 s5 s3 k13 b1 HB hg1 hg2
  refine HC.out.mono ?_
  rintro e w6 ⟨u, rfl, p6⟩
  obtain ⟨cap, g, rfl, bt, hge⟩ := p6.row.ex
  have hrd := steps_read abc6 0 0 [(3, 3, 3)] (newS 3 0 2) (fun _ => 1024) 65536 (by decide) (by decide) (by decide) abc6_lt (by decide) abc6_made
  have hol := steps_len abc6 0 0 [(3, 3, 3)] (newS 3 0 2) (fun _ => 1024) (by decide) (by decide) (by decide) abc6_made
  have hbg := out_begins (opsA (tkOf abc6 0 0) (opsOf abc6 0 0 [(3, 3, 3)] (newS 3 0 2)) (newS 3 0 2) 0) (fun _ => 1024)
  have st6 := p6.st
  have k6 := p6.kp
  generalize opsS (opsOf abc6 0 0 [(3, 3, 3)] (newS 3 0 2)) (newS 3 0 2) = S6 at *
  generalize (runA (opsA (tkOf abc6 0 0) (opsOf abc6 0 0 [(3, 3, 3)] (newS 3 0 2)) (newS 3 0 2) 0) ⟨fun _ => 1024, newE⟩).c = C6 at *
  generalize outA (opsA (tkOf abc6 0 0) (opsOf abc6 0 0 [(3, 3, 3)] (newS 3 0 2)) (newS 3 0 2) 0) (fun _ => 1024) = M at *
  have HPV := hid (propsV_any 3 0 2 (by omega) (by omega) (by omega))
  rw [show (((3 : Nat)) : Int) = (3 : Int) from rfl, show (((0 : Nat)) : Int) = (0 : Int) from rfl, show (((2 : Nat)) : Int) = (2 : Int) from rfl] at HPV
  have HS6 := hid (And.intro st6 (show Keep noBlock w w6 from HK.out.1.trans k6 (fun i hi e => by have e : i = sb := e; have := HK.out.2; omega)))
  have HBt := hid bt
  have HRd := hid (And.intro hrd (And.intro hol hbg))
  clear p6 bt hge hrd hol hbg st6 k6 HC HK
  generalize hml : M.length = ml at *
  have HML := hid hml
  clear hml
  go_wp2_with fail
  refine (HPV.out _).mono ?_
  rintro e w7 ⟨rfl, rfl⟩
  go_wp2_with fail
  have hr := rdn_new w7 (.slice (some ⟨g, 0, none⟩) ml cap) g cap 6 M (by rw [HML.out]) HBt.out
  rw [show (((6 : Nat)) : Int) = (6 : Int) from rfl] at hr
  obtain ⟨r1, r2, r3⟩ := HRd.out
  have HR := hid (read_good 3 0 2 (by omega) (by omega) _ _ g cap M abc6 0 S6 C6 abc6 _ hr r3 (by rw [HML.out]; omega) (by decide) (by decide) (by decide) (by decide) r1)
  have k8 : Keep noBlock w ((w7.alloc (.cells #[.slice (some ⟨g, 0, none⟩) ml cap] 22)).alloc (.cells #[.int .i64 6] 3)) := (HS6.out.2.alloc _).alloc _
  have s8 : IsS ((w7.alloc (.cells #[.slice (some ⟨g, 0, none⟩) ml cap] 22)).alloc (.cells #[.int .i64 6] 3)) sb S6 C6 := (HS6.out.1.keep ((Keep.refl noBlock w7).alloc _) (fun h => h)).keep ((Keep.refl noBlock _).alloc _) (fun h => h)
  have HK8 := hid (And.intro k8 s8)
  clear hr r1 r2 r3 k8 s8 HRd HBt HML HS6 HPV
  refine HR.out.mono ?_
  rintro e w9 ⟨rfl, k9⟩
  have HK9 := hid (show Keep noBlock w w9 ∧ IsS w9 sb S6 C6 from ⟨HK8.out.1.trans' k9, HK8.out.2.keep k9 (fun h => h)⟩)
  rw [abc6_str]
  clear k9 HK8 HR
  go_wp2_with fail
  obtain ⟨k13, s3⟩ := HK9.out
  obtain ⟨h5, q5, k5⟩ := two_new w9 2 0 0 (by decide) (3, 4) [97, 98, 99] #[.int .u8 97, .int .u8 98, .int .u8 99] 3 rfl rfl (lt256 (by decide)) (by decide)
  generalize hz1 : w9.heap.size = g3 at *
  generalize hz2 : g3 + 1 = g4 at *
  clear hz1 hz2
  generalize (w9.alloc (.cells #[.int .u8 97, .int .u8 98, .int .u8 99] 5 (3, 4))).alloc (.cells #[.int .i64 2, .int .i64 0, .int .i64 0] 46) = W5 at *
  have HC := hid (chunkP_mal sb (some ⟨g3, 0, none⟩) 3 g3 0 [97, 98, 99] 0 (some ⟨g4, 0, none⟩) 1 g4 0 [(2, 0, 0)] 0 W5 h5 q5 (by decide) (by decide) (by decide) (by decide) (.inr abc_not))
  rw [show ([97, 98, 99] : List Nat).length = 3 from rfl, show ([(2, 0, 0)] : List Tri).length = 1 from rfl, show (((0 : Nat)) : Int) = (0 : Int) from rfl] at HC
  have HK := hid (k13.trans' k5)
  clear h5 q5 k5 s3 k13 HK9
  refine HC.out.mono ?_
  rintro e w10 ⟨rfl, k10⟩
  have HF := hid (HK.out.trans' k10)
  clear k10 HC HK
  go_wp2_with fail
  go_ret
  exact ⟨rfl, HF.out⟩

end Go.Proofs.YtnokemcogjoonaaGreatDoor.Pt

namespace Go.Proofs.YtnokemcogjoonaaGreatDoor.Fd
open Go.RowKit Go.Shelf
set_option linter.unusedVariables false

/-- A sum's key. -/
def keyN (s : Nat) : Nat := s * spreadN % 18446744073709551616
theorem keyN_lt (s : Nat) : keyN s < 18446744073709551616 := Nat.mod_lt _ (by decide)

theorem set_same {cs : Array Value} {i : Nat} {v : Value} (h : cs[i]? = some v) : cs.setIfInBounds i v = cs := by
  refine Array.ext_getElem? fun j => ?_
  rw [Array.getElem?_setIfInBounds]
  split
  · rename_i e
    subst e
    rw [if_pos (Array.getElem?_eq_some_iff.1 h).1, h]
  · rfl

set_option maxRecDepth 100000 in
set_option maxHeartbeats 1000000 in
theorem key_any (b o : Nat) (a : Option Addr) (n cap p span sum : Nat) (w : World) (c0 : w.cell? ⟨b, o, none⟩ = some (.slice a n cap)) (c1 : w.cell? ⟨b, o + 1, none⟩ = some (.int .i64 (p : Int))) (c2 : w.cell? ⟨b, o + 2, none⟩ = some (.int .i64 (span : Int)))
    (c3 : w.cell? ⟨b, o + 3, none⟩ = some (.int .u64 (sum : Int))) (hp : p < 1000000) (hs : span < 1000000) :
    Calls Tryz.prog 91 #[.pointer (some ⟨b, o, none⟩)] w fun e w' => e = .returned (.tuple #[.int .u64 ((keyN sum : Nat) : Int), .bool (decide (p + span ≤ n))]) ∧ ∃ k, w' = w.drewN k := by
  obtain ⟨ky, hky⟩ : ∃ ky, ky = keyN sum := ⟨_, rfl⟩
  have hk : IntKind.u64.wrap ((sum : Int) * 11400714819323198485) = (ky : Int) := by
    rw [hky]; unfold keyN spreadN; rw [IntKind.wrap_u64]; omega
  obtain ⟨q, hq⟩ : ∃ q, q = p + span := ⟨_, rfl⟩
  have hadd : (p : Int) + (span : Int) = (q : Int) := by omega
  rw [← hky, ← hq]
  clear hky hq
  go_enter Tryz.func91, Tryz.ntmps91
  go_wp2_with fail
  go_quiet (fail)
  go_wp2_with fail
  go_ret2
  exact ⟨rfl, _, rfl⟩

set_option maxRecDepth 100000 in
set_option maxHeartbeats 4000000 in
/-- step: the next place, and its sum. -/
theorem roll_step (b o gb off t : Nat) (cs : Array Value) (a : Option Addr) (cap p span : Nat) (bs : List Nat) (w : World) (hob : w.heap[b]? = some (.cells cs t (0, 0))) (hB : Bytes w a cap gb off bs)
    (c0 : cs[o]? = some (.slice a bs.length cap)) (c1 : cs[o + 1]? = some (.int .i64 (p : Int))) (c2 : cs[o + 2]? = some (.int .i64 (span : Int)))
    (c3 : cs[o + 3]? = some (.int .u64 ((sumN bs span p : Nat) : Int))) (c4 : cs[o + 4]? = some (.int .u64 ((leadM bs span : Nat) : Int))) (hp : p < 1000000) (hs : span < 1000000) (hs1 : 1 ≤ span) (hl : bs.length < 65536) (hgb : gb ≠ b) :
    Calls Tryz.prog 92 #[.pointer (some ⟨b, o, none⟩)] w fun e w' => e = .returned (.tuple #[]) ∧ w'.heap[b]? = some (.cells ((cs.setIfInBounds (o + 3) (.int .u64 ((sumN bs span (p + 1) : Nat) : Int))).setIfInBounds (o + 1) (.int .i64 ((p + 1 : Nat) : Int))) t (0, 0)) ∧ Keep (fun k => k = b) w w' := by
  have d0 : w.cell? ⟨b, o, none⟩ = some (.slice a bs.length cap) := (cell_of hob o).trans c0
  have d1 : w.cell? ⟨b, o + 1, none⟩ = some (.int .i64 (p : Int)) := (cell_of hob _).trans c1
  have d2 : w.cell? ⟨b, o + 2, none⟩ = some (.int .i64 (span : Int)) := (cell_of hob _).trans c2
  obtain ⟨q, hq⟩ : ∃ q, q = p + span := ⟨_, rfl⟩
  obtain ⟨p1, hp1⟩ : ∃ p1, p1 = p + 1 := ⟨_, rfl⟩
  have hadd : (p : Int) + (span : Int) = (q : Int) := by omega
  have hadd1 : (p : Int) + 1 = (p1 : Int) := by omega
  have f1 := frozen_of hob (o + 1)
  by_cases h : q < bs.length
  · have h' : (q : Int) < (bs.length : Int) := by omega
    have ha : a = some ⟨gb, off, none⟩ := by
      rcases hB.at_ with e | e
      · exact e
      · rw [e] at h; simp at h
    subst ha
    have d3 : w.cell? ⟨b, o + 3, none⟩ = some (.int .u64 ((sumN bs span p : Nat) : Int)) := (cell_of hob _).trans c3
    have d4 : w.cell? ⟨b, o + 4, none⟩ = some (.int .u64 ((leadM bs span : Nat) : Int)) := (cell_of hob _).trans c4
    have f3 := frozen_of hob (o + 3)
    have e1 : w.cell? ⟨gb, off + p, none⟩ = some (.int .u8 ((byteN bs p : Nat) : Int)) := hB.cells p (by omega)
    have e2 : w.cell? ⟨gb, off + q, none⟩ = some (.int .u8 ((byteN bs q : Nat) : Int)) := hB.cells q (by omega)
    have hx := hB.lt p
    have hy := hB.lt q
    have hst := sum_step bs span p hs1 (by omega)
    rw [← hq, ← hp1] at hst
    rw [← hp1]
    have HC := (show Hid _ from c1)
    clear c0 c1 c2 c3 c4
    have hbx : byteN bs p < 256 := hx
    have hby : byteN bs q < 256 := hy
    generalize byteN bs p = x at e1 hst hbx
    generalize byteN bs q = y at e2 hst hby
    generalize sumN bs span p = s0 at d3 hst
    generalize leadM bs span = l0 at d4 hst
    generalize sumN bs span p1 = s1 at hst ⊢
    generalize bs.length = n at *
    have hpn : p < n := by omega
    have hpI : (p : Int) < (n : Int) := by omega
    obtain ⟨m1, h1⟩ : ∃ m1 : Int, m1 = ((l0 : Int) * (x : Int)) % 18446744073709551616 := ⟨_, rfl⟩
    obtain ⟨m2, h2⟩ : ∃ m2 : Int, m2 = ((s0 : Int) - m1) % 18446744073709551616 := ⟨_, rfl⟩
    obtain ⟨m3, h3⟩ : ∃ m3 : Int, m3 = (m2 * 11400714819323198485) % 18446744073709551616 := ⟨_, rfl⟩
    have k1 : IntKind.u64.wrap ((l0 : Int) * (x : Int)) = m1 := by rw [IntKind.wrap_u64, h1]
    have k2 : IntKind.u64.wrap ((s0 : Int) - m1) = m2 := by rw [IntKind.wrap_u64, h2]
    have k3 : IntKind.u64.wrap (m2 * 11400714819323198485) = m3 := by rw [IntKind.wrap_u64, h3]
    have k4 : IntKind.u64.wrap (m3 + (y : Int)) = (s1 : Int) := by rw [IntKind.wrap_u64, ← hst, h3, h2, h1]; rfl
    clear hx hy hB hst h1 h2 h3 hq hp1
    go_enter Tryz.func92, Tryz.ntmps92
    go_wp2_with fail
    go_quiet (fail)
    go_wp2_with fail
    have hob' : (w.drewN nq).heap[b]? = some (.cells cs t (0, 0)) := hob
    have kw : Keep (fun k => k = b) w (w.drewN nq) := ⟨rfl, rfl, rfl, Nat.le_refl _, fun _ _ _ => rfl⟩
    have d0 : (w.drewN nq).cell? ⟨b, o, none⟩ = some (.slice (some ⟨gb, off, none⟩) n cap) := d0
    have d1 : (w.drewN nq).cell? ⟨b, o + 1, none⟩ = some (.int .i64 (p : Int)) := d1
    have d3 : (w.drewN nq).cell? ⟨b, o + 3, none⟩ = some (.int .u64 (s0 : Int)) := d3
    have d4 : (w.drewN nq).cell? ⟨b, o + 4, none⟩ = some (.int .u64 (l0 : Int)) := d4
    have e1 : (w.drewN nq).cell? ⟨gb, off + p, none⟩ = some (.int .u8 (x : Int)) := e1
    have e2 : (w.drewN nq).cell? ⟨gb, off + q, none⟩ = some (.int .u8 (y : Int)) := e2
    have f1 : (w.drewN nq).frozen? ⟨b, o + 1, none⟩ = false := f1
    have f3 : (w.drewN nq).frozen? ⟨b, o + 3, none⟩ = false := f3
    generalize w.drewN nq = W at *
    have HF := (show Hid ((((W.setCell ⟨b, o + 3, none⟩ (.int .u64 (s1 : Int))).setCell ⟨b, o + 1, none⟩ (.int .i64 (p1 : Int))).heap[b]? = some (.cells ((cs.setIfInBounds (o + 3) (.int .u64 (s1 : Int))).setIfInBounds (o + 1) (.int .i64 (p1 : Int))) t (0, 0))) ∧ Keep (fun k => k = b) w ((W.setCell ⟨b, o + 3, none⟩ (.int .u64 (s1 : Int))).setCell ⟨b, o + 1, none⟩ (.int .i64 (p1 : Int)))) from
      ⟨set_obj (set_obj hob' _ _) _ _, (kw.setCell (p := ⟨b, o + 3, none⟩) (fun _ => rfl) _).setCell (p := ⟨b, o + 1, none⟩) (fun _ => rfl) _⟩)
    clear kw hob'
    go_region
    go_wp2_with fail
    go_end0
    exact ⟨rfl, HF.out.1, HF.out.2.drew⟩
  · have h' : ¬ (q : Int) < (bs.length : Int) := by omega
    have hs := sumN_out bs span p (by omega)
    rw [hs, ← hp1]
    have e := set_same c3
    rw [e]
    have HF := (show Hid (∀ m, (((w.drewN m).setCell ⟨b, o + 1, none⟩ (.int .i64 (p1 : Int))).heap[b]? = some (.cells (cs.setIfInBounds (o + 1) (.int .i64 (p1 : Int))) t (0, 0))) ∧ Keep (fun k => k = b) w ((w.drewN m).setCell ⟨b, o + 1, none⟩ (.int .i64 (p1 : Int)))) from
      fun m => ⟨set_obj (w := w.drewN m) hob _ _, (Keep.mono (T := fun k => k = b) (keep_drewN w m) (fun _ _ h => h.elim)).setCell (p := ⟨b, o + 1, none⟩) (fun _ => rfl) _⟩)
    clear hob c0 c1 c2 c3 c4 hB hq hp1 e hs
    generalize bs.length = n at *
    go_enter Tryz.func92, Tryz.ntmps92
    go_wp2_with fail
    go_quiet (fail)
    go_wp2_with fail
    go_end0
    exact ⟨rfl, (HF.out nq).1, (HF.out nq).2⟩
end Go.Proofs.YtnokemcogjoonaaGreatDoor.Fd

namespace Go.Proofs.YtnokemcogjoonaaGreatDoor.Fd
open Go.RowKit Go.Shelf Go.Maps
set_option linter.unusedVariables false

/-- Numbers of 32 bits, as values. -/
def i32s (xs : List Nat) : List Value := xs.map (fun b => Value.int .i32 ((b : Nat) : Int))
theorem i32s_length (xs : List Nat) : (i32s xs).length = xs.length := by simp [i32s]
theorem i32s_at (xs : List Nat) (j : Nat) (hj : j < xs.length) : (i32s xs)[j]? = some (.int .i32 ((xs[j]?.getD 0 : Nat) : Int)) := by simp [i32s, hj]
theorem i32s_set (xs : List Nat) (j x : Nat) : (i32s xs).toArray.setIfInBounds j (.int .i32 (x : Int)) = (i32s (xs.set j x)).toArray := by simp [i32s, List.map_set]

theorem keys48 : Keyed Tryz.prog 118 := int_keyed Tryz.underlying118
theorem zero21 (w : World) : (zeroValue 21).run Tryz.prog w = .ok (.int .i32 0) w := by kernel_rfl

/-- Block mb is a map whose elements are from 0 to p, and of at most p entries. -/
def MapOK (w : World) (mb p : Nat) : Prop :=
  ∃ D : DataW Unit, w.ownsMap Tryz.prog 118 (plainElem Tryz.prog 21) mb p D ∧ IsMap D ∧ ∀ kl c, D.atKey kl (.lit (.int .i32 0)) = .lit (.int .i32 c) → 0 ≤ c ∧ c ≤ (p : Int)
theorem MapOK.lt {w : World} {mb p : Nat} (h : MapOK w mb p) : mb < w.heap.size := by
  obtain ⟨D, h1, _⟩ := h
  exact h1.lt
theorem MapOK.block {w w' : World} {mb p : Nat} (h : MapOK w mb p) (hb : w'.heap[mb]? = w.heap[mb]?) : MapOK w' mb p := by
  obtain ⟨D, ⟨es, cl, h1, h2, h3, h4⟩, h5, h6⟩ := h
  exact ⟨D, ⟨es, cl, hb.trans h1, h2, h3, h4⟩, h5, h6⟩
theorem MapOK.keep {w w' : World} {S : Nat → Prop} {mb p : Nat} (h : MapOK w mb p) (hk : Keep S w w') (hS : ¬ S mb) : MapOK w' mb p :=
  h.block (hk.block mb h.lt hS)
theorem wf_u64 (k : Nat) (hk : k < 18446744073709551616) : (Lit.int .u64 (k : Int)).wf = true := by
  simp [Lit.wf, IntKind.min, IntKind.max, IntKind.signed, IntKind.bits]; omega
theorem MapOK.look {w : World} {mb p : Nat} (h : MapOK w mb p) (k : Nat) (hk : k < 18446744073709551616) :
    ∃ c : Nat, c ≤ p ∧ (Instr.lookup 137 (.map (some mb)) (.int .u64 (k : Int)) false).run Tryz.prog w = .ok (.int .i32 (c : Int)) w := by
  obtain ⟨D, h1, h2, h3⟩ := h
  obtain ⟨c, hr, hat, _⟩ := h1.lookup_int keys48 Tryz.underlying137 Tryz.underlying21 (zero21 w) (keyOf_int_mk Tryz.underlying118 (wf_u64 k hk))
  obtain ⟨q1, q2⟩ := h3 _ _ hat
  refine ⟨c.toNat, by omega, ?_⟩
  rw [hr, Int.toNat_of_nonneg q1]
theorem MapOK.store {w : World} {mb p : Nat} (h : MapOK w mb p) (hp : p < 1000000) (k : Nat) (hk : k < 18446744073709551616) :
    ∃ w', (Instr.mapUpdate 137 (.map (some mb)) (.int .u64 (k : Int)) (.int .i32 ((p + 1 : Nat) : Int))).run Tryz.prog w = .ok () w' ∧ MapOK w' mb (p + 1) ∧ Keep (fun k => k = mb) w w' := by
  obtain ⟨D, h1, h2, h3⟩ := h
  have hw : (Lit.int .i32 ((p + 1 : Nat) : Int)).wf = true := by simp [Lit.wf, IntKind.min, IntKind.max, IntKind.signed, IntKind.bits]; omega
  obtain ⟨w', hr, ho, hg⟩ := h1.update keys48 Tryz.underlying137 (by unfold maxLen; omega) (keyOf_int_mk Tryz.underlying118 (wf_u64 k hk)) (plainElem_int Tryz.underlying21 hw)
  refine ⟨w', hr, ⟨_, ho, h2.put _ _, fun kl c hc => ?_⟩, (Keep.refl _ w).grown hg (fun k e _ => by cases e; rfl)⟩
  by_cases e : kl = .int .u64 (k : Int)
  · subst e
    rw [atKey_put_same h2 (by trivial)] at hc
    simp only [DataW.lit.injEq, Lit.int.injEq, true_and] at hc
    omega
  · rw [atKey_put_other e] at hc
    have := h3 kl c hc
    omega

/-- What does not change of a search. -/
structure Cf where
  sb : Nat
  hb : Nat
  ob : Nat
  mb : Nat
  gb : Nat
  off : Nat
  cap : Nat
  bs : List Nat
  depth : Nat
  window : Nat
  least : Nat
  most : Nat
  hk : Nat
  rk : Nat
/-- How long a mark is. -/
def Cf.far (c : Cf) : Nat := max 32 c.least
/-- The cells of a search. -/
def srch (c : Cf) (p told vain p1 p2 : Nat) : Array Value :=
  #[.slice (some ⟨c.gb, c.off, none⟩) c.bs.length c.cap, .int .i64 (c.depth : Int), .int .i64 (c.window : Int), .int .i64 (c.least : Int), .int .i64 (c.most : Int), .int .i64 (p : Int), .int .i64 (told : Int), .int .i64 (vain : Int),
    .slice (some ⟨c.gb, c.off, none⟩) c.bs.length c.cap, .int .i64 (p1 : Int), .int .i64 (c.least : Int), .int .u64 ((sumN c.bs c.least p1 : Nat) : Int), .int .u64 ((leadM c.bs c.least : Nat) : Int), .int .i64 ((64 - c.hk : Nat) : Int), .slice (some ⟨c.hb, 0, none⟩) (2 ^ c.hk) (2 ^ c.hk), .slice (some ⟨c.ob, 0, none⟩) (2 ^ c.rk) (2 ^ c.rk),
    .slice (some ⟨c.gb, c.off, none⟩) c.bs.length c.cap, .int .i64 (p2 : Int), .int .i64 (c.far : Int), .int .u64 ((sumN c.bs c.far p2 : Nat) : Int), .int .u64 ((leadM c.bs c.far : Nat) : Int), .map (some c.mb)]
/-- Its bounds. -/
structure Ok (c : Cf) : Prop where
  n2 : 2 ≤ c.bs.length
  n : c.bs.length < 65536
  w1 : 1 ≤ c.window
  w2 : c.window ≤ 16777216
  l2 : 2 ≤ c.least
  l3 : c.least ≤ c.most
  m2 : c.most ≤ 65536
  d2 : c.depth ≤ 64
  h1 : 6 ≤ c.hk
  h2 : c.hk ≤ 18
  r2 : c.rk ≤ 16
  sh : c.sb ≠ c.hb
  so : c.sb ≠ c.ob
  sm : c.sb ≠ c.mb
  sg : c.sb ≠ c.gb
  ho : c.hb ≠ c.ob
  hm : c.hb ≠ c.mb
  hg : c.hb ≠ c.gb
  om : c.ob ≠ c.mb
  og : c.ob ≠ c.gb
  mg : c.mb ≠ c.gb
/-- The blocks that a search may write. -/
def mine (c : Cf) (k : Nat) : Prop := k = c.sb ∨ k = c.hb ∨ k = c.ob ∨ k = c.mb
/-- The last place that was put into its chain stands at the chain's head. -/
def Last (c : Cf) (hs : List Nat) (p1 : Nat) : Prop := 1 ≤ p1 → p1 - 1 + c.least ≤ c.bs.length → hs[keyN (hashN c.bs (p1 - 1) c.least) / 2 ^ (64 - c.hk)]?.getD 0 = p1
/-- The two tables of a search that has gone through p1 places. -/
structure Tabs (w : World) (c : Cf) (hs os : List Nat) (p1 : Nat) : Prop where
  heads : w.heap[c.hb]? = some (.cells (i32s hs).toArray 21 (0, 0))
  hl : hs.length = 2 ^ c.hk
  hle : ∀ j : Nat, hs[j]?.getD 0 ≤ p1
  last : Last c hs p1
  older : w.heap[c.ob]? = some (.cells (i32s os).toArray 21 (0, 0))
  ol : os.length = 2 ^ c.rk
  ole : ∀ j : Nat, os[j]?.getD 0 ≤ p1
theorem Tabs.keep {w w' : World} {S : Nat → Prop} {c : Cf} {hs os : List Nat} {p1 : Nat} (h : Tabs w c hs os p1) (hk : Keep S w w') (h1 : ¬ S c.hb) (h2 : ¬ S c.ob) : Tabs w' c hs os p1 :=
  ⟨hk.obj h.heads h1, h.hl, h.hle, h.last, hk.obj h.older h2, h.ol, h.ole⟩
/-- Block sb is a search: its place, what is told, what was searched in vain, the places of its two rolls. -/
structure IsS (w : World) (c : Cf) (p told vain p1 p2 : Nat) : Prop where
  ok : Ok c
  obj : w.heap[c.sb]? = some (.cells (srch c p told vain p1 p2) 142 (0, 0))
  tabs : ∃ hs os, Tabs w c hs os p1
  map : MapOK w c.mb p2
  text : Bytes w (some ⟨c.gb, c.off, none⟩) c.cap c.gb c.off c.bs
theorem IsS.keep {w w' : World} {S : Nat → Prop} {c : Cf} {p told vain p1 p2 : Nat} (h : IsS w c p told vain p1 p2) (hk : Keep S w w') (h1 : ¬ S c.sb) (h2 : ¬ S c.hb) (h3 : ¬ S c.ob) (h4 : ¬ S c.mb) (h5 : ¬ S c.gb) : IsS w' c p told vain p1 p2 := by
  obtain ⟨ok, obj, ⟨hs, os, t⟩, m, b⟩ := h
  exact ⟨ok, hk.obj obj h1, ⟨hs, os, t.keep hk h2 h3⟩, m.keep hk h4, b.keep hk (fun _ => h5)⟩
theorem IsS.still {w w' : World} {c : Cf} {p told vain p1 p2 : Nat} (h : IsS w c p told vain p1 p2) (hk : Keep noBlock w w') : IsS w' c p told vain p1 p2 :=
  h.keep hk (fun h => h) (fun h => h) (fun h => h) (fun h => h) (fun h => h)
theorem IsS.drewN {w : World} {c : Cf} {p told vain p1 p2 : Nat} (h : IsS w c p told vain p1 p2) (n : Nat) : IsS (w.drewN n) c p told vain p1 p2 := h.still (keep_drewN w n)

end Go.Proofs.YtnokemcogjoonaaGreatDoor.Fd
