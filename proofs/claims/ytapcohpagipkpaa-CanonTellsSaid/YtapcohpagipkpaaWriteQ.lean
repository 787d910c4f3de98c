/-
  The document's Write.
-/
import Derived.Test.YtapcohpagipkpaaWords
namespace Go.Proofs.Ytapcohpagipkpaa
open Go.RowKit Go.Shelf

set_option maxRecDepth 100000 in
set_option maxHeartbeats 1000000 in
theorem writeQ_far (p a : Option Addr) (cap n : Nat) (s : Int) (w : World) (hl : 1024 < n) :
    Calls Try.prog 12 #[.pointer p, .slice a n cap, .int .i64 s] w fun e w' => e = .returned (.int .i64 50) ∧ Keep noBlock w w' := by
  go_enter Try.func12, Try.ntmps12
  go_wp2_with fail
  refine (right_far a cap n w hl).mono ?_
  rintro e w1 ⟨rfl, hk⟩
  go_wp2
  go_ret
  exact ⟨rfl, hk⟩
set_option maxRecDepth 100000 in
set_option maxHeartbeats 1000000 in
theorem writeQ_bad (p a : Option Addr) (cap gb off : Nat) (s : Int) (xs : List Nat) (w : World) (hR : Row w .u8 a cap gb off xs) (h8 : ∀ i, numOf xs i < 256) (hl : xs.length ≤ 1024) (hbad : isCode xs = false) :
    Calls Try.prog 12 #[.pointer p, .slice a xs.length cap, .int .i64 s] w fun e w' => e = .returned (.int .i64 50) ∧ Keep noBlock w w' := by
  have h := right_any a cap gb off xs w hR h8 hl
  rw [hbad] at h
  go_enter Try.func12, Try.ntmps12
  go_wp2_with fail
  refine h.mono ?_
  rintro e w1 ⟨rfl, hk⟩
  clear h
  go_wp2
  go_ret
  exact ⟨rfl, hk⟩
set_option maxRecDepth 100000 in
set_option maxHeartbeats 1000000 in
theorem writeQ_arg (p a : Option Addr) (cap gb off : Nat) (s : Int) (xs : List Nat) (w : World) (hR : Row w .u8 a cap gb off xs) (h8 : ∀ i, numOf xs i < 256) (hl : xs.length ≤ 1024) (hgood : isCode xs = true) (hs : s < 0 ∨ (xs.length : Int) ≤ s) :
    Calls Try.prog 12 #[.pointer p, .slice a xs.length cap, .int .i64 s] w fun e w' => e = .returned (.int .i64 2) ∧ Keep noBlock w w' := by
  have h := right_any a cap gb off xs w hR h8 hl
  rw [hgood] at h
  by_cases h0 : s < 0
  · have h0B : decide (s < 0) = true := decide_eq_true h0
    go_enter Try.func12, Try.ntmps12
    go_wp2_with fail
    refine h.mono ?_
    rintro e w1 ⟨rfl, hk⟩
    clear h
    go_wp2
    go_ret
    exact ⟨rfl, hk⟩
  · have h0B : decide (s < 0) = false := decide_eq_false h0
    have h1 : (xs.length : Int) ≤ s := hs.resolve_left h0
    have h1B : decide ((xs.length : Int) ≤ s) = true := decide_eq_true h1
    clear hs
    go_enter Try.func12, Try.ntmps12
    go_wp2_with fail
    refine h.mono ?_
    rintro e w1 ⟨rfl, hk⟩
    clear h
    go_wp2
    go_ret
    exact ⟨rfl, hk⟩
set_option maxRecDepth 100000 in
set_option maxHeartbeats 1000000 in
theorem writeQ_zero (p a : Option Addr) (cap gb off s : Nat) (xs : List Nat) (w : World) (hR : Row w .u8 a cap gb off xs) (h8 : ∀ i, numOf xs i < 256) (hl : xs.length ≤ 1024) (hgood : isCode xs = true) (hs : s < xs.length) (h0 : numOf xs s = 0) :
    Calls Try.prog 12 #[.pointer p, .slice a xs.length cap, .int .i64 (s : Int)] w fun e w' => e = .returned (.int .i64 2) ∧ Keep noBlock w w' := by
  have h := right_any a cap gb off xs w hR h8 hl
  rw [hgood] at h
  obtain rfl : a = some ⟨gb, off, none⟩ := hR.at_.resolve_right (by rintro rfl; simp at hs)
  have g0 : ¬ (s : Int) < 0 := by omega
  have g0B : decide ((s : Int) < 0) = false := decide_eq_false g0
  have g1 : ¬ (xs.length : Int) ≤ (s : Int) := by omega
  have g1B : decide ((xs.length : Int) ≤ (s : Int)) = false := decide_eq_false g1
  have g1N : decide (xs.length ≤ s) = false := decide_eq_false (by omega)
  go_enter Try.func12, Try.ntmps12
  go_wp2_with fail
  refine h.mono ?_
  rintro e w1 ⟨rfl, hk⟩
  have c1 : w1.cell? ⟨gb, off + s, none⟩ = some (.int .u8 ((numOf xs s : Nat) : Int)) := (hR.keep hk (fun _ h => h)).cells s hs
  rw [h0] at c1
  clear h hR
  go_wp2
  go_ret
  exact ⟨rfl, hk⟩

/-- The document's writer, whose row may have moved since w. -/
def OneV (w W : World) (vb : Nat) (v : Value) (L : List (Fin 2)) : Prop := ∃ v', IsV W vb v' L ∧ Moves w.heap.size v v' ∧ Keep (fun k => k = vb ∨ v.ownBlock = some k) w W
theorem OneV.put {w W W1 : World} {vb : Nat} {v v1 v2 : Value} {L : List (Fin 2)} (hM : Moves w.heap.size v v1) (hK : Keep (fun k => k = vb ∨ v.ownBlock = some k) w W)
    (hV : IsV W1 vb v2 L) (hM1 : Moves W.heap.size v1 v2) (hK1 : Keep (fun k => k = vb ∨ v1.ownBlock = some k) W W1) : OneV w W1 vb v L := by
  refine ⟨v2, hV, hM.trans hM1 hK.size, hK.trans hK1 ?_⟩
  rintro i hi (e | e)
  · exact .inl e
  · rcases hM with h | ⟨j, h, hj⟩
    · exact .inr (by rw [← h]; exact e)
    · rw [h] at e; cases e; omega

/-- The first k bits of a word of l bits, the highest first. -/
def topBits (x l k : Nat) : List (Fin 2) := upto (fun j => (⟨bitOf x (l - 1 - j), bitOf_lt _ _⟩ : Fin 2)) k
theorem topBits_all (xs : List Nat) (s : Nat) : topBits (wordN xs s) (numOf xs s) (numOf xs s) = wordBits xs s := by
  unfold topBits wordBits low upto
  refine List.map_congr_left (fun j hj => ?_)
  have := List.mem_range.1 hj
  refine Fin.ext ?_
  show bitOf _ _ = bitOf _ _
  rw [bitOf_valF _ (fun i => bitOf_lt _ _) _ _ this]
theorem topBits_succ (x l k d : Nat) (hd : d = l - 1 - k) : topBits x l (k + 1) = topBits x l k ++ low (x / 2 ^ d) 1 := by
  unfold topBits
  rw [upto_succ]
  congr 1
  unfold low upto
  simp
  unfold bitOf
  rw [Nat.pow_zero, Nat.div_one, hd]

set_option maxRecDepth 100000 in
set_option maxHeartbeats 4000000 in
theorem writeQ_good (vb : Nat) (v : Value) (L : List (Fin 2)) (a : Option Addr) (cap gb off s : Nat) (xs : List Nat) (w : World) (hV : IsV w vb v L) (hL : L.length < 100000000000) (hgw : gb ≠ vb) (hgv : v.ownBlock ≠ some gb)
    (hR : Row w .u8 a cap gb off xs) (h8 : ∀ i, numOf xs i < 256) (hl : xs.length ≤ 1024) (hgood : isCode xs = true) (hs : s < xs.length) (h0 : numOf xs s ≠ 0) :
    Calls Try.prog 12 #[.pointer (some ⟨vb, 0, none⟩), .slice a xs.length cap, .int .i64 (s : Int)] w fun e w' => e = .returned (.int .i64 0) ∧ OneV w w' vb v (L ++ wordBits xs s) := by
  have h := right_any a cap gb off xs w hR h8 hl
  rw [hgood] at h
  obtain rfl : a = some ⟨gb, off, none⟩ := hR.at_.resolve_right (by rintro rfl; simp at hs)
  have g0 : ¬ (s : Int) < 0 := by omega
  have g0B : decide ((s : Int) < 0) = false := decide_eq_false g0
  have g1 : ¬ (xs.length : Int) ≤ (s : Int) := by omega
  have g1B : decide ((xs.length : Int) ≤ (s : Int)) = false := decide_eq_false g1
  have g1N : decide (xs.length ≤ s) = false := decide_eq_false (by omega)
  have g2 : (s : Int) < (xs.length : Int) := by omega
  have h15 := num15 hgood s
  have hwl := (wordN_lt hgood s hs h0).2.2
  have hwb : wordN xs s < 65536 := by
    have : 2 ^ numOf xs s ≤ 2 ^ 15 := Nat.pow_le_pow_right (by omega) h15
    omega
  have htb := topBits_all xs s
  have HT := (show Hid _ from htb)
  have HV := (show Hid (IsV w vb v L ∧ L.length < 100000000000 ∧ gb ≠ vb ∧ v.ownBlock ≠ some gb) from ⟨hV, hL, hgw, hgv⟩)
  clear htb hwl hV hL hgw hgv
  go_enter Try.func12, Try.ntmps12
  go_wp2_with fail
  refine h.mono ?_
  rintro e w1 ⟨rfl, hk⟩
  clear h
  have hR1 := hR.keep hk (fun _ h => h)
  have c1 : w1.cell? ⟨gb, off + s, none⟩ = some (.int .u8 ((numOf xs s : Nat) : Int)) := hR1.cells s hs
  obtain ⟨l, hln⟩ : ∃ l, l = numOf xs s := ⟨_, rfl⟩
  rw [← hln] at c1 h0 h15 HT
  have h0I : ¬ (l : Int) = 0 := by omega
  have h0B : ((l : Int) == 0) = false := by simpa using h0I
  clear hln
  go_wp2_with fail
  refine (words_any (some ⟨gb, off, none⟩) cap gb off xs w1 hR1 hl hgood).mono ?_
  rintro e w2 ⟨cb, rfl, hcb1, hcb2, hRw, hk2⟩
  have c2 := hRw.cells s (by simpa using hs)
  have hmap : ((List.range xs.length).map (fun s => wordN xs s % 65536))[s]?.getD 0 = wordN xs s := by
    simp [hs]; omega
  rw [hmap, Nat.zero_add] at c2
  have c1' : w2.cell? ⟨gb, off + s, none⟩ = some (.int .u8 (l : Int)) := (World.cell?_of_block (hk2.block gb (World.block_lt_of_cell? _ _ c1) (fun h => h))).trans c1
  generalize wordN xs s = x at c2 hwb HT
  have hkw := hk.trans' hk2
  have hone : OneV w w2 vb v (L ++ topBits x l 0) := ⟨v, by
    show IsV w2 vb v (L ++ [])
    rw [List.append_nil]
    exact HV.out.1.keep hkw (fun h => h) (fun _ _ h => h), Moves.refl _ _, hkw.mono (fun _ _ h => h.elim)⟩
  have H2 := (show Hid (OneV w w2 vb v (L ++ topBits x l 0)) from hone)
  obtain ⟨z, hz⟩ : ∃ z : Int, z = (l : Int) - 1 := ⟨_, rfl⟩
  have hzI : (l : Int) - 1 = z := hz.symm
  have HZ := (show Hid (z = (l : Int) - 1) from hz)
  clear hone hRw hk hk2 hkw hmap hR1 c1 hcb1 hcb2 hR hz
  go_wp2_with fail
  go_loopw [8] (fun vi wr => ∃ (k : Nat) (z : Int), vi = .int .i64 z ∧ k ≤ l ∧ Hid (z = (l : Int) - 1 - (k : Int) ∧ OneV w wr vb v (L ++ topBits x l k))) (fun vi _ => (intOf vi + 1).toNat)
  case atStart => exact ⟨0, z, rfl, Nat.zero_le _, by show _ = _; rw [HZ.out]; simp, H2.out⟩
  case round =>
    clear H2 HZ hzI
    obtain ⟨k, z2, rfl, hk, HK⟩ := hrel
    by_cases hlt : k < l
    · obtain ⟨d, hd⟩ : ∃ d, d = l - 1 - k := ⟨_, rfl⟩
      obtain rfl : z2 = (d : Int) := by have := HK.out.1; omega
      have hd0 : (0 : Int) ≤ (d : Int) := by omega
      have hsc := topBits_succ x l k d hd
      obtain ⟨v1, hV1, hM1, hK1⟩ := HK.out.2
      obtain ⟨y, hy⟩ : ∃ y, y = x / 2 ^ d := ⟨_, rfl⟩
      have hyI : (x : Int) / 2 ^ d = (y : Int) := by rw [hy]; simp
      have hyb : y < 65536 := by rw [hy]; exact Nat.lt_of_le_of_lt (Nat.div_le_self _ _) hwb
      rw [← hy] at hsc
      have hlen : (L ++ topBits x l k).length < 1000000000000 := by
        rw [List.length_append]
        have : (topBits x l k).length = k := upto_length _ _
        have := HV.out.2.1
        omega
      have HN := (show Hid (topBits x l (k + 1) = topBits x l k ++ low y 1 ∧ d = l - 1 - k) from ⟨hsc, hd⟩)
      have hdl : d ≤ 15 := by omega
      have hput := putV_any vb v1 (L ++ topBits x l k) y 1 (by omega) (by omega) hlen wr hV1
      have HP := (show Hid (∀ u : Unit, Calls Try.prog 33 _ wr _) from fun _ => hput)
      have HM := (show Hid (Moves w.heap.size v v1 ∧ Keep (fun k => k = vb ∨ v.ownBlock = some k) w wr) from ⟨hM1, hK1⟩)
      clear hsc hd hy hput hM1 hK1 hV1 HK hlen
      go_wp2_with fail
      refine (HP.out ()).mono ?_
      rintro e w3 ⟨rfl, v2, hV2, hM2, hK2⟩
      have hone := OneV.put HM.out.1 HM.out.2 hV2 hM2 hK2
      rw [List.append_assoc, ← HN.out.1] at hone
      have HO := (show Hid (OneV w w3 vb v (L ++ topBits x l (k + 1))) from hone)
      clear hone hV2 hM2 hK2 HP HM
      go_wp2_with fail
      go_roundw
      case rel => exact ⟨k + 1, (d : Int) - 1, by go_num, by omega, by have := HN.out.2; show (d : Int) - 1 = _; omega, HO.out⟩
      case measure => simp [intOf]
    · obtain rfl : k = l := by omega
      obtain rfl : z2 = -1 := by have := HK.out.1; omega
      have ho := HK.out.2
      rw [HT.out] at ho
      have HO := (show Hid _ from ho)
      clear ho HK HT
      go_wp2_with fail
      go_ret
      exact ⟨rfl, HO.out⟩

end Go.Proofs.Ytapcohpagipkpaa
