/-
  What is true of a member's units: their lengths, by what was told ahead.
  look: a unit by itself.
  look: the rest of a head, a block's head, a sum.
  look: a sum.
  look and behindBlock of a frame as it lies, whatever the unit.
-/
import Derived.Test.YtnjilcokkhodmaaGreatDoorZP12
import Derived.Test.YtnjilcokkhodmaaGreatDoorZP19
import Derived.Test.YtnjilcokkhodmaaGreatDoorZP22
import Derived.Test.YtnjilcokkhodmaaGreatDoorZP23
import Derived.Test.YtnjilcokkhodmaaGreatDoorZP24
namespace Go.Proofs.YtnjilcokkhodmaaGreatDoor
open Go.RowKit Go.Shelf
set_option linter.unusedVariables false

/-- A unit, behind flags, a kind and a size. -/
structure UnOk (fl kd sz : Nat) (u : Un) : Prop where
 lt : ∀ j : Nat, u.bs[j]?.getD 0 < 256
 p : u.p < 8
 n0 : u.wh = true → u.p = 0 → u.bs.length = 4
 n3 : u.wh = true → u.p = 3 → u.bs.length = 1
 n4 : u.wh = true → u.p = 4 → u.bs.length = hdLen fl
 n5 : u.wh = true → u.p = 5 → u.bs.length = 3
 n6 : u.wh = true → u.p = 6 → u.bs.length = if kd = 1 then 1 else sz
 n7 : u.wh = true → u.p = 7 → u.bs.length = 4
def UsOk : Nat → Nat → Nat → List Un → Prop
 | _, _, _, [] => True
 | fl, kd, sz, u :: us => UnOk fl kd sz u ∧ UsOk (if u.wh = true ∧ u.p = 3 then u.bs[0]?.getD 0 else fl) (if u.wh = true ∧ u.p = 5 then blKind (numN u.bs) else kd) (if u.wh = true ∧ u.p = 5 then blSize (numN u.bs) else sz) us
theorem unOk_short (fl kd sz p : Nat) (hp : p < 8) : UnOk fl kd sz ⟨p, [], false⟩ :=
 ⟨fun j => by simp, hp, fun h => (by cases h), fun h => (by cases h), fun h => (by cases h), fun h => (by cases h), fun h => (by cases h), fun h => (by cases h)⟩
theorem usOk_cut {fl kd sz : Nat} (p s : Nat) {rest : List Nat} {K : List Nat → List Nat → List Un} (hp : p < 8) (hl : ∀ j : Nat, rest[j]?.getD 0 < 256)
  (hs : (p = 0 → s = 4) ∧ (p = 3 → s = 1) ∧ (p = 4 → s = hdLen fl) ∧ (p = 5 → s = 3) ∧ (p = 6 → s = if kd = 1 then 1 else sz) ∧ (p = 7 → s = 4))
  (hK : ∀ b r fl' kd' sz', b = rest.take s → r = rest.drop s → (∀ j : Nat, b[j]?.getD 0 < 256) → (∀ j : Nat, r[j]?.getD 0 < 256) → fl' = (if p = 3 then b[0]?.getD 0 else fl) → kd' = (if p = 5 then blKind (numN b) else kd) → sz' = (if p = 5 then blSize (numN b) else sz) → UsOk fl' kd' sz' (K b r)) : UsOk fl kd sz (cutU p s rest K) := by
 by_cases h : rest.length < s
 ·rw [cutU_lt h]
  exact ⟨unOk_short _ _ _ _ hp, trivial⟩
 ·rw [cutU_ge (by omega)]
  have hlen : (rest.take s).length = s := by rw [List.length_take]; omega
  obtain ⟨s0, s3, s4, s5, s6, s7⟩ := hs
  refine ⟨⟨lt_take hl s, hp, fun _ e => ?_, fun _ e => ?_, fun _ e => ?_, fun _ e => ?_, fun _ e => ?_, fun _ e => ?_⟩, ?_⟩
  ·exact hlen.trans (s0 e)
  ·exact hlen.trans (s3 e)
  ·exact hlen.trans (s4 e)
  ·exact hlen.trans (s5 e)
  ·exact hlen.trans (s6 e)
  ·exact hlen.trans (s7 e)
  ·exact hK _ _ _ _ _ rfl rfl (lt_take hl s) (lt_drop hl s) (by simp) (by simp) (by simp)
theorem usOk_nil {fl kd sz : Nat} : UsOk fl kd sz [] := trivial
theorem usOk_sum {fl kd sz : Nat} {s : Bool} {rest : List Nat} (hl : ∀ j : Nat, rest[j]?.getD 0 < 256) : UsOk fl kd sz (sumU s rest) := by
 unfold sumU
 cases s with
 | false => exact usOk_nil
 | true => exact usOk_cut 7 4 (by omega) hl ⟨by omega, by omega, by omega, by omega, by omega, fun _ => rfl⟩ (fun _ _ _ _ _ _ _ _ _ _ _ _ => usOk_nil)
theorem usOk_blocks (s : Bool) : ∀ (f fl kd sz : Nat) (rest : List Nat), (∀ j : Nat, rest[j]?.getD 0 < 256) → UsOk fl kd sz (blocksU s f rest)
  | 0, _, _, _, _, _ => usOk_nil
  | f + 1, fl, kd, sz, rest, hl => by
    unfold blocksU
    refine usOk_cut 5 3 (by omega) hl ⟨by omega, by omega, by omega, fun _ => rfl, by omega, by omega⟩ (fun b r f1 k1 s1 _ _ hb hr e1 e2 e3 => ?_)
    rw [if_pos rfl] at e2 e3
    refine usOk_cut 6 (blBeh (numN b)) (by omega) hr ⟨by omega, by omega, by omega, by omega, fun _ => by rw [e2, e3]; rfl, by omega⟩ (fun b2 r2 f2 k2 s2 _ _ hb2 hr2 _ _ _ => ?_)
    split
    · exact usOk_sum hr2
    · exact usOk_blocks s f _ _ _ _ hr2
theorem usOk_skip {fl kd sz : Nat} {r : List Nat} (hr : ∀ j : Nat, r[j]?.getD 0 < 256) : UsOk fl kd sz (skipU r) := by
 unfold skipU
 refine usOk_cut 1 4 (by omega) hr ⟨by omega, by omega, by omega, by omega, by omega, by omega⟩ (fun b r f1 k1 s1 _ _ hb hr _ _ _ => ?_)
 exact usOk_cut 2 (numN b) (by omega) hr ⟨by omega, by omega, by omega, by omega, by omega, by omega⟩ (fun _ _ _ _ _ _ _ _ _ _ _ _ => usOk_nil)
theorem usOk_frame {fl kd sz : Nat} {r : List Nat} (hr : ∀ j : Nat, r[j]?.getD 0 < 256) : UsOk fl kd sz (frameU r) := by
 unfold frameU
 refine usOk_cut 3 1 (by omega) hr ⟨by omega, fun _ => rfl, by omega, by omega, by omega, by omega⟩ (fun b2 r2 f1 k1 s1 _ _ hb2 hr2 e1 _ _ => ?_)
 rw [if_pos rfl] at e1
 exact usOk_cut 4 (hdLen (b2[0]?.getD 0)) (by omega) hr2 ⟨by omega, by omega, fun _ => by rw [e1], by omega, by omega, by omega⟩ (fun _ _ _ _ _ _ _ _ hr3 _ _ _ => usOk_blocks _ _ _ _ _ _ hr3)
theorem usOk_units (fl kd sz : Nat) (b : List Nat) (hl : ∀ j : Nat, b[j]?.getD 0 < 256) : UsOk fl kd sz (unitsU b) := by
 unfold unitsU
 refine usOk_cut 0 4 (by omega) hl ⟨fun _ => rfl, by omega, by omega, by omega, by omega, by omega⟩ (fun f r _ _ _ _ _ hf hr _ _ _ => ?_)
 split
 ·exact usOk_skip hr
 ·split
  ·exact usOk_frame hr
  ·exact usOk_nil
end Go.Proofs.YtnjilcokkhodmaaGreatDoor

namespace Go.Proofs.YtnjilcokkhodmaaGreatDoor
open Go.RowKit Go.Shelf
set_option linter.unusedVariables false

def unV (p : Nat) (a : Option Addr) (n cap : Nat) (wh : Bool) : Value := .agg #[.int .i64 (p : Int), .slice a n cap, .bool wh]
section
variable {w : World} {fb win dic siz : Nat} {told : Bool} {x0 x1 x2 ws : Value} {r0 r1 r2 : Int} {fl : Nat} {last : Bool} {kind bsz : Nat} {out : Value} {bud : Nat}
set_option maxHeartbeats 1000000 in
theorem look_cut (w : World) (fb p : Nat) (a : Option Addr) (n cap : Nat) : Calls Tryz.prog 12 #[.pointer (some ⟨fb, 0, none⟩), unV p a n cap false] w fun e w' => e = .returned (.int .i64 10) ∧ Keep noBlock w w' := by
 unfold unV
 go_enter Tryz.func12, Tryz.ntmps12
 go_wp2_with fail
 go_ret
 exact ⟨rfl, (Keep.refl _ w).alloc _⟩
set_option maxHeartbeats 1000000 in
theorem look_pass (w : World) (fb p : Nat) (a : Option Addr) (n cap : Nat) (hp : p = 1 ∨ p = 2 ∨ p = 6) : Calls Tryz.prog 12 #[.pointer (some ⟨fb, 0, none⟩), unV p a n cap true] w fun e w' => e = .returned (.int .i64 0) ∧ Keep noBlock w w' := by
 unfold unV
 rcases hp with rfl | rfl | rfl <;>
 ·go_enter Tryz.func12, Tryz.ntmps12
  go_wp2_with fail
  go_ret
  exact ⟨rfl, (Keep.refl _ w).alloc _⟩
set_option maxHeartbeats 1000000 in
theorem look_first (w : World) (fb : Nat) (a : Option Addr) (cap gb off : Nat) (bs : List Nat) (hB : Bytes w a cap gb off bs) (hl : bs.length ≤ 8) :
    Calls Tryz.prog 12 #[.pointer (some ⟨fb, 0, none⟩), unV 0 a bs.length cap true] w fun e w' => e = .returned (.int .i64 ((if numN bs = 4247762216 ∨ skipB (numN bs) = true then 0 else 11 : Nat) : Int)) ∧ Keep noBlock w w' := by
  unfold unV
  have HN := hid (show ∀ A : Obj, Calls Tryz.prog 20 #[.slice a bs.length cap] (w.alloc A) fun e w' => e = .returned (.int .u64 ((numN bs : Nat) : Int)) ∧ w' = w.alloc A from fun A => number_any8 a cap gb off bs (w.alloc A) (hB.keep ((Keep.refl noBlock w).alloc _) (fun _ h => h)) hl)
  have hN := numN_lt (l := bs) (fun b hb => lt_mem hB.lt b hb)
  have hN2 : numN bs < 18446744073709551616 := Nat.lt_of_lt_of_le hN (Nat.pow_le_pow_right (n := 256) (j := 8) (by omega) hl)
  clear hN hB
  generalize bs.length = n at *
  generalize numN bs = N at *
  have HS := hid (show ∀ W, Calls Tryz.prog 19 #[.int .u64 (N : Int)] W fun e w' => e = .returned (.bool (skipB N)) ∧ w' = W from fun W => skip_any N hN2 W)
  by_cases h1 : N = 4247762216
  · subst h1
    rw [if_pos (.inl rfl)]
    go_enter Tryz.func12, Tryz.ntmps12
    go_wp2_with fail
    refine (HN.out _).mono ?_
    rintro e w' ⟨rfl, rfl⟩
    go_wp2_with fail
    go_ret
    exact ⟨rfl, (Keep.refl _ w).alloc _⟩
  · have h1b : ((N : Int) == 4247762216) = false := by simp; omega
    have h1d : decide (N = 4247762216) = false := decide_eq_false h1
    cases hs : skipB N with
    | true =>
      rw [hs] at HS
      rw [if_pos (.inr rfl)]
      go_enter Tryz.func12, Tryz.ntmps12
      go_wp2_with fail
      refine (HN.out _).mono ?_
      rintro e w' ⟨rfl, rfl⟩
      go_wp2_with fail
      refine (HS.out _).mono ?_
      rintro e w' ⟨rfl, rfl⟩
      go_wp2_with fail
      go_ret
      exact ⟨rfl, (Keep.refl _ w).alloc _⟩
    | false =>
      rw [hs] at HS
      rw [if_neg (by simp [h1])]
      go_enter Tryz.func12, Tryz.ntmps12
      go_wp2_with fail
      refine (HN.out _).mono ?_
      rintro e w' ⟨rfl, rfl⟩
      go_wp2_with fail
      refine (HS.out _).mono ?_
      rintro e w' ⟨rfl, rfl⟩
      go_wp2_with fail
      go_ret
      exact ⟨rfl, (Keep.refl _ w).alloc _⟩
set_option maxHeartbeats 1000000 in
theorem look_flags (h : FrAt w fb win dic siz told x0 x1 x2 ws r0 r1 r2 fl last kind bsz out bud) (a : Option Addr) (cap gb off : Nat) (bs : List Nat) (hB : Bytes w a cap gb off bs) (hl : bs.length = 1) :
    Calls Tryz.prog 12 #[.pointer (some ⟨fb, 0, none⟩), unV 3 a bs.length cap true] w fun e w' => e = .returned (.int .i64 ((if flagB (bs[0]?.getD 0) 3 then 11 else 0 : Nat) : Int)) ∧ FrAt w' fb win dic siz told x0 x1 x2 ws r0 r1 r2 (bs[0]?.getD 0) last kind bsz out bud ∧ Keep (fun k => k = fb) w w' := by
  unfold unV
  obtain rfl := hB.at_.resolve_right (fun e => by rw [e] at hl; simp at hl)
  have hc := hB.cells 0 (by omega)
  have hlt := hB.lt 0
  rw [hl]
  generalize bs[0]?.getD 0 = x at *
  obtain ⟨W0, hW0⟩ : ∃ W0, W0 = w.alloc (.cells #[.int .i64 3, .slice (some ⟨gb, off, none⟩) 1 cap, .bool true] 50) := ⟨_, rfl⟩
  have k0 : Keep noBlock w W0 := by rw [hW0]; exact (Keep.refl _ w).alloc _
  have hf := h.keep k0 (fun h => h)
  have c0 : W0.cell? ⟨gb, off, none⟩ = some (.int .u8 (x : Int)) := keep_cellS k0 (fun h => h) hc
  have c11 : W0.cell? ⟨fb, 11, none⟩ = some (.int .u8 (fl : Int)) := cell_of hf 11
  have f11 : W0.frozen? ⟨fb, 11, none⟩ = false := frozen_of hf 11
  have HF := (show Hid (FrAt (W0.setCell ⟨fb, 11, none⟩ (.int .u8 (x : Int))) fb win dic siz told x0 x1 x2 ws r0 r1 r2 x last kind bsz out bud ∧ Keep (fun k => k = fb) w (W0.setCell ⟨fb, 11, none⟩ (.int .u8 (x : Int)))) from
    ⟨set_obj hf 11 _, (k0.mono (T := fun k => k = fb) (fun _ _ h => h.elim)).setCell (p := ⟨fb, 11, none⟩) (fun _ => rfl) _⟩)
  have HR := hid (show ∀ W, Calls Tryz.prog 23 #[.int .u8 (x : Int)] W fun e w' => e = .returned (.bool (flagB x 3)) ∧ w' = W from fun W => reserved_any x hlt W)
  have b0 : W0.cell? ⟨w.heap.size, 0, none⟩ = some (.int .i64 3) := by rw [hW0]; exact cell_of (alloc_new w _) 0
  have b1 : W0.cell? ⟨w.heap.size, 1, none⟩ = some (.slice (some ⟨gb, off, none⟩) 1 cap) := by rw [hW0]; exact cell_of (alloc_new w _) 1
  have b2 : W0.cell? ⟨w.heap.size, 2, none⟩ = some (.bool true) := by rw [hW0]; exact cell_of (alloc_new w _) 2
  clear h hf k0 hB hc
  cases hr : flagB x 3 with
  | true =>
    rw [hr] at HR
    go_enter Tryz.func12, Tryz.ntmps12
    go_wp2_with (rw [← hW0]; clear hW0)
    refine (HR.out _).mono ?_
    rintro e w' ⟨rfl, rfl⟩
    go_wp2_with fail
    go_ret
    exact ⟨rfl, HF.out⟩
  | false =>
    rw [hr] at HR
    go_enter Tryz.func12, Tryz.ntmps12
    go_wp2_with (rw [← hW0]; clear hW0)
    refine (HR.out _).mono ?_
    rintro e w' ⟨rfl, rfl⟩
    go_wp2_with fail
    go_ret
    exact ⟨rfl, HF.out⟩
end
end Go.Proofs.YtnjilcokkhodmaaGreatDoor

namespace Go.Proofs.YtnjilcokkhodmaaGreatDoor
open Go.RowKit Go.Shelf
set_option linter.unusedVariables false

theorem winOf_lt (v : Nat) (hv : v < 256) : winOf v < 18446744073709551616 := by
 have h1 : 2 ^ (10 + v / 8) ≤ 2199023255552 := Nat.pow_le_pow_right (n := 2) (j := 41) (by omega) (by omega)
 unfold winOf
 generalize 2 ^ (10 + v / 8) = P at *
 have : P / 8 * (v % 8) ≤ P / 8 * 7 := Nat.mul_le_mul_left _ (by omega)
 omega
theorem hdWin_lt {d : Nat} {bs : List Nat} (hb : ∀ j : Nat, bs[j]?.getD 0 < 256) (hl : bs.length = hdLen d) : hdWin d bs < 18446744073709551616 := by
 have h1 := (hdSiz_lt hb hl).1
 unfold hdWin
 split
 ·omega
 ·exact winOf_lt _ (hb 0)
/-- The unit's box. -/
structure Bx (w W : World) (ub p : Nat) (a : Option Addr) (n cap : Nat) : Prop where
 o : W.heap[ub]? = some (.cells #[.int .i64 (p : Int), .slice a n cap, .bool true] 50 (0, 0))
 k : Keep noBlock w W
 e : ub = w.heap.size
theorem bx (w : World) (p : Nat) (a : Option Addr) (n cap : Nat) : Bx w (w.alloc (.cells #[.int .i64 (p : Int), .slice a n cap, .bool true] 50)) w.heap.size p a n cap := ⟨alloc_new w _, (Keep.refl _ w).alloc _, rfl⟩
section
variable {w : World} {fb win dic siz : Nat} {told : Bool} {x0 x1 x2 ws : Value} {r0 r1 r2 : Int} {fl : Nat} {last : Bool} {kind bsz : Nat} {out : Value} {bud : Nat}
set_option maxRecDepth 100000 in
set_option maxHeartbeats 4000000 in
theorem look_head (h : FrAt w fb win dic siz told x0 x1 x2 ws r0 r1 r2 fl last kind bsz out bud) (a : Option Addr) (cap gb off : Nat) (bs : List Nat) (hB : Bytes w a cap gb off bs) (hfl : fl < 256) (hl : bs.length = hdLen fl) (hb : bud ≤ 16777216) :
  Calls Tryz.prog 12 #[.pointer (some ⟨fb, 0, none⟩), unV 4 a bs.length cap true] w fun e w' => e = .returned (.int .i64 ((if hdDic fl bs ≠ 0 then 12 else if bud < hdWin fl bs then 40 else 0 : Nat) : Int)) ∧ FrAt w' fb (hdWin fl bs) (hdDic fl bs) (hdSiz fl bs) (hdTold fl bs) x0 x1 x2 ws r0 r1 r2 fl last kind bsz out bud ∧ Keep (fun k => k = fb) w w' := by
 unfold unV
 have hbx := bx w 4 a bs.length cap
 obtain ⟨W0, hW0⟩ : ∃ W0, W0 = w.alloc (.cells #[.int .i64 ((4 : Nat) : Int), .slice a bs.length cap, .bool true] 50) := ⟨_, rfl⟩
 rw [← hW0] at hbx
 obtain ⟨ub, hub⟩ : ∃ ub, ub = w.heap.size := ⟨_, rfl⟩
 rw [← hub] at hbx
 have hf := h.keep hbx.k (fun h => h)
 have b0 : W0.cell? ⟨ub, 0, none⟩ = some (.int .i64 4) := cell_of hbx.o 0
 have b2 : W0.cell? ⟨ub, 2, none⟩ = some (.bool true) := cell_of hbx.o 2
 have HS := (show Hid (W0.drew.cell? ⟨ub, 1, none⟩ = some (.slice a bs.length cap) ∧ W0.drew.cell? ⟨fb, 11, none⟩ = some (.int .u8 (fl : Int))) from ⟨cell_of hbx.o 1, cell_of hf 11⟩)
 have HC := (show Hid (Calls Tryz.prog 24 #[.int .u8 (fl : Int), .slice a bs.length cap] W0.drew fun e w' => e = .returned (.agg #[.int .u64 ((hdWin fl bs : Nat) : Int), .int .u64 ((hdDic fl bs : Nat) : Int), .int .u64 ((hdSiz fl bs : Nat) : Int), .bool (hdTold fl bs)]) ∧ Keep noBlock W0.drew w') from
  headOf_any fl hfl a cap gb off bs W0.drew (hB.keep hbx.k.drew (fun _ h => h)) hl)
 have HD := (show Hid (hdWin fl bs < 18446744073709551616 ∧ hdDic fl bs < 18446744073709551616) from ⟨hdWin_lt hB.lt hl, by have := (hdSiz_lt hB.lt hl).2.1; omega⟩)
 have HB := hid (And.intro hbx hf)
 clear h hbx hf hB hfl hl
 generalize bs.length = n at *
 generalize hdWin fl bs = Wn at *
 generalize hdDic fl bs = D at *
 generalize hdSiz fl bs = Z at *
 generalize hdTold fl bs = T at *
 obtain ⟨E, hE⟩ : ∃ E : Nat, E = if D ≠ 0 then 12 else if bud < Wn then 40 else 0 := ⟨_, rfl⟩
 rw [← hE]
 have HE := hid hE
 clear hE
 go_enter Tryz.func12, Tryz.ntmps12
 rw [show ((4 : Nat) : Int) = 4 from rfl] at hW0
 go_wp2_with (rw [← hW0, ← hub]; clear hW0 hub)
 refine region_last (fun W => W.cell? ⟨ub, 1, none⟩ = some (.slice a n cap) ∧ W.cell? ⟨fb, 11, none⟩ = some (.int .u8 (fl : Int))) 10 mx HS.out (fun hS => ?_)
 refine tk (i := 0) (v := ?_) rfl (by kernel_rfl) (fun _ _ _ h => h) (by rfl) ?_ (by assumption) ?_
 rotate_left 1
 ·intro w hSw; (try dsimp only at hSw); (try obtain ⟨hSw1, hSw2⟩ := hSw); (go_simp <;> with_reducible rfl)
 simp only [Act.put, tA, tB, tD, tE, tF]
 refine tk (i := 1) (v := ?_) rfl (by kernel_rfl) (fun _ _ _ h => h) (by rfl) ?_ (by assumption) ?_
 rotate_left 1
 ·intro w hSw; (try dsimp only at hSw); (try obtain ⟨hSw1, hSw2⟩ := hSw); (go_simp <;> with_reducible rfl)
 simp only [Act.put, tA, tB, tC, tD, tE, tF]
 refine tk (i := 2) (v := ?_) rfl (by kernel_rfl) (fun _ _ _ h => h) (by rfl) ?_ (by assumption) ?_
 rotate_left 1
 ·intro w hSw; (try dsimp only at hSw); (try obtain ⟨hSw1, hSw2⟩ := hSw); (go_simp <;> with_reducible rfl)
 simp only [Act.put, tA, tB, tC, tD, tE, tF]
 refine tk (i := 3) (v := ?_) rfl (by kernel_rfl) (fun _ _ _ h => h) (by rfl) ?_ (by assumption) ?_
 rotate_left 1
 ·intro w hSw; (try dsimp only at hSw); (try obtain ⟨hSw1, hSw2⟩ := hSw); (go_simp <;> with_reducible rfl)
 simp only [Act.put, tA, tB, tC, tD, tE, tF]
 refine tk (i := 4) (v := ?_) rfl (by kernel_rfl) (fun _ _ _ h => h) (by rfl) ?_ (by assumption) ?_
 rotate_left 1
 ·intro w hSw; (try dsimp only at hSw); (try obtain ⟨hSw1, hSw2⟩ := hSw); (go_simp <;> with_reducible rfl)
 simp only [Act.put, tA, tB, tC, tD, tE, tF]
 refine tk (i := 5) (v := ?_) rfl (by kernel_rfl) (fun _ _ _ h => h) (by rfl) ?_ (by assumption) ?_
 rotate_left 1
 ·intro w hSw; (try dsimp only at hSw); (try obtain ⟨hSw1, hSw2⟩ := hSw); (go_simp <;> with_reducible rfl)
 simp only [Act.put, tA, tB, tC, tD, tE, tF]
 refine tk (i := 6) (v := ?_) rfl (by kernel_rfl) (fun _ _ _ h => h) (by rfl) ?_ (by assumption) ?_
 rotate_left 1
 ·intro w hSw; (try dsimp only at hSw); (try obtain ⟨hSw1, hSw2⟩ := hSw); (go_simp <;> with_reducible rfl)
 simp only [Act.put, tA, tB, tC, tD, tE, tF]
 refine last_one (j := 7) (by kernel_rfl) rfl (fun K hK => ?_)
 rw [if_pos (by rfl)]
 simp only [tA, tB, tC]
 go_simp
 refine HC.out.mono ?_
 rintro e w1 ⟨rfl, k1⟩
 have HQ := (show Hid (w1.cell? ⟨ub, 1, none⟩ = some (.slice a n cap) ∧ w1.cell? ⟨fb, 11, none⟩ = some (.int .u8 (fl : Int)) ∧ FrAt w1 fb win dic siz told x0 x1 x2 ws r0 r1 r2 fl last kind bsz out bud ∧ Keep noBlock W0 w1) from
  ⟨keep_cellA k1 HS.out.1, keep_cellA k1 HS.out.2, HB.out.2.keep ((Keep.refl noBlock W0).drew.trans' k1) (fun h => h), (Keep.refl noBlock W0).drew.trans' k1⟩)
 clear k1
 refine hK.out _ _ (fun _ => ⟨HQ.out.1, HQ.out.2.1⟩) ?_
 clear hK K
 refine last_one (j := 8) (by kernel_rfl) rfl (fun K hK => ?_)
 rw [if_pos (by rfl)]
 simp only [tA, tB, tC]
 go_simp
 refine hK.out _ _ (fun _ => ⟨HQ.out.1, HQ.out.2.1⟩) ?_
 clear hK K
 refine last_one (j := 9) (by kernel_rfl) rfl (fun K hK => ?_)
 rw [if_pos (by rfl)]
 simp only [tA, tB, tC]
 go_simp
 refine hK.out _ _ (fun _ => ⟨HQ.out.1, HQ.out.2.1⟩) ?_
 clear hK K
 have HST := (show Hid (w1.there fb 0 (#[.int .u64 (Wn : Int), .int .u64 (D : Int), .int .u64 (Z : Int), .bool T] : Array Value).size ∧ (Tryz.prog.info? 35).map (·.size) = some (#[.int .u64 (Wn : Int), .int .u64 (D : Int), .int .u64 (Z : Int), .bool T] : Array Value).size ∧ (#[.int .u64 (Wn : Int), .int .u64 (D : Int), .int .u64 (Z : Int), .bool T] : Array Value).all (·.oneCell') = true) from
  ⟨fun j hj => ⟨by have hj4 : j < 4 := hj; rw [cell_of HQ.out.2.2.1, Array.getElem?_eq_getElem (by show 0 + j < 17; omega)]; rfl, frozen_of HQ.out.2.2.1 _⟩, info35s, all_oneCell_toArray (fun v hv => by simp only [List.mem_cons, List.not_mem_nil, or_false] at hv; rcases hv with rfl | rfl | rfl | rfl <;> rfl)⟩)
 refine last_one (j := 10) (by kernel_rfl) rfl (fun K hK => ?_)
 rw [if_pos (by rfl)]
 refine wp_store_mid 35 (.tmp 49) (.tmp 47) rfl fb 0 #[.int .u64 (Wn : Int), .int .u64 (D : Int), .int .u64 (Z : Int), .bool T] rfl rfl HST.out.1 HST.out.2.1 HST.out.2.2 ?_
 refine hK.out _ _ (fun e => absurd rfl e) ?_
 clear hK K
 refine last_done (by kernel_rfl) ?_ _
 have k8 : Keep (fun k => k = fb) w1 (w1.setCells fb 0 [.int .u64 (Wn : Int), .int .u64 (D : Int), .int .u64 (Z : Int), .bool T]) := keep_setCells (S := fun k => k = fb) fb (fun _ => rfl) _ _ _ (Keep.refl _ w1)
 have o8 : FrAt (w1.setCells fb 0 [.int .u64 (Wn : Int), .int .u64 (D : Int), .int .u64 (Z : Int), .bool T]) fb Wn D Z T x0 x1 x2 ws r0 r1 r2 fl last kind bsz out bud := setCells_obj fb 44 [.int .u64 (Wn : Int), .int .u64 (D : Int), .int .u64 (Z : Int), .bool T] 0 _ w1 HQ.out.2.2.1
 have HO8 := hid (And.intro o8 (((HB.out.1.k.trans' HQ.out.2.2.2).mono (T := fun k => k = fb) (fun _ _ h => h.elim)).trans' k8))
 have HJ := hid (judgeHead_any o8 HD.out.1 HD.out.2 hb)
 rw [← HE.out] at HJ
 clear k8 o8 HST
 generalize w1.setCells fb 0 [.int .u64 (Wn : Int), .int .u64 (D : Int), .int .u64 (Z : Int), .bool T] = w2 at *
 go_wp2_with fail
 refine HJ.out.mono ?_
 rintro e w3 ⟨rfl, k3⟩
 have HK3 := hid k3
 clear k3
 go_wp2_with fail
 go_ret
 exact ⟨rfl, HO8.out.1.keep HK3.out (fun h => h), HO8.out.2.trans' (HK3.out.mono (fun _ _ h => h.elim))⟩
set_option maxRecDepth 100000 in
set_option maxHeartbeats 4000000 in
theorem look_block (h : FrAt w fb win dic siz told x0 x1 x2 ws r0 r1 r2 fl last kind bsz out bud) (hw : win < 18446744073709551616) (a : Option Addr) (cap gb off : Nat) (bs : List Nat) (hB : Bytes w a cap gb off bs) (hl : bs.length = 3) :
  Calls Tryz.prog 12 #[.pointer (some ⟨fb, 0, none⟩), unV 5 a bs.length cap true] w fun e w' => e = .returned (.int .i64 ((if blKind (numN bs) ≠ 3 ∧ blSize (numN bs) ≤ min win 131072 then 0 else 11 : Nat) : Int)) ∧ FrAt w' fb win dic siz told x0 x1 x2 ws r0 r1 r2 fl (blLast (numN bs)) (blKind (numN bs)) (blSize (numN bs)) out bud ∧ Keep (fun k => k = fb) w w' := by
 unfold unV
 have hbx := bx w 5 a bs.length cap
 obtain ⟨W0, hW0⟩ : ∃ W0, W0 = w.alloc (.cells #[.int .i64 ((5 : Nat) : Int), .slice a bs.length cap, .bool true] 50) := ⟨_, rfl⟩
 rw [← hW0] at hbx
 obtain ⟨ub, hub⟩ : ∃ ub, ub = w.heap.size := ⟨_, rfl⟩
 rw [← hub] at hbx
 have hf := h.keep hbx.k (fun h => h)
 have b0 : W0.cell? ⟨ub, 0, none⟩ = some (.int .i64 5) := cell_of hbx.o 0
 have b1 : W0.cell? ⟨ub, 1, none⟩ = some (.slice a bs.length cap) := cell_of hbx.o 1
 have b2 : W0.cell? ⟨ub, 2, none⟩ = some (.bool true) := cell_of hbx.o 2
 have HC := (show Hid (Calls Tryz.prog 26 #[.slice a bs.length cap] W0 fun e w' => e = .returned (.agg #[.bool (blLast (numN bs)), .int .i64 ((blKind (numN bs) : Nat) : Int), .int .i64 ((blSize (numN bs) : Nat) : Int)]) ∧ Keep noBlock W0 w') from
  blockOf_any a cap gb off bs W0 (hB.keep hbx.k (fun _ h => h)) hl)
 have HB := hid (And.intro hbx hf)
 have hN : numN bs < 16777216 := by
  have := numN_lt (l := bs) (fun b hb => lt_mem hB.lt b hb)
  rw [hl] at this
  omega
 have hs : (blSize (numN bs) : Int) < 2097152 := by unfold blSize; omega
 have hk4 : blKind (numN bs) < 4 := by unfold blKind; omega
 clear h hbx hf hB hl hN
 generalize bs.length = n at *
 generalize blLast (numN bs) = L at *
 generalize blKind (numN bs) = k at *
 generalize blSize (numN bs) = s at *
 obtain ⟨m, hm⟩ : ∃ m, m = min win 131072 := ⟨_, rfl⟩
 have hmb : (m : Int) ≤ 131072 := by omega
 rw [← hm]
 have HM := (show Hid (∀ {W : World} {fl : Nat} {last : Bool} {kind bsz : Nat}, FrAt W fb win dic siz told x0 x1 x2 ws r0 r1 r2 fl last kind bsz out bud → Calls Tryz.prog 27 #[.pointer (some ⟨fb, 0, none⟩)] W fun e w' => e = .returned (.int .i64 (m : Int)) ∧ w' = W) from fun h => by rw [hm]; exact most_any h hw)
 clear hm
 obtain ⟨E, hE⟩ : ∃ E : Nat, E = if k ≠ 3 ∧ s ≤ m then 0 else 11 := ⟨_, rfl⟩
 rw [← hE]
 have HE := hid hE
 clear hE
 go_enter Tryz.func12, Tryz.ntmps12
 rw [show ((5 : Nat) : Int) = 5 from rfl] at hW0
 go_wp2_with (rw [← hW0, ← hub]; clear hW0 hub)
 refine HC.out.mono ?_
 rintro e w1 ⟨rfl, k1⟩
 have HQ := (show Hid (FrAt w1 fb win dic siz told x0 x1 x2 ws r0 r1 r2 fl last kind bsz out bud ∧ Keep noBlock W0 w1) from ⟨HB.out.2.keep k1 (fun h => h), k1⟩)
 clear k1
 have HST := (show Hid (w1.there fb 12 (#[.bool L, .int .i64 (k : Int), .int .i64 (s : Int)] : Array Value).size ∧ (Tryz.prog.info? 42).map (·.size) = some (#[.bool L, .int .i64 (k : Int), .int .i64 (s : Int)] : Array Value).size ∧ (#[.bool L, .int .i64 (k : Int), .int .i64 (s : Int)] : Array Value).all (·.oneCell') = true) from
  ⟨fun j hj => ⟨by have hj4 : j < 3 := hj; rw [cell_of HQ.out.1, Array.getElem?_eq_getElem (by show 12 + j < 17; omega)]; rfl, frozen_of HQ.out.1 _⟩, info42s, all_oneCell_toArray (fun v hv => by simp only [List.mem_cons, List.not_mem_nil, or_false] at hv; rcases hv with rfl | rfl | rfl <;> rfl)⟩)
 go_wp2_with (refine wpList_store_mid rfl 42 (.tmp 59) (.tmp 57) rfl fb 12 #[.bool L, .int .i64 (k : Int), .int .i64 (s : Int)] rfl rfl HST.out.1 HST.out.2.1 HST.out.2.2 ?_)
 have k8 : Keep (fun k => k = fb) w1 (w1.setCells fb 12 [.bool L, .int .i64 (k : Int), .int .i64 (s : Int)]) := keep_setCells (S := fun k => k = fb) fb (fun _ => rfl) _ _ _ (Keep.refl _ w1)
 have o8 : FrAt (w1.setCells fb 12 [.bool L, .int .i64 (k : Int), .int .i64 (s : Int)]) fb win dic siz told x0 x1 x2 ws r0 r1 r2 fl L k s out bud := setCells_obj fb 44 [.bool L, .int .i64 (k : Int), .int .i64 (s : Int)] 12 _ w1 HQ.out.1
 have HO8 := hid (And.intro o8 (((HB.out.1.k.trans' HQ.out.2).mono (T := fun k => k = fb) (fun _ _ h => h.elim)).trans' k8))
 clear k8 o8 HST
 generalize w1.setCells fb 12 [.bool L, .int .i64 (k : Int), .int .i64 (s : Int)] = w2 at *
 have HMM := (show Hid (Calls Tryz.prog 27 #[.pointer (some ⟨fb, 0, none⟩)] w2.drew fun e w' => e = .returned (.int .i64 (m : Int)) ∧ w' = w2.drew) from HM.out (HO8.out.1.keep (Keep.refl noBlock w2).drew (fun h => h)))
 have HSS := (show Hid (w2.drew.cell? ⟨fb, 13, none⟩ = some (.int .i64 (k : Int)) ∧ w2.drew.cell? ⟨fb, 14, none⟩ = some (.int .i64 (s : Int))) from ⟨cell_of HO8.out.1 13, cell_of HO8.out.1 14⟩)
 have HFin := (show Hid (FrAt w2.drew fb win dic siz told x0 x1 x2 ws r0 r1 r2 fl L k s out bud ∧ Keep (fun k => k = fb) w w2.drew) from ⟨HO8.out.1.keep (Keep.refl noBlock w2).drew (fun h => h), HO8.out.2.drew⟩)
 clear HO8 HM HQ HC
 by_cases h3 : k = 3
 ·subst h3
  obtain rfl : E = 11 := by rw [HE.out, if_neg (by simp)]
  refine region_last (fun W => W.cell? ⟨fb, 13, none⟩ = some (.int .i64 ((3 : Nat) : Int)) ∧ W.cell? ⟨fb, 14, none⟩ = some (.int .i64 (s : Int))) 16 mx HSS.out (fun hS => ?_)
  refine tk (i := 0) (v := ?_) rfl (by kernel_rfl) (fun _ _ _ h => h) (by rfl) ?_ (by assumption) ?_
  rotate_left 1
  ·intro w hSw; (try dsimp only at hSw); (try obtain ⟨hSw1, hSw2⟩ := hSw); (go_simp <;> with_reducible rfl)
  simp only [Act.put, tA, tB, tD, tE, tF]
  refine tk (i := 1) (v := ?_) rfl (by kernel_rfl) (fun _ _ _ h => h) (by rfl) ?_ (by assumption) ?_
  rotate_left 1
  ·intro w hSw; (try dsimp only at hSw); (try obtain ⟨hSw1, hSw2⟩ := hSw); (go_simp <;> with_reducible rfl)
  simp only [Act.put, tA, tB, tC, tD, tE, tF]
  refine tk (i := 2) (v := ?_) rfl (by kernel_rfl) (fun _ _ _ h => h) (by rfl) ?_ (by assumption) ?_
  rotate_left 1
  ·intro w hSw; (try dsimp only at hSw); (try obtain ⟨hSw1, hSw2⟩ := hSw); (go_simp <;> with_reducible rfl)
  simp only [Act.put, tA, tB, tC, tD, tE, tF]
  refine tk (i := 3) (v := ?_) rfl (by kernel_rfl) (fun _ _ _ h => h) (by rfl) ?_ (by assumption) ?_
  rotate_left 1
  ·intro w hSw; (try dsimp only at hSw); (try obtain ⟨hSw1, hSw2⟩ := hSw); (go_simp <;> with_reducible rfl)
  simp only [Act.put, tA, tB, tC, tD, tE, tF]
  refine tk (i := 4) (v := ?_) rfl (by kernel_rfl) (fun _ _ _ h => h) (by rfl) ?_ (by assumption) ?_
  rotate_left 1
  ·intro w hSw; (try dsimp only at hSw); (try obtain ⟨hSw1, hSw2⟩ := hSw); (go_simp <;> with_reducible rfl)
  simp only [Act.put, tA, tB, tC, tD, tE, tF]
  refine tk (i := 5) (v := ?_) rfl (by kernel_rfl) (fun _ _ _ h => h) (by rfl) ?_ (by assumption) ?_
  rotate_left 1
  ·intro w hSw; (try dsimp only at hSw); (try obtain ⟨hSw1, hSw2⟩ := hSw); (go_simp <;> with_reducible rfl)
  simp only [Act.put, tA, tB, tC, tD, tE, tF]
  refine tk (i := 6) (v := ?_) rfl (by kernel_rfl) (fun _ _ _ h => h) (by rfl) ?_ (by assumption) ?_
  rotate_left 1
  ·intro w hSw; (try dsimp only at hSw); (try obtain ⟨hSw1, hSw2⟩ := hSw); (go_simp <;> with_reducible rfl)
  simp only [Act.put, tA, tB, tC, tD, tE, tF]
  refine last_take (i := 7) (v := undef) rfl (by kernel_rfl) (by kernel_rfl) (by kernel_rfl) (by kernel_rfl) (fun _ _ _ h => h) (Or.inr ⟨by rfl, rfl⟩) (by assumption) ?_
  simp only [Act.put, tA, tB, tC, tD, tE, tF]
  refine last_take (i := 8) (v := undef) rfl (by kernel_rfl) (by kernel_rfl) (by kernel_rfl) (by kernel_rfl) (fun _ _ _ h => h) (Or.inr ⟨by rfl, rfl⟩) (by assumption) ?_
  simp only [Act.put, tA, tB, tC, tD, tE, tF]
  refine last_take (i := 9) (v := undef) rfl (by kernel_rfl) (by kernel_rfl) (by kernel_rfl) (by kernel_rfl) (fun _ _ _ h => h) (Or.inr ⟨by rfl, rfl⟩) (by assumption) ?_
  simp only [Act.put, tA, tB, tC, tD, tE, tF]
  refine last_take (i := 10) (v := undef) rfl (by kernel_rfl) (by kernel_rfl) (by kernel_rfl) (by kernel_rfl) (fun _ _ _ h => h) (Or.inr ⟨by rfl, rfl⟩) (by assumption) ?_
  simp only [Act.put, tA, tB, tC, tD, tE, tF]
  refine last_take (i := 11) (v := undef) rfl (by kernel_rfl) (by kernel_rfl) (by kernel_rfl) (by kernel_rfl) (fun _ _ _ h => h) (Or.inr ⟨by rfl, rfl⟩) (by assumption) ?_
  simp only [Act.put, tA, tB, tC, tD, tE, tF]
  refine last_take (i := 12) (v := undef) rfl (by kernel_rfl) (by kernel_rfl) (by kernel_rfl) (by kernel_rfl) (fun _ _ _ h => h) (Or.inr ⟨by rfl, rfl⟩) (by assumption) ?_
  simp only [Act.put, tA, tB, tC, tD, tE, tF]
  refine last_take (i := 13) (v := undef) rfl (by kernel_rfl) (by kernel_rfl) (by kernel_rfl) (by kernel_rfl) (fun _ _ _ h => h) (Or.inr ⟨by rfl, rfl⟩) (by assumption) ?_
  simp only [Act.put, tA, tB, tC, tD, tE, tF]
  refine last_take (i := 14) (v := undef) rfl (by kernel_rfl) (by kernel_rfl) (by kernel_rfl) (by kernel_rfl) (fun _ _ _ h => h) (Or.inr ⟨by rfl, rfl⟩) (by assumption) ?_
  simp only [Act.put, tA, tB, tC, tD, tE, tF]
  refine tk (i := 15) (v := ?_) rfl (by kernel_rfl) (fun _ _ _ h => h) (by rfl) ?_ (by assumption) ?_
  rotate_left 1
  ·intro w hSw; (try dsimp only at hSw); (try obtain ⟨hSw1, hSw2⟩ := hSw); (go_simp <;> with_reducible rfl)
  simp only [Act.put, tA, tB, tC, tD, tE, tF]
  refine last_one (j := 16) (by kernel_rfl) rfl (fun K hK => ?_)
  rw [if_pos (by rfl)]
  simp only [tA, tB, tC]
  go_simp
  refine hK.out _ _ (fun e => absurd rfl e) ?_
  clear hK K
  refine last_done (by kernel_rfl) ?_ _
  go_wp2_with fail
  go_ret
  exact ⟨rfl, HFin.out⟩
 ·have h3b : ((k : Int) != 3) = true := by simp; omega
  have h3d : decide (k = 3) = false := decide_eq_false h3
  by_cases hsm : s ≤ m
  ·have hsI : (s : Int) ≤ (m : Int) := by omega
   have hsd : decide (s ≤ m) = true := decide_eq_true hsm
   obtain rfl : E = 0 := by rw [HE.out, if_pos ⟨h3, hsm⟩]
   refine region_last (fun W => W.cell? ⟨fb, 13, none⟩ = some (.int .i64 (k : Int)) ∧ W.cell? ⟨fb, 14, none⟩ = some (.int .i64 (s : Int))) 16 mx HSS.out (fun hS => ?_)
   refine tk (i := 0) (v := ?_) rfl (by kernel_rfl) (fun _ _ _ h => h) (by rfl) ?_ (by assumption) ?_
   rotate_left 1
   ·intro w hSw; (try dsimp only at hSw); (try obtain ⟨hSw1, hSw2⟩ := hSw); (go_simp <;> with_reducible rfl)
   simp only [Act.put, tA, tB, tD, tE, tF]
   refine tk (i := 1) (v := ?_) rfl (by kernel_rfl) (fun _ _ _ h => h) (by rfl) ?_ (by assumption) ?_
   rotate_left 1
   ·intro w hSw; (try dsimp only at hSw); (try obtain ⟨hSw1, hSw2⟩ := hSw); (go_simp <;> with_reducible rfl)
   simp only [Act.put, tA, tB, tC, tD, tE, tF]
   refine tk (i := 2) (v := ?_) rfl (by kernel_rfl) (fun _ _ _ h => h) (by rfl) ?_ (by assumption) ?_
   rotate_left 1
   ·intro w hSw; (try dsimp only at hSw); (try obtain ⟨hSw1, hSw2⟩ := hSw); (go_simp <;> with_reducible rfl)
   simp only [Act.put, tA, tB, tC, tD, tE, tF]
   refine tk (i := 3) (v := ?_) rfl (by kernel_rfl) (fun _ _ _ h => h) (by rfl) ?_ (by assumption) ?_
   rotate_left 1
   ·intro w hSw; (try dsimp only at hSw); (try obtain ⟨hSw1, hSw2⟩ := hSw); (go_simp <;> with_reducible rfl)
   simp only [Act.put, tA, tB, tC, tD, tE, tF]
   refine tk (i := 4) (v := ?_) rfl (by kernel_rfl) (fun _ _ _ h => h) (by rfl) ?_ (by assumption) ?_
   rotate_left 1
   ·intro w hSw; (try dsimp only at hSw); (try obtain ⟨hSw1, hSw2⟩ := hSw); (go_simp <;> with_reducible rfl)
   simp only [Act.put, tA, tB, tC, tD, tE, tF]
   refine tk (i := 5) (v := ?_) rfl (by kernel_rfl) (fun _ _ _ h => h) (by rfl) ?_ (by assumption) ?_
   rotate_left 1
   ·intro w hSw; (try dsimp only at hSw); (try obtain ⟨hSw1, hSw2⟩ := hSw); (go_simp <;> with_reducible rfl)
   simp only [Act.put, tA, tB, tC, tD, tE, tF]
   refine tk (i := 6) (v := ?_) rfl (by kernel_rfl) (fun _ _ _ h => h) (by rfl) ?_ (by assumption) ?_
   rotate_left 1
   ·intro w hSw; (try dsimp only at hSw); (try obtain ⟨hSw1, hSw2⟩ := hSw); (go_simp <;> with_reducible rfl)
   simp only [Act.put, tA, tB, tC, tD, tE, tF]
   refine tk (i := 7) (v := ?_) rfl (by kernel_rfl) (fun _ _ _ h => h) (by rfl) ?_ (by assumption) ?_
   rotate_left 1
   ·intro w hSw; (try dsimp only at hSw); (try obtain ⟨hSw1, hSw2⟩ := hSw); (go_simp <;> with_reducible rfl)
   simp only [Act.put, tA, tB, tC, tD, tE, tF]
   refine tk (i := 8) (v := ?_) rfl (by kernel_rfl) (fun _ _ _ h => h) (by rfl) ?_ (by assumption) ?_
   rotate_left 1
   ·intro w hSw; (try dsimp only at hSw); (try obtain ⟨hSw1, hSw2⟩ := hSw); (go_simp <;> with_reducible rfl)
   simp only [Act.put, tA, tB, tC, tD, tE, tF]
   refine tk (i := 9) (v := ?_) rfl (by kernel_rfl) (fun _ _ _ h => h) (by rfl) ?_ (by assumption) ?_
   rotate_left 1
   ·intro w hSw; (try dsimp only at hSw); (try obtain ⟨hSw1, hSw2⟩ := hSw); (go_simp <;> with_reducible rfl)
   simp only [Act.put, tA, tB, tC, tD, tE, tF]
   refine tk (i := 10) (v := ?_) rfl (by kernel_rfl) (fun _ _ _ h => h) (by rfl) ?_ (by assumption) ?_
   rotate_left 1
   ·intro w hSw; (try dsimp only at hSw); (try obtain ⟨hSw1, hSw2⟩ := hSw); (go_simp <;> with_reducible rfl)
   simp only [Act.put, tA, tB, tC, tD, tE, tF]
   refine tk (i := 11) (v := ?_) rfl (by kernel_rfl) (fun _ _ _ h => h) (by rfl) ?_ (by assumption) ?_
   rotate_left 1
   ·intro w hSw; (try dsimp only at hSw); (try obtain ⟨hSw1, hSw2⟩ := hSw); (go_simp <;> with_reducible rfl)
   simp only [Act.put, tA, tB, tC, tD, tE, tF]
   refine tk (i := 12) (v := ?_) rfl (by kernel_rfl) (fun _ _ _ h => h) (by rfl) ?_ (by assumption) ?_
   rotate_left 1
   ·intro w hSw; (try dsimp only at hSw); (try obtain ⟨hSw1, hSw2⟩ := hSw); (go_simp <;> with_reducible rfl)
   simp only [Act.put, tA, tB, tC, tD, tE, tF]
   refine last_one (j := 13) (by kernel_rfl) rfl (fun K hK => ?_)
   rw [if_pos (by rfl)]
   simp only [tA, tB, tC]
   go_simp
   refine HMM.out.mono ?_
   rintro e w1 ⟨rfl, rfl⟩
   refine hK.out _ _ (fun _ => HSS.out) ?_
   clear hK K
   refine last_one (j := 14) (by kernel_rfl) rfl (fun K hK => ?_)
   rw [if_pos (by rfl)]
   simp only [tA, tB, tC]
   go_simp
   refine hK.out _ _ (fun _ => HSS.out) ?_
   clear hK K
   refine last_one (j := 15) (by kernel_rfl) rfl (fun K hK => ?_)
   rw [if_pos (by rfl)]
   simp only [tA, tB, tC]
   go_simp
   refine hK.out _ _ (fun _ => HSS.out) ?_
   clear hK K
   refine last_one (j := 16) (by kernel_rfl) rfl (fun K hK => ?_)
   rw [if_pos (by rfl)]
   simp only [tA, tB, tC]
   go_simp
   refine hK.out _ _ (fun e => absurd rfl e) ?_
   clear hK K
   refine last_done (by kernel_rfl) ?_ _
   go_wp2_with fail
   go_ret
   exact ⟨rfl, HFin.out⟩
  ·have hsI : ¬ (s : Int) ≤ (m : Int) := by omega
   have hsd : decide (s ≤ m) = false := decide_eq_false hsm
   obtain rfl : E = 11 := by rw [HE.out, if_neg (by omega)]
   refine region_last (fun W => W.cell? ⟨fb, 13, none⟩ = some (.int .i64 (k : Int)) ∧ W.cell? ⟨fb, 14, none⟩ = some (.int .i64 (s : Int))) 16 mx HSS.out (fun hS => ?_)
   refine tk (i := 0) (v := ?_) rfl (by kernel_rfl) (fun _ _ _ h => h) (by rfl) ?_ (by assumption) ?_
   rotate_left 1
   ·intro w hSw; (try dsimp only at hSw); (try obtain ⟨hSw1, hSw2⟩ := hSw); (go_simp <;> with_reducible rfl)
   simp only [Act.put, tA, tB, tD, tE, tF]
   refine tk (i := 1) (v := ?_) rfl (by kernel_rfl) (fun _ _ _ h => h) (by rfl) ?_ (by assumption) ?_
   rotate_left 1
   ·intro w hSw; (try dsimp only at hSw); (try obtain ⟨hSw1, hSw2⟩ := hSw); (go_simp <;> with_reducible rfl)
   simp only [Act.put, tA, tB, tC, tD, tE, tF]
   refine tk (i := 2) (v := ?_) rfl (by kernel_rfl) (fun _ _ _ h => h) (by rfl) ?_ (by assumption) ?_
   rotate_left 1
   ·intro w hSw; (try dsimp only at hSw); (try obtain ⟨hSw1, hSw2⟩ := hSw); (go_simp <;> with_reducible rfl)
   simp only [Act.put, tA, tB, tC, tD, tE, tF]
   refine tk (i := 3) (v := ?_) rfl (by kernel_rfl) (fun _ _ _ h => h) (by rfl) ?_ (by assumption) ?_
   rotate_left 1
   ·intro w hSw; (try dsimp only at hSw); (try obtain ⟨hSw1, hSw2⟩ := hSw); (go_simp <;> with_reducible rfl)
   simp only [Act.put, tA, tB, tC, tD, tE, tF]
   refine tk (i := 4) (v := ?_) rfl (by kernel_rfl) (fun _ _ _ h => h) (by rfl) ?_ (by assumption) ?_
   rotate_left 1
   ·intro w hSw; (try dsimp only at hSw); (try obtain ⟨hSw1, hSw2⟩ := hSw); (go_simp <;> with_reducible rfl)
   simp only [Act.put, tA, tB, tC, tD, tE, tF]
   refine tk (i := 5) (v := ?_) rfl (by kernel_rfl) (fun _ _ _ h => h) (by rfl) ?_ (by assumption) ?_
   rotate_left 1
   ·intro w hSw; (try dsimp only at hSw); (try obtain ⟨hSw1, hSw2⟩ := hSw); (go_simp <;> with_reducible rfl)
   simp only [Act.put, tA, tB, tC, tD, tE, tF]
   refine tk (i := 6) (v := ?_) rfl (by kernel_rfl) (fun _ _ _ h => h) (by rfl) ?_ (by assumption) ?_
   rotate_left 1
   ·intro w hSw; (try dsimp only at hSw); (try obtain ⟨hSw1, hSw2⟩ := hSw); (go_simp <;> with_reducible rfl)
   simp only [Act.put, tA, tB, tC, tD, tE, tF]
   refine tk (i := 7) (v := ?_) rfl (by kernel_rfl) (fun _ _ _ h => h) (by rfl) ?_ (by assumption) ?_
   rotate_left 1
   ·intro w hSw; (try dsimp only at hSw); (try obtain ⟨hSw1, hSw2⟩ := hSw); (go_simp <;> with_reducible rfl)
   simp only [Act.put, tA, tB, tC, tD, tE, tF]
   refine tk (i := 8) (v := ?_) rfl (by kernel_rfl) (fun _ _ _ h => h) (by rfl) ?_ (by assumption) ?_
   rotate_left 1
   ·intro w hSw; (try dsimp only at hSw); (try obtain ⟨hSw1, hSw2⟩ := hSw); (go_simp <;> with_reducible rfl)
   simp only [Act.put, tA, tB, tC, tD, tE, tF]
   refine tk (i := 9) (v := ?_) rfl (by kernel_rfl) (fun _ _ _ h => h) (by rfl) ?_ (by assumption) ?_
   rotate_left 1
   ·intro w hSw; (try dsimp only at hSw); (try obtain ⟨hSw1, hSw2⟩ := hSw); (go_simp <;> with_reducible rfl)
   simp only [Act.put, tA, tB, tC, tD, tE, tF]
   refine tk (i := 10) (v := ?_) rfl (by kernel_rfl) (fun _ _ _ h => h) (by rfl) ?_ (by assumption) ?_
   rotate_left 1
   ·intro w hSw; (try dsimp only at hSw); (try obtain ⟨hSw1, hSw2⟩ := hSw); (go_simp <;> with_reducible rfl)
   simp only [Act.put, tA, tB, tC, tD, tE, tF]
   refine tk (i := 11) (v := ?_) rfl (by kernel_rfl) (fun _ _ _ h => h) (by rfl) ?_ (by assumption) ?_
   rotate_left 1
   ·intro w hSw; (try dsimp only at hSw); (try obtain ⟨hSw1, hSw2⟩ := hSw); (go_simp <;> with_reducible rfl)
   simp only [Act.put, tA, tB, tC, tD, tE, tF]
   refine tk (i := 12) (v := ?_) rfl (by kernel_rfl) (fun _ _ _ h => h) (by rfl) ?_ (by assumption) ?_
   rotate_left 1
   ·intro w hSw; (try dsimp only at hSw); (try obtain ⟨hSw1, hSw2⟩ := hSw); (go_simp <;> with_reducible rfl)
   simp only [Act.put, tA, tB, tC, tD, tE, tF]
   refine last_one (j := 13) (by kernel_rfl) rfl (fun K hK => ?_)
   rw [if_pos (by rfl)]
   simp only [tA, tB, tC]
   go_simp
   refine HMM.out.mono ?_
   rintro e w1 ⟨rfl, rfl⟩
   refine hK.out _ _ (fun _ => HSS.out) ?_
   clear hK K
   refine last_one (j := 14) (by kernel_rfl) rfl (fun K hK => ?_)
   rw [if_pos (by rfl)]
   simp only [tA, tB, tC]
   go_simp
   refine hK.out _ _ (fun _ => HSS.out) ?_
   clear hK K
   refine last_one (j := 15) (by kernel_rfl) rfl (fun K hK => ?_)
   rw [if_pos (by rfl)]
   simp only [tA, tB, tC]
   go_simp
   refine hK.out _ _ (fun _ => HSS.out) ?_
   clear hK K
   refine last_one (j := 16) (by kernel_rfl) rfl (fun K hK => ?_)
   rw [if_pos (by rfl)]
   simp only [tA, tB, tC]
   go_simp
   refine hK.out _ _ (fun e => absurd rfl e) ?_
   clear hK K
   refine last_done (by kernel_rfl) ?_ _
   go_wp2_with fail
   go_ret
   exact ⟨rfl, HFin.out⟩
end
end Go.Proofs.YtnjilcokkhodmaaGreatDoor

namespace Go.Proofs.YtnjilcokkhodmaaGreatDoor
open Go.RowKit Go.Shelf
set_option linter.unusedVariables false

theorem keep_xs {S : Nat → Prop} {w w' : World} (h : Xs.Keep S w w') : Keep S w w' := ⟨h.os, h.tape, h.output, h.size, h.block⟩
section
variable {w : World} {fb win dic siz : Nat} {told : Bool} {x0 x1 x2 ws : Value} {r0 r1 r2 : Int} {fl : Nat} {last : Bool} {kind bsz : Nat} {out : Value} {bud : Nat}
set_option maxRecDepth 100000 in
set_option maxHeartbeats 4000000 in
theorem look_sum {oa : Option Addr} {oc ob oo : Nat} {C : List Nat} (h : FrAt w fb win dic siz told x0 x1 x2 ws r0 r1 r2 fl last kind bsz (.slice oa C.length oc) bud) (hC : Bytes w oa oc ob oo C) (a : Option Addr) (cap gb off : Nat) (bs : List Nat) (hB : Bytes w a cap gb off bs) (hl : bs.length = 4) :
  Calls Tryz.prog 12 #[.pointer (some ⟨fb, 0, none⟩), unV 7 a bs.length cap true] w fun e w' => e = .returned (.int .i64 ((if numN bs % 4294967296 = Xs.xxh C % 4294967296 then 0 else 11 : Nat) : Int)) ∧ Keep noBlock w w' := by
 unfold unV
 have hbx := bx w 7 a bs.length cap
 obtain ⟨W0, hW0⟩ : ∃ W0, W0 = w.alloc (.cells #[.int .i64 ((7 : Nat) : Int), .slice a bs.length cap, .bool true] 50) := ⟨_, rfl⟩
 rw [← hW0] at hbx
 obtain ⟨ub, hub⟩ : ∃ ub, ub = w.heap.size := ⟨_, rfl⟩
 rw [← hub] at hbx
 have hf := h.keep hbx.k (fun h => h)
 have b0 : W0.cell? ⟨ub, 0, none⟩ = some (.int .i64 7) := cell_of hbx.o 0
 have b2 : W0.cell? ⟨ub, 2, none⟩ = some (.bool true) := cell_of hbx.o 2
 have HS := (show Hid (W0.drew.cell? ⟨ub, 1, none⟩ = some (.slice a bs.length cap) ∧ W0.drew.cell? ⟨fb, 15, none⟩ = some (.slice oa C.length oc)) from ⟨cell_of hbx.o 1, cell_of hf 15⟩)
 have kd := hbx.k.drew
 have HN := (show Hid (Calls Tryz.prog 20 #[.slice a bs.length cap] W0.drew fun e w' => e = .returned (.int .u64 ((numN bs : Nat) : Int)) ∧ w' = W0.drew) from number_any8 a cap gb off bs W0.drew (hB.keep kd (fun _ h => h)) (by omega))
 have hC2 := hC.keep kd (fun _ h => h)
 have HX := (show Hid (Calls Tryz.prog 28 #[.slice oa C.length oc] W0.drew fun e w' => e = .returned (.int .u64 ((Xs.xxh C : Nat) : Int)) ∧ Keep noBlock W0.drew w') from (Xs.xxh_any oa oc ob oo C W0.drew ⟨hC2.at_, hC2.cells, hC2.lt, hC2.cap, hC2.len⟩).mono (fun e w' h => ⟨h.1, keep_xs h.2⟩))
 have HB := hid hbx.k
 clear h hbx hf hB hl hC hC2 kd
 generalize bs.length = n at *
 generalize C.length = cn at *
 generalize numN bs = N at *
 generalize Xs.xxh C = X at *
 obtain ⟨N4, hN4⟩ : ∃ N4, N4 = N % 4294967296 := ⟨_, rfl⟩
 obtain ⟨X4, hX4⟩ : ∃ X4, X4 = X % 4294967296 := ⟨_, rfl⟩
 have cN : IntKind.u32.wrap (N : Int) = (N4 : Int) := by rw [IntKind.wrap_u32]; omega
 have cX : IntKind.u32.wrap (X : Int) = (X4 : Int) := by rw [IntKind.wrap_u32]; omega
 rw [← hN4, ← hX4]
 clear hN4 hX4
 obtain ⟨E, hE⟩ : ∃ E : Nat, E = if N4 = X4 then 0 else 11 := ⟨_, rfl⟩
 rw [← hE]
 have HE := hid hE
 clear hE
 go_enter Tryz.func12, Tryz.ntmps12
 rw [show ((7 : Nat) : Int) = 7 from rfl] at hW0
 go_wp2_with (rw [← hW0, ← hub]; clear hW0 hub)
 refine region_last (fun W => W.cell? ⟨ub, 1, none⟩ = some (.slice a n cap) ∧ W.cell? ⟨fb, 15, none⟩ = some (.slice oa cn oc)) 11 mx HS.out (fun hS => ?_)
 refine tk (i := 0) (v := ?_) rfl (by kernel_rfl) (fun _ _ _ h => h) (by rfl) ?_ (by assumption) ?_
 rotate_left 1
 ·intro w hSw; (try dsimp only at hSw); (try obtain ⟨hSw1, hSw2⟩ := hSw); (go_simp <;> with_reducible rfl)
 simp only [Act.put, tA, tB, tD, tE, tF]
 refine tk (i := 1) (v := ?_) rfl (by kernel_rfl) (fun _ _ _ h => h) (by rfl) ?_ (by assumption) ?_
 rotate_left 1
 ·intro w hSw; (try dsimp only at hSw); (try obtain ⟨hSw1, hSw2⟩ := hSw); (go_simp <;> with_reducible rfl)
 simp only [Act.put, tA, tB, tC, tD, tE, tF]
 refine tk (i := 4) (v := ?_) rfl (by kernel_rfl) (fun _ _ _ h => h) (by rfl) ?_ (by assumption) ?_
 rotate_left 1
 ·intro w hSw; (try dsimp only at hSw); (try obtain ⟨hSw1, hSw2⟩ := hSw); (go_simp <;> with_reducible rfl)
 simp only [Act.put, tA, tB, tC, tD, tE, tF]
 refine tk (i := 5) (v := ?_) rfl (by kernel_rfl) (fun _ _ _ h => h) (by rfl) ?_ (by assumption) ?_
 rotate_left 1
 ·intro w hSw; (try dsimp only at hSw); (try obtain ⟨hSw1, hSw2⟩ := hSw); (go_simp <;> with_reducible rfl)
 simp only [Act.put, tA, tB, tC, tD, tE, tF]
 refine tk (i := 6) (v := ?_) rfl (by kernel_rfl) (fun _ _ _ h => h) (by rfl) ?_ (by assumption) ?_
 rotate_left 1
 ·intro w hSw; (try dsimp only at hSw); (try obtain ⟨hSw1, hSw2⟩ := hSw); (go_simp <;> with_reducible rfl)
 simp only [Act.put, tA, tB, tC, tD, tE, tF]
 refine tk (i := 7) (v := ?_) rfl (by kernel_rfl) (fun _ _ _ h => h) (by rfl) ?_ (by assumption) ?_
 rotate_left 1
 ·intro w hSw; (try dsimp only at hSw); (try obtain ⟨hSw1, hSw2⟩ := hSw); (go_simp <;> with_reducible rfl)
 simp only [Act.put, tA, tB, tC, tD, tE, tF]
 refine last_one (j := 2) (by kernel_rfl) rfl (fun K hK => ?_)
 rw [if_pos (by rfl)]
 simp only [tA, tB, tC]
 go_simp
 refine HN.out.mono ?_
 rintro e w1 ⟨rfl, rfl⟩
 refine hK.out _ _ (fun _ => HS.out) ?_
 clear hK K
 refine tk (i := 3) (v := ?_) rfl (by kernel_rfl) (fun _ _ _ h => h) (by rfl) ?_ (by assumption) ?_
 rotate_left 1
 ·intro w hSw; (try dsimp only at hSw); (try obtain ⟨hSw1, hSw2⟩ := hSw); (go_simp <;> with_reducible rfl)
 simp only [Act.put, tA, tB, tC, tD, tE, tF]
 refine last_one (j := 8) (by kernel_rfl) rfl (fun K hK => ?_)
 rw [if_pos (by rfl)]
 simp only [tA, tB, tC]
 go_simp
 refine HX.out.mono ?_
 rintro e w1 ⟨rfl, k1⟩
 have HQ := (show Hid (w1.cell? ⟨ub, 1, none⟩ = some (.slice a n cap) ∧ w1.cell? ⟨fb, 15, none⟩ = some (.slice oa cn oc)) from ⟨keep_cellA k1 HS.out.1, keep_cellA k1 HS.out.2⟩)
 have HK1 := hid (HB.out.drew.trans' k1)
 clear k1
 refine hK.out _ _ (fun _ => HQ.out) ?_
 clear hK K
 refine last_one (j := 9) (by kernel_rfl) rfl (fun K hK => ?_)
 rw [if_pos (by rfl)]
 simp only [tA, tB, tC]
 go_simp
 refine hK.out _ _ (fun _ => HQ.out) ?_
 clear hK K
 by_cases he : N4 = X4
 ·subst he
  obtain rfl : E = 0 := by rw [HE.out, if_pos rfl]
  refine last_one (j := 10) (by kernel_rfl) rfl (fun K hK => ?_)
  rw [if_pos (by rfl)]
  simp only [tA, tB, tC]
  go_simp
  refine hK.out _ _ (fun _ => HQ.out) ?_
  clear hK K
  refine last_one (j := 11) (by kernel_rfl) rfl (fun K hK => ?_)
  rw [if_pos (by rfl)]
  simp only [tA, tB, tC]
  go_simp
  refine hK.out _ _ (fun e => absurd rfl e) ?_
  clear hK K
  refine last_done (by kernel_rfl) ?_ _
  go_wp2_with fail
  go_ret
  exact ⟨rfl, HK1.out⟩
 ·obtain rfl : E = 11 := by rw [HE.out, if_neg he]
  have heb : ((N4 : Int) == (X4 : Int)) = false := by simp; omega
  have hed : decide (N4 = X4) = false := decide_eq_false he
  refine last_one (j := 10) (by kernel_rfl) rfl (fun K hK => ?_)
  rw [if_pos (by rfl)]
  simp only [tA, tB, tC]
  go_simp
  refine hK.out _ _ (fun _ => HQ.out) ?_
  clear hK K
  refine last_one (j := 11) (by kernel_rfl) rfl (fun K hK => ?_)
  rw [if_pos (by rfl)]
  simp only [tA, tB, tC]
  go_simp
  refine hK.out _ _ (fun e => absurd rfl e) ?_
  clear hK K
  refine last_done (by kernel_rfl) ?_ _
  go_wp2_with fail
  go_ret
  exact ⟨rfl, HK1.out⟩
end
end Go.Proofs.YtnjilcokkhodmaaGreatDoor

namespace Go.Proofs.YtnjilcokkhodmaaGreatDoor
open Go.RowKit Go.Shelf
set_option linter.unusedVariables false

theorem IsF.turn {w w' : World} {fb : Nat} {F F' : Fr} {x0 x1 x2 : Value} {aw : Option Addr} {cw gw ow : Nat} {ov : Value} (h : IsF w fb F x0 x1 x2 aw cw gw ow ov) (hk : Keep (fun k => k = fb) w w') (hf : IsFr w' fb F' x0 x1 x2 (.slice aw F.ws.length cw) ov)
  (e0 : F'.t0 = F.t0) (e1 : F'.t1 = F.t1) (e2 : F'.t2 = F.t2) (ew : F'.ws = F.ws) (eo : F'.out = F.out) (hok : FrOk F') : IsF w' fb F' x0 x1 x2 aw cw gw ow ov := by
 obtain ⟨p0, p1, p2⟩ := h.apart
 refine ⟨by rw [ew]; exact hf, by rw [e0]; exact h.t0.keepS hk p0, by rw [e1]; exact h.t1.keepS hk p1, by rw [e2]; exact h.t2.keepS hk p2, by rw [ew]; exact h.bw.keep hk h.fw, by rw [eo]; exact h.out.keep hk (fun g hg (e : g = fb) => h.ne (by rw [hg, e])), h.ne, h.p0, h.p1, h.p2,
  fun q => Nat.lt_of_lt_of_le (h.gl (by rw [← ew]; exact q)) hk.size, fun q => h.pw (by rw [← ew]; exact q), fun q => h.fw (by rw [← ew]; exact q), hok⟩
section
variable {Ω : Oc} {Δ : Od}
theorem look_any {w : World} {fb : Nat} {F : Fr} {x0 x1 x2 : Value} {aw : Option Addr} {cw gw ow : Nat} {ov : Value} (h : IsF w fb F x0 x1 x2 aw cw gw ow ov) (u : Un) (hu : UnOk F.fl F.kind F.bsz u) (hl : F.out.length ≤ 16777216)
    (a : Option Addr) (cap gb off : Nat) (hB : Bytes w a cap gb off u.bs) :
    Calls Tryz.prog 12 #[.pointer (some ⟨fb, 0, none⟩), unV u.p a u.bs.length cap u.wh] w fun e w' => e = .returned (.int .i64 (((lookP (orc Ω Δ) F u).2 : Nat) : Int)) ∧ IsF w' fb (lookP (orc Ω Δ) F u).1 x0 x1 x2 aw cw gw ow ov ∧ Keep (fun k => k = fb) w w' := by
  have hq : ∀ w', Keep noBlock w w' → IsF w' fb F x0 x1 x2 aw cw gw ow ov ∧ Keep (fun k => k = fb) w w' := fun w' hk => ⟨h.quiet hk, hk.mono (fun _ _ q => q.elim)⟩
  obtain ⟨p, bs, wh⟩ := u
  dsimp only at *
  cases wh with
  | false =>
    refine (look_cut w fb p a bs.length cap).mono ?_
    rintro e w' ⟨rfl, hk⟩
    exact ⟨rfl, hq w' hk⟩
  | true =>
    have hp := hu.p
    dsimp only at hp
    rcases (show p = 0 ∨ p = 3 ∨ p = 4 ∨ p = 5 ∨ p = 7 ∨ (p = 1 ∨ p = 2 ∨ p = 6) by omega) with rfl | rfl | rfl | rfl | rfl | hp2
    · refine (look_first w fb a cap gb off bs hB (by have := hu.n0 rfl rfl; dsimp only at this; omega)).mono ?_
      rintro e w' ⟨rfl, hk⟩
      exact ⟨rfl, hq w' hk⟩
    · refine (look_flags h.fr a cap gb off bs hB (hu.n3 rfl rfl)).mono ?_
      rintro e w' ⟨rfl, hf, hk⟩
      refine ⟨rfl, h.turn hk hf rfl rfl rfl rfl rfl ⟨h.ok.win, h.ok.siz, h.ok.r0, h.ok.r1, h.ok.r2, ?_, h.ok.bud, h.ok.ws, h.ok.g0, h.ok.g1, h.ok.g2⟩, hk⟩
      exact hu.lt 0
    · have hlen := hu.n4 rfl rfl
      dsimp only at hlen
      refine (look_head h.fr a cap gb off bs hB h.ok.fl hlen h.ok.bud).mono ?_
      rintro e w' ⟨rfl, hf, hk⟩
      exact ⟨rfl, h.turn hk hf rfl rfl rfl rfl rfl ⟨hdWin_lt hu.lt hlen, by have := (hdSiz_lt hu.lt hlen).1; show hdSiz F.fl bs < _; omega, h.ok.r0, h.ok.r1, h.ok.r2, h.ok.fl, h.ok.bud, h.ok.ws, h.ok.g0, h.ok.g1, h.ok.g2⟩, hk⟩
    · refine (look_block h.fr h.ok.win a cap gb off bs hB (hu.n5 rfl rfl)).mono ?_
      rintro e w' ⟨rfl, hf, hk⟩
      exact ⟨rfl, h.turn hk hf rfl rfl rfl rfl rfl ⟨h.ok.win, h.ok.siz, h.ok.r0, h.ok.r1, h.ok.r2, h.ok.fl, h.ok.bud, h.ok.ws, h.ok.g0, h.ok.g1, h.ok.g2⟩, hk⟩
    · obtain ⟨oa, oc, og, e, hb, hob⟩ := owns_bytes h.out.own h.out.lt (by omega)
      subst e
      refine (look_sum h.fr hb a cap gb off bs hB (hu.n7 rfl rfl)).mono ?_
      rintro e w' ⟨rfl, hk⟩
      exact ⟨rfl, hq w' hk⟩
    · refine (look_pass w fb p a bs.length cap hp2).mono ?_
      rintro e w' ⟨rfl, hk⟩
      have e : lookP (orc Ω Δ) F ⟨p, bs, true⟩ = (F, 0) := by
        unfold lookP
        rcases hp2 with rfl | rfl | rfl <;> rfl
      rw [e]
      exact ⟨rfl, hq w' hk⟩
def BhP (w : World) (fb : Nat) (F2 : Fr) (x0 x1 x2 : Value) (aw : Option Addr) (cw gw ow : Nat) (ov : Value) (r : (List Nat × Nat) ⊕ Fr) (e : Ending) (w' : World) : Prop := match r with
 | .inl (o, c) => c ≠ 0 ∧ e = .returned (.int .i64 (c : Int)) ∧ ∃ ov', w'.cell? ⟨fb, 15, none⟩ = some ov' ∧ OutF w' ov' o ∧ (∀ k, ov'.ownBlock = some k → ov.ownBlock = some k)
 | .inr f => e = .returned (.int .i64 0) ∧ f = F2 ∧ F2.out.length ≤ 16777216 ∧ IsF w' fb F2 x0 x1 x2 aw cw gw ow ov
theorem beh_any {w : World} {fb : Nat} {F2 : Fr} {x0 x1 x2 : Value} {aw : Option Addr} {cw gw ow : Nat} {ov : Value} (h : IsF w fb F2 x0 x1 x2 aw cw gw ow ov) (old : List Nat) (hp : old <+: F2.out) (hl : F2.out.length ≤ 1073741824) :
  Calls Tryz.prog 16 #[.pointer (some ⟨fb, 0, none⟩), .int .i64 (old.length : Int)] w fun e w' => BhP w fb F2 x0 x1 x2 aw cw gw ow ov (behP old F2) e w' ∧ Keep (fun k => k = fb) w w' := by
 obtain ⟨oa, oc, e, hoc⟩ := h.out.slice
 subst e
 have hle := hp.length_le
 refine (behind_block h.fr h.ok.siz hl old.length hle hoc).mono ?_
 rintro e w' ⟨rfl, hf, hk⟩
 refine ⟨?_, hk⟩
 have ht : F2.out.take old.length = old := by
  obtain ⟨t, ht⟩ := hp
  rw [← ht, List.take_left]
 have hO := h.out.keep hk (fun g hg (e : g = fb) => h.ne (by rw [hg, e]))
 have hcut := hO.cut old.length hle
 rw [ht] at hcut
 have hob : ∀ k, Value.ownBlock (.slice oa old.length oc) = some k → Value.ownBlock (.slice oa F2.out.length oc) = some k := fun k hk => by cases oa <;> exact hk
 unfold behP behE behD at *
 by_cases h1 : 16777216 < F2.out.length
 ·rw [if_pos h1, if_pos h1]
  rw [show (decide (16777216 < F2.out.length) || (F2.told && decide (F2.siz < F2.out.length))) = true from by rw [decide_eq_true h1]; rfl] at hf
  exact ⟨by decide, rfl, _, cell_of hf 15, hcut, hob⟩
 ·rw [if_neg h1, if_neg h1]
  by_cases h2 : F2.told = true ∧ F2.siz < F2.out.length
  ·rw [if_pos h2, if_pos h2]
   rw [show (decide (16777216 < F2.out.length) || (F2.told && decide (F2.siz < F2.out.length))) = true from by rw [h2.1, decide_eq_true h2.2, Bool.true_and, Bool.or_true]] at hf
   exact ⟨by decide, rfl, _, cell_of hf 15, hcut, hob⟩
  ·have hd : (decide (16777216 < F2.out.length) || (F2.told && decide (F2.siz < F2.out.length))) = false := by
    rw [decide_eq_false h1, Bool.false_or]
    cases ht : F2.told with
    | false => rfl
    | true => rw [decide_eq_false (fun q => h2 ⟨ht, q⟩)]; rfl
   rw [hd] at hf
   rw [if_neg h2, if_neg h2]
   by_cases h3 : F2.told = true ∧ F2.last = true ∧ F2.out.length < F2.siz
   ·rw [if_pos h3, if_pos h3]
    exact ⟨by decide, rfl, _, cell_of hf 15, hO, fun k hk => hk⟩
   ·rw [if_neg h3, if_neg h3]
    exact ⟨rfl, rfl, by omega, h.turn hk hf rfl rfl rfl rfl rfl h.ok⟩
end
end Go.Proofs.YtnjilcokkhodmaaGreatDoor
