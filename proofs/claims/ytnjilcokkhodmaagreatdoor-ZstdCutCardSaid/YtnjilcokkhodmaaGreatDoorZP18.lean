/-
  look: a unit by itself.
  look: the rest of a head, a block's head, a sum.
  look: a sum.
  cut: a unit is handed out.
  The cutter: whatever is cut off, handed out as the units of a member.
  The cutter: a frame, and all the units of a member.
  units: the units of a member are handed out, in their order.
-/
import Derived.Test.YtnjilcokkhodmaaGreatDoorZP2
import Derived.Test.YtnjilcokkhodmaaGreatDoorZP4
import Derived.Test.YtnjilcokkhodmaaGreatDoorZP5
import Derived.Test.YtnjilcokkhodmaaGreatDoorZP13
import Derived.Test.YtnjilcokkhodmaaGreatDoorZP14
import Derived.Test.YtnjilcokkhodmaaGreatDoorZP15
import Derived.Test.YtnjilcokkhodmaaGreatDoorZP16
namespace Go.Proofs.YtnjilcokkhodmaaGreatDoor
open Go.RowKit Go.Shelf
set_option linter.unusedVariables false

def unV (p : Nat) (a : Option Addr) (n cap : Nat) (wh : Bool) : Value := .agg #[.int .i64 (p : Int), .slice a n cap, .bool wh]
section
variable {w : World} {fb win dic siz : Nat} {told : Bool} {x0 x1 x2 ws : Value} {r0 r1 r2 : Int} {fl : Nat} {last : Bool} {kind bsz : Nat} {out : Value} {bud : Nat}
set_option maxHeartbeats 1000000 in
theorem look_cut (w : World) (fb p : Nat) (a : Option Addr) (n cap : Nat) : Calls Tryz.prog 12 #[.pointer (some ⟨fb, 0, none⟩), unV p a n cap false] w fun e w' => e = .returned (.int .i64 10) ∧ Keep noBlock w w' := by
 unfold unV
 go_enter Tryz.func12, Tryz.ntmps12
 go_wp2_with fail
 go_ret
 exact ⟨rfl, (Keep.refl _ w).alloc _⟩
set_option maxHeartbeats 1000000 in
theorem look_pass (w : World) (fb p : Nat) (a : Option Addr) (n cap : Nat) (hp : p = 1 ∨ p = 2 ∨ p = 6) : Calls Tryz.prog 12 #[.pointer (some ⟨fb, 0, none⟩), unV p a n cap true] w fun e w' => e = .returned (.int .i64 0) ∧ Keep noBlock w w' := by
 unfold unV
 rcases hp with rfl | rfl | rfl <;>
 ·go_enter Tryz.func12, Tryz.ntmps12
  go_wp2_with fail
  go_ret
  exact ⟨rfl, (Keep.refl _ w).alloc _⟩
set_option maxHeartbeats 1000000 in
theorem look_first (w : World) (fb : Nat) (a : Option Addr) (cap gb off : Nat) (bs : List Nat) (hB : Bytes w a cap gb off bs) (hl : bs.length ≤ 8) :
    Calls Tryz.prog 12 #[.pointer (some ⟨fb, 0, none⟩), unV 0 a bs.length cap true] w fun e w' => e = .returned (.int .i64 ((if numN bs = 4247762216 ∨ skipB (numN bs) = true then 0 else 11 : Nat) : Int)) ∧ Keep noBlock w w' := by
  unfold unV
  have HN := hid (show ∀ A : Obj, Calls Tryz.prog 20 #[.slice a bs.length cap] (w.alloc A) fun e w' => e = .returned (.int .u64 ((numN bs : Nat) : Int)) ∧ w' = w.alloc A from fun A => number_any8 a cap gb off bs (w.alloc A) (hB.keep ((Keep.refl noBlock w).alloc _) (fun _ h => h)) hl)
  have hN := numN_lt (l := bs) (fun b hb => lt_mem hB.lt b hb)
  have hN2 : numN bs < 18446744073709551616 := Nat.lt_of_lt_of_le hN (Nat.pow_le_pow_right (n := 256) (j := 8) (by omega) hl)
  clear hN hB
  generalize bs.length = n at *
  generalize numN bs = N at *
  have HS := hid (show ∀ W, Calls Tryz.prog 19 #[.int .u64 (N : Int)] W fun e w' => e = .returned (.bool (skipB N)) ∧ w' = W from fun W => skip_any N hN2 W)
  by_cases h1 : N = 4247762216
  · subst h1
    rw [if_pos (.inl rfl)]
    go_enter Tryz.func12, Tryz.ntmps12
    go_wp2_with fail
    refine (HN.out _).mono ?_
    rintro e w' ⟨rfl, rfl⟩
    go_wp2_with fail
    go_ret
    exact ⟨rfl, (Keep.refl _ w).alloc _⟩
  · have h1b : ((N : Int) == 4247762216) = false := by simp; omega
    have h1d : decide (N = 4247762216) = false := decide_eq_false h1
    cases hs : skipB N with
    | true =>
      rw [hs] at HS
      rw [if_pos (.inr rfl)]
      go_enter Tryz.func12, Tryz.ntmps12
      go_wp2_with fail
      refine (HN.out _).mono ?_
      rintro e w' ⟨rfl, rfl⟩
      go_wp2_with fail
      refine (HS.out _).mono ?_
      rintro e w' ⟨rfl, rfl⟩
      go_wp2_with fail
      go_ret
      exact ⟨rfl, (Keep.refl _ w).alloc _⟩
    | false =>
      rw [hs] at HS
      rw [if_neg (by simp [h1])]
      go_enter Tryz.func12, Tryz.ntmps12
      go_wp2_with fail
      refine (HN.out _).mono ?_
      rintro e w' ⟨rfl, rfl⟩
      go_wp2_with fail
      refine (HS.out _).mono ?_
      rintro e w' ⟨rfl, rfl⟩
      go_wp2_with fail
      go_ret
      exact ⟨rfl, (Keep.refl _ w).alloc _⟩
set_option maxHeartbeats 1000000 in
theorem look_flags (h : FrAt w fb win dic siz told x0 x1 x2 ws r0 r1 r2 fl last kind bsz out bud) (a : Option Addr) (cap gb off : Nat) (bs : List Nat) (hB : Bytes w a cap gb off bs) (hl : bs.length = 1) :
    Calls Tryz.prog 12 #[.pointer (some ⟨fb, 0, none⟩), unV 3 a bs.length cap true] w fun e w' => e = .returned (.int .i64 ((if flagB (bs[0]?.getD 0) 3 then 11 else 0 : Nat) : Int)) ∧ FrAt w' fb win dic siz told x0 x1 x2 ws r0 r1 r2 (bs[0]?.getD 0) last kind bsz out bud ∧ Keep (fun k => k = fb) w w' := by
  unfold unV
  obtain rfl := hB.at_.resolve_right (fun e => by rw [e] at hl; simp at hl)
  have hc := hB.cells 0 (by omega)
  have hlt := hB.lt 0
  rw [hl]
  generalize bs[0]?.getD 0 = x at *
  obtain ⟨W0, hW0⟩ : ∃ W0, W0 = w.alloc (.cells #[.int .i64 3, .slice (some ⟨gb, off, none⟩) 1 cap, .bool true] 50) := ⟨_, rfl⟩
  have k0 : Keep noBlock w W0 := by rw [hW0]; exact (Keep.refl _ w).alloc _
  have hf := h.keep k0 (fun h => h)
  have c0 : W0.cell? ⟨gb, off, none⟩ = some (.int .u8 (x : Int)) := keep_cellS k0 (fun h => h) hc
  have c11 : W0.cell? ⟨fb, 11, none⟩ = some (.int .u8 (fl : Int)) := cell_of hf 11
  have f11 : W0.frozen? ⟨fb, 11, none⟩ = false := frozen_of hf 11
  have HF := (show Hid (FrAt (W0.setCell ⟨fb, 11, none⟩ (.int .u8 (x : Int))) fb win dic siz told x0 x1 x2 ws r0 r1 r2 x last kind bsz out bud ∧ Keep (fun k => k = fb) w (W0.setCell ⟨fb, 11, none⟩ (.int .u8 (x : Int)))) from
    ⟨set_obj hf 11 _, (k0.mono (T := fun k => k = fb) (fun _ _ h => h.elim)).setCell (p := ⟨fb, 11, none⟩) (fun _ => rfl) _⟩)
  have HR := hid (show ∀ W, Calls Tryz.prog 23 #[.int .u8 (x : Int)] W fun e w' => e = .returned (.bool (flagB x 3)) ∧ w' = W from fun W => reserved_any x hlt W)
  have b0 : W0.cell? ⟨w.heap.size, 0, none⟩ = some (.int .i64 3) := by rw [hW0]; exact cell_of (alloc_new w _) 0
  have b1 : W0.cell? ⟨w.heap.size, 1, none⟩ = some (.slice (some ⟨gb, off, none⟩) 1 cap) := by rw [hW0]; exact cell_of (alloc_new w _) 1
  have b2 : W0.cell? ⟨w.heap.size, 2, none⟩ = some (.bool true) := by rw [hW0]; exact cell_of (alloc_new w _) 2
  clear h hf k0 hB hc
  cases hr : flagB x 3 with
  | true =>
    rw [hr] at HR
    go_enter Tryz.func12, Tryz.ntmps12
    go_wp2_with (rw [← hW0]; clear hW0)
    refine (HR.out _).mono ?_
    rintro e w' ⟨rfl, rfl⟩
    go_wp2_with fail
    go_ret
    exact ⟨rfl, HF.out⟩
  | false =>
    rw [hr] at HR
    go_enter Tryz.func12, Tryz.ntmps12
    go_wp2_with (rw [← hW0]; clear hW0)
    refine (HR.out _).mono ?_
    rintro e w' ⟨rfl, rfl⟩
    go_wp2_with fail
    go_ret
    exact ⟨rfl, HF.out⟩
end
end Go.Proofs.YtnjilcokkhodmaaGreatDoor

namespace Go.Proofs.YtnjilcokkhodmaaGreatDoor
open Go.RowKit Go.Shelf
set_option linter.unusedVariables false

theorem winOf_lt (v : Nat) (hv : v < 256) : winOf v < 18446744073709551616 := by
 have h1 : 2 ^ (10 + v / 8) ≤ 2199023255552 := Nat.pow_le_pow_right (n := 2) (j := 41) (by omega) (by omega)
 unfold winOf
 generalize 2 ^ (10 + v / 8) = P at *
 have : P / 8 * (v % 8) ≤ P / 8 * 7 := Nat.mul_le_mul_left _ (by omega)
 omega
theorem hdWin_lt {d : Nat} {bs : List Nat} (hb : ∀ j : Nat, bs[j]?.getD 0 < 256) (hl : bs.length = hdLen d) : hdWin d bs < 18446744073709551616 := by
 have h1 := (hdSiz_lt hb hl).1
 unfold hdWin
 split
 ·omega
 ·exact winOf_lt _ (hb 0)
/-- The unit's box. -/
structure Bx (w W : World) (ub p : Nat) (a : Option Addr) (n cap : Nat) : Prop where
 o : W.heap[ub]? = some (.cells #[.int .i64 (p : Int), .slice a n cap, .bool true] 50 (0, 0))
 k : Keep noBlock w W
 e : ub = w.heap.size
theorem bx (w : World) (p : Nat) (a : Option Addr) (n cap : Nat) : Bx w (w.alloc (.cells #[.int .i64 (p : Int), .slice a n cap, .bool true] 50)) w.heap.size p a n cap := ⟨alloc_new w _, (Keep.refl _ w).alloc _, rfl⟩
section
variable {w : World} {fb win dic siz : Nat} {told : Bool} {x0 x1 x2 ws : Value} {r0 r1 r2 : Int} {fl : Nat} {last : Bool} {kind bsz : Nat} {out : Value} {bud : Nat}
set_option maxRecDepth 100000 in
set_option maxHeartbeats 4000000 in
theorem look_head (h : FrAt w fb win dic siz told x0 x1 x2 ws r0 r1 r2 fl last kind bsz out bud) (a : Option Addr) (cap gb off : Nat) (bs : List Nat) (hB : Bytes w a cap gb off bs) (hfl : fl < 256) (hl : bs.length = hdLen fl) (hb : bud ≤ 16777216) :
  Calls Tryz.prog 12 #[.pointer (some ⟨fb, 0, none⟩), unV 4 a bs.length cap true] w fun e w' => e = .returned (.int .i64 ((if hdDic fl bs ≠ 0 then 12 else if bud < hdWin fl bs then 40 else 0 : Nat) : Int)) ∧ FrAt w' fb (hdWin fl bs) (hdDic fl bs) (hdSiz fl bs) (hdTold fl bs) x0 x1 x2 ws r0 r1 r2 fl last kind bsz out bud ∧ Keep (fun k => k = fb) w w' := by
 unfold unV
 have hbx := bx w 4 a bs.length cap
 obtain ⟨W0, hW0⟩ : ∃ W0, W0 = w.alloc (.cells #[.int .i64 ((4 : Nat) : Int), .slice a bs.length cap, .bool true] 50) := ⟨_, rfl⟩
 rw [← hW0] at hbx
 obtain ⟨ub, hub⟩ : ∃ ub, ub = w.heap.size := ⟨_, rfl⟩
 rw [← hub] at hbx
 have hf := h.keep hbx.k (fun h => h)
 have b0 : W0.cell? ⟨ub, 0, none⟩ = some (.int .i64 4) := cell_of hbx.o 0
 have b2 : W0.cell? ⟨ub, 2, none⟩ = some (.bool true) := cell_of hbx.o 2
 have HS := (show Hid (W0.drew.cell? ⟨ub, 1, none⟩ = some (.slice a bs.length cap) ∧ W0.drew.cell? ⟨fb, 11, none⟩ = some (.int .u8 (fl : Int))) from ⟨cell_of hbx.o 1, cell_of hf 11⟩)
 have HC := (show Hid (Calls Tryz.prog 24 #[.int .u8 (fl : Int), .slice a bs.length cap] W0.drew fun e w' => e = .returned (.agg #[.int .u64 ((hdWin fl bs : Nat) : Int), .int .u64 ((hdDic fl bs : Nat) : Int), .int .u64 ((hdSiz fl bs : Nat) : Int), .bool (hdTold fl bs)]) ∧ Keep noBlock W0.drew w') from
  headOf_any fl hfl a cap gb off bs W0.drew (hB.keep hbx.k.drew (fun _ h => h)) hl)
 have HD := (show Hid (hdWin fl bs < 18446744073709551616 ∧ hdDic fl bs < 18446744073709551616) from ⟨hdWin_lt hB.lt hl, by have := (hdSiz_lt hB.lt hl).2.1; omega⟩)
 have HB := hid (And.intro hbx hf)
 clear h hbx hf hB hfl hl
 generalize bs.length = n at *
 generalize hdWin fl bs = Wn at *
 generalize hdDic fl bs = D at *
 generalize hdSiz fl bs = Z at *
 generalize hdTold fl bs = T at *
 obtain ⟨E, hE⟩ : ∃ E : Nat, E = if D ≠ 0 then 12 else if bud < Wn then 40 else 0 := ⟨_, rfl⟩
 rw [← hE]
 have HE := hid hE
 clear hE
 go_enter Tryz.func12, Tryz.ntmps12
 rw [show ((4 : Nat) : Int) = 4 from rfl] at hW0
 go_wp2_with (rw [← hW0, ← hub]; clear hW0 hub)
 refine region_last (fun W => W.cell? ⟨ub, 1, none⟩ = some (.slice a n cap) ∧ W.cell? ⟨fb, 11, none⟩ = some (.int .u8 (fl : Int))) 10 mx HS.out (fun hS => ?_)
 refine tk (i := 0) (v := ?_) rfl (by kernel_rfl) (fun _ _ _ h => h) (by rfl) ?_ (by assumption) ?_
 rotate_left 1
 ·intro w hSw; (try dsimp only at hSw); (try obtain ⟨hSw1, hSw2⟩ := hSw); (go_simp <;> with_reducible rfl)
 simp only [Act.put, tA, tB, tD, tE, tF]
 refine tk (i := 1) (v := ?_) rfl (by kernel_rfl) (fun _ _ _ h => h) (by rfl) ?_ (by assumption) ?_
 rotate_left 1
 ·intro w hSw; (try dsimp only at hSw); (try obtain ⟨hSw1, hSw2⟩ := hSw); (go_simp <;> with_reducible rfl)
 simp only [Act.put, tA, tB, tC, tD, tE, tF]
 refine tk (i := 2) (v := ?_) rfl (by kernel_rfl) (fun _ _ _ h => h) (by rfl) ?_ (by assumption) ?_
 rotate_left 1
 ·intro w hSw; (try dsimp only at hSw); (try obtain ⟨hSw1, hSw2⟩ := hSw); (go_simp <;> with_reducible rfl)
 simp only [Act.put, tA, tB, tC, tD, tE, tF]
 refine tk (i := 3) (v := ?_) rfl (by kernel_rfl) (fun _ _ _ h => h) (by rfl) ?_ (by assumption) ?_
 rotate_left 1
 ·intro w hSw; (try dsimp only at hSw); (try obtain ⟨hSw1, hSw2⟩ := hSw); (go_simp <;> with_reducible rfl)
 simp only [Act.put, tA, tB, tC, tD, tE, tF]
 refine tk (i := 4) (v := ?_) rfl (by kernel_rfl) (fun _ _ _ h => h) (by rfl) ?_ (by assumption) ?_
 rotate_left 1
 ·intro w hSw; (try dsimp only at hSw); (try obtain ⟨hSw1, hSw2⟩ := hSw); (go_simp <;> with_reducible rfl)
 simp only [Act.put, tA, tB, tC, tD, tE, tF]
 refine tk (i := 5) (v := ?_) rfl (by kernel_rfl) (fun _ _ _ h => h) (by rfl) ?_ (by assumption) ?_
 rotate_left 1
 ·intro w hSw; (try dsimp only at hSw); (try obtain ⟨hSw1, hSw2⟩ := hSw); (go_simp <;> with_reducible rfl)
 simp only [Act.put, tA, tB, tC, tD, tE, tF]
 refine tk (i := 6) (v := ?_) rfl (by kernel_rfl) (fun _ _ _ h => h) (by rfl) ?_ (by assumption) ?_
 rotate_left 1
 ·intro w hSw; (try dsimp only at hSw); (try obtain ⟨hSw1, hSw2⟩ := hSw); (go_simp <;> with_reducible rfl)
 simp only [Act.put, tA, tB, tC, tD, tE, tF]
 refine last_one (j := 7) (by kernel_rfl) rfl (fun K hK => ?_)
 rw [if_pos (by rfl)]
 simp only [tA, tB, tC]
 go_simp
 refine HC.out.mono ?_
 rintro e w1 ⟨rfl, k1⟩
 have HQ := (show Hid (w1.cell? ⟨ub, 1, none⟩ = some (.slice a n cap) ∧ w1.cell? ⟨fb, 11, none⟩ = some (.int .u8 (fl : Int)) ∧ FrAt w1 fb win dic siz told x0 x1 x2 ws r0 r1 r2 fl last kind bsz out bud ∧ Keep noBlock W0 w1) from
  ⟨keep_cellA k1 HS.out.1, keep_cellA k1 HS.out.2, HB.out.2.keep ((Keep.refl noBlock W0).drew.trans' k1) (fun h => h), (Keep.refl noBlock W0).drew.trans' k1⟩)
 clear k1
 refine hK.out _ _ (fun _ => ⟨HQ.out.1, HQ.out.2.1⟩) ?_
 clear hK K
 refine last_one (j := 8) (by kernel_rfl) rfl (fun K hK => ?_)
 rw [if_pos (by rfl)]
 simp only [tA, tB, tC]
 go_simp
 refine hK.out _ _ (fun _ => ⟨HQ.out.1, HQ.out.2.1⟩) ?_
 clear hK K
 refine last_one (j := 9) (by kernel_rfl) rfl (fun K hK => ?_)
 rw [if_pos (by rfl)]
 simp only [tA, tB, tC]
 go_simp
 refine hK.out _ _ (fun _ => ⟨HQ.out.1, HQ.out.2.1⟩) ?_
 clear hK K
 have HST := (show Hid (w1.there fb 0 (#[.int .u64 (Wn : Int), .int .u64 (D : Int), .int .u64 (Z : Int), .bool T] : Array Value).size ∧ (Tryz.prog.info? 35).map (·.size) = some (#[.int .u64 (Wn : Int), .int .u64 (D : Int), .int .u64 (Z : Int), .bool T] : Array Value).size ∧ (#[.int .u64 (Wn : Int), .int .u64 (D : Int), .int .u64 (Z : Int), .bool T] : Array Value).all (·.oneCell') = true) from
  ⟨fun j hj => ⟨by have hj4 : j < 4 := hj; rw [cell_of HQ.out.2.2.1, Array.getElem?_eq_getElem (by show 0 + j < 17; omega)]; rfl, frozen_of HQ.out.2.2.1 _⟩, info35s, all_oneCell_toArray (fun v hv => by simp only [List.mem_cons, List.not_mem_nil, or_false] at hv; rcases hv with rfl | rfl | rfl | rfl <;> rfl)⟩)
 refine last_one (j := 10) (by kernel_rfl) rfl (fun K hK => ?_)
 rw [if_pos (by rfl)]
 refine wp_store_mid 35 (.tmp 49) (.tmp 47) rfl fb 0 #[.int .u64 (Wn : Int), .int .u64 (D : Int), .int .u64 (Z : Int), .bool T] rfl rfl HST.out.1 HST.out.2.1 HST.out.2.2 ?_
 refine hK.out _ _ (fun e => absurd rfl e) ?_
 clear hK K
 refine last_done (by kernel_rfl) ?_ _
 have k8 : Keep (fun k => k = fb) w1 (w1.setCells fb 0 [.int .u64 (Wn : Int), .int .u64 (D : Int), .int .u64 (Z : Int), .bool T]) := keep_setCells (S := fun k => k = fb) fb (fun _ => rfl) _ _ _ (Keep.refl _ w1)
 have o8 : FrAt (w1.setCells fb 0 [.int .u64 (Wn : Int), .int .u64 (D : Int), .int .u64 (Z : Int), .bool T]) fb Wn D Z T x0 x1 x2 ws r0 r1 r2 fl last kind bsz out bud := setCells_obj fb 44 [.int .u64 (Wn : Int), .int .u64 (D : Int), .int .u64 (Z : Int), .bool T] 0 _ w1 HQ.out.2.2.1
 have HO8 := hid (And.intro o8 (((HB.out.1.k.trans' HQ.out.2.2.2).mono (T := fun k => k = fb) (fun _ _ h => h.elim)).trans' k8))
 have HJ := hid (judgeHead_any o8 HD.out.1 HD.out.2 hb)
 rw [← HE.out] at HJ
 clear k8 o8 HST
 generalize w1.setCells fb 0 [.int .u64 (Wn : Int), .int .u64 (D : Int), .int .u64 (Z : Int), .bool T] = w2 at *
 go_wp2_with fail
 refine HJ.out.mono ?_
 rintro e w3 ⟨rfl, k3⟩
 have HK3 := hid k3
 clear k3
 go_wp2_with fail
 go_ret
 exact ⟨rfl, HO8.out.1.keep HK3.out (fun h => h), HO8.out.2.trans' (HK3.out.mono (fun _ _ h => h.elim))⟩
set_option maxRecDepth 100000 in
set_option maxHeartbeats 4000000 in
theorem look_block (h : FrAt w fb win dic siz told x0 x1 x2 ws r0 r1 r2 fl last kind bsz out bud) (hw : win < 18446744073709551616) (a : Option Addr) (cap gb off : Nat) (bs : List Nat) (hB : Bytes w a cap gb off bs) (hl : bs.length = 3) :
  Calls Tryz.prog 12 #[.pointer (some ⟨fb, 0, none⟩), unV 5 a bs.length cap true] w fun e w' => e = .returned (.int .i64 ((if blKind (numN bs) ≠ 3 ∧ blSize (numN bs) ≤ min win 131072 then 0 else 11 : Nat) : Int)) ∧ FrAt w' fb win dic siz told x0 x1 x2 ws r0 r1 r2 fl (blLast (numN bs)) (blKind (numN bs)) (blSize (numN bs)) out bud ∧ Keep (fun k => k = fb) w w' := by
 unfold unV
 have hbx := bx w 5 a bs.length cap
 obtain ⟨W0, hW0⟩ : ∃ W0, W0 = w.alloc (.cells #[.int .i64 ((5 : Nat) : Int), .slice a bs.length cap, .bool true] 50) := ⟨_, rfl⟩
 rw [← hW0] at hbx
 obtain ⟨ub, hub⟩ : ∃ ub, ub = w.heap.size := ⟨_, rfl⟩
 rw [← hub] at hbx
 have hf := h.keep hbx.k (fun h => h)
 have b0 : W0.cell? ⟨ub, 0, none⟩ = some (.int .i64 5) := cell_of hbx.o 0
 have b1 : W0.cell? ⟨ub, 1, none⟩ = some (.slice a bs.length cap) := cell_of hbx.o 1
 have b2 : W0.cell? ⟨ub, 2, none⟩ = some (.bool true) := cell_of hbx.o 2
 have HC := (show Hid (Calls Tryz.prog 26 #[.slice a bs.length cap] W0 fun e w' => e = .returned (.agg #[.bool (blLast (numN bs)), .int .i64 ((blKind (numN bs) : Nat) : Int), .int .i64 ((blSize (numN bs) : Nat) : Int)]) ∧ Keep noBlock W0 w') from
  blockOf_any a cap gb off bs W0 (hB.keep hbx.k (fun _ h => h)) hl)
 have HB := hid (And.intro hbx hf)
 have hN : numN bs < 16777216 := by
  have := numN_lt (l := bs) (fun b hb => lt_mem hB.lt b hb)
  rw [hl] at this
  omega
 have hs : (blSize (numN bs) : Int) < 2097152 := by unfold blSize; omega
 have hk4 : blKind (numN bs) < 4 := by unfold blKind; omega
 clear h hbx hf hB hl hN
 generalize bs.length = n at *
 generalize blLast (numN bs) = L at *
 generalize blKind (numN bs) = k at *
 generalize blSize (numN bs) = s at *
 obtain ⟨m, hm⟩ : ∃ m, m = min win 131072 := ⟨_, rfl⟩
 have hmb : (m : Int) ≤ 131072 := by omega
 rw [← hm]
 have HM := (show Hid (∀ {W : World} {fl : Nat} {last : Bool} {kind bsz : Nat}, FrAt W fb win dic siz told x0 x1 x2 ws r0 r1 r2 fl last kind bsz out bud → Calls Tryz.prog 27 #[.pointer (some ⟨fb, 0, none⟩)] W fun e w' => e = .returned (.int .i64 (m : Int)) ∧ w' = W) from fun h => by rw [hm]; exact most_any h hw)
 clear hm
 obtain ⟨E, hE⟩ : ∃ E : Nat, E = if k ≠ 3 ∧ s ≤ m then 0 else 11 := ⟨_, rfl⟩
 rw [← hE]
 have HE := hid hE
 clear hE
 go_enter Tryz.func12, Tryz.ntmps12
 rw [show ((5 : Nat) : Int) = 5 from rfl] at hW0
 go_wp2_with (rw [← hW0, ← hub]; clear hW0 hub)
 refine HC.out.mono ?_
 rintro e w1 ⟨rfl, k1⟩
 have HQ := (show Hid (FrAt w1 fb win dic siz told x0 x1 x2 ws r0 r1 r2 fl last kind bsz out bud ∧ Keep noBlock W0 w1) from ⟨HB.out.2.keep k1 (fun h => h), k1⟩)
 clear k1
 have HST := (show Hid (w1.there fb 12 (#[.bool L, .int .i64 (k : Int), .int .i64 (s : Int)] : Array Value).size ∧ (Tryz.prog.info? 42).map (·.size) = some (#[.bool L, .int .i64 (k : Int), .int .i64 (s : Int)] : Array Value).size ∧ (#[.bool L, .int .i64 (k : Int), .int .i64 (s : Int)] : Array Value).all (·.oneCell') = true) from
  ⟨fun j hj => ⟨by have hj4 : j < 3 := hj; rw [cell_of HQ.out.1, Array.getElem?_eq_getElem (by show 12 + j < 17; omega)]; rfl, frozen_of HQ.out.1 _⟩, info42s, all_oneCell_toArray (fun v hv => by simp only [List.mem_cons, List.not_mem_nil, or_false] at hv; rcases hv with rfl | rfl | rfl <;> rfl)⟩)
 go_wp2_with (refine wpList_store_mid rfl 42 (.tmp 59) (.tmp 57) rfl fb 12 #[.bool L, .int .i64 (k : Int), .int .i64 (s : Int)] rfl rfl HST.out.1 HST.out.2.1 HST.out.2.2 ?_)
 have k8 : Keep (fun k => k = fb) w1 (w1.setCells fb 12 [.bool L, .int .i64 (k : Int), .int .i64 (s : Int)]) := keep_setCells (S := fun k => k = fb) fb (fun _ => rfl) _ _ _ (Keep.refl _ w1)
 have o8 : FrAt (w1.setCells fb 12 [.bool L, .int .i64 (k : Int), .int .i64 (s : Int)]) fb win dic siz told x0 x1 x2 ws r0 r1 r2 fl L k s out bud := setCells_obj fb 44 [.bool L, .int .i64 (k : Int), .int .i64 (s : Int)] 12 _ w1 HQ.out.1
 have HO8 := hid (And.intro o8 (((HB.out.1.k.trans' HQ.out.2).mono (T := fun k => k = fb) (fun _ _ h => h.elim)).trans' k8))
 clear k8 o8 HST
 generalize w1.setCells fb 12 [.bool L, .int .i64 (k : Int), .int .i64 (s : Int)] = w2 at *
 have HMM := (show Hid (Calls Tryz.prog 27 #[.pointer (some ⟨fb, 0, none⟩)] w2.drew fun e w' => e = .returned (.int .i64 (m : Int)) ∧ w' = w2.drew) from HM.out (HO8.out.1.keep (Keep.refl noBlock w2).drew (fun h => h)))
 have HSS := (show Hid (w2.drew.cell? ⟨fb, 13, none⟩ = some (.int .i64 (k : Int)) ∧ w2.drew.cell? ⟨fb, 14, none⟩ = some (.int .i64 (s : Int))) from ⟨cell_of HO8.out.1 13, cell_of HO8.out.1 14⟩)
 have HFin := (show Hid (FrAt w2.drew fb win dic siz told x0 x1 x2 ws r0 r1 r2 fl L k s out bud ∧ Keep (fun k => k = fb) w w2.drew) from ⟨HO8.out.1.keep (Keep.refl noBlock w2).drew (fun h => h), HO8.out.2.drew⟩)
 clear HO8 HM HQ HC
 by_cases h3 : k = 3
 ·subst h3
  obtain rfl : E = 11 := by rw [HE.out, if_neg (by simp)]
  refine region_last (fun W => W.cell? ⟨fb, 13, none⟩ = some (.int .i64 ((3 : Nat) : Int)) ∧ W.cell? ⟨fb, 14, none⟩ = some (.int .i64 (s : Int))) 16 mx HSS.out (fun hS => ?_)
  refine tk (i := 0) (v := ?_) rfl (by kernel_rfl) (fun _ _ _ h => h) (by rfl) ?_ (by assumption) ?_
  rotate_left 1
  ·intro w hSw; (try dsimp only at hSw); (try obtain ⟨hSw1, hSw2⟩ := hSw); (go_simp <;> with_reducible rfl)
  simp only [Act.put, tA, tB, tD, tE, tF]
  refine tk (i := 1) (v := ?_) rfl (by kernel_rfl) (fun _ _ _ h => h) (by rfl) ?_ (by assumption) ?_
  rotate_left 1
  ·intro w hSw; (try dsimp only at hSw); (try obtain ⟨hSw1, hSw2⟩ := hSw); (go_simp <;> with_reducible rfl)
  simp only [Act.put, tA, tB, tC, tD, tE, tF]
  refine tk (i := 2) (v := ?_) rfl (by kernel_rfl) (fun _ _ _ h => h) (by rfl) ?_ (by assumption) ?_
  rotate_left 1
  ·intro w hSw; (try dsimp only at hSw); (try obtain ⟨hSw1, hSw2⟩ := hSw); (go_simp <;> with_reducible rfl)
  simp only [Act.put, tA, tB, tC, tD, tE, tF]
  refine tk (i := 3) (v := ?_) rfl (by kernel_rfl) (fun _ _ _ h => h) (by rfl) ?_ (by assumption) ?_
  rotate_left 1
  ·intro w hSw; (try dsimp only at hSw); (try obtain ⟨hSw1, hSw2⟩ := hSw); (go_simp <;> with_reducible rfl)
  simp only [Act.put, tA, tB, tC, tD, tE, tF]
  refine tk (i := 4) (v := ?_) rfl (by kernel_rfl) (fun _ _ _ h => h) (by rfl) ?_ (by assumption) ?_
  rotate_left 1
  ·intro w hSw; (try dsimp only at hSw); (try obtain ⟨hSw1, hSw2⟩ := hSw); (go_simp <;> with_reducible rfl)
  simp only [Act.put, tA, tB, tC, tD, tE, tF]
  refine tk (i := 5) (v := ?_) rfl (by kernel_rfl) (fun _ _ _ h => h) (by rfl) ?_ (by assumption) ?_
  rotate_left 1
  ·intro w hSw; (try dsimp only at hSw); (try obtain ⟨hSw1, hSw2⟩ := hSw); (go_simp <;> with_reducible rfl)
  simp only [Act.put, tA, tB, tC, tD, tE, tF]
  refine tk (i := 6) (v := ?_) rfl (by kernel_rfl) (fun _ _ _ h => h) (by rfl) ?_ (by assumption) ?_
  rotate_left 1
  ·intro w hSw; (try dsimp only at hSw); (try obtain ⟨hSw1, hSw2⟩ := hSw); (go_simp <;> with_reducible rfl)
  simp only [Act.put, tA, tB, tC, tD, tE, tF]
  refine last_take (i := 7) (v := undef) rfl (by kernel_rfl) (by kernel_rfl) (by kernel_rfl) (by kernel_rfl) (fun _ _ _ h => h) (Or.inr ⟨by rfl, rfl⟩) (by assumption) ?_
  simp only [Act.put, tA, tB, tC, tD, tE, tF]
  refine last_take (i := 8) (v := undef) rfl (by kernel_rfl) (by kernel_rfl) (by kernel_rfl) (by kernel_rfl) (fun _ _ _ h => h) (Or.inr ⟨by rfl, rfl⟩) (by assumption) ?_
  simp only [Act.put, tA, tB, tC, tD, tE, tF]
  refine last_take (i := 9) (v := undef) rfl (by kernel_rfl) (by kernel_rfl) (by kernel_rfl) (by kernel_rfl) (fun _ _ _ h => h) (Or.inr ⟨by rfl, rfl⟩) (by assumption) ?_
  simp only [Act.put, tA, tB, tC, tD, tE, tF]
  refine last_take (i := 10) (v := undef) rfl (by kernel_rfl) (by kernel_rfl) (by kernel_rfl) (by kernel_rfl) (fun _ _ _ h => h) (Or.inr ⟨by rfl, rfl⟩) (by assumption) ?_
  simp only [Act.put, tA, tB, tC, tD, tE, tF]
  refine last_take (i := 11) (v := undef) rfl (by kernel_rfl) (by kernel_rfl) (by kernel_rfl) (by kernel_rfl) (fun _ _ _ h => h) (Or.inr ⟨by rfl, rfl⟩) (by assumption) ?_
  simp only [Act.put, tA, tB, tC, tD, tE, tF]
  refine last_take (i := 12) (v := undef) rfl (by kernel_rfl) (by kernel_rfl) (by kernel_rfl) (by kernel_rfl) (fun _ _ _ h => h) (Or.inr ⟨by rfl, rfl⟩) (by assumption) ?_
  simp only [Act.put, tA, tB, tC, tD, tE, tF]
  refine last_take (i := 13) (v := undef) rfl (by kernel_rfl) (by kernel_rfl) (by kernel_rfl) (by kernel_rfl) (fun _ _ _ h => h) (Or.inr ⟨by rfl, rfl⟩) (by assumption) ?_
  simp only [Act.put, tA, tB, tC, tD, tE, tF]
  refine last_take (i := 14) (v := undef) rfl (by kernel_rfl) (by kernel_rfl) (by kernel_rfl) (by kernel_rfl) (fun _ _ _ h => h) (Or.inr ⟨by rfl, rfl⟩) (by assumption) ?_
  simp only [Act.put, tA, tB, tC, tD, tE, tF]
  refine tk (i := 15) (v := ?_) rfl (by kernel_rfl) (fun _ _ _ h => h) (by rfl) ?_ (by assumption) ?_
  rotate_left 1
  ·intro w hSw; (try dsimp only at hSw); (try obtain ⟨hSw1, hSw2⟩ := hSw); (go_simp <;> with_reducible rfl)
  simp only [Act.put, tA, tB, tC, tD, tE, tF]
  refine last_one (j := 16) (by kernel_rfl) rfl (fun K hK => ?_)
  rw [if_pos (by rfl)]
  simp only [tA, tB, tC]
  go_simp
  refine hK.out _ _ (fun e => absurd rfl e) ?_
  clear hK K
  refine last_done (by kernel_rfl) ?_ _
  go_wp2_with fail
  go_ret
  exact ⟨rfl, HFin.out⟩
 ·have h3b : ((k : Int) != 3) = true := by simp; omega
  have h3d : decide (k = 3) = false := decide_eq_false h3
  by_cases hsm : s ≤ m
  ·have hsI : (s : Int) ≤ (m : Int) := by omega
   have hsd : decide (s ≤ m) = true := decide_eq_true hsm
   obtain rfl : E = 0 := by rw [HE.out, if_pos ⟨h3, hsm⟩]
   refine region_last (fun W => W.cell? ⟨fb, 13, none⟩ = some (.int .i64 (k : Int)) ∧ W.cell? ⟨fb, 14, none⟩ = some (.int .i64 (s : Int))) 16 mx HSS.out (fun hS => ?_)
   refine tk (i := 0) (v := ?_) rfl (by kernel_rfl) (fun _ _ _ h => h) (by rfl) ?_ (by assumption) ?_
   rotate_left 1
   ·intro w hSw; (try dsimp only at hSw); (try obtain ⟨hSw1, hSw2⟩ := hSw); (go_simp <;> with_reducible rfl)
   simp only [Act.put, tA, tB, tD, tE, tF]
   refine tk (i := 1) (v := ?_) rfl (by kernel_rfl) (fun _ _ _ h => h) (by rfl) ?_ (by assumption) ?_
   rotate_left 1
   ·intro w hSw; (try dsimp only at hSw); (try obtain ⟨hSw1, hSw2⟩ := hSw); (go_simp <;> with_reducible rfl)
   simp only [Act.put, tA, tB, tC, tD, tE, tF]
   refine tk (i := 2) (v := ?_) rfl (by kernel_rfl) (fun _ _ _ h => h) (by rfl) ?_ (by assumption) ?_
   rotate_left 1
   ·intro w hSw; (try dsimp only at hSw); (try obtain ⟨hSw1, hSw2⟩ := hSw); (go_simp <;> with_reducible rfl)
   simp only [Act.put, tA, tB, tC, tD, tE, tF]
   refine tk (i := 3) (v := ?_) rfl (by kernel_rfl) (fun _ _ _ h => h) (by rfl) ?_ (by assumption) ?_
   rotate_left 1
   ·intro w hSw; (try dsimp only at hSw); (try obtain ⟨hSw1, hSw2⟩ := hSw); (go_simp <;> with_reducible rfl)
   simp only [Act.put, tA, tB, tC, tD, tE, tF]
   refine tk (i := 4) (v := ?_) rfl (by kernel_rfl) (fun _ _ _ h => h) (by rfl) ?_ (by assumption) ?_
   rotate_left 1
   ·intro w hSw; (try dsimp only at hSw); (try obtain ⟨hSw1, hSw2⟩ := hSw); (go_simp <;> with_reducible rfl)
   simp only [Act.put, tA, tB, tC, tD, tE, tF]
   refine tk (i := 5) (v := ?_) rfl (by kernel_rfl) (fun _ _ _ h => h) (by rfl) ?_ (by assumption) ?_
   rotate_left 1
   ·intro w hSw; (try dsimp only at hSw); (try obtain ⟨hSw1, hSw2⟩ := hSw); (go_simp <;> with_reducible rfl)
   simp only [Act.put, tA, tB, tC, tD, tE, tF]
   refine tk (i := 6) (v := ?_) rfl (by kernel_rfl) (fun _ _ _ h => h) (by rfl) ?_ (by assumption) ?_
   rotate_left 1
   ·intro w hSw; (try dsimp only at hSw); (try obtain ⟨hSw1, hSw2⟩ := hSw); (go_simp <;> with_reducible rfl)
   simp only [Act.put, tA, tB, tC, tD, tE, tF]
   refine tk (i := 7) (v := ?_) rfl (by kernel_rfl) (fun _ _ _ h => h) (by rfl) ?_ (by assumption) ?_
   rotate_left 1
   ·intro w hSw; (try dsimp only at hSw); (try obtain ⟨hSw1, hSw2⟩ := hSw); (go_simp <;> with_reducible rfl)
   simp only [Act.put, tA, tB, tC, tD, tE, tF]
   refine tk (i := 8) (v := ?_) rfl (by kernel_rfl) (fun _ _ _ h => h) (by rfl) ?_ (by assumption) ?_
   rotate_left 1
   ·intro w hSw; (try dsimp only at hSw); (try obtain ⟨hSw1, hSw2⟩ := hSw); (go_simp <;> with_reducible rfl)
   simp only [Act.put, tA, tB, tC, tD, tE, tF]
   refine tk (i := 9) (v := ?_) rfl (by kernel_rfl) (fun _ _ _ h => h) (by rfl) ?_ (by assumption) ?_
   rotate_left 1
   ·intro w hSw; (try dsimp only at hSw); (try obtain ⟨hSw1, hSw2⟩ := hSw); (go_simp <;> with_reducible rfl)
   simp only [Act.put, tA, tB, tC, tD, tE, tF]
   refine tk (i := 10) (v := ?_) rfl (by kernel_rfl) (fun _ _ _ h => h) (by rfl) ?_ (by assumption) ?_
   rotate_left 1
   ·intro w hSw; (try dsimp only at hSw); (try obtain ⟨hSw1, hSw2⟩ := hSw); (go_simp <;> with_reducible rfl)
   simp only [Act.put, tA, tB, tC, tD, tE, tF]
   refine tk (i := 11) (v := ?_) rfl (by kernel_rfl) (fun _ _ _ h => h) (by rfl) ?_ (by assumption) ?_
   rotate_left 1
   ·intro w hSw; (try dsimp only at hSw); (try obtain ⟨hSw1, hSw2⟩ := hSw); (go_simp <;> with_reducible rfl)
   simp only [Act.put, tA, tB, tC, tD, tE, tF]
   refine tk (i := 12) (v := ?_) rfl (by kernel_rfl) (fun _ _ _ h => h) (by rfl) ?_ (by assumption) ?_
   rotate_left 1
   ·intro w hSw; (try dsimp only at hSw); (try obtain ⟨hSw1, hSw2⟩ := hSw); (go_simp <;> with_reducible rfl)
   simp only [Act.put, tA, tB, tC, tD, tE, tF]
   refine last_one (j := 13) (by kernel_rfl) rfl (fun K hK => ?_)
   rw [if_pos (by rfl)]
   simp only [tA, tB, tC]
   go_simp
   refine HMM.out.mono ?_
   rintro e w1 ⟨rfl, rfl⟩
   refine hK.out _ _ (fun _ => HSS.out) ?_
   clear hK K
   refine last_one (j := 14) (by kernel_rfl) rfl (fun K hK => ?_)
   rw [if_pos (by rfl)]
   simp only [tA, tB, tC]
   go_simp
   refine hK.out _ _ (fun _ => HSS.out) ?_
   clear hK K
   refine last_one (j := 15) (by kernel_rfl) rfl (fun K hK => ?_)
   rw [if_pos (by rfl)]
   simp only [tA, tB, tC]
   go_simp
   refine hK.out _ _ (fun _ => HSS.out) ?_
   clear hK K
   refine last_one (j := 16) (by kernel_rfl) rfl (fun K hK => ?_)
   rw [if_pos (by rfl)]
   simp only [tA, tB, tC]
   go_simp
   refine hK.out _ _ (fun e => absurd rfl e) ?_
   clear hK K
   refine last_done (by kernel_rfl) ?_ _
   go_wp2_with fail
   go_ret
   exact ⟨rfl, HFin.out⟩
  ·have hsI : ¬ (s : Int) ≤ (m : Int) := by omega
   have hsd : decide (s ≤ m) = false := decide_eq_false hsm
   obtain rfl : E = 11 := by rw [HE.out, if_neg (by omega)]
   refine region_last (fun W => W.cell? ⟨fb, 13, none⟩ = some (.int .i64 (k : Int)) ∧ W.cell? ⟨fb, 14, none⟩ = some (.int .i64 (s : Int))) 16 mx HSS.out (fun hS => ?_)
   refine tk (i := 0) (v := ?_) rfl (by kernel_rfl) (fun _ _ _ h => h) (by rfl) ?_ (by assumption) ?_
   rotate_left 1
   ·intro w hSw; (try dsimp only at hSw); (try obtain ⟨hSw1, hSw2⟩ := hSw); (go_simp <;> with_reducible rfl)
   simp only [Act.put, tA, tB, tD, tE, tF]
   refine tk (i := 1) (v := ?_) rfl (by kernel_rfl) (fun _ _ _ h => h) (by rfl) ?_ (by assumption) ?_
   rotate_left 1
   ·intro w hSw; (try dsimp only at hSw); (try obtain ⟨hSw1, hSw2⟩ := hSw); (go_simp <;> with_reducible rfl)
   simp only [Act.put, tA, tB, tC, tD, tE, tF]
   refine tk (i := 2) (v := ?_) rfl (by kernel_rfl) (fun _ _ _ h => h) (by rfl) ?_ (by assumption) ?_
   rotate_left 1
   ·intro w hSw; (try dsimp only at hSw); (try obtain ⟨hSw1, hSw2⟩ := hSw); (go_simp <;> with_reducible rfl)
   simp only [Act.put, tA, tB, tC, tD, tE, tF]
   refine tk (i := 3) (v := ?_) rfl (by kernel_rfl) (fun _ _ _ h => h) (by rfl) ?_ (by assumption) ?_
   rotate_left 1
   ·intro w hSw; (try dsimp only at hSw); (try obtain ⟨hSw1, hSw2⟩ := hSw); (go_simp <;> with_reducible rfl)
   simp only [Act.put, tA, tB, tC, tD, tE, tF]
   refine tk (i := 4) (v := ?_) rfl (by kernel_rfl) (fun _ _ _ h => h) (by rfl) ?_ (by assumption) ?_
   rotate_left 1
   ·intro w hSw; (try dsimp only at hSw); (try obtain ⟨hSw1, hSw2⟩ := hSw); (go_simp <;> with_reducible rfl)
   simp only [Act.put, tA, tB, tC, tD, tE, tF]
   refine tk (i := 5) (v := ?_) rfl (by kernel_rfl) (fun _ _ _ h => h) (by rfl) ?_ (by assumption) ?_
   rotate_left 1
   ·intro w hSw; (try dsimp only at hSw); (try obtain ⟨hSw1, hSw2⟩ := hSw); (go_simp <;> with_reducible rfl)
   simp only [Act.put, tA, tB, tC, tD, tE, tF]
   refine tk (i := 6) (v := ?_) rfl (by kernel_rfl) (fun _ _ _ h => h) (by rfl) ?_ (by assumption) ?_
   rotate_left 1
   ·intro w hSw; (try dsimp only at hSw); (try obtain ⟨hSw1, hSw2⟩ := hSw); (go_simp <;> with_reducible rfl)
   simp only [Act.put, tA, tB, tC, tD, tE, tF]
   refine tk (i := 7) (v := ?_) rfl (by kernel_rfl) (fun _ _ _ h => h) (by rfl) ?_ (by assumption) ?_
   rotate_left 1
   ·intro w hSw; (try dsimp only at hSw); (try obtain ⟨hSw1, hSw2⟩ := hSw); (go_simp <;> with_reducible rfl)
   simp only [Act.put, tA, tB, tC, tD, tE, tF]
   refine tk (i := 8) (v := ?_) rfl (by kernel_rfl) (fun _ _ _ h => h) (by rfl) ?_ (by assumption) ?_
   rotate_left 1
   ·intro w hSw; (try dsimp only at hSw); (try obtain ⟨hSw1, hSw2⟩ := hSw); (go_simp <;> with_reducible rfl)
   simp only [Act.put, tA, tB, tC, tD, tE, tF]
   refine tk (i := 9) (v := ?_) rfl (by kernel_rfl) (fun _ _ _ h => h) (by rfl) ?_ (by assumption) ?_
   rotate_left 1
   ·intro w hSw; (try dsimp only at hSw); (try obtain ⟨hSw1, hSw2⟩ := hSw); (go_simp <;> with_reducible rfl)
   simp only [Act.put, tA, tB, tC, tD, tE, tF]
   refine tk (i := 10) (v := ?_) rfl (by kernel_rfl) (fun _ _ _ h => h) (by rfl) ?_ (by assumption) ?_
   rotate_left 1
   ·intro w hSw; (try dsimp only at hSw); (try obtain ⟨hSw1, hSw2⟩ := hSw); (go_simp <;> with_reducible rfl)
   simp only [Act.put, tA, tB, tC, tD, tE, tF]
   refine tk (i := 11) (v := ?_) rfl (by kernel_rfl) (fun _ _ _ h => h) (by rfl) ?_ (by assumption) ?_
   rotate_left 1
   ·intro w hSw; (try dsimp only at hSw); (try obtain ⟨hSw1, hSw2⟩ := hSw); (go_simp <;> with_reducible rfl)
   simp only [Act.put, tA, tB, tC, tD, tE, tF]
   refine tk (i := 12) (v := ?_) rfl (by kernel_rfl) (fun _ _ _ h => h) (by rfl) ?_ (by assumption) ?_
   rotate_left 1
   ·intro w hSw; (try dsimp only at hSw); (try obtain ⟨hSw1, hSw2⟩ := hSw); (go_simp <;> with_reducible rfl)
   simp only [Act.put, tA, tB, tC, tD, tE, tF]
   refine last_one (j := 13) (by kernel_rfl) rfl (fun K hK => ?_)
   rw [if_pos (by rfl)]
   simp only [tA, tB, tC]
   go_simp
   refine HMM.out.mono ?_
   rintro e w1 ⟨rfl, rfl⟩
   refine hK.out _ _ (fun _ => HSS.out) ?_
   clear hK K
   refine last_one (j := 14) (by kernel_rfl) rfl (fun K hK => ?_)
   rw [if_pos (by rfl)]
   simp only [tA, tB, tC]
   go_simp
   refine hK.out _ _ (fun _ => HSS.out) ?_
   clear hK K
   refine last_one (j := 15) (by kernel_rfl) rfl (fun K hK => ?_)
   rw [if_pos (by rfl)]
   simp only [tA, tB, tC]
   go_simp
   refine hK.out _ _ (fun _ => HSS.out) ?_
   clear hK K
   refine last_one (j := 16) (by kernel_rfl) rfl (fun K hK => ?_)
   rw [if_pos (by rfl)]
   simp only [tA, tB, tC]
   go_simp
   refine hK.out _ _ (fun e => absurd rfl e) ?_
   clear hK K
   refine last_done (by kernel_rfl) ?_ _
   go_wp2_with fail
   go_ret
   exact ⟨rfl, HFin.out⟩
end
end Go.Proofs.YtnjilcokkhodmaaGreatDoor

namespace Go.Proofs.YtnjilcokkhodmaaGreatDoor
open Go.RowKit Go.Shelf
set_option linter.unusedVariables false

theorem keep_xs {S : Nat → Prop} {w w' : World} (h : Xs.Keep S w w') : Keep S w w' := ⟨h.os, h.tape, h.output, h.size, h.block⟩
section
variable {w : World} {fb win dic siz : Nat} {told : Bool} {x0 x1 x2 ws : Value} {r0 r1 r2 : Int} {fl : Nat} {last : Bool} {kind bsz : Nat} {out : Value} {bud : Nat}
set_option maxRecDepth 100000 in
set_option maxHeartbeats 4000000 in
theorem look_sum {oa : Option Addr} {oc ob oo : Nat} {C : List Nat} (h : FrAt w fb win dic siz told x0 x1 x2 ws r0 r1 r2 fl last kind bsz (.slice oa C.length oc) bud) (hC : Bytes w oa oc ob oo C) (a : Option Addr) (cap gb off : Nat) (bs : List Nat) (hB : Bytes w a cap gb off bs) (hl : bs.length = 4) :
  Calls Tryz.prog 12 #[.pointer (some ⟨fb, 0, none⟩), unV 7 a bs.length cap true] w fun e w' => e = .returned (.int .i64 ((if numN bs % 4294967296 = Xs.xxh C % 4294967296 then 0 else 11 : Nat) : Int)) ∧ Keep noBlock w w' := by
 unfold unV
 have hbx := bx w 7 a bs.length cap
 obtain ⟨W0, hW0⟩ : ∃ W0, W0 = w.alloc (.cells #[.int .i64 ((7 : Nat) : Int), .slice a bs.length cap, .bool true] 50) := ⟨_, rfl⟩
 rw [← hW0] at hbx
 obtain ⟨ub, hub⟩ : ∃ ub, ub = w.heap.size := ⟨_, rfl⟩
 rw [← hub] at hbx
 have hf := h.keep hbx.k (fun h => h)
 have b0 : W0.cell? ⟨ub, 0, none⟩ = some (.int .i64 7) := cell_of hbx.o 0
 have b2 : W0.cell? ⟨ub, 2, none⟩ = some (.bool true) := cell_of hbx.o 2
 have HS := (show Hid (W0.drew.cell? ⟨ub, 1, none⟩ = some (.slice a bs.length cap) ∧ W0.drew.cell? ⟨fb, 15, none⟩ = some (.slice oa C.length oc)) from ⟨cell_of hbx.o 1, cell_of hf 15⟩)
 have kd := hbx.k.drew
 have HN := (show Hid (Calls Tryz.prog 20 #[.slice a bs.length cap] W0.drew fun e w' => e = .returned (.int .u64 ((numN bs : Nat) : Int)) ∧ w' = W0.drew) from number_any8 a cap gb off bs W0.drew (hB.keep kd (fun _ h => h)) (by omega))
 have hC2 := hC.keep kd (fun _ h => h)
 have HX := (show Hid (Calls Tryz.prog 28 #[.slice oa C.length oc] W0.drew fun e w' => e = .returned (.int .u64 ((Xs.xxh C : Nat) : Int)) ∧ Keep noBlock W0.drew w') from (Xs.xxh_any oa oc ob oo C W0.drew ⟨hC2.at_, hC2.cells, hC2.lt, hC2.cap, hC2.len⟩).mono (fun e w' h => ⟨h.1, keep_xs h.2⟩))
 have HB := hid hbx.k
 clear h hbx hf hB hl hC hC2 kd
 generalize bs.length = n at *
 generalize C.length = cn at *
 generalize numN bs = N at *
 generalize Xs.xxh C = X at *
 obtain ⟨N4, hN4⟩ : ∃ N4, N4 = N % 4294967296 := ⟨_, rfl⟩
 obtain ⟨X4, hX4⟩ : ∃ X4, X4 = X % 4294967296 := ⟨_, rfl⟩
 have cN : IntKind.u32.wrap (N : Int) = (N4 : Int) := by rw [IntKind.wrap_u32]; omega
 have cX : IntKind.u32.wrap (X : Int) = (X4 : Int) := by rw [IntKind.wrap_u32]; omega
 rw [← hN4, ← hX4]
 clear hN4 hX4
 obtain ⟨E, hE⟩ : ∃ E : Nat, E = if N4 = X4 then 0 else 11 := ⟨_, rfl⟩
 rw [← hE]
 have HE := hid hE
 clear hE
 go_enter Tryz.func12, Tryz.ntmps12
 rw [show ((7 : Nat) : Int) = 7 from rfl] at hW0
 go_wp2_with (rw [← hW0, ← hub]; clear hW0 hub)
 refine region_last (fun W => W.cell? ⟨ub, 1, none⟩ = some (.slice a n cap) ∧ W.cell? ⟨fb, 15, none⟩ = some (.slice oa cn oc)) 11 mx HS.out (fun hS => ?_)
 refine tk (i := 0) (v := ?_) rfl (by kernel_rfl) (fun _ _ _ h => h) (by rfl) ?_ (by assumption) ?_
 rotate_left 1
 ·intro w hSw; (try dsimp only at hSw); (try obtain ⟨hSw1, hSw2⟩ := hSw); (go_simp <;> with_reducible rfl)
 simp only [Act.put, tA, tB, tD, tE, tF]
 refine tk (i := 1) (v := ?_) rfl (by kernel_rfl) (fun _ _ _ h => h) (by rfl) ?_ (by assumption) ?_
 rotate_left 1
 ·intro w hSw; (try dsimp only at hSw); (try obtain ⟨hSw1, hSw2⟩ := hSw); (go_simp <;> with_reducible rfl)
 simp only [Act.put, tA, tB, tC, tD, tE, tF]
 refine tk (i := 4) (v := ?_) rfl (by kernel_rfl) (fun _ _ _ h => h) (by rfl) ?_ (by assumption) ?_
 rotate_left 1
 ·intro w hSw; (try dsimp only at hSw); (try obtain ⟨hSw1, hSw2⟩ := hSw); (go_simp <;> with_reducible rfl)
 simp only [Act.put, tA, tB, tC, tD, tE, tF]
 refine tk (i := 5) (v := ?_) rfl (by kernel_rfl) (fun _ _ _ h => h) (by rfl) ?_ (by assumption) ?_
 rotate_left 1
 ·intro w hSw; (try dsimp only at hSw); (try obtain ⟨hSw1, hSw2⟩ := hSw); (go_simp <;> with_reducible rfl)
 simp only [Act.put, tA, tB, tC, tD, tE, tF]
 refine tk (i := 6) (v := ?_) rfl (by kernel_rfl) (fun _ _ _ h => h) (by rfl) ?_ (by assumption) ?_
 rotate_left 1
 ·intro w hSw; (try dsimp only at hSw); (try obtain ⟨hSw1, hSw2⟩ := hSw); (go_simp <;> with_reducible rfl)
 simp only [Act.put, tA, tB, tC, tD, tE, tF]
 refine tk (i := 7) (v := ?_) rfl (by kernel_rfl) (fun _ _ _ h => h) (by rfl) ?_ (by assumption) ?_
 rotate_left 1
 ·intro w hSw; (try dsimp only at hSw); (try obtain ⟨hSw1, hSw2⟩ := hSw); (go_simp <;> with_reducible rfl)
 simp only [Act.put, tA, tB, tC, tD, tE, tF]
 refine last_one (j := 2) (by kernel_rfl) rfl (fun K hK => ?_)
 rw [if_pos (by rfl)]
 simp only [tA, tB, tC]
 go_simp
 refine HN.out.mono ?_
 rintro e w1 ⟨rfl, rfl⟩
 refine hK.out _ _ (fun _ => HS.out) ?_
 clear hK K
 refine tk (i := 3) (v := ?_) rfl (by kernel_rfl) (fun _ _ _ h => h) (by rfl) ?_ (by assumption) ?_
 rotate_left 1
 ·intro w hSw; (try dsimp only at hSw); (try obtain ⟨hSw1, hSw2⟩ := hSw); (go_simp <;> with_reducible rfl)
 simp only [Act.put, tA, tB, tC, tD, tE, tF]
 refine last_one (j := 8) (by kernel_rfl) rfl (fun K hK => ?_)
 rw [if_pos (by rfl)]
 simp only [tA, tB, tC]
 go_simp
 refine HX.out.mono ?_
 rintro e w1 ⟨rfl, k1⟩
 have HQ := (show Hid (w1.cell? ⟨ub, 1, none⟩ = some (.slice a n cap) ∧ w1.cell? ⟨fb, 15, none⟩ = some (.slice oa cn oc)) from ⟨keep_cellA k1 HS.out.1, keep_cellA k1 HS.out.2⟩)
 have HK1 := hid (HB.out.drew.trans' k1)
 clear k1
 refine hK.out _ _ (fun _ => HQ.out) ?_
 clear hK K
 refine last_one (j := 9) (by kernel_rfl) rfl (fun K hK => ?_)
 rw [if_pos (by rfl)]
 simp only [tA, tB, tC]
 go_simp
 refine hK.out _ _ (fun _ => HQ.out) ?_
 clear hK K
 by_cases he : N4 = X4
 ·subst he
  obtain rfl : E = 0 := by rw [HE.out, if_pos rfl]
  refine last_one (j := 10) (by kernel_rfl) rfl (fun K hK => ?_)
  rw [if_pos (by rfl)]
  simp only [tA, tB, tC]
  go_simp
  refine hK.out _ _ (fun _ => HQ.out) ?_
  clear hK K
  refine last_one (j := 11) (by kernel_rfl) rfl (fun K hK => ?_)
  rw [if_pos (by rfl)]
  simp only [tA, tB, tC]
  go_simp
  refine hK.out _ _ (fun e => absurd rfl e) ?_
  clear hK K
  refine last_done (by kernel_rfl) ?_ _
  go_wp2_with fail
  go_ret
  exact ⟨rfl, HK1.out⟩
 ·obtain rfl : E = 11 := by rw [HE.out, if_neg he]
  have heb : ((N4 : Int) == (X4 : Int)) = false := by simp; omega
  have hed : decide (N4 = X4) = false := decide_eq_false he
  refine last_one (j := 10) (by kernel_rfl) rfl (fun K hK => ?_)
  rw [if_pos (by rfl)]
  simp only [tA, tB, tC]
  go_simp
  refine hK.out _ _ (fun _ => HQ.out) ?_
  clear hK K
  refine last_one (j := 11) (by kernel_rfl) rfl (fun K hK => ?_)
  rw [if_pos (by rfl)]
  simp only [tA, tB, tC]
  go_simp
  refine hK.out _ _ (fun e => absurd rfl e) ?_
  clear hK K
  refine last_done (by kernel_rfl) ?_ _
  go_wp2_with fail
  go_ret
  exact ⟨rfl, HK1.out⟩
end
end Go.Proofs.YtnjilcokkhodmaaGreatDoor

namespace Go.Proofs.YtnjilcokkhodmaaGreatDoor
open Go.RowKit Go.Shelf
set_option linter.unusedVariables false

attribute [local go_sem] Oper.semAt_some sliceSem_eq

theorem run_highu (a : Option Addr) (len cap k : Nat) (h1 : k ≤ cap) (w : World) :
  (sliceSem 22 (.slice a len cap) none (some (.int .u64 (k : Int))) (some (.int .u64 (k : Int)))).run Tryz.prog w = .ok (.slice a k k) w := by
 obtain ⟨i0, hi, hz0, hz1, hz2⟩ := info_parts info5
 simp [sliceSem, Instr.slice, run_underlying Tryz.underlying22, Instr.sliceBounds, Instr.sliceBound, asIntOf, h1, sizeOf, typeInfo, hi]
 intro _
 cases a <;> simp [Addr.add]
theorem run_lowu (a : Option Addr) (len cap k : Nat) (h1 : k ≤ len) (w : World) :
  (sliceSem 22 (.slice a len cap) (some (.int .u64 (k : Int))) none none).run Tryz.prog w = .ok (.slice (if cap = k then a else a.map (fun x => x.add k)) (len - k) (cap - k)) w := by
 obtain ⟨i0, hi, hz0, hz1, hz2⟩ := info_parts info5
 simp [sliceSem, Instr.slice, run_underlying Tryz.underlying22, Instr.sliceBounds, Instr.sliceBound, asIntOf, h1, sizeOf, typeInfo, hi, hz1]
theorem Bytes.takeU {w : World} {a : Option Addr} {cap gb off : Nat} {bs : List Nat} (h : Bytes w a cap gb off bs) (k : Nat) (hk : k ≤ bs.length) : Bytes w a k gb off (bs.take k) := by
 have h2 := (h.take k hk).2
 have hl : (bs.take k).length = k := by rw [List.length_take]; omega
 refine ⟨h2.at_, fun e => ?_, h2.cells, h2.lt, by omega, h2.len⟩
 have := h.nil e
 have := h.cap
 omega
theorem Bytes.dropU {w : World} {a : Option Addr} {cap gb off : Nat} {bs : List Nat} (h : Bytes w a cap gb off bs) (k : Nat) (hk : k ≤ bs.length) :
  ∃ a' off', (∀ W, (sliceSem 22 (.slice a bs.length cap) (some (.int .u64 (k : Int))) none none).run Tryz.prog W = .ok (.slice a' (bs.length - k) (cap - k)) W) ∧ Bytes w a' (cap - k) gb off' (bs.drop k) := by
 obtain ⟨a', off', h1, h2, h3⟩ := h.drop k hk
 have e := (run_low5 a bs.length cap k hk w).symm.trans (h1 w)
 refine ⟨a', off', fun W => ?_, h2⟩
 rw [run_lowu a bs.length cap k hk W]
 have e2 : (if cap = k then a else a.map (fun x => x.add k)) = a' := by
  injection e with e1 e2
  injection e1
 rw [e2]
def CutB (V : World) (C l : Nat) (a : Option Addr) (n cap : Nat) : Prop := V.heap[C]? = some (.cells #[.slice a n cap, .func (.yield l) #[] #[]] 57 (0, 0))
set_option maxRecDepth 100000 in
set_option maxHeartbeats 4000000 in
theorem cutter_short {m : Nat} (hm : 1 ≤ m) (l C : Nat) (a : Option Addr) (n cap p sz : Nat) (hp : p < 8) (hsz : n < sz) (hs : sz < 18446744073709551616) (hn : n < 281474976710656) (V : World) (hC : CutB V C l a n cap)
  (P : Bool → World → Prop) (hY : ∀ m, YieldAt Fence.wide m Tryz.prog l #[unV p none 0 0 false] V fun e W => ∃ r, e = .returned (.bool r) ∧ Hid (P r W)) :
  CallsIn Fence.wide m Tryz.prog 18 #[.pointer (some ⟨C, 0, none⟩), .int .i64 (p : Int), .int .u64 (sz : Int)] V fun e W => e = .returned (.tuple #[.slice none 0 0, .bool false]) ∧ ∃ r, Hid (P r W) := by
 have c0 : V.cell? ⟨C, 0, none⟩ = some (.slice a n cap) := cell_of hC 0
 have c1 : V.cell? ⟨C, 1, none⟩ = some (.func (.yield l) #[] #[]) := cell_of hC 1
 have hgt : decide (n < sz) = true := decide_eq_true hsz
 have hgtI : (n : Int) < (sz : Int) := by omega
 have hwn : IntKind.u64.wrap (n : Int) = (n : Int) := by rw [IntKind.wrap_u64]; omega
 obtain ⟨fn, tmps, assign, body, hy, hR⟩ := hY (m - 1)
 unfold unV at hy
 have HR := hid hR
 clear hC hR hY
 refine callsIn_of_wp Tryz.func18 rfl trivial ?_ rfl
 simp only [Tryz.ntmps18, List.size_toArray, List.length_cons, List.length_nil, Nat.reduceAdd, Nat.reduceSub, Array.replicate_succ, Array.replicate_zero, List.push_toArray, List.append_toArray, List.nil_append, List.cons_append]
 gi_wp2_with fail
 refine HR.out.mono ?_
 rintro e W ⟨r, rfl, h⟩
 gi_wp2_with fail
 go_ret2
 exact ⟨rfl, r, h⟩
set_option maxRecDepth 100000 in
set_option maxHeartbeats 4000000 in
theorem cutter_good {m : Nat} (hm : 1 ≤ m) (l C : Nat) (a : Option Addr) (cap gb off : Nat) (rest : List Nat) (p sz : Nat) (hp : p < 8) (hsz : sz ≤ rest.length) (V : World) (hC : CutB V C l a rest.length cap) (hB : Bytes V a cap gb off rest) (hg : gb ≠ C)
  (P : Bool → World → Prop) (hY : ∀ (a2 : Option Addr) (off2 : Nat) (V' : World), Keep (fun k => k = C) V V' → CutB V' C l a2 (rest.length - sz) (cap - sz) → Bytes V' a2 (cap - sz) gb off2 (rest.drop sz) → Bytes V' a sz gb off (rest.take sz) →
   ∀ m, YieldAt Fence.wide m Tryz.prog l #[unV p a sz sz true] V' fun e W => ∃ r, e = .returned (.bool r) ∧ Hid (P r W)) :
  CallsIn Fence.wide m Tryz.prog 18 #[.pointer (some ⟨C, 0, none⟩), .int .i64 (p : Int), .int .u64 (sz : Int)] V fun e W => ∃ r, e = .returned (.tuple #[.slice a sz sz, .bool r]) ∧ Hid (P r W) := by
 have hlen := hB.len
 have hcap := hB.cap
 obtain ⟨a2, off2, hd1, hd2⟩ := hB.dropU sz hsz
 have hsl1 := run_highu a rest.length cap sz (by omega)
 have hV2 : ∀ v, (V.setCell ⟨C, 0, none⟩ v).drew.heap[C]? = some (.cells (#[.slice a rest.length cap, .func (.yield l) #[] #[]].setIfInBounds 0 v) 57 (0, 0)) := fun v => set_obj (w := V) hC 0 v
 have hk2 : ∀ v, Keep (fun k => k = C) V (V.setCell ⟨C, 0, none⟩ v).drew := fun v => ((Keep.refl (fun k => k = C) V).setCell (p := ⟨C, 0, none⟩) (fun _ => rfl) v).drew
 have HY := hid (fun v => hY a2 off2 (V.setCell ⟨C, 0, none⟩ (.slice a2 (rest.length - sz) (cap - sz))).drew (hk2 _) (hV2 _) (hd2.keep (hk2 _) (fun _ => hg)) ((hB.takeU sz hsz).keep (hk2 _) (fun _ => hg)) v)
 have c0 : V.cell? ⟨C, 0, none⟩ = some (.slice a rest.length cap) := cell_of hC 0
 have hc1 : V.cell? ⟨C, 1, none⟩ = some (.func (.yield l) #[] #[]) := cell_of hC 1
 have hf0 : V.frozen? ⟨C, 0, none⟩ = false := frozen_of hC 0
 have c1 : (V.setCell ⟨C, 0, none⟩ (.slice a2 (rest.length - sz) (cap - sz))).drew.cell? ⟨C, 1, none⟩ = some (.func (.yield l) #[] #[]) := cell_of (hV2 _) 1
 have HS := (show Hid (V.drew.cell? ⟨C, 0, none⟩ = some (.slice a rest.length cap)) from c0)
 obtain ⟨fn, tmps, assign, body, hy, hR⟩ := HY.out (m - 1)
 unfold unV at hy
 have HR := hid hR
 clear hC hB hV2 hk2 hd2 HY hR hY
 generalize rest.length = n at *
 have hgt : decide (n < sz) = false := decide_eq_false (by omega)
 have hgtI : ¬ (n : Int) < (sz : Int) := by omega
 have hwn : IntKind.u64.wrap (n : Int) = (n : Int) := by rw [IntKind.wrap_u64]; omega
 clear hlen hsz
 refine callsIn_of_wp Tryz.func18 rfl trivial ?_ rfl
 simp only [Tryz.ntmps18, List.size_toArray, List.length_cons, List.length_nil, Nat.reduceAdd, Nat.reduceSub, Array.replicate_succ, Array.replicate_zero, List.push_toArray, List.append_toArray, List.nil_append, List.cons_append]
 gi_wp2_with fail
 refine wpIn_calm ?_
 refine wpIn_wide.2 ?_
 refine region_last (fun W => W.cell? ⟨C, 0, none⟩ = some (.slice a n cap)) 17 mx HS.out (fun hS => ?_)
 refine tk (i := 0) (v := ?_) rfl (by kernel_rfl) (fun _ _ _ h => h) (by rfl) ?_ (by assumption) ?_
 rotate_left 1
 ·intro w hSw; (try dsimp only at hSw); (go_simp <;> with_reducible rfl)
 simp only [Act.put, tA, tB, tD, tE, tF]
 refine tk (i := 1) (v := ?_) rfl (by kernel_rfl) (fun _ _ _ h => h) (by rfl) ?_ (by assumption) ?_
 rotate_left 1
 ·intro w hSw; (try dsimp only at hSw); (go_simp <;> with_reducible rfl)
 simp only [Act.put, tA, tB, tC, tD, tE, tF]
 refine tk (i := 2) (v := ?_) rfl (by kernel_rfl) (fun _ _ _ h => h) (by rfl) ?_ (by assumption) ?_
 rotate_left 1
 ·intro w hSw; (try dsimp only at hSw); (go_simp <;> with_reducible rfl)
 simp only [Act.put, tA, tB, tC, tD, tE, tF]
 refine tk (i := 3) (v := ?_) rfl (by kernel_rfl) (fun _ _ _ h => h) (by rfl) ?_ (by assumption) ?_
 rotate_left 1
 ·intro w hSw; (try dsimp only at hSw); (go_simp <;> with_reducible rfl)
 simp only [Act.put, tA, tB, tC, tD, tE, tF]
 refine tk (i := 4) (v := ?_) rfl (by kernel_rfl) (fun _ _ _ h => h) (by rfl) ?_ (by assumption) ?_
 rotate_left 1
 ·intro w hSw; (try dsimp only at hSw); (go_simp <;> with_reducible rfl)
 simp only [Act.put, tA, tB, tC, tD, tE, tF]
 refine tk (i := 5) (v := ?_) rfl (by kernel_rfl) (fun _ _ _ h => h) (by rfl) ?_ (by assumption) ?_
 rotate_left 1
 ·intro w hSw; (try dsimp only at hSw); (go_simp <;> with_reducible rfl)
 simp only [Act.put, tA, tB, tC, tD, tE, tF]
 refine tk (i := 6) (v := ?_) rfl (by kernel_rfl) (fun _ _ _ h => h) (by rfl) ?_ (by assumption) ?_
 rotate_left 1
 ·intro w hSw; (try dsimp only at hSw); (go_simp <;> with_reducible rfl)
 simp only [Act.put, tA, tB, tC, tD, tE, tF]
 refine tk (i := 7) (v := ?_) rfl (by kernel_rfl) (fun _ _ _ h => h) (by rfl) ?_ (by assumption) ?_
 rotate_left 1
 ·intro w hSw; (try dsimp only at hSw); (go_simp <;> with_reducible rfl)
 simp only [Act.put, tA, tB, tC, tD, tE, tF]
 refine tk (i := 8) (v := ?_) rfl (by kernel_rfl) (fun _ _ _ h => h) (by rfl) ?_ (by assumption) ?_
 rotate_left 1
 ·intro w hSw; (try dsimp only at hSw); (go_simp <;> with_reducible rfl)
 simp only [Act.put, tA, tB, tC, tD, tE, tF]
 refine tk (i := 9) (v := ?_) rfl (by kernel_rfl) (fun _ _ _ h => h) (by rfl) ?_ (by assumption) ?_
 rotate_left 1
 ·intro w hSw; (try dsimp only at hSw); (go_simp <;> with_reducible rfl)
 simp only [Act.put, tA, tB, tC, tD, tE, tF]
 refine tk (i := 10) (v := ?_) rfl (by kernel_rfl) (fun _ _ _ h => h) (by rfl) ?_ (by assumption) ?_
 rotate_left 1
 ·intro w hSw; (try dsimp only at hSw); (go_simp <;> with_reducible rfl)
 simp only [Act.put, tA, tB, tC, tD, tE, tF]
 refine tk (i := 11) (v := ?_) rfl (by kernel_rfl) (fun _ _ _ h => h) (by rfl) ?_ (by assumption) ?_
 rotate_left 1
 ·intro w hSw; (try dsimp only at hSw); (go_simp <;> with_reducible rfl)
 simp only [Act.put, tA, tB, tC, tD, tE, tF]
 refine tk (i := 12) (v := ?_) rfl (by kernel_rfl) (fun _ _ _ h => h) (by rfl) ?_ (by assumption) ?_
 rotate_left 1
 ·intro w hSw; (try dsimp only at hSw); (go_simp <;> with_reducible rfl)
 simp only [Act.put, tA, tB, tC, tD, tE, tF]
 refine tk (i := 13) (v := ?_) rfl (by kernel_rfl) (fun _ _ _ h => h) (by rfl) ?_ (by assumption) ?_
 rotate_left 1
 ·intro w hSw; (try dsimp only at hSw); (go_simp <;> with_reducible rfl)
 simp only [Act.put, tA, tB, tC, tD, tE, tF]
 refine last_one (j := 14) (by kernel_rfl) rfl (fun K hK => ?_)
 rw [if_pos (by rfl)]
 simp only [tA, tB, tC]
 go_simp
 refine hK.out _ _ (fun _ => HS.out) ?_
 clear hK K
 refine last_one (j := 15) (by kernel_rfl) rfl (fun K hK => ?_)
 rw [if_pos (by rfl)]
 simp only [tA, tB, tC]
 go_simp
 refine hK.out _ _ (fun _ => HS.out) ?_
 clear hK K
 refine last_one (j := 16) (by kernel_rfl) rfl (fun K hK => ?_)
 rw [if_pos (by rfl)]
 simp only [tA, tB, tC]
 go_simp
 refine hK.out _ _ (fun _ => HS.out) ?_
 clear hK K
 refine last_one (j := 17) (by kernel_rfl) rfl (fun K hK => ?_)
 rw [if_pos (by rfl)]
 simp only [tA, tB, tC]
 go_simp
 refine hK.out _ _ (fun e => absurd rfl e) ?_
 clear hK K
 refine last_done (by kernel_rfl) ?_ _
 simp only [calm]
 gi_wp2_with fail
 refine HR.out.mono ?_
 rintro e W ⟨r, rfl, h⟩
 gi_wp2_with fail
 go_ret2
 exact ⟨r, rfl, h⟩
end Go.Proofs.YtnjilcokkhodmaaGreatDoor

namespace Go.Proofs.YtnjilcokkhodmaaGreatDoor
open Go.RowKit Go.Shelf
set_option linter.unusedVariables false

def UnR (gb C : Nat) (us : List Un) (vs : Array Value) (us' : List Un) (V : World) : Prop :=
 ∃ (u : Un) (a : Option Addr) (cap off : Nat), us = u :: us' ∧ vs = #[unV u.p a u.bs.length cap u.wh] ∧ Bytes V a cap gb off u.bs ∧ C < V.heap.size
/-- What a round leaves as it lay: the cutter's block, the bytes, blocks' boxes. -/
structure PrC (C gb : Nat) (U V : World) : Prop where
 same : ∀ k, (k = C ∨ k = gb) → V.heap[k]? = U.heap[k]?
 rows : ∀ (k : Nat) (cs : Array Value), U.heap[k]? = some (Obj.cells cs 42 (0, 0)) → V.heap[k]? = some (Obj.cells cs 42 (0, 0))
theorem PrC.trans {C gb : Nat} {U V X : World} (h : PrC C gb U V) (k : PrC C gb V X) : PrC C gb U X := ⟨fun i hi => (k.same i hi).trans (h.same i hi), fun i cs hi => k.rows i cs (h.rows i cs hi)⟩
/-- Who takes the units. -/
structure Taker (l C gb : Nat) (J : List Un → World → Prop) (Jx : World → Prop) : Prop where
 j : ∀ i X Y, J i X → Keep (fun k => k = C) X Y → J i Y
 x : ∀ X Y, Jx X → Keep noBlock X Y → Jx Y
 y : ∀ us vs us' V, UnR gb C us vs us' V → J us V → ∀ m, YieldAt Fence.wide m Tryz.prog l vs V fun e V' => (e = .returned (.bool true) ∧ J us' V' ∧ PrC C gb V V') ∨ (e = .returned (.bool false) ∧ Jx V' ∧ PrC C gb V V')
 g : gb ≠ C
/-- Cutting under way. -/
structure Cutg (J : List Un → World → Prop) (C l gb : Nat) (us : List Un) (a : Option Addr) (cap off : Nat) (rest : List Nat) (V : World) : Prop where
 j : J us V
 c : CutB V C l a rest.length cap
 b : Bytes V a cap gb off rest
theorem Cutg.quiet {J : List Un → World → Prop} {Jx : World → Prop} {C l gb : Nat} {us : List Un} {a : Option Addr} {cap off : Nat} {rest : List Nat} {V V' : World} (h : Cutg J C l gb us a cap off rest V) (X : Taker l C gb J Jx) (hk : Keep noBlock V V') : Cutg J C l gb us a cap off rest V' :=
 ⟨X.j _ _ _ h.j (hk.mono (fun _ _ q => q.elim)), hk.obj h.c (fun q => q), h.b.keep hk (fun _ q => q)⟩
theorem bytes_same {w w' : World} {a : Option Addr} {cap gb off : Nat} {bs : List Nat} (h : Bytes w a cap gb off bs) (e : w'.heap[gb]? = w.heap[gb]?) : Bytes w' a cap gb off bs :=
 ⟨h.at_, h.nil, fun j hj => (World.cell?_of_block e).trans (h.cells j hj), h.lt, h.cap, h.len⟩
theorem cut_step {l C gb : Nat} {J : List Un → World → Prop} {Jx : World → Prop} (X : Taker l C gb J Jx) (p sz : Nat) (hp : p < 8) (hs : sz < 18446744073709551616) (a : Option Addr) (cap off : Nat) (rest : List Nat) (K : List Nat → List Nat → List Un) (V : World)
  (h : Cutg J C l gb (cutU p sz rest K) a cap off rest V) :
  Calls Tryz.prog 18 #[.pointer (some ⟨C, 0, none⟩), .int .i64 (p : Int), .int .u64 (sz : Int)] V fun e W => ∃ (b : Option Addr) (s : Nat) (r : Bool), e = .returned (.tuple #[.slice b s s, .bool r]) ∧
   Hid ((r = true ∧ sz ≤ rest.length ∧ s = sz ∧ Bytes W b s gb off (rest.take sz) ∧ ∃ a2 off2, Cutg J C l gb (K (rest.take sz) (rest.drop sz)) a2 (cap - sz) off2 (rest.drop sz) W) ∨ (r = false ∧ (J [] W ∨ Jx W))) ∧ Hid (∀ (k : Nat) (cs : Array Value), V.heap[k]? = some (Obj.cells cs 42 (0, 0)) → W.heap[k]? = some (Obj.cells cs 42 (0, 0))) := by
 by_cases hl : rest.length < sz
 ·have hj := h.j
  rw [cutU_lt hl] at hj
  refine (callsIn_wide (n := 4)).1 ((cutter_short (by omega) l C a rest.length cap p sz hp hl hs h.b.len V h.c (fun r W => (if r then J [] W else Jx W) ∧ ∀ (k : Nat) (cs : Array Value), V.heap[k]? = some (Obj.cells cs 42 (0, 0)) → W.heap[k]? = some (Obj.cells cs 42 (0, 0))) (fun m => ?_)).mono ?_)
  ·have hy := X.y [⟨p, [], false⟩] #[unV p none 0 0 false] [] V ⟨⟨p, [], false⟩, none, 0, 0, rfl, rfl, bytes_none V gb, obj_lt h.c⟩ hj m
   refine hy.mono ?_
   rintro e V' (⟨rfl, q, q2⟩ | ⟨rfl, q, q2⟩)
   ·exact ⟨true, rfl, q, q2.rows⟩
   ·exact ⟨false, rfl, q, q2.rows⟩
  ·rintro e W ⟨rfl, r, hr⟩
   refine ⟨none, 0, false, rfl, .inr ⟨rfl, ?_⟩, hr.out.2⟩
   cases r with
   | true => exact .inl hr.out.1
   | false => exact .inr hr.out.1
 ·have hj := h.j
  rw [cutU_ge (by omega)] at hj
  have hlen : (rest.take sz).length = sz := by rw [List.length_take]; omega
  refine (callsIn_wide (n := 4)).1 ((cutter_good (by omega) l C a cap gb off rest p sz hp (by omega) V h.c h.b X.g (fun r W => ((r = true ∧ Bytes W a sz gb off (rest.take sz) ∧ ∃ a2 off2, Cutg J C l gb (K (rest.take sz) (rest.drop sz)) a2 (cap - sz) off2 (rest.drop sz) W) ∨ (r = false ∧ Jx W)) ∧ ∀ (k : Nat) (cs : Array Value), V.heap[k]? = some (Obj.cells cs 42 (0, 0)) → W.heap[k]? = some (Obj.cells cs 42 (0, 0))) (fun a2 off2 V' hk hc hb hb2 m => ?_)).mono ?_)
  ·have hy := X.y _ #[unV p a sz sz true] (K (rest.take sz) (rest.drop sz)) V' ⟨⟨p, rest.take sz, true⟩, a, sz, off, rfl, by rw [hlen], hb2, obj_lt hc⟩ (X.j _ _ _ hj hk) m
   refine hy.mono ?_
   rintro e V2 (⟨rfl, q, q2⟩ | ⟨rfl, q, q2⟩)
   ·refine ⟨true, rfl, .inl ⟨rfl, bytes_same hb2 (q2.same gb (.inr rfl)), a2, off2, q, ?_, bytes_same hb (q2.same gb (.inr rfl))⟩, fun k cs hk2 => q2.rows k cs (hk.obj hk2 (fun e => by rw [e, show V.heap[C]? = _ from h.c] at hk2; cases hk2))⟩
    unfold CutB
    rw [q2.same C (.inl rfl), List.length_drop]
    exact hc
   ·exact ⟨false, rfl, .inr ⟨rfl, q⟩, fun k cs hk2 => q2.rows k cs (hk.obj hk2 (fun e => by rw [e, show V.heap[C]? = _ from h.c] at hk2; cases hk2))⟩
  ·rintro e W ⟨r, rfl, hr⟩
   refine ⟨a, sz, r, rfl, ?_, hr.out.2⟩
   rcases hr.out.1 with ⟨rfl, q1, q2⟩ | ⟨rfl, q⟩
   ·exact .inl ⟨rfl, by omega, rfl, q1, q2⟩
   ·exact .inr ⟨rfl, .inr q⟩
theorem num4_lt {bs : List Nat} (h : ∀ j : Nat, bs[j]?.getD 0 < 256) (hl : bs.length ≤ 8) : numN bs < 18446744073709551616 := by
 have h1 := numN_lt (l := bs) (fun b hb => lt_mem h b hb)
 have h2 : 256 ^ bs.length ≤ 256 ^ 8 := Nat.pow_le_pow_right (by omega) hl
 have h3 : (256 : Nat) ^ 8 = 18446744073709551616 := by decide
 omega
set_option maxRecDepth 100000 in
set_option maxHeartbeats 4000000 in
theorem skippable_any {l C gb : Nat} {J : List Un → World → Prop} {Jx : World → Prop} (X : Taker l C gb J Jx) (a : Option Addr) (cap off : Nat) (rest : List Nat) (V : World) (h : Cutg J C l gb (skipU rest) a cap off rest V) :
    Calls Tryz.prog 21 #[.pointer (some ⟨C, 0, none⟩)] V fun e W => (∃ v, e = .returned v) ∧ (J [] W ∨ Jx W) := by
  have HX := hid X
  have HC := hid (cut_step X 1 4 (by omega) (by omega) a cap off rest (fun b r => cutU 2 (numN b) r fun _ _ => []) V h)
  clear h X
  go_enter Tryz.func21, Tryz.ntmps21
  go_wp2_with fail
  refine HC.out.mono ?_
  rintro e W ⟨b, s, r, rfl, hr, hrw⟩
  clear hrw
  cases r with
  | false =>
    have HF := (show Hid (J [] W ∨ Jx W) from by
      rcases hr.out with ⟨q, -⟩ | ⟨-, q⟩
      · cases q
      · exact q)
    clear hr HC
    go_wp2_with fail
    go_end0
    exact ⟨⟨_, rfl⟩, HF.out⟩
  | true =>
    obtain ⟨hs4, hb, a2, off2, hc⟩ : s = 4 ∧ Bytes W b s gb off (rest.take 4) ∧ ∃ a2 off2, Cutg J C l gb (cutU 2 (numN (rest.take 4)) (rest.drop 4) fun _ _ => []) a2 (cap - 4) off2 (rest.drop 4) W := by
      rcases hr.out with ⟨-, q1, q2, q3, a2, off2, q4⟩ | ⟨q, -⟩
      · exact ⟨q2, q3, a2, off2, q4⟩
      · cases q
    have hle : 4 ≤ rest.length := by
      rcases hr.out with ⟨-, q1, -⟩ | ⟨q, -⟩
      · exact q1
      · cases q
    subst hs4
    have hl4 : (rest.take 4).length = 4 := by rw [List.length_take]; omega
    have hn := number_any8 b 4 gb off (rest.take 4) W hb (by omega)
    rw [hl4] at hn
    have HN := hid hn
    have HC2 := hid (cut_step HX.out (p := 2) (numN (rest.take 4)) (by omega) (num4_lt hb.lt (by omega)) a2 (cap - 4) off2 (rest.drop 4) (fun _ _ => []) W hc)
    clear hr HC hn hb hc hl4 hle
    go_wp2_with fail
    refine HN.out.mono ?_
    rintro e W1 ⟨rfl, rfl⟩
    go_wp2_with fail
    refine HC2.out.mono ?_
    rintro e W2 ⟨b2, s2, r2, rfl, hr2, -⟩
    have HF := (show Hid (J [] W2 ∨ Jx W2) from by
      rcases hr2.out with ⟨-, q1, q2, q3, a3, off3, q4⟩ | ⟨-, q⟩
      · exact .inl q4.j
      · exact q)
    clear hr2 HC2 HN
    go_wp2_with fail
    go_end0
    exact ⟨⟨_, rfl⟩, HF.out⟩
end Go.Proofs.YtnjilcokkhodmaaGreatDoor

namespace Go.Proofs.YtnjilcokkhodmaaGreatDoor
open Go.RowKit Go.Shelf
set_option linter.unusedVariables false

def cutLen (C : Nat) (W : World) : Nat := match W.cell? ⟨C, 0, none⟩ with
 | some (.slice _ n _) => n
 | _ => 0
def cutM (C : Nat) (v3 v5 : Value) (W : World) : Nat := match v3, v5 with
 | .bool true, .bool false => cutLen C W + 1
 | _, _ => 0
theorem cutLen_eq {J : List Un → World → Prop} {C l gb : Nat} {us : List Un} {a : Option Addr} {cap off : Nat} {rest : List Nat} {V : World} (h : Cutg J C l gb us a cap off rest V) : cutLen C V = rest.length := by
 unfold cutLen
 rw [show V.cell? ⟨C, 0, none⟩ = some (.slice a rest.length cap) from cell_of h.c 0]
theorem blocksU_eq (s : Bool) (rest : List Nat) : blocksU s (rest.length + 1) rest = cutU 5 3 rest fun b r => cutU 6 (blBeh (numN b)) r fun _ r2 => if blLast (numN b) then sumU s r2 else blocksU s (r2.length + 1) r2 := by
 show (cutU 5 3 rest fun b r => cutU 6 (blBeh (numN b)) r fun _ r2 => if blLast (numN b) then sumU s r2 else blocksU s rest.length r2) = _
 by_cases a1 : 3 ≤ rest.length
 ·rw [cutU_ge a1, cutU_ge a1]
  congr 1
  by_cases b1 : blBeh (numN (rest.take 3)) ≤ (rest.drop 3).length
  ·rw [cutU_ge b1, cutU_ge b1]
   congr 1
   rw [blocksU_fuel s rest.length (((rest.drop 3).drop (blBeh (numN (rest.take 3)))).length + 1) _ (by simp; omega) (by omega)]
  ·rw [cutU_lt (by omega), cutU_lt (by omega)]
 ·rw [cutU_lt (by omega), cutU_lt (by omega)]
def BlS (J : List Un → World → Prop) (Jx : World → Prop) (C l gb : Nat) (s ok last : Bool) (W : World) : Prop :=
 if ok then (if last then ∃ a cap off rest, Cutg J C l gb (sumU s rest) a cap off rest W else ∃ a cap off rest, Cutg J C l gb (blocksU s (rest.length + 1) rest) a cap off rest W) else (J [] W ∨ Jx W)
theorem num3_lt {bs : List Nat} (h : ∀ j : Nat, bs[j]?.getD 0 < 256) (hl : bs.length = 3) : numN bs < 16777216 := by
 have h1 := numN_lt (l := bs) (fun b hb => lt_mem h b hb)
 rw [hl] at h1
 exact h1
theorem blBeh_lt {n : Nat} (h : n < 16777216) : blBeh n < 18446744073709551616 := by
 unfold blBeh blSize
 split <;> omega
set_option maxRecDepth 100000 in
set_option maxHeartbeats 8000000 in
theorem frame_any {l C gb : Nat} {J : List Un → World → Prop} {Jx : World → Prop} (X : Taker l C gb J Jx) (a : Option Addr) (cap off : Nat) (rest : List Nat) (V : World) (h : Cutg J C l gb (frameU rest) a cap off rest V) :
    Calls Tryz.prog 22 #[.pointer (some ⟨C, 0, none⟩)] V fun e W => (∃ v, e = .returned v) ∧ (J [] W ∨ Jx W) := by
  have HX := hid X
  have HC := hid (cut_step X 3 1 (by omega) (by omega) a cap off rest (fun b r => cutU 4 (hdLen (b[0]?.getD 0)) r fun _ r2 => blocksU (flagB (b[0]?.getD 0) 2) (r2.length + 1) r2) V h)
  clear h X
  go_enter Tryz.func22, Tryz.ntmps22
  go_wp2_with fail
  refine HC.out.mono ?_
  rintro e W ⟨b, s, r, rfl, hr, -⟩
  cases r with
  | false =>
    have HF := (show Hid (J [] W ∨ Jx W) from by
      rcases hr.out with ⟨q, -⟩ | ⟨-, q⟩
      · cases q
      · exact q)
    clear hr HC
    go_wp2_with fail
    refine bodyPost_ret (results_none rfl _ _ _) rfl ?_
    exact ⟨⟨_, rfl⟩, HF.out⟩
  | true =>
    obtain ⟨hs1, hb, a2, off2, hc⟩ : s = 1 ∧ Bytes W b s gb off (rest.take 1) ∧ ∃ a2 off2, Cutg J C l gb (cutU 4 (hdLen ((rest.take 1)[0]?.getD 0)) (rest.drop 1) fun _ r2 => blocksU (flagB ((rest.take 1)[0]?.getD 0) 2) (r2.length + 1) r2) a2 (cap - 1) off2 (rest.drop 1) W := by
      rcases hr.out with ⟨-, q1, q2, q3, a2, off2, q4⟩ | ⟨q, -⟩
      · exact ⟨q2, q3, a2, off2, q4⟩
      · cases q
    have hle : 1 ≤ rest.length := by
      rcases hr.out with ⟨-, q1, -⟩ | ⟨q, -⟩
      · exact q1
      · cases q
    subst hs1
    have hl1 : (rest.take 1).length = 1 := by rw [List.length_take]; omega
    obtain rfl : b = some ⟨gb, off, none⟩ := by
      rcases hb.at_ with q | q
      · exact q
      · rw [q] at hl1; cases hl1
    have hc0 := hb.cells 0 (by omega)
    have hd := hb.lt 0
    rw [Nat.add_zero] at hc0
    obtain ⟨d, hde⟩ : ∃ d, d = (rest.take 1)[0]?.getD 0 := ⟨_, rfl⟩
    rw [← hde] at hc0 hd hc
    have HH := hid (show ∀ W : World, _ from fun W => hdLen_any d hd W)
    have HSm := hid (show ∀ W : World, _ from fun W => summed_any d hd W)
    have hhb : hdLen d < 18446744073709551616 := by
      have b1 : winLen d ≤ 1 := by unfold winLen; split <;> omega
      have b2 : dicLen d ≤ 4 := by unfold dicLen; split <;> omega
      have b3 : sizLen d ≤ 8 := by
        unfold sizLen
        repeat' split
        all_goals omega
      unfold hdLen
      omega
    have HC2 := hid (cut_step HX.out 4 (hdLen d) (by omega) hhb a2 (cap - 1) off2 (rest.drop 1) (fun _ r2 => blocksU (flagB d 2) (r2.length + 1) r2) W hc)
    generalize hdLen d = hd4 at *
    clear hr HC hb hc hl1 hle hde hhb
    go_wp2_with fail
    refine (HH.out _).mono ?_
    rintro e W1 ⟨rfl, rfl⟩
    go_wp2_with fail
    refine HC2.out.mono ?_
    rintro e W2 ⟨b2, s2, r2, rfl, hr2, -⟩
    generalize hfl : flagB d 2 = fl at *
    have HB := (show Hid (BlS J Jx C l gb fl r2 false W2) from by
      unfold BlS
      rcases hr2.out with ⟨rfl, q1, q2, q3, a3, off3, q4⟩ | ⟨rfl, q⟩
      · exact ⟨_, _, _, _, q4⟩
      · exact q)
    clear hr2 HC2 HH hfl
    go_wp2_with fail
    go_loopw [3, 5] (fun v3 v5 wr => ∃ ok last : Bool, v3 = .bool ok ∧ v5 = .bool last ∧ Hid (BlS J Jx C l gb fl ok last wr)) (fun v3 v5 wr => cutM C v3 v5 wr)
    case atStart => exact ⟨r2, false, rfl, rfl, HB.out⟩
    case round =>
      clear HB
      obtain ⟨ok, last, rfl, rfl, HI⟩ := hrel
      cases ok with
      | false =>
        have HF := (show Hid (J [] wr ∨ Jx wr) from HI.out)
        clear HI HSm
        go_wp2_with fail
        go_end0
        exact ⟨⟨_, rfl⟩, HF.out⟩
      | true =>
        cases last with
        | true =>
          obtain ⟨a3, cap3, off3, rest3, hc3⟩ := HI.out
          cases fl with
          | false =>
            have HF := (show Hid (J [] wr ∨ Jx wr) from .inl hc3.j)
            clear HI hc3
            go_wp2_with fail
            refine (HSm.out _).mono ?_
            rintro e W3 ⟨rfl, rfl⟩
            go_wp2_with fail
            go_end0
            exact ⟨⟨_, rfl⟩, HF.out⟩
          | true =>
            have HC3 := hid (cut_step HX.out 7 4 (by omega) (by omega) a3 cap3 off3 rest3 (fun _ _ => []) wr hc3)
            clear HI hc3
            go_wp2_with fail
            refine (HSm.out _).mono ?_
            rintro e W3 ⟨rfl, rfl⟩
            go_wp2_with fail
            refine HC3.out.mono ?_
            rintro e W4 ⟨b3, s3, r3, rfl, hr3, -⟩
            have HF := (show Hid (J [] W4 ∨ Jx W4) from by
              rcases hr3.out with ⟨-, q1, q2, q3, a3, off3, q4⟩ | ⟨-, q⟩
              · exact .inl q4.j
              · exact q)
            clear hr3 HC3
            go_wp2_with fail
            go_end0
            exact ⟨⟨_, rfl⟩, HF.out⟩
        | false =>
          obtain ⟨a3, cap3, off3, rest3, hc3⟩ := HI.out
          have HL := hid (cutLen_eq hc3)
          rw [blocksU_eq] at hc3
          have HC3 := hid (cut_step HX.out 5 3 (by omega) (by omega) a3 cap3 off3 rest3 (fun b r => cutU 6 (blBeh (numN b)) r fun _ r2 => if blLast (numN b) then sumU fl r2 else blocksU fl (r2.length + 1) r2) wr hc3)
          clear HI hc3
          go_wp2_with fail
          refine HC3.out.mono ?_
          rintro e W4 ⟨b3, s3, r3, rfl, hr3, -⟩
          cases r3 with
          | false =>
            have HF := (show Hid (J [] W4 ∨ Jx W4) from by
              rcases hr3.out with ⟨q, -⟩ | ⟨-, q⟩
              · cases q
              · exact q)
            clear hr3 HC3
            go_wp2_with fail
            refine bodyPost_ret (results_none rfl _ _ _) rfl ?_
            exact ⟨⟨_, rfl⟩, HF.out⟩
          | true =>
            obtain ⟨hle, hs3, hb3, a4, off4, hc4⟩ : 3 ≤ rest3.length ∧ s3 = 3 ∧ Bytes W4 b3 s3 gb off3 (rest3.take 3) ∧ ∃ a2 off2, Cutg J C l gb (cutU 6 (blBeh (numN (rest3.take 3))) (rest3.drop 3) fun _ r2 => if blLast (numN (rest3.take 3)) then sumU fl r2 else blocksU fl (r2.length + 1) r2) a2 (cap3 - 3) off2 (rest3.drop 3) W4 := by
              rcases hr3.out with ⟨-, q1, q2, q3, a2, off2, q4⟩ | ⟨q, -⟩
              · exact ⟨q1, q2, q3, a2, off2, q4⟩
              · cases q
            subst hs3
            have hl3 : (rest3.take 3).length = 3 := by rw [List.length_take]; omega
            obtain ⟨N, hN⟩ : ∃ N, N = numN (rest3.take 3) := ⟨_, rfl⟩
            have hNb : N < 16777216 := by rw [hN]; exact num3_lt hb3.lt hl3
            have hbo := blockOf_any b3 3 gb off3 (rest3.take 3) W4 hb3 hl3
            rw [hl3, ← hN] at hbo
            rw [← hN] at hc4
            have HBo := hid hbo
            have HC4 := hid hc4
            have HR3 := hid (show rest3.length = (rest3.drop 3).length + 3 from by rw [List.length_drop]; omega)
            have HBe := hid (fun W : World => blBeh_any (blLast N) N hNb W)
            have HBl := hid (blBeh_lt hNb)
            generalize hD : rest3.drop 3 = D at *
            clear hr3 HC3 hN hbo hc4 hb3 hl3 hle hNb hD
            go_wp2_with fail
            refine HBo.out.mono ?_
            rintro e W5 ⟨rfl, k5⟩
            have HK5 := hid k5
            clear HBo k5
            generalize blKind N = kd at *
            generalize blSize N = sz at *
            have ea := alloc_new W5 (.cells #[.bool (blLast N), .int .i64 (kd : Int), .int .i64 (sz : Int)] 42)
            have HKa := hid ((Keep.refl noBlock W5).alloc (.cells #[.bool (blLast N), .int .i64 (kd : Int), .int .i64 (sz : Int)] 42))
            go_wp2_with fail
            refine (HBe.out _).mono ?_
            rintro e W7 ⟨rfl, k7⟩
            have hk67 := (HK5.out.trans' HKa.out).trans' k7
            have HC5 := hid (cut_step HX.out 6 (blBeh N) (by omega) HBl.out a4 (cap3 - 3) off4 D (fun _ r2 => if blLast N then sumU fl r2 else blocksU fl (r2.length + 1) r2) W7 (HC4.out.quiet HX.out hk67))
            have HO7 := hid (k7.obj ea (fun h => h))
            generalize blBeh N = bh at *
            clear HBe k7 hk67 ea HKa HK5 HC4 HBl
            go_wp2_with fail
            refine HC5.out.mono ?_
            rintro e W8 ⟨b5, s5, r5, rfl, hr5, hrw⟩
            have HM := (show Hid (cutM C (.bool r5) (.bool (blLast N)) W8 < rest3.length + 1 ∧ BlS J Jx C l gb fl r5 (blLast N) W8) from by
              have h3 := HR3.out
              rcases hr5.out with ⟨rfl, q1, q2, q3, a5, off5, q4⟩ | ⟨rfl, q⟩
              · refine ⟨?_, ?_⟩
                · cases blLast N with
                  | true => exact Nat.zero_lt_succ _
                  | false =>
                    show cutLen C W8 + 1 < _
                    rw [cutLen_eq q4, List.length_drop]
                    omega
                · unfold BlS
                  cases hb : blLast N with
                  | true => rw [hb] at q4; exact ⟨_, _, _, _, q4⟩
                  | false => rw [hb] at q4; exact ⟨_, _, _, _, q4⟩
              · exact ⟨by cases blLast N <;> exact Nat.zero_lt_succ _, q⟩)
            have e8 : W8.cell? ⟨W5.heap.size, 0, none⟩ = some (.bool (blLast N)) := cell_of (hrw.out _ _ HO7.out) 0
            clear hr5 HC5 HO7 hrw
            go_wp2_with fail
            go_roundw
            case rel => exact ⟨r5, blLast N, rfl, rfl, HM.out.2⟩
            case measure =>
              have h1 := HM.out.1
              have h2 := HL.out
              show _ < cutLen C wr + 1
              omega
end Go.Proofs.YtnjilcokkhodmaaGreatDoor

namespace Go.Proofs.YtnjilcokkhodmaaGreatDoor
open Go.RowKit Go.Shelf
set_option linter.unusedVariables false

set_option maxHeartbeats 1000000 in
theorem units_fn (a : Option Addr) (len cap : Nat) (w : World) :
  Calls Tryz.prog 11 #[.slice a len cap] w fun e w' => e = .returned (.func (.func 17) #[] #[.pointer (some ⟨w.heap.size, 0, none⟩)]) ∧ w' = w.alloc (.cells #[.slice a len cap] 22) := by
 go_enter Tryz.func11, Tryz.ntmps11
 go_wp2_with fail
 go_ret
 exact ⟨rfl, rfl⟩
theorem run_store_fn (a : Addr) (fn : Fn) (first captured : Array Value) (m : Mode) (w : World) : (store a (.func fn first captured) m).run Tryz.prog w = stored Tryz.prog w a (.func fn first captured) m := run_store Tryz.prog w a _ m rfl
section
attribute [local go_sem] run_store_fn
set_option maxRecDepth 100000 in
set_option maxHeartbeats 8000000 in
theorem units1_any (l Bs gb : Nat) (a : Option Addr) (cap off : Nat) (b : List Nat) (J : List Un → World → Prop) (Jx : World → Prop) (W : World) (X : Taker l W.heap.size gb J Jx)
    (hBs : W.heap[Bs]? = some (.cells #[.slice a b.length cap] 22 (0, 0))) (hb : Bytes W a cap gb off b) (h0 : J (unitsU b) W) :
    Calls Tryz.prog 17 #[.func (.yield l) #[] #[], .pointer (some ⟨Bs, 0, none⟩)] W fun e W' => (∃ v, e = .returned v) ∧ (J [] W' ∨ Jx W') := by
  have c0 : W.cell? ⟨Bs, 0, none⟩ = some (.slice a b.length cap) := cell_of hBs 0
  obtain ⟨C, hC⟩ : ∃ C, C = W.heap.size := ⟨_, rfl⟩
  rw [← hC] at X
  obtain ⟨W0, hW0⟩ : ∃ W0, W0 = W.alloc (.cells #[.slice a b.length cap, .func (.yield l) #[] #[]] 57) := ⟨_, rfl⟩
  have k0 : Keep noBlock W W0 := by rw [hW0]; exact (Keep.refl _ W).alloc _
  have hcg : Cutg J C l gb (unitsU b) a cap off b W0 := ⟨X.j _ _ _ h0 (k0.mono (fun _ _ q => q.elim)), by rw [hW0, hC]; exact alloc_new W _, hb.keep k0 (fun _ q => q)⟩
  have HC := hid (cut_step X 0 4 (by omega) (by omega) a cap off b (fun f r => if skipB (numN f) then skipU r else if numN f = 4247762216 then frameU r else []) W0 hcg)
  have HX := hid X
  clear hBs hb h0 hcg X k0

  generalize hbn : b.length = n at *
  have HN0 := hid hbn
  clear hbn
  go_enter Tryz.func17, Tryz.ntmps17
  go_wp2_with (rw [← hW0, ← hC]; clear hW0 hC)
  refine HC.out.mono ?_
  rintro e W1 ⟨b1, s, r, rfl, hr, -⟩
  cases r with
  | false =>
    have HF := (show Hid (J [] W1 ∨ Jx W1) from by
      rcases hr.out with ⟨q, -⟩ | ⟨-, q⟩
      · cases q
      · exact q)
    clear hr HC
    go_wp2_with fail
    go_end0
    exact ⟨⟨_, rfl⟩, HF.out⟩
  | true =>
    obtain ⟨hle, hs, hb1, a2, off2, hc⟩ : 4 ≤ b.length ∧ s = 4 ∧ Bytes W1 b1 s gb off (b.take 4) ∧ ∃ a2 off2, Cutg J C l gb (if skipB (numN (b.take 4)) then skipU (b.drop 4) else if numN (b.take 4) = 4247762216 then frameU (b.drop 4) else []) a2 (cap - 4) off2 (b.drop 4) W1 := by
      rcases hr.out with ⟨-, q1, q2, q3, a2, off2, q4⟩ | ⟨q, -⟩
      · exact ⟨by rw [HN0.out]; exact q1, q2, q3, a2, off2, q4⟩
      · cases q
    subst hs
    have hl4 : (b.take 4).length = 4 := by rw [List.length_take]; omega
    have hn := number_any8 b1 4 gb off (b.take 4) W1 hb1 (by omega)
    rw [hl4] at hn
    have hN := num4_lt hb1.lt (by omega)
    obtain ⟨N, hNe⟩ : ∃ N, N = numN (b.take 4) := ⟨_, rfl⟩
    rw [← hNe] at hn hN hc
    have HN := hid hn
    have HS := hid (fun W : World => skip_any N hN W)
    cases hsk : skipB N with
    | true =>
      rw [hsk] at HS
      rw [if_pos hsk] at hc
      have HC2 := hid (skippable_any HX.out a2 (cap - 4) off2 (b.drop 4) W1 hc)
      clear hr HC hn hb1 hc hl4 hle hN hNe hsk
      go_wp2_with fail
      refine HN.out.mono ?_
      rintro e W2 ⟨rfl, rfl⟩
      go_wp2_with fail
      refine (HS.out _).mono ?_
      rintro e W2 ⟨rfl, rfl⟩
      go_wp2_with fail
      refine HC2.out.mono ?_
      rintro e W2 ⟨⟨v, rfl⟩, h2⟩
      have HF := hid h2
      clear h2 HC2 HN HS
      go_wp2_with fail
      go_end0
      exact ⟨⟨_, rfl⟩, HF.out⟩
    | false =>
      rw [hsk] at HS
      rw [if_neg (by rw [hsk]; decide)] at hc
      by_cases hf : N = 4247762216
      · rw [if_pos hf] at hc
        have HC2 := hid (frame_any HX.out a2 (cap - 4) off2 (b.drop 4) W1 hc)
        clear hr HC hn hb1 hc hl4 hle hN hNe hsk
        subst hf
        rw [show ((4247762216 : Nat) : Int) = 4247762216 from rfl] at HN HS
        go_wp2_with fail
        refine HN.out.mono ?_
        rintro e W2 ⟨rfl, rfl⟩
        go_wp2_with fail
        refine (HS.out _).mono ?_
        rintro e W2 ⟨rfl, rfl⟩
        go_wp2_with fail
        refine HN.out.mono ?_
        rintro e W2 ⟨rfl, rfl⟩
        go_wp2_with fail
        refine HC2.out.mono ?_
        rintro e W2 ⟨⟨v, rfl⟩, h2⟩
        have HF := hid h2
        clear h2 HC2 HN HS
        go_wp2_with fail
        go_end0
        exact ⟨⟨_, rfl⟩, HF.out⟩
      · rw [if_neg hf] at hc
        have HF := (show Hid (J [] W1 ∨ Jx W1) from .inl hc.j)
        have hfd : decide (N = 4247762216) = false := decide_eq_false hf
        have hfb : ((N : Int) == 4247762216) = false := by simp; omega
        clear hr HC hn hb1 hc hl4 hle hN hNe hsk
        go_wp2_with fail
        refine HN.out.mono ?_
        rintro e W2 ⟨rfl, rfl⟩
        go_wp2_with fail
        refine (HS.out _).mono ?_
        rintro e W2 ⟨rfl, rfl⟩
        go_wp2_with fail
        refine HN.out.mono ?_
        rintro e W2 ⟨rfl, rfl⟩
        go_wp2_with fail
        go_end0
        exact ⟨⟨_, rfl⟩, HF.out⟩
end
end Go.Proofs.YtnjilcokkhodmaaGreatDoor
