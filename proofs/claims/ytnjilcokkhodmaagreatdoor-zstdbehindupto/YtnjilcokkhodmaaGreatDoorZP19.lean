/-
  A frame's content: a row of bytes of its own.
  copyBack: the copy of a step.
  copyBack: the copy of a step.
-/
import Derived.Test.YtnjilcokkhodmaaGreatDoorZP9
import Derived.Test.YtnjilcokkhodmaaGreatDoorZP15
import Derived.Test.YtnjilcokkhodmaaGreatDoorZP16
namespace Go.Proofs.YtnjilcokkhodmaaGreatDoor
open Go.RowKit Go.Shelf
set_option linter.unusedVariables false

theorem wp_append_run {o : Oper} {a : Act} {K : Act → World → Prop} {Q : Exit → Act → World → Prop} (w : World) (s x : Operand) (t : TypeId)
  (ho : o.op = .call { callee := .builtin .append, args := #[s, x], argTypes := #[t, t] }) (v sv v' : Value) (w' : World) (hs : a.eval s = v) (hx : a.eval x = sv)
  (hr : (Builtin.append_ #[t, t] o.type #[v, sv]).run Tryz.prog w = .ok v' w') (hk : K (a.put o.dst v') w') : o.wp Tryz.prog a w K Q := by
 unfold Oper.wp execOp
 simp only [ho, resolve, invoke, builtin, Sem.run_bind, Sem.run_pure, Result.andThen_ok, List.map_toArray, List.map_cons, List.map_nil, hs, hx, hr]
 exact hk
theorem run_mid5 (a : Option Addr) (len cap lo hi : Nat) (h0 : lo ≤ hi) (h1 : hi ≤ cap) (w : World) :
  (sliceSem 22 (.slice a len cap) (some (.int .i64 (lo : Int))) (some (.int .i64 (hi : Int))) none).run Tryz.prog w = .ok (.slice (if cap = lo then a else a.map (fun x => x.add lo)) (hi - lo) (cap - lo)) w := by
 obtain ⟨i0, hi', hz0, hz1, hz2⟩ := info_parts info5
 simp [sliceSem, Instr.slice, run_underlying Tryz.underlying22, Instr.sliceBounds, Instr.sliceBound, asIntOf, h0, h1, sizeOf, typeInfo, hi', hz1]
structure OutF (w : World) (ov : Value) (out : List Nat) : Prop where
 own : w.ownsRow 0 5 1 ov out.length (u8s out)
 lt : ∀ j : Nat, out[j]?.getD 0 < 256
theorem OutF.keep {w w' : World} {S : Nat → Prop} {ov : Value} {out : List Nat} (h : OutF w ov out) (hk : Keep S w w') (hS : ∀ g, ov.ownBlock = some g → ¬ S g) : OutF w' ov out := ⟨ownsK h.own hk hS, h.lt⟩
theorem OutF.nil (w : World) : OutF w (.slice none 0 0) [] := ⟨⟨rfl, .inl ⟨rfl, rfl⟩⟩, fun j => by simp⟩
theorem app_lt {a b : List Nat} (ha : ∀ j : Nat, a[j]?.getD 0 < 256) (hb : ∀ j : Nat, b[j]?.getD 0 < 256) : ∀ j : Nat, (a ++ b)[j]?.getD 0 < 256 := fun j => by
 rw [List.getElem?_append]
 split
 ·exact ha j
 ·exact hb _
theorem OutF.put {w : World} {ov sv : Value} {out bs : List Nat} (h : OutF w ov out) (hs : SrcB w sv bs) (hb : ∀ j : Nat, bs[j]?.getD 0 < 256) (hl : out.length + bs.length ≤ 1099511627776) (ty : TypeId) :
  ∃ ov' w', (Builtin.append_ #[22, 22] ty #[ov, sv]).run Tryz.prog w = .ok ov' w' ∧ OutF w' ov' (out ++ bs) ∧ Keep (fun k => ov.ownBlock = some k) w w' ∧ (ov'.ownBlock = ov.ownBlock ∨ ∃ k, ov'.ownBlock = some k ∧ w.heap.size ≤ k) := by
 obtain ⟨v', w', h1, h2, h3, h4⟩ := run_append_all w ty ov out bs h.own hl sv hs
 exact ⟨v', w', h1, ⟨h2, app_lt h.lt hb⟩, h3, h4⟩
theorem OutF.slice {w : World} {ov : Value} {out : List Nat} (h : OutF w ov out) : ∃ oa oc, ov = .slice oa out.length oc ∧ out.length ≤ oc := by
 rcases h.own.2 with ⟨e, h0⟩ | ⟨g, cap, cur, e, hb, hg, h1, h2, h3, h4⟩
 ·exact ⟨none, 0, by rw [e, h0], by omega⟩
 ·exact ⟨_, cap, e, h1⟩
theorem OutF.cut {w : World} {oa : Option Addr} {n oc : Nat} {out : List Nat} (h : OutF w (.slice oa n oc) out) (k : Nat) (hk : k ≤ out.length) : OutF w (.slice oa k oc) (out.take k) := by
 refine ⟨⟨by rw [u8s_length, Nat.mul_one], ?_⟩, fun j => ?_⟩
 ·rcases h.own.2 with ⟨e, h0⟩ | ⟨g, cap, cur, e, hb, hg, h1, h2, h3, h4⟩
  ·cases e
   exact .inl ⟨by rw [show k = 0 by omega], by rw [List.length_take]; omega⟩
  ·cases e
   refine .inr ⟨g, oc, cur, by rw [List.length_take, Nat.min_eq_left hk], hb, hg, by rw [List.length_take]; omega, h2, h3, ?_⟩
   rw [List.length_take, Nat.min_eq_left hk, Nat.mul_one]
   rw [Nat.mul_one] at h4
   have : (cur.toList.take out.length).take k = (u8s out).take k := by rw [h4]
   rw [List.take_take, Nat.min_eq_left hk] at this
   rw [this]
   simp [u8s, List.map_take]
 ·rw [List.getElem?_take]
  split
  ·exact h.lt j
  ·exact Nat.zero_lt_succ _
theorem OutF.block {w : World} {ov : Value} {out : List Nat} (h : OutF w ov out) {k : Nat} (hk : ov.ownBlock = some k) : k < w.heap.size := (owns_lt h.own hk).2
theorem OutF.mid {w : World} {oa : Option Addr} {n oc : Nat} {out : List Nat} (h : OutF w (.slice oa n oc) out) (fr m : Nat) (hf : fr < out.length) (hm : fr + m ≤ out.length) :
  ∃ sv, (∀ W, (sliceSem 22 (.slice oa n oc) (some (.int .i64 (fr : Int))) (some (.int .i64 ((fr + m : Nat) : Int))) none).run Tryz.prog W = .ok sv W) ∧ SrcB w sv ((out.drop fr).take m) ∧ ∀ j : Nat, ((out.drop fr).take m)[j]?.getD 0 < 256 := by
 rcases h.own.2 with ⟨e, h0⟩ | ⟨g, cap, cur, e, hb, hg, h1, h2, h3, h4⟩
 ·omega
 ·cases e
  have hl : ((out.drop fr).take m).length = m := by rw [List.length_take, List.length_drop]; omega
  refine ⟨_, fun W => run_mid5 _ _ oc fr (fr + m) (by omega) (by omega) W, .inr ⟨⟨g, fr, none⟩, oc - fr, ?_, fun j u hu => ?_⟩, fun j => ?_⟩
  ·rw [if_neg (by omega), hl, show fr + m - fr = m by omega]
   show Value.slice (some ((⟨g, 0, none⟩ : Addr).add fr)) m (oc - fr) = _
   rw [addO, Nat.zero_add]
  ·have hj : j < m := by have := (List.getElem?_eq_some_iff.1 hu).1; rwa [u8s_length, hl] at this
   rw [addO, cell_of hg]
   have e1 : (u8s ((out.drop fr).take m))[j]? = (u8s out)[fr + j]? := by
    simp only [u8s, List.getElem?_map]
    rw [List.getElem?_take, if_pos hj, List.getElem?_drop]
   rw [← hu, e1, ← h4, List.getElem?_take, if_pos (by omega)]
   simp
  ·rw [List.getElem?_take]
   split
   ·rw [List.getElem?_drop]; exact h.lt _
   ·exact Nat.zero_lt_succ _
/-- A frame's block and its content, since w. -/
structure CoS (w wr : World) (fb : Nat) (ov ov1 : Value) : Prop where
 kp : Keep (fun k => k = fb ∨ ov.ownBlock = some k) w wr
 nw : ov1.ownBlock = ov.ownBlock ∨ ∃ k, ov1.ownBlock = some k ∧ w.heap.size ≤ k
theorem CoS.refl (w : World) (fb : Nat) (ov : Value) : CoS w w fb ov ov := ⟨Keep.refl _ _, .inl rfl⟩
theorem CoS.ne {w wr : World} {fb : Nat} {ov ov1 : Value} (h : CoS w wr fb ov ov1) (hf : fb < w.heap.size) (hne : ov.ownBlock ≠ some fb) : ov1.ownBlock ≠ some fb := fun e => by
 rcases h.nw with q | ⟨k, q, hk⟩
 ·rw [q] at e; exact hne e
 ·rw [q] at e; cases e; omega
theorem CoS.quiet {w wr w2 : World} {fb : Nat} {ov ov1 : Value} (h : CoS w wr fb ov ov1) (hk : Keep noBlock wr w2) : CoS w w2 fb ov ov1 := ⟨h.kp.trans hk (fun _ _ q => q.elim), h.nw⟩
theorem CoS.atf {w wr w2 : World} {fb : Nat} {ov ov1 : Value} (h : CoS w wr fb ov ov1) (hk : Keep (fun k => k = fb) wr w2) : CoS w w2 fb ov ov1 := ⟨h.kp.trans hk (fun _ _ q => .inl q), h.nw⟩
theorem CoS.put {w wr w2 : World} {fb : Nat} {ov ov1 ov2 : Value} (h : CoS w wr fb ov ov1) (hk : Keep (fun k => ov1.ownBlock = some k) wr w2) (hn : ov2.ownBlock = ov1.ownBlock ∨ ∃ k, ov2.ownBlock = some k ∧ wr.heap.size ≤ k) : CoS w w2 fb ov ov2 := by
 refine ⟨h.kp.trans hk (fun j hj q => ?_), ?_⟩
 ·rcases h.nw with e | ⟨k, e, hk⟩
  ·exact .inr (by rw [← e]; exact q)
  ·rw [e] at q; cases q; omega
 ·rcases hn with e | ⟨k, e, hk2⟩
  ·rcases h.nw with e2 | ⟨k, e2, hk⟩
   ·exact .inl (e.trans e2)
   ·exact .inr ⟨k, e.trans e2, hk⟩
  ·exact .inr ⟨k, e, Nat.le_trans h.kp.size hk2⟩
theorem CoS.trans {w wr w2 : World} {fb : Nat} {ov ov1 ov2 : Value} (h : CoS w wr fb ov ov1) (h2 : CoS wr w2 fb ov1 ov2) : CoS w w2 fb ov ov2 := by
 refine ⟨h.kp.trans h2.kp (fun j hj q => ?_), ?_⟩
 ·rcases q with q | q
  ·exact .inl q
  ·rcases h.nw with e | ⟨k, e, hk⟩
   ·exact .inr (by rw [← e]; exact q)
   ·rw [e] at q; cases q; omega
 ·rcases h2.nw with e | ⟨k, e, hk2⟩
  ·rcases h.nw with e2 | ⟨k, e2, hk⟩
   ·exact .inl (e.trans e2)
   ·exact .inr ⟨k, e.trans e2, hk⟩
  ·exact .inr ⟨k, e, Nat.le_trans h.kp.size hk2⟩
def IsFr (w : World) (fb : Nat) (F : Fr) (x0 x1 x2 ws ov : Value) : Prop := FrAt w fb F.win F.dic F.siz F.told x0 x1 x2 ws F.r0 F.r1 F.r2 F.fl F.last F.kind F.bsz ov F.bud
theorem IsFr.keep {w w' : World} {S : Nat → Prop} {fb : Nat} {F : Fr} {x0 x1 x2 ws ov : Value} (h : IsFr w fb F x0 x1 x2 ws ov) (hk : Keep S w w') (h1 : ¬ S fb) : IsFr w' fb F x0 x1 x2 ws ov := hk.obj h h1
theorem IsFr.lt {w : World} {fb : Nat} {F : Fr} {x0 x1 x2 ws ov : Value} (h : IsFr w fb F x0 x1 x2 ws ov) : fb < w.heap.size := obj_lt h
end Go.Proofs.YtnjilcokkhodmaaGreatDoor

namespace Go.Proofs.YtnjilcokkhodmaaGreatDoor
open Go.RowKit Go.Shelf
set_option linter.unusedVariables false

section
variable {w : World} {fb win dic siz : Nat} {told : Bool} {x0 x1 x2 ws : Value} {r0 r1 r2 : Int} {fl : Nat} {last : Bool} {kind bsz : Nat} {bud : Nat}
set_option maxRecDepth 100000 in
set_option maxHeartbeats 4000000 in
theorem copy_none {ov : Value} (s : Sp) (h : FrAt w fb win dic siz told x0 x1 x2 ws r0 r1 r2 fl last kind bsz ov bud) (h1 : 1 ≤ s.2.2) (h2 : s.2.2 ≤ 4611686018427387904) (hr : r0 ≤ 4611686018427387904) (hd : meantD r0 r1 r2 ((s.1 : Int) == 0) s.2.2 < 1) :
  Calls Tryz.prog 33 #[.pointer (some ⟨fb, 0, none⟩), .agg #[.int .i64 (s.1 : Int), .int .i64 (s.2.1 : Int), .int .i64 (s.2.2 : Int)]] w fun e w' => e = .returned (.bool false) ∧ Keep noBlock w w' := by
 obtain ⟨lits, mt, back⟩ := s
 dsimp only at *
 obtain ⟨W0, hW0⟩ : ∃ W0, W0 = w.alloc (.cells #[.int .i64 (lits : Int), .int .i64 (mt : Int), .int .i64 (back : Int)] 77) := ⟨_, rfl⟩
 obtain ⟨ub, hub⟩ : ∃ ub, ub = w.heap.size := ⟨_, rfl⟩
 have ob : W0.heap[ub]? = some (.cells #[.int .i64 (lits : Int), .int .i64 (mt : Int), .int .i64 (back : Int)] 77 (0, 0)) := by rw [hW0, hub]; exact alloc_new w _
 have k0 : Keep noBlock w W0 := by rw [hW0]; exact (Keep.refl _ w).alloc _
 have kd : Keep noBlock w W0.drew := k0.drew
 have hfd := h.keep kd (fun h => h)
 have hfl := obj_lt h
 have HS := (show Hid (W0.drew.cell? ⟨ub, 0, none⟩ = some (.int .i64 (lits : Int)) ∧ W0.drew.cell? ⟨ub, 2, none⟩ = some (.int .i64 (back : Int))) from ⟨cell_of ob 0, cell_of ob 2⟩)
 have HV := hid (valueF_bad (lits : Int) back h1 (by omega) (by omega) hd hfd)
 have HK := hid kd
 clear h hfd ob k0 kd hfl hd hr h1 h2
 go_enter Tryz.func33, Tryz.ntmps33
 go_wp2_with (rw [← hW0, ← hub]; clear hW0 hub)
 refine region_last (fun W => W.cell? ⟨ub, 0, none⟩ = some (.int .i64 (lits : Int)) ∧ W.cell? ⟨ub, 2, none⟩ = some (.int .i64 (back : Int))) 12 mx HS.out (fun hS => ?_)
 refine tk (i := 0) (v := ?_) rfl (by kernel_rfl) (fun _ _ _ h => h) (by rfl) ?_ (by assumption) ?_
 rotate_left 1
 ·intro w hSw; (try dsimp only at hSw); (try obtain ⟨hSw1, hSw2⟩ := hSw); (go_simp <;> with_reducible rfl)
 simp only [Act.put, tA, tB, tD, tE, tF]
 refine tk (i := 1) (v := ?_) rfl (by kernel_rfl) (fun _ _ _ h => h) (by rfl) ?_ (by assumption) ?_
 rotate_left 1
 ·intro w hSw; (try dsimp only at hSw); (try obtain ⟨hSw1, hSw2⟩ := hSw); (go_simp <;> with_reducible rfl)
 simp only [Act.put, tA, tB, tC, tD, tE, tF]
 refine tk (i := 2) (v := ?_) rfl (by kernel_rfl) (fun _ _ _ h => h) (by rfl) ?_ (by assumption) ?_
 rotate_left 1
 ·intro w hSw; (try dsimp only at hSw); (try obtain ⟨hSw1, hSw2⟩ := hSw); (go_simp <;> with_reducible rfl)
 simp only [Act.put, tA, tB, tC, tD, tE, tF]
 refine tk (i := 3) (v := ?_) rfl (by kernel_rfl) (fun _ _ _ h => h) (by rfl) ?_ (by assumption) ?_
 rotate_left 1
 ·intro w hSw; (try dsimp only at hSw); (try obtain ⟨hSw1, hSw2⟩ := hSw); (go_simp <;> with_reducible rfl)
 simp only [Act.put, tA, tB, tC, tD, tE, tF]
 refine tk (i := 4) (v := ?_) rfl (by kernel_rfl) (fun _ _ _ h => h) (by rfl) ?_ (by assumption) ?_
 rotate_left 1
 ·intro w hSw; (try dsimp only at hSw); (try obtain ⟨hSw1, hSw2⟩ := hSw); (go_simp <;> with_reducible rfl)
 simp only [Act.put, tA, tB, tC, tD, tE, tF]
 refine tk (i := 5) (v := ?_) rfl (by kernel_rfl) (fun _ _ _ h => h) (by rfl) ?_ (by assumption) ?_
 rotate_left 1
 ·intro w hSw; (try dsimp only at hSw); (try obtain ⟨hSw1, hSw2⟩ := hSw); (go_simp <;> with_reducible rfl)
 simp only [Act.put, tA, tB, tC, tD, tE, tF]
 refine tk (i := 6) (v := ?_) rfl (by kernel_rfl) (fun _ _ _ h => h) (by rfl) ?_ (by assumption) ?_
 rotate_left 1
 ·intro w hSw; (try dsimp only at hSw); (try obtain ⟨hSw1, hSw2⟩ := hSw); (go_simp <;> with_reducible rfl)
 simp only [Act.put, tA, tB, tC, tD, tE, tF]
 refine last_one (j := 7) (by kernel_rfl) rfl (fun K hK => ?_)
 rw [if_pos (by rfl)]
 simp only [tA, tB, tC]
 go_simp
 refine HV.out.mono ?_
 rintro e w1 ⟨rfl, rfl⟩
 refine hK.out _ _ (fun _ => HS.out) ?_
 clear hK K
 refine last_one (j := 8) (by kernel_rfl) rfl (fun K hK => ?_)
 rw [if_pos (by rfl)]
 simp only [tA, tB, tC]
 go_simp
 refine hK.out _ _ (fun _ => HS.out) ?_
 clear hK K
 refine tk (i := 9) (v := ?_) rfl (by kernel_rfl) (fun _ _ _ h => h) (by rfl) ?_ (by assumption) ?_
 rotate_left 1
 ·intro w hSw; (try dsimp only at hSw); (try obtain ⟨hSw1, hSw2⟩ := hSw); (go_simp <;> with_reducible rfl)
 simp only [Act.put, tA, tB, tC, tD, tE, tF]
 refine tk (i := 10) (v := ?_) rfl (by kernel_rfl) (fun _ _ _ h => h) (by rfl) ?_ (by assumption) ?_
 rotate_left 1
 ·intro w hSw; (try dsimp only at hSw); (try obtain ⟨hSw1, hSw2⟩ := hSw); (go_simp <;> with_reducible rfl)
 simp only [Act.put, tA, tB, tC, tD, tE, tF]
 refine last_one (j := 11) (by kernel_rfl) rfl (fun K hK => ?_)
 rw [if_pos (by rfl)]
 simp only [tA, tB, tC]
 go_simp
 refine hK.out _ _ (fun _ => HS.out) ?_
 clear hK K
 refine last_one (j := 12) (by kernel_rfl) rfl (fun K hK => ?_)
 rw [if_pos (by rfl)]
 simp only [tA, tB, tC]
 go_simp
 refine hK.out _ _ (fun e => absurd rfl e) ?_
 clear hK K
 refine last_done (by kernel_rfl) ?_ _
 go_wp2_with fail
 go_ret
 exact ⟨rfl, HK.out⟩
set_option maxRecDepth 100000 in
set_option maxHeartbeats 4000000 in
theorem copy_far {oa : Option Addr} {n oc : Nat} (s : Sp) (h : FrAt w fb win dic siz told x0 x1 x2 ws r0 r1 r2 fl last kind bsz (.slice oa n oc) bud) (h1 : 1 ≤ s.2.2) (h2 : s.2.2 ≤ 4611686018427387904) (hr : r0 ≤ 4611686018427387904) (hw : win < 18446744073709551616) (hn : n ≤ 1073741824) (hd : 1 ≤ meantD r0 r1 r2 ((s.1 : Int) == 0) s.2.2) (hdb : meantD r0 r1 r2 ((s.1 : Int) == 0) s.2.2 ≤ 4611686018427387904)
  (hfar : (win : Int) < meantD r0 r1 r2 ((s.1 : Int) == 0) s.2.2 ∨ (n : Int) < meantD r0 r1 r2 ((s.1 : Int) == 0) s.2.2) :
  Calls Tryz.prog 33 #[.pointer (some ⟨fb, 0, none⟩), .agg #[.int .i64 (s.1 : Int), .int .i64 (s.2.1 : Int), .int .i64 (s.2.2 : Int)]] w fun e w' => e = .returned (.bool false) ∧ (∃ r0' r1' r2', FrAt w' fb win dic siz told x0 x1 x2 ws r0' r1' r2' fl last kind bsz (.slice oa n oc) bud) ∧ Keep (fun k => k = fb) w w' := by
 obtain ⟨lits, mt, back⟩ := s
 dsimp only at *
 obtain ⟨W0, hW0⟩ : ∃ W0, W0 = w.alloc (.cells #[.int .i64 (lits : Int), .int .i64 (mt : Int), .int .i64 (back : Int)] 77) := ⟨_, rfl⟩
 obtain ⟨ub, hub⟩ : ∃ ub, ub = w.heap.size := ⟨_, rfl⟩
 have ob : W0.heap[ub]? = some (.cells #[.int .i64 (lits : Int), .int .i64 (mt : Int), .int .i64 (back : Int)] 77 (0, 0)) := by rw [hW0, hub]; exact alloc_new w _
 have k0 : Keep noBlock w W0 := by rw [hW0]; exact (Keep.refl _ w).alloc _
 have kd : Keep noBlock w W0.drew := k0.drew
 have hfd := h.keep kd (fun h => h)
 have hfl := obj_lt h
 have HS := (show Hid (W0.drew.cell? ⟨ub, 0, none⟩ = some (.int .i64 (lits : Int)) ∧ W0.drew.cell? ⟨ub, 2, none⟩ = some (.int .i64 (back : Int))) from ⟨cell_of ob 0, cell_of ob 2⟩)
 obtain ⟨M1, hM1⟩ : ∃ M1, M1 = (movedR r0 r1 r2 (meantM r0 ((lits : Int) == 0) back)).2.1 := ⟨_, rfl⟩
 obtain ⟨M2, hM2⟩ : ∃ M2, M2 = (movedR r0 r1 r2 (meantM r0 ((lits : Int) == 0) back)).2.2 := ⟨_, rfl⟩
 obtain ⟨d, hdn⟩ : ∃ d : Nat, meantD r0 r1 r2 ((lits : Int) == 0) back = (d : Int) := ⟨_, (Int.toNat_of_nonneg (by omega)).symm⟩
 have hvv := valueF_ok (lits : Int) back h1 (by omega) (by omega) hd hfd
 rw [← hM1, ← hM2, hdn] at hvv
 rw [hdn] at hd hdb
 have hd1 : 1 ≤ d := by omega
 have hwd : IntKind.u64.wrap (d : Int) = (d : Int) := by rw [IntKind.wrap_u64]; omega
 have hdI : (d : Int) ≤ 4611686018427387904 := by omega
 rw [hdn] at hfar
 have HNE := hid (show ¬ ub = fb from by omega)
 have HV := hid hvv
 have HK := hid kd
 clear h hfd ob k0 kd hfl hr h1 h2 hvv hM1 hM2 hdn
 go_enter Tryz.func33, Tryz.ntmps33
 go_wp2_with (rw [← hW0, ← hub]; clear hW0 hub)
 refine region_last (fun W => W.cell? ⟨ub, 0, none⟩ = some (.int .i64 (lits : Int)) ∧ W.cell? ⟨ub, 2, none⟩ = some (.int .i64 (back : Int))) 12 mx HS.out (fun hS => ?_)
 refine tk (i := 0) (v := ?_) rfl (by kernel_rfl) (fun _ _ _ h => h) (by rfl) ?_ (by assumption) ?_
 rotate_left 1
 ·intro w hSw; (try dsimp only at hSw); (try obtain ⟨hSw1, hSw2⟩ := hSw); (go_simp <;> with_reducible rfl)
 simp only [Act.put, tA, tB, tD, tE, tF]
 refine tk (i := 1) (v := ?_) rfl (by kernel_rfl) (fun _ _ _ h => h) (by rfl) ?_ (by assumption) ?_
 rotate_left 1
 ·intro w hSw; (try dsimp only at hSw); (try obtain ⟨hSw1, hSw2⟩ := hSw); (go_simp <;> with_reducible rfl)
 simp only [Act.put, tA, tB, tC, tD, tE, tF]
 refine tk (i := 2) (v := ?_) rfl (by kernel_rfl) (fun _ _ _ h => h) (by rfl) ?_ (by assumption) ?_
 rotate_left 1
 ·intro w hSw; (try dsimp only at hSw); (try obtain ⟨hSw1, hSw2⟩ := hSw); (go_simp <;> with_reducible rfl)
 simp only [Act.put, tA, tB, tC, tD, tE, tF]
 refine tk (i := 3) (v := ?_) rfl (by kernel_rfl) (fun _ _ _ h => h) (by rfl) ?_ (by assumption) ?_
 rotate_left 1
 ·intro w hSw; (try dsimp only at hSw); (try obtain ⟨hSw1, hSw2⟩ := hSw); (go_simp <;> with_reducible rfl)
 simp only [Act.put, tA, tB, tC, tD, tE, tF]
 refine tk (i := 4) (v := ?_) rfl (by kernel_rfl) (fun _ _ _ h => h) (by rfl) ?_ (by assumption) ?_
 rotate_left 1
 ·intro w hSw; (try dsimp only at hSw); (try obtain ⟨hSw1, hSw2⟩ := hSw); (go_simp <;> with_reducible rfl)
 simp only [Act.put, tA, tB, tC, tD, tE, tF]
 refine tk (i := 5) (v := ?_) rfl (by kernel_rfl) (fun _ _ _ h => h) (by rfl) ?_ (by assumption) ?_
 rotate_left 1
 ·intro w hSw; (try dsimp only at hSw); (try obtain ⟨hSw1, hSw2⟩ := hSw); (go_simp <;> with_reducible rfl)
 simp only [Act.put, tA, tB, tC, tD, tE, tF]
 refine tk (i := 6) (v := ?_) rfl (by kernel_rfl) (fun _ _ _ h => h) (by rfl) ?_ (by assumption) ?_
 rotate_left 1
 ·intro w hSw; (try dsimp only at hSw); (try obtain ⟨hSw1, hSw2⟩ := hSw); (go_simp <;> with_reducible rfl)
 simp only [Act.put, tA, tB, tC, tD, tE, tF]
 refine last_one (j := 7) (by kernel_rfl) rfl (fun K hK => ?_)
 rw [if_pos (by rfl)]
 simp only [tA, tB, tC]
 go_simp
 refine HV.out.mono ?_
 rintro e w1 ⟨rfl, hf1, k1⟩
 have hs1 : w1.cell? ⟨ub, 0, none⟩ = some (.int .i64 (lits : Int)) ∧ w1.cell? ⟨ub, 2, none⟩ = some (.int .i64 (back : Int)) := ⟨keep_cellS k1 HNE.out HS.out.1, keep_cellS k1 HNE.out HS.out.2⟩
 have HS1 := hid hs1
 have c0 : w1.cell? ⟨fb, 0, none⟩ = some (.int .u64 (win : Int)) := cell_of hf1 0
 have c15 : w1.cell? ⟨fb, 15, none⟩ = some (.slice oa n oc) := cell_of hf1 15
 have HF1 := hid (And.intro hf1 ((HK.out.mono (T := fun k => k = fb) (fun _ _ h => h.elim)).trans' k1))
 clear hs1 hf1 k1
 refine hK.out _ _ (fun _ => HS1.out) ?_
 clear hK K
 refine last_one (j := 8) (by kernel_rfl) rfl (fun K hK => ?_)
 rw [if_pos (by rfl)]
 simp only [tA, tB, tC]
 go_simp
 refine hK.out _ _ (fun _ => HS1.out) ?_
 clear hK K
 refine tk (i := 9) (v := ?_) rfl (by kernel_rfl) (fun _ _ _ h => h) (by rfl) ?_ (by assumption) ?_
 rotate_left 1
 ·intro w hSw; (try dsimp only at hSw); (try obtain ⟨hSw1, hSw2⟩ := hSw); (go_simp <;> with_reducible rfl)
 simp only [Act.put, tA, tB, tC, tD, tE, tF]
 refine tk (i := 10) (v := ?_) rfl (by kernel_rfl) (fun _ _ _ h => h) (by rfl) ?_ (by assumption) ?_
 rotate_left 1
 ·intro w hSw; (try dsimp only at hSw); (try obtain ⟨hSw1, hSw2⟩ := hSw); (go_simp <;> with_reducible rfl)
 simp only [Act.put, tA, tB, tC, tD, tE, tF]
 refine last_one (j := 11) (by kernel_rfl) rfl (fun K hK => ?_)
 rw [if_pos (by rfl)]
 simp only [tA, tB, tC]
 go_simp
 refine hK.out _ _ (fun _ => HS1.out) ?_
 clear hK K
 refine last_one (j := 12) (by kernel_rfl) rfl (fun K hK => ?_)
 rw [if_pos (by rfl)]
 simp only [tA, tB, tC]
 go_simp
 refine hK.out _ _ (fun e => absurd rfl e) ?_
 clear hK K
 refine last_done (by kernel_rfl) ?_ _
 by_cases hwn : win < d
 ·have hwI : (win : Int) < (d : Int) := by omega
  have hwdd : decide (win < d) = true := decide_eq_true hwn
  go_wp2_with fail
  go_ret
  exact ⟨rfl, ⟨_, _, _, HF1.out.1⟩, HF1.out.2⟩
 ·have hwI : ¬ (win : Int) < (d : Int) := by omega
  have hwdd : decide (win < d) = false := decide_eq_false hwn
  have hnn : n < d := by omega
  have hnI : (n : Int) < (d : Int) := by omega
  have hnd : decide (n < d) = true := decide_eq_true hnn
  go_wp2_with fail
  go_ret
  exact ⟨rfl, ⟨_, _, _, HF1.out.1⟩, HF1.out.2⟩
end
end Go.Proofs.YtnjilcokkhodmaaGreatDoor

namespace Go.Proofs.YtnjilcokkhodmaaGreatDoor
open Go.RowKit Go.Shelf
set_option linter.unusedVariables false

section
variable {w : World} {fb win dic siz : Nat} {told : Bool} {x0 x1 x2 ws : Value} {r0 r1 r2 : Int} {fl : Nat} {last : Bool} {kind bsz : Nat} {bud : Nat}
/-- Copying under way. -/
structure CpS (w0 wr : World) (fb win dic siz : Nat) (told : Bool) (x0 x1 x2 ws : Value) (r0 r1 r2 : Int) (fl : Nat) (last : Bool) (kind bsz bud : Nat) (ov ov1 : Value) (out1 : List Nat) : Prop where
 fr : FrAt wr fb win dic siz told x0 x1 x2 ws r0 r1 r2 fl last kind bsz ov1 bud
 out : OutF wr ov1 out1
 co : CoS w0 wr fb ov ov1
theorem cpyP_step (k : Nat) (out : List Nat) (fr left : Nat) (hl : 0 < left) : cpyP (k + 1) out fr left = cpyP k (out ++ (out.drop fr).take (min left (out.length - fr))) fr (left - min left (out.length - fr)) := by
 show (if left = 0 then out else _) = _
 rw [if_neg (by omega)]
theorem cpyP_zero (k : Nat) (out : List Nat) (fr : Nat) : cpyP k out fr 0 = out := by
 cases k with
 | zero => rfl
 | succ k => exact if_pos rfl
section
attribute [local go_sem] sliceSem_eq minSem_eq
set_option maxRecDepth 100000 in
set_option maxHeartbeats 8000000 in
theorem copy_good {ov : Value} {out : List Nat} (s : Sp) (h : FrAt w fb win dic siz told x0 x1 x2 ws r0 r1 r2 fl last kind bsz ov bud) (hO : OutF w ov out) (hne : ov.ownBlock ≠ some fb) (h1 : 1 ≤ s.2.2) (h2 : s.2.2 ≤ 4611686018427387904) (hr : r0 ≤ 4611686018427387904) (hw : win < 18446744073709551616) (hn : out.length + s.2.1 ≤ 1073741824) (hd : 1 ≤ meantD r0 r1 r2 ((s.1 : Int) == 0) s.2.2)
  (hdw : meantD r0 r1 r2 ((s.1 : Int) == 0) s.2.2 ≤ (win : Int)) (hdb : meantD r0 r1 r2 ((s.1 : Int) == 0) s.2.2 ≤ (out.length : Int)) :
  Calls Tryz.prog 33 #[.pointer (some ⟨fb, 0, none⟩), .agg #[.int .i64 (s.1 : Int), .int .i64 (s.2.1 : Int), .int .i64 (s.2.2 : Int)]] w fun e w' => e = .returned (.bool true) ∧ ∃ ov', FrAt w' fb win dic siz told x0 x1 x2 ws (meantD r0 r1 r2 ((s.1 : Int) == 0) s.2.2) (movedR r0 r1 r2 (meantM r0 ((s.1 : Int) == 0) s.2.2)).2.1 (movedR r0 r1 r2 (meantM r0 ((s.1 : Int) == 0) s.2.2)).2.2 fl last kind bsz ov' bud ∧ OutF w' ov' (cpyP s.2.1 out (out.length - (meantD r0 r1 r2 ((s.1 : Int) == 0) s.2.2).toNat) s.2.1) ∧ CoS w w' fb ov ov' := by
 obtain ⟨lits, mt, back⟩ := s
 dsimp only at *
 obtain ⟨W0, hW0⟩ : ∃ W0, W0 = w.alloc (.cells #[.int .i64 (lits : Int), .int .i64 (mt : Int), .int .i64 (back : Int)] 77) := ⟨_, rfl⟩
 obtain ⟨ub, hub⟩ : ∃ ub, ub = w.heap.size := ⟨_, rfl⟩
 have ob : W0.heap[ub]? = some (.cells #[.int .i64 (lits : Int), .int .i64 (mt : Int), .int .i64 (back : Int)] 77 (0, 0)) := by rw [hW0, hub]; exact alloc_new w _
 have k0 : Keep noBlock w W0 := by rw [hW0]; exact (Keep.refl _ w).alloc _
 have kd : Keep noBlock w W0.drew := k0.drew
 have hfd := h.keep kd (fun h => h)
 have hfl := obj_lt h
 have HS := (show Hid (W0.drew.cell? ⟨ub, 0, none⟩ = some (.int .i64 (lits : Int)) ∧ W0.drew.cell? ⟨ub, 2, none⟩ = some (.int .i64 (back : Int))) from ⟨cell_of ob 0, cell_of ob 2⟩)
 obtain ⟨M1, hM1⟩ : ∃ M1, M1 = (movedR r0 r1 r2 (meantM r0 ((lits : Int) == 0) back)).2.1 := ⟨_, rfl⟩
 obtain ⟨M2, hM2⟩ : ∃ M2, M2 = (movedR r0 r1 r2 (meantM r0 ((lits : Int) == 0) back)).2.2 := ⟨_, rfl⟩
 obtain ⟨d, hdn⟩ : ∃ d : Nat, meantD r0 r1 r2 ((lits : Int) == 0) back = (d : Int) := ⟨_, (Int.toNat_of_nonneg (by omega)).symm⟩
 have hvv := valueF_ok (lits : Int) back h1 (by omega) (by omega) hd hfd
 rw [← hM1, ← hM2, hdn] at hvv
 rw [hdn] at hd hdb
 have hd1 : 1 ≤ d := by omega
 have hwd : IntKind.u64.wrap (d : Int) = (d : Int) := by rw [IntKind.wrap_u64]; omega
 have hdI : (d : Int) ≤ 4611686018427387904 := by omega
 rw [hdn, Int.toNat_natCast, ← hM1, ← hM2]
 rw [hdn] at hdw
 have hwI : ¬ (win : Int) < (d : Int) := by omega
 have hwdd : decide (win < d) = false := decide_eq_false (by omega)
 obtain ⟨oa, oc, hov, hoc⟩ := hO.slice
 obtain ⟨N, hN⟩ : ∃ N, N = out.length := ⟨_, rfl⟩
 obtain ⟨fr, hfr⟩ : ∃ fr, fr = N - d := ⟨_, rfl⟩
 rw [← hN] at hov hdb hn hoc
 have hnI : ¬ (N : Int) < (d : Int) := by omega
 have hnd : decide (N < d) = false := decide_eq_false (by omega)
 have hfrI : (N : Int) - (d : Int) = (fr : Int) := by omega
 have hNb : (N : Int) ≤ 1073741824 := by omega
 have hmb : (mt : Int) ≤ 1073741824 := by omega
 have hfb2 : (fr : Int) ≤ 1073741824 := by omega
 obtain ⟨R, hR⟩ : ∃ R, R = cpyP mt out (out.length - d) mt := ⟨_, rfl⟩
 rw [← hR]
 rw [← hN, ← hfr] at hR
 have HH := (show Hid (OutF w ov out ∧ ov.ownBlock ≠ some fb ∧ fb < w.heap.size ∧ N = out.length ∧ fr = N - d ∧ R = cpyP mt out fr mt ∧ N + mt ≤ 1073741824 ∧ d ≤ N ∧ 1 ≤ d) from ⟨hO, hne, hfl, hN, hfr, hR, hn, by omega, hd1⟩)
 have HNE := hid (show ¬ ub = fb from by omega)
 have HOB := hid (And.intro ob hub)
 have HV := hid hvv
 have HK := hid kd
 subst hov
 clear h hfd ob k0 kd hfl hr h1 h2 hvv hM1 hM2 hdn hO hne hN hR hfr hn
 go_enter Tryz.func33, Tryz.ntmps33
 go_wp2_with (rw [← hW0, ← hub]; clear hW0 hub)
 refine region_last (fun W => W.cell? ⟨ub, 0, none⟩ = some (.int .i64 (lits : Int)) ∧ W.cell? ⟨ub, 2, none⟩ = some (.int .i64 (back : Int))) 12 mx HS.out (fun hS => ?_)
 refine tk (i := 0) (v := ?_) rfl (by kernel_rfl) (fun _ _ _ h => h) (by rfl) ?_ (by assumption) ?_
 rotate_left 1
 ·intro w hSw; (try dsimp only at hSw); (try obtain ⟨hSw1, hSw2⟩ := hSw); (go_simp <;> with_reducible rfl)
 simp only [Act.put, tA, tB, tD, tE, tF]
 refine tk (i := 1) (v := ?_) rfl (by kernel_rfl) (fun _ _ _ h => h) (by rfl) ?_ (by assumption) ?_
 rotate_left 1
 ·intro w hSw; (try dsimp only at hSw); (try obtain ⟨hSw1, hSw2⟩ := hSw); (go_simp <;> with_reducible rfl)
 simp only [Act.put, tA, tB, tC, tD, tE, tF]
 refine tk (i := 2) (v := ?_) rfl (by kernel_rfl) (fun _ _ _ h => h) (by rfl) ?_ (by assumption) ?_
 rotate_left 1
 ·intro w hSw; (try dsimp only at hSw); (try obtain ⟨hSw1, hSw2⟩ := hSw); (go_simp <;> with_reducible rfl)
 simp only [Act.put, tA, tB, tC, tD, tE, tF]
 refine tk (i := 3) (v := ?_) rfl (by kernel_rfl) (fun _ _ _ h => h) (by rfl) ?_ (by assumption) ?_
 rotate_left 1
 ·intro w hSw; (try dsimp only at hSw); (try obtain ⟨hSw1, hSw2⟩ := hSw); (go_simp <;> with_reducible rfl)
 simp only [Act.put, tA, tB, tC, tD, tE, tF]
 refine tk (i := 4) (v := ?_) rfl (by kernel_rfl) (fun _ _ _ h => h) (by rfl) ?_ (by assumption) ?_
 rotate_left 1
 ·intro w hSw; (try dsimp only at hSw); (try obtain ⟨hSw1, hSw2⟩ := hSw); (go_simp <;> with_reducible rfl)
 simp only [Act.put, tA, tB, tC, tD, tE, tF]
 refine tk (i := 5) (v := ?_) rfl (by kernel_rfl) (fun _ _ _ h => h) (by rfl) ?_ (by assumption) ?_
 rotate_left 1
 ·intro w hSw; (try dsimp only at hSw); (try obtain ⟨hSw1, hSw2⟩ := hSw); (go_simp <;> with_reducible rfl)
 simp only [Act.put, tA, tB, tC, tD, tE, tF]
 refine tk (i := 6) (v := ?_) rfl (by kernel_rfl) (fun _ _ _ h => h) (by rfl) ?_ (by assumption) ?_
 rotate_left 1
 ·intro w hSw; (try dsimp only at hSw); (try obtain ⟨hSw1, hSw2⟩ := hSw); (go_simp <;> with_reducible rfl)
 simp only [Act.put, tA, tB, tC, tD, tE, tF]
 refine last_one (j := 7) (by kernel_rfl) rfl (fun K hK => ?_)
 rw [if_pos (by rfl)]
 simp only [tA, tB, tC]
 go_simp
 refine HV.out.mono ?_
 rintro e w1 ⟨rfl, hf1, k1⟩
 have hs1 : w1.cell? ⟨ub, 0, none⟩ = some (.int .i64 (lits : Int)) ∧ w1.cell? ⟨ub, 2, none⟩ = some (.int .i64 (back : Int)) := ⟨keep_cellS k1 HNE.out HS.out.1, keep_cellS k1 HNE.out HS.out.2⟩
 have HS1 := hid hs1
 have c0 : w1.cell? ⟨fb, 0, none⟩ = some (.int .u64 (win : Int)) := cell_of hf1 0
 have c15 : w1.cell? ⟨fb, 15, none⟩ = some (.slice oa N oc) := cell_of hf1 15
 have c77 : w1.cell? ⟨ub, 1, none⟩ = some (.int .i64 (mt : Int)) := keep_cellS k1 HNE.out (cell_of HOB.out.1 1)
 have HC1 := (show Hid (CpS w w1 fb win dic siz told x0 x1 x2 ws (d : Int) M1 M2 fl last kind bsz bud (.slice oa N oc) (.slice oa N oc) out) from
  ⟨hf1, (HH.out.1.keep HK.out (fun _ _ h => h)).keep k1 (fun g hg e => HH.out.2.1 (by rw [hg, e])), ((CoS.refl w fb _).quiet HK.out).atf k1⟩)
 clear hs1 hf1 k1 HK
 refine hK.out _ _ (fun _ => HS1.out) ?_
 clear hK K
 refine last_one (j := 8) (by kernel_rfl) rfl (fun K hK => ?_)
 rw [if_pos (by rfl)]
 simp only [tA, tB, tC]
 go_simp
 refine hK.out _ _ (fun _ => HS1.out) ?_
 clear hK K
 refine tk (i := 9) (v := ?_) rfl (by kernel_rfl) (fun _ _ _ h => h) (by rfl) ?_ (by assumption) ?_
 rotate_left 1
 ·intro w hSw; (try dsimp only at hSw); (try obtain ⟨hSw1, hSw2⟩ := hSw); (go_simp <;> with_reducible rfl)
 simp only [Act.put, tA, tB, tC, tD, tE, tF]
 refine tk (i := 10) (v := ?_) rfl (by kernel_rfl) (fun _ _ _ h => h) (by rfl) ?_ (by assumption) ?_
 rotate_left 1
 ·intro w hSw; (try dsimp only at hSw); (try obtain ⟨hSw1, hSw2⟩ := hSw); (go_simp <;> with_reducible rfl)
 simp only [Act.put, tA, tB, tC, tD, tE, tF]
 refine last_one (j := 11) (by kernel_rfl) rfl (fun K hK => ?_)
 rw [if_pos (by rfl)]
 simp only [tA, tB, tC]
 go_simp
 refine hK.out _ _ (fun _ => HS1.out) ?_
 clear hK K
 refine last_one (j := 12) (by kernel_rfl) rfl (fun K hK => ?_)
 rw [if_pos (by rfl)]
 simp only [tA, tB, tC]
 go_simp
 refine hK.out _ _ (fun e => absurd rfl e) ?_
 clear hK K
 refine last_done (by kernel_rfl) ?_ _
 clear HS HS1 hS HV
 go_wp2_with fail
 go_loopw [8] (fun v8 wr => ∃ left : Nat, v8 = .int .i64 (left : Int) ∧ left ≤ mt ∧ Hid (∃ (k : Nat) (out1 : List Nat) (ov1 : Value), left ≤ k ∧ cpyP k out1 fr left = R ∧ out1.length + left ≤ 1073741824 ∧ fr < out1.length ∧ CpS w wr fb win dic siz told x0 x1 x2 ws (d : Int) M1 M2 fl last kind bsz bud (.slice oa N oc) ov1 out1)) (fun v8 _ => (intOf v8).toNat)
 case atStart =>
  obtain ⟨y1, y2, y3, y4, y5, y6, y7, y8, y9⟩ := HH.out
  exact ⟨mt, rfl, Nat.le_refl _, ⟨mt, out, _, Nat.le_refl _, y6.symm, by omega, by omega, HC1.out⟩⟩
 case round =>
  obtain ⟨left, rfl, hlm, HI⟩ := hrel
  clear HC1 c0 c15 c77
  by_cases hl : 0 < left
  ·have hlI : (0 : Int) < (left : Int) := by omega
   obtain ⟨k, out1, ov1, q1, q2, q3, q4, q5⟩ := HI.out
   obtain ⟨oa1, oc1, hov1, hoc1⟩ := q5.out.slice
   subst hov1
   obtain ⟨k, rfl⟩ : ∃ k', k = k' + 1 := ⟨k - 1, by omega⟩
   rw [cpyP_step k out1 fr left hl] at q2
   obtain ⟨N1, hN1⟩ : ∃ N1, N1 = out1.length := ⟨_, rfl⟩
   obtain ⟨m, hm⟩ : ∃ m, m = min left (out1.length - fr) := ⟨_, rfl⟩
   rw [← hm] at q2
   obtain ⟨sv, hsl, hsrc, hslt⟩ := q5.out.mid fr m q4 (by omega)
   have d15 : wr.cell? ⟨fb, 15, none⟩ = some (.slice oa1 out1.length oc1) := cell_of q5.fr 15
   rw [← hN1] at d15 hsl
   have hsub : (N1 : Int) - (fr : Int) = ((N1 - fr : Nat) : Int) := by omega
   obtain ⟨df, hdf⟩ : ∃ df, df = N1 - fr := ⟨_, rfl⟩
   rw [← hdf] at hsub
   have hmin := minSem_run .i64 #[3, 3] 3 (left : Int) (df : Int) (m : Int) (by omega)
   have hadd : (fr : Int) + (m : Int) = ((fr + m : Nat) : Int) := by omega
   obtain ⟨fm, hfm⟩ : ∃ fm, fm = fr + m := ⟨_, rfl⟩
   rw [← hfm] at hadd hsl
   have hfmb : (fm : Int) ≤ 2147483648 := by omega
   have hwfm : IntKind.i64.wrap (fm : Int) = (fm : Int) := by rw [IntKind.wrap_i64]; omega
   have hN1b : (N1 : Int) ≤ 1073741824 := by omega
   have hdfb : (df : Int) ≤ 1073741824 := by omega
   have hmb2 : (m : Int) ≤ 1073741824 := by omega
   have hlb : (left : Int) ≤ 1073741824 := by omega
   have hlsub : (left : Int) - (m : Int) = ((left - m : Nat) : Int) := by omega
   obtain ⟨lf, hlf⟩ : ∃ lf, lf = left - m := ⟨_, rfl⟩
   rw [← hlf] at hlsub q2
   have hlen : ((out1.drop fr).take m).length = m := by rw [List.length_take, List.length_drop]; omega
   have hnl : (out1 ++ (out1.drop fr).take m).length = N1 + m := by rw [List.length_append, hlen, hN1]
   have HW := (show Hid (∀ W, Keep noBlock wr W → ∃ ov2 w2, (Builtin.append_ #[22, 22] 22 #[.slice oa1 N1 oc1, sv]).run Tryz.prog W = .ok ov2 w2 ∧ ∃ oa2 oc2, ov2 = .slice oa2 (N1 + m) oc2 ∧ Hid (CpS w (w2.setCell ⟨fb, 15, none⟩ ov2) fb win dic siz told x0 x1 x2 ws (d : Int) M1 M2 fl last kind bsz bud (.slice oa N oc) ov2 (out1 ++ (out1.drop fr).take m)) ∧ (∃ v, w2.cell? ⟨fb, 15, none⟩ = some v) ∧ w2.cell? ⟨fb, 15, none⟩ = some (.slice oa1 N1 oc1) ∧ w2.frozen? ⟨fb, 15, none⟩ = false) from fun W kW => by
    obtain ⟨y1, y2, y3, y4, y5, y6, y7, y8, y9⟩ := HH.out
    obtain ⟨ov2, w2, r1, r2, r3, r4⟩ := (q5.out.keep kW (fun _ _ h => h)).put (hsrc.keep kW) hslt (by rw [hlen]; omega) 22
    rw [← hN1] at r1 r3 r4
    have hnb := q5.co.ne y3 y2
    rw [← hN1] at hnb
    have hf2 := (q5.fr.keep kW (fun h => h)).keep r3 (fun e => hnb e)
    rw [← hN1] at hf2
    obtain ⟨oa2, oc2, e2, -⟩ := r2.slice
    rw [hnl] at e2
    have hco := (q5.co.quiet kW).put (by rw [← hN1]; exact r3) (by rw [← hN1]; exact r4)
    refine ⟨ov2, w2, r1, oa2, oc2, e2, ⟨FrAt.out_set hf2 ov2, r2.keep ((Keep.refl (fun k => k = fb) w2).setCell (p := ⟨fb, 15, none⟩) (fun _ => rfl) _) (fun g hg e => hco.ne y3 y2 (by rw [hg, e])), hco.atf ((Keep.refl (fun k => k = fb) w2).setCell (p := ⟨fb, 15, none⟩) (fun _ => rfl) _)⟩, ⟨_, cell_of hf2 15⟩, cell_of hf2 15, frozen_of hf2 15⟩)
   have HX := (show Hid (lf ≤ k ∧ cpyP k (out1 ++ (out1.drop fr).take m) fr lf = R ∧ (out1 ++ (out1.drop fr).take m).length + lf ≤ 1073741824 ∧ fr < (out1 ++ (out1.drop fr).take m).length ∧ lf ≤ mt ∧ lf < left) from ⟨by omega, q2, by rw [hnl]; omega, by rw [hnl]; omega, by omega, by omega⟩)
   have HS8 := (show Hid (wr.drew.cell? ⟨fb, 15, none⟩ = some (.slice oa1 N1 oc1)) from d15)
   clear q1 q2 q3 q4 q5 hsrc hslt hm hN1 hdf hfm hlf hlen hnl hoc1 HI
   go_wp2_with fail
   refine region_last (fun W => W.cell? ⟨fb, 15, none⟩ = some (.slice oa1 N1 oc1)) 17 mx HS8.out (fun hS => ?_)
   refine tk (i := 0) (v := ?_) rfl (by kernel_rfl) (fun _ _ _ h => h) (by rfl) ?_ (by assumption) ?_
   rotate_left 1
   ·intro w hSw; (try dsimp only at hSw); (go_simp <;> with_reducible rfl)
   simp only [Act.put, tA, tB, tD, tE, tF]
   refine tk (i := 1) (v := ?_) rfl (by kernel_rfl) (fun _ _ _ h => h) (by rfl) ?_ (by assumption) ?_
   rotate_left 1
   ·intro w hSw; (try dsimp only at hSw); (go_simp <;> with_reducible rfl)
   simp only [Act.put, tA, tB, tC, tD, tE, tF]
   refine tk (i := 2) (v := ?_) rfl (by kernel_rfl) (fun _ _ _ h => h) (by rfl) ?_ (by assumption) ?_
   rotate_left 1
   ·intro w hSw; (try dsimp only at hSw); (go_simp <;> with_reducible rfl)
   simp only [Act.put, tA, tB, tC, tD, tE, tF]
   refine tk (i := 3) (v := ?_) rfl (by kernel_rfl) (fun _ _ _ h => h) (by rfl) ?_ (by assumption) ?_
   rotate_left 1
   ·intro w hSw; (try dsimp only at hSw); (go_simp <;> with_reducible rfl)
   simp only [Act.put, tA, tB, tC, tD, tE, tF]
   refine tk (i := 4) (v := ?_) rfl (by kernel_rfl) (fun _ _ _ h => h) (by rfl) ?_ (by assumption) ?_
   rotate_left 1
   ·intro w hSw; (try dsimp only at hSw); (go_simp <;> with_reducible rfl)
   simp only [Act.put, tA, tB, tC, tD, tE, tF]
   refine tk (i := 5) (v := ?_) rfl (by kernel_rfl) (fun _ _ _ h => h) (by rfl) ?_ (by assumption) ?_
   rotate_left 1
   ·intro w hSw; (try dsimp only at hSw); (go_simp <;> with_reducible rfl)
   simp only [Act.put, tA, tB, tC, tD, tE, tF]
   refine tk (i := 6) (v := ?_) rfl (by kernel_rfl) (fun _ _ _ h => h) (by rfl) ?_ (by assumption) ?_
   rotate_left 1
   ·intro w hSw; (try dsimp only at hSw); (go_simp <;> with_reducible rfl)
   simp only [Act.put, tA, tB, tC, tD, tE, tF]
   refine tk (i := 7) (v := ?_) rfl (by kernel_rfl) (fun _ _ _ h => h) (by rfl) ?_ (by assumption) ?_
   rotate_left 1
   ·intro w hSw; (try dsimp only at hSw); (go_simp <;> with_reducible rfl)
   simp only [Act.put, tA, tB, tC, tD, tE, tF]
   refine tk (i := 8) (v := ?_) rfl (by kernel_rfl) (fun _ _ _ h => h) (by rfl) ?_ (by assumption) ?_
   rotate_left 1
   ·intro w hSw; (try dsimp only at hSw); (go_simp <;> with_reducible rfl)
   simp only [Act.put, tA, tB, tC, tD, tE, tF]
   refine tk (i := 9) (v := ?_) rfl (by kernel_rfl) (fun _ _ _ h => h) (by rfl) ?_ (by assumption) ?_
   rotate_left 1
   ·intro w hSw; (try dsimp only at hSw); (go_simp <;> with_reducible rfl)
   simp only [Act.put, tA, tB, tC, tD, tE, tF]
   refine tk (i := 10) (v := ?_) rfl (by kernel_rfl) (fun _ _ _ h => h) (by rfl) ?_ (by assumption) ?_
   rotate_left 1
   ·intro w hSw; (try dsimp only at hSw); (go_simp <;> with_reducible rfl)
   simp only [Act.put, tA, tB, tC, tD, tE, tF]
   refine tk (i := 11) (v := ?_) rfl (by kernel_rfl) (fun _ _ _ h => h) (by rfl) ?_ (by assumption) ?_
   rotate_left 1
   ·intro w hSw; (try dsimp only at hSw); (go_simp <;> with_reducible rfl)
   simp only [Act.put, tA, tB, tC, tD, tE, tF]
   refine tk (i := 12) (v := ?_) rfl (by kernel_rfl) (fun _ _ _ h => h) (by rfl) ?_ (by assumption) ?_
   rotate_left 1
   ·intro w hSw; (try dsimp only at hSw); (go_simp <;> with_reducible rfl)
   simp only [Act.put, tA, tB, tC, tD, tE, tF]
   refine tk (i := 13) (v := ?_) rfl (by kernel_rfl) (fun _ _ _ h => h) (by rfl) ?_ (by assumption) ?_
   rotate_left 1
   ·intro w hSw; (try dsimp only at hSw); (go_simp <;> with_reducible rfl)
   simp only [Act.put, tA, tB, tC, tD, tE, tF]
   obtain ⟨ov2, w2, hr2, oa2, oc2, rfl, HC2, -, e15, f15⟩ := HW.out wr.drew (Keep.refl noBlock wr).drew
   have HE15 := hid e15
   refine last_one (j := 14) (by kernel_rfl) rfl (fun K hK => ?_)
   rw [if_pos (by rfl)]
   refine wp_append_run _ _ _ 22 rfl _ _ _ _ rfl rfl hr2 ?_
   refine hK.out _ _ (fun _ => HE15.out) ?_
   simp only [Act.put, tA, tB, tC, tD, tE, tF]
   clear hK K
   refine last_one (j := 15) (by kernel_rfl) rfl (fun K hK => ?_)
   rw [if_pos (by rfl)]
   simp only [tA, tB, tC]
   go_simp
   refine hK.out _ _ (fun _ => HE15.out) ?_
   clear hK K
   refine last_one (j := 16) (by kernel_rfl) rfl (fun K hK => ?_)
   rw [if_pos (by rfl)]
   simp only [tA, tB, tC]
   go_simp
   refine hK.out _ _ (fun _ => HE15.out) ?_
   clear hK K
   refine last_one (j := 17) (by kernel_rfl) rfl (fun K hK => ?_)
   rw [if_pos (by rfl)]
   simp only [tA, tB, tC]
   go_simp
   refine hK.out _ _ (fun e => absurd rfl e) ?_
   clear hK K
   refine last_done (by kernel_rfl) ?_ _
   go_wp2_with fail
   exact ⟨⟨lf, rfl, HX.out.2.2.2.2.1, ⟨k, _, _, HX.out.1, HX.out.2.1, HX.out.2.2.1, HX.out.2.2.2.1, HC2.out⟩⟩, by have := HX.out.2.2.2.2.2; simp [intOf]; omega⟩
  ·obtain rfl : left = 0 := by omega
   go_wp2_with fail
   go_ret
   obtain ⟨k, out1, ov1, q1, q2, q3, q4, q5⟩ := HI.out
   rw [cpyP_zero] at q2
   rw [← q2]
   exact ⟨rfl, ov1, q5.fr, q5.out, q5.co⟩
end
end
end Go.Proofs.YtnjilcokkhodmaaGreatDoor
