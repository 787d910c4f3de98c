/-
  look and behindBlock of a frame as it lies, whatever the unit.
  What read leans on between two rounds.
  A frame whose content grows; what a round leaves.
  read: all units of a member, up to the first one that is wrong.
-/
import Derived.Test.YtnjilcokkhodmaaGreatDoorZP6
import Derived.Test.YtnjilcokkhodmaaGreatDoorZP10
import Derived.Test.YtnjilcokkhodmaaGreatDoorZP14
import Derived.Test.YtnjilcokkhodmaaGreatDoorZP18
import Derived.Test.YtnjilcokkhodmaaGreatDoorZP20
namespace Go.Proofs.YtnjilcokkhodmaaGreatDoor
open Go.RowKit Go.Shelf
set_option linter.unusedVariables false

theorem IsF.turn {w w' : World} {fb : Nat} {F F' : Fr} {x0 x1 x2 : Value} {aw : Option Addr} {cw gw ow : Nat} {ov : Value} (h : IsF w fb F x0 x1 x2 aw cw gw ow ov) (hk : Keep (fun k => k = fb) w w') (hf : IsFr w' fb F' x0 x1 x2 (.slice aw F.ws.length cw) ov)
  (e0 : F'.t0 = F.t0) (e1 : F'.t1 = F.t1) (e2 : F'.t2 = F.t2) (ew : F'.ws = F.ws) (eo : F'.out = F.out) (hok : FrOk F') : IsF w' fb F' x0 x1 x2 aw cw gw ow ov := by
 obtain ⟨p0, p1, p2⟩ := h.apart
 refine ⟨by rw [ew]; exact hf, by rw [e0]; exact h.t0.keepS hk p0, by rw [e1]; exact h.t1.keepS hk p1, by rw [e2]; exact h.t2.keepS hk p2, by rw [ew]; exact h.bw.keep hk h.fw, by rw [eo]; exact h.out.keep hk (fun g hg (e : g = fb) => h.ne (by rw [hg, e])), h.ne, h.p0, h.p1, h.p2,
  fun q => Nat.lt_of_lt_of_le (h.gl (by rw [← ew]; exact q)) hk.size, fun q => h.pw (by rw [← ew]; exact q), fun q => h.fw (by rw [← ew]; exact q), hok⟩
section
variable {Ω : Oc} {Δ : Od}
theorem look_any {w : World} {fb : Nat} {F : Fr} {x0 x1 x2 : Value} {aw : Option Addr} {cw gw ow : Nat} {ov : Value} (h : IsF w fb F x0 x1 x2 aw cw gw ow ov) (u : Un) (hu : UnOk F.fl F.kind F.bsz u) (hl : F.out.length ≤ 16777216)
    (a : Option Addr) (cap gb off : Nat) (hB : Bytes w a cap gb off u.bs) :
    Calls Tryz.prog 12 #[.pointer (some ⟨fb, 0, none⟩), unV u.p a u.bs.length cap u.wh] w fun e w' => e = .returned (.int .i64 (((lookP (orc Ω Δ) F u).2 : Nat) : Int)) ∧ IsF w' fb (lookP (orc Ω Δ) F u).1 x0 x1 x2 aw cw gw ow ov ∧ Keep (fun k => k = fb) w w' := by
  have hq : ∀ w', Keep noBlock w w' → IsF w' fb F x0 x1 x2 aw cw gw ow ov ∧ Keep (fun k => k = fb) w w' := fun w' hk => ⟨h.quiet hk, hk.mono (fun _ _ q => q.elim)⟩
  obtain ⟨p, bs, wh⟩ := u
  dsimp only at *
  cases wh with
  | false =>
    refine (look_cut w fb p a bs.length cap).mono ?_
    rintro e w' ⟨rfl, hk⟩
    exact ⟨rfl, hq w' hk⟩
  | true =>
    have hp := hu.p
    dsimp only at hp
    rcases (show p = 0 ∨ p = 3 ∨ p = 4 ∨ p = 5 ∨ p = 7 ∨ (p = 1 ∨ p = 2 ∨ p = 6) by omega) with rfl | rfl | rfl | rfl | rfl | hp2
    · refine (look_first w fb a cap gb off bs hB (by have := hu.n0 rfl rfl; dsimp only at this; omega)).mono ?_
      rintro e w' ⟨rfl, hk⟩
      exact ⟨rfl, hq w' hk⟩
    · refine (look_flags h.fr a cap gb off bs hB (hu.n3 rfl rfl)).mono ?_
      rintro e w' ⟨rfl, hf, hk⟩
      refine ⟨rfl, h.turn hk hf rfl rfl rfl rfl rfl ⟨h.ok.win, h.ok.siz, h.ok.r0, h.ok.r1, h.ok.r2, ?_, h.ok.bud, h.ok.ws, h.ok.g0, h.ok.g1, h.ok.g2⟩, hk⟩
      exact hu.lt 0
    · have hlen := hu.n4 rfl rfl
      dsimp only at hlen
      refine (look_head h.fr a cap gb off bs hB h.ok.fl hlen h.ok.bud).mono ?_
      rintro e w' ⟨rfl, hf, hk⟩
      exact ⟨rfl, h.turn hk hf rfl rfl rfl rfl rfl ⟨hdWin_lt hu.lt hlen, by have := (hdSiz_lt hu.lt hlen).1; show hdSiz F.fl bs < _; omega, h.ok.r0, h.ok.r1, h.ok.r2, h.ok.fl, h.ok.bud, h.ok.ws, h.ok.g0, h.ok.g1, h.ok.g2⟩, hk⟩
    · refine (look_block h.fr h.ok.win a cap gb off bs hB (hu.n5 rfl rfl)).mono ?_
      rintro e w' ⟨rfl, hf, hk⟩
      exact ⟨rfl, h.turn hk hf rfl rfl rfl rfl rfl ⟨h.ok.win, h.ok.siz, h.ok.r0, h.ok.r1, h.ok.r2, h.ok.fl, h.ok.bud, h.ok.ws, h.ok.g0, h.ok.g1, h.ok.g2⟩, hk⟩
    · obtain ⟨oa, oc, og, e, hb, hob⟩ := owns_bytes h.out.own h.out.lt (by omega)
      subst e
      refine (look_sum h.fr hb a cap gb off bs hB (hu.n7 rfl rfl)).mono ?_
      rintro e w' ⟨rfl, hk⟩
      exact ⟨rfl, hq w' hk⟩
    · refine (look_pass w fb p a bs.length cap hp2).mono ?_
      rintro e w' ⟨rfl, hk⟩
      have e : lookP (orc Ω Δ) F ⟨p, bs, true⟩ = (F, 0) := by
        unfold lookP
        rcases hp2 with rfl | rfl | rfl <;> rfl
      rw [e]
      exact ⟨rfl, hq w' hk⟩
def BhP (w : World) (fb : Nat) (F2 : Fr) (x0 x1 x2 : Value) (aw : Option Addr) (cw gw ow : Nat) (ov : Value) (r : (List Nat × Nat) ⊕ Fr) (e : Ending) (w' : World) : Prop := match r with
 | .inl (o, c) => c ≠ 0 ∧ e = .returned (.int .i64 (c : Int)) ∧ ∃ ov', w'.cell? ⟨fb, 15, none⟩ = some ov' ∧ OutF w' ov' o ∧ (∀ k, ov'.ownBlock = some k → ov.ownBlock = some k)
 | .inr f => e = .returned (.int .i64 0) ∧ f = F2 ∧ F2.out.length ≤ 16777216 ∧ IsF w' fb F2 x0 x1 x2 aw cw gw ow ov
theorem beh_any {w : World} {fb : Nat} {F2 : Fr} {x0 x1 x2 : Value} {aw : Option Addr} {cw gw ow : Nat} {ov : Value} (h : IsF w fb F2 x0 x1 x2 aw cw gw ow ov) (old : List Nat) (hp : old <+: F2.out) (hl : F2.out.length ≤ 1073741824) :
  Calls Tryz.prog 16 #[.pointer (some ⟨fb, 0, none⟩), .int .i64 (old.length : Int)] w fun e w' => BhP w fb F2 x0 x1 x2 aw cw gw ow ov (behP old F2) e w' ∧ Keep (fun k => k = fb) w w' := by
 obtain ⟨oa, oc, e, hoc⟩ := h.out.slice
 subst e
 have hle := hp.length_le
 refine (behind_block h.fr h.ok.siz hl old.length hle hoc).mono ?_
 rintro e w' ⟨rfl, hf, hk⟩
 refine ⟨?_, hk⟩
 have ht : F2.out.take old.length = old := by
  obtain ⟨t, ht⟩ := hp
  rw [← ht, List.take_left]
 have hO := h.out.keep hk (fun g hg (e : g = fb) => h.ne (by rw [hg, e]))
 have hcut := hO.cut old.length hle
 rw [ht] at hcut
 have hob : ∀ k, Value.ownBlock (.slice oa old.length oc) = some k → Value.ownBlock (.slice oa F2.out.length oc) = some k := fun k hk => by cases oa <;> exact hk
 unfold behP behE behD at *
 by_cases h1 : 16777216 < F2.out.length
 ·rw [if_pos h1, if_pos h1]
  rw [show (decide (16777216 < F2.out.length) || (F2.told && decide (F2.siz < F2.out.length))) = true from by rw [decide_eq_true h1]; rfl] at hf
  exact ⟨by decide, rfl, _, cell_of hf 15, hcut, hob⟩
 ·rw [if_neg h1, if_neg h1]
  by_cases h2 : F2.told = true ∧ F2.siz < F2.out.length
  ·rw [if_pos h2, if_pos h2]
   rw [show (decide (16777216 < F2.out.length) || (F2.told && decide (F2.siz < F2.out.length))) = true from by rw [h2.1, decide_eq_true h2.2, Bool.true_and, Bool.or_true]] at hf
   exact ⟨by decide, rfl, _, cell_of hf 15, hcut, hob⟩
  ·have hd : (decide (16777216 < F2.out.length) || (F2.told && decide (F2.siz < F2.out.length))) = false := by
    rw [decide_eq_false h1, Bool.false_or]
    cases ht : F2.told with
    | false => rfl
    | true => rw [decide_eq_false (fun q => h2 ⟨ht, q⟩)]; rfl
   rw [hd] at hf
   rw [if_neg h2, if_neg h2]
   by_cases h3 : F2.told = true ∧ F2.last = true ∧ F2.out.length < F2.siz
   ·rw [if_pos h3, if_pos h3]
    exact ⟨by decide, rfl, _, cell_of hf 15, hO, fun k hk => hk⟩
   ·rw [if_neg h3, if_neg h3]
    exact ⟨rfl, rfl, by omega, h.turn hk hf rfl rfl rfl rfl rfl h.ok⟩
end
end Go.Proofs.YtnjilcokkhodmaaGreatDoor

namespace Go.Proofs.YtnjilcokkhodmaaGreatDoor
open Go.RowKit Go.Shelf
set_option linter.unusedVariables false

section
variable {Ω : Oc} {Δ : Od}
structure Rp where
 Ω : Oc
 Δ : Od
 w : World
 n0 : Nat
 fb : Nat
 b : List Nat
 a : Option Addr
 cap : Nat
 gb : Nat
 off : Nat
 R : List Nat × Nat × Nat
structure RpOk (G : Rp) : Prop where
 n3 : 3 < G.n0
 nf : G.n0 ≤ G.fb
 fq : G.fb < G.w.heap.size
 hB : Bytes G.w G.a G.cap G.gb G.off G.b
 gn : G.gb < G.n0
 fm : Frm G.w
 od : Ords G.w
def farS (G : Rp) (k : Nat) : Prop := k < G.n0 ∨ (G.w.heap.size ≤ k ∧ k ≤ G.w.heap.size + 6)
structure Bxs (G : Rp) (used e : Nat) (V : World) : Prop where
 b2 : V.heap[G.w.heap.size]? = some (.cells #[.pointer (some ⟨G.fb, 0, none⟩)] 31 (0, 0))
 b4 : V.heap[G.w.heap.size + 1]? = some (.cells #[.int .i64 (used : Int)] 3 (0, 0))
 b5 : V.heap[G.w.heap.size + 2]? = some (.cells #[.int .i64 (e : Int)] 23 (0, 0))
 b3 : V.heap[G.w.heap.size + 3]? = some (.cells #[.slice G.a G.b.length G.cap] 22 (0, 0))
 kp : Keep (fun k => G.n0 ≤ k) G.w V
theorem Bxs.keepN {G : Rp} {used e B : Nat} {V V' : World} (h : Bxs G used e V) (hk : KeepN B V V') (hB : G.w.heap.size ≤ B) : Bxs G used e V' :=
 ⟨hk.obj h.b2, hk.obj h.b4, hk.obj h.b5, hk.obj h.b3, h.kp.transN hk hB⟩
theorem Bxs.keepC {G : Rp} {used e : Nat} {V V' : World} (h : Bxs G used e V) (ok : RpOk G) (hk : Keep (fun k => k = G.w.heap.size + 6) V V') : Bxs G used e V' :=
 ⟨hk.obj h.b2 (by omega), hk.obj h.b4 (by omega), hk.obj h.b5 (by omega), hk.obj h.b3 (by omega), h.kp.trans hk (fun i hi (e : i = _) => by omega)⟩
theorem Bxs.far {G : Rp} {used e : Nat} {V V' : World} {S : Nat → Prop} (h : Bxs G used e V) (hk : Keep S V V') (hS : ∀ k, S k → ¬ farS G k) : Bxs G used e V' := by
 have hn : ∀ j, j ≤ 3 → ¬ S (G.w.heap.size + j) := fun j hj hs => hS _ hs (.inr ⟨by omega, by omega⟩)
 refine ⟨hk.obj h.b2 (hn 0 (by omega)), hk.obj h.b4 (hn 1 (by omega)), hk.obj h.b5 (hn 2 (by omega)), hk.obj h.b3 (hn 3 (by omega)), h.kp.trans hk (fun i hi hs => ?_)⟩
 by_cases hin : G.n0 ≤ i
 ·exact hin
 ·exact (hS i hs (.inl (by omega))).elim
def RdS (G : Rp) (us : List Un) (V : World) : Prop := ∃ (F : Fr) (used : Nat) (x0 x1 x2 : Value) (aw : Option Addr) (cw gw ow : Nat) (ov : Value), Bxs G used 0 V ∧ IsF V G.fb F x0 x1 x2 aw cw gw ow ov ∧ FarF (farS G) F G.fb gw x0 x1 x2 ov ∧ runU (orc G.Ω G.Δ) F used us = G.R ∧
 UsOk F.fl F.kind F.bsz us ∧ F.out.length ≤ 16777216 ∧ F.bsz ≤ 131072 ∧ used + totU us ≤ G.b.length
def RdX (G : Rp) (c : Code) (V : World) : Prop := c = .exit 0 ∧ ∃ (used : Nat) (ov : Value), Bxs G used G.R.2.2 V ∧ G.R.2.2 ≠ 0 ∧ V.cell? ⟨G.fb, 15, none⟩ = some ov ∧ OutF V ov G.R.1 ∧ (∀ k, ov.ownBlock = some k → ¬ farS G k)
theorem RdS.keepN {G : Rp} {us : List Un} {B : Nat} {V V' : World} (h : RdS G us V) (hk : KeepN B V V') (hB : G.w.heap.size ≤ B) : RdS G us V' := by
 obtain ⟨F, used, x0, x1, x2, aw, cw, gw, ow, ov, h1, h2, h3⟩ := h
 exact ⟨F, used, x0, x1, x2, aw, cw, gw, ow, ov, h1.keepN hk hB, h2.keepN hk, h3⟩
theorem RdS.keepC {G : Rp} {us : List Un} {V V' : World} (h : RdS G us V) (ok : RpOk G) (hk : Keep (fun k => k = G.w.heap.size + 6) V V') : RdS G us V' := by
 obtain ⟨F, used, x0, x1, x2, aw, cw, gw, ow, ov, h1, h2, h3, h4⟩ := h
 exact ⟨F, used, x0, x1, x2, aw, cw, gw, ow, ov, h1.keepC ok hk, h2.keep hk (h3.mono (fun k (e : k = _) => .inr ⟨by omega, by omega⟩)), h3, h4⟩
theorem OutF.keepN {B : Nat} {V V' : World} {ov : Value} {o : List Nat} (h : OutF V ov o) (hk : KeepN B V V') : OutF V' ov o := by
 refine h.keep hk.asK (fun k hk2 => ?_)
 rcases h.own.2 with ⟨e, h0⟩ | ⟨g, cap, cur, e, hb, hg, h1⟩
 ·rw [e] at hk2; cases hk2
 ·rw [e] at hk2
  obtain rfl : g = k := by simpa [Value.ownBlock] using hk2
  exact noC_cells hg
theorem keepN_cell {B : Nat} {V V' : World} (hk : KeepN B V V') {b i : Nat} {v : Value} (h : V.cell? ⟨b, i, none⟩ = some v) : V'.cell? ⟨b, i, none⟩ = some v := keep_cellS hk.asK (noC_cell h) h
theorem RdX.keepN {G : Rp} {c : Code} {B : Nat} {V V' : World} (h : RdX G c V) (hk : KeepN B V V') (hB : G.w.heap.size ≤ B) : RdX G c V' := by
 obtain ⟨e, used, ov, h1, h2, h3, h4, h5⟩ := h
 exact ⟨e, used, ov, h1.keepN hk hB, h2, keepN_cell hk h3, h4.keepN hk, h5⟩
theorem lookP_ok {F : Fr} {u : Un} (h : (lookP (orc Ω Δ) F u).2 = 0) : u.wh = true ∧ (lookP (orc Ω Δ) F u).1.fl = (if u.wh = true ∧ u.p = 3 then u.bs[0]?.getD 0 else F.fl) ∧ (lookP (orc Ω Δ) F u).1.kind = (if u.wh = true ∧ u.p = 5 then blKind (numN u.bs) else F.kind) ∧
    (lookP (orc Ω Δ) F u).1.bsz = (if u.wh = true ∧ u.p = 5 then blSize (numN u.bs) else F.bsz) ∧ (lookP (orc Ω Δ) F u).1.out = F.out ∧ (F.bsz ≤ 131072 → (lookP (orc Ω Δ) F u).1.bsz ≤ 131072) ∧ (u.p = 6 → (lookP (orc Ω Δ) F u).1 = F) := by
  obtain ⟨p, bs, wh⟩ := u
  unfold lookP at *
  dsimp only at *
  cases wh with
  | false => simp at h
  | true =>
    simp only [Bool.true_eq_false, if_false, true_and] at *
    by_cases h0 : p = 0
    · subst h0; simp
    · rw [if_neg h0] at h ⊢
      by_cases h3 : p = 3
      · subst h3; simp
      · rw [if_neg h3] at h ⊢
        by_cases h4 : p = 4
        · subst h4; simp
        · rw [if_neg h4] at h ⊢
          by_cases h5 : p = 5
          · subst h5
            simp only [if_true] at h ⊢
            refine ⟨by simp, by simp, by simp, by simp, fun _ => ?_, by omega⟩
            by_cases hc : blKind (numN bs) ≠ 3 ∧ blSize (numN bs) ≤ mostF F
            · have := hc.2
              unfold mostF at this
              show blSize (numN bs) ≤ _
              omega
            · rw [if_neg hc] at h; cases h
          · rw [if_neg h5] at h ⊢
            by_cases h7 : p = 7
            · subst h7; simp
            · rw [if_neg h7] at h ⊢
              simp [h3, h5]
theorem runU_inl {F : Fr} {used : Nat} {u : Un} {us : List Un} {r : List Nat × Nat} (h : stepU (orc Ω Δ) F u = .inl r) : runU (orc Ω Δ) F used (u :: us) = (r.1, 0, r.2) := by
 unfold runU
 rw [h]
theorem runU_inr {F f1 : Fr} {used : Nat} {u : Un} {us : List Un} (h : stepU (orc Ω Δ) F u = .inr f1) : runU (orc Ω Δ) F used (u :: us) = runU (orc Ω Δ) f1 (used + u.bs.length) us := by
 show (match stepU (orc Ω Δ) F u with | .inl r => (r.1, 0, r.2) | .inr f1 => runU (orc Ω Δ) f1 (used + u.bs.length) us) = _
 rw [h]
theorem stepU_look {F : Fr} {u : Un} (h : (lookP (orc Ω Δ) F u).2 ≠ 0) : stepU (orc Ω Δ) F u = .inl ((lookP (orc Ω Δ) F u).1.out, (lookP (orc Ω Δ) F u).2) := by
 unfold stepU; rw [if_pos h]
theorem stepU_pass {F : Fr} {u : Un} (h : (lookP (orc Ω Δ) F u).2 = 0) (hp : u.p ≠ 6) : stepU (orc Ω Δ) F u = .inr (lookP (orc Ω Δ) F u).1 := by
 unfold stepU; rw [if_neg (by omega), if_pos hp]
def putB (Ω : Oc) (Δ : Od) (F : Fr) (u : Un) : (List Nat × Nat) ⊕ Fr :=
 if F.kind = 0 then behP F.out { F with out := F.out ++ u.bs }
 else if F.kind = 1 then behP F.out { F with out := F.out ++ List.replicate F.bsz (u.bs[0]?.getD 0) }
 else if F.kind = 2 then
  match unpackP (orc Ω Δ) F u.bs with
  | none => .inl (F.out, 11)
  | some f2 => behP F.out f2
 else behP F.out F
theorem stepU_block {F : Fr} {u : Un} (h : (lookP (orc Ω Δ) F u).2 = 0) (hp : u.p = 6) : stepU (orc Ω Δ) F u = putB Ω Δ F u := by
 unfold stepU; rw [if_neg (by omega), if_neg (by omega)]; rfl
end
end Go.Proofs.YtnjilcokkhodmaaGreatDoor

namespace Go.Proofs.YtnjilcokkhodmaaGreatDoor
open Go.RowKit Go.Shelf
set_option linter.unusedVariables false

theorem IsF.push {w : World} {fb : Nat} {F : Fr} {x0 x1 x2 : Value} {aw : Option Addr} {cw gw ow : Nat} {ov sv : Value} {bs : List Nat} (h : IsF w fb F x0 x1 x2 aw cw gw ow ov) (hs : SrcB w sv bs) (hb : ∀ j : Nat, bs[j]?.getD 0 < 256) (hl : F.out.length + bs.length ≤ 1073741824) :
    ∃ ov' w2, (Builtin.append_ #[22, 22] 22 #[ov, sv]).run Tryz.prog w = .ok ov' w2 ∧ IsF (w2.setCell ⟨fb, 15, none⟩ ov') fb { F with out := F.out ++ bs } x0 x1 x2 aw cw gw ow ov' ∧ CoS w (w2.setCell ⟨fb, 15, none⟩ ov') fb ov ov' ∧
      w2.cell? ⟨fb, 15, none⟩ = some ov ∧ w2.frozen? ⟨fb, 15, none⟩ = false ∧ Keep (fun k => ov.ownBlock = some k) w w2 := by
  obtain ⟨ov', w2, r1, r2, r3, r4⟩ := h.out.put hs hb (by omega) 22
  have hfr := IsFr.keep h.fr r3 (fun e => h.ne e)
  have hkf : Keep (fun k => k = fb) w2 (w2.setCell ⟨fb, 15, none⟩ ov') := (Keep.refl (fun k => k = fb) w2).setCell (p := ⟨fb, 15, none⟩) (fun _ => rfl) _
  have hco : CoS w (w2.setCell ⟨fb, 15, none⟩ ov') fb ov ov' := ((CoS.refl w fb ov).put r3 r4).atf hkf
  obtain ⟨p0, p1, p2⟩ := h.apart
  have hS : ∀ (v : Value), Apart (fun k => k = fb) v → Apart (fun k => ov.ownBlock = some k) v → Apart (fun k => k = fb ∨ ov.ownBlock = some k) v := fun v h1 h2 p n c e q => q.elim (h1 p n c e) (h2 p n c e)
  have hap : ∀ (v : Value) (t : Option Tb), IsTs w v t → Apart (fun k => ov.ownBlock = some k) v → Apart (fun k => ov'.ownBlock = some k) v := fun v t ht hv p n c e q => by
    have h2 := (ht.there p n c e).1
    have q' : ov'.ownBlock = some p.block := q
    rcases r4 with e4 | ⟨k, e4, hk⟩
    · rw [e4] at q'; exact hv p n c e q'
    · rw [e4] at q'
      have := Option.some.inj q'
      omega
  have hgw : F.ws ≠ [] → ¬ (gw = fb ∨ ov.ownBlock = some gw) := fun hne e => e.elim (h.fw hne) (h.pw hne)
  refine ⟨ov', w2, r1, ⟨FrAt.out_set hfr ov', h.t0.keepS hco.kp (hS _ p0 h.p0), h.t1.keepS hco.kp (hS _ p1 h.p1), h.t2.keepS hco.kp (hS _ p2 h.p2), h.bw.keep hco.kp hgw, r2.keep hkf (fun g hg (e : g = fb) => hco.ne h.fr.lt h.ne (by rw [hg, e])), hco.ne h.fr.lt h.ne, hap _ _ h.t0 h.p0, hap _ _ h.t1 h.p1, hap _ _ h.t2 h.p2,
    fun e => Nat.lt_of_lt_of_le (h.gl e) hco.kp.size, fun hne e => ?_, h.fw, ⟨h.ok.win, h.ok.siz, h.ok.r0, h.ok.r1, h.ok.r2, h.ok.fl, h.ok.bud, h.ok.ws, h.ok.g0, h.ok.g1, h.ok.g2⟩⟩, hco, cell_of hfr 15, frozen_of hfr 15, r3⟩
  rcases r4 with e4 | ⟨k, e4, hk⟩
  · rw [e4] at e; exact h.pw hne e
  · rw [e4] at e
    have := Option.some.inj e
    have := h.gl hne
    omega
def rdS (G : Rp) (ov : Value) (k : Nat) : Prop := k = G.fb ∨ ov.ownBlock = some k ∨ k = G.w.heap.size + 1 ∨ k = G.w.heap.size + 2
theorem farS_new {G : Rp} {V : World} (ok : RpOk G) (h : G.w.heap.size + 6 < V.heap.size) {k : Nat} (hk : V.heap.size ≤ k) : ¬ farS G k := fun e => by
 have h1 := ok.nf
 have h2 := ok.fq
 rcases e with e | e <;> omega
theorem rd_end {G : Rp} {V V' : World} {used B : Nat} {F : Fr} {x0 x1 x2 : Value} {aw : Option Addr} {cw gw ow : Nat} {ov : Value} (ok : RpOk G) (hb : Bxs G used 0 V) (hF : IsF V G.fb F x0 x1 x2 aw cw gw ow ov) (hf : FarF (farS G) F G.fb gw x0 x1 x2 ov) (hk : Keep (rdS G ov) V V') (hC : G.w.heap.size + 6 < V.heap.size) :
  KeepsFrom B V V' ∧ PrC (G.w.heap.size + 6) G.gb V V' := by
 have h1 := ok.nf
 have h2 := ok.fq
 have h3 := ok.gn
 have hown : ∀ k, ov.ownBlock = some k → ∃ cur, V.heap[k]? = some (.cells cur 5 (0, 0)) := fun k hk2 => by
  rcases hF.out.own.2 with ⟨e, h0⟩ | ⟨g, cap, cur, e, hb, hg, h1⟩
  ·rw [e] at hk2; cases hk2
  ·rw [e] at hk2
   obtain rfl : g = k := by simpa [Value.ownBlock] using hk2
   exact ⟨cur, hg⟩
 refine ⟨⟨hk.size, fun j o _ hj hc => hk.obj hj (fun e => ?_)⟩, ⟨fun k e => ?_, fun k cs e => hk.obj e (fun e2 => ?_)⟩⟩
 ·rcases e with rfl | e | rfl | rfl
  ·rw [show V.heap[G.fb]? = _ from hF.fr] at hj; cases hj; cases hc
  ·obtain ⟨cur, hg⟩ := hown _ e
   rw [hg] at hj; cases hj; cases hc
  ·rw [hb.b4] at hj; cases hj; cases hc
  ·rw [hb.b5] at hj; cases hj; cases hc
 ·have hlt : k < V.heap.size ∨ V.heap.size ≤ k := by omega
  have hn : ¬ rdS G ov k := fun e2 => by
   have hfk : farS G k := by
    rcases e with rfl | rfl
    ·exact .inr ⟨by omega, by omega⟩
    ·exact .inl h3
   rcases e2 with e2 | e2 | e2 | e2
   ·exact hf.fb (e2 ▸ hfk)
   ·exact hf.ov k e2 hfk
   ·rcases e with rfl | rfl <;> omega
   ·rcases e with rfl | rfl <;> omega
  rcases hlt with hlt | hlt
  ·exact hk.block k hlt hn
  ·exfalso
   have := hF.fr.lt
   rcases e with rfl | rfl <;> omega
 ·rcases e2 with rfl | e2 | rfl | rfl
  ·rw [show V.heap[G.fb]? = _ from hF.fr] at e; cases e
  ·obtain ⟨cur, hg⟩ := hown _ e2
   rw [hg] at e; cases e
  ·rw [hb.b4] at e; cases e
  ·rw [hb.b5] at e; cases e
theorem copyP_fields {f f2 : Fr} {s : Sp} (h : copyP f s = some f2) : f2.fl = f.fl ∧ f2.kind = f.kind ∧ f2.bsz = f.bsz := by
 unfold copyP at h
 split at h
 ·cases h
 ·split at h
  ·cases h
  ·cases h; exact ⟨rfl, rfl, rfl⟩
theorem stepsP_fields : ∀ (ss : List Sp) (f f2 : Fr) (lits : List Nat) (en : Nat), stepsP f lits en ss = some f2 → f2.fl = f.fl ∧ f2.kind = f.kind ∧ f2.bsz = f.bsz ∧ f2.out.length ≤ en
  | [], f, f2, lits, en, h => by
    rw [stepsP_nil] at h
    split at h
    · rename_i hl; cases h; exact ⟨rfl, rfl, rfl, hl⟩
    · cases h
  | s :: ss, f, f2, lits, en, h => by
    rw [stepsP_cons] at h
    split at h
    · cases h
    · split at h
      · cases h
      · split at h
        · cases h
        · rename_i f3 h3
          obtain ⟨a1, a2, a3, a4⟩ := stepsP_fields ss f3 f2 _ en h
          obtain ⟨b1, b2, b3⟩ := copyP_fields h3
          exact ⟨a1.trans b1, a2.trans b2, a3.trans b3, a4⟩
theorem unpackP_fields {O : Orc} {f f2 : Fr} {bs : List Nat} (h : unpackP O f bs = some f2) : f2.fl = f.fl ∧ f2.kind = f.kind ∧ f2.bsz = f.bsz ∧ f2.out.length ≤ f.out.length + mostF f := by
 unfold unpackP at h
 split at h
 ·cases h
 ·split at h
  ·cases h
  ·have h2 := stepsP_fields _ _ _ _ _ h
   exact h2
theorem frm_keep {w w' : World} {S : Nat → Prop} (h : Frm w) (hk : Keep S w w') (h1 : ¬ S 1) : Frm w' := fun i f hi hf =>
 ⟨keep_cellS hk h1 (h i f hi hf).1, keep_cellS hk h1 (h i f hi hf).2.1, keep_cellS hk h1 (h i f hi hf).2.2.1, keep_cellS hk h1 (h i f hi hf).2.2.2⟩
theorem lookP_ws (O : Orc) (F : Fr) (u : Un) : (lookP O F u).1.ws = F.ws := by
 unfold lookP
 repeat' split
 all_goals rfl
/-- A round under way. -/
structure Rst (G : Rp) (V : World) (ov0 : Value) (used e : Nat) (F : Fr) (x0 x1 x2 : Value) (aw : Option Addr) (cw gw ow : Nat) (ov : Value) (W : World) : Prop where
 b : Bxs G used e W
 f : IsF W G.fb F x0 x1 x2 aw cw gw ow ov
 r : FarF (farS G) F G.fb gw x0 x1 x2 ov
 k : Keep (rdS G ov0) V W
 n : ov.ownBlock = ov0.ownBlock ∨ ∃ k, ov.ownBlock = some k ∧ V.heap.size ≤ k
section
variable {G : Rp} {V W W' : World} {ov0 : Value} {used e : Nat} {F : Fr} {x0 x1 x2 : Value} {aw : Option Addr} {cw gw ow : Nat} {ov : Value}
theorem Rst.quiet (h : Rst G V ov0 used e F x0 x1 x2 aw cw gw ow ov W) (hk : Keep noBlock W W') : Rst G V ov0 used e F x0 x1 x2 aw cw gw ow ov W' :=
 ⟨h.b.far hk (fun _ q => q.elim), h.f.quiet hk, h.r, h.k.trans hk (fun _ _ q => q.elim), h.n⟩
theorem Rst.atf {F' : Fr} (h : Rst G V ov0 used e F x0 x1 x2 aw cw gw ow ov W) (hk : Keep (fun k => k = G.fb) W W') (hf : IsF W' G.fb F' x0 x1 x2 aw cw gw ow ov) (ew : F'.ws = F.ws) : Rst G V ov0 used e F' x0 x1 x2 aw cw gw ow ov W' :=
 ⟨h.b.far hk (fun k (q : k = G.fb) => q ▸ h.r.fb), hf, ⟨h.r.fb, h.r.ov, fun q => h.r.gw (by rw [← ew]; exact q), h.r.x0, h.r.x1, h.r.x2⟩, h.k.trans hk (fun _ _ q => .inl q), h.n⟩
theorem far_box {j : Nat} (h1 : j ≤ 6) : farS G (G.w.heap.size + j) := .inr ⟨by omega, by omega⟩
theorem Rst.setE (h : Rst G V ov0 used e F x0 x1 x2 aw cw gw ow ov W) (e' : Nat) : Rst G V ov0 used e' F x0 x1 x2 aw cw gw ow ov (W.setCell ⟨G.w.heap.size + 1 + 1, 0, none⟩ (.int .i64 (e' : Int))) := by
 have hk : Keep (fun k => k = G.w.heap.size + 2) W (W.setCell ⟨G.w.heap.size + 1 + 1, 0, none⟩ (.int .i64 (e' : Int))) := (Keep.refl (fun k => k = G.w.heap.size + 2) W).setCell (p := ⟨G.w.heap.size + 1 + 1, 0, none⟩) (fun _ => rfl) _
 exact ⟨⟨hk.obj h.b.b2 (by omega), hk.obj h.b.b4 (by omega), set_obj h.b.b5 0 _, hk.obj h.b.b3 (by omega), h.b.kp.trans hk (fun i hi (q : i = _) => by omega)⟩,
  h.f.keep hk (h.r.mono (fun k (q : k = _) => q ▸ far_box (by omega))), h.r, h.k.trans hk (fun _ _ q => .inr (.inr (.inr q))), h.n⟩
theorem Rst.setU (h : Rst G V ov0 used e F x0 x1 x2 aw cw gw ow ov W) (u' : Nat) : Rst G V ov0 u' e F x0 x1 x2 aw cw gw ow ov (W.setCell ⟨G.w.heap.size + 1, 0, none⟩ (.int .i64 (u' : Int))) := by
 have hk : Keep (fun k => k = G.w.heap.size + 1) W (W.setCell ⟨G.w.heap.size + 1, 0, none⟩ (.int .i64 (u' : Int))) := (Keep.refl (fun k => k = G.w.heap.size + 1) W).setCell (p := ⟨G.w.heap.size + 1, 0, none⟩) (fun _ => rfl) _
 exact ⟨⟨hk.obj h.b.b2 (by omega), set_obj h.b.b4 0 _, hk.obj h.b.b5 (by omega), hk.obj h.b.b3 (by omega), h.b.kp.trans hk (fun i hi (q : i = _) => by omega)⟩,
  h.f.keep hk (h.r.mono (fun k (q : k = _) => q ▸ far_box (by omega))), h.r, h.k.trans hk (fun _ _ q => .inr (.inr (.inl q))), h.n⟩
theorem Rst.cos (h : Rst G V ov0 used e F x0 x1 x2 aw cw gw ow ov W) (hC : G.w.heap.size + 6 < V.heap.size) (ok : RpOk G) {ov' : Value} (hc : CoS W W' G.fb ov ov') : Bxs G used e W' ∧ Keep (rdS G ov0) V W' ∧ (∀ k, ov'.ownBlock = some k → ¬ farS G k) ∧ (ov'.ownBlock = ov0.ownBlock ∨ ∃ k, ov'.ownBlock = some k ∧ V.heap.size ≤ k) := by
 refine ⟨h.b.far hc.kp (fun k q => ?_), h.k.trans hc.kp (fun k hk q => ?_), fun k hk => ?_, ?_⟩
 ·rcases q with q | q
  ·exact q ▸ h.r.fb
  ·exact h.r.ov k q
 ·rcases q with q | q
  ·exact .inl q
  ·rcases h.n with e | ⟨j, e, hj⟩
   ·exact .inr (.inl (by rw [← e]; exact q))
   ·rw [e] at q
    have := Option.some.inj q
    omega
 ·rcases hc.nw with e | ⟨j, e, hj⟩
  ·rw [e] at hk; exact h.r.ov k hk
  ·rw [e] at hk
   have := Option.some.inj hk
   have := h.k.size
   exact farS_new ok hC (by omega)
 ·rcases hc.nw with e | ⟨j, e, hj⟩
  ·rw [e]; exact h.n
  ·exact .inr ⟨j, e, Nat.le_trans h.k.size hj⟩
theorem Rst.push (h : Rst G V ov0 used e F x0 x1 x2 aw cw gw ow ov W) (hC : G.w.heap.size + 6 < V.heap.size) (ok : RpOk G) {sv : Value} {bs : List Nat} (hs : SrcB W sv bs) (hb : ∀ j : Nat, bs[j]?.getD 0 < 256) (hl : F.out.length + bs.length ≤ 1073741824) :
  ∃ ov' w2, (Builtin.append_ #[22, 22] 22 #[ov, sv]).run Tryz.prog W = .ok ov' w2 ∧ Rst G V ov0 used e { F with out := F.out ++ bs } x0 x1 x2 aw cw gw ow ov' (w2.setCell ⟨G.fb, 15, none⟩ ov') ∧ w2.cell? ⟨G.fb, 15, none⟩ = some ov ∧ w2.frozen? ⟨G.fb, 15, none⟩ = false ∧ Keep (fun k => ov.ownBlock = some k) W w2 := by
 obtain ⟨ov', w2, r1, r2, r3, r4, r5, r6⟩ := h.f.push hs hb hl
 obtain ⟨c1, c2, c3, c4⟩ := h.cos hC ok r3
 exact ⟨ov', w2, r1, ⟨c1, r2, ⟨h.r.fb, c3, h.r.gw, h.r.x0, h.r.x1, h.r.x2⟩, c2, c4⟩, r4, r5, r6⟩
theorem Bxs.setE (h : Bxs G used e W) (ok : RpOk G) (e' : Nat) : Bxs G used e' (W.setCell ⟨G.w.heap.size + 1 + 1, 0, none⟩ (.int .i64 (e' : Int))) ∧ Keep (fun k => k = G.w.heap.size + 2) W (W.setCell ⟨G.w.heap.size + 1 + 1, 0, none⟩ (.int .i64 (e' : Int))) := by
 have hk : Keep (fun k => k = G.w.heap.size + 2) W (W.setCell ⟨G.w.heap.size + 1 + 1, 0, none⟩ (.int .i64 (e' : Int))) := (Keep.refl (fun k => k = G.w.heap.size + 2) W).setCell (p := ⟨G.w.heap.size + 1 + 1, 0, none⟩) (fun _ => rfl) _
 exact ⟨⟨hk.obj h.b2 (by omega), hk.obj h.b4 (by omega), set_obj h.b5 0 _, hk.obj h.b3 (by omega), h.kp.trans hk (fun i hi (q : i = _) => by omega)⟩, hk⟩
theorem own_ne {W : World} {ov : Value} {out : List Nat} (h : OutF W ov out) {rb : Nat} {cs : Array Value} {t : TypeId} (ho : W.heap[rb]? = some (.cells cs t (0, 0))) (ht : t ≠ 5) : ov.ownBlock ≠ some rb := fun e => by
 rcases h.own.2 with ⟨e2, h0⟩ | ⟨g, cap, cur, e2, hb, hg, h1⟩
 ·rw [e2] at e; cases e
 ·rw [e2] at e
  obtain rfl : g = rb := by simpa [Value.ownBlock] using e
  rw [hg] at ho
  cases ho
  exact ht rfl
theorem rd_left (ok : RpOk G) {F2 : Fr} {o : List Nat} {c : Nat} {W5 : World} (h : Rst G V ov0 used 0 F2 x0 x1 x2 aw cw gw ow ov W) (hk : Keep (fun k => k = G.fb) W W5) (hR : G.R = (o, 0, c)) (hc : c ≠ 0) {ov' : Value} (h15 : W5.cell? ⟨G.fb, 15, none⟩ = some ov') (hO : OutF W5 ov' o) (hown : ∀ k, ov'.ownBlock = some k → ov.ownBlock = some k) :
  RdX G (.exit 0) (W5.setCell ⟨G.w.heap.size + 1 + 1, 0, none⟩ (.int .i64 (c : Int))) ∧ Keep (rdS G ov0) V (W5.setCell ⟨G.w.heap.size + 1 + 1, 0, none⟩ (.int .i64 (c : Int))) := by
 have hb := h.b.far hk (fun k (q : k = G.fb) => q ▸ h.r.fb)
 obtain ⟨b1, b2⟩ := hb.setE ok c
 have hne : ∀ k, ¬ farS G k → ¬ k = G.w.heap.size + 2 := fun k hk e => hk (e ▸ far_box (by omega))
 refine ⟨⟨rfl, used, ov', ?_, ?_, keep_cellS b2 (hne _ h.r.fb) h15, ?_, fun k hk2 => h.r.ov k (hown k hk2)⟩, (h.k.trans hk (fun _ _ q => .inl q)).trans b2 (fun _ _ q => .inr (.inr (.inr q)))⟩
 ·rw [hR]; exact b1
 ·rw [hR]; exact hc
 ·rw [hR]; exact hO.keep b2 (fun k hk2 => hne k (h.r.ov k (hown k hk2)))
theorem Rst.packed (h : Rst G V ov0 used e F x0 x1 x2 aw cw gw ow ov W) (hC : G.w.heap.size + 6 < V.heap.size) (ok : RpOk G) {F2 : Fr} {z0 z1 z2 : Value} {ax : Option Addr} {cx gx ox : Nat} {ov' : Value} (hf : IsF W' G.fb F2 z0 z1 z2 ax cx gx ox ov') (hc : CoS W W' G.fb ov ov')
  (n0 : NwS W.heap.size z0) (n1 : NwS W.heap.size z1) (n2 : NwS W.heap.size z2) (ng : F2.ws ≠ [] → W.heap.size ≤ gx) : Rst G V ov0 used e F2 z0 z1 z2 ax cx gx ox ov' W' := by
 obtain ⟨c1, c2, c3, c4⟩ := h.cos hC ok hc
 have hs := h.k.size
 have hn : ∀ k, W.heap.size ≤ k → ¬ farS G k := fun k hk => farS_new ok hC (by omega)
 exact ⟨c1, hf, ⟨h.r.fb, c3, fun q => hn _ (ng q), fun p n c e => hn _ (n0 p n c e), fun p n c e => hn _ (n1 p n c e), fun p n c e => hn _ (n2 p n c e)⟩, c2, c4⟩
end
end Go.Proofs.YtnjilcokkhodmaaGreatDoor

namespace Go.Proofs.YtnjilcokkhodmaaGreatDoor
open Go.RowKit Go.Shelf
set_option linter.unusedVariables false
set_option linter.unusedSimpArgs false
section
def RdP (G : Rp) (e : Ending) (w' : World) : Prop := ∃ (used : Nat) (ov : Value), e = .returned (.tuple #[.int .i64 (used : Int), .int .i64 (G.R.2.2 : Int)]) ∧ (G.R.2.2 = 0 → used = G.R.2.1) ∧ w'.cell? ⟨G.fb, 15, none⟩ = some ov ∧ OutF w' ov G.R.1 ∧ (∀ k, ov.ownBlock = some k → ¬ farS G k) ∧ Keep (fun k => G.n0 ≤ k) G.w w'
theorem results_cc {fn : Func} {a b : Tmp} {t u : TypeId} (h : fn.results = #[.cell a t, .cell b u]) (tmps : Array Value) (P : Program) (w : World) (p q : Addr) (x y : Value) (ha : tmps[a]?.getD undef = .pointer (some p)) (hb : tmps[b]?.getD undef = .pointer (some q)) (hv : (loadVar t p).run P w = .ok x w) (hu : (loadVar u q).run P w = .ok y w) :
  (results fn tmps).run P w = .ok (.tuple #[x, y]) w := by
 simp [results, h, ha, hb, asAddr, hv, hu]
theorem wp_calm {P : Program} {c : Code} {Q : Exit → Act → World → Prop} {a : Act} {w : World} (h : c.wp P (calm Q) a w) : c.wp P Q a w := (wpIn_wide (n := 4)).1 (wpIn_calm (wpIn_wide.2 h))
theorem agg3 : ∀ w, (isAgg 3).run Tryz.prog w = .ok false w := by intro w; kernel_rfl
theorem agg23 : ∀ w, (isAgg 23).run Tryz.prog w = .ok false w := by intro w; kernel_rfl
theorem loadVar3 {w : World} {p : Addr} {v : Value} (h : w.cell? p = some v) : (loadVar 3 p).run Tryz.prog w = .ok v w := by
 simp only [loadVar, Sem.run_bind, agg3, Result.andThen]
 simp [run_load, h]
theorem loadVar23 {w : World} {p : Addr} {v : Value} (h : w.cell? p = some v) : (loadVar 23 p).run Tryz.prog w = .ok v w := by
 simp only [loadVar, Sem.run_bind, agg23, Result.andThen]
 simp [run_load, h]
attribute [local go_sem] Oper.semAt_some sliceSem_eq
set_option maxRecDepth 100000 in
set_option maxHeartbeats 16000000 in
theorem readZ_any (G : Rp) (ok : RpOk G) (h0 : ∀ V, Bxs G 0 0 V → Keep noBlock G.w V → RdS G (unitsU G.b) V) :
    Calls Tryz.prog 10 #[.pointer (some ⟨G.fb, 0, none⟩), .slice G.a G.b.length G.cap] G.w fun e w' => RdP G e w' := by
  have HG := hid (And.intro ok h0)
  obtain ⟨q, hq⟩ : ∃ q, q = G.w.heap.size := ⟨_, rfl⟩
  obtain ⟨n, hn⟩ : ∃ n, n = G.b.length := ⟨_, rfl⟩
  rw [← hn]
  have HNQ := hid (And.intro hn hq)
  have HU := hid (show ∀ W, _ from fun W => units_fn G.a n G.cap W)
  clear ok h0 hn
  refine (callsIn_wide (n := 6)).1 ?_
  refine callsIn_of_wp_marks Tryz.func10 rfl trivial ?_ rfl
  simp only [Tryz.ntmps10, List.size_toArray, List.length_cons, List.length_nil, Nat.reduceAdd, Nat.reduceSub, Array.replicate_succ, Array.replicate_zero, List.push_toArray, List.append_toArray, List.nil_append, List.cons_append]
  gi_wp2_with fail
  refine wpIn_wide.2 ?_
  refine wp_scope_straight ?_
  refine wp_seq ?_
  refine wp_label ?_
  go_wp2_with (go_at_call 11; refine (HU.out _).mono ?_; rintro e w' ⟨rfl, rfl⟩)
  have hq2 := HG.out.1.fq
  have hb3 := HG.out.1.nf
  have hgn := HG.out.1.gn
  rw [← hq] at hq2
  obtain ⟨W0, hW0⟩ : ∃ W0, W0 = (((G.w.alloc (.cells #[.pointer (some ⟨G.fb, 0, none⟩)] 31)).alloc (.cells #[.int .i64 0] 3)).alloc (.cells #[.int .i64 0] 23)).alloc (.cells #[.slice G.a n G.cap] 22) := ⟨_, rfl⟩
  have hsz : W0.heap.size = q + 4 := by rw [hW0]; simp only [World.size_alloc]; omega
  have hk0 : Keep noBlock G.w W0 := by rw [hW0]; exact ((((Keep.refl _ G.w).alloc _).alloc _).alloc _).alloc _
  have hbx : Bxs G 0 0 W0 := by
    have o1 := alloc_new G.w (.cells #[.pointer (some ⟨G.fb, 0, none⟩)] 31)
    have o2 := alloc_new (G.w.alloc (.cells #[.pointer (some ⟨G.fb, 0, none⟩)] 31)) (.cells #[.int .i64 0] 3)
    have o3 := alloc_new ((G.w.alloc (.cells #[.pointer (some ⟨G.fb, 0, none⟩)] 31)).alloc (.cells #[.int .i64 0] 3)) (.cells #[.int .i64 0] 23)
    have o4 := alloc_new (((G.w.alloc (.cells #[.pointer (some ⟨G.fb, 0, none⟩)] 31)).alloc (.cells #[.int .i64 0] 3)).alloc (.cells #[.int .i64 0] 23)) (.cells #[.slice G.a n G.cap] 22)
    simp only [World.size_alloc] at o2 o3 o4
    refine ⟨?_, ?_, ?_, ?_, hk0.mono (fun _ _ h => h.elim)⟩
    · rw [hW0]; exact alloc_far (alloc_far (alloc_far o1 _) _) _
    · rw [hW0]; exact alloc_far (alloc_far o2 _) _
    · rw [hW0]; exact alloc_far o3 _
    · rw [hW0, ← HNQ.out.1]; exact o4
  have hI0 := HG.out.2 W0 hbx hk0
  have HW0 := hid (And.intro hsz (And.intro hk0 hbx))
  rw [← hW0]
  clear hW0 hbx
  refine (wpIn_wide (n := 6)).1 (range_iterC (gf := 17) (C := q + 6) (Pr := PrC (q + 6) G.gb) (by omega) (by omega) (fun _ _ _ h k => h.trans k) (fun V o o' ho hc => ?pp) rfl (enters_of Tryz.func17 (by kernel_rfl) rfl) (UnR G.gb (q + 6)) (fun us => us = []) (unitsU G.b) (RdS G)
    (fun l J Jx W hWs hWk hJI hJk hXk hY hJ0 => ?iter) (fun us vs us' V h => ?ps) (RdX G)
    (fun us vs us' a' V => ∃ (u : Un) (ua : Option Addr) (uc uo rb : Nat), us = u :: us' ∧ Bytes V ua uc G.gb uo u.bs ∧ q + 6 < rb ∧ V.heap[rb]? = some (.cells #[.int .i64 (u.p : Int), .slice ua u.bs.length uc, .bool u.wh] 50 (0, 0)) ∧ a' = { tmps := #[Value.pointer (some ⟨G.fb, 0, none⟩), Value.slice G.a n G.cap, Value.pointer (some ⟨G.w.heap.size, 0, none⟩), undef, Value.pointer (some ⟨G.w.heap.size + 1, 0, none⟩), Value.pointer (some ⟨G.w.heap.size + 1 + 1, 0, none⟩), Value.pointer (some ⟨rb, 0, none⟩), undef, Value.slice G.a n G.cap, Value.func (Fn.func 17) #[] #[Value.pointer (some ⟨G.w.heap.size + 1 + 1 + 1, 0, none⟩)], Value.agg #[.int .i64 (u.p : Int), .slice ua u.bs.length uc, .bool u.wh], undef, undef, undef, undef, undef, undef, undef, undef, undef, undef, undef, undef, undef, undef, undef, undef, undef, undef, undef, undef, undef, undef, undef, undef, undef, undef, undef, undef, undef, undef, undef, undef, undef, undef, undef, undef, undef, undef, undef, undef, undef, undef, undef, undef, undef, undef, undef, undef, undef, undef, undef, undef, undef, undef, undef, undef, undef, undef, undef, undef, undef, undef, undef, undef, undef, undef, undef, undef, undef, undef, undef, undef, undef, undef, undef, undef], defers := [] })
    (fun us U V h hk => h.keepN hk (by rw [← hq, hsz]; omega)) (fun us U V h hk => ?hIc) (fun c U V h hk => h.keepN hk (by rw [← hq, hsz]; omega)) (fun us vs us' a' U V h hk => ?hA) hI0 ?assign ?body ?done ?stop)
  case pp =>
    refine ⟨fun k hk => World.putObj_heap_other ?_, fun k cs hk => ?_⟩
    · rcases hk with rfl | rfl <;> omega
    · by_cases e : k = W0.heap.size + 1
      · subst e
        rw [ho] at hk
        cases hk
        cases hc
      · exact (World.putObj_heap_other e).trans hk
  case iter =>
    rw [hsz] at hWs
    have hX : Taker l W.heap.size G.gb J Jx := ⟨fun i X Y h hk => hJk i X Y h (by rw [hWs] at hk; exact hk), hXk, fun us vs us' V h hj m => by
      rw [hWs] at h
      have := hY us vs us' V h hj m
      rw [hWs]
      exact this, by omega⟩
    have hI1 := hJI _ _ hJ0
    have hbs : W.heap[G.w.heap.size + 1 + 1 + 1]? = some (.cells #[.slice G.a G.b.length G.cap] 22 (0, 0)) := by
      obtain ⟨F, used, x0, x1, x2, aw, cw, gw, ow, ov, h1, -⟩ := hI1
      exact h1.b3
    have hbb : Bytes W G.a G.cap G.gb G.off G.b := by
      obtain ⟨F, used, x0, x1, x2, aw, cw, gw, ow, ov, h1, -⟩ := hI1
      exact HG.out.1.hB.keep h1.kp (fun _ (e : G.n0 ≤ G.gb) => by omega)
    refine (callsIn_wide.2 (units1_any l (G.w.heap.size + 1 + 1 + 1) G.gb G.a G.cap G.off G.b J Jx W hX hbs hbb hJ0)).mono ?_
    rintro e W' ⟨h1, h2⟩
    exact ⟨h1, h2.imp (fun h => ⟨[], rfl, h⟩) (fun h => h)⟩
  case ps =>
    obtain ⟨u, ua, uc, uo, -, rfl, -⟩ := h
    rfl
  case hIc =>
    refine h.keepC HG.out.1 ?_
    rw [← hq]
    exact hk
  case hA =>
    obtain ⟨u, ua, uc, uo, rb, h1, h2, h3, h4, h5⟩ := h
    exact ⟨u, ua, uc, uo, rb, h1, h2.keep hk.asK (fun hne => noC_cell (h2.cells 0 (List.length_pos_iff.2 hne))), h3, hk.obj h4, h5⟩
  case assign =>
    rintro us vs us' V K ⟨u, ua, uc, uo, h1, rfl, h3, h4⟩ hi hK
    unfold unV
    gi_wp2
    refine hK _ _ ⟨by simp, fun k' o _ ho _ => alloc_far ho _⟩ ⟨fun k hk => ?_, fun k cs hk => alloc_far hk _⟩ (hi.keepN (((Keep.refl noBlock V).alloc _).toN W0.heap.size) (by rw [← hq, hsz]; omega)) ⟨u, ua, uc, uo, V.heap.size, h1, h3.keep ((Keep.refl noBlock V).alloc _) (fun _ h => h), h4, alloc_new V _, rfl⟩
    have hlt : k < V.heap.size := by
      rcases hk with rfl | rfl
      · exact h4
      · omega
    exact Below.heap_alloc _ _ _ hlt
  case body =>
    rintro us vs us' a' V ⟨F, used, x0, x1, x2, aw, cw, gw, ow, ov, h1, h2, h3, h4, h5, h6, h7, h8⟩ ⟨u, ua, uc, uo, rb, rfl, g2, g3, g4, rfl⟩
    have hrbl : rb < V.heap.size := obj_lt g4
    have hC : G.w.heap.size + 6 < V.heap.size := by omega
    have HC := hid hC
    have HRB := (show Hid (V.heap[rb]? = some (.cells #[.int .i64 (u.p : Int), .slice ua u.bs.length uc, .bool u.wh] 50 (0, 0)) ∧ G.w.heap.size + 6 < rb) from ⟨g4, by omega⟩)
    have HST := (show Hid (Rst G V ov used 0 F x0 x1 x2 aw cw gw ow ov V) from ⟨h1, h2, h3, Keep.refl _ _, .inl rfl⟩)
    have HBd := (show Hid (used + (u.bs.length + totU us') ≤ G.b.length ∧ UsOk F.fl F.kind F.bsz (u :: us') ∧ F.out.length ≤ 16777216 ∧ F.bsz ≤ 131072 ∧ Bytes V ua uc G.gb uo u.bs) from ⟨h8, h5, h6, h7, g2⟩)
    have HRu := hid h4
    have hlk := look_any (Ω := G.Ω) (Δ := G.Δ) h2 u h5.1 h6 ua uc G.gb uo g2
    have HLk := hid hlk
    have c2 : V.cell? ⟨G.w.heap.size, 0, none⟩ = some (.pointer (some ⟨G.fb, 0, none⟩)) := cell_of h1.b2 0
    have r0 : V.cell? ⟨rb, 0, none⟩ = some (.int .i64 (u.p : Int)) := cell_of g4 0
    have r1 : V.cell? ⟨rb, 1, none⟩ = some (.slice ua u.bs.length uc) := cell_of g4 1
    have r2 : V.cell? ⟨rb, 2, none⟩ = some (.bool u.wh) := cell_of g4 2
    have hpb : (u.p : Int) < 8 := by have := h5.1.p; omega
    have hbl : (used : Int) + (u.bs.length : Int) ≤ 281474976710656 := by have := HG.out.1.hB.len; have := HBd.out.1; omega
    have hend := hid (fun (used' e : Nat) (F' : Fr) (ov' : Value) (W : World) (h : Keep (rdS G ov) V W) => rd_end (B := W0.heap.size) HG.out.1 h1 h2 h3 h hC)
    have HQ := hid (And.intro hsz hq)
    clear h1 h2 h3 h4 h5 h6 h7 h8 g2 g3 g4 hrbl hC hlk hsz hq hI0 hq2 hb3 hgn
    rename_i hnn
    obtain ⟨p, bs, wh⟩ := u
    dsimp only at *
    unfold unV at HLk
    obtain ⟨ln, hln⟩ : ∃ ln, ln = bs.length := ⟨_, rfl⟩
    rw [← hln] at r1 hbl HLk ⊢
    have HLn := hid hln
    clear hln
    obtain ⟨c, hc⟩ : ∃ c, c = (lookP (orc G.Ω G.Δ) F ⟨p, bs, wh⟩).2 := ⟨_, rfl⟩
    rw [← hc] at HLk
    have HCc := hid hc
    clear hc
    have HLk2 := (show Hid (Calls Tryz.prog 12 #[.pointer (some ⟨G.fb, 0, none⟩), .agg #[.int .i64 (p : Int), .slice ua ln uc, .bool wh]] V fun e w1 => e = .returned (.int .i64 (c : Int)) ∧ Hid (Rst G V ov used 0 (lookP (orc G.Ω G.Δ) F ⟨p, bs, wh⟩).1 x0 x1 x2 aw cw gw ow ov w1 ∧ Keep (fun k => k = G.fb) V w1) ∧ w1.cell? ⟨G.w.heap.size + 1 + 1, 0, none⟩ = some (.int .i64 0) ∧ w1.frozen? ⟨G.w.heap.size + 1 + 1, 0, none⟩ = false) from HLk.out.mono (by
      rintro e w1 ⟨rfl, q1, q2⟩
      have q3 := HST.out.atf q2 q1 (lookP_ws _ _ _)
      exact ⟨rfl, ⟨q3, q2⟩, cell_of q3.b.b5 0, frozen_of q3.b.b5 0⟩))
    clear HLk
    by_cases hc0 : c = 0
    · subst hc0
      have HLO := hid (lookP_ok HCc.out.symm)
      have e4u : ∀ w1, Rst G V ov used 0 (lookP (orc G.Ω G.Δ) F ⟨p, bs, wh⟩).1 x0 x1 x2 aw cw gw ow ov w1 ∧ Keep (fun k => k = G.fb) V w1 → True := fun _ _ => trivial
      clear e4u
      have HLk3 := (show Hid (Calls Tryz.prog 12 #[.pointer (some ⟨G.fb, 0, none⟩), .agg #[.int .i64 (p : Int), .slice ua ln uc, .bool wh]] V fun e w1 => e = .returned (.int .i64 0) ∧ Hid (Rst G V ov used 0 (lookP (orc G.Ω G.Δ) F ⟨p, bs, wh⟩).1 x0 x1 x2 aw cw gw ow ov w1) ∧ w1.cell? ⟨G.w.heap.size + 1 + 1, 0, none⟩ = some (.int .i64 0) ∧ w1.frozen? ⟨G.w.heap.size + 1 + 1, 0, none⟩ = false ∧
          (w1.setCell ⟨G.w.heap.size + 1 + 1, 0, none⟩ (.int .i64 0)).cell? ⟨G.w.heap.size + 1, 0, none⟩ = some (.int .i64 (used : Int)) ∧ (w1.setCell ⟨G.w.heap.size + 1 + 1, 0, none⟩ (.int .i64 0)).frozen? ⟨G.w.heap.size + 1, 0, none⟩ = false ∧ (w1.setCell ⟨G.w.heap.size + 1 + 1, 0, none⟩ (.int .i64 0)).cell? ⟨rb, 1, none⟩ = some (.slice ua ln uc) ∧
          ((w1.setCell ⟨G.w.heap.size + 1 + 1, 0, none⟩ (.int .i64 0)).setCell ⟨G.w.heap.size + 1, 0, none⟩ (.int .i64 ((used + ln : Nat) : Int))).cell? ⟨rb, 0, none⟩ = some (.int .i64 (p : Int))) from HLk2.out.mono (by
        rintro e w1 ⟨rfl, q1, q2, q3⟩
        have q4 := q1.out.1.setE 0
        have q5 := q4.setU (used + ln)
        have hnr : ¬ rdS G ov rb := fun e => by
          have hr2 := HRB.out.2
          have hr3 := HG.out.1.fq
          rcases e with e | e | e | e
          · omega
          · exact own_ne HST.out.f.out HRB.out.1 (by decide) e
          · omega
          · omega
        rw [HLn.out] at *
        exact ⟨rfl, q1.out.1, q2, q3, cell_of q4.b.b4 0, frozen_of q4.b.b4 0, cell_of (q4.k.obj HRB.out.1 hnr) 1, cell_of (q5.k.obj HRB.out.1 hnr) 0⟩))
      clear HLk2
      have hadd : (used : Int) + (ln : Int) = ((used + ln : Nat) : Int) := by omega
      obtain ⟨ul, hul⟩ : ∃ ul, ul = used + ln := ⟨_, rfl⟩
      rw [← hul] at hadd HLk3
      have HUl := hid hul
      clear hul
      have hulb : (ul : Int) ≤ 281474976710656 := by omega
      by_cases hp6 : p = 6
      · have HP6 := hid hp6
        have hF := HLO.out.2.2.2.2.2.2 hp6
        rw [hF] at HLk3
        have hpd : decide (p = 6) = true := decide_eq_true hp6
        have hpn : ((p : Int) != 6) = false := by simp; omega
        obtain ⟨oa, oc, hov, hoc⟩ := HST.out.f.out.slice
        obtain ⟨No, hNo⟩ : ∃ No, No = F.out.length := ⟨_, rfl⟩
        rw [← hNo] at hov hoc
        subst hov
        have HNo := hid hNo
        have hNob : (No : Int) ≤ 16777216 := by have := HBd.out.2.2.1; omega
        obtain ⟨kd, hkd⟩ : ∃ kd, kd = F.kind := ⟨_, rfl⟩
        have HKd := hid hkd
        have HBl := (show Hid (bs.length ≤ 131072 ∧ (F.kind = 1 → bs.length = 1)) from by
          have hwh := HLO.out.1
          have hn6 := HBd.out.2.1.1.n6 hwh hp6
          have hb4 := HBd.out.2.2.2.1
          dsimp only at hn6
          rw [hn6]
          refine ⟨?_, fun h => if_pos h⟩
          split <;> omega)
        have hrbo : rb ≠ G.w.heap.size + 1 + 1 ∧ rb ≠ G.w.heap.size + 1 := by have := HRB.out.2; omega
        clear hNo hkd hoc hF
        clear hp6
        have HLk4 := (show Hid (Calls Tryz.prog 12 #[.pointer (some ⟨G.fb, 0, none⟩), .agg #[.int .i64 (p : Int), .slice ua ln uc, .bool wh]] V fun e w1 => e = .returned (.int .i64 0) ∧ Hid (Rst G V (.slice oa No oc) ul 0 F x0 x1 x2 aw cw gw ow (.slice oa No oc) ((w1.setCell ⟨G.w.heap.size + 1 + 1, 0, none⟩ (.int .i64 0)).setCell ⟨G.w.heap.size + 1, 0, none⟩ (.int .i64 (ul : Int)))) ∧ w1.cell? ⟨G.w.heap.size + 1 + 1, 0, none⟩ = some (.int .i64 0) ∧ w1.frozen? ⟨G.w.heap.size + 1 + 1, 0, none⟩ = false ∧
          (w1.setCell ⟨G.w.heap.size + 1 + 1, 0, none⟩ (.int .i64 0)).cell? ⟨G.w.heap.size + 1, 0, none⟩ = some (.int .i64 (used : Int)) ∧ (w1.setCell ⟨G.w.heap.size + 1 + 1, 0, none⟩ (.int .i64 0)).frozen? ⟨G.w.heap.size + 1, 0, none⟩ = false ∧ (w1.setCell ⟨G.w.heap.size + 1 + 1, 0, none⟩ (.int .i64 0)).cell? ⟨rb, 1, none⟩ = some (.slice ua ln uc) ∧
          ((w1.setCell ⟨G.w.heap.size + 1 + 1, 0, none⟩ (.int .i64 0)).setCell ⟨G.w.heap.size + 1, 0, none⟩ (.int .i64 (ul : Int))).cell? ⟨rb, 0, none⟩ = some (.int .i64 (p : Int)) ∧
          ((w1.setCell ⟨G.w.heap.size + 1 + 1, 0, none⟩ (.int .i64 0)).setCell ⟨G.w.heap.size + 1, 0, none⟩ (.int .i64 (ul : Int))).cell? ⟨G.w.heap.size, 0, none⟩ = some (.pointer (some ⟨G.fb, 0, none⟩)) ∧
          ((w1.setCell ⟨G.w.heap.size + 1 + 1, 0, none⟩ (.int .i64 0)).setCell ⟨G.w.heap.size + 1, 0, none⟩ (.int .i64 (ul : Int))).cell? ⟨G.fb, 15, none⟩ = some (.slice oa No oc) ∧
          ((w1.setCell ⟨G.w.heap.size + 1 + 1, 0, none⟩ (.int .i64 0)).setCell ⟨G.w.heap.size + 1, 0, none⟩ (.int .i64 (ul : Int))).cell? ⟨G.fb, 13, none⟩ = some (.int .i64 (kd : Int))) from HLk3.out.mono (by
          rintro e w1 ⟨rfl, q1, q2, q3, q4, q5, q6, q7⟩
          have q8 := (q1.out.setE 0).setU ul
          exact ⟨rfl, q8, q2, q3, q4, q5, q6, q7, cell_of q8.b.b2 0, cell_of q8.f.fr 15, by rw [HKd.out]; exact cell_of q8.f.fr 13⟩))
        clear HLk3
        have HW2 := hid (fun (W2 : World) (h : Rst G V (.slice oa No oc) ul 0 F x0 x1 x2 aw cw gw ow (.slice oa No oc) W2) => (show W2.heap[rb]? = some (.cells #[.int .i64 (p : Int), .slice ua bs.length uc, .bool wh] 50 (0, 0)) ∧ Bytes W2 ua uc G.gb uo bs from
          ⟨h.k.obj HRB.out.1 (fun e => by
            have hr2 := HRB.out.2
            have hr3 := HG.out.1.fq
            rcases e with e | e | e | e
            · omega
            · exact own_ne HST.out.f.out HRB.out.1 (by decide) e
            · omega
            · omega), HBd.out.2.2.2.2.keep h.k (fun _ e => by
            have h1 := HG.out.1.gn
            have h2 := HG.out.1.nf
            have h3 := HG.out.1.fq
            rcases e with e | e | e | e
            · omega
            · exact h.r.ov _ (by rcases h.n with q | ⟨k, q, hk⟩ <;> first | exact e | omega) (.inl h1)
            · omega
            · omega)⟩))
        by_cases hk0 : kd = 0
        · have hkb : ((kd : Int) == 0) = true := by simp; omega
          have hkd0 : decide (kd = 0) = true := decide_eq_true hk0
          have HK0 := hid hk0
          clear hk0
          gi_wp2_with (refine ⟨trivial, ?_⟩; gi_at_call 12; refine (CallsIn.inRound _ (callsIn_wide.2 HLk4.out)).mono ?_; rintro e w1 ⟨rfl, HP, e5, f5, e4, f4, rr1, rr0, cc2, cc15, cc13⟩)
          clear e5 f5 e4 f4 rr1 rr0 cc2 cc15 cc13 HLk4 c2 r0 r1 r2
          generalize (w1.setCell ⟨G.w.heap.size + 1 + 1, 0, none⟩ (.int .i64 0)).setCell ⟨G.w.heap.size + 1, 0, none⟩ (.int .i64 (ul : Int)) = W2 at *
          clear w1
          obtain ⟨y1, y2⟩ := HW2.out W2 HP.out
          have hrb1 : W2.drew.cell? ⟨rb, 1, none⟩ = some (.slice ua ln uc) := by rw [HLn.out]; exact cell_of (w := W2.drew) y1 1
          have HS := (show Hid (W2.drew.cell? ⟨G.w.heap.size, 0, none⟩ = some (.pointer (some ⟨G.fb, 0, none⟩)) ∧ W2.drew.cell? ⟨G.fb, 15, none⟩ = some (.slice oa No oc) ∧ W2.drew.cell? ⟨rb, 1, none⟩ = some (.slice ua ln uc)) from ⟨cell_of (w := W2.drew) HP.out.b.b2 0, cell_of (w := W2.drew) HP.out.f.fr 15, hrb1⟩)
          have hkd2 : Keep noBlock W2 W2.drew := (Keep.refl noBlock W2).drew
          have hsrc := (y2.keep hkd2 (fun _ h => h)).src
          rw [← HLn.out] at hsrc
          obtain ⟨ov2, v2, hr2, hst2, e15, f15, kow⟩ := (HP.out.quiet hkd2).push HC.out HG.out.1 hsrc HBd.out.2.2.2.2.lt (by have := HBd.out.2.2.1; have := HBl.out.1; omega)
          have hrow : ¬ (Value.slice oa No oc).ownBlock = some rb := own_ne HP.out.f.out y1 (by decide)
          have hqow : ¬ (Value.slice oa No oc).ownBlock = some G.w.heap.size := fun e => HP.out.r.ov _ e (far_box (j := 0) (by omega))
          have HE := (show Hid (v2.cell? ⟨G.w.heap.size, 0, none⟩ = some (.pointer (some ⟨G.fb, 0, none⟩)) ∧ v2.cell? ⟨G.fb, 15, none⟩ = some (.slice oa No oc) ∧ v2.cell? ⟨rb, 1, none⟩ = some (.slice ua ln uc)) from ⟨keep_cellS kow hqow HS.out.1, e15, keep_cellS kow hrow HS.out.2.2⟩)
          obtain ⟨oa2, oc2, hov2, -⟩ := hst2.f.out.slice
          obtain ⟨N2, hN2⟩ : ∃ N2, N2 = ({ F with out := F.out ++ bs } : Fr).out.length := ⟨_, rfl⟩
          rw [← hN2] at hov2
          subst hov2
          have HST3 := hid hst2
          clear hrb1 y1 y2 hkd2 hsrc hst2 hrow hqow kow hN2
          refine region_roundL (fun W => W.cell? ⟨G.w.heap.size, 0, none⟩ = some (.pointer (some ⟨G.fb, 0, none⟩)) ∧ W.cell? ⟨G.fb, 15, none⟩ = some (.slice oa No oc) ∧ W.cell? ⟨rb, 1, none⟩ = some (.slice ua ln uc)) 10 (by kernel_rfl) mx HS.out (fun hS => ?_)
          refine tk (i := 0) (v := ?_) rfl (by kernel_rfl) (fun _ _ _ h => h) (by rfl) ?_ (by assumption) ?_
          rotate_left 1
          · intro w hSw; (try dsimp only at hSw); (try obtain ⟨hSw1, hSw2, hSw3⟩ := hSw); (go_simp <;> with_reducible rfl)
          simp only [Act.put, tA, tB, tD, tE, tF]
          refine tk (i := 1) (v := ?_) rfl (by kernel_rfl) (fun _ _ _ h => h) (by rfl) ?_ (by assumption) ?_
          rotate_left 1
          · intro w hSw; (try dsimp only at hSw); (try obtain ⟨hSw1, hSw2, hSw3⟩ := hSw); (go_simp <;> with_reducible rfl)
          simp only [Act.put, tA, tB, tC, tD, tE, tF]
          refine tk (i := 2) (v := ?_) rfl (by kernel_rfl) (fun _ _ _ h => h) (by rfl) ?_ (by assumption) ?_
          rotate_left 1
          · intro w hSw; (try dsimp only at hSw); (try obtain ⟨hSw1, hSw2, hSw3⟩ := hSw); (go_simp <;> with_reducible rfl)
          simp only [Act.put, tA, tB, tC, tD, tE, tF]
          refine tk (i := 3) (v := ?_) rfl (by kernel_rfl) (fun _ _ _ h => h) (by rfl) ?_ (by assumption) ?_
          rotate_left 1
          · intro w hSw; (try dsimp only at hSw); (try obtain ⟨hSw1, hSw2, hSw3⟩ := hSw); (go_simp <;> with_reducible rfl)
          simp only [Act.put, tA, tB, tC, tD, tE, tF]
          refine tk (i := 4) (v := ?_) rfl (by kernel_rfl) (fun _ _ _ h => h) (by rfl) ?_ (by assumption) ?_
          rotate_left 1
          · intro w hSw; (try dsimp only at hSw); (try obtain ⟨hSw1, hSw2, hSw3⟩ := hSw); (go_simp <;> with_reducible rfl)
          simp only [Act.put, tA, tB, tC, tD, tE, tF]
          refine tk (i := 5) (v := ?_) rfl (by kernel_rfl) (fun _ _ _ h => h) (by rfl) ?_ (by assumption) ?_
          rotate_left 1
          · intro w hSw; (try dsimp only at hSw); (try obtain ⟨hSw1, hSw2, hSw3⟩ := hSw); (go_simp <;> with_reducible rfl)
          simp only [Act.put, tA, tB, tC, tD, tE, tF]
          refine tk (i := 6) (v := ?_) rfl (by kernel_rfl) (fun _ _ _ h => h) (by rfl) ?_ (by assumption) ?_
          rotate_left 1
          · intro w hSw; (try dsimp only at hSw); (try obtain ⟨hSw1, hSw2, hSw3⟩ := hSw); (go_simp <;> with_reducible rfl)
          simp only [Act.put, tA, tB, tC, tD, tE, tF]
          refine last_one (j := 7) (by kernel_rfl) rfl (fun K hK => ?_)
          rw [if_pos (by rfl)]
          refine wp_append_run _ _ _ 22 rfl _ _ _ _ rfl rfl hr2 ?_
          refine hK.out _ _ (fun _ => HE.out) ?_
          simp only [Act.put, tA, tB, tC, tD, tE, tF]
          clear hK K
          refine last_one (j := 8) (by kernel_rfl) rfl (fun K hK => ?_)
          rw [if_pos (by rfl)]
          simp only [tA, tB, tC]
          go_simp
          refine hK.out _ _ (fun _ => HE.out) ?_
          clear hK K
          refine last_one (j := 9) (by kernel_rfl) rfl (fun K hK => ?_)
          rw [if_pos (by rfl)]
          simp only [tA, tB, tC]
          go_simp
          refine hK.out _ _ (fun _ => HE.out) ?_
          clear hK K
          refine last_one (j := 10) (by kernel_rfl) rfl (fun K hK => ?_)
          rw [if_pos (by rfl)]
          simp only [tA, tB, tC]
          go_simp
          refine hK.out _ _ (fun e => absurd rfl e) ?_
          clear hK K
          refine last_done (by kernel_rfl) ?_ _
          simp only [onward]
          clear HE e15 f15 hr2 hS HS HP
          generalize v2.setCell ⟨G.fb, 15, none⟩ (.slice oa2 N2 oc2) = W3 at *
          clear v2
          have HPf := (show Hid (F.out <+: ({ F with out := F.out ++ bs } : Fr).out ∧ ({ F with out := F.out ++ bs } : Fr).out.length ≤ 1073741824 ∧ putB G.Ω G.Δ F ⟨p, bs, wh⟩ = behP F.out { F with out := F.out ++ bs }) from ⟨List.prefix_append _ _, by show (F.out ++ bs).length ≤ _; rw [List.length_append]; have := HBd.out.2.2.1; have := HBl.out; omega, by unfold putB; rw [if_pos (by rw [← HKd.out]; exact HK0.out)]⟩)
          have HBh := hid (beh_any HST3.out.f F.out HPf.out.1 HPf.out.2.1)
          have hc23 : W3.cell? ⟨G.w.heap.size, 0, none⟩ = some (.pointer (some ⟨G.fb, 0, none⟩)) := cell_of HST3.out.b.b2 0
          rw [← HNo.out] at HBh
          cases hbp : behP F.out { F with out := F.out ++ bs } with
          | inl r =>
            obtain ⟨o, c⟩ := r
            rw [hbp] at HBh
            have HBi := (show Hid (Calls Tryz.prog 16 #[.pointer (some ⟨G.fb, 0, none⟩), .int .i64 (No : Int)] W3 fun e w5 => e = .returned (.int .i64 (c : Int)) ∧ Hid (RdX G (.exit 0) (w5.setCell ⟨G.w.heap.size + 1 + 1, 0, none⟩ (.int .i64 (c : Int))) ∧ Keep (rdS G (.slice oa No oc)) V (w5.setCell ⟨G.w.heap.size + 1 + 1, 0, none⟩ (.int .i64 (c : Int)))) ∧ c ≠ 0 ∧ w5.cell? ⟨G.w.heap.size + 1 + 1, 0, none⟩ = some (.int .i64 0) ∧ w5.frozen? ⟨G.w.heap.size + 1 + 1, 0, none⟩ = false) from HBh.out.mono (by
              rintro e w5 ⟨⟨t1, t2, ov5, t3, t4, t5⟩, t6⟩
              have hR : G.R = (o, 0, c) := by
                rw [← HRu.out, runU_inl (r := (o, c)) (by rw [stepU_block HCc.out.symm HP6.out]; exact HPf.out.2.2.trans hbp)]
              obtain ⟨l1, l2⟩ := rd_left HG.out.1 HST3.out t6 hR t1 t3 t4 t5
              have hb := HST3.out.b.far t6 (fun k (q : k = G.fb) => q ▸ HST3.out.r.fb)
              exact ⟨t2, ⟨l1, l2⟩, t1, cell_of hb.b5 0, frozen_of hb.b5 0⟩))
            clear HBh
            have hcc : c ≠ 0 → ((c : Int) != 0) = true := fun h => by simp; omega
            gi_wp2_with (refine ⟨trivial, ?_⟩; gi_at_call 16; refine (CallsIn.inRound _ (callsIn_wide.2 HBi.out)).mono ?_; rintro e w5 ⟨rfl, HP5, hcn, e55, f55⟩; have hcb := hcc hcn)
            obtain ⟨k1, k2⟩ := hend.out 0 0 F (.slice oa No oc) _ HP5.out.2
            exact ⟨k1, HP5.out.1, by rw [HQ.out.2]; exact k2⟩
          | inr f =>
            rw [hbp] at HBh
            have HBi := (show Hid (Calls Tryz.prog 16 #[.pointer (some ⟨G.fb, 0, none⟩), .int .i64 (No : Int)] W3 fun e w5 => e = .returned (.int .i64 0) ∧ Hid (RdS G us' (w5.setCell ⟨G.w.heap.size + 1 + 1, 0, none⟩ (.int .i64 0)) ∧ Keep (rdS G (.slice oa No oc)) V (w5.setCell ⟨G.w.heap.size + 1 + 1, 0, none⟩ (.int .i64 0))) ∧ w5.cell? ⟨G.w.heap.size + 1 + 1, 0, none⟩ = some (.int .i64 0) ∧ w5.frozen? ⟨G.w.heap.size + 1 + 1, 0, none⟩ = false) from HBh.out.mono (by
              rintro e w5 ⟨⟨t1, t2, t3, t4⟩, t6⟩
              have t7 := HST3.out.atf t6 t4 rfl
              have t8 := t7.setE 0
              obtain ⟨b1, b2, b3, b4, b5⟩ := HBd.out
              obtain ⟨l1, l2, l3, l4, l5, l6, l7⟩ := HLO.out
              have hus := b2.2
              rw [← l2, ← l3, ← l4, l7 HP6.out] at hus
              refine ⟨t1, ⟨⟨{ F with out := F.out ++ bs }, ul, _, _, _, _, _, _, _, _, t8.b, t8.f, t8.r, ?_, ?_, t3, ?_, ?_⟩, t8.k⟩, cell_of t7.b.b5 0, frozen_of t7.b.b5 0⟩
              · rw [← HRu.out, runU_inr (f1 := { F with out := F.out ++ bs }) (by rw [stepU_block HCc.out.symm HP6.out]; exact (HPf.out.2.2.trans hbp).trans (congrArg Sum.inr t2)), HUl.out, HLn.out]
              · exact hus
              · exact b4
              · rw [HUl.out, HLn.out]; omega))
            clear HBh
            gi_wp2_with (refine ⟨trivial, ?_⟩; gi_at_call 16; refine (CallsIn.inRound _ (callsIn_wide.2 HBi.out)).mono ?_; rintro e w5 ⟨rfl, HP5, e55, f55⟩)
            obtain ⟨k1, k2⟩ := hend.out 0 0 F (.slice oa No oc) _ HP5.out.2
            exact ⟨k1, HP5.out.1, by rw [HQ.out.2]; exact k2⟩
        · have hkb0 : ((kd : Int) == 0) = false := by simp; omega
          have hkd0 : decide (kd = 0) = false := decide_eq_false hk0
          have HK0 := hid hk0
          clear hk0
          by_cases hk1 : kd = 1
          · have hkb : ((kd : Int) == 1) = true := by simp; omega
            have hkd1 : decide (kd = 1) = true := decide_eq_true hk1
            have HK1 := hid hk1
            clear hk1
            gi_wp2_with (refine ⟨trivial, ?_⟩; gi_at_call 12; refine (CallsIn.inRound _ (callsIn_wide.2 HLk4.out)).mono ?_; rintro e w1 ⟨rfl, HP, e5, f5, e4, f4, rr1, rr0, cc2, cc15, cc13⟩)
            clear e5 f5 e4 f4 rr1 rr0 cc2 cc15 cc13 HLk4 c2 r0 r1 r2
            generalize (w1.setCell ⟨G.w.heap.size + 1 + 1, 0, none⟩ (.int .i64 0)).setCell ⟨G.w.heap.size + 1, 0, none⟩ (.int .i64 (ul : Int)) = W2 at *
            clear w1
            obtain ⟨y1, y2⟩ := HW2.out W2 HP.out
            have hb1 := HBl.out.2 (by rw [← HKd.out]; exact HK1.out)
            have hbx : bs = [bs[0]?.getD 0] := by
              cases bs with
              | nil => cases hb1
              | cons x r =>
                cases r with
                | nil => rfl
                | cons y r => simp at hb1
            have hln1 : ln = 1 := HLn.out.trans hb1
            have hrb1 : W2.drew.cell? ⟨rb, 1, none⟩ = some (.slice ua ln uc) := by rw [HLn.out]; exact cell_of (w := W2.drew) y1 1
            obtain ⟨sz, hsz2⟩ : ∃ sz, sz = F.bsz := ⟨_, rfl⟩
            have hszb : (sz : Int) ≤ 131072 := by have := HBd.out.2.2.2.1; omega
            have HS := (show Hid (W2.drew.cell? ⟨G.w.heap.size, 0, none⟩ = some (.pointer (some ⟨G.fb, 0, none⟩)) ∧ W2.drew.cell? ⟨G.fb, 15, none⟩ = some (.slice oa No oc) ∧ W2.drew.cell? ⟨rb, 1, none⟩ = some (.slice ua ln uc) ∧ W2.drew.cell? ⟨G.fb, 14, none⟩ = some (.int .i64 (sz : Int))) from ⟨cell_of (w := W2.drew) HP.out.b.b2 0, cell_of (w := W2.drew) HP.out.f.fr 15, hrb1, by rw [hsz2]; exact cell_of (w := W2.drew) HP.out.f.fr 14⟩)
            have hkd2 : Keep noBlock W2 W2.drew := (Keep.refl noBlock W2).drew
            have HRp := (show Hid (Calls Tryz.prog 14 #[.slice ua ln uc, .int .i64 (sz : Int)] W2.drew fun e w' => Keep noBlock W2.drew w' ∧ ∃ a' cap' g, e = .returned (.slice a' sz cap') ∧ Bytes w' a' cap' g 0 (List.replicate sz (bs[0]?.getD 0)) ∧ W2.drew.heap.size ≤ g) from by
              rw [show Value.slice ua ln uc = Value.slice ua 1 uc by rw [hln1]]
              exact repeat_all ua uc G.gb uo (bs[0]?.getD 0) sz W2.drew (by rw [← hbx]; exact y2.keep hkd2 (fun _ h => h)) (by omega))
            have HY := hid (And.intro y1 y2)
            have HSz := hid hsz2
            clear hrb1 y1 y2 hkd2 hsz2 hln1 hbx hb1
            refine region_roundL (fun W => W.cell? ⟨G.w.heap.size, 0, none⟩ = some (.pointer (some ⟨G.fb, 0, none⟩)) ∧ W.cell? ⟨G.fb, 15, none⟩ = some (.slice oa No oc) ∧ W.cell? ⟨rb, 1, none⟩ = some (.slice ua ln uc) ∧ W.cell? ⟨G.fb, 14, none⟩ = some (.int .i64 (sz : Int))) 16 (by kernel_rfl) mx HS.out (fun hS => ?_)
            refine tk (i := 0) (v := ?_) rfl (by kernel_rfl) (fun _ _ _ h => h) (by rfl) ?_ (by assumption) ?_
            rotate_left 1
            · intro w hSw; (try dsimp only at hSw); (try obtain ⟨hSw1, hSw2, hSw3, hSw4⟩ := hSw); (go_simp <;> with_reducible rfl)
            simp only [Act.put, tA, tB, tD, tE, tF]
            refine tk (i := 1) (v := ?_) rfl (by kernel_rfl) (fun _ _ _ h => h) (by rfl) ?_ (by assumption) ?_
            rotate_left 1
            · intro w hSw; (try dsimp only at hSw); (try obtain ⟨hSw1, hSw2, hSw3, hSw4⟩ := hSw); (go_simp <;> with_reducible rfl)
            simp only [Act.put, tA, tB, tC, tD, tE, tF]
            refine tk (i := 2) (v := ?_) rfl (by kernel_rfl) (fun _ _ _ h => h) (by rfl) ?_ (by assumption) ?_
            rotate_left 1
            · intro w hSw; (try dsimp only at hSw); (try obtain ⟨hSw1, hSw2, hSw3, hSw4⟩ := hSw); (go_simp <;> with_reducible rfl)
            simp only [Act.put, tA, tB, tC, tD, tE, tF]
            refine tk (i := 3) (v := ?_) rfl (by kernel_rfl) (fun _ _ _ h => h) (by rfl) ?_ (by assumption) ?_
            rotate_left 1
            · intro w hSw; (try dsimp only at hSw); (try obtain ⟨hSw1, hSw2, hSw3, hSw4⟩ := hSw); (go_simp <;> with_reducible rfl)
            simp only [Act.put, tA, tB, tC, tD, tE, tF]
            refine tk (i := 4) (v := ?_) rfl (by kernel_rfl) (fun _ _ _ h => h) (by rfl) ?_ (by assumption) ?_
            rotate_left 1
            · intro w hSw; (try dsimp only at hSw); (try obtain ⟨hSw1, hSw2, hSw3, hSw4⟩ := hSw); (go_simp <;> with_reducible rfl)
            simp only [Act.put, tA, tB, tC, tD, tE, tF]
            refine tk (i := 5) (v := ?_) rfl (by kernel_rfl) (fun _ _ _ h => h) (by rfl) ?_ (by assumption) ?_
            rotate_left 1
            · intro w hSw; (try dsimp only at hSw); (try obtain ⟨hSw1, hSw2, hSw3, hSw4⟩ := hSw); (go_simp <;> with_reducible rfl)
            simp only [Act.put, tA, tB, tC, tD, tE, tF]
            refine tk (i := 6) (v := ?_) rfl (by kernel_rfl) (fun _ _ _ h => h) (by rfl) ?_ (by assumption) ?_
            rotate_left 1
            · intro w hSw; (try dsimp only at hSw); (try obtain ⟨hSw1, hSw2, hSw3, hSw4⟩ := hSw); (go_simp <;> with_reducible rfl)
            simp only [Act.put, tA, tB, tC, tD, tE, tF]
            refine tk (i := 7) (v := ?_) rfl (by kernel_rfl) (fun _ _ _ h => h) (by rfl) ?_ (by assumption) ?_
            rotate_left 1
            · intro w hSw; (try dsimp only at hSw); (try obtain ⟨hSw1, hSw2, hSw3, hSw4⟩ := hSw); (go_simp <;> with_reducible rfl)
            simp only [Act.put, tA, tB, tC, tD, tE, tF]
            refine tk (i := 8) (v := ?_) rfl (by kernel_rfl) (fun _ _ _ h => h) (by rfl) ?_ (by assumption) ?_
            rotate_left 1
            · intro w hSw; (try dsimp only at hSw); (try obtain ⟨hSw1, hSw2, hSw3, hSw4⟩ := hSw); (go_simp <;> with_reducible rfl)
            simp only [Act.put, tA, tB, tC, tD, tE, tF]
            refine tk (i := 9) (v := ?_) rfl (by kernel_rfl) (fun _ _ _ h => h) (by rfl) ?_ (by assumption) ?_
            rotate_left 1
            · intro w hSw; (try dsimp only at hSw); (try obtain ⟨hSw1, hSw2, hSw3, hSw4⟩ := hSw); (go_simp <;> with_reducible rfl)
            simp only [Act.put, tA, tB, tC, tD, tE, tF]
            refine tk (i := 10) (v := ?_) rfl (by kernel_rfl) (fun _ _ _ h => h) (by rfl) ?_ (by assumption) ?_
            rotate_left 1
            · intro w hSw; (try dsimp only at hSw); (try obtain ⟨hSw1, hSw2, hSw3, hSw4⟩ := hSw); (go_simp <;> with_reducible rfl)
            simp only [Act.put, tA, tB, tC, tD, tE, tF]
            refine tk (i := 11) (v := ?_) rfl (by kernel_rfl) (fun _ _ _ h => h) (by rfl) ?_ (by assumption) ?_
            rotate_left 1
            · intro w hSw; (try dsimp only at hSw); (try obtain ⟨hSw1, hSw2, hSw3, hSw4⟩ := hSw); (go_simp <;> with_reducible rfl)
            simp only [Act.put, tA, tB, tC, tD, tE, tF]
            refine last_one (j := 12) (by kernel_rfl) rfl (fun K hK => ?_)
            rw [if_pos (by rfl)]
            simp only [tA, tB, tC]
            go_simp
            refine HRp.out.mono ?_
            rintro e W2b ⟨kr, ra, rc, rg, rfl, hrB, -⟩
            have hkr : Keep noBlock W2 W2b := (Keep.refl noBlock W2).drew.trans' kr
            have HSb := (show Hid (W2b.cell? ⟨G.w.heap.size, 0, none⟩ = some (.pointer (some ⟨G.fb, 0, none⟩)) ∧ W2b.cell? ⟨G.fb, 15, none⟩ = some (.slice oa No oc) ∧ W2b.cell? ⟨rb, 1, none⟩ = some (.slice ua ln uc) ∧ W2b.cell? ⟨G.fb, 14, none⟩ = some (.int .i64 (sz : Int))) from ⟨keep_cell0 kr HS.out.1, keep_cell0 kr HS.out.2.1, keep_cell0 kr HS.out.2.2.1, keep_cell0 kr HS.out.2.2.2⟩)
            refine hK.out _ _ (fun _ => HSb.out) ?_
            clear hK K
            have hsrc := hrB.src
            rw [List.length_replicate] at hsrc
            obtain ⟨ov2, v2, hr2, hst2, e15, f15, kow⟩ := (HP.out.quiet hkr).push HC.out HG.out.1 hsrc hrB.lt (by rw [List.length_replicate]; have := HBd.out.2.2.1; omega)
            have hrow : ¬ (Value.slice oa No oc).ownBlock = some rb := own_ne HP.out.f.out HY.out.1 (by decide)
            have hqow : ¬ (Value.slice oa No oc).ownBlock = some G.w.heap.size := fun e => HP.out.r.ov _ e (far_box (j := 0) (by omega))
            have hfow : ¬ (Value.slice oa No oc).ownBlock = some G.fb := HP.out.f.ne
            have HE := (show Hid (v2.cell? ⟨G.w.heap.size, 0, none⟩ = some (.pointer (some ⟨G.fb, 0, none⟩)) ∧ v2.cell? ⟨G.fb, 15, none⟩ = some (.slice oa No oc) ∧ v2.cell? ⟨rb, 1, none⟩ = some (.slice ua ln uc) ∧ v2.cell? ⟨G.fb, 14, none⟩ = some (.int .i64 (sz : Int))) from ⟨keep_cellS kow hqow HSb.out.1, e15, keep_cellS kow hrow HSb.out.2.2.1, keep_cellS kow hfow HSb.out.2.2.2⟩)
            rw [HSz.out] at hst2
            obtain ⟨oa2, oc2, hov2, -⟩ := hst2.f.out.slice
            obtain ⟨N2, hN2⟩ : ∃ N2, N2 = ({ F with out := F.out ++ List.replicate F.bsz (bs[0]?.getD 0) } : Fr).out.length := ⟨_, rfl⟩
            rw [← hN2] at hov2
            subst hov2
            have HST3 := hid hst2
            clear hsrc hst2 hrow hqow hfow kow hN2 hrB kr hkr
            refine last_one (j := 13) (by kernel_rfl) rfl (fun K hK => ?_)
            rw [if_pos (by rfl)]
            refine wp_append_run _ _ _ 22 rfl _ _ _ _ rfl rfl hr2 ?_
            refine hK.out _ _ (fun _ => HE.out) ?_
            simp only [Act.put, tA, tB, tC, tD, tE, tF]
            clear hK K
            refine last_one (j := 14) (by kernel_rfl) rfl (fun K hK => ?_)
            rw [if_pos (by rfl)]
            simp only [tA, tB, tC]
            go_simp
            refine hK.out _ _ (fun _ => HE.out) ?_
            clear hK K
            refine last_one (j := 15) (by kernel_rfl) rfl (fun K hK => ?_)
            rw [if_pos (by rfl)]
            simp only [tA, tB, tC]
            go_simp
            refine hK.out _ _ (fun _ => HE.out) ?_
            clear hK K
            refine last_one (j := 16) (by kernel_rfl) rfl (fun K hK => ?_)
            rw [if_pos (by rfl)]
            simp only [tA, tB, tC]
            go_simp
            refine hK.out _ _ (fun e => absurd rfl e) ?_
            clear hK K
            refine last_done (by kernel_rfl) ?_ _
            simp only [onward]
            clear HE e15 f15 hr2 hS HS HP HSb HRp HSz
            generalize v2.setCell ⟨G.fb, 15, none⟩ (.slice oa2 N2 oc2) = W3 at *
            clear v2
            have HPf := (show Hid (F.out <+: ({ F with out := F.out ++ List.replicate F.bsz (bs[0]?.getD 0) } : Fr).out ∧ ({ F with out := F.out ++ List.replicate F.bsz (bs[0]?.getD 0) } : Fr).out.length ≤ 1073741824 ∧ putB G.Ω G.Δ F ⟨p, bs, wh⟩ = behP F.out { F with out := F.out ++ List.replicate F.bsz (bs[0]?.getD 0) }) from ⟨List.prefix_append _ _, by show (F.out ++ List.replicate F.bsz (bs[0]?.getD 0)).length ≤ _; rw [List.length_append, List.length_replicate]; have := HBd.out.2.2.1; have := HBd.out.2.2.2.1; omega, by unfold putB; rw [if_neg (by rw [← HKd.out]; exact HK0.out), if_pos (by rw [← HKd.out]; exact HK1.out)]⟩)
            have HBh := hid (beh_any HST3.out.f F.out HPf.out.1 HPf.out.2.1)
            have hc23 : W3.cell? ⟨G.w.heap.size, 0, none⟩ = some (.pointer (some ⟨G.fb, 0, none⟩)) := cell_of HST3.out.b.b2 0
            rw [← HNo.out] at HBh
            cases hbp : behP F.out { F with out := F.out ++ List.replicate F.bsz (bs[0]?.getD 0) } with
            | inl r =>
              obtain ⟨o, c⟩ := r
              rw [hbp] at HBh
              have HBi := (show Hid (Calls Tryz.prog 16 #[.pointer (some ⟨G.fb, 0, none⟩), .int .i64 (No : Int)] W3 fun e w5 => e = .returned (.int .i64 (c : Int)) ∧ Hid (RdX G (.exit 0) (w5.setCell ⟨G.w.heap.size + 1 + 1, 0, none⟩ (.int .i64 (c : Int))) ∧ Keep (rdS G (.slice oa No oc)) V (w5.setCell ⟨G.w.heap.size + 1 + 1, 0, none⟩ (.int .i64 (c : Int)))) ∧ c ≠ 0 ∧ w5.cell? ⟨G.w.heap.size + 1 + 1, 0, none⟩ = some (.int .i64 0) ∧ w5.frozen? ⟨G.w.heap.size + 1 + 1, 0, none⟩ = false) from HBh.out.mono (by
                rintro e w5 ⟨⟨t1, t2, ov5, t3, t4, t5⟩, t6⟩
                have hR : G.R = (o, 0, c) := by
                  rw [← HRu.out, runU_inl (r := (o, c)) (by rw [stepU_block HCc.out.symm HP6.out]; exact HPf.out.2.2.trans hbp)]
                obtain ⟨l1, l2⟩ := rd_left HG.out.1 HST3.out t6 hR t1 t3 t4 t5
                have hb := HST3.out.b.far t6 (fun k (q : k = G.fb) => q ▸ HST3.out.r.fb)
                exact ⟨t2, ⟨l1, l2⟩, t1, cell_of hb.b5 0, frozen_of hb.b5 0⟩))
              clear HBh
              have hcc : c ≠ 0 → ((c : Int) != 0) = true := fun h => by simp; omega
              gi_wp2_with (refine ⟨trivial, ?_⟩; gi_at_call 16; refine (CallsIn.inRound _ (callsIn_wide.2 HBi.out)).mono ?_; rintro e w5 ⟨rfl, HP5, hcn, e55, f55⟩; have hcb := hcc hcn)
              obtain ⟨k1, k2⟩ := hend.out 0 0 F (.slice oa No oc) _ HP5.out.2
              exact ⟨k1, HP5.out.1, by rw [HQ.out.2]; exact k2⟩
            | inr f =>
              rw [hbp] at HBh
              have HBi := (show Hid (Calls Tryz.prog 16 #[.pointer (some ⟨G.fb, 0, none⟩), .int .i64 (No : Int)] W3 fun e w5 => e = .returned (.int .i64 0) ∧ Hid (RdS G us' (w5.setCell ⟨G.w.heap.size + 1 + 1, 0, none⟩ (.int .i64 0)) ∧ Keep (rdS G (.slice oa No oc)) V (w5.setCell ⟨G.w.heap.size + 1 + 1, 0, none⟩ (.int .i64 0))) ∧ w5.cell? ⟨G.w.heap.size + 1 + 1, 0, none⟩ = some (.int .i64 0) ∧ w5.frozen? ⟨G.w.heap.size + 1 + 1, 0, none⟩ = false) from HBh.out.mono (by
                rintro e w5 ⟨⟨t1, t2, t3, t4⟩, t6⟩
                have t7 := HST3.out.atf t6 t4 rfl
                have t8 := t7.setE 0
                obtain ⟨b1, b2, b3, b4, b5⟩ := HBd.out
                obtain ⟨l1, l2, l3, l4, l5, l6, l7⟩ := HLO.out
                have hus := b2.2
                rw [← l2, ← l3, ← l4, l7 HP6.out] at hus
                refine ⟨t1, ⟨⟨{ F with out := F.out ++ List.replicate F.bsz (bs[0]?.getD 0) }, ul, _, _, _, _, _, _, _, _, t8.b, t8.f, t8.r, ?_, ?_, t3, ?_, ?_⟩, t8.k⟩, cell_of t7.b.b5 0, frozen_of t7.b.b5 0⟩
                · rw [← HRu.out, runU_inr (f1 := { F with out := F.out ++ List.replicate F.bsz (bs[0]?.getD 0) }) (by rw [stepU_block HCc.out.symm HP6.out]; exact (HPf.out.2.2.trans hbp).trans (congrArg Sum.inr t2)), HUl.out, HLn.out]
                · exact hus
                · exact b4
                · rw [HUl.out, HLn.out]; omega))
              clear HBh
              gi_wp2_with (refine ⟨trivial, ?_⟩; gi_at_call 16; refine (CallsIn.inRound _ (callsIn_wide.2 HBi.out)).mono ?_; rintro e w5 ⟨rfl, HP5, e55, f55⟩)
              obtain ⟨k1, k2⟩ := hend.out 0 0 F (.slice oa No oc) _ HP5.out.2
              exact ⟨k1, HP5.out.1, by rw [HQ.out.2]; exact k2⟩
          · have hkb1 : ((kd : Int) == 1) = false := by simp; omega
            have hkd1 : decide (kd = 1) = false := decide_eq_false hk1
            have HK1 := hid hk1
            clear hk1
            by_cases hk2 : kd = 2
            · have hkb : ((kd : Int) == 2) = true := by simp; omega
              have hkd2 : decide (kd = 2) = true := decide_eq_true hk2
              have HK2 := hid hk2
              clear hk2
              gi_wp2_with (refine ⟨trivial, ?_⟩; gi_at_call 12; refine (CallsIn.inRound _ (callsIn_wide.2 HLk4.out)).mono ?_; rintro e w1 ⟨rfl, HP, e5, f5, e4, f4, rr1, rr0, cc2, cc15, cc13⟩; have cr1 : ((w1.setCell ⟨G.w.heap.size + 1 + 1, 0, none⟩ (.int .i64 0)).setCell ⟨G.w.heap.size + 1, 0, none⟩ (.int .i64 (ul : Int))).cell? ⟨rb, 1, none⟩ = some (.slice ua ln uc) := by rw [HLn.out]; exact cell_of (HW2.out _ HP.out).1 1)
              clear e5 f5 e4 f4 rr1 rr0 cc2 cc15 cc13 cr1 HLk4 c2 r0 r1 r2
              generalize (w1.setCell ⟨G.w.heap.size + 1 + 1, 0, none⟩ (.int .i64 0)).setCell ⟨G.w.heap.size + 1, 0, none⟩ (.int .i64 (ul : Int)) = W2 at *
              clear w1
              obtain ⟨y1, y2⟩ := HW2.out W2 HP.out
              have hun := unpackZ_any (Ω := G.Ω) (Δ := G.Δ) HP.out.f (frm_keep HG.out.1.fm HP.out.b.kp (by have := HG.out.1.n3; omega)) (HG.out.1.od.keep HP.out.b.kp (by have := HG.out.1.n3; omega) (by have := HG.out.1.n3; omega)) HBd.out.2.2.1 ua uc G.gb uo bs y2 HBl.out.1 (by have := HP.out.f.fr.lt; have := HG.out.1.nf; have := HG.out.1.gn; omega)
              rw [← HLn.out] at hun
              have HUn := hid hun
              clear hun y1 y2
              refine ⟨trivial, ?_⟩
              gi_at_call 15
              cases hup : unpackP (orc G.Ω G.Δ) F bs with
              | none =>
                rw [hup] at HUn
                refine (CallsIn.inRound _ (callsIn_wide.2 HUn.out)).mono ?_
                rintro e w5 ⟨rfl, F5, z0, z1, z2, zw, ov5, t1, t2, t3, t4⟩
                obtain ⟨oa5, oc5, hov5, hoc5⟩ := t2.slice
                obtain ⟨n5, hn5⟩ : ∃ n5, n5 = F5.out.length := ⟨_, rfl⟩
                rw [← hn5] at hov5 hoc5
                subst hov5
                have hle5 := t3.length_le
                rw [← hn5, ← HNo.out] at hle5
                have htk : F5.out.take No = F.out := by
                  obtain ⟨t, ht⟩ := t3
                  rw [← ht, HNo.out, List.take_left]
                have hcut := t2.cut No (by rw [← hn5]; exact hle5)
                rw [htk] at hcut
                obtain ⟨b1, b2, b3, b4⟩ := HP.out.cos HC.out HG.out.1 t4
                have hkf : Keep (fun k => k = G.fb) w5 (w5.setCell ⟨G.fb, 15, none⟩ (.slice oa5 No oc5)).drew := ((Keep.refl (fun k => k = G.fb) w5).setCell (p := ⟨G.fb, 15, none⟩) (fun _ => rfl) _).drew
                have hfb5 : ¬ farS G G.fb := HP.out.r.fb
                have b5 := b1.far hkf (fun k (q : k = G.fb) => q ▸ hfb5)
                have b6 : Bxs G ul 11 ((w5.setCell ⟨G.fb, 15, none⟩ (.slice oa5 No oc5)).setCell ⟨G.w.heap.size + 1 + 1, 0, none⟩ (.int .i64 11)).drew ∧ Keep (fun k => k = G.w.heap.size + 2) (w5.setCell ⟨G.fb, 15, none⟩ (.slice oa5 No oc5)).drew ((w5.setCell ⟨G.fb, 15, none⟩ (.slice oa5 No oc5)).setCell ⟨G.w.heap.size + 1 + 1, 0, none⟩ (.int .i64 11)).drew := b5.setE HG.out.1 11
                have hne : ∀ k, ¬ farS G k → ¬ k = G.w.heap.size + 2 := fun k hk e => hk (e ▸ far_box (by omega))
                have hofr := FrAt.out_set (w := w5) t1 (.slice oa5 No oc5)
                have hown5 : ∀ k, (Value.slice oa5 No oc5).ownBlock = some k → (Value.slice oa5 n5 oc5).ownBlock = some k := fun k hk => by cases oa5 <;> exact hk
                have hR : G.R = (F.out, 0, 11) := by
                  rw [← HRu.out, runU_inl (r := (F.out, 11)) (by rw [stepU_block HCc.out.symm HP6.out]; unfold putB; rw [if_neg (by rw [← HKd.out]; exact HK0.out), if_neg (by rw [← HKd.out]; exact HK1.out), if_pos (by rw [← HKd.out]; exact HK2.out)]; dsimp only; rw [hup])]
                have HFin := (show Hid (RdX G (.exit 0) ((w5.setCell ⟨G.fb, 15, none⟩ (.slice oa5 No oc5)).setCell ⟨G.w.heap.size + 1 + 1, 0, none⟩ (.int .i64 11)).drew ∧ Keep (rdS G (.slice oa No oc)) V ((w5.setCell ⟨G.fb, 15, none⟩ (.slice oa5 No oc5)).setCell ⟨G.w.heap.size + 1 + 1, 0, none⟩ (.int .i64 11)).drew) from by
                  refine ⟨⟨rfl, ul, .slice oa5 No oc5, ?_, ?_, keep_cellS b6.2 (hne _ hfb5) (cell_of (w := (w5.setCell ⟨G.fb, 15, none⟩ (.slice oa5 No oc5)).drew) hofr 15), ?_, fun k hk => b3 k (hown5 k hk)⟩, (b2.trans hkf (fun _ _ q => .inl q)).trans b6.2 (fun _ _ q => .inr (.inr (.inr q)))⟩
                  · rw [hR]; exact b6.1
                  · rw [hR]; show (11 : Nat) ≠ 0; decide
                  · rw [hR]
                    have hnf : (Value.slice oa5 n5 oc5).ownBlock ≠ some G.fb := t4.ne HP.out.f.fr.lt HP.out.f.ne
                    exact (hcut.keep hkf (fun g hg (e : g = G.fb) => hnf (by rw [← e]; exact hown5 g hg))).keep b6.2 (fun k hk => hne k (b3 k (hown5 k hk))))
                have q15 : w5.drew.cell? ⟨G.fb, 15, none⟩ = some (.slice oa5 n5 oc5) := cell_of (w := w5.drew) t1 15
                have qf15 : w5.drew.frozen? ⟨G.fb, 15, none⟩ = false := frozen_of (w := w5.drew) t1 15
                have qe5 : (w5.setCell ⟨G.fb, 15, none⟩ (.slice oa5 No oc5)).drew.cell? ⟨G.w.heap.size + 1 + 1, 0, none⟩ = some (.int .i64 0) := cell_of b5.b5 0
                have qf5 : (w5.setCell ⟨G.fb, 15, none⟩ (.slice oa5 No oc5)).drew.frozen? ⟨G.w.heap.size + 1 + 1, 0, none⟩ = false := frozen_of b5.b5 0
                have q2 : w5.cell? ⟨G.w.heap.size, 0, none⟩ = some (.pointer (some ⟨G.fb, 0, none⟩)) := cell_of b1.b2 0
                have HS := (show Hid (w5.drew.cell? ⟨G.w.heap.size, 0, none⟩ = some (.pointer (some ⟨G.fb, 0, none⟩))) from q2)
                have HS2 := (show Hid ((w5.setCell ⟨G.fb, 15, none⟩ (.slice oa5 No oc5)).drew.cell? ⟨G.w.heap.size, 0, none⟩ = some (.pointer (some ⟨G.fb, 0, none⟩))) from cell_of b5.b2 0)
                have HS3 := (show Hid (((w5.setCell ⟨G.fb, 15, none⟩ (.slice oa5 No oc5)).setCell ⟨G.w.heap.size + 1 + 1, 0, none⟩ (.int .i64 11)).drew.cell? ⟨G.w.heap.size, 0, none⟩ = some (.pointer (some ⟨G.fb, 0, none⟩))) from cell_of b6.1.b2 0)
                have hsl5 := run_high5 oa5 n5 oc5 No (by omega)
                have hoc5I : (No : Int) ≤ (oc5 : Int) := by omega
                clear t1 t2 t3 t4 hle5 htk hcut b1 b2 b3 b4 b5 b6 hkf hne hofr hown5 hR hn5 hoc5 HP HUn
                gi_wp2_with fail
                refine region_roundL (fun W => W.cell? ⟨G.w.heap.size, 0, none⟩ = some (.pointer (some ⟨G.fb, 0, none⟩))) 11 (by kernel_rfl) mx HS.out (fun hS => ?_)
                refine tk (i := 0) (v := ?_) rfl (by kernel_rfl) (fun _ _ _ h => h) (by rfl) ?_ (by assumption) ?_
                rotate_left 1
                · intro w hSw; (try dsimp only at hSw); (go_simp <;> with_reducible rfl)
                simp only [Act.put, tA, tB, tD, tE, tF]
                refine tk (i := 1) (v := ?_) rfl (by kernel_rfl) (fun _ _ _ h => h) (by rfl) ?_ (by assumption) ?_
                rotate_left 1
                · intro w hSw; (try dsimp only at hSw); (go_simp <;> with_reducible rfl)
                simp only [Act.put, tA, tB, tC, tD, tE, tF]
                refine tk (i := 2) (v := ?_) rfl (by kernel_rfl) (fun _ _ _ h => h) (by rfl) ?_ (by assumption) ?_
                rotate_left 1
                · intro w hSw; (try dsimp only at hSw); (go_simp <;> with_reducible rfl)
                simp only [Act.put, tA, tB, tC, tD, tE, tF]
                refine tk (i := 3) (v := ?_) rfl (by kernel_rfl) (fun _ _ _ h => h) (by rfl) ?_ (by assumption) ?_
                rotate_left 1
                · intro w hSw; (try dsimp only at hSw); (go_simp <;> with_reducible rfl)
                simp only [Act.put, tA, tB, tC, tD, tE, tF]
                refine tk (i := 5) (v := ?_) rfl (by kernel_rfl) (fun _ _ _ h => h) (by rfl) ?_ (by assumption) ?_
                rotate_left 1
                · intro w hSw; (try dsimp only at hSw); (go_simp <;> with_reducible rfl)
                simp only [Act.put, tA, tB, tC, tD, tE, tF]
                refine last_one (j := 4) (by kernel_rfl) rfl (fun K hK => ?_)
                rw [if_pos (by rfl)]
                simp only [tA, tB, tC]
                go_simp
                refine hK.out _ _ (fun _ => HS.out) ?_
                clear hK K
                refine last_one (j := 6) (by kernel_rfl) rfl (fun K hK => ?_)
                rw [if_pos (by rfl)]
                simp only [tA, tB, tC]
                go_simp
                refine hK.out _ _ (fun _ => HS.out) ?_
                clear hK K
                refine last_one (j := 7) (by kernel_rfl) rfl (fun K hK => ?_)
                rw [if_pos (by rfl)]
                simp only [tA, tB, tC]
                go_simp
                refine hK.out _ _ (fun _ => HS.out) ?_
                clear hK K
                refine last_one (j := 8) (by kernel_rfl) rfl (fun K hK => ?_)
                rw [if_pos (by rfl)]
                simp only [tA, tB, tC]
                go_simp
                refine hK.out _ _ (fun _ => HS.out) ?_
                clear hK K
                refine last_one (j := 9) (by kernel_rfl) rfl (fun K hK => ?_)
                rw [if_pos (by rfl)]
                simp only [tA, tB, tC]
                go_simp
                refine hK.out _ _ (fun _ => HS2.out) ?_
                clear hK K
                refine last_one (j := 10) (by kernel_rfl) rfl (fun K hK => ?_)
                rw [if_pos (by rfl)]
                simp only [tA, tB, tC]
                go_simp
                refine hK.out _ _ (fun _ => HS3.out) ?_
                clear hK K
                refine last_done (by kernel_rfl) ?_ _
                simp only [onward]
                gi_wp2_with fail
                obtain ⟨k1, k2⟩ := hend.out 0 0 F (.slice oa No oc) _ HFin.out.2
                exact ⟨k1, HFin.out.1, by rw [HQ.out.2]; exact k2⟩
              | some F2 =>
                rw [hup] at HUn
                refine (CallsIn.inRound _ (callsIn_wide.2 HUn.out)).mono ?_
                rintro e W3 ⟨rfl, z0, z1, z2, zw, zc, zg, zo, ov3, t1, t2, t3, t4, t5, t6⟩
                obtain ⟨oa2, oc2, hov2, -⟩ := t1.out.slice
                obtain ⟨N2, hN2⟩ : ∃ N2, N2 = F2.out.length := ⟨_, rfl⟩
                rw [← hN2] at hov2
                subst hov2
                have HST3 := hid (HP.out.packed HC.out HG.out.1 t1 t2 t3 t4 t5 t6)
                have HFd := hid (unpackP_fields hup)
                have HPre := hid (unpackP_pre hup)
                have HUp := hid hup
                clear t1 t2 t3 t4 t5 t6 hN2 HUn HP hup
                have hcc0 := HST3
                have HPf := (show Hid (F.out <+: F2.out ∧ F2.out.length ≤ 1073741824 ∧ putB G.Ω G.Δ F ⟨p, bs, wh⟩ = behP F.out F2) from ⟨HPre.out, by have h1 := HFd.out.2.2.2; have h2 := HBd.out.2.2.1; have h3 : mostF F ≤ 131072 := (by unfold mostF; omega); omega, by unfold putB; rw [if_neg (by rw [← HKd.out]; exact HK0.out), if_neg (by rw [← HKd.out]; exact HK1.out), if_pos (by rw [← HKd.out]; exact HK2.out)]; dsimp only; rw [HUp.out]⟩)
                have HBh := hid (beh_any HST3.out.f F.out HPf.out.1 HPf.out.2.1)
                have hc23 : W3.cell? ⟨G.w.heap.size, 0, none⟩ = some (.pointer (some ⟨G.fb, 0, none⟩)) := cell_of HST3.out.b.b2 0
                rw [← HNo.out] at HBh
                cases hbp : behP F.out F2 with
                | inl r =>
                  obtain ⟨o, c⟩ := r
                  rw [hbp] at HBh
                  have HBi := (show Hid (Calls Tryz.prog 16 #[.pointer (some ⟨G.fb, 0, none⟩), .int .i64 (No : Int)] W3 fun e w5 => e = .returned (.int .i64 (c : Int)) ∧ Hid (RdX G (.exit 0) (w5.setCell ⟨G.w.heap.size + 1 + 1, 0, none⟩ (.int .i64 (c : Int))) ∧ Keep (rdS G (.slice oa No oc)) V (w5.setCell ⟨G.w.heap.size + 1 + 1, 0, none⟩ (.int .i64 (c : Int)))) ∧ c ≠ 0 ∧ w5.cell? ⟨G.w.heap.size + 1 + 1, 0, none⟩ = some (.int .i64 0) ∧ w5.frozen? ⟨G.w.heap.size + 1 + 1, 0, none⟩ = false) from HBh.out.mono (by
                    rintro e w5 ⟨⟨t1, t2, ov5, t3, t4, t5⟩, t6⟩
                    have hR : G.R = (o, 0, c) := by
                      rw [← HRu.out, runU_inl (r := (o, c)) (by rw [stepU_block HCc.out.symm HP6.out]; exact HPf.out.2.2.trans hbp)]
                    obtain ⟨l1, l2⟩ := rd_left HG.out.1 HST3.out t6 hR t1 t3 t4 t5
                    have hb := HST3.out.b.far t6 (fun k (q : k = G.fb) => q ▸ HST3.out.r.fb)
                    exact ⟨t2, ⟨l1, l2⟩, t1, cell_of hb.b5 0, frozen_of hb.b5 0⟩))
                  clear HBh
                  have hcc : c ≠ 0 → ((c : Int) != 0) = true := fun h => by simp; omega
                  gi_wp2_with (refine ⟨trivial, ?_⟩; gi_at_call 16; refine (CallsIn.inRound _ (callsIn_wide.2 HBi.out)).mono ?_; rintro e w5 ⟨rfl, HP5, hcn, e55, f55⟩; have hcb := hcc hcn)
                  obtain ⟨k1, k2⟩ := hend.out 0 0 F (.slice oa No oc) _ HP5.out.2
                  exact ⟨k1, HP5.out.1, by rw [HQ.out.2]; exact k2⟩
                | inr f =>
                  rw [hbp] at HBh
                  have HBi := (show Hid (Calls Tryz.prog 16 #[.pointer (some ⟨G.fb, 0, none⟩), .int .i64 (No : Int)] W3 fun e w5 => e = .returned (.int .i64 0) ∧ Hid (RdS G us' (w5.setCell ⟨G.w.heap.size + 1 + 1, 0, none⟩ (.int .i64 0)) ∧ Keep (rdS G (.slice oa No oc)) V (w5.setCell ⟨G.w.heap.size + 1 + 1, 0, none⟩ (.int .i64 0))) ∧ w5.cell? ⟨G.w.heap.size + 1 + 1, 0, none⟩ = some (.int .i64 0) ∧ w5.frozen? ⟨G.w.heap.size + 1 + 1, 0, none⟩ = false) from HBh.out.mono (by
                    rintro e w5 ⟨⟨t1, t2, t3, t4⟩, t6⟩
                    have t7 := HST3.out.atf t6 t4 rfl
                    have t8 := t7.setE 0
                    obtain ⟨b1, b2, b3, b4, b5⟩ := HBd.out
                    obtain ⟨l1, l2, l3, l4, l5, l6, l7⟩ := HLO.out
                    have hus := b2.2
                    rw [← l2, ← l3, ← l4, l7 HP6.out] at hus
                    refine ⟨t1, ⟨⟨F2, ul, _, _, _, _, _, _, _, _, t8.b, t8.f, t8.r, ?_, ?_, t3, ?_, ?_⟩, t8.k⟩, cell_of t7.b.b5 0, frozen_of t7.b.b5 0⟩
                    · rw [← HRu.out, runU_inr (f1 := F2) (by rw [stepU_block HCc.out.symm HP6.out]; exact (HPf.out.2.2.trans hbp).trans (congrArg Sum.inr t2)), HUl.out, HLn.out]
                    · rw [HFd.out.1, HFd.out.2.1, HFd.out.2.2.1]; exact hus
                    · rw [HFd.out.2.2.1]; exact b4
                    · rw [HUl.out, HLn.out]; omega))
                  clear HBh
                  gi_wp2_with (refine ⟨trivial, ?_⟩; gi_at_call 16; refine (CallsIn.inRound _ (callsIn_wide.2 HBi.out)).mono ?_; rintro e w5 ⟨rfl, HP5, e55, f55⟩)
                  obtain ⟨k1, k2⟩ := hend.out 0 0 F (.slice oa No oc) _ HP5.out.2
                  exact ⟨k1, HP5.out.1, by rw [HQ.out.2]; exact k2⟩
            · have hkb : ((kd : Int) == 2) = false := by simp; omega
              have hkd2 : decide (kd = 2) = false := decide_eq_false hk2
              have HK2 := hid hk2
              clear hk2
              gi_wp2_with (refine ⟨trivial, ?_⟩; gi_at_call 12; refine (CallsIn.inRound _ (callsIn_wide.2 HLk4.out)).mono ?_; rintro e w1 ⟨rfl, HP, e5, f5, e4, f4, rr1, rr0, cc2, cc15, cc13⟩; have cr1 : ((w1.setCell ⟨G.w.heap.size + 1 + 1, 0, none⟩ (.int .i64 0)).setCell ⟨G.w.heap.size + 1, 0, none⟩ (.int .i64 (ul : Int))).cell? ⟨rb, 1, none⟩ = some (.slice ua ln uc) := by rw [HLn.out]; exact cell_of (HW2.out _ HP.out).1 1)
              clear e5 f5 e4 f4 rr1 rr0 cc2 cc15 cc13 cr1 HLk4 c2 r0 r1 r2
              generalize (w1.setCell ⟨G.w.heap.size + 1 + 1, 0, none⟩ (.int .i64 0)).setCell ⟨G.w.heap.size + 1, 0, none⟩ (.int .i64 (ul : Int)) = W2 at *
              clear w1
              have HST3 := hid HP.out
              generalize W2 = W3 at *
              have HPf := (show Hid (F.out <+: F.out ∧ F.out.length ≤ 1073741824 ∧ putB G.Ω G.Δ F ⟨p, bs, wh⟩ = behP F.out F) from ⟨List.prefix_refl _, by have := HBd.out.2.2.1; omega, by unfold putB; rw [if_neg (by rw [← HKd.out]; exact HK0.out), if_neg (by rw [← HKd.out]; exact HK1.out), if_neg (by rw [← HKd.out]; exact HK2.out)]⟩)
              have HBh := hid (beh_any HST3.out.f F.out HPf.out.1 HPf.out.2.1)
              have hc23 : W3.cell? ⟨G.w.heap.size, 0, none⟩ = some (.pointer (some ⟨G.fb, 0, none⟩)) := cell_of HST3.out.b.b2 0
              rw [← HNo.out] at HBh
              cases hbp : behP F.out F with
              | inl r =>
                obtain ⟨o, c⟩ := r
                rw [hbp] at HBh
                have HBi := (show Hid (Calls Tryz.prog 16 #[.pointer (some ⟨G.fb, 0, none⟩), .int .i64 (No : Int)] W3 fun e w5 => e = .returned (.int .i64 (c : Int)) ∧ Hid (RdX G (.exit 0) (w5.setCell ⟨G.w.heap.size + 1 + 1, 0, none⟩ (.int .i64 (c : Int))) ∧ Keep (rdS G (.slice oa No oc)) V (w5.setCell ⟨G.w.heap.size + 1 + 1, 0, none⟩ (.int .i64 (c : Int)))) ∧ c ≠ 0 ∧ w5.cell? ⟨G.w.heap.size + 1 + 1, 0, none⟩ = some (.int .i64 0) ∧ w5.frozen? ⟨G.w.heap.size + 1 + 1, 0, none⟩ = false) from HBh.out.mono (by
                  rintro e w5 ⟨⟨t1, t2, ov5, t3, t4, t5⟩, t6⟩
                  have hR : G.R = (o, 0, c) := by
                    rw [← HRu.out, runU_inl (r := (o, c)) (by rw [stepU_block HCc.out.symm HP6.out]; exact HPf.out.2.2.trans hbp)]
                  obtain ⟨l1, l2⟩ := rd_left HG.out.1 HST3.out t6 hR t1 t3 t4 t5
                  have hb := HST3.out.b.far t6 (fun k (q : k = G.fb) => q ▸ HST3.out.r.fb)
                  exact ⟨t2, ⟨l1, l2⟩, t1, cell_of hb.b5 0, frozen_of hb.b5 0⟩))
                clear HBh
                have hcc : c ≠ 0 → ((c : Int) != 0) = true := fun h => by simp; omega
                gi_wp2_with (refine ⟨trivial, ?_⟩; gi_at_call 16; refine (CallsIn.inRound _ (callsIn_wide.2 HBi.out)).mono ?_; rintro e w5 ⟨rfl, HP5, hcn, e55, f55⟩; have hcb := hcc hcn)
                obtain ⟨k1, k2⟩ := hend.out 0 0 F (.slice oa No oc) _ HP5.out.2
                exact ⟨k1, HP5.out.1, by rw [HQ.out.2]; exact k2⟩
              | inr f =>
                rw [hbp] at HBh
                have HBi := (show Hid (Calls Tryz.prog 16 #[.pointer (some ⟨G.fb, 0, none⟩), .int .i64 (No : Int)] W3 fun e w5 => e = .returned (.int .i64 0) ∧ Hid (RdS G us' (w5.setCell ⟨G.w.heap.size + 1 + 1, 0, none⟩ (.int .i64 0)) ∧ Keep (rdS G (.slice oa No oc)) V (w5.setCell ⟨G.w.heap.size + 1 + 1, 0, none⟩ (.int .i64 0))) ∧ w5.cell? ⟨G.w.heap.size + 1 + 1, 0, none⟩ = some (.int .i64 0) ∧ w5.frozen? ⟨G.w.heap.size + 1 + 1, 0, none⟩ = false) from HBh.out.mono (by
                  rintro e w5 ⟨⟨t1, t2, t3, t4⟩, t6⟩
                  have t7 := HST3.out.atf t6 t4 rfl
                  have t8 := t7.setE 0
                  obtain ⟨b1, b2, b3, b4, b5⟩ := HBd.out
                  obtain ⟨l1, l2, l3, l4, l5, l6, l7⟩ := HLO.out
                  have hus := b2.2
                  rw [← l2, ← l3, ← l4, l7 HP6.out] at hus
                  refine ⟨t1, ⟨⟨F, ul, _, _, _, _, _, _, _, _, t8.b, t8.f, t8.r, ?_, ?_, t3, ?_, ?_⟩, t8.k⟩, cell_of t7.b.b5 0, frozen_of t7.b.b5 0⟩
                  · rw [← HRu.out, runU_inr (f1 := F) (by rw [stepU_block HCc.out.symm HP6.out]; exact (HPf.out.2.2.trans hbp).trans (congrArg Sum.inr t2)), HUl.out, HLn.out]
                  · exact hus
                  · exact b4
                  · rw [HUl.out, HLn.out]; omega))
                clear HBh
                gi_wp2_with (refine ⟨trivial, ?_⟩; gi_at_call 16; refine (CallsIn.inRound _ (callsIn_wide.2 HBi.out)).mono ?_; rintro e w5 ⟨rfl, HP5, e55, f55⟩)
                obtain ⟨k1, k2⟩ := hend.out 0 0 F (.slice oa No oc) _ HP5.out.2
                exact ⟨k1, HP5.out.1, by rw [HQ.out.2]; exact k2⟩
      · have hpd : decide (p = 6) = false := decide_eq_false hp6
        have hpn : ((p : Int) != 6) = true := by simp; omega
        gi_wp2_with (refine ⟨trivial, ?_⟩; gi_at_call 12; refine (CallsIn.inRound _ (callsIn_wide.2 HLk3.out)).mono ?_; rintro e w1 ⟨rfl, HP, e5, f5, e4, f4, rr1, rr0⟩)
        have hst := (HP.out.setE 0).setU ul
        obtain ⟨k1, k2⟩ := hend.out 0 0 F ov _ hst.k
        obtain ⟨b1, b2, b3, b4, b5⟩ := HBd.out
        obtain ⟨l1, l2, l3, l4, l5, l6, l7⟩ := HLO.out
        refine ⟨k1, ⟨(lookP (orc G.Ω G.Δ) F ⟨p, bs, wh⟩).1, ul, x0, x1, x2, aw, cw, gw, ow, ov, hst.b, hst.f, hst.r, ?_, ?_, ?_, ?_, ?_⟩, by rw [HQ.out.2]; exact k2⟩
        · rw [← HRu.out, runU_inr (stepU_pass HCc.out.symm hp6), HUl.out, HLn.out]
        · rw [l2, l3, l4]; exact b2.2
        · rw [l5]; exact b3
        · exact l6 b4
        · rw [HUl.out, HLn.out]; omega
    · have hcb : ((c : Int) != 0) = true := by simp; omega
      gi_wp2_with (refine ⟨trivial, ?_⟩; gi_at_call 12; refine (CallsIn.inRound _ (callsIn_wide.2 HLk2.out)).mono ?_; rintro e w1 ⟨rfl, HP, e5, f5⟩)
      have hst := HP.out.1.setE c
      have hR : G.R = ((lookP (orc G.Ω G.Δ) F ⟨p, bs, wh⟩).1.out, 0, c) := by
        rw [← HRu.out, runU_inl (stepU_look (by rw [← HCc.out]; exact hc0)), HCc.out]
      obtain ⟨k1, k2⟩ := hend.out 0 0 F ov _ hst.k
      refine ⟨k1, ⟨rfl, used, ov, ?_, ?_, cell_of hst.f.fr 15, ?_, hst.r.ov⟩, by rw [HQ.out.2]; exact k2⟩
      · rw [hR]; exact hst.b
      · rw [hR]; exact hc0
      · rw [hR]; exact hst.f.out
  case done =>
    rintro us V rfl ⟨F, used, x0, x1, x2, aw, cw, gw, ow, ov, h1, h2, h3, h4, h5, h6, h7, h8⟩ hD
    have c4 : V.drew.cell? ⟨G.w.heap.size + 1, 0, none⟩ = some (.int .i64 (used : Int)) := cell_of (w := V.drew) h1.b4 0
    have c5 : V.drew.cell? ⟨G.w.heap.size + 1 + 1, 0, none⟩ = some (.int .i64 0) := cell_of (w := V.drew) h1.b5 0
    have f4 : V.drew.frozen? ⟨G.w.heap.size + 1, 0, none⟩ = false := frozen_of (w := V.drew) h1.b4 0
    have o4 : (V.setCell ⟨G.w.heap.size + 1, 0, none⟩ (.int .i64 (used : Int))).drew.heap[G.w.heap.size + 1]? = some (.cells #[.int .i64 (used : Int)] 3 (0, 0)) := set_obj h1.b4 0 _
    have kA : Keep (fun k => k = G.w.heap.size + 1) V (V.setCell ⟨G.w.heap.size + 1, 0, none⟩ (.int .i64 (used : Int))).drew := ((Keep.refl (fun k => k = G.w.heap.size + 1) V).setCell (p := ⟨G.w.heap.size + 1, 0, none⟩) (fun _ => rfl) _).drew
    have o5 := kA.obj h1.b5 (by omega)
    have d4 := cell_of o4 0
    have d5 : (V.setCell ⟨G.w.heap.size + 1, 0, none⟩ (.int .i64 (used : Int))).drew.cell? ⟨G.w.heap.size + 1 + 1, 0, none⟩ = some (.int .i64 0) := cell_of o5 0
    have g5 : (V.setCell ⟨G.w.heap.size + 1, 0, none⟩ (.int .i64 (used : Int))).drew.frozen? ⟨G.w.heap.size + 1 + 1, 0, none⟩ = false := frozen_of o5 0
    obtain ⟨V2, hV2⟩ : ∃ V2, V2 = ((V.setCell ⟨G.w.heap.size + 1, 0, none⟩ (.int .i64 (used : Int))).setCell ⟨G.w.heap.size + 1 + 1, 0, none⟩ (.int .i64 0)).drew := ⟨_, rfl⟩
    have kB : Keep (fun k => k = G.w.heap.size + 1 ∨ k = G.w.heap.size + 1 + 1) V V2 := by
      rw [hV2]
      exact (((Keep.refl (fun k => k = G.w.heap.size + 1 ∨ k = G.w.heap.size + 1 + 1) V).setCell (p := ⟨G.w.heap.size + 1, 0, none⟩) (fun _ => .inl rfl) _).setCell (p := ⟨G.w.heap.size + 1 + 1, 0, none⟩) (fun _ => .inr rfl) _).drew
    have o42 : V2.heap[G.w.heap.size + 1]? = some (.cells #[.int .i64 (used : Int)] 3 (0, 0)) := by
      rw [hV2]
      exact ((Keep.refl (fun k => k = G.w.heap.size + 1 + 1) (V.setCell ⟨G.w.heap.size + 1, 0, none⟩ (.int .i64 (used : Int)))).setCell (p := ⟨G.w.heap.size + 1 + 1, 0, none⟩) (fun _ => rfl) _).drew.obj o4 (by omega)
    have o52 : V2.heap[G.w.heap.size + 1 + 1]? = some (.cells #[.int .i64 0] 23 (0, 0)) := by
      rw [hV2]
      exact set_obj (w := V.setCell ⟨G.w.heap.size + 1, 0, none⟩ (.int .i64 (used : Int))) o5 0 _
    have HE := (show Hid (Keep (fun k => k = G.w.heap.size + 1 ∨ k = G.w.heap.size + 1 + 1) V V2 ∧ V2.heap[G.w.heap.size + 1]? = some (.cells #[.int .i64 (used : Int)] 3 (0, 0)) ∧ V2.heap[G.w.heap.size + 1 + 1]? = some (.cells #[.int .i64 0] 23 (0, 0)) ∧ V2.heap[W0.heap.size]? = some (.deferred (some []))) from
      ⟨kB, o42, o52, kB.obj hD (by omega)⟩)
    have HS := (show Hid (V.drew.cell? ⟨G.w.heap.size + 1, 0, none⟩ = some (.int .i64 (used : Int)) ∧ V.drew.cell? ⟨G.w.heap.size + 1 + 1, 0, none⟩ = some (.int .i64 0)) from ⟨c4, c5⟩)
    have HS2 := hid (And.intro d4 d5)
    have hV2' := hid hV2
    clear o4 kA o5 kB o42 o52 hV2 hD hsz hq
    go_wp2_with fail
    refine wp_calm ?_
    refine region_last (fun W => W.cell? ⟨G.w.heap.size + 1, 0, none⟩ = some (.int .i64 (used : Int)) ∧ W.cell? ⟨G.w.heap.size + 1 + 1, 0, none⟩ = some (.int .i64 0)) 3 mx HS.out (fun hS => ?_)
    refine tk (i := 0) (v := ?_) rfl (by kernel_rfl) (fun _ _ _ h => h) (by rfl) ?_ (by assumption) ?_
    rotate_left 1
    · intro w hSw; (try dsimp only at hSw); (try obtain ⟨hSw1, hSw2⟩ := hSw); (go_simp <;> with_reducible rfl)
    simp only [Act.put, tA, tB, tD, tE, tF]
    refine tk (i := 1) (v := ?_) rfl (by kernel_rfl) (fun _ _ _ h => h) (by rfl) ?_ (by assumption) ?_
    rotate_left 1
    · intro w hSw; (try dsimp only at hSw); (try obtain ⟨hSw1, hSw2⟩ := hSw); (go_simp <;> with_reducible rfl)
    simp only [Act.put, tA, tB, tC, tD, tE, tF]
    refine last_one (j := 2) (by kernel_rfl) rfl (fun K hK => ?_)
    rw [if_pos (by rfl)]
    simp only [tA, tB, tC]
    go_simp
    refine hK.out _ _ (fun _ => HS2.out) ?_
    clear hK K
    refine last_one (j := 3) (by kernel_rfl) rfl (fun K hK => ?_)
    rw [if_pos (by rfl)]
    simp only [tA, tB, tC]
    go_simp
    refine hK.out _ _ (fun e => absurd rfl e) ?_
    clear hK K
    refine last_done (by kernel_rfl) ?_ _
    simp only [calm]
    go_wp2_with fail
    simp only [Exit.noGoto]
    rw [← hV2'.out]
    have hsz := HW0.out.1
    have hq := HNQ.out.2
    obtain ⟨y1, y2, y3, y4⟩ := HE.out
    refine ⟨by simp, .inl ⟨_, _, rfl, run_takeDeferred y4, ?_⟩⟩
    have hkp : Keep (fun j => j = W0.heap.size) V2 (V2.putObj W0.heap.size (.deferred none)) := (Keep.refl (fun j => j = W0.heap.size) V2).putObj _ _ (fun _ => rfl)
    refine ⟨_, results_cc rfl _ _ _ ⟨G.w.heap.size + 1, 0, none⟩ ⟨G.w.heap.size + 1 + 1, 0, none⟩ (.int .i64 (used : Int)) (.int .i64 0) rfl rfl (loadVar3 (cell_of (hkp.obj y2 (by omega)) 0)) (loadVar23 (cell_of (hkp.obj y3 (by omega)) 0)), ?_⟩
    have hkt : Keep (fun k => k = G.w.heap.size + 1 ∨ k = G.w.heap.size + 1 + 1 ∨ k = W0.heap.size) V (V2.putObj W0.heap.size (.deferred none)) := (y1.mono (fun _ _ h => h.elim .inl (fun h => .inr (.inl h)))).trans hkp (fun _ _ h => .inr (.inr h))
    have hfs : ∀ k, ¬ farS G k → ¬ (k = G.w.heap.size + 1 ∨ k = G.w.heap.size + 1 + 1 ∨ k = W0.heap.size) := fun k hk e => hk (.inr (by rcases e with rfl | rfl | rfl <;> omega))
    have hR : G.R = (F.out, used, 0) := h4.symm
    unfold RdP
    rw [hR]
    exact ⟨used, ov, rfl, fun _ => rfl, keep_cellS hkt (hfs _ h3.fb) (cell_of h2.fr 15), h2.out.keep hkt (fun k hk => hfs k (h3.ov k hk)), h3.ov, h1.kp.trans hkt (fun i hi e => by rcases e with rfl | rfl | rfl <;> omega)⟩
  case stop =>
    rintro j V ⟨rfl, used, ov, h1, h2, h3, h4, h5⟩ hD
    refine wpIn_wide.2 ?_
    have c4 : V.drew.cell? ⟨G.w.heap.size + 1, 0, none⟩ = some (.int .i64 (used : Int)) := cell_of (w := V.drew) h1.b4 0
    have c5 : V.drew.cell? ⟨G.w.heap.size + 1 + 1, 0, none⟩ = some (.int .i64 (G.R.2.2 : Int)) := cell_of (w := V.drew) h1.b5 0
    have f4 : V.drew.frozen? ⟨G.w.heap.size + 1, 0, none⟩ = false := frozen_of (w := V.drew) h1.b4 0
    have o4 : (V.setCell ⟨G.w.heap.size + 1, 0, none⟩ (.int .i64 (used : Int))).drew.heap[G.w.heap.size + 1]? = some (.cells #[.int .i64 (used : Int)] 3 (0, 0)) := set_obj h1.b4 0 _
    have kA : Keep (fun k => k = G.w.heap.size + 1) V (V.setCell ⟨G.w.heap.size + 1, 0, none⟩ (.int .i64 (used : Int))).drew := ((Keep.refl (fun k => k = G.w.heap.size + 1) V).setCell (p := ⟨G.w.heap.size + 1, 0, none⟩) (fun _ => rfl) _).drew
    have o5 := kA.obj h1.b5 (by omega)
    have d4 := cell_of o4 0
    have d5 : (V.setCell ⟨G.w.heap.size + 1, 0, none⟩ (.int .i64 (used : Int))).drew.cell? ⟨G.w.heap.size + 1 + 1, 0, none⟩ = some (.int .i64 (G.R.2.2 : Int)) := cell_of o5 0
    have g5 : (V.setCell ⟨G.w.heap.size + 1, 0, none⟩ (.int .i64 (used : Int))).drew.frozen? ⟨G.w.heap.size + 1 + 1, 0, none⟩ = false := frozen_of o5 0
    obtain ⟨V2, hV2⟩ : ∃ V2, V2 = ((V.setCell ⟨G.w.heap.size + 1, 0, none⟩ (.int .i64 (used : Int))).setCell ⟨G.w.heap.size + 1 + 1, 0, none⟩ (.int .i64 (G.R.2.2 : Int))).drew := ⟨_, rfl⟩
    have kB : Keep (fun k => k = G.w.heap.size + 1 ∨ k = G.w.heap.size + 1 + 1) V V2 := by
      rw [hV2]
      exact (((Keep.refl (fun k => k = G.w.heap.size + 1 ∨ k = G.w.heap.size + 1 + 1) V).setCell (p := ⟨G.w.heap.size + 1, 0, none⟩) (fun _ => .inl rfl) _).setCell (p := ⟨G.w.heap.size + 1 + 1, 0, none⟩) (fun _ => .inr rfl) _).drew
    have o42 : V2.heap[G.w.heap.size + 1]? = some (.cells #[.int .i64 (used : Int)] 3 (0, 0)) := by
      rw [hV2]
      exact ((Keep.refl (fun k => k = G.w.heap.size + 1 + 1) (V.setCell ⟨G.w.heap.size + 1, 0, none⟩ (.int .i64 (used : Int)))).setCell (p := ⟨G.w.heap.size + 1 + 1, 0, none⟩) (fun _ => rfl) _).drew.obj o4 (by omega)
    have o52 : V2.heap[G.w.heap.size + 1 + 1]? = some (.cells #[.int .i64 (G.R.2.2 : Int)] 23 (0, 0)) := by
      rw [hV2]
      exact set_obj (w := V.setCell ⟨G.w.heap.size + 1, 0, none⟩ (.int .i64 (used : Int))) o5 0 _
    have HE := (show Hid (Keep (fun k => k = G.w.heap.size + 1 ∨ k = G.w.heap.size + 1 + 1) V V2 ∧ V2.heap[G.w.heap.size + 1]? = some (.cells #[.int .i64 (used : Int)] 3 (0, 0)) ∧ V2.heap[G.w.heap.size + 1 + 1]? = some (.cells #[.int .i64 (G.R.2.2 : Int)] 23 (0, 0)) ∧ V2.heap[W0.heap.size]? = some (.deferred (some []))) from
      ⟨kB, o42, o52, kB.obj hD (by omega)⟩)
    have HS := (show Hid (V.drew.cell? ⟨G.w.heap.size + 1, 0, none⟩ = some (.int .i64 (used : Int)) ∧ V.drew.cell? ⟨G.w.heap.size + 1 + 1, 0, none⟩ = some (.int .i64 (G.R.2.2 : Int))) from ⟨c4, c5⟩)
    have HS2 := hid (And.intro d4 d5)
    have hV2' := hid hV2
    clear o4 kA o5 kB o42 o52 hV2 hD hsz hq
    go_wp2_with fail
    refine wp_calm ?_
    refine region_last (fun W => W.cell? ⟨G.w.heap.size + 1, 0, none⟩ = some (.int .i64 (used : Int)) ∧ W.cell? ⟨G.w.heap.size + 1 + 1, 0, none⟩ = some (.int .i64 (G.R.2.2 : Int))) 3 mx HS.out (fun hS => ?_)
    refine tk (i := 0) (v := ?_) rfl (by kernel_rfl) (fun _ _ _ h => h) (by rfl) ?_ (by assumption) ?_
    rotate_left 1
    · intro w hSw; (try dsimp only at hSw); (try obtain ⟨hSw1, hSw2⟩ := hSw); (go_simp <;> with_reducible rfl)
    simp only [Act.put, tA, tB, tD, tE, tF]
    refine tk (i := 1) (v := ?_) rfl (by kernel_rfl) (fun _ _ _ h => h) (by rfl) ?_ (by assumption) ?_
    rotate_left 1
    · intro w hSw; (try dsimp only at hSw); (try obtain ⟨hSw1, hSw2⟩ := hSw); (go_simp <;> with_reducible rfl)
    simp only [Act.put, tA, tB, tC, tD, tE, tF]
    refine last_one (j := 2) (by kernel_rfl) rfl (fun K hK => ?_)
    rw [if_pos (by rfl)]
    simp only [tA, tB, tC]
    go_simp
    refine hK.out _ _ (fun _ => HS2.out) ?_
    clear hK K
    refine last_one (j := 3) (by kernel_rfl) rfl (fun K hK => ?_)
    rw [if_pos (by rfl)]
    simp only [tA, tB, tC]
    go_simp
    refine hK.out _ _ (fun e => absurd rfl e) ?_
    clear hK K
    refine last_done (by kernel_rfl) ?_ _
    simp only [calm]
    go_wp2_with fail
    simp only [Exit.noGoto]
    rw [← hV2'.out]
    have hsz := HW0.out.1
    have hq := HNQ.out.2
    obtain ⟨y1, y2, y3, y4⟩ := HE.out
    refine ⟨by simp, .inl ⟨_, _, rfl, run_takeDeferred y4, ?_⟩⟩
    have hkp : Keep (fun j => j = W0.heap.size) V2 (V2.putObj W0.heap.size (.deferred none)) := (Keep.refl (fun j => j = W0.heap.size) V2).putObj _ _ (fun _ => rfl)
    refine ⟨_, results_cc rfl _ _ _ ⟨G.w.heap.size + 1, 0, none⟩ ⟨G.w.heap.size + 1 + 1, 0, none⟩ (.int .i64 (used : Int)) (.int .i64 (G.R.2.2 : Int)) rfl rfl (loadVar3 (cell_of (hkp.obj y2 (by omega)) 0)) (loadVar23 (cell_of (hkp.obj y3 (by omega)) 0)), ?_⟩
    have hkt : Keep (fun k => k = G.w.heap.size + 1 ∨ k = G.w.heap.size + 1 + 1 ∨ k = W0.heap.size) V (V2.putObj W0.heap.size (.deferred none)) := (y1.mono (fun _ _ h => h.elim .inl (fun h => .inr (.inl h)))).trans hkp (fun _ _ h => .inr (.inr h))
    have hfs : ∀ k, ¬ farS G k → ¬ (k = G.w.heap.size + 1 ∨ k = G.w.heap.size + 1 + 1 ∨ k = W0.heap.size) := fun k hk e => hk (.inr (by rcases e with rfl | rfl | rfl <;> omega))
    exact ⟨used, ov, rfl, fun e => (h2 e).elim, keep_cellS hkt (hfs _ (fun e => by rcases e with e | e <;> omega)) h3, h4.keep hkt (fun k hk => hfs k (h5 k hk)), h5, h1.kp.trans hkt (fun i hi e => by rcases e with rfl | rfl | rfl <;> omega)⟩
end
end Go.Proofs.YtnjilcokkhodmaaGreatDoor
