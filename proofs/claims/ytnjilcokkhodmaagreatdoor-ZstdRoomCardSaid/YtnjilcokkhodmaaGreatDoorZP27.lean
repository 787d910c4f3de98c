/-
 A frame whose content grows; what a round leaves.
-/
import Derived.Test.YtnjilcokkhodmaaGreatDoorZP17
import Derived.Test.YtnjilcokkhodmaaGreatDoorZP26
namespace Go.Proofs.YtnjilcokkhodmaaGreatDoor
open Go.RowKit Go.Shelf
set_option linter.unusedVariables false

theorem IsF.push {w : World} {fb : Nat} {F : Fr} {x0 x1 x2 : Value} {aw : Option Addr} {cw gw ow : Nat} {ov sv : Value} {bs : List Nat} (h : IsF w fb F x0 x1 x2 aw cw gw ow ov) (hs : SrcB w sv bs) (hb : ∀ j : Nat, bs[j]?.getD 0 < 256) (hl : F.out.length + bs.length ≤ 1073741824) :
    ∃ ov' w2, (Builtin.append_ #[22, 22] 22 #[ov, sv]).run Tryz.prog w = .ok ov' w2 ∧ IsF (w2.setCell ⟨fb, 15, none⟩ ov') fb { F with out := F.out ++ bs } x0 x1 x2 aw cw gw ow ov' ∧ CoS w (w2.setCell ⟨fb, 15, none⟩ ov') fb ov ov' ∧
      w2.cell? ⟨fb, 15, none⟩ = some ov ∧ w2.frozen? ⟨fb, 15, none⟩ = false ∧ Keep (fun k => ov.ownBlock = some k) w w2 := by
  obtain ⟨ov', w2, r1, r2, r3, r4⟩ := h.out.put hs hb (by omega) 22
  have hfr := IsFr.keep h.fr r3 (fun e => h.ne e)
  have hkf : Keep (fun k => k = fb) w2 (w2.setCell ⟨fb, 15, none⟩ ov') := (Keep.refl (fun k => k = fb) w2).setCell (p := ⟨fb, 15, none⟩) (fun _ => rfl) _
  have hco : CoS w (w2.setCell ⟨fb, 15, none⟩ ov') fb ov ov' := ((CoS.refl w fb ov).put r3 r4).atf hkf
  obtain ⟨p0, p1, p2⟩ := h.apart
  have hS : ∀ (v : Value), Apart (fun k => k = fb) v → Apart (fun k => ov.ownBlock = some k) v → Apart (fun k => k = fb ∨ ov.ownBlock = some k) v := fun v h1 h2 p n c e q => q.elim (h1 p n c e) (h2 p n c e)
  have hap : ∀ (v : Value) (t : Option Tb), IsTs w v t → Apart (fun k => ov.ownBlock = some k) v → Apart (fun k => ov'.ownBlock = some k) v := fun v t ht hv p n c e q => by
    have h2 := (ht.there p n c e).1
    have q' : ov'.ownBlock = some p.block := q
    rcases r4 with e4 | ⟨k, e4, hk⟩
    · rw [e4] at q'; exact hv p n c e q'
    · rw [e4] at q'
      have := Option.some.inj q'
      omega
  have hgw : F.ws ≠ [] → ¬ (gw = fb ∨ ov.ownBlock = some gw) := fun hne e => e.elim (h.fw hne) (h.pw hne)
  refine ⟨ov', w2, r1, ⟨FrAt.out_set hfr ov', h.t0.keepS hco.kp (hS _ p0 h.p0), h.t1.keepS hco.kp (hS _ p1 h.p1), h.t2.keepS hco.kp (hS _ p2 h.p2), h.bw.keep hco.kp hgw, r2.keep hkf (fun g hg (e : g = fb) => hco.ne h.fr.lt h.ne (by rw [hg, e])), hco.ne h.fr.lt h.ne, hap _ _ h.t0 h.p0, hap _ _ h.t1 h.p1, hap _ _ h.t2 h.p2,
    fun e => Nat.lt_of_lt_of_le (h.gl e) hco.kp.size, fun hne e => ?_, h.fw, ⟨h.ok.win, h.ok.siz, h.ok.r0, h.ok.r1, h.ok.r2, h.ok.fl, h.ok.bud, h.ok.ws, h.ok.g0, h.ok.g1, h.ok.g2⟩⟩, hco, cell_of hfr 15, frozen_of hfr 15, r3⟩
  rcases r4 with e4 | ⟨k, e4, hk⟩
  · rw [e4] at e; exact h.pw hne e
  · rw [e4] at e
    have := Option.some.inj e
    have := h.gl hne
    omega
def rdS (G : Rp) (ov : Value) (k : Nat) : Prop := k = G.fb ∨ ov.ownBlock = some k ∨ k = G.w.heap.size + 1 ∨ k = G.w.heap.size + 2
theorem farS_new {G : Rp} {V : World} (ok : RpOk G) (h : G.w.heap.size + 6 < V.heap.size) {k : Nat} (hk : V.heap.size ≤ k) : ¬ farS G k := fun e => by
 have h1 := ok.nf
 have h2 := ok.fq
 rcases e with e | e <;> omega
theorem rd_end {G : Rp} {V V' : World} {used B : Nat} {F : Fr} {x0 x1 x2 : Value} {aw : Option Addr} {cw gw ow : Nat} {ov : Value} (ok : RpOk G) (hb : Bxs G used 0 V) (hF : IsF V G.fb F x0 x1 x2 aw cw gw ow ov) (hf : FarF (farS G) F G.fb gw x0 x1 x2 ov) (hk : Keep (rdS G ov) V V') (hC : G.w.heap.size + 6 < V.heap.size) :
  KeepsFrom B V V' ∧ PrC (G.w.heap.size + 6) G.gb V V' := by
 have h1 := ok.nf
 have h2 := ok.fq
 have h3 := ok.gn
 have hown : ∀ k, ov.ownBlock = some k → ∃ cur, V.heap[k]? = some (.cells cur 5 (0, 0)) := fun k hk2 => by
  rcases hF.out.own.2 with ⟨e, h0⟩ | ⟨g, cap, cur, e, hb, hg, h1⟩
  ·rw [e] at hk2; cases hk2
  ·rw [e] at hk2
   obtain rfl : g = k := by simpa [Value.ownBlock] using hk2
   exact ⟨cur, hg⟩
 refine ⟨⟨hk.size, fun j o _ hj hc => hk.obj hj (fun e => ?_)⟩, ⟨fun k e => ?_, fun k cs e => hk.obj e (fun e2 => ?_)⟩⟩
 ·rcases e with rfl | e | rfl | rfl
  ·rw [show V.heap[G.fb]? = _ from hF.fr] at hj; cases hj; cases hc
  ·obtain ⟨cur, hg⟩ := hown _ e
   rw [hg] at hj; cases hj; cases hc
  ·rw [hb.b4] at hj; cases hj; cases hc
  ·rw [hb.b5] at hj; cases hj; cases hc
 ·have hlt : k < V.heap.size ∨ V.heap.size ≤ k := by omega
  have hn : ¬ rdS G ov k := fun e2 => by
   have hfk : farS G k := by
    rcases e with rfl | rfl
    ·exact .inr ⟨by omega, by omega⟩
    ·exact .inl h3
   rcases e2 with e2 | e2 | e2 | e2
   ·exact hf.fb (e2 ▸ hfk)
   ·exact hf.ov k e2 hfk
   ·rcases e with rfl | rfl <;> omega
   ·rcases e with rfl | rfl <;> omega
  rcases hlt with hlt | hlt
  ·exact hk.block k hlt hn
  ·exfalso
   have := hF.fr.lt
   rcases e with rfl | rfl <;> omega
 ·rcases e2 with rfl | e2 | rfl | rfl
  ·rw [show V.heap[G.fb]? = _ from hF.fr] at e; cases e
  ·obtain ⟨cur, hg⟩ := hown _ e2
   rw [hg] at e; cases e
  ·rw [hb.b4] at e; cases e
  ·rw [hb.b5] at e; cases e
theorem copyP_fields {f f2 : Fr} {s : Sp} (h : copyP f s = some f2) : f2.fl = f.fl ∧ f2.kind = f.kind ∧ f2.bsz = f.bsz := by
 unfold copyP at h
 split at h
 ·cases h
 ·split at h
  ·cases h
  ·cases h; exact ⟨rfl, rfl, rfl⟩
theorem stepsP_fields : ∀ (ss : List Sp) (f f2 : Fr) (lits : List Nat) (en : Nat), stepsP f lits en ss = some f2 → f2.fl = f.fl ∧ f2.kind = f.kind ∧ f2.bsz = f.bsz ∧ f2.out.length ≤ en
  | [], f, f2, lits, en, h => by
    rw [stepsP_nil] at h
    split at h
    · rename_i hl; cases h; exact ⟨rfl, rfl, rfl, hl⟩
    · cases h
  | s :: ss, f, f2, lits, en, h => by
    rw [stepsP_cons] at h
    split at h
    · cases h
    · split at h
      · cases h
      · split at h
        · cases h
        · rename_i f3 h3
          obtain ⟨a1, a2, a3, a4⟩ := stepsP_fields ss f3 f2 _ en h
          obtain ⟨b1, b2, b3⟩ := copyP_fields h3
          exact ⟨a1.trans b1, a2.trans b2, a3.trans b3, a4⟩
theorem unpackP_fields {O : Orc} {f f2 : Fr} {bs : List Nat} (h : unpackP O f bs = some f2) : f2.fl = f.fl ∧ f2.kind = f.kind ∧ f2.bsz = f.bsz ∧ f2.out.length ≤ f.out.length + mostF f := by
 unfold unpackP at h
 split at h
 ·cases h
 ·split at h
  ·cases h
  ·have h2 := stepsP_fields _ _ _ _ _ h
   exact h2
theorem frm_keep {w w' : World} {S : Nat → Prop} (h : Frm w) (hk : Keep S w w') (h1 : ¬ S 1) : Frm w' := fun i f hi hf =>
 ⟨keep_cellS hk h1 (h i f hi hf).1, keep_cellS hk h1 (h i f hi hf).2.1, keep_cellS hk h1 (h i f hi hf).2.2.1, keep_cellS hk h1 (h i f hi hf).2.2.2⟩
theorem lookP_ws (O : Orc) (F : Fr) (u : Un) : (lookP O F u).1.ws = F.ws := by
 unfold lookP
 repeat' split
 all_goals rfl
/-- A round under way. -/
structure Rst (G : Rp) (V : World) (ov0 : Value) (used e : Nat) (F : Fr) (x0 x1 x2 : Value) (aw : Option Addr) (cw gw ow : Nat) (ov : Value) (W : World) : Prop where
 b : Bxs G used e W
 f : IsF W G.fb F x0 x1 x2 aw cw gw ow ov
 r : FarF (farS G) F G.fb gw x0 x1 x2 ov
 k : Keep (rdS G ov0) V W
 n : ov.ownBlock = ov0.ownBlock ∨ ∃ k, ov.ownBlock = some k ∧ V.heap.size ≤ k
section
variable {G : Rp} {V W W' : World} {ov0 : Value} {used e : Nat} {F : Fr} {x0 x1 x2 : Value} {aw : Option Addr} {cw gw ow : Nat} {ov : Value}
theorem Rst.quiet (h : Rst G V ov0 used e F x0 x1 x2 aw cw gw ow ov W) (hk : Keep noBlock W W') : Rst G V ov0 used e F x0 x1 x2 aw cw gw ow ov W' :=
 ⟨h.b.far hk (fun _ q => q.elim), h.f.quiet hk, h.r, h.k.trans hk (fun _ _ q => q.elim), h.n⟩
theorem Rst.atf {F' : Fr} (h : Rst G V ov0 used e F x0 x1 x2 aw cw gw ow ov W) (hk : Keep (fun k => k = G.fb) W W') (hf : IsF W' G.fb F' x0 x1 x2 aw cw gw ow ov) (ew : F'.ws = F.ws) : Rst G V ov0 used e F' x0 x1 x2 aw cw gw ow ov W' :=
 ⟨h.b.far hk (fun k (q : k = G.fb) => q ▸ h.r.fb), hf, ⟨h.r.fb, h.r.ov, fun q => h.r.gw (by rw [← ew]; exact q), h.r.x0, h.r.x1, h.r.x2⟩, h.k.trans hk (fun _ _ q => .inl q), h.n⟩
theorem far_box {j : Nat} (h1 : j ≤ 6) : farS G (G.w.heap.size + j) := .inr ⟨by omega, by omega⟩
theorem Rst.setE (h : Rst G V ov0 used e F x0 x1 x2 aw cw gw ow ov W) (e' : Nat) : Rst G V ov0 used e' F x0 x1 x2 aw cw gw ow ov (W.setCell ⟨G.w.heap.size + 1 + 1, 0, none⟩ (.int .i64 (e' : Int))) := by
 have hk : Keep (fun k => k = G.w.heap.size + 2) W (W.setCell ⟨G.w.heap.size + 1 + 1, 0, none⟩ (.int .i64 (e' : Int))) := (Keep.refl (fun k => k = G.w.heap.size + 2) W).setCell (p := ⟨G.w.heap.size + 1 + 1, 0, none⟩) (fun _ => rfl) _
 exact ⟨⟨hk.obj h.b.b2 (by omega), hk.obj h.b.b4 (by omega), set_obj h.b.b5 0 _, hk.obj h.b.b3 (by omega), h.b.kp.trans hk (fun i hi (q : i = _) => by omega)⟩,
  h.f.keep hk (h.r.mono (fun k (q : k = _) => q ▸ far_box (by omega))), h.r, h.k.trans hk (fun _ _ q => .inr (.inr (.inr q))), h.n⟩
theorem Rst.setU (h : Rst G V ov0 used e F x0 x1 x2 aw cw gw ow ov W) (u' : Nat) : Rst G V ov0 u' e F x0 x1 x2 aw cw gw ow ov (W.setCell ⟨G.w.heap.size + 1, 0, none⟩ (.int .i64 (u' : Int))) := by
 have hk : Keep (fun k => k = G.w.heap.size + 1) W (W.setCell ⟨G.w.heap.size + 1, 0, none⟩ (.int .i64 (u' : Int))) := (Keep.refl (fun k => k = G.w.heap.size + 1) W).setCell (p := ⟨G.w.heap.size + 1, 0, none⟩) (fun _ => rfl) _
 exact ⟨⟨hk.obj h.b.b2 (by omega), set_obj h.b.b4 0 _, hk.obj h.b.b5 (by omega), hk.obj h.b.b3 (by omega), h.b.kp.trans hk (fun i hi (q : i = _) => by omega)⟩,
  h.f.keep hk (h.r.mono (fun k (q : k = _) => q ▸ far_box (by omega))), h.r, h.k.trans hk (fun _ _ q => .inr (.inr (.inl q))), h.n⟩
theorem Rst.cos (h : Rst G V ov0 used e F x0 x1 x2 aw cw gw ow ov W) (hC : G.w.heap.size + 6 < V.heap.size) (ok : RpOk G) {ov' : Value} (hc : CoS W W' G.fb ov ov') : Bxs G used e W' ∧ Keep (rdS G ov0) V W' ∧ (∀ k, ov'.ownBlock = some k → ¬ farS G k) ∧ (ov'.ownBlock = ov0.ownBlock ∨ ∃ k, ov'.ownBlock = some k ∧ V.heap.size ≤ k) := by
 refine ⟨h.b.far hc.kp (fun k q => ?_), h.k.trans hc.kp (fun k hk q => ?_), fun k hk => ?_, ?_⟩
 ·rcases q with q | q
  ·exact q ▸ h.r.fb
  ·exact h.r.ov k q
 ·rcases q with q | q
  ·exact .inl q
  ·rcases h.n with e | ⟨j, e, hj⟩
   ·exact .inr (.inl (by rw [← e]; exact q))
   ·rw [e] at q
    have := Option.some.inj q
    omega
 ·rcases hc.nw with e | ⟨j, e, hj⟩
  ·rw [e] at hk; exact h.r.ov k hk
  ·rw [e] at hk
   have := Option.some.inj hk
   have := h.k.size
   exact farS_new ok hC (by omega)
 ·rcases hc.nw with e | ⟨j, e, hj⟩
  ·rw [e]; exact h.n
  ·exact .inr ⟨j, e, Nat.le_trans h.k.size hj⟩
theorem Rst.push (h : Rst G V ov0 used e F x0 x1 x2 aw cw gw ow ov W) (hC : G.w.heap.size + 6 < V.heap.size) (ok : RpOk G) {sv : Value} {bs : List Nat} (hs : SrcB W sv bs) (hb : ∀ j : Nat, bs[j]?.getD 0 < 256) (hl : F.out.length + bs.length ≤ 1073741824) :
  ∃ ov' w2, (Builtin.append_ #[22, 22] 22 #[ov, sv]).run Tryz.prog W = .ok ov' w2 ∧ Rst G V ov0 used e { F with out := F.out ++ bs } x0 x1 x2 aw cw gw ow ov' (w2.setCell ⟨G.fb, 15, none⟩ ov') ∧ w2.cell? ⟨G.fb, 15, none⟩ = some ov ∧ w2.frozen? ⟨G.fb, 15, none⟩ = false ∧ Keep (fun k => ov.ownBlock = some k) W w2 := by
 obtain ⟨ov', w2, r1, r2, r3, r4, r5, r6⟩ := h.f.push hs hb hl
 obtain ⟨c1, c2, c3, c4⟩ := h.cos hC ok r3
 exact ⟨ov', w2, r1, ⟨c1, r2, ⟨h.r.fb, c3, h.r.gw, h.r.x0, h.r.x1, h.r.x2⟩, c2, c4⟩, r4, r5, r6⟩
theorem Bxs.setE (h : Bxs G used e W) (ok : RpOk G) (e' : Nat) : Bxs G used e' (W.setCell ⟨G.w.heap.size + 1 + 1, 0, none⟩ (.int .i64 (e' : Int))) ∧ Keep (fun k => k = G.w.heap.size + 2) W (W.setCell ⟨G.w.heap.size + 1 + 1, 0, none⟩ (.int .i64 (e' : Int))) := by
 have hk : Keep (fun k => k = G.w.heap.size + 2) W (W.setCell ⟨G.w.heap.size + 1 + 1, 0, none⟩ (.int .i64 (e' : Int))) := (Keep.refl (fun k => k = G.w.heap.size + 2) W).setCell (p := ⟨G.w.heap.size + 1 + 1, 0, none⟩) (fun _ => rfl) _
 exact ⟨⟨hk.obj h.b2 (by omega), hk.obj h.b4 (by omega), set_obj h.b5 0 _, hk.obj h.b3 (by omega), h.kp.trans hk (fun i hi (q : i = _) => by omega)⟩, hk⟩
theorem own_ne {W : World} {ov : Value} {out : List Nat} (h : OutF W ov out) {rb : Nat} {cs : Array Value} {t : TypeId} (ho : W.heap[rb]? = some (.cells cs t (0, 0))) (ht : t ≠ 5) : ov.ownBlock ≠ some rb := fun e => by
 rcases h.own.2 with ⟨e2, h0⟩ | ⟨g, cap, cur, e2, hb, hg, h1⟩
 ·rw [e2] at e; cases e
 ·rw [e2] at e
  obtain rfl : g = rb := by simpa [Value.ownBlock] using e
  rw [hg] at ho
  cases ho
  exact ht rfl
theorem rd_left (ok : RpOk G) {F2 : Fr} {o : List Nat} {c : Nat} {W5 : World} (h : Rst G V ov0 used 0 F2 x0 x1 x2 aw cw gw ow ov W) (hk : Keep (fun k => k = G.fb) W W5) (hR : G.R = (o, 0, c)) (hc : c ≠ 0) {ov' : Value} (h15 : W5.cell? ⟨G.fb, 15, none⟩ = some ov') (hO : OutF W5 ov' o) (hown : ∀ k, ov'.ownBlock = some k → ov.ownBlock = some k) :
  RdX G (.exit 0) (W5.setCell ⟨G.w.heap.size + 1 + 1, 0, none⟩ (.int .i64 (c : Int))) ∧ Keep (rdS G ov0) V (W5.setCell ⟨G.w.heap.size + 1 + 1, 0, none⟩ (.int .i64 (c : Int))) := by
 have hb := h.b.far hk (fun k (q : k = G.fb) => q ▸ h.r.fb)
 obtain ⟨b1, b2⟩ := hb.setE ok c
 have hne : ∀ k, ¬ farS G k → ¬ k = G.w.heap.size + 2 := fun k hk e => hk (e ▸ far_box (by omega))
 refine ⟨⟨rfl, used, ov', ?_, ?_, keep_cellS b2 (hne _ h.r.fb) h15, ?_, fun k hk2 => h.r.ov k (hown k hk2)⟩, (h.k.trans hk (fun _ _ q => .inl q)).trans b2 (fun _ _ q => .inr (.inr (.inr q)))⟩
 ·rw [hR]; exact b1
 ·rw [hR]; exact hc
 ·rw [hR]; exact hO.keep b2 (fun k hk2 => hne k (h.r.ov k (hown k hk2)))
theorem Rst.packed (h : Rst G V ov0 used e F x0 x1 x2 aw cw gw ow ov W) (hC : G.w.heap.size + 6 < V.heap.size) (ok : RpOk G) {F2 : Fr} {z0 z1 z2 : Value} {ax : Option Addr} {cx gx ox : Nat} {ov' : Value} (hf : IsF W' G.fb F2 z0 z1 z2 ax cx gx ox ov') (hc : CoS W W' G.fb ov ov')
  (n0 : NwS W.heap.size z0) (n1 : NwS W.heap.size z1) (n2 : NwS W.heap.size z2) (ng : F2.ws ≠ [] → W.heap.size ≤ gx) : Rst G V ov0 used e F2 z0 z1 z2 ax cx gx ox ov' W' := by
 obtain ⟨c1, c2, c3, c4⟩ := h.cos hC ok hc
 have hs := h.k.size
 have hn : ∀ k, W.heap.size ≤ k → ¬ farS G k := fun k hk => farS_new ok hC (by omega)
 exact ⟨c1, hf, ⟨h.r.fb, c3, fun q => hn _ (ng q), fun p n c e => hn _ (n0 p n c e), fun p n c e => hn _ (n1 p n c e), fun p n c e => hn _ (n2 p n c e)⟩, c2, c4⟩
end
end Go.Proofs.YtnjilcokkhodmaaGreatDoor
