/-
 unpack: what a packed block means is put behind the content.
-/
import Derived.Test.YtnjilcokkhodmaaGreatDoorZP19
import Derived.Test.YtnjilcokkhodmaaGreatDoorZP23
namespace Go.Proofs.YtnjilcokkhodmaaGreatDoor
open Go.RowKit Go.Shelf
set_option linter.unusedVariables false
set_option linter.unusedSimpArgs false

section
variable {Ω : Oc} {Δ : Od}
structure BoxD (P : Prop) : Prop where
 out : P
theorem one_wayZ {G T : Prop} (m : BoxD T → G) (t : T) : G := m ⟨t⟩
def UnP (w : World) (fb : Nat) (F : Fr) (ov : Value) (R : Option Fr) (e : Ending) (w' : World) : Prop := match R with
 | none => e = .returned (.bool false) ∧ ∃ F' x0 x1 x2 wsv ov', IsFr w' fb F' x0 x1 x2 wsv ov' ∧ OutF w' ov' F'.out ∧ F.out <+: F'.out ∧ CoS w w' fb ov ov'
 | some F2 => e = .returned (.bool true) ∧ ∃ x0 x1 x2 aw cw gw ow ov', IsF w' fb F2 x0 x1 x2 aw cw gw ow ov' ∧ CoS w w' fb ov ov' ∧ NwS w.heap.size x0 ∧ NwS w.heap.size x1 ∧ NwS w.heap.size x2 ∧ (F2.ws ≠ [] → w.heap.size ≤ gw)
theorem unpackP_n1 {F : Fr} {bs : List Nat} (h : litO Δ bs F.ws (mostF F) = none) : unpackP (orc Ω Δ) F bs = none := by
 unfold unpackP
 rw [show (orc Ω Δ).lit bs F.ws (mostF F) = none from h]
theorem unpackP_n2 {F : Fr} {bs l nw : List Nat} {u : Nat} (h : litO Δ bs F.ws (mostF F) = some (l, nw, u)) (h2 : seqR Ω (bs.drop u) F.t0 F.t1 F.t2 = none) : unpackP (orc Ω Δ) F bs = none := by
 unfold unpackP
 rw [show (orc Ω Δ).lit bs F.ws (mostF F) = some (l, nw, u) from h]
 dsimp only
 rw [show (orc Ω Δ).seq (bs.drop u) F.t0 F.t1 F.t2 = none from h2]
theorem unpackP_s {F : Fr} {bs l nw : List Nat} {u : Nat} {ss : List Sp} {a b c : Option Tb} (h : litO Δ bs F.ws (mostF F) = some (l, nw, u)) (h2 : seqR Ω (bs.drop u) F.t0 F.t1 F.t2 = some (ss, a, b, c)) :
  unpackP (orc Ω Δ) F bs = stepsP { F with ws := nw, t0 := a, t1 := b, t2 := c } l (F.out.length + mostF F) ss := by
 unfold unpackP
 rw [show (orc Ω Δ).lit bs F.ws (mostF F) = some (l, nw, u) from h]
 dsimp only
 rw [show (orc Ω Δ).seq (bs.drop u) F.t0 F.t1 F.t2 = some (ss, a, b, c) from h2]
theorem litO_ne {bs ws : List Nat} {most : Nat} {r : List Nat × List Nat × Nat} (e : bs = []) (h : litO Δ bs ws most = some r) : False := by
 subst e
 unfold litO litR at h
 by_cases q : (most : Int) < 0 ∨ 131072 < (most : Int)
 ·simp [q] at h
 ·simp [q] at h
theorem SpRow.keepB {w w' : World} {v : Value} {ss : List Sp} {b : Nat} (h : SpRow w v ss) (hk : Keep (fun k => k = b) w w') {a : Option Addr} {n c : Nat} (hb : w.cell? ⟨b, 0, none⟩ = some (.slice a n c)) : SpRow w' v ss := by
  obtain ⟨sa, cap, e, hr⟩ := h.form
  refine ⟨sa, cap, e, ?_⟩
  rcases hr with q | ⟨g, q1, q2, q3⟩
  · exact .inl q
  · cases ss with
    | nil => exact .inl rfl
    | cons x r =>
      have hne : ¬ g = b := fun e => by
        have := (q3 0 x rfl).1
        rw [Nat.zero_mul, e, hb] at this
        cases this
      exact .inr ⟨g, q1, Nat.lt_of_lt_of_le q2 hk.size, fun k s hs => ⟨keep_cellS hk hne (q3 k s hs).1, keep_cellS hk hne (q3 k s hs).2.1, keep_cellS hk hne (q3 k s hs).2.2⟩⟩
theorem SpRow.keep {w w' : World} {v : Value} {ss : List Sp} (h : SpRow w v ss) (hk : Keep noBlock w w') : SpRow w' v ss := by
 obtain ⟨sa, cap, e, hr⟩ := h.form
 refine ⟨sa, cap, e, ?_⟩
 rcases hr with q | ⟨g, q1, q2, q3⟩
 ·exact .inl q
 ·exact .inr ⟨g, q1, Nat.lt_of_lt_of_le q2 hk.size, fun k s hs => ⟨keep_cell0 hk (q3 k s hs).1, keep_cell0 hk (q3 k s hs).2.1, keep_cell0 hk (q3 k s hs).2.2⟩⟩
/-- Behind both Reads. -/
structure R4S (w w1 W5 : World) (tb : Nat) (v s0 s1 s2 : Value) (ss : List Sp) (y0 y1 y2 : Option Tb) : Prop where
 ob : W5.heap[tb]? = some (.cells #[s0, s1, s2] 38 (0, 0))
 kp : Keep noBlock w1 W5
 row : SpRow W5 v ss
 t0 : IsTs W5 s0 y0
 t1 : IsTs W5 s1 y1
 t2 : IsTs W5 s2 y2
 good : GoodO 0 y0 ∧ GoodO 1 y1 ∧ GoodO 2 y2
 nv : NwS w.heap.size v
 n0 : NwS w.heap.size s0
 n1 : NwS w.heap.size s1
 n2 : NwS w.heap.size s2
 tb : w1.heap.size ≤ tb
def z38 : Array Value := #[.slice none 0 0, .slice none 0 0, .slice none 0 0]
theorem st38 {W : World} {tb : Nat} (h : W.heap[tb]? = some (.cells z38 38 (0, 0))) (a0 a1 a2 : Option Addr) (n0 n1 n2 c0 c1 c2 : Nat) :
  W.there tb 0 (#[.slice a0 n0 c0, .slice a1 n1 c1, .slice a2 n2 c2] : Array Value).size ∧ (Tryz.prog.info? 38).map (·.size) = some (#[.slice a0 n0 c0, .slice a1 n1 c1, .slice a2 n2 c2] : Array Value).size ∧ (#[.slice a0 n0 c0, .slice a1 n1 c1, .slice a2 n2 c2] : Array Value).all (·.oneCell') = true ∧
  (W.setCells tb 0 [.slice a0 n0 c0, .slice a1 n1 c1, .slice a2 n2 c2]).heap[tb]? = some (.cells #[.slice a0 n0 c0, .slice a1 n1 c1, .slice a2 n2 c2] 38 (0, 0)) ∧ Keep (fun k => k = tb) W (W.setCells tb 0 [.slice a0 n0 c0, .slice a1 n1 c1, .slice a2 n2 c2]) ∧ W.cell? ⟨tb, 0, none⟩ = some (.slice none 0 0) :=
 ⟨fun j hj => ⟨by have hj3 : j < 3 := hj; rw [cell_of h, Array.getElem?_eq_getElem (by show 0 + j < 3; omega)]; rfl, frozen_of h _⟩, (by kernel_rfl : (Tryz.prog.info? 38).map (·.size) = some 3), all_oneCell_toArray (fun v hv => by simp only [List.mem_cons, List.not_mem_nil, or_false] at hv; rcases hv with rfl | rfl | rfl <;> rfl),
  setCells_obj tb 38 [.slice a0 n0 c0, .slice a1 n1 c1, .slice a2 n2 c2] 0 _ W h, keep_setCells (S := fun k => k = tb) tb (fun _ => rfl) _ _ _ (Keep.refl _ W), cell_of h 0⟩
section
variable {P : Program} {ops : Array Oper} {Q : Exit → Act → World → Prop} {md : Region.Mode} {S : World → Prop} {z : Nat}
theorem last_two {i j : Nat} {oi oj : Oper} {n : Nat} {listed : Array Bool} {a : Act} {w : World} (hr : Region.ready md ops listed = [i, j]) (hoi : ops[i]? = some oi) (hoj : ops[j]? = some oj)
  (h1 : ∀ K' : Act → World → Prop, Shut (∀ a' w', (i ≠ z → S w') → wpLast P md ops Q S z n (listed.setIfInBounds i true) a' w' → K' a' w') → if Region.wanted oi (yielded ops a.tmps) = true then Oper.wp P oi a w K' Q else K' (a.put oi.dst undef) w)
  (h2 : ∀ K' : Act → World → Prop, Shut (∀ a' w', (j ≠ z → S w') → wpLast P md ops Q S z n (listed.setIfInBounds j true) a' w' → K' a' w') → if Region.wanted oj (yielded ops a.tmps) = true then Oper.wp P oj a w K' Q else K' (a.put oj.dst undef) w) : wpLast P md ops Q S z (n + 1) listed a w := by
 refine ⟨fun e => (by rw [hr] at e; cases e), fun k hk => ?_⟩
 rw [hr] at hk
 rcases List.mem_cons.1 hk with rfl | hk
 ·exact wpOp_step hoi (fun K' hK => h1 K' (fun a' w' q1 q2 => hK a' w' ⟨q2, q1⟩))
 ·obtain rfl : k = j := by simpa using hk
  exact wpOp_step hoj (fun K' hK => h2 K' (fun a' w' q1 q2 => hK a' w' ⟨q2, q1⟩))
end
theorem stN_len {B : List Nat} {T : Nat → Tb} : ∀ (k : Nat) (r : Rs) (σ : Nat → Nat) (l R : List Sp), stN B T k r σ l = some R → R.length = l.length + k
  | 0, r, σ, l, R, h => by cases h
  | k + 1, r, σ, l, R, h => by
    have h' : (if k = 0 then (if (exR T σ r 3).left = 0 then some (l ++ [oneS B T σ r]) else none) else match nxS B T σ (exR T σ r 3) 3 with
      | none => none
      | some (q, τ) => stN B T k q τ (l ++ [oneS B T σ r])) = some R := h
    split at h'
    · rename_i hk
      split at h'
      · cases h'; rw [List.length_append, hk]; rfl
      · cases h'
    · cases hn : nxS B T σ (exR T σ r 3) 3 with
      | none => rw [hn] at h'; cases h'
      | some p =>
        obtain ⟨q, τ⟩ := p
        rw [hn] at h'
        rw [stN_len k q τ _ R h', List.length_append]
        show l.length + 1 + k = _
        omega
theorem seqR_len {bs : List Nat} {t0 t1 t2 a b c : Option Tb} {l : List Sp} (hb : ∀ j : Nat, bs[j]?.getD 0 < 256) (h : seqR Ω bs t0 t1 t2 = some (l, a, b, c)) : l.length ≤ 100000 := by
 unfold seqR at h
 split at h
 ·cases h
 ·rename_i n r hnm
  have hn := (numS_lt hb hnm).1
  split at h
  ·split at h
   ·cases h; exact Nat.zero_le _
   ·cases h
  ·split at h
   ·cases h
   ·split at h
    ·cases h
    ·rename_i T r2 htb l' hst
     cases h
     unfold stepsN at hst
     split at hst
     ·cases hst
     ·have := stN_len _ _ _ _ _ hst
      simp at this
      omega
def LpS (W7 : World) (fb : Nat) (F' : Fr) (s0 s1 s2 wsv ov : Value) (lg en : Nat) (ss : List Sp) (R : Option Fr) (out0 : List Nat) (i : Nat) (pa : Option Addr) (pn pc : Nat) (wr : World) : Prop :=
  ∃ (p0 p1 p2 : Int) (o : List Nat) (ov1 : Value) (ls : List Nat) (po : Nat), pn = ls.length ∧ IsFr wr fb (fr4 F' p0 p1 p2 o) s0 s1 s2 wsv ov1 ∧ OutF wr ov1 o ∧ CoS W7 wr fb ov ov1 ∧ Bytes W7 pa pc lg po ls ∧ stepsP (fr4 F' p0 p1 p2 o) ls en (ss.drop i) = R ∧ o.length ≤ en ∧ out0 <+: o ∧
    p0 ≤ 4611686018427387904 ∧ p1 ≤ 4611686018427387904 ∧ p2 ≤ 4611686018427387904
/-- What lies where the steps begin. -/
structure L7 (W5 W7 : World) (fb : Nat) (F' : Fr) (s0 s1 s2 wsv ov : Value) (lg en : Nat) (ss : List Sp) (sa : Option Addr) : Prop where
 row : ss = [] ∨ ∃ g, sa = some ⟨g, 0, none⟩ ∧ g < W7.heap.size ∧ g ≠ fb ∧ ov.ownBlock ≠ some g ∧ ∀ k s, ss[k]? = some s → W7.cell? ⟨g, k * 3, none⟩ = some (.int .i64 (s.1 : Int)) ∧ W7.cell? ⟨g, k * 3 + 1, none⟩ = some (.int .i64 (s.2.1 : Int)) ∧ W7.cell? ⟨g, k * 3 + 2, none⟩ = some (.int .i64 (s.2.2 : Int))
 lf : lg ≠ fb
 lo : ov.ownBlock ≠ some lg
 ne : ov.ownBlock ≠ some fb
 fl : fb < W7.heap.size
 ok : ∀ s ∈ ss, SpOk s
 en : en ≤ 16908288
 win : F'.win < 18446744073709551616
 kt : Keep (fun k => k = fb) W5 W7
theorem cos_out {W7 wr : World} {fb : Nat} {ov ov1 : Value} {k : Nat} (h : CoS W7 wr fb ov ov1) (h1 : k ≠ fb) (h2 : ov.ownBlock ≠ some k) : ¬ (k = fb ∨ ov.ownBlock = some k) := fun e => e.elim h1 h2
theorem stepsP_nil {f : Fr} {ls : List Nat} {en : Nat} : stepsP f ls en [] = if (f.out ++ ls).length ≤ en then some { f with out := f.out ++ ls } else none := rfl
theorem stepsP_cons {f : Fr} {ls : List Nat} {en : Nat} {s : Sp} {ss : List Sp} : stepsP f ls en (s :: ss) = if ls.length < s.1 then none else if (en : Int) - ((f.out ++ ls.take s.1).length : Int) < (s.2.1 : Int) then none else match copyP { f with out := f.out ++ ls.take s.1 } s with
   | none => none
   | some f2 => stepsP f2 (ls.drop s.1) en ss := rfl
section
attribute [local go_sem] sliceSem_eq
set_option maxRecDepth 100000 in
set_option maxHeartbeats 16000000 in
theorem unpackZ_any {w : World} {fb : Nat} {F : Fr} {x0 x1 x2 : Value} {aw : Option Addr} {cw gw ow : Nat} {ov : Value} (h : IsF w fb F x0 x1 x2 aw cw gw ow ov) (hFm : Frm w) (hOr : Ords w) (hl0 : F.out.length ≤ 16777216)
    (a : Option Addr) (cap gb off : Nat) (bs : List Nat) (hB : Bytes w a cap gb off bs) (hl : bs.length ≤ 131072) (hg : gb < w.heap.size) :
    Calls Tryz.prog 15 #[.pointer (some ⟨fb, 0, none⟩), .slice a bs.length cap] w fun e w' => UnP w fb F ov (unpackP (orc Ω Δ) F bs) e w' := by
  obtain ⟨a0, n0, c0, rfl⟩ := h.t0.shape
  obtain ⟨a1, n1, c1, rfl⟩ := h.t1.shape
  obtain ⟨a2, n2, c2, rfl⟩ := h.t2.shape
  have HI := hid h
  obtain ⟨r1, r2⟩ := rd_spec Δ (bodyN bs)
  have hco : rdA Δ (bodyN bs) = 0 → rdB Δ (bodyN bs) ≤ (bodyN bs).length ∧ (rdV Δ (bodyN bs)).length ≤ 256 ∧ ∀ j : Nat, (rdV Δ (bodyN bs))[j]?.getD 0 < 256 := fun e => ⟨(r1 e).1, code_ok (r1 e).2⟩
  have kd : Keep noBlock w w.drew := (Keep.refl noBlock w).drew
  have hws := h.ok.ws
  have hlr := readL_any a cap gb off bs aw cw gw ow F.ws ((mostF F : Nat) : Int) _ _ _ w.drew (hFm.keep kd) (hB.keep kd (fun _ h => h)) (h.bw.keep kd (fun _ h => h)) (by omega) r2 hco
  have hlo : litO Δ bs F.ws (mostF F) = if (litR (rdA Δ (bodyN bs)) (rdB Δ (bodyN bs)) (rdV Δ (bodyN bs)) bs F.ws ((mostF F : Nat) : Int)).1 = 0 then some (litR (rdA Δ (bodyN bs)) (rdB Δ (bodyN bs)) (rdV Δ (bodyN bs)) bs F.ws ((mostF F : Nat) : Int)).2 else none := rfl
  generalize litR (rdA Δ (bodyN bs)) (rdB Δ (bodyN bs)) (rdV Δ (bodyN bs)) bs F.ws ((mostF F : Nat) : Int) = r at hlr hlo
  obtain ⟨ec, l, nw, u⟩ := r
  dsimp only at hlo
  have HM := (show Hid (Calls Tryz.prog 27 #[.pointer (some ⟨fb, 0, none⟩)] w.drew fun e w' => e = .returned (.int .i64 ((mostF F : Nat) : Int)) ∧ w' = w.drew) from most_any (IsFr.keep h.fr kd (fun h => h)) h.ok.win)
  have HLO := hid hlo
  have HL := (show Hid (Calls Tryz.prog 31 #[.slice a bs.length cap, .slice aw F.ws.length cw, .int .i64 ((mostF F : Nat) : Int)] w.drew fun e w' => ∃ la ln lc na nn nc ecI, e = .returned (.tuple #[.slice la ln lc, .slice na nn nc, .int .i64 (u : Int), .int .i64 ecI]) ∧
      Hid (ecI = (ec : Int) ∧ Keep noBlock w w' ∧ ∃ lg lo ng no, ln = l.length ∧ nn = nw.length ∧ Bytes w' la lc lg lo l ∧ Bytes w' na nc ng no nw ∧ w.heap.size ≤ lg ∧ w.heap.size ≤ ng)) from hlr.mono (by
    rintro e w' ⟨k1, la, ln, lc, lg, lo, na, nn, nc, ng, no, rfl, q1, q2, q3, q4, q5, q6⟩
    exact ⟨la, ln, lc, na, nn, nc, _, rfl, rfl, kd.trans' k1, lg, lo, ng, no, q1, q2, q3, q4, q5, q6⟩))
  have HS := (show Hid (w.drew.cell? ⟨fb, 7, none⟩ = some (.slice aw F.ws.length cw)) from cell_of h.fr 7)
  have HH := (show Hid (Frm w ∧ Ords w ∧ F.out.length ≤ 16777216 ∧ Bytes w a cap gb off bs ∧ bs.length ≤ 131072 ∧ (bs ≠ [] → ∀ p, a = some p → p.block < w.heap.size) ∧ gb < w.heap.size) from ⟨hFm, hOr, hl0, hB, hl, fun hne p hp => by rcases hB.at_ with e | e; (rw [hp] at e; cases e; exact hg); exact (hne e).elim, hg⟩)
  obtain ⟨R, hR⟩ : ∃ R, R = unpackP (orc Ω Δ) F bs := ⟨_, rfl⟩
  rw [← hR]
  have HR := hid hR
  obtain ⟨m, hm⟩ : ∃ m, m = mostF F := ⟨_, rfl⟩
  have hmI : (m : Int) ≤ 131072 := by rw [hm]; unfold mostF; omega
  rw [← hm] at HM HL HLO
  have HMm := hid hm
  clear hm
  obtain ⟨nW, hnW⟩ : ∃ nW, nW = F.ws.length := ⟨_, rfl⟩
  obtain ⟨N, hN⟩ : ∃ N, N = bs.length := ⟨_, rfl⟩
  rw [← hnW] at HL HS
  rw [← hN] at HL ⊢
  have HN := hid (And.intro hN hnW)
  clear h hFm hOr hl0 hB hl hg r1 r2 hco kd hws hlr hlo hR hnW hN
  go_enter Tryz.func15, Tryz.ntmps15
  go_wp2_with fail
  refine region_last (fun W => W.cell? ⟨fb, 7, none⟩ = some (.slice aw nW cw)) 16 mx HS.out (fun hS => ?_)
  refine tk (i := 0) (v := ?_) rfl (by kernel_rfl) (fun _ _ _ h => h) (by rfl) ?_ (by assumption) ?_
  rotate_left 1
  · intro w hSw; (try dsimp only at hSw); (go_simp <;> with_reducible rfl)
  simp only [Act.put, tA, tB, tD, tE, tF]
  refine tk (i := 1) (v := ?_) rfl (by kernel_rfl) (fun _ _ _ h => h) (by rfl) ?_ (by assumption) ?_
  rotate_left 1
  · intro w hSw; (try dsimp only at hSw); (go_simp <;> with_reducible rfl)
  simp only [Act.put, tA, tB, tC, tD, tE, tF]
  refine tk (i := 2) (v := ?_) rfl (by kernel_rfl) (fun _ _ _ h => h) (by rfl) ?_ (by assumption) ?_
  rotate_left 1
  · intro w hSw; (try dsimp only at hSw); (go_simp <;> with_reducible rfl)
  simp only [Act.put, tA, tB, tC, tD, tE, tF]
  refine tk (i := 3) (v := ?_) rfl (by kernel_rfl) (fun _ _ _ h => h) (by rfl) ?_ (by assumption) ?_
  rotate_left 1
  · intro w hSw; (try dsimp only at hSw); (go_simp <;> with_reducible rfl)
  simp only [Act.put, tA, tB, tC, tD, tE, tF]
  refine tk (i := 4) (v := ?_) rfl (by kernel_rfl) (fun _ _ _ h => h) (by rfl) ?_ (by assumption) ?_
  rotate_left 1
  · intro w hSw; (try dsimp only at hSw); (go_simp <;> with_reducible rfl)
  simp only [Act.put, tA, tB, tC, tD, tE, tF]
  refine tk (i := 5) (v := ?_) rfl (by kernel_rfl) (fun _ _ _ h => h) (by rfl) ?_ (by assumption) ?_
  rotate_left 1
  · intro w hSw; (try dsimp only at hSw); (go_simp <;> with_reducible rfl)
  simp only [Act.put, tA, tB, tC, tD, tE, tF]
  refine last_one (j := 6) (by kernel_rfl) rfl (fun K hK => ?_)
  rw [if_pos (by rfl)]
  simp only [tA, tB, tC]
  go_simp
  refine HM.out.mono ?_
  rintro e w1 ⟨rfl, rfl⟩
  refine hK.out _ _ (fun _ => HS.out) ?_
  clear hK K
  refine last_one (j := 7) (by kernel_rfl) rfl (fun K hK => ?_)
  rw [if_pos (by rfl)]
  simp only [tA, tB, tC]
  go_simp
  refine HL.out.mono ?_
  rintro e w1 ⟨la, ln, lc, na, nn, nc, ecI, rfl, HL1⟩
  have HS1 := (show Hid (w1.cell? ⟨fb, 7, none⟩ = some (.slice aw nW cw)) from keep_cell0 HL1.out.2.1 HS.out)
  refine hK.out _ _ (fun _ => HS1.out) ?_
  clear hK K
  refine last_one (j := 8) (by kernel_rfl) rfl (fun K hK => ?_)
  rw [if_pos (by rfl)]
  simp only [tA, tB, tC]
  go_simp
  refine hK.out _ _ (fun _ => HS1.out) ?_
  clear hK K
  refine tk (i := 9) (v := ?_) rfl (by kernel_rfl) (fun _ _ _ h => h) (by rfl) ?_ (by assumption) ?_
  rotate_left 1
  · intro w hSw; (try dsimp only at hSw); (go_simp <;> with_reducible rfl)
  simp only [Act.put, tA, tB, tC, tD, tE, tF]
  refine tk (i := 10) (v := ?_) rfl (by kernel_rfl) (fun _ _ _ h => h) (by rfl) ?_ (by assumption) ?_
  rotate_left 1
  · intro w hSw; (try dsimp only at hSw); (go_simp <;> with_reducible rfl)
  simp only [Act.put, tA, tB, tC, tD, tE, tF]
  refine tk (i := 11) (v := ?_) rfl (by kernel_rfl) (fun _ _ _ h => h) (by rfl) ?_ (by assumption) ?_
  rotate_left 1
  · intro w hSw; (try dsimp only at hSw); (go_simp <;> with_reducible rfl)
  simp only [Act.put, tA, tB, tC, tD, tE, tF]
  refine tk (i := 12) (v := ?_) rfl (by kernel_rfl) (fun _ _ _ h => h) (by rfl) ?_ (by assumption) ?_
  rotate_left 1
  · intro w hSw; (try dsimp only at hSw); (go_simp <;> with_reducible rfl)
  simp only [Act.put, tA, tB, tC, tD, tE, tF]
  refine last_one (j := 13) (by kernel_rfl) rfl (fun K hK => ?_)
  rw [if_pos (by rfl)]
  simp only [tA, tB, tC]
  go_simp
  refine hK.out _ _ (fun _ => HS1.out) ?_
  clear hK K
  refine last_one (j := 14) (by kernel_rfl) rfl (fun K hK => ?_)
  rw [if_pos (by rfl)]
  simp only [tA, tB, tC]
  go_simp
  refine hK.out _ _ (fun _ => HS1.out) ?_
  clear hK K
  refine last_one (j := 15) (by kernel_rfl) rfl (fun K hK => ?_)
  rw [if_pos (by rfl)]
  simp only [tA, tB, tC]
  go_simp
  refine hK.out _ _ (fun _ => HS1.out) ?_
  clear hK K
  refine last_one (j := 16) (by kernel_rfl) rfl (fun K hK => ?_)
  rw [if_pos (by rfl)]
  simp only [tA, tB, tC]
  go_simp
  refine hK.out _ _ (fun e => absurd rfl e) ?_
  clear hK K
  refine last_done (by kernel_rfl) ?_ _
  clear HS HM HL hS HS1
  by_cases hec : ec = 0
  · obtain rfl : ecI = 0 := by have := HL1.out.1; omega
    have HLs := hid (HLO.out.trans (if_pos hec))
    obtain ⟨-, k1, lg, lo, ng, no, hln, hnn, bl, bn, hlg, hng⟩ := HL1.out
    obtain ⟨hl1, hl2, hl3⟩ := litO_ok (by omega) HH.out.2.2.2.2.1 HI.out.ok.ws HLs.out
    obtain ⟨a', off', hsl, hdB, -⟩ := HH.out.2.2.2.1.drop u hl3
    have hpd := drop_block hl3 hsl w
    have HQ := (show Hid (∀ X, Keep noBlock w X → Calls Tryz.prog 32 #[.slice a' (bs.drop u).length (cap - u), .agg #[.slice a0 n0 c0, .slice a1 n1 c1, .slice a2 n2 c2]] X fun e w' => SqAns X (seqR Ω (bs.drop u) F.t0 F.t1 F.t2) e w') from fun X hk =>
      readS_all X a' (cap - u) gb off' (bs.drop u) a0 a1 a2 n0 n1 n2 c0 c1 c2 F.t0 F.t1 F.t2 (hdB.keep hk (fun _ h => h)) (fun p hp => by
        obtain ⟨q, hq, hb⟩ := hpd p hp
        have := HH.out.2.2.2.2.2.1 (fun e => litO_ne e HLs.out) q hq
        have := hk.size
        omega) (Nat.lt_of_lt_of_le HH.out.2.2.2.2.2.2 hk.size) (by rw [List.length_drop]; have := HH.out.2.2.2.2.1; omega) (HH.out.2.1.keep hk (fun h => h) (fun h => h)) (HI.out.t0.keep hk) (HI.out.t1.keep hk) (HI.out.t2.keep hk) HI.out.ok.g0 HI.out.ok.g1 HI.out.ok.g2)
    rw [← HN.out.1] at hsl
    have HU := (show Hid (l.length ≤ 524304 ∧ nw.length ≤ 256 ∧ u ≤ bs.length) from ⟨hl1, hl2, hl3⟩)
    have HK1 := hid k1
    have HLB := (show Hid (Bytes w1 la lc lg lo l ∧ Bytes w1 na nc ng no nw ∧ w.heap.size ≤ lg ∧ w.heap.size ≤ ng ∧ ln = l.length ∧ nn = nw.length) from ⟨bl, bn, hlg, hng, hln, hnn⟩)
    have hS4 : ∀ W, Keep noBlock w1 W → W.cell? ⟨fb, 4, none⟩ = some (.slice a0 n0 c0) ∧ W.cell? ⟨fb, 5, none⟩ = some (.slice a1 n1 c1) ∧ W.cell? ⟨fb, 6, none⟩ = some (.slice a2 n2 c2) := fun W hk => by
      have := IsFr.keep HI.out.fr (k1.trans' hk) (fun h => h)
      exact ⟨cell_of this 4, cell_of this 5, cell_of this 6⟩
    have HS4 := hid hS4
    have hul : (u : Int) ≤ (N : Int) := by have := HN.out.1; omega
    generalize (bs.drop u).length = Nd at *
    clear hl1 hl2 hl3 hdB hpd k1 bl bn hlg hng hln hnn hS4 HL1 hec
    cases hq : seqR Ω (bs.drop u) F.t0 F.t1 F.t2 with
    | none =>
      rw [hq] at HQ
      go_wp2_with fail
      apply one_wayZ
      · intro tail
        refine region_last (fun W => W.cell? ⟨fb, 4, none⟩ = some (.slice a0 n0 c0) ∧ W.cell? ⟨fb, 5, none⟩ = some (.slice a1 n1 c1) ∧ W.cell? ⟨fb, 6, none⟩ = some (.slice a2 n2 c2)) 15 mx (HS4.out _ (Keep.refl _ w1).drew) (fun hS => ?_)
        refine tk (i := 0) (v := ?_) rfl (by kernel_rfl) (fun _ _ _ h => h) (by rfl) ?_ (by assumption) ?_
        rotate_left 1
        · intro w hSw; (try dsimp only at hSw); (try obtain ⟨hSw1, hSw2, hSw3⟩ := hSw); (go_simp <;> with_reducible rfl)
        simp only [Act.put, tA, tB, tD, tE, tF]
        refine tk (i := 1) (v := ?_) rfl (by kernel_rfl) (fun _ _ _ h => h) (by rfl) ?_ (by assumption) ?_
        rotate_left 1
        · intro w hSw; (try dsimp only at hSw); (try obtain ⟨hSw1, hSw2, hSw3⟩ := hSw); (go_simp <;> with_reducible rfl)
        simp only [Act.put, tA, tB, tC, tD, tE, tF]
        refine tk (i := 2) (v := ?_) rfl (by kernel_rfl) (fun _ _ _ h => h) (by rfl) ?_ (by assumption) ?_
        rotate_left 1
        · intro w hSw; (try dsimp only at hSw); (try obtain ⟨hSw1, hSw2, hSw3⟩ := hSw); (go_simp <;> with_reducible rfl)
        simp only [Act.put, tA, tB, tC, tD, tE, tF]
        refine tk (i := 3) (v := ?_) rfl (by kernel_rfl) (fun _ _ _ h => h) (by rfl) ?_ (by assumption) ?_
        rotate_left 1
        · intro w hSw; (try dsimp only at hSw); (try obtain ⟨hSw1, hSw2, hSw3⟩ := hSw); (go_simp <;> with_reducible rfl)
        simp only [Act.put, tA, tB, tC, tD, tE, tF]
        refine tk (i := 4) (v := ?_) rfl (by kernel_rfl) (fun _ _ _ h => h) (by rfl) ?_ (by assumption) ?_
        rotate_left 1
        · intro w hSw; (try dsimp only at hSw); (try obtain ⟨hSw1, hSw2, hSw3⟩ := hSw); (go_simp <;> with_reducible rfl)
        simp only [Act.put, tA, tB, tC, tD, tE, tF]
        refine tk (i := 5) (v := ?_) rfl (by kernel_rfl) (fun _ _ _ h => h) (by rfl) ?_ (by assumption) ?_
        rotate_left 1
        · intro w hSw; (try dsimp only at hSw); (try obtain ⟨hSw1, hSw2, hSw3⟩ := hSw); (go_simp <;> with_reducible rfl)
        simp only [Act.put, tA, tB, tC, tD, tE, tF]
        refine tk (i := 6) (v := ?_) rfl (by kernel_rfl) (fun _ _ _ h => h) (by rfl) ?_ (by assumption) ?_
        rotate_left 1
        · intro w hSw; (try dsimp only at hSw); (try obtain ⟨hSw1, hSw2, hSw3⟩ := hSw); (go_simp <;> with_reducible rfl)
        simp only [Act.put, tA, tB, tC, tD, tE, tF]
        refine last_two (i := 7) (j := 12) (by kernel_rfl) rfl rfl (fun K hK => ?_) (fun K hK => ?_)
        · rw [if_pos (by rfl)]
          simp only [tA, tB, tC]
          go_simp
          refine (HQ.out w1.drew (HK1.out.drew)).mono ?_
          rintro e w3 ⟨k3', v, c, hc, rfl⟩; have HA := hid (And.intro k3' hc); clear k3' hc
          have k3 : Keep noBlock w1 w3 := (Keep.refl _ w1).drew.trans' HA.out.1
          refine hK.out _ _ (fun _ => HS4.out _ k3) ?_
          clear hK K
          have hS3 := HS4.out _ k3
          refine tk (i := 8) (v := ?_) rfl (by kernel_rfl) (fun _ _ _ h => h) (by rfl) ?_ (by assumption) ?_
          rotate_left 1
          · intro w hSw; (try dsimp only at hSw); (try obtain ⟨hSw1, hSw2, hSw3⟩ := hSw); (go_simp <;> with_reducible rfl)
          simp only [Act.put, tA, tB, tC, tD, tE, tF]
          refine tk (i := 9) (v := ?_) rfl (by kernel_rfl) (fun _ _ _ h => h) (by rfl) ?_ (by assumption) ?_
          rotate_left 1
          · intro w hSw; (try dsimp only at hSw); (try obtain ⟨hSw1, hSw2, hSw3⟩ := hSw); (go_simp <;> with_reducible rfl)
          simp only [Act.put, tA, tB, tC, tD, tE, tF]
          refine tk (i := 10) (v := ?_) rfl (by kernel_rfl) (fun _ _ _ h => h) (by rfl) ?_ (by assumption) ?_
          rotate_left 1
          · intro w hSw; (try dsimp only at hSw); (try obtain ⟨hSw1, hSw2, hSw3⟩ := hSw); (go_simp <;> with_reducible rfl)
          simp only [Act.put, tA, tB, tC, tD, tE, tF]
          refine tk (i := 11) (v := ?_) rfl (by kernel_rfl) (fun _ _ _ h => h) (by rfl) ?_ (by assumption) ?_
          rotate_left 1
          · intro w hSw; (try dsimp only at hSw); (try obtain ⟨hSw1, hSw2, hSw3⟩ := hSw); (go_simp <;> with_reducible rfl)
          simp only [Act.put, tA, tB, tC, tD, tE, tF]
          clear hS3
          have hz := alloc_new w3 (.cells z38 38)
          have k4 : Keep noBlock w1 (w3.alloc (.cells z38 38)) := k3.alloc _
          obtain ⟨q1, q2, q3, q4, q5, q6⟩ := st38 hz none none none 0 0 0 0 0 0
          have kA := (Keep.refl noBlock w3).alloc (.cells z38 38)
          unfold z38 at hz k4 q1 q4 q5 q6 kA
          refine last_one (j := 12) (by kernel_rfl) rfl (fun K hK => ?_)
          rw [if_pos (by rfl)]
          simp only [tA, tB, tC]
          go_simp
          refine hK.out _ _ (fun _ => HS4.out _ k4) ?_
          clear hK K
          refine last_one (j := 13) (by kernel_rfl) rfl (fun K hK => ?_)
          rw [if_pos (by rfl)]
          simp only [tA, tB, tC]
          go_simp
          refine hK.out _ _ (fun _ => HS4.out _ k4) ?_
          clear hK K
          refine last_one (j := 14) (by kernel_rfl) rfl (fun K hK => ?_)
          rw [if_pos (by rfl)]
          refine wp_store_mid 38 (.tmp 10) (.tmp 39) rfl w3.heap.size 0 #[.slice none 0 0, .slice none 0 0, .slice none 0 0] rfl rfl q1 q2 q3 ?_
          have k5 := k4.trans q5 (fun j hj e => by have := k3.size; omega)
          refine hK.out _ _ (fun _ => HS4.out _ k5) ?_
          clear hK K
          refine last_one (j := 15) (by kernel_rfl) rfl (fun K hK => ?_)
          rw [if_pos (by rfl)]
          simp only [tA, tB, tC]
          go_simp
          refine hK.out _ _ (fun e => absurd rfl e) ?_
          clear hK K
          refine last_done (by kernel_rfl) ?_ _
          have HT5 := hid (And.intro k5 HA.out.2)
          clear HA k3 k4 k5 q1 q2 q3 q4 q5 q6 hz kA hS
          generalize (w3.alloc (.cells #[.slice none 0 0, .slice none 0 0, .slice none 0 0] 38)).setCells w3.heap.size 0 [.slice none 0 0, .slice none 0 0, .slice none 0 0] = W5 at *
          generalize w3.heap.size = tb at *
          revert HT5 tb W5 c v
          exact tail.out
        · rw [if_pos (by rfl)]
          simp only [tA, tB, tC]
          go_simp
          have k2 : Keep noBlock w1 (w1.drew.alloc (.cells z38 38)) := (Keep.refl _ w1).drew.alloc _
          have hz0 := alloc_new w1.drew (.cells z38 38)
          unfold z38 at k2 hz0
          refine hK.out _ _ (fun _ => HS4.out _ k2) ?_
          clear hK K
          refine last_one (j := 7) (by kernel_rfl) rfl (fun K hK => ?_)
          rw [if_pos (by rfl)]
          simp only [tA, tB, tC]
          go_simp
          refine (HQ.out _ (HK1.out.trans' k2)).mono ?_
          rintro e w3 ⟨k3', v, c, hc, rfl⟩; have HA := hid (And.intro k3' hc); clear k3' hc
          have k3 : Keep noBlock w1 w3 := k2.trans' HA.out.1
          refine hK.out _ _ (fun _ => HS4.out _ k3) ?_
          clear hK K
          have hS3 := HS4.out _ k3
          refine tk (i := 8) (v := ?_) rfl (by kernel_rfl) (fun _ _ _ h => h) (by rfl) ?_ (by assumption) ?_
          rotate_left 1
          · intro w hSw; (try dsimp only at hSw); (try obtain ⟨hSw1, hSw2, hSw3⟩ := hSw); (go_simp <;> with_reducible rfl)
          simp only [Act.put, tA, tB, tC, tD, tE, tF]
          refine tk (i := 9) (v := ?_) rfl (by kernel_rfl) (fun _ _ _ h => h) (by rfl) ?_ (by assumption) ?_
          rotate_left 1
          · intro w hSw; (try dsimp only at hSw); (try obtain ⟨hSw1, hSw2, hSw3⟩ := hSw); (go_simp <;> with_reducible rfl)
          simp only [Act.put, tA, tB, tC, tD, tE, tF]
          refine tk (i := 10) (v := ?_) rfl (by kernel_rfl) (fun _ _ _ h => h) (by rfl) ?_ (by assumption) ?_
          rotate_left 1
          · intro w hSw; (try dsimp only at hSw); (try obtain ⟨hSw1, hSw2, hSw3⟩ := hSw); (go_simp <;> with_reducible rfl)
          simp only [Act.put, tA, tB, tC, tD, tE, tF]
          refine tk (i := 11) (v := ?_) rfl (by kernel_rfl) (fun _ _ _ h => h) (by rfl) ?_ (by assumption) ?_
          rotate_left 1
          · intro w hSw; (try dsimp only at hSw); (try obtain ⟨hSw1, hSw2, hSw3⟩ := hSw); (go_simp <;> with_reducible rfl)
          simp only [Act.put, tA, tB, tC, tD, tE, tF]
          clear hS3
          refine last_one (j := 13) (by kernel_rfl) rfl (fun K hK => ?_)
          rw [if_pos (by rfl)]
          simp only [tA, tB, tC]
          go_simp
          refine hK.out _ _ (fun _ => HS4.out _ k3) ?_
          clear hK K
          have hz : w3.heap[w1.heap.size]? = some (.cells z38 38 (0, 0)) := HA.out.1.obj hz0 (fun h => h)
          obtain ⟨q1, q2, q3, q4, q5, q6⟩ := st38 hz none none none 0 0 0 0 0 0
          refine last_one (j := 14) (by kernel_rfl) rfl (fun K hK => ?_)
          rw [if_pos (by rfl)]
          refine wp_store_mid 38 (.tmp 10) (.tmp 39) rfl w1.heap.size 0 #[.slice none 0 0, .slice none 0 0, .slice none 0 0] rfl rfl q1 q2 q3 ?_
          have k5 := k3.trans q5 (fun j hj e => by omega)
          refine hK.out _ _ (fun _ => HS4.out _ k5) ?_
          clear hK K
          refine last_one (j := 15) (by kernel_rfl) rfl (fun K hK => ?_)
          rw [if_pos (by rfl)]
          simp only [tA, tB, tC]
          go_simp
          refine hK.out _ _ (fun e => absurd rfl e) ?_
          clear hK K
          refine last_done (by kernel_rfl) ?_ _
          have HT5 := hid (And.intro k5 HA.out.2)
          exact tail.out v c _ HT5 w1.heap.size
      · intro v c W5 HT5 tb
        have hcb : (c != 0) = true := by
          have := HT5.out.2
          simp; omega
        clear HS4 HQ hsl
        go_wp2_with fail
        go_ret
        have hRn : R = none := by
          rw [HR.out]
          refine unpackP_n2 (l := l) (nw := nw) ?_ hq
          rw [← HMm.out]
          exact HLs.out
        rw [hRn]
        have k1 := HK1.out.trans' HT5.out.1
        exact ⟨rfl, F, _, _, _, _, ov, IsFr.keep HI.out.fr k1 (fun h => h), HI.out.out.keep k1 (fun _ _ h => h), List.prefix_refl _, (CoS.refl w fb ov).quiet k1⟩
    | some q =>
      obtain ⟨ss, y0, y1, y2⟩ := q
      rw [hq] at HQ
      go_wp2_with fail
      apply one_wayZ
      · intro tail
        refine region_last (fun W => W.cell? ⟨fb, 4, none⟩ = some (.slice a0 n0 c0) ∧ W.cell? ⟨fb, 5, none⟩ = some (.slice a1 n1 c1) ∧ W.cell? ⟨fb, 6, none⟩ = some (.slice a2 n2 c2)) 15 mx (HS4.out _ (Keep.refl _ w1).drew) (fun hS => ?_)
        refine tk (i := 0) (v := ?_) rfl (by kernel_rfl) (fun _ _ _ h => h) (by rfl) ?_ (by assumption) ?_
        rotate_left 1
        · intro w hSw; (try dsimp only at hSw); (try obtain ⟨hSw1, hSw2, hSw3⟩ := hSw); (go_simp <;> with_reducible rfl)
        simp only [Act.put, tA, tB, tD, tE, tF]
        refine tk (i := 1) (v := ?_) rfl (by kernel_rfl) (fun _ _ _ h => h) (by rfl) ?_ (by assumption) ?_
        rotate_left 1
        · intro w hSw; (try dsimp only at hSw); (try obtain ⟨hSw1, hSw2, hSw3⟩ := hSw); (go_simp <;> with_reducible rfl)
        simp only [Act.put, tA, tB, tC, tD, tE, tF]
        refine tk (i := 2) (v := ?_) rfl (by kernel_rfl) (fun _ _ _ h => h) (by rfl) ?_ (by assumption) ?_
        rotate_left 1
        · intro w hSw; (try dsimp only at hSw); (try obtain ⟨hSw1, hSw2, hSw3⟩ := hSw); (go_simp <;> with_reducible rfl)
        simp only [Act.put, tA, tB, tC, tD, tE, tF]
        refine tk (i := 3) (v := ?_) rfl (by kernel_rfl) (fun _ _ _ h => h) (by rfl) ?_ (by assumption) ?_
        rotate_left 1
        · intro w hSw; (try dsimp only at hSw); (try obtain ⟨hSw1, hSw2, hSw3⟩ := hSw); (go_simp <;> with_reducible rfl)
        simp only [Act.put, tA, tB, tC, tD, tE, tF]
        refine tk (i := 4) (v := ?_) rfl (by kernel_rfl) (fun _ _ _ h => h) (by rfl) ?_ (by assumption) ?_
        rotate_left 1
        · intro w hSw; (try dsimp only at hSw); (try obtain ⟨hSw1, hSw2, hSw3⟩ := hSw); (go_simp <;> with_reducible rfl)
        simp only [Act.put, tA, tB, tC, tD, tE, tF]
        refine tk (i := 5) (v := ?_) rfl (by kernel_rfl) (fun _ _ _ h => h) (by rfl) ?_ (by assumption) ?_
        rotate_left 1
        · intro w hSw; (try dsimp only at hSw); (try obtain ⟨hSw1, hSw2, hSw3⟩ := hSw); (go_simp <;> with_reducible rfl)
        simp only [Act.put, tA, tB, tC, tD, tE, tF]
        refine tk (i := 6) (v := ?_) rfl (by kernel_rfl) (fun _ _ _ h => h) (by rfl) ?_ (by assumption) ?_
        rotate_left 1
        · intro w hSw; (try dsimp only at hSw); (try obtain ⟨hSw1, hSw2, hSw3⟩ := hSw); (go_simp <;> with_reducible rfl)
        simp only [Act.put, tA, tB, tC, tD, tE, tF]
        refine last_two (i := 7) (j := 12) (by kernel_rfl) rfl rfl (fun K hK => ?_) (fun K hK => ?_)
        · rw [if_pos (by rfl)]
          simp only [tA, tB, tC]
          go_simp
          refine (HQ.out w1.drew (HK1.out.drew)).mono ?_
          rintro e w3 ⟨k3', v, b0, m0, d0, b1, m1, d1, b2, m2, d2, rfl, p1, p2, p3, p4, p5, p6, p7, p8, p9⟩; have HA := (show Hid (Keep noBlock _ w3 ∧ SpRow w3 v ss ∧ IsTs w3 (.slice b0 m0 d0) y0 ∧ IsTs w3 (.slice b1 m1 d1) y1 ∧ IsTs w3 (.slice b2 m2 d2) y2 ∧ (GoodO 0 y0 ∧ GoodO 1 y1 ∧ GoodO 2 y2) ∧ NwS w.heap.size v ∧ NwS w.heap.size (.slice b0 m0 d0) ∧ NwS w.heap.size (.slice b1 m1 d1) ∧ NwS w.heap.size (.slice b2 m2 d2)) from ⟨k3', p1, p2, p3, p4, p5, nws_le p6 (HK1.out.size), nws_le p7 (HK1.out.size), nws_le p8 (HK1.out.size), nws_le p9 (HK1.out.size)⟩); clear k3' p1 p2 p3 p4 p5 p6 p7 p8 p9
          have k3 : Keep noBlock w1 w3 := (Keep.refl _ w1).drew.trans' HA.out.1
          refine hK.out _ _ (fun _ => HS4.out _ k3) ?_
          clear hK K
          have hS3 := HS4.out _ k3
          refine tk (i := 8) (v := ?_) rfl (by kernel_rfl) (fun _ _ _ h => h) (by rfl) ?_ (by assumption) ?_
          rotate_left 1
          · intro w hSw; (try dsimp only at hSw); (try obtain ⟨hSw1, hSw2, hSw3⟩ := hSw); (go_simp <;> with_reducible rfl)
          simp only [Act.put, tA, tB, tC, tD, tE, tF]
          refine tk (i := 9) (v := ?_) rfl (by kernel_rfl) (fun _ _ _ h => h) (by rfl) ?_ (by assumption) ?_
          rotate_left 1
          · intro w hSw; (try dsimp only at hSw); (try obtain ⟨hSw1, hSw2, hSw3⟩ := hSw); (go_simp <;> with_reducible rfl)
          simp only [Act.put, tA, tB, tC, tD, tE, tF]
          refine tk (i := 10) (v := ?_) rfl (by kernel_rfl) (fun _ _ _ h => h) (by rfl) ?_ (by assumption) ?_
          rotate_left 1
          · intro w hSw; (try dsimp only at hSw); (try obtain ⟨hSw1, hSw2, hSw3⟩ := hSw); (go_simp <;> with_reducible rfl)
          simp only [Act.put, tA, tB, tC, tD, tE, tF]
          refine tk (i := 11) (v := ?_) rfl (by kernel_rfl) (fun _ _ _ h => h) (by rfl) ?_ (by assumption) ?_
          rotate_left 1
          · intro w hSw; (try dsimp only at hSw); (try obtain ⟨hSw1, hSw2, hSw3⟩ := hSw); (go_simp <;> with_reducible rfl)
          simp only [Act.put, tA, tB, tC, tD, tE, tF]
          clear hS3
          have hz := alloc_new w3 (.cells z38 38)
          have k4 : Keep noBlock w1 (w3.alloc (.cells z38 38)) := k3.alloc _
          obtain ⟨q1, q2, q3, q4, q5, q6⟩ := st38 hz b0 b1 b2 m0 m1 m2 d0 d1 d2
          have kA := (Keep.refl noBlock w3).alloc (.cells z38 38)
          unfold z38 at hz k4 q1 q4 q5 q6 kA
          refine last_one (j := 12) (by kernel_rfl) rfl (fun K hK => ?_)
          rw [if_pos (by rfl)]
          simp only [tA, tB, tC]
          go_simp
          refine hK.out _ _ (fun _ => HS4.out _ k4) ?_
          clear hK K
          refine last_one (j := 13) (by kernel_rfl) rfl (fun K hK => ?_)
          rw [if_pos (by rfl)]
          simp only [tA, tB, tC]
          go_simp
          refine hK.out _ _ (fun _ => HS4.out _ k4) ?_
          clear hK K
          refine last_one (j := 14) (by kernel_rfl) rfl (fun K hK => ?_)
          rw [if_pos (by rfl)]
          refine wp_store_mid 38 (.tmp 10) (.tmp 39) rfl w3.heap.size 0 #[.slice b0 m0 d0, .slice b1 m1 d1, .slice b2 m2 d2] rfl rfl q1 q2 q3 ?_
          have k5 := k4.trans q5 (fun j hj e => by have := k3.size; omega)
          refine hK.out _ _ (fun _ => HS4.out _ k5) ?_
          clear hK K
          refine last_one (j := 15) (by kernel_rfl) rfl (fun K hK => ?_)
          rw [if_pos (by rfl)]
          simp only [tA, tB, tC]
          go_simp
          refine hK.out _ _ (fun e => absurd rfl e) ?_
          clear hK K
          refine last_done (by kernel_rfl) ?_ _
          have HT5 := hid ((⟨q4, k5, (HA.out.2.1.keep kA).keepB q5 q6, IsTs.keepB (HA.out.2.2.1.keep kA) q5 q6, IsTs.keepB (HA.out.2.2.2.1.keep kA) q5 q6, IsTs.keepB (HA.out.2.2.2.2.1.keep kA) q5 q6, HA.out.2.2.2.2.2.1, HA.out.2.2.2.2.2.2.1, HA.out.2.2.2.2.2.2.2.1, HA.out.2.2.2.2.2.2.2.2.1, HA.out.2.2.2.2.2.2.2.2.2, k3.size⟩ : R4S w w1 _ w3.heap.size v (.slice b0 m0 d0) (.slice b1 m1 d1) (.slice b2 m2 d2) ss y0 y1 y2))
          clear HA k3 k4 k5 q1 q2 q3 q4 q5 q6 hz kA hS
          generalize (w3.alloc (.cells #[.slice none 0 0, .slice none 0 0, .slice none 0 0] 38)).setCells w3.heap.size 0 [.slice b0 m0 d0, .slice b1 m1 d1, .slice b2 m2 d2] = W5 at *
          generalize w3.heap.size = tb at *
          revert HT5 tb W5 v b0 m0 d0 b1 m1 d1 b2 m2 d2
          exact tail.out
        · rw [if_pos (by rfl)]
          simp only [tA, tB, tC]
          go_simp
          have k2 : Keep noBlock w1 (w1.drew.alloc (.cells z38 38)) := (Keep.refl _ w1).drew.alloc _
          have hz0 := alloc_new w1.drew (.cells z38 38)
          unfold z38 at k2 hz0
          refine hK.out _ _ (fun _ => HS4.out _ k2) ?_
          clear hK K
          refine last_one (j := 7) (by kernel_rfl) rfl (fun K hK => ?_)
          rw [if_pos (by rfl)]
          simp only [tA, tB, tC]
          go_simp
          refine (HQ.out _ (HK1.out.trans' k2)).mono ?_
          rintro e w3 ⟨k3', v, b0, m0, d0, b1, m1, d1, b2, m2, d2, rfl, p1, p2, p3, p4, p5, p6, p7, p8, p9⟩; have HA := (show Hid (Keep noBlock _ w3 ∧ SpRow w3 v ss ∧ IsTs w3 (.slice b0 m0 d0) y0 ∧ IsTs w3 (.slice b1 m1 d1) y1 ∧ IsTs w3 (.slice b2 m2 d2) y2 ∧ (GoodO 0 y0 ∧ GoodO 1 y1 ∧ GoodO 2 y2) ∧ NwS w.heap.size v ∧ NwS w.heap.size (.slice b0 m0 d0) ∧ NwS w.heap.size (.slice b1 m1 d1) ∧ NwS w.heap.size (.slice b2 m2 d2)) from ⟨k3', p1, p2, p3, p4, p5, nws_le p6 ((HK1.out.trans' k2).size), nws_le p7 ((HK1.out.trans' k2).size), nws_le p8 ((HK1.out.trans' k2).size), nws_le p9 ((HK1.out.trans' k2).size)⟩); clear k3' p1 p2 p3 p4 p5 p6 p7 p8 p9
          have k3 : Keep noBlock w1 w3 := k2.trans' HA.out.1
          refine hK.out _ _ (fun _ => HS4.out _ k3) ?_
          clear hK K
          have hS3 := HS4.out _ k3
          refine tk (i := 8) (v := ?_) rfl (by kernel_rfl) (fun _ _ _ h => h) (by rfl) ?_ (by assumption) ?_
          rotate_left 1
          · intro w hSw; (try dsimp only at hSw); (try obtain ⟨hSw1, hSw2, hSw3⟩ := hSw); (go_simp <;> with_reducible rfl)
          simp only [Act.put, tA, tB, tC, tD, tE, tF]
          refine tk (i := 9) (v := ?_) rfl (by kernel_rfl) (fun _ _ _ h => h) (by rfl) ?_ (by assumption) ?_
          rotate_left 1
          · intro w hSw; (try dsimp only at hSw); (try obtain ⟨hSw1, hSw2, hSw3⟩ := hSw); (go_simp <;> with_reducible rfl)
          simp only [Act.put, tA, tB, tC, tD, tE, tF]
          refine tk (i := 10) (v := ?_) rfl (by kernel_rfl) (fun _ _ _ h => h) (by rfl) ?_ (by assumption) ?_
          rotate_left 1
          · intro w hSw; (try dsimp only at hSw); (try obtain ⟨hSw1, hSw2, hSw3⟩ := hSw); (go_simp <;> with_reducible rfl)
          simp only [Act.put, tA, tB, tC, tD, tE, tF]
          refine tk (i := 11) (v := ?_) rfl (by kernel_rfl) (fun _ _ _ h => h) (by rfl) ?_ (by assumption) ?_
          rotate_left 1
          · intro w hSw; (try dsimp only at hSw); (try obtain ⟨hSw1, hSw2, hSw3⟩ := hSw); (go_simp <;> with_reducible rfl)
          simp only [Act.put, tA, tB, tC, tD, tE, tF]
          clear hS3
          refine last_one (j := 13) (by kernel_rfl) rfl (fun K hK => ?_)
          rw [if_pos (by rfl)]
          simp only [tA, tB, tC]
          go_simp
          refine hK.out _ _ (fun _ => HS4.out _ k3) ?_
          clear hK K
          have hz : w3.heap[w1.heap.size]? = some (.cells z38 38 (0, 0)) := HA.out.1.obj hz0 (fun h => h)
          obtain ⟨q1, q2, q3, q4, q5, q6⟩ := st38 hz b0 b1 b2 m0 m1 m2 d0 d1 d2
          refine last_one (j := 14) (by kernel_rfl) rfl (fun K hK => ?_)
          rw [if_pos (by rfl)]
          refine wp_store_mid 38 (.tmp 10) (.tmp 39) rfl w1.heap.size 0 #[.slice b0 m0 d0, .slice b1 m1 d1, .slice b2 m2 d2] rfl rfl q1 q2 q3 ?_
          have k5 := k3.trans q5 (fun j hj e => by omega)
          refine hK.out _ _ (fun _ => HS4.out _ k5) ?_
          clear hK K
          refine last_one (j := 15) (by kernel_rfl) rfl (fun K hK => ?_)
          rw [if_pos (by rfl)]
          simp only [tA, tB, tC]
          go_simp
          refine hK.out _ _ (fun e => absurd rfl e) ?_
          clear hK K
          refine last_done (by kernel_rfl) ?_ _
          have HT5 := hid ((⟨q4, k5, HA.out.2.1.keepB q5 q6, IsTs.keepB HA.out.2.2.1 q5 q6, IsTs.keepB HA.out.2.2.2.1 q5 q6, IsTs.keepB HA.out.2.2.2.2.1 q5 q6, HA.out.2.2.2.2.2.1, HA.out.2.2.2.2.2.2.1, HA.out.2.2.2.2.2.2.2.1, HA.out.2.2.2.2.2.2.2.2.1, HA.out.2.2.2.2.2.2.2.2.2, Nat.le_refl _⟩ : R4S w w1 _ w1.heap.size v (.slice b0 m0 d0) (.slice b1 m1 d1) (.slice b2 m2 d2) ss y0 y1 y2))
          exact tail.out v b0 m0 d0 b1 m1 d1 b2 m2 d2 _ w1.heap.size HT5
      · intro v b0 m0 d0 b1 m1 d1 b2 m2 d2 W5 tb HT5
        obtain ⟨sa, cv, rfl, hrow⟩ := HT5.out.row.form
        have HRw := hid hrow
        clear hrow HS4 HQ hsl
        have hfr5 : IsFr W5 fb F (.slice a0 n0 c0) (.slice a1 n1 c1) (.slice a2 n2 c2) (.slice aw F.ws.length cw) ov := IsFr.keep HI.out.fr (HK1.out.trans' HT5.out.kp) (fun h => h)
        have hfb : fb < w.heap.size := HI.out.fr.lt
        have hne : tb ≠ fb := by
          have := HK1.out.size
          have := HT5.out.tb
          omega
        have HS7 := hid (fun (W : World) (hk : Keep (fun k => k = fb) W5 W) => (show W.cell? ⟨tb, 0, none⟩ = some (.slice b0 m0 d0) ∧ W.cell? ⟨tb, 1, none⟩ = some (.slice b1 m1 d1) ∧ W.cell? ⟨tb, 2, none⟩ = some (.slice b2 m2 d2) from
          ⟨keep_cellS hk hne (cell_of HT5.out.ob 0), keep_cellS hk hne (cell_of HT5.out.ob 1), keep_cellS hk hne (cell_of HT5.out.ob 2)⟩))
        have e7 : W5.drew.cell? ⟨fb, 7, none⟩ = some (.slice aw F.ws.length cw) := cell_of (w := W5.drew) hfr5 7
        have f7 : W5.drew.frozen? ⟨fb, 7, none⟩ = false := frozen_of (w := W5.drew) hfr5 7
        have kw : Keep (fun k => k = fb) W5 (W5.setCell ⟨fb, 7, none⟩ (.slice na nn nc)).drew := ((Keep.refl (fun k => k = fb) W5).setCell (p := ⟨fb, 7, none⟩) (fun _ => rfl) _).drew
        have o7 : (W5.setCell ⟨fb, 7, none⟩ (.slice na nn nc)).drew.heap[fb]? = _ := set_obj (w := W5) hfr5 7 (.slice na nn nc)
        have HST := (show Hid ((W5.setCell ⟨fb, 7, none⟩ (.slice na nn nc)).drew.there fb 4 (#[.slice b0 m0 d0, .slice b1 m1 d1, .slice b2 m2 d2] : Array Value).size ∧ (Tryz.prog.info? 38).map (·.size) = some (#[.slice b0 m0 d0, .slice b1 m1 d1, .slice b2 m2 d2] : Array Value).size ∧ (#[.slice b0 m0 d0, .slice b1 m1 d1, .slice b2 m2 d2] : Array Value).all (·.oneCell') = true) from
          ⟨fun j hj => ⟨by have hj3 : j < 3 := hj; rw [cell_of o7, Array.getElem?_eq_getElem (by show 4 + j < 17; omega)]; rfl, frozen_of o7 _⟩, (by kernel_rfl : (Tryz.prog.info? 38).map (·.size) = some 3), all_oneCell_toArray (fun v hv => by simp only [List.mem_cons, List.not_mem_nil, or_false] at hv; rcases hv with rfl | rfl | rfl <;> rfl)⟩)
        have o8 := setCells_obj fb 44 [.slice b0 m0 d0, .slice b1 m1 d1, .slice b2 m2 d2] 4 _ _ o7
        have k8 : Keep (fun k => k = fb) W5 ((W5.setCell ⟨fb, 7, none⟩ (.slice na nn nc)).drew.setCells fb 4 [.slice b0 m0 d0, .slice b1 m1 d1, .slice b2 m2 d2]) := keep_setCells (S := fun k => k = fb) fb (fun _ => rfl) _ _ _ kw
        have HF6 := (show Hid (IsFr ((W5.setCell ⟨fb, 7, none⟩ (.slice na nn nc)).drew.setCells fb 4 [.slice b0 m0 d0, .slice b1 m1 d1, .slice b2 m2 d2]) fb { F with ws := nw, t0 := y0, t1 := y1, t2 := y2 } (.slice b0 m0 d0) (.slice b1 m1 d1) (.slice b2 m2 d2) (.slice na nn nc) ov ∧ Keep (fun k => k = fb) W5 ((W5.setCell ⟨fb, 7, none⟩ (.slice na nn nc)).drew.setCells fb 4 [.slice b0 m0 d0, .slice b1 m1 d1, .slice b2 m2 d2])) from ⟨o8, k8⟩)
        clear o7 o8 k8 hfr5
        go_wp2_with fail
        refine region_last (fun W => W.cell? ⟨tb, 0, none⟩ = some (.slice b0 m0 d0) ∧ W.cell? ⟨tb, 1, none⟩ = some (.slice b1 m1 d1) ∧ W.cell? ⟨tb, 2, none⟩ = some (.slice b2 m2 d2)) 9 mx (HS7.out _ (Keep.refl _ W5).drew) (fun hS => ?_)
        refine tk (i := 0) (v := ?_) rfl (by kernel_rfl) (fun _ _ _ h => h) (by rfl) ?_ (by assumption) ?_
        rotate_left 1
        · intro w hSw; (try dsimp only at hSw); (try obtain ⟨hSw1, hSw2, hSw3⟩ := hSw); (go_simp <;> with_reducible rfl)
        simp only [Act.put, tA, tB, tD, tE, tF]
        refine tk (i := 1) (v := ?_) rfl (by kernel_rfl) (fun _ _ _ h => h) (by rfl) ?_ (by assumption) ?_
        rotate_left 1
        · intro w hSw; (try dsimp only at hSw); (try obtain ⟨hSw1, hSw2, hSw3⟩ := hSw); (go_simp <;> with_reducible rfl)
        simp only [Act.put, tA, tB, tC, tD, tE, tF]
        refine tk (i := 2) (v := ?_) rfl (by kernel_rfl) (fun _ _ _ h => h) (by rfl) ?_ (by assumption) ?_
        rotate_left 1
        · intro w hSw; (try dsimp only at hSw); (try obtain ⟨hSw1, hSw2, hSw3⟩ := hSw); (go_simp <;> with_reducible rfl)
        simp only [Act.put, tA, tB, tC, tD, tE, tF]
        refine tk (i := 3) (v := ?_) rfl (by kernel_rfl) (fun _ _ _ h => h) (by rfl) ?_ (by assumption) ?_
        rotate_left 1
        · intro w hSw; (try dsimp only at hSw); (try obtain ⟨hSw1, hSw2, hSw3⟩ := hSw); (go_simp <;> with_reducible rfl)
        simp only [Act.put, tA, tB, tC, tD, tE, tF]
        refine tk (i := 4) (v := ?_) rfl (by kernel_rfl) (fun _ _ _ h => h) (by rfl) ?_ (by assumption) ?_
        rotate_left 1
        · intro w hSw; (try dsimp only at hSw); (try obtain ⟨hSw1, hSw2, hSw3⟩ := hSw); (go_simp <;> with_reducible rfl)
        simp only [Act.put, tA, tB, tC, tD, tE, tF]
        refine tk (i := 5) (v := ?_) rfl (by kernel_rfl) (fun _ _ _ h => h) (by rfl) ?_ (by assumption) ?_
        rotate_left 1
        · intro w hSw; (try dsimp only at hSw); (try obtain ⟨hSw1, hSw2, hSw3⟩ := hSw); (go_simp <;> with_reducible rfl)
        simp only [Act.put, tA, tB, tC, tD, tE, tF]
        refine last_one (j := 6) (by kernel_rfl) rfl (fun K hK => ?_)
        rw [if_pos (by rfl)]
        simp only [tA, tB, tC]
        go_simp
        refine hK.out _ _ (fun _ => HS7.out _ kw) ?_
        clear hK K
        refine last_one (j := 7) (by kernel_rfl) rfl (fun K hK => ?_)
        rw [if_pos (by rfl)]
        simp only [tA, tB, tC]
        go_simp
        refine hK.out _ _ (fun _ => HS7.out _ kw) ?_
        clear hK K
        refine last_one (j := 8) (by kernel_rfl) rfl (fun K hK => ?_)
        rw [if_pos (by rfl)]
        simp only [tA, tB, tC]
        go_simp
        refine hK.out _ _ (fun _ => HS7.out _ kw) ?_
        clear hK K
        refine last_one (j := 9) (by kernel_rfl) rfl (fun K hK => ?_)
        rw [if_pos (by rfl)]
        refine wp_store_mid 38 (.tmp 50) (.tmp 46) rfl fb 4 #[.slice b0 m0 d0, .slice b1 m1 d1, .slice b2 m2 d2] rfl rfl HST.out.1 HST.out.2.1 HST.out.2.2 ?_
        refine hK.out _ _ (fun e => absurd rfl e) ?_
        clear hK K
        refine last_done (by kernel_rfl) ?_ _
        clear kw e7 f7 HST HS7 hS
        generalize (W5.setCell ⟨fb, 7, none⟩ (.slice na nn nc)).drew.setCells fb 4 [.slice b0 m0 d0, .slice b1 m1 d1, .slice b2 m2 d2] = W6 at *
        obtain ⟨oa, oc, hov, hoc⟩ := HI.out.out.slice
        obtain ⟨No, hNo⟩ : ∃ No, No = F.out.length := ⟨_, rfl⟩
        rw [← hNo] at hov hoc
        have hNb : (No : Int) ≤ 16777216 := by have := HH.out.2.2.1; omega
        obtain ⟨en, hen⟩ : ∃ en : Nat, (No : Int) + (m : Int) = (en : Int) := ⟨No + m, by omega⟩
        have henb : (en : Int) ≤ 16908288 := by omega
        have hwen : IntKind.i64.wrap (en : Int) = (en : Int) := by rw [IntKind.wrap_i64]; omega
        have HS8 := (show Hid (W6.drew.cell? ⟨fb, 15, none⟩ = some (.slice oa No oc)) from by rw [← hov]; exact cell_of (w := W6.drew) HF6.out.1 15)
        have HM6 := (show Hid (Calls Tryz.prog 27 #[.pointer (some ⟨fb, 0, none⟩)] W6.drew fun e w' => e = .returned (.int .i64 (m : Int)) ∧ w' = W6.drew) from by
          have := most_any (IsFr.keep HF6.out.1 (Keep.refl noBlock W6).drew (fun h => h)) HI.out.ok.win
          rw [HMm.out]
          exact this)
        have HOv := (show Hid (ov = .slice oa No oc ∧ No ≤ oc ∧ No = F.out.length ∧ en = F.out.length + mostF F) from ⟨hov, hoc, hNo, by rw [← HMm.out]; omega⟩)
        clear hov hoc hNo
        go_wp2_with fail
        refine region_last (fun W => W.cell? ⟨fb, 15, none⟩ = some (.slice oa No oc)) 8 mx HS8.out (fun hS => ?_)
        refine tk (i := 0) (v := ?_) rfl (by kernel_rfl) (fun _ _ _ h => h) (by rfl) ?_ (by assumption) ?_
        rotate_left 1
        · intro w hSw; (try dsimp only at hSw); (go_simp <;> with_reducible rfl)
        simp only [Act.put, tA, tB, tD, tE, tF]
        refine tk (i := 1) (v := ?_) rfl (by kernel_rfl) (fun _ _ _ h => h) (by rfl) ?_ (by assumption) ?_
        rotate_left 1
        · intro w hSw; (try dsimp only at hSw); (go_simp <;> with_reducible rfl)
        simp only [Act.put, tA, tB, tC, tD, tE, tF]
        refine tk (i := 2) (v := ?_) rfl (by kernel_rfl) (fun _ _ _ h => h) (by rfl) ?_ (by assumption) ?_
        rotate_left 1
        · intro w hSw; (try dsimp only at hSw); (go_simp <;> with_reducible rfl)
        simp only [Act.put, tA, tB, tC, tD, tE, tF]
        refine tk (i := 3) (v := ?_) rfl (by kernel_rfl) (fun _ _ _ h => h) (by rfl) ?_ (by assumption) ?_
        rotate_left 1
        · intro w hSw; (try dsimp only at hSw); (go_simp <;> with_reducible rfl)
        simp only [Act.put, tA, tB, tC, tD, tE, tF]
        refine tk (i := 4) (v := ?_) rfl (by kernel_rfl) (fun _ _ _ h => h) (by rfl) ?_ (by assumption) ?_
        rotate_left 1
        · intro w hSw; (try dsimp only at hSw); (go_simp <;> with_reducible rfl)
        simp only [Act.put, tA, tB, tC, tD, tE, tF]
        refine tk (i := 5) (v := ?_) rfl (by kernel_rfl) (fun _ _ _ h => h) (by rfl) ?_ (by assumption) ?_
        rotate_left 1
        · intro w hSw; (try dsimp only at hSw); (go_simp <;> with_reducible rfl)
        simp only [Act.put, tA, tB, tC, tD, tE, tF]
        refine last_one (j := 6) (by kernel_rfl) rfl (fun K hK => ?_)
        rw [if_pos (by rfl)]
        simp only [tA, tB, tC]
        go_simp
        refine HM6.out.mono ?_
        rintro e w6 ⟨rfl, rfl⟩
        refine hK.out _ _ (fun _ => HS8.out) ?_
        clear hK K
        refine last_one (j := 7) (by kernel_rfl) rfl (fun K hK => ?_)
        rw [if_pos (by rfl)]
        simp only [tA, tB, tC]
        go_simp
        refine hK.out _ _ (fun _ => HS8.out) ?_
        clear hK K
        refine last_one (j := 8) (by kernel_rfl) rfl (fun K hK => ?_)
        rw [if_pos (by rfl)]
        simp only [tA, tB, tC]
        go_simp
        refine hK.out _ _ (fun e => absurd rfl e) ?_
        clear hK K
        refine last_done (by kernel_rfl) ?_ _
        clear HS8 HM6 hS
        have hfl6 : fb < W6.heap.size := HF6.out.1.lt
        have hkw6 : Keep (fun k => k = fb) w W6 := ((HK1.out.trans' HT5.out.kp).mono (T := fun k => k = fb) (fun _ _ q => q.elim)).trans' HF6.out.2
        have hown : ∀ k, w.heap.size ≤ k → ov.ownBlock ≠ some k := fun k hk e => by have := HI.out.out.block e; omega
        have HL7 := (show Hid (L7 W5 W6.drew fb { F with ws := nw, t0 := y0, t1 := y1, t2 := y2 } (.slice b0 m0 d0) (.slice b1 m1 d1) (.slice b2 m2 d2) (.slice na nn nc) ov lg en ss sa) from by
          refine ⟨?_, by have := HLB.out.2.2.1; omega, hown _ HLB.out.2.2.1, HI.out.ne, hfl6, seqR_ok hq HT5.out.good.1 HT5.out.good.2.1 HT5.out.good.2.2, by omega, HI.out.ok.win, HF6.out.2.drew⟩
          rcases HRw.out with q | ⟨g, q1, q2, q3⟩
          · exact .inl q
          · have hgn : w.heap.size ≤ g := HT5.out.nv ⟨g, 0, none⟩ _ _ (by rw [q1])
            have hgf : ¬ g = fb := by omega
            exact .inr ⟨g, q1, Nat.lt_of_lt_of_le q2 HF6.out.2.size, hgf, hown g hgn, fun k s hs => ⟨keep_cellS HF6.out.2 hgf (q3 k s hs).1, keep_cellS HF6.out.2 hgf (q3 k s hs).2.1, keep_cellS HF6.out.2 hgf (q3 k s hs).2.2⟩⟩)
        have HC7 := (show Hid (CoS w W6.drew fb ov ov) from ((CoS.refl w fb ov).atf hkw6).quiet (Keep.refl noBlock W6).drew)
        have HP7 := (show Hid (LpS W6.drew fb { F with ws := nw, t0 := y0, t1 := y1, t2 := y2 } (.slice b0 m0 d0) (.slice b1 m1 d1) (.slice b2 m2 d2) (.slice na nn nc) ov lg en ss R F.out 0 la ln lc W6.drew) from by
          refine ⟨F.r0, F.r1, F.r2, F.out, ov, l, lo, HLB.out.2.2.2.2.1, HF6.out.1, (HI.out.out.keep hkw6.drew (fun g hg (e : g = fb) => HI.out.ne (by rw [hg, e]))), CoS.refl _ _ _, ((HLB.out.1.keep HT5.out.kp (fun _ h => h)).keep HF6.out.2.drew (fun _ (e : lg = fb) => by have := HLB.out.2.2.1; omega)), ?_, by have := HOv.out; omega, List.prefix_refl _, HI.out.ok.r0, HI.out.ok.r1, HI.out.ok.r2⟩
          rw [HR.out, unpackP_s (l := l) (nw := nw) (by rw [← HMm.out]; exact HLs.out) hq, HOv.out.2.2.2]
          rfl)
        have hln : ln ≤ 524304 := by have := HLB.out.2.2.2.2.1; have := HU.out.1; omega
        obtain ⟨L, hL⟩ : ∃ L, L = ss.length := ⟨_, rfl⟩
        rw [← hL]
        have HLs2 := hid hL
        have hLb : (L : Int) ≤ 100000 := by have := seqR_len (lt_drop HH.out.2.2.2.1.lt u) hq; omega
        clear hL hkw6 hown
        generalize W6.drew = W7 at *
        go_wp2_with fail
        go_loopw [5, 61] (fun v5 v61 wr => ∃ (i : Nat) (pa : Option Addr) (pn pc : Nat), v61 = .int .i64 (i : Int) ∧ v5 = .slice pa pn pc ∧ i ≤ L ∧ pn ≤ 524304 ∧ Hid (LpS W7 fb { F with ws := nw, t0 := y0, t1 := y1, t2 := y2 } (.slice b0 m0 d0) (.slice b1 m1 d1) (.slice b2 m2 d2) (.slice na nn nc) ov lg en ss R F.out i pa pn pc wr)) (fun _ v61 _ => L - (intOf v61).toNat)
        case atStart => exact ⟨0, la, ln, lc, rfl, rfl, Nat.zero_le _, hln, HP7.out⟩
        case round =>
          clear HP7 hln
          obtain ⟨i, pa, pn, pc, rfl, rfl, hi, hpn, HP⟩ := hrel
          by_cases hlt : i < L
          · have hltI : (i : Int) < (L : Int) := by omega
            have HLT := hid hlt
            obtain ⟨p0, p1, p2, o, ov1, ls, po, q1, q2, q3, q4, q5, q6, q7, q8, q9, q10, q11⟩ := HP.out
            have his : i < ss.length := by rw [← HLs2.out]; exact hlt
            obtain ⟨s, hs⟩ : ∃ s, ss[i]? = some s := ⟨_, List.getElem?_eq_getElem his⟩
            have hdr : ss.drop i = s :: ss.drop (i + 1) := by
              rw [List.drop_eq_getElem_cons his]
              rw [List.getElem?_eq_getElem his] at hs
              rw [Option.some.inj hs]
            have hsok := HL7.out.ok s (List.mem_of_getElem? hs)
            obtain ⟨g, hsa, hgl, hgf, hgo, hgc⟩ : ∃ g, sa = some ⟨g, 0, none⟩ ∧ g < W7.heap.size ∧ g ≠ fb ∧ ov.ownBlock ≠ some g ∧ ∀ k s, ss[k]? = some s → W7.cell? ⟨g, k * 3, none⟩ = some (.int .i64 (s.1 : Int)) ∧ W7.cell? ⟨g, k * 3 + 1, none⟩ = some (.int .i64 (s.2.1 : Int)) ∧ W7.cell? ⟨g, k * 3 + 2, none⟩ = some (.int .i64 (s.2.2 : Int)) := by
              rcases HL7.out.row with q | q
              · rw [q] at his; cases his
              · exact q
            subst hsa
            have hgn := cos_out q4 hgf hgo
            obtain ⟨g0, g1, g2⟩ := hgc i s hs
            have e0 := keep_cellS q4.kp hgn g0
            have e1 := keep_cellS q4.kp hgn g1
            have e2 := keep_cellS q4.kp hgn g2
            rw [hdr] at q6
            obtain ⟨s1, s2, s3⟩ := s
            dsimp only at e0 e1 e2
            obtain ⟨k1', k2', k3', k4'⟩ := hsok
            dsimp only at k1' k2' k3' k4'
            have hs1b : (s1 : Int) ≤ 8589934592 := by omega
            have hs2b : (s2 : Int) ≤ 8589934592 := by omega
            have hs3b : (s3 : Int) ≤ 8589934592 := by omega
            obtain ⟨W8, hW8⟩ : ∃ W8, W8 = wr.alloc (.cells #[.int .i64 (s1 : Int), .int .i64 (s2 : Int), .int .i64 (s3 : Int)] 77) := ⟨_, rfl⟩
            obtain ⟨sb, hsb⟩ : ∃ sb, sb = wr.heap.size := ⟨_, rfl⟩
            have ob : W8.heap[sb]? = some (.cells #[.int .i64 (s1 : Int), .int .i64 (s2 : Int), .int .i64 (s3 : Int)] 77 (0, 0)) := by rw [hW8, hsb]; exact alloc_new wr _
            have k8 : Keep noBlock wr W8 := by rw [hW8]; exact (Keep.refl _ wr).alloc _
            have eb0 := cell_of ob 0
            obtain ⟨oa1, oc1, hov1, hoc1⟩ := q3.slice
            subst hov1
            obtain ⟨N1, hN1⟩ : ∃ N1, N1 = o.length := ⟨_, rfl⟩
            have hN1b : (N1 : Int) ≤ 16908288 := by have := HL7.out.en; omega
            have HW := (show Hid (pn = ls.length ∧ IsFr W8 fb (fr4 { F with ws := nw, t0 := y0, t1 := y1, t2 := y2 } p0 p1 p2 o) (.slice b0 m0 d0) (.slice b1 m1 d1) (.slice b2 m2 d2) (.slice na nn nc) (.slice oa1 o.length oc1) ∧ OutF W8 (.slice oa1 o.length oc1) o ∧ CoS W7 W8 fb ov (.slice oa1 o.length oc1) ∧ Bytes W7 pa pc lg po ls ∧ o.length ≤ en ∧ F.out <+: o ∧ p0 ≤ 4611686018427387904 ∧ p1 ≤ 4611686018427387904 ∧ p2 ≤ 4611686018427387904 ∧ SpOk (s1, s2, s3)) from
              ⟨q1, IsFr.keep q2 k8 (fun h => h), q3.keep k8 (fun _ _ h => h), q4.quiet k8, q5, q7, q8, q9, q10, q11, ⟨k1', k2', k3', k4'⟩⟩)
            have HQ6 := hid q6
            have HOB := (show Hid (W8.heap[sb]? = some (.cells #[.int .i64 (s1 : Int), .int .i64 (s2 : Int), .int .i64 (s3 : Int)] 77 (0, 0)) ∧ W8.heap.size = sb + 1 ∧ (∀ k, Value.ownBlock (.slice oa1 o.length oc1) = some k → k < sb) ∧ fb < sb) from ⟨ob, by rw [hW8, hsb]; exact World.size_alloc _ _, fun k hk => by rw [hsb]; exact q3.block hk, by rw [hsb]; exact q2.lt⟩)
            clear q1 q2 q3 q4 q5 q6 q7 q8 q9 q10 q11 hs hdr hgc g0 g1 g2 hgl hgf hgo hgn his k1' k2' k3' k4' ob k8 HP hoc1
            have HN1 := hid hN1
            rw [← hN1] at HW HOB
            have e15 : W8.cell? ⟨fb, 15, none⟩ = some (.slice oa1 N1 oc1) := cell_of HW.out.2.1 15
            clear hN1
            by_cases hgt : pn < s1
            · have hgtI : (pn : Int) < (s1 : Int) := by omega
              have hgtd : decide (pn < s1) = true := decide_eq_true hgt
              clear HOB
              go_wp2_with (rw [← hW8, ← hsb]; clear hW8 hsb)
              go_ret
              have hRn : R = none := by
                rw [← HQ6.out, stepsP_cons]
                exact if_pos (show ls.length < s1 by rw [← HW.out.1]; exact hgt)
              rw [hRn]
              obtain ⟨w1, w2, w3, w4, w5, w6, w7, w8, w9, w10, w11⟩ := HW.out
              exact ⟨rfl, _, _, _, _, _, _, w2, w3, w7, HC7.out.trans w4⟩
            · have hgtI : ¬ (pn : Int) < (s1 : Int) := by omega
              have hgtd : decide (pn < s1) = false := decide_eq_false hgt
              have hs1p : (s1 : Int) ≤ (pn : Int) := by omega
              obtain ⟨w1, w2, w3, w4, w5, w6, w7, w8, w9, w10, w11⟩ := HW.out
              have hb8 := w5.keep w4.kp (fun _ => cos_out w4 HL7.out.lf HL7.out.lo)
              obtain ⟨hsl1, hb1⟩ := hb8.take s1 (by omega)
              obtain ⟨pa2, po2, hsl2, hb2, -⟩ := w5.drop s1 (by omega)
              have htl : (ls.take s1).length = s1 := by rw [List.length_take]; omega
              rw [← w1] at hsl1 hsl2
              rw [htl] at hsl1
              obtain ⟨N2, hN2⟩ : ∃ N2, N2 = N1 + s1 := ⟨_, rfl⟩
              have hol : (o ++ ls.take s1).length = N2 := by rw [List.length_append, htl, hN2, HN1.out]
              have HA := (show Hid (∀ W, Keep noBlock W8 W → ∃ ov2 w2, (Builtin.append_ #[22, 22] 22 #[.slice oa1 N1 oc1, .slice pa s1 pc]).run Tryz.prog W = .ok ov2 w2 ∧ ∃ oa2 oc2, ov2 = .slice oa2 N2 oc2 ∧
                  Hid (IsFr (w2.setCell ⟨fb, 15, none⟩ ov2) fb (fr4 { F with ws := nw, t0 := y0, t1 := y1, t2 := y2 } p0 p1 p2 (o ++ ls.take s1)) (.slice b0 m0 d0) (.slice b1 m1 d1) (.slice b2 m2 d2) (.slice na nn nc) ov2 ∧ OutF (w2.setCell ⟨fb, 15, none⟩ ov2) ov2 (o ++ ls.take s1) ∧ CoS W7 (w2.setCell ⟨fb, 15, none⟩ ov2) fb ov ov2 ∧ (w2.setCell ⟨fb, 15, none⟩ ov2).heap[sb]? = some (.cells #[.int .i64 (s1 : Int), .int .i64 (s2 : Int), .int .i64 (s3 : Int)] 77 (0, 0)) ∧ ov2.ownBlock ≠ some sb ∧ fb ≠ sb) ∧
                  w2.cell? ⟨fb, 15, none⟩ = some (.slice oa1 N1 oc1) ∧ w2.frozen? ⟨fb, 15, none⟩ = false ∧ w2.cell? ⟨sb, 0, none⟩ = some (.int .i64 (s1 : Int))) from fun W kW => by
                obtain ⟨z1, z2, z3, z4⟩ := HOB.out
                have hsrc := (hb1.keep kW (fun _ h => h)).src
                rw [htl] at hsrc
                obtain ⟨ov2, v2, r1, r2, r3, r4⟩ := (w3.keep kW (fun _ _ h => h)).put hsrc hb1.lt (by rw [htl]; have := HN1.out; omega) 22
                have hnb := w4.ne HL7.out.fl HL7.out.ne
                have hf2 := IsFr.keep (IsFr.keep w2 kW (fun h => h)) r3 (fun e => hnb e)
                have hnsb : Value.ownBlock (.slice oa1 N1 oc1) ≠ some sb := fun e => by have := z3 sb e; omega
                have hob2 := r3.obj (kW.obj z1 (fun h => h)) hnsb
                obtain ⟨oa2, oc2, e2, -⟩ := r2.slice
                rw [hol] at e2
                have hco := (w4.quiet kW).put r3 r4
                have hkf : Keep (fun k => k = fb) v2 (v2.setCell ⟨fb, 15, none⟩ ov2) := (Keep.refl (fun k => k = fb) v2).setCell (p := ⟨fb, 15, none⟩) (fun _ => rfl) _
                refine ⟨ov2, v2, r1, oa2, oc2, e2, ⟨FrAt.out_set hf2 ov2, r2.keep hkf (fun g hg (e : g = fb) => hco.ne HL7.out.fl HL7.out.ne (by rw [hg, e])), hco.atf hkf, hkf.obj hob2 (by omega), ?_, by omega⟩, cell_of hf2 15, frozen_of hf2 15, cell_of hob2 0⟩
                rcases r4 with e | ⟨k, e, hk⟩
                · rw [e]; exact hnsb
                · rw [e]
                  intro e3
                  have := Option.some.inj e3
                  have := kW.size
                  omega)
              have HE := (show Hid (W8.drew.cell? ⟨fb, 15, none⟩ = some (.slice oa1 N1 oc1) ∧ W8.drew.cell? ⟨sb, 0, none⟩ = some (.int .i64 (s1 : Int))) from ⟨e15, eb0⟩)
              have HB2 := (show Hid (Bytes W7 pa2 (pc - s1) lg po2 (ls.drop s1) ∧ (ls.drop s1).length ≤ 524304 ∧ (o ++ ls.take s1).length = N2) from ⟨hb2, by rw [List.length_drop]; omega, hol⟩)
              have hN2b : (N2 : Int) ≤ 16908288 + 524304 := by omega
              obtain ⟨pn2, hpn2⟩ : ∃ pn2, pn2 = (ls.drop s1).length := ⟨_, rfl⟩
              rw [← hpn2] at hsl2 HB2
              have HP2 := hid hpn2
              obtain ⟨df, hdf⟩ : ∃ df, df = (en : Int) - (N2 : Int) := ⟨_, rfl⟩
              have hdfI : (en : Int) - (N2 : Int) = df := hdf.symm
              have hdfl : -18000000 ≤ df := by omega
              have hdfu : df ≤ 16908288 := by omega
              have hwdf : IntKind.i64.wrap df = df := by rw [IntKind.wrap_i64]; omega
              have HDF := hid hdf
              clear w1 w2 w3 w4 w5 w6 w7 hb8 hb1 hb2 htl hol hN2 hpn2 hdf
              go_wp2_with (rw [← hW8, ← hsb]; clear hW8 hsb)
              refine region_last (fun W => W.cell? ⟨fb, 15, none⟩ = some (.slice oa1 N1 oc1) ∧ W.cell? ⟨sb, 0, none⟩ = some (.int .i64 (s1 : Int))) 12 mx HE.out (fun hS => ?_)
              refine tk (i := 0) (v := ?_) rfl (by kernel_rfl) (fun _ _ _ h => h) (by rfl) ?_ (by assumption) ?_
              rotate_left 1
              · intro w hSw; (try dsimp only at hSw); (try obtain ⟨hSw1, hSw2⟩ := hSw); (go_simp <;> with_reducible rfl)
              simp only [Act.put, tA, tB, tD, tE, tF]
              refine tk (i := 1) (v := ?_) rfl (by kernel_rfl) (fun _ _ _ h => h) (by rfl) ?_ (by assumption) ?_
              rotate_left 1
              · intro w hSw; (try dsimp only at hSw); (try obtain ⟨hSw1, hSw2⟩ := hSw); (go_simp <;> with_reducible rfl)
              simp only [Act.put, tA, tB, tC, tD, tE, tF]
              refine tk (i := 2) (v := ?_) rfl (by kernel_rfl) (fun _ _ _ h => h) (by rfl) ?_ (by assumption) ?_
              rotate_left 1
              · intro w hSw; (try dsimp only at hSw); (try obtain ⟨hSw1, hSw2⟩ := hSw); (go_simp <;> with_reducible rfl)
              simp only [Act.put, tA, tB, tC, tD, tE, tF]
              refine tk (i := 3) (v := ?_) rfl (by kernel_rfl) (fun _ _ _ h => h) (by rfl) ?_ (by assumption) ?_
              rotate_left 1
              · intro w hSw; (try dsimp only at hSw); (try obtain ⟨hSw1, hSw2⟩ := hSw); (go_simp <;> with_reducible rfl)
              simp only [Act.put, tA, tB, tC, tD, tE, tF]
              refine tk (i := 4) (v := ?_) rfl (by kernel_rfl) (fun _ _ _ h => h) (by rfl) ?_ (by assumption) ?_
              rotate_left 1
              · intro w hSw; (try dsimp only at hSw); (try obtain ⟨hSw1, hSw2⟩ := hSw); (go_simp <;> with_reducible rfl)
              simp only [Act.put, tA, tB, tC, tD, tE, tF]
              refine tk (i := 5) (v := ?_) rfl (by kernel_rfl) (fun _ _ _ h => h) (by rfl) ?_ (by assumption) ?_
              rotate_left 1
              · intro w hSw; (try dsimp only at hSw); (try obtain ⟨hSw1, hSw2⟩ := hSw); (go_simp <;> with_reducible rfl)
              simp only [Act.put, tA, tB, tC, tD, tE, tF]
              refine tk (i := 6) (v := ?_) rfl (by kernel_rfl) (fun _ _ _ h => h) (by rfl) ?_ (by assumption) ?_
              rotate_left 1
              · intro w hSw; (try dsimp only at hSw); (try obtain ⟨hSw1, hSw2⟩ := hSw); (go_simp <;> with_reducible rfl)
              simp only [Act.put, tA, tB, tC, tD, tE, tF]
              refine tk (i := 7) (v := ?_) rfl (by kernel_rfl) (fun _ _ _ h => h) (by rfl) ?_ (by assumption) ?_
              rotate_left 1
              · intro w hSw; (try dsimp only at hSw); (try obtain ⟨hSw1, hSw2⟩ := hSw); (go_simp <;> with_reducible rfl)
              simp only [Act.put, tA, tB, tC, tD, tE, tF]
              refine tk (i := 8) (v := ?_) rfl (by kernel_rfl) (fun _ _ _ h => h) (by rfl) ?_ (by assumption) ?_
              rotate_left 1
              · intro w hSw; (try dsimp only at hSw); (try obtain ⟨hSw1, hSw2⟩ := hSw); (go_simp <;> with_reducible rfl)
              simp only [Act.put, tA, tB, tC, tD, tE, tF]
              obtain ⟨ov2, v2, hr2, oa2, oc2, rfl, HC2, e15b, f15b, eb0b⟩ := HA.out W8.drew (Keep.refl noBlock W8).drew
              clear HE
              have HE := hid (And.intro e15b eb0b)
              refine last_one (j := 9) (by kernel_rfl) rfl (fun K hK => ?_)
              rw [if_pos (by rfl)]
              refine wp_append_run _ _ _ 22 rfl _ _ _ _ rfl rfl hr2 ?_
              refine hK.out _ _ (fun _ => HE.out) ?_
              simp only [Act.put, tA, tB, tC, tD, tE, tF]
              clear hK K
              refine last_one (j := 10) (by kernel_rfl) rfl (fun K hK => ?_)
              rw [if_pos (by rfl)]
              simp only [tA, tB, tC]
              go_simp
              refine hK.out _ _ (fun _ => HE.out) ?_
              clear hK K
              refine last_one (j := 11) (by kernel_rfl) rfl (fun K hK => ?_)
              rw [if_pos (by rfl)]
              simp only [tA, tB, tC]
              go_simp
              refine hK.out _ _ (fun _ => HE.out) ?_
              clear hK K
              refine last_one (j := 12) (by kernel_rfl) rfl (fun K hK => ?_)
              rw [if_pos (by rfl)]
              simp only [tA, tB, tC]
              go_simp
              refine hK.out _ _ (fun e => absurd rfl e) ?_
              clear hK K
              refine last_done (by kernel_rfl) ?_ _
              clear HA hS hr2 e15b f15b eb0b HE
              obtain ⟨v1, v3, v4, v5, v6, v7⟩ := HC2.out
              generalize v2.setCell ⟨fb, 15, none⟩ (.slice oa2 N2 oc2) = W9 at *
              clear v2
              have eb9 : W9.cell? ⟨sb, 0, none⟩ = some (.int .i64 (s1 : Int)) := cell_of v5 0
              have e159 : W9.drew.cell? ⟨fb, 15, none⟩ = some (.slice oa2 N2 oc2) := cell_of (w := W9.drew) v1 15
              have HB9 := (show Hid (W9.drew.cell? ⟨sb, 0, none⟩ = some (.int .i64 (s1 : Int)) ∧ W9.drew.cell? ⟨sb, 1, none⟩ = some (.int .i64 (s2 : Int)) ∧ W9.drew.cell? ⟨sb, 2, none⟩ = some (.int .i64 (s3 : Int))) from ⟨cell_of (w := W9.drew) v5 0, cell_of (w := W9.drew) v5 1, cell_of (w := W9.drew) v5 2⟩)
              have hk9 : Keep noBlock W9 W9.drew := (Keep.refl noBlock W9).drew
              by_cases hM : df < (s2 : Int)
              · have hMd : decide (df < (s2 : Int)) = true := decide_eq_true hM
                clear v1 v3 v4 v5 v6 v7
                go_wp2_with fail
                refine region_last (fun W => W.cell? ⟨sb, 0, none⟩ = some (.int .i64 (s1 : Int)) ∧ W.cell? ⟨sb, 1, none⟩ = some (.int .i64 (s2 : Int)) ∧ W.cell? ⟨sb, 2, none⟩ = some (.int .i64 (s3 : Int))) 16 mx HB9.out (fun hS => ?_)
                refine tk (i := 0) (v := ?_) rfl (by kernel_rfl) (fun _ _ _ h => h) (by rfl) ?_ (by assumption) ?_
                rotate_left 1
                · intro w hSw; (try dsimp only at hSw); (try obtain ⟨hSw1, hSw2, hSw3⟩ := hSw); (go_simp <;> with_reducible rfl)
                simp only [Act.put, tA, tB, tD, tE, tF]
                refine tk (i := 1) (v := ?_) rfl (by kernel_rfl) (fun _ _ _ h => h) (by rfl) ?_ (by assumption) ?_
                rotate_left 1
                · intro w hSw; (try dsimp only at hSw); (try obtain ⟨hSw1, hSw2, hSw3⟩ := hSw); (go_simp <;> with_reducible rfl)
                simp only [Act.put, tA, tB, tC, tD, tE, tF]
                refine tk (i := 2) (v := ?_) rfl (by kernel_rfl) (fun _ _ _ h => h) (by rfl) ?_ (by assumption) ?_
                rotate_left 1
                · intro w hSw; (try dsimp only at hSw); (try obtain ⟨hSw1, hSw2, hSw3⟩ := hSw); (go_simp <;> with_reducible rfl)
                simp only [Act.put, tA, tB, tC, tD, tE, tF]
                refine tk (i := 3) (v := ?_) rfl (by kernel_rfl) (fun _ _ _ h => h) (by rfl) ?_ (by assumption) ?_
                rotate_left 1
                · intro w hSw; (try dsimp only at hSw); (try obtain ⟨hSw1, hSw2, hSw3⟩ := hSw); (go_simp <;> with_reducible rfl)
                simp only [Act.put, tA, tB, tC, tD, tE, tF]
                refine tk (i := 4) (v := ?_) rfl (by kernel_rfl) (fun _ _ _ h => h) (by rfl) ?_ (by assumption) ?_
                rotate_left 1
                · intro w hSw; (try dsimp only at hSw); (try obtain ⟨hSw1, hSw2, hSw3⟩ := hSw); (go_simp <;> with_reducible rfl)
                simp only [Act.put, tA, tB, tC, tD, tE, tF]
                refine tk (i := 5) (v := ?_) rfl (by kernel_rfl) (fun _ _ _ h => h) (by rfl) ?_ (by assumption) ?_
                rotate_left 1
                · intro w hSw; (try dsimp only at hSw); (try obtain ⟨hSw1, hSw2, hSw3⟩ := hSw); (go_simp <;> with_reducible rfl)
                simp only [Act.put, tA, tB, tC, tD, tE, tF]
                refine last_one (j := 6) (by kernel_rfl) rfl (fun K hK => ?_)
                rw [if_pos (by rfl)]
                simp only [tA, tB, tC]
                go_simp
                refine hK.out _ _ (fun _ => HB9.out) ?_
                clear hK K
                refine last_one (j := 7) (by kernel_rfl) rfl (fun K hK => ?_)
                rw [if_pos (by rfl)]
                simp only [tA, tB, tC]
                go_simp
                refine hK.out _ _ (fun _ => HB9.out) ?_
                clear hK K
                refine last_one (j := 8) (by kernel_rfl) rfl (fun K hK => ?_)
                rw [if_pos (by rfl)]
                simp only [tA, tB, tC]
                go_simp
                refine hK.out _ _ (fun _ => HB9.out) ?_
                clear hK K
                refine last_one (j := 9) (by kernel_rfl) rfl (fun K hK => ?_)
                rw [if_pos (by rfl)]
                simp only [tA, tB, tC]
                go_simp
                refine hK.out _ _ (fun _ => HB9.out) ?_
                clear hK K
                refine last_one (j := 10) (by kernel_rfl) rfl (fun K hK => ?_)
                rw [if_pos (by rfl)]
                simp only [tA, tB, tC]
                go_simp
                refine hK.out _ _ (fun _ => HB9.out) ?_
                clear hK K
                refine last_take (i := 11) (v := undef) rfl (by kernel_rfl) (by kernel_rfl) (by kernel_rfl) (by kernel_rfl) (fun _ _ _ h => h) (Or.inr ⟨by rfl, rfl⟩) (by assumption) ?_
                simp only [Act.put, tA, tB, tC, tD, tE, tF]
                refine last_take (i := 12) (v := undef) rfl (by kernel_rfl) (by kernel_rfl) (by kernel_rfl) (by kernel_rfl) (fun _ _ _ h => h) (Or.inr ⟨by rfl, rfl⟩) (by assumption) ?_
                simp only [Act.put, tA, tB, tC, tD, tE, tF]
                refine last_one (j := 13) (by kernel_rfl) rfl (fun K hK => ?_)
                rw [if_neg]
                rotate_left 1
                · exact Bool.false_ne_true
                refine hK.out _ _ (fun _ => HB9.out) ?_
                clear hK K
                refine last_one (j := 14) (by kernel_rfl) rfl (fun K hK => ?_)
                rw [if_neg]
                rotate_left 1
                · exact Bool.false_ne_true
                refine hK.out _ _ (fun _ => HB9.out) ?_
                clear hK K
                refine last_one (j := 15) (by kernel_rfl) rfl (fun K hK => ?_)
                rw [if_pos (by rfl)]
                simp only [tA, tB, tC]
                go_simp
                refine hK.out _ _ (fun _ => HB9.out) ?_
                clear hK K
                refine last_done (by kernel_rfl) ?_ _
                go_wp2_with fail
                go_ret
                have hRn : R = none := by
                  rw [← HQ6.out, stepsP_cons]
                  dsimp only
                  rw [if_neg (show ¬ ls.length < s1 by rw [← HW.out.1]; exact hgt)]
                  refine if_pos ?_
                  rw [show (fr4 { F with ws := nw, t0 := y0, t1 := y1, t2 := y2 } p0 p1 p2 o).out = o from rfl, HB2.out.2.2, ← HDF.out]
                  exact hM
                rw [hRn]
                obtain ⟨v1, v3, v4, v5, v6, v7⟩ := HC2.out
                have hpre : F.out <+: o ++ ls.take s1 := List.IsPrefix.trans HW.out.2.2.2.2.2.2.1 (List.prefix_append _ _)
                exact ⟨rfl, _, _, _, _, _, _, IsFr.keep v1 hk9 (fun h => h), v3.keep hk9 (fun _ _ h => h), hpre, HC7.out.trans (v4.quiet hk9)⟩
              · have hMd : decide (df < (s2 : Int)) = false := decide_eq_false hM
                have HCp := hid (copy_any (s1, s2, s3) HW.out.2.2.2.2.2.2.2.2.2.2 (IsFr.keep v1 hk9 (fun h => h)) (v3.keep hk9 (fun _ _ h => h)) (v4.ne HL7.out.fl HL7.out.ne) HL7.out.win w8 w9 w10 (by
                  show (o ++ ls.take s1).length + s2 ≤ 1073741824
                  rw [HB2.out.2.2]
                  omega))
                clear v1 v3 v4 v5 v6 v7
                go_wp2_with fail
                refine region_last (fun W => W.cell? ⟨sb, 0, none⟩ = some (.int .i64 (s1 : Int)) ∧ W.cell? ⟨sb, 1, none⟩ = some (.int .i64 (s2 : Int)) ∧ W.cell? ⟨sb, 2, none⟩ = some (.int .i64 (s3 : Int))) 16 mx HB9.out (fun hS => ?_)
                refine tk (i := 0) (v := ?_) rfl (by kernel_rfl) (fun _ _ _ h => h) (by rfl) ?_ (by assumption) ?_
                rotate_left 1
                · intro w hSw; (try dsimp only at hSw); (try obtain ⟨hSw1, hSw2, hSw3⟩ := hSw); (go_simp <;> with_reducible rfl)
                simp only [Act.put, tA, tB, tD, tE, tF]
                refine tk (i := 1) (v := ?_) rfl (by kernel_rfl) (fun _ _ _ h => h) (by rfl) ?_ (by assumption) ?_
                rotate_left 1
                · intro w hSw; (try dsimp only at hSw); (try obtain ⟨hSw1, hSw2, hSw3⟩ := hSw); (go_simp <;> with_reducible rfl)
                simp only [Act.put, tA, tB, tC, tD, tE, tF]
                refine tk (i := 2) (v := ?_) rfl (by kernel_rfl) (fun _ _ _ h => h) (by rfl) ?_ (by assumption) ?_
                rotate_left 1
                · intro w hSw; (try dsimp only at hSw); (try obtain ⟨hSw1, hSw2, hSw3⟩ := hSw); (go_simp <;> with_reducible rfl)
                simp only [Act.put, tA, tB, tC, tD, tE, tF]
                refine tk (i := 3) (v := ?_) rfl (by kernel_rfl) (fun _ _ _ h => h) (by rfl) ?_ (by assumption) ?_
                rotate_left 1
                · intro w hSw; (try dsimp only at hSw); (try obtain ⟨hSw1, hSw2, hSw3⟩ := hSw); (go_simp <;> with_reducible rfl)
                simp only [Act.put, tA, tB, tC, tD, tE, tF]
                refine tk (i := 4) (v := ?_) rfl (by kernel_rfl) (fun _ _ _ h => h) (by rfl) ?_ (by assumption) ?_
                rotate_left 1
                · intro w hSw; (try dsimp only at hSw); (try obtain ⟨hSw1, hSw2, hSw3⟩ := hSw); (go_simp <;> with_reducible rfl)
                simp only [Act.put, tA, tB, tC, tD, tE, tF]
                refine tk (i := 5) (v := ?_) rfl (by kernel_rfl) (fun _ _ _ h => h) (by rfl) ?_ (by assumption) ?_
                rotate_left 1
                · intro w hSw; (try dsimp only at hSw); (try obtain ⟨hSw1, hSw2, hSw3⟩ := hSw); (go_simp <;> with_reducible rfl)
                simp only [Act.put, tA, tB, tC, tD, tE, tF]
                refine last_one (j := 6) (by kernel_rfl) rfl (fun K hK => ?_)
                rw [if_pos (by rfl)]
                simp only [tA, tB, tC]
                go_simp
                refine hK.out _ _ (fun _ => HB9.out) ?_
                clear hK K
                refine last_one (j := 7) (by kernel_rfl) rfl (fun K hK => ?_)
                rw [if_pos (by rfl)]
                simp only [tA, tB, tC]
                go_simp
                refine hK.out _ _ (fun _ => HB9.out) ?_
                clear hK K
                refine last_one (j := 8) (by kernel_rfl) rfl (fun K hK => ?_)
                rw [if_pos (by rfl)]
                simp only [tA, tB, tC]
                go_simp
                refine hK.out _ _ (fun _ => HB9.out) ?_
                clear hK K
                refine last_one (j := 9) (by kernel_rfl) rfl (fun K hK => ?_)
                rw [if_pos (by rfl)]
                simp only [tA, tB, tC]
                go_simp
                refine hK.out _ _ (fun _ => HB9.out) ?_
                clear hK K
                refine last_one (j := 10) (by kernel_rfl) rfl (fun K hK => ?_)
                rw [if_pos (by rfl)]
                simp only [tA, tB, tC]
                go_simp
                refine hK.out _ _ (fun _ => HB9.out) ?_
                clear hK K
                refine tk (i := 11) (v := ?_) rfl (by kernel_rfl) (fun _ _ _ h => h) (by rfl) ?_ (by assumption) ?_
                rotate_left 1
                · intro w hSw; (try dsimp only at hSw); (try obtain ⟨hSw1, hSw2, hSw3⟩ := hSw); (go_simp <;> with_reducible rfl)
                simp only [Act.put, tA, tB, tC, tD, tE, tF]
                refine tk (i := 12) (v := ?_) rfl (by kernel_rfl) (fun _ _ _ h => h) (by rfl) ?_ (by assumption) ?_
                rotate_left 1
                · intro w hSw; (try dsimp only at hSw); (try obtain ⟨hSw1, hSw2, hSw3⟩ := hSw); (go_simp <;> with_reducible rfl)
                simp only [Act.put, tA, tB, tC, tD, tE, tF]
                refine last_one (j := 13) (by kernel_rfl) rfl (fun K hK => ?_)
                rw [if_pos (by rfl)]
                simp only [tA, tB, tC]
                go_simp
                refine HCp.out.mono ?_
                rintro e W10 ⟨b, rfl, HCA⟩
                have HB10 := (show Hid (W10.cell? ⟨sb, 0, none⟩ = some (.int .i64 (s1 : Int)) ∧ W10.cell? ⟨sb, 1, none⟩ = some (.int .i64 (s2 : Int)) ∧ W10.cell? ⟨sb, 2, none⟩ = some (.int .i64 (s3 : Int))) from by
                  obtain ⟨v1, v3, v4, v5, v6, v7⟩ := HC2.out
                  have hkk : Keep (fun k => k = fb ∨ Value.ownBlock (.slice oa2 N2 oc2) = some k) W9.drew W10 := by
                    rcases HCA.out with ⟨-, F2, ov', -, -, -, q⟩ | ⟨-, -, F2, -, -, -, q⟩
                    · exact q.kp
                    · exact q.kp
                  have hns : ¬ (sb = fb ∨ Value.ownBlock (.slice oa2 N2 oc2) = some sb) := fun e => e.elim (fun e => v7 e.symm) v6
                  exact ⟨keep_cellS hkk hns HB9.out.1, keep_cellS hkk hns HB9.out.2.1, keep_cellS hkk hns HB9.out.2.2⟩)
                refine hK.out _ _ (fun _ => HB10.out) ?_
                clear hK K
                refine last_one (j := 14) (by kernel_rfl) rfl (fun K hK => ?_)
                rw [if_pos (by rfl)]
                simp only [tA, tB, tC]
                go_simp
                refine hK.out _ _ (fun _ => HB10.out) ?_
                clear hK K
                refine last_one (j := 15) (by kernel_rfl) rfl (fun K hK => ?_)
                rw [if_pos (by rfl)]
                simp only [tA, tB, tC]
                go_simp
                refine hK.out _ _ (fun _ => HB10.out) ?_
                clear hK K
                refine last_done (by kernel_rfl) ?_ _
                have hst : (match copyP (fr4 { F with ws := nw, t0 := y0, t1 := y1, t2 := y2 } p0 p1 p2 (o ++ ls.take s1)) (s1, s2, s3) with
                    | none => none
                    | some f2 => stepsP f2 (ls.drop s1) en (ss.drop (i + 1))) = R := by
                  have h6 := HQ6.out
                  rw [stepsP_cons] at h6
                  dsimp only at h6
                  rw [if_neg (show ¬ ls.length < s1 by rw [← HW.out.1]; exact hgt), if_neg (by
                    rw [show (fr4 { F with ws := nw, t0 := y0, t1 := y1, t2 := y2 } p0 p1 p2 o).out = o from rfl, HB2.out.2.2, ← HDF.out]
                    exact Int.not_lt.mpr hM)] at h6
                  exact h6
                cases b with
                | false =>
                  have hRn : R = none := by
                    rcases HCA.out with ⟨q, -⟩ | ⟨-, q, -⟩
                    · cases q
                    · rw [← hst, q]
                  clear HCp hst HB10 HB9 hS
                  go_wp2_with fail
                  go_ret
                  rw [hRn]
                  obtain ⟨v1, v3, v4, v5, v6, v7⟩ := HC2.out
                  have hpre : F.out <+: o ++ ls.take s1 := List.IsPrefix.trans HW.out.2.2.2.2.2.2.1 (List.prefix_append _ _)
                  rcases HCA.out with ⟨q, -⟩ | ⟨-, -, F2, z1, z2, z3, z4⟩
                  · cases q
                  · refine ⟨rfl, F2, _, _, _, _, _, z2, z3, ?_, HC7.out.trans ((v4.quiet hk9).trans z4)⟩
                    rw [z1]
                    exact hpre
                | true =>
                  have HPn := (show Hid (LpS W7 fb { F with ws := nw, t0 := y0, t1 := y1, t2 := y2 } (.slice b0 m0 d0) (.slice b1 m1 d1) (.slice b2 m2 d2) (.slice na nn nc) ov lg en ss R F.out (i + 1) pa2 pn2 (pc - s1) W10) from by
                    obtain ⟨v1, v3, v4, v5, v6, v7⟩ := HC2.out
                    rcases HCA.out with ⟨-, F2, ov', z1, z2, z3, z4⟩ | ⟨q, -⟩
                    · obtain ⟨g0, g1, g2, o3, rfl, h0, h1, h2, h3⟩ := copyP_form (B := 4611686018427387904) (by omega) w8 w9 w10 (show ((s1, s2, s3) : Sp).2.2 ≤ (4611686018427387904 : Int) from by show (s3 : Int) ≤ _; omega) z1
                      rw [z1] at hst
                      have hle : o3.length ≤ en := by
                        have e1 : o3.length = (o ++ ls.take s1).length + s2 := h3
                        rw [HB2.out.2.2] at e1
                        have := HDF.out
                        omega
                      have hpre : F.out <+: o ++ ls.take s1 := List.IsPrefix.trans HW.out.2.2.2.2.2.2.1 (List.prefix_append _ _)
                      exact ⟨g0, g1, g2, o3, ov', ls.drop s1, po2, HP2.out, z2, z3, (v4.quiet hk9).trans z4, HB2.out.1, hst, hle, hpre.trans (copyP_pre z1), h0, h1, h2⟩
                    · cases q)
                  have hpn2b := HB2.out.2.1
                  clear HCp hst HB10 HB9 hS HCA
                  go_wp2_with fail
                  go_roundw
                  case rel => exact ⟨i + 1, pa2, pn2, pc - s1, by go_num, rfl, by have := HLT.out; omega, hpn2b, HPn.out⟩
                  case measure => have := HLT.out; simp [intOf]; omega
          · obtain rfl : i = L := by omega
            have hltI : ¬ (i : Int) < (i : Int) := by omega
            obtain ⟨p0, p1, p2, o, ov1, ls, po, q1, q2, q3, q4, q5, q6, q7, q8, q9, q10, q11⟩ := HP.out
            rw [HLs2.out, List.drop_length, stepsP_nil] at q6
            have q6 : (if (o ++ ls).length ≤ en then some (fr4 { F with ws := nw, t0 := y0, t1 := y1, t2 := y2 } p0 p1 p2 (o ++ ls)) else none) = R := q6
            have hbl := q5.keep q4.kp (fun _ => cos_out q4 HL7.out.lf HL7.out.lo)
            obtain ⟨ov2, v2, r1, r2, r3, r4⟩ := q3.put hbl.src hbl.lt (by have := HL7.out.en; omega) 22
            obtain ⟨oa1, oc1, hov1, hoc1⟩ := q3.slice
            have hnb := q4.ne HL7.out.fl HL7.out.ne
            have hf2 := IsFr.keep q2 r3 (fun e => hnb e)
            obtain ⟨oa2, oc2, e2, -⟩ := r2.slice
            have hco := q4.put r3 r4
            have hkf : Keep (fun k => k = fb) v2 (v2.setCell ⟨fb, 15, none⟩ ov2) := (Keep.refl (fun k => k = fb) v2).setCell (p := ⟨fb, 15, none⟩) (fun _ => rfl) _
            have HE := (show Hid (IsFr (v2.setCell ⟨fb, 15, none⟩ ov2) fb (fr4 { F with ws := nw, t0 := y0, t1 := y1, t2 := y2 } p0 p1 p2 (o ++ ls)) (.slice b0 m0 d0) (.slice b1 m1 d1) (.slice b2 m2 d2) (.slice na nn nc) ov2 ∧ OutF (v2.setCell ⟨fb, 15, none⟩ ov2) ov2 (o ++ ls) ∧ CoS W7 (v2.setCell ⟨fb, 15, none⟩ ov2) fb ov ov2 ∧ F.out <+: o ++ ls ∧ p0 ≤ 4611686018427387904 ∧ p1 ≤ 4611686018427387904 ∧ p2 ≤ 4611686018427387904) from
              ⟨FrAt.out_set hf2 ov2, r2.keep hkf (fun g hg (e : g = fb) => hco.ne HL7.out.fl HL7.out.ne (by rw [hg, e])), hco.atf hkf, q8.trans (List.prefix_append _ _), q9, q10, q11⟩)
            obtain ⟨N1, hN1⟩ : ∃ N1, N1 = o.length := ⟨_, rfl⟩
            obtain ⟨N3, hN3⟩ : ∃ N3, N3 = (o ++ ls).length := ⟨_, rfl⟩
            subst e2
            rw [← hN3] at r1 HE q6
            rw [hov1, ← hN1, ← q1] at r1
            have e15 : wr.cell? ⟨fb, 15, none⟩ = some (.slice oa1 N1 oc1) := by rw [hN1, ← hov1]; exact cell_of q2 15
            have e15b : v2.cell? ⟨fb, 15, none⟩ = some (.slice oa1 N1 oc1) := by rw [hN1, ← hov1]; exact cell_of hf2 15
            have f15b : v2.frozen? ⟨fb, 15, none⟩ = false := frozen_of hf2 15
            have HQ6 := hid q6
            have hN3b : (N3 : Int) ≤ 16908288 + 524304 := by
              have := HL7.out.en
              rw [List.length_append] at hN3
              omega
            have HN3 := hid hN3
            clear q1 q2 q3 q4 q5 q6 q7 q8 q9 q10 q11 hbl r2 r3 r4 hoc1 hov1 hnb hf2 hco hkf hN1 hN3 HP
            by_cases hle : N3 ≤ en
            · have hleI : (N3 : Int) ≤ (en : Int) := by omega
              have hled : decide (N3 ≤ en) = true := decide_eq_true hle
              go_wp2_with (at_builtin; refine wpList_append_run _ rfl _ _ 22 rfl _ _ _ _ rfl rfl r1 ?_)
              go_ret
              rw [← HQ6.out, if_pos hle]
              obtain ⟨e1, e2, e3, e4, e5, e6, e7⟩ := HE.out
              have hkk : Keep (fun k => k = fb ∨ ov.ownBlock = some k) W5 (v2.setCell ⟨fb, 15, none⟩ (.slice oa2 N3 oc2)) := (HL7.out.kt.mono (T := fun k => k = fb ∨ ov.ownBlock = some k) (fun _ _ q => .inl q)).trans' e3.kp
              have hfbl : fb < w.heap.size := HI.out.fr.lt
              have hnew : ∀ k, w.heap.size ≤ k → ¬ (k = fb ∨ ov.ownBlock = some k) := fun k hk e => by
                rcases e with e | e
                · omega
                · have := HI.out.out.block e
                  omega
              have hap : ∀ (v : Value) (t : Option Tb), IsTs W5 v t → NwS w.heap.size v → Apart (fun k => Value.ownBlock (.slice oa2 N3 oc2) = some k) v := fun v t ht hv p n c e q => by
                have q' : Value.ownBlock (.slice oa2 N3 oc2) = some p.block := q
                have h1 := hv p n c e
                have h2 := (ht.there p n c e).1
                have h3 := HL7.out.kt.size
                rcases e3.nw with e | ⟨k, e, hk⟩
                · rw [e] at q'
                  have := HI.out.out.block q'
                  omega
                · rw [e] at q'
                  have := Option.some.inj q'
                  omega
              have hng := HLB.out.2.2.2.1
              have hnn := HLB.out.2.2.2.2.2
              have hbn := (HLB.out.2.1.keep HT5.out.kp (fun _ h => h)).keep hkk (fun _ => hnew ng hng)
              rw [hnn] at e1
              have hok := HI.out.ok
              refine ⟨rfl, _, _, _, na, nc, ng, no, _, ⟨e1, HT5.out.t0.keepS hkk (fun p n c e => hnew _ (HT5.out.n0 p n c e)), HT5.out.t1.keepS hkk (fun p n c e => hnew _ (HT5.out.n1 p n c e)), HT5.out.t2.keepS hkk (fun p n c e => hnew _ (HT5.out.n2 p n c e)), hbn, e2, e3.ne HL7.out.fl HL7.out.ne, hap _ _ HT5.out.t0 HT5.out.n0, hap _ _ HT5.out.t1 HT5.out.n1, hap _ _ HT5.out.t2 HT5.out.n2, fun hne => hbn.block hne, fun hne e => ?_, fun _ => by omega, ⟨hok.win, hok.siz, e5, e6, e7, hok.fl, hok.bud, HU.out.2.1, HT5.out.good.1, HT5.out.good.2.1, HT5.out.good.2.2⟩⟩, HC7.out.trans e3, HT5.out.n0, HT5.out.n1, HT5.out.n2, fun _ => hng⟩
              have hgl := (HLB.out.2.1.keep HT5.out.kp (fun _ h => h)).block hne
              rcases e3.nw with q | ⟨k, q, hk⟩
              · rw [q] at e
                have := HI.out.out.block e
                omega
              · rw [q] at e
                have := Option.some.inj e
                have := HL7.out.kt.size
                omega
            · have hleI : ¬ (N3 : Int) ≤ (en : Int) := by omega
              have hled : decide (N3 ≤ en) = false := decide_eq_false hle
              go_wp2_with (at_builtin; refine wpList_append_run _ rfl _ _ 22 rfl _ _ _ _ rfl rfl r1 ?_)
              go_ret
              rw [← HQ6.out, if_neg hle]
              obtain ⟨e1, e2, e3, e4, e5, e6, e7⟩ := HE.out
              exact ⟨rfl, _, _, _, _, _, _, e1, e2, e4, HC7.out.trans e3⟩
  · have hecb : (ecI != 0) = true := by
      have := HL1.out.1
      simp; omega
    go_wp2_with fail
    go_ret
    have hRn : R = none := by
      rw [HR.out]
      refine unpackP_n1 ?_
      rw [← HMm.out, HLO.out, if_neg hec]
    rw [hRn]
    have k1 := HL1.out.2.1
    exact ⟨rfl, F, _, _, _, _, ov, IsFr.keep HI.out.fr k1 (fun h => h), HI.out.out.keep k1 (fun _ _ h => h), List.prefix_refl _, (CoS.refl w fb ov).quiet k1⟩
end
end
end Go.Proofs.YtnjilcokkhodmaaGreatDoor
