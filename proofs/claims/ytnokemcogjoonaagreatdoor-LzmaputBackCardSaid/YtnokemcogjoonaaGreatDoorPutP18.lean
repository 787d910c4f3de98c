/-
  here: the longest match at the present place among those that are tried.
  step of the chains.
  step of the marks, and skip of a search.
  widen: a match begins earlier, as far as the bytes there are like ones.
-/
import Derived.Test.YtnokemcogjoonaaGreatDoorPutP17
namespace Go.Proofs.YtnokemcogjoonaaGreatDoor.Fd
open Go.RowKit Go.Shelf
set_option linter.unusedVariables false

/-- Three numbers, as a block holds them. -/
abbrev trio (a m b : Nat) : Array Value := #[.int .i64 (a : Int), .int .i64 (m : Int), .int .i64 (b : Int)]
/-- What here holds: the search, and two matches in memory of its own. -/
structure HereS (w W : World) (c : Cf) (p told vain gr gm a m b : Nat) : Prop where
  sw : IsS w c p told vain p p
  k : Keep noBlock w W
  r : W.heap[gr]? = some (.cells #[.int .i64 0, .int .i64 0, .int .i64 0] 145 (0, 0))
  t : W.heap[gm]? = some (.cells (trio a m b) 145 (0, 0))
  rl : w.heap.size ≤ gr
  ml : w.heap.size ≤ gm
  ne : gr ≠ gm
theorem HereS.keep {w W W' : World} {c : Cf} {p told vain gr gm a m b : Nat} (h : HereS w W c p told vain gr gm a m b) (hk : Keep noBlock W W') : HereS w W' c p told vain gr gm a m b :=
  ⟨h.sw, h.k.trans' hk, hk.obj h.r (fun h => h), hk.obj h.t (fun h => h), h.rl, h.ml, h.ne⟩
theorem HereS.s {w W : World} {c : Cf} {p told vain gr gm a m b : Nat} (h : HereS w W c p told vain gr gm a m b) : IsS W c p told vain p p := h.sw.still h.k
theorem HereS.put {w W : World} {c : Cf} {p told vain gr gm a m b : Nat} (h : HereS w W c p told vain gr gm a m b) (a' m' b' : Nat) :
    HereS w (((W.setCell ⟨gm, 0, none⟩ (.int .i64 (a' : Int))).setCell ⟨gm, 1, none⟩ (.int .i64 (m' : Int))).setCell ⟨gm, 2, none⟩ (.int .i64 (b' : Int))) c p told vain gr gm a' m' b' :=
  ⟨h.sw, keep3 h.k h.ml _ _ _, set_far (set_far (set_far h.r h.ne _ _) h.ne _ _) h.ne _ _, put3 h.t _ _ _, h.rl, h.ml, h.ne⟩
/-- The best one so far, and how long it is. -/
def Best (c : Cf) (p a m b z : Nat) : Prop := ((a = 0 ∧ m = 0 ∧ b = 0) ∧ z + 1 = c.least) ∨ (a = p ∧ OkM c a m b ∧ z = m)

section
attribute [local go_sem] maxSem_eq
set_option maxRecDepth 100000 in
set_option maxHeartbeats 4000000 in
theorem here_any (c : Cf) (p told vain : Nat) (w : World) (h : IsS w c p told vain p p) (hp : p ≤ c.bs.length) (hv : vain < 1000000) :
    Calls Tryz.prog 66 #[.pointer (some ⟨c.sb, 0, none⟩)] w fun e w' => (∃ a m b : Nat, e = .returned (.agg (trio a m b)) ∧ ((a = 0 ∧ m = 0 ∧ b = 0) ∨ (a = p ∧ OkM c a m b)) ∧ (Full c p → m = limN c p)) ∧ Keep noBlock w w' := by
  have hn := h.ok.n
  have hl2 := h.ok.l2
  have hl3 := h.ok.l3
  have hm2 := h.ok.m2
  obtain ⟨gr, hgr⟩ : ∃ gr, gr = w.heap.size := ⟨_, rfl⟩
  obtain ⟨W0, hW0⟩ : ∃ W0, W0 = w.alloc (.cells #[.int .i64 0, .int .i64 0, .int .i64 0] 145) := ⟨_, rfl⟩
  have k0 : Keep noBlock w W0 := by rw [hW0]; exact (Keep.refl _ w).alloc _
  have h0 := h.still k0
  have z0 : W0.heap[gr]? = some (.cells #[.int .i64 0, .int .i64 0, .int .i64 0] 145 (0, 0)) := by rw [hW0, hgr]; exact alloc_new w _
  have HM := marked_any c p told vain W0 h0 hp
  have HS := (show Hid (IsS w c p told vain p p ∧ Keep noBlock w W0 ∧ W0.heap[gr]? = some (.cells #[.int .i64 0, .int .i64 0, .int .i64 0] 145 (0, 0)) ∧ w.heap.size ≤ gr) from ⟨h, k0, z0, Nat.le_of_eq hgr.symm⟩)
  clear h h0 k0 z0
  go_enter Tryz.func66, Tryz.ntmps66
  go_wp2_with fail
  refine wp_scope_straight ?_
  go_wp2_with fail
  rw [← hW0, ← hgr]
  clear hW0 hgr
  refine HM.mono ?_
  rintro e W1 ⟨⟨a, m, b, rfl, hab⟩, k1⟩
  clear HM
  obtain ⟨gm, hgm⟩ : ∃ gm, gm = W1.heap.size := ⟨_, rfl⟩
  obtain ⟨W2, hW2⟩ : ∃ W2, W2 = W1.alloc (.cells (trio a m b) 145) := ⟨_, rfl⟩
  have HC := (show Hid (HereS w W2 c p told vain gr gm a m b) from by
    have ka : Keep noBlock W1 W2 := by rw [hW2]; exact (Keep.refl _ W1).alloc _
    have kb := k1.trans' ka
    refine ⟨HS.out.1, HS.out.2.1.trans' kb, kb.obj HS.out.2.2.1 (fun h => h), by rw [hW2, hgm]; exact alloc_new W1 _, HS.out.2.2.2, by rw [hgm]; exact (HS.out.2.1.trans' k1).size, ?_⟩
    have := obj_lt (k1.obj HS.out.2.2.1 (fun h => h))
    omega)
  obtain ⟨l1, hl1⟩ : ∃ l1, l1 = c.least - 1 := ⟨_, rfl⟩
  have hsub : (c.least : Int) - 1 = (l1 : Int) := by omega
  obtain ⟨z, hz⟩ : ∃ z, z = max m l1 := ⟨_, rfl⟩
  have hmax := maxSem_run #[3, 3] 3 (m : Int) (l1 : Int) (z : Int) (by omega)
  have HB := (show Hid (Best c p a m b z) from by
    rcases hab with ⟨rfl, rfl, rfl⟩ | ⟨e1, e2⟩
    · exact .inl ⟨⟨rfl, rfl, rfl⟩, by omega⟩
    · exact .inr ⟨e1, e2, by have := e2.lo; omega⟩)
  have HA := (show Hid (2 ≤ c.least ∧ c.least ≤ c.most ∧ 1 ≤ c.window) from ⟨hl2, hl3, HC.out.s.ok.w1⟩)
  have c3 : W2.cell? ⟨c.sb, 3, none⟩ = some (.int .i64 (c.least : Int)) := cell_of HC.out.s.obj 3
  have cm : W2.cell? ⟨gm, 1, none⟩ = some (.int .i64 (m : Int)) := cell_of HC.out.t 1
  clear hab k1 HS hl1 hz
  go_wp2_with fail
  rw [← hW2, ← hgm]
  clear hW2 hgm
  go_quiet (fail)
  go_wp2_with fail
  refine (limit_any c p told vain p p _ (HC.out.s.drewN nq) hp).mono ?_
  rintro e W3 ⟨rfl, k3, rfl⟩
  have HC3 := (show Hid (HereS w ((W2.drewN nq).drewN k3) c p told vain gr gm a m b) from HC.out.keep ((keep_drewN _ _).trans' (keep_drewN _ _)))
  clear HC c3 cm hmax hsub
  generalize (W2.drewN nq).drewN k3 = W3 at *
  obtain ⟨l, hl⟩ : ∃ l, l = limN c p := ⟨_, rfl⟩
  have HLE := (show Hid (l = limN c p) from hl)
  rw [← hl]
  clear hl
  go_wp2_with fail
  refine (head_any c p told vain p W3 HC3.out.s hp).mono ?_
  rintro e W4 ⟨⟨v, rfl, hvp, hv1, hv2⟩, k4, rfl⟩
  have HC4 := (show Hid (HereS w (W3.drewN k4) c p told vain gr gm a m b) from HC3.out.keep (keep_drewN _ _))
  have HV := (show Hid (v ≤ p ∧ (1 ≤ v → p + c.least ≤ c.bs.length) ∧ (Full c p → v = p)) from ⟨hvp, hv1, fun hf => hv2 hf.p1 hf.fits (fun i hi => hf.same i (by have := hf.fits; unfold limN; omega))⟩)
  clear HC3 hvp hv1 hv2
  generalize W3.drewN k4 = W4 at *
  go_wp2_with fail
  refine wp_label ?_
  go_wp2_with fail
  refine (tries_any c p told vain p p W4 HC4.out.s hv).mono ?_
  rintro e W5 ⟨t, ht1, ht2, rfl, k5, rfl⟩
  have HC5 := (show Hid (HereS w (W4.drewN k5) c p told vain gr gm a m b) from HC4.out.keep (keep_drewN _ _))
  clear HC4
  generalize W4.drewN k5 = W5 at *
  go_wp2_with fail
  go_loopw [4, 6, 26] (fun v4 v6 v26 wr => ∃ z v i a m b : Nat, v4 = .int .i64 (z : Int) ∧ v6 = .int .i64 ((v : Int) - 1) ∧ v26 = .int .i64 (i : Int) ∧ i ≤ t ∧
    Hid (HereS w wr c p told vain gr gm a m b ∧ Best c p a m b z ∧ v ≤ p ∧ (1 ≤ v → p + c.least ≤ c.bs.length) ∧ (Full c p → z = limN c p ∨ (i = 0 ∧ v = p)))) (fun _ _ v26 _ => t - (intOf v26).toNat)
  case atStart => exact ⟨z, v, 0, a, m, b, rfl, rfl, rfl, Nat.zero_le _, HC5.out, HB.out, HV.out.1, HV.out.2.1, fun hf => .inr ⟨rfl, HV.out.2.2 hf⟩⟩
  case round =>
    clear HC5 HB HV
    obtain ⟨z, v, i, a, m, b, rfl, rfl, rfl, hit, HR⟩ := hrel
    by_cases hlt : i < t
    · have hltI : (i : Int) < (t : Int) := by omega
      obtain ⟨r1, r2, r3, r4, r5⟩ := HR.out
      by_cases hv0 : v = 0
      · have HRE := reaches_neg c p told vain p p ((v : Int) - 1) wr r1.s (by omega)
        have HF := (show Hid (((a = 0 ∧ m = 0 ∧ b = 0) ∨ (a = p ∧ OkM c a m b)) ∧ (Full c p → m = limN c p)) from
          ⟨r2.imp (fun h => h.1) (fun h => ⟨h.1, h.2.1⟩), fun hf => by
            have hzl : z = limN c p := by
              rcases r5 hf with e | e
              · exact e
              · have := hf.p1; omega
            rcases r2 with ⟨q1, q2⟩ | ⟨q1, q2, q3⟩
            · exfalso
              have := hf.fits; have := HA.out; unfold limN at hzl; omega
            · omega⟩)
        have HE0 := (show Hid (HereS w wr c p told vain gr gm a m b) from r1)
        clear r1 r2 r3 r4 r5 HR hv0
        go_wp2_with fail
        refine HRE.mono ?_
        rintro e W6 ⟨rfl, k6, rfl⟩
        have HE := (show Hid (HereS w (wr.drewN k6) c p told vain gr gm a m b) from HE0.out.keep (keep_drewN _ _))
        clear HE0 HRE
        generalize wr.drewN k6 = W6 at *
        have g0 : W6.cell? ⟨gm, 0, none⟩ = some (.int .i64 (a : Int)) := cell_of HE.out.t 0
        have g1 : W6.cell? ⟨gm, 1, none⟩ = some (.int .i64 (m : Int)) := cell_of HE.out.t 1
        have g2 : W6.cell? ⟨gm, 2, none⟩ = some (.int .i64 (b : Int)) := cell_of HE.out.t 2
        have u0 : W6.cell? ⟨gr, 0, none⟩ = some (.int .i64 0) := cell_of HE.out.r 0
        have u1 : W6.cell? ⟨gr, 1, none⟩ = some (.int .i64 0) := cell_of HE.out.r 1
        have u2 : W6.cell? ⟨gr, 2, none⟩ = some (.int .i64 0) := cell_of HE.out.r 2
        have t0 := frozen_of HE.out.r 0
        have t1 := frozen_of HE.out.r 1
        have t2 := frozen_of HE.out.r 2
        go_wp2_with fail
        simp only [Exit.noGoto]
        refine bodyPost_ret (ret63 rfl _ _ gr 145 _ rfl (put3 HE.out.r _ _ _) rfl) rfl ?_
        exact ⟨⟨a, m, b, rfl, HF.out.1, HF.out.2⟩, keep3 HE.out.k HE.out.rl _ _ _⟩
      · obtain ⟨q, hq⟩ : ∃ q, q = v - 1 := ⟨_, rfl⟩
        have hvq : (v : Int) - 1 = (q : Int) := by omega
        have HRE := reaches_pos c p told vain p p q wr r1.s (by omega) (by omega)
        by_cases hw : p - q ≤ c.window
        · rw [decide_eq_true hw] at HRE
          by_cases hzl0 : z = l
          · have hzb : ((z : Int) == (l : Int)) = true := by simp [hzl0]
            have HF := (show Hid (((a = 0 ∧ m = 0 ∧ b = 0) ∨ (a = p ∧ OkM c a m b)) ∧ (Full c p → m = limN c p)) from
              ⟨r2.imp (fun h => h.1) (fun h => ⟨h.1, h.2.1⟩), fun hf => by
                have hzl : z = limN c p := by
                  exact hzl0.trans HLE.out
                rcases r2 with ⟨q1, q2⟩ | ⟨q1, q2, q3⟩
                · exfalso
                  have := hf.fits; have := HA.out; unfold limN at hzl; omega
                · omega⟩)
            have HE0 := (show Hid (HereS w wr c p told vain gr gm a m b) from r1)
            clear r1 r2 r3 r4 r5 HR hv0 hw hzl0 hq
            go_wp2_with fail
            refine HRE.mono ?_
            rintro e W6 ⟨rfl, k6, rfl⟩
            have HE := (show Hid (HereS w (wr.drewN k6) c p told vain gr gm a m b) from HE0.out.keep (keep_drewN _ _))
            clear HE0 HRE
            generalize wr.drewN k6 = W6 at *
            have g0 : W6.cell? ⟨gm, 0, none⟩ = some (.int .i64 (a : Int)) := cell_of HE.out.t 0
            have g1 : W6.cell? ⟨gm, 1, none⟩ = some (.int .i64 (m : Int)) := cell_of HE.out.t 1
            have g2 : W6.cell? ⟨gm, 2, none⟩ = some (.int .i64 (b : Int)) := cell_of HE.out.t 2
            have u0 : W6.cell? ⟨gr, 0, none⟩ = some (.int .i64 0) := cell_of HE.out.r 0
            have u1 : W6.cell? ⟨gr, 1, none⟩ = some (.int .i64 0) := cell_of HE.out.r 1
            have u2 : W6.cell? ⟨gr, 2, none⟩ = some (.int .i64 0) := cell_of HE.out.r 2
            have t0 := frozen_of HE.out.r 0
            have t1 := frozen_of HE.out.r 1
            have t2 := frozen_of HE.out.r 2
            go_wp2_with fail
            simp only [Exit.noGoto]
            refine bodyPost_ret (ret63 rfl _ _ gr 145 _ rfl (put3 HE.out.r _ _ _) rfl) rfl ?_
            exact ⟨⟨a, m, b, rfl, HF.out.1, HF.out.2⟩, keep3 HE.out.k HE.out.rl _ _ _⟩
          · have hzb : ((z : Int) == (l : Int)) = false := by rw [beq_eq_false_iff_ne]; omega
            have hin := r4 (by omega)
            have hzlt : z < limN c p ∧ c.least ≤ z + 1 := by
              have := HLE.out
              have := HA.out
              rcases r2 with ⟨q1, q2⟩ | ⟨q1, q2, q3⟩
              · unfold limN at *; omega
              · have h1 := q2.lim; have h2 := q2.lo; rw [q1] at h1; omega
            have HW6 := (show Hid (∀ W, IsS W c p told vain p p → _) from fun W hS => with_any c p told vain p p q z W hS hp (by omega) hw hzlt.2 hzlt.1)
            have HQ := (show Hid (q + 1 = v ∧ p + c.least ≤ c.bs.length ∧ q ≤ p) from ⟨by omega, hin, by omega⟩)
            have HB6 := (show Hid (Best c p a m b z ∧ (Full c p → z = limN c p ∨ (i = 0 ∧ v = p)) ∧ z < limN c p) from ⟨r2, r5, hzlt.1⟩)
            have HE0 := (show Hid (HereS w wr c p told vain gr gm a m b) from r1)
            clear r1 r2 r3 r4 r5 HR hv0 hw hzl0 hq hin hzlt
            go_wp2_with fail
            refine HRE.mono ?_
            rintro e W6 ⟨rfl, k6, rfl⟩
            have HE := (show Hid (HereS w (wr.drewN k6) c p told vain gr gm a m b) from HE0.out.keep (keep_drewN _ _))
            clear HE0 HRE
            generalize wr.drewN k6 = W6 at *
            go_wp2_with fail
            refine (HW6.out W6 HE.out.s).mono ?_
            rintro e W7 ⟨⟨a', m', b', rfl, hab', hful⟩, k7⟩
            have HE7 := (show Hid (HereS w W7 c p told vain gr gm a m b) from HE.out.keep k7)
            clear HE HW6 k7
            obtain ⟨gx, hgx⟩ : ∃ gx, gx = W7.heap.size := ⟨_, rfl⟩
            obtain ⟨W8, hW8⟩ : ∃ W8, W8 = W7.alloc (.cells (trio a' m' b') 145) := ⟨_, rfl⟩
            have x0 : W8.heap[gx]? = some (.cells (trio a' m' b') 145 (0, 0)) := by rw [hW8, hgx]; exact alloc_new W7 _
            have HE8 := (show Hid (HereS w W8 c p told vain gr gm a m b) from HE7.out.keep (by rw [hW8]; exact (Keep.refl _ W7).alloc _))
            have v0 : W8.cell? ⟨gx, 0, none⟩ = some (.int .i64 (a' : Int)) := cell_of x0 0
            have v1 : W8.cell? ⟨gx, 1, none⟩ = some (.int .i64 (m' : Int)) := cell_of x0 1
            have v2 : W8.cell? ⟨gx, 2, none⟩ = some (.int .i64 (b' : Int)) := cell_of x0 2
            obtain ⟨i1, hi1⟩ : ∃ i1, i1 = i + 1 := ⟨_, rfl⟩
            have hadd : (i : Int) + 1 = (i1 : Int) := by omega
            have HI1 := (show Hid (i1 = i + 1) from hi1)
            have HG7 := (show Hid (gm < gx) from by rw [hgx]; exact obj_lt HE7.out.t)
            clear HE7 x0 hi1
            by_cases hm0 : m' = 0
            · have hmI : ¬ (0 : Int) < (m' : Int) := by omega
              have HN := (show Hid (Best c p a m b z ∧ (Full c p → z = limN c p ∨ (i1 = 0 ∧ False))) from ⟨HB6.out.1, fun hf => by
                rcases HB6.out.2.1 hf with e | ⟨e1, e2⟩
                · exact .inl e
                · exfalso
                  have hh := hful (by have := HQ.out; omega) (fun j hj => by have := hf.same j hj; rwa [show p - 1 = q from by have := HQ.out; omega] at this)
                  have := HB6.out.2.2; omega⟩)
              clear hab' hful hm0
              go_wp2_with fail
              rw [← hW8, ← hgx]
              clear hW8 hgx v0 v1 v2
              refine (ahead_any c p told vain p q W8 HE8.out.s hp HQ.out.2.2).mono ?_
              rintro e W9 ⟨⟨v', rfl, hv'⟩, k9, rfl⟩
              have HE9 := (show Hid (HereS w (W8.drewN k9) c p told vain gr gm a m b) from HE8.out.keep (keep_drewN _ _))
              clear HE8
              generalize W8.drewN k9 = W9 at *
              go_wp2_with fail
              go_roundw
              case rel => exact ⟨z, v', i1, a, m, b, rfl, rfl, rfl, by have := HI1.out; omega, HE9.out, HN.out.1, hv', fun _ => HQ.out.2.1, fun hf => (HN.out.2 hf).imp id (fun h => h.2.elim)⟩
              case measure => have := HI1.out; simp [intOf]; omega
            · have hmI : (0 : Int) < (m' : Int) := by omega
              have HN := (show Hid (Best c p a' m' b' m' ∧ (Full c p → m' = limN c p)) from by
                rcases hab' with ⟨e1, e2, e3⟩ | ⟨e1, e2, e3⟩
                · omega
                · refine ⟨.inr ⟨e1, e3, rfl⟩, fun hf => ?_⟩
                  rcases HB6.out.2.1 hf with e | ⟨e4, e5⟩
                  · have := HB6.out.2.2; omega
                  · exact hful (by have := HQ.out; omega) (fun j hj => by have := hf.same j hj; rwa [show p - 1 = q from by have := HQ.out; omega] at this))
              have y0 : W8.cell? ⟨gm, 0, none⟩ = some (.int .i64 (a : Int)) := cell_of HE8.out.t 0
              have y1 : W8.cell? ⟨gm, 1, none⟩ = some (.int .i64 (m : Int)) := cell_of HE8.out.t 1
              have y2 : W8.cell? ⟨gm, 2, none⟩ = some (.int .i64 (b : Int)) := cell_of HE8.out.t 2
              have f0 := frozen_of HE8.out.t 0
              have f1 := frozen_of HE8.out.t 1
              have f2 := frozen_of HE8.out.t 2
              have hne1 : gx ≠ gm := by have := HG7.out; omega
              have hne2 : gm ≠ gx := hne1.symm
              clear hab' hful hm0 HB6
              go_wp2_with fail
              rw [← hW8, ← hgx]
              clear hW8 hgx
              go_region
              have HE9 := (show Hid (HereS w ((((W8.setCell ⟨gm, 0, none⟩ (.int .i64 (a' : Int))).setCell ⟨gm, 1, none⟩ (.int .i64 (m' : Int))).setCell ⟨gm, 2, none⟩ (.int .i64 (b' : Int))).drew) c p told vain gr gm a' m' b') from (HE8.out.put a' m' b').keep (Keep.refl _ _).drew)
              clear HE8 y0 y1 y2 f0 f1 f2 v0 v1 v2
              generalize ((((W8.setCell ⟨gm, 0, none⟩ (.int .i64 (a' : Int))).setCell ⟨gm, 1, none⟩ (.int .i64 (m' : Int))).setCell ⟨gm, 2, none⟩ (.int .i64 (b' : Int))).drew) = W9 at *
              go_wp2_with fail
              refine (ahead_any c p told vain p q W9 HE9.out.s hp HQ.out.2.2).mono ?_
              rintro e W10 ⟨⟨v', rfl, hv'⟩, k9, rfl⟩
              have HE10 := (show Hid (HereS w (W9.drewN k9) c p told vain gr gm a' m' b') from HE9.out.keep (keep_drewN _ _))
              clear HE9
              generalize W9.drewN k9 = W10 at *
              go_wp2_with fail
              go_roundw
              case rel => exact ⟨m', v', i1, a', m', b', rfl, rfl, rfl, by have := HI1.out; omega, HE10.out, HN.out.1, hv', fun _ => HQ.out.2.1, fun hf => .inl (HN.out.2 hf)⟩
              case measure => have := HI1.out; simp [intOf]; omega
        · rw [decide_eq_false hw] at HRE
          have HF := (show Hid (((a = 0 ∧ m = 0 ∧ b = 0) ∨ (a = p ∧ OkM c a m b)) ∧ (Full c p → m = limN c p)) from
            ⟨r2.imp (fun h => h.1) (fun h => ⟨h.1, h.2.1⟩), fun hf => by
              have hzl : z = limN c p := by
                rcases r5 hf with e | e
                · exact e
                · exfalso; have := HA.out; omega
              rcases r2 with ⟨q1, q2⟩ | ⟨q1, q2, q3⟩
              · exfalso
                have := hf.fits; have := HA.out; unfold limN at hzl; omega
              · omega⟩)
          have HE0 := (show Hid (HereS w wr c p told vain gr gm a m b) from r1)
          clear r1 r2 r3 r4 r5 HR hv0 hw hq
          go_wp2_with fail
          refine HRE.mono ?_
          rintro e W6 ⟨rfl, k6, rfl⟩
          have HE := (show Hid (HereS w (wr.drewN k6) c p told vain gr gm a m b) from HE0.out.keep (keep_drewN _ _))
          clear HE0 HRE
          generalize wr.drewN k6 = W6 at *
          have g0 : W6.cell? ⟨gm, 0, none⟩ = some (.int .i64 (a : Int)) := cell_of HE.out.t 0
          have g1 : W6.cell? ⟨gm, 1, none⟩ = some (.int .i64 (m : Int)) := cell_of HE.out.t 1
          have g2 : W6.cell? ⟨gm, 2, none⟩ = some (.int .i64 (b : Int)) := cell_of HE.out.t 2
          have u0 : W6.cell? ⟨gr, 0, none⟩ = some (.int .i64 0) := cell_of HE.out.r 0
          have u1 : W6.cell? ⟨gr, 1, none⟩ = some (.int .i64 0) := cell_of HE.out.r 1
          have u2 : W6.cell? ⟨gr, 2, none⟩ = some (.int .i64 0) := cell_of HE.out.r 2
          have t0 := frozen_of HE.out.r 0
          have t1 := frozen_of HE.out.r 1
          have t2 := frozen_of HE.out.r 2
          go_wp2_with fail
          simp only [Exit.noGoto]
          refine bodyPost_ret (ret63 rfl _ _ gr 145 _ rfl (put3 HE.out.r _ _ _) rfl) rfl ?_
          exact ⟨⟨a, m, b, rfl, HF.out.1, HF.out.2⟩, keep3 HE.out.k HE.out.rl _ _ _⟩
    · have hltI : ¬ (i : Int) < (t : Int) := by omega
      obtain ⟨r1, r2, r3, r4, r5⟩ := HR.out
      have HF := (show Hid (((a = 0 ∧ m = 0 ∧ b = 0) ∨ (a = p ∧ OkM c a m b)) ∧ (Full c p → m = limN c p)) from
        ⟨r2.imp (fun h => h.1) (fun h => ⟨h.1, h.2.1⟩), fun hf => by
          have hzl : z = limN c p := by
            rcases r5 hf with e | e
            · exact e
            · omega
          rcases r2 with ⟨q1, q2⟩ | ⟨q1, q2, q3⟩
          · exfalso
            have := hf.fits; have := HA.out; unfold limN at hzl; omega
          · omega⟩)
      have HE := (show Hid (HereS w wr c p told vain gr gm a m b) from r1)
      clear r1 r2 r3 r4 r5 HR
      have g0 : wr.cell? ⟨gm, 0, none⟩ = some (.int .i64 (a : Int)) := cell_of HE.out.t 0
      have g1 : wr.cell? ⟨gm, 1, none⟩ = some (.int .i64 (m : Int)) := cell_of HE.out.t 1
      have g2 : wr.cell? ⟨gm, 2, none⟩ = some (.int .i64 (b : Int)) := cell_of HE.out.t 2
      have u0 : wr.cell? ⟨gr, 0, none⟩ = some (.int .i64 0) := cell_of HE.out.r 0
      have u1 : wr.cell? ⟨gr, 1, none⟩ = some (.int .i64 0) := cell_of HE.out.r 1
      have u2 : wr.cell? ⟨gr, 2, none⟩ = some (.int .i64 0) := cell_of HE.out.r 2
      have t0 := frozen_of HE.out.r 0
      have t1 := frozen_of HE.out.r 1
      have t2 := frozen_of HE.out.r 2
      go_wp2_with fail
      refine bodyPost_ret (ret63 rfl _ _ gr 145 _ rfl (put3 HE.out.r _ _ _) rfl) rfl ?_
      exact ⟨⟨a, m, b, rfl, HF.out.1, HF.out.2⟩, keep3 HE.out.k HE.out.rl _ _ _⟩
end
end Go.Proofs.YtnokemcogjoonaaGreatDoor.Fd

namespace Go.Proofs.YtnokemcogjoonaaGreatDoor.Fd
open Go.RowKit Go.Shelf
set_option linter.unusedVariables false

theorem getD_set (xs : List Nat) (i j x : Nat) : (xs.set i x)[j]?.getD 0 = if i = j ∧ i < xs.length then x else xs[j]?.getD 0 := by
  rw [List.getElem?_set]
  by_cases h1 : i = j
  · subst h1
    by_cases h2 : i < xs.length <;> simp [h2]
  · simp [h1]

theorem srch_step1 (c : Cf) (p told vain p1 p2 : Nat) : ((srch c p told vain p1 p2).setIfInBounds (8 + 3) (.int .u64 ((sumN c.bs c.least (p1 + 1) : Nat) : Int))).setIfInBounds (8 + 1) (.int .i64 ((p1 + 1 : Nat) : Int)) = srch c p told vain (p1 + 1) p2 := rfl
theorem srch_step2 (c : Cf) (p told vain p1 p2 : Nat) : ((srch c p told vain p1 p2).setIfInBounds (16 + 3) (.int .u64 ((sumN c.bs c.far (p2 + 1) : Nat) : Int))).setIfInBounds (16 + 1) (.int .i64 ((p2 + 1 : Nat) : Int)) = srch c p told vain p1 (p2 + 1) := rfl

set_option maxRecDepth 100000 in
set_option maxHeartbeats 4000000 in
theorem chains_step (c : Cf) (p told vain p1 p2 : Nat) (w : World) (h : IsS w c p told vain p1 p2) (hp : p1 ≤ c.bs.length) :
    Calls Tryz.prog 64 #[.pointer (some ⟨c.sb, 8, none⟩)] w fun e w' => e = .returned (.tuple #[]) ∧ IsS w' c p told vain (p1 + 1) p2 ∧ Keep (mine c) w w' := by
  have hn := h.ok.n
  have hm := h.ok.m2
  have hl3 := h.ok.l3
  have hl2 := h.ok.l2
  have h1 := h.ok.h1
  have h2 := h.ok.h2
  have hr := h.ok.r2
  have c8 : w.cell? ⟨c.sb, 8, none⟩ = some (.slice (some ⟨c.gb, c.off, none⟩) c.bs.length c.cap) := cell_of h.obj 8
  have c9 : w.cell? ⟨c.sb, 9, none⟩ = some (.int .i64 (p1 : Int)) := cell_of h.obj 9
  have c10 : w.cell? ⟨c.sb, 10, none⟩ = some (.int .i64 (c.least : Int)) := cell_of h.obj 10
  have c11 : w.cell? ⟨c.sb, 11, none⟩ = some (.int .u64 ((sumN c.bs c.least p1 : Nat) : Int)) := cell_of h.obj 11
  have HK := key_any c.sb 8 (some ⟨c.gb, c.off, none⟩) c.bs.length c.cap p1 c.least (sumN c.bs c.least p1) w c8 c9 c10 c11 (by omega) (by omega)
  have HRS := (show Hid (∀ W, W.heap[c.sb]? = some (.cells (srch c p told vain p1 p2) 142 (0, 0)) → Bytes W (some ⟨c.gb, c.off, none⟩) c.cap c.gb c.off c.bs → Calls Tryz.prog 92 #[.pointer (some ⟨c.sb, 8, none⟩)] W fun e w' => e = .returned (.tuple #[]) ∧ w'.heap[c.sb]? = some (.cells (srch c p told vain (p1 + 1) p2) 142 (0, 0)) ∧ Keep (fun k => k = c.sb) W w') from
    fun W q1 q2 => by
      have := roll_step c.sb 8 c.gb c.off 142 (srch c p told vain p1 p2) _ c.cap p1 c.least c.bs W q1 q2 rfl rfl rfl rfl rfl (by omega) (by omega) (by omega) hn (fun e => h.ok.sg e.symm)
      rwa [srch_step1] at this)
  obtain ⟨hs, os, T⟩ := h.tabs
  by_cases hin : p1 + c.least ≤ c.bs.length
  · rw [decide_eq_true hin] at HK
    rw [sumN_in c.bs c.least p1 hin] at HK
    obtain ⟨ky, hky⟩ : ∃ ky, ky = keyN (hashN c.bs p1 c.least) := ⟨_, rfl⟩
    rw [← hky] at HK
    have hkl : ky < 18446744073709551616 := by rw [hky]; exact keyN_lt _
    obtain ⟨j, hj⟩ : ∃ j, j = ky / 2 ^ (64 - c.hk) := ⟨_, rfl⟩
    have hjl : j < 2 ^ c.hk := by
      rw [hj]
      refine Nat.div_lt_of_lt_mul ?_
      rw [← Nat.pow_add, show 64 - c.hk + c.hk = 64 from by omega]; exact hkl
    have hjI : (j : Int) < ((2 ^ c.hk : Nat) : Int) := by omega
    have hsh : (ky : Int) / 2 ^ (64 - c.hk) = (j : Int) := by rw [hj]; norm_cast
    obtain ⟨v, hv⟩ : ∃ v, v = hs[j]?.getD 0 := ⟨_, rfl⟩
    obtain ⟨i, hi⟩ : ∃ i, i = p1 % 2 ^ c.rk := ⟨_, rfl⟩
    have hpos : 0 < 2 ^ c.rk := Nat.pow_pos (by omega)
    have hple : 2 ^ c.rk ≤ 65536 := Nat.pow_le_pow_right (n := 2) (by omega) hr
    have hil : i < 2 ^ c.rk := by rw [hi]; exact Nat.mod_lt _ hpos
    have hand := and_low p1 c.rk (by omega) hr
    rw [← hi] at hand
    obtain ⟨r1, hr1⟩ : ∃ r1, r1 = 2 ^ c.rk - 1 := ⟨_, rfl⟩
    rw [← hr1] at hand
    obtain ⟨o, ho⟩ : ∃ o, o = os[i]?.getD 0 := ⟨_, rfl⟩
    obtain ⟨pp, hpp⟩ : ∃ pp, pp = p1 + 1 := ⟨_, rfl⟩
    have hadd : (p1 : Int) + 1 = (pp : Int) := by omega
    have hppl : pp < 1000000 := by omega
    rw [← hpp]
    have hvp : v ≤ p1 := by rw [hv]; exact T.hle j
    -- what lies behind the two stores
    have HT := (show Hid (∀ W, Keep noBlock w W → Tabs ((W.setCell ⟨c.ob, i, none⟩ (.int .i32 (v : Int))).setCell ⟨c.hb, j, none⟩ (.int .i32 (pp : Int))) c (hs.set j pp) (os.set i v) pp) from fun W kW => by
      have T' := T.keep kW (fun h => h) (fun h => h)
      refine ⟨?_, by rw [List.length_set]; exact T.hl, fun q => ?_, fun q1 q2 => ?_, ?_, by rw [List.length_set]; exact T.ol, fun q => ?_⟩
      · rw [set_obj (set_far T'.heads h.ok.ho _ _) j _, i32s_set]
      · rw [getD_set]
        have := T.hle q
        split <;> omega
      · have e : pp - 1 = p1 := by omega
        rw [e, ← hky, ← hj, getD_set, if_pos ⟨rfl, by rw [T.hl]; exact hjl⟩]
      · rw [set_far (set_obj T'.older i _) h.ok.ho.symm, i32s_set]
      · rw [getD_set]
        have := T.ole q
        split <;> omega)
    have HF := (show Hid (∀ W, Keep noBlock w W → Keep (mine c) w ((W.setCell ⟨c.ob, i, none⟩ (.int .i32 (v : Int))).setCell ⟨c.hb, j, none⟩ (.int .i32 (pp : Int)))) from fun W kW =>
      ((kW.mono (T := mine c) (fun _ _ h => h.elim)).setCell (p := ⟨c.ob, i, none⟩) (fun _ => .inr (.inr (.inl rfl))) _).setCell (p := ⟨c.hb, j, none⟩) (fun _ => .inr (.inl rfl)) _)
    have HO := (show Hid (∀ W, Keep noBlock w W → ((W.setCell ⟨c.ob, i, none⟩ (.int .i32 (v : Int))).setCell ⟨c.hb, j, none⟩ (.int .i32 (pp : Int))).heap[c.sb]? = some (.cells (srch c p told vain p1 p2) 142 (0, 0)) ∧
      Bytes ((W.setCell ⟨c.ob, i, none⟩ (.int .i32 (v : Int))).setCell ⟨c.hb, j, none⟩ (.int .i32 (pp : Int))) (some ⟨c.gb, c.off, none⟩) c.cap c.gb c.off c.bs ∧ MapOK ((W.setCell ⟨c.ob, i, none⟩ (.int .i32 (v : Int))).setCell ⟨c.hb, j, none⟩ (.int .i32 (pp : Int))) c.mb p2) from fun W kW => by
      have kk : Keep (fun k => k = c.ob ∨ k = c.hb) w ((W.setCell ⟨c.ob, i, none⟩ (.int .i32 (v : Int))).setCell ⟨c.hb, j, none⟩ (.int .i32 (pp : Int))) :=
        ((kW.mono (T := fun k => k = c.ob ∨ k = c.hb) (fun _ _ h => h.elim)).setCell (p := ⟨c.ob, i, none⟩) (fun _ => .inl rfl) _).setCell (p := ⟨c.hb, j, none⟩) (fun _ => .inr rfl) _
      exact ⟨kk.obj h.obj (fun e => e.elim h.ok.so h.ok.sh), h.text.keep kk (fun _ e => e.elim (fun e => h.ok.og e.symm) (fun e => h.ok.hg e.symm)), h.map.keep kk (fun e => e.elim (fun e => h.ok.om e.symm) (fun e => h.ok.hm e.symm))⟩)
    have d9 : ∀ W, Keep noBlock w W → W.cell? ⟨c.sb, 9, none⟩ = some (.int .i64 (p1 : Int)) := fun W kW => cell_of (kW.obj h.obj (fun h => h)) 9
    have d13 : ∀ W, Keep noBlock w W → W.cell? ⟨c.sb, 13, none⟩ = some (.int .i64 ((64 - c.hk : Nat) : Int)) := fun W kW => cell_of (kW.obj h.obj (fun h => h)) 13
    have d14 : ∀ W, Keep noBlock w W → W.cell? ⟨c.sb, 14, none⟩ = some (.slice (some ⟨c.hb, 0, none⟩) (2 ^ c.hk) (2 ^ c.hk)) := fun W kW => cell_of (kW.obj h.obj (fun h => h)) 14
    have d15 : ∀ W, Keep noBlock w W → W.cell? ⟨c.sb, 15, none⟩ = some (.slice (some ⟨c.ob, 0, none⟩) (2 ^ c.rk) (2 ^ c.rk)) := fun W kW => cell_of (kW.obj h.obj (fun h => h)) 15
    have dh : ∀ W, Keep noBlock w W → W.cell? ⟨c.hb, j, none⟩ = some (.int .i32 (v : Int)) := fun W kW => by
      rw [cell_of (kW.obj T.heads (fun h => h)) j, hv, List.getElem?_toArray]; exact i32s_at hs j (by rw [T.hl]; exact hjl)
    have do_ : ∀ W, Keep noBlock w W → W.cell? ⟨c.ob, i, none⟩ = some (.int .i32 (o : Int)) := fun W kW => by
      rw [cell_of (kW.obj T.older (fun h => h)) i, ho, List.getElem?_toArray]; exact i32s_at os i (by rw [T.ol]; exact hil)
    have fh : ∀ W, Keep noBlock w W → W.frozen? ⟨c.hb, j, none⟩ = false := fun W kW => frozen_of (kW.obj T.heads (fun h => h)) j
    have fo : ∀ W, Keep noBlock w W → W.frozen? ⟨c.ob, i, none⟩ = false := fun W kW => frozen_of (kW.obj T.older (fun h => h)) i
    have HD := (show Hid (∀ W, Keep noBlock w W → W.cell? ⟨c.sb, 9, none⟩ = some (.int .i64 (p1 : Int)) ∧ W.cell? ⟨c.sb, 13, none⟩ = some (.int .i64 ((64 - c.hk : Nat) : Int)) ∧ W.cell? ⟨c.sb, 14, none⟩ = some (.slice (some ⟨c.hb, 0, none⟩) (2 ^ c.hk) (2 ^ c.hk)) ∧ W.cell? ⟨c.sb, 15, none⟩ = some (.slice (some ⟨c.ob, 0, none⟩) (2 ^ c.rk) (2 ^ c.rk)) ∧
      W.cell? ⟨c.hb, j, none⟩ = some (.int .i32 (v : Int)) ∧ W.cell? ⟨c.ob, i, none⟩ = some (.int .i32 (o : Int)) ∧ W.frozen? ⟨c.hb, j, none⟩ = false ∧ W.frozen? ⟨c.ob, i, none⟩ = false) from fun W kW => ⟨d9 W kW, d13 W kW, d14 W kW, d15 W kW, dh W kW, do_ W kW, fh W kW, fo W kW⟩)
    have HOK := (show Hid (Ok c) from h.ok)
    have hne1 : c.ob ≠ c.hb := h.ok.ho.symm
    have hne2 : c.hb ≠ c.ob := h.ok.ho
    have hne3 : c.sb ≠ c.ob := h.ok.so
    have hkk : 64 - c.hk < 64 := by omega
    have HPP := (show Hid (pp = p1 + 1) from hpp)
    clear h T c8 c9 c10 c11 hky hkl hj hv hjl hin hi ho hpp d9 d13 d14 d15 dh do_ fh fo
    generalize 64 - c.hk = sh at *
    generalize 2 ^ c.hk = hn2 at *
    generalize 2 ^ c.rk = r at *
    have hsub : (r : Int) - 1 = (r1 : Int) := by omega
    have hiI : (i : Int) < (r : Int) := by omega
    clear hr1
    go_enter Tryz.func64, Tryz.ntmps64
    go_wp2_with fail
    refine HK.mono ?_
    rintro e w1 ⟨rfl, k1, rfl⟩
    clear HK
    have kW1 := keep_drewN w k1
    obtain ⟨e9, e13, e14, e15, eh, eo, gh, go⟩ := HD.out _ kW1
    generalize w.drewN k1 = W1 at *
    go_wp2_with fail
    go_quiet (fail)
    go_wp2_with fail
    have kW2 := kW1.trans' (keep_drewN W1 nq)
    clear e9 e13 e14 e15 eh eo gh go kW1
    obtain ⟨e9, e13, e14, e15, eh, eo, gh, go⟩ := HD.out _ kW2
    have HK2 := (show Hid (Keep noBlock w (W1.drewN nq)) from kW2)
    clear HD kW2
    generalize W1.drewN nq = W2 at *
    go_region
    go_wp2_with fail
    have kF := HF.out W2 HK2.out
    have tF := HT.out W2 HK2.out
    obtain ⟨oF, bF, mF⟩ := HO.out W2 HK2.out
    have kF' := kF.drew
    have HFIN := (show Hid (∀ w', w'.heap[c.sb]? = some (.cells (srch c p told vain pp p2) 142 (0, 0)) → Keep (fun k => k = c.sb) (((W2.setCell ⟨c.ob, i, none⟩ (.int .i32 (v : Int))).setCell ⟨c.hb, j, none⟩ (.int .i32 (pp : Int))).drew) w' → IsS w' c p told vain pp p2 ∧ Keep (mine c) w w') from fun w' q1 q2 =>
      ⟨⟨HOK.out, q1, ⟨_, _, (show Tabs ((((W2.setCell ⟨c.ob, i, none⟩ (.int .i32 (v : Int))).setCell ⟨c.hb, j, none⟩ (.int .i32 (pp : Int))).drew)) c (hs.set j pp) (os.set i v) pp from tF.keep (Keep.refl noBlock _).drew (fun h => h) (fun h => h)).keep q2 (fun e => HOK.out.sh e.symm) (fun e => HOK.out.so e.symm)⟩,
        (mF.keep (Keep.refl noBlock _).drew (fun h => h)).keep q2 (fun e => HOK.out.sm e.symm), (bF.keep (Keep.refl noBlock _).drew (fun _ h => h)).keep q2 (fun _ e => HOK.out.sg e.symm)⟩,
        kF'.trans q2 (fun i hi e => .inl e)⟩)
    have HC := HRS.out (((W2.setCell ⟨c.ob, i, none⟩ (.int .i32 (v : Int))).setCell ⟨c.hb, j, none⟩ (.int .i32 (pp : Int))).drew) oF (bF.keep (Keep.refl noBlock _).drew (fun _ h => h))
    rw [← HPP.out] at HC
    clear HRS HF HT HO kF tF oF bF mF kF'
    refine HC.mono ?_
    rintro e w3 ⟨rfl, q1, q2⟩
    have HE := (show Hid (IsS w3 c p told vain pp p2 ∧ Keep (mine c) w w3) from HFIN.out w3 q1 q2)
    clear HC HFIN q1 q2
    go_wp2_with fail
    go_end0
    exact ⟨rfl, HE.out.1, HE.out.2⟩
  · rw [decide_eq_false hin] at HK
    have HL := (show Hid (∀ w', w'.heap[c.sb]? = some (.cells (srch c p told vain (p1 + 1) p2) 142 (0, 0)) → Keep (mine c) w w' → Keep (fun k => k = c.sb) w w' → IsS w' c p told vain (p1 + 1) p2) from fun w' q1 q3 q2 =>
      ⟨h.ok, q1, ⟨hs, os, ⟨q2.obj T.heads (fun e => h.ok.sh e.symm), T.hl, fun q => by have := T.hle q; omega, fun a1 a2 => by omega, q2.obj T.older (fun e => h.ok.so e.symm), T.ol, fun q => by have := T.ole q; omega⟩⟩,
        h.map.keep q2 (fun e => h.ok.sm e.symm), h.text.keep q2 (fun _ e => h.ok.sg e.symm)⟩)
    have HC := (show Hid (∀ m, _) from fun m => HRS.out (w.drewN m) h.obj (h.drewN m).text)
    clear h T c8 c9 c10 c11 hin HRS
    go_enter Tryz.func64, Tryz.ntmps64
    go_wp2_with fail
    refine HK.mono ?_
    rintro e w1 ⟨rfl, k1, rfl⟩
    clear HK
    go_wp2_with fail
    refine (HC.out k1).mono ?_
    rintro e w3 ⟨rfl, q1, q2⟩
    have kk : Keep (fun k => k = c.sb) w w3 := (Keep.mono (T := fun k => k = c.sb) (keep_drewN w k1) (fun _ _ h => h.elim)).trans' q2
    have HE := (show Hid (IsS w3 c p told vain (p1 + 1) p2 ∧ Keep (mine c) w w3) from ⟨HL.out w3 q1 (kk.mono (fun _ _ e => .inl e)) kk, kk.mono (fun _ _ e => .inl e)⟩)
    clear HC HL q1 q2 kk
    go_wp2_with fail
    go_end0
    exact ⟨rfl, HE.out.1, HE.out.2⟩
end Go.Proofs.YtnokemcogjoonaaGreatDoor.Fd

namespace Go.Proofs.YtnokemcogjoonaaGreatDoor.Fd
open Go.RowKit Go.Shelf
set_option linter.unusedVariables false

set_option maxRecDepth 100000 in
set_option maxHeartbeats 4000000 in
theorem marks_step (c : Cf) (p told vain p1 p2 : Nat) (w : World) (h : IsS w c p told vain p1 p2) (hp : p2 ≤ c.bs.length) :
    Calls Tryz.prog 65 #[.pointer (some ⟨c.sb, 16, none⟩)] w fun e w' => e = .returned (.tuple #[]) ∧ IsS w' c p told vain p1 (p2 + 1) ∧ Keep (mine c) w w' := by
  have hn := h.ok.n
  have hm := h.ok.m2
  have hl3 := h.ok.l3
  have hf : c.far ≤ 65536 := by unfold Cf.far; omega
  have hf1 : 1 ≤ c.far := by unfold Cf.far; omega
  have HM := mark_any c p told vain p1 p2 w h hp
  have HOK := (show Hid (Ok c) from h.ok)
  have HRS := (show Hid (∀ W, W.heap[c.sb]? = some (.cells (srch c p told vain p1 p2) 142 (0, 0)) → Bytes W (some ⟨c.gb, c.off, none⟩) c.cap c.gb c.off c.bs → Calls Tryz.prog 92 #[.pointer (some ⟨c.sb, 16, none⟩)] W fun e w' => e = .returned (.tuple #[]) ∧ w'.heap[c.sb]? = some (.cells (srch c p told vain p1 (p2 + 1)) 142 (0, 0)) ∧ Keep (fun k => k = c.sb) W w') from
    fun W q1 q2 => by
      have := roll_step c.sb 16 c.gb c.off 142 (srch c p told vain p1 p2) _ c.cap p2 c.far c.bs W q1 q2 rfl rfl rfl rfl rfl (by omega) (by omega) (by omega) hn (fun e => h.ok.sg e.symm)
      rwa [srch_step2] at this)
  have HS := (show Hid (IsS w c p told vain p1 p2) from h)
  -- what lies behind the map's store, and the roll's step
  have HFIN := (show Hid (∀ W w', Keep (fun k => k = c.mb) w W → MapOK W c.mb (p2 + 1) → w'.heap[c.sb]? = some (.cells (srch c p told vain p1 (p2 + 1)) 142 (0, 0)) → Keep (fun k => k = c.sb) W w' → IsS w' c p told vain p1 (p2 + 1) ∧ Keep (mine c) w w') from fun W w' k1 m1 q1 k2 => by
    have kk : Keep (fun k => k = c.mb ∨ k = c.sb) w w' := (k1.mono (fun _ _ e => .inl e)).trans k2 (fun i _ e => .inr e)
    obtain ⟨hs, os, T⟩ := h.tabs
    exact ⟨⟨h.ok, q1, ⟨hs, os, T.keep kk (fun e => e.elim h.ok.hm (fun e => h.ok.sh e.symm)) (fun e => e.elim h.ok.om (fun e => h.ok.so e.symm))⟩, m1.keep k2 (fun e => h.ok.sm e.symm), h.text.keep kk (fun _ e => e.elim (fun e => h.ok.mg e.symm) (fun e => h.ok.sg e.symm))⟩,
      kk.mono (fun _ _ e => e.elim (fun e => .inr (.inr (.inr e))) .inl)⟩)
  obtain ⟨pp, hpp⟩ : ∃ pp, pp = p2 + 1 := ⟨_, rfl⟩
  have hadd : (p2 : Int) + 1 = (pp : Int) := by omega
  have hppl : pp < 1000000 := by omega
  rw [← hpp] at HRS HFIN ⊢
  have HPP := (show Hid (pp = p2 + 1) from hpp)
  clear h hpp
  go_enter Tryz.func65, Tryz.ntmps65
  go_wp2_with fail
  refine HM.mono ?_
  rintro e w1 ⟨⟨ky, d, rfl, hky, -⟩, k1, rfl⟩
  clear HM
  have kW1 := keep_drewN w k1
  have S1 := HS.out.drewN k1
  generalize w.drewN k1 = W1 at *
  cases d with
  | false =>
    have HC := HRS.out W1 S1.obj S1.text
    have HF := (show Hid (∀ w', w'.heap[c.sb]? = some (.cells (srch c p told vain p1 pp) 142 (0, 0)) → Keep (fun k => k = c.sb) W1 w' → IsS w' c p told vain p1 pp ∧ Keep (mine c) w w') from fun w' q1 k2 =>
      HFIN.out W1 w' (kW1.mono (fun _ _ h => h.elim)) (by
        obtain ⟨D, m1, m2, m3⟩ := S1.map
        exact ⟨D, m1.mono (by have := HPP.out; omega), m2, fun kl x hx => by have := m3 kl x hx; have := HPP.out; omega⟩) q1 k2)
    clear HRS HFIN S1 kW1 HS hky
    go_wp2_with fail
    refine HC.mono ?_
    rintro e w3 ⟨rfl, q1, q2⟩
    have HE := (show Hid (IsS w3 c p told vain p1 pp ∧ Keep (mine c) w w3) from HF.out w3 q1 q2)
    clear HC HF q1 q2
    go_wp2_with fail
    go_end0
    exact ⟨rfl, HE.out.1, HE.out.2⟩
  | true =>
    have c17 : W1.cell? ⟨c.sb, 17, none⟩ = some (.int .i64 (p2 : Int)) := cell_of S1.obj 17
    have c21 : W1.cell? ⟨c.sb, 21, none⟩ = some (.map (some c.mb)) := cell_of S1.obj 21
    obtain ⟨W2, hrun, m2, k2⟩ := (S1.still ((Keep.refl noBlock W1).drew)).map.store (by omega) ky hky
    rw [← HPP.out] at hrun m2
    have kk : Keep (fun k => k = c.mb) w W2 := ((kW1.drew).mono (T := fun k => k = c.mb) (fun _ _ h => h.elim)).trans' k2
    have HC := HRS.out W2 (k2.obj S1.obj HOK.out.sm) (S1.text.keep ((Keep.refl (fun k => k = c.mb) W1).drew.trans' k2) (fun _ e => HOK.out.mg e.symm))
    have HF := (show Hid (∀ w', w'.heap[c.sb]? = some (.cells (srch c p told vain p1 pp) 142 (0, 0)) → Keep (fun k => k = c.sb) W2 w' → IsS w' c p told vain p1 pp ∧ Keep (mine c) w w') from fun w' q1 q2 =>
      HFIN.out W2 w' kk m2 q1 q2)
    clear HRS HFIN S1 kW1 HS hky m2 k2 kk
    go_wp2_with fail
    go_region
    go_wp2_with fail
    refine HC.mono ?_
    rintro e w3 ⟨rfl, q1, q2⟩
    have HE := (show Hid (IsS w3 c p told vain p1 pp ∧ Keep (mine c) w w3) from HF.out w3 q1 q2)
    clear HC HF q1 q2
    go_wp2_with fail
    go_end0
    exact ⟨rfl, HE.out.1, HE.out.2⟩

/-- The number at an address. -/
def numAt (w : World) (a : Addr) : Nat := match w.cell? a with
  | some v => (intOf v).toNat
  | none => 0
theorem numAt_of {w : World} {a : Addr} {n : Nat} (h : w.cell? a = some (.int .i64 (n : Int))) : numAt w a = n := by
  unfold numAt; rw [h]; simp [intOf]

theorem srch_at (c : Cf) (p told vain p1 p2 q : Nat) : (srch c p told vain p1 p2).setIfInBounds 5 (.int .i64 (q : Int)) = srch c q told vain p1 p2 := rfl
theorem IsS.setAt {w : World} {c : Cf} {p told vain p1 p2 : Nat} (h : IsS w c p told vain p1 p2) (q : Nat) : IsS (w.setCell ⟨c.sb, 5, none⟩ (.int .i64 (q : Int))) c q told vain p1 p2 ∧ Keep (mine c) w (w.setCell ⟨c.sb, 5, none⟩ (.int .i64 (q : Int))) := by
  have k : Keep (fun k => k = c.sb) w (w.setCell ⟨c.sb, 5, none⟩ (.int .i64 (q : Int))) := (Keep.refl (fun k => k = c.sb) w).setCell (p := ⟨c.sb, 5, none⟩) (fun _ => rfl) _
  obtain ⟨hs, os, T⟩ := h.tabs
  exact ⟨⟨h.ok, (set_obj h.obj 5 _).trans (by rw [srch_at]), ⟨hs, os, T.keep k (fun e => h.ok.sh e.symm) (fun e => h.ok.so e.symm)⟩, h.map.keep k (fun e => h.ok.sm e.symm), h.text.keep k (fun _ e => h.ok.sg e.symm)⟩, k.mono (fun _ _ e => .inl e)⟩

set_option maxRecDepth 100000 in
set_option maxHeartbeats 4000000 in
theorem skip_any (c : Cf) (p told vain to_ : Nat) (w : World) (h : IsS w c p told vain p p) (hp : p ≤ c.bs.length) (ht : to_ ≤ c.bs.length) :
    Calls Tryz.prog 41 #[.pointer (some ⟨c.sb, 0, none⟩), .int .i64 (to_ : Int)] w fun e w' => e = .returned (.tuple #[]) ∧ IsS w' c (max p to_) told vain (max p to_) (max p to_) ∧ Keep (mine c) w w' := by
  have hn := h.ok.n
  have HS := (show Hid (IsS w c p told vain p p) from h)
  clear h
  go_enter Tryz.func41, Tryz.ntmps41
  go_wp2_with fail
  go_loopw [4] (fun _ wr => ∃ q : Nat, p ≤ q ∧ q ≤ max p to_ ∧ Hid (IsS wr c q told vain q q ∧ Keep (mine c) w wr)) (fun _ wr => to_ - numAt wr ⟨c.sb, 5, none⟩)
  case atStart => exact ⟨p, Nat.le_refl _, by omega, HS.out, Keep.refl _ _⟩
  case round =>
    clear HS
    obtain ⟨q, hq1, hq2, HC⟩ := hrel
    have c5 : wr.cell? ⟨c.sb, 5, none⟩ = some (.int .i64 (q : Int)) := cell_of HC.out.1.obj 5
    by_cases hlt : q < to_
    · have hltI : (q : Int) < (to_ : Int) := by omega
      have HA := chains_step c q told vain q q wr HC.out.1 (by omega)
      have HN0 := (show Hid (numAt wr ⟨c.sb, 5, none⟩ = q) from numAt_of c5)
      go_wp2_with fail
      refine HA.mono ?_
      rintro e W1 ⟨rfl, s1, k1⟩
      have HC1 := (show Hid (Keep (mine c) w W1) from HC.out.2.trans' k1)
      have HA1 := marks_step c q told vain (q + 1) q W1 s1 (by omega)
      clear HA k1 HC c5
      go_wp2_with fail
      refine HA1.mono ?_
      rintro e W2 ⟨rfl, s2, k2⟩
      obtain ⟨q1, hq1e⟩ : ∃ q1, q1 = q + 1 := ⟨_, rfl⟩
      have hadd : (q : Int) + 1 = (q1 : Int) := by omega
      rw [← hq1e] at s2
      have c5 : W2.cell? ⟨c.sb, 5, none⟩ = some (.int .i64 (q : Int)) := cell_of s2.obj 5
      have f5 := frozen_of s2.obj 5
      obtain ⟨s3, k3⟩ := s2.setAt q1
      have HE := (show Hid (IsS (W2.setCell ⟨c.sb, 5, none⟩ (.int .i64 (q1 : Int))) c q1 told vain q1 q1 ∧ Keep (mine c) w (W2.setCell ⟨c.sb, 5, none⟩ (.int .i64 (q1 : Int))) ∧ numAt (W2.setCell ⟨c.sb, 5, none⟩ (.int .i64 (q1 : Int))) ⟨c.sb, 5, none⟩ = q1 ∧ q1 = q + 1) from ⟨s3, (HC1.out.trans' k2).trans' k3, numAt_of (cell_of s3.obj 5), hq1e⟩)
      clear HA1 s1 s2 s3 k2 k3 HC1 hq1e
      go_wp2_with fail
      generalize W2.setCell ⟨c.sb, 5, none⟩ (.int .i64 (q1 : Int)) = W3 at *
      go_roundw
      case rel => exact ⟨q1, by have := HE.out.2.2.2; omega, by have := HE.out.2.2.2; omega, HE.out.1, HE.out.2.1⟩
      case measure => have h1 := HE.out.2.2; have h2 := HN0.out; rw [h1.1, h2]; omega
    · have hltI : ¬ (q : Int) < (to_ : Int) := by omega
      have HE := (show Hid (IsS wr c (max p to_) told vain (max p to_) (max p to_) ∧ Keep (mine c) w wr) from by
        rw [show max p to_ = q from by omega]; exact HC.out)
      clear HC
      go_wp2_with fail
      go_end0
      exact ⟨rfl, HE.out.1, HE.out.2⟩
end Go.Proofs.YtnokemcogjoonaaGreatDoor.Fd

namespace Go.Proofs.YtnokemcogjoonaaGreatDoor.Fd
open Go.RowKit Go.Shelf
set_option linter.unusedVariables false

theorem HereS.put2 {w W : World} {c : Cf} {p told vain gr gm a m b : Nat} (h : HereS w W c p told vain gr gm a m b) (a' m' : Nat) :
    HereS w ((W.setCell ⟨gm, 0, none⟩ (.int .i64 (a' : Int))).setCell ⟨gm, 1, none⟩ (.int .i64 (m' : Int))) c p told vain gr gm a' m' b :=
  ⟨h.sw, (h.k.setCell (p := ⟨gm, 0, none⟩) (fun hh => absurd hh (Nat.not_lt.2 h.ml)) _).setCell (p := ⟨gm, 1, none⟩) (fun hh => absurd hh (Nat.not_lt.2 h.ml)) _, set_far (set_far h.r h.ne _ _) h.ne _ _, (set_obj (set_obj h.t 0 _) 1 _).trans rfl, h.rl, h.ml, h.ne⟩
/-- What becomes of a match that is widened. -/
structure Wid (c : Cf) (a m b down a' m' : Nat) : Prop where
  ok : OkM c a' m' b
  le : a' ≤ a
  low : down ≤ a → down ≤ a'
  fin : a' + m' ≤ a + m
  more : m ≤ m'
  same : a + m ≤ down + c.most → a' + m' = a + m
theorem Wid.next {c : Cf} {a m b down a' m' : Nat} (h : Wid c a m b down a' m') (h1 : down < a') (h2 : b < a') (h3 : byteN c.bs (a' - 1) = byteN c.bs (a' - 1 - b)) : Wid c a m b down (a' - 1) (min (m' + 1) c.most) := by
  obtain ⟨⟨o1, o2, o3, o4, o5, o6, o7⟩, e1, e2, e3, e4, e5⟩ := h
  refine ⟨⟨by omega, by omega, by omega, o4, o5, by omega, fun i hi => ?_⟩, by omega, by omega, by omega, by omega, by omega⟩
  by_cases h0 : i = 0
  · subst h0; simpa using h3
  · have := o7 (i - 1) (by omega)
    rw [show a' - 1 + i = a' + (i - 1) from by omega, show a' - 1 - b + i = a' - b + (i - 1) from by omega]
    exact this

section
attribute [local go_sem] minSem_eq
set_option maxRecDepth 100000 in
set_option maxHeartbeats 4000000 in
theorem widen_ok (c : Cf) (p told vain a m b down : Nat) (w : World) (h : IsS w c p told vain p p) (hM : OkM c a m b) :
    Calls Tryz.prog 43 #[.pointer (some ⟨c.sb, 0, none⟩), .agg (trio a m b), .int .i64 (down : Int)] w fun e w' => (∃ a' m' : Nat, e = .returned (.agg (trio a' m' b)) ∧ Wid c a m b down a' m') ∧ Keep noBlock w w' := by
  have hn := h.ok.n
  have hm2 := h.ok.m2
  have HI0 := (show Hid (Wid c a m b down a m) from ⟨hM, Nat.le_refl _, fun h => h, Nat.le_refl _, Nat.le_refl _, fun _ => rfl⟩)
  obtain ⟨gm, hgm⟩ : ∃ gm, gm = w.heap.size := ⟨_, rfl⟩
  obtain ⟨gr, hgr⟩ : ∃ gr, gr = w.heap.size + 1 := ⟨_, rfl⟩
  obtain ⟨W0, hW0⟩ : ∃ W0, W0 = (w.alloc (.cells (trio a m b) 145)).alloc (.cells #[.int .i64 0, .int .i64 0, .int .i64 0] 145) := ⟨_, rfl⟩
  have hsz : (w.alloc (.cells (trio a m b) 145)).heap.size = w.heap.size + 1 := by simp
  have HC := (show Hid (HereS w W0 c p told vain gr gm a m b) from
    ⟨h, by rw [hW0]; exact ((Keep.refl _ w).alloc _).alloc _, by rw [hW0, hgr, ← hsz]; exact alloc_new _ _, by rw [hW0, hgm]; exact alloc_far (alloc_new w _) _, by omega, by omega, by omega⟩)
  clear h hM hsz
  go_enter Tryz.func43, Tryz.ntmps43
  go_wp2_with fail
  try rw [← hW0]
  try rw [← hgr]
  try rw [← hgm]
  clear hW0 hgr hgm
  go_loopw [7] (fun _ wr => ∃ a' m' : Nat, Hid (Wid c a m b down a' m') ∧ Hid (HereS w wr c p told vain gr gm a' m' b)) (fun _ wr => numAt wr ⟨gm, 0, none⟩)
  case atStart => exact ⟨a, m, HI0, HC⟩
  case round =>
    clear HI0 HC
    obtain ⟨a', m', HI, HE0⟩ := hrel
    have d0 : wr.cell? ⟨gm, 0, none⟩ = some (.int .i64 (a' : Int)) := cell_of HE0.out.t 0
    have d1 : wr.cell? ⟨gm, 1, none⟩ = some (.int .i64 (m' : Int)) := cell_of HE0.out.t 1
    have d2 : wr.cell? ⟨gm, 2, none⟩ = some (.int .i64 (b : Int)) := cell_of HE0.out.t 2
    have c0 : wr.cell? ⟨c.sb, 0, none⟩ = some (.slice (some ⟨c.gb, c.off, none⟩) c.bs.length c.cap) := cell_of HE0.out.s.obj 0
    have hfin := HI.out.ok.fin
    have hmm := HI.out.ok.hi
    by_cases h1 : down < a'
    · have hd1 : (down : Int) < (a' : Int) := by omega
      by_cases h2 : b < a'
      · have hd2 : (b : Int) < (a' : Int) := by omega
        obtain ⟨q, hq⟩ : ∃ q, q = a' - 1 := ⟨_, rfl⟩
        obtain ⟨r, hr⟩ : ∃ r, r = q - b := ⟨_, rfl⟩
        have hs1 : (a' : Int) - 1 = (q : Int) := by omega
        have hs2 : (q : Int) - (b : Int) = (r : Int) := by omega
        have e1 : wr.cell? ⟨c.gb, c.off + q, none⟩ = some (.int .u8 ((byteN c.bs q : Nat) : Int)) := HE0.out.s.text.cells q (by omega)
        have e2 : wr.cell? ⟨c.gb, c.off + r, none⟩ = some (.int .u8 ((byteN c.bs r : Nat) : Int)) := HE0.out.s.text.cells r (by omega)
        have hqI : (q : Int) < (c.bs.length : Int) := by omega
        have hrI : (r : Int) < (c.bs.length : Int) := by omega
        obtain ⟨x, hx⟩ : ∃ x, x = byteN c.bs q := ⟨_, rfl⟩
        obtain ⟨y, hy⟩ : ∃ y, y = byteN c.bs r := ⟨_, rfl⟩
        rw [← hx] at e1
        rw [← hy] at e2
        by_cases h3 : x = y
        · have hd3 : ((x : Int) == (y : Int)) = true := by simp [h3]
          have HN := (show Hid (Wid c a m b down q (min (m' + 1) c.most)) from by
            have := HI.out.next h1 h2 (by rw [← hq, ← hr, ← hx, ← hy]; exact h3)
            rwa [← hq] at this)
          have HQ := (show Hid (q + 1 = a') from (by omega : q + 1 = a'))
          have HM0 := (show Hid (numAt wr ⟨gm, 0, none⟩ = a') from numAt_of d0)
          clear hx hy h3 hq hr h1 h2
          generalize c.bs.length = n at *
          go_wp2_with fail
          go_quiet (fail)
          have HE := (show Hid (HereS w (wr.drewN nq) c p told vain gr gm a' m' b) from HE0.out.keep (keep_drewN _ _))
          clear HE0 d0 d1 d2 c0 e1 e2
          generalize wr.drewN nq = W6 at *
          have d0 : W6.cell? ⟨gm, 0, none⟩ = some (.int .i64 (a' : Int)) := cell_of HE.out.t 0
          have f0 := frozen_of HE.out.t 0
          go_wp2_with fail
          obtain ⟨W7, hW7⟩ : ∃ W7, W7 = W6.setCell ⟨gm, 0, none⟩ (.int .i64 (q : Int)) := ⟨_, rfl⟩
          have o7 : W7.heap[gm]? = some (.cells (trio q m' b) 145 (0, 0)) := by rw [hW7]; exact (set_obj HE.out.t 0 _).trans rfl
          have g1 : W7.cell? ⟨gm, 1, none⟩ = some (.int .i64 (m' : Int)) := cell_of o7 1
          have f1 := frozen_of o7 1
          have g4 : W7.cell? ⟨c.sb, 4, none⟩ = some (.int .i64 (c.most : Int)) := by
            rw [hW7]
            exact cell_of (set_far HE.out.s.obj (fun e => by have := obj_lt HE.out.sw.obj; have := HE.out.ml; omega) 0 _) 4
          obtain ⟨mn, hmn⟩ : ∃ mn, mn = min (m' + 1) c.most := ⟨_, rfl⟩
          obtain ⟨mp, hmp⟩ : ∃ mp, mp = m' + 1 := ⟨_, rfl⟩
          have hadd : (m' : Int) + 1 = (mp : Int) := by omega
          have hmin := minSem_run #[3, 3] 3 (mp : Int) (c.most : Int) (mn : Int) (by omega)
          rw [← hmn] at HN
          have HE8 := (show Hid (HereS w ((W7.setCell ⟨gm, 1, none⟩ (.int .i64 (mn : Int))).drew) c p told vain gr gm q mn b) from by rw [hW7]; exact (HE.out.put2 q mn).keep (Keep.refl _ _).drew)
          rw [← hW7]
          clear hW7 d0 f0 o7 hmn hmp HE
          go_region
          generalize (W7.setCell ⟨gm, 1, none⟩ (.int .i64 (mn : Int))).drew = W8 at *
          have HM8 := (show Hid (numAt W8 ⟨gm, 0, none⟩ = q) from numAt_of (cell_of HE8.out.t 0))
          go_wp2_with fail
          go_roundw
          case rel => exact ⟨q, mn, HN, HE8⟩
          case measure => rw [HM8.out, HM0.out]; have := HQ.out; omega
        · have hd3 : ((x : Int) == (y : Int)) = false := by rw [beq_eq_false_iff_ne]; omega
          clear hx hy h3 hq hr h1 h2
          generalize c.bs.length = n at *
          go_wp2_with fail
          go_quiet (fail)
          have HE := (show Hid (HereS w (wr.drewN nq) c p told vain gr gm a' m' b) from HE0.out.keep (keep_drewN _ _))
          clear HE0 d0 d1 d2 c0 e1 e2
          generalize wr.drewN nq = W6 at *
          have g0 : W6.cell? ⟨gm, 0, none⟩ = some (.int .i64 (a' : Int)) := cell_of HE.out.t 0
          have g1 : W6.cell? ⟨gm, 1, none⟩ = some (.int .i64 (m' : Int)) := cell_of HE.out.t 1
          have g2 : W6.cell? ⟨gm, 2, none⟩ = some (.int .i64 (b : Int)) := cell_of HE.out.t 2
          have u0 : W6.cell? ⟨gr, 0, none⟩ = some (.int .i64 0) := cell_of HE.out.r 0
          have u1 : W6.cell? ⟨gr, 1, none⟩ = some (.int .i64 0) := cell_of HE.out.r 1
          have u2 : W6.cell? ⟨gr, 2, none⟩ = some (.int .i64 0) := cell_of HE.out.r 2
          have t0 := frozen_of HE.out.r 0
          have t1 := frozen_of HE.out.r 1
          have t2 := frozen_of HE.out.r 2
          go_wp2_with fail
          refine bodyPost_ret (ret63 rfl _ _ gr 145 _ rfl (put3 HE.out.r _ _ _) rfl) rfl ?_
          exact ⟨⟨a', m', rfl, HI.out⟩, keep3 HE.out.k HE.out.rl _ _ _⟩
      · have hd2 : decide (b < a') = false := decide_eq_false (by omega)
        clear h1 h2
        generalize c.bs.length = n at *
        go_wp2_with fail
        go_quiet (fail)
        have HE := (show Hid (HereS w (wr.drewN nq) c p told vain gr gm a' m' b) from HE0.out.keep (keep_drewN _ _))
        clear HE0 d0 d1 d2 c0
        generalize wr.drewN nq = W6 at *
        have g0 : W6.cell? ⟨gm, 0, none⟩ = some (.int .i64 (a' : Int)) := cell_of HE.out.t 0
        have g1 : W6.cell? ⟨gm, 1, none⟩ = some (.int .i64 (m' : Int)) := cell_of HE.out.t 1
        have g2 : W6.cell? ⟨gm, 2, none⟩ = some (.int .i64 (b : Int)) := cell_of HE.out.t 2
        have u0 : W6.cell? ⟨gr, 0, none⟩ = some (.int .i64 0) := cell_of HE.out.r 0
        have u1 : W6.cell? ⟨gr, 1, none⟩ = some (.int .i64 0) := cell_of HE.out.r 1
        have u2 : W6.cell? ⟨gr, 2, none⟩ = some (.int .i64 0) := cell_of HE.out.r 2
        have t0 := frozen_of HE.out.r 0
        have t1 := frozen_of HE.out.r 1
        have t2 := frozen_of HE.out.r 2
        go_wp2_with fail
        refine bodyPost_ret (ret63 rfl _ _ gr 145 _ rfl (put3 HE.out.r _ _ _) rfl) rfl ?_
        exact ⟨⟨a', m', rfl, HI.out⟩, keep3 HE.out.k HE.out.rl _ _ _⟩
    · have hd1 : decide (down < a') = false := decide_eq_false (by omega)
      clear h1
      generalize c.bs.length = n at *
      go_wp2_with fail
      go_quiet (fail)
      have HE := (show Hid (HereS w (wr.drewN nq) c p told vain gr gm a' m' b) from HE0.out.keep (keep_drewN _ _))
      clear HE0 d0 d1 d2 c0
      generalize wr.drewN nq = W6 at *
      have g0 : W6.cell? ⟨gm, 0, none⟩ = some (.int .i64 (a' : Int)) := cell_of HE.out.t 0
      have g1 : W6.cell? ⟨gm, 1, none⟩ = some (.int .i64 (m' : Int)) := cell_of HE.out.t 1
      have g2 : W6.cell? ⟨gm, 2, none⟩ = some (.int .i64 (b : Int)) := cell_of HE.out.t 2
      have u0 : W6.cell? ⟨gr, 0, none⟩ = some (.int .i64 0) := cell_of HE.out.r 0
      have u1 : W6.cell? ⟨gr, 1, none⟩ = some (.int .i64 0) := cell_of HE.out.r 1
      have u2 : W6.cell? ⟨gr, 2, none⟩ = some (.int .i64 0) := cell_of HE.out.r 2
      have t0 := frozen_of HE.out.r 0
      have t1 := frozen_of HE.out.r 1
      have t2 := frozen_of HE.out.r 2
      go_wp2_with fail
      refine bodyPost_ret (ret63 rfl _ _ gr 145 _ rfl (put3 HE.out.r _ _ _) rfl) rfl ?_
      exact ⟨⟨a', m', rfl, HI.out⟩, keep3 HE.out.k HE.out.rl _ _ _⟩
end
end Go.Proofs.YtnokemcogjoonaaGreatDoor.Fd
