/-
  here: the longest match at the present place among those that are tried.
-/
import Derived.Test.YtlpibfonpfhakaaDoorMarked
import Derived.Test.YtlpibfonpfhakaaDoorRdB
namespace Go.Proofs.YtlpibfonpfhakaaDoor
open Go.RowKit Go.Shelf
set_option linter.unusedVariables false

/-- Three numbers, as a block holds them. -/
abbrev trio (a m b : Nat) : Array Value := #[.int .i64 (a : Int), .int .i64 (m : Int), .int .i64 (b : Int)]
/-- What here holds: the search, and two matches in memory of its own. -/
structure HereS (w W : World) (c : Cf) (p told vain gr gm a m b : Nat) : Prop where
  sw : IsS w c p told vain p p
  k : Keep noBlock w W
  r : W.heap[gr]? = some (.cells #[.int .i64 0, .int .i64 0, .int .i64 0] 63 (0, 0))
  t : W.heap[gm]? = some (.cells (trio a m b) 63 (0, 0))
  rl : w.heap.size ≤ gr
  ml : w.heap.size ≤ gm
  ne : gr ≠ gm
theorem HereS.keep {w W W' : World} {c : Cf} {p told vain gr gm a m b : Nat} (h : HereS w W c p told vain gr gm a m b) (hk : Keep noBlock W W') : HereS w W' c p told vain gr gm a m b :=
  ⟨h.sw, h.k.trans' hk, hk.obj h.r (fun h => h), hk.obj h.t (fun h => h), h.rl, h.ml, h.ne⟩
theorem HereS.s {w W : World} {c : Cf} {p told vain gr gm a m b : Nat} (h : HereS w W c p told vain gr gm a m b) : IsS W c p told vain p p := h.sw.still h.k
theorem HereS.put {w W : World} {c : Cf} {p told vain gr gm a m b : Nat} (h : HereS w W c p told vain gr gm a m b) (a' m' b' : Nat) :
    HereS w (((W.setCell ⟨gm, 0, none⟩ (.int .i64 (a' : Int))).setCell ⟨gm, 1, none⟩ (.int .i64 (m' : Int))).setCell ⟨gm, 2, none⟩ (.int .i64 (b' : Int))) c p told vain gr gm a' m' b' :=
  ⟨h.sw, keep3 h.k h.ml _ _ _, set_far (set_far (set_far h.r h.ne _ _) h.ne _ _) h.ne _ _, put3 h.t _ _ _, h.rl, h.ml, h.ne⟩
/-- The best one so far, and how long it is. -/
def Best (c : Cf) (p a m b z : Nat) : Prop := ((a = 0 ∧ m = 0 ∧ b = 0) ∧ z + 1 = c.least) ∨ (a = p ∧ OkM c a m b ∧ z = m)

section
attribute [local go_sem] maxSem_eq
set_option maxRecDepth 100000 in
set_option maxHeartbeats 4000000 in
theorem here_any (c : Cf) (p told vain : Nat) (w : World) (h : IsS w c p told vain p p) (hp : p ≤ c.bs.length) (hv : vain < 1000000) :
    Calls Tryd.prog 29 #[.pointer (some ⟨c.sb, 0, none⟩)] w fun e w' => (∃ a m b : Nat, e = .returned (.agg (trio a m b)) ∧ ((a = 0 ∧ m = 0 ∧ b = 0) ∨ (a = p ∧ OkM c a m b)) ∧ (Full c p → m = limN c p)) ∧ Keep noBlock w w' := by
  have hn := h.ok.n
  have hl2 := h.ok.l2
  have hl3 := h.ok.l3
  have hm2 := h.ok.m2
  obtain ⟨gr, hgr⟩ : ∃ gr, gr = w.heap.size := ⟨_, rfl⟩
  obtain ⟨W0, hW0⟩ : ∃ W0, W0 = w.alloc (.cells #[.int .i64 0, .int .i64 0, .int .i64 0] 63) := ⟨_, rfl⟩
  have k0 : Keep noBlock w W0 := by rw [hW0]; exact (Keep.refl _ w).alloc _
  have h0 := h.still k0
  have z0 : W0.heap[gr]? = some (.cells #[.int .i64 0, .int .i64 0, .int .i64 0] 63 (0, 0)) := by rw [hW0, hgr]; exact alloc_new w _
  have HM := marked_any c p told vain W0 h0 hp
  have HS := (show Hid (IsS w c p told vain p p ∧ Keep noBlock w W0 ∧ W0.heap[gr]? = some (.cells #[.int .i64 0, .int .i64 0, .int .i64 0] 63 (0, 0)) ∧ w.heap.size ≤ gr) from ⟨h, k0, z0, Nat.le_of_eq hgr.symm⟩)
  clear h h0 k0 z0
  go_enter Tryd.func29, Tryd.ntmps29
  go_wp2_with fail
  refine wp_scope_straight ?_
  go_wp2_with fail
  rw [← hW0, ← hgr]
  clear hW0 hgr
  refine HM.mono ?_
  rintro e W1 ⟨⟨a, m, b, rfl, hab⟩, k1⟩
  clear HM
  obtain ⟨gm, hgm⟩ : ∃ gm, gm = W1.heap.size := ⟨_, rfl⟩
  obtain ⟨W2, hW2⟩ : ∃ W2, W2 = W1.alloc (.cells (trio a m b) 63) := ⟨_, rfl⟩
  have HC := (show Hid (HereS w W2 c p told vain gr gm a m b) from by
    have ka : Keep noBlock W1 W2 := by rw [hW2]; exact (Keep.refl _ W1).alloc _
    have kb := k1.trans' ka
    refine ⟨HS.out.1, HS.out.2.1.trans' kb, kb.obj HS.out.2.2.1 (fun h => h), by rw [hW2, hgm]; exact alloc_new W1 _, HS.out.2.2.2, by rw [hgm]; exact (HS.out.2.1.trans' k1).size, ?_⟩
    have := obj_lt (k1.obj HS.out.2.2.1 (fun h => h))
    omega)
  obtain ⟨l1, hl1⟩ : ∃ l1, l1 = c.least - 1 := ⟨_, rfl⟩
  have hsub : (c.least : Int) - 1 = (l1 : Int) := by omega
  obtain ⟨z, hz⟩ : ∃ z, z = max m l1 := ⟨_, rfl⟩
  have hmax := maxSem_run #[3, 3] 3 (m : Int) (l1 : Int) (z : Int) (by omega)
  have HB := (show Hid (Best c p a m b z) from by
    rcases hab with ⟨rfl, rfl, rfl⟩ | ⟨e1, e2⟩
    · exact .inl ⟨⟨rfl, rfl, rfl⟩, by omega⟩
    · exact .inr ⟨e1, e2, by have := e2.lo; omega⟩)
  have HA := (show Hid (2 ≤ c.least ∧ c.least ≤ c.most ∧ 1 ≤ c.window) from ⟨hl2, hl3, HC.out.s.ok.w1⟩)
  have c3 : W2.cell? ⟨c.sb, 3, none⟩ = some (.int .i64 (c.least : Int)) := cell_of HC.out.s.obj 3
  have cm : W2.cell? ⟨gm, 1, none⟩ = some (.int .i64 (m : Int)) := cell_of HC.out.t 1
  clear hab k1 HS hl1 hz
  go_wp2_with fail
  rw [← hW2, ← hgm]
  clear hW2 hgm
  go_quiet (fail)
  go_wp2_with fail
  refine (limit_any c p told vain p p _ (HC.out.s.drewN nq) hp).mono ?_
  rintro e W3 ⟨rfl, k3, rfl⟩
  have HC3 := (show Hid (HereS w ((W2.drewN nq).drewN k3) c p told vain gr gm a m b) from HC.out.keep ((keep_drewN _ _).trans' (keep_drewN _ _)))
  clear HC c3 cm hmax hsub
  generalize (W2.drewN nq).drewN k3 = W3 at *
  obtain ⟨l, hl⟩ : ∃ l, l = limN c p := ⟨_, rfl⟩
  have HLE := (show Hid (l = limN c p) from hl)
  rw [← hl]
  clear hl
  go_wp2_with fail
  refine (head_any c p told vain p W3 HC3.out.s hp).mono ?_
  rintro e W4 ⟨⟨v, rfl, hvp, hv1, hv2⟩, k4, rfl⟩
  have HC4 := (show Hid (HereS w (W3.drewN k4) c p told vain gr gm a m b) from HC3.out.keep (keep_drewN _ _))
  have HV := (show Hid (v ≤ p ∧ (1 ≤ v → p + c.least ≤ c.bs.length) ∧ (Full c p → v = p)) from ⟨hvp, hv1, fun hf => hv2 hf.p1 hf.fits (fun i hi => hf.same i (by have := hf.fits; unfold limN; omega))⟩)
  clear HC3 hvp hv1 hv2
  generalize W3.drewN k4 = W4 at *
  go_wp2_with fail
  refine wp_label ?_
  go_wp2_with fail
  refine (tries_any c p told vain p p W4 HC4.out.s hv).mono ?_
  rintro e W5 ⟨t, ht1, ht2, rfl, k5, rfl⟩
  have HC5 := (show Hid (HereS w (W4.drewN k5) c p told vain gr gm a m b) from HC4.out.keep (keep_drewN _ _))
  clear HC4
  generalize W4.drewN k5 = W5 at *
  go_wp2_with fail
  go_loopw [4, 6, 26] (fun v4 v6 v26 wr => ∃ z v i a m b : Nat, v4 = .int .i64 (z : Int) ∧ v6 = .int .i64 ((v : Int) - 1) ∧ v26 = .int .i64 (i : Int) ∧ i ≤ t ∧
    Hid (HereS w wr c p told vain gr gm a m b ∧ Best c p a m b z ∧ v ≤ p ∧ (1 ≤ v → p + c.least ≤ c.bs.length) ∧ (Full c p → z = limN c p ∨ (i = 0 ∧ v = p)))) (fun _ _ v26 _ => t - (intOf v26).toNat)
  case atStart => exact ⟨z, v, 0, a, m, b, rfl, rfl, rfl, Nat.zero_le _, HC5.out, HB.out, HV.out.1, HV.out.2.1, fun hf => .inr ⟨rfl, HV.out.2.2 hf⟩⟩
  case round =>
    clear HC5 HB HV
    obtain ⟨z, v, i, a, m, b, rfl, rfl, rfl, hit, HR⟩ := hrel
    by_cases hlt : i < t
    · have hltI : (i : Int) < (t : Int) := by omega
      obtain ⟨r1, r2, r3, r4, r5⟩ := HR.out
      by_cases hv0 : v = 0
      · have HRE := reaches_neg c p told vain p p ((v : Int) - 1) wr r1.s (by omega)
        have HF := (show Hid (((a = 0 ∧ m = 0 ∧ b = 0) ∨ (a = p ∧ OkM c a m b)) ∧ (Full c p → m = limN c p)) from
          ⟨r2.imp (fun h => h.1) (fun h => ⟨h.1, h.2.1⟩), fun hf => by
            have hzl : z = limN c p := by
              rcases r5 hf with e | e
              · exact e
              · have := hf.p1; omega
            rcases r2 with ⟨q1, q2⟩ | ⟨q1, q2, q3⟩
            · exfalso
              have := hf.fits; have := HA.out; unfold limN at hzl; omega
            · omega⟩)
        have HE0 := (show Hid (HereS w wr c p told vain gr gm a m b) from r1)
        clear r1 r2 r3 r4 r5 HR hv0
        go_wp2_with fail
        refine HRE.mono ?_
        rintro e W6 ⟨rfl, k6, rfl⟩
        have HE := (show Hid (HereS w (wr.drewN k6) c p told vain gr gm a m b) from HE0.out.keep (keep_drewN _ _))
        clear HE0 HRE
        generalize wr.drewN k6 = W6 at *
        have g0 : W6.cell? ⟨gm, 0, none⟩ = some (.int .i64 (a : Int)) := cell_of HE.out.t 0
        have g1 : W6.cell? ⟨gm, 1, none⟩ = some (.int .i64 (m : Int)) := cell_of HE.out.t 1
        have g2 : W6.cell? ⟨gm, 2, none⟩ = some (.int .i64 (b : Int)) := cell_of HE.out.t 2
        have u0 : W6.cell? ⟨gr, 0, none⟩ = some (.int .i64 0) := cell_of HE.out.r 0
        have u1 : W6.cell? ⟨gr, 1, none⟩ = some (.int .i64 0) := cell_of HE.out.r 1
        have u2 : W6.cell? ⟨gr, 2, none⟩ = some (.int .i64 0) := cell_of HE.out.r 2
        have t0 := frozen_of HE.out.r 0
        have t1 := frozen_of HE.out.r 1
        have t2 := frozen_of HE.out.r 2
        go_wp2_with fail
        simp only [Exit.noGoto]
        refine bodyPost_ret (ret63 rfl _ _ gr 63 _ rfl (put3 HE.out.r _ _ _) rfl) rfl ?_
        exact ⟨⟨a, m, b, rfl, HF.out.1, HF.out.2⟩, keep3 HE.out.k HE.out.rl _ _ _⟩
      · obtain ⟨q, hq⟩ : ∃ q, q = v - 1 := ⟨_, rfl⟩
        have hvq : (v : Int) - 1 = (q : Int) := by omega
        have HRE := reaches_pos c p told vain p p q wr r1.s (by omega) (by omega)
        by_cases hw : p - q ≤ c.window
        · rw [decide_eq_true hw] at HRE
          by_cases hzl0 : z = l
          · have hzb : ((z : Int) == (l : Int)) = true := by simp [hzl0]
            have HF := (show Hid (((a = 0 ∧ m = 0 ∧ b = 0) ∨ (a = p ∧ OkM c a m b)) ∧ (Full c p → m = limN c p)) from
              ⟨r2.imp (fun h => h.1) (fun h => ⟨h.1, h.2.1⟩), fun hf => by
                have hzl : z = limN c p := by
                  exact hzl0.trans HLE.out
                rcases r2 with ⟨q1, q2⟩ | ⟨q1, q2, q3⟩
                · exfalso
                  have := hf.fits; have := HA.out; unfold limN at hzl; omega
                · omega⟩)
            have HE0 := (show Hid (HereS w wr c p told vain gr gm a m b) from r1)
            clear r1 r2 r3 r4 r5 HR hv0 hw hzl0 hq
            go_wp2_with fail
            refine HRE.mono ?_
            rintro e W6 ⟨rfl, k6, rfl⟩
            have HE := (show Hid (HereS w (wr.drewN k6) c p told vain gr gm a m b) from HE0.out.keep (keep_drewN _ _))
            clear HE0 HRE
            generalize wr.drewN k6 = W6 at *
            have g0 : W6.cell? ⟨gm, 0, none⟩ = some (.int .i64 (a : Int)) := cell_of HE.out.t 0
            have g1 : W6.cell? ⟨gm, 1, none⟩ = some (.int .i64 (m : Int)) := cell_of HE.out.t 1
            have g2 : W6.cell? ⟨gm, 2, none⟩ = some (.int .i64 (b : Int)) := cell_of HE.out.t 2
            have u0 : W6.cell? ⟨gr, 0, none⟩ = some (.int .i64 0) := cell_of HE.out.r 0
            have u1 : W6.cell? ⟨gr, 1, none⟩ = some (.int .i64 0) := cell_of HE.out.r 1
            have u2 : W6.cell? ⟨gr, 2, none⟩ = some (.int .i64 0) := cell_of HE.out.r 2
            have t0 := frozen_of HE.out.r 0
            have t1 := frozen_of HE.out.r 1
            have t2 := frozen_of HE.out.r 2
            go_wp2_with fail
            simp only [Exit.noGoto]
            refine bodyPost_ret (ret63 rfl _ _ gr 63 _ rfl (put3 HE.out.r _ _ _) rfl) rfl ?_
            exact ⟨⟨a, m, b, rfl, HF.out.1, HF.out.2⟩, keep3 HE.out.k HE.out.rl _ _ _⟩
          · have hzb : ((z : Int) == (l : Int)) = false := by rw [beq_eq_false_iff_ne]; omega
            have hin := r4 (by omega)
            have hzlt : z < limN c p ∧ c.least ≤ z + 1 := by
              have := HLE.out
              have := HA.out
              rcases r2 with ⟨q1, q2⟩ | ⟨q1, q2, q3⟩
              · unfold limN at *; omega
              · have h1 := q2.lim; have h2 := q2.lo; rw [q1] at h1; omega
            have HW6 := (show Hid (∀ W, IsS W c p told vain p p → _) from fun W hS => with_any c p told vain p p q z W hS hp (by omega) hw hzlt.2 hzlt.1)
            have HQ := (show Hid (q + 1 = v ∧ p + c.least ≤ c.bs.length ∧ q ≤ p) from ⟨by omega, hin, by omega⟩)
            have HB6 := (show Hid (Best c p a m b z ∧ (Full c p → z = limN c p ∨ (i = 0 ∧ v = p)) ∧ z < limN c p) from ⟨r2, r5, hzlt.1⟩)
            have HE0 := (show Hid (HereS w wr c p told vain gr gm a m b) from r1)
            clear r1 r2 r3 r4 r5 HR hv0 hw hzl0 hq hin hzlt
            go_wp2_with fail
            refine HRE.mono ?_
            rintro e W6 ⟨rfl, k6, rfl⟩
            have HE := (show Hid (HereS w (wr.drewN k6) c p told vain gr gm a m b) from HE0.out.keep (keep_drewN _ _))
            clear HE0 HRE
            generalize wr.drewN k6 = W6 at *
            go_wp2_with fail
            refine (HW6.out W6 HE.out.s).mono ?_
            rintro e W7 ⟨⟨a', m', b', rfl, hab', hful⟩, k7⟩
            have HE7 := (show Hid (HereS w W7 c p told vain gr gm a m b) from HE.out.keep k7)
            clear HE HW6 k7
            obtain ⟨gx, hgx⟩ : ∃ gx, gx = W7.heap.size := ⟨_, rfl⟩
            obtain ⟨W8, hW8⟩ : ∃ W8, W8 = W7.alloc (.cells (trio a' m' b') 63) := ⟨_, rfl⟩
            have x0 : W8.heap[gx]? = some (.cells (trio a' m' b') 63 (0, 0)) := by rw [hW8, hgx]; exact alloc_new W7 _
            have HE8 := (show Hid (HereS w W8 c p told vain gr gm a m b) from HE7.out.keep (by rw [hW8]; exact (Keep.refl _ W7).alloc _))
            have v0 : W8.cell? ⟨gx, 0, none⟩ = some (.int .i64 (a' : Int)) := cell_of x0 0
            have v1 : W8.cell? ⟨gx, 1, none⟩ = some (.int .i64 (m' : Int)) := cell_of x0 1
            have v2 : W8.cell? ⟨gx, 2, none⟩ = some (.int .i64 (b' : Int)) := cell_of x0 2
            obtain ⟨i1, hi1⟩ : ∃ i1, i1 = i + 1 := ⟨_, rfl⟩
            have hadd : (i : Int) + 1 = (i1 : Int) := by omega
            have HI1 := (show Hid (i1 = i + 1) from hi1)
            have HG7 := (show Hid (gm < gx) from by rw [hgx]; exact obj_lt HE7.out.t)
            clear HE7 x0 hi1
            by_cases hm0 : m' = 0
            · have hmI : ¬ (0 : Int) < (m' : Int) := by omega
              have HN := (show Hid (Best c p a m b z ∧ (Full c p → z = limN c p ∨ (i1 = 0 ∧ False))) from ⟨HB6.out.1, fun hf => by
                rcases HB6.out.2.1 hf with e | ⟨e1, e2⟩
                · exact .inl e
                · exfalso
                  have hh := hful (by have := HQ.out; omega) (fun j hj => by have := hf.same j hj; rwa [show p - 1 = q from by have := HQ.out; omega] at this)
                  have := HB6.out.2.2; omega⟩)
              clear hab' hful hm0
              go_wp2_with fail
              rw [← hW8, ← hgx]
              clear hW8 hgx v0 v1 v2
              refine (ahead_any c p told vain p q W8 HE8.out.s hp HQ.out.2.2).mono ?_
              rintro e W9 ⟨⟨v', rfl, hv'⟩, k9, rfl⟩
              have HE9 := (show Hid (HereS w (W8.drewN k9) c p told vain gr gm a m b) from HE8.out.keep (keep_drewN _ _))
              clear HE8
              generalize W8.drewN k9 = W9 at *
              go_wp2_with fail
              go_roundw
              case rel => exact ⟨z, v', i1, a, m, b, rfl, rfl, rfl, by have := HI1.out; omega, HE9.out, HN.out.1, hv', fun _ => HQ.out.2.1, fun hf => (HN.out.2 hf).imp id (fun h => h.2.elim)⟩
              case measure => have := HI1.out; simp [intOf]; omega
            · have hmI : (0 : Int) < (m' : Int) := by omega
              have HN := (show Hid (Best c p a' m' b' m' ∧ (Full c p → m' = limN c p)) from by
                rcases hab' with ⟨e1, e2, e3⟩ | ⟨e1, e2, e3⟩
                · omega
                · refine ⟨.inr ⟨e1, e3, rfl⟩, fun hf => ?_⟩
                  rcases HB6.out.2.1 hf with e | ⟨e4, e5⟩
                  · have := HB6.out.2.2; omega
                  · exact hful (by have := HQ.out; omega) (fun j hj => by have := hf.same j hj; rwa [show p - 1 = q from by have := HQ.out; omega] at this))
              have y0 : W8.cell? ⟨gm, 0, none⟩ = some (.int .i64 (a : Int)) := cell_of HE8.out.t 0
              have y1 : W8.cell? ⟨gm, 1, none⟩ = some (.int .i64 (m : Int)) := cell_of HE8.out.t 1
              have y2 : W8.cell? ⟨gm, 2, none⟩ = some (.int .i64 (b : Int)) := cell_of HE8.out.t 2
              have f0 := frozen_of HE8.out.t 0
              have f1 := frozen_of HE8.out.t 1
              have f2 := frozen_of HE8.out.t 2
              have hne1 : gx ≠ gm := by have := HG7.out; omega
              have hne2 : gm ≠ gx := hne1.symm
              clear hab' hful hm0 HB6
              go_wp2_with fail
              rw [← hW8, ← hgx]
              clear hW8 hgx
              go_region
              have HE9 := (show Hid (HereS w ((((W8.setCell ⟨gm, 0, none⟩ (.int .i64 (a' : Int))).setCell ⟨gm, 1, none⟩ (.int .i64 (m' : Int))).setCell ⟨gm, 2, none⟩ (.int .i64 (b' : Int))).drew) c p told vain gr gm a' m' b') from (HE8.out.put a' m' b').keep (Keep.refl _ _).drew)
              clear HE8 y0 y1 y2 f0 f1 f2 v0 v1 v2
              generalize ((((W8.setCell ⟨gm, 0, none⟩ (.int .i64 (a' : Int))).setCell ⟨gm, 1, none⟩ (.int .i64 (m' : Int))).setCell ⟨gm, 2, none⟩ (.int .i64 (b' : Int))).drew) = W9 at *
              go_wp2_with fail
              refine (ahead_any c p told vain p q W9 HE9.out.s hp HQ.out.2.2).mono ?_
              rintro e W10 ⟨⟨v', rfl, hv'⟩, k9, rfl⟩
              have HE10 := (show Hid (HereS w (W9.drewN k9) c p told vain gr gm a' m' b') from HE9.out.keep (keep_drewN _ _))
              clear HE9
              generalize W9.drewN k9 = W10 at *
              go_wp2_with fail
              go_roundw
              case rel => exact ⟨m', v', i1, a', m', b', rfl, rfl, rfl, by have := HI1.out; omega, HE10.out, HN.out.1, hv', fun _ => HQ.out.2.1, fun hf => .inl (HN.out.2 hf)⟩
              case measure => have := HI1.out; simp [intOf]; omega
        · rw [decide_eq_false hw] at HRE
          have HF := (show Hid (((a = 0 ∧ m = 0 ∧ b = 0) ∨ (a = p ∧ OkM c a m b)) ∧ (Full c p → m = limN c p)) from
            ⟨r2.imp (fun h => h.1) (fun h => ⟨h.1, h.2.1⟩), fun hf => by
              have hzl : z = limN c p := by
                rcases r5 hf with e | e
                · exact e
                · exfalso; have := HA.out; omega
              rcases r2 with ⟨q1, q2⟩ | ⟨q1, q2, q3⟩
              · exfalso
                have := hf.fits; have := HA.out; unfold limN at hzl; omega
              · omega⟩)
          have HE0 := (show Hid (HereS w wr c p told vain gr gm a m b) from r1)
          clear r1 r2 r3 r4 r5 HR hv0 hw hq
          go_wp2_with fail
          refine HRE.mono ?_
          rintro e W6 ⟨rfl, k6, rfl⟩
          have HE := (show Hid (HereS w (wr.drewN k6) c p told vain gr gm a m b) from HE0.out.keep (keep_drewN _ _))
          clear HE0 HRE
          generalize wr.drewN k6 = W6 at *
          have g0 : W6.cell? ⟨gm, 0, none⟩ = some (.int .i64 (a : Int)) := cell_of HE.out.t 0
          have g1 : W6.cell? ⟨gm, 1, none⟩ = some (.int .i64 (m : Int)) := cell_of HE.out.t 1
          have g2 : W6.cell? ⟨gm, 2, none⟩ = some (.int .i64 (b : Int)) := cell_of HE.out.t 2
          have u0 : W6.cell? ⟨gr, 0, none⟩ = some (.int .i64 0) := cell_of HE.out.r 0
          have u1 : W6.cell? ⟨gr, 1, none⟩ = some (.int .i64 0) := cell_of HE.out.r 1
          have u2 : W6.cell? ⟨gr, 2, none⟩ = some (.int .i64 0) := cell_of HE.out.r 2
          have t0 := frozen_of HE.out.r 0
          have t1 := frozen_of HE.out.r 1
          have t2 := frozen_of HE.out.r 2
          go_wp2_with fail
          simp only [Exit.noGoto]
          refine bodyPost_ret (ret63 rfl _ _ gr 63 _ rfl (put3 HE.out.r _ _ _) rfl) rfl ?_
          exact ⟨⟨a, m, b, rfl, HF.out.1, HF.out.2⟩, keep3 HE.out.k HE.out.rl _ _ _⟩
    · have hltI : ¬ (i : Int) < (t : Int) := by omega
      obtain ⟨r1, r2, r3, r4, r5⟩ := HR.out
      have HF := (show Hid (((a = 0 ∧ m = 0 ∧ b = 0) ∨ (a = p ∧ OkM c a m b)) ∧ (Full c p → m = limN c p)) from
        ⟨r2.imp (fun h => h.1) (fun h => ⟨h.1, h.2.1⟩), fun hf => by
          have hzl : z = limN c p := by
            rcases r5 hf with e | e
            · exact e
            · omega
          rcases r2 with ⟨q1, q2⟩ | ⟨q1, q2, q3⟩
          · exfalso
            have := hf.fits; have := HA.out; unfold limN at hzl; omega
          · omega⟩)
      have HE := (show Hid (HereS w wr c p told vain gr gm a m b) from r1)
      clear r1 r2 r3 r4 r5 HR
      have g0 : wr.cell? ⟨gm, 0, none⟩ = some (.int .i64 (a : Int)) := cell_of HE.out.t 0
      have g1 : wr.cell? ⟨gm, 1, none⟩ = some (.int .i64 (m : Int)) := cell_of HE.out.t 1
      have g2 : wr.cell? ⟨gm, 2, none⟩ = some (.int .i64 (b : Int)) := cell_of HE.out.t 2
      have u0 : wr.cell? ⟨gr, 0, none⟩ = some (.int .i64 0) := cell_of HE.out.r 0
      have u1 : wr.cell? ⟨gr, 1, none⟩ = some (.int .i64 0) := cell_of HE.out.r 1
      have u2 : wr.cell? ⟨gr, 2, none⟩ = some (.int .i64 0) := cell_of HE.out.r 2
      have t0 := frozen_of HE.out.r 0
      have t1 := frozen_of HE.out.r 1
      have t2 := frozen_of HE.out.r 2
      go_wp2_with fail
      refine bodyPost_ret (ret63 rfl _ _ gr 63 _ rfl (put3 HE.out.r _ _ _) rfl) rfl ?_
      exact ⟨⟨a, m, b, rfl, HF.out.1, HF.out.2⟩, keep3 HE.out.k HE.out.rl _ _ _⟩
end
end Go.Proofs.YtlpibfonpfhakaaDoor
