/-
  widen: a match begins earlier, as far as the bytes there are like ones.
-/
import Derived.Test.YtlpibfonpfhakaaDoorHere
import Derived.Test.YtlpibfonpfhakaaDoorMst
namespace Go.Proofs.YtlpibfonpfhakaaDoor
open Go.RowKit Go.Shelf
set_option linter.unusedVariables false

theorem HereS.put2 {w W : World} {c : Cf} {p told vain gr gm a m b : Nat} (h : HereS w W c p told vain gr gm a m b) (a' m' : Nat) :
    HereS w ((W.setCell ⟨gm, 0, none⟩ (.int .i64 (a' : Int))).setCell ⟨gm, 1, none⟩ (.int .i64 (m' : Int))) c p told vain gr gm a' m' b :=
  ⟨h.sw, (h.k.setCell (p := ⟨gm, 0, none⟩) (fun hh => absurd hh (Nat.not_lt.2 h.ml)) _).setCell (p := ⟨gm, 1, none⟩) (fun hh => absurd hh (Nat.not_lt.2 h.ml)) _, set_far (set_far h.r h.ne _ _) h.ne _ _, (set_obj (set_obj h.t 0 _) 1 _).trans rfl, h.rl, h.ml, h.ne⟩
/-- What becomes of a match that is widened. -/
structure Wid (c : Cf) (a m b down a' m' : Nat) : Prop where
  ok : OkM c a' m' b
  le : a' ≤ a
  low : down ≤ a → down ≤ a'
  fin : a' + m' ≤ a + m
  more : m ≤ m'
  same : a + m ≤ down + c.most → a' + m' = a + m
theorem Wid.next {c : Cf} {a m b down a' m' : Nat} (h : Wid c a m b down a' m') (h1 : down < a') (h2 : b < a') (h3 : byteN c.bs (a' - 1) = byteN c.bs (a' - 1 - b)) : Wid c a m b down (a' - 1) (min (m' + 1) c.most) := by
  obtain ⟨⟨o1, o2, o3, o4, o5, o6, o7⟩, e1, e2, e3, e4, e5⟩ := h
  refine ⟨⟨by omega, by omega, by omega, o4, o5, by omega, fun i hi => ?_⟩, by omega, by omega, by omega, by omega, by omega⟩
  by_cases h0 : i = 0
  · subst h0; simpa using h3
  · have := o7 (i - 1) (by omega)
    rw [show a' - 1 + i = a' + (i - 1) from by omega, show a' - 1 - b + i = a' - b + (i - 1) from by omega]
    exact this

section
attribute [local go_sem] minSem_eq
set_option maxRecDepth 100000 in
set_option maxHeartbeats 4000000 in
theorem widen_ok (c : Cf) (p told vain a m b down : Nat) (w : World) (h : IsS w c p told vain p p) (hM : OkM c a m b) :
    Calls Tryd.prog 24 #[.pointer (some ⟨c.sb, 0, none⟩), .agg (trio a m b), .int .i64 (down : Int)] w fun e w' => (∃ a' m' : Nat, e = .returned (.agg (trio a' m' b)) ∧ Wid c a m b down a' m') ∧ Keep noBlock w w' := by
  have hn := h.ok.n
  have hm2 := h.ok.m2
  have HI0 := (show Hid (Wid c a m b down a m) from ⟨hM, Nat.le_refl _, fun h => h, Nat.le_refl _, Nat.le_refl _, fun _ => rfl⟩)
  obtain ⟨gm, hgm⟩ : ∃ gm, gm = w.heap.size := ⟨_, rfl⟩
  obtain ⟨gr, hgr⟩ : ∃ gr, gr = w.heap.size + 1 := ⟨_, rfl⟩
  obtain ⟨W0, hW0⟩ : ∃ W0, W0 = (w.alloc (.cells (trio a m b) 63)).alloc (.cells #[.int .i64 0, .int .i64 0, .int .i64 0] 63) := ⟨_, rfl⟩
  have hsz : (w.alloc (.cells (trio a m b) 63)).heap.size = w.heap.size + 1 := by simp
  have HC := (show Hid (HereS w W0 c p told vain gr gm a m b) from
    ⟨h, by rw [hW0]; exact ((Keep.refl _ w).alloc _).alloc _, by rw [hW0, hgr, ← hsz]; exact alloc_new _ _, by rw [hW0, hgm]; exact alloc_far (alloc_new w _) _, by omega, by omega, by omega⟩)
  clear h hM hsz
  go_enter Tryd.func24, Tryd.ntmps24
  go_wp2_with fail
  try rw [← hW0]
  try rw [← hgr]
  try rw [← hgm]
  clear hW0 hgr hgm
  go_loopw [7] (fun _ wr => ∃ a' m' : Nat, Hid (Wid c a m b down a' m') ∧ Hid (HereS w wr c p told vain gr gm a' m' b)) (fun _ wr => numAt wr ⟨gm, 0, none⟩)
  case atStart => exact ⟨a, m, HI0, HC⟩
  case round =>
    clear HI0 HC
    obtain ⟨a', m', HI, HE0⟩ := hrel
    have d0 : wr.cell? ⟨gm, 0, none⟩ = some (.int .i64 (a' : Int)) := cell_of HE0.out.t 0
    have d1 : wr.cell? ⟨gm, 1, none⟩ = some (.int .i64 (m' : Int)) := cell_of HE0.out.t 1
    have d2 : wr.cell? ⟨gm, 2, none⟩ = some (.int .i64 (b : Int)) := cell_of HE0.out.t 2
    have c0 : wr.cell? ⟨c.sb, 0, none⟩ = some (.slice (some ⟨c.gb, c.off, none⟩) c.bs.length c.cap) := cell_of HE0.out.s.obj 0
    have hfin := HI.out.ok.fin
    have hmm := HI.out.ok.hi
    by_cases h1 : down < a'
    · have hd1 : (down : Int) < (a' : Int) := by omega
      by_cases h2 : b < a'
      · have hd2 : (b : Int) < (a' : Int) := by omega
        obtain ⟨q, hq⟩ : ∃ q, q = a' - 1 := ⟨_, rfl⟩
        obtain ⟨r, hr⟩ : ∃ r, r = q - b := ⟨_, rfl⟩
        have hs1 : (a' : Int) - 1 = (q : Int) := by omega
        have hs2 : (q : Int) - (b : Int) = (r : Int) := by omega
        have e1 : wr.cell? ⟨c.gb, c.off + q, none⟩ = some (.int .u8 ((byteN c.bs q : Nat) : Int)) := HE0.out.s.text.cells q (by omega)
        have e2 : wr.cell? ⟨c.gb, c.off + r, none⟩ = some (.int .u8 ((byteN c.bs r : Nat) : Int)) := HE0.out.s.text.cells r (by omega)
        have hqI : (q : Int) < (c.bs.length : Int) := by omega
        have hrI : (r : Int) < (c.bs.length : Int) := by omega
        obtain ⟨x, hx⟩ : ∃ x, x = byteN c.bs q := ⟨_, rfl⟩
        obtain ⟨y, hy⟩ : ∃ y, y = byteN c.bs r := ⟨_, rfl⟩
        rw [← hx] at e1
        rw [← hy] at e2
        by_cases h3 : x = y
        · have hd3 : ((x : Int) == (y : Int)) = true := by simp [h3]
          have HN := (show Hid (Wid c a m b down q (min (m' + 1) c.most)) from by
            have := HI.out.next h1 h2 (by rw [← hq, ← hr, ← hx, ← hy]; exact h3)
            rwa [← hq] at this)
          have HQ := (show Hid (q + 1 = a') from (by omega : q + 1 = a'))
          have HM0 := (show Hid (numAt wr ⟨gm, 0, none⟩ = a') from numAt_of d0)
          clear hx hy h3 hq hr h1 h2
          generalize c.bs.length = n at *
          go_wp2_with fail
          go_quiet (fail)
          have HE := (show Hid (HereS w (wr.drewN nq) c p told vain gr gm a' m' b) from HE0.out.keep (keep_drewN _ _))
          clear HE0 d0 d1 d2 c0 e1 e2
          generalize wr.drewN nq = W6 at *
          have d0 : W6.cell? ⟨gm, 0, none⟩ = some (.int .i64 (a' : Int)) := cell_of HE.out.t 0
          have f0 := frozen_of HE.out.t 0
          go_wp2_with fail
          obtain ⟨W7, hW7⟩ : ∃ W7, W7 = W6.setCell ⟨gm, 0, none⟩ (.int .i64 (q : Int)) := ⟨_, rfl⟩
          have o7 : W7.heap[gm]? = some (.cells (trio q m' b) 63 (0, 0)) := by rw [hW7]; exact (set_obj HE.out.t 0 _).trans rfl
          have g1 : W7.cell? ⟨gm, 1, none⟩ = some (.int .i64 (m' : Int)) := cell_of o7 1
          have f1 := frozen_of o7 1
          have g4 : W7.cell? ⟨c.sb, 4, none⟩ = some (.int .i64 (c.most : Int)) := by
            rw [hW7]
            exact cell_of (set_far HE.out.s.obj (fun e => by have := obj_lt HE.out.sw.obj; have := HE.out.ml; omega) 0 _) 4
          obtain ⟨mn, hmn⟩ : ∃ mn, mn = min (m' + 1) c.most := ⟨_, rfl⟩
          obtain ⟨mp, hmp⟩ : ∃ mp, mp = m' + 1 := ⟨_, rfl⟩
          have hadd : (m' : Int) + 1 = (mp : Int) := by omega
          have hmin := minSem_run #[3, 3] 3 (mp : Int) (c.most : Int) (mn : Int) (by omega)
          rw [← hmn] at HN
          have HE8 := (show Hid (HereS w ((W7.setCell ⟨gm, 1, none⟩ (.int .i64 (mn : Int))).drew) c p told vain gr gm q mn b) from by rw [hW7]; exact (HE.out.put2 q mn).keep (Keep.refl _ _).drew)
          rw [← hW7]
          clear hW7 d0 f0 o7 hmn hmp HE
          go_region
          generalize (W7.setCell ⟨gm, 1, none⟩ (.int .i64 (mn : Int))).drew = W8 at *
          have HM8 := (show Hid (numAt W8 ⟨gm, 0, none⟩ = q) from numAt_of (cell_of HE8.out.t 0))
          go_wp2_with fail
          go_roundw
          case rel => exact ⟨q, mn, HN, HE8⟩
          case measure => rw [HM8.out, HM0.out]; have := HQ.out; omega
        · have hd3 : ((x : Int) == (y : Int)) = false := by rw [beq_eq_false_iff_ne]; omega
          clear hx hy h3 hq hr h1 h2
          generalize c.bs.length = n at *
          go_wp2_with fail
          go_quiet (fail)
          have HE := (show Hid (HereS w (wr.drewN nq) c p told vain gr gm a' m' b) from HE0.out.keep (keep_drewN _ _))
          clear HE0 d0 d1 d2 c0 e1 e2
          generalize wr.drewN nq = W6 at *
          have g0 : W6.cell? ⟨gm, 0, none⟩ = some (.int .i64 (a' : Int)) := cell_of HE.out.t 0
          have g1 : W6.cell? ⟨gm, 1, none⟩ = some (.int .i64 (m' : Int)) := cell_of HE.out.t 1
          have g2 : W6.cell? ⟨gm, 2, none⟩ = some (.int .i64 (b : Int)) := cell_of HE.out.t 2
          have u0 : W6.cell? ⟨gr, 0, none⟩ = some (.int .i64 0) := cell_of HE.out.r 0
          have u1 : W6.cell? ⟨gr, 1, none⟩ = some (.int .i64 0) := cell_of HE.out.r 1
          have u2 : W6.cell? ⟨gr, 2, none⟩ = some (.int .i64 0) := cell_of HE.out.r 2
          have t0 := frozen_of HE.out.r 0
          have t1 := frozen_of HE.out.r 1
          have t2 := frozen_of HE.out.r 2
          go_wp2_with fail
          refine bodyPost_ret (ret63 rfl _ _ gr 63 _ rfl (put3 HE.out.r _ _ _) rfl) rfl ?_
          exact ⟨⟨a', m', rfl, HI.out⟩, keep3 HE.out.k HE.out.rl _ _ _⟩
      · have hd2 : decide (b < a') = false := decide_eq_false (by omega)
        clear h1 h2
        generalize c.bs.length = n at *
        go_wp2_with fail
        go_quiet (fail)
        have HE := (show Hid (HereS w (wr.drewN nq) c p told vain gr gm a' m' b) from HE0.out.keep (keep_drewN _ _))
        clear HE0 d0 d1 d2 c0
        generalize wr.drewN nq = W6 at *
        have g0 : W6.cell? ⟨gm, 0, none⟩ = some (.int .i64 (a' : Int)) := cell_of HE.out.t 0
        have g1 : W6.cell? ⟨gm, 1, none⟩ = some (.int .i64 (m' : Int)) := cell_of HE.out.t 1
        have g2 : W6.cell? ⟨gm, 2, none⟩ = some (.int .i64 (b : Int)) := cell_of HE.out.t 2
        have u0 : W6.cell? ⟨gr, 0, none⟩ = some (.int .i64 0) := cell_of HE.out.r 0
        have u1 : W6.cell? ⟨gr, 1, none⟩ = some (.int .i64 0) := cell_of HE.out.r 1
        have u2 : W6.cell? ⟨gr, 2, none⟩ = some (.int .i64 0) := cell_of HE.out.r 2
        have t0 := frozen_of HE.out.r 0
        have t1 := frozen_of HE.out.r 1
        have t2 := frozen_of HE.out.r 2
        go_wp2_with fail
        refine bodyPost_ret (ret63 rfl _ _ gr 63 _ rfl (put3 HE.out.r _ _ _) rfl) rfl ?_
        exact ⟨⟨a', m', rfl, HI.out⟩, keep3 HE.out.k HE.out.rl _ _ _⟩
    · have hd1 : decide (down < a') = false := decide_eq_false (by omega)
      clear h1
      generalize c.bs.length = n at *
      go_wp2_with fail
      go_quiet (fail)
      have HE := (show Hid (HereS w (wr.drewN nq) c p told vain gr gm a' m' b) from HE0.out.keep (keep_drewN _ _))
      clear HE0 d0 d1 d2 c0
      generalize wr.drewN nq = W6 at *
      have g0 : W6.cell? ⟨gm, 0, none⟩ = some (.int .i64 (a' : Int)) := cell_of HE.out.t 0
      have g1 : W6.cell? ⟨gm, 1, none⟩ = some (.int .i64 (m' : Int)) := cell_of HE.out.t 1
      have g2 : W6.cell? ⟨gm, 2, none⟩ = some (.int .i64 (b : Int)) := cell_of HE.out.t 2
      have u0 : W6.cell? ⟨gr, 0, none⟩ = some (.int .i64 0) := cell_of HE.out.r 0
      have u1 : W6.cell? ⟨gr, 1, none⟩ = some (.int .i64 0) := cell_of HE.out.r 1
      have u2 : W6.cell? ⟨gr, 2, none⟩ = some (.int .i64 0) := cell_of HE.out.r 2
      have t0 := frozen_of HE.out.r 0
      have t1 := frozen_of HE.out.r 1
      have t2 := frozen_of HE.out.r 2
      go_wp2_with fail
      refine bodyPost_ret (ret63 rfl _ _ gr 63 _ rfl (put3 HE.out.r _ _ _) rfl) rfl ?_
      exact ⟨⟨a', m', rfl, HI.out⟩, keep3 HE.out.k HE.out.rl _ _ _⟩
end
end Go.Proofs.YtlpibfonpfhakaaDoor
