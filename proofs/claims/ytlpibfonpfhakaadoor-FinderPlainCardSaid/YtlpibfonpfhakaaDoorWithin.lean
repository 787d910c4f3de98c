/-
  within: longer matches that the marks within a match tell of.
-/
import Derived.Test.YtlpibfonpfhakaaDoorWiden
namespace Go.Proofs.YtlpibfonpfhakaaDoor
open Go.RowKit Go.Shelf
set_option linter.unusedVariables false

section
attribute [local go_sem] minSem_eq
set_option maxRecDepth 100000 in
set_option maxHeartbeats 4000000 in
/-- widen of none, and of one that is. -/
theorem widen_none (c : Cf) (p told vain down : Nat) (w : World) (h : IsS w c p told vain p p) :
    Calls Tryd.prog 24 #[.pointer (some ⟨c.sb, 0, none⟩), .agg (trio 0 0 0), .int .i64 (down : Int)] w fun e w' => e = .returned (.agg (trio 0 0 0)) ∧ Keep noBlock w w' := by
  obtain ⟨gm, hgm⟩ : ∃ gm, gm = w.heap.size := ⟨_, rfl⟩
  obtain ⟨gr, hgr⟩ : ∃ gr, gr = w.heap.size + 1 := ⟨_, rfl⟩
  obtain ⟨z, hz⟩ : ∃ z : Nat, z = 0 := ⟨_, rfl⟩
  have hd : decide (down < z) = false := decide_eq_false (by omega)
  obtain ⟨W0, hW0⟩ : ∃ W0, W0 = (w.alloc (.cells (trio z z z) 63)).alloc (.cells #[.int .i64 0, .int .i64 0, .int .i64 0] 63) := ⟨_, rfl⟩
  have hsz : (w.alloc (.cells (trio z z z) 63)).heap.size = w.heap.size + 1 := by simp
  have HC := (show Hid (HereS w W0 c p told vain gr gm z z z) from
    ⟨h, by rw [hW0]; exact ((Keep.refl _ w).alloc _).alloc _, by rw [hW0, hgr, ← hsz]; exact alloc_new _ _, by rw [hW0, hgm]; exact alloc_far (alloc_new w _) _, by omega, by omega, by omega⟩)
  have e : trio 0 0 0 = trio z z z := by rw [hz]
  rw [e]
  clear h hsz hz e
  go_enter Tryd.func24, Tryd.ntmps24
  go_wp2_with fail
  rw [← hW0, ← hgr, ← hgm]
  clear hW0 hgr hgm
  refine wp_loop_rounds 1 ?_
  rw [rounds_succ]
  have d0 : W0.cell? ⟨gm, 0, none⟩ = some (.int .i64 (z : Int)) := cell_of HC.out.t 0
  go_wp2_with fail
  go_quiet (fail)
  have HE := (show Hid (HereS w (W0.drewN nq) c p told vain gr gm z z z) from HC.out.keep (keep_drewN _ _))
  clear HC d0
  generalize W0.drewN nq = W6 at *
  have g0 : W6.cell? ⟨gm, 0, none⟩ = some (.int .i64 (z : Int)) := cell_of HE.out.t 0
  have g1 : W6.cell? ⟨gm, 1, none⟩ = some (.int .i64 (z : Int)) := cell_of HE.out.t 1
  have g2 : W6.cell? ⟨gm, 2, none⟩ = some (.int .i64 (z : Int)) := cell_of HE.out.t 2
  have u0 : W6.cell? ⟨gr, 0, none⟩ = some (.int .i64 0) := cell_of HE.out.r 0
  have u1 : W6.cell? ⟨gr, 1, none⟩ = some (.int .i64 0) := cell_of HE.out.r 1
  have u2 : W6.cell? ⟨gr, 2, none⟩ = some (.int .i64 0) := cell_of HE.out.r 2
  have t0 := frozen_of HE.out.r 0
  have t1 := frozen_of HE.out.r 1
  have t2 := frozen_of HE.out.r 2
  go_wp2_with fail
  refine bodyPost_ret (ret63 rfl _ _ gr 63 _ rfl (put3 HE.out.r _ _ _) rfl) rfl ?_
  exact ⟨rfl, keep3 HE.out.k HE.out.rl _ _ _⟩
end
theorem widen_any (c : Cf) (p told vain a m b down : Nat) (w : World) (h : IsS w c p told vain p p) (hM : (a = 0 ∧ m = 0 ∧ b = 0) ∨ OkM c a m b) :
    Calls Tryd.prog 24 #[.pointer (some ⟨c.sb, 0, none⟩), .agg (trio a m b), .int .i64 (down : Int)] w fun e w' => (∃ a' m' b' : Nat, e = .returned (.agg (trio a' m' b')) ∧ ((a' = 0 ∧ m' = 0 ∧ b' = 0 ∧ m = 0) ∨ (b' = b ∧ Wid c a m b down a' m'))) ∧ Keep noBlock w w' := by
  rcases hM with ⟨rfl, rfl, rfl⟩ | hM
  · refine (widen_none c p told vain down w h).mono ?_
    rintro e w' ⟨rfl, k⟩
    exact ⟨⟨0, 0, 0, rfl, .inl ⟨rfl, rfl, rfl, rfl⟩⟩, k⟩
  · refine (widen_ok c p told vain a m b down w h hM).mono ?_
    rintro e w' ⟨⟨a', m', rfl, hw⟩, k⟩
    exact ⟨⟨a', m', b, rfl, .inr ⟨rfl, hw⟩⟩, k⟩

/-- A search that goes on, and two matches in memory of one's own. -/
structure WS (w W : World) (c : Cf) (told vain gr gm p a m b : Nat) : Prop where
  s : IsS W c p told vain p p
  k : Keep (mine c) w W
  lt : ∀ k, mine c k → k < w.heap.size
  glt : c.gb < w.heap.size
  r : W.heap[gr]? = some (.cells #[.int .i64 0, .int .i64 0, .int .i64 0] 63 (0, 0))
  t : W.heap[gm]? = some (.cells (trio a m b) 63 (0, 0))
  rl : w.heap.size ≤ gr
  ml : w.heap.size ≤ gm
  ne : gr ≠ gm
theorem WS.step {w W W' : World} {c : Cf} {told vain gr gm p a m b p' : Nat} (h : WS w W c told vain gr gm p a m b) (s' : IsS W' c p' told vain p' p') (hk : Keep (mine c) W W') : WS w W' c told vain gr gm p' a m b :=
  ⟨s', h.k.trans' hk, h.lt, h.glt, hk.obj h.r (fun e => by have := h.lt _ e; have := h.rl; omega), hk.obj h.t (fun e => by have := h.lt _ e; have := h.ml; omega), h.rl, h.ml, h.ne⟩
theorem WS.still {w W W' : World} {c : Cf} {told vain gr gm p a m b : Nat} (h : WS w W c told vain gr gm p a m b) (hk : Keep noBlock W W') : WS w W' c told vain gr gm p a m b :=
  h.step (h.s.still hk) (hk.mono (fun _ _ h => h.elim))
theorem mine_lt {w : World} {c : Cf} {p told vain p1 p2 : Nat} (h : IsS w c p told vain p1 p2) : (∀ k, mine c k → k < w.heap.size) ∧ c.gb < w.heap.size := by
  obtain ⟨hs, os, T⟩ := h.tabs
  refine ⟨fun k e => ?_, h.text.block (fun e => by have := h.ok.n2; rw [e] at this; simp at this)⟩
  rcases e with e | e | e | e
  · rw [e]; exact obj_lt h.obj
  · rw [e]; exact obj_lt T.heads
  · rw [e]; exact obj_lt T.older
  · rw [e]; exact h.map.lt
/-- A block of one's own, written, is none of the search's. -/
theorem IsS.apart {w W W' : World} {c : Cf} {p told vain p1 p2 g : Nat} (h : IsS W c p told vain p1 p2) (lt : ∀ k, mine c k → k < w.heap.size) (glt : c.gb < w.heap.size) (hg : w.heap.size ≤ g) (hk : Keep (fun k => k = g) W W') : IsS W' c p told vain p1 p2 := by
  have := lt _ (.inl rfl); have := lt _ (.inr (.inl rfl)); have := lt _ (.inr (.inr (.inl rfl))); have := lt _ (.inr (.inr (.inr rfl)))
  exact h.keep hk (fun e => by omega) (fun e => by omega) (fun e => by omega) (fun e => by omega) (fun e => by omega)
theorem keep_put (W : World) (g : Nat) (v0 v1 v2 : Value) : Keep (fun k => k = g) W (((W.setCell ⟨g, 0, none⟩ v0).setCell ⟨g, 1, none⟩ v1).setCell ⟨g, 2, none⟩ v2) :=
  (((Keep.refl (fun k => k = g) W).setCell (p := ⟨g, 0, none⟩) (fun _ => rfl) v0).setCell (p := ⟨g, 1, none⟩) (fun _ => rfl) v1).setCell (p := ⟨g, 2, none⟩) (fun _ => rfl) v2
theorem WS.put {w W : World} {c : Cf} {told vain gr gm p a m b : Nat} (h : WS w W c told vain gr gm p a m b) (a' m' b' : Nat) :
    WS w (((W.setCell ⟨gm, 0, none⟩ (.int .i64 (a' : Int))).setCell ⟨gm, 1, none⟩ (.int .i64 (m' : Int))).setCell ⟨gm, 2, none⟩ (.int .i64 (b' : Int))) c told vain gr gm p a' m' b' :=
  ⟨h.s.apart h.lt h.glt h.ml (keep_put W gm _ _ _), h.k.trans (keep_put W gm _ _ _) (fun i hi e => by have := h.ml; omega), h.lt, h.glt, set_far (set_far (set_far h.r h.ne _ _) h.ne _ _) h.ne _ _, put3 h.t _ _ _, h.rl, h.ml, h.ne⟩
theorem WS.putR {w W : World} {c : Cf} {told vain gr gm p a m b : Nat} (h : WS w W c told vain gr gm p a m b) (v0 v1 v2 : Value) :
    IsS (((W.setCell ⟨gr, 0, none⟩ v0).setCell ⟨gr, 1, none⟩ v1).setCell ⟨gr, 2, none⟩ v2) c p told vain p p ∧ Keep (mine c) w (((W.setCell ⟨gr, 0, none⟩ v0).setCell ⟨gr, 1, none⟩ v1).setCell ⟨gr, 2, none⟩ v2) :=
  ⟨h.s.apart h.lt h.glt h.rl (keep_put W gr _ _ _), h.k.trans (keep_put W gr _ _ _) (fun i hi e => by have := h.rl; omega)⟩

/-- How far within has come. -/
def InM (c : Cf) (p a m b p' m' b' : Nat) : Prop := m ≤ m' ∧ ((a = 0 ∧ m' = 0 ∧ b' = 0 ∧ p' = p) ∨ (OkM c a m' b' ∧ p ≤ p' ∧ a ≤ p' ∧ p' < a + m'))

set_option maxRecDepth 100000 in
set_option maxHeartbeats 4000000 in
theorem within_any (c : Cf) (p told vain a m b : Nat) (w : World) (h : IsS w c p told vain p p) (hp : p ≤ c.bs.length) (hM : (a = 0 ∧ m = 0 ∧ b = 0) ∨ (OkM c a m b ∧ a ≤ p ∧ p < a + m)) :
    Calls Tryd.prog 31 #[.pointer (some ⟨c.sb, 0, none⟩), .agg (trio a m b)] w fun e w' => (∃ m' b' p' : Nat, e = .returned (.agg (trio a m' b')) ∧ m ≤ m' ∧ ((a = 0 ∧ m' = 0 ∧ b' = 0 ∧ p' = p) ∨ (OkM c a m' b' ∧ p ≤ p' ∧ a ≤ p' ∧ p' < a + m')) ∧ IsS w' c p' told vain p' p') ∧ Keep (mine c) w w' := by
  have hn := h.ok.n
  have HI0 := (show Hid (InM c p a m b p m b) from ⟨Nat.le_refl _, hM.imp (fun h => ⟨h.1, h.2.1, h.2.2, rfl⟩) (fun h => ⟨h.1, Nat.le_refl _, h.2.1, h.2.2⟩)⟩)
  obtain ⟨gm, hgm⟩ : ∃ gm, gm = w.heap.size := ⟨_, rfl⟩
  obtain ⟨gr, hgr⟩ : ∃ gr, gr = w.heap.size + 1 := ⟨_, rfl⟩
  obtain ⟨W0, hW0⟩ : ∃ W0, W0 = (w.alloc (.cells (trio a m b) 63)).alloc (.cells #[.int .i64 0, .int .i64 0, .int .i64 0] 63) := ⟨_, rfl⟩
  have hsz : (w.alloc (.cells (trio a m b) 63)).heap.size = w.heap.size + 1 := by simp
  have k0 : Keep noBlock w W0 := by rw [hW0]; exact ((Keep.refl _ w).alloc _).alloc _
  have HC := (show Hid (WS w W0 c told vain gr gm p a m b) from
    ⟨h.still k0, k0.mono (fun _ _ h => h.elim), (mine_lt h).1, (mine_lt h).2, by rw [hW0, hgr, ← hsz]; exact alloc_new _ _, by rw [hW0, hgm]; exact alloc_far (alloc_new w _) _, by omega, by omega, by omega⟩)
  clear h hM hsz k0
  go_enter Tryd.func31, Tryd.ntmps31
  go_wp2_with fail
  rw [← hW0, ← hgr, ← hgm]
  clear hW0 hgr hgm
  go_loopw [6] (fun _ wr => ∃ m' b' p' : Nat, Hid (InM c p a m b p' m' b') ∧ Hid (WS w wr c told vain gr gm p' a m' b')) (fun _ wr => c.bs.length - numAt wr ⟨c.sb, 5, none⟩)
  case atStart => exact ⟨m, b, p, HI0, HC⟩
  case round =>
    clear HI0 HC
    obtain ⟨m', b', p', HI, HE0⟩ := hrel
    have d0 : wr.cell? ⟨gm, 0, none⟩ = some (.int .i64 (a : Int)) := cell_of HE0.out.t 0
    have d1 : wr.cell? ⟨gm, 1, none⟩ = some (.int .i64 (m' : Int)) := cell_of HE0.out.t 1
    have c5 : wr.cell? ⟨c.sb, 5, none⟩ = some (.int .i64 (p' : Int)) := cell_of HE0.out.s.obj 5
    have hpb : p' ≤ c.bs.length ∧ a + m' ≤ c.bs.length ∧ (m' = 0 → a = 0) := by
      rcases HI.out.2 with ⟨e1, e2, e3, e4⟩ | ⟨e1, e2, e3, e4⟩
      · omega
      · have := e1.fin; have := e1.lo; have := HE0.out.s.ok.l2; omega
    obtain ⟨hpb1, hpb2, hpb3⟩ := hpb
    obtain ⟨q, hq⟩ : ∃ q, q = p' + 1 := ⟨_, rfl⟩
    obtain ⟨e, he⟩ : ∃ e, e = a + m' := ⟨_, rfl⟩
    have hs1 : (p' : Int) + 1 = (q : Int) := by omega
    have hs2 : (a : Int) + (m' : Int) = (e : Int) := by omega
    by_cases h1 : m' < 64
    · have hd1 : (m' : Int) < 64 := by omega
      by_cases h2 : q < e
      · have hd2 : (q : Int) < (e : Int) := by omega
        have HQ := (show Hid (q = p' + 1 ∧ e = a + m' ∧ q < e) from ⟨hq, he, h2⟩)
        have HM0 := (show Hid (numAt wr ⟨c.sb, 5, none⟩ = p') from numAt_of c5)
        clear h1 h2 hq he
        go_wp2_with fail
        go_quiet (fail)
        have HE := (show Hid (WS w (wr.drewN nq) c told vain gr gm p' a m' b') from HE0.out.still (keep_drewN _ _))
        clear HE0 d0 d1
        generalize wr.drewN nq = W6 at *
        have c5 : W6.cell? ⟨c.sb, 5, none⟩ = some (.int .i64 (p' : Int)) := cell_of HE.out.s.obj 5
        have HSK := skip_any c p' told vain q W6 HE.out.s (by omega) (by have := HQ.out; omega)
        rw [show max p' q = q from by have := HQ.out; omega] at HSK
        go_wp2_with fail
        refine HSK.mono ?_
        rintro e W7 ⟨rfl, s7, k7⟩
        have HE7 := (show Hid (WS w W7 c told vain gr gm q a m' b') from HE.out.step s7 k7)
        clear HSK s7 k7 HE c5
        have d0 : W7.cell? ⟨gm, 0, none⟩ = some (.int .i64 (a : Int)) := cell_of HE7.out.t 0
        have HMK := (show Hid (∀ W, Keep noBlock W7 W → Calls Tryd.prog 37 #[.pointer (some ⟨c.sb, 0, none⟩)] W fun e w' => (∃ a m b : Nat, e = .returned (.agg (trio a m b)) ∧ ((a = 0 ∧ m = 0 ∧ b = 0) ∨ (a = q ∧ OkM c a m b))) ∧ Keep noBlock W w') from
          fun W kW => marked_any c q told vain W (HE7.out.s.still kW) (by have := HQ.out; omega))
        have HWD := (show Hid (∀ W a2 m2 b2, Keep noBlock W7 W → ((a2 = 0 ∧ m2 = 0 ∧ b2 = 0) ∨ (a2 = q ∧ OkM c a2 m2 b2)) → Calls Tryd.prog 24 #[.pointer (some ⟨c.sb, 0, none⟩), .agg (trio a2 m2 b2), .int .i64 (a : Int)] W fun e w' => (∃ a' m' b' : Nat, e = .returned (.agg (trio a' m' b')) ∧ ((a' = 0 ∧ m' = 0 ∧ b' = 0 ∧ m2 = 0) ∨ (b' = b2 ∧ Wid c a2 m2 b2 a a' m'))) ∧ Keep noBlock W w') from
          fun W a2 m2 b2 kW hh => widen_any c q told vain a2 m2 b2 a W (HE7.out.s.still kW) (hh.imp id (fun h => h.2)))
        go_wp2_with fail
        have hn7 : gm ≠ W7.heap.size := Nat.ne_of_lt (obj_lt HE7.out.t)
        have hn7' := hn7.symm
        go_region_held3 (fun W' => W'.cell? ⟨gm, 0, none⟩ = some (.int .i64 (a : Int))) (first | exact d0 | exact d8 | exact dA | exact d9 | go_keep) ((first
          | (go_at_call 37; refine (HMK.out W7.drew (Keep.refl _ _).drew).mono ?_; rintro e W8 ⟨⟨a2, m2, b2, rfl, hab2⟩, k8⟩; have kk8 : Keep noBlock W7 W8 := Keep.trans' (Keep.refl noBlock W7).drew k8; have d8 : W8.cell? ⟨gm, 0, none⟩ = some (.int .i64 (a : Int)) := cell_of (kk8.obj HE7.out.t (fun h => h)) 0)
          | (go_at_call 37; refine (HMK.out (W7.alloc (.cells #[.int .i64 0, .int .i64 0, .int .i64 0] 63)).drew ((Keep.refl _ _).alloc _).drew).mono ?_; rintro e W8 ⟨⟨a2, m2, b2, rfl, hab2⟩, k8⟩; have kk8 : Keep noBlock W7 W8 := Keep.trans' ((Keep.refl noBlock W7).alloc _).drew k8; have d8 : W8.cell? ⟨gm, 0, none⟩ = some (.int .i64 (a : Int)) := cell_of (kk8.obj HE7.out.t (fun h => h)) 0; have HX := (show Hid (W8.heap[W7.heap.size]? = some (.cells #[.int .i64 0, .int .i64 0, .int .i64 0] 63 (0, 0))) from k8.obj (alloc_new W7 _) (fun h => h)))
          | (go_at_call 24; refine (HWD.out W8 _ _ _ kk8 hab2).mono ?_; rintro e W9 ⟨⟨a3, m3, b3, rfl, h3⟩, k9⟩; have x9 := (k9.obj HX.out (fun h => h)); have y0 := cell_of x9 0; have y1 := cell_of x9 1; have y2 := cell_of x9 2; have f0 := frozen_of x9 0; have f1 := frozen_of x9 1; have f2 := frozen_of x9 2; have d9 : W9.cell? ⟨gm, 0, none⟩ = some (.int .i64 (a : Int)) := cell_of ((kk8.trans' k9).obj HE7.out.t (fun h => h)) 0)
          | (go_at_call 24; refine (HWD.out W8 _ _ _ kk8 hab2).mono ?_; rintro e W9 ⟨⟨a3, m3, b3, rfl, h3⟩, k9⟩; have d9 : W9.cell? ⟨gm, 0, none⟩ = some (.int .i64 (a : Int)) := cell_of ((kk8.trans' k9).obj HE7.out.t (fun h => h)) 0)
          | (go_at_call 24; refine (HWD.out (W8.alloc (.cells #[.int .i64 0, .int .i64 0, .int .i64 0] 63)) _ _ _ (kk8.alloc _) hab2).mono ?_; rintro e W9 ⟨⟨a3, m3, b3, rfl, h3⟩, k9⟩; have x9 := (k9.obj (alloc_new W8 _) (fun h => h)); have y0 := cell_of x9 0; have y1 := cell_of x9 1; have y2 := cell_of x9 2; have f0 := frozen_of x9 0; have f1 := frozen_of x9 1; have f2 := frozen_of x9 2; have d9 : W9.cell? ⟨gm, 0, none⟩ = some (.int .i64 (a : Int)) := cell_of (((kk8.alloc _).trans' k9).obj HE7.out.t (fun h => h)) 0; have hn8 : gm ≠ W8.heap.size := Nat.ne_of_lt (obj_lt (kk8.obj HE7.out.t (fun h => h))); have hn8' := hn8.symm)))
        · obtain ⟨gx, hgx⟩ : ∃ gx, gx = W9.heap.size := ⟨_, rfl⟩
          obtain ⟨WE, hWE⟩ : ∃ WE, WE = W9.alloc (.cells (trio a3 m3 b3) 63) := ⟨_, rfl⟩
          have x0 : WE.heap[gx]? = some (.cells (trio a3 m3 b3) 63 (0, 0)) := by rw [hWE, hgx]; exact alloc_new W9 _
          have kE : Keep noBlock W7 WE := by rw [hWE]; exact (kk8.trans' k9).alloc _
          have hne : gm ≠ gx := by rw [hgx]; exact Nat.ne_of_lt (obj_lt ((kk8.trans' k9).obj HE7.out.t (fun h => h)))
          have hne' := hne.symm
          have HEE := (show Hid (WS w WE c told vain gr gm q a m' b') from HE7.out.still kE)
          have H3 := (show Hid (∀ j : Nat, m' < m3 → a3 = a → OkM c a m3 b3) from fun j q1 q2 => by
            rcases h3 with ⟨e1, e2, e3, e4⟩ | ⟨e1, e2⟩
            · omega
            · subst q2; rw [e1]; exact e2.ok)
          have v0 : WE.cell? ⟨gx, 0, none⟩ = some (.int .i64 (a3 : Int)) := cell_of x0 0
          have v1 : WE.cell? ⟨gx, 1, none⟩ = some (.int .i64 (m3 : Int)) := cell_of x0 1
          have v2 : WE.cell? ⟨gx, 2, none⟩ = some (.int .i64 (b3 : Int)) := cell_of x0 2
          have w0 : WE.cell? ⟨gm, 0, none⟩ = some (.int .i64 (a : Int)) := cell_of HEE.out.t 0
          have w1 : WE.cell? ⟨gm, 1, none⟩ = some (.int .i64 (m' : Int)) := cell_of HEE.out.t 1
          have w2 : WE.cell? ⟨gm, 2, none⟩ = some (.int .i64 (b' : Int)) := cell_of HEE.out.t 2
          have p0 := frozen_of HEE.out.t 0
          have p1 := frozen_of HEE.out.t 1
          have p2 := frozen_of HEE.out.t 2
          have HIN := (show Hid (m ≤ m' ∧ OkM c a m' b' ∧ p ≤ q ∧ a ≤ q ∧ q < a + m') from by
            have hh := HQ.out
            rcases HI.out.2 with ⟨e1, e2, e3, e4⟩ | ⟨e1, e2, e3, e4⟩
            · omega
            · exact ⟨HI.out.1, e1, by omega, by omega, by omega⟩)
          rw [← hWE]
          try rw [← hgx]
          clear hWE hgx x0 kE HE7 HMK HWD k9 k8 kk8 hab2 h3
          try clear HX
          try clear x9
          try clear hn8 hn8'
          clear hn7 hn7' d0 d8 d9
          try clear y0 y1 y2 f0 f1 f2
          by_cases h5 : m' < m3
          · have h5I : (m' : Int) < (m3 : Int) := by omega
            by_cases h6 : a3 = a
            · have h6b : ((a3 : Int) == (a : Int)) = true := by simp [h6]
              have HOK := (show Hid (OkM c a m3 b3) from H3.out 0 h5 h6)
              have H6 := (show Hid (a3 = a) from h6)
              have H7 := (show Hid (WS w (((WE.setCell ⟨gm, 0, none⟩ (.int .i64 (a3 : Int))).setCell ⟨gm, 1, none⟩ (.int .i64 (m3 : Int))).setCell ⟨gm, 2, none⟩ (.int .i64 (b3 : Int))) c told vain gr gm q a3 m3 b3) from HEE.out.put a3 m3 b3)
              clear h6 H3 HEE
              go_wp2_with fail
              generalize ((WE.setCell ⟨gm, 0, none⟩ (.int .i64 (a3 : Int))).setCell ⟨gm, 1, none⟩ (.int .i64 (m3 : Int))).setCell ⟨gm, 2, none⟩ (.int .i64 (b3 : Int)) = WF at *
              go_roundw
              case rel =>
                obtain rfl := H6.out
                exact ⟨m3, b3, q, ⟨by have := HIN.out.1; omega, .inr ⟨HOK.out, HIN.out.2.2.1, HIN.out.2.2.2.1, by have := HIN.out.2.2.2.2; omega⟩⟩, H7⟩
              case measure =>
                rw [numAt_of (cell_of H7.out.s.obj 5), HM0.out]; have := HQ.out; omega
            · have h6b : ((a3 : Int) == (a : Int)) = false := by rw [beq_eq_false_iff_ne]; omega
              clear h6 H3
              go_wp2_with fail
              go_roundw
              case rel => exact ⟨m', b', q, ⟨HIN.out.1, .inr ⟨HIN.out.2.1, HIN.out.2.2.1, HIN.out.2.2.2.1, HIN.out.2.2.2.2⟩⟩, HEE⟩
              case measure => rw [numAt_of (cell_of HEE.out.s.obj 5), HM0.out]; have := HQ.out; omega
          · have h5I : decide (m' < m3) = false := decide_eq_false h5
            clear H3
            go_wp2_with fail
            go_roundw
            case rel => exact ⟨m', b', q, ⟨HIN.out.1, .inr ⟨HIN.out.2.1, HIN.out.2.2.1, HIN.out.2.2.2.1, HIN.out.2.2.2.2⟩⟩, HEE⟩
            case measure => rw [numAt_of (cell_of HEE.out.s.obj 5), HM0.out]; have := HQ.out; omega
        · obtain ⟨gx, hgx⟩ : ∃ gx, gx = W8.heap.size := ⟨_, rfl⟩
          obtain ⟨WE, hWE⟩ : ∃ WE, WE = (((W9.setCell ⟨W8.heap.size, 0, none⟩ (.int .i64 (a3 : Int))).setCell ⟨W8.heap.size, 1, none⟩ (.int .i64 (m3 : Int))).setCell ⟨W8.heap.size, 2, none⟩ (.int .i64 (b3 : Int))) := ⟨_, rfl⟩
          have x0 : WE.heap[gx]? = some (.cells (trio a3 m3 b3) 63 (0, 0)) := by rw [hWE, hgx]; exact put3 x9 _ _ _
          have kE : Keep noBlock W7 WE := by rw [hWE]; exact keep3 ((kk8.alloc _).trans' k9) kk8.size _ _ _
          have hne : gm ≠ gx := by rw [hgx]; exact hn8
          have hne' := hne.symm
          have HEE := (show Hid (WS w WE c told vain gr gm q a m' b') from HE7.out.still kE)
          have H3 := (show Hid (∀ j : Nat, m' < m3 → a3 = a → OkM c a m3 b3) from fun j q1 q2 => by
            rcases h3 with ⟨e1, e2, e3, e4⟩ | ⟨e1, e2⟩
            · omega
            · subst q2; rw [e1]; exact e2.ok)
          have v0 : WE.cell? ⟨gx, 0, none⟩ = some (.int .i64 (a3 : Int)) := cell_of x0 0
          have v1 : WE.cell? ⟨gx, 1, none⟩ = some (.int .i64 (m3 : Int)) := cell_of x0 1
          have v2 : WE.cell? ⟨gx, 2, none⟩ = some (.int .i64 (b3 : Int)) := cell_of x0 2
          have w0 : WE.cell? ⟨gm, 0, none⟩ = some (.int .i64 (a : Int)) := cell_of HEE.out.t 0
          have w1 : WE.cell? ⟨gm, 1, none⟩ = some (.int .i64 (m' : Int)) := cell_of HEE.out.t 1
          have w2 : WE.cell? ⟨gm, 2, none⟩ = some (.int .i64 (b' : Int)) := cell_of HEE.out.t 2
          have p0 := frozen_of HEE.out.t 0
          have p1 := frozen_of HEE.out.t 1
          have p2 := frozen_of HEE.out.t 2
          have HIN := (show Hid (m ≤ m' ∧ OkM c a m' b' ∧ p ≤ q ∧ a ≤ q ∧ q < a + m') from by
            have hh := HQ.out
            rcases HI.out.2 with ⟨e1, e2, e3, e4⟩ | ⟨e1, e2, e3, e4⟩
            · omega
            · exact ⟨HI.out.1, e1, by omega, by omega, by omega⟩)
          rw [← hWE]
          try rw [← hgx]
          clear hWE hgx x0 kE HE7 HMK HWD k9 k8 kk8 hab2 h3
          try clear HX
          try clear x9
          try clear hn8 hn8'
          clear hn7 hn7' d0 d8 d9
          try clear y0 y1 y2 f0 f1 f2
          by_cases h5 : m' < m3
          · have h5I : (m' : Int) < (m3 : Int) := by omega
            by_cases h6 : a3 = a
            · have h6b : ((a3 : Int) == (a : Int)) = true := by simp [h6]
              have HOK := (show Hid (OkM c a m3 b3) from H3.out 0 h5 h6)
              have H6 := (show Hid (a3 = a) from h6)
              have H7 := (show Hid (WS w (((WE.setCell ⟨gm, 0, none⟩ (.int .i64 (a3 : Int))).setCell ⟨gm, 1, none⟩ (.int .i64 (m3 : Int))).setCell ⟨gm, 2, none⟩ (.int .i64 (b3 : Int))) c told vain gr gm q a3 m3 b3) from HEE.out.put a3 m3 b3)
              clear h6 H3 HEE
              go_wp2_with fail
              generalize ((WE.setCell ⟨gm, 0, none⟩ (.int .i64 (a3 : Int))).setCell ⟨gm, 1, none⟩ (.int .i64 (m3 : Int))).setCell ⟨gm, 2, none⟩ (.int .i64 (b3 : Int)) = WF at *
              go_roundw
              case rel =>
                obtain rfl := H6.out
                exact ⟨m3, b3, q, ⟨by have := HIN.out.1; omega, .inr ⟨HOK.out, HIN.out.2.2.1, HIN.out.2.2.2.1, by have := HIN.out.2.2.2.2; omega⟩⟩, H7⟩
              case measure =>
                rw [numAt_of (cell_of H7.out.s.obj 5), HM0.out]; have := HQ.out; omega
            · have h6b : ((a3 : Int) == (a : Int)) = false := by rw [beq_eq_false_iff_ne]; omega
              clear h6 H3
              go_wp2_with fail
              go_roundw
              case rel => exact ⟨m', b', q, ⟨HIN.out.1, .inr ⟨HIN.out.2.1, HIN.out.2.2.1, HIN.out.2.2.2.1, HIN.out.2.2.2.2⟩⟩, HEE⟩
              case measure => rw [numAt_of (cell_of HEE.out.s.obj 5), HM0.out]; have := HQ.out; omega
          · have h5I : decide (m' < m3) = false := decide_eq_false h5
            clear H3
            go_wp2_with fail
            go_roundw
            case rel => exact ⟨m', b', q, ⟨HIN.out.1, .inr ⟨HIN.out.2.1, HIN.out.2.2.1, HIN.out.2.2.2.1, HIN.out.2.2.2.2⟩⟩, HEE⟩
            case measure => rw [numAt_of (cell_of HEE.out.s.obj 5), HM0.out]; have := HQ.out; omega
        · obtain ⟨gx, hgx⟩ : ∃ gx, gx = W7.heap.size := ⟨_, rfl⟩
          obtain ⟨WE, hWE⟩ : ∃ WE, WE = (((W9.setCell ⟨W7.heap.size, 0, none⟩ (.int .i64 (a3 : Int))).setCell ⟨W7.heap.size, 1, none⟩ (.int .i64 (m3 : Int))).setCell ⟨W7.heap.size, 2, none⟩ (.int .i64 (b3 : Int))) := ⟨_, rfl⟩
          have x0 : WE.heap[gx]? = some (.cells (trio a3 m3 b3) 63 (0, 0)) := by rw [hWE, hgx]; exact put3 x9 _ _ _
          have kE : Keep noBlock W7 WE := by rw [hWE]; exact keep3 (kk8.trans' k9) (Nat.le_refl _) _ _ _
          have hne : gm ≠ gx := by rw [hgx]; exact hn7
          have hne' := hne.symm
          have HEE := (show Hid (WS w WE c told vain gr gm q a m' b') from HE7.out.still kE)
          have H3 := (show Hid (∀ j : Nat, m' < m3 → a3 = a → OkM c a m3 b3) from fun j q1 q2 => by
            rcases h3 with ⟨e1, e2, e3, e4⟩ | ⟨e1, e2⟩
            · omega
            · subst q2; rw [e1]; exact e2.ok)
          have v0 : WE.cell? ⟨gx, 0, none⟩ = some (.int .i64 (a3 : Int)) := cell_of x0 0
          have v1 : WE.cell? ⟨gx, 1, none⟩ = some (.int .i64 (m3 : Int)) := cell_of x0 1
          have v2 : WE.cell? ⟨gx, 2, none⟩ = some (.int .i64 (b3 : Int)) := cell_of x0 2
          have w0 : WE.cell? ⟨gm, 0, none⟩ = some (.int .i64 (a : Int)) := cell_of HEE.out.t 0
          have w1 : WE.cell? ⟨gm, 1, none⟩ = some (.int .i64 (m' : Int)) := cell_of HEE.out.t 1
          have w2 : WE.cell? ⟨gm, 2, none⟩ = some (.int .i64 (b' : Int)) := cell_of HEE.out.t 2
          have p0 := frozen_of HEE.out.t 0
          have p1 := frozen_of HEE.out.t 1
          have p2 := frozen_of HEE.out.t 2
          have HIN := (show Hid (m ≤ m' ∧ OkM c a m' b' ∧ p ≤ q ∧ a ≤ q ∧ q < a + m') from by
            have hh := HQ.out
            rcases HI.out.2 with ⟨e1, e2, e3, e4⟩ | ⟨e1, e2, e3, e4⟩
            · omega
            · exact ⟨HI.out.1, e1, by omega, by omega, by omega⟩)
          rw [← hWE]
          try rw [← hgx]
          clear hWE hgx x0 kE HE7 HMK HWD k9 k8 kk8 hab2 h3
          try clear HX
          try clear x9
          try clear hn8 hn8'
          clear hn7 hn7' d0 d8 d9
          try clear y0 y1 y2 f0 f1 f2
          by_cases h5 : m' < m3
          · have h5I : (m' : Int) < (m3 : Int) := by omega
            by_cases h6 : a3 = a
            · have h6b : ((a3 : Int) == (a : Int)) = true := by simp [h6]
              have HOK := (show Hid (OkM c a m3 b3) from H3.out 0 h5 h6)
              have H6 := (show Hid (a3 = a) from h6)
              have H7 := (show Hid (WS w (((WE.setCell ⟨gm, 0, none⟩ (.int .i64 (a3 : Int))).setCell ⟨gm, 1, none⟩ (.int .i64 (m3 : Int))).setCell ⟨gm, 2, none⟩ (.int .i64 (b3 : Int))) c told vain gr gm q a3 m3 b3) from HEE.out.put a3 m3 b3)
              clear h6 H3 HEE
              go_wp2_with fail
              generalize ((WE.setCell ⟨gm, 0, none⟩ (.int .i64 (a3 : Int))).setCell ⟨gm, 1, none⟩ (.int .i64 (m3 : Int))).setCell ⟨gm, 2, none⟩ (.int .i64 (b3 : Int)) = WF at *
              go_roundw
              case rel =>
                obtain rfl := H6.out
                exact ⟨m3, b3, q, ⟨by have := HIN.out.1; omega, .inr ⟨HOK.out, HIN.out.2.2.1, HIN.out.2.2.2.1, by have := HIN.out.2.2.2.2; omega⟩⟩, H7⟩
              case measure =>
                rw [numAt_of (cell_of H7.out.s.obj 5), HM0.out]; have := HQ.out; omega
            · have h6b : ((a3 : Int) == (a : Int)) = false := by rw [beq_eq_false_iff_ne]; omega
              clear h6 H3
              go_wp2_with fail
              go_roundw
              case rel => exact ⟨m', b', q, ⟨HIN.out.1, .inr ⟨HIN.out.2.1, HIN.out.2.2.1, HIN.out.2.2.2.1, HIN.out.2.2.2.2⟩⟩, HEE⟩
              case measure => rw [numAt_of (cell_of HEE.out.s.obj 5), HM0.out]; have := HQ.out; omega
          · have h5I : decide (m' < m3) = false := decide_eq_false h5
            clear H3
            go_wp2_with fail
            go_roundw
            case rel => exact ⟨m', b', q, ⟨HIN.out.1, .inr ⟨HIN.out.2.1, HIN.out.2.2.1, HIN.out.2.2.2.1, HIN.out.2.2.2.2⟩⟩, HEE⟩
            case measure => rw [numAt_of (cell_of HEE.out.s.obj 5), HM0.out]; have := HQ.out; omega
      · have hd2 : decide (q < e) = false := decide_eq_false h2
        clear h1 h2 hq he
        go_wp2_with fail
        go_quiet (fail)
        have HE := (show Hid (WS w (wr.drewN nq) c told vain gr gm p' a m' b') from HE0.out.still (keep_drewN _ _))
        clear HE0 d0 d1 c5
        generalize wr.drewN nq = W6 at *
        have g0 : W6.cell? ⟨gm, 0, none⟩ = some (.int .i64 (a : Int)) := cell_of HE.out.t 0
        have g1 : W6.cell? ⟨gm, 1, none⟩ = some (.int .i64 (m' : Int)) := cell_of HE.out.t 1
        have g2 : W6.cell? ⟨gm, 2, none⟩ = some (.int .i64 (b' : Int)) := cell_of HE.out.t 2
        have u0 : W6.cell? ⟨gr, 0, none⟩ = some (.int .i64 0) := cell_of HE.out.r 0
        have u1 : W6.cell? ⟨gr, 1, none⟩ = some (.int .i64 0) := cell_of HE.out.r 1
        have u2 : W6.cell? ⟨gr, 2, none⟩ = some (.int .i64 0) := cell_of HE.out.r 2
        have t0 := frozen_of HE.out.r 0
        have t1 := frozen_of HE.out.r 1
        have t2 := frozen_of HE.out.r 2
        go_wp2_with fail
        refine bodyPost_ret (ret63 rfl _ _ gr 63 _ rfl (put3 HE.out.r _ _ _) rfl) rfl ?_
        exact ⟨⟨m', b', p', rfl, HI.out.1, HI.out.2, (HE.out.putR _ _ _).1⟩, (HE.out.putR _ _ _).2⟩
    · have hd1 : decide ((m' : Int) < 64) = false := decide_eq_false (by omega)
      clear h1 hq he
      go_wp2_with fail
      go_quiet (fail)
      have HE := (show Hid (WS w (wr.drewN nq) c told vain gr gm p' a m' b') from HE0.out.still (keep_drewN _ _))
      clear HE0 d0 d1 c5
      generalize wr.drewN nq = W6 at *
      have g0 : W6.cell? ⟨gm, 0, none⟩ = some (.int .i64 (a : Int)) := cell_of HE.out.t 0
      have g1 : W6.cell? ⟨gm, 1, none⟩ = some (.int .i64 (m' : Int)) := cell_of HE.out.t 1
      have g2 : W6.cell? ⟨gm, 2, none⟩ = some (.int .i64 (b' : Int)) := cell_of HE.out.t 2
      have u0 : W6.cell? ⟨gr, 0, none⟩ = some (.int .i64 0) := cell_of HE.out.r 0
      have u1 : W6.cell? ⟨gr, 1, none⟩ = some (.int .i64 0) := cell_of HE.out.r 1
      have u2 : W6.cell? ⟨gr, 2, none⟩ = some (.int .i64 0) := cell_of HE.out.r 2
      have t0 := frozen_of HE.out.r 0
      have t1 := frozen_of HE.out.r 1
      have t2 := frozen_of HE.out.r 2
      go_wp2_with fail
      refine bodyPost_ret (ret63 rfl _ _ gr 63 _ rfl (put3 HE.out.r _ _ _) rfl) rfl ?_
      exact ⟨⟨m', b', p', rfl, HI.out.1, HI.out.2, (HE.out.putR _ _ _).1⟩, (HE.out.putR _ _ _).2⟩
end Go.Proofs.YtlpibfonpfhakaaDoor
