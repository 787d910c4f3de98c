/-
  within: longer matches that the marks within a match tell of.
  The closure that looks one ahead.
  next: the match at the present place, or a later one.
-/
import Derived.Test.YtnokemcogjoonaaGreatDoorPutP18
namespace Go.Proofs.YtnokemcogjoonaaGreatDoor.Fd
open Go.RowKit Go.Shelf
set_option linter.unusedVariables false

section
attribute [local go_sem] minSem_eq
set_option maxRecDepth 100000 in
set_option maxHeartbeats 4000000 in
/-- widen of none, and of one that is. -/
theorem widen_none (c : Cf) (p told vain down : Nat) (w : World) (h : IsS w c p told vain p p) :
    Calls Tryz.prog 43 #[.pointer (some ⟨c.sb, 0, none⟩), .agg (trio 0 0 0), .int .i64 (down : Int)] w fun e w' => e = .returned (.agg (trio 0 0 0)) ∧ Keep noBlock w w' := by
  obtain ⟨gm, hgm⟩ : ∃ gm, gm = w.heap.size := ⟨_, rfl⟩
  obtain ⟨gr, hgr⟩ : ∃ gr, gr = w.heap.size + 1 := ⟨_, rfl⟩
  obtain ⟨z, hz⟩ : ∃ z : Nat, z = 0 := ⟨_, rfl⟩
  have hd : decide (down < z) = false := decide_eq_false (by omega)
  obtain ⟨W0, hW0⟩ : ∃ W0, W0 = (w.alloc (.cells (trio z z z) 145)).alloc (.cells #[.int .i64 0, .int .i64 0, .int .i64 0] 145) := ⟨_, rfl⟩
  have hsz : (w.alloc (.cells (trio z z z) 145)).heap.size = w.heap.size + 1 := by simp
  have HC := (show Hid (HereS w W0 c p told vain gr gm z z z) from
    ⟨h, by rw [hW0]; exact ((Keep.refl _ w).alloc _).alloc _, by rw [hW0, hgr, ← hsz]; exact alloc_new _ _, by rw [hW0, hgm]; exact alloc_far (alloc_new w _) _, by omega, by omega, by omega⟩)
  have e : trio 0 0 0 = trio z z z := by rw [hz]
  rw [e]
  clear h hsz hz e
  go_enter Tryz.func43, Tryz.ntmps43
  go_wp2_with fail
  rw [← hW0, ← hgr, ← hgm]
  clear hW0 hgr hgm
  refine wp_loop_rounds 1 ?_
  rw [rounds_succ]
  have d0 : W0.cell? ⟨gm, 0, none⟩ = some (.int .i64 (z : Int)) := cell_of HC.out.t 0
  go_wp2_with fail
  go_quiet (fail)
  have HE := (show Hid (HereS w (W0.drewN nq) c p told vain gr gm z z z) from HC.out.keep (keep_drewN _ _))
  clear HC d0
  generalize W0.drewN nq = W6 at *
  have g0 : W6.cell? ⟨gm, 0, none⟩ = some (.int .i64 (z : Int)) := cell_of HE.out.t 0
  have g1 : W6.cell? ⟨gm, 1, none⟩ = some (.int .i64 (z : Int)) := cell_of HE.out.t 1
  have g2 : W6.cell? ⟨gm, 2, none⟩ = some (.int .i64 (z : Int)) := cell_of HE.out.t 2
  have u0 : W6.cell? ⟨gr, 0, none⟩ = some (.int .i64 0) := cell_of HE.out.r 0
  have u1 : W6.cell? ⟨gr, 1, none⟩ = some (.int .i64 0) := cell_of HE.out.r 1
  have u2 : W6.cell? ⟨gr, 2, none⟩ = some (.int .i64 0) := cell_of HE.out.r 2
  have t0 := frozen_of HE.out.r 0
  have t1 := frozen_of HE.out.r 1
  have t2 := frozen_of HE.out.r 2
  go_wp2_with fail
  refine bodyPost_ret (ret63 rfl _ _ gr 145 _ rfl (put3 HE.out.r _ _ _) rfl) rfl ?_
  exact ⟨rfl, keep3 HE.out.k HE.out.rl _ _ _⟩
end
theorem widen_any (c : Cf) (p told vain a m b down : Nat) (w : World) (h : IsS w c p told vain p p) (hM : (a = 0 ∧ m = 0 ∧ b = 0) ∨ OkM c a m b) :
    Calls Tryz.prog 43 #[.pointer (some ⟨c.sb, 0, none⟩), .agg (trio a m b), .int .i64 (down : Int)] w fun e w' => (∃ a' m' b' : Nat, e = .returned (.agg (trio a' m' b')) ∧ ((a' = 0 ∧ m' = 0 ∧ b' = 0 ∧ m = 0) ∨ (b' = b ∧ Wid c a m b down a' m'))) ∧ Keep noBlock w w' := by
  rcases hM with ⟨rfl, rfl, rfl⟩ | hM
  · refine (widen_none c p told vain down w h).mono ?_
    rintro e w' ⟨rfl, k⟩
    exact ⟨⟨0, 0, 0, rfl, .inl ⟨rfl, rfl, rfl, rfl⟩⟩, k⟩
  · refine (widen_ok c p told vain a m b down w h hM).mono ?_
    rintro e w' ⟨⟨a', m', rfl, hw⟩, k⟩
    exact ⟨⟨a', m', b, rfl, .inr ⟨rfl, hw⟩⟩, k⟩

/-- A search that goes on, and two matches in memory of one's own. -/
structure WS (w W : World) (c : Cf) (told vain gr gm p a m b : Nat) : Prop where
  s : IsS W c p told vain p p
  k : Keep (mine c) w W
  lt : ∀ k, mine c k → k < w.heap.size
  glt : c.gb < w.heap.size
  r : W.heap[gr]? = some (.cells #[.int .i64 0, .int .i64 0, .int .i64 0] 145 (0, 0))
  t : W.heap[gm]? = some (.cells (trio a m b) 145 (0, 0))
  rl : w.heap.size ≤ gr
  ml : w.heap.size ≤ gm
  ne : gr ≠ gm
theorem WS.step {w W W' : World} {c : Cf} {told vain gr gm p a m b p' : Nat} (h : WS w W c told vain gr gm p a m b) (s' : IsS W' c p' told vain p' p') (hk : Keep (mine c) W W') : WS w W' c told vain gr gm p' a m b :=
  ⟨s', h.k.trans' hk, h.lt, h.glt, hk.obj h.r (fun e => by have := h.lt _ e; have := h.rl; omega), hk.obj h.t (fun e => by have := h.lt _ e; have := h.ml; omega), h.rl, h.ml, h.ne⟩
theorem WS.still {w W W' : World} {c : Cf} {told vain gr gm p a m b : Nat} (h : WS w W c told vain gr gm p a m b) (hk : Keep noBlock W W') : WS w W' c told vain gr gm p a m b :=
  h.step (h.s.still hk) (hk.mono (fun _ _ h => h.elim))
theorem mine_lt {w : World} {c : Cf} {p told vain p1 p2 : Nat} (h : IsS w c p told vain p1 p2) : (∀ k, mine c k → k < w.heap.size) ∧ c.gb < w.heap.size := by
  obtain ⟨hs, os, T⟩ := h.tabs
  refine ⟨fun k e => ?_, h.text.block (fun e => by have := h.ok.n2; rw [e] at this; simp at this)⟩
  rcases e with e | e | e | e
  · rw [e]; exact obj_lt h.obj
  · rw [e]; exact obj_lt T.heads
  · rw [e]; exact obj_lt T.older
  · rw [e]; exact h.map.lt
/-- A block of one's own, written, is none of the search's. -/
theorem IsS.apart {w W W' : World} {c : Cf} {p told vain p1 p2 g : Nat} (h : IsS W c p told vain p1 p2) (lt : ∀ k, mine c k → k < w.heap.size) (glt : c.gb < w.heap.size) (hg : w.heap.size ≤ g) (hk : Keep (fun k => k = g) W W') : IsS W' c p told vain p1 p2 := by
  have := lt _ (.inl rfl); have := lt _ (.inr (.inl rfl)); have := lt _ (.inr (.inr (.inl rfl))); have := lt _ (.inr (.inr (.inr rfl)))
  exact h.keep hk (fun e => by omega) (fun e => by omega) (fun e => by omega) (fun e => by omega) (fun e => by omega)
theorem keep_put (W : World) (g : Nat) (v0 v1 v2 : Value) : Keep (fun k => k = g) W (((W.setCell ⟨g, 0, none⟩ v0).setCell ⟨g, 1, none⟩ v1).setCell ⟨g, 2, none⟩ v2) :=
  (((Keep.refl (fun k => k = g) W).setCell (p := ⟨g, 0, none⟩) (fun _ => rfl) v0).setCell (p := ⟨g, 1, none⟩) (fun _ => rfl) v1).setCell (p := ⟨g, 2, none⟩) (fun _ => rfl) v2
theorem WS.put {w W : World} {c : Cf} {told vain gr gm p a m b : Nat} (h : WS w W c told vain gr gm p a m b) (a' m' b' : Nat) :
    WS w (((W.setCell ⟨gm, 0, none⟩ (.int .i64 (a' : Int))).setCell ⟨gm, 1, none⟩ (.int .i64 (m' : Int))).setCell ⟨gm, 2, none⟩ (.int .i64 (b' : Int))) c told vain gr gm p a' m' b' :=
  ⟨h.s.apart h.lt h.glt h.ml (keep_put W gm _ _ _), h.k.trans (keep_put W gm _ _ _) (fun i hi e => by have := h.ml; omega), h.lt, h.glt, set_far (set_far (set_far h.r h.ne _ _) h.ne _ _) h.ne _ _, put3 h.t _ _ _, h.rl, h.ml, h.ne⟩
theorem WS.putR {w W : World} {c : Cf} {told vain gr gm p a m b : Nat} (h : WS w W c told vain gr gm p a m b) (v0 v1 v2 : Value) :
    IsS (((W.setCell ⟨gr, 0, none⟩ v0).setCell ⟨gr, 1, none⟩ v1).setCell ⟨gr, 2, none⟩ v2) c p told vain p p ∧ Keep (mine c) w (((W.setCell ⟨gr, 0, none⟩ v0).setCell ⟨gr, 1, none⟩ v1).setCell ⟨gr, 2, none⟩ v2) :=
  ⟨h.s.apart h.lt h.glt h.rl (keep_put W gr _ _ _), h.k.trans (keep_put W gr _ _ _) (fun i hi e => by have := h.rl; omega)⟩

/-- How far within has come. -/
def InM (c : Cf) (p a m b p' m' b' : Nat) : Prop := m ≤ m' ∧ ((a = 0 ∧ m' = 0 ∧ b' = 0 ∧ p' = p) ∨ (OkM c a m' b' ∧ p ≤ p' ∧ a ≤ p' ∧ p' < a + m'))

set_option maxRecDepth 100000 in
set_option maxHeartbeats 4000000 in
theorem within_any (c : Cf) (p told vain a m b : Nat) (w : World) (h : IsS w c p told vain p p) (hp : p ≤ c.bs.length) (hM : (a = 0 ∧ m = 0 ∧ b = 0) ∨ (OkM c a m b ∧ a ≤ p ∧ p < a + m)) :
    Calls Tryz.prog 68 #[.pointer (some ⟨c.sb, 0, none⟩), .agg (trio a m b)] w fun e w' => (∃ m' b' p' : Nat, e = .returned (.agg (trio a m' b')) ∧ m ≤ m' ∧ ((a = 0 ∧ m' = 0 ∧ b' = 0 ∧ p' = p) ∨ (OkM c a m' b' ∧ p ≤ p' ∧ a ≤ p' ∧ p' < a + m')) ∧ IsS w' c p' told vain p' p') ∧ Keep (mine c) w w' := by
  have hn := h.ok.n
  have HI0 := (show Hid (InM c p a m b p m b) from ⟨Nat.le_refl _, hM.imp (fun h => ⟨h.1, h.2.1, h.2.2, rfl⟩) (fun h => ⟨h.1, Nat.le_refl _, h.2.1, h.2.2⟩)⟩)
  obtain ⟨gm, hgm⟩ : ∃ gm, gm = w.heap.size := ⟨_, rfl⟩
  obtain ⟨gr, hgr⟩ : ∃ gr, gr = w.heap.size + 1 := ⟨_, rfl⟩
  obtain ⟨W0, hW0⟩ : ∃ W0, W0 = (w.alloc (.cells (trio a m b) 145)).alloc (.cells #[.int .i64 0, .int .i64 0, .int .i64 0] 145) := ⟨_, rfl⟩
  have hsz : (w.alloc (.cells (trio a m b) 145)).heap.size = w.heap.size + 1 := by simp
  have k0 : Keep noBlock w W0 := by rw [hW0]; exact ((Keep.refl _ w).alloc _).alloc _
  have HC := (show Hid (WS w W0 c told vain gr gm p a m b) from
    ⟨h.still k0, k0.mono (fun _ _ h => h.elim), (mine_lt h).1, (mine_lt h).2, by rw [hW0, hgr, ← hsz]; exact alloc_new _ _, by rw [hW0, hgm]; exact alloc_far (alloc_new w _) _, by omega, by omega, by omega⟩)
  clear h hM hsz k0
  go_enter Tryz.func68, Tryz.ntmps68
  go_wp2_with fail
  rw [← hW0, ← hgr, ← hgm]
  clear hW0 hgr hgm
  go_loopw [6] (fun _ wr => ∃ m' b' p' : Nat, Hid (InM c p a m b p' m' b') ∧ Hid (WS w wr c told vain gr gm p' a m' b')) (fun _ wr => c.bs.length - numAt wr ⟨c.sb, 5, none⟩)
  case atStart => exact ⟨m, b, p, HI0, HC⟩
  case round =>
    clear HI0 HC
    obtain ⟨m', b', p', HI, HE0⟩ := hrel
    have d0 : wr.cell? ⟨gm, 0, none⟩ = some (.int .i64 (a : Int)) := cell_of HE0.out.t 0
    have d1 : wr.cell? ⟨gm, 1, none⟩ = some (.int .i64 (m' : Int)) := cell_of HE0.out.t 1
    have c5 : wr.cell? ⟨c.sb, 5, none⟩ = some (.int .i64 (p' : Int)) := cell_of HE0.out.s.obj 5
    have hpb : p' ≤ c.bs.length ∧ a + m' ≤ c.bs.length ∧ (m' = 0 → a = 0) := by
      rcases HI.out.2 with ⟨e1, e2, e3, e4⟩ | ⟨e1, e2, e3, e4⟩
      · omega
      · have := e1.fin; have := e1.lo; have := HE0.out.s.ok.l2; omega
    obtain ⟨hpb1, hpb2, hpb3⟩ := hpb
    obtain ⟨q, hq⟩ : ∃ q, q = p' + 1 := ⟨_, rfl⟩
    obtain ⟨e, he⟩ : ∃ e, e = a + m' := ⟨_, rfl⟩
    have hs1 : (p' : Int) + 1 = (q : Int) := by omega
    have hs2 : (a : Int) + (m' : Int) = (e : Int) := by omega
    by_cases h1 : m' < 64
    · have hd1 : (m' : Int) < 64 := by omega
      by_cases h2 : q < e
      · have hd2 : (q : Int) < (e : Int) := by omega
        have HQ := (show Hid (q = p' + 1 ∧ e = a + m' ∧ q < e) from ⟨hq, he, h2⟩)
        have HM0 := (show Hid (numAt wr ⟨c.sb, 5, none⟩ = p') from numAt_of c5)
        clear h1 h2 hq he
        go_wp2_with fail
        go_quiet (fail)
        have HE := (show Hid (WS w (wr.drewN nq) c told vain gr gm p' a m' b') from HE0.out.still (keep_drewN _ _))
        clear HE0 d0 d1
        generalize wr.drewN nq = W6 at *
        have c5 : W6.cell? ⟨c.sb, 5, none⟩ = some (.int .i64 (p' : Int)) := cell_of HE.out.s.obj 5
        have HSK := skip_any c p' told vain q W6 HE.out.s (by omega) (by have := HQ.out; omega)
        rw [show max p' q = q from by have := HQ.out; omega] at HSK
        go_wp2_with fail
        refine HSK.mono ?_
        rintro e W7 ⟨rfl, s7, k7⟩
        have HE7 := (show Hid (WS w W7 c told vain gr gm q a m' b') from HE.out.step s7 k7)
        clear HSK s7 k7 HE c5
        have d0 : W7.cell? ⟨gm, 0, none⟩ = some (.int .i64 (a : Int)) := cell_of HE7.out.t 0
        have HMK := (show Hid (∀ W, Keep noBlock W7 W → Calls Tryz.prog 94 #[.pointer (some ⟨c.sb, 0, none⟩)] W fun e w' => (∃ a m b : Nat, e = .returned (.agg (trio a m b)) ∧ ((a = 0 ∧ m = 0 ∧ b = 0) ∨ (a = q ∧ OkM c a m b))) ∧ Keep noBlock W w') from
          fun W kW => marked_any c q told vain W (HE7.out.s.still kW) (by have := HQ.out; omega))
        have HWD := (show Hid (∀ W a2 m2 b2, Keep noBlock W7 W → ((a2 = 0 ∧ m2 = 0 ∧ b2 = 0) ∨ (a2 = q ∧ OkM c a2 m2 b2)) → Calls Tryz.prog 43 #[.pointer (some ⟨c.sb, 0, none⟩), .agg (trio a2 m2 b2), .int .i64 (a : Int)] W fun e w' => (∃ a' m' b' : Nat, e = .returned (.agg (trio a' m' b')) ∧ ((a' = 0 ∧ m' = 0 ∧ b' = 0 ∧ m2 = 0) ∨ (b' = b2 ∧ Wid c a2 m2 b2 a a' m'))) ∧ Keep noBlock W w') from
          fun W a2 m2 b2 kW hh => widen_any c q told vain a2 m2 b2 a W (HE7.out.s.still kW) (hh.imp id (fun h => h.2)))
        go_wp2_with fail
        have hn7 : gm ≠ W7.heap.size := Nat.ne_of_lt (obj_lt HE7.out.t)
        have hn7' := hn7.symm
        go_region_held3 (fun W' => W'.cell? ⟨gm, 0, none⟩ = some (.int .i64 (a : Int))) (first | exact d0 | exact d8 | exact dA | exact d9 | go_keep) ((first
          | (go_at_call 94; refine (HMK.out W7.drew (Keep.refl _ _).drew).mono ?_; rintro e W8 ⟨⟨a2, m2, b2, rfl, hab2⟩, k8⟩; have kk8 : Keep noBlock W7 W8 := Keep.trans' (Keep.refl noBlock W7).drew k8; have d8 : W8.cell? ⟨gm, 0, none⟩ = some (.int .i64 (a : Int)) := cell_of (kk8.obj HE7.out.t (fun h => h)) 0)
          | (go_at_call 94; refine (HMK.out (W7.alloc (.cells #[.int .i64 0, .int .i64 0, .int .i64 0] 145)).drew ((Keep.refl _ _).alloc _).drew).mono ?_; rintro e W8 ⟨⟨a2, m2, b2, rfl, hab2⟩, k8⟩; have kk8 : Keep noBlock W7 W8 := Keep.trans' ((Keep.refl noBlock W7).alloc _).drew k8; have d8 : W8.cell? ⟨gm, 0, none⟩ = some (.int .i64 (a : Int)) := cell_of (kk8.obj HE7.out.t (fun h => h)) 0; have HX := (show Hid (W8.heap[W7.heap.size]? = some (.cells #[.int .i64 0, .int .i64 0, .int .i64 0] 145 (0, 0))) from k8.obj (alloc_new W7 _) (fun h => h)))
          | (go_at_call 43; refine (HWD.out W8 _ _ _ kk8 hab2).mono ?_; rintro e W9 ⟨⟨a3, m3, b3, rfl, h3⟩, k9⟩; have x9 := (k9.obj HX.out (fun h => h)); have y0 := cell_of x9 0; have y1 := cell_of x9 1; have y2 := cell_of x9 2; have f0 := frozen_of x9 0; have f1 := frozen_of x9 1; have f2 := frozen_of x9 2; have d9 : W9.cell? ⟨gm, 0, none⟩ = some (.int .i64 (a : Int)) := cell_of ((kk8.trans' k9).obj HE7.out.t (fun h => h)) 0)
          | (go_at_call 43; refine (HWD.out W8 _ _ _ kk8 hab2).mono ?_; rintro e W9 ⟨⟨a3, m3, b3, rfl, h3⟩, k9⟩; have d9 : W9.cell? ⟨gm, 0, none⟩ = some (.int .i64 (a : Int)) := cell_of ((kk8.trans' k9).obj HE7.out.t (fun h => h)) 0)
          | (go_at_call 43; refine (HWD.out (W8.alloc (.cells #[.int .i64 0, .int .i64 0, .int .i64 0] 145)) _ _ _ (kk8.alloc _) hab2).mono ?_; rintro e W9 ⟨⟨a3, m3, b3, rfl, h3⟩, k9⟩; have x9 := (k9.obj (alloc_new W8 _) (fun h => h)); have y0 := cell_of x9 0; have y1 := cell_of x9 1; have y2 := cell_of x9 2; have f0 := frozen_of x9 0; have f1 := frozen_of x9 1; have f2 := frozen_of x9 2; have d9 : W9.cell? ⟨gm, 0, none⟩ = some (.int .i64 (a : Int)) := cell_of (((kk8.alloc _).trans' k9).obj HE7.out.t (fun h => h)) 0; have hn8 : gm ≠ W8.heap.size := Nat.ne_of_lt (obj_lt (kk8.obj HE7.out.t (fun h => h))); have hn8' := hn8.symm)))
        · obtain ⟨gx, hgx⟩ : ∃ gx, gx = W9.heap.size := ⟨_, rfl⟩
          obtain ⟨WE, hWE⟩ : ∃ WE, WE = W9.alloc (.cells (trio a3 m3 b3) 145) := ⟨_, rfl⟩
          have x0 : WE.heap[gx]? = some (.cells (trio a3 m3 b3) 145 (0, 0)) := by rw [hWE, hgx]; exact alloc_new W9 _
          have kE : Keep noBlock W7 WE := by rw [hWE]; exact (kk8.trans' k9).alloc _
          have hne : gm ≠ gx := by rw [hgx]; exact Nat.ne_of_lt (obj_lt ((kk8.trans' k9).obj HE7.out.t (fun h => h)))
          have hne' := hne.symm
          have HEE := (show Hid (WS w WE c told vain gr gm q a m' b') from HE7.out.still kE)
          have H3 := (show Hid (∀ j : Nat, m' < m3 → a3 = a → OkM c a m3 b3) from fun j q1 q2 => by
            rcases h3 with ⟨e1, e2, e3, e4⟩ | ⟨e1, e2⟩
            · omega
            · subst q2; rw [e1]; exact e2.ok)
          have v0 : WE.cell? ⟨gx, 0, none⟩ = some (.int .i64 (a3 : Int)) := cell_of x0 0
          have v1 : WE.cell? ⟨gx, 1, none⟩ = some (.int .i64 (m3 : Int)) := cell_of x0 1
          have v2 : WE.cell? ⟨gx, 2, none⟩ = some (.int .i64 (b3 : Int)) := cell_of x0 2
          have w0 : WE.cell? ⟨gm, 0, none⟩ = some (.int .i64 (a : Int)) := cell_of HEE.out.t 0
          have w1 : WE.cell? ⟨gm, 1, none⟩ = some (.int .i64 (m' : Int)) := cell_of HEE.out.t 1
          have w2 : WE.cell? ⟨gm, 2, none⟩ = some (.int .i64 (b' : Int)) := cell_of HEE.out.t 2
          have p0 := frozen_of HEE.out.t 0
          have p1 := frozen_of HEE.out.t 1
          have p2 := frozen_of HEE.out.t 2
          have HIN := (show Hid (m ≤ m' ∧ OkM c a m' b' ∧ p ≤ q ∧ a ≤ q ∧ q < a + m') from by
            have hh := HQ.out
            rcases HI.out.2 with ⟨e1, e2, e3, e4⟩ | ⟨e1, e2, e3, e4⟩
            · omega
            · exact ⟨HI.out.1, e1, by omega, by omega, by omega⟩)
          rw [← hWE]
          try rw [← hgx]
          clear hWE hgx x0 kE HE7 HMK HWD k9 k8 kk8 hab2 h3
          try clear HX
          try clear x9
          try clear hn8 hn8'
          clear hn7 hn7' d0 d8 d9
          try clear y0 y1 y2 f0 f1 f2
          by_cases h5 : m' < m3
          · have h5I : (m' : Int) < (m3 : Int) := by omega
            by_cases h6 : a3 = a
            · have h6b : ((a3 : Int) == (a : Int)) = true := by simp [h6]
              have HOK := (show Hid (OkM c a m3 b3) from H3.out 0 h5 h6)
              have H6 := (show Hid (a3 = a) from h6)
              have H7 := (show Hid (WS w (((WE.setCell ⟨gm, 0, none⟩ (.int .i64 (a3 : Int))).setCell ⟨gm, 1, none⟩ (.int .i64 (m3 : Int))).setCell ⟨gm, 2, none⟩ (.int .i64 (b3 : Int))) c told vain gr gm q a3 m3 b3) from HEE.out.put a3 m3 b3)
              clear h6 H3 HEE
              go_wp2_with fail
              generalize ((WE.setCell ⟨gm, 0, none⟩ (.int .i64 (a3 : Int))).setCell ⟨gm, 1, none⟩ (.int .i64 (m3 : Int))).setCell ⟨gm, 2, none⟩ (.int .i64 (b3 : Int)) = WF at *
              go_roundw
              case rel =>
                obtain rfl := H6.out
                exact ⟨m3, b3, q, ⟨by have := HIN.out.1; omega, .inr ⟨HOK.out, HIN.out.2.2.1, HIN.out.2.2.2.1, by have := HIN.out.2.2.2.2; omega⟩⟩, H7⟩
              case measure =>
                rw [numAt_of (cell_of H7.out.s.obj 5), HM0.out]; have := HQ.out; omega
            · have h6b : ((a3 : Int) == (a : Int)) = false := by rw [beq_eq_false_iff_ne]; omega
              clear h6 H3
              go_wp2_with fail
              go_roundw
              case rel => exact ⟨m', b', q, ⟨HIN.out.1, .inr ⟨HIN.out.2.1, HIN.out.2.2.1, HIN.out.2.2.2.1, HIN.out.2.2.2.2⟩⟩, HEE⟩
              case measure => rw [numAt_of (cell_of HEE.out.s.obj 5), HM0.out]; have := HQ.out; omega
          · have h5I : decide (m' < m3) = false := decide_eq_false h5
            clear H3
            go_wp2_with fail
            go_roundw
            case rel => exact ⟨m', b', q, ⟨HIN.out.1, .inr ⟨HIN.out.2.1, HIN.out.2.2.1, HIN.out.2.2.2.1, HIN.out.2.2.2.2⟩⟩, HEE⟩
            case measure => rw [numAt_of (cell_of HEE.out.s.obj 5), HM0.out]; have := HQ.out; omega
        · obtain ⟨gx, hgx⟩ : ∃ gx, gx = W8.heap.size := ⟨_, rfl⟩
          obtain ⟨WE, hWE⟩ : ∃ WE, WE = (((W9.setCell ⟨W8.heap.size, 0, none⟩ (.int .i64 (a3 : Int))).setCell ⟨W8.heap.size, 1, none⟩ (.int .i64 (m3 : Int))).setCell ⟨W8.heap.size, 2, none⟩ (.int .i64 (b3 : Int))) := ⟨_, rfl⟩
          have x0 : WE.heap[gx]? = some (.cells (trio a3 m3 b3) 145 (0, 0)) := by rw [hWE, hgx]; exact put3 x9 _ _ _
          have kE : Keep noBlock W7 WE := by rw [hWE]; exact keep3 ((kk8.alloc _).trans' k9) kk8.size _ _ _
          have hne : gm ≠ gx := by rw [hgx]; exact hn8
          have hne' := hne.symm
          have HEE := (show Hid (WS w WE c told vain gr gm q a m' b') from HE7.out.still kE)
          have H3 := (show Hid (∀ j : Nat, m' < m3 → a3 = a → OkM c a m3 b3) from fun j q1 q2 => by
            rcases h3 with ⟨e1, e2, e3, e4⟩ | ⟨e1, e2⟩
            · omega
            · subst q2; rw [e1]; exact e2.ok)
          have v0 : WE.cell? ⟨gx, 0, none⟩ = some (.int .i64 (a3 : Int)) := cell_of x0 0
          have v1 : WE.cell? ⟨gx, 1, none⟩ = some (.int .i64 (m3 : Int)) := cell_of x0 1
          have v2 : WE.cell? ⟨gx, 2, none⟩ = some (.int .i64 (b3 : Int)) := cell_of x0 2
          have w0 : WE.cell? ⟨gm, 0, none⟩ = some (.int .i64 (a : Int)) := cell_of HEE.out.t 0
          have w1 : WE.cell? ⟨gm, 1, none⟩ = some (.int .i64 (m' : Int)) := cell_of HEE.out.t 1
          have w2 : WE.cell? ⟨gm, 2, none⟩ = some (.int .i64 (b' : Int)) := cell_of HEE.out.t 2
          have p0 := frozen_of HEE.out.t 0
          have p1 := frozen_of HEE.out.t 1
          have p2 := frozen_of HEE.out.t 2
          have HIN := (show Hid (m ≤ m' ∧ OkM c a m' b' ∧ p ≤ q ∧ a ≤ q ∧ q < a + m') from by
            have hh := HQ.out
            rcases HI.out.2 with ⟨e1, e2, e3, e4⟩ | ⟨e1, e2, e3, e4⟩
            · omega
            · exact ⟨HI.out.1, e1, by omega, by omega, by omega⟩)
          rw [← hWE]
          try rw [← hgx]
          clear hWE hgx x0 kE HE7 HMK HWD k9 k8 kk8 hab2 h3
          try clear HX
          try clear x9
          try clear hn8 hn8'
          clear hn7 hn7' d0 d8 d9
          try clear y0 y1 y2 f0 f1 f2
          by_cases h5 : m' < m3
          · have h5I : (m' : Int) < (m3 : Int) := by omega
            by_cases h6 : a3 = a
            · have h6b : ((a3 : Int) == (a : Int)) = true := by simp [h6]
              have HOK := (show Hid (OkM c a m3 b3) from H3.out 0 h5 h6)
              have H6 := (show Hid (a3 = a) from h6)
              have H7 := (show Hid (WS w (((WE.setCell ⟨gm, 0, none⟩ (.int .i64 (a3 : Int))).setCell ⟨gm, 1, none⟩ (.int .i64 (m3 : Int))).setCell ⟨gm, 2, none⟩ (.int .i64 (b3 : Int))) c told vain gr gm q a3 m3 b3) from HEE.out.put a3 m3 b3)
              clear h6 H3 HEE
              go_wp2_with fail
              generalize ((WE.setCell ⟨gm, 0, none⟩ (.int .i64 (a3 : Int))).setCell ⟨gm, 1, none⟩ (.int .i64 (m3 : Int))).setCell ⟨gm, 2, none⟩ (.int .i64 (b3 : Int)) = WF at *
              go_roundw
              case rel =>
                obtain rfl := H6.out
                exact ⟨m3, b3, q, ⟨by have := HIN.out.1; omega, .inr ⟨HOK.out, HIN.out.2.2.1, HIN.out.2.2.2.1, by have := HIN.out.2.2.2.2; omega⟩⟩, H7⟩
              case measure =>
                rw [numAt_of (cell_of H7.out.s.obj 5), HM0.out]; have := HQ.out; omega
            · have h6b : ((a3 : Int) == (a : Int)) = false := by rw [beq_eq_false_iff_ne]; omega
              clear h6 H3
              go_wp2_with fail
              go_roundw
              case rel => exact ⟨m', b', q, ⟨HIN.out.1, .inr ⟨HIN.out.2.1, HIN.out.2.2.1, HIN.out.2.2.2.1, HIN.out.2.2.2.2⟩⟩, HEE⟩
              case measure => rw [numAt_of (cell_of HEE.out.s.obj 5), HM0.out]; have := HQ.out; omega
          · have h5I : decide (m' < m3) = false := decide_eq_false h5
            clear H3
            go_wp2_with fail
            go_roundw
            case rel => exact ⟨m', b', q, ⟨HIN.out.1, .inr ⟨HIN.out.2.1, HIN.out.2.2.1, HIN.out.2.2.2.1, HIN.out.2.2.2.2⟩⟩, HEE⟩
            case measure => rw [numAt_of (cell_of HEE.out.s.obj 5), HM0.out]; have := HQ.out; omega
        · obtain ⟨gx, hgx⟩ : ∃ gx, gx = W7.heap.size := ⟨_, rfl⟩
          obtain ⟨WE, hWE⟩ : ∃ WE, WE = (((W9.setCell ⟨W7.heap.size, 0, none⟩ (.int .i64 (a3 : Int))).setCell ⟨W7.heap.size, 1, none⟩ (.int .i64 (m3 : Int))).setCell ⟨W7.heap.size, 2, none⟩ (.int .i64 (b3 : Int))) := ⟨_, rfl⟩
          have x0 : WE.heap[gx]? = some (.cells (trio a3 m3 b3) 145 (0, 0)) := by rw [hWE, hgx]; exact put3 x9 _ _ _
          have kE : Keep noBlock W7 WE := by rw [hWE]; exact keep3 (kk8.trans' k9) (Nat.le_refl _) _ _ _
          have hne : gm ≠ gx := by rw [hgx]; exact hn7
          have hne' := hne.symm
          have HEE := (show Hid (WS w WE c told vain gr gm q a m' b') from HE7.out.still kE)
          have H3 := (show Hid (∀ j : Nat, m' < m3 → a3 = a → OkM c a m3 b3) from fun j q1 q2 => by
            rcases h3 with ⟨e1, e2, e3, e4⟩ | ⟨e1, e2⟩
            · omega
            · subst q2; rw [e1]; exact e2.ok)
          have v0 : WE.cell? ⟨gx, 0, none⟩ = some (.int .i64 (a3 : Int)) := cell_of x0 0
          have v1 : WE.cell? ⟨gx, 1, none⟩ = some (.int .i64 (m3 : Int)) := cell_of x0 1
          have v2 : WE.cell? ⟨gx, 2, none⟩ = some (.int .i64 (b3 : Int)) := cell_of x0 2
          have w0 : WE.cell? ⟨gm, 0, none⟩ = some (.int .i64 (a : Int)) := cell_of HEE.out.t 0
          have w1 : WE.cell? ⟨gm, 1, none⟩ = some (.int .i64 (m' : Int)) := cell_of HEE.out.t 1
          have w2 : WE.cell? ⟨gm, 2, none⟩ = some (.int .i64 (b' : Int)) := cell_of HEE.out.t 2
          have p0 := frozen_of HEE.out.t 0
          have p1 := frozen_of HEE.out.t 1
          have p2 := frozen_of HEE.out.t 2
          have HIN := (show Hid (m ≤ m' ∧ OkM c a m' b' ∧ p ≤ q ∧ a ≤ q ∧ q < a + m') from by
            have hh := HQ.out
            rcases HI.out.2 with ⟨e1, e2, e3, e4⟩ | ⟨e1, e2, e3, e4⟩
            · omega
            · exact ⟨HI.out.1, e1, by omega, by omega, by omega⟩)
          rw [← hWE]
          try rw [← hgx]
          clear hWE hgx x0 kE HE7 HMK HWD k9 k8 kk8 hab2 h3
          try clear HX
          try clear x9
          try clear hn8 hn8'
          clear hn7 hn7' d0 d8 d9
          try clear y0 y1 y2 f0 f1 f2
          by_cases h5 : m' < m3
          · have h5I : (m' : Int) < (m3 : Int) := by omega
            by_cases h6 : a3 = a
            · have h6b : ((a3 : Int) == (a : Int)) = true := by simp [h6]
              have HOK := (show Hid (OkM c a m3 b3) from H3.out 0 h5 h6)
              have H6 := (show Hid (a3 = a) from h6)
              have H7 := (show Hid (WS w (((WE.setCell ⟨gm, 0, none⟩ (.int .i64 (a3 : Int))).setCell ⟨gm, 1, none⟩ (.int .i64 (m3 : Int))).setCell ⟨gm, 2, none⟩ (.int .i64 (b3 : Int))) c told vain gr gm q a3 m3 b3) from HEE.out.put a3 m3 b3)
              clear h6 H3 HEE
              go_wp2_with fail
              generalize ((WE.setCell ⟨gm, 0, none⟩ (.int .i64 (a3 : Int))).setCell ⟨gm, 1, none⟩ (.int .i64 (m3 : Int))).setCell ⟨gm, 2, none⟩ (.int .i64 (b3 : Int)) = WF at *
              go_roundw
              case rel =>
                obtain rfl := H6.out
                exact ⟨m3, b3, q, ⟨by have := HIN.out.1; omega, .inr ⟨HOK.out, HIN.out.2.2.1, HIN.out.2.2.2.1, by have := HIN.out.2.2.2.2; omega⟩⟩, H7⟩
              case measure =>
                rw [numAt_of (cell_of H7.out.s.obj 5), HM0.out]; have := HQ.out; omega
            · have h6b : ((a3 : Int) == (a : Int)) = false := by rw [beq_eq_false_iff_ne]; omega
              clear h6 H3
              go_wp2_with fail
              go_roundw
              case rel => exact ⟨m', b', q, ⟨HIN.out.1, .inr ⟨HIN.out.2.1, HIN.out.2.2.1, HIN.out.2.2.2.1, HIN.out.2.2.2.2⟩⟩, HEE⟩
              case measure => rw [numAt_of (cell_of HEE.out.s.obj 5), HM0.out]; have := HQ.out; omega
          · have h5I : decide (m' < m3) = false := decide_eq_false h5
            clear H3
            go_wp2_with fail
            go_roundw
            case rel => exact ⟨m', b', q, ⟨HIN.out.1, .inr ⟨HIN.out.2.1, HIN.out.2.2.1, HIN.out.2.2.2.1, HIN.out.2.2.2.2⟩⟩, HEE⟩
            case measure => rw [numAt_of (cell_of HEE.out.s.obj 5), HM0.out]; have := HQ.out; omega
      · have hd2 : decide (q < e) = false := decide_eq_false h2
        clear h1 h2 hq he
        go_wp2_with fail
        go_quiet (fail)
        have HE := (show Hid (WS w (wr.drewN nq) c told vain gr gm p' a m' b') from HE0.out.still (keep_drewN _ _))
        clear HE0 d0 d1 c5
        generalize wr.drewN nq = W6 at *
        have g0 : W6.cell? ⟨gm, 0, none⟩ = some (.int .i64 (a : Int)) := cell_of HE.out.t 0
        have g1 : W6.cell? ⟨gm, 1, none⟩ = some (.int .i64 (m' : Int)) := cell_of HE.out.t 1
        have g2 : W6.cell? ⟨gm, 2, none⟩ = some (.int .i64 (b' : Int)) := cell_of HE.out.t 2
        have u0 : W6.cell? ⟨gr, 0, none⟩ = some (.int .i64 0) := cell_of HE.out.r 0
        have u1 : W6.cell? ⟨gr, 1, none⟩ = some (.int .i64 0) := cell_of HE.out.r 1
        have u2 : W6.cell? ⟨gr, 2, none⟩ = some (.int .i64 0) := cell_of HE.out.r 2
        have t0 := frozen_of HE.out.r 0
        have t1 := frozen_of HE.out.r 1
        have t2 := frozen_of HE.out.r 2
        go_wp2_with fail
        refine bodyPost_ret (ret63 rfl _ _ gr 145 _ rfl (put3 HE.out.r _ _ _) rfl) rfl ?_
        exact ⟨⟨m', b', p', rfl, HI.out.1, HI.out.2, (HE.out.putR _ _ _).1⟩, (HE.out.putR _ _ _).2⟩
    · have hd1 : decide ((m' : Int) < 64) = false := decide_eq_false (by omega)
      clear h1 hq he
      go_wp2_with fail
      go_quiet (fail)
      have HE := (show Hid (WS w (wr.drewN nq) c told vain gr gm p' a m' b') from HE0.out.still (keep_drewN _ _))
      clear HE0 d0 d1 c5
      generalize wr.drewN nq = W6 at *
      have g0 : W6.cell? ⟨gm, 0, none⟩ = some (.int .i64 (a : Int)) := cell_of HE.out.t 0
      have g1 : W6.cell? ⟨gm, 1, none⟩ = some (.int .i64 (m' : Int)) := cell_of HE.out.t 1
      have g2 : W6.cell? ⟨gm, 2, none⟩ = some (.int .i64 (b' : Int)) := cell_of HE.out.t 2
      have u0 : W6.cell? ⟨gr, 0, none⟩ = some (.int .i64 0) := cell_of HE.out.r 0
      have u1 : W6.cell? ⟨gr, 1, none⟩ = some (.int .i64 0) := cell_of HE.out.r 1
      have u2 : W6.cell? ⟨gr, 2, none⟩ = some (.int .i64 0) := cell_of HE.out.r 2
      have t0 := frozen_of HE.out.r 0
      have t1 := frozen_of HE.out.r 1
      have t2 := frozen_of HE.out.r 2
      go_wp2_with fail
      refine bodyPost_ret (ret63 rfl _ _ gr 145 _ rfl (put3 HE.out.r _ _ _) rfl) rfl ?_
      exact ⟨⟨m', b', p', rfl, HI.out.1, HI.out.2, (HE.out.putR _ _ _).1⟩, (HE.out.putR _ _ _).2⟩
end Go.Proofs.YtnokemcogjoonaaGreatDoor.Fd

namespace Go.Proofs.YtnokemcogjoonaaGreatDoor.Fd
open Go.RowKit Go.Shelf
set_option linter.unusedVariables false

set_option maxRecDepth 100000 in
set_option maxHeartbeats 1000000 in
theorem later_any (c : Cf) (p told vain gs gm a m b : Nat) (w : World) (h : IsS w c p told vain p p) (hp : p < c.bs.length) (hv : vain < 1000000) (hgs : w.heap[gs]? = some (.cells #[.pointer (some ⟨c.sb, 0, none⟩)] 94 (0, 0)))
    (hgm : w.heap[gm]? = some (.cells (trio a m b) 145 (0, 0))) (hs : ¬ mine c gs) (hm : ¬ mine c gm) (hg : gm ≠ c.gb) (hne : gs ≠ gm) :
    Calls Tryz.prog 67 #[.pointer (some ⟨gs, 0, none⟩), .pointer (some ⟨gm, 0, none⟩)] w fun e w' => (∃ (d : Bool) (a' m' b' : Nat), e = .returned (.bool d) ∧ IsS w' c (p + 1) told vain (p + 1) (p + 1) ∧ w'.heap[gm]? = some (.cells (trio a' m' b') 145 (0, 0)) ∧
      (d = true → a' = p + 1 ∧ m < m' ∧ OkM c a' m' b') ∧ (d = false → a' = a ∧ m' = m ∧ b' = b)) ∧ Keep (fun k => mine c k ∨ k = gm) w w' := by
  have hn := h.ok.n
  have c5 : w.cell? ⟨c.sb, 5, none⟩ = some (.int .i64 (p : Int)) := cell_of h.obj 5
  have s0 : w.cell? ⟨gs, 0, none⟩ = some (.pointer (some ⟨c.sb, 0, none⟩)) := cell_of hgs 0
  obtain ⟨q, hq⟩ : ∃ q, q = p + 1 := ⟨_, rfl⟩
  have hadd : (p : Int) + 1 = (q : Int) := by omega
  have hqw : IntKind.i64.wrap (q : Int) = (q : Int) := by rw [IntKind.wrap_i64]; omega
  have HSK := (show Hid (∀ W, Keep noBlock w W → Calls Tryz.prog 41 #[.pointer (some ⟨c.sb, 0, none⟩), .int .i64 (q : Int)] W fun e w' => e = .returned (.tuple #[]) ∧ IsS w' c q told vain q q ∧ Keep (mine c) w w' ∧ w'.heap[gs]? = some (.cells #[.pointer (some ⟨c.sb, 0, none⟩)] 94 (0, 0)) ∧ w'.heap[gm]? = some (.cells (trio a m b) 145 (0, 0))) from fun W kW => by
    refine (skip_any c p told vain q W (h.still kW) (by omega) (by omega)).mono ?_
    rintro e w' ⟨rfl, s, k⟩
    rw [show max p q = q from by omega] at s
    have kk : Keep (mine c) w w' := (kW.mono (fun _ _ h => h.elim)).trans' k
    exact ⟨rfl, s, kk, kk.obj hgs hs, kk.obj hgm hm⟩)
  have HH := (show Hid (∀ W, IsS W c q told vain q q → _) from fun W hS => here_any c q told vain W hS (by omega) hv)
  have HN := (show Hid (¬ mine c gm ∧ gm ≠ c.gb ∧ gs ≠ gm ∧ gm < w.heap.size) from ⟨hm, hg, hne, obj_lt hgm⟩)
  rw [← hq]
  clear h hgs hgm hs hm hg hne hq
  go_enter Tryz.func67, Tryz.ntmps67
  go_wp2_with fail
  go_region_with (first | (go_at_call 41; refine (HSK.out w.drew (Keep.refl _ _).drew).mono ?_; rintro e W1 ⟨rfl, s1, k1, x1, y1⟩; have t0 : W1.cell? ⟨gs, 0, none⟩ = some (.pointer (some ⟨c.sb, 0, none⟩)) := cell_of x1 0))
  all_goals
    have H1 := (show Hid (IsS W1 c q told vain q q ∧ Keep (mine c) w W1 ∧ W1.heap[gm]? = some (.cells (trio a m b) 145 (0, 0))) from ⟨s1, k1, y1⟩)
    clear HSK c5 s0 s1 k1 x1 y1
    go_wp2_with fail
    refine (HH.out W1 H1.out.1).mono ?_
    rintro e W2 ⟨⟨a2, m2, b2, rfl, hab, -⟩, k2⟩
    have H2 := (show Hid (IsS W2 c q told vain q q ∧ Keep (mine c) w W2 ∧ W2.heap[gm]? = some (.cells (trio a m b) 145 (0, 0))) from ⟨H1.out.1.still k2, H1.out.2.1.trans k2 (fun _ _ h => h.elim), k2.obj H1.out.2.2 (fun h => h)⟩)
    clear HH H1 k2 t0
    have u0 : W2.cell? ⟨gm, 0, none⟩ = some (.int .i64 (a : Int)) := cell_of H2.out.2.2 0
    have u1 : W2.cell? ⟨gm, 1, none⟩ = some (.int .i64 (m : Int)) := cell_of H2.out.2.2 1
    have u2 : W2.cell? ⟨gm, 2, none⟩ = some (.int .i64 (b : Int)) := cell_of H2.out.2.2 2
    have f0 := frozen_of H2.out.2.2 0
    have f1 := frozen_of H2.out.2.2 1
    have f2 := frozen_of H2.out.2.2 2
    have hnx : gm ≠ W2.heap.size := Nat.ne_of_lt (obj_lt H2.out.2.2)
    have hnx' := hnx.symm
    have k3 : Keep noBlock W2 (W2.alloc (.cells (trio a2 m2 b2) 145)) := (Keep.refl _ W2).alloc _
    have H3 := (show Hid (IsS (W2.alloc (.cells (trio a2 m2 b2) 145)) c q told vain q q ∧ Keep (mine c) w (W2.alloc (.cells (trio a2 m2 b2) 145)) ∧ (W2.alloc (.cells (trio a2 m2 b2) 145)).heap[gm]? = some (.cells (trio a m b) 145 (0, 0))) from ⟨H2.out.1.still k3, H2.out.2.1.trans k3 (fun _ _ h => h.elim), k3.obj H2.out.2.2 (fun h => h)⟩)
    have U0 : (W2.alloc (.cells (trio a2 m2 b2) 145)).cell? ⟨gm, 0, none⟩ = some (.int .i64 (a : Int)) := cell_of H3.out.2.2 0
    have U1 : (W2.alloc (.cells (trio a2 m2 b2) 145)).cell? ⟨gm, 1, none⟩ = some (.int .i64 (m : Int)) := cell_of H3.out.2.2 1
    have U2 : (W2.alloc (.cells (trio a2 m2 b2) 145)).cell? ⟨gm, 2, none⟩ = some (.int .i64 (b : Int)) := cell_of H3.out.2.2 2
    have F0 := frozen_of H3.out.2.2 0
    have F1 := frozen_of H3.out.2.2 1
    have F2 := frozen_of H3.out.2.2 2
    clear H2 k3
    by_cases hle : m2 ≤ m
    · have hleI : (m2 : Int) ≤ (m : Int) := by omega
      clear hab
      go_wp2_with fail
      go_ret
      exact ⟨⟨false, a, m, b, rfl, H3.out.1, H3.out.2.2, fun e => absurd e (by decide), fun _ => ⟨rfl, rfl, rfl⟩⟩, H3.out.2.1.mono (fun _ _ e => .inl e)⟩
    · have hleI : ¬ (m2 : Int) ≤ (m : Int) := by omega
      have HAB := (show Hid (a2 = q ∧ m < m2 ∧ OkM c a2 m2 b2) from by
        rcases hab with ⟨e1, e2, e3⟩ | ⟨e1, e2⟩
        · omega
        · exact ⟨e1, by omega, e2⟩)
      clear hab
      go_wp2_with fail
      go_ret
      refine ⟨⟨true, a2, m2, b2, rfl, ?_, put3 H3.out.2.2 _ _ _, fun _ => HAB.out, fun e => absurd e (by decide)⟩, ?_⟩
      · exact H3.out.1.keep (keep_put _ gm _ _ _) (fun e => HN.out.1 (.inl e.symm)) (fun e => HN.out.1 (.inr (.inl e.symm))) (fun e => HN.out.1 (.inr (.inr (.inl e.symm)))) (fun e => HN.out.1 (.inr (.inr (.inr e.symm)))) (fun e => HN.out.2.1 e.symm)
      · exact (H3.out.2.1.mono (T := fun k => mine c k ∨ k = gm) (fun _ _ e => .inl e)).trans (keep_put _ gm _ _ _) (fun _ _ e => .inr e)
end Go.Proofs.YtnokemcogjoonaaGreatDoor.Fd

namespace Go.Proofs.YtnokemcogjoonaaGreatDoor.Fd
open Go.RowKit Go.Shelf
set_option linter.unusedVariables false

/-- What next holds. -/
structure NS (w W : World) (c : Cf) (told vain gs gr gm p a m b : Nat) : Prop where
  ws : WS w W c told vain gr gm p a m b
  g : W.heap[gs]? = some (.cells #[.pointer (some ⟨c.sb, 0, none⟩)] 94 (0, 0))
  gl : w.heap.size ≤ gs
  gn : gs ≠ gm
  gn2 : gs ≠ gr
theorem NS.still {w W W' : World} {c : Cf} {told vain gs gr gm p a m b : Nat} (h : NS w W c told vain gs gr gm p a m b) (hk : Keep noBlock W W') : NS w W' c told vain gs gr gm p a m b :=
  ⟨h.ws.still hk, hk.obj h.g (fun h => h), h.gl, h.gn, h.gn2⟩
theorem NS.apart {w W : World} {c : Cf} {told vain gs gr gm p a m b : Nat} (h : NS w W c told vain gs gr gm p a m b) : ¬ mine c gs ∧ ¬ mine c gm ∧ gm ≠ c.gb := by
  refine ⟨fun e => ?_, fun e => ?_, fun e => ?_⟩
  · have := h.ws.lt _ e; have := h.gl; omega
  · have := h.ws.lt _ e; have := h.ws.ml; omega
  · have := h.ws.glt; have := h.ws.ml; omega
/-- How far next has come: m0 is how long the first match is. -/
def NxM (c : Cf) (p m0 a m b p' : Nat) : Prop := m0 ≤ m ∧ ((a = 0 ∧ m = 0 ∧ b = 0 ∧ p' = p) ∨ (OkM c a m b ∧ p ≤ a ∧ a = p' ∧ (a = p ∨ m0 < m)))

theorem nx_fin {c : Cf} {p m0 a m b q p2 m' b' p3 : Nat} (hM : NxM c p m0 a m b q) (hF : Full c p → m0 = limN c p ∧ 2 ≤ c.least ∧ c.least ≤ c.most) (hq : q ≤ p2) (h0 : m = 0 → p2 = p) (hmm : m ≤ m')
    (hc : (a = 0 ∧ m' = 0 ∧ b' = 0 ∧ p3 = p2) ∨ (OkM c a m' b' ∧ p2 ≤ p3 ∧ a ≤ p3 ∧ p3 < a + m')) :
    ((a = 0 ∧ m' = 0 ∧ b' = 0 ∧ p3 = p) ∨ (OkM c a m' b' ∧ p ≤ a ∧ p ≤ p3 ∧ p3 < a + m')) ∧ (Full c p → a = p ∧ m' = limN c p) := by
  obtain ⟨h1, h2⟩ := hM
  have key : ∀ (hO : OkM c a m' b'), p ≤ a ∧ a = q ∧ (a = p ∨ m0 < m) := fun hO => by
    rcases h2 with ⟨e1, e2, e3, e4⟩ | ⟨e1, e2, e3, e4⟩
    · have := hO.ba; have := hO.b1; omega
    · exact ⟨e2, e3, e4⟩
  refine ⟨?_, fun hf => ?_⟩
  · rcases hc with ⟨e1, e2, e3, e4⟩ | ⟨e1, e2, e3, e4⟩
    · exact .inl ⟨e1, e2, e3, by have := h0 (by omega); omega⟩
    · have := key e1
      exact .inr ⟨e1, by omega, by omega, e4⟩
  · have hl := hF hf
    rcases hc with ⟨e1, e2, e3, e4⟩ | ⟨e1, e2, e3, e4⟩
    · exfalso
      have h3 := hf.fits
      have h4 : limN c p = 0 := by omega
      unfold limN at h4
      omega
    · have k1 := key e1
      have k2 := e1.lim
      have k3 := limN_mono c k1.1
      have k4 : a = p := by omega
      subst k4
      exact ⟨rfl, by omega⟩

set_option maxRecDepth 100000 in
set_option maxHeartbeats 2000000 in
theorem next_any (c : Cf) (p told vain : Nat) (w : World) (h : IsS w c p told vain p p) (hp : p ≤ c.bs.length) (hv : vain < 1000000) :
    Calls Tryz.prog 42 #[.pointer (some ⟨c.sb, 0, none⟩)] w fun e w' => (∃ a m b p' : Nat, e = .returned (.agg (trio a m b)) ∧ ((a = 0 ∧ m = 0 ∧ b = 0 ∧ p' = p) ∨ (OkM c a m b ∧ p ≤ a ∧ p ≤ p' ∧ p' < a + m)) ∧ (Full c p → a = p ∧ m = limN c p) ∧ IsS w' c p' told vain p' p') ∧ Keep (mine c) w w' := by
  have hn := h.ok.n
  have hmf : ∀ (fn : Fn) (first cap : Array Value) (w : World), (Instr.makeFunc fn first cap).run Tryz.prog w = .ok (.func fn first cap) w := fun _ _ _ _ => rfl
  obtain ⟨gs, hgs⟩ : ∃ gs, gs = w.heap.size := ⟨_, rfl⟩
  obtain ⟨gr, hgr⟩ : ∃ gr, gr = w.heap.size + 1 := ⟨_, rfl⟩
  obtain ⟨W0, hW0⟩ : ∃ W0, W0 = (w.alloc (.cells #[.pointer (some ⟨c.sb, 0, none⟩)] 94)).alloc (.cells #[.int .i64 0, .int .i64 0, .int .i64 0] 145) := ⟨_, rfl⟩
  have hsz : (w.alloc (.cells #[.pointer (some ⟨c.sb, 0, none⟩)] 94)).heap.size = w.heap.size + 1 := by simp
  have k0 : Keep noBlock w W0 := by rw [hW0]; exact ((Keep.refl _ w).alloc _).alloc _
  have x0 : W0.heap[gs]? = some (.cells #[.pointer (some ⟨c.sb, 0, none⟩)] 94 (0, 0)) := by rw [hW0, hgs]; exact alloc_far (alloc_new w _) _
  have y0 : W0.heap[gr]? = some (.cells #[.int .i64 0, .int .i64 0, .int .i64 0] 145 (0, 0)) := by rw [hW0, hgr, ← hsz]; exact alloc_new _ _
  have s0 : W0.cell? ⟨gs, 0, none⟩ = some (.pointer (some ⟨c.sb, 0, none⟩)) := cell_of x0 0
  have HH := here_any c p told vain W0 (h.still k0) hp hv
  have HS := (show Hid (IsS w c p told vain p p ∧ Keep noBlock w W0 ∧ W0.heap[gs]? = some (.cells #[.pointer (some ⟨c.sb, 0, none⟩)] 94 (0, 0)) ∧ W0.heap[gr]? = some (.cells #[.int .i64 0, .int .i64 0, .int .i64 0] 145 (0, 0)) ∧ gs = w.heap.size ∧ gr = w.heap.size + 1) from ⟨h, k0, x0, y0, hgs, hgr⟩)
  clear h k0 x0 y0 hsz
  go_enter Tryz.func42, Tryz.ntmps42
  go_wp2_with fail
  rw [← hW0, ← hgr, ← hgs]
  clear hW0 hgr hgs
  go_wp2_with fail
  refine HH.mono ?_
  rintro e W1 ⟨⟨a, m, b, rfl, hab, hfu⟩, k1⟩
  clear HH s0
  obtain ⟨gm, hgm⟩ : ∃ gm, gm = W1.heap.size := ⟨_, rfl⟩
  obtain ⟨W2, hW2⟩ : ∃ W2, W2 = W1.alloc (.cells (trio a m b) 145) := ⟨_, rfl⟩
  have HN := (show Hid (NS w W2 c told vain gs gr gm p a m b) from by
    have k2 : Keep noBlock W0 W2 := by rw [hW2]; exact k1.alloc _
    have k3 := HS.out.2.1.trans' k2
    have q1 := obj_lt (k1.obj HS.out.2.2.1 (fun h => h))
    have q2 := obj_lt (k1.obj HS.out.2.2.2.1 (fun h => h))
    have q3 := HS.out.2.2.2.2
    have q4 := (HS.out.2.1.trans' k1).size
    exact ⟨⟨HS.out.1.still k3, k3.mono (fun _ _ h => h.elim), (mine_lt HS.out.1).1, (mine_lt HS.out.1).2, k2.obj HS.out.2.2.2.1 (fun h => h), by rw [hW2, hgm]; exact alloc_new W1 _, by omega, by omega, by omega⟩, k2.obj HS.out.2.2.1 (fun h => h), by omega, by omega, by omega⟩)
  have HM := (show Hid (NxM c p m a m b p ∧ (Full c p → m = limN c p)) from ⟨⟨Nat.le_refl _, hab.imp (fun h => ⟨h.1, h.2.1, h.2.2, rfl⟩) (fun h => ⟨h.2, Nat.le_of_eq h.1.symm, h.1, .inl h.1⟩)⟩, hfu⟩)
  clear k1 HS hab hfu
  obtain ⟨m0, hm0⟩ : ∃ m0, m0 = m := ⟨_, rfl⟩
  have HM0 := (show Hid (NxM c p m0 a m b p ∧ (Full c p → m0 = limN c p)) from by rw [hm0]; exact HM.out)
  clear HM hm0
  go_wp2_with fail
  rw [← hW2, ← hgm]
  clear hW2 hgm
  go_loopw [8] (fun _ wr => ∃ p' a m b : Nat, Hid (NxM c p m0 a m b p') ∧ Hid (NS w wr c told vain gs gr gm p' a m b)) (fun _ wr => c.bs.length - numAt wr ⟨c.sb, 5, none⟩)
  case atStart => exact ⟨p, a, m, b, HM0.out.1, HN⟩
  case round =>
    have HF0 := (show Hid (Full c p → m0 = limN c p ∧ 2 ≤ c.least ∧ c.least ≤ c.most) from fun hf => ⟨HM0.out.2 hf, HN.out.ws.s.ok.l2, HN.out.ws.s.ok.l3⟩)
    clear HN HM0
    obtain ⟨p', a, m, b, HI, HE⟩ := hrel
    have d1 : wr.cell? ⟨gm, 1, none⟩ = some (.int .i64 (m : Int)) := cell_of HE.out.ws.t 1
    have c5 := numAt_of (cell_of HE.out.ws.s.obj 5 : wr.cell? ⟨c.sb, 5, none⟩ = some (.int .i64 (p' : Int)))
    have HC5 := (show Hid (numAt wr ⟨c.sb, 5, none⟩ = p') from c5)
    have HPR := (show Hid (p' ≤ c.bs.length ∧ ((a = 0 ∧ m = 0 ∧ b = 0) ∨ (OkM c a m b ∧ a ≤ p' ∧ p' + 1 < a + m)) ∧ (m = 0 → p' = p)) from by
      rcases HI.out.2 with ⟨e1, e2, e3, e4⟩ | ⟨e1, e2, e3, e4⟩
      · exact ⟨by omega, .inl ⟨e1, e2, e3⟩, fun _ => e4⟩
      · have := e1.lo; have := e1.fin; have := HE.out.ws.s.ok.l2
        exact ⟨by omega, .inr ⟨e1, by omega, by omega⟩, fun h => by omega⟩)
    clear c5
    by_cases h1 : m = 0
    · have hd1 : decide (0 < m) = false := decide_eq_false (by omega)
      have hd1' : ¬ 0 < m := by omega
      have HP := (show Hid (p' ≤ c.bs.length ∧ ((a = 0 ∧ m = 0 ∧ b = 0) ∨ (OkM c a m b ∧ a ≤ p' ∧ p' < a + m)) ∧ p' ≤ p' ∧ (m = 0 → p' = p)) from ⟨HPR.out.1, HPR.out.2.1.imp id (fun h => ⟨h.1, h.2.1, by omega⟩), Nat.le_refl _, HPR.out.2.2⟩)
      clear h1 HPR
      have j0 : wr.cell? ⟨gs, 0, none⟩ = some (.pointer (some ⟨c.sb, 0, none⟩)) := cell_of HE.out.g 0
      have g0 : wr.cell? ⟨gm, 0, none⟩ = some (.int .i64 (a : Int)) := cell_of HE.out.ws.t 0
      have g1 : wr.cell? ⟨gm, 1, none⟩ = some (.int .i64 (m : Int)) := cell_of HE.out.ws.t 1
      have g2 : wr.cell? ⟨gm, 2, none⟩ = some (.int .i64 (b : Int)) := cell_of HE.out.ws.t 2
      go_wp2_with fail
      refine (within_any c p' told vain a m b wr HE.out.ws.s HP.out.1 HP.out.2.1).mono ?_
      rintro e W8 ⟨⟨m', b', p3, rfl, hmm, hc, s8⟩, k8⟩
      have HR := (show Hid (_ ∧ _) from nx_fin HI.out HF0.out HP.out.2.2.1 HP.out.2.2.2 hmm hc)
      have hrm : ¬ mine c gr := fun e => by have := HE.out.ws.lt _ e; have := HE.out.ws.rl; omega
      have r8 := k8.obj HE.out.ws.r hrm
      have H8 := (show Hid (IsS W8 c p3 told vain p3 p3 ∧ Keep (mine c) w W8 ∧ W8.heap[gr]? = some (.cells #[.int .i64 0, .int .i64 0, .int .i64 0] 145 (0, 0)) ∧ (∀ k, mine c k → k < w.heap.size) ∧ c.gb < w.heap.size ∧ w.heap.size ≤ gr) from ⟨s8, HE.out.ws.k.trans' k8, r8, HE.out.ws.lt, HE.out.ws.glt, HE.out.ws.rl⟩)
      have u0 : W8.cell? ⟨gr, 0, none⟩ = some (.int .i64 0) := cell_of r8 0
      have u1 : W8.cell? ⟨gr, 1, none⟩ = some (.int .i64 0) := cell_of r8 1
      have u2 : W8.cell? ⟨gr, 2, none⟩ = some (.int .i64 0) := cell_of r8 2
      have t0 := frozen_of r8 0
      have t1 := frozen_of r8 1
      have t2 := frozen_of r8 2
      clear hmm hc s8 k8 r8 hrm HE HI HP
      go_wp2_with fail
      refine bodyPost_ret (ret63 rfl _ _ gr 145 _ rfl (put3 H8.out.2.2.1 _ _ _) rfl) rfl ?_
      exact ⟨⟨a, m', b', p3, rfl, HR.out.1, HR.out.2, H8.out.1.apart H8.out.2.2.2.1 H8.out.2.2.2.2.1 H8.out.2.2.2.2.2 (keep_put W8 gr _ _ _)⟩, H8.out.2.1.trans (keep_put W8 gr _ _ _) (fun i hi e => by have := H8.out.2.2.2.2.2; omega)⟩
    · have hd1 : (0 : Int) < (m : Int) := by omega
      by_cases h2 : m < 64
      · have hd2 : (m : Int) < 64 := by omega
        have HL := later_any c p' told vain gs gm a m b wr HE.out.ws.s (by rcases HPR.out.2.1 with e | e; · omega
                                                                           · have := e.1.fin; omega) hv HE.out.g HE.out.ws.t HE.out.apart.1 HE.out.apart.2.1 HE.out.apart.2.2 HE.out.gn
        have HO := (show Hid (OkM c a m b ∧ a ≤ p' ∧ p' + 1 < a + m ∧ m ≠ 0) from by
          rcases HPR.out.2.1 with e | e
          · omega
          · exact ⟨e.1, e.2.1, e.2.2, h1⟩)
        clear h1 h2 HPR
        go_wp2_with fail
        refine HL.mono ?_
        rintro e W3 ⟨⟨d, a', m', b', rfl, s3, x3, hT, hF⟩, k3⟩
        have hrm : ¬ (mine c gr ∨ gr = gm) := fun e => by
          rcases e with e | e
          · have := HE.out.ws.lt _ e; have := HE.out.ws.rl; omega
          · exact HE.out.ws.ne e
        have hsm : ¬ (mine c gs ∨ gs = gm) := fun e => e.elim HE.out.apart.1 HE.out.gn
        have HE3 := (show Hid (NS w W3 c told vain gs gr gm (p' + 1) a' m' b') from
          ⟨⟨s3, HE.out.ws.k.trans k3 (fun i hi e => e.elim id (fun e => by have := HE.out.ws.ml; omega)), HE.out.ws.lt, HE.out.ws.glt, k3.obj HE.out.ws.r hrm, x3, HE.out.ws.rl, HE.out.ws.ml, HE.out.ws.ne⟩, k3.obj HE.out.g hsm, HE.out.gl, HE.out.gn, HE.out.gn2⟩)
        clear HL s3 x3 k3 hrm hsm HE d1
        cases d with
        | true =>
          obtain ⟨e1, e2, e3⟩ := hT rfl
          have HI3 := (show Hid (NxM c p m0 a' m' b' (p' + 1)) from by
            rcases HI.out with ⟨i1, i2⟩
            refine ⟨by omega, .inr ⟨e3, ?_, e1, .inr (by omega)⟩⟩
            rcases i2 with ⟨j1, j2, j3, j4⟩ | ⟨j1, j2, j3, j4⟩ <;> omega)
          have HM3 := (show Hid (numAt W3 ⟨c.sb, 5, none⟩ = p' + 1 ∧ p' < c.bs.length) from ⟨numAt_of (cell_of HE3.out.ws.s.obj 5), by have := HO.out.1.fin; have := HO.out; omega⟩)
          clear hT hF e1 e2 e3
          go_wp2_with fail
          go_roundw
          case rel => exact ⟨p' + 1, a', m', b', HI3, HE3⟩
          case measure => rw [HM3.out.1, HC5.out]; have := HM3.out.2; omega
        | false =>
          obtain ⟨rfl, rfl, rfl⟩ := hF rfl
          have HE := HE3
          have HP := (show Hid (p' + 1 ≤ c.bs.length ∧ ((a' = 0 ∧ m' = 0 ∧ b' = 0) ∨ (OkM c a' m' b' ∧ a' ≤ p' + 1 ∧ p' + 1 < a' + m')) ∧ p' ≤ p' + 1 ∧ (m' = 0 → p' + 1 = p)) from ⟨by have := HO.out.1.fin; have := HO.out; omega, .inr ⟨HO.out.1, by have := HO.out; omega, HO.out.2.2.1⟩, by omega, fun e => absurd e HO.out.2.2.2⟩)
          clear HE3 hT hF
          have j0 : W3.cell? ⟨gs, 0, none⟩ = some (.pointer (some ⟨c.sb, 0, none⟩)) := cell_of HE.out.g 0
          have g0 : W3.cell? ⟨gm, 0, none⟩ = some (.int .i64 (a' : Int)) := cell_of HE.out.ws.t 0
          have g1 : W3.cell? ⟨gm, 1, none⟩ = some (.int .i64 (m' : Int)) := cell_of HE.out.ws.t 1
          have g2 : W3.cell? ⟨gm, 2, none⟩ = some (.int .i64 (b' : Int)) := cell_of HE.out.ws.t 2
          go_wp2_with fail
          refine (within_any c (p' + 1) told vain a' m' b' W3 HE.out.ws.s HP.out.1 HP.out.2.1).mono ?_
          rintro e W8 ⟨⟨m'', b'', p3, rfl, hmm, hc, s8⟩, k8⟩
          have HR := (show Hid (_ ∧ _) from nx_fin HI.out HF0.out HP.out.2.2.1 HP.out.2.2.2 hmm hc)
          have hrm : ¬ mine c gr := fun e => by have := HE.out.ws.lt _ e; have := HE.out.ws.rl; omega
          have r8 := k8.obj HE.out.ws.r hrm
          have H8 := (show Hid (IsS W8 c p3 told vain p3 p3 ∧ Keep (mine c) w W8 ∧ W8.heap[gr]? = some (.cells #[.int .i64 0, .int .i64 0, .int .i64 0] 145 (0, 0)) ∧ (∀ k, mine c k → k < w.heap.size) ∧ c.gb < w.heap.size ∧ w.heap.size ≤ gr) from ⟨s8, HE.out.ws.k.trans' k8, r8, HE.out.ws.lt, HE.out.ws.glt, HE.out.ws.rl⟩)
          have u0 : W8.cell? ⟨gr, 0, none⟩ = some (.int .i64 0) := cell_of r8 0
          have u1 : W8.cell? ⟨gr, 1, none⟩ = some (.int .i64 0) := cell_of r8 1
          have u2 : W8.cell? ⟨gr, 2, none⟩ = some (.int .i64 0) := cell_of r8 2
          have t0 := frozen_of r8 0
          have t1 := frozen_of r8 1
          have t2 := frozen_of r8 2
          clear hmm hc s8 k8 r8 hrm HE HI HP
          go_wp2_with fail
          refine bodyPost_ret (ret63 rfl _ _ gr 145 _ rfl (put3 H8.out.2.2.1 _ _ _) rfl) rfl ?_
          exact ⟨⟨a', m'', b'', p3, rfl, HR.out.1, HR.out.2, H8.out.1.apart H8.out.2.2.2.1 H8.out.2.2.2.2.1 H8.out.2.2.2.2.2 (keep_put W8 gr _ _ _)⟩, H8.out.2.1.trans (keep_put W8 gr _ _ _) (fun i hi e => by have := H8.out.2.2.2.2.2; omega)⟩
      · have hd2 : decide ((m : Int) < 64) = false := decide_eq_false (by omega)
        have HP := (show Hid (p' ≤ c.bs.length ∧ ((a = 0 ∧ m = 0 ∧ b = 0) ∨ (OkM c a m b ∧ a ≤ p' ∧ p' < a + m)) ∧ p' ≤ p' ∧ (m = 0 → p' = p)) from ⟨HPR.out.1, HPR.out.2.1.imp id (fun h => ⟨h.1, h.2.1, by omega⟩), Nat.le_refl _, HPR.out.2.2⟩)
        clear h1 h2 HPR
        have j0 : wr.cell? ⟨gs, 0, none⟩ = some (.pointer (some ⟨c.sb, 0, none⟩)) := cell_of HE.out.g 0
        have g0 : wr.cell? ⟨gm, 0, none⟩ = some (.int .i64 (a : Int)) := cell_of HE.out.ws.t 0
        have g1 : wr.cell? ⟨gm, 1, none⟩ = some (.int .i64 (m : Int)) := cell_of HE.out.ws.t 1
        have g2 : wr.cell? ⟨gm, 2, none⟩ = some (.int .i64 (b : Int)) := cell_of HE.out.ws.t 2
        go_wp2_with fail
        refine (within_any c p' told vain a m b wr HE.out.ws.s HP.out.1 HP.out.2.1).mono ?_
        rintro e W8 ⟨⟨m', b', p3, rfl, hmm, hc, s8⟩, k8⟩
        have HR := (show Hid (_ ∧ _) from nx_fin HI.out HF0.out HP.out.2.2.1 HP.out.2.2.2 hmm hc)
        have hrm : ¬ mine c gr := fun e => by have := HE.out.ws.lt _ e; have := HE.out.ws.rl; omega
        have r8 := k8.obj HE.out.ws.r hrm
        have H8 := (show Hid (IsS W8 c p3 told vain p3 p3 ∧ Keep (mine c) w W8 ∧ W8.heap[gr]? = some (.cells #[.int .i64 0, .int .i64 0, .int .i64 0] 145 (0, 0)) ∧ (∀ k, mine c k → k < w.heap.size) ∧ c.gb < w.heap.size ∧ w.heap.size ≤ gr) from ⟨s8, HE.out.ws.k.trans' k8, r8, HE.out.ws.lt, HE.out.ws.glt, HE.out.ws.rl⟩)
        have u0 : W8.cell? ⟨gr, 0, none⟩ = some (.int .i64 0) := cell_of r8 0
        have u1 : W8.cell? ⟨gr, 1, none⟩ = some (.int .i64 0) := cell_of r8 1
        have u2 : W8.cell? ⟨gr, 2, none⟩ = some (.int .i64 0) := cell_of r8 2
        have t0 := frozen_of r8 0
        have t1 := frozen_of r8 1
        have t2 := frozen_of r8 2
        clear hmm hc s8 k8 r8 hrm HE HI HP
        go_wp2_with fail
        refine bodyPost_ret (ret63 rfl _ _ gr 145 _ rfl (put3 H8.out.2.2.1 _ _ _) rfl) rfl ?_
        exact ⟨⟨a, m', b', p3, rfl, HR.out.1, HR.out.2, H8.out.1.apart H8.out.2.2.2.1 H8.out.2.2.2.2.1 H8.out.2.2.2.2.2 (keep_put W8 gr _ _ _)⟩, H8.out.2.1.trans (keep_put W8 gr _ _ _) (fun i hi e => by have := H8.out.2.2.2.2.2; omega)⟩
end Go.Proofs.YtnokemcogjoonaaGreatDoor.Fd
