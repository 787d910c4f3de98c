/-
  next: the match at the present place, or a later one.
-/
import Derived.Test.YtlpibfonpfhakaaDoorLater
namespace Go.Proofs.YtlpibfonpfhakaaDoor
open Go.RowKit Go.Shelf
set_option linter.unusedVariables false

/-- What next holds. -/
structure NS (w W : World) (c : Cf) (told vain gs gr gm p a m b : Nat) : Prop where
  ws : WS w W c told vain gr gm p a m b
  g : W.heap[gs]? = some (.cells #[.pointer (some ⟨c.sb, 0, none⟩)] 44 (0, 0))
  gl : w.heap.size ≤ gs
  gn : gs ≠ gm
  gn2 : gs ≠ gr
theorem NS.still {w W W' : World} {c : Cf} {told vain gs gr gm p a m b : Nat} (h : NS w W c told vain gs gr gm p a m b) (hk : Keep noBlock W W') : NS w W' c told vain gs gr gm p a m b :=
  ⟨h.ws.still hk, hk.obj h.g (fun h => h), h.gl, h.gn, h.gn2⟩
theorem NS.apart {w W : World} {c : Cf} {told vain gs gr gm p a m b : Nat} (h : NS w W c told vain gs gr gm p a m b) : ¬ mine c gs ∧ ¬ mine c gm ∧ gm ≠ c.gb := by
  refine ⟨fun e => ?_, fun e => ?_, fun e => ?_⟩
  · have := h.ws.lt _ e; have := h.gl; omega
  · have := h.ws.lt _ e; have := h.ws.ml; omega
  · have := h.ws.glt; have := h.ws.ml; omega
/-- How far next has come: m0 is how long the first match is. -/
def NxM (c : Cf) (p m0 a m b p' : Nat) : Prop := m0 ≤ m ∧ ((a = 0 ∧ m = 0 ∧ b = 0 ∧ p' = p) ∨ (OkM c a m b ∧ p ≤ a ∧ a = p' ∧ (a = p ∨ m0 < m)))

theorem nx_fin {c : Cf} {p m0 a m b q p2 m' b' p3 : Nat} (hM : NxM c p m0 a m b q) (hF : Full c p → m0 = limN c p ∧ 2 ≤ c.least ∧ c.least ≤ c.most) (hq : q ≤ p2) (h0 : m = 0 → p2 = p) (hmm : m ≤ m')
    (hc : (a = 0 ∧ m' = 0 ∧ b' = 0 ∧ p3 = p2) ∨ (OkM c a m' b' ∧ p2 ≤ p3 ∧ a ≤ p3 ∧ p3 < a + m')) :
    ((a = 0 ∧ m' = 0 ∧ b' = 0 ∧ p3 = p) ∨ (OkM c a m' b' ∧ p ≤ a ∧ p ≤ p3 ∧ p3 < a + m')) ∧ (Full c p → a = p ∧ m' = limN c p) := by
  obtain ⟨h1, h2⟩ := hM
  have key : ∀ (hO : OkM c a m' b'), p ≤ a ∧ a = q ∧ (a = p ∨ m0 < m) := fun hO => by
    rcases h2 with ⟨e1, e2, e3, e4⟩ | ⟨e1, e2, e3, e4⟩
    · have := hO.ba; have := hO.b1; omega
    · exact ⟨e2, e3, e4⟩
  refine ⟨?_, fun hf => ?_⟩
  · rcases hc with ⟨e1, e2, e3, e4⟩ | ⟨e1, e2, e3, e4⟩
    · exact .inl ⟨e1, e2, e3, by have := h0 (by omega); omega⟩
    · have := key e1
      exact .inr ⟨e1, by omega, by omega, e4⟩
  · have hl := hF hf
    rcases hc with ⟨e1, e2, e3, e4⟩ | ⟨e1, e2, e3, e4⟩
    · exfalso
      have h3 := hf.fits
      have h4 : limN c p = 0 := by omega
      unfold limN at h4
      omega
    · have k1 := key e1
      have k2 := e1.lim
      have k3 := limN_mono c k1.1
      have k4 : a = p := by omega
      subst k4
      exact ⟨rfl, by omega⟩

set_option maxRecDepth 100000 in
set_option maxHeartbeats 2000000 in
theorem next_any (c : Cf) (p told vain : Nat) (w : World) (h : IsS w c p told vain p p) (hp : p ≤ c.bs.length) (hv : vain < 1000000) :
    Calls Tryd.prog 23 #[.pointer (some ⟨c.sb, 0, none⟩)] w fun e w' => (∃ a m b p' : Nat, e = .returned (.agg (trio a m b)) ∧ ((a = 0 ∧ m = 0 ∧ b = 0 ∧ p' = p) ∨ (OkM c a m b ∧ p ≤ a ∧ p ≤ p' ∧ p' < a + m)) ∧ (Full c p → a = p ∧ m = limN c p) ∧ IsS w' c p' told vain p' p') ∧ Keep (mine c) w w' := by
  have hn := h.ok.n
  have hmf : ∀ (fn : Fn) (first cap : Array Value) (w : World), (Instr.makeFunc fn first cap).run Tryd.prog w = .ok (.func fn first cap) w := fun _ _ _ _ => rfl
  obtain ⟨gs, hgs⟩ : ∃ gs, gs = w.heap.size := ⟨_, rfl⟩
  obtain ⟨gr, hgr⟩ : ∃ gr, gr = w.heap.size + 1 := ⟨_, rfl⟩
  obtain ⟨W0, hW0⟩ : ∃ W0, W0 = (w.alloc (.cells #[.pointer (some ⟨c.sb, 0, none⟩)] 44)).alloc (.cells #[.int .i64 0, .int .i64 0, .int .i64 0] 63) := ⟨_, rfl⟩
  have hsz : (w.alloc (.cells #[.pointer (some ⟨c.sb, 0, none⟩)] 44)).heap.size = w.heap.size + 1 := by simp
  have k0 : Keep noBlock w W0 := by rw [hW0]; exact ((Keep.refl _ w).alloc _).alloc _
  have x0 : W0.heap[gs]? = some (.cells #[.pointer (some ⟨c.sb, 0, none⟩)] 44 (0, 0)) := by rw [hW0, hgs]; exact alloc_far (alloc_new w _) _
  have y0 : W0.heap[gr]? = some (.cells #[.int .i64 0, .int .i64 0, .int .i64 0] 63 (0, 0)) := by rw [hW0, hgr, ← hsz]; exact alloc_new _ _
  have s0 : W0.cell? ⟨gs, 0, none⟩ = some (.pointer (some ⟨c.sb, 0, none⟩)) := cell_of x0 0
  have HH := here_any c p told vain W0 (h.still k0) hp hv
  have HS := (show Hid (IsS w c p told vain p p ∧ Keep noBlock w W0 ∧ W0.heap[gs]? = some (.cells #[.pointer (some ⟨c.sb, 0, none⟩)] 44 (0, 0)) ∧ W0.heap[gr]? = some (.cells #[.int .i64 0, .int .i64 0, .int .i64 0] 63 (0, 0)) ∧ gs = w.heap.size ∧ gr = w.heap.size + 1) from ⟨h, k0, x0, y0, hgs, hgr⟩)
  clear h k0 x0 y0 hsz
  go_enter Tryd.func23, Tryd.ntmps23
  go_wp2_with fail
  rw [← hW0, ← hgr, ← hgs]
  clear hW0 hgr hgs
  go_wp2_with fail
  refine HH.mono ?_
  rintro e W1 ⟨⟨a, m, b, rfl, hab, hfu⟩, k1⟩
  clear HH s0
  obtain ⟨gm, hgm⟩ : ∃ gm, gm = W1.heap.size := ⟨_, rfl⟩
  obtain ⟨W2, hW2⟩ : ∃ W2, W2 = W1.alloc (.cells (trio a m b) 63) := ⟨_, rfl⟩
  have HN := (show Hid (NS w W2 c told vain gs gr gm p a m b) from by
    have k2 : Keep noBlock W0 W2 := by rw [hW2]; exact k1.alloc _
    have k3 := HS.out.2.1.trans' k2
    have q1 := obj_lt (k1.obj HS.out.2.2.1 (fun h => h))
    have q2 := obj_lt (k1.obj HS.out.2.2.2.1 (fun h => h))
    have q3 := HS.out.2.2.2.2
    have q4 := (HS.out.2.1.trans' k1).size
    exact ⟨⟨HS.out.1.still k3, k3.mono (fun _ _ h => h.elim), (mine_lt HS.out.1).1, (mine_lt HS.out.1).2, k2.obj HS.out.2.2.2.1 (fun h => h), by rw [hW2, hgm]; exact alloc_new W1 _, by omega, by omega, by omega⟩, k2.obj HS.out.2.2.1 (fun h => h), by omega, by omega, by omega⟩)
  have HM := (show Hid (NxM c p m a m b p ∧ (Full c p → m = limN c p)) from ⟨⟨Nat.le_refl _, hab.imp (fun h => ⟨h.1, h.2.1, h.2.2, rfl⟩) (fun h => ⟨h.2, Nat.le_of_eq h.1.symm, h.1, .inl h.1⟩)⟩, hfu⟩)
  clear k1 HS hab hfu
  obtain ⟨m0, hm0⟩ : ∃ m0, m0 = m := ⟨_, rfl⟩
  have HM0 := (show Hid (NxM c p m0 a m b p ∧ (Full c p → m0 = limN c p)) from by rw [hm0]; exact HM.out)
  clear HM hm0
  go_wp2_with fail
  rw [← hW2, ← hgm]
  clear hW2 hgm
  go_loopw [8] (fun _ wr => ∃ p' a m b : Nat, Hid (NxM c p m0 a m b p') ∧ Hid (NS w wr c told vain gs gr gm p' a m b)) (fun _ wr => c.bs.length - numAt wr ⟨c.sb, 5, none⟩)
  case atStart => exact ⟨p, a, m, b, HM0.out.1, HN⟩
  case round =>
    have HF0 := (show Hid (Full c p → m0 = limN c p ∧ 2 ≤ c.least ∧ c.least ≤ c.most) from fun hf => ⟨HM0.out.2 hf, HN.out.ws.s.ok.l2, HN.out.ws.s.ok.l3⟩)
    clear HN HM0
    obtain ⟨p', a, m, b, HI, HE⟩ := hrel
    have d1 : wr.cell? ⟨gm, 1, none⟩ = some (.int .i64 (m : Int)) := cell_of HE.out.ws.t 1
    have c5 := numAt_of (cell_of HE.out.ws.s.obj 5 : wr.cell? ⟨c.sb, 5, none⟩ = some (.int .i64 (p' : Int)))
    have HC5 := (show Hid (numAt wr ⟨c.sb, 5, none⟩ = p') from c5)
    have HPR := (show Hid (p' ≤ c.bs.length ∧ ((a = 0 ∧ m = 0 ∧ b = 0) ∨ (OkM c a m b ∧ a ≤ p' ∧ p' + 1 < a + m)) ∧ (m = 0 → p' = p)) from by
      rcases HI.out.2 with ⟨e1, e2, e3, e4⟩ | ⟨e1, e2, e3, e4⟩
      · exact ⟨by omega, .inl ⟨e1, e2, e3⟩, fun _ => e4⟩
      · have := e1.lo; have := e1.fin; have := HE.out.ws.s.ok.l2
        exact ⟨by omega, .inr ⟨e1, by omega, by omega⟩, fun h => by omega⟩)
    clear c5
    by_cases h1 : m = 0
    · have hd1 : decide (0 < m) = false := decide_eq_false (by omega)
      have hd1' : ¬ 0 < m := by omega
      have HP := (show Hid (p' ≤ c.bs.length ∧ ((a = 0 ∧ m = 0 ∧ b = 0) ∨ (OkM c a m b ∧ a ≤ p' ∧ p' < a + m)) ∧ p' ≤ p' ∧ (m = 0 → p' = p)) from ⟨HPR.out.1, HPR.out.2.1.imp id (fun h => ⟨h.1, h.2.1, by omega⟩), Nat.le_refl _, HPR.out.2.2⟩)
      clear h1 HPR
      have j0 : wr.cell? ⟨gs, 0, none⟩ = some (.pointer (some ⟨c.sb, 0, none⟩)) := cell_of HE.out.g 0
      have g0 : wr.cell? ⟨gm, 0, none⟩ = some (.int .i64 (a : Int)) := cell_of HE.out.ws.t 0
      have g1 : wr.cell? ⟨gm, 1, none⟩ = some (.int .i64 (m : Int)) := cell_of HE.out.ws.t 1
      have g2 : wr.cell? ⟨gm, 2, none⟩ = some (.int .i64 (b : Int)) := cell_of HE.out.ws.t 2
      go_wp2_with fail
      refine (within_any c p' told vain a m b wr HE.out.ws.s HP.out.1 HP.out.2.1).mono ?_
      rintro e W8 ⟨⟨m', b', p3, rfl, hmm, hc, s8⟩, k8⟩
      have HR := (show Hid (_ ∧ _) from nx_fin HI.out HF0.out HP.out.2.2.1 HP.out.2.2.2 hmm hc)
      have hrm : ¬ mine c gr := fun e => by have := HE.out.ws.lt _ e; have := HE.out.ws.rl; omega
      have r8 := k8.obj HE.out.ws.r hrm
      have H8 := (show Hid (IsS W8 c p3 told vain p3 p3 ∧ Keep (mine c) w W8 ∧ W8.heap[gr]? = some (.cells #[.int .i64 0, .int .i64 0, .int .i64 0] 63 (0, 0)) ∧ (∀ k, mine c k → k < w.heap.size) ∧ c.gb < w.heap.size ∧ w.heap.size ≤ gr) from ⟨s8, HE.out.ws.k.trans' k8, r8, HE.out.ws.lt, HE.out.ws.glt, HE.out.ws.rl⟩)
      have u0 : W8.cell? ⟨gr, 0, none⟩ = some (.int .i64 0) := cell_of r8 0
      have u1 : W8.cell? ⟨gr, 1, none⟩ = some (.int .i64 0) := cell_of r8 1
      have u2 : W8.cell? ⟨gr, 2, none⟩ = some (.int .i64 0) := cell_of r8 2
      have t0 := frozen_of r8 0
      have t1 := frozen_of r8 1
      have t2 := frozen_of r8 2
      clear hmm hc s8 k8 r8 hrm HE HI HP
      go_wp2_with fail
      refine bodyPost_ret (ret63 rfl _ _ gr 63 _ rfl (put3 H8.out.2.2.1 _ _ _) rfl) rfl ?_
      exact ⟨⟨a, m', b', p3, rfl, HR.out.1, HR.out.2, H8.out.1.apart H8.out.2.2.2.1 H8.out.2.2.2.2.1 H8.out.2.2.2.2.2 (keep_put W8 gr _ _ _)⟩, H8.out.2.1.trans (keep_put W8 gr _ _ _) (fun i hi e => by have := H8.out.2.2.2.2.2; omega)⟩
    · have hd1 : (0 : Int) < (m : Int) := by omega
      by_cases h2 : m < 64
      · have hd2 : (m : Int) < 64 := by omega
        have HL := later_any c p' told vain gs gm a m b wr HE.out.ws.s (by rcases HPR.out.2.1 with e | e; · omega
                                                                           · have := e.1.fin; omega) hv HE.out.g HE.out.ws.t HE.out.apart.1 HE.out.apart.2.1 HE.out.apart.2.2 HE.out.gn
        have HO := (show Hid (OkM c a m b ∧ a ≤ p' ∧ p' + 1 < a + m ∧ m ≠ 0) from by
          rcases HPR.out.2.1 with e | e
          · omega
          · exact ⟨e.1, e.2.1, e.2.2, h1⟩)
        clear h1 h2 HPR
        go_wp2_with fail
        refine HL.mono ?_
        rintro e W3 ⟨⟨d, a', m', b', rfl, s3, x3, hT, hF⟩, k3⟩
        have hrm : ¬ (mine c gr ∨ gr = gm) := fun e => by
          rcases e with e | e
          · have := HE.out.ws.lt _ e; have := HE.out.ws.rl; omega
          · exact HE.out.ws.ne e
        have hsm : ¬ (mine c gs ∨ gs = gm) := fun e => e.elim HE.out.apart.1 HE.out.gn
        have HE3 := (show Hid (NS w W3 c told vain gs gr gm (p' + 1) a' m' b') from
          ⟨⟨s3, HE.out.ws.k.trans k3 (fun i hi e => e.elim id (fun e => by have := HE.out.ws.ml; omega)), HE.out.ws.lt, HE.out.ws.glt, k3.obj HE.out.ws.r hrm, x3, HE.out.ws.rl, HE.out.ws.ml, HE.out.ws.ne⟩, k3.obj HE.out.g hsm, HE.out.gl, HE.out.gn, HE.out.gn2⟩)
        clear HL s3 x3 k3 hrm hsm HE d1
        cases d with
        | true =>
          obtain ⟨e1, e2, e3⟩ := hT rfl
          have HI3 := (show Hid (NxM c p m0 a' m' b' (p' + 1)) from by
            rcases HI.out with ⟨i1, i2⟩
            refine ⟨by omega, .inr ⟨e3, ?_, e1, .inr (by omega)⟩⟩
            rcases i2 with ⟨j1, j2, j3, j4⟩ | ⟨j1, j2, j3, j4⟩ <;> omega)
          have HM3 := (show Hid (numAt W3 ⟨c.sb, 5, none⟩ = p' + 1 ∧ p' < c.bs.length) from ⟨numAt_of (cell_of HE3.out.ws.s.obj 5), by have := HO.out.1.fin; have := HO.out; omega⟩)
          clear hT hF e1 e2 e3
          go_wp2_with fail
          go_roundw
          case rel => exact ⟨p' + 1, a', m', b', HI3, HE3⟩
          case measure => rw [HM3.out.1, HC5.out]; have := HM3.out.2; omega
        | false =>
          obtain ⟨rfl, rfl, rfl⟩ := hF rfl
          have HE := HE3
          have HP := (show Hid (p' + 1 ≤ c.bs.length ∧ ((a' = 0 ∧ m' = 0 ∧ b' = 0) ∨ (OkM c a' m' b' ∧ a' ≤ p' + 1 ∧ p' + 1 < a' + m')) ∧ p' ≤ p' + 1 ∧ (m' = 0 → p' + 1 = p)) from ⟨by have := HO.out.1.fin; have := HO.out; omega, .inr ⟨HO.out.1, by have := HO.out; omega, HO.out.2.2.1⟩, by omega, fun e => absurd e HO.out.2.2.2⟩)
          clear HE3 hT hF
          have j0 : W3.cell? ⟨gs, 0, none⟩ = some (.pointer (some ⟨c.sb, 0, none⟩)) := cell_of HE.out.g 0
          have g0 : W3.cell? ⟨gm, 0, none⟩ = some (.int .i64 (a' : Int)) := cell_of HE.out.ws.t 0
          have g1 : W3.cell? ⟨gm, 1, none⟩ = some (.int .i64 (m' : Int)) := cell_of HE.out.ws.t 1
          have g2 : W3.cell? ⟨gm, 2, none⟩ = some (.int .i64 (b' : Int)) := cell_of HE.out.ws.t 2
          go_wp2_with fail
          refine (within_any c (p' + 1) told vain a' m' b' W3 HE.out.ws.s HP.out.1 HP.out.2.1).mono ?_
          rintro e W8 ⟨⟨m'', b'', p3, rfl, hmm, hc, s8⟩, k8⟩
          have HR := (show Hid (_ ∧ _) from nx_fin HI.out HF0.out HP.out.2.2.1 HP.out.2.2.2 hmm hc)
          have hrm : ¬ mine c gr := fun e => by have := HE.out.ws.lt _ e; have := HE.out.ws.rl; omega
          have r8 := k8.obj HE.out.ws.r hrm
          have H8 := (show Hid (IsS W8 c p3 told vain p3 p3 ∧ Keep (mine c) w W8 ∧ W8.heap[gr]? = some (.cells #[.int .i64 0, .int .i64 0, .int .i64 0] 63 (0, 0)) ∧ (∀ k, mine c k → k < w.heap.size) ∧ c.gb < w.heap.size ∧ w.heap.size ≤ gr) from ⟨s8, HE.out.ws.k.trans' k8, r8, HE.out.ws.lt, HE.out.ws.glt, HE.out.ws.rl⟩)
          have u0 : W8.cell? ⟨gr, 0, none⟩ = some (.int .i64 0) := cell_of r8 0
          have u1 : W8.cell? ⟨gr, 1, none⟩ = some (.int .i64 0) := cell_of r8 1
          have u2 : W8.cell? ⟨gr, 2, none⟩ = some (.int .i64 0) := cell_of r8 2
          have t0 := frozen_of r8 0
          have t1 := frozen_of r8 1
          have t2 := frozen_of r8 2
          clear hmm hc s8 k8 r8 hrm HE HI HP
          go_wp2_with fail
          refine bodyPost_ret (ret63 rfl _ _ gr 63 _ rfl (put3 H8.out.2.2.1 _ _ _) rfl) rfl ?_
          exact ⟨⟨a', m'', b'', p3, rfl, HR.out.1, HR.out.2, H8.out.1.apart H8.out.2.2.2.1 H8.out.2.2.2.2.1 H8.out.2.2.2.2.2 (keep_put W8 gr _ _ _)⟩, H8.out.2.1.trans (keep_put W8 gr _ _ _) (fun i hi e => by have := H8.out.2.2.2.2.2; omega)⟩
      · have hd2 : decide ((m : Int) < 64) = false := decide_eq_false (by omega)
        have HP := (show Hid (p' ≤ c.bs.length ∧ ((a = 0 ∧ m = 0 ∧ b = 0) ∨ (OkM c a m b ∧ a ≤ p' ∧ p' < a + m)) ∧ p' ≤ p' ∧ (m = 0 → p' = p)) from ⟨HPR.out.1, HPR.out.2.1.imp id (fun h => ⟨h.1, h.2.1, by omega⟩), Nat.le_refl _, HPR.out.2.2⟩)
        clear h1 h2 HPR
        have j0 : wr.cell? ⟨gs, 0, none⟩ = some (.pointer (some ⟨c.sb, 0, none⟩)) := cell_of HE.out.g 0
        have g0 : wr.cell? ⟨gm, 0, none⟩ = some (.int .i64 (a : Int)) := cell_of HE.out.ws.t 0
        have g1 : wr.cell? ⟨gm, 1, none⟩ = some (.int .i64 (m : Int)) := cell_of HE.out.ws.t 1
        have g2 : wr.cell? ⟨gm, 2, none⟩ = some (.int .i64 (b : Int)) := cell_of HE.out.ws.t 2
        go_wp2_with fail
        refine (within_any c p' told vain a m b wr HE.out.ws.s HP.out.1 HP.out.2.1).mono ?_
        rintro e W8 ⟨⟨m', b', p3, rfl, hmm, hc, s8⟩, k8⟩
        have HR := (show Hid (_ ∧ _) from nx_fin HI.out HF0.out HP.out.2.2.1 HP.out.2.2.2 hmm hc)
        have hrm : ¬ mine c gr := fun e => by have := HE.out.ws.lt _ e; have := HE.out.ws.rl; omega
        have r8 := k8.obj HE.out.ws.r hrm
        have H8 := (show Hid (IsS W8 c p3 told vain p3 p3 ∧ Keep (mine c) w W8 ∧ W8.heap[gr]? = some (.cells #[.int .i64 0, .int .i64 0, .int .i64 0] 63 (0, 0)) ∧ (∀ k, mine c k → k < w.heap.size) ∧ c.gb < w.heap.size ∧ w.heap.size ≤ gr) from ⟨s8, HE.out.ws.k.trans' k8, r8, HE.out.ws.lt, HE.out.ws.glt, HE.out.ws.rl⟩)
        have u0 : W8.cell? ⟨gr, 0, none⟩ = some (.int .i64 0) := cell_of r8 0
        have u1 : W8.cell? ⟨gr, 1, none⟩ = some (.int .i64 0) := cell_of r8 1
        have u2 : W8.cell? ⟨gr, 2, none⟩ = some (.int .i64 0) := cell_of r8 2
        have t0 := frozen_of r8 0
        have t1 := frozen_of r8 1
        have t2 := frozen_of r8 2
        clear hmm hc s8 k8 r8 hrm HE HI HP
        go_wp2_with fail
        refine bodyPost_ret (ret63 rfl _ _ gr 63 _ rfl (put3 H8.out.2.2.1 _ _ _) rfl) rfl ?_
        exact ⟨⟨a, m', b', p3, rfl, HR.out.1, HR.out.2, H8.out.1.apart H8.out.2.2.2.1 H8.out.2.2.2.2.1 H8.out.2.2.2.2.2 (keep_put W8 gr _ _ _)⟩, H8.out.2.1.trans (keep_put W8 gr _ _ _) (fun i hi e => by have := H8.out.2.2.2.2.2; omega)⟩
end Go.Proofs.YtlpibfonpfhakaaDoor
