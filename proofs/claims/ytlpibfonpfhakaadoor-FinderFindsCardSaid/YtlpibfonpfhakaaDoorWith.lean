/-
  with: the match with a place.
-/
import Derived.Test.YtlpibfonpfhakaaDoorPln
import Derived.Laws.Rows
namespace Go.Proofs.YtlpibfonpfhakaaDoor
open Go.RowKit Go.Shelf
set_option linter.unusedVariables false

theorem size63 : (Tryd.prog.info? 63).map (·.size) = some 3 := by kernel_rfl
/-- A result that lies in a block of three cells. -/
theorem ret63 {fn : Func} {p : Tmp} (h : fn.results = #[.cell p 63]) (tmps : Array Value) (w : World) (g : Nat) (t : TypeId) (cs : Array Value) (hp : tmps.getD p undef = .pointer (some ⟨g, 0, none⟩)) (hg : w.heap[g]? = some (.cells cs t (0, 0))) (h3 : cs.size = 3) :
    (results fn tmps).run Tryd.prog w = .ok (.agg cs) w :=
  results_cell_row h tmps w g t cs (0, 0) _ hp hg Tryd.underlying63 rfl (by rw [h3]; exact size63)

theorem put3 {W : World} {g t : Nat} {a0 a1 a2 : Value} (hz : W.heap[g]? = some (.cells #[a0, a1, a2] t (0, 0))) (v0 v1 v2 : Value) :
    (((W.setCell ⟨g, 0, none⟩ v0).setCell ⟨g, 1, none⟩ v1).setCell ⟨g, 2, none⟩ v2).heap[g]? = some (.cells #[v0, v1, v2] t (0, 0)) := by
  rw [set_obj (set_obj (set_obj hz 0 v0) 1 v1) 2 v2]; rfl
theorem keep3 {w W : World} {g : Nat} (h : Keep noBlock w W) (hg : w.heap.size ≤ g) (v0 v1 v2 : Value) : Keep noBlock w (((W.setCell ⟨g, 0, none⟩ v0).setCell ⟨g, 1, none⟩ v1).setCell ⟨g, 2, none⟩ v2) :=
  ((h.setCell (p := ⟨g, 0, none⟩) (fun hh => absurd hh (Nat.not_lt.2 hg)) v0).setCell (p := ⟨g, 1, none⟩) (fun hh => absurd hh (Nat.not_lt.2 hg)) v1).setCell (p := ⟨g, 2, none⟩) (fun hh => absurd hh (Nat.not_lt.2 hg)) v2

section
attribute [local go_sem] sliceSem_eq
set_option maxRecDepth 100000 in
set_option maxHeartbeats 2000000 in
theorem with_any (c : Cf) (p told vain p1 p2 q s : Nat) (w : World) (h : IsS w c p told vain p1 p2) (hp : p ≤ c.bs.length) (hq : q < p) (hw : p - q ≤ c.window) (hs : c.least ≤ s + 1) (hl : s < limN c p) :
    Calls Tryd.prog 42 #[.pointer (some ⟨c.sb, 0, none⟩), .int .i64 (q : Int), .int .i64 (s : Int)] w fun e w' => (∃ a m b : Nat, e = .returned (.agg #[.int .i64 (a : Int), .int .i64 (m : Int), .int .i64 (b : Int)]) ∧
      ((a = 0 ∧ m = 0 ∧ b = 0) ∨ (a = p ∧ s < m ∧ OkM c a m b)) ∧ (q + 1 = p → (∀ i, i < limN c p → byteN c.bs (q + i) = byteN c.bs (p + i)) → m = limN c p)) ∧ Keep noBlock w w' := by
  have hlim := limN_le c p hp
  have hn := h.ok.n
  have hm2 := h.ok.m2
  have hl2 := h.ok.l2
  have hlm : limN c p ≤ c.most := by unfold limN; omega
  obtain ⟨W0, hW0⟩ : ∃ W0, W0 = w.alloc (.cells #[.int .i64 0, .int .i64 0, .int .i64 0] 63) := ⟨_, rfl⟩
  have k0 : Keep noBlock w W0 := by rw [hW0]; exact (Keep.refl _ w).alloc _
  have h0 := h.still k0
  have c0 : W0.cell? ⟨c.sb, 0, none⟩ = some (.slice (some ⟨c.gb, c.off, none⟩) c.bs.length c.cap) := cell_of h0.obj 0
  have c5 : W0.cell? ⟨c.sb, 5, none⟩ = some (.int .i64 (p : Int)) := cell_of h0.obj 5
  obtain ⟨x, hx⟩ : ∃ x, x = byteN c.bs (q + s) := ⟨_, rfl⟩
  obtain ⟨y, hy⟩ : ∃ y, y = byteN c.bs (p + s) := ⟨_, rfl⟩
  obtain ⟨qs, hqs⟩ : ∃ qs, qs = q + s := ⟨_, rfl⟩
  obtain ⟨ps, hps⟩ : ∃ ps, ps = p + s := ⟨_, rfl⟩
  have hadd1 : (q : Int) + (s : Int) = (qs : Int) := by omega
  have hadd2 : (p : Int) + (s : Int) = (ps : Int) := by omega
  have e1 : W0.cell? ⟨c.gb, c.off + qs, none⟩ = some (.int .u8 (x : Int)) := by rw [hx, ← hqs]; exact h0.text.cells qs (by omega)
  have e2 : W0.cell? ⟨c.gb, c.off + ps, none⟩ = some (.int .u8 (y : Int)) := by rw [hy, ← hps]; exact h0.text.cells ps (by omega)
  have hqI : (qs : Int) < (c.bs.length : Int) := by omega
  have hpI : (ps : Int) < (c.bs.length : Int) := by omega
  have z0 : W0.heap[w.heap.size]? = some (.cells #[.int .i64 0, .int .i64 0, .int .i64 0] 63 (0, 0)) := by rw [hW0]; exact alloc_new w _
  have hgs : ∀ i, (⟨w.heap.size, i, none⟩ : Addr).block < w.heap.size → noBlock (⟨w.heap.size, i, none⟩ : Addr).block := fun i hi => absurd hi (Nat.lt_irrefl _)
  have z1 : W0.cell? ⟨w.heap.size, 0, none⟩ = some (.int .i64 0) := cell_of z0 0
  have z2 : W0.cell? ⟨w.heap.size, 1, none⟩ = some (.int .i64 0) := cell_of z0 1
  have z3 : W0.cell? ⟨w.heap.size, 2, none⟩ = some (.int .i64 0) := cell_of z0 2
  have y1 := frozen_of z0 0
  have y2 := frozen_of z0 1
  have y3 := frozen_of z0 2
  have HZ := (show Hid (Keep noBlock w W0 ∧ W0.heap[w.heap.size]? = some (.cells #[.int .i64 0, .int .i64 0, .int .i64 0] 63 (0, 0))) from ⟨k0, z0⟩)
  have HS := (show Hid (IsS W0 c p told vain p1 p2) from h0)
  by_cases hxy : x = y
  · have hne : ((x : Int) != (y : Int)) = false := by simp [hxy]
    obtain ⟨l, hle⟩ : ∃ l, l = limN c p := ⟨_, rfl⟩
    have HL := (show Hid (∀ m, Calls Tryd.prog 38 #[.pointer (some ⟨c.sb, 0, none⟩)] (W0.drewN m) fun e w' => e = .returned (.int .i64 (l : Int)) ∧ ∃ k, w' = (W0.drewN m).drewN k) from fun m => by rw [hle]; exact limit_any c p told vain p1 p2 _ (h0.drewN m) hp)
    rw [← hle] at hl hlim hlm ⊢
    obtain ⟨n, hnl⟩ := some_like c.bs q p l
    have hcap := h0.text.cap
    obtain ⟨ql, hql⟩ : ∃ ql, ql = q + l := ⟨_, rfl⟩
    obtain ⟨pl, hpl⟩ : ∃ pl, pl = p + l := ⟨_, rfl⟩
    have hadd3 : (q : Int) + (l : Int) = (ql : Int) := by omega
    have hadd4 : (p : Int) + (l : Int) = (pl : Int) := by omega
    have hsl1 := run_mid c.gb c.off c.bs.length c.cap q ql (by omega) (by omega)
    have hsl2 := run_mid c.gb c.off c.bs.length c.cap p pl (by omega) (by omega)
    rw [show ql - q = l from by omega] at hsl1
    rw [show pl - p = l from by omega] at hsl2
    have HA := (show Hid (∀ j m, Calls Tryd.prog 45 #[.slice (some ⟨c.gb, c.off + q, none⟩) l (c.cap - q), .slice (some ⟨c.gb, c.off + p, none⟩) l (c.cap - p)] ((W0.drewN j).drewN m) fun e w' => e = .returned (.int .i64 (n : Int)) ∧ w' = (W0.drewN j).drewN m) from
      fun j m => alike_is c.gb c.off c.cap (c.cap - q) (c.cap - p) q p l n c.bs _ ((h0.drewN j).drewN m).text (by omega) (by omega) hnl)
    have hnle := hnl.1
    have hql2 : IntKind.i64.wrap (ql : Int) = (ql : Int) := by rw [IntKind.wrap_i64]; omega
    have hpl2 : IntKind.i64.wrap (pl : Int) = (pl : Int) := by rw [IntKind.wrap_i64]; omega
    obtain ⟨bk, hbk⟩ : ∃ bk, bk = p - q := ⟨_, rfl⟩
    have hsub : (p : Int) - (q : Int) = (bk : Int) := by omega
    have HD := dear_any n bk
    have HO := (show Hid (s < n → OkM c p n bk) from fun hsn => ⟨by omega, by omega, by omega, by omega, by omega, by omega, fun i hi => by rw [show p - bk = q from by omega]; exact (hnl.2.1 i hi).symm⟩)
    have HF := (show Hid (q + 1 = p → (∀ i, i < l → byteN c.bs (q + i) = byteN c.bs (p + i)) → n = l ∧ bk = 1) from fun q1 q2 => by
      refine ⟨?_, by omega⟩
      by_cases e : n < l
      · exact absurd (q2 n e) (hnl.2.2 e)
      · omega)
    have HB := (show Hid (bk < 65536 ∧ n < 1000000 ∧ s < l ∧ 2 ≤ s + 1) from ⟨by omega, by omega, hl, by omega⟩)
    clear h h0 k0 z0 hx hy hqs hps hlim hlm hxy hl hle hql hpl hcap hbk hnl
    obtain ⟨g, hg⟩ : ∃ g, g = w.heap.size := ⟨_, rfl⟩
    have HG := (show Hid (w.heap.size ≤ g) from Nat.le_of_eq hg.symm)
    rw [← hg] at z1 z2 z3 y1 y2 y3 HZ
    generalize c.bs.length = nn at *
    generalize c.cap - q = cq at *
    generalize c.cap - p = cp at *
    go_enter Tryd.func42, Tryd.ntmps42
    go_wp2_with fail
    rw [← hW0, ← hg]
    clear hW0 hg
    go_quiet (fail)
    go_wp2_with fail
    refine (HL.out nq).mono ?_
    rintro e W1 ⟨rfl, k1, rfl⟩
    clear HL
    rw [World.drewN_drewN]
    generalize nq + k1 = j
    obtain ⟨W1, hW1⟩ : ∃ W1, W1 = W0.drewN j := ⟨_, rfl⟩
    have d0 : W1.cell? ⟨c.sb, 0, none⟩ = some (.slice (some ⟨c.gb, c.off, none⟩) nn c.cap) := by rw [hW1]; exact c0
    have d5 : W1.cell? ⟨c.sb, 5, none⟩ = some (.int .i64 (p : Int)) := by rw [hW1]; exact c5
    have u1 : W1.cell? ⟨g, 0, none⟩ = some (.int .i64 0) := by rw [hW1]; exact z1
    have u2 : W1.cell? ⟨g, 1, none⟩ = some (.int .i64 0) := by rw [hW1]; exact z2
    have u3 : W1.cell? ⟨g, 2, none⟩ = some (.int .i64 0) := by rw [hW1]; exact z3
    have t1 : W1.frozen? ⟨g, 0, none⟩ = false := by rw [hW1]; exact y1
    have t2 : W1.frozen? ⟨g, 1, none⟩ = false := by rw [hW1]; exact y2
    have t3 : W1.frozen? ⟨g, 2, none⟩ = false := by rw [hW1]; exact y3
    have HZ1 := (show Hid (Keep noBlock w W1 ∧ W1.heap[g]? = some (.cells #[.int .i64 0, .int .i64 0, .int .i64 0] 63 (0, 0))) from by rw [hW1]; exact ⟨HZ.out.1.trans' (keep_drewN W0 j), HZ.out.2⟩)
    have HA1 := (show Hid (∀ m, Calls Tryd.prog 45 #[.slice (some ⟨c.gb, c.off + q, none⟩) l cq, .slice (some ⟨c.gb, c.off + p, none⟩) l cp] (W1.drewN m) fun e w' => e = .returned (.int .i64 (n : Int)) ∧ w' = W1.drewN m) from by rw [hW1]; exact HA.out j)
    rw [← hW1]
    clear HA HZ c0 c5 z1 z2 z3 y1 y2 y3 e1 e2 hW1 HS
    go_wp2_with fail
    go_quiet (first | (go_at_call 45; refine Calls.quiet_of_same (HA1.out _)))
    by_cases hns : n ≤ s
    · have hnI : (n : Int) ≤ (s : Int) := by omega
      go_wp2_with fail
      refine bodyPost_ret (ret63 rfl _ _ g 63 _ rfl (put3 (W := W1.drewN nq) HZ1.out.2 _ _ _) rfl) rfl ?_
      exact ⟨⟨0, 0, 0, rfl, .inl ⟨rfl, rfl, rfl⟩, fun q1 q2 => absurd (HF.out q1 q2).1 (by have := HB.out; omega)⟩, keep3 (W := W1.drewN nq) (HZ1.out.1.trans' (keep_drewN W1 nq)) HG.out _ _ _⟩
    · have hnI : ¬ (n : Int) ≤ (s : Int) := by omega
      have HD1 := (show Hid (∀ W, Calls Tryd.prog 46 #[.int .i64 (n : Int), .int .i64 (bk : Int)] W fun e w' => (∃ d : Bool, e = .returned (.bool d) ∧ (bk = 1 → 2 ≤ n → d = false)) ∧ w' = W) from fun W => HD W HB.out.2.1 HB.out.1)
      clear HD
      go_wp2_with fail
      refine (HD1.out _).mono ?_
      rintro e W2 ⟨⟨d, rfl, hd⟩, rfl⟩
      cases d with
      | true =>
        have HD2 := (show Hid (bk = 1 → 2 ≤ n → False) from fun q1 q2 => absurd (hd q1 q2) (by decide))
        clear hd HD1
        go_wp2_with fail
        refine bodyPost_ret (ret63 rfl _ _ g 63 _ rfl (put3 (W := W1.drewN nq) HZ1.out.2 _ _ _) rfl) rfl ?_
        exact ⟨⟨0, 0, 0, rfl, .inl ⟨rfl, rfl, rfl⟩, fun q1 q2 => (HD2.out (HF.out q1 q2).2 (by have := HB.out; omega)).elim⟩, keep3 (W := W1.drewN nq) (HZ1.out.1.trans' (keep_drewN W1 nq)) HG.out _ _ _⟩
      | false =>
        clear hd HD1
        go_wp2_with fail
        go_region
        go_wp2_with fail
        refine bodyPost_ret (ret63 rfl _ _ g 63 _ rfl (put3 (W := W1.drewN (nq + 1)) HZ1.out.2 _ _ _) rfl) rfl ?_
        exact ⟨⟨p, n, bk, rfl, .inr ⟨rfl, by omega, HO.out (by omega)⟩, fun q1 q2 => (HF.out q1 q2).1⟩, keep3 (W := W1.drewN (nq + 1)) (HZ1.out.1.trans' (keep_drewN W1 (nq + 1))) HG.out _ _ _⟩
  · have hne : ((x : Int) != (y : Int)) = true := by rw [bne_iff_ne]; omega
    have HN := (show Hid (q + 1 = p → (∀ i, i < limN c p → byteN c.bs (q + i) = byteN c.bs (p + i)) → 0 = limN c p) from fun _ hh => absurd (hh s hl) (by rw [← hx, ← hy]; exact hxy))
    clear h h0 k0 z0 hx hy hqs hps hlim hlm hxy hl
    generalize c.bs.length = n at *
    obtain ⟨g, hg⟩ : ∃ g, g = w.heap.size := ⟨_, rfl⟩
    have HG := (show Hid (w.heap.size ≤ g) from Nat.le_of_eq hg.symm)
    rw [← hg] at z1 z2 z3 y1 y2 y3 HZ
    go_enter Tryd.func42, Tryd.ntmps42
    go_wp2_with fail
    rw [← hW0, ← hg]
    clear hW0 hg
    go_quiet (fail)
    go_wp2_with fail
    refine bodyPost_ret (ret63 rfl _ _ g 63 _ rfl (put3 (W := W0.drewN nq) HZ.out.2 _ _ _) rfl) rfl ?_
    exact ⟨⟨0, 0, 0, rfl, .inl ⟨rfl, rfl, rfl⟩, HN.out⟩, keep3 (W := W0.drewN nq) (HZ.out.1.trans' (keep_drewN W0 nq)) HG.out _ _ _⟩
end
end Go.Proofs.YtlpibfonpfhakaaDoor
