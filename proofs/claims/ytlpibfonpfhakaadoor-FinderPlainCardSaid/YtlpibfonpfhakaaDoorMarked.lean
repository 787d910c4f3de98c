/-
  marked: the match that a mark tells of.
-/
import Derived.Test.YtlpibfonpfhakaaDoorWith
import Derived.Test.YtlpibfonpfhakaaDoorRdD
namespace Go.Proofs.YtlpibfonpfhakaaDoor
open Go.RowKit Go.Shelf
set_option linter.unusedVariables false

set_option maxRecDepth 100000 in
set_option maxHeartbeats 2000000 in
theorem marked_any (c : Cf) (p told vain : Nat) (w : World) (h : IsS w c p told vain p p) (hp : p ≤ c.bs.length) :
    Calls Tryd.prog 37 #[.pointer (some ⟨c.sb, 0, none⟩)] w fun e w' => (∃ a m b : Nat, e = .returned (.agg #[.int .i64 (a : Int), .int .i64 (m : Int), .int .i64 (b : Int)]) ∧
      ((a = 0 ∧ m = 0 ∧ b = 0) ∨ (a = p ∧ OkM c a m b))) ∧ Keep noBlock w w' := by
  have hn := h.ok.n
  have hl2 := h.ok.l2
  have hl3 := h.ok.l3
  have hm2 := h.ok.m2
  obtain ⟨g, hg⟩ : ∃ g, g = w.heap.size := ⟨_, rfl⟩
  obtain ⟨W0, hW0⟩ : ∃ W0, W0 = w.alloc (.cells #[.int .i64 0, .int .i64 0, .int .i64 0] 63) := ⟨_, rfl⟩
  have k0 : Keep noBlock w W0 := by rw [hW0]; exact (Keep.refl _ w).alloc _
  have h0 := h.still k0
  have z0 : W0.heap[g]? = some (.cells #[.int .i64 0, .int .i64 0, .int .i64 0] 63 (0, 0)) := by rw [hW0, hg]; exact alloc_new w _
  have HP := place_any c p told vain p p W0 h0 hp
  have HS := (show Hid (IsS W0 c p told vain p p ∧ Keep noBlock w W0 ∧ W0.heap[g]? = some (.cells #[.int .i64 0, .int .i64 0, .int .i64 0] 63 (0, 0)) ∧ w.heap.size ≤ g) from ⟨h0, k0, z0, Nat.le_of_eq hg.symm⟩)
  have HW := (show Hid (2 ≤ c.least ∧ c.least ≤ c.most ∧ c.least ≤ c.far) from ⟨hl2, hl3, by unfold Cf.far; omega⟩)
  clear h h0 k0 z0
  go_enter Tryd.func37, Tryd.ntmps37
  go_wp2_with fail
  rw [← hW0, ← hg]
  clear hW0 hg
  refine HP.mono ?_
  rintro e W1 ⟨⟨v, rfl, hv, hv1⟩, k1, rfl⟩
  clear HP
  have S1 := HS.out.1.drewN k1
  by_cases h0 : v = 0
  · subst h0
    have HR := reaches_neg c p told vain p p (((0 : Nat) : Int) - 1) (W0.drewN k1) S1 (by omega)
    have kk := HS.out.2.1.trans' (keep_drewN W0 k1)
    have z1 : (W0.drewN k1).heap[g]? = some (.cells #[.int .i64 0, .int .i64 0, .int .i64 0] 63 (0, 0)) := HS.out.2.2.1
    generalize W0.drewN k1 = W1 at *
    go_wp2_with fail
    refine HR.mono ?_
    rintro e W2 ⟨rfl, k2, rfl⟩
    clear HR
    have HK := (show Hid (Keep noBlock w (W1.drewN k2) ∧ (W1.drewN k2).heap[g]? = some (.cells #[.int .i64 0, .int .i64 0, .int .i64 0] 63 (0, 0))) from ⟨kk.trans' (keep_drewN W1 k2), z1⟩)
    clear kk z1 S1
    generalize W1.drewN k2 = W2 at *
    have u1 : W2.cell? ⟨g, 0, none⟩ = some (.int .i64 0) := cell_of HK.out.2 0
    have u2 : W2.cell? ⟨g, 1, none⟩ = some (.int .i64 0) := cell_of HK.out.2 1
    have u3 : W2.cell? ⟨g, 2, none⟩ = some (.int .i64 0) := cell_of HK.out.2 2
    have t1 := frozen_of HK.out.2 0
    have t2 := frozen_of HK.out.2 1
    have t3 := frozen_of HK.out.2 2
    go_wp2_with fail
    refine bodyPost_ret (ret63 rfl _ _ g 63 _ rfl (put3 HK.out.2 _ _ _) rfl) rfl ?_
    exact ⟨⟨0, 0, 0, rfl, .inl ⟨rfl, rfl, rfl⟩⟩, keep3 HK.out.1 HS.out.2.2.2 _ _ _⟩
  · obtain ⟨q, rfl⟩ : ∃ q, v = q + 1 := ⟨v - 1, by omega⟩
    have hv2 := hv1 (by omega)
    have e : (((q + 1 : Nat) : Int) - 1) = (q : Int) := by omega
    rw [e]
    have HR := reaches_pos c p told vain p p q (W0.drewN k1) S1 (by omega) (by omega)
    have kk := HS.out.2.1.trans' (keep_drewN W0 k1)
    have z1 : (W0.drewN k1).heap[g]? = some (.cells #[.int .i64 0, .int .i64 0, .int .i64 0] 63 (0, 0)) := HS.out.2.2.1
    have HQ := (show Hid (q < p ∧ p + c.far ≤ c.bs.length) from ⟨by omega, hv2⟩)
    have HG := (show Hid (w.heap.size ≤ g) from HS.out.2.2.2)
    clear HS
    generalize W0.drewN k1 = W1 at *
    clear hv hv1 hv2 e h0
    by_cases hr : p - q ≤ c.window
    · rw [decide_eq_true hr] at HR
      go_wp2_with fail
      refine HR.mono ?_
      rintro e W2 ⟨rfl, k2, rfl⟩
      clear HR
      have HK := (show Hid (Keep noBlock w (W1.drewN k2) ∧ (W1.drewN k2).heap[g]? = some (.cells #[.int .i64 0, .int .i64 0, .int .i64 0] 63 (0, 0))) from ⟨kk.trans' (keep_drewN W1 k2), z1⟩)
      have S2 := S1.drewN k2
      generalize W1.drewN k2 = W2 at *
      obtain ⟨l1, hl1⟩ : ∃ l1, l1 = c.least - 1 := ⟨_, rfl⟩
      have hsub : (c.least : Int) - 1 = (l1 : Int) := by omega
      have c3 : W2.cell? ⟨c.sb, 3, none⟩ = some (.int .i64 (c.least : Int)) := cell_of S2.obj 3
      have HWI := with_any c p told vain p p q l1 W2 S2 hp HQ.out.1 hr (by omega) (by have := HW.out; have := HQ.out; unfold limN; omega)
      clear kk z1 S1 S2 hl1 hr
      go_wp2_with fail
      refine HWI.mono ?_
      rintro e W3 ⟨⟨a, m, b, rfl, hab, -⟩, k3⟩
      clear HWI
      have HK3 := (show Hid (Keep noBlock w W3 ∧ W3.heap[g]? = some (.cells #[.int .i64 0, .int .i64 0, .int .i64 0] 63 (0, 0))) from ⟨HK.out.1.trans' k3, k3.obj HK.out.2 (fun h => h)⟩)
      have HAB := (show Hid ((a = 0 ∧ m = 0 ∧ b = 0) ∨ (a = p ∧ OkM c a m b)) from hab.imp id (fun h => ⟨h.1, h.2.2⟩))
      clear hab k3 HK
      have u1 : W3.cell? ⟨g, 0, none⟩ = some (.int .i64 0) := cell_of HK3.out.2 0
      have u2 : W3.cell? ⟨g, 1, none⟩ = some (.int .i64 0) := cell_of HK3.out.2 1
      have u3 : W3.cell? ⟨g, 2, none⟩ = some (.int .i64 0) := cell_of HK3.out.2 2
      have t1 := frozen_of HK3.out.2 0
      have t2 := frozen_of HK3.out.2 1
      have t3 := frozen_of HK3.out.2 2
      go_wp2_with fail
      refine bodyPost_ret (ret63 rfl _ _ g 63 _ rfl (put3 HK3.out.2 _ _ _) rfl) rfl ?_
      exact ⟨⟨a, m, b, rfl, HAB.out⟩, keep3 HK3.out.1 HG.out _ _ _⟩
    · rw [decide_eq_false hr] at HR
      go_wp2_with fail
      refine HR.mono ?_
      rintro e W2 ⟨rfl, k2, rfl⟩
      clear HR
      have HK := (show Hid (Keep noBlock w (W1.drewN k2) ∧ (W1.drewN k2).heap[g]? = some (.cells #[.int .i64 0, .int .i64 0, .int .i64 0] 63 (0, 0))) from ⟨kk.trans' (keep_drewN W1 k2), z1⟩)
      clear kk z1 S1 hr
      generalize W1.drewN k2 = W2 at *
      have u1 : W2.cell? ⟨g, 0, none⟩ = some (.int .i64 0) := cell_of HK.out.2 0
      have u2 : W2.cell? ⟨g, 1, none⟩ = some (.int .i64 0) := cell_of HK.out.2 1
      have u3 : W2.cell? ⟨g, 2, none⟩ = some (.int .i64 0) := cell_of HK.out.2 2
      have t1 := frozen_of HK.out.2 0
      have t2 := frozen_of HK.out.2 1
      have t3 := frozen_of HK.out.2 2
      go_wp2_with fail
      refine bodyPost_ret (ret63 rfl _ _ g 63 _ rfl (put3 HK.out.2 _ _ _) rfl) rfl ?_
      exact ⟨⟨0, 0, 0, rfl, .inl ⟨rfl, rfl, rfl⟩⟩, keep3 HK.out.1 HG.out _ _ _⟩
end Go.Proofs.YtlpibfonpfhakaaDoor
