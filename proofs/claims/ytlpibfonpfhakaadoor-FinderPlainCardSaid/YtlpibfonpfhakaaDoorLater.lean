/-
  The closure that looks one ahead.
-/
import Derived.Test.YtlpibfonpfhakaaDoorWithin
namespace Go.Proofs.YtlpibfonpfhakaaDoor
open Go.RowKit Go.Shelf
set_option linter.unusedVariables false

set_option maxRecDepth 100000 in
set_option maxHeartbeats 1000000 in
theorem later_any (c : Cf) (p told vain gs gm a m b : Nat) (w : World) (h : IsS w c p told vain p p) (hp : p < c.bs.length) (hv : vain < 1000000) (hgs : w.heap[gs]? = some (.cells #[.pointer (some ⟨c.sb, 0, none⟩)] 44 (0, 0)))
    (hgm : w.heap[gm]? = some (.cells (trio a m b) 63 (0, 0))) (hs : ¬ mine c gs) (hm : ¬ mine c gm) (hg : gm ≠ c.gb) (hne : gs ≠ gm) :
    Calls Tryd.prog 30 #[.pointer (some ⟨gs, 0, none⟩), .pointer (some ⟨gm, 0, none⟩)] w fun e w' => (∃ (d : Bool) (a' m' b' : Nat), e = .returned (.bool d) ∧ IsS w' c (p + 1) told vain (p + 1) (p + 1) ∧ w'.heap[gm]? = some (.cells (trio a' m' b') 63 (0, 0)) ∧
      (d = true → a' = p + 1 ∧ m < m' ∧ OkM c a' m' b') ∧ (d = false → a' = a ∧ m' = m ∧ b' = b)) ∧ Keep (fun k => mine c k ∨ k = gm) w w' := by
  have hn := h.ok.n
  have c5 : w.cell? ⟨c.sb, 5, none⟩ = some (.int .i64 (p : Int)) := cell_of h.obj 5
  have s0 : w.cell? ⟨gs, 0, none⟩ = some (.pointer (some ⟨c.sb, 0, none⟩)) := cell_of hgs 0
  obtain ⟨q, hq⟩ : ∃ q, q = p + 1 := ⟨_, rfl⟩
  have hadd : (p : Int) + 1 = (q : Int) := by omega
  have hqw : IntKind.i64.wrap (q : Int) = (q : Int) := by rw [IntKind.wrap_i64]; omega
  have HSK := (show Hid (∀ W, Keep noBlock w W → Calls Tryd.prog 22 #[.pointer (some ⟨c.sb, 0, none⟩), .int .i64 (q : Int)] W fun e w' => e = .returned (.tuple #[]) ∧ IsS w' c q told vain q q ∧ Keep (mine c) w w' ∧ w'.heap[gs]? = some (.cells #[.pointer (some ⟨c.sb, 0, none⟩)] 44 (0, 0)) ∧ w'.heap[gm]? = some (.cells (trio a m b) 63 (0, 0))) from fun W kW => by
    refine (skip_any c p told vain q W (h.still kW) (by omega) (by omega)).mono ?_
    rintro e w' ⟨rfl, s, k⟩
    rw [show max p q = q from by omega] at s
    have kk : Keep (mine c) w w' := (kW.mono (fun _ _ h => h.elim)).trans' k
    exact ⟨rfl, s, kk, kk.obj hgs hs, kk.obj hgm hm⟩)
  have HH := (show Hid (∀ W, IsS W c q told vain q q → _) from fun W hS => here_any c q told vain W hS (by omega) hv)
  have HN := (show Hid (¬ mine c gm ∧ gm ≠ c.gb ∧ gs ≠ gm ∧ gm < w.heap.size) from ⟨hm, hg, hne, obj_lt hgm⟩)
  rw [← hq]
  clear h hgs hgm hs hm hg hne hq
  go_enter Tryd.func30, Tryd.ntmps30
  go_wp2_with fail
  go_region_with (first | (go_at_call 22; refine (HSK.out w.drew (Keep.refl _ _).drew).mono ?_; rintro e W1 ⟨rfl, s1, k1, x1, y1⟩; have t0 : W1.cell? ⟨gs, 0, none⟩ = some (.pointer (some ⟨c.sb, 0, none⟩)) := cell_of x1 0))
  all_goals
    have H1 := (show Hid (IsS W1 c q told vain q q ∧ Keep (mine c) w W1 ∧ W1.heap[gm]? = some (.cells (trio a m b) 63 (0, 0))) from ⟨s1, k1, y1⟩)
    clear HSK c5 s0 s1 k1 x1 y1
    go_wp2_with fail
    refine (HH.out W1 H1.out.1).mono ?_
    rintro e W2 ⟨⟨a2, m2, b2, rfl, hab, -⟩, k2⟩
    have H2 := (show Hid (IsS W2 c q told vain q q ∧ Keep (mine c) w W2 ∧ W2.heap[gm]? = some (.cells (trio a m b) 63 (0, 0))) from ⟨H1.out.1.still k2, H1.out.2.1.trans k2 (fun _ _ h => h.elim), k2.obj H1.out.2.2 (fun h => h)⟩)
    clear HH H1 k2 t0
    have u0 : W2.cell? ⟨gm, 0, none⟩ = some (.int .i64 (a : Int)) := cell_of H2.out.2.2 0
    have u1 : W2.cell? ⟨gm, 1, none⟩ = some (.int .i64 (m : Int)) := cell_of H2.out.2.2 1
    have u2 : W2.cell? ⟨gm, 2, none⟩ = some (.int .i64 (b : Int)) := cell_of H2.out.2.2 2
    have f0 := frozen_of H2.out.2.2 0
    have f1 := frozen_of H2.out.2.2 1
    have f2 := frozen_of H2.out.2.2 2
    have hnx : gm ≠ W2.heap.size := Nat.ne_of_lt (obj_lt H2.out.2.2)
    have hnx' := hnx.symm
    have k3 : Keep noBlock W2 (W2.alloc (.cells (trio a2 m2 b2) 63)) := (Keep.refl _ W2).alloc _
    have H3 := (show Hid (IsS (W2.alloc (.cells (trio a2 m2 b2) 63)) c q told vain q q ∧ Keep (mine c) w (W2.alloc (.cells (trio a2 m2 b2) 63)) ∧ (W2.alloc (.cells (trio a2 m2 b2) 63)).heap[gm]? = some (.cells (trio a m b) 63 (0, 0))) from ⟨H2.out.1.still k3, H2.out.2.1.trans k3 (fun _ _ h => h.elim), k3.obj H2.out.2.2 (fun h => h)⟩)
    have U0 : (W2.alloc (.cells (trio a2 m2 b2) 63)).cell? ⟨gm, 0, none⟩ = some (.int .i64 (a : Int)) := cell_of H3.out.2.2 0
    have U1 : (W2.alloc (.cells (trio a2 m2 b2) 63)).cell? ⟨gm, 1, none⟩ = some (.int .i64 (m : Int)) := cell_of H3.out.2.2 1
    have U2 : (W2.alloc (.cells (trio a2 m2 b2) 63)).cell? ⟨gm, 2, none⟩ = some (.int .i64 (b : Int)) := cell_of H3.out.2.2 2
    have F0 := frozen_of H3.out.2.2 0
    have F1 := frozen_of H3.out.2.2 1
    have F2 := frozen_of H3.out.2.2 2
    clear H2 k3
    by_cases hle : m2 ≤ m
    · have hleI : (m2 : Int) ≤ (m : Int) := by omega
      clear hab
      go_wp2_with fail
      go_ret
      exact ⟨⟨false, a, m, b, rfl, H3.out.1, H3.out.2.2, fun e => absurd e (by decide), fun _ => ⟨rfl, rfl, rfl⟩⟩, H3.out.2.1.mono (fun _ _ e => .inl e)⟩
    · have hleI : ¬ (m2 : Int) ≤ (m : Int) := by omega
      have HAB := (show Hid (a2 = q ∧ m < m2 ∧ OkM c a2 m2 b2) from by
        rcases hab with ⟨e1, e2, e3⟩ | ⟨e1, e2⟩
        · omega
        · exact ⟨e1, by omega, e2⟩)
      clear hab
      go_wp2_with fail
      go_ret
      refine ⟨⟨true, a2, m2, b2, rfl, ?_, put3 H3.out.2.2 _ _ _, fun _ => HAB.out, fun e => absurd e (by decide)⟩, ?_⟩
      · exact H3.out.1.keep (keep_put _ gm _ _ _) (fun e => HN.out.1 (.inl e.symm)) (fun e => HN.out.1 (.inr (.inl e.symm))) (fun e => HN.out.1 (.inr (.inr (.inl e.symm)))) (fun e => HN.out.1 (.inr (.inr (.inr e.symm)))) (fun e => HN.out.2.1 e.symm)
      · exact (H3.out.2.1.mono (T := fun k => mine c k ∨ k = gm) (fun _ _ e => .inl e)).trans (keep_put _ gm _ _ _) (fun _ _ e => .inr e)
end Go.Proofs.YtlpibfonpfhakaaDoor
