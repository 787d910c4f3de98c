/-
  step of the marks, and skip of a search.
-/
import Derived.Test.YtlpibfonpfhakaaDoorRdD
import Derived.Test.YtlpibfonpfhakaaDoorStp
namespace Go.Proofs.YtlpibfonpfhakaaDoor
open Go.RowKit Go.Shelf
set_option linter.unusedVariables false

set_option maxRecDepth 100000 in
set_option maxHeartbeats 4000000 in
theorem marks_step (c : Cf) (p told vain p1 p2 : Nat) (w : World) (h : IsS w c p told vain p1 p2) (hp : p2 ≤ c.bs.length) :
    Calls Tryd.prog 28 #[.pointer (some ⟨c.sb, 16, none⟩)] w fun e w' => e = .returned (.tuple #[]) ∧ IsS w' c p told vain p1 (p2 + 1) ∧ Keep (mine c) w w' := by
  have hn := h.ok.n
  have hm := h.ok.m2
  have hl3 := h.ok.l3
  have hf : c.far ≤ 65536 := by unfold Cf.far; omega
  have hf1 : 1 ≤ c.far := by unfold Cf.far; omega
  have HM := mark_any c p told vain p1 p2 w h hp
  have HOK := (show Hid (Ok c) from h.ok)
  have HRS := (show Hid (∀ W, W.heap[c.sb]? = some (.cells (srch c p told vain p1 p2) 60 (0, 0)) → Bytes W (some ⟨c.gb, c.off, none⟩) c.cap c.gb c.off c.bs → Calls Tryd.prog 35 #[.pointer (some ⟨c.sb, 16, none⟩)] W fun e w' => e = .returned (.tuple #[]) ∧ w'.heap[c.sb]? = some (.cells (srch c p told vain p1 (p2 + 1)) 60 (0, 0)) ∧ Keep (fun k => k = c.sb) W w') from
    fun W q1 q2 => by
      have := roll_step c.sb 16 c.gb c.off 60 (srch c p told vain p1 p2) _ c.cap p2 c.far c.bs W q1 q2 rfl rfl rfl rfl rfl (by omega) (by omega) (by omega) hn (fun e => h.ok.sg e.symm)
      rwa [srch_step2] at this)
  have HS := (show Hid (IsS w c p told vain p1 p2) from h)
  -- what lies behind the map's store, and the roll's step
  have HFIN := (show Hid (∀ W w', Keep (fun k => k = c.mb) w W → MapOK W c.mb (p2 + 1) → w'.heap[c.sb]? = some (.cells (srch c p told vain p1 (p2 + 1)) 60 (0, 0)) → Keep (fun k => k = c.sb) W w' → IsS w' c p told vain p1 (p2 + 1) ∧ Keep (mine c) w w') from fun W w' k1 m1 q1 k2 => by
    have kk : Keep (fun k => k = c.mb ∨ k = c.sb) w w' := (k1.mono (fun _ _ e => .inl e)).trans k2 (fun i _ e => .inr e)
    obtain ⟨hs, os, T⟩ := h.tabs
    exact ⟨⟨h.ok, q1, ⟨hs, os, T.keep kk (fun e => e.elim h.ok.hm (fun e => h.ok.sh e.symm)) (fun e => e.elim h.ok.om (fun e => h.ok.so e.symm))⟩, m1.keep k2 (fun e => h.ok.sm e.symm), h.text.keep kk (fun _ e => e.elim (fun e => h.ok.mg e.symm) (fun e => h.ok.sg e.symm))⟩,
      kk.mono (fun _ _ e => e.elim (fun e => .inr (.inr (.inr e))) .inl)⟩)
  obtain ⟨pp, hpp⟩ : ∃ pp, pp = p2 + 1 := ⟨_, rfl⟩
  have hadd : (p2 : Int) + 1 = (pp : Int) := by omega
  have hppl : pp < 1000000 := by omega
  rw [← hpp] at HRS HFIN ⊢
  have HPP := (show Hid (pp = p2 + 1) from hpp)
  clear h hpp
  go_enter Tryd.func28, Tryd.ntmps28
  go_wp2_with fail
  refine HM.mono ?_
  rintro e w1 ⟨⟨ky, d, rfl, hky, -⟩, k1, rfl⟩
  clear HM
  have kW1 := keep_drewN w k1
  have S1 := HS.out.drewN k1
  generalize w.drewN k1 = W1 at *
  cases d with
  | false =>
    have HC := HRS.out W1 S1.obj S1.text
    have HF := (show Hid (∀ w', w'.heap[c.sb]? = some (.cells (srch c p told vain p1 pp) 60 (0, 0)) → Keep (fun k => k = c.sb) W1 w' → IsS w' c p told vain p1 pp ∧ Keep (mine c) w w') from fun w' q1 k2 =>
      HFIN.out W1 w' (kW1.mono (fun _ _ h => h.elim)) (by
        obtain ⟨D, m1, m2, m3⟩ := S1.map
        exact ⟨D, m1.mono (by have := HPP.out; omega), m2, fun kl x hx => by have := m3 kl x hx; have := HPP.out; omega⟩) q1 k2)
    clear HRS HFIN S1 kW1 HS hky
    go_wp2_with fail
    refine HC.mono ?_
    rintro e w3 ⟨rfl, q1, q2⟩
    have HE := (show Hid (IsS w3 c p told vain p1 pp ∧ Keep (mine c) w w3) from HF.out w3 q1 q2)
    clear HC HF q1 q2
    go_wp2_with fail
    go_end0
    exact ⟨rfl, HE.out.1, HE.out.2⟩
  | true =>
    have c17 : W1.cell? ⟨c.sb, 17, none⟩ = some (.int .i64 (p2 : Int)) := cell_of S1.obj 17
    have c21 : W1.cell? ⟨c.sb, 21, none⟩ = some (.map (some c.mb)) := cell_of S1.obj 21
    obtain ⟨W2, hrun, m2, k2⟩ := (S1.still ((Keep.refl noBlock W1).drew)).map.store (by omega) ky hky
    rw [← HPP.out] at hrun m2
    have kk : Keep (fun k => k = c.mb) w W2 := ((kW1.drew).mono (T := fun k => k = c.mb) (fun _ _ h => h.elim)).trans' k2
    have HC := HRS.out W2 (k2.obj S1.obj HOK.out.sm) (S1.text.keep ((Keep.refl (fun k => k = c.mb) W1).drew.trans' k2) (fun _ e => HOK.out.mg e.symm))
    have HF := (show Hid (∀ w', w'.heap[c.sb]? = some (.cells (srch c p told vain p1 pp) 60 (0, 0)) → Keep (fun k => k = c.sb) W2 w' → IsS w' c p told vain p1 pp ∧ Keep (mine c) w w') from fun w' q1 q2 =>
      HFIN.out W2 w' kk m2 q1 q2)
    clear HRS HFIN S1 kW1 HS hky m2 k2 kk
    go_wp2_with fail
    go_region
    go_wp2_with fail
    refine HC.mono ?_
    rintro e w3 ⟨rfl, q1, q2⟩
    have HE := (show Hid (IsS w3 c p told vain p1 pp ∧ Keep (mine c) w w3) from HF.out w3 q1 q2)
    clear HC HF q1 q2
    go_wp2_with fail
    go_end0
    exact ⟨rfl, HE.out.1, HE.out.2⟩

/-- The number at an address. -/
def numAt (w : World) (a : Addr) : Nat := match w.cell? a with
  | some v => (intOf v).toNat
  | none => 0
theorem numAt_of {w : World} {a : Addr} {n : Nat} (h : w.cell? a = some (.int .i64 (n : Int))) : numAt w a = n := by
  unfold numAt; rw [h]; simp [intOf]

theorem srch_at (c : Cf) (p told vain p1 p2 q : Nat) : (srch c p told vain p1 p2).setIfInBounds 5 (.int .i64 (q : Int)) = srch c q told vain p1 p2 := rfl
theorem IsS.setAt {w : World} {c : Cf} {p told vain p1 p2 : Nat} (h : IsS w c p told vain p1 p2) (q : Nat) : IsS (w.setCell ⟨c.sb, 5, none⟩ (.int .i64 (q : Int))) c q told vain p1 p2 ∧ Keep (mine c) w (w.setCell ⟨c.sb, 5, none⟩ (.int .i64 (q : Int))) := by
  have k : Keep (fun k => k = c.sb) w (w.setCell ⟨c.sb, 5, none⟩ (.int .i64 (q : Int))) := (Keep.refl (fun k => k = c.sb) w).setCell (p := ⟨c.sb, 5, none⟩) (fun _ => rfl) _
  obtain ⟨hs, os, T⟩ := h.tabs
  exact ⟨⟨h.ok, (set_obj h.obj 5 _).trans (by rw [srch_at]), ⟨hs, os, T.keep k (fun e => h.ok.sh e.symm) (fun e => h.ok.so e.symm)⟩, h.map.keep k (fun e => h.ok.sm e.symm), h.text.keep k (fun _ e => h.ok.sg e.symm)⟩, k.mono (fun _ _ e => .inl e)⟩

set_option maxRecDepth 100000 in
set_option maxHeartbeats 4000000 in
theorem skip_any (c : Cf) (p told vain to_ : Nat) (w : World) (h : IsS w c p told vain p p) (hp : p ≤ c.bs.length) (ht : to_ ≤ c.bs.length) :
    Calls Tryd.prog 22 #[.pointer (some ⟨c.sb, 0, none⟩), .int .i64 (to_ : Int)] w fun e w' => e = .returned (.tuple #[]) ∧ IsS w' c (max p to_) told vain (max p to_) (max p to_) ∧ Keep (mine c) w w' := by
  have hn := h.ok.n
  have HS := (show Hid (IsS w c p told vain p p) from h)
  clear h
  go_enter Tryd.func22, Tryd.ntmps22
  go_wp2_with fail
  go_loopw [4] (fun _ wr => ∃ q : Nat, p ≤ q ∧ q ≤ max p to_ ∧ Hid (IsS wr c q told vain q q ∧ Keep (mine c) w wr)) (fun _ wr => to_ - numAt wr ⟨c.sb, 5, none⟩)
  case atStart => exact ⟨p, Nat.le_refl _, by omega, HS.out, Keep.refl _ _⟩
  case round =>
    clear HS
    obtain ⟨q, hq1, hq2, HC⟩ := hrel
    have c5 : wr.cell? ⟨c.sb, 5, none⟩ = some (.int .i64 (q : Int)) := cell_of HC.out.1.obj 5
    by_cases hlt : q < to_
    · have hltI : (q : Int) < (to_ : Int) := by omega
      have HA := chains_step c q told vain q q wr HC.out.1 (by omega)
      have HN0 := (show Hid (numAt wr ⟨c.sb, 5, none⟩ = q) from numAt_of c5)
      go_wp2_with fail
      refine HA.mono ?_
      rintro e W1 ⟨rfl, s1, k1⟩
      have HC1 := (show Hid (Keep (mine c) w W1) from HC.out.2.trans' k1)
      have HA1 := marks_step c q told vain (q + 1) q W1 s1 (by omega)
      clear HA k1 HC c5
      go_wp2_with fail
      refine HA1.mono ?_
      rintro e W2 ⟨rfl, s2, k2⟩
      obtain ⟨q1, hq1e⟩ : ∃ q1, q1 = q + 1 := ⟨_, rfl⟩
      have hadd : (q : Int) + 1 = (q1 : Int) := by omega
      rw [← hq1e] at s2
      have c5 : W2.cell? ⟨c.sb, 5, none⟩ = some (.int .i64 (q : Int)) := cell_of s2.obj 5
      have f5 := frozen_of s2.obj 5
      obtain ⟨s3, k3⟩ := s2.setAt q1
      have HE := (show Hid (IsS (W2.setCell ⟨c.sb, 5, none⟩ (.int .i64 (q1 : Int))) c q1 told vain q1 q1 ∧ Keep (mine c) w (W2.setCell ⟨c.sb, 5, none⟩ (.int .i64 (q1 : Int))) ∧ numAt (W2.setCell ⟨c.sb, 5, none⟩ (.int .i64 (q1 : Int))) ⟨c.sb, 5, none⟩ = q1 ∧ q1 = q + 1) from ⟨s3, (HC1.out.trans' k2).trans' k3, numAt_of (cell_of s3.obj 5), hq1e⟩)
      clear HA1 s1 s2 s3 k2 k3 HC1 hq1e
      go_wp2_with fail
      generalize W2.setCell ⟨c.sb, 5, none⟩ (.int .i64 (q1 : Int)) = W3 at *
      go_roundw
      case rel => exact ⟨q1, by have := HE.out.2.2.2; omega, by have := HE.out.2.2.2; omega, HE.out.1, HE.out.2.1⟩
      case measure => have h1 := HE.out.2.2; have h2 := HN0.out; rw [h1.1, h2]; omega
    · have hltI : ¬ (q : Int) < (to_ : Int) := by omega
      have HE := (show Hid (IsS wr c (max p to_) told vain (max p to_) (max p to_) ∧ Keep (mine c) w wr) from by
        rw [show max p to_ = q from by omega]; exact HC.out)
      clear HC
      go_wp2_with fail
      go_end0
      exact ⟨rfl, HE.out.1, HE.out.2⟩
end Go.Proofs.YtlpibfonpfhakaaDoor
