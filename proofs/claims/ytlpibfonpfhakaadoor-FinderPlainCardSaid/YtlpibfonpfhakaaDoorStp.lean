/-
  step of the chains.
-/
import Derived.Test.YtlpibfonpfhakaaDoorRdB
namespace Go.Proofs.YtlpibfonpfhakaaDoor
open Go.RowKit Go.Shelf
set_option linter.unusedVariables false

theorem getD_set (xs : List Nat) (i j x : Nat) : (xs.set i x)[j]?.getD 0 = if i = j ∧ i < xs.length then x else xs[j]?.getD 0 := by
  rw [List.getElem?_set]
  by_cases h1 : i = j
  · subst h1
    by_cases h2 : i < xs.length <;> simp [h2]
  · simp [h1]

theorem srch_step1 (c : Cf) (p told vain p1 p2 : Nat) : ((srch c p told vain p1 p2).setIfInBounds (8 + 3) (.int .u64 ((sumN c.bs c.least (p1 + 1) : Nat) : Int))).setIfInBounds (8 + 1) (.int .i64 ((p1 + 1 : Nat) : Int)) = srch c p told vain (p1 + 1) p2 := rfl
theorem srch_step2 (c : Cf) (p told vain p1 p2 : Nat) : ((srch c p told vain p1 p2).setIfInBounds (16 + 3) (.int .u64 ((sumN c.bs c.far (p2 + 1) : Nat) : Int))).setIfInBounds (16 + 1) (.int .i64 ((p2 + 1 : Nat) : Int)) = srch c p told vain p1 (p2 + 1) := rfl

set_option maxRecDepth 100000 in
set_option maxHeartbeats 4000000 in
theorem chains_step (c : Cf) (p told vain p1 p2 : Nat) (w : World) (h : IsS w c p told vain p1 p2) (hp : p1 ≤ c.bs.length) :
    Calls Tryd.prog 27 #[.pointer (some ⟨c.sb, 8, none⟩)] w fun e w' => e = .returned (.tuple #[]) ∧ IsS w' c p told vain (p1 + 1) p2 ∧ Keep (mine c) w w' := by
  have hn := h.ok.n
  have hm := h.ok.m2
  have hl3 := h.ok.l3
  have hl2 := h.ok.l2
  have h1 := h.ok.h1
  have h2 := h.ok.h2
  have hr := h.ok.r2
  have c8 : w.cell? ⟨c.sb, 8, none⟩ = some (.slice (some ⟨c.gb, c.off, none⟩) c.bs.length c.cap) := cell_of h.obj 8
  have c9 : w.cell? ⟨c.sb, 9, none⟩ = some (.int .i64 (p1 : Int)) := cell_of h.obj 9
  have c10 : w.cell? ⟨c.sb, 10, none⟩ = some (.int .i64 (c.least : Int)) := cell_of h.obj 10
  have c11 : w.cell? ⟨c.sb, 11, none⟩ = some (.int .u64 ((sumN c.bs c.least p1 : Nat) : Int)) := cell_of h.obj 11
  have HK := key_any c.sb 8 (some ⟨c.gb, c.off, none⟩) c.bs.length c.cap p1 c.least (sumN c.bs c.least p1) w c8 c9 c10 c11 (by omega) (by omega)
  have HRS := (show Hid (∀ W, W.heap[c.sb]? = some (.cells (srch c p told vain p1 p2) 60 (0, 0)) → Bytes W (some ⟨c.gb, c.off, none⟩) c.cap c.gb c.off c.bs → Calls Tryd.prog 35 #[.pointer (some ⟨c.sb, 8, none⟩)] W fun e w' => e = .returned (.tuple #[]) ∧ w'.heap[c.sb]? = some (.cells (srch c p told vain (p1 + 1) p2) 60 (0, 0)) ∧ Keep (fun k => k = c.sb) W w') from
    fun W q1 q2 => by
      have := roll_step c.sb 8 c.gb c.off 60 (srch c p told vain p1 p2) _ c.cap p1 c.least c.bs W q1 q2 rfl rfl rfl rfl rfl (by omega) (by omega) (by omega) hn (fun e => h.ok.sg e.symm)
      rwa [srch_step1] at this)
  obtain ⟨hs, os, T⟩ := h.tabs
  by_cases hin : p1 + c.least ≤ c.bs.length
  · rw [decide_eq_true hin] at HK
    rw [sumN_in c.bs c.least p1 hin] at HK
    obtain ⟨ky, hky⟩ : ∃ ky, ky = keyN (hashN c.bs p1 c.least) := ⟨_, rfl⟩
    rw [← hky] at HK
    have hkl : ky < 18446744073709551616 := by rw [hky]; exact keyN_lt _
    obtain ⟨j, hj⟩ : ∃ j, j = ky / 2 ^ (64 - c.hk) := ⟨_, rfl⟩
    have hjl : j < 2 ^ c.hk := by
      rw [hj]
      refine Nat.div_lt_of_lt_mul ?_
      rw [← Nat.pow_add, show 64 - c.hk + c.hk = 64 from by omega]; exact hkl
    have hjI : (j : Int) < ((2 ^ c.hk : Nat) : Int) := by omega
    have hsh : (ky : Int) / 2 ^ (64 - c.hk) = (j : Int) := by rw [hj]; norm_cast
    obtain ⟨v, hv⟩ : ∃ v, v = hs[j]?.getD 0 := ⟨_, rfl⟩
    obtain ⟨i, hi⟩ : ∃ i, i = p1 % 2 ^ c.rk := ⟨_, rfl⟩
    have hpos : 0 < 2 ^ c.rk := Nat.pow_pos (by omega)
    have hple : 2 ^ c.rk ≤ 65536 := Nat.pow_le_pow_right (n := 2) (by omega) hr
    have hil : i < 2 ^ c.rk := by rw [hi]; exact Nat.mod_lt _ hpos
    have hand := and_low p1 c.rk (by omega) hr
    rw [← hi] at hand
    obtain ⟨r1, hr1⟩ : ∃ r1, r1 = 2 ^ c.rk - 1 := ⟨_, rfl⟩
    rw [← hr1] at hand
    obtain ⟨o, ho⟩ : ∃ o, o = os[i]?.getD 0 := ⟨_, rfl⟩
    obtain ⟨pp, hpp⟩ : ∃ pp, pp = p1 + 1 := ⟨_, rfl⟩
    have hadd : (p1 : Int) + 1 = (pp : Int) := by omega
    have hppl : pp < 1000000 := by omega
    rw [← hpp]
    have hvp : v ≤ p1 := by rw [hv]; exact T.hle j
    -- what lies behind the two stores
    have HT := (show Hid (∀ W, Keep noBlock w W → Tabs ((W.setCell ⟨c.ob, i, none⟩ (.int .i32 (v : Int))).setCell ⟨c.hb, j, none⟩ (.int .i32 (pp : Int))) c (hs.set j pp) (os.set i v) pp) from fun W kW => by
      have T' := T.keep kW (fun h => h) (fun h => h)
      refine ⟨?_, by rw [List.length_set]; exact T.hl, fun q => ?_, fun q1 q2 => ?_, ?_, by rw [List.length_set]; exact T.ol, fun q => ?_⟩
      · rw [set_obj (set_far T'.heads h.ok.ho _ _) j _, i32s_set]
      · rw [getD_set]
        have := T.hle q
        split <;> omega
      · have e : pp - 1 = p1 := by omega
        rw [e, ← hky, ← hj, getD_set, if_pos ⟨rfl, by rw [T.hl]; exact hjl⟩]
      · rw [set_far (set_obj T'.older i _) h.ok.ho.symm, i32s_set]
      · rw [getD_set]
        have := T.ole q
        split <;> omega)
    have HF := (show Hid (∀ W, Keep noBlock w W → Keep (mine c) w ((W.setCell ⟨c.ob, i, none⟩ (.int .i32 (v : Int))).setCell ⟨c.hb, j, none⟩ (.int .i32 (pp : Int)))) from fun W kW =>
      ((kW.mono (T := mine c) (fun _ _ h => h.elim)).setCell (p := ⟨c.ob, i, none⟩) (fun _ => .inr (.inr (.inl rfl))) _).setCell (p := ⟨c.hb, j, none⟩) (fun _ => .inr (.inl rfl)) _)
    have HO := (show Hid (∀ W, Keep noBlock w W → ((W.setCell ⟨c.ob, i, none⟩ (.int .i32 (v : Int))).setCell ⟨c.hb, j, none⟩ (.int .i32 (pp : Int))).heap[c.sb]? = some (.cells (srch c p told vain p1 p2) 60 (0, 0)) ∧
      Bytes ((W.setCell ⟨c.ob, i, none⟩ (.int .i32 (v : Int))).setCell ⟨c.hb, j, none⟩ (.int .i32 (pp : Int))) (some ⟨c.gb, c.off, none⟩) c.cap c.gb c.off c.bs ∧ MapOK ((W.setCell ⟨c.ob, i, none⟩ (.int .i32 (v : Int))).setCell ⟨c.hb, j, none⟩ (.int .i32 (pp : Int))) c.mb p2) from fun W kW => by
      have kk : Keep (fun k => k = c.ob ∨ k = c.hb) w ((W.setCell ⟨c.ob, i, none⟩ (.int .i32 (v : Int))).setCell ⟨c.hb, j, none⟩ (.int .i32 (pp : Int))) :=
        ((kW.mono (T := fun k => k = c.ob ∨ k = c.hb) (fun _ _ h => h.elim)).setCell (p := ⟨c.ob, i, none⟩) (fun _ => .inl rfl) _).setCell (p := ⟨c.hb, j, none⟩) (fun _ => .inr rfl) _
      exact ⟨kk.obj h.obj (fun e => e.elim h.ok.so h.ok.sh), h.text.keep kk (fun _ e => e.elim (fun e => h.ok.og e.symm) (fun e => h.ok.hg e.symm)), h.map.keep kk (fun e => e.elim (fun e => h.ok.om e.symm) (fun e => h.ok.hm e.symm))⟩)
    have d9 : ∀ W, Keep noBlock w W → W.cell? ⟨c.sb, 9, none⟩ = some (.int .i64 (p1 : Int)) := fun W kW => cell_of (kW.obj h.obj (fun h => h)) 9
    have d13 : ∀ W, Keep noBlock w W → W.cell? ⟨c.sb, 13, none⟩ = some (.int .i64 ((64 - c.hk : Nat) : Int)) := fun W kW => cell_of (kW.obj h.obj (fun h => h)) 13
    have d14 : ∀ W, Keep noBlock w W → W.cell? ⟨c.sb, 14, none⟩ = some (.slice (some ⟨c.hb, 0, none⟩) (2 ^ c.hk) (2 ^ c.hk)) := fun W kW => cell_of (kW.obj h.obj (fun h => h)) 14
    have d15 : ∀ W, Keep noBlock w W → W.cell? ⟨c.sb, 15, none⟩ = some (.slice (some ⟨c.ob, 0, none⟩) (2 ^ c.rk) (2 ^ c.rk)) := fun W kW => cell_of (kW.obj h.obj (fun h => h)) 15
    have dh : ∀ W, Keep noBlock w W → W.cell? ⟨c.hb, j, none⟩ = some (.int .i32 (v : Int)) := fun W kW => by
      rw [cell_of (kW.obj T.heads (fun h => h)) j, hv, List.getElem?_toArray]; exact i32s_at hs j (by rw [T.hl]; exact hjl)
    have do_ : ∀ W, Keep noBlock w W → W.cell? ⟨c.ob, i, none⟩ = some (.int .i32 (o : Int)) := fun W kW => by
      rw [cell_of (kW.obj T.older (fun h => h)) i, ho, List.getElem?_toArray]; exact i32s_at os i (by rw [T.ol]; exact hil)
    have fh : ∀ W, Keep noBlock w W → W.frozen? ⟨c.hb, j, none⟩ = false := fun W kW => frozen_of (kW.obj T.heads (fun h => h)) j
    have fo : ∀ W, Keep noBlock w W → W.frozen? ⟨c.ob, i, none⟩ = false := fun W kW => frozen_of (kW.obj T.older (fun h => h)) i
    have HD := (show Hid (∀ W, Keep noBlock w W → W.cell? ⟨c.sb, 9, none⟩ = some (.int .i64 (p1 : Int)) ∧ W.cell? ⟨c.sb, 13, none⟩ = some (.int .i64 ((64 - c.hk : Nat) : Int)) ∧ W.cell? ⟨c.sb, 14, none⟩ = some (.slice (some ⟨c.hb, 0, none⟩) (2 ^ c.hk) (2 ^ c.hk)) ∧ W.cell? ⟨c.sb, 15, none⟩ = some (.slice (some ⟨c.ob, 0, none⟩) (2 ^ c.rk) (2 ^ c.rk)) ∧
      W.cell? ⟨c.hb, j, none⟩ = some (.int .i32 (v : Int)) ∧ W.cell? ⟨c.ob, i, none⟩ = some (.int .i32 (o : Int)) ∧ W.frozen? ⟨c.hb, j, none⟩ = false ∧ W.frozen? ⟨c.ob, i, none⟩ = false) from fun W kW => ⟨d9 W kW, d13 W kW, d14 W kW, d15 W kW, dh W kW, do_ W kW, fh W kW, fo W kW⟩)
    have HOK := (show Hid (Ok c) from h.ok)
    have hne1 : c.ob ≠ c.hb := h.ok.ho.symm
    have hne2 : c.hb ≠ c.ob := h.ok.ho
    have hne3 : c.sb ≠ c.ob := h.ok.so
    have hkk : 64 - c.hk < 64 := by omega
    have HPP := (show Hid (pp = p1 + 1) from hpp)
    clear h T c8 c9 c10 c11 hky hkl hj hv hjl hin hi ho hpp d9 d13 d14 d15 dh do_ fh fo
    generalize 64 - c.hk = sh at *
    generalize 2 ^ c.hk = hn2 at *
    generalize 2 ^ c.rk = r at *
    have hsub : (r : Int) - 1 = (r1 : Int) := by omega
    have hiI : (i : Int) < (r : Int) := by omega
    clear hr1
    go_enter Tryd.func27, Tryd.ntmps27
    go_wp2_with fail
    refine HK.mono ?_
    rintro e w1 ⟨rfl, k1, rfl⟩
    clear HK
    have kW1 := keep_drewN w k1
    obtain ⟨e9, e13, e14, e15, eh, eo, gh, go⟩ := HD.out _ kW1
    generalize w.drewN k1 = W1 at *
    go_wp2_with fail
    go_quiet (fail)
    go_wp2_with fail
    have kW2 := kW1.trans' (keep_drewN W1 nq)
    clear e9 e13 e14 e15 eh eo gh go kW1
    obtain ⟨e9, e13, e14, e15, eh, eo, gh, go⟩ := HD.out _ kW2
    have HK2 := (show Hid (Keep noBlock w (W1.drewN nq)) from kW2)
    clear HD kW2
    generalize W1.drewN nq = W2 at *
    go_region
    go_wp2_with fail
    have kF := HF.out W2 HK2.out
    have tF := HT.out W2 HK2.out
    obtain ⟨oF, bF, mF⟩ := HO.out W2 HK2.out
    have kF' := kF.drew
    have HFIN := (show Hid (∀ w', w'.heap[c.sb]? = some (.cells (srch c p told vain pp p2) 60 (0, 0)) → Keep (fun k => k = c.sb) (((W2.setCell ⟨c.ob, i, none⟩ (.int .i32 (v : Int))).setCell ⟨c.hb, j, none⟩ (.int .i32 (pp : Int))).drew) w' → IsS w' c p told vain pp p2 ∧ Keep (mine c) w w') from fun w' q1 q2 =>
      ⟨⟨HOK.out, q1, ⟨_, _, (show Tabs ((((W2.setCell ⟨c.ob, i, none⟩ (.int .i32 (v : Int))).setCell ⟨c.hb, j, none⟩ (.int .i32 (pp : Int))).drew)) c (hs.set j pp) (os.set i v) pp from tF.keep (Keep.refl noBlock _).drew (fun h => h) (fun h => h)).keep q2 (fun e => HOK.out.sh e.symm) (fun e => HOK.out.so e.symm)⟩,
        (mF.keep (Keep.refl noBlock _).drew (fun h => h)).keep q2 (fun e => HOK.out.sm e.symm), (bF.keep (Keep.refl noBlock _).drew (fun _ h => h)).keep q2 (fun _ e => HOK.out.sg e.symm)⟩,
        kF'.trans q2 (fun i hi e => .inl e)⟩)
    have HC := HRS.out (((W2.setCell ⟨c.ob, i, none⟩ (.int .i32 (v : Int))).setCell ⟨c.hb, j, none⟩ (.int .i32 (pp : Int))).drew) oF (bF.keep (Keep.refl noBlock _).drew (fun _ h => h))
    rw [← HPP.out] at HC
    clear HRS HF HT HO kF tF oF bF mF kF'
    refine HC.mono ?_
    rintro e w3 ⟨rfl, q1, q2⟩
    have HE := (show Hid (IsS w3 c p told vain pp p2 ∧ Keep (mine c) w w3) from HFIN.out w3 q1 q2)
    clear HC HFIN q1 q2
    go_wp2_with fail
    go_end0
    exact ⟨rfl, HE.out.1, HE.out.2⟩
  · rw [decide_eq_false hin] at HK
    have HL := (show Hid (∀ w', w'.heap[c.sb]? = some (.cells (srch c p told vain (p1 + 1) p2) 60 (0, 0)) → Keep (mine c) w w' → Keep (fun k => k = c.sb) w w' → IsS w' c p told vain (p1 + 1) p2) from fun w' q1 q3 q2 =>
      ⟨h.ok, q1, ⟨hs, os, ⟨q2.obj T.heads (fun e => h.ok.sh e.symm), T.hl, fun q => by have := T.hle q; omega, fun a1 a2 => by omega, q2.obj T.older (fun e => h.ok.so e.symm), T.ol, fun q => by have := T.ole q; omega⟩⟩,
        h.map.keep q2 (fun e => h.ok.sm e.symm), h.text.keep q2 (fun _ e => h.ok.sg e.symm)⟩)
    have HC := (show Hid (∀ m, _) from fun m => HRS.out (w.drewN m) h.obj (h.drewN m).text)
    clear h T c8 c9 c10 c11 hin HRS
    go_enter Tryd.func27, Tryd.ntmps27
    go_wp2_with fail
    refine HK.mono ?_
    rintro e w1 ⟨rfl, k1, rfl⟩
    clear HK
    go_wp2_with fail
    refine (HC.out k1).mono ?_
    rintro e w3 ⟨rfl, q1, q2⟩
    have kk : Keep (fun k => k = c.sb) w w3 := (Keep.mono (T := fun k => k = c.sb) (keep_drewN w k1) (fun _ _ h => h.elim)).trans' q2
    have HE := (show Hid (IsS w3 c p told vain (p1 + 1) p2 ∧ Keep (mine c) w w3) from ⟨HL.out w3 q1 (kk.mono (fun _ _ e => .inl e)) kk, kk.mono (fun _ _ e => .inl e)⟩)
    clear HC HL q1 q2 kk
    go_wp2_with fail
    go_end0
    exact ⟨rfl, HE.out.1, HE.out.2⟩
end Go.Proofs.YtlpibfonpfhakaaDoor
