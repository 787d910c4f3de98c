/-
  head and ahead of a search's chains.
-/
import Derived.Test.YtlpibfonpfhakaaDoorObj
namespace Go.Proofs.YtlpibfonpfhakaaDoor
open Go.RowKit Go.Shelf
set_option linter.unusedVariables false

theorem and_low (p r : Nat) (hp : p < 1000000) (hr : r ≤ 16) : bits .and .i64 (p : Int) ((2 ^ r - 1 : Nat) : Int) = ((p % 2 ^ r : Nat) : Int) := by
  have hpos : 0 < 2 ^ r := Nat.pow_pos (by omega)
  have hple : 2 ^ r ≤ 65536 := Nat.pow_le_pow_right (n := 2) (by omega) hr
  have hm : p % 2 ^ r < 2 ^ r := Nat.mod_lt _ hpos
  show IntKind.i64.wrap ((BitVec.ofInt 64 (p : Int) &&& BitVec.ofInt 64 ((2 ^ r - 1 : Nat) : Int)).toNat : Int) = _
  rw [BitVec.toNat_and, ofInt_u64 p (by omega), ofInt_u64 _ (by omega), Nat.and_two_pow_sub_one_eq_mod, IntKind.wrap_i64]
  omega

set_option maxRecDepth 100000 in
set_option maxHeartbeats 1000000 in
theorem head_any (c : Cf) (p told vain p2 : Nat) (w : World) (h : IsS w c p told vain p p2) (hp : p ≤ c.bs.length) :
    Calls Tryd.prog 39 #[.pointer (some ⟨c.sb, 8, none⟩)] w fun e w' => (∃ v : Nat, e = .returned (.int .i64 ((v : Int) - 1)) ∧ v ≤ p ∧ (1 ≤ v → p + c.least ≤ c.bs.length) ∧ (1 ≤ p → p + c.least ≤ c.bs.length → (∀ i, i < c.least → byteN c.bs (p - 1 + i) = byteN c.bs (p + i)) → v = p)) ∧ ∃ k, w' = w.drewN k := by
  have hn := h.ok.n
  have hm := h.ok.m2
  have hl3 := h.ok.l3
  have h1 := h.ok.h1
  have h2 := h.ok.h2
  have c8 : w.cell? ⟨c.sb, 8, none⟩ = some (.slice (some ⟨c.gb, c.off, none⟩) c.bs.length c.cap) := cell_of h.obj 8
  have c9 : w.cell? ⟨c.sb, 9, none⟩ = some (.int .i64 (p : Int)) := cell_of h.obj 9
  have c10 : w.cell? ⟨c.sb, 10, none⟩ = some (.int .i64 (c.least : Int)) := cell_of h.obj 10
  have c11 : w.cell? ⟨c.sb, 11, none⟩ = some (.int .u64 ((sumN c.bs c.least p : Nat) : Int)) := cell_of h.obj 11
  have c13 : w.cell? ⟨c.sb, 13, none⟩ = some (.int .i64 ((64 - c.hk : Nat) : Int)) := cell_of h.obj 13
  have c14 : w.cell? ⟨c.sb, 14, none⟩ = some (.slice (some ⟨c.hb, 0, none⟩) (2 ^ c.hk) (2 ^ c.hk)) := cell_of h.obj 14
  have HK := key_any c.sb 8 (some ⟨c.gb, c.off, none⟩) c.bs.length c.cap p c.least (sumN c.bs c.least p) w c8 c9 c10 c11 (by omega) (by omega)
  obtain ⟨hs, os, T⟩ := h.tabs
  by_cases hin : p + c.least ≤ c.bs.length
  · rw [decide_eq_true hin] at HK
    rw [sumN_in c.bs c.least p hin] at HK
    obtain ⟨ky, hky⟩ : ∃ ky, ky = keyN (hashN c.bs p c.least) := ⟨_, rfl⟩
    rw [← hky] at HK
    have hkl : ky < 18446744073709551616 := by rw [hky]; exact keyN_lt _
    obtain ⟨j, hj⟩ : ∃ j, j = ky / 2 ^ (64 - c.hk) := ⟨_, rfl⟩
    have hjl : j < 2 ^ c.hk := by
      rw [hj]
      refine Nat.div_lt_of_lt_mul ?_
      rw [← Nat.pow_add, show 64 - c.hk + c.hk = 64 from by omega]; exact hkl
    have hjI : (j : Int) < ((2 ^ c.hk : Nat) : Int) := by omega
    have hsh : (ky : Int) / 2 ^ (64 - c.hk) = (j : Int) := by rw [hj]; norm_cast
    obtain ⟨v, hv⟩ : ∃ v, v = hs[j]?.getD 0 := ⟨_, rfl⟩
    have hc : w.cell? ⟨c.hb, j, none⟩ = some (.int .i32 (v : Int)) := by
      rw [cell_of T.heads j, hv, List.getElem?_toArray]; exact i32s_at hs j (by rw [T.hl]; exact hjl)
    have hvp : v ≤ p := by rw [hv]; exact T.hle j
    have HV := (show Hid (1 ≤ p → p + c.least ≤ c.bs.length → (∀ i, i < c.least → byteN c.bs (p - 1 + i) = byteN c.bs (p + i)) → v = p) from fun q1 q2 q3 => by
      have := T.last q1 (by omega)
      rw [show hashN c.bs (p - 1) c.least = hashN c.bs p c.least from by unfold hashN; rw [hashZ_same c.bs (p - 1) p c.least q3], ← hky, ← hj, ← hv] at this
      exact this)
    have hkk : 64 - c.hk < 64 := by omega
    have HI := (show Hid (p + c.least ≤ c.bs.length) from hin)
    generalize 64 - c.hk = sh at *
    generalize 2 ^ c.hk = hn2 at *
    clear h T c8 c9 c10 c11 hky hkl hj hv hjl hin
    go_enter Tryd.func39, Tryd.ntmps39
    go_wp2_with fail
    refine HK.mono ?_
    rintro e w1 ⟨rfl, k1, rfl⟩
    clear HK
    go_wp2_with fail
    go_quiet (fail)
    go_wp2_with fail
    go_ret
    exact ⟨⟨v, rfl, hvp, fun _ => HI.out, HV.out⟩, _, World.drewN_drewN _ _ _⟩
  · rw [decide_eq_false hin] at HK
    have HI := (show Hid (¬ p + c.least ≤ c.bs.length) from hin)
    clear h T c8 c9 c10 c11 hin
    go_enter Tryd.func39, Tryd.ntmps39
    go_wp2_with fail
    refine HK.mono ?_
    rintro e w1 ⟨rfl, k1, rfl⟩
    clear HK
    go_wp2_with fail
    go_ret
    exact ⟨⟨0, rfl, Nat.zero_le _, fun h => absurd h (by omega), fun _ h => absurd h HI.out⟩, _, rfl⟩

set_option maxRecDepth 100000 in
set_option maxHeartbeats 1000000 in
theorem ahead_any (c : Cf) (p told vain p2 q : Nat) (w : World) (h : IsS w c p told vain p p2) (hp : p ≤ c.bs.length) (hq : q ≤ p) :
    Calls Tryd.prog 43 #[.pointer (some ⟨c.sb, 8, none⟩), .int .i64 (q : Int)] w fun e w' => (∃ v : Nat, e = .returned (.int .i64 ((v : Int) - 1)) ∧ v ≤ p) ∧ ∃ k, w' = w.drewN k := by
  have hn := h.ok.n
  have hr := h.ok.r2
  have c15 : w.cell? ⟨c.sb, 15, none⟩ = some (.slice (some ⟨c.ob, 0, none⟩) (2 ^ c.rk) (2 ^ c.rk)) := cell_of h.obj 15
  obtain ⟨hs, os, T⟩ := h.tabs
  obtain ⟨j, hj⟩ : ∃ j, j = q % 2 ^ c.rk := ⟨_, rfl⟩
  have hpos : 0 < 2 ^ c.rk := Nat.pow_pos (by omega)
  have hple : 2 ^ c.rk ≤ 65536 := Nat.pow_le_pow_right (n := 2) (by omega) hr
  have hjl : j < 2 ^ c.rk := by rw [hj]; exact Nat.mod_lt _ hpos
  have hand := and_low q c.rk (by omega) hr
  rw [← hj] at hand
  obtain ⟨r1, hr1⟩ : ∃ r1, r1 = 2 ^ c.rk - 1 := ⟨_, rfl⟩
  rw [← hr1] at hand
  obtain ⟨v, hv⟩ : ∃ v, v = os[j]?.getD 0 := ⟨_, rfl⟩
  have hc : w.cell? ⟨c.ob, j, none⟩ = some (.int .i32 (v : Int)) := by
    rw [cell_of T.older j, hv, List.getElem?_toArray]; exact i32s_at os j (by rw [T.ol]; exact hjl)
  have hvp : v ≤ p := by rw [hv]; exact T.ole j
  have ho := T.ol
  clear h T hj hv
  generalize 2 ^ c.rk = r at *
  have hsub : (r : Int) - 1 = (r1 : Int) := by omega
  have hjI : (j : Int) < (r : Int) := by omega
  clear hr1 ho
  go_enter Tryd.func43, Tryd.ntmps43
  go_wp2_with fail
  go_quiet (fail)
  go_wp2_with fail
  go_ret
  exact ⟨⟨v, rfl, hvp⟩, _, rfl⟩
end Go.Proofs.YtlpibfonpfhakaaDoor
