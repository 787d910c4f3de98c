/-
  key and step of a roll.
-/
import Derived.Test.YtlpibfonpfhakaaDoorSl
import Derived.Test.YtlpibfonpfhakaaDoorHsh
import Derived.BigRegion
namespace Go.Proofs.YtlpibfonpfhakaaDoor
open Go.RowKit Go.Shelf
set_option linter.unusedVariables false

/-- A sum's key. -/
def keyN (s : Nat) : Nat := s * spreadN % 18446744073709551616
theorem keyN_lt (s : Nat) : keyN s < 18446744073709551616 := Nat.mod_lt _ (by decide)

theorem set_same {cs : Array Value} {i : Nat} {v : Value} (h : cs[i]? = some v) : cs.setIfInBounds i v = cs := by
  refine Array.ext_getElem? fun j => ?_
  rw [Array.getElem?_setIfInBounds]
  split
  · rename_i e
    subst e
    rw [if_pos (Array.getElem?_eq_some_iff.1 h).1, h]
  · rfl

set_option maxRecDepth 100000 in
set_option maxHeartbeats 1000000 in
theorem key_any (b o : Nat) (a : Option Addr) (n cap p span sum : Nat) (w : World) (c0 : w.cell? ⟨b, o, none⟩ = some (.slice a n cap)) (c1 : w.cell? ⟨b, o + 1, none⟩ = some (.int .i64 (p : Int))) (c2 : w.cell? ⟨b, o + 2, none⟩ = some (.int .i64 (span : Int)))
    (c3 : w.cell? ⟨b, o + 3, none⟩ = some (.int .u64 (sum : Int))) (hp : p < 1000000) (hs : span < 1000000) :
    Calls Tryd.prog 34 #[.pointer (some ⟨b, o, none⟩)] w fun e w' => e = .returned (.tuple #[.int .u64 ((keyN sum : Nat) : Int), .bool (decide (p + span ≤ n))]) ∧ ∃ k, w' = w.drewN k := by
  obtain ⟨ky, hky⟩ : ∃ ky, ky = keyN sum := ⟨_, rfl⟩
  have hk : IntKind.u64.wrap ((sum : Int) * 11400714819323198485) = (ky : Int) := by
    rw [hky]; unfold keyN spreadN; rw [IntKind.wrap_u64]; omega
  obtain ⟨q, hq⟩ : ∃ q, q = p + span := ⟨_, rfl⟩
  have hadd : (p : Int) + (span : Int) = (q : Int) := by omega
  rw [← hky, ← hq]
  clear hky hq
  go_enter Tryd.func34, Tryd.ntmps34
  go_wp2_with fail
  go_quiet (fail)
  go_wp2_with fail
  go_ret2
  exact ⟨rfl, _, rfl⟩

set_option maxRecDepth 100000 in
set_option maxHeartbeats 4000000 in
/-- step: the next place, and its sum. -/
theorem roll_step (b o gb off t : Nat) (cs : Array Value) (a : Option Addr) (cap p span : Nat) (bs : List Nat) (w : World) (hob : w.heap[b]? = some (.cells cs t (0, 0))) (hB : Bytes w a cap gb off bs)
    (c0 : cs[o]? = some (.slice a bs.length cap)) (c1 : cs[o + 1]? = some (.int .i64 (p : Int))) (c2 : cs[o + 2]? = some (.int .i64 (span : Int)))
    (c3 : cs[o + 3]? = some (.int .u64 ((sumN bs span p : Nat) : Int))) (c4 : cs[o + 4]? = some (.int .u64 ((leadM bs span : Nat) : Int))) (hp : p < 1000000) (hs : span < 1000000) (hs1 : 1 ≤ span) (hl : bs.length < 65536) (hgb : gb ≠ b) :
    Calls Tryd.prog 35 #[.pointer (some ⟨b, o, none⟩)] w fun e w' => e = .returned (.tuple #[]) ∧ w'.heap[b]? = some (.cells ((cs.setIfInBounds (o + 3) (.int .u64 ((sumN bs span (p + 1) : Nat) : Int))).setIfInBounds (o + 1) (.int .i64 ((p + 1 : Nat) : Int))) t (0, 0)) ∧ Keep (fun k => k = b) w w' := by
  have d0 : w.cell? ⟨b, o, none⟩ = some (.slice a bs.length cap) := (cell_of hob o).trans c0
  have d1 : w.cell? ⟨b, o + 1, none⟩ = some (.int .i64 (p : Int)) := (cell_of hob _).trans c1
  have d2 : w.cell? ⟨b, o + 2, none⟩ = some (.int .i64 (span : Int)) := (cell_of hob _).trans c2
  obtain ⟨q, hq⟩ : ∃ q, q = p + span := ⟨_, rfl⟩
  obtain ⟨p1, hp1⟩ : ∃ p1, p1 = p + 1 := ⟨_, rfl⟩
  have hadd : (p : Int) + (span : Int) = (q : Int) := by omega
  have hadd1 : (p : Int) + 1 = (p1 : Int) := by omega
  have f1 := frozen_of hob (o + 1)
  by_cases h : q < bs.length
  · have h' : (q : Int) < (bs.length : Int) := by omega
    have ha : a = some ⟨gb, off, none⟩ := by
      rcases hB.at_ with e | e
      · exact e
      · rw [e] at h; simp at h
    subst ha
    have d3 : w.cell? ⟨b, o + 3, none⟩ = some (.int .u64 ((sumN bs span p : Nat) : Int)) := (cell_of hob _).trans c3
    have d4 : w.cell? ⟨b, o + 4, none⟩ = some (.int .u64 ((leadM bs span : Nat) : Int)) := (cell_of hob _).trans c4
    have f3 := frozen_of hob (o + 3)
    have e1 : w.cell? ⟨gb, off + p, none⟩ = some (.int .u8 ((byteN bs p : Nat) : Int)) := hB.cells p (by omega)
    have e2 : w.cell? ⟨gb, off + q, none⟩ = some (.int .u8 ((byteN bs q : Nat) : Int)) := hB.cells q (by omega)
    have hx := hB.lt p
    have hy := hB.lt q
    have hst := sum_step bs span p hs1 (by omega)
    rw [← hq, ← hp1] at hst
    rw [← hp1]
    have HC := (show Hid _ from c1)
    clear c0 c1 c2 c3 c4
    have hbx : byteN bs p < 256 := hx
    have hby : byteN bs q < 256 := hy
    generalize byteN bs p = x at e1 hst hbx
    generalize byteN bs q = y at e2 hst hby
    generalize sumN bs span p = s0 at d3 hst
    generalize leadM bs span = l0 at d4 hst
    generalize sumN bs span p1 = s1 at hst ⊢
    generalize bs.length = n at *
    have hpn : p < n := by omega
    have hpI : (p : Int) < (n : Int) := by omega
    obtain ⟨m1, h1⟩ : ∃ m1 : Int, m1 = ((l0 : Int) * (x : Int)) % 18446744073709551616 := ⟨_, rfl⟩
    obtain ⟨m2, h2⟩ : ∃ m2 : Int, m2 = ((s0 : Int) - m1) % 18446744073709551616 := ⟨_, rfl⟩
    obtain ⟨m3, h3⟩ : ∃ m3 : Int, m3 = (m2 * 11400714819323198485) % 18446744073709551616 := ⟨_, rfl⟩
    have k1 : IntKind.u64.wrap ((l0 : Int) * (x : Int)) = m1 := by rw [IntKind.wrap_u64, h1]
    have k2 : IntKind.u64.wrap ((s0 : Int) - m1) = m2 := by rw [IntKind.wrap_u64, h2]
    have k3 : IntKind.u64.wrap (m2 * 11400714819323198485) = m3 := by rw [IntKind.wrap_u64, h3]
    have k4 : IntKind.u64.wrap (m3 + (y : Int)) = (s1 : Int) := by rw [IntKind.wrap_u64, ← hst, h3, h2, h1]; rfl
    clear hx hy hB hst h1 h2 h3 hq hp1
    go_enter Tryd.func35, Tryd.ntmps35
    go_wp2_with fail
    go_quiet (fail)
    go_wp2_with fail
    have hob' : (w.drewN nq).heap[b]? = some (.cells cs t (0, 0)) := hob
    have kw : Keep (fun k => k = b) w (w.drewN nq) := ⟨rfl, rfl, rfl, Nat.le_refl _, fun _ _ _ => rfl⟩
    have d0 : (w.drewN nq).cell? ⟨b, o, none⟩ = some (.slice (some ⟨gb, off, none⟩) n cap) := d0
    have d1 : (w.drewN nq).cell? ⟨b, o + 1, none⟩ = some (.int .i64 (p : Int)) := d1
    have d3 : (w.drewN nq).cell? ⟨b, o + 3, none⟩ = some (.int .u64 (s0 : Int)) := d3
    have d4 : (w.drewN nq).cell? ⟨b, o + 4, none⟩ = some (.int .u64 (l0 : Int)) := d4
    have e1 : (w.drewN nq).cell? ⟨gb, off + p, none⟩ = some (.int .u8 (x : Int)) := e1
    have e2 : (w.drewN nq).cell? ⟨gb, off + q, none⟩ = some (.int .u8 (y : Int)) := e2
    have f1 : (w.drewN nq).frozen? ⟨b, o + 1, none⟩ = false := f1
    have f3 : (w.drewN nq).frozen? ⟨b, o + 3, none⟩ = false := f3
    generalize w.drewN nq = W at *
    have HF := (show Hid ((((W.setCell ⟨b, o + 3, none⟩ (.int .u64 (s1 : Int))).setCell ⟨b, o + 1, none⟩ (.int .i64 (p1 : Int))).heap[b]? = some (.cells ((cs.setIfInBounds (o + 3) (.int .u64 (s1 : Int))).setIfInBounds (o + 1) (.int .i64 (p1 : Int))) t (0, 0))) ∧ Keep (fun k => k = b) w ((W.setCell ⟨b, o + 3, none⟩ (.int .u64 (s1 : Int))).setCell ⟨b, o + 1, none⟩ (.int .i64 (p1 : Int)))) from
      ⟨set_obj (set_obj hob' _ _) _ _, (kw.setCell (p := ⟨b, o + 3, none⟩) (fun _ => rfl) _).setCell (p := ⟨b, o + 1, none⟩) (fun _ => rfl) _⟩)
    clear kw hob'
    go_region
    go_wp2_with fail
    go_end0
    exact ⟨rfl, HF.out.1, HF.out.2.drew⟩
  · have h' : ¬ (q : Int) < (bs.length : Int) := by omega
    have hs := sumN_out bs span p (by omega)
    rw [hs, ← hp1]
    have e := set_same c3
    rw [e]
    have HF := (show Hid (∀ m, (((w.drewN m).setCell ⟨b, o + 1, none⟩ (.int .i64 (p1 : Int))).heap[b]? = some (.cells (cs.setIfInBounds (o + 1) (.int .i64 (p1 : Int))) t (0, 0))) ∧ Keep (fun k => k = b) w ((w.drewN m).setCell ⟨b, o + 1, none⟩ (.int .i64 (p1 : Int)))) from
      fun m => ⟨set_obj (w := w.drewN m) hob _ _, (Keep.mono (T := fun k => k = b) (keep_drewN w m) (fun _ _ h => h.elim)).setCell (p := ⟨b, o + 1, none⟩) (fun _ => rfl) _⟩)
    clear hob c0 c1 c2 c3 c4 hB hq hp1 e hs
    generalize bs.length = n at *
    go_enter Tryd.func35, Tryd.ntmps35
    go_wp2_with fail
    go_quiet (fail)
    go_wp2_with fail
    go_end0
    exact ⟨rfl, (HF.out nq).1, (HF.out nq).2⟩
end Go.Proofs.YtlpibfonpfhakaaDoor
