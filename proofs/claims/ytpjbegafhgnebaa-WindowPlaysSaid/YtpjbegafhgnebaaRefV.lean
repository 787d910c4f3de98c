/-
  The document's own window: what each of its calls does.
-/
import Derived.Test.YtpjbegafhgnebaaRef
import Derived.Test.YtpjbegafhgnebaaFill
namespace Go.Proofs.Ytpjbegafhgnebaa
open Go.RowKit Go.Shelf
set_option linter.unusedVariables false

/-- Block vb is the document's window: all that was put, its size, its ledger. -/
structure IsV (w : World) (vb qb s : Nat) (bv : Value) (L : List Nat) : Prop where
  obj : w.heap[vb]? = some (.cells #[bv, .int .i64 (s : Int), .bool false, .pointer (some ⟨qb, 0, none⟩)] 67 (0, 0))
  own : w.ownsRow 0 5 1 bv L.length (u8s L)
  lt : ∀ j : Nat, L[j]?.getD 0 < 256
theorem IsV.keep {w w' : World} {S : Nat → Prop} {vb qb s : Nat} {bv : Value} {L : List Nat} (h : IsV w vb qb s bv L) (hk : Keep S w w') (h1 : ¬ S vb) (h2 : ∀ g, bv.ownBlock = some g → ¬ S g) : IsV w' vb qb s bv L :=
  ⟨hk.obj h.obj h1, owns_kept h.own hk h2, h.lt⟩
theorem IsV.ring_lt {w : World} {vb qb s : Nat} {bv : Value} {L : List Nat} (h : IsV w vb qb s bv L) {g : Nat} (hg : bv.ownBlock = some g) : g < w.heap.size := by
  rcases h.own.2 with ⟨rfl, _⟩ | ⟨g', cap, cur, rfl, _, hh, _⟩
  · cases hg
  · obtain rfl : g' = g := by simpa [Value.ownBlock] using hg
    exact obj_lt hh
/-- .. that was dropped. -/
def IsX (w : World) (vb qb s : Nat) : Prop := w.heap[vb]? = some (.cells #[.slice none 0 0, .int .i64 (s : Int), .bool true, .pointer (some ⟨qb, 0, none⟩)] 67 (0, 0))

set_option maxHeartbeats 1000000 in
theorem newV_arg (size : Int) (v : Value) (w : World) (h : ¬ (1 ≤ size ∧ size ≤ 16777216)) :
    Calls Try.prog 12 #[.int .i64 size, v] w fun e w' => e = .returned (.tuple #[.pointer none, .int .i64 2]) ∧ w' = w := by
  by_cases h1 : size < 1
  · go_enter Try.func12, Try.ntmps12
    go_wp2_with fail
    go_ret2
    exact ⟨rfl, rfl⟩
  · have h2 : 16777216 < size := by omega
    go_enter Try.func12, Try.ntmps12
    go_wp2_with fail
    go_ret2
    exact ⟨rfl, rfl⟩
set_option maxHeartbeats 1000000 in
theorem newV_over (s qb B now most : Nat) (w : World) (h1 : 1 ≤ s) (h2 : s ≤ 16777216) (hL : IsQ w qb B now most) (ho : B < now + s) :
    Calls Try.prog 12 #[.int .i64 (s : Int), .pointer (some ⟨qb, 0, none⟩)] w fun e w' => e = .returned (.tuple #[.pointer none, .int .i64 40]) ∧ IsQ w' qb B now most ∧ Keep (fun k => k = qb) w w' := by
  have h1' : ¬ (s : Int) < 1 := by omega
  have h2' : ¬ 16777216 < (s : Int) := by omega
  have HC := chargeQ_i qb B now most (s : Int) 40 (by omega) now most (by unfold chargeAns; rw [if_neg (by omega), Int.toNat_natCast, if_pos ho]) w hL
  go_enter Try.func12, Try.ntmps12
  go_wp2_with fail
  refine HC.mono ?_
  rintro e w1 ⟨rfl, hQ, hK⟩
  go_wp2_with fail
  go_ret2
  exact ⟨rfl, hQ, hK⟩
set_option maxHeartbeats 1000000 in
theorem newV_ok (s qb B now most : Nat) (w : World) (h1 : 1 ≤ s) (h2 : s ≤ 16777216) (hL : IsQ w qb B now most) (ho : now + s ≤ B) :
    Calls Try.prog 12 #[.int .i64 (s : Int), .pointer (some ⟨qb, 0, none⟩)] w fun e w' => ∃ vb, e = .returned (.tuple #[.pointer (some ⟨vb, 0, none⟩), .int .i64 0]) ∧ w.heap.size ≤ vb ∧ IsV w' vb qb s (.slice none 0 0) [] ∧ IsQ w' qb B (now + s) (max (now + s) most) ∧ Keep (fun k => k = qb) w w' := by
  have h1' : ¬ (s : Int) < 1 := by omega
  have h2' : ¬ 16777216 < (s : Int) := by omega
  have HC := chargeQ_i qb B now most (s : Int) 0 (by omega) (now + s) (max (now + s) most) (by unfold chargeAns; rw [if_neg (by omega), Int.toNat_natCast, if_neg (by omega)]) w hL
  go_enter Try.func12, Try.ntmps12
  go_wp2_with fail
  refine HC.mono ?_
  rintro e w1 ⟨rfl, hQ, hK⟩
  go_wp2_with fail
  go_ret2
  exact ⟨w1.heap.size, rfl, hK.size, ⟨alloc_new w1 _, ⟨rfl, .inl ⟨rfl, rfl⟩⟩, fun j => by simp⟩, hQ.keep ((Keep.refl noBlock w1).alloc _) (fun h => h), hK.alloc _⟩

section
set_option maxHeartbeats 1000000 in
theorem putV_any (vb qb s : Nat) (bv : Value) (L : List Nat) (a : Option Addr) (cap gb off : Nat) (bs : List Nat) (w : World) (h : IsV w vb qb s bv L) (hb : Bytes w a cap gb off bs) (hl : L.length + bs.length ≤ 1099511627776) :
    Calls Try.prog 15 #[.pointer (some ⟨vb, 0, none⟩), .slice a bs.length cap] w fun e w' => e = .returned (.tuple #[]) ∧ ∃ bv', IsV w' vb qb s bv' (L ++ bs) ∧ Near w bv bv' ∧ Keep (fun k => k = vb ∨ bv.ownBlock = some k) w w' := by
  have c0 : w.cell? ⟨vb, 0, none⟩ = some bv := cell_of h.obj 0
  have c2 : w.cell? ⟨vb, 2, none⟩ = some (.bool false) := cell_of h.obj 2
  obtain ⟨v3, W3, hr3, own3, k3, n3⟩ := run_append_all w 38 bv L bs h.own hl (.slice a bs.length cap) hb.src
  have hw3 : bv.ownBlock ≠ some vb := owns_ne h.own h.obj (by decide)
  have o3 := k3.obj h.obj hw3
  have c3 : W3.cell? ⟨vb, 0, none⟩ = some bv := cell_of o3 0
  have f3 := frozen_of o3 0
  have hw4 : v3.ownBlock ≠ some vb := owns_ne own3 o3 (by decide)
  have own4 : (W3.setCell ⟨vb, 0, none⟩ v3).ownsRow 0 5 1 v3 (L ++ bs).length (u8s (L ++ bs)) := owns_kept own3 ((Keep.refl (fun k => k = vb) W3).setCell (p := ⟨vb, 0, none⟩) (fun _ => rfl) _) (fun g hg e => hw4 (by rw [hg, e]))
  have HF := (show Hid (IsV (W3.setCell ⟨vb, 0, none⟩ v3) vb qb s v3 (L ++ bs) ∧ Near w bv v3 ∧ Keep (fun k => k = vb ∨ bv.ownBlock = some k) w (W3.setCell ⟨vb, 0, none⟩ v3)) from
    ⟨⟨(set_obj o3 0 _).trans (by simp), own4, lt_app h.lt hb.lt⟩, n3, (k3.mono (T := fun k => k = vb ∨ bv.ownBlock = some k) (fun _ _ e => .inr e)).setCell (p := ⟨vb, 0, none⟩) (fun _ => .inl rfl) _⟩)
  obtain ⟨va, vn, vc, rfl⟩ : ∃ va vn vc, v3 = .slice va vn vc := by
    rcases own3.2 with ⟨e, _⟩ | ⟨g, c', cur, e, _⟩
    · exact ⟨_, _, _, e⟩
    · exact ⟨_, _, _, e⟩
  obtain ⟨ba, bn, bc, rfl⟩ : ∃ va vn vc, bv = .slice va vn vc := by
    rcases h.own.2 with ⟨e, _⟩ | ⟨g, c', cur, e, _⟩
    · exact ⟨_, _, _, e⟩
    · exact ⟨_, _, _, e⟩
  clear own3 own4 k3 n3 hw3 hw4 o3 h
  go_enter Try.func15, Try.ntmps15
  go_wp2_with (at_builtin; refine wpList_append_run _ rfl _ _ 38 rfl (.slice ba bn bc) (.slice a bs.length cap) (.slice va vn vc) W3 rfl rfl hr3 ?_)
  go_end0
  exact ⟨rfl, _, HF.out⟩
end
set_option maxHeartbeats 1000000 in
theorem putV_gone (vb qb s : Nat) (v : Value) (w : World) (h : IsX w vb qb s) :
    Calls Try.prog 15 #[.pointer (some ⟨vb, 0, none⟩), v] w fun e w' => e = .returned (.tuple #[]) ∧ w' = w := by
  have c2 : w.cell? ⟨vb, 2, none⟩ = some (.bool true) := cell_of h 2
  go_enter Try.func15, Try.ntmps15
  go_wp2_with fail
  go_end0
  exact ⟨rfl, rfl⟩

set_option maxHeartbeats 1000000 in
theorem atV_ok (vb qb s : Nat) (bv : Value) (L : List Nat) (back : Nat) (w : World) (h : IsV w vb qb s bv L) (h1 : 1 ≤ back) (h2 : back ≤ s) (h3 : back ≤ L.length) (hs : s ≤ 16777216) (hl : L.length < 2 ^ 48) :
    Calls Try.prog 19 #[.pointer (some ⟨vb, 0, none⟩), .int .i64 (back : Int)] w fun e w' => e = .returned (.tuple #[.int .u8 ((L[L.length - back]?.getD 0 : Nat) : Int), .bool true]) ∧ ∃ n, w' = w.drewN n := by
  obtain ⟨a, cap, g, rfl, hB, -⟩ := bytes_own h.own h.lt hl
  have c0 : w.cell? ⟨vb, 0, none⟩ = some (.slice a L.length cap) := cell_of h.obj 0
  have c1 : w.cell? ⟨vb, 1, none⟩ = some (.int .i64 (s : Int)) := cell_of h.obj 1
  have c2 : w.cell? ⟨vb, 2, none⟩ = some (.bool false) := cell_of h.obj 2
  obtain rfl : a = some ⟨g, 0, none⟩ := hB.at_.resolve_right (by rintro rfl; simp at h3; omega)
  have hc := hB.cells (L.length - back) (by omega)
  rw [Nat.zero_add] at hc
  generalize L[L.length - back]?.getD 0 = x at hc
  obtain ⟨p, hp⟩ : ∃ p, p = L.length - back := ⟨_, rfl⟩
  rw [← hp] at hc
  have hsub : (L.length : Int) - (back : Int) = (p : Int) := by omega
  have hpl : p < L.length := by omega
  have hpI : (p : Int) < (L.length : Int) := by omega
  have g1 : ¬ (back : Int) < 1 := by omega
  have g2 : ¬ (s : Int) < (back : Int) := by omega
  have g3 : ¬ (L.length : Int) < (back : Int) := by omega
  clear hp h hB
  go_enter Try.func19, Try.ntmps19
  go_wp2_with fail
  go_quiet (fail)
  go_wp2_with fail
  go_ret2
  exact ⟨rfl, _, rfl⟩
set_option maxHeartbeats 1000000 in
theorem atV_none (vb qb s : Nat) (bv : Value) (L : List Nat) (back : Int) (w : World) (h : IsV w vb qb s bv L) (hb : ¬ (1 ≤ back ∧ back ≤ (s : Int) ∧ back ≤ (L.length : Int))) :
    Calls Try.prog 19 #[.pointer (some ⟨vb, 0, none⟩), .int .i64 back] w fun e w' => e = .returned (.tuple #[.int .u8 0, .bool false]) ∧ w' = w := by
  obtain ⟨a, cap, rfl⟩ : ∃ a cap, bv = .slice a L.length cap := by
    rcases h.own.2 with ⟨rfl, h0⟩ | ⟨g, c', cur, e, _⟩
    · exact ⟨none, 0, by rw [h0]⟩
    · exact ⟨_, _, e⟩
  have c0 : w.cell? ⟨vb, 0, none⟩ = some (.slice a L.length cap) := cell_of h.obj 0
  have c1 : w.cell? ⟨vb, 1, none⟩ = some (.int .i64 (s : Int)) := cell_of h.obj 1
  have c2 : w.cell? ⟨vb, 2, none⟩ = some (.bool false) := cell_of h.obj 2
  by_cases g1 : back < 1
  · clear h
    go_enter Try.func19, Try.ntmps19
    go_wp2_with fail
    go_ret2
    exact ⟨rfl, rfl⟩
  · by_cases g2 : (s : Int) < back
    · clear h
      go_enter Try.func19, Try.ntmps19
      go_wp2_with fail
      go_ret2
      exact ⟨rfl, rfl⟩
    · have g3 : (L.length : Int) < back := by omega
      clear h hb
      go_enter Try.func19, Try.ntmps19
      go_wp2_with fail
      go_ret2
      exact ⟨rfl, rfl⟩
set_option maxHeartbeats 1000000 in
theorem atV_gone (vb qb s : Nat) (back : Int) (w : World) (h : IsX w vb qb s) :
    Calls Try.prog 19 #[.pointer (some ⟨vb, 0, none⟩), .int .i64 back] w fun e w' => e = .returned (.tuple #[.int .u8 0, .bool false]) ∧ w' = w := by
  have c2 : w.cell? ⟨vb, 2, none⟩ = some (.bool true) := cell_of h 2
  go_enter Try.func19, Try.ntmps19
  go_wp2_with fail
  go_ret2
  exact ⟨rfl, rfl⟩

set_option maxHeartbeats 1000000 in
theorem clearV_any (vb qb s : Nat) (bv : Value) (L : List Nat) (w : World) (h : IsV w vb qb s bv L) :
    Calls Try.prog 21 #[.pointer (some ⟨vb, 0, none⟩)] w fun e w' => e = .returned (.tuple #[]) ∧ IsV w' vb qb s (.slice none 0 0) [] ∧ Keep (fun k => k = vb) w w' := by
  have c0 : w.cell? ⟨vb, 0, none⟩ = some bv := cell_of h.obj 0
  have f0 := frozen_of h.obj 0
  go_enter Try.func21, Try.ntmps21
  go_wp2_with fail
  go_end0
  exact ⟨rfl, ⟨(set_obj h.obj 0 _).trans (by simp), ⟨rfl, .inl ⟨rfl, rfl⟩⟩, fun j => by simp⟩, (Keep.refl (fun k => k = vb) w).setCell (p := ⟨vb, 0, none⟩) (fun _ => rfl) _⟩
set_option maxHeartbeats 1000000 in
theorem clearV_gone (vb qb s : Nat) (w : World) (h : IsX w vb qb s) :
    Calls Try.prog 21 #[.pointer (some ⟨vb, 0, none⟩)] w fun e w' => e = .returned (.tuple #[]) ∧ IsX w' vb qb s ∧ Keep (fun k => k = vb) w w' := by
  have c0 : w.cell? ⟨vb, 0, none⟩ = some (.slice none 0 0) := cell_of h 0
  have f0 := frozen_of h 0
  go_enter Try.func21, Try.ntmps21
  go_wp2_with fail
  go_end0
  exact ⟨rfl, (set_obj h 0 _).trans (by simp), (Keep.refl (fun k => k = vb) w).setCell (p := ⟨vb, 0, none⟩) (fun _ => rfl) _⟩
set_option maxHeartbeats 1000000 in
theorem heldV_any (vb qb s : Nat) (bv : Value) (L : List Nat) (w : World) (h : IsV w vb qb s bv L) :
    Calls Try.prog 25 #[.pointer (some ⟨vb, 0, none⟩)] w fun e w' => e = .returned (.int .i64 (s : Int)) ∧ w' = w := by
  have c1 : w.cell? ⟨vb, 1, none⟩ = some (.int .i64 (s : Int)) := cell_of h.obj 1
  have c2 : w.cell? ⟨vb, 2, none⟩ = some (.bool false) := cell_of h.obj 2
  go_enter Try.func25, Try.ntmps25
  go_wp2_with fail
  go_ret
  exact ⟨rfl, rfl⟩
set_option maxHeartbeats 1000000 in
theorem heldV_gone (vb qb s : Nat) (w : World) (h : IsX w vb qb s) :
    Calls Try.prog 25 #[.pointer (some ⟨vb, 0, none⟩)] w fun e w' => e = .returned (.int .i64 0) ∧ w' = w := by
  have c2 : w.cell? ⟨vb, 2, none⟩ = some (.bool true) := cell_of h 2
  go_enter Try.func25, Try.ntmps25
  go_wp2_with fail
  go_ret
  exact ⟨rfl, rfl⟩
set_option maxHeartbeats 1000000 in
theorem dropV_gone (vb qb s : Nat) (w : World) (h : IsX w vb qb s) :
    Calls Try.prog 23 #[.pointer (some ⟨vb, 0, none⟩)] w fun e w' => e = .returned (.tuple #[]) ∧ IsX w' vb qb s ∧ Keep (fun k => k = vb) w w' := by
  have c0 : w.cell? ⟨vb, 0, none⟩ = some (.slice none 0 0) := cell_of h 0
  have c2 : w.cell? ⟨vb, 2, none⟩ = some (.bool true) := cell_of h 2
  have f0 := frozen_of h 0
  have f2 := frozen_of h 2
  go_enter Try.func23, Try.ntmps23
  go_wp2_with fail
  go_end0
  exact ⟨rfl, (set_obj (set_obj h 2 _) 0 _).trans (by simp), ((Keep.refl (fun k => k = vb) w).setCell (p := ⟨vb, 2, none⟩) (fun _ => rfl) _).setCell (p := ⟨vb, 0, none⟩) (fun _ => rfl) _⟩
set_option maxHeartbeats 2000000 in
theorem dropV_any (vb qb s B now most : Nat) (bv : Value) (L : List Nat) (w : World) (h : IsV w vb qb s bv L) (hL : IsQ w qb B now most) (hs : s ≤ now) :
    Calls Try.prog 23 #[.pointer (some ⟨vb, 0, none⟩)] w fun e w' => e = .returned (.tuple #[]) ∧ IsX w' vb qb s ∧ IsQ w' qb B (now - s) most ∧ Keep (fun k => k = vb ∨ k = qb) w w' := by
  have c1 : w.cell? ⟨vb, 1, none⟩ = some (.int .i64 (s : Int)) := cell_of h.obj 1
  have c2 : w.cell? ⟨vb, 2, none⟩ = some (.bool false) := cell_of h.obj 2
  have c3 : w.cell? ⟨vb, 3, none⟩ = some (.pointer (some ⟨qb, 0, none⟩)) := cell_of h.obj 3
  have hne : qb ≠ vb := by
    intro e
    have h1 := hL.obj
    rw [e, h.obj] at h1
    simp at h1
  have HR : Calls Try.prog 35 #[.pointer (some ⟨qb, 0, none⟩), .int .i64 (s : Int)] w.drew fun e w1 => e = .returned (.int .i64 0) ∧ (w1.cell? ⟨vb, 0, none⟩ = some bv ∧ w1.cell? ⟨vb, 2, none⟩ = some (.bool false)) ∧
      (w1.frozen? ⟨vb, 0, none⟩ = false ∧ w1.frozen? ⟨vb, 2, none⟩ = false) ∧ Hid (IsQ w1 qb B (now - s) most ∧ Keep (fun k => k = qb) w.drew w1 ∧ w1.heap[vb]? = some (.cells #[bv, .int .i64 (s : Int), .bool false, .pointer (some ⟨qb, 0, none⟩)] 67 (0, 0))) := by
    refine (releaseQ_i qb B now most (s : Int) 0 (now - s) most (by unfold releaseAns; rw [if_neg (by omega), Int.toNat_natCast, if_neg (by omega)]) w.drew (hL.keep (S := noBlock) (Keep.refl _ w).drew (fun h => h))).mono ?_
    rintro e w1 ⟨rfl, hL1, hK1⟩
    have HO1 := hK1.obj (b := vb) (show w.drew.heap[vb]? = _ from h.obj) (fun e => hne e.symm)
    exact ⟨rfl, ⟨cell_of HO1 0, cell_of HO1 2⟩, ⟨frozen_of HO1 0, frozen_of HO1 2⟩, hL1, hK1, HO1⟩
  clear h hL
  go_enter Try.func23, Try.ntmps23
  go_wp2_with fail
  go_region_with (first | (go_at_call 35; refine HR.mono ?_; rintro e w1 ⟨rfl, ⟨d0, d2⟩, ⟨f0, f2⟩, H1⟩))
  all_goals go_wp2_with fail
  all_goals go_end0
  all_goals
    have hK2 := ((H1.out.2.1.mono (T := fun k => k = vb ∨ k = qb) (fun _ _ e => .inr e)).setCell (p := ⟨vb, 2, none⟩) (fun _ => .inl rfl) (.bool true)).setCell (p := ⟨vb, 0, none⟩) (fun _ => .inl rfl) (.slice none 0 0)
    refine ⟨rfl, (set_obj (set_obj H1.out.2.2 2 _) 0 _).trans (by simp), H1.out.1.keep (S := fun k => k = vb) (((Keep.refl (fun k => k = vb) w1).setCell (p := ⟨vb, 2, none⟩) (fun _ => rfl) (.bool true)).setCell (p := ⟨vb, 0, none⟩) (fun _ => rfl) (.slice none 0 0)) hne, ?_⟩
    exact (keep_drew' (S := fun k => k = vb ∨ k = qb) w 1).trans' hK2

end Go.Proofs.Ytpjbegafhgnebaa
