/-
  The document's own copy: byte by byte.
-/
import Derived.Test.YtpjbegafhgnebaaRefV
import Derived.BigRegion
namespace Go.Proofs.Ytpjbegafhgnebaa
open Go.RowKit Go.Shelf
set_option linter.unusedVariables false

set_option maxHeartbeats 1000000 in
theorem copyV_gone (vb qb s : Nat) (back n : Int) (w : World) (h : IsX w vb qb s) :
    Calls Try.prog 17 #[.pointer (some ⟨vb, 0, none⟩), .int .i64 back, .int .i64 n] w fun e w' => e = .returned (.tuple #[.slice none 0 0, .int .i64 5]) ∧ w' = w := by
  have c2 : w.cell? ⟨vb, 2, none⟩ = some (.bool true) := cell_of h 2
  go_enter Try.func17, Try.ntmps17
  go_wp2_with fail
  go_ret2
  exact ⟨rfl, rfl⟩
set_option maxHeartbeats 1000000 in
theorem copyV_arg (vb qb s : Nat) (bv : Value) (L : List Nat) (back n : Int) (w : World) (h : IsV w vb qb s bv L) (hn : n < 0 ∨ 16777216 < n) :
    Calls Try.prog 17 #[.pointer (some ⟨vb, 0, none⟩), .int .i64 back, .int .i64 n] w fun e w' => e = .returned (.tuple #[.slice none 0 0, .int .i64 2]) ∧ w' = w := by
  have c2 : w.cell? ⟨vb, 2, none⟩ = some (.bool false) := cell_of h.obj 2
  by_cases h0 : n < 0
  · go_enter Try.func17, Try.ntmps17
    go_wp2_with fail
    go_ret2
    exact ⟨rfl, rfl⟩
  · have h1 : 16777216 < n := by omega
    go_enter Try.func17, Try.ntmps17
    go_wp2_with fail
    go_ret2
    exact ⟨rfl, rfl⟩
set_option maxHeartbeats 1000000 in
theorem copyV_far (vb qb s : Nat) (bv : Value) (L : List Nat) (back n : Int) (w : World) (h : IsV w vb qb s bv L) (hn0 : ¬ n < 0) (hn1 : ¬ 16777216 < n) (hb : ¬ (1 ≤ back ∧ back ≤ (s : Int) ∧ back ≤ (L.length : Int))) :
    Calls Try.prog 17 #[.pointer (some ⟨vb, 0, none⟩), .int .i64 back, .int .i64 n] w fun e w' => e = .returned (.tuple #[.slice none 0 0, .int .i64 11]) ∧ w' = w := by
  have c2 : w.cell? ⟨vb, 2, none⟩ = some (.bool false) := cell_of h.obj 2
  have HA := atV_none vb qb s bv L back w h hb
  clear hb
  go_enter Try.func17, Try.ntmps17
  go_wp2_with fail
  refine HA.mono ?_
  rintro e w1 ⟨rfl, rfl⟩
  go_wp2_with fail
  go_ret2
  exact ⟨rfl, rfl⟩

/-- i bytes are copied. -/
structure DoneV (w W : World) (vb qb s : Nat) (bv : Value) (L : List Nat) (back i : Nat) (bv' : Value) : Prop where
  isV : IsV W vb qb s bv' (L ++ outL L back i)
  near : Near w bv bv'
  keep : Keep (fun k => k = vb ∨ bv.ownBlock = some k) w W

section
attribute [local go_sem] sliceSem_eq
set_option maxRecDepth 100000 in
set_option maxHeartbeats 4000000 in
theorem copyV_ok (vb qb s : Nat) (bv : Value) (L : List Nat) (back n : Nat) (w : World) (h : IsV w vb qb s bv L) (h1 : 1 ≤ back) (h2 : back ≤ s) (h3 : back ≤ L.length) (hs : s ≤ 16777216) (hn : n ≤ 16777216) (hl : L.length ≤ 549755813888) :
    Calls Try.prog 17 #[.pointer (some ⟨vb, 0, none⟩), .int .i64 (back : Int), .int .i64 (n : Int)] w fun e w' => ∃ a cap gb off bv', e = .returned (.tuple #[.slice a n cap, .int .i64 0]) ∧ Bytes w' a cap gb off (outL L back n) ∧ DoneV w w' vb qb s bv L back n bv' := by
  have c2 : w.cell? ⟨vb, 2, none⟩ = some (.bool false) := cell_of h.obj 2
  have HA := atV_ok vb qb s bv L back w h h1 h2 h3 hs (by omega)
  have hn0 : ¬ (n : Int) < 0 := by omega
  have hn1 : ¬ 16777216 < (n : Int) := by omega
  obtain ⟨a0, cap0, g0, hbv, hB0, -⟩ := bytes_own h.own h.lt (by omega)
  have HV := (show Hid (IsV w vb qb s bv L) from h)
  have c0 : w.cell? ⟨vb, 0, none⟩ = some (.slice a0 L.length cap0) := by rw [← hbv]; exact cell_of h.obj 0
  clear h hB0
  go_enter Try.func17, Try.ntmps17
  go_wp2_with fail
  refine HA.mono ?_
  rintro e w1 ⟨rfl, m, rfl⟩
  clear HA
  have d0 : (w.drewN m).cell? ⟨vb, 0, none⟩ = some (.slice a0 L.length cap0) := c0
  have km : Keep (fun k => k = vb ∨ bv.ownBlock = some k) w (w.drewN m) := keep_drew' w m
  have HD := (show Hid (DoneV w (w.drewN m) vb qb s bv L back 0 bv) from ⟨by have := HV.out.keep (keep_drewN w m) (fun h => h) (fun _ _ h => h); simpa [outL] using this, Near.refl _ _, km⟩)
  clear c0 km
  generalize w.drewN m = W1 at d0 HD ⊢
  go_wp2_with fail
  clear d0 c2
  go_loopw [11] (fun v wr => ∃ (i : Nat) (bv' : Value), v = .int .i64 (i : Int) ∧ i ≤ n ∧ Hid (DoneV w wr vb qb s bv L back i bv')) (fun v _ => n - (intOf v).toNat)
  case atStart => exact ⟨0, bv, rfl, Nat.zero_le _, HD.out⟩
  case round =>
    clear HD
    obtain ⟨i, bv', rfl, hi, HD⟩ := hrel
    have hol := outL_length L back i
    have hML : (L ++ outL L back i).length = L.length + i := by rw [List.length_append, hol]
    obtain ⟨a1, cap1, g1, hbv1, hB1, -⟩ := bytes_own HD.out.isV.own HD.out.isV.lt (by omega)
    have c0 : wr.cell? ⟨vb, 0, none⟩ = some (.slice a1 (L ++ outL L back i).length cap1) := by rw [← hbv1]; exact cell_of HD.out.isV.obj 0
    by_cases hlt : i < n
    · have hltI : (i : Int) < (n : Int) := by omega
      have hnx := outL_next L back i h1 h3
      have hsucc := outL_succ L back i
      obtain ⟨p, hp⟩ : ∃ p, p = L.length + i - back := ⟨_, rfl⟩
      have hcell := hB1.cells p (by omega)
      rw [Nat.zero_add, hp, hnx, ← hp] at hcell
      rw [hML] at c0
      have hltx : L[L.length - back + i % back]?.getD 0 < 256 := HV.out.lt _
      generalize L[L.length - back + i % back]?.getD 0 = x at hcell hsucc hltx
      obtain rfl : a1 = some ⟨g1, 0, none⟩ := hB1.at_.resolve_right (by intro e; rw [e] at hML; simp at hML; omega)
      obtain ⟨N, hN⟩ : ∃ N, N = L.length + i := ⟨_, rfl⟩
      rw [← hN] at c0
      have hsub : IntKind.i64.wrap ((N : Int) - (back : Int)) = (p : Int) := by rw [IntKind.wrap_i64]; omega
      have hpI : (p : Int) < (N : Int) := by omega
      have hp0 : (0 : Int) ≤ (p : Int) := by omega
      have hpN : p < N := by omega
      -- the world in which append is called
      obtain ⟨W2, hW2⟩ : ∃ W2, W2 = (wr.alloc (.cells #[.int .u8 (x : Int)] 5)).drew := ⟨_, rfl⟩
      have k2 : Keep noBlock wr W2 := by rw [hW2]; exact ((Keep.refl _ wr).alloc _).drew
      have r2 : W2.heap[wr.heap.size]? = some (.cells (u8s [x]).toArray 5 (0, 0)) := by rw [hW2]; exact alloc_new wr _
      have hV2 := HD.out.isV.keep k2 (fun h => h) (fun _ _ h => h)
      have hs1 : SrcB W2 (.slice (some ⟨wr.heap.size, 0, none⟩) 1 1) [x] := by
        refine .inr ⟨⟨wr.heap.size, 0, none⟩, 1, rfl, fun j u hu => ?_⟩
        rw [add0, cell_of r2 j, List.getElem?_toArray]; exact hu
      obtain ⟨v3, W3, hr3, own3, k3, n3⟩ := run_append_all W2 38 bv' (L ++ outL L back i) [x] hV2.own (by rw [hML]; simp; omega) _ hs1
      have hw3 : bv'.ownBlock ≠ some vb := owns_ne hV2.own hV2.obj (by decide)
      have o3 := k3.obj hV2.obj hw3
      have e0 : W3.cell? ⟨vb, 0, none⟩ = some (.slice (some ⟨g1, 0, none⟩) N cap1) := by have := cell_of o3 0; rw [hbv1, hML, ← hN] at this; exact this
      have f0 := frozen_of o3 0
      have hw4 : v3.ownBlock ≠ some vb := owns_ne own3 o3 (by decide)
      have own4 : (W3.setCell ⟨vb, 0, none⟩ v3).ownsRow 0 5 1 v3 (L ++ outL L back i ++ [x]).length (u8s (L ++ outL L back i ++ [x])) := owns_kept own3 ((Keep.refl (fun k => k = vb) W3).setCell (p := ⟨vb, 0, none⟩) (fun _ => rfl) _) (fun g hg e => hw4 (by rw [hg, e]))
      have hlx : ∀ j : Nat, [x][j]?.getD 0 < 256 := by intro j; cases j with | zero => exact hltx | succ j => simp
      have hV4 : IsV (W3.setCell ⟨vb, 0, none⟩ v3) vb qb s v3 (L ++ outL L back (i + 1)) := by
        rw [hsucc, ← List.append_assoc]
        exact ⟨(set_obj o3 0 _).trans (by simp), own4, lt_app HD.out.isV.lt hlx⟩
      have hk4 : Keep (fun k => k = vb ∨ bv.ownBlock = some k) w (W3.setCell ⟨vb, 0, none⟩ v3) := by
        refine ((HD.out.keep.trans k2 (fun _ _ h => h.elim)).trans k3 (fun j hj e => ?_)).setCell (p := ⟨vb, 0, none⟩) (fun _ => .inl rfl) _
        rcases HD.out.near with q | ⟨k, q, hk⟩
        · exact .inr (q ▸ e)
        · rw [q] at e
          have : k = j := by simpa using e
          omega
      have HF := (show Hid (DoneV w (W3.setCell ⟨vb, 0, none⟩ v3) vb qb s bv L back (i + 1) v3) from ⟨hV4, HD.out.near.trans (show Near W2 bv' v3 from n3) (by have := HD.out.keep.size; have := k2.size; omega), hk4⟩)
      obtain ⟨va, vn, vc, rfl⟩ : ∃ va vn vc, v3 = .slice va vn vc := by
        rcases own3.2 with ⟨e, _⟩ | ⟨g, c', cur, e, _⟩
        · exact ⟨_, _, _, e⟩
        · exact ⟨_, _, _, e⟩
      rw [hbv1, hML, ← hN] at hr3
      rw [hW2] at hr3
      have e1 : (wr.alloc (.cells #[.int .u8 (x : Int)] 5)).cell? ⟨vb, 0, none⟩ = some (.slice (some ⟨g1, 0, none⟩) N cap1) := by
        have := cell_of (((Keep.refl noBlock wr).alloc (.cells #[.int .u8 (x : Int)] 5)).obj HD.out.isV.obj (fun h => h)) 0
        rw [hbv1, hML, ← hN] at this; exact this
      clear own3 own4 k3 n3 hw3 hw4 o3 hV2 hV4 hk4 hlx hs1 k2 r2 hW2 HD hbv1 hB1 hML hol hnx hsucc hp hN
      go_wp2_with fail
      go_region_law (refine step_append_run _ (by rfl) _ _ 38 (by rfl) (.slice (some ⟨g1, 0, none⟩) N cap1) (.slice (some ⟨wr.heap.size, 0, none⟩) 1 1) (.slice va vn vc) W3 (by rfl) (by rfl) hr3 ?_)
      all_goals go_wp2_with fail
      all_goals go_roundw
      all_goals first | exact ⟨i + 1, _, by go_num, by omega, HF.out⟩ | (simp [intOf]; omega)
    · obtain rfl : i = n := by omega
      obtain ⟨a2, off2, hsl, hB2, -⟩ := hB1.drop L.length (by omega)
      rw [List.drop_left' (show L.length = L.length from rfl), hol, hML] at hsl
      rw [List.drop_left' (show L.length = L.length from rfl)] at hB2
      rw [hML] at c0
      have HF := (show Hid (Bytes wr a2 (cap1 - L.length) g1 off2 (outL L back i) ∧ DoneV w wr vb qb s bv L back i bv') from ⟨hB2, HD.out⟩)
      generalize cap1 - L.length = c2 at hsl HF
      clear hB1 hB2 HD hbv1 hML hol
      obtain ⟨N, hN⟩ : ∃ N, N = L.length + i := ⟨_, rfl⟩
      rw [← hN] at c0 hsl
      clear hN
      go_wp2_with fail
      go_ret2
      exact ⟨a2, c2, g1, off2, bv', rfl, HF.out⟩
end
end Go.Proofs.Ytpjbegafhgnebaa
