/-
  Pick finds the least back that means a distance.
  The statements' own example.
  Codes are given their values: spread.
  The codings, as plain lists and as they lie.
  codings: what its walk leans on.
  codings: the codings of all kinds of values, in new memory.
-/
import Derived.Laws.StructEq
import Derived.ChangeKeysEq
import Derived.Deep.MidRow
import Derived.Test.YtgaepmmpedaaiaaGreatDoorBackQ7
namespace Go.Proofs.YtgaepmmpedaaiaaGreatDoor
open Go.RowKit Go.Shelf
set_option linter.unusedVariables false

/-- The least back that means d; 0, if there is none. -/
def pickN (r0 r1 r2 : Int) (z : Bool) (d : Int) : Int :=
  if d < 1 then 0 else if meantD r0 r1 r2 z 1 = d then 1 else if meantD r0 r1 r2 z 2 = d then 2 else if meantD r0 r1 r2 z 3 = d then 3 else if 9223372036854775804 < d then 0 else d + 3

theorem pick_small (b : Nat) (lits d : Int) (hd : d < 1) (w : World) :
    Calls Tryz.prog 24 #[.pointer (some ⟨b, 0, none⟩), .int .i64 lits, .int .i64 d] w fun e w' => e = .returned (.int .i64 0) ∧ w' = w := by
  have hd1 : decide (d < 1) = true := decide_eq_true hd
  go_enter Tryz.func24, Tryz.ntmps24
  go_wp2_with fail
  go_ret
  exact ⟨rfl, rfl⟩

set_option maxHeartbeats 1000000 in
theorem pick_any (b : Nat) (r0 r1 r2 lits d : Int) (hd : 1 ≤ d) (hd2 : d ≤ 9223372036854775807) (hr : r0 ≤ 9223372036854775807) (w : World) (h : IsRep w b r0 r1 r2) :
    Calls Tryz.prog 24 #[.pointer (some ⟨b, 0, none⟩), .int .i64 lits, .int .i64 d] w fun e w' => e = .returned (.int .i64 (pickN r0 r1 r2 (lits == 0) d)) ∧ w' = w := by
  have H1 := hid (meant_any b r0 r1 r2 lits 1 (by omega) (by omega) hr w h)
  have H2 := hid (meant_any b r0 r1 r2 lits 2 (by omega) (by omega) hr w h)
  have H3 := hid (meant_any b r0 r1 r2 lits 3 (by omega) (by omega) hr w h)
  rw [show (((1 : Nat) : Int)) = (1 : Int) from rfl] at H1
  rw [show (((2 : Nat) : Int)) = (2 : Int) from rfl] at H2
  rw [show (((3 : Nat) : Int)) = (3 : Int) from rfl] at H3
  have hd1 : decide (d < 1) = false := decide_eq_false (by omega)
  unfold pickN
  rw [if_neg (by omega)]
  generalize meantD r0 r1 r2 (lits == 0) 1 = d1 at *
  generalize meantD r0 r1 r2 (lits == 0) 2 = d2 at *
  generalize meantD r0 r1 r2 (lits == 0) 3 = d3 at *
  generalize meantM r0 (lits == 0) 1 = m1 at *
  generalize meantM r0 (lits == 0) 2 = m2 at *
  generalize meantM r0 (lits == 0) 3 = m3 at *
  clear h hr
  by_cases e1 : d1 = d
  · subst e1
    go_enter Tryz.func24, Tryz.ntmps24
    go_wp2_with fail
    refine wp_loop_rounds 1 ?_
    rw [rounds_succ]
    go_wp2_with (go_at_call 46; refine H1.out.mono ?_; rintro e w' ⟨rfl, rfl⟩; clear H1)
    go_ret
    exact ⟨rfl, rfl⟩
  · have g1 : (d1 == d) = false := by simpa using e1
    rw [if_neg e1]
    by_cases e2 : d2 = d
    · subst e2
      go_enter Tryz.func24, Tryz.ntmps24
      go_wp2_with fail
      refine wp_loop_rounds 2 ?_
      rw [rounds_succ]
      go_wp2_with (go_at_call 46; refine H1.out.mono ?_; rintro e w' ⟨rfl, rfl⟩; clear H1)
      rw [rounds_succ]
      go_wp2_with (go_at_call 46; refine H2.out.mono ?_; rintro e w' ⟨rfl, rfl⟩; clear H2)
      go_ret
      exact ⟨rfl, rfl⟩
    · have g2 : (d2 == d) = false := by simpa using e2
      rw [if_neg e2]
      by_cases e3 : d3 = d
      · subst e3
        go_enter Tryz.func24, Tryz.ntmps24
        go_wp2_with fail
        refine wp_loop_rounds 3 ?_
        rw [rounds_succ]
        go_wp2_with (go_at_call 46; refine H1.out.mono ?_; rintro e w' ⟨rfl, rfl⟩; clear H1)
        rw [rounds_succ]
        go_wp2_with (go_at_call 46; refine H2.out.mono ?_; rintro e w' ⟨rfl, rfl⟩; clear H2)
        rw [rounds_succ]
        go_wp2_with (go_at_call 46; refine H3.out.mono ?_; rintro e w' ⟨rfl, rfl⟩; clear H3)
        go_ret
        exact ⟨rfl, rfl⟩
      · have g3 : (d3 == d) = false := by simpa using e3
        rw [if_neg e3]
        by_cases e4 : 9223372036854775804 < d
        · have g4 : decide (9223372036854775804 < d) = true := decide_eq_true e4
          rw [if_pos e4]
          go_enter Tryz.func24, Tryz.ntmps24
          go_wp2_with fail
          refine wp_loop_rounds 4 ?_
          rw [rounds_succ]
          go_wp2_with (go_at_call 46; refine H1.out.mono ?_; rintro e w' ⟨rfl, rfl⟩; clear H1)
          rw [rounds_succ]
          go_wp2_with (go_at_call 46; refine H2.out.mono ?_; rintro e w' ⟨rfl, rfl⟩; clear H2)
          rw [rounds_succ]
          go_wp2_with (go_at_call 46; refine H3.out.mono ?_; rintro e w' ⟨rfl, rfl⟩; clear H3)
          rw [rounds_succ]
          go_wp2_with fail
          go_ret
          exact ⟨rfl, rfl⟩
        · have g4 : decide (9223372036854775804 < d) = false := decide_eq_false e4
          have g5 : wrap64 (d + 3) = d + 3 := by unfold wrap64; omega
          rw [if_neg e4]
          go_enter Tryz.func24, Tryz.ntmps24
          go_wp2_with fail
          refine wp_loop_rounds 4 ?_
          rw [rounds_succ]
          go_wp2_with (go_at_call 46; refine H1.out.mono ?_; rintro e w' ⟨rfl, rfl⟩; clear H1)
          rw [rounds_succ]
          go_wp2_with (go_at_call 46; refine H2.out.mono ?_; rintro e w' ⟨rfl, rfl⟩; clear H2)
          rw [rounds_succ]
          go_wp2_with (go_at_call 46; refine H3.out.mono ?_; rintro e w' ⟨rfl, rfl⟩; clear H3)
          rw [rounds_succ]
          go_wp2_with fail
          go_ret
          exact ⟨rfl, rfl⟩
end Go.Proofs.YtgaepmmpedaaiaaGreatDoor

namespace Go.Proofs.YtgaepmmpedaaiaaGreatDoor
open Go.RowKit Go.Shelf
set_option linter.unusedVariables false

theorem slice_one (g : Nat) (W : World) : (sliceSem 22 (.slice (some ⟨g, 0, none⟩) 1 1) (some (.int .i64 1)) none none).run Tryz.prog W = .ok (.slice (some ⟨g, 0, none⟩) 0 0) W := by kernel_rfl
theorem slice_two (g : Nat) (W : World) : (sliceSem 22 (.slice (some ⟨g, 0, none⟩) 2 2) (some (.int .i64 1)) none none).run Tryz.prog W = .ok (.slice (some ⟨g, 1, none⟩) 1 1) W := by kernel_rfl

theorem eql_rep (a b c : Int) (W : World) : (Op.equalIn 10000 80 (.agg #[.int .i64 a, .int .i64 b, .int .i64 c]) (.agg #[.int .i64 a, .int .i64 b, .int .i64 c])).run Tryz.prog W = .ok true W := by
  obtain ⟨i, hi⟩ : ∃ i, Tryz.prog.info? 3 = some i := by
    have h := size3
    cases hq : Tryz.prog.info? 3 with
    | none => simp [hq] at h
    | some i => exact ⟨i, rfl⟩
  have hc : Tryz.prog.cellsOf 3 = 1 := by kernel_rfl
  rw [show (10000 : Nat) = 9999 + 1 from rfl, run_equalIn_array W 9999 _ _ Tryz.underlying80 hi, hc]
  have hp : ∀ (xs : Array Value) (k : Nat) (v : Value), xs[k]? = some v → (part 3 xs k).run Tryz.prog W = .ok v W := fun xs k v hv => by
    simp [part, isAgg, run_underlying Tryz.underlying3, hv]
  have he : ∀ x : Int, (Op.equalIn 9999 3 (.int .i64 x) (.int .i64 x)).run Tryz.prog W = .ok true W := fun x => by
    rw [show (9999 : Nat) = 9998 + 1 from rfl, run_equalIn_int W 9998 3 .i64 .i64 x x Tryz.underlying3]
    simp
  have e0 := fun (v : Value) => hp #[.int .i64 a, .int .i64 b, .int .i64 c] 0 v
  have e1 := fun (v : Value) => hp #[.int .i64 a, .int .i64 b, .int .i64 c] 1 v
  have e2 := fun (v : Value) => hp #[.int .i64 a, .int .i64 b, .int .i64 c] 2 v
  simp [Op.eqItems, List.range, List.range.loop, e0 _ rfl, e1 _ rfl, e2 _ rfl, he]
set_option maxRecDepth 10000 in
set_option maxHeartbeats 4000000 in
theorem wakes_any (w : World) : Calls Tryz.prog 10 #[] w fun e w' => e = .returned (.bool true) ∧ Keep noBlock w w' := by
  have HR1 := (show Hid (∀ W : World, Calls Tryz.prog 6 #[.slice (some ⟨W.heap.size, 0, none⟩) 1 1, .agg #[.slice none 0 0, .slice none 0 0, .slice none 0 0]] (W.alloc (.cells #[.int .u8 0] 5)) fun e w' => e = .returned (.tuple #[.slice none 0 0, .agg #[.slice none 0 0, .slice none 0 0, .slice none 0 0], .int .i64 0]) ∧ Keep noBlock W w') from fun W => by
    refine (read_nought W.heap.size 1 (W.alloc (.cells #[.int .u8 0] 5)) (by rw [cell_of (alloc_new W _)]; rfl) (by simp) 0 _ (slice_one _)).mono ?_
    rintro e w' ⟨rfl, k⟩
    exact ⟨rfl, ((Keep.refl _ W).alloc _).trans k (fun _ _ h => h)⟩)
  have HR2 := (show Hid (∀ (W : World) (n : Nat), n = W.heap.size → Calls Tryz.prog 6 #[.slice (some ⟨n, 0, none⟩) 2 2, .agg #[.slice none 0 0, .slice none 0 0, .slice none 0 0]] (W.alloc (.cells #[.int .u8 0, .int .u8 0] 5)) fun e w' => e = .returned (.tuple #[.slice none 0 0, .agg #[.slice none 0 0, .slice none 0 0, .slice none 0 0], .int .i64 11]) ∧ Keep noBlock W w') from fun W n hn => by
    subst hn
    refine (read_more W.heap.size 2 (W.alloc (.cells #[.int .u8 0, .int .u8 0] 5)) (by rw [cell_of (alloc_new W _)]; rfl) (by simp) 1 _ (slice_two _)).mono ?_
    rintro e w' ⟨rfl, k⟩
    exact ⟨rfl, ((Keep.refl _ W).alloc _).trans k (fun _ _ h => h)⟩)
  have heq := eql_rep 4 1 8
  go_enter Tryz.func10, Tryz.ntmps10
  go_wp2_with fail
  refine (HR1.out _).mono ?_
  rintro e w1 ⟨rfl, k1⟩
  have HK1 := (show Hid (Keep noBlock w (w1.alloc (.cells #[.slice none 0 0, .slice none 0 0, .slice none 0 0] 26))) from k1.alloc _)
  clear k1 HR1
  go_wp2_with fail
  refine (HR2.out _ (w1.heap.size + 1) (by simp)).mono ?_
  rintro e w2 ⟨rfl, k2⟩
  have k3 : Keep noBlock w (w2.alloc (.cells #[.slice none 0 0, .slice none 0 0, .slice none 0 0] 26)) := (HK1.out.trans k2 (fun _ _ h => h)).alloc _
  clear k2 HR2 HK1
  go_wp2_with fail
  generalize hW3 : w2.alloc (.cells #[.slice none 0 0, .slice none 0 0, .slice none 0 0] 26) = W3 at *
  have hsz : w2.heap.size + 1 = W3.heap.size := by rw [← hW3]; simp
  clear hW3
  rw [hsz]
  have hrep : IsRep (W3.alloc (.cells #[.int .i64 1, .int .i64 4, .int .i64 8] 80)) W3.heap.size 1 4 8 := alloc_new W3 _
  have k4 : Keep noBlock w (W3.alloc (.cells #[.int .i64 1, .int .i64 4, .int .i64 8] 80)) := k3.alloc _
  have HV := hid (value_ok W3.heap.size 1 4 8 5 2 (by omega) (by omega) (by omega) (by decide) _ hrep)
  have HB := (show Hid (w.heap.size ≤ W3.heap.size) from k3.size)
  have HK4 := hid k4
  generalize W3.alloc (.cells #[.int .i64 1, .int .i64 4, .int .i64 8] 80) = W4 at *
  generalize W3.heap.size = b at *
  clear hrep k4 k3 hsz
  rw [show meantD 1 4 8 ((5 : Int) == 0) 2 = 4 from rfl, show meantM 1 ((5 : Int) == 0) 2 = 1 from rfl, show (movedR 1 4 8 1).2.1 = 1 from rfl, show (movedR 1 4 8 1).2.2 = 8 from rfl, show (((2 : Nat) : Int)) = (2 : Int) from rfl] at HV
  refine HV.out.mono ?_
  rintro e w5 ⟨rfl, hr5, k5⟩
  have c0 : w5.cell? ⟨b, 0, none⟩ = some (.int .i64 4) := by rw [cell_of hr5]; rfl
  have c1 : w5.cell? ⟨b, 1, none⟩ = some (.int .i64 1) := by rw [cell_of hr5]; rfl
  have c2 : w5.cell? ⟨b, 2, none⟩ = some (.int .i64 8) := by rw [cell_of hr5]; rfl
  have HP := hid (pick_any b 4 1 8 5 100 (by omega) (by omega) (by omega) w5 hr5)
  rw [show pickN 4 1 8 ((5 : Int) == 0) 100 = 103 from rfl] at HP
  have HK5 := (show Hid (Keep noBlock w w5) from HK4.out.trans k5 (fun i hi e => by have := HB.out; omega))
  clear hr5 k5 HV HK4 HB
  go_wp2_with (go_at_call 24; refine HP.out.mono ?_; rintro e w6 ⟨rfl, rfl⟩)
  go_ret
  exact ⟨rfl, HK5.out⟩
end Go.Proofs.YtgaepmmpedaaiaaGreatDoor

namespace Go.Proofs.YtgaepmmpedaaiaaGreatDoor
open Go.RowKit Go.Shelf
set_option linter.unusedVariables false

/-- The cells of codings behind the spreading of some extra bits: at o stands a coding, i codes are spread. -/
def sprN (o : Nat) : List Nat → Nat → Nat → Array Value → Array Value
  | [], _, _, cs => cs
  | e :: es, i, f, cs => sprN o es (i + 1) ((f + 2 ^ e) % 4294967296) ((cs.setIfInBounds (o + 1 + i) (.int .u32 (f : Int))).setIfInBounds (o + 54 + i) (.int .u8 (e : Int)))

section
set_option maxHeartbeats 2000000 in
theorem spread_any (b o first : Nat) (g off cap : Nat) (es : List Nat) (cs : Array Value) (w : World) (hb : w.heap[b]? = some (.cells cs 58 (0, 0))) (hs : o + 110 ≤ cs.size) (hf : first < 4294967296)
    (hR : Bytes w (some ⟨g, off, none⟩) cap g off es) (hne : g ≠ b) (hl : es.length ≤ 53) (he : ∀ e ∈ es, e < 32) :
    Calls Tryz.prog 30 #[.pointer (some ⟨b, o, none⟩), .int .u32 (first : Int), .slice (some ⟨g, off, none⟩) es.length cap] w fun e w' => e = .returned (.tuple #[]) ∧
      w'.heap[b]? = some (.cells (sprN o es 0 first (cs.setIfInBounds o (.int .i64 (es.length : Int)))) 58 (0, 0)) ∧ Keep (fun k => k = b) w w' := by
  have z0 : w.frozen? ⟨b, o, none⟩ = false := frozen_of hb o
  obtain ⟨u, hu⟩ : ∃ u, cs[o]? = some u := ⟨_, Array.getElem?_eq_getElem (by omega)⟩
  have c0 : w.cell? ⟨b, o, none⟩ = some u := by rw [cell_of hb, hu]
  obtain ⟨n, hn⟩ : ∃ n, n = es.length := ⟨_, rfl⟩
  rw [← hn]
  have hnI : (n : Int) ≤ 53 := by omega
  have hnw : IntKind.i64.wrap (n : Int) = (n : Int) := by rw [IntKind.wrap_i64]; omega
  obtain ⟨cs1, hcs1⟩ : ∃ cs1, cs1 = cs.setIfInBounds o (.int .i64 (n : Int)) := ⟨_, rfl⟩
  have hb1 : (w.setCell ⟨b, o, none⟩ (.int .i64 (n : Int))).heap[b]? = some (.cells cs1 58 (0, 0)) := by rw [hcs1]; exact set_obj hb o _
  rw [← hcs1]
  have hk1 : Keep (fun k => k = b) w (w.setCell ⟨b, o, none⟩ (.int .i64 (n : Int))) := (Keep.refl (fun k => k = b) w).setCell (p := ⟨b, o, none⟩) (fun _ => rfl) _
  have HB := (show Hid (Bytes w (some ⟨g, off, none⟩) cap g off es ∧ n = es.length ∧ (∀ e ∈ es, e < 32) ∧ o + 110 ≤ cs1.size) from ⟨hR, hn, he, by rw [hcs1, Array.size_setIfInBounds]; exact hs⟩)
  have HS := (show Hid (sprN o (es.drop 0) 0 first cs1 = sprN o es 0 first cs1) from by rw [List.drop_zero]; exact rfl)
  clear hR hb hn hl he hu hcs1 hs
  go_enter Tryz.func30, Tryz.ntmps30
  go_wp2_with fail
  generalize w.setCell ⟨b, o, none⟩ (.int .i64 (n : Int)) = W1 at *
  clear c0 z0
  go_loopw [1, 15] (fun v1 v15 wr => ∃ i f : Nat, v15 = .int .i64 (i : Int) ∧ v1 = .int .u32 (f : Int) ∧ i ≤ n ∧ Hid (∃ cur, wr.heap[b]? = some (.cells cur 58 (0, 0)) ∧ cur.size = cs1.size ∧ f < 4294967296 ∧ sprN o (es.drop i) i f cur = sprN o es 0 first cs1 ∧ Keep (fun k => k = b) w wr)) (fun _ v15 _ => n - (intOf v15).toNat)
  case atStart => exact ⟨0, first, rfl, rfl, Nat.zero_le _, cs1, hb1, rfl, hf, HS.out, hk1⟩
  case round =>
    clear hb1 hk1 HS hf
    obtain ⟨i, f, rfl, rfl, hi, HC⟩ := hrel
    by_cases hlt : i < n
    · have hltI : (i : Int) < (n : Int) := by omega
      obtain ⟨cur, h1, h2, h3, h4, h5⟩ := HC.out
      have hix : i < es.length := by have := HB.out.2.1; omega
      have c1 := (HB.out.1.keep h5 (fun _ => hne)).cells i hix
      obtain ⟨x, hx⟩ : ∃ x, x = es[i]?.getD 0 := ⟨_, rfl⟩
      rw [← hx] at c1
      have hxe : es.drop i = x :: es.drop (i + 1) := by
        rw [List.drop_eq_getElem_cons hix, hx, List.getElem?_eq_getElem hix]; rfl
      have hx32 : x < 32 := HB.out.2.2.1 x (by rw [hx, List.getElem?_eq_getElem hix]; exact List.getElem_mem _)
      have hsz := HB.out.2.2.2
      obtain ⟨p, hp⟩ : ∃ p, cur[o + 1 + i]? = some p := ⟨_, Array.getElem?_eq_getElem (by omega)⟩
      obtain ⟨q, hq⟩ : ∃ q, (cur.setIfInBounds (o + 1 + i) (.int .u32 (f : Int)))[o + 54 + i]? = some q := ⟨_, Array.getElem?_eq_getElem (by rw [Array.size_setIfInBounds]; omega)⟩
      have G : ∀ W : World, W.heap = wr.heap → W.cell? ⟨b, o + 1 + i, none⟩ = some p ∧ W.frozen? ⟨b, o + 1 + i, none⟩ = false ∧ (W.setCell ⟨b, o + 1 + i, none⟩ (.int .u32 (f : Int))).cell? ⟨b, o + 54 + i, none⟩ = some q ∧ (W.setCell ⟨b, o + 1 + i, none⟩ (.int .u32 (f : Int))).frozen? ⟨b, o + 54 + i, none⟩ = false := fun W hW => by
        have g1 : W.heap[b]? = some (.cells cur 58 (0, 0)) := by rw [hW]; exact h1
        have g2 := set_obj g1 (o + 1 + i) (.int .u32 (f : Int))
        exact ⟨by rw [cell_of g1, hp], frozen_of g1 _, by rw [cell_of g2, hq], frozen_of g2 _⟩
      obtain ⟨d1, z1, d2, z2⟩ := G (wr.drewN 1) rfl
      obtain ⟨d1', z1', d2', z2'⟩ := G wr rfl
      obtain ⟨d1'', z1'', d2'', z2''⟩ := G wr.drew rfl
      obtain ⟨f', hf'⟩ : ∃ f', f' = (f + 2 ^ x) % 4294967296 := ⟨_, rfl⟩
      have HE := (show Hid (∀ W : World, W.heap = wr.heap → W.os = wr.os → W.tape = wr.tape → W.output = wr.output → ∃ cur, ((W.setCell ⟨b, o + 1 + i, none⟩ (.int .u32 (f : Int))).setCell ⟨b, o + 54 + i, none⟩ (.int .u8 (x : Int))).heap[b]? = some (.cells cur 58 (0, 0)) ∧ cur.size = cs1.size ∧ f' < 4294967296 ∧ sprN o (es.drop (i + 1)) (i + 1) f' cur = sprN o es 0 first cs1 ∧ Keep (fun k => k = b) w ((W.setCell ⟨b, o + 1 + i, none⟩ (.int .u32 (f : Int))).setCell ⟨b, o + 54 + i, none⟩ (.int .u8 (x : Int)))) from fun W e1 e2 e3 e4 => by
        have g1 : W.heap[b]? = some (.cells cur 58 (0, 0)) := by rw [e1]; exact h1
        have g2 := set_obj g1 (o + 1 + i) (.int .u32 (f : Int))
        refine ⟨_, set_obj g2 (o + 54 + i) _, by rw [Array.size_setIfInBounds, Array.size_setIfInBounds]; exact h2, by omega, ?_, ?_⟩
        · rw [hxe] at h4
          rw [hf', ← h4]
          rfl
        · exact ((h5.same e1 e2 e3 e4).setCell (p := ⟨b, o + 1 + i, none⟩) (fun _ => rfl) _).setCell (p := ⟨b, o + 54 + i, none⟩) (fun _ => rfl) _)
      have hxI : (x : Int) < 32 := by omega
      have hiI : (i : Int) < 53 := by omega
      have hi53 : i < 53 := by omega
      have hfw : ((f : Int) + 2 ^ x % 4294967296) % 4294967296 = (f' : Int) := by
        rw [hf', show ((2 : Int) ^ x) = ((2 ^ x : Nat) : Int) from by simp]
        omega
      clear h1 h2 h3 h4 h5 hp hq hx hxe hix hsz HC hf' G
      go_wp2_with fail
      go_region_held3 (fun _ => True) (trivial) ((fail))
      go_wp2_with fail
      go_roundw
      case rel =>
        obtain ⟨cur, q1, q2, q3, q4, q5⟩ := HE.out wr rfl rfl rfl rfl
        exact ⟨i + 1, f', by go_num, by rw [hfw], by omega, cur, q1, q2, q3, q4, q5.drew⟩
      case measure => simp [intOf]; omega
    · obtain rfl : i = n := by omega
      have hltI : ¬ (i : Int) < (i : Int) := by omega
      obtain ⟨cur, h1, h2, h3, h4, h5⟩ := HC.out
      have HD := (show Hid (wr.heap[b]? = some (.cells (sprN o es 0 first cs1) 58 (0, 0)) ∧ Keep (fun k => k = b) w wr) from by
        rw [List.drop_eq_nil_of_le (by have := HB.out.2.1; omega)] at h4
        rw [← h4]
        exact ⟨h1, h5⟩)
      clear h1 h2 h3 h4 h5 HC
      go_wp2_with fail
      go_end0
      exact ⟨rfl, HD.out⟩
end
end Go.Proofs.YtgaepmmpedaaiaaGreatDoor

namespace Go.Proofs.YtgaepmmpedaaiaaGreatDoor
open Go.RowKit Go.Shelf
set_option linter.unusedVariables false

/-- Extra bits by code. -/
def eL : List Nat := [0, 0, 0, 0, 0, 0, 0, 0, 0, 0, 0, 0, 0, 0, 0, 0, 1, 1, 1, 1, 2, 2, 3, 3, 4, 6, 7, 8, 9, 10, 11, 12, 13, 14, 15, 16]
def eB : List Nat := [0, 1, 2, 3, 4, 5, 6, 7, 8, 9, 10, 11, 12, 13, 14, 15, 16, 17, 18, 19, 20, 21, 22, 23, 24, 25, 26, 27, 28, 29, 30, 31]
def eM : List Nat := [0, 0, 0, 0, 0, 0, 0, 0, 0, 0, 0, 0, 0, 0, 0, 0, 0, 0, 0, 0, 0, 0, 0, 0, 0, 0, 0, 0, 0, 0, 0, 0, 1, 1, 1, 1, 2, 2, 3, 3, 4, 4, 5, 7, 8, 9, 10, 11, 12, 13, 14, 15, 16]
/-- Counts of the tables that are not told. -/
def cL : List Int := [4, 3, 2, 2, 2, 2, 2, 2, 2, 2, 2, 2, 2, 1, 1, 1, 2, 2, 2, 2, 2, 2, 2, 2, 2, 3, 2, 1, 1, 1, 1, 1, -1, -1, -1, -1]
def cB : List Int := [1, 1, 1, 1, 1, 1, 2, 2, 2, 1, 1, 1, 1, 1, 1, 1, 1, 1, 1, 1, 1, 1, 1, 1, -1, -1, -1, -1, -1]
def cM : List Int := [1, 4, 3, 2, 2, 2, 2, 2, 2, 1, 1, 1, 1, 1, 1, 1, 1, 1, 1, 1, 1, 1, 1, 1, 1, 1, 1, 1, 1, 1, 1, 1, 1, 1, 1, 1, 1, 1, 1, 1, 1, 1, 1, 1, 1, 1, -1, -1, -1, -1, -1, -1, -1]
/-- The least values by code: each code begins where the one ahead of it ends. -/
def leastsF : Nat → List Nat → List Nat
  | _, [] => []
  | f, e :: es => f :: leastsF ((f + 2 ^ e) % 4294967296) es
def pad (n : Nat) (l : List Nat) : List Nat := l ++ List.replicate (n - l.length) 0
/-- A coding, cell by cell. -/
def codL (first : Nat) (es : List Nat) (ml l : Nat) (v : Value) : List Value :=
  .int .i64 (es.length : Int) :: ((pad 53 (leastsF first es)).map (fun x => Value.int .u32 ((x : Nat) : Int)) ++ (pad 53 es).map (fun x => Value.int .u8 ((x : Nat) : Int)) ++ [.int .i64 (ml : Int), .int .i64 (l : Int), v])
def codA (v0 v1 v2 : Value) : List Value := codL 0 eL 9 6 v0 ++ codL 1 eB 8 5 v1 ++ codL 3 eM 9 6 v2

/-- Cells of a block set one by one. -/
def setAll : Array Value → Nat → List Value → Array Value
  | cs, _, [] => cs
  | cs, o, v :: vs => setAll (cs.setIfInBounds o v) (o + 1) vs
def raw57 (ml l : Nat) (v : Value) : List Value := .int .i64 0 :: (List.replicate 53 (Value.int .u32 0) ++ List.replicate 53 (Value.int .u8 0) ++ [.int .i64 (ml : Int), .int .i64 (l : Int), v])
def stepC (o first : Nat) (es : List Nat) (ml l : Nat) (v : Value) (cs : Array Value) : Array Value := sprN o es 0 first ((setAll cs o (raw57 ml l v)).setIfInBounds o (.int .i64 (es.length : Int)))
theorem codA_made (v0 v1 v2 : Value) : stepC 220 3 eM 9 6 v2 (stepC 110 1 eB 8 5 v1 (stepC 0 0 eL 9 6 v0 Tryz.zeroCells58)) = (codA v0 v1 v2).toArray := by
  kernel_rfl
end Go.Proofs.YtgaepmmpedaaiaaGreatDoor

namespace Go.Proofs.YtgaepmmpedaaiaaGreatDoor
open Go.RowKit Go.Shelf
set_option linter.unusedVariables false

def buildSem (t : TypeId) (parts : Array (Nat × Value)) : Sem Value := Instr.build t parts
theorem buildSem_eq (t : TypeId) (parts : Array (Nat × Value)) : Instr.build t parts = buildSem t parts := rfl
def storeAtSem (t : TypeId) (p v : Value) : Sem Unit := Instr.storeAt t p v
theorem storeAtSem_eq (t : TypeId) (p v : Value) : Instr.storeAt t p v = storeAtSem t p v := rfl
def loadAtSem (t : TypeId) (p : Value) : Sem Value := Instr.loadAt t p
theorem loadAtSem_eq (t : TypeId) (p : Value) : Instr.loadAt t p = loadAtSem t p := rfl

theorem setAll_size : ∀ (vs : List Value) (o : Nat) (cs : Array Value), (setAll cs o vs).size = cs.size
  | [], _, _ => rfl
  | v :: vs, o, cs => by rw [setAll, setAll_size, Array.size_setIfInBounds]
theorem setCells_obj (b t : Nat) : ∀ (vs : List Value) (o : Nat) (cs : Array Value) (w : World), w.heap[b]? = some (.cells cs t (0, 0)) → (w.setCells b o vs).heap[b]? = some (.cells (setAll cs o vs) t (0, 0))
  | [], _, _, _, h => h
  | v :: vs, o, cs, w, h => setCells_obj b t vs (o + 1) _ _ (set_obj h o v)
theorem keep_setCells {S : Nat → Prop} {a : World} (b : Nat) (hb : b < a.heap.size → S b) : ∀ (vs : List Value) (o : Nat) (w : World), Keep S a w → Keep S a (w.setCells b o vs)
  | [], _, _, h => h
  | v :: vs, o, w, h => keep_setCells b hb vs (o + 1) _ (h.setCell (p := ⟨b, o, none⟩) hb v)
/-- A struct is stored into the middle of a block. -/
theorem store_mid (t : TypeId) (b o : Nat) (cs : Array Value) (bt : TypeId) (vs : List Value) (W : World) (h : W.heap[b]? = some (.cells cs bt (0, 0))) (ho : o + vs.length ≤ cs.size) (hi : (Tryz.prog.info? t).map (·.size) = some vs.length) (h1 : ∀ v ∈ vs, v.oneCell' = true) :
    (storeAtSem t (.pointer (some ⟨b, o, none⟩)) (.agg vs.toArray)).run Tryz.prog W = .ok () (W.setCells b o vs) := by
  have := run_storeAt_mid (P := Tryz.prog) W b o t vs.toArray (fun j hj => ⟨by rw [cell_of h, Array.getElem?_eq_getElem (by simp at hj; omega)]; rfl, frozen_of h _⟩) (by simpa using hi) (all_oneCell_toArray h1)
  rw [List.toList_toArray] at this
  exact this

theorem info57 : (Tryz.prog.info? 57).map (·.size) = some 110 := by kernel_rfl
theorem info58 : (Tryz.prog.info? 58).map (·.size) = some 330 := by kernel_rfl
theorem raw57_length (ml l : Nat) (v : Value) : (raw57 ml l v).length = 110 := rfl
theorem build57 (ml l : Nat) (g n : Nat) (W : World) : (buildSem 57 #[(3, .int .i64 (ml : Int)), (4, .int .i64 (l : Int)), (5, .slice (some ⟨g, 0, none⟩) n n)]).run Tryz.prog W = .ok (.agg (raw57 ml l (.slice (some ⟨g, 0, none⟩) n n)).toArray) W :=
  run_build W 57 _ _ (by kernel_rfl)
theorem raw57_one (ml l g n : Nat) : ∀ v ∈ raw57 ml l (.slice (some ⟨g, 0, none⟩) n n), v.oneCell' = true := by
  intro v hv
  simp only [raw57, List.mem_cons, List.mem_append, List.mem_replicate, List.not_mem_nil, or_false] at hv
  rcases hv with rfl | (⟨-, rfl⟩ | ⟨-, rfl⟩) | rfl | rfl | rfl <;> rfl
def i16c (xs : List Int) : List Value := xs.map (fun x => Value.int .i16 x)

/-- The codings in block b, their counts in blocks of their own. -/
structure IsCod (w : World) (b g0 g1 g2 : Nat) : Prop where
  obj : w.heap[b]? = some (.cells (codA (.slice (some ⟨g0, 0, none⟩) 36 36) (.slice (some ⟨g1, 0, none⟩) 29 29) (.slice (some ⟨g2, 0, none⟩) 53 53)).toArray 58 (0, 0))
  o0 : w.heap[g0]? = some (.cells (i16c cL).toArray 89 (0, 0))
  o1 : w.heap[g1]? = some (.cells (i16c cB).toArray 89 (0, 0))
  o2 : w.heap[g2]? = some (.cells (i16c cM).toArray 89 (0, 0))
theorem IsCod.keep {w w' : World} {S : Nat → Prop} {b g0 g1 g2 : Nat} (h : IsCod w b g0 g1 g2) (hk : Keep S w w') (hb : ¬ S b) (h0 : ¬ S g0) (h1 : ¬ S g1) (h2 : ¬ S g2) : IsCod w' b g0 g1 g2 :=
  ⟨hk.obj h.obj hb, hk.obj h.o0 h0, hk.obj h.o1 h1, hk.obj h.o2 h2⟩

theorem h110 : 0 + 110 ≤ 330 := by decide
theorem h220 : 110 + 110 ≤ 330 := by decide
theorem h330 : 220 + 110 ≤ 330 := by decide
theorem b57_eq (ml l : Nat) (v : Value) : ((Tryz.zeroCells57.setIfInBounds 107 (.int .i64 (ml : Int))).setIfInBounds 108 (.int .i64 (l : Int))).setIfInBounds 109 v = (raw57 ml l v).toArray := by kernel_rfl
/-- A struct is stored into the middle of a block: the world behind it as a letter. -/
theorem wpList_store_obj {ops : Array Oper} {rest : List Oper} {op : Oper} {a : Act} {Q : Exit → Act → World → Prop} (w : World) (hgd : op.guard = none) (ty : TypeId) (x y : Operand) (ho : op.op = .store ty x y)
    (b o bt n sz : Nat) (cs : Array Value) (vs : List Value) (X : Array Value) (hn : vs.length = n) (hsz : cs.size = sz) (hX : X = vs.toArray) (hx : a.eval x = .pointer (some ⟨b, o, none⟩)) (hy : a.eval y = .agg X) (hb : w.heap[b]? = some (.cells cs bt (0, 0))) (hle : o + n ≤ sz)
    (hi : (Tryz.prog.info? ty).map (·.size) = some n) (h1 : ∀ v ∈ vs, v.oneCell' = true)
    (h : ∀ W : World, W.heap[b]? = some (.cells (setAll cs o vs) bt (0, 0)) → Keep (fun k => k = b) w W → W.heap.size = w.heap.size → wpList Tryz.prog ops Q rest (a.put op.dst undef) W) : wpList Tryz.prog ops Q (op :: rest) a w := by
  rw [hX] at hy
  rw [← hsz, ← hn] at hle
  rw [← hn] at hi
  refine wpList_store_mid hgd ty x y ho b o vs.toArray hx hy (fun j hj => ⟨by rw [cell_of hb, Array.getElem?_eq_getElem (by simp at hj; omega)]; rfl, frozen_of hb _⟩) (by simpa using hi) (all_oneCell_toArray h1) ?_
  rw [List.toList_toArray]
  refine h _ (setCells_obj b bt vs o cs w hb) (keep_setCells (S := fun k => k = b) b (fun _ => rfl) vs o w (Keep.refl (fun k => k = b) w)) ?_
  have : ∀ (vs : List Value) (o : Nat) (w : World), (w.setCells b o vs).heap.size = w.heap.size := by
    intro vs
    induction vs with
    | nil => intro o w; rfl
    | cons v vs ih => intro o w; rw [World.setCells, ih]; simp [World.setCell]
  exact this vs o w
theorem bytes_obj {w : World} {g : Nat} {bs : List Nat} (hg : w.heap[g]? = some (.cells (u8s bs).toArray 5 (0, 0))) (hlt : ∀ j : Nat, bs[j]?.getD 0 < 256) (hl : bs.length < 2 ^ 48) : Bytes w (some ⟨g, 0, none⟩) bs.length g 0 bs :=
  ⟨.inl rfl, fun e => (by cases e), fun j hj => by rw [cell_of hg, Nat.zero_add, List.getElem?_toArray, u8s_at bs j hj], hlt, Nat.le_refl _, hl⟩
theorem sprN_size (o : Nat) : ∀ (es : List Nat) (i f : Nat) (cs : Array Value), (sprN o es i f cs).size = cs.size
  | [], _, _, _ => rfl
  | e :: es, i, f, cs => by rw [sprN, sprN_size, Array.size_setIfInBounds, Array.size_setIfInBounds]
theorem stepC_size (o first : Nat) (es : List Nat) (ml l : Nat) (v : Value) (cs : Array Value) : (stepC o first es ml l v cs).size = cs.size := by
  unfold stepC
  rw [sprN_size, Array.size_setIfInBounds, setAll_size]
theorem zero58_size : Tryz.zeroCells58.size = 330 := by kernel_rfl
theorem eL_lt : ∀ e ∈ eL, e < 32 := by decide
theorem eB_lt : ∀ e ∈ eB, e < 32 := by decide
theorem eM_lt : ∀ e ∈ eM, e < 32 := by decide
theorem lt256_of {es : List Nat} (h : ∀ e ∈ es, e < 32) : ∀ j : Nat, es[j]?.getD 0 < 256 := lt256 (fun b hb => by have := h b hb; omega)

theorem p53 : (53 : Nat) < 2 ^ 48 := Nat.lt_of_lt_of_le (by decide : 53 < 2 ^ 6) (Nat.pow_le_pow_right (by decide) (by decide))
/-- One coding: its counts lie, the struct is stored: then its extra bits are spread. -/
theorem spread_one (b o first g ml l : Nat) (es : List Nat) (v : Value) (cs cur : Array Value) (w : World) (hb : w.heap[b]? = some (.cells cur 58 (0, 0))) (hcur : cur = setAll cs o (raw57 ml l v)) (hs : cs.size = 330) (ho : o + 110 ≤ 330) (hf : first < 4294967296) (hE : ∀ e ∈ es, e < 32) (hl : es.length ≤ 53) (o' : Obj) (ho' : o' = .cells (u8s es).toArray 5 (0, 0)) (n : Nat) (hn : n = es.length) (hg : g = w.heap.size) :
    Calls Tryz.prog 30 #[.pointer (some ⟨b, o, none⟩), .int .u32 (first : Int), .slice (some ⟨g, 0, none⟩) n n] (w.alloc o') fun e w' => e = .returned (.tuple #[]) ∧
      w'.heap[b]? = some (.cells (stepC o first es ml l v cs) 58 (0, 0)) ∧ Keep (fun k => k = b) w w' ∧ w.heap.size ≤ w'.heap.size := by
  rw [hcur] at hb
  rw [ho', hn, hg]
  clear hcur ho' hn hg
  have hbl := obj_lt hb
  refine (spread_any b o first w.heap.size 0 es.length es _ (w.alloc (.cells (u8s es).toArray 5 (0, 0))) (alloc_far hb _) (by rw [setAll_size]; omega) hf (bytes_obj (alloc_new w _) (lt256_of hE) (Nat.lt_of_le_of_lt hl p53)) (by omega) hl hE).mono ?_
  rintro e w' ⟨rfl, h1, h2⟩
  exact ⟨rfl, h1, ((Keep.refl (fun k => k = b) w).alloc _).trans h2 (fun _ _ h => h), by have := h2.size; rw [World.size_alloc] at this; omega⟩

/-- The codings under way: block b, counts that lie. -/
structure Cg (w W : World) (b : Nat) (cs : Array Value) (gs : List (Nat × List Int)) : Prop where
  obj : W.heap[b]? = some (.cells cs 58 (0, 0))
  sz : cs.size = 330
  cnt : ∀ p ∈ gs, W.heap[p.1]? = some (.cells (i16c p.2).toArray 89 (0, 0)) ∧ w.heap.size ≤ p.1 ∧ p.1 ≠ b
  kp : Keep noBlock w W
  n : w.heap.size ≤ b
theorem Cg.step {w W W' : World} {b : Nat} {cs cs' : Array Value} {gs : List (Nat × List Int)} (h : Cg w W b cs gs) (h1 : W'.heap[b]? = some (.cells cs' 58 (0, 0))) (h2 : Keep (fun k => k = b) W W') (h3 : cs'.size = cs.size) : Cg w W' b cs' gs :=
  ⟨h1, h3.trans h.sz, fun p hp => ⟨h2.obj (h.cnt p hp).1 (h.cnt p hp).2.2, (h.cnt p hp).2⟩, h.kp.trans h2 (fun i hi e => by have := h.n; omega), h.n⟩
theorem Cg.alloc {w W : World} {b : Nat} {cs : Array Value} {gs : List (Nat × List Int)} (h : Cg w W b cs gs) (xs : List Int) (g : Nat) (hg : g = W.heap.size) (o : Obj) (ho : o = .cells (i16c xs).toArray 89 (0, 0)) : Cg w (W.alloc o) b cs ((g, xs) :: gs) := by
  rw [hg, ho]
  refine ⟨alloc_far h.obj _, h.sz, fun p hp => ?_, h.kp.alloc _, h.n⟩
  rcases List.mem_cons.1 hp with rfl | hp
  · exact ⟨alloc_new W _, h.kp.size, by have := obj_lt h.obj; show W.heap.size ≠ b; omega⟩
  · exact ⟨alloc_far (h.cnt p hp).1 _, (h.cnt p hp).2⟩
theorem cg_new (w : World) : Cg w (w.alloc (.cells Tryz.zeroCells58 58)) w.heap.size Tryz.zeroCells58 [] :=
  ⟨alloc_new w _, zero58_size, fun p hp => (List.not_mem_nil hp).elim, (Keep.refl _ w).alloc _, Nat.le_refl _⟩
/-- The codings are stored: the last two operations. -/
theorem codA_length (v0 v1 v2 : Value) : (codA v0 v1 v2).length = 330 := by kernel_rfl

theorem codA_one (g0 g1 g2 n0 n1 n2 : Nat) : (codA (.slice (some ⟨g0, 0, none⟩) n0 n0) (.slice (some ⟨g1, 0, none⟩) n1 n1) (.slice (some ⟨g2, 0, none⟩) n2 n2)).toArray.all (·.oneCell') = true := by kernel_rfl
end Go.Proofs.YtgaepmmpedaaiaaGreatDoor

namespace Go.Proofs.YtgaepmmpedaaiaaGreatDoor
open Go.RowKit Go.Shelf
set_option linter.unusedVariables false

section
set_option maxRecDepth 20000 in
set_option maxHeartbeats 8000000 in
theorem codings_any (w : World) : Calls Tryz.prog 15 #[] w fun e w' => ∃ g0 g1 g2, e = .returned (.agg (codA (.slice (some ⟨g0, 0, none⟩) 36 36) (.slice (some ⟨g1, 0, none⟩) 29 29) (.slice (some ⟨g2, 0, none⟩) 53 53)).toArray) ∧
    w'.heap[g0]? = some (.cells (i16c cL).toArray 89 (0, 0)) ∧ w'.heap[g1]? = some (.cells (i16c cB).toArray 89 (0, 0)) ∧ w'.heap[g2]? = some (.cells (i16c cM).toArray 89 (0, 0)) ∧ w.heap.size ≤ g0 ∧ w.heap.size ≤ g1 ∧ w.heap.size ≤ g2 ∧ Keep noBlock w w' := by
  have G1 := hid ((cg_new w).alloc cL (w.heap.size + 1) (by rw [World.size_alloc]) _ rfl)
  go_enter Tryz.func15, Tryz.ntmps15
  go_wp2_with (refine wpList_store_obj _ rfl 57 (.tmp 3) (.tmp 2) rfl w.heap.size 0 58 110 330 Tryz.zeroCells58 (raw57 9 6 (.slice (some ⟨w.heap.size + 1, 0, none⟩) 36 36)) _ (raw57_length _ _ _) zero58_size (b57_eq 9 6 _) rfl rfl G1.out.obj h110 info57 (raw57_one 9 6 _ _) ?_; intro W1 q1 q2 q3)
  have G2 := hid (G1.out.step q1 q2 (setAll_size _ _ _))
  have HS := hid (spread_one w.heap.size 0 0 (w.heap.size + 1 + 1) 9 6 eL (.slice (some ⟨w.heap.size + 1, 0, none⟩) 36 36) Tryz.zeroCells58 _ W1 q1 rfl zero58_size h110 (by omega) eL_lt (by decide) _ rfl 36 rfl (by rw [q3]; simp))
  rw [show (((0 : Nat) : Int)) = (0 : Int) from rfl] at HS
  clear q1 q2 q3 G1
  refine HS.out.mono ?_
  rintro e W2 ⟨rfl, q1, q2, -⟩
  have G3 := hid (G2.out.step q1 q2 ((stepC_size _ _ _ _ _ _ _).trans (setAll_size _ _ _).symm))
  clear q1 q2 HS G2
  generalize hC1 : stepC 0 0 eL 9 6 (.slice (some ⟨w.heap.size + 1, 0, none⟩) 36 36) Tryz.zeroCells58 = C1 at *
  have HC1 := hid hC1
  have HN := hid (Nat.le_refl w.heap.size)
  clear hC1
  generalize hb0 : w.heap.size + 1 = g0 at *
  obtain ⟨b, hb⟩ : ∃ b, b = w.heap.size := ⟨_, rfl⟩
  rw [← hb] at G3 ⊢
  have G4 := hid (G3.out.alloc cB W2.heap.size rfl _ rfl)
  clear hb hb0
  go_wp2_with (refine wpList_store_obj _ rfl 57 (.tmp 9) (.tmp 8) rfl b 110 58 110 330 C1 (raw57 8 5 (.slice (some ⟨W2.heap.size, 0, none⟩) 29 29)) _ (raw57_length _ _ _) G4.out.sz (b57_eq 8 5 _) rfl rfl G4.out.obj h220 info57 (raw57_one 8 5 _ _) ?_; intro W3 q1 q2 q3)
  have G5 := hid (G4.out.step q1 q2 (setAll_size _ _ _))
  have HS := hid (spread_one b 110 1 (W2.heap.size + 1) 8 5 eB (.slice (some ⟨W2.heap.size, 0, none⟩) 29 29) C1 _ W3 q1 rfl G4.out.sz h220 (by omega) eB_lt (by decide) _ rfl 32 rfl (by rw [q3]; simp))
  rw [show (((1 : Nat) : Int)) = (1 : Int) from rfl] at HS
  clear q1 q2 q3 G4 G3
  refine HS.out.mono ?_
  rintro e W4 ⟨rfl, q1, q2, -⟩
  have G6 := hid (G5.out.step q1 q2 ((stepC_size _ _ _ _ _ _ _).trans (setAll_size _ _ _).symm))
  clear q1 q2 HS G5
  generalize hg1 : W2.heap.size = g1 at *
  clear hg1
  generalize hC2 : stepC 110 1 eB 8 5 (.slice (some ⟨g1, 0, none⟩) 29 29) C1 = C2 at *
  have HC2 := hid hC2
  have G7 := hid (G6.out.alloc cM W4.heap.size rfl _ rfl)
  clear hC2
  go_wp2_with (refine wpList_store_obj _ rfl 57 (.tmp 15) (.tmp 14) rfl b 220 58 110 330 C2 (raw57 9 6 (.slice (some ⟨W4.heap.size, 0, none⟩) 53 53)) _ (raw57_length _ _ _) G7.out.sz (b57_eq 9 6 _) rfl rfl G7.out.obj h330 info57 (raw57_one 9 6 _ _) ?_; intro W5 q1 q2 q3)
  have G8 := hid (G7.out.step q1 q2 (setAll_size _ _ _))
  have HS := hid (spread_one b 220 3 (W4.heap.size + 1) 9 6 eM (.slice (some ⟨W4.heap.size, 0, none⟩) 53 53) C2 _ W5 q1 rfl G7.out.sz h330 (by omega) eM_lt (by decide) _ rfl 53 rfl (by rw [q3]; simp))
  rw [show (((3 : Nat) : Int)) = (3 : Int) from rfl] at HS
  clear q1 q2 q3 G7 G6
  refine HS.out.mono ?_
  rintro e W6 ⟨rfl, q1, q2, -⟩
  have G9 := hid (G8.out.step q1 q2 ((stepC_size _ _ _ _ _ _ _).trans (setAll_size _ _ _).symm))
  clear q1 q2 HS G8
  generalize hg2 : W4.heap.size = g2 at *
  clear hg2
  rw [← HC2.out, ← HC1.out, codA_made] at G9
  have HO := hid G9.out.obj
  clear HC1 HC2 HN
  generalize hA : (codA (.slice (some ⟨g0, 0, none⟩) 36 36) (.slice (some ⟨g1, 0, none⟩) 29 29) (.slice (some ⟨g2, 0, none⟩) 53 53)).toArray = A at *
  have HA := hid hA
  have HJ : Hid ((Tryz.prog.info? 58).map (·.size) = some A.size) := by rw [G9.out.sz]; exact info58
  have HSf := hid (setRow_self W6 b A 58 (0, 0) HO.out)
  have H1 : Hid (A.all (·.oneCell') = true) := by rw [← hA]; exact codA_one _ _ _ _ _ _
  clear hA
  go_wp2_with (first | (refine wpList_load_row rfl 58 (.tmp 0) rfl b rfl 58 A (0, 0) _ HO.out Tryz.underlying58 rfl HJ.out ?_) | (refine wpList_store_row rfl 58 (.tmp 0) (.tmp 19) rfl b A rfl rfl 58 A HO.out HJ.out rfl H1.out ?_; rw [HSf.out]))
  refine bodyPost_ret (results_cell rfl _ _ _ ⟨b, 0, none⟩ (.agg A) rfl (run_loadVar_row _ _ 58 58 _ (0, 0) _ HO.out Tryz.underlying58 rfl HJ.out)) rfl ?_
  have e0 := G9.out.cnt (g0, cL) (by simp)
  have e1 := G9.out.cnt (g1, cB) (by simp)
  have e2 := G9.out.cnt (g2, cM) (by simp)
  exact ⟨g0, g1, g2, by rw [HA.out], e0.1, e1.1, e2.1, e0.2.1, e1.2.1, e2.2.1, G9.out.kp⟩
end
end Go.Proofs.YtgaepmmpedaaiaaGreatDoor
