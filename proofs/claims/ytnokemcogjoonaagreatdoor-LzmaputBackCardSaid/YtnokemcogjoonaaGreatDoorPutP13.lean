/-
  A step is split into operations.
  A step is split into operations.
  Do steps make a text from a place on?
  All steps of a chunk.
  All chances even: trees, lengths, distances, a state.
  All chances even: trees, lengths, distances, a state.
-/
import Derived.Test.YtnokemcogjoonaaGreatDoorPutP4
import Derived.Test.YtnokemcogjoonaaGreatDoorPutP5
import Derived.Test.YtnokemcogjoonaaGreatDoorPutP7
import Derived.Test.YtnokemcogjoonaaGreatDoorPutP8
import Derived.Test.YtnokemcogjoonaaGreatDoorPutP12
namespace Go.Proofs.YtnokemcogjoonaaGreatDoor.Pt
open Go.RowKit Go.Shelf
set_option linter.unusedVariables false

theorem keep_cell0 {w w' : World} (hk : Keep noBlock w w') {b i : Nat} {v : Value} (h : w.cell? ⟨b, i, none⟩ = some v) : w'.cell? ⟨b, i, none⟩ = some v :=
  (World.cell?_of_block (hk.block b (World.block_lt_of_cell? w ⟨b, i, none⟩ h) (fun h => h))).trans h
theorem Way.obj {G : Wg} {w wr : World} {v : Value} {s s0 : Se} {x0 : Ex} {A : List Opn} {S : Se} {X : Ex} {i i0 b : Nat} {cs : Array Value} {t : TypeId} (h : Way G w wr v s A S X i) (h0 : Wt G w s0 x0 v i0) (ho : w.heap[b]? = some (.cells cs t (0, 0))) (h1 : t ≠ 102) (h2 : t ≠ 77) (h3 : t ≠ 149) (h4 : t ≠ 5) : wr.heap[b]? = some (.cells cs t (0, 0)) := by
  obtain ⟨x, v', k, -⟩ := h
  exact k.kp.obj ho (ws_no h0 ho h1 h2 h3 h4)
theorem Way.cap {G : Wg} {w wr : World} {v : Value} {s s0 : Se} {x0 : Ex} {A : List Opn} {S : Se} {X : Ex} {i i0 bw bl br reach : Nat} (h : Way G w wr v s A S X i) (h0 : Wt G w s0 x0 v i0) (hC : Cap G w bw bl br reach) : Cap G wr bw bl br reach :=
  ⟨h.obj h0 hC.w0 (by decide) (by decide) (by decide) (by decide), h.obj h0 hC.l0 (by decide) (by decide) (by decide) (by decide), h.obj h0 hC.r0 (by decide) (by decide) (by decide) (by decide)⟩
theorem Way.base {G : Wg} {w W : World} {v : Value} {s : Se} {A : List Opn} {S : Se} {X : Ex} {i : Nat} (h : Way G w W v s A S X i) : ∃ x v', Puts G w W s x v v' i ∧ Way G W W v' s A S X i := by
  obtain ⟨x, v', h1, h2⟩ := h
  exact ⟨x, v', h1, x, v', Puts.refl h1.wt, h2⟩
theorem Way.join {G : Wg} {w W W' : World} {v v' : Value} {s s2 : Se} {x : Ex} {A : List Opn} {S : Se} {X : Ex} {i i2 : Nat} (h : Puts G w W s x v v' i) (k : Way G W W' v' s2 A S X i2) : Way G w W' v s2 A S X i2 := by
  obtain ⟨x2, v2, h1, h2⟩ := k
  exact ⟨x2, v2, h.trans h1, h2⟩
theorem Way.wt {G : Wg} {w wr : World} {v : Value} {s : Se} {A : List Opn} {S : Se} {X : Ex} {i : Nat} (h : Way G w wr v s A S X i) : ∃ x v', Wt G wr s x v' i := by
  obtain ⟨x, v', h1, -⟩ := h
  exact ⟨x, v', h1.wt⟩
/-- What a step's operation is, whatever it is. -/
theorem copying_any (G : Wg) (s : Se) (x : Ex) (v : Value) (i : Nat) (len : Int) (mn reach : Nat) (b : Int) (w : World) (h : Wt G w s x v i) (hl : len ≤ (mn : Int)) (hm : mn ≤ 65536) (hr : reach ≤ 65536) (hs : 2 ≤ mn → standN G.k.T i mn b = true) :
    Calls Tryz.prog 47 #[.pointer (some ⟨G.wb, 0, none⟩), .int .i64 len, .int .i64 b, .int .i64 (reach : Int)] w fun e w' => e = .returned (copyV (copyN G.k.T reach s i len b.toNat)) ∧ Keep noBlock w w' := by
  by_cases h2 : len < 2
  · exact copying_few G i len b reach s w h2
  · obtain ⟨ln, rfl⟩ : ∃ ln : Nat, len = (ln : Int) := ⟨len.toNat, by omega⟩
    have hP := standN_P (hs (by omega))
    have := h.tl
    have := h.il
    obtain ⟨bn, rfl⟩ : ∃ bn : Nat, b = (bn : Int) := ⟨b.toNat, by have := hP.2.1; omega⟩
    rw [Int.toNat_natCast] at hP ⊢
    exact copying_more G s x v i ln bn reach w h (by omega) (by omega) hP.2.1 (by have := hP.2.2.1; omega) hr
/-- Split under way: a writer, its variables, the step in a box. -/
structure Spw (G : Wg) (W0 W : World) (v : Value) (s : Se) (A : List Opn) (S : Se) (X : Ex) (i bw bl br reach pb : Nat) (l m b : Int) : Prop where
  way : Way G W0 W v s A S X i
  cap : Cap G W bw bl br reach
  box : W.heap[pb]? = some (.cells #[.int .i64 l, .int .i64 m, .int .i64 b] 46 (0, 0))
theorem Spw.keep {G : Wg} {W0 W W' : World} {v : Value} {s : Se} {A : List Opn} {S : Se} {X : Ex} {i bw bl br reach pb : Nat} {l m b : Int} (h : Spw G W0 W v s A S X i bw bl br reach pb l m b) (k : Keep noBlock W W') : Spw G W0 W' v s A S X i bw bl br reach pb l m b := ⟨h.way.keep k, h.cap.keep k, k.obj h.box (fun h => h)⟩
/-- What split reads. -/
def SpC (G : Wg) (bw bl br reach pb i : Nat) (m b : Int) (tl : Nat) (W : World) : Prop := W.cell? ⟨bw, 0, none⟩ = some (.pointer (some ⟨G.wb, 0, none⟩)) ∧ W.cell? ⟨bl, 0, none⟩ = some (.int .i64 ((tl : Int) - 1)) ∧ W.cell? ⟨br, 0, none⟩ = some (.int .i64 (reach : Int)) ∧ W.cell? ⟨G.wb, 4, none⟩ = some (.int .i64 (i : Int)) ∧ W.cell? ⟨pb, 2, none⟩ = some (.int .i64 b)
theorem Spw.reads {G : Wg} {W0 W : World} {v : Value} {s : Se} {A : List Opn} {S : Se} {X : Ex} {i bw bl br reach pb : Nat} {l m b : Int} (h : Spw G W0 W v s A S X i bw bl br reach pb l m b) : SpC G bw bl br reach pb i m b G.k.T.length W := by
  obtain ⟨c0, c1, c2⟩ := h.cap.cells
  obtain ⟨x, v', k⟩ := h.way.wt
  exact ⟨c0, c1, c2, k.cells.2.2.2.2.1, cell_of h.box 2⟩
theorem SpC.keep {G : Wg} {bw bl br reach pb i : Nat} {m b : Int} {tl : Nat} {W W' : World} (h : SpC G bw bl br reach pb i m b tl W) (k : Keep noBlock W W') : SpC G bw bl br reach pb i m b tl W' :=
  ⟨keep_cell0 k h.1, keep_cell0 k h.2.1, keep_cell0 k h.2.2.1, keep_cell0 k h.2.2.2.1, keep_cell0 k h.2.2.2.2⟩
/-- Four cells of nothing. -/
def Zer (W : World) (ob : Nat) : Prop := W.cell? ⟨ob, 0, none⟩ = some (.int .u8 0) ∧ W.cell? ⟨ob, 1, none⟩ = some (.int .i64 0) ∧ W.cell? ⟨ob, 2, none⟩ = some (.int .u32 0) ∧ W.cell? ⟨ob, 3, none⟩ = some (.int .i64 0) ∧ W.frozen? ⟨ob, 0, none⟩ = false ∧ W.frozen? ⟨ob, 1, none⟩ = false ∧ W.frozen? ⟨ob, 2, none⟩ = false ∧ W.frozen? ⟨ob, 3, none⟩ = false ∧ W.heap[ob]? = some (.cells #[.int .u8 0, .int .i64 0, .int .u32 0, .int .i64 0] 152 (0, 0))
theorem Zer.of {W : World} {ob : Nat} (h : W.heap[ob]? = some (.cells #[.int .u8 0, .int .i64 0, .int .u32 0, .int .i64 0] 152 (0, 0))) : Zer W ob := ⟨cell_of h 0, cell_of h 1, cell_of h 2, cell_of h 3, frozen_of h 0, frozen_of h 1, frozen_of h 2, frozen_of h 3, h⟩
/-- An operation in a new block. -/
structure Fct (w1 W : World) (ob : Nat) (o : Opn) : Prop where
  obj : W.heap[ob]? = some (.cells #[.int .u8 (o.kind : Int), .int .i64 (o.len : Int), .int .u32 (o.far : Int), .int .i64 (o.which : Int)] 152 (0, 0))
  kp : Keep noBlock w1 W
structure Boxed (T : Prop) : Prop where
  out : T
theorem one_way {G T : Prop} (m : Boxed T → G) (t : T) : G := m ⟨t⟩

end Go.Proofs.YtnokemcogjoonaaGreatDoor.Pt

namespace Go.Proofs.YtnokemcogjoonaaGreatDoor.Pt
open Go.RowKit Go.Shelf
set_option linter.unusedVariables false

section
attribute [local go_sem] minSem_eq
set_option maxRecDepth 20000 in
set_option maxHeartbeats 4000000 in
theorem split_any (G : Wg) (w : World) (v : Value) (s s0 : Se) (x0 : Ex) (i0 : Nat) (ln mn : Nat) (b : Int) (A : List Opn) (S : Se) (X : Ex) (i reach bw bl br : Nat) (W : World) (h0 : Wt G w s0 x0 v i0) (hC0 : Cap G w bw bl br reach)
    (h : Way G w W v s (splitO G.k reach s i ((ln : Int), (mn : Int), b) ++ A) S X i) (hok : okStep G.k.T i ((ln : Int), (mn : Int), b) = true) (hr : reach ≤ 65536) (hb63 : b < 9223372036854775808) :
    Calls Tryz.prog 45 #[.agg #[.int .i64 (ln : Int), .int .i64 (mn : Int), .int .i64 b], .pointer (some ⟨bw, 0, none⟩), .pointer (some ⟨bl, 0, none⟩), .pointer (some ⟨br, 0, none⟩)] W fun e w' => e = .returned (.tuple #[]) ∧ Way G w w' v (opsS (splitO G.k reach s i ((ln : Int), (mn : Int), b)) s) A S X (i + ln + mn) := by
  obtain ⟨x, v', hW⟩ := h.wt
  have htl := hW.tl
  have hil := hW.il
  obtain ⟨f1, f2, f3, f4, f5, f6⟩ := okStep_facts hok hil
  dsimp only at f1 f2 f3 f4 f5 f6
  rw [Int.toNat_natCast] at f4 f5 f6
  rw [Int.toNat_natCast] at f5 f6
  have eS : splitO G.k reach s i ((ln : Int), (mn : Int), b) = litsO ln ++ tailO G.k reach (opsS (litsO ln) s) (i + ln) (mn : Int) b.toNat := by
    unfold splitO
    dsimp only
    rw [Int.toNat_natCast]
  rw [eS, List.append_assoc] at h
  rw [eS, opsS_app]
  have hbx := alloc_new W (.cells #[.int .i64 (ln : Int), .int .i64 (mn : Int), .int .i64 b] 46)
  obtain ⟨x1, v1, hP, hA⟩ := (h.keep ((Keep.refl noBlock W).alloc (.cells #[.int .i64 (ln : Int), .int .i64 (mn : Int), .int .i64 b] 46))).base
  have hC := (h.keep ((Keep.refl noBlock W).alloc (.cells #[.int .i64 (ln : Int), .int .i64 (mn : Int), .int .i64 b] 46))).cap h0 hC0
  obtain ⟨c0, c1, c2⟩ := hC.cells
  have HS := hid (single_way G _ v1 ln s (tailO G.k reach (opsS (litsO ln) s) (i + ln) (mn : Int) b.toNat ++ A) S X i (by omega) _ hA)
  have HB := hid (And.intro hP (And.intro hC hbx))
  generalize opsS (litsO ln) s = s1 at *
  obtain ⟨i1, hi1⟩ : ∃ i1, i1 = i + ln := ⟨_, rfl⟩
  rw [← hi1] at HS f4 f5 f6 ⊢
  have hiT : (i1 : Int) ≤ (G.k.T.length : Int) := by omega
  have hTI : (G.k.T.length : Int) ≤ 65536 := by omega
  have HI1 := hid hi1
  clear hW h hA hC hok eS h0 hC0 hP hbx hi1
  go_enter Tryz.func45, Tryz.ntmps45
  go_wp2_with fail
  refine HS.out.mono ?_
  rintro e w1 ⟨rfl, hw1⟩
  generalize W.alloc (.cells #[.int .i64 (ln : Int), .int .i64 (mn : Int), .int .i64 b] 46) = W0 at *
  generalize W.heap.size = pb at *
  obtain ⟨g1, g2, g3⟩ := HB.out
  have hw2 : Spw G W0 w1 v1 s1 (tailO G.k reach s1 i1 (mn : Int) b.toNat ++ A) S X i1 bw bl br reach pb (ln : Int) (mn : Int) b := ⟨hw1, hw1.cap g1.wt g2, hw1.obj g1.wt g3 (by decide) (by decide) (by decide) (by decide)⟩
  have HJ := hid (fun (W' : World) (s2 : Se) (i2 : Nat) (hh : Way G W0 W' v1 s2 A S X i2) => Way.join g1 hh)
  have HG1 := hid g1.wt
  clear hw1 HS HB g1 g2 g3 c0 c1 c2
  obtain ⟨x2, v2, hwt⟩ := hw2.way.wt
  have hz1 := cell_of hw2.box 1
  have hq := hw2.reads
  have hmost : mostL G.k.T i1 (mn : Int) = min (mn : Int) ((G.k.T.length : Int) - 1 - (i1 : Int)) := rfl
  obtain ⟨M, hM⟩ : ∃ M : Int, M = mostL G.k.T i1 (mn : Int) := ⟨_, rfl⟩
  obtain ⟨D, hD⟩ : ∃ D : Int, D = (G.k.T.length : Int) - 1 - (i1 : Int) := ⟨_, rfl⟩
  have e1 : -9223372036854775808 ≤ D := by rw [hD]; clear hD; omega
  have e2 : D < 9223372036854775808 := by rw [hD]; clear hD; omega
  have hDw : IntKind.i64.wrap ((G.k.T.length : Int) - 1 - (i1 : Int)) = D := by rw [← hD, IntKind.wrap_i64]; omega
  clear e1 e2
  have hmin := minSem_run .i64 #[3, 3] 3 (mn : Int) D M (by rw [hM, hD]; rfl)
  have hMl : M ≤ (mn : Int) := by rw [hM, hmost]; exact Int.min_le_left _ _
  have hmn : mn ≤ 65536 := by omega
  have HCp := hid (fun (W' : World) (k : Keep noBlock w1 W') => (copying_any G s1 x2 v2 i1 M mn reach b W' (hwt.kept k) hMl hmn hr (fun h2 => (f5 (by omega)).2.2)).mono (R' := fun e w'' => e = .returned (copyV (copyN G.k.T reach s1 i1 M b.toNat)) ∧ (Keep noBlock w1 w'' ∧ Keep noBlock W' w'') ∧ SpC G bw bl br reach pb i1 (mn : Int) b G.k.T.length w'') (fun e w'' hh => ⟨hh.1, ⟨k.trans' hh.2, hh.2⟩, hq.keep (k.trans' hh.2)⟩))
  have hTail : tailO G.k reach s1 i1 (mn : Int) b.toNat = (match copyN G.k.T reach s1 i1 M b.toNat with | some o => o :: litsO (mn - o.len) | none => litsO mn) := by
    unfold tailO
    rw [← hM]
    cases copyN G.k.T reach s1 i1 M b.toNat <;> rfl
  have HT := hid hTail
  have hcc : ∀ o, copyN G.k.T reach s1 i1 M b.toNat = some o → (o.len : Int) ≤ (mn : Int) := fun o ho => by
    unfold copyN at ho
    split at ho
    · cases ho
    · split at ho
      · have := (Option.some.inj ho).symm; subst this; show (M.toNat : Int) ≤ _; omega
      · split at ho
        · cases ho
        · have := (Option.some.inj ho).symm; subst this; show (M.toNat : Int) ≤ _; omega
  clear hM hmost hTail hD
  generalize hcp : copyN G.k.T reach s1 i1 M b.toNat = R at *
  clear hcp
  have c2 : SpC G bw bl br reach pb i1 (mn : Int) b G.k.T.length w1 := hq
  have c3 : SpC G bw bl br reach pb i1 (mn : Int) b G.k.T.length (w1.drewN 1) := hq
  have hkz : Keep noBlock w1 (w1.drewN 1) := keep_drewN w1 1
  have HSp := hid hw2
  have HQK := hid (fun (W' : World) (k : Keep noBlock w1 W') => hq.keep k)
  clear hw2 hwt hq
  obtain ⟨d0, d1, d2, d3, d4⟩ := c2
  obtain ⟨o', rb, hcv, hR1, hR2⟩ : ∃ (o' : Opn) (rb : Bool), copyV R = .tuple #[opV o', .bool rb] ∧ (rb = true → R = some o') ∧ (rb = false → R = none) := by
    cases R with
    | none => exact ⟨⟨0, 0, 0, 0⟩, false, rfl, fun e => (by cases e), fun _ => rfl⟩
    | some o => exact ⟨o, true, rfl, fun _ => rfl, fun e => (by cases e)⟩
  rw [hcv] at HCp
  unfold opV SpC at HCp
  unfold SpC at HQK c3
  have HCa := hid ((HCp.out (w1.drewN 1) hkz).mono (R' := fun e w'' => e = .returned (.tuple #[.agg #[.int .u8 (o'.kind : Int), .int .i64 (o'.len : Int), .int .u32 (o'.far : Int), .int .i64 (o'.which : Int)], .bool rb]) ∧ Keep noBlock w1 w'' ∧ (w''.cell? ⟨bw, 0, none⟩ = some (.pointer (some ⟨G.wb, 0, none⟩)) ∧ w''.cell? ⟨bl, 0, none⟩ = some (.int .i64 ((G.k.T.length : Int) - 1)) ∧ w''.cell? ⟨br, 0, none⟩ = some (.int .i64 (reach : Int)) ∧ w''.cell? ⟨G.wb, 4, none⟩ = some (.int .i64 (i1 : Int)) ∧ w''.cell? ⟨pb, 2, none⟩ = some (.int .i64 b))) (fun e w'' hh => ⟨hh.1, hh.2.1.1, hh.2.2⟩))
  have HCb := hid ((HCp.out ((w1.drewN 1).alloc (.cells #[.int .u8 0, .int .i64 0, .int .u32 0, .int .i64 0] 152)) (hkz.alloc _)).mono (R' := fun e w'' => e = .returned (.tuple #[.agg #[.int .u8 (o'.kind : Int), .int .i64 (o'.len : Int), .int .u32 (o'.far : Int), .int .i64 (o'.which : Int)], .bool rb]) ∧ Keep noBlock w1 w'' ∧ (w''.cell? ⟨bw, 0, none⟩ = some (.pointer (some ⟨G.wb, 0, none⟩)) ∧ w''.cell? ⟨bl, 0, none⟩ = some (.int .i64 ((G.k.T.length : Int) - 1)) ∧ w''.cell? ⟨br, 0, none⟩ = some (.int .i64 (reach : Int)) ∧ w''.cell? ⟨G.wb, 4, none⟩ = some (.int .i64 (i1 : Int)) ∧ w''.cell? ⟨pb, 2, none⟩ = some (.int .i64 b)) ∧ Zer w'' w1.heap.size) (fun e w'' hh => ⟨hh.1, hh.2.1.1, hh.2.2, Zer.of (hh.2.1.2.obj (alloc_new (w1.drewN 1) _) (fun h => h))⟩))
  clear HCp
  unfold Zer at HCb
  have HRR := hid (And.intro hR1 hR2)
  clear hR1 hR2 hcv
  go_wp2_with fail
  have c2 := And.intro d0 (And.intro d1 (And.intro d2 (And.intro d3 d4)))
  apply one_way
  · intro tail
    go_region_held3 (fun W => W.cell? ⟨bw, 0, none⟩ = some (.pointer (some ⟨G.wb, 0, none⟩)) ∧ W.cell? ⟨bl, 0, none⟩ = some (.int .i64 ((G.k.T.length : Int) - 1)) ∧ W.cell? ⟨br, 0, none⟩ = some (.int .i64 (reach : Int)) ∧ W.cell? ⟨G.wb, 4, none⟩ = some (.int .i64 (i1 : Int)) ∧ W.cell? ⟨pb, 2, none⟩ = some (.int .i64 b)) (first | exact c2 | exact c3 | exact f9 | exact HQK.out _ (hkz.alloc _) | exact HQK.out _ (k3.alloc _) | exact HQK.out _ (keep_four k3 _ (Nat.le_refl _) _ _ _ _) | exact HQK.out _ (keep_four (k3.alloc _) _ k3.size _ _ _ _)) ((first
      | (go_at_call 47; refine HCa.out.mono ?_; rintro e w3 ⟨rfl, k3, f9⟩)
      | (go_at_call 47; refine HCb.out.mono ?_; rintro e w3 ⟨rfl, k3, f9, z0, z1, z2, z3, y0, y1, y2, y3, zo⟩)))
    · have hF : Fct w1 (w3.alloc (.cells #[.int .u8 (o'.kind : Int), .int .i64 (o'.len : Int), .int .u32 (o'.far : Int), .int .i64 (o'.which : Int)] 152)) w3.heap.size o' := ⟨alloc_new w3 _, k3.alloc _⟩
      generalize w3.alloc (.cells #[.int .u8 (o'.kind : Int), .int .i64 (o'.len : Int), .int .u32 (o'.far : Int), .int .i64 (o'.which : Int)] 152) = W4 at *
      generalize w3.heap.size = ob at *
      revert ob W4
      exact tail.out
    · rename_i hh
      exact tail.out _ hh _ ⟨set_obj (set_obj (set_obj (set_obj zo 0 _) 1 _) 2 _) 3 _, keep_four k3 _ (Nat.le_refl _) _ _ _ _⟩
    · rename_i hh
      exact tail.out _ hh _ ⟨set_obj (set_obj (set_obj (set_obj zo 0 _) 1 _) 2 _) 3 _, keep_four k3 _ (Nat.le_refl _) _ _ _ _⟩
  · intro W4 hh ob hF
    obtain ⟨d0, d1, d2, d3, d4⟩ := hh
    have hw4 := HSp.out.keep hF.kp
    have hc4 := hw4.cap
    obtain ⟨x4, v4, hP4, hA4⟩ := hw4.way.base
    have HJ4 := hid (fun (W' : World) (s2 : Se) (i2 : Nat) (q : Way G W4 W' v4 s2 A S X i2) => HJ.out W' s2 i2 (Way.join hP4 q))
    have q0 := cell_of hF.obj 0
    have q1 := cell_of hF.obj 1
    have q2 := cell_of hF.obj 2
    have q3 := cell_of hF.obj 3
    rw [HT.out] at hA4
    have HTT := HT
    clear HCa HCb HQK c2 c3 hkz HSp HJ hw4 hz1
    cases rb with
    | false =>
      obtain rfl := HRR.out.2 rfl
      dsimp only at hA4
      have HS := hid (single_way G W4 v4 mn s1 A S X i1 hmn W4 hA4)
      have HF := hid (show opsS (tailO G.k reach s1 i1 (mn : Int) b.toNat) s1 = opsS (litsO mn) s1 from by rw [HTT.out])
      clear hA4 HRR hcc HT HTT
      go_wp2_with fail
      refine HS.out.mono ?_
      rintro e w6 ⟨rfl, h6⟩
      have H6 := hid (HJ4.out _ _ _ h6)
      clear h6 HS HJ4
      go_wp2_with fail
      go_end0
      rw [HF.out]
      exact ⟨rfl, H6.out⟩
    | true =>
      obtain rfl := HRR.out.1 rfl
      dsimp only at hA4
      have hol := hcc o' rfl
      obtain ⟨lf, hlf⟩ : ∃ lf : Nat, lf = mn - o'.len := ⟨_, rfl⟩
      have hlI : (mn : Int) - (o'.len : Int) = (lf : Int) := by omega
      rw [← hlf] at hA4
      have HC := hid (Way.step (o := o') (A := litsO lf ++ A) hA4)
      unfold opV at HC
      have HF := hid (show opsS (tailO G.k reach s1 i1 (mn : Int) b.toNat) s1 = opsS (litsO lf) (opS o' s1) ∧ i1 + mn = i1 + o'.len + lf from ⟨by rw [HTT.out, hlf]; rfl, by omega⟩)
      have HG := hid (And.intro hP4.wt (And.intro hc4 hF.obj))
      have hlf6 : lf ≤ 65536 := by omega
      clear hA4 HRR hcc HT HTT hlf hol hP4 hc4 hF
      generalize hs2 : opS o' s1 = s2 at *
      have HS2 := hid hs2
      clear hs2
      go_wp2_with fail
      refine HC.out.mono ?_
      rintro e w5 ⟨rfl, h5⟩
      obtain ⟨g1, g2, g3⟩ := HG.out
      have p3 := h5.obj g1 g3 (by decide) (by decide) (by decide) (by decide)
      have p1 := cell_of p3 1
      have p0 := (h5.cap g1 g2).cells.1
      have HS := hid (single_way G W4 v4 lf s2 A S X (i1 + o'.len) hlf6 w5 h5)
      clear g1 g2 g3 p3 h5 HC HG d0 d1 d2 d3 d4 q0 q1 q2 q3
      go_wp2_with fail
      refine HS.out.mono ?_
      rintro e w6 ⟨rfl, h6⟩
      have H6 := hid (HJ4.out _ _ _ h6)
      clear h6 HS HJ4
      go_wp2_with fail
      go_end0
      rw [HF.out.1, HF.out.2]
      exact ⟨rfl, H6.out⟩
end

end Go.Proofs.YtnokemcogjoonaaGreatDoor.Pt

namespace Go.Proofs.YtnokemcogjoonaaGreatDoor.Pt
open Go.RowKit Go.Shelf
set_option linter.unusedVariables false

theorem okStep_eq (T : List Nat) (i : Nat) (l m b : Int) : okStep T i (l, m, b) = (decide (0 ≤ l) && (decide (0 ≤ m) && (decide (0 ≤ b) && (decide (l ≤ (T.length : Int) - (i : Int)) && (!decide (0 < m) || (decide (2 ≤ m) && (decide (m ≤ 273) && standN T (i + l.toNat) m.toNat b))))))) := rfl
theorem madeB_cons (T : List Nat) (t : Tri) (r : List Tri) (i : Nat) : madeB T (t :: r) i = (okStep T i t && madeB T r (i + t.1.toNat + t.2.1.toNat)) := rfl
theorem bytes_alloc {w : World} {a : Option Addr} {cap gb off : Nat} {bs : List Nat} (h : Bytes w a cap gb off bs) (o : Obj) : Bytes (w.alloc o) a cap gb off bs := h.keep ((Keep.refl noBlock w).alloc o) (fun _ h => h)
set_option maxRecDepth 100000 in
set_option maxHeartbeats 4000000 in
theorem made_any (ta : Option Addr) (tc tg tf : Nat) (T : List Nat) (fr : Nat) (a : Option Addr) (cap gb off : Nat) (ts : List Tri) (w : World) (hB : Bytes w ta tc tg tf T) (h : Fd.RowQ w a cap gb off ts) (hT : T.length ≤ 1099511627776) (hf : fr ≤ T.length) (hTs : ts.length < 140737488355328) :
    Calls Tryz.prog 26 #[.slice ta T.length tc, .int .i64 (fr : Int), .slice a ts.length cap] w fun e w' => e = .returned (.bool (madeB T ts fr)) ∧ Keep noBlock w w' := by
  have HR := hid (And.intro h hB)
  clear h hB
  go_enter Tryz.func26, Tryz.ntmps26
  go_wp2_with fail
  go_loopw [7, 13] (fun v7 v13 wr => ∃ (i j : Nat), v7 = .int .i64 (i : Int) ∧ v13 = .int .i64 (j : Int) ∧ j ≤ ts.length ∧ i ≤ T.length ∧ Hid (madeB T ts fr = madeB T (ts.drop j) i ∧ Keep noBlock w wr)) (fun _ v13 _ => ts.length - (intOf v13).toNat)
  case atStart => exact ⟨fr, 0, rfl, rfl, Nat.zero_le _, hf, rfl, Keep.refl _ _⟩
  case round =>
    obtain ⟨i, j, rfl, rfl, hj, hi, HI⟩ := hrel
    by_cases hlt : j < ts.length
    · have hltI : (j : Int) < (ts.length : Int) := by omega
      obtain ⟨e1, e2, e3⟩ := (HR.out.1.keep HI.out.2 (fun _ h => h)).cells j hlt
      obtain rfl := HR.out.1.here hlt
      have hdr := Fd.drop_cons hlt
      have hb63 := HR.out.1.b63 j
      obtain ⟨⟨l, m, b⟩, ht⟩ : ∃ t : Tri, ts[j]?.getD (0, 0, 0) = t := ⟨_, rfl⟩
      rw [ht] at e1 e2 e3 hdr hb63
      have HM := hid (show madeB T ts fr = (okStep T i (l, m, b) && madeB T (ts.drop (j + 1)) (i + l.toNat + m.toNat)) from by rw [HI.out.1, hdr, madeB_cons])
      have HBy := hid (HR.out.2.keep HI.out.2 (fun _ h => h))
      obtain ⟨j1, hj1⟩ : ∃ j1, j1 = j + 1 := ⟨_, rfl⟩
      have hadd : (j : Int) + 1 = (j1 : Int) := by omega
      rw [← hj1, okStep_eq] at HM
      clear ht hdr
      dsimp only at hb63
      by_cases hA : l < 0
      · have hA' : decide (l < 0) = true := decide_eq_true hA
        rw [decide_eq_false (show ¬ 0 ≤ l by omega), Bool.false_and, Bool.false_and] at HM
        clear hj1
        go_wp2_with fail
        go_ret
        rw [HM.out]
        exact ⟨rfl, HI.out.2.alloc _⟩
      · have hA' : decide (l < 0) = false := decide_eq_false hA
        rw [decide_eq_true (show 0 ≤ l by omega), Bool.true_and] at HM
        by_cases hC : m < 0
        · have hC' : decide (m < 0) = true := decide_eq_true hC
          rw [decide_eq_false (show ¬ 0 ≤ m by omega), Bool.false_and, Bool.false_and] at HM
          clear hj1
          go_wp2_with fail
          go_ret
          rw [HM.out]
          exact ⟨rfl, HI.out.2.alloc _⟩
        · have hC' : decide (m < 0) = false := decide_eq_false hC
          rw [decide_eq_true (show 0 ≤ m by omega), Bool.true_and] at HM
          by_cases hD : b < 0
          · have hD' : decide (b < 0) = true := decide_eq_true hD
            rw [decide_eq_false (show ¬ 0 ≤ b by omega), Bool.false_and, Bool.false_and] at HM
            clear hj1
            go_wp2_with fail
            go_ret
            rw [HM.out]
            exact ⟨rfl, HI.out.2.alloc _⟩
          · have hD' : decide (b < 0) = false := decide_eq_false hD
            rw [decide_eq_true (show 0 ≤ b by omega), Bool.true_and] at HM
            by_cases hE : (T.length : Int) - (i : Int) < l
            · have hE' : decide ((T.length : Int) - (i : Int) < l) = true := decide_eq_true hE
              rw [decide_eq_false (show ¬ l ≤ (T.length : Int) - (i : Int) by omega), Bool.false_and, Bool.false_and] at HM
              clear hj1
              go_wp2_with fail
              go_ret
              rw [HM.out]
              exact ⟨rfl, HI.out.2.alloc _⟩
            · have hE' : decide ((T.length : Int) - (i : Int) < l) = false := decide_eq_false hE
              rw [decide_eq_true (show l ≤ (T.length : Int) - (i : Int) by omega), Bool.true_and] at HM
              obtain ⟨ln, rfl⟩ : ∃ ln : Nat, l = (ln : Int) := ⟨l.toNat, by omega⟩
              obtain ⟨mn, rfl⟩ : ∃ mn : Nat, m = (mn : Int) := ⟨m.toNat, by omega⟩
              rw [Int.toNat_natCast, Int.toNat_natCast] at HM
              obtain ⟨u, hu⟩ : ∃ u : Nat, u = i + ln := ⟨_, rfl⟩
              have huI : (i : Int) + (ln : Int) = (u : Int) := by omega
              have hul : u ≤ T.length := by omega
              rw [← hu] at HM
              have HHu := hid hu
              clear hu hE hA hC
              by_cases h0 : 0 < mn
              · have h0' : decide (0 < mn) = true := decide_eq_true h0
                have h0I : decide (0 < (mn : Int)) = true := decide_eq_true (by omega)
                rw [h0I, Bool.not_true, Bool.false_or] at HM
                by_cases h2 : 2 ≤ mn
                · have h2' : decide (2 ≤ mn) = true := decide_eq_true h2
                  have h2I : decide (2 ≤ (mn : Int)) = true := decide_eq_true (by omega)
                  rw [h2I, Bool.true_and] at HM
                  by_cases h3 : mn ≤ 273
                  · have h3' : decide (mn ≤ 273) = true := decide_eq_true h3
                    have h3I : decide ((mn : Int) ≤ 273) = true := decide_eq_true (by omega)
                    rw [h3I, Bool.true_and] at HM
                    have HS := hid (fun W (hW : Bytes W ta tc tg tf T) => stands_any ta tc tg tf T u mn b W hW hT hul (by omega) (by omega) (by omega))
                    have HP := hid (standN_P (T := T) (i := u) (len := mn) (back := b))
                    generalize standN T u mn b = bb at *
                    clear hj1
                    cases bb with
                    | false =>
                      rw [Bool.false_and] at HM
                      go_wp2_with fail
                      refine (HS.out _ (bytes_alloc HBy.out _)).mono ?_
                      rintro e w1 ⟨rfl, n, rfl⟩
                      have HK := hid ((HI.out.2.alloc (.cells #[.int .i64 (ln : Int), .int .i64 (mn : Int), .int .i64 b] 46)).trans' (keep_drewN _ n))
                      go_wp2_with fail
                      go_ret
                      rw [HM.out]
                      exact ⟨rfl, HK.out⟩
                    | true =>
                      rw [Bool.true_and] at HM
                      obtain ⟨y, hy⟩ : ∃ y : Nat, y = u + mn := ⟨_, rfl⟩
                      have hyI : (u : Int) + (mn : Int) = (y : Int) := by omega
                      rw [← hy] at HM
                      have hyl : y ≤ T.length := by rw [hy]; exact (HP.out rfl).1
                      clear hy
                      have hq := hid (alloc_new wr (.cells #[.int .i64 (ln : Int), .int .i64 (mn : Int), .int .i64 b] 46))
                      go_wp2_with fail
                      refine (HS.out _ (bytes_alloc HBy.out _)).mono ?_
                      rintro e w1 ⟨rfl, n, rfl⟩
                      have HK := hid ((HI.out.2.alloc (.cells #[.int .i64 (ln : Int), .int .i64 (mn : Int), .int .i64 b] 46)).trans' (keep_drewN _ n))
                      go_wp2_with fail
                      go_roundw
                      case rel => exact ⟨y, j1, by go_num, by go_num, by omega, hyl, HM.out, HK.out⟩
                      case measure => simp [intOf]; omega
                  · have h3' : decide (mn ≤ 273) = false := decide_eq_false h3
                    have h3I : decide ((mn : Int) ≤ 273) = false := decide_eq_false (by omega)
                    rw [h3I, Bool.false_and, Bool.false_and] at HM
                    clear hj1
                    go_wp2_with fail
                    go_ret
                    rw [HM.out]
                    exact ⟨rfl, HI.out.2.alloc _⟩
                · have h2' : decide (2 ≤ mn) = false := decide_eq_false h2
                  have h2I : decide (2 ≤ (mn : Int)) = false := decide_eq_false (by omega)
                  rw [h2I, Bool.false_and, Bool.false_and] at HM
                  clear hj1
                  go_wp2_with fail
                  go_ret
                  rw [HM.out]
                  exact ⟨rfl, HI.out.2.alloc _⟩
              · obtain rfl : mn = 0 := by omega
                rw [show decide (0 < ((0 : Nat) : Int)) = false from rfl, Bool.not_false, Bool.true_or, Bool.true_and, Nat.add_zero] at HM
                rw [show (((0 : Nat)) : Int) = (0 : Int) from rfl] at e2
                clear h0 hC' hj1
                go_wp2_with fail
                go_roundw
                case rel => exact ⟨u, j1, by go_num, by go_num, by omega, hul, HM.out, HI.out.2.alloc _⟩
                case measure => simp [intOf]; omega
    · have hltI : ¬ (j : Int) < (ts.length : Int) := by omega
      have HM := hid (show madeB T ts fr = decide (i = T.length) from by
        rw [HI.out.1, List.drop_eq_nil_of_le (by omega)]; rfl)
      go_wp2_with fail
      go_ret
      rw [HM.out]
      refine ⟨?_, HI.out.2⟩
      show Ending.returned (Value.bool ((i : Int) == (T.length : Int))) = _
      rw [show ((i : Int) == (T.length : Int)) = decide (i = T.length) from by
        by_cases q : i = T.length
        · rw [decide_eq_true q, q]; simp
        · rw [decide_eq_false q]; simp; omega]

end Go.Proofs.YtnokemcogjoonaaGreatDoor.Pt

namespace Go.Proofs.YtnokemcogjoonaaGreatDoor.Pt
open Go.RowKit Go.Shelf
set_option linter.unusedVariables false

/-- The row that a chunk is: in new memory. -/
structure NewB (w W : World) (u : Value) (M : List Nat) : Prop where
  ex : ∃ cap g, u = .slice (some ⟨g, 0, none⟩) M.length cap ∧ Bytes W (some ⟨g, 0, none⟩) cap g 0 M ∧ w.heap.size ≤ g
theorem newB_of {w w1 W : World} {u : Value} {M : List Nat} (h : W.ownsRow w1.heap.size 5 1 u M.length (u8s M)) (hs : w.heap.size ≤ w1.heap.size) (hl : ∀ j : Nat, M[j]?.getD 0 < 256) (h5 : 0 < M.length) (h48 : M.length < 2 ^ 48) : NewB w W u M := by
  obtain ⟨h1, h2⟩ := h
  rcases h2 with ⟨-, e⟩ | ⟨g, cap, cur, e1, e2, e3, e4, e5, e6, e7⟩
  · omega
  · refine ⟨cap, g, e1, ⟨.inl rfl, (fun e => by cases e), (fun j hj => ?_), hl, e4, h48⟩, by omega⟩
    rw [Nat.zero_add, cell_of e3]
    have := u8s_at M j hj
    rw [← e7, Nat.mul_one, List.getElem?_take, if_pos hj, Array.getElem?_toList] at this
    exact this
/-- Behind a chunk. -/
structure Chd (G : Wg) (w W : World) (v : Value) (S : Se) (X : Ex) (u : Value) : Prop where
  st : IsS W G.sb S X.c
  row : NewB w W u (closeE X.e).out
  kp : Keep (WS G v) w W
theorem chunkO_nil (k : Tk) (reach : Nat) (s : Se) (i : Nat) : chunkO k reach [] s i = [] := rfl
theorem chunkO_cons (k : Tk) (reach : Nat) (t : Tri) (r : List Tri) (s : Se) (i : Nat) : chunkO k reach (t :: r) s i = splitO k reach s i t ++ chunkO k reach r (opsS (splitO k reach s i t) s) (i + t.1.toNat + t.2.1.toNat) := rfl
theorem out_long (e : Enc) : (closeE e).out.length ≤ manyE e + 5 := by
  have := closeE_many e
  unfold manyE at this ⊢
  omega
section
attribute [local go_sem] maxSem_eq
set_option maxRecDepth 20000 in
set_option maxHeartbeats 4000000 in
theorem chunk_any (G : Wg) (s : Se) (x : Ex) (v : Value) (w : World) (la : Option Addr) (lc lg lo : Nat) (ts : List Tri) (S : Se) (X : Ex) (reach : Nat) (hreach : reach = max G.k.fr 1) (h : Wt G w s x v G.k.fr) (hQ : Fd.RowQ w la lc lg lo ts) (hlg : ts ≠ [] → ¬ WS G v lg)
    (hm : madeB G.k.T ts G.k.fr = true) (hT : ts.length < 140737488355328) (hw : Way G w w v s (chunkO G.k reach ts s G.k.fr) S X G.k.fr) (hmx : manyE X.e ≤ 999990) :
    Calls Tryz.prog 28 #[.pointer (some ⟨G.wb, 0, none⟩), .slice la ts.length lc] w fun e w' => ∃ u, e = .returned u ∧ Chd G w w' v S X u := by
  have htl := h.tl
  have hfi := h.il
  obtain ⟨-, -, c2, c3, -⟩ := h.cells
  have hrI : (reach : Int) = max (G.k.fr : Int) 1 := by omega
  have hmax := maxSem_run .i64 #[3, 3] 3 (G.k.fr : Int) 1 (reach : Int) hrI
  have hr6 : reach ≤ 65536 := by omega
  clear hrI hreach
  have hmf : ∀ (fn : Fn) (first cap : Array Value) (w : World), (Instr.makeFunc fn first cap).run Tryz.prog w = .ok (.func fn first cap) w := fun _ _ _ _ => rfl
  obtain ⟨L, hL⟩ : ∃ L : Int, L = (G.k.T.length : Int) - 1 := ⟨_, rfl⟩
  have hlI : (G.k.T.length : Int) - 1 = L := hL.symm
  obtain ⟨W1, hW1⟩ : ∃ W1, W1 = w.alloc (.cells #[.pointer (some ⟨G.wb, 0, none⟩)] 98) := ⟨_, rfl⟩
  obtain ⟨W2, hW2⟩ : ∃ W2, W2 = W1.alloc (.cells #[.int .i64 (reach : Int)] 3) := ⟨_, rfl⟩
  obtain ⟨W3, hW3⟩ : ∃ W3, W3 = W2.alloc (.cells #[.int .i64 L] 3) := ⟨_, rfl⟩
  have k1 : Keep noBlock w W1 := by rw [hW1]; exact (Keep.refl noBlock w).alloc _
  have k2 : Keep noBlock w W2 := by rw [hW2]; exact k1.alloc _
  have k3 : Keep noBlock w W3 := by rw [hW3]; exact k2.alloc _
  have b1 : W1.heap[w.heap.size]? = some (.cells #[.pointer (some ⟨G.wb, 0, none⟩)] 98 (0, 0)) := by rw [hW1]; exact alloc_new w _
  have b2 : W2.heap[W1.heap.size]? = some (.cells #[.int .i64 (reach : Int)] 3 (0, 0)) := by rw [hW2]; exact alloc_new W1 _
  have b3 : W3.heap[W2.heap.size]? = some (.cells #[.int .i64 L] 3 (0, 0)) := by rw [hW3]; exact alloc_new W2 _
  have k12 : Keep noBlock W1 W2 := by rw [hW2]; exact (Keep.refl noBlock W1).alloc _
  have k23 : Keep noBlock W2 W3 := by rw [hW3]; exact (Keep.refl noBlock W2).alloc _
  have z1 : W1.heap.size = w.heap.size + 1 := by rw [hW1, World.size_alloc]
  have z2 : W2.heap.size = w.heap.size + 1 + 1 := by rw [hW2, World.size_alloc, z1]
  have hC : Cap G W3 w.heap.size W2.heap.size W1.heap.size reach := ⟨k23.obj (k12.obj b1 (fun h => h)) (fun h => h), by rw [b3, hL], k23.obj b2 (fun h => h)⟩
  rw [z1, z2] at hC
  clear z1 z2
  have hW := hw.keep k3
  obtain ⟨x1, v1, hP, hA⟩ := hW.base
  have H0 := hid (show Way G W3 W3 v1 s (chunkO G.k reach (ts.drop 0) s G.k.fr) S X G.k.fr ∧ madeB G.k.T (ts.drop 0) G.k.fr = true from ⟨hA, hm⟩)
  have e3 : (w.alloc (.cells #[.pointer (some ⟨G.wb, 0, none⟩)] 98)).cell? ⟨G.wb, 3, none⟩ = some (.int .i64 (G.k.fr : Int)) := by rw [← hW1]; exact (h.kept k1).cells.2.2.2.1
  have e2 : ((w.alloc (.cells #[.pointer (some ⟨G.wb, 0, none⟩)] 98)).alloc (.cells #[.int .i64 (reach : Int)] 3)).cell? ⟨G.wb, 2, none⟩ = some (.slice G.ta G.k.T.length G.tc) := by rw [← hW1, ← hW2]; exact (h.kept k2).cells.2.2.1
  have e1 : ((w.alloc (.cells #[.pointer (some ⟨G.wb, 0, none⟩)] 98)).alloc (.cells #[.int .i64 (reach : Int)] 3)).cell? ⟨w.heap.size, 0, none⟩ = some (.pointer (some ⟨G.wb, 0, none⟩)) := by rw [← hW1, ← hW2]; exact cell_of (k12.obj b1 (fun h => h)) 0
  have hnl : ts ≠ [] → ¬ WS G v1 lg := fun hne hw => hlg hne (ws_near hP.near lg (hQ.block hne) hw)
  have HB := hid (And.intro hP (And.intro hC (And.intro (hQ.keep k3 (fun _ h => h)) hnl)))
  clear h hQ hlg hm hw hC hW hP hA k1 k2 k3 b1 b2 b3 k12 k23 c2 c3 hnl hL
  have HWs := hid (And.intro hW1 (And.intro hW2 hW3))
  clear hW1 hW2 hW3
  go_enter Tryz.func28, Tryz.ntmps28
  go_wp2_with fail
  rw [← HWs.out.1, ← HWs.out.2.1, ← HWs.out.2.2]
  generalize hz1 : w.heap.size + 1 = br at *
  generalize hz2 : br + 1 = bl at *
  obtain ⟨bw, hbw⟩ : ∃ bw, bw = w.heap.size := ⟨_, rfl⟩
  rw [← hbw] at HB ⊢
  have HSZ := hid (And.intro hbw (And.intro hz1 hz2))
  clear e1 e2 e3 hz1 hz2 hbw
  go_loopw [24] (fun t wr => ∃ j : Nat, t = .int .i64 (j : Int) ∧ j ≤ ts.length ∧ Hid (∃ s' i', Way G W3 wr v1 s' (chunkO G.k reach (ts.drop j) s' i') S X i' ∧ madeB G.k.T (ts.drop j) i' = true)) (fun t _ => ts.length - (intOf t).toNat)
  case atStart => exact ⟨0, rfl, Nat.zero_le _, s, G.k.fr, H0.out.1, H0.out.2⟩
  case round =>
    clear H0
    obtain ⟨j, rfl, hj, HQ⟩ := hrel
    obtain ⟨s', i', q1, q2⟩ := HQ.out
    obtain ⟨g1, g2, g3, g4⟩ := HB.out
    by_cases hlt : j < ts.length
    · have hltI : (j : Int) < (ts.length : Int) := by omega
      have hne : ts ≠ [] := fun e => by rw [e] at hlt; simp at hlt
      obtain ⟨x9, v9, p9, -⟩ := q1.base
      have hQ' := g3.keep p9.kp (fun _ => g4 hne)
      obtain ⟨e1, e2, e3⟩ := hQ'.cells j hlt
      obtain rfl := g3.here hlt
      have hb63 := g3.b63 j
      have hdr := Fd.drop_cons hlt
      obtain ⟨⟨l, m, b⟩, ht⟩ : ∃ t : Tri, ts[j]?.getD (0, 0, 0) = t := ⟨_, rfl⟩
      rw [ht] at e1 e2 e3 hdr hb63
      rw [hdr, madeB_cons, Bool.and_eq_true] at q2
      rw [hdr, chunkO_cons] at q1
      obtain ⟨q2, q3⟩ := q2
      have hil := p9.wt.il
      obtain ⟨f1, f2, f3, -⟩ := okStep_facts q2 hil
      dsimp only at f1 f2 f3 q1 q3 e1 e2 e3 hb63
      obtain ⟨ln, rfl⟩ : ∃ ln : Nat, l = (ln : Int) := ⟨l.toNat, by omega⟩
      obtain ⟨mn, rfl⟩ : ∃ mn : Nat, m = (mn : Int) := ⟨m.toNat, by omega⟩
      rw [Int.toNat_natCast, Int.toNat_natCast] at q1 q3
      have HC := hid (split_any G W3 v1 s' s x1 G.k.fr ln mn b (chunkO G.k reach (ts.drop (j + 1)) (opsS (splitO G.k reach s' i' ((ln : Int), (mn : Int), b)) s') (i' + ln + mn)) S X i' reach bw bl br _ g1.wt g2 (q1.keep ((Keep.refl noBlock wr).alloc (.cells #[.int .i64 (ln : Int), .int .i64 (mn : Int), .int .i64 b] 46))) q2 hr6 hb63)
      have HM := hid q3
      clear ht hdr q1 q2 q3 HQ g1 g2 g3 g4 hQ' p9 f1 f2 f3 hil
      generalize hs2 : opsS (splitO G.k reach s' i' ((ln : Int), (mn : Int), b)) s' = s2 at *
      generalize hi2 : i' + ln + mn = i2 at *
      clear hs2 hi2
      go_wp2_with fail
      refine HC.out.mono ?_
      rintro e w6 ⟨rfl, h6⟩
      have H6 := hid h6
      clear h6 HC
      go_wp2_with fail
      go_roundw
      case rel => exact ⟨j + 1, by go_num, by omega, s2, i2, H6.out, HM.out⟩
      case measure => simp [intOf]; omega
    · have hltI : ¬ (j : Int) < (ts.length : Int) := by omega
      rw [List.drop_eq_nil_of_le (by omega), chunkO_nil] at q1
      have hC := q1.cap g1.wt g2
      have c0 := hC.cells.1
      obtain ⟨x2, v2, p1, -, -, p4, p5⟩ := q1
      have p4' : s' = S := p4
      have p5' : x2 = X := p5
      subst p4'
      subst p5'
      obtain ⟨-, c1, -⟩ := p1.wt.cells
      have HCl := hid (close_any G.eb x2.e v2 wr p1.wt.pe.en hmx)
      have HP := hid (And.intro g1 p1)
      clear g1 g2 g3 g4 p1 hC HQ q2 p4 p5
      go_wp2_with fail
      refine HCl.out.mono ?_
      rintro e w6 ⟨u, v3, rfl, o1, o2, o3, o4⟩
      have HF := hid (show Chd G w w6 v s' x2 u from by
        obtain ⟨a1, a2⟩ := HP.out
        have t1 := a1.trans a2
        have hg := a2.wt.pe.good
        refine ⟨a2.wt.pe.st.keep o4 ?_, newB_of o1 t1.kp.size (closeE_sh hg.ok).out ?_ ?_, t1.kp.trans o4 ?_⟩
        · rintro (e | e)
          · exact a2.wt.pe.ne e
          · exact a2.wt.pe.nv e
        · have := (closeE_first hg).1; omega
        · have := out_long x2.e; omega
        · rintro i hi (e | e)
          · exact .inr (.inr (.inl e))
          · exact ws_near t1.near i hi (.inr (.inr (.inr e))))
      clear o1 o2 o3 o4 HP HCl
      go_wp2_with fail
      go_ret
      exact ⟨u, rfl, HF.out⟩
end

end Go.Proofs.YtnokemcogjoonaaGreatDoor.Pt

namespace Go.Proofs.YtnokemcogjoonaaGreatDoor.Pt
open Go.RowKit Go.Shelf
set_option linter.unusedVariables false

/-- Even chances, from one place to another. -/
def Ev (c : Nat → Nat) (a b : Nat) : Prop := ∀ i, a ≤ i → i < b → c i = 1024
/-- What was even stays so. -/
def Mo (c c' : Nat → Nat) : Prop := ∀ i, c i = 1024 → c' i = 1024
theorem Ev.mo {c c' : Nat → Nat} {a b : Nat} (h : Ev c a b) (hm : Mo c c') : Ev c' a b := fun i h1 h2 => hm i (h i h1 h2)
theorem Mo.trans {a b c : Nat → Nat} (h : Mo a b) (k : Mo b c) : Mo a c := fun i hi => k i (h i hi)
theorem Mo.refl (c : Nat → Nat) : Mo c c := fun _ h => h
theorem IsS.put {w : World} {b : Nat} {s : Se} {c : Nat → Nat} (h : IsS w b s c) (i x : Nat) (h8 : 8 ≤ i) (hx : x < 65536) : IsS (w.setCell ⟨b, i, none⟩ (.int .u16 (x : Int))) b s (putC c i x) := by
  obtain ⟨cs, ho, hc⟩ := h.obj
  refine ⟨⟨_, set_obj ho i _, hc.put i x h8⟩, h.ok, fun k => ?_⟩
  unfold putC
  split
  · exact hx
  · exact h.lt k
theorem IsS.cell {w : World} {b : Nat} {s : Se} {c : Nat → Nat} (h : IsS w b s c) (i : Nat) (h8 : 8 ≤ i) (hi : i < 14143) : w.cell? ⟨b, i, none⟩ = some (.int .u16 ((c i : Nat) : Int)) ∧ w.frozen? ⟨b, i, none⟩ = false := by
  obtain ⟨cs, ho, hc⟩ := h.obj
  exact ⟨(cell_of ho i).trans (hc.ch i h8 hi), frozen_of ho i⟩
/-- A state part of whose chances are even. -/
structure Rs (w W : World) (sb : Nat) (s : Se) (c c' : Nat → Nat) (a b : Nat) : Prop where
  st : IsS W sb s c'
  ev : Ev c' a b
  mo : Mo c c'
  kp : Keep (fun k => k = sb) w W
theorem Rs.nil {w : World} {sb : Nat} {s : Se} {c : Nat → Nat} (h : IsS w sb s c) (a : Nat) : Rs w w sb s c c a a := ⟨h, fun i h1 h2 => by omega, Mo.refl c, Keep.refl _ _⟩
theorem Rs.and {w W V : World} {sb : Nat} {s : Se} {c c' c'' : Nat → Nat} {a b d : Nat} (h : Rs w W sb s c c' a b) (k : Rs W V sb s c' c'' b d) : Rs w V sb s c c'' a d :=
  ⟨k.st, fun i h1 h2 => by
    by_cases hb : i < b
    · exact k.mo i (h.ev i h1 hb)
    · exact k.ev i (by omega) h2, h.mo.trans k.mo, h.kp.trans' k.kp⟩

set_option maxHeartbeats 1000000 in
theorem reset_tree (sb o n cap : Nat) (s : Se) (c : Nat → Nat) (w : World) (h : IsS w sb s c) (h8 : 8 ≤ o) (hn : o + n ≤ 14143) :
    Calls Tryz.prog 33 #[.slice (some ⟨sb, o, none⟩) n cap] w fun e w' => e = .returned (.tuple #[]) ∧ ∃ c', Rs w w' sb s c c' o (o + n) := by
  have HI := hid h
  clear h
  go_enter Tryz.func33, Tryz.ntmps33
  go_wp2_with fail
  go_loopw [5] (fun i wr => ∃ j : Nat, i = .int .i64 j ∧ j ≤ n ∧ Hid (∃ c', Rs w wr sb s c c' o (o + j))) (fun i _ => n - (intOf i).toNat)
  case atStart => exact ⟨0, rfl, by omega, (show ∃ c', _ from ⟨c, Rs.nil HI.out o⟩)⟩
  case round =>
    obtain ⟨j, rfl, hj, HQ⟩ := hrel
    by_cases hlt : j < n
    · have hltI : (j : Int) < (n : Int) := by omega
      obtain ⟨c', hc⟩ := HQ.out
      obtain ⟨x1, x2⟩ := hc.st.cell (o + j) (by omega) (by omega)
      have HC := hid hc
      clear hc HQ
      go_wp2_with fail
      go_roundw
      case rel =>
        refine ⟨j + 1, by go_num, by omega, (show ∃ c', _ from ⟨putC c' (o + j) 1024, ?_⟩)⟩
        refine ⟨HC.out.st.put (o + j) 1024 (by omega) (by omega), fun i h1 h2 => ?_, fun i hi => ?_, HC.out.kp.setCell (p := ⟨sb, o + j, none⟩) (fun _ => rfl) _⟩
        · unfold putC
          split
          · rfl
          · exact HC.out.ev i h1 (by omega)
        · unfold putC
          split
          · rfl
          · exact HC.out.mo i hi
      case measure => simp [intOf]; omega
    · have hltI : ¬ (j : Int) < (n : Int) := by omega
      obtain rfl : j = n := by omega
      go_wp2_with fail
      go_end0
      exact ⟨rfl, HQ.out⟩

set_option maxHeartbeats 2000000 in
theorem reset_lengths (sb L : Nat) (s : Se) (c : Nat → Nat) (w : World) (h : IsS w sb s c) (h8 : 8 ≤ L) (hL : L + 514 ≤ 14143) :
    Calls Tryz.prog 34 #[.pointer (some ⟨sb, L, none⟩)] w fun e w' => e = .returned (.tuple #[]) ∧ ∃ c', Rs w w' sb s c c' L (L + 514) := by
  have H1 := hid (reset_tree sb L 2 2 s c w h h8 (by omega))
  clear h
  go_enter Tryz.func34, Tryz.ntmps34
  go_wp2_with fail
  refine H1.out.mono ?_
  rintro e w1 ⟨rfl, c1, r1⟩
  have R1 := hid r1
  clear r1 H1
  go_wp2_with fail
  go_loopw [8] (fun i wr => ∃ j : Nat, i = .int .i64 j ∧ j ≤ 16 ∧ Hid (∃ c', Rs w wr sb s c c' L (L + 2) ∧ Ev c' (L + 2) (L + 2 + j * 8) ∧ Ev c' (L + 130) (L + 130 + j * 8))) (fun i _ => 16 - (intOf i).toNat)
  case atStart => exact ⟨0, rfl, by omega, (show ∃ c', _ from ⟨c1, R1.out, fun i h1 h2 => by omega, fun i h1 h2 => by omega⟩)⟩
  case round =>
    obtain ⟨j, rfl, hj, HQ⟩ := hrel
    by_cases hlt : j < 16
    · have hltI : (j : Int) < 16 := by omega
      obtain ⟨c2, q1, q2, q3⟩ := HQ.out
      have HA := hid (reset_tree sb (L + 2 + j * 8) 8 8 s c2 wr q1.st (by omega) (by omega))
      have HC := hid (And.intro q1 (And.intro q2 q3))
      clear q1 q2 q3 HQ
      go_wp2_with fail
      refine HA.out.mono ?_
      rintro e w3 ⟨rfl, c3, r3⟩
      have HB := hid (reset_tree sb (L + 130 + j * 8) 8 8 s c3 w3 r3.st (by omega) (by omega))
      have R3 := hid r3
      clear r3 HA
      go_wp2_with fail
      refine HB.out.mono ?_
      rintro e w4 ⟨rfl, c4, r4⟩
      have HG := (show Hid (∃ c', Rs w w4 sb s c c' L (L + 2) ∧ Ev c' (L + 2) (L + 2 + (j + 1) * 8) ∧ Ev c' (L + 130) (L + 130 + (j + 1) * 8)) from by
        obtain ⟨q1, q2, q3⟩ := HC.out
        have m := R3.out.mo.trans r4.mo
        refine ⟨c4, ⟨r4.st, q1.ev.mo m, q1.mo.trans m, (q1.kp.trans' R3.out.kp).trans' r4.kp⟩, fun i h1 h2 => ?_, fun i h1 h2 => ?_⟩
        · by_cases hb : i < L + 2 + j * 8
          · exact m i (q2 i h1 hb)
          · exact r4.mo i (R3.out.ev i (by omega) (by omega))
        · by_cases hb : i < L + 130 + j * 8
          · exact m i (q3 i h1 hb)
          · exact r4.ev i (by omega) (by omega))
      clear r4 HB HC R3
      go_wp2_with fail
      go_roundw
      case rel => exact ⟨j + 1, by go_num, by omega, HG⟩
      case measure => simp [intOf]; omega
    · have hltI : ¬ (j : Int) < 16 := by omega
      obtain rfl : j = 16 := by omega
      obtain ⟨c2, q1, q2, q3⟩ := HQ.out
      have HA := hid (reset_tree sb (L + 258) 256 256 s c2 wr q1.st (by omega) (by omega))
      have HC := hid (And.intro q1 (And.intro q2 q3))
      clear q1 q2 q3 HQ
      go_wp2_with fail
      refine HA.out.mono ?_
      rintro e w3 ⟨rfl, c3, r3⟩
      have HG := (show Hid (∃ c', Rs w w3 sb s c c' L (L + 514)) from by
        obtain ⟨q1, q2, q3⟩ := HC.out
        refine ⟨c3, r3.st, fun i h1 h2 => ?_, q1.mo.trans r3.mo, q1.kp.trans' r3.kp⟩
        by_cases b1 : i < L + 2
        · exact r3.mo i (q1.ev i h1 b1)
        · by_cases b2 : i < L + 130
          · exact r3.mo i (q2 i (by omega) (by omega))
          · by_cases b3 : i < L + 258
            · exact r3.mo i (q3 i (by omega) (by omega))
            · exact r3.ev i (by omega) (by omega))
      clear r3 HA HC
      go_wp2_with fail
      go_end0
      exact ⟨rfl, HG.out⟩

set_option maxHeartbeats 2000000 in
theorem reset_distances (sb : Nat) (s : Se) (c : Nat → Nat) (w : World) (h : IsS w sb s c) :
    Calls Tryz.prog 35 #[.pointer (some ⟨sb, 13756, none⟩)] w fun e w' => e = .returned (.tuple #[]) ∧ ∃ c', Rs w w' sb s c c' 13756 14143 := by
  have HI := hid h
  clear h
  go_enter Tryz.func35, Tryz.ntmps35
  go_wp2_with fail
  go_loopw [3] (fun i wr => ∃ j : Nat, i = .int .i64 j ∧ j ≤ 4 ∧ Hid (∃ c', Rs w wr sb s c c' 13756 (13756 + j * 64))) (fun i _ => 4 - (intOf i).toNat)
  case atStart => exact ⟨0, rfl, by omega, (show ∃ c', _ from ⟨c, Rs.nil HI.out 13756⟩)⟩
  case round =>
    obtain ⟨j, rfl, hj, HQ⟩ := hrel
    by_cases hlt : j < 4
    · have hltI : (j : Int) < 4 := by omega
      obtain ⟨c2, q1⟩ := HQ.out
      have HA := hid (reset_tree sb (13756 + j * 64) 64 64 s c2 wr q1.st (by omega) (by omega))
      have HC := hid q1
      clear q1 HQ
      go_wp2_with fail
      refine HA.out.mono ?_
      rintro e w3 ⟨rfl, c3, r3⟩
      have HG := (show Hid (∃ c', Rs w w3 sb s c c' 13756 (13756 + (j + 1) * 64)) from ⟨c3, by
        have := HC.out.and r3
        rw [show 13756 + (j + 1) * 64 = 13756 + j * 64 + 64 from by omega]
        exact this⟩)
      clear r3 HA HC
      go_wp2_with fail
      go_roundw
      case rel => exact ⟨j + 1, by go_num, by omega, HG⟩
      case measure => simp [intOf]; omega
    · have hltI : ¬ (j : Int) < 4 := by omega
      obtain rfl : j = 4 := by omega
      obtain ⟨c2, q1⟩ := HQ.out
      have HA := hid (reset_tree sb 14012 115 115 s c2 wr q1.st (by omega) (by omega))
      have HC := hid q1
      clear q1 HQ
      go_wp2_with fail
      refine HA.out.mono ?_
      rintro e w3 ⟨rfl, c3, r3⟩
      have HB := hid (reset_tree sb 14127 16 16 s c3 w3 r3.st (by omega) (by omega))
      have R3 := hid r3
      clear r3 HA
      go_wp2_with fail
      refine HB.out.mono ?_
      rintro e w4 ⟨rfl, c4, r4⟩
      have HG := (show Hid (∃ c', Rs w w4 sb s c c' 13756 14143) from ⟨c4, (HC.out.and R3.out).and r4⟩)
      clear r4 HB HC
      go_wp2_with fail
      go_end0
      exact ⟨rfl, HG.out⟩

end Go.Proofs.YtnokemcogjoonaaGreatDoor.Pt

namespace Go.Proofs.YtnokemcogjoonaaGreatDoor
open Go.RowKit Go.Shelf
set_option linter.unusedVariables false

/-- Even chances, from one place to another. -/
def Ev (c : Nat → Nat) (a b : Nat) : Prop := ∀ i, a ≤ i → i < b → c i = 1024
/-- What was even stays so. -/
def Mo (c c' : Nat → Nat) : Prop := ∀ i, c i = 1024 → c' i = 1024
theorem Ev.mo {c c' : Nat → Nat} {a b : Nat} (h : Ev c a b) (hm : Mo c c') : Ev c' a b := fun i h1 h2 => hm i (h i h1 h2)
theorem Mo.trans {a b c : Nat → Nat} (h : Mo a b) (k : Mo b c) : Mo a c := fun i hi => k i (h i hi)
theorem Mo.refl (c : Nat → Nat) : Mo c c := fun _ h => h
theorem IsS.put {w : World} {b : Nat} {s : Se} {c : Nat → Nat} (h : IsS w b s c) (i x : Nat) (h8 : 8 ≤ i) (hx : x < 65536) : IsS (w.setCell ⟨b, i, none⟩ (.int .u16 (x : Int))) b s (putC c i x) := by
  obtain ⟨cs, ho, hc⟩ := h.obj
  refine ⟨⟨_, set_obj ho i _, hc.put i x h8⟩, h.ok, fun k => ?_⟩
  unfold putC
  split
  · exact hx
  · exact h.lt k
theorem IsS.cell {w : World} {b : Nat} {s : Se} {c : Nat → Nat} (h : IsS w b s c) (i : Nat) (h8 : 8 ≤ i) (hi : i < 14143) : w.cell? ⟨b, i, none⟩ = some (.int .u16 ((c i : Nat) : Int)) ∧ w.frozen? ⟨b, i, none⟩ = false := by
  obtain ⟨cs, ho, hc⟩ := h.obj
  exact ⟨(cell_of ho i).trans (hc.ch i h8 hi), frozen_of ho i⟩
/-- A state part of whose chances are even. -/
structure Rs (w W : World) (sb : Nat) (s : Se) (c c' : Nat → Nat) (a b : Nat) : Prop where
  st : IsS W sb s c'
  ev : Ev c' a b
  mo : Mo c c'
  kp : Keep (fun k => k = sb) w W
theorem Rs.nil {w : World} {sb : Nat} {s : Se} {c : Nat → Nat} (h : IsS w sb s c) (a : Nat) : Rs w w sb s c c a a := ⟨h, fun i h1 h2 => by omega, Mo.refl c, Keep.refl _ _⟩
theorem Rs.and {w W V : World} {sb : Nat} {s : Se} {c c' c'' : Nat → Nat} {a b d : Nat} (h : Rs w W sb s c c' a b) (k : Rs W V sb s c' c'' b d) : Rs w V sb s c c'' a d :=
  ⟨k.st, fun i h1 h2 => by
    by_cases hb : i < b
    · exact k.mo i (h.ev i h1 hb)
    · exact k.ev i (by omega) h2, h.mo.trans k.mo, h.kp.trans' k.kp⟩

set_option maxHeartbeats 1000000 in
theorem reset_tree (sb o n cap : Nat) (s : Se) (c : Nat → Nat) (w : World) (h : IsS w sb s c) (h8 : 8 ≤ o) (hn : o + n ≤ 14143) :
    Calls Tryz.prog 36 #[.slice (some ⟨sb, o, none⟩) n cap] w fun e w' => e = .returned (.tuple #[]) ∧ ∃ c', Rs w w' sb s c c' o (o + n) := by
  have HI := hid h
  clear h
  go_enter Tryz.func36, Tryz.ntmps36
  go_wp2_with fail
  go_loopw [5] (fun i wr => ∃ j : Nat, i = .int .i64 j ∧ j ≤ n ∧ Hid (∃ c', Rs w wr sb s c c' o (o + j))) (fun i _ => n - (intOf i).toNat)
  case atStart => exact ⟨0, rfl, by omega, (show ∃ c', _ from ⟨c, Rs.nil HI.out o⟩)⟩
  case round =>
    obtain ⟨j, rfl, hj, HQ⟩ := hrel
    by_cases hlt : j < n
    · have hltI : (j : Int) < (n : Int) := by omega
      obtain ⟨c', hc⟩ := HQ.out
      obtain ⟨x1, x2⟩ := hc.st.cell (o + j) (by omega) (by omega)
      have HC := hid hc
      clear hc HQ
      go_wp2_with fail
      go_roundw
      case rel =>
        refine ⟨j + 1, by go_num, by omega, (show ∃ c', _ from ⟨putC c' (o + j) 1024, ?_⟩)⟩
        refine ⟨HC.out.st.put (o + j) 1024 (by omega) (by omega), fun i h1 h2 => ?_, fun i hi => ?_, HC.out.kp.setCell (p := ⟨sb, o + j, none⟩) (fun _ => rfl) _⟩
        · unfold putC
          split
          · rfl
          · exact HC.out.ev i h1 (by omega)
        · unfold putC
          split
          · rfl
          · exact HC.out.mo i hi
      case measure => simp [intOf]; omega
    · have hltI : ¬ (j : Int) < (n : Int) := by omega
      obtain rfl : j = n := by omega
      go_wp2_with fail
      go_end0
      exact ⟨rfl, HQ.out⟩

set_option maxHeartbeats 2000000 in
theorem reset_lengths (sb L : Nat) (s : Se) (c : Nat → Nat) (w : World) (h : IsS w sb s c) (h8 : 8 ≤ L) (hL : L + 514 ≤ 14143) :
    Calls Tryz.prog 37 #[.pointer (some ⟨sb, L, none⟩)] w fun e w' => e = .returned (.tuple #[]) ∧ ∃ c', Rs w w' sb s c c' L (L + 514) := by
  have H1 := hid (reset_tree sb L 2 2 s c w h h8 (by omega))
  clear h
  go_enter Tryz.func37, Tryz.ntmps37
  go_wp2_with fail
  refine H1.out.mono ?_
  rintro e w1 ⟨rfl, c1, r1⟩
  have R1 := hid r1
  clear r1 H1
  go_wp2_with fail
  go_loopw [8] (fun i wr => ∃ j : Nat, i = .int .i64 j ∧ j ≤ 16 ∧ Hid (∃ c', Rs w wr sb s c c' L (L + 2) ∧ Ev c' (L + 2) (L + 2 + j * 8) ∧ Ev c' (L + 130) (L + 130 + j * 8))) (fun i _ => 16 - (intOf i).toNat)
  case atStart => exact ⟨0, rfl, by omega, (show ∃ c', _ from ⟨c1, R1.out, fun i h1 h2 => by omega, fun i h1 h2 => by omega⟩)⟩
  case round =>
    obtain ⟨j, rfl, hj, HQ⟩ := hrel
    by_cases hlt : j < 16
    · have hltI : (j : Int) < 16 := by omega
      obtain ⟨c2, q1, q2, q3⟩ := HQ.out
      have HA := hid (reset_tree sb (L + 2 + j * 8) 8 8 s c2 wr q1.st (by omega) (by omega))
      have HC := hid (And.intro q1 (And.intro q2 q3))
      clear q1 q2 q3 HQ
      go_wp2_with fail
      refine HA.out.mono ?_
      rintro e w3 ⟨rfl, c3, r3⟩
      have HB := hid (reset_tree sb (L + 130 + j * 8) 8 8 s c3 w3 r3.st (by omega) (by omega))
      have R3 := hid r3
      clear r3 HA
      go_wp2_with fail
      refine HB.out.mono ?_
      rintro e w4 ⟨rfl, c4, r4⟩
      have HG := (show Hid (∃ c', Rs w w4 sb s c c' L (L + 2) ∧ Ev c' (L + 2) (L + 2 + (j + 1) * 8) ∧ Ev c' (L + 130) (L + 130 + (j + 1) * 8)) from by
        obtain ⟨q1, q2, q3⟩ := HC.out
        have m := R3.out.mo.trans r4.mo
        refine ⟨c4, ⟨r4.st, q1.ev.mo m, q1.mo.trans m, (q1.kp.trans' R3.out.kp).trans' r4.kp⟩, fun i h1 h2 => ?_, fun i h1 h2 => ?_⟩
        · by_cases hb : i < L + 2 + j * 8
          · exact m i (q2 i h1 hb)
          · exact r4.mo i (R3.out.ev i (by omega) (by omega))
        · by_cases hb : i < L + 130 + j * 8
          · exact m i (q3 i h1 hb)
          · exact r4.ev i (by omega) (by omega))
      clear r4 HB HC R3
      go_wp2_with fail
      go_roundw
      case rel => exact ⟨j + 1, by go_num, by omega, HG⟩
      case measure => simp [intOf]; omega
    · have hltI : ¬ (j : Int) < 16 := by omega
      obtain rfl : j = 16 := by omega
      obtain ⟨c2, q1, q2, q3⟩ := HQ.out
      have HA := hid (reset_tree sb (L + 258) 256 256 s c2 wr q1.st (by omega) (by omega))
      have HC := hid (And.intro q1 (And.intro q2 q3))
      clear q1 q2 q3 HQ
      go_wp2_with fail
      refine HA.out.mono ?_
      rintro e w3 ⟨rfl, c3, r3⟩
      have HG := (show Hid (∃ c', Rs w w3 sb s c c' L (L + 514)) from by
        obtain ⟨q1, q2, q3⟩ := HC.out
        refine ⟨c3, r3.st, fun i h1 h2 => ?_, q1.mo.trans r3.mo, q1.kp.trans' r3.kp⟩
        by_cases b1 : i < L + 2
        · exact r3.mo i (q1.ev i h1 b1)
        · by_cases b2 : i < L + 130
          · exact r3.mo i (q2 i (by omega) (by omega))
          · by_cases b3 : i < L + 258
            · exact r3.mo i (q3 i (by omega) (by omega))
            · exact r3.ev i (by omega) (by omega))
      clear r3 HA HC
      go_wp2_with fail
      go_end0
      exact ⟨rfl, HG.out⟩

set_option maxHeartbeats 2000000 in
theorem reset_distances (sb : Nat) (s : Se) (c : Nat → Nat) (w : World) (h : IsS w sb s c) :
    Calls Tryz.prog 38 #[.pointer (some ⟨sb, 13756, none⟩)] w fun e w' => e = .returned (.tuple #[]) ∧ ∃ c', Rs w w' sb s c c' 13756 14143 := by
  have HI := hid h
  clear h
  go_enter Tryz.func38, Tryz.ntmps38
  go_wp2_with fail
  go_loopw [3] (fun i wr => ∃ j : Nat, i = .int .i64 j ∧ j ≤ 4 ∧ Hid (∃ c', Rs w wr sb s c c' 13756 (13756 + j * 64))) (fun i _ => 4 - (intOf i).toNat)
  case atStart => exact ⟨0, rfl, by omega, (show ∃ c', _ from ⟨c, Rs.nil HI.out 13756⟩)⟩
  case round =>
    obtain ⟨j, rfl, hj, HQ⟩ := hrel
    by_cases hlt : j < 4
    · have hltI : (j : Int) < 4 := by omega
      obtain ⟨c2, q1⟩ := HQ.out
      have HA := hid (reset_tree sb (13756 + j * 64) 64 64 s c2 wr q1.st (by omega) (by omega))
      have HC := hid q1
      clear q1 HQ
      go_wp2_with fail
      refine HA.out.mono ?_
      rintro e w3 ⟨rfl, c3, r3⟩
      have HG := (show Hid (∃ c', Rs w w3 sb s c c' 13756 (13756 + (j + 1) * 64)) from ⟨c3, by
        have := HC.out.and r3
        rw [show 13756 + (j + 1) * 64 = 13756 + j * 64 + 64 from by omega]
        exact this⟩)
      clear r3 HA HC
      go_wp2_with fail
      go_roundw
      case rel => exact ⟨j + 1, by go_num, by omega, HG⟩
      case measure => simp [intOf]; omega
    · have hltI : ¬ (j : Int) < 4 := by omega
      obtain rfl : j = 4 := by omega
      obtain ⟨c2, q1⟩ := HQ.out
      have HA := hid (reset_tree sb 14012 115 115 s c2 wr q1.st (by omega) (by omega))
      have HC := hid q1
      clear q1 HQ
      go_wp2_with fail
      refine HA.out.mono ?_
      rintro e w3 ⟨rfl, c3, r3⟩
      have HB := hid (reset_tree sb 14127 16 16 s c3 w3 r3.st (by omega) (by omega))
      have R3 := hid r3
      clear r3 HA
      go_wp2_with fail
      refine HB.out.mono ?_
      rintro e w4 ⟨rfl, c4, r4⟩
      have HG := (show Hid (∃ c', Rs w w4 sb s c c' 13756 14143) from ⟨c4, (HC.out.and R3.out).and r4⟩)
      clear r4 HB HC
      go_wp2_with fail
      go_end0
      exact ⟨rfl, HG.out⟩

end Go.Proofs.YtnokemcogjoonaaGreatDoor
