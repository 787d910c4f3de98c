/-
  What follows for members as plain lists: bytes behind, beginnings, budgets.
  copyBack, whatever the step.
-/
import Derived.Test.YtnjilcokkhodmaaGreatDoorZP12
import Derived.Test.YtnjilcokkhodmaaGreatDoorZP22
namespace Go.Proofs.YtnjilcokkhodmaaGreatDoor
open Go.RowKit Go.Shelf
set_option linter.unusedVariables false

def totU : List Un → Nat
 | [] => 0
 | u :: us => u.bs.length + totU us
theorem cutU_ge {p s : Nat} {rest : List Nat} {k : List Nat → List Nat → List Un} (h : s ≤ rest.length) : cutU p s rest k = ⟨p, rest.take s, true⟩ :: k (rest.take s) (rest.drop s) := by
 unfold cutU; rw [if_neg (by omega)]
theorem cutU_lt {p s : Nat} {rest : List Nat} {k : List Nat → List Nat → List Un} (h : rest.length < s) : cutU p s rest k = [⟨p, [], false⟩] := by
 unfold cutU; rw [if_pos h]
theorem cutU_whole {p s : Nat} {rest : List Nat} {k : List Nat → List Nat → List Un} (h : ∀ u ∈ cutU p s rest k, u.wh = true) : s ≤ rest.length ∧ ∀ u ∈ k (rest.take s) (rest.drop s), u.wh = true := by
 by_cases hl : rest.length < s
 ·rw [cutU_lt hl] at h
  have := h _ (List.mem_singleton_self _)
  cases this
 ·rw [cutU_ge (by omega)] at h
  exact ⟨by omega, fun u hu => h u (List.mem_cons_of_mem _ hu)⟩
theorem cutU_app {p s : Nat} {rest : List Nat} {k : List Nat → List Nat → List Un} (h : s ≤ rest.length) (c : List Nat) : cutU p s (rest ++ c) k = ⟨p, rest.take s, true⟩ :: k (rest.take s) (rest.drop s ++ c) := by
 rw [cutU_ge (by rw [List.length_append]; omega), List.take_append_of_le_length h, List.drop_append_of_le_length h]
theorem sumU_app {s : Bool} {rest : List Nat} (c : List Nat) (h : ∀ u ∈ sumU s rest, u.wh = true) : sumU s (rest ++ c) = sumU s rest := by
  unfold sumU at *
  cases s with
  | false => rfl
  | true =>
    simp only [if_true] at *
    have h1 := (cutU_whole h).1
    rw [cutU_app h1, cutU_ge h1]
theorem blocksU_app (s : Bool) (c : List Nat) : ∀ (f g : Nat) (rest : List Nat), rest.length < f → (rest ++ c).length < g → (∀ u ∈ blocksU s f rest, u.wh = true) → blocksU s g (rest ++ c) = blocksU s f rest
  | 0, _, rest, h, _, _ => by omega
  | f + 1, 0, rest, _, h, _ => by omega
  | f + 1, g + 1, rest, h1, h2, h => by
    unfold blocksU at h ⊢
    obtain ⟨a1, a2⟩ := cutU_whole h
    obtain ⟨b1, b2⟩ := cutU_whole a2
    rw [cutU_app a1, cutU_ge a1, cutU_app b1, cutU_ge b1]
    congr 2
    cases hl : blLast (numN (rest.take 3)) with
    | true => rw [hl] at b2; exact sumU_app c b2
    | false =>
      rw [hl] at b2
      simp only [if_false, Bool.false_eq_true] at b2 ⊢
      rw [List.length_append] at h2
      exact blocksU_app s c f g _ (by simp; omega) (by simp; omega) b2
theorem unitsU_app (b c : List Nat) (h : ∀ u ∈ unitsU b, u.wh = true) : unitsU (b ++ c) = unitsU b := by
 unfold unitsU at h ⊢
 obtain ⟨a1, a2⟩ := cutU_whole h
 rw [cutU_app a1, cutU_ge a1]
 congr 1
 by_cases hs : skipB (numN (b.take 4)) = true
 ·rw [if_pos hs] at a2
  rw [if_pos hs, if_pos hs]
  unfold skipU at a2 ⊢
  obtain ⟨b1, b2⟩ := cutU_whole a2
  obtain ⟨c1, c2⟩ := cutU_whole b2
  rw [cutU_app b1, cutU_ge b1, cutU_app c1, cutU_ge c1]
 ·rw [if_neg hs] at a2
  rw [if_neg hs, if_neg hs]
  by_cases hf : numN (b.take 4) = 4247762216
  ·rw [if_pos hf] at a2
   rw [if_pos hf, if_pos hf]
   unfold frameU at a2 ⊢
   obtain ⟨b1, b2⟩ := cutU_whole a2
   obtain ⟨c1, c2⟩ := cutU_whole b2
   rw [cutU_app b1, cutU_ge b1, cutU_app c1, cutU_ge c1]
   congr 2
   exact blocksU_app _ c _ _ _ (by omega) (by omega) c2
  ·rw [if_neg hf, if_neg hf]

def CutAt (L L' : List Un) : Prop := ∃ pre u post, L = pre ++ u :: post ∧ L' = pre ++ [⟨u.p, [], false⟩]
theorem CutAt.cons {L L' : List Un} (u : Un) (h : CutAt L L') : CutAt (u :: L) (u :: L') := by
 obtain ⟨pre, x, post, e1, e2⟩ := h
 exact ⟨u :: pre, x, post, by rw [e1]; rfl, by rw [e2]; rfl⟩
theorem cutU_cut {p s k : Nat} {rest : List Nat} {K K' : List Nat → List Nat → List Un} (h1 : s ≤ rest.length) (hk : k < totU (cutU p s rest K))
  (ht : s ≤ k → k - s < totU (K (rest.take s) (rest.drop s)) → CutAt (K (rest.take s) (rest.drop s)) (K' (rest.take s) ((rest.drop s).take (k - s)))) : CutAt (cutU p s rest K) (cutU p s (rest.take k) K') := by
 rw [cutU_ge h1] at hk ⊢
 by_cases h : k < s
 ·rw [cutU_lt (by rw [List.length_take]; omega)]
  exact ⟨[], _, _, rfl, rfl⟩
 ·simp only [totU, List.length_take] at hk
  by_cases hkl : k ≤ rest.length
  ·rw [cutU_ge (by rw [List.length_take]; omega)]
   have e1 : (rest.take k).take s = rest.take s := by rw [List.take_take, Nat.min_eq_left (by omega)]
   have e2 : (rest.take k).drop s = (rest.drop s).take (k - s) := by rw [List.drop_take]
   rw [e1, e2]
   exact (ht (by omega) (by omega)).cons _
  ·have e : rest.take k = rest := List.take_of_length_le (by omega)
   rw [e, cutU_ge h1]
   have e2 : (rest.drop s).take (k - s) = rest.drop s := List.take_of_length_le (by rw [List.length_drop]; omega)
   have := ht (by omega) (by omega)
   rw [e2] at this
   exact this.cons _
theorem sumU_cut {s : Bool} {k : Nat} {rest : List Nat} (h : ∀ u ∈ sumU s rest, u.wh = true) (hk : k < totU (sumU s rest)) : CutAt (sumU s rest) (sumU s (rest.take k)) := by
  unfold sumU at *
  cases s with
  | false => simp [totU] at hk
  | true =>
    simp only [if_true] at *
    exact cutU_cut (cutU_whole h).1 hk (fun _ h2 => by simp [totU] at h2)
theorem blocksU_cut (s : Bool) : ∀ (f g k : Nat) (rest : List Nat), rest.length < f → (rest.take k).length < g → (∀ u ∈ blocksU s f rest, u.wh = true) → k < totU (blocksU s f rest) → CutAt (blocksU s f rest) (blocksU s g (rest.take k))
  | 0, _, k, rest, h, _, _, _ => by omega
  | f + 1, 0, k, rest, _, h, _, _ => by omega
  | f + 1, g + 1, k, rest, h1, h2, h, hk => by
    unfold blocksU at h hk ⊢
    obtain ⟨a1, a2⟩ := cutU_whole h
    obtain ⟨b1, b2⟩ := cutU_whole a2
    refine cutU_cut a1 hk (fun k1 hk1 => ?_)
    refine cutU_cut b1 hk1 (fun k2 hk2 => ?_)
    cases hl : blLast (numN (rest.take 3)) with
    | true =>
      rw [hl] at b2 hk2
      exact sumU_cut b2 hk2
    | false =>
      rw [hl] at b2 hk2
      simp only [if_false, Bool.false_eq_true] at b2 hk2 ⊢
      rw [List.length_take] at h2
      exact blocksU_cut s f g _ _ (by simp; omega) (by simp; omega) b2 hk2
theorem blocksU_fuel (s : Bool) : ∀ (f g : Nat) (rest : List Nat), rest.length < f → rest.length < g → blocksU s f rest = blocksU s g rest
  | 0, _, rest, h, _ => by omega
  | f + 1, 0, rest, _, h => by omega
  | f + 1, g + 1, rest, h1, h2 => by
    unfold blocksU
    by_cases a1 : 3 ≤ rest.length
    · rw [cutU_ge a1, cutU_ge a1]
      congr 1
      by_cases b1 : blBeh (numN (rest.take 3)) ≤ (rest.drop 3).length
      · rw [cutU_ge b1, cutU_ge b1]
        congr 1
        rw [blocksU_fuel s f g _ (by simp; omega) (by simp; omega)]
      · rw [cutU_lt (by omega), cutU_lt (by omega)]
    · rw [cutU_lt (by omega), cutU_lt (by omega)]
theorem unitsU_cut (b : List Nat) (k : Nat) (h : ∀ u ∈ unitsU b, u.wh = true) (hk : k < totU (unitsU b)) : CutAt (unitsU b) (unitsU (b.take k)) := by
 unfold unitsU at h hk ⊢
 obtain ⟨a1, a2⟩ := cutU_whole h
 refine cutU_cut a1 hk (fun k1 hk1 => ?_)
 by_cases hs : skipB (numN (b.take 4)) = true
 ·rw [if_pos hs] at a2 hk1
  rw [if_pos hs, if_pos hs]
  unfold skipU at a2 hk1 ⊢
  obtain ⟨b1, b2⟩ := cutU_whole a2
  exact cutU_cut b1 hk1 (fun k2 hk2 => cutU_cut (cutU_whole b2).1 hk2 (fun _ h2 => by simp [totU] at h2))
 ·rw [if_neg hs] at a2 hk1
  rw [if_neg hs, if_neg hs]
  by_cases hf : numN (b.take 4) = 4247762216
  ·rw [if_pos hf] at a2 hk1
   rw [if_pos hf, if_pos hf]
   unfold frameU at a2 hk1 ⊢
   obtain ⟨b1, b2⟩ := cutU_whole a2
   refine cutU_cut b1 hk1 (fun k2 hk2 => cutU_cut (cutU_whole b2).1 hk2 (fun k3 hk3 => ?_))
   exact blocksU_cut _ _ _ _ _ (by omega) (by omega) (cutU_whole b2).2 hk3
  ·rw [if_neg hf] at hk1
   simp [totU] at hk1
theorem cutU_tot {p s : Nat} {rest : List Nat} {K : List Nat → List Nat → List Un} (ht : s ≤ rest.length → totU (K (rest.take s) (rest.drop s)) ≤ (rest.drop s).length) : totU (cutU p s rest K) ≤ rest.length := by
 by_cases h : rest.length < s
 ·rw [cutU_lt h]; simp [totU]
 ·rw [cutU_ge (by omega)]
  have := ht (by omega)
  simp only [totU, List.length_take, List.length_drop] at *
  omega
theorem sumU_tot (s : Bool) (rest : List Nat) : totU (sumU s rest) ≤ rest.length := by
 unfold sumU
 cases s with
 | false => simp [totU]
 | true => simp only [if_true]; exact cutU_tot (fun _ => by simp [totU])
theorem blocksU_tot (s : Bool) : ∀ (f : Nat) (rest : List Nat), totU (blocksU s f rest) ≤ rest.length
  | 0, rest => by simp [blocksU, totU]
  | f + 1, rest => by
    unfold blocksU
    refine cutU_tot (fun _ => cutU_tot (fun _ => ?_))
    split
    · exact sumU_tot _ _
    · exact blocksU_tot s f _
theorem unitsU_tot (b : List Nat) : totU (unitsU b) ≤ b.length := by
 unfold unitsU
 refine cutU_tot (fun _ => ?_)
 split
 ·exact cutU_tot (fun _ => cutU_tot (fun _ => by simp [totU]))
 ·split
  ·exact cutU_tot (fun _ => cutU_tot (fun _ => blocksU_tot _ _ _))
  ·simp [totU]
theorem unitsU_four (b : List Nat) (h : ∀ u ∈ unitsU b, u.wh = true) : 4 ≤ totU (unitsU b) := by
 unfold unitsU at h ⊢
 have h1 := (cutU_whole h).1
 rw [cutU_ge h1]
 simp only [totU, List.length_take]
 omega

theorem cpyP_pre : ∀ (k : Nat) (out : List Nat) (fr left : Nat), out <+: cpyP k out fr left
  | 0, out, _, _ => List.prefix_refl _
  | k + 1, out, fr, left => by
    unfold cpyP
    split
    · exact List.prefix_refl _
    · exact List.IsPrefix.trans (List.prefix_append _ _) (cpyP_pre k _ fr _)
theorem copyP_pre {f f2 : Fr} {s : Sp} (h : copyP f s = some f2) : f.out <+: f2.out := by
 unfold copyP at h
 split at h
 ·cases h
 ·split at h
  ·cases h
  ·cases h; exact cpyP_pre _ _ _ _
theorem stepsP_pre : ∀ (ss : List Sp) (f f2 : Fr) (lits : List Nat) (en : Nat), stepsP f lits en ss = some f2 → f.out <+: f2.out
  | [], f, f2, lits, en, h => by
    unfold stepsP at h
    split at h
    · cases h; exact List.prefix_append _ _
    · cases h
  | s :: ss, f, f2, lits, en, h => by
    unfold stepsP at h
    split at h
    · cases h
    · split at h
      · cases h
      · split at h
        · cases h
        · rename_i f3 h3
          exact ((List.prefix_append _ _).trans (copyP_pre h3)).trans (stepsP_pre ss f3 f2 _ en h)
theorem unpackP_pre {O : Orc} {f f2 : Fr} {bs : List Nat} (h : unpackP O f bs = some f2) : f.out <+: f2.out := by
 unfold unpackP at h
 split at h
 ·cases h
 ·split at h
  ·cases h
  ·have := stepsP_pre _ _ _ _ _ h
   exact this
theorem lookP_out (O : Orc) (f : Fr) (u : Un) : (lookP O f u).1.out = f.out := by
 unfold lookP
 repeat' split
 all_goals rfl
theorem behP_inr {old : List Nat} {f2 f1 : Fr} (h : behP old f2 = .inr f1) : f1 = f2 := by
 unfold behP at h
 repeat' split at h
 all_goals (first | (cases h; rfl) | cases h)
theorem stepU_pre {O : Orc} {f f1 : Fr} {u : Un} (h : stepU O f u = .inr f1) : f.out <+: f1.out := by
 unfold stepU at h
 split at h
 ·cases h
 ·split at h
  ·cases h; rw [lookP_out]; exact List.prefix_refl _
  ·split at h
   ·rw [behP_inr h]; exact List.prefix_append _ _
   ·split at h
    ·rw [behP_inr h]; exact List.prefix_append _ _
    ·split at h
     ·split at h
      ·cases h
      ·rename_i hu
       rw [behP_inr h]; exact unpackP_pre hu
     ·rw [behP_inr h]; exact List.prefix_refl _
theorem stepU_cut (O : Orc) (f : Fr) (p : Nat) (bs : List Nat) : stepU O f ⟨p, bs, false⟩ = .inl (f.out, 10) := by
 unfold stepU
 have : lookP O f ⟨p, bs, false⟩ = (f, 10) := by unfold lookP; rw [if_pos rfl]
 rw [this]
 simp
theorem behP_ne {old o : List Nat} {f2 : Fr} {e : Nat} (h : behP old f2 = .inl (o, e)) : e ≠ 0 ∧ e ≠ 40 := by
 unfold behP at h
 repeat' split at h
 all_goals (first | (cases h; omega) | cases h)
theorem stepU_ne {O : Orc} {f : Fr} {u : Un} {o : List Nat} {e : Nat} (h : stepU O f u = .inl (o, e)) : e ≠ 0 := by
 unfold stepU at h
 split at h
 ·rename_i hh; cases h; exact hh
 ·split at h
  ·cases h
  ·split at h
   ·exact (behP_ne h).1
   ·split at h
    ·exact (behP_ne h).1
    ·split at h
     ·split at h
      ·cases h; omega
      ·exact (behP_ne h).1
     ·exact (behP_ne h).1
theorem run_ok (O : Orc) : ∀ (us : List Un) (f : Fr) (n : Nat) (o : List Nat) (m : Nat), runU O f n us = (o, m, 0) → (∀ u ∈ us, u.wh = true) ∧ m = n + totU us ∧ f.out <+: o
  | [], f, n, o, m, h => by
    simp only [runU] at h
    cases h
    exact ⟨fun u hu => (by cases hu), by simp [totU], List.prefix_refl _⟩
  | u :: us, f, n, o, m, h => by
    simp only [runU] at h
    cases hs : stepU O f u with
    | inl r =>
      rw [hs] at h
      simp only [Prod.mk.injEq] at h
      exact absurd h.2.2 (stepU_ne (o := r.1) (e := r.2) hs)
    | inr f1 =>
      rw [hs] at h
      obtain ⟨h1, h2, h3⟩ := run_ok O us f1 _ o m h
      refine ⟨fun v hv => ?_, by simp only [totU]; omega, (stepU_pre hs).trans h3⟩
      rcases List.mem_cons.1 hv with rfl | hv
      · cases hw : v.wh with
        | true => rfl
        | false =>
          obtain ⟨p, bs, wh⟩ := v
          dsimp only at hw
          rw [hw, stepU_cut] at hs
          cases hs
      · exact h1 v hv
theorem run_cut (O : Orc) : ∀ (pre : List Un) (u : Un) (post : List Un) (f : Fr) (n : Nat) (o : List Nat) (m : Nat), runU O f n (pre ++ u :: post) = (o, m, 0) → ∃ o', runU O f n (pre ++ [⟨u.p, [], false⟩]) = (o', 0, 10) ∧ o' <+: o
  | [], u, post, f, n, o, m, h => by
    refine ⟨f.out, ?_, (run_ok O _ f n o m h).2.2⟩
    simp only [List.nil_append, runU, stepU_cut]
  | v :: pre, u, post, f, n, o, m, h => by
    simp only [List.cons_append, runU] at h ⊢
    cases hs : stepU O f v with
    | inl r =>
      rw [hs] at h
      simp only [Prod.mk.injEq] at h
      exact absurd h.2.2 (stepU_ne (o := r.1) (e := r.2) hs)
    | inr f1 =>
      rw [hs] at h
      exact run_cut O pre u post f1 _ o m h
theorem run_err (O : Orc) : ∀ (us : List Un) (f : Fr) (n : Nat), (runU O f n us).2.2 ≠ 0 → (runU O f n us).2.1 = 0
  | [], f, n, h => by simp [runU] at h
  | u :: us, f, n, h => by
    simp only [runU] at h ⊢
    cases hs : stepU O f u with
    | inl r => rfl
    | inr f1 => rw [hs] at h; exact run_err O us f1 _ h

theorem memP_err (O : Orc) (b : List Nat) (bud : Nat) (h : (memP O b bud).2.2 ≠ 0) : (memP O b bud).2.1 = 0 := run_err O _ _ _ h
theorem memP_behind (O : Orc) (b c : List Nat) (bud : Nat) (h : (memP O b bud).2.2 = 0) : memP O (b ++ c) bud = memP O b bud ∧ (memP O b bud).2.1 ≤ b.length := by
 obtain ⟨o, n, e⟩ : ∃ o n, memP O b bud = (o, n, 0) := ⟨_, _, by rw [← h]⟩
 obtain ⟨h1, h2, -⟩ := run_ok O _ _ _ _ _ e
 refine ⟨by unfold memP; rw [unitsU_app b c h1], ?_⟩
 rw [e]
 have := unitsU_tot b
 show n ≤ _
 omega
theorem memP_cut (O : Orc) (b : List Nat) (bud : Nat) (h : (memP O b bud).2.2 = 0) : 4 ≤ (memP O b bud).2.1 ∧ (memP O b bud).2.1 ≤ b.length ∧ ∀ k, k < (memP O b bud).2.1 → (memP O (b.take k) bud).2 = (0, 10) ∧ (memP O (b.take k) bud).1 <+: (memP O b bud).1 := by
 obtain ⟨o, n, e⟩ : ∃ o n, memP O b bud = (o, n, 0) := ⟨_, _, by rw [← h]⟩
 obtain ⟨h1, h2, -⟩ := run_ok O _ _ _ _ _ e
 have h3 := unitsU_tot b
 have h4 := unitsU_four b h1
 rw [e]
 refine ⟨by show 4 ≤ n; omega, by show n ≤ _; omega, fun k hk => ?_⟩
 have hk' : k < n := hk
 obtain ⟨pre, u, post, e1, e2⟩ := unitsU_cut b k h1 (by omega)
 have e' : runU O (newF bud) 0 (unitsU b) = (o, n, 0) := e
 rw [e1] at e'
 obtain ⟨o', r1, r2⟩ := run_cut O pre u post _ _ _ _ e'
 have : memP O (b.take k) bud = (o', 0, 10) := by unfold memP; rw [e2]; exact r1
 rw [this]
 exact ⟨rfl, r2⟩

def Fr.wb (f : Fr) (B : Nat) : Fr := { f with bud := B }
theorem copyP_bud (f : Fr) (s : Sp) (B : Nat) : copyP (f.wb B) s = (copyP f s).map (fun g => g.wb B) := by
 by_cases h1 : meantD f.r0 f.r1 f.r2 ((s.1 : Int) == 0) s.2.2 < 1
 ·have h1' : meantD (f.wb B).r0 (f.wb B).r1 (f.wb B).r2 ((s.1 : Int) == 0) s.2.2 < 1 := h1
  unfold copyP
  rw [if_pos h1, if_pos h1']; rfl
 ·have h1' : ¬ meantD (f.wb B).r0 (f.wb B).r1 (f.wb B).r2 ((s.1 : Int) == 0) s.2.2 < 1 := h1
  by_cases h2 : (f.win : Int) < meantD f.r0 f.r1 f.r2 ((s.1 : Int) == 0) s.2.2 ∨ (f.out.length : Int) < meantD f.r0 f.r1 f.r2 ((s.1 : Int) == 0) s.2.2
  ·have h2' : ((f.wb B).win : Int) < meantD (f.wb B).r0 (f.wb B).r1 (f.wb B).r2 ((s.1 : Int) == 0) s.2.2 ∨ ((f.wb B).out.length : Int) < meantD (f.wb B).r0 (f.wb B).r1 (f.wb B).r2 ((s.1 : Int) == 0) s.2.2 := h2
   unfold copyP
   rw [if_neg h1, if_neg h1', if_pos h2, if_pos h2']; rfl
  ·have h2' : ¬ (((f.wb B).win : Int) < meantD (f.wb B).r0 (f.wb B).r1 (f.wb B).r2 ((s.1 : Int) == 0) s.2.2 ∨ ((f.wb B).out.length : Int) < meantD (f.wb B).r0 (f.wb B).r1 (f.wb B).r2 ((s.1 : Int) == 0) s.2.2) := h2
   unfold copyP
   rw [if_neg h1, if_neg h1', if_neg h2, if_neg h2']; rfl
theorem copyP_same {f f2 : Fr} {s : Sp} (h : copyP f s = some f2) : f2.bud = f.bud := by
 unfold copyP at h
 split at h
 ·cases h
 ·split at h
  ·cases h
  ·cases h; rfl
theorem stepsP_bud (B : Nat) : ∀ (ss : List Sp) (f : Fr) (lits : List Nat) (en : Nat), stepsP (f.wb B) lits en ss = (stepsP f lits en ss).map (fun g => g.wb B)
  | [], f, lits, en => by
    unfold stepsP
    have e0 : (f.wb B).out = f.out := rfl
    rw [e0]
    by_cases h : (f.out ++ lits).length ≤ en
    · rw [if_pos h, if_pos h]; rfl
    · rw [if_neg h, if_neg h]; rfl
  | s :: ss, f, lits, en => by
    unfold stepsP
    have e : copyP { f.wb B with out := (f.wb B).out ++ lits.take s.1 } s = (copyP { f with out := f.out ++ lits.take s.1 } s).map (fun g => g.wb B) := copyP_bud { f with out := f.out ++ lits.take s.1 } s B
    have e0 : (f.wb B).out = f.out := rfl
    rw [e, e0]
    by_cases h1 : lits.length < s.1
    · rw [if_pos h1, if_pos h1]; rfl
    · rw [if_neg h1, if_neg h1]
      by_cases h2 : (en : Int) - ((f.out ++ lits.take s.1).length : Int) < (s.2.1 : Int)
      · rw [if_pos h2, if_pos h2]; rfl
      · rw [if_neg h2, if_neg h2]
        cases copyP { f with out := f.out ++ lits.take s.1 } s with
        | none => rfl
        | some g => exact stepsP_bud B ss g _ en
theorem stepsP_same : ∀ (ss : List Sp) (f f2 : Fr) (lits : List Nat) (en : Nat), stepsP f lits en ss = some f2 → f2.bud = f.bud
  | [], f, f2, lits, en, h => by
    unfold stepsP at h
    split at h
    · cases h; rfl
    · cases h
  | s :: ss, f, f2, lits, en, h => by
    unfold stepsP at h
    split at h
    · cases h
    · split at h
      · cases h
      · split at h
        · cases h
        · rename_i f3 h3
          rw [stepsP_same ss f3 f2 _ en h, copyP_same h3]
theorem unpackP_bud (O : Orc) (f : Fr) (bs : List Nat) (B : Nat) : unpackP O (f.wb B) bs = (unpackP O f bs).map (fun g => g.wb B) := by
  unfold unpackP
  have e1 : (f.wb B).ws = f.ws := rfl
  have e2 : mostF (f.wb B) = mostF f := rfl
  rw [e1, e2]
  cases O.lit bs f.ws (mostF f) with
  | none => rfl
  | some r =>
    obtain ⟨lits, ws, used⟩ := r
    dsimp only
    have e3 : (f.wb B).t0 = f.t0 := rfl
    have e4 : (f.wb B).t1 = f.t1 := rfl
    have e5 : (f.wb B).t2 = f.t2 := rfl
    rw [e3, e4, e5]
    cases O.seq (bs.drop used) f.t0 f.t1 f.t2 with
    | none => rfl
    | some q =>
      obtain ⟨ss, a, b, c⟩ := q
      exact stepsP_bud B ss { f with ws := ws, t0 := a, t1 := b, t2 := c } lits _
theorem unpackP_same {O : Orc} {f f2 : Fr} {bs : List Nat} (h : unpackP O f bs = some f2) : f2.bud = f.bud := by
 unfold unpackP at h
 split at h
 ·cases h
 ·split at h
  ·cases h
  ·have := stepsP_same _ _ _ _ _ h
   exact this
def mapR (B : Nat) : (List Nat × Nat) ⊕ Fr → (List Nat × Nat) ⊕ Fr
 | .inl r => .inl r
 | .inr f => .inr (f.wb B)
theorem behP_bud (old : List Nat) (f : Fr) (B : Nat) : behP old (f.wb B) = mapR B (behP old f) := by
 unfold behP
 have e1 : (f.wb B).out = f.out := rfl
 have e2 : (f.wb B).told = f.told := rfl
 have e3 : (f.wb B).siz = f.siz := rfl
 have e4 : (f.wb B).last = f.last := rfl
 rw [e1, e2, e3, e4]
 by_cases h1 : 16777216 < f.out.length
 ·rw [if_pos h1, if_pos h1]; rfl
 ·rw [if_neg h1, if_neg h1]
  by_cases h2 : f.told = true ∧ f.siz < f.out.length
  ·rw [if_pos h2, if_pos h2]; rfl
  ·rw [if_neg h2, if_neg h2]
   by_cases h3 : f.told = true ∧ f.last = true ∧ f.out.length < f.siz
   ·rw [if_pos h3, if_pos h3]; rfl
   ·rw [if_neg h3, if_neg h3]; rfl
theorem look_bud (O : Orc) (f : Fr) (u : Un) (B : Nat) (hB : f.bud ≤ B) (h : (lookP O f u).2 ≠ 40) : lookP O (f.wb B) u = ((lookP O f u).1.wb B, (lookP O f u).2) ∧ (lookP O f u).1.bud = f.bud := by
 unfold lookP at h ⊢
 have e1 : (f.wb B).fl = f.fl := rfl
 have e2 : mostF (f.wb B) = mostF f := rfl
 have e3 : (f.wb B).bud = B := rfl
 have e4 : (f.wb B).out = f.out := rfl
 rw [e1, e2, e3, e4]
 by_cases h1 : u.wh = false
 ·rw [if_pos h1, if_pos h1]; exact ⟨rfl, rfl⟩
 rw [if_neg h1] at h
 rw [if_neg h1, if_neg h1]
 ·by_cases h2 : u.p = 0
  ·rw [if_pos h2, if_pos h2]; exact ⟨rfl, rfl⟩
  rw [if_neg h2] at h
  rw [if_neg h2, if_neg h2]
  ·by_cases h3 : u.p = 3
   ·rw [if_pos h3, if_pos h3]; exact ⟨rfl, rfl⟩
   rw [if_neg h3] at h
   rw [if_neg h3, if_neg h3]
   ·by_cases h4 : u.p = 4
    ·rw [if_pos h4] at h
     rw [if_pos h4, if_pos h4]
     dsimp only at h ⊢
     by_cases hd : hdDic f.fl u.bs ≠ 0
     ·rw [if_pos hd, if_pos hd]; exact ⟨rfl, rfl⟩
     ·rw [if_neg hd] at h
      rw [if_neg hd, if_neg hd]
      have hw : ¬ f.bud < hdWin f.fl u.bs := fun hw => h (if_pos hw)
      rw [if_neg hw, if_neg (by omega)]
      exact ⟨rfl, rfl⟩
    ·rw [if_neg h4, if_neg h4]
     by_cases h5 : u.p = 5
     ·rw [if_pos h5, if_pos h5]; exact ⟨rfl, rfl⟩
     ·rw [if_neg h5, if_neg h5]
      by_cases h6 : u.p = 7
      ·rw [if_pos h6, if_pos h6]; exact ⟨rfl, rfl⟩
      ·rw [if_neg h6, if_neg h6]; exact ⟨rfl, rfl⟩
theorem stepU_bud (O : Orc) (f : Fr) (u : Un) (B : Nat) (hB : f.bud ≤ B) (h : ∀ o, stepU O f u ≠ .inl (o, 40)) : stepU O (f.wb B) u = mapR B (stepU O f u) ∧ ∀ f1, stepU O f u = .inr f1 → f1.bud = f.bud := by
 have hl : (lookP O f u).2 ≠ 40 := fun e => by
  refine h (lookP O f u).1.out ?_
  unfold stepU
  rw [if_pos (by omega), e]
 obtain ⟨l1, l2⟩ := look_bud O f u B hB hl
 have e1 : (f.wb B).kind = f.kind := rfl
 have e2 : (f.wb B).out = f.out := rfl
 have e3 : (f.wb B).bsz = f.bsz := rfl
 have key : stepU O (f.wb B) u = mapR B (stepU O f u) := by
  unfold stepU
  rw [l1, e1, e2, e3]
  dsimp only
  by_cases h1 : (lookP O f u).2 ≠ 0
  ·rw [if_pos h1, if_pos h1]; rfl
  ·rw [if_neg h1, if_neg h1]
   by_cases h2 : u.p ≠ 6
   ·rw [if_pos h2, if_pos h2]; rfl
   ·rw [if_neg h2, if_neg h2]
    by_cases h3 : f.kind = 0
    ·rw [if_pos h3, if_pos h3]; exact behP_bud f.out { f with out := f.out ++ u.bs } B
    ·rw [if_neg h3, if_neg h3]
     by_cases h4 : f.kind = 1
     ·rw [if_pos h4, if_pos h4]; exact behP_bud f.out { f with out := f.out ++ List.replicate f.bsz (u.bs[0]?.getD 0) } B
     ·rw [if_neg h4, if_neg h4]
      by_cases h5 : f.kind = 2
      ·rw [if_pos h5, if_pos h5, unpackP_bud]
       cases unpackP O f u.bs with
       | none => rfl
       | some g => exact behP_bud f.out g B
      ·rw [if_neg h5, if_neg h5]; exact behP_bud f.out f B
 refine ⟨key, fun f1 hf => ?_⟩
 unfold stepU at hf
 split at hf
 ·cases hf
 ·split at hf
  ·cases hf; exact l2
  ·split at hf
   ·rw [behP_inr hf]
   ·split at hf
    ·rw [behP_inr hf]
    ·split at hf
     ·split at hf
      ·cases hf
      ·rename_i g hg
       rw [behP_inr hf]
       exact unpackP_same hg
     ·rw [behP_inr hf]
theorem run_bud (O : Orc) (B : Nat) : ∀ (us : List Un) (f : Fr) (n : Nat), f.bud ≤ B → (runU O f n us).2.2 ≠ 40 → runU O (f.wb B) n us = runU O f n us
  | [], f, n, _, _ => rfl
  | u :: us, f, n, hB, h => by
    simp only [runU] at h ⊢
    have hne : ∀ o, stepU O f u ≠ .inl (o, 40) := fun o e => by rw [e] at h; exact h rfl
    obtain ⟨k1, k2⟩ := stepU_bud O f u B hB hne
    rw [k1]
    cases hs : stepU O f u with
    | inl r => rfl
    | inr f1 =>
      rw [hs] at h
      exact run_bud O B us f1 _ (by rw [k2 f1 hs]; exact hB) h
theorem memP_room (O : Orc) (b : List Nat) (bud B : Nat) (hB : bud ≤ B) (h : (memP O b bud).2.2 ≠ 40) : memP O b B = memP O b bud := run_bud O B (unitsU b) (newF bud) 0 hB h

theorem stepU_40 {O : Orc} {f : Fr} {u : Un} {o : List Nat} (h : stepU O f u = .inl (o, 40)) : u.p = 4 := by
 unfold stepU at h
 split at h
 ·simp only [Sum.inl.injEq, Prod.mk.injEq] at h
  have h2 := h.2
  unfold lookP at h2
  by_cases hp : u.p = 4
  ·exact hp
  ·exfalso
   rw [if_neg hp] at h2
   repeat' split at h2
   all_goals (first | omega | (dsimp only at h2; split at h2 <;> omega))
 ·split at h
  ·cases h
  ·exfalso
   split at h
   ·exact (behP_ne h).2 rfl
   ·split at h
    ·exact (behP_ne h).2 rfl
    ·split at h
     ·split at h
      ·cases h
      ·exact (behP_ne h).2 rfl
     ·exact (behP_ne h).2 rfl
theorem run_no40 (O : Orc) : ∀ (us : List Un) (f : Fr) (n : Nat), (∀ u ∈ us, u.p ≠ 4) → (runU O f n us).2.2 ≠ 40
  | [], f, n, _ => by simp [runU]
  | u :: us, f, n, h => by
    simp only [runU]
    cases hs : stepU O f u with
    | inl r =>
      intro e
      exact h u List.mem_cons_self (stepU_40 (o := r.1) (by rw [hs]; exact congrArg Sum.inl (Prod.ext rfl e)))
    | inr f1 => exact run_no40 O us f1 _ (fun v hv => h v (List.mem_cons_of_mem _ hv))
theorem cutU_no {p s : Nat} {rest : List Nat} {K : List Nat → List Nat → List Un} (hp : p ≠ 4) (h : ∀ a b, ∀ u ∈ K a b, u.p ≠ 4) : ∀ u ∈ cutU p s rest K, u.p ≠ 4 := by
 intro u hu
 by_cases hl : rest.length < s
 ·rw [cutU_lt hl] at hu
  rw [List.mem_singleton.1 hu]; exact hp
 ·rw [cutU_ge (by omega)] at hu
  rcases List.mem_cons.1 hu with rfl | hu
  ·exact hp
  ·exact h _ _ u hu
theorem blocksU_no (s : Bool) : ∀ (f : Nat) (rest : List Nat), ∀ u ∈ blocksU s f rest, u.p ≠ 4
  | 0, rest => fun u hu => by simp [blocksU] at hu
  | f + 1, rest => by
    unfold blocksU
    refine cutU_no (by omega) (fun a b => cutU_no (by omega) (fun _ c => ?_))
    split
    · unfold sumU
      split
      · exact cutU_no (by omega) (fun _ _ u hu => by cases hu)
      · intro u hu; cases hu
    · exact blocksU_no s f _
theorem look3 (O : Orc) (f : Fr) (bs : List Nat) : lookP O f ⟨3, bs, true⟩ = ({ f with fl := bs[0]?.getD 0 }, if flagB (bs[0]?.getD 0) 3 then 11 else 0) := rfl
theorem look4 (O : Orc) (f : Fr) (bs : List Nat) : lookP O f ⟨4, bs, true⟩ = ({ f with win := hdWin f.fl bs, dic := hdDic f.fl bs, siz := hdSiz f.fl bs, told := hdTold f.fl bs }, if hdDic f.fl bs ≠ 0 then 12 else if f.bud < hdWin f.fl bs then 40 else 0) := rfl
theorem memP_over (O : Orc) (b : List Nat) (bud : Nat) (h : (memP O b bud).2.2 = 40) : (memP O b bud).1 = [] ∧ ((winP O b).2 = 40 ∨ ((winP O b).2 = 0 ∧ bud < (winP O b).1)) := by
  unfold memP winP unitsU at *
  by_cases a1 : 4 ≤ b.length
  · rw [cutU_ge a1] at h ⊢
    simp only [runU, winW] at h ⊢
    by_cases hs : skipB (numN (b.take 4)) = true
    · rw [if_pos hs] at h
      exfalso
      cases hc : stepU O (newF bud) ⟨0, b.take 4, true⟩ with
      | inl r =>
        rw [hc] at h
        exact absurd (stepU_40 (o := r.1) (by rw [hc]; exact congrArg Sum.inl (Prod.ext rfl h))) (by simp)
      | inr f1 =>
        rw [hc] at h
        exact run_no40 O _ f1 _ (cutU_no (by omega) (fun _ _ => cutU_no (by omega) (fun _ _ u hu => by cases hu))) h
    · by_cases hf : numN (b.take 4) = 4247762216
      · rw [if_neg hs, if_pos hf] at h
        rw [if_neg hs, if_pos hf]
        have k0 : ∀ B, lookP O (newF B) ⟨0, b.take 4, true⟩ = (newF B, 0) := fun B => by
          unfold lookP
          simp [hf]
        have s0 : stepU O (newF bud) ⟨0, b.take 4, true⟩ = .inr (newF bud) := by
          unfold stepU
          rw [k0]
          simp
        rw [s0] at h ⊢
        rw [k0]
        dsimp only at h ⊢
        rw [if_neg (by simp), if_neg (by simp)]
        unfold frameU at h ⊢
        by_cases b1 : 1 ≤ (b.drop 4).length
        · rw [cutU_ge b1] at h ⊢
          simp only [runU, winW] at h ⊢
          generalize hd : ((b.drop 4).take 1)[0]?.getD 0 = d at *
          by_cases hr : flagB d 3 = true
          · exfalso
            have s1 : stepU O (newF bud) ⟨3, (b.drop 4).take 1, true⟩ = .inl ((newF bud).out, 11) := by
              unfold stepU
              have : lookP O (newF bud) ⟨3, (b.drop 4).take 1, true⟩ = ({ newF bud with fl := d }, 11) := by
                rw [look3, hd, if_pos hr]
              rw [this]
              rfl
            rw [s1] at h
            cases h
          · have k1 : ∀ B, lookP O (newF B) ⟨3, (b.drop 4).take 1, true⟩ = ({ newF B with fl := d }, 0) := fun B => by
              rw [look3, hd, if_neg hr]
            have s1 : stepU O (newF bud) ⟨3, (b.drop 4).take 1, true⟩ = .inr { newF bud with fl := d } := by
              unfold stepU
              rw [k1]
              simp
            rw [s1] at h ⊢
            rw [k1]
            dsimp only at h ⊢
            rw [if_neg (by simp), if_neg (by simp)]
            by_cases c1 : hdLen d ≤ ((b.drop 4).drop 1).length
            · rw [cutU_ge c1] at h ⊢
              simp only [runU, winW] at h ⊢
              generalize hu : ((b.drop 4).drop 1).take (hdLen d) = hb at *
              have k2 : ∀ B, lookP O { newF B with fl := d } ⟨4, hb, true⟩ = ({ newF B with fl := d, win := hdWin d hb, dic := hdDic d hb, siz := hdSiz d hb, told := hdTold d hb }, if hdDic d hb ≠ 0 then 12 else if B < hdWin d hb then 40 else 0) := fun B => look4 O _ hb
              by_cases hz : hdDic d hb ≠ 0
              · exfalso
                have s2 : stepU O { newF bud with fl := d } ⟨4, hb, true⟩ = .inl ([], 12) := by
                  unfold stepU
                  rw [k2, if_pos hz]
                  rfl
                rw [s2] at h
                cases h
              · by_cases hw : bud < hdWin d hb
                · have s2 : stepU O { newF bud with fl := d } ⟨4, hb, true⟩ = .inl ([], 40) := by
                    unfold stepU
                    rw [k2, if_neg hz, if_pos hw]
                    rfl
                  rw [s2, k2, if_neg hz]
                  refine ⟨rfl, ?_⟩
                  by_cases hm : 16777216 < hdWin d hb
                  · rw [if_pos hm]; left; rfl
                  · rw [if_neg hm]; right
                    rw [if_neg (by simp), if_pos (by simp)]
                    exact ⟨rfl, hw⟩
                · exfalso
                  have s2 : stepU O { newF bud with fl := d } ⟨4, hb, true⟩ = .inr { newF bud with fl := d, win := hdWin d hb, dic := hdDic d hb, siz := hdSiz d hb, told := hdTold d hb } := by
                    unfold stepU
                    rw [k2, if_neg hz, if_neg hw]
                    rfl
                  rw [s2] at h
                  exact run_no40 O _ _ _ (blocksU_no _ _ _) h
            · exfalso
              rw [cutU_lt (by omega)] at h
              simp only [runU, stepU_cut] at h
              cases h
        · exfalso
          rw [cutU_lt (by omega)] at h
          simp only [runU, stepU_cut] at h
          cases h
      · exfalso
        rw [if_neg hs, if_neg hf] at h
        cases hc : stepU O (newF bud) ⟨0, b.take 4, true⟩ with
        | inl r =>
          rw [hc] at h
          exact absurd (stepU_40 (o := r.1) (by rw [hc]; exact congrArg Sum.inl (Prod.ext rfl h))) (by simp)
        | inr f1 =>
          rw [hc] at h
          simp [runU] at h
  · exfalso
    rw [cutU_lt (by omega)] at h
    simp only [runU, stepU_cut] at h
    cases h
end Go.Proofs.YtnjilcokkhodmaaGreatDoor

namespace Go.Proofs.YtnjilcokkhodmaaGreatDoor
open Go.RowKit Go.Shelf
set_option linter.unusedVariables false

theorem cpyP_len : ∀ (k : Nat) (out : List Nat) (fr left : Nat), fr < out.length → left ≤ k → (cpyP k out fr left).length = out.length + left
  | 0, out, fr, left, _, h => by
    obtain rfl : left = 0 := by omega
    rfl
  | k + 1, out, fr, left, hf, h => by
    by_cases hl : left = 0
    · subst hl; rw [cpyP_zero]; rfl
    · rw [cpyP_step k out fr left (by omega)]
      have hm : ((out.drop fr).take (min left (out.length - fr))).length = min left (out.length - fr) := by rw [List.length_take, List.length_drop]; omega
      rw [cpyP_len k _ fr _ (by rw [List.length_append]; omega) (by omega), List.length_append, hm]
      omega
def fr4 (F : Fr) (p0 p1 p2 : Int) (o : List Nat) : Fr := { F with r0 := p0, r1 := p1, r2 := p2, out := o }
theorem meantD_le {r0 r1 r2 : Int} {z : Bool} {back : Nat} {B : Int} (hB : 0 ≤ B) (h0 : r0 ≤ B) (h1 : r1 ≤ B) (h2 : r2 ≤ B) (hb : (back : Int) ≤ B) : meantD r0 r1 r2 z back ≤ B := by
 unfold meantD
 repeat' split
 all_goals omega
theorem movedR_le {r0 r1 r2 : Int} {m : Nat} {B : Int} (h0 : r0 ≤ B) (h1 : r1 ≤ B) (h2 : r2 ≤ B) : (movedR r0 r1 r2 m).2.1 ≤ B ∧ (movedR r0 r1 r2 m).2.2 ≤ B := by
 unfold movedR
 repeat' split
 all_goals exact ⟨by assumption, by assumption⟩
theorem copyP_form {F F2 : Fr} {p0 p1 p2 : Int} {o : List Nat} {s : Sp} {B : Int} (hB : 0 ≤ B) (h0 : p0 ≤ B) (h1 : p1 ≤ B) (h2 : p2 ≤ B) (hb : (s.2.2 : Int) ≤ B) (h : copyP (fr4 F p0 p1 p2 o) s = some F2) :
  ∃ q0 q1 q2 o2, F2 = fr4 F q0 q1 q2 o2 ∧ q0 ≤ B ∧ q1 ≤ B ∧ q2 ≤ B ∧ o2.length = o.length + s.2.1 := by
 have hd : meantD (fr4 F p0 p1 p2 o).r0 (fr4 F p0 p1 p2 o).r1 (fr4 F p0 p1 p2 o).r2 ((s.1 : Int) == 0) s.2.2 = meantD p0 p1 p2 ((s.1 : Int) == 0) s.2.2 := rfl
 have ho : (fr4 F p0 p1 p2 o).out = o := rfl
 unfold copyP at h
 rw [hd, ho] at h
 split at h
 ·cases h
 ·split at h
  ·cases h
  ·rename_i q1 q2
   cases h
   have hm := movedR_le (m := meantM (fr4 F p0 p1 p2 o).r0 ((s.1 : Int) == 0) s.2.2) h0 h1 h2
   exact ⟨_, _, _, _, rfl, meantD_le hB h0 h1 h2 hb, hm.1, hm.2, cpyP_len _ _ _ _ (by omega) (Nat.le_refl _)⟩
def CpAns (w w' : World) (fb : Nat) (F : Fr) (s : Sp) (x0 x1 x2 wsv ov : Value) (b : Bool) : Prop :=
 (b = true ∧ ∃ F2 ov', copyP F s = some F2 ∧ IsFr w' fb F2 x0 x1 x2 wsv ov' ∧ OutF w' ov' F2.out ∧ CoS w w' fb ov ov') ∨
 (b = false ∧ copyP F s = none ∧ ∃ F2, F2.out = F.out ∧ IsFr w' fb F2 x0 x1 x2 wsv ov ∧ OutF w' ov F2.out ∧ CoS w w' fb ov ov)
theorem copy_any {w : World} {fb : Nat} {F : Fr} {x0 x1 x2 wsv ov : Value} (s : Sp) (hs : SpOk s) (h : IsFr w fb F x0 x1 x2 wsv ov) (hO : OutF w ov F.out) (hne : ov.ownBlock ≠ some fb) (hw : F.win < 18446744073709551616)
  (h0 : F.r0 ≤ 4611686018427387904) (h1 : F.r1 ≤ 4611686018427387904) (h2 : F.r2 ≤ 4611686018427387904) (hn : F.out.length + s.2.1 ≤ 1073741824) :
  Calls Tryz.prog 33 #[.pointer (some ⟨fb, 0, none⟩), .agg #[.int .i64 (s.1 : Int), .int .i64 (s.2.1 : Int), .int .i64 (s.2.2 : Int)]] w fun e w' => ∃ b : Bool, e = .returned (.bool b) ∧ Hid (CpAns w w' fb F s x0 x1 x2 wsv ov b) := by
 obtain ⟨s1, s2, s3, s4⟩ := hs
 by_cases hd : meantD F.r0 F.r1 F.r2 ((s.1 : Int) == 0) s.2.2 < 1
 ·refine (copy_none s h s4 (by omega) h0 hd).mono ?_
  rintro e w' ⟨rfl, hk⟩
  exact ⟨false, rfl, .inr ⟨rfl, by unfold copyP; rw [if_pos hd], F, rfl, IsFr.keep h hk (fun h => h), hO.keep hk (fun _ _ h => h), (CoS.refl w fb ov).quiet hk⟩⟩
 ·have hdb : meantD F.r0 F.r1 F.r2 ((s.1 : Int) == 0) s.2.2 ≤ 4611686018427387904 := meantD_le (by omega) h0 h1 h2 (by omega)
  by_cases hf : (F.win : Int) < meantD F.r0 F.r1 F.r2 ((s.1 : Int) == 0) s.2.2 ∨ (F.out.length : Int) < meantD F.r0 F.r1 F.r2 ((s.1 : Int) == 0) s.2.2
  ·obtain ⟨oa, oc, e, hoc⟩ := hO.slice
   subst e
   refine (copy_far s h s4 (by omega) h0 hw (by omega) (by omega) hdb hf).mono ?_
   rintro e w' ⟨rfl, ⟨q0, q1, q2, hq⟩, hk⟩
   refine ⟨false, rfl, .inr ⟨rfl, by unfold copyP; rw [if_neg hd, if_pos hf], fr4 F q0 q1 q2 F.out, rfl, hq, hO.keep hk (fun g hg e => hne (by rw [hg, e])), (CoS.refl w fb _).atf hk⟩⟩
  ·refine (copy_good s h hO hne s4 (by omega) h0 hw hn (by omega) (by omega) (by omega)).mono ?_
   rintro e w' ⟨rfl, ov', q1, q2, q3⟩
   exact ⟨true, rfl, .inl ⟨rfl, { F with r0 := meantD F.r0 F.r1 F.r2 ((s.1 : Int) == 0) s.2.2, r1 := (movedR F.r0 F.r1 F.r2 (meantM F.r0 ((s.1 : Int) == 0) s.2.2)).2.1, r2 := (movedR F.r0 F.r1 F.r2 (meantM F.r0 ((s.1 : Int) == 0) s.2.2)).2.2, out := cpyP s.2.1 F.out (F.out.length - (meantD F.r0 F.r1 F.r2 ((s.1 : Int) == 0) s.2.2).toNat) s.2.1 }, ov', by unfold copyP; rw [if_neg hd, if_neg hf], q1, q2, q3⟩⟩
end Go.Proofs.YtnjilcokkhodmaaGreatDoor
