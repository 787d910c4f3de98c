/-
  Own weights make a code, and how long its words are.
  Literals of few bytes are told in few.
  Four bytes, and which are met.
  LiteralsFew, walked: what is of one byte, or of few, is told in few bytes.
  A byte's bounds.
-/
import Derived.Test.YtcoahkmiebeeeaaGreatDoorLitP22
import Derived.Test.YtcoahkmiebeeeaaGreatDoorLitP23
import Derived.Test.YtcoahkmiebeeeaaGreatDoorLitP24
namespace Go.Proofs.YtcoahkmiebeeeaaGreatDoor
open Go.RowKit Go.Shelf
set_option linter.unusedVariables false

theorem pow_list (m : Nat) : ∀ L : List Nat, (L.map (fun e => 2 ^ e)).sum = 2 ^ m → 0 ∈ L → m + 1 ≤ L.length := by
  have split : ∀ L : List Nat, (L.map (fun e => 2 ^ e)).sum = L.countP (fun e => e == 0) + 2 * ((L.filter (fun e => !(e == 0))).map (fun e => 2 ^ (e - 1))).sum ∧ L.length = L.countP (fun e => e == 0) + (L.filter (fun e => !(e == 0))).length := by
    intro L
    induction L with
    | nil => simp
    | cons x r ih =>
      by_cases hx : x = 0
      · subst hx
        simp only [List.map_cons, List.sum_cons, Nat.pow_zero, List.countP_cons, beq_self_eq_true, if_true, List.filter_cons, Bool.not_true, Bool.false_eq_true, if_false, List.length_cons]
        omega
      · have hb : (x == 0) = false := by simp [hx]
        obtain ⟨y, rfl⟩ : ∃ y, x = y + 1 := ⟨x - 1, by omega⟩
        simp only [List.map_cons, List.sum_cons, List.countP_cons, hb, Bool.false_eq_true, if_false, List.filter_cons, Bool.not_false, if_true, List.length_cons, Nat.add_sub_cancel, Nat.pow_succ]
        omega
  induction m with
  | zero =>
    intro L _ h0
    have := List.length_pos_of_mem h0
    omega
  | succ m ih =>
    intro L hs h0
    obtain ⟨e1, e2⟩ := split L
    have hc : 1 ≤ L.countP (fun e => e == 0) := List.countP_pos_iff.2 ⟨0, h0, by simp⟩
    rw [hs, Nat.pow_succ] at e1
    obtain ⟨r, hr⟩ : ∃ r, L.countP (fun e => e == 0) = 2 * r := ⟨L.countP (fun e => e == 0) / 2, by omega⟩
    rw [hr] at e1 e2 hc
    have h1 := ih (List.replicate r 0 ++ (L.filter (fun e => !(e == 0))).map (fun e => e - 1)) (by
      rw [List.map_append, List.sum_append, List.map_replicate, List.map_map]
      simp only [List.sum_replicate_nat, Nat.pow_zero, Nat.mul_one]
      have : (L.filter (fun e => !(e == 0))).map ((fun e => 2 ^ e) ∘ fun e => e - 1) = (L.filter (fun e => !(e == 0))).map (fun e => 2 ^ (e - 1)) := rfl
      rw [this]
      omega) (List.mem_append_left _ (List.mem_replicate.2 ⟨by omega, rfl⟩))
    rw [List.length_append, List.length_replicate, List.length_map] at h1
    omega

theorem sum_zero {l : List Nat} (f : Nat → Nat) (h : ∀ x ∈ l, f x = 0) : (l.map f).sum = 0 := by
  induction l with
  | nil => rfl
  | cons x r ih => rw [List.map_cons, List.sum_cons, h x List.mem_cons_self, ih (fun y hy => h y (List.mem_cons_of_mem _ hy))]
theorem sumN_list (f : Nat → Nat) (l : List Nat) : ∀ k, k ≤ l.length → sumN (fun j => f (l[j]?.getD 0)) k = ((l.take k).map f).sum := by
  intro k
  induction k with
  | zero => intro _; simp [sumN]
  | succ k ih =>
    intro hk
    rw [sumN, ih (by omega), List.take_add_one, List.getElem?_eq_getElem (by omega)]
    simp only [Option.getD_some, Option.toList_some, List.map_append, List.sum_append, List.map_cons, List.map_nil, List.sum_cons, List.sum_nil, Nat.add_zero]
theorem full_sum {ls : List Nat} {m : Nat} (hk : C5.sumL ls (fun x => if x = 0 then 0 else 2 ^ (15 - x)) = 32768) (hm : m ≤ 15) (hle : ∀ x ∈ ls, x ≤ m) : (ls.map (fun x => if x = 0 then 0 else 2 ^ (m - x))).sum = 2 ^ m := by
  have e : ∀ l : List Nat, (∀ x ∈ l, x ≤ m) → (l.map (fun x => if x = 0 then 0 else 2 ^ (15 - x))).sum = 2 ^ (15 - m) * (l.map (fun x => if x = 0 then 0 else 2 ^ (m - x))).sum := by
    intro l hl
    induction l with
    | nil => simp
    | cons x r ih =>
      rw [List.map_cons, List.sum_cons, List.map_cons, List.sum_cons, Nat.mul_add, ih (fun y hy => hl y (List.mem_cons_of_mem _ hy))]
      congr 1
      have hx := hl x List.mem_cons_self
      split
      · simp
      · rw [← Nat.pow_add]; congr 1; omega
  have h1 := e ls hle
  unfold C5.sumL at hk
  rw [hk] at h1
  have h2 : 32768 = 2 ^ (15 - m) * 2 ^ m := by rw [← Nat.pow_add, show 15 - m + m = 15 from by omega]
  rw [h2] at h1
  exact (Nat.eq_of_mul_eq_mul_left (Nat.two_pow_pos _) h1).symm
theorem full_longest {ls : List Nat} {m : Nat} (hs : (ls.map (fun x => if x = 0 then 0 else 2 ^ (m - x))).sum = 2 ^ m) (hm1 : 1 ≤ m) (hat : m ∈ ls) : m + 1 ≤ (ls.filter (fun x => !(x == 0))).length := by
  have e : ∀ l : List Nat, (l.map (fun x => if x = 0 then 0 else 2 ^ (m - x))).sum = (((l.filter (fun x => !(x == 0))).map (fun x => m - x)).map (fun e => 2 ^ e)).sum := by
    intro l
    induction l with
    | nil => rfl
    | cons x r ih =>
      by_cases hx : x = 0
      · subst hx; simp [ih]
      · have hb : (x == 0) = false := by simp [hx]
        simp [hx, ih]
  have := pow_list m ((ls.filter (fun x => !(x == 0))).map (fun x => m - x)) (by rw [← e]; exact hs) (List.mem_map.2 ⟨m, List.mem_filter.2 ⟨hat, by simp; omega⟩, by omega⟩)
  rwa [List.length_map] at this
theorem endN_zero (ls : List Nat) (k j : Nat) (h1 : endN ls k ≤ j) (h2 : j < k) : ls[j]?.getD 0 = 0 := by
  induction k with
  | zero => omega
  | succ k ih =>
    unfold endN at h1
    split at h1
    · omega
    · rename_i h
      by_cases e : j = k
      · subst e; omega
      · exact ih h1 (by omega)
theorem endN_last (ls : List Nat) (k : Nat) (h : 0 < endN ls k) : 0 < ls[endN ls k - 1]?.getD 0 := by
  induction k with
  | zero => exact absurd h (Nat.lt_irrefl 0)
  | succ k ih =>
    unfold endN at h ⊢
    split at h
    · rename_i h2; rw [if_pos h2, Nat.add_sub_cancel]; exact h2
    · rename_i h2; rw [if_neg h2]; exact ih h
theorem endN_gt (ls : List Nat) (k j : Nat) (hj : j < k) (h : 0 < ls[j]?.getD 0) : j < endN ls k := by
  rcases Nat.lt_or_ge j (endN ls k) with h1 | h1
  · exact h1
  · have := endN_zero ls k j h1 hj; omega
theorem even_ones {ls : List Nat} {m : Nat} (hm1 : 1 ≤ m) (hle : ∀ x ∈ ls, x ≤ m) : ∃ q, (ls.map (fun x => if x = 0 then 0 else 2 ^ (m - x))).sum = ls.countP (fun x => x == m) + 2 * q := by
  induction ls with
  | nil => exact ⟨0, rfl⟩
  | cons x r ih =>
    obtain ⟨q, hq⟩ := ih (fun y hy => hle y (List.mem_cons_of_mem _ hy))
    have hx := hle x List.mem_cons_self
    rw [List.map_cons, List.sum_cons, hq, List.countP_cons]
    by_cases h0 : x = 0
    · have : (x == m) = false := by simp; omega
      exact ⟨q, by rw [if_pos h0, this]; simp⟩
    · by_cases hm : x = m
      · exact ⟨q, by rw [if_neg h0, hm, Nat.sub_self]; simp; omega⟩
      · have : (x == m) = false := by simp [hm]
        obtain ⟨d, hd⟩ : ∃ d, m - x = d + 1 := ⟨m - x - 1, by omega⟩
        exact ⟨q + 2 ^ d, by rw [if_neg h0, this, hd, Nat.pow_succ]; simp; omega⟩
theorem count_take {l : List Nat} {k : Nat} (f : Nat → Nat) (h : ∀ j, k ≤ j → j < l.length → f (l[j]?.getD 0) = 0) (hk : k ≤ l.length) : ((l.take k).map f).sum = (l.map f).sum := by
  have e : (l.map f).sum = ((l.take k).map f).sum + ((l.drop k).map f).sum := by rw [← List.sum_append, ← List.map_append, List.take_append_drop]
  have z : ((l.drop k).map f).sum = 0 := sum_zero f (fun x hx => by
    obtain ⟨i, hi, rfl⟩ := List.mem_iff_getElem.1 hx
    rw [List.getElem_drop]
    rw [List.length_drop] at hi
    have := h (k + i) (by omega) (by omega)
    rwa [List.getElem?_eq_getElem (by omega)] at this)
  rw [e, z, Nat.add_zero]
theorem map_count (l : List Nat) (a : Nat) : (l.map (fun x => if x = a then 1 else 0)).sum = l.countP (fun x => x == a) := by
  induction l with
  | nil => rfl
  | cons x r ih =>
    rw [List.map_cons, List.sum_cons, ih, List.countP_cons]
    by_cases h : x = a
    · subst h; simp; omega
    · have : (x == a) = false := by simp [h]
      rw [if_neg h, this]; simp
theorem range_map (l : List Nat) : (List.range l.length).map (fun i => l[i]?.getD 0) = l := by
  refine List.ext_getElem (by simp) fun i h1 h2 => ?_
  simp [List.getElem?_eq_getElem h2]
theorem filter_range (l : List Nat) (p : Nat → Bool) : (l.filter p).length = ((List.range l.length).filter (fun i => p (l[i]?.getD 0))).length := by
  have h := congrArg (fun x => (x.filter p).length) (range_map l)
  rw [← h, List.filter_map, List.length_map]
  rfl
theorem two_of {P : List Nat} (hn : P.Nodup) (h : 2 ≤ P.length) : ∃ p0 p1, p0 ∈ P ∧ p1 ∈ P ∧ p0 < p1 := by
  match P, hn, h with
  | a :: b :: r, hn, _ =>
    have hab : a ≠ b := by
      have := (List.nodup_cons.1 hn).1
      intro e; exact this (by rw [e]; exact List.mem_cons_self)
    rcases Nat.lt_or_gt_of_ne hab with h | h
    · exact ⟨a, b, by simp, by simp, h⟩
    · exact ⟨b, a, by simp, by simp, h⟩
set_option maxHeartbeats 1000000 in
theorem own_code {l own : List Nat} (h : Own l own) : ∃ m, IsCode own m ∧ m + 1 ≤ kindsN l ∧ ∀ s, s < 256 → fqN l l.length s ≠ 0 → wt own s ≠ 0 ∧ m + 1 - wt own s ≤ m := by
  obtain ⟨⟨hk2, hk11⟩, P, m, hO, hM, hown⟩ := h
  obtain ⟨xs, hxs⟩ : ∃ xs, xs = cntL l := ⟨_, rfl⟩
  have hxl : xs.length = 256 := by rw [hxs]; exact cntL_len l
  rw [← hxs] at hO hM hown
  have hO' : C5.IsOrder (C5.numOf xs) xs.length P := by rw [hxl]; exact hO
  have hPl : P.length = kindsN l := by rw [hO.len]; unfold kindsN C5.placesTo; rw [hxs]
  generalize kindsN l = K at hk2 hk11 hPl ⊢
  have hcode := C5.best_code (most := 11) hO' (by omega) (by omega) (by omega) (by omega) (by omega)
  have hz := fun s hs => C5.best_zero (most := 11) hO' (by omega) (by omega) (by omega) s hs
  obtain ⟨ls, hls⟩ : ∃ ls, ls = C5.limitL xs P 11 := ⟨_, rfl⟩
  have hll : ls.length = 256 := by rw [hls, C5.limitL_len, hxl]
  have hl11 : ∀ j, ls[j]?.getD 0 ≤ 11 := fun j => by rw [hls]; exact C5.best_le j
  rw [← hls] at hM hown hcode hz
  have hm11 : m ≤ 11 := by obtain ⟨i, hi, e⟩ := hM.at_; have := hl11 i; omega
  have hle : ∀ x ∈ ls, x ≤ m := fun x hx => by
    obtain ⟨i, hi, rfl⟩ := List.mem_iff_getElem.1 hx
    have := hM.le i hi
    rwa [List.getElem?_eq_getElem hi] at this
  have hat : m ∈ ls := by
    obtain ⟨i, hi, e⟩ := hM.at_
    rw [List.getElem?_eq_getElem hi] at e
    rw [← e]; exact List.getElem_mem hi
  -- two places that are not 0
  have hnd : P.Nodup := hO'.nodup
  have hpos : ∀ p ∈ P, p < 256 ∧ 0 < ls[p]?.getD 0 := fun p hp => by
    have h1 := (hO.mem p).1 hp
    refine ⟨h1.1, ?_⟩
    have h2 := (hz p (by omega))
    have : C5.numOf ls p ≠ 0 := fun e => h1.2 (h2.1 e)
    unfold C5.numOf at this
    omega
  obtain ⟨p0, p1, hp0, hp1, hne⟩ := two_of hnd (show 2 ≤ P.length from by rw [hPl]; exact hk2)
  have hm1 : 1 ≤ m := by
    have h1 := (hpos p0 hp0).2
    have h2 := hM.le p0 (by rw [hll]; exact (hpos p0 hp0).1)
    omega
  have hkr : C5.sumL ls (fun x => if x = 0 then 0 else 2 ^ (15 - x)) = 32768 := by
    have h := of_decide_eq_true hcode
    rw [← C5.parts_all ls h.2.1]; exact h.2.2
  have hs := full_sum hkr (by omega) hle
  have hlong := full_longest hs hm1 hat
  obtain ⟨E, hE⟩ : ∃ E, E = endN ls 256 := ⟨_, rfl⟩
  have hE256 : E ≤ 256 := by rw [hE]; exact endN_le ls 256
  have hEgt : ∀ j, j < 256 → 0 < ls[j]?.getD 0 → j < E := fun j h1 h2 => by rw [hE]; exact endN_gt ls 256 j h1 h2
  have hE2 : 2 ≤ E := by have := hEgt p1 (hpos p1 hp1).1 (hpos p1 hp1).2; omega
  have hElast : 0 < ls[E - 1]?.getD 0 := by rw [hE]; exact endN_last ls 256 (by rw [← hE]; omega)
  have hEz : ∀ j, E ≤ j → j < 256 → ls[j]?.getD 0 = 0 := fun j h1 h2 => endN_zero ls 256 j (by rw [← hE]; exact h1) h2
  rw [← hE] at hown
  have hol : (ownN ls m).length = 256 := by rw [ownN_len, hll]
  have hlen : own.length = E := by rw [hown, List.length_take, hol]; exact Nat.min_eq_left hE256
  have hwt : ∀ i, i < E → wt own i = if 0 < ls[i]?.getD 0 then m + 1 - ls[i]?.getD 0 else 0 := fun i hi => by
    unfold wt
    rw [hown, List.getElem?_take, if_pos hi, ownN_at]
  have hLm : ∀ i, i < 256 → ls[i]?.getD 0 ≤ m := fun i hi => hM.le i (by rw [hll]; exact hi)
  have htk : ∀ f : Nat → Nat, f 0 = 0 → (own.map f).sum = ((ownN ls m).map f).sum := fun f f0 => by
    rw [hown]
    refine count_take f (fun j h1 h2 => ?_) (by rw [hol]; exact hE256)
    rw [ownN_at, hEz j h1 (by rw [hol] at h2; exact h2)]
    exact f0
  have hsum : sumW own own.length = 2 ^ m := by
    unfold sumW
    have := sumN_list shN own own.length (Nat.le_refl _)
    rw [List.take_length] at this
    rw [show (fun j => shN (wt own j)) = (fun j => shN (own[j]?.getD 0)) from rfl, this, htk shN rfl, ← hs]
    unfold ownN
    rw [List.map_map]
    congr 1
    refine List.map_congr_left fun x hx => ?_
    have := hle x hx
    simp only [Function.comp]
    by_cases h0 : x = 0
    · subst h0; rfl
    · rw [if_pos (by omega), if_neg h0]
      unfold shN
      rw [if_neg (by omega)]
      congr 1
      omega
  have hones : 2 ≤ onesW own own.length := by
    unfold onesW
    have := sumN_list (fun x => if x = 1 then 1 else 0) own own.length (Nat.le_refl _)
    rw [List.take_length] at this
    rw [show (fun j => if wt own j = 1 then 1 else 0) = (fun j => if own[j]?.getD 0 = 1 then 1 else 0) from rfl, this, htk (fun x => if x = 1 then 1 else 0) rfl]
    have h1 : ((ownN ls m).map (fun x => if x = 1 then 1 else 0)).sum = ls.countP (fun x => x == m) := by
      rw [← map_count]
      unfold ownN
      rw [List.map_map]
      congr 1
      refine List.map_congr_left fun x hx => ?_
      have := hle x hx
      simp only [Function.comp]
      repeat' split
      all_goals omega
    rw [h1]
    obtain ⟨q, hq⟩ := even_ones hm1 hle
    rw [hs] at hq
    have hc : 1 ≤ ls.countP (fun x => x == m) := List.countP_pos_iff.2 ⟨m, hat, by simp⟩
    obtain ⟨j, rfl⟩ : ∃ j, m = j + 1 := ⟨m - 1, by omega⟩
    rw [Nat.pow_succ] at hq
    omega
  have hK : (ls.filter (fun x => !(x == 0))).length = K := by
    rw [filter_range, hll, ← hPl, hO.len]
    congr 1
    refine List.filter_congr fun i hi => ?_
    have hi' := List.mem_range.1 hi
    have h1 := hz i (by rw [hxl]; exact hi')
    unfold C5.numOf at h1 ⊢
    by_cases h0 : ls[i]?.getD 0 = 0
    · rw [h0, h1.1 h0]; rfl
    · have h2 : xs[i]?.getD 0 ≠ 0 := fun e => h0 (h1.2 e)
      have e1 : (ls[i]?.getD 0 == 0) = false := beq_false_of_ne h0
      have e2 : (xs[i]?.getD 0 != 0) = true := bne_iff_ne.2 h2
      rw [e1, e2]; rfl
  refine ⟨m, ⟨by rw [hlen]; exact hE2, by rw [hlen]; exact hE256, ?_, fun i hi => ?_, hsum, hm11, hones⟩, by rw [← hK]; exact hlong, fun s hs1 hs2 => ?_⟩
  · rw [hlen, hwt (E - 1) (by omega), if_pos hElast]
    have := hLm (E - 1) (by omega)
    omega
  · rw [hlen] at hi
    rw [hwt i hi]
    split <;> omega
  · have h1 := hz s (by rw [hxl]; exact hs1)
    unfold C5.numOf at h1
    have h2 : ls[s]?.getD 0 ≠ 0 := fun e => hs2 (by have := h1.1 e; rw [hxs, cntL_at l s hs1] at this; exact this)
    have h3 := hLm s hs1
    rw [hwt s (hEgt s hs1 (by omega)), if_pos (by omega)]
    omega
end Go.Proofs.YtcoahkmiebeeeaaGreatDoor

namespace Go.Proofs.YtcoahkmiebeeeaaGreatDoor
open Go.RowKit Go.Shelf
set_option linter.unusedVariables false

theorem nd_le : ∀ (F D : List Nat), F.Nodup → (∀ x ∈ F, x ∈ D) → F.length ≤ D.length
  | [], D, _, _ => Nat.zero_le _
  | x :: r, D, hn, h => by
    have hx := h x List.mem_cons_self
    have h1 := nd_le r (D.erase x) (List.nodup_cons.1 hn).2 (fun y hy => (List.mem_erase_of_ne (fun e => (List.nodup_cons.1 hn).1 (by rw [← e]; exact hy))).2 (h y (List.mem_cons_of_mem _ hy)))
    rw [List.length_erase_of_mem hx] at h1
    have := List.length_pos_of_mem hx
    rw [List.length_cons]
    omega
theorem kinds_mem (l : List Nat) (s : Nat) : s ∈ C5.placesTo (C5.numOf (cntL l)) 256 ↔ s < 256 ∧ fqN l l.length s ≠ 0 := by
  unfold C5.placesTo
  rw [List.mem_filter, List.mem_range]
  constructor
  · rintro ⟨h1, h2⟩
    refine ⟨h1, ?_⟩
    have := bne_iff_ne.1 h2
    unfold C5.numOf at this
    rwa [cntL_at l s h1] at this
  · rintro ⟨h1, h2⟩
    refine ⟨h1, bne_iff_ne.2 ?_⟩
    unfold C5.numOf
    rwa [cntL_at l s h1]
theorem kinds_nodup (l : List Nat) : (C5.placesTo (C5.numOf (cntL l)) 256).Nodup := by
  unfold C5.placesTo
  exact List.Nodup.sublist List.filter_sublist List.nodup_range
theorem fq_in {l : List Nat} {k s : Nat} (h : fqN l k s ≠ 0) : ∃ i, i < k ∧ wt l i = s := by
  induction k with
  | zero => exact absurd rfl h
  | succ k ih =>
    rw [fqN_succ] at h
    by_cases e : wt l k = s
    · exact ⟨k, by omega, e⟩
    · rw [if_neg e, Nat.add_zero] at h
      obtain ⟨i, hi, q⟩ := ih h
      exact ⟨i, by omega, q⟩
theorem kinds_le {l D : List Nat} (h : ∀ i, i < l.length → l[i]?.getD 0 ∈ D) : kindsN l ≤ D.length := by
  refine nd_le _ D (kinds_nodup l) (fun s hs => ?_)
  obtain ⟨i, hi, e⟩ := fq_in ((kinds_mem l s).1 hs).2
  rw [← e]; exact h i hi
theorem kinds_two {l : List Nat} {i j : Nat} (hi : i < l.length) (hj : j < l.length) (hne : l[i]?.getD 0 ≠ l[j]?.getD 0) (hlt : ∀ q : Nat, l[q]?.getD 0 < 256) : 2 ≤ kindsN l := by
  refine nd_le [l[i]?.getD 0, l[j]?.getD 0] _ (by simp [hne]) (fun s hs => (kinds_mem l s).2 ?_)
  rcases List.mem_cons.1 hs with e | e
  · rw [e]; exact ⟨hlt i, by have := fqN_pos l l.length i hi; unfold wt at this; omega⟩
  · rw [List.mem_singleton.1 e]; exact ⟨hlt j, by have := fqN_pos l l.length j hj; unfold wt at this; omega⟩
theorem packL_three {ws : List Nat} {m : Nat} (bs : List Nat) (h : ∀ b ∈ bs, m + 1 - wt ws b ≤ 3) : (packL ws m bs).length ≤ 3 * bs.length := by
  induction bs with
  | nil => simp [packL]
  | cons b l ih =>
    rw [packL, List.length_append, low_length, List.length_cons, Nat.mul_succ]
    have := ih (fun x hx => h x (List.mem_cons_of_mem _ hx))
    have := h b List.mem_cons_self
    omega
theorem four_pack {l own : List Nat} (hO : Own l own) (hk : kindsN l ≤ 4) (hlt : ∀ q : Nat, l[q]?.getD 0 < 256) (hl : l.length ≤ 131072) (hl5 : 501 ≤ l.length) : ∃ b, packP own l (rowsOf l) = some b ∧ 134 + b.length < l.length := by
  obtain ⟨m, hC, hmk, hw⟩ := own_code hO
  generalize kindsN l = K at hk hmk
  have hcb := hC.codeB.1
  have hcm : codeM own = m := hC.codeM
  have hmem : ∀ b ∈ l, wt own b ≠ 0 ∧ m + 1 - wt own b ≤ 3 := fun b hb => by
    obtain ⟨i, hi, rfl⟩ := List.mem_iff_getElem.1 hb
    have e : l[i]?.getD 0 = l[i] := by rw [List.getElem?_eq_getElem hi]; rfl
    have h1 := fqN_pos l l.length i hi
    unfold wt at h1
    rw [e] at h1
    have h2 := hlt i
    rw [e] at h2
    have := hw l[i] h2 (by omega)
    exact ⟨this.1, by omega⟩
  have hpc : ∀ each k, ∀ b ∈ pieceN l each k, b ∈ l := fun each k b hb => List.mem_of_mem_drop (List.mem_of_mem_take hb)
  have hpl : ∀ each k, (pieceN l each k).length ≤ 131072 := fun each k => by rw [pieceN_len]; omega
  have hC0 : ∀ each k, packC own (pieceN l each k) = 0 := fun each k => by
    unfold packC
    rw [if_pos hcb, if_neg (by have := hpl each k; omega), if_pos (show packOk own (pieceN l each k) = true from decide_eq_true fun b hb => (hmem b (hpc each k b hb)).1)]
  have hV : ∀ each k, 8 * (tailN own l each k).length ≤ 3 * (pieceN l each k).length + 8 := fun each k => by
    unfold tailN packV
    rw [if_pos (hC0 each k), pack_length, List.length_append, List.length_singleton, hcm]
    have := packL_three (ws := own) (m := m) (pieceN l each k) (fun b hb => (hmem b (hpc each k b hb)).2)
    omega
  have hok : ∀ each n, okN own l each n = true := fun each n => by
    induction n with
    | zero => rfl
    | succ n ih => unfold okN; rw [ih, hC0 each n]; rfl
  refine ⟨bodyP own l (rowsOf l), by unfold packP; rw [if_pos (hok _ _)], ?_⟩
  unfold bodyP
  rw [List.length_append]
  have h1 := lens_len own l (eachN l.length (rowsOf l)) (rowsOf l) (rowsOf l)
  rcases rowsOf_is l with ⟨e, hL⟩ | ⟨e, hL⟩
  · rw [e] at h1 ⊢
    have h2 := hV (eachN l.length 1) 0
    rw [pieceN_len] at h2
    simp only [tailsN, List.nil_append]
    omega
  · rw [e] at h1 ⊢
    have he : eachN l.length 4 = (l.length + 3) / 4 := rfl
    have t0 := hV (eachN l.length 4) 0
    have t1 := hV (eachN l.length 4) 1
    have t2 := hV (eachN l.length 4) 2
    have t3 := hV (eachN l.length 4) 3
    rw [pieceN_len] at t0 t1 t2 t3
    simp only [tailsN, List.nil_append, List.length_append]
    omega
theorem four_short {ws l S nx : List Nat} (h : Short ws l S nx) {i j : Nat} (hi : i < l.length) (hj : j < l.length) (hne : l[i]?.getD 0 ≠ l[j]?.getD 0) (hlt : ∀ q : Nat, l[q]?.getD 0 < 256) {D : List Nat} (hD : ∀ q, q < l.length → l[q]?.getD 0 ∈ D) (hD4 : D.length ≤ 4) (hl : l.length ≤ 131072) (hl5 : 501 ≤ l.length) : S.length < l.length := by
  have h2 := kinds_two hi hj hne hlt
  have h4 := kinds_le hD
  have hal : alikeN l = false := decide_eq_false fun q => hne ((q.2 i hi).trans (q.2 j hj).symm)
  obtain ⟨own, hO, hb⟩ := h.few hal ⟨h2, Nat.le_trans (Nat.le_trans h4 hD4) (by decide)⟩
  obtain ⟨b, hp, hbl⟩ := four_pack hO (Nat.le_trans h4 hD4) hlt hl hl5
  rcases hb b hp with q | q <;> omega
theorem one_short {ws l S nx : List Nat} (h : Short ws l S nx) (ha : alikeN l = true) : S.length ≤ 4 := by
  have h1 := h.one ha
  have : hbN 1 (whN 1 l.length) ≤ 3 := by
    unfold hbN; repeat' split
    all_goals omega
  omega
end Go.Proofs.YtcoahkmiebeeeaaGreatDoor

namespace Go.Proofs.YtcoahkmiebeeeaaGreatDoor
open Go.RowKit Go.Shelf
set_option linter.unusedVariables false

theorem alike_one (c n : Nat) (h : 1 ≤ n) : alikeN (List.replicate n c) = true := by
  refine decide_eq_true ⟨fun e => ?_, fun j hj => ?_⟩
  · have := congrArg List.length e; simp at this; omega
  · rw [List.length_replicate] at hj
    rw [List.getElem?_replicate, if_pos hj, List.getElem?_replicate, if_pos (by omega)]

def metB (l : List Nat) (q : Nat) : Nat → Bool
  | 0 => false
  | i + 1 => metB l q i || decide (l[i]?.getD 0 % 4 = q)
theorem metB_in {l : List Nat} {q i : Nat} (h : metB l q i = true) : ∃ j, j < i ∧ l[j]?.getD 0 % 4 = q := by
  induction i with
  | zero => cases h
  | succ i ih =>
    unfold metB at h
    rcases Bool.or_eq_true_iff.1 h with h | h
    · obtain ⟨j, hj, e⟩ := ih h; exact ⟨j, by omega, e⟩
    · exact ⟨i, by omega, of_decide_eq_true h⟩
def fourL (x : Nat) (l : List Nat) : List Nat := l.map (fun y => (x + y % 4) % 256)
theorem fourL_len (x : Nat) (l : List Nat) : (fourL x l).length = l.length := by simp [fourL]
theorem fourL_at (x : Nat) (l : List Nat) (j : Nat) (h : j < l.length) : (fourL x l)[j]?.getD 0 = (x + l[j]?.getD 0 % 4) % 256 := by
  unfold fourL
  rw [List.getElem?_map, List.getElem?_eq_getElem h]; rfl
theorem fourL_lt (x : Nat) (l : List Nat) (j : Nat) : (fourL x l)[j]?.getD 0 < 256 := by
  by_cases h : j < l.length
  · rw [fourL_at x l j h]; exact Nat.mod_lt _ (by decide)
  · rw [List.getElem?_eq_none (by rw [fourL_len]; omega)]; decide
theorem four_told {x : Nat} {l S nx : List Nat} (h : Short [] (fourL x l) S nx) (h0 : metB l 0 l.length = true) (h1 : metB l 1 l.length = true) (hl : l.length ≤ 131072) (hl5 : 501 ≤ l.length) : S.length < l.length := by
  obtain ⟨i, hi, ei⟩ := metB_in h0
  obtain ⟨j, hj, ej⟩ := metB_in h1
  have := four_short (i := i) (j := j) h (by rw [fourL_len]; exact hi) (by rw [fourL_len]; exact hj) (by rw [fourL_at x l i hi, fourL_at x l j hj, ei, ej]; omega) (fourL_lt x l) (D := [x % 256, (x + 1) % 256, (x + 2) % 256, (x + 3) % 256]) (fun q hq => by
    rw [fourL_len] at hq
    rw [fourL_at x l q hq]
    rcases (show l[q]?.getD 0 % 4 = 0 ∨ l[q]?.getD 0 % 4 = 1 ∨ l[q]?.getD 0 % 4 = 2 ∨ l[q]?.getD 0 % 4 = 3 by omega) with e | e | e | e <;> rw [e] <;> simp) (Nat.le_refl 4) (by rw [fourL_len]; exact hl) (by rw [fourL_len]; exact hl5)
  rwa [fourL_len] at this
end Go.Proofs.YtcoahkmiebeeeaaGreatDoor

namespace Go.Proofs.YtcoahkmiebeeeaaGreatDoor
open Go.RowKit Go.Shelf
set_option linter.unusedVariables false

theorem eq31 (m0 m1 m2 m3 : Bool) (w : World) : (Op.equalIn 10000 31 (.agg #[.bool m0, .bool m1, .bool m2, .bool m3]) (.agg #[.bool true, .bool true, .bool true, .bool true])).run Tryz.prog w = .ok (m0 && m1 && m2 && m3) w := by
  cases m0 <;> cases m1 <;> cases m2 <;> cases m3 <;> kernel_rfl

set_option maxRecDepth 100000 in
set_option maxHeartbeats 4000000 in
theorem lfew_law (c : Int) (hc0 : 0 ≤ c) (hc1 : c < 256) (k : Int) (a : Option Addr) (cap gb off : Nat) (l : List Nat) (w : World) (hF : Frm w) (hB : Bytes w a cap gb off l) :
    Calls Tryz.prog 5 #[.int .u8 c, .int .i64 k, .slice a l.length cap] w fun e w' => e = .returned (.bool true) ∧ Keep noBlock w w' := by
  have HW := hid (show ∀ W, Keep noBlock w W → Calls Tryz.prog 7 #[] W fun e w' => e = .returned (.bool true) ∧ Keep noBlock W w' from fun W hW => wakesL_any W (hF.keep hW))
  obtain ⟨x, rfl⟩ : ∃ x : Nat, c = (x : Int) := ⟨c.toNat, by omega⟩
  obtain ⟨n, hn⟩ : ∃ n : Nat, Int.tmod (Int.tmod k 100000 + 100000) 100000 + 1 = (n : Int) := ⟨(Int.tmod (Int.tmod k 100000 + 100000) 100000 + 1).toNat, by
    have h1 := Int.tmod_lt_of_pos k (show (0 : Int) < 100000 by decide)
    have h2 := Int.lt_tmod_of_pos k (show (0 : Int) < 100000 by decide)
    have h3 := Int.tmod_nonneg 100000 (show (0 : Int) ≤ Int.tmod k 100000 + 100000 by omega)
    omega⟩
  have hnb : 1 ≤ n ∧ n ≤ 100000 := by
    have h1 := Int.tmod_lt_of_pos k (show (0 : Int) < 100000 by decide)
    have h2 := Int.lt_tmod_of_pos k (show (0 : Int) < 100000 by decide)
    have h3 := Int.tmod_nonneg 100000 (show (0 : Int) ≤ Int.tmod k 100000 + 100000 by omega)
    have h4 := Int.tmod_lt_of_pos (Int.tmod k 100000 + 100000) (show (0 : Int) < 100000 by decide)
    omega
  obtain ⟨r, hr⟩ : ∃ r, Int.tmod k 100000 = r := ⟨_, rfl⟩
  have hr1 : -100000 < r ∧ r < 100000 := by
    have h1 := Int.tmod_lt_of_pos k (show (0 : Int) < 100000 by decide)
    have h2 := Int.lt_tmod_of_pos k (show (0 : Int) < 100000 by decide)
    omega
  rw [hr] at hn
  obtain ⟨r2, hr2⟩ : ∃ r2, r + 100000 = r2 := ⟨_, rfl⟩
  rw [hr2] at hn
  obtain ⟨r3, hr3⟩ : ∃ r3, Int.tmod r2 100000 = r3 := ⟨_, rfl⟩
  rw [hr3] at hn
  have hb1 := hr1.1
  have hb2 := hr1.2
  have hb3 : 0 < r2 := by omega
  have hb4 : r2 < 200000 := by omega
  have hb5 : 0 ≤ r3 := by omega
  have hb6 : r3 < 100000 := by omega
  have hnI : (n : Int) ≤ 100000 := by omega
  have hn1 := hnb.1
  have HH := hid (And.intro hF (And.intro hB hnb))
  obtain ⟨L, hL⟩ : ∃ L, L = l.length := ⟨_, rfl⟩
  have hLb := hB.len
  rw [← hL] at hLb ⊢
  have hLI : (L : Int) ≤ 281474976710656 := by omega
  have HL := hid hL
  have hx : x < 256 := by omega
  have hxI : (x : Int) < 256 := by omega
  have hmk5 : ∀ W : World, (Instr.makeSlice 22 (.int .i64 (n : Int)) (.int .i64 (n : Int))).run Tryz.prog W = .ok (.slice (some ⟨W.heap.size, 0, none⟩) n n) (W.alloc (.cells (madeCells #[.int .u8 0] n) 5)) := fun W =>
    run_make_row' 22 5 (.int .u8 0) 1 Tryz.underlying22 C5.info5' rfl .i64 .i64 n (by omega) (by omega) W
  obtain ⟨ob, hob⟩ : ∃ ob, ob = w.heap.size := ⟨_, rfl⟩
  have hko := (Keep.refl noBlock w).alloc (.cells (madeCells #[.int .u8 0] n) 5)
  have hAo : IsA (w.alloc (.cells (madeCells #[.int .u8 0] n) 5)) ob 5 .u8 n (fun j => if j < 0 then (x : Int) else 0) := by
    rw [hob]
    refine ⟨_, World.alloc_heap_new w _, by simp [size_madeCells], fun j hj => ?_⟩
    simp [madeCells, hj, Nat.mod_one]
  have H3 := hid (And.intro hAo hko)
  have HOB := hid hob
  clear hF hB hnb hr1 hL hLb hc0 hc1 hAo hko
  go_enter Tryz.func5, Tryz.ntmps5
  go_wp2_with fail
  rw [← hob]
  generalize w.alloc (.cells (madeCells #[.int .u8 0] n) 5) = W3 at H3 ⊢
  clear hob hmk5 hr hr2 hr3
  go_loopw [25] (fun v25 wr => ∃ i : Nat, v25 = .int .i64 (i : Int) ∧ i ≤ n ∧ Hid (IsA wr ob 5 .u8 n (fun j => if j < i then (x : Int) else 0) ∧ Keep noBlock w wr)) (fun v25 _ => n - (intOf v25).toNat)
  case atStart => exact ⟨0, rfl, Nat.zero_le _, H3.out⟩
  case round =>
    clear H3
    obtain ⟨i, rfl, hi, HC⟩ := hrel
    by_cases hlt : i < n
    · have hltI : (i : Int) < (n : Int) := by omega
      obtain ⟨hA, hK⟩ := HC.out
      have fz := hA.frozen i
      have ci := hA.cell i hlt
      rw [if_neg (Nat.lt_irrefl i)] at ci
      have hset := hA.set i (x : Int)
      have HE := hid (show IsA (wr.setCell ⟨ob, i, none⟩ (.int .u8 (x : Int))) ob 5 .u8 n (fun j => if j < i + 1 then (x : Int) else 0) ∧ Keep noBlock w (wr.setCell ⟨ob, i, none⟩ (.int .u8 (x : Int))) from by
        refine ⟨hset.congr (fun j _ => ?_), hK.setCell (p := ⟨ob, i, none⟩) (fun h => by dsimp only at h; have := HOB.out; omega) _⟩
        by_cases e : j = i
        · subst e; rw [if_pos rfl, if_pos (by omega)]
        · rw [if_neg e]
          by_cases hj : j < i
          · rw [if_pos hj, if_pos (by omega)]
          · rw [if_neg hj, if_neg (by omega)])
      clear hA hK hset HC
      go_wp2_with fail
      refine ⟨⟨i + 1, by go_num, by omega, HE.out⟩, ?_⟩
      simp [intOf]; omega
    · have hltI : ¬ (i : Int) < (n : Int) := by omega
      obtain rfl : i = n := by omega
      obtain ⟨hA, hK⟩ := HC.out
      have hBo : Bytes wr (some ⟨ob, 0, none⟩) i ob 0 (List.replicate i x) := by
        refine ⟨.inl rfl, (fun h => by cases h), fun j hj => ?_, fun j => ?_, by simp, by simp; omega⟩
        · rw [List.length_replicate] at hj
          rw [Nat.zero_add, hA.cell j hj, if_pos hj, List.getElem?_replicate, if_pos hj]; rfl
        · rw [List.getElem?_replicate]; split
          · exact hx
          · decide
      have hwr := writeL_any _ _ _ _ (List.replicate i x) none 0 0 0 [] wr (HH.out.1.keep hK) hBo (bytes_none _) (by simp; omega) (by simp)
      rw [List.length_replicate, show ([] : List Nat).length = 0 from rfl] at hwr
      have HWr := hid hwr
      have HK := hid hK
      clear hA hK hBo hwr HC
      go_wp2_with fail
      refine HWr.out.mono ?_
      rintro e w1 ⟨hk1, S, nx, sa, sn, sc, sg, so, na, nn, nc, ng, no, hSh, rfl, hsn, hnn, hBS, hBN⟩
      have hsl : sn ≤ 4 := by rw [hsn]; exact one_short hSh (alike_one x i HH.out.2.2.1)
      have hslI : ¬ (4 : Int) < (sn : Int) := by omega
      have HK1 := hid (HK.out.trans' hk1)
      clear hk1 hSh hsn hnn hBS hBN hsl HWr
      by_cases h4 : 4 ≤ i
      · have h4I : (4 : Int) ≤ (i : Int) := by omega
        clear h4
        by_cases hsm : L < 501
        · have hsmI : (L : Int) < 501 := by omega
          have HWk := hid (HW.out _ HK1.out)
          go_wp2_with fail
          refine HWk.out.mono ?_
          rintro e w2 ⟨rfl, hk2⟩
          have HK2 := hid (HK1.out.trans' hk2)
          clear hk2
          go_wp2_with fail
          go_ret
          exact ⟨rfl, HK2.out⟩
        · have hsmI : ¬ (L : Int) < 501 := by omega
          by_cases hbg : 20000 < L
          · have hbgI : (20000 : Int) < (L : Int) := by omega
            have HWk := hid (HW.out _ HK1.out)
            go_wp2_with fail
            refine HWk.out.mono ?_
            rintro e w2 ⟨rfl, hk2⟩
            have HK2 := hid (HK1.out.trans' hk2)
            clear hk2
            go_wp2_with fail
            go_ret
            exact ⟨rfl, HK2.out⟩
          · have hbgI : ¬ (20000 : Int) < (L : Int) := by omega
            have hmk6 : ∀ W : World, (Instr.makeSlice 22 (.int .i64 (L : Int)) (.int .i64 (L : Int))).run Tryz.prog W = .ok (.slice (some ⟨W.heap.size, 0, none⟩) L L) (W.alloc (.cells (madeCells #[.int .u8 0] L) 5)) := fun W =>
              run_make_row' 22 5 (.int .u8 0) 1 Tryz.underlying22 C5.info5' rfl .i64 .i64 L (by omega) (by omega) W
            obtain ⟨fb, hfb⟩ : ∃ fb, fb = w1.heap.size := ⟨_, rfl⟩
            have hkf : Keep noBlock w1 ((w1.alloc (.cells (madeCells #[.int .u8 0] L) 5)).alloc (.cells #[.bool false, .bool false, .bool false, .bool false] 31)) := ((Keep.refl noBlock w1).alloc _).alloc _
            have o1 := World.alloc_heap_new w1 (.cells (madeCells #[.int .u8 0] L) 5)
            have o2 := World.alloc_heap_new (w1.alloc (.cells (madeCells #[.int .u8 0] L) 5)) (.cells #[.bool false, .bool false, .bool false, .bool false] 31)
            simp only [World.size_alloc] at o2
            have hAf : IsA ((w1.alloc (.cells (madeCells #[.int .u8 0] L) 5)).alloc (.cells #[.bool false, .bool false, .bool false, .bool false] 31)) fb 5 .u8 L (fun j => if j < 0 then (((fourL x l)[j]?.getD 0 : Nat) : Int) else 0) := by
              rw [hfb]
              refine ⟨_, alloc_far o1 _, by simp [size_madeCells], fun j hj => ?_⟩
              simp [madeCells, hj, Nat.mod_one]
            rw [← hfb] at o2
            have H5 := hid (And.intro hAf (And.intro o2 hkf))
            have HFB := hid hfb
            clear hAf o1 o2 hkf
            go_wp2_with fail
            rw [← hfb]
            generalize (w1.alloc (.cells (madeCells #[.int .u8 0] L) 5)).alloc (.cells #[.bool false, .bool false, .bool false, .bool false] 31) = W5 at H5 ⊢
            clear hfb hmk6
            go_loopw [65] (fun v65 wr => ∃ i : Nat, v65 = .int .i64 (i : Int) ∧ i ≤ L ∧ Hid (IsA wr fb 5 .u8 L (fun j => if j < i then (((fourL x l)[j]?.getD 0 : Nat) : Int) else 0) ∧ wr.heap[fb + 1]? = some (.cells #[.bool (metB l 0 i), .bool (metB l 1 i), .bool (metB l 2 i), .bool (metB l 3 i)] 31 (0, 0)) ∧ Keep noBlock w1 wr)) (fun v65 _ => L - (intOf v65).toNat)
            case atStart => exact ⟨0, rfl, Nat.zero_le _, H5.out⟩
            case round =>
              clear H5
              obtain ⟨q, rfl, hq, HC⟩ := hrel
              by_cases hlt2 : q < L
              · have hltI2 : (q : Int) < (L : Int) := by omega
                obtain ⟨hA, hm, hK⟩ := HC.out
                have hqx : q < l.length := by rw [← HL.out]; exact hlt2
                obtain rfl := HH.out.2.1.here hqx
                have c1 := ((HH.out.2.1.keep HK1.out (fun _ h => h)).keep hK (fun _ h => h)).cells q hqx
                have hylt := HH.out.2.1.lt q
                have hfour := fourL_at x l q hqx
                obtain ⟨y, hy⟩ : ∃ y, y = l[q]?.getD 0 := ⟨_, rfl⟩
                rw [← hy] at c1 hylt hfour
                obtain ⟨y4, hy4⟩ : ∃ y4, y4 = y % 4 := ⟨_, rfl⟩
                obtain ⟨z, hz⟩ : ∃ z, z = (x + y4) % 256 := ⟨_, rfl⟩
                rw [← hy4, ← hz] at hfour
                have e1 : Int.tmod (y : Int) 4 = (y4 : Int) := by rw [Int.tmod_eq_emod_of_nonneg (by omega)]; omega
                have e1' : (y : Int) % 4 = (y4 : Int) := by omega
                have e2 : IntKind.u8.wrap ((x : Int) + (y4 : Int)) = (z : Int) := by rw [IntKind.wrap_u8]; omega
                have e3 : ((x : Int) + (y4 : Int)) % 256 = (z : Int) := by omega
                have hy4b : y4 < 4 := by omega
                have hy4I : (y4 : Int) < 4 := by omega
                have fz := hA.frozen q
                have ci := hA.cell q hlt2
                rw [if_neg (Nat.lt_irrefl q)] at ci
                have hset := hA.set q ((z : Nat) : Int)
                have hm1 := set_far (c := fb) hm (by omega) q (.int .u8 (z : Int))
                have fz2 := frozen_of hm1 y4
                have ci2 : (wr.setCell ⟨fb, q, none⟩ (.int .u8 (z : Int))).cell? ⟨fb + 1, y4, none⟩ = some (.bool (metB l y4 q)) := by
                  rw [cell_of hm1]
                  rcases (show y4 = 0 ∨ y4 = 1 ∨ y4 = 2 ∨ y4 = 3 by omega) with e | e | e | e <;> subst e <;> rfl
                have hkk : Keep noBlock w1 ((wr.setCell ⟨fb, q, none⟩ (.int .u8 (z : Int))).setCell ⟨fb + 1, y4, none⟩ (.bool true)) := (hK.setCell (p := ⟨fb, q, none⟩) (fun h => by dsimp only at h; have := HFB.out; omega) _).setCell (p := ⟨fb + 1, y4, none⟩) (fun h => by dsimp only at h; have := HFB.out; omega) _
                have hks : Keep (fun k => k = fb + 1) (wr.setCell ⟨fb, q, none⟩ (.int .u8 (z : Int))) ((wr.setCell ⟨fb, q, none⟩ (.int .u8 (z : Int))).setCell ⟨fb + 1, y4, none⟩ (.bool true)) := (Keep.refl (fun k => k = fb + 1) _).setCell (p := ⟨fb + 1, y4, none⟩) (fun _ => rfl) _
                have hmet : ((wr.setCell ⟨fb, q, none⟩ (.int .u8 (z : Int))).setCell ⟨fb + 1, y4, none⟩ (.bool true)).heap[fb + 1]? = some (.cells #[.bool (metB l 0 (q + 1)), .bool (metB l 1 (q + 1)), .bool (metB l 2 (q + 1)), .bool (metB l 3 (q + 1))] 31 (0, 0)) := by
                  rw [set_obj hm1 y4 (.bool true)]
                  have hu : ∀ t, metB l t (q + 1) = (metB l t q || decide (y4 = t)) := fun t => by
                    show (metB l t q || decide (l[q]?.getD 0 % 4 = t)) = _
                    rw [← hy, ← hy4]
                  rw [hu 0, hu 1, hu 2, hu 3]
                  rcases (show y4 = 0 ∨ y4 = 1 ∨ y4 = 2 ∨ y4 = 3 by omega) with e | e | e | e <;> rw [e] <;> simp
                have HE := hid (show IsA ((wr.setCell ⟨fb, q, none⟩ (.int .u8 (z : Int))).setCell ⟨fb + 1, y4, none⟩ (.bool true)) fb 5 .u8 L (fun j => if j < q + 1 then (((fourL x l)[j]?.getD 0 : Nat) : Int) else 0) ∧ ((wr.setCell ⟨fb, q, none⟩ (.int .u8 (z : Int))).setCell ⟨fb + 1, y4, none⟩ (.bool true)).heap[fb + 1]? = some (.cells #[.bool (metB l 0 (q + 1)), .bool (metB l 1 (q + 1)), .bool (metB l 2 (q + 1)), .bool (metB l 3 (q + 1))] 31 (0, 0)) ∧ Keep noBlock w1 ((wr.setCell ⟨fb, q, none⟩ (.int .u8 (z : Int))).setCell ⟨fb + 1, y4, none⟩ (.bool true)) from by
                  refine ⟨(hset.keep hks (by omega)).congr (fun j _ => ?_), hmet, hkk⟩
                  by_cases e : j = q
                  · subst e; rw [if_pos rfl, if_pos (by omega), hfour]
                  · rw [if_neg e]
                    by_cases hj : j < q
                    · rw [if_pos hj, if_pos (by omega)]
                    · rw [if_neg hj, if_neg (by omega)])
                clear hA hm hK hqx hylt hfour hy hy4 hz hset hm1 hkk hks hmet HC
                go_wp2_with fail
                refine ⟨⟨q + 1, by go_num, by omega, HE.out⟩, ?_⟩
                simp [intOf]; omega
              · have hltI2 : ¬ (q : Int) < (L : Int) := by omega
                obtain rfl : q = L := by omega
                obtain ⟨hA, hm, hK⟩ := HC.out
                have hlq := HL.out
                have hBf : Bytes wr (some ⟨fb, 0, none⟩) q fb 0 (fourL x l) := by
                  refine ⟨.inl rfl, (fun h => by cases h), fun j hj => ?_, fourL_lt x l, by rw [fourL_len, ← hlq]; exact Nat.le_refl _, by rw [fourL_len, ← hlq]; omega⟩
                  rw [fourL_len, ← hlq] at hj
                  rw [Nat.zero_add, hA.cell j hj, if_pos hj]
                have hwr2 := writeL_any _ _ _ _ (fourL x l) none 0 0 0 [] wr ((HH.out.1.keep HK1.out).keep hK) hBf (bytes_none _) (by rw [fourL_len, ← hlq]; omega) (by simp)
                rw [fourL_len, ← hlq, show ([] : List Nat).length = 0 from rfl] at hwr2
                have HWr2 := hid hwr2
                have HM := hid (And.intro hm hK)
                clear hA hm hK hBf hwr2 HC hlq
                go_wp2_with fail
                refine HWr2.out.mono ?_
                rintro e w3 ⟨hk3, S2, nx2, sa2, sn2, sc2, sg2, so2, na2, nn2, nc2, ng2, no2, hSh2, rfl, hsn2, hnn2, hBS2, hBN2⟩
                have hm3 := hk3.obj HM.out.1 (fun h => h)
                have hfew : metB l 0 q = true → metB l 1 q = true → sn2 < q := fun h0 h1 => by
                  have := four_told (x := x) hSh2 (by rw [← HL.out]; exact h0) (by rw [← HL.out]; exact h1) (by rw [← HL.out]; omega) (by rw [← HL.out]; omega)
                  rw [hsn2, HL.out]; exact this
                have hsb : (sn2 : Int) ≤ 30000 := by have := hSh2.len; rw [fourL_len, ← HL.out] at this; omega
                have HK3 := hid ((HK1.out.trans' HM.out.2).trans' hk3)
                have HWk := hid (HW.out _ HK3.out)
                generalize metB l 0 q = m0 at hm3 hfew
                generalize metB l 1 q = m1 at hm3 hfew
                generalize metB l 2 q = m2 at hm3
                generalize metB l 3 q = m3 at hm3
                have d0 : w3.cell? ⟨fb + 1, 0, none⟩ = some (.bool m0) := cell_of hm3 0
                have d1 : w3.cell? ⟨fb + 1, 1, none⟩ = some (.bool m1) := cell_of hm3 1
                have d2 : w3.cell? ⟨fb + 1, 2, none⟩ = some (.bool m2) := cell_of hm3 2
                have d3 : w3.cell? ⟨fb + 1, 3, none⟩ = some (.bool m3) := cell_of hm3 3
                clear hk3 hSh2 hsn2 hnn2 hBS2 hBN2 hm3 HWr2
                obtain ⟨bb, hbb⟩ : ∃ bb, (m0 && m1 && m2 && m3) = bb := ⟨_, rfl⟩
                have heq := fun W => eq31 m0 m1 m2 m3 W
                rw [hbb] at heq
                cases bb with
                | true =>
                  have hshI : (sn2 : Int) < (q : Int) := by
                    have h3 := (Bool.and_eq_true_iff.1 hbb).1
                    have h2 := (Bool.and_eq_true_iff.1 h3).1
                    have h1 := Bool.and_eq_true_iff.1 h2
                    have := hfew h1.1 h1.2
                    omega
                  clear hfew hbb
                  go_wp2_with fail
                  refine HWk.out.mono ?_
                  rintro e w4 ⟨rfl, hk4⟩
                  have HK4 := hid (HK3.out.trans' hk4)
                  clear hk4
                  go_wp2_with fail
                  go_ret
                  exact ⟨rfl, HK4.out⟩
                | false =>
                  clear hfew hbb
                  go_wp2_with fail
                  refine HWk.out.mono ?_
                  rintro e w4 ⟨rfl, hk4⟩
                  have HK4 := hid (HK3.out.trans' hk4)
                  clear hk4
                  go_wp2_with fail
                  go_ret
                  exact ⟨rfl, HK4.out⟩
      · have h4I : ¬ (4 : Int) ≤ (i : Int) := by omega
        clear h4
        by_cases hsm : L < 501
        · have hsmI : (L : Int) < 501 := by omega
          have HWk := hid (HW.out _ HK1.out)
          go_wp2_with fail
          refine HWk.out.mono ?_
          rintro e w2 ⟨rfl, hk2⟩
          have HK2 := hid (HK1.out.trans' hk2)
          clear hk2
          go_wp2_with fail
          go_ret
          exact ⟨rfl, HK2.out⟩
        · have hsmI : ¬ (L : Int) < 501 := by omega
          by_cases hbg : 20000 < L
          · have hbgI : (20000 : Int) < (L : Int) := by omega
            have HWk := hid (HW.out _ HK1.out)
            go_wp2_with fail
            refine HWk.out.mono ?_
            rintro e w2 ⟨rfl, hk2⟩
            have HK2 := hid (HK1.out.trans' hk2)
            clear hk2
            go_wp2_with fail
            go_ret
            exact ⟨rfl, HK2.out⟩
          · have hbgI : ¬ (20000 : Int) < (L : Int) := by omega
            have hmk6 : ∀ W : World, (Instr.makeSlice 22 (.int .i64 (L : Int)) (.int .i64 (L : Int))).run Tryz.prog W = .ok (.slice (some ⟨W.heap.size, 0, none⟩) L L) (W.alloc (.cells (madeCells #[.int .u8 0] L) 5)) := fun W =>
              run_make_row' 22 5 (.int .u8 0) 1 Tryz.underlying22 C5.info5' rfl .i64 .i64 L (by omega) (by omega) W
            obtain ⟨fb, hfb⟩ : ∃ fb, fb = w1.heap.size := ⟨_, rfl⟩
            have hkf : Keep noBlock w1 ((w1.alloc (.cells (madeCells #[.int .u8 0] L) 5)).alloc (.cells #[.bool false, .bool false, .bool false, .bool false] 31)) := ((Keep.refl noBlock w1).alloc _).alloc _
            have o1 := World.alloc_heap_new w1 (.cells (madeCells #[.int .u8 0] L) 5)
            have o2 := World.alloc_heap_new (w1.alloc (.cells (madeCells #[.int .u8 0] L) 5)) (.cells #[.bool false, .bool false, .bool false, .bool false] 31)
            simp only [World.size_alloc] at o2
            have hAf : IsA ((w1.alloc (.cells (madeCells #[.int .u8 0] L) 5)).alloc (.cells #[.bool false, .bool false, .bool false, .bool false] 31)) fb 5 .u8 L (fun j => if j < 0 then (((fourL x l)[j]?.getD 0 : Nat) : Int) else 0) := by
              rw [hfb]
              refine ⟨_, alloc_far o1 _, by simp [size_madeCells], fun j hj => ?_⟩
              simp [madeCells, hj, Nat.mod_one]
            rw [← hfb] at o2
            have H5 := hid (And.intro hAf (And.intro o2 hkf))
            have HFB := hid hfb
            clear hAf o1 o2 hkf
            go_wp2_with fail
            rw [← hfb]
            generalize (w1.alloc (.cells (madeCells #[.int .u8 0] L) 5)).alloc (.cells #[.bool false, .bool false, .bool false, .bool false] 31) = W5 at H5 ⊢
            clear hfb hmk6
            go_loopw [65] (fun v65 wr => ∃ i : Nat, v65 = .int .i64 (i : Int) ∧ i ≤ L ∧ Hid (IsA wr fb 5 .u8 L (fun j => if j < i then (((fourL x l)[j]?.getD 0 : Nat) : Int) else 0) ∧ wr.heap[fb + 1]? = some (.cells #[.bool (metB l 0 i), .bool (metB l 1 i), .bool (metB l 2 i), .bool (metB l 3 i)] 31 (0, 0)) ∧ Keep noBlock w1 wr)) (fun v65 _ => L - (intOf v65).toNat)
            case atStart => exact ⟨0, rfl, Nat.zero_le _, H5.out⟩
            case round =>
              clear H5
              obtain ⟨q, rfl, hq, HC⟩ := hrel
              by_cases hlt2 : q < L
              · have hltI2 : (q : Int) < (L : Int) := by omega
                obtain ⟨hA, hm, hK⟩ := HC.out
                have hqx : q < l.length := by rw [← HL.out]; exact hlt2
                obtain rfl := HH.out.2.1.here hqx
                have c1 := ((HH.out.2.1.keep HK1.out (fun _ h => h)).keep hK (fun _ h => h)).cells q hqx
                have hylt := HH.out.2.1.lt q
                have hfour := fourL_at x l q hqx
                obtain ⟨y, hy⟩ : ∃ y, y = l[q]?.getD 0 := ⟨_, rfl⟩
                rw [← hy] at c1 hylt hfour
                obtain ⟨y4, hy4⟩ : ∃ y4, y4 = y % 4 := ⟨_, rfl⟩
                obtain ⟨z, hz⟩ : ∃ z, z = (x + y4) % 256 := ⟨_, rfl⟩
                rw [← hy4, ← hz] at hfour
                have e1 : Int.tmod (y : Int) 4 = (y4 : Int) := by rw [Int.tmod_eq_emod_of_nonneg (by omega)]; omega
                have e1' : (y : Int) % 4 = (y4 : Int) := by omega
                have e2 : IntKind.u8.wrap ((x : Int) + (y4 : Int)) = (z : Int) := by rw [IntKind.wrap_u8]; omega
                have e3 : ((x : Int) + (y4 : Int)) % 256 = (z : Int) := by omega
                have hy4b : y4 < 4 := by omega
                have hy4I : (y4 : Int) < 4 := by omega
                have fz := hA.frozen q
                have ci := hA.cell q hlt2
                rw [if_neg (Nat.lt_irrefl q)] at ci
                have hset := hA.set q ((z : Nat) : Int)
                have hm1 := set_far (c := fb) hm (by omega) q (.int .u8 (z : Int))
                have fz2 := frozen_of hm1 y4
                have ci2 : (wr.setCell ⟨fb, q, none⟩ (.int .u8 (z : Int))).cell? ⟨fb + 1, y4, none⟩ = some (.bool (metB l y4 q)) := by
                  rw [cell_of hm1]
                  rcases (show y4 = 0 ∨ y4 = 1 ∨ y4 = 2 ∨ y4 = 3 by omega) with e | e | e | e <;> subst e <;> rfl
                have hkk : Keep noBlock w1 ((wr.setCell ⟨fb, q, none⟩ (.int .u8 (z : Int))).setCell ⟨fb + 1, y4, none⟩ (.bool true)) := (hK.setCell (p := ⟨fb, q, none⟩) (fun h => by dsimp only at h; have := HFB.out; omega) _).setCell (p := ⟨fb + 1, y4, none⟩) (fun h => by dsimp only at h; have := HFB.out; omega) _
                have hks : Keep (fun k => k = fb + 1) (wr.setCell ⟨fb, q, none⟩ (.int .u8 (z : Int))) ((wr.setCell ⟨fb, q, none⟩ (.int .u8 (z : Int))).setCell ⟨fb + 1, y4, none⟩ (.bool true)) := (Keep.refl (fun k => k = fb + 1) _).setCell (p := ⟨fb + 1, y4, none⟩) (fun _ => rfl) _
                have hmet : ((wr.setCell ⟨fb, q, none⟩ (.int .u8 (z : Int))).setCell ⟨fb + 1, y4, none⟩ (.bool true)).heap[fb + 1]? = some (.cells #[.bool (metB l 0 (q + 1)), .bool (metB l 1 (q + 1)), .bool (metB l 2 (q + 1)), .bool (metB l 3 (q + 1))] 31 (0, 0)) := by
                  rw [set_obj hm1 y4 (.bool true)]
                  have hu : ∀ t, metB l t (q + 1) = (metB l t q || decide (y4 = t)) := fun t => by
                    show (metB l t q || decide (l[q]?.getD 0 % 4 = t)) = _
                    rw [← hy, ← hy4]
                  rw [hu 0, hu 1, hu 2, hu 3]
                  rcases (show y4 = 0 ∨ y4 = 1 ∨ y4 = 2 ∨ y4 = 3 by omega) with e | e | e | e <;> rw [e] <;> simp
                have HE := hid (show IsA ((wr.setCell ⟨fb, q, none⟩ (.int .u8 (z : Int))).setCell ⟨fb + 1, y4, none⟩ (.bool true)) fb 5 .u8 L (fun j => if j < q + 1 then (((fourL x l)[j]?.getD 0 : Nat) : Int) else 0) ∧ ((wr.setCell ⟨fb, q, none⟩ (.int .u8 (z : Int))).setCell ⟨fb + 1, y4, none⟩ (.bool true)).heap[fb + 1]? = some (.cells #[.bool (metB l 0 (q + 1)), .bool (metB l 1 (q + 1)), .bool (metB l 2 (q + 1)), .bool (metB l 3 (q + 1))] 31 (0, 0)) ∧ Keep noBlock w1 ((wr.setCell ⟨fb, q, none⟩ (.int .u8 (z : Int))).setCell ⟨fb + 1, y4, none⟩ (.bool true)) from by
                  refine ⟨(hset.keep hks (by omega)).congr (fun j _ => ?_), hmet, hkk⟩
                  by_cases e : j = q
                  · subst e; rw [if_pos rfl, if_pos (by omega), hfour]
                  · rw [if_neg e]
                    by_cases hj : j < q
                    · rw [if_pos hj, if_pos (by omega)]
                    · rw [if_neg hj, if_neg (by omega)])
                clear hA hm hK hqx hylt hfour hy hy4 hz hset hm1 hkk hks hmet HC
                go_wp2_with fail
                refine ⟨⟨q + 1, by go_num, by omega, HE.out⟩, ?_⟩
                simp [intOf]; omega
              · have hltI2 : ¬ (q : Int) < (L : Int) := by omega
                obtain rfl : q = L := by omega
                obtain ⟨hA, hm, hK⟩ := HC.out
                have hlq := HL.out
                have hBf : Bytes wr (some ⟨fb, 0, none⟩) q fb 0 (fourL x l) := by
                  refine ⟨.inl rfl, (fun h => by cases h), fun j hj => ?_, fourL_lt x l, by rw [fourL_len, ← hlq]; exact Nat.le_refl _, by rw [fourL_len, ← hlq]; omega⟩
                  rw [fourL_len, ← hlq] at hj
                  rw [Nat.zero_add, hA.cell j hj, if_pos hj]
                have hwr2 := writeL_any _ _ _ _ (fourL x l) none 0 0 0 [] wr ((HH.out.1.keep HK1.out).keep hK) hBf (bytes_none _) (by rw [fourL_len, ← hlq]; omega) (by simp)
                rw [fourL_len, ← hlq, show ([] : List Nat).length = 0 from rfl] at hwr2
                have HWr2 := hid hwr2
                have HM := hid (And.intro hm hK)
                clear hA hm hK hBf hwr2 HC hlq
                go_wp2_with fail
                refine HWr2.out.mono ?_
                rintro e w3 ⟨hk3, S2, nx2, sa2, sn2, sc2, sg2, so2, na2, nn2, nc2, ng2, no2, hSh2, rfl, hsn2, hnn2, hBS2, hBN2⟩
                have hm3 := hk3.obj HM.out.1 (fun h => h)
                have hfew : metB l 0 q = true → metB l 1 q = true → sn2 < q := fun h0 h1 => by
                  have := four_told (x := x) hSh2 (by rw [← HL.out]; exact h0) (by rw [← HL.out]; exact h1) (by rw [← HL.out]; omega) (by rw [← HL.out]; omega)
                  rw [hsn2, HL.out]; exact this
                have hsb : (sn2 : Int) ≤ 30000 := by have := hSh2.len; rw [fourL_len, ← HL.out] at this; omega
                have HK3 := hid ((HK1.out.trans' HM.out.2).trans' hk3)
                have HWk := hid (HW.out _ HK3.out)
                generalize metB l 0 q = m0 at hm3 hfew
                generalize metB l 1 q = m1 at hm3 hfew
                generalize metB l 2 q = m2 at hm3
                generalize metB l 3 q = m3 at hm3
                have d0 : w3.cell? ⟨fb + 1, 0, none⟩ = some (.bool m0) := cell_of hm3 0
                have d1 : w3.cell? ⟨fb + 1, 1, none⟩ = some (.bool m1) := cell_of hm3 1
                have d2 : w3.cell? ⟨fb + 1, 2, none⟩ = some (.bool m2) := cell_of hm3 2
                have d3 : w3.cell? ⟨fb + 1, 3, none⟩ = some (.bool m3) := cell_of hm3 3
                clear hk3 hSh2 hsn2 hnn2 hBS2 hBN2 hm3 HWr2
                obtain ⟨bb, hbb⟩ : ∃ bb, (m0 && m1 && m2 && m3) = bb := ⟨_, rfl⟩
                have heq := fun W => eq31 m0 m1 m2 m3 W
                rw [hbb] at heq
                cases bb with
                | true =>
                  have hshI : (sn2 : Int) < (q : Int) := by
                    have h3 := (Bool.and_eq_true_iff.1 hbb).1
                    have h2 := (Bool.and_eq_true_iff.1 h3).1
                    have h1 := Bool.and_eq_true_iff.1 h2
                    have := hfew h1.1 h1.2
                    omega
                  clear hfew hbb
                  go_wp2_with fail
                  refine HWk.out.mono ?_
                  rintro e w4 ⟨rfl, hk4⟩
                  have HK4 := hid (HK3.out.trans' hk4)
                  clear hk4
                  go_wp2_with fail
                  go_ret
                  exact ⟨rfl, HK4.out⟩
                | false =>
                  clear hfew hbb
                  go_wp2_with fail
                  refine HWk.out.mono ?_
                  rintro e w4 ⟨rfl, hk4⟩
                  have HK4 := hid (HK3.out.trans' hk4)
                  clear hk4
                  go_wp2_with fail
                  go_ret
                  exact ⟨rfl, HK4.out⟩
end Go.Proofs.YtcoahkmiebeeeaaGreatDoor

namespace Go.Proofs.YtcoahkmiebeeeaaGreatDoor
theorem in8 {n : Int} (h : (Lit.int .u8 n).wf = true) : 0 ≤ n ∧ n < 256 := by
  have h := Bool.and_eq_true_iff.1 h
  have h1 := of_decide_eq_true h.1
  have h2 := of_decide_eq_true h.2
  have e1 : IntKind.u8.min = 0 := rfl
  have e2 : IntKind.u8.max = 255 := rfl
  rw [e1] at h1
  rw [e2] at h2
  omega
end Go.Proofs.YtcoahkmiebeeeaaGreatDoor
