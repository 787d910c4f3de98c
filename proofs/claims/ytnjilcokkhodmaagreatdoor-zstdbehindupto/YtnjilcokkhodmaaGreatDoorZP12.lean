/-
  Counts that were read make a table; rows of int16 of one's own.
  The document's Read of a table's description, of any bytes.
  Read of a table's description, of any bytes.
-/
import Derived.Test.YtnjilcokkhodmaaGreatDoorZP7
import Derived.Test.YtnjilcokkhodmaaGreatDoorZP9
namespace Go.Proofs.YtnjilcokkhodmaaGreatDoor
open Go.RowKit Go.Shelf
set_option linter.unusedVariables false

theorem sumS_app (xs ys : List Int) : ∀ n, n ≤ xs.length → sumS (xs ++ ys) n = sumS xs n := by
  intro n
  induction n with
  | zero => intro _; rfl
  | succ n ih =>
    intro h
    simp only [sumS]
    rw [ih (by omega), List.getElem?_append, if_pos (by omega)]
def Gd (xs : List Int) (s : Int) : Prop := (∀ i : Nat, i < xs.length → -1 ≤ xs[i]?.getD 0 ∧ xs[i]?.getD 0 ≤ 4096) ∧ sumS xs xs.length = s
theorem Gd.push {xs : List Int} {s : Int} (h : Gd xs s) (c : Int) (hc : -1 ≤ c) (hc2 : c ≤ 4096) : Gd (xs ++ [c]) (s + shareN c) := by
 refine ⟨fun i hi => ?_, ?_⟩
 ·rw [List.getElem?_append]
  split
  ·rename_i hj; exact h.1 i hj
  ·rename_i hj
   rw [List.length_append] at hi
   have : i - xs.length = 0 := by simp at hi; omega
   rw [this]; exact ⟨hc, hc2⟩
 ·rw [List.length_append]
  show sumS (xs ++ [c]) xs.length + shareN ((xs ++ [c])[xs.length]?.getD 0) = _
  rw [sumS_app _ _ _ (Nat.le_refl _), h.2, List.getElem?_append, if_neg (by omega), Nat.sub_self]
  rfl
theorem Gd.zeros {xs : List Int} {s : Int} (h : Gd xs s) : ∀ z : Nat, Gd (xs ++ List.replicate z 0) s := by
  intro z
  induction z with
  | zero => simpa using h
  | succ z ih =>
    have := ih.push 0 (by omega) (by omega)
    rw [List.append_assoc, ← List.replicate_succ'] at this
    rw [show s + shareN 0 = s from by rw [(shareN_zero 0).2 rfl]; omega] at this
    exact this
theorem cntF_good {bs : List Nat} {ms S : Nat} (hS : S ≤ 4096) (hms : ms ≤ 255) : ∀ (f R p : Nat) (acc : List Int) (more : Bool) (T : Option (List Int × Nat)), cntF bs ms f R p acc more = some T → Gd acc ((S : Int) - (R : Int)) → R ≤ S → (R = 0 → acc.length ≤ ms + 1 ∧ acc ≠ [] ∧ acc[acc.length - 1]?.getD 0 ≠ 0) → p ≤ 8 * bs.length →
    ∀ xs p', T = some (xs, p') → Gd xs (S : Int) ∧ xs.length ≤ ms + 1 ∧ xs ≠ [] ∧ xs[xs.length - 1]?.getD 0 ≠ 0 ∧ p' ≤ 8 * bs.length ∧ p ≤ p' := by
  intro f
  induction f with
  | zero => intro R p acc more T h; cases h
  | succ f ih =>
    intro R p acc more T h h1 h2 h3 h4 xs p' e
    rcases cntF_cases h with ⟨h5, h6⟩ | h5 | ⟨hR, hl, hm, hp, h5⟩ | ⟨v, p1, hR, hl, hm, hv, h5⟩
    · rw [h6] at e
      cases e
      obtain ⟨a, b, c⟩ := h3 h5
      exact ⟨by rw [h5] at h1; simpa using h1, a, b, c, h4, Nat.le_refl _⟩
    · rw [h5] at e; cases e
    · obtain ⟨a, b, c, d, e1, e2⟩ := ih _ _ _ _ _ h5 (h1.zeros _) h2 (fun e => by omega) (by omega) xs p' e
      exact ⟨a, b, c, d, e1, by omega⟩
    · have hv1 := valR_le hR hv
      have hv2 := valR_far hv
      obtain ⟨c, hc⟩ : ∃ c : Int, c = (v : Int) - 1 := ⟨_, rfl⟩
      rw [← hc] at h5
      have hs0 := shareN_pos c (by omega)
      have hsh : shareN c ≤ (R : Int) := by unfold shareN; split <;> omega
      have hp := h1.push c (by omega) (by omega)
      obtain ⟨a, b, c1, d, e1, e2⟩ := ih _ _ _ _ _ h5 (by rw [show (S : Int) - ((R - (shareN c).toNat : Nat) : Int) = (S : Int) - R + shareN c from by omega]; exact hp) (by omega) (fun e0 => by
        have hne : c ≠ 0 := fun e => by rw [(shareN_zero c).2 e] at e0; simp at e0; omega
        refine ⟨by simp; omega, by simp, ?_⟩
        rw [List.length_append, List.getElem?_append, if_neg (by simp)]
        simpa using hne) hv2.1 xs p' e
      exact ⟨a, b, c1, d, e1, by omega⟩
theorem Cnt.ok {bs : List Nat} {ms l p p' : Nat} {xs : List Int} (h : Cnt bs ms (2 ^ l) p [] false (some (xs, p'))) (hl5 : 5 ≤ l) (hl : l ≤ 12) (hms : ms ≤ 255) (hp : p ≤ 8 * bs.length) : okT xs (l : Int) = true ∧ I16 xs ∧ xs.length ≤ ms + 1 ∧ xs ≠ [] ∧ p' ≤ 8 * bs.length ∧ p ≤ p' := by
 have hS : 2 ^ l ≤ 4096 := Nat.pow_le_pow_right (n := 2) (j := 12) (by omega) hl
 have h0 := Nat.two_pow_pos l
 obtain ⟨f, hf⟩ := h
 obtain ⟨a, b, c, d, e1, e2⟩ := cntF_good (S := 2 ^ l) hS hms f _ _ _ _ _ hf ⟨fun i hi => by simp at hi, by simp [sumS]⟩ (Nat.le_refl _) (fun e => by omega) hp xs p' rfl
 refine ⟨?_, fun i => ?_, b, c, e1, e2⟩
 ·unfold okT
  rw [decide_eq_true_iff]
  refine ⟨by omega, by omega, fun e => c (List.length_eq_zero_iff.1 e), by omega, d, fun i hi => (a.1 i hi).1, ?_⟩
  rw [a.2]; simp
 ·by_cases hi : i < xs.length
  ·have := a.1 i hi; omega
  ·rw [List.getElem?_eq_none (by omega)]; simp

end Go.Proofs.YtnjilcokkhodmaaGreatDoor

namespace Go.Proofs.YtnjilcokkhodmaaGreatDoor
open Go.RowKit Go.Shelf
set_option linter.unusedVariables false

def RdRel (bs : List Nat) (ml ms : Nat) (T : Option (List Int × Nat × Nat)) : Prop :=
 if 8 * bs.length < 4 then T = none else if ml < numAt bs 0 4 + 5 then T = none
 else ∃ T1, Cnt bs ms (2 ^ (numAt bs 0 4 + 5)) 4 [] false T1 ∧ T = T1.map (fun x => (x.1, numAt bs 0 4 + 5, (x.2 + 7) / 8))
theorem RdRel.det {bs : List Nat} {ml ms : Nat} {T T' : Option (List Int × Nat × Nat)} (h : RdRel bs ml ms T) (h' : RdRel bs ml ms T') : T = T' := by
 unfold RdRel at h h'
 split at h
 ·rename_i c
  rw [if_pos c] at h'; rw [h, h']
 rename_i c
 rw [if_neg c] at h'
 split at h
 ·rename_i c
  rw [if_pos c] at h'; rw [h, h']
 rename_i c
 rw [if_neg c] at h'
 obtain ⟨a, ha, rfl⟩ := h
 obtain ⟨b, hb, rfl⟩ := h'
 rw [ha.det hb]
theorem RdRel.ok {bs : List Nat} {ml ms : Nat} {xs : List Int} {l u : Nat} (h : RdRel bs ml ms (some (xs, l, u))) (hml : ml ≤ 12) (hms : ms ≤ 255) : okT xs (l : Int) = true ∧ I16 xs ∧ xs.length ≤ ms + 1 ∧ xs ≠ [] ∧ u ≤ bs.length ∧ l ≤ ml ∧ 5 ≤ l ∧ 1 ≤ u := by
  unfold RdRel at h
  split at h
  · cases h
  split at h
  · cases h
  obtain ⟨T1, h1, h2⟩ := h
  cases T1 with
  | none => cases h2
  | some x =>
    obtain ⟨ys, p⟩ := x
    simp only [Option.map_some, Option.some.injEq, Prod.mk.injEq] at h2
    obtain ⟨rfl, rfl, rfl⟩ := h2
    obtain ⟨a, b, c, d, e, f⟩ := h1.ok (by omega) (by omega) hms (by omega)
    exact ⟨a, b, c, d, by omega, by omega, by omega, by omega⟩
def RdPost (T : Option (List Int × Nat × Nat)) (w : World) (e : Ending) (w' : World) : Prop :=
 Keep noBlock w w' ∧ match T with
  | none => ∃ E : Int, E ≠ 0 ∧ e = .returned (.tuple #[.slice none 0 0, .int .i64 0, .int .i64 0, .int .i64 E])
  | some (xs, l, u) => ∃ sa sc gb, e = .returned (.tuple #[.slice sa xs.length sc, .int .i64 (l : Int), .int .i64 (u : Int), .int .i64 0]) ∧ RowI w' .i16 sa sc gb 0 xs ∧ w.heap.size ≤ gb
theorem rd_none {w w' : World} {E : Int} (hE : E ≠ 0) (hk : Keep noBlock w w') : RdPost none w (.returned (.tuple #[.slice none 0 0, .int .i64 0, .int .i64 0, .int .i64 E])) w' := ⟨hk, E, hE, rfl⟩

end Go.Proofs.YtnjilcokkhodmaaGreatDoor

namespace Go.Proofs.YtnjilcokkhodmaaGreatDoor
open Go.RowKit Go.Shelf
set_option linter.unusedVariables false

theorem rd_some {w w' : World} {xs : List Int} {l u : Nat} {sa : Option Addr} {sc gb : Nat} (hk : Keep noBlock w w') (hr : RowI w' .i16 sa sc gb 0 xs) (hg : w.heap.size ≤ gb) : RdPost (some (xs, l, u)) w (.returned (.tuple #[.slice sa xs.length sc, .int .i64 (l : Int), .int .i64 (u : Int), .int .i64 0])) w' := ⟨hk, sa, sc, gb, rfl, hr, hg⟩

section
attribute [local go_sem] sliceSem_eq minSem_eq
set_option maxRecDepth 100000 in
set_option maxHeartbeats 2000000 in
theorem read_all2 (a : Option Addr) (cap : Nat) (bs : List Nat) (n0 ml ms : Nat) (w : World) (hsrc : Src w (.slice a bs.length cap) bs) (hlt : ∀ j : Nat, bs[j]?.getD 0 < 256) (hn0 : bs.length = min n0 481) (hle : n0 ≤ cap) (hnb : n0 < 1099511627776) (hml5 : 5 ≤ ml) (hml : ml ≤ 12) (hms : ms ≤ 255) :
    Calls Tryz.prog 98 #[.slice a n0 cap, .int .i64 (ml : Int), .int .i64 (ms : Int)] w fun e w' => ∃ T, RdRel bs ml ms T ∧ RdPost T w e w' := by
  obtain ⟨k, hk⟩ : ∃ k, k = bs.length := ⟨_, rfl⟩
  rw [← hk] at hn0 hsrc
  have hbl : k ≤ 481 := by omega
  have hmin := fun W => minSem_run .i64 #[3, 3] 3 (n0 : Int) 481 (k : Int) (by omega) W
  have hsl := fun W => run_high (t := 22) Tryz.underlying22 info5 a n0 cap k (by omega) W
  have HN := (show Hid (∀ W, Src W (.slice a k cap) bs → _) from fun W hs => new_any (.slice a k cap) bs (by omega) hlt W hs)
  have HS := (show Hid (Src w (.slice a k cap) bs) from hsrc)
  have HRel := (show Hid (∀ T, RdRel bs ml ms T ↔ (if 8 * bs.length < 4 then T = none else if ml < numAt bs 0 4 + 5 then T = none else ∃ T1, Cnt bs ms (2 ^ (numAt bs 0 4 + 5)) 4 [] false T1 ∧ T = T1.map (fun x => (x.1, numAt bs 0 4 + 5, (x.2 + 7) / 8)))) from fun T => Iff.rfl)
  have hd : decide (5 ≤ (ml : Int) ∧ (ml : Int) ≤ 12) = true := decide_eq_true ⟨by omega, by omega⟩
  have HIL := (show Hid (∀ w : World, Calls Tryz.prog 112 #[.int .i64 (ml : Int)] w fun e w' => e = .returned (.bool true) ∧ w' = w) from fun w => by have := isLog_any (ml : Int) w; rwa [hd] at this)
  have hm0 : ¬ (ms : Int) < 0 := by omega
  have hm2 : ¬ (256 : Int) ≤ (ms : Int) := by omega
  have hkI : (k : Int) ≤ 481 := by omega
  have HKB := (show Hid (k = bs.length ∧ k ≤ 481) from ⟨hk, by omega⟩)
  have hmlI : (ml : Int) ≤ 12 := by omega

  clear hsrc hd hk hbl hlt hn0 hnb
  go_enter Tryz.func98, Tryz.ntmps98
  go_wp2_with (go_at_call 112; refine (HIL.out _).mono ?_; rintro e w' ⟨rfl, rfl⟩)
  refine (HN.out _ HS.out).mono ?_
  rintro e w1 ⟨rb, gg, rfl, hrb, hgg, hI1, hK1⟩
  have HI1 := (show Hid (IsR w1 rb gg bs 0 ∧ Keep noBlock w' w1 ∧ w'.heap.size ≤ rb ∧ w'.heap.size ≤ gg) from ⟨hI1, hK1, hrb, hgg⟩)
  clear hI1 hK1 hrb hgg HN HS hmin hsl HIL
  by_cases h4 : 8 * bs.length < 4
  · have HB := (show Hid (Calls Tryz.prog 114 #[.pointer (some ⟨rb, 0, none⟩), .int .i64 4] w1 _) from bits_few_i rb gg bs 0 4 4 rfl (by omega) w1 HI1.out.1 (by omega))
    have HD := (show Hid (RdRel bs ml ms none) from (HRel.out _).2 (by rw [if_pos h4]))
    go_wp2_with fail
    refine HB.out.mono ?_
    rintro e w2 ⟨rfl, q2, rfl⟩
    go_wp2_with fail
    exact bodyPost_ret (v := .tuple #[.slice none 0 0, .int .i64 0, .int .i64 0, .int .i64 10]) (by simp [results, Tryz.results98, go_sem]) rfl ⟨none, HD.out, rd_none (by decide) (HI1.out.2.1.trans (keep_drewN _ _) (fun _ _ h => h))⟩
  obtain ⟨x, hx⟩ : ∃ x, numAt bs 0 4 = x := ⟨_, rfl⟩
  have hx16 := numAt_lt bs 0 4
  rw [hx] at hx16
  have HB := (show Hid (Calls Tryz.prog 114 #[.pointer (some ⟨rb, 0, none⟩), .int .i64 4] w1 _) from bits_take_i rb gg bs 0 4 x 4 rfl (by omega) w1 HI1.out.1 (by omega) hx)
  have hxI : (x : Int) < 16 := by omega
  obtain ⟨l, hl⟩ : ∃ l, l = x + 5 := ⟨_, rfl⟩
  have hlI : 5 + (x : Int) = (l : Int) := by omega
  have hl20 : (l : Int) ≤ 20 := by omega
  have HRel2 := (show Hid (∀ T, RdRel bs ml ms T ↔ (if ml < l then T = none else ∃ T1, Cnt bs ms (2 ^ l) 4 [] false T1 ∧ T = T1.map (fun x => (x.1, l, (x.2 + 7) / 8)))) from fun T => by
    rw [HRel.out T, if_neg h4, hx, ← hl])
  clear hx hx16 hl h4 HRel
  go_wp2_with fail
  refine HB.out.mono ?_
  rintro e w2 ⟨rfl, hI2, hK2⟩
  rw [Nat.zero_add] at hI2
  have HI2 := (show Hid (IsR w2 rb gg bs 4 ∧ Keep noBlock w' w2 ∧ rb < w2.heap.size ∧ w'.heap.size ≤ rb) from ⟨hI2, HI1.out.2.1.trans hK2 (fun j hj e => by have := HI1.out.2.2.1; omega), by obtain ⟨_, _, _, ho⟩ := hI2.obj; exact obj_lt ho, HI1.out.2.2.1⟩)
  clear hI2 hK2 HI1 HB
  by_cases hlm : ml < l
  · have hlmI : (ml : Int) < (l : Int) := by omega
    have HD := (show Hid (RdRel bs ml ms none) from (HRel2.out _).2 (by rw [if_pos hlm]))
    go_wp2_with fail
    exact bodyPost_ret (v := .tuple #[.slice none 0 0, .int .i64 0, .int .i64 0, .int .i64 11]) (by simp [results, Tryz.results98, go_sem]) rfl ⟨none, HD.out, rd_none (by decide) HI2.out.2.1⟩
  have hlmI : ¬ (ml : Int) < (l : Int) := by omega
  have HRel3 := (show Hid (∀ T1, Cnt bs ms (2 ^ l) 4 [] false T1 → RdRel bs ml ms (T1.map (fun x => (x.1, l, (x.2 + 7) / 8)))) from fun T1 h => (HRel2.out _).2 (by rw [if_neg hlm]; exact ⟨T1, h, rfl⟩))
  have hlb : (l : Int) ≤ 12 := by omega
  have hpl : (2 : Int) ^ l = ((2 ^ l : Nat) : Int) := by simp
  have hS : 2 ^ l ≤ 4096 := Nat.pow_le_pow_right (n := 2) (j := 12) (by omega) (by omega)
  obtain ⟨R0, hR0⟩ : ∃ R0, R0 = 2 ^ l := ⟨_, rfl⟩
  rw [← hR0] at hpl hS HRel3
  have hR0I : (R0 : Int) ≤ 4096 := by omega
  have HRC := (show Hid (Calls Tryz.prog 115 #[.pointer (some ⟨rb, 0, none⟩), .int .i64 (R0 : Int), .int .i64 (ms : Int)] w2 _) from readCounts_all rb gg bs 4 ms R0 w2 HI2.out.1 HI2.out.2.2.1 hms (by omega))
  have HL12 := (show Hid (R0 = 2 ^ l ∧ 5 ≤ l ∧ l ≤ 12) from ⟨hR0, by omega, by omega⟩)
  clear HRel2 hR0 hlm
  go_wp2_with fail
  refine HRC.out.mono ?_
  rintro e w3 ⟨T1, hT1, hK3, hm⟩
  have hK03 : Keep noBlock w' w3 := HI2.out.2.1.trans hK3 (fun j hj e => by have := HI2.out.2.2.2; omega)
  cases T1 with
  | none =>
    obtain ⟨E, hE, rfl⟩ := hm
    have HD := (show Hid (RdRel bs ml ms none ∧ Keep noBlock w' w3 ∧ E ≠ 0) from ⟨HRel3.out none hT1, hK03, hE⟩)
    clear hT1 hK03 hK3
    go_wp2_with fail
    exact bodyPost_ret (v := .tuple #[.slice none 0 0, .int .i64 0, .int .i64 0, .int .i64 E]) (by simp [results, Tryz.results98, go_sem]) rfl ⟨none, HD.out.1, rd_none HD.out.2.2 HD.out.2.1⟩
  | some xp =>
    obtain ⟨xs, E⟩ := xp
    obtain ⟨gc, cap', rfl, hgc, hRow, hI3⟩ := hm
    have hEb : E ≤ 8 * bs.length := hI3.in_
    obtain ⟨y, hy⟩ : ∃ y, bs.length * 8 = E + y := ⟨bs.length * 8 - E, by omega⟩
    obtain ⟨u, hu⟩ : ∃ u, u = (E + 7) / 8 := ⟨_, rfl⟩
    obtain ⟨z, hz⟩ : ∃ z, z = y / 8 := ⟨_, rfl⟩
    have hzI : (y : Int) / 8 = (z : Int) := by omega
    have hzT : (y : Int).tdiv 8 = (z : Int) := by rw [Int.tdiv_eq_ediv_of_nonneg (by omega)]; exact hzI
    have hkb := HKB.out
    have huI : (k : Int) - (z : Int) = (u : Int) := by omega
    have hyI : (y : Int) ≤ 4810 := by omega
    have HD := (show Hid (RdRel bs ml ms (some (xs, l, u)) ∧ Keep noBlock w' w3 ∧ RowI w3 .i16 (some ⟨gc, 0, none⟩) cap' gc 0 xs ∧ w'.heap.size ≤ gc) from ⟨by rw [hu]; exact HRel3.out (some (xs, E)) hT1, hK03, hRow, by have := HI2.out.2.1.size; omega⟩)
    have HLf := (show Hid (Calls Tryz.prog 116 _ w3 _) from left_i rb gg bs E y hy w3 hI3)
    obtain ⟨xl, hxl⟩ : ∃ xl, xl = xs.length := ⟨_, rfl⟩
    rw [← hxl]
    have HXL := (show Hid (xl = xs.length) from hxl)
    clear hT1 hK03 hK3 hRow hI3 hgc hy hu hz hEb hkb hxl
    go_wp2_with fail
    refine HLf.out.mono ?_
    rintro e w4 ⟨rfl, nq, rfl⟩
    go_wp2_with fail
    exact bodyPost_ret (v := .tuple #[.slice (some ⟨gc, 0, none⟩) xl cap', .int .i64 (l : Int), .int .i64 (u : Int), .int .i64 0]) (by simp [results, Tryz.results98, go_sem]) rfl ⟨_, HD.out.1, by rw [HXL.out]; exact rd_some (HD.out.2.1.trans (keep_drewN _ _) (fun _ _ h => h)) (HD.out.2.2.1.keep (keep_drewN _ _) (fun _ h => h)) HD.out.2.2.2⟩
theorem read_all (a : Option Addr) (cap : Nat) (bs : List Nat) (ml ms : Nat) (w : World) (hsrc : Src w (.slice a bs.length cap) bs) (hlt : ∀ j : Nat, bs[j]?.getD 0 < 256) (hle : bs.length ≤ cap) (hbl : bs.length ≤ 400) (hml5 : 5 ≤ ml) (hml : ml ≤ 12) (hms : ms ≤ 255) :
  Calls Tryz.prog 98 #[.slice a bs.length cap, .int .i64 (ml : Int), .int .i64 (ms : Int)] w fun e w' => ∃ T, RdRel bs ml ms T ∧ RdPost T w e w' :=
 read_all2 a cap bs bs.length ml ms w hsrc hlt (by omega) hle (by omega) hml5 hml hms
end

end Go.Proofs.YtnjilcokkhodmaaGreatDoor
