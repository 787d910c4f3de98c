/-
  behind; a copy of bytes.
  The last weight, as the document finds it.
  The document's Bits.
  The document's whole.
  Read of a description: all counts.
  Read of a description, as Write gives it, whatever stands behind.
  readCount of any bits.
-/
import Derived.Test.YtcoahkmiebeeeaaGreatDoorLitP4
import Derived.Test.YtcoahkmiebeeeaaGreatDoorLitP5
import Derived.Test.YtcoahkmiebeeeaaGreatDoorLitP6
import Derived.Test.YtcoahkmiebeeeaaGreatDoorLitP8
import Derived.Test.YtcoahkmiebeeeaaGreatDoorLitP9
namespace Go.Proofs.YtcoahkmiebeeeaaGreatDoor
open Go.RowKit Go.Shelf
set_option linter.unusedVariables false

def behN (k size pk : Nat) : Nat := if k = 0 then size else if k = 1 then 1 else pk
set_option maxRecDepth 100000 in
set_option maxHeartbeats 1000000 in
theorem behind_any (k hb fr bt rw size pk : Nat) (w : World) :
    Calls Tryz.prog 11 #[headV k hb fr bt rw size pk] w fun e w' => e = .returned (.int .i64 ((behN k size pk : Nat) : Int)) ∧ Keep noBlock w w' := by
  unfold headV behN
  by_cases h0 : k = 0
  · subst h0
    rw [if_pos rfl]
    go_enter Tryz.func11, Tryz.ntmps11
    go_wp2
    go_ret
    exact ⟨rfl, (Keep.refl _ w).alloc _⟩
  · rw [if_neg h0]
    have g0 : ((k : Int) == 0) = false := by rw [beq_eq_false_iff_ne]; omega
    by_cases h1 : k = 1
    · subst h1
      rw [if_pos rfl]
      go_enter Tryz.func11, Tryz.ntmps11
      go_wp2
      go_ret
      exact ⟨rfl, (Keep.refl _ w).alloc _⟩
    · rw [if_neg h1]
      have g1 : ((k : Int) == 1) = false := by rw [beq_eq_false_iff_ne]; omega
      go_enter Tryz.func11, Tryz.ntmps11
      go_wp2
      go_ret
      exact ⟨rfl, (Keep.refl _ w).alloc _⟩

set_option maxRecDepth 100000 in
set_option maxHeartbeats 1000000 in
theorem cloneB_any (a : Option Addr) (cap gb off : Nat) (bs : List Nat) (w : World) (hB : Bytes w a cap gb off bs) (hlen : bs.length ≤ 140737488355327) :
    Calls Tryz.prog 14 #[.slice a bs.length cap] w fun e w' => Keep noBlock w w' ∧ ∃ a' n cap' g, e = .returned (.slice a' n cap') ∧ n = bs.length ∧ Bytes w' a' cap' g 0 bs := by
  obtain ⟨i0, hi, hz0, hz1, hz2⟩ := info_parts info5
  have hmax : bs.length ≤ maxLen := by unfold maxLen; omega
  have heq := fun (w : World) (a : Option Addr) (n c n' c' : Nat) => Lib.run_eql_slice_nil (P := Tryz.prog) w 22 5 a n c n' c' Tryz.underlying22
  cases a with
  | none =>
    have h1 := hB.nil rfl
    have h2 := hB.cap
    have h3 : bs.length = 0 := by omega
    have h4 : bs = [] := List.length_eq_zero_iff.1 h3
    rw [h3, h1]
    clear hB hmax h2 h3
    subst h4
    go_enter Tryz.func14, Tryz.ntmps14
    go_wp2
    go_ret
    exact ⟨Keep.refl _ _, none, 0, 0, 0, rfl, rfl, .inr rfl, fun _ => rfl, fun j hj => by simp at hj, fun j => by simp, Nat.le_refl _, by decide⟩
  | some ad =>
    have hown := World.ownsRow_made (e := 5) (size := 1) (base := 0) w #[] 0 (Nat.zero_le _) (Nat.zero_le _) rfl
    have hsr : SrcB (w.alloc (.cells #[] 5)) (.slice (some ad) bs.length cap) bs := hB.src.keep ((Keep.refl _ w).alloc _)
    have hc' : ∀ j u, (u8s bs)[j]? = some u → (w.alloc (.cells #[] 5)).cell? (ad.add j) = some u := by
      rcases hsr with ⟨h, _⟩ | ⟨a', c', h, hc⟩
      · cases h
      · cases h; exact hc
    have hlt := hB.lt
    clear hsr hB
    go_enter Tryz.func14, Tryz.ntmps14
    go_wp2_with (at_builtin; refine wpList_append_own _ rfl _ _ 22 rfl 0 5 i0 (.int .u8 0) 1 1 Tryz.underlying22 hi hz0 hz1 hz2 rfl (by decide) (.slice (some ⟨w.heap.size, 0, none⟩) 0 0) 0 [] rfl hown ad bs.length cap (u8s bs) rfl (by simp [u8s_length]) hc' (u8s_one bs) (by omega) (by omega) (by simp) ?_; intro v' w1 hown' hgrow hnil)
    go_ret
    rw [Nat.zero_add, List.nil_append] at hown'
    obtain ⟨a', cap', g, rfl, hB', -⟩ := owns_bytes (M := bs) hown' hlt (by omega)
    refine ⟨((Keep.refl _ w).alloc _).grown hgrow (fun k e hk => ?_), a', _, cap', g, rfl, rfl, hB'⟩
    have e' : w.heap.size = k := by simpa [Value.ownBlock] using e
    omega

end Go.Proofs.YtcoahkmiebeeeaaGreatDoor

namespace Go.Proofs.YtcoahkmiebeeeaaGreatDoor
open Go.RowKit Go.Shelf
set_option linter.unusedVariables false

theorem whole_long (M : List Nat) (h : 255 < M.length) : codeB (M ++ [lastW M]) = false := by
  refine decide_eq_false fun q => ?_
  have := q.2.1
  simp at this; omega

end Go.Proofs.YtcoahkmiebeeeaaGreatDoor

namespace Go.Proofs.YtcoahkmiebeeeaaGreatDoor
open Go.RowKit Go.Shelf

end Go.Proofs.YtcoahkmiebeeeaaGreatDoor

namespace Go.Proofs.YtcoahkmiebeeeaaGreatDoor
open Go.RowKit Go.Shelf
set_option linter.unusedVariables false

end Go.Proofs.YtcoahkmiebeeeaaGreatDoor

namespace Go.Proofs.YtcoahkmiebeeeaaGreatDoor
open Go.RowKit Go.Shelf

def i16s (xs : List Int) : List Value := xs.map (fun x => Value.int .i16 x)
theorem i16s_length (xs : List Int) : (i16s xs).length = xs.length := by simp [i16s]
theorem i16s_one (xs : List Int) : ∀ u ∈ i16s xs, u.oneCell' = true := by
  intro u hu
  simp only [i16s, List.mem_map] at hu
  obtain ⟨b, _, rfl⟩ := hu
  rfl
theorem i16s_at (xs : List Int) (j : Nat) (hj : j < xs.length) : (i16s xs)[j]? = some (.int .i16 (xs[j]?.getD 0)) := by simp [i16s, hj]

set_option maxHeartbeats 1000000 in
theorem clone65_any (ab n cap : Nat) (xs : List Int) (hn : n = xs.length) (hl : xs.length ≤ 4096) (w : World) (hlt : ab < w.heap.size) (h : ∀ j, j < xs.length → w.cell? ⟨ab, j, none⟩ = some (.int .i16 (xs[j]?.getD 0))) :
    Calls Tryz.prog 103 #[.slice (some ⟨ab, 0, none⟩) n cap] w fun e w' => ∃ g cap', e = .returned (.slice (some ⟨g, 0, none⟩) xs.length cap') ∧ w.heap.size ≤ g ∧ RowI w' .i16 (some ⟨g, 0, none⟩) cap' g 0 xs ∧ Keep noBlock w w' := by
  subst hn
  obtain ⟨i0, hi, hz0, hz1, hz2⟩ := info_parts info42
  have hmax : xs.length ≤ maxLen := by unfold maxLen; omega
  have hby : xs.length * 2 ≤ 140737488355328 := by omega
  have heq := fun (w : World) (a : Option Addr) (n c n' c' : Nat) => Lib.run_eql_slice_nil (P := Tryz.prog) w 114 184 a n c n' c' Tryz.underlying114
  have hown := World.ownsRow_made (e := 184) (size := 1) (base := w.heap.size) w #[] 0 (Nat.le_refl _) (Nat.zero_le _) rfl
  have hc' : ∀ j u, (i16s xs)[j]? = some u → (w.alloc (.cells #[] 184)).cell? ((⟨ab, 0, none⟩ : Addr).add j) = some u := fun j u hu => by
    have hj : j < xs.length := by rw [← i16s_length]; exact (List.getElem?_eq_some_iff.1 hu).1
    rw [add0]
    refine (World.cell?_of_block (Below.heap_alloc _ _ _ hlt)).trans ((h j hj).trans ?_)
    rw [← i16s_at xs j hj, hu]
  have HL := (show Hid ((i16s xs).length = xs.length * 1) from by rw [i16s_length]; exact (Nat.mul_one _).symm)
  clear h
  go_enter Tryz.func103, Tryz.ntmps103
  go_wp2_with (at_builtin; refine wpList_append_own _ rfl _ _ 114 rfl w.heap.size 184 i0 (.int .i16 0) 1 2 Tryz.underlying114 hi hz0 hz1 hz2 rfl (by decide) (.slice (some ⟨w.heap.size, 0, none⟩) 0 0) 0 [] rfl hown ⟨ab, 0, none⟩ xs.length cap (i16s xs) rfl HL.out hc' (i16s_one xs) (by omega) (by omega) (by simp) ?_; intro v' w1 hown' hgrow hnil)
  go_ret
  have hk : Keep noBlock w w1 := ((Keep.refl _ w).alloc _).grown hgrow (fun k e hk => by
    have e' : w.heap.size = k := by simpa [Value.ownBlock] using e
    omega)
  rw [List.nil_append, Nat.zero_add] at hown'
  rcases hown'.2 with ⟨e1, h0⟩ | ⟨g, cap', cur, e1, hb, hg, hr1, hr2, hr3, hr4⟩
  · have := hnil.1 e1
    cases this.1
  · subst e1
    refine ⟨g, cap', rfl, hb, ⟨.inl rfl, (fun e => by cases e), fun j hj => ?_, hr1⟩, hk⟩
    have q1 := hown'.cells (g := g) rfl _ _ (i16s_at xs j hj)
    rw [add0] at q1
    rw [Nat.zero_add]; exact q1

def boolN : Value → Nat
  | .bool true => 1
  | _ => 0

end Go.Proofs.YtcoahkmiebeeeaaGreatDoor

namespace Go.Proofs.YtcoahkmiebeeeaaGreatDoor
open Go.RowKit Go.Shelf

theorem left_i (rb g : Nat) (bs : List Nat) (p y : Nat) (hy : bs.length * 8 = p + y) (w : World) (h : IsR w rb g bs p) :
    Calls Tryz.prog 77 #[.pointer (some ⟨rb, 0, none⟩)] w fun e w' => e = .returned (.int .i64 (y : Int)) ∧ ∃ n, w' = w.drewN n := by
  have := left_any rb g bs p w h
  rw [show (bs.length : Int) * 8 - (p : Int) = (y : Int) from by omega] at this
  exact this

section
attribute [local go_sem] sliceSem_eq minSem_eq
end

end Go.Proofs.YtcoahkmiebeeeaaGreatDoor

namespace Go.Proofs.YtcoahkmiebeeeaaGreatDoor
open Go.RowKit Go.Shelf
set_option linter.unusedVariables false

def valR (bs : List Nat) (p R : Nat) : Option (Nat × Nat) :=
  if 8 * bs.length < p + (valM R - 1) then none
  else if numAt bs p (valM R - 1) < valT R then some (numAt bs p (valM R - 1), p + (valM R - 1))
  else if 8 * bs.length < p + (valM R - 1) + 1 then none
  else if numAt bs (p + (valM R - 1)) 1 = 1 then some (numAt bs p (valM R - 1) + 2 ^ (valM R - 1) - valT R, p + (valM R - 1) + 1)
  else some (numAt bs p (valM R - 1), p + (valM R - 1) + 1)
theorem valR_le {bs : List Nat} {p R v p' : Nat} (hR1 : 1 ≤ R) (h : valR bs p R = some (v, p')) : v ≤ R + 1 := by
  have h1 := numAt_lt bs p (valM R - 1)
  obtain ⟨h2, h3, h4⟩ := val_half R hR1
  have h5 := valT_eq R
  unfold valR at h
  split at h
  · cases h
  split at h
  · cases h; omega
  split at h
  · cases h
  split at h
  · cases h; omega
  · cases h; omega
theorem valR_far {bs : List Nat} {p R v p' : Nat} (h : valR bs p R = some (v, p')) : p' ≤ 8 * bs.length ∧ p ≤ p' := by
  unfold valR at h
  split at h
  · cases h
  split at h
  · cases h; omega
  split at h
  · cases h
  split at h
  · cases h; omega
  · cases h; omega
def CntPost (T : Option (Nat × Nat)) (rb g : Nat) (bs : List Nat) (w : World) (e : Ending) (w' : World) : Prop :=
  Keep (fun k => k = rb) w w' ∧ match T with
    | none => e = .returned (.tuple #[.int .i16 0, .int .i64 10])
    | some (v, p') => e = .returned (.tuple #[.int .i16 ((v : Int) - 1), .int .i64 0]) ∧ IsR w' rb g bs p'
theorem cnt_none {T : Option (Nat × Nat)} {rb g : Nat} {bs : List Nat} {w w' : World} (h : T = none) (hk : Keep (fun k => k = rb) w w') : CntPost T rb g bs w (.returned (.tuple #[.int .i16 0, .int .i64 10])) w' := by subst h; exact ⟨hk, rfl⟩
theorem cnt_some {T : Option (Nat × Nat)} {v p' : Nat} {rb g : Nat} {bs : List Nat} {w w' : World} (h : T = some (v, p')) (hk : Keep (fun k => k = rb) w w') (hi : IsR w' rb g bs p') : CntPost T rb g bs w (.returned (.tuple #[.int .i16 ((v : Int) - 1), .int .i64 0])) w' := by subst h; exact ⟨hk, rfl, hi⟩

theorem bits_few_i (rb g : Nat) (bs : List Nat) (p m : Nat) (mi : Int) (hmi : mi = (m : Int)) (hm : m ≤ 56) (w : World) (h : IsR w rb g bs p) (hp : 8 * bs.length < p + m) :
    Calls Tryz.prog 75 #[.pointer (some ⟨rb, 0, none⟩), .int .i64 mi] w fun e w' => e = .returned (.tuple #[.int .u64 0, .int .i64 10]) ∧ ∃ n, w' = w.drewN n := by
  subst hmi; exact bits_few rb g bs p m hm w h hp

set_option maxHeartbeats 2000000 in
theorem readCount_all (rb g : Nat) (bs : List Nat) (p R : Nat) (w : World) (h : IsR w rb g bs p) (hR1 : 1 ≤ R) (hR : R ≤ 4096) :
    Calls Tryz.prog 101 #[.pointer (some ⟨rb, 0, none⟩), .int .i64 (R : Int)] w fun e w' => CntPost (valR bs p R) rb g bs w e w' := by
  have HV := (show Hid (∀ w : World, _) from fun w => valueBits_any R hR w)
  have hm2 := valM_ge R hR1
  have hm13 := valM_le R hR
  have hT := valT_eq R
  have hH := val_half R hR1
  obtain ⟨k, hm⟩ : ∃ k, valM R = k + 1 := ⟨valM R - 1, by omega⟩
  have hm1 : valM R - 1 = k := by omega
  obtain ⟨T, hdef⟩ : ∃ T, T = valR bs p R := ⟨_, rfl⟩
  rw [← hdef]
  unfold valR at hdef
  rw [hm1] at hH hdef
  have hx := numAt_lt bs p k
  generalize valM R = m at *
  generalize valT R = t at *
  have hp : (2 : Nat) ^ m ≤ 2 ^ 13 := Nat.pow_le_pow_right (by omega) hm13
  have hk : (m : Int) - 1 = (k : Int) := by omega
  have hk12 : (k : Int) ≤ 12 := by omega
  have hpk : (2 : Int) ^ k = ((2 ^ k : Nat) : Int) := by simp
  obtain ⟨P, hP⟩ : ∃ P : Nat, P = 2 ^ k := ⟨_, rfl⟩
  rw [← hP] at hpk hH hx hdef
  have hPb : P ≤ 4096 := by omega
  have hPI : (P : Int) ≤ 4096 := by omega
  have htP : (t : Int) ≤ (P : Int) := by omega
  have HK := (show Hid (m = k + 1 ∧ k ≤ 12 ∧ P = 2 ^ k ∧ IsR w rb g bs p) from ⟨hm, by omega, hP, h⟩)
  have kq : ∀ q, Keep (fun k => k = rb) w (w.drewN q) := fun q => (keep_drewN w q).mono (fun _ _ h => h.elim)
  have HQ := (show Hid (∀ q, Keep (fun k => k = rb) w (w.drewN q)) from kq)
  have k2 : ∀ (W : World) q, Keep (fun k => k = rb) W (W.drewN q) := fun W q => (keep_drewN W q).mono (fun _ _ h => h.elim)
  have HQ2 := (show Hid (∀ (W : World) q, Keep (fun k => k = rb) W (W.drewN q)) from k2)
  by_cases c1 : 8 * bs.length < p + k
  · rw [if_pos c1] at hdef
    have HD := (show Hid (T = none ∧ 8 * bs.length < p + k) from ⟨hdef, c1⟩)
    clear hP hm h hT hH hp hm2 hm13 hm1 kq hdef hx k2 c1
    go_enter Tryz.func101, Tryz.ntmps101
    go_wp2_with (first | (go_at_call 121; refine (HV.out _).mono ?_; rintro e w' ⟨rfl, q, rfl⟩) | (go_at_call 75; refine (bits_few_i rb g bs p k _ rfl (by have := HK.out; omega) _ (HK.out.2.2.2.drewN _) HD.out.2).mono ?_; rintro e w' ⟨rfl, q2, rfl⟩))
    go_ret2
    exact cnt_none HD.out.1 (HQ.out _)
  · rw [if_neg c1] at hdef
    obtain ⟨x, hxe⟩ : ∃ x, numAt bs p k = x := ⟨_, rfl⟩
    rw [hxe] at hdef hx
    have hxI : (x : Int) < (P : Int) := by omega
    by_cases c2 : x < t
    · rw [if_pos c2] at hdef
      have g1 : ¬ (t : Int) ≤ (x : Int) := by omega
      have HD := (show Hid (T = some (x, p + k) ∧ p + k ≤ 8 * bs.length ∧ numAt bs p k = x) from ⟨hdef, by omega, hxe⟩)
      clear hP hm h hT hH hp hm2 hm13 hm1 kq hdef hx k2 c1 c2 hxe
      go_enter Tryz.func101, Tryz.ntmps101
      go_wp2_with (first | (go_at_call 121; refine (HV.out _).mono ?_; rintro e w' ⟨rfl, q, rfl⟩) | (go_at_call 75; refine (bits_take_i rb g bs p k x _ rfl (by have := HK.out; omega) _ (HK.out.2.2.2.drewN _) HD.out.2.1 HD.out.2.2).mono ?_; rintro e w' ⟨rfl, hI2, hK2⟩))
      go_ret2
      exact cnt_some HD.out.1 ((HQ.out q).trans hK2 (fun _ _ h => h)) hI2
    · rw [if_neg c2] at hdef
      have g1 : (t : Int) ≤ (x : Int) := by omega
      by_cases c3 : 8 * bs.length < p + k + 1
      · rw [if_pos c3] at hdef
        have HD := (show Hid (T = none ∧ p + k ≤ 8 * bs.length ∧ numAt bs p k = x ∧ 8 * bs.length < p + k + 1) from ⟨hdef, by omega, hxe, c3⟩)
        clear hP hm h hT hH hp hm2 hm13 hm1 kq hdef hx k2 c1 c2 hxe c3
        go_enter Tryz.func101, Tryz.ntmps101
        go_wp2_with (go_at_call 121; refine (HV.out _).mono ?_; rintro e w' ⟨rfl, q, rfl⟩)
        refine (bits_take_i rb g bs p k x _ rfl (by have := HK.out; omega) _ (HK.out.2.2.2.drewN _) HD.out.2.1 HD.out.2.2.1).mono ?_
        rintro e w1 ⟨rfl, hI1, hK1⟩
        go_wp2_with fail
        refine (bits_few_i rb g bs (p + k) 1 _ rfl (by omega) _ hI1 HD.out.2.2.2).mono ?_
        rintro e w2 ⟨rfl, q2, rfl⟩
        go_wp2_with fail
        go_ret2
        exact cnt_none HD.out.1 (((HQ.out q).trans hK1 (fun _ _ h => h)).trans (HQ2.out _ q2) (fun _ _ h => h))
      · rw [if_neg c3] at hdef
        have hb2 := numAt_lt bs (p + k) 1
        by_cases c4 : numAt bs (p + k) 1 = 1
        · rw [if_pos c4] at hdef
          obtain ⟨v, hv⟩ : ∃ v, v = x + P - t := ⟨_, rfl⟩
          rw [← hv] at hdef
          have g2 : (x : Int) + ((P : Int) - (t : Int)) = (v : Int) := by omega
          have g3 : (v : Int) ≤ 8192 := by omega
          have HD := (show Hid (T = some (v, p + k + 1) ∧ p + k ≤ 8 * bs.length ∧ numAt bs p k = x ∧ p + k + 1 ≤ 8 * bs.length ∧ numAt bs (p + k) 1 = 1) from ⟨hdef, by omega, hxe, by omega, c4⟩)
          clear hP hm h hT hH hp hm2 hm13 hm1 kq hdef hx k2 c1 c2 hxe c3 c4 hb2 hv
          go_enter Tryz.func101, Tryz.ntmps101
          go_wp2_with (go_at_call 121; refine (HV.out _).mono ?_; rintro e w' ⟨rfl, q, rfl⟩)
          refine (bits_take_i rb g bs p k x _ rfl (by have := HK.out; omega) _ (HK.out.2.2.2.drewN _) HD.out.2.1 HD.out.2.2.1).mono ?_
          rintro e w1 ⟨rfl, hI1, hK1⟩
          go_wp2_with fail
          refine (bits_take_i rb g bs (p + k) 1 1 _ rfl (by omega) _ hI1 HD.out.2.2.2.1 HD.out.2.2.2.2).mono ?_
          rintro e w2 ⟨rfl, hI2, hK2⟩
          go_wp2_with fail
          go_ret2
          exact cnt_some HD.out.1 (((HQ.out q).trans hK1 (fun _ _ h => h)).trans hK2 (fun _ _ h => h)) hI2
        · rw [if_neg c4] at hdef
          have c5 : numAt bs (p + k) 1 = 0 := by omega
          have HD := (show Hid (T = some (x, p + k + 1) ∧ p + k ≤ 8 * bs.length ∧ numAt bs p k = x ∧ p + k + 1 ≤ 8 * bs.length ∧ numAt bs (p + k) 1 = 0) from ⟨hdef, by omega, hxe, by omega, c5⟩)
          clear hP hm h hT hH hp hm2 hm13 hm1 kq hdef hx k2 c1 c2 hxe c3 c4 hb2 c5
          go_enter Tryz.func101, Tryz.ntmps101
          go_wp2_with (go_at_call 121; refine (HV.out _).mono ?_; rintro e w' ⟨rfl, q, rfl⟩)
          refine (bits_take_i rb g bs p k x _ rfl (by have := HK.out; omega) _ (HK.out.2.2.2.drewN _) HD.out.2.1 HD.out.2.2.1).mono ?_
          rintro e w1 ⟨rfl, hI1, hK1⟩
          go_wp2_with fail
          refine (bits_take_i rb g bs (p + k) 1 0 _ rfl (by omega) _ hI1 HD.out.2.2.2.1 HD.out.2.2.2.2).mono ?_
          rintro e w2 ⟨rfl, hI2, hK2⟩
          go_wp2_with fail
          go_ret2
          exact cnt_some HD.out.1 (((HQ.out q).trans hK1 (fun _ _ h => h)).trans hK2 (fun _ _ h => h)) hI2

end Go.Proofs.YtcoahkmiebeeeaaGreatDoor
