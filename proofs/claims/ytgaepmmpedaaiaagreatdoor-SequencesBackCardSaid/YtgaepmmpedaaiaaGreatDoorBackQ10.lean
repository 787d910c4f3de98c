/-
  How much shorter words get with one state more, as plain numbers; sums over symbols.
  mostGain and leastLoss.
  settle: the counts are brought to all states; it comes to an end.
  The parts of Counts: sumOf, wholeParts, markRare; the document's Able.
  wholeParts and markRare.
-/
import Derived.Test.YtgaepmmpedaaiaaGreatDoorBackQ2
import Derived.Test.YtgaepmmpedaaiaaGreatDoorBackQ4
namespace Go.Proofs.YtgaepmmpedaaiaaGreatDoor
open Go.RowKit Go.Shelf

/-- The logarithm of (c + 1) / c, in parts. -/
def savedN (c : Nat) : Nat := ((15 * (2 * c + 1) * (2 * c + 1) - 4) * 2 ^ 32) / ((2 * c + 1) * (15 * (2 * c + 1) * (2 * c + 1) - 9))
def savedChk : Nat → Bool
  | 0 => true
  | n + 1 => (decide (1 ≤ savedN (n + 1)) && (decide (savedN (n + 1) < 2147483648) && decide (savedN (n + 2) ≤ savedN (n + 1)))) && savedChk n
theorem savedChk_all : savedChk 4096 = true := by decide +kernel
theorem savedChk_at (n c : Nat) (h : savedChk n = true) (h1 : 1 ≤ c) (h2 : c ≤ n) : 1 ≤ savedN c ∧ savedN c < 2147483648 ∧ savedN (c + 1) ≤ savedN c := by
  induction n with
  | zero => omega
  | succ n ih =>
    simp only [savedChk, Bool.and_eq_true, decide_eq_true_eq] at h
    by_cases e : c = n + 1
    · subst e; exact ⟨h.1.1, h.1.2.1, h.1.2.2⟩
    · exact ih h.2 (by omega)
theorem saved_facts (c : Nat) (h1 : 1 ≤ c) (h2 : c ≤ 4096) : 1 ≤ savedN c ∧ savedN c < 2147483648 ∧ savedN (c + 1) ≤ savedN c := savedChk_at 4096 c savedChk_all h1 h2
theorem saved_lt (c : Nat) (h2 : c ≤ 4096) : savedN c < 8589934592 := by
  by_cases h : c = 0
  · subst h; decide
  · have := (saved_facts c (by omega) h2).2.1; omega

set_option maxHeartbeats 1000000 in
theorem saved_any (c : Nat) (hc : c ≤ 4096) (w : World) : Calls Tryz.prog 129 #[.int .i16 (c : Int)] w fun e w' => e = .returned (.int .u64 ((savedN c : Nat) : Int)) ∧ w' = w := by
  obtain ⟨d, hd⟩ : ∃ d, d = 2 * c + 1 := ⟨_, rfl⟩
  obtain ⟨e1, he1⟩ : ∃ e1, e1 = 15 * d := ⟨_, rfl⟩
  obtain ⟨g, hg⟩ : ∃ g, g = e1 * d := ⟨_, rfl⟩
  have hgb : g ≤ 122895 * 8193 := by rw [hg]; exact Nat.mul_le_mul (by omega) (by omega)
  have hgl : 15 ≤ g := by rw [hg]; exact Nat.le_trans (by omega) (Nat.mul_le_mul (show 15 ≤ e1 by omega) (show 1 ≤ d by omega))
  obtain ⟨h4, hh4⟩ : ∃ h4, h4 = g - 4 := ⟨_, rfl⟩
  obtain ⟨j, hj⟩ : ∃ j, j = h4 * 2 ^ 32 := ⟨_, rfl⟩
  obtain ⟨k, hk⟩ : ∃ k, k = g - 9 := ⟨_, rfl⟩
  obtain ⟨m, hm⟩ : ∃ m, m = d * k := ⟨_, rfl⟩
  have hmb : m ≤ 8193 * (122895 * 8193) := by rw [hm]; exact Nat.mul_le_mul (by omega) (by omega)
  have hm1 : 1 ≤ m := by rw [hm]; exact Nat.le_trans (by omega) (Nat.mul_le_mul (show 1 ≤ d by omega) (show 6 ≤ k by omega))
  have hs : savedN c = j / m := by unfold savedN; rw [hj, hm, hh4, hk, hg, he1, hd]
  obtain ⟨s, hs2⟩ : ∃ s, s = j / m := ⟨_, rfl⟩
  have i1 : 2 * (c : Int) + 1 = (d : Int) := by omega
  have i2 : 15 * (d : Int) = (e1 : Int) := by omega
  have i3 : (e1 : Int) * (d : Int) = (g : Int) := by rw [hg]; simp
  have i4 : (g : Int) - 4 = (h4 : Int) := by omega
  have i5 : (h4 : Int) * 2 ^ 32 = (j : Int) := by rw [hj]; simp
  have i5' : (h4 : Int) * 4294967296 = (j : Int) := by omega
  have i6 : (g : Int) - 9 = (k : Int) := by omega
  have i7 : (d : Int) * (k : Int) = (m : Int) := by rw [hm]; simp
  have i8 : (j : Int) / (m : Int) = (s : Int) := by rw [hs2]; simp
  have b1 : (d : Int) ≤ 8193 := by omega
  have b2 : (e1 : Int) ≤ 122895 := by omega
  have b3 : (g : Int) ≤ 1006878735 := by omega
  have b4 : (h4 : Int) ≤ 1006878735 := by omega
  have b5 : (j : Int) ≤ 4611686018427387904 := by omega
  have b6 : (k : Int) ≤ 1006878735 := by omega
  have b7 : (m : Int) ≤ 8249357476000 := by omega
  have b8 : (1 : Int) ≤ (m : Int) := by omega
  have b9 : ((m : Int) == 0) = false := by rw [beq_eq_false_iff_ne]; omega
  have b10 : (4 : Int) ≤ (g : Int) := by omega
  have b11 : (9 : Int) ≤ (g : Int) := by omega
  have hcI : (c : Int) ≤ 4096 := by omega
  have hsj : s ≤ j := by rw [hs2]; exact Nat.div_le_self _ _
  have b12 : (s : Int) ≤ 4611686018427387904 := by omega
  rw [hs, ← hs2]
  clear hd he1 hg hgb hgl hh4 hj hk hm hmb hm1 hs hs2 hsj
  go_enter Tryz.func129, Tryz.ntmps129
  go_wp2
  go_ret
  exact ⟨rfl, rfl⟩

/-- A sum over symbols. -/
def sumN (g : Nat → Nat) : Nat → Nat
  | 0 => 0
  | n + 1 => sumN g n + g n
theorem sumN_congr (g h : Nat → Nat) (n : Nat) (e : ∀ i, i < n → g i = h i) : sumN g n = sumN h n := by
  induction n with
  | zero => rfl
  | succ n ih => simp only [sumN]; rw [ih (fun i hi => e i (by omega)), e n (by omega)]
theorem sumN_set (g h : Nat → Nat) (n i : Nat) (hi : i < n) (e : ∀ k, k < n → k ≠ i → g k = h k) : sumN g n + h i = sumN h n + g i := by
  induction n with
  | zero => omega
  | succ n ih =>
    simp only [sumN]
    by_cases ei : i = n
    · subst ei
      rw [sumN_congr g h i (fun k hk => e k (by omega) (by omega))]; omega
    · have h1 := ih (by omega) (fun k hk hne => e k (by omega) hne)
      have h2 := e n (by omega) (fun h => ei h.symm)
      omega
theorem sumN_ge (g : Nat → Nat) (n i : Nat) (hi : i < n) : g i ≤ sumN g n := by
  induction n with
  | zero => omega
  | succ n ih =>
    simp only [sumN]
    by_cases e : i = n
    · subst e; omega
    · have := ih (by omega); omega
theorem sumN_two (g : Nat → Nat) (n i j : Nat) (hi : i < n) (hj : j < n) (hne : i ≠ j) : g i + g j ≤ sumN g n := by
  induction n with
  | zero => omega
  | succ n ih =>
    simp only [sumN]
    by_cases e : i = n
    · have := sumN_ge g n j (by omega); subst e; omega
    · by_cases e2 : j = n
      · have := sumN_ge g n i (by omega); subst e2; omega
      · have := ih (by omega) (by omega); omega
theorem sumN_le (g : Nat → Nat) (n B : Nat) (h : ∀ i, i < n → g i ≤ B) : sumN g n ≤ n * B := by
  induction n with
  | zero => simp [sumN]
  | succ n ih =>
    simp only [sumN]
    have h1 := ih (fun i hi => h i (by omega))
    have h2 := h n (by omega)
    rw [Nat.succ_mul]; omega
theorem sumN_mono (g h : Nat → Nat) (n : Nat) (e : ∀ i, i < n → g i ≤ h i) : sumN g n ≤ sumN h n := by
  induction n with
  | zero => simp [sumN]
  | succ n ih => simp only [sumN]; have := ih (fun i hi => e i (by omega)); have := e n (by omega); omega

/-- All that is saved by c states. -/
def SP : Nat → Nat
  | 0 => 0
  | c + 1 => SP c + savedN c
theorem SP_le (c : Nat) (h : c ≤ 4097) : SP c ≤ c * 8589934592 := by
  induction c with
  | zero => simp [SP]
  | succ c ih => have := ih (by omega); have := saved_lt c (by omega); simp only [SP]; omega
def potF (f c : Nat → Nat) (n : Nat) : Nat := sumN (fun i => f i * SP (c i)) n
/-- Above every sum. -/
def potMax : Nat := 256 * (4294967296 * (4097 * 8589934592))
theorem pot_le (f c : Nat → Nat) (n : Nat) (hn : n ≤ 256) (hf : ∀ i, f i < 4294967296) (hc : ∀ i, i < n → c i ≤ 4096) : potF f c n ≤ potMax := by
  have h1 := sumN_le (fun i => f i * SP (c i)) n (4294967296 * (4097 * 8589934592)) (fun i hi => by
    have h2 := SP_le (c i) (by have := hc i hi; omega)
    have h3 : SP (c i) ≤ 4097 * 8589934592 := Nat.le_trans h2 (Nat.mul_le_mul_right _ (by have := hc i hi; omega))
    exact Nat.mul_le_mul (by have := hf i; omega) h3)
  exact Nat.le_trans h1 (Nat.mul_le_mul_right _ hn)
/-- One state moved to where it saves more. -/
theorem pot_move (f c : Nat → Nat) (n i j : Nat) (hi : i < n) (hj : j < n) (hne : i ≠ j) (hcj : 2 ≤ c j) (hg : f j * savedN (c j - 1) < f i * savedN (c i)) :
    potF f c n < potF f (fun k => if k = j then c j - 1 else if k = i then c i + 1 else c k) n := by
  have h1 := sumN_set (fun k => f k * SP (c k)) (fun k => f k * SP (if k = i then c i + 1 else c k)) n i hi (fun k _ hk => by simp [hk])
  have h2 := sumN_set (fun k => f k * SP (if k = i then c i + 1 else c k)) (fun k => f k * SP (if k = j then c j - 1 else if k = i then c i + 1 else c k)) n j hj (fun k _ hk => by simp [hk])
  simp only [if_true] at h1 h2
  rw [if_neg (fun h => hne h.symm)] at h2
  have e1 : f i * SP (c i + 1) = f i * SP (c i) + f i * savedN (c i) := by simp only [SP]; rw [Nat.mul_add]
  have e2 : f j * SP (c j) = f j * SP (c j - 1) + f j * savedN (c j - 1) := by
    obtain ⟨d, hd⟩ : ∃ d, c j = d + 1 := ⟨c j - 1, by omega⟩
    rw [hd, Nat.add_sub_cancel]; simp only [SP]; rw [Nat.mul_add]
  show sumN (fun k => f k * SP (c k)) n < sumN (fun k => f k * SP (if k = j then c j - 1 else if k = i then c i + 1 else c k)) n
  omega

end Go.Proofs.YtgaepmmpedaaiaaGreatDoor

namespace Go.Proofs.YtgaepmmpedaaiaaGreatDoor
open Go.RowKit Go.Shelf

/-- Numbers of 32 bits. -/
def U32 (fs : List Int) : Prop := ∀ i : Nat, 0 ≤ fs[i]?.getD 0 ∧ fs[i]?.getD 0 ≤ 4294967295
/-- How often a symbol is there. -/
def fr (fs : List Int) (i : Nat) : Nat := (fs[i]?.getD 0).toNat
theorem fr_lt {fs : List Int} (h : U32 fs) (i : Nat) : fr fs i < 4294967296 := by have := h i; unfold fr; omega
theorem RowI.fr {w : World} {a : Option Addr} {cap gb off : Nat} {fs : List Int} (h : RowI w .u32 a cap gb off fs) (hu : U32 fs) (i : Nat) (hi : i < fs.length) : w.cell? ⟨gb, off + i, none⟩ = some (.int .u32 ((fr fs i : Nat) : Int)) := by
  rw [h.cells i hi]
  have := hu i
  unfold Go.Proofs.YtgaepmmpedaaiaaGreatDoor.fr
  congr 2
  omega

/-- What mostGain finds. -/
def IsMost (f c : Nat → Nat) (n s g : Nat) : Prop := (g = 0 ∧ s = 0 ∧ ∀ j, j < n → f j * savedN (c j) = 0) ∨ (s < n ∧ g = f s * savedN (c s) ∧ 0 < g)
/-- What leastLoss finds. -/
def IsLeast (f c : Nat → Nat) (n s g : Nat) : Prop := (g = 18446744073709551615 ∧ s = 0 ∧ ∀ j, j < n → c j < 2) ∨ (s < n ∧ g = f s * savedN (c s - 1) ∧ 2 ≤ c s)

theorem gain_lt (f c x : Nat) (hf : f < 4294967296) (hc : c ≤ 4096) (h0 : c = 0 → f = 0) (hx : x = f * savedN c) : x < 9223372036854775808 := by
  by_cases h : c = 0
  · rw [hx, h0 h]; simp
  · have h1 := (saved_facts c (by omega) hc).2.1
    have : f * savedN c ≤ 4294967295 * 2147483647 := Nat.mul_le_mul (by omega) (by omega)
    omega

set_option maxRecDepth 100000 in
set_option maxHeartbeats 2000000 in
theorem mostGain_any (cb : Nat) (c : Nat → Nat) (a : Option Addr) (cap gb off : Nat) (fs : List Int) (w : World) (hA : IsA w cb 89 .i16 fs.length (fun i => ((c i : Nat) : Int))) (hR : RowI w .u32 a cap gb off fs) (hu : U32 fs) (hl : fs.length ≤ 256) (hc : ∀ i, i < fs.length → c i ≤ 4096) (h0 : ∀ i, i < fs.length → c i = 0 → fr fs i = 0) :
    Calls Tryz.prog 120 #[.slice (some ⟨cb, 0, none⟩) fs.length fs.length, .slice a fs.length cap] w fun e w' => ∃ s g, e = .returned (.tuple #[.int .i64 ((s : Nat) : Int), .int .u64 ((g : Nat) : Int)]) ∧ IsMost (fr fs) c fs.length s g ∧ w' = w := by
  have HH := (show Hid (IsA w cb 89 .i16 fs.length (fun i => ((c i : Nat) : Int)) ∧ RowI w .u32 a cap gb off fs ∧ U32 fs ∧ (∀ i, i < fs.length → c i ≤ 4096) ∧ (∀ i, i < fs.length → c i = 0 → fr fs i = 0)) from ⟨hA, hR, hu, hc, h0⟩)
  obtain ⟨n, hn⟩ : ∃ n, n = fs.length := ⟨_, rfl⟩
  rw [← hn] at hl ⊢
  have HN := (show Hid (n = fs.length) from hn)
  clear hA hR hu hc h0 hn
  go_enter Tryz.func120, Tryz.ntmps120
  go_wp2
  go_loop [4, 5, 11] (fun v4 v5 v11 => ∃ (i s g : Nat), v11 = .int .i64 (i : Int) ∧ v4 = .int .i64 (s : Int) ∧ v5 = .int .u64 (g : Int) ∧ i ≤ n ∧ g < 9223372036854775808 ∧ Hid (IsMost (fr fs) c i s g)) (fun _ _ v11 => n - (intOf v11).toNat)
  case atStart => exact ⟨0, 0, 0, rfl, rfl, rfl, Nat.zero_le _, by decide, .inl ⟨rfl, rfl, fun j hj => by omega⟩⟩
  case round =>
    obtain ⟨i, s, g, rfl, rfl, rfl, hi, hgb, HM⟩ := hrel
    by_cases hlt : i < n
    · obtain ⟨hA, hR, hu, hc, h0⟩ := HH.out
      have hix : i < fs.length := by have := HN.out; omega
      obtain rfl := hR.here hix
      have c0 := hR.fr hu i hix
      have c1 := hA.cell i hix
      have hci := hc i hix
      have hfi := fr_lt hu i
      have h0i := h0 i hix
      obtain ⟨x, hx⟩ : ∃ x, x = fr fs i * savedN (c i) := ⟨_, rfl⟩
      have hxb := gain_lt (fr fs i) (c i) x hfi hci h0i hx
      have hxI : ((fr fs i : Nat) : Int) * ((savedN (c i) : Nat) : Int) = (x : Int) := by rw [hx]; simp
      have HS := (show Hid (∀ w : World, _) from fun w => saved_any (c i) hci w)
      have HX := (show Hid (x = fr fs i * savedN (c i)) from hx)
      have hsb := saved_lt (c i) hci
      have hltI : (i : Int) < (n : Int) := by omega
      have hxbI : (x : Int) < 9223372036854775808 := by omega
      have hgbI : (g : Int) < 9223372036854775808 := by omega
      have hnI : (n : Int) ≤ 256 := by omega
      have hcI : ((c i : Nat) : Int) ≤ 4096 := by omega
      have hfI : ((fr fs i : Nat) : Int) < 4294967296 := by omega
      have hsI : ((savedN (c i) : Nat) : Int) < 8589934592 := by omega
      clear hA hR hu hc h0 h0i hx hci hfi hsb hxb
      by_cases hgt : g < x
      · have hgtI : (g : Int) < (x : Int) := by omega
        have HM2 := (show Hid (IsMost (fr fs) c (i + 1) i x) from .inr ⟨by omega, HX.out, by omega⟩)
        generalize fr fs i = fi at *
        generalize savedN (c i) = si at *
        generalize c i = ci at *
        go_wp2_with (go_at_call 129; refine (HS.out _).mono ?_; rintro e w' ⟨rfl, rfl⟩)
        go_round
        case rel => exact ⟨i + 1, i, x, by go_num, rfl, rfl, by omega, by omega, HM2⟩
        case measure => simp [intOf]; omega
      · have hgtI : ¬ (g : Int) < (x : Int) := by omega
        have HM2 := (show Hid (IsMost (fr fs) c (i + 1) s g) from by
          rcases HM.out with ⟨e1, e2, e3⟩ | ⟨e1, e2, e3⟩
          · refine .inl ⟨e1, e2, fun j hj => ?_⟩
            by_cases e : j = i
            · subst e; rw [← HX.out]; omega
            · exact e3 j (by omega)
          · exact .inr ⟨by omega, e2, e3⟩)
        generalize fr fs i = fi at *
        generalize savedN (c i) = si at *
        generalize c i = ci at *
        go_wp2_with (go_at_call 129; refine (HS.out _).mono ?_; rintro e w' ⟨rfl, rfl⟩)
        go_round
        case rel => exact ⟨i + 1, s, g, by go_num, rfl, rfl, by omega, by omega, HM2⟩
        case measure => simp [intOf]; omega
    · obtain rfl : i = n := by omega
      have hltI : ¬ (i : Int) < (i : Int) := by omega
      go_wp2
      go_ret2
      exact ⟨s, g, rfl, HM.out, rfl⟩

set_option maxRecDepth 100000 in
set_option maxHeartbeats 2000000 in
theorem leastLoss_any (cb : Nat) (c : Nat → Nat) (a : Option Addr) (cap gb off : Nat) (fs : List Int) (w : World) (hA : IsA w cb 89 .i16 fs.length (fun i => ((c i : Nat) : Int))) (hR : RowI w .u32 a cap gb off fs) (hu : U32 fs) (hl : fs.length ≤ 256) (hc : ∀ i, i < fs.length → c i ≤ 4096) :
    Calls Tryz.prog 121 #[.slice (some ⟨cb, 0, none⟩) fs.length fs.length, .slice a fs.length cap] w fun e w' => ∃ s g, e = .returned (.tuple #[.int .i64 ((s : Nat) : Int), .int .u64 ((g : Nat) : Int)]) ∧ IsLeast (fr fs) c fs.length s g ∧ g ≤ 18446744073709551615 ∧ w' = w := by
  have HH := (show Hid (IsA w cb 89 .i16 fs.length (fun i => ((c i : Nat) : Int)) ∧ RowI w .u32 a cap gb off fs ∧ U32 fs ∧ (∀ i, i < fs.length → c i ≤ 4096)) from ⟨hA, hR, hu, hc⟩)
  obtain ⟨n, hn⟩ : ∃ n, n = fs.length := ⟨_, rfl⟩
  rw [← hn] at hl ⊢
  have HN := (show Hid (n = fs.length) from hn)
  clear hA hR hu hc hn
  go_enter Tryz.func121, Tryz.ntmps121
  go_wp2
  go_loop [4, 5, 11] (fun v4 v5 v11 => ∃ (i s g : Nat), v11 = .int .i64 (i : Int) ∧ v4 = .int .i64 (s : Int) ∧ v5 = .int .u64 (g : Int) ∧ i ≤ n ∧ g ≤ 18446744073709551615 ∧ Hid (IsLeast (fr fs) c i s g)) (fun _ _ v11 => n - (intOf v11).toNat)
  case atStart => exact ⟨0, 0, 18446744073709551615, rfl, rfl, rfl, Nat.zero_le _, Nat.le_refl _, .inl ⟨rfl, rfl, fun j hj => by omega⟩⟩
  case round =>
    obtain ⟨i, s, g, rfl, rfl, rfl, hi, hgb, HM⟩ := hrel
    by_cases hlt : i < n
    · obtain ⟨hA, hR, hu, hc⟩ := HH.out
      have hix : i < fs.length := by have := HN.out; omega
      obtain rfl := hR.here hix
      have c0 := hR.fr hu i hix
      have c1 := hA.cell i hix
      have hci := hc i hix
      have hfi := fr_lt hu i
      have hltI : (i : Int) < (n : Int) := by omega
      have hgbI : (g : Int) ≤ 18446744073709551615 := by omega
      have hnI : (n : Int) ≤ 256 := by omega
      have hcI : ((c i : Nat) : Int) ≤ 4096 := by omega
      have hfI : ((fr fs i : Nat) : Int) < 4294967296 := by omega
      by_cases h2 : c i < 2
      · have h2I : ((c i : Nat) : Int) < 2 := by omega
        have HM2 := (show Hid (IsLeast (fr fs) c (i + 1) s g) from by
          rcases HM.out with ⟨e1, e2, e3⟩ | ⟨e1, e2, e3⟩
          · refine .inl ⟨e1, e2, fun j hj => ?_⟩
            by_cases e : j = i
            · subst e; exact h2
            · exact e3 j (by omega)
          · exact .inr ⟨by omega, e2, e3⟩)
        clear hA hR hu hc hci hfi
        generalize fr fs i = fi at *
        generalize c i = ci at *
        go_wp2_with fail
        go_round
        case rel => exact ⟨i + 1, s, g, by go_num, rfl, rfl, by omega, hgb, HM2⟩
        case measure => simp [intOf]; omega
      · have h2I : ¬ ((c i : Nat) : Int) < 2 := by omega
        obtain ⟨d, hd⟩ : ∃ d, c i = d + 1 := ⟨c i - 1, by omega⟩
        have hdI : ((c i : Nat) : Int) - 1 = (d : Int) := by omega
        obtain ⟨x, hx⟩ : ∃ x, x = fr fs i * savedN d := ⟨_, rfl⟩
        have hxb := gain_lt (fr fs i) d x hfi (by omega) (by omega) hx
        have hxI : ((fr fs i : Nat) : Int) * ((savedN d : Nat) : Int) = (x : Int) := by rw [hx]; simp
        have HS := (show Hid (∀ w : World, _) from fun w => saved_any d (by omega) w)
        have hsb := saved_lt d (by omega)
        have hsI : ((savedN d : Nat) : Int) < 8589934592 := by omega
        have hxbI : (x : Int) < 9223372036854775808 := by omega
        have HX := (show Hid (x = fr fs i * savedN (c i - 1)) from by rw [hd, Nat.add_sub_cancel]; exact hx)
        have hdb : (d : Int) ≤ 4096 := by omega
        by_cases hgt : x < g
        · have hgtI : (x : Int) < (g : Int) := by omega
          have HM2 := (show Hid (IsLeast (fr fs) c (i + 1) i x) from .inr ⟨by omega, HX.out, by omega⟩)
          clear hA hR hu hc hci hfi hx hxb hsb hd
          generalize fr fs i = fi at *
          generalize savedN d = si at *
          generalize c i = ci at *
          go_wp2_with (go_at_call 129; refine (HS.out _).mono ?_; rintro e w' ⟨rfl, rfl⟩)
          go_round
          case rel => exact ⟨i + 1, i, x, by go_num, rfl, rfl, by omega, by omega, HM2⟩
          case measure => simp [intOf]; omega
        · have hgtI : ¬ (x : Int) < (g : Int) := by omega
          have HM2 := (show Hid (IsLeast (fr fs) c (i + 1) s g) from by
            rcases HM.out with ⟨e1, e2, e3⟩ | ⟨e1, e2, e3⟩
            · omega
            · exact .inr ⟨by omega, e2, e3⟩)
          clear hA hR hu hc hci hfi hx hxb hsb hd
          generalize fr fs i = fi at *
          generalize savedN d = si at *
          generalize c i = ci at *
          go_wp2_with (go_at_call 129; refine (HS.out _).mono ?_; rintro e w' ⟨rfl, rfl⟩)
          go_round
          case rel => exact ⟨i + 1, s, g, by go_num, rfl, rfl, by omega, hgb, HM2⟩
          case measure => simp [intOf]; omega
    · obtain rfl : i = n := by omega
      have hltI : ¬ (i : Int) < (i : Int) := by omega
      go_wp2
      go_ret2
      exact ⟨s, g, rfl, HM.out, hgb, rfl⟩

end Go.Proofs.YtgaepmmpedaaiaaGreatDoor

namespace Go.Proofs.YtgaepmmpedaaiaaGreatDoor
open Go.RowKit Go.Shelf

/-- Counts on their way. -/
def InvC (f c : Nat → Nat) (n : Nat) : Prop := ∀ i, i < n → (0 < f i → 1 ≤ c i) ∧ (f i = 0 → c i = 0) ∧ c i ≤ 4096
/-- How many symbols are there. -/
def usedC (f : Nat → Nat) (n : Nat) : Nat := sumN (fun i => if 0 < f i then 1 else 0) n
/-- The counts as they lie. -/
def cOf (cb : Nat) (w : World) (i : Nat) : Nat := match w.cell? ⟨cb, i, none⟩ with | some (.int _ x) => x.toNat | _ => 0
theorem cOf_eq {cb n : Nat} {c : Nat → Nat} {w : World} (h : IsA w cb 89 .i16 n (fun i => ((c i : Nat) : Int))) (i : Nat) (hi : i < n) : cOf cb w i = c i := by
  unfold cOf; rw [h.cell i hi]; simp
theorem potF_eq {cb n : Nat} {c f : Nat → Nat} {w : World} (h : IsA w cb 89 .i16 n (fun i => ((c i : Nat) : Int))) : potF f (cOf cb w) n = potF f c n :=
  sumN_congr _ _ n (fun i hi => by show f i * SP (cOf cb w i) = f i * SP (c i); rw [cOf_eq h i hi])
/-- Far from the end. -/
def farN (f : Nat → Nat) (cb n : Nat) (v6 : Value) (w : World) : Nat := (intOf v6).natAbs * (potMax + 1) + (potMax - potF f (cOf cb w) n)

theorem some_two (f c : Nat → Nat) (n S : Nat) (hI : InvC f c n) (hU : usedC f n ≤ S) (h : S < sumN c n) : ∃ j, j < n ∧ 2 ≤ c j := by
  refine Classical.byContradiction fun hno => ?_
  have : sumN c n ≤ usedC f n := sumN_mono _ _ n (fun i hi => by
    have h1 := hI i hi
    have h2 : ¬ 2 ≤ c i := fun h => hno ⟨i, hi, h⟩
    by_cases hf : 0 < f i
    · rw [if_pos hf]; omega
    · rw [if_neg hf, h1.2.1 (by omega)]; omega)
  omega
theorem some_there (f : Nat → Nat) (n : Nat) (h : 0 < usedC f n) : ∃ j, j < n ∧ 0 < f j := by
  refine Classical.byContradiction fun hno => ?_
  have : usedC f n ≤ n * 0 := sumN_le _ n 0 (fun i hi => by
    have h2 : ¬ 0 < f i := fun h => hno ⟨i, hi, h⟩
    rw [if_neg h2]; omega)
  omega
theorem most_there {f c : Nat → Nat} {n s g : Nat} (h : IsMost f c n s g) (hI : InvC f c n) (hU : 0 < usedC f n) : s < n ∧ g = f s * savedN (c s) ∧ 0 < g ∧ 0 < f s := by
  rcases h with ⟨_, _, h3⟩ | ⟨h1, h2, h3⟩
  · obtain ⟨j, hj, hf⟩ := some_there f n hU
    have h4 := hI j hj
    have h5 := (saved_facts (c j) (h4.1 hf) h4.2.2).1
    have := h3 j hj
    have h6 : 0 < f j * savedN (c j) := Nat.mul_pos hf h5
    omega
  · refine ⟨h1, h2, h3, ?_⟩
    rcases Nat.eq_zero_or_pos (f s) with e | e
    · rw [e, Nat.zero_mul] at h2; omega
    · exact e

theorem far_less {f : Nat → Nat} {cb n : Nat} {x y : Int} {w w' : World} (h : y.natAbs + 1 = x.natAbs) : farN f cb n (.int .i64 y) w' < farN f cb n (.int .i64 x) w := by
  unfold farN
  show y.natAbs * (potMax + 1) + _ < x.natAbs * (potMax + 1) + _
  rw [← h, Nat.succ_mul]
  omega
theorem far_same {f c c' : Nat → Nat} {cb n : Nat} {x : Int} {w w' : World} (h : IsA w cb 89 .i16 n (fun i => ((c i : Nat) : Int))) (h' : IsA w' cb 89 .i16 n (fun i => ((c' i : Nat) : Int))) (hp : potF f c n < potF f c' n) (hb : potF f c' n ≤ potMax) : farN f cb n (.int .i64 x) w' < farN f cb n (.int .i64 x) w := by
  unfold farN
  rw [potF_eq h, potF_eq h']
  omega
theorem InvC.up {f c : Nat → Nat} {n i : Nat} (h : InvC f c n) (hf : 0 < f i) (hb : c i + 1 ≤ 4096) : InvC f (fun j => if j = i then c i + 1 else c j) n := fun j hj => by
  dsimp only
  by_cases e : j = i
  · subst e; rw [if_pos rfl]; exact ⟨fun _ => by omega, fun e => by omega, hb⟩
  · rw [if_neg e]; exact h j hj
theorem InvC.down {f c : Nat → Nat} {n i : Nat} (h : InvC f c n) (hi : i < n) (h2 : 2 ≤ c i) : InvC f (fun j => if j = i then c i - 1 else c j) n := fun j hj => by
  dsimp only
  have := h i hi
  by_cases e : j = i
  · subst e; rw [if_pos rfl]; exact ⟨fun _ => by omega, fun e => by have := this.2.1 e; omega, by omega⟩
  · rw [if_neg e]; exact h j hj
theorem sum_up (c : Nat → Nat) (n i : Nat) (hi : i < n) : sumN (fun j => if j = i then c i + 1 else c j) n = sumN c n + 1 := by
  have := sumN_set c (fun j => if j = i then c i + 1 else c j) n i hi (fun k _ hk => by simp [hk])
  simp only [if_true] at this
  omega
theorem sum_down (c : Nat → Nat) (n i : Nat) (hi : i < n) (h2 : 2 ≤ c i) : sumN (fun j => if j = i then c i - 1 else c j) n + 1 = sumN c n := by
  have := sumN_set c (fun j => if j = i then c i - 1 else c j) n i hi (fun k _ hk => by simp [hk])
  simp only [if_true] at this
  omega
theorem isA_up {w : World} {cb n : Nat} {c : Nat → Nat} (h : IsA w cb 89 .i16 n (fun i => ((c i : Nat) : Int))) (i : Nat) (v : Int) (x : Nat) (hv : v = (x : Int)) : IsA (w.setCell ⟨cb, i, none⟩ (.int .i16 v)) cb 89 .i16 n (fun j => (((if j = i then x else c j) : Nat) : Int)) :=
  (h.set i v).congr (fun j _ => by split <;> first | exact hv | rfl)

set_option maxRecDepth 100000 in
set_option maxHeartbeats 4000000 in
theorem settle_any (cb S : Nat) (c0 : Nat → Nat) (a : Option Addr) (cap gb off : Nat) (fs : List Int) (w : World) (hA : IsA w cb 89 .i16 fs.length (fun i => ((c0 i : Nat) : Int))) (hR : RowI w .u32 a cap gb off fs) (hgb : fs ≠ [] → gb ≠ cb) (hu : U32 fs) (hl : fs.length ≤ 256) (hI : InvC (fr fs) c0 fs.length) (hU0 : 0 < usedC (fr fs) fs.length) (hUS : usedC (fr fs) fs.length ≤ S) (hS : S ≤ 4096) :
    Calls Tryz.prog 105 #[.slice (some ⟨cb, 0, none⟩) fs.length fs.length, .slice a fs.length cap, .int .i64 (S : Int)] w fun e w' => e = .returned (.tuple #[]) ∧ ∃ c : Nat → Nat, IsA w' cb 89 .i16 fs.length (fun i => ((c i : Nat) : Int)) ∧ InvC (fr fs) c fs.length ∧ sumN c fs.length = S ∧ Keep (fun k => k = cb) w w' := by
  have HH := (show Hid (RowI w .u32 a cap gb off fs ∧ (fs ≠ [] → gb ≠ cb) ∧ U32 fs ∧ 0 < usedC (fr fs) fs.length ∧ usedC (fr fs) fs.length ≤ S ∧ fs.length ≤ 256) from ⟨hR, hgb, hu, hU0, hUS, hl⟩)
  have HA := (show Hid (IsA w cb 89 .i16 fs.length (fun i => ((c0 i : Nat) : Int)) ∧ InvC (fr fs) c0 fs.length) from ⟨hA, hI⟩)
  obtain ⟨n, hn⟩ : ∃ n, n = fs.length := ⟨_, rfl⟩
  rw [← hn] at hl HA HH ⊢
  have HN := (show Hid (n = fs.length) from hn)
  have hSI : (S : Int) ≤ 4096 := by omega
  have hnI : (n : Int) ≤ 256 := by omega
  clear hA hR hgb hu hI hU0 hUS hn
  go_enter Tryz.func105, Tryz.ntmps105
  go_wp2_with fail
  go_loop [6, 16] (fun v6 v16 => ∃ i : Nat, v16 = .int .i64 (i : Int) ∧ v6 = .int .i64 ((S : Int) - ((sumN c0 i : Nat) : Int)) ∧ i ≤ n) (fun _ v16 => n - (intOf v16).toNat)
  case atStart => exact ⟨0, rfl, by simp [sumN], Nat.zero_le _⟩
  case round =>
    obtain ⟨i, rfl, rfl, hi⟩ := hrel
    have hsb : sumN c0 i ≤ i * 4096 := sumN_le c0 i 4096 (fun j hj => (HA.out.2 j (by omega)).2.2)
    by_cases hlt : i < n
    · have c1 := HA.out.1.cell i hlt
      have hci := (HA.out.2 i hlt).2.2
      have HSU := (show Hid (sumN c0 (i + 1) = sumN c0 i + c0 i) from rfl)
      have hltI : (i : Int) < (n : Int) := by omega
      have hcI : ((c0 i : Nat) : Int) ≤ 4096 := by omega
      have hsI : ((sumN c0 i : Nat) : Int) ≤ 1048576 := by omega
      generalize c0 i = ci at *
      generalize sumN c0 i = si at *
      clear hci hsb
      go_wp2_with fail
      go_round
      case rel => exact ⟨i + 1, by go_num, by rw [HSU.out]; congr 1; omega, by omega⟩
      case measure => simp [intOf]; omega
    · obtain rfl : i = n := by omega
      have hltI : ¬ (i : Int) < (i : Int) := by omega
      go_wp2_with fail
      go_loopw [6] (fun v6 wr => ∃ (sp : Int) (c : Nat → Nat), v6 = .int .i64 sp ∧ -1048576 ≤ sp ∧ sp ≤ 4096 ∧ Hid (IsA wr cb 89 .i16 i (fun i => ((c i : Nat) : Int)) ∧ InvC (fr fs) c i ∧ ((sumN c i : Nat) : Int) + sp = (S : Int) ∧ Keep (fun k => k = cb) w wr)) (fun v6 wr => farN (fr fs) cb i v6 wr)
      case atStart => exact ⟨_, c0, rfl, by omega, by omega, HA.out.1, HA.out.2, by omega, Keep.refl _ _⟩
      case round =>
        clear HA hsb
        obtain ⟨sp, c, rfl, hsp1, hsp2, HC⟩ := hrel
        obtain ⟨hA, hI, hsum, hK⟩ := HC.out
        obtain ⟨hR, hgb, hu, hU0, hUS, hl⟩ := HH.out
        have hR2 := hR.keep hK hgb
        have hn := HN.out
        have h1 := mostGain_any cb c a cap gb off fs wr (by rw [← hn]; exact hA) hR2 hu (by omega) (fun j hj => (hI j (by omega)).2.2) (fun j hj e => by
          have h3 := hI j (by omega)
          rcases Nat.eq_zero_or_pos (fr fs j) with e2 | e2
          · exact e2
          · have := h3.1 e2; omega)
        have h2 := leastLoss_any cb c a cap gb off fs wr (by rw [← hn]; exact hA) hR2 hu (by omega) (fun j hj => (hI j (by omega)).2.2)
        rw [← hn] at h1 h2
        have H1 := (show Hid (Calls Tryz.prog 120 _ wr _) from h1)
        have H2 := (show Hid (Calls Tryz.prog 121 _ wr _) from h2)
        clear h1 h2 hR hgb hu hR2 hn hA hI hsum hK
        go_wp2_with fail
        refine H1.out.mono ?_
        rintro e w1 ⟨to_, gain, rfl, hmost, rfl⟩
        go_wp2_with fail
        refine H2.out.mono ?_
        rintro e w1 ⟨from_, loss, rfl, hleast, hlossb, rfl⟩
        clear H1 H2
        obtain ⟨hA, hI, hsum, hK⟩ := HC.out
        obtain ⟨m1, m2, m3, m4⟩ := most_there hmost hI hU0
        have hgb2 : gain < 9223372036854775808 := gain_lt _ _ gain (fr_lt HH.out.2.2.1 to_) (hI to_ m1).2.2 (fun e => by have := (hI to_ m1).1 m4; omega) m2
        have hkk : ∀ (W : World) (j : Nat) (v : Value), Keep (fun k => k = cb) w W → Keep (fun k => k = cb) w (W.setCell ⟨cb, j, none⟩ v) := fun W j v hk => Keep.setCell (S := fun k => k = cb) (p := ⟨cb, j, none⟩) hk (fun _ => rfl) _
        by_cases hp : 0 < sp
        · have hge := sumN_ge c i to_ m1
          have hup := isA_up hA to_ (((c to_ : Nat) : Int) + 1) (c to_ + 1) (by omega)
          have HG := (show Hid (IsA (w1.setCell ⟨cb, to_, none⟩ (.int .i16 (((c to_ : Nat) : Int) + 1))) cb 89 .i16 i (fun j => (((if j = to_ then c to_ + 1 else c j) : Nat) : Int)) ∧ InvC (fr fs) (fun j => if j = to_ then c to_ + 1 else c j) i ∧ ((sumN (fun j => if j = to_ then c to_ + 1 else c j) i : Nat) : Int) + (sp - 1) = (S : Int) ∧ Keep (fun k => k = cb) w (w1.setCell ⟨cb, to_, none⟩ (.int .i16 (((c to_ : Nat) : Int) + 1)))) from
            ⟨hup, hI.up m4 (by omega), by rw [sum_up c i to_ m1]; omega, hkk _ _ _ hK⟩)
          have ct := hA.cell to_ m1
          have ft := hA.frozen to_
          have hcb : ((c to_ : Nat) : Int) ≤ 4096 := by omega
          have htI : (to_ : Int) < (i : Int) := by omega
          clear hA hI hsum hK m2 m3 m4 hmost hleast hkk hup HC hge
          generalize c to_ = x at *
          go_wp2_with fail
          go_roundw
          case rel => exact ⟨sp - 1, _, rfl, by omega, by omega, HG⟩
          case measure => exact far_less (by omega)
        · by_cases hq : sp < 0
          · obtain ⟨l1, l2, l3⟩ : from_ < i ∧ loss = fr fs from_ * savedN (c from_ - 1) ∧ 2 ≤ c from_ := by
              rcases hleast with ⟨_, _, h3⟩ | h
              · obtain ⟨j, hj, h4⟩ := some_two (fr fs) c i S hI hUS (by omega)
                have := h3 j hj; omega
              · exact h
            have hdn := isA_up hA from_ (((c from_ : Nat) : Int) - 1) (c from_ - 1) (by omega)
            have hsd := sum_down c i from_ l1 l3
            have HG := (show Hid (IsA (w1.setCell ⟨cb, from_, none⟩ (.int .i16 (((c from_ : Nat) : Int) - 1))) cb 89 .i16 i (fun j => (((if j = from_ then c from_ - 1 else c j) : Nat) : Int)) ∧ InvC (fr fs) (fun j => if j = from_ then c from_ - 1 else c j) i ∧ ((sumN (fun j => if j = from_ then c from_ - 1 else c j) i : Nat) : Int) + (sp + 1) = (S : Int) ∧ Keep (fun k => k = cb) w (w1.setCell ⟨cb, from_, none⟩ (.int .i16 (((c from_ : Nat) : Int) - 1)))) from
              ⟨hdn, hI.down l1 l3, by omega, hkk _ _ _ hK⟩)
            have ct := hA.cell from_ l1
            have ft := hA.frozen from_
            have hcb : ((c from_ : Nat) : Int) ≤ 4096 := by have := (hI from_ l1).2.2; omega
            have hcl : (2 : Int) ≤ ((c from_ : Nat) : Int) := by omega
            have htI : (from_ : Int) < (i : Int) := by omega
            clear hA hI hsum hK m2 m3 m4 hmost hleast hkk hdn HC hsd l2 l3
            generalize c from_ = x at *
            go_wp2_with fail
            go_roundw
            case rel => exact ⟨sp + 1, _, rfl, by omega, by omega, HG⟩
            case measure => exact far_less (by omega)
          · obtain rfl : sp = 0 := by omega
            have hgI : (gain : Int) < 9223372036854775808 := by omega
            have hlI : (loss : Int) ≤ 18446744073709551615 := by omega
            by_cases hgl : loss < gain
            · obtain ⟨l1, l2, l3⟩ : from_ < i ∧ loss = fr fs from_ * savedN (c from_ - 1) ∧ 2 ≤ c from_ := by
                rcases hleast with ⟨h1, _, _⟩ | h
                · omega
                · exact h
              have hne : to_ ≠ from_ := by
                rintro rfl
                have h5 := (saved_facts (c to_ - 1) (by omega) (by have := (hI to_ m1).2.2; omega)).2.2
                rw [show c to_ - 1 + 1 = c to_ from by omega] at h5
                have : fr fs to_ * savedN (c to_) ≤ fr fs to_ * savedN (c to_ - 1) := Nat.mul_le_mul_left _ h5
                omega
              have htwo := sumN_two c i to_ from_ m1 l1 hne
              have hup := isA_up hA to_ (((c to_ : Nat) : Int) + 1) (c to_ + 1) (by omega)
              have hI2 := hI.up (i := to_) m4 (by omega)
              have hdn := isA_up hup from_ (((c from_ : Nat) : Int) - 1) (c from_ - 1) (by omega)
              have l3' : 2 ≤ (fun j => if j = to_ then c to_ + 1 else c j) from_ := by dsimp only; rw [if_neg (fun h => hne h.symm)]; exact l3
              have hI3 := hI2.down l1 l3'
              have hs1 := sum_up c i to_ m1
              have hs2 := sum_down (fun j => if j = to_ then c to_ + 1 else c j) i from_ l1 l3'
              have efr : (if from_ = to_ then c to_ + 1 else c from_) = c from_ := if_neg (fun h => hne h.symm)
              simp only [efr] at hI3 hs2
              have hpm := pot_move (fr fs) c i to_ from_ m1 l1 hne l3 (by rw [← l2, ← m2]; exact hgl)
              have hpb := pot_le (fr fs) (fun k => if k = from_ then c from_ - 1 else if k = to_ then c to_ + 1 else c k) i (by omega) (fr_lt HH.out.2.2.1) (fun j hj => (hI3 j hj).2.2)
              have HG := (show Hid (IsA ((w1.setCell ⟨cb, to_, none⟩ (.int .i16 (((c to_ : Nat) : Int) + 1))).setCell ⟨cb, from_, none⟩ (.int .i16 (((c from_ : Nat) : Int) - 1))) cb 89 .i16 i (fun j => (((if j = from_ then c from_ - 1 else if j = to_ then c to_ + 1 else c j) : Nat) : Int)) ∧ InvC (fr fs) (fun j => if j = from_ then c from_ - 1 else if j = to_ then c to_ + 1 else c j) i ∧ ((sumN (fun j => if j = from_ then c from_ - 1 else if j = to_ then c to_ + 1 else c j) i : Nat) : Int) + 0 = (S : Int) ∧ Keep (fun k => k = cb) w ((w1.setCell ⟨cb, to_, none⟩ (.int .i16 (((c to_ : Nat) : Int) + 1))).setCell ⟨cb, from_, none⟩ (.int .i16 (((c from_ : Nat) : Int) - 1)))) from
                ⟨hdn, hI3, by omega, hkk _ _ _ (hkk _ _ _ hK)⟩)
              have HPT := (show Hid (IsA w1 cb 89 .i16 i (fun i => ((c i : Nat) : Int)) ∧ potF (fr fs) c i < potF (fr fs) (fun k => if k = from_ then c from_ - 1 else if k = to_ then c to_ + 1 else c k) i ∧ potF (fr fs) (fun k => if k = from_ then c from_ - 1 else if k = to_ then c to_ + 1 else c k) i ≤ potMax) from ⟨hA, hpm, hpb⟩)
              have ct := hA.cell to_ m1
              have ft := hA.frozen to_
              have cf := hA.cell from_ l1
              have ff := hA.frozen from_
              have hct : ((c to_ : Nat) : Int) ≤ 4096 := by have := (hI to_ m1).2.2; omega
              have hcf : ((c from_ : Nat) : Int) ≤ 4096 := by have := (hI from_ l1).2.2; omega
              have hcl : (2 : Int) ≤ ((c from_ : Nat) : Int) := by omega
              have htI : (to_ : Int) < (i : Int) := by omega
              have hfI : (from_ : Int) < (i : Int) := by omega
              have hne2 : from_ ≠ to_ := fun h => hne h.symm
              have hglI : (loss : Int) < (gain : Int) := by omega
              have hp0 : ¬ (0 : Int) < 0 := by omega
              clear hA hI hsum hK m2 m3 m4 hmost hleast hkk hup hdn hI2 hI3 hs1 hs2 efr hpm hpb HC l2 l3 l3' htwo hp hq
              go_wp2_with fail
              go_roundw
              case rel => exact ⟨0, _, rfl, by omega, by omega, HG⟩
              case measure => exact far_same HPT.out.1 HG.out.1 HPT.out.2.1 HPT.out.2.2
            · have hglI : ¬ (loss : Int) < (gain : Int) := by omega
              have hp0 : ¬ (0 : Int) < 0 := by omega
              clear hp hq hA hI hsum hK m2 m3 m4 hmost hleast hkk
              go_wp2_with fail
              refine bodyPost_ret (results_none rfl _ _ _) rfl ?_
              obtain ⟨hA, hI, hsum, hK⟩ := HC.out
              exact ⟨rfl, c, hA, hI, by omega, hK⟩

end Go.Proofs.YtgaepmmpedaaiaaGreatDoor

namespace Go.Proofs.YtgaepmmpedaaiaaGreatDoor
open Go.RowKit Go.Shelf

theorem usedN_le (f : Nat → Nat) (n : Nat) : usedC f n ≤ n := by
  have := sumN_le (fun i => if 0 < f i then 1 else 0) n 1 (fun i _ => by split <;> omega)
  unfold usedC; omega

set_option maxRecDepth 100000 in
set_option maxHeartbeats 1000000 in
theorem sumOf_any (a : Option Addr) (cap gb off : Nat) (fs : List Int) (w : World) (hR : RowI w .u32 a cap gb off fs) (hu : U32 fs) (hl : fs.length ≤ 256) :
    Calls Tryz.prog 103 #[.slice a fs.length cap] w fun e w' => e = .returned (.tuple #[.int .u64 ((sumN (fr fs) fs.length : Nat) : Int), .int .i64 ((usedC (fr fs) fs.length : Nat) : Int)]) ∧ w' = w := by
  have HH := (show Hid (RowI w .u32 a cap gb off fs ∧ U32 fs) from ⟨hR, hu⟩)
  obtain ⟨n, hn⟩ : ∃ n, n = fs.length := ⟨_, rfl⟩
  rw [← hn] at hl ⊢
  have HN := (show Hid (n = fs.length) from hn)
  have hnI : (n : Int) ≤ 256 := by omega
  clear hR hu hn
  go_enter Tryz.func103, Tryz.ntmps103
  go_wp2
  go_loop [2, 3, 8] (fun v2 v3 v8 => ∃ i : Nat, v8 = .int .i64 (i : Int) ∧ v2 = .int .u64 ((sumN (fr fs) i : Nat) : Int) ∧ v3 = .int .i64 ((usedC (fr fs) i : Nat) : Int) ∧ i ≤ n) (fun _ _ v8 => n - (intOf v8).toNat)
  case atStart => exact ⟨0, rfl, rfl, rfl, Nat.zero_le _⟩
  case round =>
    obtain ⟨i, rfl, rfl, rfl, hi⟩ := hrel
    have hsb : sumN (fr fs) i ≤ i * 4294967296 := sumN_le _ i _ (fun j _ => by have := fr_lt HH.out.2 j; omega)
    have hub := usedN_le (fr fs) i
    have hsI : ((sumN (fr fs) i : Nat) : Int) ≤ 1099511627776 := by omega
    have huI : ((usedC (fr fs) i : Nat) : Int) ≤ 256 := by omega
    by_cases hlt : i < n
    · have hix : i < fs.length := by have := HN.out; omega
      obtain rfl := HH.out.1.here hix
      have c0 := HH.out.1.fr HH.out.2 i hix
      have hfi := fr_lt HH.out.2 i
      have hltI : (i : Int) < (n : Int) := by omega
      have hfI : ((fr fs i : Nat) : Int) < 4294967296 := by omega
      have HS := (show Hid (sumN (fr fs) (i + 1) = sumN (fr fs) i + fr fs i ∧ usedC (fr fs) (i + 1) = usedC (fr fs) i + (if 0 < fr fs i then 1 else 0)) from ⟨rfl, rfl⟩)
      clear hsb hub
      generalize fr fs i = x at *
      generalize sumN (fr fs) i = si at *
      generalize usedC (fr fs) i = ui at *
      by_cases h0 : 0 < x
      · have h0I : 0 < (x : Int) := by omega
        go_wp2_with fail
        go_round
        case rel => exact ⟨i + 1, by go_num, by rw [HS.out.1]; go_num, by rw [HS.out.2, if_pos h0]; go_num, by omega⟩
        case measure => simp [intOf]; omega
      · have h0I : ¬ 0 < (x : Int) := by omega
        go_wp2_with fail
        go_round
        case rel => exact ⟨i + 1, by go_num, by rw [HS.out.1]; go_num, by rw [HS.out.2, if_neg h0]; go_num, by omega⟩
        case measure => simp [intOf]; omega
    · obtain rfl : i = n := by omega
      have hltI : ¬ (i : Int) < (i : Int) := by omega
      go_wp2
      go_ret2
      exact ⟨rfl, rfl⟩

/-- May freqs be given counts? -/
def ableF (fs : List Int) (log : Int) : Bool := decide (fs.length ≤ 256 ∧ 5 ≤ log ∧ log ≤ 12 ∧ 1 ≤ usedC (fr fs) fs.length ∧ usedC (fr fs) fs.length ≤ 2 ^ log.toNat)

end Go.Proofs.YtgaepmmpedaaiaaGreatDoor

namespace Go.Proofs.YtgaepmmpedaaiaaGreatDoor
open Go.RowKit Go.Shelf

/-- The whole part of a symbol's share, and 1 at least. -/
def partF (f : Nat → Nat) (T l i : Nat) : Nat := if 0 < f i then max (f i * 2 ^ l / T) 1 else 0
theorem part_le (f : Nat → Nat) (T l i : Nat) (hl : l ≤ 12) (hf : f i ≤ T) (_hT : 0 < T) : partF f T l i ≤ 4096 ∧ f i * 2 ^ l / T ≤ 4096 := by
  have h1 : f i * 2 ^ l / T ≤ 4096 := by
    have h2 : f i * 2 ^ l ≤ T * 4096 := Nat.mul_le_mul hf (Nat.pow_le_pow_right (n := 2) (j := 12) (by omega) hl)
    exact Nat.div_le_of_le_mul h2
  unfold partF
  refine ⟨?_, h1⟩
  split <;> omega
theorem part_inv (f : Nat → Nat) (T l n : Nat) (hl : l ≤ 12) (hf : ∀ i, i < n → f i ≤ T) (hT : 0 < T) : InvC f (partF f T l) n := fun i hi => by
  refine ⟨fun h => ?_, fun h => ?_, (part_le f T l i hl (hf i hi) hT).1⟩
  · unfold partF; rw [if_pos h]; omega
  · unfold partF; rw [if_neg (by omega)]
theorem run_make22 (n : Nat) (h : n ≤ 256) (w : World) : (Instr.makeSlice 55 (.int .i64 (n : Int)) (.int .i64 (n : Int))).run Tryz.prog w = .ok (.slice (some ⟨w.heap.size, 0, none⟩) n n) (w.alloc (.cells (madeCells #[.int .i16 0] n) 89)) :=
  run_make_row' 55 89 (.int .i16 0) 2 Tryz.underlying55 info42 rfl .i64 .i64 n (by omega) (by omega) w
theorem isA_new42 (w : World) (n : Nat) : IsA (w.alloc (.cells (madeCells #[.int .i16 0] n) 89)) w.heap.size 89 .i16 n (fun _ => 0) :=
  ⟨_, World.alloc_heap_new w _, size_madeCells _ _, fun i hi => by simp [madeCells, hi, Nat.mod_one]⟩

section
attribute [local go_sem] maxSem_eq
set_option maxRecDepth 100000 in
set_option maxHeartbeats 2000000 in
theorem wholeParts_any (a : Option Addr) (cap gb off : Nat) (fs : List Int) (l T : Nat) (w : World) (hR : RowI w .u32 a cap gb off fs) (hu : U32 fs) (hl : fs.length ≤ 256) (hl12 : l ≤ 12) (hT : T = sumN (fr fs) fs.length) (hT0 : 0 < T) :
    Calls Tryz.prog 104 #[.slice a fs.length cap, .int .u64 (T : Int), .int .i64 (l : Int)] w fun e w' => e = .returned (.slice (some ⟨w.heap.size, 0, none⟩) fs.length fs.length) ∧ IsA w' w.heap.size 89 .i16 fs.length (fun i => ((partF (fr fs) T l i : Nat) : Int)) ∧ Keep noBlock w w' := by
  have hTb : T ≤ 256 * 4294967296 := by
    rw [hT]
    exact Nat.le_trans (sumN_le _ _ 4294967296 (fun j _ => by have := fr_lt hu j; omega)) (Nat.mul_le_mul_right _ hl)
  have HH := (show Hid (RowI w .u32 a cap gb off fs ∧ U32 fs ∧ ∀ i, i < fs.length → fr fs i ≤ T) from ⟨hR, hu, fun i hi => by rw [hT]; exact sumN_ge _ _ i hi⟩)
  obtain ⟨n, hn⟩ : ∃ n, n = fs.length := ⟨_, rfl⟩
  rw [← hn] at hl ⊢
  have HN := (show Hid (n = fs.length) from hn)
  have hnI : (n : Int) ≤ 256 := by omega
  have hlI : (l : Int) ≤ 12 := by omega
  have hTI : (T : Int) ≤ 1099511627776 := by omega
  have hT0I : 0 < (T : Int) := by omega
  have hTnb : ((T : Int) == 0) = false := by rw [beq_eq_false_iff_ne]; omega
  have hmk := fun W => run_make22 n hl W
  clear hR hu hn hT
  go_enter Tryz.func104, Tryz.ntmps104
  go_wp2_with fail
  have hA0 := isA_new42 w n
  have hK0 : Keep noBlock w (w.alloc (.cells (madeCells #[.int .i16 0] n) 89)) := (Keep.refl _ w).alloc _
  generalize w.alloc (.cells (madeCells #[.int .i16 0] n) 89) = W1 at hA0 hK0 ⊢
  obtain ⟨cb, hcb⟩ : ∃ cb, cb = w.heap.size := ⟨_, rfl⟩
  rw [← hcb] at hA0 ⊢
  have HCB := (show Hid (cb = w.heap.size) from hcb)
  have HA0 := (show Hid (IsA W1 cb 89 .i16 n (fun _ => 0) ∧ Keep noBlock w W1) from ⟨hA0, hK0⟩)
  clear hcb hA0 hK0 hmk
  go_loopw [15] (fun v15 wr => ∃ i : Nat, v15 = .int .i64 (i : Int) ∧ i ≤ n ∧ Hid (IsA wr cb 89 .i16 n (fun j => (((if j < i then partF (fr fs) T l j else 0) : Nat) : Int)) ∧ Keep noBlock w wr)) (fun v15 _ => n - (intOf v15).toNat)
  case atStart => exact ⟨0, rfl, Nat.zero_le _, HA0.out.1.congr (fun j _ => by simp), HA0.out.2⟩
  case round =>
    clear HA0
    obtain ⟨i, rfl, hi, HC⟩ := hrel
    by_cases hlt : i < n
    · have hix : i < fs.length := by have := HN.out; omega
      obtain ⟨hR, hu, hfT⟩ := HH.out
      have hR2 := hR.keep HC.out.2 (fun _ h => h)
      obtain rfl := hR2.here hix
      have c0 := hR2.fr hu i hix
      have hfi := fr_lt hu i
      have hfTi := hfT i hix
      have hpl := part_le (fr fs) T l i hl12 hfTi hT0
      have hltI : (i : Int) < (n : Int) := by omega
      have hfI : ((fr fs i : Nat) : Int) < 4294967296 := by omega
      have hAc : ∀ (W : World) (v : Int), v = ((partF (fr fs) T l i : Nat) : Int) → IsA (wr.setCell ⟨cb, i, none⟩ (.int .i16 v)) cb 89 .i16 n (fun j => (((if j < i + 1 then partF (fr fs) T l j else 0) : Nat) : Int)) := fun W v hv => by
        refine (HC.out.1.set i v).congr (fun j _ => ?_)
        by_cases e : j = i
        · subst e; rw [if_pos rfl, if_pos (by omega)]; exact hv
        · rw [if_neg e]
          by_cases hj : j < i
          · rw [if_pos hj, if_pos (by omega)]
          · rw [if_neg hj, if_neg (by omega)]
      by_cases h0 : 0 < fr fs i
      · have h0I : 0 < ((fr fs i : Nat) : Int) := by omega
        obtain ⟨y, hy⟩ : ∃ y, y = fr fs i * 2 ^ l := ⟨_, rfl⟩
        obtain ⟨q, hq⟩ : ∃ q, q = y / T := ⟨_, rfl⟩
        obtain ⟨m, hm⟩ : ∃ m, m = max q 1 := ⟨_, rfl⟩
        have hyb : y ≤ 4294967296 * 4096 := by rw [hy]; exact Nat.mul_le_mul (by omega) (Nat.pow_le_pow_right (n := 2) (j := 12) (by omega) hl12)
        have hyI : ((fr fs i : Nat) : Int) * 2 ^ l = (y : Int) := by rw [hy]; simp
        have hqI : (y : Int) / (T : Int) = (q : Int) := by rw [hq]; simp
        have hq2 : q ≤ 4096 := by rw [hq, hy]; exact hpl.2
        have hmx := fun W => maxSem_run .u64 #[104, 104] 104 (q : Int) 1 (m : Int) (by omega) W
        have hpm : partF (fr fs) T l i = m := by unfold partF; rw [if_pos h0, hm, hq, hy]
        have hyB : (y : Int) ≤ 17592186044416 := by omega
        have hqB : (q : Int) ≤ 4096 := by omega
        have hmB : (m : Int) ≤ 4096 := by omega
        have ci := HC.out.1.cell i hlt
        have fi := HC.out.1.frozen i
        have HG := (show Hid (IsA (wr.setCell ⟨cb, i, none⟩ (.int .i16 (m : Int))) cb 89 .i16 n (fun j => (((if j < i + 1 then partF (fr fs) T l j else 0) : Nat) : Int)) ∧ Keep noBlock w (wr.setCell ⟨cb, i, none⟩ (.int .i16 (m : Int)))) from
          ⟨hAc wr _ (by rw [hpm]), HC.out.2.trans (Keep.setCell (S := fun k => k = cb) (p := ⟨cb, i, none⟩) (Keep.refl _ wr) (fun _ => rfl) _) (fun j hj e => by have := HCB.out; omega)⟩)
        clear hR hu hfT hR2 hfi hfTi hpl hAc hy hq hm hyb hq2 hpm HC
        generalize fr fs i = x at *
        go_wp2_with fail
        go_roundw
        case rel => exact ⟨i + 1, by go_num, by omega, HG⟩
        case measure => simp [intOf]; omega
      · have h0I : ¬ 0 < ((fr fs i : Nat) : Int) := by omega
        have HG := (show Hid (IsA wr cb 89 .i16 n (fun j => (((if j < i + 1 then partF (fr fs) T l j else 0) : Nat) : Int)) ∧ Keep noBlock w wr) from by
          refine ⟨HC.out.1.congr (fun j _ => ?_), HC.out.2⟩
          by_cases e : j = i
          · subst e
            rw [if_neg (by omega), if_pos (by omega)]
            have : partF (fr fs) T l j = 0 := by unfold partF; rw [if_neg h0]
            rw [this]
          · by_cases hj : j < i
            · rw [if_pos hj, if_pos (by omega)]
            · rw [if_neg hj, if_neg (by omega)])
        clear hR hu hfT hR2 hfi hfTi hpl hAc HC
        generalize fr fs i = x at *
        go_wp2_with fail
        go_roundw
        case rel => exact ⟨i + 1, by go_num, by omega, HG⟩
        case measure => simp [intOf]; omega
    · obtain rfl : i = n := by omega
      have hltI : ¬ (i : Int) < (i : Int) := by omega
      go_wp2
      go_ret
      rw [← HCB.out]
      exact ⟨rfl, HC.out.1.congr (fun j hj => by rw [if_pos hj]), HC.out.2⟩
end

/-- A count, or -1, where a symbol is rarer than its one state. -/
def markF (f c : Nat → Nat) (T l i : Nat) : Int := if c i = 1 ∧ f i * 2 ^ l < T then -1 else ((c i : Nat) : Int)

set_option maxRecDepth 100000 in
set_option maxHeartbeats 2000000 in
theorem markRare_any (cb : Nat) (c : Nat → Nat) (a : Option Addr) (cap gb off : Nat) (fs : List Int) (l T : Nat) (w : World) (hA : IsA w cb 89 .i16 fs.length (fun i => ((c i : Nat) : Int))) (hR : RowI w .u32 a cap gb off fs) (hgb : fs ≠ [] → gb ≠ cb) (hu : U32 fs) (hl : fs.length ≤ 256) (hl12 : l ≤ 12) (hTb : T ≤ 1099511627776) (hc : ∀ i, i < fs.length → c i ≤ 4096) :
    Calls Tryz.prog 106 #[.slice (some ⟨cb, 0, none⟩) fs.length fs.length, .slice a fs.length cap, .int .u64 (T : Int), .int .i64 (l : Int)] w fun e w' => e = .returned (.tuple #[]) ∧ IsA w' cb 89 .i16 fs.length (markF (fr fs) c T l) ∧ Keep (fun k => k = cb) w w' := by
  have HH := (show Hid (RowI w .u32 a cap gb off fs ∧ (fs ≠ [] → gb ≠ cb) ∧ U32 fs ∧ ∀ i, i < fs.length → c i ≤ 4096) from ⟨hR, hgb, hu, hc⟩)
  have HA0 := (show Hid (IsA w cb 89 .i16 fs.length (fun i => ((c i : Nat) : Int))) from hA)
  obtain ⟨n, hn⟩ : ∃ n, n = fs.length := ⟨_, rfl⟩
  rw [← hn] at hl HA0 ⊢
  have HN := (show Hid (n = fs.length) from hn)
  have hnI : (n : Int) ≤ 256 := by omega
  have hlI : (l : Int) ≤ 12 := by omega
  have hTI : (T : Int) ≤ 1099511627776 := by omega
  clear hR hu hn hA hgb hc
  go_enter Tryz.func106, Tryz.ntmps106
  go_wp2_with fail
  go_loopw [12] (fun v12 wr => ∃ i : Nat, v12 = .int .i64 (i : Int) ∧ i ≤ n ∧ Hid (IsA wr cb 89 .i16 n (fun j => if j < i then markF (fr fs) c T l j else ((c j : Nat) : Int)) ∧ Keep (fun k => k = cb) w wr)) (fun v12 _ => n - (intOf v12).toNat)
  case atStart => exact ⟨0, rfl, Nat.zero_le _, HA0.out.congr (fun j _ => by simp), Keep.refl _ _⟩
  case round =>
    clear HA0
    obtain ⟨i, rfl, hi, HC⟩ := hrel
    by_cases hlt : i < n
    · have hix : i < fs.length := by have := HN.out; omega
      obtain ⟨hR, hgb, hu, hc⟩ := HH.out
      have hR2 := hR.keep HC.out.2 hgb
      obtain rfl := hR2.here hix
      have c0 := hR2.fr hu i hix
      have hfi := fr_lt hu i
      have hltI : (i : Int) < (n : Int) := by omega
      have hfI : ((fr fs i : Nat) : Int) < 4294967296 := by omega
      have ci := HC.out.1.cell i hlt
      rw [if_neg (by omega)] at ci
      have fi := HC.out.1.frozen i
      have hci := hc i hix
      have hcI : ((c i : Nat) : Int) ≤ 4096 := by omega
      obtain ⟨y, hy⟩ : ∃ y, y = fr fs i * 2 ^ l := ⟨_, rfl⟩
      have hyb : y ≤ 4294967296 * 4096 := by rw [hy]; exact Nat.mul_le_mul (by omega) (Nat.pow_le_pow_right (n := 2) (j := 12) (by omega) hl12)
      have hyI : ((fr fs i : Nat) : Int) * 2 ^ l = (y : Int) := by rw [hy]; simp
      have hyB : (y : Int) ≤ 17592186044416 := by omega
      by_cases hm : c i = 1 ∧ y < T
      · have hmk : markF (fr fs) c T l i = -1 := by unfold markF; rw [← hy, if_pos hm]
        have h1b : (((c i : Nat) : Int) == 1) = true := by rw [hm.1]; rfl
        have h2I : (y : Int) < (T : Int) := by omega
        have HG := (show Hid (IsA (wr.setCell ⟨cb, i, none⟩ (.int .i16 (-1))) cb 89 .i16 n (fun j => if j < i + 1 then markF (fr fs) c T l j else ((c j : Nat) : Int)) ∧ Keep (fun k => k = cb) w (wr.setCell ⟨cb, i, none⟩ (.int .i16 (-1)))) from by
          refine ⟨(HC.out.1.set i (-1)).congr (fun j _ => ?_), Keep.setCell (S := fun k => k = cb) (p := ⟨cb, i, none⟩) HC.out.2 (fun _ => rfl) _⟩
          by_cases e : j = i
          · subst e; rw [if_pos rfl, if_pos (by omega), hmk]
          · rw [if_neg e]
            by_cases hj : j < i
            · rw [if_pos hj, if_pos (by omega)]
            · rw [if_neg hj, if_neg (by omega)])
        clear hR hgb hu hc hR2 hfi hci hy hyb hm hmk HC
        generalize fr fs i = x at *
        generalize c i = cc at *
        go_wp2_with fail
        go_roundw
        case rel => exact ⟨i + 1, by go_num, by omega, HG⟩
        case measure => simp [intOf]; omega
      · have hmk : markF (fr fs) c T l i = ((c i : Nat) : Int) := by unfold markF; rw [← hy, if_neg hm]
        have HG := (show Hid (IsA wr cb 89 .i16 n (fun j => if j < i + 1 then markF (fr fs) c T l j else ((c j : Nat) : Int)) ∧ Keep (fun k => k = cb) w wr) from by
          refine ⟨HC.out.1.congr (fun j _ => ?_), HC.out.2⟩
          by_cases e : j = i
          · subst e; rw [if_neg (by omega), if_pos (by omega), hmk]
          · by_cases hj : j < i
            · rw [if_pos hj, if_pos (by omega)]
            · rw [if_neg hj, if_neg (by omega)])
        by_cases h1 : c i = 1
        · have h1b : (((c i : Nat) : Int) == 1) = true := by rw [h1]; rfl
          have h2I : ¬ (y : Int) < (T : Int) := by have : ¬ y < T := fun h => hm ⟨h1, h⟩; omega
          clear hR hgb hu hc hR2 hfi hci hy hyb hm hmk HC h1
          generalize fr fs i = x at *
          generalize c i = cc at *
          go_wp2_with fail
          go_roundw
          case rel => exact ⟨i + 1, by go_num, by omega, HG⟩
          case measure => simp [intOf]; omega
        · have h1b : (((c i : Nat) : Int) == 1) = false := by rw [beq_eq_false_iff_ne]; omega
          clear hR hgb hu hc hR2 hfi hci hy hyb hm hmk HC h1
          generalize fr fs i = x at *
          generalize c i = cc at *
          go_wp2_with fail
          go_roundw
          case rel => exact ⟨i + 1, by go_num, by omega, HG⟩
          case measure => simp [intOf]; omega
    · obtain rfl : i = n := by omega
      have hltI : ¬ (i : Int) < (i : Int) := by omega
      go_wp2
      go_end0
      exact ⟨rfl, HC.out.1.congr (fun j hj => by rw [if_pos hj]), HC.out.2⟩

end Go.Proofs.YtgaepmmpedaaiaaGreatDoor
