/-
  Read of a description: one count.
-/
import Derived.Test.YtoffnhbopjaocaaWrE
namespace Go.Proofs.Ytoffnhbopjaocaa
open Go.RowKit Go.Shelf

theorem bitL_low (x m k : Nat) (h : k < m) : bitL (low x m) k = bitOf x k := by
  unfold bitL low upto
  rw [List.getElem?_map, List.getElem?_range h]
  rfl
theorem numF_bitOf (x m : Nat) : numF (fun k => bitOf x k) m = x % 2 ^ m := by
  induction m with
  | zero => simp [numF, Nat.mod_one]
  | succ m ih =>
    simp only [numF]
    rw [ih, Nat.mod_pow_succ, bitOf, Nat.mul_comm]
/-- The bits B stand in the bytes from bit p on. -/
def Laid (bs : List Nat) (p : Nat) (B : List (Fin 2)) : Prop := p + B.length ≤ 8 * bs.length ∧ ∀ k, k < B.length → bitAt bs (p + k) = bitL B k
theorem Laid.left {bs : List Nat} {p : Nat} {A B : List (Fin 2)} (h : Laid bs p (A ++ B)) : Laid bs p A := by
  obtain ⟨h1, h2⟩ := h
  rw [List.length_append] at h1 h2
  exact ⟨by omega, fun k hk => by rw [h2 k (by omega), bitL_app _ _ _ hk]⟩
theorem Laid.right {bs : List Nat} {p : Nat} {A B : List (Fin 2)} (h : Laid bs p (A ++ B)) : Laid bs (p + A.length) B := by
  obtain ⟨h1, h2⟩ := h
  rw [List.length_append] at h1 h2
  exact ⟨by omega, fun k hk => by rw [Nat.add_assoc, h2 (A.length + k) (by omega), bitL_behind]⟩
/-- A beginning of a number, read. -/
theorem Laid.num {bs : List Nat} {p x m : Nat} (h : Laid bs p (low x m)) (k : Nat) (hk : k ≤ m) : numAt bs p k = x % 2 ^ k := by
  rw [numAt_numF, ← numF_bitOf]
  refine numF_congr _ _ _ (fun i hi => ?_)
  rw [h.2 i (by rw [low_length]; omega), bitL_low x m i (by omega)]
theorem Laid.one {bs : List Nat} {p x m : Nat} (h : Laid bs p (low x m)) (k : Nat) (hk : k < m) : numAt bs (p + k) 1 = x / 2 ^ k % 2 := by
  have h1 := h.2 k (by rw [low_length]; omega)
  rw [bitL_low x m k hk] at h1
  rw [numAt_numF]
  show numF (fun j => bitAt bs (p + k + j)) 1 = _
  simp only [numF, Nat.add_zero, h1]
  simp [bitOf]
theorem Laid.le {bs : List Nat} {p : Nat} {B : List (Fin 2)} (h : Laid bs p B) : p + B.length ≤ 8 * bs.length := h.1

theorem bits_take_i (rb g : Nat) (bs : List Nat) (p m x : Nat) (mi : Int) (hmi : mi = (m : Int)) (hm : m ≤ 56) (w : World) (h : IsR w rb g bs p) (hp : p + m ≤ 8 * bs.length) (hx : numAt bs p m = x) :
    Calls Try.prog 43 #[.pointer (some ⟨rb, 0, none⟩), .int .i64 mi] w fun e w' => e = .returned (.tuple #[.int .u64 (x : Int), .int .i64 0]) ∧ IsR w' rb g bs (p + m) ∧ Keep (fun k => k = rb) w w' := by
  subst hmi hx; exact bits_take rb g bs p m hm w h hp

set_option maxHeartbeats 2000000 in
theorem readCount_any (rb g : Nat) (bs : List Nat) (p R v : Nat) (w : World) (h : IsR w rb g bs p) (hL : Laid bs p (valBits R v)) (hR1 : 1 ≤ R) (hR : R ≤ 4096) (hv : v ≤ R + 1) :
    Calls Try.prog 64 #[.pointer (some ⟨rb, 0, none⟩), .int .i64 (R : Int)] w fun e w' => e = .returned (.tuple #[.int .i16 ((v : Int) - 1), .int .i64 0]) ∧ IsR w' rb g bs (p + (valBits R v).length) ∧ Keep (fun k => k = rb) w w' := by
  have HV := (show Hid (∀ w : World, _) from fun w => valueBits_any R hR w)
  have hm2 := valM_ge R hR1
  have hm13 := valM_le R hR
  have hT := valT_eq R
  have hH := val_half R hR1
  have hcs := valBits_cases R v
  have hp : (2 : Nat) ^ valM R ≤ 2 ^ 13 := Nat.pow_le_pow_right (by omega) hm13
  generalize valBits R v = B at hcs hL ⊢
  generalize valM R = m at *
  generalize valT R = t at *
  obtain ⟨k, hm⟩ : ∃ k, m = k + 1 := ⟨m - 1, by omega⟩
  have hm1 : m - 1 = k := by omega
  rw [hm1] at hH hcs
  have hk : (m : Int) - 1 = (k : Int) := by omega
  have hk12 : (k : Int) ≤ 12 := by omega
  have hpk : (2 : Int) ^ k = ((2 ^ k : Nat) : Int) := by simp
  obtain ⟨P, hP⟩ : ∃ P : Nat, P = 2 ^ k := ⟨_, rfl⟩
  rw [← hP] at hpk hcs hH
  have hPb : P ≤ 4096 := by omega
  have hPI : (P : Int) ≤ 4096 := by omega
  have htP : (t : Int) ≤ (P : Int) := by omega
  have hvv : (v : Int) ≤ 4097 := by omega
  have HK := (show Hid (m = k + 1 ∧ k ≤ 12 ∧ P = 2 ^ k ∧ IsR w rb g bs p ∧ Laid bs p B) from ⟨hm, by omega, hP, h, hL⟩)
  have kq : ∀ q, Keep (fun k => k = rb) w (w.drewN q) := fun q => (keep_drewN w q).mono (fun _ _ h => h.elim)
  rcases hcs with ⟨h1, e1⟩ | ⟨h1, h2, e1⟩ | ⟨h1, h2, e1⟩
  · have g1 : ¬ (t : Int) ≤ (v : Int) := by omega
    subst e1
    have hn : numAt bs p k = v := by rw [hL.num k (Nat.le_refl _), ← hP, Nat.mod_eq_of_lt (by omega)]
    have hle := hL.le
    rw [low_length] at hle ⊢
    have HN := (show Hid (numAt bs p k = v ∧ p + k ≤ 8 * bs.length) from ⟨hn, hle⟩)
    have HQ := (show Hid (∀ q, Keep (fun k => k = rb) w (w.drewN q)) from kq)
    clear hP hm h hT hH hp hm2 hm13 hn hle hL hm1 kq
    go_enter Try.func64, Try.ntmps64
    go_wp2_with (first | (go_at_call 59; refine (HV.out _).mono ?_; rintro e w' ⟨rfl, q, rfl⟩) | (go_at_call 43; refine (bits_take_i rb g bs p k v _ rfl (by have := HK.out; omega) _ (HK.out.2.2.2.1.drewN _) HN.out.2 HN.out.1).mono ?_; rintro e w' ⟨rfl, hI2, hK2⟩))
    go_ret2
    exact ⟨rfl, hI2, (HQ.out q).trans hK2 (fun _ _ h => h)⟩
  · have g1 : (t : Int) ≤ (v : Int) := by omega
    subst e1
    have hn : numAt bs p k = v := by rw [hL.num k (by omega), ← hP, Nat.mod_eq_of_lt (by omega)]
    have hn2 : numAt bs (p + k) 1 = 0 := by rw [hL.one k (by omega), ← hP, Nat.div_eq_of_lt (by omega)]
    have hle := hL.le
    rw [low_length] at hle ⊢
    have HN := (show Hid (numAt bs p k = v ∧ p + k ≤ 8 * bs.length ∧ numAt bs (p + k) 1 = 0 ∧ p + k + 1 ≤ 8 * bs.length ∧ p + k + 1 = p + m) from ⟨hn, by omega, hn2, by omega, by omega⟩)
    have HQ := (show Hid (∀ q, Keep (fun k => k = rb) w (w.drewN q)) from kq)
    clear hP hm h hT hH hp hm2 hm13 hn hle hL hm1 kq hn2
    go_enter Try.func64, Try.ntmps64
    go_wp2_with (go_at_call 59; refine (HV.out _).mono ?_; rintro e w' ⟨rfl, q, rfl⟩)
    refine (bits_take_i rb g bs p k v _ rfl (by have := HK.out; omega) _ (HK.out.2.2.2.1.drewN _) HN.out.2.1 HN.out.1).mono ?_
    rintro e w1 ⟨rfl, hI1, hK1⟩
    go_wp2_with fail
    refine (bits_take_i rb g bs (p + k) 1 0 _ rfl (by omega) _ hI1 HN.out.2.2.2.1 HN.out.2.2.1).mono ?_
    rintro e w2 ⟨rfl, hI2, hK2⟩
    go_wp2_with fail
    go_ret2
    rw [HN.out.2.2.2.2] at hI2
    exact ⟨rfl, hI2, ((HQ.out q).trans hK1 (fun _ _ h => h)).trans hK2 (fun _ _ h => h)⟩
  · obtain ⟨u, hu⟩ : ∃ u, v + t = u + P := ⟨v + t - P, by omega⟩
    have g1 : (t : Int) ≤ (u : Int) := by omega
    have g2 : (u : Int) + ((P : Int) - (t : Int)) = (v : Int) := by omega
    have huP : u < P := by omega
    have huI : (u : Int) ≤ 4096 := by omega
    subst e1
    have hn : numAt bs p k = u := by rw [hL.num k (by omega), ← hP, hu, Nat.add_mod_right, Nat.mod_eq_of_lt huP]
    have hn2 : numAt bs (p + k) 1 = 1 := by rw [hL.one k (by omega), ← hP, hu, Nat.add_div_right _ (by omega), Nat.div_eq_of_lt huP]
    have hle := hL.le
    rw [low_length] at hle ⊢
    have HN := (show Hid (numAt bs p k = u ∧ p + k ≤ 8 * bs.length ∧ numAt bs (p + k) 1 = 1 ∧ p + k + 1 ≤ 8 * bs.length ∧ p + k + 1 = p + m) from ⟨hn, by omega, hn2, by omega, by omega⟩)
    have HQ := (show Hid (∀ q, Keep (fun k => k = rb) w (w.drewN q)) from kq)
    clear hP hm h hT hH hp hm2 hm13 hn hle hL hm1 kq hn2 hu huP
    go_enter Try.func64, Try.ntmps64
    go_wp2_with (go_at_call 59; refine (HV.out _).mono ?_; rintro e w' ⟨rfl, q, rfl⟩)
    refine (bits_take_i rb g bs p k u _ rfl (by have := HK.out; omega) _ (HK.out.2.2.2.1.drewN _) HN.out.2.1 HN.out.1).mono ?_
    rintro e w1 ⟨rfl, hI1, hK1⟩
    go_wp2_with fail
    refine (bits_take_i rb g bs (p + k) 1 1 _ rfl (by omega) _ hI1 HN.out.2.2.2.1 HN.out.2.2.1).mono ?_
    rintro e w2 ⟨rfl, hI2, hK2⟩
    go_wp2_with fail
    go_ret2
    rw [HN.out.2.2.2.2] at hI2
    exact ⟨rfl, hI2, ((HQ.out q).trans hK1 (fun _ _ h => h)).trans hK2 (fun _ _ h => h)⟩

end Go.Proofs.Ytoffnhbopjaocaa
