/-
  mostGain and leastLoss.
-/
import Derived.Test.YtoffnhbopjaocaaSav
import Derived.Test.YtoffnhbopjaocaaArr
namespace Go.Proofs.Ytoffnhbopjaocaa
open Go.RowKit Go.Shelf

/-- Numbers of 32 bits. -/
def U32 (fs : List Int) : Prop := ∀ i : Nat, 0 ≤ fs[i]?.getD 0 ∧ fs[i]?.getD 0 ≤ 4294967295
/-- How often a symbol is there. -/
def fr (fs : List Int) (i : Nat) : Nat := (fs[i]?.getD 0).toNat
theorem fr_lt {fs : List Int} (h : U32 fs) (i : Nat) : fr fs i < 4294967296 := by have := h i; unfold fr; omega
theorem RowI.fr {w : World} {a : Option Addr} {cap gb off : Nat} {fs : List Int} (h : RowI w .u32 a cap gb off fs) (hu : U32 fs) (i : Nat) (hi : i < fs.length) : w.cell? ⟨gb, off + i, none⟩ = some (.int .u32 ((fr fs i : Nat) : Int)) := by
  rw [h.cells i hi]
  have := hu i
  unfold Go.Proofs.Ytoffnhbopjaocaa.fr
  congr 2
  omega

/-- What mostGain finds. -/
def IsMost (f c : Nat → Nat) (n s g : Nat) : Prop := (g = 0 ∧ s = 0 ∧ ∀ j, j < n → f j * savedN (c j) = 0) ∨ (s < n ∧ g = f s * savedN (c s) ∧ 0 < g)
/-- What leastLoss finds. -/
def IsLeast (f c : Nat → Nat) (n s g : Nat) : Prop := (g = 18446744073709551615 ∧ s = 0 ∧ ∀ j, j < n → c j < 2) ∨ (s < n ∧ g = f s * savedN (c s - 1) ∧ 2 ≤ c s)

theorem gain_lt (f c x : Nat) (hf : f < 4294967296) (hc : c ≤ 4096) (h0 : c = 0 → f = 0) (hx : x = f * savedN c) : x < 9223372036854775808 := by
  by_cases h : c = 0
  · rw [hx, h0 h]; simp
  · have h1 := (saved_facts c (by omega) hc).2.1
    have : f * savedN c ≤ 4294967295 * 2147483647 := Nat.mul_le_mul (by omega) (by omega)
    omega

set_option maxRecDepth 100000 in
set_option maxHeartbeats 2000000 in
theorem mostGain_any (cb : Nat) (c : Nat → Nat) (a : Option Addr) (cap gb off : Nat) (fs : List Int) (w : World) (hA : IsA w cb 42 .i16 fs.length (fun i => ((c i : Nat) : Int))) (hR : RowI w .u32 a cap gb off fs) (hu : U32 fs) (hl : fs.length ≤ 256) (hc : ∀ i, i < fs.length → c i ≤ 4096) (h0 : ∀ i, i < fs.length → c i = 0 → fr fs i = 0) :
    Calls Try.prog 66 #[.slice (some ⟨cb, 0, none⟩) fs.length fs.length, .slice a fs.length cap] w fun e w' => ∃ s g, e = .returned (.tuple #[.int .i64 ((s : Nat) : Int), .int .u64 ((g : Nat) : Int)]) ∧ IsMost (fr fs) c fs.length s g ∧ w' = w := by
  have HH := (show Hid (IsA w cb 42 .i16 fs.length (fun i => ((c i : Nat) : Int)) ∧ RowI w .u32 a cap gb off fs ∧ U32 fs ∧ (∀ i, i < fs.length → c i ≤ 4096) ∧ (∀ i, i < fs.length → c i = 0 → fr fs i = 0)) from ⟨hA, hR, hu, hc, h0⟩)
  obtain ⟨n, hn⟩ : ∃ n, n = fs.length := ⟨_, rfl⟩
  rw [← hn] at hl ⊢
  have HN := (show Hid (n = fs.length) from hn)
  clear hA hR hu hc h0 hn
  go_enter Try.func66, Try.ntmps66
  go_wp2
  go_loop [4, 5, 11] (fun v4 v5 v11 => ∃ (i s g : Nat), v11 = .int .i64 (i : Int) ∧ v4 = .int .i64 (s : Int) ∧ v5 = .int .u64 (g : Int) ∧ i ≤ n ∧ g < 9223372036854775808 ∧ Hid (IsMost (fr fs) c i s g)) (fun _ _ v11 => n - (intOf v11).toNat)
  case atStart => exact ⟨0, 0, 0, rfl, rfl, rfl, Nat.zero_le _, by decide, .inl ⟨rfl, rfl, fun j hj => by omega⟩⟩
  case round =>
    obtain ⟨i, s, g, rfl, rfl, rfl, hi, hgb, HM⟩ := hrel
    by_cases hlt : i < n
    · obtain ⟨hA, hR, hu, hc, h0⟩ := HH.out
      have hix : i < fs.length := by have := HN.out; omega
      obtain rfl := hR.here hix
      have c0 := hR.fr hu i hix
      have c1 := hA.cell i hix
      have hci := hc i hix
      have hfi := fr_lt hu i
      have h0i := h0 i hix
      obtain ⟨x, hx⟩ : ∃ x, x = fr fs i * savedN (c i) := ⟨_, rfl⟩
      have hxb := gain_lt (fr fs i) (c i) x hfi hci h0i hx
      have hxI : ((fr fs i : Nat) : Int) * ((savedN (c i) : Nat) : Int) = (x : Int) := by rw [hx]; simp
      have HS := (show Hid (∀ w : World, _) from fun w => saved_any (c i) hci w)
      have HX := (show Hid (x = fr fs i * savedN (c i)) from hx)
      have hsb := saved_lt (c i) hci
      have hltI : (i : Int) < (n : Int) := by omega
      have hxbI : (x : Int) < 9223372036854775808 := by omega
      have hgbI : (g : Int) < 9223372036854775808 := by omega
      have hnI : (n : Int) ≤ 256 := by omega
      have hcI : ((c i : Nat) : Int) ≤ 4096 := by omega
      have hfI : ((fr fs i : Nat) : Int) < 4294967296 := by omega
      have hsI : ((savedN (c i) : Nat) : Int) < 8589934592 := by omega
      clear hA hR hu hc h0 h0i hx hci hfi hsb hxb
      by_cases hgt : g < x
      · have hgtI : (g : Int) < (x : Int) := by omega
        have HM2 := (show Hid (IsMost (fr fs) c (i + 1) i x) from .inr ⟨by omega, HX.out, by omega⟩)
        generalize fr fs i = fi at *
        generalize savedN (c i) = si at *
        generalize c i = ci at *
        go_wp2_with (go_at_call 75; refine (HS.out _).mono ?_; rintro e w' ⟨rfl, rfl⟩)
        go_round
        case rel => exact ⟨i + 1, i, x, by go_num, rfl, rfl, by omega, by omega, HM2⟩
        case measure => simp [intOf]; omega
      · have hgtI : ¬ (g : Int) < (x : Int) := by omega
        have HM2 := (show Hid (IsMost (fr fs) c (i + 1) s g) from by
          rcases HM.out with ⟨e1, e2, e3⟩ | ⟨e1, e2, e3⟩
          · refine .inl ⟨e1, e2, fun j hj => ?_⟩
            by_cases e : j = i
            · subst e; rw [← HX.out]; omega
            · exact e3 j (by omega)
          · exact .inr ⟨by omega, e2, e3⟩)
        generalize fr fs i = fi at *
        generalize savedN (c i) = si at *
        generalize c i = ci at *
        go_wp2_with (go_at_call 75; refine (HS.out _).mono ?_; rintro e w' ⟨rfl, rfl⟩)
        go_round
        case rel => exact ⟨i + 1, s, g, by go_num, rfl, rfl, by omega, by omega, HM2⟩
        case measure => simp [intOf]; omega
    · obtain rfl : i = n := by omega
      have hltI : ¬ (i : Int) < (i : Int) := by omega
      go_wp2
      go_ret2
      exact ⟨s, g, rfl, HM.out, rfl⟩

set_option maxRecDepth 100000 in
set_option maxHeartbeats 2000000 in
theorem leastLoss_any (cb : Nat) (c : Nat → Nat) (a : Option Addr) (cap gb off : Nat) (fs : List Int) (w : World) (hA : IsA w cb 42 .i16 fs.length (fun i => ((c i : Nat) : Int))) (hR : RowI w .u32 a cap gb off fs) (hu : U32 fs) (hl : fs.length ≤ 256) (hc : ∀ i, i < fs.length → c i ≤ 4096) :
    Calls Try.prog 67 #[.slice (some ⟨cb, 0, none⟩) fs.length fs.length, .slice a fs.length cap] w fun e w' => ∃ s g, e = .returned (.tuple #[.int .i64 ((s : Nat) : Int), .int .u64 ((g : Nat) : Int)]) ∧ IsLeast (fr fs) c fs.length s g ∧ g ≤ 18446744073709551615 ∧ w' = w := by
  have HH := (show Hid (IsA w cb 42 .i16 fs.length (fun i => ((c i : Nat) : Int)) ∧ RowI w .u32 a cap gb off fs ∧ U32 fs ∧ (∀ i, i < fs.length → c i ≤ 4096)) from ⟨hA, hR, hu, hc⟩)
  obtain ⟨n, hn⟩ : ∃ n, n = fs.length := ⟨_, rfl⟩
  rw [← hn] at hl ⊢
  have HN := (show Hid (n = fs.length) from hn)
  clear hA hR hu hc hn
  go_enter Try.func67, Try.ntmps67
  go_wp2
  go_loop [4, 5, 11] (fun v4 v5 v11 => ∃ (i s g : Nat), v11 = .int .i64 (i : Int) ∧ v4 = .int .i64 (s : Int) ∧ v5 = .int .u64 (g : Int) ∧ i ≤ n ∧ g ≤ 18446744073709551615 ∧ Hid (IsLeast (fr fs) c i s g)) (fun _ _ v11 => n - (intOf v11).toNat)
  case atStart => exact ⟨0, 0, 18446744073709551615, rfl, rfl, rfl, Nat.zero_le _, Nat.le_refl _, .inl ⟨rfl, rfl, fun j hj => by omega⟩⟩
  case round =>
    obtain ⟨i, s, g, rfl, rfl, rfl, hi, hgb, HM⟩ := hrel
    by_cases hlt : i < n
    · obtain ⟨hA, hR, hu, hc⟩ := HH.out
      have hix : i < fs.length := by have := HN.out; omega
      obtain rfl := hR.here hix
      have c0 := hR.fr hu i hix
      have c1 := hA.cell i hix
      have hci := hc i hix
      have hfi := fr_lt hu i
      have hltI : (i : Int) < (n : Int) := by omega
      have hgbI : (g : Int) ≤ 18446744073709551615 := by omega
      have hnI : (n : Int) ≤ 256 := by omega
      have hcI : ((c i : Nat) : Int) ≤ 4096 := by omega
      have hfI : ((fr fs i : Nat) : Int) < 4294967296 := by omega
      by_cases h2 : c i < 2
      · have h2I : ((c i : Nat) : Int) < 2 := by omega
        have HM2 := (show Hid (IsLeast (fr fs) c (i + 1) s g) from by
          rcases HM.out with ⟨e1, e2, e3⟩ | ⟨e1, e2, e3⟩
          · refine .inl ⟨e1, e2, fun j hj => ?_⟩
            by_cases e : j = i
            · subst e; exact h2
            · exact e3 j (by omega)
          · exact .inr ⟨by omega, e2, e3⟩)
        clear hA hR hu hc hci hfi
        generalize fr fs i = fi at *
        generalize c i = ci at *
        go_wp2_with fail
        go_round
        case rel => exact ⟨i + 1, s, g, by go_num, rfl, rfl, by omega, hgb, HM2⟩
        case measure => simp [intOf]; omega
      · have h2I : ¬ ((c i : Nat) : Int) < 2 := by omega
        obtain ⟨d, hd⟩ : ∃ d, c i = d + 1 := ⟨c i - 1, by omega⟩
        have hdI : ((c i : Nat) : Int) - 1 = (d : Int) := by omega
        obtain ⟨x, hx⟩ : ∃ x, x = fr fs i * savedN d := ⟨_, rfl⟩
        have hxb := gain_lt (fr fs i) d x hfi (by omega) (by omega) hx
        have hxI : ((fr fs i : Nat) : Int) * ((savedN d : Nat) : Int) = (x : Int) := by rw [hx]; simp
        have HS := (show Hid (∀ w : World, _) from fun w => saved_any d (by omega) w)
        have hsb := saved_lt d (by omega)
        have hsI : ((savedN d : Nat) : Int) < 8589934592 := by omega
        have hxbI : (x : Int) < 9223372036854775808 := by omega
        have HX := (show Hid (x = fr fs i * savedN (c i - 1)) from by rw [hd, Nat.add_sub_cancel]; exact hx)
        have hdb : (d : Int) ≤ 4096 := by omega
        by_cases hgt : x < g
        · have hgtI : (x : Int) < (g : Int) := by omega
          have HM2 := (show Hid (IsLeast (fr fs) c (i + 1) i x) from .inr ⟨by omega, HX.out, by omega⟩)
          clear hA hR hu hc hci hfi hx hxb hsb hd
          generalize fr fs i = fi at *
          generalize savedN d = si at *
          generalize c i = ci at *
          go_wp2_with (go_at_call 75; refine (HS.out _).mono ?_; rintro e w' ⟨rfl, rfl⟩)
          go_round
          case rel => exact ⟨i + 1, i, x, by go_num, rfl, rfl, by omega, by omega, HM2⟩
          case measure => simp [intOf]; omega
        · have hgtI : ¬ (x : Int) < (g : Int) := by omega
          have HM2 := (show Hid (IsLeast (fr fs) c (i + 1) s g) from by
            rcases HM.out with ⟨e1, e2, e3⟩ | ⟨e1, e2, e3⟩
            · omega
            · exact .inr ⟨by omega, e2, e3⟩)
          clear hA hR hu hc hci hfi hx hxb hsb hd
          generalize fr fs i = fi at *
          generalize savedN d = si at *
          generalize c i = ci at *
          go_wp2_with (go_at_call 75; refine (HS.out _).mono ?_; rintro e w' ⟨rfl, rfl⟩)
          go_round
          case rel => exact ⟨i + 1, s, g, by go_num, rfl, rfl, by omega, hgb, HM2⟩
          case measure => simp [intOf]; omega
    · obtain rfl : i = n := by omega
      have hltI : ¬ (i : Int) < (i : Int) := by omega
      go_wp2
      go_ret2
      exact ⟨s, g, rfl, HM.out, hgb, rfl⟩

end Go.Proofs.Ytoffnhbopjaocaa
