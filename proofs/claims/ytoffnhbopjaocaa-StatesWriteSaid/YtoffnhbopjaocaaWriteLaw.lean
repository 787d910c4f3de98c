/-
  StatesWrite answers true: both Writes and both Tables tell the same.
-/
import Derived.Test.YtoffnhbopjaocaaWak
import Derived.Test.YtoffnhbopjaocaaRefE
import Derived.Test.YtoffnhbopjaocaaTbq
namespace Go.Proofs.Ytoffnhbopjaocaa
open Go.RowKit Go.Shelf

set_option maxHeartbeats 400000 in
/-- cells of no tables. -/
theorem cells_nil (w : World) : Calls Try.prog 11 #[.slice none 0 0, .slice none 0 0] w fun e w' => e = .returned (.bool true) ∧ w' = w := by
  go_enter Try.func11, Try.ntmps11
  go_wp2
  go_loop [13] (fun vi => vi = .int .i64 0) (fun _ => 0)
  case atStart => rfl
  case round =>
    subst hrel
    go_wp2
    go_ret
    exact ⟨rfl, rfl⟩

set_option maxRecDepth 100000 in
set_option maxHeartbeats 4000000 in
theorem statesWrite_bad (a : Option Addr) (cap gb off : Nat) (xs : List Int) (log : Int) (w : World) (h : RowI w .i16 a cap gb off xs) (hx : I16 xs) (hb : okT xs log = false) :
    Calls Try.prog 3 #[.slice a xs.length cap, .int .i64 log] w fun e w' => e = .returned (.bool true) ∧ Keep noBlock w w' := by
  have H1 := (show Hid (∀ W, RowI W .i16 a cap gb off xs → _) from fun W h => write_bad a cap gb off xs log W h hx hb)
  have H2 := (show Hid (∀ W, RowI W .i16 a cap gb off xs → _) from fun W h => writeQ_bad a cap gb off xs log W h hx hb)
  have H3 := (show Hid (∀ W, RowI W .i16 a cap gb off xs → _) from fun W h => table_bad a cap gb off xs log W h hx hb)
  have H4 := (show Hid (∀ W, RowI W .i16 a cap gb off xs → _) from fun W h => tableQ_bad a cap gb off xs log W h hx hb)
  have HR := (show Hid (RowI w .i16 a cap gb off xs) from h)
  have hcv : ∀ W : World, (convert 23 9 (.slice none 0 0)).run Try.prog W = .ok (.string (strOf [])) W := fun W => run_conv (.inl ⟨rfl, rfl⟩)
  generalize xs.length = n at *
  clear h
  go_enter Try.func3, Try.ntmps3
  go_wp2_with fail
  refine (H1.out _ HR.out).mono ?_
  rintro e w1 ⟨rfl, rfl⟩
  go_wp2_with fail
  refine (H2.out _ HR.out).mono ?_
  rintro e w2 ⟨rfl, rfl⟩
  go_wp2_with fail
  refine (H3.out _ HR.out).mono ?_
  rintro e w3 ⟨rfl, rfl⟩
  go_wp2_with fail
  refine (H4.out _ HR.out).mono ?_
  rintro e w4 ⟨rfl, rfl⟩
  go_wp2_with fail
  refine (cells_nil _).mono ?_
  rintro e w5 ⟨rfl, rfl⟩
  go_wp2_with fail
  refine (wakes_any _).mono ?_
  rintro e w6 ⟨rfl, hk⟩
  go_wp2_with fail
  go_ret
  exact ⟨rfl, hk⟩

set_option maxRecDepth 100000 in
set_option maxHeartbeats 4000000 in
theorem statesWrite_good (a : Option Addr) (cap gb off : Nat) (xs : List Int) (l : Nat) (w : World) (h : RowI w .i16 a cap gb off xs) (hx : I16 xs) (hb : okT xs (l : Int) = true) :
    Calls Try.prog 3 #[.slice a xs.length cap, .int .i64 (l : Int)] w fun e w' => e = .returned (.bool true) ∧ Keep noBlock w w' := by
  have H1 := (show Hid (∀ W, RowI W .i16 a cap gb off xs → _) from fun W h => write_good a cap gb off xs l W h hx hb)
  have H2 := (show Hid (∀ W, RowI W .i16 a cap gb off xs → _) from fun W h => writeQ_good a cap gb off xs l W h hx hb)
  have H3 := (show Hid (∀ W, RowI W .i16 a cap gb off xs → _) from fun W h => table_good a cap gb off xs l W h hx hb)
  have H4 := (show Hid (∀ W, RowI W .i16 a cap gb off xs → _) from fun W h => tableQ_good a cap gb off xs l W h hx hb)
  have HR := (show Hid (∀ W, Keep noBlock w W → RowI W .i16 a cap gb off xs) from fun W hk => h.keep hk (fun _ h => h))
  have hl12 := (okT_good hb).2.2.2.2.2
  have hSb : 2 ^ l ≤ 4096 := Nat.pow_le_pow_right (n := 2) (j := 12) (by omega) hl12
  generalize xs.length = n at *
  obtain ⟨S, hS⟩ : ∃ S, S = 2 ^ l := ⟨_, rfl⟩
  rw [← hS] at H3 H4 hSb
  clear h hS
  generalize pack (alignL (dscAll xs l)) = B at *
  go_enter Try.func3, Try.ntmps3
  go_wp2_with fail
  refine (H1.out _ (HR.out w (Keep.refl _ _))).mono ?_
  rintro e w1 ⟨v1, rfl, hown1, hK1⟩
  go_wp2_with fail
  refine (H2.out _ (HR.out w1 hK1)).mono ?_
  rintro e w2 ⟨v2, rfl, hown2, hK2⟩
  have k2 := hK1.trans' hK2
  go_wp2_with fail
  refine (H3.out _ (HR.out w2 k2)).mono ?_
  rintro e w3 ⟨g3, cap3, rfl, hg3, hc3, hT3, hK3⟩
  have k3 := k2.trans' hK3
  go_wp2_with fail
  refine (H4.out _ (HR.out w3 k3)).mono ?_
  rintro e w4 ⟨g4, cap4, rfl, hg4, hc4, hT4, hK4⟩
  have k4 := k3.trans' hK4
  have hcv1 := run_conv (Src.of_owns (owns_keep hown1 ((hK2.trans' hK3).trans' hK4) (fun _ _ h => h)))
  have hcv2 := run_conv (Src.of_owns (owns_keep hown2 (hK3.trans' hK4) (fun _ _ h => h)))
  obtain ⟨sa1, cp1, rfl⟩ := owns_form hown1
  obtain ⟨sa2, cp2, rfl⟩ := owns_form hown2
  have HC := (show Hid (RowT w4 g3 S _ _ _ ∧ RowT w4 g4 S _ _ _ ∧ Keep noBlock w w4) from ⟨hT3.keep hK4 (fun h => h), hT4, k4⟩)
  clear hT3 hT4 k4 k3 k2 hK1 hK2 hK3 hK4 hown1 hown2 H1 H2 H3 H4 HR
  generalize B.length = Bl at *
  generalize strOf B = sB at *
  go_wp2_with fail
  refine (cells_true g3 g4 S cap3 cap4 _ _ _ w4 HC.out.1 HC.out.2.1 hSb).mono ?_
  rintro e w5 ⟨rfl, q, rfl⟩
  go_wp2_with fail
  refine (wakes_any _).mono ?_
  rintro e w6 ⟨rfl, hk⟩
  go_wp2_with fail
  go_ret
  exact ⟨rfl, (HC.out.2.2.trans' (keep_drewN w4 q)).trans' hk⟩

theorem statesWrite_any (a : Option Addr) (cap gb off : Nat) (xs : List Int) (log : Int) (w : World) (h : RowI w .i16 a cap gb off xs) (hx : I16 xs) :
    Calls Try.prog 3 #[.slice a xs.length cap, .int .i64 log] w fun e w' => e = .returned (.bool true) ∧ Keep noBlock w w' := by
  cases hb : okT xs log with
  | false => exact statesWrite_bad a cap gb off xs log w h hx hb
  | true =>
    have h5 := (of_decide_eq_true hb).1
    obtain ⟨l, rfl⟩ := Int.eq_ofNat_of_zero_le (show 0 ≤ log by omega)
    exact statesWrite_good a cap gb off xs l w h hx hb

end Go.Proofs.Ytoffnhbopjaocaa
