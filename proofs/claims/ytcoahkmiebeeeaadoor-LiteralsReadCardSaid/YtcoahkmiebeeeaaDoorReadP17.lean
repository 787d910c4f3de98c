/-
  LiteralsRead, walked: a literals section is read as the document says.
-/
import Derived.Test.YtcoahkmiebeeeaaDoorReadP16
namespace Go.Proofs.YtcoahkmiebeeeaaDoor
open Go.RowKit Go.Shelf
set_option linter.unusedVariables false

set_option maxRecDepth 100000 in
set_option maxHeartbeats 2000000 in
theorem lread_law (a : Option Addr) (cap gb off : Nat) (bs : List Nat) (a2 : Option Addr) (cap2 gb2 off2 : Nat) (ws : List Nat) (most : Int) (w : World) (hF : Frm w) (hB : Bytes w a cap gb off bs) (hB2 : Bytes w a2 cap2 gb2 off2 ws) (hl2 : ws.length ≤ 140737488355327) :
    Calls Tryd.prog 3 #[.slice a bs.length cap, .slice a2 ws.length cap2, .int .i64 most] w fun e w' => e = .returned (.bool true) ∧ Keep noBlock w w' := by
  obtain ⟨c, u, V, h1, h2, h3⟩ := read_both2 (bodyN bs)
  have hok : c = 0 → u ≤ (bodyN bs).length ∧ V.length ≤ 256 ∧ ∀ j : Nat, V[j]?.getD 0 < 256 := fun h => ⟨(h1 h).1, code_ok (h1 h).2⟩
  obtain ⟨r, hr⟩ : ∃ r, r = litR c u V bs ws most := ⟨_, rfl⟩
  have HP := hid (show ∀ W, Keep noBlock w W → Calls Tryd.prog 4 #[.slice a bs.length cap, .slice a2 ws.length cap2, .int .i64 most] W fun e w' => LAns r W e w' from fun W hW => by
    rw [hr]; exact readL_any a cap gb off bs a2 cap2 gb2 off2 ws most c u V W (hF.keep hW) (hB.keep hW (fun _ h => h)) (hB2.keep hW (fun _ h => h)) hl2 h2 hok)
  have HD := hid (show ∀ W, Keep noBlock w W → Calls Tryd.prog 5 #[.slice a bs.length cap, .slice a2 ws.length cap2, .int .i64 most] W fun e w' => LAns r W e w' from fun W hW => by
    rw [hr]; exact readD2_any a cap gb off bs a2 cap2 gb2 off2 ws most c u V W (hB.keep hW (fun _ h => h)) (hB2.keep hW (fun _ h => h)) h3 hok)
  have HW := hid (show ∀ W, Keep noBlock w W → Calls Tryd.prog 6 #[] W fun e w' => e = .returned (.bool true) ∧ Keep noBlock W w' from fun W hW => wakesL_any W (hF.keep hW))
  generalize bs.length = n at *
  generalize ws.length = n2 at *
  clear h1 h2 h3 hok hr hF hB hB2 hl2
  go_enter Tryd.func3, Tryd.ntmps3
  go_wp2_with fail
  refine (HP.out _ (Keep.refl _ _)).mono ?_
  rintro e w1 ⟨hk1, a3, n3, c3, g3, o3, a4, n4, c4, g4, o4, rfl, hn3, hn4, hB3, hB4⟩
  have H1 := hid (show Keep noBlock w w1 ∧ n3 = r.2.1.length ∧ n4 = r.2.2.1.length ∧ Bytes w1 a3 c3 g3 o3 r.2.1 ∧ Bytes w1 a4 c4 g4 o4 r.2.2.1 from ⟨hk1, hn3, hn4, hB3, hB4⟩)
  clear hk1 hn3 hn4 hB3 hB4
  go_wp2_with fail
  refine (HD.out _ H1.out.1).mono ?_
  rintro e w2 ⟨hk2, a5, n5, c5, g5, o5, a6, n6, c6, g6, o6, rfl, hn5, hn6, hB5, hB6⟩
  obtain ⟨q1, q2, q3, q4, q5⟩ := H1.out
  have hs3 := run_convB ((q4.keep hk2 (fun _ h => h)).src)
  have hs4 := run_convB ((q5.keep hk2 (fun _ h => h)).src)
  have hs5 := run_convB hB5.src
  have hs6 := run_convB hB6.src
  rw [← q2] at hs3
  rw [← q3] at hs4
  rw [← hn5] at hs5
  rw [← hn6] at hs6
  have HK2 := hid (q1.trans' hk2)
  have HWk := hid (HW.out _ HK2.out)
  clear hk2 q1 q2 q3 q4 q5 hn5 hn6 hB5 hB6
  generalize strOf r.2.1 = S1 at *
  generalize strOf r.2.2.1 = S2 at *
  go_wp2_with fail
  refine HWk.out.mono ?_
  rintro e w3 ⟨rfl, hk3⟩
  have HK3 := hid (HK2.out.trans' hk3)
  clear hk3
  go_wp2_with fail
  go_ret
  exact ⟨rfl, HK3.out⟩
end Go.Proofs.YtcoahkmiebeeeaaDoor
