/-
  LzmaPlain: a chunk of bytes as they are tells these bytes.
-/
import Derived.Test.YtinhlkioeadfdaaWak
import Derived.Test.YtinhlkioeadfdaaMde
namespace Go.Proofs.Ytinhlkioeadfdaa
open Go.RowKit Go.Shelf
set_option linter.unusedVariables false

set_option maxRecDepth 20000 in
set_option maxHeartbeats 8000000 in
theorem lplain_law (a : Option Addr) (cap gb off : Nat) (b : List Nat) (w : World) (hB : Bytes w a cap gb off b) :
    Calls Try.prog 5 #[.slice a b.length cap] w fun e w' => e = .returned (.bool true) ∧ Keep noBlock w w' := by
  have HWk := hid (wakes_any w)
  by_cases c3 : b.length = 0
  · have c3I : ((b.length : Int) == 0) = true := by rw [c3]; rfl
    clear hB c3
    generalize b.length = bl at *
    go_enter Try.func5, Try.ntmps5
    go_wp2_with fail
    refine HWk.out.mono ?_
    rintro e w1 ⟨rfl, k1⟩
    have HK := hid k1
    clear k1 HWk
    go_wp2_with fail
    go_ret
    exact ⟨rfl, HK.out⟩
  · have c3I : ((b.length : Int) == 0) = false := by simp; rintro rfl; simp at c3
    by_cases c1 : 4096 < b.length
    · have c1I : 4096 < (b.length : Int) := by omega
      clear hB
      generalize b.length = bl at *
      go_enter Try.func5, Try.ntmps5
      go_wp2_with fail
      refine HWk.out.mono ?_
      rintro e w1 ⟨rfl, k1⟩
      have HK := hid k1
      clear k1 HWk
      go_wp2_with fail
      go_ret
      exact ⟨rfl, HK.out⟩
    · have c1I : ¬ 4096 < (b.length : Int) := by omega
      clear HWk
      have HB := hid hB
      have HN := hid (new_state w)
      have HRo := hid (room_any 1 (by omega) (by omega))
      rw [show (((1 : Nat) : Int)) = (1 : Int) from rfl] at HRo
      have HPC := hid (plain_chunk b (lt_mem hB.lt) (ckOf 0 1 b.length) ⟨rfl, rfl, rfl, rfl⟩)
      have HL := (show Hid (b.length ≤ 4096 ∧ 1 ≤ b.length) from ⟨by omega, by omega⟩)
      clear hB
      generalize hbl : b.length = bl at *
      have HBL := hid hbl
      clear hbl
      go_enter Try.func5, Try.ntmps5
      go_wp2_with fail
      refine HN.out.mono ?_
      rintro e w1 ⟨rfl, s1, k1⟩
      have H1 := hid (And.intro s1 k1)
      clear s1 k1 HN
      go_wp2_with fail
      refine (HRo.out w1).mono ?_
      rintro e w2 ⟨wb, lb, rfl, b1, b2, b3⟩
      have H2 := hid (And.intro b1 (And.intro b2 b3))
      clear b1 b2 b3
      have HM := hid (made_any a cap gb off b w2 (HB.out.keep (H1.out.2.trans H2.out.2.2 (fun _ _ h => h)) (fun _ h => h)) (by have := HL.out.1; have := HBL.out; omega))
      rw [HBL.out] at HM
      go_wp2_with fail
      refine HM.out.mono ?_
      rintro e w3 ⟨u, rfl, o1, o2, o3, k3⟩
      obtain ⟨ua, uc, ug, hu, hBu, -⟩ := owns_bytes o1 o2 (by omega)
      subst hu
      have hS3 : IsS w3 w.heap.size (newS 3 0 2) even := (H1.out.1.keep H2.out.2.2 (fun h => h)).keep k3 (fun h => h)
      have hW3 : IsW w3 wb lb 1 (.slice none 0 0) [] := H2.out.2.1.keep k3 (fun h => h) (fun _ _ h => h)
      have kk3 : Keep noBlock w w3 := (H1.out.2.trans H2.out.2.2 (fun _ _ h => h)).trans k3 (fun _ _ h => h)
      have HC := hid (chunk_good w.heap.size wb lb 1 (.slice none 0 0) (newS 3 0 2) even [] 0 ua uc ug 0 (madeB b) bl w3 hS3 hW3 hBu (by omega) (by omega) (by omega) HL.out.2 (by have := HL.out.1; omega) HPC.out.1)
      have HK3 := (show Hid (Keep noBlock w w3 ∧ w.heap.size ≤ wb) from ⟨kk3, by have := H1.out.2.size; have := H2.out.1; omega⟩)
      clear o1 o2 o3 k3 hBu hS3 hW3 kk3 HM H1 H2
      go_wp2_with fail
      refine HC.out.mono ?_
      intro e w4 hP
      obtain ⟨o, h1, h2⟩ := HPC.out.2
      rw [show chunkM (ckOf 0 1 bl) (newS 3 0 2) even [] (madeB b) = some o from h1] at hP
      obtain ⟨a4, cap4, g4, off4, rv4, rfl, q1, -, -, -, -, q6⟩ := hP
      rw [h2] at q1
      rw [h2, HBL.out]
      have kw : Keep noBlock w w4 := HK3.out.1.trans q6 (by
        rintro i hi (e | e | e)
        · omega
        · have := HK3.out.2; omega
        · cases e)
      have hc1 := run_convB q1.src
      have hc2 := run_convB (HB.out.keep kw (fun _ h => h)).src
      rw [HBL.out] at hc1 hc2
      have HK4 := hid kw
      clear q1 q6 kw h1 h2 HC HPC
      generalize strOf b = S at *
      go_wp2_with fail
      refine (wakes_any w4).mono ?_
      rintro e w5 ⟨rfl, k5⟩
      have HK5 := hid (HK4.out.trans k5 (fun _ _ h => h))
      clear k5
      go_wp2_with fail
      go_ret
      exact ⟨rfl, HK5.out⟩

end Go.Proofs.Ytinhlkioeadfdaa
