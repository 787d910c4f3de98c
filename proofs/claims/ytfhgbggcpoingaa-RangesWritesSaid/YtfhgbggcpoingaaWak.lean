/-
  The statements' example: three bits, no bits, a chance that learns.
-/
import Derived.Test.YtfhgbggcpoingaaEdr
import Derived.Test.YtfhgbggcpoingaaDen
namespace Go.Proofs.Ytfhgbggcpoingaa
open Go.RowKit Go.Shelf
set_option linter.unusedVariables false

/-- What an encoder of one's own turns is new. -/
theorem keep_new {w w1 w2 : World} {b : Nat} {v : Value} (h : Keep noBlock w w1) (hb : w.heap.size ≤ b) (hv : ∀ g, v.ownBlock = some g → w.heap.size ≤ g) (h2 : Keep (EncS b v) w1 w2) : Keep noBlock w w2 :=
  h.trans h2 (fun i hi e => by
    rcases e with q | q
    · omega
    · have := hv i q; omega)
theorem near_new {w w1 : World} {v v' : Value} (hs : w.heap.size ≤ w1.heap.size) (hv : ∀ g, v.ownBlock = some g → w.heap.size ≤ g) (h : Near w1 v v') : ∀ g, v'.ownBlock = some g → w.heap.size ≤ g := fun g hg => by
  rcases h with q | ⟨k, q, hk⟩
  · exact hv g (by rw [← q]; exact hg)
  · rw [q] at hg
    have : k = g := by simpa using hg
    omega

/-- The bytes of the example. -/
def exB : List Nat := (closeE (dirE 5 (bitsN 3) newE)).out
theorem ex_facts : 5 ≤ exB.length ∧ exB.length ≤ 10 ∧ exB[0]?.getD 0 = 0 ∧ (dirD (bitsN 3) (newD exB) 0).2 = 5 ∧ endE (ordD (dirD (bitsN 3) (newD exB) 0).1) = 0 ∧ endL (ordD (dirD (bitsN 3) (newD exB) 0).1) = 0 := by decide +kernel
theorem ex_none : (closeE newE).out = [0, 0, 0, 0, 0] := by decide +kernel
theorem ex_bit : oneD (ordD (newD [0, 0, 0, 0, 0])) (fairN 1024) = false ∧ learnN (fairN 1024) false = 1056 := by decide +kernel
theorem ex_many : manyE (dirE 5 (bitsN 3) newE) ≤ 10 ∧ manyE newE = 1 := by decide +kernel

set_option maxRecDepth 100000 in
set_option maxHeartbeats 4000000 in
theorem wakes_any (w : World) : Calls Try.prog 8 #[] w fun e w' => e = .returned (.bool true) ∧ Keep noBlock w w' := by
  obtain ⟨x1, x2, x3, x4, x5, x6⟩ := ex_facts
  obtain ⟨y1, y2⟩ := ex_many
  go_enter Try.func8, Try.ntmps8
  go_wp2_with fail
  refine (newE_any w).mono ?_
  rintro e w1 ⟨rfl, hE1, hK1⟩
  have hD := directE_any w.heap.size 5 3 newE _ w1 hE1 newE_ok (by omega) (by omega)
  have HK1 := hid hK1
  clear hE1 hK1
  go_wp2_with fail
  refine hD.mono ?_
  clear hD
  rintro e w2 ⟨rfl, v2, hE2, hN2, hK2⟩
  have hv2 := near_new HK1.out.size (fun g hg => by cases hg) hN2
  have HK2 := hid (keep_new HK1.out (Nat.le_refl _) (fun g hg => by cases hg) hK2)
  have hC := close_any w.heap.size _ v2 w2 hE2 (by omega)
  clear hE2 hK2 hN2 HK1
  go_wp2_with fail
  refine hC.mono ?_
  clear hC
  rintro e w3 ⟨u, v3, rfl, hown, hE3, hN3, hK3⟩
  have HK3 := hid (keep_new HK2.out (Nat.le_refl _) hv2 hK3)
  have hown' : w3.ownsRow w2.heap.size 5 1 u exB.length (u8s exB) := hown
  obtain ⟨a, cap, g, rfl, hB, -⟩ := owns_bytes (owns_base hown') (closeE_sh (dirE_ok 5 _ newE_ok)).out (by omega)
  have hND := newD_good a cap g 0 exB w3 hB x1 (by omega) x3
  clear hE3 hN3 hK3 hown hown' hB HK2 hv2
  generalize exB.length = bn at *
  go_wp2_with fail
  refine hND.mono ?_
  clear hND
  rintro e w4 ⟨b4, g4, rfl, hb4, hg4, -, hD4, hK4⟩
  have HK4 := hid (HK3.out.trans' hK4)
  have hDir := direct_any b4 g4 3 _ w4 hD4
  rw [x4] at hDir
  have hb4' : w.heap.size ≤ b4 := Nat.le_trans HK3.out.size hb4
  clear HK3 hD4 hK4 hb4 hg4
  go_wp2_with fail
  rw [show (((5 : Nat) : Int)) = (5 : Int) from rfl] at hDir
  refine hDir.mono ?_
  clear hDir
  rintro e w5 ⟨rfl, hD5, hK5⟩
  have HK5 := hid (HK4.out.trans hK5 (fun i hi e => by omega))
  have hEnd := end_any b4 g4 _ w5 hD5
  rw [x5, x6] at hEnd
  clear HK4 hD5 hK5
  go_wp2_with fail
  rw [show (((0 : Nat) : Int)) = (0 : Int) from rfl] at hEnd
  refine hEnd.mono ?_
  clear hEnd
  rintro e w6 ⟨rfl, hD6, hK6⟩
  have HK6 := hid (HK5.out.trans hK6 (fun i hi e => by omega))
  clear HK5 hD6 hK6
  go_wp2_with fail
  refine (newE_any w6).mono ?_
  rintro e w7 ⟨rfl, hE7, hK7⟩
  have HK7 := hid (HK6.out.trans' hK7)
  have hs6 := HK6.out.size
  have hC := close_any w6.heap.size newE _ w7 hE7 (by omega)
  clear hE7 hK7 HK6
  go_wp2_with fail
  refine hC.mono ?_
  clear hC
  rintro e w8 ⟨u8, v8, rfl, hown, hE8, hN8, hK8⟩
  have HK8 := hid (keep_new HK7.out hs6 (fun g hg => by cases hg) hK8)
  rw [ex_none] at hown
  have hs8 := HK8.out.size
  have hown0 := owns_base hown
  have HO := (show Hid (w8.ownsRow 0 5 1 u8 [0, 0, 0, 0, 0].length (u8s [0, 0, 0, 0, 0])) from hown0)
  clear hE8 hN8 hK8 HK7 hown hown0 hs6 hb4'
  obtain ⟨nb, hnb⟩ : ∃ nb, nb = w8.heap.size := ⟨_, rfl⟩
  have hmk := run_make_u8 5 5 (by omega) (by omega) (w8.alloc (.cells #[.int .u16 1024] 40))
  rw [show (((5 : Nat) : Int)) = (5 : Int) from rfl] at hmk
  go_wp2_with fail
  have hB9 := bytes_new (w8.alloc (.cells #[.int .u16 1024] 40)) [0, 0, 0, 0, 0] (u8s [0, 0, 0, 0, 0]).toArray (0, 0) 5 rfl rfl (by intro j; match j with | 0 => decide | 1 => decide | 2 => decide | 3 => decide | 4 => decide | j + 5 => simp) (by decide)
  rw [World.size_alloc] at hB9
  have hN9 := newD_good _ 5 _ 0 [0, 0, 0, 0, 0] _ hB9 (by decide) (by decide) rfl
  have HP := (show Hid (((w8.alloc (.cells #[.int .u16 1024] 40)).alloc (.cells (u8s [0, 0, 0, 0, 0]).toArray 5)).heap[w8.heap.size]? = some (.cells #[.int .u16 1024] 40 (0, 0)) ∧ Keep noBlock w ((w8.alloc (.cells #[.int .u16 1024] 40)).alloc (.cells (u8s [0, 0, 0, 0, 0]).toArray 5)) ∧ Keep noBlock w8 ((w8.alloc (.cells #[.int .u16 1024] 40)).alloc (.cells (u8s [0, 0, 0, 0, 0]).toArray 5)) ∧ w8.heap.size < ((w8.alloc (.cells #[.int .u16 1024] 40)).alloc (.cells (u8s [0, 0, 0, 0, 0]).toArray 5)).heap.size) from
    ⟨alloc_far (alloc_new w8 _) _, (HK8.out.alloc _).alloc _, ((Keep.refl _ w8).alloc _).alloc _, by rw [World.size_alloc, World.size_alloc]; omega⟩)
  refine hN9.mono ?_
  clear hN9 hB9 hmk
  generalize (w8.alloc (.cells #[.int .u16 1024] 40)).alloc (.cells (u8s [0, 0, 0, 0, 0]).toArray 5) = W9 at *
  rintro e w10 ⟨b10, g10, rfl, hb10, hg10, -, hD10, hK10⟩
  obtain ⟨p1, p2, p3, p4⟩ := HP.out
  have hp10 := hK10.obj p1 (fun h => h)
  have hbit := bitD_any b10 g10 w8.heap.size 0 1024 _ _ w10 hD10 hp10 rfl (by omega) (by omega)
  obtain ⟨z1, z2⟩ := ex_bit
  rw [z1, z2] at hbit
  have hs : Src w10 u8 [0, 0, 0, 0, 0] := Src.of_owns (owns_kept (owns_kept HO.out p3 (fun _ _ h => h)) hK10 (fun _ _ h => h))
  have hcv := run_conv hs
  have hst : strOf [0, 0, 0, 0, 0] = ⟨#[0, 0, 0, 0, 0]⟩ := rfl
  rw [hst] at hcv
  have HKA := hid (p2.trans' hK10)
  have hbw : w.heap.size ≤ b10 := by have := p2.size; omega
  clear hs HO HP hst p1 p2 p3 p4 hp10 hK10 hD10
  go_wp2_with fail
  refine hbit.mono ?_
  clear hbit
  rintro e w11 ⟨rfl, hD11, hp11, hK11⟩
  have cp : w11.cell? ⟨w8.heap.size, 0, none⟩ = some (.int .u16 1056) := cell_of hp11 0
  have HKB := hid (HKA.out.trans hK11 (fun i hi e => by rcases e with e | e <;> omega))
  clear hD11 hp11 hK11
  go_wp2_with fail
  go_ret
  exact ⟨rfl, HKB.out⟩

end Go.Proofs.Ytfhgbggcpoingaa
