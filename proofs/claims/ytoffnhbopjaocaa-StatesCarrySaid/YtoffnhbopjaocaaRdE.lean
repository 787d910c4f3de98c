/-
  Read of a description, as Write gives it, whatever stands behind.
-/
import Derived.Test.YtoffnhbopjaocaaRdD
import Derived.Test.YtoffnhbopjaocaaSet
namespace Go.Proofs.Ytoffnhbopjaocaa
open Go.RowKit Go.Shelf

theorem left_i (rb g : Nat) (bs : List Nat) (p y : Nat) (hy : bs.length * 8 = p + y) (w : World) (h : IsR w rb g bs p) :
    Calls Try.prog 45 #[.pointer (some ⟨rb, 0, none⟩)] w fun e w' => e = .returned (.int .i64 (y : Int)) ∧ ∃ n, w' = w.drewN n := by
  have := left_any rb g bs p w h
  rw [show (bs.length : Int) * 8 - (p : Int) = (y : Int) from by omega] at this
  exact this

section
attribute [local go_sem] sliceSem_eq minSem_eq
set_option maxRecDepth 100000 in
set_option maxHeartbeats 4000000 in
theorem read_good (base : Nat) (v : Value) (bs : List Nat) (xs : List Int) (l ml ms : Nat) (w : World) (hown : w.ownsRow base 5 1 v bs.length (u8s bs)) (hbs : ∀ j : Nat, bs[j]?.getD 0 < 256) (hlen : bs.length ≤ 140737488355327) (hb : okT xs (l : Int) = true)
    (hL : Laid (bs.take 481) 0 (dscAll xs l)) (hml : l ≤ ml) (hml2 : ml ≤ 12) (hms : xs.length ≤ ms + 1) (hms2 : ms ≤ 255) :
    Calls Try.prog 13 #[v, .int .i64 (ml : Int), .int .i64 (ms : Int)] w fun e w' => ∃ gc cap', e = .returned (.tuple #[.slice (some ⟨gc, 0, none⟩) xs.length cap', .int .i64 (l : Int), .int .i64 ((((dscAll xs l).length + 7) / 8 : Nat) : Int), .int .i64 0]) ∧ w.heap.size ≤ gc ∧
      RowI w' .i16 (some ⟨gc, 0, none⟩) cap' gc 0 xs ∧ Keep noBlock w w' := by
  obtain ⟨hG, hT, hne, hxl, hl5, hl12⟩ := okT_good hb
  have hL4 := hL.left
  have hLr := hL.right
  have hle := hL.le
  rw [low_length] at hLr
  have hdl : (dscAll xs l).length = 4 + (dsc xs.length (2 ^ l) xs).length := by unfold dscAll; rw [List.length_append, low_length]
  obtain ⟨k, hk⟩ : ∃ k, k = min bs.length 481 := ⟨_, rfl⟩
  have htl : (bs.take 481).length = k := by rw [List.length_take, hk]; omega
  rw [htl] at hle
  have hbne : bs.length ≠ 0 := by
    intro e
    omega
  rcases hown.2 with ⟨_, h0⟩ | ⟨g, cap, cur, rfl, hg0, hg, hr1, hr2, hr3, hr4⟩
  · exact absurd h0 hbne
  have hmin := fun W => minSem_run .i64 #[3, 3] 3 (bs.length : Int) 481 (k : Int) (by omega) W
  have hsl := fun W => run_high (t := 23) Try.underlying23 info5 (some ⟨g, 0, none⟩) bs.length cap k (by omega) W
  have hsrc : Src w (.slice (some ⟨g, 0, none⟩) k cap) (bs.take 481) := by
    refine .inr ⟨⟨g, 0, none⟩, cap, by rw [htl], obj_lt hg, fun j u hu => ?_⟩
    refine hown.cells (g := g) rfl j u ?_
    have e : u8s (bs.take 481) = (u8s bs).take 481 := by simp [u8s, List.map_take]
    rw [e, List.getElem?_take] at hu
    split at hu
    · exact hu
    · cases hu
  have hlt : ∀ j : Nat, (bs.take 481)[j]?.getD 0 < 256 := fun j => by
    rw [List.getElem?_take]
    split
    · exact hbs j
    · simp
  have HN := (show Hid (∀ W, Src W (.slice (some ⟨g, 0, none⟩) k cap) (bs.take 481) → _) from fun W hs => new_any (.slice (some ⟨g, 0, none⟩) k cap) (bs.take 481) (by omega) hlt W hs)
  have hn4 : numAt (bs.take 481) 0 4 = l - 5 := by
    rw [hL4.num 4 (Nat.le_refl _)]; exact Nat.mod_eq_of_lt (by omega)
  have hLr2 : Laid (bs.take 481) 4 (dsc xs.length (tot xs) xs) := by rw [hT]; simpa using hLr
  have hdl2 : (dscAll xs l).length = 4 + (dsc xs.length (tot xs) xs).length := by rw [hT]; exact hdl
  obtain ⟨E, hE⟩ : ∃ E, E = (dscAll xs l).length := ⟨_, rfl⟩
  rw [← hE] at hdl2 hle ⊢
  obtain ⟨y, hy⟩ : ∃ y, k * 8 = E + y := ⟨k * 8 - E, by omega⟩
  obtain ⟨u, hu⟩ : ∃ u, u = (E + 7) / 8 := ⟨_, rfl⟩
  obtain ⟨z, hz⟩ : ∃ z, z = y / 8 := ⟨_, rfl⟩
  have hzI : (y : Int) / 8 = (z : Int) := by omega
  have huI : (k : Int) - (z : Int) = (u : Int) := by omega
  rw [← hu]
  have HF := (show Hid (numAt (bs.take 481) 0 4 = l - 5 ∧ Laid (bs.take 481) 4 (dsc xs.length (tot xs) xs) ∧ E = 4 + (dsc xs.length (tot xs) xs).length ∧ Good xs ∧ (bs.take 481).length = k ∧ k * 8 = E + y ∧ 2 ^ l = tot xs ∧ 4 ≤ 8 * (bs.take 481).length) from ⟨hn4, hLr2, hdl2, hG, htl, hy, hT.symm, by rw [htl]; omega⟩)
  have hl5' : (5 : Int) + ((l - 5 : Nat) : Int) = (l : Int) := by omega
  obtain ⟨l5, hl5e⟩ : ∃ l5, l5 = l - 5 := ⟨_, rfl⟩
  rw [← hl5e] at hl5' HF
  have hlm : ¬ (ml : Int) < (l : Int) := by omega
  have hp : (2 : Int) ^ l = ((tot xs : Nat) : Int) := by rw [hT]; simp
  have hTb := hG.le
  obtain ⟨T, hTe⟩ : ∃ T, T = tot xs := ⟨_, rfl⟩
  rw [← hTe] at hp hTb
  have hTI : (T : Int) ≤ 4096 := by omega
  have HTE := (show Hid (T = tot xs) from hTe)
  have hd : decide (5 ≤ (ml : Int) ∧ (ml : Int) ≤ 12) = true := decide_eq_true ⟨by omega, by omega⟩
  have HIL := (show Hid (∀ w : World, Calls Try.prog 41 #[.int .i64 (ml : Int)] w fun e w' => e = .returned (.bool true) ∧ w' = w) from fun w => by have := isLog_any (ml : Int) w; rwa [hd] at this)
  have hm0 : ¬ (ms : Int) < 0 := by omega
  have hm2 : ¬ (256 : Int) ≤ (ms : Int) := by omega
  have hkI : (k : Int) ≤ 481 := by omega
  have hzb : (z : Int) ≤ 481 := by omega
  have hyb : (y : Int) ≤ 4000 := by omega
  have hl5b : (l5 : Int) ≤ 7 := by omega
  have hlI : (l : Int) ≤ 12 := by omega
  have HMS := (show Hid (xs.length ≤ ms + 1 ∧ ms ≤ 255) from ⟨hms, hms2⟩)
  clear hL hL4 hLr hle hdl htl hbne hr1 hr2 hr3 hr4 hlt hn4 hLr2 hdl2 hE hy hu hz hG hT hTe hd hb hl5e hk hown hg hms hms2
  generalize bs.length = bl at *
  go_enter Try.func13, Try.ntmps13
  go_wp2_with (go_at_call 41; refine (HIL.out _).mono ?_; rintro e w' ⟨rfl, rfl⟩)
  refine (HN.out _ hsrc).mono ?_
  rintro e w1 ⟨rb, gg, rfl, hrb, hgg, hI1, hK1⟩
  have HI1 := (show Hid (IsR w1 rb gg (bs.take 481) 0 ∧ Keep noBlock w' w1 ∧ w'.heap.size ≤ rb ∧ w'.heap.size ≤ gg) from ⟨hI1, hK1, hrb, hgg⟩)
  clear hI1 hK1 hrb hgg hsrc
  go_wp2_with fail
  refine (bits_take_i rb gg (bs.take 481) 0 4 l5 _ rfl (by omega) w1 HI1.out.1 (by have := HF.out.2.2.2.2.2.2.2; omega) HF.out.1).mono ?_
  rintro e w2 ⟨rfl, hI2, hK2⟩
  rw [Nat.zero_add] at hI2
  have HI2 := (show Hid (IsR w2 rb gg (bs.take 481) 4 ∧ Keep (fun k => k = rb) w1 w2) from ⟨hI2, hK2⟩)
  clear hI2 hK2
  go_wp2_with fail
  rw [HTE.out]
  refine (readCounts_any rb gg (bs.take 481) 4 ms xs.length xs w2 HI2.out.1 (by obtain ⟨_, _, _, ho⟩ := HI2.out.1.obj; exact obj_lt ho) HF.out.2.2.2.1 HF.out.2.1 (Nat.le_refl _) HMS.out.1 HMS.out.2).mono ?_
  rintro e w3 ⟨gc, cap', rfl, hgc, hRow, hI3, hK3⟩
  rw [← HF.out.2.2.1] at hI3
  have HI3 := (show Hid (w2.heap.size ≤ gc ∧ RowI w3 .i16 (some ⟨gc, 0, none⟩) cap' gc 0 xs ∧ IsR w3 rb gg (bs.take 481) E ∧ Keep (fun k => k = rb) w2 w3) from ⟨hgc, hRow, hI3, hK3⟩)
  clear hgc hRow hI3 hK3
  go_wp2_with fail
  refine (left_i rb gg (bs.take 481) E y (by rw [HF.out.2.2.2.2.1]; exact HF.out.2.2.2.2.2.1) w3 HI3.out.2.2.1).mono ?_
  rintro e w4 ⟨rfl, nq, rfl⟩
  go_wp2_with fail
  obtain ⟨h1, h2, h3, h4⟩ := HI3.out
  obtain ⟨i1, i2, i3, i4⟩ := HI1.out
  have k1 : Keep noBlock w' w3 := (i2.trans HI2.out.2 (fun i hi e => by omega)).trans h4 (fun i hi e => by omega)
  have hz2 : w'.heap.size ≤ w2.heap.size := Nat.le_trans i2.size HI2.out.2.size
  exact bodyPost_ret (v := .tuple #[.slice (some ⟨gc, 0, none⟩) xs.length cap', .int .i64 (l : Int), .int .i64 (u : Int), .int .i64 0]) (by simp [results, Try.results13, go_sem]) rfl ⟨gc, cap', rfl, by omega, h2.keep (keep_drewN w3 nq) (fun _ h => h), k1.trans (keep_drewN w3 nq) (fun _ _ h => h)⟩
end

end Go.Proofs.Ytoffnhbopjaocaa
