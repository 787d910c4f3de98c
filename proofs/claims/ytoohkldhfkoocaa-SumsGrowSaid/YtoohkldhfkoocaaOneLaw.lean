/-
  SumsOne, the walk.
-/
import Derived.Test.YtoohkldhfkoocaaIn
import Derived.Test.YtoohkldhfkoocaaLin
import Derived.Test.YtoohkldhfkoocaaSrc
namespace Go.Proofs.Ytoohkldhfkoocaa
open Go.RowKit Go.Shelf

set_option linter.unusedVariables false
theorem own_cell {w : World} {g cap : Nat} {bs : List Nat} (h : w.ownsRow 0 5 1 (.slice (some ⟨g, 0, none⟩) bs.length cap) bs.length (u8s bs)) (i v : Nat) (hi : i < bs.length) (hv : bs[i]?.getD 0 = v) : w.cell? ⟨g, i, none⟩ = some (.int .u8 (v : Int)) := by
  have := h.cells (g := g) rfl i _ (u8s_at bs i hi)
  rw [add0, hv] at this
  exact this
theorem own_frozen {w : World} {g cap n : Nat} {xs : List Value} (h : w.ownsRow 0 5 1 (.slice (some ⟨g, 0, none⟩) n cap) n xs) (i : Nat) : w.frozen? ⟨g, i, none⟩ = false := by
  rcases h.2 with ⟨e, _⟩ | ⟨g', cap', cur, e, _, hg, _⟩
  · cases e
  · simp only [Value.slice.injEq, Option.some.injEq, Addr.mk.injEq] at e
    obtain ⟨⟨rfl, _⟩, _, rfl⟩ := e
    exact frozen_of hg _
/-- A place within n, out of whatever number. -/
theorem place (a : Int) (n : Nat) (hn : 0 < n) (hn2 : n ≤ 16384) : ∃ i, i < n ∧ ∃ (q : Int) (m : Nat), a.tmod (n : Int) = q ∧ wrap64 (q + (n : Int)) = (m : Int) ∧ (m : Int).tmod (n : Int) = (i : Int) := by
  have h1 : a.tmod (n : Int) < (n : Int) := Int.tmod_lt_of_pos a (by omega)
  have h2 : -(n : Int) < a.tmod (n : Int) := Int.lt_tmod_of_pos a (by omega)
  obtain ⟨m, hm⟩ := Int.eq_ofNat_of_zero_le (show 0 ≤ a.tmod (n : Int) + (n : Int) by omega)
  refine ⟨m % n, Nat.mod_lt _ hn, _, m, rfl, ?_, ?_⟩
  · rw [hm]; unfold wrap64; omega
  · rw [Int.tmod_eq_emod_of_nonneg (by omega)]; simp

set_option maxRecDepth 100000 in
set_option maxHeartbeats 2000000 in
theorem one_walk (a0 : Option Addr) (cap0 gb off : Nat) (bs : List Nat) (at_ by_ : Int) (w : World) (hB : Bytes w a0 cap0 gb off bs) (hs : SrcB w (.slice a0 bs.length cap0) bs) (hl : bs.length ≤ 140737488351232) (hat : -9223372036854775808 ≤ at_ ∧ at_ ≤ 9223372036854775807) (hb0 : 0 ≤ by_) (hb1 : by_ < 256) :
    Calls Try.prog 7 #[.slice a0 bs.length cap0, .int .i64 at_, .int .u8 by_] w fun e w' => e = .returned (.bool true) ∧ Keep noBlock w w' := by
  have HB := (show Hid _ from hB)
  have HS := (show Hid _ from hs.alloc (.cells #[] 5))
  unfold SrcB at HS
  clear hB hs
  by_cases h0 : bs.length = 0
  · have d0 : ((bs.length : Int) == 0) = true := by rw [h0]; rfl
    clear h0
    go_enter Try.func7, Try.ntmps7
    go_wp2_with fail
    refine (wakes_any _).mono ?_
    rintro e w1 ⟨rfl, hK⟩
    go_wp2_with fail
    go_ret
    exact ⟨rfl, hK⟩
  have d0 : ((bs.length : Int) == 0) = false := beq_eq_false_iff_ne.2 (by omega)
  by_cases h1 : 16384 < bs.length
  · have d1 : decide ((16384 : Int) < (bs.length : Int)) = true := by simp; omega
    go_enter Try.func7, Try.ntmps7
    go_wp2_with fail
    refine (wakes_any _).mono ?_
    rintro e w1 ⟨rfl, hK⟩
    go_wp2_with fail
    go_ret
    exact ⟨rfl, hK⟩
  have d1 : decide ((16384 : Int) < (bs.length : Int)) = false := by simp; omega
  by_cases h2 : by_ = 0
  · have d2 : (by_ == 0) = true := by simp [h2]
    clear h2
    go_enter Try.func7, Try.ntmps7
    go_wp2_with fail
    refine (wakes_any _).mono ?_
    rintro e w1 ⟨rfl, hK⟩
    go_wp2_with fail
    go_ret
    exact ⟨rfl, hK⟩
  have d2 : (by_ == 0) = false := by simp [h2]
  obtain ⟨u, rfl⟩ := Int.eq_ofNat_of_zero_le hb0
  have hu0 : u ≠ 0 := fun e => h2 (by rw [e]; rfl)
  have hu : u < 256 := by omega
  obtain ⟨i, hil, q, m, hq, hw, hm⟩ := place at_ bs.length (by omega) (by omega)
  obtain ⟨v, hv⟩ : ∃ v, bs[i]?.getD 0 = v := ⟨_, rfl⟩
  have hv256 : v < 256 := by rw [← hv]; exact HB.out.lt i
  have hx8 := u8_xor_nat v u hv256 hu
  have hset := set_lt bs HB.out.lt i (v ^^^ u) (Nat.xor_lt_two_pow (n := 8) hv256 hu)
  have hn32 : crc32 bs ≠ crc32 (bs.set i (v ^^^ u)) := by have := crc32_set bs HB.out.lt i u hil hu hu0; rwa [hv] at this
  have hn64 : crc64 bs ≠ crc64 (bs.set i (v ^^^ u)) := by have := crc64_set bs HB.out.lt i u hil hu hu0; rwa [hv] at this
  have HV := (show Hid _ from hv)
  have HSET := (show Hid _ from hset)
  have H32 := (show Hid _ from hn32)
  have H64 := (show Hid _ from hn64)
  have hbl : (i : Int) < (bs.length : Int) := by omega
  clear hv hset hn32 hn64 h0 h1 h2 hu0 hat hb0 hb1
  go_enter Try.func7, Try.ntmps7
  go_wp2_with (first | (at_builtin; refine wpList_append_src _ rfl _ _ rfl w.heap.size (World.alloc_heap_new w _) rfl (.slice a0 bs.length cap0) rfl bs hl HS.out ?_; intro g0 cap w1 hown hK1 hg0; have hci := own_cell hown i v hil HV.out; have hfi := own_frozen hown i) | fail)
  have hK2 : Keep noBlock w (w1.setCell ⟨g0, i, none⟩ (.int .u8 ((v ^^^ u : Nat) : Int))) := by
    have hsz := hK1.size
    have hKa : Keep noBlock w w1 := ((Keep.refl _ w).alloc _).trans hK1 (fun j hj e => by omega)
    rw [World.size_alloc] at hg0
    exact hKa.trans (Keep.setCell (S := fun k => k = g0) (p := ⟨g0, i, none⟩) (Keep.refl _ w1) (fun _ => rfl) _) (fun j hj e => by omega)
  have hown2 := owns_set hown i (v ^^^ u)
  have HB2 : Hid (Bytes (w1.setCell ⟨g0, i, none⟩ (.int .u8 ((v ^^^ u : Nat) : Int))) (some ⟨g0, 0, none⟩) cap g0 0 (bs.set i (v ^^^ u))) := by
    have hlen2 : (bs.set i (v ^^^ u)).length = bs.length := by simp
    refine Bytes.of_owns ?_ HSET.out (by rw [hlen2]; exact HB.out.len)
    rw [hlen2]; exact hown2
  have HB1 := (show Hid _ from HB.out.keep hK2 (fun _ h => h))
  have hlen2 : (bs.set i (v ^^^ u)).length = bs.length := by simp
  clear hown hown2 hK1 hg0 HB HS
  generalize w1.setCell ⟨g0, i, none⟩ (.int .u8 ((v ^^^ u : Nat) : Int)) = W at hK2 HB1 HB2 ⊢
  have c1 := fun W hb => crc32_any (some ⟨g0, 0, none⟩) cap g0 0 (bs.set i (v ^^^ u)) W hb
  have c2 := fun W hb => crc64_any (some ⟨g0, 0, none⟩) cap g0 0 (bs.set i (v ^^^ u)) W hb
  rw [hlen2] at c1 c2
  clear hlen2 HSET HV hx8 hci hfi
  generalize bs.set i (v ^^^ u) = cs at H32 H64 HB2 c1 c2
  have C1 := (show Hid _ from c1)
  have C2 := (show Hid _ from c2)
  clear c1 c2
  refine (crc32_any a0 cap0 gb off bs W HB1.out).mono ?_
  rintro e w2 ⟨rfl, hK3⟩
  have HB3 := (show Hid _ from HB2.out.keep hK3 (fun _ h => h))
  have HB4 := (show Hid _ from HB1.out.keep hK3 (fun _ h => h))
  have hK4 := hK2.trans' hK3
  clear HB1 HB2 hK2 hK3
  go_wp2_with fail
  refine (C1.out w2 HB3.out).mono ?_
  rintro e w3 ⟨rfl, hK3⟩
  have HB5 := (show Hid _ from HB3.out.keep hK3 (fun _ h => h))
  have HB6 := (show Hid _ from HB4.out.keep hK3 (fun _ h => h))
  have hK5 := hK4.trans' hK3
  clear HB3 HB4 hK4 hK3
  have hd32b : ¬ (((crc32 bs : Nat) : Int) = ((crc32 cs : Nat) : Int)) := fun e => H32.out (Int.ofNat.inj e)
  have hd32 : (((crc32 bs : Nat) : Int) == ((crc32 cs : Nat) : Int)) = false := beq_eq_false_iff_ne.2 hd32b
  have hd32c : (((crc32 bs : Nat) : Int) != ((crc32 cs : Nat) : Int)) = true := bne_iff_ne.2 hd32b
  generalize crc32 bs = x32 at *
  generalize crc32 cs = y32 at *
  go_wp2_with fail
  refine (crc64_any a0 cap0 gb off bs w3 HB6.out).mono ?_
  rintro e w4 ⟨rfl, hK3⟩
  have HB7 := (show Hid _ from HB5.out.keep hK3 (fun _ h => h))
  have hK6 := hK5.trans' hK3
  clear HB5 HB6 hK5 hK3
  go_wp2_with fail
  refine (C2.out w4 HB7.out).mono ?_
  rintro e w5 ⟨rfl, hK3⟩
  have hK7 := hK6.trans' hK3
  clear HB7 hK6 hK3
  have hd64b : ¬ (((crc64 bs : Nat) : Int) = ((crc64 cs : Nat) : Int)) := fun e => H64.out (Int.ofNat.inj e)
  have hd64 : (((crc64 bs : Nat) : Int) == ((crc64 cs : Nat) : Int)) = false := beq_eq_false_iff_ne.2 hd64b
  have hd64c : (((crc64 bs : Nat) : Int) != ((crc64 cs : Nat) : Int)) = true := bne_iff_ne.2 hd64b
  generalize crc64 bs = x64 at *
  generalize crc64 cs = y64 at *
  go_wp2_with fail
  refine (wakes_any _).mono ?_
  rintro e w6 ⟨rfl, hK3⟩
  go_wp2_with fail
  go_ret
  exact ⟨rfl, hK7.trans' hK3⟩

end Go.Proofs.Ytoohkldhfkoocaa
