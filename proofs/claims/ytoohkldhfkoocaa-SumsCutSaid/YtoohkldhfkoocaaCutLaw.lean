/-
  cut: the sum of bytes that are cut; SumsCut, the walk.
-/
import Derived.Test.YtoohkldhfkoocaaIn
namespace Go.Proofs.Ytoohkldhfkoocaa
open Go.RowKit Go.Shelf
set_option linter.unusedVariables false

/-- A place from 0 to n, out of whatever number. -/
theorem placeTo (a : Int) (n : Nat) (hn2 : n ≤ 16384) : ∃ t, t ≤ n ∧ ∃ (q : Int) (s : Nat), a.tmod ((n : Int) + 1) = q ∧ wrap64 (q + (n : Int)) = (s : Int) ∧ wrap64 ((s : Int) + 1) = (s : Int) + 1 ∧ ((s : Int) + 1).tmod ((n : Int) + 1) = (t : Int) := by
  have h1 : a.tmod ((n : Int) + 1) < (n : Int) + 1 := Int.tmod_lt_of_pos a (by omega)
  have h2 : -((n : Int) + 1) < a.tmod ((n : Int) + 1) := Int.lt_tmod_of_pos a (by omega)
  obtain ⟨s, hs⟩ := Int.eq_ofNat_of_zero_le (show 0 ≤ a.tmod ((n : Int) + 1) + (n : Int) by omega)
  have h3 : (s + 1) % (n + 1) < n + 1 := Nat.mod_lt _ (by omega)
  refine ⟨(s + 1) % (n + 1), by omega, _, s, rfl, ?_, ?_, ?_⟩
  · rw [hs]; unfold wrap64; omega
  · unfold wrap64; omega
  · rw [Int.tmod_eq_emod_of_nonneg (by omega)]; simp

set_option maxRecDepth 100000 in
set_option maxHeartbeats 4000000 in
theorem cut_any (kind : Int) (a : Option Addr) (cap gb off : Nat) (bs : List Nat) (w : World) (hB : Bytes w a cap gb off bs) (h14 : bs.length ≤ 16384)
    (a1 : Option Addr) (len1 cap1 b1 off1 : Nat) (z1 : List Int) (ha1 : a1 = some ⟨b1, off1, none⟩ ∨ len1 = 0) (hc1 : ∀ j, j < len1 → w.cell? ⟨b1, off1 + j, none⟩ = some (.int .i64 (z1[j]?.getD 0))) (hl1 : len1 ≤ 200) :
    Calls Try.prog 20 #[.int .i64 kind, .slice a bs.length cap, .slice a1 len1 cap1] w fun e w' => e = .returned (.int .u64 ((sumOf kind bs : Nat) : Int)) ∧ Keep noBlock w w' := by
  have HB := (show Hid _ from hB)
  have HA1 := (show Hid _ from ha1)
  have HC1 := (show Hid _ from hc1)
  clear hB ha1 hc1
  go_enter Try.func20, Try.ntmps20
  go_wp2_with fail
  refine (new_any kind w).mono ?_
  rintro e w1 ⟨sb, cb, rfl, hsb, hcb, hS, hK⟩
  go_wp2_with fail
  go_loopw [8, 1] (fun i b wr => ∃ (n k r c o : Nat) (a' : Option Addr), (n ≤ len1 ∧ k + r = bs.length ∧ r ≤ c ∧ (r = 0 ∨ (a' = some ⟨gb, o, none⟩ ∧ o = off + k))) ∧ i = .int .i64 n ∧ b = .slice a' r c ∧ IsS wr sb cb kind (bs.take k) ∧ Keep noBlock w wr) (fun i _ _ => len1 - (intOf i).toNat)
  case atStart =>
    refine ⟨0, 0, bs.length, cap, off, a, ⟨Nat.zero_le _, by omega, HB.out.cap, ?_⟩, rfl, rfl, by simpa using hS, hK⟩
    rcases HB.out.at_ with e | e
    · exact .inr ⟨e, rfl⟩
    · exact .inl (by rw [e]; rfl)
  case round =>
    clear hS hK
    obtain ⟨n, k, r, c, o, a', hk, rfl, rfl, hS, hK⟩ := hrel
    have hpc : ∀ t, t ≤ r → Bytes wr a' c gb o (piece bs k t) := fun t ht => by
      have hpl := piece_length bs k t (by omega)
      refine ⟨?_, fun j hj => ?_, take_lt (drop_lt HB.out.lt k) t, by omega, by have := HB.out.len; omega⟩
      · rcases hk.2.2.2 with e | ⟨e, _⟩
        · right
          exact List.length_eq_zero_iff.1 (by omega)
        · exact .inl e
      · rw [hpl] at hj
        rw [piece_at bs k t j hj]
        have e2 : o = off + k := by
          rcases hk.2.2.2 with e | ⟨_, e⟩
          · omega
          · exact e
        have h1 := (HB.out.keep hK (fun _ h => h)).cells (k + j) (by omega)
        rw [e2, Nat.add_assoc]; exact h1
    have hgc : bs ≠ [] → gb ≠ cb := fun hne => by have := HB.out.block hne; omega
    have hrl : r ≤ 16384 := by omega
    have hbl := HB.out.len
    by_cases hlt : n < len1
    · obtain rfl : a1 = some ⟨b1, off1, none⟩ := HA1.out.elim id (fun e => by omega)
      have hcz := HC1.out n hlt
      have hcz2 := (World.cell?_of_block (hK.block b1 (World.block_lt_of_cell? w ⟨b1, off1 + n, none⟩ hcz) (fun h => h))).trans hcz
      generalize z1[n]?.getD 0 = z at hcz2
      obtain ⟨t, ht, q, s, hq, hs1, hs2, hst⟩ := placeTo z r hrl
      have ht0 : (0 : Int) ≤ (t : Int) := by omega
      have htc : (t : Int) ≤ (c : Int) := by omega
      have htr : (t : Int) ≤ (r : Int) := by omega
      have hpl := piece_length bs k t (by omega)
      have HP := (show Hid _ from hpc t ht)
      have hadd := fun a' (hb : Bytes wr a' c gb o (piece bs k t)) => add_any sb cb kind (bs.take k) a' c gb o (piece bs k t) wr hS hb (by rw [hpl]; simp; omega) (fun hne => hgc (by rintro rfl; simp [piece] at hne))
      rw [hpl, ← take_piece] at hadd
      have HADD := (show Hid _ from hadd)
      have HK := (show Hid _ from hk)
      clear hcz hpc hS hadd hk hgc hpl
      cases a' with
      | none =>
        go_wp2_with fail
        refine (HADD.out none HP.out).mono ?_
        rintro e w2 ⟨rfl, hS2, hK2⟩
        have hK3 : Keep noBlock w w2 := hK.trans hK2 (fun i hi e => by omega)
        clear hK hK2 hcz2
        go_wp2_with fail
        go_roundw
        case rel =>
          obtain ⟨h1, h2, h3, h4⟩ := HK.out
          have h0 : r = 0 := by
            rcases h4 with h4 | ⟨h4, _⟩
            · exact h4
            · cases h4
          exact ⟨n + 1, k + t, r - t, c - t, o + t, none, ⟨by omega, by omega, by omega, .inl (by omega)⟩, by go_num, by first | rfl | simp, hS2, hK3⟩
        case measure => simp [intOf]; omega
      | some x =>
        go_wp2_with fail
        refine (HADD.out (some x) HP.out).mono ?_
        rintro e w2 ⟨rfl, hS2, hK2⟩
        have hK3 : Keep noBlock w w2 := hK.trans hK2 (fun i hi e => by omega)
        clear hK hK2 hcz2
        go_wp2_with fail
        go_roundw
        case rel =>
          obtain ⟨h1, h2, h3, h4⟩ := HK.out
          refine ⟨n + 1, k + t, r - t, c - t, o + t, _, ⟨by omega, by omega, by omega, ?_⟩, by go_num, rfl, hS2, hK3⟩
          rcases h4 with h4 | ⟨h4, h5⟩
          · exact .inl (by omega)
          · by_cases hct : c = t
            · exact .inl (by omega)
            · refine .inr ⟨?_, by omega⟩
              obtain rfl : x = ⟨gb, o, none⟩ := by simpa using h4
              simp [hct, Addr.add]
        case measure => simp [intOf]; omega
    · obtain rfl : n = len1 := by omega
      have hpl := piece_length bs k r (by omega)
      have hadd := add_any sb cb kind (bs.take k) a' c gb o (piece bs k r) wr hS (hpc r (Nat.le_refl _)) (by rw [hpl]; simp; omega) (fun hne => hgc (by rintro rfl; simp [piece] at hne))
      rw [hpl, ← take_piece, hk.2.1, List.take_length] at hadd
      clear hpc hS hk hgc hpl
      go_wp2_with fail
      refine hadd.mono ?_
      rintro e w2 ⟨rfl, hS2, hK2⟩
      have hK3 : Keep noBlock w w2 := hK.trans hK2 (fun i hi e => by omega)
      clear hK hK2
      go_wp2_with fail
      refine (value_any sb cb kind bs w2 hS2).mono ?_
      rintro e w3 ⟨rfl, nq, rfl⟩
      go_wp2_with fail
      go_ret
      exact ⟨rfl, hK3.trans' (keep_drewN _ _)⟩

set_option maxRecDepth 100000 in
set_option maxHeartbeats 4000000 in
theorem sumsCut_walk (a : Option Addr) (cap gb off : Nat) (bs : List Nat)
    (a1 : Option Addr) (len1 cap1 b1 off1 : Nat) (z1 : List Int) (a2 : Option Addr) (len2 cap2 b2 off2 : Nat) (z2 : List Int) (w : World) (hB : Bytes w a cap gb off bs)
    (ha1 : a1 = some ⟨b1, off1, none⟩ ∨ len1 = 0) (hc1 : ∀ j, j < len1 → w.cell? ⟨b1, off1 + j, none⟩ = some (.int .i64 (z1[j]?.getD 0)))
    (ha2 : a2 = some ⟨b2, off2, none⟩ ∨ len2 = 0) (hc2 : ∀ j, j < len2 → w.cell? ⟨b2, off2 + j, none⟩ = some (.int .i64 (z2[j]?.getD 0))) (hl1 : len1 ≤ 140737488351232) (hl2 : len2 ≤ 140737488351232) :
    Calls Try.prog 5 #[.slice a bs.length cap, .slice a1 len1 cap1, .slice a2 len2 cap2] w fun e w' => e = .returned (.bool true) ∧ Keep noBlock w w' := by
  have HB := (show Hid _ from hB)
  have HA1 := (show Hid _ from ha1)
  have HC1 := (show Hid _ from hc1)
  have HA2 := (show Hid _ from ha2)
  have HC2 := (show Hid _ from hc2)
  have hbl := hB.len
  clear hB ha1 hc1 ha2 hc2
  by_cases h1 : 16384 < bs.length
  · have d1 : decide ((16384 : Int) < (bs.length : Int)) = true := by simp; omega
    go_enter Try.func5, Try.ntmps5
    go_wp2_with fail
    refine (wakes_any _).mono ?_
    rintro e w1 ⟨rfl, hK⟩
    go_wp2_with fail
    go_ret
    exact ⟨rfl, hK⟩
  have d1 : decide ((16384 : Int) < (bs.length : Int)) = false := by simp; omega
  by_cases h2 : 200 < len1
  · have d2 : decide ((200 : Int) < (len1 : Int)) = true := by simp; omega
    go_enter Try.func5, Try.ntmps5
    go_wp2_with fail
    refine (wakes_any _).mono ?_
    rintro e w1 ⟨rfl, hK⟩
    go_wp2_with fail
    go_ret
    exact ⟨rfl, hK⟩
  have d2 : decide ((200 : Int) < (len1 : Int)) = false := by simp; omega
  by_cases h3 : 200 < len2
  · have d3 : decide ((200 : Int) < (len2 : Int)) = true := by simp; omega
    go_enter Try.func5, Try.ntmps5
    go_wp2_with fail
    refine (wakes_any _).mono ?_
    rintro e w1 ⟨rfl, hK⟩
    go_wp2_with fail
    go_ret
    exact ⟨rfl, hK⟩
  have d3 : decide ((200 : Int) < (len2 : Int)) = false := by simp; omega
  have H1 : Hid (bs.length ≤ 16384 ∧ len1 ≤ 200 ∧ len2 ≤ 200) := ⟨by omega, by omega, by omega⟩
  clear h1 h2 h3
  go_enter Try.func5, Try.ntmps5
  go_wp2_with fail
  clear d1 d2 d3
  go_loopw [7] (fun kd wr => ∃ k : Nat, k ≤ 5 ∧ kd = .int .i64 k ∧ Keep noBlock w wr) (fun i _ => 5 - (intOf i).toNat)
  case atStart => exact ⟨0, by omega, rfl, Keep.refl _ _⟩
  case round =>
    obtain ⟨k, hk, rfl, hK⟩ := hrel
    have cutA : ∀ (W : World), Keep noBlock w W → ∀ kind : Int, Calls Try.prog 20 #[.int .i64 kind, .slice a bs.length cap, .slice a1 len1 cap1] W fun e w' => e = .returned (.int .u64 ((sumOf kind bs : Nat) : Int)) ∧ Keep noBlock W w' := fun W hW kind =>
      cut_any kind a cap gb off bs W (HB.out.keep hW (fun _ h => h)) H1.out.1 a1 len1 cap1 b1 off1 z1 HA1.out (fun j hj => (World.cell?_of_block (hW.block b1 (World.block_lt_of_cell? w ⟨b1, off1 + j, none⟩ (HC1.out j hj)) (fun h => h))).trans (HC1.out j hj)) H1.out.2.1
    have cutB : ∀ (W : World), Keep noBlock w W → ∀ kind : Int, Calls Try.prog 20 #[.int .i64 kind, .slice a bs.length cap, .slice a2 len2 cap2] W fun e w' => e = .returned (.int .u64 ((sumOf kind bs : Nat) : Int)) ∧ Keep noBlock W w' := fun W hW kind =>
      cut_any kind a cap gb off bs W (HB.out.keep hW (fun _ h => h)) H1.out.1 a2 len2 cap2 b2 off2 z2 HA2.out (fun j hj => (World.cell?_of_block (hW.block b2 (World.block_lt_of_cell? w ⟨b2, off2 + j, none⟩ (HC2.out j hj)) (fun h => h))).trans (HC2.out j hj)) H1.out.2.2
    have CA := (show Hid _ from cutA)
    have CB := (show Hid _ from cutB)
    clear cutA cutB
    have s0 : sumOf 0 bs = 0 := by simp [sumOf]
    have s4 : sumOf 4 bs = 0 := by simp [sumOf]
    have s1 := sumOf1 bs
    have s2 := sumOf2 bs
    have s3 := sumOf3 bs
    have h32 := crc32_lt HB.out.lt
    have S0 := (show Hid _ from s0)
    have S1 := (show Hid _ from s1)
    have S2 := (show Hid _ from s2)
    have S3 := (show Hid _ from s3)
    have S4 := (show Hid _ from s4)
    clear s0 s1 s2 s3 s4
    have hw32 := wrap_u64_nat (crc32 bs) (Nat.lt_trans h32 (by decide))
    obtain rfl | rfl | rfl | rfl | rfl | rfl : k = 0 ∨ k = 1 ∨ k = 2 ∨ k = 3 ∨ k = 4 ∨ k = 5 := by omega
    · rw [show ((0 : Nat) : Int) = (0 : Int) from rfl]
      go_wp2_with fail
      refine (CA.out _ hK 0).mono ?_
      rintro e w1 ⟨rfl, hk1⟩
      have hK1 := hK.trans' hk1
      rw [S0.out]
      go_wp2_with fail
      refine (CB.out _ hK1 0).mono ?_
      rintro e w2 ⟨rfl, hk2⟩
      have hK2 := hK1.trans' hk2
      rw [S0.out]
      clear hK hk1 hK1 hk2
      go_wp2_with fail
      go_roundw
      case rel => exact ⟨1, by omega, by go_num, hK2⟩
      case measure => simp [intOf]
    · rw [show ((1 : Nat) : Int) = (1 : Int) from rfl]
      go_wp2_with fail
      refine (CA.out _ hK 1).mono ?_
      rintro e w1 ⟨rfl, hk1⟩
      have hK1 := hK.trans' hk1
      rw [S1.out]
      go_wp2_with fail
      refine (CB.out _ hK1 1).mono ?_
      rintro e w2 ⟨rfl, hk2⟩
      have hK2 := hK1.trans' hk2
      rw [S1.out]
      clear hK hk1 hK1 hk2
      go_wp2_with fail
      have HW := crc32_any a cap gb off bs w2 (HB.out.keep hK2 (fun _ h => h))
      generalize crc32 bs = V at *
      refine HW.mono ?_
      rintro e w3 ⟨rfl, hk3⟩
      have hK3 := hK2.trans' hk3
      clear HW hK2 hk3
      go_wp2_with fail
      go_roundw
      case rel => exact ⟨2, by omega, by go_num, hK3⟩
      case measure => simp [intOf]
    · rw [show ((2 : Nat) : Int) = (2 : Int) from rfl]
      go_wp2_with fail
      refine (CA.out _ hK 2).mono ?_
      rintro e w1 ⟨rfl, hk1⟩
      have hK1 := hK.trans' hk1
      rw [S2.out]
      go_wp2_with fail
      refine (CB.out _ hK1 2).mono ?_
      rintro e w2 ⟨rfl, hk2⟩
      have hK2 := hK1.trans' hk2
      rw [S2.out]
      clear hK hk1 hK1 hk2
      go_wp2_with fail
      have HW := crc64_any a cap gb off bs w2 (HB.out.keep hK2 (fun _ h => h))
      generalize crc64 bs = V at *
      refine HW.mono ?_
      rintro e w3 ⟨rfl, hk3⟩
      have hK3 := hK2.trans' hk3
      clear HW hK2 hk3
      go_wp2_with fail
      go_roundw
      case rel => exact ⟨3, by omega, by go_num, hK3⟩
      case measure => simp [intOf]
    · rw [show ((3 : Nat) : Int) = (3 : Int) from rfl]
      go_wp2_with fail
      refine (CA.out _ hK 3).mono ?_
      rintro e w1 ⟨rfl, hk1⟩
      have hK1 := hK.trans' hk1
      rw [S3.out]
      go_wp2_with fail
      refine (CB.out _ hK1 3).mono ?_
      rintro e w2 ⟨rfl, hk2⟩
      have hK2 := hK1.trans' hk2
      rw [S3.out]
      clear hK hk1 hK1 hk2
      go_wp2_with fail
      have HW := xxh_any a cap gb off bs w2 (HB.out.keep hK2 (fun _ h => h))
      generalize xxh bs = V at *
      refine HW.mono ?_
      rintro e w3 ⟨rfl, hk3⟩
      have hK3 := hK2.trans' hk3
      clear HW hK2 hk3
      go_wp2_with fail
      go_roundw
      case rel => exact ⟨4, by omega, by go_num, hK3⟩
      case measure => simp [intOf]
    · rw [show ((4 : Nat) : Int) = (4 : Int) from rfl]
      go_wp2_with fail
      refine (CA.out _ hK 4).mono ?_
      rintro e w1 ⟨rfl, hk1⟩
      have hK1 := hK.trans' hk1
      rw [S4.out]
      go_wp2_with fail
      refine (CB.out _ hK1 4).mono ?_
      rintro e w2 ⟨rfl, hk2⟩
      have hK2 := hK1.trans' hk2
      rw [S4.out]
      clear hK hk1 hK1 hk2
      go_wp2_with fail
      go_roundw
      case rel => exact ⟨5, by omega, by go_num, hK2⟩
      case measure => simp [intOf]
    · rw [show ((5 : Nat) : Int) = (5 : Int) from rfl]
      go_wp2_with fail
      refine (wakes_any _).mono ?_
      rintro e w1 ⟨rfl, hk2⟩
      go_wp2_with fail
      go_ret
      exact ⟨rfl, hK.trans' hk2⟩

end Go.Proofs.Ytoohkldhfkoocaa
