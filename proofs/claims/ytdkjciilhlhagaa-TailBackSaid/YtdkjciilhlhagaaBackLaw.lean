/-
  TailBack, the walk: what was put last is read first, and nothing is left then.
-/
import Derived.Test.YtdkjciilhlhagaaLaid
import Derived.Test.YtdkjciilhlhagaaWakes
import Derived.Deep.RegionHeld3
import Derived.Deep.DrawnRows
namespace Go.Proofs.Ytdkjciilhlhagaa
open Go.RowKit Go.Shelf
set_option linter.unusedVariables false

attribute [local go_sem ↓] Go.wp_at_zero Go.wp_at_succ

/-- The two cells of element k, in a later world. -/
theorem cellsAt {w W : World} {b off len : Nat} {ps : List PutD}
    (HC : Hid (∀ j, j < len → w.cell? ⟨b, off + j * 2, none⟩ = some (.int .u64 ((ps[j]?.getD putD0).x : Int)) ∧ w.cell? ⟨b, off + j * 2 + 1, none⟩ = some (.int .i64 (ps[j]?.getD putD0).n)))
    (hK : Keep noBlock w W) (k : Nat) (hlt : k < len) :
    W.cell? ⟨b, off + k * 2, none⟩ = some (.int .u64 ((ps[k]?.getD putD0).x : Int)) ∧ W.cell? ⟨b, off + k * 2 + 1, none⟩ = some (.int .i64 (ps[k]?.getD putD0).n) := by
  obtain ⟨c0, c1⟩ := HC.out k hlt
  have hbw := World.block_lt_of_cell? w _ c0
  exact ⟨(World.cell?_of_block (a := ⟨b, off + k * 2, none⟩) (hK.block b hbw (fun h => h))).trans c0, (World.cell?_of_block (a := ⟨b, off + k * 2 + 1, none⟩) (hK.block b hbw (fun h => h))).trans c1⟩

/-- One number read back. -/
theorem back_step (ps : List PutD) (N j x m : Nat) (n : Int) (hj : j < N) (hpd : ps[j]?.getD putD0 = ⟨x, (m : Int)⟩) (hm : m ≤ 56) :
    (laid ps (j + 1)).length = (laid ps j).length + m ∧ numAt (pack (laid ps N ++ [1])) (laid ps j).length m = x % 2 ^ m := by
  have hst : laid ps (j + 1) = laid ps j ++ low x m := by
    show putL (laid ps j) (ps[j]?.getD putD0).x (ps[j]?.getD putD0).n = _
    rw [hpd]; exact putL_put _ x m hm
  obtain ⟨M, hM⟩ := laid_grows ps (j + 1) N (by omega)
  refine ⟨by rw [hst, List.length_append, low_length], num_back (laid ps j) (M ++ [1]) x m _ ?_⟩
  rw [hM, hst]; simp only [List.append_assoc]

set_option maxRecDepth 100000 in
set_option maxHeartbeats 4000000 in
theorem back_long (len cap b off : Nat) (ps : List PutD) (w : World) (hcap : len ≤ cap) (h300 : 300 < len) (hps : ∀ j : Nat, (ps[j]?.getD putD0).x < 18446744073709551616)
    (hcs : ∀ j, j < len → w.cell? ⟨b, off + j * 2, none⟩ = some (.int .u64 ((ps[j]?.getD putD0).x : Int)) ∧ w.cell? ⟨b, off + j * 2 + 1, none⟩ = some (.int .i64 (ps[j]?.getD putD0).n)) :
    Calls Try.prog 5 #[.slice (some ⟨b, off, none⟩) len cap] w fun e w' => e = .returned (.bool true) ∧ Keep noBlock w w' := by
  have HP := (show Hid _ from hps)
  have HC := (show Hid _ from hcs)
  have hmx : Try.prog.follows .mixedOrders = true := by kernel_rfl
  clear hps hcs
  have hcap3 : (300 : Int) ≤ (cap : Int) := by omega
  have hd3 : decide ((300 : Int) < (len : Int)) = true := decide_eq_true (by omega)
  go_enter Try.func5, Try.ntmps5
  go_wp2_with fail
  go_loopw [19] (fun i wr => ∃ (k : Nat) (u : Value), k ≤ 300 ∧ i = .int .i64 k ∧ Mine w wr u (laid ps k)) (fun i _ => 300 - (intOf i).toNat)
  case atStart => exact ⟨0, _, Nat.zero_le _, rfl, isW_new w, (Keep.refl _ w).alloc _, fun k e => (by cases e)⟩
  case round =>
    obtain ⟨k, u, hk, rfl, hMn⟩ := hrel
    have hLk := laid_le ps k
    by_cases hlt : k < 300
    · obtain ⟨d0, d1⟩ := cellsAt HC hMn.keep k (by omega)
      have hx := HP.out k
      have hst : laid ps (k + 1) = putL (laid ps k) (ps[k]?.getD putD0).x (ps[k]?.getD putD0).n := rfl
      have HST := (show Hid _ from hst)
      clear hst
      generalize ps[k]?.getD putD0 = pd at d0 d1 hx HST
      obtain ⟨x, n⟩ := pd
      dsimp only at d0 d1 hx
      have hL2 : (laid ps k).length < 1000000000000 := by omega
      have HMN := (show Hid (Mine w wr u (laid ps k)) from hMn)
      clear hMn hLk
      go_wp2_with fail
      refine (HMN.out.put _ x n hx hL2).mono ?_
      rintro e w1 ⟨rfl, u1, hMn1⟩
      clear d0 d1
      go_wp2_with fail
      go_roundw
      case rel => exact ⟨k + 1, u1, by omega, by go_num, by rw [HST.out]; exact hMn1⟩
      case measure => simp [intOf]; omega
    · have hkN : 300 = k := by omega
      subst hkN
      obtain ⟨Lf, hLf⟩ : ∃ Lf, laid ps 300 = Lf := ⟨_, rfl⟩
      have HLF := (show Hid _ from hLf)
      rw [hLf] at hMn hLk
      have hLl : Lf.length < 1000000000000 := by omega
      have HMN := (show Hid (Mine w wr u Lf) from hMn)
      clear hLf hlt hk hMn hLk
      go_wp2_with fail
      refine (HMN.out.close hLl).mono ?_
      rintro e w1 ⟨v1, rfl, HNEW⟩
      go_wp2_with fail
      refine HNEW.out.mono ?_
      rintro e w2 ⟨rb, g, rfl, hrbw, hMr0⟩
      have hMr1 : MineR w w2 rb g (pack (Lf ++ [1])) (laid ps 300).length := by rw [HLF.out]; exact hMr0
      have HMR := (show Hid (MineR w w2 rb g (pack (Lf ++ [1])) (laid ps 300).length) from hMr1)
      clear hMr0 hMr1 HNEW HMN
      go_wp2_with fail
      go_loopw [8] (fun i wv => ∃ k : Nat, k ≤ 300 ∧ i = .int .i64 ((k : Int) - 1) ∧ MineR w wv rb g (pack (Lf ++ [1])) (laid ps k).length) (fun i _ => (intOf i + 1).toNat)
      case atStart => exact ⟨300, Nat.le_refl _, by simp, HMR.out⟩
      case round =>
        obtain ⟨k, hk, rfl, hMr⟩ := hrel
        clear HMR
        by_cases hk0 : k = 0
        · subst hk0
          have hz : ((0 : Nat) : Int) - 1 = -1 := by omega
          rw [hz]
          have hR : IsR wr rb g (pack (Lf ++ [1])) 0 0 := hMr.isR
          have hKr := hMr.keep
          clear hMr hz
          go_wp2_with fail
          refine (left_i rb g _ 0 0 0 rfl _ hR).mono ?_
          rintro e w3 ⟨rfl, nq, rfl⟩
          go_wp2_with fail
          refine (wakes_any _).mono ?_
          rintro e w5 ⟨rfl, hk5⟩
          go_wp2_with fail
          go_ret
          exact ⟨rfl, (hKr.trans' (keep_drewN _ _)).trans' hk5⟩
        · obtain ⟨j, rfl⟩ : ∃ j, k = j + 1 := ⟨k - 1, by omega⟩
          have hij : ((j + 1 : Nat) : Int) - 1 = (j : Int) := by omega
          rw [hij]
          have hjN : j < 300 := by omega
          obtain ⟨d0, d1⟩ := cellsAt HC hMr.keep j (by omega)
          have hx := HP.out j
          obtain ⟨pd, hpd⟩ : ∃ pd, ps[j]?.getD putD0 = pd := ⟨_, rfl⟩
          rw [hpd] at d0 d1 hx
          obtain ⟨x, n⟩ := pd
          dsimp only at d0 d1 hx
          have HPD := (show Hid _ from hpd)
          have hMr1 : MineR w (wr.alloc (.cells #[.int .u64 (x : Int), .int .i64 n] 46)) rb g (pack (Lf ++ [1])) (laid ps (j + 1)).length := ⟨hMr.isR.keep ((Keep.refl noBlock wr).alloc _) (fun h => h) (fun _ h => h), hMr.keep.alloc _⟩
          have hpb := World.alloc_heap_new wr (.cells #[.int .u64 (x : Int), .int .i64 n] 46)
          have hrl : rb < wr.heap.size := by obtain ⟨_, _, _, ho⟩ := hMr.isR.obj; exact obj_lt ho
          have hjc : (j : Int) < 300 := by omega
          clear hMr hij hpd hk hk0
          by_cases hn : 0 ≤ n ∧ n ≤ 56
          · obtain ⟨m, rfl⟩ := Int.eq_ofNat_of_zero_le hn.1
            have hm : m ≤ 56 := by omega
            have hm0 : decide ((0 : Int) ≤ (m : Int)) = true := decide_eq_true (by omega)
            have hm3 : decide ((m : Int) ≤ 56) = true := decide_eq_true (by omega)
            obtain ⟨hsl, hnum⟩ := back_step ps 300 j x m m hjN HPD.out hm
            rw [HLF.out] at hnum
            have hmk := mask_form x m hx hm
            obtain ⟨r, hr⟩ : ∃ r, x % 2 ^ m = r := ⟨_, rfl⟩
            rw [hr] at hnum hmk
            have HB : Hid (Calls Try.prog 10 #[.pointer (some ⟨rb, 0, none⟩), .int .i64 (m : Int)] ((wr.alloc (.cells #[.int .u64 (x : Int), .int .i64 (m : Int)] 46)).drewN 1) fun e W1 => e = .returned (.int .u64 (r : Int)) ∧ IsR W1 rb g (pack (Lf ++ [1])) (laid ps j).length 0 ∧ Keep (fun k => k = rb) ((wr.alloc (.cells #[.int .u64 (x : Int), .int .i64 (m : Int)] 46)).drewN 1) W1) :=
              bits_i rb g (pack (Lf ++ [1])) (laid ps j).length m 0 (laid ps (j + 1)).length m 0 0 r m (by rw [hnum]; simp) hsl (by omega) (.inl rfl) (by omega) (by omega) _ (hMr1.isR.drewN 1)
            have hKA := hMr1.keep
            clear hn hsl hnum hr hMr1
            go_wp2_with fail
            go_region_held3 (fun w' => w'.cell? ⟨wr.heap.size, 0, none⟩ = some (.int .u64 (x : Int)) ∧ w'.cell? ⟨wr.heap.size, 1, none⟩ = some (.int .i64 (m : Int)))
              (first | (exact ⟨hp0, hp1⟩) | go_keep)
              ((first
                | (go_at_call 10; refine HB.out.mono ?_; rintro e w4 ⟨rfl, hR4, hK4⟩; have hpb4 := hK4.obj (b := wr.heap.size) hpb (by omega); have hp0 : w4.cell? ⟨wr.heap.size, 0, none⟩ = some (.int .u64 (x : Int)) := cell_of hpb4 0; have hp1 : w4.cell? ⟨wr.heap.size, 1, none⟩ = some (.int .i64 (m : Int)) := cell_of hpb4 1)))
            have hMr : MineR w w4 rb g (pack (Lf ++ [1])) (laid ps j).length := ⟨hR4, (hKA.trans' (keep_drewN _ 1)).trans hK4 (fun i hi e => by omega)⟩
            clear hR4 hK4 hpb4 hp0 hp1 hpb d0 d1 hKA
            go_wp2_with fail
            go_roundw
            case rel => exact ⟨j, by omega, by simp, hMr⟩
            case measure => simp [intOf]
          · have hsl : (laid ps (j + 1)).length = (laid ps j).length := by
              show (putL (laid ps j) (ps[j]?.getD putD0).x (ps[j]?.getD putD0).n).length = _
              rw [HPD.out, putL_arg _ x n hn]
            rw [hsl] at hMr1
            clear hsl
            by_cases h0 : 0 ≤ n
            · have hm0 : decide ((0 : Int) ≤ n) = true := decide_eq_true h0
              have hm3 : decide (n ≤ 56) = false := decide_eq_false (by omega)
              clear hn
              go_wp2_with fail
              go_quiet (fail)
              go_wp2
              go_roundw
              case rel => exact ⟨j, by omega, by simp, hMr1.drewN _⟩
              case measure => simp [intOf]
            · have hm0 : decide ((0 : Int) ≤ n) = false := decide_eq_false h0
              clear hn
              go_wp2_with fail
              go_quiet (fail)
              go_wp2
              go_roundw
              case rel => exact ⟨j, by omega, by simp, hMr1.drewN _⟩
              case measure => simp [intOf]

set_option maxRecDepth 100000 in
set_option maxHeartbeats 4000000 in
theorem back_short (a : Option Addr) (len cap b off : Nat) (ps : List PutD) (w : World) (h300 : len ≤ 300) (ha : a = some ⟨b, off, none⟩ ∨ len = 0) (hps : ∀ j : Nat, (ps[j]?.getD putD0).x < 18446744073709551616)
    (hcs : ∀ j, j < len → w.cell? ⟨b, off + j * 2, none⟩ = some (.int .u64 ((ps[j]?.getD putD0).x : Int)) ∧ w.cell? ⟨b, off + j * 2 + 1, none⟩ = some (.int .i64 (ps[j]?.getD putD0).n)) :
    Calls Try.prog 5 #[.slice a len cap] w fun e w' => e = .returned (.bool true) ∧ Keep noBlock w w' := by
  have HA := (show Hid _ from ha)
  have HP := (show Hid _ from hps)
  have HC := (show Hid _ from hcs)
  have hmx : Try.prog.follows .mixedOrders = true := by kernel_rfl
  clear hps hcs ha
  have hd3 : decide ((300 : Int) < (len : Int)) = false := decide_eq_false (by omega)
  go_enter Try.func5, Try.ntmps5
  go_wp2_with fail
  go_loopw [19] (fun i wr => ∃ (k : Nat) (u : Value), k ≤ len ∧ i = .int .i64 k ∧ Mine w wr u (laid ps k)) (fun i _ => len - (intOf i).toNat)
  case atStart => exact ⟨0, _, Nat.zero_le _, rfl, isW_new w, (Keep.refl _ w).alloc _, fun k e => (by cases e)⟩
  case round =>
    obtain ⟨k, u, hk, rfl, hMn⟩ := hrel
    have hLk := laid_le ps k
    by_cases hlt : k < len
    · obtain rfl : a = some ⟨b, off, none⟩ := HA.out.elim id (fun e => by omega)
      obtain ⟨d0, d1⟩ := cellsAt HC hMn.keep k (by omega)
      have hx := HP.out k
      have hst : laid ps (k + 1) = putL (laid ps k) (ps[k]?.getD putD0).x (ps[k]?.getD putD0).n := rfl
      have HST := (show Hid _ from hst)
      clear hst
      generalize ps[k]?.getD putD0 = pd at d0 d1 hx HST
      obtain ⟨x, n⟩ := pd
      dsimp only at d0 d1 hx
      have hL2 : (laid ps k).length < 1000000000000 := by omega
      have HMN := (show Hid (Mine w wr u (laid ps k)) from hMn)
      clear hMn hLk
      go_wp2_with fail
      refine (HMN.out.put _ x n hx hL2).mono ?_
      rintro e w1 ⟨rfl, u1, hMn1⟩
      clear d0 d1
      go_wp2_with fail
      go_roundw
      case rel => exact ⟨k + 1, u1, by omega, by go_num, by rw [HST.out]; exact hMn1⟩
      case measure => simp [intOf]; omega
    · have hkN : len = k := by omega
      subst hkN
      obtain ⟨Lf, hLf⟩ : ∃ Lf, laid ps len = Lf := ⟨_, rfl⟩
      have HLF := (show Hid _ from hLf)
      rw [hLf] at hMn hLk
      have hLl : Lf.length < 1000000000000 := by omega
      have HMN := (show Hid (Mine w wr u Lf) from hMn)
      clear hLf hlt hk hMn hLk
      go_wp2_with fail
      refine (HMN.out.close hLl).mono ?_
      rintro e w1 ⟨v1, rfl, HNEW⟩
      go_wp2_with fail
      refine HNEW.out.mono ?_
      rintro e w2 ⟨rb, g, rfl, hrbw, hMr0⟩
      have hMr1 : MineR w w2 rb g (pack (Lf ++ [1])) (laid ps len).length := by rw [HLF.out]; exact hMr0
      have HMR := (show Hid (MineR w w2 rb g (pack (Lf ++ [1])) (laid ps len).length) from hMr1)
      clear hMr0 hMr1 HNEW HMN
      go_wp2_with fail
      go_loopw [8] (fun i wv => ∃ k : Nat, k ≤ len ∧ i = .int .i64 ((k : Int) - 1) ∧ MineR w wv rb g (pack (Lf ++ [1])) (laid ps k).length) (fun i _ => (intOf i + 1).toNat)
      case atStart => exact ⟨len, Nat.le_refl _, by simp, HMR.out⟩
      case round =>
        obtain ⟨k, hk, rfl, hMr⟩ := hrel
        clear HMR
        by_cases hk0 : k = 0
        · subst hk0
          have hz : ((0 : Nat) : Int) - 1 = -1 := by omega
          rw [hz]
          have hR : IsR wr rb g (pack (Lf ++ [1])) 0 0 := hMr.isR
          have hKr := hMr.keep
          clear hMr hz
          go_wp2_with fail
          refine (left_i rb g _ 0 0 0 rfl _ hR).mono ?_
          rintro e w3 ⟨rfl, nq, rfl⟩
          go_wp2_with fail
          refine (wakes_any _).mono ?_
          rintro e w5 ⟨rfl, hk5⟩
          go_wp2_with fail
          go_ret
          exact ⟨rfl, (hKr.trans' (keep_drewN _ _)).trans' hk5⟩
        · obtain ⟨j, rfl⟩ : ∃ j, k = j + 1 := ⟨k - 1, by omega⟩
          have hij : ((j + 1 : Nat) : Int) - 1 = (j : Int) := by omega
          rw [hij]
          have hjN : j < len := by omega
          obtain rfl : a = some ⟨b, off, none⟩ := HA.out.elim id (fun e => by omega)
          obtain ⟨d0, d1⟩ := cellsAt HC hMr.keep j (by omega)
          have hx := HP.out j
          obtain ⟨pd, hpd⟩ : ∃ pd, ps[j]?.getD putD0 = pd := ⟨_, rfl⟩
          rw [hpd] at d0 d1 hx
          obtain ⟨x, n⟩ := pd
          dsimp only at d0 d1 hx
          have HPD := (show Hid _ from hpd)
          have hMr1 : MineR w (wr.alloc (.cells #[.int .u64 (x : Int), .int .i64 n] 46)) rb g (pack (Lf ++ [1])) (laid ps (j + 1)).length := ⟨hMr.isR.keep ((Keep.refl noBlock wr).alloc _) (fun h => h) (fun _ h => h), hMr.keep.alloc _⟩
          have hpb := World.alloc_heap_new wr (.cells #[.int .u64 (x : Int), .int .i64 n] 46)
          have hrl : rb < wr.heap.size := by obtain ⟨_, _, _, ho⟩ := hMr.isR.obj; exact obj_lt ho
          have hjc : (j : Int) < (len : Int) := by omega
          clear hMr hij hpd hk hk0
          by_cases hn : 0 ≤ n ∧ n ≤ 56
          · obtain ⟨m, rfl⟩ := Int.eq_ofNat_of_zero_le hn.1
            have hm : m ≤ 56 := by omega
            have hm0 : decide ((0 : Int) ≤ (m : Int)) = true := decide_eq_true (by omega)
            have hm3 : decide ((m : Int) ≤ 56) = true := decide_eq_true (by omega)
            obtain ⟨hsl, hnum⟩ := back_step ps len j x m m hjN HPD.out hm
            rw [HLF.out] at hnum
            have hmk := mask_form x m hx hm
            obtain ⟨r, hr⟩ : ∃ r, x % 2 ^ m = r := ⟨_, rfl⟩
            rw [hr] at hnum hmk
            have HB : Hid (Calls Try.prog 10 #[.pointer (some ⟨rb, 0, none⟩), .int .i64 (m : Int)] ((wr.alloc (.cells #[.int .u64 (x : Int), .int .i64 (m : Int)] 46)).drewN 1) fun e W1 => e = .returned (.int .u64 (r : Int)) ∧ IsR W1 rb g (pack (Lf ++ [1])) (laid ps j).length 0 ∧ Keep (fun k => k = rb) ((wr.alloc (.cells #[.int .u64 (x : Int), .int .i64 (m : Int)] 46)).drewN 1) W1) :=
              bits_i rb g (pack (Lf ++ [1])) (laid ps j).length m 0 (laid ps (j + 1)).length m 0 0 r m (by rw [hnum]; simp) hsl (by omega) (.inl rfl) (by omega) (by omega) _ (hMr1.isR.drewN 1)
            have hKA := hMr1.keep
            clear hn hsl hnum hr hMr1
            go_wp2_with fail
            go_region_held3 (fun w' => w'.cell? ⟨wr.heap.size, 0, none⟩ = some (.int .u64 (x : Int)) ∧ w'.cell? ⟨wr.heap.size, 1, none⟩ = some (.int .i64 (m : Int)))
              (first | (exact ⟨hp0, hp1⟩) | go_keep)
              ((first
                | (go_at_call 10; refine HB.out.mono ?_; rintro e w4 ⟨rfl, hR4, hK4⟩; have hpb4 := hK4.obj (b := wr.heap.size) hpb (by omega); have hp0 : w4.cell? ⟨wr.heap.size, 0, none⟩ = some (.int .u64 (x : Int)) := cell_of hpb4 0; have hp1 : w4.cell? ⟨wr.heap.size, 1, none⟩ = some (.int .i64 (m : Int)) := cell_of hpb4 1)))
            have hMr : MineR w w4 rb g (pack (Lf ++ [1])) (laid ps j).length := ⟨hR4, (hKA.trans' (keep_drewN _ 1)).trans hK4 (fun i hi e => by omega)⟩
            clear hR4 hK4 hpb4 hp0 hp1 hpb d0 d1 hKA
            go_wp2_with fail
            go_roundw
            case rel => exact ⟨j, by omega, by simp, hMr⟩
            case measure => simp [intOf]
          · have hsl : (laid ps (j + 1)).length = (laid ps j).length := by
              show (putL (laid ps j) (ps[j]?.getD putD0).x (ps[j]?.getD putD0).n).length = _
              rw [HPD.out, putL_arg _ x n hn]
            rw [hsl] at hMr1
            clear hsl
            by_cases h0 : 0 ≤ n
            · have hm0 : decide ((0 : Int) ≤ n) = true := decide_eq_true h0
              have hm3 : decide (n ≤ 56) = false := decide_eq_false (by omega)
              clear hn
              go_wp2_with fail
              go_quiet (fail)
              go_wp2
              go_roundw
              case rel => exact ⟨j, by omega, by simp, hMr1.drewN _⟩
              case measure => simp [intOf]
            · have hm0 : decide ((0 : Int) ≤ n) = false := decide_eq_false h0
              clear hn
              go_wp2_with fail
              go_quiet (fail)
              go_wp2
              go_roundw
              case rel => exact ⟨j, by omega, by simp, hMr1.drewN _⟩
              case measure => simp [intOf]

end Go.Proofs.Ytdkjciilhlhagaa
