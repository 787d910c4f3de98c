/-
  The document's Table: which state has which symbol.
  The document's Words.
  The document's next: the byte whose word comes next.
  The document's own New.
  The document's Unpack.
-/
import Derived.Test.YtcoahkmiebeeeaaDoorReadP12
namespace Go.Proofs.YtcoahkmiebeeeaaDoor
open Go.RowKit Go.Shelf

theorem isA_made (w : World) (k : IntKind) (t n : Nat) : IsA (w.alloc (.cells (madeCells #[.int k 0] n) t)) w.heap.size t k n (fun _ => 0) :=
  ⟨_, World.alloc_heap_new w _, size_madeCells _ _, fun i hi => by simp [madeCells, hi, Nat.mod_one]⟩
theorem isT_made (w : World) (n : Nat) : IsT (w.alloc (.cells (madeCells #[.int .u8 0, .int .u8 0, .int .u16 0] (n * 3)) 81)) w.heap.size 81 n (fun _ => 0) (fun _ => 0) (fun _ => 0) := by
  refine ⟨_, World.alloc_heap_new w _, by rw [size_madeCells]; omega, fun i hi => ?_⟩
  have e : ∀ j, j < n * 3 → (madeCells #[Value.int .u8 0, .int .u8 0, .int .u16 0] (n * 3))[j]? = some (#[Value.int .u8 0, .int .u8 0, .int .u16 0][j % 3]!) := fun j hj => by
    simp [madeCells, hj]
  rw [e _ (by omega), e _ (by omega), e _ (by omega), show i * 3 % 3 = 0 from by omega, show (i * 3 + 1) % 3 = 1 from by omega, show (i * 3 + 2) % 3 = 2 from by omega]
  exact ⟨rfl, rfl, rfl⟩
theorem run_make75 (n : Nat) (h : n ≤ 4096) (w : World) : (Instr.makeSlice 110 (.int .i64 (n : Int)) (.int .i64 (n : Int))).run Tryd.prog w = .ok (.slice (some ⟨w.heap.size, 0, none⟩) n n) (w.alloc (.cells (madeCells #[.int .i64 0] n) 3)) :=
  run_make_row' 110 3 (.int .i64 0) 8 Tryd.underlying110 info3 rfl .i64 .i64 n (by omega) (by omega) w
theorem run_make27 (n : Nat) (h : n ≤ 4096) (w : World) : (Instr.makeSlice 69 (.int .i64 (n : Int)) (.int .i64 (n : Int))).run Tryd.prog w = .ok (.slice (some ⟨w.heap.size, 0, none⟩) n n) (w.alloc (.cells (madeCells #[.int .u8 0, .int .u8 0, .int .u16 0] (n * 3)) 81)) := by
  obtain ⟨i0, hi, hz0, hz1, hz2⟩ := info_parts info50
  have := run_make (P := Tryd.prog) w 69 81 i0 _ Tryd.underlying69 hi hz0 .i64 .i64 (n : Int) (n : Int) (by omega) (Int.le_refl _) (by rw [hz2]; omega) (by omega)
  simp only [Int.toNat_natCast, hz1] at this
  exact this

set_option maxHeartbeats 400000 in
theorem tableQ_bad (a : Option Addr) (cap gb off : Nat) (xs : List Int) (log : Int) (w : World) (h : RowI w .i16 a cap gb off xs) (hx : I16 xs) (hb : okT xs log = false) :
    Calls Tryd.prog 30 #[.slice a xs.length cap, .int .i64 log] w fun e w' => e = .returned (.tuple #[.slice none 0 0, .int .i64 70]) ∧ w' = w := by
  have HT := (show Hid (∀ w : World, RowI w .i16 a cap gb off xs → Calls Tryd.prog 51 #[.slice a xs.length cap, .int .i64 log] w fun e w' => e = .returned (.bool false) ∧ w' = w) from fun w h => by have := right_any a cap gb off xs log w h hx; rwa [hb] at this)
  go_enter Tryd.func30, Tryd.ntmps30
  go_wp2_with (go_at_call 51; refine (HT.out _ h).mono ?_; rintro e w' ⟨rfl, rfl⟩)
  go_ret2
  exact ⟨rfl, rfl⟩

set_option maxRecDepth 100000 in
set_option maxHeartbeats 8000000 in
theorem tableQ_good (a : Option Addr) (cap gb off : Nat) (xs : List Int) (l : Nat) (w : World) (h : RowI w .i16 a cap gb off xs) (hx : I16 xs) (hb : okT xs (l : Int) = true) :
    Calls Tryd.prog 30 #[.slice a xs.length cap, .int .i64 (l : Int)] w fun e w' => ∃ g cap', e = .returned (.tuple #[.slice (some ⟨g, 0, none⟩) (2 ^ l) cap', .int .i64 0]) ∧ w.heap.size ≤ g ∧ 2 ^ l ≤ cap' ∧
      RowT w' g (2 ^ l) (symF xs (2 ^ l)) (fun i => bitF l (xF xs (2 ^ l) i)) (fun i => baseF l (xF xs (2 ^ l) i)) ∧ Keep noBlock w w' := by
  have HT := (show Hid (∀ w : World, RowI w .i16 a cap gb off xs → Calls Tryd.prog 51 #[.slice a xs.length cap, .int .i64 (l : Int)] w fun e w' => e = .returned (.bool true) ∧ w' = w) from fun w h => by have := right_any a cap gb off xs l w h hx; rwa [hb] at this)
  obtain ⟨hG, hT, hne, hlen, hl5, hl12⟩ := okT_good hb
  obtain rfl := h.here (i := 0) (List.length_pos_iff.2 hne)
  have hTab := okT_tab hb
  have hSb : 2 ^ l ≤ 4096 := Nat.pow_le_pow_right (n := 2) (j := 12) (by omega) hl12
  obtain ⟨v, ho⟩ := odd_pow l hl5 hl12
  have hp : (2 : Int) ^ l = ((2 ^ l : Nat) : Int) := by simp
  obtain ⟨S, hS⟩ : ∃ S, S = 2 ^ l := ⟨_, rfl⟩
  rw [← hS] at hp hSb hTab ho ⊢
  have HS := (show Hid (S = 2 ^ l) from hS)
  have hSI : (S : Int) ≤ 4096 := by omega
  have hSp : 0 < (S : Int) := by have := ho.pos; omega
  have hlI : (l : Int) ≤ 12 := by omega
  have hmk := fun W => run_make75 S hSb W
  obtain ⟨n, hn⟩ : ∃ n, n = xs.length := ⟨_, rfl⟩
  have HH := (show Hid (Tab xs S ∧ Odd S v ∧ I16 xs ∧ RowI w .i16 (some ⟨gb, off, none⟩) cap gb off xs ∧ n = xs.length ∧ nr xs xs.length ≤ S) from ⟨hTab, ho, hx, h, hn, by have := hTab.row; omega⟩)
  rw [← hn] at hlen HT ⊢
  have hnI : (n : Int) ≤ 256 := by omega
  clear hT hS hG hTab ho hx hb hne hn
  go_enter Tryd.func30, Tryd.ntmps30
  go_wp2_with (go_at_call 51; refine (HT.out _ h).mono ?_; rintro e w' ⟨rfl, rfl⟩)
  have hA0 := isA_made w' .i64 3 S
  have hK0 : Keep noBlock w' (w'.alloc (.cells (madeCells #[.int .i64 0] S) 3)) := (Keep.refl _ w').alloc _
  generalize w'.alloc (.cells (madeCells #[.int .i64 0] S) 3) = W1 at hA0 hK0 ⊢
  obtain ⟨sb, hsb⟩ : ∃ sb, sb = w'.heap.size := ⟨_, rfl⟩
  rw [← hsb] at hA0 ⊢
  have HSB := (show Hid (sb = w'.heap.size) from hsb)
  have HA0 := (show Hid (IsA W1 sb 3 .i64 S (fun _ => 0) ∧ Keep noBlock w' W1) from ⟨hA0, hK0⟩)
  clear hsb hA0 hK0 HT h hmk
  go_loopw [8, 9] (fun v8 v9 wr => ∃ (i h : Nat), v9 = .int .i64 (i : Int) ∧ v8 = .int .i64 (h : Int) ∧ i ≤ n ∧ Hid (h + nr xs i = S ∧ IsA wr sb 3 .i64 S (fun j => (((rareF xs S i j).getD 0 : Nat) : Int)) ∧ Keep noBlock w' wr)) (fun _ v9 _ => n - (intOf v9).toNat)
  case atStart => exact ⟨0, S, rfl, rfl, Nat.zero_le _, rfl, HA0.out⟩
  case round =>
    clear HA0
    obtain ⟨i, h, rfl, rfl, hi, HC⟩ := hrel
    by_cases hlt : i < n
    · obtain ⟨hh, hA, hK⟩ := HC.out
      obtain ⟨hTab, ho, hx, hR, hn, hnrS⟩ := HH.out
      have hix : i < xs.length := by omega
      have c0 := (hR.keep hK (fun _ h => h)).cells i hix
      have hnr := cntP_mono (isRare xs) (i + 1) xs.length (by omega)
      have hns := nr_succ xs i
      have hfs : rareF xs S (i + 1) = if xs[i]?.getD 0 = -1 then upd (rareF xs S i) (S - nr xs (i + 1)) i else rareF xs S i := rfl
      have hnr2 : nr xs (i + 1) ≤ S := by unfold nr at hnrS ⊢; omega
      have hltI : (i : Int) < (n : Int) := by omega
      generalize xs[i]?.getD 0 = c at *
      by_cases hc1 : c = -1
      · subst hc1
        rw [if_pos rfl] at hns hfs
        obtain ⟨h2, hh2⟩ : ∃ h2, h = h2 + 1 := ⟨h - 1, by omega⟩
        have hhI : (h : Int) - 1 = (h2 : Int) := by omega
        have hh2S : (h2 : Int) < (S : Int) := by omega
        rw [show S - nr xs (i + 1) = h2 from by omega] at hfs
        have cx := hA.cell h2 (by omega)
        have fx := hA.frozen h2
        have hst := hA.set h2 (i : Int)
        have HG := (show Hid (h2 + nr xs (i + 1) = S ∧ IsA (wr.setCell ⟨sb, h2, none⟩ (.int .i64 (i : Int))) sb 3 .i64 S (fun j => (((rareF xs S (i + 1) j).getD 0 : Nat) : Int)) ∧ Keep noBlock w' (wr.setCell ⟨sb, h2, none⟩ (.int .i64 (i : Int)))) from by
          refine ⟨by omega, hst.congr (fun j _ => ?_), hK.trans (Keep.setCell (S := fun k => k = sb) (p := ⟨sb, h2, none⟩) (Keep.refl _ wr) (fun _ => rfl) _) (fun j hj e => by have := HSB.out; omega)⟩
          rw [hfs]; simp only [upd]; split <;> rfl)
        clear hh hA hK hTab ho hx hR hn hnrS hnr hns hfs hnr2 hst HC hh2
        go_wp2_with fail
        go_roundw
        case rel => exact ⟨i + 1, h2, by go_num, rfl, by omega, HG⟩
        case measure => simp [intOf]; omega
      · rw [if_neg hc1] at hns hfs
        have hcb1 : (c == -1) = false := by simpa using hc1
        have HG := (show Hid (h + nr xs (i + 1) = S ∧ IsA wr sb 3 .i64 S (fun j => (((rareF xs S (i + 1) j).getD 0 : Nat) : Int)) ∧ Keep noBlock w' wr) from ⟨by omega, by rw [hfs]; exact hA, hK⟩)
        clear hh hA hK hTab ho hx hR hn hnrS hnr hns hfs hnr2 HC
        go_wp2_with fail
        go_roundw
        case rel => exact ⟨i + 1, h, by go_num, rfl, by omega, HG⟩
        case measure => simp [intOf]; omega
    · obtain rfl : i = n := by omega
      have hltI : ¬ (i : Int) < (i : Int) := by omega
      have HD := (show Hid (h = S - nr xs xs.length ∧ h ≤ S ∧ (rowL xs xs.length).length = h ∧ IsA wr sb 3 .i64 S (fun j => (((putF xs S h 0 j).getD 0 : Nat) : Int)) ∧ Keep noBlock w' wr) from by
        obtain ⟨hh, hA, hK⟩ := HC.out
        obtain ⟨hTab, ho, hx, hR, hn, hnrS⟩ := HH.out
        have := hTab.row
        rw [hn] at hh hA
        exact ⟨by omega, by omega, by omega, hA, hK⟩)
      have hhS : (h : Int) ≤ (S : Int) := by have := HD.out.2.1; omega
      clear HC
      go_wp2_with fail
      go_loopw [10, 11] (fun v10 v11 wr => ∃ (s x : Nat), v10 = .int .i64 (x : Int) ∧ v11 = .int .i64 (s : Int) ∧ s ≤ i ∧ Hid ((((rowL xs s).length < h → Turn S h (rowL xs s).length x)) ∧ IsA wr sb 3 .i64 S (fun j => (((putF xs S h (rowL xs s).length j).getD 0 : Nat) : Int)) ∧ Keep noBlock w' wr)) (fun _ v11 _ => i - (intOf v11).toNat)
      case atStart => exact ⟨0, 0, rfl, rfl, Nat.zero_le _, fun hh => turn_zero S h (by omega) hh, HD.out.2.2.2.1, HD.out.2.2.2.2⟩
      case round =>
        have HD2 := (show Hid (h = S - nr xs xs.length ∧ h ≤ S ∧ (rowL xs xs.length).length = h) from ⟨HD.out.1, HD.out.2.1, HD.out.2.2.1⟩)
        clear HD
        obtain ⟨s, x, rfl, rfl, hs, HC⟩ := hrel
        by_cases hlt2 : s < i
        · obtain ⟨hTab, ho, hx, hR, hn, hnrS⟩ := HH.out
          have hix : s < xs.length := by omega
          have hlow := hTab.low s hix
          obtain ⟨T, hTg⟩ := rowL_grow xs (s + 1) xs.length (by omega)
          have hd3 := HD2.out.2.2
          rw [hTg, List.length_append] at hd3
          have hrs : (rowL xs (s + 1)).length = (rowL xs s).length + (xs[s]?.getD 0).toNat := by
            show (rowL xs s ++ List.replicate (xs[s]?.getD 0).toNat s).length = _
            rw [List.length_append, List.length_replicate]
          have hra := fun k (hk : k < (xs[s]?.getD 0).toNat) => rowAt_eq xs s k hix hk
          have hcell := fun W (hK : Keep noBlock w' W) => (hR.keep hK (fun _ h => h)).cells s hix
          have hc2 : (xs[s]?.getD 0) ≤ 4096 := by have := HD2.out.2.1; omega
          obtain ⟨g0, hg0⟩ : ∃ g0, g0 = (rowL xs s).length := ⟨_, rfl⟩
          generalize xs[s]?.getD 0 = c at *
          obtain ⟨cn, hcn⟩ : ∃ cn, cn = c.toNat := ⟨_, rfl⟩
          rw [← hcn, ← hg0] at hrs
          rw [← hg0, ← hcn] at hra
          rw [← hg0] at HC
          have HR := (show Hid ((rowL xs (s + 1)).length = g0 + cn ∧ (∀ k, k < cn → rowAt xs (g0 + k) = s) ∧ g0 + cn ≤ h) from ⟨hrs, hra, by omega⟩)
          have HCE := (show Hid (∀ W, Keep noBlock w' W → W.cell? ⟨gb, off + s, none⟩ = some (.int .i16 c)) from hcell)
          have hsI : (s : Int) < (i : Int) := by omega
          have HCN := (show Hid (cn = c.toNat) from hcn)
          clear hTab ho hx hR hn hnrS hTg hd3 hrs hra hcell hg0 hcn
          go_wp2_with fail
          go_loopw [10, 12] (fun v10 v12 wr => ∃ (k x : Nat), v10 = .int .i64 (x : Int) ∧ v12 = .int .i64 (k : Int) ∧ k ≤ cn ∧ Hid ((g0 + k < h → Turn S h (g0 + k) x) ∧ IsA wr sb 3 .i64 S (fun j => (((putF xs S h (g0 + k) j).getD 0 : Nat) : Int)) ∧ Keep noBlock w' wr)) (fun _ v12 _ => cn - (intOf v12).toNat)
          case atStart => exact ⟨0, x, rfl, rfl, Nat.zero_le _, HC⟩
          case round =>
            clear HC
            obtain ⟨k, x, rfl, rfl, hk, HC⟩ := hrel
            have c0 := HCE.out wr HC.out.2.2
            by_cases hkl : k < cn
            · obtain ⟨hTu, hA, hK⟩ := HC.out
              obtain ⟨r1, r2, r3⟩ := HR.out
              have hT := hTu (by omega)
              have hxh := hT.lt
              have hh2 := HD2.out.2.1
              have hkI : (k : Int) < c := by have := HCN.out; omega
              have cx := hA.cell x (by omega)
              have fx := hA.frozen x
              have hst := hA.set x (s : Int)
              have hxS : (x : Int) < (S : Int) := by omega
              have hhp : 0 < (h : Int) := by omega
              obtain ⟨y, hy2⟩ : ∃ y, y = (x + stepN S) % S := ⟨_, rfl⟩
              have hyI : ((x : Int) + (S : Int) / 2 + (S : Int) / 8 + 3) % (S : Int) = (y : Int) := by rw [hy2]; unfold stepN; simp [Int.add_assoc]
              have HYI := (show Hid (((x : Int) + (S : Int) / 2 + (S : Int) / 8 + 3) % (S : Int) = (y : Int)) from hyI)
              have HG := (show Hid (Mid S h (g0 + k) y ∧ IsA (wr.setCell ⟨sb, x, none⟩ (.int .i64 (s : Int))) sb 3 .i64 S (fun j => (((putF xs S h (g0 + k + 1) j).getD 0 : Nat) : Int)) ∧ Keep noBlock w' (wr.setCell ⟨sb, x, none⟩ (.int .i64 (s : Int)))) from by
                refine ⟨by rw [hy2]; exact hT.next, hst.congr (fun j _ => ?_), hK.trans (Keep.setCell (S := fun k => k = sb) (p := ⟨sb, x, none⟩) (Keep.refl _ wr) (fun _ => rfl) _) (fun j hj e => by have := HSB.out; omega)⟩
                show _ = (((upd (putF xs S h (g0 + k)) (place S h (g0 + k)) (rowAt xs (g0 + k)) j).getD 0 : Nat) : Int)
                rw [hT.place, r2 k hkl]; simp only [upd]; split <;> rfl)
              have hSne : ((S : Int) == 0) = false := by rw [beq_eq_false_iff_ne]; omega
              clear hTu hA hK r1 r2 r3 hT hh2 hst hy2 hyI HC
              go_wp2_with fail
              generalize wr.setCell ⟨sb, x, none⟩ (.int .i64 (s : Int)) = W2 at HG ⊢
              go_loop [10] (fun v10 => ∃ z : Nat, v10 = .int .i64 (z : Int) ∧ Hid (Mid S h (g0 + k) z)) (fun v10 => meas S v (intOf v10).toNat)
              case atStart => exact ⟨y, by rw [HYI.out], HG.out.1⟩
              case round =>
                obtain ⟨z, rfl, HM⟩ := hrel
                have hzS : (z : Int) < (S : Int) := by have := HM.out.lt HH.out.2.1; omega
                by_cases hz : h ≤ z
                · have hzI : (h : Int) ≤ (z : Int) := by omega
                  obtain ⟨y2, hy2⟩ : ∃ y, y = (z + stepN S) % S := ⟨_, rfl⟩
                  have hyI : ((z : Int) + (S : Int) / 2 + (S : Int) / 8 + 3) % (S : Int) = (y2 : Int) := by rw [hy2]; unfold stepN; simp [Int.add_assoc]
                  have HYI2 := (show Hid (((z : Int) + (S : Int) / 2 + (S : Int) / 8 + 3) % (S : Int) = (y2 : Int)) from hyI)
                  have HM2 := (show Hid (Mid S h (g0 + k) y2 ∧ meas S v y2 < meas S v z) from by rw [hy2]; exact ⟨HM.out.next (by omega) hz, HM.out.meas HH.out.2.1 (by omega) hz⟩)
                  clear hy2 hyI
                  go_wp2_with fail
                  go_round
                  case rel => exact ⟨y2, by rw [HYI2.out], HM2.out.1⟩
                  case measure => have h := HYI2.out; simp only [intOf]; simp; rw [h]; simpa using HM2.out.2
                · have hzI : ¬ (h : Int) ≤ (z : Int) := by omega
                  go_wp2_with fail
                  go_roundw
                  case rel => exact ⟨k + 1, z, rfl, by go_num, by omega, fun hh => (HM.out.end_ HH.out.2.1 (by omega) (by omega)).resolve_left (by omega), HG.out.2⟩
                  case measure => simp [intOf]; omega
            · obtain rfl : k = cn := by omega
              have hkI : ¬ (k : Int) < c := by have := HCN.out; omega
              go_wp2_with fail
              go_roundw
              case rel =>
                have hr := HR.out.1
                refine ⟨s + 1, x, rfl, by go_num, by omega, ?_⟩
                rw [hr]
                exact HC.out
              case measure => simp [intOf]; omega
        · obtain rfl : s = i := by omega
          have hsI : ¬ (s : Int) < (s : Int) := by omega
          have HE := (show Hid (IsA wr sb 3 .i64 S (fun j => ((symF xs S j : Nat) : Int)) ∧ Keep noBlock w' wr) from by
            obtain ⟨-, hA, hK⟩ := HC.out
            obtain ⟨d1, d2, d3⟩ := HD2.out
            have hn := HH.out.2.2.2.2.1
            rw [hn, d3] at hA
            refine ⟨?_, hK⟩
            unfold symF symO
            rw [← d1]; exact hA)
          have hmk2 := fun W => run_make27 S hSb W
          have hmk3 := fun W => run_make75 256 (by omega) W
          rw [show ((256 : Nat) : Int) = (256 : Int) from rfl] at hmk3
          clear HC HD2 hhS
          go_wp2_with fail
          have hT0 := isT_made wr S
          have hA0 := isA_made (wr.alloc (.cells (madeCells #[.int .u8 0, .int .u8 0, .int .u16 0] (S * 3)) 81)) .i64 3 256
          have hk0 : Keep noBlock wr ((wr.alloc (.cells (madeCells #[.int .u8 0, .int .u8 0, .int .u16 0] (S * 3)) 81)).alloc (.cells (madeCells #[.int .i64 0] 256) 3)) := ((Keep.refl _ wr).alloc _).alloc _
          have hT1 := hT0.keep ((Keep.refl noBlock _).alloc (.cells (madeCells #[.int .i64 0] 256) 3)) (fun h => h)
          rw [World.size_alloc] at hA0
          obtain ⟨ob, hob⟩ : ∃ ob, ob = wr.heap.size := ⟨_, rfl⟩
          rw [← hob] at hT1 hA0 ⊢
          have hsbl := HE.out.1.lt
          have HE2 := (show Hid (IsA _ sb 3 .i64 S (fun j => ((symF xs S j : Nat) : Int)) ∧ Keep noBlock w' _ ∧ IsT _ ob 81 S (fun _ => 0) (fun _ => 0) (fun _ => 0) ∧ IsA _ (ob + 1) 3 .i64 256 (fun _ => 0) ∧ sb < ob ∧ w'.heap.size ≤ ob) from
            ⟨HE.out.1.keep hk0 (fun h => h), HE.out.2.trans hk0 (fun _ _ h => h), hT1, hA0, by omega, by have := HE.out.2.size; omega⟩)
          generalize (wr.alloc (.cells (madeCells #[.int .u8 0, .int .u8 0, .int .u16 0] (S * 3)) 81)).alloc (.cells (madeCells #[.int .i64 0] 256) 3) = W2 at HE2 ⊢
          clear hmk2 hmk3 hT0 hA0 hk0 hT1 hob HE hsbl
          have hobs : sb < ob ∧ w'.heap.size ≤ ob := HE2.out.2.2.2.2
          go_loopw [15] (fun v15 wr => ∃ i : Nat, v15 = .int .i64 (i : Int) ∧ i ≤ S ∧ Hid (IsA wr sb 3 .i64 S (fun j => ((symF xs S j : Nat) : Int)) ∧ Keep noBlock w' wr ∧ IsT wr ob 81 S (fun j => if j < i then symF xs S j else 0) (fun j => if j < i then bitF l (xF xs S j) else 0) (fun j => if j < i then baseF l (xF xs S j) else 0) ∧ IsA wr (ob + 1) 3 .i64 256 (fun t => ((cntP (fun j => decide (symF xs S j = t)) i : Nat) : Int)))) (fun v15 _ => S - (intOf v15).toNat)
          case atStart =>
            obtain ⟨e1, e2, e3, e4, -⟩ := HE2.out
            exact ⟨0, rfl, Nat.zero_le _, e1, e2, e3.congr (fun _ _ => by simp) (fun _ _ => by simp) (fun _ _ => by simp), e4.congr (fun _ _ => by simp [cntP])⟩
          case round =>
            clear HE2
            obtain ⟨i, rfl, hi2, HC⟩ := hrel
            by_cases hlt3 : i < S
            · obtain ⟨hA, hK, hT, hB⟩ := HC.out
              obtain ⟨hTab, ho, hx, hR, hn, hnrS⟩ := HH.out
              have hsl := (hTab.symF i hlt3).2.1
              have hsl256 : symF xs S i < 256 := by have := hTab.len; omega
              have hcl : xF xs S i ≠ 0 ∧ xF xs S i < 2 ^ (l + 1) ∧ bitF l (xF xs S i) ≤ l ∧ baseF l (xF xs S i) < S ∧ 1 ≤ lenN (xF xs S i) ∧ lenN (xF xs S i) ≤ l + 1 ∧ S ≤ xF xs S i * 2 ^ bitF l (xF xs S i) ∧ xF xs S i * 2 ^ bitF l (xF xs S i) < 2 ^ (l + 1) := by
                have hT2 := hTab
                have hl2 := hlt3
                rw [HS.out] at hT2 hl2 ⊢
                obtain ⟨a1, a2, a3, a4, a5, a6, a7, a8⟩ := hT2.cell i hl2
                exact ⟨a1, a2, a3, a4, a6, a7, a8, (cell_fits l _ a1 a2).2.2.1⟩
              have hp13 : 2 ^ (l + 1) ≤ 8192 := Nat.pow_le_pow_right (n := 2) (j := 13) (by omega) (by omega)
              obtain ⟨cc, ec, cc1, cc2, cc3, cc4⟩ := hTab.x i hlt3
              have cs := hA.cell i hlt3
              have cr := (hR.keep hK (fun _ h => h)).cells (symF xs S i) hsl
              have cbl := hB.cell (symF xs S i) hsl256
              have fbl := hB.frozen (symF xs S i)
              have ebl : cntP (fun j => decide (symF xs S j = symF xs S i)) i = blF xs S i := rfl
              rw [ebl] at cbl
              have HPA := (show Hid (∀ w : World, Calls Tryd.prog 50 #[.int .i16 (xs[symF xs S i]?.getD 0)] w fun e w' => e = .returned (.int .i64 (cc : Int)) ∧ w' = w) from fun w => by have := parts_any (xs[symF xs S i]?.getD 0) (hx _).1 (hx _).2 w; rwa [ec] at this)
              have HSY := (show Hid (∀ t, cntP (fun j => decide (symF xs S j = t)) (i + 1) = if t = symF xs S i then blF xs S i + 1 else cntP (fun j => decide (symF xs S j = t)) i) from fun t => by
                simp only [cntP]
                by_cases e : t = symF xs S i
                · subst e; simp [ebl]
                · rw [if_neg e, if_neg (by simpa using fun h => e h.symm)]; rfl)
              have HWD := (show Hid (∀ w : World, _) from fun w => width_any (xF xs S i) (by omega) w)
              have hst := hB.set (symF xs S i) ((blF xs S i : Int) + 1)
              obtain ⟨k1, k2, k3, k4, k5, k6, k7, k8⟩ := hcl
              obtain ⟨t0, ht0⟩ : ∃ t0, t0 = symF xs S i := ⟨_, rfl⟩
              obtain ⟨x, hxe⟩ : ∃ x, x = xF xs S i := ⟨_, rfl⟩
              obtain ⟨bl, hbl⟩ : ∃ bl, bl = blF xs S i := ⟨_, rfl⟩
              rw [← ht0] at cs cr cbl fbl HPA hst hsl hsl256
              rw [← hxe] at k1 k2 k3 k4 k5 k6 k7 k8 cc4 HWD
              rw [← hbl] at cbl cc3 cc4 hst
              obtain ⟨b, hb⟩ : ∃ b, b = bitF l x := ⟨_, rfl⟩
              obtain ⟨z, hz⟩ : ∃ z, z = baseF l x := ⟨_, rfl⟩
              obtain ⟨y, hy⟩ : ∃ y, y = x * 2 ^ bitF l x := ⟨_, rfl⟩
              rw [← hy] at k7 k8
              rw [← hb] at k3
              rw [← hz] at k4
              have hxI : (cc : Int) + (bl : Int) = (x : Int) := by omega
              have hbI : (l : Int) - (((lenN x : Nat) : Int) - 1) = (b : Int) := by rw [hb]; unfold bitF; omega
              have hyI : (x : Int) * 2 ^ b = (y : Int) := by rw [hy, hb]; simp
              have hzI : (y : Int) - (S : Int) = (z : Int) := by rw [hz, hy]; unfold baseF; rw [hy, HS.out] at k7; rw [HS.out]; omega
              have hLb : ((lenN x : Nat) : Int) ≤ 13 := by omega
              have hL0 : (1 : Int) ≤ ((lenN x : Nat) : Int) := by omega
              have hxb : (x : Int) < 8192 := by omega
              have hyb : (y : Int) < 8192 := by omega
              have hzb : (z : Int) < 4096 := by omega
              have hbb : (b : Int) ≤ 12 := by omega
              have htI : (t0 : Int) < 256 := by omega
              have htn : (t0 : Int) < (s : Int) := by omega
              have hiS : (i : Int) < (S : Int) := by omega
              have hblb : (bl : Int) < 4096 := by omega
              have hccb : (cc : Int) ≤ 4096 := by omega
              obtain ⟨o1, o2, o3⟩ := hT.cells i hlt3
              have p1 := hT.frozen (i * 3)
              have p2 := hT.frozen (i * 3 + 1)
              have p3 := hT.frozen (i * 3 + 2)
              have HFX := (show Hid (t0 = symF xs S i ∧ b = bitF l (xF xs S i) ∧ z = baseF l (xF xs S i)) from ⟨ht0, by rw [hb, hxe], by rw [hz, hxe]⟩)
              have hkk : Keep (fun k => k = ob + 1) wr (wr.setCell ⟨ob + 1, t0, none⟩ (.int .i64 ((bl : Int) + 1))) := Keep.setCell (S := fun k => k = ob + 1) (p := ⟨ob + 1, t0, none⟩) (Keep.refl _ wr) (fun _ => rfl) _
              have HG := (show Hid (IsA wr sb 3 .i64 S (fun j => ((symF xs S j : Nat) : Int)) ∧ Keep noBlock w' wr ∧ IsT wr ob 81 S (fun j => if j < i then symF xs S j else 0) (fun j => if j < i then bitF l (xF xs S j) else 0) (fun j => if j < i then baseF l (xF xs S j) else 0) ∧ IsA wr (ob + 1) 3 .i64 256 (fun t => ((cntP (fun j => decide (symF xs S j = t)) i : Nat) : Int)) ∧ bl = blF xs S i) from ⟨hA, hK, hT, hB, hbl⟩)
              generalize lenN x = L at *
              generalize xs[t0]?.getD 0 = c at *
              clear hA hK hT hB hTab ho hx hR hn hnrS HC hst hkk ht0 hxe hbl hb hz hy k1 k2 k3 k4 k5 k6 k7 k8 hp13 hsl hsl256 ec cc1 cc2 cc3 cc4 ebl
              go_wp2_with fail
              go_quiet ((go_at_call 50; exact Calls.quiet_of_same (HPA.out _)))
              have kq := keep_drewN wr nq
              generalize wr.drewN nq = Wq at kq ⊢
              have HG2 := (show Hid (IsA Wq sb 3 .i64 S (fun j => ((symF xs S j : Nat) : Int)) ∧ Keep noBlock w' Wq ∧ IsT Wq ob 81 S (fun j => if j < i then symF xs S j else 0) (fun j => if j < i then bitF l (xF xs S j) else 0) (fun j => if j < i then baseF l (xF xs S j) else 0) ∧ IsA Wq (ob + 1) 3 .i64 256 (fun t => ((cntP (fun j => decide (symF xs S j = t)) i : Nat) : Int)) ∧ bl = blF xs S i) from by
                obtain ⟨g1, g2, g3, g4, g5⟩ := HG.out
                exact ⟨g1.keep kq (fun h => h), g2.trans kq (fun _ _ h => h), g3.keep kq (fun h => h), g4.keep kq (fun h => h), g5⟩)
              have cbl2 : Wq.cell? ⟨ob + 1, t0, none⟩ = some (.int .i64 (bl : Int)) := by
                rw [HG2.out.2.2.2.1.cell t0 (by omega), HG2.out.2.2.2.2, HFX.out.1]; rfl
              have fbl2 := HG2.out.2.2.2.1.frozen t0
              clear HG kq cs cr cbl fbl o1 o2 o3 p1 p2 p3 HPA hxI
              go_wp2_with fail
              have HG3 := (show Hid (IsA (Wq.setCell ⟨ob + 1, t0, none⟩ (.int .i64 ((bl : Int) + 1))) sb 3 .i64 S (fun j => ((symF xs S j : Nat) : Int)) ∧ Keep noBlock w' (Wq.setCell ⟨ob + 1, t0, none⟩ (.int .i64 ((bl : Int) + 1))) ∧ IsT (Wq.setCell ⟨ob + 1, t0, none⟩ (.int .i64 ((bl : Int) + 1))) ob 81 S (fun j => if j < i then symF xs S j else 0) (fun j => if j < i then bitF l (xF xs S j) else 0) (fun j => if j < i then baseF l (xF xs S j) else 0) ∧ IsA (Wq.setCell ⟨ob + 1, t0, none⟩ (.int .i64 ((bl : Int) + 1))) (ob + 1) 3 .i64 256 (fun t => ((cntP (fun j => decide (symF xs S j = t)) (i + 1) : Nat) : Int))) from by
                obtain ⟨g1, g2, g3, g4, g5⟩ := HG2.out
                have hkk : Keep (fun k => k = ob + 1) Wq (Wq.setCell ⟨ob + 1, t0, none⟩ (.int .i64 ((bl : Int) + 1))) := Keep.setCell (S := fun k => k = ob + 1) (p := ⟨ob + 1, t0, none⟩) (Keep.refl _ Wq) (fun _ => rfl) _
                refine ⟨g1.keep hkk (by omega), g2.trans hkk (fun j hj e => by omega), g3.keep hkk (by omega), (g4.set t0 ((bl : Int) + 1)).congr (fun t _ => ?_)⟩
                rw [HSY.out t, ← HFX.out.1, ← g5]
                split <;> simp)
              generalize Wq.setCell ⟨ob + 1, t0, none⟩ (.int .i64 ((bl : Int) + 1)) = W3 at HG3 ⊢
              obtain ⟨o1, o2, o3⟩ := HG3.out.2.2.1.cells i hlt3
              have p1 := HG3.out.2.2.1.frozen (i * 3)
              have p2 := HG3.out.2.2.1.frozen (i * 3 + 1)
              have p3 := HG3.out.2.2.1.frozen (i * 3 + 2)
              clear HG2 cbl2 fbl2
              refine (HWD.out _).mono ?_
              rintro e w'' ⟨rfl, rfl⟩
              go_wp2_with fail
              obtain ⟨g1, g2, g3, g4⟩ := HG3.out
              obtain ⟨e1, e2, e3⟩ := HFX.out
              have t1 := ((g3.setSym i t0).setBit i b).setBase i z
              have kk : Keep (fun k => k = ob) w'' (((w''.setCell ⟨ob, i * 3, none⟩ (.int .u8 (t0 : Int))).setCell ⟨ob, i * 3 + 1, none⟩ (.int .u8 (b : Int))).setCell ⟨ob, i * 3 + 2, none⟩ (.int .u16 (z : Int))) :=
                Keep.setCell (S := fun k => k = ob) (p := ⟨ob, i * 3 + 2, none⟩) (Keep.setCell (S := fun k => k = ob) (p := ⟨ob, i * 3 + 1, none⟩) (Keep.setCell (S := fun k => k = ob) (p := ⟨ob, i * 3, none⟩) (Keep.refl _ w'') (fun _ => rfl) _) (fun _ => rfl) _) (fun _ => rfl) _
              have hif : ∀ (f : Nat → Nat) (q : Nat), q = f i → ∀ j, j < S → (if j = i then q else if j < i then f j else 0) = if j < i + 1 then f j else 0 := fun f q hq j _ => by
                by_cases e : j = i
                · subst e; rw [if_pos rfl, if_pos (by omega), hq]
                · rw [if_neg e]
                  by_cases hj : j < i
                  · rw [if_pos hj, if_pos (by omega)]
                  · rw [if_neg hj, if_neg (by omega)]
              refine ⟨⟨i + 1, by go_num, by omega, g1.keep kk (by omega), g2.trans kk (fun j hj e => by omega), t1.congr (hif _ _ e1) (hif _ _ e2) (hif _ _ e3), g4.keep kk (by omega)⟩, by simp [intOf]; omega⟩
            · obtain rfl : i = S := by omega
              have hiS : ¬ (i : Int) < (i : Int) := by omega
              go_wp2_with fail
              go_ret2
              obtain ⟨hA, hK, hT, hB⟩ := HC.out
              refine ⟨ob, i, rfl, hobs.2, Nat.le_refl _, ⟨fun j hj => ?_, hT.lt⟩, hK⟩
              have := hT.cells j hj
              rw [if_pos hj, if_pos hj, if_pos hj] at this
              exact this

end Go.Proofs.YtcoahkmiebeeeaaDoor

namespace Go.Proofs.YtcoahkmiebeeeaaDoor
open Go.RowKit Go.Shelf
set_option linter.unusedVariables false

/-- Block b is a row of n words. -/
structure WdA (w : World) (b n : Nat) (X N : Nat → Nat) : Prop where
  obj : ∃ cs, w.heap[b]? = some (.cells cs 113 (0, 0)) ∧ cs.size = n * 2 ∧ ∀ i, i < n → cs[i * 2]? = some (.int .u64 ((X i : Nat) : Int)) ∧ cs[i * 2 + 1]? = some (.int .i64 ((N i : Nat) : Int))
theorem WdA.cells {w : World} {b n : Nat} {X N : Nat → Nat} (h : WdA w b n X N) (i : Nat) (hi : i < n) :
    w.cell? ⟨b, i * 2, none⟩ = some (.int .u64 ((X i : Nat) : Int)) ∧ w.cell? ⟨b, i * 2 + 1, none⟩ = some (.int .i64 ((N i : Nat) : Int)) := by
  obtain ⟨cs, h1, _, h3⟩ := h.obj
  rw [cell_of h1, cell_of h1]
  exact h3 i hi
theorem WdA.frozen {w : World} {b n : Nat} {X N : Nat → Nat} (h : WdA w b n X N) (i : Nat) : w.frozen? ⟨b, i, none⟩ = false := by
  obtain ⟨cs, h1, _⟩ := h.obj
  exact frozen_of h1 i
theorem WdA.lt {w : World} {b n : Nat} {X N : Nat → Nat} (h : WdA w b n X N) : b < w.heap.size := by
  obtain ⟨cs, h1, _⟩ := h.obj
  exact obj_lt h1
theorem WdA.keep {w w' : World} {T : Nat → Prop} {b n : Nat} {X N : Nat → Nat} (h : WdA w b n X N) (hk : Keep T w w') (hS : ¬ T b) : WdA w' b n X N := by
  obtain ⟨cs, h1, h2⟩ := h.obj
  exact ⟨cs, hk.obj h1 hS, h2⟩
theorem WdA.congr {w : World} {b n : Nat} {X N X' N' : Nat → Nat} (h : WdA w b n X N) (h1 : ∀ i, i < n → X i = X' i) (h2 : ∀ i, i < n → N i = N' i) : WdA w b n X' N' := by
  obtain ⟨cs, a1, a2, a3⟩ := h.obj
  refine ⟨cs, a1, a2, fun i hi => ?_⟩
  rw [← h1 i hi, ← h2 i hi]
  exact a3 i hi
theorem WdA.set {w : World} {b n : Nat} {X N : Nat → Nat} (h : WdA w b n X N) (i x y : Nat) : WdA ((w.setCell ⟨b, i * 2, none⟩ (.int .u64 (x : Int))).setCell ⟨b, i * 2 + 1, none⟩ (.int .i64 (y : Int))) b n (fun j => if j = i then x else X j) (fun j => if j = i then y else N j) := by
  obtain ⟨cs, h1, h2, h3⟩ := h.obj
  refine ⟨_, set_obj (set_obj h1 _ _) _ _, by rw [Array.size_setIfInBounds, Array.size_setIfInBounds, h2], fun j hj => ?_⟩
  rw [Array.getElem?_setIfInBounds, Array.getElem?_setIfInBounds, Array.getElem?_setIfInBounds, Array.getElem?_setIfInBounds, Array.size_setIfInBounds, if_neg (show ¬ i * 2 + 1 = j * 2 by omega), if_neg (show ¬ i * 2 = j * 2 + 1 by omega)]
  by_cases e : i = j
  · subst e
    simp only [if_true]
    rw [if_pos (by omega), if_pos (by omega)]
    exact ⟨rfl, rfl⟩
  · have e1 : ¬ i * 2 = j * 2 := by omega
    have e2 : ¬ i * 2 + 1 = j * 2 + 1 := by omega
    have e3 : ¬ j = i := fun h => e h.symm
    simp only [if_neg e1, if_neg e2, if_neg e3]
    exact h3 j hj
theorem wdA_made (w : World) (n : Nat) : WdA (w.alloc (.cells (madeCells #[.int .u64 0, .int .i64 0] (n * 2)) 113)) w.heap.size n (fun _ => 0) (fun _ => 0) := by
  refine ⟨_, World.alloc_heap_new w _, by rw [size_madeCells], fun i hi => ?_⟩
  have e : ∀ j, j < n * 2 → (madeCells #[Value.int .u64 0, .int .i64 0] (n * 2))[j]? = some (#[Value.int .u64 0, .int .i64 0][j % 2]!) := fun j hj => by
    simp [madeCells, hj]
  rw [e _ (by omega), e _ (by omega), show i * 2 % 2 = 0 from by omega, show (i * 2 + 1) % 2 = 1 from by omega]
  exact ⟨rfl, rfl⟩
theorem info62 : (Tryd.prog.info? 113).map (fun i => (i.zero, i.size, i.bytes)) = some (some (.agg #[.int .u64 0, .int .i64 0]), 2, 16) := by kernel_rfl
theorem run_make56 (n : Nat) (h : n ≤ 4096) (w : World) : (Instr.makeSlice 82 (.int .i64 (n : Int)) (.int .i64 (n : Int))).run Tryd.prog w = .ok (.slice (some ⟨w.heap.size, 0, none⟩) n n) (w.alloc (.cells (madeCells #[.int .u64 0, .int .i64 0] (n * 2)) 113)) := by
  obtain ⟨i0, hi, hz0, hz1, hz2⟩ := info_parts info62
  have := run_make (P := Tryd.prog) w 82 113 i0 _ Tryd.underlying82 hi hz0 .i64 .i64 (n : Int) (n : Int) (by omega) (Int.le_refl _) (by rw [hz2]; omega) (by omega)
  simp only [Int.toNat_natCast, hz1] at this
  exact this
theorem IsCode.all_to {ws : List Nat} {m : Nat} (h : IsCode ws m) (c i : Nat) (hc : c ≤ m) (hi : i ≤ ws.length) : nextL ws (ordTo ws c i) ≤ 2 ^ m := by
  by_cases e : c < m
  · obtain ⟨r, hr⟩ := ordTo_grow ws c i m hi e
    have := h.all
    rw [hr, nextL_app] at this
    omega
  · obtain rfl : c = m := by omega
    have hs : ∀ k, k ≤ ws.length → symsW ws c k = [] := by
      intro k hk
      induction k with
      | zero => rfl
      | succ k ih =>
        simp only [symsW]
        rw [if_neg (by have := h.wt_le k (by omega); omega)]
        exact ih (by omega)
    rw [ordTo, hs i hi, List.append_nil, h.all]
    exact Nat.le_refl _

set_option maxRecDepth 100000 in
set_option maxHeartbeats 4000000 in
theorem wordsD_any (a : Option Addr) (cap gb off : Nat) (ws : List Nat) (m : Nat) (w : World) (hB : Bytes w a cap gb off ws) (hc : IsCode ws m) :
    Calls Tryd.prog 33 #[.slice a ws.length cap] w fun e w' => ∃ g, e = .returned (.slice (some ⟨g, 0, none⟩) ws.length ws.length) ∧ w.heap.size ≤ g ∧ WdA w' g ws.length (fun s => if wt ws s = 0 then 0 else wordX ws s) (fun s => if wt ws s = 0 then 0 else m + 1 - wt ws s) ∧ Keep noBlock w w' := by
  have HBt := (show Hid (Calls Tryd.prog 12 #[.slice a ws.length cap] w fun e w' => e = .returned (.int .i64 (m : Int)) ∧ w' = w) from by
    have := bitsD_any a cap gb off ws w hB
    rw [hc.codeM] at this
    exact this)
  have hlen := hc.len
  have hm11 := hc.m11
  have HH := (show Hid (Bytes w a cap gb off ws ∧ IsCode ws m) from ⟨hB, hc⟩)
  obtain ⟨N, hN⟩ : ∃ N, N = ws.length := ⟨_, rfl⟩
  have HN := (show Hid (N = ws.length) from hN)
  rw [← hN] at hlen HBt ⊢
  have hmk : ∀ W : World, _ := fun W => run_make56 N (by omega) W
  have hNI : (N : Int) ≤ 256 := by omega
  have hmI : (m : Int) ≤ 11 := by omega
  obtain ⟨g, hg⟩ : ∃ g, g = w.heap.size := ⟨_, rfl⟩
  have HF := (show Hid (WdA (w.alloc (.cells (madeCells #[.int .u64 0, .int .i64 0] (N * 2)) 113)) g N (ofX ws (ordC ws 0)) (ofN ws m (ordC ws 0)) ∧ Keep noBlock w (w.alloc (.cells (madeCells #[.int .u64 0, .int .i64 0] (N * 2)) 113))) from by
    rw [hg]
    exact ⟨(wdA_made w N).congr (fun i _ => rfl) (fun i _ => rfl), (Keep.refl _ w).alloc _⟩)
  have HG := (show Hid (g = w.heap.size) from hg)
  clear hB hc hN
  go_enter Tryd.func33, Tryd.ntmps33
  go_wp2_with (go_at_call 12; refine HBt.out.mono ?_; rintro e w' ⟨rfl, rfl⟩)
  rw [← hg]
  clear hg
  go_loopw [5, 6] (fun v5 v6 wr => ∃ (c x : Nat), v6 = .int .i64 ((c : Int) + 1) ∧ v5 = .int .i64 (x : Int) ∧ c ≤ m + 1 ∧ Hid (x = nextL ws (ordC ws c) ∧ WdA wr g N (ofX ws (ordC ws c)) (ofN ws m (ordC ws c)) ∧ Keep noBlock w' wr)) (fun _ v6 _ => m + 2 - (intOf v6).toNat)
  case atStart => exact ⟨0, 0, rfl, rfl, Nat.zero_le _, rfl, HF.out⟩
  case round =>
    clear HF
    obtain ⟨c, x, rfl, rfl, hcm, HC⟩ := hrel
    by_cases hlt : c < m + 1
    · have hltI : (c : Int) + 1 ≤ (m : Int) + 1 := by omega
      have hcI : (c : Int) ≤ 11 := by omega
      go_wp2_with fail
      go_loopw [5, 7] (fun v5 v7 wr => ∃ (i x : Nat), v7 = .int .i64 (i : Int) ∧ v5 = .int .i64 (x : Int) ∧ i ≤ N ∧ Hid (x = nextL ws (ordTo ws c i) ∧ WdA wr g N (ofX ws (ordTo ws c i)) (ofN ws m (ordTo ws c i)) ∧ Keep noBlock w' wr)) (fun _ v7 _ => N - (intOf v7).toNat)
      case atStart => exact ⟨0, x, rfl, rfl, Nat.zero_le _, by rw [ordTo_zero]; exact HC.out⟩
      case round =>
        clear HC
        obtain ⟨i, x, rfl, rfl, hi, HC⟩ := hrel
        by_cases hil : i < N
        · have hix : i < ws.length := by have := HN.out; omega
          obtain ⟨hx, hWd, hK⟩ := HC.out
          have hBr := HH.out.1.keep hK (fun _ h => h)
          obtain rfl := hBr.here hix
          have c3 := hBr.cells i hix
          have hy11 := HH.out.2.le i hix
          have hwm := HH.out.2.wt_le i hix
          have hilI : (i : Int) < (N : Int) := by omega
          have hle := HH.out.2.all_to c i (by omega) (by omega)
          have hp11 : 2 ^ m ≤ 2048 := Nat.pow_le_pow_right (n := 2) (j := 11) (by omega) hm11
          have hx2 : x ≤ 2048 := by rw [hx]; exact Nat.le_trans hle hp11
          obtain ⟨y, hy⟩ : ∃ y, y = ws[i]?.getD 0 := ⟨_, rfl⟩
          have hwy : wt ws i = y := hy.symm
          rw [← hy] at c3
          rw [hwy] at hy11 hwm
          have hyI : (y : Int) ≤ 11 := by omega
          have hx2I : (x : Int) ≤ 2048 := by omega
          clear hle hp11
          by_cases hyc : y = c + 1
          · have hb : ((y : Int) == (c : Int) + 1) = true := by rw [beq_iff_eq]; omega
            have hwi : wt ws i = c + 1 := by rw [hwy]; exact hyc
            have hto := ordTo_here ws c i hwi
            obtain ⟨X, hX⟩ : ∃ X, X = wordX ws i := ⟨_, rfl⟩
            have hXx : X = x / 2 ^ c := by rw [hX]; unfold wordX startW; rw [hwi, Nat.add_sub_cancel, hx]
            have hXI : (x : Int) / 2 ^ c = (X : Int) := by rw [hXx]; simp
            have hXl : X ≤ 2048 := by rw [hXx]; exact Nat.le_trans (Nat.div_le_self _ _) hx2
            obtain ⟨L, hL⟩ : ∃ L, L = m + 1 - wt ws i := ⟨_, rfl⟩
            have hLI : (m : Int) + 1 - ((c : Int) + 1) = (L : Int) := by clear hXI hXx; omega
            obtain ⟨P, hP⟩ : ∃ P, P = shN (wt ws i) := ⟨_, rfl⟩
            have hPl : P ≤ 1024 := by rw [hP]; exact shN_le _ (by rw [hwy]; exact hy11)
            have hPI : wrap64 ((2 : Int) ^ c) = (P : Int) := by
              have e : (2 : Int) ^ c = (P : Int) := by rw [hP, hwi, shN_succ]; simp
              rw [e]
              clear e hXI hXx
              unfold wrap64; omega
            have hn2 : x + P = nextL ws (ordTo ws c (i + 1)) := by rw [hto, nextL_app, nextL_one, ← hP, hx]
            have hset := (hWd.set i X L).congr (fun j _ => show _ = ofX ws (ordTo ws c (i + 1)) j from by rw [hto, ← ofX_snoc, hX]) (fun j _ => show _ = ofN ws m (ordTo ws c (i + 1)) j from by rw [hto, ← ofN_snoc, hL])
            obtain ⟨t1, t2⟩ := hWd.cells i hil
            have f1 := hWd.frozen (i * 2)
            have f2 := hWd.frozen (i * 2 + 1)
            have hgw := HG.out
            have hks : Keep noBlock w' ((wr.setCell ⟨g, i * 2, none⟩ (.int .u64 (X : Int))).setCell ⟨g, i * 2 + 1, none⟩ (.int .i64 (L : Int))) := (hK.setCell (p := ⟨g, i * 2, none⟩) (fun h => by dsimp only at h; omega) _).setCell (p := ⟨g, i * 2 + 1, none⟩) (fun h => by dsimp only at h; omega) _
            have HS := (show Hid (x + P = nextL ws (ordTo ws c (i + 1)) ∧ WdA ((wr.setCell ⟨g, i * 2, none⟩ (.int .u64 (X : Int))).setCell ⟨g, i * 2 + 1, none⟩ (.int .i64 (L : Int))) g N (ofX ws (ordTo ws c (i + 1))) (ofN ws m (ordTo ws c (i + 1))) ∧ Keep noBlock w' ((wr.setCell ⟨g, i * 2, none⟩ (.int .u64 (X : Int))).setCell ⟨g, i * 2 + 1, none⟩ (.int .i64 (L : Int)))) from ⟨hn2, hset, hks⟩)
            have hXlI : (X : Int) ≤ 2048 := by clear hXI hXx hPI; omega
            have hPlI : (P : Int) ≤ 1024 := by clear hXI hXx hPI; omega
            have HPI := (show Hid _ from hPI)
            clear hx hWd hK hBr hy hwy hwi hto hX hXx hL hP hn2 hset hgw hks HC hyc hPI
            go_wp2_with fail
            go_roundw
            case rel => exact ⟨i + 1, x + P, by go_num, by rw [HPI.out]; congr 1; unfold wrap64; omega, by omega, HS.out⟩
            case measure => simp [intOf]; omega
          · have hb : ((y : Int) == (c : Int) + 1) = false := by rw [beq_eq_false_iff_ne]; omega
            have HJ := (show Hid (x = nextL ws (ordTo ws c (i + 1)) ∧ WdA wr g N (ofX ws (ordTo ws c (i + 1))) (ofN ws m (ordTo ws c (i + 1))) ∧ Keep noBlock w' wr) from by rw [ordTo_not ws c i (by rw [hwy]; exact hyc)]; exact HC.out)
            clear hx hWd hK hBr hy hwy HC hyc
            go_wp2_with fail
            go_roundw
            case rel => exact ⟨i + 1, x, by go_num, rfl, by omega, HJ.out⟩
            case measure => simp [intOf]; omega
        · obtain rfl : i = N := by omega
          have hilI : ¬ (i : Int) < (i : Int) := by omega
          have HJ := (show Hid (x = nextL ws (ordC ws (c + 1)) ∧ WdA wr g i (ofX ws (ordC ws (c + 1))) (ofN ws m (ordC ws (c + 1))) ∧ Keep noBlock w' wr) from by rw [← ordTo_all, ← HN.out]; exact HC.out)
          clear HC
          go_wp2_with fail
          go_roundw
          case rel => exact ⟨c + 1, x, by go_num, rfl, by omega, HJ.out⟩
          case measure => simp [intOf]; omega
    · obtain rfl : c = m + 1 := by omega
      have hltI : ¬ ((m + 1 : Nat) : Int) + 1 ≤ (m : Int) + 1 := by omega
      obtain ⟨hx, hWd, hK⟩ := HC.out
      have hmem : ∀ s, s ∈ ordC ws (m + 1) ↔ wt ws s ≠ 0 := fun s => by
        rw [mem_ordC]
        constructor
        · rintro ⟨_, h2, _⟩; omega
        · intro h0
          obtain ⟨h1, h2⟩ := HH.out.2.wt_in s h0
          exact ⟨h1, by omega, by omega⟩
      have hfin := hWd.congr (fun i _ => show _ = (if wt ws i = 0 then 0 else wordX ws i) from by
        unfold ofX
        by_cases e : wt ws i = 0
        · rw [if_pos e, if_neg (fun q => (hmem i).1 q e)]
        · rw [if_neg e, if_pos ((hmem i).2 e)]) (fun i _ => show _ = (if wt ws i = 0 then 0 else m + 1 - wt ws i) from by
        unfold ofN
        by_cases e : wt ws i = 0
        · rw [if_pos e, if_neg (fun q => (hmem i).1 q e)]
        · rw [if_neg e, if_pos ((hmem i).2 e)])
      have HE := (show Hid (WdA wr g N (fun i => if wt ws i = 0 then 0 else wordX ws i) (fun i => if wt ws i = 0 then 0 else m + 1 - wt ws i) ∧ Keep noBlock w' wr) from ⟨hfin, hK⟩)
      clear hx hWd hK hmem hfin HC
      go_wp2
      go_ret
      exact ⟨g, rfl, by have := HG.out; omega, HE.out.1, HE.out.2⟩

end Go.Proofs.YtcoahkmiebeeeaaDoor

namespace Go.Proofs.YtcoahkmiebeeeaaDoor
open Go.RowKit Go.Shelf
set_option linter.unusedVariables false

/-- The words as the document's row has them. -/
def dX (ws : List Nat) (s : Nat) : Nat := if wt ws s = 0 then 0 else wordX ws s
def dN (ws : List Nat) (m s : Nat) : Nat := if wt ws s = 0 then 0 else m + 1 - wt ws s
/-- Which word fits n bits. -/
theorem fits_iff {ws : List Nat} {m : Nat} (hc : IsCode ws m) (bs : List Nat) (q n i : Nat) (hi : i < ws.length) (hn : n ≤ m) : (dN ws m i = n ∧ 0 < n ∧ dX ws i = strm bs q n) ↔ (symX ws m (strm bs q m) = i ∧ n = m + 1 - wt ws i) := by
  have hwm := hc.wt_le i hi
  constructor
  · rintro ⟨h1, h2, h3⟩
    unfold dN at h1
    unfold dX at h3
    by_cases e : wt ws i = 0
    · rw [if_pos e] at h1; omega
    · rw [if_neg e] at h1 h3
      refine ⟨?_, h1.symm⟩
      refine (hc.begins i _ hi (by omega) (strm_lt _ _ _)).1 ?_
      rw [h3, ← strm_head bs q n m hn]
      congr 2
      omega
  · rintro ⟨h1, h2⟩
    have hs := hc.sym (strm bs q m) (strm_lt _ _ _)
    rw [h1] at hs
    have hb := (hc.begins i _ hi hs.2.1 (strm_lt _ _ _)).2 h1
    unfold dN dX
    rw [if_neg (by omega), if_neg (by omega)]
    refine ⟨h2.symm, by omega, ?_⟩
    rw [← hb, ← strm_head bs q n m hn]
    congr 2
    omega

set_option maxRecDepth 100000 in
set_option maxHeartbeats 4000000 in
theorem nextD_any (qb gq : Nat) (bs : List Nat) (q : Nat) (g : Nat) (ws : List Nat) (m : Nat) (w : World) (hR : AtQ w qb gq bs q) (hW : WdA w g ws.length (dX ws) (dN ws m)) (hc : IsCode ws m) (hgq : g ≠ qb) (hq : q + 12 < 1000000000000) (hT : Tl.tailLen bs < 1125899906842624) :
    Calls Tryd.prog 34 #[.pointer (some ⟨qb, 0, none⟩), .slice (some ⟨g, 0, none⟩) ws.length ws.length, .int .i64 (m : Int)] w fun e w' => e = .returned (.tuple #[.int .u8 ((symX ws m (strm bs q m) : Nat) : Int), .bool (decide (q + (m + 1 - wt ws (symX ws m (strm bs q m))) ≤ Tl.tailLen bs))]) ∧ AtQ w' qb gq bs (q + (m + 1 - wt ws (symX ws m (strm bs q m)))) ∧ Keep (fun k => k = qb) w w' := by
  have hlen := hc.len
  have hm11 := hc.m11
  have HH := (show Hid (IsCode ws m ∧ WdA w g ws.length (dX ws) (dN ws m)) from ⟨hc, hW⟩)
  obtain ⟨hs1, hs2, -, -⟩ := hc.sym (strm bs q m) (strm_lt _ _ _)
  have hsm := hc.wt_le _ hs1
  obtain ⟨s, hs⟩ : ∃ s, s = symX ws m (strm bs q m) := ⟨_, rfl⟩
  obtain ⟨K, hK⟩ : ∃ K, K = m + 1 - wt ws s := ⟨_, rfl⟩
  rw [← hs] at hs1 hs2 hsm ⊢
  rw [← hK]
  have hK1 : 1 ≤ K ∧ K ≤ m := by omega
  have HS := (show Hid (∀ n i, i < ws.length → n ≤ m → ((dN ws m i = n ∧ 0 < n ∧ dX ws i = strm bs q n) ↔ (i = s ∧ n = K))) from fun n i h1 h2 => by
    rw [fits_iff hc bs q n i h1 h2, ← hs]
    constructor
    · rintro ⟨h3, h4⟩; subst h3; exact ⟨rfl, by rw [hK]; exact h4⟩
    · rintro ⟨h3, h4⟩; subst h3; exact ⟨rfl, by rw [← hK]; exact h4⟩)
  obtain ⟨N, hN⟩ : ∃ N, N = ws.length := ⟨_, rfl⟩
  rw [← hN] at hlen hs1 ⊢
  have HN := (show Hid (N = ws.length) from hN)
  have hNI : (N : Int) ≤ 256 := by omega
  have hmI : (m : Int) ≤ 11 := by omega
  have HR := (show Hid (AtQ w qb gq bs q) from hR)
  have HQ := (show Hid (g ≠ qb ∧ Tl.tailLen bs < 1125899906842624) from ⟨hgq, hT⟩)
  clear hc hW hR hs hK hN hgq hT
  go_enter Tryd.func34, Tryd.ntmps34
  go_wp2
  go_loopw [8, 9] (fun v8 v9 wr => ∃ (n x : Nat), v9 = .int .i64 (n : Int) ∧ v8 = .int .u64 (x : Int) ∧ n ≤ K ∧ Hid (x = strm bs q n ∧ AtQ wr qb gq bs (q + n) ∧ Keep (fun k => k = qb) w wr)) (fun _ v9 _ => m + 1 - (intOf v9).toNat)
  case atStart => exact ⟨0, 0, rfl, rfl, Nat.zero_le _, rfl, HR.out, Keep.refl _ _⟩
  case round =>
    obtain ⟨n, x, rfl, rfl, hnK, HC⟩ := hrel
    have hnm : (n : Int) ≤ (m : Int) := by omega
    have hxl : x < 4096 := by
      rw [HC.out.1]
      exact Nat.lt_of_lt_of_le (strm_lt _ _ _) (Nat.pow_le_pow_right (n := 2) (j := 12) (by omega) (by omega))
    have hxI : (x : Int) < 4096 := by omega
    go_wp2_with fail
    go_loop [10] (fun v10 => ∃ i : Nat, v10 = .int .i64 (i : Int) ∧ i ≤ N ∧ (n = K → i ≤ s)) (fun v10 => N - (intOf v10).toNat)
    case atStart => exact ⟨0, rfl, Nat.zero_le _, fun _ => Nat.zero_le _⟩
    case round =>
      obtain ⟨i, rfl, hi, his⟩ := hrel
      by_cases hil : i < N
      · have hix : i < ws.length := by have := HN.out; omega
        have hilI : (i : Int) < (N : Int) := by omega
        obtain ⟨hx, hA, hKw⟩ := HC.out
        have hWr := HH.out.2.keep hKw (by exact HQ.out.1)
        obtain ⟨t1, t2⟩ := hWr.cells i hix
        have hfit := HS.out n i hix (by omega)
        rw [← hx] at hfit
        have hcl := hA.is.left
        have hdNl : dN ws m i ≤ 12 := by unfold dN; split <;> omega
        have hdNI : ((dN ws m i : Nat) : Int) ≤ 12 := by omega
        by_cases hm1 : i = s ∧ n = K
        · obtain ⟨f1, f2, f3⟩ := hfit.2 hm1
          rw [f1] at t2
          rw [f3] at t1
          have hn0 : (0 : Int) < (n : Int) := by omega
          have hb1 : ((n : Int) == (n : Int)) = true := by simp
          have hb2 : ((x : Int) == (x : Int)) = true := by simp
          have hwi : IntKind.u8.wrap (i : Int) = (i : Int) := by rw [IntKind.wrap_u8]; omega
          obtain ⟨T, hT⟩ : ∃ T, T = Tl.tailLen bs := ⟨_, rfl⟩
          obtain ⟨L, hL⟩ : ∃ L : Int, L = ((Tl.tailLen bs : Nat) : Int) - ((q + n : Nat) : Int) := ⟨_, rfl⟩
          rw [← hL] at hcl
          have hD : decide ((0 : Int) ≤ L) = decide (q + K ≤ Tl.tailLen bs) := by
            rw [Bool.eq_iff_iff, decide_eq_true_iff, decide_eq_true_iff, hL, hm1.2]
            omega
          have HD := (show Hid _ from hD)
          clear hD
          have HE := (show Hid (AtQ wr qb gq bs (q + K) ∧ Keep (fun k => k = qb) w wr ∧ i = s) from ⟨by rw [← hm1.2]; exact hA, hKw, hm1.1⟩)
          have hLb : -1000000000000 < L ∧ L < 1125899906842624 := by have := HQ.out.2; omega
          clear hA hKw hWr hfit hm1 f1 f2 f3 his hL hT hdNl hdNI hx
          go_wp2_with fail
          go_quiet (fail)
          go_wp2_with fail
          go_ret2
          refine ⟨?_, HE.out.1.drewN _, HE.out.2.1.trans (keep_drewN wr _) (fun _ _ h => h.elim)⟩
          rw [← HD.out, ← HE.out.2.2]
          rfl
        · have hno := fun h => hm1 (hfit.1 h)
          have hisK : n = K → i + 1 ≤ s := fun e => by
            have := his e
            by_cases e2 : i = s
            · exact absurd ⟨e2, e⟩ hm1
            · omega
          clear hA hKw hWr hfit hm1 his hdNl hx hcl
          by_cases e1 : dN ws m i = n
          · have hb1 : (((dN ws m i : Nat) : Int) == (n : Int)) = true := by rw [e1]; simp
            by_cases e2 : 0 < n
            · have hn0 : (0 : Int) < (n : Int) := by omega
              have hb2 : (((dX ws i : Nat) : Int) == (x : Int)) = false := by
                rw [beq_eq_false_iff_ne]
                intro e
                exact hno ⟨e1, e2, by omega⟩
              clear hno
              have HE1 := (show Hid _ from e1)
              clear e1
              generalize dN ws m i = di at *
              generalize dX ws i = xi at *
              go_wp2_with fail
              go_round
              case rel => exact ⟨i + 1, by go_num, by omega, hisK⟩
              case measure => simp [intOf]; omega
            · have hn0 : ¬ (0 : Int) < (n : Int) := by omega
              clear hno
              have HE1 := (show Hid _ from e1)
              clear e1
              generalize dN ws m i = di at *
              generalize dX ws i = xi at *
              go_wp2_with fail
              go_round
              case rel => exact ⟨i + 1, by go_num, by omega, hisK⟩
              case measure => simp [intOf]; omega
          · have hb1 : (((dN ws m i : Nat) : Int) == (n : Int)) = false := by rw [beq_eq_false_iff_ne]; omega
            clear hno
            generalize dN ws m i = di at *
            generalize dX ws i = xi at *
            go_wp2_with fail
            go_round
            case rel => exact ⟨i + 1, by go_num, by omega, hisK⟩
            case measure => simp [intOf]; omega
      · obtain rfl : i = N := by omega
        have hilI : ¬ (i : Int) < (i : Int) := by omega
        have hnK2 : n < K := by
          by_cases e : n = K
          · have := his e; omega
          · omega
        obtain ⟨hx, hA, hKw⟩ := HC.out
        have HBt := (show Hid (Calls Tryd.prog 32 #[.pointer (some ⟨qb, 0, none⟩), .int .i64 1] wr _) from hA.bits 1 (by omega) (by omega))
        have hst : strm bs q (n + 1) = 2 * strm bs q n + strm bs (q + n) 1 := by simp [strm]
        have hb1 := strm_lt bs (q + n) 1
        rw [← hx] at hst
        have HST := (show Hid (strm bs q (n + 1) = 2 * x + strm bs (q + n) 1 ∧ Keep (fun k => k = qb) w wr) from ⟨hst, hKw⟩)
        have hb1I : ((strm bs (q + n) 1 : Nat) : Int) < 2 := by omega
        clear hx hA hKw hst hb1 HC his
        generalize strm bs (q + n) 1 = bt at *
        go_wp2_with fail
        refine HBt.out.mono ?_
        rintro e w2 ⟨rfl, hA2, hK2⟩
        go_wp2_with fail
        go_roundw
        case rel => exact ⟨n + 1, 2 * x + bt, by go_num, by go_num, by omega, HST.out.1.symm, hA2, HST.out.2.trans hK2 (fun _ _ h => h)⟩
        case measure => simp [intOf]; omega

end Go.Proofs.YtcoahkmiebeeeaaDoor

namespace Go.Proofs.YtcoahkmiebeeeaaDoor.Tl
open Go.RowKit Go.Shelf
set_option linter.unusedVariables false

set_option maxHeartbeats 400000 in
theorem newQ_none (sa : Option Addr) (cap : Nat) (w : World) : Calls Tryd.prog 31 #[.slice sa 0 cap] w fun e w' => e = .returned (.tuple #[.pointer none, .int .i64 11]) ∧ w' = w := by
  go_enter Tryd.func31, Tryd.ntmps31
  go_wp2
  go_ret2
  exact ⟨rfl, rfl⟩

set_option maxHeartbeats 400000 in
theorem newQ_zero (gb off cap k : Nat) (w : World) (hk : k < 140737488355328) (hc : w.cell? ⟨gb, off + k, none⟩ = some (.int .u8 0)) : Calls Tryd.prog 31 #[.slice (some ⟨gb, off, none⟩) (k + 1) cap] w fun e w' => e = .returned (.tuple #[.pointer none, .int .i64 11]) ∧ w' = w := by
  have h0 : ((k : Int) + 1 == 0) = false := by simp; omega
  go_enter Tryd.func31, Tryd.ntmps31
  go_wp2
  go_ret2
  exact ⟨rfl, rfl⟩

/-- The document's reader while its bits are laid: xs so far, in row v. -/
structure IsN (w W : World) (qb : Nat) (v : Value) (xs : List Nat) : Prop where
  obj : W.heap[qb]? = some (.cells #[v, .int .i64 0] 78 (0, 0))
  row : W.ownsRow 0 5 1 v xs.length (u8s xs)
  ub : ∀ k, v.ownBlock = some k → w.heap.size ≤ k
  keep : Keep noBlock w W
theorem isN_snoc {w W w1 : World} {qb g cap : Nat} {v : Value} {xs : List Nat} {d : Nat} {o : Obj} (h : IsN w W qb v xs) (hqb : w.heap.size ≤ qb)
    (hown : w1.ownsRow 0 5 1 (.slice (some ⟨g, 0, none⟩) (xs.length + 1) cap) (xs.length + 1) (u8s xs ++ [.int .u8 (d : Int)])) (hgrow : (W.alloc o).drew.grownBy w1 v.ownBlock) (hat : v.ownBlock = some g ∨ g = W.heap.size + 1) :
    IsN w (w1.setCell ⟨qb, 0, none⟩ (.slice (some ⟨g, 0, none⟩) (xs.length + 1) cap)) qb (.slice (some ⟨g, 0, none⟩) (xs.length + 1) cap) (xs ++ [d]) := by
  have hvb := owns_ne h.row h.obj (by decide)
  have hlt := obj_lt h.obj
  have hob1 : w1.heap[qb]? = _ := (hgrow.block qb (by simp; omega) (Ne.symm hvb)).trans (alloc_far h.obj _)
  have hs := h.keep.size
  have hne : g ≠ qb := by
    rintro rfl
    rcases hat with e | e
    · exact hvb e
    · omega
  refine ⟨(set_obj hob1 0 _).trans (by simp), ?_, fun k e => ?_, ?_⟩
  · have h2 := owns_far hown hne 0 (.slice (some ⟨g, 0, none⟩) (xs.length + 1) cap)
    simpa [u8s] using h2
  · obtain rfl : g = k := by simpa [Value.ownBlock] using e
    rcases hat with e1 | e1
    · exact h.ub g e1
    · omega
  · exact (((h.keep.alloc _).drew).grown hgrow (fun k e hk => by have := h.ub k e; omega)).setCell (p := ⟨qb, 0, none⟩) (fun hl => by dsimp only at hl; omega) _

/-- The document's reader when all its bits are laid, and its row is cut to n of them. -/
structure IsT (w W : World) (qb g : Nat) (bs : List Nat) (K cap n : Nat) : Prop where
  obj : W.heap[qb]? = some (.cells #[.slice (some ⟨g, 0, none⟩) n cap, .int .i64 0] 78 (0, 0))
  cells : ∀ j, j < K → W.cell? ⟨g, j, none⟩ = some (.int .u8 ((bitAt bs j : Nat) : Int))
  lt : g < W.heap.size
  ne : g ≠ qb
  new : w.heap.size ≤ g
  room : K ≤ cap
  keep : Keep noBlock w W
theorem IsT.drewN {w W : World} {qb g : Nat} {bs : List Nat} {K cap n : Nat} (h : IsT w W qb g bs K cap n) (i : Nat) : IsT w (W.drewN i) qb g bs K cap n := ⟨h.obj, h.cells, h.lt, h.ne, h.new, h.room, h.keep.trans' (keep_drewN _ _)⟩
theorem IsT.drew {w W : World} {qb g : Nat} {bs : List Nat} {K cap n : Nat} (h : IsT w W qb g bs K cap n) : IsT w W.drew qb g bs K cap n := ⟨h.obj, h.cells, h.lt, h.ne, h.new, h.room, h.keep.drew⟩
theorem isT_cut {w W : World} {qb g : Nat} {bs : List Nat} {K cap n : Nat} (h : IsT w W qb g bs K cap n) (hqb : w.heap.size ≤ qb) (m : Nat) : IsT w (W.setCell ⟨qb, 0, none⟩ (.slice (some ⟨g, 0, none⟩) m cap)) qb g bs K cap m :=
  ⟨(set_obj h.obj 0 _).trans (by simp), fun j hj => (World.cell?_of_block (Below.heap_setCell _ _ _ _ h.ne)).trans (h.cells j hj), by simpa [World.setCell] using h.lt, h.ne, h.new, h.room, h.keep.setCell (p := ⟨qb, 0, none⟩) (fun hl => by dsimp only at hl; omega) _⟩

/-- The length of the row that the document's reader holds. -/
def heldQ (W : World) (qb : Nat) : Nat := match W.cell? ⟨qb, 0, none⟩ with | some (.slice _ n _) => n | _ => 0
theorem heldQ_of {w W : World} {qb g : Nat} {bs : List Nat} {K cap n : Nat} (h : IsT w W qb g bs K cap n) : heldQ W qb = n := by
  unfold heldQ
  rw [cell_of h.obj 0]
  rfl

set_option maxRecDepth 100000 in
set_option maxHeartbeats 2000000 in
theorem newQ_mark (gb off cap k c : Nat) (bs : List Nat) (hlen : bs.length = k + 1) (hk : k < 1099511627776) (hbs : ∀ j : Nat, bs[j]?.getD 0 < 256) (w : World) (hck : bs[k]?.getD 0 = c) (hc0 : c ≠ 0)
    (hcs : ∀ j, j < bs.length → w.cell? ⟨gb, off + j, none⟩ = some (.int .u8 ((bs[j]?.getD 0 : Nat) : Int))) :
    Calls Tryd.prog 31 #[.slice (some ⟨gb, off, none⟩) (k + 1) cap] w fun e w' => ∃ qb g, e = .returned (.tuple #[.pointer (some ⟨qb, 0, none⟩), .int .i64 0]) ∧ w.heap.size ≤ qb ∧ w.heap.size ≤ g ∧ IsQ w' qb g bs (tailLen bs) ((tailLen bs : Nat) : Int) ∧ Keep noBlock w w' := by
  obtain ⟨i0, hi, hz0, hz1, hz2⟩ := info_parts info5
  have hc : w.cell? ⟨gb, off + k, none⟩ = some (.int .u8 (c : Int)) := by rw [hcs k (by omega), hck]
  have h0 : ((k : Int) + 1 == 0) = false := by simp; omega
  have hce : ((c : Int) == 0) = false := by simp; omega
  have hgb : gb < w.heap.size := World.block_lt_of_cell? w ⟨gb, off + k, none⟩ hc
  have hlast : bs[bs.length - 1]?.getD 0 ≠ 0 := by rw [show bs.length - 1 = k from by omega, hck]; exact hc0
  have HT1 := (show Hid _ from mark_one bs hbs hlast)
  have HT2 := (show Hid _ from mark_above bs hlast)
  have HT3 := (show Hid _ from tailLen_lt bs hbs hlast)
  have HL := (show Hid _ from hlen)
  have HC := (show Hid _ from hcs)
  have HX := (show Hid _ from hbs)
  have hN0 : IsN w (w.alloc (.cells #[.slice none 0 0, .int .i64 0] 78)) w.heap.size (.slice none 0 0) (bitsTo bs 0) :=
    ⟨World.alloc_heap_new w _, World.ownsRow_nil _ _ _ _, fun k e => (by cases e), (Keep.refl _ w).alloc _⟩
  have hmx : Tryd.prog.follows .mixedOrders = true := by kernel_rfl
  clear hcs hbs hlen hlast hck hc0
  generalize tailLen bs = T at HT1 HT2 HT3 ⊢
  go_enter Tryd.func31, Tryd.ntmps31
  go_wp2
  go_loopw [5] (fun i wr => ∃ (n : Nat) (v : Value), n ≤ 8 * (k + 1) ∧ i = .int .i64 n ∧ IsN w wr w.heap.size v (bitsTo bs n)) (fun i _ => 8 * (k + 1) - (intOf i).toNat)
  case atStart => exact ⟨0, _, Nat.zero_le _, rfl, hN0⟩
  case round =>
    clear hN0
    obtain ⟨n, v, hn, rfl, hN⟩ := hrel
    by_cases hlt : n < 8 * (k + 1)
    · have hidx : n / 8 < bs.length := by have := HL.out; omega
      have hcg : wr.cell? ⟨gb, off + n / 8, none⟩ = some (.int .u8 ((bs[n / 8]?.getD 0 : Nat) : Int)) := (World.cell?_of_block (hN.keep.block gb hgb (fun h => h))).trans (HC.out _ hidx)
      have hc256 := HX.out (n / 8)
      have hba : bitAt bs n = bitOf (bs[n / 8]?.getD 0) (n % 8) := rfl
      have hbl := bitAt_lt bs n
      have hbs1 := bitsTo_succ bs n
      have hbn := bitsTo_length bs n
      rw [hba] at hbs1 hbl
      have HBS := (show Hid _ from hbs1)
      have HBN := (show Hid _ from hbn)
      clear hba hbs1 hbn
      generalize bs[n / 8]?.getD 0 = y at hcg hc256 HBS hbl
      have hq8 : n % 8 < 8 := by omega
      have hI : (n : Int).tmod 8 = ((n % 8 : Nat) : Int) := by rw [Int.tmod_eq_emod_of_nonneg (by omega)]; omega
      have hD : (n : Int).tdiv 8 = ((n / 8 : Nat) : Int) := by rw [Int.tdiv_eq_ediv_of_nonneg (by omega)]; omega
      have hI' : (n : Int) % 8 = ((n % 8 : Nat) : Int) := by omega
      have hD' : (n : Int) / 8 = ((n / 8 : Nat) : Int) := by omega
      have hd1 : n / 8 < k + 1 := by omega
      generalize n % 8 = q at hq8 hI hI' HBS hbl
      generalize n / 8 = d at hcg hD hD' hidx hd1
      have hb1 := and_bit_u8 y q hc256
      have hwd : IntKind.i64.wrap (d : Int) = (d : Int) := by rw [IntKind.wrap_i64]; omega
      have hwq : IntKind.u64.wrap (q : Int) = (q : Int) := by rw [IntKind.wrap_u64]; omega
      have hdI : (d : Int) < (k : Int) + 1 := by omega
      generalize bitOf y q = bt at hb1 HBS hbl
      have hll : (bitsTo bs n).length < 140737488355327 := by have := HBN.out; omega
      generalize bitsTo bs n = xs at hN HBS HBN hll
      have hcq : wr.cell? ⟨w.heap.size, 0, none⟩ = some v := cell_of hN.obj 0
      have hob := hN.obj
      have hrow := hN.row
      have hvb := owns_ne hrow hob (by decide)
      have hwb := obj_lt hob
      have hmax : xs.length + 1 ≤ maxLen := by unfold maxLen; omega
      obtain ⟨sa, cap0, rfl⟩ := owns_form hrow
      go_wp2
      go_region_law (refine step_append_lies _ rfl (.tmp 31) (.tmp 42) 22 rfl 0 5 i0 (.int .u8 0) 1 1 Tryd.underlying22 hi hz0 hz1 hz2 rfl (by decide) (.slice sa xs.length cap0) xs.length (u8s xs) (by simp [Act.eval]) (hrow.alloc _) ⟨wr.heap.size, 0, none⟩ 1 1 [.int .u8 (bt : Int)] (by simp [Act.eval]) rfl (World.news_of_block (World.alloc_heap_new wr _)) (by simp [Value.oneCell']) (by decide) hmax (by omega) (Nat.zero_le _) (wr.heap.size + 1) (by simp) ?_; intro g cap1 w1 hown hgrow hat hltg; have hob1 := (hgrow.block w.heap.size (by simp; omega) (Ne.symm hvb)).trans (alloc_far hob _); have hcb := cell_of hob1 0; have hfb := frozen_of hob1 0)
      all_goals
        have hN2 := isN_snoc (d := bt) hN (Nat.le_refl _) hown hgrow hat
        clear hob hrow hvb hob1 hcb hfb hown hgrow hat hN hcq hcg
        go_wp2
        go_roundw
      all_goals first | exact ⟨n + 1, _, by omega, by go_num, by rw [HBS.out]; exact hN2⟩ | (simp [intOf]; omega)
    · obtain rfl : n = 8 * (k + 1) := by omega
      obtain ⟨g, cap1, rfl, hT⟩ : ∃ g cap1, v = .slice (some ⟨g, 0, none⟩) (8 * (k + 1)) cap1 ∧ IsT w wr w.heap.size g bs (8 * (k + 1)) cap1 (8 * (k + 1)) := by
        have hbl := bitsTo_length bs (8 * (k + 1))
        have hvb := owns_ne hN.row hN.obj (by decide)
        have hob := hN.obj
        rcases hN.row.2 with ⟨rfl, h0⟩ | ⟨g, cap1, cur, rfl, hb, hg, hr1, hr2, hr3, hr4⟩
        · omega
        · rw [hbl] at hob hr1
          refine ⟨g, cap1, by rw [hbl], hob, fun j hj => ?_, obj_lt hg, fun e => hvb (by rw [e]; rfl), hN.ub g rfl, hr1, hN.keep⟩
          have := hN.row.cells (g := g) rfl j _ (u8s_at (bitsTo bs (8 * (k + 1))) j (by omega))
          rw [add0, bitsTo_at bs _ j hj] at this
          exact this
      clear hN hlt hn
      go_wp2
      go_loopw [] (fun wr => ∃ j : Nat, T ≤ j ∧ j + 1 ≤ 8 * (k + 1) ∧ IsT w wr w.heap.size g bs (8 * (k + 1)) cap1 (j + 1)) (fun wr => heldQ wr w.heap.size)
      case atStart => exact ⟨8 * k + 7, by have := HT3.out; have := HL.out; omega, by omega, hT⟩
      case round =>
        clear hT
        obtain ⟨j, hj1, hj2, hT⟩ := hrel
        have hcq : wr.cell? ⟨w.heap.size, 0, none⟩ = some (.slice (some ⟨g, 0, none⟩) (j + 1) cap1) := cell_of hT.obj 0
        have hcj := hT.cells j (by omega)
        have hfq := frozen_of hT.obj 0
        have hroom := hT.room
        have hjc : (j : Int) ≤ (cap1 : Int) := by omega
        have hj0 : (0 : Int) ≤ (j : Int) := by omega
        by_cases hjT : j = T
        · subst hjT
          rw [HT1.out] at hcj
          go_wp2
          go_quiet (fail)
          go_wp2
          have hT2 := hT.drewN nq
          generalize wr.drewN nq = W2 at hT2 ⊢
          clear hcq hcj hfq hT
          have hcq : W2.cell? ⟨w.heap.size, 0, none⟩ = some (.slice (some ⟨g, 0, none⟩) (j + 1) cap1) := cell_of hT2.obj 0
          have hfq := frozen_of hT2.obj 0
          go_region
          all_goals
            have hT3 := (isT_cut hT2 (Nat.le_refl _) j).drew
            generalize (W2.setCell ⟨w.heap.size, 0, none⟩ (.slice (some ⟨g, 0, none⟩) j cap1)).drew = W3 at hT3 ⊢
            clear hcq hfq hT2
            have hcq : W3.cell? ⟨w.heap.size, 0, none⟩ = some (.slice (some ⟨g, 0, none⟩) j cap1) := cell_of hT3.obj 0
            have hc1 : W3.cell? ⟨w.heap.size, 1, none⟩ = some (.int .i64 0) := cell_of hT3.obj 1
            have hf1 := frozen_of hT3.obj 1
            go_wp2
            go_ret2
            refine ⟨w.heap.size, g, rfl, Nat.le_refl _, hT3.new, ⟨⟨cap1, (set_obj hT3.obj 1 _).trans (by simp)⟩, fun i hi => (World.cell?_of_block (Below.heap_setCell _ _ _ _ hT3.ne)).trans (hT3.cells i (by omega)), by simpa [World.setCell] using hT3.lt, hT3.ne, by omega⟩, hT3.keep.setCell (p := ⟨w.heap.size, 1, none⟩) (fun hl => by dsimp only at hl; omega) _⟩
        · rw [HT2.out j (by omega) (by have := HL.out; omega)] at hcj
          go_wp2
          go_quiet (fail)
          go_wp2
          have hT2 := hT.drewN nq
          have hheld := heldQ_of hT
          generalize wr.drewN nq = W2 at hT2 ⊢
          have HHD := (show Hid _ from hheld)
          clear hcq hcj hfq hT hheld
          have hcq : W2.cell? ⟨w.heap.size, 0, none⟩ = some (.slice (some ⟨g, 0, none⟩) (j + 1) cap1) := cell_of hT2.obj 0
          have hfq := frozen_of hT2.obj 0
          go_region
          all_goals
            go_wp2
            have hT3 := (isT_cut hT2 (Nat.le_refl _) j).drew
            go_roundw
          all_goals first | exact ⟨j - 1, by omega, by omega, by rw [show j - 1 + 1 = j from by omega]; exact hT3⟩ | (rw [HHD.out]; have := heldQ_of hT3; rw [this]; omega)

end Go.Proofs.YtcoahkmiebeeeaaDoor.Tl

namespace Go.Proofs.YtcoahkmiebeeeaaDoor
open Go.RowKit Go.Shelf
set_option linter.unusedVariables false

theorem posU_mono (ws : List Nat) (m : Nat) (bs : List Nat) (i j : Nat) (h : i ≤ j) : posU ws m bs i ≤ posU ws m bs j := by
  induction j with
  | zero => obtain rfl : i = 0 := by omega
            exact Nat.le_refl _
  | succ j ih =>
    by_cases e : i = j + 1
    · subst e; exact Nat.le_refl _
    · have := ih (by omega)
      rw [posU_succ]; omega
/-- The document's New over whatever bytes. -/
theorem newD_bad (a : Option Addr) (cap gb off : Nat) (bs : List Nat) (w : World) (hB : Bytes w a cap gb off bs) (hl : bs.length ≤ 1048576) (h0 : bs[bs.length - 1]?.getD 0 = 0) :
    Calls Tryd.prog 31 #[.slice a bs.length cap] w fun e w' => e = .returned (.tuple #[.pointer none, .int .i64 11]) ∧ w' = w := by
  cases hn : bs.length with
  | zero => exact Tl.newQ_none a cap w
  | succ k =>
    obtain rfl := hB.here (i := k) (by omega)
    refine Tl.newQ_zero gb off cap k w (by omega) ?_
    rw [hB.cells k (by omega)]
    rw [hn, Nat.add_sub_cancel] at h0
    rw [h0]; rfl
theorem newD_good (a : Option Addr) (cap gb off : Nat) (bs : List Nat) (w : World) (hB : Bytes w a cap gb off bs) (hl : bs.length ≤ 1048576) (h0 : bs[bs.length - 1]?.getD 0 ≠ 0) :
    Calls Tryd.prog 31 #[.slice a bs.length cap] w fun e w' => ∃ qb g, e = .returned (.tuple #[.pointer (some ⟨qb, 0, none⟩), .int .i64 0]) ∧ w.heap.size ≤ qb ∧ w.heap.size ≤ g ∧ AtQ w' qb g bs 0 ∧ Keep noBlock w w' := by
  cases hn : bs.length with
  | zero => rw [List.length_eq_zero_iff.1 hn] at h0; simp at h0
  | succ k =>
    obtain rfl := hB.here (i := k) (by omega)
    rw [hn, Nat.add_sub_cancel] at h0
    refine (Tl.newQ_mark gb off cap k _ bs hn (by omega) hB.lt w rfl h0 hB.cells).mono ?_
    rintro e w' ⟨rb, g, rfl, h1, h2, h3, h4⟩
    exact ⟨rb, g, rfl, h1, h2, ⟨by simpa using h3, by decide⟩, h4⟩

set_option maxRecDepth 100000 in
set_option maxHeartbeats 4000000 in
theorem unpackD_good (a : Option Addr) (cap gb off : Nat) (ws : List Nat) (m : Nat) (a2 : Option Addr) (cap2 gb2 off2 : Nat) (bs : List Nat) (n : Nat) (w : World) (hB : Bytes w a cap gb off ws) (hB2 : Bytes w a2 cap2 gb2 off2 bs) (hc : IsCode ws m) (hl : bs.length ≤ 1048576) (hn : n ≤ 131072) :
    Calls Tryd.prog 21 #[.slice a ws.length cap, .slice a2 bs.length cap2, .int .i64 (n : Int)] w fun e w' => UnpPost ws m bs n w e w' := by
  have HM := (show Hid (Calls Tryd.prog 12 #[.slice a ws.length cap] w fun e w' => e = .returned (.int .i64 (m : Int)) ∧ w' = w) from by
    have := bitsD_any a cap gb off ws w hB
    rw [hc.codeM] at this
    exact this)
  have hm11 := hc.m11
  have hm1 := hc.m1
  have hmb : ((m : Int) == 0) = false := by rw [beq_eq_false_iff_ne]; omega
  have hn1 : ¬ (n : Int) < 0 := by omega
  have hn2 : ¬ (131072 : Int) < (n : Int) := by omega
  by_cases h0 : bs[bs.length - 1]?.getD 0 = 0
  · have HN := (show Hid (Calls Tryd.prog 31 #[.slice a2 bs.length cap2] w fun e w' => e = .returned (.tuple #[.pointer none, .int .i64 11]) ∧ w' = w) from newD_bad a2 cap2 gb2 off2 bs w hB2 hl h0)
    have HB := (show Hid (unpOk ws m bs n = false) from decide_eq_false (fun h => h.1 h0))
    generalize bs.length = n2 at *
    generalize ws.length = n1 at *
    clear hB hB2 hc hl
    go_enter Tryd.func21, Tryd.ntmps21
    go_wp2_with (first | (go_at_call 12; refine HM.out.mono ?_; rintro e w' ⟨rfl, rfl⟩) | (go_at_call 31; refine HN.out.mono ?_; rintro e w' ⟨rfl, rfl⟩))
    go_ret2
    exact ⟨Keep.refl _ _, .inr ⟨HB.out, rfl⟩⟩
  · have HN := (show Hid (Calls Tryd.prog 31 #[.slice a2 bs.length cap2] w fun e w' => ∃ qb g, e = .returned (.tuple #[.pointer (some ⟨qb, 0, none⟩), .int .i64 0]) ∧ w.heap.size ≤ qb ∧ w.heap.size ≤ g ∧ AtQ w' qb g bs 0 ∧ Keep noBlock w w') from newD_good a2 cap2 gb2 off2 bs w hB2 hl h0)
    have HW := (show Hid (∀ W, Keep noBlock w W → Calls Tryd.prog 33 #[.slice a ws.length cap] W fun e w' => ∃ g, e = .returned (.slice (some ⟨g, 0, none⟩) ws.length ws.length) ∧ W.heap.size ≤ g ∧ WdA w' g ws.length (dX ws) (dN ws m) ∧ Keep noBlock W w') from fun W hk => wordsD_any a cap gb off ws m W (hB.keep hk (fun _ h => h)) hc)
    have HH := (show Hid (IsCode ws m ∧ bs[bs.length - 1]?.getD 0 ≠ 0 ∧ n ≤ 131072) from ⟨hc, h0, hn⟩)
    have hTl := Tl.tailLen_le bs hB2.lt
    have HT := (show Hid (Tl.tailLen bs < 1125899906842624 ∧ ∀ i, i ≤ n → posU ws m bs i ≤ 1572864) from ⟨by omega, fun i hi => by
      have hpl := posU_le ws m bs i
      have hpl2 : i * (m + 1) ≤ 131072 * 12 := Nat.mul_le_mul (by omega) (by omega)
      omega⟩)
    obtain ⟨n1, hn1'⟩ : ∃ n1, n1 = ws.length := ⟨_, rfl⟩
    obtain ⟨n2, hn2'⟩ : ∃ n2, n2 = bs.length := ⟨_, rfl⟩
    have HL := (show Hid (n1 = ws.length) from hn1')
    rw [← hn1'] at HM HW ⊢
    rw [← hn2'] at HN ⊢
    have hnI : (n : Int) ≤ 131072 := by omega
    clear hB hB2 hc hl h0 hTl hn1' hn2' hn
    go_enter Tryd.func21, Tryd.ntmps21
    go_wp2_with (go_at_call 12; refine HM.out.mono ?_; rintro e w' ⟨rfl, rfl⟩)
    refine HN.out.mono ?_
    rintro e w1 ⟨qb, gq, rfl, h1, h2, hA, hK1⟩
    have HA := (show Hid (AtQ w1 qb gq bs 0 ∧ Keep noBlock w' w1 ∧ w'.heap.size ≤ qb ∧ w'.heap.size ≤ gq) from ⟨hA, hK1, h1, h2⟩)
    clear hA hK1 h1 h2
    go_wp2_with fail
    refine (HW.out _ HA.out.2.1).mono ?_
    rintro e w2 ⟨g, rfl, hg, hWd, hK2⟩
    have HF := (show Hid (AtQ w2 qb gq bs (posU ws m bs 0) ∧ WdA w2 g n1 (dX ws) (dN ws m) ∧ Keep noBlock w' w2) from ⟨HA.out.1.keep hK2 (fun h => h) (fun h => h), hWd, HA.out.2.1.trans' hK2⟩)
    have HG := (show Hid (g ≠ qb ∧ w'.heap.size ≤ qb ∧ w'.heap.size ≤ g ∧ gq < w2.heap.size) from by
      have hlt : qb < w1.heap.size := by obtain ⟨c0, h0⟩ := HA.out.1.is.obj; exact obj_lt h0
      exact ⟨by omega, HA.out.2.2.1, by have := HA.out.2.1.size; omega, by have := HA.out.1.is.lt; have := hK2.size; omega⟩)
    clear hg hWd hK2 HA
    go_wp2_with fail
    go_loopw [12, 13] (fun v12 v13 wr => ∃ i : Nat, v13 = .int .i64 (i : Int) ∧ i ≤ n ∧ ∃ oa on oc, v12 = .slice oa on oc ∧ Hid (on = i ∧ wr.ownsRow 0 5 1 (.slice oa on oc) ((List.range i).map (symU ws m bs)).length (u8s ((List.range i).map (symU ws m bs))) ∧ (∀ k, (Value.slice oa on oc).ownBlock = some k → w2.heap.size ≤ k) ∧ AtQ wr qb gq bs (posU ws m bs i) ∧ posU ws m bs i ≤ Tl.tailLen bs ∧ WdA wr g n1 (dX ws) (dN ws m) ∧ Keep (fun k => k = qb) w2 wr)) (fun _ v13 _ => n - (intOf v13).toNat)
    case atStart => exact ⟨0, rfl, Nat.zero_le _, none, 0, 0, rfl, rfl, World.ownsRow_nil _ _ _ _, (fun k e => by cases e), HF.out.1, Nat.zero_le _, HF.out.2.1, Keep.refl _ _⟩
    case round =>
      obtain ⟨i, rfl, hi, oa, on, oc, rfl, HC⟩ := hrel
      by_cases hlt : i < n
      · have hltI : (i : Int) < (n : Int) := by omega
        obtain ⟨hon, hown, hnew, hA, hpT, hWd, hKw⟩ := HC.out
        have hpos := HT.out.2 i hi
        have HX := (show Hid (Calls Tryd.prog 34 #[.pointer (some ⟨qb, 0, none⟩), .slice (some ⟨g, 0, none⟩) n1 n1, .int .i64 (m : Int)] wr fun e w' => e = .returned (.tuple #[.int .u8 ((symU ws m bs i : Nat) : Int), .bool (decide (posU ws m bs (i + 1) ≤ Tl.tailLen bs))]) ∧ AtQ w' qb gq bs (posU ws m bs (i + 1)) ∧ Keep (fun k => k = qb) wr w') from by
          have := nextD_any qb gq bs (posU ws m bs i) g ws m wr hA (by rw [← HL.out]; exact hWd) HH.out.1 HG.out.1 (by omega) HT.out.1
          rw [← HL.out] at this
          exact this)
        have hs256 : symU ws m bs i < 256 := by
          have h1 := (HH.out.1.sym (strm bs (posU ws m bs i) m) (strm_lt _ _ _)).1
          have h2 := HH.out.1.len
          show symX ws m (strm bs (posU ws m bs i) m) < 256
          omega
        have hmap : (List.range (i + 1)).map (symU ws m bs) = (List.range i).map (symU ws m bs) ++ [symU ws m bs i] := by rw [List.range_succ, List.map_append]; rfl
        have hml : ((List.range i).map (symU ws m bs)).length = i := by simp
        clear hA hWd
        go_wp2_with fail
        refine HX.out.mono ?_
        rintro e w4 ⟨rfl, hA4, hK4⟩
        by_cases hp : posU ws m bs (i + 1) ≤ Tl.tailLen bs
        · rw [decide_eq_true hp]
          have hk4w : ∀ k, (Value.slice oa on oc).ownBlock = some k → k ≠ qb := fun k e => by
            have h1 := hnew k e
            have h2 : qb < w2.heap.size := by obtain ⟨c0, h0⟩ := HF.out.1.is.obj; exact obj_lt h0
            omega
          have hown4 := owns_kept hown hK4 hk4w
          obtain ⟨v', W', hrun, hown5, hk5, hm5⟩ := own_push hown4 (symU ws m bs i) (by omega)
          rw [← hmap] at hown5
          obtain ⟨oa', oc', hv'⟩ := owns_form hown5
          have hml2 : ((List.range (i + 1)).map (symU ws m bs)).length = i + 1 := by simp
          rw [hml2] at hv'
          subst hv'
          have hsz : w2.heap.size ≤ w4.heap.size := Nat.le_trans hKw.size hK4.size
          have hk5' : Keep (fun k => w2.heap.size ≤ k) w4 W' := hk5.mono (fun k _ e => hnew k e)
          have hqb2 : qb < w2.heap.size := by obtain ⟨c0, h0⟩ := HF.out.1.is.obj; exact obj_lt h0
          have hwd4 := (HC.out.2.2.2.2.2.1.keep hK4 (by exact HG.out.1)).keep hk5' (by have := HF.out.2.1.lt; omega)
          have HE := (show Hid (W'.ownsRow 0 5 1 (.slice oa' (i + 1) oc') ((List.range (i + 1)).map (symU ws m bs)).length (u8s ((List.range (i + 1)).map (symU ws m bs))) ∧ (∀ k, (Value.slice oa' (i + 1) oc').ownBlock = some k → w2.heap.size ≤ k) ∧ AtQ W' qb gq bs (posU ws m bs (i + 1)) ∧ posU ws m bs (i + 1) ≤ Tl.tailLen bs ∧ WdA W' g n1 (dX ws) (dN ws m) ∧ Keep (fun k => k = qb) w2 W') from
            ⟨hown5, fun k e => by
              rcases hm5 with e2 | ⟨j, e2, hj⟩
              · rw [e2] at e; exact hnew k e
              · rw [e2] at e; cases e; omega, hA4.keep hk5' (by omega) (by have := HG.out.2.2.2; omega), hp, hwd4, (hKw.trans hK4 (fun _ _ h => h)).trans hk5' (fun j hj e => by omega)⟩)
          generalize symU ws m bs i = sy at *
          have hsI : (sy : Int) < 256 := by omega
          clear hown hown4 hown5 hk5 hk5' hm5 hA4 hK4 HX hp hnew hmap hml hml2 hon hwd4 hKw HC hpT
          go_wp2_with (at_builtin; refine wpList_append_run _ rfl _ _ 22 rfl _ _ _ _ rfl rfl hrun ?_)
          go_roundw
          case rel => exact ⟨i + 1, by go_num, by omega, oa', i + 1, oc', rfl, rfl, HE.out⟩
          case measure => simp [intOf]; omega
        · rw [decide_eq_false hp]
          have HE := (show Hid (unpOk ws m bs n = false ∧ Keep noBlock w' w4) from ⟨decide_eq_false (fun h => by
            have := posU_mono ws m bs (i + 1) n (by omega)
            omega), (HF.out.2.2.trans hKw (fun j hj e => by have := HG.out; omega)).trans hK4 (fun j hj e => by have := HG.out; omega)⟩)
          generalize symU ws m bs i = sy at *
          clear hown hA4 hK4 HX hp hnew hmap hml hon hKw HC hpT
          go_wp2_with fail
          go_ret2
          exact ⟨HE.out.2, .inr ⟨HE.out.1, rfl⟩⟩
      · obtain rfl : i = n := by omega
        have hltI : ¬ (i : Int) < (i : Int) := by omega
        obtain ⟨hon, hown, hnew, hA, hpT, hWd, hKw⟩ := HC.out
        have hcl := hA.is.left
        have HD := (show Hid (unpOk ws m bs i = decide (posU ws m bs i = Tl.tailLen bs)) from by
          unfold unpOk
          rw [Bool.eq_iff_iff, decide_eq_true_iff, decide_eq_true_iff]
          exact ⟨fun h => h.2, fun h => ⟨HH.out.2.1, h⟩⟩)
        have hml : ((List.range i).map (symU ws m bs)).length = i := by simp
        have HE := (show Hid (wr.ownsRow 0 5 1 (.slice oa on oc) i (u8s ((List.range i).map (symU ws m bs))) ∧ Keep noBlock w' wr) from ⟨by rw [hml] at hown; exact hown, HF.out.2.2.trans hKw (fun j hj e => by have := HG.out; omega)⟩)
        obtain ⟨z, hz⟩ : ∃ z : Int, z = ((Tl.tailLen bs : Nat) : Int) - ((posU ws m bs i : Nat) : Int) := ⟨_, rfl⟩
        rw [← hz] at hcl
        have HZ := (show Hid _ from hz)
        have hzl : -4503599627370496 < z ∧ z < 4503599627370496 := by have := HT.out.1; have := HT.out.2 i (Nat.le_refl _); omega
        clear hown hnew hA hWd hKw hz HC hpT hml hon
        by_cases hp : posU ws m bs i = Tl.tailLen bs
        · have hz0 : (z != 0) = false := by have := HZ.out; simp; omega
          have hzz : z = 0 := by have := HZ.out; omega
          subst hzz
          have HP := (show Hid _ from hp)
          clear hp hz0 HZ
          go_wp2_with fail
          go_ret2
          exact ⟨HE.out.2, .inl ⟨by rw [HD.out]; exact decide_eq_true HP.out, _, rfl, HE.out.1⟩⟩
        · have hz0 : (z != 0) = true := by have := HZ.out; simp; omega
          go_wp2_with fail
          go_ret2
          exact ⟨HE.out.2, .inr ⟨by rw [HD.out]; exact decide_eq_false hp, rfl⟩⟩

end Go.Proofs.YtcoahkmiebeeeaaDoor
