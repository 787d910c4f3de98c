/-
  TailWrite, the walk: the program's writer and the document's go side by side.
-/
import Derived.Test.YtdkjciilhlhagaaPair
import Derived.Deep.RegionHeld3
import Derived.Deep.DrawnRows
namespace Go.Proofs.Ytdkjciilhlhagaa
open Go.RowKit Go.Shelf
set_option linter.unusedVariables false

attribute [local go_sem ↓] Go.wp_at_zero Go.wp_at_succ

/-- Close of a writer that is empty: the mark alone. -/
theorem close_one {w W : World} {wb vb : Nat} {v : Value} (h : Both w W wb vb (.slice none 0 0) v []) :
    Hid (Calls Try.prog 15 #[.pointer (some ⟨wb, 0, none⟩)] W fun e W1 => ∃ sa n cap, e = .returned (.slice sa n cap) ∧ (convert 22 9 (.slice sa n cap)).run Try.prog W1 = .ok (.string ⟨#[1]⟩) W1 ∧ Keep noBlock w W1) := by
  refine (close_any wb (.slice none 0 0) [] (by decide) W h.isW).mono ?_
  rintro e W1 ⟨y1, rfl, hown1, hW1, hM1, hK1⟩
  obtain ⟨s2, s3, s4⟩ := h.step1 hM1.comes hK1
  obtain ⟨sa, cap, rfl⟩ := owns_form hown1
  have hc := run_conv (Src.of_owns hown1)
  rw [show strOf (pack ([] ++ [1])) = ⟨#[1]⟩ from by decide] at hc
  exact ⟨sa, _, cap, rfl, hc, s3⟩

set_option maxRecDepth 100000 in
set_option maxHeartbeats 4000000 in
theorem write_walk (a : Option Addr) (len cap b off : Nat) (again : Bool) (ps : List PutD) (w : World)
    (ha : a = some ⟨b, off, none⟩ ∨ len = 0) (hps : ∀ j : Nat, (ps[j]?.getD putD0).x < 18446744073709551616)
    (hcs : ∀ j, j < len → w.cell? ⟨b, off + j * 2, none⟩ = some (.int .u64 ((ps[j]?.getD putD0).x : Int)) ∧ w.cell? ⟨b, off + j * 2 + 1, none⟩ = some (.int .i64 (ps[j]?.getD putD0).n)) :
    Calls Try.prog 4 #[.slice a len cap, .bool again] w fun e w' => e = .returned (.bool true) ∧ Keep noBlock w w' := by
  have HA := (show Hid _ from ha)
  have HP := (show Hid _ from hps)
  have HC := (show Hid _ from hcs)
  have hmx : Try.prog.follows .mixedOrders = true := by kernel_rfl
  clear ha hps hcs
  go_enter Try.func4, Try.ntmps4
  go_wp2_with fail
  go_loopw [15] (fun i wr => ∃ (k : Nat) (u v : Value) (L : List (Fin 2)), k ≤ len ∧ k ≤ 300 ∧ i = .int .i64 k ∧ L.length ≤ 56 * k ∧ Both w wr w.heap.size (w.heap.size + 1) u v L) (fun i _ => len - (intOf i).toNat)
  case atStart => exact ⟨0, _, _, [], Nat.zero_le _, Nat.zero_le _, rfl, Nat.zero_le _, Both.new w⟩
  case round =>
    obtain ⟨k, u, v, L, hk, hk3, rfl, hL, hB⟩ := hrel
    by_cases hlt : k < len
    · have hKr := hB.keep
      obtain ⟨c0, c1⟩ := HC.out k hlt
      have hbw := World.block_lt_of_cell? w _ c0
      have d0 := (World.cell?_of_block (a := ⟨b, off + k * 2, none⟩) (hKr.block b hbw (fun h => h))).trans c0
      have d1 := (World.cell?_of_block (a := ⟨b, off + k * 2 + 1, none⟩) (hKr.block b hbw (fun h => h))).trans c1
      have hx := HP.out k
      obtain rfl : a = some ⟨b, off, none⟩ := HA.out.elim id (fun e => by omega)
      clear c0 c1 hKr
      generalize ps[k]?.getD putD0 = pd at d0 d1 hx
      obtain ⟨x, n⟩ := pd
      dsimp only at d0 d1 hx
      have hB1 : Both w (wr.alloc (.cells #[.int .u64 (x : Int), .int .i64 n] 46)) w.heap.size (w.heap.size + 1) u v L := hB.keep0 ((Keep.refl _ wr).alloc _)
      have hpb := World.alloc_heap_new wr (.cells #[.int .u64 (x : Int), .int .i64 n] 46)
      by_cases h300 : k < 300
      · have hPut := (hB1.keep0 (keep_drewN _ 1)).put (pb := wr.heap.size) x n hx (by omega) hpb
        have hLp := putL_le L x n
        have hLL : (putL L x n).length ≤ 56 * (k + 1) := by omega
        have HPUT : Hid (Calls Try.prog 13 #[.pointer (some ⟨w.heap.size, 0, none⟩), .int .u64 (x : Int), .int .i64 n] ((wr.alloc (.cells #[.int .u64 (x : Int), .int .i64 n] 46)).drewN 1) fun e W1 => e = .returned (.int .i64 (putCode n)) ∧ W1.heap[wr.heap.size]? = some (.cells #[.int .u64 (x : Int), .int .i64 n] 46 (0, 0)) ∧
          Hid (Calls Try.prog 14 #[.pointer (some ⟨w.heap.size + 1, 0, none⟩), .int .u64 (x : Int), .int .i64 n] W1 fun e W2 => e = .returned (.int .i64 (putCode n)) ∧ W2.heap[wr.heap.size]? = some (.cells #[.int .u64 (x : Int), .int .i64 n] 46 (0, 0)) ∧ ∃ u' v', Both w W2 w.heap.size (w.heap.size + 1) u' v' (putL L x n))) := hPut
        clear hPut hB hB1 hLp hL
        go_wp2_with fail
        go_region_held3 (fun w' => w'.cell? ⟨wr.heap.size, 0, none⟩ = some (.int .u64 (x : Int)) ∧ w'.cell? ⟨wr.heap.size, 1, none⟩ = some (.int .i64 n))
          (first | (exact ⟨hp2, hp3⟩) | (exact ⟨hp0, hp1⟩) | go_keep)
          ((first
            | (go_at_call 13; refine HPUT.out.mono ?_; rintro e w1 ⟨rfl, hpb1, HP2⟩; have hp0 : w1.cell? ⟨wr.heap.size, 0, none⟩ = some (.int .u64 (x : Int)) := cell_of hpb1 0; have hp1 : w1.cell? ⟨wr.heap.size, 1, none⟩ = some (.int .i64 n) := cell_of hpb1 1)
            | (go_at_call 14; refine HP2.out.mono ?_; rintro e w2 ⟨rfl, hpb2, u1, v1, hB2⟩; have hp2 : w2.cell? ⟨wr.heap.size, 0, none⟩ = some (.int .u64 (x : Int)) := cell_of hpb2 0; have hp3 : w2.cell? ⟨wr.heap.size, 1, none⟩ = some (.int .i64 n) := cell_of hpb2 1)))
        clear HPUT HP2 hp0 hp1 hp2 hp3 hpb hpb1 hpb2 d0 d1
        generalize putL L x n = M at hB2 hLL
        generalize putCode n = pc
        by_cases hag : again = true
        · subst hag
          by_cases h50 : k % 50 = 49
          · have hb5 : (k : Int).tmod 50 = 49 := by rw [Int.tmod_eq_emod_of_nonneg (by omega)]; omega
            have hb6 : (k : Int) % 50 = 49 := by omega
            have hML : M.length < 1000000000000 := by omega
            obtain ⟨S, hS1, hClose⟩ := (hB2.keep0 (keep_drewN _ 1)).close hML
            have HCL : Hid (Calls Try.prog 15 #[.pointer (some ⟨w.heap.size, 0, none⟩)] (w2.drewN 1) fun e W1 => ∃ sa n cap, e = .returned (.slice sa n cap) ∧ (convert 22 9 (.slice sa n cap)).run Try.prog W1 = .ok (.string S) W1 ∧
              Hid (Calls Try.prog 16 #[.pointer (some ⟨w.heap.size + 1, 0, none⟩)] W1 fun e W2 => ∃ sb m cbp, e = .returned (.slice sb m cbp) ∧ (convert 22 9 (.slice sb m cbp)).run Try.prog W2 = .ok (.string S) W2 ∧ (convert 22 9 (.slice sa n cap)).run Try.prog W2 = .ok (.string S) W2 ∧ Both w W2 w.heap.size (w.heap.size + 1) (.slice none 0 0) (.slice none 0 0) [])) := hClose
            clear hClose hS1
            clear h50 hB2
            go_wp2_with fail
            refine wp_region_any (by kernel_rfl) ?_
            change wpAny _ _ _ _ _ _ _ (World.drew _)
            refine wpAny_take (i := 0) (v := ?_) rfl (by kernel_rfl) (by kernel_rfl) (by kernel_rfl) (fun _ _ _ h => h) (Or.inl ⟨by rfl, ?_⟩) ?_
            rotate_left 1
            · (intro w; go_simp; try with_reducible rfl)
            simp only [Act.put, List.getElem_toArray, List.getElem_cons_zero, List.setIfInBounds_toArray, List.set_cons_zero, List.set_cons_succ]
            refine wpAny_take (i := 1) (v := ?_) rfl (by kernel_rfl) (by kernel_rfl) (by kernel_rfl) (fun _ _ _ h => h) (Or.inl ⟨by rfl, ?_⟩) ?_
            rotate_left 1
            · (intro w; go_simp; try with_reducible rfl)
            simp only [Act.put, List.getElem_toArray, List.getElem_cons_zero, List.getElem_cons_succ, List.setIfInBounds_toArray, List.set_cons_zero, List.set_cons_succ]
            refine wpAny_take (i := 2) (v := ?_) rfl (by kernel_rfl) (by kernel_rfl) (by kernel_rfl) (fun _ _ _ h => h) (Or.inl ⟨by rfl, ?_⟩) ?_
            rotate_left 1
            · (intro w; go_simp; try with_reducible rfl)
            simp only [Act.put, List.getElem_toArray, List.getElem_cons_zero, List.getElem_cons_succ, List.setIfInBounds_toArray, List.set_cons_zero, List.set_cons_succ]
            refine wpAny_take (i := 3) (v := ?_) rfl (by kernel_rfl) (by kernel_rfl) (by kernel_rfl) (fun _ _ _ h => h) (Or.inl ⟨by rfl, ?_⟩) ?_
            rotate_left 1
            · (intro w; go_simp; try with_reducible rfl)
            simp only [Act.put, List.getElem_toArray, List.getElem_cons_zero, List.getElem_cons_succ, List.setIfInBounds_toArray, List.set_cons_zero, List.set_cons_succ]
            refine wpAny_take (i := 4) (v := ?_) rfl (by kernel_rfl) (by kernel_rfl) (by kernel_rfl) (fun _ _ _ h => h) (Or.inl ⟨by rfl, ?_⟩) ?_
            rotate_left 1
            · (intro w; go_simp; try with_reducible rfl)
            simp only [Act.put, List.getElem_toArray, List.getElem_cons_zero, List.getElem_cons_succ, List.setIfInBounds_toArray, List.set_cons_zero, List.set_cons_succ]
            refine wpAny_take (i := 5) (v := ?_) rfl (by kernel_rfl) (by kernel_rfl) (by kernel_rfl) (fun _ _ _ h => h) (Or.inl ⟨by rfl, ?_⟩) ?_
            rotate_left 1
            · (intro w; go_simp; try with_reducible rfl)
            simp only [Act.put, List.getElem_toArray, List.getElem_cons_zero, List.getElem_cons_succ, List.setIfInBounds_toArray, List.set_cons_zero, List.set_cons_succ]
            refine wpAny_take (i := 6) (v := ?_) rfl (by kernel_rfl) (by kernel_rfl) (by kernel_rfl) (fun _ _ _ h => h) (Or.inl ⟨by rfl, ?_⟩) ?_
            rotate_left 1
            · (intro w; go_simp; try with_reducible rfl)
            simp only [Act.put, List.getElem_toArray, List.getElem_cons_zero, List.getElem_cons_succ, List.setIfInBounds_toArray, List.set_cons_zero, List.set_cons_succ]
            refine wpAny_take (i := 7) (v := ?_) rfl (by kernel_rfl) (by kernel_rfl) (by kernel_rfl) (fun _ _ _ h => h) (Or.inl ⟨by rfl, ?_⟩) ?_
            rotate_left 1
            · (intro w; go_simp; try with_reducible rfl)
            simp only [Act.put, List.getElem_toArray, List.getElem_cons_zero, List.getElem_cons_succ, List.setIfInBounds_toArray, List.set_cons_zero, List.set_cons_succ]
            refine wpAny_take (i := 10) (v := ?_) rfl (by kernel_rfl) (by kernel_rfl) (by kernel_rfl) (fun _ _ _ h => h) (Or.inl ⟨by rfl, ?_⟩) ?_
            rotate_left 1
            · (intro w; go_simp; try with_reducible rfl)
            simp only [Act.put, List.getElem_toArray, List.getElem_cons_zero, List.getElem_cons_succ, List.setIfInBounds_toArray, List.set_cons_zero, List.set_cons_succ]
            refine wpAny_ready (rs := [8]) (by kernel_rfl) (by simp) ?_
            refine AllReady.cons rfl (fun K hK => ?_) AllReady.nil
            go_simp
            go_wp2_with (go_at_call 15; refine HCL.out.mono ?_; rintro e w3 ⟨sa1, n1, cp1, rfl, cv1, HCV⟩)
            refine wpAny_ready (rs := [9, 11]) (by kernel_rfl) (by simp) ?_
            refine AllReady.cons rfl (fun K hK => ?_) (AllReady.cons rfl (fun K hK => ?_) AllReady.nil)
            · go_simp
              refine hK _ _ ?_
              clear hK K
              refine wpAny_ready (rs := [11]) (by kernel_rfl) (by simp) ?_
              refine AllReady.cons rfl (fun K hK => ?_) AllReady.nil
              go_simp
              go_wp2_with (go_at_call 16; refine HCV.out.mono ?_; rintro e w4 ⟨sb1, m1, cq1, rfl, cv2, cv3, hB4⟩)
              refine wpAny_ready (rs := [12]) (by kernel_rfl) (by simp) ?_
              refine AllReady.cons rfl (fun K hK => ?_) AllReady.nil
              go_simp
              refine hK _ _ ?_
              clear hK K
              refine wpAny_take (i := 13) (v := ?_) rfl (by kernel_rfl) (by kernel_rfl) (by kernel_rfl) (fun _ _ _ h => h) (Or.inl ⟨by rfl, ?_⟩) ?_
              rotate_left 1
              · (intro w; go_simp; try with_reducible rfl)
              simp only [Act.put, List.getElem_toArray, List.getElem_cons_zero, List.getElem_cons_succ, List.setIfInBounds_toArray, List.set_cons_zero, List.set_cons_succ]
              refine wpAny_take (i := 14) (v := ?_) rfl (by kernel_rfl) (by kernel_rfl) (by kernel_rfl) (fun _ _ _ h => h) (Or.inl ⟨by rfl, ?_⟩) ?_
              rotate_left 1
              · (intro w; go_simp; try with_reducible rfl)
              simp only [Act.put, List.getElem_toArray, List.getElem_cons_zero, List.getElem_cons_succ, List.setIfInBounds_toArray, List.set_cons_zero, List.set_cons_succ]
              refine wpAny_done (by kernel_rfl) ?_ _
              go_wp2
              go_roundw
              case rel => exact ⟨k + 1, _, _, [], by omega, by omega, by go_num, Nat.zero_le _, hB4⟩
              case measure => simp [intOf]; omega
            · go_simp
              go_wp2_with (go_at_call 16; refine HCV.out.mono ?_; rintro e w4 ⟨sb1, m1, cq1, rfl, cv2, cv3, hB4⟩)
              refine wpAny_ready (rs := [9, 12]) (by kernel_rfl) (by simp) ?_
              refine AllReady.cons rfl (fun K hK => ?_) (AllReady.cons rfl (fun K hK => ?_) AllReady.nil)
              · go_simp
                refine hK _ _ ?_
                clear hK K
                refine wpAny_ready (rs := [12]) (by kernel_rfl) (by simp) ?_
                refine AllReady.cons rfl (fun K hK => ?_) AllReady.nil
                go_simp
                refine hK _ _ ?_
                clear hK K
                refine wpAny_take (i := 13) (v := ?_) rfl (by kernel_rfl) (by kernel_rfl) (by kernel_rfl) (fun _ _ _ h => h) (Or.inl ⟨by rfl, ?_⟩) ?_
                rotate_left 1
                · (intro w; go_simp; try with_reducible rfl)
                simp only [Act.put, List.getElem_toArray, List.getElem_cons_zero, List.getElem_cons_succ, List.setIfInBounds_toArray, List.set_cons_zero, List.set_cons_succ]
                refine wpAny_take (i := 14) (v := ?_) rfl (by kernel_rfl) (by kernel_rfl) (by kernel_rfl) (fun _ _ _ h => h) (Or.inl ⟨by rfl, ?_⟩) ?_
                rotate_left 1
                · (intro w; go_simp; try with_reducible rfl)
                simp only [Act.put, List.getElem_toArray, List.getElem_cons_zero, List.getElem_cons_succ, List.setIfInBounds_toArray, List.set_cons_zero, List.set_cons_succ]
                refine wpAny_done (by kernel_rfl) ?_ _
                go_wp2
                go_roundw
                case rel => exact ⟨k + 1, _, _, [], by omega, by omega, by go_num, Nat.zero_le _, hB4⟩
                case measure => simp [intOf]; omega
              · go_simp
                refine hK _ _ ?_
                clear hK K
                refine wpAny_ready (rs := [9]) (by kernel_rfl) (by simp) ?_
                refine AllReady.cons rfl (fun K hK => ?_) AllReady.nil
                go_simp
                refine hK _ _ ?_
                clear hK K
                refine wpAny_take (i := 13) (v := ?_) rfl (by kernel_rfl) (by kernel_rfl) (by kernel_rfl) (fun _ _ _ h => h) (Or.inl ⟨by rfl, ?_⟩) ?_
                rotate_left 1
                · (intro w; go_simp; try with_reducible rfl)
                simp only [Act.put, List.getElem_toArray, List.getElem_cons_zero, List.getElem_cons_succ, List.setIfInBounds_toArray, List.set_cons_zero, List.set_cons_succ]
                refine wpAny_take (i := 14) (v := ?_) rfl (by kernel_rfl) (by kernel_rfl) (by kernel_rfl) (fun _ _ _ h => h) (Or.inl ⟨by rfl, ?_⟩) ?_
                rotate_left 1
                · (intro w; go_simp; try with_reducible rfl)
                simp only [Act.put, List.getElem_toArray, List.getElem_cons_zero, List.getElem_cons_succ, List.setIfInBounds_toArray, List.set_cons_zero, List.set_cons_succ]
                refine wpAny_done (by kernel_rfl) ?_ _
                go_wp2
                go_roundw
                case rel => exact ⟨k + 1, _, _, [], by omega, by omega, by go_num, Nat.zero_le _, hB4⟩
                case measure => simp [intOf]; omega
          · have hb5 : ((k : Int).tmod 50 == 49) = false := by rw [Int.tmod_eq_emod_of_nonneg (by omega)]; simp; omega
            clear h50
            go_wp2_with fail
            go_quiet (fail)
            go_wp2
            go_roundw
            case rel => exact ⟨k + 1, _, _, M, by omega, by omega, by go_num, hLL, hB2.keep0 (keep_drewN _ _)⟩
            case measure => simp [intOf]; omega
        · have hag2 : again = false := by simpa using hag
          subst hag2
          clear hag
          go_wp2_with fail
          go_quiet (fail)
          go_wp2
          go_roundw
          case rel => exact ⟨k + 1, _, _, M, by omega, by omega, by go_num, hLL, hB2.keep0 (keep_drewN _ _)⟩
          case measure => simp [intOf]; omega
      · clear hB hx
        have hML : L.length < 1000000000000 := by omega
        obtain ⟨S, hS1, hClose⟩ := (hB1.keep0 (keep_drewN _ 1)).close hML
        have HCL : Hid (Calls Try.prog 15 #[.pointer (some ⟨w.heap.size, 0, none⟩)] ((wr.alloc (.cells #[.int .u64 (x : Int), .int .i64 n] 46)).drewN 1) fun e W1 => ∃ sa n cap, e = .returned (.slice sa n cap) ∧ (convert 22 9 (.slice sa n cap)).run Try.prog W1 = .ok (.string S) W1 ∧
          Hid (Calls Try.prog 16 #[.pointer (some ⟨w.heap.size + 1, 0, none⟩)] W1 fun e W2 => ∃ sb m cbp, e = .returned (.slice sb m cbp) ∧ (convert 22 9 (.slice sb m cbp)).run Try.prog W2 = .ok (.string S) W2 ∧ (convert 22 9 (.slice sa n cap)).run Try.prog W2 = .ok (.string S) W2 ∧ Both w W2 w.heap.size (w.heap.size + 1) (.slice none 0 0) (.slice none 0 0) [])) := hClose
        clear hClose hS1
        clear hB1
        go_wp2_with fail
        go_region_with (first
          | (go_at_call 15; refine HCE.out.mono ?_; rintro e w5 ⟨sa5, n5, cp5, rfl, cv5, hK5⟩)
          | (go_at_call 15; refine HCL.out.mono ?_; rintro e w3 ⟨sa1, n1, cp1, rfl, cv1, HCV⟩)
          | (go_at_call 16; refine HCV.out.mono ?_; rintro e w4 ⟨sb1, m1, cq1, rfl, cv2, cv3, hB4⟩; have HCE := close_one hB4)
          | (go_at_call 9; refine (wakes_any _).mono ?_; rintro e w6 ⟨rfl, hk6⟩))
        all_goals go_wp2
        all_goals go_ret
        all_goals exact ⟨rfl, hK5.trans' hk6⟩
    · obtain rfl : k = len := by omega
      have hML : L.length < 1000000000000 := by omega
      obtain ⟨S, hS1, hClose⟩ := (hB.keep0 (keep_drewN _ 1)).close hML
      have HCL : Hid (Calls Try.prog 15 #[.pointer (some ⟨w.heap.size, 0, none⟩)] (wr.drewN 1) fun e W1 => ∃ sa n cap, e = .returned (.slice sa n cap) ∧ (convert 22 9 (.slice sa n cap)).run Try.prog W1 = .ok (.string S) W1 ∧
        Hid (Calls Try.prog 16 #[.pointer (some ⟨w.heap.size + 1, 0, none⟩)] W1 fun e W2 => ∃ sb m cbp, e = .returned (.slice sb m cbp) ∧ (convert 22 9 (.slice sb m cbp)).run Try.prog W2 = .ok (.string S) W2 ∧ (convert 22 9 (.slice sa n cap)).run Try.prog W2 = .ok (.string S) W2 ∧ Both w W2 w.heap.size (w.heap.size + 1) (.slice none 0 0) (.slice none 0 0) [])) := hClose
      clear hClose hS1
      clear hB
      go_wp2_with fail
      go_region_with (first
        | (go_at_call 15; refine HCE.out.mono ?_; rintro e w5 ⟨sa5, n5, cp5, rfl, cv5, hK5⟩)
        | (go_at_call 15; refine HCL.out.mono ?_; rintro e w3 ⟨sa1, n1, cp1, rfl, cv1, HCV⟩)
        | (go_at_call 16; refine HCV.out.mono ?_; rintro e w4 ⟨sb1, m1, cq1, rfl, cv2, cv3, hB4⟩; have HCE := close_one hB4)
        | (go_at_call 9; refine (wakes_any _).mono ?_; rintro e w6 ⟨rfl, hk6⟩))
      all_goals go_wp2
      all_goals go_ret
      all_goals exact ⟨rfl, hK5.trans' hk6⟩

end Go.Proofs.Ytdkjciilhlhagaa
