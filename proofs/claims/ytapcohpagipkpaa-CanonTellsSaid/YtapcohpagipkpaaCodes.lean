/-
  Codes: the words of lengths that make a code.
-/
import Derived.Test.YtapcohpagipkpaaCodeS
namespace Go.Proofs.Ytapcohpagipkpaa
open Go.RowKit Go.Shelf

attribute [local go_sem] Oper.semAt_some

set_option maxRecDepth 100000 in
set_option maxHeartbeats 2000000 in
/-- tally of too many lengths. -/
theorem tally_far (a : Option Addr) (cap n : Nat) (w : World) (hl : 1024 < n) :
    Calls Try.prog 26 #[.slice a n cap] w fun e w' => ∃ c, e = .returned (.tuple #[.agg (arr16 c), .bool false]) ∧ Keep noBlock w w' := by
  have hlI : (1024 : Int) < (n : Int) := by omega
  have hn := World.alloc_heap_new w (.cells (arr16 (fun _ => 0)) 63)
  go_enter Try.func26, Try.ntmps26
  go_wp2
  refine bodyPost_ret (results_cell_tmp rfl _ _ _ ⟨w.heap.size, 0, none⟩ (.agg (arr16 (fun _ => 0))) rfl (loadVar63 hn)) rfl ?_
  exact ⟨fun _ => 0, rfl, (Keep.refl _ w).alloc _⟩

theorem info51 : (Try.prog.info? 51).map (fun i => (i.zero, i.size, i.bytes)) = some (some (.int .u16 0), 1, 2) := by kernel_rfl

set_option maxRecDepth 100000 in
set_option maxHeartbeats 4000000 in
/-- Codes, where the lengths make no code. -/
theorem codes_bad (a : Option Addr) (cap gb off : Nat) (xs : List Nat) (w : World) (hR : Row w .u8 a cap gb off xs) (hl : xs.length ≤ 1024) (hbad : isCode xs = false) :
    Calls Try.prog 8 #[.slice a xs.length cap] w fun e w' => e = .returned (.tuple #[.slice none 0 0, .int .i64 50]) ∧ Keep noBlock w w' := by
  have hT := tally_any a cap gb off xs w hR hl
  rw [hbad] at hT
  refine (callsIn_wide (n := 4)).1 ?_
  refine callsIn_of_wp_marks Try.func8 rfl trivial ?_ rfl
  simp only [Try.ntmps8, List.size_toArray, List.length_cons, List.length_nil, Nat.reduceAdd, Nat.reduceSub, Array.replicate_succ, Array.replicate_zero, List.push_toArray, List.append_toArray, List.nil_append, List.cons_append]
  gi_wp2_with (refine ⟨trivial, ?_⟩; gi_at_call 26; refine (callsIn_wide.2 hT).mono ?_; rintro e w1 ⟨c, rfl, -, hk⟩; rw [arr16_lit c])
  exact ⟨_, results_tmp2 rfl _ _ _, rfl, hk.alloc _⟩

set_option maxRecDepth 100000 in
set_option maxHeartbeats 4000000 in
/-- Codes, where the lengths make a code. -/
theorem codes_good (a : Option Addr) (cap gb off : Nat) (xs : List Nat) (w : World) (hR : Row w .u8 a cap gb off xs) (hl : xs.length ≤ 1024) (hgood : isCode xs = true) :
    Calls Try.prog 8 #[.slice a xs.length cap] w fun e w' => ∃ cb, e = .returned (.tuple #[.slice (some ⟨cb, 0, none⟩) xs.length xs.length, .int .i64 0]) ∧ w.heap.size ≤ cb ∧ cb < w'.heap.size ∧ Row w' .u16 (some ⟨cb, 0, none⟩) xs.length cb 0 ((List.range xs.length).map (fun s => wordN xs s % 65536)) ∧ Keep noBlock w w' := by
  have hT := tally_any a cap gb off xs w hR hl
  rw [hgood] at hT
  have hmk : ∀ W : World, (Instr.makeSlice 24 (.int .i64 (xs.length : Int)) (.int .i64 (xs.length : Int))).run Try.prog W = .ok (.slice (some ⟨W.heap.size, 0, none⟩) xs.length xs.length) (W.alloc (.cells (madeCells #[.int .u16 0] xs.length) 51)) := fun W =>
    run_make_row' 24 51 (.int .u16 0) 2 Try.underlying24 info51 rfl .i64 .i64 xs.length (by omega) (by omega) W
  have HR := (show Hid (Row w .u8 a cap gb off xs) from hR)
  have HT := (show Hid (∀ u : Unit, Calls Try.prog 26 _ w _) from fun _ => hT)
  clear hT hR
  refine (callsIn_wide (n := 4)).1 ?_
  refine callsIn_of_wp_marks Try.func8 rfl trivial ?_ rfl
  simp only [Try.ntmps8, List.size_toArray, List.length_cons, List.length_nil, Nat.reduceAdd, Nat.reduceSub, Array.replicate_succ, Array.replicate_zero, List.push_toArray, List.append_toArray, List.nil_append, List.cons_append]
  gi_wp2_with (refine ⟨trivial, ?_⟩; gi_at_call 26; refine (callsIn_wide.2 (HT.out ())).mono ?_; rintro e w1 ⟨c, rfl, hc, hk⟩; obtain rfl := hc rfl; rw [arr16_lit (many xs)])
  rw [← arr16_lit (many xs)]
  obtain ⟨b0, b1, b2, bsz, bkp⟩ := boxes3 w1 (Obj.cells (arr16 (many xs)) 63) (Obj.cells (madeCells #[Value.int IntKind.u16 0] xs.length) 51) (Obj.cells #[Value.slice (some ⟨w1.heap.size + 1, 0, none⟩) xs.length xs.length] 24)
  generalize ((w1.alloc (Obj.cells (arr16 (many xs)) 63)).alloc (Obj.cells (madeCells #[Value.int IntKind.u16 0] xs.length) 51)).alloc (Obj.cells #[Value.slice (some ⟨w1.heap.size + 1, 0, none⟩) xs.length xs.length] 24) = W2 at b0 b1 b2 bsz bkp ⊢
  have hk2 : Keep noBlock w W2 := hk.trans' bkp
  have hs1 := hk.size
  refine ⟨trivial, (callsIn_wide.2 (order8_any a cap gb off xs W2 (HR.out.keep hk2 (fun _ h => h)) hl)).mono ?_⟩
  rintro e w3 ⟨g, cap', P, rfl, hg1, hg2, hRP, hO, hk3⟩
  have hs3 := hk3.size
  have hPle : P.length ≤ xs.length := by rw [hO.len]; exact Nat.le_trans (List.length_filter_le _ _) (by simp)
  obtain ⟨mb, hmb⟩ : ∃ mb, mb = w1.heap.size := ⟨_, rfl⟩
  rw [← hmb] at b0 b1 b2 bsz ⊢
  have hgl : W2.heap.size = mb + 3 := bsz
  have m3 := hk3.obj b0 (fun h => h)
  have c3 := hk3.obj b1 (fun h => h)
  have x3 := hk3.obj b2 (fun h => h)
  have hmlt : mb < w3.heap.size := by omega
  have m4 := alloc_far m3 (.cells #[.slice (some ⟨g, 0, none⟩) P.length cap'] 23)
  have k0 := cells16 m4 0 (by omega)
  have k1 := cells16 m4 1 (by omega)
  have k2 := cells16 m4 2 (by omega)
  have k3 := cells16 m4 3 (by omega)
  have k4 := cells16 m4 4 (by omega)
  have k5 := cells16 m4 5 (by omega)
  have k6 := cells16 m4 6 (by omega)
  have k7 := cells16 m4 7 (by omega)
  have k8 := cells16 m4 8 (by omega)
  have k9 := cells16 m4 9 (by omega)
  have k10 := cells16 m4 10 (by omega)
  have k11 := cells16 m4 11 (by omega)
  have k12 := cells16 m4 12 (by omega)
  have k13 := cells16 m4 13 (by omega)
  have k14 := cells16 m4 14 (by omega)
  have k15 := cells16 m4 15 (by omega)
  have H3 := (show Hid (Keep noBlock w w3 ∧ w3.heap[mb + 1]? = some (.cells (madeCells #[Value.int IntKind.u16 0] xs.length) 51 (0, 0)) ∧ w3.heap[mb + 1 + 1]? = some (.cells #[Value.slice (some ⟨mb + 1, 0, none⟩) xs.length xs.length] 24 (0, 0)) ∧ Row w3 .i64 (some ⟨g, 0, none⟩) cap' g 0 P ∧ P = allSyms xs ∧ mb + 3 ≤ g ∧ g < w3.heap.size ∧ mb + 3 ≤ w3.heap.size ∧ w.heap.size ≤ mb) from ⟨hk2.trans' hk3, c3, x3, hRP, allSyms_order xs (by have := of_decide_eq_true hgood; exact this.2.1) P hO, by omega, hg2, by omega, by omega⟩)
  clear m3 m4 c3 x3 b0 b1 b2 bkp hk2 hk3 hRP hO hk hg1 hg2 hgl bsz hs1 hs3 hmb HT
  gi_wp2_with fail
  rw [← arr16_lit (many xs)]
  refine ⟨trivial, (runs_in Fence.wide 3 trivial rfl (many xs) _).mono ?_⟩
  rintro e w4 ⟨rfl, rfl⟩
  clear k0 k1 k2 k3 k4 k5 k6 k7 k8 k9 k10 k11 k12 k13 k14 k15
  have hmle : ∀ l, many xs l ≤ 1024 := fun l => by
    unfold many
    split
    · omega
    · exact Nat.le_trans List.count_le_length hl
  obtain ⟨sbx, hsb⟩ : ∃ sbx, sbx = w3.heap.size := ⟨_, rfl⟩
  have hz4 : (w3.alloc (Obj.cells #[Value.slice (some ⟨g, 0, none⟩) P.length cap'] 23)).heap.size = sbx + 1 := by rw [World.size_alloc, hsb]
  have bx4 : ((w3.alloc (Obj.cells #[Value.slice (some ⟨g, 0, none⟩) P.length cap'] 23)).alloc (Obj.cells (arr16 (many xs)) 63)).heap[sbx + 1]? = some (.cells (arr16 (many xs)) 63 (0, 0)) := by rw [← hz4]; exact World.alloc_heap_new _ _
  have hcs : CS xs P w (w3.alloc (Obj.cells #[Value.slice (some ⟨g, 0, none⟩) P.length cap'] 23)) mb g cap' sbx 0 0 := by
    obtain ⟨q1, q2, q3, q4, _⟩ := H3.out
    refine ⟨⟨_, alloc_far q2 _, fun s hs => ?_⟩, alloc_far q3 _, ⟨some ⟨g, 0, none⟩, fun _ => rfl, by rw [hsb]; exact World.alloc_heap_new _ _⟩, q4.keep ((Keep.refl noBlock w3).alloc _) (fun _ h => h), q1.alloc _⟩
    rw [codeTo_zero]
    simp [madeCells, hs, Nat.mod_one]
  have hcs4 := hcs.alloc (Obj.cells (arr16 (many xs)) 63)
  have hsz4 : ((w3.alloc (Obj.cells #[Value.slice (some ⟨g, 0, none⟩) P.length cap'] 23)).alloc (Obj.cells (arr16 (many xs)) 63)).heap.size = sbx + 2 := by rw [World.size_alloc, hz4]
  have H5 := (show Hid (P = allSyms xs ∧ mb + 3 ≤ g ∧ g < sbx ∧ mb + 3 ≤ sbx ∧ w.heap.size ≤ mb) from by
    obtain ⟨_, _, _, _, q5, q6, q7, q8, q9⟩ := H3.out
    exact ⟨q5, q6, by omega, by omega, q9⟩)
  rw [← hsb, hz4]
  generalize (w3.alloc (Obj.cells #[Value.slice (some ⟨g, 0, none⟩) P.length cap'] 23)).alloc (Obj.cells (arr16 (many xs)) 63) = W4 at bx4 hcs4 hsz4 ⊢
  clear hcs hz4 hsb H3 hmlt
  gi_wp2
  refine range_runs (by omega) (sbx + 1) (many xs) hmle rfl bx4 rfl (fun k V => CS xs P w V mb g cap' sbx k 0 ∧ sbx + 2 ≤ V.heap.size) (fun _ _ => False)
    (fun k a' V => ∃ rb, sbx + 2 ≤ rb ∧ V.heap[rb]? = some (.cells #[.int .i64 (k : Int), .int .i64 ((nextF (many xs) k : Nat) : Int), .int .i64 ((many xs k : Nat) : Int)] 71 (0, 0)) ∧
      a' = { tmps := #[.slice a xs.length cap, undef, .slice none 0 0, .int .i64 0, .pointer (some ⟨mb, 0, none⟩), .bool true, .pointer (some ⟨mb + 1 + 1, 0, none⟩), .pointer (some ⟨sbx, 0, none⟩), .pointer (some ⟨rb, 0, none⟩), undef, undef,
        .tuple #[.agg (arr16 (many xs)), .bool true], .slice a xs.length cap, .tuple #[.agg (arr16 (many xs)), .bool true], .agg (arr16 (many xs)), .bool true, .bool true, .bool false, .slice a xs.length cap, .int .i64 (xs.length : Int), .slice (some ⟨mb + 1, 0, none⟩) xs.length xs.length, .slice a xs.length cap, .slice (some ⟨g, 0, none⟩) P.length cap', .agg (arr16 (many xs)),
        .func (.func 45) #[] #[.pointer (some ⟨sbx + 1, 0, none⟩)], runV (many xs) k, undef, undef, undef, undef, undef, undef, undef, undef, undef, undef, undef, undef, undef, undef, undef, undef, undef, undef, undef, undef, undef, undef, undef, undef], defers := [] })
    (fun k V V' row hs hg hr => ⟨CS.own hs.1 (by have := H5.out; rw [hsz4]; omega) hg hr, Nat.le_trans hs.2 hg.size⟩) (fun _ _ _ _ h _ _ => h)
    (fun k a' _ V V' row hs hg hr => by
      obtain ⟨rb, h1, h2, h3⟩ := hs
      exact ⟨rb, h1, own_obj hg (fun r e => (hr r e).2) h2 rfl, h3⟩)
    ⟨hcs4, by omega⟩ (fun k V h1 h2 h3 => ⟨CS.skip (by rw [h2]; exact h3.1) h2, h3.2⟩) ?assign ?body ?done (fun _ _ h _ => h.elim)
  case assign =>
    intro k V K hk hck hi hK
    unfold runV
    gi_wp2
    exact hK _ _ ⟨by simp, fun k' o _ ho _ => alloc_far ho _⟩ ⟨hi.1.alloc _, by rw [World.size_alloc]; omega⟩ ⟨V.heap.size, hi.2, World.alloc_heap_new V _, rfl⟩
  case body =>
    rintro k a' V hk hck ⟨hi, hsz⟩ ⟨rb, hrb, hob, rfl⟩
    obtain ⟨h51, h52, h53, h54, h55⟩ := H5.out
    have hk0 : k ≠ 0 := by rintro rfl; simp [many] at hck
    obtain ⟨sa, hsa, hsb⟩ := hi.sbox
    have hPl : P.length = offF xs 16 := by rw [h51]; exact offF_all xs
    have hom := offF_mono xs (k + 1) 16 (by omega)
    have hon : offF xs (k + 1) = offF xs k + many xs k := rfl
    have hcap := hi.row.le
    have hml := hmle k
    have hnl := nextF_lt (many xs) hmle k (by omega)
    have hPn : P.length ≤ 1024 := by omega
    obtain rfl := hsa (by omega)
    obtain ⟨ok, hok⟩ : ∃ ok, ok = offF xs k := ⟨_, rfl⟩
    obtain ⟨Lr, hLr⟩ : ∃ Lr, Lr = P.length - ok := ⟨_, rfl⟩
    obtain ⟨cr, hcr⟩ : ∃ cr, cr = cap' - ok := ⟨_, rfl⟩
    rw [← hok, ← hLr, ← hcr] at hsb
    have hsyl : (symsOf xs k).length = many xs k := by rw [symsOf_length]; unfold many; rw [if_neg hk0]
    have hsy : ∀ j (hj : j < (symsOf xs k).length), P[ok + j]?.getD 0 = (symsOf xs k)[j] := fun j hj => by
      rw [h51, hok, allSyms_at xs k j hk (by omega), List.getElem?_eq_getElem hj]
      rfl
    have HSY := (show Hid (∀ j (hj : j < (symsOf xs k).length), P[ok + j]?.getD 0 = (symsOf xs k)[j] ∧ (symsOf xs k)[j] < xs.length) from fun j hj => ⟨hsy j hj, (rank_of xs k j hj).2.1⟩)
    have HL := (show Hid ((symsOf xs k).length = many xs k ∧ k ≠ 0 ∧ ok = offF xs k ∧ offF xs (k + 1) = ok + many xs k ∧ Lr = P.length - ok ∧ cr = cap' - ok) from ⟨hsyl, hk0, hok, by omega, hLr, hcr⟩)
    obtain ⟨mk, hmk'⟩ : ∃ mk, mk = many xs k := ⟨_, rfl⟩
    obtain ⟨nk, hnk'⟩ : ∃ nk, nk = nextF (many xs) k := ⟨_, rfl⟩
    have b1 : mk ≤ Lr ∧ Lr ≤ cr ∧ 0 < mk ∧ Lr ≤ 1024 ∧ ok + mk ≤ P.length := by omega
    rw [← hmk', ← hnk'] at hob
    have HN := (show Hid (mk = many xs k ∧ nk = nextF (many xs) k) from ⟨hmk', hnk'⟩)
    have hnl' : nk < 134217728 := by omega
    have hml' : mk ≤ 1024 := by omega
    have cs0 := cell_of hsb 0
    have r0 := cell_of hob 0
    have r1 := cell_of hob 1
    have r2 := cell_of hob 2
    simp at cs0 r0 r1 r2
    have bI1 : (mk : Int) ≤ (cr : Int) := by omega
    have bI2 : (mk : Int) ≤ (Lr : Int) := by omega
    unfold runV
    rw [← hmk', ← hnk']
    clear hsb hsa hsy hmk' hnk' hsyl hk0 hok hom hon hcap hml hnl hPl h51 hLr hcr
    gi_wp2
    gi_loopw [31] (fun vj wr => ∃ j : Nat, vj = .int .i64 (j : Int) ∧ j ≤ mk ∧ CS xs P w wr mb g cap' sbx k j ∧ wr.heap[rb]? = some (.cells #[.int .i64 (k : Int), .int .i64 (nk : Int), .int .i64 (mk : Int)] 71 (0, 0)) ∧ KeepsFrom W4.heap.size V wr ∧ sbx + 2 ≤ wr.heap.size) (fun vj _ => mk - (intOf vj).toNat)
    case atStart => exact ⟨0, rfl, by omega, hi, hob, KeepsFrom.refl _ _, hsz⟩
    case round =>
      clear cs0 r0 r1 r2 hob hi hsz
      obtain ⟨j, rfl, hj, hcs, hob, hkf, hsz⟩ := hrel
      by_cases hlt : j < mk
      · have hjs : j < (symsOf xs k).length := by have := HL.out; have := HN.out; omega
        obtain ⟨q1, q2⟩ := HSY.out j hjs
        have c1 := hcs.row.cells (ok + j) (by omega)
        rw [q1, Nat.zero_add] at c1
        have hst := hcs.step HL.out.2.1 hjs h55 (by omega) (by omega)
        rw [← HN.out.2] at hst
        obtain ⟨cs, hcb, hcells⟩ := hcs.codes
        obtain ⟨sym, hsym⟩ : ∃ sym, sym = (symsOf xs k)[j] := ⟨_, rfl⟩
        rw [← hsym] at c1 hst q2
        have c2 := (cell_of hcb sym).trans (hcells sym q2)
        have z2 := frozen_of hcb sym
        have c3 := cell_of hcs.cbox 0
        have r1 := cell_of hob 1
        simp at c3 r1
        obtain ⟨v, hv⟩ : ∃ v, v = (nk + j) % 65536 := ⟨_, rfl⟩
        rw [← hv] at hst
        have hvI : IntKind.u16.wrap ((nk : Int) + (j : Int)) = (v : Int) := by rw [IntKind.wrap_u16]; omega
        have hqI : (sym : Int) < (xs.length : Int) := by omega
        have hjI : (j : Int) < (mk : Int) := by omega
        have HST := (show Hid (CS xs P w (wr.setCell ⟨mb + 1, sym, none⟩ (.int .u16 (v : Int))) mb g cap' sbx k (j + 1) ∧ (wr.setCell ⟨mb + 1, sym, none⟩ (.int .u16 (v : Int))).heap[rb]? = some (.cells #[.int .i64 (k : Int), .int .i64 (nk : Int), .int .i64 (mk : Int)] 71 (0, 0)) ∧ KeepsFrom W4.heap.size V (wr.setCell ⟨mb + 1, sym, none⟩ (.int .u16 (v : Int)))) from ⟨hst, set_far hob (by omega) _ _, ⟨by rw [World.size_setCell]; exact hkf.size, fun k' o h1 h2 h3 => ((KeepsOthers.setCell wr ⟨mb + 1, sym, none⟩ (.int .u16 (v : Int))).from W4.heap.size).same k' o h1 (hkf.same k' o h1 h2 h3) h3⟩⟩)
        clear hst hcb hcells hcs hob hkf hsym q1 hv
        gi_wp2
        go_roundw
        case rel => exact ⟨j + 1, by go_num, by omega, HST.out.1, HST.out.2.1, HST.out.2.2, by rw [World.size_setCell]; exact hsz⟩
        case measure => simp [intOf]; omega
      · obtain rfl : j = mk := by omega
        obtain ⟨sa, hsa, hsb⟩ := hcs.sbox
        have hl6 := HL.out
        have hn6 := HN.out
        obtain rfl := hsa (by omega)
        rw [← hl6.2.2.1, ← hl6.2.2.2.2.1, ← hl6.2.2.2.2.2] at hsb
        have cs0 := cell_of hsb 0
        have z0 := frozen_of hsb 0
        have r2 := cell_of hob 2
        simp at cs0 r2
        have hdr : ∀ sa n c, _ → _ → _ → CS xs P w _ mb g cap' sbx (k + 1) 0 := fun sa n c => CS.drop (by rw [← hn6.1]; exact hcs) (by omega) (by omega) (by omega) sa n c
        have HDR := (show Hid (∀ sa n c, _ → _ → _ → CS xs P w _ mb g cap' sbx (k + 1) 0) from hdr)
        have HKF := (show Hid (∀ v, KeepsFrom W4.heap.size V (wr.setCell ⟨sbx, 0, none⟩ v)) from fun v => ⟨by rw [World.size_setCell]; exact hkf.size, fun k' o h1 h2 h3 => ((KeepsOthers.setCell wr ⟨sbx, 0, none⟩ v).from W4.heap.size).same k' o h1 (hkf.same k' o h1 h2 h3) h3⟩)
        clear hdr hkf hcs hsb hob hsa hl6 hn6
        by_cases hce : cr = j
        · subst hce
          gi_wp2
          refine ⟨HKF.out _, HDR.out _ _ _ ?_ ?_ ?_, by rw [World.size_setCell]; exact hsz⟩
          all_goals (have hl6 := HL.out; have hn6 := HN.out; first | omega | (intro h; omega))
        · have hce' : ¬ (cr : Int) = (j : Int) := by omega
          gi_wp2
          refine ⟨HKF.out _, HDR.out _ _ _ ?_ ?_ ?_, by rw [World.size_setCell]; exact hsz⟩
          all_goals (have hl6 := HL.out; have hn6 := HN.out; first | omega | (intro h; congr 2 <;> omega))
  case done =>
    rintro V ⟨hi, hsz⟩ hD
    have c3 := cell_of hi.cbox 0
    simp at c3
    gi_wp2
    obtain ⟨h51, h52, h53, h54, h55⟩ := H5.out
    obtain ⟨cs, h1, h2⟩ := hi.codes
    have h15 := (of_decide_eq_true hgood).2.1
    have hkp : Keep (fun k => k = W4.heap.size) V (V.putObj W4.heap.size (.deferred none)) := (Keep.refl _ V).putObj _ _ (fun _ => rfl)
    have h1' := hkp.obj h1 (by omega)
    refine ⟨by simp, .inl ⟨_, _, rfl, run_takeDeferred hD, ?_⟩⟩
    refine ⟨_, results_tmp2 rfl _ _ _, mb + 1, rfl, by omega, obj_lt h1', ⟨.inl rfl, fun j hj => ?_, by simp⟩, hi.keep.putObj _ _ (fun h => by omega)⟩
    have hj' : j < xs.length := by simpa using hj
    rw [Nat.zero_add, cell_of h1', h2 j hj', codeTo_all xs h15 j hj']
    simp [hj']

set_option maxRecDepth 100000 in
set_option maxHeartbeats 2000000 in
/-- Codes of too many lengths. -/
theorem codes_far (a : Option Addr) (cap n : Nat) (w : World) (hl : 1024 < n) :
    Calls Try.prog 8 #[.slice a n cap] w fun e w' => e = .returned (.tuple #[.slice none 0 0, .int .i64 50]) ∧ Keep noBlock w w' := by
  have hT := tally_far a cap n w hl
  refine (callsIn_wide (n := 4)).1 ?_
  refine callsIn_of_wp_marks Try.func8 rfl trivial ?_ rfl
  simp only [Try.ntmps8, List.size_toArray, List.length_cons, List.length_nil, Nat.reduceAdd, Nat.reduceSub, Array.replicate_succ, Array.replicate_zero, List.push_toArray, List.append_toArray, List.nil_append, List.cons_append]
  gi_wp2_with (refine ⟨trivial, ?_⟩; gi_at_call 26; refine (callsIn_wide.2 hT).mono ?_; rintro e w1 ⟨c, rfl, hk⟩; rw [arr16_lit c])
  exact ⟨_, results_tmp2 rfl _ _ _, rfl, hk.alloc _⟩

end Go.Proofs.Ytapcohpagipkpaa
