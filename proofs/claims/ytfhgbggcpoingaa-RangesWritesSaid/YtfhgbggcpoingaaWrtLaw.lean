/-
  RangesWrites answers true.
-/
import Derived.Test.YtfhgbggcpoingaaWrtG
namespace Go.Proofs.Ytfhgbggcpoingaa
open Go.RowKit Go.Shelf
set_option linter.unusedVariables false

set_option maxRecDepth 100000 in
set_option maxHeartbeats 8000000 in
theorem writes_any (a1 : Option Addr) (cap1 gb1 off1 : Nat) (ls : List Nat) (a2 : Option Addr) (cap2 gb2 off2 : Nat) (ts : List ActD) (w : World) (hR : Row16 w a1 cap1 gb1 off1 ls) (hA : Acts w a2 cap2 gb2 off2 ts) :
    Calls Try.prog 4 #[.slice a1 ls.length cap1, .slice a2 ts.length cap2] w fun e w' => e = .returned (.bool true) ∧ Keep noBlock w w' := by
  have hcap1 := hR.cap
  have hcap2 := hA.cap
  have hlen1 := hR.len
  by_cases hl1 : 200 < ls.length
  · have hI : (200 : Int) < (ls.length : Int) := by omega
    generalize ls.length = n1 at *
    generalize ts.length = n2 at *
    clear hR hA
    go_enter Try.func4, Try.ntmps4
    go_wp2_with (go_at_call 8; refine (wakes_any _).mono ?_; rintro e w7 ⟨rfl, hK7⟩)
    go_ret
    exact ⟨rfl, hK7⟩
  have hI1 : ¬ (200 : Int) < (ls.length : Int) := by omega
  by_cases hl2 : 2000 < ts.length
  · have hI : (2000 : Int) < (ts.length : Int) := by omega
    generalize ls.length = n1 at *
    generalize ts.length = n2 at *
    clear hR hA
    go_enter Try.func4, Try.ntmps4
    go_wp2_with (go_at_call 8; refine (wakes_any _).mono ?_; rintro e w7 ⟨rfl, hK7⟩)
    go_ret
    exact ⟨rfl, hK7⟩
  have hI2 : ¬ (2000 : Int) < (ts.length : Int) := by omega
  have HC := hid (fun (W : World) (hk : Keep noBlock w W) => chances_any a1 cap1 gb1 off1 ls W (hR.keep hk (fun _ h => h)) (by omega))
  have hLlen : (ls ++ [1024]).length = ls.length + 1 := by simp
  have HL := (show Hid ((ls ++ [1024]).length = ls.length + 1 ∧ ls.length ≤ 200) from ⟨hLlen, by omega⟩)
  have HA := (show Hid (Acts w a2 cap2 gb2 off2 ts ∧ ts.length ≤ 2000) from ⟨hA, by omega⟩)
  obtain ⟨L0, hL0⟩ : ∃ L0, L0 = ls ++ [1024] := ⟨_, rfl⟩
  rw [← hL0] at HC HL hLlen
  obtain ⟨m, hm⟩ : ∃ m, m = L0.length := ⟨_, rfl⟩
  rw [← hm] at HC HL hLlen
  have HM := (show Hid (m = L0.length ∧ 0 < m ∧ m ≤ 201) from ⟨hm, by omega, by omega⟩)
  have hmB : (m : Int) ≤ 201 := by omega
  have hmP : (0 : Int) < (m : Int) := by omega
  obtain ⟨n1, hn1⟩ : ∃ n1, n1 = ls.length := ⟨_, rfl⟩
  obtain ⟨n2, hn2⟩ : ∃ n2, n2 = ts.length := ⟨_, rfl⟩
  rw [← hn1] at HC hI1 ⊢
  rw [← hn2] at HA hI2 hcap2 ⊢
  have HN2 := hid hn2
  have hn2B : (n2 : Int) ≤ 2000 := by omega
  clear hR hA hL0 hm hLlen hn1 hn2 hl1 hl2 hcap1 hlen1 HL
  go_enter Try.func4, Try.ntmps4
  go_wp2_with fail
  refine (newE_any w).mono ?_
  rintro e w1 ⟨rfl, hE1, hK1⟩
  have hV := newV_any w1
  have H1 := (show Hid (IsE w1 w.heap.size newE true (.slice none 0 0) ∧ Keep noBlock w w1) from ⟨hE1, hK1⟩)
  clear hE1 hK1
  go_wp2_with fail
  refine hV.mono ?_
  clear hV
  rintro e w2 ⟨rfl, hV2, hK2⟩
  have hC := HC.out w2 (H1.out.2.trans' hK2)
  have H2 := (show Hid (IsV w2 w1.heap.size newE false (.slice none 0 0) ∧ Keep noBlock w1 w2) from ⟨hV2, hK2⟩)
  clear hV2 hK2
  go_wp2_with fail
  refine hC.mono ?_
  clear hC
  rintro e w3 ⟨g, c, rfl, hg, hc, hch, hK3⟩
  have hC2 := HC.out w3 ((H1.out.2.trans' H2.out.2).trans' hK3)
  have H3 := (show Hid (w2.heap.size ≤ g ∧ Chs w3 g L0 ∧ Keep noBlock w2 w3) from ⟨hg, hch, hK3⟩)
  clear hg hch hK3
  have hcI : (m : Int) ≤ (c : Int) := by omega
  go_wp2_with fail
  refine hC2.mono ?_
  clear hC2
  rintro e w4 ⟨g2, c2, rfl, hg2, hc2, hch2, hK4⟩
  have hc2I : (m : Int) ≤ (c2 : Int) := by omega
  have HG : Two w w4 w.heap.size g w1.heap.size g2 (newE, L0) (newE, L0) (.slice none 0 0) (.slice none 0 0) := by
    obtain ⟨x1, x2⟩ := H1.out
    obtain ⟨y1, y2⟩ := H2.out
    obtain ⟨z1, z2, z3⟩ := H3.out
    have k24 := z3.trans' hK4
    have k14 := y2.trans' k24
    obtain ⟨_, og, _⟩ := z2.obj
    have q1 := obj_lt og
    have q2 := x2.size
    have q3 := y2.size
    have q4 := z3.size
    exact ⟨x1.keep k14 (fun h => h) (fun _ _ h => h), y1.keep k24 (fun h => h) (fun _ _ h => h), newE_good, newE_good, z2.keep hK4 (fun h => h), hch2, by omega, (fun k hk => by cases hk), Nat.le_refl _, by omega, (fun k hk => by cases hk), q2, by omega, (fun k hk => by cases hk), x2.trans' k14⟩
  clear hg2 hch2 hK4 H1 H2 H3
  generalize hb : w.heap.size = b at *
  generalize hb2 : w1.heap.size = b2 at *
  clear hb hb2
  go_wp2_with fail
  go_loopw [9] (fun i wr => ∃ (k : Nat) (v v2 : Value), k ≤ n2 ∧ i = .int .i64 k ∧ Two w wr b g b2 g2 (runE anyF (newE, L0) (ts.take k)) (runE anyF (newE, L0) (ts.take k)) v v2) (fun i _ => n2 - (intOf i).toNat)
  case atStart => exact ⟨0, _, _, Nat.zero_le _, rfl, HG⟩
  case round =>
    clear HG
    obtain ⟨k, v, v2, hk, rfl, hG⟩ := hrel
    have hmany := runE_many anyF (ts.take k) (newE, L0)
    rw [show manyE (newE, L0).1 = 1 from rfl] at hmany
    have hts := HA.out.2
    have htk : (ts.take k).length ≤ 2000 := by rw [List.length_take]; have := HN2.out; omega
    by_cases hlt : k < n2
    · have hltI : (k : Int) < (n2 : Int) := by omega
      have hlt' : k < ts.length := by rw [← HN2.out]; exact hlt
      have hstep := runE_take anyF (newE, L0) ts k hlt'
      have hlen := runE_len anyF (ts.take k) (newE, L0)
      have hAk := HA.out.1.keep hG.keep
      obtain ⟨x0, x1, x2⟩ := hAk.cells k hlt'
      have hn := hAk.lt k hlt'
      obtain rfl : a2 = some ⟨gb2, off2, none⟩ := by
        rcases hAk.at_ with q | q
        · exact q
        · rw [q] at hlt'; simp at hlt'
      generalize runE anyF (newE, L0) (ts.take k) = s at *
      generalize ts[k]?.getD actD0 = A at *
      have hsl : s.2.length = m := by rw [hlen]; exact HM.out.1.symm
      have HS := hid hstep
      have HLT := hid hG.apart.2.2.1
      have HLT2 := hid hG.apart.2.2.2.1
      have hG2 := hG.to ((Keep.refl noBlock wr).alloc (.cells #[.int .i64 A.at_, .int .u32 (A.n : Int), .int .i64 A.many] 36))
      clear hstep hlen hAk hG hlt' hts
      by_cases hmn : 0 < A.many
      · have HD := hid (hG2.direct anyF A hmn hn (by omega))
        have HD2 := hid (fun (W : World) (v' : Value) (hT : Two w W b g b2 g2 (chE anyF s A) s v' v2) => hT.direct2 anyF A hmn hn (by omega))
        clear hG2 hmany hsl htk
        obtain ⟨at_, n, many⟩ := A
        dsimp only at *
        have hnI : (n : Int) < 4294967296 := by omega
        have hx1 : (wr.alloc (.cells #[.int .i64 at_, .int .u32 (n : Int), .int .i64 many] 36)).cell? ⟨wr.heap.size, 1, none⟩ = some (.int .u32 (n : Int)) := cell_of (alloc_new wr _) 1
        have hx2 : (wr.alloc (.cells #[.int .i64 at_, .int .u32 (n : Int), .int .i64 many] 36)).cell? ⟨wr.heap.size, 2, none⟩ = some (.int .i64 many) := cell_of (alloc_new wr _) 2
        have HX := (show Hid (∀ w3, Keep (EncT b g v) (wr.alloc (.cells #[.int .i64 at_, .int .u32 (n : Int), .int .i64 many] 36)) w3 → w3.cell? ⟨wr.heap.size, 1, none⟩ = some (.int .u32 (n : Int)) ∧ w3.cell? ⟨wr.heap.size, 2, none⟩ = some (.int .i64 many)) from fun w3 hk3 => ⟨keep_cell hk3 hx1 (fun q => by have := HLT.out _ q; omega), keep_cell hk3 hx2 (fun q => by have := HLT.out _ q; omega)⟩)
        clear hx1 hx2
        go_wp2_with (first | (go_at_call 20; refine HD.out.mono ?_; rintro r w3 ⟨rfl, v3, hG3, hK3⟩; obtain ⟨hz1, hz2⟩ := HX.out w3 hK3; clear hK3) | (go_at_call 21; refine (HD2.out _ _ hG3).mono ?_; rintro r w4 ⟨rfl, v4, hG4⟩))
        go_roundw
        case rel => exact ⟨k + 1, v3, v4, by omega, by go_num, by rw [HS.out]; exact hG4⟩
        case measure => simp [intOf]; omega
      · obtain ⟨t, ht1, ht2, ht3⟩ := anyF_bit A.n hn
        obtain ⟨r, s2, y1, y2, y3, y4, y5, y6, y7⟩ := arnd_parts m A.at_ (by omega) (by omega)
        have HD := hid (fun (W : World) (hk : Keep noBlock _ W) => (hG2.to hk).bit anyF A hmn hsl HM.out.2.1 (by have := HM.out.2.2; omega) (t : Int) ht3 (by omega))
        have HD2 := hid (fun (W : World) (v' : Value) (hT : Two w W b g b2 g2 (chE anyF s A) s v' v2) => hT.bit2 anyF A hmn hsl HM.out.2.1 (by have := HM.out.2.2; omega) (t : Int) ht3 (by omega))
        have hsl2 := chE_len anyF s A
        rw [hsl] at hsl2
        have HSL := hid hsl2
        clear hG2 hmany hsl hsl2 htk
        generalize arndN m A.at_ = kk at *
        obtain ⟨at_, n, many⟩ := A
        dsimp only at *
        have hnI : (n : Int) < 4294967296 := by omega
        have hmnI : ¬ (0 : Int) < many := hmn
        have hkI : (kk : Int) < (m : Int) := by omega
        have htI : (t : Int) < 4 := by omega
        have hm0 : ¬ m = 0 := by omega
        have hm0' : ¬ (m : Int) = 0 := by omega
        have hw4 : (s2 : Int).tmod (m : Int) = (kk : Int) := by rw [Int.tmod_eq_emod_of_nonneg (by omega)]; exact y3
        clear ht3
        go_wp2_with fail
        have hw5 : IntKind.i64.wrap (t : Int) = (t : Int) := by rw [IntKind.wrap_i64]; omega
        have hx1 : (wr.alloc (.cells #[.int .i64 at_, .int .u32 (n : Int), .int .i64 many] 36)).cell? ⟨wr.heap.size, 1, none⟩ = some (.int .u32 (n : Int)) := cell_of (alloc_new wr _) 1
        generalize wr.alloc (.cells #[.int .i64 at_, .int .u32 (n : Int), .int .i64 many] 36) = W at *
        generalize wr.heap.size = xb at *
        go_region_held3 (fun w' => w'.cell? ⟨xb, 1, none⟩ = some (.int .u32 (n : Int))) (go_keep) ((first | (go_at_call 22; refine (HD.out _ ((Keep.refl _ _).drew)).mono ?_; rintro r w5 ⟨rfl, v5, hG5, hK5⟩; have hz1 := keep_cell hK5 (i := 1) (b := xb) (u := .int .u32 (n : Int)) hx1 (fun q => by have := HLT.out _ q; omega); clear hK5)))
        go_wp2_with fail
        go_region_held3 (fun w' => w'.cell? ⟨xb, 1, none⟩ = some (.int .u32 (n : Int))) (go_keep) ((first | (go_at_call 23; refine (HD2.out _ _ (hG5.to ((Keep.refl _ _).drew))).mono ?_; rintro r w6 ⟨rfl, v6, hG6, hK6⟩; have hz6 := keep_cell hK6 (i := 1) (b := xb) (u := .int .u32 (n : Int)) hz1 (fun q => by have := HLT2.out _ q; omega); clear hK6)))
        have d1 := hG6.chs.cell kk (by rw [HSL.out]; exact y4)
        have d2 := hG6.chs2.cell kk (by rw [HSL.out]; exact y4)
        generalize (chE anyF s ⟨at_, n, many⟩).2[kk]?.getD 0 = pv at *
        go_wp2_with fail
        go_quiet (fail)
        go_wp2_with fail
        go_roundw
        case rel => exact ⟨k + 1, v5, v6, by omega, by go_num, by rw [HS.out]; exact hG6.to (keep_drewN _ _)⟩
        case measure => simp [intOf]; omega
    · have hkn : k = n2 := by omega
      rw [hkn, HN2.out, List.take_length] at hG hmany
      have hts2 := HN2.out
      have HC2 := hid (hG.close (by omega))
      have hol : (closeE (runE anyF (newE, L0) ts).1).out.length ≤ 1000000 := by
        have := (closeE_val hG.good).2
        omega
      have HOL := hid hol
      clear hG hmany hts hts2 htk hkn hol
      generalize closeE (runE anyF (newE, L0) ts).1 = E at *
      go_wp2_with fail
      refine HC2.out.mono ?_
      rintro e w5 ⟨u, rfl, ⟨un, uc, ua, rfl⟩, HV⟩
      go_wp2_with fail
      refine HV.out.mono ?_
      rintro e w6 ⟨u2, rfl, ⟨tn, tc, ta, rfl⟩, hCl⟩
      obtain ⟨⟨v7, hE7⟩, hs1, hs2, hK6, hown2⟩ := hCl
      have cv1 := run_conv hs1
      have cv2 := run_conv hs2
      have HD7 := hid (directE_closed b 7 9 E v7 w6 hE7)
      have HC7 := hid (fun (W : World) (hk : Keep noBlock w6 W) => close_closed b E v7 W (hE7.keep hk (fun h => h) (fun _ _ h => h)) HOL.out)
      have HK6 := hid hK6
      have cvB := hid (fun (W : World) (hk : Keep noBlock w6 W) => run_conv (Src.of_owns (owns_kept hown2 hk (fun _ _ h => h))))
      clear hs1 hs2 hE7 hK6 hown2 HC2 HV
      generalize hSS : strOf E.out = SS at *
      have HSS := hid hSS
      clear hSS
      go_wp2_with (go_at_call 20; refine HD7.out.mono ?_; rintro e w7 ⟨rfl, hw⟩; obtain rfl := hw.symm)
      refine wp_region_any (by kernel_rfl) ?_
      change wpAny _ _ _ _ _ _ _ (World.drew _)
      refine wpAny_take (i := 0) (v := ?_) rfl (by kernel_rfl) (by kernel_rfl) (by kernel_rfl) (fun _ _ _ h => h) (Or.inl ⟨by rfl, ?_⟩) ?_
      rotate_left 1
      · (intro w; go_simp; try with_reducible rfl)
      simp only [Act.put, List.getElem_toArray, List.getElem_cons_zero, List.setIfInBounds_toArray, List.set_cons_zero, List.set_cons_succ]
      refine wpAny_take (i := 3) (v := ?_) rfl (by kernel_rfl) (by kernel_rfl) (by kernel_rfl) (fun _ _ _ h => h) (Or.inl ⟨by rfl, ?_⟩) ?_
      rotate_left 1
      · (intro w; go_simp; try with_reducible rfl)
      simp only [Act.put, List.getElem_toArray, List.getElem_cons_zero, List.getElem_cons_succ, List.setIfInBounds_toArray, List.set_cons_zero, List.set_cons_succ]
      have c0 := cvB.out w6.drew ((Keep.refl _ _).drew)
      refine wpAny_ready (rs := [1, 4]) (by kernel_rfl) (by simp) ?_
      refine AllReady.cons rfl (fun K hK => ?_) (AllReady.cons rfl (fun K hK => ?_) AllReady.nil)
      · go_simp
        go_wp2_with (go_at_call 24; refine (HC7.out _ ((Keep.refl _ _).drew)).mono ?_; rintro e w8 ⟨u8, rfl, ho8, hK8⟩)
        have hk68 := ((Keep.refl noBlock w6).drew).trans' hK8
        have cu := run_conv (Src.of_owns ho8)
        have cb := cvB.out w8 hk68
        rw [HSS.out] at cu
        obtain ⟨sa, sc, rfl⟩ := owns_form ho8
        clear ho8 hK8
        refine wpAny_ready (rs := [2, 4]) (by kernel_rfl) (by simp) ?_
        refine AllReady.cons rfl (fun K hK => ?_) (AllReady.cons rfl (fun K hK => ?_) AllReady.nil)
        · go_simp
          refine hK _ _ ?_
          clear hK K
          refine wpAny_ready (rs := [4]) (by kernel_rfl) (by simp) ?_
          refine AllReady.cons rfl (fun K hK => ?_) AllReady.nil
          go_simp
          refine hK _ _ ?_
          clear hK K
          refine wpAny_take (i := 5) (v := ?_) rfl (by kernel_rfl) (by kernel_rfl) (by kernel_rfl) (fun _ _ _ h => h) (Or.inl ⟨by rfl, ?_⟩) ?_
          rotate_left 1
          · (intro w; go_simp; try with_reducible rfl)
          simp only [Act.put, List.getElem_toArray, List.getElem_cons_zero, List.getElem_cons_succ, List.setIfInBounds_toArray, List.set_cons_zero, List.set_cons_succ]
          refine wpAny_take (i := 6) (v := ?_) rfl (by kernel_rfl) (by kernel_rfl) (by kernel_rfl) (fun _ _ _ h => h) (Or.inl ⟨by rfl, ?_⟩) ?_
          rotate_left 1
          · (intro w; go_simp; try with_reducible rfl)
          simp only [Act.put, List.getElem_toArray, List.getElem_cons_zero, List.getElem_cons_succ, List.setIfInBounds_toArray, List.set_cons_zero, List.set_cons_succ]
          refine wpAny_ready (rs := [7]) (by kernel_rfl) (by simp) ?_
          refine AllReady.cons rfl (fun K hK => ?_) AllReady.nil
          go_simp
          go_wp2_with (go_at_call 8; refine (wakes_any _).mono ?_; rintro e w9 ⟨rfl, hK9⟩)
          refine wpAny_take (i := 8) (v := ?_) rfl (by kernel_rfl) (by kernel_rfl) (by kernel_rfl) (fun _ _ _ h => h) (Or.inl ⟨by rfl, ?_⟩) ?_
          rotate_left 1
          · (intro w; go_simp; try with_reducible rfl)
          simp only [Act.put, List.getElem_toArray, List.getElem_cons_zero, List.getElem_cons_succ, List.setIfInBounds_toArray, List.set_cons_zero, List.set_cons_succ]
          refine wpAny_take (i := 9) (v := ?_) rfl (by kernel_rfl) (by kernel_rfl) (by kernel_rfl) (fun _ _ _ h => h) (Or.inl ⟨by rfl, ?_⟩) ?_
          rotate_left 1
          · (intro w; go_simp; try with_reducible rfl)
          simp only [Act.put, List.getElem_toArray, List.getElem_cons_zero, List.getElem_cons_succ, List.setIfInBounds_toArray, List.set_cons_zero, List.set_cons_succ]
          refine wpAny_done (by kernel_rfl) ?_ _
          go_wp2_with fail
          go_ret
          exact ⟨rfl, (HK6.out.trans' hk68).trans' hK9⟩
        · go_simp
          refine hK _ _ ?_
          clear hK K
          refine wpAny_ready (rs := [2]) (by kernel_rfl) (by simp) ?_
          refine AllReady.cons rfl (fun K hK => ?_) AllReady.nil
          go_simp
          refine hK _ _ ?_
          clear hK K
          refine wpAny_take (i := 5) (v := ?_) rfl (by kernel_rfl) (by kernel_rfl) (by kernel_rfl) (fun _ _ _ h => h) (Or.inl ⟨by rfl, ?_⟩) ?_
          rotate_left 1
          · (intro w; go_simp; try with_reducible rfl)
          simp only [Act.put, List.getElem_toArray, List.getElem_cons_zero, List.getElem_cons_succ, List.setIfInBounds_toArray, List.set_cons_zero, List.set_cons_succ]
          refine wpAny_take (i := 6) (v := ?_) rfl (by kernel_rfl) (by kernel_rfl) (by kernel_rfl) (fun _ _ _ h => h) (Or.inl ⟨by rfl, ?_⟩) ?_
          rotate_left 1
          · (intro w; go_simp; try with_reducible rfl)
          simp only [Act.put, List.getElem_toArray, List.getElem_cons_zero, List.getElem_cons_succ, List.setIfInBounds_toArray, List.set_cons_zero, List.set_cons_succ]
          refine wpAny_ready (rs := [7]) (by kernel_rfl) (by simp) ?_
          refine AllReady.cons rfl (fun K hK => ?_) AllReady.nil
          go_simp
          go_wp2_with (go_at_call 8; refine (wakes_any _).mono ?_; rintro e w9 ⟨rfl, hK9⟩)
          refine wpAny_take (i := 8) (v := ?_) rfl (by kernel_rfl) (by kernel_rfl) (by kernel_rfl) (fun _ _ _ h => h) (Or.inl ⟨by rfl, ?_⟩) ?_
          rotate_left 1
          · (intro w; go_simp; try with_reducible rfl)
          simp only [Act.put, List.getElem_toArray, List.getElem_cons_zero, List.getElem_cons_succ, List.setIfInBounds_toArray, List.set_cons_zero, List.set_cons_succ]
          refine wpAny_take (i := 9) (v := ?_) rfl (by kernel_rfl) (by kernel_rfl) (by kernel_rfl) (fun _ _ _ h => h) (Or.inl ⟨by rfl, ?_⟩) ?_
          rotate_left 1
          · (intro w; go_simp; try with_reducible rfl)
          simp only [Act.put, List.getElem_toArray, List.getElem_cons_zero, List.getElem_cons_succ, List.setIfInBounds_toArray, List.set_cons_zero, List.set_cons_succ]
          refine wpAny_done (by kernel_rfl) ?_ _
          go_wp2_with fail
          go_ret
          exact ⟨rfl, (HK6.out.trans' hk68).trans' hK9⟩
      · go_simp
        refine hK _ _ ?_
        clear hK K
        refine wpAny_ready (rs := [1]) (by kernel_rfl) (by simp) ?_
        refine AllReady.cons rfl (fun K hK => ?_) AllReady.nil
        go_simp
        go_wp2_with (go_at_call 24; refine (HC7.out _ ((Keep.refl _ _).drew)).mono ?_; rintro e w8 ⟨u8, rfl, ho8, hK8⟩)
        have hk68 := ((Keep.refl noBlock w6).drew).trans' hK8
        have cu := run_conv (Src.of_owns ho8)
        have cb := cvB.out w8 hk68
        rw [HSS.out] at cu
        obtain ⟨sa, sc, rfl⟩ := owns_form ho8
        clear ho8 hK8
        refine wpAny_ready (rs := [2]) (by kernel_rfl) (by simp) ?_
        refine AllReady.cons rfl (fun K hK => ?_) AllReady.nil
        go_simp
        refine hK _ _ ?_
        clear hK K
        refine wpAny_take (i := 5) (v := ?_) rfl (by kernel_rfl) (by kernel_rfl) (by kernel_rfl) (fun _ _ _ h => h) (Or.inl ⟨by rfl, ?_⟩) ?_
        rotate_left 1
        · (intro w; go_simp; try with_reducible rfl)
        simp only [Act.put, List.getElem_toArray, List.getElem_cons_zero, List.getElem_cons_succ, List.setIfInBounds_toArray, List.set_cons_zero, List.set_cons_succ]
        refine wpAny_take (i := 6) (v := ?_) rfl (by kernel_rfl) (by kernel_rfl) (by kernel_rfl) (fun _ _ _ h => h) (Or.inl ⟨by rfl, ?_⟩) ?_
        rotate_left 1
        · (intro w; go_simp; try with_reducible rfl)
        simp only [Act.put, List.getElem_toArray, List.getElem_cons_zero, List.getElem_cons_succ, List.setIfInBounds_toArray, List.set_cons_zero, List.set_cons_succ]
        refine wpAny_ready (rs := [7]) (by kernel_rfl) (by simp) ?_
        refine AllReady.cons rfl (fun K hK => ?_) AllReady.nil
        go_simp
        go_wp2_with (go_at_call 8; refine (wakes_any _).mono ?_; rintro e w9 ⟨rfl, hK9⟩)
        refine wpAny_take (i := 8) (v := ?_) rfl (by kernel_rfl) (by kernel_rfl) (by kernel_rfl) (fun _ _ _ h => h) (Or.inl ⟨by rfl, ?_⟩) ?_
        rotate_left 1
        · (intro w; go_simp; try with_reducible rfl)
        simp only [Act.put, List.getElem_toArray, List.getElem_cons_zero, List.getElem_cons_succ, List.setIfInBounds_toArray, List.set_cons_zero, List.set_cons_succ]
        refine wpAny_take (i := 9) (v := ?_) rfl (by kernel_rfl) (by kernel_rfl) (by kernel_rfl) (fun _ _ _ h => h) (Or.inl ⟨by rfl, ?_⟩) ?_
        rotate_left 1
        · (intro w; go_simp; try with_reducible rfl)
        simp only [Act.put, List.getElem_toArray, List.getElem_cons_zero, List.getElem_cons_succ, List.setIfInBounds_toArray, List.set_cons_zero, List.set_cons_succ]
        refine wpAny_done (by kernel_rfl) ?_ _
        go_wp2_with fail
        go_ret
        exact ⟨rfl, (HK6.out.trans' hk68).trans' hK9⟩

end Go.Proofs.Ytfhgbggcpoingaa
