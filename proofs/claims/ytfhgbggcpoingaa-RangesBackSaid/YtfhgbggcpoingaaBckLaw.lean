/-
  RangesBack answers true.
-/
import Derived.Test.YtfhgbggcpoingaaBckG
namespace Go.Proofs.Ytfhgbggcpoingaa
open Go.RowKit Go.Shelf
set_option linter.unusedVariables false

section
attribute [local go_sem] minSem_eq
set_option maxRecDepth 100000 in
set_option maxHeartbeats 8000000 in
theorem back_any (a1 : Option Addr) (cap1 gb1 off1 : Nat) (ls : List Nat) (a2 : Option Addr) (cap2 gb2 off2 : Nat) (ts : List ActD) (w : World) (hR : Row16 w a1 cap1 gb1 off1 ls) (hA : Acts w a2 cap2 gb2 off2 ts) :
    Calls Try.prog 5 #[.slice a1 ls.length cap1, .slice a2 ts.length cap2] w fun e w' => e = .returned (.bool true) ∧ Keep noBlock w w' := by
  have hcap1 := hR.cap
  have hcap2 := hA.cap
  have hlen1 := hR.len
  by_cases hl1 : 200 < ls.length
  · have hI : (200 : Int) < (ls.length : Int) := by omega
    generalize ls.length = n1 at *
    generalize ts.length = n2 at *
    clear hR hA
    go_enter Try.func5, Try.ntmps5
    go_wp2_with (go_at_call 8; refine (wakes_any _).mono ?_; rintro e w7 ⟨rfl, hK7⟩)
    go_ret
    exact ⟨rfl, hK7⟩
  have hI1 : ¬ (200 : Int) < (ls.length : Int) := by omega
  by_cases hl2 : 2000 < ts.length
  · have hI : (2000 : Int) < (ts.length : Int) := by omega
    generalize ls.length = n1 at *
    generalize ts.length = n2 at *
    clear hR hA
    go_enter Try.func5, Try.ntmps5
    go_wp2_with (go_at_call 8; refine (wakes_any _).mono ?_; rintro e w7 ⟨rfl, hK7⟩)
    go_ret
    exact ⟨rfl, hK7⟩
  have hI2 : ¬ (2000 : Int) < (ts.length : Int) := by omega
  have HC := hid (fun (W : World) (hk : Keep noBlock w W) => chances_any a1 cap1 gb1 off1 ls W (hR.keep hk (fun _ h => h)) (by omega))
  have hLlen : (ls ++ [1024]).length = ls.length + 1 := by simp
  have HL := (show Hid ((ls ++ [1024]).length = ls.length + 1 ∧ ls.length ≤ 200) from ⟨hLlen, by omega⟩)
  have HA := (show Hid (Acts w a2 cap2 gb2 off2 ts ∧ ts.length ≤ 2000) from ⟨hA, by omega⟩)
  obtain ⟨L0, hL0⟩ : ∃ L0, L0 = ls ++ [1024] := ⟨_, rfl⟩
  rw [← hL0] at HC HL hLlen
  obtain ⟨m, hm⟩ : ∃ m, m = L0.length := ⟨_, rfl⟩
  rw [← hm] at HC HL hLlen
  have HM := (show Hid (m = L0.length ∧ 0 < m ∧ m ≤ 201) from ⟨hm, by omega, by omega⟩)
  have hmB : (m : Int) ≤ 201 := by omega
  have hmP : (0 : Int) < (m : Int) := by omega
  obtain ⟨n1, hn1⟩ : ∃ n1, n1 = ls.length := ⟨_, rfl⟩
  obtain ⟨n2, hn2⟩ : ∃ n2, n2 = ts.length := ⟨_, rfl⟩
  rw [← hn1] at HC hI1 ⊢
  rw [← hn2] at HA hI2 hcap2 ⊢
  have HN2 := hid hn2
  have hn2B : (n2 : Int) ≤ 2000 := by omega
  clear hR hA hL0 hm hLlen hn1 hn2 hl1 hl2 hcap1 hlen1 HL
  go_enter Try.func5, Try.ntmps5
  go_wp2_with fail
  refine (newE_any w).mono ?_
  rintro e w1 ⟨rfl, hE1, hK1⟩
  have hC := HC.out w1 hK1
  have H1 := (show Hid (IsE w1 w.heap.size newE true (.slice none 0 0) ∧ Keep noBlock w w1) from ⟨hE1, hK1⟩)
  clear hE1 hK1
  go_wp2_with fail
  refine hC.mono ?_
  clear hC
  rintro e w2 ⟨g, c, rfl, hg, hc, hch, hK2⟩
  have HG : EncG w w2 w.heap.size g (newE, L0) (.slice none 0 0) := ⟨H1.out.1.keep hK2 (fun h => h) (fun _ _ h => h), newE_good, hch, Nat.le_refl _, by have := H1.out.2.size; omega, (fun k hk => by cases hk), H1.out.2.trans' hK2⟩
  clear hg hch hK2 H1
  generalize hb : w.heap.size = b at *
  have HB := hid hb
  clear hb
  have hcI : (m : Int) ≤ (c : Int) := by omega
  go_wp2_with fail
  go_loopw [7] (fun i wr => ∃ (k : Nat) (v' : Value), k ≤ n2 ∧ i = .int .i64 k ∧ EncG w wr b g (runE oneF (newE, L0) (ts.take k)) v') (fun i _ => n2 - (intOf i).toNat)
  case atStart => exact ⟨0, _, Nat.zero_le _, rfl, HG⟩
  case round =>
    clear HG
    obtain ⟨k, v1, hk, rfl, hG⟩ := hrel
    by_cases hlt : k < n2
    · have hltI : (k : Int) < (n2 : Int) := by omega
      have hlt' : k < ts.length := by rw [← HN2.out]; exact hlt
      have hstep := runE_take oneF (newE, L0) ts k hlt'
      have hmany := runE_many oneF (ts.take k) (newE, L0)
      rw [show manyE (newE, L0).1 = 1 from rfl] at hmany
      have hlen := runE_len oneF (ts.take k) (newE, L0)
      have htk : (ts.take k).length ≤ 2000 := by rw [List.length_take]; omega
      have hAk := HA.out.1.keep hG.keep
      obtain ⟨x0, x1, x2⟩ := hAk.cells k hlt'
      have hn := hAk.lt k hlt'
      have hat := hAk.at_
      obtain rfl : a2 = some ⟨gb2, off2, none⟩ := by
        rcases hat with q | q
        · exact q
        · rw [q] at hlt'; simp at hlt'
      generalize runE oneF (newE, L0) (ts.take k) = s at *
      generalize ts[k]?.getD actD0 = A at *
      have hsl : s.2.length = m := by rw [hlen]; exact HM.out.1.symm
      have HS := hid hstep
      clear hstep hlen hAk hat
      have hG2 := hG.to ((Keep.refl noBlock wr).alloc (.cells #[.int .i64 A.at_, .int .u32 (A.n : Int), .int .i64 A.many] 36))
      by_cases hmn : 0 < A.many
      · have HD := hid (hG2.direct oneF A hmn hn (by omega))
        clear hG hG2 hmany hsl htk
        obtain ⟨at_, n, many⟩ := A
        dsimp only at *
        have hnI : (n : Int) < 4294967296 := by omega
        go_wp2_with (go_at_call 20; refine HD.out.mono ?_; rintro r w3 ⟨rfl, v3, hG3⟩)
        go_roundw
        case rel => exact ⟨k + 1, v3, by omega, by go_num, by rw [HS.out]; exact hG3⟩
        case measure => simp [intOf]; omega
      · obtain ⟨t, ht1, ht2, ht3, ht4⟩ := oneF_bit A.n hn
        obtain ⟨r, s2, y1, y2, y3, y4, y5, y6, y7⟩ := arnd_parts m A.at_ (by omega) (by omega)
        have HD := hid (fun (W : World) (hk : Keep noBlock _ W) => (hG2.to hk).bit oneF A hmn (by omega) (by omega) (t : Int) ht3 (by omega))
        rw [hsl] at HD
        clear hG hG2 hmany hsl htk
        generalize arndN m A.at_ = kk at *
        obtain ⟨at_, n, many⟩ := A
        dsimp only at *
        have hnI : (n : Int) < 4294967296 := by omega
        have hmnI : ¬ (0 : Int) < many := hmn
        have hkI : (kk : Int) < (m : Int) := by omega
        have htI : (t : Int) < 2 := by omega
        clear ht3 ht4
        go_wp2_with fail
        have hm0 : ¬ m = 0 := by omega
        have hm0' : ¬ (m : Int) = 0 := by omega
        have hw1 : IntKind.i64.wrap r = r := by rw [IntKind.wrap_i64]; omega
        have hw2 : IntKind.i64.wrap (s2 : Int) = (s2 : Int) := by rw [IntKind.wrap_i64]; omega
        have hw3 : IntKind.i64.wrap (kk : Int) = (kk : Int) := by rw [IntKind.wrap_i64]; omega
        have hw4 : (s2 : Int).tmod (m : Int) = (kk : Int) := by rw [Int.tmod_eq_emod_of_nonneg (by omega)]; exact y3
        have hx0 : (wr.alloc (.cells #[.int .i64 at_, .int .u32 (n : Int), .int .i64 many] 36)).cell? ⟨wr.heap.size, 0, none⟩ = some (.int .i64 at_) := cell_of (alloc_new wr _) 0
        have hx1 : (wr.alloc (.cells #[.int .i64 at_, .int .u32 (n : Int), .int .i64 many] 36)).cell? ⟨wr.heap.size, 1, none⟩ = some (.int .u32 (n : Int)) := cell_of (alloc_new wr _) 1
        generalize wr.alloc (.cells #[.int .i64 at_, .int .u32 (n : Int), .int .i64 many] 36) = W at *
        generalize wr.heap.size = xb at *
        have hw5 : IntKind.i64.wrap (t : Int) = (t : Int) := by rw [IntKind.wrap_i64]; omega
        go_region_with ((go_at_call 22; refine (HD.out _ ((Keep.refl _ _).drew)).mono ?_; rintro r w3 ⟨rfl, v3, hG3⟩))
        all_goals
          go_wp2_with fail
          go_roundw
          case rel => exact ⟨k + 1, v3, by omega, by go_num, by rw [HS.out]; exact hG3⟩
          case measure => simp [intOf]; omega
    · have hkn : k = n2 := by omega
      rw [hkn, HN2.out, List.take_length] at hG
      have hSg := hG.good
      have hmany := runE_many oneF ts (newE, L0)
      rw [show manyE (newE, L0).1 = 1 from rfl] at hmany
      have hts := HA.out.2
      have hts2 := HN2.out
      have hC := close_any b _ v1 wr hG.enc (by omega)
      obtain ⟨f1, f2⟩ := closeE_first hSg
      have hol := (closeE_val hSg).2
      have hbb := (closeE_sh hSg.ok).out
      have hnb := hG.chs.ne hG.enc.obj (by decide)
      have HX := hid hG
      have HFB := (show Hid (5 ≤ (closeE (runE oneF (newE, L0) ts).1).out.length ∧ (closeE (runE oneF (newE, L0) ts).1).out[0]?.getD 0 = 0 ∧ (closeE (runE oneF (newE, L0) ts).1).out.length ≤ 100000 ∧ (∀ j : Nat, (closeE (runE oneF (newE, L0) ts).1).out[j]?.getD 0 < 256) ∧ g ≠ b) from ⟨f1, f2, by omega, hbb, hnb⟩)
      clear hG hSg hmany hts hts2 f1 f2 hol hbb hnb hkn
      go_wp2_with fail
      refine hC.mono ?_
      clear hC
      rintro e w3 ⟨u, v3, rfl, hown, hE3, hN3, hK3⟩
      have hK3w := keep_new HX.out.keep HX.out.hb HX.out.hv hK3
      have hch3 := HX.out.chs.keep hK3 (fun q => by
        rcases q with q | q
        · exact HFB.out.2.2.2.2 q
        · exact HX.out.gv q)
      obtain ⟨B5, B0, B1, Bb, -⟩ := HFB.out
      obtain ⟨a3, cap3, g3, rfl, hB3, -⟩ := owns_bytes (owns_base hown) Bb (by omega)
      have hND := newD_good a3 cap3 g3 0 _ w3 hB3 B5 (by omega) B0
      have hc0 := hB3.cells 0 (by omega)
      rw [Nat.zero_add, B0] at hc0
      rw [show (((0 : Nat) : Int)) = (0 : Int) from rfl] at hc0
      obtain rfl : a3 = some ⟨g3, 0, none⟩ := by
        rcases hB3.at_ with q | q
        · exact q
        · rw [q] at B5; simp at B5
      have HY := (show Hid (Keep noBlock w w3 ∧ Chs w3 g (runE oneF (newE, L0) ts).2) from ⟨hK3w, hch3⟩)
      clear hown hE3 hN3 hK3 hK3w hch3 hB3 Bb B0 HX HFB
      generalize hBs : (closeE (runE oneF (newE, L0) ts).1).out = Bs at *
      have HBs := hid hBs
      clear hBs
      generalize Bs.length = bn at *
      have hbn1 : ¬ (bn : Int) < 5 := by omega
      have hbn2 : (0 : Int) < (bn : Int) := by omega
      go_wp2_with fail
      refine hND.mono ?_
      clear hND
      rintro e w4 ⟨db, rb, rfl, hdb, hrb, hrd, hD4, hK4⟩
      have hk4 := HY.out.1.trans' hK4
      have hC2 := HC.out w4 hk4
      have HZ := (show Hid (IsD w4 db rb (newD Bs) ∧ Keep noBlock w w4 ∧ Chs w4 g (runE oneF (newE, L0) ts).2 ∧ w.heap.size ≤ db ∧ rb < db) from ⟨hD4, hk4, HY.out.2.keep hK4 (fun h => h), by have := HY.out.1.size; omega, hrd⟩)
      clear hdb hrb hrd hD4 hK4 hk4 HY hc0
      go_wp2_with fail
      refine hC2.mono ?_
      clear hC2
      rintro e w5 ⟨g2, c2, rfl, hg2, hc2, hch2, hK5⟩
      have HG2 : BackG w w5 db rb g2 g L0 ts 0 := by
        obtain ⟨z1, z2, z3, z4, z5⟩ := HZ.out
        rw [← HBs.out] at z1
        obtain ⟨_, _, _, ho, _⟩ := z1.obj
        obtain ⟨_, ho2, _⟩ := z3.obj
        have q1 := obj_lt ho
        have q2 := obj_lt ho2
        have q3 := z2.size
        exact back_new (z1.keep hK5 (fun h => h) (fun h => h)) hch2 (z3.keep hK5 (fun h => h)) z4 (by omega) (by omega) (by omega) (z2.trans' hK5)
      clear hg2 hch2 hK5 HZ HBs
      have hc2I : (m : Int) ≤ (c2 : Int) := by omega
      go_wp2_with fail
      go_loopw [13] (fun i wr => ∃ (k : Nat), k ≤ n2 ∧ i = .int .i64 k ∧ BackG w wr db rb g2 g L0 ts k) (fun i _ => n2 - (intOf i).toNat)
      case atStart => exact ⟨0, Nat.zero_le _, rfl, HG2⟩
      case round =>
        clear HG2
        obtain ⟨k, hk, rfl, hG⟩ := hrel
        by_cases hlt : k < n2
        · have hltI : (k : Int) < (n2 : Int) := by omega
          have hlt' : k < ts.length := by rw [← HN2.out]; exact hlt
          have hAk := HA.out.1.keep hG.keep
          obtain ⟨x0, x1, x2⟩ := hAk.cells k hlt'
          have hn := hAk.lt k hlt'
          obtain rfl : a2 = some ⟨gb2, off2, none⟩ := by
            rcases hAk.at_ with q | q
            · exact q
            · rw [q] at hlt'; simp at hlt'
          have hG2 := hG.to ((Keep.refl noBlock wr).alloc (.cells #[.int .i64 (ts[k]?.getD actD0).at_, .int .u32 ((ts[k]?.getD actD0).n : Int), .int .i64 (ts[k]?.getD actD0).many] 36))
          have hlt2 := hG.lt
          clear hAk hG
          by_cases hmn : 0 < (ts[k]?.getD actD0).many
          · have HD := hid (fun (W : World) (hk : Keep noBlock _ W) => (hG2.to hk).direct hlt' hmn)
            clear hG2
            generalize ts[k]?.getD actD0 = A at *
            obtain ⟨at_, n, many⟩ := A
            dsimp only at *
            have hnI : (n : Int) < 4294967296 := by omega
            have hmin := minSem_run .i64 #[3, 3] 3 many 32 ((bitsN many : Nat) : Int) (by rw [bitsN_int]; omega)
            have hbl := bitsN_le many
            generalize bitsN many = q at *
            have hqI : (q : Int) ≤ 32 := by omega
            have hwant := want_eq n q hn hbl
            generalize n % 2 ^ q = T at *
            clear hlt' hbl
            go_wp2_with fail
            go_quiet (fail)
            go_wp2_with (go_at_call 12; refine (HD.out _ (keep_drewN _ _)).mono ?_; rintro e w6 ⟨rfl, hG6, hK6⟩)
            go_roundw
            case rel => exact ⟨k + 1, by omega, by go_num, hG6⟩
            case measure => simp [intOf]; omega
          · have HD := hid (fun (W : World) (hk : Keep noBlock _ W) => (hG2.to hk).bit hlt' hmn HM.out.1 HM.out.2.1 (by have := HM.out.2.2; omega))
            clear hG2
            generalize ts[k]?.getD actD0 = A at *
            obtain ⟨t, ht1, ht2, ht3, ht4⟩ := oneF_bit A.n hn
            rw [← ht4] at HD
            obtain ⟨r, s2, y1, y2, y3, y4, y5, y6, y7⟩ := arnd_parts m A.at_ (by omega) (by omega)
            generalize arndN m A.at_ = kk at *
            obtain ⟨at_, n, many⟩ := A
            dsimp only at *
            have hnI : (n : Int) < 4294967296 := by omega
            have hmnI : ¬ (0 : Int) < many := hmn
            have hkI : (kk : Int) < (m : Int) := by omega
            have htI : (t : Int) < 2 := by omega
            have HLT := hid hlt2
            clear ht3 ht4 hlt' hlt2
            go_wp2_with fail
            have hm0 : ¬ m = 0 := by omega
            have hm0' : ¬ (m : Int) = 0 := by omega
            have hw1 : IntKind.i64.wrap r = r := by rw [IntKind.wrap_i64]; omega
            have hw2 : IntKind.i64.wrap (s2 : Int) = (s2 : Int) := by rw [IntKind.wrap_i64]; omega
            have hw3 : IntKind.i64.wrap (kk : Int) = (kk : Int) := by rw [IntKind.wrap_i64]; omega
            have hw4 : (s2 : Int).tmod (m : Int) = (kk : Int) := by rw [Int.tmod_eq_emod_of_nonneg (by omega)]; exact y3
            have hw5 : IntKind.i64.wrap (t : Int) = (t : Int) := by rw [IntKind.wrap_i64]; omega
            have hx0 : (wr.alloc (.cells #[.int .i64 at_, .int .u32 (n : Int), .int .i64 many] 36)).cell? ⟨wr.heap.size, 0, none⟩ = some (.int .i64 at_) := cell_of (alloc_new wr _) 0
            have hx1 : (wr.alloc (.cells #[.int .i64 at_, .int .u32 (n : Int), .int .i64 many] 36)).cell? ⟨wr.heap.size, 1, none⟩ = some (.int .u32 (n : Int)) := cell_of (alloc_new wr _) 1
            generalize wr.alloc (.cells #[.int .i64 at_, .int .u32 (n : Int), .int .i64 many] 36) = W at *
            generalize wr.heap.size = xb at *
            go_region_held3 (fun w' => w'.cell? ⟨xb, 0, none⟩ = some (.int .i64 at_) ∧ w'.cell? ⟨xb, 1, none⟩ = some (.int .u32 (n : Int))) (go_keep) ((first | (go_at_call 14; refine (HD.out _ ((Keep.refl _ _).drew)).mono ?_; rintro e w6 ⟨rfl, hG6, hK6⟩; have hz0 := keep_cell hK6 (i := 0) (b := xb) (u := .int .i64 at_) hx0 (fun q => by have h1 := HLT.out; rcases q with q | q <;> omega); have hz1 := keep_cell hK6 (i := 1) (b := xb) (u := .int .u32 (n : Int)) hx1 (fun q => by have h1 := HLT.out; rcases q with q | q <;> omega); clear hK6)))
            go_wp2_with fail
            go_roundw
            case rel => exact ⟨k + 1, by omega, by go_num, hG6⟩
            case measure => simp [intOf]; omega
        · have hkn : k = n2 := by omega
          rw [hkn, HN2.out] at hG
          have HD := hid hG.done
          have hlf := runE_len oneF ts (newE, L0)
          have HLF := (show Hid ((runE oneF (newE, L0) ts).2.length = m) from by rw [hlf]; exact HM.out.1.symm)
          clear hG hkn hlf
          generalize (runE oneF (newE, L0) ts).2 = Lf at *
          go_wp2_with (go_at_call 16; refine HD.out.mono ?_; rintro e w6 ⟨rfl, hc6, hd6, hK6⟩)
          have HE := (show Hid (Chs w6 g Lf ∧ Chs w6 g2 Lf ∧ Keep noBlock w w6) from ⟨hc6, hd6, hK6⟩)
          clear hc6 hd6 hK6
          go_loopw [18] (fun i wr => ∃ (j : Nat), j ≤ m ∧ i = .int .i64 j ∧ Hid (Chs wr g Lf ∧ Chs wr g2 Lf ∧ Keep noBlock w wr)) (fun i _ => m - (intOf i).toNat)
          case atStart => exact ⟨0, Nat.zero_le _, rfl, HE⟩
          case round =>
            clear HE
            obtain ⟨j, hj, rfl, HR⟩ := hrel
            by_cases hjm : j < m
            · have hjI : (j : Int) < (m : Int) := by omega
              have cp := HR.out.1.cell j (by rw [HLF.out]; exact hjm)
              have cq := HR.out.2.1.cell j (by rw [HLF.out]; exact hjm)
              generalize Lf[j]?.getD 0 = y at *
              go_wp2_with fail
              go_quiet (fail)
              go_wp2_with fail
              go_roundw
              case rel => exact ⟨j + 1, by omega, by go_num, (show _ ∧ _ from ⟨HR.out.1.keep (keep_drewN _ _) (fun h => h), HR.out.2.1.keep (keep_drewN _ _) (fun h => h), HR.out.2.2.trans' (keep_drewN _ _)⟩)⟩
              case measure => simp [intOf]; omega
            · have HK := hid HR.out.2.2
              go_wp2_with (go_at_call 8; refine (wakes_any _).mono ?_; rintro e w7 ⟨rfl, hK7⟩)
              go_ret
              exact ⟨rfl, HK.out.trans' hK7⟩
end

end Go.Proofs.Ytfhgbggcpoingaa
