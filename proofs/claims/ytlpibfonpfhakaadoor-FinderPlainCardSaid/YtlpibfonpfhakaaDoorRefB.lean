/-
  The document's Back.
-/
import Derived.Test.YtlpibfonpfhakaaDoorStr
namespace Go.Proofs.YtlpibfonpfhakaaDoor
open Go.RowKit Go.Shelf
set_option linter.unusedVariables false

theorem okB_big {rest whole : Int} {ts : List Tri} (h : 16777216 < whole) : okB rest whole ts = false := by
  cases ts with
  | nil => exact decide_eq_false (by omega)
  | cons t r =>
    refine okB_no fun e => ?_
    obtain ⟨q1, q2, q3, q4, q5, q6⟩ := e
    omega
theorem okB_plain {rest whole l b : Int} {r : List Tri} (h1 : 0 ≤ l) (h2 : 0 ≤ b) (h3 : l ≤ rest) : okB rest whole ((l, 0, b) :: r) = okB (rest - l) (whole + l + 0) r := by
  by_cases e : 16777216 < whole + l
  · rw [okB_big (show 16777216 < whole + l + 0 by omega)]
    refine okB_no fun e => ?_
    obtain ⟨q1, q2, q3, q4, q5, q6⟩ := e
    have q5 : (0 : Int) ≤ 16777216 - (whole + l) := q5
    omega
  · exact okB_go ⟨h1, Int.le_refl _, h2, h3, by show (0 : Int) ≤ 16777216 - (whole + l); omega, fun h => absurd h (by show ¬ (0 : Int) < 0; decide)⟩
set_option maxRecDepth 100000 in
set_option maxHeartbeats 1000000 in
theorem ref_arg (a : Option Addr) (n cap : Nat) (from_ : Int) (l : Value) (la : Option Addr) (ln lc : Nat) (hl : l = .slice la ln lc) (w : World) (h : from_ < 0 ∨ (n : Int) < from_) :
    Calls Tryd.prog 10 #[.slice a n cap, .int .i64 from_, l] w fun e w' => e = .returned (.tuple #[.slice none 0 0, .int .i64 2]) ∧ w' = w := by
  subst hl
  by_cases h0 : from_ < 0
  · have h0' : decide (from_ < 0) = true := decide_eq_true h0
    go_enter Tryd.func10, Tryd.ntmps10
    go_wp2_with fail
    go_ret2
    exact ⟨rfl, rfl⟩
  · have h0' : decide (from_ < 0) = false := decide_eq_false h0
    have h1 : (n : Int) < from_ := by omega
    have h1' : decide ((n : Int) < from_) = true := decide_eq_true h1
    go_enter Tryd.func10, Tryd.ntmps10
    go_wp2_with fail
    go_ret2
    exact ⟨rfl, rfl⟩
/-- What the document's Back has come to. -/
structure RefS (w W : World) (bs : List Nat) (ts : List Tri) (F i p : Nat) (v : Value) (out : List Nat) : Prop where
  own : ownsU W v out
  new : ∀ g, v.ownBlock = some g → w.heap.size ≤ g
  lt : ∀ j : Nat, out[j]?.getD 0 < 256
  pn : p ≤ bs.length
  ub : out.length ≤ 16777216 + p
  ok : okB ((bs.length - p : Nat) : Int) (out.length : Int) (ts.drop i) = okB ((bs.length - F : Nat) : Int) F ts
  same : outB out (bs.drop p) (ts.drop i) = outB (bs.take F) (bs.drop F) ts
  keep : Keep noBlock w W
/-- What a match has come to. -/
structure RefM (w W0 W : World) (M : List Nat) (bn k gs : Nat) (v : Value) (l m b : Int) : Prop where
  own : ownsU W v (M ++ outL M bn k)
  new : ∀ g, v.ownBlock = some g → w.heap.size ≤ g
  obj : W.heap[gs]? = some (.cells #[.int .i64 l, .int .i64 m, .int .i64 b] 25 (0, 0))
  keep : Keep noBlock w W
section
attribute [local go_sem] sliceSem_eq
set_option maxRecDepth 100000 in
set_option maxHeartbeats 4000000 in
theorem ref_back (a : Option Addr) (cap gb off F : Nat) (bs : List Nat) (la : Option Addr) (lcap lg loff : Nat) (ts : List Tri) (w : World) (hF : F ≤ bs.length) (hB : Bytes w a cap gb off bs) (hQ : RowQ w la lcap lg loff ts) (hn : bs.length < 65537) (hT : ts.length < 140737488355328) :
    Calls Tryd.prog 10 #[.slice a bs.length cap, .int .i64 (F : Int), .slice la ts.length lcap] w fun e w' => ((∃ v : Value, okB ((bs.length - F : Nat) : Int) F ts = true ∧ e = .returned (.tuple #[v, .int .i64 0]) ∧ ownsU w' v (outB (bs.take F) (bs.drop F) ts)) ∨ (okB ((bs.length - F : Nat) : Int) F ts = false ∧ e = .returned (.tuple #[.slice none 0 0, .int .i64 11]))) ∧ Keep noBlock w w' := by
  have h0 : ¬ (F : Int) < 0 := by omega
  have h0' : decide ((F : Int) < 0) = false := decide_eq_false h0
  have h1 : ¬ (bs.length : Int) < (F : Int) := by omega
  have h1' : decide (bs.length < F) = false := decide_eq_false (by omega)
  have HB := (show Hid (Bytes w a cap gb off bs ∧ RowQ w la lcap lg loff ts) from ⟨hB, hQ⟩)
  obtain ⟨htk, hBt⟩ := hB.take F hF
  have hlt : (bs.take F).length = F := by rw [List.length_take]; omega
  rw [hlt] at htk
  have hsrc := hBt.src
  rw [hlt] at hsrc
  have o0 : ownsU w (.slice none 0 0) [] := ⟨rfl, .inl ⟨rfl, rfl⟩⟩
  obtain ⟨v3, W3, hr3, own3, k3, n3⟩ := run_append_all w 22 _ [] (bs.take F) o0 (by rw [hlt]; simp; omega) _ hsrc
  have hnew : ∀ g, (Value.slice none 0 0).ownBlock = some g → w.heap.size ≤ g := fun g hg => by cases hg
  rw [List.nil_append] at own3
  obtain ⟨sa, sc, sg, hv3, hBs⟩ := owns_bytes own3 (lt_take hB.lt F) (by rw [hlt]; omega)
  rw [hlt] at hv3
  have HI0 := (show Hid (RefS w W3 bs ts F 0 F (.slice sa F sc) (bs.take F)) from
    ⟨by rw [← hv3]; exact own3, by rw [← hv3]; exact new_near (Nat.le_refl _) hnew n3, lt_take hB.lt F, hF, by rw [hlt]; omega, by rw [hlt]; rfl, rfl, keep_new (Keep.refl _ w) hnew k3⟩)
  obtain ⟨ll, hll⟩ : ∃ ll, ll = ts.length := ⟨_, rfl⟩
  obtain ⟨n, hne⟩ : ∃ n, n = bs.length := ⟨_, rfl⟩
  have HN := (show Hid (ll = ts.length ∧ n = bs.length ∧ (bs.take F).length = F) from ⟨hll, hne, hlt⟩)
  rw [← hll] at hT ⊢
  rw [← hne] at hn hF htk h1 h1' ⊢
  obtain ⟨O, hO⟩ : ∃ O, O = okB ((n - F : Nat) : Int) F ts := ⟨_, rfl⟩
  have HO := (show Hid (O = okB ((n - F : Nat) : Int) F ts) from hO)
  rw [← hO]
  clear hB hQ hll hne hBt hlt hsrc o0 own3 k3 n3 hnew hBs hO
  subst hv3
  go_enter Tryd.func10, Tryd.ntmps10
  go_wp2_with (at_builtin; refine wpList_append_run _ rfl _ _ 22 rfl (.slice none 0 0) (.slice a F cap) (.slice sa F sc) W3 rfl rfl hr3 ?_)
  clear hr3
  go_loopw [8, 9, 10] (fun v8 v9 v10 wr => ∃ (p i sl sc : Nat) (sa : Option Addr) (out : List Nat), v8 = .slice sa sl sc ∧ v9 = .int .i64 (p : Int) ∧ v10 = .int .i64 (i : Int) ∧ i ≤ ll ∧ sl = out.length ∧ Hid (RefS w wr bs ts F i p (.slice sa sl sc) out)) (fun _ _ v10 _ => ll - (intOf v10).toNat)
  case atStart => exact ⟨F, 0, F, sc, sa, bs.take F, rfl, rfl, rfl, Nat.zero_le _, HN.out.2.2.symm, HI0.out⟩
  case round =>
    clear HI0
    obtain ⟨p, i, sl, sc, sa, out, rfl, rfl, rfl, hi1, hsl, HI⟩ := hrel
    have hnn := HN.out
    by_cases hlt : i < ll
    · have hltI : (i : Int) < (ll : Int) := by omega
      have hlt2 : i < ts.length := by omega
      have hdr := drop_cons hlt2
      have hQw := HB.out.2.keep HI.out.keep (fun _ h => h)
      obtain ⟨e1, e2, e3⟩ := hQw.cells i hlt2
      obtain rfl := HB.out.2.here hlt2
      obtain ⟨⟨l, m, b⟩, ht⟩ : ∃ t : Tri, ts[i]?.getD (0, 0, 0) = t := ⟨_, rfl⟩
      have hb63 : b < 9223372036854775808 := by have := HB.out.2.b63 i; rw [ht] at this; exact this
      rw [ht] at e1 e2 e3 hdr
      simp only at e1 e2 e3
      have hok := HI.out.ok
      rw [hdr] at hok
      have hsm := HI.out.same
      rw [hdr] at hsm
      have hpn := HI.out.pn
      have hub := HI.out.ub
      obtain ⟨i1, hi1e⟩ : ∃ i1, i1 = i + 1 := ⟨_, rfl⟩
      have hadd : (i : Int) + 1 = (i1 : Int) := by omega
      obtain ⟨d, hd⟩ : ∃ d, d = n - p := ⟨_, rfl⟩
      have hsub : (n : Int) - (p : Int) = (d : Int) := by omega
      rw [← hnn.2.1] at hok
      rw [← hd, ← HO.out] at hok
      have HI1 := (show Hid (i1 = i + 1) from hi1e)
      have HK := (show Hid (Keep noBlock w wr) from HI.out.keep)
      by_cases hbad : l < 0 ∨ m < 0 ∨ b < 0 ∨ (d : Int) < l
      · have HF := (show Hid (O = false) from by
          rw [← hok]
          refine okB_no fun e => ?_
          obtain ⟨q1, q2, q3, q4, q5, q6⟩ := e
          have q1 : 0 ≤ l := q1
          have q2 : 0 ≤ m := q2
          have q3 : 0 ≤ b := q3
          have q4 : l ≤ (d : Int) := q4
          omega)
        have hc : decide (l < 0) = true ∨ (decide (l < 0) = false ∧ decide (m < 0) = true) ∨ (decide (l < 0) = false ∧ decide (m < 0) = false ∧ decide (b < 0) = true) ∨ (decide (l < 0) = false ∧ decide (m < 0) = false ∧ decide (b < 0) = false ∧ decide ((d : Int) < l) = true ∧ (d : Int) < l) := by
          by_cases x1 : l < 0
          · exact .inl (decide_eq_true x1)
          · by_cases x2 : m < 0
            · exact .inr (.inl ⟨decide_eq_false x1, decide_eq_true x2⟩)
            · by_cases x3 : b < 0
              · exact .inr (.inr (.inl ⟨decide_eq_false x1, decide_eq_false x2, decide_eq_true x3⟩))
              · exact .inr (.inr (.inr ⟨decide_eq_false x1, decide_eq_false x2, decide_eq_false x3, decide_eq_true (by omega), by omega⟩))
        clear hbad hok hsm hdr ht hQw hpn hub hd hi1e hnn HI hsl
        rcases hc with c1 | ⟨c1, c2⟩ | ⟨c1, c2, c3⟩ | ⟨c1, c2, c3, c4, c5⟩
        all_goals (
          go_wp2_with fail
          go_ret2
          exact ⟨.inr ⟨HF.out, rfl⟩, HK.out.alloc _⟩)
      · obtain ⟨ln, rfl⟩ := Int.eq_ofNat_of_zero_le (show 0 ≤ l by omega)
        obtain ⟨mn, rfl⟩ := Int.eq_ofNat_of_zero_le (show 0 ≤ m by omega)
        obtain ⟨bn, rfl⟩ := Int.eq_ofNat_of_zero_le (show 0 ≤ b by omega)
        have c1 : decide ((ln : Int) < 0) = false := decide_eq_false (by omega)
        have c2 : decide ((mn : Int) < 0) = false := decide_eq_false (by omega)
        have c3 : decide ((bn : Int) < 0) = false := decide_eq_false (by omega)
        have c4 : decide (d < ln) = false := decide_eq_false (by omega)
        have c4' : ¬ (d : Int) < (ln : Int) := by omega
        obtain ⟨q, hq⟩ : ∃ q, q = p + ln := ⟨_, rfl⟩
        have hadd1 : (p : Int) + (ln : Int) = (q : Int) := by omega
        obtain ⟨a4, off4, hmid, hB4⟩ := HB.out.1.mid p q (by omega) (by omega)
        have hl4 : ((bs.drop p).take (q - p)).length = ln := by rw [List.length_take, List.length_drop]; omega
        rw [show q - p = ln from by omega] at hmid hB4 hl4
        rw [← hnn.2.1] at hmid
        have kA : Keep noBlock wr (wr.alloc (.cells #[.int .i64 (ln : Int), .int .i64 (mn : Int), .int .i64 (bn : Int)] 25)) := (Keep.refl noBlock wr).alloc _
        have hsrc := (hB4.keep (HI.out.keep.trans' kA) (fun _ h => h)).src
        rw [hl4] at hsrc
        have oA : ownsU (wr.alloc (.cells #[.int .i64 (ln : Int), .int .i64 (mn : Int), .int .i64 (bn : Int)] 25)) (.slice sa sl sc) out := owns_kept HI.out.own kA (fun _ _ h => h)
        obtain ⟨v4, W4, hr4, own4, k4, n4⟩ := run_append_all _ 22 (.slice sa sl sc) out _ oA (by rw [hl4]; omega) _ hsrc
        have x4 := k4.obj (alloc_new wr (.cells #[.int .i64 (ln : Int), .int .i64 (mn : Int), .int .i64 (bn : Int)] 25)) (owns_ne oA (alloc_new wr (.cells #[.int .i64 (ln : Int), .int .i64 (mn : Int), .int .i64 (bn : Int)] 25)) (by decide))
        have y0 : W4.cell? ⟨wr.heap.size, 0, none⟩ = some (.int .i64 (ln : Int)) := cell_of x4 0
        have y1 : W4.cell? ⟨wr.heap.size, 1, none⟩ = some (.int .i64 (mn : Int)) := cell_of x4 1
        have y2 : W4.cell? ⟨wr.heap.size, 2, none⟩ = some (.int .i64 (bn : Int)) := cell_of x4 2
        have kA4 : Keep noBlock w W4 := keep_new (HI.out.keep.trans' kA) HI.out.new k4
        have new4 : ∀ g, v4.ownBlock = some g → w.heap.size ≤ g := new_near (HI.out.keep.trans' kA).size HI.out.new n4
        have lt4 : ∀ j : Nat, (out ++ (bs.drop p).take ln)[j]?.getD 0 < 256 := lt_app HI.out.lt (lt_take (lt_drop HB.out.1.lt p) ln)
        obtain ⟨sl4, hsl4⟩ : ∃ sl4, sl4 = out.length + ln := ⟨_, rfl⟩
        have hlm : (out ++ (bs.drop p).take ln).length = sl4 := by rw [List.length_append, hl4, hsl4]
        obtain ⟨va, vc, vg, hv4, -⟩ := owns_bytes own4 lt4 (by rw [hlm]; omega)
        rw [hlm] at hv4
        subst hv4
        have htk2 : (bs.drop p).take ((ln : Nat) : Int).toNat = (bs.drop p).take ln := by rw [Int.toNat_natCast]
        have hdd : (bs.drop p).drop ((ln : Nat) : Int).toNat = bs.drop q := by rw [Int.toNat_natCast, List.drop_drop, hq]
        have hsm2 : outB ((out ++ (bs.drop p).take ln) ++ outL (out ++ (bs.drop p).take ln) bn mn) (bs.drop q) (ts.drop (i + 1)) = outB (bs.take F) (bs.drop F) ts := by
          rw [← hsm]
          show _ = outB ((out ++ (bs.drop p).take ((ln : Nat) : Int).toNat) ++ outL (out ++ (bs.drop p).take ((ln : Nat) : Int).toNat) ((bn : Nat) : Int).toNat ((mn : Nat) : Int).toNat) ((bs.drop p).drop ((ln : Nat) : Int).toNat) (ts.drop (i + 1))
          rw [htk2, hdd, Int.toNat_natCast, Int.toNat_natCast]
        have hqn : q ≤ n := by omega
        have hdq : (d : Int) - (ln : Int) = ((n - q : Nat) : Int) := by omega
        have hb1 : q < 65537 := by omega
        have hslb : sl4 ≤ 16777216 + q := by omega
        obtain ⟨M, hM⟩ : ∃ M, M = out ++ (bs.drop p).take ln := ⟨_, rfl⟩
        rw [← hM] at own4 lt4 hlm hsm2
        have HM := (show Hid (ownsU W4 (.slice va sl4 vc) M ∧ (∀ g, (Value.slice va sl4 vc).ownBlock = some g → w.heap.size ≤ g) ∧ (∀ j : Nat, M[j]?.getD 0 < 256) ∧ M.length = sl4 ∧ Keep noBlock w W4 ∧ W4.heap[wr.heap.size]? = some (.cells #[.int .i64 (ln : Int), .int .i64 (mn : Int), .int .i64 (bn : Int)] 25 (0, 0)) ∧ outB (M ++ outL M bn mn) (bs.drop q) (ts.drop (i + 1)) = outB (bs.take F) (bs.drop F) ts) from ⟨own4, new4, lt4, hlm, kA4, x4, hsm2⟩)
        obtain ⟨c4x, hc4x⟩ : ∃ c4x, c4x = cap - p := ⟨_, rfl⟩
        rw [← hc4x] at hmid hr4
        have HQ := (show Hid (q ≤ n ∧ sl4 ≤ 16777216 + q ∧ (out.length : Int) + (ln : Int) = (sl4 : Int) ∧ (d : Int) - (ln : Int) = ((n - q : Nat) : Int)) from ⟨hqn, hslb, by omega, hdq⟩)
        have HOK := (show Hid (okB (d : Int) (out.length : Int) (((ln : Int), (mn : Int), (bn : Int)) :: ts.drop (i + 1)) = O) from hok)
        have hld : (ln : Int) ≤ (d : Int) := by omega
        clear hok hsm hdr ht hQw hpn hub hd hi1e hnn HI hsl hq hB4 hl4 kA hsrc oA own4 k4 n4 x4 kA4 new4 lt4 hlm htk2 hdd hsm2 hqn hdq hM hsl4 hc4x hbad
        by_cases hm0 : mn = 0
        · have hmb : ((mn : Int) == 0) = true := by simp [hm0]
          have HNX := (show Hid (RefS w W4 bs ts F i1 q (.slice va sl4 vc) M) from by
            have h := HM.out
            have hk := HOK.out
            have hh := h.2.2.2.2.2.2
            rw [hm0, outL_zero, List.append_nil] at hh
            rw [hm0] at hk
            refine ⟨h.1, h.2.1, h.2.2.1, by have := HQ.out.1; have := HN.out.2.1; omega, by rw [h.2.2.2.1]; exact HQ.out.2.1, ?_, by rw [HI1.out]; exact hh, h.2.2.2.2.1⟩
            rw [HI1.out, ← HN.out.2.1, ← HO.out, ← hk, h.2.2.2.1]
            have e := okB_plain (rest := (d : Int)) (whole := (out.length : Int)) (r := ts.drop (i + 1)) (show 0 ≤ (ln : Int) by omega) (show 0 ≤ (bn : Int) by omega) hld
            refine Eq.trans ?_ e.symm
            rw [HQ.out.2.2.2, HQ.out.2.2.1, Int.add_zero])
          have HML := (show Hid (M.length = sl4) from HM.out.2.2.2.1)
          clear HM HOK HQ hm0
          go_wp2_with (at_builtin; refine wpList_append_run _ rfl _ _ 22 rfl (.slice sa sl sc) (.slice a4 ln c4x) (.slice va sl4 vc) W4 rfl rfl hr4 ?_)
          go_roundw
          case rel => exact ⟨q, i1, sl4, vc, va, M, rfl, rfl, rfl, by have := HI1.out; omega, HML.out.symm, HNX.out⟩
          case measure => have := HI1.out; simp [intOf]; omega
        · have hmb : ((mn : Int) == 0) = false := by rw [beq_eq_false_iff_ne]; omega
          obtain ⟨z, hz⟩ : ∃ z : Int, z = 16777216 - (sl4 : Int) := ⟨_, rfl⟩
          have hzz : (16777216 : Int) - (sl4 : Int) = z := hz.symm
          by_cases hbad : bn = 0 ∨ sl4 < bn ∨ z < (mn : Int)
          · have HF := (show Hid (O = false) from by
              rw [← HOK.out]
              refine okB_no fun e => ?_
              obtain ⟨q1, q2, q3, q4, q5, q6⟩ := e
              have q5 : (mn : Int) ≤ 16777216 - ((out.length : Int) + (ln : Int)) := q5
              have q6 : 0 < (mn : Int) → (bn : Int) ≠ 0 ∧ (bn : Int) ≤ (out.length : Int) + (ln : Int) := q6
              have := HQ.out.2.2.1
              omega)
            have HK4 := (show Hid (Keep noBlock w W4) from HM.out.2.2.2.2.1)
            have hc : ((bn : Int) == 0) = true ∨ (((bn : Int) == 0) = false ∧ decide (sl4 < bn) = true ∧ (sl4 : Int) < (bn : Int)) ∨ (((bn : Int) == 0) = false ∧ decide (sl4 < bn) = false ∧ ¬ (sl4 : Int) < (bn : Int) ∧ decide (z < (mn : Int)) = true) := by
              by_cases x1 : bn = 0
              · exact .inl (by simp [x1])
              · by_cases x2 : sl4 < bn
                · exact .inr (.inl ⟨by rw [beq_eq_false_iff_ne]; omega, decide_eq_true x2, by omega⟩)
                · exact .inr (.inr ⟨by rw [beq_eq_false_iff_ne]; omega, decide_eq_false x2, by omega, decide_eq_true (by omega)⟩)
            have hzb : -9223372036854775808 ≤ z ∧ z < 9223372036854775808 := by have := HQ.out.2.1; omega
            obtain ⟨hzb1, hzb2⟩ := hzb
            clear hbad HM HOK HQ hz hm0
            rcases hc with c5 | ⟨c5, c6, c7⟩ | ⟨c5, c6, c7, c8⟩
            all_goals (
              go_wp2_with (at_builtin; refine wpList_append_run _ rfl _ _ 22 rfl (.slice sa sl sc) (.slice a4 ln c4x) (.slice va sl4 vc) W4 rfl rfl hr4 ?_)
              go_ret2
              exact ⟨.inr ⟨HF.out, rfl⟩, HK4.out⟩)
          · have c5 : ((bn : Int) == 0) = false := by rw [beq_eq_false_iff_ne]; omega
            have c6 : decide (sl4 < bn) = false := decide_eq_false (by omega)
            have c7 : ¬ (sl4 : Int) < (bn : Int) := by omega
            have c8 : decide (z < (mn : Int)) = false := decide_eq_false (by omega)
            have hzb1 : -9223372036854775808 ≤ z := by have := HQ.out.2.1; omega
            have hzb2 : z < 9223372036854775808 := by omega
            have HZ := (show Hid (1 ≤ bn ∧ bn ≤ sl4 ∧ sl4 + mn ≤ 16777216) from ⟨by omega, by omega, by omega⟩)
            clear hbad hz hm0
            obtain ⟨gs, hgs⟩ : ∃ gs, gs = wr.heap.size := ⟨_, rfl⟩
            have HM0 := (show Hid (RefM w W4 W4 M bn 0 gs (.slice va sl4 vc) ln mn bn) from by
              have h := HM.out
              exact ⟨by rw [outL_zero, List.append_nil]; exact h.1, h.2.1, by rw [hgs]; exact h.2.2.2.2.2.1, h.2.2.2.2.1⟩)
            go_wp2_with (at_builtin; refine wpList_append_run _ rfl _ _ 22 rfl (.slice sa sl sc) (.slice a4 ln c4x) (.slice va sl4 vc) W4 rfl rfl hr4 ?_)
            rw [← hgs]
            clear hgs hr4
            go_loopw [8, 12] (fun v8 v12 wx => ∃ (k sl sc : Nat) (sa : Option Addr), v8 = .slice sa sl sc ∧ v12 = .int .i64 (k : Int) ∧ k ≤ mn ∧ sl = sl4 + k ∧ Hid (RefM w W4 wx M bn k gs (.slice sa sl sc) ln mn bn)) (fun _ v12 _ => mn - (intOf v12).toNat)
            case atStart => exact ⟨0, sl4, vc, va, rfl, rfl, Nat.zero_le _, rfl, HM0.out⟩
            case round =>
              clear HM0
              obtain ⟨k, xl, xc, xa, rfl, rfl, hkm, hxl, HX⟩ := hrel
              have s1 : wr.cell? ⟨gs, 1, none⟩ = some (.int .i64 (mn : Int)) := cell_of HX.out.obj 1
              have s2 : wr.cell? ⟨gs, 2, none⟩ = some (.int .i64 (bn : Int)) := cell_of HX.out.obj 2
              have hzz2 := HZ.out
              have hml := HM.out.2.2.2.1
              by_cases hk : k < mn
              · have hkI : (k : Int) < (mn : Int) := by omega
                obtain ⟨y, hy⟩ : ∃ y, y = xl - bn := ⟨_, rfl⟩
                have hsb : (xl : Int) - (bn : Int) = (y : Int) := by omega
                have hyI : (y : Int) < (xl : Int) := by omega
                have hlx : (M ++ outL M bn k).length = xl := by rw [List.length_append, outL_length, hml, hxl]
                have ltx : ∀ j : Nat, (M ++ outL M bn k)[j]?.getD 0 < 256 := lt_app HM.out.2.2.1 (lt_out HM.out.2.2.1 _ _)
                obtain ⟨xa2, xc2, xg, hxe, hBx⟩ := owns_bytes HX.out.own ltx (by rw [hlx]; omega)
                obtain ⟨rfl, -, rfl⟩ : xa = xa2 ∧ xl = _ ∧ xc = xc2 := by
                  have := hxe
                  simp only [Value.slice.injEq] at this
                  exact this
                have hcx := hBx.cells y (by rw [hlx]; omega)
                rw [Nat.zero_add] at hcx
                have hxa : xa = some ⟨xg, 0, none⟩ := by
                  rcases hBx.at_ with e | e
                  · exact e
                  · exfalso
                    have : (M ++ outL M bn k).length = 0 := by rw [e]; rfl
                    omega
                obtain ⟨c, hc⟩ : ∃ c, c = (M ++ outL M bn k)[y]?.getD 0 := ⟨_, rfl⟩
                rw [← hc] at hcx
                have hc256 : c < 256 := by rw [hc]; exact ltx y
                have hnext : M ++ outL M bn k ++ [c] = M ++ outL M bn (k + 1) := by
                  rw [outL_succ, ← List.append_assoc, ← outL_next M bn k (by omega) (by omega), hc, hml, hy, hxl]
                have kA : Keep noBlock wr (wr.alloc (.cells #[.int .u8 (c : Int)] 5)) := (Keep.refl _ _).alloc _
                have hsrc := (bytes_new wr [c] #[.int .u8 (c : Int)] (0, 0) 1 rfl rfl (lt256 (by simpa using hc256)) (by simp)).src
                have oA : ownsU (wr.alloc (.cells #[.int .u8 (c : Int)] 5)) (.slice xa xl xc) (M ++ outL M bn k) := owns_kept HX.out.own kA (fun _ _ h => h)
                obtain ⟨v6, W6, hr6, own6, k6, n6⟩ := run_append_all _ 22 (.slice xa xl xc) _ [c] oA (by rw [hlx, List.length_singleton]; omega) _ hsrc
                have x6 := k6.obj (kA.obj HX.out.obj (fun h => h)) (owns_ne oA (kA.obj HX.out.obj (fun h => h)) (by decide))
                rw [hnext] at own6
                obtain ⟨k1, hk1⟩ : ∃ k1, k1 = k + 1 := ⟨_, rfl⟩
                rw [← hk1] at own6
                have ha3 : (k : Int) + 1 = (k1 : Int) := by omega
                obtain ⟨x1, hx1⟩ : ∃ x1, x1 = sl4 + k1 := ⟨_, rfl⟩
                obtain ⟨ya, yc, yg, hv6, -⟩ := owns_bytes own6 (lt_app HM.out.2.2.1 (lt_out HM.out.2.2.1 _ _)) (by rw [List.length_append, outL_length, hml]; omega)
                have hly : (M ++ outL M bn k1).length = x1 := by rw [List.length_append, outL_length, hml, hx1]
                rw [hly] at hv6
                subst hv6
                have HNX := (show Hid (RefM w W4 W6 M bn k1 gs (.slice ya x1 yc) ln mn bn ∧ x1 = sl4 + k1 ∧ k1 = k + 1) from
                  ⟨⟨own6, new_near (HX.out.keep.trans' kA).size HX.out.new n6, x6, keep_new (HX.out.keep.trans' kA) HX.out.new k6⟩, hx1, hk1⟩)
                have hxb : xl < 16777217 := by omega
                have hmb2 : mn < 16777217 := by omega
                subst hxa
                simp only [List.length_singleton] at hr6
                clear hzz2 hml hy hlx ltx hxe hBx hc hnext kA hsrc oA own6 k6 n6 x6 hk1 hx1 hly HX hxl
                go_wp2_with (at_builtin; refine wpList_append_run _ rfl _ _ 22 rfl (.slice (some ⟨xg, 0, none⟩) xl xc) (.slice (some ⟨wr.heap.size, 0, none⟩) 1 1) (.slice ya x1 yc) W6 rfl rfl hr6 ?_)
                go_roundw
                case rel => exact ⟨k1, x1, yc, ya, rfl, rfl, by have := HNX.out.2.2; omega, HNX.out.2.1, HNX.out.1⟩
                case measure => have := HNX.out.2.2; simp [intOf]; omega
              · have hkI : ¬ (k : Int) < (mn : Int) := by omega
                have hke : k = mn := by omega
                have HNX := (show Hid (RefS w wr bs ts F i1 q (.slice xa xl xc) (M ++ outL M bn mn) ∧ (M ++ outL M bn mn).length = xl) from by
                  have h := HM.out
                  have hlx : (M ++ outL M bn mn).length = xl := by rw [List.length_append, outL_length, hml, hxl, hke]
                  refine ⟨⟨by rw [← hke]; exact HX.out.own, HX.out.new, lt_app h.2.2.1 (lt_out h.2.2.1 _ _), by have := HQ.out.1; have := HN.out.2.1; omega, by rw [hlx]; omega, ?_, by rw [HI1.out]; exact h.2.2.2.2.2.2, HX.out.keep⟩, hlx⟩
                  have hq3 := HQ.out.2.2.1
                  rw [HI1.out, ← HN.out.2.1, ← HO.out, ← HOK.out, hlx]
                  have e := okB_go (rest := (d : Int)) (whole := (out.length : Int)) (t := ((ln : Int), (mn : Int), (bn : Int))) (r := ts.drop (i + 1)) ⟨by show 0 ≤ (ln : Int); omega, by show 0 ≤ (mn : Int); omega, by show 0 ≤ (bn : Int); omega, hld, by show (mn : Int) ≤ 16777216 - ((out.length : Int) + (ln : Int)); omega, fun _ => ⟨by show (bn : Int) ≠ 0; omega, by show (bn : Int) ≤ (out.length : Int) + (ln : Int); omega⟩⟩
                  refine Eq.trans ?_ e.symm
                  show _ = okB ((d : Int) - (ln : Int)) ((out.length : Int) + (ln : Int) + (mn : Int)) (ts.drop (i + 1))
                  rw [HQ.out.2.2.2, hq3]
                  congr 1
                  omega)
                clear HX hzz2 hml hke hxl
                go_wp2_with fail
                go_roundw
                case rel => exact ⟨q, i1, xl, xc, xa, _, rfl, rfl, rfl, by have := HI1.out; omega, HNX.out.2.symm, HNX.out.1⟩
                case measure => have := HI1.out; simp [intOf]; omega
    · have hltI : ¬ (i : Int) < (ll : Int) := by omega
      have hub := HI.out.ub
      have hpn := HI.out.pn
      have hok := HI.out.ok
      rw [List.drop_eq_nil_of_le (by omega)] at hok
      have hok2 : decide ((out.length : Int) ≤ 16777216) = O := by rw [HO.out, hnn.2.1]; exact hok
      have hsm := HI.out.same
      rw [show ts.drop i = [] from List.drop_eq_nil_of_le (by omega)] at hsm
      have hsm2 : out = outB (bs.take F) (bs.drop F) ts := hsm
      have HF := (show Hid (ownsU wr (.slice sa sl sc) (outB (bs.take F) (bs.drop F) ts) ∧ Keep noBlock w wr) from by rw [← hsm2]; exact ⟨HI.out.own, HI.out.keep⟩)
      by_cases hbig : 16777216 < sl
      · have g1 : decide ((16777216 : Int) < (sl : Int)) = true := decide_eq_true (by omega)
        have g1' : (16777216 : Int) < (sl : Int) := by omega
        have HOF := (show Hid (O = false) from by rw [← hok2]; exact decide_eq_false (by omega))
        clear hok hok2 hsm hsm2 HI hub hpn hnn hsl hbig
        go_wp2_with fail
        go_ret2
        exact ⟨.inr ⟨HOF.out, rfl⟩, HF.out.2⟩
      · have g1 : decide ((16777216 : Int) < (sl : Int)) = false := decide_eq_false (by omega)
        have g1' : ¬ (16777216 : Int) < (sl : Int) := by omega
        have HOF := (show Hid (O = true) from by rw [← hok2]; exact decide_eq_true (by omega))
        clear hok hok2 hsm hsm2 HI hub hpn hnn hsl hbig
        go_wp2_with fail
        go_ret2
        exact ⟨.inl ⟨HOF.out, _, rfl, HF.out.1⟩, HF.out.2⟩
end
end Go.Proofs.YtlpibfonpfhakaaDoor
