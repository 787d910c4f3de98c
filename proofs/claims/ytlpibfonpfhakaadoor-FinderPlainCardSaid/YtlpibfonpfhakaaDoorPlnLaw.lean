/-
  Steps without matches tell a beginning of the text.
-/
import Derived.Test.YtlpibfonpfhakaaDoorIn2
import Derived.Test.YtlpibfonpfhakaaDoorArn
import Derived.Test.YtlpibfonpfhakaaDoorRefB
import Derived.Test.YtlpibfonpfhakaaDoorBckLaw
import Derived.Deep.RegionHeld3
import Derived.BigQuiet
namespace Go.Proofs.YtlpibfonpfhakaaDoor
open Go.RowKit Go.Shelf
set_option linter.unusedVariables false

/-- One step more, in a plain region. -/
theorem seq_append' (w : World) (v : Value) (L : List (Nat × Nat × Nat)) (h : ownsQ w v L) (hl : L.length < 1000000) (l m b : Nat) :
    ∃ v' w', (Builtin.append_ #[23, 23] 23 #[v, .slice (some ⟨w.heap.size, 0, none⟩) 1 1]).run Tryd.prog (w.alloc (.cells #[.int .i64 (l : Int), .int .i64 (m : Int), .int .i64 (b : Int)] 25)) = .ok v' w' ∧ ownsQ w' v' (L ++ [(l, m, b)]) ∧ Keep (fun k => v.ownBlock = some k) w w' ∧ (v'.ownBlock = v.ownBlock ∨ ∃ k, v'.ownBlock = some k ∧ w.heap.size ≤ k) := by
  obtain ⟨i0, hi, hz0, hz1, hz2⟩ := info_parts info25
  have k0 : Keep noBlock w (w.alloc (.cells #[.int .i64 (l : Int), .int .i64 (m : Int), .int .i64 (b : Int)] 25)) := (Keep.refl _ w).alloc _
  have h0 := ownsQ_kept h k0 (fun _ _ h => h)
  have hc : ∀ j u, (seqs [(l, m, b)])[j]? = some u → (w.alloc (.cells #[.int .i64 (l : Int), .int .i64 (m : Int), .int .i64 (b : Int)] 25)).cell? ((⟨w.heap.size, 0, none⟩ : Addr).add j) = some u := fun j u hu => by
    rw [add0]
    have hn : (w.alloc (.cells #[.int .i64 (l : Int), .int .i64 (m : Int), .int .i64 (b : Int)] 25)).heap[w.heap.size]? = some (.cells #[.int .i64 (l : Int), .int .i64 (m : Int), .int .i64 (b : Int)] 25 (0, 0)) := alloc_new w _
    rw [cell_of hn j]
    simpa [seqs] using hu
  obtain ⟨v', w', hr, h2, h3, h4, h5⟩ := run_append_own_at (P := Tryd.prog) _ 0 23 23 25 i0 (.agg #[.int .i64 0, .int .i64 0, .int .i64 0]) 3 24 Tryd.underlying23 hi hz0 hz1 hz2 rfl (by decide) v L.length (seqs L) h0 ⟨w.heap.size, 0, none⟩ 1 1 (seqs [(l, m, b)]) rfl hc (seqs_one _) (by unfold maxLen; omega) (by omega) (Nat.zero_le _)
  refine ⟨v', w', hr, by unfold ownsQ; rw [seqs_app, List.length_append, List.length_singleton]; exact h2, (k0.mono (T := fun k => v.ownBlock = some k) (fun _ _ h => h.elim)).grown h3 (fun k e _ => e), ?_⟩
  rcases h5 with e | e
  · exact .inl e
  · exact .inr ⟨_, e, k0.size⟩

/-- How many bytes steps have as they are. -/
def sumT : List Trip → Nat
  | [] => 0
  | t :: r => t.1 + sumT r
theorem sumT_app (A : List Trip) (t : Trip) : sumT (A ++ [t]) = sumT A + t.1 := by
  induction A with
  | nil => simp [sumT]
  | cons x r ih => simp only [List.cons_append, sumT, ih]; omega
theorem ok_plain {n : Nat} (hn : n ≤ 16384) : ∀ (L : List Trip) (q : Nat), (∀ t ∈ L, t.2.1 = 0 ∧ t.2.2 = 0) → q ≤ n → okB ((n - q : Nat) : Int) (q : Int) (triI L) = decide (q + sumT L ≤ n)
  | [], q, h, hq => by
    show decide ((q : Int) ≤ 16777216) = decide (q + 0 ≤ n)
    rw [decide_eq_true (show (q : Int) ≤ 16777216 by omega), decide_eq_true (show q + 0 ≤ n by omega)]
  | (k, m, b) :: r, q, h, hq => by
    obtain ⟨hm, hb⟩ := h (k, m, b) List.mem_cons_self
    have hm : m = 0 := hm
    have hb : b = 0 := hb
    subst hm hb
    show okB ((n - q : Nat) : Int) (q : Int) (((k : Int), 0, 0) :: triI r) = decide (q + (k + sumT r) ≤ n)
    by_cases hk : k ≤ n - q
    · rw [okB_plain (by omega) (by omega) (by omega), show ((n - q : Nat) : Int) - (k : Int) = ((n - (q + k) : Nat) : Int) from by omega, show (q : Int) + (k : Int) + 0 = ((q + k : Nat) : Int) from by omega, ok_plain hn r (q + k) (fun t ht => h t (List.mem_cons_of_mem _ ht)) (by omega), Nat.add_assoc]
    · rw [okB_no (fun e => by have := e.2.2.2.1; have h2 : (k : Int) ≤ ((n - q : Nat) : Int) := this; omega), decide_eq_false (by omega)]
theorem out_plain {bs : List Nat} : ∀ (L : List Trip) (q : Nat), (∀ t ∈ L, t.2.1 = 0 ∧ t.2.2 = 0) → outB (bs.take q) (bs.drop q) (triI L) = bs.take (q + sumT L)
  | [], q, h => rfl
  | (k, m, b) :: r, q, h => by
    obtain ⟨hm, hb⟩ := h (k, m, b) List.mem_cons_self
    have hm : m = 0 := hm
    have hb : b = 0 := hb
    subst hm hb
    show outB ((bs.take q ++ (bs.drop q).take ((k : Nat) : Int).toNat) ++ outL _ 0 0) ((bs.drop q).drop ((k : Nat) : Int).toNat) (triI r) = bs.take (q + (k + sumT r))
    rw [outL_zero, List.append_nil, Int.toNat_natCast, take_more, List.drop_drop, out_plain r (q + k) (fun t ht => h t (List.mem_cons_of_mem _ ht)), Nat.add_assoc]
structure PlnS (w W : World) (F i p : Nat) (v : Value) (L : List Trip) : Prop where
  own : ownsQ W v L
  new : ∀ g, v.ownBlock = some g → w.heap.size ≤ g
  plain : ∀ t ∈ L, t.2.1 = 0 ∧ t.2.2 = 0
  len : L.length = i
  sum : p = F + sumT L
  keep : Keep noBlock w W
theorem keep_newQ {w W W' : World} {v : Value} (h : Keep noBlock w W) (hn : ∀ g, v.ownBlock = some g → w.heap.size ≤ g) (k : Keep (fun k => v.ownBlock = some k) W W') : Keep noBlock w W' :=
  h.trans k (fun i hi e => by have := hn i e; omega)

section
attribute [local go_sem] sliceSem_eq
set_option maxRecDepth 100000 in
set_option maxHeartbeats 4000000 in
theorem plain_law (a : Option Addr) (cap gb off : Nat) (bs : List Nat) (from_ : Int) (za : Option Addr) (zl zc zb zo : Nat) (zs : Nat → Int) (w : World) (hD : Dep w) (hB : Bytes w a cap gb off bs) (hZ : RowZ w za zl zb zo zs) :
    Calls Tryd.prog 7 #[.slice a bs.length cap, .int .i64 from_, .slice za zl zc] w fun e w' => e = .returned (.bool true) ∧ Keep noBlock w w' := by
  have HD := (show Hid (Dep w ∧ Bytes w a cap gb off bs ∧ RowZ w za zl zb zo zs) from ⟨hD, hB, hZ⟩)
  have h48 := hB.len
  obtain ⟨n, hn⟩ : ∃ n, n = bs.length := ⟨_, rfl⟩
  rw [← hn] at h48 ⊢
  have HN := (show Hid (n = bs.length) from hn)
  clear hD hB hZ hn
  by_cases hbad : 16384 < n ∨ 200 < zl ∨ from_ < 0 ∨ (n : Int) < from_
  · have hc : (decide ((16384 : Int) < (n : Int)) = true ∧ (16384 : Int) < (n : Int)) ∨ ((decide ((16384 : Int) < (n : Int)) = false ∧ ¬ (16384 : Int) < (n : Int)) ∧ decide ((200 : Int) < (zl : Int)) = true ∧ (200 : Int) < (zl : Int)) ∨ ((decide ((16384 : Int) < (n : Int)) = false ∧ ¬ (16384 : Int) < (n : Int)) ∧ (decide ((200 : Int) < (zl : Int)) = false ∧ ¬ (200 : Int) < (zl : Int)) ∧ decide (from_ < 0) = true ∧ from_ < 0) ∨ ((decide ((16384 : Int) < (n : Int)) = false ∧ ¬ (16384 : Int) < (n : Int)) ∧ (decide ((200 : Int) < (zl : Int)) = false ∧ ¬ (200 : Int) < (zl : Int)) ∧ (decide (from_ < 0) = false ∧ ¬ from_ < 0) ∧ decide ((n : Int) < from_) = true ∧ (n : Int) < from_) := by
      by_cases x1 : (16384 : Int) < (n : Int)
      · exact .inl ⟨decide_eq_true x1, x1⟩
      · by_cases x2 : (200 : Int) < (zl : Int)
        · exact .inr (.inl ⟨⟨decide_eq_false x1, x1⟩, decide_eq_true x2, x2⟩)
        · by_cases x3 : from_ < 0
          · exact .inr (.inr (.inl ⟨⟨decide_eq_false x1, x1⟩, ⟨decide_eq_false x2, x2⟩, decide_eq_true x3, x3⟩))
          · exact .inr (.inr (.inr ⟨⟨decide_eq_false x1, x1⟩, ⟨decide_eq_false x2, x2⟩, ⟨decide_eq_false x3, x3⟩, decide_eq_true (by omega), by omega⟩))
    clear hbad
    rcases hc with ⟨c1, c1'⟩ | ⟨⟨c1, c1'⟩, c2, c2'⟩ | ⟨⟨c1, c1'⟩, ⟨c2, c2'⟩, c3, c3'⟩ | ⟨⟨c1, c1'⟩, ⟨c2, c2'⟩, ⟨c3, c3'⟩, c4, c4'⟩
    all_goals (
      go_enter Tryd.func7, Tryd.ntmps7
      go_wp2_with fail
      refine (wakes_any w HD.out.1).mono ?_
      rintro e W1 ⟨rfl, k1⟩
      go_wp2_with fail
      go_ret
      exact ⟨rfl, k1⟩)
  · obtain ⟨F, rfl⟩ := Int.eq_ofNat_of_zero_le (show 0 ≤ from_ by omega)
    have c1 : decide ((16384 : Int) < (n : Int)) = false := decide_eq_false (by omega)
    have c1' : ¬ (16384 : Int) < (n : Int) := by omega
    have c2 : decide ((200 : Int) < (zl : Int)) = false := decide_eq_false (by omega)
    have c2' : ¬ (200 : Int) < (zl : Int) := by omega
    have c3 : decide ((F : Int) < 0) = false := decide_eq_false (by omega)
    have c3' : ¬ (F : Int) < 0 := by omega
    have c4 : decide (n < F) = false := decide_eq_false (by omega)
    have c4' : ¬ (n : Int) < (F : Int) := by omega
    have hnb : n ≤ 16384 := by omega
    have hFn : F ≤ n := by omega
    have hzl : zl ≤ 200 := by omega
    clear hbad h48
    go_enter Tryd.func7, Tryd.ntmps7
    go_wp2_with fail
    go_loopw [7, 8, 9] (fun v7 v8 v9 wr => ∃ (p i : Nat) (L : List Trip), v8 = .int .i64 (p : Int) ∧ v9 = .int .i64 (i : Int) ∧ i ≤ zl ∧ p ≤ 16384 + 100 * i ∧ Hid (PlnS w wr F i p v7 L)) (fun _ _ v9 _ => zl - (intOf v9).toNat)
    case atStart => exact ⟨F, 0, [], rfl, rfl, Nat.zero_le _, by omega, ⟨ownsQ_nil _, (fun g e => by cases e), (fun t ht => by cases ht), rfl, rfl, Keep.refl _ _⟩⟩
    case round =>
      obtain ⟨p, i, L, rfl, rfl, hi1, hp, HI⟩ := hrel
      by_cases hlt : i < zl
      · have hltI : (i : Int) < (zl : Int) := by omega
        have hz := (HD.out.2.2.keep HI.out.keep).cells i hlt
        obtain rfl : za = some ⟨zb, zo, none⟩ := HD.out.2.2.at_.resolve_right (by omega)
        generalize zs i = z at hz
        obtain ⟨k1, k2, k3, k4⟩ := around_lt 100 z (by decide) (by decide)
        obtain ⟨k, hk⟩ : ∃ k, k = around 100 z := ⟨_, rfl⟩
        rw [← hk] at k1 k2
        have k1' : (z.tmod 100 + 100).tmod 100 = (k : Int) := k1.symm
        have k3' : -65536 ≤ z.tmod 100 := k3
        have k4' : z.tmod 100 ≤ 65536 := k4
        obtain ⟨v', W', hr, own', kk', n'⟩ := seq_append' wr u7 L HI.out.own (by rw [HI.out.len]; omega) k 0 0
        obtain ⟨i1, hi1e⟩ : ∃ i1, i1 = i + 1 := ⟨_, rfl⟩
        have hadd : (i : Int) + 1 = (i1 : Int) := by omega
        obtain ⟨p1, hp1⟩ : ∃ p1, p1 = p + k := ⟨_, rfl⟩
        have hadd2 : (p : Int) + (k : Int) = (p1 : Int) := by omega
        have HNX := (show Hid (PlnS w W' F i1 p1 v' (L ++ [(k, 0, 0)]) ∧ i1 = i + 1 ∧ p1 = p + k) from
          ⟨⟨own', fun g hg => (by
            rcases n' with e | ⟨x, e1, e2⟩
            · exact HI.out.new g (by rw [← e]; exact hg)
            · rw [e1] at hg
              have : x = g := by simpa using hg
              have := HI.out.keep.size
              omega), fun t ht => (by
            rcases List.mem_append.1 ht with e | e
            · exact HI.out.plain t e
            · have : t = (k, 0, 0) := by simpa using e
              subst this; exact ⟨rfl, rfl⟩), by rw [List.length_append, HI.out.len, List.length_singleton, hi1e], by rw [sumT_app, hp1, HI.out.sum]; show _ = F + (sumT L + k); omega, keep_newQ HI.out.keep HI.out.new kk'⟩, hi1e, hp1⟩)
        rw [show (((0 : Nat)) : Int) = (0 : Int) from rfl] at hr
        clear k1 k3 k4 hk own' kk' n' hi1e hp1 HI
        go_wp2_with (at_builtin; refine wpList_append_run _ rfl _ _ 23 rfl u7 (.slice (some ⟨wr.heap.size, 0, none⟩) 1 1) v' W' rfl rfl hr ?_)
        go_roundw
        case rel => exact ⟨p1, i1, _, rfl, rfl, by have := HNX.out.2.1; omega, by have := HNX.out.2; omega, HNX.out.1⟩
        case measure => have := HNX.out.2.1; simp [intOf]; omega
      · have hltI : ¬ (i : Int) < (zl : Int) := by omega
        have hpl := HI.out.plain
        obtain ⟨la, lc, lg, hv, hQ, -⟩ := ownsQ_row HI.out.own (fun t ht => by rw [(hpl t ht).2]; decide)
        subst hv
        have hlen := HI.out.len
        have hok := ok_plain hnb L F hpl hFn
        rw [← HI.out.sum] at hok
        have hout := out_plain (bs := bs) L F hpl
        rw [← HI.out.sum] at hout
        have hBw := HD.out.2.1.keep HI.out.keep (fun _ h => h)
        have hnn := HN.out
        have HK := (show Hid (Keep noBlock w wr) from HI.out.keep)
        by_cases hfar : n < p
        · have hg : decide (n < p) = true := decide_eq_true hfar
          have hgI : (n : Int) < (p : Int) := by omega
          have hC := back_bad a cap n F la lc lg 0 (triI L) wr hFn hQ (by omega) (by rw [triI_length]; omega) (by rw [hok]; exact decide_eq_false (by omega))
          rw [triI_length] at hC
          have HC := (show Hid (Calls Tryd.prog 9 _ wr _) from hC)
          clear hC hok hout hBw hnn hQ hpl hlen HI
          generalize L.length = ll at *
          go_wp2_with fail
          refine HC.out.mono ?_
          rintro e W1 ⟨rfl, k1⟩
          clear HC
          go_wp2_with fail
          refine (wakes_any _ (HD.out.1.keep (HK.out.trans' k1))).mono ?_
          rintro e W5 ⟨rfl, k5⟩
          go_wp2_with fail
          go_ret
          exact ⟨rfl, (HK.out.trans' k1).trans' k5⟩
        · have hg : decide (n < p) = false := decide_eq_false hfar
          have hgI : ¬ (n : Int) < (p : Int) := by omega
          have hC := back_ok a cap gb off F bs la lc lg 0 (triI L) wr (by omega) hBw hQ (by omega) (by rw [triI_length]; omega) (by rw [← hnn, hok]; exact decide_eq_true (by omega))
          rw [triI_length, hout, ← hnn] at hC
          have HC := (show Hid (Calls Tryd.prog 9 _ wr _) from hC)
          clear hC hok hout hBw hnn hQ hpl hlen HI
          generalize L.length = ll at *
          go_wp2_with fail
          refine HC.out.mono ?_
          rintro e W1 ⟨⟨v1, rfl, own1, -⟩, k1⟩
          obtain ⟨x, xc, hx⟩ := owns_slice own1
          have s1 := owns_src own1
          subst hx
          have hpn : p ≤ bs.length := by have := HN.out; omega
          have hBw := HD.out.2.1.keep (HK.out.trans' k1) (fun _ h => h)
          obtain ⟨htk, hBt⟩ := hBw.take p hpn
          have hlt2 : (bs.take p).length = p := by rw [List.length_take]; omega
          rw [hlt2] at htk s1
          rw [hlt2]
          rw [← HN.out] at htk
          have s2 := hBt.src
          rw [hlt2] at s2
          have cv1 : ∀ W, Keep noBlock W1 W → (convert 22 9 (.slice x p xc)).run Tryd.prog W = .ok (.string (strOf (bs.take p))) W := fun W k => run_conv (s1.keep k)
          have cv2 : ∀ W, Keep noBlock W1 W → (convert 22 9 (.slice a p cap)).run Tryd.prog W = .ok (.string (strOf (bs.take p))) W := fun W k => run_conv (s2.keep k)
          have HKK := (show Hid (Keep noBlock w W1) from HK.out.trans' k1)
          clear s1 s2 hBt hBw own1 k1 HC hlt2
          go_wp2_with fail
          have kd : Keep noBlock W1 W1.drew := (Keep.refl _ W1).drew
          go_region_held3 (fun W' => (convert 22 9 (.slice x p xc)).run Tryd.prog W' = .ok (.string (strOf (bs.take p))) W' ∧ (convert 22 9 (.slice a p cap)).run Tryd.prog W' = .ok (.string (strOf (bs.take p))) W' ∧ Keep noBlock W1 W') ((first | assumption | exact ⟨cv1 _ (by assumption), cv2 _ (by assumption), by assumption⟩)) ((first
            | (go_at_call 8; refine (wakes_any _ (HD.out.1.keep (HKK.out.trans' (by assumption)))).mono ?_; rintro e W5 ⟨rfl, k5⟩; have kk5 : Keep noBlock W1 W5 := Keep.trans' (by assumption) k5)))
          go_wp2_with fail
          go_ret
          exact ⟨rfl, HKK.out.trans' (by assumption)⟩
end
end Go.Proofs.YtlpibfonpfhakaaDoor
