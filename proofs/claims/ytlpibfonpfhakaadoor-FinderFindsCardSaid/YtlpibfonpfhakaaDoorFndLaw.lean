/-
  Of bytes that are all the same there are few steps.
-/
import Derived.Test.YtlpibfonpfhakaaDoorAgnLaw
import Derived.Test.YtlpibfonpfhakaaDoorArn
namespace Go.Proofs.YtlpibfonpfhakaaDoor
open Go.RowKit Go.Shelf
set_option linter.unusedVariables false

/-- A text's end of one byte. -/
structure Same (w W : World) (hs : List Nat) (c i : Nat) (v : Value) : Prop where
  own : ownsU W v (hs ++ List.replicate i c)
  new : ∀ g, v.ownBlock = some g → w.heap.size ≤ g
  keep : Keep noBlock w W
theorem uni_same (hs : List Nat) (c n win lo hi : Nat) : Uni (cf0 (hs ++ List.replicate n c) win lo hi) hs.length := by
  intro i h1 h2
  have h2 : i + 1 < (hs ++ List.replicate n c).length := h2
  rw [List.length_append, List.length_replicate] at h2
  show byteN (hs ++ List.replicate n c) i = byteN (hs ++ List.replicate n c) (i + 1)
  unfold byteN
  rw [List.getElem?_append_right (by omega), List.getElem?_append_right (by omega), List.getElem?_replicate, List.getElem?_replicate, if_pos (by omega), if_pos (by omega)]
theorem few_le {l n hi mm : Nat} (h : l ≤ 2 + n / hi) (hm : mm ≤ hi) (h0 : 0 < mm) : l ≤ 2 + n / mm := by
  have : n / hi ≤ n / mm := Nat.div_le_div_left hm h0
  omega

section
attribute [local go_sem] maxSem_eq minSem_eq
set_option maxRecDepth 100000 in
set_option maxHeartbeats 4000000 in
theorem finds_law (c0 : Int) (a : Option Addr) (cap gb off : Nat) (hs : List Nat) (n0 level least most : Int) (w : World) (hD : Dep w) (hB : Bytes w a cap gb off hs) (hc0 : 0 ≤ c0) (hc1 : c0 < 256) :
    Calls Tryd.prog 6 #[.int .u8 c0, .slice a hs.length cap, .int .i64 n0, .int .i64 level, .int .i64 least, .int .i64 most] w fun e w' => e = .returned (.bool true) ∧ Keep noBlock w w' := by
  obtain ⟨c, rfl⟩ := Int.eq_ofNat_of_zero_le hc0
  have HD := (show Hid (Dep w ∧ Bytes w a cap gb off hs ∧ c < 256) from ⟨hD, hB, by omega⟩)
  have h48 := hB.len
  obtain ⟨n1, n2, n3, n4⟩ := around_lt 32768 n0 (by decide) (by decide)
  obtain ⟨n, hn⟩ : ∃ n, n = around 32768 n0 := ⟨_, rfl⟩
  rw [← hn] at n1 n2
  have n1' := n1.symm
  have n1'' : (n0.tmod 32768 + 32768).tmod 32768 = (n : Int) := n1'
  have n3' : -65536 ≤ n0.tmod 32768 := n3
  have n4' : n0.tmod 32768 ≤ 65536 := n4
  by_cases hbig : 4096 < hs.length
  · have g1 : (4096 : Int) < (hs.length : Int) := by omega
    clear hD hB hbig n1 n1' n3 n4 hn
    generalize hs.length = hl at *
    go_enter Tryd.func6, Tryd.ntmps6
    go_wp2_with fail
    refine (wakes_any w HD.out.1).mono ?_
    rintro e W1 ⟨rfl, k1⟩
    go_wp2_with fail
    go_ret
    exact ⟨rfl, k1⟩
  · have g1 : ¬ (4096 : Int) < (hs.length : Int) := by omega
    obtain ⟨l1, l2, l3, l4⟩ := around_lt 3 level (by decide) (by decide)
    obtain ⟨lv0, hlv0⟩ : ∃ x, x = around 3 level := ⟨_, rfl⟩
    rw [← hlv0] at l1 l2
    have l1' : (level.tmod 3 + 3).tmod 3 = (lv0 : Int) := l1.symm
    have l3' : -65536 ≤ level.tmod 3 := l3
    have l4' : level.tmod 3 ≤ 65536 := l4
    obtain ⟨lv, hlv⟩ : ∃ lv, lv = 1 + lv0 := ⟨_, rfl⟩
    have hlvI : (1 : Int) + (lv0 : Int) = (lv : Int) := by omega
    obtain ⟨e1, e2, e3, e4⟩ := around_lt 63 least (by decide) (by decide)
    obtain ⟨lo0, hlo0⟩ : ∃ x, x = around 63 least := ⟨_, rfl⟩
    rw [← hlo0] at e1 e2
    have e1' : (least.tmod 63 + 63).tmod 63 = (lo0 : Int) := e1.symm
    have e3' : -65536 ≤ least.tmod 63 := e3
    have e4' : least.tmod 63 ≤ 65536 := e4
    obtain ⟨lo, hlo⟩ : ∃ lo, lo = 2 + lo0 := ⟨_, rfl⟩
    have hloI : (2 : Int) + (lo0 : Int) = (lo : Int) := by omega
    obtain ⟨x5, hx5⟩ : ∃ x5 : Int, x5 = max most 0 := ⟨_, rfl⟩
    have m9 := maxSem_run #[3, 3] 3 most 0 x5 (by omega)
    obtain ⟨x6, hx6⟩ : ∃ x6 : Int, x6 = min x5 65536 := ⟨_, rfl⟩
    have m10 := minSem_run #[3, 3] 3 x5 65536 x6 (by omega)
    obtain ⟨hi, hhi⟩ : ∃ hi : Nat, (hi : Int) = max (lo : Int) x6 := ⟨(max (lo : Int) x6).toNat, by omega⟩
    have m11 := maxSem_run #[3, 3] 3 (lo : Int) x6 (hi : Int) (by omega)
    obtain ⟨mm, hmm⟩ : ∃ mm, mm = min hi 256 := ⟨_, rfl⟩
    have m12 := minSem_run #[3, 3] 3 (hi : Int) 256 (mm : Int) (by omega)
    have HX := (show Hid (1 ≤ lv ∧ lv ≤ 3 ∧ 2 ≤ lo ∧ lo ≤ hi ∧ hi ≤ 65536 ∧ mm ≤ hi ∧ 2 ≤ mm ∧ hs.length ≤ 4096) from ⟨by omega, by omega, by omega, by omega, by omega, by omega, by omega, by omega⟩)
    have kA : Keep noBlock w (w.alloc (.cells #[] 5)) := (Keep.refl _ w).alloc _
    have hsrc := (hB.keep kA (fun _ h => h)).src
    obtain ⟨v3, W3, hr3, own3, k3, nr3⟩ := run_append_all _ 22 _ [] hs (owns_made w) (by simp; omega) _ hsrc
    have hnew : ∀ g, (Value.slice (some ⟨w.heap.size, 0, none⟩) 0 0).ownBlock = some g → w.heap.size ≤ g := fun g hg => by
      have : w.heap.size = g := by simpa [Value.ownBlock] using hg
      omega
    rw [List.nil_append] at own3
    have HI0 := (show Hid (Same w W3 hs c 0 v3) from ⟨by simpa using own3, new_near kA.size hnew nr3, keep_new kA hnew k3⟩)
    obtain ⟨hl, hhl⟩ : ∃ hl, hl = hs.length := ⟨_, rfl⟩
    have HHL := (show Hid (hl = hs.length) from hhl)
    rw [← hhl] at g1 h48 hr3 ⊢
    have hmmb : 2 ≤ mm ∧ mm ≤ 256 := by omega
    obtain ⟨dq, hdq⟩ : ∃ dq, dq = n / mm := ⟨_, rfl⟩
    have hdqI : (n : Int).tdiv (mm : Int) = (dq : Int) := by rw [hdq, Int.tdiv_eq_ediv_of_nonneg (by omega)]; omega
    have hdb : dq ≤ n := by rw [hdq]; exact Nat.div_le_self _ _
    obtain ⟨d2, hd2⟩ : ∃ d2, d2 = 2 + dq := ⟨_, rfl⟩
    have hd2I : (2 : Int) + (dq : Int) = (d2 : Int) := by omega
    have HDQ := (show Hid (d2 = 2 + n / mm) from by exact hd2.trans (by rw [hdq]))
    have hmm0 : ((mm : Int) == 0) = false := by rw [beq_eq_false_iff_ne]; omega
    obtain ⟨hmm1, hmm2⟩ := hmmb
    have hlob : lo < 65 := by omega
    have hlvb : lv < 4 := by omega
    have hhib : hi ≤ 65536 := HX.out.2.2.2.2.1
    clear hD hB hbig n1 n1' n3 n4 hn l1 l3 l4 hlv0 hlv e1 e3 e4 hlo0 hlo hx5 hx6 hhi hmm kA hsrc own3 k3 nr3 hnew hhl hdq hd2
    go_enter Tryd.func6, Tryd.ntmps6
    go_wp2_with (at_builtin; refine wpList_append_run _ rfl _ _ 22 rfl (.slice (some ⟨w.heap.size, 0, none⟩) 0 0) (.slice a hl cap) v3 W3 rfl rfl hr3 ?_)
    clear hr3
    go_loopw [13, 14] (fun v13 v14 wr => ∃ (i : Nat), v14 = .int .i64 (i : Int) ∧ i ≤ n ∧ Hid (Same w wr hs c i v13)) (fun _ v14 _ => n - (intOf v14).toNat)
    case atStart => exact ⟨0, rfl, Nat.zero_le _, HI0.out⟩
    case round =>
      clear HI0
      obtain ⟨i, rfl, hi1, HI⟩ := hrel
      by_cases hlt : i < n
      · have hltI : (i : Int) < (n : Int) := by omega
        have kA : Keep noBlock wr (wr.alloc (.cells #[.int .u8 (c : Int)] 5)) := (Keep.refl _ _).alloc _
        have hsrc := (bytes_new wr [c] #[.int .u8 (c : Int)] (0, 0) 1 rfl rfl (lt256 (by simpa using HD.out.2.2)) (by simp)).src
        have oA : ownsU (wr.alloc (.cells #[.int .u8 (c : Int)] 5)) u13 (hs ++ List.replicate i c) := owns_kept HI.out.own kA (fun _ _ h => h)
        obtain ⟨v6, W6, hr6, own6, k6, n6⟩ := run_append_all _ 22 u13 _ [c] oA (by have := HX.out.2.2.2.2.2.2.2; rw [List.length_append, List.length_replicate, List.length_singleton]; omega) _ hsrc
        obtain ⟨i1, hi1e⟩ : ∃ i1, i1 = i + 1 := ⟨_, rfl⟩
        have hadd : (i : Int) + 1 = (i1 : Int) := by omega
        have HNX := (show Hid (Same w W6 hs c i1 v6 ∧ i1 = i + 1) from
          ⟨⟨by rw [hi1e, List.replicate_succ', ← List.append_assoc]; exact own6, new_near (HI.out.keep.trans' kA).size HI.out.new n6, keep_new (HI.out.keep.trans' kA) HI.out.new k6⟩, hi1e⟩)
        simp only [List.length_singleton] at hr6
        clear kA hsrc oA own6 k6 n6 hi1e HI
        go_wp2_with (at_builtin; refine wpList_append_run _ rfl _ _ 22 rfl u13 (.slice (some ⟨wr.heap.size, 0, none⟩) 1 1) v6 W6 rfl rfl hr6 ?_)
        go_roundw
        case rel => exact ⟨i1, rfl, by have := HNX.out.2; omega, HNX.out.1⟩
        case measure => have := HNX.out.2; simp [intOf]; omega
      · have hltI : ¬ (i : Int) < (n : Int) := by omega
        obtain rfl : i = n := by omega
        have hx := HX.out
        have hlen : (hs ++ List.replicate i c).length = hl + i := by rw [List.length_append, List.length_replicate, HHL.out]
        have hhl := HHL.out
        obtain ⟨b, bc, bg, hbe, hBb⟩ := owns_bytes HI.out.own (lt_app HD.out.2.1.lt (by
          intro j
          rw [List.getElem?_replicate]
          split
          · exact HD.out.2.2
          · decide)) (by rw [hlen]; omega)
        subst hbe
        have hP := parse_any b bc bg 0 (hs ++ List.replicate i c) (hl : Int) (lv : Int) 65536 (lo : Int) (hi : Int) hl lv 65536 lo hi wr (HD.out.1.keep HI.out.keep) hBb (by rw [hlen]; omega) (by rw [hlen]; unfold bringN; omega) (by unfold bringN; omega) (by decide) (by unfold bringN; omega) (by unfold bringN; omega)
        rw [hlen] at hP
        have HP := (show Hid (Calls Tryd.prog 11 _ wr _) from hP)
        have HK := (show Hid (Keep noBlock w wr) from HI.out.keep)
        rw [hlen]
        obtain ⟨tl, htl⟩ : ∃ tl, tl = hl + i := ⟨_, rfl⟩
        have hP2 := HP.out
        clear HP
        rw [← htl] at hP2 ⊢
        have HP := (show Hid (Calls Tryd.prog 11 _ wr _) from hP2)
        clear hP hP2 HI hx hlen hhl hBb htl hltI
        have hltI : ¬ (i : Int) < (i : Int) := by omega
        go_wp2_with fail
        refine HP.out.mono ?_
        rintro e W1 ⟨⟨v1, L, rfl, own1, -, hP⟩, k1⟩
        have hfew : L.length ≤ d2 := by
          have hx := HX.out
          have h1 := hP.few (by omega) (by rw [HHL.out]; exact uni_same hs c i _ _ _)
          rw [List.length_append, List.length_replicate, ← HHL.out, Nat.add_sub_cancel_left] at h1
          rw [HDQ.out]
          exact few_le h1 hx.2.2.2.2.2.1 (by omega)
        obtain ⟨la, lc, rfl⟩ := ownsQ_form own1
        have hfI : (L.length : Int) ≤ (d2 : Int) := by omega
        have hfd : decide (L.length ≤ d2) = true := decide_eq_true hfew
        have HKK := (show Hid (Keep noBlock w W1) from HK.out.trans' k1)
        clear own1 hP k1 HP hfew
        generalize L.length = ll at *
        go_wp2_with fail
        refine (wakes_any _ (HD.out.1.keep HKK.out)).mono ?_
        rintro e W5 ⟨rfl, k5⟩
        go_wp2_with fail
        go_ret
        exact ⟨rfl, HKK.out.trans' k5⟩
end
end Go.Proofs.YtlpibfonpfhakaaDoor
