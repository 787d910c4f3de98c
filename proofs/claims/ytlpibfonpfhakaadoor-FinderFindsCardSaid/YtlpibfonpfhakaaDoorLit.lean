/-
  lits, Sizes.
-/
import Derived.Test.YtlpibfonpfhakaaDoorMid
namespace Go.Proofs.YtlpibfonpfhakaaDoor
open Go.RowKit Go.Shelf
set_option linter.unusedVariables false

/-- An empty row that is made. -/
theorem owns_made (W : World) : ownsU (W.alloc (.cells #[] 5)) (.slice (some ⟨W.heap.size, 0, none⟩) 0 0) [] :=
  owns_mk (alloc_new W _) (Nat.le_refl _) (Nat.zero_le _) rfl rfl
/-- What lits has come to. -/
structure LitS (w W : World) (bs : List Nat) (L : List Trip) (win lo hi F i p : Nat) (v : Value) (out : List Nat) : Prop where
  own : ownsU W v out
  new : ∀ g, v.ownBlock = some g → w.heap.size ≤ g
  right : RightL (cf0 bs win lo hi) p (L.drop i)
  same : out ++ litsL bs p (L.drop i) = bs.take F ++ litsL bs F L
  le : out.length ≤ p
  pn : p ≤ bs.length
  keep : Keep noBlock w W

section
attribute [local go_sem] sliceSem_eq
set_option maxRecDepth 100000 in
set_option maxHeartbeats 2000000 in
theorem lits_any (a : Option Addr) (cap gb off : Nat) (bs : List Nat) (F win lo hi : Nat) (la : Option Addr) (lcap lg loff : Nat) (L : List Trip) (w : World) (hB : Bytes w a cap gb off bs) (hQ : RowQ w la lcap lg loff (triI L)) (hR : RightL (cf0 bs win lo hi) F L) (hn : bs.length < 65536) (hL : L.length < 1000000) (hF : F ≤ bs.length) :
    Calls Tryd.prog 14 #[.slice a bs.length cap, .int .i64 (F : Int), .slice la L.length lcap] w fun e w' => (∃ v : Value, e = .returned v ∧ ownsU w' v (bs.take F ++ litsL bs F L) ∧ (∀ g, v.ownBlock = some g → w.heap.size ≤ g)) ∧ Keep noBlock w w' := by
  have HB := (show Hid (Bytes w a cap gb off bs ∧ RowQ w la lcap lg loff (triI L)) from ⟨hB, hQ⟩)
  obtain ⟨htk, hBt⟩ := hB.take F hF
  have hlt : (bs.take F).length = F := by rw [List.length_take]; omega
  rw [hlt] at htk
  have kA : Keep noBlock w (w.alloc (.cells #[] 5)) := (Keep.refl _ w).alloc _
  have hsrc := (hBt.keep kA (fun _ h => h)).src
  rw [hlt] at hsrc
  obtain ⟨v3, W3, hr3, own3, k3, n3⟩ := run_append_all _ 22 _ [] (bs.take F) (owns_made w) (by rw [hlt]; simp; omega) _ hsrc
  have hnew : ∀ g, (Value.slice (some ⟨w.heap.size, 0, none⟩) 0 0).ownBlock = some g → w.heap.size ≤ g := fun g hg => by
    have : w.heap.size = g := by simpa [Value.ownBlock] using hg
    omega
  have HI0 := (show Hid (LitS w W3 bs L win lo hi F 0 F v3 (bs.take F)) from
    ⟨by have := own3; rwa [List.nil_append] at this, new_near kA.size hnew n3, hR, rfl, by omega, hF, keep_new kA hnew k3⟩)
  obtain ⟨ll, hll⟩ : ∃ ll, ll = L.length := ⟨_, rfl⟩
  obtain ⟨n, hne⟩ : ∃ n, n = bs.length := ⟨_, rfl⟩
  have HN := (show Hid (ll = L.length ∧ n = bs.length) from ⟨hll, hne⟩)
  rw [← hll] at hL ⊢
  rw [← hne] at hn hF htk ⊢
  clear hB hQ hR hll hne hBt hlt kA hsrc own3 k3 n3 hnew
  go_enter Tryd.func14, Tryd.ntmps14
  go_wp2_with (at_builtin; refine wpList_append_run _ rfl _ _ 22 rfl (.slice (some ⟨w.heap.size, 0, none⟩) 0 0) (.slice a F cap) v3 W3 rfl rfl hr3 ?_)
  clear hr3
  go_loopw [7, 8, 9] (fun v7 v8 v9 wr => ∃ (p i : Nat) (out : List Nat), v8 = .int .i64 (p : Int) ∧ v9 = .int .i64 (i : Int) ∧ i ≤ ll ∧ Hid (LitS w wr bs L win lo hi F i p v7 out)) (fun _ _ v9 _ => ll - (intOf v9).toNat)
  case atStart => exact ⟨F, 0, bs.take F, rfl, rfl, Nat.zero_le _, HI0.out⟩
  case round =>
    clear HI0
    obtain ⟨p, i, out, rfl, rfl, hi1, HI⟩ := hrel
    have hnn := HN.out
    by_cases hlt : i < ll
    · have hltI : (i : Int) < (ll : Int) := by omega
      have hlt2 : i < L.length := by omega
      have hdr : L.drop i = L[i]?.getD (0, 0, 0) :: L.drop (i + 1) := by rw [List.drop_eq_getElem_cons hlt2, List.getElem?_eq_getElem hlt2]; rfl
      have hQw := HB.out.2.keep HI.out.keep (fun _ h => h)
      obtain ⟨e1, e2, e3⟩ := hQw.cells i (by rw [triI_length]; exact hlt2)
      rw [triI_at L i hlt2] at e1 e2 e3
      obtain rfl := HB.out.2.here (i := i) (by rw [triI_length]; exact hlt2)
      obtain ⟨⟨l, m, b⟩, ht⟩ : ∃ t : Trip, L[i]?.getD (0, 0, 0) = t := ⟨_, rfl⟩
      rw [ht] at e1 e2 e3 hdr
      simp only at e1 e2 e3
      have hri := HI.out.right
      rw [hdr] at hri
      have hrr : p + l + m ≤ bs.length ∧ RightL (cf0 bs win lo hi) (p + l + m) (L.drop (i + 1)) := by
        rcases hri with ⟨q1, q2, q3, q4, q5⟩ | ⟨q1, q2⟩
        · have q5 : p + l = bs.length := q5
          refine ⟨by omega, ?_⟩
          rw [q2, q1]
          exact q5
        · exact ⟨q1.fin, q2⟩
      have hsm := HI.out.same
      rw [hdr] at hsm
      obtain ⟨i1, hi1e⟩ : ∃ i1, i1 = i + 1 := ⟨_, rfl⟩
      have hadd : (i : Int) + 1 = (i1 : Int) := by omega
      obtain ⟨q, hq⟩ : ∃ q, q = p + l := ⟨_, rfl⟩
      have hadd1 : (p : Int) + (l : Int) = (q : Int) := by omega
      obtain ⟨q2, hq2⟩ : ∃ q2, q2 = q + m := ⟨_, rfl⟩
      have hadd2 : (q : Int) + (m : Int) = (q2 : Int) := by omega
      obtain ⟨a4, off4, hmid, hB4⟩ := HB.out.1.mid p q (by omega) (by omega)
      have hl4 : ((bs.drop p).take (q - p)).length = l := by rw [List.length_take, List.length_drop]; omega
      rw [show q - p = l from by omega] at hmid hB4 hl4
      rw [← hnn.2] at hmid
      have hsrc := (hB4.keep HI.out.keep (fun _ h => h)).src
      rw [hl4] at hsrc
      have hole := HI.out.le
      have hpn := HI.out.pn
      obtain ⟨v4, W4, hr4, own4, k4, n4⟩ := run_append_all wr 22 u7 out _ HI.out.own (by rw [hl4]; omega) _ hsrc
      have kk := keep_new HI.out.keep HI.out.new k4
      have HNX := (show Hid (LitS w W4 bs L win lo hi F i1 q2 v4 (out ++ (bs.drop p).take l)) from
        ⟨own4, new_near HI.out.keep.size HI.out.new n4, by rw [hi1e, hq2, hq]; exact hrr.2, by rw [hi1e, hq2, hq, List.append_assoc]; exact hsm, by rw [List.length_append, hl4]; omega, by omega, kk⟩)
      have hQ4 := HB.out.2.keep kk (fun _ h => h)
      obtain ⟨f1, f2, f3⟩ := hQ4.cells i (by rw [triI_length]; exact hlt2)
      rw [triI_at L i hlt2, ht] at f1 f2 f3
      simp only at f1 f2 f3
      have HI1 := (show Hid (i1 = i + 1) from hi1e)
      have hb1 : q < 65536 := by omega
      have hb2 : q2 < 65536 := by omega
      obtain ⟨c4, hc4⟩ : ∃ c4, c4 = cap - p := ⟨_, rfl⟩
      rw [← hc4] at hmid hr4
      clear hdr ht hri hrr hsm hi1e hq hq2 hB4 hl4 hsrc own4 k4 n4 kk hQ4 hQw hc4 HI hnn hole hpn e2 e3 f3
      go_wp2_with (at_builtin; refine wpList_append_run _ rfl _ _ 22 rfl u7 (.slice a4 l c4) v4 W4 rfl rfl hr4 ?_)
      go_quiet (fail)
      go_wp2_with fail
      go_roundw
      case rel => exact ⟨q2, i1, _, rfl, rfl, by have := HI1.out; omega, ⟨HNX.out.own, HNX.out.new, HNX.out.right, HNX.out.same, HNX.out.le, HNX.out.pn, HNX.out.keep.trans' (keep_drewN _ _)⟩⟩
      case measure => have := HI1.out; simp [intOf]; omega
    · have hltI : ¬ (i : Int) < (ll : Int) := by omega
      have HF := (show Hid (ownsU wr u7 (bs.take F ++ litsL bs F L) ∧ (∀ g, u7.ownBlock = some g → w.heap.size ≤ g) ∧ Keep noBlock w wr) from by
        have hs := HI.out.same
        rw [List.drop_eq_nil_of_le (by omega)] at hs
        have hs2 : out ++ [] = bs.take F ++ litsL bs F L := hs
        rw [List.append_nil] at hs2
        rw [← hs2]
        exact ⟨HI.out.own, HI.out.new, HI.out.keep⟩)
      clear HI hnn
      go_wp2_with fail
      go_ret
      exact ⟨⟨u7, rfl, HF.out.1, HF.out.2.1⟩, HF.out.2.2⟩
end

section
attribute [local go_sem] maxSem_eq minSem_eq
set_option maxRecDepth 100000 in
set_option maxHeartbeats 2000000 in
theorem sizes_any (n : Nat) (from_ level window least most : Int) (F lv win lo hi : Nat) (w : World)
    (hF : bringN from_ 0 n = (F : Int)) (hlv : bringN level 0 3 = (lv : Int)) (hwin : bringN window 1 16777216 = (win : Int)) (hlo : bringN least 2 65536 = (lo : Int)) (hhi : bringN most lo 65536 = (hi : Int)) :
    Calls Tryd.prog 12 #[.int .i64 (n : Int), .int .i64 from_, .int .i64 level, .int .i64 window, .int .i64 least, .int .i64 most] w fun e w' => e = .returned (.tuple #[.int .i64 (F : Int), .int .i64 (lv : Int), .int .i64 (win : Int), .int .i64 (lo : Int), .int .i64 (hi : Int)]) ∧ w' = w := by
  unfold bringN at *
  obtain ⟨x1, hx1⟩ : ∃ x1 : Int, x1 = min least 65536 := ⟨_, rfl⟩
  have m1 := minSem_run #[3, 3] 3 least 65536 x1 (by omega)
  have m2 := maxSem_run #[3, 3] 3 2 x1 (lo : Int) (by omega)
  obtain ⟨x2, hx2⟩ : ∃ x2 : Int, x2 = min from_ (n : Int) := ⟨_, rfl⟩
  have m3 := minSem_run #[3, 3] 3 from_ (n : Int) x2 (by omega)
  have m4 := maxSem_run #[3, 3] 3 0 x2 (F : Int) (by omega)
  obtain ⟨x3, hx3⟩ : ∃ x3 : Int, x3 = min level 3 := ⟨_, rfl⟩
  have m5 := minSem_run #[3, 3] 3 level 3 x3 (by omega)
  have m6 := maxSem_run #[3, 3] 3 0 x3 (lv : Int) (by omega)
  obtain ⟨x4, hx4⟩ : ∃ x4 : Int, x4 = min window 16777216 := ⟨_, rfl⟩
  have m7 := minSem_run #[3, 3] 3 window 16777216 x4 (by omega)
  have m8 := maxSem_run #[3, 3] 3 1 x4 (win : Int) (by omega)
  obtain ⟨x5, hx5⟩ : ∃ x5 : Int, x5 = max most 0 := ⟨_, rfl⟩
  have m9 := maxSem_run #[3, 3] 3 most 0 x5 (by omega)
  obtain ⟨x6, hx6⟩ : ∃ x6 : Int, x6 = min x5 65536 := ⟨_, rfl⟩
  have m10 := minSem_run #[3, 3] 3 x5 65536 x6 (by omega)
  have m11 := maxSem_run #[3, 3] 3 (lo : Int) x6 (hi : Int) (by omega)
  clear hF hlv hwin hlo hhi hx1 hx2 hx3 hx4 hx5 hx6
  go_enter Tryd.func12, Tryd.ntmps12
  go_wp2_with fail
  refine bodyPost_ret (v := .tuple #[.int .i64 (F : Int), .int .i64 (lv : Int), .int .i64 (win : Int), .int .i64 (lo : Int), .int .i64 (hi : Int)]) (by simp [results, Tryd.results12]) rfl ?_
  exact ⟨rfl, rfl⟩
end
end Go.Proofs.YtlpibfonpfhakaaDoor
