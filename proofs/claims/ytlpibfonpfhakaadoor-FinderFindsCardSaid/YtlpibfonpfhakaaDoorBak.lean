/-
  Back: the text that steps make.
-/
import Derived.Test.YtlpibfonpfhakaaDoorSiz
import Derived.Test.YtlpibfonpfhakaaDoorAgn
namespace Go.Proofs.YtlpibfonpfhakaaDoor
open Go.RowKit Go.Shelf
set_option linter.unusedVariables false

/-- What Back has come to. -/
structure BakS (w W : World) (bs : List Nat) (ts : List Tri) (F i : Nat) (v : Value) (a : Option Addr) (cap gb off : Nat) (out rest : List Nat) : Prop where
  own : ownsU W v out
  new : ∀ g, v.ownBlock = some g → w.heap.size ≤ g
  lt : ∀ j : Nat, out[j]?.getD 0 < 256
  row : Bytes w a cap gb off rest
  ok : okB rest.length out.length (ts.drop i) = true
  same : outB out rest (ts.drop i) = outB (bs.take F) (bs.drop F) ts
  keep : Keep noBlock w W
theorem keep_new {w W W' : World} {v : Value} (h : Keep noBlock w W) (hn : ∀ g, v.ownBlock = some g → w.heap.size ≤ g) (k : Keep (fun k => v.ownBlock = some k) W W') : Keep noBlock w W' :=
  h.trans k (fun i hi e => by have := hn i e; omega)
theorem new_near {w W : World} {v v' : Value} (hk : w.heap.size ≤ W.heap.size) (hn : ∀ g, v.ownBlock = some g → w.heap.size ≤ g) (k : NearU W v v') : ∀ g, v'.ownBlock = some g → w.heap.size ≤ g := fun g hg => by
  rcases k with e | ⟨x, e1, e2⟩
  · exact hn g (by rw [← e]; exact hg)
  · rw [e1] at hg
    have : x = g := by simpa using hg
    omega

set_option maxRecDepth 100000 in
set_option maxHeartbeats 1000000 in
theorem back_arg (a : Option Addr) (n cap : Nat) (from_ : Int) (l : Value) (la : Option Addr) (ln lc : Nat) (hl : l = .slice la ln lc) (w : World) (h : from_ < 0 ∨ (n : Int) < from_) :
    Calls Tryd.prog 9 #[.slice a n cap, .int .i64 from_, l] w fun e w' => e = .returned (.tuple #[.slice none 0 0, .int .i64 2]) ∧ w' = w := by
  subst hl
  by_cases h0 : from_ < 0
  · have h0' : decide (from_ < 0) = true := decide_eq_true h0
    go_enter Tryd.func9, Tryd.ntmps9
    go_wp2_with fail
    go_ret2
    exact ⟨rfl, rfl⟩
  · have h0' : decide (from_ < 0) = false := decide_eq_false h0
    have h1 : (n : Int) < from_ := by omega
    have h1' : decide ((n : Int) < from_) = true := decide_eq_true h1
    go_enter Tryd.func9, Tryd.ntmps9
    go_wp2_with fail
    go_ret2
    exact ⟨rfl, rfl⟩

section
attribute [local go_sem] sliceSem_eq
set_option maxRecDepth 100000 in
set_option maxHeartbeats 2000000 in
theorem back_bad (a : Option Addr) (cap n F : Nat) (la : Option Addr) (lcap lg loff : Nat) (ts : List Tri) (w : World) (hF : F ≤ n) (hQ : RowQ w la lcap lg loff ts) (hn : n < 140737488355328) (hT : ts.length < 140737488355328) (hok : okB ((n - F : Nat) : Int) F ts = false) :
    Calls Tryd.prog 9 #[.slice a n cap, .int .i64 (F : Int), .slice la ts.length lcap] w fun e w' => e = .returned (.tuple #[.slice none 0 0, .int .i64 11]) ∧ Keep noBlock w w' := by
  obtain ⟨r, hr⟩ : ∃ r, r = n - F := ⟨_, rfl⟩
  rw [← hr] at hok
  have HS := size_any la lcap lg loff ts r F w hQ (by omega) hT
  rw [hok] at HS
  have hsub : (n : Int) - (F : Int) = (r : Int) := by omega
  have h0 : ¬ (F : Int) < 0 := by omega
  have h0' : decide ((F : Int) < 0) = false := decide_eq_false h0
  have h1 : ¬ (n : Int) < (F : Int) := by omega
  have h1' : decide (n < F) = false := decide_eq_false (by omega)
  clear hQ hr
  generalize ts.length = tl at *
  go_enter Tryd.func9, Tryd.ntmps9
  go_wp2_with fail
  refine HS.mono ?_
  rintro e w1 ⟨⟨x, rfl, -⟩, k1⟩
  clear HS
  go_wp2_with fail
  go_ret2
  exact ⟨rfl, k1⟩
set_option maxRecDepth 100000 in
set_option maxHeartbeats 4000000 in
theorem back_ok (a : Option Addr) (cap gb off F : Nat) (bs : List Nat) (la : Option Addr) (lcap lg loff : Nat) (ts : List Tri) (w : World) (hF : F ≤ bs.length) (hB : Bytes w a cap gb off bs) (hQ : RowQ w la lcap lg loff ts) (hn : bs.length < 65537) (hT : ts.length < 140737488355328) (hok : okB ((bs.length - F : Nat) : Int) F ts = true) :
    Calls Tryd.prog 9 #[.slice a bs.length cap, .int .i64 (F : Int), .slice la ts.length lcap] w fun e w' => (∃ v : Value, e = .returned (.tuple #[v, .int .i64 0]) ∧ ownsU w' v (outB (bs.take F) (bs.drop F) ts) ∧ (∀ g, v.ownBlock = some g → w.heap.size ≤ g)) ∧ Keep noBlock w w' := by
  obtain ⟨r, hr⟩ : ∃ r, r = bs.length - F := ⟨_, rfl⟩
  rw [← hr] at hok
  have HS := size_any la lcap lg loff ts r F w hQ (by omega) hT
  rw [hok] at HS
  obtain ⟨z, hz⟩ : ∃ z : Nat, sizeB F ts = (z : Int) := ⟨(sizeB F ts).toNat, by have := sizeB_le hok (by omega); omega⟩
  have hz2 : z ≤ 16777216 := by have := (sizeB_le hok (by omega)).2; omega
  have hsub : (bs.length : Int) - (F : Int) = (r : Int) := by omega
  have h0 : ¬ (F : Int) < 0 := by omega
  have h0' : decide ((F : Int) < 0) = false := decide_eq_false h0
  have h1 : ¬ (bs.length : Int) < (F : Int) := by omega
  have h1' : decide (bs.length < F) = false := decide_eq_false (by omega)
  have HQ := (show Hid (RowQ w la lcap lg loff ts) from hQ)
  have HB := (show Hid (Bytes w a cap gb off bs) from hB)
  obtain ⟨htk, hBt⟩ := hB.take F hF
  obtain ⟨a2, off2, hdk, hBd, -⟩ := hB.drop F hF
  have hlt : (bs.take F).length = F := by rw [List.length_take]; omega
  have hld : (bs.drop F).length = r := by rw [List.length_drop]; omega
  rw [hlt] at htk
  have HB0 := (show Hid (Bytes w a cap gb off (bs.take F) ∧ Bytes w a2 (cap - F) gb off2 (bs.drop F)) from ⟨hBt, hBd⟩)
  have HX := (show Hid (okB (r : Int) F ts = true ∧ (bs.take F).length = F ∧ (bs.drop F).length = r) from ⟨hok, hlt, hld⟩)
  rw [hld] at hdk
  clear hQ hB hr hok hBt hBd hlt hld
  obtain ⟨bl, hbl⟩ : ∃ bl, bl = bs.length := ⟨_, rfl⟩
  obtain ⟨tl, htl⟩ : ∃ tl, tl = ts.length := ⟨_, rfl⟩
  rw [← hbl] at hsub h1 h1' htk hdk hF hn ⊢
  rw [← htl] at HS hT ⊢
  have HTL := (show Hid (tl = ts.length) from htl)
  clear hbl htl
  generalize cap - F = cap2 at *
  go_enter Tryd.func9, Tryd.ntmps9
  go_wp2_with fail
  refine HS.mono ?_
  rintro e w1 ⟨⟨x, rfl, hx⟩, k1⟩
  obtain rfl : x = (z : Int) := (hx trivial).trans hz
  clear HS hx hz
  have hmk := run_make_u8 0 z (Nat.zero_le _) (by omega)
  obtain ⟨W2, hW2⟩ : ∃ W2, W2 = (w1.alloc (.cells (u8s (List.replicate z 0)).toArray 5)).drew := ⟨_, rfl⟩
  have k2 : Keep noBlock w W2 := by rw [hW2]; exact (k1.alloc _).drew
  have o2 : ownsU W2 (.slice (some ⟨w1.heap.size, 0, none⟩) 0 z) [] := by
    have hg : W2.heap[w1.heap.size]? = some (.cells (u8s (List.replicate z 0)).toArray 5 (0, 0)) := by rw [hW2]; exact alloc_new w1 _
    exact owns_mk hg (Nat.zero_le _) (by unfold maxLen; omega) (by simp [u8s]) rfl
  have hsrc := (HB0.out.1.keep k2 (fun _ h => h)).src
  rw [HX.out.2.1] at hsrc
  obtain ⟨v3, W3, hr3, own3, k3, n3⟩ := run_append_all W2 22 _ [] (bs.take F) o2 (by rw [HX.out.2.1]; simp; omega) _ hsrc
  have hnew : ∀ g, (Value.slice (some ⟨w1.heap.size, 0, none⟩) 0 z).ownBlock = some g → w.heap.size ≤ g := fun g hg => by
    have : w1.heap.size = g := by simpa [Value.ownBlock] using hg
    have := k1.size
    omega
  have HI0 := (show Hid (BakS w W3 bs ts F 0 v3 a2 cap2 gb off2 (bs.take F) (bs.drop F)) from
    ⟨by have := own3; rwa [List.nil_append] at this, new_near k2.size hnew n3, lt_take HB.out.lt F, HB0.out.2, by rw [HX.out.2.1, HX.out.2.2]; exact HX.out.1, rfl, keep_new k2 hnew k3⟩)
  have hmk1 : (Instr.makeSlice 22 (.int .i64 0) (.int .i64 (z : Int))).run Tryd.prog w1.drew = .ok (.slice (some ⟨w1.heap.size, 0, none⟩) 0 z) (w1.alloc (.cells (u8s (List.replicate z 0)).toArray 5)).drew := hmk w1.drew
  clear hmk
  clear o2 hsrc own3 k3 n3 hnew k2
  go_wp2_with fail
  rw [hW2] at hr3
  clear hW2
  go_region_law (refine step_append_run _ (by rfl) _ _ 22 (by rfl) (.slice (some ⟨w1.heap.size, 0, none⟩) 0 z) (.slice a F cap) v3 W3 (by rfl) (by rfl) hr3 ?_)
  clear hr3 hmk1
  go_wp2_with fail
  go_loopw [10, 11, 45] (fun v10 v11 v45 wr => ∃ (i : Nat) (a' : Option Addr) (cap' off' rl : Nat) (out rest : List Nat), v11 = .slice a' rl cap' ∧ v45 = .int .i64 (i : Int) ∧ i ≤ tl ∧ rl = rest.length ∧ Hid (BakS w wr bs ts F i v10 a' cap' gb off' out rest)) (fun _ _ v45 _ => tl - (intOf v45).toNat)
  case atStart => exact ⟨0, a2, cap2, off2, r, bs.take F, bs.drop F, rfl, rfl, Nat.zero_le _, HX.out.2.2.symm, HI0.out⟩
  case round =>
    clear HI0
    obtain ⟨i, a', cap', off', rl, out, rest, rfl, rfl, hi, hrl, HI⟩ := hrel
    have HRL := (show Hid (rl = rest.length) from hrl)
    clear hrl
    have htl := HTL.out
    by_cases hlt : i < tl
    · have hltI : (i : Int) < (tl : Int) := by omega
      have hlt2 : i < ts.length := by omega
      obtain ⟨e1, e2, e3⟩ := (HQ.out.keep HI.out.keep (fun _ h => h)).cells i hlt2
      obtain rfl := HQ.out.here hlt2
      have hdr := drop_cons hlt2
      obtain ⟨⟨l, m, b⟩, ht⟩ : ∃ t : Tri, ts[i]?.getD (0, 0, 0) = t := ⟨_, rfl⟩
      rw [ht] at e1 e2 e3 hdr
      have ht0 := ht
      clear ht
      have hokt : okT rest.length out.length (l, m, b) := by
        by_cases q : okT rest.length out.length (l, m, b)
        · exact q
        · have := HI.out.ok
          rw [hdr, okB_no q] at this
          cases this
      have hok2 := HI.out.ok
      rw [hdr, okB_go hokt] at hok2
      have hout2 := HI.out.same
      rw [hdr] at hout2
      obtain ⟨q1, q2, q3, q4, q5, q6⟩ : 0 ≤ l ∧ 0 ≤ m ∧ 0 ≤ b ∧ l ≤ rest.length ∧ m ≤ 16777216 - (out.length + l) ∧ (0 < m → b ≠ 0 ∧ b ≤ out.length + l) := hokt
      obtain ⟨ln, rfl⟩ := Int.eq_ofNat_of_zero_le q1
      obtain ⟨mn, rfl⟩ := Int.eq_ofNat_of_zero_le q2
      obtain ⟨bn, rfl⟩ := Int.eq_ofNat_of_zero_le q3
      have hb63 : bn < 9223372036854775808 := by have := HQ.out.b63 i; rw [ht0] at this; have h2 : (bn : Int) < 9223372036854775808 := this; omega
      have hln : ln ≤ rest.length := by omega
      obtain ⟨ht1, hB1⟩ := HI.out.row.take ln hln
      obtain ⟨a4, off4, hd1, hB2, -⟩ := HI.out.row.drop ln hln
      have hl1 : (rest.take ln).length = ln := by rw [List.length_take]; omega
      rw [hl1] at ht1
      obtain ⟨rl2, hrl2⟩ : ∃ rl2, rl2 = (rest.drop ln).length := ⟨_, rfl⟩
      rw [← hrl2] at hd1
      rw [← HRL.out] at ht1 hd1
      have hsrc := (hB1.keep (HI.out.keep.alloc (.cells #[.int .i64 (ln : Int), .int .i64 (mn : Int), .int .i64 (bn : Int)] 25)) (fun _ h => h)).src
      rw [hl1] at hsrc
      have kA : Keep noBlock wr (wr.alloc (.cells #[.int .i64 (ln : Int), .int .i64 (mn : Int), .int .i64 (bn : Int)] 25)) := (Keep.refl noBlock wr).alloc _
      have oA : ownsU (wr.alloc (.cells #[.int .i64 (ln : Int), .int .i64 (mn : Int), .int .i64 (bn : Int)] 25)) u10 out := owns_kept HI.out.own kA (fun _ _ h => h)
      obtain ⟨v4, W4, hr4, own4, k4, n4⟩ := run_append_all _ 22 u10 out (rest.take ln) oA (by rw [hl1]; omega) _ hsrc
      have x4 := k4.obj (alloc_new wr (.cells #[.int .i64 (ln : Int), .int .i64 (mn : Int), .int .i64 (bn : Int)] 25)) (owns_ne oA (alloc_new wr (.cells #[.int .i64 (ln : Int), .int .i64 (mn : Int), .int .i64 (bn : Int)] 25)) (by decide))
      have y0 : W4.cell? ⟨wr.heap.size, 0, none⟩ = some (.int .i64 (ln : Int)) := cell_of x4 0
      have y1 : W4.cell? ⟨wr.heap.size, 1, none⟩ = some (.int .i64 (mn : Int)) := cell_of x4 1
      have y2 : W4.cell? ⟨wr.heap.size, 2, none⟩ = some (.int .i64 (bn : Int)) := cell_of x4 2
      have kA4 : Keep noBlock w W4 := keep_new (HI.out.keep.trans' kA) HI.out.new k4
      have new4 : ∀ g, v4.ownBlock = some g → w.heap.size ≤ g := new_near (HI.out.keep.trans' kA).size HI.out.new n4
      have lt4 : ∀ j : Nat, (out ++ rest.take ln)[j]?.getD 0 < 256 := lt_app HI.out.lt (lt_take HI.out.row.lt ln)
      have hl4 : (out ++ rest.take ln).length = out.length + ln := by rw [List.length_append, hl1]
      have HAG := again_any v4 (out ++ rest.take ln) mn bn W4 own4 lt4 (fun h => by rw [hl4]; have := q6 (by omega); omega) (by rw [hl4]; omega) hb63
      have HNX := (show Hid (∀ v5 W5, ownsU W5 v5 (out ++ rest.take ln ++ outL (out ++ rest.take ln) bn mn) → NearU W4 v4 v5 → Keep (fun k => v4.ownBlock = some k) W4 W5 → BakS w W5 bs ts F (i + 1) v5 a4 (cap' - ln) gb off4 (out ++ rest.take ln ++ outL (out ++ rest.take ln) bn mn) (rest.drop ln)) from fun v5 W5 o5 n5 k5 => by
        have kk := keep_new kA4 new4 k5
        refine ⟨o5, new_near kA4.size new4 n5, lt_app lt4 (lt_out lt4 _ _), ?_, ?_, ?_, kk⟩
        · exact hB2
        · rw [List.length_drop, List.length_append, outL_length, hl4]
          have e1 : ((rest.length - ln : Nat) : Int) = (rest.length : Int) - (ln : Int) := by omega
          have e2 : ((out.length + ln + mn : Nat) : Int) = (out.length : Int) + (ln : Int) + (mn : Int) := by omega
          rw [e1, e2]
          exact hok2
        · exact hout2)
      obtain ⟨i1, hi1⟩ : ∃ i1, i1 = i + 1 := ⟨_, rfl⟩
      have hadd : (i : Int) + 1 = (i1 : Int) := by omega
      rw [← hi1] at HNX
      have HI1 := (show Hid (i1 = i + 1 ∧ rl2 = (rest.drop ln).length) from ⟨hi1, hrl2⟩)
      clear x4 hdr ht0 hok2 hout2 q1 q2 q3 q4 q5 q6 hB1 hB2 hsrc kA oA own4 k4 n4 kA4 new4 lt4 hl4 hl1 hi1 hrl2 HI hln htl
      generalize cap' - ln = cap3 at *
      go_wp2_with (at_builtin; refine wpList_append_run _ rfl _ _ 22 rfl u10 (.slice a' ln cap') v4 W4 rfl rfl hr4 ?_)
      refine HAG.mono ?_
      rintro e W5 ⟨⟨v5, rfl, o5, n5⟩, k5⟩
      have HN := (show Hid (BakS w W5 bs ts F i1 v5 a4 cap3 gb off4 _ _) from HNX.out v5 W5 o5 n5 k5)
      clear HAG HNX o5 n5 k5 hr4
      go_wp2_with fail
      go_roundw
      case rel => exact ⟨i1, a4, cap3, off4, rl2, _, _, rfl, rfl, by have := HI1.out.1; omega, HI1.out.2, HN.out⟩
      case measure => have := HI1.out.1; simp [intOf]; omega
    · have hltI : ¬ (i : Int) < (tl : Int) := by omega
      have HF := (show Hid (ownsU wr u10 (outB (bs.take F) (bs.drop F) ts) ∧ (∀ g, u10.ownBlock = some g → w.heap.size ≤ g) ∧ Keep noBlock w wr) from by
        have hs := HI.out.same
        rw [List.drop_eq_nil_of_le (by omega)] at hs
        have hs : out = outB (bs.take F) (bs.drop F) ts := hs
        rw [← hs]
        exact ⟨HI.out.own, HI.out.new, HI.out.keep⟩)
      clear HI
      go_wp2_with fail
      go_ret2
      exact ⟨⟨u10, rfl, HF.out.1, HF.out.2.1⟩, HF.out.2.2⟩
end
end Go.Proofs.YtlpibfonpfhakaaDoor
