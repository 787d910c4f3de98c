/-
  headOf: what a frame's head tells.
  most, judgeHead, behindBlock: of a frame as it lies.
  sequences.Value of the distances that lie within a frame.
  behindBlock: the content behind a block.
-/
import Derived.Laws.CopyRow
import Derived.Laws.IdiomCopy
import Derived.Laws.Tables
import Derived.Test.YtnjilcokkhodmaaGreatDoorZP6
import Derived.Test.YtnjilcokkhodmaaGreatDoorZP14
namespace Go.Proofs.YtnjilcokkhodmaaGreatDoor
open Go.RowKit Go.Shelf
set_option linter.unusedVariables false

theorem keep_cellA {w w' : World} (hk : Keep noBlock w w') {p : Addr} {v : Value} (h : w.cell? p = some v) : w'.cell? p = some v :=
 (World.cell?_of_block (hk.block p.block (World.block_lt_of_cell? w p h) (fun h => h))).trans h
theorem info35s : (Tryz.prog.info? 35).map (·.size) = some 4 := by kernel_rfl
theorem hdSiz_lt {d : Nat} {bs : List Nat} (hb : ∀ j : Nat, bs[j]?.getD 0 < 256) (hl : bs.length = hdLen d) : hdSiz d bs < 18446744073709551616 ∧ hdDic d bs < 4294967296 ∧ ((bs.drop (winLen d)).drop (dicLen d)).length = sizLen d ∧ ((bs.drop (winLen d)).take (dicLen d)).length = dicLen d := by
  have hm : ∀ b ∈ (bs.drop (winLen d)).drop (dicLen d), b < 256 := fun b h => lt_mem (lt_drop (lt_drop hb _) _) b h
  have hm2 : ∀ b ∈ (bs.drop (winLen d)).take (dicLen d), b < 256 := fun b h => lt_mem (lt_take (lt_drop hb _) _) b h
  have h1 := numN_lt hm
  have h2 := numN_lt hm2
  have b2 : dicLen d ≤ 4 := by unfold dicLen; split <;> omega
  have b3 : sizLen d ≤ 8 := by unfold sizLen; repeat' split
                               all_goals omega
  have e3 : ((bs.drop (winLen d)).drop (dicLen d)).length = sizLen d := by rw [List.length_drop, List.length_drop, hl]; unfold hdLen; omega
  have e4 : ((bs.drop (winLen d)).take (dicLen d)).length = dicLen d := by rw [List.length_take, List.length_drop, hl]; unfold hdLen; omega
  rw [e3] at h1
  rw [e4] at h2
  refine ⟨?_, ?_, e3, e4⟩
  · unfold hdSiz
    rw [e3]
    by_cases h : sizLen d = 2
    · rw [if_pos h]
      rw [h] at h1
      omega
    · rw [if_neg h]
      have : 256 ^ sizLen d ≤ 256 ^ 8 := Nat.pow_le_pow_right (by omega) b3
      omega
  · unfold hdDic
    have : 256 ^ dicLen d ≤ 256 ^ 4 := Nat.pow_le_pow_right (by omega) b2
    omega

section
attribute [local go_sem] sliceSem_eq maxSem_eq
set_option maxRecDepth 100000 in
set_option maxHeartbeats 8000000 in
theorem headOf_any (d : Nat) (hd : d < 256) (a : Option Addr) (cap gb off : Nat) (bs : List Nat) (w : World) (hB : Bytes w a cap gb off bs) (hl : bs.length = hdLen d) :
    Calls Tryz.prog 24 #[.int .u8 (d : Int), .slice a bs.length cap] w fun e w' => e = .returned (.agg #[.int .u64 ((hdWin d bs : Nat) : Int), .int .u64 ((hdDic d bs : Nat) : Int), .int .u64 ((hdSiz d bs : Nat) : Int), .bool (hdTold d bs)]) ∧ Keep noBlock w w' := by
  obtain ⟨s1, s2, s3, s4⟩ := hdSiz_lt hB.lt hl
  have b1 : winLen d ≤ 1 := by unfold winLen; split <;> omega
  have b2 : dicLen d ≤ 4 := by unfold dicLen; split <;> omega
  have b3 : sizLen d ≤ 8 := by unfold sizLen; repeat' split
                               all_goals omega
  have H1 := hid (show ∀ W : World, _ from fun W => winLen_any d hd W)
  have H2 := hid (show ∀ W : World, _ from fun W => dicLen_any d hd W)
  have H3 := hid (show ∀ W : World, _ from fun W => single_any d hd W)
  obtain ⟨t1, t2⟩ := hB.take (winLen d) (by rw [hl]; unfold hdLen; omega)
  obtain ⟨a', off', d1, d2, -⟩ := hB.drop (winLen d) (by rw [hl]; unfold hdLen; omega)
  obtain ⟨u1, u2⟩ := d2.take (dicLen d) (by rw [List.length_drop, hl]; unfold hdLen; omega)
  obtain ⟨a'', off'', v1, v2, -⟩ := d2.drop (dicLen d) (by rw [List.length_drop, hl]; unfold hdLen; omega)
  have HN1 := hid (show ∀ W, Keep noBlock w W → Calls Tryz.prog 20 #[.slice a' ((bs.drop (winLen d)).take (dicLen d)).length (cap - winLen d)] W fun e w' => e = .returned (.int .u64 ((hdDic d bs : Nat) : Int)) ∧ w' = W from fun W hk => number_any8 _ _ _ _ _ W (u2.keep hk (fun _ h => h)) (by omega))
  have HN2 := hid (show ∀ W, Keep noBlock w W → Calls Tryz.prog 20 #[.slice a'' ((bs.drop (winLen d)).drop (dicLen d)).length (cap - winLen d - dicLen d)] W fun e w' => e = .returned (.int .u64 ((numN ((bs.drop (winLen d)).drop (dicLen d)) : Nat) : Int)) ∧ w' = W from fun W hk => number_any8 _ _ _ _ _ W (v2.keep hk (fun _ h => h)) (by omega))
  have HE := hid (show hdSiz d bs = numN ((bs.drop (winLen d)).drop (dicLen d)) + (if ((bs.drop (winLen d)).drop (dicLen d)).length = 2 then 256 else 0) ∧ hdTold d bs = decide (0 < ((bs.drop (winLen d)).drop (dicLen d)).length) ∧ hdWin d bs = if flagB d 5 then max (hdSiz d bs) 1 else winOf (bs[0]?.getD 0) from ⟨rfl, rfl, rfl⟩)
  have HW0 := hid (show flagB d 5 = false → winLen d = 1 ∧ ∃ ad, a = some ad ∧ w.cell? ad = some (.int .u8 ((bs[0]?.getD 0 : Nat) : Int)) ∧ bs[0]?.getD 0 < 256 from fun hf => by
    have hw1 : winLen d = 1 := by unfold winLen; rw [hf]; rfl
    have hpos : 0 < bs.length := by rw [hl]; unfold hdLen; omega
    have hc := hB.cells 0 hpos
    rw [Nat.add_zero] at hc
    exact ⟨hw1, _, hB.at_.resolve_right (fun e => by rw [e] at hpos; simp at hpos), hc, hB.lt 0⟩)
  obtain ⟨n, hn⟩ : ∃ n, n = bs.length := ⟨_, rfl⟩
  rw [List.length_take, Nat.min_eq_left (by rw [hl]; unfold hdLen; omega)] at t1
  rw [s4] at u1 HN1
  rw [s3] at v1 HN2 HE
  rw [← hn] at t1 d1 ⊢
  obtain ⟨m, hm⟩ : ∃ m, m = (bs.drop (winLen d)).length := ⟨_, rfl⟩
  rw [← hm] at d1 u1 v1
  have hmn : winLen d + m = n := by rw [hm, hn, List.length_drop]; unfold hdLen at hl; omega
  have hms : dicLen d + sizLen d = m := by rw [hm, List.length_drop]; unfold hdLen at hl; omega
  generalize hq : numN ((bs.drop (winLen d)).drop (dicLen d)) = q at *
  generalize hdDic d bs = D at *
  generalize hdSiz d bs = Z at *
  generalize hdTold d bs = tl at *
  generalize hdWin d bs = Wn at *
  clear t2 d2 u2 v2 hB hl hq hm hn s3 s4
  generalize winLen d = wl at *
  generalize dicLen d = dl at *
  generalize sizLen d = sl at *
  have hwl : (wl : Int) ≤ 1 := by omega
  have hwn : (wl : Int) ≤ (n : Int) := by omega
  have hdl : (dl : Int) ≤ 4 := by omega
  have hdm : (dl : Int) ≤ (m : Int) := by omega
  have hsl8 : (sl : Int) ≤ 8 := by omega
  go_enter Tryz.func24, Tryz.ntmps24
  go_wp2_with fail
  go_region_held3 (fun _ => True) (trivial) ((first | (go_at_call 38; refine (H1.out _).mono ?_; rintro e w' ⟨rfl, rfl⟩)))
  go_wp2_with fail
  go_region_held3 (fun _ => True) (trivial) ((first | (go_at_call 39; refine (H2.out _).mono ?_; rintro e w' ⟨rfl, rfl⟩)))
  go_wp2_with fail
  obtain ⟨W0, hW0⟩ : ∃ W0, W0 = (w.alloc (.cells #[.int .u64 0, .int .u64 0, .int .u64 0, .bool false] 35)).drew.drew := ⟨_, rfl⟩
  have k0 : Keep noBlock w W0 := by rw [hW0]; exact (((Keep.refl _ w).alloc _).drew).drew
  have o0 : W0.heap[w.heap.size]? = some (.cells #[.int .u64 0, .int .u64 0, .int .u64 0, .bool false] 35 (0, 0)) := by rw [hW0]; exact alloc_new w _
  rw [← hW0]
  refine (HN1.out _ k0).mono ?_
  rintro e w1 ⟨rfl, rfl⟩
  clear hW0
  obtain ⟨hb, hhb⟩ : ∃ hb, hb = w.heap.size := ⟨_, rfl⟩
  rw [← hhb] at o0 ⊢
  have HK0 := hid (And.intro k0 (And.intro o0 hhb))
  have c0 := cell_of o0 0
  clear hhb c0 HN1
  go_wp2_with fail
  refine (HN2.out _ HK0.out.1).mono ?_
  rintro e w2 ⟨rfl, rfl⟩
  clear HN2 k0 o0
  have hqb : q < 18446744073709551616 := by
    have := HE.out.1
    split at this <;> omega
  have HO := (show Hid (∀ C : Array Value, (w2.alloc (.cells C 35)).heap[hb]? = some (.cells #[.int .u64 0, .int .u64 0, .int .u64 0, .bool false] 35 (0, 0))) from fun C => alloc_far HK0.out.2.1 _)
  have HFin := (show Hid (∀ (C : Array Value) (W' : World), W' = (w2.alloc (.cells C 35)).setRow hb #[.int .u64 (Wn : Int), .int .u64 (D : Int), .int .u64 (Z : Int), .bool (decide (0 < sl))] → W'.heap[hb]? = some (.cells #[.int .u64 (Wn : Int), .int .u64 (D : Int), .int .u64 (Z : Int), .bool (decide (0 < sl))] 35 (0, 0)) ∧ Keep noBlock w W') from fun C W' e => by
    refine ⟨by rw [e]; exact setRow_heap _ hb _ _ 35 (0, 0) (alloc_far HK0.out.2.1 _), ?_⟩
    rw [e]
    exact ((HK0.out.1.alloc _)).trans (keep_setRow (Keep.refl (fun j => j = hb) _) hb (fun _ => rfl) _) (fun j hj e => by have := HK0.out.2.2; omega))
  have HOne := hid (show (#[.int .u64 (Wn : Int), .int .u64 (D : Int), .int .u64 (Z : Int), .bool (decide (0 < sl))] : Array Value).all (·.oneCell') = true from all_oneCell_toArray (fun v hv => by simp only [List.mem_cons, List.not_mem_nil, or_false] at hv; rcases hv with rfl | rfl | rfl | rfl <;> rfl))
  have HTl := hid HE.out.2.1
  by_cases h2 : sl = 2
  · have hZ : Z = q + 256 := by rw [HE.out.1, if_pos h2]
    have hZI : (q : Int) + 256 = (Z : Int) := by omega
    have hwZ : IntKind.u64.wrap (Z : Int) = (Z : Int) := by rw [IntKind.wrap_u64]; omega
    have h2b : ((sl : Int) == 2) = true := by simp; omega
    have h2d : decide (sl = 2) = true := decide_eq_true h2
    have hqI : (q : Int) < 18446744073709551616 := by omega
    clear hZ h2
    cases hf : flagB d 5 with
    | true =>
      rw [hf] at H3
      have hWn : (Wn : Int) = max (Z : Int) 1 := by
        have := HE.out.2.2
        rw [hf, if_pos rfl] at this
        omega
      have hmax := maxSem_run .u64 #[33, 33] 33 (Z : Int) 1 (Wn : Int) hWn
      clear hWn HW0
      go_wp2_with fail
      refine (H3.out _).mono ?_
      rintro e w3 ⟨rfl, rfl⟩
      go_wp2_with (refine wpList_store_row rfl 35 (.tmp 4) (.tmp 51) rfl hb #[.int .u64 (Wn : Int), .int .u64 (D : Int), .int .u64 (Z : Int), .bool (decide (0 < sl))] rfl rfl 35 _ (HO.out _) info35s rfl HOne.out ?_)
      obtain ⟨f1, f2⟩ := HFin.out _ _ rfl
      refine bodyPost_ret (results_cell rfl _ _ _ ⟨hb, 0, none⟩ (.agg #[.int .u64 (Wn : Int), .int .u64 (D : Int), .int .u64 (Z : Int), .bool (decide (0 < sl))]) rfl (run_loadVar_row _ _ 35 35 _ (0, 0) _ f1 Tryz.underlying35 rfl info35s)) rfl ?_
      exact ⟨by rw [HTl.out], f2⟩
    | false =>
      rw [hf] at H3
      obtain ⟨hw1, ad, rfl, hcell, hx⟩ := HW0.out hf
      obtain ⟨x, hxe⟩ : ∃ x, x = bs[0]?.getD 0 := ⟨_, rfl⟩
      rw [← hxe] at hcell hx
      have HWo := hid (show ∀ W : World, Calls Tryz.prog 41 #[.int .u8 (x : Int)] W fun e w' => e = .returned (.int .u64 (Wn : Int)) ∧ w' = W from fun W => by
        have := winOf_any x hx W
        have e2 := HE.out.2.2
        rw [hf, if_neg (by simp), ← hxe] at e2
        rw [e2]
        exact this)
      have HCell := hid (show ∀ C : Array Value, (w2.alloc (.cells C 35)).cell? ad = some (.int .u8 (x : Int)) from fun C => (World.cell?_of_block (Below.heap_alloc _ _ _ (World.block_lt_of_cell? w2 ad (keep_cellA HK0.out.1 hcell)))).trans (keep_cellA HK0.out.1 hcell))
      have hcA := HCell.out #[.int .u64 0, .int .u64 (D : Int), .int .u64 (Z : Int), .bool (decide (0 < sl))]
      subst hw1
      clear hxe HW0 hcell
      go_wp2_with fail
      refine (H3.out _).mono ?_
      rintro e w3 ⟨rfl, rfl⟩
      go_wp2_with fail
      refine (HWo.out _).mono ?_
      rintro e w4 ⟨rfl, rfl⟩
      go_wp2_with (refine wpList_store_row rfl 35 (.tmp 4) (.tmp 51) rfl hb #[.int .u64 (Wn : Int), .int .u64 (D : Int), .int .u64 (Z : Int), .bool (decide (0 < sl))] rfl rfl 35 _ (HO.out _) info35s rfl HOne.out ?_)
      obtain ⟨f1, f2⟩ := HFin.out _ _ rfl
      refine bodyPost_ret (results_cell rfl _ _ _ ⟨hb, 0, none⟩ (.agg #[.int .u64 (Wn : Int), .int .u64 (D : Int), .int .u64 (Z : Int), .bool (decide (0 < sl))]) rfl (run_loadVar_row _ _ 35 35 _ (0, 0) _ f1 Tryz.underlying35 rfl info35s)) rfl ?_
      exact ⟨by rw [HTl.out], f2⟩
  · have hZ : Z = q := by rw [HE.out.1, if_neg h2, Nat.add_zero]
    have h2b : ((sl : Int) == 2) = false := by simp; omega
    have h2d : decide (sl = 2) = false := decide_eq_false h2
    subst hZ
    cases hf : flagB d 5 with
    | true =>
      rw [hf] at H3
      have hWn : (Wn : Int) = max (Z : Int) 1 := by
        have := HE.out.2.2
        rw [hf, if_pos rfl] at this
        omega
      have hmax := maxSem_run .u64 #[33, 33] 33 (Z : Int) 1 (Wn : Int) hWn
      clear hWn HW0
      go_wp2_with fail
      refine (H3.out _).mono ?_
      rintro e w3 ⟨rfl, rfl⟩
      go_wp2_with (refine wpList_store_row rfl 35 (.tmp 4) (.tmp 51) rfl hb #[.int .u64 (Wn : Int), .int .u64 (D : Int), .int .u64 (Z : Int), .bool (decide (0 < sl))] rfl rfl 35 _ (HO.out _) info35s rfl HOne.out ?_)
      obtain ⟨f1, f2⟩ := HFin.out _ _ rfl
      refine bodyPost_ret (results_cell rfl _ _ _ ⟨hb, 0, none⟩ (.agg #[.int .u64 (Wn : Int), .int .u64 (D : Int), .int .u64 (Z : Int), .bool (decide (0 < sl))]) rfl (run_loadVar_row _ _ 35 35 _ (0, 0) _ f1 Tryz.underlying35 rfl info35s)) rfl ?_
      exact ⟨by rw [HTl.out], f2⟩
    | false =>
      rw [hf] at H3
      obtain ⟨hw1, ad, rfl, hcell, hx⟩ := HW0.out hf
      obtain ⟨x, hxe⟩ : ∃ x, x = bs[0]?.getD 0 := ⟨_, rfl⟩
      rw [← hxe] at hcell hx
      have HWo := hid (show ∀ W : World, Calls Tryz.prog 41 #[.int .u8 (x : Int)] W fun e w' => e = .returned (.int .u64 (Wn : Int)) ∧ w' = W from fun W => by
        have := winOf_any x hx W
        have e2 := HE.out.2.2
        rw [hf, if_neg (by simp), ← hxe] at e2
        rw [e2]
        exact this)
      have HCell := hid (show ∀ C : Array Value, (w2.alloc (.cells C 35)).cell? ad = some (.int .u8 (x : Int)) from fun C => (World.cell?_of_block (Below.heap_alloc _ _ _ (World.block_lt_of_cell? w2 ad (keep_cellA HK0.out.1 hcell)))).trans (keep_cellA HK0.out.1 hcell))
      have hcA := HCell.out #[.int .u64 0, .int .u64 (D : Int), .int .u64 (Z : Int), .bool (decide (0 < sl))]
      subst hw1
      clear hxe HW0 hcell
      go_wp2_with fail
      refine (H3.out _).mono ?_
      rintro e w3 ⟨rfl, rfl⟩
      go_wp2_with fail
      refine (HWo.out _).mono ?_
      rintro e w4 ⟨rfl, rfl⟩
      go_wp2_with (refine wpList_store_row rfl 35 (.tmp 4) (.tmp 51) rfl hb #[.int .u64 (Wn : Int), .int .u64 (D : Int), .int .u64 (Z : Int), .bool (decide (0 < sl))] rfl rfl 35 _ (HO.out _) info35s rfl HOne.out ?_)
      obtain ⟨f1, f2⟩ := HFin.out _ _ rfl
      refine bodyPost_ret (results_cell rfl _ _ _ ⟨hb, 0, none⟩ (.agg #[.int .u64 (Wn : Int), .int .u64 (D : Int), .int .u64 (Z : Int), .bool (decide (0 < sl))]) rfl (run_loadVar_row _ _ 35 35 _ (0, 0) _ f1 Tryz.underlying35 rfl info35s)) rfl ?_
      exact ⟨by rw [HTl.out], f2⟩
end
end Go.Proofs.YtnjilcokkhodmaaGreatDoor

namespace Go.Proofs.YtnjilcokkhodmaaGreatDoor
open Go.RowKit Go.Shelf
set_option linter.unusedVariables false

def FrAt (w : World) (fb win dic siz : Nat) (told : Bool) (x0 x1 x2 ws : Value) (r0 r1 r2 : Int) (fl : Nat) (last : Bool) (kind bsz : Nat) (out : Value) (bud : Nat) : Prop :=
 w.heap[fb]? = some (.cells (frC win dic siz told x0 x1 x2 ws r0 r1 r2 fl last kind bsz out bud) 44 (0, 0))
section
attribute [local go_sem] minSem_eq
set_option maxHeartbeats 1000000 in
theorem most_any {w : World} {fb win dic siz : Nat} {told : Bool} {x0 x1 x2 ws : Value} {r0 r1 r2 : Int} {fl : Nat} {last : Bool} {kind bsz : Nat} {out : Value} {bud : Nat} (h : FrAt w fb win dic siz told x0 x1 x2 ws r0 r1 r2 fl last kind bsz out bud) (hw : win < 18446744073709551616) :
  Calls Tryz.prog 27 #[.pointer (some ⟨fb, 0, none⟩)] w fun e w' => e = .returned (.int .i64 ((min win 131072 : Nat) : Int)) ∧ w' = w := by
 have c0 : w.cell? ⟨fb, 0, none⟩ = some (.int .u64 (win : Int)) := cell_of h 0
 obtain ⟨m, hm⟩ : ∃ m, m = min win 131072 := ⟨_, rfl⟩
 rw [← hm]
 have hmin := minSem_run .u64 #[33, 33] 33 (win : Int) 131072 (m : Int) (by omega)
 have hmb : (m : Int) ≤ 131072 := by omega
 have hwm : IntKind.i64.wrap (m : Int) = (m : Int) := by rw [IntKind.wrap_i64]; omega
 clear h hm
 go_enter Tryz.func27, Tryz.ntmps27
 go_wp2_with fail
 go_ret
 exact ⟨rfl, rfl⟩
end
set_option maxHeartbeats 1000000 in
theorem judgeHead_any {w : World} {fb win dic siz : Nat} {told : Bool} {x0 x1 x2 ws : Value} {r0 r1 r2 : Int} {fl : Nat} {last : Bool} {kind bsz : Nat} {out : Value} {bud : Nat} (h : FrAt w fb win dic siz told x0 x1 x2 ws r0 r1 r2 fl last kind bsz out bud) (hw : win < 18446744073709551616) (hd : dic < 18446744073709551616) (hb : bud ≤ 16777216) :
  Calls Tryz.prog 25 #[.pointer (some ⟨fb, 0, none⟩)] w fun e w' => e = .returned (.int .i64 ((if dic ≠ 0 then 12 else if bud < win then 40 else 0 : Nat) : Int)) ∧ Keep noBlock w w' := by
 have c0 : w.cell? ⟨fb, 0, none⟩ = some (.int .u64 (win : Int)) := cell_of h 0
 have c1 : w.cell? ⟨fb, 1, none⟩ = some (.int .u64 (dic : Int)) := cell_of h 1
 have c2 : w.cell? ⟨fb, 16, none⟩ = some (.int .u64 (bud : Int)) := cell_of h 16
 clear h
 by_cases h1 : dic ≠ 0
 ·rw [if_pos h1]
  have h1b : ((dic : Int) != 0) = true := by simp; omega
  go_enter Tryz.func25, Tryz.ntmps25
  go_wp2_with fail
  go_ret
  exact ⟨rfl, Keep.refl _ _⟩
 ·rw [if_neg h1]
  have h1e : dic = 0 := by omega
  subst h1e
  by_cases h2 : bud < win
  ·rw [if_pos h2]
   have h2d : decide (bud < win) = true := decide_eq_true h2
   have h2I : (bud : Int) < (win : Int) := by omega
   go_enter Tryz.func25, Tryz.ntmps25
   go_wp2_with fail
   go_region_held3 (fun W => W.cell? ⟨fb, 0, none⟩ = some (.int .u64 (win : Int)) ∧ W.cell? ⟨fb, 16, none⟩ = some (.int .u64 (bud : Int))) (first | exact ⟨c0, c2⟩ | assumption) (fail)
   go_wp2_with fail
   go_ret
   exact ⟨rfl, (Keep.refl _ w).drew⟩
  ·rw [if_neg h2]
   have h2d : decide (bud < win) = false := decide_eq_false h2
   have h2I : ¬ (bud : Int) < (win : Int) := by omega
   go_enter Tryz.func25, Tryz.ntmps25
   go_wp2_with fail
   go_region_held3 (fun W => W.cell? ⟨fb, 0, none⟩ = some (.int .u64 (win : Int)) ∧ W.cell? ⟨fb, 16, none⟩ = some (.int .u64 (bud : Int))) (first | exact ⟨c0, c2⟩ | assumption) (fail)
   go_wp2_with fail
   go_ret
   exact ⟨rfl, (Keep.refl _ w).drew⟩
end Go.Proofs.YtnjilcokkhodmaaGreatDoor

namespace Go.Proofs.YtnjilcokkhodmaaGreatDoor
open Go.RowKit Go.Shelf
set_option linter.unusedVariables false

theorem size3d : (Tryz.prog.info? 3).map (·.size) = some 1 := by kernel_rfl
section
variable {w : World} {fb win dic siz : Nat} {told : Bool} {x0 x1 x2 ws : Value} {r0 r1 r2 : Int} {fl : Nat} {last : Bool} {kind bsz : Nat} {out : Value} {bud : Nat}
set_option maxHeartbeats 1000000 in
theorem meantF (lits : Int) (back : Nat) (h1 : 1 ≤ back) (h2 : back ≤ 9223372036854775807) (hr : r0 ≤ 9223372036854775807) (h : FrAt w fb win dic siz told x0 x1 x2 ws r0 r1 r2 fl last kind bsz out bud) :
  Calls Tryz.prog 73 #[.pointer (some ⟨fb, 8, none⟩), .int .i64 lits, .int .i64 (back : Int)] w fun e w' => e = .returned (.tuple #[.int .i64 (meantD r0 r1 r2 (lits == 0) back), .int .i64 ((meantM r0 (lits == 0) back : Nat) : Int)]) ∧ w' = w := by
 have c0 : w.cell? ⟨fb, 8, none⟩ = some (.int .i64 r0) := cell_of h 8
 have c1 : w.cell? ⟨fb, 9, none⟩ = some (.int .i64 r1) := cell_of h 9
 have c2 : w.cell? ⟨fb, 10, none⟩ = some (.int .i64 r2) := cell_of h 10
 clear h
 by_cases hz : lits = 0
 ·subst hz
  rcases (show back = 1 ∨ back = 2 ∨ back = 3 ∨ 3 < back by omega) with rfl | rfl | rfl | hb
  ·go_enter Tryz.func73, Tryz.ntmps73
   go_wp2_with fail
   go_ret2
   exact ⟨rfl, rfl⟩
  ·go_enter Tryz.func73, Tryz.ntmps73
   go_wp2_with fail
   go_ret2
   exact ⟨rfl, rfl⟩
  ·by_cases hr0 : 1 < r0
   ·have hd : decide (1 < r0) = true := decide_eq_true hr0
    have hs : wrap64 (r0 - 1) = r0 - 1 := by unfold wrap64; omega
    go_enter Tryz.func73, Tryz.ntmps73
    go_wp2_with fail
    go_ret2
    exact ⟨by simp [meantD, meantM, whichN, hr0], rfl⟩
   ·have hd : decide (1 < r0) = false := decide_eq_false hr0
    go_enter Tryz.func73, Tryz.ntmps73
    go_wp2_with fail
    go_ret2
    refine ⟨?_, rfl⟩
    rw [show meantD r0 r1 r2 true 3 = 0 from by unfold meantD; rw [if_neg (by omega), if_neg (by decide), if_neg (by decide), if_neg (by decide), if_neg (by omega)], show meantM r0 true 3 = 0 from by unfold meantM; rw [if_neg (by omega), if_neg (by decide), if_neg (by omega)]]
    rfl
  ·go_enter Tryz.func73, Tryz.ntmps73
   go_wp2_with fail
   go_ret2
   exact ⟨by simp [meantD, meantM, hb], rfl⟩
 ·have hz' : (lits == 0) = false := by simpa using hz
  rcases (show back = 1 ∨ back = 2 ∨ back = 3 ∨ 3 < back by omega) with rfl | rfl | rfl | hb
  ·go_enter Tryz.func73, Tryz.ntmps73
   go_wp2_with fail
   go_ret2
   exact ⟨by rw [hz']; rfl, rfl⟩
  ·go_enter Tryz.func73, Tryz.ntmps73
   go_wp2_with fail
   go_ret2
   exact ⟨by rw [hz']; rfl, rfl⟩
  ·go_enter Tryz.func73, Tryz.ntmps73
   go_wp2_with fail
   go_ret2
   exact ⟨by rw [hz']; rfl, rfl⟩
  ·go_enter Tryz.func73, Tryz.ntmps73
   go_wp2_with fail
   go_ret2
   exact ⟨by simp [meantD, meantM, hb], rfl⟩

theorem copy_repF (m : Nat) (hm : m ≤ 2) (h : FrAt w fb win dic siz told x0 x1 x2 ws r0 r1 r2 fl last kind bsz out bud) :
  ∃ w', (Builtin.copy_ #[152, 152] 3 #[.slice (some ⟨fb, 9, none⟩) m 2, .slice (some ⟨fb, 8, none⟩) m 3]).run Tryz.prog w = .ok (.int .i64 (m : Int)) w' ∧ FrAt w' fb win dic siz told x0 x1 x2 ws (movedR r0 r1 r2 m).1 (movedR r0 r1 r2 m).2.1 (movedR r0 r1 r2 m).2.2 fl last kind bsz out bud ∧ Keep (fun k => k = fb) w w' := by
 have hl : (([.int .i64 r0, .int .i64 r1, .int .i64 r2] : List Value).take m).length = m := by rw [List.length_take]; simp; omega
 have hc := run_copy_row Tryz.prog w 152 152 3 3 fb 9 m 2 ⟨fb, 8, none⟩ m 3 _ 44 (([.int .i64 r0, .int .i64 r1, .int .i64 r2] : List Value).take m) Tryz.underlying152 size3d h (by rw [hl]; show m = min m m; omega)
  (fun j v hv => by
   rw [List.getElem?_take] at hv
   split at hv
   ·rename_i hj
    rw [addO, cell_of h]
    rcases (show j = 0 ∨ j = 1 by omega) with rfl | rfl <;> exact hv
   ·cases hv) (by rw [hl]; show 9 + m ≤ 17; omega) (fun v hv => by
    have := List.mem_of_mem_take hv
    simp at this
    rcases this with rfl | rfl | rfl <;> rfl)
 rw [show goInt (([.int .i64 r0, .int .i64 r1, .int .i64 r2] : List Value).take m).length = .int .i64 (m : Int) from by rw [hl]; rfl, hl] at hc
 refine ⟨_, hc, ?_, keep_setRow (Keep.refl (fun k => k = fb) w) fb (fun _ => rfl) _⟩
 refine (setRow_heap w fb _ _ 44 (0, 0) h).trans ?_
 rcases (show m = 0 ∨ m = 1 ∨ m = 2 by omega) with rfl | rfl | rfl <;> rfl
end
theorem slice_hiF (b m : Nat) (hm : m ≤ 2) (W : World) : (sliceAtSem 39 (.pointer (some ⟨b, 8, none⟩)) (some (.int .i64 1)) (some (.int .i64 ((m : Int) + 1))) none).run Tryz.prog W = .ok (.slice (some ⟨b, 9, none⟩) m 2) W := by
 rcases (show m = 0 ∨ m = 1 ∨ m = 2 by omega) with rfl | rfl | rfl <;> kernel_rfl
theorem slice_loF (b m : Nat) (hm : m ≤ 2) (W : World) : (sliceAtSem 39 (.pointer (some ⟨b, 8, none⟩)) none (some (.int .i64 (m : Int))) none).run Tryz.prog W = .ok (.slice (some ⟨b, 8, none⟩) m 3) W := by
 rcases (show m = 0 ∨ m = 1 ∨ m = 2 by omega) with rfl | rfl | rfl <;> kernel_rfl
theorem FrAt.keep {w w' : World} {S : Nat → Prop} {fb win dic siz : Nat} {told : Bool} {x0 x1 x2 ws : Value} {r0 r1 r2 : Int} {fl : Nat} {last : Bool} {kind bsz : Nat} {out : Value} {bud : Nat} (h : FrAt w fb win dic siz told x0 x1 x2 ws r0 r1 r2 fl last kind bsz out bud) (hk : Keep S w w') (h1 : ¬ S fb) : FrAt w' fb win dic siz told x0 x1 x2 ws r0 r1 r2 fl last kind bsz out bud := hk.obj h h1

section
attribute [local go_sem] sliceAtSem_eq
variable {w : World} {fb win dic siz : Nat} {told : Bool} {x0 x1 x2 ws : Value} {r0 r1 r2 : Int} {fl : Nat} {last : Bool} {kind bsz : Nat} {out : Value} {bud : Nat}
set_option maxHeartbeats 1000000 in
theorem valueF_bad (lits : Int) (back : Nat) (h1 : 1 ≤ back) (h2 : back ≤ 9223372036854775807) (hr : r0 ≤ 9223372036854775807) (hd : meantD r0 r1 r2 (lits == 0) back < 1) (h : FrAt w fb win dic siz told x0 x1 x2 ws r0 r1 r2 fl last kind bsz out bud) :
  Calls Tryz.prog 54 #[.pointer (some ⟨fb, 8, none⟩), .int .i64 lits, .int .i64 (back : Int)] w fun e w' => e = .returned (.tuple #[.int .i64 0, .int .i64 11]) ∧ w' = w := by
 have HM := hid (meantF lits back h1 h2 hr h)
 generalize meantM r0 (lits == 0) back = m at *
 generalize meantD r0 r1 r2 (lits == 0) back = d at *
 have hd1 : decide (d < 1) = true := decide_eq_true (by omega)
 have hb1 : decide ((back : Int) < 1) = false := decide_eq_false (by omega)
 clear h
 go_enter Tryz.func54, Tryz.ntmps54
 go_wp2_with fail
 refine HM.out.mono ?_
 rintro e w' ⟨rfl, rfl⟩
 go_wp2_with fail
 go_ret2
 exact ⟨rfl, rfl⟩
set_option maxHeartbeats 1000000 in
theorem valueF_ok (lits : Int) (back : Nat) (h1 : 1 ≤ back) (h2 : back ≤ 9223372036854775807) (hr : r0 ≤ 9223372036854775807) (hd : 1 ≤ meantD r0 r1 r2 (lits == 0) back) (h : FrAt w fb win dic siz told x0 x1 x2 ws r0 r1 r2 fl last kind bsz out bud) :
  Calls Tryz.prog 54 #[.pointer (some ⟨fb, 8, none⟩), .int .i64 lits, .int .i64 (back : Int)] w fun e w' => e = .returned (.tuple #[.int .i64 (meantD r0 r1 r2 (lits == 0) back), .int .i64 0]) ∧
   FrAt w' fb win dic siz told x0 x1 x2 ws (meantD r0 r1 r2 (lits == 0) back) (movedR r0 r1 r2 (meantM r0 (lits == 0) back)).2.1 (movedR r0 r1 r2 (meantM r0 (lits == 0) back)).2.2 fl last kind bsz out bud ∧ Keep (fun k => k = fb) w w' := by
 have HM := hid (meantF lits back h1 h2 hr h)
 have hm := meantM_le r0 (lits == 0) back
 obtain ⟨W1, hW1⟩ : ∃ W1, W1 = w.drew := ⟨_, rfl⟩
 have hk1 : Keep noBlock w W1 := by rw [hW1]; exact (Keep.refl _ w).drew
 have q1 := h.keep hk1 (fun h => h)
 generalize meantM r0 (lits == 0) back = m at *
 generalize meantD r0 r1 r2 (lits == 0) back = d at *
 obtain ⟨W2, hc, q2, hk2⟩ := copy_repF m hm q1
 have f2 : W2.cell? ⟨fb, 8, none⟩ = some (.int .i64 (movedR r0 r1 r2 m).1) := cell_of q2 8
 have z2 : W2.frozen? ⟨fb, 8, none⟩ = false := frozen_of q2 8
 have HF := (show Hid (FrAt (W2.setCell ⟨fb, 8, none⟩ (.int .i64 d)) fb win dic siz told x0 x1 x2 ws d (movedR r0 r1 r2 m).2.1 (movedR r0 r1 r2 m).2.2 fl last kind bsz out bud ∧ Keep (fun k => k = fb) w (W2.setCell ⟨fb, 8, none⟩ (.int .i64 d))) from
  ⟨set_obj q2 8 _, ((hk1.mono (T := fun k => k = fb) (fun _ _ h => h.elim)).trans hk2 (fun _ _ h => h)).setCell (p := ⟨fb, 8, none⟩) (fun _ => rfl) _⟩)
 have hd1 : decide (d < 1) = false := decide_eq_false (by omega)
 have hb1 : decide ((back : Int) < 1) = false := decide_eq_false (by omega)
 have hm1 : IntKind.i64.wrap ((m : Int) + 1) = (m : Int) + 1 := by
  rcases (show m = 0 ∨ m = 1 ∨ m = 2 by omega) with rfl | rfl | rfl <;> rfl
 have hs1 := slice_hiF fb m hm
 have hs2 := slice_loF fb m hm
 have hmw : wrap64 ((m : Int) + 1) = (m : Int) + 1 := by unfold wrap64; omega
 clear q1 q2 hk2 hk1 h hd hm
 go_enter Tryz.func54, Tryz.ntmps54
 go_wp2_with fail
 refine HM.out.mono ?_
 rintro e w' ⟨rfl, rfl⟩
 go_wp2_with fail
 refine region_tail 9 mx (by kernel_rfl) ?_
 rw [← hW1]
 clear hW1
 simp only [List.take_succ_cons, List.take_zero, List.drop_succ_cons, List.drop_zero]
 repeat (quiet_step (fail))
 refine wpQuiet_nil ?_
 go_wp2_with fail
 go_ret2
 exact ⟨rfl, HF.out⟩
end
end Go.Proofs.YtnjilcokkhodmaaGreatDoor

namespace Go.Proofs.YtnjilcokkhodmaaGreatDoor
open Go.RowKit Go.Shelf
set_option linter.unusedVariables false

def behE (n siz : Nat) (told last : Bool) : Nat := if 16777216 < n then 3 else if told = true ∧ siz < n then 11 else if told = true ∧ last = true ∧ n < siz then 11 else 0
def behD (n siz : Nat) (told : Bool) : Bool := decide (16777216 < n) || (told && decide (siz < n))
theorem FrAt.out_set {w : World} {fb win dic siz : Nat} {told : Bool} {x0 x1 x2 ws : Value} {r0 r1 r2 : Int} {fl : Nat} {last : Bool} {kind bsz : Nat} {out : Value} {bud : Nat} (h : FrAt w fb win dic siz told x0 x1 x2 ws r0 r1 r2 fl last kind bsz out bud) (v : Value) : FrAt (w.setCell ⟨fb, 15, none⟩ v) fb win dic siz told x0 x1 x2 ws r0 r1 r2 fl last kind bsz v bud :=
 set_obj h 15 v
section
attribute [local go_sem] sliceSem_eq
set_option maxRecDepth 100000 in
set_option maxHeartbeats 4000000 in
theorem behind_block {w : World} {fb win dic siz : Nat} {told : Bool} {x0 x1 x2 ws : Value} {r0 r1 r2 : Int} {fl : Nat} {last : Bool} {kind bsz : Nat} {oa : Option Addr} {n oc : Nat} {bud : Nat} (h : FrAt w fb win dic siz told x0 x1 x2 ws r0 r1 r2 fl last kind bsz (.slice oa n oc) bud) (hs : siz < 18446744073709551616) (hn : n ≤ 1073741824) (ah : Nat) (hah : ah ≤ n) (hoc : n ≤ oc) :
    Calls Tryz.prog 16 #[.pointer (some ⟨fb, 0, none⟩), .int .i64 (ah : Int)] w fun e w' => e = .returned (.int .i64 ((behE n siz told last : Nat) : Int)) ∧ FrAt w' fb win dic siz told x0 x1 x2 ws r0 r1 r2 fl last kind bsz (.slice oa (if behD n siz told then ah else n) oc) bud ∧ Keep (fun k => k = fb) w w' := by
  have c2 : w.cell? ⟨fb, 2, none⟩ = some (.int .u64 (siz : Int)) := cell_of h 2
  have c3 : w.cell? ⟨fb, 3, none⟩ = some (.bool told) := cell_of h 3
  have c12 : w.cell? ⟨fb, 12, none⟩ = some (.bool last) := cell_of h 12
  have c15 : w.cell? ⟨fb, 15, none⟩ = some (.slice oa n oc) := cell_of h 15
  have f15 : w.frozen? ⟨fb, 15, none⟩ = false := frozen_of h 15
  have hsl := run_high5 oa n oc ah (by omega)
  have hwn : IntKind.u64.wrap (n : Int) = (n : Int) := by rw [IntKind.wrap_u64]; omega
  have hnb : (n : Int) ≤ 1073741824 := by omega
  have hkk := (Keep.refl (fun k => k = fb) w).setCell (p := ⟨fb, 15, none⟩) (fun _ => rfl) (.slice oa ah oc)
  have HF := hid (And.intro (h.out_set (.slice oa ah oc)) hkk)
  have HH := hid h
  have hahn : (ah : Int) ≤ (n : Int) := by omega
  obtain ⟨m, hm⟩ : ∃ m, m = if behD n siz told then ah else n := ⟨_, rfl⟩
  obtain ⟨E, hE⟩ : ∃ E, E = behE n siz told last := ⟨_, rfl⟩
  rw [← hm, ← hE]
  clear h hkk
  by_cases h1 : 16777216 < n
  · obtain ⟨hx1, hx2⟩ : behE n siz told last = 3 ∧ behD n siz told = true := ⟨if_pos h1, by unfold behD; rw [decide_eq_true h1]; rfl⟩
    rw [hx1] at hE
    rw [hx2] at hm
    subst hE
    obtain rfl : m = ah := hm
    clear hx1 hx2
    have h1I : (16777216 : Int) < (n : Int) := by omega
    have h1d : decide (16777216 < n) = true := decide_eq_true h1
    go_enter Tryz.func16, Tryz.ntmps16
    go_wp2_with fail
    go_ret
    exact ⟨rfl, HF.out.1, HF.out.2⟩
  · have h1I : ¬ (16777216 : Int) < (n : Int) := by omega
    have h1d : decide (16777216 < n) = false := decide_eq_false h1
    cases told with
    | false =>
      obtain ⟨hx1, hx2⟩ : behE n siz false last = 0 ∧ behD n siz false = false := ⟨by unfold behE; simp [h1], by unfold behD; rw [h1d]; rfl⟩
      rw [hx1] at hE
      rw [hx2] at hm
      subst hE
      have hmn : m = n := hm
      rw [hmn]
      clear hmn hm
      clear hx1 hx2
      go_enter Tryz.func16, Tryz.ntmps16
      go_wp2_with fail
      go_ret
      exact ⟨rfl, HH.out, Keep.refl _ _⟩
    | true =>
      by_cases h2 : siz < n
      · obtain ⟨hx1, hx2⟩ : behE n siz true last = 11 ∧ behD n siz true = true := ⟨by unfold behE; rw [if_neg h1, if_pos ⟨rfl, h2⟩], by unfold behD; rw [decide_eq_true h2]; simp⟩
        rw [hx1] at hE
        rw [hx2] at hm
        subst hE
        obtain rfl : m = ah := hm
        clear hx1 hx2
        have h2d : decide (siz < n) = true := decide_eq_true h2
        have h2I : (siz : Int) < (n : Int) := by omega
        go_enter Tryz.func16, Tryz.ntmps16
        go_wp2_with fail
        go_ret
        exact ⟨rfl, HF.out.1, HF.out.2⟩
      · have h2d : decide (siz < n) = false := decide_eq_false h2
        have h2I : ¬ (siz : Int) < (n : Int) := by omega
        have hD : behD n siz true = false := by unfold behD; rw [h1d, h2d]; rfl
        cases last with
        | false =>
          obtain ⟨hx1, hx2⟩ : behE n siz true false = 0 ∧ behD n siz true = false := ⟨by unfold behE; simp [h1, h2], hD⟩
          rw [hx1] at hE
          rw [hx2] at hm
          subst hE
          have hmn : m = n := hm
          rw [hmn]
          clear hmn hm
          clear hx1 hx2
          go_enter Tryz.func16, Tryz.ntmps16
          go_wp2_with fail
          go_ret
          exact ⟨rfl, HH.out, Keep.refl _ _⟩
        | true =>
          by_cases h3 : n < siz
          · obtain ⟨hx1, hx2⟩ : behE n siz true true = 11 ∧ behD n siz true = false := ⟨by unfold behE; simp [h1, h2, h3], hD⟩
            rw [hx1] at hE
            rw [hx2] at hm
            subst hE
            have hmn : m = n := hm
            rw [hmn]
            clear hmn hm
            clear hx1 hx2
            have h3d : decide (n < siz) = true := decide_eq_true h3
            have h3I : (n : Int) < (siz : Int) := by omega
            go_enter Tryz.func16, Tryz.ntmps16
            go_wp2_with fail
            go_ret
            exact ⟨rfl, HH.out, Keep.refl _ _⟩
          · obtain ⟨hx1, hx2⟩ : behE n siz true true = 0 ∧ behD n siz true = false := ⟨by unfold behE; simp [h1, h2, h3], hD⟩
            rw [hx1] at hE
            rw [hx2] at hm
            subst hE
            have hmn : m = n := hm
            rw [hmn]
            clear hmn hm
            clear hx1 hx2
            have h3d : decide (n < siz) = false := decide_eq_false h3
            have h3I : ¬ (n : Int) < (siz : Int) := by omega
            go_enter Tryz.func16, Tryz.ntmps16
            go_wp2_with fail
            go_ret
            exact ⟨rfl, HH.out, Keep.refl _ _⟩
end
end Go.Proofs.YtnjilcokkhodmaaGreatDoor
