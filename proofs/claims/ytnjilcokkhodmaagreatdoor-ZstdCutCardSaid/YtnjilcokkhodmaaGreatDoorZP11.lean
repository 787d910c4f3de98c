/-
 tellByTurns: weights that two states tell by turns.
-/
import Derived.Test.YtnjilcokkhodmaaGreatDoorZP7
import Derived.Test.YtnjilcokkhodmaaGreatDoorZP9
namespace Go.Proofs.YtnjilcokkhodmaaGreatDoor
open Go.RowKit Go.Shelf
set_option linter.unusedVariables false

def turnsF (sy bi ba : Nat → Nat) (bs : List Nat) : Nat → Nat → Nat → Nat → Option (List Nat)
 | 0, _, _, _ => none
 | f + 1, own, other, q => if Tl.tailLen bs < q + bi own then some [sy own, sy other] else (turnsF sy bi ba bs f other (ba own + strm bs q (bi own)) (q + bi own)).map (sy own :: ·)
theorem turnsF_succ (sy bi ba : Nat → Nat) (bs : List Nat) (f own other q : Nat) : turnsF sy bi ba bs (f + 1) own other q = if Tl.tailLen bs < q + bi own then some [sy own, sy other] else (turnsF sy bi ba bs f other (ba own + strm bs q (bi own)) (q + bi own)).map (sy own :: ·) := rfl
theorem turnsF_len {sy bi ba : Nat → Nat} {bs : List Nat} : ∀ (f own other q : Nat) (M : List Nat), turnsF sy bi ba bs f own other q = some M → M.length ≤ f + 1 ∧ 2 ≤ M.length := by
  intro f
  induction f with
  | zero => intro own other q M h; cases h
  | succ f ih =>
    intro own other q M h
    unfold turnsF at h
    split at h
    · cases h; simp
    · obtain ⟨M', h1, rfl⟩ := Option.map_eq_some_iff.1 h
      have := ih _ _ _ _ h1
      simp; omega
theorem turnsF_more {sy bi ba : Nat → Nat} {bs : List Nat} (d : Nat) : ∀ (f own other q : Nat) (M : List Nat), turnsF sy bi ba bs f own other q = some M ↔ turnsF sy bi ba bs (f + d) own other q = some M ∧ M.length ≤ f + 1 := by
  intro f
  induction f with
  | zero =>
    intro own other q M
    constructor
    · intro h; cases h
    · rintro ⟨h, hl⟩
      have := (turnsF_len _ _ _ _ _ h).2
      omega
  | succ f ih =>
    intro own other q M
    rw [show f + 1 + d = (f + d) + 1 from by omega]
    unfold turnsF
    split
    · constructor
      · intro h; exact ⟨h, by cases h; simp⟩
      · exact fun h => h.1
    · constructor
      · intro h
        obtain ⟨M', h1, rfl⟩ := Option.map_eq_some_iff.1 h
        obtain ⟨h2, h3⟩ := (ih _ _ _ _).1 h1
        exact ⟨by rw [h2]; rfl, by simp; omega⟩
      · rintro ⟨h, hl⟩
        obtain ⟨M', h1, rfl⟩ := Option.map_eq_some_iff.1 h
        rw [(ih _ _ _ _).2 ⟨h1, by simp at hl; omega⟩]
        rfl

def Within (bi ba : Nat → Nat) (S : Nat) : Prop := ∀ i, i < S → bi i ≤ 12 ∧ ba i + 2 ^ bi i ≤ S
theorem within_next {bi ba : Nat → Nat} {S : Nat} (h : Within bi ba S) (bs : List Nat) (q i : Nat) (hi : i < S) : ba i + strm bs q (bi i) < S := by
 have := h i hi
 have := strm_lt bs q (bi i)
 omega
theorem run_index123 (a b : Int) (i : Nat) (hi : i < 2) (w : World) : (Instr.index 218 (.agg #[.int .u64 a, .int .u64 b]) (.int .i64 (i : Int))).run Tryz.prog w = .ok (.int .u64 (if i = 0 then a else b)) w := by
 have ha : ∀ w, (isAgg 33).run Tryz.prog w = .ok false w := by intro w; kernel_rfl
 have hs : ∀ w, (Go.sizeOf 33).run Tryz.prog w = .ok 1 w := by intro w; kernel_rfl
 rcases (show i = 0 ∨ i = 1 by omega) with rfl | rfl
 ·simp [Instr.index, run_underlying Tryz.underlying218, asIntOf, part, ha, hs]
 ·simp [Instr.index, run_underlying Tryz.underlying218, asIntOf, part, ha, hs]

theorem ownBlock_lt {W : World} {v : Value} {M : List Nat} (h : W.ownsRow 0 5 1 v M.length (u8s M)) {k : Nat} (e : v.ownBlock = some k) : k < W.heap.size := by
 rcases h.2 with ⟨e0, h0⟩ | ⟨g, cap, cur, rfl, hb, hg, hr⟩
 ·rw [e0] at e; cases e
 ·obtain rfl : g = k := by simpa [Value.ownBlock] using e
  exact obj_lt hg
/-- What tellByTurns has, when q bits are read and M are told: the two states lie in block pb. -/
structure Tu (w : World) (rb g : Nat) (bs : List Nat) (tg S : Nat) (sy bi ba : Nat → Nat) (pb q p0 p1 : Nat) (M : List Nat) (sa : Option Addr) (sn sc : Nat) (W : World) : Prop where
 at_ : At W rb g bs q
 tab : RowT W tg S sy bi ba
 pair : W.heap[pb]? = some (.cells #[.int .u64 (p0 : Int), .int .u64 (p1 : Int)] 218 (0, 0))
 lt0 : p0 < S
 lt1 : p1 < S
 owns : W.ownsRow 0 5 1 (.slice sa sn sc) M.length (u8s M)
 len : sn = M.length
 new : ∀ k, (Value.slice sa sn sc).ownBlock = some k → w.heap.size ≤ k ∧ k ≠ pb
 keep : Keep (fun k => k = rb) w W
 bits : q ≤ 24 + 12 * M.length
 few : M.length ≤ 254

def toldT (sy bi ba : Nat → Nat) (bs : List Nat) (l : Nat) : Option (List Nat) := if Tl.tailLen bs < l + l then none else turnsF sy bi ba bs 254 (strm bs 0 l) (strm bs l l) (l + l)
def TurnPost (T : Option (List Nat)) (rb : Nat) (w : World) (e : Ending) (w' : World) : Prop :=
 Keep (fun k => k = rb) w w' ∧ match T with
  | none => e = .returned (.tuple #[.slice none 0 0, .bool false])
  | some M => ∃ v, e = .returned (.tuple #[v, .bool true]) ∧ w'.ownsRow 0 5 1 v M.length (u8s M) ∧ ∀ k, v.ownBlock = some k → w.heap.size ≤ k
theorem turn_none {T : Option (List Nat)} {rb : Nat} {w w' : World} (h : T = none) (hk : Keep (fun k => k = rb) w w') : TurnPost T rb w (.returned (.tuple #[.slice none 0 0, .bool false])) w' := by subst h; exact ⟨hk, rfl⟩
theorem turn_some {T : Option (List Nat)} {M : List Nat} {v : Value} {rb : Nat} {w w' : World} (h : T = some M) (hk : Keep (fun k => k = rb) w w') (ho : w'.ownsRow 0 5 1 v M.length (u8s M)) (hn : ∀ k, v.ownBlock = some k → w.heap.size ≤ k) : TurnPost T rb w (.returned (.tuple #[v, .bool true])) w' := by subst h; exact ⟨hk, v, rfl, ho, hn⟩

set_option maxRecDepth 100000 in
set_option maxHeartbeats 8000000 in
theorem turns_any (rb g : Nat) (bs : List Nat) (tg tcap S l : Nat) (sy bi ba : Nat → Nat) (w : World) (hR : At w rb g bs 0) (hT : RowT w tg S sy bi ba) (hSl : S = 2 ^ l) (hl : l ≤ 12) (hW : Within bi ba S) (hsy : ∀ i, i < S → sy i < 256) (htg : tg ≠ rb) (hTl : Tl.tailLen bs < 1125899906842624) :
  Calls Tryz.prog 100 #[.pointer (some ⟨rb, 0, none⟩), .slice (some ⟨tg, 0, none⟩) S tcap, .int .i64 (l : Int)] w fun e w' => TurnPost (toldT sy bi ba bs l) rb w e w' := by
 have hSb : S ≤ 4096 := by rw [hSl]; exact Nat.pow_le_pow_right (n := 2) (j := 12) (by omega) hl
 have hst0 : strm bs 0 l < S := by rw [hSl]; exact strm_lt _ _ _
 have hst1 : strm bs l l < S := by rw [hSl]; exact strm_lt _ _ _
 have HH := (show Hid (RowT w tg S sy bi ba ∧ Within bi ba S ∧ (∀ i, i < S → sy i < 256) ∧ tg ≠ rb ∧ At w rb g bs 0 ∧ Tl.tailLen bs < 1125899906842624) from ⟨hT, hW, hsy, htg, hR, hTl⟩)
 have HB1 := (show Hid (Calls Tryz.prog 68 #[.pointer (some ⟨rb, 0, none⟩), .int .i64 (l : Int)] w fun e W' => e = .returned (.int .u64 ((strm bs 0 l : Nat) : Int)) ∧ At W' rb g bs (0 + l) ∧ Keep (fun k => k = rb) w W') from hR.bits l (by omega) (by omega))
 have hlI : (l : Int) ≤ 12 := by omega
 have hrbw : rb < w.heap.size ∧ g < w.heap.size := by
  obtain ⟨sa, cp, _, ho⟩ := hR.is.obj
  exact ⟨obj_lt ho, hR.is.lt⟩
 have HZ := (show Hid (rb < w.heap.size ∧ g < w.heap.size ∧ tg < w.heap.size) from ⟨hrbw.1, hrbw.2, hT.lt⟩)
 clear hR hT hW hsy htg hTl hrbw hSl
 go_enter Tryz.func100, Tryz.ntmps100
 go_wp2_with fail
 refine wp_scope_straight ?_
 go_wp2_with (fail)
 refine HB1.out.mono ?_
 rintro e w1 ⟨rfl, hA1, hK1⟩
 rw [Nat.zero_add] at hA1
 have HB2 := (show Hid (Calls Tryz.prog 68 #[.pointer (some ⟨rb, 0, none⟩), .int .i64 (l : Int)] w1 fun e W' => e = .returned (.int .u64 ((strm bs l l : Nat) : Int)) ∧ At W' rb g bs (l + l) ∧ Keep (fun k => k = rb) w1 W') from hA1.bits l (by omega) (by omega))
 clear hA1
 go_wp2_with fail
 refine HB2.out.mono ?_
 rintro e w2 ⟨rfl, hA2, hK2⟩
 generalize hs0 : strm bs 0 l = s0 at *
 generalize hs1 : strm bs l l = s1 at *
 obtain ⟨pb, hpb⟩ : ∃ pb, pb = w2.heap.size := ⟨_, rfl⟩
 have hkA : Keep noBlock w2 (w2.alloc (.cells #[.int .u64 (s0 : Int), .int .u64 (s1 : Int)] 218)) := (Keep.refl _ w2).alloc _
 have hK02 : Keep (fun k => k = rb) w w2 := hK1.trans hK2 (fun _ _ h => h)
 have hz := HZ.out
 have hT0 : Tu w rb g bs tg S sy bi ba pb (l + l) s0 s1 [] none 0 0 (w2.alloc (.cells #[.int .u64 (s0 : Int), .int .u64 (s1 : Int)] 218)) :=
  ⟨hA2.keep hkA (fun h => h) (fun h => h), (HH.out.1.keep hK02 (by have := HH.out.2.2.2.1; exact this)).keep hkA (fun h => h), by rw [hpb]; exact World.alloc_heap_new w2 _, hst0, hst1, World.ownsRow_nil _ _ _ _, rfl, (fun k e => by cases e), hK02.trans hkA (fun _ _ h => h.elim), by simp; omega, by simp⟩
 have hszp : w.heap.size ≤ pb := by rw [hpb]; exact hK02.size
 have HLf := (show Hid (Calls Tryz.prog 72 #[.pointer (some ⟨rb, 0, none⟩)] (w2.alloc (.cells #[.int .u64 (s0 : Int), .int .u64 (s1 : Int)] 218)) fun e W' => e = .returned (.int .i64 (((Tl.tailLen bs : Nat) : Int) - ((l + l : Nat) : Int))) ∧ ∃ n, W' = (w2.alloc (.cells #[.int .u64 (s0 : Int), .int .u64 (s1 : Int)] 218)).drewN n) from hT0.at_.left)
 have HT0 := (show Hid (Tu w rb g bs tg S sy bi ba pb (l + l) s0 s1 [] none 0 0 (w2.alloc (.cells #[.int .u64 (s0 : Int), .int .u64 (s1 : Int)] 218)) ∧ w.heap.size ≤ pb) from ⟨hT0, hszp⟩)
 have HPB := (show Hid (pb = w2.heap.size) from hpb)
 clear hA2 hkA hK02 hT0 hszp hK1 hK2 hpb hz HB1 HB2
 go_wp2_with fail
 refine HLf.out.mono ?_
 rintro e w3 ⟨rfl, q3, rfl⟩
 clear HLf
 rw [← HPB.out]
 have HT1 := (show Hid (Tu w rb g bs tg S sy bi ba pb (l + l) s0 s1 [] none 0 0 ((w2.alloc (.cells #[.int .u64 (s0 : Int), .int .u64 (s1 : Int)] 218)).drewN q3) ∧ w.heap.size ≤ pb) from by
  obtain ⟨h, h2⟩ := HT0.out
  exact ⟨⟨h.at_.drewN q3, h.tab.keep (keep_drewN _ q3) (fun h => h), h.pair, h.lt0, h.lt1, h.owns, h.len, h.new, h.keep.trans (keep_drewN _ q3) (fun _ _ h => h.elim), h.bits, h.few⟩, h2⟩)
 clear HT0 HPB
 generalize (w2.alloc (.cells #[.int .u64 (s0 : Int), .int .u64 (s1 : Int)] 218)).drewN q3 = W3 at *
 obtain ⟨z, hz⟩ : ∃ z : Int, z = ((Tl.tailLen bs : Nat) : Int) - ((l + l : Nat) : Int) := ⟨_, rfl⟩
 rw [← hz]
 have hzb : -1000000 < z ∧ z < 1125899906842624 := by have := HH.out.2.2.2.2.2; omega
 by_cases hsh : Tl.tailLen bs < l + l
 ·have hzn : z < 0 := by omega
  clear hz
  go_wp2_with fail
  go_ret2
  exact turn_none (if_pos hsh) HT1.out.1.keep
 ·have hzn : ¬ z < 0 := by omega
  clear hz
  have hTT0 : toldT sy bi ba bs l = turnsF sy bi ba bs 254 s0 s1 (l + l) := by unfold toldT; rw [if_neg hsh, hs0, hs1]
  have HTT := (show Hid (toldT sy bi ba bs l = turnsF sy bi ba bs 254 s0 s1 (l + l)) from hTT0)
  clear hs0 hs1 hTT0
  go_wp2_with fail
  refine wp_label ?_
  go_wp2_with fail
  have HM0 := (show Hid (Tu w rb g bs tg S sy bi ba pb (l + l) s0 s1 [] none 0 0 W3 ∧ toldT sy bi ba bs l = (turnsF sy bi ba bs (254 - 0) s0 s1 (l + l)).map ([] ++ ·)) from ⟨HT1.out.1, by rw [HTT.out]; simp⟩)
  have HPW := (show Hid (w.heap.size ≤ pb) from HT1.out.2)
  clear HT1 HTT hst0 hst1
  go_loopw [9] (fun v9 wr => ∃ (q p0 p1 : Nat) (M : List Nat) (sa : Option Addr) (sn sc : Nat), v9 = .slice sa sn sc ∧ Hid (Tu w rb g bs tg S sy bi ba pb q p0 p1 M sa sn sc wr ∧ toldT sy bi ba bs l = (turnsF sy bi ba bs (254 - M.length) p0 p1 q).map (M ++ ·))) (fun v9 _ => 255 - sliceLen v9)
  case atStart => exact ⟨_, _, _, _, _, _, _, rfl, HM0.out⟩
  case round =>
   clear HM0
   obtain ⟨q, p0, p1, M, sa, sn, sc, rfl, HC⟩ := hrel
   have hp0 : wr.cell? ⟨pb, 0, none⟩ = some (.int .u64 (p0 : Int)) := cell_of HC.out.1.pair 0
   have hp1 : wr.cell? ⟨pb, 1, none⟩ = some (.int .u64 (p1 : Int)) := cell_of HC.out.1.pair 1
   go_wp2_with fail
   clear hp0 hp1
   go_loopw [9, 24] (fun v9 v24 wi => ∃ (i q' a0 a1 : Nat) (M' : List Nat) (sa' : Option Addr) (sn' sc' : Nat), v9 = .slice sa' sn' sc' ∧ v24 = .int .i64 (i : Int) ∧ i ≤ 2 ∧ Hid (Tu w rb g bs tg S sy bi ba pb q' a0 a1 M' sa' sn' sc' wi ∧ toldT sy bi ba bs l = (turnsF sy bi ba bs (254 - M'.length) (if i = 1 then a1 else a0) (if i = 1 then a0 else a1) q').map (M' ++ ·) ∧ (i = 0 → a0 = p0) ∧ (i ≤ 1 → a1 = p1) ∧ M'.length = M.length + i)) (fun _ v24 _ => 2 - (intOf v24).toNat)
   case atStart => exact ⟨0, q, p0, p1, M, sa, sn, sc, rfl, rfl, by omega, HC.out.1, HC.out.2, fun _ => rfl, fun _ => rfl, rfl⟩
   case round =>
    obtain ⟨i, q', a0, a1, M', sa', sn', sc', rfl, rfl, hi, HD⟩ := hrel
    by_cases hi2 : i < 2
    ·have hiI : (i : Int) < 2 := by omega
     have hidx := run_index123 (p0 : Int) (p1 : Int) i hi2
     obtain ⟨own, hown⟩ : ∃ own, own = if i = 0 then p0 else p1 := ⟨_, rfl⟩
     have hoI : (if i = 0 then (p0 : Int) else (p1 : Int)) = (own : Int) := by rw [hown]; split <;> rfl
     rw [hoI] at hidx
     obtain ⟨oth, hoth⟩ : ∃ oth, oth = if i = 0 then a1 else a0 := ⟨_, rfl⟩
     obtain ⟨hU, hT, ha0, ha1, hM⟩ := HD.out
     have hown' : own = if i = 0 then a0 else a1 := by
      rw [hown]
      by_cases e : i = 0
      ·rw [if_pos e, if_pos e, ha0 e]
      ·rw [if_neg e, if_neg e, ha1 (by omega)]
     have hoS : own < S ∧ oth < S := by
      rw [hown', hoth]
      have := hU.lt0; have := hU.lt1
      constructor <;> split <;> assumption
     obtain ⟨c1, c2, c3⟩ := hU.tab.cells own hoS.1
     have hsn := hU.len
     subst hsn
     have hfew := hU.few
     have hoSI : (own : Int) < (S : Int) := by omega
     have hs256 := HH.out.2.2.1 own hoS.1
     obtain ⟨hb12, hbs⟩ := HH.out.2.1 own hoS.1
     have HT2 := (show Hid (Tu w rb g bs tg S sy bi ba pb q' a0 a1 M' sa' M'.length sc' wr ∧ toldT sy bi ba bs l = (turnsF sy bi ba bs (254 - M'.length) own oth q').map (M' ++ ·)) from ⟨hU, hT.trans (by
      rw [hown', hoth]
      rcases (show i = 0 ∨ i = 1 by omega) with rfl | rfl <;> simp)⟩)
     have hSI : (S : Int) ≤ 4096 := by omega
     have hnI : (M'.length : Int) ≤ 254 := by omega
     by_cases h254 : M'.length = 254
     ·have h254I : (M'.length : Int) = 254 := by omega
      have HN := (show Hid (M'.length = 254) from h254)
      clear hU hT ha0 ha1 hM hown' hown hoth hoI c1 c2 c3
      go_wp2_with fail
      simp only [Exit.noGoto]
      go_ret2
      obtain ⟨h1, h2⟩ := HT2.out
      refine turn_none ?_ h1.keep
      rw [h2, HN.out]; rfl
     ·have h254I : ¬ (M'.length : Int) = 254 := by omega
      obtain ⟨f, hf⟩ : ∃ f, 254 - M'.length = f + 1 := ⟨253 - M'.length, by omega⟩
      obtain ⟨nb, hnb⟩ : ∃ nb, nb = wr.heap.size := ⟨_, rfl⟩
      have hpbn : pb < nb := by rw [hnb]; exact obj_lt hU.pair
      have hwn : w.heap.size ≤ nb := by rw [hnb]; exact hU.keep.size
      have hz := HZ.out
      have hpw := HPW.out
      have htr := HH.out.2.2.2.1
      have hk1 : Keep noBlock wr (wr.alloc (.cells #[.int .u8 ((sy own : Nat) : Int), .int .u8 ((bi own : Nat) : Int), .int .u16 ((ba own : Nat) : Int)] 130)) := (Keep.refl _ wr).alloc _
      obtain ⟨v', W', hrun, hown5, hk5, hm5⟩ := own_push (owns_kept hU.owns hk1 (fun _ _ h => h)) (sy own) (by omega)
      rw [World.size_alloc, ← hnb] at hrun
      obtain ⟨oa', oc', hv'⟩ := owns_form hown5
      have hlM : (M' ++ [sy own]).length = M'.length + 1 := by simp
      rw [hlM] at hv'
      subst hv'
      have on := World.alloc_heap_new wr (.cells #[.int .u8 ((sy own : Nat) : Int), .int .u8 ((bi own : Nat) : Int), .int .u16 ((ba own : Nat) : Int)] 130)
      rw [← hnb] at on
      have hmo : ∀ k, (Value.slice sa' M'.length sc').ownBlock = some k → w.heap.size ≤ k ∧ k ≠ pb ∧ k < nb := fun k e => ⟨(hU.new k e).1, (hU.new k e).2, by rw [hnb]; exact ownBlock_lt hU.owns e⟩
      have hkW : Keep (fun k => w.heap.size ≤ k ∧ k ≠ pb ∧ k < nb) wr W' := (hk1.mono (fun _ _ h => h.elim)).trans (hk5.mono (fun k _ e => hmo k e)) (fun _ _ h => h)
      have HW' := (show Hid (W'.heap[nb]? = some (.cells #[.int .u8 ((sy own : Nat) : Int), .int .u8 ((bi own : Nat) : Int), .int .u16 ((ba own : Nat) : Int)] 130 (0, 0)) ∧ Tu w rb g bs tg S sy bi ba pb q' a0 a1 M' sa' M'.length sc' wr ∧ Keep (fun k => w.heap.size ≤ k ∧ k ≠ pb ∧ k < nb) wr W' ∧ W'.ownsRow 0 5 1 (.slice oa' (M'.length + 1) oc') (M' ++ [sy own]).length (u8s (M' ++ [sy own])) ∧ (∀ k, (Value.slice oa' (M'.length + 1) oc').ownBlock = some k → w.heap.size ≤ k ∧ k ≠ pb) ∧ At W' rb g bs q') from by
       refine ⟨hk5.obj on (fun e => by have := (hmo _ e).2.2; omega), hU, hkW, hown5, fun k e => ?_, hU.at_.keep hkW (by omega) (by omega)⟩
       rcases hm5 with e2 | ⟨j, e2, hj⟩
       ·rw [e2] at e; exact ⟨(hmo k e).1, (hmo k e).2.1⟩
       ·rw [e2] at e; cases e; rw [World.size_alloc, ← hnb] at hj; omega)
      have HNB := (show Hid (nb = wr.heap.size) from hnb)
      obtain ⟨N, hN⟩ : ∃ N, N = bi own := ⟨_, rfl⟩
      obtain ⟨B, hB⟩ : ∃ B, B = ba own := ⟨_, rfl⟩
      obtain ⟨y, hy⟩ : ∃ y, y = sy own := ⟨_, rfl⟩
      rw [← hN, ← hB, ← hy] at HW'
      rw [← hN] at c2 hb12
      rw [← hB] at c3
      rw [← hy] at c1 hs256
      rw [← hN, ← hB, ← hy] at hrun
      rw [← hN, ← hB] at hbs
      have hst := strm_lt bs q' N
      have hnx : B + strm bs q' N < S := by omega
      have hNI : (N : Int) ≤ 12 := by omega
      have hBI : (B : Int) < 4096 := by have := Nat.two_pow_pos N; omega
      have hyI : (y : Int) < 256 := by omega
      have HX := (show Hid (own < S ∧ oth < S ∧ N = bi own ∧ B = ba own ∧ y = sy own ∧ own = (if i = 0 then a0 else a1) ∧ oth = (if i = 0 then a1 else a0) ∧ f + 1 = 254 - M'.length ∧ M'.length = M.length + i ∧ M'.length = M'.length ∧ (i ≤ 1 → a1 = p1) ∧ B + strm bs q' N < S ∧ N ≤ 12 ∧ i < 2) from ⟨hoS.1, hoS.2, hN, hB, hy, hown', hoth, hf.symm, hM, rfl, ha1, hnx, hb12, hi2⟩)
      have hs1 : M'.length + 1 ≤ 255 := by omega
      clear hU hT ha0 ha1 hM hown' hown hoth hoI hN hB hy hst hnx hbs hkW hmo on hown5 hk5 hm5 hk1 hnb hz hpw htr hf hlM hoS
      go_wp2_with (at_builtin; rw [← HNB.out]; refine wpList_append_run _ rfl _ _ 22 rfl _ _ _ _ rfl rfl hrun ?_)
      obtain ⟨q1, q2, q3, q4, q5, q6⟩ := HW'.out
      have d2 : W'.cell? ⟨nb, 1, none⟩ = some (.int .u8 (N : Int)) ∧ W'.cell? ⟨nb, 2, none⟩ = some (.int .u16 (B : Int)) := ⟨cell_of q1 1, cell_of q1 2⟩
      have HB := (show Hid (∀ q, Calls Tryz.prog 68 #[.pointer (some ⟨rb, 0, none⟩), .int .i64 (N : Int)] (W'.drewN q) _) from fun q => (q6.drewN q).bits N (by omega) (by have := q2.bits; omega))
      have HW := (show Hid (IntKind.i64.wrap (N : Int) = (N : Int)) from (by rw [IntKind.wrap_i64]; omega : IntKind.i64.wrap (N : Int) = (N : Int)))
      obtain ⟨nx, hnx⟩ : ∃ nx, nx = B + strm bs q' N := ⟨_, rfl⟩
      have hnI : (B : Int) + ((strm bs q' N : Nat) : Int) = (nx : Int) := by omega
      have hnxI : (nx : Int) < 4096 := by have := HX.out; omega
      have HNX := (show Hid (nx = B + strm bs q' N) from hnx)
      clear hnx q1 q2 q3 q4 q5 q6 hrun c1 c2 c3
      have HU3 := (show Hid (∀ w3, At w3 rb g bs (q' + N) → Keep (fun k => k = rb) (W'.drewN 1) w3 → w3.cell? ⟨nb, 1, none⟩ = some (.int .u8 (N : Int)) ∧ w3.cell? ⟨nb, 2, none⟩ = some (.int .u16 (B : Int)) ∧ w3.heap[pb]? = some (.cells #[.int .u64 (a0 : Int), .int .u64 (a1 : Int)] 218 (0, 0)) ∧ (∃ x, w3.cell? ⟨pb, i, none⟩ = some x) ∧ w3.frozen? ⟨pb, i, none⟩ = false ∧ ∀ x, (w3.setCell ⟨pb, i, none⟩ x).cell? ⟨nb, 1, none⟩ = some (.int .u8 (N : Int)) ∧ (w3.setCell ⟨pb, i, none⟩ x).cell? ⟨nb, 2, none⟩ = some (.int .u16 (B : Int))) from by
       intro w3 _ hK3
       obtain ⟨q1, q2, q3, q4, q5, q6⟩ := HW'.out
       have hz := HZ.out
       have hpw := HPW.out
       have o1 := hK3.obj q1 (by have := q2.keep.size; have := HNB.out; omega)
       have o2 := hK3.obj (q3.obj q2.pair (by omega)) (by omega)
       have o3 : ∀ x : Value, (w3.setCell ⟨pb, i, none⟩ x).heap[nb]? = w3.heap[nb]? := fun x => ((Keep.refl (fun k => k = pb) w3).setCell (p := ⟨pb, i, none⟩) (fun _ => rfl) x).block nb (obj_lt o1) (by have := obj_lt q2.pair; have := HNB.out; omega)
       refine ⟨cell_of o1 1, cell_of o1 2, o2, ?_, frozen_of o2 i, fun x => ⟨(World.cell?_of_block (o3 x)).trans (cell_of o1 1), (World.cell?_of_block (o3 x)).trans (cell_of o1 2)⟩⟩
       rcases (show i = 0 ∨ i = 1 by have := HX.out; omega) with rfl | rfl
       ·exact ⟨_, cell_of o2 0⟩
       ·exact ⟨_, cell_of o2 1⟩)
      go_region_held3 (fun W => W.cell? ⟨nb, 1, none⟩ = some (.int .u8 (N : Int)) ∧ W.cell? ⟨nb, 2, none⟩ = some (.int .u16 (B : Int))) (first | exact d2 | exact d3 | exact d6 _) ((first
       | (go_at_call 68; rw [HW.out]; refine (HB.out 1).mono ?_; rintro e w3 ⟨rfl, hR3, hK3⟩; have HD3 := (show Hid (At w3 rb g bs (q' + N) ∧ Keep (fun k => k = rb) (W'.drewN 1) w3) from ⟨hR3, hK3⟩); clear hR3 hK3; have d3 : w3.cell? ⟨nb, 1, none⟩ = some (.int .u8 (N : Int)) ∧ w3.cell? ⟨nb, 2, none⟩ = some (.int .u16 (B : Int)) := (fun h => ⟨h.1, h.2.1⟩) (HU3.out w3 HD3.out.1 HD3.out.2); obtain ⟨x3, d4⟩ := (HU3.out w3 HD3.out.1 HD3.out.2).2.2.2.1; have d5 := (HU3.out w3 HD3.out.1 HD3.out.2).2.2.2.2.1; have d6 := (HU3.out w3 HD3.out.1 HD3.out.2).2.2.2.2.2)))
      have hwr : IntKind.u64.wrap (IntKind.u64.wrap (B : Int) + ((strm bs q' N : Nat) : Int)) = (nx : Int) := by
       rw [← hnI]
       have : (0 : Int) ≤ (B : Int) ∧ (0 : Int) ≤ ((strm bs q' N : Nat) : Int) := ⟨Int.natCast_nonneg _, Int.natCast_nonneg _⟩
       rw [IntKind.wrap_u64, IntKind.wrap_u64]; omega
      rw [hwr]
      clear hwr hnI d2 d3 d4 d5 d6 HB HW
      have hU5 : Tu w rb g bs tg S sy bi ba pb (q' + N) (if i = 0 then nx else a0) (if i = 0 then a1 else nx) (M' ++ [y]) oa' (M'.length + 1) oc' (w3.setCell ⟨pb, i, none⟩ (.int .u64 (nx : Int))) := by
       obtain ⟨q1, q2, q3, q4, q5, q6⟩ := HW'.out
       obtain ⟨hA3, hK3⟩ := HD3.out
       have hx := HX.out
       have hz := HZ.out
       have hpw := HPW.out
       have hpr := (HU3.out w3 hA3 hK3).2.2.1
       have htr := HH.out.2.2.2.1
       have hnxv := HNX.out
       have hks : Keep (fun k => k = pb) w3 (w3.setCell ⟨pb, i, none⟩ (.int .u64 (nx : Int))) := (Keep.refl (fun k => k = pb) w3).setCell (p := ⟨pb, i, none⟩) (fun _ => rfl) _
       have hK3' : Keep (fun k => k = rb) W' w3 := ((keep_drewN W' 1).mono (fun _ _ h => h.elim)).trans hK3 (fun _ _ h => h)
       have hq := q2.bits
       have hl0 := q2.lt0
       have hl1 := q2.lt1
       refine ⟨hA3.keep hks (by omega) (by omega), ((q2.tab.keep q3 (by omega)).keep hK3' (by omega)).keep hks (by omega), ?_, ?_, ?_, owns_kept (owns_kept q4 hK3' (fun k e => by have := q5 k e; omega)) hks (fun k e => by have := q5 k e; omega), by simp, q5, ((q2.keep.trans q3 (fun j hj e => by omega)).trans hK3' (fun _ _ h => h)).trans hks (fun j hj e => by omega), by simp; omega, by simp; omega⟩
       ·rw [set_obj hpr i _]
        rcases (show i = 0 ∨ i = 1 by omega) with rfl | rfl
        ·simp
        ·simp
       ·split <;> omega
       ·split <;> omega
      have hTd : toldT sy bi ba bs l = if Tl.tailLen bs < q' + N then some (M' ++ [y] ++ [sy oth]) else (turnsF sy bi ba bs (254 - (M' ++ [y]).length) oth nx (q' + N)).map ((M' ++ [y]) ++ ·) := by
       have hx := HX.out
       rw [HT2.out.2, ← hx.2.2.2.2.2.2.2.1, HNX.out]
       rw [turnsF_succ, ← hx.2.2.1, ← hx.2.2.2.1, ← hx.2.2.2.2.1]
       split
       ·simp
       ·rw [Option.map_map, show 254 - (M' ++ [y]).length = f from by simp; omega]
        congr 1
        funext z
        simp
      have HU5 := (show Hid (Tu w rb g bs tg S sy bi ba pb (q' + N) (if i = 0 then nx else a0) (if i = 0 then a1 else nx) (M' ++ [y]) oa' (M'.length + 1) oc' (w3.setCell ⟨pb, i, none⟩ (.int .u64 (nx : Int)))) from hU5)
      have HTd := (show Hid (toldT sy bi ba bs l = if Tl.tailLen bs < q' + N then some (M' ++ [y] ++ [sy oth]) else (turnsF sy bi ba bs (254 - (M' ++ [y]).length) oth nx (q' + N)).map ((M' ++ [y]) ++ ·)) from hTd)
      clear hU5 hTd HU3 HW' HD3 HT2
      generalize w3.setCell ⟨pb, i, none⟩ (.int .u64 (nx : Int)) = W5 at *
      have HLf := (show Hid (Calls Tryz.prog 72 _ W5 _) from HU5.out.at_.left)
      go_wp2_with fail
      refine HLf.out.mono ?_
      rintro e W6 ⟨rfl, q6, rfl⟩
      clear HLf
      have HU6 := (show Hid (Tu w rb g bs tg S sy bi ba pb (q' + N) (if i = 0 then nx else a0) (if i = 0 then a1 else nx) (M' ++ [y]) oa' (M'.length + 1) oc' (W5.drewN q6)) from by
       have h := HU5.out
       exact ⟨h.at_.drewN q6, h.tab.keep (keep_drewN _ q6) (fun h => h), h.pair, h.lt0, h.lt1, h.owns, h.len, h.new, h.keep.trans (keep_drewN _ q6) (fun _ _ h => h.elim), h.bits, h.few⟩)
      clear HU5
      generalize W5.drewN q6 = W6 at *
      obtain ⟨zz, hzz⟩ : ∃ z : Int, z = ((Tl.tailLen bs : Nat) : Int) - ((q' + N : Nat) : Int) := ⟨_, rfl⟩
      rw [← hzz]
      have hzb2 : -1000000 < zz ∧ zz < 1125899906842624 := by
       have := HH.out.2.2.2.2.2
       have := HU6.out.bits
       have := HU6.out.few
       omega
      by_cases hsh2 : Tl.tailLen bs < q' + N
      ·have hzn2 : zz < 0 := by omega
       have HTe := (show Hid (toldT sy bi ba bs l = some (M' ++ [y] ++ [sy oth])) from HTd.out.trans (if_pos hsh2))
       obtain ⟨oi, hoi⟩ : ∃ oi, oi = 1 - i := ⟨_, rfl⟩
       have hoiI : 1 - (i : Int) = (oi : Int) := by have := HX.out; omega
       have hoi2 : (oi : Int) < 2 := by omega
       have hothc : W6.cell? ⟨pb, oi, none⟩ = some (.int .u64 (oth : Int)) := by
        have h := cell_of HU6.out.pair oi
        have hx := HX.out
        rcases (show i = 0 ∨ i = 1 by omega) with rfl | rfl
        ·rw [h, hoi, hx.2.2.2.2.2.2.1]; simp
        ·rw [h, hoi, hx.2.2.2.2.2.2.1]; simp
       have hothS : oth < S := HX.out.2.1
       obtain ⟨c4, -, -⟩ := HU6.out.tab.cells oth hothS
       have hothI : (oth : Int) < (S : Int) := by omega
       have hso := HH.out.2.2.1 oth hothS
       obtain ⟨v7, W7, hrun7, hown7, hk7, hm7⟩ := own_push HU6.out.owns (sy oth) (by have := HU6.out.few; omega)
       have HE := (show Hid (W7.ownsRow 0 5 1 v7 (M' ++ [y] ++ [sy oth]).length (u8s (M' ++ [y] ++ [sy oth])) ∧ Keep (fun k => k = rb) w W7 ∧ ∀ k, v7.ownBlock = some k → w.heap.size ≤ k) from ⟨hown7, HU6.out.keep.trans hk7 (fun j hj e => by have := (HU6.out.new j e).1; omega), fun k e => by
        rcases hm7 with e2 | ⟨j, e2, hj⟩
        ·rw [e2] at e; exact (HU6.out.new k e).1
        ·rw [e2] at e; cases e; have := HU6.out.keep.size; omega⟩)
       generalize sy oth = yo at *
       have hyo : (yo : Int) < 256 := by omega
       clear hown7 hk7 hm7 hoi hzz hsh2 hothS HTd
       go_wp2_with (at_builtin; refine wpList_append_run _ rfl _ _ 22 rfl _ _ _ _ rfl rfl hrun7 ?_)
       simp only [Exit.noGoto]
       go_ret2
       exact turn_some HTe.out HE.out.2.1 HE.out.1 HE.out.2.2
      ·have hzn2 : ¬ zz < 0 := by omega
       have HTe := (show Hid _ from HTd.out.trans (if_neg hsh2))
       clear hzz hsh2 HTd
       go_wp2_with fail
       go_roundw
       case rel =>
        have hx := HX.out
        refine ⟨i + 1, q' + N, _, _, M' ++ [y], oa', M'.length + 1, oc', rfl, by go_num, by omega, HU6.out, ?_, ?_, ?_, ?_⟩
        ·rw [HTe.out, hx.2.2.2.2.2.2.1]
         rcases (show i = 0 ∨ i = 1 by omega) with rfl | rfl
         ·simp
         ·simp
        ·intro h; omega
        ·intro h
         obtain rfl : i = 0 := by omega
         rw [if_pos rfl]; exact hx.2.2.2.2.2.2.2.2.2.2.1 (by omega)
        ·simp; omega
       case measure => simp [intOf]; omega
    ·obtain rfl : i = 2 := by omega
     go_wp2_with fail
     go_roundw
     case rel =>
      obtain ⟨hU, hT, -, -, hM⟩ := HD.out
      exact ⟨q', a0, a1, M', sa', sn', sc', rfl, hU, hT⟩
     case measure =>
      obtain ⟨hU, hT, -, -, hM⟩ := HD.out
      have h1 := hU.len
      have h2 := hU.few
      have h3 := HC.out.1.len
      simp only [sliceLen]
      omega

end Go.Proofs.YtnjilcokkhodmaaGreatDoor
