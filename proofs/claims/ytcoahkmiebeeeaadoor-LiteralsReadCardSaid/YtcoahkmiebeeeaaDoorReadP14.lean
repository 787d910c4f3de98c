/-
  The document's states: weights that two states tell by turns.
  The document's Read, where bytes are short.
  The document's Read of weights that two states tell.
  The document's Read of weights of four bits.
  Read, the program's and the document's, as one contract.
  tell.
-/
import Derived.Test.YtcoahkmiebeeeaaDoorReadP13
namespace Go.Proofs.YtcoahkmiebeeeaaDoor
open Go.RowKit Go.Shelf
set_option linter.unusedVariables false

/-- What the document's states tells: it goes on for 257 weights. -/
def toldD (sy bi ba : Nat → Nat) (bs : List Nat) (l : Nat) : Option (List Nat) := if Tl.tailLen bs < l + l then none else turnsF sy bi ba bs 257 (strm bs 0 l) (strm bs l l) (l + l)
def tellD (bs : List Nat) : Option (List Int × Nat × Nat) → Option (List Nat)
  | none => none
  | some (xs, l, u) => if (bs.drop u)[(bs.drop u).length - 1]?.getD 0 = 0 then none else toldD (symF xs (2 ^ l)) (fun i => bitF l (xF xs (2 ^ l) i)) (fun i => baseF l (xF xs (2 ^ l) i)) (bs.drop u) l
/-- The program tells what the document tells, if it is at most 255 weights. -/
theorem tellT_iff (bs : List Nat) (R : Option (List Int × Nat × Nat)) (M : List Nat) : tellT bs R = some M ↔ tellD bs R = some M ∧ M.length ≤ 255 := by
  cases R with
  | none => exact ⟨(fun h => by cases h), (fun h => by cases h.1)⟩
  | some r =>
    obtain ⟨xs, l, u⟩ := r
    unfold tellT tellD
    dsimp only
    by_cases h0 : (bs.drop u)[(bs.drop u).length - 1]?.getD 0 = 0
    · rw [if_pos h0, if_pos h0]
      exact ⟨(fun h => by cases h), (fun h => by cases h.1)⟩
    · rw [if_neg h0, if_neg h0]
      unfold toldT toldD
      by_cases h1 : Tl.tailLen (bs.drop u) < l + l
      · rw [if_pos h1, if_pos h1]
        exact ⟨(fun h => by cases h), (fun h => by cases h.1)⟩
      · rw [if_neg h1, if_neg h1]
        exact turnsF_more 3 254 _ _ _ M

structure Tq (w : World) (rb g : Nat) (bs : List Nat) (tg S : Nat) (sy bi ba : Nat → Nat) (pb q p0 p1 : Nat) (M : List Nat) (sa : Option Addr) (sn sc : Nat) (W : World) : Prop where
  at_ : AtQ W rb g bs q
  tab : RowT W tg S sy bi ba
  pair : W.heap[pb]? = some (.cells #[.int .i64 (p0 : Int), .int .i64 (p1 : Int)] 75 (0, 0))
  lt0 : p0 < S
  lt1 : p1 < S
  owns : W.ownsRow 0 5 1 (.slice sa sn sc) M.length (u8s M)
  len : sn = M.length
  new : ∀ k, (Value.slice sa sn sc).ownBlock = some k → pb < k
  keep : Keep noBlock w W
  bits : q ≤ 24 + 12 * M.length
  few : M.length ≤ 257

/-- The loop's state behind a turn. -/
theorem Tq.next {w : World} {rb g : Nat} {bs : List Nat} {tg S : Nat} {sy bi ba : Nat → Nat} {pb q p0 p1 : Nat} {M : List Nat} {sa : Option Addr} {sn sc : Nat} {wr : World} (h : Tq w rb g bs tg S sy bi ba pb q p0 p1 M sa sn sc wr) (hW : Within bi ba S) (i : Nat) (hi : i < 2) (own : Nat) (hown : own = if i = 0 then p0 else p1)
    (hz : w.heap.size ≤ rb ∧ w.heap.size ≤ g ∧ rb < pb ∧ g < pb ∧ tg < pb ∧ rb ≠ tg ∧ w.heap.size ≤ tg) (hM : M.length ≤ 256)
    (v' : Value) (W' w3 : World) (hk5 : Keep (fun k => (Value.slice sa sn sc).ownBlock = some k) wr W') (ho : W'.ownsRow 0 5 1 v' (M ++ [sy own]).length (u8s (M ++ [sy own]))) (hm : v'.ownBlock = (Value.slice sa sn sc).ownBlock ∨ ∃ k, v'.ownBlock = some k ∧ wr.heap.size ≤ k)
    (sa' : Option Addr) (sc' : Nat) (hv : v' = .slice sa' (sn + 1) sc') (hA3 : AtQ w3 rb g bs (q + bi own)) (hK3 : Keep (fun k => k = rb) W' w3) :
    Tq w rb g bs tg S sy bi ba pb (q + bi own) (if i = 0 then ba own + strm bs q (bi own) else p0) (if i = 0 then p1 else ba own + strm bs q (bi own)) (M ++ [sy own]) sa' (sn + 1) sc' (w3.setCell ⟨pb, i, none⟩ (.int .i64 ((ba own + strm bs q (bi own) : Nat) : Int))) := by
  subst hv
  have hoS : own < S := by rw [hown]; have := h.lt0; have := h.lt1; split <;> assumption
  have hnx := within_next hW bs q own hoS
  have hb12 := (hW own hoS).1
  have hpw := obj_lt h.pair
  have hks : Keep (fun k => k = pb) w3 (w3.setCell ⟨pb, i, none⟩ (.int .i64 ((ba own + strm bs q (bi own) : Nat) : Int))) := (Keep.refl (fun k => k = pb) w3).setCell (p := ⟨pb, i, none⟩) (fun _ => rfl) _
  have hnew : ∀ k, (Value.slice sa' (sn + 1) sc').ownBlock = some k → pb < k := fun k e => by
    rcases hm with e2 | ⟨j, e2, hj⟩
    · rw [e2] at e; exact h.new k e
    · rw [e2] at e; cases e; omega
  have hn := h.new
  have hpr := hK3.obj (hk5.obj h.pair (fun e => by have := hn _ e; omega)) (by omega)
  refine ⟨hA3.keep hks (by omega) (by omega), ((h.tab.keep hk5 (fun e => by have := hn _ e; omega)).keep hK3 (by omega)).keep hks (by omega), ?_, ?_, ?_, owns_kept (owns_kept ho hK3 (fun k e => by have := hnew k e; omega)) hks (fun k e => by have := hnew k e; omega), by have := h.len; simp; omega, hnew, ((h.keep.trans hk5 (fun j hj e => by have := hn j e; omega)).trans hK3 (fun j hj e => by omega)).trans hks (fun j hj e => by omega), by have := h.bits; simp; omega, by simp; omega⟩
  · rw [set_obj hpr i _]
    rcases (show i = 0 ∨ i = 1 by omega) with rfl | rfl
    · simp
    · simp
  · have := h.lt0; split <;> omega
  · have := h.lt1; split <;> omega

theorem wrap_small (x : Int) (h0 : 0 ≤ x) (h1 : x < 4096) : IntKind.i64.wrap x = x := by rw [IntKind.wrap_i64]; omega
theorem wrap_two (x y : Int) (h0 : 0 ≤ x) (h1 : 0 ≤ y) (h2 : x + y < 4096) : IntKind.i64.wrap (IntKind.i64.wrap x + IntKind.i64.wrap y) = x + y := by
  rw [wrap_small x h0 (by omega), wrap_small y h1 (by omega), wrap_small _ (by omega) h2]
theorem tellD_none {w w' : World} {T : Option (List Nat)} (h : T = none) (hk : Keep noBlock w w') : TellPost T w (.returned (.tuple #[.slice none 0 0, .bool false])) w' := by subst h; exact ⟨hk, rfl⟩
theorem tellD_some {w w' : World} {T : Option (List Nat)} {M : List Nat} {v : Value} (h : T = some M) (hk : Keep noBlock w w') (ho : w'.ownsRow 0 5 1 v M.length (u8s M)) (hn : ∀ k, v.ownBlock = some k → w.heap.size ≤ k) : TellPost T w (.returned (.tuple #[v, .bool true])) w' := by subst h; exact ⟨hk, v, rfl, ho, hn⟩

section
attribute [local go_sem] sliceSem_eq
set_option maxRecDepth 100000 in
set_option maxHeartbeats 1000000 in
theorem statesD_any (a : Option Addr) (cap gb off : Nat) (ds : List Nat) (w : World) (hB : Bytes w a cap gb off ds) (hl : ds.length ≤ 200) :
    Calls Tryd.prog 19 #[.slice a ds.length cap] w fun e w' => ∃ R, RdRel ds 6 11 R ∧ TellPost (tellD ds R) w e w' := by
  have HRd := (show Hid (Calls Tryd.prog 29 #[.slice a ds.length cap, .int .i64 6, .int .i64 11] w fun e w' => ∃ T, RdRel ds 6 11 T ∧ RdPost T w e w') from readQ_all a cap gb off ds 6 11 w hB (by omega) (by omega) (by omega) (by omega))
  have HB1 := (show Hid (Bytes w a cap gb off ds ∧ ds.length ≤ 200) from ⟨hB, hl⟩)
  obtain ⟨k, hk⟩ : ∃ k, k = ds.length := ⟨_, rfl⟩
  rw [← hk] at HRd ⊢
  have HK := (show Hid (k = ds.length) from hk)
  have hkI : (k : Int) ≤ 200 := by omega
  clear hB hk hl
  go_enter Tryd.func19, Tryd.ntmps19
  go_wp2_with fail
  refine HRd.out.mono ?_
  rintro e w1 ⟨R, hR, hK1, hm⟩
  clear HRd
  cases R with
  | none =>
    obtain ⟨E, hE, rfl⟩ := hm
    have HD := (show Hid (RdRel ds 6 11 none ∧ Keep noBlock w w1) from ⟨hR, hK1⟩)
    clear hR hK1
    go_wp2_with fail
    go_ret2
    exact ⟨none, HD.out.1, HD.out.2, rfl⟩
  | some r =>
    obtain ⟨xs, l, u⟩ := r
    obtain ⟨sa, sc, g2, rfl, hRow, hg2⟩ := hm
    obtain ⟨ok, hI16, hxl, hxne, hub, hl6, hl5, hu1⟩ := hR.ok (by omega) (by omega)
    have HTb := (show Hid (Calls Tryd.prog 30 #[.slice sa xs.length sc, .int .i64 (l : Int)] w1 _) from tableQ_good sa sc g2 0 xs l w1 hRow hI16 ok)
    obtain ⟨xl, hxle⟩ : ∃ xl, xl = xs.length := ⟨_, rfl⟩
    rw [← hxle] at HTb ⊢
    obtain ⟨a3, off3, hrun3, hB3, -⟩ := HB1.out.1.drop u hub
    have hk3 := HK.out
    rw [← hk3] at hrun3
    have HD := (show Hid (RdRel ds 6 11 (some (xs, l, u)) ∧ Keep noBlock w w1 ∧ okT xs (l : Int) = true ∧ xs.length ≤ 12 ∧ l ≤ 6 ∧ Bytes w a3 (cap - u) gb off3 (ds.drop u) ∧ (ds.drop u).length ≤ 200) from ⟨hR, hK1, ok, hxl, hl6, hB3, by rw [List.length_drop]; have := HB1.out.2; omega⟩)
    have hlI : (l : Int) ≤ 6 := by omega
    have huI : (u : Int) ≤ (k : Int) := by omega
    have hlI5 : (5 : Int) ≤ (l : Int) := by omega
    obtain ⟨k3, hk3e⟩ : ∃ k3, k3 = (ds.drop u).length := ⟨_, rfl⟩
    rw [← hk3e] at hrun3
    have HK3 := (show Hid (k3 = (ds.drop u).length) from hk3e)
    obtain ⟨c3, hc3⟩ : ∃ c3, c3 = cap - u := ⟨_, rfl⟩
    rw [← hc3] at hrun3 HD
    clear hR hK1 hRow hg2 ok hI16 hxl hxne hub hl6 hl5 hu1 hB3 hk3 hxle hk3e hc3
    go_wp2_with fail
    refine HTb.out.mono ?_
    rintro e w2 ⟨tg, tcap, rfl, htg, htc, hRT, hK2⟩
    obtain ⟨S, hS⟩ : ∃ S, S = 2 ^ l := ⟨_, rfl⟩
    rw [← hS] at hRT htc ⊢
    have hSb : S ≤ 4096 := by rw [hS]; exact Nat.pow_le_pow_right (n := 2) (j := 12) (by omega) (by have := HD.out; omega)
    have hB3w : Bytes w2 a3 c3 gb off3 (ds.drop u) := (HD.out.2.2.2.2.2.1.keep HD.out.2.1 (fun _ h => h)).keep hK2 (fun _ h => h)
    have hK02 : Keep noBlock w w2 := HD.out.2.1.trans' hK2
    have HE := (show Hid (RowT w2 tg S (symF xs S) (fun i => bitF l (xF xs S i)) (fun i => baseF l (xF xs S i)) ∧ S = 2 ^ l ∧ Keep noBlock w w2 ∧ w.heap.size ≤ tg) from ⟨hRT, hS, hK02, by have := HD.out.2.1.size; omega⟩)
    by_cases h0 : (ds.drop u)[(ds.drop u).length - 1]?.getD 0 = 0
    · have HN := (show Hid (Calls Tryd.prog 31 #[.slice a3 k3 c3] w2 _) from by have := newD_bad a3 c3 gb off3 (ds.drop u) w2 hB3w (by have := HD.out; omega) h0; rw [← HK3.out] at this; exact this)
      have HF := (show Hid (tellD ds (some (xs, l, u)) = none) from if_pos h0)
      clear h0 hB3w hK02 hRT hK2 hS htg htc hSb
      go_wp2_with fail
      refine HN.out.mono ?_
      rintro e w3 ⟨rfl, rfl⟩
      go_wp2_with fail
      go_ret2
      exact ⟨_, HD.out.1, tellD_none HF.out HE.out.2.2.1⟩
    · have HN := (show Hid (Calls Tryd.prog 31 #[.slice a3 k3 c3] w2 _) from by have := newD_good a3 c3 gb off3 (ds.drop u) w2 hB3w (by have := HD.out; omega) h0; rw [← HK3.out] at this; exact this)
      have HF := (show Hid (tellD ds (some (xs, l, u)) = toldD (symF xs S) (fun i => bitF l (xF xs S i)) (fun i => baseF l (xF xs S i)) (ds.drop u) l) from by rw [hS]; exact if_neg h0)
      clear h0 hB3w hK02 hRT hK2 hS htg htc
      go_wp2_with fail
      refine HN.out.mono ?_
      rintro e w3 ⟨rb, g3, rfl, hrb, hg3, hA3, hK3⟩
      have htl : Tl.tailLen (ds.drop u) < 1125899906842624 := by have h1 := Tl.tailLen_le (ds.drop u) HD.out.2.2.2.2.2.1.lt; have h2 := HD.out.2.2.2.2.2.2; omega
      obtain ⟨bs, hbs⟩ : ∃ bs, bs = ds.drop u := ⟨_, rfl⟩
      rw [← hbs] at hA3 htl HF
      have hst0 : strm bs 0 l < S := by rw [HE.out.2.1]; exact strm_lt _ _ _
      have hst1 : strm bs l l < S := by rw [HE.out.2.1]; exact strm_lt _ _ _
      have hWi : Within (fun i => bitF l (xF xs S i)) (fun i => baseF l (xF xs S i)) S := by rw [HE.out.2.1]; exact within_ok HD.out.2.2.1 (by have := HD.out; omega)
      have hsy : ∀ i, i < S → symF xs S i < 256 := fun i hi => by
        have hi' := hi
        rw [HE.out.2.1] at hi' ⊢
        exact symF_256 HD.out.2.2.1 (by have := HD.out; omega) i hi'
      have hTab := HE.out.1.keep hK3 (fun h => h)
      have hK03 : Keep noBlock w w3 := HE.out.2.2.1.trans' hK3
      have htgl := HE.out.1.lt
      have hwtg := HE.out.2.2.2
      have hw2s := HE.out.2.2.1.size
      have HRl := (show Hid (RdRel ds 6 11 (some (xs, l, u))) from HD.out.1)
      clear HD HE HN HTb HB1 HK HK3 hbs hrun3
      generalize symF xs S = sy at *
      generalize (fun i => bitF l (xF xs S i)) = bi at *
      generalize (fun i => baseF l (xF xs S i)) = ba at *
      obtain ⟨TD, hTDe⟩ : ∃ TD, tellD ds (some (xs, l, u)) = TD := ⟨_, rfl⟩
      rw [hTDe] at HF
      have HTDe := (show Hid (tellD ds (some (xs, l, u)) = TD) from hTDe)
      clear hTDe
      obtain ⟨pb, hpb⟩ : ∃ pb, pb = w3.heap.size := ⟨_, rfl⟩
      have hrbw : rb < pb := by obtain ⟨c0, h0⟩ := hA3.is.obj; rw [hpb]; exact obj_lt h0
      have hgw : g3 < pb := by rw [hpb]; exact hA3.is.lt
      have htgp : tg < pb := by have := hK3.size; omega
      have hkA : Keep noBlock w3 (w3.alloc (.cells #[.int .i64 0, .int .i64 0] 75)) := (Keep.refl _ w3).alloc _
      have HB1 := (show Hid (Calls Tryd.prog 32 #[.pointer (some ⟨rb, 0, none⟩), .int .i64 (l : Int)] (w3.alloc (.cells #[.int .i64 0, .int .i64 0] 75)) _) from (hA3.keep hkA (fun h => h) (fun h => h)).bits l (by omega) (by omega))
      have on := World.alloc_heap_new w3 (.cells #[.int .i64 0, .int .i64 0] 75)
      rw [← hpb] at on
      have HP := (show Hid (pb = w3.heap.size ∧ (w3.alloc (.cells #[.int .i64 0, .int .i64 0] 75)).heap[pb]? = some (.cells #[.int .i64 0, .int .i64 0] 75 (0, 0)) ∧ Keep noBlock w (w3.alloc (.cells #[.int .i64 0, .int .i64 0] 75)) ∧ RowT (w3.alloc (.cells #[.int .i64 0, .int .i64 0] 75)) tg S sy bi ba) from ⟨hpb, on, hK03.trans' hkA, hTab.keep hkA (fun h => h)⟩)
      have HZ := (show Hid (w.heap.size ≤ rb ∧ w.heap.size ≤ g3 ∧ rb < pb ∧ g3 < pb ∧ tg < pb ∧ rb ≠ tg ∧ w.heap.size ≤ tg) from ⟨by omega, by omega, hrbw, hgw, htgp, by omega, hwtg⟩)
      have HH := (show Hid (Within bi ba S ∧ (∀ i, i < S → sy i < 256) ∧ Tl.tailLen bs < 1125899906842624 ∧ S ≤ 4096) from ⟨hWi, hsy, htl, hSb⟩)
      clear hA3 hK3 hK03 hkA on hTab hWi hsy htl hrbw hgw htgp hrb hg3 htgl hwtg hw2s hpb
      go_wp2_with fail
      rw [← HP.out.1]
      generalize w3.alloc (.cells #[.int .i64 0, .int .i64 0] 75) = W3 at *
      refine HB1.out.mono ?_
      rintro e w4 ⟨rfl, hA4, hK4⟩
      rw [Nat.zero_add] at hA4
      obtain ⟨s0, hs0⟩ : ∃ s0, s0 = strm bs 0 l := ⟨_, rfl⟩
      rw [← hs0] at hst0 ⊢
      have HS00 := (show Hid (s0 = strm bs 0 l) from hs0)
      have hs0I : (s0 : Int) < 4096 := by have := HH.out.2.2.2; omega
      have o4 := hK4.obj HP.out.2.1 (by have := HZ.out; omega)
      have c40 : w4.cell? ⟨pb, 0, none⟩ = some (.int .i64 0) := cell_of o4 0
      have f40 := frozen_of o4 0
      have hks4 : Keep (fun k => k = pb) w4 (w4.setCell ⟨pb, 0, none⟩ (.int .i64 (s0 : Int))) := (Keep.refl (fun k => k = pb) w4).setCell (p := ⟨pb, 0, none⟩) (fun _ => rfl) _
      have o5 : (w4.setCell ⟨pb, 0, none⟩ (.int .i64 (s0 : Int))).heap[pb]? = some (.cells #[.int .i64 (s0 : Int), .int .i64 0] 75 (0, 0)) := by rw [set_obj o4 0 _]; rfl
      have hz := HZ.out
      have hT5 : RowT (w4.setCell ⟨pb, 0, none⟩ (.int .i64 (s0 : Int))) tg S sy bi ba := (HP.out.2.2.2.keep hK4 (by omega)).keep hks4 (by omega)
      have hK5 : Keep noBlock w (w4.setCell ⟨pb, 0, none⟩ (.int .i64 (s0 : Int))) := (HP.out.2.2.1.trans hK4 (fun j hj e => by omega)).trans hks4 (fun j hj e => by omega)
      have hA5 := hA4.keep hks4 (by omega) (by omega)
      have HP5 := (show Hid (∀ W5, W5 = w4.setCell ⟨pb, 0, none⟩ (.int .i64 (s0 : Int)) → AtQ W5 rb g3 bs l ∧ RowT W5 tg S sy bi ba ∧ Keep noBlock w W5 ∧ W5.heap[pb]? = some (.cells #[.int .i64 (s0 : Int), .int .i64 0] 75 (0, 0))) from fun W5 e => by rw [e]; exact ⟨hA5, hT5, hK5, o5⟩)
      clear hA4 hK4 o4 hks4 o5 hz hT5 hK5 hA5 HP HB1 hs0
      have HS0 := (show Hid (s0 < S ∧ s0 = s0) from ⟨hst0, rfl⟩)
      go_wp2_with fail
      generalize hW5 : w4.setCell ⟨pb, 0, none⟩ (.int .i64 (s0 : Int)) = W5
      obtain ⟨hA5, hT5, hK5, o5⟩ := HP5.out W5 hW5.symm
      clear hW5 HP5 c40 f40
      refine (hA5.bits l (by omega) (by omega)).mono ?_
      rintro e w6 ⟨rfl, hA6, hK6⟩
      obtain ⟨s1, hs1⟩ : ∃ s1, s1 = strm bs l l := ⟨_, rfl⟩
      rw [← hs1] at hst1 ⊢
      have HS11 := (show Hid (s1 = strm bs l l) from hs1)
      have hs1I : (s1 : Int) < 4096 := by have := HH.out.2.2.2; omega
      have hz := HZ.out
      have o6 := hK6.obj o5 (by omega)
      have c61 : w6.cell? ⟨pb, 1, none⟩ = some (.int .i64 0) := cell_of o6 1
      have f61 := frozen_of o6 1
      have hks6 : Keep (fun k => k = pb) w6 (w6.setCell ⟨pb, 1, none⟩ (.int .i64 (s1 : Int))) := (Keep.refl (fun k => k = pb) w6).setCell (p := ⟨pb, 1, none⟩) (fun _ => rfl) _
      have hT7 : Tq w rb g3 bs tg S sy bi ba pb (l + l) s0 s1 [] none 0 0 (w6.setCell ⟨pb, 1, none⟩ (.int .i64 (s1 : Int))) :=
        ⟨hA6.keep hks6 (by omega) (by omega), (hT5.keep hK6 (by omega)).keep hks6 (by omega), by rw [set_obj o6 1 _]; rfl, hst0, hst1, World.ownsRow_nil _ _ _ _, rfl, (fun k e => by cases e), (hK5.trans hK6 (fun j hj e => by omega)).trans hks6 (fun j hj e => by omega), by simp; omega, by simp⟩
      have hcl := hT7.at_.is.left
      obtain ⟨z, hze⟩ : ∃ z : Int, z = ((Tl.tailLen bs : Nat) : Int) - ((l + l : Nat) : Int) := ⟨_, rfl⟩
      rw [← hze] at hcl
      have hzb : -1000000 < z ∧ z < 1125899906842624 := by have := HH.out.2.2.1; omega
      have HT7 := (show Hid (Tq w rb g3 bs tg S sy bi ba pb (l + l) s0 s1 [] none 0 0 (w6.setCell ⟨pb, 1, none⟩ (.int .i64 (s1 : Int)))) from hT7)
      clear hA5 hT5 hK5 o5 hA6 hK6 hs1 o6 hks6 hT7 hz hst0 hst1 HS0
      by_cases hsh : Tl.tailLen bs < l + l
      · have hzn : z < 0 := by omega
        have HFn := (show Hid (TD = none) from HF.out.trans (if_pos hsh))
        clear hze
        go_wp2_with fail
        go_ret2
        exact ⟨_, HRl.out, tellD_none (HTDe.out.trans HFn.out) HT7.out.keep⟩
      · have hzn : ¬ z < 0 := by omega
        have HM0 := (show Hid (TD = (turnsF sy bi ba bs (257 - 0) s0 s1 (l + l)).map ([] ++ ·)) from by
          have h1 : TD = turnsF sy bi ba bs 257 s0 s1 (l + l) := HF.out.trans (by unfold toldD; rw [if_neg hsh, HS00.out, HS11.out])
          exact h1.trans (by simp))
        clear hze HF HS00 HS11
        go_wp2_with fail
        generalize w6.setCell ⟨pb, 1, none⟩ (.int .i64 (s1 : Int)) = W7 at *
        clear c61 f61 hcl
        go_loopw [12, 13] (fun v12 v13 wr => ∃ (i q a0 a1 : Nat) (M : List Nat) (sa : Option Addr) (sn sc : Nat), v12 = .slice sa sn sc ∧ v13 = .int .i64 (i : Int) ∧ i < 2 ∧ Hid (Tq w rb g3 bs tg S sy bi ba pb q a0 a1 M sa sn sc wr ∧ TD = (turnsF sy bi ba bs (257 - M.length) (if i = 0 then a0 else a1) (if i = 0 then a1 else a0) q).map (M ++ ·))) (fun v12 _ _ => 258 - sliceLen v12)
        case atStart => exact ⟨0, l + l, s0, s1, [], none, 0, 0, rfl, rfl, by omega, HT7.out, HM0.out⟩
        case round =>
          clear HM0 HT7 hzb hzn hs0I hs1I
          obtain ⟨i, q, a0, a1, M, sa, sn, sc, rfl, rfl, hi, HC⟩ := hrel
          obtain ⟨hU, hTD⟩ := HC.out
          have hsn := hU.len
          subst hsn
          have hfew := hU.few
          by_cases h257 : M.length = 257
          · have h257I : ¬ (M.length : Int) ≤ 256 := by omega
            have HE := (show Hid (TD = none ∧ Keep noBlock w wr) from ⟨by rw [hTD, h257]; rfl, hU.keep⟩)
            clear hU hTD HC hfew h257
            go_wp2_with fail
            go_ret2
            exact ⟨_, HRl.out, tellD_none (HTDe.out.trans HE.out.1) HE.out.2⟩
          · have h257I : (M.length : Int) ≤ 256 := by omega
            obtain ⟨own, hown⟩ : ∃ own, own = if i = 0 then a0 else a1 := ⟨_, rfl⟩
            obtain ⟨oth, hoth⟩ : ∃ oth, oth = if i = 0 then a1 else a0 := ⟨_, rfl⟩
            rw [← hown, ← hoth] at hTD
            have hoS : own < S ∧ oth < S := by
              rw [hown, hoth]
              have := hU.lt0; have := hU.lt1
              constructor <;> split <;> assumption
            have cown : wr.cell? ⟨pb, i, none⟩ = some (.int .i64 (own : Int)) := by
              have h := cell_of hU.pair i
              rcases (show i = 0 ∨ i = 1 by omega) with rfl | rfl
              · rw [h, hown]; simp
              · rw [h, hown]; simp
            have hiI : (i : Int) < 2 := by omega
            obtain ⟨c1, c2, c3⟩ := hU.tab.cells own hoS.1
            have hSb := HH.out.2.2.2
            have hoSI : (own : Int) < (S : Int) := by omega
            have hSI : (S : Int) ≤ 4096 := by omega
            have hs256 := HH.out.2.1 own hoS.1
            obtain ⟨hb12, hbs⟩ := HH.out.1 own hoS.1
            have hnxt := within_next HH.out.1 bs q own hoS.1
            obtain ⟨f, hf⟩ : ∃ f, 257 - M.length = f + 1 := ⟨256 - M.length, by omega⟩
            obtain ⟨nb, hnb⟩ : ∃ nb, nb = wr.heap.size := ⟨_, rfl⟩
            have hk1 : Keep noBlock wr (wr.alloc (.cells #[.int .u8 ((sy own : Nat) : Int), .int .u8 ((bi own : Nat) : Int), .int .u16 ((ba own : Nat) : Int)] 81)) := (Keep.refl _ wr).alloc _
            obtain ⟨v', W', hrun, hown5, hk5, hm5⟩ := own_push (owns_kept hU.owns hk1 (fun _ _ h => h)) (sy own) (by omega)
            rw [World.size_alloc, ← hnb] at hrun
            obtain ⟨oa', oc', hv'⟩ := owns_form hown5
            have hlM : (M ++ [sy own]).length = M.length + 1 := by simp
            rw [hlM] at hv'
            have on := World.alloc_heap_new wr (.cells #[.int .u8 ((sy own : Nat) : Int), .int .u8 ((bi own : Nat) : Int), .int .u16 ((ba own : Nat) : Int)] 81)
            rw [← hnb] at on
            have hob : ∀ k, (Value.slice sa M.length sc).ownBlock = some k → k < nb := fun k e => by rw [hnb]; exact ownBlock_lt hU.owns e
            have hkW : Keep (fun k => (Value.slice sa M.length sc).ownBlock = some k) wr W' := (hk1.mono (fun _ _ h => h.elim)).trans hk5 (fun _ _ h => h)
            have o1' := hk5.obj on (fun e => by have := hob _ e; omega)
            have hz := HZ.out
            have hpn : pb < nb := by rw [hnb]; exact obj_lt hU.pair
            have hAW := hU.at_.keep hkW (fun e => by have := hU.new _ e; omega) (fun e => by have := hU.new _ e; omega)
            have hnext := fun w3 => hU.next HH.out.1 i hi own hown hz (by omega) v' W' w3 hkW hown5 (hm5.imp id (fun ⟨k, e1, e2⟩ => ⟨k, e1, by rw [World.size_alloc] at e2; omega⟩)) oa' oc' hv'
            have hpW := hkW.obj hU.pair (fun e => by have := hU.new _ e; omega)
            have HNX := (show Hid (∀ w3, AtQ w3 rb g3 bs (q + bi own) → Keep (fun k => k = rb) (W'.drewN 1) w3 → Tq w rb g3 bs tg S sy bi ba pb (q + bi own) (if i = 0 then ba own + strm bs q (bi own) else a0) (if i = 0 then a1 else ba own + strm bs q (bi own)) (M ++ [sy own]) oa' (M.length + 1) oc' (w3.setCell ⟨pb, i, none⟩ (.int .i64 ((ba own + strm bs q (bi own) : Nat) : Int))) ∧ w3.cell? ⟨nb, 1, none⟩ = some (.int .u8 ((bi own : Nat) : Int)) ∧ w3.cell? ⟨nb, 2, none⟩ = some (.int .u16 ((ba own : Nat) : Int)) ∧ (∃ x, w3.cell? ⟨pb, i, none⟩ = some x) ∧ w3.frozen? ⟨pb, i, none⟩ = false ∧ ∀ x, (w3.setCell ⟨pb, i, none⟩ x).cell? ⟨nb, 1, none⟩ = some (.int .u8 ((bi own : Nat) : Int)) ∧ (w3.setCell ⟨pb, i, none⟩ x).cell? ⟨nb, 2, none⟩ = some (.int .u16 ((ba own : Nat) : Int))) from fun w3 hA3 hK3 => by
              have hK3' : Keep (fun k => k = rb) W' w3 := ((keep_drewN W' 1).mono (fun _ _ h => h.elim)).trans hK3 (fun _ _ h => h)
              have p1 := hK3'.obj o1' (by omega)
              have p2 := hK3'.obj hpW (by omega)
              have o3 : ∀ x : Value, (w3.setCell ⟨pb, i, none⟩ x).heap[nb]? = w3.heap[nb]? := fun x => ((Keep.refl (fun k => k = pb) w3).setCell (p := ⟨pb, i, none⟩) (fun _ => rfl) x).block nb (obj_lt p1) (by omega)
              refine ⟨hnext w3 hA3 hK3', cell_of p1 1, cell_of p1 2, ?_, frozen_of p2 i, fun x => ⟨(World.cell?_of_block (o3 x)).trans (cell_of p1 1), (World.cell?_of_block (o3 x)).trans (cell_of p1 2)⟩⟩
              rcases (show i = 0 ∨ i = 1 by omega) with rfl | rfl
              · exact ⟨_, cell_of p2 0⟩
              · exact ⟨_, cell_of p2 1⟩)
            have HTD := (show Hid (TD = if Tl.tailLen bs < q + bi own then some (M ++ [sy own] ++ [sy oth]) else (turnsF sy bi ba bs (257 - (M ++ [sy own]).length) oth (ba own + strm bs q (bi own)) (q + bi own)).map ((M ++ [sy own]) ++ ·)) from hTD.trans (by
              rw [hf, turnsF_succ]
              split
              · simp
              · rw [Option.map_map, show 257 - (M ++ [sy own]).length = f from by simp; omega]
                congr 1
                funext z
                simp))
            have hbq := hU.bits
            have HX := (show Hid (own = (if i = 0 then a0 else a1) ∧ oth = (if i = 0 then a1 else a0) ∧ oth < S ∧ i < 2 ∧ nb = wr.heap.size ∧ q ≤ 5000) from ⟨hown, hoth, hoS.2, hi, hnb, by omega⟩)
            have HB := (show Hid (∀ q', Calls Tryd.prog 32 #[.pointer (some ⟨rb, 0, none⟩), .int .i64 ((bi own : Nat) : Int)] (W'.drewN q') _) from fun q' => (hAW.drewN q').bits (bi own) (by omega) (by omega))
            have d2 : W'.cell? ⟨nb, 1, none⟩ = some (.int .u8 ((bi own : Nat) : Int)) ∧ W'.cell? ⟨nb, 2, none⟩ = some (.int .u16 ((ba own : Nat) : Int)) := ⟨cell_of o1' 1, cell_of o1' 2⟩
            subst hv'
            clear hU hTD HC hfew h257 hown hoth hown5 hk5 hm5 hk1 hlM on hob hkW o1' hz hpn hAW hnext hpW hbq hnb hf hoS hSb
            generalize sy own = y at *
            obtain ⟨N, hN⟩ : ∃ N, N = bi own := ⟨_, rfl⟩
            obtain ⟨B, hB⟩ : ∃ B, B = ba own := ⟨_, rfl⟩
            rw [← hN] at c2 hb12 HNX HTD HB d2 hrun hbs hnxt
            rw [← hB] at c3 HNX HTD d2 hrun hbs hnxt
            clear hN hB
            have hNI : (N : Int) ≤ 12 := by omega
            have hBI : (B : Int) < 4096 := by have := Nat.two_pow_pos N; omega
            have hyI : (y : Int) < 256 := by omega
            obtain ⟨nx, hnx⟩ : ∃ nx, nx = B + strm bs q N := ⟨_, rfl⟩
            have hnI : (B : Int) + ((strm bs q N : Nat) : Int) = (nx : Int) := by omega
            have hnxI : (nx : Int) < 4096 := by omega
            rw [← hnx] at HNX HTD
            clear hnx hbs hnxt
            have HWn := (show Hid (IntKind.i64.wrap (N : Int) = (N : Int)) from (by rw [IntKind.wrap_i64]; omega : IntKind.i64.wrap (N : Int) = (N : Int)))
            go_wp2_with (at_builtin; rw [← HX.out.2.2.2.2.1]; refine wpList_append_run _ rfl _ _ 22 rfl _ _ _ _ rfl rfl hrun ?_)
            clear hrun c1 c2 c3 cown
            go_region_held3 (fun W => W.cell? ⟨nb, 1, none⟩ = some (.int .u8 (N : Int)) ∧ W.cell? ⟨nb, 2, none⟩ = some (.int .u16 (B : Int))) (first | exact d2 | exact d3 | exact d6 _) ((first
              | (go_at_call 32; rw [HWn.out]; refine (HB.out 1).mono ?_; rintro e w8 ⟨rfl, hR3, hK3⟩; have HD3 := (show Hid (AtQ w8 rb g3 bs (q + N) ∧ Keep (fun k => k = rb) (W'.drewN 1) w8) from ⟨hR3, hK3⟩); clear hR3 hK3; have d3 : w8.cell? ⟨nb, 1, none⟩ = some (.int .u8 (N : Int)) ∧ w8.cell? ⟨nb, 2, none⟩ = some (.int .u16 (B : Int)) := (fun h => ⟨h.2.1, h.2.2.1⟩) (HNX.out w8 HD3.out.1 HD3.out.2); obtain ⟨x3, d4⟩ := (HNX.out w8 HD3.out.1 HD3.out.2).2.2.2.1; have d5 := (HNX.out w8 HD3.out.1 HD3.out.2).2.2.2.2.1; have d6 := (HNX.out w8 HD3.out.1 HD3.out.2).2.2.2.2.2)))
            have hwr : IntKind.i64.wrap (IntKind.i64.wrap (B : Int) + IntKind.i64.wrap ((strm bs q N : Nat) : Int)) = (nx : Int) := by
              rw [wrap_two _ _ (Int.natCast_nonneg _) (Int.natCast_nonneg _) (by rw [hnI]; exact hnxI), hnI]
            rw [hwr]
            have HU5 := (show Hid (Tq w rb g3 bs tg S sy bi ba pb (q + N) (if i = 0 then nx else a0) (if i = 0 then a1 else nx) (M ++ [y]) oa' (M.length + 1) oc' (w8.setCell ⟨pb, i, none⟩ (.int .i64 (nx : Int)))) from (HNX.out w8 HD3.out.1 HD3.out.2).1)
            clear hwr hnI d2 d3 d4 d5 d6 HB HWn HNX HD3
            generalize w8.setCell ⟨pb, i, none⟩ (.int .i64 (nx : Int)) = W5 at *
            have hcl := HU5.out.at_.is.left
            obtain ⟨zz, hzz⟩ : ∃ z : Int, z = ((Tl.tailLen bs : Nat) : Int) - ((q + N : Nat) : Int) := ⟨_, rfl⟩
            rw [← hzz] at hcl
            have hzb2 : -1000000 < zz ∧ zz < 1125899906842624 := by
              have := HH.out.2.2.1
              have := HX.out.2.2.2.2.2
              omega
            by_cases hsh2 : Tl.tailLen bs < q + N
            · have hzn2 : zz < 0 := by omega
              have HTe := (show Hid (TD = some (M ++ [y] ++ [sy oth])) from HTD.out.trans (if_pos hsh2))
              obtain ⟨oi, hoi⟩ : ∃ oi, oi = 1 - i := ⟨_, rfl⟩
              have hoiI : 1 - (i : Int) = (oi : Int) := by have := HX.out; omega
              have hoi2 : (oi : Int) < 2 := by omega
              have hothc : W5.cell? ⟨pb, oi, none⟩ = some (.int .i64 (oth : Int)) := by
                have h := cell_of HU5.out.pair oi
                have hx := HX.out
                rcases (show i = 0 ∨ i = 1 by omega) with rfl | rfl
                · rw [h, hoi, hx.2.1]; simp
                · rw [h, hoi, hx.2.1]; simp
              have hothS : oth < S := HX.out.2.2.1
              obtain ⟨c4, -, -⟩ := HU5.out.tab.cells oth hothS
              have hothI : (oth : Int) < (S : Int) := by omega
              have hso := HH.out.2.1 oth hothS
              obtain ⟨v7, W9, hrun7, hown7, hk7, hm7⟩ := own_push HU5.out.owns (sy oth) (by have := HU5.out.few; omega)
              have HE := (show Hid (W9.ownsRow 0 5 1 v7 (M ++ [y] ++ [sy oth]).length (u8s (M ++ [y] ++ [sy oth])) ∧ Keep noBlock w W9 ∧ ∀ k, v7.ownBlock = some k → w.heap.size ≤ k) from ⟨hown7, HU5.out.keep.trans hk7 (fun j hj e => by have := HU5.out.new j e; have := HZ.out; omega), fun k e => by
                rcases hm7 with e2 | ⟨j, e2, hj⟩
                · rw [e2] at e; have := HU5.out.new k e; have := HZ.out; omega
                · rw [e2] at e; cases e; have := HU5.out.keep.size; omega⟩)
              generalize sy oth = yo at *
              have hyo : (yo : Int) < 256 := by omega
              clear hown7 hk7 hm7 hoi hzz hsh2 hothS HTD
              go_wp2_with (at_builtin; refine wpList_append_run _ rfl _ _ 22 rfl _ _ _ _ rfl rfl hrun7 ?_)
              try simp only [Exit.noGoto]
              go_ret2
              exact ⟨_, HRl.out, tellD_some (HTDe.out.trans HTe.out) HE.out.2.1 HE.out.1 HE.out.2.2⟩
            · have hzn2 : ¬ zz < 0 := by omega
              have HTe := (show Hid _ from HTD.out.trans (if_neg hsh2))
              clear hzz hsh2 HTD
              obtain ⟨oi, hoi⟩ : ∃ oi, oi = 1 - i := ⟨_, rfl⟩
              have hoiI : 1 - (i : Int) = (oi : Int) := by have := HX.out; omega
              have hoi2 : (oi : Int) < 2 := by omega
              have HOI := (show Hid (oi = 1 - i) from hoi)
              clear hoi
              go_wp2_with fail
              go_roundw
              case rel =>
                have hx := HX.out
                refine ⟨oi, q + N, _, _, M ++ [y], oa', M.length + 1, oc', rfl, rfl, by omega, HU5.out, ?_⟩
                rw [HTe.out, hx.2.1, HOI.out]
                rcases (show i = 0 ∨ i = 1 by omega) with rfl | rfl
                · simp
                · simp
              case measure => simp only [sliceLen]; omega
end

end Go.Proofs.YtcoahkmiebeeeaaDoor

namespace Go.Proofs.YtcoahkmiebeeeaaDoor
open Go.RowKit Go.Shelf
set_option linter.unusedVariables false

/-- Program and document tell weights that make the same code, or none. -/
theorem readOf_tell (bs : List Nat) (R : Option (List Int × Nat × Nat)) : readOf (tellT bs R) = readOf (tellD bs R) := by
  cases hD : tellD bs R with
  | none =>
    cases hT : tellT bs R with
    | none => rfl
    | some M => have := ((tellT_iff bs R M).1 hT).1; rw [hD] at this; cases this
  | some M =>
    by_cases hl : M.length ≤ 255
    · rw [(tellT_iff bs R M).2 ⟨hD, hl⟩]
    · rw [readOf_no (whole_long M (by omega))]
      cases hT : tellT bs R with
      | none => rfl
      | some M' =>
        have h := (tellT_iff bs R M').1 hT
        rw [hD] at h
        have := h.2
        cases h.1
        omega

set_option maxRecDepth 100000 in
set_option maxHeartbeats 1000000 in
theorem readD_short (a : Option Addr) (cap gb off : Nat) (bs : List Nat) (w : World) (hB : Bytes w a cap gb off bs) (hs : bs.length < usedN (bs[0]?.getD 0)) :
    Calls Tryd.prog 11 #[.slice a bs.length cap] w fun e w' => e = .returned (.tuple #[.slice none 0 0, .int .i64 0, .int .i64 10]) ∧ w' = w := by
  by_cases h0 : bs.length = 0
  · rw [h0]
    go_enter Tryd.func11, Tryd.ntmps11
    go_wp2
    exact bodyPost_ret (by simp [results, Tryd.results11]) rfl ⟨rfl, rfl⟩
  · obtain rfl := hB.here (i := 0) (by omega)
    have c0 := hB.cells 0 (by omega)
    have hx := hB.lt 0
    rw [Nat.add_zero] at c0
    have h48 := hB.len
    obtain ⟨n, hn⟩ : ∃ n, n = bs.length := ⟨_, rfl⟩
    rw [← hn] at hs h0 h48 ⊢
    generalize bs[0]?.getD 0 = h at *
    have hn0 : ((n : Int) == 0) = false := by rw [beq_eq_false_iff_ne]; omega
    have hn1 : (0 : Int) < (n : Int) := by omega
    have hhI : (h : Int) < 256 := by omega
    unfold usedN at hs
    by_cases h128 : h ≤ 127
    · rw [if_pos h128] at hs
      have h128I : ¬ (128 : Int) ≤ (h : Int) := by omega
      have hsI : (n : Int) < 1 + (h : Int) := by omega
      clear hB hn h48
      go_enter Tryd.func11, Tryd.ntmps11
      go_wp2
      exact bodyPost_ret (by simp [results, Tryd.results11]) rfl ⟨rfl, rfl⟩
    · rw [if_neg h128] at hs
      have h128I : (128 : Int) ≤ (h : Int) := by omega
      obtain ⟨d, hd⟩ : ∃ d, d = (h - 127 + 1) / 2 := ⟨_, rfl⟩
      have hdI : ((h : Int) - 127 + 1) / 2 = (d : Int) := by omega
      have hdT : ((h : Int) - 127 + 1).tdiv 2 = (d : Int) := by rw [Int.tdiv_eq_ediv_of_nonneg (by omega)]; exact hdI
      have hsI : (n : Int) < 1 + (d : Int) := by omega
      have hd2 : (d : Int) < 100 := by omega
      clear hB hn h48 hd hs h128
      go_enter Tryd.func11, Tryd.ntmps11
      go_wp2
      exact bodyPost_ret (by simp [results, Tryd.results11]) rfl ⟨rfl, rfl⟩

end Go.Proofs.YtcoahkmiebeeeaaDoor

namespace Go.Proofs.YtcoahkmiebeeeaaDoor
open Go.RowKit Go.Shelf
set_option linter.unusedVariables false

theorem run_mid5 (a : Option Addr) (len cap k m : Nat) (h1 : k ≤ m) (h2 : m ≤ cap) (w : World) :
    (sliceSem 22 (.slice a len cap) (some (.int .i64 (k : Int))) (some (.int .i64 (m : Int))) none).run Tryd.prog w = .ok (.slice (if cap = k then a else a.map (fun x => x.add k)) (m - k) (cap - k)) w := by
  obtain ⟨i0, hi, hz0, hz1, hz2⟩ := info_parts info5
  simp [sliceSem, Instr.slice, run_underlying Tryd.underlying22, Instr.sliceBounds, Instr.sliceBound, asIntOf, h1, h2, sizeOf, typeInfo, hi, hz1]

theorem turnsF_lt {sy bi ba : Nat → Nat} {bs : List Nat} {S : Nat} (hW : Within bi ba S) (hsy : ∀ i, i < S → sy i < 256) : ∀ (f own other q : Nat) (M : List Nat), own < S → other < S → turnsF sy bi ba bs f own other q = some M → ∀ x ∈ M, x < 256 := by
  intro f
  induction f with
  | zero => intro own other q M _ _ h; cases h
  | succ f ih =>
    intro own other q M h1 h2 h
    rw [turnsF_succ] at h
    split at h
    · cases h
      intro x hx
      simp only [List.mem_cons, List.not_mem_nil, or_false] at hx
      rcases hx with rfl | rfl
      · exact hsy _ h1
      · exact hsy _ h2
    · obtain ⟨M', h3, rfl⟩ := Option.map_eq_some_iff.1 h
      intro x hx
      rcases List.mem_cons.1 hx with rfl | hx
      · exact hsy _ h1
      · exact ih _ _ _ _ h2 (within_next hW bs q own h1) h3 x hx
theorem tellD_lt {ds : List Nat} {R : Option (List Int × Nat × Nat)} {M : List Nat} (hR : RdRel ds 6 11 R) (h : tellD ds R = some M) : ∀ j : Nat, M[j]?.getD 0 < 256 := by
  cases R with
  | none => cases h
  | some r =>
    obtain ⟨xs, l, u⟩ := r
    obtain ⟨ok, hI16, hxl, hxne, hub, hl6, hl5, hu1⟩ := hR.ok (by omega) (by omega)
    unfold tellD at h
    dsimp only at h
    split at h
    · cases h
    · unfold toldD at h
      split at h
      · cases h
      · exact lt256 (turnsF_lt (within_ok ok (by omega)) (fun i hi => symF_256 ok (by omega) i hi) _ _ _ _ _ (strm_lt _ _ _) (strm_lt _ _ _) h)

section
attribute [local go_sem] sliceSem_eq
set_option maxRecDepth 100000 in
set_option maxHeartbeats 1000000 in
theorem readD_states (a : Option Addr) (cap gb off : Nat) (bs : List Nat) (u : Nat) (w : World) (hB : Bytes w a cap gb off bs) (hne : bs ≠ []) (h1 : bs[0]?.getD 0 ≤ 127) (hu : u = 1 + bs[0]?.getD 0) (hs : u ≤ bs.length) :
    Calls Tryd.prog 11 #[.slice a bs.length cap] w fun e w' => ∃ R, RdRel ((bs.take u).drop 1) 6 11 R ∧ ReadPost (readOf (tellD ((bs.take u).drop 1) R)) u w e w' := by
  have hpos : 0 < bs.length := List.length_pos_iff.2 hne
  obtain rfl := hB.here (i := 0) hpos
  have c0 := hB.cells 0 hpos
  rw [Nat.add_zero] at c0
  have h48 := hB.len
  have hcap := hB.cap
  have hBt := (hB.take u hs).2
  have htl : (bs.take u).length = u := by rw [List.length_take]; omega
  obtain ⟨a', off', hrun2, hB', -⟩ := hBt.drop 1 (by rw [htl]; omega)
  have hea : (if cap = 1 then (some ⟨gb, off, none⟩ : Option Addr) else (some ⟨gb, off, none⟩ : Option Addr).map (fun x => x.add 1)) = a' := by
    have e1 := run_low5 (some ⟨gb, off, none⟩) (bs.take u).length cap 1 (by rw [htl]; omega) w
    rw [hrun2 w] at e1
    injection e1 with e1
    injection e1 with e1
    exact e1.symm
  have hrun : ∀ W, _ := fun W => run_mid5 (some ⟨gb, off, none⟩) bs.length cap 1 u (by omega) (by omega) W
  rw [hea] at hrun
  obtain ⟨ds, hds⟩ : ∃ ds, ds = (bs.take u).drop 1 := ⟨_, rfl⟩
  have hdl : ds.length = u - 1 := by rw [hds, List.length_drop, htl]
  rw [← hds] at hB' ⊢
  have HS := (show Hid (Calls Tryd.prog 19 #[.slice a' (u - 1) (cap - 1)] w fun e w' => ∃ R, RdRel ds 6 11 R ∧ TellPost (tellD ds R) w e w') from by
    have := statesD_any a' (cap - 1) gb off' ds w hB' (by omega)
    rw [hdl] at this
    exact this)
  obtain ⟨n, hn⟩ : ∃ n, n = bs.length := ⟨_, rfl⟩
  rw [← hn] at hrun hs hpos h48 ⊢
  rw [show (((1 : Nat) : Int)) = (1 : Int) from rfl] at hrun
  obtain ⟨h, hh⟩ : ∃ h, h = bs[0]?.getD 0 := ⟨_, rfl⟩
  rw [← hh] at h1 hu c0
  have hgt : ¬ (128 : Int) ≤ (h : Int) := by omega
  have huI : 1 + (h : Int) = (u : Int) := by omega
  have hu128 : (u : Int) ≤ 128 := by omega
  have hsI : ¬ (n : Int) < (u : Int) := by omega
  have hn0 : ((n : Int) == 0) = false := by rw [beq_eq_false_iff_ne]; omega
  have hn1 : (0 : Int) < (n : Int) := by omega
  have hhI : (h : Int) < 256 := by omega
  obtain ⟨k, hk⟩ : ∃ k, k = u - 1 := ⟨_, rfl⟩
  obtain ⟨c', hc'⟩ : ∃ c', c' = cap - 1 := ⟨_, rfl⟩
  rw [← hk, ← hc'] at hrun HS
  clear hB hBt htl hB' hea hrun2 hds hdl hn hh h48 hcap hk hc' hu h1 hne
  go_enter Tryd.func11, Tryd.ntmps11
  go_wp2_with fail
  refine HS.out.mono ?_
  rintro e w1 ⟨R, hR, hK1, hm⟩
  have HR := (show Hid (RdRel ds 6 11 R) from hR)
  clear hR HS
  obtain ⟨T, hTe⟩ : ∃ T, tellD ds R = T := ⟨_, rfl⟩
  rw [hTe] at hm
  have HTe := (show Hid (tellD ds R = T) from hTe)
  clear hTe
  cases T with
  | none =>
    obtain rfl : e = .returned (.tuple #[.slice none 0 0, .bool false]) := hm
    have HK := (show Hid (Keep noBlock w w1) from hK1)
    clear hK1
    go_wp2_with fail
    refine bodyPost_ret (by simp [results, Tryd.results11]; rfl) rfl ⟨R, HR.out, ?_⟩
    rw [HTe.out]
    exact ⟨HK.out, rfl⟩
  | some M =>
    obtain ⟨v, rfl, hown, hnew⟩ := hm
    have hlt := tellD_lt HR.out HTe.out
    have hlM : M.length < 2 ^ 48 := by
      have h := HTe.out
      have : M.length ≤ 258 := by
        cases R with
        | none => cases h
        | some r =>
          obtain ⟨xs, l, u⟩ := r
          unfold tellD at h
          dsimp only at h
          split at h
          · cases h
          · unfold toldD at h
            split at h
            · cases h
            · exact (turnsF_len _ _ _ _ _ h).1
      omega
    obtain ⟨a2, cap2, g2, rfl, hB2, hg2⟩ := owns_bytes hown hlt hlM
    have HL := (show Hid (Calls Tryd.prog 20 _ w1 _) from whole_any a2 cap2 g2 0 M w1 hB2)
    have HK := (show Hid (Keep noBlock w w1) from hK1)
    obtain ⟨L0, hL0⟩ : ∃ L0, L0 = M.length := ⟨_, rfl⟩
    rw [← hL0] at HL ⊢
    clear hown hnew hK1 hlt hlM hB2 hg2 hL0
    go_wp2_with fail
    refine HL.out.mono ?_
    rintro e w2 ⟨hK2, hP⟩
    have HK2 := (show Hid (Keep noBlock w w2) from HK.out.trans' hK2)
    rcases hP with ⟨hc, v2, rfl, hown2, hnew2⟩ | ⟨hc, v2, rfl⟩
    · obtain ⟨sb, bcap, rfl⟩ := owns_form hown2
      have HO := (show Hid (w2.ownsRow 0 5 1 (.slice sb (M ++ [lastW M]).length bcap) (M ++ [lastW M]).length (u8s (M ++ [lastW M])) ∧ readOf (some M) = some (M ++ [lastW M])) from ⟨hown2, readOf_yes hc⟩)
      obtain ⟨L, hL⟩ : ∃ L, L = (M ++ [lastW M]).length := ⟨_, rfl⟩
      rw [← hL] at HO ⊢
      have HLL := (show Hid (L = (M ++ [lastW M]).length) from hL)
      clear hL
      clear hown2 hnew2 hK2
      go_wp2_with fail
      refine bodyPost_ret (by simp [results, Tryd.results11]; rfl) rfl ⟨R, HR.out, ?_⟩
      rw [HTe.out, HO.out.2]
      exact ⟨HK2.out, _, rfl, by rw [← HLL.out]; exact HO.out.1⟩
    · have HO := (show Hid (readOf (some M) = none) from readOf_no hc)
      clear hK2
      go_wp2_with fail
      refine bodyPost_ret (by simp [results, Tryd.results11]; rfl) rfl ⟨R, HR.out, ?_⟩
      rw [HTe.out, HO.out]
      exact ⟨HK2.out, rfl⟩
end

end Go.Proofs.YtcoahkmiebeeeaaDoor

namespace Go.Proofs.YtcoahkmiebeeeaaDoor
open Go.RowKit Go.Shelf
set_option linter.unusedVariables false

theorem fours_and (y i : Nat) (hy : y < 256) : bits .and .u8 (IntKind.u8.wrap ((y : Int) / 2 ^ (4 * (1 - i % 2)))) 15 = ((if i % 2 = 1 then y % 16 else y / 16 : Nat) : Int) := by
  rcases (show i % 2 = 0 ∨ i % 2 = 1 by omega) with e | e
  · rw [e, if_neg (by omega)]
    revert y
    decide +kernel
  · rw [e, if_pos rfl]
    revert y
    decide +kernel

set_option maxRecDepth 100000 in
set_option maxHeartbeats 1000000 in
theorem readD_fours (a : Option Addr) (cap gb off : Nat) (bs : List Nat) (n : Nat) (w : World) (hB : Bytes w a cap gb off bs) (hne : bs ≠ []) (h1 : bs[0]?.getD 0 = n + 127) (h2 : 1 ≤ n) (h3 : (n + 1) / 2 + 1 ≤ bs.length) :
    Calls Tryd.prog 11 #[.slice a bs.length cap] w fun e w' => ReadPost (readOf (some ((List.range n).map (fourW (bs.drop 1))))) (1 + (n + 1) / 2) w e w' := by
  have hpos : 0 < bs.length := List.length_pos_iff.2 hne
  obtain rfl := hB.here (i := 0) hpos
  have c0 := hB.cells 0 hpos
  have hx := hB.lt 0
  rw [Nat.add_zero] at c0
  have h48 := hB.len
  have hgbw := hB.block hne
  obtain ⟨N, hN⟩ : ∃ N, N = bs.length := ⟨_, rfl⟩
  rw [← hN] at hpos h48 h3 ⊢
  obtain ⟨h, hh⟩ : ∃ h, h = bs[0]?.getD 0 := ⟨_, rfl⟩
  rw [← hh] at h1 hx c0
  obtain ⟨d, hd⟩ : ∃ d, d = (n + 1) / 2 := ⟨_, rfl⟩
  rw [← hd] at h3 ⊢
  have hdI : ((n : Int) + 1) / 2 = (d : Int) := by omega
  have hdT : ((n : Int) + 1).tdiv 2 = (d : Int) := by rw [Int.tdiv_eq_ediv_of_nonneg (by omega)]; exact hdI
  have hgt : (128 : Int) ≤ (h : Int) := by omega
  have hnI : (h : Int) - 127 = (n : Int) := by omega
  have hhI : (h : Int) < 256 := by omega
  have hsI : ¬ (N : Int) < 1 + (d : Int) := by omega
  have hn0 : ((N : Int) == 0) = false := by rw [beq_eq_false_iff_ne]; omega
  have hn1 : (0 : Int) < (N : Int) := by omega
  have hd2 : (d : Int) < 100 := by omega
  have hn128 : (n : Int) ≤ 128 := by omega
  have HB := (show Hid (Bytes w (some ⟨gb, off, none⟩) cap gb off bs ∧ N = bs.length ∧ d = (n + 1) / 2 ∧ d + 1 ≤ N ∧ gb < w.heap.size ∧ n ≤ 128) from ⟨hB, hN, hd, h3, hgbw, by omega⟩)
  clear hB hN hh h1 hd h3 h48 hne hgbw hx
  go_enter Tryd.func11, Tryd.ntmps11
  go_wp2
  go_loopw [6, 8] (fun v6 v8 wr => ∃ (i : Nat) (sa : Option Addr) (sn sc : Nat), v6 = .slice sa sn sc ∧ v8 = .int .i64 (i : Int) ∧ i ≤ n ∧ sn = i ∧ Hid (wr.ownsRow 0 5 1 (.slice sa sn sc) ((List.range i).map (fourW (bs.drop 1))).length (u8s ((List.range i).map (fourW (bs.drop 1)))) ∧ (∀ k, (Value.slice sa sn sc).ownBlock = some k → w.heap.size ≤ k) ∧ Keep noBlock w wr)) (fun _ v8 _ => n - (intOf v8).toNat)
  case atStart => exact ⟨0, none, 0, 0, rfl, rfl, Nat.zero_le _, rfl, World.ownsRow_nil _ _ _ _, (fun k e => by cases e), Keep.refl _ _⟩
  case round =>
    obtain ⟨i, sa, sn, sc, rfl, rfl, hi, rfl, HC⟩ := hrel
    by_cases hlt : sn < n
    · have hltI : (sn : Int) < (n : Int) := by omega
      obtain ⟨hown, hnew, hK⟩ := HC.out
      obtain ⟨e, he⟩ : ∃ e, e = sn / 2 := ⟨_, rfl⟩
      have heI : (sn : Int) / 2 = (e : Int) := by omega
      have heT : (sn : Int).tdiv 2 = (e : Int) := by rw [Int.tdiv_eq_ediv_of_nonneg (by omega)]; exact heI
      have hb := HB.out
      have h1e : 1 + e < bs.length := by omega
      have hBr := hb.1.keep hK (fun _ h => h)
      have c1 := hBr.cells (1 + e) h1e
      have hy256 := hb.1.lt (1 + e)
      have heN : 1 + (e : Int) < (N : Int) := by omega
      obtain ⟨r, hr⟩ : ∃ r, r = sn % 2 := ⟨_, rfl⟩
      have hrI : (sn : Int) % 2 = (r : Int) := by omega
      have hrT : (sn : Int).tmod 2 = (r : Int) := by rw [Int.tmod_eq_emod_of_nonneg (by omega)]; exact hrI
      have hfw : fourW (bs.drop 1) sn = if sn % 2 = 1 then bs[1 + e]?.getD 0 % 16 else bs[1 + e]?.getD 0 / 16 := by
        unfold fourW
        rw [List.getElem?_drop, he]
      obtain ⟨y, hy⟩ : ∃ y, y = bs[1 + e]?.getD 0 := ⟨_, rfl⟩
      rw [← hy] at c1 hy256 hfw
      have hand := fours_and y sn hy256
      rw [← hfw] at hand
      have hmap : (List.range (sn + 1)).map (fourW (bs.drop 1)) = (List.range sn).map (fourW (bs.drop 1)) ++ [fourW (bs.drop 1) sn] := by rw [List.range_succ, List.map_append]; rfl
      have hml : ((List.range sn).map (fourW (bs.drop 1))).length = sn := by simp
      obtain ⟨z, hz⟩ : ∃ z, z = fourW (bs.drop 1) sn := ⟨_, rfl⟩
      rw [← hz] at hand hmap
      have hz16 : z < 256 := by rw [hz, hfw]; split <;> omega
      obtain ⟨v', W', hrun, hown5, hk5, hm5⟩ := own_push hown z (by omega)
      rw [← hmap] at hown5
      obtain ⟨oa', oc', hv'⟩ := owns_form hown5
      have hml2 : ((List.range (sn + 1)).map (fourW (bs.drop 1))).length = sn + 1 := by simp
      rw [hml2] at hv'
      subst hv'
      have HE := (show Hid (W'.ownsRow 0 5 1 (.slice oa' (sn + 1) oc') ((List.range (sn + 1)).map (fourW (bs.drop 1))).length (u8s ((List.range (sn + 1)).map (fourW (bs.drop 1)))) ∧ (∀ k, (Value.slice oa' (sn + 1) oc').ownBlock = some k → w.heap.size ≤ k) ∧ Keep noBlock w W') from ⟨hown5, fun k e => by
        rcases hm5 with e2 | ⟨j, e2, hj⟩
        · rw [e2] at e; exact hnew k e
        · rw [e2] at e; cases e; have := hK.size; omega, hK.trans hk5 (fun j hj e => by have := hnew j e; omega)⟩)
      have hzI : (z : Int) < 256 := by omega
      have hyI : (y : Int) < 256 := by omega
      have hsn : (sn : Int) ≤ 128 := by omega
      have heb : (e : Int) ≤ 64 := by omega
      rcases (show sn % 2 = 0 ∨ sn % 2 = 1 by omega) with h0 | h0
      · have hmI : (sn : Int) % 2 = 0 := by omega
        have hmT : (sn : Int).tmod 2 = 0 := by rw [Int.tmod_eq_emod_of_nonneg (by omega)]; exact hmI
        rw [h0] at hand
        have hq : (y : Int) / 2 ^ (4 * (1 - 0)) = (y : Int) / 16 := rfl
        have hw16 : IntKind.u8.wrap ((y : Int) / 16) = (y : Int) / 16 := by rw [IntKind.wrap_u8]; omega
        rw [hq, hw16] at hand
        obtain ⟨y16, hy16⟩ : ∃ y16 : Nat, (y : Int) / 16 = (y16 : Int) := ⟨y / 16, by omega⟩
        rw [hy16] at hand
        have hy16b : (y16 : Int) < 16 := by omega
        clear hq hw16
        clear hown hnew hK he hb hBr hr hrI hrT hfw hy hz hmap hml hown5 hk5 hm5 hml2 HC h0 hz16 h1e hy256 hdI hdT hsI hd2 hgt
        go_wp2_with (at_builtin; refine wpList_append_run _ rfl _ _ 22 rfl _ _ _ _ rfl rfl hrun ?_)
        go_roundw
        case rel => exact ⟨sn + 1, oa', sn + 1, oc', rfl, by go_num, by omega, rfl, HE.out⟩
        case measure => simp [intOf]; omega
      · have hmI : (sn : Int) % 2 = 1 := by omega
        have hmT : (sn : Int).tmod 2 = 1 := by rw [Int.tmod_eq_emod_of_nonneg (by omega)]; exact hmI
        rw [h0] at hand
        have hq : (y : Int) / 2 ^ (4 * (1 - 1)) = (y : Int) := by simp
        have hw16 : IntKind.u8.wrap (y : Int) = (y : Int) := by rw [IntKind.wrap_u8]; omega
        rw [hq, hw16] at hand
        clear hq hw16
        clear hown hnew hK he hb hBr hr hrI hrT hfw hy hz hmap hml hown5 hk5 hm5 hml2 HC h0 hz16 h1e hy256 hdI hdT hsI hd2 hgt
        go_wp2_with (at_builtin; refine wpList_append_run _ rfl _ _ 22 rfl _ _ _ _ rfl rfl hrun ?_)
        go_roundw
        case rel => exact ⟨sn + 1, oa', sn + 1, oc', rfl, by go_num, by omega, rfl, HE.out⟩
        case measure => simp [intOf]; omega
    · obtain rfl : sn = n := by omega
      have hltI : ¬ (sn : Int) < (sn : Int) := by omega
      obtain ⟨hown, hnew, hK⟩ := HC.out
      obtain ⟨M, hM⟩ : ∃ M, M = (List.range sn).map (fourW (bs.drop 1)) := ⟨_, rfl⟩
      have hML : M.length = sn := by rw [hM]; simp
      rw [← hM] at hown
      have HMe := (show Hid (M = (List.range sn).map (fourW (bs.drop 1))) from hM)
      have hlt : ∀ j : Nat, M[j]?.getD 0 < 256 := by
        refine lt256 (fun b hb => ?_)
        rw [hM] at hb
        obtain ⟨j, -, rfl⟩ := List.mem_map.1 hb
        have := fourW_lt (bs.drop 1) j (lt_drop HB.out.1.lt 1)
        omega
      obtain ⟨a2, cap2, g2, hv2, hB2, hg2⟩ := owns_bytes hown hlt (by omega)
      have HL := (show Hid (Calls Tryd.prog 20 #[.slice sa sn sc] wr _) from by
        have := whole_any a2 cap2 g2 0 M wr hB2
        rw [← hv2] at this
        exact this)
      have HK := (show Hid (Keep noBlock w wr) from hK)
      clear hown hnew hK hlt hv2 hB2 hg2 HC hM hML
      go_wp2_with fail
      refine HL.out.mono ?_
      rintro e w2 ⟨hK2, hP⟩
      have HK2 := (show Hid (Keep noBlock w w2) from HK.out.trans' hK2)
      rcases hP with ⟨hc, v2, rfl, hown2, hnew2⟩ | ⟨hc, v2, rfl⟩
      · obtain ⟨sb, bcap, rfl⟩ := owns_form hown2
        have HO := (show Hid (w2.ownsRow 0 5 1 (.slice sb (M ++ [lastW M]).length bcap) (M ++ [lastW M]).length (u8s (M ++ [lastW M])) ∧ readOf (some M) = some (M ++ [lastW M])) from ⟨hown2, readOf_yes hc⟩)
        obtain ⟨L, hL⟩ : ∃ L, L = (M ++ [lastW M]).length := ⟨_, rfl⟩
        rw [← hL] at HO ⊢
        have HLL := (show Hid (L = (M ++ [lastW M]).length) from hL)
        clear hL
        clear hown2 hnew2 hK2
        go_wp2_with fail
        refine bodyPost_ret (v := .tuple #[.slice sb L bcap, .int .i64 ((1 + d : Nat) : Int), .int .i64 0]) (by simp [results, Tryd.results11]) rfl ?_
        rw [← HMe.out, HO.out.2]
        exact ⟨HK2.out, _, rfl, by rw [← HLL.out]; exact HO.out.1⟩
      · have HO := (show Hid (readOf (some M) = none) from readOf_no hc)
        clear hK2
        go_wp2_with fail
        refine bodyPost_ret (v := .tuple #[.slice none 0 0, .int .i64 0, .int .i64 11]) (by simp [results, Tryd.results11]) rfl ?_
        rw [← HMe.out, HO.out]
        exact ⟨HK2.out, rfl⟩

end Go.Proofs.YtcoahkmiebeeeaaDoor

namespace Go.Proofs.YtcoahkmiebeeeaaDoor
open Go.RowKit Go.Shelf
set_option linter.unusedVariables false

/-- What Read answers: an error, weights, how many bytes were used. -/
def RAns (c u : Nat) (V : List Nat) (w : World) (e : Ending) (w' : World) : Prop :=
  Keep noBlock w w' ∧ ∃ a n cap, e = .returned (.tuple #[.slice a n cap, .int .i64 (u : Int), .int .i64 (c : Int)]) ∧ n = V.length ∧ w'.ownsRow 0 5 1 (.slice a n cap) n (u8s V)
theorem rans_of {R : Option (List Nat)} {u : Nat} {w w' : World} {e : Ending} (h : ReadPost R u w e w') : RAns (if R = none then 11 else 0) (if R = none then 0 else u) (R.getD []) w e w' := by
  obtain ⟨hk, hm⟩ := h
  cases R with
  | none => exact ⟨hk, none, 0, 0, hm, rfl, World.ownsRow_nil _ _ _ _⟩
  | some ws =>
    obtain ⟨v, rfl, ho⟩ := hm
    obtain ⟨a, cap, rfl⟩ := owns_form ho
    exact ⟨hk, a, _, cap, rfl, rfl, ho⟩
theorem rans_short {w w' : World} {e : Ending} (h : e = .returned (.tuple #[.slice none 0 0, .int .i64 0, .int .i64 10]) ∧ w' = w) : RAns 10 0 [] w e w' := by
  obtain ⟨rfl, rfl⟩ := h
  exact ⟨Keep.refl _ _, none, 0, 0, rfl, rfl, World.ownsRow_nil _ _ _ _⟩

/-- Both Reads answer the same. -/
theorem read_both (bs : List Nat) : ∃ (c u : Nat) (V : List Nat),
    (∀ (a : Option Addr) (cap gb off : Nat) (w : World), Bytes w a cap gb off bs → Calls Tryd.prog 17 #[.slice a bs.length cap] w fun e w' => RAns c u V w e w') ∧
    (∀ (a : Option Addr) (cap gb off : Nat) (w : World), Bytes w a cap gb off bs → Calls Tryd.prog 11 #[.slice a bs.length cap] w fun e w' => RAns c u V w e w') := by
  by_cases hs : bs.length < usedN (bs[0]?.getD 0)
  · exact ⟨10, 0, [], fun a cap gb off w hB => (read_short a cap gb off bs w hB hs).mono fun e w' h => rans_short h, fun a cap gb off w hB => (readD_short a cap gb off bs w hB hs).mono fun e w' h => rans_short h⟩
  · have hu : 1 ≤ usedN (bs[0]?.getD 0) := by unfold usedN; split <;> omega
    have hne : bs ≠ [] := by intro e; rw [e] at hs hu; exact hs hu
    have htl : (bs.take (usedN (bs[0]?.getD 0))).length = usedN (bs[0]?.getD 0) := by rw [List.length_take]; omega
    have ht0 : (bs.take (usedN (bs[0]?.getD 0)))[0]?.getD 0 = bs[0]?.getD 0 := by rw [List.getElem?_take, if_pos (by omega)]
    have htne : bs.take (usedN (bs[0]?.getD 0)) ≠ [] := by intro h; rw [h] at htl; simp at htl; omega
    by_cases h1 : bs[0]?.getD 0 ≤ 127
    · have hue : usedN (bs[0]?.getD 0) = 1 + bs[0]?.getD 0 := if_pos h1
      obtain ⟨u, hu2⟩ : ∃ u, u = usedN (bs[0]?.getD 0) := ⟨_, rfl⟩
      rw [← hu2] at hs htl ht0 htne hue hu
      obtain ⟨R0, hR0⟩ : ∃ R0, ∀ R, RdRel ((bs.take u).drop 1) 6 11 R → R = R0 := by
        by_cases h : ∃ R, RdRel ((bs.take u).drop 1) 6 11 R
        · obtain ⟨R, hR⟩ := h
          exact ⟨R, fun R' h' => h'.det hR⟩
        · exact ⟨none, fun R' h' => absurd ⟨R', h'⟩ h⟩
      refine ⟨if readOf (tellD ((bs.take u).drop 1) R0) = none then 11 else 0, if readOf (tellD ((bs.take u).drop 1) R0) = none then 0 else u, (readOf (tellD ((bs.take u).drop 1) R0)).getD [], fun a cap gb off w hB => ?_, fun a cap gb off w hB => ((readD_states a cap gb off bs u w hB hne h1 hue (by omega)).mono fun e w' h => ?_)⟩
      · by_cases hex : RdRel ((bs.take u).drop 1) 6 11 R0
        · have hT := (tell_states a cap gb off (bs.take u) w (hB.take u (by omega)).2 htne (by rw [ht0]; exact h1) (by omega)).mono (fun e w' h => show TellPost (tellT ((bs.take u).drop 1) R0) w e w' from by
            obtain ⟨R, hR, h⟩ := h
            rw [hR0 R hR] at h
            exact h)
          have := read_told a cap gb off bs u _ w hB hne hu2 (by omega) hT (fun M hM => by
            have h := (tellT_iff _ _ _).1 hM
            exact ⟨h.2, tellD_lt hex h.1⟩)
          rw [readOf_tell] at this
          exact this.mono fun e w' h => rans_of h
        · obtain ⟨e, w', fr, ⟨R, hR, -⟩, -⟩ := (tell_states a cap gb off (bs.take u) w (hB.take u (by omega)).2 htne (by rw [ht0]; exact h1) (by omega)) []
          rw [hR0 R hR] at hR
          exact absurd hR hex
      · obtain ⟨R, hR, h⟩ := h
        rw [hR0 R hR] at h
        exact rans_of h
    · have hue : usedN (bs[0]?.getD 0) = 1 + (bs[0]?.getD 0 - 127 + 1) / 2 := if_neg h1
      obtain ⟨u, hu2⟩ : ∃ u, u = usedN (bs[0]?.getD 0) := ⟨_, rfl⟩
      rw [← hu2] at hs htl ht0 htne hue hu
      obtain ⟨n, hn⟩ : ∃ n, n = bs[0]?.getD 0 - 127 := ⟨_, rfl⟩
      rw [← hn] at hue
      have hfe : (List.range n).map (fourW ((bs.take u).drop 1)) = (List.range n).map (fourW (bs.drop 1)) := by
        refine List.map_congr_left fun k hk => ?_
        have hk' := List.mem_range.1 hk
        have : ((bs.take u).drop 1)[k / 2]? = (bs.drop 1)[k / 2]? := by rw [List.getElem?_drop, List.getElem?_drop, List.getElem?_take, if_pos (by omega)]
        unfold fourW
        rw [this]
      refine ⟨_, _, _, fun a cap gb off w hB => ?_, fun a cap gb off w hB => ((readD_fours a cap gb off bs n w hB hne (by omega) (by omega) (by omega)).mono fun e w' h => by rw [← hue] at h; exact rans_of h)⟩
      have hx := hB.lt 0
      have hT := tell_fours a cap gb off (bs.take u) n w (hB.take u (by omega)).2 htne (by rw [ht0]; omega) (by omega) (by omega)
      rw [hfe] at hT
      exact (read_told a cap gb off bs u _ w hB hne hu2 (by omega) hT (fun M hM => by
        cases hM
        refine ⟨by simp; omega, lt256 (fun b hb => ?_)⟩
        obtain ⟨j, -, rfl⟩ := List.mem_map.1 hb
        have := fourW_lt (bs.drop 1) j (lt_drop hB.lt 1)
        omega)).mono fun e w' h => rans_of h

end Go.Proofs.YtcoahkmiebeeeaaDoor

namespace Go.Proofs.YtcoahkmiebeeeaaDoor
open Go.RowKit Go.Shelf
set_option linter.unusedVariables false

/-- Literals and weights, or that there are none. -/
def TAns (o : Option (List Nat × List Nat)) (w : World) (e : Ending) (w' : World) : Prop :=
  Keep noBlock w w' ∧ match o with
    | none => ∃ v1 v2, e = .returned (.tuple #[v1, v2, .bool false])
    | some p => ∃ a1 n1 c1 g1 o1 a2 n2 c2 g2 o2, e = .returned (.tuple #[.slice a1 n1 c1, .slice a2 n2 c2, .bool true]) ∧ n1 = p.1.length ∧ n2 = p.2.length ∧ Bytes w' a1 c1 g1 o1 p.1 ∧ Bytes w' a2 c2 g2 o2 p.2
/-- What Read of weights tells of these bytes. -/
def RdW (bs : List Nat) (c u : Nat) (V : List Nat) : Prop := ∀ (a : Option Addr) (cap gb off : Nat) (w : World), Bytes w a cap gb off bs → Calls Tryd.prog 17 #[.slice a bs.length cap] w fun e w' => RAns c u V w e w'

theorem unpL_ok {ws bs l : List Nat} {size n : Nat} (hs : size ≤ 131072) (hn1 : 1 ≤ n) (hn4 : n ≤ 4) (h : unpL ws bs size n = some l) : l.length ≤ 524304 ∧ ∀ j : Nat, l[j]?.getD 0 < 256 := by
  unfold unpL at h
  cases hc : cutL bs size n with
  | none => rw [hc] at h; cases h
  | some R =>
    rw [hc] at h
    have h2 : unpR ws R = some l := h
    have hR : R.length = n ∧ ∀ (i : Nat) x, R[i]? = some x → x.2 ≤ 131076 := by
      unfold cutL at hc
      split at hc
      · cases hc
      · split at hc
        · cases hc
          exact ⟨rowsN_length _ _ _ _ hn1, fun i x hx => by have := (rowsN_small hn1 hx).2; omega⟩
        · cases hc
    unfold unpR at h2
    split at h2
    · cases h2
      have e : R.flatMap (fun r => unpV ws r.1 (r.2 : Int)) = accR ws R n := by unfold accR; rw [List.take_of_length_le (by omega)]
      refine ⟨?_, lt256 fun b hb => ?_⟩
      · rw [e]
        refine Nat.le_trans (accR_len (B := 131076) hR.2 n) (Nat.le_trans (Nat.mul_le_mul_right _ hn4) (by decide))
      · obtain ⟨r, -, hb⟩ := List.mem_flatMap.1 hb
        exact lt_mem (unpV_lt ws r.1 (r.2 : Int)) b hb
    · cases h2

section
attribute [local go_sem] sliceSem_eq
set_option maxRecDepth 100000 in
set_option maxHeartbeats 1000000 in
theorem tell_raw (hb fr bt n size pk : Nat) (a : Option Addr) (cap gb off : Nat) (cs : List Nat) (a2 : Option Addr) (cap2 gb2 off2 : Nat) (ws : List Nat) (w : World) (hB : Bytes w a cap gb off cs) (hB2 : Bytes w a2 cap2 gb2 off2 ws) (hl : cs.length ≤ 1048576) (hl2 : ws.length ≤ 140737488355327) :
    Calls Tryd.prog 9 #[headV 0 hb fr bt n size pk, .slice a cs.length cap, .slice a2 ws.length cap2] w fun e w' => TAns (some (cs, ws)) w e w' := by
  unfold headV
  have HC := hid (show ∀ W, Keep noBlock w W → Calls Tryd.prog 14 #[.slice a cs.length cap] W fun e w' => Keep noBlock W w' ∧ ∃ a' n cap' g, e = .returned (.slice a' n cap') ∧ n = cs.length ∧ Bytes w' a' cap' g 0 cs from fun W hW => cloneB_any a cap gb off cs W (hB.keep hW (fun _ h => h)) (by omega))
  have HD := hid (show ∀ W, Keep noBlock w W → Calls Tryd.prog 14 #[.slice a2 ws.length cap2] W fun e w' => Keep noBlock W w' ∧ ∃ a' n cap' g, e = .returned (.slice a' n cap') ∧ n = ws.length ∧ Bytes w' a' cap' g 0 ws from fun W hW => cloneB_any a2 cap2 gb2 off2 ws W (hB2.keep hW (fun _ h => h)) hl2)
  obtain ⟨L, hL⟩ : ∃ L, L = cs.length := ⟨_, rfl⟩
  obtain ⟨Lw, hLw⟩ : ∃ Lw, Lw = ws.length := ⟨_, rfl⟩
  rw [← hL] at HC ⊢
  rw [← hLw] at HD ⊢
  have HL := hid (show L = cs.length ∧ Lw = ws.length from ⟨hL, hLw⟩)
  have hKa := (Keep.refl noBlock w).alloc (.cells #[.int .i64 0, .int .i64 (hb : Int), .int .i64 (fr : Int), .int .i64 (bt : Int), .int .i64 (n : Int), .int .i64 (size : Int), .int .i64 (pk : Int)] 31)
  have HK := hid hKa
  clear hB hB2 hl hl2 hL hLw hKa
  go_enter Tryd.func9, Tryd.ntmps9
  go_wp2_with fail
  refine (HC.out _ HK.out).mono ?_
  rintro e w1 ⟨hk1, a3, n3, c3, g3, rfl, hn3, hB3⟩
  have H1 := hid (show Keep noBlock w w1 ∧ n3 = cs.length ∧ Bytes w1 a3 c3 g3 0 cs from ⟨HK.out.trans' hk1, hn3.trans HL.out.1, hB3⟩)
  clear hk1 hn3 hB3
  go_wp2_with fail
  refine (HD.out _ H1.out.1).mono ?_
  rintro e w2 ⟨hk2, a4, n4, c4, g4, rfl, hn4, hB4⟩
  have H2 := hid (show Keep noBlock w w2 ∧ n4 = ws.length ∧ Bytes w2 a4 c4 g4 0 ws ∧ Bytes w2 a3 c3 g3 0 cs from ⟨H1.out.1.trans' hk2, hn4.trans HL.out.2, hB4, H1.out.2.2.keep hk2 (fun _ h => h)⟩)
  clear hk2 hn4 hB4
  go_wp2_with fail
  (try simp only [Exit.inBlock, Exit.then])
  refine bodyPost_ret (v := .tuple #[.slice a3 n3 c3, .slice a4 n4 c4, .bool true]) (by simp [results, Tryd.results9, go_sem]) rfl ⟨H2.out.1, a3, n3, c3, g3, 0, a4, n4, c4, g4, 0, rfl, H1.out.2.1, H2.out.2.1, H2.out.2.2.2, H2.out.2.2.1⟩

set_option maxRecDepth 100000 in
set_option maxHeartbeats 1000000 in
theorem repeat_zero (a : Option Addr) (cap : Nat) (w : World) :
    Calls Tryd.prog 15 #[.slice a 1 cap, .int .i64 0] w fun e w' => Keep noBlock w w' ∧ ∃ a' cap' g, e = .returned (.slice a' 0 cap') ∧ Bytes w' a' cap' g 0 [] := by
  go_enter Tryd.func15, Tryd.ntmps15
  go_wp2
  go_ret
  exact ⟨(Keep.refl _ w).alloc _, some ⟨w.heap.size, 0, none⟩, 0, w.heap.size, rfl, .inl rfl, (fun e => by cases e), fun j hj => by simp at hj, fun j => by simp, Nat.le_refl _, by decide⟩
theorem repeat_all (a : Option Addr) (cap gb off x s : Nat) (w : World) (hB : Bytes w a cap gb off [x]) (hs : s ≤ 131072) :
    Calls Tryd.prog 15 #[.slice a 1 cap, .int .i64 (s : Int)] w fun e w' => Keep noBlock w w' ∧ ∃ a' cap' g, e = .returned (.slice a' s cap') ∧ Bytes w' a' cap' g 0 (List.replicate s x) := by
  by_cases h0 : s = 0
  · subst h0
    exact repeat_zero a cap w
  · exact repeat_any a cap gb off x s w hB (by omega) hs

set_option maxRecDepth 100000 in
set_option maxHeartbeats 1000000 in
theorem tell_one (hb fr bt n size pk : Nat) (a : Option Addr) (cap gb off x : Nat) (a2 : Option Addr) (cap2 gb2 off2 : Nat) (ws : List Nat) (w : World) (hB : Bytes w a cap gb off [x]) (hB2 : Bytes w a2 cap2 gb2 off2 ws) (hs : size ≤ 131072) (hl2 : ws.length ≤ 140737488355327) :
    Calls Tryd.prog 9 #[headV 1 hb fr bt n size pk, .slice a 1 cap, .slice a2 ws.length cap2] w fun e w' => TAns (some (List.replicate size x, ws)) w e w' := by
  unfold headV
  have HC := hid (show ∀ W, Keep noBlock w W → Calls Tryd.prog 15 #[.slice a 1 cap, .int .i64 (size : Int)] W fun e w' => Keep noBlock W w' ∧ ∃ a' cap' g, e = .returned (.slice a' size cap') ∧ Bytes w' a' cap' g 0 (List.replicate size x) from fun W hW => repeat_all a cap gb off x size W (hB.keep hW (fun _ h => h)) hs)
  have HD := hid (show ∀ W, Keep noBlock w W → Calls Tryd.prog 14 #[.slice a2 ws.length cap2] W fun e w' => Keep noBlock W w' ∧ ∃ a' n cap' g, e = .returned (.slice a' n cap') ∧ n = ws.length ∧ Bytes w' a' cap' g 0 ws from fun W hW => cloneB_any a2 cap2 gb2 off2 ws W (hB2.keep hW (fun _ h => h)) hl2)
  obtain ⟨Lw, hLw⟩ : ∃ Lw, Lw = ws.length := ⟨_, rfl⟩
  rw [← hLw] at HD ⊢
  have HLw := hid hLw
  have hKa := (Keep.refl noBlock w).alloc (.cells #[.int .i64 1, .int .i64 (hb : Int), .int .i64 (fr : Int), .int .i64 (bt : Int), .int .i64 (n : Int), .int .i64 (size : Int), .int .i64 (pk : Int)] 31)
  have HK := hid hKa
  clear hB hB2 hs hl2 hLw hKa
  go_enter Tryd.func9, Tryd.ntmps9
  go_wp2_with fail
  refine (HC.out _ HK.out).mono ?_
  rintro e w1 ⟨hk1, a3, c3, g3, rfl, hB3⟩
  have H1 := hid (show Keep noBlock w w1 ∧ Bytes w1 a3 c3 g3 0 (List.replicate size x) from ⟨HK.out.trans' hk1, hB3⟩)
  clear hk1 hB3
  go_wp2_with fail
  refine (HD.out _ H1.out.1).mono ?_
  rintro e w2 ⟨hk2, a4, n4, c4, g4, rfl, hn4, hB4⟩
  have H2 := hid (show Keep noBlock w w2 ∧ n4 = ws.length ∧ Bytes w2 a4 c4 g4 0 ws ∧ Bytes w2 a3 c3 g3 0 (List.replicate size x) from ⟨H1.out.1.trans' hk2, hn4.trans HLw.out, hB4, H1.out.2.keep hk2 (fun _ h => h)⟩)
  clear hk2 hn4 hB4
  go_wp2_with fail
  (try simp only [Exit.inBlock, Exit.then])
  refine bodyPost_ret (v := .tuple #[.slice a3 size c3, .slice a4 n4 c4, .bool true]) (by simp [results, Tryd.results9, go_sem]) rfl ⟨H2.out.1, a3, size, c3, g3, 0, a4, n4, c4, g4, 0, rfl, by simp, H2.out.2.1, H2.out.2.2.2, H2.out.2.2.1⟩

set_option maxRecDepth 100000 in
set_option maxHeartbeats 1000000 in
theorem tell_ahead (hb fr bt n size pk : Nat) (a : Option Addr) (cap gb off : Nat) (cs : List Nat) (a2 : Option Addr) (cap2 gb2 off2 : Nat) (ws : List Nat) (w : World) (hB : Bytes w a cap gb off cs) (hB2 : Bytes w a2 cap2 gb2 off2 ws) (hs : size ≤ 131072) (hl : cs.length ≤ 1048576) (hl2 : ws.length ≤ 140737488355327) (hn1 : 1 ≤ n) (hn4 : n ≤ 4) :
    Calls Tryd.prog 9 #[headV 3 hb fr bt n size pk, .slice a cs.length cap, .slice a2 ws.length cap2] w fun e w' => TAns ((unpL ws cs size n).map (fun l => (l, ws))) w e w' := by
  have HC := hid (show ∀ W, Keep noBlock w W → Calls Tryd.prog 16 #[headV 3 hb fr bt n size pk, .slice a cs.length cap, .slice a2 ws.length cap2] W fun e w' => UAns (unpL ws cs size n) W e w' from fun W hW => unpack_lit 3 hb fr bt size n pk a cap gb off cs a2 cap2 gb2 off2 ws W (hB.keep hW (fun _ h => h)) (hB2.keep hW (fun _ h => h)) hs hn1 hn4 hl)
  have HD := hid (show ∀ W, Keep noBlock w W → Calls Tryd.prog 14 #[.slice a2 ws.length cap2] W fun e w' => Keep noBlock W w' ∧ ∃ a' n cap' g, e = .returned (.slice a' n cap') ∧ n = ws.length ∧ Bytes w' a' cap' g 0 ws from fun W hW => cloneB_any a2 cap2 gb2 off2 ws W (hB2.keep hW (fun _ h => h)) hl2)
  have hsz := fun l => unpL_ok (ws := ws) (bs := cs) (l := l) hs hn1 hn4
  unfold headV at HC ⊢
  obtain ⟨L, hL⟩ : ∃ L, L = cs.length := ⟨_, rfl⟩
  obtain ⟨Lw, hLw⟩ : ∃ Lw, Lw = ws.length := ⟨_, rfl⟩
  rw [← hL, ← hLw] at HC ⊢
  rw [← hLw] at HD
  have HLw := hid hLw
  have hKa := (Keep.refl noBlock w).alloc (.cells #[.int .i64 3, .int .i64 (hb : Int), .int .i64 (fr : Int), .int .i64 (bt : Int), .int .i64 (n : Int), .int .i64 (size : Int), .int .i64 (pk : Int)] 31)
  have HK := hid hKa
  have HZ := hid hsz
  clear hB hB2 hs hl hl2 hL hLw hKa hsz
  go_enter Tryd.func9, Tryd.ntmps9
  go_wp2_with fail
  refine (HC.out _ HK.out).mono ?_
  rintro e w1 ⟨hk1, hm⟩
  cases hu : unpL ws cs size n with
  | none =>
    rw [hu] at hm
    subst hm
    have HK1 := hid (HK.out.trans' hk1)
    have HUu := hid hu
    clear hk1 hu
    go_wp2_with fail
    refine (HD.out _ HK1.out).mono ?_
    rintro e w2 ⟨hk2, a4, n4, c4, g4, rfl, hn4, hB4⟩
    have HK2 := hid (HK1.out.trans' hk2)
    clear hk2 hn4 hB4
    go_wp2_with fail
    (try simp only [Exit.inBlock, Exit.then])
    refine bodyPost_ret (v := .tuple #[.slice none 0 0, .slice a4 n4 c4, .bool false]) (by simp [results, Tryd.results9, go_sem]) rfl (show TAns _ _ _ _ from by rw [HUu.out]; exact ⟨HK2.out, _, _, rfl⟩)
  | some l =>
    rw [hu] at hm
    obtain ⟨v, rfl, ho⟩ := hm
    have hz := HZ.out l hu
    obtain ⟨a3, c3, g3, rfl, hB3, -⟩ := owns_bytes (M := l) ho hz.2 (by omega)
    obtain ⟨L3, hL3⟩ : ∃ L3, L3 = l.length := ⟨_, rfl⟩
    rw [← hL3]
    have H1 := hid (show Keep noBlock w w1 ∧ L3 = l.length ∧ Bytes w1 a3 c3 g3 0 l from ⟨HK.out.trans' hk1, hL3, hB3⟩)
    have HUu := hid hu
    clear hk1 ho hz hB3 hL3 hu
    go_wp2_with fail
    refine (HD.out _ H1.out.1).mono ?_
    rintro e w2 ⟨hk2, a4, n4, c4, g4, rfl, hn4, hB4⟩
    have H2 := hid (show Keep noBlock w w2 ∧ n4 = ws.length ∧ Bytes w2 a4 c4 g4 0 ws ∧ Bytes w2 a3 c3 g3 0 l from ⟨H1.out.1.trans' hk2, hn4.trans HLw.out, hB4, H1.out.2.2.keep hk2 (fun _ h => h)⟩)
    clear hk2 hn4 hB4
    go_wp2_with fail
    (try simp only [Exit.inBlock, Exit.then])
    refine bodyPost_ret (v := .tuple #[.slice a3 L3 c3, .slice a4 n4 c4, .bool true]) (by simp [results, Tryd.results9, go_sem]) rfl (show TAns _ _ _ _ from by rw [HUu.out]; exact ⟨H2.out.1, a3, L3, c3, g3, 0, a4, n4, c4, g4, 0, rfl, H1.out.2.1, H2.out.2.1, H2.out.2.2.2, H2.out.2.2.1⟩)

set_option maxRecDepth 100000 in
set_option maxHeartbeats 1000000 in
theorem tell_anew (hb fr bt n size pk : Nat) (a : Option Addr) (cap gb off : Nat) (cs : List Nat) (a2 : Option Addr) (cap2 gb2 off2 : Nat) (ws : List Nat) (c u : Nat) (V : List Nat) (w : World) (hB : Bytes w a cap gb off cs) (hs : size ≤ 131072) (hl : cs.length ≤ 1048576) (hn1 : 1 ≤ n) (hn4 : n ≤ 4)
    (hR : RdW cs c u V) (hc : c = 0 → u ≤ cs.length ∧ V.length ≤ 256 ∧ ∀ j : Nat, V[j]?.getD 0 < 256) :
    Calls Tryd.prog 9 #[headV 2 hb fr bt n size pk, .slice a cs.length cap, .slice a2 ws.length cap2] w fun e w' => TAns (if c = 0 then (unpL V (cs.drop u) size n).map (fun l => (l, V)) else none) w e w' := by
  have HR := hid (show ∀ W, Keep noBlock w W → Calls Tryd.prog 17 #[.slice a cs.length cap] W fun e w' => RAns c u V W e w' from fun W hW => hR a cap gb off W (hB.keep hW (fun _ h => h)))
  have HB := hid (show ∀ W, Keep noBlock w W → Bytes W a cap gb off cs from fun W hW => hB.keep hW (fun _ h => h))
  have hKa := (Keep.refl noBlock w).alloc (.cells #[.int .i64 2, .int .i64 (hb : Int), .int .i64 (fr : Int), .int .i64 (bt : Int), .int .i64 (n : Int), .int .i64 (size : Int), .int .i64 (pk : Int)] 31)
  have hKo := World.alloc_heap_new w (.cells #[.int .i64 2, .int .i64 (hb : Int), .int .i64 (fr : Int), .int .i64 (bt : Int), .int .i64 (n : Int), .int .i64 (size : Int), .int .i64 (pk : Int)] 31)
  have HK := hid (And.intro hKa hKo)
  have HS := hid (show size ≤ 131072 ∧ cs.length ≤ 1048576 ∧ 1 ≤ n ∧ n ≤ 4 from ⟨hs, hl, hn1, hn4⟩)
  unfold headV
  obtain ⟨L, hL⟩ : ∃ L, L = cs.length := ⟨_, rfl⟩
  rw [← hL] at HR ⊢
  have HL := hid hL
  generalize ws.length = Lw at *
  clear hB hs hl hL hKa hKo hn1 hn4 hR
  by_cases h0 : c = 0
  · subst h0
    rw [if_pos rfl]
    have HC := hid (hc rfl)
    clear hc
    go_enter Tryd.func9, Tryd.ntmps9
    go_wp2_with fail
    refine (HR.out _ HK.out.1).mono ?_
    rintro e w1 ⟨hk1, a3, n3, c3, rfl, hn3, ho3⟩
    obtain ⟨hu, hV1, hV2⟩ := HC.out
    obtain ⟨hs, hl, hn1, hn4⟩ := HS.out
    have hkw := HK.out.1.trans' hk1
    have hob := hk1.obj HK.out.2 (fun h => h)
    have c0 : w1.cell? ⟨w.heap.size, 0, none⟩ = some (.int .i64 2) := cell_of hob 0
    have c1 : w1.cell? ⟨w.heap.size, 1, none⟩ = some (.int .i64 (hb : Int)) := cell_of hob 1
    have c2 : w1.cell? ⟨w.heap.size, 2, none⟩ = some (.int .i64 (fr : Int)) := cell_of hob 2
    have c3' : w1.cell? ⟨w.heap.size, 3, none⟩ = some (.int .i64 (bt : Int)) := cell_of hob 3
    have c4 : w1.cell? ⟨w.heap.size, 4, none⟩ = some (.int .i64 (n : Int)) := cell_of hob 4
    have c5 : w1.cell? ⟨w.heap.size, 5, none⟩ = some (.int .i64 (size : Int)) := cell_of hob 5
    have c6 : w1.cell? ⟨w.heap.size, 6, none⟩ = some (.int .i64 (pk : Int)) := cell_of hob 6
    have hB1 := HB.out w1 hkw
    obtain ⟨ad, od, hd, hBd, -⟩ := hB1.drop u hu
    obtain ⟨Ld, hLd⟩ : ∃ Ld, Ld = (cs.drop u).length := ⟨_, rfl⟩
    have hLdb : Ld ≤ 1048576 := by rw [hLd, List.length_drop]; omega
    subst hn3
    obtain ⟨a3', c3e, g3, hve, hB3, -⟩ := owns_bytes (M := V) ho3 hV2 (by omega)
    cases hve
    have hcall := fun (W : World) (hW : Keep noBlock w1 W) => unpack_lit 2 hb fr bt size n pk ad (cap - u) gb od (cs.drop u) a3 c3 g3 0 V W (hBd.keep (w' := W) hW (fun _ h => h)) (hB3.keep (w' := W) hW (fun _ h => h)) hs hn1 hn4 (by omega)
    obtain ⟨n3, hn3⟩ : ∃ n3, n3 = V.length := ⟨_, rfl⟩
    rw [← hLd, ← hn3] at hcall
    rw [← hLd, ← HL.out] at hd
    rw [← hn3]
    have H1 := hid (show Keep noBlock w w1 ∧ n3 = V.length ∧ Bytes w1 a3 c3 g3 0 V from ⟨hkw, hn3, hB3⟩)
    have huI : (0 : Int) ≤ (u : Int) := by omega
    have hZ := fun l => unpL_ok (ws := V) (bs := cs.drop u) (l := l) hs hn1 hn4
    have HZ := hid hZ
    obtain ⟨xb, hxb⟩ : ∃ xb, xb = w.heap.size := ⟨_, rfl⟩
    rw [← hxb] at c0 c1 c2 c3' c4 c5 c6 ⊢
    clear hk1 ho3 hu hV1 hV2 hs hl hn1 hn4 hkw hob hB1 hBd hLd hLdb hB3 hn3 hZ hxb
    rw [show ((0 : Nat) : Int) = (0 : Int) from rfl]
    cases hu : unpL V (cs.drop u) size n with
    | none =>
      have HCA := hid (show ∀ W, Keep noBlock w1 W → Calls Tryd.prog 16 #[.agg #[.int .i64 2, .int .i64 (hb : Int), .int .i64 (fr : Int), .int .i64 (bt : Int), .int .i64 (n : Int), .int .i64 (size : Int), .int .i64 (pk : Int)], .slice ad Ld (cap - u), .slice a3 n3 c3] W fun e w' => Keep noBlock W w' ∧ e = .returned (.tuple #[.slice none 0 0, .bool false]) from fun W hW => (hcall W hW).mono fun e w' h => by rw [hu] at h; exact h)
      have HUu := hid hu
      clear hu hcall
      go_wp2_with fail
      go_region_held3 (fun W => W.cell? ⟨xb, 0, none⟩ = some (.int .i64 2) ∧ W.cell? ⟨xb, 1, none⟩ = some (.int .i64 (hb : Int)) ∧ W.cell? ⟨xb, 2, none⟩ = some (.int .i64 (fr : Int)) ∧ W.cell? ⟨xb, 3, none⟩ = some (.int .i64 (bt : Int)) ∧ W.cell? ⟨xb, 4, none⟩ = some (.int .i64 (n : Int)) ∧ W.cell? ⟨xb, 5, none⟩ = some (.int .i64 (size : Int)) ∧ W.cell? ⟨xb, 6, none⟩ = some (.int .i64 (pk : Int))) (first | go_keep | assumption) ((first | (go_at_call 16; refine (HCA.out _ ((Keep.refl _ _).drew)).mono ?_; rintro e w2 ⟨hk2, rfl⟩; have k0 := keep_cell0 hk2 (show w1.drew.cell? ⟨xb, 0, none⟩ = _ from c0); have k1 := keep_cell0 hk2 (show w1.drew.cell? ⟨xb, 1, none⟩ = _ from c1); have k2 := keep_cell0 hk2 (show w1.drew.cell? ⟨xb, 2, none⟩ = _ from c2); have k3 := keep_cell0 hk2 (show w1.drew.cell? ⟨xb, 3, none⟩ = _ from c3'); have k4 := keep_cell0 hk2 (show w1.drew.cell? ⟨xb, 4, none⟩ = _ from c4); have k5 := keep_cell0 hk2 (show w1.drew.cell? ⟨xb, 5, none⟩ = _ from c5); have k6 := keep_cell0 hk2 (show w1.drew.cell? ⟨xb, 6, none⟩ = _ from c6))))
      have HK1 := hid ((H1.out.1.drew).trans' hk2)
      clear hk2
      go_wp2_with fail
      (try simp only [Exit.inBlock, Exit.then])
      refine bodyPost_ret (v := .tuple #[.slice none 0 0, .slice a3 n3 c3, .bool false]) (by simp [results, Tryd.results9, go_sem]) rfl (show TAns _ _ _ _ from by rw [HUu.out]; exact ⟨HK1.out, _, _, rfl⟩)
    | some l =>
      have hz := HZ.out l hu
      obtain ⟨L3, hL3⟩ : ∃ L3, L3 = l.length := ⟨_, rfl⟩
      have HCA := hid (show ∀ W, Keep noBlock w1 W → Calls Tryd.prog 16 #[.agg #[.int .i64 2, .int .i64 (hb : Int), .int .i64 (fr : Int), .int .i64 (bt : Int), .int .i64 (n : Int), .int .i64 (size : Int), .int .i64 (pk : Int)], .slice ad Ld (cap - u), .slice a3 n3 c3] W fun e w' => Keep noBlock W w' ∧ ∃ a5 c5 g5, e = .returned (.tuple #[.slice a5 L3 c5, .bool true]) ∧ Bytes w' a5 c5 g5 0 l from fun W hW => (hcall W hW).mono fun e w' h => by
        rw [hu] at h
        obtain ⟨hk, v, he, ho⟩ := h
        obtain ⟨a5, c5, g5, hv, hB5, -⟩ := owns_bytes (M := l) ho hz.2 (by omega)
        rw [hv] at he
        rw [hL3]
        exact ⟨hk, a5, c5, g5, he, hB5⟩)
      have HUu := hid hu
      have HL3 := hid hL3
      clear hu hcall hz hL3
      go_wp2_with fail
      go_region_held3 (fun W => W.cell? ⟨xb, 0, none⟩ = some (.int .i64 2) ∧ W.cell? ⟨xb, 1, none⟩ = some (.int .i64 (hb : Int)) ∧ W.cell? ⟨xb, 2, none⟩ = some (.int .i64 (fr : Int)) ∧ W.cell? ⟨xb, 3, none⟩ = some (.int .i64 (bt : Int)) ∧ W.cell? ⟨xb, 4, none⟩ = some (.int .i64 (n : Int)) ∧ W.cell? ⟨xb, 5, none⟩ = some (.int .i64 (size : Int)) ∧ W.cell? ⟨xb, 6, none⟩ = some (.int .i64 (pk : Int))) (first | go_keep | assumption) ((first | (go_at_call 16; refine (HCA.out _ ((Keep.refl _ _).drew)).mono ?_; rintro e w2 ⟨hk2, a5, c5', g5, rfl, hB5⟩; have k0 := keep_cell0 hk2 (show w1.drew.cell? ⟨xb, 0, none⟩ = _ from c0); have k1 := keep_cell0 hk2 (show w1.drew.cell? ⟨xb, 1, none⟩ = _ from c1); have k2 := keep_cell0 hk2 (show w1.drew.cell? ⟨xb, 2, none⟩ = _ from c2); have k3 := keep_cell0 hk2 (show w1.drew.cell? ⟨xb, 3, none⟩ = _ from c3'); have k4 := keep_cell0 hk2 (show w1.drew.cell? ⟨xb, 4, none⟩ = _ from c4); have k5 := keep_cell0 hk2 (show w1.drew.cell? ⟨xb, 5, none⟩ = _ from c5); have k6 := keep_cell0 hk2 (show w1.drew.cell? ⟨xb, 6, none⟩ = _ from c6))))
      have H2 := hid (show Keep noBlock w w2 ∧ L3 = l.length ∧ Bytes w2 a5 c5' g5 0 l ∧ Bytes w2 a3 c3 g3 0 V from ⟨(H1.out.1.drew).trans' hk2, HL3.out, hB5, (H1.out.2.2.keep ((Keep.refl noBlock _).drew) (fun _ h => h)).keep hk2 (fun _ h => h)⟩)
      clear hk2 hB5
      go_wp2_with fail
      (try simp only [Exit.inBlock, Exit.then])
      refine bodyPost_ret (v := .tuple #[.slice a5 L3 c5', .slice a3 n3 c3, .bool true]) (by simp [results, Tryd.results9, go_sem]) rfl (show TAns _ _ _ _ from by rw [HUu.out]; exact ⟨H2.out.1, a5, L3, c5', g5, 0, a3, n3, c3, g3, 0, rfl, H2.out.2.1, H1.out.2.1, H2.out.2.2.1, H2.out.2.2.2⟩)
  · rw [if_neg h0]
    have hcb : ((c : Int) != 0) = true := by simp; omega
    clear hc h0
    go_enter Tryd.func9, Tryd.ntmps9
    go_wp2_with fail
    refine (HR.out _ HK.out.1).mono ?_
    rintro e w1 ⟨hk1, a3, n3, c3, rfl, hn3, ho3⟩
    have HK1 := hid (HK.out.1.trans' hk1)
    clear hk1 hn3 ho3
    go_wp2_with fail
    (try simp only [Exit.inBlock, Exit.then])
    refine bodyPost_ret (v := .tuple #[.slice none 0 0, .slice none 0 0, .bool false]) (by simp [results, Tryd.results9, go_sem]) rfl ⟨HK1.out, _, _, rfl⟩
end
end Go.Proofs.YtcoahkmiebeeeaaDoor
