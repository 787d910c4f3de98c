/-
  The document's Unpack.
  The document's states: weights that two states tell by turns.
  The document's Read, where bytes are short.
  The document's Read of weights that two states tell.
-/
import Derived.Test.YtkljidigmolmmaaBackP16
namespace Go.Proofs.Ytkljidigmolmmaa
open Go.RowKit Go.Shelf
set_option linter.unusedVariables false

theorem posU_mono (ws : List Nat) (m : Nat) (bs : List Nat) (i j : Nat) (h : i ≤ j) : posU ws m bs i ≤ posU ws m bs j := by
  induction j with
  | zero => obtain rfl : i = 0 := by omega
            exact Nat.le_refl _
  | succ j ih =>
    by_cases e : i = j + 1
    · subst e; exact Nat.le_refl _
    · have := ih (by omega)
      rw [posU_succ]; omega
/-- The document's New over whatever bytes. -/
theorem newD_bad (a : Option Addr) (cap gb off : Nat) (bs : List Nat) (w : World) (hB : Bytes w a cap gb off bs) (hl : bs.length ≤ 1048576) (h0 : bs[bs.length - 1]?.getD 0 = 0) :
    Calls Try.prog 32 #[.slice a bs.length cap] w fun e w' => e = .returned (.tuple #[.pointer none, .int .i64 11]) ∧ w' = w := by
  cases hn : bs.length with
  | zero => exact Tl.newQ_none a cap w
  | succ k =>
    obtain rfl := hB.here (i := k) (by omega)
    refine Tl.newQ_zero gb off cap k w (by omega) ?_
    rw [hB.cells k (by omega)]
    rw [hn, Nat.add_sub_cancel] at h0
    rw [h0]; rfl
theorem newD_good (a : Option Addr) (cap gb off : Nat) (bs : List Nat) (w : World) (hB : Bytes w a cap gb off bs) (hl : bs.length ≤ 1048576) (h0 : bs[bs.length - 1]?.getD 0 ≠ 0) :
    Calls Try.prog 32 #[.slice a bs.length cap] w fun e w' => ∃ qb g, e = .returned (.tuple #[.pointer (some ⟨qb, 0, none⟩), .int .i64 0]) ∧ w.heap.size ≤ qb ∧ w.heap.size ≤ g ∧ AtQ w' qb g bs 0 ∧ Keep noBlock w w' := by
  cases hn : bs.length with
  | zero => rw [List.length_eq_zero_iff.1 hn] at h0; simp at h0
  | succ k =>
    obtain rfl := hB.here (i := k) (by omega)
    rw [hn, Nat.add_sub_cancel] at h0
    refine (Tl.newQ_mark gb off cap k _ bs hn (by omega) hB.lt w rfl h0 hB.cells).mono ?_
    rintro e w' ⟨rb, g, rfl, h1, h2, h3, h4⟩
    exact ⟨rb, g, rfl, h1, h2, ⟨by simpa using h3, by decide⟩, h4⟩

set_option maxRecDepth 100000 in
set_option maxHeartbeats 4000000 in
theorem unpackD_good (a : Option Addr) (cap gb off : Nat) (ws : List Nat) (m : Nat) (a2 : Option Addr) (cap2 gb2 off2 : Nat) (bs : List Nat) (n : Nat) (w : World) (hB : Bytes w a cap gb off ws) (hB2 : Bytes w a2 cap2 gb2 off2 bs) (hc : IsCode ws m) (hl : bs.length ≤ 1048576) (hn : n ≤ 131072) :
    Calls Try.prog 13 #[.slice a ws.length cap, .slice a2 bs.length cap2, .int .i64 (n : Int)] w fun e w' => UnpPost ws m bs n w e w' := by
  have HM := (show Hid (Calls Try.prog 15 #[.slice a ws.length cap] w fun e w' => e = .returned (.int .i64 (m : Int)) ∧ w' = w) from by
    have := bitsD_any a cap gb off ws w hB
    rw [hc.codeM] at this
    exact this)
  have hm11 := hc.m11
  have hm1 := hc.m1
  have hmb : ((m : Int) == 0) = false := by rw [beq_eq_false_iff_ne]; omega
  have hn1 : ¬ (n : Int) < 0 := by omega
  have hn2 : ¬ (131072 : Int) < (n : Int) := by omega
  by_cases h0 : bs[bs.length - 1]?.getD 0 = 0
  · have HN := (show Hid (Calls Try.prog 32 #[.slice a2 bs.length cap2] w fun e w' => e = .returned (.tuple #[.pointer none, .int .i64 11]) ∧ w' = w) from newD_bad a2 cap2 gb2 off2 bs w hB2 hl h0)
    have HB := (show Hid (unpOk ws m bs n = false) from decide_eq_false (fun h => h.1 h0))
    generalize bs.length = n2 at *
    generalize ws.length = n1 at *
    clear hB hB2 hc hl
    go_enter Try.func13, Try.ntmps13
    go_wp2_with (first | (go_at_call 15; refine HM.out.mono ?_; rintro e w' ⟨rfl, rfl⟩) | (go_at_call 32; refine HN.out.mono ?_; rintro e w' ⟨rfl, rfl⟩))
    go_ret2
    exact ⟨Keep.refl _ _, .inr ⟨HB.out, rfl⟩⟩
  · have HN := (show Hid (Calls Try.prog 32 #[.slice a2 bs.length cap2] w fun e w' => ∃ qb g, e = .returned (.tuple #[.pointer (some ⟨qb, 0, none⟩), .int .i64 0]) ∧ w.heap.size ≤ qb ∧ w.heap.size ≤ g ∧ AtQ w' qb g bs 0 ∧ Keep noBlock w w') from newD_good a2 cap2 gb2 off2 bs w hB2 hl h0)
    have HW := (show Hid (∀ W, Keep noBlock w W → Calls Try.prog 26 #[.slice a ws.length cap] W fun e w' => ∃ g, e = .returned (.slice (some ⟨g, 0, none⟩) ws.length ws.length) ∧ W.heap.size ≤ g ∧ WdA w' g ws.length (dX ws) (dN ws m) ∧ Keep noBlock W w') from fun W hk => wordsD_any a cap gb off ws m W (hB.keep hk (fun _ h => h)) hc)
    have HH := (show Hid (IsCode ws m ∧ bs[bs.length - 1]?.getD 0 ≠ 0 ∧ n ≤ 131072) from ⟨hc, h0, hn⟩)
    have hTl := Tl.tailLen_le bs hB2.lt
    have HT := (show Hid (Tl.tailLen bs < 1125899906842624 ∧ ∀ i, i ≤ n → posU ws m bs i ≤ 1572864) from ⟨by omega, fun i hi => by
      have hpl := posU_le ws m bs i
      have hpl2 : i * (m + 1) ≤ 131072 * 12 := Nat.mul_le_mul (by omega) (by omega)
      omega⟩)
    obtain ⟨n1, hn1'⟩ : ∃ n1, n1 = ws.length := ⟨_, rfl⟩
    obtain ⟨n2, hn2'⟩ : ∃ n2, n2 = bs.length := ⟨_, rfl⟩
    have HL := (show Hid (n1 = ws.length) from hn1')
    rw [← hn1'] at HM HW ⊢
    rw [← hn2'] at HN ⊢
    have hnI : (n : Int) ≤ 131072 := by omega
    clear hB hB2 hc hl h0 hTl hn1' hn2' hn
    go_enter Try.func13, Try.ntmps13
    go_wp2_with (go_at_call 15; refine HM.out.mono ?_; rintro e w' ⟨rfl, rfl⟩)
    refine HN.out.mono ?_
    rintro e w1 ⟨qb, gq, rfl, h1, h2, hA, hK1⟩
    have HA := (show Hid (AtQ w1 qb gq bs 0 ∧ Keep noBlock w' w1 ∧ w'.heap.size ≤ qb ∧ w'.heap.size ≤ gq) from ⟨hA, hK1, h1, h2⟩)
    clear hA hK1 h1 h2
    go_wp2_with fail
    refine (HW.out _ HA.out.2.1).mono ?_
    rintro e w2 ⟨g, rfl, hg, hWd, hK2⟩
    have HF := (show Hid (AtQ w2 qb gq bs (posU ws m bs 0) ∧ WdA w2 g n1 (dX ws) (dN ws m) ∧ Keep noBlock w' w2) from ⟨HA.out.1.keep hK2 (fun h => h) (fun h => h), hWd, HA.out.2.1.trans' hK2⟩)
    have HG := (show Hid (g ≠ qb ∧ w'.heap.size ≤ qb ∧ w'.heap.size ≤ g ∧ gq < w2.heap.size) from by
      have hlt : qb < w1.heap.size := by obtain ⟨c0, h0⟩ := HA.out.1.is.obj; exact obj_lt h0
      exact ⟨by omega, HA.out.2.2.1, by have := HA.out.2.1.size; omega, by have := HA.out.1.is.lt; have := hK2.size; omega⟩)
    clear hg hWd hK2 HA
    go_wp2_with fail
    go_loopw [12, 13] (fun v12 v13 wr => ∃ i : Nat, v13 = .int .i64 (i : Int) ∧ i ≤ n ∧ ∃ oa on oc, v12 = .slice oa on oc ∧ Hid (on = i ∧ wr.ownsRow 0 5 1 (.slice oa on oc) ((List.range i).map (symU ws m bs)).length (u8s ((List.range i).map (symU ws m bs))) ∧ (∀ k, (Value.slice oa on oc).ownBlock = some k → w2.heap.size ≤ k) ∧ AtQ wr qb gq bs (posU ws m bs i) ∧ posU ws m bs i ≤ Tl.tailLen bs ∧ WdA wr g n1 (dX ws) (dN ws m) ∧ Keep (fun k => k = qb) w2 wr)) (fun _ v13 _ => n - (intOf v13).toNat)
    case atStart => exact ⟨0, rfl, Nat.zero_le _, none, 0, 0, rfl, rfl, World.ownsRow_nil _ _ _ _, (fun k e => by cases e), HF.out.1, Nat.zero_le _, HF.out.2.1, Keep.refl _ _⟩
    case round =>
      obtain ⟨i, rfl, hi, oa, on, oc, rfl, HC⟩ := hrel
      by_cases hlt : i < n
      · have hltI : (i : Int) < (n : Int) := by omega
        obtain ⟨hon, hown, hnew, hA, hpT, hWd, hKw⟩ := HC.out
        have hpos := HT.out.2 i hi
        have HX := (show Hid (Calls Try.prog 33 #[.pointer (some ⟨qb, 0, none⟩), .slice (some ⟨g, 0, none⟩) n1 n1, .int .i64 (m : Int)] wr fun e w' => e = .returned (.tuple #[.int .u8 ((symU ws m bs i : Nat) : Int), .bool (decide (posU ws m bs (i + 1) ≤ Tl.tailLen bs))]) ∧ AtQ w' qb gq bs (posU ws m bs (i + 1)) ∧ Keep (fun k => k = qb) wr w') from by
          have := nextD_any qb gq bs (posU ws m bs i) g ws m wr hA (by rw [← HL.out]; exact hWd) HH.out.1 HG.out.1 (by omega) HT.out.1
          rw [← HL.out] at this
          exact this)
        have hs256 : symU ws m bs i < 256 := by
          have h1 := (HH.out.1.sym (strm bs (posU ws m bs i) m) (strm_lt _ _ _)).1
          have h2 := HH.out.1.len
          show symX ws m (strm bs (posU ws m bs i) m) < 256
          omega
        have hmap : (List.range (i + 1)).map (symU ws m bs) = (List.range i).map (symU ws m bs) ++ [symU ws m bs i] := by rw [List.range_succ, List.map_append]; rfl
        have hml : ((List.range i).map (symU ws m bs)).length = i := by simp
        clear hA hWd
        go_wp2_with fail
        refine HX.out.mono ?_
        rintro e w4 ⟨rfl, hA4, hK4⟩
        by_cases hp : posU ws m bs (i + 1) ≤ Tl.tailLen bs
        · rw [decide_eq_true hp]
          have hk4w : ∀ k, (Value.slice oa on oc).ownBlock = some k → k ≠ qb := fun k e => by
            have h1 := hnew k e
            have h2 : qb < w2.heap.size := by obtain ⟨c0, h0⟩ := HF.out.1.is.obj; exact obj_lt h0
            omega
          have hown4 := owns_kept hown hK4 hk4w
          obtain ⟨v', W', hrun, hown5, hk5, hm5⟩ := own_push hown4 (symU ws m bs i) (by omega)
          rw [← hmap] at hown5
          obtain ⟨oa', oc', hv'⟩ := owns_form hown5
          have hml2 : ((List.range (i + 1)).map (symU ws m bs)).length = i + 1 := by simp
          rw [hml2] at hv'
          subst hv'
          have hsz : w2.heap.size ≤ w4.heap.size := Nat.le_trans hKw.size hK4.size
          have hk5' : Keep (fun k => w2.heap.size ≤ k) w4 W' := hk5.mono (fun k _ e => hnew k e)
          have hqb2 : qb < w2.heap.size := by obtain ⟨c0, h0⟩ := HF.out.1.is.obj; exact obj_lt h0
          have hwd4 := (HC.out.2.2.2.2.2.1.keep hK4 (by exact HG.out.1)).keep hk5' (by have := HF.out.2.1.lt; omega)
          have HE := (show Hid (W'.ownsRow 0 5 1 (.slice oa' (i + 1) oc') ((List.range (i + 1)).map (symU ws m bs)).length (u8s ((List.range (i + 1)).map (symU ws m bs))) ∧ (∀ k, (Value.slice oa' (i + 1) oc').ownBlock = some k → w2.heap.size ≤ k) ∧ AtQ W' qb gq bs (posU ws m bs (i + 1)) ∧ posU ws m bs (i + 1) ≤ Tl.tailLen bs ∧ WdA W' g n1 (dX ws) (dN ws m) ∧ Keep (fun k => k = qb) w2 W') from
            ⟨hown5, fun k e => by
              rcases hm5 with e2 | ⟨j, e2, hj⟩
              · rw [e2] at e; exact hnew k e
              · rw [e2] at e; cases e; omega, hA4.keep hk5' (by omega) (by have := HG.out.2.2.2; omega), hp, hwd4, (hKw.trans hK4 (fun _ _ h => h)).trans hk5' (fun j hj e => by omega)⟩)
          generalize symU ws m bs i = sy at *
          have hsI : (sy : Int) < 256 := by omega
          clear hown hown4 hown5 hk5 hk5' hm5 hA4 hK4 HX hp hnew hmap hml hml2 hon hwd4 hKw HC hpT
          go_wp2_with (at_builtin; refine wpList_append_run _ rfl _ _ 22 rfl _ _ _ _ rfl rfl hrun ?_)
          go_roundw
          case rel => exact ⟨i + 1, by go_num, by omega, oa', i + 1, oc', rfl, rfl, HE.out⟩
          case measure => simp [intOf]; omega
        · rw [decide_eq_false hp]
          have HE := (show Hid (unpOk ws m bs n = false ∧ Keep noBlock w' w4) from ⟨decide_eq_false (fun h => by
            have := posU_mono ws m bs (i + 1) n (by omega)
            omega), (HF.out.2.2.trans hKw (fun j hj e => by have := HG.out; omega)).trans hK4 (fun j hj e => by have := HG.out; omega)⟩)
          generalize symU ws m bs i = sy at *
          clear hown hA4 hK4 HX hp hnew hmap hml hon hKw HC hpT
          go_wp2_with fail
          go_ret2
          exact ⟨HE.out.2, .inr ⟨HE.out.1, rfl⟩⟩
      · obtain rfl : i = n := by omega
        have hltI : ¬ (i : Int) < (i : Int) := by omega
        obtain ⟨hon, hown, hnew, hA, hpT, hWd, hKw⟩ := HC.out
        have hcl := hA.is.left
        have HD := (show Hid (unpOk ws m bs i = decide (posU ws m bs i = Tl.tailLen bs)) from by
          unfold unpOk
          rw [Bool.eq_iff_iff, decide_eq_true_iff, decide_eq_true_iff]
          exact ⟨fun h => h.2, fun h => ⟨HH.out.2.1, h⟩⟩)
        have hml : ((List.range i).map (symU ws m bs)).length = i := by simp
        have HE := (show Hid (wr.ownsRow 0 5 1 (.slice oa on oc) i (u8s ((List.range i).map (symU ws m bs))) ∧ Keep noBlock w' wr) from ⟨by rw [hml] at hown; exact hown, HF.out.2.2.trans hKw (fun j hj e => by have := HG.out; omega)⟩)
        obtain ⟨z, hz⟩ : ∃ z : Int, z = ((Tl.tailLen bs : Nat) : Int) - ((posU ws m bs i : Nat) : Int) := ⟨_, rfl⟩
        rw [← hz] at hcl
        have HZ := (show Hid _ from hz)
        have hzl : -4503599627370496 < z ∧ z < 4503599627370496 := by have := HT.out.1; have := HT.out.2 i (Nat.le_refl _); omega
        clear hown hnew hA hWd hKw hz HC hpT hml hon
        by_cases hp : posU ws m bs i = Tl.tailLen bs
        · have hz0 : (z != 0) = false := by have := HZ.out; simp; omega
          have hzz : z = 0 := by have := HZ.out; omega
          subst hzz
          have HP := (show Hid _ from hp)
          clear hp hz0 HZ
          go_wp2_with fail
          go_ret2
          exact ⟨HE.out.2, .inl ⟨by rw [HD.out]; exact decide_eq_true HP.out, _, rfl, HE.out.1⟩⟩
        · have hz0 : (z != 0) = true := by have := HZ.out; simp; omega
          go_wp2_with fail
          go_ret2
          exact ⟨HE.out.2, .inr ⟨by rw [HD.out]; exact decide_eq_false hp, rfl⟩⟩

end Go.Proofs.Ytkljidigmolmmaa

namespace Go.Proofs.Ytkljidigmolmmaa
open Go.RowKit Go.Shelf
set_option linter.unusedVariables false

/-- What the document's states tells: it goes on for 257 weights. -/
def toldD (sy bi ba : Nat → Nat) (bs : List Nat) (l : Nat) : Option (List Nat) := if Tl.tailLen bs < l + l then none else turnsF sy bi ba bs 257 (strm bs 0 l) (strm bs l l) (l + l)
def tellD (bs : List Nat) : Option (List Int × Nat × Nat) → Option (List Nat)
  | none => none
  | some (xs, l, u) => if (bs.drop u)[(bs.drop u).length - 1]?.getD 0 = 0 then none else toldD (symF xs (2 ^ l)) (fun i => bitF l (xF xs (2 ^ l) i)) (fun i => baseF l (xF xs (2 ^ l) i)) (bs.drop u) l
/-- The program tells what the document tells, if it is at most 255 weights. -/
theorem tellT_iff (bs : List Nat) (R : Option (List Int × Nat × Nat)) (M : List Nat) : tellT bs R = some M ↔ tellD bs R = some M ∧ M.length ≤ 255 := by
  cases R with
  | none => exact ⟨(fun h => by cases h), (fun h => by cases h.1)⟩
  | some r =>
    obtain ⟨xs, l, u⟩ := r
    unfold tellT tellD
    dsimp only
    by_cases h0 : (bs.drop u)[(bs.drop u).length - 1]?.getD 0 = 0
    · rw [if_pos h0, if_pos h0]
      exact ⟨(fun h => by cases h), (fun h => by cases h.1)⟩
    · rw [if_neg h0, if_neg h0]
      unfold toldT toldD
      by_cases h1 : Tl.tailLen (bs.drop u) < l + l
      · rw [if_pos h1, if_pos h1]
        exact ⟨(fun h => by cases h), (fun h => by cases h.1)⟩
      · rw [if_neg h1, if_neg h1]
        exact turnsF_more 3 254 _ _ _ M

structure Tq (w : World) (rb g : Nat) (bs : List Nat) (tg S : Nat) (sy bi ba : Nat → Nat) (pb q p0 p1 : Nat) (M : List Nat) (sa : Option Addr) (sn sc : Nat) (W : World) : Prop where
  at_ : AtQ W rb g bs q
  tab : RowT W tg S sy bi ba
  pair : W.heap[pb]? = some (.cells #[.int .i64 (p0 : Int), .int .i64 (p1 : Int)] 87 (0, 0))
  lt0 : p0 < S
  lt1 : p1 < S
  owns : W.ownsRow 0 5 1 (.slice sa sn sc) M.length (u8s M)
  len : sn = M.length
  new : ∀ k, (Value.slice sa sn sc).ownBlock = some k → pb < k
  keep : Keep noBlock w W
  bits : q ≤ 24 + 12 * M.length
  few : M.length ≤ 257

/-- The loop's state behind a turn. -/
theorem Tq.next {w : World} {rb g : Nat} {bs : List Nat} {tg S : Nat} {sy bi ba : Nat → Nat} {pb q p0 p1 : Nat} {M : List Nat} {sa : Option Addr} {sn sc : Nat} {wr : World} (h : Tq w rb g bs tg S sy bi ba pb q p0 p1 M sa sn sc wr) (hW : Within bi ba S) (i : Nat) (hi : i < 2) (own : Nat) (hown : own = if i = 0 then p0 else p1)
    (hz : w.heap.size ≤ rb ∧ w.heap.size ≤ g ∧ rb < pb ∧ g < pb ∧ tg < pb ∧ rb ≠ tg ∧ w.heap.size ≤ tg) (hM : M.length ≤ 256)
    (v' : Value) (W' w3 : World) (hk5 : Keep (fun k => (Value.slice sa sn sc).ownBlock = some k) wr W') (ho : W'.ownsRow 0 5 1 v' (M ++ [sy own]).length (u8s (M ++ [sy own]))) (hm : v'.ownBlock = (Value.slice sa sn sc).ownBlock ∨ ∃ k, v'.ownBlock = some k ∧ wr.heap.size ≤ k)
    (sa' : Option Addr) (sc' : Nat) (hv : v' = .slice sa' (sn + 1) sc') (hA3 : AtQ w3 rb g bs (q + bi own)) (hK3 : Keep (fun k => k = rb) W' w3) :
    Tq w rb g bs tg S sy bi ba pb (q + bi own) (if i = 0 then ba own + strm bs q (bi own) else p0) (if i = 0 then p1 else ba own + strm bs q (bi own)) (M ++ [sy own]) sa' (sn + 1) sc' (w3.setCell ⟨pb, i, none⟩ (.int .i64 ((ba own + strm bs q (bi own) : Nat) : Int))) := by
  subst hv
  have hoS : own < S := by rw [hown]; have := h.lt0; have := h.lt1; split <;> assumption
  have hnx := within_next hW bs q own hoS
  have hb12 := (hW own hoS).1
  have hpw := obj_lt h.pair
  have hks : Keep (fun k => k = pb) w3 (w3.setCell ⟨pb, i, none⟩ (.int .i64 ((ba own + strm bs q (bi own) : Nat) : Int))) := (Keep.refl (fun k => k = pb) w3).setCell (p := ⟨pb, i, none⟩) (fun _ => rfl) _
  have hnew : ∀ k, (Value.slice sa' (sn + 1) sc').ownBlock = some k → pb < k := fun k e => by
    rcases hm with e2 | ⟨j, e2, hj⟩
    · rw [e2] at e; exact h.new k e
    · rw [e2] at e; cases e; omega
  have hn := h.new
  have hpr := hK3.obj (hk5.obj h.pair (fun e => by have := hn _ e; omega)) (by omega)
  refine ⟨hA3.keep hks (by omega) (by omega), ((h.tab.keep hk5 (fun e => by have := hn _ e; omega)).keep hK3 (by omega)).keep hks (by omega), ?_, ?_, ?_, owns_kept (owns_kept ho hK3 (fun k e => by have := hnew k e; omega)) hks (fun k e => by have := hnew k e; omega), by have := h.len; simp; omega, hnew, ((h.keep.trans hk5 (fun j hj e => by have := hn j e; omega)).trans hK3 (fun j hj e => by omega)).trans hks (fun j hj e => by omega), by have := h.bits; simp; omega, by simp; omega⟩
  · rw [set_obj hpr i _]
    rcases (show i = 0 ∨ i = 1 by omega) with rfl | rfl
    · simp
    · simp
  · have := h.lt0; split <;> omega
  · have := h.lt1; split <;> omega

theorem wrap_small (x : Int) (h0 : 0 ≤ x) (h1 : x < 4096) : IntKind.i64.wrap x = x := by rw [IntKind.wrap_i64]; omega
theorem wrap_two (x y : Int) (h0 : 0 ≤ x) (h1 : 0 ≤ y) (h2 : x + y < 4096) : IntKind.i64.wrap (IntKind.i64.wrap x + IntKind.i64.wrap y) = x + y := by
  rw [wrap_small x h0 (by omega), wrap_small y h1 (by omega), wrap_small _ (by omega) h2]
theorem tellD_none {w w' : World} {T : Option (List Nat)} (h : T = none) (hk : Keep noBlock w w') : TellPost T w (.returned (.tuple #[.slice none 0 0, .bool false])) w' := by subst h; exact ⟨hk, rfl⟩
theorem tellD_some {w w' : World} {T : Option (List Nat)} {M : List Nat} {v : Value} (h : T = some M) (hk : Keep noBlock w w') (ho : w'.ownsRow 0 5 1 v M.length (u8s M)) (hn : ∀ k, v.ownBlock = some k → w.heap.size ≤ k) : TellPost T w (.returned (.tuple #[v, .bool true])) w' := by subst h; exact ⟨hk, v, rfl, ho, hn⟩

section
attribute [local go_sem] sliceSem_eq
set_option maxRecDepth 100000 in
set_option maxHeartbeats 1000000 in
theorem statesD_any (a : Option Addr) (cap gb off : Nat) (ds : List Nat) (w : World) (hB : Bytes w a cap gb off ds) (hl : ds.length ≤ 200) :
    Calls Try.prog 19 #[.slice a ds.length cap] w fun e w' => ∃ R, RdRel ds 6 11 R ∧ TellPost (tellD ds R) w e w' := by
  have HRd := (show Hid (Calls Try.prog 41 #[.slice a ds.length cap, .int .i64 6, .int .i64 11] w fun e w' => ∃ T, RdRel ds 6 11 T ∧ RdPost T w e w') from readQ_all a cap gb off ds 6 11 w hB (by omega) (by omega) (by omega) (by omega))
  have HB1 := (show Hid (Bytes w a cap gb off ds ∧ ds.length ≤ 200) from ⟨hB, hl⟩)
  obtain ⟨k, hk⟩ : ∃ k, k = ds.length := ⟨_, rfl⟩
  rw [← hk] at HRd ⊢
  have HK := (show Hid (k = ds.length) from hk)
  have hkI : (k : Int) ≤ 200 := by omega
  clear hB hk hl
  go_enter Try.func19, Try.ntmps19
  go_wp2_with fail
  refine HRd.out.mono ?_
  rintro e w1 ⟨R, hR, hK1, hm⟩
  clear HRd
  cases R with
  | none =>
    obtain ⟨E, hE, rfl⟩ := hm
    have HD := (show Hid (RdRel ds 6 11 none ∧ Keep noBlock w w1) from ⟨hR, hK1⟩)
    clear hR hK1
    go_wp2_with fail
    go_ret2
    exact ⟨none, HD.out.1, HD.out.2, rfl⟩
  | some r =>
    obtain ⟨xs, l, u⟩ := r
    obtain ⟨sa, sc, g2, rfl, hRow, hg2⟩ := hm
    obtain ⟨ok, hI16, hxl, hxne, hub, hl6, hl5, hu1⟩ := hR.ok (by omega) (by omega)
    have HTb := (show Hid (Calls Try.prog 42 #[.slice sa xs.length sc, .int .i64 (l : Int)] w1 _) from tableQ_good sa sc g2 0 xs l w1 hRow hI16 ok)
    obtain ⟨xl, hxle⟩ : ∃ xl, xl = xs.length := ⟨_, rfl⟩
    rw [← hxle] at HTb ⊢
    obtain ⟨a3, off3, hrun3, hB3, -⟩ := HB1.out.1.drop u hub
    have hk3 := HK.out
    rw [← hk3] at hrun3
    have HD := (show Hid (RdRel ds 6 11 (some (xs, l, u)) ∧ Keep noBlock w w1 ∧ okT xs (l : Int) = true ∧ xs.length ≤ 12 ∧ l ≤ 6 ∧ Bytes w a3 (cap - u) gb off3 (ds.drop u) ∧ (ds.drop u).length ≤ 200) from ⟨hR, hK1, ok, hxl, hl6, hB3, by rw [List.length_drop]; have := HB1.out.2; omega⟩)
    have hlI : (l : Int) ≤ 6 := by omega
    have huI : (u : Int) ≤ (k : Int) := by omega
    have hlI5 : (5 : Int) ≤ (l : Int) := by omega
    obtain ⟨k3, hk3e⟩ : ∃ k3, k3 = (ds.drop u).length := ⟨_, rfl⟩
    rw [← hk3e] at hrun3
    have HK3 := (show Hid (k3 = (ds.drop u).length) from hk3e)
    obtain ⟨c3, hc3⟩ : ∃ c3, c3 = cap - u := ⟨_, rfl⟩
    rw [← hc3] at hrun3 HD
    clear hR hK1 hRow hg2 ok hI16 hxl hxne hub hl6 hl5 hu1 hB3 hk3 hxle hk3e hc3
    go_wp2_with fail
    refine HTb.out.mono ?_
    rintro e w2 ⟨tg, tcap, rfl, htg, htc, hRT, hK2⟩
    obtain ⟨S, hS⟩ : ∃ S, S = 2 ^ l := ⟨_, rfl⟩
    rw [← hS] at hRT htc ⊢
    have hSb : S ≤ 4096 := by rw [hS]; exact Nat.pow_le_pow_right (n := 2) (j := 12) (by omega) (by have := HD.out; omega)
    have hB3w : Bytes w2 a3 c3 gb off3 (ds.drop u) := (HD.out.2.2.2.2.2.1.keep HD.out.2.1 (fun _ h => h)).keep hK2 (fun _ h => h)
    have hK02 : Keep noBlock w w2 := HD.out.2.1.trans' hK2
    have HE := (show Hid (RowT w2 tg S (symF xs S) (fun i => bitF l (xF xs S i)) (fun i => baseF l (xF xs S i)) ∧ S = 2 ^ l ∧ Keep noBlock w w2 ∧ w.heap.size ≤ tg) from ⟨hRT, hS, hK02, by have := HD.out.2.1.size; omega⟩)
    by_cases h0 : (ds.drop u)[(ds.drop u).length - 1]?.getD 0 = 0
    · have HN := (show Hid (Calls Try.prog 32 #[.slice a3 k3 c3] w2 _) from by have := newD_bad a3 c3 gb off3 (ds.drop u) w2 hB3w (by have := HD.out; omega) h0; rw [← HK3.out] at this; exact this)
      have HF := (show Hid (tellD ds (some (xs, l, u)) = none) from if_pos h0)
      clear h0 hB3w hK02 hRT hK2 hS htg htc hSb
      go_wp2_with fail
      refine HN.out.mono ?_
      rintro e w3 ⟨rfl, rfl⟩
      go_wp2_with fail
      go_ret2
      exact ⟨_, HD.out.1, tellD_none HF.out HE.out.2.2.1⟩
    · have HN := (show Hid (Calls Try.prog 32 #[.slice a3 k3 c3] w2 _) from by have := newD_good a3 c3 gb off3 (ds.drop u) w2 hB3w (by have := HD.out; omega) h0; rw [← HK3.out] at this; exact this)
      have HF := (show Hid (tellD ds (some (xs, l, u)) = toldD (symF xs S) (fun i => bitF l (xF xs S i)) (fun i => baseF l (xF xs S i)) (ds.drop u) l) from by rw [hS]; exact if_neg h0)
      clear h0 hB3w hK02 hRT hK2 hS htg htc
      go_wp2_with fail
      refine HN.out.mono ?_
      rintro e w3 ⟨rb, g3, rfl, hrb, hg3, hA3, hK3⟩
      have htl : Tl.tailLen (ds.drop u) < 1125899906842624 := by have h1 := Tl.tailLen_le (ds.drop u) HD.out.2.2.2.2.2.1.lt; have h2 := HD.out.2.2.2.2.2.2; omega
      obtain ⟨bs, hbs⟩ : ∃ bs, bs = ds.drop u := ⟨_, rfl⟩
      rw [← hbs] at hA3 htl HF
      have hst0 : strm bs 0 l < S := by rw [HE.out.2.1]; exact strm_lt _ _ _
      have hst1 : strm bs l l < S := by rw [HE.out.2.1]; exact strm_lt _ _ _
      have hWi : Within (fun i => bitF l (xF xs S i)) (fun i => baseF l (xF xs S i)) S := by rw [HE.out.2.1]; exact within_ok HD.out.2.2.1 (by have := HD.out; omega)
      have hsy : ∀ i, i < S → symF xs S i < 256 := fun i hi => by
        have hi' := hi
        rw [HE.out.2.1] at hi' ⊢
        exact symF_256 HD.out.2.2.1 (by have := HD.out; omega) i hi'
      have hTab := HE.out.1.keep hK3 (fun h => h)
      have hK03 : Keep noBlock w w3 := HE.out.2.2.1.trans' hK3
      have htgl := HE.out.1.lt
      have hwtg := HE.out.2.2.2
      have hw2s := HE.out.2.2.1.size
      have HRl := (show Hid (RdRel ds 6 11 (some (xs, l, u))) from HD.out.1)
      clear HD HE HN HTb HB1 HK HK3 hbs hrun3
      generalize symF xs S = sy at *
      generalize (fun i => bitF l (xF xs S i)) = bi at *
      generalize (fun i => baseF l (xF xs S i)) = ba at *
      obtain ⟨TD, hTDe⟩ : ∃ TD, tellD ds (some (xs, l, u)) = TD := ⟨_, rfl⟩
      rw [hTDe] at HF
      have HTDe := (show Hid (tellD ds (some (xs, l, u)) = TD) from hTDe)
      clear hTDe
      obtain ⟨pb, hpb⟩ : ∃ pb, pb = w3.heap.size := ⟨_, rfl⟩
      have hrbw : rb < pb := by obtain ⟨c0, h0⟩ := hA3.is.obj; rw [hpb]; exact obj_lt h0
      have hgw : g3 < pb := by rw [hpb]; exact hA3.is.lt
      have htgp : tg < pb := by have := hK3.size; omega
      have hkA : Keep noBlock w3 (w3.alloc (.cells #[.int .i64 0, .int .i64 0] 87)) := (Keep.refl _ w3).alloc _
      have HB1 := (show Hid (Calls Try.prog 43 #[.pointer (some ⟨rb, 0, none⟩), .int .i64 (l : Int)] (w3.alloc (.cells #[.int .i64 0, .int .i64 0] 87)) _) from (hA3.keep hkA (fun h => h) (fun h => h)).bits l (by omega) (by omega))
      have on := World.alloc_heap_new w3 (.cells #[.int .i64 0, .int .i64 0] 87)
      rw [← hpb] at on
      have HP := (show Hid (pb = w3.heap.size ∧ (w3.alloc (.cells #[.int .i64 0, .int .i64 0] 87)).heap[pb]? = some (.cells #[.int .i64 0, .int .i64 0] 87 (0, 0)) ∧ Keep noBlock w (w3.alloc (.cells #[.int .i64 0, .int .i64 0] 87)) ∧ RowT (w3.alloc (.cells #[.int .i64 0, .int .i64 0] 87)) tg S sy bi ba) from ⟨hpb, on, hK03.trans' hkA, hTab.keep hkA (fun h => h)⟩)
      have HZ := (show Hid (w.heap.size ≤ rb ∧ w.heap.size ≤ g3 ∧ rb < pb ∧ g3 < pb ∧ tg < pb ∧ rb ≠ tg ∧ w.heap.size ≤ tg) from ⟨by omega, by omega, hrbw, hgw, htgp, by omega, hwtg⟩)
      have HH := (show Hid (Within bi ba S ∧ (∀ i, i < S → sy i < 256) ∧ Tl.tailLen bs < 1125899906842624 ∧ S ≤ 4096) from ⟨hWi, hsy, htl, hSb⟩)
      clear hA3 hK3 hK03 hkA on hTab hWi hsy htl hrbw hgw htgp hrb hg3 htgl hwtg hw2s hpb
      go_wp2_with fail
      rw [← HP.out.1]
      generalize w3.alloc (.cells #[.int .i64 0, .int .i64 0] 87) = W3 at *
      refine HB1.out.mono ?_
      rintro e w4 ⟨rfl, hA4, hK4⟩
      rw [Nat.zero_add] at hA4
      obtain ⟨s0, hs0⟩ : ∃ s0, s0 = strm bs 0 l := ⟨_, rfl⟩
      rw [← hs0] at hst0 ⊢
      have HS00 := (show Hid (s0 = strm bs 0 l) from hs0)
      have hs0I : (s0 : Int) < 4096 := by have := HH.out.2.2.2; omega
      have o4 := hK4.obj HP.out.2.1 (by have := HZ.out; omega)
      have c40 : w4.cell? ⟨pb, 0, none⟩ = some (.int .i64 0) := cell_of o4 0
      have f40 := frozen_of o4 0
      have hks4 : Keep (fun k => k = pb) w4 (w4.setCell ⟨pb, 0, none⟩ (.int .i64 (s0 : Int))) := (Keep.refl (fun k => k = pb) w4).setCell (p := ⟨pb, 0, none⟩) (fun _ => rfl) _
      have o5 : (w4.setCell ⟨pb, 0, none⟩ (.int .i64 (s0 : Int))).heap[pb]? = some (.cells #[.int .i64 (s0 : Int), .int .i64 0] 87 (0, 0)) := by rw [set_obj o4 0 _]; rfl
      have hz := HZ.out
      have hT5 : RowT (w4.setCell ⟨pb, 0, none⟩ (.int .i64 (s0 : Int))) tg S sy bi ba := (HP.out.2.2.2.keep hK4 (by omega)).keep hks4 (by omega)
      have hK5 : Keep noBlock w (w4.setCell ⟨pb, 0, none⟩ (.int .i64 (s0 : Int))) := (HP.out.2.2.1.trans hK4 (fun j hj e => by omega)).trans hks4 (fun j hj e => by omega)
      have hA5 := hA4.keep hks4 (by omega) (by omega)
      have HP5 := (show Hid (∀ W5, W5 = w4.setCell ⟨pb, 0, none⟩ (.int .i64 (s0 : Int)) → AtQ W5 rb g3 bs l ∧ RowT W5 tg S sy bi ba ∧ Keep noBlock w W5 ∧ W5.heap[pb]? = some (.cells #[.int .i64 (s0 : Int), .int .i64 0] 87 (0, 0))) from fun W5 e => by rw [e]; exact ⟨hA5, hT5, hK5, o5⟩)
      clear hA4 hK4 o4 hks4 o5 hz hT5 hK5 hA5 HP HB1 hs0
      have HS0 := (show Hid (s0 < S ∧ s0 = s0) from ⟨hst0, rfl⟩)
      go_wp2_with fail
      generalize hW5 : w4.setCell ⟨pb, 0, none⟩ (.int .i64 (s0 : Int)) = W5
      obtain ⟨hA5, hT5, hK5, o5⟩ := HP5.out W5 hW5.symm
      clear hW5 HP5 c40 f40
      refine (hA5.bits l (by omega) (by omega)).mono ?_
      rintro e w6 ⟨rfl, hA6, hK6⟩
      obtain ⟨s1, hs1⟩ : ∃ s1, s1 = strm bs l l := ⟨_, rfl⟩
      rw [← hs1] at hst1 ⊢
      have HS11 := (show Hid (s1 = strm bs l l) from hs1)
      have hs1I : (s1 : Int) < 4096 := by have := HH.out.2.2.2; omega
      have hz := HZ.out
      have o6 := hK6.obj o5 (by omega)
      have c61 : w6.cell? ⟨pb, 1, none⟩ = some (.int .i64 0) := cell_of o6 1
      have f61 := frozen_of o6 1
      have hks6 : Keep (fun k => k = pb) w6 (w6.setCell ⟨pb, 1, none⟩ (.int .i64 (s1 : Int))) := (Keep.refl (fun k => k = pb) w6).setCell (p := ⟨pb, 1, none⟩) (fun _ => rfl) _
      have hT7 : Tq w rb g3 bs tg S sy bi ba pb (l + l) s0 s1 [] none 0 0 (w6.setCell ⟨pb, 1, none⟩ (.int .i64 (s1 : Int))) :=
        ⟨hA6.keep hks6 (by omega) (by omega), (hT5.keep hK6 (by omega)).keep hks6 (by omega), by rw [set_obj o6 1 _]; rfl, hst0, hst1, World.ownsRow_nil _ _ _ _, rfl, (fun k e => by cases e), (hK5.trans hK6 (fun j hj e => by omega)).trans hks6 (fun j hj e => by omega), by simp; omega, by simp⟩
      have hcl := hT7.at_.is.left
      obtain ⟨z, hze⟩ : ∃ z : Int, z = ((Tl.tailLen bs : Nat) : Int) - ((l + l : Nat) : Int) := ⟨_, rfl⟩
      rw [← hze] at hcl
      have hzb : -1000000 < z ∧ z < 1125899906842624 := by have := HH.out.2.2.1; omega
      have HT7 := (show Hid (Tq w rb g3 bs tg S sy bi ba pb (l + l) s0 s1 [] none 0 0 (w6.setCell ⟨pb, 1, none⟩ (.int .i64 (s1 : Int)))) from hT7)
      clear hA5 hT5 hK5 o5 hA6 hK6 hs1 o6 hks6 hT7 hz hst0 hst1 HS0
      by_cases hsh : Tl.tailLen bs < l + l
      · have hzn : z < 0 := by omega
        have HFn := (show Hid (TD = none) from HF.out.trans (if_pos hsh))
        clear hze
        go_wp2_with fail
        go_ret2
        exact ⟨_, HRl.out, tellD_none (HTDe.out.trans HFn.out) HT7.out.keep⟩
      · have hzn : ¬ z < 0 := by omega
        have HM0 := (show Hid (TD = (turnsF sy bi ba bs (257 - 0) s0 s1 (l + l)).map ([] ++ ·)) from by
          have h1 : TD = turnsF sy bi ba bs 257 s0 s1 (l + l) := HF.out.trans (by unfold toldD; rw [if_neg hsh, HS00.out, HS11.out])
          exact h1.trans (by simp))
        clear hze HF HS00 HS11
        go_wp2_with fail
        generalize w6.setCell ⟨pb, 1, none⟩ (.int .i64 (s1 : Int)) = W7 at *
        clear c61 f61 hcl
        go_loopw [12, 13] (fun v12 v13 wr => ∃ (i q a0 a1 : Nat) (M : List Nat) (sa : Option Addr) (sn sc : Nat), v12 = .slice sa sn sc ∧ v13 = .int .i64 (i : Int) ∧ i < 2 ∧ Hid (Tq w rb g3 bs tg S sy bi ba pb q a0 a1 M sa sn sc wr ∧ TD = (turnsF sy bi ba bs (257 - M.length) (if i = 0 then a0 else a1) (if i = 0 then a1 else a0) q).map (M ++ ·))) (fun v12 _ _ => 258 - sliceLen v12)
        case atStart => exact ⟨0, l + l, s0, s1, [], none, 0, 0, rfl, rfl, by omega, HT7.out, HM0.out⟩
        case round =>
          clear HM0 HT7 hzb hzn hs0I hs1I
          obtain ⟨i, q, a0, a1, M, sa, sn, sc, rfl, rfl, hi, HC⟩ := hrel
          obtain ⟨hU, hTD⟩ := HC.out
          have hsn := hU.len
          subst hsn
          have hfew := hU.few
          by_cases h257 : M.length = 257
          · have h257I : ¬ (M.length : Int) ≤ 256 := by omega
            have HE := (show Hid (TD = none ∧ Keep noBlock w wr) from ⟨by rw [hTD, h257]; rfl, hU.keep⟩)
            clear hU hTD HC hfew h257
            go_wp2_with fail
            go_ret2
            exact ⟨_, HRl.out, tellD_none (HTDe.out.trans HE.out.1) HE.out.2⟩
          · have h257I : (M.length : Int) ≤ 256 := by omega
            obtain ⟨own, hown⟩ : ∃ own, own = if i = 0 then a0 else a1 := ⟨_, rfl⟩
            obtain ⟨oth, hoth⟩ : ∃ oth, oth = if i = 0 then a1 else a0 := ⟨_, rfl⟩
            rw [← hown, ← hoth] at hTD
            have hoS : own < S ∧ oth < S := by
              rw [hown, hoth]
              have := hU.lt0; have := hU.lt1
              constructor <;> split <;> assumption
            have cown : wr.cell? ⟨pb, i, none⟩ = some (.int .i64 (own : Int)) := by
              have h := cell_of hU.pair i
              rcases (show i = 0 ∨ i = 1 by omega) with rfl | rfl
              · rw [h, hown]; simp
              · rw [h, hown]; simp
            have hiI : (i : Int) < 2 := by omega
            obtain ⟨c1, c2, c3⟩ := hU.tab.cells own hoS.1
            have hSb := HH.out.2.2.2
            have hoSI : (own : Int) < (S : Int) := by omega
            have hSI : (S : Int) ≤ 4096 := by omega
            have hs256 := HH.out.2.1 own hoS.1
            obtain ⟨hb12, hbs⟩ := HH.out.1 own hoS.1
            have hnxt := within_next HH.out.1 bs q own hoS.1
            obtain ⟨f, hf⟩ : ∃ f, 257 - M.length = f + 1 := ⟨256 - M.length, by omega⟩
            obtain ⟨nb, hnb⟩ : ∃ nb, nb = wr.heap.size := ⟨_, rfl⟩
            have hk1 : Keep noBlock wr (wr.alloc (.cells #[.int .u8 ((sy own : Nat) : Int), .int .u8 ((bi own : Nat) : Int), .int .u16 ((ba own : Nat) : Int)] 91)) := (Keep.refl _ wr).alloc _
            obtain ⟨v', W', hrun, hown5, hk5, hm5⟩ := own_push (owns_kept hU.owns hk1 (fun _ _ h => h)) (sy own) (by omega)
            rw [World.size_alloc, ← hnb] at hrun
            obtain ⟨oa', oc', hv'⟩ := owns_form hown5
            have hlM : (M ++ [sy own]).length = M.length + 1 := by simp
            rw [hlM] at hv'
            have on := World.alloc_heap_new wr (.cells #[.int .u8 ((sy own : Nat) : Int), .int .u8 ((bi own : Nat) : Int), .int .u16 ((ba own : Nat) : Int)] 91)
            rw [← hnb] at on
            have hob : ∀ k, (Value.slice sa M.length sc).ownBlock = some k → k < nb := fun k e => by rw [hnb]; exact ownBlock_lt hU.owns e
            have hkW : Keep (fun k => (Value.slice sa M.length sc).ownBlock = some k) wr W' := (hk1.mono (fun _ _ h => h.elim)).trans hk5 (fun _ _ h => h)
            have o1' := hk5.obj on (fun e => by have := hob _ e; omega)
            have hz := HZ.out
            have hpn : pb < nb := by rw [hnb]; exact obj_lt hU.pair
            have hAW := hU.at_.keep hkW (fun e => by have := hU.new _ e; omega) (fun e => by have := hU.new _ e; omega)
            have hnext := fun w3 => hU.next HH.out.1 i hi own hown hz (by omega) v' W' w3 hkW hown5 (hm5.imp id (fun ⟨k, e1, e2⟩ => ⟨k, e1, by rw [World.size_alloc] at e2; omega⟩)) oa' oc' hv'
            have hpW := hkW.obj hU.pair (fun e => by have := hU.new _ e; omega)
            have HNX := (show Hid (∀ w3, AtQ w3 rb g3 bs (q + bi own) → Keep (fun k => k = rb) (W'.drewN 1) w3 → Tq w rb g3 bs tg S sy bi ba pb (q + bi own) (if i = 0 then ba own + strm bs q (bi own) else a0) (if i = 0 then a1 else ba own + strm bs q (bi own)) (M ++ [sy own]) oa' (M.length + 1) oc' (w3.setCell ⟨pb, i, none⟩ (.int .i64 ((ba own + strm bs q (bi own) : Nat) : Int))) ∧ w3.cell? ⟨nb, 1, none⟩ = some (.int .u8 ((bi own : Nat) : Int)) ∧ w3.cell? ⟨nb, 2, none⟩ = some (.int .u16 ((ba own : Nat) : Int)) ∧ (∃ x, w3.cell? ⟨pb, i, none⟩ = some x) ∧ w3.frozen? ⟨pb, i, none⟩ = false ∧ ∀ x, (w3.setCell ⟨pb, i, none⟩ x).cell? ⟨nb, 1, none⟩ = some (.int .u8 ((bi own : Nat) : Int)) ∧ (w3.setCell ⟨pb, i, none⟩ x).cell? ⟨nb, 2, none⟩ = some (.int .u16 ((ba own : Nat) : Int))) from fun w3 hA3 hK3 => by
              have hK3' : Keep (fun k => k = rb) W' w3 := ((keep_drewN W' 1).mono (fun _ _ h => h.elim)).trans hK3 (fun _ _ h => h)
              have p1 := hK3'.obj o1' (by omega)
              have p2 := hK3'.obj hpW (by omega)
              have o3 : ∀ x : Value, (w3.setCell ⟨pb, i, none⟩ x).heap[nb]? = w3.heap[nb]? := fun x => ((Keep.refl (fun k => k = pb) w3).setCell (p := ⟨pb, i, none⟩) (fun _ => rfl) x).block nb (obj_lt p1) (by omega)
              refine ⟨hnext w3 hA3 hK3', cell_of p1 1, cell_of p1 2, ?_, frozen_of p2 i, fun x => ⟨(World.cell?_of_block (o3 x)).trans (cell_of p1 1), (World.cell?_of_block (o3 x)).trans (cell_of p1 2)⟩⟩
              rcases (show i = 0 ∨ i = 1 by omega) with rfl | rfl
              · exact ⟨_, cell_of p2 0⟩
              · exact ⟨_, cell_of p2 1⟩)
            have HTD := (show Hid (TD = if Tl.tailLen bs < q + bi own then some (M ++ [sy own] ++ [sy oth]) else (turnsF sy bi ba bs (257 - (M ++ [sy own]).length) oth (ba own + strm bs q (bi own)) (q + bi own)).map ((M ++ [sy own]) ++ ·)) from hTD.trans (by
              rw [hf, turnsF_succ]
              split
              · simp
              · rw [Option.map_map, show 257 - (M ++ [sy own]).length = f from by simp; omega]
                congr 1
                funext z
                simp))
            have hbq := hU.bits
            have HX := (show Hid (own = (if i = 0 then a0 else a1) ∧ oth = (if i = 0 then a1 else a0) ∧ oth < S ∧ i < 2 ∧ nb = wr.heap.size ∧ q ≤ 5000) from ⟨hown, hoth, hoS.2, hi, hnb, by omega⟩)
            have HB := (show Hid (∀ q', Calls Try.prog 43 #[.pointer (some ⟨rb, 0, none⟩), .int .i64 ((bi own : Nat) : Int)] (W'.drewN q') _) from fun q' => (hAW.drewN q').bits (bi own) (by omega) (by omega))
            have d2 : W'.cell? ⟨nb, 1, none⟩ = some (.int .u8 ((bi own : Nat) : Int)) ∧ W'.cell? ⟨nb, 2, none⟩ = some (.int .u16 ((ba own : Nat) : Int)) := ⟨cell_of o1' 1, cell_of o1' 2⟩
            subst hv'
            clear hU hTD HC hfew h257 hown hoth hown5 hk5 hm5 hk1 hlM on hob hkW o1' hz hpn hAW hnext hpW hbq hnb hf hoS hSb
            generalize sy own = y at *
            obtain ⟨N, hN⟩ : ∃ N, N = bi own := ⟨_, rfl⟩
            obtain ⟨B, hB⟩ : ∃ B, B = ba own := ⟨_, rfl⟩
            rw [← hN] at c2 hb12 HNX HTD HB d2 hrun hbs hnxt
            rw [← hB] at c3 HNX HTD d2 hrun hbs hnxt
            clear hN hB
            have hNI : (N : Int) ≤ 12 := by omega
            have hBI : (B : Int) < 4096 := by have := Nat.two_pow_pos N; omega
            have hyI : (y : Int) < 256 := by omega
            obtain ⟨nx, hnx⟩ : ∃ nx, nx = B + strm bs q N := ⟨_, rfl⟩
            have hnI : (B : Int) + ((strm bs q N : Nat) : Int) = (nx : Int) := by omega
            have hnxI : (nx : Int) < 4096 := by omega
            rw [← hnx] at HNX HTD
            clear hnx hbs hnxt
            have HWn := (show Hid (IntKind.i64.wrap (N : Int) = (N : Int)) from (by rw [IntKind.wrap_i64]; omega : IntKind.i64.wrap (N : Int) = (N : Int)))
            go_wp2_with (at_builtin; rw [← HX.out.2.2.2.2.1]; refine wpList_append_run _ rfl _ _ 22 rfl _ _ _ _ rfl rfl hrun ?_)
            clear hrun c1 c2 c3 cown
            go_region_held3 (fun W => W.cell? ⟨nb, 1, none⟩ = some (.int .u8 (N : Int)) ∧ W.cell? ⟨nb, 2, none⟩ = some (.int .u16 (B : Int))) (first | exact d2 | exact d3 | exact d6 _) ((first
              | (go_at_call 43; rw [HWn.out]; refine (HB.out 1).mono ?_; rintro e w8 ⟨rfl, hR3, hK3⟩; have HD3 := (show Hid (AtQ w8 rb g3 bs (q + N) ∧ Keep (fun k => k = rb) (W'.drewN 1) w8) from ⟨hR3, hK3⟩); clear hR3 hK3; have d3 : w8.cell? ⟨nb, 1, none⟩ = some (.int .u8 (N : Int)) ∧ w8.cell? ⟨nb, 2, none⟩ = some (.int .u16 (B : Int)) := (fun h => ⟨h.2.1, h.2.2.1⟩) (HNX.out w8 HD3.out.1 HD3.out.2); obtain ⟨x3, d4⟩ := (HNX.out w8 HD3.out.1 HD3.out.2).2.2.2.1; have d5 := (HNX.out w8 HD3.out.1 HD3.out.2).2.2.2.2.1; have d6 := (HNX.out w8 HD3.out.1 HD3.out.2).2.2.2.2.2)))
            have hwr : IntKind.i64.wrap (IntKind.i64.wrap (B : Int) + IntKind.i64.wrap ((strm bs q N : Nat) : Int)) = (nx : Int) := by
              rw [wrap_two _ _ (Int.natCast_nonneg _) (Int.natCast_nonneg _) (by rw [hnI]; exact hnxI), hnI]
            rw [hwr]
            have HU5 := (show Hid (Tq w rb g3 bs tg S sy bi ba pb (q + N) (if i = 0 then nx else a0) (if i = 0 then a1 else nx) (M ++ [y]) oa' (M.length + 1) oc' (w8.setCell ⟨pb, i, none⟩ (.int .i64 (nx : Int)))) from (HNX.out w8 HD3.out.1 HD3.out.2).1)
            clear hwr hnI d2 d3 d4 d5 d6 HB HWn HNX HD3
            generalize w8.setCell ⟨pb, i, none⟩ (.int .i64 (nx : Int)) = W5 at *
            have hcl := HU5.out.at_.is.left
            obtain ⟨zz, hzz⟩ : ∃ z : Int, z = ((Tl.tailLen bs : Nat) : Int) - ((q + N : Nat) : Int) := ⟨_, rfl⟩
            rw [← hzz] at hcl
            have hzb2 : -1000000 < zz ∧ zz < 1125899906842624 := by
              have := HH.out.2.2.1
              have := HX.out.2.2.2.2.2
              omega
            by_cases hsh2 : Tl.tailLen bs < q + N
            · have hzn2 : zz < 0 := by omega
              have HTe := (show Hid (TD = some (M ++ [y] ++ [sy oth])) from HTD.out.trans (if_pos hsh2))
              obtain ⟨oi, hoi⟩ : ∃ oi, oi = 1 - i := ⟨_, rfl⟩
              have hoiI : 1 - (i : Int) = (oi : Int) := by have := HX.out; omega
              have hoi2 : (oi : Int) < 2 := by omega
              have hothc : W5.cell? ⟨pb, oi, none⟩ = some (.int .i64 (oth : Int)) := by
                have h := cell_of HU5.out.pair oi
                have hx := HX.out
                rcases (show i = 0 ∨ i = 1 by omega) with rfl | rfl
                · rw [h, hoi, hx.2.1]; simp
                · rw [h, hoi, hx.2.1]; simp
              have hothS : oth < S := HX.out.2.2.1
              obtain ⟨c4, -, -⟩ := HU5.out.tab.cells oth hothS
              have hothI : (oth : Int) < (S : Int) := by omega
              have hso := HH.out.2.1 oth hothS
              obtain ⟨v7, W9, hrun7, hown7, hk7, hm7⟩ := own_push HU5.out.owns (sy oth) (by have := HU5.out.few; omega)
              have HE := (show Hid (W9.ownsRow 0 5 1 v7 (M ++ [y] ++ [sy oth]).length (u8s (M ++ [y] ++ [sy oth])) ∧ Keep noBlock w W9 ∧ ∀ k, v7.ownBlock = some k → w.heap.size ≤ k) from ⟨hown7, HU5.out.keep.trans hk7 (fun j hj e => by have := HU5.out.new j e; have := HZ.out; omega), fun k e => by
                rcases hm7 with e2 | ⟨j, e2, hj⟩
                · rw [e2] at e; have := HU5.out.new k e; have := HZ.out; omega
                · rw [e2] at e; cases e; have := HU5.out.keep.size; omega⟩)
              generalize sy oth = yo at *
              have hyo : (yo : Int) < 256 := by omega
              clear hown7 hk7 hm7 hoi hzz hsh2 hothS HTD
              go_wp2_with (at_builtin; refine wpList_append_run _ rfl _ _ 22 rfl _ _ _ _ rfl rfl hrun7 ?_)
              try simp only [Exit.noGoto]
              go_ret2
              exact ⟨_, HRl.out, tellD_some (HTDe.out.trans HTe.out) HE.out.2.1 HE.out.1 HE.out.2.2⟩
            · have hzn2 : ¬ zz < 0 := by omega
              have HTe := (show Hid _ from HTD.out.trans (if_neg hsh2))
              clear hzz hsh2 HTD
              obtain ⟨oi, hoi⟩ : ∃ oi, oi = 1 - i := ⟨_, rfl⟩
              have hoiI : 1 - (i : Int) = (oi : Int) := by have := HX.out; omega
              have hoi2 : (oi : Int) < 2 := by omega
              have HOI := (show Hid (oi = 1 - i) from hoi)
              clear hoi
              go_wp2_with fail
              go_roundw
              case rel =>
                have hx := HX.out
                refine ⟨oi, q + N, _, _, M ++ [y], oa', M.length + 1, oc', rfl, rfl, by omega, HU5.out, ?_⟩
                rw [HTe.out, hx.2.1, HOI.out]
                rcases (show i = 0 ∨ i = 1 by omega) with rfl | rfl
                · simp
                · simp
              case measure => simp only [sliceLen]; omega
end

end Go.Proofs.Ytkljidigmolmmaa

namespace Go.Proofs.Ytkljidigmolmmaa
open Go.RowKit Go.Shelf
set_option linter.unusedVariables false

/-- Program and document tell weights that make the same code, or none. -/
theorem readOf_tell (bs : List Nat) (R : Option (List Int × Nat × Nat)) : readOf (tellT bs R) = readOf (tellD bs R) := by
  cases hD : tellD bs R with
  | none =>
    cases hT : tellT bs R with
    | none => rfl
    | some M => have := ((tellT_iff bs R M).1 hT).1; rw [hD] at this; cases this
  | some M =>
    by_cases hl : M.length ≤ 255
    · rw [(tellT_iff bs R M).2 ⟨hD, hl⟩]
    · rw [readOf_no (whole_long M (by omega))]
      cases hT : tellT bs R with
      | none => rfl
      | some M' =>
        have h := (tellT_iff bs R M').1 hT
        rw [hD] at h
        have := h.2
        cases h.1
        omega

set_option maxRecDepth 100000 in
set_option maxHeartbeats 1000000 in
theorem readD_short (a : Option Addr) (cap gb off : Nat) (bs : List Nat) (w : World) (hB : Bytes w a cap gb off bs) (hs : bs.length < usedN (bs[0]?.getD 0)) :
    Calls Try.prog 8 #[.slice a bs.length cap] w fun e w' => e = .returned (.tuple #[.slice none 0 0, .int .i64 0, .int .i64 10]) ∧ w' = w := by
  by_cases h0 : bs.length = 0
  · rw [h0]
    go_enter Try.func8, Try.ntmps8
    go_wp2
    exact bodyPost_ret (by simp [results, Try.results8]) rfl ⟨rfl, rfl⟩
  · obtain rfl := hB.here (i := 0) (by omega)
    have c0 := hB.cells 0 (by omega)
    have hx := hB.lt 0
    rw [Nat.add_zero] at c0
    have h48 := hB.len
    obtain ⟨n, hn⟩ : ∃ n, n = bs.length := ⟨_, rfl⟩
    rw [← hn] at hs h0 h48 ⊢
    generalize bs[0]?.getD 0 = h at *
    have hn0 : ((n : Int) == 0) = false := by rw [beq_eq_false_iff_ne]; omega
    have hn1 : (0 : Int) < (n : Int) := by omega
    have hhI : (h : Int) < 256 := by omega
    unfold usedN at hs
    by_cases h128 : h ≤ 127
    · rw [if_pos h128] at hs
      have h128I : ¬ (128 : Int) ≤ (h : Int) := by omega
      have hsI : (n : Int) < 1 + (h : Int) := by omega
      clear hB hn h48
      go_enter Try.func8, Try.ntmps8
      go_wp2
      exact bodyPost_ret (by simp [results, Try.results8]) rfl ⟨rfl, rfl⟩
    · rw [if_neg h128] at hs
      have h128I : (128 : Int) ≤ (h : Int) := by omega
      obtain ⟨d, hd⟩ : ∃ d, d = (h - 127 + 1) / 2 := ⟨_, rfl⟩
      have hdI : ((h : Int) - 127 + 1) / 2 = (d : Int) := by omega
      have hdT : ((h : Int) - 127 + 1).tdiv 2 = (d : Int) := by rw [Int.tdiv_eq_ediv_of_nonneg (by omega)]; exact hdI
      have hsI : (n : Int) < 1 + (d : Int) := by omega
      have hd2 : (d : Int) < 100 := by omega
      clear hB hn h48 hd hs h128
      go_enter Try.func8, Try.ntmps8
      go_wp2
      exact bodyPost_ret (by simp [results, Try.results8]) rfl ⟨rfl, rfl⟩

end Go.Proofs.Ytkljidigmolmmaa

namespace Go.Proofs.Ytkljidigmolmmaa
open Go.RowKit Go.Shelf
set_option linter.unusedVariables false

theorem run_mid5 (a : Option Addr) (len cap k m : Nat) (h1 : k ≤ m) (h2 : m ≤ cap) (w : World) :
    (sliceSem 22 (.slice a len cap) (some (.int .i64 (k : Int))) (some (.int .i64 (m : Int))) none).run Try.prog w = .ok (.slice (if cap = k then a else a.map (fun x => x.add k)) (m - k) (cap - k)) w := by
  obtain ⟨i0, hi, hz0, hz1, hz2⟩ := info_parts info5
  simp [sliceSem, Instr.slice, run_underlying Try.underlying22, Instr.sliceBounds, Instr.sliceBound, asIntOf, h1, h2, sizeOf, typeInfo, hi, hz1]

theorem turnsF_lt {sy bi ba : Nat → Nat} {bs : List Nat} {S : Nat} (hW : Within bi ba S) (hsy : ∀ i, i < S → sy i < 256) : ∀ (f own other q : Nat) (M : List Nat), own < S → other < S → turnsF sy bi ba bs f own other q = some M → ∀ x ∈ M, x < 256 := by
  intro f
  induction f with
  | zero => intro own other q M _ _ h; cases h
  | succ f ih =>
    intro own other q M h1 h2 h
    rw [turnsF_succ] at h
    split at h
    · cases h
      intro x hx
      simp only [List.mem_cons, List.not_mem_nil, or_false] at hx
      rcases hx with rfl | rfl
      · exact hsy _ h1
      · exact hsy _ h2
    · obtain ⟨M', h3, rfl⟩ := Option.map_eq_some_iff.1 h
      intro x hx
      rcases List.mem_cons.1 hx with rfl | hx
      · exact hsy _ h1
      · exact ih _ _ _ _ h2 (within_next hW bs q own h1) h3 x hx
theorem tellD_lt {ds : List Nat} {R : Option (List Int × Nat × Nat)} {M : List Nat} (hR : RdRel ds 6 11 R) (h : tellD ds R = some M) : ∀ j : Nat, M[j]?.getD 0 < 256 := by
  cases R with
  | none => cases h
  | some r =>
    obtain ⟨xs, l, u⟩ := r
    obtain ⟨ok, hI16, hxl, hxne, hub, hl6, hl5, hu1⟩ := hR.ok (by omega) (by omega)
    unfold tellD at h
    dsimp only at h
    split at h
    · cases h
    · unfold toldD at h
      split at h
      · cases h
      · exact lt256 (turnsF_lt (within_ok ok (by omega)) (fun i hi => symF_256 ok (by omega) i hi) _ _ _ _ _ (strm_lt _ _ _) (strm_lt _ _ _) h)

section
attribute [local go_sem] sliceSem_eq
set_option maxRecDepth 100000 in
set_option maxHeartbeats 1000000 in
theorem readD_states (a : Option Addr) (cap gb off : Nat) (bs : List Nat) (u : Nat) (w : World) (hB : Bytes w a cap gb off bs) (hne : bs ≠ []) (h1 : bs[0]?.getD 0 ≤ 127) (hu : u = 1 + bs[0]?.getD 0) (hs : u ≤ bs.length) :
    Calls Try.prog 8 #[.slice a bs.length cap] w fun e w' => ∃ R, RdRel ((bs.take u).drop 1) 6 11 R ∧ ReadPost (readOf (tellD ((bs.take u).drop 1) R)) u w e w' := by
  have hpos : 0 < bs.length := List.length_pos_iff.2 hne
  obtain rfl := hB.here (i := 0) hpos
  have c0 := hB.cells 0 hpos
  rw [Nat.add_zero] at c0
  have h48 := hB.len
  have hcap := hB.cap
  have hBt := (hB.take u hs).2
  have htl : (bs.take u).length = u := by rw [List.length_take]; omega
  obtain ⟨a', off', hrun2, hB', -⟩ := hBt.drop 1 (by rw [htl]; omega)
  have hea : (if cap = 1 then (some ⟨gb, off, none⟩ : Option Addr) else (some ⟨gb, off, none⟩ : Option Addr).map (fun x => x.add 1)) = a' := by
    have e1 := run_low5 (some ⟨gb, off, none⟩) (bs.take u).length cap 1 (by rw [htl]; omega) w
    rw [hrun2 w] at e1
    injection e1 with e1
    injection e1 with e1
    exact e1.symm
  have hrun : ∀ W, _ := fun W => run_mid5 (some ⟨gb, off, none⟩) bs.length cap 1 u (by omega) (by omega) W
  rw [hea] at hrun
  obtain ⟨ds, hds⟩ : ∃ ds, ds = (bs.take u).drop 1 := ⟨_, rfl⟩
  have hdl : ds.length = u - 1 := by rw [hds, List.length_drop, htl]
  rw [← hds] at hB' ⊢
  have HS := (show Hid (Calls Try.prog 19 #[.slice a' (u - 1) (cap - 1)] w fun e w' => ∃ R, RdRel ds 6 11 R ∧ TellPost (tellD ds R) w e w') from by
    have := statesD_any a' (cap - 1) gb off' ds w hB' (by omega)
    rw [hdl] at this
    exact this)
  obtain ⟨n, hn⟩ : ∃ n, n = bs.length := ⟨_, rfl⟩
  rw [← hn] at hrun hs hpos h48 ⊢
  rw [show (((1 : Nat) : Int)) = (1 : Int) from rfl] at hrun
  obtain ⟨h, hh⟩ : ∃ h, h = bs[0]?.getD 0 := ⟨_, rfl⟩
  rw [← hh] at h1 hu c0
  have hgt : ¬ (128 : Int) ≤ (h : Int) := by omega
  have huI : 1 + (h : Int) = (u : Int) := by omega
  have hu128 : (u : Int) ≤ 128 := by omega
  have hsI : ¬ (n : Int) < (u : Int) := by omega
  have hn0 : ((n : Int) == 0) = false := by rw [beq_eq_false_iff_ne]; omega
  have hn1 : (0 : Int) < (n : Int) := by omega
  have hhI : (h : Int) < 256 := by omega
  obtain ⟨k, hk⟩ : ∃ k, k = u - 1 := ⟨_, rfl⟩
  obtain ⟨c', hc'⟩ : ∃ c', c' = cap - 1 := ⟨_, rfl⟩
  rw [← hk, ← hc'] at hrun HS
  clear hB hBt htl hB' hea hrun2 hds hdl hn hh h48 hcap hk hc' hu h1 hne
  go_enter Try.func8, Try.ntmps8
  go_wp2_with fail
  refine HS.out.mono ?_
  rintro e w1 ⟨R, hR, hK1, hm⟩
  have HR := (show Hid (RdRel ds 6 11 R) from hR)
  clear hR HS
  obtain ⟨T, hTe⟩ : ∃ T, tellD ds R = T := ⟨_, rfl⟩
  rw [hTe] at hm
  have HTe := (show Hid (tellD ds R = T) from hTe)
  clear hTe
  cases T with
  | none =>
    obtain rfl : e = .returned (.tuple #[.slice none 0 0, .bool false]) := hm
    have HK := (show Hid (Keep noBlock w w1) from hK1)
    clear hK1
    go_wp2_with fail
    refine bodyPost_ret (by simp [results, Try.results8]; rfl) rfl ⟨R, HR.out, ?_⟩
    rw [HTe.out]
    exact ⟨HK.out, rfl⟩
  | some M =>
    obtain ⟨v, rfl, hown, hnew⟩ := hm
    have hlt := tellD_lt HR.out HTe.out
    have hlM : M.length < 2 ^ 48 := by
      have h := HTe.out
      have : M.length ≤ 258 := by
        cases R with
        | none => cases h
        | some r =>
          obtain ⟨xs, l, u⟩ := r
          unfold tellD at h
          dsimp only at h
          split at h
          · cases h
          · unfold toldD at h
            split at h
            · cases h
            · exact (turnsF_len _ _ _ _ _ h).1
      omega
    obtain ⟨a2, cap2, g2, rfl, hB2, hg2⟩ := owns_bytes hown hlt hlM
    have HL := (show Hid (Calls Try.prog 20 _ w1 _) from whole_any a2 cap2 g2 0 M w1 hB2)
    have HK := (show Hid (Keep noBlock w w1) from hK1)
    obtain ⟨L0, hL0⟩ : ∃ L0, L0 = M.length := ⟨_, rfl⟩
    rw [← hL0] at HL ⊢
    clear hown hnew hK1 hlt hlM hB2 hg2 hL0
    go_wp2_with fail
    refine HL.out.mono ?_
    rintro e w2 ⟨hK2, hP⟩
    have HK2 := (show Hid (Keep noBlock w w2) from HK.out.trans' hK2)
    rcases hP with ⟨hc, v2, rfl, hown2, hnew2⟩ | ⟨hc, v2, rfl⟩
    · obtain ⟨sb, bcap, rfl⟩ := owns_form hown2
      have HO := (show Hid (w2.ownsRow 0 5 1 (.slice sb (M ++ [lastW M]).length bcap) (M ++ [lastW M]).length (u8s (M ++ [lastW M])) ∧ readOf (some M) = some (M ++ [lastW M])) from ⟨hown2, readOf_yes hc⟩)
      obtain ⟨L, hL⟩ : ∃ L, L = (M ++ [lastW M]).length := ⟨_, rfl⟩
      rw [← hL] at HO ⊢
      have HLL := (show Hid (L = (M ++ [lastW M]).length) from hL)
      clear hL
      clear hown2 hnew2 hK2
      go_wp2_with fail
      refine bodyPost_ret (by simp [results, Try.results8]; rfl) rfl ⟨R, HR.out, ?_⟩
      rw [HTe.out, HO.out.2]
      exact ⟨HK2.out, _, rfl, by rw [← HLL.out]; exact HO.out.1⟩
    · have HO := (show Hid (readOf (some M) = none) from readOf_no hc)
      clear hK2
      go_wp2_with fail
      refine bodyPost_ret (by simp [results, Try.results8]; rfl) rfl ⟨R, HR.out, ?_⟩
      rw [HTe.out, HO.out]
      exact ⟨HK2.out, rfl⟩
end

end Go.Proofs.Ytkljidigmolmmaa
