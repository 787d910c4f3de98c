/-
  The document's Unpack.
  The document's own writer: what each of its calls does.
  The document's Pack.
  What the document's Pack and Unpack answer, whatever they are handed.
  WeightsPack answers true: bytes are packed and unpacked as the document says.
-/
import Derived.Deep.RegionHeld3
import Derived.Test.YtkljidigmolmmaaPackP13
namespace Go.Proofs.Ytkljidigmolmmaa
open Go.RowKit Go.Shelf
set_option linter.unusedVariables false

theorem posU_mono (ws : List Nat) (m : Nat) (bs : List Nat) (i j : Nat) (h : i ≤ j) : posU ws m bs i ≤ posU ws m bs j := by
  induction j with
  | zero => obtain rfl : i = 0 := by omega
            exact Nat.le_refl _
  | succ j ih =>
    by_cases e : i = j + 1
    · subst e; exact Nat.le_refl _
    · have := ih (by omega)
      rw [posU_succ]; omega
/-- The document's New over whatever bytes. -/
theorem newD_bad (a : Option Addr) (cap gb off : Nat) (bs : List Nat) (w : World) (hB : Bytes w a cap gb off bs) (hl : bs.length ≤ 1048576) (h0 : bs[bs.length - 1]?.getD 0 = 0) :
    Calls Try.prog 32 #[.slice a bs.length cap] w fun e w' => e = .returned (.tuple #[.pointer none, .int .i64 11]) ∧ w' = w := by
  cases hn : bs.length with
  | zero => exact Tl.newQ_none a cap w
  | succ k =>
    obtain rfl := hB.here (i := k) (by omega)
    refine Tl.newQ_zero gb off cap k w (by omega) ?_
    rw [hB.cells k (by omega)]
    rw [hn, Nat.add_sub_cancel] at h0
    rw [h0]; rfl
theorem newD_good (a : Option Addr) (cap gb off : Nat) (bs : List Nat) (w : World) (hB : Bytes w a cap gb off bs) (hl : bs.length ≤ 1048576) (h0 : bs[bs.length - 1]?.getD 0 ≠ 0) :
    Calls Try.prog 32 #[.slice a bs.length cap] w fun e w' => ∃ qb g, e = .returned (.tuple #[.pointer (some ⟨qb, 0, none⟩), .int .i64 0]) ∧ w.heap.size ≤ qb ∧ w.heap.size ≤ g ∧ AtQ w' qb g bs 0 ∧ Keep noBlock w w' := by
  cases hn : bs.length with
  | zero => rw [List.length_eq_zero_iff.1 hn] at h0; simp at h0
  | succ k =>
    obtain rfl := hB.here (i := k) (by omega)
    rw [hn, Nat.add_sub_cancel] at h0
    refine (Tl.newQ_mark gb off cap k _ bs hn (by omega) hB.lt w rfl h0 hB.cells).mono ?_
    rintro e w' ⟨rb, g, rfl, h1, h2, h3, h4⟩
    exact ⟨rb, g, rfl, h1, h2, ⟨by simpa using h3, by decide⟩, h4⟩

set_option maxRecDepth 100000 in
set_option maxHeartbeats 4000000 in
theorem unpackD_good (a : Option Addr) (cap gb off : Nat) (ws : List Nat) (m : Nat) (a2 : Option Addr) (cap2 gb2 off2 : Nat) (bs : List Nat) (n : Nat) (w : World) (hB : Bytes w a cap gb off ws) (hB2 : Bytes w a2 cap2 gb2 off2 bs) (hc : IsCode ws m) (hl : bs.length ≤ 1048576) (hn : n ≤ 131072) :
    Calls Try.prog 13 #[.slice a ws.length cap, .slice a2 bs.length cap2, .int .i64 (n : Int)] w fun e w' => UnpPost ws m bs n w e w' := by
  have HM := (show Hid (Calls Try.prog 15 #[.slice a ws.length cap] w fun e w' => e = .returned (.int .i64 (m : Int)) ∧ w' = w) from by
    have := bitsD_any a cap gb off ws w hB
    rw [hc.codeM] at this
    exact this)
  have hm11 := hc.m11
  have hm1 := hc.m1
  have hmb : ((m : Int) == 0) = false := by rw [beq_eq_false_iff_ne]; omega
  have hn1 : ¬ (n : Int) < 0 := by omega
  have hn2 : ¬ (131072 : Int) < (n : Int) := by omega
  by_cases h0 : bs[bs.length - 1]?.getD 0 = 0
  · have HN := (show Hid (Calls Try.prog 32 #[.slice a2 bs.length cap2] w fun e w' => e = .returned (.tuple #[.pointer none, .int .i64 11]) ∧ w' = w) from newD_bad a2 cap2 gb2 off2 bs w hB2 hl h0)
    have HB := (show Hid (unpOk ws m bs n = false) from decide_eq_false (fun h => h.1 h0))
    generalize bs.length = n2 at *
    generalize ws.length = n1 at *
    clear hB hB2 hc hl
    go_enter Try.func13, Try.ntmps13
    go_wp2_with (first | (go_at_call 15; refine HM.out.mono ?_; rintro e w' ⟨rfl, rfl⟩) | (go_at_call 32; refine HN.out.mono ?_; rintro e w' ⟨rfl, rfl⟩))
    go_ret2
    exact ⟨Keep.refl _ _, .inr ⟨HB.out, rfl⟩⟩
  · have HN := (show Hid (Calls Try.prog 32 #[.slice a2 bs.length cap2] w fun e w' => ∃ qb g, e = .returned (.tuple #[.pointer (some ⟨qb, 0, none⟩), .int .i64 0]) ∧ w.heap.size ≤ qb ∧ w.heap.size ≤ g ∧ AtQ w' qb g bs 0 ∧ Keep noBlock w w') from newD_good a2 cap2 gb2 off2 bs w hB2 hl h0)
    have HW := (show Hid (∀ W, Keep noBlock w W → Calls Try.prog 26 #[.slice a ws.length cap] W fun e w' => ∃ g, e = .returned (.slice (some ⟨g, 0, none⟩) ws.length ws.length) ∧ W.heap.size ≤ g ∧ WdA w' g ws.length (dX ws) (dN ws m) ∧ Keep noBlock W w') from fun W hk => wordsD_any a cap gb off ws m W (hB.keep hk (fun _ h => h)) hc)
    have HH := (show Hid (IsCode ws m ∧ bs[bs.length - 1]?.getD 0 ≠ 0 ∧ n ≤ 131072) from ⟨hc, h0, hn⟩)
    have hTl := Tl.tailLen_le bs hB2.lt
    have HT := (show Hid (Tl.tailLen bs < 1125899906842624 ∧ ∀ i, i ≤ n → posU ws m bs i ≤ 1572864) from ⟨by omega, fun i hi => by
      have hpl := posU_le ws m bs i
      have hpl2 : i * (m + 1) ≤ 131072 * 12 := Nat.mul_le_mul (by omega) (by omega)
      omega⟩)
    obtain ⟨n1, hn1'⟩ : ∃ n1, n1 = ws.length := ⟨_, rfl⟩
    obtain ⟨n2, hn2'⟩ : ∃ n2, n2 = bs.length := ⟨_, rfl⟩
    have HL := (show Hid (n1 = ws.length) from hn1')
    rw [← hn1'] at HM HW ⊢
    rw [← hn2'] at HN ⊢
    have hnI : (n : Int) ≤ 131072 := by omega
    clear hB hB2 hc hl h0 hTl hn1' hn2' hn
    go_enter Try.func13, Try.ntmps13
    go_wp2_with (go_at_call 15; refine HM.out.mono ?_; rintro e w' ⟨rfl, rfl⟩)
    refine HN.out.mono ?_
    rintro e w1 ⟨qb, gq, rfl, h1, h2, hA, hK1⟩
    have HA := (show Hid (AtQ w1 qb gq bs 0 ∧ Keep noBlock w' w1 ∧ w'.heap.size ≤ qb ∧ w'.heap.size ≤ gq) from ⟨hA, hK1, h1, h2⟩)
    clear hA hK1 h1 h2
    go_wp2_with fail
    refine (HW.out _ HA.out.2.1).mono ?_
    rintro e w2 ⟨g, rfl, hg, hWd, hK2⟩
    have HF := (show Hid (AtQ w2 qb gq bs (posU ws m bs 0) ∧ WdA w2 g n1 (dX ws) (dN ws m) ∧ Keep noBlock w' w2) from ⟨HA.out.1.keep hK2 (fun h => h) (fun h => h), hWd, HA.out.2.1.trans' hK2⟩)
    have HG := (show Hid (g ≠ qb ∧ w'.heap.size ≤ qb ∧ w'.heap.size ≤ g ∧ gq < w2.heap.size) from by
      have hlt : qb < w1.heap.size := by obtain ⟨c0, h0⟩ := HA.out.1.is.obj; exact obj_lt h0
      exact ⟨by omega, HA.out.2.2.1, by have := HA.out.2.1.size; omega, by have := HA.out.1.is.lt; have := hK2.size; omega⟩)
    clear hg hWd hK2 HA
    go_wp2_with fail
    go_loopw [12, 13] (fun v12 v13 wr => ∃ i : Nat, v13 = .int .i64 (i : Int) ∧ i ≤ n ∧ ∃ oa on oc, v12 = .slice oa on oc ∧ Hid (on = i ∧ wr.ownsRow 0 5 1 (.slice oa on oc) ((List.range i).map (symU ws m bs)).length (u8s ((List.range i).map (symU ws m bs))) ∧ (∀ k, (Value.slice oa on oc).ownBlock = some k → w2.heap.size ≤ k) ∧ AtQ wr qb gq bs (posU ws m bs i) ∧ posU ws m bs i ≤ Tl.tailLen bs ∧ WdA wr g n1 (dX ws) (dN ws m) ∧ Keep (fun k => k = qb) w2 wr)) (fun _ v13 _ => n - (intOf v13).toNat)
    case atStart => exact ⟨0, rfl, Nat.zero_le _, none, 0, 0, rfl, rfl, World.ownsRow_nil _ _ _ _, (fun k e => by cases e), HF.out.1, Nat.zero_le _, HF.out.2.1, Keep.refl _ _⟩
    case round =>
      obtain ⟨i, rfl, hi, oa, on, oc, rfl, HC⟩ := hrel
      by_cases hlt : i < n
      · have hltI : (i : Int) < (n : Int) := by omega
        obtain ⟨hon, hown, hnew, hA, hpT, hWd, hKw⟩ := HC.out
        have hpos := HT.out.2 i hi
        have HX := (show Hid (Calls Try.prog 33 #[.pointer (some ⟨qb, 0, none⟩), .slice (some ⟨g, 0, none⟩) n1 n1, .int .i64 (m : Int)] wr fun e w' => e = .returned (.tuple #[.int .u8 ((symU ws m bs i : Nat) : Int), .bool (decide (posU ws m bs (i + 1) ≤ Tl.tailLen bs))]) ∧ AtQ w' qb gq bs (posU ws m bs (i + 1)) ∧ Keep (fun k => k = qb) wr w') from by
          have := nextD_any qb gq bs (posU ws m bs i) g ws m wr hA (by rw [← HL.out]; exact hWd) HH.out.1 HG.out.1 (by omega) HT.out.1
          rw [← HL.out] at this
          exact this)
        have hs256 : symU ws m bs i < 256 := by
          have h1 := (HH.out.1.sym (strm bs (posU ws m bs i) m) (strm_lt _ _ _)).1
          have h2 := HH.out.1.len
          show symX ws m (strm bs (posU ws m bs i) m) < 256
          omega
        have hmap : (List.range (i + 1)).map (symU ws m bs) = (List.range i).map (symU ws m bs) ++ [symU ws m bs i] := by rw [List.range_succ, List.map_append]; rfl
        have hml : ((List.range i).map (symU ws m bs)).length = i := by simp
        clear hA hWd
        go_wp2_with fail
        refine HX.out.mono ?_
        rintro e w4 ⟨rfl, hA4, hK4⟩
        by_cases hp : posU ws m bs (i + 1) ≤ Tl.tailLen bs
        · rw [decide_eq_true hp]
          have hk4w : ∀ k, (Value.slice oa on oc).ownBlock = some k → k ≠ qb := fun k e => by
            have h1 := hnew k e
            have h2 : qb < w2.heap.size := by obtain ⟨c0, h0⟩ := HF.out.1.is.obj; exact obj_lt h0
            omega
          have hown4 := owns_kept hown hK4 hk4w
          obtain ⟨v', W', hrun, hown5, hk5, hm5⟩ := own_push hown4 (symU ws m bs i) (by omega)
          rw [← hmap] at hown5
          obtain ⟨oa', oc', hv'⟩ := owns_form hown5
          have hml2 : ((List.range (i + 1)).map (symU ws m bs)).length = i + 1 := by simp
          rw [hml2] at hv'
          subst hv'
          have hsz : w2.heap.size ≤ w4.heap.size := Nat.le_trans hKw.size hK4.size
          have hk5' : Keep (fun k => w2.heap.size ≤ k) w4 W' := hk5.mono (fun k _ e => hnew k e)
          have hqb2 : qb < w2.heap.size := by obtain ⟨c0, h0⟩ := HF.out.1.is.obj; exact obj_lt h0
          have hwd4 := (HC.out.2.2.2.2.2.1.keep hK4 (by exact HG.out.1)).keep hk5' (by have := HF.out.2.1.lt; omega)
          have HE := (show Hid (W'.ownsRow 0 5 1 (.slice oa' (i + 1) oc') ((List.range (i + 1)).map (symU ws m bs)).length (u8s ((List.range (i + 1)).map (symU ws m bs))) ∧ (∀ k, (Value.slice oa' (i + 1) oc').ownBlock = some k → w2.heap.size ≤ k) ∧ AtQ W' qb gq bs (posU ws m bs (i + 1)) ∧ posU ws m bs (i + 1) ≤ Tl.tailLen bs ∧ WdA W' g n1 (dX ws) (dN ws m) ∧ Keep (fun k => k = qb) w2 W') from
            ⟨hown5, fun k e => by
              rcases hm5 with e2 | ⟨j, e2, hj⟩
              · rw [e2] at e; exact hnew k e
              · rw [e2] at e; cases e; omega, hA4.keep hk5' (by omega) (by have := HG.out.2.2.2; omega), hp, hwd4, (hKw.trans hK4 (fun _ _ h => h)).trans hk5' (fun j hj e => by omega)⟩)
          generalize symU ws m bs i = sy at *
          have hsI : (sy : Int) < 256 := by omega
          clear hown hown4 hown5 hk5 hk5' hm5 hA4 hK4 HX hp hnew hmap hml hml2 hon hwd4 hKw HC hpT
          go_wp2_with (at_builtin; refine wpList_append_run _ rfl _ _ 22 rfl _ _ _ _ rfl rfl hrun ?_)
          go_roundw
          case rel => exact ⟨i + 1, by go_num, by omega, oa', i + 1, oc', rfl, rfl, HE.out⟩
          case measure => simp [intOf]; omega
        · rw [decide_eq_false hp]
          have HE := (show Hid (unpOk ws m bs n = false ∧ Keep noBlock w' w4) from ⟨decide_eq_false (fun h => by
            have := posU_mono ws m bs (i + 1) n (by omega)
            omega), (HF.out.2.2.trans hKw (fun j hj e => by have := HG.out; omega)).trans hK4 (fun j hj e => by have := HG.out; omega)⟩)
          generalize symU ws m bs i = sy at *
          clear hown hA4 hK4 HX hp hnew hmap hml hon hKw HC hpT
          go_wp2_with fail
          go_ret2
          exact ⟨HE.out.2, .inr ⟨HE.out.1, rfl⟩⟩
      · obtain rfl : i = n := by omega
        have hltI : ¬ (i : Int) < (i : Int) := by omega
        obtain ⟨hon, hown, hnew, hA, hpT, hWd, hKw⟩ := HC.out
        have hcl := hA.is.left
        have HD := (show Hid (unpOk ws m bs i = decide (posU ws m bs i = Tl.tailLen bs)) from by
          unfold unpOk
          rw [Bool.eq_iff_iff, decide_eq_true_iff, decide_eq_true_iff]
          exact ⟨fun h => h.2, fun h => ⟨HH.out.2.1, h⟩⟩)
        have hml : ((List.range i).map (symU ws m bs)).length = i := by simp
        have HE := (show Hid (wr.ownsRow 0 5 1 (.slice oa on oc) i (u8s ((List.range i).map (symU ws m bs))) ∧ Keep noBlock w' wr) from ⟨by rw [hml] at hown; exact hown, HF.out.2.2.trans hKw (fun j hj e => by have := HG.out; omega)⟩)
        obtain ⟨z, hz⟩ : ∃ z : Int, z = ((Tl.tailLen bs : Nat) : Int) - ((posU ws m bs i : Nat) : Int) := ⟨_, rfl⟩
        rw [← hz] at hcl
        have HZ := (show Hid _ from hz)
        have hzl : -4503599627370496 < z ∧ z < 4503599627370496 := by have := HT.out.1; have := HT.out.2 i (Nat.le_refl _); omega
        clear hown hnew hA hWd hKw hz HC hpT hml hon
        by_cases hp : posU ws m bs i = Tl.tailLen bs
        · have hz0 : (z != 0) = false := by have := HZ.out; simp; omega
          have hzz : z = 0 := by have := HZ.out; omega
          subst hzz
          have HP := (show Hid _ from hp)
          clear hp hz0 HZ
          go_wp2_with fail
          go_ret2
          exact ⟨HE.out.2, .inl ⟨by rw [HD.out]; exact decide_eq_true HP.out, _, rfl, HE.out.1⟩⟩
        · have hz0 : (z != 0) = true := by have := HZ.out; simp; omega
          go_wp2_with fail
          go_ret2
          exact ⟨HE.out.2, .inr ⟨by rw [HD.out]; exact decide_eq_false hp, rfl⟩⟩

end Go.Proofs.Ytkljidigmolmmaa

namespace Go.Proofs.Ytkljidigmolmmaa.Tl
open Go.RowKit Go.Shelf
set_option linter.unusedVariables false

/-- Bits as numbers. -/
def vals (L : List (Fin 2)) : List Nat := L.map Fin.val
theorem vals_length (L : List (Fin 2)) : (vals L).length = L.length := by simp [vals]
theorem vals_at (L : List (Fin 2)) (k : Nat) : (vals L)[k]?.getD 0 = bitL L k := by
  unfold vals bitL
  rw [List.getElem?_map]
  cases L[k]? <;> rfl

/-- Block vb is the document's writer that was given the bits L; v is its row. -/
structure IsV (W : World) (vb : Nat) (v : Value) (L : List (Fin 2)) : Prop where
  obj : W.heap[vb]? = some (.cells #[v] 60 (0, 0))
  row : W.ownsRow 0 5 1 v L.length (u8s (vals L))
theorem IsV.keep {W W' : World} {S : Nat → Prop} {vb : Nat} {v : Value} {L : List (Fin 2)} (h : IsV W vb v L) (hk : Keep S W W') (h1 : ¬ S vb) (h2 : ∀ k, v.ownBlock = some k → ¬ S k) : IsV W' vb v L :=
  ⟨hk.obj h.obj h1, owns_keep h.row hk h2⟩
theorem isV_new (w : World) : IsV (w.alloc (.cells #[.slice none 0 0] 60)) w.heap.size (.slice none 0 0) [] :=
  ⟨World.alloc_heap_new w _, World.ownsRow_nil _ _ _ _⟩

theorem low_succ (x k : Nat) : low x (k + 1) = low x k ++ [⟨bitOf x k, bitOf_lt x k⟩] := upto_succ _ _

/-- What an append of one bit to the writer's row leaves. -/
theorem isV_snoc {w w1 : World} {vb g cap : Nat} {v : Value} {L : List (Fin 2)} {b : Fin 2} {o : Obj} (h : IsV w vb v L)
    (hown : w1.ownsRow 0 5 1 (.slice (some ⟨g, 0, none⟩) (L.length + 1) cap) (L.length + 1) (u8s (vals L) ++ [.int .u8 ((b.val : Nat) : Int)])) (hgrow : (w.alloc o).grownBy w1 v.ownBlock) (hat : v.ownBlock = some g ∨ g = w.heap.size + 1) :
    IsV (w1.setCell ⟨vb, 0, none⟩ (.slice (some ⟨g, 0, none⟩) (L.length + 1) cap)) vb (.slice (some ⟨g, 0, none⟩) (L.length + 1) cap) (L ++ [b]) ∧ Moves w.heap.size v (.slice (some ⟨g, 0, none⟩) (L.length + 1) cap) ∧
      Keep (fun k => k = vb ∨ v.ownBlock = some k) w (w1.setCell ⟨vb, 0, none⟩ (.slice (some ⟨g, 0, none⟩) (L.length + 1) cap)) := by
  have hvb := owns_ne h.row h.obj (by decide)
  have hlt := obj_lt h.obj
  have hob1 : w1.heap[vb]? = _ := (hgrow.block vb (by simp; omega) (Ne.symm hvb)).trans (alloc_far h.obj _)
  have hne : g ≠ vb := by
    rintro rfl
    rcases hat with e | e
    · exact hvb e
    · omega
  refine ⟨⟨(set_obj hob1 0 _).trans (by simp), ?_⟩, hat.elim (fun e => .inl e.symm) (fun e => .inr ⟨g, rfl, by omega⟩), (((Keep.refl _ w).alloc _).grown hgrow (fun k e _ => .inr e)).setCell (p := ⟨vb, 0, none⟩) (fun _ => .inl rfl) _⟩
  have h2 := owns_far hown hne 0 (.slice (some ⟨g, 0, none⟩) (L.length + 1) cap)
  simpa [u8s, vals] using h2

set_option maxRecDepth 100000 in
set_option maxHeartbeats 1000000 in
/-- The document's Put(x, m). -/
theorem putV_any (vb : Nat) (v : Value) (L : List (Fin 2)) (x m : Nat) (hx : x < 18446744073709551616) (hm : m ≤ 56) (hL : L.length < 1000000000000) (w : World) (h : IsV w vb v L) :
    Calls Try.prog 27 #[.pointer (some ⟨vb, 0, none⟩), .int .u64 (x : Int), .int .i64 (m : Int)] w fun e w' => e = .returned (.int .i64 0) ∧ ∃ v', IsV w' vb v' (L ++ low x m) ∧ Moves w.heap.size v v' ∧ Keep (fun k => k = vb ∨ v.ownBlock = some k) w w' := by
  obtain ⟨i0, hi, hz0, hz1, hz2⟩ := info_parts info5
  have h1 : ¬ (m : Int) < 0 := by omega
  have h2 : ¬ 56 < (m : Int) := by omega
  go_enter Try.func27, Try.ntmps27
  go_wp2
  go_loopw [7] (fun i wr => ∃ (k : Nat) (v' : Value), k ≤ m ∧ i = .int .i64 k ∧ IsV wr vb v' (L ++ low x k) ∧ Moves w.heap.size v v' ∧ Keep (fun k => k = vb ∨ v.ownBlock = some k) w wr) (fun i _ => m - (intOf i).toNat)
  case atStart => exact ⟨0, v, Nat.zero_le _, rfl, by simpa [low, upto] using h, .inl rfl, Keep.refl _ _⟩
  case round =>
    obtain ⟨k, v1, hk, rfl, hV, hM, hK⟩ := hrel
    by_cases hlt : k < m
    · have hc0 : wr.cell? ⟨vb, 0, none⟩ = some v1 := cell_of hV.obj 0
      have hb1 := and_bit_u64 x k hx
      have hb2 : ((bitOf x k : Nat) : Int) % 256 = ((bitOf x k : Nat) : Int) := by have := bitOf_lt x k; omega
      have hvlt := obj_lt hV.obj
      have hvb := owns_ne hV.row hV.obj (by decide)
      have hll : (L ++ low x k).length = L.length + k := by rw [List.length_append, low_length]
      have hls : L ++ low x (k + 1) = (L ++ low x k) ++ [⟨bitOf x k, bitOf_lt x k⟩] := by rw [low_succ, List.append_assoc]
      have HL := (show Hid _ from hls)
      clear hls
      generalize L ++ low x k = M at hV hvb hll HL
      have hmax : M.length + 1 ≤ maxLen := by unfold maxLen; omega
      have hby : (M.length + 1) * 1 ≤ 140737488355328 := by omega
      have hrow := hV.row
      obtain ⟨sa, cap0, rfl⟩ := owns_form hrow
      clear hll
      go_wp2_with (at_builtin; refine wpList_append_lies _ rfl _ _ 22 rfl 0 5 i0 (.int .u8 0) 1 1 Try.underlying22 hi hz0 hz1 hz2 rfl (by decide) (.slice sa M.length cap0) M.length (u8s (vals M)) rfl (hrow.alloc _) ⟨wr.heap.size, 0, none⟩ 1 1 [.int .u8 ((bitOf x k : Nat) : Int)] rfl rfl (cell_one_new _ _ _) (by simp [Value.oneCell']) (by decide) hmax hby (Nat.zero_le _) (wr.heap.size + 1) (by simp) ?_; intro g cap w1 hown hgrow hat hltg; have hob1 := (hgrow.block vb (by simp; omega) (Ne.symm hvb)).trans (alloc_far hV.obj _); have hcb := cell_of hob1 0; have hfb := frozen_of hob1 0)
      obtain ⟨q1, q2, q3⟩ := isV_snoc (b := ⟨bitOf x k, bitOf_lt x k⟩) hV hown hgrow hat
      go_roundw
      case rel =>
        refine ⟨k + 1, _, by omega, by go_num, by rw [HL.out]; exact q1, hM.trans q2 hK.size, hK.trans q3 ?_⟩
        rintro i hi (e | e)
        · exact .inl e
        · rcases hM with e2 | ⟨j, e2, hj⟩
          · exact .inr (by rw [← e2]; exact e)
          · rw [e2] at e; cases e; omega
      case measure => simp [intOf]; omega
    · obtain rfl : k = m := by omega
      go_wp2
      go_ret
      exact ⟨rfl, v1, hV, hM, hK⟩

set_option maxHeartbeats 400000 in
theorem putV_arg (vb : Nat) (x n : Int) (hn : ¬ (0 ≤ n ∧ n ≤ 56)) (w : World) :
    Calls Try.prog 27 #[.pointer (some ⟨vb, 0, none⟩), .int .u64 x, .int .i64 n] w fun e w' => e = .returned (.int .i64 2) ∧ w' = w := by
  by_cases h1 : n < 0
  · go_enter Try.func27, Try.ntmps27
    go_wp2
    go_ret
    exact ⟨rfl, rfl⟩
  · have h2 : 56 < n := by omega
    go_enter Try.func27, Try.ntmps27
    go_wp2
    go_ret
    exact ⟨rfl, rfl⟩

theorem byteOf_take_succ (L : List (Fin 2)) (i : Nat) (hi : i < L.length) : L.take (i + 1) = L.take i ++ [L[i]] := by
  rw [List.take_succ_eq_append_getElem hi]
theorem bitL_lt' (L : List (Fin 2)) (i : Nat) (hi : i < L.length) : bitL L i = L[i].val := by
  unfold bitL; rw [List.getElem?_eq_getElem hi]; rfl
/-- The bytes when the first i bits have been laid. -/
def packTo (L : List (Fin 2)) (i : Nat) : List Nat := (List.range ((L.length + 7) / 8)).map (byteOf (L.take i))
theorem packTo_length (L : List (Fin 2)) (i : Nat) : (packTo L i).length = (L.length + 7) / 8 := by simp [packTo]
theorem packTo_zero (L : List (Fin 2)) : packTo L 0 = List.replicate ((L.length + 7) / 8) 0 := by
  unfold packTo
  apply List.ext_getElem
  · simp
  · intro j h1 h2
    simp only [List.getElem_map, List.getElem_range, List.getElem_replicate, List.take_zero]
    exact byteOf_far [] j (by simp)
theorem packTo_all (L : List (Fin 2)) : packTo L L.length = pack L := by
  unfold packTo pack; rw [List.take_of_length_le (Nat.le_refl _)]
theorem packTo_at (L : List (Fin 2)) (i j : Nat) (h : j < (L.length + 7) / 8) : (packTo L i)[j]?.getD 0 = byteOf (L.take i) j := by
  unfold packTo
  rw [List.getElem?_map, List.getElem?_range h]
  rfl
theorem packTo_succ (L : List (Fin 2)) (i : Nat) (hi : i < L.length) : packTo L (i + 1) = (packTo L i).set (i / 8) (byteOf (L.take i) (i / 8) ||| bitL L i * 2 ^ (i % 8)) := by
  have hlen : (L.take i).length = i := by rw [List.length_take]; omega
  have hs := byteOf_take_succ L i hi
  apply List.ext_getElem
  · rw [List.length_set, packTo_length, packTo_length]
  · intro j h1 h2
    rw [List.getElem_set]
    simp only [packTo, List.getElem_map, List.getElem_range]
    have hl := byteOf_last (L.take i) L[i]
    rw [hlen] at hl
    by_cases hj : i / 8 = j
    · rw [if_pos hj, ← hj, hs, hl, bitL_lt' L i hi]
    · rw [if_neg hj, hs]
      by_cases hlt : j < i / 8
      · exact byteOf_old _ _ _ (by rw [hlen]; exact hlt)
      · rw [byteOf_far (L.take i) j (by rw [hlen]; omega), byteOf_far (L.take i ++ [L[i]]) j (by rw [List.length_append, hlen]; simp; omega)]

set_option maxRecDepth 100000 in
set_option maxHeartbeats 1000000 in
/-- The document's Close. -/
theorem closeV_any (vb : Nat) (v : Value) (L : List (Fin 2)) (hL : L.length < 1000000000000) (w : World) (h : IsV w vb v L) :
    Calls Try.prog 28 #[.pointer (some ⟨vb, 0, none⟩)] w fun e w' => ∃ v', e = .returned v' ∧ w'.ownsRow 0 5 1 v' (pack (L ++ [1])).length (u8s (pack (L ++ [1]))) ∧ (∀ k, v'.ownBlock = some k → w.heap.size ≤ k) ∧ IsV w' vb (.slice none 0 0) [] ∧ Keep (fun k => k = vb ∨ v.ownBlock = some k) w w' := by
  obtain ⟨i0, hi, hz0, hz1, hz2⟩ := info_parts info5
  have hc0 : w.cell? ⟨vb, 0, none⟩ = some v := cell_of h.obj 0
  have hvlt := obj_lt h.obj
  have hvb := owns_ne h.row h.obj (by decide)
  have hrow := h.row
  obtain ⟨sa, cap0, rfl⟩ := owns_form hrow
  have hmax : L.length + 1 ≤ maxLen := by unfold maxLen; omega
  have hby : (L.length + 1) * 1 ≤ 140737488355328 := by omega
  have hlm : (L ++ [1]).length = L.length + 1 := by simp
  have hdiv : ((L.length : Int) + 1 + 7) / 8 = (((L.length + 1 + 7) / 8 : Nat) : Int) := by omega
  have hdiv2 : ((L.length : Int) + 8) / 8 = (((L.length + 1 + 7) / 8 : Nat) : Int) := by omega
  have hN : (L.length + 1 + 7) / 8 ≤ 140737488355 := by omega
  have hPL := packTo_length (L ++ [1])
  have hPZ := packTo_zero (L ++ [1])
  rw [hlm] at hPL hPZ
  have HPL := (show Hid _ from hPL)
  have HPZ := (show Hid _ from hPZ)
  obtain ⟨N, hNe⟩ : ∃ N, (L.length + 1 + 7) / 8 = N := ⟨_, rfl⟩
  rw [hNe] at hdiv hN hdiv2
  have HNe := (show Hid _ from hNe)
  clear hNe hPL hPZ
  go_enter Try.func28, Try.ntmps28
  go_wp2_with (first
    | (at_builtin; refine wpList_append_lies _ rfl _ _ 22 rfl 0 5 i0 (.int .u8 0) 1 1 Try.underlying22 hi hz0 hz1 hz2 rfl (by decide) (.slice sa L.length cap0) L.length (u8s (vals L)) rfl (hrow.alloc _) ⟨w.heap.size, 0, none⟩ 1 1 [.int .u8 1] rfl rfl (cell_one_new _ _ _) (by simp [Value.oneCell']) (by decide) hmax hby (Nat.zero_le _) (w.heap.size + 1) (by simp) ?_; intro g cap w1 hown hgrow hat hltg; have hob1 := (hgrow.block vb (by simp; omega) (Ne.symm hvb)).trans (alloc_far h.obj _); have hcb := cell_of hob1 0; have hfb := frozen_of hob1 0)
    | (at_make; refine wpList_make_full _ rfl _ _ 22 rfl 0 5 i0 (.int .u8 0) 1 Try.underlying22 hi hz0 hz1 .i64 .i64 (((L.length : Int) + 1 + 7) / 8) (((L.length : Int) + 1 + 7) / 8) N rfl rfl hdiv hdiv (by rw [hz2]; omega) (by unfold maxLen; omega) (Nat.zero_le _) ?_; intro w2 hown2 hgrow2))
  have hne : g ≠ vb := by
    rintro rfl
    rcases hat with e | e
    · exact hvb e
    · omega
  have hsz1 := hgrow.size
  rw [World.size_alloc] at hsz1
  obtain ⟨H, hH⟩ : ∃ H, (w1.setCell ⟨vb, 0, none⟩ (.slice none 0 0)).heap.size = H := ⟨_, rfl⟩
  have hHw : w1.heap.size = H := by rw [← hH]; simp [World.setCell]
  rw [hH] at hown2
  simp only [hHw]
  obtain ⟨M, hM⟩ : ∃ M, L ++ [1] = M := ⟨_, rfl⟩
  have hML : M.length = L.length + 1 := by rw [← hM]; exact hlm
  rw [hM] at HPL HPZ
  have hKa : Keep (fun k => k = vb ∨ (Value.slice sa L.length cap0).ownBlock = some k) w (w1.setCell ⟨vb, 0, none⟩ (.slice none 0 0)) :=
    (((Keep.refl _ w).alloc _).grown hgrow (fun k e _ => .inr e)).setCell (p := ⟨vb, 0, none⟩) (fun _ => .inl rfl) _
  have hVa : IsV (w1.setCell ⟨vb, 0, none⟩ (.slice none 0 0)) vb (.slice none 0 0) [] := ⟨(set_obj hob1 0 _).trans (by simp), World.ownsRow_nil _ _ _ _⟩
  have hRa : (w1.setCell ⟨vb, 0, none⟩ (.slice none 0 0)).ownsRow 0 5 1 (.slice (some ⟨g, 0, none⟩) (L.length + 1) cap) (L.length + 1) (u8s (vals M)) := by
    have h2 := owns_far hown hne 0 (.slice none 0 0)
    rw [← hM]
    simpa [u8s, vals] using h2
  have hKb : Keep noBlock (w1.setCell ⟨vb, 0, none⟩ (.slice none 0 0)) w2 := (Keep.refl _ _).grown hgrow2 (fun k e _ => by cases e)
  have hV2 := hVa.keep hKb (fun h => h) (fun _ _ h => h)
  have hR2 := owns_keep hRa hKb (fun _ _ h => h)
  have hK2 : Keep (fun k => k = vb ∨ (Value.slice sa L.length cap0).ownBlock = some k) w w2 := hKa.trans hKb (fun _ _ h => h.elim)
  have hO2 : w2.ownsRow 0 5 1 (.slice (some ⟨H, 0, none⟩) N N) N (u8s (packTo M 0)) := by
    have e : (madeCells (Value.int .u8 0).cells (N * 1)).toList = u8s (packTo M 0) := by
      rw [HPZ.out, HNe.out]
      show (madeCells #[Value.int .u8 0] (N * 1)).toList = _
      rw [toList_madeCells_one]
      simp [u8s]
    rw [e] at hown2; exact hown2
  have hvH : vb ≠ H := by have := obj_lt hob1; omega
  have hgH : g ≠ H := by omega
  have hwH : w.heap.size ≤ H := by omega
  have hmx : Try.prog.follows .mixedOrders = true := by kernel_rfl
  have HM := (show Hid _ from hM)
  clear hown hown2 hgrow hgrow2 hz0 hz1 hz2 hi hVa hRa hKa hKb hob1 hcb hfb hH hM hrow h hc0 hat hltg hsz1 hvb hvlt
  go_loopw [5] (fun i wr => ∃ k : Nat, k ≤ L.length + 1 ∧ i = .int .i64 k ∧ wr.ownsRow 0 5 1 (.slice (some ⟨H, 0, none⟩) N N) N (u8s (packTo M k)) ∧ IsV wr vb (.slice none 0 0) [] ∧ wr.ownsRow 0 5 1 (.slice (some ⟨g, 0, none⟩) (L.length + 1) cap) (L.length + 1) (u8s (vals M)) ∧ Keep (fun k => k = vb ∨ (Value.slice sa L.length cap0).ownBlock = some k) w wr) (fun i _ => L.length + 1 - (intOf i).toNat)
  case atStart => exact ⟨0, Nat.zero_le _, rfl, hO2, hV2, hR2, hK2⟩
  case round =>
    obtain ⟨k, hk, rfl, hro, hVr, hRr, hKr⟩ := hrel
    clear hO2 hV2 hR2 hK2
    by_cases hlt : k < L.length + 1
    · have hidx : k / 8 < N := by have := HNe.out; omega
      have hcg : wr.cell? ⟨g, k, none⟩ = some (.int .u8 ((bitL M k : Nat) : Int)) := by
        have := hRr.cells (g := g) rfl k _ (u8s_at (vals M) k (by rw [vals_length]; omega))
        rw [add0, vals_at] at this; exact this
      have hbl := bitL_lt M k
      have hco : wr.cell? ⟨H, k / 8, none⟩ = some (.int .u8 ((byteOf (M.take k) (k / 8) : Nat) : Int)) := by
        have := hro.cells (g := H) rfl (k / 8) _ (u8s_at (packTo M k) (k / 8) (by rw [packTo_length, hML, HNe.out]; exact hidx))
        rw [add0, packTo_at M k _ (by rw [hML, HNe.out]; exact hidx)] at this; exact this
      have hcl := byteOf_lt (M.take k) (k / 8)
      have hfo : wr.frozen? ⟨H, k / 8, none⟩ = false := by
        rcases hro.2 with ⟨e, _⟩ | ⟨g', cap', cur, e, _, hg, _⟩
        · cases e
        · simp only [Value.slice.injEq, Option.some.injEq, Addr.mk.injEq] at e
          obtain ⟨⟨rfl, _⟩, _, rfl⟩ := e
          exact frozen_of hg _
      have HPS := (show Hid _ from packTo_succ M k (by omega))
      have hq8 : k % 8 < 8 := by omega
      have hI : (k : Int) % 8 = ((k % 8 : Nat) : Int) := by omega
      have hD : (k : Int) / 8 = ((k / 8 : Nat) : Int) := by omega
      generalize byteOf (M.take k) (k / 8) = c at hco hcl HPS
      generalize k % 8 = q at hq8 hI HPS
      generalize k / 8 = d at hco hfo hidx hD HPS
      generalize bitL M k = b at hcg hbl HPS
      have hor := shl_or_u8 c b q hcl hbl hq8
      go_wp2
      go_region
      go_wp2
      go_roundw
      case rel =>
        have hks : Keep (fun j => j = H) wr (wr.setCell ⟨H, d, none⟩ (.int .u8 ((c ||| b * 2 ^ q : Nat) : Int))).drew := ((Keep.refl (fun j => j = H) wr).setCell (p := ⟨H, d, none⟩) (fun _ => rfl) _).drew
        refine ⟨k + 1, by omega, by go_num, by rw [HPS.out]; exact owns_drew (owns_set hro d _), hVr.keep hks hvH (fun j e => by cases e), owns_keep hRr hks (fun j e1 e2 => ?_), hKr.trans hks (fun i hi e => by omega)⟩
        obtain rfl : g = j := by simpa [Value.ownBlock] using e1
        exact hgH e2
      case measure => simp [intOf]; omega
    · obtain rfl : k = L.length + 1 := by omega
      go_wp2
      go_ret
      refine ⟨_, rfl, ?_, fun j e => ?_, hVr, hKr⟩
      · rw [HM.out]
        rw [← hML, packTo_all] at hro
        have : (pack M).length = N := by rw [pack_length, hML]; exact HNe.out
        rw [this]; exact hro
      · obtain rfl : H = j := by simpa [Value.ownBlock] using e
        exact hwH

end Go.Proofs.Ytkljidigmolmmaa.Tl

namespace Go.Proofs.Ytkljidigmolmmaa
open Go.RowKit Go.Shelf
set_option linter.unusedVariables false

theorem othV_of {W W' : World} {vb : Nat} {v : Value} {L : List (Fin 2)} (h : Tl.IsV W vb v L) (hk : Keep (fun k => k = vb ∨ v.ownBlock = some k) W W') : Tl.Oth vb W W' := by
  refine ⟨hk.size, fun k o ho hne hc => hk.obj ho ?_⟩
  rintro (e | e)
  · exact hne e
  · rcases h.row.2 with ⟨rfl, _⟩ | ⟨g, cap, cur, rfl, _, hg, _⟩
    · cases e
    · obtain rfl : g = k := by simpa [Value.ownBlock] using e
      rw [hg] at ho; cases ho; exact hc _ rfl
/-- The document's writer, of one's own. -/
structure MineV (w W : World) (vb : Nat) (L : List (Fin 2)) : Prop where
  is : ∃ v, Tl.IsV W vb v L ∧ ∀ k, v.ownBlock = some k → w.heap.size ≤ k
  new : w.heap.size ≤ vb
  keep : Keep noBlock w W
theorem MineV.keeps {w W W' : World} {vb : Nat} {L : List (Fin 2)} (h : MineV w W vb L) (hk : Keep noBlock W W') : MineV w W' vb L := by
  obtain ⟨v, hv, hn⟩ := h.is
  exact ⟨⟨v, hv.keep hk (fun h => h) (fun _ _ h => h), hn⟩, h.new, h.keep.trans hk (fun _ _ h => h)⟩
theorem MineV.put {w W : World} {vb : Nat} {L : List (Fin 2)} (h : MineV w W vb L) (x m : Nat) (hx : x < 18446744073709551616) (hm : m ≤ 56) (hL : L.length < 1000000000000) :
    Calls Try.prog 27 #[.pointer (some ⟨vb, 0, none⟩), .int .u64 (x : Int), .int .i64 (m : Int)] W fun e W' => e = .returned (.int .i64 0) ∧ MineV w W' vb (L ++ low x m) ∧ Tl.Oth vb W W' := by
  obtain ⟨v, hv, hn⟩ := h.is
  refine (Tl.putV_any vb v L x m hx hm hL W hv).mono ?_
  rintro e W' ⟨rfl, v', h1, h2, h3⟩
  refine ⟨rfl, ⟨⟨v', h1, fun k e => ?_⟩, h.new, h.keep.trans h3 ?_⟩, othV_of hv h3⟩
  · rcases h2 with h2 | ⟨j, h2, hj⟩
    · rw [h2] at e; exact hn k e
    · rw [h2] at e; cases e; have := h.keep.size; omega
  · rintro i hi (e | e)
    · have := h.new; omega
    · have := hn i e; omega
theorem MineV.close {w W : World} {vb : Nat} {L : List (Fin 2)} (h : MineV w W vb L) (hL : L.length < 1000000000000) :
    Calls Try.prog 28 #[.pointer (some ⟨vb, 0, none⟩)] W fun e W' => ∃ v', e = .returned v' ∧ W'.ownsRow 0 5 1 v' (pack (L ++ [1])).length (u8s (pack (L ++ [1]))) ∧ Keep noBlock w W' := by
  obtain ⟨v, hv, hn⟩ := h.is
  refine (Tl.closeV_any vb v L hL W hv).mono ?_
  rintro e W' ⟨v', rfl, h1, _, _, h3⟩
  refine ⟨v', rfl, h1, h.keep.trans h3 ?_⟩
  rintro i hi (e | e)
  · have := h.new; omega
  · have := hn i e; omega
theorem mineV_new (w : World) (W : World) (hk : Keep noBlock w W) : MineV w (W.alloc (.cells #[.slice none 0 0] 60)) W.heap.size [] :=
  ⟨⟨.slice none 0 0, Tl.isV_new W, fun k e => by cases e⟩, hk.size, hk.alloc _⟩

set_option maxRecDepth 100000 in
set_option maxHeartbeats 8000000 in
theorem packD_good (a : Option Addr) (cap gb off : Nat) (ws : List Nat) (m : Nat) (a2 : Option Addr) (cap2 gb2 off2 : Nat) (bs : List Nat) (w : World) (hB : Bytes w a cap gb off ws) (hB2 : Bytes w a2 cap2 gb2 off2 bs) (hc : IsCode ws m) (hl : bs.length ≤ 131072) :
    Calls Try.prog 11 #[.slice a ws.length cap, .slice a2 bs.length cap2] w fun e w' => PackPost ws m bs w e w' := by
  have HM := (show Hid (Calls Try.prog 15 #[.slice a ws.length cap] w fun e w' => e = .returned (.int .i64 (m : Int)) ∧ w' = w) from by
    have := bitsD_any a cap gb off ws w hB
    rw [hc.codeM] at this
    exact this)
  have HW := (show Hid (Calls Try.prog 26 #[.slice a ws.length cap] w fun e w' => ∃ g, e = .returned (.slice (some ⟨g, 0, none⟩) ws.length ws.length) ∧ w.heap.size ≤ g ∧ WdA w' g ws.length (dX ws) (dN ws m) ∧ Keep noBlock w w') from wordsD_any a cap gb off ws m w hB hc)
  have hm11 := hc.m11
  have hm1 := hc.m1
  have hmb : ((m : Int) == 0) = false := by rw [beq_eq_false_iff_ne]; omega
  have HH := (show Hid (Bytes w a cap gb off ws ∧ Bytes w a2 cap2 gb2 off2 bs ∧ IsCode ws m) from ⟨hB, hB2, hc⟩)
  have hlen := hc.len
  obtain ⟨n1, hn1⟩ : ∃ n1, n1 = ws.length := ⟨_, rfl⟩
  obtain ⟨n, hn⟩ : ∃ n, n = bs.length := ⟨_, rfl⟩
  have HL := (show Hid (n1 = ws.length ∧ n = bs.length) from ⟨hn1, hn⟩)
  rw [← hn1] at HM HW hlen ⊢
  rw [← hn] at hl ⊢
  have hlI : ¬ (131072 : Int) < (n : Int) := by omega
  have hlI2 : (n : Int) ≤ 131072 := by omega
  have hn1I : (n1 : Int) ≤ 256 := by omega
  clear hB hB2 hc hn1 hn
  go_enter Try.func11, Try.ntmps11
  go_wp2_with (go_at_call 15; refine HM.out.mono ?_; rintro e w' ⟨rfl, rfl⟩)
  refine HW.out.mono ?_
  rintro e w1 ⟨g, rfl, hg, hWd, hK1⟩
  have hgl := hWd.lt
  have HF := (show Hid (MineV w' (w1.alloc (.cells #[.slice none 0 0] 60)) w1.heap.size (packL ws m (bs.drop n)) ∧ WdA (w1.alloc (.cells #[.slice none 0 0] 60)) g n1 (dX ws) (dN ws m) ∧ ∀ x ∈ bs.drop n, wt ws x ≠ 0) from by
    have hd : bs.drop n = [] := List.drop_eq_nil_of_le (by rw [HL.out.2]; exact Nat.le_refl _)
    rw [hd]
    exact ⟨mineV_new w' w1 hK1, hWd.keep ((Keep.refl noBlock w1).alloc _) (fun h => h), fun x hx => by cases hx⟩)
  obtain ⟨vb, hvb⟩ : ∃ vb, vb = w1.heap.size := ⟨_, rfl⟩
  have HG := (show Hid (g < vb ∧ w'.heap.size ≤ g) from ⟨by omega, hg⟩)
  rw [← hvb] at HF
  have HVB := (show Hid (vb = w1.heap.size) from hvb)
  clear hg hWd hK1 hgl hvb
  go_wp2_with fail
  rw [← HVB.out]
  go_loopw [8] (fun v8 wr => ∃ k : Nat, v8 = .int .i64 ((k : Int) - 1) ∧ k ≤ n ∧ Hid (MineV w' wr vb (packL ws m (bs.drop k)) ∧ WdA wr g n1 (dX ws) (dN ws m) ∧ ∀ x ∈ bs.drop k, wt ws x ≠ 0)) (fun v8 _ => (intOf v8 + 1).toNat)
  case atStart => exact ⟨n, rfl, Nat.le_refl _, HF.out⟩
  case round =>
    clear HF
    obtain ⟨k, rfl, hk, HC⟩ := hrel
    cases k with
    | zero =>
      rw [show (((0 : Nat) : Int) - 1) = -1 from rfl]
      obtain ⟨hV, hWd, hok⟩ := HC.out
      rw [List.drop_zero] at hV hok
      have hpl := packL_len ws m bs
      have hll : (packL ws m bs).length < 1000000000000 := by
        have e2 : (m + 1) * bs.length ≤ 12 * 131072 := Nat.mul_le_mul (by omega) (by have := HL.out; omega)
        omega
      have HP := (show Hid (Calls Try.prog 28 #[.pointer (some ⟨vb, 0, none⟩)] wr fun e W' => ∃ v', e = .returned v' ∧ W'.ownsRow 0 5 1 v' (pack (packL ws m bs ++ [1])).length (u8s (pack (packL ws m bs ++ [1]))) ∧ Keep noBlock w' W') from hV.close hll)
      have HO := (show Hid (packOk ws bs = true) from decide_eq_true hok)
      clear hV hWd hok hpl hll HC
      go_wp2_with fail
      refine HP.out.mono ?_
      rintro e w3 ⟨v3, rfl, hown, hK3⟩
      obtain ⟨sa, sc, hv3⟩ := owns_form hown
      subst hv3
      generalize hLL : (pack (packL ws m bs ++ [1])).length = LL at *
      go_wp2_with fail
      go_ret2
      exact ⟨hK3, .inl ⟨HO.out, _, rfl, by rw [hLL]; exact hown⟩⟩
    | succ k =>
      rw [show (((k + 1 : Nat) : Int) - 1) = (k : Int) from by omega]
      have hkx : k < bs.length := by have := HL.out; omega
      obtain ⟨hV, hWd, hok⟩ := HC.out
      have hB2r := HH.out.2.1.keep hV.keep (fun _ h => h)
      obtain rfl := hB2r.here hkx
      have c1 := hB2r.cells k hkx
      have hx256 := HH.out.2.1.lt k
      have hkI : (k : Int) < (n : Int) := by omega
      have hpd := packL_drop ws m bs k hkx
      have hbk : bs.drop k = bs[k]?.getD 0 :: bs.drop (k + 1) := by rw [List.drop_eq_getElem_cons hkx, List.getElem?_eq_getElem hkx]; rfl
      have hmem : bs[k]?.getD 0 ∈ bs := by rw [List.getElem?_eq_getElem hkx]; exact List.getElem_mem hkx
      generalize bs[k]?.getD 0 = x at *
      have hxI : (x : Int) < 256 := by omega
      by_cases hfar : n1 ≤ x
      · have hfI : (n1 : Int) ≤ (x : Int) := by omega
        have HE := (show Hid (packOk ws bs = false ∧ Keep noBlock w' wr) from ⟨decide_eq_false (fun q => q x hmem (wt_far ws x (by have := HL.out; omega))), hV.keep⟩)
        clear hV hWd hok hB2r hpd hbk hmem HC
        go_wp2_with fail
        go_ret2
        exact ⟨HE.out.2, .inr ⟨HE.out.1, rfl⟩⟩
      · have hfI : ¬ (n1 : Int) ≤ (x : Int) := by omega
        have hxw : x < ws.length := by have := HL.out; omega
        have hBr := HH.out.1.keep hV.keep (fun _ h => h)
        obtain rfl := hBr.here hxw
        have c2 := hBr.cells x hxw
        have hxI2 : (x : Int) < (n1 : Int) := by omega
        by_cases h0 : wt ws x = 0
        · have h0' : ws[x]?.getD 0 = 0 := h0
          rw [h0'] at c2
          have HE := (show Hid (packOk ws bs = false ∧ Keep noBlock w' wr) from ⟨decide_eq_false (fun q => q x hmem h0), hV.keep⟩)
          have d2 : wr.cell? ⟨gb, off + x, none⟩ = some (.int .u8 0) := c2
          clear hV hWd hok hB2r hpd hbk hmem HC hBr c2
          go_wp2_with fail
          go_ret2
          exact ⟨HE.out.2, .inr ⟨HE.out.1, rfl⟩⟩
        · obtain ⟨y, hy⟩ : ∃ y, y = ws[x]?.getD 0 := ⟨_, rfl⟩
          have hwy : wt ws x = y := hy.symm
          rw [← hy] at c2
          have hyb : ((y : Int) == 0) = false := by rw [beq_eq_false_iff_ne]; omega
          have hy11 := HH.out.2.2.le x hxw
          have hyI : (y : Int) ≤ 11 := by omega
          obtain ⟨hxl, hxm⟩ := HH.out.2.2.wt_in x h0
          have hwl := HH.out.2.2.word_lt x hxl (by omega)
          have hp11 : 2 ^ (m + 1 - wt ws x) ≤ 2 ^ 12 := Nat.pow_le_pow_right (by omega) (by omega)
          have hX64 : wordX ws x < 4096 := Nat.lt_of_lt_of_le hwl hp11
          have hN12 : m + 1 - wt ws x ≤ 12 := by clear hwl hp11; omega
          obtain ⟨t1, t2⟩ := hWd.cells x (by have := HL.out; omega)
          have e1 : dX ws x = wordX ws x := if_neg h0
          have e2 : dN ws m x = m + 1 - wt ws x := if_neg h0
          rw [e1] at t1
          rw [e2] at t2
          have hpl := packL_len ws m (bs.drop (k + 1))
          have hll : (packL ws m (bs.drop (k + 1))).length < 1000000000000 := by
            have e1 : (bs.drop (k + 1)).length ≤ 131072 := by rw [List.length_drop]; have := HL.out; omega
            have e2 : (m + 1) * (bs.drop (k + 1)).length ≤ 12 * 131072 := Nat.mul_le_mul (by omega) e1
            omega
          have HO := (show Hid (packL ws m (bs.drop k) = packL ws m (bs.drop (k + 1)) ++ low (wordX ws x) (m + 1 - wt ws x) ∧ ∀ z ∈ bs.drop k, wt ws z ≠ 0) from ⟨hpd, by
            rw [hbk]
            intro z hz
            rcases List.mem_cons.1 hz with e | e
            · rw [e]; exact h0
            · exact hok z e⟩)
          have HLL := (show Hid _ from hll)
          clear hpd hbk hmem hok hwl hp11 hy hwy hpl hll e1 e2 h0 hBr hB2r
          generalize wordX ws x = X at *
          generalize m + 1 - wt ws x = N at *
          have HV := (show Hid (∀ q, Calls Try.prog 27 #[.pointer (some ⟨vb, 0, none⟩), .int .u64 (X : Int), .int .i64 (N : Int)] (wr.drewN q) fun e W' => e = .returned (.int .i64 0) ∧ MineV w' W' vb (packL ws m (bs.drop (k + 1)) ++ low X N) ∧ Tl.Oth vb (wr.drewN q) W') from fun q => (hV.keeps (keep_drewN wr q)).put X N (by omega) (by omega) HLL.out)
          have HQ := (show Hid (∀ W', MineV w' W' vb (packL ws m (bs.drop (k + 1)) ++ low X N) → Tl.Oth vb (wr.drewN 1) W' → WdA W' g n1 (dX ws) (dN ws m) ∧ (W'.cell? ⟨gb2, off2 + k, none⟩ = some (.int .u8 (x : Int)) ∧ W'.cell? ⟨g, x * 2, none⟩ = some (.int .u64 (X : Int)) ∧ W'.cell? ⟨g, x * 2 + 1, none⟩ = some (.int .i64 (N : Int)))) from fun W' h1 h2 => by
            obtain ⟨cs, o1, o2, o3⟩ := hWd.obj
            have o4 := h2.cells (W := wr.drewN 1) o1 (by have := HG.out; omega) (by decide)
            have hW2 : WdA W' g n1 (dX ws) (dN ws m) := ⟨cs, o4, o2, o3⟩
            refine ⟨hW2, ?_, ?_, ?_⟩
            · have hgb : gb2 < w'.heap.size := HH.out.2.1.block (by intro e; rw [e] at hkx; simp at hkx)
              rw [World.cell?_of_block (h1.keep.block gb2 hgb (fun h => h)), ← World.cell?_of_block (hV.keep.block gb2 hgb (fun h => h))]
              exact c1
            · rw [cell_of o4, ← cell_of o1]; exact t1
            · rw [cell_of o4, ← cell_of o1]; exact t2)
          have q2 : wr.cell? ⟨gb2, off2 + k, none⟩ = some (.int .u8 (x : Int)) ∧ wr.cell? ⟨g, x * 2, none⟩ = some (.int .u64 (X : Int)) ∧ wr.cell? ⟨g, x * 2 + 1, none⟩ = some (.int .i64 (N : Int)) := ⟨c1, t1, t2⟩
          have hXI : (X : Int) < 4096 := by omega
          have hNI : (N : Int) ≤ 12 := by omega
          clear hV hWd HC
          go_wp2_with fail
          clear c1 c2 t1 t2
          go_region_held3 (fun W => W.cell? ⟨gb2, off2 + k, none⟩ = some (.int .u8 (x : Int)) ∧ W.cell? ⟨g, x * 2, none⟩ = some (.int .u64 (X : Int)) ∧ W.cell? ⟨g, x * 2 + 1, none⟩ = some (.int .i64 (N : Int))) (first | exact q2 | exact q3) ((first
            | (go_at_call 27; refine (HV.out 1).mono ?_; rintro e w3 ⟨rfl, hV3, hO3⟩; have HV3 := (show Hid (MineV w' w3 vb (packL ws m (bs.drop (k + 1)) ++ low X N) ∧ WdA w3 g n1 (dX ws) (dN ws m)) from ⟨hV3, (HQ.out w3 hV3 hO3).1⟩); have q3 := (HQ.out w3 hV3 hO3).2; clear hV3 hO3)))
          go_wp2_with fail
          go_roundw
          case rel => exact ⟨k, by go_num, by omega, by rw [HO.out.1]; exact HV3.out.1, HV3.out.2, HO.out.2⟩
          case measure => simp [intOf]

end Go.Proofs.Ytkljidigmolmmaa

namespace Go.Proofs.Ytkljidigmolmmaa
open Go.RowKit Go.Shelf
set_option linter.unusedVariables false

set_option maxRecDepth 100000 in
set_option maxHeartbeats 2000000 in
theorem packD_all (a : Option Addr) (cap gb off : Nat) (ws : List Nat) (a2 : Option Addr) (cap2 gb2 off2 : Nat) (bs : List Nat) (w : World) (hB : Bytes w a cap gb off ws) (hB2 : Bytes w a2 cap2 gb2 off2 bs) :
    Calls Try.prog 11 #[.slice a ws.length cap, .slice a2 bs.length cap2] w fun e w' => Ans (packC ws bs) (packV ws bs) w e w' := by
  have HM := (show Hid (Calls Try.prog 15 #[.slice a ws.length cap] w fun e w' => e = .returned (.int .i64 ((codeM ws : Nat) : Int)) ∧ w' = w) from bitsD_any a cap gb off ws w hB)
  cases hc : codeB ws with
  | false =>
    have e1 : packC ws bs = 50 := by unfold packC; rw [hc]; rfl
    have e2 := packV_no (ws := ws) (bs := bs) (by omega)
    rw [e1, e2]
    rw [codeM_no hc, show (((0 : Nat) : Int)) = (0 : Int) from rfl] at HM
    generalize ws.length = n1 at *
    generalize bs.length = n2 at *
    clear hB hB2
    go_enter Try.func11, Try.ntmps11
    go_wp2_with (go_at_call 15; refine HM.out.mono ?_; rintro e w' ⟨rfl, rfl⟩)
    go_ret2
    exact ans_none (Keep.refl _ _)
  | true =>
    have hI := codeM_is hc
    by_cases hl : 131072 < bs.length
    · have e1 : packC ws bs = 2 := by unfold packC; rw [if_pos hc, if_pos hl]
      have e2 := packV_no (ws := ws) (bs := bs) (by omega)
      rw [e1, e2]
      have h48 := hB2.len
      have hlI : (131072 : Int) < ((bs.length : Nat) : Int) := by omega
      have hm1 := hI.m1
      have hmb : (((codeM ws : Nat) : Int) == 0) = false := by rw [beq_eq_false_iff_ne]; omega
      generalize codeM ws = m at *
      generalize ws.length = n1 at *
      generalize bs.length = n2 at *
      clear hB hB2 hI hl h48
      go_enter Try.func11, Try.ntmps11
      go_wp2_with (go_at_call 15; refine HM.out.mono ?_; rintro e w' ⟨rfl, rfl⟩)
      go_ret2
      exact ans_none (Keep.refl _ _)
    · refine (packD_good a cap gb off ws (codeM ws) a2 cap2 gb2 off2 bs w hB hB2 hI (by omega)).mono ?_
      rintro e w' ⟨hk, ⟨h1, v, rfl, h2⟩ | ⟨h1, rfl⟩⟩
      · have e1 : packC ws bs = 0 := by unfold packC; rw [if_pos hc, if_neg hl, if_pos h1]
        have e2 : packV ws bs = pack (packL ws (codeM ws) bs ++ [1]) := if_pos e1
        rw [e1, e2]
        exact ans_row hk h2
      · have e1 : packC ws bs = 2 := by unfold packC; rw [if_pos hc, if_neg hl, h1]; rfl
        have e2 := packV_no (ws := ws) (bs := bs) (by omega)
        rw [e1, e2]
        exact ans_none hk

set_option maxRecDepth 100000 in
set_option maxHeartbeats 2000000 in
theorem unpackD_all (a : Option Addr) (cap gb off : Nat) (ws : List Nat) (a2 : Option Addr) (cap2 gb2 off2 : Nat) (bs : List Nat) (n : Int) (w : World) (hB : Bytes w a cap gb off ws) (hB2 : Bytes w a2 cap2 gb2 off2 bs) (hl : bs.length ≤ 1048576) :
    Calls Try.prog 13 #[.slice a ws.length cap, .slice a2 bs.length cap2, .int .i64 n] w fun e w' => Ans (unpC ws bs n) (unpV ws bs n) w e w' := by
  have HM := (show Hid (Calls Try.prog 15 #[.slice a ws.length cap] w fun e w' => e = .returned (.int .i64 ((codeM ws : Nat) : Int)) ∧ w' = w) from bitsD_any a cap gb off ws w hB)
  cases hc : codeB ws with
  | false =>
    have e1 : unpC ws bs n = 50 := by unfold unpC; rw [hc]; rfl
    have e2 := unpV_no (ws := ws) (bs := bs) (n := n) (by omega)
    rw [e1, e2]
    rw [codeM_no hc, show (((0 : Nat) : Int)) = (0 : Int) from rfl] at HM
    generalize ws.length = n1 at *
    generalize bs.length = n2 at *
    clear hB hB2 hl
    go_enter Try.func13, Try.ntmps13
    go_wp2_with (go_at_call 15; refine HM.out.mono ?_; rintro e w' ⟨rfl, rfl⟩)
    go_ret2
    exact ans_none (Keep.refl _ _)
  | true =>
    have hI := codeM_is hc
    by_cases hn : 0 ≤ n ∧ n ≤ 131072
    · obtain ⟨k, rfl⟩ := Int.eq_ofNat_of_zero_le hn.1
      refine (unpackD_good a cap gb off ws (codeM ws) a2 cap2 gb2 off2 bs k w hB hB2 hI hl (by omega)).mono ?_
      rintro e w' ⟨hk, ⟨h1, v, rfl, h2⟩ | ⟨h1, rfl⟩⟩
      · have e1 : unpC ws bs (k : Int) = 0 := by unfold unpC; rw [if_pos hc, if_pos hn, Int.toNat_natCast, if_pos h1]
        have e2 : unpV ws bs (k : Int) = (List.range k).map (symU ws (codeM ws) bs) := if_pos e1
        rw [e1, e2]
        refine ans_row hk ?_
        rw [show ((List.range k).map (symU ws (codeM ws) bs)).length = k from by simp]
        exact h2
      · have e1 : unpC ws bs (k : Int) = 11 := by unfold unpC; rw [if_pos hc, if_pos hn, Int.toNat_natCast, h1]; rfl
        have e2 := unpV_no (ws := ws) (bs := bs) (n := (k : Int)) (by omega)
        rw [e1, e2]
        exact ans_none hk
    · have e1 : unpC ws bs n = 2 := by unfold unpC; rw [if_pos hc, if_neg hn]
      have e2 := unpV_no (ws := ws) (bs := bs) (n := n) (by omega)
      rw [e1, e2]
      have hm1 := hI.m1
      have hmb : (((codeM ws : Nat) : Int) == 0) = false := by rw [beq_eq_false_iff_ne]; omega
      generalize codeM ws = m at *
      generalize ws.length = n1 at *
      generalize bs.length = n2 at *
      clear hB hB2 hl hI
      by_cases h0 : n < 0
      · go_enter Try.func13, Try.ntmps13
        go_wp2_with (go_at_call 15; refine HM.out.mono ?_; rintro e w' ⟨rfl, rfl⟩)
        go_ret2
        exact ans_none (Keep.refl _ _)
      · have h1 : 131072 < n := by omega
        go_enter Try.func13, Try.ntmps13
        go_wp2_with (go_at_call 15; refine HM.out.mono ?_; rintro e w' ⟨rfl, rfl⟩)
        go_ret2
        exact ans_none (Keep.refl _ _)

end Go.Proofs.Ytkljidigmolmmaa

namespace Go.Proofs.Ytkljidigmolmmaa
open Go.RowKit Go.Shelf
set_option linter.unusedVariables false

section
attribute [local go_sem] sliceSem_eq
set_option maxRecDepth 100000 in
set_option maxHeartbeats 8000000 in
theorem packs_any (a1 : Option Addr) (cap1 gb1 off1 : Nat) (ws : List Nat) (a2 : Option Addr) (cap2 gb2 off2 : Nat) (bs : List Nat) (a3 : Option Addr) (cap3 gb3 off3 : Nat) (ps : List Nat) (n : Int) (w : World)
    (hB1 : Bytes w a1 cap1 gb1 off1 ws) (hB2 : Bytes w a2 cap2 gb2 off2 bs) (hB3 : Bytes w a3 cap3 gb3 off3 ps) (hl : ps.length ≤ 1048576) :
    Calls Try.prog 4 #[.slice a1 ws.length cap1, .slice a2 bs.length cap2, .slice a3 ps.length cap3, .int .i64 n] w fun e w' => e = .returned (.bool true) ∧ Keep noBlock w w' := by
  obtain ⟨cs, hBc, hsl⟩ : ∃ cs, Bytes w a2 cap2 gb2 off2 cs ∧ ((3000 < bs.length ∧ bs.length ≤ 131072 ∧ ∀ W, (sliceSem 22 (.slice a2 bs.length cap2) none (some (.int .i64 ((3000 : Nat) : Int))) none).run Try.prog W = .ok (.slice a2 cs.length cap2) W) ∨ (bs.length ≤ 3000 ∧ cs.length = bs.length) ∨ (131072 < bs.length ∧ cs.length = bs.length)) := by
    by_cases h : 3000 < bs.length
    · by_cases h2 : bs.length ≤ 131072
      · have := hB2.take 3000 (by omega)
        exact ⟨bs.take 3000, this.2, .inl ⟨h, h2, this.1⟩⟩
      · exact ⟨bs, hB2, .inr (.inr ⟨by omega, rfl⟩)⟩
    · exact ⟨bs, hB2, .inr (.inl ⟨by omega, rfl⟩)⟩
  obtain ⟨nn, hnn⟩ : ∃ nn : Int, (3000 < n ∧ n ≤ 131072 ∧ n.tmod 3000 = nn ∧ n % 3000 = nn) ∨ (n ≤ 3000 ∧ nn = n) ∨ (131072 < n ∧ nn = n) := by
    by_cases h : 3000 < n
    · by_cases h2 : n ≤ 131072
      · exact ⟨n % 3000, .inl ⟨h, h2, Int.tmod_eq_emod_of_nonneg (by omega), rfl⟩⟩
      · exact ⟨n, .inr (.inr ⟨by omega, rfl⟩)⟩
    · exact ⟨n, .inr (.inl ⟨by omega, rfl⟩)⟩
  have HP := (show Hid (Calls Try.prog 10 #[.slice a1 ws.length cap1, .slice a2 cs.length cap2] w fun e w' => Ans (packC ws cs) (packV ws cs) w e w') from pack_all a1 cap1 gb1 off1 ws a2 cap2 gb2 off2 cs w hB1 hBc)
  have HQ := (show Hid (∀ W, Keep noBlock w W → Calls Try.prog 11 #[.slice a1 ws.length cap1, .slice a2 cs.length cap2] W fun e w' => Ans (packC ws cs) (packV ws cs) W e w') from fun W hk => packD_all a1 cap1 gb1 off1 ws a2 cap2 gb2 off2 cs W (hB1.keep hk (fun _ h => h)) (hBc.keep hk (fun _ h => h)))
  have HU := (show Hid (∀ W, Keep noBlock w W → Calls Try.prog 12 #[.slice a1 ws.length cap1, .slice a3 ps.length cap3, .int .i64 nn] W fun e w' => Ans (unpC ws ps nn) (unpV ws ps nn) W e w') from fun W hk => unpack_all a1 cap1 gb1 off1 ws a3 cap3 gb3 off3 ps nn W (hB1.keep hk (fun _ h => h)) (hB3.keep hk (fun _ h => h)) (by omega))
  have HV := (show Hid (∀ W, Keep noBlock w W → Calls Try.prog 13 #[.slice a1 ws.length cap1, .slice a3 ps.length cap3, .int .i64 nn] W fun e w' => Ans (unpC ws ps nn) (unpV ws ps nn) W e w') from fun W hk => unpackD_all a1 cap1 gb1 off1 ws a3 cap3 gb3 off3 ps nn W (hB1.keep hk (fun _ h => h)) (hB3.keep hk (fun _ h => h)) hl)
  have h48 := hB2.len
  generalize packC ws cs = pc at *
  generalize packV ws cs = pv at *
  generalize unpC ws ps nn = uc at *
  generalize unpV ws ps nn = uv at *
  generalize ws.length = n1 at *
  generalize ps.length = n3 at *
  generalize cs.length = nc at *
  generalize bs.length = n2 at *
  clear hB1 hB2 hB3 hBc
  go_enter Try.func4, Try.ntmps4
  rcases hsl with ⟨hb1, hb2, hs⟩ | ⟨hb1, rfl⟩ | ⟨hb1, rfl⟩ <;> rcases hnn with ⟨hn1, hn2, hn3, hn4⟩ | ⟨hn1, rfl⟩ | ⟨hn1, rfl⟩
  all_goals first
    | (have hbI : (3000 : Int) < (n2 : Int) := by omega
       have hbJ : (n2 : Int) ≤ 131072 := by omega
       have hs2 := hs
       rw [show (((3000 : Nat) : Int)) = (3000 : Int) from rfl] at hs2
       clear hs)
    | (have hbI : ¬ (3000 : Int) < (nc : Int) := by omega)
    | (have hbI : (3000 : Int) < (nc : Int) := by omega
       have hbJ : ¬ (nc : Int) ≤ 131072 := by omega)
  all_goals first
    | (have hnI : ¬ (3000 : Int) < nn := by omega)
    | (have hnI : (3000 : Int) < nn := by omega
       have hnJ : ¬ nn ≤ 131072 := by omega)
    | (have hnI : (3000 : Int) < n := by omega
       have hnJ : n ≤ 131072 := by omega)
  all_goals
    clear h48 hl
    go_wp2_with fail
    refine HP.out.mono ?_
    rintro e w1 ⟨hK1, xa, xn, xc, rfl, hxn, hown1⟩
    have HK1 := (show Hid (Keep noBlock w w1 ∧ w1.ownsRow 0 5 1 (.slice xa xn xc) pv.length (u8s pv)) from ⟨hK1, by rw [← hxn]; exact hown1⟩)
    have HX := (show Hid (xn = pv.length) from hxn)
    clear hK1 hown1 hxn
    go_wp2_with fail
    refine (HQ.out _ HK1.out.1).mono ?_
    rintro e w2 ⟨hK2, ya, yn, yc, rfl, hyn, hown2⟩
    have HK2 := (show Hid (Keep noBlock w w2 ∧ w2.ownsRow 0 5 1 (.slice xa xn xc) pv.length (u8s pv) ∧ w2.ownsRow 0 5 1 (.slice ya yn yc) pv.length (u8s pv)) from ⟨HK1.out.1.trans' hK2, owns_kept HK1.out.2 hK2 (fun _ _ h => h), by rw [← hyn]; exact hown2⟩)
    have HY := (show Hid (yn = pv.length) from hyn)
    clear hK2 hown2 hyn HK1
    go_wp2_with fail
    refine (HU.out _ HK2.out.1).mono ?_
    rintro e w3 ⟨hK3, va, vn, vc, rfl, hvn, hown3⟩
    have HK3 := (show Hid (Keep noBlock w w3 ∧ w3.ownsRow 0 5 1 (.slice xa xn xc) pv.length (u8s pv) ∧ w3.ownsRow 0 5 1 (.slice ya yn yc) pv.length (u8s pv) ∧ w3.ownsRow 0 5 1 (.slice va vn vc) uv.length (u8s uv)) from ⟨HK2.out.1.trans' hK3, owns_kept HK2.out.2.1 hK3 (fun _ _ h => h), owns_kept HK2.out.2.2 hK3 (fun _ _ h => h), by rw [← hvn]; exact hown3⟩)
    clear hK3 hown3 hvn HK2
    go_wp2_with fail
    refine (HV.out _ HK3.out.1).mono ?_
    rintro e w4 ⟨hK4, za, zn, zc, rfl, hzn, hown4⟩
    have hc1 := run_conv (Src.of_owns (bs := pv) (owns_kept HK3.out.2.1 hK4 (fun _ _ h => h)))
    have hc2 := run_conv (Src.of_owns (bs := pv) (owns_kept HK3.out.2.2.1 hK4 (fun _ _ h => h)))
    have hc3 := run_conv (Src.of_owns (bs := uv) (owns_kept HK3.out.2.2.2 hK4 (fun _ _ h => h)))
    have hc4 := run_conv (Src.of_owns (bs := uv) (by rw [← hzn]; exact hown4 : w4.ownsRow 0 5 1 (.slice za zn zc) uv.length (u8s uv)))
    have HK4 := (show Hid (Keep noBlock w w4) from HK3.out.1.trans' hK4)
    generalize strOf pv = S1 at hc1 hc2
    generalize strOf uv = S2 at hc3 hc4
    clear hK4 hown4 hzn HK3
    go_wp2_with (go_at_call 9; refine (wakes_any _).mono ?_; rintro e w7 ⟨rfl, hK7⟩)
    go_ret
    exact ⟨rfl, HK4.out.trans' hK7⟩
end

end Go.Proofs.Ytkljidigmolmmaa
