/-
  The document's Pack.
  What the document's Pack and Unpack answer, whatever they are handed.
  The document's rows.
  The document's Read.
  The document's Read, kind by kind.
  The document's Read of the packed kinds.
  The document's Read; both Reads answer the same.
-/
import Derived.Deep.RegionHeld3
import Derived.Test.YtcoahkmiebeeeaaDoorReadP15
namespace Go.Proofs.YtcoahkmiebeeeaaDoor
open Go.RowKit Go.Shelf
set_option linter.unusedVariables false



end Go.Proofs.YtcoahkmiebeeeaaDoor

namespace Go.Proofs.YtcoahkmiebeeeaaDoor
open Go.RowKit Go.Shelf
set_option linter.unusedVariables false


set_option maxRecDepth 100000 in
set_option maxHeartbeats 2000000 in
theorem unpackD_all (a : Option Addr) (cap gb off : Nat) (ws : List Nat) (a2 : Option Addr) (cap2 gb2 off2 : Nat) (bs : List Nat) (n : Int) (w : World) (hB : Bytes w a cap gb off ws) (hB2 : Bytes w a2 cap2 gb2 off2 bs) (hl : bs.length ≤ 1048576) :
    Calls Tryd.prog 21 #[.slice a ws.length cap, .slice a2 bs.length cap2, .int .i64 n] w fun e w' => Ans (unpC ws bs n) (unpV ws bs n) w e w' := by
  have HM := (show Hid (Calls Tryd.prog 12 #[.slice a ws.length cap] w fun e w' => e = .returned (.int .i64 ((codeM ws : Nat) : Int)) ∧ w' = w) from bitsD_any a cap gb off ws w hB)
  cases hc : codeB ws with
  | false =>
    have e1 : unpC ws bs n = 50 := by unfold unpC; rw [hc]; rfl
    have e2 := unpV_no (ws := ws) (bs := bs) (n := n) (by omega)
    rw [e1, e2]
    rw [codeM_no hc, show (((0 : Nat) : Int)) = (0 : Int) from rfl] at HM
    generalize ws.length = n1 at *
    generalize bs.length = n2 at *
    clear hB hB2 hl
    go_enter Tryd.func21, Tryd.ntmps21
    go_wp2_with (go_at_call 12; refine HM.out.mono ?_; rintro e w' ⟨rfl, rfl⟩)
    go_ret2
    exact ans_none (Keep.refl _ _)
  | true =>
    have hI := codeM_is hc
    by_cases hn : 0 ≤ n ∧ n ≤ 131072
    · obtain ⟨k, rfl⟩ := Int.eq_ofNat_of_zero_le hn.1
      refine (unpackD_good a cap gb off ws (codeM ws) a2 cap2 gb2 off2 bs k w hB hB2 hI hl (by omega)).mono ?_
      rintro e w' ⟨hk, ⟨h1, v, rfl, h2⟩ | ⟨h1, rfl⟩⟩
      · have e1 : unpC ws bs (k : Int) = 0 := by unfold unpC; rw [if_pos hc, if_pos hn, Int.toNat_natCast, if_pos h1]
        have e2 : unpV ws bs (k : Int) = (List.range k).map (symU ws (codeM ws) bs) := if_pos e1
        rw [e1, e2]
        refine ans_row hk ?_
        rw [show ((List.range k).map (symU ws (codeM ws) bs)).length = k from by simp]
        exact h2
      · have e1 : unpC ws bs (k : Int) = 11 := by unfold unpC; rw [if_pos hc, if_pos hn, Int.toNat_natCast, h1]; rfl
        have e2 := unpV_no (ws := ws) (bs := bs) (n := (k : Int)) (by omega)
        rw [e1, e2]
        exact ans_none hk
    · have e1 : unpC ws bs n = 2 := by unfold unpC; rw [if_pos hc, if_neg hn]
      have e2 := unpV_no (ws := ws) (bs := bs) (n := n) (by omega)
      rw [e1, e2]
      have hm1 := hI.m1
      have hmb : (((codeM ws : Nat) : Int) == 0) = false := by rw [beq_eq_false_iff_ne]; omega
      generalize codeM ws = m at *
      generalize ws.length = n1 at *
      generalize bs.length = n2 at *
      clear hB hB2 hl hI
      by_cases h0 : n < 0
      · go_enter Tryd.func21, Tryd.ntmps21
        go_wp2_with (go_at_call 12; refine HM.out.mono ?_; rintro e w' ⟨rfl, rfl⟩)
        go_ret2
        exact ans_none (Keep.refl _ _)
      · have h1 : 131072 < n := by omega
        go_enter Tryd.func21, Tryd.ntmps21
        go_wp2_with (go_at_call 12; refine HM.out.mono ?_; rintro e w' ⟨rfl, rfl⟩)
        go_ret2
        exact ans_none (Keep.refl _ _)

end Go.Proofs.YtcoahkmiebeeeaaDoor

namespace Go.Proofs.YtcoahkmiebeeeaaDoor
open Go.RowKit Go.Shelf
set_option linter.unusedVariables false

/-- What the document's rows tell. -/
def DAns (o : Option (List Nat)) (w : World) (e : Ending) (w' : World) : Prop :=
  Keep noBlock w w' ∧ match o with
    | none => ∃ v, e = .returned (.tuple #[v, .bool false])
    | some l => ∃ a n c, e = .returned (.tuple #[.slice a n c, .bool true]) ∧ n = l.length ∧ w'.ownsRow 0 5 1 (.slice a n c) n (u8s l)
theorem unpL_one (ws bs : List Nat) (size : Nat) : unpL ws bs size 1 = if unpC ws bs (size : Int) = 0 then some (unpV ws bs (size : Int)) else none := by
  unfold unpL cutL
  rw [if_neg (by simp)]
  simp only [Nat.sub_self, Nat.mul_zero, fitN, if_true, Option.bind_some, unpR, rowsN, List.range_zero, List.map_nil, List.nil_append, restN, Nat.sub_zero, List.drop_zero, List.all_cons, List.all_nil, Bool.and_true, decide_eq_true_eq, List.flatMap_cons, List.flatMap_nil, List.append_nil]

theorem run_cut2 (a : Option Addr) (len cap lo hi : Nat) (h0 : lo ≤ hi) (h1 : hi ≤ cap) (w : World) :
    (sliceSem 22 (.slice a len cap) (some (.int .i64 (lo : Int))) (some (.int .i64 (hi : Int))) none).run Tryd.prog w = .ok (.slice (if cap = lo then a else a.map (fun x => x.add lo)) (hi - lo) (cap - lo)) w := by
  obtain ⟨i0, hi', hz0, hz1, hz2⟩ := info_parts info5
  simp [sliceSem, Instr.slice, run_underlying Tryd.underlying22, Instr.sliceBounds, Instr.sliceBound, asIntOf, h0, h1, sizeOf, typeInfo, hi', hz1]
theorem Bytes.cut2 {w : World} {a : Option Addr} {cap gb off : Nat} {bs : List Nat} (h : Bytes w a cap gb off bs) (lo hi : Nat) (h0 : lo ≤ hi) (h1 : hi ≤ bs.length) :
    ∃ a' off', (∀ W, (sliceSem 22 (.slice a bs.length cap) (some (.int .i64 (lo : Int))) (some (.int .i64 (hi : Int))) none).run Tryd.prog W = .ok (.slice a' (hi - lo) (cap - lo)) W) ∧ Bytes w a' (cap - lo) gb off' ((bs.take hi).drop lo) := by
  have hc := h.cap
  have hl := h.len
  have hlen : ((bs.take hi).drop lo).length = hi - lo := by rw [List.length_drop, List.length_take]; omega
  refine ⟨if cap = lo then a else a.map (fun x => x.add lo), off + lo, fun W => run_cut2 a bs.length cap lo hi h0 (by omega) W, ⟨?_, ?_, ?_, lt_drop (lt_take h.lt hi) lo, by omega, by omega⟩⟩
  · by_cases e : hi = lo
    · right; exact List.length_eq_zero_iff.1 (by omega)
    · rcases h.at_ with q | q
      · left; rw [if_neg (by omega), q]; simp [addO]
      · rw [q] at h1; simp at h1; omega
  · intro e
    by_cases e2 : cap = lo
    · omega
    · rw [if_neg e2, Option.map_eq_none_iff] at e
      have := h.nil e
      omega
  · intro j hj
    rw [hlen] at hj
    rw [List.getElem?_drop, List.getElem?_take, if_pos (by omega), Nat.add_assoc]
    exact h.cells (lo + j) (by omega)
/-- Where row j begins. -/
def atN (bs : List Nat) : Nat → Nat
  | 0 => 6
  | j + 1 => atN bs j + lenAt bs j
theorem restN_drop (bs : List Nat) (j : Nat) : restN bs (bs.drop 6) j = bs.drop (atN bs j) := by
  induction j with
  | zero => rfl
  | succ j ih => unfold restN atN; rw [ih, List.drop_drop]
theorem atN_le {bs : List Nat} (h6 : 6 ≤ bs.length) {j : Nat} (hf : fitN bs (bs.drop 6) j = true) : atN bs j ≤ bs.length := by
  induction j with
  | zero => exact h6
  | succ j ih =>
    unfold fitN at hf
    rw [Bool.and_eq_true, decide_eq_true_eq, restN_drop, List.length_drop] at hf
    have := ih hf.1
    unfold atN
    omega
theorem rows4_at {bs : List Nat} {size j : Nat} (hj : j < 3) : (rowsN bs (bs.drop 6) size 4)[j]? = some ((bs.drop (atN bs j)).take (lenAt bs j), eachN size 4) := by
  unfold rowsN
  rw [List.getElem?_append_left (by simp; omega), List.getElem?_map, List.getElem?_range (by omega)]
  simp only [Option.map_some, rowN, restN_drop]
theorem rows4_last {bs : List Nat} {size : Nat} : (rowsN bs (bs.drop 6) size 4)[3]? = some (bs.drop (atN bs 3), size - eachN size 4 * 3) := by
  unfold rowsN
  rw [List.getElem?_append_right (by simp)]
  simp [restN_drop]
theorem unpL4_fit {ws bs : List Nat} {size : Nat} (h : fitN bs (bs.drop 6) 3 = false) : unpL ws bs size 4 = none := by
  unfold unpL cutL
  split
  · rfl
  · rw [if_neg (by rw [h]; decide)]; rfl
theorem unpL4_bad {ws bs : List Nat} {size j : Nat} {x : List Nat × Nat} (hx : (rowsN bs (bs.drop 6) size 4)[j]? = some x) (h : unpC ws x.1 (x.2 : Int) ≠ 0) : unpL ws bs size 4 = none := by
  unfold unpL cutL
  split
  · rfl
  · split
    · show unpR ws (rowsN bs (bs.drop 6) size 4) = none
      unfold unpR
      rw [if_neg]
      intro hall
      have := List.all_eq_true.1 hall x (List.mem_of_getElem? hx)
      rw [decide_eq_true_eq] at this
      exact h this
    · rfl
theorem unpL4_good {ws bs : List Nat} {size : Nat} (h6 : 6 ≤ bs.length) (hs : 3 * eachN size 4 ≤ size) (hf : fitN bs (bs.drop 6) 3 = true) (h : ∀ j x, j < 4 → (rowsN bs (bs.drop 6) size 4)[j]? = some x → unpC ws x.1 (x.2 : Int) = 0) :
    unpL ws bs size 4 = some (accR ws (rowsN bs (bs.drop 6) size 4) 4) := by
  have hl := rowsN_length bs (bs.drop 6) size 4 (by omega)
  unfold unpL cutL
  rw [if_neg (by omega), if_pos hf]
  show unpR ws (rowsN bs (bs.drop 6) size 4) = _
  unfold unpR
  rw [if_pos]
  · unfold accR; rw [List.take_of_length_le (by omega)]
  · rw [List.all_eq_true]
    intro y hy
    obtain ⟨i, hi, rfl⟩ := List.mem_iff_getElem.1 hy
    rw [decide_eq_true_eq]
    exact h i _ (by omega) (List.getElem?_eq_getElem hi)

section
attribute [local go_sem] sliceSem_eq
set_option maxRecDepth 100000 in
set_option maxHeartbeats 1000000 in
theorem rowsD_one (a : Option Addr) (cap gb off : Nat) (ws : List Nat) (a2 : Option Addr) (cap2 gb2 off2 : Nat) (bs : List Nat) (size : Nat) (w : World) (hB : Bytes w a cap gb off ws) (hB2 : Bytes w a2 cap2 gb2 off2 bs) (hs : size ≤ 131072) (hbl : bs.length ≤ 1048576) :
    Calls Tryd.prog 13 #[.slice a ws.length cap, .slice a2 bs.length cap2, .int .i64 (size : Int), .int .i64 1] w fun e w' => DAns (unpL ws bs size 1) w e w' := by
  have HC := hid (unpackD_all a cap gb off ws a2 cap2 gb2 off2 bs (size : Int) w hB hB2 hbl)
  rw [unpL_one]
  obtain ⟨uc, huc⟩ : ∃ uc, uc = unpC ws bs (size : Int) := ⟨_, rfl⟩
  obtain ⟨uv, huv⟩ : ∃ uv, uv = unpV ws bs (size : Int) := ⟨_, rfl⟩
  rw [← huc, ← huv] at HC ⊢
  generalize ws.length = n1 at *
  generalize bs.length = n2 at *
  clear hB hB2 hbl huc huv
  by_cases h0 : uc = 0
  · subst h0
    rw [if_pos rfl]
    go_enter Tryd.func13, Tryd.ntmps13
    go_wp2_with (go_at_call 21; refine HC.out.mono ?_; rintro e w1 ⟨hk1, va, vn, vc, rfl, hvn, hvo⟩; have HV := hid (show Keep noBlock w w1 ∧ vn = uv.length ∧ w1.ownsRow 0 5 1 (.slice va vn vc) vn (u8s uv) from ⟨hk1, hvn, hvo⟩); clear hk1 hvn hvo; rw [show ((0 : Nat) : Int) = (0 : Int) from rfl])
    go_ret2
    exact ⟨HV.out.1, va, vn, vc, rfl, HV.out.2.1, HV.out.2.2⟩
  · rw [if_neg h0]
    have hcb : ((uc : Int) == 0) = false := by rw [beq_eq_false_iff_ne]; omega
    go_enter Tryd.func13, Tryd.ntmps13
    go_wp2_with (go_at_call 21; refine HC.out.mono ?_; rintro e w1 ⟨hk1, va, vn, vc, rfl, hvn, hvo⟩; have HV := hid hk1; clear hk1 hvn hvo)
    go_ret2
    exact ⟨HV.out, _, rfl⟩

set_option maxRecDepth 100000 in
set_option maxHeartbeats 2000000 in
theorem rowsD_four (a : Option Addr) (cap gb off : Nat) (ws : List Nat) (a2 : Option Addr) (cap2 gb2 off2 : Nat) (bs : List Nat) (size : Nat) (w : World) (hB : Bytes w a cap gb off ws) (hB2 : Bytes w a2 cap2 gb2 off2 bs) (hs : size ≤ 131072) (hbl : bs.length ≤ 1048576) :
    Calls Tryd.prog 13 #[.slice a ws.length cap, .slice a2 bs.length cap2, .int .i64 (size : Int), .int .i64 4] w fun e w' => DAns (unpL ws bs size 4) w e w' := by
  obtain ⟨s3, hs3⟩ : ∃ s3, s3 = size + 3 := ⟨_, rfl⟩
  obtain ⟨each, heach⟩ : ∃ each, each = eachN size 4 := ⟨_, rfl⟩
  have he4 : each = s3 / 4 := by rw [heach, hs3]; rfl
  obtain ⟨t3, ht3⟩ : ∃ t3, t3 = 3 * each := ⟨_, rfl⟩
  have e1 : (size : Int) + 3 = (s3 : Int) := by omega
  have e2 : (s3 : Int).tdiv 4 = (each : Int) := by rw [he4]; rfl
  have e3 : 3 * (each : Int) = (t3 : Int) := by omega
  have b1 : (s3 : Int) ≤ 131075 := by omega
  have b2 : (each : Int) ≤ 32769 := by omega
  have b3 : (t3 : Int) ≤ 98307 := by omega
  obtain ⟨L, hL⟩ : ∃ L, L = bs.length := ⟨_, rfl⟩
  by_cases hbad : bs.length < 6 ∨ size < t3
  · have hn : unpL ws bs size 4 = none := by
      unfold unpL cutL
      rw [if_pos (by rw [← heach]; omega)]
      rfl
    rw [hn]
    have hLb : L < 2 ^ 48 := by omega
    rw [← hL] at hbad ⊢
    generalize ws.length = n1 at *
    clear hB hB2 hbl hL hs3 heach he4 ht3 hn
    by_cases h6 : L < 6
    · have g6 : (L : Int) < 6 := by omega
      go_enter Tryd.func13, Tryd.ntmps13
      go_wp2_with fail
      go_ret2
      exact ⟨Keep.refl _ _, _, rfl⟩
    · have g6 : ¬ (L : Int) < 6 := by omega
      have g7 : (size : Int) < (t3 : Int) := by omega
      go_enter Tryd.func13, Tryd.ntmps13
      go_wp2_with fail
      go_ret2
      exact ⟨Keep.refl _ _, _, rfl⟩
  · have g6 : ¬ (L : Int) < 6 := by omega
    have g7 : ¬ (size : Int) < (t3 : Int) := by omega
    rw [← hL]
    have HL := hid (show L = bs.length ∧ L ≤ 1048576 ∧ s3 = size + 3 ∧ each = eachN size 4 ∧ t3 = 3 * each ∧ size ≤ 131072 ∧ t3 ≤ size ∧ 6 ≤ L from ⟨hL, by omega, hs3, heach, ht3, hs, by omega, by omega⟩)
    have HB := hid (show ∀ W, Keep noBlock w W → Bytes W a2 cap2 gb2 off2 bs from fun W hW => hB2.keep hW (fun _ h => h))
    obtain ⟨R, hR⟩ : ∃ R, R = rowsN bs (bs.drop 6) size 4 := ⟨_, rfl⟩
    have HRs := hid (show R = rowsN bs (bs.drop 6) size 4 ∧ (∀ (i : Nat) x, R[i]? = some x → x.1.length ≤ 1048576 ∧ x.2 ≤ 131076) from ⟨hR, fun i x hx => by
      have := rowsN_small (by omega) (hR ▸ hx)
      rw [List.length_drop] at this
      omega⟩)
    have HU := hid (show ∀ (W : World), Keep noBlock w W → ∀ (a1 : Option Addr) (c1 g1 o1 : Nat) (x : List Nat × Nat), Bytes W a1 c1 g1 o1 x.1 → x.1.length ≤ 1048576 → Calls Tryd.prog 21 #[.slice a ws.length cap, .slice a1 x.1.length c1, .int .i64 ((x.2 : Nat) : Int)] W fun e w' => Ans (unpC ws x.1 (x.2 : Int)) (unpV ws x.1 (x.2 : Int)) W e w' from
      fun W hW a1 c1 g1 o1 x hx hl => unpackD_all a cap gb off ws a1 c1 g1 o1 x.1 (x.2 : Int) W (hB.keep hW (fun _ h => h)) hx (by omega))
    obtain ⟨n1, hn1⟩ : ∃ n1, n1 = ws.length := ⟨_, rfl⟩
    rw [← hn1] at HU ⊢
    obtain ⟨Z, hZ⟩ : ∃ Z, Z = size - t3 := ⟨_, rfl⟩
    have eZ : (size : Int) - (t3 : Int) = (Z : Int) := by omega
    have bZ : (Z : Int) ≤ 131072 := by omega
    have bL : (L : Int) ≤ 1048576 := by omega
    have HZ := hid hZ
    clear hB hB2 hbl hL hs3 heach he4 ht3 hbad hs hn1 hR hZ
    go_enter Tryd.func13, Tryd.ntmps13
    go_wp2_with fail
    go_loopw [13, 14, 15] (fun v13 v14 v15 wr => ∃ j A m c : Nat, ∃ ad, v15 = .int .i64 (j : Int) ∧ j ≤ 4 ∧ v14 = .int .i64 (A : Int) ∧ v13 = .slice ad m c ∧ Hid (Keep noBlock w wr ∧ fitN bs (bs.drop 6) (min j 3) = true ∧ (j ≤ 3 → A = atN bs j) ∧ m = (accR ws R j).length ∧ wr.ownsRow 0 5 1 (.slice ad m c) m (u8s (accR ws R j)) ∧ (∀ q, (Value.slice ad m c).ownBlock = some q → w.heap.size ≤ q) ∧ ∀ i x, i < j → R[i]? = some x → unpC ws x.1 (x.2 : Int) = 0)) (fun _ _ v15 _ => 4 - (intOf v15).toNat)
    case atStart => exact ⟨0, 6, 0, 0, none, rfl, by omega, rfl, rfl, Keep.refl _ _, rfl, fun _ => rfl, rfl, World.ownsRow_nil _ _ _ _, fun q hq => by simp [Value.ownBlock] at hq, fun i x hi => absurd hi (Nat.not_lt_zero _)⟩
    case round =>
      obtain ⟨j, A, m, c, ad, rfl, hj, rfl, rfl, HJ⟩ := hrel
      by_cases hlt : j < 4
      · have hltI : (j : Int) < 4 := by omega
        obtain ⟨hKw, hfit, hA0, hm, hown, hnew, hok⟩ := HJ.out
        have hA := hA0 (by omega)
        have hmin : min j 3 = j := by omega
        rw [hmin] at hfit
        have hAL : A ≤ L := by have h1 := HL.out.1; have h6 := HL.out.2.2.2.2.2.2.2; rw [hA, h1]; exact atN_le (by omega) hfit
        obtain ⟨D, hD⟩ : ∃ D, D = L - A := ⟨_, rfl⟩
        have eD : (L : Int) - (A : Int) = (D : Int) := by omega
        have bD : (D : Int) ≤ 1048576 := by have := HL.out.2.1; omega
        have bA : (A : Int) ≤ 1048576 := by have := HL.out.2.1; omega
        obtain ⟨j1, hj1⟩ : ∃ j1, j1 = j + 1 := ⟨_, rfl⟩
        have q13 : (j : Int) + 1 = (j1 : Int) := by omega
        have q14 : (j1 : Int) ≤ 5 := by omega
        have HJ1 := hid hj1
        have HA := hid (show A = atN bs j ∧ fitN bs (bs.drop 6) j = true ∧ A ≤ L ∧ D = L - A ∧ Keep noBlock w wr from ⟨hA, hfit, hAL, hD, hKw⟩)
        have HLJ := hid hj1
        clear hKw hfit hA0 hm hown hnew hok hA hmin hAL hD hj1
        by_cases h3 : j < 3
        · have h3I : (j : Int) < 3 := by omega
          obtain ⟨j2, hj2⟩ : ∃ j2, j2 = 2 * j := ⟨_, rfl⟩
          obtain ⟨j4, hj4⟩ : ∃ j4, j4 = 2 * j + 2 := ⟨_, rfl⟩
          have p1 : 2 * (j : Int) = (j2 : Int) := by omega
          have p2 : (j2 : Int) + 2 = (j4 : Int) := by omega
          have p3 : (j4 : Int) ≤ 6 := by omega
          have hBw := HB.out wr HA.out.2.2.2.2
          obtain ⟨an, on, hcutn, hBn⟩ := hBw.cut2 j2 j4 (by omega) (by have := HL.out; omega)
          obtain ⟨K, hK⟩ : ∃ K, K = lenAt bs j := ⟨_, rfl⟩
          have hl2 : ((bs.take j4).drop j2).length = 2 := by rw [List.length_drop, List.length_take]; have := HL.out; omega
          have hnum := number_any an (cap2 - j2) gb2 on ((bs.take j4).drop j2) wr hBn (by omega)
          have hval : numN ((bs.take j4).drop j2) = K := by
            rw [hK]
            match hq : (bs.take j4).drop j2, hl2 with
            | [x, y], _ =>
              have hx : ((bs.take j4).drop j2)[0]? = some x := by rw [hq]; rfl
              have hy : ((bs.take j4).drop j2)[1]? = some y := by rw [hq]; rfl
              rw [List.getElem?_drop, List.getElem?_take, if_pos (by omega)] at hx hy
              unfold lenAt
              rw [show 2 * j = j2 + 0 from by omega, hx, show j2 + 0 + 1 = j2 + 1 from rfl, hy]
              simp [numN]
          have hKb : K < 65536 := by
            rw [← hval]
            have := numN_lt (l := (bs.take j4).drop j2) (lt_mem hBn.lt)
            rw [hl2] at this
            exact this
          rw [hval, hl2] at hnum
          rw [show j4 - j2 = 2 from by omega, ← HL.out.1] at hcutn
          have HNU := hid hnum
          have bK : (K : Int) < 65536 := by omega
          have HK := hid (show K = lenAt bs j from hK)
          clear hj2 hj4 hBw hBn hl2 hnum hval hK hKb
          by_cases hgt : D < K
          · have g1 : (D : Int) < (K : Int) := by omega
            go_wp2_with (go_at_call 18; refine HNU.out.mono ?_; rintro e w1 ⟨rfl, hw1⟩; subst hw1)
            go_ret2
            have hn : unpL ws bs size 4 = none := unpL4_fit (fitN_no (i := j + 1) (by
              unfold fitN
              rw [HA.out.2.1, ← HK.out, restN_drop, List.length_drop, ← HA.out.1, ← HL.out.1, ← HA.out.2.2.2.1]
              simp
              exact hgt) 3 (by omega))
            rw [hn]
            exact ⟨HA.out.2.2.2.2, _, rfl⟩
          · have g1 : ¬ (D : Int) < (K : Int) := by omega
            have hBw := HB.out wr HA.out.2.2.2.2
            obtain ⟨E, hE⟩ : ∃ E, E = A + K := ⟨_, rfl⟩
            have eE : (A : Int) + (K : Int) = (E : Int) := by omega
            have bE : (E : Int) ≤ 1048576 := by have := HA.out; have := HL.out; omega
            obtain ⟨ar, orr, hcutr, hBr⟩ := hBw.cut2 A E (by omega) (by have := HA.out; have := HL.out; omega)
            rw [show E - A = K from by omega, ← HL.out.1] at hcutr
            obtain ⟨x, hx, hx1, hx2⟩ : ∃ x : List Nat × Nat, R[j]? = some x ∧ x.1 = (bs.take E).drop A ∧ x.2 = each := by
              refine ⟨_, by rw [HRs.out.1]; exact rows4_at h3, ?_, ?_⟩
              · show (bs.drop (atN bs j)).take (lenAt bs j) = _
                rw [← HA.out.1, ← HK.out, List.drop_take, hE]
                congr 1
                omega
              · exact HL.out.2.2.2.1.symm
            have hxl : x.1.length = K := by rw [hx1, List.length_drop, List.length_take]; have := HA.out; have := HL.out; omega
            have hcall := HU.out wr HA.out.2.2.2.2 ar (cap2 - A) gb2 orr x (by rw [hx1]; exact hBr) (by have := HA.out; have := HL.out; omega)
            obtain ⟨uc, huc⟩ : ∃ uc, uc = unpC ws x.1 (x.2 : Int) := ⟨_, rfl⟩
            obtain ⟨uv, huv⟩ : ∃ uv, uv = unpV ws x.1 (x.2 : Int) := ⟨_, rfl⟩
            rw [← huc, ← huv, hxl, hx2] at hcall
            have HCA := hid hcall
            have HX := hid (show R[j]? = some x ∧ uc = unpC ws x.1 (x.2 : Int) ∧ uv = unpV ws x.1 (x.2 : Int) ∧ x.2 ≤ 131076 ∧ E = A + K from ⟨hx, huc, huv, (HRs.out.2 j x hx).2, hE⟩)
            clear hBw hE hBr hx hx1 hx2 hxl hcall huc huv
            by_cases hu0 : uc = 0
            · subst hu0
              obtain ⟨hKw, hfit, hA0, hm, hown, hnew, hok⟩ := HJ.out
              have HP := hid (show ∀ (w4 : World) (va : Option Addr) (vn vc : Nat), Keep noBlock wr w4 → vn = uv.length → w4.ownsRow 0 5 1 (.slice va vn vc) vn (u8s uv) → ∃ ad5 vm c5 w5, (Builtin.append_ #[22, 22] 22 #[.slice ad m c, .slice va vn vc]).run Tryd.prog w4 = .ok (.slice ad5 vm c5) w5 ∧ Keep noBlock w w5 ∧ vm = (accR ws R j1).length ∧ w5.ownsRow 0 5 1 (.slice ad5 vm c5) vm (u8s (accR ws R j1)) ∧ (∀ q, (Value.slice ad5 vm c5).ownBlock = some q → w.heap.size ≤ q) from by
                intro w4 va vn vc hk4 hvn hvo
                obtain ⟨r1, r2, r3, r4, r5⟩ := HX.out
                have hlenU : uv.length ≤ 131076 := by rw [r3]; have := unpV_len ws x.1 x.2; omega
                have hlenA : (accR ws R j).length ≤ 4 * 131076 := Nat.le_trans (accR_len (B := 131076) (fun i x hx => (HRs.out.2 i x hx).2) j) (Nat.mul_le_mul_right _ (by omega))
                have hvlt : ∀ q : Nat, uv[q]?.getD 0 < 256 := by rw [r3]; exact unpV_lt ws x.1 (x.2 : Int)
                have hown4 := owns_kept hown hk4 (fun _ _ h => h)
                subst hvn
                obtain ⟨va', vc', vg, hve, hvB, -⟩ := owns_bytes (M := uv) hvo hvlt (by omega)
                cases hve
                subst hm
                obtain ⟨v', w5, hrun, ho5, hk5, hnr5⟩ := run_append_all w4 22 _ (accR ws R j) uv hown4 (by omega) _ hvB.src
                obtain ⟨ad5, c5, hv5⟩ := owns_form ho5
                subst hv5
                have hacc : accR ws R j1 = accR ws R j ++ uv := by rw [HJ1.out, r3]; exact accR_succ r1
                refine ⟨ad5, _, c5, w5, hrun, (hKw.trans' hk4).trans hk5 (fun i hi hq => by have := hnew i hq; omega), by rw [hacc], by rw [hacc]; exact ho5, ?_⟩
                intro q hq
                rcases hnr5 with e | ⟨k, e, hk⟩
                · rw [e] at hq; exact hnew q hq
                · rw [e] at hq
                  cases hq
                  have := hKw.size
                  have := hk4.size
                  omega)
              clear hKw hfit hA0 hm hown hnew hok
              go_wp2_with (go_at_call 18; refine HNU.out.mono ?_; rintro e w1 ⟨rfl, hw1⟩; subst hw1)
              refine HCA.out.mono ?_
              rintro e w4 ⟨hk4, va, vn, vc, rfl, hvn, hvo⟩
              obtain ⟨ad5, vm, c5, w5, hrun, g1', g2', g3', g4'⟩ := HP.out w4 va vn vc hk4 hvn hvo
              have HE := hid (And.intro g1' (And.intro g2' (And.intro g3' g4')))
              clear g1' g2' g3' g4' hk4 hvn hvo
              rw [show ((0 : Nat) : Int) = (0 : Int) from rfl]
              go_wp2_with (at_builtin; refine wpList_append_run _ rfl _ _ 22 rfl _ _ _ _ rfl rfl hrun ?_)
              obtain ⟨g1', g2', g3', g4'⟩ := HE.out
              obtain ⟨r1, r2, r3, r4, r5⟩ := HX.out
              refine ⟨⟨j1, E, vm, c5, ad5, rfl, by rw [HJ1.out]; omega, rfl, rfl, g1', ?_, ?_, g2', g3', g4', ?_⟩, ?_⟩
              · have hm1 : min j1 3 = j + 1 := by have := HJ1.out; omega
                rw [hm1]
                unfold fitN
                rw [HA.out.2.1, ← HK.out, restN_drop, List.length_drop, ← HA.out.1, ← HL.out.1, ← HA.out.2.2.2.1]
                simp
                omega
              · intro _
                rw [HJ1.out, r5, HA.out.1, HK.out]
                rfl
              · intro i y hi hy
                rw [HJ1.out] at hi
                by_cases he : i = j
                · subst he
                  rw [r1] at hy
                  cases hy
                  exact r2.symm
                · exact HJ.out.2.2.2.2.2.2 i y (by omega) hy
              · have := HJ1.out
                simp only [intOf, Int.toNat_natCast]
                omega
            · have hub : ((uc : Int) != 0) = true := by simp; omega
              go_wp2_with (go_at_call 18; refine HNU.out.mono ?_; rintro e w1 ⟨rfl, hw1⟩; subst hw1)
              refine HCA.out.mono ?_
              rintro e w4 ⟨hk4, va, vn, vc, rfl, hvn, hvo⟩
              have HKf := hid (HA.out.2.2.2.2.trans' hk4)
              clear hk4 hvn hvo
              go_wp2_with fail
              go_ret2
              have hn : unpL ws bs size 4 = none := unpL4_bad (j := j) (x := x) (by rw [← HRs.out.1]; exact HX.out.1) (fun h => hu0 (HX.out.2.1.trans h))
              rw [hn]
              exact ⟨HKf.out, _, rfl⟩
        · have h3I : ¬ (j : Int) < 3 := by omega
          have hj3 : j = 3 := by omega
          obtain ⟨K, hK⟩ : ∃ K, K = D := ⟨_, rfl⟩
          subst hK
          have g1 : ¬ (K : Int) < (K : Int) := by omega
          have hBw := HB.out wr HA.out.2.2.2.2
          obtain ⟨E, hE⟩ : ∃ E, E = A + K := ⟨_, rfl⟩
          have eE : (A : Int) + (K : Int) = (E : Int) := by omega
          have bE : (E : Int) ≤ 1048576 := by have := HA.out; have := HL.out; omega
          obtain ⟨ar, orr, hcutr, hBr⟩ := hBw.cut2 A E (by omega) (by have := HA.out; have := HL.out; omega)
          rw [show E - A = K from by omega, ← HL.out.1] at hcutr
          obtain ⟨x, hx, hx1, hx2⟩ : ∃ x : List Nat × Nat, R[j]? = some x ∧ x.1 = (bs.take E).drop A ∧ x.2 = Z := by
            refine ⟨_, by rw [HRs.out.1, hj3]; exact rows4_last, ?_, ?_⟩
            · show bs.drop (atN bs 3) = _
              have h1 := HA.out
              have h2 := HL.out
              rw [← hj3, ← HA.out.1, List.take_of_length_le (by omega)]
            · show size - eachN size 4 * 3 = Z
              have h2 := HL.out
              rw [HZ.out, ← h2.2.2.2.1]
              omega
          have hxl : x.1.length = K := by rw [hx1, List.length_drop, List.length_take]; have := HA.out; have := HL.out; omega
          have hcall := HU.out wr HA.out.2.2.2.2 ar (cap2 - A) gb2 orr x (by rw [hx1]; exact hBr) (by have := HA.out; have := HL.out; omega)
          obtain ⟨uc, huc⟩ : ∃ uc, uc = unpC ws x.1 (x.2 : Int) := ⟨_, rfl⟩
          obtain ⟨uv, huv⟩ : ∃ uv, uv = unpV ws x.1 (x.2 : Int) := ⟨_, rfl⟩
          rw [← huc, ← huv, hxl, hx2] at hcall
          have HCA := hid hcall
          have HX := hid (show R[j]? = some x ∧ uc = unpC ws x.1 (x.2 : Int) ∧ uv = unpV ws x.1 (x.2 : Int) ∧ x.2 ≤ 131076 ∧ E = A + K from ⟨hx, huc, huv, (HRs.out.2 j x hx).2, hE⟩)
          clear hBw hE hBr hx hx1 hx2 hxl hcall huc huv hj3
          by_cases hu0 : uc = 0
          · subst hu0
            obtain ⟨hKw, hfit, hA0, hm, hown, hnew, hok⟩ := HJ.out
            have HP := hid (show ∀ (w4 : World) (va : Option Addr) (vn vc : Nat), Keep noBlock wr w4 → vn = uv.length → w4.ownsRow 0 5 1 (.slice va vn vc) vn (u8s uv) → ∃ ad5 vm c5 w5, (Builtin.append_ #[22, 22] 22 #[.slice ad m c, .slice va vn vc]).run Tryd.prog w4 = .ok (.slice ad5 vm c5) w5 ∧ Keep noBlock w w5 ∧ vm = (accR ws R j1).length ∧ w5.ownsRow 0 5 1 (.slice ad5 vm c5) vm (u8s (accR ws R j1)) ∧ (∀ q, (Value.slice ad5 vm c5).ownBlock = some q → w.heap.size ≤ q) from by
              intro w4 va vn vc hk4 hvn hvo
              obtain ⟨r1, r2, r3, r4, r5⟩ := HX.out
              have hlenU : uv.length ≤ 131076 := by rw [r3]; have := unpV_len ws x.1 x.2; omega
              have hlenA : (accR ws R j).length ≤ 4 * 131076 := Nat.le_trans (accR_len (B := 131076) (fun i x hx => (HRs.out.2 i x hx).2) j) (Nat.mul_le_mul_right _ (by omega))
              have hvlt : ∀ q : Nat, uv[q]?.getD 0 < 256 := by rw [r3]; exact unpV_lt ws x.1 (x.2 : Int)
              have hown4 := owns_kept hown hk4 (fun _ _ h => h)
              subst hvn
              obtain ⟨va', vc', vg, hve, hvB, -⟩ := owns_bytes (M := uv) hvo hvlt (by omega)
              cases hve
              subst hm
              obtain ⟨v', w5, hrun, ho5, hk5, hnr5⟩ := run_append_all w4 22 _ (accR ws R j) uv hown4 (by omega) _ hvB.src
              obtain ⟨ad5, c5, hv5⟩ := owns_form ho5
              subst hv5
              have hacc : accR ws R j1 = accR ws R j ++ uv := by rw [HJ1.out, r3]; exact accR_succ r1
              refine ⟨ad5, _, c5, w5, hrun, (hKw.trans' hk4).trans hk5 (fun i hi hq => by have := hnew i hq; omega), by rw [hacc], by rw [hacc]; exact ho5, ?_⟩
              intro q hq
              rcases hnr5 with e | ⟨k, e, hk⟩
              · rw [e] at hq; exact hnew q hq
              · rw [e] at hq
                cases hq
                have := hKw.size
                have := hk4.size
                omega)
            clear hKw hfit hA0 hm hown hnew hok
            go_wp2_with fail
            refine HCA.out.mono ?_
            rintro e w4 ⟨hk4, va, vn, vc, rfl, hvn, hvo⟩
            obtain ⟨ad5, vm, c5, w5, hrun, g1', g2', g3', g4'⟩ := HP.out w4 va vn vc hk4 hvn hvo
            have HE := hid (And.intro g1' (And.intro g2' (And.intro g3' g4')))
            clear g1' g2' g3' g4' hk4 hvn hvo
            rw [show ((0 : Nat) : Int) = (0 : Int) from rfl]
            go_wp2_with (at_builtin; refine wpList_append_run _ rfl _ _ 22 rfl _ _ _ _ rfl rfl hrun ?_)
            obtain ⟨g1', g2', g3', g4'⟩ := HE.out
            obtain ⟨r1, r2, r3, r4, r5⟩ := HX.out
            refine ⟨⟨j1, E, vm, c5, ad5, rfl, by rw [HJ1.out]; omega, rfl, rfl, g1', ?_, ?_, g2', g3', g4', ?_⟩, ?_⟩
            · have hm1 : min j1 3 = j := by have := HJ1.out; omega
              rw [hm1]
              exact HA.out.2.1
            · intro h
              have := HJ1.out
              omega
            · intro i y hi hy
              rw [HJ1.out] at hi
              by_cases he : i = j
              · subst he
                rw [r1] at hy
                cases hy
                exact r2.symm
              · exact HJ.out.2.2.2.2.2.2 i y (by omega) hy
            · have := HJ1.out
              simp only [intOf, Int.toNat_natCast]
              omega
          · have hub : ((uc : Int) != 0) = true := by simp; omega
            go_wp2_with fail
            refine HCA.out.mono ?_
            rintro e w4 ⟨hk4, va, vn, vc, rfl, hvn, hvo⟩
            have HKf := hid (HA.out.2.2.2.2.trans' hk4)
            clear hk4 hvn hvo
            go_wp2_with fail
            go_ret2
            have hn : unpL ws bs size 4 = none := unpL4_bad (j := j) (x := x) (by rw [← HRs.out.1]; exact HX.out.1) (fun h => hu0 (HX.out.2.1.trans h))
            rw [hn]
            exact ⟨HKf.out, _, rfl⟩
      · have hltI : ¬ (j : Int) < 4 := by omega
        go_wp2_with fail
        go_ret2
        obtain ⟨hKw, hfit, hA0, hm, hown, hnew, hok⟩ := HJ.out
        obtain rfl : j = 4 := by omega
        obtain ⟨q1, q2, q3, q4, q5, q6, q7, q8⟩ := HL.out
        have hsome := unpL4_good (ws := ws) (bs := bs) (size := size) (by omega) (by omega) hfit (fun i x hi hx => hok i x hi (by rw [HRs.out.1]; exact hx))
        rw [← HRs.out.1] at hsome
        rw [hsome]
        exact ⟨hKw, ad, m, c, rfl, hm, hown⟩
end
end Go.Proofs.YtcoahkmiebeeeaaDoor

namespace Go.Proofs.YtcoahkmiebeeeaaDoor
open Go.RowKit Go.Shelf
set_option linter.unusedVariables false

section
attribute [local go_sem] sliceSem_eq
set_option maxRecDepth 100000 in
set_option maxHeartbeats 1000000 in
theorem readD2_arg (a : Option Addr) (n cap : Nat) (a2 : Option Addr) (n2 cap2 : Nat) (most : Int) (w : World) (h : most < 0 ∨ 131072 < most) :
    Calls Tryd.prog 5 #[.slice a n cap, .slice a2 n2 cap2, .int .i64 most] w fun e w' => LAns (2, [], [], 0) w e w' := by
  by_cases h0 : most < 0
  · go_enter Tryd.func5, Tryd.ntmps5
    go_wp2
    refine bodyPost_ret (v := .tuple #[.slice none 0 0, .slice none 0 0, .int .i64 0, .int .i64 2]) (by simp [results, Tryd.results5, go_sem]) rfl (lans_none (Keep.refl _ _))
  · have h1 : 131072 < most := by omega
    go_enter Tryd.func5, Tryd.ntmps5
    go_wp2
    all_goals refine bodyPost_ret (v := .tuple #[.slice none 0 0, .slice none 0 0, .int .i64 0, .int .i64 2]) (by simp [results, Tryd.results5, go_sem]) rfl (lans_none (Keep.refl _ _))
set_option maxRecDepth 100000 in
set_option maxHeartbeats 1000000 in
theorem readD2_nil (a : Option Addr) (cap : Nat) (a2 : Option Addr) (n2 cap2 : Nat) (most : Int) (w : World) (h0 : 0 ≤ most) (h1 : most ≤ 131072) :
    Calls Tryd.prog 5 #[.slice a 0 cap, .slice a2 n2 cap2, .int .i64 most] w fun e w' => LAns (10, [], [], 0) w e w' := by
  have g0 : ¬ most < 0 := by omega
  have g1 : ¬ 131072 < most := by omega
  go_enter Tryd.func5, Tryd.ntmps5
  go_wp2
  refine bodyPost_ret (v := .tuple #[.slice none 0 0, .slice none 0 0, .int .i64 0, .int .i64 10]) (by simp [results, Tryd.results5, go_sem]) rfl (lans_none (Keep.refl _ _))
set_option maxRecDepth 100000 in
set_option maxHeartbeats 1000000 in
theorem readD2_short (a : Option Addr) (n cap : Nat) (a2 : Option Addr) (n2 cap2 : Nat) (most : Int) (w : World) (h0 : 0 ≤ most) (h1 : most ≤ 131072) (hn : 0 < n) (hnb : n < 2 ^ 48)
    (hc : Calls Tryd.prog 10 #[.slice a n cap] w fun e w' => Keep noBlock w w' ∧ e = .returned (.tuple #[headD 0 0 0 0 0, .bool false])) :
    Calls Tryd.prog 5 #[.slice a n cap, .slice a2 n2 cap2, .int .i64 most] w fun e w' => LAns (10, [], [], 0) w e w' := by
  have HC := hid hc
  have g0 : ¬ most < 0 := by omega
  have g1 : ¬ 131072 < most := by omega
  have g2 : ((n : Int) == 0) = false := by rw [beq_eq_false_iff_ne]; omega
  clear hc
  unfold headD at HC
  go_enter Tryd.func5, Tryd.ntmps5
  go_wp2_with (go_at_call 10; refine HC.out.mono ?_; rintro e w1 ⟨hk1, rfl⟩)
  refine bodyPost_ret (v := .tuple #[.slice none 0 0, .slice none 0 0, .int .i64 0, .int .i64 10]) (by simp [results, Tryd.results5, go_sem]) rfl (lans_none (hk1.alloc _))

set_option maxRecDepth 100000 in
set_option maxHeartbeats 2000000 in
/-- Where the head is there: up to the kinds. -/
theorem readD2_early (a : Option Addr) (n cap : Nat) (a2 : Option Addr) (n2 cap2 : Nat) (most : Int) (k size pk used rw : Nat) (w : World) (h0 : 0 ≤ most) (h1 : most ≤ 131072) (hn : 0 < n) (hnb : n < 2 ^ 48) (hhb : used ≤ 5) (hsz : size < 1048576) (hpk : pk < 1048576) (hun : used ≤ n)
    (hc : Calls Tryd.prog 10 #[.slice a n cap] w fun e w' => Keep noBlock w w' ∧ e = .returned (.tuple #[headD k size pk used rw, .bool true])) (r : Nat × List Nat × List Nat × Nat)
    (hr1 : most < (size : Int) → r = (11, [], [], 0))
    (hr2 : ¬ most < (size : Int) → n < used + behN k size pk → r = (10, [], [], 0))
    (hb : most < (size : Int) ∨ n < used + behN k size pk) :
    Calls Tryd.prog 5 #[.slice a n cap, .slice a2 n2 cap2, .int .i64 most] w fun e w' => LAns r w e w' := by
  have HC := hid hc
  have g0 : ¬ most < 0 := by omega
  have g1 : ¬ 131072 < most := by omega
  have g2 : ((n : Int) == 0) = false := by rw [beq_eq_false_iff_ne]; omega
  unfold headD at HC
  clear hc
  by_cases hA : most < (size : Int)
  · have hr := hr1 hA
    clear hr1 hr2 hb
    subst hr
    go_enter Tryd.func5, Tryd.ntmps5
    go_wp2_with (go_at_call 10; refine HC.out.mono ?_; rintro e w1 ⟨hk1, rfl⟩)
    refine bodyPost_ret (v := .tuple #[.slice none 0 0, .slice none 0 0, .int .i64 0, .int .i64 11]) (by simp [results, Tryd.results5, go_sem]) rfl (lans_none (hk1.alloc _))
  · have hB := hb.resolve_left hA
    have hr := hr2 hA hB
    clear hr1 hr2 hb
    subst hr
    obtain ⟨D, hD⟩ : ∃ D, D = n - used := ⟨_, rfl⟩
    have eD : (n : Int) - (used : Int) = (D : Int) := by omega
    unfold behN at hB
    by_cases k0 : k = 0
    · subst k0
      rw [if_pos rfl] at hB
      have g3 : (D : Int) < (size : Int) := by omega
      clear hB hD
      go_enter Tryd.func5, Tryd.ntmps5
      go_wp2_with (go_at_call 10; refine HC.out.mono ?_; rintro e w1 ⟨hk1, rfl⟩)
      refine bodyPost_ret (v := .tuple #[.slice none 0 0, .slice none 0 0, .int .i64 0, .int .i64 10]) (by simp [results, Tryd.results5, go_sem]) rfl (lans_none (hk1.alloc _))
    · rw [if_neg k0] at hB
      have q0 : ((k : Int) == 0) = false := by rw [beq_eq_false_iff_ne]; omega
      by_cases k1 : k = 1
      · subst k1
        rw [if_pos rfl] at hB
        have g3 : (D : Int) < 1 := by omega
        clear hB hD
        go_enter Tryd.func5, Tryd.ntmps5
        go_wp2_with (go_at_call 10; refine HC.out.mono ?_; rintro e w1 ⟨hk1, rfl⟩)
        refine bodyPost_ret (v := .tuple #[.slice none 0 0, .slice none 0 0, .int .i64 0, .int .i64 10]) (by simp [results, Tryd.results5, go_sem]) rfl (lans_none (hk1.alloc _))
      · rw [if_neg k1] at hB
        have q1 : ((k : Int) == 1) = false := by rw [beq_eq_false_iff_ne]; omega
        have g3 : (D : Int) < (pk : Int) := by omega
        clear hB hD
        go_enter Tryd.func5, Tryd.ntmps5
        go_wp2_with (go_at_call 10; refine HC.out.mono ?_; rintro e w1 ⟨hk1, rfl⟩)
        refine bodyPost_ret (v := .tuple #[.slice none 0 0, .slice none 0 0, .int .i64 0, .int .i64 10]) (by simp [results, Tryd.results5, go_sem]) rfl (lans_none (hk1.alloc _))
end
end Go.Proofs.YtcoahkmiebeeeaaDoor

namespace Go.Proofs.YtcoahkmiebeeeaaDoor
open Go.RowKit Go.Shelf
set_option linter.unusedVariables false

theorem unpC_no {ws bs : List Nat} {n : Int} (h : codeB ws = false) : unpC ws bs n = 50 := by unfold unpC; rw [h]; rfl
theorem unpL_nocode {ws bs : List Nat} {size n : Nat} (h : codeB ws = false) : unpL ws bs size n = none := by
  unfold unpL
  cases hc : cutL bs size n with
  | none => rfl
  | some R =>
    show unpR ws R = none
    unfold unpR
    rw [if_neg]
    intro hall
    unfold cutL at hc
    split at hc
    · cases hc
    · split at hc
      · cases hc
        have := List.all_eq_true.1 hall (restN bs (bs.drop (2 * (n - 1))) (n - 1), size - eachN size n * (n - 1)) (by unfold rowsN; simp)
        rw [decide_eq_true_eq, unpC_no h] at this
        omega
      · cases hc
theorem rowsD_any (a : Option Addr) (cap gb off : Nat) (ws : List Nat) (a2 : Option Addr) (cap2 gb2 off2 : Nat) (bs : List Nat) (size n : Nat) (w : World) (hB : Bytes w a cap gb off ws) (hB2 : Bytes w a2 cap2 gb2 off2 bs) (hs : size ≤ 131072) (hbl : bs.length ≤ 1048576) (hn : n = 1 ∨ n = 4) :
    Calls Tryd.prog 13 #[.slice a ws.length cap, .slice a2 bs.length cap2, .int .i64 (size : Int), .int .i64 (n : Int)] w fun e w' => DAns (unpL ws bs size n) w e w' := by
  rcases hn with rfl | rfl
  · exact rowsD_one a cap gb off ws a2 cap2 gb2 off2 bs size w hB hB2 hs hbl
  · exact rowsD_four a cap gb off ws a2 cap2 gb2 off2 bs size w hB hB2 hs hbl

section
attribute [local go_sem] sliceSem_eq
set_option maxRecDepth 100000 in
set_option maxHeartbeats 2000000 in
theorem readD2_raw (a : Option Addr) (n cap gb : Nat) (a2 : Option Addr) (cap2 gb2 off2 : Nat) (ws : List Nat) (most : Int) (size pk used rw : Nat) (w : World) (h0 : 0 ≤ most) (h1 : most ≤ 131072) (hn : 0 < n) (hnb : n < 2 ^ 48) (hhb : used ≤ 5) (hsm : (size : Int) ≤ most) (hun : used + size ≤ n)
    (hc : Calls Tryd.prog 10 #[.slice a n cap] w fun e w' => Keep noBlock w w' ∧ e = .returned (.tuple #[headD 0 size pk used rw, .bool true]))
    (ac : Option Addr) (oc : Nat) (cs : List Nat) (hcl : cs.length = size) (hsl : ∀ W, (sliceSem 22 (.slice a n cap) (some (.int .i64 (used : Int))) (some (.int .i64 ((used + size : Nat) : Int))) none).run Tryd.prog W = .ok (.slice ac size (cap - used)) W) (hBc : Bytes w ac (cap - used) gb oc cs) (hB2 : Bytes w a2 cap2 gb2 off2 ws) :
    Calls Tryd.prog 5 #[.slice a n cap, .slice a2 ws.length cap2, .int .i64 most] w fun e w' => LAns (0, cs, ws, used + size) w e w' := by
  have g0 : ¬ most < 0 := by omega
  have g1 : ¬ 131072 < most := by omega
  have g2 : ((n : Int) == 0) = false := by rw [beq_eq_false_iff_ne]; omega
  have g3 : ¬ most < (size : Int) := by omega
  obtain ⟨D, hD⟩ : ∃ D, D = n - used := ⟨_, rfl⟩
  have eD : (n : Int) - (used : Int) = (D : Int) := by omega
  have g4 : ¬ (D : Int) < (size : Int) := by omega
  obtain ⟨en, hen⟩ : ∃ en, en = used + size := ⟨_, rfl⟩
  rw [← hen] at hsl ⊢
  have e1 : (used : Int) + (size : Int) = (en : Int) := by omega
  have enb : (en : Int) ≤ 1048600 := by omega
  have HC := hid hc
  have HP := hid (show ∀ w1, Keep noBlock w w1 → ∃ v' w', (Builtin.append_ #[22, 22] 22 #[.slice (some ⟨w1.heap.size, 0, none⟩) 0 0, .slice ac size (cap - used)]).run Tryd.prog (w1.alloc (.cells #[] 5)) = .ok v' w' ∧ w'.ownsRow 0 5 1 v' cs.length (u8s cs) ∧ Keep noBlock w w' from fun w1 hk => by
    have hka := (Keep.refl noBlock w1).alloc (.cells #[] 5)
    have hown := World.ownsRow_made (e := 5) (size := 1) (base := 0) w1 #[] 0 (Nat.zero_le _) (Nat.zero_le _) rfl
    have hsrc := (hBc.keep (hk.trans' hka) (fun _ h => h)).src
    rw [hcl] at hsrc
    obtain ⟨v', w', hr, ho, hk', -⟩ := run_append_all (w1.alloc (.cells #[] 5)) 22 (.slice (some ⟨w1.heap.size, 0, none⟩) 0 0) [] cs hown (by simp; omega) _ hsrc
    rw [List.nil_append] at ho
    refine ⟨v', w', hr, ho, (hk.trans' hka).trans hk' (fun i hi e => ?_)⟩
    have := hk.size
    simp only [Value.ownBlock, Option.some.injEq] at e
    omega)
  have HB2 := hid (show (∀ W, Keep noBlock w W → Bytes W a2 cap2 gb2 off2 ws) ∧ (∀ j : Nat, cs[j]?.getD 0 < 256) ∧ cs.length < 2 ^ 48 ∧ cs.length = size from ⟨fun W hW => hB2.keep hW (fun _ h => h), hBc.lt, hBc.len, hcl⟩)
  unfold headD at HC
  obtain ⟨nw, hnw⟩ : ∃ nw, nw = ws.length := ⟨_, rfl⟩
  rw [← hnw]
  have HNW := hid hnw
  clear hc hD hen hBc hB2 hcl hnw
  go_enter Tryd.func5, Tryd.ntmps5
  go_wp2_with (first | (go_at_call 10; refine HC.out.mono ?_; rintro e w1 ⟨hk1, rfl⟩; obtain ⟨v', w5, hrun, ho, hk'⟩ := HP.out (w1.alloc (.cells #[.int .i64 0, .int .i64 (size : Int), .int .i64 (pk : Int), .int .i64 (used : Int), .int .i64 (rw : Int)] 38)) (hk1.alloc _); rw [World.size_alloc] at hrun; have HO := hid (And.intro ho hk'); clear ho hk' hk1) | (at_builtin; refine wpList_append_run _ rfl _ _ 22 rfl _ _ _ _ rfl rfl hrun ?_))
  (try simp only [Exit.inBlock, Exit.then])
  obtain ⟨ho, hk'⟩ := HO.out
  obtain ⟨b1, b2, b3, b4⟩ := HB2.out
  obtain ⟨a5, c5, g5, rfl, hB5, -⟩ := owns_bytes (M := cs) ho b2 b3
  refine bodyPost_ret (v := .tuple #[.slice a5 cs.length c5, .slice a2 nw cap2, .int .i64 (en : Int), .int .i64 0]) (by simp [results, Tryd.results5, go_sem]) rfl ⟨hk', a5, _, c5, g5, 0, a2, nw, cap2, gb2, off2, rfl, rfl, HNW.out, hB5, b1 _ hk'⟩

set_option maxRecDepth 100000 in
set_option maxHeartbeats 2000000 in
theorem readD2_same (a : Option Addr) (n cap gb : Nat) (a2 : Option Addr) (cap2 gb2 off2 : Nat) (ws : List Nat) (most : Int) (size pk used rw : Nat) (w : World) (h0 : 0 ≤ most) (h1 : most ≤ 131072) (hn : 0 < n) (hnb : n < 2 ^ 48) (hhb : used ≤ 5) (hsm : (size : Int) ≤ most) (hun : used + 1 ≤ n)
    (hc : Calls Tryd.prog 10 #[.slice a n cap] w fun e w' => Keep noBlock w w' ∧ e = .returned (.tuple #[headD 1 size pk used rw, .bool true]))
    (ac : Option Addr) (oc x : Nat) (hsl : ∀ W, (sliceSem 22 (.slice a n cap) (some (.int .i64 (used : Int))) (some (.int .i64 ((used + 1 : Nat) : Int))) none).run Tryd.prog W = .ok (.slice ac 1 (cap - used)) W) (hBc : Bytes w ac (cap - used) gb oc [x]) (hB2 : Bytes w a2 cap2 gb2 off2 ws) :
    Calls Tryd.prog 5 #[.slice a n cap, .slice a2 ws.length cap2, .int .i64 most] w fun e w' => LAns (0, List.replicate size x, ws, used + 1) w e w' := by
  have g0 : ¬ most < 0 := by omega
  have g1 : ¬ 131072 < most := by omega
  have g2 : ((n : Int) == 0) = false := by rw [beq_eq_false_iff_ne]; omega
  have g3 : ¬ most < (size : Int) := by omega
  obtain ⟨D, hD⟩ : ∃ D, D = n - used := ⟨_, rfl⟩
  have eD : (n : Int) - (used : Int) = (D : Int) := by omega
  have g4 : ¬ (D : Int) < 1 := by omega
  obtain ⟨en, hen⟩ : ∃ en, en = used + 1 := ⟨_, rfl⟩
  rw [← hen] at hsl ⊢
  have e1 : (used : Int) + 1 = (en : Int) := by omega
  have enb : (en : Int) ≤ 1048600 := by omega
  have HC := hid hc
  obtain rfl : ac = some ⟨gb, oc, none⟩ := hBc.at_.resolve_right (by simp)
  have hcx := hBc.cells 0 (by simp)
  rw [Nat.add_zero] at hcx
  have hcx' : w.cell? ⟨gb, oc, none⟩ = some (.int .u8 (x : Int)) := hcx
  have HB2 := hid (show (∀ W, Keep noBlock w W → Bytes W a2 cap2 gb2 off2 ws) ∧ x < 256 ∧ w.cell? ⟨gb, oc, none⟩ = some (.int .u8 (x : Int)) from ⟨fun W hW => hB2.keep hW (fun _ h => h), hBc.lt 0, hcx'⟩)
  have hxI : (x : Int) < 256 := by have := hBc.lt 0; simp at this; omega
  unfold headD at HC
  obtain ⟨nw, hnw⟩ : ∃ nw, nw = ws.length := ⟨_, rfl⟩
  rw [← hnw]
  have HNW := hid hnw
  have hsb : size ≤ 131072 := by omega
  clear hc hD hen hBc hB2 hnw hcx hcx'
  go_enter Tryd.func5, Tryd.ntmps5
  go_wp2_with (go_at_call 10; refine HC.out.mono ?_; rintro e w1 ⟨hk1, rfl⟩)
  have o1 := World.alloc_heap_new w1 (.cells #[.int .i64 1, .int .i64 (size : Int), .int .i64 (pk : Int), .int .i64 (used : Int), .int .i64 (rw : Int)] 38)
  have k1 := hk1.alloc (.cells #[.int .i64 1, .int .i64 (size : Int), .int .i64 (pk : Int), .int .i64 (used : Int), .int .i64 (rw : Int)] 38)
  have hsz1 : (w1.alloc (.cells #[.int .i64 1, .int .i64 (size : Int), .int .i64 (pk : Int), .int .i64 (used : Int), .int .i64 (rw : Int)] 38)).heap.size = w1.heap.size + 1 := World.size_alloc _ _
  obtain ⟨xb, hxb⟩ : ∃ xb, xb = w1.heap.size := ⟨_, rfl⟩
  rw [← hxb] at o1 hsz1 ⊢
  generalize w1.alloc (.cells #[.int .i64 1, .int .i64 (size : Int), .int .i64 (pk : Int), .int .i64 (used : Int), .int .i64 (rw : Int)] 38) = W1 at o1 k1 hsz1 ⊢
  have HW := hid (show Keep noBlock w W1 ∧ W1.heap[xb]? = some (.cells #[.int .i64 1, .int .i64 (size : Int), .int .i64 (pk : Int), .int .i64 (used : Int), .int .i64 (rw : Int)] 38 (0, 0)) ∧ W1.heap.size = xb + 1 from ⟨k1, o1, hsz1⟩)
  clear o1 k1 hsz1 hxb hk1
  go_loopw [6, 14] (fun v6 v14 wr => ∃ j m c : Nat, ∃ ad, v14 = .int .i64 (j : Int) ∧ j ≤ size ∧ v6 = .slice ad m c ∧ Hid (Keep noBlock W1 wr ∧ m = j ∧ wr.ownsRow 0 5 1 (.slice ad m c) m (u8s (List.replicate j x)) ∧ (∀ q, (Value.slice ad m c).ownBlock = some q → W1.heap.size ≤ q))) (fun _ v14 _ => size - (intOf v14).toNat)
  case atStart => exact ⟨0, 0, 0, none, rfl, Nat.zero_le _, rfl, Keep.refl _ _, rfl, World.ownsRow_nil _ _ _ _, fun q hq => by simp [Value.ownBlock] at hq⟩
  case round =>
    obtain ⟨j, m, c, ad, rfl, hj, rfl, HJ⟩ := hrel
    obtain ⟨hK, hm, hown, hnew⟩ := HJ.out
    have ob := hK.obj HW.out.2.1 (fun h => h)
    have c1 : wr.cell? ⟨xb, 1, none⟩ = some (.int .i64 (size : Int)) := cell_of ob 1
    by_cases hlt : j < size
    · have hltI : (j : Int) < (size : Int) := by omega
      have cx := keep_cell0 (HW.out.1.trans' hK) HB2.out.2.2
      obtain ⟨v', W5, hrun, ho5, hk5, hnr5⟩ := own_push (W := wr) (v := .slice ad m c) (M := List.replicate j x) (by rw [List.length_replicate]; exact (hm ▸ hown : wr.ownsRow 0 5 1 (.slice ad m c) j (u8s (List.replicate j x)))) x (by rw [List.length_replicate]; omega)
      obtain ⟨ad5, c5, hv5⟩ := owns_form ho5
      subst hv5
      obtain ⟨j1, hj1⟩ : ∃ j1, j1 = j + 1 := ⟨_, rfl⟩
      have hrep : List.replicate j x ++ [x] = List.replicate j1 x := by rw [hj1, List.replicate_succ']
      rw [hrep, List.length_replicate] at hrun ho5 hnr5
      have q13 : (j : Int) + 1 = (j1 : Int) := by omega
      have q14 : (j1 : Int) ≤ 131073 := by omega
      have HE := hid (show j1 = j + 1 ∧ W5.ownsRow 0 5 1 (.slice ad5 j1 c5) j1 (u8s (List.replicate j1 x)) ∧ Keep (fun k => (Value.slice ad m c).ownBlock = some k) wr W5 ∧ ((Value.slice ad5 j1 c5).ownBlock = (Value.slice ad m c).ownBlock ∨ ∃ k, (Value.slice ad5 j1 c5).ownBlock = some k ∧ wr.heap.size ≤ k) from ⟨hj1, ho5, hk5, hnr5⟩)
      have c2 : W5.cell? ⟨xb, 1, none⟩ = some (.int .i64 (size : Int)) := cell_of (hk5.obj ob (fun h => by have := hnew xb h; have := HW.out.2.2; omega)) 1
      clear hK hm hown hnew ob ho5 hk5 hnr5 hrep hj1
      go_wp2_with (at_builtin; refine wpList_append_run _ rfl _ _ 22 rfl _ _ _ _ rfl rfl hrun ?_)
      obtain ⟨hK, hm, hown, hnew⟩ := HJ.out
      obtain ⟨r1, r2, r3, r4⟩ := HE.out
      refine ⟨⟨j1, j1, c5, ad5, rfl, by omega, rfl, hK.trans r3 (fun i hi hq => by have := hnew i hq; omega), rfl, r2, ?_⟩, ?_⟩
      · intro q hq
        rcases r4 with e | ⟨k, e, hk⟩
        · rw [e] at hq; exact hnew q hq
        · rw [e] at hq
          cases hq
          have := hK.size
          omega
      · simp only [intOf, Int.toNat_natCast]
        omega
    · have hltI : ¬ (j : Int) < (size : Int) := by omega
      clear hK hm hown hnew ob
      go_wp2_with fail
      (try simp only [Exit.inBlock, Exit.then])
      obtain ⟨hK, hm, hown, hnew⟩ := HJ.out
      obtain rfl : j = size := by omega
      subst hm
      obtain ⟨b1, b2, b3⟩ := HB2.out
      have hkw := HW.out.1.trans' hK
      obtain ⟨a5, c5, g5, hv5, hB5, -⟩ := owns_bytes (M := List.replicate m x) (by rw [List.length_replicate]; exact hown) (lt256 fun b hb => by rw [List.eq_of_mem_replicate hb]; exact b2) (by rw [List.length_replicate]; omega)
      rw [List.length_replicate] at hv5
      cases hv5
      refine bodyPost_ret (v := .tuple #[.slice ad m c, .slice a2 nw cap2, .int .i64 (en : Int), .int .i64 0]) (by simp [results, Tryd.results5, go_sem]) rfl ⟨hkw, ad, m, c, g5, 0, a2, nw, cap2, gb2, off2, rfl, by simp, HNW.out, hB5, b1 _ hkw⟩
end
end Go.Proofs.YtcoahkmiebeeeaaDoor

namespace Go.Proofs.YtcoahkmiebeeeaaDoor
open Go.RowKit Go.Shelf
set_option linter.unusedVariables false

/-- What comes of rows. -/
def litD (o : Option (List Nat)) (ws : List Nat) (en : Nat) : Nat × List Nat × List Nat × Nat := match o with
  | none => (11, [], [], 0)
  | some l => (0, l, ws, en)

section
attribute [local go_sem] sliceSem_eq
set_option maxRecDepth 100000 in
set_option maxHeartbeats 2000000 in
theorem readD2_ahead (a : Option Addr) (n cap gb : Nat) (a2 : Option Addr) (cap2 gb2 off2 : Nat) (ws : List Nat) (most : Int) (size pk used rw : Nat) (w : World) (h0 : 0 ≤ most) (h1 : most ≤ 131072) (hn : 0 < n) (hnb : n < 2 ^ 48) (hhb : used ≤ 5) (hpk : pk < 1048576) (hsm : (size : Int) ≤ most) (hun : used + pk ≤ n) (hrw : rw = 1 ∨ rw = 4)
    (hc : Calls Tryd.prog 10 #[.slice a n cap] w fun e w' => Keep noBlock w w' ∧ e = .returned (.tuple #[headD 3 size pk used rw, .bool true]))
    (ac : Option Addr) (oc : Nat) (cs : List Nat) (hcl : cs.length = pk) (hsl : ∀ W, (sliceSem 22 (.slice a n cap) (some (.int .i64 (used : Int))) (some (.int .i64 ((used + pk : Nat) : Int))) none).run Tryd.prog W = .ok (.slice ac pk (cap - used)) W) (hBc : Bytes w ac (cap - used) gb oc cs) (hB2 : Bytes w a2 cap2 gb2 off2 ws) :
    Calls Tryd.prog 5 #[.slice a n cap, .slice a2 ws.length cap2, .int .i64 most] w fun e w' => LAns (litD (unpL ws cs size rw) ws (used + pk)) w e w' := by
  have g0 : ¬ most < 0 := by omega
  have g1 : ¬ 131072 < most := by omega
  have g2 : ((n : Int) == 0) = false := by rw [beq_eq_false_iff_ne]; omega
  have g3 : ¬ most < (size : Int) := by omega
  obtain ⟨D, hD⟩ : ∃ D, D = n - used := ⟨_, rfl⟩
  have eD : (n : Int) - (used : Int) = (D : Int) := by omega
  have g4 : ¬ (D : Int) < (pk : Int) := by omega
  obtain ⟨en, hen⟩ : ∃ en, en = used + pk := ⟨_, rfl⟩
  rw [← hen] at hsl ⊢
  have e1 : (used : Int) + (pk : Int) = (en : Int) := by omega
  have enb : (en : Int) ≤ 1048600 := by omega
  have HC := hid hc
  have HBI := hid (show ∀ W, Keep noBlock w W → Calls Tryd.prog 12 #[.slice a2 ws.length cap2] W fun e w' => e = .returned (.int .i64 ((codeM ws : Nat) : Int)) ∧ w' = W from fun W hW => bitsD_any a2 cap2 gb2 off2 ws W (hB2.keep hW (fun _ h => h)))
  have hcall := fun (W : World) (hW : Keep noBlock w W) => rowsD_any a2 cap2 gb2 off2 ws ac (cap - used) gb oc cs size rw W (hB2.keep hW (fun _ h => h)) (hBc.keep hW (fun _ h => h)) (by omega) (by omega) hrw
  have HB2 := hid (fun (W : World) (hW : Keep noBlock w W) => hB2.keep hW (fun _ h => h))
  have hZ := fun l => unpL_ok (ws := ws) (bs := cs) (size := size) (n := rw) (l := l) (by omega) (by omega) (by omega)
  rw [hcl] at hcall
  unfold headD at HC
  obtain ⟨nw, hnw⟩ : ∃ nw, nw = ws.length := ⟨_, rfl⟩
  rw [← hnw] at HBI hcall ⊢
  have HNW := hid hnw
  have hm0 : ∀ h : codeM ws = 0, unpL ws cs size rw = none := fun h => unpL_nocode (codeM_zero.1 h)
  obtain ⟨cm, hcm⟩ : ∃ cm, cm = codeM ws := ⟨_, rfl⟩
  rw [← hcm] at HBI hm0
  clear hc hD hen hBc hB2 hcl hnw hcm
  by_cases h00 : cm = 0
  · subst h00
    rw [hm0 rfl]
    clear hm0 hcall hZ
    rw [show ((0 : Nat) : Int) = (0 : Int) from rfl] at HBI
    go_enter Tryd.func5, Tryd.ntmps5
    go_wp2_with (first | (go_at_call 10; refine HC.out.mono ?_; rintro e w1 ⟨hk1, rfl⟩; have HK1 := hid hk1; clear hk1) | (go_at_call 12; refine (HBI.out _ (HK1.out.alloc _)).mono ?_; rintro e w2 ⟨rfl, hw2⟩; subst hw2))
    (try simp only [Exit.inBlock, Exit.then])
    refine bodyPost_ret (v := .tuple #[.slice none 0 0, .slice none 0 0, .int .i64 0, .int .i64 11]) (by simp [results, Tryd.results5, go_sem]) rfl (lans_none (HK1.out.alloc _))
  · have q0 : ((cm : Int) == 0) = false := by rw [beq_eq_false_iff_ne]; omega
    clear hm0
    cases hu : unpL ws cs size rw with
    | none =>
      have HT := hid (show ∀ W, Keep noBlock w W → Calls Tryd.prog 13 #[.slice a2 nw cap2, .slice ac pk (cap - used), .int .i64 (size : Int), .int .i64 (rw : Int)] W fun e w' => Keep noBlock W w' ∧ ∃ v, e = .returned (.tuple #[v, .bool false]) from fun W hW => (hcall W hW).mono fun e w' h => by rw [hu] at h; exact h)
      clear hcall hZ hu
      go_enter Tryd.func5, Tryd.ntmps5
      go_wp2_with (first | (go_at_call 10; refine HC.out.mono ?_; rintro e w1 ⟨hk1, rfl⟩; have HK1 := hid hk1; clear hk1) | (go_at_call 12; refine (HBI.out _ (HK1.out.alloc _)).mono ?_; rintro e w2 ⟨rfl, hw2⟩; subst hw2) | (go_at_call 13; refine (HT.out _ (HK1.out.alloc _)).mono ?_; rintro e w3 ⟨hk3, v, rfl⟩; have HK3 := hid ((HK1.out.alloc _).trans' hk3); clear hk3))
      (try simp only [Exit.inBlock, Exit.then])
      refine bodyPost_ret (v := .tuple #[.slice none 0 0, .slice none 0 0, .int .i64 0, .int .i64 11]) (by simp [results, Tryd.results5, go_sem]) rfl (lans_none HK3.out)
    | some l =>
      have hz := hZ l hu
      have HT := hid (show ∀ W, Keep noBlock w W → Calls Tryd.prog 13 #[.slice a2 nw cap2, .slice ac pk (cap - used), .int .i64 (size : Int), .int .i64 (rw : Int)] W fun e w' => Keep noBlock W w' ∧ ∃ a5 n5 c5 g5, e = .returned (.tuple #[.slice a5 n5 c5, .bool true]) ∧ n5 = l.length ∧ Bytes w' a5 c5 g5 0 l from fun W hW => (hcall W hW).mono fun e w' h => by
        rw [hu] at h
        obtain ⟨hk, a5, n5, c5, he, hn5, ho⟩ := h
        subst hn5
        obtain ⟨a6, c6, g6, hv, hB6, -⟩ := owns_bytes (M := l) ho hz.2 (by omega)
        cases hv
        exact ⟨hk, a5, _, c5, g6, he, rfl, hB6⟩)
      clear hcall hZ hu hz
      go_enter Tryd.func5, Tryd.ntmps5
      go_wp2_with (first | (go_at_call 10; refine HC.out.mono ?_; rintro e w1 ⟨hk1, rfl⟩; have HK1 := hid hk1; clear hk1) | (go_at_call 12; refine (HBI.out _ (HK1.out.alloc _)).mono ?_; rintro e w2 ⟨rfl, hw2⟩; subst hw2) | (go_at_call 13; refine (HT.out _ (HK1.out.alloc _)).mono ?_; rintro e w3 ⟨hk3, a5, n5, c5, g5, rfl, hn5, hB5⟩; have HK3 := hid (show Keep noBlock w w3 ∧ n5 = l.length ∧ Bytes w3 a5 c5 g5 0 l from ⟨(HK1.out.alloc _).trans' hk3, hn5, hB5⟩); clear hk3 hn5 hB5))
      (try simp only [Exit.inBlock, Exit.then])
      refine bodyPost_ret (v := .tuple #[.slice a5 n5 c5, .slice a2 nw cap2, .int .i64 (en : Int), .int .i64 0]) (by simp [results, Tryd.results5, go_sem]) rfl ⟨HK3.out.1, a5, n5, c5, g5, 0, a2, nw, cap2, gb2, off2, rfl, HK3.out.2.1, HNW.out, HK3.out.2.2, HB2.out _ HK3.out.1⟩

set_option maxRecDepth 100000 in
set_option maxHeartbeats 2000000 in
theorem readD2_anew (a : Option Addr) (n cap gb : Nat) (a2 : Option Addr) (n2 cap2 : Nat) (most : Int) (size pk used rw : Nat) (w : World) (h0 : 0 ≤ most) (h1 : most ≤ 131072) (hn : 0 < n) (hnb : n < 2 ^ 48) (hhb : used ≤ 5) (hpk : pk < 1048576) (hsm : (size : Int) ≤ most) (hun : used + pk ≤ n) (hrw : rw = 1 ∨ rw = 4)
    (hc : Calls Tryd.prog 10 #[.slice a n cap] w fun e w' => Keep noBlock w w' ∧ e = .returned (.tuple #[headD 2 size pk used rw, .bool true]))
    (ac : Option Addr) (oc : Nat) (cs : List Nat) (hcl : cs.length = pk) (hsl : ∀ W, (sliceSem 22 (.slice a n cap) (some (.int .i64 (used : Int))) (some (.int .i64 ((used + pk : Nat) : Int))) none).run Tryd.prog W = .ok (.slice ac pk (cap - used)) W) (hBc : Bytes w ac (cap - used) gb oc cs)
    (c u : Nat) (V : List Nat) (hR : ∀ (a : Option Addr) (cap gb off : Nat) (w : World), Bytes w a cap gb off cs → Calls Tryd.prog 11 #[.slice a cs.length cap] w fun e w' => RAns c u V w e w') (hcv : c = 0 → u ≤ cs.length ∧ V.length ≤ 256 ∧ ∀ j : Nat, V[j]?.getD 0 < 256) :
    Calls Tryd.prog 5 #[.slice a n cap, .slice a2 n2 cap2, .int .i64 most] w fun e w' => LAns (litD (if c = 0 then unpL V (cs.drop u) size rw else none) V (used + pk)) w e w' := by
  have g0 : ¬ most < 0 := by omega
  have g1 : ¬ 131072 < most := by omega
  have g2 : ((n : Int) == 0) = false := by rw [beq_eq_false_iff_ne]; omega
  have g3 : ¬ most < (size : Int) := by omega
  obtain ⟨D, hD⟩ : ∃ D, D = n - used := ⟨_, rfl⟩
  have eD : (n : Int) - (used : Int) = (D : Int) := by omega
  have g4 : ¬ (D : Int) < (pk : Int) := by omega
  obtain ⟨en, hen⟩ : ∃ en, en = used + pk := ⟨_, rfl⟩
  rw [← hen] at hsl ⊢
  have e1 : (used : Int) + (pk : Int) = (en : Int) := by omega
  have enb : (en : Int) ≤ 1048600 := by omega
  have HC := hid hc
  have hRc := fun (W : World) (hW : Keep noBlock w W) => hR ac (cap - used) gb oc W (hBc.keep hW (fun _ h => h))
  rw [hcl] at hRc
  unfold headD at HC
  by_cases hc0 : c = 0
  · subst hc0
    rw [if_pos rfl]
    obtain ⟨hu, hV1, hV2⟩ := hcv rfl
    obtain ⟨Lv, hLv⟩ : ∃ Lv, Lv = V.length := ⟨_, rfl⟩
    obtain ⟨Ld, hLd⟩ : ∃ Ld, Ld = (cs.drop u).length := ⟨_, rfl⟩
    obtain ⟨ad, od, hd, hBd, -⟩ := hBc.drop u hu
    rw [hcl, ← hLd] at hd
    have HRc := hid (show ∀ W, Keep noBlock w W → Calls Tryd.prog 11 #[.slice ac pk (cap - used)] W fun e w' => Keep noBlock W w' ∧ ∃ a5 c5 g5, e = .returned (.tuple #[.slice a5 Lv c5, .int .i64 (u : Int), .int .i64 0]) ∧ Bytes w' a5 c5 g5 0 V from fun W hW => (hRc W hW).mono fun e w' h => by
      obtain ⟨hk, a5, n5, c5, he, hn5, ho⟩ := h
      subst hn5
      obtain ⟨a6, c6, g6, hv, hB6, -⟩ := owns_bytes (M := V) ho hV2 (by omega)
      cases hv
      rw [hLv]
      exact ⟨hk, a5, c5, g6, he, hB6⟩)
    have HBI := hid (show ∀ W a5 c5 g5, Bytes W a5 c5 g5 0 V → Calls Tryd.prog 12 #[.slice a5 Lv c5] W fun e w' => e = .returned (.int .i64 ((codeM V : Nat) : Int)) ∧ w' = W from fun W a5 c5 g5 hB => by rw [hLv]; exact bitsD_any a5 c5 g5 0 V W hB)
    have hcall := fun (W : World) (hW : Keep noBlock w W) a5 c5 g5 (hB : Bytes W a5 c5 g5 0 V) => rowsD_any a5 c5 g5 0 V ad (cap - used - u) gb od (cs.drop u) size rw W hB (hBd.keep hW (fun _ h => h)) (by omega) (by rw [List.length_drop]; omega) hrw
    have hZ := fun l => unpL_ok (ws := V) (bs := cs.drop u) (size := size) (n := rw) (l := l) (by omega) (by omega) (by omega)
    rw [← hLv, ← hLd] at hcall
    have hm0 : ∀ h : codeM V = 0, unpL V (cs.drop u) size rw = none := fun h => unpL_nocode (codeM_zero.1 h)
    obtain ⟨cm, hcm⟩ : ∃ cm, cm = codeM V := ⟨_, rfl⟩
    rw [← hcm] at HBI hm0
    have HLV := hid hLv
    have huI : (0 : Int) ≤ (u : Int) := by omega
    have huI2 : (u : Int) ≤ (pk : Int) := by omega
    clear hc hD hen hBc hcl hcm hRc hR hcv hu hV1 hV2 hLv hLd hBd
    by_cases h00 : cm = 0
    · subst h00
      rw [hm0 rfl]
      clear hm0 hcall hZ
      rw [show ((0 : Nat) : Int) = (0 : Int) from rfl] at HBI
      go_enter Tryd.func5, Tryd.ntmps5
      go_wp2_with (first | (go_at_call 10; refine HC.out.mono ?_; rintro e w1 ⟨hk1, rfl⟩; have HK1 := hid hk1; clear hk1) | (go_at_call 11; refine (HRc.out _ (HK1.out.alloc _)).mono ?_; rintro e w2 ⟨hk2, a5, c5, g5, rfl, hB5⟩; have HK2 := hid (show Keep noBlock w w2 ∧ Bytes w2 a5 c5 g5 0 V from ⟨(HK1.out.alloc _).trans' hk2, hB5⟩); clear hk2 hB5) | (go_at_call 12; refine (HBI.out _ _ _ _ HK2.out.2).mono ?_; rintro e w3 ⟨rfl, hw3⟩; subst hw3))
      (try simp only [Exit.inBlock, Exit.then])
      refine bodyPost_ret (v := .tuple #[.slice none 0 0, .slice none 0 0, .int .i64 0, .int .i64 11]) (by simp [results, Tryd.results5, go_sem]) rfl (lans_none HK2.out.1)
    · have q0 : ((cm : Int) == 0) = false := by rw [beq_eq_false_iff_ne]; omega
      clear hm0
      have hob : ∀ (w1 w2 : World), Keep noBlock (w1.alloc (.cells #[.int .i64 2, .int .i64 (size : Int), .int .i64 (pk : Int), .int .i64 (used : Int), .int .i64 (rw : Int)] 38)) w2 → w2.cell? ⟨w1.heap.size, 1, none⟩ = some (.int .i64 (size : Int)) ∧ w2.cell? ⟨w1.heap.size, 4, none⟩ = some (.int .i64 (rw : Int)) := fun w1 w2 hk => by
        have o := hk.obj (World.alloc_heap_new w1 _) (fun h => h)
        exact ⟨cell_of o 1, cell_of o 4⟩
      have HOB := hid hob
      cases hu : unpL V (cs.drop u) size rw with
      | none =>
        have HT := hid (show ∀ W, Keep noBlock w W → ∀ a5 c5 g5, Bytes W a5 c5 g5 0 V → Calls Tryd.prog 13 #[.slice a5 Lv c5, .slice ad Ld (cap - used - u), .int .i64 (size : Int), .int .i64 (rw : Int)] W fun e w' => Keep noBlock W w' ∧ ∃ v, e = .returned (.tuple #[v, .bool false]) from fun W hW a5 c5 g5 hB => (hcall W hW a5 c5 g5 hB).mono fun e w' h => by rw [hu] at h; exact h)
        clear hcall hZ hu hob
        go_enter Tryd.func5, Tryd.ntmps5
        go_wp2_with (first | (go_at_call 10; refine HC.out.mono ?_; rintro e w1 ⟨hk1, rfl⟩; have HK1 := hid hk1; clear hk1) | (go_at_call 11; refine (HRc.out _ (HK1.out.alloc _)).mono ?_; rintro e w2 ⟨hk2, a5, c5, g5, rfl, hB5⟩; obtain ⟨d1, d4⟩ := HOB.out w1 w2 hk2; have HK2 := hid (show Keep noBlock w w2 ∧ Bytes w2 a5 c5 g5 0 V from ⟨(HK1.out.alloc _).trans' hk2, hB5⟩); clear hk2 hB5) | (go_at_call 12; refine (HBI.out _ _ _ _ HK2.out.2).mono ?_; rintro e w3 ⟨rfl, hw3⟩; subst hw3) | (go_at_call 13; refine (HT.out _ HK2.out.1 _ _ _ HK2.out.2).mono ?_; rintro e w4 ⟨hk4, v, rfl⟩; have HK4 := hid (HK2.out.1.trans' hk4); clear hk4))
        (try simp only [Exit.inBlock, Exit.then])
        refine bodyPost_ret (v := .tuple #[.slice none 0 0, .slice none 0 0, .int .i64 0, .int .i64 11]) (by simp [results, Tryd.results5, go_sem]) rfl (lans_none HK4.out)
      | some l =>
        have hz := hZ l hu
        have HT := hid (show ∀ W, Keep noBlock w W → ∀ a5 c5 g5, Bytes W a5 c5 g5 0 V → Calls Tryd.prog 13 #[.slice a5 Lv c5, .slice ad Ld (cap - used - u), .int .i64 (size : Int), .int .i64 (rw : Int)] W fun e w' => Keep noBlock W w' ∧ ∃ a6 n6 c6 g6, e = .returned (.tuple #[.slice a6 n6 c6, .bool true]) ∧ n6 = l.length ∧ Bytes w' a6 c6 g6 0 l from fun W hW a5 c5 g5 hB => (hcall W hW a5 c5 g5 hB).mono fun e w' h => by
          rw [hu] at h
          obtain ⟨hk, a6, n6, c6, he, hn6, ho⟩ := h
          subst hn6
          obtain ⟨a7, c7, g7, hv, hB7, -⟩ := owns_bytes (M := l) ho hz.2 (by omega)
          cases hv
          exact ⟨hk, a6, _, c6, g7, he, rfl, hB7⟩)
        clear hcall hZ hu hz hob
        go_enter Tryd.func5, Tryd.ntmps5
        go_wp2_with (first | (go_at_call 10; refine HC.out.mono ?_; rintro e w1 ⟨hk1, rfl⟩; have HK1 := hid hk1; clear hk1) | (go_at_call 11; refine (HRc.out _ (HK1.out.alloc _)).mono ?_; rintro e w2 ⟨hk2, a5, c5, g5, rfl, hB5⟩; obtain ⟨d1, d4⟩ := HOB.out w1 w2 hk2; have HK2 := hid (show Keep noBlock w w2 ∧ Bytes w2 a5 c5 g5 0 V from ⟨(HK1.out.alloc _).trans' hk2, hB5⟩); clear hk2 hB5) | (go_at_call 12; refine (HBI.out _ _ _ _ HK2.out.2).mono ?_; rintro e w3 ⟨rfl, hw3⟩; subst hw3) | (go_at_call 13; refine (HT.out _ HK2.out.1 _ _ _ HK2.out.2).mono ?_; rintro e w4 ⟨hk4, a6, n6, c6, g6, rfl, hn6, hB6⟩; have HK4 := hid (show Keep noBlock w w4 ∧ n6 = l.length ∧ Bytes w4 a6 c6 g6 0 l ∧ Bytes w4 a5 c5 g5 0 V from ⟨HK2.out.1.trans' hk4, hn6, hB6, HK2.out.2.keep hk4 (fun _ h => h)⟩); clear hk4 hn6 hB6))
        (try simp only [Exit.inBlock, Exit.then])
        refine bodyPost_ret (v := .tuple #[.slice a6 n6 c6, .slice a5 Lv c5, .int .i64 (en : Int), .int .i64 0]) (by simp [results, Tryd.results5, go_sem]) rfl ⟨HK4.out.1, a6, n6, c6, g6, 0, a5, Lv, c5, g5, 0, rfl, HK4.out.2.1, HLV.out, HK4.out.2.2.1, HK4.out.2.2.2⟩
  · rw [if_neg hc0]
    have hcb : ((c : Int) != 0) = true := by simp; omega
    have HRc := hid (show ∀ W, Keep noBlock w W → Calls Tryd.prog 11 #[.slice ac pk (cap - used)] W fun e w' => Keep noBlock W w' ∧ ∃ a5 n5 c5, e = .returned (.tuple #[.slice a5 n5 c5, .int .i64 (u : Int), .int .i64 (c : Int)]) from fun W hW => (hRc W hW).mono fun e w' h => by
      obtain ⟨hk, a5, n5, c5, he, -, -⟩ := h
      exact ⟨hk, a5, n5, c5, he⟩)
    clear hc hD hen hBc hcl hRc hR hcv hc0
    go_enter Tryd.func5, Tryd.ntmps5
    go_wp2_with (first | (go_at_call 10; refine HC.out.mono ?_; rintro e w1 ⟨hk1, rfl⟩; have HK1 := hid hk1; clear hk1) | (go_at_call 11; refine (HRc.out _ (HK1.out.alloc _)).mono ?_; rintro e w2 ⟨hk2, a5, n5, c5, rfl⟩; have HK2 := hid ((HK1.out.alloc _).trans' hk2); clear hk2))
    (try simp only [Exit.inBlock, Exit.then])
    refine bodyPost_ret (v := .tuple #[.slice none 0 0, .slice none 0 0, .int .i64 0, .int .i64 11]) (by simp [results, Tryd.results5, go_sem]) rfl (lans_none HK2.out)
end
end Go.Proofs.YtcoahkmiebeeeaaDoor

namespace Go.Proofs.YtcoahkmiebeeeaaDoor
open Go.RowKit Go.Shelf
set_option linter.unusedVariables false

theorem readD2_any (a : Option Addr) (cap gb off : Nat) (bs : List Nat) (a2 : Option Addr) (cap2 gb2 off2 : Nat) (ws : List Nat) (most : Int) (c u : Nat) (V : List Nat) (w : World) (hB : Bytes w a cap gb off bs) (hB2 : Bytes w a2 cap2 gb2 off2 ws)
    (hR : ∀ (a : Option Addr) (cap gb off : Nat) (w : World), Bytes w a cap gb off (bodyN bs) → Calls Tryd.prog 11 #[.slice a (bodyN bs).length cap] w fun e w' => RAns c u V w e w') (hc : c = 0 → u ≤ (bodyN bs).length ∧ V.length ≤ 256 ∧ ∀ j : Nat, V[j]?.getD 0 < 256) :
    Calls Tryd.prog 5 #[.slice a bs.length cap, .slice a2 ws.length cap2, .int .i64 most] w fun e w' => LAns (litR c u V bs ws most) w e w' := by
  unfold litR
  by_cases hm : most < 0 ∨ 131072 < most
  · rw [if_pos hm]
    exact readD2_arg a bs.length cap a2 ws.length cap2 most w hm
  · rw [if_neg hm]
    by_cases hs : bs = [] ∨ bs.length < hBy bs
    · rw [if_pos hs]
      by_cases he : bs = []
      · subst he
        exact readD2_nil a cap a2 ws.length cap2 most w (by omega) (by omega)
      · have hs' := hs.resolve_left he
        refine readD2_short a bs.length cap a2 ws.length cap2 most w (by omega) (by omega) (List.length_pos_iff.2 he) hB.len ((headD_any a cap gb off bs w hB he).mono ?_)
        rintro e w' ⟨hk, ⟨_, h⟩ | ⟨h, _⟩⟩
        · exact ⟨hk, h⟩
        · omega
    · rw [if_neg hs]
      have hne : bs ≠ [] := fun h => hs (.inl h)
      have hbl : hBy bs ≤ bs.length := Nat.le_of_not_lt fun h => hs (.inr h)
      have hl0 : 0 < bs.length := List.length_pos_iff.2 hne
      have hbe : behN (hKi bs) (hSz bs) (hPk bs) = hBe bs := rfl
      have hcall : Calls Tryd.prog 10 #[.slice a bs.length cap] w fun e w' => Keep noBlock w w' ∧ e = .returned (.tuple #[headD (hKi bs) (hSz bs) (hPk bs) (hBy bs) (hRw bs), .bool true]) := (headD_any a cap gb off bs w hB hne).mono (by
        rintro e w' ⟨hk, ⟨h, _⟩ | ⟨_, h⟩⟩
        · omega
        · exact ⟨hk, h⟩)
      have hh5 := (hbN_le (hKi bs) (hFo bs)).2
      by_cases hb : most < (hSz bs : Int) ∨ bs.length < hBy bs + hBe bs
      · exact readD2_early a bs.length cap a2 ws.length cap2 most (hKi bs) (hSz bs) (hPk bs) (hBy bs) (hRw bs) w (by omega) (by omega) hl0 hB.len hh5 (hSz_lt bs) (hPk_lt bs) hbl hcall _ (fun h => by rw [if_pos h]) (fun h1 h2 => by rw [hbe] at h2; rw [if_neg h1, if_pos h2]) hb
      · have h1 : ¬ most < (hSz bs : Int) := fun h => hb (.inl h)
        have h2 : ¬ bs.length < hBy bs + hBe bs := fun h => hb (.inr h)
        rw [if_neg h1, if_neg h2]
        obtain ⟨a', off', hsl, hBb⟩ := hB.cut2 (hBy bs) (hBy bs + hBe bs) (by omega) (by omega)
        have hbl2 := bodyN_length h2
        rw [show hBy bs + hBe bs - hBy bs = hBe bs from by omega] at hsl
        have hBW : Bytes w a' (cap - hBy bs) gb off' (bodyN bs) := hBb
        have hbeb := hBe_lt bs
        have hk4 := hKi_lt bs
        unfold tellL
        by_cases k0 : hKi bs = 0
        · rw [if_pos k0]
          have hbes : hBe bs = hSz bs := by unfold hBe; rw [if_pos k0]
          rw [hbes] at hsl hbl2 h2 ⊢
          rw [k0] at hcall
          exact readD2_raw a bs.length cap gb a2 cap2 gb2 off2 ws most (hSz bs) (hPk bs) (hBy bs) (hRw bs) w (by omega) (by omega) hl0 hB.len hh5 (by omega) (by omega) hcall a' off' (bodyN bs) hbl2 hsl hBW hB2
        · rw [if_neg k0]
          by_cases k1 : hKi bs = 1
          · rw [if_pos k1]
            have hb1 : hBe bs = 1 := by unfold hBe; rw [if_neg k0, if_pos k1]
            rw [hb1] at hsl hbl2 h2 ⊢
            rw [k1] at hcall
            obtain ⟨x, hx⟩ := List.length_eq_one_iff.1 hbl2
            rw [hx] at hBW ⊢
            exact readD2_same a bs.length cap gb a2 cap2 gb2 off2 ws most (hSz bs) (hPk bs) (hBy bs) (hRw bs) w (by omega) (by omega) hl0 hB.len hh5 (by omega) (by omega) hcall a' off' x hsl hBW hB2
          · rw [if_neg k1]
            have hbp : hBe bs = hPk bs := by unfold hBe; rw [if_neg k0, if_neg k1]
            have hrw : hRw bs = 1 ∨ hRw bs = 4 := by
              unfold hRw
              rcases rwN_is (hKi bs) (hFo bs) with q | q | q
              · omega
              · exact .inl q.2.2
              · exact .inr q.2.2
            rw [hbp] at hsl hbl2 h2 ⊢
            have hpk := hPk_lt bs
            by_cases k3 : hKi bs = 3
            · rw [if_pos k3]
              rw [k3] at hcall
              have := readD2_ahead a bs.length cap gb a2 cap2 gb2 off2 ws most (hSz bs) (hPk bs) (hBy bs) (hRw bs) w (by omega) (by omega) hl0 hB.len hh5 hpk (by omega) (by omega) hrw hcall a' off' (bodyN bs) hbl2 hsl hBW hB2
              refine this.mono fun e w' h => ?_
              cases hu : unpL ws (bodyN bs) (hSz bs) (hRw bs) with
              | none => rw [hu] at h; exact h
              | some l => rw [hu] at h; exact h
            · rw [if_neg k3]
              have k2 : hKi bs = 2 := by omega
              rw [k2] at hcall
              have := readD2_anew a bs.length cap gb a2 ws.length cap2 most (hSz bs) (hPk bs) (hBy bs) (hRw bs) w (by omega) (by omega) hl0 hB.len hh5 hpk (by omega) (by omega) hrw hcall a' off' (bodyN bs) hbl2 hsl hBW c u V hR hc
              refine this.mono fun e w' h => ?_
              by_cases hc0 : c = 0
              · rw [if_pos hc0] at h ⊢
                cases hu : unpL V ((bodyN bs).drop u) (hSz bs) (hRw bs) with
                | none => rw [hu] at h; exact h
                | some l => rw [hu] at h; exact h
              · rw [if_neg hc0] at h ⊢
                exact h
end Go.Proofs.YtcoahkmiebeeeaaDoor
