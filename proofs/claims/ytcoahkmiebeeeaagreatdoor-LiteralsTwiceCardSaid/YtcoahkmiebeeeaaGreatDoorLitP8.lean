/-
  Unpack; what Pack and Unpack answer where they refuse.
  What is packed and unpacked, as lists: no program is named here.
  Read: how many bytes a description has, weights of four bits, the last weight.
  Read: the last weight, and what Read makes of weights that are told.
  Read, by what the description tells.
  What the statements' own example comes to: true.
  What Pack and Unpack answer, whatever they are handed.
-/
import Derived.Test.YtcoahkmiebeeeaaGreatDoorLitP5
import Derived.Test.YtcoahkmiebeeeaaGreatDoorLitP7
namespace Go.Proofs.YtcoahkmiebeeeaaGreatDoor
open Go.RowKit Go.Shelf
set_option linter.unusedVariables false

theorem made_is {ws : List Nat} {m : Nat} (hc : IsCode ws m) {a : Option Addr} {cap gb off : Nat} {W : World} (hB : Bytes W a cap gb off ws) : Calls Tryz.prog 40 #[.slice a ws.length cap] W fun e w' => e = .returned (.tuple #[.int .i64 (m : Int), .bool true]) ∧ w' = W := by
  refine (makeCode_any a cap gb off ws W hB).mono ?_
  rintro e w' ⟨l, rfl, h, rfl⟩
  rw [hc.codeB.1] at h ⊢
  rw [h rfl, hc.codeM]
  exact ⟨rfl, rfl⟩
theorem made_not {ws : List Nat} (hc : codeB ws = false) {a : Option Addr} {cap gb off : Nat} {W : World} (hB : Bytes W a cap gb off ws) : Calls Tryz.prog 40 #[.slice a ws.length cap] W fun e w' => ∃ l, e = .returned (.tuple #[.int .i64 l, .bool false]) ∧ w' = W := by
  refine (makeCode_any a cap gb off ws W hB).mono ?_
  rintro e w' ⟨l, rfl, h, rfl⟩
  rw [hc]
  exact ⟨l, rfl, rfl⟩

theorem newB_bad (a : Option Addr) (cap gb off : Nat) (bs : List Nat) (w : World) (hB : Bytes w a cap gb off bs) (hl : bs.length ≤ 140737488351232) (h0 : bs[bs.length - 1]?.getD 0 = 0) :
    Calls Tryz.prog 50 #[.slice a bs.length cap] w fun e w' => e = .returned (.tuple #[.pointer none, .int .i64 11]) ∧ w' = w := by
  cases hn : bs.length with
  | zero => exact Tl.new_none a cap w
  | succ k =>
    obtain rfl := hB.here (i := k) (by omega)
    refine Tl.new_zero gb off cap k w (by omega) ?_
    rw [hB.cells k (by omega)]
    rw [hn, Nat.add_sub_cancel] at h0
    rw [h0]; rfl
theorem newB_good (a : Option Addr) (cap gb off : Nat) (bs : List Nat) (w : World) (hB : Bytes w a cap gb off bs) (hl : bs.length ≤ 140737488351232) (h0 : bs[bs.length - 1]?.getD 0 ≠ 0) :
    Calls Tryz.prog 50 #[.slice a bs.length cap] w fun e w' => ∃ rb g, e = .returned (.tuple #[.pointer (some ⟨rb, 0, none⟩), .int .i64 0]) ∧ w.heap.size ≤ rb ∧ w.heap.size ≤ g ∧ At w' rb g bs 0 ∧ Keep noBlock w w' := by
  cases hn : bs.length with
  | zero => rw [List.length_eq_zero_iff.1 hn] at h0; simp at h0
  | succ k =>
    obtain rfl := hB.here (i := k) (by omega)
    rw [hn, Nat.add_sub_cancel] at h0
    refine (Tl.new_mark gb off cap k _ bs hn (by omega) hB.lt w rfl h0 hB.cells).mono ?_
    rintro e w' ⟨rb, g, rfl, h1, h2, h3, h4⟩
    exact ⟨rb, g, rfl, h1, h2, ⟨by simpa using h3, by decide⟩, h4⟩

def unpOk (ws : List Nat) (m : Nat) (bs : List Nat) (n : Nat) : Bool := decide (bs[bs.length - 1]?.getD 0 ≠ 0 ∧ posU ws m bs n = Tl.tailLen bs)
def UnpPost (ws : List Nat) (m : Nat) (bs : List Nat) (n : Nat) (w : World) (e : Ending) (w' : World) : Prop :=
  Keep noBlock w w' ∧ ((unpOk ws m bs n = true ∧ ∃ v, e = .returned (.tuple #[v, .int .i64 0]) ∧ w'.ownsRow 0 5 1 v n (u8s ((List.range n).map (symU ws m bs)))) ∨ (unpOk ws m bs n = false ∧ e = .returned (.tuple #[.slice none 0 0, .int .i64 11])))

set_option maxRecDepth 100000 in
set_option maxHeartbeats 4000000 in
theorem unpack_any (a : Option Addr) (cap gb off : Nat) (ws : List Nat) (m : Nat) (a2 : Option Addr) (cap2 gb2 off2 : Nat) (bs : List Nat) (n : Nat) (w : World) (hB : Bytes w a cap gb off ws) (hB2 : Bytes w a2 cap2 gb2 off2 bs) (hc : IsCode ws m) (hl : bs.length ≤ 140737488351232) (hn : n ≤ 131072) :
    Calls Tryz.prog 34 #[.slice a ws.length cap, .slice a2 bs.length cap2, .int .i64 (n : Int)] w fun e w' => UnpPost ws m bs n w e w' := by
  have HM := (show Hid (Calls Tryz.prog 40 _ w _) from made_is hc hB)
  have hm11 := hc.m11
  have hn1 : ¬ (n : Int) < 0 := by omega
  have hn2 : ¬ (131072 : Int) < (n : Int) := by omega
  by_cases h0 : bs[bs.length - 1]?.getD 0 = 0
  · have HN := (show Hid (Calls Tryz.prog 50 _ w _) from newB_bad a2 cap2 gb2 off2 bs w hB2 hl h0)
    have HB := (show Hid (unpOk ws m bs n = false) from decide_eq_false (fun h => h.1 h0))
    generalize bs.length = n2 at *
    generalize ws.length = n1 at *
    clear hB hB2 hc hl
    go_enter Tryz.func34, Tryz.ntmps34
    go_wp2_with (first | (go_at_call 40; refine HM.out.mono ?_; rintro e w' ⟨rfl, rfl⟩) | (go_at_call 50; refine HN.out.mono ?_; rintro e w' ⟨rfl, rfl⟩))
    go_ret2
    exact ⟨Keep.refl _ _, .inr ⟨HB.out, rfl⟩⟩
  · have HN := (show Hid (Calls Tryz.prog 50 _ w _) from newB_good a2 cap2 gb2 off2 bs w hB2 hl h0)
    have HH := (show Hid (Bytes w a cap gb off ws ∧ IsCode ws m ∧ bs[bs.length - 1]?.getD 0 ≠ 0 ∧ n ≤ 131072) from ⟨hB, hc, h0, hn⟩)
    have hgw : ws ≠ [] → gb < w.heap.size := fun h => hB.block h
    have hwne : ws ≠ [] := by have := hc.len2; intro e; rw [e] at this; simp at this
    have HG := (show Hid (gb < w.heap.size) from hgw hwne)
    have hTl := Tl.tailLen_le bs hB2.lt
    have hpl := posU_le ws m bs n
    have hpl2 : n * (m + 1) ≤ 131072 * 12 := Nat.mul_le_mul hn (by omega)
    have HT := (show Hid (Tl.tailLen bs < 1125899906842624 ∧ posU ws m bs n ≤ 1572864) from ⟨by omega, Nat.le_trans hpl (Nat.le_trans hpl2 (by decide))⟩)
    obtain ⟨n1, hn1'⟩ : ∃ n1, n1 = ws.length := ⟨_, rfl⟩
    obtain ⟨n2, hn2'⟩ : ∃ n2, n2 = bs.length := ⟨_, rfl⟩
    have HL := (show Hid (n1 = ws.length) from hn1')
    rw [← hn1'] at HM ⊢
    rw [← hn2'] at HN ⊢
    clear hB hB2 hc hl h0 hgw hwne hTl hpl hpl2 hn1' hn2' hn
    go_enter Tryz.func34, Tryz.ntmps34
    go_wp2_with (first | (go_at_call 40; refine HM.out.mono ?_; rintro e w' ⟨rfl, rfl⟩))
    refine HN.out.mono ?_
    rintro e w1 ⟨rb, g, rfl, h1, h2, hA, hK1⟩
    have HR := (show Hid (Calls Tryz.prog 51 _ w1 _) from readWords_any rb g bs a cap gb off ws m n w1 hA (HH.out.1.keep hK1 (fun _ h => h)) HH.out.2.1 HH.out.2.2.2 (by have := HG.out; omega))
    rw [← HL.out] at HR
    clear hA
    go_wp2_with fail
    refine HR.out.mono ?_
    rintro e w2 ⟨v, rfl, hown, hA2, hK2, hnew⟩
    obtain ⟨sa, scap, rfl⟩ := owns_form hown
    have HLf := (show Hid (Calls Tryz.prog 52 _ w2 _) from hA2.left)
    have HE := (show Hid (w2.ownsRow 0 5 1 (.slice sa n scap) n (u8s ((List.range n).map (symU ws m bs))) ∧ Keep noBlock w' w2) from ⟨hown, hK1.trans hK2 (fun i hi e => by omega)⟩)
    clear HR hown hA2 hK1 hK2 hnew
    go_wp2_with fail
    refine HLf.out.mono ?_
    rintro e w3 ⟨rfl, q, rfl⟩
    have hT := HT.out
    have HD := (show Hid (unpOk ws m bs n = decide (posU ws m bs n = Tl.tailLen bs)) from by
      unfold unpOk
      rw [Bool.eq_iff_iff, decide_eq_true_iff, decide_eq_true_iff]
      exact ⟨fun h => h.2, fun h => ⟨HH.out.2.2.1, h⟩⟩)
    clear HLf
    generalize posU ws m bs n = p at *
    generalize Tl.tailLen bs = T at *
    obtain ⟨z, hz⟩ : ∃ z : Int, z = (T : Int) - ((p + m : Nat) : Int) + (m : Int) := ⟨_, rfl⟩
    have hz2 : (T : Int) - ((p : Int) + (m : Int)) + (m : Int) = z := by omega
    have hzl : -4503599627370496 < z ∧ z < 4503599627370496 := by omega
    have HZ := (show Hid _ from hz)
    clear hz
    rw [show (((p + m : Nat) : Int)) = (p : Int) + (m : Int) from by omega]
    by_cases hp : p = T
    · have hz0 : (z != 0) = false := by have := HZ.out; simp; omega
      have HP := (show Hid (p = T) from hp)
      clear hp
      go_wp2_with fail
      go_ret2
      exact ⟨HE.out.2.trans' (keep_drewN w2 q), .inl ⟨by rw [HD.out]; exact decide_eq_true HP.out, _, rfl, HE.out.1⟩⟩
    · have hz0 : (z != 0) = true := by have := HZ.out; simp; omega
      go_wp2_with fail
      go_ret2
      exact ⟨HE.out.2.trans' (keep_drewN w2 q), .inr ⟨by rw [HD.out]; exact decide_eq_false hp, rfl⟩⟩

end Go.Proofs.YtcoahkmiebeeeaaGreatDoor

namespace Go.Proofs.YtcoahkmiebeeeaaGreatDoor
open Go.RowKit Go.Shelf
set_option linter.unusedVariables false

theorem strm_put (A M : List (Fin 2)) (x n : Nat) (hx : x < 2 ^ n) : strm (pack (A ++ low x n ++ M ++ [1])) M.length n = x := by
  have hT : Tl.tailLen (pack (A ++ low x n ++ M ++ [1])) = A.length + n + M.length := by
    rw [Tl.tailLen_mark, List.length_append, List.length_append, low_length]
  rw [strm_qv _ M.length A.length n n (by rw [hT]; omega) (.inl rfl) n (Nat.le_refl _), Tl.qv_low _ _ _ _ (Nat.le_refl _), Nat.add_sub_cancel, Tl.num_back A (M ++ [1]) x n _ (by simp), Nat.mod_eq_of_lt hx]

theorem pack_read {ws : List Nat} {m : Nat} (hc : IsCode ws m) (bs : List Nat) (hok : packOk ws bs = true) (k : Nat) (hk : k ≤ bs.length) :
    (∃ M, packL ws m bs = packL ws m (bs.drop k) ++ M ∧ M.length = posU ws m (pack (packL ws m bs ++ [1])) k) ∧ ∀ j, j < k → symU ws m (pack (packL ws m bs ++ [1])) j = bs[j]?.getD 0 := by
  induction k with
  | zero => exact ⟨⟨[], by simp, rfl⟩, fun j hj => by omega⟩
  | succ k ih =>
    obtain ⟨⟨M, h1, h2⟩, h3⟩ := ih (by omega)
    have hb : wt ws (bs[k]?.getD 0) ≠ 0 := by
      have := of_decide_eq_true hok
      refine this _ ?_
      rw [List.getElem?_eq_getElem (by omega)]
      exact List.getElem_mem _
    obtain ⟨hbl, hbm⟩ := hc.wt_in _ hb
    have hd := packL_drop ws m bs k (by omega)
    have hwl := hc.word_lt _ hbl (by omega)
    rw [hd] at h1
    generalize hx : bs[k]?.getD 0 = b at *
    have hst := strm_put (packL ws m (bs.drop (k + 1))) M (wordX ws b) (m + 1 - wt ws b) hwl
    rw [← h1, h2] at hst
    have hsy : symU ws m (pack (packL ws m bs ++ [1])) k = b := by
      have hh := strm_head (pack (packL ws m bs ++ [1])) (posU ws m (pack (packL ws m bs ++ [1])) k) (m + 1 - wt ws b) m (by omega)
      rw [hst, show m - (m + 1 - wt ws b) = wt ws b - 1 from by omega] at hh
      exact (hc.begins b _ hbl (by omega) (strm_lt _ _ _)).1 hh
    refine ⟨⟨low (wordX ws b) (m + 1 - wt ws b) ++ M, by rw [h1, List.append_assoc], ?_⟩, fun j hj => ?_⟩
    · rw [List.length_append, low_length, h2, posU_succ, hsy]; omega
    · by_cases e : j = k
      · rw [e, hsy, hx]
      · exact h3 j (by omega)
theorem pack_pos {ws : List Nat} {m : Nat} (hc : IsCode ws m) (bs : List Nat) (hok : packOk ws bs = true) : posU ws m (pack (packL ws m bs ++ [1])) bs.length = (packL ws m bs).length := by
  obtain ⟨⟨M, h1, h2⟩, -⟩ := pack_read hc bs hok bs.length (Nat.le_refl _)
  rw [List.drop_length] at h1
  rw [← h2, h1]; simp [packL]
theorem pack_text {ws : List Nat} {m : Nat} (hc : IsCode ws m) (bs : List Nat) (hok : packOk ws bs = true) : (List.range bs.length).map (symU ws m (pack (packL ws m bs ++ [1]))) = bs := by
  obtain ⟨-, h3⟩ := pack_read hc bs hok bs.length (Nat.le_refl _)
  refine List.ext_getElem? fun j => ?_
  by_cases hj : j < bs.length
  · rw [List.getElem?_map, List.getElem?_range hj, List.getElem?_eq_getElem hj]
    have := h3 j hj
    rw [List.getElem?_eq_getElem hj] at this
    exact congrArg some this
  · rw [List.getElem?_eq_none (by simp; omega), List.getElem?_eq_none (by omega)]
theorem unp_pack {ws : List Nat} {m : Nat} (hc : IsCode ws m) (bs : List Nat) (hok : packOk ws bs = true) : unpOk ws m (pack (packL ws m bs ++ [1])) bs.length = true :=
  decide_eq_true ⟨Tl.mark_ne _, by rw [pack_pos hc bs hok, Tl.tailLen_mark]⟩

end Go.Proofs.YtcoahkmiebeeeaaGreatDoor

namespace Go.Proofs.YtcoahkmiebeeeaaGreatDoor
open Go.RowKit Go.Shelf
set_option linter.unusedVariables false

theorem wpList_append_run {ops : Array Oper} {rest : List Oper} {o : Oper} {a : Act} {Q : Exit → Act → World → Prop} (w : World) (hgd : o.guard = none) (s x : Operand) (t : TypeId)
    (ho : o.op = .call { callee := .builtin .append, args := #[s, x], argTypes := #[t, t] }) (v sv v' : Value) (w' : World) (hs : a.eval s = v) (hx : a.eval x = sv)
    (hr : (Builtin.append_ #[t, t] o.type #[v, sv]).run Tryz.prog w = .ok v' w') (hk : wpList Tryz.prog ops Q rest (a.put o.dst v') w') : wpList Tryz.prog ops Q (o :: rest) a w := by
  refine wpList_plain hgd fun K hK => ?_
  unfold Oper.wp execOp
  simp only [ho, resolve, invoke, builtin, Sem.run_bind, Sem.run_pure, Result.andThen_ok, List.map_toArray, List.map_cons, List.map_nil, hs, hx, hr]
  exact hK _ _ hk

theorem own_push {W : World} {v : Value} {M : List Nat} (h : W.ownsRow 0 5 1 v M.length (u8s M)) (x : Nat) (hl : M.length ≤ 1000000) :
    ∃ v' W', (Builtin.append_ #[22, 22] 22 #[v, .slice (some ⟨W.heap.size, 0, none⟩) 1 1]).run Tryz.prog (W.alloc (.cells #[.int .u8 (x : Int)] 5)) = .ok v' W' ∧ W'.ownsRow 0 5 1 v' (M ++ [x]).length (u8s (M ++ [x])) ∧ Keep (fun k => v.ownBlock = some k) W W' ∧ (v'.ownBlock = v.ownBlock ∨ ∃ k, v'.ownBlock = some k ∧ W.heap.size ≤ k) := by
  have hka : Keep noBlock W (W.alloc (.cells #[.int .u8 (x : Int)] 5)) := (Keep.refl _ W).alloc _
  have hs : SrcB (W.alloc (.cells #[.int .u8 (x : Int)] 5)) (.slice (some ⟨W.heap.size, 0, none⟩) 1 1) [x] := .inr ⟨_, 1, rfl, fun j u hu => by
    have hj : j < 1 := by have := (List.getElem?_eq_some_iff.1 hu).1; rwa [u8s_length] at this
    obtain rfl : j = 0 := by omega
    rw [← hu, addO]
    exact cell_of (World.alloc_heap_new W _) 0⟩
  obtain ⟨v', W', hr, ho, hk, hm⟩ := run_append_all (W.alloc (.cells #[.int .u8 (x : Int)] 5)) 22 v M [x] (owns_kept h hka (fun _ _ h => h)) (by simp; omega) _ hs
  refine ⟨v', W', hr, ho, (hka.mono (fun _ _ h => h.elim)).trans hk (fun _ _ h => h), ?_⟩
  rcases hm with e | ⟨k, e, hk⟩
  · exact .inl e
  · exact .inr ⟨k, e, by rw [World.size_alloc] at hk; omega⟩

def usedN (h : Nat) : Nat := if h ≤ 127 then 1 + h else 1 + (h - 127 + 1) / 2
set_option maxHeartbeats 400000 in
theorem describedIn_any (h : Nat) (hh : h < 256) (w : World) : Calls Tryz.prog 35 #[.int .u8 (h : Int)] w fun e w' => e = .returned (.int .i64 ((usedN h : Nat) : Int)) ∧ w' = w := by
  unfold usedN
  by_cases h1 : h ≤ 127
  · rw [if_pos h1]
    have hI : (h : Int) ≤ 127 := by omega
    go_enter Tryz.func35, Tryz.ntmps35
    go_wp2
    go_ret
    exact ⟨by simp, rfl⟩
  · rw [if_neg h1]
    have hI : ¬ (h : Int) ≤ 127 := by omega
    obtain ⟨d, hd⟩ : ∃ d, d = (h - 127 + 1) / 2 := ⟨_, rfl⟩
    rw [← hd]
    have hdI : ((h : Int) - 127 + 1) / 2 = (d : Int) := by omega
    have hdT : ((h : Int) - 127 + 1).tdiv 2 = (d : Int) := by rw [Int.tdiv_eq_ediv_of_nonneg (by omega)]; exact hdI
    have hhI : (h : Int) < 256 := by omega
    have hd2 : (d : Int) < 100 := by omega
    clear hd
    go_enter Tryz.func35, Tryz.ntmps35
    go_wp2
    go_ret
    exact ⟨by simp, rfl⟩

def fourW (bs : List Nat) (k : Nat) : Nat := if k % 2 = 1 then bs[k / 2]?.getD 0 % 16 else bs[k / 2]?.getD 0 / 16
theorem fourW_lt (bs : List Nat) (k : Nat) (h : ∀ j : Nat, bs[j]?.getD 0 < 256) : fourW bs k < 16 := by
  have := h (k / 2)
  unfold fourW
  split <;> omega
theorem and15 (x : Nat) (h : x < 256) : bits .and .u8 (x : Int) 15 = ((x % 16 : Nat) : Int) := by
  revert h; revert x; decide +kernel

set_option maxRecDepth 100000 in
set_option maxHeartbeats 2000000 in
theorem tellFours_any (a : Option Addr) (cap gb off : Nat) (bs : List Nat) (n : Nat) (w : World) (hB : Bytes w a cap gb off bs) (hn : n ≤ 128) (hl : (n + 1) / 2 ≤ bs.length) :
    Calls Tryz.prog 53 #[.slice a bs.length cap, .int .i64 (n : Int)] w fun e w' => ∃ v, e = .returned v ∧ w'.ownsRow 0 5 1 v n (u8s ((List.range n).map (fourW bs))) ∧ Keep noBlock w w' ∧ ∀ k, v.ownBlock = some k → w.heap.size ≤ k := by
  have hmk : ∀ W : World, _ := fun W => run_make_u8 n n (Nat.le_refl _) (by omega) W
  have hnI : (n : Int) ≤ 128 := by omega
  have HB := (show Hid (Bytes w a cap gb off bs) from hB)
  obtain ⟨N, hN⟩ : ∃ N, N = bs.length := ⟨_, rfl⟩
  have HN := (show Hid (N = bs.length) from hN)
  rw [← hN] at hl ⊢
  have h48 := hB.len
  have hNI : (N : Int) < 281474976710656 := by omega
  clear hB hN h48
  obtain ⟨tb, htb⟩ : ∃ tb, tb = w.heap.size := ⟨_, rfl⟩
  have HR := (show Hid (RowK (w.alloc (.cells (u8s (List.replicate n 0)).toArray 5)) tb n (fourW bs) 0 ∧ Keep noBlock w (w.alloc (.cells (u8s (List.replicate n 0)).toArray 5))) from by rw [htb]; exact ⟨rowK_new w n _, (Keep.refl _ w).alloc _⟩)
  have HT := (show Hid (tb = w.heap.size) from htb)
  go_enter Tryz.func53, Tryz.ntmps53
  go_wp2
  rw [← htb]
  clear htb
  go_loopw [11] (fun v11 wr => ∃ i : Nat, v11 = .int .i64 (i : Int) ∧ i ≤ n ∧ Hid (RowK wr tb n (fourW bs) i ∧ Keep noBlock w wr)) (fun v11 _ => n - (intOf v11).toNat)
  case atStart => exact ⟨0, rfl, Nat.zero_le _, HR.out⟩
  case round =>
    clear HR
    obtain ⟨i, rfl, hi, HC⟩ := hrel
    by_cases hlt : i < n
    · have hltI : (i : Int) < (n : Int) := by omega
      obtain ⟨hRow, hK⟩ := HC.out
      obtain ⟨d, hd⟩ : ∃ d, d = i / 2 := ⟨_, rfl⟩
      have hdx : d < bs.length := by have := HN.out; omega
      obtain rfl := HB.out.here hdx
      have hgb := HB.out.block (by intro e; rw [e] at hdx; simp at hdx)
      have hBr := HB.out.keep hK (fun _ h => h)
      have c1 := hBr.cells d hdx
      have hx256 := HB.out.lt d
      have hdN : (d : Int) < (N : Int) := by have := HN.out; omega
      have hdI : (i : Int) / 2 = (d : Int) := by omega
      have hdT : (i : Int).tdiv 2 = (d : Int) := by rw [Int.tdiv_eq_ediv_of_nonneg (by omega)]; exact hdI
      obtain ⟨x0, c2⟩ := hRow.cell i hlt
      have f2 := hRow.frozen i
      have hst := hRow.step hlt
      have htw := HT.out
      have hks : ∀ x : Value, Keep (fun k => k = tb) wr (wr.setCell ⟨tb, i, none⟩ x) := fun x => (Keep.refl (fun k => k = tb) wr).setCell (p := ⟨tb, i, none⟩) (fun _ => rfl) _
      have hfw : fourW bs i = if i % 2 = 1 then bs[d]?.getD 0 % 16 else bs[d]?.getD 0 / 16 := by rw [hd]; rfl
      obtain ⟨y, hy⟩ : ∃ y, y = bs[d]?.getD 0 := ⟨_, rfl⟩
      rw [← hy] at c1 hx256 hfw
      have hyI : (y : Int) < 256 := by omega
      have hsh : (y : Int) / 2 ^ 4 = ((y / 16 : Nat) : Int) := by omega
      obtain ⟨z, hz⟩ : ∃ z, z = y / 16 := ⟨_, rfl⟩
      rw [← hz] at hsh
      have hzI : (z : Int) < 16 := by omega
      have hsh2 : (y : Int) / 16 = (z : Int) := by omega
      by_cases hp : i % 2 = 1
      · rw [if_pos hp] at hfw
        obtain ⟨u, hu⟩ : ∃ u, u = y % 16 := ⟨_, rfl⟩
        have h15 := and15 y hx256
        rw [← hu] at h15 hfw
        rw [hfw] at hst
        have hmI : (i : Int) % 2 = 1 := by omega
        have hmT : (i : Int).tmod 2 = 1 := by rw [Int.tmod_eq_emod_of_nonneg (by omega)]; exact hmI
        have c3 : (wr.setCell ⟨tb, i, none⟩ (.int .u8 (z : Int))).cell? ⟨gb, off + d, none⟩ = some (.int .u8 (y : Int)) := (World.cell?_of_block ((hks _).block gb (Nat.lt_of_lt_of_le hgb hK.size) (by omega))).trans c1
        have hR1 : RowK (wr.setCell ⟨tb, i, none⟩ (.int .u8 (z : Int))) tb n (fourW bs) i := by
          obtain ⟨cs, o1, o2, o3, o4⟩ := hRow
          refine ⟨_, set_obj o1 _ _, by rw [Array.size_setIfInBounds, o2], fun j hj => ?_, fun j hj => ?_⟩
          · rw [Array.getElem?_setIfInBounds]
            by_cases e : i = j
            · subst e; rw [if_pos rfl, if_pos (by omega)]; exact ⟨_, rfl⟩
            · rw [if_neg e]; exact o3 j hj
          · rw [Array.getElem?_setIfInBounds, if_neg (by omega)]; exact o4 j hj
        have hst2 := hR1.step hlt
        rw [hfw] at hst2
        have HST := (show Hid (RowK ((wr.setCell ⟨tb, i, none⟩ (.int .u8 (z : Int))).setCell ⟨tb, i, none⟩ (.int .u8 (u : Int))) tb n (fourW bs) (i + 1) ∧ Keep noBlock w ((wr.setCell ⟨tb, i, none⟩ (.int .u8 (z : Int))).setCell ⟨tb, i, none⟩ (.int .u8 (u : Int)))) from ⟨hst2, (hK.setCell (p := ⟨tb, i, none⟩) (fun h => by dsimp only at h; omega) _).setCell (p := ⟨tb, i, none⟩) (fun h => by dsimp only at h; omega) _⟩)
        obtain ⟨x1, c4⟩ := hR1.cell i hlt
        have f4 := hR1.frozen i
        have htn : tb ≠ gb := by omega
        clear hst hst2 hR1 hRow hK hBr hks hd hy hz hu hfw HC htw hp
        go_wp2
        go_roundw
        case rel => exact ⟨i + 1, by go_num, by omega, HST.out⟩
        case measure => simp [intOf]; omega
      · rw [if_neg hp, ← hz] at hfw
        rw [hfw] at hst
        have hmI : (i : Int) % 2 = 0 := by omega
        have hmT : (i : Int).tmod 2 = 0 := by rw [Int.tmod_eq_emod_of_nonneg (by omega)]; exact hmI
        have HST := (show Hid (RowK (wr.setCell ⟨tb, i, none⟩ (.int .u8 (z : Int))) tb n (fourW bs) (i + 1) ∧ Keep noBlock w (wr.setCell ⟨tb, i, none⟩ (.int .u8 (z : Int)))) from ⟨hst, hK.setCell (p := ⟨tb, i, none⟩) (fun h => by dsimp only at h; omega) _⟩)
        clear hst hRow hK hBr hks hd hy hz hfw HC htw hp
        go_wp2
        go_roundw
        case rel => exact ⟨i + 1, by go_num, by omega, HST.out⟩
        case measure => simp [intOf]; omega
    · obtain rfl : i = n := by omega
      have hltI : ¬ (i : Int) < (i : Int) := by omega
      go_wp2
      go_ret
      exact ⟨_, rfl, HC.out.1.owns (by omega), HC.out.2, fun j hj => by
        obtain rfl : tb = j := by simpa [Value.ownBlock] using hj
        rw [HT.out]; exact Nat.le_refl _⟩

end Go.Proofs.YtcoahkmiebeeeaaGreatDoor

namespace Go.Proofs.YtcoahkmiebeeeaaGreatDoor
open Go.RowKit Go.Shelf
set_option linter.unusedVariables false

def lastW (M : List Nat) : Nat := lenN (2 ^ lenN (sumW M M.length) - sumW M M.length)
theorem wt_app (M : List Nat) (x i : Nat) (h : i < M.length) : wt (M ++ [x]) i = wt M i := by unfold wt; rw [List.getElem?_append_left h]
theorem codeB_okW {M : List Nat} (x : Nat) (h : okW M = false) : codeB (M ++ [x]) = false := by
  refine codeB_ok (decide_eq_false (fun q => (of_decide_eq_false h) (fun i hi => ?_)))
  have := q i (by simp; omega)
  rwa [wt_app M x i hi] at this

def LastPost (M : List Nat) (w : World) (e : Ending) (w' : World) : Prop :=
  (codeB (M ++ [lastW M]) = true ∧ ∃ v, e = .returned (.tuple #[v, .bool true]) ∧ w'.ownsRow 0 5 1 v (M ++ [lastW M]).length (u8s (M ++ [lastW M])) ∧ ∀ k, v.ownBlock = some k → w.heap.size ≤ k) ∨
  (codeB (M ++ [lastW M]) = false ∧ ∃ v, e = .returned (.tuple #[v, .bool false]))

set_option maxRecDepth 100000 in
set_option maxHeartbeats 2000000 in
theorem withLast_any (w : World) (v : Value) (M : List Nat) (W : World) (hown : W.ownsRow 0 5 1 v M.length (u8s M)) (hlt : ∀ j : Nat, M[j]?.getD 0 < 256) (hl : M.length ≤ 255) (hnew : ∀ k, v.ownBlock = some k → w.heap.size ≤ k) (hsz : w.heap.size ≤ W.heap.size) :
    Calls Tryz.prog 37 #[v] W fun e W' => LastPost M w e W' ∧ Keep (fun k => w.heap.size ≤ k) W W' := by
  obtain ⟨a, cap, g, rfl, hB, hg⟩ := owns_bytes hown hlt (by omega)
  have HS := (show Hid (Calls Tryz.prog 57 _ W _) from sumOfW_any a cap g 0 M W hB (by omega))
  obtain ⟨n, hn⟩ : ∃ n, n = M.length := ⟨_, rfl⟩
  have HN := (show Hid (n = M.length) from hn)
  cases hok : okW M with
  | false =>
    have HC := (show Hid (codeB (M ++ [lastW M]) = false) from codeB_okW _ hok)
    have HS2 := (show Hid (Calls Tryz.prog 57 #[.slice a n cap] W fun e w' => e = .returned (.tuple #[.int .i64 0, .bool false]) ∧ w' = W) from by
      rw [hn]
      exact HS.out.mono (by
        rintro e w' ⟨h, rfl⟩
        rw [hok] at h
        rcases h with ⟨h, _⟩ | ⟨_, rfl⟩
        · cases h
        · exact ⟨rfl, rfl⟩))
    rw [← hn]
    clear HS hB hown hlt hnew hn hok hg
    go_enter Tryz.func37, Tryz.ntmps37
    go_wp2_with (go_at_call 57; refine HS2.out.mono ?_; rintro e w' ⟨rfl, rfl⟩)
    go_ret2
    exact ⟨.inr ⟨HC.out, _, rfl⟩, Keep.refl _ _⟩
  | true =>
    have HS2 := (show Hid (Calls Tryz.prog 57 #[.slice a n cap] W fun e w' => e = .returned (.tuple #[.int .i64 ((sumW M M.length : Nat) : Int), .bool true]) ∧ w' = W) from by
      rw [hn]
      exact HS.out.mono (by
        rintro e w' ⟨h, rfl⟩
        rw [hok] at h
        rcases h with ⟨_, rfl⟩ | ⟨h, _⟩
        · exact ⟨rfl, rfl⟩
        · cases h))
    have hsb := sumW_le M M.length (of_decide_eq_true hok)
    have hS18 : sumW M M.length < 262144 := by omega
    have hl18 : lenN (sumW M M.length) ≤ 18 := lenN_le _ _ (by omega)
    have hp18 : 2 ^ lenN (sumW M M.length) ≤ 262144 := Nat.pow_le_pow_right (n := 2) (j := 18) (by omega) hl18
    have hSP : sumW M M.length ≤ 2 ^ lenN (sumW M M.length) := by
      by_cases h0 : sumW M M.length = 0
      · rw [h0]; exact Nat.zero_le _
      · exact Nat.le_of_lt (lenN_pos _ h0).2.1
    have HL1 := (show Hid (∀ w : World, _) from fun w => len_big (sumW M M.length) (by omega) w)
    have hlw : lastW M = lenN (2 ^ lenN (sumW M M.length) - sumW M M.length) := rfl
    obtain ⟨L1, hL1⟩ : ∃ L1, L1 = lenN (sumW M M.length) := ⟨_, rfl⟩
    obtain ⟨P, hP⟩ : ∃ P, P = 2 ^ lenN (sumW M M.length) := ⟨_, rfl⟩
    obtain ⟨S, hS⟩ : ∃ S, S = sumW M M.length := ⟨_, rfl⟩
    have hPI : wrap64 ((2 : Int) ^ L1) = (P : Int) := by
      have e : (2 : Int) ^ L1 = (P : Int) := by rw [hP, hL1]; simp
      rw [e]
      rw [← hP] at hp18
      clear e hP hlw hSP
      unfold wrap64; omega
    rw [← hP] at hlw hp18 hSP
    rw [← hL1] at HL1 hl18
    rw [← hS] at HL1 HS2 hlw hSP hS18
    have hwant : P - S ≤ 262144 := by clear hPI; omega
    obtain ⟨D, hD⟩ : ∃ D, D = P - S := ⟨_, rfl⟩
    rw [← hD] at hlw
    have hDI : (P : Int) - (S : Int) = (D : Int) := by clear hPI; omega
    have HL2 := (show Hid (∀ w : World, Calls Tryz.prog 58 #[.int .u64 (D : Int)] w fun e w' => e = .returned (.int .i64 ((lastW M : Nat) : Int)) ∧ w' = w) from fun w => by rw [hlw]; exact len_big D (by clear hPI; omega) w)
    have hlw19 : lastW M ≤ 19 := by rw [hlw]; exact lenN_le _ _ (by clear hPI; omega)
    obtain ⟨v', W', hrun, hown', hk', hm'⟩ := own_push hown (lastW M) (by omega)
    have hnew' : ∀ k, v'.ownBlock = some k → w.heap.size ≤ k := fun k e => by
      rcases hm' with e2 | ⟨j, e2, hj⟩
      · rw [e2] at e; exact hnew k e
      · rw [e2] at e; cases e; omega
    have hlt' : ∀ j : Nat, (M ++ [lastW M])[j]?.getD 0 < 256 := lt_app hlt (lt256 (fun b hb => by rw [List.mem_singleton.1 hb]; omega))
    obtain ⟨a', cap', g', rfl, hB', hg'⟩ := owns_bytes hown' hlt' (by simp; omega)
    have HM := (show Hid (Calls Tryz.prog 40 _ W' _) from makeCode_any a' cap' g' 0 (M ++ [lastW M]) W' hB')
    have HF := (show Hid (W'.ownsRow 0 5 1 (.slice a' (M ++ [lastW M]).length cap') (M ++ [lastW M]).length (u8s (M ++ [lastW M])) ∧ Keep (fun k => w.heap.size ≤ k) W W' ∧ ∀ k, (Value.slice a' (M ++ [lastW M]).length cap').ownBlock = some k → w.heap.size ≤ k) from ⟨hown', hk'.mono (fun i hi e => hnew i e), hnew'⟩)
    rw [← hn] at hrun
    obtain ⟨n', hn'⟩ : ∃ n', n' = (M ++ [lastW M]).length := ⟨_, rfl⟩
    rw [← hn'] at hrun HM HF
    have HN' := (show Hid (n' = (M ++ [lastW M]).length) from hn')
    rw [← hn]
    clear HS hB hown hlt hnew hn hok hg hn' hown' hk' hm' hnew' hlt' hB' hg' hlw hD hP hL1 hS hsb hSP
    obtain ⟨lw, hlwe⟩ : ∃ lw, lastW M = lw := ⟨_, rfl⟩
    rw [hlwe] at HL2 hlw19 hrun HM HF HN'
    have HLW := (show Hid (lastW M = lw) from hlwe)
    clear hlwe
    have hlwI : (lw : Int) ≤ 19 := by omega
    have hDl : (D : Int) ≤ 262144 := by omega
    have hL1I : (L1 : Int) ≤ 18 := by omega
    clear hwant hp18 hl18
    go_enter Tryz.func37, Tryz.ntmps37
    go_wp2_with (go_at_call 57; refine HS2.out.mono ?_; rintro e w' ⟨rfl, rfl⟩)
    refine (HL1.out _).mono ?_
    rintro e w2 ⟨rfl, rfl⟩
    have HX := (show Hid _ from hS18)
    clear hS18
    go_wp2_with fail
    refine (HL2.out _).mono ?_
    rintro e w3 ⟨rfl, rfl⟩
    clear hPI hDI
    go_wp2_with (at_builtin; refine wpList_append_run _ rfl _ _ 22 rfl _ _ _ _ rfl rfl hrun ?_)
    refine HM.out.mono ?_
    rintro e w4 ⟨l, rfl, -, rfl⟩
    cases hcb : codeB (M ++ [lw]) with
    | true =>
      go_wp2_with fail
      go_ret2
      exact ⟨.inl ⟨by rw [HLW.out]; exact hcb, _, rfl, by rw [HLW.out, ← HN'.out]; exact HF.out.1, HF.out.2.2⟩, HF.out.2.1⟩
    | false =>
      go_wp2_with fail
      go_ret2
      exact ⟨.inr ⟨by rw [HLW.out]; exact hcb, _, rfl⟩, HF.out.2.1⟩

end Go.Proofs.YtcoahkmiebeeeaaGreatDoor

namespace Go.Proofs.YtcoahkmiebeeeaaGreatDoor
open Go.RowKit Go.Shelf
set_option linter.unusedVariables false

def TellPost (T : Option (List Nat)) (w : World) (e : Ending) (w' : World) : Prop :=
  Keep noBlock w w' ∧ match T with
    | none => e = .returned (.tuple #[.slice none 0 0, .bool false])
    | some M => ∃ v, e = .returned (.tuple #[v, .bool true]) ∧ w'.ownsRow 0 5 1 v M.length (u8s M) ∧ ∀ k, v.ownBlock = some k → w.heap.size ≤ k
def readOf : Option (List Nat) → Option (List Nat)
  | none => none
  | some M => if codeB (M ++ [lastW M]) then some (M ++ [lastW M]) else none
theorem readOf_yes {M : List Nat} (h : codeB (M ++ [lastW M]) = true) : readOf (some M) = some (M ++ [lastW M]) := if_pos h
theorem readOf_no {M : List Nat} (h : codeB (M ++ [lastW M]) = false) : readOf (some M) = none := if_neg (by rw [h]; decide)
def ReadPost (R : Option (List Nat)) (u : Nat) (w : World) (e : Ending) (w' : World) : Prop :=
  Keep noBlock w w' ∧ match R with
    | none => e = .returned (.tuple #[.slice none 0 0, .int .i64 0, .int .i64 11])
    | some ws => ∃ v, e = .returned (.tuple #[v, .int .i64 (u : Int), .int .i64 0]) ∧ w'.ownsRow 0 5 1 v ws.length (u8s ws)

set_option maxRecDepth 100000 in
set_option maxHeartbeats 2000000 in
theorem read_short (a : Option Addr) (cap gb off : Nat) (bs : List Nat) (w : World) (hB : Bytes w a cap gb off bs) (hs : bs.length < usedN (bs[0]?.getD 0)) :
    Calls Tryz.prog 21 #[.slice a bs.length cap] w fun e w' => e = .returned (.tuple #[.slice none 0 0, .int .i64 0, .int .i64 10]) ∧ w' = w := by
  by_cases h0 : bs.length = 0
  · rw [h0]
    go_enter Tryz.func21, Tryz.ntmps21
    go_wp2
    exact bodyPost_ret (by simp [results, Tryz.results21]) rfl ⟨rfl, rfl⟩
  · obtain rfl := hB.here (i := 0) (by omega)
    have c0 := hB.cells 0 (by omega)
    have hx := hB.lt 0
    have HD := (show Hid (∀ w : World, _) from fun w => describedIn_any (bs[0]?.getD 0) hx w)
    rw [Nat.add_zero] at c0
    have h48 := hB.len
    obtain ⟨n, hn⟩ : ∃ n, n = bs.length := ⟨_, rfl⟩
    rw [← hn] at hs h0 h48 ⊢
    generalize bs[0]?.getD 0 = h at *
    generalize usedN h = u at *
    have hsI : (n : Int) < (u : Int) := by omega
    have hn0 : ((n : Int) == 0) = false := by rw [beq_eq_false_iff_ne]; omega
    have hn1 : (0 : Int) < (n : Int) := by omega
    clear hB hn h48
    go_enter Tryz.func21, Tryz.ntmps21
    go_wp2_with (go_at_call 35; refine (HD.out _).mono ?_; rintro e w' ⟨rfl, rfl⟩)
    exact bodyPost_ret (by simp [results, Tryz.results21]) rfl ⟨rfl, rfl⟩

section
attribute [local go_sem] sliceSem_eq
set_option maxRecDepth 100000 in
set_option maxHeartbeats 2000000 in
theorem read_told (a : Option Addr) (cap gb off : Nat) (bs : List Nat) (u : Nat) (T : Option (List Nat)) (w : World) (hB : Bytes w a cap gb off bs) (hne : bs ≠ []) (hu : u = usedN (bs[0]?.getD 0)) (hs : u ≤ bs.length)
    (hT : Calls Tryz.prog 36 #[.slice a (bs.take u).length cap] w fun e w' => TellPost T w e w') (hM : ∀ M, T = some M → M.length ≤ 255 ∧ ∀ j : Nat, M[j]?.getD 0 < 256) :
    Calls Tryz.prog 21 #[.slice a bs.length cap] w fun e w' => ReadPost (readOf T) u w e w' := by
  have hpos : 0 < bs.length := List.length_pos_iff.2 hne
  obtain rfl := hB.here (i := 0) hpos
  have c0 := hB.cells 0 hpos
  have hx := hB.lt 0
  have HD := (show Hid (∀ w : World, _) from fun w => describedIn_any (bs[0]?.getD 0) hx w)
  rw [← hu] at HD
  rw [Nat.add_zero] at c0
  have h48 := hB.len
  have hrun := (hB.take u hs).1
  have HT := (show Hid (Calls Tryz.prog 36 #[.slice (some ⟨gb, off, none⟩) (bs.take u).length cap] w fun e w' => TellPost T w e w') from hT)
  have hu256 : u ≤ 256 := by rw [hu]; unfold usedN; split <;> omega
  obtain ⟨n, hn⟩ : ∃ n, n = bs.length := ⟨_, rfl⟩
  obtain ⟨k, hk⟩ : ∃ k, k = (bs.take u).length := ⟨_, rfl⟩
  rw [← hn] at hs hpos h48 hrun ⊢
  rw [← hk] at HT hrun
  generalize bs[0]?.getD 0 = h at *
  have hsI : ¬ (n : Int) < (u : Int) := by omega
  have hn0 : ((n : Int) == 0) = false := by rw [beq_eq_false_iff_ne]; omega
  have hn1 : (0 : Int) < (n : Int) := by omega
  have huI : (u : Int) ≤ 256 := by omega
  clear hB hn h48 hT hu hk hne hu256
  cases T with
  | none =>
    go_enter Tryz.func21, Tryz.ntmps21
    go_wp2_with (first | (go_at_call 35; refine (HD.out _).mono ?_; rintro e w' ⟨rfl, rfl⟩) | (go_at_call 36; refine HT.out.mono ?_; rintro e w1 ⟨hK, rfl⟩))
    exact bodyPost_ret (by simp [results, Tryz.results21]) rfl ⟨hK, rfl⟩
  | some M =>
    obtain ⟨hl, hlt⟩ := hM M rfl
    have HM := (show Hid (M.length ≤ 255 ∧ ∀ j : Nat, M[j]?.getD 0 < 256) from ⟨hl, hlt⟩)
    clear hl hlt hM
    go_enter Tryz.func21, Tryz.ntmps21
    go_wp2_with (go_at_call 35; refine (HD.out _).mono ?_; rintro e w' ⟨rfl, rfl⟩)
    refine HT.out.mono ?_
    rintro e w1 ⟨hK, v, rfl, hown, hnew⟩
    have HL := (show Hid (Calls Tryz.prog 37 _ w1 _) from withLast_any _ v M w1 hown HM.out.2 HM.out.1 hnew hK.size)
    obtain ⟨sa, scap, rfl⟩ := owns_form hown
    have HK := (show Hid (Keep noBlock w' w1) from hK)
    clear hown hnew HT hK c0
    go_wp2_with fail
    refine HL.out.mono ?_
    rintro e w2 ⟨hP, hK2⟩
    have HK2 := (show Hid (Keep noBlock w' w2) from HK.out.trans hK2 (fun i hi e => by omega))
    rcases hP with ⟨hc, v2, rfl, hown2, hnew2⟩ | ⟨hc, v2, rfl⟩
    · obtain ⟨sb, bcap, rfl⟩ := owns_form hown2
      have HO := (show Hid (w2.ownsRow 0 5 1 (.slice sb (M ++ [lastW M]).length bcap) (M ++ [lastW M]).length (u8s (M ++ [lastW M])) ∧ readOf (some M) = some (M ++ [lastW M])) from ⟨hown2, readOf_yes hc⟩)
      obtain ⟨L, hL⟩ : ∃ L, L = (M ++ [lastW M]).length := ⟨_, rfl⟩
      rw [← hL] at HO ⊢
      have HLL := (show Hid (L = (M ++ [lastW M]).length) from hL)
      clear hL
      clear hown2 hnew2 hK2
      go_wp2_with fail
      refine bodyPost_ret (by simp [results, Tryz.results21]; rfl) rfl ⟨HK2.out, ?_⟩
      rw [HO.out.2]
      exact ⟨_, rfl, by rw [← HLL.out]; exact HO.out.1⟩
    · have HO := (show Hid (readOf (some M) = none) from readOf_no hc)
      clear hK2
      go_wp2_with fail
      refine bodyPost_ret (by simp [results, Tryz.results21]; rfl) rfl ⟨HK2.out, ?_⟩
      rw [HO.out]

set_option maxRecDepth 100000 in
set_option maxHeartbeats 2000000 in
theorem tell_fours (a : Option Addr) (cap gb off : Nat) (bs : List Nat) (n : Nat) (w : World) (hB : Bytes w a cap gb off bs) (hne : bs ≠ []) (h1 : bs[0]?.getD 0 = n + 127) (h2 : 1 ≤ n) (h3 : (n + 1) / 2 + 1 ≤ bs.length) :
    Calls Tryz.prog 36 #[.slice a bs.length cap] w fun e w' => TellPost (some ((List.range n).map (fourW (bs.drop 1)))) w e w' := by
  have hpos : 0 < bs.length := List.length_pos_iff.2 hne
  obtain rfl := hB.here (i := 0) hpos
  have c0 := hB.cells 0 hpos
  have hx := hB.lt 0
  rw [Nat.add_zero] at c0
  have h48 := hB.len
  obtain ⟨a', off', hrun, hB', -⟩ := hB.drop 1 hpos
  have HF := (show Hid (∀ q, Calls Tryz.prog 53 #[.slice a' (bs.drop 1).length (cap - 1), .int .i64 (n : Int)] (w.drewN q) _) from fun q => tellFours_any a' (cap - 1) gb off' (bs.drop 1) n (w.drewN q) (hB'.keep (keep_drewN w q) (fun _ h => h)) (by omega) (by rw [List.length_drop]; omega))
  obtain ⟨N, hN⟩ : ∃ N, N = bs.length := ⟨_, rfl⟩
  obtain ⟨k, hk⟩ : ∃ k, k = (bs.drop 1).length := ⟨_, rfl⟩
  obtain ⟨c', hc'⟩ : ∃ c', c' = cap - 1 := ⟨_, rfl⟩
  rw [← hk, ← hc'] at HF
  rw [← hN] at hpos h48 ⊢
  rw [← hN, ← hk, ← hc', show (((1 : Nat) : Int)) = (1 : Int) from rfl] at hrun
  obtain ⟨h, hh⟩ : ∃ h, h = bs[0]?.getD 0 := ⟨_, rfl⟩
  rw [← hh] at h1 hx c0
  have hgt : (127 : Int) < (h : Int) := by omega
  have hnI : (h : Int) - 127 = (n : Int) := by omega
  have hhI : (h : Int) < 256 := by omega
  have hp1 : (0 : Int) < (N : Int) := by omega
  have hML : ((List.range n).map (fourW (bs.drop 1))).length = n := by simp
  have HML := (show Hid _ from hML)
  clear hB hB' hN hk hc' hh h1 hx h48 hne h3 hML
  go_enter Tryz.func36, Tryz.ntmps36
  go_wp2_with fail
  go_quiet (fail)
  go_wp2_with (go_at_call 53; refine (HF.out _).mono ?_; rintro e w1 ⟨v, rfl, hown, hK, hnew⟩)
  go_ret2
  exact ⟨(keep_drewN w _).trans' hK, v, rfl, by rw [HML.out]; exact hown, hnew⟩
end

end Go.Proofs.YtcoahkmiebeeeaaGreatDoor

namespace Go.Proofs.YtcoahkmiebeeeaaGreatDoor
open Go.RowKit Go.Shelf
set_option linter.unusedVariables false

end Go.Proofs.YtcoahkmiebeeeaaGreatDoor

namespace Go.Proofs.YtcoahkmiebeeeaaGreatDoor
open Go.RowKit Go.Shelf
set_option linter.unusedVariables false

def packC (ws bs : List Nat) : Nat := if codeB ws then (if 131072 < bs.length then 2 else if packOk ws bs then 0 else 2) else 50
def packV (ws bs : List Nat) : List Nat := if packC ws bs = 0 then pack (packL ws (codeM ws) bs ++ [1]) else []
def unpC (ws bs : List Nat) (n : Int) : Nat := if codeB ws then (if 0 ≤ n ∧ n ≤ 131072 then (if unpOk ws (codeM ws) bs n.toNat then 0 else 11) else 2) else 50
def unpV (ws bs : List Nat) (n : Int) : List Nat := if unpC ws bs n = 0 then (List.range n.toNat).map (symU ws (codeM ws) bs) else []
def Ans (c : Nat) (bs : List Nat) (w : World) (e : Ending) (w' : World) : Prop :=
  Keep noBlock w w' ∧ ∃ a n cap, e = .returned (.tuple #[.slice a n cap, .int .i64 (c : Int)]) ∧ n = bs.length ∧ w'.ownsRow 0 5 1 (.slice a n cap) n (u8s bs)
theorem ans_none {c : Nat} {w w' : World} (hk : Keep noBlock w w') : Ans c [] w (.returned (.tuple #[.slice none 0 0, .int .i64 (c : Int)])) w' := ⟨hk, none, 0, 0, rfl, rfl, World.ownsRow_nil _ _ _ _⟩
theorem ans_row {c : Nat} {bs : List Nat} {v : Value} {w w' : World} (hk : Keep noBlock w w') (h : w'.ownsRow 0 5 1 v bs.length (u8s bs)) : Ans c bs w (.returned (.tuple #[v, .int .i64 (c : Int)])) w' := by
  obtain ⟨a, cap, rfl⟩ := owns_form h
  exact ⟨hk, a, _, cap, rfl, rfl, h⟩

theorem codeM_is {ws : List Nat} (h : codeB ws = true) : IsCode ws (codeM ws) := by
  have := codeB_is h
  unfold codeM
  rw [if_pos h]
  exact this
theorem packV_no {ws bs : List Nat} (h : packC ws bs ≠ 0) : packV ws bs = [] := if_neg h
theorem unpV_no {ws bs : List Nat} {n : Int} (h : unpC ws bs n ≠ 0) : unpV ws bs n = [] := if_neg h
theorem packV_lt (ws bs : List Nat) : ∀ j : Nat, (packV ws bs)[j]?.getD 0 < 256 := by
  unfold packV
  split
  · exact pack_lt _
  · intro j; simp
theorem unpV_lt (ws bs : List Nat) (n : Int) : ∀ j : Nat, (unpV ws bs n)[j]?.getD 0 < 256 := by
  by_cases h : unpC ws bs n = 0
  · have hc : codeB ws = true := by
      unfold unpC at h
      by_cases e : codeB ws = true
      · exact e
      · rw [if_neg e] at h; omega
    have hI := codeM_is hc
    unfold unpV
    rw [if_pos h]
    refine lt256 (fun b hb => ?_)
    obtain ⟨k, _, rfl⟩ := List.mem_map.1 hb
    have h1 := (hI.sym (strm bs (posU ws (codeM ws) bs k) (codeM ws)) (strm_lt _ _ _)).1
    have h2 := hI.len
    show symX ws (codeM ws) (strm bs (posU ws (codeM ws) bs k) (codeM ws)) < 256
    omega
  · rw [unpV_no h]; intro j; simp

theorem pk_cells (w : World) (c : Int) : ((w.alloc (.cells #[.slice none 0 0] 22)).alloc (.cells #[.int .i64 c] 23)).cell? ⟨w.heap.size, 0, none⟩ = some (.slice none 0 0) ∧ ((w.alloc (.cells #[.slice none 0 0] 22)).alloc (.cells #[.int .i64 c] 23)).cell? ⟨w.heap.size + 1, 0, none⟩ = some (.int .i64 c) := by
  refine ⟨cell_of (alloc_far (World.alloc_heap_new w _) _) 0, ?_⟩
  have := World.alloc_heap_new (w.alloc (.cells #[.slice none 0 0] 22)) (.cells #[.int .i64 c] 23)
  rw [World.size_alloc] at this
  exact cell_of this 0

set_option maxRecDepth 100000 in
set_option maxHeartbeats 2000000 in
theorem unpack_all (a : Option Addr) (cap gb off : Nat) (ws : List Nat) (a2 : Option Addr) (cap2 gb2 off2 : Nat) (bs : List Nat) (n : Int) (w : World) (hB : Bytes w a cap gb off ws) (hB2 : Bytes w a2 cap2 gb2 off2 bs) (hl : bs.length ≤ 140737488351232) :
    Calls Tryz.prog 34 #[.slice a ws.length cap, .slice a2 bs.length cap2, .int .i64 n] w fun e w' => Ans (unpC ws bs n) (unpV ws bs n) w e w' := by
  cases hc : codeB ws with
  | false =>
    have e1 : unpC ws bs n = 50 := by unfold unpC; rw [hc]; rfl
    have e2 := unpV_no (ws := ws) (bs := bs) (n := n) (by omega)
    rw [e1, e2]
    have HM := (show Hid (Calls Tryz.prog 40 #[.slice a ws.length cap] w fun e w' => ∃ l, e = .returned (.tuple #[.int .i64 l, .bool false]) ∧ w' = w) from made_not hc hB)
    generalize ws.length = n1 at *
    generalize bs.length = n2 at *
    clear hB hB2 hl
    go_enter Tryz.func34, Tryz.ntmps34
    go_wp2_with (go_at_call 40; refine HM.out.mono ?_; rintro e w' ⟨l, rfl, rfl⟩)
    go_ret2
    exact ans_none (Keep.refl _ _)
  | true =>
    have hI := codeM_is hc
    by_cases hn : 0 ≤ n ∧ n ≤ 131072
    · obtain ⟨k, rfl⟩ := Int.eq_ofNat_of_zero_le hn.1
      refine (unpack_any a cap gb off ws (codeM ws) a2 cap2 gb2 off2 bs k w hB hB2 hI hl (by omega)).mono ?_
      rintro e w' ⟨hk, ⟨h1, v, rfl, h2⟩ | ⟨h1, rfl⟩⟩
      · have e1 : unpC ws bs (k : Int) = 0 := by unfold unpC; rw [if_pos hc, if_pos hn, Int.toNat_natCast, if_pos h1]
        have e2 : unpV ws bs (k : Int) = (List.range k).map (symU ws (codeM ws) bs) := if_pos e1
        rw [e1, e2]
        refine ans_row hk ?_
        rw [show ((List.range k).map (symU ws (codeM ws) bs)).length = k from by simp]
        exact h2
      · have e1 : unpC ws bs (k : Int) = 11 := by unfold unpC; rw [if_pos hc, if_pos hn, Int.toNat_natCast, h1]; rfl
        have e2 := unpV_no (ws := ws) (bs := bs) (n := (k : Int)) (by omega)
        rw [e1, e2]
        exact ans_none hk
    · have e1 : unpC ws bs n = 2 := by unfold unpC; rw [if_pos hc, if_neg hn]
      have e2 := unpV_no (ws := ws) (bs := bs) (n := n) (by omega)
      rw [e1, e2]
      have HM := (show Hid (Calls Tryz.prog 40 #[.slice a ws.length cap] w fun e w' => e = .returned (.tuple #[.int .i64 ((codeM ws : Nat) : Int), .bool true]) ∧ w' = w) from made_is hI hB)
      generalize ws.length = n1 at *
      generalize bs.length = n2 at *
      clear hB hB2 hl hI
      by_cases h0 : n < 0
      · go_enter Tryz.func34, Tryz.ntmps34
        go_wp2_with (go_at_call 40; refine HM.out.mono ?_; rintro e w' ⟨rfl, rfl⟩)
        go_ret2
        exact ans_none (Keep.refl _ _)
      · have h1 : 131072 < n := by omega
        go_enter Tryz.func34, Tryz.ntmps34
        go_wp2_with (go_at_call 40; refine HM.out.mono ?_; rintro e w' ⟨rfl, rfl⟩)
        go_ret2
        exact ans_none (Keep.refl _ _)

end Go.Proofs.YtcoahkmiebeeeaaGreatDoor
