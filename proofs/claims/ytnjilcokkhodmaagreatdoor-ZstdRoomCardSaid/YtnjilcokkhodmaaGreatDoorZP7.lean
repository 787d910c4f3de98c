/-
  Unpack; what Pack and Unpack answer where they refuse.
  Read: how many bytes a description has, weights of four bits, the last weight.
  Read: the last weight, and what Read makes of weights that are told.
  Read, by what the description tells.
  What Pack and Unpack answer, whatever they are handed.
  A literals section as plain numbers and lists: its head, its rows, what it tells.
  Codes are given their values: spread.
  The codings, as plain lists and as they lie.
-/
import Derived.Laws.StructEq
import Derived.ChangeKeysEq
import Derived.Deep.MidRow
import Derived.Test.YtnjilcokkhodmaaGreatDoorZP4
import Derived.Test.YtnjilcokkhodmaaGreatDoorZP5
import Derived.Test.YtnjilcokkhodmaaGreatDoorZP6
namespace Go.Proofs.YtnjilcokkhodmaaGreatDoor
open Go.RowKit Go.Shelf
set_option linter.unusedVariables false

theorem made_is {ws : List Nat} {m : Nat} (hc : IsCode ws m) {a : Option Addr} {cap gb off : Nat} {W : World} (hB : Bytes W a cap gb off ws) : Calls Tryz.prog 95 #[.slice a ws.length cap] W fun e w' => e = .returned (.tuple #[.int .i64 (m : Int), .bool true]) ∧ w' = W := by
 refine (makeCode_any a cap gb off ws W hB).mono ?_
 rintro e w' ⟨l, rfl, h, rfl⟩
 rw [hc.codeB.1] at h ⊢
 rw [h rfl, hc.codeM]
 exact ⟨rfl, rfl⟩
theorem made_not {ws : List Nat} (hc : codeB ws = false) {a : Option Addr} {cap gb off : Nat} {W : World} (hB : Bytes W a cap gb off ws) : Calls Tryz.prog 95 #[.slice a ws.length cap] W fun e w' => ∃ l, e = .returned (.tuple #[.int .i64 l, .bool false]) ∧ w' = W := by
 refine (makeCode_any a cap gb off ws W hB).mono ?_
 rintro e w' ⟨l, rfl, h, rfl⟩
 rw [hc]
 exact ⟨l, rfl, rfl⟩

theorem newB_bad (a : Option Addr) (cap gb off : Nat) (bs : List Nat) (w : World) (hB : Bytes w a cap gb off bs) (hl : bs.length ≤ 140737488351232) (h0 : bs[bs.length - 1]?.getD 0 = 0) :
    Calls Tryz.prog 67 #[.slice a bs.length cap] w fun e w' => e = .returned (.tuple #[.pointer none, .int .i64 11]) ∧ w' = w := by
  cases hn : bs.length with
  | zero => exact Tl.new_none a cap w
  | succ k =>
    obtain rfl := hB.here (i := k) (by omega)
    refine Tl.new_zero gb off cap k w (by omega) ?_
    rw [hB.cells k (by omega)]
    rw [hn, Nat.add_sub_cancel] at h0
    rw [h0]; rfl
theorem newB_good (a : Option Addr) (cap gb off : Nat) (bs : List Nat) (w : World) (hB : Bytes w a cap gb off bs) (hl : bs.length ≤ 140737488351232) (h0 : bs[bs.length - 1]?.getD 0 ≠ 0) :
    Calls Tryz.prog 67 #[.slice a bs.length cap] w fun e w' => ∃ rb g, e = .returned (.tuple #[.pointer (some ⟨rb, 0, none⟩), .int .i64 0]) ∧ w.heap.size ≤ rb ∧ w.heap.size ≤ g ∧ At w' rb g bs 0 ∧ Keep noBlock w w' := by
  cases hn : bs.length with
  | zero => rw [List.length_eq_zero_iff.1 hn] at h0; simp at h0
  | succ k =>
    obtain rfl := hB.here (i := k) (by omega)
    rw [hn, Nat.add_sub_cancel] at h0
    refine (Tl.new_mark gb off cap k _ bs hn (by omega) hB.lt w rfl h0 hB.cells).mono ?_
    rintro e w' ⟨rb, g, rfl, h1, h2, h3, h4⟩
    exact ⟨rb, g, rfl, h1, h2, ⟨by simpa using h3, by decide⟩, h4⟩

def unpOk (ws : List Nat) (m : Nat) (bs : List Nat) (n : Nat) : Bool := decide (bs[bs.length - 1]?.getD 0 ≠ 0 ∧ posU ws m bs n = Tl.tailLen bs)
def UnpPost (ws : List Nat) (m : Nat) (bs : List Nat) (n : Nat) (w : World) (e : Ending) (w' : World) : Prop :=
 Keep noBlock w w' ∧ ((unpOk ws m bs n = true ∧ ∃ v, e = .returned (.tuple #[v, .int .i64 0]) ∧ w'.ownsRow 0 5 1 v n (u8s ((List.range n).map (symU ws m bs)))) ∨ (unpOk ws m bs n = false ∧ e = .returned (.tuple #[.slice none 0 0, .int .i64 11])))

set_option maxRecDepth 100000 in
set_option maxHeartbeats 4000000 in
theorem unpack_any (a : Option Addr) (cap gb off : Nat) (ws : List Nat) (m : Nat) (a2 : Option Addr) (cap2 gb2 off2 : Nat) (bs : List Nat) (n : Nat) (w : World) (hB : Bytes w a cap gb off ws) (hB2 : Bytes w a2 cap2 gb2 off2 bs) (hc : IsCode ws m) (hl : bs.length ≤ 140737488351232) (hn : n ≤ 131072) :
  Calls Tryz.prog 77 #[.slice a ws.length cap, .slice a2 bs.length cap2, .int .i64 (n : Int)] w fun e w' => UnpPost ws m bs n w e w' := by
 have HM := (show Hid (Calls Tryz.prog 95 _ w _) from made_is hc hB)
 have hm11 := hc.m11
 have hn1 : ¬ (n : Int) < 0 := by omega
 have hn2 : ¬ (131072 : Int) < (n : Int) := by omega
 by_cases h0 : bs[bs.length - 1]?.getD 0 = 0
 ·have HN := (show Hid (Calls Tryz.prog 67 _ w _) from newB_bad a2 cap2 gb2 off2 bs w hB2 hl h0)
  have HB := (show Hid (unpOk ws m bs n = false) from decide_eq_false (fun h => h.1 h0))
  generalize bs.length = n2 at *
  generalize ws.length = n1 at *
  clear hB hB2 hc hl
  go_enter Tryz.func77, Tryz.ntmps77
  go_wp2_with (first | (go_at_call 95; refine HM.out.mono ?_; rintro e w' ⟨rfl, rfl⟩) | (go_at_call 67; refine HN.out.mono ?_; rintro e w' ⟨rfl, rfl⟩))
  go_ret2
  exact ⟨Keep.refl _ _, .inr ⟨HB.out, rfl⟩⟩
 ·have HN := (show Hid (Calls Tryz.prog 67 _ w _) from newB_good a2 cap2 gb2 off2 bs w hB2 hl h0)
  have HH := (show Hid (Bytes w a cap gb off ws ∧ IsCode ws m ∧ bs[bs.length - 1]?.getD 0 ≠ 0 ∧ n ≤ 131072) from ⟨hB, hc, h0, hn⟩)
  have hgw : ws ≠ [] → gb < w.heap.size := fun h => hB.block h
  have hwne : ws ≠ [] := by have := hc.len2; intro e; rw [e] at this; simp at this
  have HG := (show Hid (gb < w.heap.size) from hgw hwne)
  have hTl := Tl.tailLen_le bs hB2.lt
  have hpl := posU_le ws m bs n
  have hpl2 : n * (m + 1) ≤ 131072 * 12 := Nat.mul_le_mul hn (by omega)
  have HT := (show Hid (Tl.tailLen bs < 1125899906842624 ∧ posU ws m bs n ≤ 1572864) from ⟨by omega, Nat.le_trans hpl (Nat.le_trans hpl2 (by decide))⟩)
  obtain ⟨n1, hn1'⟩ : ∃ n1, n1 = ws.length := ⟨_, rfl⟩
  obtain ⟨n2, hn2'⟩ : ∃ n2, n2 = bs.length := ⟨_, rfl⟩
  have HL := (show Hid (n1 = ws.length) from hn1')
  rw [← hn1'] at HM ⊢
  rw [← hn2'] at HN ⊢
  clear hB hB2 hc hl h0 hgw hwne hTl hpl hpl2 hn1' hn2' hn
  go_enter Tryz.func77, Tryz.ntmps77
  go_wp2_with (first | (go_at_call 95; refine HM.out.mono ?_; rintro e w' ⟨rfl, rfl⟩))
  refine HN.out.mono ?_
  rintro e w1 ⟨rb, g, rfl, h1, h2, hA, hK1⟩
  have HR := (show Hid (Calls Tryz.prog 96 _ w1 _) from readWords_any rb g bs a cap gb off ws m n w1 hA (HH.out.1.keep hK1 (fun _ h => h)) HH.out.2.1 HH.out.2.2.2 (by have := HG.out; omega))
  rw [← HL.out] at HR
  clear hA
  go_wp2_with fail
  refine HR.out.mono ?_
  rintro e w2 ⟨v, rfl, hown, hA2, hK2, hnew⟩
  obtain ⟨sa, scap, rfl⟩ := owns_form hown
  have HLf := (show Hid (Calls Tryz.prog 72 _ w2 _) from hA2.left)
  have HE := (show Hid (w2.ownsRow 0 5 1 (.slice sa n scap) n (u8s ((List.range n).map (symU ws m bs))) ∧ Keep noBlock w' w2) from ⟨hown, hK1.trans hK2 (fun i hi e => by omega)⟩)
  clear HR hown hA2 hK1 hK2 hnew
  go_wp2_with fail
  refine HLf.out.mono ?_
  rintro e w3 ⟨rfl, q, rfl⟩
  have hT := HT.out
  have HD := (show Hid (unpOk ws m bs n = decide (posU ws m bs n = Tl.tailLen bs)) from by
   unfold unpOk
   rw [Bool.eq_iff_iff, decide_eq_true_iff, decide_eq_true_iff]
   exact ⟨fun h => h.2, fun h => ⟨HH.out.2.2.1, h⟩⟩)
  clear HLf
  generalize posU ws m bs n = p at *
  generalize Tl.tailLen bs = T at *
  obtain ⟨z, hz⟩ : ∃ z : Int, z = (T : Int) - ((p + m : Nat) : Int) + (m : Int) := ⟨_, rfl⟩
  have hz2 : (T : Int) - ((p : Int) + (m : Int)) + (m : Int) = z := by omega
  have hzl : -4503599627370496 < z ∧ z < 4503599627370496 := by omega
  have HZ := (show Hid _ from hz)
  clear hz
  rw [show (((p + m : Nat) : Int)) = (p : Int) + (m : Int) from by omega]
  by_cases hp : p = T
  ·have hz0 : (z != 0) = false := by have := HZ.out; simp; omega
   have HP := (show Hid (p = T) from hp)
   clear hp
   go_wp2_with fail
   go_ret2
   exact ⟨HE.out.2.trans' (keep_drewN w2 q), .inl ⟨by rw [HD.out]; exact decide_eq_true HP.out, _, rfl, HE.out.1⟩⟩
  ·have hz0 : (z != 0) = true := by have := HZ.out; simp; omega
   go_wp2_with fail
   go_ret2
   exact ⟨HE.out.2.trans' (keep_drewN w2 q), .inr ⟨by rw [HD.out]; exact decide_eq_false hp, rfl⟩⟩

end Go.Proofs.YtnjilcokkhodmaaGreatDoor

namespace Go.Proofs.YtnjilcokkhodmaaGreatDoor
open Go.RowKit Go.Shelf
set_option linter.unusedVariables false

theorem wpList_append_run {ops : Array Oper} {rest : List Oper} {o : Oper} {a : Act} {Q : Exit → Act → World → Prop} (w : World) (hgd : o.guard = none) (s x : Operand) (t : TypeId)
  (ho : o.op = .call { callee := .builtin .append, args := #[s, x], argTypes := #[t, t] }) (v sv v' : Value) (w' : World) (hs : a.eval s = v) (hx : a.eval x = sv)
  (hr : (Builtin.append_ #[t, t] o.type #[v, sv]).run Tryz.prog w = .ok v' w') (hk : wpList Tryz.prog ops Q rest (a.put o.dst v') w') : wpList Tryz.prog ops Q (o :: rest) a w := by
 refine wpList_plain hgd fun K hK => ?_
 unfold Oper.wp execOp
 simp only [ho, resolve, invoke, builtin, Sem.run_bind, Sem.run_pure, Result.andThen_ok, List.map_toArray, List.map_cons, List.map_nil, hs, hx, hr]
 exact hK _ _ hk

theorem own_push {W : World} {v : Value} {M : List Nat} (h : W.ownsRow 0 5 1 v M.length (u8s M)) (x : Nat) (hl : M.length ≤ 1000000) :
  ∃ v' W', (Builtin.append_ #[22, 22] 22 #[v, .slice (some ⟨W.heap.size, 0, none⟩) 1 1]).run Tryz.prog (W.alloc (.cells #[.int .u8 (x : Int)] 5)) = .ok v' W' ∧ W'.ownsRow 0 5 1 v' (M ++ [x]).length (u8s (M ++ [x])) ∧ Keep (fun k => v.ownBlock = some k) W W' ∧ (v'.ownBlock = v.ownBlock ∨ ∃ k, v'.ownBlock = some k ∧ W.heap.size ≤ k) := by
 have hka : Keep noBlock W (W.alloc (.cells #[.int .u8 (x : Int)] 5)) := (Keep.refl _ W).alloc _
 have hs : SrcB (W.alloc (.cells #[.int .u8 (x : Int)] 5)) (.slice (some ⟨W.heap.size, 0, none⟩) 1 1) [x] := .inr ⟨_, 1, rfl, fun j u hu => by
  have hj : j < 1 := by have := (List.getElem?_eq_some_iff.1 hu).1; rwa [u8s_length] at this
  obtain rfl : j = 0 := by omega
  rw [← hu, addO]
  exact cell_of (World.alloc_heap_new W _) 0⟩
 obtain ⟨v', W', hr, ho, hk, hm⟩ := run_append_all (W.alloc (.cells #[.int .u8 (x : Int)] 5)) 22 v M [x] (owns_kept h hka (fun _ _ h => h)) (by simp; omega) _ hs
 refine ⟨v', W', hr, ho, (hka.mono (fun _ _ h => h.elim)).trans hk (fun _ _ h => h), ?_⟩
 rcases hm with e | ⟨k, e, hk⟩
 ·exact .inl e
 ·exact .inr ⟨k, e, by rw [World.size_alloc] at hk; omega⟩

def usedN (h : Nat) : Nat := if h ≤ 127 then 1 + h else 1 + (h - 127 + 1) / 2
set_option maxHeartbeats 400000 in
theorem describedIn_any (h : Nat) (hh : h < 256) (w : World) : Calls Tryz.prog 78 #[.int .u8 (h : Int)] w fun e w' => e = .returned (.int .i64 ((usedN h : Nat) : Int)) ∧ w' = w := by
 unfold usedN
 by_cases h1 : h ≤ 127
 ·rw [if_pos h1]
  have hI : (h : Int) ≤ 127 := by omega
  go_enter Tryz.func78, Tryz.ntmps78
  go_wp2
  go_ret
  exact ⟨by simp, rfl⟩
 ·rw [if_neg h1]
  have hI : ¬ (h : Int) ≤ 127 := by omega
  obtain ⟨d, hd⟩ : ∃ d, d = (h - 127 + 1) / 2 := ⟨_, rfl⟩
  rw [← hd]
  have hdI : ((h : Int) - 127 + 1) / 2 = (d : Int) := by omega
  have hdT : ((h : Int) - 127 + 1).tdiv 2 = (d : Int) := by rw [Int.tdiv_eq_ediv_of_nonneg (by omega)]; exact hdI
  have hhI : (h : Int) < 256 := by omega
  have hd2 : (d : Int) < 100 := by omega
  clear hd
  go_enter Tryz.func78, Tryz.ntmps78
  go_wp2
  go_ret
  exact ⟨by simp, rfl⟩

def fourW (bs : List Nat) (k : Nat) : Nat := if k % 2 = 1 then bs[k / 2]?.getD 0 % 16 else bs[k / 2]?.getD 0 / 16
theorem fourW_lt (bs : List Nat) (k : Nat) (h : ∀ j : Nat, bs[j]?.getD 0 < 256) : fourW bs k < 16 := by
 have := h (k / 2)
 unfold fourW
 split <;> omega
theorem and15 (x : Nat) (h : x < 256) : bits .and .u8 (x : Int) 15 = ((x % 16 : Nat) : Int) := by
 revert h; revert x; decide +kernel

set_option maxRecDepth 100000 in
set_option maxHeartbeats 2000000 in
theorem tellFours_any (a : Option Addr) (cap gb off : Nat) (bs : List Nat) (n : Nat) (w : World) (hB : Bytes w a cap gb off bs) (hn : n ≤ 128) (hl : (n + 1) / 2 ≤ bs.length) :
  Calls Tryz.prog 97 #[.slice a bs.length cap, .int .i64 (n : Int)] w fun e w' => ∃ v, e = .returned v ∧ w'.ownsRow 0 5 1 v n (u8s ((List.range n).map (fourW bs))) ∧ Keep noBlock w w' ∧ ∀ k, v.ownBlock = some k → w.heap.size ≤ k := by
 have hmk : ∀ W : World, _ := fun W => run_make_u8 n n (Nat.le_refl _) (by omega) W
 have hnI : (n : Int) ≤ 128 := by omega
 have HB := (show Hid (Bytes w a cap gb off bs) from hB)
 obtain ⟨N, hN⟩ : ∃ N, N = bs.length := ⟨_, rfl⟩
 have HN := (show Hid (N = bs.length) from hN)
 rw [← hN] at hl ⊢
 have h48 := hB.len
 have hNI : (N : Int) < 281474976710656 := by omega
 clear hB hN h48
 obtain ⟨tb, htb⟩ : ∃ tb, tb = w.heap.size := ⟨_, rfl⟩
 have HR := (show Hid (RowK (w.alloc (.cells (u8s (List.replicate n 0)).toArray 5)) tb n (fourW bs) 0 ∧ Keep noBlock w (w.alloc (.cells (u8s (List.replicate n 0)).toArray 5))) from by rw [htb]; exact ⟨rowK_new w n _, (Keep.refl _ w).alloc _⟩)
 have HT := (show Hid (tb = w.heap.size) from htb)
 go_enter Tryz.func97, Tryz.ntmps97
 go_wp2
 rw [← htb]
 clear htb
 go_loopw [11] (fun v11 wr => ∃ i : Nat, v11 = .int .i64 (i : Int) ∧ i ≤ n ∧ Hid (RowK wr tb n (fourW bs) i ∧ Keep noBlock w wr)) (fun v11 _ => n - (intOf v11).toNat)
 case atStart => exact ⟨0, rfl, Nat.zero_le _, HR.out⟩
 case round =>
  clear HR
  obtain ⟨i, rfl, hi, HC⟩ := hrel
  by_cases hlt : i < n
  ·have hltI : (i : Int) < (n : Int) := by omega
   obtain ⟨hRow, hK⟩ := HC.out
   obtain ⟨d, hd⟩ : ∃ d, d = i / 2 := ⟨_, rfl⟩
   have hdx : d < bs.length := by have := HN.out; omega
   obtain rfl := HB.out.here hdx
   have hgb := HB.out.block (by intro e; rw [e] at hdx; simp at hdx)
   have hBr := HB.out.keep hK (fun _ h => h)
   have c1 := hBr.cells d hdx
   have hx256 := HB.out.lt d
   have hdN : (d : Int) < (N : Int) := by have := HN.out; omega
   have hdI : (i : Int) / 2 = (d : Int) := by omega
   have hdT : (i : Int).tdiv 2 = (d : Int) := by rw [Int.tdiv_eq_ediv_of_nonneg (by omega)]; exact hdI
   obtain ⟨x0, c2⟩ := hRow.cell i hlt
   have f2 := hRow.frozen i
   have hst := hRow.step hlt
   have htw := HT.out
   have hks : ∀ x : Value, Keep (fun k => k = tb) wr (wr.setCell ⟨tb, i, none⟩ x) := fun x => (Keep.refl (fun k => k = tb) wr).setCell (p := ⟨tb, i, none⟩) (fun _ => rfl) _
   have hfw : fourW bs i = if i % 2 = 1 then bs[d]?.getD 0 % 16 else bs[d]?.getD 0 / 16 := by rw [hd]; rfl
   obtain ⟨y, hy⟩ : ∃ y, y = bs[d]?.getD 0 := ⟨_, rfl⟩
   rw [← hy] at c1 hx256 hfw
   have hyI : (y : Int) < 256 := by omega
   have hsh : (y : Int) / 2 ^ 4 = ((y / 16 : Nat) : Int) := by omega
   obtain ⟨z, hz⟩ : ∃ z, z = y / 16 := ⟨_, rfl⟩
   rw [← hz] at hsh
   have hzI : (z : Int) < 16 := by omega
   have hsh2 : (y : Int) / 16 = (z : Int) := by omega
   by_cases hp : i % 2 = 1
   ·rw [if_pos hp] at hfw
    obtain ⟨u, hu⟩ : ∃ u, u = y % 16 := ⟨_, rfl⟩
    have h15 := and15 y hx256
    rw [← hu] at h15 hfw
    rw [hfw] at hst
    have hmI : (i : Int) % 2 = 1 := by omega
    have hmT : (i : Int).tmod 2 = 1 := by rw [Int.tmod_eq_emod_of_nonneg (by omega)]; exact hmI
    have c3 : (wr.setCell ⟨tb, i, none⟩ (.int .u8 (z : Int))).cell? ⟨gb, off + d, none⟩ = some (.int .u8 (y : Int)) := (World.cell?_of_block ((hks _).block gb (Nat.lt_of_lt_of_le hgb hK.size) (by omega))).trans c1
    have hR1 : RowK (wr.setCell ⟨tb, i, none⟩ (.int .u8 (z : Int))) tb n (fourW bs) i := by
     obtain ⟨cs, o1, o2, o3, o4⟩ := hRow
     refine ⟨_, set_obj o1 _ _, by rw [Array.size_setIfInBounds, o2], fun j hj => ?_, fun j hj => ?_⟩
     ·rw [Array.getElem?_setIfInBounds]
      by_cases e : i = j
      ·subst e; rw [if_pos rfl, if_pos (by omega)]; exact ⟨_, rfl⟩
      ·rw [if_neg e]; exact o3 j hj
     ·rw [Array.getElem?_setIfInBounds, if_neg (by omega)]; exact o4 j hj
    have hst2 := hR1.step hlt
    rw [hfw] at hst2
    have HST := (show Hid (RowK ((wr.setCell ⟨tb, i, none⟩ (.int .u8 (z : Int))).setCell ⟨tb, i, none⟩ (.int .u8 (u : Int))) tb n (fourW bs) (i + 1) ∧ Keep noBlock w ((wr.setCell ⟨tb, i, none⟩ (.int .u8 (z : Int))).setCell ⟨tb, i, none⟩ (.int .u8 (u : Int)))) from ⟨hst2, (hK.setCell (p := ⟨tb, i, none⟩) (fun h => by dsimp only at h; omega) _).setCell (p := ⟨tb, i, none⟩) (fun h => by dsimp only at h; omega) _⟩)
    obtain ⟨x1, c4⟩ := hR1.cell i hlt
    have f4 := hR1.frozen i
    have htn : tb ≠ gb := by omega
    clear hst hst2 hR1 hRow hK hBr hks hd hy hz hu hfw HC htw hp
    go_wp2
    go_roundw
    case rel => exact ⟨i + 1, by go_num, by omega, HST.out⟩
    case measure => simp [intOf]; omega
   ·rw [if_neg hp, ← hz] at hfw
    rw [hfw] at hst
    have hmI : (i : Int) % 2 = 0 := by omega
    have hmT : (i : Int).tmod 2 = 0 := by rw [Int.tmod_eq_emod_of_nonneg (by omega)]; exact hmI
    have HST := (show Hid (RowK (wr.setCell ⟨tb, i, none⟩ (.int .u8 (z : Int))) tb n (fourW bs) (i + 1) ∧ Keep noBlock w (wr.setCell ⟨tb, i, none⟩ (.int .u8 (z : Int)))) from ⟨hst, hK.setCell (p := ⟨tb, i, none⟩) (fun h => by dsimp only at h; omega) _⟩)
    clear hst hRow hK hBr hks hd hy hz hfw HC htw hp
    go_wp2
    go_roundw
    case rel => exact ⟨i + 1, by go_num, by omega, HST.out⟩
    case measure => simp [intOf]; omega
  ·obtain rfl : i = n := by omega
   have hltI : ¬ (i : Int) < (i : Int) := by omega
   go_wp2
   go_ret
   exact ⟨_, rfl, HC.out.1.owns (by omega), HC.out.2, fun j hj => by
    obtain rfl : tb = j := by simpa [Value.ownBlock] using hj
    rw [HT.out]; exact Nat.le_refl _⟩

end Go.Proofs.YtnjilcokkhodmaaGreatDoor

namespace Go.Proofs.YtnjilcokkhodmaaGreatDoor
open Go.RowKit Go.Shelf
set_option linter.unusedVariables false

def lastW (M : List Nat) : Nat := lenN (2 ^ lenN (sumW M M.length) - sumW M M.length)
theorem wt_app (M : List Nat) (x i : Nat) (h : i < M.length) : wt (M ++ [x]) i = wt M i := by unfold wt; rw [List.getElem?_append_left h]
theorem codeB_okW {M : List Nat} (x : Nat) (h : okW M = false) : codeB (M ++ [x]) = false := by
 refine codeB_ok (decide_eq_false (fun q => (of_decide_eq_false h) (fun i hi => ?_)))
 have := q i (by simp; omega)
 rwa [wt_app M x i hi] at this

def LastPost (M : List Nat) (w : World) (e : Ending) (w' : World) : Prop :=
 (codeB (M ++ [lastW M]) = true ∧ ∃ v, e = .returned (.tuple #[v, .bool true]) ∧ w'.ownsRow 0 5 1 v (M ++ [lastW M]).length (u8s (M ++ [lastW M])) ∧ ∀ k, v.ownBlock = some k → w.heap.size ≤ k) ∨
 (codeB (M ++ [lastW M]) = false ∧ ∃ v, e = .returned (.tuple #[v, .bool false]))

set_option maxRecDepth 100000 in
set_option maxHeartbeats 2000000 in
theorem withLast_any (w : World) (v : Value) (M : List Nat) (W : World) (hown : W.ownsRow 0 5 1 v M.length (u8s M)) (hlt : ∀ j : Nat, M[j]?.getD 0 < 256) (hl : M.length ≤ 255) (hnew : ∀ k, v.ownBlock = some k → w.heap.size ≤ k) (hsz : w.heap.size ≤ W.heap.size) :
    Calls Tryz.prog 80 #[v] W fun e W' => LastPost M w e W' ∧ Keep (fun k => w.heap.size ≤ k) W W' := by
  obtain ⟨a, cap, g, rfl, hB, hg⟩ := owns_bytes hown hlt (by omega)
  have HS := (show Hid (Calls Tryz.prog 101 _ W _) from sumOfW_any a cap g 0 M W hB (by omega))
  obtain ⟨n, hn⟩ : ∃ n, n = M.length := ⟨_, rfl⟩
  have HN := (show Hid (n = M.length) from hn)
  cases hok : okW M with
  | false =>
    have HC := (show Hid (codeB (M ++ [lastW M]) = false) from codeB_okW _ hok)
    have HS2 := (show Hid (Calls Tryz.prog 101 #[.slice a n cap] W fun e w' => e = .returned (.tuple #[.int .i64 0, .bool false]) ∧ w' = W) from by
      rw [hn]
      exact HS.out.mono (by
        rintro e w' ⟨h, rfl⟩
        rw [hok] at h
        rcases h with ⟨h, _⟩ | ⟨_, rfl⟩
        · cases h
        · exact ⟨rfl, rfl⟩))
    rw [← hn]
    clear HS hB hown hlt hnew hn hok hg
    go_enter Tryz.func80, Tryz.ntmps80
    go_wp2_with (go_at_call 101; refine HS2.out.mono ?_; rintro e w' ⟨rfl, rfl⟩)
    go_ret2
    exact ⟨.inr ⟨HC.out, _, rfl⟩, Keep.refl _ _⟩
  | true =>
    have HS2 := (show Hid (Calls Tryz.prog 101 #[.slice a n cap] W fun e w' => e = .returned (.tuple #[.int .i64 ((sumW M M.length : Nat) : Int), .bool true]) ∧ w' = W) from by
      rw [hn]
      exact HS.out.mono (by
        rintro e w' ⟨h, rfl⟩
        rw [hok] at h
        rcases h with ⟨_, rfl⟩ | ⟨h, _⟩
        · exact ⟨rfl, rfl⟩
        · cases h))
    have hsb := sumW_le M M.length (of_decide_eq_true hok)
    have hS18 : sumW M M.length < 262144 := by omega
    have hl18 : lenN (sumW M M.length) ≤ 18 := lenN_le _ _ (by omega)
    have hp18 : 2 ^ lenN (sumW M M.length) ≤ 262144 := Nat.pow_le_pow_right (n := 2) (j := 18) (by omega) hl18
    have hSP : sumW M M.length ≤ 2 ^ lenN (sumW M M.length) := by
      by_cases h0 : sumW M M.length = 0
      · rw [h0]; exact Nat.zero_le _
      · exact Nat.le_of_lt (lenN_pos _ h0).2.1
    have HL1 := (show Hid (∀ w : World, _) from fun w => len_big (sumW M M.length) (by omega) w)
    have hlw : lastW M = lenN (2 ^ lenN (sumW M M.length) - sumW M M.length) := rfl
    obtain ⟨L1, hL1⟩ : ∃ L1, L1 = lenN (sumW M M.length) := ⟨_, rfl⟩
    obtain ⟨P, hP⟩ : ∃ P, P = 2 ^ lenN (sumW M M.length) := ⟨_, rfl⟩
    obtain ⟨S, hS⟩ : ∃ S, S = sumW M M.length := ⟨_, rfl⟩
    have hPI : wrap64 ((2 : Int) ^ L1) = (P : Int) := by
      have e : (2 : Int) ^ L1 = (P : Int) := by rw [hP, hL1]; simp
      rw [e]
      rw [← hP] at hp18
      clear e hP hlw hSP
      unfold wrap64; omega
    rw [← hP] at hlw hp18 hSP
    rw [← hL1] at HL1 hl18
    rw [← hS] at HL1 HS2 hlw hSP hS18
    have hwant : P - S ≤ 262144 := by clear hPI; omega
    obtain ⟨D, hD⟩ : ∃ D, D = P - S := ⟨_, rfl⟩
    rw [← hD] at hlw
    have hDI : (P : Int) - (S : Int) = (D : Int) := by clear hPI; omega
    have HL2 := (show Hid (∀ w : World, Calls Tryz.prog 92 #[.int .u64 (D : Int)] w fun e w' => e = .returned (.int .i64 ((lastW M : Nat) : Int)) ∧ w' = w) from fun w => by rw [hlw]; exact len_big D (by clear hPI; omega) w)
    have hlw19 : lastW M ≤ 19 := by rw [hlw]; exact lenN_le _ _ (by clear hPI; omega)
    obtain ⟨v', W', hrun, hown', hk', hm'⟩ := own_push hown (lastW M) (by omega)
    have hnew' : ∀ k, v'.ownBlock = some k → w.heap.size ≤ k := fun k e => by
      rcases hm' with e2 | ⟨j, e2, hj⟩
      · rw [e2] at e; exact hnew k e
      · rw [e2] at e; cases e; omega
    have hlt' : ∀ j : Nat, (M ++ [lastW M])[j]?.getD 0 < 256 := lt_app hlt (lt256 (fun b hb => by rw [List.mem_singleton.1 hb]; omega))
    obtain ⟨a', cap', g', rfl, hB', hg'⟩ := owns_bytes hown' hlt' (by simp; omega)
    have HM := (show Hid (Calls Tryz.prog 95 _ W' _) from makeCode_any a' cap' g' 0 (M ++ [lastW M]) W' hB')
    have HF := (show Hid (W'.ownsRow 0 5 1 (.slice a' (M ++ [lastW M]).length cap') (M ++ [lastW M]).length (u8s (M ++ [lastW M])) ∧ Keep (fun k => w.heap.size ≤ k) W W' ∧ ∀ k, (Value.slice a' (M ++ [lastW M]).length cap').ownBlock = some k → w.heap.size ≤ k) from ⟨hown', hk'.mono (fun i hi e => hnew i e), hnew'⟩)
    rw [← hn] at hrun
    obtain ⟨n', hn'⟩ : ∃ n', n' = (M ++ [lastW M]).length := ⟨_, rfl⟩
    rw [← hn'] at hrun HM HF
    have HN' := (show Hid (n' = (M ++ [lastW M]).length) from hn')
    rw [← hn]
    clear HS hB hown hlt hnew hn hok hg hn' hown' hk' hm' hnew' hlt' hB' hg' hlw hD hP hL1 hS hsb hSP
    obtain ⟨lw, hlwe⟩ : ∃ lw, lastW M = lw := ⟨_, rfl⟩
    rw [hlwe] at HL2 hlw19 hrun HM HF HN'
    have HLW := (show Hid (lastW M = lw) from hlwe)
    clear hlwe
    have hlwI : (lw : Int) ≤ 19 := by omega
    have hDl : (D : Int) ≤ 262144 := by omega
    have hL1I : (L1 : Int) ≤ 18 := by omega
    clear hwant hp18 hl18
    go_enter Tryz.func80, Tryz.ntmps80
    go_wp2_with (go_at_call 101; refine HS2.out.mono ?_; rintro e w' ⟨rfl, rfl⟩)
    refine (HL1.out _).mono ?_
    rintro e w2 ⟨rfl, rfl⟩
    have HX := (show Hid _ from hS18)
    clear hS18
    go_wp2_with fail
    refine (HL2.out _).mono ?_
    rintro e w3 ⟨rfl, rfl⟩
    clear hPI hDI
    go_wp2_with (at_builtin; refine wpList_append_run _ rfl _ _ 22 rfl _ _ _ _ rfl rfl hrun ?_)
    refine HM.out.mono ?_
    rintro e w4 ⟨l, rfl, -, rfl⟩
    cases hcb : codeB (M ++ [lw]) with
    | true =>
      go_wp2_with fail
      go_ret2
      exact ⟨.inl ⟨by rw [HLW.out]; exact hcb, _, rfl, by rw [HLW.out, ← HN'.out]; exact HF.out.1, HF.out.2.2⟩, HF.out.2.1⟩
    | false =>
      go_wp2_with fail
      go_ret2
      exact ⟨.inr ⟨by rw [HLW.out]; exact hcb, _, rfl⟩, HF.out.2.1⟩

end Go.Proofs.YtnjilcokkhodmaaGreatDoor

namespace Go.Proofs.YtnjilcokkhodmaaGreatDoor
open Go.RowKit Go.Shelf
set_option linter.unusedVariables false

def TellPost (T : Option (List Nat)) (w : World) (e : Ending) (w' : World) : Prop :=
 Keep noBlock w w' ∧ match T with
  | none => e = .returned (.tuple #[.slice none 0 0, .bool false])
  | some M => ∃ v, e = .returned (.tuple #[v, .bool true]) ∧ w'.ownsRow 0 5 1 v M.length (u8s M) ∧ ∀ k, v.ownBlock = some k → w.heap.size ≤ k
def readOf : Option (List Nat) → Option (List Nat)
 | none => none
 | some M => if codeB (M ++ [lastW M]) then some (M ++ [lastW M]) else none
theorem readOf_yes {M : List Nat} (h : codeB (M ++ [lastW M]) = true) : readOf (some M) = some (M ++ [lastW M]) := if_pos h
theorem readOf_no {M : List Nat} (h : codeB (M ++ [lastW M]) = false) : readOf (some M) = none := if_neg (by rw [h]; decide)
def ReadPost (R : Option (List Nat)) (u : Nat) (w : World) (e : Ending) (w' : World) : Prop :=
 Keep noBlock w w' ∧ match R with
  | none => e = .returned (.tuple #[.slice none 0 0, .int .i64 0, .int .i64 11])
  | some ws => ∃ v, e = .returned (.tuple #[v, .int .i64 (u : Int), .int .i64 0]) ∧ w'.ownsRow 0 5 1 v ws.length (u8s ws) ∧ ∀ k, v.ownBlock = some k → w.heap.size ≤ k

set_option maxRecDepth 100000 in
set_option maxHeartbeats 2000000 in
theorem read_short (a : Option Addr) (cap gb off : Nat) (bs : List Nat) (w : World) (hB : Bytes w a cap gb off bs) (hs : bs.length < usedN (bs[0]?.getD 0)) :
  Calls Tryz.prog 61 #[.slice a bs.length cap] w fun e w' => e = .returned (.tuple #[.slice none 0 0, .int .i64 0, .int .i64 10]) ∧ w' = w := by
 by_cases h0 : bs.length = 0
 ·rw [h0]
  go_enter Tryz.func61, Tryz.ntmps61
  go_wp2
  exact bodyPost_ret (by simp [results, Tryz.results61]) rfl ⟨rfl, rfl⟩
 ·obtain rfl := hB.here (i := 0) (by omega)
  have c0 := hB.cells 0 (by omega)
  have hx := hB.lt 0
  have HD := (show Hid (∀ w : World, _) from fun w => describedIn_any (bs[0]?.getD 0) hx w)
  rw [Nat.add_zero] at c0
  have h48 := hB.len
  obtain ⟨n, hn⟩ : ∃ n, n = bs.length := ⟨_, rfl⟩
  rw [← hn] at hs h0 h48 ⊢
  generalize bs[0]?.getD 0 = h at *
  generalize usedN h = u at *
  have hsI : (n : Int) < (u : Int) := by omega
  have hn0 : ((n : Int) == 0) = false := by rw [beq_eq_false_iff_ne]; omega
  have hn1 : (0 : Int) < (n : Int) := by omega
  clear hB hn h48
  go_enter Tryz.func61, Tryz.ntmps61
  go_wp2_with (go_at_call 78; refine (HD.out _).mono ?_; rintro e w' ⟨rfl, rfl⟩)
  exact bodyPost_ret (by simp [results, Tryz.results61]) rfl ⟨rfl, rfl⟩

section
attribute [local go_sem] sliceSem_eq
set_option maxRecDepth 100000 in
set_option maxHeartbeats 2000000 in
theorem read_told (a : Option Addr) (cap gb off : Nat) (bs : List Nat) (u : Nat) (T : Option (List Nat)) (w : World) (hB : Bytes w a cap gb off bs) (hne : bs ≠ []) (hu : u = usedN (bs[0]?.getD 0)) (hs : u ≤ bs.length)
    (hT : Calls Tryz.prog 79 #[.slice a (bs.take u).length cap] w fun e w' => TellPost T w e w') (hM : ∀ M, T = some M → M.length ≤ 255 ∧ ∀ j : Nat, M[j]?.getD 0 < 256) :
    Calls Tryz.prog 61 #[.slice a bs.length cap] w fun e w' => ReadPost (readOf T) u w e w' := by
  have hpos : 0 < bs.length := List.length_pos_iff.2 hne
  obtain rfl := hB.here (i := 0) hpos
  have c0 := hB.cells 0 hpos
  have hx := hB.lt 0
  have HD := (show Hid (∀ w : World, _) from fun w => describedIn_any (bs[0]?.getD 0) hx w)
  rw [← hu] at HD
  rw [Nat.add_zero] at c0
  have h48 := hB.len
  have hrun := (hB.take u hs).1
  have HT := (show Hid (Calls Tryz.prog 79 #[.slice (some ⟨gb, off, none⟩) (bs.take u).length cap] w fun e w' => TellPost T w e w') from hT)
  have hu256 : u ≤ 256 := by rw [hu]; unfold usedN; split <;> omega
  obtain ⟨n, hn⟩ : ∃ n, n = bs.length := ⟨_, rfl⟩
  obtain ⟨k, hk⟩ : ∃ k, k = (bs.take u).length := ⟨_, rfl⟩
  rw [← hn] at hs hpos h48 hrun ⊢
  rw [← hk] at HT hrun
  generalize bs[0]?.getD 0 = h at *
  have hsI : ¬ (n : Int) < (u : Int) := by omega
  have hn0 : ((n : Int) == 0) = false := by rw [beq_eq_false_iff_ne]; omega
  have hn1 : (0 : Int) < (n : Int) := by omega
  have huI : (u : Int) ≤ 256 := by omega
  clear hB hn h48 hT hu hk hne hu256
  cases T with
  | none =>
    go_enter Tryz.func61, Tryz.ntmps61
    go_wp2_with (first | (go_at_call 78; refine (HD.out _).mono ?_; rintro e w' ⟨rfl, rfl⟩) | (go_at_call 79; refine HT.out.mono ?_; rintro e w1 ⟨hK, rfl⟩))
    exact bodyPost_ret (by simp [results, Tryz.results61]) rfl ⟨hK, rfl⟩
  | some M =>
    obtain ⟨hl, hlt⟩ := hM M rfl
    have HM := (show Hid (M.length ≤ 255 ∧ ∀ j : Nat, M[j]?.getD 0 < 256) from ⟨hl, hlt⟩)
    clear hl hlt hM
    go_enter Tryz.func61, Tryz.ntmps61
    go_wp2_with (go_at_call 78; refine (HD.out _).mono ?_; rintro e w' ⟨rfl, rfl⟩)
    refine HT.out.mono ?_
    rintro e w1 ⟨hK, v, rfl, hown, hnew⟩
    have HL := (show Hid (Calls Tryz.prog 80 _ w1 _) from withLast_any _ v M w1 hown HM.out.2 HM.out.1 hnew hK.size)
    obtain ⟨sa, scap, rfl⟩ := owns_form hown
    have HK := (show Hid (Keep noBlock w' w1) from hK)
    clear hown hnew HT hK c0
    go_wp2_with fail
    refine HL.out.mono ?_
    rintro e w2 ⟨hP, hK2⟩
    have HK2 := (show Hid (Keep noBlock w' w2) from HK.out.trans hK2 (fun i hi e => by omega))
    rcases hP with ⟨hc, v2, rfl, hown2, hnew2⟩ | ⟨hc, v2, rfl⟩
    · obtain ⟨sb, bcap, rfl⟩ := owns_form hown2
      have HO := (show Hid (w2.ownsRow 0 5 1 (.slice sb (M ++ [lastW M]).length bcap) (M ++ [lastW M]).length (u8s (M ++ [lastW M])) ∧ readOf (some M) = some (M ++ [lastW M]) ∧ ∀ k, (Value.slice sb (M ++ [lastW M]).length bcap).ownBlock = some k → w'.heap.size ≤ k) from ⟨hown2, readOf_yes hc, hnew2⟩)
      obtain ⟨L, hL⟩ : ∃ L, L = (M ++ [lastW M]).length := ⟨_, rfl⟩
      rw [← hL] at HO ⊢
      have HLL := (show Hid (L = (M ++ [lastW M]).length) from hL)
      clear hL
      clear hown2 hnew2 hK2
      go_wp2_with fail
      refine bodyPost_ret (by simp [results, Tryz.results61]; rfl) rfl ⟨HK2.out, ?_⟩
      rw [HO.out.2.1]
      exact ⟨_, rfl, by rw [← HLL.out]; exact HO.out.1, HO.out.2.2⟩
    · have HO := (show Hid (readOf (some M) = none) from readOf_no hc)
      clear hK2
      go_wp2_with fail
      refine bodyPost_ret (by simp [results, Tryz.results61]; rfl) rfl ⟨HK2.out, ?_⟩
      rw [HO.out]

set_option maxRecDepth 100000 in
set_option maxHeartbeats 2000000 in
theorem tell_fours (a : Option Addr) (cap gb off : Nat) (bs : List Nat) (n : Nat) (w : World) (hB : Bytes w a cap gb off bs) (hne : bs ≠ []) (h1 : bs[0]?.getD 0 = n + 127) (h2 : 1 ≤ n) (h3 : (n + 1) / 2 + 1 ≤ bs.length) :
  Calls Tryz.prog 79 #[.slice a bs.length cap] w fun e w' => TellPost (some ((List.range n).map (fourW (bs.drop 1)))) w e w' := by
 have hpos : 0 < bs.length := List.length_pos_iff.2 hne
 obtain rfl := hB.here (i := 0) hpos
 have c0 := hB.cells 0 hpos
 have hx := hB.lt 0
 rw [Nat.add_zero] at c0
 have h48 := hB.len
 obtain ⟨a', off', hrun, hB', -⟩ := hB.drop 1 hpos
 have HF := (show Hid (∀ q, Calls Tryz.prog 97 #[.slice a' (bs.drop 1).length (cap - 1), .int .i64 (n : Int)] (w.drewN q) _) from fun q => tellFours_any a' (cap - 1) gb off' (bs.drop 1) n (w.drewN q) (hB'.keep (keep_drewN w q) (fun _ h => h)) (by omega) (by rw [List.length_drop]; omega))
 obtain ⟨N, hN⟩ : ∃ N, N = bs.length := ⟨_, rfl⟩
 obtain ⟨k, hk⟩ : ∃ k, k = (bs.drop 1).length := ⟨_, rfl⟩
 obtain ⟨c', hc'⟩ : ∃ c', c' = cap - 1 := ⟨_, rfl⟩
 rw [← hk, ← hc'] at HF
 rw [← hN] at hpos h48 ⊢
 rw [← hN, ← hk, ← hc', show (((1 : Nat) : Int)) = (1 : Int) from rfl] at hrun
 obtain ⟨h, hh⟩ : ∃ h, h = bs[0]?.getD 0 := ⟨_, rfl⟩
 rw [← hh] at h1 hx c0
 have hgt : (127 : Int) < (h : Int) := by omega
 have hnI : (h : Int) - 127 = (n : Int) := by omega
 have hhI : (h : Int) < 256 := by omega
 have hp1 : (0 : Int) < (N : Int) := by omega
 have hML : ((List.range n).map (fourW (bs.drop 1))).length = n := by simp
 have HML := (show Hid _ from hML)
 clear hB hB' hN hk hc' hh h1 hx h48 hne h3 hML
 go_enter Tryz.func79, Tryz.ntmps79
 go_wp2_with fail
 go_quiet (fail)
 go_wp2_with (go_at_call 97; refine (HF.out _).mono ?_; rintro e w1 ⟨v, rfl, hown, hK, hnew⟩)
 go_ret2
 exact ⟨(keep_drewN w _).trans' hK, v, rfl, by rw [HML.out]; exact hown, hnew⟩
end

end Go.Proofs.YtnjilcokkhodmaaGreatDoor

namespace Go.Proofs.YtnjilcokkhodmaaGreatDoor
open Go.RowKit Go.Shelf
set_option linter.unusedVariables false

def unpC (ws bs : List Nat) (n : Int) : Nat := if codeB ws then (if 0 ≤ n ∧ n ≤ 131072 then (if unpOk ws (codeM ws) bs n.toNat then 0 else 11) else 2) else 50
def unpV (ws bs : List Nat) (n : Int) : List Nat := if unpC ws bs n = 0 then (List.range n.toNat).map (symU ws (codeM ws) bs) else []
def Ans (c : Nat) (bs : List Nat) (w : World) (e : Ending) (w' : World) : Prop :=
 Keep noBlock w w' ∧ ∃ a n cap, e = .returned (.tuple #[.slice a n cap, .int .i64 (c : Int)]) ∧ n = bs.length ∧ w'.ownsRow 0 5 1 (.slice a n cap) n (u8s bs)
theorem ans_none {c : Nat} {w w' : World} (hk : Keep noBlock w w') : Ans c [] w (.returned (.tuple #[.slice none 0 0, .int .i64 (c : Int)])) w' := ⟨hk, none, 0, 0, rfl, rfl, World.ownsRow_nil _ _ _ _⟩
theorem ans_row {c : Nat} {bs : List Nat} {v : Value} {w w' : World} (hk : Keep noBlock w w') (h : w'.ownsRow 0 5 1 v bs.length (u8s bs)) : Ans c bs w (.returned (.tuple #[v, .int .i64 (c : Int)])) w' := by
 obtain ⟨a, cap, rfl⟩ := owns_form h
 exact ⟨hk, a, _, cap, rfl, rfl, h⟩

theorem codeM_is {ws : List Nat} (h : codeB ws = true) : IsCode ws (codeM ws) := by
 have := codeB_is h
 unfold codeM
 rw [if_pos h]
 exact this
theorem unpV_no {ws bs : List Nat} {n : Int} (h : unpC ws bs n ≠ 0) : unpV ws bs n = [] := if_neg h
theorem unpV_lt (ws bs : List Nat) (n : Int) : ∀ j : Nat, (unpV ws bs n)[j]?.getD 0 < 256 := by
 by_cases h : unpC ws bs n = 0
 ·have hc : codeB ws = true := by
   unfold unpC at h
   by_cases e : codeB ws = true
   ·exact e
   ·rw [if_neg e] at h; omega
  have hI := codeM_is hc
  unfold unpV
  rw [if_pos h]
  refine lt256 (fun b hb => ?_)
  obtain ⟨k, _, rfl⟩ := List.mem_map.1 hb
  have h1 := (hI.sym (strm bs (posU ws (codeM ws) bs k) (codeM ws)) (strm_lt _ _ _)).1
  have h2 := hI.len
  show symX ws (codeM ws) (strm bs (posU ws (codeM ws) bs k) (codeM ws)) < 256
  omega
 ·rw [unpV_no h]; intro j; simp

set_option maxRecDepth 100000 in
set_option maxHeartbeats 2000000 in
theorem unpack_all (a : Option Addr) (cap gb off : Nat) (ws : List Nat) (a2 : Option Addr) (cap2 gb2 off2 : Nat) (bs : List Nat) (n : Int) (w : World) (hB : Bytes w a cap gb off ws) (hB2 : Bytes w a2 cap2 gb2 off2 bs) (hl : bs.length ≤ 140737488351232) :
    Calls Tryz.prog 77 #[.slice a ws.length cap, .slice a2 bs.length cap2, .int .i64 n] w fun e w' => Ans (unpC ws bs n) (unpV ws bs n) w e w' := by
  cases hc : codeB ws with
  | false =>
    have e1 : unpC ws bs n = 50 := by unfold unpC; rw [hc]; rfl
    have e2 := unpV_no (ws := ws) (bs := bs) (n := n) (by omega)
    rw [e1, e2]
    have HM := (show Hid (Calls Tryz.prog 95 #[.slice a ws.length cap] w fun e w' => ∃ l, e = .returned (.tuple #[.int .i64 l, .bool false]) ∧ w' = w) from made_not hc hB)
    generalize ws.length = n1 at *
    generalize bs.length = n2 at *
    clear hB hB2 hl
    go_enter Tryz.func77, Tryz.ntmps77
    go_wp2_with (go_at_call 95; refine HM.out.mono ?_; rintro e w' ⟨l, rfl, rfl⟩)
    go_ret2
    exact ans_none (Keep.refl _ _)
  | true =>
    have hI := codeM_is hc
    by_cases hn : 0 ≤ n ∧ n ≤ 131072
    · obtain ⟨k, rfl⟩ := Int.eq_ofNat_of_zero_le hn.1
      refine (unpack_any a cap gb off ws (codeM ws) a2 cap2 gb2 off2 bs k w hB hB2 hI hl (by omega)).mono ?_
      rintro e w' ⟨hk, ⟨h1, v, rfl, h2⟩ | ⟨h1, rfl⟩⟩
      · have e1 : unpC ws bs (k : Int) = 0 := by unfold unpC; rw [if_pos hc, if_pos hn, Int.toNat_natCast, if_pos h1]
        have e2 : unpV ws bs (k : Int) = (List.range k).map (symU ws (codeM ws) bs) := if_pos e1
        rw [e1, e2]
        refine ans_row hk ?_
        rw [show ((List.range k).map (symU ws (codeM ws) bs)).length = k from by simp]
        exact h2
      · have e1 : unpC ws bs (k : Int) = 11 := by unfold unpC; rw [if_pos hc, if_pos hn, Int.toNat_natCast, h1]; rfl
        have e2 := unpV_no (ws := ws) (bs := bs) (n := (k : Int)) (by omega)
        rw [e1, e2]
        exact ans_none hk
    · have e1 : unpC ws bs n = 2 := by unfold unpC; rw [if_pos hc, if_neg hn]
      have e2 := unpV_no (ws := ws) (bs := bs) (n := n) (by omega)
      rw [e1, e2]
      have HM := (show Hid (Calls Tryz.prog 95 #[.slice a ws.length cap] w fun e w' => e = .returned (.tuple #[.int .i64 ((codeM ws : Nat) : Int), .bool true]) ∧ w' = w) from made_is hI hB)
      generalize ws.length = n1 at *
      generalize bs.length = n2 at *
      clear hB hB2 hl hI
      by_cases h0 : n < 0
      · go_enter Tryz.func77, Tryz.ntmps77
        go_wp2_with (go_at_call 95; refine HM.out.mono ?_; rintro e w' ⟨rfl, rfl⟩)
        go_ret2
        exact ans_none (Keep.refl _ _)
      · have h1 : 131072 < n := by omega
        go_enter Tryz.func77, Tryz.ntmps77
        go_wp2_with (go_at_call 95; refine HM.out.mono ?_; rintro e w' ⟨rfl, rfl⟩)
        go_ret2
        exact ans_none (Keep.refl _ _)

end Go.Proofs.YtnjilcokkhodmaaGreatDoor

namespace Go.Proofs.YtnjilcokkhodmaaGreatDoor
open Go.RowKit Go.Shelf
set_option linter.unusedVariables false

def hbN (k f : Nat) : Nat := if k < 2 then (if f = 1 then 2 else if f = 3 then 3 else 1) else (if f = 2 then 4 else if f = 3 then 5 else 3)
def frN (k f : Nat) : Nat := if k < 2 ∧ (f = 0 ∨ f = 2) then 3 else 4
def btN (k f : Nat) : Nat := if k < 2 then (if f = 1 then 12 else if f = 3 then 20 else 5) else (if f = 2 then 14 else if f = 3 then 18 else 10)
def rwN (k f : Nat) : Nat := if k < 2 then 0 else if f = 0 then 1 else 4
theorem hbN_le (k f : Nat) : 1 ≤ hbN k f ∧ hbN k f ≤ 5 := by
 unfold hbN; repeat' split
 all_goals omega
theorem frN_le (k f : Nat) : 3 ≤ frN k f ∧ frN k f ≤ 4 := by unfold frN; split <;> omega
theorem btN_le (k f : Nat) : 5 ≤ btN k f ∧ btN k f ≤ 20 := by
 unfold btN; repeat' split
 all_goals omega
theorem rwN_is (k f : Nat) : (k < 2 ∧ rwN k f = 0) ∨ (2 ≤ k ∧ f = 0 ∧ rwN k f = 1) ∨ (2 ≤ k ∧ f ≠ 0 ∧ rwN k f = 4) := by
 unfold rwN; repeat' split
 all_goals omega
def numN : List Nat → Nat
 | [] => 0
 | b :: r => b + 256 * numN r
theorem numN_snoc (l : List Nat) (b : Nat) : numN (l ++ [b]) = numN l + 256 ^ l.length * b := by
 induction l with
 | nil => simp [numN]
 | cons x r ih => simp only [List.cons_append, numN, ih, List.length_cons, Nat.pow_succ]; rw [Nat.mul_add, Nat.mul_comm (256 ^ r.length) 256, Nat.mul_assoc]; omega
theorem numN_lt {l : List Nat} (h : ∀ b ∈ l, b < 256) : numN l < 256 ^ l.length := by
  induction l with
  | nil => simp [numN]
  | cons x r ih =>
    have h1 := ih (fun b hb => h b (List.mem_cons_of_mem _ hb))
    have h2 := h x List.mem_cons_self
    simp only [numN, List.length_cons, Nat.pow_succ]
    omega
theorem numN_take {l : List Nat} {k : Nat} (hk : k < l.length) : numN (l.take (k + 1)) = numN (l.take k) + 256 ^ k * l[k]?.getD 0 := by
 rw [List.take_add_one, List.getElem?_eq_getElem hk]
 simp only [Option.toList_some, Option.getD_some]
 rw [numN_snoc, List.length_take, Nat.min_eq_left (by omega)]

def hKi (bs : List Nat) : Nat := bs[0]?.getD 0 % 4
def hFo (bs : List Nat) : Nat := bs[0]?.getD 0 / 4 % 4
def hBy (bs : List Nat) : Nat := hbN (hKi bs) (hFo bs)
def hNu (bs : List Nat) : Nat := numN (bs.take (hBy bs))
def hSz (bs : List Nat) : Nat := hNu bs / 2 ^ frN (hKi bs) (hFo bs) % 2 ^ btN (hKi bs) (hFo bs)
def hPk (bs : List Nat) : Nat := if hKi bs < 2 then 0 else hNu bs / 2 ^ (frN (hKi bs) (hFo bs) + btN (hKi bs) (hFo bs)) % 2 ^ btN (hKi bs) (hFo bs)
def hRw (bs : List Nat) : Nat := rwN (hKi bs) (hFo bs)
def hBe (bs : List Nat) : Nat := if hKi bs = 0 then hSz bs else if hKi bs = 1 then 1 else hPk bs
theorem hKi_lt (bs : List Nat) : hKi bs < 4 := Nat.mod_lt _ (by decide)
theorem pow_bt (k f : Nat) : 2 ^ btN k f ≤ 1048576 := Nat.le_trans (Nat.pow_le_pow_right (by decide) (btN_le k f).2) (by decide)
theorem hSz_lt (bs : List Nat) : hSz bs < 1048576 := Nat.lt_of_lt_of_le (Nat.mod_lt _ (Nat.two_pow_pos _)) (pow_bt _ _)
theorem hPk_lt (bs : List Nat) : hPk bs < 1048576 := by
 unfold hPk; split
 ·decide
 ·exact Nat.lt_of_lt_of_le (Nat.mod_lt _ (Nat.two_pow_pos _)) (pow_bt _ _)
theorem hBe_lt (bs : List Nat) : hBe bs < 1048576 := by
 unfold hBe; split
 ·exact hSz_lt bs
 ·split
  ·decide
  ·exact hPk_lt bs

def eachN (size n : Nat) : Nat := (size + n - 1) / n
def lenAt (h : List Nat) (i : Nat) : Nat := h[2 * i]?.getD 0 + 256 * h[2 * i + 1]?.getD 0
def restN (h b : List Nat) : Nat → List Nat
 | 0 => b
 | k + 1 => (restN h b k).drop (lenAt h k)
def fitN (h b : List Nat) : Nat → Bool
 | 0 => true
 | k + 1 => fitN h b k && decide (lenAt h k ≤ (restN h b k).length)
def rowN (h b : List Nat) (each k : Nat) : List Nat × Nat := ((restN h b k).take (lenAt h k), each)
def rowsN (h b : List Nat) (size n : Nat) : List (List Nat × Nat) := (List.range (n - 1)).map (rowN h b (eachN size n)) ++ [(restN h b (n - 1), size - eachN size n * (n - 1))]
def cutL (b : List Nat) (size n : Nat) : Option (List (List Nat × Nat)) :=
 if b.length < 2 * (n - 1) ∨ size < eachN size n * (n - 1) then none
 else if fitN b (b.drop (2 * (n - 1))) (n - 1) then some (rowsN b (b.drop (2 * (n - 1))) size n) else none
def unpR (ws : List Nat) (R : List (List Nat × Nat)) : Option (List Nat) :=
 if R.all (fun r => decide (unpC ws r.1 (r.2 : Int) = 0)) then some (R.flatMap (fun r => unpV ws r.1 (r.2 : Int))) else none
def unpL (ws b : List Nat) (size n : Nat) : Option (List Nat) := (cutL b size n).bind (unpR ws)
def tellL (c u : Nat) (V : List Nat) (k size n : Nat) (cs ws : List Nat) : Option (List Nat × List Nat) :=
 if k = 0 then some (cs, ws)
 else if k = 1 then some (List.replicate size (cs[0]?.getD 0), ws)
 else if k = 3 then (unpL ws cs size n).map (fun l => (l, ws))
 else if c = 0 then (unpL V (cs.drop u) size n).map (fun l => (l, V)) else none
def bodyN (bs : List Nat) : List Nat := (bs.take (hBy bs + hBe bs)).drop (hBy bs)
def litR (c u : Nat) (V bs ws : List Nat) (most : Int) : Nat × List Nat × List Nat × Nat :=
 if most < 0 ∨ 131072 < most then (2, [], [], 0)
 else if bs = [] ∨ bs.length < hBy bs then (10, [], [], 0)
 else if most < (hSz bs : Int) then (11, [], [], 0)
 else if bs.length < hBy bs + hBe bs then (10, [], [], 0)
 else match tellL c u V (hKi bs) (hSz bs) (hRw bs) (bodyN bs) ws with
  | none => (11, [], [], 0)
  | some (l, n) => (0, l, n, hBy bs + hBe bs)
theorem bodyN_length {bs : List Nat} (h : ¬ bs.length < hBy bs + hBe bs) : (bodyN bs).length = hBe bs := by
 unfold bodyN; rw [List.length_drop, List.length_take]; omega

def Frm (w : World) : Prop := ∀ i f, i < 2 → f < 4 → w.cell? ⟨1, i * 16 + f * 4, none⟩ = some (.int .i64 ((hbN (2 * i) f : Nat) : Int)) ∧ w.cell? ⟨1, i * 16 + f * 4 + 1, none⟩ = some (.int .i64 ((frN (2 * i) f : Nat) : Int)) ∧
 w.cell? ⟨1, i * 16 + f * 4 + 2, none⟩ = some (.int .i64 ((btN (2 * i) f : Nat) : Int)) ∧ w.cell? ⟨1, i * 16 + f * 4 + 3, none⟩ = some (.int .i64 ((rwN (2 * i) f : Nat) : Int))
theorem keep_cell0 {w w' : World} (hk : Keep noBlock w w') {b i : Nat} {v : Value} (h : w.cell? ⟨b, i, none⟩ = some v) : w'.cell? ⟨b, i, none⟩ = some v :=
 (World.cell?_of_block (hk.block b (World.block_lt_of_cell? w ⟨b, i, none⟩ h) (fun h => h))).trans h
theorem Frm.keep {w w' : World} (h : Frm w) (hk : Keep noBlock w w') : Frm w' := fun i f hi hf =>
 ⟨keep_cell0 hk (h i f hi hf).1, keep_cell0 hk (h i f hi hf).2.1, keep_cell0 hk (h i f hi hf).2.2.1, keep_cell0 hk (h i f hi hf).2.2.2⟩
theorem hbN_two {k f : Nat} (hk : k < 4) : hbN (2 * (k / 2)) f = hbN k f ∧ frN (2 * (k / 2)) f = frN k f ∧ btN (2 * (k / 2)) f = btN k f ∧ rwN (2 * (k / 2)) f = rwN k f := by
 obtain rfl | rfl | rfl | rfl : k = 0 ∨ k = 1 ∨ k = 2 ∨ k = 3 := by omega
 all_goals (refine ⟨?_, ?_, ?_, ?_⟩ <;> simp [hbN, frN, btN, rwN])

end Go.Proofs.YtnjilcokkhodmaaGreatDoor

namespace Go.Proofs.YtnjilcokkhodmaaGreatDoor
open Go.RowKit Go.Shelf
set_option linter.unusedVariables false

def sprN (o : Nat) : List Nat → Nat → Nat → Array Value → Array Value
 | [], _, _, cs => cs
 | e :: es, i, f, cs => sprN o es (i + 1) ((f + 2 ^ e) % 4294967296) ((cs.setIfInBounds (o + 1 + i) (.int .u32 (f : Int))).setIfInBounds (o + 54 + i) (.int .u8 (e : Int)))

section
set_option maxHeartbeats 2000000 in
theorem spread_any (b o first : Nat) (g off cap : Nat) (es : List Nat) (cs : Array Value) (w : World) (hb : w.heap[b]? = some (.cells cs 107 (0, 0))) (hs : o + 110 ≤ cs.size) (hf : first < 4294967296)
  (hR : Bytes w (some ⟨g, off, none⟩) cap g off es) (hne : g ≠ b) (hl : es.length ≤ 53) (he : ∀ e ∈ es, e < 32) :
  Calls Tryz.prog 64 #[.pointer (some ⟨b, o, none⟩), .int .u32 (first : Int), .slice (some ⟨g, off, none⟩) es.length cap] w fun e w' => e = .returned (.tuple #[]) ∧
   w'.heap[b]? = some (.cells (sprN o es 0 first (cs.setIfInBounds o (.int .i64 (es.length : Int)))) 107 (0, 0)) ∧ Keep (fun k => k = b) w w' := by
 have z0 : w.frozen? ⟨b, o, none⟩ = false := frozen_of hb o
 obtain ⟨u, hu⟩ : ∃ u, cs[o]? = some u := ⟨_, Array.getElem?_eq_getElem (by omega)⟩
 have c0 : w.cell? ⟨b, o, none⟩ = some u := by rw [cell_of hb, hu]
 obtain ⟨n, hn⟩ : ∃ n, n = es.length := ⟨_, rfl⟩
 rw [← hn]
 have hnI : (n : Int) ≤ 53 := by omega
 have hnw : IntKind.i64.wrap (n : Int) = (n : Int) := by rw [IntKind.wrap_i64]; omega
 obtain ⟨cs1, hcs1⟩ : ∃ cs1, cs1 = cs.setIfInBounds o (.int .i64 (n : Int)) := ⟨_, rfl⟩
 have hb1 : (w.setCell ⟨b, o, none⟩ (.int .i64 (n : Int))).heap[b]? = some (.cells cs1 107 (0, 0)) := by rw [hcs1]; exact set_obj hb o _
 rw [← hcs1]
 have hk1 : Keep (fun k => k = b) w (w.setCell ⟨b, o, none⟩ (.int .i64 (n : Int))) := (Keep.refl (fun k => k = b) w).setCell (p := ⟨b, o, none⟩) (fun _ => rfl) _
 have HB := (show Hid (Bytes w (some ⟨g, off, none⟩) cap g off es ∧ n = es.length ∧ (∀ e ∈ es, e < 32) ∧ o + 110 ≤ cs1.size) from ⟨hR, hn, he, by rw [hcs1, Array.size_setIfInBounds]; exact hs⟩)
 have HS := (show Hid (sprN o (es.drop 0) 0 first cs1 = sprN o es 0 first cs1) from by rw [List.drop_zero]; exact rfl)
 clear hR hb hn hl he hu hcs1 hs
 go_enter Tryz.func64, Tryz.ntmps64
 go_wp2_with fail
 generalize w.setCell ⟨b, o, none⟩ (.int .i64 (n : Int)) = W1 at *
 clear c0 z0
 go_loopw [1, 15] (fun v1 v15 wr => ∃ i f : Nat, v15 = .int .i64 (i : Int) ∧ v1 = .int .u32 (f : Int) ∧ i ≤ n ∧ Hid (∃ cur, wr.heap[b]? = some (.cells cur 107 (0, 0)) ∧ cur.size = cs1.size ∧ f < 4294967296 ∧ sprN o (es.drop i) i f cur = sprN o es 0 first cs1 ∧ Keep (fun k => k = b) w wr)) (fun _ v15 _ => n - (intOf v15).toNat)
 case atStart => exact ⟨0, first, rfl, rfl, Nat.zero_le _, cs1, hb1, rfl, hf, HS.out, hk1⟩
 case round =>
  clear hb1 hk1 HS hf
  obtain ⟨i, f, rfl, rfl, hi, HC⟩ := hrel
  by_cases hlt : i < n
  ·have hltI : (i : Int) < (n : Int) := by omega
   obtain ⟨cur, h1, h2, h3, h4, h5⟩ := HC.out
   have hix : i < es.length := by have := HB.out.2.1; omega
   have c1 := (HB.out.1.keep h5 (fun _ => hne)).cells i hix
   obtain ⟨x, hx⟩ : ∃ x, x = es[i]?.getD 0 := ⟨_, rfl⟩
   rw [← hx] at c1
   have hxe : es.drop i = x :: es.drop (i + 1) := by
    rw [List.drop_eq_getElem_cons hix, hx, List.getElem?_eq_getElem hix]; rfl
   have hx32 : x < 32 := HB.out.2.2.1 x (by rw [hx, List.getElem?_eq_getElem hix]; exact List.getElem_mem _)
   have hsz := HB.out.2.2.2
   obtain ⟨p, hp⟩ : ∃ p, cur[o + 1 + i]? = some p := ⟨_, Array.getElem?_eq_getElem (by omega)⟩
   obtain ⟨q, hq⟩ : ∃ q, (cur.setIfInBounds (o + 1 + i) (.int .u32 (f : Int)))[o + 54 + i]? = some q := ⟨_, Array.getElem?_eq_getElem (by rw [Array.size_setIfInBounds]; omega)⟩
   have G : ∀ W : World, W.heap = wr.heap → W.cell? ⟨b, o + 1 + i, none⟩ = some p ∧ W.frozen? ⟨b, o + 1 + i, none⟩ = false ∧ (W.setCell ⟨b, o + 1 + i, none⟩ (.int .u32 (f : Int))).cell? ⟨b, o + 54 + i, none⟩ = some q ∧ (W.setCell ⟨b, o + 1 + i, none⟩ (.int .u32 (f : Int))).frozen? ⟨b, o + 54 + i, none⟩ = false := fun W hW => by
    have g1 : W.heap[b]? = some (.cells cur 107 (0, 0)) := by rw [hW]; exact h1
    have g2 := set_obj g1 (o + 1 + i) (.int .u32 (f : Int))
    exact ⟨by rw [cell_of g1, hp], frozen_of g1 _, by rw [cell_of g2, hq], frozen_of g2 _⟩
   obtain ⟨d1, z1, d2, z2⟩ := G (wr.drewN 1) rfl
   obtain ⟨d1', z1', d2', z2'⟩ := G wr rfl
   obtain ⟨d1'', z1'', d2'', z2''⟩ := G wr.drew rfl
   obtain ⟨f', hf'⟩ : ∃ f', f' = (f + 2 ^ x) % 4294967296 := ⟨_, rfl⟩
   have HE := (show Hid (∀ W : World, W.heap = wr.heap → W.os = wr.os → W.tape = wr.tape → W.output = wr.output → ∃ cur, ((W.setCell ⟨b, o + 1 + i, none⟩ (.int .u32 (f : Int))).setCell ⟨b, o + 54 + i, none⟩ (.int .u8 (x : Int))).heap[b]? = some (.cells cur 107 (0, 0)) ∧ cur.size = cs1.size ∧ f' < 4294967296 ∧ sprN o (es.drop (i + 1)) (i + 1) f' cur = sprN o es 0 first cs1 ∧ Keep (fun k => k = b) w ((W.setCell ⟨b, o + 1 + i, none⟩ (.int .u32 (f : Int))).setCell ⟨b, o + 54 + i, none⟩ (.int .u8 (x : Int)))) from fun W e1 e2 e3 e4 => by
    have g1 : W.heap[b]? = some (.cells cur 107 (0, 0)) := by rw [e1]; exact h1
    have g2 := set_obj g1 (o + 1 + i) (.int .u32 (f : Int))
    refine ⟨_, set_obj g2 (o + 54 + i) _, by rw [Array.size_setIfInBounds, Array.size_setIfInBounds]; exact h2, by omega, ?_, ?_⟩
    ·rw [hxe] at h4
     rw [hf', ← h4]
     rfl
    ·exact ((h5.same e1 e2 e3 e4).setCell (p := ⟨b, o + 1 + i, none⟩) (fun _ => rfl) _).setCell (p := ⟨b, o + 54 + i, none⟩) (fun _ => rfl) _)
   have hxI : (x : Int) < 32 := by omega
   have hiI : (i : Int) < 53 := by omega
   have hi53 : i < 53 := by omega
   have hfw : ((f : Int) + 2 ^ x % 4294967296) % 4294967296 = (f' : Int) := by
    rw [hf', show ((2 : Int) ^ x) = ((2 ^ x : Nat) : Int) from by simp]
    omega
   clear h1 h2 h3 h4 h5 hp hq hx hxe hix hsz HC hf' G
   go_wp2_with fail
   go_region_held3 (fun _ => True) (trivial) ((fail))
   go_wp2_with fail
   go_roundw
   case rel =>
    obtain ⟨cur, q1, q2, q3, q4, q5⟩ := HE.out wr rfl rfl rfl rfl
    exact ⟨i + 1, f', by go_num, by rw [hfw], by omega, cur, q1, q2, q3, q4, q5.drew⟩
   case measure => simp [intOf]; omega
  ·obtain rfl : i = n := by omega
   have hltI : ¬ (i : Int) < (i : Int) := by omega
   obtain ⟨cur, h1, h2, h3, h4, h5⟩ := HC.out
   have HD := (show Hid (wr.heap[b]? = some (.cells (sprN o es 0 first cs1) 107 (0, 0)) ∧ Keep (fun k => k = b) w wr) from by
    rw [List.drop_eq_nil_of_le (by have := HB.out.2.1; omega)] at h4
    rw [← h4]
    exact ⟨h1, h5⟩)
   clear h1 h2 h3 h4 h5 HC
   go_wp2_with fail
   go_end0
   exact ⟨rfl, HD.out⟩
end
end Go.Proofs.YtnjilcokkhodmaaGreatDoor

namespace Go.Proofs.YtnjilcokkhodmaaGreatDoor
open Go.RowKit Go.Shelf
set_option linter.unusedVariables false

def eL : List Nat := [0, 0, 0, 0, 0, 0, 0, 0, 0, 0, 0, 0, 0, 0, 0, 0, 1, 1, 1, 1, 2, 2, 3, 3, 4, 6, 7, 8, 9, 10, 11, 12, 13, 14, 15, 16]
def eB : List Nat := [0, 1, 2, 3, 4, 5, 6, 7, 8, 9, 10, 11, 12, 13, 14, 15, 16, 17, 18, 19, 20, 21, 22, 23, 24, 25, 26, 27, 28, 29, 30, 31]
def eM : List Nat := [0, 0, 0, 0, 0, 0, 0, 0, 0, 0, 0, 0, 0, 0, 0, 0, 0, 0, 0, 0, 0, 0, 0, 0, 0, 0, 0, 0, 0, 0, 0, 0, 1, 1, 1, 1, 2, 2, 3, 3, 4, 4, 5, 7, 8, 9, 10, 11, 12, 13, 14, 15, 16]
def cL : List Int := [4, 3, 2, 2, 2, 2, 2, 2, 2, 2, 2, 2, 2, 1, 1, 1, 2, 2, 2, 2, 2, 2, 2, 2, 2, 3, 2, 1, 1, 1, 1, 1, -1, -1, -1, -1]
def cB : List Int := [1, 1, 1, 1, 1, 1, 2, 2, 2, 1, 1, 1, 1, 1, 1, 1, 1, 1, 1, 1, 1, 1, 1, 1, -1, -1, -1, -1, -1]
def cM : List Int := [1, 4, 3, 2, 2, 2, 2, 2, 2, 1, 1, 1, 1, 1, 1, 1, 1, 1, 1, 1, 1, 1, 1, 1, 1, 1, 1, 1, 1, 1, 1, 1, 1, 1, 1, 1, 1, 1, 1, 1, 1, 1, 1, 1, 1, 1, -1, -1, -1, -1, -1, -1, -1]
def leastsF : Nat → List Nat → List Nat
 | _, [] => []
 | f, e :: es => f :: leastsF ((f + 2 ^ e) % 4294967296) es
def pad (n : Nat) (l : List Nat) : List Nat := l ++ List.replicate (n - l.length) 0
def codL (first : Nat) (es : List Nat) (ml l : Nat) (v : Value) : List Value :=
 .int .i64 (es.length : Int) :: ((pad 53 (leastsF first es)).map (fun x => Value.int .u32 ((x : Nat) : Int)) ++ (pad 53 es).map (fun x => Value.int .u8 ((x : Nat) : Int)) ++ [.int .i64 (ml : Int), .int .i64 (l : Int), v])
def codA (v0 v1 v2 : Value) : List Value := codL 0 eL 9 6 v0 ++ codL 1 eB 8 5 v1 ++ codL 3 eM 9 6 v2

def setAll : Array Value → Nat → List Value → Array Value
 | cs, _, [] => cs
 | cs, o, v :: vs => setAll (cs.setIfInBounds o v) (o + 1) vs
def raw57 (ml l : Nat) (v : Value) : List Value := .int .i64 0 :: (List.replicate 53 (Value.int .u32 0) ++ List.replicate 53 (Value.int .u8 0) ++ [.int .i64 (ml : Int), .int .i64 (l : Int), v])
def stepC (o first : Nat) (es : List Nat) (ml l : Nat) (v : Value) (cs : Array Value) : Array Value := sprN o es 0 first ((setAll cs o (raw57 ml l v)).setIfInBounds o (.int .i64 (es.length : Int)))
theorem codA_made (v0 v1 v2 : Value) : stepC 220 3 eM 9 6 v2 (stepC 110 1 eB 8 5 v1 (stepC 0 0 eL 9 6 v0 Tryz.zeroCells107)) = (codA v0 v1 v2).toArray := by
 kernel_rfl
end Go.Proofs.YtnjilcokkhodmaaGreatDoor
