/-
  Read: how many bytes a description has, weights of four bits, the last weight.
  Read: the last weight, and what Read makes of weights that are told.
  Read, by what the description tells.
  What the statements' own example comes to: true.
  What Pack and Unpack answer, whatever they are handed.
  The document's own New.
-/
import Derived.Test.YtkljidigmolmmaaPackP12
namespace Go.Proofs.Ytkljidigmolmmaa
open Go.RowKit Go.Shelf
set_option linter.unusedVariables false

/-- append, whose run is known. -/
theorem wpList_append_run {ops : Array Oper} {rest : List Oper} {o : Oper} {a : Act} {Q : Exit → Act → World → Prop} (w : World) (hgd : o.guard = none) (s x : Operand) (t : TypeId)
    (ho : o.op = .call { callee := .builtin .append, args := #[s, x], argTypes := #[t, t] }) (v sv v' : Value) (w' : World) (hs : a.eval s = v) (hx : a.eval x = sv)
    (hr : (Builtin.append_ #[t, t] o.type #[v, sv]).run Try.prog w = .ok v' w') (hk : wpList Try.prog ops Q rest (a.put o.dst v') w') : wpList Try.prog ops Q (o :: rest) a w := by
  refine wpList_plain hgd fun K hK => ?_
  unfold Oper.wp execOp
  simp only [ho, resolve, invoke, builtin, Sem.run_bind, Sem.run_pure, Result.andThen_ok, List.map_toArray, List.map_cons, List.map_nil, hs, hx, hr]
  exact hK _ _ hk
theorem step_append_run {ops : Array Oper} {o : Oper} {a : Act} {K : Act → World → Prop} {Q : Exit → Act → World → Prop} {E : Prop} (w : World) (hgd : o.guard = none) (s x : Operand) (t : TypeId)
    (ho : o.op = .call { callee := .builtin .append, args := #[s, x], argTypes := #[t, t] }) (v sv v' : Value) (w' : World) (hs : a.eval s = v) (hx : a.eval x = sv)
    (hr : (Builtin.append_ #[t, t] o.type #[v, sv]).run Try.prog w = .ok v' w') (hk : K (a.put o.dst v') w') : if Region.wanted o (yielded ops a.tmps) = true then Oper.wp Try.prog o a w K Q else E := by
  have hw : Region.wanted o (yielded ops a.tmps) = true := by simp [Region.wanted, hgd]
  rw [if_pos hw]
  unfold Oper.wp execOp
  simp only [ho, resolve, invoke, builtin, Sem.run_bind, Sem.run_pure, Result.andThen_ok, List.map_toArray, List.map_cons, List.map_nil, hs, hx, hr]
  exact hk

/-- A byte more, behind a row of one's own. -/
theorem own_push {W : World} {v : Value} {M : List Nat} (h : W.ownsRow 0 5 1 v M.length (u8s M)) (x : Nat) (hl : M.length ≤ 1000000) :
    ∃ v' W', (Builtin.append_ #[22, 22] 22 #[v, .slice (some ⟨W.heap.size, 0, none⟩) 1 1]).run Try.prog (W.alloc (.cells #[.int .u8 (x : Int)] 5)) = .ok v' W' ∧ W'.ownsRow 0 5 1 v' (M ++ [x]).length (u8s (M ++ [x])) ∧ Keep (fun k => v.ownBlock = some k) W W' ∧ (v'.ownBlock = v.ownBlock ∨ ∃ k, v'.ownBlock = some k ∧ W.heap.size ≤ k) := by
  have hka : Keep noBlock W (W.alloc (.cells #[.int .u8 (x : Int)] 5)) := (Keep.refl _ W).alloc _
  have hs : SrcB (W.alloc (.cells #[.int .u8 (x : Int)] 5)) (.slice (some ⟨W.heap.size, 0, none⟩) 1 1) [x] := .inr ⟨_, 1, rfl, fun j u hu => by
    have hj : j < 1 := by have := (List.getElem?_eq_some_iff.1 hu).1; rwa [u8s_length] at this
    obtain rfl : j = 0 := by omega
    rw [← hu, addO]
    exact cell_of (World.alloc_heap_new W _) 0⟩
  obtain ⟨v', W', hr, ho, hk, hm⟩ := run_append_all (W.alloc (.cells #[.int .u8 (x : Int)] 5)) 22 v M [x] (owns_kept h hka (fun _ _ h => h)) (by simp; omega) _ hs
  refine ⟨v', W', hr, ho, (hka.mono (fun _ _ h => h.elim)).trans hk (fun _ _ h => h), ?_⟩
  rcases hm with e | ⟨k, e, hk⟩
  · exact .inl e
  · exact .inr ⟨k, e, by rw [World.size_alloc] at hk; omega⟩

/-- How many bytes a description has whose first byte is h. -/
def usedN (h : Nat) : Nat := if h ≤ 127 then 1 + h else 1 + (h - 127 + 1) / 2
set_option maxHeartbeats 400000 in
theorem describedIn_any (h : Nat) (hh : h < 256) (w : World) : Calls Try.prog 16 #[.int .u8 (h : Int)] w fun e w' => e = .returned (.int .i64 ((usedN h : Nat) : Int)) ∧ w' = w := by
  unfold usedN
  by_cases h1 : h ≤ 127
  · rw [if_pos h1]
    have hI : (h : Int) ≤ 127 := by omega
    go_enter Try.func16, Try.ntmps16
    go_wp2
    go_ret
    exact ⟨by simp, rfl⟩
  · rw [if_neg h1]
    have hI : ¬ (h : Int) ≤ 127 := by omega
    obtain ⟨d, hd⟩ : ∃ d, d = (h - 127 + 1) / 2 := ⟨_, rfl⟩
    rw [← hd]
    have hdI : ((h : Int) - 127 + 1) / 2 = (d : Int) := by omega
    have hdT : ((h : Int) - 127 + 1).tdiv 2 = (d : Int) := by rw [Int.tdiv_eq_ediv_of_nonneg (by omega)]; exact hdI
    have hhI : (h : Int) < 256 := by omega
    have hd2 : (d : Int) < 100 := by omega
    clear hd
    go_enter Try.func16, Try.ntmps16
    go_wp2
    go_ret
    exact ⟨by simp, rfl⟩

/-- The k-th weight of four bits. -/
def fourW (bs : List Nat) (k : Nat) : Nat := if k % 2 = 1 then bs[k / 2]?.getD 0 % 16 else bs[k / 2]?.getD 0 / 16
theorem fourW_lt (bs : List Nat) (k : Nat) (h : ∀ j : Nat, bs[j]?.getD 0 < 256) : fourW bs k < 16 := by
  have := h (k / 2)
  unfold fourW
  split <;> omega
theorem and15 (x : Nat) (h : x < 256) : bits .and .u8 (x : Int) 15 = ((x % 16 : Nat) : Int) := by
  revert h; revert x; decide +kernel

set_option maxRecDepth 100000 in
set_option maxHeartbeats 2000000 in
theorem tellFours_any (a : Option Addr) (cap gb off : Nat) (bs : List Nat) (n : Nat) (w : World) (hB : Bytes w a cap gb off bs) (hn : n ≤ 128) (hl : (n + 1) / 2 ≤ bs.length) :
    Calls Try.prog 35 #[.slice a bs.length cap, .int .i64 (n : Int)] w fun e w' => ∃ v, e = .returned v ∧ w'.ownsRow 0 5 1 v n (u8s ((List.range n).map (fourW bs))) ∧ Keep noBlock w w' ∧ ∀ k, v.ownBlock = some k → w.heap.size ≤ k := by
  have hmk : ∀ W : World, _ := fun W => run_make_u8 n n (Nat.le_refl _) (by omega) W
  have hnI : (n : Int) ≤ 128 := by omega
  have HB := (show Hid (Bytes w a cap gb off bs) from hB)
  obtain ⟨N, hN⟩ : ∃ N, N = bs.length := ⟨_, rfl⟩
  have HN := (show Hid (N = bs.length) from hN)
  rw [← hN] at hl ⊢
  have h48 := hB.len
  have hNI : (N : Int) < 281474976710656 := by omega
  clear hB hN h48
  obtain ⟨tb, htb⟩ : ∃ tb, tb = w.heap.size := ⟨_, rfl⟩
  have HR := (show Hid (RowK (w.alloc (.cells (u8s (List.replicate n 0)).toArray 5)) tb n (fourW bs) 0 ∧ Keep noBlock w (w.alloc (.cells (u8s (List.replicate n 0)).toArray 5))) from by rw [htb]; exact ⟨rowK_new w n _, (Keep.refl _ w).alloc _⟩)
  have HT := (show Hid (tb = w.heap.size) from htb)
  go_enter Try.func35, Try.ntmps35
  go_wp2
  rw [← htb]
  clear htb
  go_loopw [11] (fun v11 wr => ∃ i : Nat, v11 = .int .i64 (i : Int) ∧ i ≤ n ∧ Hid (RowK wr tb n (fourW bs) i ∧ Keep noBlock w wr)) (fun v11 _ => n - (intOf v11).toNat)
  case atStart => exact ⟨0, rfl, Nat.zero_le _, HR.out⟩
  case round =>
    clear HR
    obtain ⟨i, rfl, hi, HC⟩ := hrel
    by_cases hlt : i < n
    · have hltI : (i : Int) < (n : Int) := by omega
      obtain ⟨hRow, hK⟩ := HC.out
      obtain ⟨d, hd⟩ : ∃ d, d = i / 2 := ⟨_, rfl⟩
      have hdx : d < bs.length := by have := HN.out; omega
      obtain rfl := HB.out.here hdx
      have hgb := HB.out.block (by intro e; rw [e] at hdx; simp at hdx)
      have hBr := HB.out.keep hK (fun _ h => h)
      have c1 := hBr.cells d hdx
      have hx256 := HB.out.lt d
      have hdN : (d : Int) < (N : Int) := by have := HN.out; omega
      have hdI : (i : Int) / 2 = (d : Int) := by omega
      have hdT : (i : Int).tdiv 2 = (d : Int) := by rw [Int.tdiv_eq_ediv_of_nonneg (by omega)]; exact hdI
      obtain ⟨x0, c2⟩ := hRow.cell i hlt
      have f2 := hRow.frozen i
      have hst := hRow.step hlt
      have htw := HT.out
      have hks : ∀ x : Value, Keep (fun k => k = tb) wr (wr.setCell ⟨tb, i, none⟩ x) := fun x => (Keep.refl (fun k => k = tb) wr).setCell (p := ⟨tb, i, none⟩) (fun _ => rfl) _
      have hfw : fourW bs i = if i % 2 = 1 then bs[d]?.getD 0 % 16 else bs[d]?.getD 0 / 16 := by rw [hd]; rfl
      obtain ⟨y, hy⟩ : ∃ y, y = bs[d]?.getD 0 := ⟨_, rfl⟩
      rw [← hy] at c1 hx256 hfw
      have hyI : (y : Int) < 256 := by omega
      have hsh : (y : Int) / 2 ^ 4 = ((y / 16 : Nat) : Int) := by omega
      obtain ⟨z, hz⟩ : ∃ z, z = y / 16 := ⟨_, rfl⟩
      rw [← hz] at hsh
      have hzI : (z : Int) < 16 := by omega
      have hsh2 : (y : Int) / 16 = (z : Int) := by omega
      by_cases hp : i % 2 = 1
      · rw [if_pos hp] at hfw
        obtain ⟨u, hu⟩ : ∃ u, u = y % 16 := ⟨_, rfl⟩
        have h15 := and15 y hx256
        rw [← hu] at h15 hfw
        rw [hfw] at hst
        have hmI : (i : Int) % 2 = 1 := by omega
        have hmT : (i : Int).tmod 2 = 1 := by rw [Int.tmod_eq_emod_of_nonneg (by omega)]; exact hmI
        have c3 : (wr.setCell ⟨tb, i, none⟩ (.int .u8 (z : Int))).cell? ⟨gb, off + d, none⟩ = some (.int .u8 (y : Int)) := (World.cell?_of_block ((hks _).block gb (Nat.lt_of_lt_of_le hgb hK.size) (by omega))).trans c1
        have hR1 : RowK (wr.setCell ⟨tb, i, none⟩ (.int .u8 (z : Int))) tb n (fourW bs) i := by
          obtain ⟨cs, o1, o2, o3, o4⟩ := hRow
          refine ⟨_, set_obj o1 _ _, by rw [Array.size_setIfInBounds, o2], fun j hj => ?_, fun j hj => ?_⟩
          · rw [Array.getElem?_setIfInBounds]
            by_cases e : i = j
            · subst e; rw [if_pos rfl, if_pos (by omega)]; exact ⟨_, rfl⟩
            · rw [if_neg e]; exact o3 j hj
          · rw [Array.getElem?_setIfInBounds, if_neg (by omega)]; exact o4 j hj
        have hst2 := hR1.step hlt
        rw [hfw] at hst2
        have HST := (show Hid (RowK ((wr.setCell ⟨tb, i, none⟩ (.int .u8 (z : Int))).setCell ⟨tb, i, none⟩ (.int .u8 (u : Int))) tb n (fourW bs) (i + 1) ∧ Keep noBlock w ((wr.setCell ⟨tb, i, none⟩ (.int .u8 (z : Int))).setCell ⟨tb, i, none⟩ (.int .u8 (u : Int)))) from ⟨hst2, (hK.setCell (p := ⟨tb, i, none⟩) (fun h => by dsimp only at h; omega) _).setCell (p := ⟨tb, i, none⟩) (fun h => by dsimp only at h; omega) _⟩)
        obtain ⟨x1, c4⟩ := hR1.cell i hlt
        have f4 := hR1.frozen i
        have htn : tb ≠ gb := by omega
        clear hst hst2 hR1 hRow hK hBr hks hd hy hz hu hfw HC htw hp
        go_wp2
        go_roundw
        case rel => exact ⟨i + 1, by go_num, by omega, HST.out⟩
        case measure => simp [intOf]; omega
      · rw [if_neg hp, ← hz] at hfw
        rw [hfw] at hst
        have hmI : (i : Int) % 2 = 0 := by omega
        have hmT : (i : Int).tmod 2 = 0 := by rw [Int.tmod_eq_emod_of_nonneg (by omega)]; exact hmI
        have HST := (show Hid (RowK (wr.setCell ⟨tb, i, none⟩ (.int .u8 (z : Int))) tb n (fourW bs) (i + 1) ∧ Keep noBlock w (wr.setCell ⟨tb, i, none⟩ (.int .u8 (z : Int)))) from ⟨hst, hK.setCell (p := ⟨tb, i, none⟩) (fun h => by dsimp only at h; omega) _⟩)
        clear hst hRow hK hBr hks hd hy hz hfw HC htw hp
        go_wp2
        go_roundw
        case rel => exact ⟨i + 1, by go_num, by omega, HST.out⟩
        case measure => simp [intOf]; omega
    · obtain rfl : i = n := by omega
      have hltI : ¬ (i : Int) < (i : Int) := by omega
      go_wp2
      go_ret
      exact ⟨_, rfl, HC.out.1.owns (by omega), HC.out.2, fun j hj => by
        obtain rfl : tb = j := by simpa [Value.ownBlock] using hj
        rw [HT.out]; exact Nat.le_refl _⟩

end Go.Proofs.Ytkljidigmolmmaa

namespace Go.Proofs.Ytkljidigmolmmaa
open Go.RowKit Go.Shelf
set_option linter.unusedVariables false

/-- The weight that stands behind those told. -/
def lastW (M : List Nat) : Nat := lenN (2 ^ lenN (sumW M M.length) - sumW M M.length)
theorem wt_app (M : List Nat) (x i : Nat) (h : i < M.length) : wt (M ++ [x]) i = wt M i := by unfold wt; rw [List.getElem?_append_left h]
theorem codeB_okW {M : List Nat} (x : Nat) (h : okW M = false) : codeB (M ++ [x]) = false := by
  refine codeB_ok (decide_eq_false (fun q => (of_decide_eq_false h) (fun i hi => ?_)))
  have := q i (by simp; omega)
  rwa [wt_app M x i hi] at this

/-- What withLast answers. -/
def LastPost (M : List Nat) (w : World) (e : Ending) (w' : World) : Prop :=
  (codeB (M ++ [lastW M]) = true ∧ ∃ v, e = .returned (.tuple #[v, .bool true]) ∧ w'.ownsRow 0 5 1 v (M ++ [lastW M]).length (u8s (M ++ [lastW M])) ∧ ∀ k, v.ownBlock = some k → w.heap.size ≤ k) ∨
  (codeB (M ++ [lastW M]) = false ∧ ∃ v, e = .returned (.tuple #[v, .bool false]))

set_option maxRecDepth 100000 in
set_option maxHeartbeats 2000000 in
theorem withLast_any (w : World) (v : Value) (M : List Nat) (W : World) (hown : W.ownsRow 0 5 1 v M.length (u8s M)) (hlt : ∀ j : Nat, M[j]?.getD 0 < 256) (hl : M.length ≤ 255) (hnew : ∀ k, v.ownBlock = some k → w.heap.size ≤ k) (hsz : w.heap.size ≤ W.heap.size) :
    Calls Try.prog 18 #[v] W fun e W' => LastPost M w e W' ∧ Keep (fun k => w.heap.size ≤ k) W W' := by
  obtain ⟨a, cap, g, rfl, hB, hg⟩ := owns_bytes hown hlt (by omega)
  have HS := (show Hid (Calls Try.prog 39 _ W _) from sumOfW_any a cap g 0 M W hB (by omega))
  obtain ⟨n, hn⟩ : ∃ n, n = M.length := ⟨_, rfl⟩
  have HN := (show Hid (n = M.length) from hn)
  cases hok : okW M with
  | false =>
    have HC := (show Hid (codeB (M ++ [lastW M]) = false) from codeB_okW _ hok)
    have HS2 := (show Hid (Calls Try.prog 39 #[.slice a n cap] W fun e w' => e = .returned (.tuple #[.int .i64 0, .bool false]) ∧ w' = W) from by
      rw [hn]
      exact HS.out.mono (by
        rintro e w' ⟨h, rfl⟩
        rw [hok] at h
        rcases h with ⟨h, _⟩ | ⟨_, rfl⟩
        · cases h
        · exact ⟨rfl, rfl⟩))
    rw [← hn]
    clear HS hB hown hlt hnew hn hok hg
    go_enter Try.func18, Try.ntmps18
    go_wp2_with (go_at_call 39; refine HS2.out.mono ?_; rintro e w' ⟨rfl, rfl⟩)
    go_ret2
    exact ⟨.inr ⟨HC.out, _, rfl⟩, Keep.refl _ _⟩
  | true =>
    have HS2 := (show Hid (Calls Try.prog 39 #[.slice a n cap] W fun e w' => e = .returned (.tuple #[.int .i64 ((sumW M M.length : Nat) : Int), .bool true]) ∧ w' = W) from by
      rw [hn]
      exact HS.out.mono (by
        rintro e w' ⟨h, rfl⟩
        rw [hok] at h
        rcases h with ⟨_, rfl⟩ | ⟨h, _⟩
        · exact ⟨rfl, rfl⟩
        · cases h))
    have hsb := sumW_le M M.length (of_decide_eq_true hok)
    have hS18 : sumW M M.length < 262144 := by omega
    have hl18 : lenN (sumW M M.length) ≤ 18 := lenN_le _ _ (by omega)
    have hp18 : 2 ^ lenN (sumW M M.length) ≤ 262144 := Nat.pow_le_pow_right (n := 2) (j := 18) (by omega) hl18
    have hSP : sumW M M.length ≤ 2 ^ lenN (sumW M M.length) := by
      by_cases h0 : sumW M M.length = 0
      · rw [h0]; exact Nat.zero_le _
      · exact Nat.le_of_lt (lenN_pos _ h0).2.1
    have HL1 := (show Hid (∀ w : World, _) from fun w => len_big (sumW M M.length) (by omega) w)
    have hlw : lastW M = lenN (2 ^ lenN (sumW M M.length) - sumW M M.length) := rfl
    obtain ⟨L1, hL1⟩ : ∃ L1, L1 = lenN (sumW M M.length) := ⟨_, rfl⟩
    obtain ⟨P, hP⟩ : ∃ P, P = 2 ^ lenN (sumW M M.length) := ⟨_, rfl⟩
    obtain ⟨S, hS⟩ : ∃ S, S = sumW M M.length := ⟨_, rfl⟩
    have hPI : wrap64 ((2 : Int) ^ L1) = (P : Int) := by
      have e : (2 : Int) ^ L1 = (P : Int) := by rw [hP, hL1]; simp
      rw [e]
      rw [← hP] at hp18
      clear e hP hlw hSP
      unfold wrap64; omega
    rw [← hP] at hlw hp18 hSP
    rw [← hL1] at HL1 hl18
    rw [← hS] at HL1 HS2 hlw hSP hS18
    have hwant : P - S ≤ 262144 := by clear hPI; omega
    obtain ⟨D, hD⟩ : ∃ D, D = P - S := ⟨_, rfl⟩
    rw [← hD] at hlw
    have hDI : (P : Int) - (S : Int) = (D : Int) := by clear hPI; omega
    have HL2 := (show Hid (∀ w : World, Calls Try.prog 40 #[.int .u64 (D : Int)] w fun e w' => e = .returned (.int .i64 ((lastW M : Nat) : Int)) ∧ w' = w) from fun w => by rw [hlw]; exact len_big D (by clear hPI; omega) w)
    have hlw19 : lastW M ≤ 19 := by rw [hlw]; exact lenN_le _ _ (by clear hPI; omega)
    obtain ⟨v', W', hrun, hown', hk', hm'⟩ := own_push hown (lastW M) (by omega)
    have hnew' : ∀ k, v'.ownBlock = some k → w.heap.size ≤ k := fun k e => by
      rcases hm' with e2 | ⟨j, e2, hj⟩
      · rw [e2] at e; exact hnew k e
      · rw [e2] at e; cases e; omega
    have hlt' : ∀ j : Nat, (M ++ [lastW M])[j]?.getD 0 < 256 := lt_app hlt (lt256 (fun b hb => by rw [List.mem_singleton.1 hb]; omega))
    obtain ⟨a', cap', g', rfl, hB', hg'⟩ := owns_bytes hown' hlt' (by simp; omega)
    have HM := (show Hid (Calls Try.prog 21 _ W' _) from makeCode_any a' cap' g' 0 (M ++ [lastW M]) W' hB')
    have HF := (show Hid (W'.ownsRow 0 5 1 (.slice a' (M ++ [lastW M]).length cap') (M ++ [lastW M]).length (u8s (M ++ [lastW M])) ∧ Keep (fun k => w.heap.size ≤ k) W W' ∧ ∀ k, (Value.slice a' (M ++ [lastW M]).length cap').ownBlock = some k → w.heap.size ≤ k) from ⟨hown', hk'.mono (fun i hi e => hnew i e), hnew'⟩)
    rw [← hn] at hrun
    obtain ⟨n', hn'⟩ : ∃ n', n' = (M ++ [lastW M]).length := ⟨_, rfl⟩
    rw [← hn'] at hrun HM HF
    have HN' := (show Hid (n' = (M ++ [lastW M]).length) from hn')
    rw [← hn]
    clear HS hB hown hlt hnew hn hok hg hn' hown' hk' hm' hnew' hlt' hB' hg' hlw hD hP hL1 hS hsb hSP
    obtain ⟨lw, hlwe⟩ : ∃ lw, lastW M = lw := ⟨_, rfl⟩
    rw [hlwe] at HL2 hlw19 hrun HM HF HN'
    have HLW := (show Hid (lastW M = lw) from hlwe)
    clear hlwe
    have hlwI : (lw : Int) ≤ 19 := by omega
    have hDl : (D : Int) ≤ 262144 := by omega
    have hL1I : (L1 : Int) ≤ 18 := by omega
    clear hwant hp18 hl18
    go_enter Try.func18, Try.ntmps18
    go_wp2_with (go_at_call 39; refine HS2.out.mono ?_; rintro e w' ⟨rfl, rfl⟩)
    refine (HL1.out _).mono ?_
    rintro e w2 ⟨rfl, rfl⟩
    have HX := (show Hid _ from hS18)
    clear hS18
    go_wp2_with fail
    refine (HL2.out _).mono ?_
    rintro e w3 ⟨rfl, rfl⟩
    clear hPI hDI
    go_wp2_with (at_builtin; refine wpList_append_run _ rfl _ _ 22 rfl _ _ _ _ rfl rfl hrun ?_)
    refine HM.out.mono ?_
    rintro e w4 ⟨l, rfl, -, rfl⟩
    cases hcb : codeB (M ++ [lw]) with
    | true =>
      go_wp2_with fail
      go_ret2
      exact ⟨.inl ⟨by rw [HLW.out]; exact hcb, _, rfl, by rw [HLW.out, ← HN'.out]; exact HF.out.1, HF.out.2.2⟩, HF.out.2.1⟩
    | false =>
      go_wp2_with fail
      go_ret2
      exact ⟨.inr ⟨by rw [HLW.out]; exact hcb, _, rfl⟩, HF.out.2.1⟩

end Go.Proofs.Ytkljidigmolmmaa

namespace Go.Proofs.Ytkljidigmolmmaa
open Go.RowKit Go.Shelf
set_option linter.unusedVariables false

/-- What tell answers: the weights told, or none. -/
def TellPost (T : Option (List Nat)) (w : World) (e : Ending) (w' : World) : Prop :=
  Keep noBlock w w' ∧ match T with
    | none => e = .returned (.tuple #[.slice none 0 0, .bool false])
    | some M => ∃ v, e = .returned (.tuple #[v, .bool true]) ∧ w'.ownsRow 0 5 1 v M.length (u8s M) ∧ ∀ k, v.ownBlock = some k → w.heap.size ≤ k
/-- All weights, if they make a code. -/
def readOf : Option (List Nat) → Option (List Nat)
  | none => none
  | some M => if codeB (M ++ [lastW M]) then some (M ++ [lastW M]) else none
theorem readOf_yes {M : List Nat} (h : codeB (M ++ [lastW M]) = true) : readOf (some M) = some (M ++ [lastW M]) := if_pos h
theorem readOf_no {M : List Nat} (h : codeB (M ++ [lastW M]) = false) : readOf (some M) = none := if_neg (by rw [h]; decide)
/-- What Read answers: all weights and the bytes used, or that there are none. -/
def ReadPost (R : Option (List Nat)) (u : Nat) (w : World) (e : Ending) (w' : World) : Prop :=
  Keep noBlock w w' ∧ match R with
    | none => e = .returned (.tuple #[.slice none 0 0, .int .i64 0, .int .i64 11])
    | some ws => ∃ v, e = .returned (.tuple #[v, .int .i64 (u : Int), .int .i64 0]) ∧ w'.ownsRow 0 5 1 v ws.length (u8s ws)

set_option maxRecDepth 100000 in
set_option maxHeartbeats 2000000 in
theorem read_short (a : Option Addr) (cap gb off : Nat) (bs : List Nat) (w : World) (hB : Bytes w a cap gb off bs) (hs : bs.length < usedN (bs[0]?.getD 0)) :
    Calls Try.prog 7 #[.slice a bs.length cap] w fun e w' => e = .returned (.tuple #[.slice none 0 0, .int .i64 0, .int .i64 10]) ∧ w' = w := by
  by_cases h0 : bs.length = 0
  · rw [h0]
    go_enter Try.func7, Try.ntmps7
    go_wp2
    exact bodyPost_ret (by simp [results, Try.results7]) rfl ⟨rfl, rfl⟩
  · obtain rfl := hB.here (i := 0) (by omega)
    have c0 := hB.cells 0 (by omega)
    have hx := hB.lt 0
    have HD := (show Hid (∀ w : World, _) from fun w => describedIn_any (bs[0]?.getD 0) hx w)
    rw [Nat.add_zero] at c0
    have h48 := hB.len
    obtain ⟨n, hn⟩ : ∃ n, n = bs.length := ⟨_, rfl⟩
    rw [← hn] at hs h0 h48 ⊢
    generalize bs[0]?.getD 0 = h at *
    generalize usedN h = u at *
    have hsI : (n : Int) < (u : Int) := by omega
    have hn0 : ((n : Int) == 0) = false := by rw [beq_eq_false_iff_ne]; omega
    have hn1 : (0 : Int) < (n : Int) := by omega
    clear hB hn h48
    go_enter Try.func7, Try.ntmps7
    go_wp2_with (go_at_call 16; refine (HD.out _).mono ?_; rintro e w' ⟨rfl, rfl⟩)
    exact bodyPost_ret (by simp [results, Try.results7]) rfl ⟨rfl, rfl⟩

section
attribute [local go_sem] sliceSem_eq
set_option maxRecDepth 100000 in
set_option maxHeartbeats 2000000 in
theorem read_told (a : Option Addr) (cap gb off : Nat) (bs : List Nat) (u : Nat) (T : Option (List Nat)) (w : World) (hB : Bytes w a cap gb off bs) (hne : bs ≠ []) (hu : u = usedN (bs[0]?.getD 0)) (hs : u ≤ bs.length)
    (hT : Calls Try.prog 17 #[.slice a (bs.take u).length cap] w fun e w' => TellPost T w e w') (hM : ∀ M, T = some M → M.length ≤ 255 ∧ ∀ j : Nat, M[j]?.getD 0 < 256) :
    Calls Try.prog 7 #[.slice a bs.length cap] w fun e w' => ReadPost (readOf T) u w e w' := by
  have hpos : 0 < bs.length := List.length_pos_iff.2 hne
  obtain rfl := hB.here (i := 0) hpos
  have c0 := hB.cells 0 hpos
  have hx := hB.lt 0
  have HD := (show Hid (∀ w : World, _) from fun w => describedIn_any (bs[0]?.getD 0) hx w)
  rw [← hu] at HD
  rw [Nat.add_zero] at c0
  have h48 := hB.len
  have hrun := (hB.take u hs).1
  have HT := (show Hid (Calls Try.prog 17 #[.slice (some ⟨gb, off, none⟩) (bs.take u).length cap] w fun e w' => TellPost T w e w') from hT)
  have hu256 : u ≤ 256 := by rw [hu]; unfold usedN; split <;> omega
  obtain ⟨n, hn⟩ : ∃ n, n = bs.length := ⟨_, rfl⟩
  obtain ⟨k, hk⟩ : ∃ k, k = (bs.take u).length := ⟨_, rfl⟩
  rw [← hn] at hs hpos h48 hrun ⊢
  rw [← hk] at HT hrun
  generalize bs[0]?.getD 0 = h at *
  have hsI : ¬ (n : Int) < (u : Int) := by omega
  have hn0 : ((n : Int) == 0) = false := by rw [beq_eq_false_iff_ne]; omega
  have hn1 : (0 : Int) < (n : Int) := by omega
  have huI : (u : Int) ≤ 256 := by omega
  clear hB hn h48 hT hu hk hne hu256
  cases T with
  | none =>
    go_enter Try.func7, Try.ntmps7
    go_wp2_with (first | (go_at_call 16; refine (HD.out _).mono ?_; rintro e w' ⟨rfl, rfl⟩) | (go_at_call 17; refine HT.out.mono ?_; rintro e w1 ⟨hK, rfl⟩))
    exact bodyPost_ret (by simp [results, Try.results7]) rfl ⟨hK, rfl⟩
  | some M =>
    obtain ⟨hl, hlt⟩ := hM M rfl
    have HM := (show Hid (M.length ≤ 255 ∧ ∀ j : Nat, M[j]?.getD 0 < 256) from ⟨hl, hlt⟩)
    clear hl hlt hM
    go_enter Try.func7, Try.ntmps7
    go_wp2_with (go_at_call 16; refine (HD.out _).mono ?_; rintro e w' ⟨rfl, rfl⟩)
    refine HT.out.mono ?_
    rintro e w1 ⟨hK, v, rfl, hown, hnew⟩
    have HL := (show Hid (Calls Try.prog 18 _ w1 _) from withLast_any _ v M w1 hown HM.out.2 HM.out.1 hnew hK.size)
    obtain ⟨sa, scap, rfl⟩ := owns_form hown
    have HK := (show Hid (Keep noBlock w' w1) from hK)
    clear hown hnew HT hK c0
    go_wp2_with fail
    refine HL.out.mono ?_
    rintro e w2 ⟨hP, hK2⟩
    have HK2 := (show Hid (Keep noBlock w' w2) from HK.out.trans hK2 (fun i hi e => by omega))
    rcases hP with ⟨hc, v2, rfl, hown2, hnew2⟩ | ⟨hc, v2, rfl⟩
    · obtain ⟨sb, bcap, rfl⟩ := owns_form hown2
      have HO := (show Hid (w2.ownsRow 0 5 1 (.slice sb (M ++ [lastW M]).length bcap) (M ++ [lastW M]).length (u8s (M ++ [lastW M])) ∧ readOf (some M) = some (M ++ [lastW M])) from ⟨hown2, readOf_yes hc⟩)
      obtain ⟨L, hL⟩ : ∃ L, L = (M ++ [lastW M]).length := ⟨_, rfl⟩
      rw [← hL] at HO ⊢
      have HLL := (show Hid (L = (M ++ [lastW M]).length) from hL)
      clear hL
      clear hown2 hnew2 hK2
      go_wp2_with fail
      refine bodyPost_ret (by simp [results, Try.results7]; rfl) rfl ⟨HK2.out, ?_⟩
      rw [HO.out.2]
      exact ⟨_, rfl, by rw [← HLL.out]; exact HO.out.1⟩
    · have HO := (show Hid (readOf (some M) = none) from readOf_no hc)
      clear hK2
      go_wp2_with fail
      refine bodyPost_ret (by simp [results, Try.results7]; rfl) rfl ⟨HK2.out, ?_⟩
      rw [HO.out]

set_option maxRecDepth 100000 in
set_option maxHeartbeats 2000000 in
/-- tell of weights of four bits. -/
theorem tell_fours (a : Option Addr) (cap gb off : Nat) (bs : List Nat) (n : Nat) (w : World) (hB : Bytes w a cap gb off bs) (hne : bs ≠ []) (h1 : bs[0]?.getD 0 = n + 127) (h2 : 1 ≤ n) (h3 : (n + 1) / 2 + 1 ≤ bs.length) :
    Calls Try.prog 17 #[.slice a bs.length cap] w fun e w' => TellPost (some ((List.range n).map (fourW (bs.drop 1)))) w e w' := by
  have hpos : 0 < bs.length := List.length_pos_iff.2 hne
  obtain rfl := hB.here (i := 0) hpos
  have c0 := hB.cells 0 hpos
  have hx := hB.lt 0
  rw [Nat.add_zero] at c0
  have h48 := hB.len
  obtain ⟨a', off', hrun, hB', -⟩ := hB.drop 1 hpos
  have HF := (show Hid (∀ q, Calls Try.prog 35 #[.slice a' (bs.drop 1).length (cap - 1), .int .i64 (n : Int)] (w.drewN q) _) from fun q => tellFours_any a' (cap - 1) gb off' (bs.drop 1) n (w.drewN q) (hB'.keep (keep_drewN w q) (fun _ h => h)) (by omega) (by rw [List.length_drop]; omega))
  obtain ⟨N, hN⟩ : ∃ N, N = bs.length := ⟨_, rfl⟩
  obtain ⟨k, hk⟩ : ∃ k, k = (bs.drop 1).length := ⟨_, rfl⟩
  obtain ⟨c', hc'⟩ : ∃ c', c' = cap - 1 := ⟨_, rfl⟩
  rw [← hk, ← hc'] at HF
  rw [← hN] at hpos h48 ⊢
  rw [← hN, ← hk, ← hc', show (((1 : Nat) : Int)) = (1 : Int) from rfl] at hrun
  obtain ⟨h, hh⟩ : ∃ h, h = bs[0]?.getD 0 := ⟨_, rfl⟩
  rw [← hh] at h1 hx c0
  have hgt : (127 : Int) < (h : Int) := by omega
  have hnI : (h : Int) - 127 = (n : Int) := by omega
  have hhI : (h : Int) < 256 := by omega
  have hp1 : (0 : Int) < (N : Int) := by omega
  have hML : ((List.range n).map (fourW (bs.drop 1))).length = n := by simp
  have HML := (show Hid _ from hML)
  clear hB hB' hN hk hc' hh h1 hx h48 hne h3 hML
  go_enter Try.func17, Try.ntmps17
  go_wp2_with fail
  go_quiet (fail)
  go_wp2_with (go_at_call 35; refine (HF.out _).mono ?_; rintro e w1 ⟨v, rfl, hown, hK, hnew⟩)
  go_ret2
  exact ⟨(keep_drewN w _).trans' hK, v, rfl, by rw [HML.out]; exact hown, hnew⟩
end

end Go.Proofs.Ytkljidigmolmmaa

namespace Go.Proofs.Ytkljidigmolmmaa
open Go.RowKit Go.Shelf
set_option linter.unusedVariables false

theorem wk_told : ((List.range 3).map (fourW ([130, 17, 32].drop 1))) = [1, 1, 2] := by decide +kernel
theorem wk_read : readOf (some [1, 1, 2]) = some [1, 1, 2, 3] := by decide +kernel
theorem wk_code : codeB [1, 1, 2, 3] = true := by decide +kernel
theorem wk_is : IsCode [1, 1, 2, 3] 3 := codeB_is wk_code
theorem wk_ok : packOk [1, 1, 2, 3] [3, 2, 0] = true := by decide +kernel
theorem wk_pack : pack (packL [1, 1, 2, 3] 3 [3, 2, 0] ++ [1]) = [104] := by decide +kernel
theorem wk_str4 : strOf [1, 1, 2, 3] = ⟨#[1, 1, 2, 3]⟩ := by decide
theorem wk_str1 : strOf [104] = ⟨#[104]⟩ := by decide

theorem wk_first (w : World) : Calls Try.prog 7 #[.slice (some ⟨w.heap.size, 0, none⟩) 3 3] (w.alloc (.cells #[.int .u8 130, .int .u8 17, .int .u8 32] 5)) fun e w' => ∃ v, e = .returned (.tuple #[v, .int .i64 3, .int .i64 0]) ∧ w'.ownsRow 0 5 1 v 4 (u8s [1, 1, 2, 3]) ∧ Keep noBlock (w.alloc (.cells #[.int .u8 130, .int .u8 17, .int .u8 32] 5)) w' := by
  have hB := bytes_new w [130, 17, 32] #[.int .u8 130, .int .u8 17, .int .u8 32] (0, 0) 3 rfl rfl (lt256 (by decide)) (by decide)
  have hT := tell_fours (some ⟨w.heap.size, 0, none⟩) 3 w.heap.size 0 [130, 17, 32] 3 _ hB (by decide) (by decide) (by decide) (by decide)
  rw [wk_told] at hT
  have := read_told (some ⟨w.heap.size, 0, none⟩) 3 w.heap.size 0 [130, 17, 32] 3 (some [1, 1, 2]) _ hB (by decide) (by decide) (by decide) hT (fun M hM => by cases hM; exact ⟨by decide, lt256 (by decide)⟩)
  rw [wk_read] at this
  refine this.mono ?_
  rintro e w' ⟨hk, v, rfl, ho⟩
  exact ⟨v, rfl, ho, hk⟩
theorem wk_third (w : World) : Calls Try.prog 7 #[.slice (some ⟨w.heap.size, 0, none⟩) 2 2] (w.alloc (.cells #[.int .u8 130, .int .u8 17] 5)) fun e w' => e = .returned (.tuple #[.slice none 0 0, .int .i64 0, .int .i64 10]) ∧ w' = w.alloc (.cells #[.int .u8 130, .int .u8 17] 5) := by
  have hB := bytes_new w [130, 17] #[.int .u8 130, .int .u8 17] (0, 0) 2 rfl rfl (lt256 (by decide)) (by decide)
  exact read_short (some ⟨w.heap.size, 0, none⟩) 2 w.heap.size 0 [130, 17] _ hB (by decide)
theorem wk_second (w : World) (v : Value) (hown : w.ownsRow 0 5 1 v 4 (u8s [1, 1, 2, 3])) : Calls Try.prog 10 #[v, .slice (some ⟨w.heap.size, 0, none⟩) 3 3] (w.alloc (.cells #[.int .u8 3, .int .u8 2, .int .u8 0] 5)) fun e w' => ∃ v', e = .returned (.tuple #[v', .int .i64 0]) ∧ w'.ownsRow 0 5 1 v' 1 (u8s [104]) ∧ w'.ownsRow 0 5 1 v 4 (u8s [1, 1, 2, 3]) ∧ Keep noBlock (w.alloc (.cells #[.int .u8 3, .int .u8 2, .int .u8 0] 5)) w' := by
  have hk : Keep noBlock w (w.alloc (.cells #[.int .u8 3, .int .u8 2, .int .u8 0] 5)) := (Keep.refl _ w).alloc _
  have hown2 := owns_kept hown hk (fun _ _ h => h)
  have hB2 := bytes_new w [3, 2, 0] #[.int .u8 3, .int .u8 2, .int .u8 0] (0, 0) 3 rfl rfl (lt256 (by decide)) (by decide)
  obtain ⟨a, cap, g, rfl, hB, -⟩ := owns_bytes (M := [1, 1, 2, 3]) hown2 (lt256 (by decide)) (by decide)
  refine (pack_any a cap g 0 [1, 1, 2, 3] 3 (some ⟨w.heap.size, 0, none⟩) 3 w.heap.size 0 [3, 2, 0] _ hB hB2 wk_is (by decide)).mono ?_
  rintro e w' ⟨hk2, ⟨_, v', rfl, ho⟩ | ⟨h, _⟩⟩
  · rw [wk_pack] at ho
    exact ⟨v', rfl, ho, owns_kept hown2 hk2 (fun _ _ h => h), hk2⟩
  · rw [wk_ok] at h; cases h

set_option maxRecDepth 100000 in
set_option maxHeartbeats 2000000 in
theorem wakes_any (w : World) : Calls Try.prog 9 #[] w fun e w' => e = .returned (.bool true) ∧ Keep noBlock w w' := by
  go_enter Try.func9, Try.ntmps9
  go_wp2_with fail
  refine (wk_first w).mono ?_
  rintro e w1 ⟨v, rfl, hown, hK1⟩
  have hKw1 : Keep noBlock w w1 := ((Keep.refl _ w).alloc _).trans' hK1
  clear hK1
  obtain ⟨a, cap, hv⟩ := owns_form hown
  subst hv
  go_wp2_with fail
  refine (wk_second w1 _ hown).mono ?_
  rintro e w2 ⟨v2, rfl, hown2, hown1, hK2⟩
  have hKw2 : Keep noBlock w w2 := (hKw1.alloc _).trans' hK2
  clear hK2 hKw1 hown
  obtain ⟨a2, cap2, hv2⟩ := owns_form hown2
  subst hv2
  go_wp2_with fail
  refine (wk_third w2).mono ?_
  rintro e w3 ⟨rfl, rfl⟩
  have hk3 : Keep noBlock w2 (w2.alloc (.cells #[.int .u8 130, .int .u8 17] 5)) := (Keep.refl _ w2).alloc _
  have hc1 := run_conv (Src.of_owns (bs := [1, 1, 2, 3]) (owns_kept hown1 hk3 (fun _ _ h => h)))
  have hc2 := run_conv (Src.of_owns (bs := [104]) (owns_kept hown2 hk3 (fun _ _ h => h)))
  rw [wk_str4] at hc1
  rw [wk_str1] at hc2
  have hKw3 := hKw2.trans' hk3
  generalize w2.alloc (.cells #[.int .u8 130, .int .u8 17] 5) = W3 at *
  clear hown1 hown2 hk3 hKw2
  go_wp2_with fail
  go_ret
  exact ⟨rfl, hKw3⟩

end Go.Proofs.Ytkljidigmolmmaa

namespace Go.Proofs.Ytkljidigmolmmaa
open Go.RowKit Go.Shelf
set_option linter.unusedVariables false

/-- Pack's error, and its bytes. -/
def packC (ws bs : List Nat) : Nat := if codeB ws then (if 131072 < bs.length then 2 else if packOk ws bs then 0 else 2) else 50
def packV (ws bs : List Nat) : List Nat := if packC ws bs = 0 then pack (packL ws (codeM ws) bs ++ [1]) else []
/-- Unpack's error, and its bytes. -/
def unpC (ws bs : List Nat) (n : Int) : Nat := if codeB ws then (if 0 ≤ n ∧ n ≤ 131072 then (if unpOk ws (codeM ws) bs n.toNat then 0 else 11) else 2) else 50
def unpV (ws bs : List Nat) (n : Int) : List Nat := if unpC ws bs n = 0 then (List.range n.toNat).map (symU ws (codeM ws) bs) else []
/-- An error, and bytes in a row of one's own. -/
def Ans (c : Nat) (bs : List Nat) (w : World) (e : Ending) (w' : World) : Prop :=
  Keep noBlock w w' ∧ ∃ a n cap, e = .returned (.tuple #[.slice a n cap, .int .i64 (c : Int)]) ∧ n = bs.length ∧ w'.ownsRow 0 5 1 (.slice a n cap) n (u8s bs)
theorem ans_none {c : Nat} {w w' : World} (hk : Keep noBlock w w') : Ans c [] w (.returned (.tuple #[.slice none 0 0, .int .i64 (c : Int)])) w' := ⟨hk, none, 0, 0, rfl, rfl, World.ownsRow_nil _ _ _ _⟩
theorem ans_row {c : Nat} {bs : List Nat} {v : Value} {w w' : World} (hk : Keep noBlock w w') (h : w'.ownsRow 0 5 1 v bs.length (u8s bs)) : Ans c bs w (.returned (.tuple #[v, .int .i64 (c : Int)])) w' := by
  obtain ⟨a, cap, rfl⟩ := owns_form h
  exact ⟨hk, a, _, cap, rfl, rfl, h⟩

theorem codeM_is {ws : List Nat} (h : codeB ws = true) : IsCode ws (codeM ws) := by
  have := codeB_is h
  unfold codeM
  rw [if_pos h]
  exact this
theorem packV_no {ws bs : List Nat} (h : packC ws bs ≠ 0) : packV ws bs = [] := if_neg h
theorem unpV_no {ws bs : List Nat} {n : Int} (h : unpC ws bs n ≠ 0) : unpV ws bs n = [] := if_neg h
theorem packV_lt (ws bs : List Nat) : ∀ j : Nat, (packV ws bs)[j]?.getD 0 < 256 := by
  unfold packV
  split
  · exact pack_lt _
  · intro j; simp
theorem unpV_lt (ws bs : List Nat) (n : Int) : ∀ j : Nat, (unpV ws bs n)[j]?.getD 0 < 256 := by
  by_cases h : unpC ws bs n = 0
  · have hc : codeB ws = true := by
      unfold unpC at h
      by_cases e : codeB ws = true
      · exact e
      · rw [if_neg e] at h; omega
    have hI := codeM_is hc
    unfold unpV
    rw [if_pos h]
    refine lt256 (fun b hb => ?_)
    obtain ⟨k, _, rfl⟩ := List.mem_map.1 hb
    have h1 := (hI.sym (strm bs (posU ws (codeM ws) bs k) (codeM ws)) (strm_lt _ _ _)).1
    have h2 := hI.len
    show symX ws (codeM ws) (strm bs (posU ws (codeM ws) bs k) (codeM ws)) < 256
    omega
  · rw [unpV_no h]; intro j; simp

theorem pk_cells (w : World) (c : Int) : ((w.alloc (.cells #[.slice none 0 0] 22)).alloc (.cells #[.int .i64 c] 23)).cell? ⟨w.heap.size, 0, none⟩ = some (.slice none 0 0) ∧ ((w.alloc (.cells #[.slice none 0 0] 22)).alloc (.cells #[.int .i64 c] 23)).cell? ⟨w.heap.size + 1, 0, none⟩ = some (.int .i64 c) := by
  refine ⟨cell_of (alloc_far (World.alloc_heap_new w _) _) 0, ?_⟩
  have := World.alloc_heap_new (w.alloc (.cells #[.slice none 0 0] 22)) (.cells #[.int .i64 c] 23)
  rw [World.size_alloc] at this
  exact cell_of this 0

set_option maxRecDepth 100000 in
set_option maxHeartbeats 2000000 in
theorem pack_all (a : Option Addr) (cap gb off : Nat) (ws : List Nat) (a2 : Option Addr) (cap2 gb2 off2 : Nat) (bs : List Nat) (w : World) (hB : Bytes w a cap gb off ws) (hB2 : Bytes w a2 cap2 gb2 off2 bs) :
    Calls Try.prog 10 #[.slice a ws.length cap, .slice a2 bs.length cap2] w fun e w' => Ans (packC ws bs) (packV ws bs) w e w' := by
  cases hc : codeB ws with
  | false =>
    have e1 : packC ws bs = 50 := by unfold packC; rw [hc]; rfl
    have e2 := packV_no (ws := ws) (bs := bs) (by omega)
    rw [e1, e2]
    have HM := (show Hid (∀ W, Keep noBlock w W → Calls Try.prog 21 #[.slice a ws.length cap] W fun e w' => ∃ l, e = .returned (.tuple #[.int .i64 l, .bool false]) ∧ w' = W) from fun W hk => made_not hc (hB.keep hk (fun _ h => h)))
    generalize ws.length = n1 at *
    generalize bs.length = n2 at *
    clear hB hB2
    refine (callsIn_wide (n := 4)).1 ?_
    refine callsIn_of_wp_marks Try.func10 rfl trivial ?_ rfl
    simp only [Try.ntmps10, List.size_toArray, List.length_cons, List.length_nil, Nat.reduceAdd, Nat.reduceSub, Array.replicate_succ, Array.replicate_zero, List.push_toArray, List.append_toArray, List.nil_append, List.cons_append]
    gi_wp2_with (refine ⟨trivial, ?_⟩; gi_at_call 21; refine (callsIn_wide.2 (HM.out _ (((Keep.refl _ w).alloc _).alloc _))).mono ?_; rintro e w' ⟨l, rfl, rfl⟩)
    exact ⟨_, results_cell2 rfl _ _ _ ⟨w.heap.size, 0, none⟩ ⟨w.heap.size + 1, 0, none⟩ (.slice none 0 0) (.int .i64 50) rfl rfl (loadVar22 (pk_cells w 50).1) (loadVar23 (pk_cells w 50).2), ans_none (((Keep.refl _ w).alloc _).alloc _)⟩
  | true =>
    have hI := codeM_is hc
    by_cases hl : 131072 < bs.length
    · have e1 : packC ws bs = 2 := by unfold packC; rw [if_pos hc, if_pos hl]
      have e2 := packV_no (ws := ws) (bs := bs) (by omega)
      rw [e1, e2]
      have HM := (show Hid (∀ W, Keep noBlock w W → Calls Try.prog 21 #[.slice a ws.length cap] W fun e w' => e = .returned (.tuple #[.int .i64 ((codeM ws : Nat) : Int), .bool true]) ∧ w' = W) from fun W hk => made_is hI (hB.keep hk (fun _ h => h)))
      have h48 := hB2.len
      have hlI : (131072 : Int) < ((bs.length : Nat) : Int) := by omega
      generalize ws.length = n1 at *
      generalize bs.length = n2 at *
      clear hB hB2 hI hl h48
      refine (callsIn_wide (n := 4)).1 ?_
      refine callsIn_of_wp_marks Try.func10 rfl trivial ?_ rfl
      simp only [Try.ntmps10, List.size_toArray, List.length_cons, List.length_nil, Nat.reduceAdd, Nat.reduceSub, Array.replicate_succ, Array.replicate_zero, List.push_toArray, List.append_toArray, List.nil_append, List.cons_append]
      gi_wp2_with (refine ⟨trivial, ?_⟩; gi_at_call 21; refine (callsIn_wide.2 (HM.out _ (((Keep.refl _ w).alloc _).alloc _))).mono ?_; rintro e w' ⟨rfl, rfl⟩)
      exact ⟨_, results_cell2 rfl _ _ _ ⟨w.heap.size, 0, none⟩ ⟨w.heap.size + 1, 0, none⟩ (.slice none 0 0) (.int .i64 2) rfl rfl (loadVar22 (pk_cells w 2).1) (loadVar23 (pk_cells w 2).2), ans_none (((Keep.refl _ w).alloc _).alloc _)⟩
    · refine (pack_any a cap gb off ws (codeM ws) a2 cap2 gb2 off2 bs w hB hB2 hI (by omega)).mono ?_
      rintro e w' ⟨hk, ⟨h1, v, rfl, h2⟩ | ⟨h1, rfl⟩⟩
      · have e1 : packC ws bs = 0 := by unfold packC; rw [if_pos hc, if_neg hl, if_pos h1]
        have e2 : packV ws bs = pack (packL ws (codeM ws) bs ++ [1]) := if_pos e1
        rw [e1, e2]
        exact ans_row hk h2
      · have e1 : packC ws bs = 2 := by unfold packC; rw [if_pos hc, if_neg hl, h1]; rfl
        have e2 := packV_no (ws := ws) (bs := bs) (by omega)
        rw [e1, e2]
        exact ans_none hk

set_option maxRecDepth 100000 in
set_option maxHeartbeats 2000000 in
theorem unpack_all (a : Option Addr) (cap gb off : Nat) (ws : List Nat) (a2 : Option Addr) (cap2 gb2 off2 : Nat) (bs : List Nat) (n : Int) (w : World) (hB : Bytes w a cap gb off ws) (hB2 : Bytes w a2 cap2 gb2 off2 bs) (hl : bs.length ≤ 140737488351232) :
    Calls Try.prog 12 #[.slice a ws.length cap, .slice a2 bs.length cap2, .int .i64 n] w fun e w' => Ans (unpC ws bs n) (unpV ws bs n) w e w' := by
  cases hc : codeB ws with
  | false =>
    have e1 : unpC ws bs n = 50 := by unfold unpC; rw [hc]; rfl
    have e2 := unpV_no (ws := ws) (bs := bs) (n := n) (by omega)
    rw [e1, e2]
    have HM := (show Hid (Calls Try.prog 21 #[.slice a ws.length cap] w fun e w' => ∃ l, e = .returned (.tuple #[.int .i64 l, .bool false]) ∧ w' = w) from made_not hc hB)
    generalize ws.length = n1 at *
    generalize bs.length = n2 at *
    clear hB hB2 hl
    go_enter Try.func12, Try.ntmps12
    go_wp2_with (go_at_call 21; refine HM.out.mono ?_; rintro e w' ⟨l, rfl, rfl⟩)
    go_ret2
    exact ans_none (Keep.refl _ _)
  | true =>
    have hI := codeM_is hc
    by_cases hn : 0 ≤ n ∧ n ≤ 131072
    · obtain ⟨k, rfl⟩ := Int.eq_ofNat_of_zero_le hn.1
      refine (unpack_any a cap gb off ws (codeM ws) a2 cap2 gb2 off2 bs k w hB hB2 hI hl (by omega)).mono ?_
      rintro e w' ⟨hk, ⟨h1, v, rfl, h2⟩ | ⟨h1, rfl⟩⟩
      · have e1 : unpC ws bs (k : Int) = 0 := by unfold unpC; rw [if_pos hc, if_pos hn, Int.toNat_natCast, if_pos h1]
        have e2 : unpV ws bs (k : Int) = (List.range k).map (symU ws (codeM ws) bs) := if_pos e1
        rw [e1, e2]
        refine ans_row hk ?_
        rw [show ((List.range k).map (symU ws (codeM ws) bs)).length = k from by simp]
        exact h2
      · have e1 : unpC ws bs (k : Int) = 11 := by unfold unpC; rw [if_pos hc, if_pos hn, Int.toNat_natCast, h1]; rfl
        have e2 := unpV_no (ws := ws) (bs := bs) (n := (k : Int)) (by omega)
        rw [e1, e2]
        exact ans_none hk
    · have e1 : unpC ws bs n = 2 := by unfold unpC; rw [if_pos hc, if_neg hn]
      have e2 := unpV_no (ws := ws) (bs := bs) (n := n) (by omega)
      rw [e1, e2]
      have HM := (show Hid (Calls Try.prog 21 #[.slice a ws.length cap] w fun e w' => e = .returned (.tuple #[.int .i64 ((codeM ws : Nat) : Int), .bool true]) ∧ w' = w) from made_is hI hB)
      generalize ws.length = n1 at *
      generalize bs.length = n2 at *
      clear hB hB2 hl hI
      by_cases h0 : n < 0
      · go_enter Try.func12, Try.ntmps12
        go_wp2_with (go_at_call 21; refine HM.out.mono ?_; rintro e w' ⟨rfl, rfl⟩)
        go_ret2
        exact ans_none (Keep.refl _ _)
      · have h1 : 131072 < n := by omega
        go_enter Try.func12, Try.ntmps12
        go_wp2_with (go_at_call 21; refine HM.out.mono ?_; rintro e w' ⟨rfl, rfl⟩)
        go_ret2
        exact ans_none (Keep.refl _ _)

end Go.Proofs.Ytkljidigmolmmaa

namespace Go.Proofs.Ytkljidigmolmmaa.Tl
open Go.RowKit Go.Shelf
set_option linter.unusedVariables false

set_option maxHeartbeats 400000 in
theorem newQ_none (sa : Option Addr) (cap : Nat) (w : World) : Calls Try.prog 32 #[.slice sa 0 cap] w fun e w' => e = .returned (.tuple #[.pointer none, .int .i64 11]) ∧ w' = w := by
  go_enter Try.func32, Try.ntmps32
  go_wp2
  go_ret2
  exact ⟨rfl, rfl⟩

set_option maxHeartbeats 400000 in
theorem newQ_zero (gb off cap k : Nat) (w : World) (hk : k < 140737488355328) (hc : w.cell? ⟨gb, off + k, none⟩ = some (.int .u8 0)) : Calls Try.prog 32 #[.slice (some ⟨gb, off, none⟩) (k + 1) cap] w fun e w' => e = .returned (.tuple #[.pointer none, .int .i64 11]) ∧ w' = w := by
  have h0 : ((k : Int) + 1 == 0) = false := by simp; omega
  go_enter Try.func32, Try.ntmps32
  go_wp2
  go_ret2
  exact ⟨rfl, rfl⟩

/-- The document's reader while its bits are laid: xs so far, in row v. -/
structure IsN (w W : World) (qb : Nat) (v : Value) (xs : List Nat) : Prop where
  obj : W.heap[qb]? = some (.cells #[v, .int .i64 0] 74 (0, 0))
  row : W.ownsRow 0 5 1 v xs.length (u8s xs)
  ub : ∀ k, v.ownBlock = some k → w.heap.size ≤ k
  keep : Keep noBlock w W
theorem isN_snoc {w W w1 : World} {qb g cap : Nat} {v : Value} {xs : List Nat} {d : Nat} {o : Obj} (h : IsN w W qb v xs) (hqb : w.heap.size ≤ qb)
    (hown : w1.ownsRow 0 5 1 (.slice (some ⟨g, 0, none⟩) (xs.length + 1) cap) (xs.length + 1) (u8s xs ++ [.int .u8 (d : Int)])) (hgrow : (W.alloc o).drew.grownBy w1 v.ownBlock) (hat : v.ownBlock = some g ∨ g = W.heap.size + 1) :
    IsN w (w1.setCell ⟨qb, 0, none⟩ (.slice (some ⟨g, 0, none⟩) (xs.length + 1) cap)) qb (.slice (some ⟨g, 0, none⟩) (xs.length + 1) cap) (xs ++ [d]) := by
  have hvb := owns_ne h.row h.obj (by decide)
  have hlt := obj_lt h.obj
  have hob1 : w1.heap[qb]? = _ := (hgrow.block qb (by simp; omega) (Ne.symm hvb)).trans (alloc_far h.obj _)
  have hs := h.keep.size
  have hne : g ≠ qb := by
    rintro rfl
    rcases hat with e | e
    · exact hvb e
    · omega
  refine ⟨(set_obj hob1 0 _).trans (by simp), ?_, fun k e => ?_, ?_⟩
  · have h2 := owns_far hown hne 0 (.slice (some ⟨g, 0, none⟩) (xs.length + 1) cap)
    simpa [u8s] using h2
  · obtain rfl : g = k := by simpa [Value.ownBlock] using e
    rcases hat with e1 | e1
    · exact h.ub g e1
    · omega
  · exact (((h.keep.alloc _).drew).grown hgrow (fun k e hk => by have := h.ub k e; omega)).setCell (p := ⟨qb, 0, none⟩) (fun hl => by dsimp only at hl; omega) _

/-- The document's reader when all its bits are laid, and its row is cut to n of them. -/
structure IsT (w W : World) (qb g : Nat) (bs : List Nat) (K cap n : Nat) : Prop where
  obj : W.heap[qb]? = some (.cells #[.slice (some ⟨g, 0, none⟩) n cap, .int .i64 0] 74 (0, 0))
  cells : ∀ j, j < K → W.cell? ⟨g, j, none⟩ = some (.int .u8 ((bitAt bs j : Nat) : Int))
  lt : g < W.heap.size
  ne : g ≠ qb
  new : w.heap.size ≤ g
  room : K ≤ cap
  keep : Keep noBlock w W
theorem IsT.drewN {w W : World} {qb g : Nat} {bs : List Nat} {K cap n : Nat} (h : IsT w W qb g bs K cap n) (i : Nat) : IsT w (W.drewN i) qb g bs K cap n := ⟨h.obj, h.cells, h.lt, h.ne, h.new, h.room, h.keep.trans' (keep_drewN _ _)⟩
theorem IsT.drew {w W : World} {qb g : Nat} {bs : List Nat} {K cap n : Nat} (h : IsT w W qb g bs K cap n) : IsT w W.drew qb g bs K cap n := ⟨h.obj, h.cells, h.lt, h.ne, h.new, h.room, h.keep.drew⟩
theorem isT_cut {w W : World} {qb g : Nat} {bs : List Nat} {K cap n : Nat} (h : IsT w W qb g bs K cap n) (hqb : w.heap.size ≤ qb) (m : Nat) : IsT w (W.setCell ⟨qb, 0, none⟩ (.slice (some ⟨g, 0, none⟩) m cap)) qb g bs K cap m :=
  ⟨(set_obj h.obj 0 _).trans (by simp), fun j hj => (World.cell?_of_block (Below.heap_setCell _ _ _ _ h.ne)).trans (h.cells j hj), by simpa [World.setCell] using h.lt, h.ne, h.new, h.room, h.keep.setCell (p := ⟨qb, 0, none⟩) (fun hl => by dsimp only at hl; omega) _⟩

/-- The length of the row that the document's reader holds. -/
def heldQ (W : World) (qb : Nat) : Nat := match W.cell? ⟨qb, 0, none⟩ with | some (.slice _ n _) => n | _ => 0
theorem heldQ_of {w W : World} {qb g : Nat} {bs : List Nat} {K cap n : Nat} (h : IsT w W qb g bs K cap n) : heldQ W qb = n := by
  unfold heldQ
  rw [cell_of h.obj 0]
  rfl

set_option maxRecDepth 100000 in
set_option maxHeartbeats 2000000 in
theorem newQ_mark (gb off cap k c : Nat) (bs : List Nat) (hlen : bs.length = k + 1) (hk : k < 1099511627776) (hbs : ∀ j : Nat, bs[j]?.getD 0 < 256) (w : World) (hck : bs[k]?.getD 0 = c) (hc0 : c ≠ 0)
    (hcs : ∀ j, j < bs.length → w.cell? ⟨gb, off + j, none⟩ = some (.int .u8 ((bs[j]?.getD 0 : Nat) : Int))) :
    Calls Try.prog 32 #[.slice (some ⟨gb, off, none⟩) (k + 1) cap] w fun e w' => ∃ qb g, e = .returned (.tuple #[.pointer (some ⟨qb, 0, none⟩), .int .i64 0]) ∧ w.heap.size ≤ qb ∧ w.heap.size ≤ g ∧ IsQ w' qb g bs (tailLen bs) ((tailLen bs : Nat) : Int) ∧ Keep noBlock w w' := by
  obtain ⟨i0, hi, hz0, hz1, hz2⟩ := info_parts info5
  have hc : w.cell? ⟨gb, off + k, none⟩ = some (.int .u8 (c : Int)) := by rw [hcs k (by omega), hck]
  have h0 : ((k : Int) + 1 == 0) = false := by simp; omega
  have hce : ((c : Int) == 0) = false := by simp; omega
  have hgb : gb < w.heap.size := World.block_lt_of_cell? w ⟨gb, off + k, none⟩ hc
  have hlast : bs[bs.length - 1]?.getD 0 ≠ 0 := by rw [show bs.length - 1 = k from by omega, hck]; exact hc0
  have HT1 := (show Hid _ from mark_one bs hbs hlast)
  have HT2 := (show Hid _ from mark_above bs hlast)
  have HT3 := (show Hid _ from tailLen_lt bs hbs hlast)
  have HL := (show Hid _ from hlen)
  have HC := (show Hid _ from hcs)
  have HX := (show Hid _ from hbs)
  have hN0 : IsN w (w.alloc (.cells #[.slice none 0 0, .int .i64 0] 74)) w.heap.size (.slice none 0 0) (bitsTo bs 0) :=
    ⟨World.alloc_heap_new w _, World.ownsRow_nil _ _ _ _, fun k e => (by cases e), (Keep.refl _ w).alloc _⟩
  have hmx : Try.prog.follows .mixedOrders = true := by kernel_rfl
  clear hcs hbs hlen hlast hck hc0
  generalize tailLen bs = T at HT1 HT2 HT3 ⊢
  go_enter Try.func32, Try.ntmps32
  go_wp2
  go_loopw [5] (fun i wr => ∃ (n : Nat) (v : Value), n ≤ 8 * (k + 1) ∧ i = .int .i64 n ∧ IsN w wr w.heap.size v (bitsTo bs n)) (fun i _ => 8 * (k + 1) - (intOf i).toNat)
  case atStart => exact ⟨0, _, Nat.zero_le _, rfl, hN0⟩
  case round =>
    clear hN0
    obtain ⟨n, v, hn, rfl, hN⟩ := hrel
    by_cases hlt : n < 8 * (k + 1)
    · have hidx : n / 8 < bs.length := by have := HL.out; omega
      have hcg : wr.cell? ⟨gb, off + n / 8, none⟩ = some (.int .u8 ((bs[n / 8]?.getD 0 : Nat) : Int)) := (World.cell?_of_block (hN.keep.block gb hgb (fun h => h))).trans (HC.out _ hidx)
      have hc256 := HX.out (n / 8)
      have hba : bitAt bs n = bitOf (bs[n / 8]?.getD 0) (n % 8) := rfl
      have hbl := bitAt_lt bs n
      have hbs1 := bitsTo_succ bs n
      have hbn := bitsTo_length bs n
      rw [hba] at hbs1 hbl
      have HBS := (show Hid _ from hbs1)
      have HBN := (show Hid _ from hbn)
      clear hba hbs1 hbn
      generalize bs[n / 8]?.getD 0 = y at hcg hc256 HBS hbl
      have hq8 : n % 8 < 8 := by omega
      have hI : (n : Int).tmod 8 = ((n % 8 : Nat) : Int) := by rw [Int.tmod_eq_emod_of_nonneg (by omega)]; omega
      have hD : (n : Int).tdiv 8 = ((n / 8 : Nat) : Int) := by rw [Int.tdiv_eq_ediv_of_nonneg (by omega)]; omega
      have hI' : (n : Int) % 8 = ((n % 8 : Nat) : Int) := by omega
      have hD' : (n : Int) / 8 = ((n / 8 : Nat) : Int) := by omega
      have hd1 : n / 8 < k + 1 := by omega
      generalize n % 8 = q at hq8 hI hI' HBS hbl
      generalize n / 8 = d at hcg hD hD' hidx hd1
      have hb1 := and_bit_u8 y q hc256
      have hwd : IntKind.i64.wrap (d : Int) = (d : Int) := by rw [IntKind.wrap_i64]; omega
      have hwq : IntKind.u64.wrap (q : Int) = (q : Int) := by rw [IntKind.wrap_u64]; omega
      have hdI : (d : Int) < (k : Int) + 1 := by omega
      generalize bitOf y q = bt at hb1 HBS hbl
      have hll : (bitsTo bs n).length < 140737488355327 := by have := HBN.out; omega
      generalize bitsTo bs n = xs at hN HBS HBN hll
      have hcq : wr.cell? ⟨w.heap.size, 0, none⟩ = some v := cell_of hN.obj 0
      have hob := hN.obj
      have hrow := hN.row
      have hvb := owns_ne hrow hob (by decide)
      have hwb := obj_lt hob
      have hmax : xs.length + 1 ≤ maxLen := by unfold maxLen; omega
      obtain ⟨sa, cap0, rfl⟩ := owns_form hrow
      go_wp2
      go_region_law (refine step_append_lies _ rfl (.tmp 31) (.tmp 42) 22 rfl 0 5 i0 (.int .u8 0) 1 1 Try.underlying22 hi hz0 hz1 hz2 rfl (by decide) (.slice sa xs.length cap0) xs.length (u8s xs) (by simp [Act.eval]) (hrow.alloc _) ⟨wr.heap.size, 0, none⟩ 1 1 [.int .u8 (bt : Int)] (by simp [Act.eval]) rfl (World.news_of_block (World.alloc_heap_new wr _)) (by simp [Value.oneCell']) (by decide) hmax (by omega) (Nat.zero_le _) (wr.heap.size + 1) (by simp) ?_; intro g cap1 w1 hown hgrow hat hltg; have hob1 := (hgrow.block w.heap.size (by simp; omega) (Ne.symm hvb)).trans (alloc_far hob _); have hcb := cell_of hob1 0; have hfb := frozen_of hob1 0)
      all_goals
        have hN2 := isN_snoc (d := bt) hN (Nat.le_refl _) hown hgrow hat
        clear hob hrow hvb hob1 hcb hfb hown hgrow hat hN hcq hcg
        go_wp2
        go_roundw
      all_goals first | exact ⟨n + 1, _, by omega, by go_num, by rw [HBS.out]; exact hN2⟩ | (simp [intOf]; omega)
    · obtain rfl : n = 8 * (k + 1) := by omega
      obtain ⟨g, cap1, rfl, hT⟩ : ∃ g cap1, v = .slice (some ⟨g, 0, none⟩) (8 * (k + 1)) cap1 ∧ IsT w wr w.heap.size g bs (8 * (k + 1)) cap1 (8 * (k + 1)) := by
        have hbl := bitsTo_length bs (8 * (k + 1))
        have hvb := owns_ne hN.row hN.obj (by decide)
        have hob := hN.obj
        rcases hN.row.2 with ⟨rfl, h0⟩ | ⟨g, cap1, cur, rfl, hb, hg, hr1, hr2, hr3, hr4⟩
        · omega
        · rw [hbl] at hob hr1
          refine ⟨g, cap1, by rw [hbl], hob, fun j hj => ?_, obj_lt hg, fun e => hvb (by rw [e]; rfl), hN.ub g rfl, hr1, hN.keep⟩
          have := hN.row.cells (g := g) rfl j _ (u8s_at (bitsTo bs (8 * (k + 1))) j (by omega))
          rw [add0, bitsTo_at bs _ j hj] at this
          exact this
      clear hN hlt hn
      go_wp2
      go_loopw [] (fun wr => ∃ j : Nat, T ≤ j ∧ j + 1 ≤ 8 * (k + 1) ∧ IsT w wr w.heap.size g bs (8 * (k + 1)) cap1 (j + 1)) (fun wr => heldQ wr w.heap.size)
      case atStart => exact ⟨8 * k + 7, by have := HT3.out; have := HL.out; omega, by omega, hT⟩
      case round =>
        clear hT
        obtain ⟨j, hj1, hj2, hT⟩ := hrel
        have hcq : wr.cell? ⟨w.heap.size, 0, none⟩ = some (.slice (some ⟨g, 0, none⟩) (j + 1) cap1) := cell_of hT.obj 0
        have hcj := hT.cells j (by omega)
        have hfq := frozen_of hT.obj 0
        have hroom := hT.room
        have hjc : (j : Int) ≤ (cap1 : Int) := by omega
        have hj0 : (0 : Int) ≤ (j : Int) := by omega
        by_cases hjT : j = T
        · subst hjT
          rw [HT1.out] at hcj
          go_wp2
          go_quiet (fail)
          go_wp2
          have hT2 := hT.drewN nq
          generalize wr.drewN nq = W2 at hT2 ⊢
          clear hcq hcj hfq hT
          have hcq : W2.cell? ⟨w.heap.size, 0, none⟩ = some (.slice (some ⟨g, 0, none⟩) (j + 1) cap1) := cell_of hT2.obj 0
          have hfq := frozen_of hT2.obj 0
          go_region
          all_goals
            have hT3 := (isT_cut hT2 (Nat.le_refl _) j).drew
            generalize (W2.setCell ⟨w.heap.size, 0, none⟩ (.slice (some ⟨g, 0, none⟩) j cap1)).drew = W3 at hT3 ⊢
            clear hcq hfq hT2
            have hcq : W3.cell? ⟨w.heap.size, 0, none⟩ = some (.slice (some ⟨g, 0, none⟩) j cap1) := cell_of hT3.obj 0
            have hc1 : W3.cell? ⟨w.heap.size, 1, none⟩ = some (.int .i64 0) := cell_of hT3.obj 1
            have hf1 := frozen_of hT3.obj 1
            go_wp2
            go_ret2
            refine ⟨w.heap.size, g, rfl, Nat.le_refl _, hT3.new, ⟨⟨cap1, (set_obj hT3.obj 1 _).trans (by simp)⟩, fun i hi => (World.cell?_of_block (Below.heap_setCell _ _ _ _ hT3.ne)).trans (hT3.cells i (by omega)), by simpa [World.setCell] using hT3.lt, hT3.ne, by omega⟩, hT3.keep.setCell (p := ⟨w.heap.size, 1, none⟩) (fun hl => by dsimp only at hl; omega) _⟩
        · rw [HT2.out j (by omega) (by have := HL.out; omega)] at hcj
          go_wp2
          go_quiet (fail)
          go_wp2
          have hT2 := hT.drewN nq
          have hheld := heldQ_of hT
          generalize wr.drewN nq = W2 at hT2 ⊢
          have HHD := (show Hid _ from hheld)
          clear hcq hcj hfq hT hheld
          have hcq : W2.cell? ⟨w.heap.size, 0, none⟩ = some (.slice (some ⟨g, 0, none⟩) (j + 1) cap1) := cell_of hT2.obj 0
          have hfq := frozen_of hT2.obj 0
          go_region
          all_goals
            go_wp2
            have hT3 := (isT_cut hT2 (Nat.le_refl _) j).drew
            go_roundw
          all_goals first | exact ⟨j - 1, by omega, by omega, by rw [show j - 1 + 1 = j from by omega]; exact hT3⟩ | (rw [HHD.out]; have := heldQ_of hT3; rw [this]; omega)

end Go.Proofs.Ytkljidigmolmmaa.Tl
