/-
  StatesBack answers true: counts that are told are read as they were, whatever stands behind.
-/
import Derived.Test.YtoffnhbopjaocaaWak
namespace Go.Proofs.Ytoffnhbopjaocaa
open Go.RowKit Go.Shelf

/-- What append reads. -/
def SrcB (w : World) (v : Value) (bs : List Nat) : Prop := (v = .slice none 0 0 ∧ bs = []) ∨ ∃ a cap, v = .slice (some a) bs.length cap ∧ ∀ j u, (u8s bs)[j]? = some u → w.cell? (a.add j) = some u
theorem Src.srcB {w : World} {v : Value} {bs : List Nat} (h : Src w v bs) : SrcB w v bs := h.elim .inl (fun ⟨a, cap, h1, _, h2⟩ => .inr ⟨a, cap, h1, h2⟩)
/-- Bytes that came in. -/
theorem RowI.srcB {w : World} {a : Option Addr} {cap gb off : Nat} {xs : List Int} (h : RowI w .u8 a cap gb off xs) (hb : ∀ i : Nat, 0 ≤ xs[i]?.getD 0 ∧ xs[i]?.getD 0 ≤ 255) : SrcB w (.slice a xs.length cap) (xs.map Int.toNat) := by
  have hml : (xs.map Int.toNat).length = xs.length := List.length_map _
  cases a with
  | none =>
    have h1 := h.nil rfl
    have h2 := h.le
    have : xs = [] := List.length_eq_zero_iff.1 (by omega)
    subst this
    exact .inl ⟨by rw [h1]; rfl, rfl⟩
  | some ad =>
    refine .inr ⟨ad, cap, by rw [hml], fun j u hu => ?_⟩
    have hj : j < xs.length := by rw [← hml, ← u8s_length]; exact (List.getElem?_eq_some_iff.1 hu).1
    obtain rfl : ad = ⟨gb, off, none⟩ := by simpa using h.here hj
    rw [addO, h.cells j hj, ← hu, u8s_at _ j (by rw [hml]; exact hj)]
    have := hb j
    simp only [List.getElem?_map, List.getElem?_eq_getElem hj, Option.map_some, Option.getD_some] at this ⊢
    congr 2
    omega
theorem SrcB.keep {w w' : World} {S : Nat → Prop} {v : Value} {bs : List Nat} (h : SrcB w v bs) (hk : Keep S w w') (hS : ∀ k, ¬ S k) : SrcB w' v bs := by
  rcases h with h | ⟨a, cap, h1, h2⟩
  · exact .inl h
  · refine .inr ⟨a, cap, h1, fun j u hu => ?_⟩
    have hc := h2 j u hu
    have hlt := World.block_lt_of_cell? w _ hc
    exact (World.cell?_of_block (hk.block _ hlt (hS _))).trans hc

/-- append onto a row of one's own, from whatever slice of bytes. -/
theorem run_append_all (w : World) (ty : TypeId) (v : Value) (M bs : List Nat) (hown : w.ownsRow 0 5 1 v M.length (u8s M)) (hlen : M.length + bs.length ≤ 140737488355328) (sv : Value) (h : SrcB w sv bs) :
    ∃ v' w', (Builtin.append_ #[23, 23] ty #[v, sv]).run Try.prog w = .ok v' w' ∧ w'.ownsRow 0 5 1 v' (M ++ bs).length (u8s (M ++ bs)) ∧ Keep (fun k => v.ownBlock = some k) w w' ∧ (v'.ownBlock = v.ownBlock ∨ ∃ k, v'.ownBlock = some k ∧ w.heap.size ≤ k) := by
  obtain ⟨i0, hi, hz0, hz1, hz2⟩ := info_parts info5
  have happ : u8s (M ++ bs) = u8s M ++ u8s bs := by simp [u8s]
  rcases h with ⟨rfl, rfl⟩ | ⟨a, c, rfl, hc⟩
  · refine ⟨v, w, ?_, by simpa using hown, Keep.refl _ _, .inl rfl⟩
    rcases hown.2 with ⟨rfl, h0⟩ | ⟨g, cap, cur, rfl, _, hg, hr1, hr2, _⟩
    · simp [Builtin.append_, run_underlying Try.underlying23, sizeOf, typeInfo, hi, Builtin.lenOf, go_sem]
    · have hcap : M.length ≤ cap := by omega
      simp [Builtin.append_, run_underlying Try.underlying23, sizeOf, typeInfo, hi, Builtin.lenOf, go_sem, hcap]
  · obtain ⟨v', w', hr, h2, h3, h4, h5⟩ := run_append_own_at (P := Try.prog) w 0 23 ty 5 i0 (.int .u8 0) 1 1 Try.underlying23 hi hz0 hz1 hz2 rfl (by decide) v M.length (u8s M) hown a bs.length c (u8s bs) (by simp [u8s_length]) hc (u8s_one bs) (by unfold maxLen; omega) (by omega) (Nat.zero_le _)
    refine ⟨v', w', hr, by rw [List.length_append, happ]; exact h2, (Keep.refl _ w).grown h3 (fun k e _ => e), ?_⟩
    rcases h5 with e | e
    · exact .inl e
    · exact .inr ⟨_, e, Nat.le_refl _⟩
/-- append, its run handed in: at a plain region's list. -/
theorem wpList_append_run {ops : Array Oper} {rest : List Oper} {o : Oper} {a : Act} {Q : Exit → Act → World → Prop} (w : World) (hgd : o.guard = none) (s x : Operand) (t : TypeId)
    (ho : o.op = .call { callee := .builtin .append, args := #[s, x], argTypes := #[t, t] }) (v sv v' : Value) (w' : World) (hs : a.eval s = v) (hx : a.eval x = sv)
    (hr : (Builtin.append_ #[t, t] o.type #[v, sv]).run Try.prog w = .ok v' w') (hk : wpList Try.prog ops Q rest (a.put o.dst v') w') : wpList Try.prog ops Q (o :: rest) a w := by
  refine wpList_plain hgd fun K hK => ?_
  unfold Oper.wp execOp
  simp only [ho, resolve, invoke, builtin, Sem.run_bind, Sem.run_pure, Result.andThen_ok, List.map_toArray, List.map_cons, List.map_nil, hs, hx, hr]
  exact hK _ _ hk

set_option maxHeartbeats 1000000 in
theorem statesBack_bad (a : Option Addr) (cap gb off : Nat) (xs : List Int) (log : Int) (v2 : Value) (w : World) (h : RowI w .i16 a cap gb off xs) (hx : I16 xs) (hb : okT xs log = false) :
    Calls Try.prog 4 #[.slice a xs.length cap, .int .i64 log, v2] w fun e w' => e = .returned (.bool true) ∧ Keep noBlock w w' := by
  have H1 := (show Hid (∀ W, RowI W .i16 a cap gb off xs → _) from fun W h => write_bad a cap gb off xs log W h hx hb)
  have HR := (show Hid (RowI w .i16 a cap gb off xs) from h)
  generalize xs.length = n at *
  clear h
  go_enter Try.func4, Try.ntmps4
  go_wp2_with fail
  refine (H1.out _ HR.out).mono ?_
  rintro e w1 ⟨rfl, rfl⟩
  go_wp2_with fail
  refine (wakes_any _).mono ?_
  rintro e w6 ⟨rfl, hk⟩
  go_wp2_with fail
  go_ret
  exact ⟨rfl, hk⟩

set_option maxRecDepth 100000 in
set_option maxHeartbeats 4000000 in
theorem statesBack_good (a : Option Addr) (cap gb off : Nat) (xs : List Int) (l : Nat) (a2 : Option Addr) (n2 cap2 : Nat) (bs2 : List Nat) (w : World) (h : RowI w .i16 a cap gb off xs) (hx : I16 xs) (hb : okT xs (l : Int) = true) (h2 : SrcB w (.slice a2 n2 cap2) bs2) (hbs2 : ∀ j : Nat, bs2[j]?.getD 0 < 256) (hl2 : bs2.length ≤ 140737488351232) :
    Calls Try.prog 4 #[.slice a xs.length cap, .int .i64 (l : Int), .slice a2 n2 cap2] w fun e w' => e = .returned (.bool true) ∧ Keep noBlock w w' := by
  have H1 := (show Hid (Calls Try.prog 7 _ w _) from write_good a cap gb off xs l w h hx hb)
  have hlen := (okT_good hb).2.2.2.1
  have hl12 := (okT_good hb).2.2.2.2.2
  have hGd := okT_good hb
  have hdl := dsc_le xs.length (2 ^ l) xs (by rw [← hGd.2.1]; exact hGd.1.le)
  have hDl : (dscAll xs l).length ≤ 3844 := by unfold dscAll; rw [List.length_append, low_length]; omega
  have hal : (alignL (dscAll xs l)).length = (dscAll xs l).length + (8 - (dscAll xs l).length % 8) % 8 := by unfold alignL; rw [List.length_append, low_length]
  have hpl := pack_length (alignL (dscAll xs l))
  have hB481 : (pack (alignL (dscAll xs l))).length ≤ 481 := by omega
  have hU : ((dscAll xs l).length + 7) / 8 = (pack (alignL (dscAll xs l))).length := by omega
  have hL := laid_pack (dscAll xs l) hDl bs2
  have hBb := pack_lt (alignL (dscAll xs l))
  have HRD := (show Hid (∀ W v base, W.ownsRow base 5 1 v (pack (alignL (dscAll xs l)) ++ bs2).length (u8s (pack (alignL (dscAll xs l)) ++ bs2)) → Calls Try.prog 13 #[v, .int .i64 12, .int .i64 255] W fun e w' => ∃ gc cap', e = .returned (.tuple #[.slice (some ⟨gc, 0, none⟩) xs.length cap', .int .i64 (l : Int), .int .i64 (((pack (alignL (dscAll xs l))).length : Nat) : Int), .int .i64 0]) ∧ W.heap.size ≤ gc ∧ RowI w' .i16 (some ⟨gc, 0, none⟩) cap' gc 0 xs ∧ Keep noBlock W w') from fun W v base ho => by
    rw [← hU]
    refine read_good base v _ xs l 12 255 W ho (fun j => ?_) (by rw [List.length_append]; omega) hb hL hl12 (by omega) (by omega) (by omega)
    by_cases hj : j < (pack (alignL (dscAll xs l))).length
    · rw [List.getElem?_append_left hj]; exact hBb j
    · rw [List.getElem?_append_right (by omega)]; exact hbs2 _)
  have HS := (show Hid (SrcB w (.slice a2 n2 cap2) bs2) from h2)
  have HR := (show Hid (RowI w .i16 a cap gb off xs) from h)
  generalize pack (alignL (dscAll xs l)) = B at *
  clear h hGd hdl hDl hal hpl hL hBb hU h2 hb
  obtain ⟨n, hn⟩ : ∃ n, n = xs.length := ⟨_, rfl⟩
  have HN := (show Hid (n = xs.length) from hn)
  rw [← hn] at H1 HRD hlen ⊢
  clear hn
  go_enter Try.func4, Try.ntmps4
  go_wp2_with fail
  refine H1.out.mono ?_
  rintro e w1 ⟨v1, rfl, hown1, hK1⟩
  have hem : (w1.alloc (.cells #[] 5)).ownsRow 0 5 1 (.slice (some ⟨w1.heap.size, 0, none⟩) 0 0) ([] : List Nat).length (u8s []) := World.ownsRow_made w1 #[] 0 (Nat.zero_le _) (Nat.zero_le _) rfl
  have hka : Keep noBlock w1 (w1.alloc (.cells #[] 5)) := (Keep.refl _ w1).alloc _
  obtain ⟨v3, w3, hr3, ho3, hk3, hm3⟩ := run_append_all (w1.alloc (.cells #[] 5)) 23 _ [] B hem (by simp; omega) v1 ((Src.of_owns (owns_keep hown1 hka (fun _ _ h => h))).srcB)
  rw [List.nil_append] at ho3
  have hk13 : Keep noBlock w1 w3 := hka.trans hk3 (fun i hi e => by
    have e' : w1.heap.size = i := by simpa [Value.ownBlock] using e
    omega)
  obtain ⟨v4, w4, hr4, ho4, hk4, hm4⟩ := run_append_all w3 23 v3 B bs2 ho3 (by omega) (.slice a2 n2 cap2) (HS.out.keep (hK1.trans' hk13) (fun _ h => h))
  have hk14 : Keep noBlock w1 w4 := hk13.trans hk4 (fun i hi e => by
    rcases hm3 with e3 | ⟨k, e3, hk⟩
    · rw [e3] at e
      have e' : w1.heap.size = i := by simpa [Value.ownBlock] using e
      omega
    · rw [e3] at e
      cases e
      rw [World.size_alloc] at hk; omega)
  have HRE := (show Hid (Calls Try.prog 13 _ w4 _) from HRD.out w4 v4 0 ho4)
  have HK4 := (show Hid (Keep noBlock w w4) from hK1.trans' hk14)
  obtain ⟨sa1, cp1, rfl⟩ := owns_form hown1
  obtain ⟨sa3, cp3, rfl⟩ := owns_form ho3
  obtain ⟨sa4, cp4, rfl⟩ := owns_form ho4
  clear hown1 hK1 hem hka ho3 hk3 hm3 hk13 ho4 hk4 hm4 hk14 HRD H1 HS
  generalize (B ++ bs2).length = B2 at *
  generalize B.length = Bl at *
  go_wp2_with (at_builtin; first | (refine wpList_append_run _ rfl _ _ 23 rfl _ _ _ _ rfl rfl hr3 ?_) | (refine wpList_append_run _ rfl _ _ 23 rfl _ _ _ _ rfl rfl hr4 ?_))
  refine HRE.out.mono ?_
  rintro e w5 ⟨gc, cap5, rfl, hgc, hRow5, hK5⟩
  have HR5 := (show Hid (RowI w5 .i16 (some ⟨gc, 0, none⟩) cap5 gc 0 xs ∧ RowI w5 .i16 a cap gb off xs ∧ Keep noBlock w w5) from ⟨hRow5, HR.out.keep (HK4.out.trans' hK5) (fun _ h => h), HK4.out.trans' hK5⟩)
  clear hRow5 hK5 hgc HRE HK4 HR hr3 hr4
  go_wp2_with fail
  have hsm := same_true (some ⟨gc, 0, none⟩) a cap5 cap gc gb 0 off xs w5 HR5.out.1 HR5.out.2.1 (by have := HN.out; omega)
  rw [← HN.out] at hsm
  refine hsm.mono ?_
  rintro e w6 ⟨rfl, q, rfl⟩
  clear hsm
  go_wp2_with fail
  refine (wakes_any _).mono ?_
  rintro e w7 ⟨rfl, hk7⟩
  go_wp2_with fail
  go_ret
  exact ⟨rfl, (HR5.out.2.2.trans' (keep_drewN w5 q)).trans' hk7⟩

theorem statesBack_any (a : Option Addr) (cap gb off : Nat) (xs : List Int) (log : Int) (a2 : Option Addr) (cap2 gb2 off2 : Nat) (xs2 : List Int) (w : World) (h : RowI w .i16 a cap gb off xs) (hx : I16 xs) (h2 : RowI w .u8 a2 cap2 gb2 off2 xs2) (hb2 : ∀ i : Nat, 0 ≤ xs2[i]?.getD 0 ∧ xs2[i]?.getD 0 ≤ 255) (hl2 : xs2.length ≤ 140737488351232) :
    Calls Try.prog 4 #[.slice a xs.length cap, .int .i64 log, .slice a2 xs2.length cap2] w fun e w' => e = .returned (.bool true) ∧ Keep noBlock w w' := by
  cases hb : okT xs log with
  | false => exact statesBack_bad a cap gb off xs log _ w h hx hb
  | true =>
    have h5 := (of_decide_eq_true hb).1
    obtain ⟨l, rfl⟩ := Int.eq_ofNat_of_zero_le (show 0 ≤ log by omega)
    refine statesBack_good a cap gb off xs l a2 xs2.length cap2 (xs2.map Int.toNat) w h hx hb (h2.srcB hb2) (fun j => ?_) (by rw [List.length_map]; exact hl2)
    have := hb2 j
    rw [List.getElem?_map]
    by_cases hj : j < xs2.length
    · rw [List.getElem?_eq_getElem hj] at this ⊢
      simp only [Option.getD_some, Option.map_some] at this ⊢
      omega
    · rw [List.getElem?_eq_none (by omega)]; simp

end Go.Proofs.Ytoffnhbopjaocaa
