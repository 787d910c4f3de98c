/-
  CanonTells answers true for every input, and its arguments read afterwards as they read before: lengths are given their words, words are read and written, as the document says. No condition.
-/
import Derived.Test.YtapcohpagipkpaaTellsLaw
import Derived.Test.YtapcohpagipkpaaIn
namespace Go.Proofs.Ytapcohpagipkpaa
namespace CanonTellsPart
open Go.ChangeShapes Go.WideShapes Go.ChangeAt Go.RowKit
set_option linter.unusedVariables false

theorem rowZ {w : World} {a : Option Addr} {len cap : Nat} {zs : List Int} (h : IsRow .i64 w a len cap zs) : ∃ gb off, RowZ w a gb off (zs.take len) ∧ (zs.take len).length = len := by
  obtain ⟨b, off, ha, hc⟩ := row_open h
  have hlen : (zs.take len).length = len := by
    rcases h with ⟨rfl, rfl, rfl, rfl⟩ | ⟨x, rfl, hl, hm, hz, hc, hw⟩
    · rfl
    · simp; omega
  refine ⟨b, off, ⟨ha.imp id (fun e => List.length_eq_zero_iff.1 (by omega)), fun j hj => ?_⟩, hlen⟩
  rw [hc j (by omega), List.getElem?_take, if_pos (by omega)]
/-- The bytes that came in, as New reads them. -/
theorem newIn {w : World} {a : Option Addr} {len cap gb off : Nat} {zs : List Int} (h : IsRow .u8 w a len cap zs) (hR : Row w .u8 a cap gb off (numsOf len zs)) (hlen : (numsOf len zs).length = len) (hle : len ≤ 140737488351232) (hb : ∀ i, numOf (numsOf len zs) i < 256) : NewOf w (.slice a (numsOf len zs).length cap) (numsOf len zs) := by
  intro W hk
  by_cases hne : numsOf len zs = []
  · rw [hne]
    rcases h with ⟨rfl, rfl, rfl, rfl⟩ | ⟨x, rfl, _⟩
    · exact new_any _ [] (by simp) (fun j => by simp) W (.inl ⟨rfl, rfl⟩)
    · exact new_empty x cap W
  · have hx := hR.at_.resolve_right hne
    subst hx
    have hRW := hR.keep hk (fun _ h => h)
    refine new_any _ _ (by omega) hb W (.inr ⟨⟨gb, off, none⟩, cap, rfl, hRW.block hne, fun j u hu => ?_⟩)
    have hj : j < (numsOf len zs).length := by
      have := (List.getElem?_eq_some_iff.1 hu).1
      rwa [u8s_length] at this
    rw [u8s_at _ j hj] at hu
    obtain rfl := Option.some.inj hu
    have := hRW.cells j hj
    rwa [show (⟨gb, off, none⟩ : Addr).add j = ⟨gb, off + j, none⟩ from by unfold Addr.add; split <;> simp_all]

theorem walk (a0 : Option Addr) (len0 cap0 : Nat) (z0 : List Int) (a1 : Option Addr) (len1 cap1 : Nat) (z1 : List Int) (a2 : Option Addr) (len2 cap2 : Nat) (z2 : List Int) (w : World) (w0 : IsRow .u8 w a0 len0 cap0 z0) (r0 : len0 ≤ 140737488351232) (w1 : IsRow .i64 w a1 len1 cap1 z1) (r1 : len1 ≤ 17592186043904) (w2 : IsRow .u8 w a2 len2 cap2 z2) (r2 : len2 ≤ 140737488351232) :
    Calls Try.prog 3 #[.slice a0 len0 cap0, .slice a1 len1 cap1, .slice a2 len2 cap2] w fun e w' => e = .returned (.bool true) ∧ Below w.heap.size w w' := by
  obtain ⟨gb, off, hR, hlen, hB⟩ := rowIn (B := 256) (by omega) (fun n h => u8_of_wf h) w0
  obtain ⟨gb2, off2, hZ, hlen2⟩ := rowZ w1
  obtain ⟨gb3, off3, hR3, hlen3, hB3⟩ := rowIn (B := 256) (by omega) (fun n h => u8_of_wf h) w2
  have hS := newIn w2 hR3 hlen3 r2 hB3
  suffices h : Calls Try.prog 3 #[.slice a0 len0 cap0, .slice a1 len1 cap1, .slice a2 len2 cap2] w fun e w' => e = .returned (.bool true) ∧ Keep noBlock w w' by
    refine h.mono ?_
    rintro e w' ⟨rfl, hk⟩
    exact ⟨rfl, hk.below (Nat.le_refl _) (fun _ _ h => h)⟩
  have key : CodesSame w a0 len0 cap0 ∧ Writes w a0 len0 cap0 ∧ Reads w a0 len0 cap0 (numsOf len2 z2) := by
    by_cases hl : len0 ≤ 1024
    · rw [← hlen]
      cases hc : isCode (numsOf len0 z0) with
      | false =>
        exact ⟨codes_no (codes_bad a0 cap0 gb off _ w hR (by omega) hc) (fun W hk => codesQ_bad a0 cap0 gb off _ W (hR.keep hk (fun _ h => h)) hB (by omega) hc),
          writes_no (fun W wb y hk => write_bad wb a0 cap0 gb off y _ W (hR.keep hk (fun _ h => h)) (by omega) hc) (fun W vb y hk => writeQ_bad _ a0 cap0 gb off y _ W (hR.keep hk (fun _ h => h)) hB (by omega) hc),
          reads_no (fun W rb hk => read_bad rb a0 cap0 gb off _ W (hR.keep hk (fun _ h => h)) (by omega) hc) (fun W qb hk => readQ_bad _ a0 cap0 gb off _ W (hR.keep hk (fun _ h => h)) hB (by omega) hc)⟩
      | true => exact ⟨codes_same hR hB (by omega) hc, writes_good hR hB (by omega) hc, reads_good hR hB (by omega) hc⟩
    · exact ⟨codes_no (codes_far a0 cap0 len0 w (by omega)) (fun W _ => codesQ_far a0 cap0 len0 W (by omega)),
        writes_no (fun W wb y _ => write_far wb a0 cap0 len0 y W (by omega)) (fun W vb y _ => writeQ_far _ a0 cap0 len0 y W (by omega)),
        reads_no (fun W rb _ => read_far rb a0 cap0 len0 W (by omega)) (fun W qb _ => readQ_far _ a0 cap0 len0 W (by omega))⟩
  have h := tells_walk a0 a1 a2 len0 cap0 cap1 gb2 off2 cap2 gb3 off3 _ _ w key.1 key.2.1 key.2.2 hZ (by omega) hR3 hS hB3 (by omega)
  rw [hlen2, hlen3] at h
  exact h

/-! The row. -/
set_option maxRecDepth 100000 in
theorem lifted (os : Os) (started : os.Started) (H : Type) (enc : TypeId × Value → H) :
    ReturnsInHanded {} Try.checked os 3 .any (Rows.canonTellsSpec.pre6 enc Try.prog Try.f3 Rows.canonTellsRow.domain false) (Rows.canonTellsSpec.post enc Try.prog Try.f3 false true false false) := by
  refine returnsInHanded_of_change_sized (C := Try.checked) own started (by kernel_rfl) Try.func3
    (ChangeSpec.witness6 (enc := enc) (C := Try.checked) false ⟨#[], #[.slice none 0 0, .slice none 0 0, .slice none 0 0], []⟩ 8 (by kernel_rfl) (by kernel_rfl) (by kernel_rfl) (by kernel_rfl)) ?_
  intro W base args ds gs before hval0 hW hcnd hsz0 _
  have hsz : (DataW.weightsEach Try.prog (Try.f3.params.toList ++ Rows.canonTellsSpec.plain.varTypes Try.prog) (ds ++ gs)).all (· ≤ reachBytes) = true := hsz0
  have hval : ∀ (j : Nat) t v, Try.f3.params[j]? = some t → args[j]? = some v → Value.okWide Try.prog W .any base t v := hval0
  have hW' := hW
  obtain ⟨p, q, hA0, hV, rfl, hfz, hnd⟩ := hW
  have hA : DataW.TrodAll enc Try.prog W 0 (fun _ => true) true Try.f3.params.toList args.toList ds p := hA0
  rw [Try.params3] at hA hval hsz
  obtain ⟨v0, vs0, d0, ds0, p0, q0, hargs, rfl, rfl, h0, r0⟩ := trodAll_cons hA
  obtain ⟨v1, vs1, d1, ds1, p1, q1, rfl, rfl, rfl, h1, r1⟩ := trodAll_cons r0
  obtain ⟨v2, vs2, d2, ds2, p2, q2, rfl, rfl, rfl, h2, r2⟩ := trodAll_cons r1
  obtain ⟨rfl, rfl, rfl⟩ := trodAll_nil r2
  obtain rfl : args = #[v0, v1, v2] := by cases args; simp_all
  obtain ⟨rfl, rfl⟩ := trodVars_none hV
  obtain ⟨a0, len0, cap0, rfl⟩ := okWide_slice Try.underlying22 (hval 0 22 v0 rfl rfl)
  have k0 := h0
  have lt0 : ∀ x ∈ p0, x.block < W.heap.size := by obtain ⟨m, hm⟩ := k0; exact DataW.trod_lt m _ _ _ hm
  obtain ⟨z0, w0, rch0⟩ : ∃ zs, IsRow .u8 W a0 len0 cap0 zs ∧ len0 ≤ 140737488351232 := by
    obtain ⟨fuel, hf⟩ := h0
    rcases open_ints Try.underlying22 Try.underlying5 (by kernel_rfl) hf with ⟨hcs, _⟩ | ⟨x, l, c, zs, hcs, _, hl, hm, hz, hx, hcell, hwz⟩
    · simp [Value.cells] at hcs
      obtain ⟨rfl, rfl, rfl⟩ := hcs
      exact ⟨[], .inl ⟨rfl, rfl, rfl, rfl⟩, by omega⟩
    · simp [Value.cells] at hcs
      obtain ⟨rfl, rfl, rfl⟩ := hcs
      simp only [Prod.mk.injEq] at hx
      obtain ⟨rfl, _⟩ := hx
      refine ⟨zs, .inr ⟨_, rfl, hl, hm, by simpa using hz, hcell, hwz⟩, ?_⟩
      have := sized_slice hsz (j := 0) (t := 22) (e := 5) rfl rfl Try.underlying22
      rw [bytes5] at this
      have hz' : zs.length = cap0 := by simpa using hz
      simp only [lits, List.length_map, List.length_take, List.length_drop, reachBytes] at this
      omega
  obtain ⟨a1, len1, cap1, rfl⟩ := okWide_slice Try.underlying23 (hval 1 23 v1 rfl rfl)
  have k1 := h1
  have lt1 : ∀ x ∈ p1, x.block < W.heap.size := by obtain ⟨m, hm⟩ := k1; exact DataW.trod_lt m _ _ _ hm
  obtain ⟨z1, w1, rch1⟩ : ∃ zs, IsRow .i64 W a1 len1 cap1 zs ∧ len1 ≤ 17592186043904 := by
    obtain ⟨fuel, hf⟩ := h1
    rcases open_ints Try.underlying23 Try.underlying3 (by kernel_rfl) hf with ⟨hcs, _⟩ | ⟨x, l, c, zs, hcs, _, hl, hm, hz, hx, hcell, hwz⟩
    · simp [Value.cells] at hcs
      obtain ⟨rfl, rfl, rfl⟩ := hcs
      exact ⟨[], .inl ⟨rfl, rfl, rfl, rfl⟩, by omega⟩
    · simp [Value.cells] at hcs
      obtain ⟨rfl, rfl, rfl⟩ := hcs
      simp only [Prod.mk.injEq] at hx
      obtain ⟨rfl, _⟩ := hx
      refine ⟨zs, .inr ⟨_, rfl, hl, hm, by simpa using hz, hcell, hwz⟩, ?_⟩
      have := sized_slice hsz (j := 1) (t := 23) (e := 3) rfl rfl Try.underlying23
      rw [bytes3] at this
      have hz' : zs.length = cap1 := by simpa using hz
      simp only [lits, List.length_map, List.length_take, List.length_drop, reachBytes] at this
      omega
  obtain ⟨a2, len2, cap2, rfl⟩ := okWide_slice Try.underlying22 (hval 2 22 v2 rfl rfl)
  have k2 := h2
  have lt2 : ∀ x ∈ p2, x.block < W.heap.size := by obtain ⟨m, hm⟩ := k2; exact DataW.trod_lt m _ _ _ hm
  obtain ⟨z2, w2, rch2⟩ : ∃ zs, IsRow .u8 W a2 len2 cap2 zs ∧ len2 ≤ 140737488351232 := by
    obtain ⟨fuel, hf⟩ := h2
    rcases open_ints Try.underlying22 Try.underlying5 (by kernel_rfl) hf with ⟨hcs, _⟩ | ⟨x, l, c, zs, hcs, _, hl, hm, hz, hx, hcell, hwz⟩
    · simp [Value.cells] at hcs
      obtain ⟨rfl, rfl, rfl⟩ := hcs
      exact ⟨[], .inl ⟨rfl, rfl, rfl, rfl⟩, by omega⟩
    · simp [Value.cells] at hcs
      obtain ⟨rfl, rfl, rfl⟩ := hcs
      simp only [Prod.mk.injEq] at hx
      obtain ⟨rfl, _⟩ := hx
      refine ⟨zs, .inr ⟨_, rfl, hl, hm, by simpa using hz, hcell, hwz⟩, ?_⟩
      have := sized_slice hsz (j := 2) (t := 22) (e := 5) rfl rfl Try.underlying22
      rw [bytes5] at this
      have hz' : zs.length = cap2 := by simpa using hz
      simp only [lits, List.length_map, List.length_take, List.length_drop, reachBytes] at this
      omega
  clear hA0 hval0
  refine (walk a0 len0 cap0 z0 a1 len1 cap1 z1 a2 len2 cap2 z2 W w0 rch0 w1 rch1 w2 rch2).mono fun e W' ⟨he, bel⟩ => ?_
  subst he
  exact ⟨_, rfl, _, _, _, [], _, [], hW', trodAll_mk1 (shut_bool Try.underlying4 _), (trodAll_cons_mk (Below.trod laidOut (by kernel_rfl) (of_decide_eq_true (by kernel_rfl)) k0 bel lt0) (trodAll_cons_mk (Below.trod laidOut (by kernel_rfl) (of_decide_eq_true (by kernel_rfl)) k1 bel lt1) (trodAll_cons_mk (Below.trod laidOut (by kernel_rfl) (of_decide_eq_true (by kernel_rfl)) k2 bel lt2) trodAll_mk0))), rfl, bel.frame _, fun h => by cases h⟩

theorem over : Rows.canonTellsRow.holds Try.pinned (OpenSpec.ofChange Rows.canonTellsSpec) :=
  OpenClaim.holds_of_wide 3 Try.f3 rfl rfl rfl rfl rfl rfl rfl ⟨rfl, rfl, rfl, rfl, rfl⟩ rfl rfl rfl rfl rfl (by kernel_rfl) Try.func3 (by kernel_rfl)
    (of_decide_eq_true (by kernel_rfl)) (by unfold Func.isWrapper; first | (rw [if_pos (by decide +kernel)]; kernel_rfl) | (rw [if_neg (by decide +kernel)]; exact ⟨rfl, rfl⟩))
    (fun os started H enc _ => lifted os started H enc)

end CanonTellsPart
/-- The statement. -/
theorem canonTells_holds : Rows.CanonTellsSaid := CanonTellsPart.over
#print axioms canonTells_holds
end Go.Proofs.Ytapcohpagipkpaa
