/-
  What SumsGrow leans on: the document's number of a kind, append onto a row of one's own, Add that says which block it turns.
-/
import Derived.Test.YtoohkldhfkoocaaTellLaw
import Derived.Test.YtoohkldhfkoocaaOneLaw
namespace Go.Proofs.Ytoohkldhfkoocaa
open Go.RowKit Go.Shelf
set_option linter.unusedVariables false

set_option maxRecDepth 100000 in
set_option maxHeartbeats 1000000 in
theorem refOf_any (kind : Int) (a : Option Addr) (cap gb off : Nat) (bs : List Nat) (w : World) (hb : Bytes w a cap gb off bs) :
    Calls Try.prog 18 #[.int .i64 kind, .slice a bs.length cap] w fun e w' => e = .returned (.int .u64 ((sumOf kind bs : Nat) : Int)) ∧ Keep noBlock w w' := by
  by_cases k1 : kind = 1
  · subst k1
    have HW := refCrc32_any a cap gb off bs w hb
    have hlt := crc32_lt hb.lt
    rw [sumOf1]
    clear hb
    generalize crc32 bs = r at HW hlt ⊢
    have hwr := wrap_u64_nat r (Nat.lt_trans hlt (by decide))
    go_enter Try.func18, Try.ntmps18
    go_wp2_with fail
    refine HW.mono ?_
    rintro e w1 ⟨rfl, rfl⟩
    go_wp2_with fail
    go_ret
    exact ⟨rfl, Keep.refl _ _⟩
  by_cases k2 : kind = 2
  · subst k2
    have HW := refCrc64_any a cap gb off bs w hb
    rw [sumOf2]
    clear hb
    go_enter Try.func18, Try.ntmps18
    go_wp2_with fail
    refine HW.mono ?_
    rintro e w1 ⟨rfl, rfl⟩
    go_wp2_with fail
    go_ret
    exact ⟨rfl, Keep.refl _ _⟩
  by_cases k3 : kind = 3
  · subst k3
    have HW := refXxh_any a cap gb off bs w hb
    rw [sumOf3]
    clear hb
    go_enter Try.func18, Try.ntmps18
    go_wp2_with fail
    refine HW.mono ?_
    rintro e w1 ⟨rfl, hK⟩
    go_wp2_with fail
    go_ret
    exact ⟨rfl, hK⟩
  · have d1 : (kind == 1) = false := by simpa using k1
    have d2 : (kind == 2) = false := by simpa using k2
    have d3 : (kind == 3) = false := by simpa using k3
    have e0 : sumOf kind bs = 0 := by simp [sumOf, k1, k2, k3]
    rw [e0]
    clear k1 k2 k3 hb e0
    go_enter Try.func18, Try.ntmps18
    go_wp2_with fail
    go_ret
    exact ⟨rfl, Keep.refl _ _⟩

/-- A kind that is one. -/
def isKind (kind : Int) : Prop := kind = 1 ∨ kind = 2 ∨ kind = 3
theorem IsS.inner {w : World} {sb cb : Nat} {kind : Int} {bs : List Nat} (h : IsS w sb cb kind bs) (hk : isKind kind) : ∃ cs t, w.heap[cb]? = some (.cells cs t (0, 0)) ∧ t ≠ 5 := by
  rcases h.core with ⟨rfl, ho, ⟨cs, h1, _⟩⟩ | ⟨rfl, ho, ⟨cs, h1, _⟩⟩ | ⟨rfl, ho, ⟨⟨cs, h1, _⟩, _⟩⟩ | ⟨⟨k1, k2, k3⟩, ho⟩
  · exact ⟨cs, 56, h1, by decide⟩
  · exact ⟨cs, 56, h1, by decide⟩
  · exact ⟨cs, 60, h1, by decide⟩
  · rcases hk with e | e | e
    · exact absurd e k1
    · exact absurd e k2
    · exact absurd e k3
theorem IsS.outer {w : World} {sb cb : Nat} {kind : Int} {bs : List Nat} (h : IsS w sb cb kind bs) : ∃ cs, w.heap[sb]? = some (.cells cs 51 (0, 0)) := by
  rcases h.core with ⟨rfl, ho, _⟩ | ⟨rfl, ho, _⟩ | ⟨rfl, ho, _⟩ | ⟨_, ho⟩ <;> exact ⟨_, ho⟩
theorem IsS.keep {w w' : World} {S : Nat → Prop} {sb cb : Nat} {kind : Int} {bs : List Nat} (h : IsS w sb cb kind bs) (hk : Keep S w w') (h1 : ¬ S sb) (h2 : isKind kind → ¬ S cb) : IsS w' sb cb kind bs := by
  refine ⟨?_, h.bytes, h.len, h.ne⟩
  rcases h.core with ⟨rfl, ho, hi⟩ | ⟨rfl, ho, hi⟩ | ⟨rfl, ho, hi⟩ | ⟨hn, ho⟩
  · exact .inl ⟨rfl, hk.obj ho h1, hi.keep hk (h2 (.inl rfl))⟩
  · exact .inr (.inl ⟨rfl, hk.obj ho h1, hi.keep hk (h2 (.inr (.inl rfl)))⟩)
  · exact .inr (.inr (.inl ⟨rfl, hk.obj ho h1, hi.keep hk (h2 (.inr (.inr rfl)))⟩))
  · exact .inr (.inr (.inr ⟨hn, hk.obj ho h1⟩))
theorem add_kind (sb cb : Nat) (kind : Int) (L : List Nat) (a : Option Addr) (cap gb off : Nat) (bs : List Nat) (w : World) (h : IsS w sb cb kind L) (hb : Bytes w a cap gb off bs) (hl : L.length + bs.length < 2 ^ 61) (hne0 : bs ≠ [] → isKind kind → gb ≠ cb) :
    Calls Try.prog 19 #[.pointer (some ⟨sb, 0, none⟩), .slice a bs.length cap] w fun e w' => e = .returned (.tuple #[]) ∧ IsS w' sb cb kind (L ++ bs) ∧ Keep (fun k => isKind kind ∧ k = cb) w w' := by
  by_cases hk : isKind kind
  · refine (add_any sb cb kind L a cap gb off bs w h hb hl (fun h => hne0 h hk)).mono ?_
    rintro e w' ⟨rfl, h1, h2⟩
    exact ⟨rfl, h1, h2.mono (fun _ _ e => ⟨hk, e⟩)⟩
  · have hn : kind ≠ 1 ∧ kind ≠ 2 ∧ kind ≠ 3 := ⟨fun e => hk (.inl e), fun e => hk (.inr (.inl e)), fun e => hk (.inr (.inr e))⟩
    have ho : w.heap[sb]? = some (.cells #[.nilIface] 51 (0, 0)) := by
      rcases h.core with ⟨e, _⟩ | ⟨e, _⟩ | ⟨e, _⟩ | ⟨_, ho⟩
      · exact absurd e hn.1
      · exact absurd e hn.2.1
      · exact absurd e hn.2.2
      · exact ho
    refine (add_none sb _ w ho).mono ?_
    rintro e w' ⟨rfl, rfl⟩
    exact ⟨rfl, ⟨.inr (.inr (.inr ⟨hn, ho⟩)), app_lt h.bytes hb.lt, by rw [List.length_append]; exact hl, h.ne⟩, Keep.refl _ _⟩

/-- Bytes in a row of one's own, nil or not. -/
theorem bytes_own {w : World} {v : Value} {M : List Nat} (h : w.ownsRow 0 5 1 v M.length (u8s M)) (hlt : ∀ j : Nat, M[j]?.getD 0 < 256) (hl : M.length < 2 ^ 48) : ∃ a cap g, v = .slice a M.length cap ∧ Bytes w a cap g 0 M := by
  rcases h.2 with ⟨e, h0⟩ | ⟨g, cap, cur, e, hb, hg, hr⟩
  · have : M = [] := List.length_eq_zero_iff.1 h0
    subst this
    exact ⟨none, 0, 0, e, bytes_nil w⟩
  · subst e
    exact ⟨some ⟨g, 0, none⟩, cap, g, rfl, Bytes.of_owns h hlt hl⟩

/-- append onto a row of one's own, from whatever slice of bytes. -/
theorem run_append_all (w : World) (ty : TypeId) (v : Value) (M bs : List Nat) (hown : w.ownsRow 0 5 1 v M.length (u8s M)) (hlen : M.length + bs.length ≤ 1099511627776) (sv : Value) (h : SrcB w sv bs) :
    ∃ v' w', (Builtin.append_ #[22, 22] ty #[v, sv]).run Try.prog w = .ok v' w' ∧ w'.ownsRow 0 5 1 v' (M ++ bs).length (u8s (M ++ bs)) ∧ Keep (fun k => v.ownBlock = some k) w w' ∧ (v'.ownBlock = v.ownBlock ∨ ∃ k, v'.ownBlock = some k ∧ w.heap.size ≤ k) := by
  obtain ⟨i0, hi, hz0, hz1, hz2⟩ := info_parts info5
  have happ : u8s (M ++ bs) = u8s M ++ u8s bs := by simp [u8s]
  rcases h with ⟨rfl, rfl⟩ | ⟨a, c, rfl, hc⟩
  · refine ⟨v, w, ?_, by simpa using hown, Keep.refl _ _, .inl rfl⟩
    rcases hown.2 with ⟨rfl, h0⟩ | ⟨g, cap, cur, rfl, _, hg, hr1, hr2, _⟩
    · simp [Builtin.append_, run_underlying Try.underlying22, sizeOf, typeInfo, hi, Builtin.lenOf, go_sem]
    · have hcap : M.length ≤ cap := by omega
      simp [Builtin.append_, run_underlying Try.underlying22, sizeOf, typeInfo, hi, Builtin.lenOf, go_sem, hcap]
  · obtain ⟨v', w', hr, h2, h3, h4, h5⟩ := run_append_own_at (P := Try.prog) w 0 22 ty 5 i0 (.int .u8 0) 1 1 Try.underlying22 hi hz0 hz1 hz2 rfl (by decide) v M.length (u8s M) hown a bs.length c (u8s bs) (by simp [u8s_length]) hc (u8s_one bs) (by unfold maxLen; omega) (by omega) (Nat.zero_le _)
    refine ⟨v', w', hr, by rw [List.length_append, happ]; exact h2, (Keep.refl _ w).grown h3 (fun k e _ => e), ?_⟩
    rcases h5 with e | e
    · exact .inl e
    · exact .inr ⟨_, e, Nat.le_refl _⟩

theorem owns_kept {w w' : World} {S : Nat → Prop} {base : Nat} {v : Value} {n : Nat} {xs : List Value} (h : w.ownsRow base 5 1 v n xs) (hk : Keep S w w') (hS : ∀ g, v.ownBlock = some g → ¬ S g) : w'.ownsRow base 5 1 v n xs := by
  refine ⟨h.1, ?_⟩
  rcases h.2 with ⟨e, h0⟩ | ⟨g, cap, cur, rfl, hb, hg, hr⟩
  · exact .inl ⟨e, h0⟩
  · exact .inr ⟨g, cap, cur, rfl, hb, hk.obj hg (hS g rfl), hr⟩
theorem not_u8 (y : Nat) (hy : y < 256) : bits .xor .u8 IntKind.u8.max (y : Int) = ((255 ^^^ y : Nat) : Int) := by
  have h := u8_xor_nat 255 y (by decide) hy
  rw [← h]
  rfl

end Go.Proofs.Ytoohkldhfkoocaa
