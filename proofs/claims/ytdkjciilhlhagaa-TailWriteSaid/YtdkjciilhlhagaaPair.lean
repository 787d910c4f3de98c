/-
  The program's writer and the document's, side by side: what a pair of calls does.
-/
import Derived.Test.YtdkjciilhlhagaaRefW
namespace Go.Proofs.Ytdkjciilhlhagaa
open Go.RowKit Go.Shelf
set_option linter.unusedVariables false

/-- What Put answers, and the bits behind it. -/
def putCode (n : Int) : Int := if 0 ≤ n ∧ n ≤ 56 then 0 else 2
def putL (L : List (Fin 2)) (x : Nat) (n : Int) : List (Fin 2) := if 0 ≤ n ∧ n ≤ 56 then L ++ low x n.toNat else L
theorem putL_le (L : List (Fin 2)) (x : Nat) (n : Int) : (putL L x n).length ≤ L.length + 56 := by
  unfold putL
  split
  · rw [List.length_append, low_length]; omega
  · omega
theorem put_all (wb : Nat) (v : Value) (L : List (Fin 2)) (x : Nat) (n : Int) (hx : x < 18446744073709551616) (hL : L.length < 1000000000000) (w : World) (h : IsW w wb v L) :
    Calls Try.prog 13 #[.pointer (some ⟨wb, 0, none⟩), .int .u64 (x : Int), .int .i64 n] w fun e w' => e = .returned (.int .i64 (putCode n)) ∧ ∃ v', IsW w' wb v' (putL L x n) ∧ Moves w.heap.size v v' ∧ Keep (fun k => k = wb ∨ v.ownBlock = some k) w w' := by
  unfold putCode putL
  by_cases hn : 0 ≤ n ∧ n ≤ 56
  · rw [if_pos hn, if_pos hn]
    obtain ⟨m, rfl⟩ := Int.eq_ofNat_of_zero_le hn.1
    exact put_any wb v L x m hx (by omega) hL w h
  · rw [if_neg hn, if_neg hn]
    refine (put_arg wb _ n hn w).mono ?_
    rintro e w' ⟨rfl, hk⟩
    exact ⟨rfl, v, h.keep hk (fun h => h) (fun _ _ h => h), .inl rfl, hk.mono (fun _ _ h => h.elim)⟩
theorem putV_all (vb : Nat) (v : Value) (L : List (Fin 2)) (x : Nat) (n : Int) (hx : x < 18446744073709551616) (hL : L.length < 1000000000000) (w : World) (h : IsV w vb v L) :
    Calls Try.prog 14 #[.pointer (some ⟨vb, 0, none⟩), .int .u64 (x : Int), .int .i64 n] w fun e w' => e = .returned (.int .i64 (putCode n)) ∧ ∃ v', IsV w' vb v' (putL L x n) ∧ Moves w.heap.size v v' ∧ Keep (fun k => k = vb ∨ v.ownBlock = some k) w w' := by
  unfold putCode putL
  by_cases hn : 0 ≤ n ∧ n ≤ 56
  · rw [if_pos hn, if_pos hn]
    obtain ⟨m, rfl⟩ := Int.eq_ofNat_of_zero_le hn.1
    exact putV_any vb v L x m hx (by omega) hL w h
  · rw [if_neg hn, if_neg hn]
    refine (putV_arg vb _ n hn w).mono ?_
    rintro e w' ⟨rfl, rfl⟩
    exact ⟨rfl, v, h, .inl rfl, Keep.refl _ _⟩

/-- A number and its bits, as it came in. -/
structure PutD where
  x : Nat
  n : Int
def putD0 : PutD := ⟨0, 0⟩

/-- If v' has a row, it lies where v's lay, or in memory that is new since there were n blocks. -/
def Comes (n : Nat) (v v' : Value) : Prop := ∀ k, v'.ownBlock = some k → v.ownBlock = some k ∨ n ≤ k
theorem Moves.comes {n : Nat} {v v' : Value} (h : Moves n v v') : Comes n v v' := fun k e => by
  rcases h with e2 | ⟨j, e2, hj⟩
  · exact .inl (by rw [← e2]; exact e)
  · rw [e2] at e; cases e; exact .inr hj

/-- Two writers that hold the same bits, in memory that is new since w and apart. -/
structure Both (w W : World) (wb vb : Nat) (u v : Value) (L : List (Fin 2)) : Prop where
  isW : IsW W wb u L
  isV : IsV W vb v L
  keep : Keep noBlock w W
  ub : ∀ k, u.ownBlock = some k → w.heap.size ≤ k ∧ k ≠ vb ∧ v.ownBlock ≠ some k
  vb' : ∀ k, v.ownBlock = some k → w.heap.size ≤ k ∧ k ≠ wb
  wn : w.heap.size ≤ wb
  vn : w.heap.size ≤ vb
  ne : wb ≠ vb

theorem Both.keep0 {w W W' : World} {wb vb : Nat} {u v : Value} {L : List (Fin 2)} (h : Both w W wb vb u v L) (hk : Keep noBlock W W') : Both w W' wb vb u v L :=
  ⟨h.isW.keep hk (fun h => h) (fun _ _ h => h), h.isV.keep hk (fun h => h) (fun _ _ h => h), h.keep.trans' hk, h.ub, h.vb', h.wn, h.vn, h.ne⟩
theorem Both.step1 {w W W1 : World} {wb vb : Nat} {u v u' : Value} {L : List (Fin 2)} (h : Both w W wb vb u v L) (hM : Comes W.heap.size u u') (hK : Keep (fun k => k = wb ∨ u.ownBlock = some k) W W1) :
    IsV W1 vb v L ∧ Keep noBlock w W1 ∧ ∀ k, u'.ownBlock = some k → w.heap.size ≤ k ∧ k ≠ vb ∧ v.ownBlock ≠ some k := by
  have hwb := h.wn
  refine ⟨h.isV.keep hK ?_ ?_, h.keep.trans hK ?_, ?_⟩
  · rintro (e | e)
    · exact h.ne e.symm
    · exact (h.ub vb e).2.1 rfl
  · rintro k hk (e | e)
    · exact (h.vb' k hk).2 e
    · exact (h.ub k e).2.2 hk
  · rintro i hi (e | e)
    · omega
    · have := (h.ub i e).1; omega
  · intro k hk
    rcases hM k hk with e | e
    · exact h.ub k e
    · have h2 := obj_lt h.isV.obj
      have h3 := h.keep.size
      refine ⟨by omega, by omega, fun hv => ?_⟩
      have := (h.isV.row.lt k hv).2; omega
theorem Both.step2 {w W1 W2 : World} {wb vb : Nat} {u v v' : Value} {L' : List (Fin 2)} (hwb : w.heap.size ≤ wb) (hvb : w.heap.size ≤ vb) (hne : wb ≠ vb)
    (hW : IsW W1 wb u L') (hK0 : Keep noBlock w W1) (hub : ∀ k, u.ownBlock = some k → w.heap.size ≤ k ∧ k ≠ vb ∧ v.ownBlock ≠ some k) (hvb' : ∀ k, v.ownBlock = some k → w.heap.size ≤ k ∧ k ≠ wb)
    (hM : Comes W1.heap.size v v') (hK : Keep (fun k => k = vb ∨ v.ownBlock = some k) W1 W2) (h2 : IsV W2 vb v' L') : Both w W2 wb vb u v' L' := by
  have hl := obj_lt hW.obj
  have hs := hK0.size
  refine ⟨hW.keep hK ?_ ?_, h2, hK0.trans hK ?_, ?_, ?_, hwb, hvb, hne⟩
  · rintro (e | e)
    · exact hne e
    · exact (hvb' wb e).2 rfl
  · rintro k hk (e | e)
    · exact (hub k hk).2.1 e
    · exact (hub k hk).2.2 e
  · rintro i hi (e | e)
    · omega
    · have := (hvb' i e).1; omega
  · intro k hk
    refine ⟨(hub k hk).1, (hub k hk).2.1, fun hv => ?_⟩
    rcases hM k hv with e | e
    · exact (hub k hk).2.2 e
    · have := (hW.row.lt k hk).2; omega
  · intro k hk
    rcases hM k hk with e | e
    · exact hvb' k e
    · exact ⟨by omega, by omega⟩
theorem Both.new (w : World) : Both w ((w.alloc (.cells #[.slice none 0 0, .int .u8 0, .int .i64 0] 41)).alloc (.cells #[.slice none 0 0] 44)) w.heap.size (w.heap.size + 1) (.slice none 0 0) (.slice none 0 0) [] := by
  refine ⟨(isW_new w).keep ((Keep.refl noBlock _).alloc _) (fun h => h) (fun _ _ h => h), ?_, ((Keep.refl _ w).alloc _).alloc _, fun k e => (by cases e), fun k e => (by cases e), Nat.le_refl _, by omega, by omega⟩
  have := isV_new (w.alloc (.cells #[.slice none 0 0, .int .u8 0, .int .i64 0] 41))
  rwa [World.size_alloc] at this

/-- Put of both: the same answer; a block pb of another kind stays. -/
theorem Both.put {w W : World} {wb vb pb : Nat} {u v : Value} {L : List (Fin 2)} {cs : Array Value} (h : Both w W wb vb u v L) (x : Nat) (n : Int) (hx : x < 18446744073709551616) (hL : L.length < 1000000000000) (hpb : W.heap[pb]? = some (.cells cs 46 (0, 0))) :
    Calls Try.prog 13 #[.pointer (some ⟨wb, 0, none⟩), .int .u64 (x : Int), .int .i64 n] W fun e W1 => e = .returned (.int .i64 (putCode n)) ∧ W1.heap[pb]? = some (.cells cs 46 (0, 0)) ∧
      Hid (Calls Try.prog 14 #[.pointer (some ⟨vb, 0, none⟩), .int .u64 (x : Int), .int .i64 n] W1 fun e W2 => e = .returned (.int .i64 (putCode n)) ∧ W2.heap[pb]? = some (.cells cs 46 (0, 0)) ∧ ∃ u' v', Both w W2 wb vb u' v' (putL L x n)) := by
  have hpw : pb ≠ wb := by rintro rfl; have := h.isW.obj; rw [hpb] at this; cases this
  have hpv : pb ≠ vb := by rintro rfl; have := h.isV.obj; rw [hpb] at this; cases this
  refine (put_all wb u L x n hx hL W h.isW).mono ?_
  rintro e W1 ⟨rfl, u1, hW1, hM1, hK1⟩
  obtain ⟨s2, s3, s4⟩ := h.step1 hM1.comes hK1
  have hpb1 := hK1.obj hpb (by rintro (e | e); exact hpw e; exact owns_ne h.isW.row hpb (by decide) e)
  refine ⟨rfl, hpb1, ?_⟩
  refine (putV_all vb v L x n hx hL W1 s2).mono ?_
  rintro e W2 ⟨rfl, v1, hV1, hM2, hK2⟩
  exact ⟨rfl, hK2.obj hpb1 (by rintro (e | e); exact hpv e; exact owns_ne s2.row hpb1 (by decide) e), u1, v1, Both.step2 h.wn h.vn h.ne hW1 s3 s4 h.vb' hM2.comes hK2 hV1⟩

/-- Close of both: the same bytes; both are empty then. -/
theorem Both.close {w W : World} {wb vb : Nat} {u v : Value} {L : List (Fin 2)} (h : Both w W wb vb u v L) (hL : L.length < 1000000000000) :
    ∃ S : ByteArray, (L = [] → S = ⟨#[1]⟩) ∧ (Calls Try.prog 15 #[.pointer (some ⟨wb, 0, none⟩)] W fun e W1 => ∃ sa n cap, e = .returned (.slice sa n cap) ∧ (convert 22 9 (.slice sa n cap)).run Try.prog W1 = .ok (.string S) W1 ∧
      Hid (Calls Try.prog 16 #[.pointer (some ⟨vb, 0, none⟩)] W1 fun e W2 => ∃ sb m cbp, e = .returned (.slice sb m cbp) ∧ (convert 22 9 (.slice sb m cbp)).run Try.prog W2 = .ok (.string S) W2 ∧ (convert 22 9 (.slice sa n cap)).run Try.prog W2 = .ok (.string S) W2 ∧ Both w W2 wb vb (.slice none 0 0) (.slice none 0 0) [])) := by
  refine ⟨strOf (pack (L ++ [1])), fun e => by subst e; decide, ?_⟩
  refine (close_any wb u L hL W h.isW).mono ?_
  rintro e W1 ⟨y1, rfl, hown1, hW1, hM1, hK1⟩
  obtain ⟨s2, s3, s4⟩ := h.step1 hM1.comes hK1
  obtain ⟨sa, cap, rfl⟩ := owns_form hown1
  refine ⟨sa, _, cap, rfl, run_conv (Src.of_owns hown1), ?_⟩
  refine (closeV_any vb v L hL W1 s2).mono ?_
  rintro e W2 ⟨y2, rfl, hown2, hn2, hV2, hK2⟩
  obtain ⟨sb, cbp, rfl⟩ := owns_form hown2
  have hown3 := owns_keep hown1 hK2 (fun k e1 e2 => by
    obtain ⟨_, q1, q2⟩ := s4 k e1
    rcases e2 with e2 | e2
    · exact q1 e2
    · exact q2 e2)
  exact ⟨sb, _, cbp, rfl, run_conv (Src.of_owns hown2), run_conv (Src.of_owns hown3), Both.step2 h.wn h.vn h.ne hW1 s3 (fun k e => by cases e) h.vb' (fun k e => by cases e) hK2 hV2⟩

end Go.Proofs.Ytdkjciilhlhagaa
