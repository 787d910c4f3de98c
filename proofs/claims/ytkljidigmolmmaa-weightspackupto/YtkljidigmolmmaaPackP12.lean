/-
  The document's next: the byte whose word comes next.
  A tail's writer of one's own, beside other blocks.
  Pack.
  Unpack; what Pack and Unpack answer where they refuse.
  What is packed and unpacked, as lists: no program is named here.
-/
import Derived.Test.YtkljidigmolmmaaPackP11
namespace Go.Proofs.Ytkljidigmolmmaa
open Go.RowKit Go.Shelf
set_option linter.unusedVariables false

/-- The words as the document's row has them. -/
def dX (ws : List Nat) (s : Nat) : Nat := if wt ws s = 0 then 0 else wordX ws s
def dN (ws : List Nat) (m s : Nat) : Nat := if wt ws s = 0 then 0 else m + 1 - wt ws s
/-- Which word fits n bits. -/
theorem fits_iff {ws : List Nat} {m : Nat} (hc : IsCode ws m) (bs : List Nat) (q n i : Nat) (hi : i < ws.length) (hn : n ≤ m) : (dN ws m i = n ∧ 0 < n ∧ dX ws i = strm bs q n) ↔ (symX ws m (strm bs q m) = i ∧ n = m + 1 - wt ws i) := by
  have hwm := hc.wt_le i hi
  constructor
  · rintro ⟨h1, h2, h3⟩
    unfold dN at h1
    unfold dX at h3
    by_cases e : wt ws i = 0
    · rw [if_pos e] at h1; omega
    · rw [if_neg e] at h1 h3
      refine ⟨?_, h1.symm⟩
      refine (hc.begins i _ hi (by omega) (strm_lt _ _ _)).1 ?_
      rw [h3, ← strm_head bs q n m hn]
      congr 2
      omega
  · rintro ⟨h1, h2⟩
    have hs := hc.sym (strm bs q m) (strm_lt _ _ _)
    rw [h1] at hs
    have hb := (hc.begins i _ hi hs.2.1 (strm_lt _ _ _)).2 h1
    unfold dN dX
    rw [if_neg (by omega), if_neg (by omega)]
    refine ⟨h2.symm, by omega, ?_⟩
    rw [← hb, ← strm_head bs q n m hn]
    congr 2
    omega

set_option maxRecDepth 100000 in
set_option maxHeartbeats 4000000 in
theorem nextD_any (qb gq : Nat) (bs : List Nat) (q : Nat) (g : Nat) (ws : List Nat) (m : Nat) (w : World) (hR : AtQ w qb gq bs q) (hW : WdA w g ws.length (dX ws) (dN ws m)) (hc : IsCode ws m) (hgq : g ≠ qb) (hq : q + 12 < 1000000000000) (hT : Tl.tailLen bs < 1125899906842624) :
    Calls Try.prog 33 #[.pointer (some ⟨qb, 0, none⟩), .slice (some ⟨g, 0, none⟩) ws.length ws.length, .int .i64 (m : Int)] w fun e w' => e = .returned (.tuple #[.int .u8 ((symX ws m (strm bs q m) : Nat) : Int), .bool (decide (q + (m + 1 - wt ws (symX ws m (strm bs q m))) ≤ Tl.tailLen bs))]) ∧ AtQ w' qb gq bs (q + (m + 1 - wt ws (symX ws m (strm bs q m)))) ∧ Keep (fun k => k = qb) w w' := by
  have hlen := hc.len
  have hm11 := hc.m11
  have HH := (show Hid (IsCode ws m ∧ WdA w g ws.length (dX ws) (dN ws m)) from ⟨hc, hW⟩)
  obtain ⟨hs1, hs2, -, -⟩ := hc.sym (strm bs q m) (strm_lt _ _ _)
  have hsm := hc.wt_le _ hs1
  obtain ⟨s, hs⟩ : ∃ s, s = symX ws m (strm bs q m) := ⟨_, rfl⟩
  obtain ⟨K, hK⟩ : ∃ K, K = m + 1 - wt ws s := ⟨_, rfl⟩
  rw [← hs] at hs1 hs2 hsm ⊢
  rw [← hK]
  have hK1 : 1 ≤ K ∧ K ≤ m := by omega
  have HS := (show Hid (∀ n i, i < ws.length → n ≤ m → ((dN ws m i = n ∧ 0 < n ∧ dX ws i = strm bs q n) ↔ (i = s ∧ n = K))) from fun n i h1 h2 => by
    rw [fits_iff hc bs q n i h1 h2, ← hs]
    constructor
    · rintro ⟨h3, h4⟩; subst h3; exact ⟨rfl, by rw [hK]; exact h4⟩
    · rintro ⟨h3, h4⟩; subst h3; exact ⟨rfl, by rw [← hK]; exact h4⟩)
  obtain ⟨N, hN⟩ : ∃ N, N = ws.length := ⟨_, rfl⟩
  rw [← hN] at hlen hs1 ⊢
  have HN := (show Hid (N = ws.length) from hN)
  have hNI : (N : Int) ≤ 256 := by omega
  have hmI : (m : Int) ≤ 11 := by omega
  have HR := (show Hid (AtQ w qb gq bs q) from hR)
  have HQ := (show Hid (g ≠ qb ∧ Tl.tailLen bs < 1125899906842624) from ⟨hgq, hT⟩)
  clear hc hW hR hs hK hN hgq hT
  go_enter Try.func33, Try.ntmps33
  go_wp2
  go_loopw [8, 9] (fun v8 v9 wr => ∃ (n x : Nat), v9 = .int .i64 (n : Int) ∧ v8 = .int .u64 (x : Int) ∧ n ≤ K ∧ Hid (x = strm bs q n ∧ AtQ wr qb gq bs (q + n) ∧ Keep (fun k => k = qb) w wr)) (fun _ v9 _ => m + 1 - (intOf v9).toNat)
  case atStart => exact ⟨0, 0, rfl, rfl, Nat.zero_le _, rfl, HR.out, Keep.refl _ _⟩
  case round =>
    obtain ⟨n, x, rfl, rfl, hnK, HC⟩ := hrel
    have hnm : (n : Int) ≤ (m : Int) := by omega
    have hxl : x < 4096 := by
      rw [HC.out.1]
      exact Nat.lt_of_lt_of_le (strm_lt _ _ _) (Nat.pow_le_pow_right (n := 2) (j := 12) (by omega) (by omega))
    have hxI : (x : Int) < 4096 := by omega
    go_wp2_with fail
    go_loop [10] (fun v10 => ∃ i : Nat, v10 = .int .i64 (i : Int) ∧ i ≤ N ∧ (n = K → i ≤ s)) (fun v10 => N - (intOf v10).toNat)
    case atStart => exact ⟨0, rfl, Nat.zero_le _, fun _ => Nat.zero_le _⟩
    case round =>
      obtain ⟨i, rfl, hi, his⟩ := hrel
      by_cases hil : i < N
      · have hix : i < ws.length := by have := HN.out; omega
        have hilI : (i : Int) < (N : Int) := by omega
        obtain ⟨hx, hA, hKw⟩ := HC.out
        have hWr := HH.out.2.keep hKw (by exact HQ.out.1)
        obtain ⟨t1, t2⟩ := hWr.cells i hix
        have hfit := HS.out n i hix (by omega)
        rw [← hx] at hfit
        have hcl := hA.is.left
        have hdNl : dN ws m i ≤ 12 := by unfold dN; split <;> omega
        have hdNI : ((dN ws m i : Nat) : Int) ≤ 12 := by omega
        by_cases hm1 : i = s ∧ n = K
        · obtain ⟨f1, f2, f3⟩ := hfit.2 hm1
          rw [f1] at t2
          rw [f3] at t1
          have hn0 : (0 : Int) < (n : Int) := by omega
          have hb1 : ((n : Int) == (n : Int)) = true := by simp
          have hb2 : ((x : Int) == (x : Int)) = true := by simp
          have hwi : IntKind.u8.wrap (i : Int) = (i : Int) := by rw [IntKind.wrap_u8]; omega
          obtain ⟨T, hT⟩ : ∃ T, T = Tl.tailLen bs := ⟨_, rfl⟩
          obtain ⟨L, hL⟩ : ∃ L : Int, L = ((Tl.tailLen bs : Nat) : Int) - ((q + n : Nat) : Int) := ⟨_, rfl⟩
          rw [← hL] at hcl
          have hD : decide ((0 : Int) ≤ L) = decide (q + K ≤ Tl.tailLen bs) := by
            rw [Bool.eq_iff_iff, decide_eq_true_iff, decide_eq_true_iff, hL, hm1.2]
            omega
          have HD := (show Hid _ from hD)
          clear hD
          have HE := (show Hid (AtQ wr qb gq bs (q + K) ∧ Keep (fun k => k = qb) w wr ∧ i = s) from ⟨by rw [← hm1.2]; exact hA, hKw, hm1.1⟩)
          have hLb : -1000000000000 < L ∧ L < 1125899906842624 := by have := HQ.out.2; omega
          clear hA hKw hWr hfit hm1 f1 f2 f3 his hL hT hdNl hdNI hx
          go_wp2_with fail
          go_quiet (fail)
          go_wp2_with fail
          go_ret2
          refine ⟨?_, HE.out.1.drewN _, HE.out.2.1.trans (keep_drewN wr _) (fun _ _ h => h.elim)⟩
          rw [← HD.out, ← HE.out.2.2]
          rfl
        · have hno := fun h => hm1 (hfit.1 h)
          have hisK : n = K → i + 1 ≤ s := fun e => by
            have := his e
            by_cases e2 : i = s
            · exact absurd ⟨e2, e⟩ hm1
            · omega
          clear hA hKw hWr hfit hm1 his hdNl hx hcl
          by_cases e1 : dN ws m i = n
          · have hb1 : (((dN ws m i : Nat) : Int) == (n : Int)) = true := by rw [e1]; simp
            by_cases e2 : 0 < n
            · have hn0 : (0 : Int) < (n : Int) := by omega
              have hb2 : (((dX ws i : Nat) : Int) == (x : Int)) = false := by
                rw [beq_eq_false_iff_ne]
                intro e
                exact hno ⟨e1, e2, by omega⟩
              clear hno
              have HE1 := (show Hid _ from e1)
              clear e1
              generalize dN ws m i = di at *
              generalize dX ws i = xi at *
              go_wp2_with fail
              go_round
              case rel => exact ⟨i + 1, by go_num, by omega, hisK⟩
              case measure => simp [intOf]; omega
            · have hn0 : ¬ (0 : Int) < (n : Int) := by omega
              clear hno
              have HE1 := (show Hid _ from e1)
              clear e1
              generalize dN ws m i = di at *
              generalize dX ws i = xi at *
              go_wp2_with fail
              go_round
              case rel => exact ⟨i + 1, by go_num, by omega, hisK⟩
              case measure => simp [intOf]; omega
          · have hb1 : (((dN ws m i : Nat) : Int) == (n : Int)) = false := by rw [beq_eq_false_iff_ne]; omega
            clear hno
            generalize dN ws m i = di at *
            generalize dX ws i = xi at *
            go_wp2_with fail
            go_round
            case rel => exact ⟨i + 1, by go_num, by omega, hisK⟩
            case measure => simp [intOf]; omega
      · obtain rfl : i = N := by omega
        have hilI : ¬ (i : Int) < (i : Int) := by omega
        have hnK2 : n < K := by
          by_cases e : n = K
          · have := his e; omega
          · omega
        obtain ⟨hx, hA, hKw⟩ := HC.out
        have HBt := (show Hid (Calls Try.prog 43 #[.pointer (some ⟨qb, 0, none⟩), .int .i64 1] wr _) from hA.bits 1 (by omega) (by omega))
        have hst : strm bs q (n + 1) = 2 * strm bs q n + strm bs (q + n) 1 := by simp [strm]
        have hb1 := strm_lt bs (q + n) 1
        rw [← hx] at hst
        have HST := (show Hid (strm bs q (n + 1) = 2 * x + strm bs (q + n) 1 ∧ Keep (fun k => k = qb) w wr) from ⟨hst, hKw⟩)
        have hb1I : ((strm bs (q + n) 1 : Nat) : Int) < 2 := by omega
        clear hx hA hKw hst hb1 HC his
        generalize strm bs (q + n) 1 = bt at *
        go_wp2_with fail
        refine HBt.out.mono ?_
        rintro e w2 ⟨rfl, hA2, hK2⟩
        go_wp2_with fail
        go_roundw
        case rel => exact ⟨n + 1, 2 * x + bt, by go_num, by go_num, by omega, HST.out.1.symm, hA2, HST.out.2.trans hK2 (fun _ _ h => h)⟩
        case measure => simp [intOf]; omega

end Go.Proofs.Ytkljidigmolmmaa

namespace Go.Proofs.Ytkljidigmolmmaa.Tl
open Go.RowKit Go.Shelf
set_option linter.unusedVariables false

/-- Whatever is no row of bytes, and is not wb, lies as it lay. -/
structure Oth (wb : Nat) (W W' : World) : Prop where
  size : W.heap.size ≤ W'.heap.size
  same : ∀ k o, W.heap[k]? = some o → k ≠ wb → (∀ cs, o ≠ .cells cs 5 (0, 0)) → W'.heap[k]? = some o
theorem Oth.cells {wb b t : Nat} {W W' : World} {cs : Array Value} (h : Oth wb W W') (hb : W.heap[b]? = some (.cells cs t (0, 0))) (hne : b ≠ wb) (ht : t ≠ 5) : W'.heap[b]? = some (.cells cs t (0, 0)) :=
  h.same b _ hb hne (fun cs' e => by cases e; exact ht rfl)
theorem Oth.mark {wb b : Nat} {W W' : World} {o : Obj} (h : Oth wb W W') (hb : W.heap[b]? = some o) (hne : b ≠ wb) (ho : o.isCells = false) : W'.heap[b]? = some o :=
  h.same b _ hb hne (fun cs' e => by subst e; cases ho)
theorem Oth.from {wb : Nat} {W W' : World} {cs : Array Value} {t : Nat} (h : Oth wb W W') (hw : W.heap[wb]? = some (.cells cs t (0, 0))) (B : Nat) : KeepsFrom B W W' :=
  ⟨h.size, fun k o _ ho hc => h.mark ho (by rintro rfl; rw [hw] at ho; cases ho; cases hc) hc⟩
theorem oth_of {W W' : World} {wb : Nat} {v : Value} {L : List (Fin 2)} (h : IsW W wb v L) (hk : Keep (fun k => k = wb ∨ v.ownBlock = some k) W W') : Oth wb W W' := by
  refine ⟨hk.size, fun k o ho hne hc => hk.obj ho ?_⟩
  rintro (e | e)
  · exact hne e
  · rcases h.row.2 with ⟨rfl, _⟩ | ⟨g, cap, cur, rfl, _, hg, _⟩
    · cases e
    · obtain rfl : g = k := by simpa [Value.ownBlock] using e
      rw [hg] at ho; cases ho; exact hc _ rfl
theorem MineT.obj {w W : World} {wb : Nat} {L : List (Fin 2)} (h : MineT w W wb L) : ∃ cs, W.heap[wb]? = some (.cells cs 50 (0, 0)) := by
  obtain ⟨v, hv, _⟩ := h.is
  exact ⟨_, hv.obj⟩
theorem MineT.putO {w W : World} {wb : Nat} {L : List (Fin 2)} (h : MineT w W wb L) (x m : Nat) (hx : x < 18446744073709551616) (hm : m ≤ 56) (hL : L.length < 1000000000000) :
    Calls Try.prog 24 #[.pointer (some ⟨wb, 0, none⟩), .int .u64 (x : Int), .int .i64 (m : Int)] W fun e W' => e = .returned (.int .i64 0) ∧ MineT w W' wb (L ++ low x m) ∧ Oth wb W W' := by
  obtain ⟨v, hv, hn⟩ := h.is
  refine (put_any wb v L x m hx hm hL W hv).mono ?_
  rintro e W' ⟨rfl, v', h1, h2, h3⟩
  refine ⟨rfl, ⟨⟨v', h1, fun k e => ?_⟩, h.new, h.keep.trans h3 ?_⟩, oth_of hv h3⟩
  · rcases h2 with h2 | ⟨j, h2, hj⟩
    · rw [h2] at e; exact hn k e
    · rw [h2] at e; cases e; have := h.keep.size; omega
  · rintro i hi (e | e)
    · have := h.new; omega
    · have := hn i e; omega
theorem MineT.closeO {w W : World} {wb : Nat} {L : List (Fin 2)} (h : MineT w W wb L) (hL : L.length < 1000000000000) :
    Calls Try.prog 25 #[.pointer (some ⟨wb, 0, none⟩)] W fun e W' => ∃ v', e = .returned v' ∧ W'.ownsRow 0 5 1 v' (pack (L ++ [1])).length (u8s (pack (L ++ [1]))) ∧ Keep noBlock w W' ∧ Oth wb W W' ∧ ∀ k, v'.ownBlock = some k → w.heap.size ≤ k := by
  obtain ⟨v, hv, hn⟩ := h.is
  refine (close_any wb v L hL W hv).mono ?_
  rintro e W' ⟨v', rfl, h1, _, h2, h3⟩
  refine ⟨v', rfl, h1, h.keep.trans h3 ?_, oth_of hv h3, fun k e => ?_⟩
  · rintro i hi (e | e)
    · have := h.new; omega
    · have := hn i e; omega
  · rcases h2 with h2 | ⟨j, h2, hj⟩
    · rw [h2] at e; exact hn k e
    · rw [h2] at e; cases e; have := h.keep.size; omega
theorem MineT.keepN {w W W' : World} {wb B : Nat} {L : List (Fin 2)} (h : MineT w W wb L) (hk : KeepN B W W') (hB : w.heap.size ≤ B) : MineT w W' wb L := by
  obtain ⟨v, hv, hn⟩ := h.is
  refine ⟨⟨v, ⟨hk.obj hv.obj, hv.row.1, ?_⟩, hn⟩, h.new, h.keep.transN hk hB⟩
  rcases hv.row.2 with hq | ⟨g, cap, cur, rfl, hb, hgb, hr⟩
  · exact .inl hq
  · exact .inr ⟨g, cap, cur, rfl, hb, hk.obj hgb, hr⟩

end Go.Proofs.Ytkljidigmolmmaa.Tl

namespace Go.Proofs.Ytkljidigmolmmaa
open Go.RowKit Go.Shelf
set_option linter.unusedVariables false

attribute [local go_sem] Oper.semAt_some

/-- What Pack has, while the words are laid: b is its first block. -/
structure PkI (w : World) (b : Nat) (a : Option Addr) (cap k m : Nat) (X N : Nat → Nat) (V : World) : Prop where
  r4 : V.heap[b]? = some (.cells #[.slice none 0 0] 22 (0, 0))
  r5 : V.heap[b + 1]? = some (.cells #[.int .i64 0] 23 (0, 0))
  of : OfA V (b + 1 + 1) X N
  bs : V.heap[b + 1 + 1 + 1]? = some (.cells #[.slice a k cap] 22 (0, 0))
  bm : V.heap[b + 1 + 1 + 1 + 1]? = some (.cells #[.int .i64 (m : Int)] 3 (0, 0))
  keep : Keep noBlock w V
theorem PkI.keepN {w : World} {b : Nat} {a : Option Addr} {cap k m : Nat} {X N : Nat → Nat} {U V : World} {B : Nat} (h : PkI w b a cap k m X N U) (hk : KeepN B U V) (hB : w.heap.size ≤ B) : PkI w b a cap k m X N V :=
  ⟨hk.obj h.r4, hk.obj h.r5, h.of.keepN hk, hk.obj h.bs, hk.obj h.bm, h.keep.transN hk hB⟩
theorem PkI.keeps {w : World} {b : Nat} {a : Option Addr} {cap k m : Nat} {X N : Nat → Nat} {U V : World} (h : PkI w b a cap k m X N U) (hk : Keep noBlock U V) : PkI w b a cap k m X N V :=
  ⟨hk.obj h.r4 (fun h => h), hk.obj h.r5 (fun h => h), h.of.keep hk (fun h => h), hk.obj h.bs (fun h => h), hk.obj h.bm (fun h => h), h.keep.trans' hk⟩

/-- What Pack answers where the weights make a code. -/
def PackPost (ws : List Nat) (m : Nat) (bs : List Nat) (w : World) (e : Ending) (w' : World) : Prop :=
  Keep noBlock w w' ∧ ((packOk ws bs = true ∧ ∃ v, e = .returned (.tuple #[v, .int .i64 0]) ∧ w'.ownsRow 0 5 1 v (pack (packL ws m bs ++ [1])).length (u8s (pack (packL ws m bs ++ [1])))) ∨ (packOk ws bs = false ∧ e = .returned (.tuple #[.slice none 0 0, .int .i64 2])))

theorem wbox_of {w V : World} {b : Nat} {a : Option Addr} {cap gb off m : Nat} {ws : List Nat} {X N : Nat → Nat} (hB : Bytes w a cap gb off ws) (h : PkI w b a cap ws.length m X N V) : WBox (b + 1 + 1 + 1) (b + 1 + 1 + 1 + 1) a cap gb off ws m V :=
  ⟨h.bs, h.bm, hB.keep h.keep (fun _ h => h)⟩

/-- What Pack has, while bytes are put: k are still to come. -/
structure PkJ (w : World) (ws : List Nat) (m : Nat) (bs : List Nat) (a2 : Option Addr) (cap2 n b D wb : Nat) (k : Nat) (V : World) : Prop where
  r4 : V.heap[b]? = some (.cells #[.slice none 0 0] 22 (0, 0))
  r5 : V.heap[b + 1]? = some (.cells #[.int .i64 0] 23 (0, 0))
  of : OfA V (b + 1 + 1) (fun s => if wt ws s = 0 then 0 else wordX ws s) (fun s => if wt ws s = 0 then 0 else m + 1 - wt ws s)
  mark : V.heap[D]? = some (.deferred (some []))
  box : V.heap[wb + 1]? = some (.cells #[.pointer (some ⟨wb, 0, none⟩)] 48 (0, 0))
  bx : V.heap[wb + 1 + 1]? = some (.cells #[.slice a2 n cap2] 22 (0, 0))
  wr : Tl.MineT w V wb (packL ws m (bs.drop k))
  ok : ∀ x ∈ bs.drop k, wt ws x ≠ 0
theorem PkJ.keepN {w : World} {ws : List Nat} {m : Nat} {bs : List Nat} {a2 : Option Addr} {cap2 n b D wb k B : Nat} {U V : World} (h : PkJ w ws m bs a2 cap2 n b D wb k U) (hk : KeepN B U V) (hB : w.heap.size ≤ B) (hD : D < B) : PkJ w ws m bs a2 cap2 n b D wb k V :=
  ⟨hk.obj h.r4, hk.obj h.r5, h.of.keepN hk, hk.block _ _ h.mark (.inl hD), hk.obj h.box, hk.obj h.bx, h.wr.keepN hk hB, h.ok⟩
/-- What Pack leaves where a byte has no word. -/
structure PkX (w : World) (ws bs : List Nat) (b D : Nat) (V : World) : Prop where
  r4 : V.heap[b]? = some (.cells #[.slice none 0 0] 22 (0, 0))
  r5 : V.heap[b + 1]? = some (.cells #[.int .i64 2] 23 (0, 0))
  mark : V.heap[D]? = some (.deferred (some []))
  keep : Keep noBlock w V
  bad : packOk ws bs = false

set_option maxRecDepth 100000 in
set_option maxHeartbeats 4000000 in
theorem pack_any (a : Option Addr) (cap gb off : Nat) (ws : List Nat) (m : Nat) (a2 : Option Addr) (cap2 gb2 off2 : Nat) (bs : List Nat) (w : World) (hB : Bytes w a cap gb off ws) (hB2 : Bytes w a2 cap2 gb2 off2 bs) (hc : IsCode ws m) (hl : bs.length ≤ 131072) :
    Calls Try.prog 10 #[.slice a ws.length cap, .slice a2 bs.length cap2] w fun e w' => PackPost ws m bs w e w' := by
  have HM := (show Hid (∀ W, Keep noBlock w W → Calls Try.prog 21 #[.slice a ws.length cap] W fun e w' => e = .returned (.tuple #[.int .i64 (m : Int), .bool true]) ∧ w' = W) from fun W hk => by
    refine (makeCode_any a cap gb off ws W (hB.keep hk (fun _ h => h))).mono ?_
    rintro e w' ⟨l, rfl, h, rfl⟩
    rw [hc.codeB.1] at h ⊢
    rw [h rfl, hc.codeM]
    exact ⟨rfl, rfl⟩)
  have HH := (show Hid (Bytes w a cap gb off ws ∧ Bytes w a2 cap2 gb2 off2 bs ∧ IsCode ws m) from ⟨hB, hB2, hc⟩)
  obtain ⟨n, hn⟩ : ∃ n, n = bs.length := ⟨_, rfl⟩
  have HN := (show Hid (n = bs.length) from hn)
  obtain ⟨k, hk⟩ : ∃ k, k = ws.length := ⟨_, rfl⟩
  have HK := (show Hid (k = ws.length) from hk)
  rw [← hn] at hl ⊢
  rw [← hk] at HM ⊢
  have hlI : ¬ (131072 : Int) < (n : Int) := by omega
  have hlI2 : (n : Int) ≤ 131072 := by omega
  have hm11 := hc.m11
  clear hB hB2 hc hn hk
  refine (callsIn_wide (n := 6)).1 ?_
  refine callsIn_of_wp_marks Try.func10 rfl trivial ?_ rfl
  simp only [Try.ntmps10, List.size_toArray, List.length_cons, List.length_nil, Nat.reduceAdd, Nat.reduceSub, Array.replicate_succ, Array.replicate_zero, List.push_toArray, List.append_toArray, List.nil_append, List.cons_append]
  gi_wp2_with (first | (refine ⟨trivial, ?_⟩; gi_at_call 21; refine (callsIn_wide.2 (HM.out _ (((Keep.refl _ w).alloc _).alloc _))).mono ?_; rintro e w' ⟨rfl, rfl⟩) | (refine ⟨trivial, ?_⟩; gi_at_call 22; refine (words_in Fence.wide _ trivial rfl _ _ _ _ _).mono ?_; rintro e w' ⟨rfl, rfl⟩))
  rw [show decide ((131072 : Int) < (n : Int)) = false from decide_eq_false (by omega)]
  obtain ⟨b, hb⟩ : ∃ b, b = w.heap.size := ⟨_, rfl⟩
  have hI0 : PkI w b a cap k m (ofX ws []) (ofN ws m []) (((((w.alloc (.cells #[.slice none 0 0] 22)).alloc (.cells #[.int .i64 0] 23)).alloc (.cells Try.zeroCells44 44)).alloc (.cells #[.slice a k cap] 22)).alloc (.cells #[.int .i64 (m : Int)] 3)) := by
    have o1 := World.alloc_heap_new w (.cells #[.slice none 0 0] 22)
    have o2 := World.alloc_heap_new (w.alloc (.cells #[.slice none 0 0] 22)) (.cells #[.int .i64 0] 23)
    have o3 := ofA_zeros ((w.alloc (.cells #[.slice none 0 0] 22)).alloc (.cells #[.int .i64 0] 23))
    have o4 := World.alloc_heap_new (((w.alloc (.cells #[.slice none 0 0] 22)).alloc (.cells #[.int .i64 0] 23)).alloc (.cells Try.zeroCells44 44)) (.cells #[.slice a k cap] 22)
    have o5 := World.alloc_heap_new ((((w.alloc (.cells #[.slice none 0 0] 22)).alloc (.cells #[.int .i64 0] 23)).alloc (.cells Try.zeroCells44 44)).alloc (.cells #[.slice a k cap] 22)) (.cells #[.int .i64 (m : Int)] 3)
    simp only [World.size_alloc] at o1 o2 o3 o4 o5
    rw [← hb] at o1 o2 o3 o4 o5
    exact ⟨alloc_far (alloc_far (alloc_far (alloc_far o1 _) _) _) _, alloc_far (alloc_far (alloc_far o2 _) _) _, ((o3.congr (fun i _ => rfl) (fun i _ => rfl)).keep (((Keep.refl noBlock _).alloc _).alloc _) (fun h => h)), alloc_far o4 _, o5, (((((Keep.refl _ w).alloc _).alloc _).alloc _).alloc _).alloc _⟩
  have hsz : (((((w.alloc (.cells #[.slice none 0 0] 22)).alloc (.cells #[.int .i64 0] 23)).alloc (.cells Try.zeroCells44 44)).alloc (.cells #[.slice a k cap] 22)).alloc (.cells #[.int .i64 (m : Int)] 3)).heap.size = b + 5 := by simp only [World.size_alloc]; rw [hb]
  generalize (((((w.alloc (.cells #[.slice none 0 0] 22)).alloc (.cells #[.int .i64 0] 23)).alloc (.cells Try.zeroCells44 44)).alloc (.cells #[.slice a k cap] 22)).alloc (.cells #[.int .i64 (m : Int)] 3)) = W0 at hI0 hsz ⊢
  rw [← hb]
  have HBW := (show Hid (b = w.heap.size) from hb)
  clear hb
  refine range_iter (gf := 44) (by omega) rfl (enters_of Try.func44 (by kernel_rfl) rfl) (wordR ws m) (fun p => p = ordC ws m) [] (fun p V => PkI w b a cap k m (ofX ws p) (ofN ws m p) V ∧ b + 5 ≤ V.heap.size)
    (fun l J Jx W _ hJI hD hY h0 => ?iter) (fun i vs i' V h => ?ps) (fun _ _ => False)
    (fun p vs p' a' V => ∃ s rb, s < ws.length ∧ p' = p ++ [s] ∧ b + 5 ≤ rb ∧ V.heap[rb]? = some (.cells #[.int .u64 ((wordX ws s : Nat) : Int), .int .i64 ((m + 1 - wt ws s : Nat) : Int)] 43 (0, 0)) ∧
      a' = { tmps := #[.slice a k cap, .slice a2 n cap2, undef, undef, .pointer (some ⟨b, 0, none⟩), .pointer (some ⟨b + 1, 0, none⟩), .int .i64 (m : Int), .bool true, .pointer (some ⟨b + 1 + 1, 0, none⟩), .int .u8 (s : Int), .pointer (some ⟨rb, 0, none⟩), undef, undef, undef, undef,
        .tuple #[.int .i64 (m : Int), .bool true], .slice a k cap, .tuple #[.int .i64 (m : Int), .bool true], .int .i64 (m : Int), .bool true, .bool true, .bool false, .slice a2 n cap2, .int .i64 (n : Int), .bool false, .slice a k cap, .int .i64 (m : Int),
        .func (.func 44) #[] #[.pointer (some ⟨b + 1 + 1 + 1 + 1, 0, none⟩), .pointer (some ⟨b + 1 + 1 + 1, 0, none⟩)], .int .u8 (s : Int), .agg #[.int .u64 ((wordX ws s : Nat) : Int), .int .i64 ((m + 1 - wt ws s : Nat) : Int)],
        undef, undef, undef, undef, undef, undef, undef, undef, undef, undef, undef, undef, undef, undef, undef, undef, undef, undef, undef, undef, undef, undef, undef], defers := [] })
    (fun p U V h hk => ⟨h.1.keepN hk (by have := HBW.out; omega), Nat.le_trans h.2 hk.size⟩) (fun _ _ _ h _ => h.elim) (fun p vs p' a' U V h hk => ?keepA) ⟨hI0, by omega⟩ ?assign ?body ?done (fun _ _ h _ => h.elim)
  case iter =>
    refine (words1_in 5 (by omega) l (b + 1 + 1 + 1) (b + 1 + 1 + 1 + 1) a cap gb off ws m HH.out.2.2 J Jx (fun p V hp => ?_) hD hY W h0).mono ?_
    · have := (hJI p V hp).1
      rw [HK.out] at this
      exact wbox_of HH.out.1 this
    · rintro e W' ⟨h1, h2⟩
      exact ⟨h1, h2.imp (fun h => ⟨_, rfl, h⟩) (fun h => h)⟩
  case ps =>
    obtain ⟨s, _, _, _, _, _, rfl⟩ := h
    rfl
  case keepA =>
    obtain ⟨s, rb, h1, h2, h3, h4, h5⟩ := h
    exact ⟨s, rb, h1, h2, h3, hk.obj h4, h5⟩
  case assign =>
    rintro p vs p' V K ⟨s, h1, h2, h3, h4, h5, rfl⟩ hi hK
    unfold wordV
    gi_wp2
    exact hK _ _ ⟨by simp, fun k' o _ ho _ => alloc_far ho _⟩ ⟨hi.1.keeps ((Keep.refl _ V).alloc _), by rw [World.size_alloc]; omega⟩ ⟨s, V.heap.size, h1, h5, hi.2, World.alloc_heap_new V _, rfl⟩
  case body =>
    rintro p vs p' a' V ⟨hi, hsz2⟩ ⟨s, rb, h1, rfl, hrb, hob, rfl⟩
    have hs256 : s < 256 := by have := HH.out.2.2.len; omega
    have hset := hi.of.set s (wordX ws s) (m + 1 - wt ws s)
    obtain ⟨c1, c2⟩ := hi.of.cells s hs256
    have f1 := hi.of.frozen (s * 2)
    have f2 := hi.of.frozen (s * 2 + 1)
    have r0 := cell_of hob 0
    have r1 := cell_of hob 1
    simp at r0 r1
    have hsI : (s : Int) < 256 := by omega
    have hkk : ∀ x y : Value, Keep (fun j => j = b + 1 + 1) V ((V.setCell ⟨b + 1 + 1, s * 2, none⟩ x).setCell ⟨b + 1 + 1, s * 2 + 1, none⟩ y) := fun x y =>
      ((Keep.refl (fun j => j = b + 1 + 1) V).setCell (p := ⟨b + 1 + 1, s * 2, none⟩) (fun _ => rfl) _).setCell (p := ⟨b + 1 + 1, s * 2 + 1, none⟩) (fun _ => rfl) _
    have HNEW := (show Hid (PkI w b a cap k m (ofX ws (p ++ [s])) (ofN ws m (p ++ [s])) ((V.setCell ⟨b + 1 + 1, s * 2, none⟩ (.int .u64 ((wordX ws s : Nat) : Int))).setCell ⟨b + 1 + 1, s * 2 + 1, none⟩ (.int .i64 ((m + 1 - wt ws s : Nat) : Int)))) from by
      refine ⟨(hkk _ _).obj hi.r4 (by omega), (hkk _ _).obj hi.r5 (by omega), hset.congr (fun i _ => ofX_snoc ws p s i) (fun i _ => ofN_snoc ws m p s i), (hkk _ _).obj hi.bs (by omega), (hkk _ _).obj hi.bm (by omega), hi.keep.trans (hkk _ _) (fun i hi e => by have := HBW.out; omega)⟩)
    have HKF := (show Hid (∀ x y : Value, KeepsFrom W0.heap.size V ((V.setCell ⟨b + 1 + 1, s * 2, none⟩ x).setCell ⟨b + 1 + 1, s * 2 + 1, none⟩ y)) from fun x y => ((KeepsOthers.setCell _ _ _).from _).trans ((KeepsOthers.setCell _ _ _).from _))
    generalize wordX ws s = xs at *
    generalize m + 1 - wt ws s = ns at *
    clear hob hi hset hkk
    gi_wp2
    exact ⟨HKF.out _ _, HNEW.out, by simp only [World.size_setCell]; exact hsz2⟩
  case done =>
    rintro p V rfl ⟨hi, hsz2⟩ hD
    have hof := hi.of.congr (fun i _ => HH.out.2.2.ofX i) (fun i _ => HH.out.2.2.ofN i)
    have HI := (show Hid (V.heap[b]? = some (.cells #[.slice none 0 0] 22 (0, 0)) ∧ V.heap[b + 1]? = some (.cells #[.int .i64 0] 23 (0, 0)) ∧ OfA V (b + 1 + 1) (fun s => if wt ws s = 0 then 0 else wordX ws s) (fun s => if wt ws s = 0 then 0 else m + 1 - wt ws s) ∧ Keep noBlock w V ∧ V.heap[W0.heap.size]? = some (.deferred (some []))) from ⟨hi.r4, hi.r5, hof, hi.keep, hD⟩)
    clear hi hof hD
    gi_wp2_with (refine ⟨trivial, ?_⟩; gi_at_call 23; refine (backward_in Fence.wide _ trivial rfl _ _ _ _).mono ?_; rintro e w' ⟨rfl, rfl⟩)
    obtain ⟨q1, q2, q3, q4, q5⟩ := HI.out
    obtain ⟨vb, hvb⟩ : ∃ vb, vb = V.heap.size := ⟨_, rfl⟩
    have hJ0 : PkJ w ws m bs a2 cap2 n b (b + 5) vb n (((V.alloc (.cells #[.slice none 0 0, .int .u8 0, .int .i64 0] 50)).alloc (.cells #[.pointer (some ⟨V.heap.size, 0, none⟩)] 48)).alloc (.cells #[.slice a2 n cap2] 22)) := by
      have o2 := World.alloc_heap_new (V.alloc (.cells #[.slice none 0 0, .int .u8 0, .int .i64 0] 50)) (.cells #[.pointer (some ⟨V.heap.size, 0, none⟩)] 48)
      have o3 := World.alloc_heap_new ((V.alloc (.cells #[.slice none 0 0, .int .u8 0, .int .i64 0] 50)).alloc (.cells #[.pointer (some ⟨V.heap.size, 0, none⟩)] 48)) (.cells #[.slice a2 n cap2] 22)
      have hmt := (Tl.mineT_new w V q4).keeps (((Keep.refl noBlock _).alloc (.cells #[.pointer (some ⟨V.heap.size, 0, none⟩)] 48)).alloc (.cells #[.slice a2 n cap2] 22))
      have hkk : Keep noBlock V (((V.alloc (.cells #[.slice none 0 0, .int .u8 0, .int .i64 0] 50)).alloc (.cells #[.pointer (some ⟨V.heap.size, 0, none⟩)] 48)).alloc (.cells #[.slice a2 n cap2] 22)) := (((Keep.refl noBlock V).alloc _).alloc _).alloc _
      simp only [World.size_alloc] at o2 o3
      rw [← hvb] at o2 o3 hmt hkk ⊢
      have hd : bs.drop n = [] := List.drop_eq_nil_of_le (by rw [HN.out]; exact Nat.le_refl _)
      exact ⟨hkk.obj q1 (fun h => h), hkk.obj q2 (fun h => h), q3.keep hkk (fun h => h), hkk.obj (by rw [← hsz]; exact q5) (fun h => h), alloc_far o2 _, o3, by rw [hd]; exact hmt, by rw [hd]; intro x hx; cases hx⟩
    have hsz3 : (((V.alloc (.cells #[.slice none 0 0, .int .u8 0, .int .i64 0] 50)).alloc (.cells #[.pointer (some ⟨V.heap.size, 0, none⟩)] 48)).alloc (.cells #[.slice a2 n cap2] 22)).heap.size = vb + 3 := by simp only [World.size_alloc]; rw [hvb]
    generalize (((V.alloc (.cells #[.slice none 0 0, .int .u8 0, .int .i64 0] 50)).alloc (.cells #[.pointer (some ⟨V.heap.size, 0, none⟩)] 48)).alloc (.cells #[.slice a2 n cap2] 22)) = W1 at hJ0 hsz3 ⊢
    have hD5 : b + 5 < vb := by rw [hvb]; rw [← hsz]; exact obj_lt q5
    rw [← hvb]
    have HV := (show Hid (b + 5 < vb ∧ b = w.heap.size ∧ W1.heap.size = vb + 3) from ⟨hD5, HBW.out, hsz3⟩)
    clear q1 q2 q3 q4 q5 HI hvb hD5 hsz2 hI0
    refine range_iter (gf := 46) (by omega) rfl (enters_of Try.func46 (by kernel_rfl) rfl) (backR bs) (fun p => p = 0) n (fun p U => PkJ w ws m bs a2 cap2 n b (b + 5) vb p U ∧ vb + 3 ≤ U.heap.size)
      (fun l J Jx W _ hJI hD hY h0 => ?iter2) (fun i vs i' V h => ?ps2) (fun c U => c = .ret ∧ PkX w ws bs b (b + 5) U)
      (fun p vs p' a' U => ∃ x, p = p' + 1 ∧ p ≤ n ∧ x = bs[p']?.getD 0 ∧
        a' = { tmps := #[.slice a k cap, .slice a2 n cap2, undef, undef, .pointer (some ⟨b, 0, none⟩), .pointer (some ⟨b + 1, 0, none⟩), .int .i64 (m : Int), .bool true, .pointer (some ⟨b + 1 + 1, 0, none⟩), undef, undef, .pointer (some ⟨vb + 1, 0, none⟩), undef, .int .u8 (x : Int), undef,
          .tuple #[.int .i64 (m : Int), .bool true], .slice a k cap, .tuple #[.int .i64 (m : Int), .bool true], .int .i64 (m : Int), .bool true, .bool true, .bool false, .slice a2 n cap2, .int .i64 (n : Int), .bool false, .slice a k cap, .int .i64 (m : Int),
          .func (.func 44) #[] #[.pointer (some ⟨b + 1 + 1 + 1 + 1, 0, none⟩), .pointer (some ⟨b + 1 + 1 + 1, 0, none⟩)], undef, undef, undef, undef, undef,
          .agg #[.slice none 0 0, .int .u8 0, .int .i64 0], .pointer (some ⟨vb, 0, none⟩), .slice a2 n cap2, .func (.func 46) #[] #[.pointer (some ⟨vb + 1 + 1, 0, none⟩)], .int .i64 (p' : Int), .int .u8 (x : Int),
          undef, undef, undef, undef, undef, undef, undef, undef, undef, undef, undef, undef, undef, undef], defers := [] })
      (fun p U U' h hk => ⟨h.1.keepN hk (by have := HV.out; have := hsz3; omega) (by have := HV.out; omega), Nat.le_trans h.2 hk.size⟩)
      (fun c U U' h hk => ⟨h.1, hk.obj h.2.r4, hk.obj h.2.r5, hk.block _ _ h.2.mark (.inl (by have := HV.out; omega)), h.2.keep.transN hk (by have := HV.out; omega), h.2.bad⟩)
      (fun p vs p' a' U U' h hk => h) ⟨hJ0, by omega⟩ ?assign2 ?body2 ?done2 ?stop2
    case iter2 =>
      refine (backward1_in 5 (by omega) l (vb + 1 + 1) a2 cap2 gb2 off2 bs J Jx (fun p U hp => ?_) hY W (by rw [← HN.out]; exact h0)).mono ?_
      · have := (hJI p U hp).1
        exact ⟨by rw [← HN.out]; exact this.bx, HH.out.2.1.keep this.wr.keep (fun _ h => h)⟩
      · rintro e W' ⟨h1, h2⟩
        exact ⟨h1, h2.imp (fun h => ⟨_, rfl, h⟩) (fun h => h)⟩
    case ps2 =>
      obtain ⟨_, _, rfl⟩ := h
      rfl
    case assign2 =>
      rintro p vs p' U K ⟨h1, h2, rfl⟩ hi hK
      unfold backV
      gi_wp2
      exact hK _ _ (KeepsFrom.refl _ _) hi ⟨_, h1, by rw [HN.out]; exact h2, rfl, rfl⟩
    case body2 =>
      rintro p vs p' a' U ⟨hi, hsz2⟩ ⟨x, rfl, hp, hx, rfl⟩
      have hpx : p' < bs.length := by have := HN.out; omega
      have hx256 : x < 256 := by rw [hx]; exact HH.out.2.1.lt p'
      have hxI : (x : Int) < 256 := by omega
      have hmem : x ∈ bs := by rw [hx, List.getElem?_eq_getElem hpx]; exact List.getElem_mem hpx
      obtain ⟨c1, c2⟩ := hi.of.cells x hx256
      have hb1 := obj_lt hi.r5
      by_cases h0 : wt ws x = 0
      · rw [if_pos h0] at c1 c2
        have d1 : U.cell? ⟨b + 1 + 1, x * 2, none⟩ = some (.int .u64 0) := c1
        have d2 : U.cell? ⟨b + 1 + 1, x * 2 + 1, none⟩ = some (.int .i64 0) := c2
        clear c1 c2
        have HBAD := (show Hid (packOk ws bs = false) from decide_eq_false (fun q => q x hmem h0))
        have hkU : Keep noBlock U (U.alloc (.cells #[.int .u64 0, .int .i64 0] 43)) := (Keep.refl _ U).alloc _
        have o4 := hkU.obj hi.r4 (fun h => h)
        have o5 := hkU.obj hi.r5 (fun h => h)
        have om := hkU.obj hi.mark (fun h => h)
        have c4 := cell_of o4 0
        have f4 := frozen_of o4 0
        have c5 := cell_of o5 0
        have f5 := frozen_of o5 0
        simp only [List.getElem?_toArray, List.getElem?_cons_zero] at c4 c5
        have HF := (show Hid (PkX w ws bs b (b + 5) (((U.alloc (.cells #[.int .u64 0, .int .i64 0] 43)).setCell ⟨b, 0, none⟩ (.slice none 0 0)).setCell ⟨b + 1, 0, none⟩ (.int .i64 2)) ∧ KeepsFrom W1.heap.size U (((U.alloc (.cells #[.int .u64 0, .int .i64 0] 43)).setCell ⟨b, 0, none⟩ (.slice none 0 0)).setCell ⟨b + 1, 0, none⟩ (.int .i64 2))) from by
          have hbw := HBW.out
          refine ⟨⟨set_far ((set_obj o4 0 _).trans (by simp)) (by omega) _ _, (set_obj (set_far o5 (by omega) _ _) 0 _).trans (by simp), set_far (set_far om (by omega) _ _) (by omega) _ _, ?_, decide_eq_false (fun q => q x hmem h0)⟩, ?_⟩
          · exact Keep.setCell (p := ⟨b + 1, 0, none⟩) (Keep.setCell (p := ⟨b, 0, none⟩) (hi.wr.keep.trans' hkU) (fun h => by dsimp only at h; omega) _) (fun h => by dsimp only at h; omega) _
          · exact (KeepsFrom.trans (⟨by simp, fun k' o _ ho _ => alloc_far ho _⟩ : KeepsFrom _ U (U.alloc _)) (((KeepsOthers.setCell _ _ _).from _).trans ((KeepsOthers.setCell _ _ _).from _))))
        clear hi o4 o5 om hkU hx hmem h0
        gi_wp2
        exact ⟨HF.out.2, rfl, HF.out.1⟩
      · rw [if_neg h0] at c1 c2
        obtain ⟨hxl, hxm⟩ := HH.out.2.2.wt_in x h0
        have hwl := HH.out.2.2.word_lt x hxl (by omega)
        have hp11 : 2 ^ (m + 1 - wt ws x) ≤ 2 ^ 12 := Nat.pow_le_pow_right (by omega) (by omega)
        have hX64 : wordX ws x < 4096 := Nat.lt_of_lt_of_le hwl hp11
        have hN12 : m + 1 - wt ws x ≤ 12 ∧ 1 ≤ m + 1 - wt ws x := by clear hwl hp11; omega
        have hpd := packL_drop ws m bs p' hpx
        rw [← hx] at hpd
        have hpl := packL_len ws m (bs.drop (p' + 1))
        have hll : (packL ws m (bs.drop (p' + 1))).length < 1000000000000 := by
          have e1 : (bs.drop (p' + 1)).length ≤ 131072 := by rw [List.length_drop]; have := HN.out; omega
          have e2 : (m + 1) * (bs.drop (p' + 1)).length ≤ 12 * 131072 := Nat.mul_le_mul (by omega) e1
          omega
        have hok2 : ∀ y ∈ bs.drop p', wt ws y ≠ 0 := by
          intro y hy
          rw [List.drop_eq_getElem_cons hpx] at hy
          rcases List.mem_cons.1 hy with e | e
          · rw [e]; have : x = bs[p'] := by rw [hx, List.getElem?_eq_getElem hpx]; rfl
            rw [← this]; exact h0
          · exact hi.ok y e
        have HO := (show Hid (packL ws m (bs.drop p') = packL ws m (bs.drop (p' + 1)) ++ low (wordX ws x) (m + 1 - wt ws x) ∧ ∀ y ∈ bs.drop p', wt ws y ≠ 0) from ⟨hpd, hok2⟩)
        have HI := (show Hid (PkJ w ws m bs a2 cap2 n b (b + 5) vb (p' + 1) U) from hi)
        have HL := (show Hid ((packL ws m (bs.drop (p' + 1))).length < 1000000000000) from hll)
        clear hpd hok2 hwl hp11 hpl hll hx hmem h0
        generalize wordX ws x = X at *
        generalize m + 1 - wt ws x = N at *
        have hkU : Keep noBlock U (U.alloc (.cells #[.int .u64 (X : Int), .int .i64 (N : Int)] 43)) := (Keep.refl _ U).alloc _
        have ob := hkU.obj hi.box (fun h => h)
        have c6 := cell_of ob 0
        simp only [List.getElem?_toArray, List.getElem?_cons_zero] at c6
        have hNb : ((N : Int) == 0) = false := by rw [beq_eq_false_iff_ne]; omega
        have HP := (show Hid (Calls Try.prog 24 _ (U.alloc (.cells #[.int .u64 (X : Int), .int .i64 (N : Int)] 43)) _) from (hi.wr.keeps hkU).putO X N (by omega) (by omega) HL.out)
        have hXI : (X : Int) < 4096 := by omega
        have hNI : (N : Int) ≤ 12 := by omega
        have HKU := (show Hid _ from hkU)
        clear hi ob hkU
        gi_wp2_with (refine ⟨trivial, ?_⟩; gi_at_call 24; refine (CallsIn.inRound _ (callsIn_wide.2 HP.out)).mono ?_; rintro e U2 ⟨rfl, hM2, hO2⟩)
        have hi := HI.out
        have hk := HKU.out
        obtain ⟨cs0, hw0⟩ := hi.wr.obj
        have hv := HV.out
        have hb0 := obj_lt hi.r4
        obtain ⟨ofc, of1, of2⟩ := hi.of.obj
        refine ⟨(KeepsFrom.trans (⟨by simp, fun k' o _ ho _ => alloc_far ho _⟩ : KeepsFrom _ U (U.alloc _)) (hO2.from (hk.obj hw0 (fun h => h)) _)), ⟨hO2.cells (hk.obj hi.r4 (fun h => h)) (by omega) (by decide), hO2.cells (hk.obj hi.r5 (fun h => h)) (by omega) (by decide), ⟨ofc, hO2.cells (hk.obj of1 (fun h => h)) (by omega) (by decide), of2⟩, hO2.mark (hk.obj hi.mark (fun h => h)) (by omega) rfl, hO2.cells (hk.obj hi.box (fun h => h)) (by omega) (by decide), hO2.cells (hk.obj hi.bx (fun h => h)) (by omega) (by decide), by rw [HO.out.1]; exact hM2, HO.out.2⟩, ?_⟩
        have := hO2.size
        rw [World.size_alloc] at this
        omega
    case done2 =>
      rintro p U rfl ⟨hi, hsz2⟩ hD
      have hok : packOk ws bs = true := decide_eq_true (fun x hx => hi.ok x (by rw [List.drop_zero]; exact hx))
      have hwr := hi.wr
      rw [List.drop_zero] at hwr
      have hpl := packL_len ws m bs
      have hll : (packL ws m bs).length < 1000000000000 := by
        have e2 : (m + 1) * bs.length ≤ 12 * 131072 := Nat.mul_le_mul (by omega) (by have := HN.out; omega)
        omega
      have HP := (show Hid (Calls Try.prog 25 _ U _) from hwr.closeO hll)
      have c6 := cell_of hi.box 0
      simp only [List.getElem?_toArray, List.getElem?_cons_zero] at c6
      have HI := (show Hid (PkJ w ws m bs a2 cap2 n b (b + 5) vb 0 U ∧ U.heap[W1.heap.size]? = some (.deferred (some [])) ∧ packOk ws bs = true) from ⟨hi, hD, hok⟩)
      clear hwr hpl hll hD hok hi
      gi_wp2_with (refine ⟨trivial, ?_⟩; gi_at_call 25; refine (callsIn_wide.2 HP.out).mono ?_; rintro e U2 ⟨v, rfl, hown, hK2, hO2, hnew⟩; have o4 := hO2.cells HI.out.1.r4 (by have := HV.out; omega) (by decide); have o5 := hO2.cells HI.out.1.r5 (by have := HV.out; omega) (by decide); have c4 := cell_of o4 0; have f4 := frozen_of o4 0; have c5 := cell_of o5 0; have f5 := frozen_of o5 0; simp only [List.getElem?_toArray, List.getElem?_cons_zero] at c4 c5; obtain ⟨sa, scap, hvf⟩ := owns_form hown; subst hvf)
      obtain ⟨hi, hD, hok⟩ := HI.out
      have hv := HV.out
      have hbw := HBW.out
      have hm1 := hO2.mark hi.mark (by omega) rfl
      have hm2 := hO2.mark hD (by omega) rfl
      rw [hsz3] at hm2
      have e4 := set_far ((set_obj o4 0 (.slice sa (pack (packL ws m bs ++ [1])).length scap)).trans (by simp) : _ = some (.cells #[.slice sa (pack (packL ws m bs ++ [1])).length scap] 22 (0, 0))) (show b ≠ b + 1 by omega) 0 (.int .i64 0)
      have e5 := (set_obj (set_far o5 (show b + 1 ≠ b by omega) 0 (.slice sa (pack (packL ws m bs ++ [1])).length scap)) 0 (.int .i64 0)).trans (by simp : _ = some (.cells #[.int .i64 0] 23 (0, 0)))
      have em1 := set_far (set_far hm1 (show b + 5 ≠ b by omega) 0 (.slice sa (pack (packL ws m bs ++ [1])).length scap)) (show b + 5 ≠ b + 1 by omega) 0 (.int .i64 0)
      have em2 := set_far (set_far hm2 (show vb + 3 ≠ b by omega) 0 (.slice sa (pack (packL ws m bs ++ [1])).length scap)) (show vb + 3 ≠ b + 1 by omega) 0 (.int .i64 0)
      have hks : Keep (fun j => j = b ∨ j = b + 1) U2 ((U2.setCell ⟨b, 0, none⟩ (.slice sa (pack (packL ws m bs ++ [1])).length scap)).setCell ⟨b + 1, 0, none⟩ (.int .i64 0)) :=
        ((Keep.refl (fun j => j = b ∨ j = b + 1) U2).setCell (p := ⟨b, 0, none⟩) (fun _ => .inl rfl) _).setCell (p := ⟨b + 1, 0, none⟩) (fun _ => .inr rfl) _
      have hne : ∀ g, (Value.slice sa (pack (packL ws m bs ++ [1])).length scap).ownBlock = some g → g ≠ b ∧ g ≠ b + 1 := fun g hg => ⟨fun e => owns_ne hown o4 (by decide) (by rw [← e]; exact hg), fun e => owns_ne hown o5 (by decide) (by rw [← e]; exact hg)⟩
      have hown2 := owns_kept hown hks (fun g hg => by have := hne g hg; omega)
      clear hO2 c4 c5 f4 f5 HP
      generalize (U2.setCell ⟨b, 0, none⟩ (.slice sa (pack (packL ws m bs ++ [1])).length scap)).setCell ⟨b + 1, 0, none⟩ (.int .i64 0) = U3 at *
      refine ⟨by simp, .inl ⟨_, _, rfl, run_takeDeferred em2, ?_⟩⟩
      refine ⟨by simp, .inl ⟨_, _, rfl, run_takeDeferred ((World.putObj_heap_other (by omega)).trans em1), ?_⟩⟩
      have hkp : Keep (fun j => j = vb + 3 ∨ j = b + 5) U3 ((U3.putObj (vb + 3) (.deferred none)).putObj (b + 5) (.deferred none)) := ((Keep.refl (fun j => j = vb + 3 ∨ j = b + 5) U3).putObj _ _ (fun _ => .inl rfl)).putObj _ _ (fun _ => .inr rfl)
      refine ⟨_, results_cell2 rfl _ _ _ ⟨b, 0, none⟩ ⟨b + 1, 0, none⟩ (.slice sa (pack (packL ws m bs ++ [1])).length scap) (.int .i64 0) rfl rfl (loadVar22 (cell_of (hkp.obj e4 (by omega)) 0)) (loadVar23 (cell_of (hkp.obj e5 (by omega)) 0)), ?_, .inl ⟨hok, _, rfl, owns_kept hown2 hkp (fun g hg => ?_)⟩⟩
      · exact (hK2.trans hks (fun i hi e => by omega)).trans hkp (fun i hi e => by omega)
      · rintro (e | e)
        · subst e
          rcases hown2.2 with ⟨h, _⟩ | ⟨g2, _, _, h, _, hg2, _⟩
          · rw [h] at hg; cases hg
          · rw [h] at hg
            obtain rfl : g2 = vb + 3 := by simpa [Value.ownBlock] using hg
            rw [em2] at hg2; cases hg2
        · subst e
          rcases hown2.2 with ⟨h, _⟩ | ⟨g2, _, _, h, _, hg2, _⟩
          · rw [h] at hg; cases hg
          · rw [h] at hg
            obtain rfl : g2 = b + 5 := by simpa [Value.ownBlock] using hg
            rw [em1] at hg2; cases hg2
    case stop2 =>
      rintro j U ⟨rfl, hx⟩ hD
      rw [hsz3] at hD ⊢
      gi_wp2
      have hv := HV.out
      refine ⟨by simp, .inl ⟨_, _, rfl, run_takeDeferred hD, ?_⟩⟩
      refine ⟨by simp, .inl ⟨_, _, rfl, run_takeDeferred ((World.putObj_heap_other (by omega)).trans hx.mark), ?_⟩⟩
      have hkp : Keep (fun j => j = vb + 3 ∨ j = b + 5) U ((U.putObj (vb + 3) (.deferred none)).putObj (b + 5) (.deferred none)) := ((Keep.refl (fun j => j = vb + 3 ∨ j = b + 5) U).putObj _ _ (fun _ => .inl rfl)).putObj _ _ (fun _ => .inr rfl)
      refine ⟨_, results_cell2 rfl _ _ _ ⟨b, 0, none⟩ ⟨b + 1, 0, none⟩ (.slice none 0 0) (.int .i64 2) rfl rfl (loadVar22 (cell_of (hkp.obj hx.r4 (by omega)) 0)) (loadVar23 (cell_of (hkp.obj hx.r5 (by omega)) 0)), hx.keep.trans hkp (fun i hi e => by omega), .inr ⟨hx.bad, rfl⟩⟩

end Go.Proofs.Ytkljidigmolmmaa

namespace Go.Proofs.Ytkljidigmolmmaa
open Go.RowKit Go.Shelf
set_option linter.unusedVariables false

theorem made_is {ws : List Nat} {m : Nat} (hc : IsCode ws m) {a : Option Addr} {cap gb off : Nat} {W : World} (hB : Bytes W a cap gb off ws) : Calls Try.prog 21 #[.slice a ws.length cap] W fun e w' => e = .returned (.tuple #[.int .i64 (m : Int), .bool true]) ∧ w' = W := by
  refine (makeCode_any a cap gb off ws W hB).mono ?_
  rintro e w' ⟨l, rfl, h, rfl⟩
  rw [hc.codeB.1] at h ⊢
  rw [h rfl, hc.codeM]
  exact ⟨rfl, rfl⟩
theorem made_not {ws : List Nat} (hc : codeB ws = false) {a : Option Addr} {cap gb off : Nat} {W : World} (hB : Bytes W a cap gb off ws) : Calls Try.prog 21 #[.slice a ws.length cap] W fun e w' => ∃ l, e = .returned (.tuple #[.int .i64 l, .bool false]) ∧ w' = W := by
  refine (makeCode_any a cap gb off ws W hB).mono ?_
  rintro e w' ⟨l, rfl, h, rfl⟩
  rw [hc]
  exact ⟨l, rfl, rfl⟩

/-- New over whatever bytes. -/
theorem newB_bad (a : Option Addr) (cap gb off : Nat) (bs : List Nat) (w : World) (hB : Bytes w a cap gb off bs) (hl : bs.length ≤ 140737488351232) (h0 : bs[bs.length - 1]?.getD 0 = 0) :
    Calls Try.prog 29 #[.slice a bs.length cap] w fun e w' => e = .returned (.tuple #[.pointer none, .int .i64 11]) ∧ w' = w := by
  cases hn : bs.length with
  | zero => exact Tl.new_none a cap w
  | succ k =>
    obtain rfl := hB.here (i := k) (by omega)
    refine Tl.new_zero gb off cap k w (by omega) ?_
    rw [hB.cells k (by omega)]
    rw [hn, Nat.add_sub_cancel] at h0
    rw [h0]; rfl
theorem newB_good (a : Option Addr) (cap gb off : Nat) (bs : List Nat) (w : World) (hB : Bytes w a cap gb off bs) (hl : bs.length ≤ 140737488351232) (h0 : bs[bs.length - 1]?.getD 0 ≠ 0) :
    Calls Try.prog 29 #[.slice a bs.length cap] w fun e w' => ∃ rb g, e = .returned (.tuple #[.pointer (some ⟨rb, 0, none⟩), .int .i64 0]) ∧ w.heap.size ≤ rb ∧ w.heap.size ≤ g ∧ At w' rb g bs 0 ∧ Keep noBlock w w' := by
  cases hn : bs.length with
  | zero => rw [List.length_eq_zero_iff.1 hn] at h0; simp at h0
  | succ k =>
    obtain rfl := hB.here (i := k) (by omega)
    rw [hn, Nat.add_sub_cancel] at h0
    refine (Tl.new_mark gb off cap k _ bs hn (by omega) hB.lt w rfl h0 hB.cells).mono ?_
    rintro e w' ⟨rb, g, rfl, h1, h2, h3, h4⟩
    exact ⟨rb, g, rfl, h1, h2, ⟨by simpa using h3, by decide⟩, h4⟩

/-- Do n words come to just the tail's beginning? -/
def unpOk (ws : List Nat) (m : Nat) (bs : List Nat) (n : Nat) : Bool := decide (bs[bs.length - 1]?.getD 0 ≠ 0 ∧ posU ws m bs n = Tl.tailLen bs)
/-- What Unpack answers where the weights make a code. -/
def UnpPost (ws : List Nat) (m : Nat) (bs : List Nat) (n : Nat) (w : World) (e : Ending) (w' : World) : Prop :=
  Keep noBlock w w' ∧ ((unpOk ws m bs n = true ∧ ∃ v, e = .returned (.tuple #[v, .int .i64 0]) ∧ w'.ownsRow 0 5 1 v n (u8s ((List.range n).map (symU ws m bs)))) ∨ (unpOk ws m bs n = false ∧ e = .returned (.tuple #[.slice none 0 0, .int .i64 11])))

set_option maxRecDepth 100000 in
set_option maxHeartbeats 4000000 in
theorem unpack_any (a : Option Addr) (cap gb off : Nat) (ws : List Nat) (m : Nat) (a2 : Option Addr) (cap2 gb2 off2 : Nat) (bs : List Nat) (n : Nat) (w : World) (hB : Bytes w a cap gb off ws) (hB2 : Bytes w a2 cap2 gb2 off2 bs) (hc : IsCode ws m) (hl : bs.length ≤ 140737488351232) (hn : n ≤ 131072) :
    Calls Try.prog 12 #[.slice a ws.length cap, .slice a2 bs.length cap2, .int .i64 (n : Int)] w fun e w' => UnpPost ws m bs n w e w' := by
  have HM := (show Hid (Calls Try.prog 21 _ w _) from made_is hc hB)
  have hm11 := hc.m11
  have hn1 : ¬ (n : Int) < 0 := by omega
  have hn2 : ¬ (131072 : Int) < (n : Int) := by omega
  by_cases h0 : bs[bs.length - 1]?.getD 0 = 0
  · have HN := (show Hid (Calls Try.prog 29 _ w _) from newB_bad a2 cap2 gb2 off2 bs w hB2 hl h0)
    have HB := (show Hid (unpOk ws m bs n = false) from decide_eq_false (fun h => h.1 h0))
    generalize bs.length = n2 at *
    generalize ws.length = n1 at *
    clear hB hB2 hc hl
    go_enter Try.func12, Try.ntmps12
    go_wp2_with (first | (go_at_call 21; refine HM.out.mono ?_; rintro e w' ⟨rfl, rfl⟩) | (go_at_call 29; refine HN.out.mono ?_; rintro e w' ⟨rfl, rfl⟩))
    go_ret2
    exact ⟨Keep.refl _ _, .inr ⟨HB.out, rfl⟩⟩
  · have HN := (show Hid (Calls Try.prog 29 _ w _) from newB_good a2 cap2 gb2 off2 bs w hB2 hl h0)
    have HH := (show Hid (Bytes w a cap gb off ws ∧ IsCode ws m ∧ bs[bs.length - 1]?.getD 0 ≠ 0 ∧ n ≤ 131072) from ⟨hB, hc, h0, hn⟩)
    have hgw : ws ≠ [] → gb < w.heap.size := fun h => hB.block h
    have hwne : ws ≠ [] := by have := hc.len2; intro e; rw [e] at this; simp at this
    have HG := (show Hid (gb < w.heap.size) from hgw hwne)
    have hTl := Tl.tailLen_le bs hB2.lt
    have hpl := posU_le ws m bs n
    have hpl2 : n * (m + 1) ≤ 131072 * 12 := Nat.mul_le_mul hn (by omega)
    have HT := (show Hid (Tl.tailLen bs < 1125899906842624 ∧ posU ws m bs n ≤ 1572864) from ⟨by omega, Nat.le_trans hpl (Nat.le_trans hpl2 (by decide))⟩)
    obtain ⟨n1, hn1'⟩ : ∃ n1, n1 = ws.length := ⟨_, rfl⟩
    obtain ⟨n2, hn2'⟩ : ∃ n2, n2 = bs.length := ⟨_, rfl⟩
    have HL := (show Hid (n1 = ws.length) from hn1')
    rw [← hn1'] at HM ⊢
    rw [← hn2'] at HN ⊢
    clear hB hB2 hc hl h0 hgw hwne hTl hpl hpl2 hn1' hn2' hn
    go_enter Try.func12, Try.ntmps12
    go_wp2_with (first | (go_at_call 21; refine HM.out.mono ?_; rintro e w' ⟨rfl, rfl⟩))
    refine HN.out.mono ?_
    rintro e w1 ⟨rb, g, rfl, h1, h2, hA, hK1⟩
    have HR := (show Hid (Calls Try.prog 30 _ w1 _) from readWords_any rb g bs a cap gb off ws m n w1 hA (HH.out.1.keep hK1 (fun _ h => h)) HH.out.2.1 HH.out.2.2.2 (by have := HG.out; omega))
    rw [← HL.out] at HR
    clear hA
    go_wp2_with fail
    refine HR.out.mono ?_
    rintro e w2 ⟨v, rfl, hown, hA2, hK2, hnew⟩
    obtain ⟨sa, scap, rfl⟩ := owns_form hown
    have HLf := (show Hid (Calls Try.prog 31 _ w2 _) from hA2.left)
    have HE := (show Hid (w2.ownsRow 0 5 1 (.slice sa n scap) n (u8s ((List.range n).map (symU ws m bs))) ∧ Keep noBlock w' w2) from ⟨hown, hK1.trans hK2 (fun i hi e => by omega)⟩)
    clear HR hown hA2 hK1 hK2 hnew
    go_wp2_with fail
    refine HLf.out.mono ?_
    rintro e w3 ⟨rfl, q, rfl⟩
    have hT := HT.out
    have HD := (show Hid (unpOk ws m bs n = decide (posU ws m bs n = Tl.tailLen bs)) from by
      unfold unpOk
      rw [Bool.eq_iff_iff, decide_eq_true_iff, decide_eq_true_iff]
      exact ⟨fun h => h.2, fun h => ⟨HH.out.2.2.1, h⟩⟩)
    clear HLf
    generalize posU ws m bs n = p at *
    generalize Tl.tailLen bs = T at *
    obtain ⟨z, hz⟩ : ∃ z : Int, z = (T : Int) - ((p + m : Nat) : Int) + (m : Int) := ⟨_, rfl⟩
    have hz2 : (T : Int) - ((p : Int) + (m : Int)) + (m : Int) = z := by omega
    have hzl : -4503599627370496 < z ∧ z < 4503599627370496 := by omega
    have HZ := (show Hid _ from hz)
    clear hz
    rw [show (((p + m : Nat) : Int)) = (p : Int) + (m : Int) from by omega]
    by_cases hp : p = T
    · have hz0 : (z != 0) = false := by have := HZ.out; simp; omega
      have HP := (show Hid (p = T) from hp)
      clear hp
      go_wp2_with fail
      go_ret2
      exact ⟨HE.out.2.trans' (keep_drewN w2 q), .inl ⟨by rw [HD.out]; exact decide_eq_true HP.out, _, rfl, HE.out.1⟩⟩
    · have hz0 : (z != 0) = true := by have := HZ.out; simp; omega
      go_wp2_with fail
      go_ret2
      exact ⟨HE.out.2.trans' (keep_drewN w2 q), .inr ⟨by rw [HD.out]; exact decide_eq_false hp, rfl⟩⟩

end Go.Proofs.Ytkljidigmolmmaa

namespace Go.Proofs.Ytkljidigmolmmaa
open Go.RowKit Go.Shelf
set_option linter.unusedVariables false

theorem strm_bit (bs : List Nat) (q n i : Nat) (hi : i < n) : bitOf (strm bs q n) (n - 1 - i) = bitS bs (q + i) := by
  induction n with
  | zero => omega
  | succ n ih =>
    have hb := bitS_lt bs (q + n)
    by_cases e : i = n
    · subst e
      rw [show i + 1 - 1 - i = 0 from by omega, strm]
      unfold bitOf
      omega
    · have h := ih (by omega)
      rw [show n + 1 - 1 - i = (n - 1 - i) + 1 from by omega, strm]
      unfold bitOf at h ⊢
      rw [Nat.pow_succ, Nat.mul_comm (2 ^ (n - 1 - i)) 2, ← Nat.div_div_eq_div_mul, show (2 * strm bs q n + bitS bs (q + n)) / 2 = strm bs q n from by omega]
      exact h
/-- What was put last is read first. -/
theorem strm_put (A M : List (Fin 2)) (x n : Nat) (hx : x < 2 ^ n) : strm (pack (A ++ low x n ++ M ++ [1])) M.length n = x := by
  have hT : Tl.tailLen (pack (A ++ low x n ++ M ++ [1])) = A.length + n + M.length := by
    rw [Tl.tailLen_mark, List.length_append, List.length_append, low_length]
  rw [strm_qv _ M.length A.length n n (by rw [hT]; omega) (.inl rfl) n (Nat.le_refl _), Tl.qv_low _ _ _ _ (Nat.le_refl _), Nat.add_sub_cancel, Tl.num_back A (M ++ [1]) x n _ (by simp), Nat.mod_eq_of_lt hx]

/-- The bits of the first k bytes. -/
theorem pack_read {ws : List Nat} {m : Nat} (hc : IsCode ws m) (bs : List Nat) (hok : packOk ws bs = true) (k : Nat) (hk : k ≤ bs.length) :
    (∃ M, packL ws m bs = packL ws m (bs.drop k) ++ M ∧ M.length = posU ws m (pack (packL ws m bs ++ [1])) k) ∧ ∀ j, j < k → symU ws m (pack (packL ws m bs ++ [1])) j = bs[j]?.getD 0 := by
  induction k with
  | zero => exact ⟨⟨[], by simp, rfl⟩, fun j hj => by omega⟩
  | succ k ih =>
    obtain ⟨⟨M, h1, h2⟩, h3⟩ := ih (by omega)
    have hb : wt ws (bs[k]?.getD 0) ≠ 0 := by
      have := of_decide_eq_true hok
      refine this _ ?_
      rw [List.getElem?_eq_getElem (by omega)]
      exact List.getElem_mem _
    obtain ⟨hbl, hbm⟩ := hc.wt_in _ hb
    have hd := packL_drop ws m bs k (by omega)
    have hwl := hc.word_lt _ hbl (by omega)
    rw [hd] at h1
    generalize hx : bs[k]?.getD 0 = b at *
    have hst := strm_put (packL ws m (bs.drop (k + 1))) M (wordX ws b) (m + 1 - wt ws b) hwl
    rw [← h1, h2] at hst
    have hsy : symU ws m (pack (packL ws m bs ++ [1])) k = b := by
      have hh := strm_head (pack (packL ws m bs ++ [1])) (posU ws m (pack (packL ws m bs ++ [1])) k) (m + 1 - wt ws b) m (by omega)
      rw [hst, show m - (m + 1 - wt ws b) = wt ws b - 1 from by omega] at hh
      exact (hc.begins b _ hbl (by omega) (strm_lt _ _ _)).1 hh
    refine ⟨⟨low (wordX ws b) (m + 1 - wt ws b) ++ M, by rw [h1, List.append_assoc], ?_⟩, fun j hj => ?_⟩
    · rw [List.length_append, low_length, h2, posU_succ, hsy]; omega
    · by_cases e : j = k
      · rw [e, hsy, hx]
      · exact h3 j (by omega)
theorem pack_pos {ws : List Nat} {m : Nat} (hc : IsCode ws m) (bs : List Nat) (hok : packOk ws bs = true) : posU ws m (pack (packL ws m bs ++ [1])) bs.length = (packL ws m bs).length := by
  obtain ⟨⟨M, h1, h2⟩, -⟩ := pack_read hc bs hok bs.length (Nat.le_refl _)
  rw [List.drop_length] at h1
  rw [← h2, h1]; simp [packL]
theorem pack_text {ws : List Nat} {m : Nat} (hc : IsCode ws m) (bs : List Nat) (hok : packOk ws bs = true) : (List.range bs.length).map (symU ws m (pack (packL ws m bs ++ [1]))) = bs := by
  obtain ⟨-, h3⟩ := pack_read hc bs hok bs.length (Nat.le_refl _)
  refine List.ext_getElem? fun j => ?_
  by_cases hj : j < bs.length
  · rw [List.getElem?_map, List.getElem?_range hj, List.getElem?_eq_getElem hj]
    have := h3 j hj
    rw [List.getElem?_eq_getElem hj] at this
    exact congrArg some this
  · rw [List.getElem?_eq_none (by simp; omega), List.getElem?_eq_none (by omega)]
/-- Unpack of Pack. -/
theorem unp_pack {ws : List Nat} {m : Nat} (hc : IsCode ws m) (bs : List Nat) (hok : packOk ws bs = true) : unpOk ws m (pack (packL ws m bs ++ [1])) bs.length = true :=
  decide_eq_true ⟨Tl.mark_ne _, by rw [pack_pos hc bs hok, Tl.tailLen_mark]⟩

/-- The words of what is read are the bits that are read. -/
theorem unp_bits {ws : List Nat} {m : Nat} (hc : IsCode ws m) (bs : List Nat) (n d : Nat) (hd : d ≤ n) (hT : posU ws m bs n = Tl.tailLen bs) :
    posU ws m bs (n - d) + (packL ws m (((List.range n).map (symU ws m bs)).drop (n - d))).length = Tl.tailLen bs ∧ ∀ i, i < (packL ws m (((List.range n).map (symU ws m bs)).drop (n - d))).length → bitL (packL ws m (((List.range n).map (symU ws m bs)).drop (n - d))) ((packL ws m (((List.range n).map (symU ws m bs)).drop (n - d))).length - 1 - i) = bitS bs (posU ws m bs (n - d) + i) := by
  have hl : ((List.range n).map (symU ws m bs)).length = n := by simp
  induction d with
  | zero =>
    rw [Nat.sub_zero, show ((List.range n).map (symU ws m bs)).drop n = [] from List.drop_eq_nil_of_le (by omega)]
    exact ⟨by rw [hT]; rfl, fun i hi => by simp [packL] at hi⟩
  | succ d ih =>
    obtain ⟨h1, h2⟩ := ih (by omega)
    obtain ⟨k, hk⟩ : ∃ k, k = n - (d + 1) := ⟨_, rfl⟩
    rw [← hk]
    rw [show n - d = k + 1 from by omega] at h1 h2
    have hat : ((List.range n).map (symU ws m bs))[k]?.getD 0 = symU ws m bs k := by
      rw [List.getElem?_map, List.getElem?_range (by omega)]; rfl
    have hd2 := packL_drop ws m ((List.range n).map (symU ws m bs)) k (by omega)
    rw [hat] at hd2
    obtain ⟨hs1, hs2, -, -⟩ := hc.sym (strm bs (posU ws m bs k) m) (strm_lt _ _ _)
    have hwm := hc.wt_le _ hs1
    have hbg := (hc.begins (symU ws m bs k) (strm bs (posU ws m bs k) m) hs1 hs2 (strm_lt _ _ _)).2 rfl
    have hX : wordX ws (symU ws m bs k) = strm bs (posU ws m bs k) (m + 1 - wt ws (symU ws m bs k)) := by
      rw [← hbg, ← strm_head bs (posU ws m bs k) (m + 1 - wt ws (symU ws m bs k)) m (by unfold symU; omega)]
      congr 2
      unfold symU
      omega
    have hps := posU_succ ws m bs k
    rw [hd2, hX]
    generalize packL ws m (((List.range n).map (symU ws m bs)).drop (k + 1)) = A at *
    generalize m + 1 - wt ws (symU ws m bs k) = N at *
    rw [List.length_append, low_length]
    refine ⟨by omega, fun i hi => ?_⟩
    by_cases hiN : i < N
    · rw [show A.length + N - 1 - i = A.length + (N - 1 - i) from by omega, bitL_behind, bitL_low _ _ _ (by omega), strm_bit _ _ _ _ hiN]
    · rw [show A.length + N - 1 - i = A.length - 1 - (i - N) from by omega, bitL_app _ _ _ (by omega), h2 (i - N) (by omega), hps]
      congr 1
      omega
theorem byte_bits (x : Nat) (h : x < 256) : numF (bitOf x) 8 = x := by
  have := numF_bitOf x 8
  rw [show numF (bitOf x) 8 = numF (fun k => bitOf x k) 8 from rfl, this]
  exact Nat.mod_eq_of_lt (by omega)
/-- Bytes that have the bits of a tail are its bytes. -/
theorem pack_eq (L : List (Fin 2)) (bs : List Nat) (hlt : ∀ j : Nat, bs[j]?.getD 0 < 256) (h0 : bs[bs.length - 1]?.getD 0 ≠ 0) (hL : L.length = Tl.tailLen bs) (hb : ∀ i, i < L.length → bitL L (L.length - 1 - i) = bitS bs i) : pack (L ++ [1]) = bs := by
  have hn : 0 < bs.length := by
    cases bs with
    | nil => simp at h0
    | cons x l => simp
  have hlb := Tl.lenB_le _ (hlt (bs.length - 1))
  have hlp := Tl.lenB_pos _ h0
  have hTl : Tl.tailLen bs = 8 * (bs.length - 1) + (Tl.lenB (bs[bs.length - 1]?.getD 0) - 1) := rfl
  have hlen : (pack (L ++ [1])).length = bs.length := by rw [pack_length, List.length_append]; simp; omega
  have hbit : ∀ i, i < 8 * bs.length → bitL (L ++ [1]) i = bitAt bs i := fun i hi => by
    by_cases h1 : i < L.length
    · rw [bitL_app _ _ _ h1]
      have := hb (L.length - 1 - i) (by omega)
      rw [show L.length - 1 - (L.length - 1 - i) = i from by omega] at this
      rw [this]
      unfold bitS
      rw [if_pos (by omega), ← hL, show L.length - 1 - (L.length - 1 - i) = i from by omega]
    · by_cases h2 : i = L.length
      · rw [h2, bitL_new, hL, Tl.mark_one bs hlt h0]; rfl
      · rw [bitL_far _ _ (by simp; omega), Tl.mark_above bs h0 i (by omega) hi]
  refine List.ext_getElem? fun j => ?_
  by_cases hj : j < bs.length
  · have e1 := pack_at (L ++ [1]) j (by rw [← pack_length, hlen]; exact hj)
    rw [List.getElem?_eq_getElem (by omega)] at e1 ⊢
    rw [List.getElem?_eq_getElem hj]
    have hx := hlt j
    rw [List.getElem?_eq_getElem hj] at hx
    congr 1
    show (some (pack (L ++ [1]))[j]).getD 0 = _
    rw [e1]
    unfold byteOf
    rw [← byte_bits bs[j] hx]
    refine numF_congr _ _ _ (fun i hi => ?_)
    rw [hbit (8 * j + i) (by omega)]
    unfold bitAt
    rw [show (8 * j + i) / 8 = j from by omega, show (8 * j + i) % 8 = i from by omega, List.getElem?_eq_getElem hj]
    rfl
  · rw [List.getElem?_eq_none (by omega), List.getElem?_eq_none (by omega)]
/-- Pack of Unpack. -/
theorem pack_unp {ws : List Nat} {m : Nat} (hc : IsCode ws m) (bs : List Nat) (n : Nat) (hlt : ∀ j : Nat, bs[j]?.getD 0 < 256) (hok : unpOk ws m bs n = true) : packOk ws ((List.range n).map (symU ws m bs)) = true ∧ pack (packL ws m ((List.range n).map (symU ws m bs)) ++ [1]) = bs := by
  obtain ⟨h0, hT⟩ := of_decide_eq_true hok
  refine ⟨decide_eq_true (fun b hb => ?_), ?_⟩
  · obtain ⟨k, _, rfl⟩ := List.mem_map.1 hb
    have := (hc.sym (strm bs (posU ws m bs k) m) (strm_lt _ _ _)).2.1
    show wt ws (symX ws m (strm bs (posU ws m bs k) m)) ≠ 0
    omega
  · obtain ⟨h1, h2⟩ := unp_bits hc bs n n (Nat.le_refl _) hT
    rw [Nat.sub_self, List.drop_zero] at h1 h2
    refine pack_eq _ bs hlt h0 (by rw [← h1]; simp [posU]) (fun i hi => ?_)
    rw [h2 i hi]
    congr 1
    simp [posU]

end Go.Proofs.Ytkljidigmolmmaa
