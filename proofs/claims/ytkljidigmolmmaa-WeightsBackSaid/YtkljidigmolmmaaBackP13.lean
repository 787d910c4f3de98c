/-
  Read, by what the description tells.
  Counts that were read make a table; rows of int16 of one's own.
  The document's Read of a table's description, of any bytes.
  Read of a table's description, of any bytes.
-/
import Derived.Test.YtkljidigmolmmaaBackP12
namespace Go.Proofs.Ytkljidigmolmmaa
open Go.RowKit Go.Shelf
set_option linter.unusedVariables false

/-- What tell answers: the weights told, or none. -/
def TellPost (T : Option (List Nat)) (w : World) (e : Ending) (w' : World) : Prop :=
  Keep noBlock w w' ∧ match T with
    | none => e = .returned (.tuple #[.slice none 0 0, .bool false])
    | some M => ∃ v, e = .returned (.tuple #[v, .bool true]) ∧ w'.ownsRow 0 5 1 v M.length (u8s M) ∧ ∀ k, v.ownBlock = some k → w.heap.size ≤ k
/-- All weights, if they make a code. -/
def readOf : Option (List Nat) → Option (List Nat)
  | none => none
  | some M => if codeB (M ++ [lastW M]) then some (M ++ [lastW M]) else none
theorem readOf_yes {M : List Nat} (h : codeB (M ++ [lastW M]) = true) : readOf (some M) = some (M ++ [lastW M]) := if_pos h
theorem readOf_no {M : List Nat} (h : codeB (M ++ [lastW M]) = false) : readOf (some M) = none := if_neg (by rw [h]; decide)
/-- What Read answers: all weights and the bytes used, or that there are none. -/
def ReadPost (R : Option (List Nat)) (u : Nat) (w : World) (e : Ending) (w' : World) : Prop :=
  Keep noBlock w w' ∧ match R with
    | none => e = .returned (.tuple #[.slice none 0 0, .int .i64 0, .int .i64 11])
    | some ws => ∃ v, e = .returned (.tuple #[v, .int .i64 (u : Int), .int .i64 0]) ∧ w'.ownsRow 0 5 1 v ws.length (u8s ws)

set_option maxRecDepth 100000 in
set_option maxHeartbeats 2000000 in
theorem read_short (a : Option Addr) (cap gb off : Nat) (bs : List Nat) (w : World) (hB : Bytes w a cap gb off bs) (hs : bs.length < usedN (bs[0]?.getD 0)) :
    Calls Try.prog 7 #[.slice a bs.length cap] w fun e w' => e = .returned (.tuple #[.slice none 0 0, .int .i64 0, .int .i64 10]) ∧ w' = w := by
  by_cases h0 : bs.length = 0
  · rw [h0]
    go_enter Try.func7, Try.ntmps7
    go_wp2
    exact bodyPost_ret (by simp [results, Try.results7]) rfl ⟨rfl, rfl⟩
  · obtain rfl := hB.here (i := 0) (by omega)
    have c0 := hB.cells 0 (by omega)
    have hx := hB.lt 0
    have HD := (show Hid (∀ w : World, _) from fun w => describedIn_any (bs[0]?.getD 0) hx w)
    rw [Nat.add_zero] at c0
    have h48 := hB.len
    obtain ⟨n, hn⟩ : ∃ n, n = bs.length := ⟨_, rfl⟩
    rw [← hn] at hs h0 h48 ⊢
    generalize bs[0]?.getD 0 = h at *
    generalize usedN h = u at *
    have hsI : (n : Int) < (u : Int) := by omega
    have hn0 : ((n : Int) == 0) = false := by rw [beq_eq_false_iff_ne]; omega
    have hn1 : (0 : Int) < (n : Int) := by omega
    clear hB hn h48
    go_enter Try.func7, Try.ntmps7
    go_wp2_with (go_at_call 16; refine (HD.out _).mono ?_; rintro e w' ⟨rfl, rfl⟩)
    exact bodyPost_ret (by simp [results, Try.results7]) rfl ⟨rfl, rfl⟩

section
attribute [local go_sem] sliceSem_eq
set_option maxRecDepth 100000 in
set_option maxHeartbeats 2000000 in
theorem read_told (a : Option Addr) (cap gb off : Nat) (bs : List Nat) (u : Nat) (T : Option (List Nat)) (w : World) (hB : Bytes w a cap gb off bs) (hne : bs ≠ []) (hu : u = usedN (bs[0]?.getD 0)) (hs : u ≤ bs.length)
    (hT : Calls Try.prog 17 #[.slice a (bs.take u).length cap] w fun e w' => TellPost T w e w') (hM : ∀ M, T = some M → M.length ≤ 255 ∧ ∀ j : Nat, M[j]?.getD 0 < 256) :
    Calls Try.prog 7 #[.slice a bs.length cap] w fun e w' => ReadPost (readOf T) u w e w' := by
  have hpos : 0 < bs.length := List.length_pos_iff.2 hne
  obtain rfl := hB.here (i := 0) hpos
  have c0 := hB.cells 0 hpos
  have hx := hB.lt 0
  have HD := (show Hid (∀ w : World, _) from fun w => describedIn_any (bs[0]?.getD 0) hx w)
  rw [← hu] at HD
  rw [Nat.add_zero] at c0
  have h48 := hB.len
  have hrun := (hB.take u hs).1
  have HT := (show Hid (Calls Try.prog 17 #[.slice (some ⟨gb, off, none⟩) (bs.take u).length cap] w fun e w' => TellPost T w e w') from hT)
  have hu256 : u ≤ 256 := by rw [hu]; unfold usedN; split <;> omega
  obtain ⟨n, hn⟩ : ∃ n, n = bs.length := ⟨_, rfl⟩
  obtain ⟨k, hk⟩ : ∃ k, k = (bs.take u).length := ⟨_, rfl⟩
  rw [← hn] at hs hpos h48 hrun ⊢
  rw [← hk] at HT hrun
  generalize bs[0]?.getD 0 = h at *
  have hsI : ¬ (n : Int) < (u : Int) := by omega
  have hn0 : ((n : Int) == 0) = false := by rw [beq_eq_false_iff_ne]; omega
  have hn1 : (0 : Int) < (n : Int) := by omega
  have huI : (u : Int) ≤ 256 := by omega
  clear hB hn h48 hT hu hk hne hu256
  cases T with
  | none =>
    go_enter Try.func7, Try.ntmps7
    go_wp2_with (first | (go_at_call 16; refine (HD.out _).mono ?_; rintro e w' ⟨rfl, rfl⟩) | (go_at_call 17; refine HT.out.mono ?_; rintro e w1 ⟨hK, rfl⟩))
    exact bodyPost_ret (by simp [results, Try.results7]) rfl ⟨hK, rfl⟩
  | some M =>
    obtain ⟨hl, hlt⟩ := hM M rfl
    have HM := (show Hid (M.length ≤ 255 ∧ ∀ j : Nat, M[j]?.getD 0 < 256) from ⟨hl, hlt⟩)
    clear hl hlt hM
    go_enter Try.func7, Try.ntmps7
    go_wp2_with (go_at_call 16; refine (HD.out _).mono ?_; rintro e w' ⟨rfl, rfl⟩)
    refine HT.out.mono ?_
    rintro e w1 ⟨hK, v, rfl, hown, hnew⟩
    have HL := (show Hid (Calls Try.prog 18 _ w1 _) from withLast_any _ v M w1 hown HM.out.2 HM.out.1 hnew hK.size)
    obtain ⟨sa, scap, rfl⟩ := owns_form hown
    have HK := (show Hid (Keep noBlock w' w1) from hK)
    clear hown hnew HT hK c0
    go_wp2_with fail
    refine HL.out.mono ?_
    rintro e w2 ⟨hP, hK2⟩
    have HK2 := (show Hid (Keep noBlock w' w2) from HK.out.trans hK2 (fun i hi e => by omega))
    rcases hP with ⟨hc, v2, rfl, hown2, hnew2⟩ | ⟨hc, v2, rfl⟩
    · obtain ⟨sb, bcap, rfl⟩ := owns_form hown2
      have HO := (show Hid (w2.ownsRow 0 5 1 (.slice sb (M ++ [lastW M]).length bcap) (M ++ [lastW M]).length (u8s (M ++ [lastW M])) ∧ readOf (some M) = some (M ++ [lastW M])) from ⟨hown2, readOf_yes hc⟩)
      obtain ⟨L, hL⟩ : ∃ L, L = (M ++ [lastW M]).length := ⟨_, rfl⟩
      rw [← hL] at HO ⊢
      have HLL := (show Hid (L = (M ++ [lastW M]).length) from hL)
      clear hL
      clear hown2 hnew2 hK2
      go_wp2_with fail
      refine bodyPost_ret (by simp [results, Try.results7]; rfl) rfl ⟨HK2.out, ?_⟩
      rw [HO.out.2]
      exact ⟨_, rfl, by rw [← HLL.out]; exact HO.out.1⟩
    · have HO := (show Hid (readOf (some M) = none) from readOf_no hc)
      clear hK2
      go_wp2_with fail
      refine bodyPost_ret (by simp [results, Try.results7]; rfl) rfl ⟨HK2.out, ?_⟩
      rw [HO.out]

set_option maxRecDepth 100000 in
set_option maxHeartbeats 2000000 in
/-- tell of weights of four bits. -/
theorem tell_fours (a : Option Addr) (cap gb off : Nat) (bs : List Nat) (n : Nat) (w : World) (hB : Bytes w a cap gb off bs) (hne : bs ≠ []) (h1 : bs[0]?.getD 0 = n + 127) (h2 : 1 ≤ n) (h3 : (n + 1) / 2 + 1 ≤ bs.length) :
    Calls Try.prog 17 #[.slice a bs.length cap] w fun e w' => TellPost (some ((List.range n).map (fourW (bs.drop 1)))) w e w' := by
  have hpos : 0 < bs.length := List.length_pos_iff.2 hne
  obtain rfl := hB.here (i := 0) hpos
  have c0 := hB.cells 0 hpos
  have hx := hB.lt 0
  rw [Nat.add_zero] at c0
  have h48 := hB.len
  obtain ⟨a', off', hrun, hB', -⟩ := hB.drop 1 hpos
  have HF := (show Hid (∀ q, Calls Try.prog 35 #[.slice a' (bs.drop 1).length (cap - 1), .int .i64 (n : Int)] (w.drewN q) _) from fun q => tellFours_any a' (cap - 1) gb off' (bs.drop 1) n (w.drewN q) (hB'.keep (keep_drewN w q) (fun _ h => h)) (by omega) (by rw [List.length_drop]; omega))
  obtain ⟨N, hN⟩ : ∃ N, N = bs.length := ⟨_, rfl⟩
  obtain ⟨k, hk⟩ : ∃ k, k = (bs.drop 1).length := ⟨_, rfl⟩
  obtain ⟨c', hc'⟩ : ∃ c', c' = cap - 1 := ⟨_, rfl⟩
  rw [← hk, ← hc'] at HF
  rw [← hN] at hpos h48 ⊢
  rw [← hN, ← hk, ← hc', show (((1 : Nat) : Int)) = (1 : Int) from rfl] at hrun
  obtain ⟨h, hh⟩ : ∃ h, h = bs[0]?.getD 0 := ⟨_, rfl⟩
  rw [← hh] at h1 hx c0
  have hgt : (127 : Int) < (h : Int) := by omega
  have hnI : (h : Int) - 127 = (n : Int) := by omega
  have hhI : (h : Int) < 256 := by omega
  have hp1 : (0 : Int) < (N : Int) := by omega
  have hML : ((List.range n).map (fourW (bs.drop 1))).length = n := by simp
  have HML := (show Hid _ from hML)
  clear hB hB' hN hk hc' hh h1 hx h48 hne h3 hML
  go_enter Try.func17, Try.ntmps17
  go_wp2_with fail
  go_quiet (fail)
  go_wp2_with (go_at_call 35; refine (HF.out _).mono ?_; rintro e w1 ⟨v, rfl, hown, hK, hnew⟩)
  go_ret2
  exact ⟨(keep_drewN w _).trans' hK, v, rfl, by rw [HML.out]; exact hown, hnew⟩
end

end Go.Proofs.Ytkljidigmolmmaa

namespace Go.Proofs.Ytkljidigmolmmaa
open Go.RowKit Go.Shelf
set_option linter.unusedVariables false

theorem owns_kept16 {w w' : World} {S : Nat → Prop} {v : Value} {n : Nat} {xs : List Value} (h : w.ownsRow 0 132 1 v n xs) (hk : Keep S w w') (hS : ∀ g, v.ownBlock = some g → ¬ S g) : w'.ownsRow 0 132 1 v n xs := by
  refine ⟨h.1, ?_⟩
  rcases h.2 with ⟨e, h0⟩ | ⟨g, cap, cur, rfl, hb, hg, hr⟩
  · exact .inl ⟨e, h0⟩
  · exact .inr ⟨g, cap, cur, rfl, hb, hk.obj hg (hS g rfl), hr⟩
theorem ownBlock_lt16 {W : World} {v : Value} {n : Nat} {xs : List Value} (h : W.ownsRow 0 132 1 v n xs) {k : Nat} (e : v.ownBlock = some k) : k < W.heap.size := by
  rcases h.2 with ⟨e0, h0⟩ | ⟨g, cap, cur, rfl, hb, hg, hr⟩
  · rw [e0] at e; cases e
  · obtain rfl : g = k := by simpa [Value.ownBlock] using e
    exact obj_lt hg
theorem own_push16 {W : World} {v : Value} {xs : List Int} (h : W.ownsRow 0 132 1 v xs.length (i16s xs)) (x : Int) (hl : xs.length ≤ 1000000) :
    ∃ v' W', (Builtin.append_ #[79, 79] 79 #[v, .slice (some ⟨W.heap.size, 0, none⟩) 1 1]).run Try.prog (W.alloc (.cells #[.int .i16 x] 132)) = .ok v' W' ∧ W'.ownsRow 0 132 1 v' (xs ++ [x]).length (i16s (xs ++ [x])) ∧ Keep (fun k => v.ownBlock = some k) W W' ∧ (v'.ownBlock = v.ownBlock ∨ ∃ k, v'.ownBlock = some k ∧ W.heap.size ≤ k) := by
  have hka : Keep noBlock W (W.alloc (.cells #[.int .i16 x] 132)) := (Keep.refl _ W).alloc _
  obtain ⟨i0, hi, hz0, hz1, hz2⟩ := info_parts info42
  have happ : i16s (xs ++ [x]) = i16s xs ++ i16s [x] := by simp [i16s]
  obtain ⟨v', w', hr, h2, h3, h4, h5⟩ := run_append_own_at (P := Try.prog) (W.alloc (.cells #[.int .i16 x] 132)) 0 79 79 132 i0 (.int .i16 0) 1 2 Try.underlying79 hi hz0 hz1 hz2 rfl (by decide) v xs.length (i16s xs) (owns_kept16 h hka (fun _ _ h => h)) ⟨W.heap.size, 0, none⟩ 1 1 (i16s [x]) (by simp [i16s]) (fun j u hu => by
    have hj : j < 1 := by have := (List.getElem?_eq_some_iff.1 hu).1; rwa [i16s_length] at this
    obtain rfl : j = 0 := by omega
    rw [← hu, add0]
    exact cell_of (World.alloc_heap_new W _) 0) (i16s_one [x]) (by unfold maxLen; omega) (by omega) (Nat.zero_le _)
  refine ⟨v', w', hr, by rw [List.length_append, happ]; exact h2, (hka.mono (fun _ _ h => h.elim)).trans ((Keep.refl _ _).grown h3 (fun k e _ => e)) (fun _ _ h => h), ?_⟩
  rcases h5 with e | e
  · exact .inl e
  · exact .inr ⟨_, e, by rw [World.size_alloc]; omega⟩
theorem rowI_of_owns {W : World} {sa : Option Addr} {sn sc : Nat} {xs : List Int} (h : W.ownsRow 0 132 1 (.slice sa sn sc) xs.length (i16s xs)) : ∃ gb, RowI W .i16 sa sc gb 0 xs ∧ sn = xs.length ∧ (sa = none ∧ xs = [] ∨ (Value.slice sa sn sc).ownBlock = some gb) := by
  rcases h.2 with ⟨e, h0⟩ | ⟨g, cap, cur, e, hb, hg, h1, h2, h3, h4⟩
  · have hx : xs = [] := List.length_eq_zero_iff.1 h0
    subst hx
    cases e
    exact ⟨0, ⟨.inr rfl, fun _ => rfl, fun j hj => by simp at hj, Nat.le_refl _⟩, rfl, .inl ⟨rfl, rfl⟩⟩
  · cases e
    refine ⟨g, ⟨.inl rfl, (fun e => by cases e), fun j hj => ?_, h1⟩, rfl, .inr rfl⟩
    have := h.cells (g := g) rfl j _ (i16s_at xs j hj)
    rw [add0] at this
    rw [Nat.zero_add]; exact this

theorem sumS_app (xs ys : List Int) : ∀ n, n ≤ xs.length → sumS (xs ++ ys) n = sumS xs n := by
  intro n
  induction n with
  | zero => intro _; rfl
  | succ n ih =>
    intro h
    simp only [sumS]
    rw [ih (by omega), List.getElem?_append, if_pos (by omega)]
/-- Counts that take s states. -/
def Gd (xs : List Int) (s : Int) : Prop := (∀ i : Nat, i < xs.length → -1 ≤ xs[i]?.getD 0 ∧ xs[i]?.getD 0 ≤ 4096) ∧ sumS xs xs.length = s
theorem Gd.push {xs : List Int} {s : Int} (h : Gd xs s) (c : Int) (hc : -1 ≤ c) (hc2 : c ≤ 4096) : Gd (xs ++ [c]) (s + shareN c) := by
  refine ⟨fun i hi => ?_, ?_⟩
  · rw [List.getElem?_append]
    split
    · rename_i hj; exact h.1 i hj
    · rename_i hj
      rw [List.length_append] at hi
      have : i - xs.length = 0 := by simp at hi; omega
      rw [this]; exact ⟨hc, hc2⟩
  · rw [List.length_append]
    show sumS (xs ++ [c]) xs.length + shareN ((xs ++ [c])[xs.length]?.getD 0) = _
    rw [sumS_app _ _ _ (Nat.le_refl _), h.2, List.getElem?_append, if_neg (by omega), Nat.sub_self]
    rfl
theorem Gd.zeros {xs : List Int} {s : Int} (h : Gd xs s) : ∀ z : Nat, Gd (xs ++ List.replicate z 0) s := by
  intro z
  induction z with
  | zero => simpa using h
  | succ z ih =>
    have := ih.push 0 (by omega) (by omega)
    rw [List.append_assoc, ← List.replicate_succ'] at this
    rw [show s + shareN 0 = s from by rw [(shareN_zero 0).2 rfl]; omega] at this
    exact this
theorem cntF_good {bs : List Nat} {ms S : Nat} (hS : S ≤ 4096) (hms : ms ≤ 255) : ∀ (f R p : Nat) (acc : List Int) (more : Bool) (T : Option (List Int × Nat)), cntF bs ms f R p acc more = some T → Gd acc ((S : Int) - (R : Int)) → R ≤ S → (R = 0 → acc.length ≤ ms + 1 ∧ acc ≠ [] ∧ acc[acc.length - 1]?.getD 0 ≠ 0) → p ≤ 8 * bs.length →
    ∀ xs p', T = some (xs, p') → Gd xs (S : Int) ∧ xs.length ≤ ms + 1 ∧ xs ≠ [] ∧ xs[xs.length - 1]?.getD 0 ≠ 0 ∧ p' ≤ 8 * bs.length ∧ p ≤ p' := by
  intro f
  induction f with
  | zero => intro R p acc more T h; cases h
  | succ f ih =>
    intro R p acc more T h h1 h2 h3 h4 xs p' e
    rcases cntF_cases h with ⟨h5, h6⟩ | h5 | ⟨hR, hl, hm, hp, h5⟩ | ⟨v, p1, hR, hl, hm, hv, h5⟩
    · rw [h6] at e
      cases e
      obtain ⟨a, b, c⟩ := h3 h5
      exact ⟨by rw [h5] at h1; simpa using h1, a, b, c, h4, Nat.le_refl _⟩
    · rw [h5] at e; cases e
    · obtain ⟨a, b, c, d, e1, e2⟩ := ih _ _ _ _ _ h5 (h1.zeros _) h2 (fun e => by omega) (by omega) xs p' e
      exact ⟨a, b, c, d, e1, by omega⟩
    · have hv1 := valR_le hR hv
      have hv2 := valR_far hv
      obtain ⟨c, hc⟩ : ∃ c : Int, c = (v : Int) - 1 := ⟨_, rfl⟩
      rw [← hc] at h5
      have hs0 := shareN_pos c (by omega)
      have hsh : shareN c ≤ (R : Int) := by unfold shareN; split <;> omega
      have hp := h1.push c (by omega) (by omega)
      obtain ⟨a, b, c1, d, e1, e2⟩ := ih _ _ _ _ _ h5 (by rw [show (S : Int) - ((R - (shareN c).toNat : Nat) : Int) = (S : Int) - R + shareN c from by omega]; exact hp) (by omega) (fun e0 => by
        have hne : c ≠ 0 := fun e => by rw [(shareN_zero c).2 e] at e0; simp at e0; omega
        refine ⟨by simp; omega, by simp, ?_⟩
        rw [List.length_append, List.getElem?_append, if_neg (by simp)]
        simpa using hne) hv2.1 xs p' e
      exact ⟨a, b, c1, d, e1, by omega⟩
theorem Cnt.ok {bs : List Nat} {ms l p p' : Nat} {xs : List Int} (h : Cnt bs ms (2 ^ l) p [] false (some (xs, p'))) (hl5 : 5 ≤ l) (hl : l ≤ 12) (hms : ms ≤ 255) (hp : p ≤ 8 * bs.length) : okT xs (l : Int) = true ∧ I16 xs ∧ xs.length ≤ ms + 1 ∧ xs ≠ [] ∧ p' ≤ 8 * bs.length ∧ p ≤ p' := by
  have hS : 2 ^ l ≤ 4096 := Nat.pow_le_pow_right (n := 2) (j := 12) (by omega) hl
  have h0 := Nat.two_pow_pos l
  obtain ⟨f, hf⟩ := h
  obtain ⟨a, b, c, d, e1, e2⟩ := cntF_good (S := 2 ^ l) hS hms f _ _ _ _ _ hf ⟨fun i hi => by simp at hi, by simp [sumS]⟩ (Nat.le_refl _) (fun e => by omega) hp xs p' rfl
  refine ⟨?_, fun i => ?_, b, c, e1, e2⟩
  · unfold okT
    rw [decide_eq_true_iff]
    refine ⟨by omega, by omega, fun e => c (List.length_eq_zero_iff.1 e), by omega, d, fun i hi => (a.1 i hi).1, ?_⟩
    rw [a.2]; simp
  · by_cases hi : i < xs.length
    · have := a.1 i hi; omega
    · rw [List.getElem?_eq_none (by omega)]; simp

end Go.Proofs.Ytkljidigmolmmaa

namespace Go.Proofs.Ytkljidigmolmmaa
open Go.RowKit Go.Shelf
set_option linter.unusedVariables false

/-- What a description of counts tells: counts, log, bytes used. -/
def RdRel (bs : List Nat) (ml ms : Nat) (T : Option (List Int × Nat × Nat)) : Prop :=
  if 8 * bs.length < 4 then T = none else if ml < numAt bs 0 4 + 5 then T = none
  else ∃ T1, Cnt bs ms (2 ^ (numAt bs 0 4 + 5)) 4 [] false T1 ∧ T = T1.map (fun x => (x.1, numAt bs 0 4 + 5, (x.2 + 7) / 8))
theorem RdRel.det {bs : List Nat} {ml ms : Nat} {T T' : Option (List Int × Nat × Nat)} (h : RdRel bs ml ms T) (h' : RdRel bs ml ms T') : T = T' := by
  unfold RdRel at h h'
  split at h
  · rename_i c
    rw [if_pos c] at h'; rw [h, h']
  rename_i c
  rw [if_neg c] at h'
  split at h
  · rename_i c
    rw [if_pos c] at h'; rw [h, h']
  rename_i c
  rw [if_neg c] at h'
  obtain ⟨a, ha, rfl⟩ := h
  obtain ⟨b, hb, rfl⟩ := h'
  rw [ha.det hb]
theorem RdRel.ok {bs : List Nat} {ml ms : Nat} {xs : List Int} {l u : Nat} (h : RdRel bs ml ms (some (xs, l, u))) (hml : ml ≤ 12) (hms : ms ≤ 255) : okT xs (l : Int) = true ∧ I16 xs ∧ xs.length ≤ ms + 1 ∧ xs ≠ [] ∧ u ≤ bs.length ∧ l ≤ ml ∧ 5 ≤ l ∧ 1 ≤ u := by
  unfold RdRel at h
  split at h
  · cases h
  split at h
  · cases h
  obtain ⟨T1, h1, h2⟩ := h
  cases T1 with
  | none => cases h2
  | some x =>
    obtain ⟨ys, p⟩ := x
    simp only [Option.map_some, Option.some.injEq, Prod.mk.injEq] at h2
    obtain ⟨rfl, rfl, rfl⟩ := h2
    obtain ⟨a, b, c, d, e, f⟩ := h1.ok (by omega) (by omega) hms (by omega)
    exact ⟨a, b, c, d, by omega, by omega, by omega, by omega⟩
/-- What Read answers. -/
def RdPost (T : Option (List Int × Nat × Nat)) (w : World) (e : Ending) (w' : World) : Prop :=
  Keep noBlock w w' ∧ match T with
    | none => ∃ E : Int, E ≠ 0 ∧ e = .returned (.tuple #[.slice none 0 0, .int .i64 0, .int .i64 0, .int .i64 E])
    | some (xs, l, u) => ∃ sa sc gb, e = .returned (.tuple #[.slice sa xs.length sc, .int .i64 (l : Int), .int .i64 (u : Int), .int .i64 0]) ∧ RowI w' .i16 sa sc gb 0 xs ∧ w.heap.size ≤ gb
theorem rd_none {w w' : World} {E : Int} (hE : E ≠ 0) (hk : Keep noBlock w w') : RdPost none w (.returned (.tuple #[.slice none 0 0, .int .i64 0, .int .i64 0, .int .i64 E])) w' := ⟨hk, E, hE, rfl⟩

/-- What the document's Read has. -/
structure Cq (w : World) (qb gb off : Nat) (bs : List Nat) (ms q : Nat) (acc : List Int) (sa : Option Addr) (sn sc : Nat) (W : World) : Prop where
  at_ : IsQ W qb gb off bs q
  owns : W.ownsRow 0 132 1 (.slice sa sn sc) acc.length (i16s acc)
  num : sn = acc.length
  new : ∀ k, (Value.slice sa sn sc).ownBlock = some k → w.heap.size ≤ k ∧ k ≠ qb
  keep : Keep noBlock w W
  len : acc.length ≤ ms + 4
  qb_lt : qb < W.heap.size
/-- What is read from here on is what is read from the start. -/
def To (bs : List Nat) (ms R0 R q : Nat) (acc : List Int) (more : Bool) : Prop := R ≤ 4096 ∧ ∀ T, Cnt bs ms R q acc more T → Cnt bs ms R0 4 [] false T

theorem Cq.push {w : World} {qb gb off : Nat} {bs : List Nat} {ms q q' : Nat} {acc : List Int} {sa : Option Addr} {sn sc : Nat} {W : World} (h : Cq w qb gb off bs ms q acc sa sn sc W) (hq : w.heap.size ≤ qb) (hgb : bs ≠ [] → gb < w.heap.size) (x : Int) (hl : acc.length ≤ ms + 3) (hms : ms ≤ 255)
    (W2 : World) (hW2 : IsQ W2 qb gb off bs q') (hK2 : Keep (fun k => k = qb) W W2) :
    ∃ sa' sc' W', (Builtin.append_ #[79, 79] 79 #[.slice sa sn sc, .slice (some ⟨W2.heap.size, 0, none⟩) 1 1]).run Try.prog (W2.alloc (.cells #[.int .i16 x] 132)) = .ok (.slice sa' (sn + 1) sc') W' ∧ Cq w qb gb off bs ms q' (acc ++ [x]) sa' (sn + 1) sc' W' := by
  have hn := h.new
  obtain ⟨v', W', hr, ho, hk, hm⟩ := own_push16 (owns_kept16 h.owns hK2 (fun k e => (h.new k e).2)) x (by omega)
  obtain ⟨sa', sc', e⟩ := owns_form ho
  have hlen : (acc ++ [x]).length = sn + 1 := by have := h.num; simp; omega
  rw [hlen] at e
  subst e
  have hz1 := h.keep.size
  have hz2 := hK2.size
  have hz3 := hk.size
  have hql := h.qb_lt
  refine ⟨sa', sc', W', hr, hW2.keep hk (fun e => (hn _ e).2 rfl) (fun hne e => by have := (hn _ e).1; have := hgb hne; omega), ho, hlen.symm, fun k e => ?_, (h.keep.trans hK2 (fun j hj e => by omega)).trans hk (fun j hj e => by have := (hn j e).1; omega), by simp; omega, by omega⟩
  rcases hm with e2 | ⟨j, e2, hj⟩
  · rw [e2] at e; exact hn k e
  · rw [e2] at e; cases e; omega

set_option maxRecDepth 100000 in
set_option maxHeartbeats 800000 in
theorem readQ_all (a : Option Addr) (cap gb off : Nat) (bs : List Nat) (ml ms : Nat) (w : World) (hB : Bytes w a cap gb off bs) (hbl : bs.length ≤ 1000000) (hml5 : 5 ≤ ml) (hml : ml ≤ 12) (hms : ms ≤ 255) :
    Calls Try.prog 41 #[.slice a bs.length cap, .int .i64 (ml : Int), .int .i64 (ms : Int)] w fun e w' => ∃ T, RdRel bs ml ms T ∧ RdPost T w e w' := by
  obtain ⟨qb, hqb⟩ : ∃ qb, qb = w.heap.size := ⟨_, rfl⟩
  have hkA : Keep noBlock w (w.alloc (.cells #[.slice a bs.length cap, .int .i64 0] 129)) := (Keep.refl _ w).alloc _
  have hBA := hB.keep hkA (fun _ h => h)
  have hgbw : bs ≠ [] → gb < w.heap.size := fun h => hB.block h
  have hQ : IsQ (w.alloc (.cells #[.slice a bs.length cap, .int .i64 0] 129)) qb gb off bs 0 := by
    rw [hqb]
    exact ⟨⟨a, cap, hB.at_, World.alloc_heap_new w _⟩, hBA.cells, by omega, hB.lt, by omega⟩
  have hmlI : (ml : Int) ≤ 12 := by omega
  have hmlI5 : (5 : Int) ≤ (ml : Int) := by omega
  have hmsI : (ms : Int) ≤ 255 := by omega
  have HW := (show Hid (qb = w.heap.size ∧ (bs ≠ [] → gb < w.heap.size) ∧ bs.length ≤ 1000000) from ⟨hqb, hgbw, hbl⟩)
  have HQ0 := (show Hid (IsQ (w.alloc (.cells #[.slice a bs.length cap, .int .i64 0] 129)) qb gb off bs 0 ∧ Keep noBlock w (w.alloc (.cells #[.slice a bs.length cap, .int .i64 0] 129))) from ⟨hQ, hkA⟩)
  have hgne : bs ≠ [] → gb ≠ qb := fun h => by have := hgbw h; omega
  have HNE := (show Hid (bs ≠ [] → gb ≠ qb) from hgne)
  have HRel := (show Hid (∀ T, RdRel bs ml ms T ↔ (if 8 * bs.length < 4 then T = none else if ml < numAt bs 0 4 + 5 then T = none else ∃ T1, Cnt bs ms (2 ^ (numAt bs 0 4 + 5)) 4 [] false T1 ∧ T = T1.map (fun x => (x.1, numAt bs 0 4 + 5, (x.2 + 7) / 8)))) from fun T => Iff.rfl)
  obtain ⟨n, hn⟩ : ∃ n, n = bs.length := ⟨_, rfl⟩
  rw [← hn] at HQ0 ⊢
  have HN := (show Hid (n = bs.length) from hn)
  have hnI : (n : Int) ≤ 1000000 := by omega
  clear hB hkA hBA hgbw hQ hgne hn hbl
  go_enter Try.func41, Try.ntmps41
  by_cases h4 : 8 * bs.length < 4
  · have HB := (show Hid (Calls Try.prog 68 #[.pointer (some ⟨qb, 0, none⟩), .int .i64 4] (w.alloc (.cells #[.slice a n cap, .int .i64 0] 129)) _) from bitsQ_few_i qb gb off bs 0 4 4 rfl (by omega) _ HQ0.out.1 (by omega))
    have HD := (show Hid (RdRel bs ml ms none ∧ ∀ q, Keep noBlock w ((w.alloc (.cells #[.slice a n cap, .int .i64 0] 129)).drewN q)) from ⟨(HRel.out _).2 (by rw [if_pos h4]), fun q => HQ0.out.2.trans (keep_drewN _ q) (fun _ _ h => h.elim)⟩)
    clear HQ0 h4
    go_wp2_with (fail)
    rw [← hqb]
    refine HB.out.mono ?_
    rintro e w1 ⟨rfl, q1, rfl⟩
    go_wp2_with fail
    exact bodyPost_ret (v := .tuple #[.slice none 0 0, .int .i64 0, .int .i64 0, .int .i64 10]) (by simp [results, Try.results41, go_sem]) rfl ⟨none, HD.out.1, rd_none (by decide) (HD.out.2 _)⟩
  obtain ⟨x, hx⟩ : ∃ x, numAt bs 0 4 = x := ⟨_, rfl⟩
  have hx16 := numAt_lt bs 0 4
  rw [hx] at hx16
  have HB := (show Hid (Calls Try.prog 68 #[.pointer (some ⟨qb, 0, none⟩), .int .i64 4] (w.alloc (.cells #[.slice a n cap, .int .i64 0] 129)) _) from bitsQ_take_i qb gb off bs 0 4 x 4 rfl (by omega) _ HQ0.out.1 HNE.out (by omega) hx)
  have hxI : (x : Int) < 16 := by omega
  obtain ⟨l, hl⟩ : ∃ l, l = x + 5 := ⟨_, rfl⟩
  have hlI : (x : Int) + 5 = (l : Int) := by omega
  have hl20 : (l : Int) ≤ 20 := by omega
  have HRel2 := (show Hid (∀ T, RdRel bs ml ms T ↔ (if ml < l then T = none else ∃ T1, Cnt bs ms (2 ^ l) 4 [] false T1 ∧ T = T1.map (fun x => (x.1, l, (x.2 + 7) / 8)))) from fun T => by
    rw [HRel.out T, if_neg h4, hx, ← hl])
  clear hx hx16 hl h4 HRel
  go_wp2_with fail
  rw [← hqb]
  clear hqb
  refine HB.out.mono ?_
  rintro e w1 ⟨rfl, hI1, hK1⟩
  clear HB
  have hK01 : Keep noBlock w w1 := HQ0.out.2.trans hK1 (fun j hj e => by have := HW.out.1; omega)
  have HI1 := (show Hid (IsQ w1 qb gb off bs 4 ∧ Keep noBlock w w1 ∧ qb < w1.heap.size) from ⟨by simpa using hI1, hK01, by
    obtain ⟨_, _, _, ho⟩ := hI1.obj
    exact obj_lt ho⟩)
  clear hI1 hK1 hK01 HQ0
  by_cases hlm : ml < l
  · have hlmI : (ml : Int) < (l : Int) := by omega
    have HD := (show Hid (RdRel bs ml ms none) from (HRel2.out _).2 (by rw [if_pos hlm]))
    go_wp2_with fail
    exact bodyPost_ret (v := .tuple #[.slice none 0 0, .int .i64 0, .int .i64 0, .int .i64 11]) (by simp [results, Try.results41, go_sem]) rfl ⟨none, HD.out, rd_none (by decide) HI1.out.2.1⟩
  have hlmI : ¬ (ml : Int) < (l : Int) := by omega
  have HRel3 := (show Hid (∀ T1, Cnt bs ms (2 ^ l) 4 [] false T1 → RdRel bs ml ms (T1.map (fun x => (x.1, l, (x.2 + 7) / 8)))) from fun T1 h => (HRel2.out _).2 (by rw [if_neg hlm]; exact ⟨T1, h, rfl⟩))
  have hlb : (l : Int) ≤ 12 := by omega
  have hpl : (2 : Int) ^ l = ((2 ^ l : Nat) : Int) := by simp
  have hS : 2 ^ l ≤ 4096 := Nat.pow_le_pow_right (n := 2) (j := 12) (by omega) (by omega)
  obtain ⟨R0, hR0⟩ : ∃ R0, R0 = 2 ^ l := ⟨_, rfl⟩
  rw [← hR0] at hpl hS HRel3
  have hR0I : (R0 : Int) ≤ 4096 := by omega
  have HC0 := (show Hid (Cq w qb gb off bs ms 4 [] none 0 0 w1 ∧ To bs ms R0 R0 4 [] false) from ⟨⟨HI1.out.1, World.ownsRow_nil _ _ _ _, rfl, (fun k e => by cases e), HI1.out.2.1, by simp, HI1.out.2.2⟩, by omega, fun _ h => h⟩)
  have hdec : ∀ (i : Decidable (ml < l)), @decide (ml < l) i = false := fun i => @decide_eq_false _ i hlm
  clear HI1 HRel2 hR0 hlm
  go_wp2_with fail
  try rw [hdec _]
  clear hdec
  go_loopw [6, 7, 12] (fun v6 v7 v12 wr => ∃ (R q : Nat) (acc : List Int) (sa : Option Addr) (sn sc : Nat), v6 = .slice sa sn sc ∧ v7 = .int .i64 (l : Int) ∧ v12 = .int .i64 (R : Int) ∧ Hid (Cq w qb gb off bs ms q acc sa sn sc wr ∧ To bs ms R0 R q acc false)) (fun v6 _ _ _ => ms + 5 - sliceLen v6)
  case atStart => exact ⟨R0, 4, [], none, 0, 0, rfl, rfl, rfl, HC0.out⟩
  case round =>
    clear HC0 hpl hS hR0I hlI hxI hl20 hlb hnI hmlI hmlI5 hlmI
    obtain ⟨R, q, acc, sa, sn, sc, rfl, rfl, rfl, HC⟩ := hrel
    have hRI : (R : Int) ≤ 4096 := by have := HC.out.2.1; omega
    have hsn := HC.out.1.num
    have hsl := HC.out.1.len
    have hsnI : (sn : Int) ≤ 300 := by omega
    by_cases hR : R = 0
    · subst hR
      rw [show ((0 : Nat) : Int) = (0 : Int) from rfl]
      obtain ⟨sa0, cap0, -, ho⟩ := HC.out.1.at_.obj
      have hc1 : wr.cell? ⟨qb, 1, none⟩ = some (.int .i64 (q : Int)) := cell_of ho 1
      have hqI : (q : Int) ≤ 8000000 := by have := HC.out.1.at_.in_; have := HW.out; omega
      obtain ⟨u, hu⟩ : ∃ u, u = (q + 7) / 8 := ⟨_, rfl⟩
      have huI : ((q : Int) + 7) / 8 = (u : Int) := by omega
      have huT : ((q : Int) + 7).tdiv 8 = (u : Int) := by rw [Int.tdiv_eq_ediv_of_nonneg (by omega)]; exact huI
      have hwq : IntKind.i64.wrap ((IntKind.i64.wrap ((q : Int) + 7)).tdiv 8) = (u : Int) := by rw [show IntKind.i64.wrap ((q : Int) + 7) = (q : Int) + 7 from by rw [IntKind.wrap_i64]; omega, huT, IntKind.wrap_i64]; omega
      have HWQ := (show Hid _ from hwq)
      clear hwq
      have HD := (show Hid (RdRel bs ml ms (some (acc, l, u)) ∧ sn = acc.length) from ⟨by rw [hu]; exact HRel3.out _ (HC.out.2.2 _ (.done q acc false)), hsn⟩)
      clear ho hsn hsl hu
      go_wp2_with fail
      go_region_held3 (fun W => W.cell? ⟨qb, 1, none⟩ = some (.int .i64 (q : Int))) (exact hc1) (fail)
      go_wp2_with fail
      obtain ⟨gb2, hRow, -, hgb2⟩ := rowI_of_owns HC.out.1.owns
      rw [HD.out.2]
      refine bodyPost_ret (v := .tuple #[.slice sa acc.length sc, .int .i64 (l : Int), .int .i64 (u : Int), .int .i64 0]) (by simp [results, Try.results41, go_sem]; try exact HWQ.out) rfl ⟨_, HD.out.1, HC.out.1.keep.trans (keep_drewN _ _) (fun _ _ h => h), sa, sc, gb2, rfl, hRow.keep (keep_drewN _ _) (fun _ h => h), ?_⟩
      rcases hgb2 with ⟨-, h0⟩ | h0
      · exact absurd h0 (by
          have := (RdRel.ok HD.out.1 hml hms).2.2.2.1
          exact this)
      · exact (HC.out.1.new _ h0).1
    have hRp : 0 < (R : Int) := by omega
    have hql := HC.out.1.qb_lt
    by_cases hfu : ms < sn
    · have hfI : (ms : Int) < (sn : Int) := by omega
      have HD := (show Hid (RdRel bs ml ms none) from HRel3.out _ (HC.out.2.2 _ (.full R q acc false (by omega) (by omega))))
      clear hsn hsl
      go_wp2_with fail
      exact bodyPost_ret (v := .tuple #[.slice none 0 0, .int .i64 0, .int .i64 0, .int .i64 11]) (by simp [results, Try.results41, go_sem]) rfl ⟨none, HD.out, rd_none (by decide) HC.out.1.keep⟩
    have hfI : ¬ (ms : Int) < (sn : Int) := by omega
    have HB := (show Hid (Calls Try.prog 69 #[.pointer (some ⟨qb, 0, none⟩), .int .i64 ((R : Int) + 1)] wr _) from value_all qb gb off bs q R wr HC.out.1.at_ HNE.out (by omega) HC.out.2.1 _ (by omega))
    cases hvr : valR bs q R with
    | none =>
      rw [hvr] at HB
      have HD := (show Hid (RdRel bs ml ms none) from HRel3.out _ (HC.out.2.2 _ (.cshort R q acc (by omega) (by omega) hvr)))
      clear hsn hsl
      go_wp2_with fail
      refine HB.out.mono ?_
      rintro e w2 ⟨hK2, he⟩
      obtain rfl : e = .returned (.tuple #[.int .i64 0, .int .i64 10]) := he
      go_wp2_with fail
      exact bodyPost_ret (v := .tuple #[.slice none 0 0, .int .i64 0, .int .i64 0, .int .i64 10]) (by simp [results, Try.results41, go_sem]) rfl ⟨none, HD.out, rd_none (by decide) (HC.out.1.keep.trans hK2 (fun j hj e => by have := HW.out.1; omega))⟩
    | some vp =>
      obtain ⟨v, p'⟩ := vp
      rw [hvr] at HB
      have hv := valR_le (by omega) hvr
      obtain ⟨c, hc⟩ : ∃ c : Int, c = (v : Int) - 1 := ⟨_, rfl⟩
      have hcI : (v : Int) - 1 = c := hc.symm
      have hcb : -1 ≤ c := by omega
      have hcb2 : c ≤ 4096 := by omega
      have hs0 := shareN_pos c hcb
      have hsh : shareN c ≤ (R : Int) := by unfold shareN; split <;> omega
      obtain ⟨R2, hR2e⟩ : ∃ R2, R2 = R - (shareN c).toNat := ⟨_, rfl⟩
      have hsub : (R : Int) - shareN c = (R2 : Int) := by omega
      have hR2b : (R2 : Int) ≤ 4096 := by omega
      have HSH := (show Hid (∀ w : World, _) from fun w => parts_any c (by omega) (by omega) w)
      have HT2 := (show Hid (∀ T, Cnt bs ms R2 p' (acc ++ [c]) (decide (c = 0)) T → Cnt bs ms R0 4 [] false T) from fun T hT => HC.out.2.2 T (.count R q acc v p' T (by omega) (by omega) hvr (by rw [← hc, ← hR2e]; exact hT)))
      have HZ := (show Hid (sn = acc.length ∧ acc.length ≤ ms ∧ R2 ≤ 4096 ∧ (c = 0 → R2 = R) ∧ 1 ≤ R) from ⟨hsn, by omega, by omega, fun e => by rw [hR2e, (shareN_zero c).2 e]; simp, by omega⟩)
      clear hsn hsl hvr hv hc hsh hR2e
      generalize shareN c = shc at *
      go_wp2_with fail
      refine HB.out.mono ?_
      rintro e w2 ⟨hK2, he⟩
      obtain ⟨rfl, hI2⟩ : e = .returned (.tuple #[.int .i64 (v : Int), .int .i64 0]) ∧ IsQ w2 qb gb off bs p' := he
      clear HB
      obtain ⟨sa', sc', W', hrun, hcq⟩ := HC.out.1.push (by have := HW.out.1; omega) HW.out.2.1 c (by have := HZ.out; omega) hms w2 hI2 hK2
      have HQ2 := (show Hid (Cq w qb gb off bs ms p' (acc ++ [c]) sa' (sn + 1) sc' W' ∧ To bs ms R0 R2 p' (acc ++ [c]) (decide (c = 0))) from ⟨hcq, HZ.out.2.2.1, HT2.out⟩)
      clear hcq hI2 hK2 HC HT2
      by_cases hc0 : c = 0
      · have hd : decide (c = 0) = true := decide_eq_true hc0
        rw [hd] at HQ2
        subst hc0
        have HR2 := (show Hid (1 ≤ R2 ∧ sn = acc.length ∧ acc.length ≤ ms) from ⟨by have h := HZ.out; have h1 := h.2.2.2.1 rfl; have h2 := h.2.2.2.2; omega, HZ.out.1, HZ.out.2.1⟩)
        clear HZ
        go_wp2_with (first | (go_at_call 70; refine (HSH.out _).mono ?_; rintro e w'' ⟨rfl, rfl⟩) | (at_builtin; refine wpList_append_run _ rfl _ _ 79 rfl _ _ _ _ rfl rfl hrun ?_))
        clear hrun HSH
        go_loopw [6, 7] (fun v6 v7 wz => ∃ (q : Nat) (ac : List Int) (sa : Option Addr) (sm sc : Nat), v6 = .slice sa sm sc ∧ v7 = .int .i64 (l : Int) ∧ Hid (Cq w qb gb off bs ms q ac sa sm sc wz ∧ To bs ms R0 R2 q ac true ∧ sm ≤ ms + 1 ∧ sn + 1 ≤ sm)) (fun v6 _ _ => ms + 5 - sliceLen v6)
        case atStart => exact ⟨p', acc ++ [0], sa', sn + 1, sc', rfl, rfl, HQ2.out.1, HQ2.out.2, by have := HR2.out; omega, Nat.le_refl _⟩
        case round =>
          clear HQ2
          obtain ⟨q2, ac, sa2, sm, sc2, rfl, rfl, HE⟩ := hrel
          have hsmI : (sm : Int) ≤ 256 := by have := HE.out.2.2.1; omega
          by_cases hsh : 8 * bs.length < q2 + 2
          · have HB := (show Hid (Calls Try.prog 68 #[.pointer (some ⟨qb, 0, none⟩), .int .i64 2] wr _) from bitsQ_few_i qb gb off bs q2 2 2 rfl (by omega) _ HE.out.1.at_ hsh)
            have HD := (show Hid (RdRel bs ml ms none) from HRel3.out _ (HE.out.2.1.2 _ (.zshort R2 q2 ac HR2.out.1 hsh)))
            go_wp2_with fail
            refine HB.out.mono ?_
            rintro e w3 ⟨rfl, q3, rfl⟩
            go_wp2_with fail
            exact bodyPost_ret (v := .tuple #[.slice none 0 0, .int .i64 0, .int .i64 0, .int .i64 10]) (by simp [results, Try.results41, go_sem]) rfl ⟨none, HD.out, rd_none (by decide) (HE.out.1.keep.trans (keep_drewN _ q3) (fun _ _ h => h.elim))⟩
          · obtain ⟨z, hz⟩ : ∃ z, numAt bs q2 2 = z := ⟨_, rfl⟩
            have hz4 := numAt_lt bs q2 2
            rw [hz] at hz4
            have HB := (show Hid (Calls Try.prog 68 #[.pointer (some ⟨qb, 0, none⟩), .int .i64 2] wr _) from bitsQ_take_i qb gb off bs q2 2 z 2 rfl (by omega) _ HE.out.1.at_ HNE.out (by omega) hz)
            have hzI : (z : Int) ≤ 3 := by omega
            have HT3 := (show Hid (z ≤ 3 ∧ (ac.length ≤ ms → To bs ms R0 R2 (q2 + 2) (ac ++ List.replicate z 0) (decide (z = 3))) ∧ (ms < ac.length → Cnt bs ms R0 4 [] false none)) from ⟨by omega, fun h => ⟨HE.out.2.1.1, fun T hT => HE.out.2.1.2 T (.zeros R2 q2 ac T HR2.out.1 h (by omega) (by rw [hz]; exact hT))⟩, fun h => HE.out.2.1.2 _ (.full R2 q2 ac true HR2.out.1 h)⟩)
            clear hz hz4 hsh
            go_wp2_with fail
            refine HB.out.mono ?_
            rintro e w3 ⟨rfl, hI3, hK3⟩
            clear HB
            have HF := (show Hid (Cq w qb gb off bs ms (q2 + 2) ac sa2 sm sc2 w3 ∧ sm = ac.length ∧ sm ≤ ms + 1 ∧ sn + 1 ≤ sm) from by
              obtain ⟨c1, c2, c3, c4, c5, c6, c7⟩ := HE.out.1
              exact ⟨⟨hI3, owns_kept16 c2 hK3 (fun k e => (c4 k e).2), c3, c4, c5.trans hK3 (fun j hj e => by have := HW.out.1; omega), c6, Nat.lt_of_lt_of_le c7 hK3.size⟩, c3, HE.out.2.2.1, HE.out.2.2.2⟩)
            clear hI3 hK3 HE
            go_wp2_with fail
            go_loopw [6, 18] (fun v6 v18 wz => ∃ (i : Nat) (sa : Option Addr) (sk sc : Nat), v6 = .slice sa sk sc ∧ v18 = .int .i64 (i : Int) ∧ i ≤ z ∧ Hid (Cq w qb gb off bs ms (q2 + 2) (ac ++ List.replicate i 0) sa sk sc wz ∧ sk = sm + i)) (fun _ v18 _ => z - (intOf v18).toNat)
            case atStart => exact ⟨0, sa2, sm, sc2, rfl, rfl, Nat.zero_le _, by simpa using HF.out.1, by omega⟩
            case round =>
              obtain ⟨i, sa3, sk, sc3, rfl, rfl, hi, HG⟩ := hrel
              have hskI : (sk : Int) ≤ 300 := by have := HG.out.2; have := HF.out.2.2.1; have := HT3.out.1; omega
              by_cases hiz : i < z
              · have hizI : (i : Int) < (z : Int) := by omega
                obtain ⟨sa4, sc4, W4, hrun4, hcq4⟩ := HG.out.1.push (by have := HW.out.1; omega) HW.out.2.1 0 (by have := HG.out; have := HF.out; have := HT3.out.1; simp; omega) hms wr HG.out.1.at_ (Keep.refl _ _)
                rw [List.append_assoc, ← List.replicate_succ'] at hcq4
                have HG4 := (show Hid (Cq w qb gb off bs ms (q2 + 2) (ac ++ List.replicate (i + 1) 0) sa4 (sk + 1) sc4 W4 ∧ sk + 1 = sm + (i + 1)) from ⟨hcq4, by have := HG.out.2; omega⟩)
                clear hcq4 HG
                go_wp2_with (at_builtin; refine wpList_append_run _ rfl _ _ 79 rfl _ _ _ _ rfl rfl hrun4 ?_)
                go_roundw
                case rel => exact ⟨i + 1, sa4, sk + 1, sc4, rfl, by go_num, by omega, HG4.out⟩
                case measure => simp [intOf]; omega
              · obtain rfl : i = z := by omega
                have hizI : ¬ (i : Int) < (i : Int) := by omega
                by_cases hful : ms < sk
                · have hfulI : (ms : Int) < (sk : Int) := by omega
                  have HD := (show Hid (RdRel bs ml ms none) from HRel3.out none (by
                    by_cases h1 : ms < ac.length
                    · exact HT3.out.2.2 h1
                    · refine (HT3.out.2.1 (by omega)).2 _ (.full R2 (q2 + 2) _ _ HR2.out.1 ?_)
                      have := HG.out.2; have := HF.out.2.1; simp; omega))
                  go_wp2_with fail
                  exact bodyPost_ret (v := .tuple #[.slice none 0 0, .int .i64 0, .int .i64 0, .int .i64 11]) (by simp [results, Try.results41, go_sem]) rfl ⟨none, HD.out, rd_none (by decide) HG.out.1.keep⟩
                · have hfulI : ¬ (ms : Int) < (sk : Int) := by omega
                  have hal : ac.length ≤ ms := by have := HG.out.2; have := HF.out.2.1; omega
                  have HT4 := (show Hid _ from HT3.out.2.1 hal)
                  by_cases h3 : i < 3
                  · have h3I : (i : Int) < 3 := by omega
                    have hd3 : decide (i = 3) = false := decide_eq_false (by omega)
                    rw [hd3] at HT4
                    go_wp2_with fail
                    go_roundw
                    case rel => exact ⟨R2, q2 + 2, _, sa3, sk, sc3, rfl, rfl, rfl, HG.out.1, HT4.out⟩
                    case measure => have := HG.out.2; have := HF.out; have := HR2.out; simp only [sliceLen]; omega
                  · have h3I : ¬ (i : Int) < 3 := by omega
                    obtain rfl : i = 3 := by have := HT3.out.1; omega
                    go_wp2_with fail
                    go_roundw
                    case rel => exact ⟨q2 + 2, _, sa3, sk, sc3, rfl, rfl, HG.out.1, HT4.out, by omega, by have := HG.out.2; have := HF.out.2.2.2; omega⟩
                    case measure => have := HG.out.2; have := HF.out; have := HR2.out; simp only [sliceLen]; omega
      · have hcb0 : (c == 0) = false := by simpa using hc0
        have hd : decide (c = 0) = false := decide_eq_false hc0
        rw [hd] at HQ2
        go_wp2_with (first | (go_at_call 70; refine (HSH.out _).mono ?_; rintro e w'' ⟨rfl, rfl⟩) | (at_builtin; refine wpList_append_run _ rfl _ _ 79 rfl _ _ _ _ rfl rfl hrun ?_))
        go_roundw
        case rel => exact ⟨R2, p', acc ++ [c], sa', sn + 1, sc', rfl, rfl, rfl, HQ2.out⟩
        case measure => have := HZ.out; simp only [sliceLen]; omega

end Go.Proofs.Ytkljidigmolmmaa

namespace Go.Proofs.Ytkljidigmolmmaa
open Go.RowKit Go.Shelf
set_option linter.unusedVariables false

theorem rd_some {w w' : World} {xs : List Int} {l u : Nat} {sa : Option Addr} {sc gb : Nat} (hk : Keep noBlock w w') (hr : RowI w' .i16 sa sc gb 0 xs) (hg : w.heap.size ≤ gb) : RdPost (some (xs, l, u)) w (.returned (.tuple #[.slice sa xs.length sc, .int .i64 (l : Int), .int .i64 (u : Int), .int .i64 0])) w' := ⟨hk, sa, sc, gb, rfl, hr, hg⟩

section
attribute [local go_sem] sliceSem_eq minSem_eq
set_option maxRecDepth 100000 in
set_option maxHeartbeats 2000000 in
theorem read_all (a : Option Addr) (cap : Nat) (bs : List Nat) (ml ms : Nat) (w : World) (hsrc : Src w (.slice a bs.length cap) bs) (hlt : ∀ j : Nat, bs[j]?.getD 0 < 256) (hle : bs.length ≤ cap) (hbl : bs.length ≤ 400) (hml5 : 5 ≤ ml) (hml : ml ≤ 12) (hms : ms ≤ 255) :
    Calls Try.prog 36 #[.slice a bs.length cap, .int .i64 (ml : Int), .int .i64 (ms : Int)] w fun e w' => ∃ T, RdRel bs ml ms T ∧ RdPost T w e w' := by
  obtain ⟨k, hk⟩ : ∃ k, k = bs.length := ⟨_, rfl⟩
  rw [← hk] at hle hsrc ⊢
  have hmin := fun W => minSem_run .i64 #[3, 3] 3 (k : Int) 481 (k : Int) (by omega) W
  have hsl := fun W => run_high (t := 22) Try.underlying22 info5 a k cap k (by omega) W
  have HN := (show Hid (∀ W, Src W (.slice a k cap) bs → _) from fun W hs => new_any (.slice a k cap) bs (by omega) hlt W hs)
  have HS := (show Hid (Src w (.slice a k cap) bs) from hsrc)
  have HRel := (show Hid (∀ T, RdRel bs ml ms T ↔ (if 8 * bs.length < 4 then T = none else if ml < numAt bs 0 4 + 5 then T = none else ∃ T1, Cnt bs ms (2 ^ (numAt bs 0 4 + 5)) 4 [] false T1 ∧ T = T1.map (fun x => (x.1, numAt bs 0 4 + 5, (x.2 + 7) / 8)))) from fun T => Iff.rfl)
  have hd : decide (5 ≤ (ml : Int) ∧ (ml : Int) ≤ 12) = true := decide_eq_true ⟨by omega, by omega⟩
  have HIL := (show Hid (∀ w : World, Calls Try.prog 57 #[.int .i64 (ml : Int)] w fun e w' => e = .returned (.bool true) ∧ w' = w) from fun w => by have := isLog_any (ml : Int) w; rwa [hd] at this)
  have hm0 : ¬ (ms : Int) < 0 := by omega
  have hm2 : ¬ (256 : Int) ≤ (ms : Int) := by omega
  have hkI : (k : Int) ≤ 400 := by omega
  have HKB := (show Hid (k = bs.length ∧ k ≤ 400) from ⟨hk, by omega⟩)
  have hmlI : (ml : Int) ≤ 12 := by omega
  clear hsrc hd hk hbl hlt
  go_enter Try.func36, Try.ntmps36
  go_wp2_with (go_at_call 57; refine (HIL.out _).mono ?_; rintro e w' ⟨rfl, rfl⟩)
  refine (HN.out _ HS.out).mono ?_
  rintro e w1 ⟨rb, gg, rfl, hrb, hgg, hI1, hK1⟩
  have HI1 := (show Hid (IsR w1 rb gg bs 0 ∧ Keep noBlock w' w1 ∧ w'.heap.size ≤ rb ∧ w'.heap.size ≤ gg) from ⟨hI1, hK1, hrb, hgg⟩)
  clear hI1 hK1 hrb hgg HN HS hmin hsl HIL
  by_cases h4 : 8 * bs.length < 4
  · have HB := (show Hid (Calls Try.prog 59 #[.pointer (some ⟨rb, 0, none⟩), .int .i64 4] w1 _) from bits_few_i rb gg bs 0 4 4 rfl (by omega) w1 HI1.out.1 (by omega))
    have HD := (show Hid (RdRel bs ml ms none) from (HRel.out _).2 (by rw [if_pos h4]))
    go_wp2_with fail
    refine HB.out.mono ?_
    rintro e w2 ⟨rfl, q2, rfl⟩
    go_wp2_with fail
    exact bodyPost_ret (v := .tuple #[.slice none 0 0, .int .i64 0, .int .i64 0, .int .i64 10]) (by simp [results, Try.results36, go_sem]) rfl ⟨none, HD.out, rd_none (by decide) (HI1.out.2.1.trans (keep_drewN _ _) (fun _ _ h => h))⟩
  obtain ⟨x, hx⟩ : ∃ x, numAt bs 0 4 = x := ⟨_, rfl⟩
  have hx16 := numAt_lt bs 0 4
  rw [hx] at hx16
  have HB := (show Hid (Calls Try.prog 59 #[.pointer (some ⟨rb, 0, none⟩), .int .i64 4] w1 _) from bits_take_i rb gg bs 0 4 x 4 rfl (by omega) w1 HI1.out.1 (by omega) hx)
  have hxI : (x : Int) < 16 := by omega
  obtain ⟨l, hl⟩ : ∃ l, l = x + 5 := ⟨_, rfl⟩
  have hlI : 5 + (x : Int) = (l : Int) := by omega
  have hl20 : (l : Int) ≤ 20 := by omega
  have HRel2 := (show Hid (∀ T, RdRel bs ml ms T ↔ (if ml < l then T = none else ∃ T1, Cnt bs ms (2 ^ l) 4 [] false T1 ∧ T = T1.map (fun x => (x.1, l, (x.2 + 7) / 8)))) from fun T => by
    rw [HRel.out T, if_neg h4, hx, ← hl])
  clear hx hx16 hl h4 HRel
  go_wp2_with fail
  refine HB.out.mono ?_
  rintro e w2 ⟨rfl, hI2, hK2⟩
  rw [Nat.zero_add] at hI2
  have HI2 := (show Hid (IsR w2 rb gg bs 4 ∧ Keep noBlock w' w2 ∧ rb < w2.heap.size ∧ w'.heap.size ≤ rb) from ⟨hI2, HI1.out.2.1.trans hK2 (fun j hj e => by have := HI1.out.2.2.1; omega), by obtain ⟨_, _, _, ho⟩ := hI2.obj; exact obj_lt ho, HI1.out.2.2.1⟩)
  clear hI2 hK2 HI1 HB
  by_cases hlm : ml < l
  · have hlmI : (ml : Int) < (l : Int) := by omega
    have HD := (show Hid (RdRel bs ml ms none) from (HRel2.out _).2 (by rw [if_pos hlm]))
    go_wp2_with fail
    exact bodyPost_ret (v := .tuple #[.slice none 0 0, .int .i64 0, .int .i64 0, .int .i64 11]) (by simp [results, Try.results36, go_sem]) rfl ⟨none, HD.out, rd_none (by decide) HI2.out.2.1⟩
  have hlmI : ¬ (ml : Int) < (l : Int) := by omega
  have HRel3 := (show Hid (∀ T1, Cnt bs ms (2 ^ l) 4 [] false T1 → RdRel bs ml ms (T1.map (fun x => (x.1, l, (x.2 + 7) / 8)))) from fun T1 h => (HRel2.out _).2 (by rw [if_neg hlm]; exact ⟨T1, h, rfl⟩))
  have hlb : (l : Int) ≤ 12 := by omega
  have hpl : (2 : Int) ^ l = ((2 ^ l : Nat) : Int) := by simp
  have hS : 2 ^ l ≤ 4096 := Nat.pow_le_pow_right (n := 2) (j := 12) (by omega) (by omega)
  obtain ⟨R0, hR0⟩ : ∃ R0, R0 = 2 ^ l := ⟨_, rfl⟩
  rw [← hR0] at hpl hS HRel3
  have hR0I : (R0 : Int) ≤ 4096 := by omega
  have HRC := (show Hid (Calls Try.prog 60 #[.pointer (some ⟨rb, 0, none⟩), .int .i64 (R0 : Int), .int .i64 (ms : Int)] w2 _) from readCounts_all rb gg bs 4 ms R0 w2 HI2.out.1 HI2.out.2.2.1 hms (by omega))
  have HL12 := (show Hid (R0 = 2 ^ l ∧ 5 ≤ l ∧ l ≤ 12) from ⟨hR0, by omega, by omega⟩)
  clear HRel2 hR0 hlm
  go_wp2_with fail
  refine HRC.out.mono ?_
  rintro e w3 ⟨T1, hT1, hK3, hm⟩
  have hK03 : Keep noBlock w' w3 := HI2.out.2.1.trans hK3 (fun j hj e => by have := HI2.out.2.2.2; omega)
  cases T1 with
  | none =>
    obtain ⟨E, hE, rfl⟩ := hm
    have HD := (show Hid (RdRel bs ml ms none ∧ Keep noBlock w' w3 ∧ E ≠ 0) from ⟨HRel3.out none hT1, hK03, hE⟩)
    clear hT1 hK03 hK3
    go_wp2_with fail
    exact bodyPost_ret (v := .tuple #[.slice none 0 0, .int .i64 0, .int .i64 0, .int .i64 E]) (by simp [results, Try.results36, go_sem]) rfl ⟨none, HD.out.1, rd_none HD.out.2.2 HD.out.2.1⟩
  | some xp =>
    obtain ⟨xs, E⟩ := xp
    obtain ⟨gc, cap', rfl, hgc, hRow, hI3⟩ := hm
    have hEb : E ≤ 8 * bs.length := hI3.in_
    obtain ⟨y, hy⟩ : ∃ y, bs.length * 8 = E + y := ⟨bs.length * 8 - E, by omega⟩
    obtain ⟨u, hu⟩ : ∃ u, u = (E + 7) / 8 := ⟨_, rfl⟩
    obtain ⟨z, hz⟩ : ∃ z, z = y / 8 := ⟨_, rfl⟩
    have hzI : (y : Int) / 8 = (z : Int) := by omega
    have hzT : (y : Int).tdiv 8 = (z : Int) := by rw [Int.tdiv_eq_ediv_of_nonneg (by omega)]; exact hzI
    have hkb := HKB.out
    have huI : (k : Int) - (z : Int) = (u : Int) := by omega
    have hyI : (y : Int) ≤ 4000 := by omega
    have HD := (show Hid (RdRel bs ml ms (some (xs, l, u)) ∧ Keep noBlock w' w3 ∧ RowI w3 .i16 (some ⟨gc, 0, none⟩) cap' gc 0 xs ∧ w'.heap.size ≤ gc) from ⟨by rw [hu]; exact HRel3.out (some (xs, E)) hT1, hK03, hRow, by have := HI2.out.2.1.size; omega⟩)
    have HLf := (show Hid (Calls Try.prog 61 _ w3 _) from left_i rb gg bs E y hy w3 hI3)
    obtain ⟨xl, hxl⟩ : ∃ xl, xl = xs.length := ⟨_, rfl⟩
    rw [← hxl]
    have HXL := (show Hid (xl = xs.length) from hxl)
    clear hT1 hK03 hK3 hRow hI3 hgc hy hu hz hEb hkb hxl
    go_wp2_with fail
    refine HLf.out.mono ?_
    rintro e w4 ⟨rfl, nq, rfl⟩
    go_wp2_with fail
    exact bodyPost_ret (v := .tuple #[.slice (some ⟨gc, 0, none⟩) xl cap', .int .i64 (l : Int), .int .i64 (u : Int), .int .i64 0]) (by simp [results, Try.results36, go_sem]) rfl ⟨_, HD.out.1, by rw [HXL.out]; exact rd_some (HD.out.2.1.trans (keep_drewN _ _) (fun _ _ h => h)) (HD.out.2.2.1.keep (keep_drewN _ _) (fun _ h => h)) HD.out.2.2.2⟩
end

end Go.Proofs.Ytkljidigmolmmaa
