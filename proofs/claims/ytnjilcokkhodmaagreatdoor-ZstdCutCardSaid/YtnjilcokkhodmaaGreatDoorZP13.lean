/-
  tell of weights that two states tell by turns.
  The document's states: weights that two states tell by turns.
  The document's Read, where bytes are short.
  The document's Read of weights that two states tell.
  Read, the program's and the document's, as one contract.
  Read of weights, the program's, and what it tells where it tells weights.
  tell.
  Read of literals.
-/
import Derived.Test.YtnjilcokkhodmaaGreatDoorZP4
import Derived.Test.YtnjilcokkhodmaaGreatDoorZP6
import Derived.Test.YtnjilcokkhodmaaGreatDoorZP7
import Derived.Test.YtnjilcokkhodmaaGreatDoorZP9
import Derived.Test.YtnjilcokkhodmaaGreatDoorZP10
import Derived.Test.YtnjilcokkhodmaaGreatDoorZP11
import Derived.Test.YtnjilcokkhodmaaGreatDoorZP12
namespace Go.Proofs.YtnjilcokkhodmaaGreatDoor
open Go.RowKit Go.Shelf
set_option linter.unusedVariables false

def tellT (bs : List Nat) : Option (List Int × Nat × Nat) → Option (List Nat)
 | none => none
 | some (xs, l, u) => if (bs.drop u)[(bs.drop u).length - 1]?.getD 0 = 0 then none else toldT (symF xs (2 ^ l)) (fun i => bitF l (xF xs (2 ^ l) i)) (fun i => baseF l (xF xs (2 ^ l) i)) (bs.drop u) l
theorem within_ok {xs : List Int} {l : Nat} (hb : okT xs (l : Int) = true) (hl : l ≤ 12) : Within (fun i => bitF l (xF xs (2 ^ l) i)) (fun i => baseF l (xF xs (2 ^ l) i)) (2 ^ l) := fun i hi => by
 have h := (okT_tab hb).cell i hi
 exact ⟨Nat.le_trans h.2.2.1 hl, h.2.2.2.2.1⟩
theorem symF_256 {xs : List Int} {l : Nat} (hb : okT xs (l : Int) = true) (hx : xs.length ≤ 256) (i : Nat) (hi : i < 2 ^ l) : symF xs (2 ^ l) i < 256 := by
 have := ((okT_tab hb).symF i hi).2.1
 omega

section
attribute [local go_sem] sliceSem_eq
set_option maxRecDepth 100000 in
set_option maxHeartbeats 2000000 in
theorem tell_states (a : Option Addr) (cap gb off : Nat) (bs : List Nat) (w : World) (hB : Bytes w a cap gb off bs) (hne : bs ≠ []) (h1 : bs[0]?.getD 0 ≤ 127) (hl : bs.length ≤ 200) :
    Calls Tryz.prog 79 #[.slice a bs.length cap] w fun e w' => ∃ R, RdRel (bs.drop 1) 6 11 R ∧ TellPost (tellT (bs.drop 1) R) w e w' := by
  have hpos : 0 < bs.length := List.length_pos_iff.2 hne
  have hgbw := hB.block hne
  obtain rfl := hB.here (i := 0) hpos
  have c0 := hB.cells 0 hpos
  have hx := hB.lt 0
  rw [Nat.add_zero] at c0
  have h48 := hB.len
  have hcap := hB.cap
  have hrun := fun W => run_low5 (some ⟨gb, off, none⟩) bs.length cap 1 hpos W
  obtain ⟨a', off', hrun2, hB', -⟩ := hB.drop 1 hpos
  have hea : (if cap = 1 then (some ⟨gb, off, none⟩ : Option Addr) else (some ⟨gb, off, none⟩ : Option Addr).map (fun x => x.add 1)) = a' := by
    have e1 := hrun w
    rw [hrun2 w] at e1
    injection e1 with e1
    injection e1 with e1
    exact e1.symm
  have hsrc : Src w (.slice a' (bs.drop 1).length (cap - 1)) (bs.drop 1) := by
    have hs := hB'.src
    rcases hs with h | ⟨x, c, e, hc⟩
    · exact .inl h
    · refine .inr ⟨x, c, e, ?_, hc⟩
      injection e with e1 e2 e3
      rw [e1] at hea
      split at hea
      · injection hea with h; rw [← h]; exact hgbw
      · simp only [Option.map_some, Option.some.injEq] at hea
        rw [← hea]
        unfold Addr.add
        split <;> exact hgbw
  have hlt' := hB'.lt
  have hdl : (bs.drop 1).length ≤ 200 := by rw [List.length_drop]; omega
  have HRd := (show Hid (∀ q, Calls Tryz.prog 98 #[.slice a' (bs.drop 1).length (cap - 1), .int .i64 6, .int .i64 11] (w.drewN q) fun e w' => ∃ T, RdRel (bs.drop 1) 6 11 T ∧ RdPost T (w.drewN q) e w') from fun q => by
    have hs2 : Src (w.drewN q) (.slice a' (bs.drop 1).length (cap - 1)) (bs.drop 1) := hsrc
    exact read_all a' (cap - 1) (bs.drop 1) 6 11 (w.drewN q) hs2 hlt' (by rw [List.length_drop]; omega) (by omega) (by omega) (by omega) (by omega))
  obtain ⟨ds, hds⟩ : ∃ ds, ds = bs.drop 1 := ⟨_, rfl⟩
  rw [← hds] at HRd hB' hrun2 hdl ⊢
  have HB1 := (show Hid (Bytes w a' (cap - 1) gb off' ds ∧ ds.length ≤ 200) from ⟨hB', hdl⟩)
  obtain ⟨N, hN⟩ : ∃ N, N = bs.length := ⟨_, rfl⟩
  obtain ⟨k, hk⟩ : ∃ k, k = ds.length := ⟨_, rfl⟩
  obtain ⟨c', hc'⟩ : ∃ c', c' = cap - 1 := ⟨_, rfl⟩
  rw [← hk, ← hc'] at HRd
  rw [← hc'] at HB1
  have HK := (show Hid (k = ds.length) from hk)
  rw [← hN] at hpos h48 ⊢
  rw [← hN, ← hk, ← hc', show (((1 : Nat) : Int)) = (1 : Int) from rfl] at hrun2
  obtain ⟨h, hh⟩ : ∃ h, h = bs[0]?.getD 0 := ⟨_, rfl⟩
  rw [← hh] at h1 hx c0
  have hgt : ¬ (127 : Int) < (h : Int) := by omega
  have hhI : (h : Int) < 256 := by omega
  have hp1 : (0 : Int) < (N : Int) := by omega
  have hkI : (k : Int) ≤ 200 := by omega
  clear hB hB' hN hk hc' hh h1 hx h48 hne hrun hea hsrc hlt' hdl hds hl hcap
  go_enter Tryz.func79, Tryz.ntmps79
  go_wp2_with fail
  go_quiet (fail)
  go_wp2_with fail
  refine (HRd.out _).mono ?_
  rintro e w1 ⟨R, hR, hK1, hm⟩
  clear HRd
  have hK01 : Keep noBlock w w1 := (keep_drewN w _).trans' hK1
  cases R with
  | none =>
    obtain ⟨E, hE, rfl⟩ := hm
    have HD := (show Hid (RdRel ds 6 11 none ∧ Keep noBlock w w1) from ⟨hR, hK01⟩)
    clear hR hK01 hK1
    go_wp2_with fail
    go_ret2
    exact ⟨none, HD.out.1, HD.out.2, rfl⟩
  | some r =>
    obtain ⟨xs, l, u⟩ := r
    obtain ⟨sa, sc, g2, rfl, hRow, hg2⟩ := hm
    obtain ⟨ok, hI16, hxl, hxne, hub, hl6, hl5, hu1⟩ := hR.ok (by omega) (by omega)
    have HTb := (show Hid (Calls Tryz.prog 99 #[.slice sa xs.length sc, .int .i64 (l : Int)] w1 _) from table_good sa sc g2 0 xs l w1 hRow hI16 ok)
    obtain ⟨xl, hxle⟩ : ∃ xl, xl = xs.length := ⟨_, rfl⟩
    rw [← hxle] at HTb ⊢
    obtain ⟨a3, off3, hrun3, hB3, -⟩ := HB1.out.1.drop u hub
    have hk3 := HK.out
    rw [← hk3] at hrun3
    have HD := (show Hid (RdRel ds 6 11 (some (xs, l, u)) ∧ Keep noBlock w w1 ∧ okT xs (l : Int) = true ∧ xs.length ≤ 12 ∧ l ≤ 6 ∧ Bytes w a3 (c' - u) gb off3 (ds.drop u) ∧ (ds.drop u).length ≤ 200) from ⟨hR, hK01, ok, hxl, hl6, hB3, by rw [List.length_drop]; have := HB1.out.2; omega⟩)
    have hlI : (l : Int) ≤ 6 := by omega
    have huI : (u : Int) ≤ (k : Int) := by omega
    have hlI5 : (5 : Int) ≤ (l : Int) := by omega
    obtain ⟨k3, hk3e⟩ : ∃ k3, k3 = (ds.drop u).length := ⟨_, rfl⟩
    rw [← hk3e] at hrun3
    have HK3 := (show Hid (k3 = (ds.drop u).length) from hk3e)
    obtain ⟨c3, hc3⟩ : ∃ c3, c3 = c' - u := ⟨_, rfl⟩
    rw [← hc3] at hrun3 HD
    clear hR hK01 hK1 hRow hg2 ok hI16 hxl hxne hub hl6 hl5 hu1 hB3 hk3 hxle hk3e hc3
    go_wp2_with fail
    refine HTb.out.mono ?_
    rintro e w2 ⟨tg, tcap, rfl, htg, htc, hRT, hK2⟩
    obtain ⟨S, hS⟩ : ∃ S, S = 2 ^ l := ⟨_, rfl⟩
    rw [← hS] at hRT htc ⊢
    have hSb : S ≤ 4096 := by rw [hS]; exact Nat.pow_le_pow_right (n := 2) (j := 12) (by omega) (by have := HD.out; omega)
    have hB3w : Bytes w2 a3 c3 gb off3 (ds.drop u) := (HD.out.2.2.2.2.2.1.keep HD.out.2.1 (fun _ h => h)).keep hK2 (fun _ h => h)
    have hK02 : Keep noBlock w w2 := HD.out.2.1.trans' hK2
    have HE := (show Hid (RowT w2 tg S (symF xs S) (fun i => bitF l (xF xs S i)) (fun i => baseF l (xF xs S i)) ∧ S = 2 ^ l ∧ Keep noBlock w w2) from ⟨hRT, hS, hK02⟩)
    by_cases h0 : (ds.drop u)[(ds.drop u).length - 1]?.getD 0 = 0
    · have HN := (show Hid (Calls Tryz.prog 67 #[.slice a3 k3 c3] w2 _) from by have := newB_bad a3 c3 gb off3 (ds.drop u) w2 hB3w (by have := HD.out; omega) h0; rw [← HK3.out] at this; exact this)
      have HF := (show Hid (tellT ds (some (xs, l, u)) = none) from if_pos h0)
      clear h0 hB3w hK02 hRT hK2 hS htg htc hSb
      go_wp2_with fail
      refine HN.out.mono ?_
      rintro e w3 ⟨rfl, rfl⟩
      go_wp2_with fail
      go_ret2
      exact ⟨_, HD.out.1, by rw [HF.out]; exact ⟨HE.out.2.2, rfl⟩⟩
    · have HN := (show Hid (Calls Tryz.prog 67 #[.slice a3 k3 c3] w2 _) from by have := newB_good a3 c3 gb off3 (ds.drop u) w2 hB3w (by have := HD.out; omega) h0; rw [← HK3.out] at this; exact this)
      have HF := (show Hid (tellT ds (some (xs, l, u)) = toldT (symF xs S) (fun i => bitF l (xF xs S i)) (fun i => baseF l (xF xs S i)) (ds.drop u) l) from by rw [hS]; exact if_neg h0)
      clear h0 hB3w hK02 hRT hK2 hS htg htc hSb
      go_wp2_with fail
      refine HN.out.mono ?_
      rintro e w3 ⟨rb, g3, rfl, hrb, hg3, hA3, hK3⟩
      have htl : Tl.tailLen (ds.drop u) < 1125899906842624 := by have h1 := Tl.tailLen_le (ds.drop u) HD.out.2.2.2.2.2.1.lt; have h2 := HD.out.2.2.2.2.2.2; omega
      have HT := (show Hid (Calls Tryz.prog 100 #[.pointer (some ⟨rb, 0, none⟩), .slice (some ⟨tg, 0, none⟩) S tcap, .int .i64 (l : Int)] w3 _) from turns_any rb g3 (ds.drop u) tg tcap S l _ _ _ w3 hA3 (HE.out.1.keep hK3 (fun h => h)) HE.out.2.1 (by have := HD.out; omega) (by rw [HE.out.2.1]; exact within_ok HD.out.2.2.1 (by have := HD.out; omega)) (fun i hi => by
        have hi' := hi
        rw [HE.out.2.1] at hi' ⊢
        exact symF_256 HD.out.2.2.1 (by have := HD.out; omega) i hi') (by have := HE.out.1.lt; omega) htl)
      have HG := (show Hid (w2.heap.size ≤ rb ∧ Keep noBlock w w3) from ⟨hrb, HE.out.2.2.trans' hK3⟩)
      clear hrb hg3 hA3 hK3 htl HN
      go_wp2_with fail
      refine HT.out.mono ?_
      rintro e w4 ⟨hK4, hm4⟩
      have hK04 : Keep noBlock w w4 := HG.out.2.trans hK4 (fun j hj e => by have := HG.out.1; have := HE.out.2.2.size; omega)
      have HF2 := HF.out
      generalize toldT (symF xs S) (fun i => bitF l (xF xs S i)) (fun i => baseF l (xF xs S i)) (ds.drop u) l = TT at hm4 HF2
      cases TT with
      | none =>
        obtain rfl : e = .returned (.tuple #[.slice none 0 0, .bool false]) := hm4
        have HH := (show Hid (tellT ds (some (xs, l, u)) = none ∧ Keep noBlock w w4) from ⟨HF2, hK04⟩)
        clear hK04 hK4 HF2
        go_wp2_with fail
        go_ret2
        exact ⟨_, HD.out.1, by rw [HH.out.1]; exact ⟨HH.out.2, rfl⟩⟩
      | some M =>
        obtain ⟨v, rfl, hown, hnew⟩ := hm4
        have HH := (show Hid (tellT ds (some (xs, l, u)) = some M ∧ Keep noBlock w w4 ∧ w4.ownsRow 0 5 1 v M.length (u8s M) ∧ ∀ k, v.ownBlock = some k → w.heap.size ≤ k) from ⟨HF2, hK04, hown, fun k e => by have := hnew k e; have := HG.out.2.size; omega⟩)
        clear hK04 hK4 HF2 hown hnew
        go_wp2_with fail
        go_ret2
        exact ⟨_, HD.out.1, by rw [HH.out.1]; exact ⟨HH.out.2.1, v, rfl, HH.out.2.2.1, HH.out.2.2.2⟩⟩
end

end Go.Proofs.YtnjilcokkhodmaaGreatDoor

namespace Go.Proofs.YtnjilcokkhodmaaGreatDoor
open Go.RowKit Go.Shelf
set_option linter.unusedVariables false

def toldD (sy bi ba : Nat → Nat) (bs : List Nat) (l : Nat) : Option (List Nat) := if Tl.tailLen bs < l + l then none else turnsF sy bi ba bs 257 (strm bs 0 l) (strm bs l l) (l + l)
def tellD (bs : List Nat) : Option (List Int × Nat × Nat) → Option (List Nat)
 | none => none
 | some (xs, l, u) => if (bs.drop u)[(bs.drop u).length - 1]?.getD 0 = 0 then none else toldD (symF xs (2 ^ l)) (fun i => bitF l (xF xs (2 ^ l) i)) (fun i => baseF l (xF xs (2 ^ l) i)) (bs.drop u) l
theorem tellT_iff (bs : List Nat) (R : Option (List Int × Nat × Nat)) (M : List Nat) : tellT bs R = some M ↔ tellD bs R = some M ∧ M.length ≤ 255 := by
  cases R with
  | none => exact ⟨(fun h => by cases h), (fun h => by cases h.1)⟩
  | some r =>
    obtain ⟨xs, l, u⟩ := r
    unfold tellT tellD
    dsimp only
    by_cases h0 : (bs.drop u)[(bs.drop u).length - 1]?.getD 0 = 0
    · rw [if_pos h0, if_pos h0]
      exact ⟨(fun h => by cases h), (fun h => by cases h.1)⟩
    · rw [if_neg h0, if_neg h0]
      unfold toldT toldD
      by_cases h1 : Tl.tailLen (bs.drop u) < l + l
      · rw [if_pos h1, if_pos h1]
        exact ⟨(fun h => by cases h), (fun h => by cases h.1)⟩
      · rw [if_neg h1, if_neg h1]
        exact turnsF_more 3 254 _ _ _ M

section
attribute [local go_sem] sliceSem_eq
end

end Go.Proofs.YtnjilcokkhodmaaGreatDoor

namespace Go.Proofs.YtnjilcokkhodmaaGreatDoor
open Go.RowKit Go.Shelf
set_option linter.unusedVariables false

theorem readOf_tell (bs : List Nat) (R : Option (List Int × Nat × Nat)) : readOf (tellT bs R) = readOf (tellD bs R) := by
  cases hD : tellD bs R with
  | none =>
    cases hT : tellT bs R with
    | none => rfl
    | some M => have := ((tellT_iff bs R M).1 hT).1; rw [hD] at this; cases this
  | some M =>
    by_cases hl : M.length ≤ 255
    · rw [(tellT_iff bs R M).2 ⟨hD, hl⟩]
    · rw [readOf_no (whole_long M (by omega))]
      cases hT : tellT bs R with
      | none => rfl
      | some M' =>
        have h := (tellT_iff bs R M').1 hT
        rw [hD] at h
        have := h.2
        cases h.1
        omega

end Go.Proofs.YtnjilcokkhodmaaGreatDoor

namespace Go.Proofs.YtnjilcokkhodmaaGreatDoor
open Go.RowKit Go.Shelf
set_option linter.unusedVariables false

theorem turnsF_lt {sy bi ba : Nat → Nat} {bs : List Nat} {S : Nat} (hW : Within bi ba S) (hsy : ∀ i, i < S → sy i < 256) : ∀ (f own other q : Nat) (M : List Nat), own < S → other < S → turnsF sy bi ba bs f own other q = some M → ∀ x ∈ M, x < 256 := by
  intro f
  induction f with
  | zero => intro own other q M _ _ h; cases h
  | succ f ih =>
    intro own other q M h1 h2 h
    rw [turnsF_succ] at h
    split at h
    · cases h
      intro x hx
      simp only [List.mem_cons, List.not_mem_nil, or_false] at hx
      rcases hx with rfl | rfl
      · exact hsy _ h1
      · exact hsy _ h2
    · obtain ⟨M', h3, rfl⟩ := Option.map_eq_some_iff.1 h
      intro x hx
      rcases List.mem_cons.1 hx with rfl | hx
      · exact hsy _ h1
      · exact ih _ _ _ _ h2 (within_next hW bs q own h1) h3 x hx
theorem tellD_lt {ds : List Nat} {R : Option (List Int × Nat × Nat)} {M : List Nat} (hR : RdRel ds 6 11 R) (h : tellD ds R = some M) : ∀ j : Nat, M[j]?.getD 0 < 256 := by
  cases R with
  | none => cases h
  | some r =>
    obtain ⟨xs, l, u⟩ := r
    obtain ⟨ok, hI16, hxl, hxne, hub, hl6, hl5, hu1⟩ := hR.ok (by omega) (by omega)
    unfold tellD at h
    dsimp only at h
    split at h
    · cases h
    · unfold toldD at h
      split at h
      · cases h
      · exact lt256 (turnsF_lt (within_ok ok (by omega)) (fun i hi => symF_256 ok (by omega) i hi) _ _ _ _ _ (strm_lt _ _ _) (strm_lt _ _ _) h)

section
attribute [local go_sem] sliceSem_eq
end

end Go.Proofs.YtnjilcokkhodmaaGreatDoor

namespace Go.Proofs.YtnjilcokkhodmaaGreatDoor
open Go.RowKit Go.Shelf
set_option linter.unusedVariables false

def RAns (c u : Nat) (V : List Nat) (w : World) (e : Ending) (w' : World) : Prop :=
 Keep noBlock w w' ∧ ∃ a n cap, e = .returned (.tuple #[.slice a n cap, .int .i64 (u : Int), .int .i64 (c : Int)]) ∧ n = V.length ∧ w'.ownsRow 0 5 1 (.slice a n cap) n (u8s V) ∧ ∀ k, (Value.slice a n cap).ownBlock = some k → w.heap.size ≤ k
theorem rans_of {R : Option (List Nat)} {u : Nat} {w w' : World} {e : Ending} (h : ReadPost R u w e w') : RAns (if R = none then 11 else 0) (if R = none then 0 else u) (R.getD []) w e w' := by
  obtain ⟨hk, hm⟩ := h
  cases R with
  | none => exact ⟨hk, none, 0, 0, hm, rfl, World.ownsRow_nil _ _ _ _, fun k hk => by cases hk⟩
  | some ws =>
    obtain ⟨v, rfl, ho, hn⟩ := hm
    obtain ⟨a, cap, rfl⟩ := owns_form ho
    exact ⟨hk, a, _, cap, rfl, rfl, ho, hn⟩
theorem rans_short {w w' : World} {e : Ending} (h : e = .returned (.tuple #[.slice none 0 0, .int .i64 0, .int .i64 10]) ∧ w' = w) : RAns 10 0 [] w e w' := by
 obtain ⟨rfl, rfl⟩ := h
 exact ⟨Keep.refl _ _, none, 0, 0, rfl, rfl, World.ownsRow_nil _ _ _ _, fun k hk => by cases hk⟩

end Go.Proofs.YtnjilcokkhodmaaGreatDoor

namespace Go.Proofs.YtnjilcokkhodmaaGreatDoor
open Go.RowKit Go.Shelf
set_option linter.unusedVariables false

theorem readOf_code {Y : Option (List Nat)} {ws : List Nat} (h : readOf Y = some ws) : codeB ws = true := by
  cases Y with
  | none => cases h
  | some M =>
    cases hc : codeB (M ++ [lastW M]) with
    | false => rw [readOf_no hc] at h; cases h
    | true => rw [readOf_yes hc] at h; cases h; exact hc
theorem rb_ok (Y : Option (List Nat)) (u n : Nat) (hu : u ≤ n) : (if readOf Y = none then 11 else 0) = 0 → (if readOf Y = none then 0 else u) ≤ n ∧ codeB ((readOf Y).getD []) = true := by
 intro h
 cases hr : readOf Y with
 | none => rw [hr] at h; cases h
 | some ws => exact ⟨by rw [if_neg (by simp)]; exact hu, readOf_code hr⟩
theorem read_prog (bs : List Nat) : ∃ (c u : Nat) (V : List Nat), (c = 0 → u ≤ bs.length ∧ codeB V = true) ∧
  (∀ (a : Option Addr) (cap gb off : Nat) (w : World), Bytes w a cap gb off bs → Calls Tryz.prog 61 #[.slice a bs.length cap] w fun e w' => RAns c u V w e w') := by
 by_cases hs : bs.length < usedN (bs[0]?.getD 0)
 ·exact ⟨10, 0, [], (fun h => by cases h), fun a cap gb off w hB => (read_short a cap gb off bs w hB hs).mono fun e w' h => rans_short h⟩
 ·have hu : 1 ≤ usedN (bs[0]?.getD 0) := by unfold usedN; split <;> omega
  have hne : bs ≠ [] := by intro e; rw [e] at hs hu; exact hs hu
  have htl : (bs.take (usedN (bs[0]?.getD 0))).length = usedN (bs[0]?.getD 0) := by rw [List.length_take]; omega
  have ht0 : (bs.take (usedN (bs[0]?.getD 0)))[0]?.getD 0 = bs[0]?.getD 0 := by rw [List.getElem?_take, if_pos (by omega)]
  have htne : bs.take (usedN (bs[0]?.getD 0)) ≠ [] := by intro h; rw [h] at htl; simp at htl; omega
  by_cases h1 : bs[0]?.getD 0 ≤ 127
  ·have hue : usedN (bs[0]?.getD 0) = 1 + bs[0]?.getD 0 := if_pos h1
   obtain ⟨u, hu2⟩ : ∃ u, u = usedN (bs[0]?.getD 0) := ⟨_, rfl⟩
   rw [← hu2] at hs htl ht0 htne hue hu
   obtain ⟨R0, hR0⟩ : ∃ R0, ∀ R, RdRel ((bs.take u).drop 1) 6 11 R → R = R0 := by
    by_cases h : ∃ R, RdRel ((bs.take u).drop 1) 6 11 R
    ·obtain ⟨R, hR⟩ := h
     exact ⟨R, fun R' h' => h'.det hR⟩
    ·exact ⟨none, fun R' h' => absurd ⟨R', h'⟩ h⟩
   refine ⟨if readOf (tellD ((bs.take u).drop 1) R0) = none then 11 else 0, if readOf (tellD ((bs.take u).drop 1) R0) = none then 0 else u, (readOf (tellD ((bs.take u).drop 1) R0)).getD [], rb_ok _ u bs.length (by omega), fun a cap gb off w hB => ?_⟩
   by_cases hex : RdRel ((bs.take u).drop 1) 6 11 R0
   ·have hT := (tell_states a cap gb off (bs.take u) w (hB.take u (by omega)).2 htne (by rw [ht0]; exact h1) (by omega)).mono (fun e w' h => show TellPost (tellT ((bs.take u).drop 1) R0) w e w' from by
     obtain ⟨R, hR, h⟩ := h
     rw [hR0 R hR] at h
     exact h)
    have := read_told a cap gb off bs u _ w hB hne hu2 (by omega) hT (fun M hM => by
     have h := (tellT_iff _ _ _).1 hM
     exact ⟨h.2, tellD_lt hex h.1⟩)
    rw [readOf_tell] at this
    exact this.mono fun e w' h => rans_of h
   ·obtain ⟨e, w', fr, ⟨R, hR, -⟩, -⟩ := (tell_states a cap gb off (bs.take u) w (hB.take u (by omega)).2 htne (by rw [ht0]; exact h1) (by omega)) []
    rw [hR0 R hR] at hR
    exact absurd hR hex
  ·have hue : usedN (bs[0]?.getD 0) = 1 + (bs[0]?.getD 0 - 127 + 1) / 2 := if_neg h1
   obtain ⟨u, hu2⟩ : ∃ u, u = usedN (bs[0]?.getD 0) := ⟨_, rfl⟩
   rw [← hu2] at hs htl ht0 htne hue hu
   obtain ⟨n, hn⟩ : ∃ n, n = bs[0]?.getD 0 - 127 := ⟨_, rfl⟩
   rw [← hn] at hue
   have hfe : (List.range n).map (fourW ((bs.take u).drop 1)) = (List.range n).map (fourW (bs.drop 1)) := by
    refine List.map_congr_left fun k hk => ?_
    have hk' := List.mem_range.1 hk
    have : ((bs.take u).drop 1)[k / 2]? = (bs.drop 1)[k / 2]? := by rw [List.getElem?_drop, List.getElem?_drop, List.getElem?_take, if_pos (by omega)]
    unfold fourW
    rw [this]
   refine ⟨_, _, _, rb_ok (some ((List.range n).map (fourW (bs.drop 1)))) u bs.length (by omega), fun a cap gb off w hB => ?_⟩
   have hx := hB.lt 0
   have hT := tell_fours a cap gb off (bs.take u) n w (hB.take u (by omega)).2 htne (by rw [ht0]; omega) (by omega) (by omega)
   rw [hfe] at hT
   exact (read_told a cap gb off bs u _ w hB hne hu2 (by omega) hT (fun M hM => by
    cases hM
    refine ⟨by simp; omega, lt256 (fun b hb => ?_)⟩
    obtain ⟨j, -, rfl⟩ := List.mem_map.1 hb
    have := fourW_lt (bs.drop 1) j (lt_drop hB.lt 1)
    omega)).mono fun e w' h => rans_of h

theorem code_ok {V : List Nat} (h : codeB V = true) : V.length ≤ 256 ∧ ∀ j : Nat, V[j]?.getD 0 < 256 := by
 have hI := codeB_is h
 refine ⟨hI.len, fun j => ?_⟩
 by_cases hj : j < V.length
 ·have := hI.le j hj
  unfold wt at this
  omega
 ·rw [List.getElem?_eq_none (by omega)]; simp
end Go.Proofs.YtnjilcokkhodmaaGreatDoor

namespace Go.Proofs.YtnjilcokkhodmaaGreatDoor
open Go.RowKit Go.Shelf
set_option linter.unusedVariables false

def TAns (o : Option (List Nat × List Nat)) (w : World) (e : Ending) (w' : World) : Prop :=
 Keep noBlock w w' ∧ match o with
  | none => ∃ v1 v2, e = .returned (.tuple #[v1, v2, .bool false])
  | some p => ∃ a1 n1 c1 g1 o1 a2 n2 c2 g2 o2, e = .returned (.tuple #[.slice a1 n1 c1, .slice a2 n2 c2, .bool true]) ∧ n1 = p.1.length ∧ n2 = p.2.length ∧ Bytes w' a1 c1 g1 o1 p.1 ∧ Bytes w' a2 c2 g2 o2 p.2 ∧ w.heap.size ≤ g1 ∧ w.heap.size ≤ g2
def RdW (bs : List Nat) (c u : Nat) (V : List Nat) : Prop := ∀ (a : Option Addr) (cap gb off : Nat) (w : World), Bytes w a cap gb off bs → Calls Tryz.prog 61 #[.slice a bs.length cap] w fun e w' => RAns c u V w e w'

theorem unpL_ok {ws bs l : List Nat} {size n : Nat} (hs : size ≤ 131072) (hn1 : 1 ≤ n) (hn4 : n ≤ 4) (h : unpL ws bs size n = some l) : l.length ≤ 524304 ∧ ∀ j : Nat, l[j]?.getD 0 < 256 := by
  unfold unpL at h
  cases hc : cutL bs size n with
  | none => rw [hc] at h; cases h
  | some R =>
    rw [hc] at h
    have h2 : unpR ws R = some l := h
    have hR : R.length = n ∧ ∀ (i : Nat) x, R[i]? = some x → x.2 ≤ 131076 := by
      unfold cutL at hc
      split at hc
      · cases hc
      · split at hc
        · cases hc
          exact ⟨rowsN_length _ _ _ _ hn1, fun i x hx => by have := (rowsN_small hn1 hx).2; omega⟩
        · cases hc
    unfold unpR at h2
    split at h2
    · cases h2
      have e : R.flatMap (fun r => unpV ws r.1 (r.2 : Int)) = accR ws R n := by unfold accR; rw [List.take_of_length_le (by omega)]
      refine ⟨?_, lt256 fun b hb => ?_⟩
      · rw [e]
        refine Nat.le_trans (accR_len (B := 131076) hR.2 n) (Nat.le_trans (Nat.mul_le_mul_right _ hn4) (by decide))
      · obtain ⟨r, -, hb⟩ := List.mem_flatMap.1 hb
        exact lt_mem (unpV_lt ws r.1 (r.2 : Int)) b hb
    · cases h2

section
attribute [local go_sem] sliceSem_eq
set_option maxRecDepth 100000 in
set_option maxHeartbeats 1000000 in
theorem tell_raw (hb fr bt n size pk : Nat) (a : Option Addr) (cap gb off : Nat) (cs : List Nat) (a2 : Option Addr) (cap2 gb2 off2 : Nat) (ws : List Nat) (w : World) (hB : Bytes w a cap gb off cs) (hB2 : Bytes w a2 cap2 gb2 off2 ws) (hl : cs.length ≤ 1048576) (hl2 : ws.length ≤ 140737488355327) :
  Calls Tryz.prog 47 #[headV 0 hb fr bt n size pk, .slice a cs.length cap, .slice a2 ws.length cap2] w fun e w' => TAns (some (cs, ws)) w e w' := by
 unfold headV
 have HC := hid (show ∀ W, Keep noBlock w W → Calls Tryz.prog 59 #[.slice a cs.length cap] W fun e w' => Keep noBlock W w' ∧ ∃ a' n cap' g, e = .returned (.slice a' n cap') ∧ n = cs.length ∧ Bytes w' a' cap' g 0 cs ∧ W.heap.size ≤ g from fun W hW => cloneB_any a cap gb off cs W (hB.keep hW (fun _ h => h)) (by omega))
 have HD := hid (show ∀ W, Keep noBlock w W → Calls Tryz.prog 59 #[.slice a2 ws.length cap2] W fun e w' => Keep noBlock W w' ∧ ∃ a' n cap' g, e = .returned (.slice a' n cap') ∧ n = ws.length ∧ Bytes w' a' cap' g 0 ws ∧ W.heap.size ≤ g from fun W hW => cloneB_any a2 cap2 gb2 off2 ws W (hB2.keep hW (fun _ h => h)) hl2)
 obtain ⟨L, hL⟩ : ∃ L, L = cs.length := ⟨_, rfl⟩
 obtain ⟨Lw, hLw⟩ : ∃ Lw, Lw = ws.length := ⟨_, rfl⟩
 rw [← hL] at HC ⊢
 rw [← hLw] at HD ⊢
 have HL := hid (show L = cs.length ∧ Lw = ws.length from ⟨hL, hLw⟩)
 have hKa := (Keep.refl noBlock w).alloc (.cells #[.int .i64 0, .int .i64 (hb : Int), .int .i64 (fr : Int), .int .i64 (bt : Int), .int .i64 (n : Int), .int .i64 (size : Int), .int .i64 (pk : Int)] 91)
 have HK := hid hKa
 clear hB hB2 hl hl2 hL hLw hKa
 go_enter Tryz.func47, Tryz.ntmps47
 go_wp2_with fail
 refine (HC.out _ HK.out).mono ?_
 rintro e w1 ⟨hk1, a3, n3, c3, g3, rfl, hn3, hB3, hg3⟩
 have H1 := hid (show Keep noBlock w w1 ∧ n3 = cs.length ∧ Bytes w1 a3 c3 g3 0 cs from ⟨HK.out.trans' hk1, hn3.trans HL.out.1, hB3⟩)
 have HG3 := hid (Nat.le_trans HK.out.size hg3)
 clear hk1 hn3 hB3 hg3
 go_wp2_with fail
 refine (HD.out _ H1.out.1).mono ?_
 rintro e w2 ⟨hk2, a4, n4, c4, g4, rfl, hn4, hB4, hg4⟩
 have HG4 := hid (Nat.le_trans H1.out.1.size hg4)
 have H2 := hid (show Keep noBlock w w2 ∧ n4 = ws.length ∧ Bytes w2 a4 c4 g4 0 ws ∧ Bytes w2 a3 c3 g3 0 cs from ⟨H1.out.1.trans' hk2, hn4.trans HL.out.2, hB4, H1.out.2.2.keep hk2 (fun _ h => h)⟩)
 clear hk2 hn4 hB4 hg4
 go_wp2_with fail
 (try simp only [Exit.inBlock, Exit.then])
 refine bodyPost_ret (v := .tuple #[.slice a3 n3 c3, .slice a4 n4 c4, .bool true]) (by simp [results, Tryz.results47, go_sem]) rfl ⟨H2.out.1, a3, n3, c3, g3, 0, a4, n4, c4, g4, 0, rfl, H1.out.2.1, H2.out.2.1, H2.out.2.2.2, H2.out.2.2.1, HG3.out, HG4.out⟩

set_option maxRecDepth 100000 in
set_option maxHeartbeats 1000000 in
theorem repeat_zero (a : Option Addr) (cap : Nat) (w : World) :
  Calls Tryz.prog 14 #[.slice a 1 cap, .int .i64 0] w fun e w' => Keep noBlock w w' ∧ ∃ a' cap' g, e = .returned (.slice a' 0 cap') ∧ Bytes w' a' cap' g 0 [] ∧ w.heap.size ≤ g := by
 go_enter Tryz.func14, Tryz.ntmps14
 go_wp2
 go_ret
 exact ⟨(Keep.refl _ w).alloc _, some ⟨w.heap.size, 0, none⟩, 0, w.heap.size, rfl, ⟨.inl rfl, (fun e => by cases e), fun j hj => by simp at hj, fun j => by simp, Nat.le_refl _, by decide⟩, Nat.le_refl _⟩
theorem repeat_all (a : Option Addr) (cap gb off x s : Nat) (w : World) (hB : Bytes w a cap gb off [x]) (hs : s ≤ 131072) :
  Calls Tryz.prog 14 #[.slice a 1 cap, .int .i64 (s : Int)] w fun e w' => Keep noBlock w w' ∧ ∃ a' cap' g, e = .returned (.slice a' s cap') ∧ Bytes w' a' cap' g 0 (List.replicate s x) ∧ w.heap.size ≤ g := by
 by_cases h0 : s = 0
 ·subst h0
  exact repeat_zero a cap w
 ·exact repeat_any a cap gb off x s w hB (by omega) hs

set_option maxRecDepth 100000 in
set_option maxHeartbeats 1000000 in
theorem tell_one (hb fr bt n size pk : Nat) (a : Option Addr) (cap gb off x : Nat) (a2 : Option Addr) (cap2 gb2 off2 : Nat) (ws : List Nat) (w : World) (hB : Bytes w a cap gb off [x]) (hB2 : Bytes w a2 cap2 gb2 off2 ws) (hs : size ≤ 131072) (hl2 : ws.length ≤ 140737488355327) :
  Calls Tryz.prog 47 #[headV 1 hb fr bt n size pk, .slice a 1 cap, .slice a2 ws.length cap2] w fun e w' => TAns (some (List.replicate size x, ws)) w e w' := by
 unfold headV
 have HC := hid (show ∀ W, Keep noBlock w W → Calls Tryz.prog 14 #[.slice a 1 cap, .int .i64 (size : Int)] W fun e w' => Keep noBlock W w' ∧ ∃ a' cap' g, e = .returned (.slice a' size cap') ∧ Bytes w' a' cap' g 0 (List.replicate size x) ∧ W.heap.size ≤ g from fun W hW => repeat_all a cap gb off x size W (hB.keep hW (fun _ h => h)) hs)
 have HD := hid (show ∀ W, Keep noBlock w W → Calls Tryz.prog 59 #[.slice a2 ws.length cap2] W fun e w' => Keep noBlock W w' ∧ ∃ a' n cap' g, e = .returned (.slice a' n cap') ∧ n = ws.length ∧ Bytes w' a' cap' g 0 ws ∧ W.heap.size ≤ g from fun W hW => cloneB_any a2 cap2 gb2 off2 ws W (hB2.keep hW (fun _ h => h)) hl2)
 obtain ⟨Lw, hLw⟩ : ∃ Lw, Lw = ws.length := ⟨_, rfl⟩
 rw [← hLw] at HD ⊢
 have HLw := hid hLw
 have hKa := (Keep.refl noBlock w).alloc (.cells #[.int .i64 1, .int .i64 (hb : Int), .int .i64 (fr : Int), .int .i64 (bt : Int), .int .i64 (n : Int), .int .i64 (size : Int), .int .i64 (pk : Int)] 91)
 have HK := hid hKa
 clear hB hB2 hs hl2 hLw hKa
 go_enter Tryz.func47, Tryz.ntmps47
 go_wp2_with fail
 refine (HC.out _ HK.out).mono ?_
 rintro e w1 ⟨hk1, a3, c3, g3, rfl, hB3, hg3⟩
 have HG3 := hid (Nat.le_trans HK.out.size hg3)
 have H1 := hid (show Keep noBlock w w1 ∧ Bytes w1 a3 c3 g3 0 (List.replicate size x) from ⟨HK.out.trans' hk1, hB3⟩)
 clear hk1 hB3 hg3
 go_wp2_with fail
 refine (HD.out _ H1.out.1).mono ?_
 rintro e w2 ⟨hk2, a4, n4, c4, g4, rfl, hn4, hB4, hg4⟩
 have HG4 := hid (Nat.le_trans H1.out.1.size hg4)
 have H2 := hid (show Keep noBlock w w2 ∧ n4 = ws.length ∧ Bytes w2 a4 c4 g4 0 ws ∧ Bytes w2 a3 c3 g3 0 (List.replicate size x) from ⟨H1.out.1.trans' hk2, hn4.trans HLw.out, hB4, H1.out.2.keep hk2 (fun _ h => h)⟩)
 clear hk2 hn4 hB4 hg4
 go_wp2_with fail
 (try simp only [Exit.inBlock, Exit.then])
 refine bodyPost_ret (v := .tuple #[.slice a3 size c3, .slice a4 n4 c4, .bool true]) (by simp [results, Tryz.results47, go_sem]) rfl ⟨H2.out.1, a3, size, c3, g3, 0, a4, n4, c4, g4, 0, rfl, by simp, H2.out.2.1, H2.out.2.2.2, H2.out.2.2.1, HG3.out, HG4.out⟩

set_option maxRecDepth 100000 in
set_option maxHeartbeats 1000000 in
theorem tell_ahead (hb fr bt n size pk : Nat) (a : Option Addr) (cap gb off : Nat) (cs : List Nat) (a2 : Option Addr) (cap2 gb2 off2 : Nat) (ws : List Nat) (w : World) (hB : Bytes w a cap gb off cs) (hB2 : Bytes w a2 cap2 gb2 off2 ws) (hs : size ≤ 131072) (hl : cs.length ≤ 1048576) (hl2 : ws.length ≤ 140737488355327) (hn1 : 1 ≤ n) (hn4 : n ≤ 4) :
    Calls Tryz.prog 47 #[headV 3 hb fr bt n size pk, .slice a cs.length cap, .slice a2 ws.length cap2] w fun e w' => TAns ((unpL ws cs size n).map (fun l => (l, ws))) w e w' := by
  have HC := hid (show ∀ W, Keep noBlock w W → Calls Tryz.prog 60 #[headV 3 hb fr bt n size pk, .slice a cs.length cap, .slice a2 ws.length cap2] W fun e w' => UAns (unpL ws cs size n) W e w' from fun W hW => unpack_lit 3 hb fr bt size n pk a cap gb off cs a2 cap2 gb2 off2 ws W (hB.keep hW (fun _ h => h)) (hB2.keep hW (fun _ h => h)) hs hn1 hn4 hl)
  have HD := hid (show ∀ W, Keep noBlock w W → Calls Tryz.prog 59 #[.slice a2 ws.length cap2] W fun e w' => Keep noBlock W w' ∧ ∃ a' n cap' g, e = .returned (.slice a' n cap') ∧ n = ws.length ∧ Bytes w' a' cap' g 0 ws ∧ W.heap.size ≤ g from fun W hW => cloneB_any a2 cap2 gb2 off2 ws W (hB2.keep hW (fun _ h => h)) hl2)
  have hsz := fun l => unpL_ok (ws := ws) (bs := cs) (l := l) hs hn1 hn4
  unfold headV at HC ⊢
  obtain ⟨L, hL⟩ : ∃ L, L = cs.length := ⟨_, rfl⟩
  obtain ⟨Lw, hLw⟩ : ∃ Lw, Lw = ws.length := ⟨_, rfl⟩
  rw [← hL, ← hLw] at HC ⊢
  rw [← hLw] at HD
  have HLw := hid hLw
  have hKa := (Keep.refl noBlock w).alloc (.cells #[.int .i64 3, .int .i64 (hb : Int), .int .i64 (fr : Int), .int .i64 (bt : Int), .int .i64 (n : Int), .int .i64 (size : Int), .int .i64 (pk : Int)] 91)
  have HK := hid hKa
  have HZ := hid hsz
  clear hB hB2 hs hl hl2 hL hLw hKa hsz
  go_enter Tryz.func47, Tryz.ntmps47
  go_wp2_with fail
  refine (HC.out _ HK.out).mono ?_
  rintro e w1 ⟨hk1, hm⟩
  cases hu : unpL ws cs size n with
  | none =>
    rw [hu] at hm
    subst hm
    have HK1 := hid (HK.out.trans' hk1)
    have HUu := hid hu
    clear hk1 hu
    go_wp2_with fail
    refine (HD.out _ HK1.out).mono ?_
    rintro e w2 ⟨hk2, a4, n4, c4, g4, rfl, hn4, hB4, -⟩
    have HK2 := hid (HK1.out.trans' hk2)
    clear hk2 hn4 hB4
    go_wp2_with fail
    (try simp only [Exit.inBlock, Exit.then])
    refine bodyPost_ret (v := .tuple #[.slice none 0 0, .slice a4 n4 c4, .bool false]) (by simp [results, Tryz.results47, go_sem]) rfl (show TAns _ _ _ _ from by rw [HUu.out]; exact ⟨HK2.out, _, _, rfl⟩)
  | some l =>
    rw [hu] at hm
    obtain ⟨v, rfl, ho, hnw⟩ := hm
    have hz := HZ.out l hu
    obtain ⟨a3, c3, g3, rfl, hB3, hg3⟩ := owns_bytesN (M := l) ho hz.2 (by omega) hnw
    have HG3 := hid (Nat.le_trans HK.out.size hg3)
    obtain ⟨L3, hL3⟩ : ∃ L3, L3 = l.length := ⟨_, rfl⟩
    rw [← hL3]
    have H1 := hid (show Keep noBlock w w1 ∧ L3 = l.length ∧ Bytes w1 a3 c3 g3 0 l from ⟨HK.out.trans' hk1, hL3, hB3⟩)
    have HUu := hid hu
    clear hk1 ho hz hB3 hL3 hu hg3 hnw
    go_wp2_with fail
    refine (HD.out _ H1.out.1).mono ?_
    rintro e w2 ⟨hk2, a4, n4, c4, g4, rfl, hn4, hB4, hg4⟩
    have HG4 := hid (Nat.le_trans H1.out.1.size hg4)
    have H2 := hid (show Keep noBlock w w2 ∧ n4 = ws.length ∧ Bytes w2 a4 c4 g4 0 ws ∧ Bytes w2 a3 c3 g3 0 l from ⟨H1.out.1.trans' hk2, hn4.trans HLw.out, hB4, H1.out.2.2.keep hk2 (fun _ h => h)⟩)
    clear hk2 hn4 hB4 hg4
    go_wp2_with fail
    (try simp only [Exit.inBlock, Exit.then])
    refine bodyPost_ret (v := .tuple #[.slice a3 L3 c3, .slice a4 n4 c4, .bool true]) (by simp [results, Tryz.results47, go_sem]) rfl (show TAns _ _ _ _ from by rw [HUu.out]; exact ⟨H2.out.1, a3, L3, c3, g3, 0, a4, n4, c4, g4, 0, rfl, H1.out.2.1, H2.out.2.1, H2.out.2.2.2, H2.out.2.2.1, HG3.out, HG4.out⟩)

set_option maxRecDepth 100000 in
set_option maxHeartbeats 1000000 in
theorem tell_anew (hb fr bt n size pk : Nat) (a : Option Addr) (cap gb off : Nat) (cs : List Nat) (a2 : Option Addr) (cap2 gb2 off2 : Nat) (ws : List Nat) (c u : Nat) (V : List Nat) (w : World) (hB : Bytes w a cap gb off cs) (hs : size ≤ 131072) (hl : cs.length ≤ 1048576) (hn1 : 1 ≤ n) (hn4 : n ≤ 4)
    (hR : RdW cs c u V) (hc : c = 0 → u ≤ cs.length ∧ V.length ≤ 256 ∧ ∀ j : Nat, V[j]?.getD 0 < 256) :
    Calls Tryz.prog 47 #[headV 2 hb fr bt n size pk, .slice a cs.length cap, .slice a2 ws.length cap2] w fun e w' => TAns (if c = 0 then (unpL V (cs.drop u) size n).map (fun l => (l, V)) else none) w e w' := by
  have HR := hid (show ∀ W, Keep noBlock w W → Calls Tryz.prog 61 #[.slice a cs.length cap] W fun e w' => RAns c u V W e w' from fun W hW => hR a cap gb off W (hB.keep hW (fun _ h => h)))
  have HB := hid (show ∀ W, Keep noBlock w W → Bytes W a cap gb off cs from fun W hW => hB.keep hW (fun _ h => h))
  have hKa := (Keep.refl noBlock w).alloc (.cells #[.int .i64 2, .int .i64 (hb : Int), .int .i64 (fr : Int), .int .i64 (bt : Int), .int .i64 (n : Int), .int .i64 (size : Int), .int .i64 (pk : Int)] 91)
  have hKo := World.alloc_heap_new w (.cells #[.int .i64 2, .int .i64 (hb : Int), .int .i64 (fr : Int), .int .i64 (bt : Int), .int .i64 (n : Int), .int .i64 (size : Int), .int .i64 (pk : Int)] 91)
  have HK := hid (And.intro hKa hKo)
  have HS := hid (show size ≤ 131072 ∧ cs.length ≤ 1048576 ∧ 1 ≤ n ∧ n ≤ 4 from ⟨hs, hl, hn1, hn4⟩)
  unfold headV
  obtain ⟨L, hL⟩ : ∃ L, L = cs.length := ⟨_, rfl⟩
  rw [← hL] at HR ⊢
  have HL := hid hL
  generalize ws.length = Lw at *
  clear hB hs hl hL hKa hKo hn1 hn4 hR
  by_cases h0 : c = 0
  · subst h0
    rw [if_pos rfl]
    have HC := hid (hc rfl)
    clear hc
    go_enter Tryz.func47, Tryz.ntmps47
    go_wp2_with fail
    refine (HR.out _ HK.out.1).mono ?_
    rintro e w1 ⟨hk1, a3, n3, c3, rfl, hn3, ho3, hnw3⟩
    obtain ⟨hu, hV1, hV2⟩ := HC.out
    obtain ⟨hs, hl, hn1, hn4⟩ := HS.out
    have hkw := HK.out.1.trans' hk1
    have hob := hk1.obj HK.out.2 (fun h => h)
    have c0 : w1.cell? ⟨w.heap.size, 0, none⟩ = some (.int .i64 2) := cell_of hob 0
    have c1 : w1.cell? ⟨w.heap.size, 1, none⟩ = some (.int .i64 (hb : Int)) := cell_of hob 1
    have c2 : w1.cell? ⟨w.heap.size, 2, none⟩ = some (.int .i64 (fr : Int)) := cell_of hob 2
    have c3' : w1.cell? ⟨w.heap.size, 3, none⟩ = some (.int .i64 (bt : Int)) := cell_of hob 3
    have c4 : w1.cell? ⟨w.heap.size, 4, none⟩ = some (.int .i64 (n : Int)) := cell_of hob 4
    have c5 : w1.cell? ⟨w.heap.size, 5, none⟩ = some (.int .i64 (size : Int)) := cell_of hob 5
    have c6 : w1.cell? ⟨w.heap.size, 6, none⟩ = some (.int .i64 (pk : Int)) := cell_of hob 6
    have hB1 := HB.out w1 hkw
    obtain ⟨ad, od, hd, hBd, -⟩ := hB1.drop u hu
    obtain ⟨Ld, hLd⟩ : ∃ Ld, Ld = (cs.drop u).length := ⟨_, rfl⟩
    have hLdb : Ld ≤ 1048576 := by rw [hLd, List.length_drop]; omega
    subst hn3
    obtain ⟨a3', c3e, g3, hve, hB3, hg3⟩ := owns_bytesN (M := V) ho3 hV2 (by omega) hnw3
    cases hve
    have HG3 := hid (Nat.le_trans HK.out.1.size hg3)
    have hcall := fun (W : World) (hW : Keep noBlock w1 W) => unpack_lit 2 hb fr bt size n pk ad (cap - u) gb od (cs.drop u) a3 c3 g3 0 V W (hBd.keep (w' := W) hW (fun _ h => h)) (hB3.keep (w' := W) hW (fun _ h => h)) hs hn1 hn4 (by omega)
    obtain ⟨n3, hn3⟩ : ∃ n3, n3 = V.length := ⟨_, rfl⟩
    rw [← hLd, ← hn3] at hcall
    rw [← hLd, ← HL.out] at hd
    rw [← hn3]
    have H1 := hid (show Keep noBlock w w1 ∧ n3 = V.length ∧ Bytes w1 a3 c3 g3 0 V from ⟨hkw, hn3, hB3⟩)
    have huI : (0 : Int) ≤ (u : Int) := by omega
    have hZ := fun l => unpL_ok (ws := V) (bs := cs.drop u) (l := l) hs hn1 hn4
    have HZ := hid hZ
    obtain ⟨xb, hxb⟩ : ∃ xb, xb = w.heap.size := ⟨_, rfl⟩
    rw [← hxb] at c0 c1 c2 c3' c4 c5 c6 ⊢
    clear hk1 ho3 hu hV1 hV2 hs hl hn1 hn4 hkw hob hB1 hBd hLd hLdb hB3 hn3 hZ hxb hg3 hnw3
    rw [show ((0 : Nat) : Int) = (0 : Int) from rfl]
    cases hu : unpL V (cs.drop u) size n with
    | none =>
      have HCA := hid (show ∀ W, Keep noBlock w1 W → Calls Tryz.prog 60 #[.agg #[.int .i64 2, .int .i64 (hb : Int), .int .i64 (fr : Int), .int .i64 (bt : Int), .int .i64 (n : Int), .int .i64 (size : Int), .int .i64 (pk : Int)], .slice ad Ld (cap - u), .slice a3 n3 c3] W fun e w' => Keep noBlock W w' ∧ e = .returned (.tuple #[.slice none 0 0, .bool false]) from fun W hW => (hcall W hW).mono fun e w' h => by rw [hu] at h; exact h)
      have HUu := hid hu
      clear hu hcall
      go_wp2_with fail
      go_region_held3 (fun W => W.cell? ⟨xb, 0, none⟩ = some (.int .i64 2) ∧ W.cell? ⟨xb, 1, none⟩ = some (.int .i64 (hb : Int)) ∧ W.cell? ⟨xb, 2, none⟩ = some (.int .i64 (fr : Int)) ∧ W.cell? ⟨xb, 3, none⟩ = some (.int .i64 (bt : Int)) ∧ W.cell? ⟨xb, 4, none⟩ = some (.int .i64 (n : Int)) ∧ W.cell? ⟨xb, 5, none⟩ = some (.int .i64 (size : Int)) ∧ W.cell? ⟨xb, 6, none⟩ = some (.int .i64 (pk : Int))) (first | go_keep | assumption) ((first | (go_at_call 60; refine (HCA.out _ ((Keep.refl _ _).drew)).mono ?_; rintro e w2 ⟨hk2, rfl⟩; have k0 := keep_cell0 hk2 (show w1.drew.cell? ⟨xb, 0, none⟩ = _ from c0); have k1 := keep_cell0 hk2 (show w1.drew.cell? ⟨xb, 1, none⟩ = _ from c1); have k2 := keep_cell0 hk2 (show w1.drew.cell? ⟨xb, 2, none⟩ = _ from c2); have k3 := keep_cell0 hk2 (show w1.drew.cell? ⟨xb, 3, none⟩ = _ from c3'); have k4 := keep_cell0 hk2 (show w1.drew.cell? ⟨xb, 4, none⟩ = _ from c4); have k5 := keep_cell0 hk2 (show w1.drew.cell? ⟨xb, 5, none⟩ = _ from c5); have k6 := keep_cell0 hk2 (show w1.drew.cell? ⟨xb, 6, none⟩ = _ from c6))))
      have HK1 := hid ((H1.out.1.drew).trans' hk2)
      clear hk2
      go_wp2_with fail
      (try simp only [Exit.inBlock, Exit.then])
      refine bodyPost_ret (v := .tuple #[.slice none 0 0, .slice a3 n3 c3, .bool false]) (by simp [results, Tryz.results47, go_sem]) rfl (show TAns _ _ _ _ from by rw [HUu.out]; exact ⟨HK1.out, _, _, rfl⟩)
    | some l =>
      have hz := HZ.out l hu
      obtain ⟨L3, hL3⟩ : ∃ L3, L3 = l.length := ⟨_, rfl⟩
      have HCA := hid (show ∀ W, Keep noBlock w1 W → Calls Tryz.prog 60 #[.agg #[.int .i64 2, .int .i64 (hb : Int), .int .i64 (fr : Int), .int .i64 (bt : Int), .int .i64 (n : Int), .int .i64 (size : Int), .int .i64 (pk : Int)], .slice ad Ld (cap - u), .slice a3 n3 c3] W fun e w' => Keep noBlock W w' ∧ ∃ a5 c5 g5, e = .returned (.tuple #[.slice a5 L3 c5, .bool true]) ∧ Bytes w' a5 c5 g5 0 l ∧ W.heap.size ≤ g5 from fun W hW => (hcall W hW).mono fun e w' h => by
        rw [hu] at h
        obtain ⟨hk, v, he, ho, hnw⟩ := h
        obtain ⟨a5, c5, g5, hv, hB5, hg5⟩ := owns_bytesN (M := l) ho hz.2 (by omega) hnw
        rw [hv] at he
        rw [hL3]
        exact ⟨hk, a5, c5, g5, he, hB5, hg5⟩)
      have HUu := hid hu
      have HL3 := hid hL3
      clear hu hcall hz hL3
      go_wp2_with fail
      go_region_held3 (fun W => W.cell? ⟨xb, 0, none⟩ = some (.int .i64 2) ∧ W.cell? ⟨xb, 1, none⟩ = some (.int .i64 (hb : Int)) ∧ W.cell? ⟨xb, 2, none⟩ = some (.int .i64 (fr : Int)) ∧ W.cell? ⟨xb, 3, none⟩ = some (.int .i64 (bt : Int)) ∧ W.cell? ⟨xb, 4, none⟩ = some (.int .i64 (n : Int)) ∧ W.cell? ⟨xb, 5, none⟩ = some (.int .i64 (size : Int)) ∧ W.cell? ⟨xb, 6, none⟩ = some (.int .i64 (pk : Int))) (first | go_keep | assumption) ((first | (go_at_call 60; refine (HCA.out _ ((Keep.refl _ _).drew)).mono ?_; rintro e w2 ⟨hk2, a5, c5', g5, rfl, hB5, hg5⟩; have k0 := keep_cell0 hk2 (show w1.drew.cell? ⟨xb, 0, none⟩ = _ from c0); have k1 := keep_cell0 hk2 (show w1.drew.cell? ⟨xb, 1, none⟩ = _ from c1); have k2 := keep_cell0 hk2 (show w1.drew.cell? ⟨xb, 2, none⟩ = _ from c2); have k3 := keep_cell0 hk2 (show w1.drew.cell? ⟨xb, 3, none⟩ = _ from c3'); have k4 := keep_cell0 hk2 (show w1.drew.cell? ⟨xb, 4, none⟩ = _ from c4); have k5 := keep_cell0 hk2 (show w1.drew.cell? ⟨xb, 5, none⟩ = _ from c5); have k6 := keep_cell0 hk2 (show w1.drew.cell? ⟨xb, 6, none⟩ = _ from c6))))
      have H2 := hid (show Keep noBlock w w2 ∧ L3 = l.length ∧ Bytes w2 a5 c5' g5 0 l ∧ Bytes w2 a3 c3 g3 0 V from ⟨(H1.out.1.drew).trans' hk2, HL3.out, hB5, (H1.out.2.2.keep ((Keep.refl noBlock _).drew) (fun _ h => h)).keep hk2 (fun _ h => h)⟩)
      have HG5 := hid (Nat.le_trans H1.out.1.size (show w1.heap.size ≤ g5 from hg5))
      clear hk2 hB5 hg5
      go_wp2_with fail
      (try simp only [Exit.inBlock, Exit.then])
      refine bodyPost_ret (v := .tuple #[.slice a5 L3 c5', .slice a3 n3 c3, .bool true]) (by simp [results, Tryz.results47, go_sem]) rfl (show TAns _ _ _ _ from by rw [HUu.out]; exact ⟨H2.out.1, a5, L3, c5', g5, 0, a3, n3, c3, g3, 0, rfl, H2.out.2.1, H1.out.2.1, H2.out.2.2.1, H2.out.2.2.2, HG5.out, HG3.out⟩)
  · rw [if_neg h0]
    have hcb : ((c : Int) != 0) = true := by simp; omega
    clear hc h0
    go_enter Tryz.func47, Tryz.ntmps47
    go_wp2_with fail
    refine (HR.out _ HK.out.1).mono ?_
    rintro e w1 ⟨hk1, a3, n3, c3, rfl, hn3, ho3, -⟩
    have HK1 := hid (HK.out.1.trans' hk1)
    clear hk1 hn3 ho3
    go_wp2_with fail
    (try simp only [Exit.inBlock, Exit.then])
    refine bodyPost_ret (v := .tuple #[.slice none 0 0, .slice none 0 0, .bool false]) (by simp [results, Tryz.results47, go_sem]) rfl ⟨HK1.out, _, _, rfl⟩
end
end Go.Proofs.YtnjilcokkhodmaaGreatDoor

namespace Go.Proofs.YtnjilcokkhodmaaGreatDoor
open Go.RowKit Go.Shelf
set_option linter.unusedVariables false

def LAns (r : Nat × List Nat × List Nat × Nat) (w : World) (e : Ending) (w' : World) : Prop :=
 Keep noBlock w w' ∧ ∃ a1 n1 c1 g1 o1 a2 n2 c2 g2 o2, e = .returned (.tuple #[.slice a1 n1 c1, .slice a2 n2 c2, .int .i64 (r.2.2.2 : Int), .int .i64 (r.1 : Int)]) ∧ n1 = r.2.1.length ∧ n2 = r.2.2.1.length ∧ Bytes w' a1 c1 g1 o1 r.2.1 ∧ Bytes w' a2 c2 g2 o2 r.2.2.1 ∧ w.heap.size ≤ g1 ∧ w.heap.size ≤ g2
theorem bytes_none (w : World) (g : Nat) : Bytes w none 0 g 0 [] := ⟨.inr rfl, fun _ => rfl, fun j hj => by simp at hj, fun j => by simp, Nat.le_refl _, by decide⟩
theorem lans_none {c : Nat} {w w' : World} (hk : Keep noBlock w w') : LAns (c, [], [], 0) w (.returned (.tuple #[.slice none 0 0, .slice none 0 0, .int .i64 0, .int .i64 (c : Int)])) w' :=
 ⟨hk, none, 0, 0, w.heap.size, 0, none, 0, 0, w.heap.size, 0, rfl, rfl, rfl, bytes_none _ _, bytes_none _ _, Nat.le_refl _, Nat.le_refl _⟩

theorem run_cut3 (a : Option Addr) (len cap lo hi : Nat) (h0 : lo ≤ hi) (h1 : hi ≤ len) (h2 : len ≤ cap) (w : World) :
  (sliceSem 22 (.slice a len cap) (some (.int .i64 (lo : Int))) (some (.int .i64 (hi : Int))) (some (.int .i64 (hi : Int)))).run Tryz.prog w = .ok (.slice (if hi = lo then a else a.map (fun x => x.add lo)) (hi - lo) (hi - lo)) w := by
 obtain ⟨i0, hi', hz0, hz1, hz2⟩ := info_parts info5
 have h3 : hi ≤ cap := by omega
 simp [sliceSem, Instr.slice, run_underlying Tryz.underlying22, Instr.sliceBounds, Instr.sliceBound, asIntOf, h0, h3, sizeOf, typeInfo, hi', hz1]
theorem Bytes.cut3 {w : World} {a : Option Addr} {cap gb off : Nat} {bs : List Nat} (h : Bytes w a cap gb off bs) (lo hi : Nat) (h0 : lo ≤ hi) (h1 : hi ≤ bs.length) :
  ∃ a' off', (∀ W, (sliceSem 22 (.slice a bs.length cap) (some (.int .i64 (lo : Int))) (some (.int .i64 (hi : Int))) (some (.int .i64 (hi : Int)))).run Tryz.prog W = .ok (.slice a' (hi - lo) (hi - lo)) W) ∧ Bytes w a' (hi - lo) gb off' ((bs.take hi).drop lo) := by
 have hc := h.cap
 have hl := h.len
 have hlen : ((bs.take hi).drop lo).length = hi - lo := by rw [List.length_drop, List.length_take]; omega
 refine ⟨if hi = lo then a else a.map (fun x => x.add lo), off + lo, fun W => run_cut3 a bs.length cap lo hi h0 h1 hc W, ⟨?_, ?_, ?_, lt_drop (lt_take h.lt hi) lo, by omega, by omega⟩⟩
 ·by_cases e : hi = lo
  ·right; exact List.length_eq_zero_iff.1 (by omega)
  ·rcases h.at_ with q | q
   ·left; rw [if_neg e, q]; simp [addO]
   ·rw [q] at h1; simp at h1; omega
 ·intro e
  by_cases e2 : hi = lo
  ·omega
  ·rw [if_neg e2, Option.map_eq_none_iff] at e
   have := h.nil e
   omega
 ·intro j hj
  rw [hlen] at hj
  rw [List.getElem?_drop, List.getElem?_take, if_pos (by omega), Nat.add_assoc]
  exact h.cells (lo + j) (by omega)

set_option maxRecDepth 100000 in
set_option maxHeartbeats 1000000 in
theorem readHead_nil (a : Option Addr) (cap : Nat) (w : World) : Calls Tryz.prog 45 #[.slice a 0 cap] w fun e w' => Keep noBlock w w' ∧ e = .returned (.tuple #[headV 0 0 0 0 0 0 0, .bool false]) := by
 go_enter Tryz.func45, Tryz.ntmps45
 go_wp2
 refine bodyPost_ret (resH rfl rfl (World.alloc_heap_new w _) rfl) rfl ⟨(Keep.refl _ w).alloc _, rfl⟩

section
attribute [local go_sem] sliceSem_eq
set_option maxRecDepth 100000 in
set_option maxHeartbeats 1000000 in
theorem readL_arg (a : Option Addr) (n cap : Nat) (a2 : Option Addr) (n2 cap2 : Nat) (most : Int) (w : World) (h : most < 0 ∨ 131072 < most) :
  Calls Tryz.prog 31 #[.slice a n cap, .slice a2 n2 cap2, .int .i64 most] w fun e w' => LAns (2, [], [], 0) w e w' := by
 by_cases h0 : most < 0
 ·go_enter Tryz.func31, Tryz.ntmps31
  go_wp2
  refine bodyPost_ret (v := .tuple #[.slice none 0 0, .slice none 0 0, .int .i64 0, .int .i64 2]) (by simp [results, Tryz.results31, go_sem]) rfl (lans_none (Keep.refl _ _))
 ·have h1 : 131072 < most := by omega
  go_enter Tryz.func31, Tryz.ntmps31
  go_wp2
  all_goals refine bodyPost_ret (v := .tuple #[.slice none 0 0, .slice none 0 0, .int .i64 0, .int .i64 2]) (by simp [results, Tryz.results31, go_sem]) rfl (lans_none (Keep.refl _ _))

set_option maxRecDepth 100000 in
set_option maxHeartbeats 1000000 in
theorem readL_short (a : Option Addr) (n cap : Nat) (a2 : Option Addr) (n2 cap2 : Nat) (most : Int) (w : World) (h0 : 0 ≤ most) (h1 : most ≤ 131072)
  (hc : Calls Tryz.prog 45 #[.slice a n cap] w fun e w' => Keep noBlock w w' ∧ e = .returned (.tuple #[headV 0 0 0 0 0 0 0, .bool false])) :
  Calls Tryz.prog 31 #[.slice a n cap, .slice a2 n2 cap2, .int .i64 most] w fun e w' => LAns (10, [], [], 0) w e w' := by
 have HC := hid hc
 have g0 : ¬ most < 0 := by omega
 have g1 : ¬ 131072 < most := by omega
 clear hc
 unfold headV at HC
 go_enter Tryz.func31, Tryz.ntmps31
 go_wp2_with (go_at_call 45; refine HC.out.mono ?_; rintro e w1 ⟨hk1, rfl⟩)
 refine bodyPost_ret (v := .tuple #[.slice none 0 0, .slice none 0 0, .int .i64 0, .int .i64 10]) (by simp [results, Tryz.results31, go_sem]) rfl (lans_none (hk1.alloc _))

set_option maxRecDepth 100000 in
set_option maxHeartbeats 2000000 in
theorem readL_head (a : Option Addr) (n cap : Nat) (a2 : Option Addr) (n2 cap2 : Nat) (most : Int) (k hb fr bt rw size pk : Nat) (r : Nat × List Nat × List Nat × Nat) (w : World) (h0 : 0 ≤ most) (h1 : most ≤ 131072) (hnb : n < 2 ^ 48) (hhb : hb ≤ 5) (hsz : size < 1048576) (hpk : pk < 1048576)
    (hc : Calls Tryz.prog 45 #[.slice a n cap] w fun e w' => Keep noBlock w w' ∧ e = .returned (.tuple #[headV k hb fr bt rw size pk, .bool true]))
    (hr1 : most < (size : Int) → r = (11, [], [], 0))
    (hr2 : ¬ most < (size : Int) → n < hb + behN k size pk → r = (10, [], [], 0))
    (hr3 : ¬ most < (size : Int) → ¬ n < hb + behN k size pk → ∃ a' o, (∀ W, (sliceSem 22 (.slice a n cap) (some (.int .i64 (hb : Int))) (some (.int .i64 ((hb + behN k size pk : Nat) : Int))) (some (.int .i64 ((hb + behN k size pk : Nat) : Int)))).run Tryz.prog W = .ok (.slice a' (behN k size pk) (behN k size pk)) W) ∧
      (r = match o with | none => (11, [], [], 0) | some p => (0, p.1, p.2, hb + behN k size pk)) ∧ ∀ W, Keep noBlock w W → Calls Tryz.prog 47 #[headV k hb fr bt rw size pk, .slice a' (behN k size pk) (behN k size pk), .slice a2 n2 cap2] W fun e w' => TAns o W e w') :
    Calls Tryz.prog 31 #[.slice a n cap, .slice a2 n2 cap2, .int .i64 most] w fun e w' => LAns r w e w' := by
  have HC := hid hc
  have g0 : ¬ most < 0 := by omega
  have g1 : ¬ 131072 < most := by omega
  have HBH := hid (fun W => behind_any k hb fr bt rw size pk W)
  obtain ⟨bh, hbh⟩ : ∃ bh, bh = behN k size pk := ⟨_, rfl⟩
  obtain ⟨en, hen⟩ : ∃ en, en = hb + bh := ⟨_, rfl⟩
  rw [← hbh] at hr2 hr3 HBH
  have hbhb : bh < 1048576 := by rw [hbh]; unfold behN; repeat' split
                                 all_goals omega
  rw [← hen] at hr2 hr3
  have e1 : (hb : Int) + (bh : Int) = (en : Int) := by omega
  have enb : (en : Int) ≤ 1048600 := by omega
  have wen : IntKind.i64.wrap (en : Int) = (en : Int) := by rw [IntKind.wrap_i64]; omega
  unfold headV at HC hr3 HBH
  have HEN := hid hen
  clear hc hbh hen
  by_cases hA : most < (size : Int)
  · have hr := hr1 hA
    clear hr1 hr2 hr3
    subst hr
    go_enter Tryz.func31, Tryz.ntmps31
    go_wp2_with (go_at_call 45; refine HC.out.mono ?_; rintro e w1 ⟨hk1, rfl⟩)
    refine bodyPost_ret (v := .tuple #[.slice none 0 0, .slice none 0 0, .int .i64 0, .int .i64 11]) (by simp [results, Tryz.results31, go_sem]) rfl (lans_none (hk1.alloc _))
  · have hR2 := hr2 hA
    have hR3 := hr3 hA
    clear hr1 hr2 hr3
    go_enter Tryz.func31, Tryz.ntmps31
    go_wp2_with (go_at_call 45; refine HC.out.mono ?_; rintro e w1 ⟨hk1, rfl⟩)
    have o1 := World.alloc_heap_new w1 (.cells #[.int .i64 (k : Int), .int .i64 (hb : Int), .int .i64 (fr : Int), .int .i64 (bt : Int), .int .i64 (rw : Int), .int .i64 (size : Int), .int .i64 (pk : Int)] 91)
    have k1 := hk1.alloc (.cells #[.int .i64 (k : Int), .int .i64 (hb : Int), .int .i64 (fr : Int), .int .i64 (bt : Int), .int .i64 (rw : Int), .int .i64 (size : Int), .int .i64 (pk : Int)] 91)
    obtain ⟨xb, hxb⟩ : ∃ xb, xb = w1.heap.size := ⟨_, rfl⟩
    rw [← hxb] at o1 ⊢
    generalize w1.alloc (.cells #[.int .i64 (k : Int), .int .i64 (hb : Int), .int .i64 (fr : Int), .int .i64 (bt : Int), .int .i64 (rw : Int), .int .i64 (size : Int), .int .i64 (pk : Int)] 91) = W1 at o1 k1 ⊢
    have c0 : W1.cell? ⟨xb, 0, none⟩ = some (.int .i64 (k : Int)) := cell_of o1 0
    have c1 : W1.cell? ⟨xb, 1, none⟩ = some (.int .i64 (hb : Int)) := cell_of o1 1
    have c2 : W1.cell? ⟨xb, 2, none⟩ = some (.int .i64 (fr : Int)) := cell_of o1 2
    have c3 : W1.cell? ⟨xb, 3, none⟩ = some (.int .i64 (bt : Int)) := cell_of o1 3
    have c4 : W1.cell? ⟨xb, 4, none⟩ = some (.int .i64 (rw : Int)) := cell_of o1 4
    have c5 : W1.cell? ⟨xb, 5, none⟩ = some (.int .i64 (size : Int)) := cell_of o1 5
    have c6 : W1.cell? ⟨xb, 6, none⟩ = some (.int .i64 (pk : Int)) := cell_of o1 6
    have HK1 := hid k1
    clear hk1 hxb o1 k1
    go_region_held3 (fun W => W.cell? ⟨xb, 0, none⟩ = some (.int .i64 (k : Int)) ∧ W.cell? ⟨xb, 1, none⟩ = some (.int .i64 (hb : Int)) ∧ W.cell? ⟨xb, 2, none⟩ = some (.int .i64 (fr : Int)) ∧ W.cell? ⟨xb, 3, none⟩ = some (.int .i64 (bt : Int)) ∧ W.cell? ⟨xb, 4, none⟩ = some (.int .i64 (rw : Int)) ∧ W.cell? ⟨xb, 5, none⟩ = some (.int .i64 (size : Int)) ∧ W.cell? ⟨xb, 6, none⟩ = some (.int .i64 (pk : Int))) (first | go_keep | assumption) ((first | (go_at_call 46; refine (HBH.out _).mono ?_; rintro e w2 ⟨rfl, hk2⟩; have d0 := keep_cell0 hk2 (show W1.drew.cell? ⟨xb, 0, none⟩ = _ from c0); have d1 := keep_cell0 hk2 (show W1.drew.cell? ⟨xb, 1, none⟩ = _ from c1); have d2 := keep_cell0 hk2 (show W1.drew.cell? ⟨xb, 2, none⟩ = _ from c2); have d3 := keep_cell0 hk2 (show W1.drew.cell? ⟨xb, 3, none⟩ = _ from c3); have d4 := keep_cell0 hk2 (show W1.drew.cell? ⟨xb, 4, none⟩ = _ from c4); have d5 := keep_cell0 hk2 (show W1.drew.cell? ⟨xb, 5, none⟩ = _ from c5); have d6 := keep_cell0 hk2 (show W1.drew.cell? ⟨xb, 6, none⟩ = _ from c6))))
    have HK2 := hid (HK1.out.drew.trans' hk2)
    clear hk2 c0 c1 c2 c3 c4 c5 c6
    by_cases hB : n < en
    · have hr := hR2 hB
      have g2 : (n : Int) < (en : Int) := by omega
      clear hR2 hR3
      subst hr
      go_wp2_with fail
      refine bodyPost_ret (v := .tuple #[.slice none 0 0, .slice none 0 0, .int .i64 0, .int .i64 10]) (by simp [results, Tryz.results31, go_sem]) rfl (lans_none HK2.out)
    · obtain ⟨a', o, hsl, hr, hT⟩ := hR3 hB
      have g2 : ¬ (n : Int) < (en : Int) := by omega
      clear hR2 hR3
      cases o with
      | none =>
        have HT := hid (show ∀ W, Keep noBlock w W → Calls Tryz.prog 47 #[.agg #[.int .i64 (k : Int), .int .i64 (hb : Int), .int .i64 (fr : Int), .int .i64 (bt : Int), .int .i64 (rw : Int), .int .i64 (size : Int), .int .i64 (pk : Int)], .slice a' bh bh, .slice a2 n2 cap2] W fun e w' => Keep noBlock W w' ∧ ∃ v1 v2, e = .returned (.tuple #[v1, v2, .bool false]) from fun W hW => (hT W hW).mono fun e w' h => h)
        clear hT
        subst hr
        go_wp2_with fail
        go_region_held3 (fun W => W.cell? ⟨xb, 0, none⟩ = some (.int .i64 (k : Int)) ∧ W.cell? ⟨xb, 1, none⟩ = some (.int .i64 (hb : Int)) ∧ W.cell? ⟨xb, 2, none⟩ = some (.int .i64 (fr : Int)) ∧ W.cell? ⟨xb, 3, none⟩ = some (.int .i64 (bt : Int)) ∧ W.cell? ⟨xb, 4, none⟩ = some (.int .i64 (rw : Int)) ∧ W.cell? ⟨xb, 5, none⟩ = some (.int .i64 (size : Int)) ∧ W.cell? ⟨xb, 6, none⟩ = some (.int .i64 (pk : Int))) (first | go_keep | assumption) ((first | (go_at_call 47; refine (HT.out _ HK2.out.drew).mono ?_; rintro e w3 ⟨hk3, v1, v2, rfl⟩; have f0 := keep_cell0 hk3 (show w2.drew.cell? ⟨xb, 0, none⟩ = _ from d0); have f1 := keep_cell0 hk3 (show w2.drew.cell? ⟨xb, 1, none⟩ = _ from d1); have f2 := keep_cell0 hk3 (show w2.drew.cell? ⟨xb, 2, none⟩ = _ from d2); have f3 := keep_cell0 hk3 (show w2.drew.cell? ⟨xb, 3, none⟩ = _ from d3); have f4 := keep_cell0 hk3 (show w2.drew.cell? ⟨xb, 4, none⟩ = _ from d4); have f5 := keep_cell0 hk3 (show w2.drew.cell? ⟨xb, 5, none⟩ = _ from d5); have f6 := keep_cell0 hk3 (show w2.drew.cell? ⟨xb, 6, none⟩ = _ from d6))))
        have HK3 := hid (HK2.out.drew.trans' hk3)
        clear hk3
        go_wp2_with fail
        refine bodyPost_ret (v := .tuple #[.slice none 0 0, .slice none 0 0, .int .i64 0, .int .i64 11]) (by simp [results, Tryz.results31, go_sem]) rfl (lans_none HK3.out)
      | some p =>
        have HT := hid (show ∀ W, Keep noBlock w W → Calls Tryz.prog 47 #[.agg #[.int .i64 (k : Int), .int .i64 (hb : Int), .int .i64 (fr : Int), .int .i64 (bt : Int), .int .i64 (rw : Int), .int .i64 (size : Int), .int .i64 (pk : Int)], .slice a' bh bh, .slice a2 n2 cap2] W fun e w' => Keep noBlock W w' ∧ ∃ a1 n1 c1 g1 o1 a2 n2 c2 g2 o2, e = .returned (.tuple #[.slice a1 n1 c1, .slice a2 n2 c2, .bool true]) ∧ n1 = p.1.length ∧ n2 = p.2.length ∧ Bytes w' a1 c1 g1 o1 p.1 ∧ Bytes w' a2 c2 g2 o2 p.2 ∧ W.heap.size ≤ g1 ∧ W.heap.size ≤ g2 from fun W hW => (hT W hW).mono fun e w' h => h)
        have HR := hid hr
        clear hT hr
        go_wp2_with fail
        go_region_held3 (fun W => W.cell? ⟨xb, 0, none⟩ = some (.int .i64 (k : Int)) ∧ W.cell? ⟨xb, 1, none⟩ = some (.int .i64 (hb : Int)) ∧ W.cell? ⟨xb, 2, none⟩ = some (.int .i64 (fr : Int)) ∧ W.cell? ⟨xb, 3, none⟩ = some (.int .i64 (bt : Int)) ∧ W.cell? ⟨xb, 4, none⟩ = some (.int .i64 (rw : Int)) ∧ W.cell? ⟨xb, 5, none⟩ = some (.int .i64 (size : Int)) ∧ W.cell? ⟨xb, 6, none⟩ = some (.int .i64 (pk : Int))) (first | go_keep | assumption) ((first | (go_at_call 47; refine (HT.out _ HK2.out.drew).mono ?_; rintro e w3 ⟨hk3, a5, n5, c5', g5, o5, a6, n6, c6', g6, o6, rfl, hn5, hn6, hB5, hB6, hg5, hg6⟩; have f0 := keep_cell0 hk3 (show w2.drew.cell? ⟨xb, 0, none⟩ = _ from d0); have f1 := keep_cell0 hk3 (show w2.drew.cell? ⟨xb, 1, none⟩ = _ from d1); have f2 := keep_cell0 hk3 (show w2.drew.cell? ⟨xb, 2, none⟩ = _ from d2); have f3 := keep_cell0 hk3 (show w2.drew.cell? ⟨xb, 3, none⟩ = _ from d3); have f4 := keep_cell0 hk3 (show w2.drew.cell? ⟨xb, 4, none⟩ = _ from d4); have f5 := keep_cell0 hk3 (show w2.drew.cell? ⟨xb, 5, none⟩ = _ from d5); have f6 := keep_cell0 hk3 (show w2.drew.cell? ⟨xb, 6, none⟩ = _ from d6))))
        have H3 := hid (show Keep noBlock w w3 ∧ n5 = p.1.length ∧ n6 = p.2.length ∧ Bytes w3 a5 c5' g5 o5 p.1 ∧ Bytes w3 a6 c6' g6 o6 p.2 from ⟨HK2.out.drew.trans' hk3, hn5, hn6, hB5, hB6⟩)
        have HG := hid (show w.heap.size ≤ g5 ∧ w.heap.size ≤ g6 from ⟨Nat.le_trans HK2.out.size hg5, Nat.le_trans HK2.out.size hg6⟩)
        clear hk3 hn5 hn6 hB5 hB6 hg5 hg6
        go_wp2_with fail
        refine bodyPost_ret (v := .tuple #[.slice a5 n5 c5', .slice a6 n6 c6', .int .i64 (en : Int), .int .i64 0]) (by simp [results, Tryz.results31, go_sem]; exact ⟨H3.out.2.1.symm, H3.out.2.2.1.symm⟩) rfl ?_
        rw [HR.out]
        exact ⟨H3.out.1, a5, n5, c5', g5, o5, a6, n6, c6', g6, o6, rfl, H3.out.2.1, H3.out.2.2.1, H3.out.2.2.2.1, H3.out.2.2.2.2, HG.out⟩
end
theorem readL_any (a : Option Addr) (cap gb off : Nat) (bs : List Nat) (a2 : Option Addr) (cap2 gb2 off2 : Nat) (ws : List Nat) (most : Int) (c u : Nat) (V : List Nat) (w : World) (hF : Frm w) (hB : Bytes w a cap gb off bs) (hB2 : Bytes w a2 cap2 gb2 off2 ws) (hl2 : ws.length ≤ 140737488355327)
  (hR : RdW (bodyN bs) c u V) (hc : c = 0 → u ≤ (bodyN bs).length ∧ V.length ≤ 256 ∧ ∀ j : Nat, V[j]?.getD 0 < 256) :
  Calls Tryz.prog 31 #[.slice a bs.length cap, .slice a2 ws.length cap2, .int .i64 most] w fun e w' => LAns (litR c u V bs ws most) w e w' := by
 unfold litR
 by_cases hm : most < 0 ∨ 131072 < most
 ·rw [if_pos hm]
  exact readL_arg a bs.length cap a2 ws.length cap2 most w hm
 ·rw [if_neg hm]
  by_cases hs : bs = [] ∨ bs.length < hBy bs
  ·rw [if_pos hs]
   refine readL_short a bs.length cap a2 ws.length cap2 most w (by omega) (by omega) ?_
   by_cases he : bs = []
   ·subst he
    exact readHead_nil a cap w
   ·have hs' := hs.resolve_left he
    refine (readHead_any a cap gb off bs w hB hF he).mono ?_
    rintro e w' ⟨hk, ⟨_, h⟩ | ⟨h, _⟩⟩
    ·exact ⟨hk, h⟩
    ·omega
  ·rw [if_neg hs]
   have hne : bs ≠ [] := fun h => hs (.inl h)
   have hbl : hBy bs ≤ bs.length := Nat.le_of_not_lt fun h => hs (.inr h)
   have hbe : behN (hKi bs) (hSz bs) (hPk bs) = hBe bs := rfl
   refine readL_head a bs.length cap a2 ws.length cap2 most (hKi bs) (hBy bs) (frN (hKi bs) (hFo bs)) (btN (hKi bs) (hFo bs)) (hRw bs) (hSz bs) (hPk bs) _ w (by omega) (by omega) hB.len (hbN_le _ _).2 (hSz_lt bs) (hPk_lt bs) ?_ (fun h => by rw [if_pos h]) (fun h1 h2 => by rw [hbe] at h2; rw [if_neg h1, if_pos h2]) (fun h1 h2 => ?_)
   ·refine (readHead_any a cap gb off bs w hB hF hne).mono ?_
    rintro e w' ⟨hk, ⟨h, _⟩ | ⟨_, h⟩⟩
    ·omega
    ·exact ⟨hk, h⟩
   ·rw [hbe] at h2 ⊢
    rw [if_neg h1, if_neg h2]
    obtain ⟨a', off', hsl, hBb⟩ := hB.cut3 (hBy bs) (hBy bs + hBe bs) (by omega) (by omega)
    have hbl2 := bodyN_length h2
    rw [show hBy bs + hBe bs - hBy bs = hBe bs from by omega] at hsl hBb
    have hsz : hSz bs ≤ 131072 := by omega
    refine ⟨a', tellL c u V (hKi bs) (hSz bs) (hRw bs) (bodyN bs) ws, hsl, ?_, fun W hW => ?_⟩
    ·cases tellL c u V (hKi bs) (hSz bs) (hRw bs) (bodyN bs) ws with
     | none => rfl
     | some p => rfl
    ·have hBW : Bytes W a' (hBe bs) gb off' (bodyN bs) := hBb.keep hW (fun _ h => h)
     have hBW2 := hB2.keep hW (fun _ h => h)
     have hbeb := hBe_lt bs
     have hk4 := hKi_lt bs
     unfold tellL
     by_cases k0 : hKi bs = 0
     ·rw [if_pos k0, k0]
      have := tell_raw (hBy bs) (frN 0 (hFo bs)) (btN 0 (hFo bs)) (hRw bs) (hSz bs) (hPk bs) a' (hBe bs) gb off' (bodyN bs) a2 cap2 gb2 off2 ws W hBW hBW2 (by omega) hl2
      rw [hbl2] at this
      exact this
     ·rw [if_neg k0]
      by_cases k1 : hKi bs = 1
      ·rw [if_pos k1, k1]
       have hb1 : hBe bs = 1 := by unfold hBe; rw [if_neg k0, if_pos k1]
       rw [hb1] at hbl2 hBW ⊢
       obtain ⟨x, hx⟩ := List.length_eq_one_iff.1 hbl2
       rw [hx] at hBW ⊢
       exact tell_one (hBy bs) (frN 1 (hFo bs)) (btN 1 (hFo bs)) (hRw bs) (hSz bs) (hPk bs) a' 1 gb off' x a2 cap2 gb2 off2 ws W hBW hBW2 hsz hl2
      ·rw [if_neg k1]
       have hrw : 1 ≤ hRw bs ∧ hRw bs ≤ 4 := by
        unfold hRw
        rcases rwN_is (hKi bs) (hFo bs) with q | q | q <;> omega
       by_cases k3 : hKi bs = 3
       ·rw [if_pos k3, k3]
        have := tell_ahead (hBy bs) (frN 3 (hFo bs)) (btN 3 (hFo bs)) (hRw bs) (hSz bs) (hPk bs) a' (hBe bs) gb off' (bodyN bs) a2 cap2 gb2 off2 ws W hBW hBW2 hsz (by omega) hl2 hrw.1 hrw.2
        rw [hbl2] at this
        exact this
       ·rw [if_neg k3]
        have k2 : hKi bs = 2 := by omega
        rw [k2]
        have := tell_anew (hBy bs) (frN 2 (hFo bs)) (btN 2 (hFo bs)) (hRw bs) (hSz bs) (hPk bs) a' (hBe bs) gb off' (bodyN bs) a2 cap2 gb2 off2 ws c u V W hBW hsz (by omega) hrw.1 hrw.2 hR hc
        rw [hbl2] at this
        exact this

end Go.Proofs.YtnjilcokkhodmaaGreatDoor
