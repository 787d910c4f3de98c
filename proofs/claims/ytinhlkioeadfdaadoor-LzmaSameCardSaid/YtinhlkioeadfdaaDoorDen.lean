/-
  The program's decoder: its end; a new one; none.
-/
import Derived.Test.YtinhlkioeadfdaaDoorDed
import Derived.Test.YtinhlkioeadfdaaDoorBck
namespace Go.Proofs.YtinhlkioeadfdaaDoor
open Go.RowKit Go.Shelf
set_option linter.unusedVariables false

/-- What End tells. -/
def endE (d : Dec) : Nat := if d.want then 10 else if d.code = 0 then 0 else 11
def endL (d : Dec) : Nat := if endE d = 0 then d.rest.length else 0

set_option maxHeartbeats 1000000 in
theorem end_any (b g : Nat) (d : Dec) (w : World) (h : IsD w b g d) : Calls Tryd.prog 41 #[.pointer (some ⟨b, 0, none⟩)] w fun e w' => e = .returned (.tuple #[.int .i64 ((endL (ordD d) : Nat) : Int), .int .i64 ((endE (ordD d) : Nat) : Int)]) ∧ IsD w' b g (ordD d) ∧ Keep (fun k => k = b) w w' := by
  have HO := hid (order_any b g d w h)
  have hod := ordD_ok h.ok
  clear h
  generalize ordD d = O at *
  have hc := hod.code
  go_enter Tryd.func41, Tryd.ntmps41
  go_wp2_with fail
  refine HO.out.mono ?_
  rintro e w1 ⟨rfl, h1, k1⟩
  obtain ⟨c0, c1, c3, hf, a, cap, c2⟩ := h1.cells
  have HF := (show Hid (IsD w1 b g O ∧ Keep (fun k => k = b) w w1) from ⟨h1, k1⟩)
  clear h1 k1 hf HO
  have HE : Hid (endE O = if O.want then 10 else if O.code = 0 then 0 else 11) := (show endE O = _ from rfl)
  have HL : Hid (endL O = if endE O = 0 then O.rest.length else 0) := (show endL O = _ from rfl)
  cases hw : O.want with
  | true =>
    rw [hw] at c3
    rw [hw] at HE
    clear hw
    go_wp2_with fail
    refine bodyPost_ret (v := .tuple #[.int .i64 0, .int .i64 10]) (by simp [results, Tryd.results41]) rfl ?_
    rw [HL.out, HE.out]
    exact ⟨rfl, HF.out⟩
  | false =>
    rw [hw] at c3
    rw [hw] at HE
    clear hw
    by_cases hz : O.code = 0
    · rw [hz] at c1 HE
      rw [show (((0 : Nat) : Int)) = (0 : Int) from rfl] at c1
      go_wp2_with fail
      refine bodyPost_ret (v := .tuple #[.int .i64 (O.rest.length : Int), .int .i64 0]) (by simp [results, Tryd.results41]) rfl ?_
      rw [HL.out, HE.out]
      exact ⟨rfl, HF.out⟩
    · have hzI : (((O.code : Nat) : Int) != 0) = true := by simp; omega
      have HZ := hid hz
      clear hz
      go_wp2_with fail
      refine bodyPost_ret (v := .tuple #[.int .i64 0, .int .i64 11]) (by simp [results, Tryd.results41]) rfl ?_
      rw [HL.out, HE.out, if_neg HZ.out]
      exact ⟨rfl, HF.out⟩

/-- Of none. -/
theorem end_nil (w : World) : Calls Tryd.prog 41 #[.pointer none] w fun e w' => e = .returned (.tuple #[.int .i64 0, .int .i64 1]) ∧ w' = w := by
  go_enter Tryd.func41, Tryd.ntmps41
  go_wp2
  exact bodyPost_ret (v := .tuple #[.int .i64 0, .int .i64 1]) (by simp [results, Tryd.results41]) rfl ⟨rfl, rfl⟩
theorem bitD_nil (p : Value) (hp : ∃ a, p = .pointer a) (w : World) : Calls Tryd.prog 34 #[.pointer none, p] w fun e w' => e = .returned (.int .i64 0) ∧ w' = w := by
  obtain ⟨a, rfl⟩ := hp
  go_enter Tryd.func34, Tryd.ntmps34
  go_wp2
  go_ret
  exact ⟨rfl, rfl⟩
theorem direct_nil (n : Int) (w : World) : Calls Tryd.prog 71 #[.pointer none, .int .i64 n] w fun e w' => e = .returned (.int .u32 0) ∧ w' = w := by
  go_enter Tryd.func71, Tryd.ntmps71
  go_wp2
  go_ret
  exact ⟨rfl, rfl⟩

def takesD : Nat → Dec → Dec
  | 0, d => d
  | k + 1, d => takeD (takesD k d)
theorem takes_four {bs : List Nat} (h5 : 5 ≤ bs.length) (hb : ∀ j : Nat, bs[j]?.getD 0 < 256) : takesD 4 ⟨4294967295, 0, bs.drop 1, false⟩ = newD bs := by
  match bs, h5, hb with
  | x0 :: x1 :: x2 :: x3 :: x4 :: r, _, hb =>
    have h1 := hb 1
    have h2 := hb 2
    have h3 := hb 3
    have h4 := hb 4
    simp only [List.getElem?_cons_succ, List.getElem?_cons_zero, Option.getD_some] at h1 h2 h3 h4
    simp only [takesD, takeD, newD, List.drop_succ_cons, List.drop_zero, List.take_succ_cons, List.take_zero, val, List.foldl_cons, List.foldl_nil]
    congr 1
    omega
theorem owns_base {w : World} {base n : Nat} {v : Value} {xs : List Value} (h : w.ownsRow base 5 1 v n xs) : w.ownsRow 0 5 1 v n xs := by
  refine ⟨h.1, ?_⟩
  rcases h.2 with e | ⟨g, cap, cur, e, hb, hr⟩
  · exact .inl e
  · exact .inr ⟨g, cap, cur, e, Nat.zero_le _, hr⟩
theorem owns_ge {w : World} {base n : Nat} {v : Value} {xs : List Value} (h : w.ownsRow base 5 1 v n xs) (g : Nat) (hg : v.ownBlock = some g) : base ≤ g := by
  rcases h.2 with ⟨rfl, _⟩ | ⟨g', cap, cur, rfl, hb, hr⟩
  · cases hg
  · have : g' = g := by simpa [Value.ownBlock] using hg
    omega

section
attribute [local go_sem] sliceSem_eq
theorem newD_short (a : Option Addr) (cap gb off : Nat) (bs : List Nat) (w : World) (hB : Bytes w a cap gb off bs) (hl : bs.length < 5) :
    Calls Tryd.prog 13 #[.slice a bs.length cap] w fun e w' => e = .returned (.tuple #[.pointer none, .int .i64 10]) ∧ w' = w := by
  have hI : (bs.length : Int) < 5 := by omega
  generalize bs.length = n at *
  clear hB hl
  go_enter Tryd.func13, Tryd.ntmps13
  go_wp2
  exact bodyPost_ret (v := .tuple #[.pointer none, .int .i64 10]) (by simp [results, Tryd.results13]) rfl ⟨rfl, rfl⟩
set_option maxHeartbeats 1000000 in
theorem newD_bad (a : Option Addr) (cap gb off : Nat) (bs : List Nat) (w : World) (hB : Bytes w a cap gb off bs) (hl : 5 ≤ bs.length) (h0 : bs[0]?.getD 0 ≠ 0) :
    Calls Tryd.prog 13 #[.slice a bs.length cap] w fun e w' => e = .returned (.tuple #[.pointer none, .int .i64 11]) ∧ w' = w := by
  have hI : ¬ (bs.length : Int) < 5 := by omega
  have hI2 : (0 : Int) < (bs.length : Int) := by omega
  have hc := hB.cells 0 (by omega)
  rw [Nat.add_zero] at hc
  obtain rfl : a = some ⟨gb, off, none⟩ := by
    rcases hB.at_ with e | e
    · exact e
    · rw [e] at hl; simp at hl
  have hn : (((bs[0]?.getD 0 : Nat) : Int) != 0) = true := by simp; omega
  have hlt := hB.lt 0
  have hl2 : bs.length < 2 ^ 48 := hB.len
  generalize bs[0]?.getD 0 = x at *
  generalize bs.length = n at *
  clear hB h0
  go_enter Tryd.func13, Tryd.ntmps13
  go_wp2
  exact bodyPost_ret (v := .tuple #[.pointer none, .int .i64 11]) (by simp [results, Tryd.results13]) rfl ⟨rfl, rfl⟩
set_option maxHeartbeats 2000000 in
theorem newD_good (a : Option Addr) (cap gb off : Nat) (bs : List Nat) (w : World) (hB : Bytes w a cap gb off bs) (hl : 5 ≤ bs.length) (hmax : bs.length ≤ 140737488355327) (h0 : bs[0]?.getD 0 = 0) :
    Calls Tryd.prog 13 #[.slice a bs.length cap] w fun e w' => ∃ b g, e = .returned (.tuple #[.pointer (some ⟨b, 0, none⟩), .int .i64 0]) ∧ w.heap.size ≤ b ∧ w.heap.size ≤ g ∧ g < b ∧ IsD w' b g (newD bs) ∧ Keep noBlock w w' := by
  have hI : ¬ (bs.length : Int) < 5 := by omega
  have hI2 : (0 : Int) < (bs.length : Int) := by omega
  have hc := hB.cells 0 (by omega)
  rw [Nat.add_zero, h0] at hc
  rw [show (((0 : Nat) : Int)) = (0 : Int) from rfl] at hc
  obtain rfl : a = some ⟨gb, off, none⟩ := by
    rcases hB.at_ with e | e
    · exact e
    · rw [e] at hl; simp at hl
  obtain ⟨a', off', hsl, hB', -⟩ := hB.drop 1 (by omega)
  rw [show (((1 : Nat) : Int)) = (1 : Int) from rfl] at hsl
  have hgb := hB.block (by rintro rfl; simp at hl)
  have hdl : (bs.drop 1).length = bs.length - 1 := by simp
  have hsrc : Src w (.slice a' (bs.drop 1).length (cap - 1)) (bs.drop 1) := by
    rcases hB'.at_ with e | e
    · subst e
      refine .inr ⟨_, _, rfl, hgb, fun j u hu => ?_⟩
      have hj : j < (bs.drop 1).length := by rw [← u8s_length]; exact (List.getElem?_eq_some_iff.1 hu).1
      rw [addO, hB'.cells j hj, ← u8s_at _ j hj, hu]
    · have := congrArg List.length e
      simp at this; omega
  have HC := hid (clone_any (.slice a' (bs.drop 1).length (cap - 1)) (bs.drop 1) (by omega) w hsrc)
  have HT := (show Hid (takesD 4 ⟨4294967295, 0, bs.drop 1, false⟩ = newD bs ∧ (∀ j : Nat, (bs.drop 1)[j]?.getD 0 < 256) ∧ (bs.drop 1).length < 2 ^ 48 ∧ 0 < (bs.drop 1).length) from ⟨takes_four hl hB.lt, hB'.lt, hB'.len, by omega⟩)
  generalize newD bs = N at *
  generalize bs.drop 1 = rs at *
  have hl2 : bs.length < 2 ^ 48 := hB.len
  generalize bs.length = n at *
  clear hB hB' h0 hsrc hdl hl
  generalize hrl : rs.length = rn at *
  have HRL := hid hrl
  clear hrl
  go_enter Tryd.func13, Tryd.ntmps13
  go_wp2_with fail
  refine HC.out.mono ?_
  rintro e w1 ⟨v', rfl, hown, hk, -⟩
  obtain ⟨sa, scap, rfl⟩ := owns_form hown
  rw [← HRL.out] at hown
  have hown0 := owns_base hown
  obtain ⟨a2, cap2, g2, hv2, hB2, hg2⟩ := bytes_own hown0 HT.out.2.1 (by rw [HRL.out]; exact HT.out.2.2.1)
  have hsz := hk.size
  have hD : IsD (w1.alloc (.cells #[.int .u32 4294967295, .int .u32 0, .slice sa rn scap, .bool false] 86)) w1.heap.size g2 ⟨4294967295, 0, rs, false⟩ ∧ w.heap.size ≤ g2 ∧ g2 < w1.heap.size := by
    rw [HRL.out] at hv2
    simp only [Value.slice.injEq, true_and] at hv2
    obtain ⟨rfl, rfl⟩ := hv2
    have hb2 : g2 < w1.heap.size := hB2.block (fun e => by have h3 := HRL.out; have h4 := HT.out.2.2.2; rw [e] at h3; simp at h3; omega)
    have hge : w.heap.size ≤ g2 := by
      rcases hg2 with ⟨_, e⟩ | ⟨e, _⟩
      · have := HT.out.2.2.2; have h3 := HRL.out; rw [e] at h3; simp at h3; omega
      · rw [e] at hown
        exact owns_ge hown g2 rfl
    refine ⟨⟨⟨sa, scap, 0, ?_, hB2.keep (S := noBlock) ((Keep.refl _ w1).alloc _) (fun _ h => h)⟩, by omega, ⟨by show 4294967295 < 4294967296; omega, by show 0 < 4294967296; omega⟩⟩, hge, hb2⟩
    rw [HRL.out]
    exact alloc_new w1 _
  have HD := (show Hid (IsD (w1.alloc (.cells #[.int .u32 4294967295, .int .u32 0, .slice sa rn scap, .bool false] 86)) w1.heap.size g2 ⟨4294967295, 0, rs, false⟩ ∧ w.heap.size ≤ g2 ∧ Keep noBlock w (w1.alloc (.cells #[.int .u32 4294967295, .int .u32 0, .slice sa rn scap, .bool false] 86)) ∧ w.heap.size ≤ w1.heap.size ∧ g2 < w1.heap.size) from ⟨hD.1, hD.2.1, hk.alloc _, hsz, hD.2.2⟩)
  clear hown hown0 hv2 hB2 hg2 hsz hD hk HC
  go_wp2_with fail
  generalize w1.alloc (.cells #[.int .u32 4294967295, .int .u32 0, .slice sa rn scap, .bool false] 86) = W at *
  generalize w1.heap.size = nb at *
  go_loopw [17] (fun i wr => ∃ (k : Nat), k ≤ 4 ∧ i = .int .i64 k ∧ Hid (IsD wr nb g2 (takesD k ⟨4294967295, 0, rs, false⟩) ∧ Keep noBlock w wr)) (fun i _ => 4 - (intOf i).toNat)
  case atStart => exact ⟨0, by omega, rfl, (show _ ∧ _ from ⟨HD.out.1, HD.out.2.2.1⟩)⟩
  case round =>
    obtain ⟨k, hk, rfl, HR⟩ := hrel
    have hkI : (k : Int) ≤ 4 := by omega
    by_cases hlt : k < 4
    · have hltI : (k : Int) < 4 := by omega
      go_wp2_with (go_at_call 19; refine (take_any nb g2 _ _ HR.out.1).mono ?_; rintro e w2 ⟨rfl, h2, k2⟩)
      go_roundw
      case rel => exact ⟨k + 1, by omega, by go_num, (show _ ∧ _ from ⟨h2, HR.out.2.trans k2 (fun i hi e => by have := HD.out.2.2.2.1; omega)⟩)⟩
      case measure => simp [intOf]; omega
    · have hk4 : k = 4 := by omega
      have hltI : ¬ (k : Int) < 4 := by omega
      have HF := HR
      rw [hk4] at HF
      clear HR hk4 hlt
      go_wp2_with fail
      refine bodyPost_ret (v := .tuple #[.pointer (some ⟨nb, 0, none⟩), .int .i64 0]) (by simp [results, Tryd.results13]) rfl ?_
      refine ⟨nb, rfl, HD.out.2.2.2.1, g2, HD.out.2.1, HD.out.2.2.2.2, ?_, HF.out.2⟩
      rw [← HT.out.1]
      exact HF.out.1
end

end Go.Proofs.YtinhlkioeadfdaaDoor
