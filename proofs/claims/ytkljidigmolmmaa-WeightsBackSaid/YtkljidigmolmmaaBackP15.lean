/-
  tell of weights that two states tell by turns.
  The document's Table: which state has which symbol.
  The document's Words.
-/
import Derived.Test.YtkljidigmolmmaaBackP14
namespace Go.Proofs.Ytkljidigmolmmaa
open Go.RowKit Go.Shelf
set_option linter.unusedVariables false

/-- What the bytes behind the first one tell by two states. -/
def tellT (bs : List Nat) : Option (List Int × Nat × Nat) → Option (List Nat)
  | none => none
  | some (xs, l, u) => if (bs.drop u)[(bs.drop u).length - 1]?.getD 0 = 0 then none else toldT (symF xs (2 ^ l)) (fun i => bitF l (xF xs (2 ^ l) i)) (fun i => baseF l (xF xs (2 ^ l) i)) (bs.drop u) l
theorem within_ok {xs : List Int} {l : Nat} (hb : okT xs (l : Int) = true) (hl : l ≤ 12) : Within (fun i => bitF l (xF xs (2 ^ l) i)) (fun i => baseF l (xF xs (2 ^ l) i)) (2 ^ l) := fun i hi => by
  have h := (okT_tab hb).cell i hi
  exact ⟨Nat.le_trans h.2.2.1 hl, h.2.2.2.2.1⟩
theorem symF_256 {xs : List Int} {l : Nat} (hb : okT xs (l : Int) = true) (hx : xs.length ≤ 256) (i : Nat) (hi : i < 2 ^ l) : symF xs (2 ^ l) i < 256 := by
  have := ((okT_tab hb).symF i hi).2.1
  omega

section
attribute [local go_sem] sliceSem_eq
set_option maxRecDepth 100000 in
set_option maxHeartbeats 2000000 in
theorem tell_states (a : Option Addr) (cap gb off : Nat) (bs : List Nat) (w : World) (hB : Bytes w a cap gb off bs) (hne : bs ≠ []) (h1 : bs[0]?.getD 0 ≤ 127) (hl : bs.length ≤ 200) :
    Calls Try.prog 17 #[.slice a bs.length cap] w fun e w' => ∃ R, RdRel (bs.drop 1) 6 11 R ∧ TellPost (tellT (bs.drop 1) R) w e w' := by
  have hpos : 0 < bs.length := List.length_pos_iff.2 hne
  have hgbw := hB.block hne
  obtain rfl := hB.here (i := 0) hpos
  have c0 := hB.cells 0 hpos
  have hx := hB.lt 0
  rw [Nat.add_zero] at c0
  have h48 := hB.len
  have hcap := hB.cap
  have hrun := fun W => run_low5 (some ⟨gb, off, none⟩) bs.length cap 1 hpos W
  obtain ⟨a', off', hrun2, hB', -⟩ := hB.drop 1 hpos
  have hea : (if cap = 1 then (some ⟨gb, off, none⟩ : Option Addr) else (some ⟨gb, off, none⟩ : Option Addr).map (fun x => x.add 1)) = a' := by
    have e1 := hrun w
    rw [hrun2 w] at e1
    injection e1 with e1
    injection e1 with e1
    exact e1.symm
  have hsrc : Src w (.slice a' (bs.drop 1).length (cap - 1)) (bs.drop 1) := by
    have hs := hB'.src
    rcases hs with h | ⟨x, c, e, hc⟩
    · exact .inl h
    · refine .inr ⟨x, c, e, ?_, hc⟩
      injection e with e1 e2 e3
      rw [e1] at hea
      split at hea
      · injection hea with h; rw [← h]; exact hgbw
      · simp only [Option.map_some, Option.some.injEq] at hea
        rw [← hea]
        unfold Addr.add
        split <;> exact hgbw
  have hlt' := hB'.lt
  have hdl : (bs.drop 1).length ≤ 200 := by rw [List.length_drop]; omega
  have HRd := (show Hid (∀ q, Calls Try.prog 36 #[.slice a' (bs.drop 1).length (cap - 1), .int .i64 6, .int .i64 11] (w.drewN q) fun e w' => ∃ T, RdRel (bs.drop 1) 6 11 T ∧ RdPost T (w.drewN q) e w') from fun q => by
    have hs2 : Src (w.drewN q) (.slice a' (bs.drop 1).length (cap - 1)) (bs.drop 1) := hsrc
    exact read_all a' (cap - 1) (bs.drop 1) 6 11 (w.drewN q) hs2 hlt' (by rw [List.length_drop]; omega) (by omega) (by omega) (by omega) (by omega))
  obtain ⟨ds, hds⟩ : ∃ ds, ds = bs.drop 1 := ⟨_, rfl⟩
  rw [← hds] at HRd hB' hrun2 hdl ⊢
  have HB1 := (show Hid (Bytes w a' (cap - 1) gb off' ds ∧ ds.length ≤ 200) from ⟨hB', hdl⟩)
  obtain ⟨N, hN⟩ : ∃ N, N = bs.length := ⟨_, rfl⟩
  obtain ⟨k, hk⟩ : ∃ k, k = ds.length := ⟨_, rfl⟩
  obtain ⟨c', hc'⟩ : ∃ c', c' = cap - 1 := ⟨_, rfl⟩
  rw [← hk, ← hc'] at HRd
  rw [← hc'] at HB1
  have HK := (show Hid (k = ds.length) from hk)
  rw [← hN] at hpos h48 ⊢
  rw [← hN, ← hk, ← hc', show (((1 : Nat) : Int)) = (1 : Int) from rfl] at hrun2
  obtain ⟨h, hh⟩ : ∃ h, h = bs[0]?.getD 0 := ⟨_, rfl⟩
  rw [← hh] at h1 hx c0
  have hgt : ¬ (127 : Int) < (h : Int) := by omega
  have hhI : (h : Int) < 256 := by omega
  have hp1 : (0 : Int) < (N : Int) := by omega
  have hkI : (k : Int) ≤ 200 := by omega
  clear hB hB' hN hk hc' hh h1 hx h48 hne hrun hea hsrc hlt' hdl hds hl hcap
  go_enter Try.func17, Try.ntmps17
  go_wp2_with fail
  go_quiet (fail)
  go_wp2_with fail
  refine (HRd.out _).mono ?_
  rintro e w1 ⟨R, hR, hK1, hm⟩
  clear HRd
  have hK01 : Keep noBlock w w1 := (keep_drewN w _).trans' hK1
  cases R with
  | none =>
    obtain ⟨E, hE, rfl⟩ := hm
    have HD := (show Hid (RdRel ds 6 11 none ∧ Keep noBlock w w1) from ⟨hR, hK01⟩)
    clear hR hK01 hK1
    go_wp2_with fail
    go_ret2
    exact ⟨none, HD.out.1, HD.out.2, rfl⟩
  | some r =>
    obtain ⟨xs, l, u⟩ := r
    obtain ⟨sa, sc, g2, rfl, hRow, hg2⟩ := hm
    obtain ⟨ok, hI16, hxl, hxne, hub, hl6, hl5, hu1⟩ := hR.ok (by omega) (by omega)
    have HTb := (show Hid (Calls Try.prog 37 #[.slice sa xs.length sc, .int .i64 (l : Int)] w1 _) from table_good sa sc g2 0 xs l w1 hRow hI16 ok)
    obtain ⟨xl, hxle⟩ : ∃ xl, xl = xs.length := ⟨_, rfl⟩
    rw [← hxle] at HTb ⊢
    obtain ⟨a3, off3, hrun3, hB3, -⟩ := HB1.out.1.drop u hub
    have hk3 := HK.out
    rw [← hk3] at hrun3
    have HD := (show Hid (RdRel ds 6 11 (some (xs, l, u)) ∧ Keep noBlock w w1 ∧ okT xs (l : Int) = true ∧ xs.length ≤ 12 ∧ l ≤ 6 ∧ Bytes w a3 (c' - u) gb off3 (ds.drop u) ∧ (ds.drop u).length ≤ 200) from ⟨hR, hK01, ok, hxl, hl6, hB3, by rw [List.length_drop]; have := HB1.out.2; omega⟩)
    have hlI : (l : Int) ≤ 6 := by omega
    have huI : (u : Int) ≤ (k : Int) := by omega
    have hlI5 : (5 : Int) ≤ (l : Int) := by omega
    obtain ⟨k3, hk3e⟩ : ∃ k3, k3 = (ds.drop u).length := ⟨_, rfl⟩
    rw [← hk3e] at hrun3
    have HK3 := (show Hid (k3 = (ds.drop u).length) from hk3e)
    obtain ⟨c3, hc3⟩ : ∃ c3, c3 = c' - u := ⟨_, rfl⟩
    rw [← hc3] at hrun3 HD
    clear hR hK01 hK1 hRow hg2 ok hI16 hxl hxne hub hl6 hl5 hu1 hB3 hk3 hxle hk3e hc3
    go_wp2_with fail
    refine HTb.out.mono ?_
    rintro e w2 ⟨tg, tcap, rfl, htg, htc, hRT, hK2⟩
    obtain ⟨S, hS⟩ : ∃ S, S = 2 ^ l := ⟨_, rfl⟩
    rw [← hS] at hRT htc ⊢
    have hSb : S ≤ 4096 := by rw [hS]; exact Nat.pow_le_pow_right (n := 2) (j := 12) (by omega) (by have := HD.out; omega)
    have hB3w : Bytes w2 a3 c3 gb off3 (ds.drop u) := (HD.out.2.2.2.2.2.1.keep HD.out.2.1 (fun _ h => h)).keep hK2 (fun _ h => h)
    have hK02 : Keep noBlock w w2 := HD.out.2.1.trans' hK2
    have HE := (show Hid (RowT w2 tg S (symF xs S) (fun i => bitF l (xF xs S i)) (fun i => baseF l (xF xs S i)) ∧ S = 2 ^ l ∧ Keep noBlock w w2) from ⟨hRT, hS, hK02⟩)
    by_cases h0 : (ds.drop u)[(ds.drop u).length - 1]?.getD 0 = 0
    · have HN := (show Hid (Calls Try.prog 29 #[.slice a3 k3 c3] w2 _) from by have := newB_bad a3 c3 gb off3 (ds.drop u) w2 hB3w (by have := HD.out; omega) h0; rw [← HK3.out] at this; exact this)
      have HF := (show Hid (tellT ds (some (xs, l, u)) = none) from if_pos h0)
      clear h0 hB3w hK02 hRT hK2 hS htg htc hSb
      go_wp2_with fail
      refine HN.out.mono ?_
      rintro e w3 ⟨rfl, rfl⟩
      go_wp2_with fail
      go_ret2
      exact ⟨_, HD.out.1, by rw [HF.out]; exact ⟨HE.out.2.2, rfl⟩⟩
    · have HN := (show Hid (Calls Try.prog 29 #[.slice a3 k3 c3] w2 _) from by have := newB_good a3 c3 gb off3 (ds.drop u) w2 hB3w (by have := HD.out; omega) h0; rw [← HK3.out] at this; exact this)
      have HF := (show Hid (tellT ds (some (xs, l, u)) = toldT (symF xs S) (fun i => bitF l (xF xs S i)) (fun i => baseF l (xF xs S i)) (ds.drop u) l) from by rw [hS]; exact if_neg h0)
      clear h0 hB3w hK02 hRT hK2 hS htg htc hSb
      go_wp2_with fail
      refine HN.out.mono ?_
      rintro e w3 ⟨rb, g3, rfl, hrb, hg3, hA3, hK3⟩
      have htl : Tl.tailLen (ds.drop u) < 1125899906842624 := by have h1 := Tl.tailLen_le (ds.drop u) HD.out.2.2.2.2.2.1.lt; have h2 := HD.out.2.2.2.2.2.2; omega
      have HT := (show Hid (Calls Try.prog 38 #[.pointer (some ⟨rb, 0, none⟩), .slice (some ⟨tg, 0, none⟩) S tcap, .int .i64 (l : Int)] w3 _) from turns_any rb g3 (ds.drop u) tg tcap S l _ _ _ w3 hA3 (HE.out.1.keep hK3 (fun h => h)) HE.out.2.1 (by have := HD.out; omega) (by rw [HE.out.2.1]; exact within_ok HD.out.2.2.1 (by have := HD.out; omega)) (fun i hi => by
        have hi' := hi
        rw [HE.out.2.1] at hi' ⊢
        exact symF_256 HD.out.2.2.1 (by have := HD.out; omega) i hi') (by have := HE.out.1.lt; omega) htl)
      have HG := (show Hid (w2.heap.size ≤ rb ∧ Keep noBlock w w3) from ⟨hrb, HE.out.2.2.trans' hK3⟩)
      clear hrb hg3 hA3 hK3 htl HN
      go_wp2_with fail
      refine HT.out.mono ?_
      rintro e w4 ⟨hK4, hm4⟩
      have hK04 : Keep noBlock w w4 := HG.out.2.trans hK4 (fun j hj e => by have := HG.out.1; have := HE.out.2.2.size; omega)
      have HF2 := HF.out
      generalize toldT (symF xs S) (fun i => bitF l (xF xs S i)) (fun i => baseF l (xF xs S i)) (ds.drop u) l = TT at hm4 HF2
      cases TT with
      | none =>
        obtain rfl : e = .returned (.tuple #[.slice none 0 0, .bool false]) := hm4
        have HH := (show Hid (tellT ds (some (xs, l, u)) = none ∧ Keep noBlock w w4) from ⟨HF2, hK04⟩)
        clear hK04 hK4 HF2
        go_wp2_with fail
        go_ret2
        exact ⟨_, HD.out.1, by rw [HH.out.1]; exact ⟨HH.out.2, rfl⟩⟩
      | some M =>
        obtain ⟨v, rfl, hown, hnew⟩ := hm4
        have HH := (show Hid (tellT ds (some (xs, l, u)) = some M ∧ Keep noBlock w w4 ∧ w4.ownsRow 0 5 1 v M.length (u8s M) ∧ ∀ k, v.ownBlock = some k → w.heap.size ≤ k) from ⟨HF2, hK04, hown, fun k e => by have := hnew k e; have := HG.out.2.size; omega⟩)
        clear hK04 hK4 HF2 hown hnew
        go_wp2_with fail
        go_ret2
        exact ⟨_, HD.out.1, by rw [HH.out.1]; exact ⟨HH.out.2.1, v, rfl, HH.out.2.2.1, HH.out.2.2.2⟩⟩
end

end Go.Proofs.Ytkljidigmolmmaa

namespace Go.Proofs.Ytkljidigmolmmaa
open Go.RowKit Go.Shelf

theorem isA_made (w : World) (k : IntKind) (t n : Nat) : IsA (w.alloc (.cells (madeCells #[.int k 0] n) t)) w.heap.size t k n (fun _ => 0) :=
  ⟨_, World.alloc_heap_new w _, size_madeCells _ _, fun i hi => by simp [madeCells, hi, Nat.mod_one]⟩
theorem isT_made (w : World) (n : Nat) : IsT (w.alloc (.cells (madeCells #[.int .u8 0, .int .u8 0, .int .u16 0] (n * 3)) 91)) w.heap.size 91 n (fun _ => 0) (fun _ => 0) (fun _ => 0) := by
  refine ⟨_, World.alloc_heap_new w _, by rw [size_madeCells]; omega, fun i hi => ?_⟩
  have e : ∀ j, j < n * 3 → (madeCells #[Value.int .u8 0, .int .u8 0, .int .u16 0] (n * 3))[j]? = some (#[Value.int .u8 0, .int .u8 0, .int .u16 0][j % 3]!) := fun j hj => by
    simp [madeCells, hj]
  rw [e _ (by omega), e _ (by omega), e _ (by omega), show i * 3 % 3 = 0 from by omega, show (i * 3 + 1) % 3 = 1 from by omega, show (i * 3 + 2) % 3 = 2 from by omega]
  exact ⟨rfl, rfl, rfl⟩
theorem run_make75 (n : Nat) (h : n ≤ 4096) (w : World) : (Instr.makeSlice 134 (.int .i64 (n : Int)) (.int .i64 (n : Int))).run Try.prog w = .ok (.slice (some ⟨w.heap.size, 0, none⟩) n n) (w.alloc (.cells (madeCells #[.int .i64 0] n) 3)) :=
  run_make_row' 134 3 (.int .i64 0) 8 Try.underlying134 info3 rfl .i64 .i64 n (by omega) (by omega) w
theorem run_make27 (n : Nat) (h : n ≤ 4096) (w : World) : (Instr.makeSlice 82 (.int .i64 (n : Int)) (.int .i64 (n : Int))).run Try.prog w = .ok (.slice (some ⟨w.heap.size, 0, none⟩) n n) (w.alloc (.cells (madeCells #[.int .u8 0, .int .u8 0, .int .u16 0] (n * 3)) 91)) := by
  obtain ⟨i0, hi, hz0, hz1, hz2⟩ := info_parts info50
  have := run_make (P := Try.prog) w 82 91 i0 _ Try.underlying82 hi hz0 .i64 .i64 (n : Int) (n : Int) (by omega) (Int.le_refl _) (by rw [hz2]; omega) (by omega)
  simp only [Int.toNat_natCast, hz1] at this
  exact this

set_option maxHeartbeats 400000 in
theorem tableQ_bad (a : Option Addr) (cap gb off : Nat) (xs : List Int) (log : Int) (w : World) (h : RowI w .i16 a cap gb off xs) (hx : I16 xs) (hb : okT xs log = false) :
    Calls Try.prog 42 #[.slice a xs.length cap, .int .i64 log] w fun e w' => e = .returned (.tuple #[.slice none 0 0, .int .i64 70]) ∧ w' = w := by
  have HT := (show Hid (∀ w : World, RowI w .i16 a cap gb off xs → Calls Try.prog 71 #[.slice a xs.length cap, .int .i64 log] w fun e w' => e = .returned (.bool false) ∧ w' = w) from fun w h => by have := right_any a cap gb off xs log w h hx; rwa [hb] at this)
  go_enter Try.func42, Try.ntmps42
  go_wp2_with (go_at_call 71; refine (HT.out _ h).mono ?_; rintro e w' ⟨rfl, rfl⟩)
  go_ret2
  exact ⟨rfl, rfl⟩

set_option maxRecDepth 100000 in
set_option maxHeartbeats 8000000 in
theorem tableQ_good (a : Option Addr) (cap gb off : Nat) (xs : List Int) (l : Nat) (w : World) (h : RowI w .i16 a cap gb off xs) (hx : I16 xs) (hb : okT xs (l : Int) = true) :
    Calls Try.prog 42 #[.slice a xs.length cap, .int .i64 (l : Int)] w fun e w' => ∃ g cap', e = .returned (.tuple #[.slice (some ⟨g, 0, none⟩) (2 ^ l) cap', .int .i64 0]) ∧ w.heap.size ≤ g ∧ 2 ^ l ≤ cap' ∧
      RowT w' g (2 ^ l) (symF xs (2 ^ l)) (fun i => bitF l (xF xs (2 ^ l) i)) (fun i => baseF l (xF xs (2 ^ l) i)) ∧ Keep noBlock w w' := by
  have HT := (show Hid (∀ w : World, RowI w .i16 a cap gb off xs → Calls Try.prog 71 #[.slice a xs.length cap, .int .i64 (l : Int)] w fun e w' => e = .returned (.bool true) ∧ w' = w) from fun w h => by have := right_any a cap gb off xs l w h hx; rwa [hb] at this)
  obtain ⟨hG, hT, hne, hlen, hl5, hl12⟩ := okT_good hb
  obtain rfl := h.here (i := 0) (List.length_pos_iff.2 hne)
  have hTab := okT_tab hb
  have hSb : 2 ^ l ≤ 4096 := Nat.pow_le_pow_right (n := 2) (j := 12) (by omega) hl12
  obtain ⟨v, ho⟩ := odd_pow l hl5 hl12
  have hp : (2 : Int) ^ l = ((2 ^ l : Nat) : Int) := by simp
  obtain ⟨S, hS⟩ : ∃ S, S = 2 ^ l := ⟨_, rfl⟩
  rw [← hS] at hp hSb hTab ho ⊢
  have HS := (show Hid (S = 2 ^ l) from hS)
  have hSI : (S : Int) ≤ 4096 := by omega
  have hSp : 0 < (S : Int) := by have := ho.pos; omega
  have hlI : (l : Int) ≤ 12 := by omega
  have hmk := fun W => run_make75 S hSb W
  obtain ⟨n, hn⟩ : ∃ n, n = xs.length := ⟨_, rfl⟩
  have HH := (show Hid (Tab xs S ∧ Odd S v ∧ I16 xs ∧ RowI w .i16 (some ⟨gb, off, none⟩) cap gb off xs ∧ n = xs.length ∧ nr xs xs.length ≤ S) from ⟨hTab, ho, hx, h, hn, by have := hTab.row; omega⟩)
  rw [← hn] at hlen HT ⊢
  have hnI : (n : Int) ≤ 256 := by omega
  clear hT hS hG hTab ho hx hb hne hn
  go_enter Try.func42, Try.ntmps42
  go_wp2_with (go_at_call 71; refine (HT.out _ h).mono ?_; rintro e w' ⟨rfl, rfl⟩)
  have hA0 := isA_made w' .i64 3 S
  have hK0 : Keep noBlock w' (w'.alloc (.cells (madeCells #[.int .i64 0] S) 3)) := (Keep.refl _ w').alloc _
  generalize w'.alloc (.cells (madeCells #[.int .i64 0] S) 3) = W1 at hA0 hK0 ⊢
  obtain ⟨sb, hsb⟩ : ∃ sb, sb = w'.heap.size := ⟨_, rfl⟩
  rw [← hsb] at hA0 ⊢
  have HSB := (show Hid (sb = w'.heap.size) from hsb)
  have HA0 := (show Hid (IsA W1 sb 3 .i64 S (fun _ => 0) ∧ Keep noBlock w' W1) from ⟨hA0, hK0⟩)
  clear hsb hA0 hK0 HT h hmk
  go_loopw [8, 9] (fun v8 v9 wr => ∃ (i h : Nat), v9 = .int .i64 (i : Int) ∧ v8 = .int .i64 (h : Int) ∧ i ≤ n ∧ Hid (h + nr xs i = S ∧ IsA wr sb 3 .i64 S (fun j => (((rareF xs S i j).getD 0 : Nat) : Int)) ∧ Keep noBlock w' wr)) (fun _ v9 _ => n - (intOf v9).toNat)
  case atStart => exact ⟨0, S, rfl, rfl, Nat.zero_le _, rfl, HA0.out⟩
  case round =>
    clear HA0
    obtain ⟨i, h, rfl, rfl, hi, HC⟩ := hrel
    by_cases hlt : i < n
    · obtain ⟨hh, hA, hK⟩ := HC.out
      obtain ⟨hTab, ho, hx, hR, hn, hnrS⟩ := HH.out
      have hix : i < xs.length := by omega
      have c0 := (hR.keep hK (fun _ h => h)).cells i hix
      have hnr := cntP_mono (isRare xs) (i + 1) xs.length (by omega)
      have hns := nr_succ xs i
      have hfs : rareF xs S (i + 1) = if xs[i]?.getD 0 = -1 then upd (rareF xs S i) (S - nr xs (i + 1)) i else rareF xs S i := rfl
      have hnr2 : nr xs (i + 1) ≤ S := by unfold nr at hnrS ⊢; omega
      have hltI : (i : Int) < (n : Int) := by omega
      generalize xs[i]?.getD 0 = c at *
      by_cases hc1 : c = -1
      · subst hc1
        rw [if_pos rfl] at hns hfs
        obtain ⟨h2, hh2⟩ : ∃ h2, h = h2 + 1 := ⟨h - 1, by omega⟩
        have hhI : (h : Int) - 1 = (h2 : Int) := by omega
        have hh2S : (h2 : Int) < (S : Int) := by omega
        rw [show S - nr xs (i + 1) = h2 from by omega] at hfs
        have cx := hA.cell h2 (by omega)
        have fx := hA.frozen h2
        have hst := hA.set h2 (i : Int)
        have HG := (show Hid (h2 + nr xs (i + 1) = S ∧ IsA (wr.setCell ⟨sb, h2, none⟩ (.int .i64 (i : Int))) sb 3 .i64 S (fun j => (((rareF xs S (i + 1) j).getD 0 : Nat) : Int)) ∧ Keep noBlock w' (wr.setCell ⟨sb, h2, none⟩ (.int .i64 (i : Int)))) from by
          refine ⟨by omega, hst.congr (fun j _ => ?_), hK.trans (Keep.setCell (S := fun k => k = sb) (p := ⟨sb, h2, none⟩) (Keep.refl _ wr) (fun _ => rfl) _) (fun j hj e => by have := HSB.out; omega)⟩
          rw [hfs]; simp only [upd]; split <;> rfl)
        clear hh hA hK hTab ho hx hR hn hnrS hnr hns hfs hnr2 hst HC hh2
        go_wp2_with fail
        go_roundw
        case rel => exact ⟨i + 1, h2, by go_num, rfl, by omega, HG⟩
        case measure => simp [intOf]; omega
      · rw [if_neg hc1] at hns hfs
        have hcb1 : (c == -1) = false := by simpa using hc1
        have HG := (show Hid (h + nr xs (i + 1) = S ∧ IsA wr sb 3 .i64 S (fun j => (((rareF xs S (i + 1) j).getD 0 : Nat) : Int)) ∧ Keep noBlock w' wr) from ⟨by omega, by rw [hfs]; exact hA, hK⟩)
        clear hh hA hK hTab ho hx hR hn hnrS hnr hns hfs hnr2 HC
        go_wp2_with fail
        go_roundw
        case rel => exact ⟨i + 1, h, by go_num, rfl, by omega, HG⟩
        case measure => simp [intOf]; omega
    · obtain rfl : i = n := by omega
      have hltI : ¬ (i : Int) < (i : Int) := by omega
      have HD := (show Hid (h = S - nr xs xs.length ∧ h ≤ S ∧ (rowL xs xs.length).length = h ∧ IsA wr sb 3 .i64 S (fun j => (((putF xs S h 0 j).getD 0 : Nat) : Int)) ∧ Keep noBlock w' wr) from by
        obtain ⟨hh, hA, hK⟩ := HC.out
        obtain ⟨hTab, ho, hx, hR, hn, hnrS⟩ := HH.out
        have := hTab.row
        rw [hn] at hh hA
        exact ⟨by omega, by omega, by omega, hA, hK⟩)
      have hhS : (h : Int) ≤ (S : Int) := by have := HD.out.2.1; omega
      clear HC
      go_wp2_with fail
      go_loopw [10, 11] (fun v10 v11 wr => ∃ (s x : Nat), v10 = .int .i64 (x : Int) ∧ v11 = .int .i64 (s : Int) ∧ s ≤ i ∧ Hid ((((rowL xs s).length < h → Turn S h (rowL xs s).length x)) ∧ IsA wr sb 3 .i64 S (fun j => (((putF xs S h (rowL xs s).length j).getD 0 : Nat) : Int)) ∧ Keep noBlock w' wr)) (fun _ v11 _ => i - (intOf v11).toNat)
      case atStart => exact ⟨0, 0, rfl, rfl, Nat.zero_le _, fun hh => turn_zero S h (by omega) hh, HD.out.2.2.2.1, HD.out.2.2.2.2⟩
      case round =>
        have HD2 := (show Hid (h = S - nr xs xs.length ∧ h ≤ S ∧ (rowL xs xs.length).length = h) from ⟨HD.out.1, HD.out.2.1, HD.out.2.2.1⟩)
        clear HD
        obtain ⟨s, x, rfl, rfl, hs, HC⟩ := hrel
        by_cases hlt2 : s < i
        · obtain ⟨hTab, ho, hx, hR, hn, hnrS⟩ := HH.out
          have hix : s < xs.length := by omega
          have hlow := hTab.low s hix
          obtain ⟨T, hTg⟩ := rowL_grow xs (s + 1) xs.length (by omega)
          have hd3 := HD2.out.2.2
          rw [hTg, List.length_append] at hd3
          have hrs : (rowL xs (s + 1)).length = (rowL xs s).length + (xs[s]?.getD 0).toNat := by
            show (rowL xs s ++ List.replicate (xs[s]?.getD 0).toNat s).length = _
            rw [List.length_append, List.length_replicate]
          have hra := fun k (hk : k < (xs[s]?.getD 0).toNat) => rowAt_eq xs s k hix hk
          have hcell := fun W (hK : Keep noBlock w' W) => (hR.keep hK (fun _ h => h)).cells s hix
          have hc2 : (xs[s]?.getD 0) ≤ 4096 := by have := HD2.out.2.1; omega
          obtain ⟨g0, hg0⟩ : ∃ g0, g0 = (rowL xs s).length := ⟨_, rfl⟩
          generalize xs[s]?.getD 0 = c at *
          obtain ⟨cn, hcn⟩ : ∃ cn, cn = c.toNat := ⟨_, rfl⟩
          rw [← hcn, ← hg0] at hrs
          rw [← hg0, ← hcn] at hra
          rw [← hg0] at HC
          have HR := (show Hid ((rowL xs (s + 1)).length = g0 + cn ∧ (∀ k, k < cn → rowAt xs (g0 + k) = s) ∧ g0 + cn ≤ h) from ⟨hrs, hra, by omega⟩)
          have HCE := (show Hid (∀ W, Keep noBlock w' W → W.cell? ⟨gb, off + s, none⟩ = some (.int .i16 c)) from hcell)
          have hsI : (s : Int) < (i : Int) := by omega
          have HCN := (show Hid (cn = c.toNat) from hcn)
          clear hTab ho hx hR hn hnrS hTg hd3 hrs hra hcell hg0 hcn
          go_wp2_with fail
          go_loopw [10, 12] (fun v10 v12 wr => ∃ (k x : Nat), v10 = .int .i64 (x : Int) ∧ v12 = .int .i64 (k : Int) ∧ k ≤ cn ∧ Hid ((g0 + k < h → Turn S h (g0 + k) x) ∧ IsA wr sb 3 .i64 S (fun j => (((putF xs S h (g0 + k) j).getD 0 : Nat) : Int)) ∧ Keep noBlock w' wr)) (fun _ v12 _ => cn - (intOf v12).toNat)
          case atStart => exact ⟨0, x, rfl, rfl, Nat.zero_le _, HC⟩
          case round =>
            clear HC
            obtain ⟨k, x, rfl, rfl, hk, HC⟩ := hrel
            have c0 := HCE.out wr HC.out.2.2
            by_cases hkl : k < cn
            · obtain ⟨hTu, hA, hK⟩ := HC.out
              obtain ⟨r1, r2, r3⟩ := HR.out
              have hT := hTu (by omega)
              have hxh := hT.lt
              have hh2 := HD2.out.2.1
              have hkI : (k : Int) < c := by have := HCN.out; omega
              have cx := hA.cell x (by omega)
              have fx := hA.frozen x
              have hst := hA.set x (s : Int)
              have hxS : (x : Int) < (S : Int) := by omega
              have hhp : 0 < (h : Int) := by omega
              obtain ⟨y, hy2⟩ : ∃ y, y = (x + stepN S) % S := ⟨_, rfl⟩
              have hyI : ((x : Int) + (S : Int) / 2 + (S : Int) / 8 + 3) % (S : Int) = (y : Int) := by rw [hy2]; unfold stepN; simp [Int.add_assoc]
              have HYI := (show Hid (((x : Int) + (S : Int) / 2 + (S : Int) / 8 + 3) % (S : Int) = (y : Int)) from hyI)
              have HG := (show Hid (Mid S h (g0 + k) y ∧ IsA (wr.setCell ⟨sb, x, none⟩ (.int .i64 (s : Int))) sb 3 .i64 S (fun j => (((putF xs S h (g0 + k + 1) j).getD 0 : Nat) : Int)) ∧ Keep noBlock w' (wr.setCell ⟨sb, x, none⟩ (.int .i64 (s : Int)))) from by
                refine ⟨by rw [hy2]; exact hT.next, hst.congr (fun j _ => ?_), hK.trans (Keep.setCell (S := fun k => k = sb) (p := ⟨sb, x, none⟩) (Keep.refl _ wr) (fun _ => rfl) _) (fun j hj e => by have := HSB.out; omega)⟩
                show _ = (((upd (putF xs S h (g0 + k)) (place S h (g0 + k)) (rowAt xs (g0 + k)) j).getD 0 : Nat) : Int)
                rw [hT.place, r2 k hkl]; simp only [upd]; split <;> rfl)
              have hSne : ((S : Int) == 0) = false := by rw [beq_eq_false_iff_ne]; omega
              clear hTu hA hK r1 r2 r3 hT hh2 hst hy2 hyI HC
              go_wp2_with fail
              generalize wr.setCell ⟨sb, x, none⟩ (.int .i64 (s : Int)) = W2 at HG ⊢
              go_loop [10] (fun v10 => ∃ z : Nat, v10 = .int .i64 (z : Int) ∧ Hid (Mid S h (g0 + k) z)) (fun v10 => meas S v (intOf v10).toNat)
              case atStart => exact ⟨y, by rw [HYI.out], HG.out.1⟩
              case round =>
                obtain ⟨z, rfl, HM⟩ := hrel
                have hzS : (z : Int) < (S : Int) := by have := HM.out.lt HH.out.2.1; omega
                by_cases hz : h ≤ z
                · have hzI : (h : Int) ≤ (z : Int) := by omega
                  obtain ⟨y2, hy2⟩ : ∃ y, y = (z + stepN S) % S := ⟨_, rfl⟩
                  have hyI : ((z : Int) + (S : Int) / 2 + (S : Int) / 8 + 3) % (S : Int) = (y2 : Int) := by rw [hy2]; unfold stepN; simp [Int.add_assoc]
                  have HYI2 := (show Hid (((z : Int) + (S : Int) / 2 + (S : Int) / 8 + 3) % (S : Int) = (y2 : Int)) from hyI)
                  have HM2 := (show Hid (Mid S h (g0 + k) y2 ∧ meas S v y2 < meas S v z) from by rw [hy2]; exact ⟨HM.out.next (by omega) hz, HM.out.meas HH.out.2.1 (by omega) hz⟩)
                  clear hy2 hyI
                  go_wp2_with fail
                  go_round
                  case rel => exact ⟨y2, by rw [HYI2.out], HM2.out.1⟩
                  case measure => have h := HYI2.out; simp only [intOf]; simp; rw [h]; simpa using HM2.out.2
                · have hzI : ¬ (h : Int) ≤ (z : Int) := by omega
                  go_wp2_with fail
                  go_roundw
                  case rel => exact ⟨k + 1, z, rfl, by go_num, by omega, fun hh => (HM.out.end_ HH.out.2.1 (by omega) (by omega)).resolve_left (by omega), HG.out.2⟩
                  case measure => simp [intOf]; omega
            · obtain rfl : k = cn := by omega
              have hkI : ¬ (k : Int) < c := by have := HCN.out; omega
              go_wp2_with fail
              go_roundw
              case rel =>
                have hr := HR.out.1
                refine ⟨s + 1, x, rfl, by go_num, by omega, ?_⟩
                rw [hr]
                exact HC.out
              case measure => simp [intOf]; omega
        · obtain rfl : s = i := by omega
          have hsI : ¬ (s : Int) < (s : Int) := by omega
          have HE := (show Hid (IsA wr sb 3 .i64 S (fun j => ((symF xs S j : Nat) : Int)) ∧ Keep noBlock w' wr) from by
            obtain ⟨-, hA, hK⟩ := HC.out
            obtain ⟨d1, d2, d3⟩ := HD2.out
            have hn := HH.out.2.2.2.2.1
            rw [hn, d3] at hA
            refine ⟨?_, hK⟩
            unfold symF symO
            rw [← d1]; exact hA)
          have hmk2 := fun W => run_make27 S hSb W
          have hmk3 := fun W => run_make75 256 (by omega) W
          rw [show ((256 : Nat) : Int) = (256 : Int) from rfl] at hmk3
          clear HC HD2 hhS
          go_wp2_with fail
          have hT0 := isT_made wr S
          have hA0 := isA_made (wr.alloc (.cells (madeCells #[.int .u8 0, .int .u8 0, .int .u16 0] (S * 3)) 91)) .i64 3 256
          have hk0 : Keep noBlock wr ((wr.alloc (.cells (madeCells #[.int .u8 0, .int .u8 0, .int .u16 0] (S * 3)) 91)).alloc (.cells (madeCells #[.int .i64 0] 256) 3)) := ((Keep.refl _ wr).alloc _).alloc _
          have hT1 := hT0.keep ((Keep.refl noBlock _).alloc (.cells (madeCells #[.int .i64 0] 256) 3)) (fun h => h)
          rw [World.size_alloc] at hA0
          obtain ⟨ob, hob⟩ : ∃ ob, ob = wr.heap.size := ⟨_, rfl⟩
          rw [← hob] at hT1 hA0 ⊢
          have hsbl := HE.out.1.lt
          have HE2 := (show Hid (IsA _ sb 3 .i64 S (fun j => ((symF xs S j : Nat) : Int)) ∧ Keep noBlock w' _ ∧ IsT _ ob 91 S (fun _ => 0) (fun _ => 0) (fun _ => 0) ∧ IsA _ (ob + 1) 3 .i64 256 (fun _ => 0) ∧ sb < ob ∧ w'.heap.size ≤ ob) from
            ⟨HE.out.1.keep hk0 (fun h => h), HE.out.2.trans hk0 (fun _ _ h => h), hT1, hA0, by omega, by have := HE.out.2.size; omega⟩)
          generalize (wr.alloc (.cells (madeCells #[.int .u8 0, .int .u8 0, .int .u16 0] (S * 3)) 91)).alloc (.cells (madeCells #[.int .i64 0] 256) 3) = W2 at HE2 ⊢
          clear hmk2 hmk3 hT0 hA0 hk0 hT1 hob HE hsbl
          have hobs : sb < ob ∧ w'.heap.size ≤ ob := HE2.out.2.2.2.2
          go_loopw [15] (fun v15 wr => ∃ i : Nat, v15 = .int .i64 (i : Int) ∧ i ≤ S ∧ Hid (IsA wr sb 3 .i64 S (fun j => ((symF xs S j : Nat) : Int)) ∧ Keep noBlock w' wr ∧ IsT wr ob 91 S (fun j => if j < i then symF xs S j else 0) (fun j => if j < i then bitF l (xF xs S j) else 0) (fun j => if j < i then baseF l (xF xs S j) else 0) ∧ IsA wr (ob + 1) 3 .i64 256 (fun t => ((cntP (fun j => decide (symF xs S j = t)) i : Nat) : Int)))) (fun v15 _ => S - (intOf v15).toNat)
          case atStart =>
            obtain ⟨e1, e2, e3, e4, -⟩ := HE2.out
            exact ⟨0, rfl, Nat.zero_le _, e1, e2, e3.congr (fun _ _ => by simp) (fun _ _ => by simp) (fun _ _ => by simp), e4.congr (fun _ _ => by simp [cntP])⟩
          case round =>
            clear HE2
            obtain ⟨i, rfl, hi2, HC⟩ := hrel
            by_cases hlt3 : i < S
            · obtain ⟨hA, hK, hT, hB⟩ := HC.out
              obtain ⟨hTab, ho, hx, hR, hn, hnrS⟩ := HH.out
              have hsl := (hTab.symF i hlt3).2.1
              have hsl256 : symF xs S i < 256 := by have := hTab.len; omega
              have hcl : xF xs S i ≠ 0 ∧ xF xs S i < 2 ^ (l + 1) ∧ bitF l (xF xs S i) ≤ l ∧ baseF l (xF xs S i) < S ∧ 1 ≤ lenN (xF xs S i) ∧ lenN (xF xs S i) ≤ l + 1 ∧ S ≤ xF xs S i * 2 ^ bitF l (xF xs S i) ∧ xF xs S i * 2 ^ bitF l (xF xs S i) < 2 ^ (l + 1) := by
                have hT2 := hTab
                have hl2 := hlt3
                rw [HS.out] at hT2 hl2 ⊢
                obtain ⟨a1, a2, a3, a4, a5, a6, a7, a8⟩ := hT2.cell i hl2
                exact ⟨a1, a2, a3, a4, a6, a7, a8, (cell_fits l _ a1 a2).2.2.1⟩
              have hp13 : 2 ^ (l + 1) ≤ 8192 := Nat.pow_le_pow_right (n := 2) (j := 13) (by omega) (by omega)
              obtain ⟨cc, ec, cc1, cc2, cc3, cc4⟩ := hTab.x i hlt3
              have cs := hA.cell i hlt3
              have cr := (hR.keep hK (fun _ h => h)).cells (symF xs S i) hsl
              have cbl := hB.cell (symF xs S i) hsl256
              have fbl := hB.frozen (symF xs S i)
              have ebl : cntP (fun j => decide (symF xs S j = symF xs S i)) i = blF xs S i := rfl
              rw [ebl] at cbl
              have HPA := (show Hid (∀ w : World, Calls Try.prog 70 #[.int .i16 (xs[symF xs S i]?.getD 0)] w fun e w' => e = .returned (.int .i64 (cc : Int)) ∧ w' = w) from fun w => by have := parts_any (xs[symF xs S i]?.getD 0) (hx _).1 (hx _).2 w; rwa [ec] at this)
              have HSY := (show Hid (∀ t, cntP (fun j => decide (symF xs S j = t)) (i + 1) = if t = symF xs S i then blF xs S i + 1 else cntP (fun j => decide (symF xs S j = t)) i) from fun t => by
                simp only [cntP]
                by_cases e : t = symF xs S i
                · subst e; simp [ebl]
                · rw [if_neg e, if_neg (by simpa using fun h => e h.symm)]; rfl)
              have HWD := (show Hid (∀ w : World, _) from fun w => width_any (xF xs S i) (by omega) w)
              have hst := hB.set (symF xs S i) ((blF xs S i : Int) + 1)
              obtain ⟨k1, k2, k3, k4, k5, k6, k7, k8⟩ := hcl
              obtain ⟨t0, ht0⟩ : ∃ t0, t0 = symF xs S i := ⟨_, rfl⟩
              obtain ⟨x, hxe⟩ : ∃ x, x = xF xs S i := ⟨_, rfl⟩
              obtain ⟨bl, hbl⟩ : ∃ bl, bl = blF xs S i := ⟨_, rfl⟩
              rw [← ht0] at cs cr cbl fbl HPA hst hsl hsl256
              rw [← hxe] at k1 k2 k3 k4 k5 k6 k7 k8 cc4 HWD
              rw [← hbl] at cbl cc3 cc4 hst
              obtain ⟨b, hb⟩ : ∃ b, b = bitF l x := ⟨_, rfl⟩
              obtain ⟨z, hz⟩ : ∃ z, z = baseF l x := ⟨_, rfl⟩
              obtain ⟨y, hy⟩ : ∃ y, y = x * 2 ^ bitF l x := ⟨_, rfl⟩
              rw [← hy] at k7 k8
              rw [← hb] at k3
              rw [← hz] at k4
              have hxI : (cc : Int) + (bl : Int) = (x : Int) := by omega
              have hbI : (l : Int) - (((lenN x : Nat) : Int) - 1) = (b : Int) := by rw [hb]; unfold bitF; omega
              have hyI : (x : Int) * 2 ^ b = (y : Int) := by rw [hy, hb]; simp
              have hzI : (y : Int) - (S : Int) = (z : Int) := by rw [hz, hy]; unfold baseF; rw [hy, HS.out] at k7; rw [HS.out]; omega
              have hLb : ((lenN x : Nat) : Int) ≤ 13 := by omega
              have hL0 : (1 : Int) ≤ ((lenN x : Nat) : Int) := by omega
              have hxb : (x : Int) < 8192 := by omega
              have hyb : (y : Int) < 8192 := by omega
              have hzb : (z : Int) < 4096 := by omega
              have hbb : (b : Int) ≤ 12 := by omega
              have htI : (t0 : Int) < 256 := by omega
              have htn : (t0 : Int) < (s : Int) := by omega
              have hiS : (i : Int) < (S : Int) := by omega
              have hblb : (bl : Int) < 4096 := by omega
              have hccb : (cc : Int) ≤ 4096 := by omega
              obtain ⟨o1, o2, o3⟩ := hT.cells i hlt3
              have p1 := hT.frozen (i * 3)
              have p2 := hT.frozen (i * 3 + 1)
              have p3 := hT.frozen (i * 3 + 2)
              have HFX := (show Hid (t0 = symF xs S i ∧ b = bitF l (xF xs S i) ∧ z = baseF l (xF xs S i)) from ⟨ht0, by rw [hb, hxe], by rw [hz, hxe]⟩)
              have hkk : Keep (fun k => k = ob + 1) wr (wr.setCell ⟨ob + 1, t0, none⟩ (.int .i64 ((bl : Int) + 1))) := Keep.setCell (S := fun k => k = ob + 1) (p := ⟨ob + 1, t0, none⟩) (Keep.refl _ wr) (fun _ => rfl) _
              have HG := (show Hid (IsA wr sb 3 .i64 S (fun j => ((symF xs S j : Nat) : Int)) ∧ Keep noBlock w' wr ∧ IsT wr ob 91 S (fun j => if j < i then symF xs S j else 0) (fun j => if j < i then bitF l (xF xs S j) else 0) (fun j => if j < i then baseF l (xF xs S j) else 0) ∧ IsA wr (ob + 1) 3 .i64 256 (fun t => ((cntP (fun j => decide (symF xs S j = t)) i : Nat) : Int)) ∧ bl = blF xs S i) from ⟨hA, hK, hT, hB, hbl⟩)
              generalize lenN x = L at *
              generalize xs[t0]?.getD 0 = c at *
              clear hA hK hT hB hTab ho hx hR hn hnrS HC hst hkk ht0 hxe hbl hb hz hy k1 k2 k3 k4 k5 k6 k7 k8 hp13 hsl hsl256 ec cc1 cc2 cc3 cc4 ebl
              go_wp2_with fail
              go_quiet ((go_at_call 70; exact Calls.quiet_of_same (HPA.out _)))
              have kq := keep_drewN wr nq
              generalize wr.drewN nq = Wq at kq ⊢
              have HG2 := (show Hid (IsA Wq sb 3 .i64 S (fun j => ((symF xs S j : Nat) : Int)) ∧ Keep noBlock w' Wq ∧ IsT Wq ob 91 S (fun j => if j < i then symF xs S j else 0) (fun j => if j < i then bitF l (xF xs S j) else 0) (fun j => if j < i then baseF l (xF xs S j) else 0) ∧ IsA Wq (ob + 1) 3 .i64 256 (fun t => ((cntP (fun j => decide (symF xs S j = t)) i : Nat) : Int)) ∧ bl = blF xs S i) from by
                obtain ⟨g1, g2, g3, g4, g5⟩ := HG.out
                exact ⟨g1.keep kq (fun h => h), g2.trans kq (fun _ _ h => h), g3.keep kq (fun h => h), g4.keep kq (fun h => h), g5⟩)
              have cbl2 : Wq.cell? ⟨ob + 1, t0, none⟩ = some (.int .i64 (bl : Int)) := by
                rw [HG2.out.2.2.2.1.cell t0 (by omega), HG2.out.2.2.2.2, HFX.out.1]; rfl
              have fbl2 := HG2.out.2.2.2.1.frozen t0
              clear HG kq cs cr cbl fbl o1 o2 o3 p1 p2 p3 HPA hxI
              go_wp2_with fail
              have HG3 := (show Hid (IsA (Wq.setCell ⟨ob + 1, t0, none⟩ (.int .i64 ((bl : Int) + 1))) sb 3 .i64 S (fun j => ((symF xs S j : Nat) : Int)) ∧ Keep noBlock w' (Wq.setCell ⟨ob + 1, t0, none⟩ (.int .i64 ((bl : Int) + 1))) ∧ IsT (Wq.setCell ⟨ob + 1, t0, none⟩ (.int .i64 ((bl : Int) + 1))) ob 91 S (fun j => if j < i then symF xs S j else 0) (fun j => if j < i then bitF l (xF xs S j) else 0) (fun j => if j < i then baseF l (xF xs S j) else 0) ∧ IsA (Wq.setCell ⟨ob + 1, t0, none⟩ (.int .i64 ((bl : Int) + 1))) (ob + 1) 3 .i64 256 (fun t => ((cntP (fun j => decide (symF xs S j = t)) (i + 1) : Nat) : Int))) from by
                obtain ⟨g1, g2, g3, g4, g5⟩ := HG2.out
                have hkk : Keep (fun k => k = ob + 1) Wq (Wq.setCell ⟨ob + 1, t0, none⟩ (.int .i64 ((bl : Int) + 1))) := Keep.setCell (S := fun k => k = ob + 1) (p := ⟨ob + 1, t0, none⟩) (Keep.refl _ Wq) (fun _ => rfl) _
                refine ⟨g1.keep hkk (by omega), g2.trans hkk (fun j hj e => by omega), g3.keep hkk (by omega), (g4.set t0 ((bl : Int) + 1)).congr (fun t _ => ?_)⟩
                rw [HSY.out t, ← HFX.out.1, ← g5]
                split <;> simp)
              generalize Wq.setCell ⟨ob + 1, t0, none⟩ (.int .i64 ((bl : Int) + 1)) = W3 at HG3 ⊢
              obtain ⟨o1, o2, o3⟩ := HG3.out.2.2.1.cells i hlt3
              have p1 := HG3.out.2.2.1.frozen (i * 3)
              have p2 := HG3.out.2.2.1.frozen (i * 3 + 1)
              have p3 := HG3.out.2.2.1.frozen (i * 3 + 2)
              clear HG2 cbl2 fbl2
              refine (HWD.out _).mono ?_
              rintro e w'' ⟨rfl, rfl⟩
              go_wp2_with fail
              obtain ⟨g1, g2, g3, g4⟩ := HG3.out
              obtain ⟨e1, e2, e3⟩ := HFX.out
              have t1 := ((g3.setSym i t0).setBit i b).setBase i z
              have kk : Keep (fun k => k = ob) w'' (((w''.setCell ⟨ob, i * 3, none⟩ (.int .u8 (t0 : Int))).setCell ⟨ob, i * 3 + 1, none⟩ (.int .u8 (b : Int))).setCell ⟨ob, i * 3 + 2, none⟩ (.int .u16 (z : Int))) :=
                Keep.setCell (S := fun k => k = ob) (p := ⟨ob, i * 3 + 2, none⟩) (Keep.setCell (S := fun k => k = ob) (p := ⟨ob, i * 3 + 1, none⟩) (Keep.setCell (S := fun k => k = ob) (p := ⟨ob, i * 3, none⟩) (Keep.refl _ w'') (fun _ => rfl) _) (fun _ => rfl) _) (fun _ => rfl) _
              have hif : ∀ (f : Nat → Nat) (q : Nat), q = f i → ∀ j, j < S → (if j = i then q else if j < i then f j else 0) = if j < i + 1 then f j else 0 := fun f q hq j _ => by
                by_cases e : j = i
                · subst e; rw [if_pos rfl, if_pos (by omega), hq]
                · rw [if_neg e]
                  by_cases hj : j < i
                  · rw [if_pos hj, if_pos (by omega)]
                  · rw [if_neg hj, if_neg (by omega)]
              refine ⟨⟨i + 1, by go_num, by omega, g1.keep kk (by omega), g2.trans kk (fun j hj e => by omega), t1.congr (hif _ _ e1) (hif _ _ e2) (hif _ _ e3), g4.keep kk (by omega)⟩, by simp [intOf]; omega⟩
            · obtain rfl : i = S := by omega
              have hiS : ¬ (i : Int) < (i : Int) := by omega
              go_wp2_with fail
              go_ret2
              obtain ⟨hA, hK, hT, hB⟩ := HC.out
              refine ⟨ob, i, rfl, hobs.2, Nat.le_refl _, ⟨fun j hj => ?_, hT.lt⟩, hK⟩
              have := hT.cells j hj
              rw [if_pos hj, if_pos hj, if_pos hj] at this
              exact this

end Go.Proofs.Ytkljidigmolmmaa

namespace Go.Proofs.Ytkljidigmolmmaa
open Go.RowKit Go.Shelf
set_option linter.unusedVariables false

/-- Block b is a row of n words. -/
structure WdA (w : World) (b n : Nat) (X N : Nat → Nat) : Prop where
  obj : ∃ cs, w.heap[b]? = some (.cells cs 62 (0, 0)) ∧ cs.size = n * 2 ∧ ∀ i, i < n → cs[i * 2]? = some (.int .u64 ((X i : Nat) : Int)) ∧ cs[i * 2 + 1]? = some (.int .i64 ((N i : Nat) : Int))
theorem WdA.cells {w : World} {b n : Nat} {X N : Nat → Nat} (h : WdA w b n X N) (i : Nat) (hi : i < n) :
    w.cell? ⟨b, i * 2, none⟩ = some (.int .u64 ((X i : Nat) : Int)) ∧ w.cell? ⟨b, i * 2 + 1, none⟩ = some (.int .i64 ((N i : Nat) : Int)) := by
  obtain ⟨cs, h1, _, h3⟩ := h.obj
  rw [cell_of h1, cell_of h1]
  exact h3 i hi
theorem WdA.frozen {w : World} {b n : Nat} {X N : Nat → Nat} (h : WdA w b n X N) (i : Nat) : w.frozen? ⟨b, i, none⟩ = false := by
  obtain ⟨cs, h1, _⟩ := h.obj
  exact frozen_of h1 i
theorem WdA.lt {w : World} {b n : Nat} {X N : Nat → Nat} (h : WdA w b n X N) : b < w.heap.size := by
  obtain ⟨cs, h1, _⟩ := h.obj
  exact obj_lt h1
theorem WdA.keep {w w' : World} {T : Nat → Prop} {b n : Nat} {X N : Nat → Nat} (h : WdA w b n X N) (hk : Keep T w w') (hS : ¬ T b) : WdA w' b n X N := by
  obtain ⟨cs, h1, h2⟩ := h.obj
  exact ⟨cs, hk.obj h1 hS, h2⟩
theorem WdA.congr {w : World} {b n : Nat} {X N X' N' : Nat → Nat} (h : WdA w b n X N) (h1 : ∀ i, i < n → X i = X' i) (h2 : ∀ i, i < n → N i = N' i) : WdA w b n X' N' := by
  obtain ⟨cs, a1, a2, a3⟩ := h.obj
  refine ⟨cs, a1, a2, fun i hi => ?_⟩
  rw [← h1 i hi, ← h2 i hi]
  exact a3 i hi
theorem WdA.set {w : World} {b n : Nat} {X N : Nat → Nat} (h : WdA w b n X N) (i x y : Nat) : WdA ((w.setCell ⟨b, i * 2, none⟩ (.int .u64 (x : Int))).setCell ⟨b, i * 2 + 1, none⟩ (.int .i64 (y : Int))) b n (fun j => if j = i then x else X j) (fun j => if j = i then y else N j) := by
  obtain ⟨cs, h1, h2, h3⟩ := h.obj
  refine ⟨_, set_obj (set_obj h1 _ _) _ _, by rw [Array.size_setIfInBounds, Array.size_setIfInBounds, h2], fun j hj => ?_⟩
  rw [Array.getElem?_setIfInBounds, Array.getElem?_setIfInBounds, Array.getElem?_setIfInBounds, Array.getElem?_setIfInBounds, Array.size_setIfInBounds, if_neg (show ¬ i * 2 + 1 = j * 2 by omega), if_neg (show ¬ i * 2 = j * 2 + 1 by omega)]
  by_cases e : i = j
  · subst e
    simp only [if_true]
    rw [if_pos (by omega), if_pos (by omega)]
    exact ⟨rfl, rfl⟩
  · have e1 : ¬ i * 2 = j * 2 := by omega
    have e2 : ¬ i * 2 + 1 = j * 2 + 1 := by omega
    have e3 : ¬ j = i := fun h => e h.symm
    simp only [if_neg e1, if_neg e2, if_neg e3]
    exact h3 j hj
theorem wdA_made (w : World) (n : Nat) : WdA (w.alloc (.cells (madeCells #[.int .u64 0, .int .i64 0] (n * 2)) 62)) w.heap.size n (fun _ => 0) (fun _ => 0) := by
  refine ⟨_, World.alloc_heap_new w _, by rw [size_madeCells], fun i hi => ?_⟩
  have e : ∀ j, j < n * 2 → (madeCells #[Value.int .u64 0, .int .i64 0] (n * 2))[j]? = some (#[Value.int .u64 0, .int .i64 0][j % 2]!) := fun j hj => by
    simp [madeCells, hj]
  rw [e _ (by omega), e _ (by omega), show i * 2 % 2 = 0 from by omega, show (i * 2 + 1) % 2 = 1 from by omega]
  exact ⟨rfl, rfl⟩
theorem info62 : (Try.prog.info? 62).map (fun i => (i.zero, i.size, i.bytes)) = some (some (.agg #[.int .u64 0, .int .i64 0]), 2, 16) := by kernel_rfl
theorem run_make56 (n : Nat) (h : n ≤ 4096) (w : World) : (Instr.makeSlice 56 (.int .i64 (n : Int)) (.int .i64 (n : Int))).run Try.prog w = .ok (.slice (some ⟨w.heap.size, 0, none⟩) n n) (w.alloc (.cells (madeCells #[.int .u64 0, .int .i64 0] (n * 2)) 62)) := by
  obtain ⟨i0, hi, hz0, hz1, hz2⟩ := info_parts info62
  have := run_make (P := Try.prog) w 56 62 i0 _ Try.underlying56 hi hz0 .i64 .i64 (n : Int) (n : Int) (by omega) (Int.le_refl _) (by rw [hz2]; omega) (by omega)
  simp only [Int.toNat_natCast, hz1] at this
  exact this
theorem IsCode.all_to {ws : List Nat} {m : Nat} (h : IsCode ws m) (c i : Nat) (hc : c ≤ m) (hi : i ≤ ws.length) : nextL ws (ordTo ws c i) ≤ 2 ^ m := by
  by_cases e : c < m
  · obtain ⟨r, hr⟩ := ordTo_grow ws c i m hi e
    have := h.all
    rw [hr, nextL_app] at this
    omega
  · obtain rfl : c = m := by omega
    have hs : ∀ k, k ≤ ws.length → symsW ws c k = [] := by
      intro k hk
      induction k with
      | zero => rfl
      | succ k ih =>
        simp only [symsW]
        rw [if_neg (by have := h.wt_le k (by omega); omega)]
        exact ih (by omega)
    rw [ordTo, hs i hi, List.append_nil, h.all]
    exact Nat.le_refl _

set_option maxRecDepth 100000 in
set_option maxHeartbeats 4000000 in
theorem wordsD_any (a : Option Addr) (cap gb off : Nat) (ws : List Nat) (m : Nat) (w : World) (hB : Bytes w a cap gb off ws) (hc : IsCode ws m) :
    Calls Try.prog 26 #[.slice a ws.length cap] w fun e w' => ∃ g, e = .returned (.slice (some ⟨g, 0, none⟩) ws.length ws.length) ∧ w.heap.size ≤ g ∧ WdA w' g ws.length (fun s => if wt ws s = 0 then 0 else wordX ws s) (fun s => if wt ws s = 0 then 0 else m + 1 - wt ws s) ∧ Keep noBlock w w' := by
  have HBt := (show Hid (Calls Try.prog 15 #[.slice a ws.length cap] w fun e w' => e = .returned (.int .i64 (m : Int)) ∧ w' = w) from by
    have := bitsD_any a cap gb off ws w hB
    rw [hc.codeM] at this
    exact this)
  have hlen := hc.len
  have hm11 := hc.m11
  have HH := (show Hid (Bytes w a cap gb off ws ∧ IsCode ws m) from ⟨hB, hc⟩)
  obtain ⟨N, hN⟩ : ∃ N, N = ws.length := ⟨_, rfl⟩
  have HN := (show Hid (N = ws.length) from hN)
  rw [← hN] at hlen HBt ⊢
  have hmk : ∀ W : World, _ := fun W => run_make56 N (by omega) W
  have hNI : (N : Int) ≤ 256 := by omega
  have hmI : (m : Int) ≤ 11 := by omega
  obtain ⟨g, hg⟩ : ∃ g, g = w.heap.size := ⟨_, rfl⟩
  have HF := (show Hid (WdA (w.alloc (.cells (madeCells #[.int .u64 0, .int .i64 0] (N * 2)) 62)) g N (ofX ws (ordC ws 0)) (ofN ws m (ordC ws 0)) ∧ Keep noBlock w (w.alloc (.cells (madeCells #[.int .u64 0, .int .i64 0] (N * 2)) 62))) from by
    rw [hg]
    exact ⟨(wdA_made w N).congr (fun i _ => rfl) (fun i _ => rfl), (Keep.refl _ w).alloc _⟩)
  have HG := (show Hid (g = w.heap.size) from hg)
  clear hB hc hN
  go_enter Try.func26, Try.ntmps26
  go_wp2_with (go_at_call 15; refine HBt.out.mono ?_; rintro e w' ⟨rfl, rfl⟩)
  rw [← hg]
  clear hg
  go_loopw [5, 6] (fun v5 v6 wr => ∃ (c x : Nat), v6 = .int .i64 ((c : Int) + 1) ∧ v5 = .int .i64 (x : Int) ∧ c ≤ m + 1 ∧ Hid (x = nextL ws (ordC ws c) ∧ WdA wr g N (ofX ws (ordC ws c)) (ofN ws m (ordC ws c)) ∧ Keep noBlock w' wr)) (fun _ v6 _ => m + 2 - (intOf v6).toNat)
  case atStart => exact ⟨0, 0, rfl, rfl, Nat.zero_le _, rfl, HF.out⟩
  case round =>
    clear HF
    obtain ⟨c, x, rfl, rfl, hcm, HC⟩ := hrel
    by_cases hlt : c < m + 1
    · have hltI : (c : Int) + 1 ≤ (m : Int) + 1 := by omega
      have hcI : (c : Int) ≤ 11 := by omega
      go_wp2_with fail
      go_loopw [5, 7] (fun v5 v7 wr => ∃ (i x : Nat), v7 = .int .i64 (i : Int) ∧ v5 = .int .i64 (x : Int) ∧ i ≤ N ∧ Hid (x = nextL ws (ordTo ws c i) ∧ WdA wr g N (ofX ws (ordTo ws c i)) (ofN ws m (ordTo ws c i)) ∧ Keep noBlock w' wr)) (fun _ v7 _ => N - (intOf v7).toNat)
      case atStart => exact ⟨0, x, rfl, rfl, Nat.zero_le _, by rw [ordTo_zero]; exact HC.out⟩
      case round =>
        clear HC
        obtain ⟨i, x, rfl, rfl, hi, HC⟩ := hrel
        by_cases hil : i < N
        · have hix : i < ws.length := by have := HN.out; omega
          obtain ⟨hx, hWd, hK⟩ := HC.out
          have hBr := HH.out.1.keep hK (fun _ h => h)
          obtain rfl := hBr.here hix
          have c3 := hBr.cells i hix
          have hy11 := HH.out.2.le i hix
          have hwm := HH.out.2.wt_le i hix
          have hilI : (i : Int) < (N : Int) := by omega
          have hle := HH.out.2.all_to c i (by omega) (by omega)
          have hp11 : 2 ^ m ≤ 2048 := Nat.pow_le_pow_right (n := 2) (j := 11) (by omega) hm11
          have hx2 : x ≤ 2048 := by rw [hx]; exact Nat.le_trans hle hp11
          obtain ⟨y, hy⟩ : ∃ y, y = ws[i]?.getD 0 := ⟨_, rfl⟩
          have hwy : wt ws i = y := hy.symm
          rw [← hy] at c3
          rw [hwy] at hy11 hwm
          have hyI : (y : Int) ≤ 11 := by omega
          have hx2I : (x : Int) ≤ 2048 := by omega
          clear hle hp11
          by_cases hyc : y = c + 1
          · have hb : ((y : Int) == (c : Int) + 1) = true := by rw [beq_iff_eq]; omega
            have hwi : wt ws i = c + 1 := by rw [hwy]; exact hyc
            have hto := ordTo_here ws c i hwi
            obtain ⟨X, hX⟩ : ∃ X, X = wordX ws i := ⟨_, rfl⟩
            have hXx : X = x / 2 ^ c := by rw [hX]; unfold wordX startW; rw [hwi, Nat.add_sub_cancel, hx]
            have hXI : (x : Int) / 2 ^ c = (X : Int) := by rw [hXx]; simp
            have hXl : X ≤ 2048 := by rw [hXx]; exact Nat.le_trans (Nat.div_le_self _ _) hx2
            obtain ⟨L, hL⟩ : ∃ L, L = m + 1 - wt ws i := ⟨_, rfl⟩
            have hLI : (m : Int) + 1 - ((c : Int) + 1) = (L : Int) := by clear hXI hXx; omega
            obtain ⟨P, hP⟩ : ∃ P, P = shN (wt ws i) := ⟨_, rfl⟩
            have hPl : P ≤ 1024 := by rw [hP]; exact shN_le _ (by rw [hwy]; exact hy11)
            have hPI : wrap64 ((2 : Int) ^ c) = (P : Int) := by
              have e : (2 : Int) ^ c = (P : Int) := by rw [hP, hwi, shN_succ]; simp
              rw [e]
              clear e hXI hXx
              unfold wrap64; omega
            have hn2 : x + P = nextL ws (ordTo ws c (i + 1)) := by rw [hto, nextL_app, nextL_one, ← hP, hx]
            have hset := (hWd.set i X L).congr (fun j _ => show _ = ofX ws (ordTo ws c (i + 1)) j from by rw [hto, ← ofX_snoc, hX]) (fun j _ => show _ = ofN ws m (ordTo ws c (i + 1)) j from by rw [hto, ← ofN_snoc, hL])
            obtain ⟨t1, t2⟩ := hWd.cells i hil
            have f1 := hWd.frozen (i * 2)
            have f2 := hWd.frozen (i * 2 + 1)
            have hgw := HG.out
            have hks : Keep noBlock w' ((wr.setCell ⟨g, i * 2, none⟩ (.int .u64 (X : Int))).setCell ⟨g, i * 2 + 1, none⟩ (.int .i64 (L : Int))) := (hK.setCell (p := ⟨g, i * 2, none⟩) (fun h => by dsimp only at h; omega) _).setCell (p := ⟨g, i * 2 + 1, none⟩) (fun h => by dsimp only at h; omega) _
            have HS := (show Hid (x + P = nextL ws (ordTo ws c (i + 1)) ∧ WdA ((wr.setCell ⟨g, i * 2, none⟩ (.int .u64 (X : Int))).setCell ⟨g, i * 2 + 1, none⟩ (.int .i64 (L : Int))) g N (ofX ws (ordTo ws c (i + 1))) (ofN ws m (ordTo ws c (i + 1))) ∧ Keep noBlock w' ((wr.setCell ⟨g, i * 2, none⟩ (.int .u64 (X : Int))).setCell ⟨g, i * 2 + 1, none⟩ (.int .i64 (L : Int)))) from ⟨hn2, hset, hks⟩)
            have hXlI : (X : Int) ≤ 2048 := by clear hXI hXx hPI; omega
            have hPlI : (P : Int) ≤ 1024 := by clear hXI hXx hPI; omega
            have HPI := (show Hid _ from hPI)
            clear hx hWd hK hBr hy hwy hwi hto hX hXx hL hP hn2 hset hgw hks HC hyc hPI
            go_wp2_with fail
            go_roundw
            case rel => exact ⟨i + 1, x + P, by go_num, by rw [HPI.out]; congr 1; unfold wrap64; omega, by omega, HS.out⟩
            case measure => simp [intOf]; omega
          · have hb : ((y : Int) == (c : Int) + 1) = false := by rw [beq_eq_false_iff_ne]; omega
            have HJ := (show Hid (x = nextL ws (ordTo ws c (i + 1)) ∧ WdA wr g N (ofX ws (ordTo ws c (i + 1))) (ofN ws m (ordTo ws c (i + 1))) ∧ Keep noBlock w' wr) from by rw [ordTo_not ws c i (by rw [hwy]; exact hyc)]; exact HC.out)
            clear hx hWd hK hBr hy hwy HC hyc
            go_wp2_with fail
            go_roundw
            case rel => exact ⟨i + 1, x, by go_num, rfl, by omega, HJ.out⟩
            case measure => simp [intOf]; omega
        · obtain rfl : i = N := by omega
          have hilI : ¬ (i : Int) < (i : Int) := by omega
          have HJ := (show Hid (x = nextL ws (ordC ws (c + 1)) ∧ WdA wr g i (ofX ws (ordC ws (c + 1))) (ofN ws m (ordC ws (c + 1))) ∧ Keep noBlock w' wr) from by rw [← ordTo_all, ← HN.out]; exact HC.out)
          clear HC
          go_wp2_with fail
          go_roundw
          case rel => exact ⟨c + 1, x, by go_num, rfl, by omega, HJ.out⟩
          case measure => simp [intOf]; omega
    · obtain rfl : c = m + 1 := by omega
      have hltI : ¬ ((m + 1 : Nat) : Int) + 1 ≤ (m : Int) + 1 := by omega
      obtain ⟨hx, hWd, hK⟩ := HC.out
      have hmem : ∀ s, s ∈ ordC ws (m + 1) ↔ wt ws s ≠ 0 := fun s => by
        rw [mem_ordC]
        constructor
        · rintro ⟨_, h2, _⟩; omega
        · intro h0
          obtain ⟨h1, h2⟩ := HH.out.2.wt_in s h0
          exact ⟨h1, by omega, by omega⟩
      have hfin := hWd.congr (fun i _ => show _ = (if wt ws i = 0 then 0 else wordX ws i) from by
        unfold ofX
        by_cases e : wt ws i = 0
        · rw [if_pos e, if_neg (fun q => (hmem i).1 q e)]
        · rw [if_neg e, if_pos ((hmem i).2 e)]) (fun i _ => show _ = (if wt ws i = 0 then 0 else m + 1 - wt ws i) from by
        unfold ofN
        by_cases e : wt ws i = 0
        · rw [if_pos e, if_neg (fun q => (hmem i).1 q e)]
        · rw [if_neg e, if_pos ((hmem i).2 e)])
      have HE := (show Hid (WdA wr g N (fun i => if wt ws i = 0 then 0 else wordX ws i) (fun i => if wt ws i = 0 then 0 else m + 1 - wt ws i) ∧ Keep noBlock w' wr) from ⟨hfin, hK⟩)
      clear hx hWd hK hmem hfin HC
      go_wp2
      go_ret
      exact ⟨g, rfl, by have := HG.out; omega, HE.out.1, HE.out.2⟩

end Go.Proofs.Ytkljidigmolmmaa
