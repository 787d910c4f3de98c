/-
  Write: a description, written.
  Write: a description, written: zeros, and all of it.
  Write of counts: their description, or ErrCounts.
  Read of a description: one count.
  What was put into a tail, and what is read of it again from the end on.
  Bytes as a string.
-/
import Derived.Test.YtgaepmmpedaaiaaGreatDoorBackQ3
import Derived.Test.YtgaepmmpedaaiaaGreatDoorBackQ5
namespace Go.Proofs.YtgaepmmpedaaiaaGreatDoor
open Go.RowKit Go.Shelf

/-- A writer of one's own, made since w, that was given the bits L. -/
structure Mine (w W : World) (wb : Nat) (L : List (Fin 2)) : Prop where
  is : ∃ v, IsW W wb v L ∧ ∀ k, v.ownBlock = some k → w.heap.size ≤ k
  new : w.heap.size ≤ wb
  keep : Keep noBlock w W
theorem Mine.drewN {w W : World} {wb : Nat} {L : List (Fin 2)} (h : Mine w W wb L) (q : Nat) : Mine w (W.drewN q) wb L := by
  obtain ⟨v, hv, hn⟩ := h.is
  exact ⟨⟨v, ⟨hv.obj, hv.row⟩, hn⟩, h.new, h.keep.trans (keep_drewN W q) (fun _ _ h => h)⟩
theorem Mine.next {w W W' : World} {wb : Nat} {L' : List (Fin 2)} {v : Value} (hv : ∀ k, v.ownBlock = some k → w.heap.size ≤ k) (hb : w.heap.size ≤ wb) (hk0 : Keep noBlock w W)
    (h : ∃ v', IsW W' wb v' L' ∧ Moves W.heap.size v v' ∧ Keep (fun k => k = wb ∨ v.ownBlock = some k) W W') : Mine w W' wb L' := by
  obtain ⟨v', h1, h2, h3⟩ := h
  refine ⟨⟨v', h1, fun k e => ?_⟩, hb, hk0.trans h3 ?_⟩
  · rcases h2 with h2 | ⟨j, h2, hj⟩
    · rw [h2] at e; exact hv k e
    · rw [h2] at e; cases e; have := hk0.size; omega
  · rintro i hi (e | e)
    · omega
    · have := hv i e; omega
theorem Mine.put {w W : World} {wb : Nat} {L : List (Fin 2)} (h : Mine w W wb L) (x m : Nat) (hx : x < 18446744073709551616) (hm : m ≤ 56) (hL : L.length < 1000000000000) :
    Calls Tryz.prog 107 #[.pointer (some ⟨wb, 0, none⟩), .int .u64 (x : Int), .int .i64 (m : Int)] W fun e W' => e = .returned (.int .i64 0) ∧ Mine w W' wb (L ++ low x m) := by
  obtain ⟨v, hv, hn⟩ := h.is
  refine (put_any wb v L x m hx hm hL W hv).mono ?_
  rintro e W' ⟨rfl, h1⟩
  exact ⟨rfl, Mine.next hn h.new h.keep h1⟩
theorem Mine.put_i {w W : World} {wb : Nat} {L : List (Fin 2)} (h : Mine w W wb L) (x m : Nat) (xi mi : Int) (e1 : xi = (x : Int)) (e2 : mi = (m : Int)) (hx : x < 18446744073709551616) (hm : m ≤ 56) (hL : L.length < 1000000000000) :
    Calls Tryz.prog 107 #[.pointer (some ⟨wb, 0, none⟩), .int .u64 xi, .int .i64 mi] W fun e W' => e = .returned (.int .i64 0) ∧ Mine w W' wb (L ++ low x m) := by
  subst e1 e2; exact h.put x m hx hm hL
theorem Mine.align {w W : World} {wb : Nat} {L : List (Fin 2)} (h : Mine w W wb L) (hL : L.length < 1000000000000) :
    Calls Tryz.prog 112 #[.pointer (some ⟨wb, 0, none⟩)] W fun e W' => e = .returned (.tuple #[]) ∧ Mine w W' wb (L ++ low 0 ((8 - L.length % 8) % 8)) := by
  obtain ⟨v, hv, hn⟩ := h.is
  refine (alignW_any wb v L hL W hv).mono ?_
  rintro e W' ⟨rfl, h1⟩
  exact ⟨rfl, Mine.next hn h.new h.keep h1⟩
theorem Mine.bytes {w W : World} {wb : Nat} {L : List (Fin 2)} (h : Mine w W wb L) (hL : L.length < 1000000000000) :
    Calls Tryz.prog 113 #[.pointer (some ⟨wb, 0, none⟩)] W fun e W' => ∃ v', e = .returned v' ∧ W'.ownsRow w.heap.size 5 1 v' (pack L).length (u8s (pack L)) ∧ Keep noBlock w W' := by
  obtain ⟨v, hv, hn⟩ := h.is
  refine (bytes_any wb v L (by omega) W hv).mono ?_
  rintro e W' ⟨v', rfl, h1, h2⟩
  refine ⟨v', rfl, ?_, h.keep.trans h2 (fun _ _ h => h)⟩
  have hs := h.keep.size
  refine ⟨h1.1, ?_⟩
  rcases h1.2 with hn | ⟨g, cap, cur, e, hb, hg, hr⟩
  · exact .inl hn
  · exact .inr ⟨g, cap, cur, e, by omega, hg, hr⟩
theorem mine_new (w : World) : Mine w (w.alloc (.cells #[.slice none 0 0, .int .i64 0] 192)) w.heap.size [] :=
  ⟨⟨.slice none 0 0, ⟨World.alloc_heap_new w _, World.ownsRow_nil _ _ _ _⟩, fun k e => by cases e⟩, Nat.le_refl _, (Keep.refl _ w).alloc _⟩

theorem valBits_cases (R v : Nat) : (v < valT R ∧ valBits R v = low v (valM R - 1)) ∨ (¬ v < valT R ∧ v < 2 ^ (valM R - 1) ∧ valBits R v = low v (valM R)) ∨ (¬ v < valT R ∧ ¬ v < 2 ^ (valM R - 1) ∧ valBits R v = low (v + valT R) (valM R)) := by
  unfold valBits
  by_cases h1 : v < valT R
  · exact .inl ⟨h1, if_pos h1⟩
  · by_cases h2 : v < 2 ^ (valM R - 1)
    · exact .inr (.inl ⟨h1, h2, by rw [if_neg h1, if_pos h2]⟩)
    · exact .inr (.inr ⟨h1, h2, by rw [if_neg h1, if_neg h2]⟩)

set_option maxHeartbeats 2000000 in
theorem writeCount_any (w W : World) (wb : Nat) (L : List (Fin 2)) (R v : Nat) (c : Int) (hM : Mine w W wb L) (hL : L.length < 100000) (hR1 : 1 ≤ R) (hR : R ≤ 4096) (hc : c + 1 = (v : Int)) (hv : v ≤ R + 1) :
    Calls Tryz.prog 108 #[.pointer (some ⟨wb, 0, none⟩), .int .i16 c, .int .i64 (R : Int)] W fun e W' => e = .returned (.tuple #[]) ∧ Mine w W' wb (L ++ valBits R v) := by
  have HV := (show Hid (∀ w : World, _) from fun w => valueBits_any R hR w)
  have hm2 := valM_ge R hR1
  have hm13 := valM_le R hR
  have hT := valT_eq R
  have hH := val_half R hR1
  have hcs := valBits_cases R v
  have hp : (2 : Nat) ^ valM R ≤ 2 ^ 13 := Nat.pow_le_pow_right (by omega) hm13
  have hcl : c ≤ 32766 := by omega
  generalize valBits R v = B at hcs ⊢
  generalize valM R = m at *
  generalize valT R = t at *
  obtain ⟨k, hm⟩ : ∃ k, m = k + 1 := ⟨m - 1, by omega⟩
  have hm1 : m - 1 = k := by omega
  rw [hm1] at hH hcs
  have hk : (m : Int) - 1 = (k : Int) := by omega
  clear hm1
  have hpk : (2 : Int) ^ k = ((2 ^ k : Nat) : Int) := by simp
  obtain ⟨P, hP⟩ : ∃ P : Nat, P = 2 ^ k := ⟨_, rfl⟩
  rw [← hP] at hpk hcs hH
  have hPb : P ≤ 4096 := by omega
  have hw : IntKind.u64.wrap (P : Int) = (P : Int) := by rw [IntKind.wrap_u64]; omega
  have hvv : (v : Int) ≤ 4097 := by omega
  have hk12 : (k : Int) ≤ 12 := by omega
  have hm13' : (m : Int) ≤ 13 := by omega
  have htt : (t : Int) ≤ 8192 := by omega
  have HM := (show Hid (Mine w W wb L) from hM)
  have HK := (show Hid (m = k + 1 ∧ k ≤ 12 ∧ 1 ≤ k) from ⟨hm, by omega, by omega⟩)
  clear hP hm hM hT hH hp hm2 hm13
  rcases hcs with ⟨h1, e1⟩ | ⟨h1, h2, e1⟩ | ⟨h1, h2, e1⟩
  · have g1 : (v : Int) < (t : Int) := by omega
    rw [e1]
    go_enter Tryz.func108, Tryz.ntmps108
    go_wp2_with (first | (go_at_call 124; refine (HV.out _).mono ?_; rintro e w' ⟨rfl, q, rfl⟩) | (go_at_call 107; refine ((HM.out.drewN _).put_i v k _ _ rfl (by omega) (by omega) (by have := HK.out; omega) (by omega)).mono ?_; rintro e w' ⟨rfl, hM2⟩))
    go_end0
    exact ⟨rfl, hM2⟩
  · have g1 : ¬ (v : Int) < (t : Int) := by omega
    have g2 : (v : Int) < (P : Int) := by omega
    rw [e1]
    go_enter Tryz.func108, Tryz.ntmps108
    go_wp2_with (first | (go_at_call 124; refine (HV.out _).mono ?_; rintro e w' ⟨rfl, q, rfl⟩) | (go_at_call 107; refine ((HM.out.drewN _).put_i v m _ _ rfl rfl (by omega) (by have := HK.out; omega) (by omega)).mono ?_; rintro e w' ⟨rfl, hM2⟩))
    go_end0
    exact ⟨rfl, hM2⟩
  · have g1 : ¬ (v : Int) < (t : Int) := by omega
    have g2 : ¬ (v : Int) < (P : Int) := by omega
    rw [e1]
    go_enter Tryz.func108, Tryz.ntmps108
    go_wp2_with (first | (go_at_call 124; refine (HV.out _).mono ?_; rintro e w' ⟨rfl, q, rfl⟩) | (go_at_call 107; refine ((HM.out.drewN _).put_i (v + t) m _ _ (by omega) rfl (by omega) (by have := HK.out; omega) (by omega)).mono ?_; rintro e w' ⟨rfl, hM2⟩))
    go_end0
    exact ⟨rfl, hM2⟩

end Go.Proofs.YtgaepmmpedaaiaaGreatDoor

namespace Go.Proofs.YtgaepmmpedaaiaaGreatDoor
open Go.RowKit Go.Shelf

set_option maxHeartbeats 1000000 in
theorem zerosAhead_any (a : Option Addr) (cap gb off : Nat) (cs : List Int) (w : World) (h : RowI w .i16 a cap gb off cs) (hl : cs.length ≤ 256) :
    Calls Tryz.prog 110 #[.slice a cs.length cap] w fun e w' => e = .returned (.int .i64 ((zl cs : Nat) : Int)) ∧ w' = w := by
  have HR := (show Hid (RowI w .i16 a cap gb off cs) from h)
  obtain ⟨n, hn⟩ : ∃ n, n = cs.length := ⟨_, rfl⟩
  rw [← hn] at hl ⊢
  have HN := (show Hid (n = cs.length) from hn)
  clear h hn
  go_enter Tryz.func110, Tryz.ntmps110
  go_wp2
  go_loop [3] (fun i => ∃ k : Nat, k ≤ n ∧ i = .int .i64 (k : Int) ∧ Hid (∀ i, i < k → cs[i]?.getD 0 = 0)) (fun i => n - (intOf i).toNat)
  case atStart => exact ⟨0, Nat.zero_le _, rfl, fun i hi => by omega⟩
  case round =>
    obtain ⟨k, hk, rfl, HZ⟩ := hrel
    by_cases hlt : k < n
    · have hkI : (k : Int) < (n : Int) := by omega
      obtain rfl := HR.out.here (i := k) (by have := HN.out; omega)
      have hc := HR.out.cells k (by have := HN.out; omega)
      obtain ⟨x, hx⟩ : ∃ x, x = cs[k]?.getD 0 := ⟨_, rfl⟩
      rw [← hx] at hc
      have HX := (show Hid (x = cs[k]?.getD 0) from hx)
      clear hx
      by_cases h0 : x = 0
      · subst h0
        go_wp2
        go_round
        case rel =>
          refine ⟨k + 1, by omega, by go_num, fun i hi => ?_⟩
          by_cases e : i = k
          · subst e; exact HX.out.symm
          · exact HZ.out i (by omega)
        case measure => simp [intOf]; omega
      · have h0b : (x == 0) = false := by simpa using h0
        go_wp2
        go_ret
        refine ⟨?_, rfl⟩
        rw [zl_uniq cs k HZ.out (by have := HN.out; omega) (by rw [← HX.out]; exact h0)]
        rfl
    · obtain rfl : k = n := by omega
      have hkI : ¬ (k : Int) < (k : Int) := by omega
      go_wp2
      go_ret
      refine ⟨?_, rfl⟩
      have h1 := zl_le cs
      have h2 : zl cs = k := by
        rcases Nat.lt_or_ge (zl cs) k with h | h
        · exact absurd (HZ.out _ h) (zl_end cs (by have := HN.out; omega))
        · have := HN.out; omega
      rw [h2]
      rfl

set_option maxHeartbeats 1000000 in
theorem writeZeros_any (w W : World) (wb : Nat) (L : List (Fin 2)) (n : Nat) (hM : Mine w W wb L) (hL : L.length < 100000) (hn : n ≤ 256) :
    Calls Tryz.prog 111 #[.pointer (some ⟨wb, 0, none⟩), .int .i64 (n : Int)] W fun e W' => e = .returned (.tuple #[]) ∧ Mine w W' wb (L ++ zbits n) := by
  go_enter Tryz.func111, Tryz.ntmps111
  go_wp2_with fail
  go_loopw [1] (fun i wr => ∃ (k : Nat) (M : List (Fin 2)), k ≤ n ∧ i = .int .i64 (k : Int) ∧ Mine w wr wb M ∧ M ++ zbits k = L ++ zbits n ∧ M.length + k ≤ L.length + n) (fun i _ => (intOf i).toNat)
  case atStart => exact ⟨n, L, Nat.le_refl _, rfl, hM, rfl, Nat.le_refl _⟩
  case round =>
    obtain ⟨k, M, hk, rfl, hM2, hE, hle⟩ := hrel
    have HE := (show Hid (M ++ zbits k = L ++ zbits n) from hE)
    have HM2 := (show Hid (Mine w wr wb M) from hM2)
    clear hE hM2 hM
    by_cases h3 : 3 ≤ k
    · obtain ⟨j, rfl⟩ : ∃ j, k = j + 3 := ⟨k - 3, by omega⟩
      have h3I : (3 : Int) ≤ ((j + 3 : Nat) : Int) := by omega
      have h3J : ((j + 3 : Nat) : Int) - 3 = (j : Int) := by omega
      obtain ⟨kk, hkk⟩ : ∃ kk, kk = j + 3 := ⟨_, rfl⟩
      have hjb : (j : Int) ≤ 256 := by omega
      rw [← hkk] at h3I h3J HE hle hk ⊢
      have HKK := (show Hid (kk = j + 3) from hkk)
      clear hkk
      go_wp2_with (go_at_call 107; refine (HM2.out.put_i 3 2 _ _ rfl rfl (by decide) (by decide) (by omega)).mono ?_; rintro e w' ⟨rfl, hM3⟩)
      go_roundw
      case rel => exact ⟨j, M ++ low 3 2, by have := HKK.out; omega, rfl, hM3, by rw [← HE.out, HKK.out, zbits_more, List.append_assoc], by rw [List.length_append, low_length]; have := HKK.out; omega⟩
      case measure => have := HKK.out; simp [intOf]; omega
    · have h3I : ¬ (3 : Int) ≤ (k : Int) := by omega
      have hkb : (k : Int) ≤ 2 := by omega
      go_wp2_with (go_at_call 107; refine (HM2.out.put_i k 2 _ _ rfl rfl (by omega) (by decide) (by omega)).mono ?_; rintro e w' ⟨rfl, hM3⟩)
      go_end0
      refine ⟨rfl, ?_⟩
      rw [← HE.out, zbits_few k (by omega)]
      exact hM3

end Go.Proofs.YtgaepmmpedaaiaaGreatDoor

namespace Go.Proofs.YtgaepmmpedaaiaaGreatDoor
open Go.RowKit Go.Shelf

/-- The bits of a description, up to the end of a byte. -/
def dscAll (xs : List Int) (l : Nat) : List (Fin 2) := low (l - 5) 4 ++ dsc xs.length (2 ^ l) xs
def alignL (L : List (Fin 2)) : List (Fin 2) := L ++ low 0 ((8 - L.length % 8) % 8)
/-- How long a slice is. -/
def sliceLen : Value → Nat
  | .slice _ n _ => n
  | _ => 0

set_option maxHeartbeats 400000 in
theorem write_bad (a : Option Addr) (cap gb off : Nat) (xs : List Int) (log : Int) (w : World) (h : RowI w .i16 a cap gb off xs) (hx : I16 xs) (hb : okT xs log = false) :
    Calls Tryz.prog 82 #[.slice a xs.length cap, .int .i64 log] w fun e w' => e = .returned (.tuple #[.slice none 0 0, .int .i64 70]) ∧ w' = w := by
  have HT := (show Hid (∀ w : World, RowI w .i16 a cap gb off xs → Calls Tryz.prog 94 #[.slice a xs.length cap, .int .i64 log] w fun e w' => e = .returned (.bool false) ∧ w' = w) from fun w h => by have := makeTable_any a cap gb off xs log w h hx; rwa [hb] at this)
  go_enter Tryz.func82, Tryz.ntmps82
  go_wp2_with (go_at_call 94; refine (HT.out _ h).mono ?_; rintro e w' ⟨rfl, rfl⟩)
  go_ret2
  exact ⟨rfl, rfl⟩

section
attribute [local go_sem] sliceSem_eq
set_option maxRecDepth 100000 in
set_option maxHeartbeats 2000000 in
theorem write_good (a : Option Addr) (cap gb off : Nat) (xs : List Int) (l : Nat) (w : World) (h : RowI w .i16 a cap gb off xs) (hx : I16 xs) (hb : okT xs (l : Int) = true) :
    Calls Tryz.prog 82 #[.slice a xs.length cap, .int .i64 (l : Int)] w fun e w' => ∃ v, e = .returned (.tuple #[v, .int .i64 0]) ∧ w'.ownsRow w.heap.size 5 1 v (pack (alignL (dscAll xs l))).length (u8s (pack (alignL (dscAll xs l)))) ∧ Keep noBlock w w' := by
  obtain ⟨hG, hT, hne, hlen, hl5, hl12⟩ := okT_good hb
  have HT := (show Hid (∀ w : World, RowI w .i16 a cap gb off xs → Calls Tryz.prog 94 #[.slice a xs.length cap, .int .i64 (l : Int)] w fun e w' => e = .returned (.bool true) ∧ w' = w) from fun w h => by have := makeTable_any a cap gb off xs l w h hx; rwa [hb] at this)
  have hdl := dsc_le xs.length (2 ^ l) xs (by rw [← hT]; exact hG.le)
  have hD : low (l - 5) 4 ++ dsc xs.length (tot xs) xs = dscAll xs l := by rw [hT]; rfl
  have hDl : (dscAll xs l).length ≤ 3844 := by
    unfold dscAll
    rw [List.length_append, low_length]; omega
  generalize dscAll xs l = D at hD hDl ⊢
  have hl5' : (l : Int) - 5 = ((l - 5 : Nat) : Int) := by omega
  obtain ⟨l5, hle⟩ : ∃ l5, l5 = l - 5 := ⟨_, rfl⟩
  rw [← hle] at hl5' hD
  have hp : (2 : Int) ^ l = ((tot xs : Nat) : Int) := by rw [hT]; simp
  have hTb := hG.le
  have hl12' : (l : Int) ≤ 12 := by omega
  have h5b : (l5 : Int) ≤ 7 := by omega
  obtain ⟨T, hTe⟩ : ∃ T, T = tot xs := ⟨_, rfl⟩
  have hTI : (T : Int) ≤ 4096 := by omega
  have HD := (show Hid (low l5 4 ++ dsc xs.length (tot xs) xs = D) from hD)
  rw [← hTe] at hp
  have HTE := (show Hid (T = tot xs) from hTe)
  have HH := (show Hid (RowI w .i16 a cap gb off xs ∧ Good xs) from ⟨h, hG⟩)
  obtain ⟨n, hn⟩ : ∃ n, n = xs.length := ⟨_, rfl⟩
  rw [← hn] at HT ⊢
  have HN := (show Hid (n = xs.length) from hn)
  clear hT hdl hD hle hTe hx hb hG hTb hn
  go_enter Tryz.func82, Tryz.ntmps82
  go_wp2_with (go_at_call 94; refine (HT.out _ h).mono ?_; rintro e w' ⟨rfl, rfl⟩)
  refine ((mine_new w').put_i l5 4 _ _ rfl rfl (by omega) (by decide) (by simp)).mono ?_
  rintro e W1 ⟨rfl, hM1⟩
  obtain ⟨wb, hwb⟩ : ∃ wb, wb = w'.heap.size := ⟨_, rfl⟩
  rw [← hwb] at hM1 ⊢
  have HWB := (show Hid (wb = w'.heap.size) from hwb)
  rw [List.nil_append] at hM1
  clear hwb HT h
  go_wp2_with fail
  go_loopw [0, 7] (fun v0 v7 wr => ∃ (cs : List Int) (a' : Option Addr) (cap' off' f R : Nat) (M : List (Fin 2)), v0 = .slice a' cs.length cap' ∧ v7 = .int .i64 (R : Int) ∧ Hid (RowI w' .i16 a' cap' gb off' cs ∧ Good cs ∧ R = tot cs ∧ cs.length ≤ f ∧ M ++ dsc f R cs = D ∧ cs.length ≤ 256) ∧ Hid (Mine w' wr wb M)) (fun v0 _ _ => sliceLen v0)
  case atStart => exact ⟨xs, a, cap, off, xs.length, T, low l5 4, by rw [HN.out], rfl, ⟨HH.out.1, HH.out.2, HTE.out, Nat.le_refl _, by rw [HTE.out]; exact HD.out, hlen⟩, hM1⟩
  case round =>
    clear HD HTE HH hM1 HN hp hl5' hTI
    obtain ⟨cs, a', cap', off', f, R, M, rfl, rfl, HC, HM⟩ := hrel
    cases cs with
    | nil =>
      have HE := (show Hid (M = D) from by
        have h : M ++ dsc f R [] = D := HC.out.2.2.2.2.1
        have h2 : dsc f R [] = [] := by cases f <;> rfl
        rw [h2, List.append_nil] at h
        exact h)
      rw [show ((([] : List Int).length : Nat)) = 0 from rfl]
      go_wp2_with fail
      refine (HM.out.align (by rw [HE.out]; omega)).mono ?_
      rintro e W2 ⟨rfl, hM2⟩
      go_wp2_with fail
      refine (hM2.bytes (by rw [HE.out, List.length_append, low_length]; omega)).mono ?_
      rintro e W3 ⟨v, rfl, hown, hK⟩
      rw [HE.out] at hown
      go_wp2_with fail
      go_ret2
      exact ⟨v, rfl, hown, hK⟩
    | cons c cs =>
      obtain ⟨hRow, hG, hR, hf, hD, h256⟩ := HC.out
      obtain ⟨f, rfl⟩ : ∃ f', f = f' + 1 := ⟨f - 1, by simp at hf; omega⟩
      obtain rfl := hRow.here (i := 0) (by simp)
      have hb := hG.at_ 0
      have hsh := tot_mem (c :: cs) 0 hG.low
      have hpos := hG.pos (by simp)
      have hle := hG.le
      rw [← hR] at hsh hpos hle
      rw [List.getElem?_cons_zero, Option.getD_some] at hb hsh
      have hML : M.length ≤ 3844 := by rw [← hD] at hDl; rw [List.length_append] at hDl; omega
      obtain ⟨v, hv⟩ : ∃ v, v = (c + 1).toNat := ⟨_, rfl⟩
      have hcv : c + 1 = (v : Int) := by omega
      have hvR : v ≤ R + 1 := by unfold shareN at hsh; split at hsh <;> omega
      have hs0 := shareN_pos c hb.1
      have hsz := shareN_zero c
      have htt : R = (shareN c).toNat + tot cs := hR
      obtain ⟨a2, off2, hsl, hR2⟩ := hRow.drop Tryz.underlying55 info42 1 (by simp)
      rw [show (c :: cs).drop 1 = cs from rfl] at hsl hR2
      rw [show ((1 : Nat) : Int) = (1 : Int) from rfl] at hsl
      have c0 : wr.cell? ⟨gb, off', none⟩ = some (.int .i16 c) := by
        have := (hRow.keep HM.out.keep (fun _ h => h)).cells 0 (by simp)
        simpa using this
      have hcell : ∀ W M', Mine w' W wb M' → W.cell? ⟨gb, off', none⟩ = some (.int .i16 c) := fun W M' hM => by
        have := (hRow.keep hM.keep (fun _ h => h)).cells 0 (by simp)
        simpa using this
      obtain ⟨n1, hn1⟩ : ∃ n1, n1 = (c :: cs).length := ⟨_, rfl⟩
      rw [← hn1] at hsl ⊢
      have hn1p : 0 < (n1 : Int) := by rw [List.length_cons] at hn1; omega
      have hn1b : (n1 : Int) ≤ 256 := by omega
      have hdd : dsc (f + 1) R (c :: cs) = valBits R v ++ (if c = 0 then zbits (zl cs) ++ dsc f R (cs.drop (zl cs)) else dsc f (R - (shareN c).toNat) cs) := by rw [hv]; rfl
      have HF := (show Hid (n1 = cs.length + 1 ∧ M ++ dsc (f + 1) R (c :: cs) = D ∧ dsc (f + 1) R (c :: cs) = valBits R v ++ (if c = 0 then zbits (zl cs) ++ dsc f R (cs.drop (zl cs)) else dsc f (R - (shareN c).toNat) cs) ∧ cs.length ≤ f ∧ Good cs ∧ RowI w' .i16 a2 (cap' - 1) gb off2 cs ∧ R = (shareN c).toNat + tot cs ∧ cs.length ≤ 256) from
        ⟨hn1, hD, hdd, by simp at hf; omega, hG.tail, hR2, htt, by simp at h256; omega⟩)
      have HW := (show Hid (Calls Tryz.prog 108 _ wr _) from writeCount_any w' wr wb M R v c HM.out (by omega) hpos hle hcv hvR)
      have HCE := (show Hid (∀ W M', Mine w' W wb M' → _) from hcell)
      have HSH := (show Hid (∀ w : World, _) from fun w => share_any c (by omega) (by omega) w)
      have hcb : -1 ≤ c := hb.1
      have hcb2 : c ≤ 4096 := hb.2
      have hRb : (R : Int) ≤ 4096 := by omega
      clear HC hRow hG hR hf hD h256 hR2 hdd hcell hn1 HM htt hv hcv hvR
      go_wp2_with fail
      refine HW.out.mono ?_
      rintro e W2 ⟨rfl, hM2⟩
      have c2 := HCE.out W2 _ hM2
      have HM2 := (show Hid (Mine w' W2 wb _) from hM2)
      clear c0 HW hM2
      by_cases hc0 : c = 0
      · subst hc0
        have h1 : shareN 0 = 0 := rfl
        obtain ⟨hn1, hD, hdd, hf, hG, hR2, htt, h256⟩ := HF.out
        rw [if_pos rfl] at hdd
        obtain ⟨a3, off3, hsl3, hR3⟩ := hR2.drop Tryz.underlying55 info42 (zl cs) (zl_le cs)
        have HZ := (show Hid (∀ W M', Mine w' W wb M' → Calls Tryz.prog 110 #[.slice a2 cs.length (cap' - 1)] W fun e w' => e = .returned (.int .i64 ((zl cs : Nat) : Int)) ∧ w' = W) from fun W M' hM => zerosAhead_any a2 (cap' - 1) gb off2 cs W (hR2.keep hM.keep (fun _ h => h)) h256)
        have hlv := valBits_le R v (by omega)
        have HF2 := (show Hid (n1 = cs.length + 1 ∧ (M ++ valBits R v) ++ (zbits (zl cs) ++ dsc f R (cs.drop (zl cs))) = D ∧ cs.length ≤ f ∧ Good (cs.drop (zl cs)) ∧ RowI w' .i16 a3 (cap' - 1 - zl cs) gb off3 (cs.drop (zl cs)) ∧ R = tot (cs.drop (zl cs)) ∧ cs.length ≤ 256) from
          ⟨hn1, by rw [List.append_assoc, ← hdd]; exact hD, hf, hG.drop _, hR3, by rw [tot_zeros cs _ (Nat.le_refl _)]; simpa [h1] using htt, h256⟩)
        have hzl := zl_le cs
        have hml : (M ++ valBits R v).length < 100000 := by rw [List.length_append]; omega
        have HML := (show Hid ((M ++ valBits R v).length < 100000) from hml)
        have hzb : zl cs ≤ 256 := by omega
        clear HF hn1 hD hdd hf hG hR2 htt h256 hR3 hlv hml hzl
        have hdl : (cs.drop (zl cs)).length = cs.length - zl cs := List.length_drop
        generalize hk : zl cs = k at *
        go_wp2_with (go_at_call 109; refine (HSH.out _).mono ?_; rintro e w'' ⟨rfl, rfl⟩)
        refine (HZ.out _ _ HM2.out).mono ?_
        rintro e w'' ⟨rfl, rfl⟩
        go_wp2_with fail
        refine (writeZeros_any w' _ wb _ k HM2.out HML.out hzb).mono ?_
        rintro e W3 ⟨rfl, hM3⟩
        go_wp2_with fail
        go_roundw
        case rel =>
          obtain ⟨hn1, hD, hf, hG, hR2, htt, h256⟩ := HF2.out
          exact ⟨cs.drop k, a3, cap' - 1 - k, off3, f, R, (M ++ valBits R v) ++ zbits k, by rw [List.length_drop], rfl, ⟨hR2, hG, htt, by rw [List.length_drop]; omega, by rw [List.append_assoc]; exact hD, by rw [List.length_drop]; omega⟩, hM3⟩
        case measure =>
          have := HF2.out.1
          show sliceLen _ < sliceLen _
          simp [sliceLen]; omega
      · have hcb0 : (c == 0) = false := by simpa using hc0
        have hsp : shareN c ≠ 0 := fun e => hc0 (hsz.1 e)
        obtain ⟨R2, hR2e⟩ : ∃ R2, R2 = R - (shareN c).toNat := ⟨_, rfl⟩
        have hsub : (R : Int) - shareN c = (R2 : Int) := by omega
        have HR2 := (show Hid (R2 = R - (shareN c).toNat) from hR2e)
        have hR2b : (R2 : Int) ≤ 4096 := by omega
        clear hsz hR2e
        generalize hs : shareN c = sc at *
        go_wp2_with (go_at_call 109; refine (HSH.out _).mono ?_; rintro e w'' ⟨rfl, rfl⟩)
        go_roundw
        case rel =>
          obtain ⟨hn1, hD, hdd, hf, hG, hR2, htt, h256⟩ := HF.out
          rw [if_neg hc0] at hdd
          refine ⟨cs, a2, cap' - 1, off2, f, R2, M ++ valBits R v, rfl, rfl, ⟨hR2, hG, by have := HR2.out; omega, hf, ?_, h256⟩, HM2.out⟩
          rw [List.append_assoc, HR2.out, ← hdd]; exact hD
        case measure =>
          have := HF.out.1
          show sliceLen _ < sliceLen _
          simp [sliceLen]; omega
end

end Go.Proofs.YtgaepmmpedaaiaaGreatDoor

namespace Go.Proofs.YtgaepmmpedaaiaaGreatDoor
open Go.RowKit Go.Shelf

theorem bitL_low (x m k : Nat) (h : k < m) : bitL (low x m) k = bitOf x k := by
  unfold bitL low upto
  rw [List.getElem?_map, List.getElem?_range h]
  rfl
theorem numF_bitOf (x m : Nat) : numF (fun k => bitOf x k) m = x % 2 ^ m := by
  induction m with
  | zero => simp [numF, Nat.mod_one]
  | succ m ih =>
    simp only [numF]
    rw [ih, Nat.mod_pow_succ, bitOf, Nat.mul_comm]
/-- The bits B stand in the bytes from bit p on. -/
def Laid (bs : List Nat) (p : Nat) (B : List (Fin 2)) : Prop := p + B.length ≤ 8 * bs.length ∧ ∀ k, k < B.length → bitAt bs (p + k) = bitL B k
theorem Laid.left {bs : List Nat} {p : Nat} {A B : List (Fin 2)} (h : Laid bs p (A ++ B)) : Laid bs p A := by
  obtain ⟨h1, h2⟩ := h
  rw [List.length_append] at h1 h2
  exact ⟨by omega, fun k hk => by rw [h2 k (by omega), bitL_app _ _ _ hk]⟩
theorem Laid.right {bs : List Nat} {p : Nat} {A B : List (Fin 2)} (h : Laid bs p (A ++ B)) : Laid bs (p + A.length) B := by
  obtain ⟨h1, h2⟩ := h
  rw [List.length_append] at h1 h2
  exact ⟨by omega, fun k hk => by rw [Nat.add_assoc, h2 (A.length + k) (by omega), bitL_behind]⟩
/-- A beginning of a number, read. -/
theorem Laid.num {bs : List Nat} {p x m : Nat} (h : Laid bs p (low x m)) (k : Nat) (hk : k ≤ m) : numAt bs p k = x % 2 ^ k := by
  rw [numAt_numF, ← numF_bitOf]
  refine numF_congr _ _ _ (fun i hi => ?_)
  rw [h.2 i (by rw [low_length]; omega), bitL_low x m i (by omega)]
theorem Laid.one {bs : List Nat} {p x m : Nat} (h : Laid bs p (low x m)) (k : Nat) (hk : k < m) : numAt bs (p + k) 1 = x / 2 ^ k % 2 := by
  have h1 := h.2 k (by rw [low_length]; omega)
  rw [bitL_low x m k hk] at h1
  rw [numAt_numF]
  show numF (fun j => bitAt bs (p + k + j)) 1 = _
  simp only [numF, Nat.add_zero, h1]
  simp [bitOf]
theorem Laid.le {bs : List Nat} {p : Nat} {B : List (Fin 2)} (h : Laid bs p B) : p + B.length ≤ 8 * bs.length := h.1

theorem bits_take_i (rb g : Nat) (bs : List Nat) (p m x : Nat) (mi : Int) (hmi : mi = (m : Int)) (hm : m ≤ 56) (w : World) (h : IsR w rb g bs p) (hp : p + m ≤ 8 * bs.length) (hx : numAt bs p m = x) :
    Calls Tryz.prog 100 #[.pointer (some ⟨rb, 0, none⟩), .int .i64 mi] w fun e w' => e = .returned (.tuple #[.int .u64 (x : Int), .int .i64 0]) ∧ IsR w' rb g bs (p + m) ∧ Keep (fun k => k = rb) w w' := by
  subst hmi hx; exact bits_take rb g bs p m hm w h hp

set_option maxHeartbeats 2000000 in
theorem readCount_any (rb g : Nat) (bs : List Nat) (p R v : Nat) (w : World) (h : IsR w rb g bs p) (hL : Laid bs p (valBits R v)) (hR1 : 1 ≤ R) (hR : R ≤ 4096) (hv : v ≤ R + 1) :
    Calls Tryz.prog 118 #[.pointer (some ⟨rb, 0, none⟩), .int .i64 (R : Int)] w fun e w' => e = .returned (.tuple #[.int .i16 ((v : Int) - 1), .int .i64 0]) ∧ IsR w' rb g bs (p + (valBits R v).length) ∧ Keep (fun k => k = rb) w w' := by
  have HV := (show Hid (∀ w : World, _) from fun w => valueBits_any R hR w)
  have hm2 := valM_ge R hR1
  have hm13 := valM_le R hR
  have hT := valT_eq R
  have hH := val_half R hR1
  have hcs := valBits_cases R v
  have hp : (2 : Nat) ^ valM R ≤ 2 ^ 13 := Nat.pow_le_pow_right (by omega) hm13
  generalize valBits R v = B at hcs hL ⊢
  generalize valM R = m at *
  generalize valT R = t at *
  obtain ⟨k, hm⟩ : ∃ k, m = k + 1 := ⟨m - 1, by omega⟩
  have hm1 : m - 1 = k := by omega
  rw [hm1] at hH hcs
  have hk : (m : Int) - 1 = (k : Int) := by omega
  have hk12 : (k : Int) ≤ 12 := by omega
  have hpk : (2 : Int) ^ k = ((2 ^ k : Nat) : Int) := by simp
  obtain ⟨P, hP⟩ : ∃ P : Nat, P = 2 ^ k := ⟨_, rfl⟩
  rw [← hP] at hpk hcs hH
  have hPb : P ≤ 4096 := by omega
  have hPI : (P : Int) ≤ 4096 := by omega
  have htP : (t : Int) ≤ (P : Int) := by omega
  have hvv : (v : Int) ≤ 4097 := by omega
  have HK := (show Hid (m = k + 1 ∧ k ≤ 12 ∧ P = 2 ^ k ∧ IsR w rb g bs p ∧ Laid bs p B) from ⟨hm, by omega, hP, h, hL⟩)
  have kq : ∀ q, Keep (fun k => k = rb) w (w.drewN q) := fun q => (keep_drewN w q).mono (fun _ _ h => h.elim)
  rcases hcs with ⟨h1, e1⟩ | ⟨h1, h2, e1⟩ | ⟨h1, h2, e1⟩
  · have g1 : ¬ (t : Int) ≤ (v : Int) := by omega
    subst e1
    have hn : numAt bs p k = v := by rw [hL.num k (Nat.le_refl _), ← hP, Nat.mod_eq_of_lt (by omega)]
    have hle := hL.le
    rw [low_length] at hle ⊢
    have HN := (show Hid (numAt bs p k = v ∧ p + k ≤ 8 * bs.length) from ⟨hn, hle⟩)
    have HQ := (show Hid (∀ q, Keep (fun k => k = rb) w (w.drewN q)) from kq)
    clear hP hm h hT hH hp hm2 hm13 hn hle hL hm1 kq
    go_enter Tryz.func118, Tryz.ntmps118
    go_wp2_with (first | (go_at_call 124; refine (HV.out _).mono ?_; rintro e w' ⟨rfl, q, rfl⟩) | (go_at_call 100; refine (bits_take_i rb g bs p k v _ rfl (by have := HK.out; omega) _ (HK.out.2.2.2.1.drewN _) HN.out.2 HN.out.1).mono ?_; rintro e w' ⟨rfl, hI2, hK2⟩))
    go_ret2
    exact ⟨rfl, hI2, (HQ.out q).trans hK2 (fun _ _ h => h)⟩
  · have g1 : (t : Int) ≤ (v : Int) := by omega
    subst e1
    have hn : numAt bs p k = v := by rw [hL.num k (by omega), ← hP, Nat.mod_eq_of_lt (by omega)]
    have hn2 : numAt bs (p + k) 1 = 0 := by rw [hL.one k (by omega), ← hP, Nat.div_eq_of_lt (by omega)]
    have hle := hL.le
    rw [low_length] at hle ⊢
    have HN := (show Hid (numAt bs p k = v ∧ p + k ≤ 8 * bs.length ∧ numAt bs (p + k) 1 = 0 ∧ p + k + 1 ≤ 8 * bs.length ∧ p + k + 1 = p + m) from ⟨hn, by omega, hn2, by omega, by omega⟩)
    have HQ := (show Hid (∀ q, Keep (fun k => k = rb) w (w.drewN q)) from kq)
    clear hP hm h hT hH hp hm2 hm13 hn hle hL hm1 kq hn2
    go_enter Tryz.func118, Tryz.ntmps118
    go_wp2_with (go_at_call 124; refine (HV.out _).mono ?_; rintro e w' ⟨rfl, q, rfl⟩)
    refine (bits_take_i rb g bs p k v _ rfl (by have := HK.out; omega) _ (HK.out.2.2.2.1.drewN _) HN.out.2.1 HN.out.1).mono ?_
    rintro e w1 ⟨rfl, hI1, hK1⟩
    go_wp2_with fail
    refine (bits_take_i rb g bs (p + k) 1 0 _ rfl (by omega) _ hI1 HN.out.2.2.2.1 HN.out.2.2.1).mono ?_
    rintro e w2 ⟨rfl, hI2, hK2⟩
    go_wp2_with fail
    go_ret2
    rw [HN.out.2.2.2.2] at hI2
    exact ⟨rfl, hI2, ((HQ.out q).trans hK1 (fun _ _ h => h)).trans hK2 (fun _ _ h => h)⟩
  · obtain ⟨u, hu⟩ : ∃ u, v + t = u + P := ⟨v + t - P, by omega⟩
    have g1 : (t : Int) ≤ (u : Int) := by omega
    have g2 : (u : Int) + ((P : Int) - (t : Int)) = (v : Int) := by omega
    have huP : u < P := by omega
    have huI : (u : Int) ≤ 4096 := by omega
    subst e1
    have hn : numAt bs p k = u := by rw [hL.num k (by omega), ← hP, hu, Nat.add_mod_right, Nat.mod_eq_of_lt huP]
    have hn2 : numAt bs (p + k) 1 = 1 := by rw [hL.one k (by omega), ← hP, hu, Nat.add_div_right _ (by omega), Nat.div_eq_of_lt huP]
    have hle := hL.le
    rw [low_length] at hle ⊢
    have HN := (show Hid (numAt bs p k = u ∧ p + k ≤ 8 * bs.length ∧ numAt bs (p + k) 1 = 1 ∧ p + k + 1 ≤ 8 * bs.length ∧ p + k + 1 = p + m) from ⟨hn, by omega, hn2, by omega, by omega⟩)
    have HQ := (show Hid (∀ q, Keep (fun k => k = rb) w (w.drewN q)) from kq)
    clear hP hm h hT hH hp hm2 hm13 hn hle hL hm1 kq hn2 hu huP
    go_enter Tryz.func118, Tryz.ntmps118
    go_wp2_with (go_at_call 124; refine (HV.out _).mono ?_; rintro e w' ⟨rfl, q, rfl⟩)
    refine (bits_take_i rb g bs p k u _ rfl (by have := HK.out; omega) _ (HK.out.2.2.2.1.drewN _) HN.out.2.1 HN.out.1).mono ?_
    rintro e w1 ⟨rfl, hI1, hK1⟩
    go_wp2_with fail
    refine (bits_take_i rb g bs (p + k) 1 1 _ rfl (by omega) _ hI1 HN.out.2.2.2.1 HN.out.2.2.1).mono ?_
    rintro e w2 ⟨rfl, hI2, hK2⟩
    go_wp2_with fail
    go_ret2
    rw [HN.out.2.2.2.2] at hI2
    exact ⟨rfl, hI2, ((HQ.out q).trans hK1 (fun _ _ h => h)).trans hK2 (fun _ _ h => h)⟩

end Go.Proofs.YtgaepmmpedaaiaaGreatDoor

namespace Go.Proofs.YtgaepmmpedaaiaaGreatDoor.Tl
open Go.RowKit Go.Shelf
set_option linter.unusedVariables false

/-- What was put is read as it was put. -/
theorem num_back (A M : List (Fin 2)) (x m : Nat) (L : List (Fin 2)) (h : L = A ++ low x m ++ M) : numAt (pack L) A.length m = x % 2 ^ m := by
  rw [numAt_numF, ← numF_bitOf]
  refine numF_congr _ _ _ (fun i hi => ?_)
  rw [bitAt_pack, h, List.append_assoc, bitL_behind, bitL_app _ _ _ (by rw [low_length]; exact hi), bitL_low x m i hi]

/-- The last byte of bits with the mark behind them: the mark is its highest bit. -/
theorem last_byte (L : List (Fin 2)) : 2 ^ (L.length % 8) ≤ byteOf (L ++ [1]) (L.length / 8) ∧ byteOf (L ++ [1]) (L.length / 8) < 2 ^ (L.length % 8 + 1) := by
  have h2 : byteOf (L ++ [1]) (L.length / 8) = numF (fun i => bitL (L ++ [1]) (8 * (L.length / 8) + i)) (L.length % 8 + 1) :=
    numF_ext _ _ _ (by omega) (fun i h1 h2 => bitL_far _ _ (by simp; omega))
  have hlt := numF_lt (fun i => bitL (L ++ [1]) (8 * (L.length / 8) + i)) (fun _ => bitL_lt _ _) (L.length % 8 + 1)
  rw [← h2] at hlt
  refine ⟨?_, hlt⟩
  rw [h2]
  simp only [numF]
  rw [show 8 * (L.length / 8) + L.length % 8 = L.length from by omega, bitL_new L 1]
  have : ((1 : Fin 2).val) * 2 ^ (L.length % 8) = 2 ^ (L.length % 8) := by simp
  omega
theorem mark_last (L : List (Fin 2)) : (pack (L ++ [1]))[(pack (L ++ [1])).length - 1]?.getD 0 = byteOf (L ++ [1]) (L.length / 8) := by
  have hl : (pack (L ++ [1])).length = L.length / 8 + 1 := by rw [pack_length]; simp; omega
  rw [hl, Nat.add_sub_cancel]
  exact pack_at (L ++ [1]) _ (by simp; omega)
theorem mark_ne (L : List (Fin 2)) : (pack (L ++ [1]))[(pack (L ++ [1])).length - 1]?.getD 0 ≠ 0 := by
  rw [mark_last]
  have := (last_byte L).1
  have := Nat.two_pow_pos (L.length % 8)
  omega
/-- The tail is what was put. -/
theorem tailLen_mark (L : List (Fin 2)) : tailLen (pack (L ++ [1])) = L.length := by
  have hl : (pack (L ++ [1])).length = L.length / 8 + 1 := by rw [pack_length]; simp; omega
  have hb := last_byte L
  have hne := mark_ne L
  unfold tailLen
  rw [mark_last] at hne ⊢
  rw [hl, Nat.add_sub_cancel]
  unfold lenB
  rw [if_neg hne]
  have h1 := (Nat.log2_lt hne (k := L.length % 8 + 1)).2 hb.2
  have h2 := (Nat.le_log2 hne (k := L.length % 8)).2 hb.1
  omega

/-- New over a row of one's own that ends with a mark. -/
theorem new_own (v : Value) (bs : List Nat) (hlen : bs.length ≤ 140737488355326) (hbs : ∀ j : Nat, bs[j]?.getD 0 < 256) (h0 : bs[bs.length - 1]?.getD 0 ≠ 0) (w : World) (hown : w.ownsRow 0 5 1 v bs.length (u8s bs)) :
    Calls Tryz.prog 33 #[v] w fun e w' => ∃ rb g, e = .returned (.tuple #[.pointer (some ⟨rb, 0, none⟩), .int .i64 0]) ∧ w.heap.size ≤ rb ∧ w.heap.size ≤ g ∧ IsR w' rb g bs (tailLen bs) 0 ∧ Keep noBlock w w' := by
  have hpos : 0 < bs.length := by
    cases bs with
    | nil => simp at h0
    | cons x l => simp
  rcases hown.2 with ⟨rfl, e0⟩ | ⟨gb, cap, cur, rfl, _⟩
  · omega
  · obtain ⟨k, hk⟩ : ∃ k, bs.length = k + 1 := ⟨bs.length - 1, by omega⟩
    rw [hk]
    rw [show bs.length - 1 = k from by omega] at h0
    refine new_mark gb 0 cap k _ bs hk (by omega) hbs w rfl h0 (fun j hj => ?_)
    have := hown.cells (g := gb) rfl j _ (u8s_at bs j hj)
    rw [add0] at this
    rwa [Nat.zero_add]

/-- A writer of one's own, made since w, that was given the bits L. -/
structure MineT (w W : World) (wb : Nat) (L : List (Fin 2)) : Prop where
  is : ∃ v, IsW W wb v L ∧ ∀ k, v.ownBlock = some k → w.heap.size ≤ k
  new : w.heap.size ≤ wb
  keep : Keep noBlock w W
theorem MineT.keeps {w W W' : World} {wb : Nat} {L : List (Fin 2)} (h : MineT w W wb L) (hk : Keep noBlock W W') : MineT w W' wb L := by
  obtain ⟨v, hv, hn⟩ := h.is
  exact ⟨⟨v, hv.keep hk (fun h => h) (fun _ _ h => h), hn⟩, h.new, h.keep.trans hk (fun _ _ h => h)⟩
theorem mineT_new (w : World) (W : World) (hk : Keep noBlock w W) : MineT w (W.alloc (.cells #[.slice none 0 0, .int .u8 0, .int .i64 0] 153)) W.heap.size [] :=
  ⟨⟨.slice none 0 0, isW_new W, fun k e => by cases e⟩, hk.size, hk.alloc _⟩
theorem MineT.put {w W : World} {wb : Nat} {L : List (Fin 2)} (h : MineT w W wb L) (x m : Nat) (hx : x < 18446744073709551616) (hm : m ≤ 56) (hL : L.length < 1000000000000) :
    Calls Tryz.prog 92 #[.pointer (some ⟨wb, 0, none⟩), .int .u64 (x : Int), .int .i64 (m : Int)] W fun e W' => e = .returned (.int .i64 0) ∧ MineT w W' wb (L ++ low x m) := by
  obtain ⟨v, hv, hn⟩ := h.is
  refine (put_any wb v L x m hx hm hL W hv).mono ?_
  rintro e W' ⟨rfl, v', h1, h2, h3⟩
  refine ⟨rfl, ⟨v', h1, fun k e => ?_⟩, h.new, h.keep.trans h3 ?_⟩
  · rcases h2 with h2 | ⟨j, h2, hj⟩
    · rw [h2] at e; exact hn k e
    · rw [h2] at e; cases e; have := h.keep.size; omega
  · rintro i hi (e | e)
    · have := h.new; omega
    · have := hn i e; omega
/-- Close of a writer: the tail's bytes. -/
theorem MineT.close {w W : World} {wb : Nat} {L : List (Fin 2)} (h : MineT w W wb L) (hL : L.length < 1000000000000) :
    Calls Tryz.prog 75 #[.pointer (some ⟨wb, 0, none⟩)] W fun e W' => ∃ v', e = .returned v' ∧ W'.ownsRow 0 5 1 v' (pack (L ++ [1])).length (u8s (pack (L ++ [1]))) ∧ Keep noBlock w W' := by
  obtain ⟨v, hv, hn⟩ := h.is
  refine (close_any wb v L hL W hv).mono ?_
  rintro e W' ⟨v', rfl, h1, _, _, h3⟩
  refine ⟨v', rfl, h1, h.keep.trans h3 ?_⟩
  rintro i hi (e | e)
  · have := h.new; omega
  · have := hn i e; omega
/-- New of what Close gave: the reader stands behind all bits that were put. -/
theorem new_closed (v : Value) (L : List (Fin 2)) (hL : L.length < 1000000000000) (w : World) (hown : w.ownsRow 0 5 1 v (pack (L ++ [1])).length (u8s (pack (L ++ [1])))) :
    Calls Tryz.prog 33 #[v] w fun e w' => ∃ rb g, e = .returned (.tuple #[.pointer (some ⟨rb, 0, none⟩), .int .i64 0]) ∧ w.heap.size ≤ rb ∧ w.heap.size ≤ g ∧ IsR w' rb g (pack (L ++ [1])) L.length 0 ∧ Keep noBlock w w' := by
  have hpl : (pack (L ++ [1])).length ≤ 140737488355326 := by rw [pack_length]; simp; omega
  have := new_own v _ hpl (pack_lt _) (mark_ne L) w hown
  rw [tailLen_mark] at this
  exact this
/-- Bits(m) of a reader that has so many. -/
theorem bits_there (rb g : Nat) (bs : List Nat) (p m u x : Nat) (hm : m ≤ 56) (hu : u = p + m) (hx : numAt bs p m = x) (w : World) (h : IsR w rb g bs u 0) :
    Calls Tryz.prog 34 #[.pointer (some ⟨rb, 0, none⟩), .int .i64 (m : Int)] w fun e w' => e = .returned (.int .u64 (x : Int)) ∧ IsR w' rb g bs p 0 ∧ Keep (fun k => k = rb) w w' := by
  have := bits_read rb g bs p m 0 u m 0 0 (m : Int) w h hu (by omega) (.inl rfl) (by omega) (by omega)
  rw [Nat.pow_zero, Nat.mul_one, hx] at this
  exact this

end Go.Proofs.YtgaepmmpedaaiaaGreatDoor.Tl

namespace Go.Proofs.YtgaepmmpedaaiaaGreatDoor
open Go.RowKit Go.Shelf

/-- Bytes as a string. -/
def strOf (bs : List Nat) : ByteArray := (bs.map (fun b => ((b : Nat) : Int))).foldl (fun r n => r.push (UInt8.ofNat n.toNat)) ByteArray.empty
theorem run_conv {w : World} {v : Value} {bs : List Nat} (h : Src w v bs) : (convert 22 9 v).run Tryz.prog w = .ok (.string (strOf bs)) w := by
  rcases h with ⟨rfl, rfl⟩ | ⟨a, cap, rfl, _, hc⟩
  · rw [run_convert_bytes_string w 22 9 5 none 0 0 Tryz.underlying22 Tryz.underlying5 Tryz.underlying9]
    rfl
  · rw [run_convert_bytes_string w 22 9 5 (some a) bs.length cap Tryz.underlying22 Tryz.underlying5 Tryz.underlying9]
    refine run_bytesToString w a bs.length cap (bs.map (fun b => ((b : Nat) : Int))) ?_
    have := run_loadCells_list (P := Tryz.prog) w a (u8s bs) hc
    rw [u8s_length] at this
    rw [this]
    simp [u8s]

end Go.Proofs.YtgaepmmpedaaiaaGreatDoor
