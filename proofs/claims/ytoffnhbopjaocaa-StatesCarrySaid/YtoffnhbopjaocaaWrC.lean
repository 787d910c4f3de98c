/-
  Write: a description, written.
-/
import Derived.Test.YtoffnhbopjaocaaDsc
namespace Go.Proofs.Ytoffnhbopjaocaa
open Go.RowKit Go.Shelf

/-- A writer of one's own, made since w, that was given the bits L. -/
structure Mine (w W : World) (wb : Nat) (L : List (Fin 2)) : Prop where
  is : ∃ v, IsW W wb v L ∧ ∀ k, v.ownBlock = some k → w.heap.size ≤ k
  new : w.heap.size ≤ wb
  keep : Keep noBlock w W
theorem Mine.drewN {w W : World} {wb : Nat} {L : List (Fin 2)} (h : Mine w W wb L) (q : Nat) : Mine w (W.drewN q) wb L := by
  obtain ⟨v, hv, hn⟩ := h.is
  exact ⟨⟨v, ⟨hv.obj, hv.row⟩, hn⟩, h.new, h.keep.trans (keep_drewN W q) (fun _ _ h => h)⟩
theorem Mine.next {w W W' : World} {wb : Nat} {L' : List (Fin 2)} {v : Value} (hv : ∀ k, v.ownBlock = some k → w.heap.size ≤ k) (hb : w.heap.size ≤ wb) (hk0 : Keep noBlock w W)
    (h : ∃ v', IsW W' wb v' L' ∧ Moves W.heap.size v v' ∧ Keep (fun k => k = wb ∨ v.ownBlock = some k) W W') : Mine w W' wb L' := by
  obtain ⟨v', h1, h2, h3⟩ := h
  refine ⟨⟨v', h1, fun k e => ?_⟩, hb, hk0.trans h3 ?_⟩
  · rcases h2 with h2 | ⟨j, h2, hj⟩
    · rw [h2] at e; exact hv k e
    · rw [h2] at e; cases e; have := hk0.size; omega
  · rintro i hi (e | e)
    · omega
    · have := hv i e; omega
theorem Mine.put {w W : World} {wb : Nat} {L : List (Fin 2)} (h : Mine w W wb L) (x m : Nat) (hx : x < 18446744073709551616) (hm : m ≤ 56) (hL : L.length < 1000000000000) :
    Calls Try.prog 25 #[.pointer (some ⟨wb, 0, none⟩), .int .u64 (x : Int), .int .i64 (m : Int)] W fun e W' => e = .returned (.int .i64 0) ∧ Mine w W' wb (L ++ low x m) := by
  obtain ⟨v, hv, hn⟩ := h.is
  refine (put_any wb v L x m hx hm hL W hv).mono ?_
  rintro e W' ⟨rfl, h1⟩
  exact ⟨rfl, Mine.next hn h.new h.keep h1⟩
theorem Mine.put_i {w W : World} {wb : Nat} {L : List (Fin 2)} (h : Mine w W wb L) (x m : Nat) (xi mi : Int) (e1 : xi = (x : Int)) (e2 : mi = (m : Int)) (hx : x < 18446744073709551616) (hm : m ≤ 56) (hL : L.length < 1000000000000) :
    Calls Try.prog 25 #[.pointer (some ⟨wb, 0, none⟩), .int .u64 xi, .int .i64 mi] W fun e W' => e = .returned (.int .i64 0) ∧ Mine w W' wb (L ++ low x m) := by
  subst e1 e2; exact h.put x m hx hm hL
theorem Mine.align {w W : World} {wb : Nat} {L : List (Fin 2)} (h : Mine w W wb L) (hL : L.length < 1000000000000) :
    Calls Try.prog 30 #[.pointer (some ⟨wb, 0, none⟩)] W fun e W' => e = .returned (.tuple #[]) ∧ Mine w W' wb (L ++ low 0 ((8 - L.length % 8) % 8)) := by
  obtain ⟨v, hv, hn⟩ := h.is
  refine (alignW_any wb v L hL W hv).mono ?_
  rintro e W' ⟨rfl, h1⟩
  exact ⟨rfl, Mine.next hn h.new h.keep h1⟩
theorem Mine.bytes {w W : World} {wb : Nat} {L : List (Fin 2)} (h : Mine w W wb L) (hL : L.length < 1000000000000) :
    Calls Try.prog 31 #[.pointer (some ⟨wb, 0, none⟩)] W fun e W' => ∃ v', e = .returned v' ∧ W'.ownsRow w.heap.size 5 1 v' (pack L).length (u8s (pack L)) ∧ Keep noBlock w W' := by
  obtain ⟨v, hv, hn⟩ := h.is
  refine (bytes_any wb v L (by omega) W hv).mono ?_
  rintro e W' ⟨v', rfl, h1, h2⟩
  refine ⟨v', rfl, ?_, h.keep.trans h2 (fun _ _ h => h)⟩
  have hs := h.keep.size
  refine ⟨h1.1, ?_⟩
  rcases h1.2 with hn | ⟨g, cap, cur, e, hb, hg, hr⟩
  · exact .inl hn
  · exact .inr ⟨g, cap, cur, e, by omega, hg, hr⟩
theorem mine_new (w : World) : Mine w (w.alloc (.cells #[.slice none 0 0, .int .i64 0] 61)) w.heap.size [] :=
  ⟨⟨.slice none 0 0, ⟨World.alloc_heap_new w _, World.ownsRow_nil _ _ _ _⟩, fun k e => by cases e⟩, Nat.le_refl _, (Keep.refl _ w).alloc _⟩

theorem valBits_cases (R v : Nat) : (v < valT R ∧ valBits R v = low v (valM R - 1)) ∨ (¬ v < valT R ∧ v < 2 ^ (valM R - 1) ∧ valBits R v = low v (valM R)) ∨ (¬ v < valT R ∧ ¬ v < 2 ^ (valM R - 1) ∧ valBits R v = low (v + valT R) (valM R)) := by
  unfold valBits
  by_cases h1 : v < valT R
  · exact .inl ⟨h1, if_pos h1⟩
  · by_cases h2 : v < 2 ^ (valM R - 1)
    · exact .inr (.inl ⟨h1, h2, by rw [if_neg h1, if_pos h2]⟩)
    · exact .inr (.inr ⟨h1, h2, by rw [if_neg h1, if_neg h2]⟩)

set_option maxHeartbeats 2000000 in
theorem writeCount_any (w W : World) (wb : Nat) (L : List (Fin 2)) (R v : Nat) (c : Int) (hM : Mine w W wb L) (hL : L.length < 100000) (hR1 : 1 ≤ R) (hR : R ≤ 4096) (hc : c + 1 = (v : Int)) (hv : v ≤ R + 1) :
    Calls Try.prog 26 #[.pointer (some ⟨wb, 0, none⟩), .int .i16 c, .int .i64 (R : Int)] W fun e W' => e = .returned (.tuple #[]) ∧ Mine w W' wb (L ++ valBits R v) := by
  have HV := (show Hid (∀ w : World, _) from fun w => valueBits_any R hR w)
  have hm2 := valM_ge R hR1
  have hm13 := valM_le R hR
  have hT := valT_eq R
  have hH := val_half R hR1
  have hcs := valBits_cases R v
  have hp : (2 : Nat) ^ valM R ≤ 2 ^ 13 := Nat.pow_le_pow_right (by omega) hm13
  have hcl : c ≤ 32766 := by omega
  generalize valBits R v = B at hcs ⊢
  generalize valM R = m at *
  generalize valT R = t at *
  obtain ⟨k, hm⟩ : ∃ k, m = k + 1 := ⟨m - 1, by omega⟩
  have hm1 : m - 1 = k := by omega
  rw [hm1] at hH hcs
  have hk : (m : Int) - 1 = (k : Int) := by omega
  clear hm1
  have hpk : (2 : Int) ^ k = ((2 ^ k : Nat) : Int) := by simp
  obtain ⟨P, hP⟩ : ∃ P : Nat, P = 2 ^ k := ⟨_, rfl⟩
  rw [← hP] at hpk hcs hH
  have hPb : P ≤ 4096 := by omega
  have hw : IntKind.u64.wrap (P : Int) = (P : Int) := by rw [IntKind.wrap_u64]; omega
  have hvv : (v : Int) ≤ 4097 := by omega
  have hk12 : (k : Int) ≤ 12 := by omega
  have hm13' : (m : Int) ≤ 13 := by omega
  have htt : (t : Int) ≤ 8192 := by omega
  have HM := (show Hid (Mine w W wb L) from hM)
  have HK := (show Hid (m = k + 1 ∧ k ≤ 12 ∧ 1 ≤ k) from ⟨hm, by omega, by omega⟩)
  clear hP hm hM hT hH hp hm2 hm13
  rcases hcs with ⟨h1, e1⟩ | ⟨h1, h2, e1⟩ | ⟨h1, h2, e1⟩
  · have g1 : (v : Int) < (t : Int) := by omega
    rw [e1]
    go_enter Try.func26, Try.ntmps26
    go_wp2_with (first | (go_at_call 59; refine (HV.out _).mono ?_; rintro e w' ⟨rfl, q, rfl⟩) | (go_at_call 25; refine ((HM.out.drewN _).put_i v k _ _ rfl (by omega) (by omega) (by have := HK.out; omega) (by omega)).mono ?_; rintro e w' ⟨rfl, hM2⟩))
    go_end0
    exact ⟨rfl, hM2⟩
  · have g1 : ¬ (v : Int) < (t : Int) := by omega
    have g2 : (v : Int) < (P : Int) := by omega
    rw [e1]
    go_enter Try.func26, Try.ntmps26
    go_wp2_with (first | (go_at_call 59; refine (HV.out _).mono ?_; rintro e w' ⟨rfl, q, rfl⟩) | (go_at_call 25; refine ((HM.out.drewN _).put_i v m _ _ rfl rfl (by omega) (by have := HK.out; omega) (by omega)).mono ?_; rintro e w' ⟨rfl, hM2⟩))
    go_end0
    exact ⟨rfl, hM2⟩
  · have g1 : ¬ (v : Int) < (t : Int) := by omega
    have g2 : ¬ (v : Int) < (P : Int) := by omega
    rw [e1]
    go_enter Try.func26, Try.ntmps26
    go_wp2_with (first | (go_at_call 59; refine (HV.out _).mono ?_; rintro e w' ⟨rfl, q, rfl⟩) | (go_at_call 25; refine ((HM.out.drewN _).put_i (v + t) m _ _ (by omega) rfl (by omega) (by have := HK.out; omega) (by omega)).mono ?_; rintro e w' ⟨rfl, hM2⟩))
    go_end0
    exact ⟨rfl, hM2⟩

end Go.Proofs.Ytoffnhbopjaocaa
