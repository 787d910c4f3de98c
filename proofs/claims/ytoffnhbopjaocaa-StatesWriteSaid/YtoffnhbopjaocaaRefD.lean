/-
  The document's Write.
-/
import Derived.Test.YtoffnhbopjaocaaWrE
import Derived.Test.YtoffnhbopjaocaaRefT
import Derived.Test.YtoffnhbopjaocaaRefW
namespace Go.Proofs.Ytoffnhbopjaocaa
open Go.RowKit Go.Shelf

/-- The document's writer, made since w, that was given the bits L. -/
structure MineV (w W : World) (wb : Nat) (L : List (Fin 2)) : Prop where
  is : ∃ v, IsV W wb v L ∧ ∀ k, v.ownBlock = some k → w.heap.size ≤ k
  new : w.heap.size ≤ wb
  keep : Keep noBlock w W
theorem MineV.drewN {w W : World} {wb : Nat} {L : List (Fin 2)} (h : MineV w W wb L) (q : Nat) : MineV w (W.drewN q) wb L := by
  obtain ⟨v, hv, hn⟩ := h.is
  exact ⟨⟨v, ⟨hv.obj, hv.row⟩, hn⟩, h.new, h.keep.trans (keep_drewN W q) (fun _ _ h => h)⟩
theorem MineV.next {w W W' : World} {wb : Nat} {L' : List (Fin 2)} {v : Value} (hv : ∀ k, v.ownBlock = some k → w.heap.size ≤ k) (hb : w.heap.size ≤ wb) (hk0 : Keep noBlock w W)
    (h : ∃ v', IsV W' wb v' L' ∧ Moves W.heap.size v v' ∧ Keep (fun k => k = wb ∨ v.ownBlock = some k) W W') : MineV w W' wb L' := by
  obtain ⟨v', h1, h2, h3⟩ := h
  refine ⟨⟨v', h1, fun k e => ?_⟩, hb, hk0.trans h3 ?_⟩
  · rcases h2 with h2 | ⟨j, h2, hj⟩
    · rw [h2] at e; exact hv k e
    · rw [h2] at e; cases e; have := hk0.size; omega
  · rintro i hi (e | e)
    · omega
    · have := hv i e; omega
theorem MineV.put {w W : World} {wb : Nat} {L : List (Fin 2)} (h : MineV w W wb L) (x m : Nat) (hx : x < 18446744073709551616) (hm : m ≤ 56) (hL : L.length < 1000000000000) :
    Calls Try.prog 32 #[.pointer (some ⟨wb, 0, none⟩), .int .u64 (x : Int), .int .i64 (m : Int)] W fun e W' => e = .returned (.int .i64 0) ∧ MineV w W' wb (L ++ low x m) := by
  obtain ⟨v, hv, hn⟩ := h.is
  refine (putV_any wb v L x m hx hm hL W hv).mono ?_
  rintro e W' ⟨rfl, h1⟩
  exact ⟨rfl, MineV.next hn h.new h.keep h1⟩
theorem MineV.put_i {w W : World} {wb : Nat} {L : List (Fin 2)} (h : MineV w W wb L) (x m : Nat) (xi mi : Int) (e1 : xi = (x : Int)) (e2 : mi = (m : Int)) (hx : x < 18446744073709551616) (hm : m ≤ 56) (hL : L.length < 1000000000000) :
    Calls Try.prog 32 #[.pointer (some ⟨wb, 0, none⟩), .int .u64 xi, .int .i64 mi] W fun e W' => e = .returned (.int .i64 0) ∧ MineV w W' wb (L ++ low x m) := by
  subst e1 e2; exact h.put x m hx hm hL
theorem MineV.align {w W : World} {wb : Nat} {L : List (Fin 2)} (h : MineV w W wb L) (hL : L.length < 1000000000000) :
    Calls Try.prog 35 #[.pointer (some ⟨wb, 0, none⟩)] W fun e W' => e = .returned (.tuple #[]) ∧ MineV w W' wb (L ++ low 0 ((8 - L.length % 8) % 8)) := by
  obtain ⟨v, hv, hn⟩ := h.is
  refine (alignV_any wb v L hL W hv).mono ?_
  rintro e W' ⟨rfl, h1⟩
  exact ⟨rfl, MineV.next hn h.new h.keep h1⟩
theorem MineV.bytes {w W : World} {wb : Nat} {L : List (Fin 2)} (h : MineV w W wb L) (hL : L.length < 1000000000000) :
    Calls Try.prog 36 #[.pointer (some ⟨wb, 0, none⟩)] W fun e W' => ∃ v', e = .returned v' ∧ W'.ownsRow 0 5 1 v' (pack L).length (u8s (pack L)) ∧ Keep noBlock w W' := by
  obtain ⟨v, hv, hn⟩ := h.is
  refine (bytesV_any wb v L (by omega) W hv).mono ?_
  rintro e W' ⟨v', rfl, h1, h2⟩
  exact ⟨v', rfl, h1, h.keep.trans h2 (fun _ _ h => h)⟩
theorem mineV_new (w : World) : MineV w (w.alloc (.cells #[.slice none 0 0] 68)) w.heap.size [] :=
  ⟨⟨.slice none 0 0, ⟨World.alloc_heap_new w _, World.ownsRow_nil _ _ _ _⟩, fun k e => by cases e⟩, Nat.le_refl _, (Keep.refl _ w).alloc _⟩

set_option maxHeartbeats 2000000 in
theorem putQ_any (w W : World) (wb : Nat) (L : List (Fin 2)) (R v : Nat) (hM : MineV w W wb L) (hL : L.length < 100000) (hR1 : 1 ≤ R) (hR : R ≤ 4096) (hv : v ≤ R + 1) :
    Calls Try.prog 33 #[.pointer (some ⟨wb, 0, none⟩), .int .i64 (v : Int), .int .i64 ((R : Int) + 1)] W fun e W' => e = .returned (.tuple #[]) ∧ MineV w W' wb (L ++ valBits R v) := by
  have HV := (show Hid (∀ w : World, _) from fun w => width_i (R + 1) ((R : Int) + 1) (by omega) (by omega) w)
  have hm2 := valM_ge R hR1
  have hm13 := valM_le R hR
  have hT := valT_eq R
  have hH := val_half R hR1
  have hcs := valBits_cases R v
  have hp : (2 : Nat) ^ valM R ≤ 2 ^ 13 := Nat.pow_le_pow_right (by omega) hm13
  generalize valBits R v = B at hcs ⊢
  have hte : (2 : Int) ^ valM R - 1 - ((R : Int) + 1) = ((valT R : Nat) : Int) := by
    have : ((2 ^ valM R : Nat) : Int) = (2 : Int) ^ valM R := by simp
    omega
  have hpm : (2 : Int) ^ valM R = ((2 ^ valM R : Nat) : Int) := by simp
  rw [hpm] at hte
  obtain ⟨Q, hQ⟩ : ∃ Q : Nat, Q = 2 ^ valM R := ⟨_, rfl⟩
  rw [← hQ] at hpm hp hT hte
  change Hid (∀ w : World, Calls Try.prog 40 _ w fun e w' => e = .returned (.int .i64 ((valM R : Nat) : Int)) ∧ w' = w) at HV
  rw [← hQ] at hH
  clear hQ
  generalize valM R = m at *
  generalize valT R = t at *
  obtain ⟨k, hm⟩ : ∃ k, m = k + 1 := ⟨m - 1, by omega⟩
  have hm1 : m - 1 = k := by omega
  rw [hm1] at hH hcs
  have hk : (m : Int) - 1 = (k : Int) := by omega
  clear hm1
  have hpk : (2 : Int) ^ k = ((2 ^ k : Nat) : Int) := by simp
  obtain ⟨P, hP⟩ : ∃ P : Nat, P = 2 ^ k := ⟨_, rfl⟩
  rw [← hP] at hpk hcs hH
  have hPb : P ≤ 4096 := by omega
  have hRb : (R : Int) ≤ 4096 := by omega
  have hQb : (Q : Int) ≤ 8192 := by omega
  have hPI : (P : Int) ≤ 4096 := by omega
  have hvv : (v : Int) ≤ 4097 := by omega
  have hk12 : (k : Int) ≤ 12 := by omega
  have hm13' : (m : Int) ≤ 13 := by omega
  have htt : (t : Int) ≤ 8192 := by omega
  have HM := (show Hid (MineV w W wb L) from hM)
  have HK := (show Hid (m = k + 1 ∧ k ≤ 12 ∧ 1 ≤ k) from ⟨hm, by omega, by omega⟩)
  clear hP hm hM hT hH hp hm2 hm13
  rcases hcs with ⟨h1, e1⟩ | ⟨h1, h2, e1⟩ | ⟨h1, h2, e1⟩
  · have g1 : (v : Int) < (t : Int) := by omega
    rw [e1]
    go_enter Try.func33, Try.ntmps33
    go_wp2_with (first | (go_at_call 40; refine (HV.out _).mono ?_; rintro e w' ⟨rfl, rfl⟩) | (go_at_call 32; refine (HM.out.put_i v k _ _ rfl (by omega) (by omega) (by have := HK.out; omega) (by omega)).mono ?_; rintro e w' ⟨rfl, hM2⟩))
    go_end0
    exact ⟨rfl, hM2⟩
  · have g1 : ¬ (v : Int) < (t : Int) := by omega
    have g2 : (v : Int) < (P : Int) := by omega
    rw [e1]
    go_enter Try.func33, Try.ntmps33
    go_wp2_with (first | (go_at_call 40; refine (HV.out _).mono ?_; rintro e w' ⟨rfl, rfl⟩) | (go_at_call 32; refine (HM.out.put_i v m _ _ rfl rfl (by omega) (by have := HK.out; omega) (by omega)).mono ?_; rintro e w' ⟨rfl, hM2⟩))
    go_end0
    exact ⟨rfl, hM2⟩
  · have g1 : ¬ (v : Int) < (t : Int) := by omega
    have g2 : ¬ (v : Int) < (P : Int) := by omega
    rw [e1]
    go_enter Try.func33, Try.ntmps33
    go_wp2_with (first | (go_at_call 40; refine (HV.out _).mono ?_; rintro e w' ⟨rfl, rfl⟩) | (go_at_call 32; refine (HM.out.put_i (v + t) m _ _ (by omega) rfl (by omega) (by have := HK.out; omega) (by omega)).mono ?_; rintro e w' ⟨rfl, hM2⟩))
    go_end0
    exact ⟨rfl, hM2⟩

end Go.Proofs.Ytoffnhbopjaocaa
