/-
  The program's encoder: bits that are as likely.
-/
import Derived.Test.YtfhgbggcpoingaaEnc
namespace Go.Proofs.Ytfhgbggcpoingaa
open Go.RowKit Go.Shelf
set_option linter.unusedVariables false

theorem halfE_eq (e : Enc) (one : Bool) : halfE e one = normE { e with low := e.low + (if one then e.span / 2 else 0), span := e.span / 2 } := rfl
theorem dirE_succ (x k : Nat) (e : Enc) : dirE x (k + 1) e = dirE x k (halfE e (x / 2 ^ k % 2 == 1)) := rfl
/-- On the way through the bits. -/
def Dirg (w wr : World) (b x : Nat) (R E : Enc) (k m : Nat) (M : Nat) (v v' : Value) : Prop := dirE x k E = R ∧ IsE wr b E true v' ∧ EncOk E ∧ manyE E + k ≤ M ∧ Near w v v' ∧ Keep (EncS b v) w wr

set_option maxHeartbeats 4000000 in
theorem directE_any (b x : Nat) (n : Int) (e : Enc) (v : Value) (w : World) (h : IsE w b e true v) (hok : EncOk e) (hx : x < 4294967296) (hm : manyE e + 32 ≤ 1000000) :
    Calls Try.prog 20 #[.pointer (some ⟨b, 0, none⟩), .int .u32 (x : Int), .int .i64 n] w fun r w' => r = .returned (.tuple #[]) ∧ ∃ v', IsE w' b (dirE x (bitsN n) e) true v' ∧ Near w v v' ∧ Keep (EncS b v) w w' := by
  have hml := bitsN_le n
  have HB := hid (directBits_any n)
  have H0 : Dirg w w b x (dirE x (bitsN n) e) e (bitsN n) (bitsN n) 1000000 v v := ⟨rfl, h, hok, by omega, Near.refl _ _, Keep.refl _ _⟩
  generalize dirE x (bitsN n) e = R at *
  generalize bitsN n = m at *
  have c5 := h.cells.2.2.2.2.2.1
  have hmI : (m : Int) ≤ 32 := by omega
  have hxI : (x : Int) < 4294967296 := by omega
  have hmx : Try.prog.follows .mixedOrders = true := by kernel_rfl
  clear h hok hm
  go_enter Try.func20, Try.ntmps20
  go_wp2_with (go_at_call 28; refine (HB.out _).mono ?_; rintro r w' ⟨rfl, hw⟩; obtain rfl := hw.symm)
  go_loopw [6] (fun i wr => ∃ (k : Nat) (E : Enc) (v' : Value), k ≤ m ∧ i = .int .i64 ((k : Int) - 1) ∧ Dirg w wr b x R E k m 1000000 v v') (fun i _ => (intOf i + 1).toNat)
  case atStart => exact ⟨m, e, v, Nat.le_refl _, rfl, H0⟩
  case round =>
    clear H0 c5
    obtain ⟨k, E, v1, hkm, rfl, hD⟩ := hrel
    obtain ⟨hdir, hE, hok, hmany, hN, hK⟩ := hD
    cases k with
    | zero =>
      have HF := (show Hid (∃ v', IsE wr b R true v' ∧ Near w v v' ∧ Keep (EncS b v) w wr) from ⟨v1, by rw [← hdir]; exact hE, hN, hK⟩)
      clear hdir hE hok hmany hN hK
      go_wp2_with fail
      go_end0
      exact ⟨rfl, HF.out⟩
    | succ j =>
      rw [show (((j + 1 : Nat)) : Int) - 1 = (j : Int) from by omega]
      obtain ⟨c0, c1, -, -, -, -, hf⟩ := hE.cells
      have f0 := hf 0
      have f1 := hf 1
      have hjI : (j : Int) < 32 := by omega
      obtain ⟨q, hq⟩ : ∃ q, q = x / 2 ^ j := ⟨_, rfl⟩
      obtain ⟨t, ht⟩ : ∃ t, t = q % 2 := ⟨_, rfl⟩
      have hqb : q ≤ x := by rw [hq]; exact Nat.div_le_self _ _
      have hqI : (x : Int) / 2 ^ j = (q : Int) := by rw [hq]; simp
      have hand : bits .and .u32 (q : Int) 1 = (t : Int) := by
        have := u32_and_nat q 1 (by omega) (by omega)
        rw [nat_mask1, ← ht] at this
        exact this
      rw [dirE_succ, ← hq, ← ht] at hdir
      clear hq
      obtain ⟨s, hs⟩ : ∃ s, s = E.span / 2 := ⟨_, rfl⟩
      have hsI : (E.span : Int) / 2 = (s : Int) := by omega
      have hs1 := hok.s1
      have hlow := hok.low
      have hsp := hE.span
      have hh := halfE_eq E (t == 1)
      rw [← hs] at hh
      have hhok := halfE_ok hok (t == 1)
      have hhm := halfE_many E (t == 1)
      have h2 := hE.set_span s (by omega)
      have k2 := (Keep.refl (EncS b v1) wr).setCell (p := ⟨b, 1, none⟩) (fun _ => .inl rfl) (.int .u32 (s : Int))
      have HX := (show Hid (dirE x j (halfE E (t == 1)) = R ∧ EncOk (halfE E (t == 1)) ∧ manyE (halfE E (t == 1)) + j ≤ 1000000 ∧ Near w v v1 ∧ Keep (EncS b v) w wr) from ⟨hdir, hhok, by omega, hN, hK⟩)
      have hend : ∀ (W : World) (v2 : Value) (W2 : World), Keep (EncS b v1) wr W → IsE W2 b (halfE E (t == 1)) true v2 → Near W v1 v2 → Keep (EncS b v1) W W2 → Hid (Dirg w W2 b x R (halfE E (t == 1)) j m 1000000 v v2) := by
        intro W v2 W2 q1 q2 q3 q4
        obtain ⟨x1, x2, x3, x4, x5⟩ := HX.out
        exact ⟨x1, q2, x2, x3, x4.trans q3 (Nat.le_trans x5.size q1.size), keep_near x5 x4 (q1.trans q4 (fun _ _ h => h))⟩
      have HE := hid hend
      clear hend
      have hm1 : manyE E ≤ 1000000 := by omega
      rcases (show t = 0 ∨ t = 1 by omega) with rfl | rfl
      · rw [show (((0 : Nat) : Int)) = (0 : Int) from rfl] at hand
        have hh2 : halfE E ((0 : Nat) == 1) = normE { E with span := s } := by rw [hh]; rfl
        have HO := hid (orderE_any b ({ E with span := s } : Enc) true v1 _ h2 hm1 (show 65536 ≤ s by omega))
        have HK := hid k2
        rw [← hh2] at HO
        clear hdir hE hok hmany hN hK hf ht hs hs1 hlow hsp hh hhok hhm h2 k2 hh2 hm1 HX
        generalize E.span = z at *
        go_wp2_with (go_at_call 36; refine HO.out.mono ?_; rintro r w1 ⟨rfl, v2, a1, a2, a3⟩)
        have HR := HE.out _ _ _ HK.out a1 a2 a3
        go_roundw
        case rel => exact ⟨j, _, v2, by omega, rfl, HR.out⟩
        case measure => simp [intOf]
      · rw [show (((1 : Nat) : Int)) = (1 : Int) from rfl] at hand
        have hh2 : halfE E ((1 : Nat) == 1) = normE { E with low := E.low + s, span := s } := by rw [hh]; rfl
        have h3 := h2.set_low (E.low + s) (by omega)
        have k3 := k2.setCell (p := ⟨b, 0, none⟩) (fun _ => .inl rfl) (.int .u64 ((E.low + s : Nat) : Int))
        have HO := hid (fun (W : World) (e1 : W.heap = _) (e2 : W.os = _) (e3 : W.tape = _) (e4 : W.output = _) => orderE_any b ({ E with low := E.low + s, span := s } : Enc) true v1 W (h3.same e1 e2 e3 e4) hm1 (show 65536 ≤ s by omega))
        have HK := hid k3
        rw [← hh2] at HO
        have e1 : (E.low : Int) + (s : Int) = ((E.low + s : Nat) : Int) := by omega
        have e3 : ((E.low + s : Nat) : Int) < 18446744073709551616 := by omega
        have e4 : (s : Int) < 4294967296 := by omega
        clear hdir hE hok hmany hN hK hf ht hs hs1 hlow hsp hh hhok hhm h2 k2 hh2 hm1 HX h3 k3
        generalize E.low + s = L' at *
        generalize E.span = z at *
        go_wp2_with fail
        go_region
        go_wp2_with fail
        refine (HO.out ((wr.setCell ⟨b, 1, none⟩ (.int .u32 (s : Int))).setCell ⟨b, 0, none⟩ (.int .u64 (L' : Int))).drew rfl rfl rfl rfl).mono ?_
        rintro r w1 ⟨rfl, v2, a1, a2, a3⟩
        have HK2 := HK.out.same (W := ((wr.setCell ⟨b, 1, none⟩ (.int .u32 (s : Int))).setCell ⟨b, 0, none⟩ (.int .u64 (L' : Int))).drew) rfl rfl rfl rfl
        have HR := HE.out _ _ _ HK2 a1 a2 a3
        go_wp2_with fail
        go_roundw
        case rel => exact ⟨j, _, v2, by omega, rfl, HR.out⟩
        case measure => simp [intOf]

/-- Of one that is closed. -/
theorem directE_closed (b x : Nat) (n : Int) (e : Enc) (v : Value) (w : World) (h : IsE w b e false v) :
    Calls Try.prog 20 #[.pointer (some ⟨b, 0, none⟩), .int .u32 (x : Int), .int .i64 n] w fun r w' => r = .returned (.tuple #[]) ∧ w' = w := by
  have c5 := h.cells.2.2.2.2.2.1
  clear h
  go_enter Try.func20, Try.ntmps20
  go_wp2_with fail
  exact bodyPost_ret (results_none rfl _ _ _) rfl ⟨rfl, rfl⟩
/-- Of none. -/
theorem directE_nil (x n : Int) (w : World) : Calls Try.prog 20 #[.pointer none, .int .u32 x, .int .i64 n] w fun r w' => r = .returned (.tuple #[]) ∧ w' = w := by
  go_enter Try.func20, Try.ntmps20
  go_wp2_with fail
  exact bodyPost_ret (results_none rfl _ _ _) rfl ⟨rfl, rfl⟩
theorem bitE_nil (a : Option Addr) (n : Int) (w : World) : Calls Try.prog 22 #[.pointer none, .pointer a, .int .i64 n] w fun r w' => r = .returned (.tuple #[]) ∧ w' = w := by
  go_enter Try.func22, Try.ntmps22
  go_wp2_with fail
  exact bodyPost_ret (results_none rfl _ _ _) rfl ⟨rfl, rfl⟩
theorem bitE_none (b : Nat) (n : Int) (w : World) : Calls Try.prog 22 #[.pointer (some ⟨b, 0, none⟩), .pointer none, .int .i64 n] w fun r w' => r = .returned (.tuple #[]) ∧ w' = w := by
  go_enter Try.func22, Try.ntmps22
  go_wp2_with fail
  exact bodyPost_ret (results_none rfl _ _ _) rfl ⟨rfl, rfl⟩
theorem close_nil (w : World) : Calls Try.prog 24 #[.pointer none] w fun r w' => r = .returned (.slice none 0 0) ∧ w' = w := by
  go_enter Try.func24, Try.ntmps24
  go_wp2_with fail
  go_ret
  exact ⟨rfl, rfl⟩
/-- A new one. -/
theorem newE_any (w : World) : Calls Try.prog 18 #[] w fun r w' => r = .returned (.pointer (some ⟨w.heap.size, 0, none⟩)) ∧ IsE w' w.heap.size newE true (.slice none 0 0) ∧ Keep noBlock w w' := by
  have HF := (show Hid (IsE (w.alloc (.cells #[.int .u64 0, .int .u32 4294967295, .int .u8 0, .int .i64 1, .slice none 0 0, .bool true] 69)) w.heap.size newE true (.slice none 0 0) ∧ Keep noBlock w (w.alloc (.cells #[.int .u64 0, .int .u32 4294967295, .int .u8 0, .int .i64 1, .slice none 0 0, .bool true] 69))) from
    ⟨⟨alloc_new w _, World.ownsRow_nil _ _ _ _, by decide, by decide, by decide, fun j => by simp [newE]⟩, (Keep.refl _ w).alloc _⟩)
  go_enter Try.func18, Try.ntmps18
  go_wp2_with fail
  go_ret
  exact ⟨rfl, HF.out⟩

def shiftsE : Nat → Enc → Enc
  | 0, e => e
  | k + 1, e => shiftE (shiftsE k e)
theorem shiftsE_many (k : Nat) (e : Enc) : manyE (shiftsE k e) = manyE e + k := by
  induction k with
  | zero => rfl
  | succ k ih =>
    show manyE (shiftE (shiftsE k e)) = _
    rw [shiftE_many, ih]
    omega
theorem shiftsE_five (e : Enc) : shiftsE 5 e = closeE e := rfl

/-- Close of one that is open. -/
def Closg (w wr : World) (b k : Nat) (e : Enc) (v v' : Value) : Prop := IsE wr b (shiftsE k e) false v' ∧ Near w v v' ∧ Keep (EncS b v) w wr
set_option maxHeartbeats 2000000 in
theorem close_any (b : Nat) (e : Enc) (v : Value) (w : World) (h : IsE w b e true v) (hm : manyE e ≤ 999990) :
    Calls Try.prog 24 #[.pointer (some ⟨b, 0, none⟩)] w fun r w' => ∃ u v', r = .returned u ∧ w'.ownsRow w.heap.size 5 1 u (closeE e).out.length (u8s (closeE e).out) ∧ IsE w' b (closeE e) false v' ∧ Near w v v' ∧ Keep (EncS b v) w w' := by
  have c5 := h.cells.2.2.2.2.2.1
  have f5 := h.cells.2.2.2.2.2.2 5
  have H0 : Closg w (w.setCell ⟨b, 5, none⟩ (.bool false)) b 0 e v v := ⟨h.set_open false, Near.refl _ _, (Keep.refl (EncS b v) w).setCell (p := ⟨b, 5, none⟩) (fun _ => .inl rfl) _⟩
  clear h
  go_enter Try.func24, Try.ntmps24
  go_wp2_with fail
  go_loopw [12] (fun i wr => ∃ (k : Nat) (v' : Value), k ≤ 5 ∧ i = .int .i64 k ∧ Closg w wr b k e v v') (fun i _ => 5 - (intOf i).toNat)
  case atStart => exact ⟨0, v, by omega, rfl, H0⟩
  case round =>
    clear H0 c5 f5
    obtain ⟨k, v1, hk, rfl, hE, hN, hK⟩ := hrel
    by_cases hlt : k < 5
    · have hltI : (k : Int) < 5 := by omega
      have HT := hid (shift_any b _ false v1 _ hE (by rw [shiftsE_many]; omega))
      have HX := (show Hid (Near w v v1 ∧ Keep (EncS b v) w wr) from ⟨hN, hK⟩)
      clear hE hN hK
      go_wp2_with (go_at_call 38; refine HT.out.mono ?_; rintro r w1 ⟨rfl, v2, a1, a2, a3⟩)
      go_roundw
      case rel => exact ⟨k + 1, v2, by omega, by go_num, a1, HX.out.1.trans a2 HX.out.2.size, keep_near HX.out.2 HX.out.1 a3⟩
      case measure => simp [intOf]; omega
    · obtain rfl : k = 5 := by omega
      rw [show (((5 : Nat) : Int)) = (5 : Int) from rfl]
      rw [shiftsE_five] at hE
      have c4 := hE.cells.2.2.2.2.1
      have hcl : (closeE e).out.length ≤ 1000000 := by
        have := closeE_many e
        unfold manyE at this hm
        omega
      have HC := hid (clone_any v1 (closeE e).out (by omega) wr (Src.of_owns hE.own))
      have HX := (show Hid (IsE wr b (closeE e) false v1 ∧ Near w v v1 ∧ Keep (EncS b v) w wr) from ⟨hE, hN, hK⟩)
      obtain ⟨va, vn, vc, rfl⟩ := hE.form
      clear hE hN hK hcl
      go_wp2_with (go_at_call 26; refine HC.out.mono ?_; rintro r w1 ⟨u, rfl, ho, hk1, -⟩)
      go_ret
      obtain ⟨x1, x2, x3⟩ := HX.out
      refine ⟨u, _, rfl, ?_, x1.keep hk1 (fun h => h) (fun _ _ h => h), x2, x3.trans hk1 (fun _ _ h => h.elim)⟩
      refine ⟨ho.1, ?_⟩
      rcases ho.2 with q | ⟨g, cap, cur, q1, q2, q3⟩
      · exact .inl q
      · exact .inr ⟨g, cap, cur, q1, Nat.le_trans x3.size q2, q3⟩

end Go.Proofs.Ytfhgbggcpoingaa
