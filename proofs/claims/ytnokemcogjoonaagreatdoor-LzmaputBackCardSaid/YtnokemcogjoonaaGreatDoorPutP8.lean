/-
  The program's encoder: bits that are as likely.
  A writer's state as it lies, with an encoder; a bit by one of its chances.
  Trees, written: a walk, a number, a number backwards, a byte that is like another one.
  Trees, written: a number, a number backwards, a byte that is like another one.
  Lengths and distances, written.
  Distances, written.
-/
import Derived.Test.YtnokemcogjoonaaGreatDoorPutP3
import Derived.Test.YtnokemcogjoonaaGreatDoorPutP4
import Derived.Test.YtnokemcogjoonaaGreatDoorPutP5
import Derived.Test.YtnokemcogjoonaaGreatDoorPutP7
namespace Go.Proofs.YtnokemcogjoonaaGreatDoor
open Go.RowKit Go.Shelf
set_option linter.unusedVariables false

theorem halfE_eq (e : Enc) (one : Bool) : halfE e one = normE { e with low := e.low + (if one then e.span / 2 else 0), span := e.span / 2 } := rfl
theorem dirE_succ (x k : Nat) (e : Enc) : dirE x (k + 1) e = dirE x k (halfE e (x / 2 ^ k % 2 == 1)) := rfl
/-- On the way through the bits. -/
def Dirg (w wr : World) (b x : Nat) (R E : Enc) (k m : Nat) (M : Nat) (v v' : Value) : Prop := dirE x k E = R ∧ IsE wr b E true v' ∧ EncOk E ∧ manyE E + k ≤ M ∧ Near w v v' ∧ Keep (EncS b v) w wr

set_option maxHeartbeats 4000000 in
theorem directE_any (b x : Nat) (n : Int) (e : Enc) (v : Value) (w : World) (h : IsE w b e true v) (hok : EncOk e) (hx : x < 4294967296) (hm : manyE e + 32 ≤ 1000000) :
    Calls Tryz.prog 132 #[.pointer (some ⟨b, 0, none⟩), .int .u32 (x : Int), .int .i64 n] w fun r w' => r = .returned (.tuple #[]) ∧ ∃ v', IsE w' b (dirE x (bitsN n) e) true v' ∧ Near w v v' ∧ Keep (EncS b v) w w' := by
  have hml := bitsN_le n
  have HB := hid (directBits_any n)
  have H0 : Dirg w w b x (dirE x (bitsN n) e) e (bitsN n) (bitsN n) 1000000 v v := ⟨rfl, h, hok, by omega, Near.refl _ _, Keep.refl _ _⟩
  generalize dirE x (bitsN n) e = R at *
  generalize bitsN n = m at *
  have c5 := h.cells.2.2.2.2.2.1
  have hmI : (m : Int) ≤ 32 := by omega
  have hxI : (x : Int) < 4294967296 := by omega
  have hmx : Tryz.prog.follows .mixedOrders = true := by kernel_rfl
  clear h hok hm
  go_enter Tryz.func132, Tryz.ntmps132
  go_wp2_with (go_at_call 137; refine (HB.out _).mono ?_; rintro r w' ⟨rfl, hw⟩; obtain rfl := hw.symm)
  go_loopw [6] (fun i wr => ∃ (k : Nat) (E : Enc) (v' : Value), k ≤ m ∧ i = .int .i64 ((k : Int) - 1) ∧ Dirg w wr b x R E k m 1000000 v v') (fun i _ => (intOf i + 1).toNat)
  case atStart => exact ⟨m, e, v, Nat.le_refl _, rfl, H0⟩
  case round =>
    clear H0 c5
    obtain ⟨k, E, v1, hkm, rfl, hD⟩ := hrel
    obtain ⟨hdir, hE, hok, hmany, hN, hK⟩ := hD
    cases k with
    | zero =>
      have HF := (show Hid (∃ v', IsE wr b R true v' ∧ Near w v v' ∧ Keep (EncS b v) w wr) from ⟨v1, by rw [← hdir]; exact hE, hN, hK⟩)
      clear hdir hE hok hmany hN hK
      go_wp2_with fail
      go_end0
      exact ⟨rfl, HF.out⟩
    | succ j =>
      rw [show (((j + 1 : Nat)) : Int) - 1 = (j : Int) from by omega]
      obtain ⟨c0, c1, -, -, -, -, hf⟩ := hE.cells
      have f0 := hf 0
      have f1 := hf 1
      have hjI : (j : Int) < 32 := by omega
      obtain ⟨q, hq⟩ : ∃ q, q = x / 2 ^ j := ⟨_, rfl⟩
      obtain ⟨t, ht⟩ : ∃ t, t = q % 2 := ⟨_, rfl⟩
      have hqb : q ≤ x := by rw [hq]; exact Nat.div_le_self _ _
      have hqI : (x : Int) / 2 ^ j = (q : Int) := by rw [hq]; simp
      have hand : bits .and .u32 (q : Int) 1 = (t : Int) := by
        have := u32_and_nat q 1 (by omega) (by omega)
        rw [nat_mask1, ← ht] at this
        exact this
      rw [dirE_succ, ← hq, ← ht] at hdir
      clear hq
      obtain ⟨s, hs⟩ : ∃ s, s = E.span / 2 := ⟨_, rfl⟩
      have hsI : (E.span : Int) / 2 = (s : Int) := by omega
      have hs1 := hok.s1
      have hlow := hok.low
      have hsp := hE.span
      have hh := halfE_eq E (t == 1)
      rw [← hs] at hh
      have hhok := halfE_ok hok (t == 1)
      have hhm := halfE_many E (t == 1)
      have h2 := hE.set_span s (by omega)
      have k2 := (Keep.refl (EncS b v1) wr).setCell (p := ⟨b, 1, none⟩) (fun _ => .inl rfl) (.int .u32 (s : Int))
      have HX := (show Hid (dirE x j (halfE E (t == 1)) = R ∧ EncOk (halfE E (t == 1)) ∧ manyE (halfE E (t == 1)) + j ≤ 1000000 ∧ Near w v v1 ∧ Keep (EncS b v) w wr) from ⟨hdir, hhok, by omega, hN, hK⟩)
      have hend : ∀ (W : World) (v2 : Value) (W2 : World), Keep (EncS b v1) wr W → IsE W2 b (halfE E (t == 1)) true v2 → Near W v1 v2 → Keep (EncS b v1) W W2 → Hid (Dirg w W2 b x R (halfE E (t == 1)) j m 1000000 v v2) := by
        intro W v2 W2 q1 q2 q3 q4
        obtain ⟨x1, x2, x3, x4, x5⟩ := HX.out
        exact ⟨x1, q2, x2, x3, x4.trans q3 (Nat.le_trans x5.size q1.size), keep_near x5 x4 (q1.trans q4 (fun _ _ h => h))⟩
      have HE := hid hend
      clear hend
      have hm1 : manyE E ≤ 1000000 := by omega
      rcases (show t = 0 ∨ t = 1 by omega) with rfl | rfl
      · rw [show (((0 : Nat) : Int)) = (0 : Int) from rfl] at hand
        have hh2 : halfE E ((0 : Nat) == 1) = normE { E with span := s } := by rw [hh]; rfl
        have HO := hid (orderE_any b ({ E with span := s } : Enc) true v1 _ h2 hm1 (show 65536 ≤ s by omega))
        have HK := hid k2
        rw [← hh2] at HO
        clear hdir hE hok hmany hN hK hf ht hs hs1 hlow hsp hh hhok hhm h2 k2 hh2 hm1 HX
        generalize E.span = z at *
        go_wp2_with (go_at_call 128; refine HO.out.mono ?_; rintro r w1 ⟨rfl, v2, a1, a2, a3⟩)
        have HR := HE.out _ _ _ HK.out a1 a2 a3
        go_roundw
        case rel => exact ⟨j, _, v2, by omega, rfl, HR.out⟩
        case measure => simp [intOf]
      · rw [show (((1 : Nat) : Int)) = (1 : Int) from rfl] at hand
        have hh2 : halfE E ((1 : Nat) == 1) = normE { E with low := E.low + s, span := s } := by rw [hh]; rfl
        have h3 := h2.set_low (E.low + s) (by omega)
        have k3 := k2.setCell (p := ⟨b, 0, none⟩) (fun _ => .inl rfl) (.int .u64 ((E.low + s : Nat) : Int))
        have HO := hid (fun (W : World) (e1 : W.heap = _) (e2 : W.os = _) (e3 : W.tape = _) (e4 : W.output = _) => orderE_any b ({ E with low := E.low + s, span := s } : Enc) true v1 W (h3.same e1 e2 e3 e4) hm1 (show 65536 ≤ s by omega))
        have HK := hid k3
        rw [← hh2] at HO
        have e1 : (E.low : Int) + (s : Int) = ((E.low + s : Nat) : Int) := by omega
        have e3 : ((E.low + s : Nat) : Int) < 18446744073709551616 := by omega
        have e4 : (s : Int) < 4294967296 := by omega
        clear hdir hE hok hmany hN hK hf ht hs hs1 hlow hsp hh hhok hhm h2 k2 hh2 hm1 HX h3 k3
        generalize E.low + s = L' at *
        generalize E.span = z at *
        go_wp2_with fail
        go_region
        go_wp2_with fail
        refine (HO.out ((wr.setCell ⟨b, 1, none⟩ (.int .u32 (s : Int))).setCell ⟨b, 0, none⟩ (.int .u64 (L' : Int))).drew rfl rfl rfl rfl).mono ?_
        rintro r w1 ⟨rfl, v2, a1, a2, a3⟩
        have HK2 := HK.out.same (W := ((wr.setCell ⟨b, 1, none⟩ (.int .u32 (s : Int))).setCell ⟨b, 0, none⟩ (.int .u64 (L' : Int))).drew) rfl rfl rfl rfl
        have HR := HE.out _ _ _ HK2 a1 a2 a3
        go_wp2_with fail
        go_roundw
        case rel => exact ⟨j, _, v2, by omega, rfl, HR.out⟩
        case measure => simp [intOf]

/-- Of one that is closed. -/
theorem directE_closed (b x : Nat) (n : Int) (e : Enc) (v : Value) (w : World) (h : IsE w b e false v) :
    Calls Tryz.prog 132 #[.pointer (some ⟨b, 0, none⟩), .int .u32 (x : Int), .int .i64 n] w fun r w' => r = .returned (.tuple #[]) ∧ w' = w := by
  have c5 := h.cells.2.2.2.2.2.1
  clear h
  go_enter Tryz.func132, Tryz.ntmps132
  go_wp2_with fail
  exact bodyPost_ret (results_none rfl _ _ _) rfl ⟨rfl, rfl⟩
/-- Of none. -/
theorem directE_nil (x n : Int) (w : World) : Calls Tryz.prog 132 #[.pointer none, .int .u32 x, .int .i64 n] w fun r w' => r = .returned (.tuple #[]) ∧ w' = w := by
  go_enter Tryz.func132, Tryz.ntmps132
  go_wp2_with fail
  exact bodyPost_ret (results_none rfl _ _ _) rfl ⟨rfl, rfl⟩
theorem bitE_nil (a : Option Addr) (n : Int) (w : World) : Calls Tryz.prog 101 #[.pointer none, .pointer a, .int .i64 n] w fun r w' => r = .returned (.tuple #[]) ∧ w' = w := by
  go_enter Tryz.func101, Tryz.ntmps101
  go_wp2_with fail
  exact bodyPost_ret (results_none rfl _ _ _) rfl ⟨rfl, rfl⟩
theorem bitE_none (b : Nat) (n : Int) (w : World) : Calls Tryz.prog 101 #[.pointer (some ⟨b, 0, none⟩), .pointer none, .int .i64 n] w fun r w' => r = .returned (.tuple #[]) ∧ w' = w := by
  go_enter Tryz.func101, Tryz.ntmps101
  go_wp2_with fail
  exact bodyPost_ret (results_none rfl _ _ _) rfl ⟨rfl, rfl⟩
theorem close_nil (w : World) : Calls Tryz.prog 49 #[.pointer none] w fun r w' => r = .returned (.slice none 0 0) ∧ w' = w := by
  go_enter Tryz.func49, Tryz.ntmps49
  go_wp2_with fail
  go_ret
  exact ⟨rfl, rfl⟩
/-- A new one. -/
theorem newE_any (w : World) : Calls Tryz.prog 27 #[] w fun r w' => r = .returned (.pointer (some ⟨w.heap.size, 0, none⟩)) ∧ IsE w' w.heap.size newE true (.slice none 0 0) ∧ Keep noBlock w w' := by
  have HF := (show Hid (IsE (w.alloc (.cells #[.int .u64 0, .int .u32 4294967295, .int .u8 0, .int .i64 1, .slice none 0 0, .bool true] 149)) w.heap.size newE true (.slice none 0 0) ∧ Keep noBlock w (w.alloc (.cells #[.int .u64 0, .int .u32 4294967295, .int .u8 0, .int .i64 1, .slice none 0 0, .bool true] 149))) from
    ⟨⟨alloc_new w _, World.ownsRow_nil _ _ _ _, by decide, by decide, by decide, fun j => by simp [newE]⟩, (Keep.refl _ w).alloc _⟩)
  go_enter Tryz.func27, Tryz.ntmps27
  go_wp2_with fail
  go_ret
  exact ⟨rfl, HF.out⟩

def shiftsE : Nat → Enc → Enc
  | 0, e => e
  | k + 1, e => shiftE (shiftsE k e)
theorem shiftsE_many (k : Nat) (e : Enc) : manyE (shiftsE k e) = manyE e + k := by
  induction k with
  | zero => rfl
  | succ k ih =>
    show manyE (shiftE (shiftsE k e)) = _
    rw [shiftE_many, ih]
    omega
theorem shiftsE_five (e : Enc) : shiftsE 5 e = closeE e := rfl

/-- Close of one that is open. -/
def Closg (w wr : World) (b k : Nat) (e : Enc) (v v' : Value) : Prop := IsE wr b (shiftsE k e) false v' ∧ Near w v v' ∧ Keep (EncS b v) w wr
set_option maxHeartbeats 2000000 in
theorem close_any (b : Nat) (e : Enc) (v : Value) (w : World) (h : IsE w b e true v) (hm : manyE e ≤ 999990) :
    Calls Tryz.prog 49 #[.pointer (some ⟨b, 0, none⟩)] w fun r w' => ∃ u v', r = .returned u ∧ w'.ownsRow w.heap.size 5 1 u (closeE e).out.length (u8s (closeE e).out) ∧ IsE w' b (closeE e) false v' ∧ Near w v v' ∧ Keep (EncS b v) w w' := by
  have c5 := h.cells.2.2.2.2.2.1
  have f5 := h.cells.2.2.2.2.2.2 5
  have H0 : Closg w (w.setCell ⟨b, 5, none⟩ (.bool false)) b 0 e v v := ⟨h.set_open false, Near.refl _ _, (Keep.refl (EncS b v) w).setCell (p := ⟨b, 5, none⟩) (fun _ => .inl rfl) _⟩
  clear h
  go_enter Tryz.func49, Tryz.ntmps49
  go_wp2_with fail
  go_loopw [12] (fun i wr => ∃ (k : Nat) (v' : Value), k ≤ 5 ∧ i = .int .i64 k ∧ Closg w wr b k e v v') (fun i _ => 5 - (intOf i).toNat)
  case atStart => exact ⟨0, v, by omega, rfl, H0⟩
  case round =>
    clear H0 c5 f5
    obtain ⟨k, v1, hk, rfl, hE, hN, hK⟩ := hrel
    by_cases hlt : k < 5
    · have hltI : (k : Int) < 5 := by omega
      have HT := hid (shift_any b _ false v1 _ hE (by rw [shiftsE_many]; omega))
      have HX := (show Hid (Near w v v1 ∧ Keep (EncS b v) w wr) from ⟨hN, hK⟩)
      clear hE hN hK
      go_wp2_with (go_at_call 76; refine HT.out.mono ?_; rintro r w1 ⟨rfl, v2, a1, a2, a3⟩)
      go_roundw
      case rel => exact ⟨k + 1, v2, by omega, by go_num, a1, HX.out.1.trans a2 HX.out.2.size, keep_near HX.out.2 HX.out.1 a3⟩
      case measure => simp [intOf]; omega
    · obtain rfl : k = 5 := by omega
      rw [show (((5 : Nat) : Int)) = (5 : Int) from rfl]
      rw [shiftsE_five] at hE
      have c4 := hE.cells.2.2.2.2.1
      have hcl : (closeE e).out.length ≤ 1000000 := by
        have := closeE_many e
        unfold manyE at this hm
        omega
      have HC := hid (clone_any v1 (closeE e).out (by omega) wr (Src.of_owns hE.own))
      have HX := (show Hid (IsE wr b (closeE e) false v1 ∧ Near w v v1 ∧ Keep (EncS b v) w wr) from ⟨hE, hN, hK⟩)
      obtain ⟨va, vn, vc, rfl⟩ := hE.form
      clear hE hN hK hcl
      go_wp2_with (go_at_call 50; refine HC.out.mono ?_; rintro r w1 ⟨u, rfl, ho, hk1, -⟩)
      go_ret
      obtain ⟨x1, x2, x3⟩ := HX.out
      refine ⟨u, _, rfl, ?_, x1.keep hk1 (fun h => h) (fun _ _ h => h), x2, x3.trans hk1 (fun _ _ h => h.elim)⟩
      refine ⟨ho.1, ?_⟩
      rcases ho.2 with q | ⟨g, cap, cur, q1, q2, q3⟩
      · exact .inl q
      · exact .inr ⟨g, cap, cur, q1, Nat.le_trans x3.size q2, q3⟩

end Go.Proofs.YtnokemcogjoonaaGreatDoor

namespace Go.Proofs.YtnokemcogjoonaaGreatDoor.Pt
open Go.RowKit Go.Shelf
set_option linter.unusedVariables false

/-- Block b is a writer's state. -/
structure IsS (w : World) (b : Nat) (s : Se) (c : Nat → Nat) : Prop where
  obj : ∃ cs, w.heap[b]? = some (.cells cs 77 (0, 0)) ∧ Cells cs s c
  ok : SeOk s
  lt : ∀ i, c i < 65536
theorem IsS.keep {w w' : World} {S : Nat → Prop} {b : Nat} {s : Se} {c : Nat → Nat} (h : IsS w b s c) (hk : Keep S w w') (h1 : ¬ S b) : IsS w' b s c := by
  obtain ⟨cs, ho, hc⟩ := h.obj
  exact ⟨⟨cs, hk.obj ho h1, hc⟩, h.ok, h.lt⟩
theorem IsS.block {w : World} {b : Nat} {s : Se} {c : Nat → Nat} (h : IsS w b s c) : b < w.heap.size := by
  obtain ⟨cs, ho, hc⟩ := h.obj
  exact obj_lt ho
theorem IsS.ne {w : World} {b k : Nat} {s : Se} {c : Nat → Nat} {cs : Array Value} {t : TypeId} (h : IsS w b s c) (ho : w.heap[k]? = some (.cells cs t (0, 0))) (ht : t ≠ 77) : b ≠ k := by
  obtain ⟨cs', ho', hc⟩ := h.obj
  exact ne_of_type ho' ho (fun e => ht e.symm)
/-- What lies in a state's first cells. -/
theorem IsS.first {w : World} {b : Nat} {s : Se} {c : Nat → Nat} (h : IsS w b s c) :
    w.cell? ⟨b, 0, none⟩ = some (.int .i64 (s.lc : Int)) ∧ w.cell? ⟨b, 1, none⟩ = some (.int .i64 (s.lp : Int)) ∧ w.cell? ⟨b, 2, none⟩ = some (.int .i64 (s.pb : Int)) ∧ w.cell? ⟨b, 3, none⟩ = some (.int .u8 (s.ph : Int)) ∧
    w.cell? ⟨b, 4, none⟩ = some (.int .u32 (s.r0 : Int)) ∧ w.cell? ⟨b, 5, none⟩ = some (.int .u32 (s.r1 : Int)) ∧ w.cell? ⟨b, 6, none⟩ = some (.int .u32 (s.r2 : Int)) ∧ w.cell? ⟨b, 7, none⟩ = some (.int .u32 (s.r3 : Int)) ∧
    ∀ i, w.frozen? ⟨b, i, none⟩ = false := by
  obtain ⟨cs, ho, hc⟩ := h.obj
  exact ⟨(cell_of ho 0).trans hc.e0, (cell_of ho 1).trans hc.e1, (cell_of ho 2).trans hc.e2, (cell_of ho 3).trans hc.e3, (cell_of ho 4).trans hc.e4, (cell_of ho 5).trans hc.e5, (cell_of ho 6).trans hc.e6, (cell_of ho 7).trans hc.e7, fun i => frozen_of ho i⟩

/-- A state and an encoder; v is what went out. -/
structure Pe (w : World) (sb eb : Nat) (s : Se) (x : Ex) (v : Value) : Prop where
  st : IsS w sb s x.c
  en : IsE w eb x.e true v
  good : Good x.e
theorem Pe.ne {w : World} {sb eb : Nat} {s : Se} {x : Ex} {v : Value} (h : Pe w sb eb s x v) : sb ≠ eb := h.st.ne h.en.obj (by decide)
theorem Pe.nv {w : World} {sb eb : Nat} {s : Se} {x : Ex} {v : Value} (h : Pe w sb eb s x v) : v.ownBlock ≠ some sb := by
  obtain ⟨cs, ho, hc⟩ := h.st.obj
  exact owns_ne h.en.own ho (by decide)
theorem Pe.ve {w : World} {sb eb : Nat} {s : Se} {x : Ex} {v : Value} (h : Pe w sb eb s x v) : v.ownBlock ≠ some eb := h.en.ne
theorem Pe.keep {w w' : World} {S : Nat → Prop} {sb eb : Nat} {s : Se} {x : Ex} {v : Value} (h : Pe w sb eb s x v) (hk : Keep S w w') (h1 : ¬ S sb) (h2 : ¬ S eb) (h3 : ∀ g, v.ownBlock = some g → ¬ S g) : Pe w' sb eb s x v :=
  ⟨h.st.keep hk h1, h.en.keep hk h2 h3, h.good⟩
theorem Pe.same {w : World} {sb eb : Nat} {s : Se} {x : Ex} {v : Value} (h : Pe w sb eb s x v) {W : World} (e1 : W.heap = w.heap) (e2 : W.os = w.os) (e3 : W.tape = w.tape) (e4 : W.output = w.output) : Pe W sb eb s x v :=
  h.keep (S := noBlock) ((Keep.refl _ w).same e1 e2 e3 e4) (fun h => h) (fun h => h) (fun _ _ h => h)
/-- What writing may turn. -/
def PS (sb eb : Nat) (v : Value) (k : Nat) : Prop := k = sb ∨ k = eb ∨ v.ownBlock = some k
/-- Behind acts. -/
structure Wrote (w w' : World) (sb eb : Nat) (s : Se) (x : Ex) (v v' : Value) : Prop where
  pe : Pe w' sb eb s x v'
  near : Near w v v'
  kp : Keep (PS sb eb v) w w'
theorem ps_near {w : World} {sb eb : Nat} {v v1 : Value} (hn : Near w v v1) : ∀ i, i < w.heap.size → PS sb eb v1 i → PS sb eb v i := by
  rintro i hi (e | e | e)
  · exact .inl e
  · exact .inr (.inl e)
  · rcases hn with q | ⟨k, q, hk⟩
    · exact .inr (.inr (q ▸ e))
    · rw [q] at e
      have : k = i := by simpa using e
      omega
theorem Wrote.refl {w : World} {sb eb : Nat} {s : Se} {x : Ex} {v : Value} (h : Pe w sb eb s x v) : Wrote w w sb eb s x v v := ⟨h, Near.refl _ _, Keep.refl _ _⟩
theorem Wrote.trans {w w1 w2 : World} {sb eb : Nat} {s s2 : Se} {x x2 : Ex} {v v1 v2 : Value} (h : Wrote w w1 sb eb s x v v1) (k : Wrote w1 w2 sb eb s2 x2 v1 v2) : Wrote w w2 sb eb s2 x2 v v2 :=
  ⟨k.pe, h.near.trans k.near h.kp.size, h.kp.trans k.kp (ps_near (sb := sb) (eb := eb) h.near)⟩
theorem Wrote.drew {w w1 : World} {sb eb : Nat} {s : Se} {x : Ex} {v v1 : Value} (h : Wrote w w1 sb eb s x v v1) : Wrote w w1.drew sb eb s x v v1 := ⟨h.pe.same rfl rfl rfl rfl, h.near, h.kp.drew⟩
/-- There is room for so much more. -/
def Room (x : Ex) (L : List Act) : Prop := manyE x.e + costA L ≤ 999900
theorem Room.left {x : Ex} {L M : List Act} (h : Room x (L ++ M)) : Room x L := by unfold Room at *; rw [costA_app] at h; omega
theorem Room.right {x : Ex} {L M : List Act} (h : Room x (L ++ M)) : Room (runA L x) M := by
  have := runA_many L x
  unfold Room at *; rw [costA_app] at h; omega

/-- A call that writes. -/
def Writes (f : Nat) (args : Array Value) (w : World) (sb eb : Nat) (s : Se) (x : Ex) (v : Value) (L : List Act) : Prop :=
  Calls Tryz.prog f args w fun r w' => r = .returned (.tuple #[]) ∧ ∃ v', Wrote w w' sb eb s (runA L x) v v'

set_option maxHeartbeats 1000000 in
theorem bit_any (sb eb o len cap m k : Nat) (s : Se) (x : Ex) (v : Value) (w : World) (h : Pe w sb eb s x v) (hm : manyE x.e ≤ 999990) (h8 : 8 ≤ o) (ho : o + m < 14143) (hl : m < len) (h48 : len < 2 ^ 48) :
    Writes 71 #[.slice (some ⟨sb, o, none⟩) len cap, .pointer (some ⟨eb, 0, none⟩), .int .i64 (m : Int), .int .i64 (k : Int)] w sb eb s x v [bitA (o + m) k] := by
  unfold Writes
  obtain ⟨cs, hob, hc⟩ := h.st.obj
  have HB := hid (bitE_any eb sb (o + m) (x.c (o + m)) (k : Int) (k != 0) 77 (by decide) (by decide) cs x.e v w h.en h.good.ok (by omega) hob (hc.ch (o + m) (by omega) ho) (h.st.lt _) (by cases k with | zero => rfl | succ n => simp; omega))
  have HP := (show Hid (Pe w sb eb s x v ∧ w.heap[sb]? = some (.cells cs 77 (0, 0)) ∧ Cells cs s x.c) from ⟨h, hob, hc⟩)
  have hlI : (m : Int) < (len : Int) := by omega
  clear h hob hc
  go_enter Tryz.func71, Tryz.ntmps71
  go_wp2_with fail
  refine HB.out.mono ?_
  rintro r w1 ⟨rfl, v1, a1, a2, a3, a4⟩
  have HF := (show Hid (Wrote w w1 sb eb s (runA [bitA (o + m) k] x) v v1) from by
    obtain ⟨p1, p2, p3⟩ := HP.out
    refine ⟨⟨⟨⟨_, a3, p3.put (o + m) _ (by omega)⟩, p1.st.ok, putC_lt p1.st.lt _ _ (learn_lt _ _)⟩, a1, actE_good (a := bitA (o + m) k) p1.good⟩, a2, a4.mono ?_⟩
    rintro i hi ((e | e) | e)
    · exact .inr (.inl e)
    · exact .inr (.inr e)
    · exact .inl e)
  clear a1 a2 a3 a4 HB HP
  go_wp2_with fail
  go_end0
  exact ⟨rfl, v1, HF.out⟩

end Go.Proofs.YtnokemcogjoonaaGreatDoor.Pt

namespace Go.Proofs.YtnokemcogjoonaaGreatDoor.Pt
open Go.RowKit Go.Shelf
set_option linter.unusedVariables false

theorem walkA_succ (o k m x : Nat) : walkA o (k + 1) m x = [bitA (o + m) (x / 2 ^ k % 2)] ++ walkA o k (2 * m + x / 2 ^ k % 2) x := rfl
theorem and_one (z : Nat) (hx : z < 4294967296) : bits .and .i64 (z : Int) 1 = ((z % 2 : Nat) : Int) := by
  exact (bits_mask .i64 63 (by decide) wraps_i64 1 (by decide) (z : Int) (by omega) (by omega)).trans (by omega)
/-- On the way through a walk: k bits more, of a world. -/
def Wlk (w wr : World) (sb eb : Nat) (s : Se) (v v' : Value) (R y : Ex) (L : List Act) : Prop := runA L y = R ∧ Room y L ∧ Wrote w wr sb eb s y v v'
set_option maxHeartbeats 2000000 in
theorem walk_any (sb eb o len cap k m A x : Nat) (s : Se) (y : Ex) (v : Value) (w : World) (h : Pe w sb eb s y v) (hr : Room y (walkA o k m x)) (hx : x < 4294967296) (hk : k ≤ 8) (h1 : A ≤ m) (h2 : m < 2 * A) (h8 : 8 ≤ o) (ho : o + A * 2 ^ k ≤ 14143) (hl : A * 2 ^ k ≤ len) (h48 : len < 2 ^ 48) :
    Writes 129 #[.slice (some ⟨sb, o, none⟩) len cap, .pointer (some ⟨eb, 0, none⟩), .int .i64 (m : Int), .int .i64 (x : Int), .int .i64 (k : Int)] w sb eb s y v (walkA o k m x) := by
  unfold Writes
  have H0 : Wlk w w sb eb s v v (runA (walkA o k m x) y) y (walkA o k m x) := ⟨rfl, hr, Wrote.refl h⟩
  have hlen : (len : Int) < 281474976710656 := by omega
  generalize runA (walkA o k m x) y = R at *
  obtain ⟨E, hE⟩ : ∃ E, E = A * 2 ^ k := ⟨_, rfl⟩
  have hA : A ≤ E := by rw [hE]; exact Nat.le_mul_of_pos_right _ (Nat.two_pow_pos k)
  rw [← hE] at ho hl
  have H0 := (show Hid (∃ (B : Nat) (z : Ex) (v' : Value), B ≤ m ∧ m < 2 * B ∧ E = B * 2 ^ k ∧ Wlk w w sb eb s v v' R z (walkA o k m x)) from ⟨A, y, v, h1, h2, hE, H0⟩)
  have hmE : m < 2 * E := by omega
  clear h hr hE hA h1 h2
  go_enter Tryz.func129, Tryz.ntmps129
  go_wp2_with fail
  go_loopw [10, 2] (fun i mm wr => ∃ (j q : Nat), i = .int .i64 ((j : Int) - 1) ∧ mm = .int .i64 (q : Int) ∧ j ≤ k ∧ q < 2 * E ∧ Hid (∃ (B : Nat) (z : Ex) (v' : Value), B ≤ q ∧ q < 2 * B ∧ E = B * 2 ^ j ∧ Wlk w wr sb eb s v v' R z (walkA o j q x))) (fun i _ _ => (intOf i + 1).toNat)
  case atStart => exact ⟨k, m, rfl, rfl, Nat.le_refl _, hmE, H0⟩
  case round =>
    clear H0
    obtain ⟨j, q, rfl, rfl, hj, hq, HQ⟩ := hrel
    cases j with
    | zero =>
      have HF := (show Hid (∃ v', Wrote w wr sb eb s R v v') from by
        obtain ⟨B, z, v', -, -, -, hz, -, hw⟩ := HQ.out
        have e : z = R := hz
        rw [← e]
        exact ⟨v', hw⟩)
      clear HQ
      go_wp2_with fail
      go_end0
      exact ⟨rfl, HF.out⟩
    | succ j =>
      rw [show (((j + 1 : Nat)) : Int) - 1 = (j : Int) from by omega]
      obtain ⟨B, z, v', b1, b2, b3, b4, b5, b6⟩ := HQ.out
      rw [walkA_succ] at b4 b5
      have hqE : q < E := by
        have := Nat.two_pow_pos j
        have : 2 * B ≤ E := by rw [b3, Nat.pow_succ, Nat.mul_comm (2 ^ j) 2, ← Nat.mul_assoc, Nat.mul_comm B 2]; exact Nat.le_mul_of_pos_right _ (by omega)
        omega
      obtain ⟨xq, hxq⟩ : ∃ xq, xq = x / 2 ^ j := ⟨_, rfl⟩
      have hxI : (x : Int) / 2 ^ j = (xq : Int) := by rw [hxq]; simp
      have hxl : xq ≤ x := by rw [hxq]; exact Nat.div_le_self _ _
      rw [← hxq] at b4 b5
      clear hxq
      obtain ⟨bt, hbt⟩ : ∃ bt, bt = xq % 2 := ⟨_, rfl⟩
      have hand := and_one xq (by omega)
      rw [← hbt] at hand b4 b5
      have hb1 : bt ≤ 1 := by omega
      have hjI : (j : Int) < 32 := by omega
      have HC := hid (bit_any sb eb o len cap q bt s z v' wr b6.pe (by have := b5; unfold Room at this; omega) h8 (by omega) (by omega) h48)
      have HN := (show Hid (2 * B ≤ 2 * q + bt ∧ 2 * q + bt < 2 * (2 * B) ∧ E = 2 * B * 2 ^ j ∧ runA (walkA o j (2 * q + bt) x) (runA [bitA (o + q) bt] z) = R ∧ Room (runA [bitA (o + q) bt] z) (walkA o j (2 * q + bt) x) ∧ Wrote w wr sb eb s z v v') from
        ⟨by omega, by omega, by rw [b3, Nat.pow_succ, Nat.mul_comm (2 ^ j) 2, ← Nat.mul_assoc, Nat.mul_comm B 2], by rw [← runA_app]; exact b4, b5.right, b6⟩)
      clear b1 b2 b3 b4 b5 b6 HQ hbt
      go_wp2_with fail
      refine HC.out.mono ?_
      rintro r w1 ⟨rfl, v1, hw1⟩
      have HG := (show Hid (∃ (B : Nat) (z : Ex) (v' : Value), B ≤ 2 * q + bt ∧ 2 * q + bt < 2 * B ∧ E = B * 2 ^ j ∧ Wlk w w1 sb eb s v v' R z (walkA o j (2 * q + bt) x)) from
        ⟨2 * B, _, v1, HN.out.1, HN.out.2.1, HN.out.2.2.1, HN.out.2.2.2.1, HN.out.2.2.2.2.1, HN.out.2.2.2.2.2.trans hw1⟩)
      clear hw1 HN HC
      go_wp2_with fail
      go_roundw
      case rel => exact ⟨j, 2 * q + bt, by go_num, by go_num, by omega, by omega, HG⟩
      case measure => simp [intOf]

end Go.Proofs.YtnokemcogjoonaaGreatDoor.Pt

namespace Go.Proofs.YtnokemcogjoonaaGreatDoor.Pt
open Go.RowKit Go.Shelf
set_option linter.unusedVariables false

theorem tree_any (sb eb o len cap x n : Nat) (s : Se) (y : Ex) (v : Value) (w : World) (h : Pe w sb eb s y v) (hr : Room y (treeA o x n)) (hx : x < 4294967296) (hn : n ≤ 8) (h8 : 8 ≤ o) (ho : o + 2 ^ n ≤ 14143) (hl : 2 ^ n ≤ len) (h48 : len < 2 ^ 48) :
    Writes 105 #[.slice (some ⟨sb, o, none⟩) len cap, .pointer (some ⟨eb, 0, none⟩), .int .i64 (x : Int), .int .i64 (n : Int)] w sb eb s y v (treeA o x n) := by
  unfold Writes
  have HW := hid (walk_any sb eb o len cap n 1 1 x s y v w h hr hx hn (by omega) (by omega) h8 (by omega) (by omega) h48)
  rw [show (((1 : Nat) : Int)) = (1 : Int) from rfl] at HW
  clear h hr ho hl
  go_enter Tryz.func105, Tryz.ntmps105
  go_wp2_with fail
  refine HW.out.mono ?_
  rintro r w1 ⟨rfl, hw⟩
  have HF := hid hw
  clear hw HW
  go_wp2_with fail
  go_end0
  exact ⟨rfl, HF.out⟩

theorem backA_succ (o k i m x : Nat) : backA o (k + 1) i m x = [bitA (o + m) (x / 2 ^ i % 2)] ++ backA o k (i + 1) (2 * m + x / 2 ^ i % 2) x := rfl
set_option maxHeartbeats 2000000 in
theorem back_any (sb eb o len cap k x : Nat) (s : Se) (y : Ex) (v : Value) (w : World) (h : Pe w sb eb s y v) (hr : Room y (backA o k 0 1 x)) (hx : x < 4294967296) (hk : k ≤ 6) (h8 : 8 ≤ o) (ho : o + 2 ^ k ≤ 14143) (hl : 2 ^ k ≤ len) (h48 : len < 2 ^ 48) :
    Writes 131 #[.slice (some ⟨sb, o, none⟩) len cap, .pointer (some ⟨eb, 0, none⟩), .int .u32 (x : Int), .int .i64 (k : Int)] w sb eb s y v (backA o k 0 1 x) := by
  unfold Writes
  have H0 := (show Hid (∃ (z : Ex) (v' : Value), Wlk w w sb eb s v v' (runA (backA o k 0 1 x) y) z (backA o (k - 0) 0 1 x)) from ⟨y, v, rfl, hr, Wrote.refl h⟩)
  have hlen : (len : Int) < 281474976710656 := by omega
  have hxI : (x : Int) < 4294967296 := by omega
  generalize runA (backA o k 0 1 x) y = R at *
  clear h hr
  go_enter Tryz.func131, Tryz.ntmps131
  go_wp2_with fail
  go_loopw [12, 8] (fun i mm wr => ∃ (j q : Nat), i = .int .i64 (j : Int) ∧ mm = .int .i64 (q : Int) ∧ j ≤ k ∧ 2 ^ j ≤ q ∧ q < 2 * 2 ^ j ∧ Hid (∃ (z : Ex) (v' : Value), Wlk w wr sb eb s v v' R z (backA o (k - j) j q x))) (fun i _ _ => k - (intOf i).toNat)
  case atStart => exact ⟨0, 1, rfl, rfl, by omega, by simp, by simp, H0⟩
  case round =>
    clear H0
    obtain ⟨j, q, rfl, rfl, hj, a1, a2, HQ⟩ := hrel
    by_cases hlt : j < k
    · have hltI : (j : Int) < (k : Int) := by omega
      have hp : 2 * 2 ^ j ≤ 2 ^ k := by rw [Nat.mul_comm, ← Nat.pow_succ]; exact Nat.pow_le_pow_right (by decide) (by omega)
      obtain ⟨z, v', b4, b5, b6⟩ := HQ.out
      rw [show k - j = k - (j + 1) + 1 from by omega, backA_succ] at b4 b5
      obtain ⟨xq, hxq⟩ : ∃ xq, xq = x / 2 ^ j := ⟨_, rfl⟩
      have hxI2 : (x : Int) / 2 ^ j = (xq : Int) := by rw [hxq]; simp
      have hxl : xq ≤ x := by rw [hxq]; exact Nat.div_le_self _ _
      rw [← hxq] at b4 b5
      clear hxq
      obtain ⟨bt, hbt⟩ : ∃ bt, bt = xq % 2 := ⟨_, rfl⟩
      have hand : bits .and .u32 (xq : Int) 1 = (bt : Int) := by
        have := u32_and_nat xq 1 (by omega) (by omega)
        rw [Nat.and_one_is_mod, ← hbt] at this
        exact this
      rw [← hbt] at b4 b5
      have hb1 : bt ≤ 1 := by omega
      have hjI : (j : Int) < 32 := by omega
      have HC := hid (bit_any sb eb o len cap q bt s z v' wr b6.pe (by have := b5; unfold Room at this; omega) h8 (by omega) (by omega) h48)
      have HN := (show Hid (runA (backA o (k - (j + 1)) (j + 1) (2 * q + bt) x) (runA [bitA (o + q) bt] z) = R ∧ Room (runA [bitA (o + q) bt] z) (backA o (k - (j + 1)) (j + 1) (2 * q + bt) x) ∧ Wrote w wr sb eb s z v v') from
        ⟨by rw [← runA_app]; exact b4, b5.right, b6⟩)
      clear b4 b5 b6 HQ hbt
      have hps : 2 ^ (j + 1) = 2 * 2 ^ j := by rw [Nat.pow_succ, Nat.mul_comm]
      have HPS := hid hps
      clear hps
      go_wp2_with fail
      refine HC.out.mono ?_
      rintro r w1 ⟨rfl, v1, hw1⟩
      have HG := (show Hid (∃ (z : Ex) (v' : Value), Wlk w w1 sb eb s v v' R z (backA o (k - (j + 1)) (j + 1) (2 * q + bt) x)) from
        ⟨_, v1, HN.out.1, HN.out.2.1, HN.out.2.2.trans hw1⟩)
      clear hw1 HN HC
      go_wp2_with fail
      go_roundw
      case rel => exact ⟨j + 1, 2 * q + bt, by go_num, by go_num, by omega, by rw [HPS.out]; omega, by rw [HPS.out]; omega, HG⟩
      case measure => simp [intOf]; omega
    · have hltI : ¬ (j : Int) < (k : Int) := by omega
      have HF := (show Hid (∃ v', Wrote w wr sb eb s R v v') from by
        obtain ⟨z, v', hz, -, hw⟩ := HQ.out
        rw [show k - j = 0 from by omega] at hz
        have e : z = R := hz
        rw [← e]
        exact ⟨v', hw⟩)
      clear HQ
      go_wp2_with fail
      go_end0
      exact ⟨rfl, HF.out⟩

theorem likeA_succ (o other k m x : Nat) : likeA o other (k + 1) m x = [bitA (o + ((1 + other / 2 ^ k % 2) * 256 + m)) (x / 2 ^ k % 2)] ++ (if x / 2 ^ k % 2 = other / 2 ^ k % 2 then likeA o other k (2 * m + x / 2 ^ k % 2) x else walkA o k (2 * m + x / 2 ^ k % 2) x) := rfl
set_option maxHeartbeats 4000000 in
theorem like_any (sb eb o len cap x other : Nat) (s : Se) (y : Ex) (v : Value) (w : World) (h : Pe w sb eb s y v) (hr : Room y (likeA o other 8 1 x)) (hx : x < 256) (hoth : other < 256) (h8 : 8 ≤ o) (ho : o + 768 ≤ 14143) (hl : 768 ≤ len) (h48 : len < 2 ^ 48) :
    Writes 104 #[.slice (some ⟨sb, o, none⟩) len cap, .pointer (some ⟨eb, 0, none⟩), .int .u8 (x : Int), .int .u8 (other : Int)] w sb eb s y v (likeA o other 8 1 x) := by
  unfold Writes
  have H0 := (show Hid (∃ (B : Nat) (z : Ex) (v' : Value), B ≤ 1 ∧ 1 < 2 * B ∧ B * 2 ^ 8 = 256 ∧ Wlk w w sb eb s v v' (runA (likeA o other 8 1 x) y) z (likeA o other 8 1 x)) from ⟨1, y, v, by omega, by omega, rfl, rfl, hr, Wrote.refl h⟩)
  have hlen : (len : Int) < 281474976710656 := by omega
  have hxI : (x : Int) < 256 := by omega
  have hoI : (other : Int) < 256 := by omega
  generalize runA (likeA o other 8 1 x) y = R at *
  clear h hr
  go_enter Tryz.func104, Tryz.ntmps104
  go_wp2_with fail
  go_loopw [9, 8] (fun i mm wr => ∃ (j q : Nat), i = .int .i64 ((j : Int) - 1) ∧ mm = .int .i64 (q : Int) ∧ j ≤ 8 ∧ q < 512 ∧ Hid (∃ (B : Nat) (z : Ex) (v' : Value), B ≤ q ∧ q < 2 * B ∧ B * 2 ^ j = 256 ∧ Wlk w wr sb eb s v v' R z (likeA o other j q x))) (fun i _ _ => (intOf i + 1).toNat)
  case atStart => exact ⟨8, 1, rfl, rfl, by omega, by omega, H0⟩
  case round =>
    clear H0
    obtain ⟨j, q, rfl, rfl, hj, hq, HQ⟩ := hrel
    cases j with
    | zero =>
      have HF := (show Hid (∃ v', Wrote w wr sb eb s R v v') from by
        obtain ⟨B, z, v', -, -, -, hz, -, hw⟩ := HQ.out
        have e : z = R := hz
        rw [← e]
        exact ⟨v', hw⟩)
      clear HQ
      go_wp2_with fail
      go_end0
      exact ⟨rfl, HF.out⟩
    | succ j =>
      rw [show (((j + 1 : Nat)) : Int) - 1 = (j : Int) from by omega]
      obtain ⟨B, z, v', b1, b2, b3, b4, b5, b6⟩ := HQ.out
      rw [likeA_succ] at b4 b5
      have hqE : 2 * B ≤ 256 := by
        rw [← b3, Nat.pow_succ, Nat.mul_comm (2 ^ j) 2, ← Nat.mul_assoc, Nat.mul_comm B 2]; exact Nat.le_mul_of_pos_right _ (Nat.two_pow_pos j)
      have hB3 : 2 * B * 2 ^ j = 256 := by rw [← b3, Nat.pow_succ, Nat.mul_comm (2 ^ j) 2, ← Nat.mul_assoc, Nat.mul_comm B 2]
      obtain ⟨xq, hxq⟩ : ∃ xq, xq = x / 2 ^ j := ⟨_, rfl⟩
      have hxI2 : (x : Int) / 2 ^ j = (xq : Int) := by rw [hxq]; simp
      have hxl : xq ≤ x := by rw [hxq]; exact Nat.div_le_self _ _
      obtain ⟨oq, hoq⟩ : ∃ oq, oq = other / 2 ^ j := ⟨_, rfl⟩
      have hoI2 : (other : Int) / 2 ^ j = (oq : Int) := by rw [hoq]; simp
      have hol : oq ≤ other := by rw [hoq]; exact Nat.div_le_self _ _
      rw [← hxq, ← hoq] at b4 b5
      clear hxq hoq
      obtain ⟨bt, hbt⟩ : ∃ bt, bt = xq % 2 := ⟨_, rfl⟩
      obtain ⟨lk, hlk⟩ : ∃ lk, lk = oq % 2 := ⟨_, rfl⟩
      have hand : bits .and .u8 (xq : Int) 1 = (bt : Int) := by
        have := u8_and_nat xq 1 (by omega) (by omega)
        rw [Nat.and_one_is_mod, ← hbt] at this
        exact this
      have hand2 : bits .and .u8 (oq : Int) 1 = (lk : Int) := by
        have := u8_and_nat oq 1 (by omega) (by omega)
        rw [Nat.and_one_is_mod, ← hlk] at this
        exact this
      rw [← hbt, ← hlk] at b4 b5
      have hb1 : bt ≤ 1 := by omega
      have hl1 : lk ≤ 1 := by omega
      have hjI : (j : Int) < 32 := by omega
      obtain ⟨t, ht⟩ : ∃ t : Nat, t = (1 + lk) * 256 + q := ⟨_, rfl⟩
      have htI : (1 + (lk : Int)) * 256 + (q : Int) = (t : Int) := by omega
      have htl : (t : Int) < (len : Int) := by omega
      rw [← ht] at b4 b5
      have b6 := b6.drew
      have HC := hid (bit_any sb eb o len cap t bt s z v' wr.drew b6.pe (by have := b5; unfold Room at this; omega) h8 (by omega) (by omega) h48)
      obtain ⟨q', hq'⟩ : ∃ q' : Nat, q' = 2 * q + bt := ⟨_, rfl⟩
      have hqI : 2 * (q : Int) + (bt : Int) = (q' : Int) := by omega
      rw [← hq'] at b4 b5
      have HN := (show Hid (2 * B ≤ q' ∧ q' < 2 * (2 * B) ∧ 2 * B * 2 ^ j = 256 ∧ runA (if bt = lk then likeA o other j q' x else walkA o j q' x) (runA [bitA (o + t) bt] z) = R ∧ Room (runA [bitA (o + t) bt] z) (if bt = lk then likeA o other j q' x else walkA o j q' x) ∧ Wrote w wr.drew sb eb s z v v') from
        ⟨by omega, by omega, hB3, by rw [← runA_app]; exact b4, b5.right, b6⟩)
      have hq5 : q' < 512 := by omega
      clear b1 b2 b3 b4 b5 b6 HQ hbt hlk ht hB3 hq'
      by_cases hbl : bt = lk
      · have hbl2 : ((bt : Int) != (lk : Int)) = false := by simp [hbl]
        rw [if_pos hbl] at HN
        clear hbl
        go_wp2_with fail
        go_region
        go_wp2_with fail
        refine HC.out.mono ?_
        rintro r w1 ⟨rfl, v1, hw1⟩
        have HG := (show Hid (∃ (B : Nat) (z : Ex) (v' : Value), B ≤ q' ∧ q' < 2 * B ∧ B * 2 ^ j = 256 ∧ Wlk w w1 sb eb s v v' R z (likeA o other j q' x)) from
          ⟨2 * B, _, v1, HN.out.1, HN.out.2.1, HN.out.2.2.1, HN.out.2.2.2.1, HN.out.2.2.2.2.1, HN.out.2.2.2.2.2.trans hw1⟩)
        clear hw1 HN HC
        go_wp2_with fail
        go_roundw
        case rel => exact ⟨j, q', by go_num, rfl, by omega, hq5, HG⟩
        case measure => simp [intOf]
      · have hbl2 : ((bt : Int) != (lk : Int)) = true := by simp; omega
        rw [if_neg hbl] at HN
        clear hbl
        go_wp2_with fail
        go_region
        go_wp2_with fail
        refine HC.out.mono ?_
        rintro r w1 ⟨rfl, v1, hw1⟩
        have HW := hid (walk_any sb eb o len cap j q' (2 * B) x s _ v1 w1 hw1.pe HN.out.2.2.2.2.1 (by omega) (by omega) HN.out.1 HN.out.2.1 h8 (by rw [HN.out.2.2.1]; omega) (by rw [HN.out.2.2.1]; omega) h48)
        unfold Writes at HW
        rw [HN.out.2.2.2.1] at HW
        have HG := (show Hid (Wrote w w1 sb eb s (runA [bitA (o + t) bt] z) v v1) from HN.out.2.2.2.2.2.trans hw1)
        clear hw1 HN HC
        generalize runA [bitA (o + t) bt] z = z1 at *
        go_wp2_with fail
        refine HW.out.mono ?_
        rintro r w2 ⟨rfl, v2, hw2⟩
        have HF := (show Hid (∃ v', Wrote w w2 sb eb s R v v') from ⟨v2, HG.out.trans hw2⟩)
        clear hw2 HG HW
        go_wp2_with fail
        exact bodyPost_ret (results_none rfl _ _ _) rfl ⟨rfl, HF.out⟩

end Go.Proofs.YtnokemcogjoonaaGreatDoor.Pt

namespace Go.Proofs.YtnokemcogjoonaaGreatDoor.Pt
open Go.RowKit Go.Shelf
set_option linter.unusedVariables false

theorem Room.one {x : Ex} {L : List Act} (h : Room x L) : manyE x.e ≤ 999990 := by unfold Room at h; omega
set_option maxHeartbeats 2000000 in
theorem length_any (sb eb L p len : Nat) (s : Se) (y : Ex) (v : Value) (w : World) (h : Pe w sb eb s y v) (hr : Room y (lenA L p len)) (h8 : 8 ≤ L) (hL : L + 514 ≤ 14143) (hp : p < 16) (h2 : 2 ≤ len) (h3 : len ≤ 273) :
    Writes 106 #[.pointer (some ⟨sb, L, none⟩), .pointer (some ⟨eb, 0, none⟩), .int .i64 (p : Int), .int .i64 (len : Int)] w sb eb s y v (lenA L p len) := by
  unfold Writes
  have hpI : (p : Int) < 16 := by omega
  by_cases h10 : len < 10
  · have h10I : (len : Int) < 10 := by omega
    have hA : lenA L p len = [bitA L 0] ++ treeA (L + 2 + p * 8) (len - 2) 3 := by unfold lenA; rw [if_pos h10]; rfl
    rw [hA] at hr ⊢
    have H1 := hid (bit_any sb eb L 2 2 0 0 s y v w h hr.one h8 (by omega) (by omega) (by decide))
    have H2 := hid (fun W z v' (HP : Pe W sb eb s z v') (HR : Room z (treeA (L + 2 + p * 8) (len - 2) 3)) => tree_any sb eb (L + 2 + p * 8) 8 8 (len - 2) 3 s z v' W HP HR (by omega) (by omega) (by omega) (by omega) (by omega) (by decide))
    have HR := hid hr.right
    obtain ⟨q, hq⟩ : ∃ q, q = len - 2 := ⟨_, rfl⟩
    have hqI : (len : Int) - 2 = (q : Int) := by omega
    rw [← hq] at H2 HR ⊢
    rw [runA_app]
    clear h hr hA hq
    unfold Writes at H1 H2
    rw [show (((0 : Nat) : Int)) = (0 : Int) from rfl, Nat.add_zero] at H1
    generalize runA [bitA L 0] y = y1 at *
    go_enter Tryz.func106, Tryz.ntmps106
    go_wp2_with fail
    refine H1.out.mono ?_
    rintro r w1 ⟨rfl, v1, hw1⟩
    have H3 := hid (H2.out w1 _ v1 hw1.pe HR.out)
    rw [show (((3 : Nat) : Int)) = (3 : Int) from rfl] at H3
    have HG := hid hw1
    clear hw1 H1 H2 HR
    go_wp2_with fail
    refine H3.out.mono ?_
    rintro r w2 ⟨rfl, v2, hw2⟩
    have HF := (show Hid (∃ v', Wrote w w2 sb eb s (runA (treeA (L + 2 + p * 8) q 3) y1) v v') from ⟨v2, HG.out.trans hw2⟩)
    clear hw2 HG H3
    go_wp2_with fail
    go_end0
    exact ⟨rfl, HF.out⟩
  · have h10I : ¬ (len : Int) < 10 := by omega
    by_cases h18 : len < 18
    · have h18I : (len : Int) < 18 := by omega
      have hA : lenA L p len = [bitA L 1] ++ ([bitA (L + 1) 0] ++ treeA (L + 130 + p * 8) (len - 10) 3) := by unfold lenA; rw [if_neg h10, if_pos h18]; rfl
      rw [hA] at hr ⊢
      have H1 := hid (bit_any sb eb L 2 2 0 1 s y v w h hr.one h8 (by omega) (by omega) (by decide))
      have H2 := hid (fun W z v' (HP : Pe W sb eb s z v') (HR : manyE z.e ≤ 999990) => bit_any sb eb L 2 2 1 0 s z v' W HP HR h8 (by omega) (by omega) (by decide))
      have H3 := hid (fun W z v' (HP : Pe W sb eb s z v') (HR : Room z (treeA (L + 130 + p * 8) (len - 10) 3)) => tree_any sb eb (L + 130 + p * 8) 8 8 (len - 10) 3 s z v' W HP HR (by omega) (by omega) (by omega) (by omega) (by omega) (by decide))
      have HR := hid hr.right.one
      have HR2 := hid hr.right.right
      obtain ⟨q, hq⟩ : ∃ q, q = len - 10 := ⟨_, rfl⟩
      have hqI : (len : Int) - 10 = (q : Int) := by omega
      rw [← hq] at H3 HR2 ⊢
      rw [runA_app, runA_app]
      clear h hr hA hq
      unfold Writes at H1 H2 H3
      rw [show (((0 : Nat) : Int)) = (0 : Int) from rfl, show (((1 : Nat) : Int)) = (1 : Int) from rfl, Nat.add_zero] at H1
      rw [show (((0 : Nat) : Int)) = (0 : Int) from rfl, show (((1 : Nat) : Int)) = (1 : Int) from rfl] at H2
      rw [show (((3 : Nat) : Int)) = (3 : Int) from rfl] at H3
      generalize runA [bitA L 1] y = y1 at *
      go_enter Tryz.func106, Tryz.ntmps106
      go_wp2_with fail
      refine H1.out.mono ?_
      rintro r w1 ⟨rfl, v1, hw1⟩
      have H4 := hid (H2.out w1 _ v1 hw1.pe HR.out)
      have HG := hid hw1
      clear hw1 H1 H2 HR
      go_wp2_with fail
      refine H4.out.mono ?_
      rintro r w2 ⟨rfl, v2, hw2⟩
      have H5 := hid (H3.out w2 _ v2 hw2.pe HR2.out)
      have HG2 := hid (HG.out.trans hw2)
      clear hw2 H4 H3 HR2 HG
      go_wp2_with fail
      refine H5.out.mono ?_
      rintro r w3 ⟨rfl, v3, hw3⟩
      have HF := (show Hid (∃ v', Wrote w w3 sb eb s (runA (treeA (L + 130 + p * 8) q 3) (runA [bitA (L + 1) 0] y1)) v v') from ⟨v3, HG2.out.trans hw3⟩)
      clear hw3 HG2 H5
      go_wp2_with fail
      go_end0
      exact ⟨rfl, HF.out⟩
    · have h18I : ¬ (len : Int) < 18 := by omega
      have hA : lenA L p len = [bitA L 1] ++ ([bitA (L + 1) 1] ++ treeA (L + 258) (len - 18) 8) := by unfold lenA; rw [if_neg h10, if_neg h18]; rfl
      rw [hA] at hr ⊢
      have H1 := hid (bit_any sb eb L 2 2 0 1 s y v w h hr.one h8 (by omega) (by omega) (by decide))
      have H2 := hid (fun W z v' (HP : Pe W sb eb s z v') (HR : manyE z.e ≤ 999990) => bit_any sb eb L 2 2 1 1 s z v' W HP HR h8 (by omega) (by omega) (by decide))
      have H3 := hid (fun W z v' (HP : Pe W sb eb s z v') (HR : Room z (treeA (L + 258) (len - 18) 8)) => tree_any sb eb (L + 258) 256 256 (len - 18) 8 s z v' W HP HR (by omega) (by omega) (by omega) (by omega) (by omega) (by decide))
      have HR := hid hr.right.one
      have HR2 := hid hr.right.right
      obtain ⟨q, hq⟩ : ∃ q, q = len - 18 := ⟨_, rfl⟩
      have hqI : (len : Int) - 18 = (q : Int) := by omega
      rw [← hq] at H3 HR2 ⊢
      rw [runA_app, runA_app]
      clear h hr hA hq
      unfold Writes at H1 H2 H3
      rw [show (((0 : Nat) : Int)) = (0 : Int) from rfl, show (((1 : Nat) : Int)) = (1 : Int) from rfl, Nat.add_zero] at H1
      rw [show (((1 : Nat) : Int)) = (1 : Int) from rfl] at H2
      rw [show (((8 : Nat) : Int)) = (8 : Int) from rfl] at H3
      generalize runA [bitA L 1] y = y1 at *
      go_enter Tryz.func106, Tryz.ntmps106
      go_wp2_with fail
      refine H1.out.mono ?_
      rintro r w1 ⟨rfl, v1, hw1⟩
      have H4 := hid (H2.out w1 _ v1 hw1.pe HR.out)
      have HG := hid hw1
      clear hw1 H1 H2 HR
      go_wp2_with fail
      refine H4.out.mono ?_
      rintro r w2 ⟨rfl, v2, hw2⟩
      have H5 := hid (H3.out w2 _ v2 hw2.pe HR2.out)
      have HG2 := hid (HG.out.trans hw2)
      clear hw2 H4 H3 HR2 HG
      go_wp2_with fail
      refine H5.out.mono ?_
      rintro r w3 ⟨rfl, v3, hw3⟩
      have HF := (show Hid (∃ v', Wrote w w3 sb eb s (runA (treeA (L + 258) q 8) (runA [bitA (L + 1) 1] y1)) v v') from ⟨v3, HG2.out.trans hw3⟩)
      clear hw3 HG2 H5
      go_wp2_with fail
      go_end0
      exact ⟨rfl, HF.out⟩

/-! How many bits a number has. -/
def lenN (x : Nat) : Nat := if x = 0 then 0 else Nat.log2 x + 1
theorem lenN_shift (x : Nat) (h : 256 ≤ x) : lenN x = 8 + lenN (x / 256) := by
  have h0 : x / 256 ≠ 0 := by omega
  have hx0 : x ≠ 0 := by omega
  unfold lenN
  rw [if_neg h0, if_neg hx0]
  have l1 : 2 ^ Nat.log2 (x / 256) ≤ x / 256 := Nat.log2_self_le h0
  have l2 : x / 256 < 2 ^ (Nat.log2 (x / 256) + 1) := Nat.lt_log2_self
  generalize Nat.log2 (x / 256) = k at *
  rw [Nat.pow_succ] at l2
  rw [(Nat.log2_eq_iff hx0 (k := k + 8)).2 ⟨by rw [Nat.pow_add]; omega, by rw [Nat.pow_succ, Nat.pow_add]; omega⟩]
  omega
set_option maxRecDepth 100000 in
set_option maxHeartbeats 1000000 in
/-- math/bits.Len32 of a number below 2^16. -/
theorem len32_any (x : Nat) (hx : x < 65536) (w : World) : Calls Tryz.prog 89 #[.int .u32 (x : Int)] w fun e w' => e = .returned (.int .i64 ((lenN x : Nat) : Int)) ∧ w' = w := by
  have g2 : ¬ (65536 : Int) ≤ (x : Int) := by omega
  by_cases h : x < 256
  · have g3 : ¬ (256 : Int) ≤ (x : Int) := by omega
    go_enter Tryz.func89, Tryz.ntmps89
    go_wp2
    go_ret
    refine ⟨congrArg (fun x => Ending.returned (Value.int .i64 x)) ?_, rfl⟩
    clear w g2 hx
    revert g3 h
    revert x
    decide +kernel
  · have g3 : (256 : Int) ≤ (x : Int) := by omega
    have hs := lenN_shift x (by omega)
    obtain ⟨y, hy⟩ : ∃ y, y = x / 256 := ⟨_, rfl⟩
    have hd : (x : Int) / 2 ^ 8 = (y : Int) := by omega
    have hd' : (x : Int) / 256 = (y : Int) := by omega
    rw [← hy] at hs
    have hy2 : y < 256 := by omega
    have hyI : (y : Int) < 256 := by omega
    generalize lenN x = lx at hs ⊢
    have HS := (show Hid _ from hs)
    have HY := (show Hid _ from hy)
    clear hs hy
    go_enter Tryz.func89, Tryz.ntmps89
    go_wp2
    go_ret
    refine ⟨congrArg (fun x => Ending.returned (Value.int .i64 x)) ?_, rfl⟩
    rw [HS.out]
    clear w g2 hx g3 HS HY hd hd' h lx x
    revert hyI hy2
    revert y
    decide +kernel

end Go.Proofs.YtnokemcogjoonaaGreatDoor.Pt

namespace Go.Proofs.YtnokemcogjoonaaGreatDoor.Pt
open Go.RowKit Go.Shelf
set_option linter.unusedVariables false

set_option maxHeartbeats 2000000 in
theorem slotOf_any (far : Nat) (hf : far < 65536) (w : World) : Calls Tryz.prog 130 #[.int .u32 (far : Int)] w fun e w' => e = .returned (.tuple #[.int .i64 ((slotN far : Nat) : Int), .int .u32 ((baseN far : Nat) : Int), .int .i64 ((lowK far : Nat) : Int)]) ∧ Keep noBlock w w' := by
  have hfI : (far : Int) < 4294967296 := by omega
  by_cases h4 : far < 4
  · have h4I : (far : Int) < 4 := by omega
    have e1 : slotN far = far := by unfold slotN; rw [if_pos h4]
    have e2 : baseN far = far := by unfold baseN; rw [if_pos h4]
    have e3 : lowK far = 0 := by unfold lowK; rw [if_pos h4]
    rw [e1, e2, e3]
    clear e1 e2 e3
    go_enter Tryz.func130, Tryz.ntmps130
    go_wp2_with fail
    exact bodyPost_ret (v := .tuple #[.int .i64 (far : Int), .int .u32 (far : Int), .int .i64 0]) (by simp [results, Tryz.results130]) rfl ⟨rfl, Keep.refl _ _⟩
  · have h4I : ¬ (far : Int) < 4 := by omega
    obtain ⟨a1, a2, a3, a4, a5⟩ := slot_facts far h4 (by omega)
    have hL : lenN far = lowK far + 2 := by
      have h0 : far ≠ 0 := by omega
      have : 2 ≤ Nat.log2 far := (Nat.le_log2 h0).2 (by omega)
      unfold lenN lowK
      rw [if_neg h0, if_neg h4]
      omega
    have es : slotN far = 2 * lowK far + far / 2 ^ lowK far := by unfold slotN; rw [if_neg h4]
    have eb : baseN far = far / 2 ^ lowK far * 2 ^ lowK far := by unfold baseN; rw [if_neg h4]
    have HC := hid (len32_any far hf)
    rw [hL] at HC
    have hbl : baseN far < 65536 := by omega
    generalize lowK far = k at *
    obtain ⟨hi, hhi⟩ : ∃ hi, hi = far / 2 ^ k := ⟨_, rfl⟩
    have hiI : (far : Int) / 2 ^ k = (hi : Int) := by rw [hhi]; simp
    rw [← hhi] at es eb a3
    have kI : (((k + 2 : Nat)) : Int) - 2 = (k : Int) := by omega
    have kI2 : (k : Int) < 32 := by omega
    have hiB : (hi : Int) < 4 := by omega
    have bI : (hi : Int) * 2 ^ k % 4294967296 = ((baseN far : Nat) : Int) := by
      rw [show (hi : Int) * 2 ^ k = ((hi * 2 ^ k : Nat) : Int) from by simp, ← eb]
      omega
    have bI2 : (hi : Int) * 2 ^ k = ((baseN far : Nat) : Int) := by
      rw [show (hi : Int) * 2 ^ k = ((hi * 2 ^ k : Nat) : Int) from by simp, ← eb]
    have hblI : ((baseN far : Nat) : Int) < 65536 := by omega
    have HS := hid es
    clear a4 a5 eb hL hhi es a3 bI
    generalize baseN far = bs at *
    go_enter Tryz.func130, Tryz.ntmps130
    go_wp2_with (go_at_call 89; refine (HC.out _).mono ?_; rintro r w' ⟨rfl, hw⟩; obtain rfl := hw.symm)
    go_region
    go_wp2_with fail
    refine bodyPost_ret (v := .tuple #[.int .i64 (2 * (k : Int) + (hi : Int)), .int .u32 (bs : Int), .int .i64 (k : Int)]) (by simp [results, Tryz.results130]) rfl ⟨?_, (Keep.refl _ w).drew⟩
    rw [HS.out, show ((2 * k + hi : Nat) : Int) = 2 * (k : Int) + (hi : Int) from by omega]

/-- Bits that are as likely. -/
theorem dir_any (sb eb z k : Nat) (s : Se) (y : Ex) (v : Value) (w : World) (h : Pe w sb eb s y v) (hr : Room y [dirA z k]) (hz : z < 4294967296) (hk : k ≤ 32) :
    Writes 132 #[.pointer (some ⟨eb, 0, none⟩), .int .u32 (z : Int), .int .i64 (k : Int)] w sb eb s y v [dirA z k] := by
  unfold Writes
  have hb : bitsN (k : Int) = k := by unfold bitsN; omega
  have H := directE_any eb z (k : Int) y.e v w h.en h.good.ok hz (by unfold Room at hr; simp [costA, dirA] at hr; omega)
  rw [hb] at H
  refine H.mono ?_
  rintro r w1 ⟨rfl, v1, a1, a2, a3⟩
  refine ⟨rfl, v1, ⟨h.st.keep a3 ?_, a1, dirE_good _ _ h.good⟩, a2, a3.mono ?_⟩
  · rintro (e | e)
    · exact h.ne e
    · exact h.nv e
  · rintro i hi (e | e)
    · exact .inr (.inl e)
    · exact .inr (.inr e)
/-- Behind a call that has turned nothing. -/
theorem Wrote.keep {w w1 w2 : World} {sb eb : Nat} {s : Se} {x : Ex} {v v1 : Value} (h : Wrote w w1 sb eb s x v v1) (k : Keep noBlock w1 w2) : Wrote w w2 sb eb s x v v1 :=
  ⟨h.pe.keep k (fun h => h) (fun h => h) (fun _ _ h => h), h.near, h.kp.trans k (fun _ _ h => h.elim)⟩
section
attribute [local go_sem] minSem_eq
set_option maxRecDepth 20000 in
set_option maxHeartbeats 4000000 in
theorem distance_any (sb eb len far : Nat) (s : Se) (y : Ex) (v : Value) (w : World) (h : Pe w sb eb s y v) (hr : Room y (distA len far)) (h2 : 2 ≤ len) (h3 : len ≤ 273) (hf : far < 65536) :
    Writes 107 #[.pointer (some ⟨sb, 13756, none⟩), .pointer (some ⟨eb, 0, none⟩), .int .i64 (len : Int), .int .u32 (far : Int)] w sb eb s y v (distA len far) := by
  unfold Writes
  obtain ⟨m, hm⟩ : ∃ m : Nat, m = min len 5 := ⟨_, rfl⟩
  obtain ⟨q, hq⟩ : ∃ q : Nat, q = min len 5 - 2 := ⟨_, rfl⟩
  have hmin := minSem_run .i64 #[3, 3] 3 (len : Int) 5 (m : Int) (by omega)
  have hqI : (m : Int) - 2 = (q : Int) := by omega
  have hq4 : q < 4 := by omega
  have hq4I : (q : Int) < 4 := by omega
  have hfI : (far : Int) < 65536 := by omega
  have HC := hid (slotOf_any far hf w)
  have hsl := slot_lt far (by omega)
  have HFx := hid (fun h4 => slot_facts far h4 (by omega))
  have hes : ¬ far < 4 → slotN far = 2 * lowK far + far / 2 ^ lowK far := fun h4 => by unfold slotN; rw [if_neg h4]
  have heb : ¬ far < 4 → baseN far = far / 2 ^ lowK far * 2 ^ lowK far := fun h4 => by unfold baseN; rw [if_neg h4]
  have hbl : baseN far ≤ far := by
    by_cases h4 : far < 4
    · unfold baseN; rw [if_pos h4]; exact Nat.le_refl _
    · exact (HFx.out h4).2.2.2.1
  have hs4 : slotN far < 4 ↔ far < 4 := by
    by_cases h4 : far < 4
    · unfold slotN; rw [if_pos h4]
    · obtain ⟨a1, a2, a3, -, -⟩ := HFx.out h4
      have := hes h4
      omega
  have hlk : ¬ far < 4 → 1 ≤ lowK far ∧ lowK far ≤ 30 := fun h4 => ⟨(HFx.out h4).1, (HFx.out h4).2.1⟩
  unfold distA at hr ⊢
  rw [← hq] at hr ⊢
  have HT := hid (fun W (HP : Pe W sb eb s y v) => tree_any sb eb (13756 + q * 64) 64 64 (slotN far) 6 s y v W HP hr.left (by omega) (by omega) (by omega) (by omega) (by omega) (by decide))
  unfold Writes at HT
  rw [show (((6 : Nat) : Int)) = (6 : Int) from rfl] at HT
  have HR := hid hr.right
  have HP := hid h
  obtain ⟨rs, hrs⟩ : ∃ rs, rs = far - baseN far := ⟨_, rfl⟩
  have hrsI : ((far : Int) - ((baseN far : Nat) : Int)) % 4294967296 = (rs : Int) := by omega
  have hrsI2 : (far : Int) - ((baseN far : Nat) : Int) = (rs : Int) := by omega
  have hrsB : rs < 65536 := by omega
  have hbsI : ((baseN far : Nat) : Int) < 65536 := by omega
  rw [runA_app]
  have HX := (show Hid ((¬ far < 4 → rs < 2 ^ lowK far) ∧ (¬ far < 4 → slotN far < 14 → slotN far ≤ baseN far ∧ baseN far - slotN far + 2 ^ lowK far ≤ 115 ∧ lowK far ≤ 5) ∧ (¬ far < 4 → ¬ slotN far < 14 → 6 ≤ lowK far)) from by
    refine ⟨fun h4 => by rw [hrs]; exact (HFx.out h4).2.2.2.2, fun h4 h14 => ?_, fun h4 h14 => ?_⟩
    · obtain ⟨a1, a2, a3, -, -⟩ := HFx.out h4
      have es := hes h4
      have eb := heb h4
      obtain ⟨k1, k2, k3, k4, k5⟩ := slot_bd (slotN far) (by omega) hsl
      have e1 : slotN far / 2 - 1 = lowK far := by omega
      have e2 : 2 + slotN far % 2 = far / 2 ^ lowK far := by omega
      have k6 := k4 h14
      rw [e1, e2, ← eb] at k6
      exact k6
    · obtain ⟨a1, a2, a3, -, -⟩ := HFx.out h4
      have es := hes h4
      omega)
  rw [← hrs] at HR ⊢
  generalize runA (treeA (13756 + q * 64) (slotN far) 6) y = y1 at *
  clear h hr hm hq hrs HFx hes heb
  generalize slotN far = sl at *
  generalize baseN far = bs at *
  generalize lowK far = k at *
  obtain ⟨M, hM⟩ : ∃ M, M = (if sl < 4 then [] else if sl < 14 then backA (14012 + (bs - sl)) k 0 1 rs else dirA (rs / 16) (k - 4) :: backA 14127 4 0 1 rs) := ⟨_, rfl⟩
  rw [← hM] at HR ⊢
  have HM := hid hM
  clear hM
  go_enter Tryz.func107, Tryz.ntmps107
  go_wp2_with fail
  refine HC.out.mono ?_
  rintro r w0 ⟨rfl, hk0⟩
  have HG0 := hid ((Wrote.refl HP.out).keep hk0)
  have HT1 := hid (HT.out w0 HG0.out.pe)
  clear hk0 HC HT
  go_wp2_with fail
  refine HT1.out.mono ?_
  rintro r w1 ⟨rfl, v1, hw1⟩
  have HG := hid (HG0.out.trans hw1)
  clear hw1 HT1 HG0 HP
  by_cases h4 : sl < 4
  · have h4I : (sl : Int) < 4 := by omega
    have HF := (show Hid (∃ v', Wrote w w1 sb eb s (runA M y1) v v') from by rw [HM.out, if_pos h4]; exact ⟨v1, HG.out⟩)
    clear HR HX HM HG
    go_wp2_with fail
    go_end0
    exact ⟨rfl, HF.out⟩
  · have h4I : ¬ (sl : Int) < 4 := by omega
    have hf4 : ¬ far < 4 := fun e => h4 (hs4.2 e)
    obtain ⟨x1, x2, x3⟩ := HX.out
    replace x1 := x1 hf4
    have hd4 : decide ((sl : Int) < 4) = false := decide_eq_false h4I
    obtain ⟨k1, k2⟩ := hlk hf4
    by_cases h14 : sl < 14
    · have h14I : (sl : Int) < 14 := by omega
      obtain ⟨y1', y2', y3'⟩ := x2 hf4 h14
      have hd14 : decide ((sl : Int) < 14) = true := decide_eq_true h14I
      obtain ⟨t, ht⟩ : ∃ t : Nat, t = bs - sl := ⟨_, rfl⟩
      have i7 : (bs : Int) - (sl : Int) = (t : Int) := by omega
      rw [← ht] at y2'
      have HM := hid (show M = backA (14012 + t) k 0 1 rs from by rw [HM.out, if_neg h4, if_pos h14, ht])
      rw [HM.out] at HR
      have hpk := Nat.two_pow_pos k
      have HB := hid (back_any sb eb (14012 + t) (115 - t) (115 - t) k rs s y1 v1 w1 HG.out.pe HR.out (by omega) (by omega) (by omega) (by omega) (by omega) (by omega))
      unfold Writes at HB
      have i9 : (t : Int) ≤ 115 := by omega
      have i11 : t < 115 := by omega
      have i12 : ¬ 115 = t := by omega
      clear HX x1 x2 x3 HR ht hlk hs4 y2' hpk hbl hrsI
      have i10 : (rs : Int) < 65536 := by omega
      go_wp2_with fail
      refine HB.out.mono ?_
      rintro r w2 ⟨rfl, v2, hw2⟩
      have HF := (show Hid (∃ v', Wrote w w2 sb eb s (runA M y1) v v') from by rw [HM.out]; exact ⟨v2, HG.out.trans hw2⟩)
      clear hw2 HG HB HM
      go_wp2_with fail
      go_end0
      exact ⟨rfl, HF.out⟩
    · have h14I : ¬ (sl : Int) < 14 := by omega
      have k6 := x3 hf4 h14
      have hd14 : decide ((sl : Int) < 14) = false := decide_eq_false h14I
      obtain ⟨hi, hhi⟩ : ∃ hi, hi = rs / 16 := ⟨_, rfl⟩
      obtain ⟨k4, hk4⟩ : ∃ k4, k4 = k - 4 := ⟨_, rfl⟩
      have HM := (show Hid (M = [dirA hi k4] ++ backA 14127 4 0 1 rs) from by rw [HM.out, if_neg h4, if_neg h14, hhi, hk4]; rfl)
      rw [HM.out] at HR
      have j1 : (rs : Int) / 16 = (hi : Int) := by omega
      have j2 : (k : Int) - 4 = (k4 : Int) := by omega
      have HD := hid (dir_any sb eb hi k4 s y1 v1 w1 HG.out.pe HR.out.left (by omega) (by omega))
      unfold Writes at HD
      have HR2 := hid HR.out.right
      have HM := hid (show runA M y1 = runA (backA 14127 4 0 1 rs) (runA [dirA hi k4] y1) from by rw [HM.out, runA_app])
      have i10 : (rs : Int) < 65536 := by omega
      clear HX x1 x2 x3 HR hhi hk4 hlk hs4 hbl hrsI
      generalize runA [dirA hi k4] y1 = y2 at *
      go_wp2_with fail
      refine HD.out.mono ?_
      rintro r w2 ⟨rfl, v2, hw2⟩
      have HG2 := hid (HG.out.trans hw2)
      have HB := hid (back_any sb eb 14127 16 16 4 rs s y2 v2 w2 HG2.out.pe HR2.out (by omega) (by omega) (by omega) (by decide) (by decide) (by decide))
      unfold Writes at HB
      rw [show (((4 : Nat) : Int)) = (4 : Int) from rfl] at HB
      clear hw2 HD HG HR2
      go_wp2_with fail
      refine HB.out.mono ?_
      rintro r w3 ⟨rfl, v3, hw3⟩
      have HF := (show Hid (∃ v', Wrote w w3 sb eb s (runA M y1) v v') from by rw [HM.out]; exact ⟨v3, HG2.out.trans hw3⟩)
      clear hw3 HG2 HB HM
      go_wp2_with fail
      go_end0
      exact ⟨rfl, HF.out⟩
end

end Go.Proofs.YtnokemcogjoonaaGreatDoor.Pt
