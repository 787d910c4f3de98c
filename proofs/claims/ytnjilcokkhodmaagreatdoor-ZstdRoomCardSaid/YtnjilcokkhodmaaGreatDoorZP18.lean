/-
  tell.
  readHead.
  Read of literals.
-/
import Derived.Test.YtnjilcokkhodmaaGreatDoorZP16
import Derived.Test.YtnjilcokkhodmaaGreatDoorZP17
namespace Go.Proofs.YtnjilcokkhodmaaGreatDoor
open Go.RowKit Go.Shelf
set_option linter.unusedVariables false

def TAns (o : Option (List Nat × List Nat)) (w : World) (e : Ending) (w' : World) : Prop :=
 Keep noBlock w w' ∧ match o with
  | none => ∃ v1 v2, e = .returned (.tuple #[v1, v2, .bool false])
  | some p => ∃ a1 n1 c1 g1 o1 a2 n2 c2 g2 o2, e = .returned (.tuple #[.slice a1 n1 c1, .slice a2 n2 c2, .bool true]) ∧ n1 = p.1.length ∧ n2 = p.2.length ∧ Bytes w' a1 c1 g1 o1 p.1 ∧ Bytes w' a2 c2 g2 o2 p.2 ∧ w.heap.size ≤ g1 ∧ w.heap.size ≤ g2
def RdW (bs : List Nat) (c u : Nat) (V : List Nat) : Prop := ∀ (a : Option Addr) (cap gb off : Nat) (w : World), Bytes w a cap gb off bs → Calls Tryz.prog 61 #[.slice a bs.length cap] w fun e w' => RAns c u V w e w'

theorem unpL_ok {ws bs l : List Nat} {size n : Nat} (hs : size ≤ 131072) (hn1 : 1 ≤ n) (hn4 : n ≤ 4) (h : unpL ws bs size n = some l) : l.length ≤ 524304 ∧ ∀ j : Nat, l[j]?.getD 0 < 256 := by
  unfold unpL at h
  cases hc : cutL bs size n with
  | none => rw [hc] at h; cases h
  | some R =>
    rw [hc] at h
    have h2 : unpR ws R = some l := h
    have hR : R.length = n ∧ ∀ (i : Nat) x, R[i]? = some x → x.2 ≤ 131076 := by
      unfold cutL at hc
      split at hc
      · cases hc
      · split at hc
        · cases hc
          exact ⟨rowsN_length _ _ _ _ hn1, fun i x hx => by have := (rowsN_small hn1 hx).2; omega⟩
        · cases hc
    unfold unpR at h2
    split at h2
    · cases h2
      have e : R.flatMap (fun r => unpV ws r.1 (r.2 : Int)) = accR ws R n := by unfold accR; rw [List.take_of_length_le (by omega)]
      refine ⟨?_, lt256 fun b hb => ?_⟩
      · rw [e]
        refine Nat.le_trans (accR_len (B := 131076) hR.2 n) (Nat.le_trans (Nat.mul_le_mul_right _ hn4) (by decide))
      · obtain ⟨r, -, hb⟩ := List.mem_flatMap.1 hb
        exact lt_mem (unpV_lt ws r.1 (r.2 : Int)) b hb
    · cases h2

section
attribute [local go_sem] sliceSem_eq
set_option maxRecDepth 100000 in
set_option maxHeartbeats 1000000 in
theorem tell_raw (hb fr bt n size pk : Nat) (a : Option Addr) (cap gb off : Nat) (cs : List Nat) (a2 : Option Addr) (cap2 gb2 off2 : Nat) (ws : List Nat) (w : World) (hB : Bytes w a cap gb off cs) (hB2 : Bytes w a2 cap2 gb2 off2 ws) (hl : cs.length ≤ 1048576) (hl2 : ws.length ≤ 140737488355327) :
  Calls Tryz.prog 47 #[headV 0 hb fr bt n size pk, .slice a cs.length cap, .slice a2 ws.length cap2] w fun e w' => TAns (some (cs, ws)) w e w' := by
 unfold headV
 have HC := hid (show ∀ W, Keep noBlock w W → Calls Tryz.prog 59 #[.slice a cs.length cap] W fun e w' => Keep noBlock W w' ∧ ∃ a' n cap' g, e = .returned (.slice a' n cap') ∧ n = cs.length ∧ Bytes w' a' cap' g 0 cs ∧ W.heap.size ≤ g from fun W hW => cloneB_any a cap gb off cs W (hB.keep hW (fun _ h => h)) (by omega))
 have HD := hid (show ∀ W, Keep noBlock w W → Calls Tryz.prog 59 #[.slice a2 ws.length cap2] W fun e w' => Keep noBlock W w' ∧ ∃ a' n cap' g, e = .returned (.slice a' n cap') ∧ n = ws.length ∧ Bytes w' a' cap' g 0 ws ∧ W.heap.size ≤ g from fun W hW => cloneB_any a2 cap2 gb2 off2 ws W (hB2.keep hW (fun _ h => h)) hl2)
 obtain ⟨L, hL⟩ : ∃ L, L = cs.length := ⟨_, rfl⟩
 obtain ⟨Lw, hLw⟩ : ∃ Lw, Lw = ws.length := ⟨_, rfl⟩
 rw [← hL] at HC ⊢
 rw [← hLw] at HD ⊢
 have HL := hid (show L = cs.length ∧ Lw = ws.length from ⟨hL, hLw⟩)
 have hKa := (Keep.refl noBlock w).alloc (.cells #[.int .i64 0, .int .i64 (hb : Int), .int .i64 (fr : Int), .int .i64 (bt : Int), .int .i64 (n : Int), .int .i64 (size : Int), .int .i64 (pk : Int)] 91)
 have HK := hid hKa
 clear hB hB2 hl hl2 hL hLw hKa
 go_enter Tryz.func47, Tryz.ntmps47
 go_wp2_with fail
 refine (HC.out _ HK.out).mono ?_
 rintro e w1 ⟨hk1, a3, n3, c3, g3, rfl, hn3, hB3, hg3⟩
 have H1 := hid (show Keep noBlock w w1 ∧ n3 = cs.length ∧ Bytes w1 a3 c3 g3 0 cs from ⟨HK.out.trans' hk1, hn3.trans HL.out.1, hB3⟩)
 have HG3 := hid (Nat.le_trans HK.out.size hg3)
 clear hk1 hn3 hB3 hg3
 go_wp2_with fail
 refine (HD.out _ H1.out.1).mono ?_
 rintro e w2 ⟨hk2, a4, n4, c4, g4, rfl, hn4, hB4, hg4⟩
 have HG4 := hid (Nat.le_trans H1.out.1.size hg4)
 have H2 := hid (show Keep noBlock w w2 ∧ n4 = ws.length ∧ Bytes w2 a4 c4 g4 0 ws ∧ Bytes w2 a3 c3 g3 0 cs from ⟨H1.out.1.trans' hk2, hn4.trans HL.out.2, hB4, H1.out.2.2.keep hk2 (fun _ h => h)⟩)
 clear hk2 hn4 hB4 hg4
 go_wp2_with fail
 (try simp only [Exit.inBlock, Exit.then])
 refine bodyPost_ret (v := .tuple #[.slice a3 n3 c3, .slice a4 n4 c4, .bool true]) (by simp [results, Tryz.results47, go_sem]) rfl ⟨H2.out.1, a3, n3, c3, g3, 0, a4, n4, c4, g4, 0, rfl, H1.out.2.1, H2.out.2.1, H2.out.2.2.2, H2.out.2.2.1, HG3.out, HG4.out⟩

set_option maxRecDepth 100000 in
set_option maxHeartbeats 1000000 in
theorem repeat_zero (a : Option Addr) (cap : Nat) (w : World) :
  Calls Tryz.prog 14 #[.slice a 1 cap, .int .i64 0] w fun e w' => Keep noBlock w w' ∧ ∃ a' cap' g, e = .returned (.slice a' 0 cap') ∧ Bytes w' a' cap' g 0 [] ∧ w.heap.size ≤ g := by
 go_enter Tryz.func14, Tryz.ntmps14
 go_wp2
 go_ret
 exact ⟨(Keep.refl _ w).alloc _, some ⟨w.heap.size, 0, none⟩, 0, w.heap.size, rfl, ⟨.inl rfl, (fun e => by cases e), fun j hj => by simp at hj, fun j => by simp, Nat.le_refl _, by decide⟩, Nat.le_refl _⟩
theorem repeat_all (a : Option Addr) (cap gb off x s : Nat) (w : World) (hB : Bytes w a cap gb off [x]) (hs : s ≤ 131072) :
  Calls Tryz.prog 14 #[.slice a 1 cap, .int .i64 (s : Int)] w fun e w' => Keep noBlock w w' ∧ ∃ a' cap' g, e = .returned (.slice a' s cap') ∧ Bytes w' a' cap' g 0 (List.replicate s x) ∧ w.heap.size ≤ g := by
 by_cases h0 : s = 0
 ·subst h0
  exact repeat_zero a cap w
 ·exact repeat_any a cap gb off x s w hB (by omega) hs

set_option maxRecDepth 100000 in
set_option maxHeartbeats 1000000 in
theorem tell_one (hb fr bt n size pk : Nat) (a : Option Addr) (cap gb off x : Nat) (a2 : Option Addr) (cap2 gb2 off2 : Nat) (ws : List Nat) (w : World) (hB : Bytes w a cap gb off [x]) (hB2 : Bytes w a2 cap2 gb2 off2 ws) (hs : size ≤ 131072) (hl2 : ws.length ≤ 140737488355327) :
  Calls Tryz.prog 47 #[headV 1 hb fr bt n size pk, .slice a 1 cap, .slice a2 ws.length cap2] w fun e w' => TAns (some (List.replicate size x, ws)) w e w' := by
 unfold headV
 have HC := hid (show ∀ W, Keep noBlock w W → Calls Tryz.prog 14 #[.slice a 1 cap, .int .i64 (size : Int)] W fun e w' => Keep noBlock W w' ∧ ∃ a' cap' g, e = .returned (.slice a' size cap') ∧ Bytes w' a' cap' g 0 (List.replicate size x) ∧ W.heap.size ≤ g from fun W hW => repeat_all a cap gb off x size W (hB.keep hW (fun _ h => h)) hs)
 have HD := hid (show ∀ W, Keep noBlock w W → Calls Tryz.prog 59 #[.slice a2 ws.length cap2] W fun e w' => Keep noBlock W w' ∧ ∃ a' n cap' g, e = .returned (.slice a' n cap') ∧ n = ws.length ∧ Bytes w' a' cap' g 0 ws ∧ W.heap.size ≤ g from fun W hW => cloneB_any a2 cap2 gb2 off2 ws W (hB2.keep hW (fun _ h => h)) hl2)
 obtain ⟨Lw, hLw⟩ : ∃ Lw, Lw = ws.length := ⟨_, rfl⟩
 rw [← hLw] at HD ⊢
 have HLw := hid hLw
 have hKa := (Keep.refl noBlock w).alloc (.cells #[.int .i64 1, .int .i64 (hb : Int), .int .i64 (fr : Int), .int .i64 (bt : Int), .int .i64 (n : Int), .int .i64 (size : Int), .int .i64 (pk : Int)] 91)
 have HK := hid hKa
 clear hB hB2 hs hl2 hLw hKa
 go_enter Tryz.func47, Tryz.ntmps47
 go_wp2_with fail
 refine (HC.out _ HK.out).mono ?_
 rintro e w1 ⟨hk1, a3, c3, g3, rfl, hB3, hg3⟩
 have HG3 := hid (Nat.le_trans HK.out.size hg3)
 have H1 := hid (show Keep noBlock w w1 ∧ Bytes w1 a3 c3 g3 0 (List.replicate size x) from ⟨HK.out.trans' hk1, hB3⟩)
 clear hk1 hB3 hg3
 go_wp2_with fail
 refine (HD.out _ H1.out.1).mono ?_
 rintro e w2 ⟨hk2, a4, n4, c4, g4, rfl, hn4, hB4, hg4⟩
 have HG4 := hid (Nat.le_trans H1.out.1.size hg4)
 have H2 := hid (show Keep noBlock w w2 ∧ n4 = ws.length ∧ Bytes w2 a4 c4 g4 0 ws ∧ Bytes w2 a3 c3 g3 0 (List.replicate size x) from ⟨H1.out.1.trans' hk2, hn4.trans HLw.out, hB4, H1.out.2.keep hk2 (fun _ h => h)⟩)
 clear hk2 hn4 hB4 hg4
 go_wp2_with fail
 (try simp only [Exit.inBlock, Exit.then])
 refine bodyPost_ret (v := .tuple #[.slice a3 size c3, .slice a4 n4 c4, .bool true]) (by simp [results, Tryz.results47, go_sem]) rfl ⟨H2.out.1, a3, size, c3, g3, 0, a4, n4, c4, g4, 0, rfl, by simp, H2.out.2.1, H2.out.2.2.2, H2.out.2.2.1, HG3.out, HG4.out⟩

set_option maxRecDepth 100000 in
set_option maxHeartbeats 1000000 in
theorem tell_ahead (hb fr bt n size pk : Nat) (a : Option Addr) (cap gb off : Nat) (cs : List Nat) (a2 : Option Addr) (cap2 gb2 off2 : Nat) (ws : List Nat) (w : World) (hB : Bytes w a cap gb off cs) (hB2 : Bytes w a2 cap2 gb2 off2 ws) (hs : size ≤ 131072) (hl : cs.length ≤ 1048576) (hl2 : ws.length ≤ 140737488355327) (hn1 : 1 ≤ n) (hn4 : n ≤ 4) :
    Calls Tryz.prog 47 #[headV 3 hb fr bt n size pk, .slice a cs.length cap, .slice a2 ws.length cap2] w fun e w' => TAns ((unpL ws cs size n).map (fun l => (l, ws))) w e w' := by
  have HC := hid (show ∀ W, Keep noBlock w W → Calls Tryz.prog 60 #[headV 3 hb fr bt n size pk, .slice a cs.length cap, .slice a2 ws.length cap2] W fun e w' => UAns (unpL ws cs size n) W e w' from fun W hW => unpack_lit 3 hb fr bt size n pk a cap gb off cs a2 cap2 gb2 off2 ws W (hB.keep hW (fun _ h => h)) (hB2.keep hW (fun _ h => h)) hs hn1 hn4 hl)
  have HD := hid (show ∀ W, Keep noBlock w W → Calls Tryz.prog 59 #[.slice a2 ws.length cap2] W fun e w' => Keep noBlock W w' ∧ ∃ a' n cap' g, e = .returned (.slice a' n cap') ∧ n = ws.length ∧ Bytes w' a' cap' g 0 ws ∧ W.heap.size ≤ g from fun W hW => cloneB_any a2 cap2 gb2 off2 ws W (hB2.keep hW (fun _ h => h)) hl2)
  have hsz := fun l => unpL_ok (ws := ws) (bs := cs) (l := l) hs hn1 hn4
  unfold headV at HC ⊢
  obtain ⟨L, hL⟩ : ∃ L, L = cs.length := ⟨_, rfl⟩
  obtain ⟨Lw, hLw⟩ : ∃ Lw, Lw = ws.length := ⟨_, rfl⟩
  rw [← hL, ← hLw] at HC ⊢
  rw [← hLw] at HD
  have HLw := hid hLw
  have hKa := (Keep.refl noBlock w).alloc (.cells #[.int .i64 3, .int .i64 (hb : Int), .int .i64 (fr : Int), .int .i64 (bt : Int), .int .i64 (n : Int), .int .i64 (size : Int), .int .i64 (pk : Int)] 91)
  have HK := hid hKa
  have HZ := hid hsz
  clear hB hB2 hs hl hl2 hL hLw hKa hsz
  go_enter Tryz.func47, Tryz.ntmps47
  go_wp2_with fail
  refine (HC.out _ HK.out).mono ?_
  rintro e w1 ⟨hk1, hm⟩
  cases hu : unpL ws cs size n with
  | none =>
    rw [hu] at hm
    subst hm
    have HK1 := hid (HK.out.trans' hk1)
    have HUu := hid hu
    clear hk1 hu
    go_wp2_with fail
    refine (HD.out _ HK1.out).mono ?_
    rintro e w2 ⟨hk2, a4, n4, c4, g4, rfl, hn4, hB4, -⟩
    have HK2 := hid (HK1.out.trans' hk2)
    clear hk2 hn4 hB4
    go_wp2_with fail
    (try simp only [Exit.inBlock, Exit.then])
    refine bodyPost_ret (v := .tuple #[.slice none 0 0, .slice a4 n4 c4, .bool false]) (by simp [results, Tryz.results47, go_sem]) rfl (show TAns _ _ _ _ from by rw [HUu.out]; exact ⟨HK2.out, _, _, rfl⟩)
  | some l =>
    rw [hu] at hm
    obtain ⟨v, rfl, ho, hnw⟩ := hm
    have hz := HZ.out l hu
    obtain ⟨a3, c3, g3, rfl, hB3, hg3⟩ := owns_bytesN (M := l) ho hz.2 (by omega) hnw
    have HG3 := hid (Nat.le_trans HK.out.size hg3)
    obtain ⟨L3, hL3⟩ : ∃ L3, L3 = l.length := ⟨_, rfl⟩
    rw [← hL3]
    have H1 := hid (show Keep noBlock w w1 ∧ L3 = l.length ∧ Bytes w1 a3 c3 g3 0 l from ⟨HK.out.trans' hk1, hL3, hB3⟩)
    have HUu := hid hu
    clear hk1 ho hz hB3 hL3 hu hg3 hnw
    go_wp2_with fail
    refine (HD.out _ H1.out.1).mono ?_
    rintro e w2 ⟨hk2, a4, n4, c4, g4, rfl, hn4, hB4, hg4⟩
    have HG4 := hid (Nat.le_trans H1.out.1.size hg4)
    have H2 := hid (show Keep noBlock w w2 ∧ n4 = ws.length ∧ Bytes w2 a4 c4 g4 0 ws ∧ Bytes w2 a3 c3 g3 0 l from ⟨H1.out.1.trans' hk2, hn4.trans HLw.out, hB4, H1.out.2.2.keep hk2 (fun _ h => h)⟩)
    clear hk2 hn4 hB4 hg4
    go_wp2_with fail
    (try simp only [Exit.inBlock, Exit.then])
    refine bodyPost_ret (v := .tuple #[.slice a3 L3 c3, .slice a4 n4 c4, .bool true]) (by simp [results, Tryz.results47, go_sem]) rfl (show TAns _ _ _ _ from by rw [HUu.out]; exact ⟨H2.out.1, a3, L3, c3, g3, 0, a4, n4, c4, g4, 0, rfl, H1.out.2.1, H2.out.2.1, H2.out.2.2.2, H2.out.2.2.1, HG3.out, HG4.out⟩)

set_option maxRecDepth 100000 in
set_option maxHeartbeats 1000000 in
theorem tell_anew (hb fr bt n size pk : Nat) (a : Option Addr) (cap gb off : Nat) (cs : List Nat) (a2 : Option Addr) (cap2 gb2 off2 : Nat) (ws : List Nat) (c u : Nat) (V : List Nat) (w : World) (hB : Bytes w a cap gb off cs) (hs : size ≤ 131072) (hl : cs.length ≤ 1048576) (hn1 : 1 ≤ n) (hn4 : n ≤ 4)
    (hR : RdW cs c u V) (hc : c = 0 → u ≤ cs.length ∧ V.length ≤ 256 ∧ ∀ j : Nat, V[j]?.getD 0 < 256) :
    Calls Tryz.prog 47 #[headV 2 hb fr bt n size pk, .slice a cs.length cap, .slice a2 ws.length cap2] w fun e w' => TAns (if c = 0 then (unpL V (cs.drop u) size n).map (fun l => (l, V)) else none) w e w' := by
  have HR := hid (show ∀ W, Keep noBlock w W → Calls Tryz.prog 61 #[.slice a cs.length cap] W fun e w' => RAns c u V W e w' from fun W hW => hR a cap gb off W (hB.keep hW (fun _ h => h)))
  have HB := hid (show ∀ W, Keep noBlock w W → Bytes W a cap gb off cs from fun W hW => hB.keep hW (fun _ h => h))
  have hKa := (Keep.refl noBlock w).alloc (.cells #[.int .i64 2, .int .i64 (hb : Int), .int .i64 (fr : Int), .int .i64 (bt : Int), .int .i64 (n : Int), .int .i64 (size : Int), .int .i64 (pk : Int)] 91)
  have hKo := World.alloc_heap_new w (.cells #[.int .i64 2, .int .i64 (hb : Int), .int .i64 (fr : Int), .int .i64 (bt : Int), .int .i64 (n : Int), .int .i64 (size : Int), .int .i64 (pk : Int)] 91)
  have HK := hid (And.intro hKa hKo)
  have HS := hid (show size ≤ 131072 ∧ cs.length ≤ 1048576 ∧ 1 ≤ n ∧ n ≤ 4 from ⟨hs, hl, hn1, hn4⟩)
  unfold headV
  obtain ⟨L, hL⟩ : ∃ L, L = cs.length := ⟨_, rfl⟩
  rw [← hL] at HR ⊢
  have HL := hid hL
  generalize ws.length = Lw at *
  clear hB hs hl hL hKa hKo hn1 hn4 hR
  by_cases h0 : c = 0
  · subst h0
    rw [if_pos rfl]
    have HC := hid (hc rfl)
    clear hc
    go_enter Tryz.func47, Tryz.ntmps47
    go_wp2_with fail
    refine (HR.out _ HK.out.1).mono ?_
    rintro e w1 ⟨hk1, a3, n3, c3, rfl, hn3, ho3, hnw3⟩
    obtain ⟨hu, hV1, hV2⟩ := HC.out
    obtain ⟨hs, hl, hn1, hn4⟩ := HS.out
    have hkw := HK.out.1.trans' hk1
    have hob := hk1.obj HK.out.2 (fun h => h)
    have c0 : w1.cell? ⟨w.heap.size, 0, none⟩ = some (.int .i64 2) := cell_of hob 0
    have c1 : w1.cell? ⟨w.heap.size, 1, none⟩ = some (.int .i64 (hb : Int)) := cell_of hob 1
    have c2 : w1.cell? ⟨w.heap.size, 2, none⟩ = some (.int .i64 (fr : Int)) := cell_of hob 2
    have c3' : w1.cell? ⟨w.heap.size, 3, none⟩ = some (.int .i64 (bt : Int)) := cell_of hob 3
    have c4 : w1.cell? ⟨w.heap.size, 4, none⟩ = some (.int .i64 (n : Int)) := cell_of hob 4
    have c5 : w1.cell? ⟨w.heap.size, 5, none⟩ = some (.int .i64 (size : Int)) := cell_of hob 5
    have c6 : w1.cell? ⟨w.heap.size, 6, none⟩ = some (.int .i64 (pk : Int)) := cell_of hob 6
    have hB1 := HB.out w1 hkw
    obtain ⟨ad, od, hd, hBd, -⟩ := hB1.drop u hu
    obtain ⟨Ld, hLd⟩ : ∃ Ld, Ld = (cs.drop u).length := ⟨_, rfl⟩
    have hLdb : Ld ≤ 1048576 := by rw [hLd, List.length_drop]; omega
    subst hn3
    obtain ⟨a3', c3e, g3, hve, hB3, hg3⟩ := owns_bytesN (M := V) ho3 hV2 (by omega) hnw3
    cases hve
    have HG3 := hid (Nat.le_trans HK.out.1.size hg3)
    have hcall := fun (W : World) (hW : Keep noBlock w1 W) => unpack_lit 2 hb fr bt size n pk ad (cap - u) gb od (cs.drop u) a3 c3 g3 0 V W (hBd.keep (w' := W) hW (fun _ h => h)) (hB3.keep (w' := W) hW (fun _ h => h)) hs hn1 hn4 (by omega)
    obtain ⟨n3, hn3⟩ : ∃ n3, n3 = V.length := ⟨_, rfl⟩
    rw [← hLd, ← hn3] at hcall
    rw [← hLd, ← HL.out] at hd
    rw [← hn3]
    have H1 := hid (show Keep noBlock w w1 ∧ n3 = V.length ∧ Bytes w1 a3 c3 g3 0 V from ⟨hkw, hn3, hB3⟩)
    have huI : (0 : Int) ≤ (u : Int) := by omega
    have hZ := fun l => unpL_ok (ws := V) (bs := cs.drop u) (l := l) hs hn1 hn4
    have HZ := hid hZ
    obtain ⟨xb, hxb⟩ : ∃ xb, xb = w.heap.size := ⟨_, rfl⟩
    rw [← hxb] at c0 c1 c2 c3' c4 c5 c6 ⊢
    clear hk1 ho3 hu hV1 hV2 hs hl hn1 hn4 hkw hob hB1 hBd hLd hLdb hB3 hn3 hZ hxb hg3 hnw3
    rw [show ((0 : Nat) : Int) = (0 : Int) from rfl]
    cases hu : unpL V (cs.drop u) size n with
    | none =>
      have HCA := hid (show ∀ W, Keep noBlock w1 W → Calls Tryz.prog 60 #[.agg #[.int .i64 2, .int .i64 (hb : Int), .int .i64 (fr : Int), .int .i64 (bt : Int), .int .i64 (n : Int), .int .i64 (size : Int), .int .i64 (pk : Int)], .slice ad Ld (cap - u), .slice a3 n3 c3] W fun e w' => Keep noBlock W w' ∧ e = .returned (.tuple #[.slice none 0 0, .bool false]) from fun W hW => (hcall W hW).mono fun e w' h => by rw [hu] at h; exact h)
      have HUu := hid hu
      clear hu hcall
      go_wp2_with fail
      go_region_held3 (fun W => W.cell? ⟨xb, 0, none⟩ = some (.int .i64 2) ∧ W.cell? ⟨xb, 1, none⟩ = some (.int .i64 (hb : Int)) ∧ W.cell? ⟨xb, 2, none⟩ = some (.int .i64 (fr : Int)) ∧ W.cell? ⟨xb, 3, none⟩ = some (.int .i64 (bt : Int)) ∧ W.cell? ⟨xb, 4, none⟩ = some (.int .i64 (n : Int)) ∧ W.cell? ⟨xb, 5, none⟩ = some (.int .i64 (size : Int)) ∧ W.cell? ⟨xb, 6, none⟩ = some (.int .i64 (pk : Int))) (first | go_keep | assumption) ((first | (go_at_call 60; refine (HCA.out _ ((Keep.refl _ _).drew)).mono ?_; rintro e w2 ⟨hk2, rfl⟩; have k0 := keep_cell0 hk2 (show w1.drew.cell? ⟨xb, 0, none⟩ = _ from c0); have k1 := keep_cell0 hk2 (show w1.drew.cell? ⟨xb, 1, none⟩ = _ from c1); have k2 := keep_cell0 hk2 (show w1.drew.cell? ⟨xb, 2, none⟩ = _ from c2); have k3 := keep_cell0 hk2 (show w1.drew.cell? ⟨xb, 3, none⟩ = _ from c3'); have k4 := keep_cell0 hk2 (show w1.drew.cell? ⟨xb, 4, none⟩ = _ from c4); have k5 := keep_cell0 hk2 (show w1.drew.cell? ⟨xb, 5, none⟩ = _ from c5); have k6 := keep_cell0 hk2 (show w1.drew.cell? ⟨xb, 6, none⟩ = _ from c6))))
      have HK1 := hid ((H1.out.1.drew).trans' hk2)
      clear hk2
      go_wp2_with fail
      (try simp only [Exit.inBlock, Exit.then])
      refine bodyPost_ret (v := .tuple #[.slice none 0 0, .slice a3 n3 c3, .bool false]) (by simp [results, Tryz.results47, go_sem]) rfl (show TAns _ _ _ _ from by rw [HUu.out]; exact ⟨HK1.out, _, _, rfl⟩)
    | some l =>
      have hz := HZ.out l hu
      obtain ⟨L3, hL3⟩ : ∃ L3, L3 = l.length := ⟨_, rfl⟩
      have HCA := hid (show ∀ W, Keep noBlock w1 W → Calls Tryz.prog 60 #[.agg #[.int .i64 2, .int .i64 (hb : Int), .int .i64 (fr : Int), .int .i64 (bt : Int), .int .i64 (n : Int), .int .i64 (size : Int), .int .i64 (pk : Int)], .slice ad Ld (cap - u), .slice a3 n3 c3] W fun e w' => Keep noBlock W w' ∧ ∃ a5 c5 g5, e = .returned (.tuple #[.slice a5 L3 c5, .bool true]) ∧ Bytes w' a5 c5 g5 0 l ∧ W.heap.size ≤ g5 from fun W hW => (hcall W hW).mono fun e w' h => by
        rw [hu] at h
        obtain ⟨hk, v, he, ho, hnw⟩ := h
        obtain ⟨a5, c5, g5, hv, hB5, hg5⟩ := owns_bytesN (M := l) ho hz.2 (by omega) hnw
        rw [hv] at he
        rw [hL3]
        exact ⟨hk, a5, c5, g5, he, hB5, hg5⟩)
      have HUu := hid hu
      have HL3 := hid hL3
      clear hu hcall hz hL3
      go_wp2_with fail
      go_region_held3 (fun W => W.cell? ⟨xb, 0, none⟩ = some (.int .i64 2) ∧ W.cell? ⟨xb, 1, none⟩ = some (.int .i64 (hb : Int)) ∧ W.cell? ⟨xb, 2, none⟩ = some (.int .i64 (fr : Int)) ∧ W.cell? ⟨xb, 3, none⟩ = some (.int .i64 (bt : Int)) ∧ W.cell? ⟨xb, 4, none⟩ = some (.int .i64 (n : Int)) ∧ W.cell? ⟨xb, 5, none⟩ = some (.int .i64 (size : Int)) ∧ W.cell? ⟨xb, 6, none⟩ = some (.int .i64 (pk : Int))) (first | go_keep | assumption) ((first | (go_at_call 60; refine (HCA.out _ ((Keep.refl _ _).drew)).mono ?_; rintro e w2 ⟨hk2, a5, c5', g5, rfl, hB5, hg5⟩; have k0 := keep_cell0 hk2 (show w1.drew.cell? ⟨xb, 0, none⟩ = _ from c0); have k1 := keep_cell0 hk2 (show w1.drew.cell? ⟨xb, 1, none⟩ = _ from c1); have k2 := keep_cell0 hk2 (show w1.drew.cell? ⟨xb, 2, none⟩ = _ from c2); have k3 := keep_cell0 hk2 (show w1.drew.cell? ⟨xb, 3, none⟩ = _ from c3'); have k4 := keep_cell0 hk2 (show w1.drew.cell? ⟨xb, 4, none⟩ = _ from c4); have k5 := keep_cell0 hk2 (show w1.drew.cell? ⟨xb, 5, none⟩ = _ from c5); have k6 := keep_cell0 hk2 (show w1.drew.cell? ⟨xb, 6, none⟩ = _ from c6))))
      have H2 := hid (show Keep noBlock w w2 ∧ L3 = l.length ∧ Bytes w2 a5 c5' g5 0 l ∧ Bytes w2 a3 c3 g3 0 V from ⟨(H1.out.1.drew).trans' hk2, HL3.out, hB5, (H1.out.2.2.keep ((Keep.refl noBlock _).drew) (fun _ h => h)).keep hk2 (fun _ h => h)⟩)
      have HG5 := hid (Nat.le_trans H1.out.1.size (show w1.heap.size ≤ g5 from hg5))
      clear hk2 hB5 hg5
      go_wp2_with fail
      (try simp only [Exit.inBlock, Exit.then])
      refine bodyPost_ret (v := .tuple #[.slice a5 L3 c5', .slice a3 n3 c3, .bool true]) (by simp [results, Tryz.results47, go_sem]) rfl (show TAns _ _ _ _ from by rw [HUu.out]; exact ⟨H2.out.1, a5, L3, c5', g5, 0, a3, n3, c3, g3, 0, rfl, H2.out.2.1, H1.out.2.1, H2.out.2.2.1, H2.out.2.2.2, HG5.out, HG3.out⟩)
  · rw [if_neg h0]
    have hcb : ((c : Int) != 0) = true := by simp; omega
    clear hc h0
    go_enter Tryz.func47, Tryz.ntmps47
    go_wp2_with fail
    refine (HR.out _ HK.out.1).mono ?_
    rintro e w1 ⟨hk1, a3, n3, c3, rfl, hn3, ho3, -⟩
    have HK1 := hid (HK.out.1.trans' hk1)
    clear hk1 hn3 ho3
    go_wp2_with fail
    (try simp only [Exit.inBlock, Exit.then])
    refine bodyPost_ret (v := .tuple #[.slice none 0 0, .slice none 0 0, .bool false]) (by simp [results, Tryz.results47, go_sem]) rfl ⟨HK1.out, _, _, rfl⟩
end
end Go.Proofs.YtnjilcokkhodmaaGreatDoor

namespace Go.Proofs.YtnjilcokkhodmaaGreatDoor
open Go.RowKit Go.Shelf
set_option linter.unusedVariables false

section
attribute [local go_sem] sliceSem_eq
set_option maxRecDepth 100000 in
set_option maxHeartbeats 1000000 in
theorem readHead_any (a : Option Addr) (cap gb off : Nat) (bs : List Nat) (w : World) (hB : Bytes w a cap gb off bs) (hF : Frm w) (hne : bs ≠ []) :
  Calls Tryz.prog 45 #[.slice a bs.length cap] w fun e w' => Keep noBlock w w' ∧ ((bs.length < hBy bs ∧ e = .returned (.tuple #[headV 0 0 0 0 0 0 0, .bool false])) ∨ (hBy bs ≤ bs.length ∧ e = .returned (.tuple #[headV (hKi bs) (hBy bs) (frN (hKi bs) (hFo bs)) (btN (hKi bs) (hFo bs)) (hRw bs) (hSz bs) (hPk bs), .bool true]))) := by
 have hl : 0 < bs.length := List.length_pos_iff.2 hne
 have h0 := hB.cells 0 hl
 obtain ⟨x, hx⟩ : ∃ x, x = bs[0]?.getD 0 := ⟨_, rfl⟩
 have hx256 : x < 256 := by rw [hx]; exact hB.lt 0
 rw [← hx, Nat.add_zero] at h0
 obtain rfl : a = some ⟨gb, off, none⟩ := hB.at_.resolve_right hne
 obtain ⟨k, hk⟩ : ∃ k, k = x % 4 := ⟨_, rfl⟩
 obtain ⟨f, hf⟩ : ∃ f, f = x / 4 % 4 := ⟨_, rfl⟩
 obtain ⟨i, hi⟩ : ∃ i, i = k / 2 := ⟨_, rfl⟩
 have hF1 := hF i f (by omega) (by omega)
 obtain ⟨q1, q2, q3, q4⟩ := hbN_two (k := k) (f := f) (by omega)
 rw [← hi] at q1 q2 q3 q4
 rw [q1, q2, q3, q4] at hF1
 obtain ⟨HB, hHB⟩ : ∃ HB, HB = hbN k f := ⟨_, rfl⟩
 obtain ⟨HF, hHF⟩ : ∃ HF, HF = frN k f := ⟨_, rfl⟩
 obtain ⟨HT, hHT⟩ : ∃ HT, HT = btN k f := ⟨_, rfl⟩
 obtain ⟨HR, hHR⟩ : ∃ HR, HR = rwN k f := ⟨_, rfl⟩
 rw [← hHB, ← hHF, ← hHT, ← hHR] at hF1
 have e1 : bits .and .u8 (x : Int) 3 = (k : Int) := by rw [hk]; exact and3_u8 x hx256
 have e2 : bits .and .u8 ((x : Int) / 4) 3 = (f : Int) := by
  rw [show ((x : Int) / 4) = ((x / 4 : Nat) : Int) from by omega, hf]; exact and3_u8 (x / 4) (by omega)
 have e3 : (k : Int).tdiv 2 = (i : Int) := by rw [hi]; rfl
 obtain ⟨n, hn⟩ : ∃ n, n = bs.length := ⟨_, rfl⟩
 have g0 : ((n : Int) == 0) = false := by rw [beq_eq_false_iff_ne]; omega
 have hk0 := fun vs : Array Value => (Keep.refl noBlock w).alloc (.cells vs 91)
 have z0 := fun vs : Array Value => keep_cell0 (hk0 vs) h0
 rw [← hn] at hl ⊢
 have hk4 : (k : Int) ≤ 3 := by omega
 have hi1 : (i : Int) < 2 := by omega
 have hf4 : (f : Int) < 4 := by omega
 have hHB5 : 1 ≤ HB ∧ HB ≤ 5 := by rw [hHB]; exact hbN_le k f
 have wi : IntKind.i64.wrap (i : Int) = (i : Int) := by rw [IntKind.wrap_i64]; omega
 have wf : IntKind.u8.wrap (f : Int) = (f : Int) := by rw [IntKind.wrap_u8]; omega
 have hi0 : (0 : Int) ≤ (i : Int) := by omega
 have hf0 : (0 : Int) ≤ (f : Int) := by omega
 have HH := hid (show x = bs[0]?.getD 0 ∧ k = x % 4 ∧ f = x / 4 % 4 ∧ i = k / 2 ∧ HB = hbN k f ∧ HF = frN k f ∧ HT = btN k f ∧ HR = rwN k f ∧ n = bs.length ∧ Bytes w (some ⟨gb, off, none⟩) cap gb off bs ∧ Frm w from ⟨hx, hk, hf, hi, hHB, hHF, hHT, hHR, hn, hB, hF⟩)
 clear hk0 hx hk hf hi hHB hHF hHT hHR hn hB hF q1 q2 q3 q4 hne hx256
 obtain ⟨y1, y2, y3, y4⟩ := hF1
 go_enter Tryz.func45, Tryz.ntmps45
 go_wp2_with fail
 have o1 := World.alloc_heap_new w (.cells #[.int .i64 (k : Int), .int .i64 0, .int .i64 0, .int .i64 0, .int .i64 0, .int .i64 0, .int .i64 0] 91)
 have hk1 := (Keep.refl noBlock w).alloc (.cells #[.int .i64 (k : Int), .int .i64 0, .int .i64 0, .int .i64 0, .int .i64 0, .int .i64 0, .int .i64 0] 91)
 have hz := z0 #[.int .i64 (k : Int), .int .i64 0, .int .i64 0, .int .i64 0, .int .i64 0, .int .i64 0, .int .i64 0]
 obtain ⟨hb, hhb⟩ : ∃ hb, hb = w.heap.size := ⟨_, rfl⟩
 rw [← hhb] at o1 ⊢
 generalize w.alloc (.cells #[.int .i64 (k : Int), .int .i64 0, .int .i64 0, .int .i64 0, .int .i64 0, .int .i64 0, .int .i64 0] 91) = W1 at o1 hk1 hz ⊢
 have x1 := keep_cell0 hk1 y1
 have x2 := keep_cell0 hk1 y2
 have x3 := keep_cell0 hk1 y3
 have x4 := keep_cell0 hk1 y4
 have c0 : W1.cell? ⟨hb, 0, none⟩ = some (.int .i64 (k : Int)) := cell_of o1 0
 have c1 : W1.cell? ⟨hb, 1, none⟩ = some (.int .i64 0) := cell_of o1 1
 have c2 : W1.cell? ⟨hb, 2, none⟩ = some (.int .i64 0) := cell_of o1 2
 have c3 : W1.cell? ⟨hb, 3, none⟩ = some (.int .i64 0) := cell_of o1 3
 have c4 : W1.cell? ⟨hb, 4, none⟩ = some (.int .i64 0) := cell_of o1 4
 have f1 := frozen_of o1 1
 have f2 := frozen_of o1 2
 have f3 := frozen_of o1 3
 have f4 := frozen_of o1 4
 have hgh : gb ≠ hb := by have := World.block_lt_of_cell? w ⟨gb, off, none⟩ h0; rw [hhb]; exact Nat.ne_of_lt this
 have h0h : 1 ≠ hb := by have := World.block_lt_of_cell? w _ y1; rw [hhb]; exact Nat.ne_of_lt this
 obtain ⟨W2, hW2⟩ : ∃ W2, W2 = (((W1.setCell ⟨hb, 1, none⟩ (.int .i64 (HB : Int))).setCell ⟨hb, 2, none⟩ (.int .i64 (HF : Int))).setCell ⟨hb, 3, none⟩ (.int .i64 (HT : Int))).setCell ⟨hb, 4, none⟩ (.int .i64 (HR : Int)) := ⟨_, rfl⟩
 have k2 : Keep (fun j => j = hb) W1 W2 := by
  rw [hW2]
  exact ((((Keep.refl (fun j => j = hb) W1).setCell (p := ⟨hb, 1, none⟩) (fun _ => rfl) _).setCell (p := ⟨hb, 2, none⟩) (fun _ => rfl) _).setCell (p := ⟨hb, 3, none⟩) (fun _ => rfl) _).setCell (p := ⟨hb, 4, none⟩) (fun _ => rfl) _
 have o2 : W2.heap[hb]? = some (.cells #[.int .i64 (k : Int), .int .i64 (HB : Int), .int .i64 (HF : Int), .int .i64 (HT : Int), .int .i64 (HR : Int), .int .i64 0, .int .i64 0] 91 (0, 0)) := by
  rw [hW2, set_obj (set_obj (set_obj (set_obj o1 1 _) 2 _) 3 _) 4 _]
  rfl
 have kc : ∀ (b j : Nat) (v : Value), b ≠ hb → W1.cell? ⟨b, j, none⟩ = some v → W2.drew.cell? ⟨b, j, none⟩ = some v := fun b j v hne h =>
  (World.cell?_of_block (w := W1) (w' := W2.drew) (k2.drew.block b (World.block_lt_of_cell? W1 ⟨b, j, none⟩ h) hne)).trans h
 have d0 : W2.drew.cell? ⟨hb, 0, none⟩ = some (.int .i64 (k : Int)) := cell_of (w := W2.drew) o2 0
 have d1 := kc _ _ _ hgh hz
 have d2 := kc _ _ _ h0h x1
 have d3 := kc _ _ _ h0h x2
 have d4 := kc _ _ _ h0h x3
 have d5 := kc _ _ _ h0h x4
 have HW := hid (show Keep (fun j => j = hb) W1 W2 ∧ W2.heap[hb]? = some (.cells #[.int .i64 (k : Int), .int .i64 (HB : Int), .int .i64 (HF : Int), .int .i64 (HT : Int), .int .i64 (HR : Int), .int .i64 0, .int .i64 0] 91 (0, 0)) from ⟨k2, o2⟩)
 have HI := hid (show hb = w.heap.size ∧ Keep noBlock w W1 ∧ W1.heap[hb]? = some (.cells #[.int .i64 (k : Int), .int .i64 0, .int .i64 0, .int .i64 0, .int .i64 0, .int .i64 0, .int .i64 0] 91 (0, 0)) from ⟨hhb, hk1, o1⟩)
 rw [hW2] at d0 d1 d2 d3 d4 d5
 have HE := hid hW2
 clear y1 y2 y3 y4 z0 h0 hhb hk1 o1 kc k2 o2 hW2
 go_region_held3 (fun w' => w'.cell? ⟨hb, 0, none⟩ = some (.int .i64 (k : Int)) ∧ w'.cell? ⟨gb, off, none⟩ = some (.int .u8 (x : Int)) ∧ w'.cell? ⟨1, i * 16 + f * 4, none⟩ = some (.int .i64 (HB : Int)) ∧ w'.cell? ⟨1, i * 16 + f * 4 + 1, none⟩ = some (.int .i64 (HF : Int)) ∧ w'.cell? ⟨1, i * 16 + f * 4 + 2, none⟩ = some (.int .i64 (HT : Int)) ∧ w'.cell? ⟨1, i * 16 + f * 4 + 3, none⟩ = some (.int .i64 (HR : Int))) (first | go_keep | exact d0 | exact d1 | exact d2 | exact d3 | exact d4 | exact d5) ((fail))
 rw [← HE.out]
 clear d0 d1 d2 d3 d4 d5 c0 c1 c2 c3 c4 f1 f2 f3 f4 x1 x2 x3 x4 hz
 have hK3 : Keep noBlock w W2.drew := by
  have h1 := HI.out
  exact (h1.2.1.trans HW.out.1 (fun i hi e => by omega)).drew
 have o3 : W2.drew.heap[hb]? = some (.cells #[.int .i64 (k : Int), .int .i64 (HB : Int), .int .i64 (HF : Int), .int .i64 (HT : Int), .int .i64 (HR : Int), .int .i64 0, .int .i64 0] 91 (0, 0)) := HW.out.2
 rename_i hHeld
 clear hHeld HW HE
 generalize W2.drew = W3 at hK3 o3 ⊢
 have hhb : w.heap.size ≤ hb := by rw [HI.out.1]; exact Nat.le_refl _
 clear HI e1 e2 e3 wi wf hi1 hf4 hi0 hf0
 have c0 : W3.cell? ⟨hb, 0, none⟩ = some (.int .i64 (k : Int)) := cell_of o3 0
 have c1 : W3.cell? ⟨hb, 1, none⟩ = some (.int .i64 (HB : Int)) := cell_of o3 1
 have c2 : W3.cell? ⟨hb, 2, none⟩ = some (.int .i64 (HF : Int)) := cell_of o3 2
 have c3 : W3.cell? ⟨hb, 3, none⟩ = some (.int .i64 (HT : Int)) := cell_of o3 3
 have c4 : W3.cell? ⟨hb, 4, none⟩ = some (.int .i64 (HR : Int)) := cell_of o3 4
 have c5 : W3.cell? ⟨hb, 5, none⟩ = some (.int .i64 0) := cell_of o3 5
 have c6 : W3.cell? ⟨hb, 6, none⟩ = some (.int .i64 0) := cell_of o3 6
 have f0 := frozen_of o3 0
 have f1 := frozen_of o3 1
 have f2 := frozen_of o3 2
 have f3 := frozen_of o3 3
 have f4 := frozen_of o3 4
 have f5 := frozen_of o3 5
 have f6 := frozen_of o3 6
 by_cases hs : n < HB
 ·have hsI : (n : Int) < (HB : Int) := by omega
  go_wp2_with fail
  refine bodyPost_ret (resH rfl rfl (set7 o3 _ _ _ _ _ _ _) rfl) rfl ⟨keep7 hK3 hhb _ _ _ _ _ _ _, .inl ⟨?_, rfl⟩⟩
  obtain ⟨e1, e2, e3, e4, e5, e6, e7, e8, e9, -⟩ := HH.out
  unfold hBy hKi hFo
  rw [← e1, ← e2, ← e3, ← e5]
  exact hs
 ·have hsI : ¬ (n : Int) < (HB : Int) := by omega
  have hsI2 : (HB : Int) ≤ (n : Int) := by omega
  have hB3 : Bytes W3 (some ⟨gb, off, none⟩) cap gb off bs := HH.out.2.2.2.2.2.2.2.2.2.1.keep hK3 (fun _ h => h)
  obtain ⟨hsl, hBt⟩ := hB3.take HB (by have := HH.out.2.2.2.2.2.2.2.2.1; omega)
  have htl : (bs.take HB).length = HB := by rw [List.length_take]; have := HH.out.2.2.2.2.2.2.2.2.1; omega
  rw [← HH.out.2.2.2.2.2.2.2.2.1, htl] at hsl
  have HBt := hid (show Bytes W3 (some ⟨gb, off, none⟩) cap gb off (bs.take HB) ∧ (bs.take HB).length = HB from ⟨hBt, htl⟩)
  clear hB3 hBt htl
  go_wp2_with fail
  go_loop [4, 43] (fun v4 v43 => ∃ j N : Nat, v43 = .int .i64 (j : Int) ∧ j ≤ HB ∧ v4 = .int .u64 (N : Int) ∧ Hid (N = numN (bs.take j))) (fun _ v43 => HB - (intOf v43).toNat)
  case atStart => exact ⟨0, 0, rfl, Nat.zero_le _, rfl, by rw [List.take_zero]; rfl⟩
  case round =>
   obtain ⟨j, N, rfl, hj, rfl, HN⟩ := hrel
   by_cases hlt : j < HB
   ·have hltI : (j : Int) < (HB : Int) := by omega
    obtain ⟨y, hy⟩ : ∃ y, y = (bs.take HB)[j]?.getD 0 := ⟨_, rfl⟩
    have hcy := HBt.out.1.cells j (by rw [HBt.out.2]; exact hlt)
    rw [← hy] at hcy
    have hy256 : y < 256 := by rw [hy]; exact HBt.out.1.lt j
    have HY := hid hy
    have hy2 : (y : Int) < 256 := by omega
    obtain ⟨j8, hj8⟩ : ∃ j8, j8 = 8 * j := ⟨_, rfl⟩
    have e8 : 8 * (j : Int) = (j8 : Int) := by omega
    have b8 : (j8 : Int) ≤ 40 := by omega
    have H8 := hid hj8
    clear hy hj8
    have hor : bits .or .u64 (N : Int) (IntKind.u64.wrap ((y : Int) * 2 ^ j8)) = ((N + 256 ^ j * y : Nat) : Int) := by
     have hN : N < 256 ^ j := by
      rw [HN.out]
      have := numN_lt (l := bs.take j) (fun b hb => lt_mem HH.out.2.2.2.2.2.2.2.2.2.1.lt b (List.mem_of_mem_take hb))
      rwa [List.length_take, Nat.min_eq_left (by have := HH.out.2.2.2.2.2.2.2.2.1; omega)] at this
     have hpw : 256 ^ j = 2 ^ j8 := by rw [H8.out, Nat.pow_mul]
     have hj4 : 256 ^ j ≤ 4294967296 := Nat.le_trans (Nat.pow_le_pow_right (by decide) (show j ≤ 4 by omega)) (by decide)
     rw [hpw] at hN hj4 ⊢
     have hm : 2 ^ j8 * y ≤ 4294967296 * 255 := Nat.mul_le_mul hj4 (by omega)
     have ey : IntKind.u64.wrap ((y : Int) * 2 ^ j8) = ((2 ^ j8 * y : Nat) : Int) := by
      rw [show ((y : Int) * 2 ^ j8) = ((2 ^ j8 * y : Nat) : Int) from by rw [Nat.mul_comm]; simp]
      exact wraps_u64 _ (by omega) (by omega)
     rw [ey]
     exact or_add64 N y j8 hN (by omega)
    obtain ⟨N2, hN2⟩ : ∃ N2, N2 = N + 256 ^ j * y := ⟨_, rfl⟩
    rw [← hN2] at hor
    have HN2 := hid hN2
    clear hN2
    obtain ⟨j1, hj1⟩ : ∃ j1, j1 = j + 1 := ⟨_, rfl⟩
    have ej : (j : Int) + 1 = (j1 : Int) := by omega
    have HJ1 := hid hj1
    have hjb : (j1 : Int) ≤ 5 := by omega
    clear hj1
    go_wp2_with fail
    refine ⟨⟨j1, N2, rfl, by rw [HJ1.out]; omega, rfl, ?_⟩, ?_⟩
    ·rw [HJ1.out, HN2.out, HN.out, HY.out]
     have := numN_take (l := bs) (k := j) (by have := HH.out.2.2.2.2.2.2.2.2.1; omega)
     rw [List.getElem?_take, if_pos hlt]
     exact this.symm
    ·have := HJ1.out
     simp only [intOf, Int.toNat_natCast]
     omega
   ·have hltI : ¬ (j : Int) < (HB : Int) := by omega
    obtain rfl : j = HB := by omega
    obtain ⟨e1, e2, e3, e4, e5, e6, e7, e8, e9, -⟩ := HH.out
    have hHF : HF = frN (hKi bs) (hFo bs) := by unfold hKi hFo; rw [← e1, ← e2, ← e3]; exact e6
    have hHT : HT = btN (hKi bs) (hFo bs) := by unfold hKi hFo; rw [← e1, ← e2, ← e3]; exact e7
    have hHB : j = hBy bs := by unfold hBy hKi hFo; rw [← e1, ← e2, ← e3]; exact e5
    have hHR : HR = hRw bs := by unfold hRw hKi hFo; rw [← e1, ← e2, ← e3]; exact e8
    have hkk : k = hKi bs := by unfold hKi; rw [← e1]; exact e2
    have b1 := frN_le (hKi bs) (hFo bs)
    have b2 := btN_le (hKi bs) (hFo bs)
    have hNu : N = hNu bs := by rw [HN.out, hHB]; rfl
    have hNlt : N < 1099511627776 := by
     rw [HN.out]
     have := numN_lt (l := bs.take j) (fun b hb => lt_mem HH.out.2.2.2.2.2.2.2.2.2.1.lt b (List.mem_of_mem_take hb))
     rw [List.length_take, Nat.min_eq_left (by omega)] at this
     have h5 : 256 ^ j ≤ 256 ^ 5 := Nat.pow_le_pow_right (by decide) hHB5.2
     have : 256 ^ 5 = 1099511627776 := by decide
     omega
    obtain ⟨FT, hFT⟩ : ∃ FT, FT = HF + HT := ⟨_, rfl⟩
    have eFT : (HF : Int) + (HT : Int) = (FT : Int) := by omega
    obtain ⟨P2, hP2⟩ : ∃ P2, P2 = 2 ^ HT := ⟨_, rfl⟩
    have hPb : 1 ≤ P2 ∧ P2 ≤ 1048576 := by rw [hP2]; exact ⟨Nat.two_pow_pos _, by rw [hHT]; exact pow_bt _ _⟩
    have hmask : IntKind.u64.wrap (IntKind.u64.wrap ((2 : Int) ^ min HT 64) - 1) = ((2 ^ HT - 1 : Nat) : Int) := by
     rw [show min HT 64 = HT from by omega, wrap_pow HT (by omega), ← hP2]
     exact wrap_pred P2 hPb.1 (by omega)
    have w64 : ∀ q : Nat, q < 1048576 → wrap64 (q : Int) = (q : Int) := fun q hq => by unfold wrap64; omega
    obtain ⟨SZ, hSZ⟩ : ∃ SZ, SZ = hSz bs := ⟨_, rfl⟩
    have E5 := hid (show wrap64 (bits .and .u64 ((N : Int) / 2 ^ min HF 64) (IntKind.u64.wrap (IntKind.u64.wrap ((2 : Int) ^ min HT 64) - 1))) = (SZ : Int) from by
     rw [hmask, show min HF 64 = HF from by omega, shr_nat, and_mask64 _ _ (by have := Nat.div_le_self N (2 ^ HF); omega) (by omega)]
     rw [show N / 2 ^ HF % 2 ^ HT = SZ from by rw [hSZ, hNu, hHF, hHT]; rfl]
     exact w64 _ (by rw [hSZ]; exact hSz_lt bs))
    by_cases hk2 : k < 2
    ·have hR0 : HR = 0 := by rw [hHR]; unfold hRw rwN; rw [if_pos (by omega)]
     have hR2 : ¬ (0 : Int) < (HR : Int) := by omega
     have hPk0 : hPk bs = 0 := by unfold hPk; rw [if_pos (by omega)]
     have HG := hid (show j = hBy bs ∧ HF = frN (hKi bs) (hFo bs) ∧ HT = btN (hKi bs) (hFo bs) ∧ HR = hRw bs ∧ k = hKi bs ∧ SZ = hSz bs ∧ 0 = hPk bs ∧ n = bs.length from ⟨hHB, hHF, hHT, hHR, hkk, hSZ, hPk0.symm, e9⟩)
     subst hR0
     clear e1 e2 e3 e4 e5 e6 e7 e8 e9 hHF hHT hHB hHR hkk b1 b2 hNu hNlt hFT hP2 hPb hSZ hPk0 hk2 hmask w64 eFT
     rw [show ((0 : Nat) : Int) = (0 : Int) from rfl] at c4 o3 hR2
     go_wp2_with fail
     refine bodyPost_ret (resH rfl rfl (set7 (set_obj o3 5 _) _ _ _ _ _ _ _) rfl) rfl ⟨keep7 (hK3.setCell (p := ⟨hb, 5, none⟩) (fun h => absurd (show hb < _ from h) (by omega)) _) hhb _ _ _ _ _ _ _, .inr ⟨?_, ?_⟩⟩
     ·have := HG.out; omega
     ·obtain ⟨q1, q2, q3, q4, q5, q6, q7, -⟩ := HG.out
      rw [← q1, ← q2, ← q3, ← q4, ← q5, ← q6, ← q7, E5.out]
      rfl
    ·have hR0 : 0 < HR := by rw [hHR]; unfold hRw rwN; rw [if_neg (by omega)]; split <;> omega
     have hR2 : (0 : Int) < (HR : Int) := by omega
     obtain ⟨PK, hPK⟩ : ∃ PK, PK = hPk bs := ⟨_, rfl⟩
     have E6 := hid (show wrap64 (bits .and .u64 ((N : Int) / 2 ^ min FT 64) (IntKind.u64.wrap (IntKind.u64.wrap ((2 : Int) ^ min HT 64) - 1))) = (PK : Int) from by
      rw [hmask, show min FT 64 = FT from by omega, shr_nat, and_mask64 _ _ (by have := Nat.div_le_self N (2 ^ FT); omega) (by omega)]
      rw [show N / 2 ^ FT % 2 ^ HT = PK from by rw [hPK, hFT, hNu, hHF, hHT]; unfold hPk; rw [if_neg (by omega)]]
      exact w64 _ (by rw [hPK]; exact hPk_lt bs))
     have ftb : (FT : Int) ≤ 24 := by omega
     have m1 : min HF 64 = HF := by omega
     have m2 : min HT 64 = HT := by omega
     have m3 : min FT 64 = FT := by omega
     have F5 := E5.out
     have F6 := E6.out
     rw [m1, m2] at F5
     rw [m3, m2] at F6
     have G5 := hid F5
     have G6 := hid F6
     have HG := hid (show j = hBy bs ∧ HF = frN (hKi bs) (hFo bs) ∧ HT = btN (hKi bs) (hFo bs) ∧ HR = hRw bs ∧ k = hKi bs ∧ SZ = hSz bs ∧ PK = hPk bs ∧ n = bs.length from ⟨hHB, hHF, hHT, hHR, hkk, hSZ, hPK, e9⟩)
     clear e1 e2 e3 e4 e5 e6 e7 e8 e9 hHF hHT hHB hHR hkk b1 b2 hNu hNlt hFT hP2 hPb hSZ hR0 hk2 hPK hmask w64 m1 m2 m3 F5 F6
     go_wp2_with fail
     refine bodyPost_ret (resH rfl rfl (set7 (set_obj (set_obj o3 5 _) 6 _) _ _ _ _ _ _ _) rfl) rfl ⟨keep7 ((hK3.setCell (p := ⟨hb, 5, none⟩) (fun h => absurd (show hb < _ from h) (by omega)) _).setCell (p := ⟨hb, 6, none⟩) (fun h => absurd (show hb < _ from h) (by omega)) _) hhb _ _ _ _ _ _ _, .inr ⟨?_, ?_⟩⟩
     ·have := HG.out; omega
     ·obtain ⟨q1, q2, q3, q4, q5, q6, q7, -⟩ := HG.out
      rw [← q1, ← q2, ← q3, ← q4, ← q5, ← q6, ← q7, G5.out, G6.out]
      rfl

end
end Go.Proofs.YtnjilcokkhodmaaGreatDoor

namespace Go.Proofs.YtnjilcokkhodmaaGreatDoor
open Go.RowKit Go.Shelf
set_option linter.unusedVariables false

def LAns (r : Nat × List Nat × List Nat × Nat) (w : World) (e : Ending) (w' : World) : Prop :=
 Keep noBlock w w' ∧ ∃ a1 n1 c1 g1 o1 a2 n2 c2 g2 o2, e = .returned (.tuple #[.slice a1 n1 c1, .slice a2 n2 c2, .int .i64 (r.2.2.2 : Int), .int .i64 (r.1 : Int)]) ∧ n1 = r.2.1.length ∧ n2 = r.2.2.1.length ∧ Bytes w' a1 c1 g1 o1 r.2.1 ∧ Bytes w' a2 c2 g2 o2 r.2.2.1 ∧ w.heap.size ≤ g1 ∧ w.heap.size ≤ g2
theorem bytes_none (w : World) (g : Nat) : Bytes w none 0 g 0 [] := ⟨.inr rfl, fun _ => rfl, fun j hj => by simp at hj, fun j => by simp, Nat.le_refl _, by decide⟩
theorem lans_none {c : Nat} {w w' : World} (hk : Keep noBlock w w') : LAns (c, [], [], 0) w (.returned (.tuple #[.slice none 0 0, .slice none 0 0, .int .i64 0, .int .i64 (c : Int)])) w' :=
 ⟨hk, none, 0, 0, w.heap.size, 0, none, 0, 0, w.heap.size, 0, rfl, rfl, rfl, bytes_none _ _, bytes_none _ _, Nat.le_refl _, Nat.le_refl _⟩

theorem run_cut3 (a : Option Addr) (len cap lo hi : Nat) (h0 : lo ≤ hi) (h1 : hi ≤ len) (h2 : len ≤ cap) (w : World) :
  (sliceSem 22 (.slice a len cap) (some (.int .i64 (lo : Int))) (some (.int .i64 (hi : Int))) (some (.int .i64 (hi : Int)))).run Tryz.prog w = .ok (.slice (if hi = lo then a else a.map (fun x => x.add lo)) (hi - lo) (hi - lo)) w := by
 obtain ⟨i0, hi', hz0, hz1, hz2⟩ := info_parts info5
 have h3 : hi ≤ cap := by omega
 simp [sliceSem, Instr.slice, run_underlying Tryz.underlying22, Instr.sliceBounds, Instr.sliceBound, asIntOf, h0, h3, sizeOf, typeInfo, hi', hz1]
theorem Bytes.cut3 {w : World} {a : Option Addr} {cap gb off : Nat} {bs : List Nat} (h : Bytes w a cap gb off bs) (lo hi : Nat) (h0 : lo ≤ hi) (h1 : hi ≤ bs.length) :
  ∃ a' off', (∀ W, (sliceSem 22 (.slice a bs.length cap) (some (.int .i64 (lo : Int))) (some (.int .i64 (hi : Int))) (some (.int .i64 (hi : Int)))).run Tryz.prog W = .ok (.slice a' (hi - lo) (hi - lo)) W) ∧ Bytes w a' (hi - lo) gb off' ((bs.take hi).drop lo) := by
 have hc := h.cap
 have hl := h.len
 have hlen : ((bs.take hi).drop lo).length = hi - lo := by rw [List.length_drop, List.length_take]; omega
 refine ⟨if hi = lo then a else a.map (fun x => x.add lo), off + lo, fun W => run_cut3 a bs.length cap lo hi h0 h1 hc W, ⟨?_, ?_, ?_, lt_drop (lt_take h.lt hi) lo, by omega, by omega⟩⟩
 ·by_cases e : hi = lo
  ·right; exact List.length_eq_zero_iff.1 (by omega)
  ·rcases h.at_ with q | q
   ·left; rw [if_neg e, q]; simp [addO]
   ·rw [q] at h1; simp at h1; omega
 ·intro e
  by_cases e2 : hi = lo
  ·omega
  ·rw [if_neg e2, Option.map_eq_none_iff] at e
   have := h.nil e
   omega
 ·intro j hj
  rw [hlen] at hj
  rw [List.getElem?_drop, List.getElem?_take, if_pos (by omega), Nat.add_assoc]
  exact h.cells (lo + j) (by omega)

set_option maxRecDepth 100000 in
set_option maxHeartbeats 1000000 in
theorem readHead_nil (a : Option Addr) (cap : Nat) (w : World) : Calls Tryz.prog 45 #[.slice a 0 cap] w fun e w' => Keep noBlock w w' ∧ e = .returned (.tuple #[headV 0 0 0 0 0 0 0, .bool false]) := by
 go_enter Tryz.func45, Tryz.ntmps45
 go_wp2
 refine bodyPost_ret (resH rfl rfl (World.alloc_heap_new w _) rfl) rfl ⟨(Keep.refl _ w).alloc _, rfl⟩

section
attribute [local go_sem] sliceSem_eq
set_option maxRecDepth 100000 in
set_option maxHeartbeats 1000000 in
theorem readL_arg (a : Option Addr) (n cap : Nat) (a2 : Option Addr) (n2 cap2 : Nat) (most : Int) (w : World) (h : most < 0 ∨ 131072 < most) :
  Calls Tryz.prog 31 #[.slice a n cap, .slice a2 n2 cap2, .int .i64 most] w fun e w' => LAns (2, [], [], 0) w e w' := by
 by_cases h0 : most < 0
 ·go_enter Tryz.func31, Tryz.ntmps31
  go_wp2
  refine bodyPost_ret (v := .tuple #[.slice none 0 0, .slice none 0 0, .int .i64 0, .int .i64 2]) (by simp [results, Tryz.results31, go_sem]) rfl (lans_none (Keep.refl _ _))
 ·have h1 : 131072 < most := by omega
  go_enter Tryz.func31, Tryz.ntmps31
  go_wp2
  all_goals refine bodyPost_ret (v := .tuple #[.slice none 0 0, .slice none 0 0, .int .i64 0, .int .i64 2]) (by simp [results, Tryz.results31, go_sem]) rfl (lans_none (Keep.refl _ _))

set_option maxRecDepth 100000 in
set_option maxHeartbeats 1000000 in
theorem readL_short (a : Option Addr) (n cap : Nat) (a2 : Option Addr) (n2 cap2 : Nat) (most : Int) (w : World) (h0 : 0 ≤ most) (h1 : most ≤ 131072)
  (hc : Calls Tryz.prog 45 #[.slice a n cap] w fun e w' => Keep noBlock w w' ∧ e = .returned (.tuple #[headV 0 0 0 0 0 0 0, .bool false])) :
  Calls Tryz.prog 31 #[.slice a n cap, .slice a2 n2 cap2, .int .i64 most] w fun e w' => LAns (10, [], [], 0) w e w' := by
 have HC := hid hc
 have g0 : ¬ most < 0 := by omega
 have g1 : ¬ 131072 < most := by omega
 clear hc
 unfold headV at HC
 go_enter Tryz.func31, Tryz.ntmps31
 go_wp2_with (go_at_call 45; refine HC.out.mono ?_; rintro e w1 ⟨hk1, rfl⟩)
 refine bodyPost_ret (v := .tuple #[.slice none 0 0, .slice none 0 0, .int .i64 0, .int .i64 10]) (by simp [results, Tryz.results31, go_sem]) rfl (lans_none (hk1.alloc _))

set_option maxRecDepth 100000 in
set_option maxHeartbeats 2000000 in
theorem readL_head (a : Option Addr) (n cap : Nat) (a2 : Option Addr) (n2 cap2 : Nat) (most : Int) (k hb fr bt rw size pk : Nat) (r : Nat × List Nat × List Nat × Nat) (w : World) (h0 : 0 ≤ most) (h1 : most ≤ 131072) (hnb : n < 2 ^ 48) (hhb : hb ≤ 5) (hsz : size < 1048576) (hpk : pk < 1048576)
    (hc : Calls Tryz.prog 45 #[.slice a n cap] w fun e w' => Keep noBlock w w' ∧ e = .returned (.tuple #[headV k hb fr bt rw size pk, .bool true]))
    (hr1 : most < (size : Int) → r = (11, [], [], 0))
    (hr2 : ¬ most < (size : Int) → n < hb + behN k size pk → r = (10, [], [], 0))
    (hr3 : ¬ most < (size : Int) → ¬ n < hb + behN k size pk → ∃ a' o, (∀ W, (sliceSem 22 (.slice a n cap) (some (.int .i64 (hb : Int))) (some (.int .i64 ((hb + behN k size pk : Nat) : Int))) (some (.int .i64 ((hb + behN k size pk : Nat) : Int)))).run Tryz.prog W = .ok (.slice a' (behN k size pk) (behN k size pk)) W) ∧
      (r = match o with | none => (11, [], [], 0) | some p => (0, p.1, p.2, hb + behN k size pk)) ∧ ∀ W, Keep noBlock w W → Calls Tryz.prog 47 #[headV k hb fr bt rw size pk, .slice a' (behN k size pk) (behN k size pk), .slice a2 n2 cap2] W fun e w' => TAns o W e w') :
    Calls Tryz.prog 31 #[.slice a n cap, .slice a2 n2 cap2, .int .i64 most] w fun e w' => LAns r w e w' := by
  have HC := hid hc
  have g0 : ¬ most < 0 := by omega
  have g1 : ¬ 131072 < most := by omega
  have HBH := hid (fun W => behind_any k hb fr bt rw size pk W)
  obtain ⟨bh, hbh⟩ : ∃ bh, bh = behN k size pk := ⟨_, rfl⟩
  obtain ⟨en, hen⟩ : ∃ en, en = hb + bh := ⟨_, rfl⟩
  rw [← hbh] at hr2 hr3 HBH
  have hbhb : bh < 1048576 := by rw [hbh]; unfold behN; repeat' split
                                 all_goals omega
  rw [← hen] at hr2 hr3
  have e1 : (hb : Int) + (bh : Int) = (en : Int) := by omega
  have enb : (en : Int) ≤ 1048600 := by omega
  have wen : IntKind.i64.wrap (en : Int) = (en : Int) := by rw [IntKind.wrap_i64]; omega
  unfold headV at HC hr3 HBH
  have HEN := hid hen
  clear hc hbh hen
  by_cases hA : most < (size : Int)
  · have hr := hr1 hA
    clear hr1 hr2 hr3
    subst hr
    go_enter Tryz.func31, Tryz.ntmps31
    go_wp2_with (go_at_call 45; refine HC.out.mono ?_; rintro e w1 ⟨hk1, rfl⟩)
    refine bodyPost_ret (v := .tuple #[.slice none 0 0, .slice none 0 0, .int .i64 0, .int .i64 11]) (by simp [results, Tryz.results31, go_sem]) rfl (lans_none (hk1.alloc _))
  · have hR2 := hr2 hA
    have hR3 := hr3 hA
    clear hr1 hr2 hr3
    go_enter Tryz.func31, Tryz.ntmps31
    go_wp2_with (go_at_call 45; refine HC.out.mono ?_; rintro e w1 ⟨hk1, rfl⟩)
    have o1 := World.alloc_heap_new w1 (.cells #[.int .i64 (k : Int), .int .i64 (hb : Int), .int .i64 (fr : Int), .int .i64 (bt : Int), .int .i64 (rw : Int), .int .i64 (size : Int), .int .i64 (pk : Int)] 91)
    have k1 := hk1.alloc (.cells #[.int .i64 (k : Int), .int .i64 (hb : Int), .int .i64 (fr : Int), .int .i64 (bt : Int), .int .i64 (rw : Int), .int .i64 (size : Int), .int .i64 (pk : Int)] 91)
    obtain ⟨xb, hxb⟩ : ∃ xb, xb = w1.heap.size := ⟨_, rfl⟩
    rw [← hxb] at o1 ⊢
    generalize w1.alloc (.cells #[.int .i64 (k : Int), .int .i64 (hb : Int), .int .i64 (fr : Int), .int .i64 (bt : Int), .int .i64 (rw : Int), .int .i64 (size : Int), .int .i64 (pk : Int)] 91) = W1 at o1 k1 ⊢
    have c0 : W1.cell? ⟨xb, 0, none⟩ = some (.int .i64 (k : Int)) := cell_of o1 0
    have c1 : W1.cell? ⟨xb, 1, none⟩ = some (.int .i64 (hb : Int)) := cell_of o1 1
    have c2 : W1.cell? ⟨xb, 2, none⟩ = some (.int .i64 (fr : Int)) := cell_of o1 2
    have c3 : W1.cell? ⟨xb, 3, none⟩ = some (.int .i64 (bt : Int)) := cell_of o1 3
    have c4 : W1.cell? ⟨xb, 4, none⟩ = some (.int .i64 (rw : Int)) := cell_of o1 4
    have c5 : W1.cell? ⟨xb, 5, none⟩ = some (.int .i64 (size : Int)) := cell_of o1 5
    have c6 : W1.cell? ⟨xb, 6, none⟩ = some (.int .i64 (pk : Int)) := cell_of o1 6
    have HK1 := hid k1
    clear hk1 hxb o1 k1
    go_region_held3 (fun W => W.cell? ⟨xb, 0, none⟩ = some (.int .i64 (k : Int)) ∧ W.cell? ⟨xb, 1, none⟩ = some (.int .i64 (hb : Int)) ∧ W.cell? ⟨xb, 2, none⟩ = some (.int .i64 (fr : Int)) ∧ W.cell? ⟨xb, 3, none⟩ = some (.int .i64 (bt : Int)) ∧ W.cell? ⟨xb, 4, none⟩ = some (.int .i64 (rw : Int)) ∧ W.cell? ⟨xb, 5, none⟩ = some (.int .i64 (size : Int)) ∧ W.cell? ⟨xb, 6, none⟩ = some (.int .i64 (pk : Int))) (first | go_keep | assumption) ((first | (go_at_call 46; refine (HBH.out _).mono ?_; rintro e w2 ⟨rfl, hk2⟩; have d0 := keep_cell0 hk2 (show W1.drew.cell? ⟨xb, 0, none⟩ = _ from c0); have d1 := keep_cell0 hk2 (show W1.drew.cell? ⟨xb, 1, none⟩ = _ from c1); have d2 := keep_cell0 hk2 (show W1.drew.cell? ⟨xb, 2, none⟩ = _ from c2); have d3 := keep_cell0 hk2 (show W1.drew.cell? ⟨xb, 3, none⟩ = _ from c3); have d4 := keep_cell0 hk2 (show W1.drew.cell? ⟨xb, 4, none⟩ = _ from c4); have d5 := keep_cell0 hk2 (show W1.drew.cell? ⟨xb, 5, none⟩ = _ from c5); have d6 := keep_cell0 hk2 (show W1.drew.cell? ⟨xb, 6, none⟩ = _ from c6))))
    have HK2 := hid (HK1.out.drew.trans' hk2)
    clear hk2 c0 c1 c2 c3 c4 c5 c6
    by_cases hB : n < en
    · have hr := hR2 hB
      have g2 : (n : Int) < (en : Int) := by omega
      clear hR2 hR3
      subst hr
      go_wp2_with fail
      refine bodyPost_ret (v := .tuple #[.slice none 0 0, .slice none 0 0, .int .i64 0, .int .i64 10]) (by simp [results, Tryz.results31, go_sem]) rfl (lans_none HK2.out)
    · obtain ⟨a', o, hsl, hr, hT⟩ := hR3 hB
      have g2 : ¬ (n : Int) < (en : Int) := by omega
      clear hR2 hR3
      cases o with
      | none =>
        have HT := hid (show ∀ W, Keep noBlock w W → Calls Tryz.prog 47 #[.agg #[.int .i64 (k : Int), .int .i64 (hb : Int), .int .i64 (fr : Int), .int .i64 (bt : Int), .int .i64 (rw : Int), .int .i64 (size : Int), .int .i64 (pk : Int)], .slice a' bh bh, .slice a2 n2 cap2] W fun e w' => Keep noBlock W w' ∧ ∃ v1 v2, e = .returned (.tuple #[v1, v2, .bool false]) from fun W hW => (hT W hW).mono fun e w' h => h)
        clear hT
        subst hr
        go_wp2_with fail
        go_region_held3 (fun W => W.cell? ⟨xb, 0, none⟩ = some (.int .i64 (k : Int)) ∧ W.cell? ⟨xb, 1, none⟩ = some (.int .i64 (hb : Int)) ∧ W.cell? ⟨xb, 2, none⟩ = some (.int .i64 (fr : Int)) ∧ W.cell? ⟨xb, 3, none⟩ = some (.int .i64 (bt : Int)) ∧ W.cell? ⟨xb, 4, none⟩ = some (.int .i64 (rw : Int)) ∧ W.cell? ⟨xb, 5, none⟩ = some (.int .i64 (size : Int)) ∧ W.cell? ⟨xb, 6, none⟩ = some (.int .i64 (pk : Int))) (first | go_keep | assumption) ((first | (go_at_call 47; refine (HT.out _ HK2.out.drew).mono ?_; rintro e w3 ⟨hk3, v1, v2, rfl⟩; have f0 := keep_cell0 hk3 (show w2.drew.cell? ⟨xb, 0, none⟩ = _ from d0); have f1 := keep_cell0 hk3 (show w2.drew.cell? ⟨xb, 1, none⟩ = _ from d1); have f2 := keep_cell0 hk3 (show w2.drew.cell? ⟨xb, 2, none⟩ = _ from d2); have f3 := keep_cell0 hk3 (show w2.drew.cell? ⟨xb, 3, none⟩ = _ from d3); have f4 := keep_cell0 hk3 (show w2.drew.cell? ⟨xb, 4, none⟩ = _ from d4); have f5 := keep_cell0 hk3 (show w2.drew.cell? ⟨xb, 5, none⟩ = _ from d5); have f6 := keep_cell0 hk3 (show w2.drew.cell? ⟨xb, 6, none⟩ = _ from d6))))
        have HK3 := hid (HK2.out.drew.trans' hk3)
        clear hk3
        go_wp2_with fail
        refine bodyPost_ret (v := .tuple #[.slice none 0 0, .slice none 0 0, .int .i64 0, .int .i64 11]) (by simp [results, Tryz.results31, go_sem]) rfl (lans_none HK3.out)
      | some p =>
        have HT := hid (show ∀ W, Keep noBlock w W → Calls Tryz.prog 47 #[.agg #[.int .i64 (k : Int), .int .i64 (hb : Int), .int .i64 (fr : Int), .int .i64 (bt : Int), .int .i64 (rw : Int), .int .i64 (size : Int), .int .i64 (pk : Int)], .slice a' bh bh, .slice a2 n2 cap2] W fun e w' => Keep noBlock W w' ∧ ∃ a1 n1 c1 g1 o1 a2 n2 c2 g2 o2, e = .returned (.tuple #[.slice a1 n1 c1, .slice a2 n2 c2, .bool true]) ∧ n1 = p.1.length ∧ n2 = p.2.length ∧ Bytes w' a1 c1 g1 o1 p.1 ∧ Bytes w' a2 c2 g2 o2 p.2 ∧ W.heap.size ≤ g1 ∧ W.heap.size ≤ g2 from fun W hW => (hT W hW).mono fun e w' h => h)
        have HR := hid hr
        clear hT hr
        go_wp2_with fail
        go_region_held3 (fun W => W.cell? ⟨xb, 0, none⟩ = some (.int .i64 (k : Int)) ∧ W.cell? ⟨xb, 1, none⟩ = some (.int .i64 (hb : Int)) ∧ W.cell? ⟨xb, 2, none⟩ = some (.int .i64 (fr : Int)) ∧ W.cell? ⟨xb, 3, none⟩ = some (.int .i64 (bt : Int)) ∧ W.cell? ⟨xb, 4, none⟩ = some (.int .i64 (rw : Int)) ∧ W.cell? ⟨xb, 5, none⟩ = some (.int .i64 (size : Int)) ∧ W.cell? ⟨xb, 6, none⟩ = some (.int .i64 (pk : Int))) (first | go_keep | assumption) ((first | (go_at_call 47; refine (HT.out _ HK2.out.drew).mono ?_; rintro e w3 ⟨hk3, a5, n5, c5', g5, o5, a6, n6, c6', g6, o6, rfl, hn5, hn6, hB5, hB6, hg5, hg6⟩; have f0 := keep_cell0 hk3 (show w2.drew.cell? ⟨xb, 0, none⟩ = _ from d0); have f1 := keep_cell0 hk3 (show w2.drew.cell? ⟨xb, 1, none⟩ = _ from d1); have f2 := keep_cell0 hk3 (show w2.drew.cell? ⟨xb, 2, none⟩ = _ from d2); have f3 := keep_cell0 hk3 (show w2.drew.cell? ⟨xb, 3, none⟩ = _ from d3); have f4 := keep_cell0 hk3 (show w2.drew.cell? ⟨xb, 4, none⟩ = _ from d4); have f5 := keep_cell0 hk3 (show w2.drew.cell? ⟨xb, 5, none⟩ = _ from d5); have f6 := keep_cell0 hk3 (show w2.drew.cell? ⟨xb, 6, none⟩ = _ from d6))))
        have H3 := hid (show Keep noBlock w w3 ∧ n5 = p.1.length ∧ n6 = p.2.length ∧ Bytes w3 a5 c5' g5 o5 p.1 ∧ Bytes w3 a6 c6' g6 o6 p.2 from ⟨HK2.out.drew.trans' hk3, hn5, hn6, hB5, hB6⟩)
        have HG := hid (show w.heap.size ≤ g5 ∧ w.heap.size ≤ g6 from ⟨Nat.le_trans HK2.out.size hg5, Nat.le_trans HK2.out.size hg6⟩)
        clear hk3 hn5 hn6 hB5 hB6 hg5 hg6
        go_wp2_with fail
        refine bodyPost_ret (v := .tuple #[.slice a5 n5 c5', .slice a6 n6 c6', .int .i64 (en : Int), .int .i64 0]) (by simp [results, Tryz.results31, go_sem]; exact ⟨H3.out.2.1.symm, H3.out.2.2.1.symm⟩) rfl ?_
        rw [HR.out]
        exact ⟨H3.out.1, a5, n5, c5', g5, o5, a6, n6, c6', g6, o6, rfl, H3.out.2.1, H3.out.2.2.1, H3.out.2.2.2.1, H3.out.2.2.2.2, HG.out⟩
end
theorem readL_any (a : Option Addr) (cap gb off : Nat) (bs : List Nat) (a2 : Option Addr) (cap2 gb2 off2 : Nat) (ws : List Nat) (most : Int) (c u : Nat) (V : List Nat) (w : World) (hF : Frm w) (hB : Bytes w a cap gb off bs) (hB2 : Bytes w a2 cap2 gb2 off2 ws) (hl2 : ws.length ≤ 140737488355327)
  (hR : RdW (bodyN bs) c u V) (hc : c = 0 → u ≤ (bodyN bs).length ∧ V.length ≤ 256 ∧ ∀ j : Nat, V[j]?.getD 0 < 256) :
  Calls Tryz.prog 31 #[.slice a bs.length cap, .slice a2 ws.length cap2, .int .i64 most] w fun e w' => LAns (litR c u V bs ws most) w e w' := by
 unfold litR
 by_cases hm : most < 0 ∨ 131072 < most
 ·rw [if_pos hm]
  exact readL_arg a bs.length cap a2 ws.length cap2 most w hm
 ·rw [if_neg hm]
  by_cases hs : bs = [] ∨ bs.length < hBy bs
  ·rw [if_pos hs]
   refine readL_short a bs.length cap a2 ws.length cap2 most w (by omega) (by omega) ?_
   by_cases he : bs = []
   ·subst he
    exact readHead_nil a cap w
   ·have hs' := hs.resolve_left he
    refine (readHead_any a cap gb off bs w hB hF he).mono ?_
    rintro e w' ⟨hk, ⟨_, h⟩ | ⟨h, _⟩⟩
    ·exact ⟨hk, h⟩
    ·omega
  ·rw [if_neg hs]
   have hne : bs ≠ [] := fun h => hs (.inl h)
   have hbl : hBy bs ≤ bs.length := Nat.le_of_not_lt fun h => hs (.inr h)
   have hbe : behN (hKi bs) (hSz bs) (hPk bs) = hBe bs := rfl
   refine readL_head a bs.length cap a2 ws.length cap2 most (hKi bs) (hBy bs) (frN (hKi bs) (hFo bs)) (btN (hKi bs) (hFo bs)) (hRw bs) (hSz bs) (hPk bs) _ w (by omega) (by omega) hB.len (hbN_le _ _).2 (hSz_lt bs) (hPk_lt bs) ?_ (fun h => by rw [if_pos h]) (fun h1 h2 => by rw [hbe] at h2; rw [if_neg h1, if_pos h2]) (fun h1 h2 => ?_)
   ·refine (readHead_any a cap gb off bs w hB hF hne).mono ?_
    rintro e w' ⟨hk, ⟨h, _⟩ | ⟨_, h⟩⟩
    ·omega
    ·exact ⟨hk, h⟩
   ·rw [hbe] at h2 ⊢
    rw [if_neg h1, if_neg h2]
    obtain ⟨a', off', hsl, hBb⟩ := hB.cut3 (hBy bs) (hBy bs + hBe bs) (by omega) (by omega)
    have hbl2 := bodyN_length h2
    rw [show hBy bs + hBe bs - hBy bs = hBe bs from by omega] at hsl hBb
    have hsz : hSz bs ≤ 131072 := by omega
    refine ⟨a', tellL c u V (hKi bs) (hSz bs) (hRw bs) (bodyN bs) ws, hsl, ?_, fun W hW => ?_⟩
    ·cases tellL c u V (hKi bs) (hSz bs) (hRw bs) (bodyN bs) ws with
     | none => rfl
     | some p => rfl
    ·have hBW : Bytes W a' (hBe bs) gb off' (bodyN bs) := hBb.keep hW (fun _ h => h)
     have hBW2 := hB2.keep hW (fun _ h => h)
     have hbeb := hBe_lt bs
     have hk4 := hKi_lt bs
     unfold tellL
     by_cases k0 : hKi bs = 0
     ·rw [if_pos k0, k0]
      have := tell_raw (hBy bs) (frN 0 (hFo bs)) (btN 0 (hFo bs)) (hRw bs) (hSz bs) (hPk bs) a' (hBe bs) gb off' (bodyN bs) a2 cap2 gb2 off2 ws W hBW hBW2 (by omega) hl2
      rw [hbl2] at this
      exact this
     ·rw [if_neg k0]
      by_cases k1 : hKi bs = 1
      ·rw [if_pos k1, k1]
       have hb1 : hBe bs = 1 := by unfold hBe; rw [if_neg k0, if_pos k1]
       rw [hb1] at hbl2 hBW ⊢
       obtain ⟨x, hx⟩ := List.length_eq_one_iff.1 hbl2
       rw [hx] at hBW ⊢
       exact tell_one (hBy bs) (frN 1 (hFo bs)) (btN 1 (hFo bs)) (hRw bs) (hSz bs) (hPk bs) a' 1 gb off' x a2 cap2 gb2 off2 ws W hBW hBW2 hsz hl2
      ·rw [if_neg k1]
       have hrw : 1 ≤ hRw bs ∧ hRw bs ≤ 4 := by
        unfold hRw
        rcases rwN_is (hKi bs) (hFo bs) with q | q | q <;> omega
       by_cases k3 : hKi bs = 3
       ·rw [if_pos k3, k3]
        have := tell_ahead (hBy bs) (frN 3 (hFo bs)) (btN 3 (hFo bs)) (hRw bs) (hSz bs) (hPk bs) a' (hBe bs) gb off' (bodyN bs) a2 cap2 gb2 off2 ws W hBW hBW2 hsz (by omega) hl2 hrw.1 hrw.2
        rw [hbl2] at this
        exact this
       ·rw [if_neg k3]
        have k2 : hKi bs = 2 := by omega
        rw [k2]
        have := tell_anew (hBy bs) (frN 2 (hFo bs)) (btN 2 (hFo bs)) (hRw bs) (hSz bs) (hPk bs) a' (hBe bs) gb off' (bodyN bs) a2 cap2 gb2 off2 ws c u V W hBW hsz (by omega) hrw.1 hrw.2 hR hc
        rw [hbl2] at this
        exact this

end Go.Proofs.YtnjilcokkhodmaaGreatDoor
