/-
  The four ways to read a table, whatever the bytes.
  Steps as plain functions of the tail's bytes and the tables; the reader, the states' cells and the steps as they lie.
-/
import Derived.Test.YtnjilcokkhodmaaGreatDoorZP6
import Derived.Test.YtnjilcokkhodmaaGreatDoorZP12
import Derived.Test.YtnjilcokkhodmaaGreatDoorZP14
namespace Go.Proofs.YtnjilcokkhodmaaGreatDoor
open Go.RowKit Go.Shelf
set_option linter.unusedVariables false

def TabAns (w : World) (sb g : Nat) (R : Option (Tb × List Nat)) (e : Ending) (w' : World) : Prop :=
 Keep (fun k => k = sb) w w' ∧ match R with
  | none => ∃ c : Int, c ≠ 0 ∧ e = .returned (.tuple #[.slice none 0 0, .int .i64 c])
  | some (T, rest) => ∃ tg cap, e = .returned (.tuple #[.slice (some ⟨tg, 0, none⟩) (2 ^ T.l) cap, .int .i64 0]) ∧ IsTb w' tg T ∧ w.heap.size ≤ tg ∧ Sec w' sb g rest

theorem tbX_good {K : Kd} {xs : List Int} {l : Nat} (hb : okT xs (l : Int) = true) (hl : l ≤ K.ml) (hm : K.ml ≤ 9) (hx : xs.length ≤ K.codes) : GoodT K (tbX xs l) := by
 have hT := okT_tab hb
 obtain ⟨hG, hT0, hne, hlen, hl5, hl12⟩ := okT_good hb
 refine ⟨hl, hm, fun s hs => ?_, fun s hs => ?_, fun s hs => ?_⟩
 ·exact Nat.lt_of_lt_of_le (hT.symF s hs).2.1 hx
 ·have h1 : bitF l (xF xs (2 ^ l) s) ≤ l := (hT.cell s hs).2.2.1
  show bitF l (xF xs (2 ^ l) s) ≤ 9
  omega
 ·exact (hT.cell s hs).2.2.2.2.1
theorem tbA_good {K : Kd} (hm : K.ml ≤ 9) (c : Nat) (hc : c < K.codes) : GoodT K (tbA c) :=
 ⟨Nat.zero_le _, hm, fun _ _ => hc, fun _ _ => Nat.zero_le _, fun _ _ => Nat.le_refl _⟩
set_option maxHeartbeats 4000000 in
theorem readUntold_all (w : World) (sb g b o gk : Nat) (K : Kd) (rest : List Nat) (z : Value) (hS : Sec w sb g rest) (hC : Coding w b o gk K) (hD : KDef K) :
  Calls Tryz.prog 81 #[.pointer (some ⟨sb, 0, none⟩), .pointer (some ⟨b, o, none⟩), z] w fun e w' => TabAns w sb g (some (tbX K.cs K.l, rest)) e w' := by
 have c1 := hC.cn
 have c2 := hC.lg
 obtain ⟨m, hm⟩ : ∃ m, m = K.cs.length := ⟨_, rfl⟩
 rw [← hm] at c1
 have d1 : ∀ q, (w.drewN q).cell? ⟨b, o + 109, none⟩ = some (.slice (some ⟨gk, 0, none⟩) m m) := fun q => c1
 have d2 : ∀ q, (w.drewN q).cell? ⟨b, o + 108, none⟩ = some (.int .i64 (K.l : Int)) := fun q => c2
 obtain ⟨q, hq⟩ : ∃ q, q = 2 ^ K.l := ⟨_, rfl⟩
 have HT := (show Hid (∀ z, Calls Tryz.prog 99 #[.slice (some ⟨gk, 0, none⟩) m m, .int .i64 (K.l : Int)] (w.drewN z) fun e w' => ∃ tg cap', e = .returned (.tuple #[.slice (some ⟨tg, 0, none⟩) q cap', .int .i64 0]) ∧ Hid (w.heap.size ≤ tg ∧ IsTb w' tg (tbX K.cs K.l) ∧ Keep noBlock w w') ∧ w'.cell? ⟨b, o + 109, none⟩ = some (.slice (some ⟨gk, 0, none⟩) m m) ∧ w'.cell? ⟨b, o + 108, none⟩ = some (.int .i64 (K.l : Int))) from fun z => by
  have h1 := hC.keep (keep_drewN w z) (fun h => h) (fun h => h)
  have := table_good _ _ _ _ K.cs K.l (w.drewN z) h1.row hD.i16 hD.ok
  rw [← hm, ← hq] at this
  refine this.mono ?_
  rintro e w2 ⟨tg, capg, rfl, t1, t2, t3, t4⟩
  have hk := (keep_drewN w z).trans' t4
  have h2 := hC.keep hk (fun h => h) (fun h => h)
  have e1 := h2.cn
  rw [← hm] at e1
  rw [hq] at t3
  exact ⟨tg, capg, rfl, ⟨t1, t3, hk⟩, e1, h2.lg⟩)
 have HH := hid (And.intro hS hq)
 clear hS hC hD hm hq
 go_enter Tryz.func81, Tryz.ntmps81
 go_wp2_with fail
 go_region_held3 (fun W => W.cell? ⟨b, o + 109, none⟩ = some (.slice (some ⟨gk, 0, none⟩) m m) ∧ W.cell? ⟨b, o + 108, none⟩ = some (.int .i64 (K.l : Int))) (first | exact ⟨d1 _, d2 _⟩ | exact ⟨c1, c2⟩ | exact ⟨f1, f2⟩) ((first
  | (go_at_call 99; refine (HT.out 1).mono ?_; rintro e w2 ⟨tg, capg, rfl, HX, f1, f2⟩)))
 go_wp2_with fail
 go_ret2
 obtain ⟨t1, t3, t4⟩ := HX.out
 exact ⟨t4.mono (fun _ _ h => h.elim), tg, capg, by rw [HH.out.2]; rfl, t3, t1, HH.out.1.keep t4 (fun h => h) (fun h => h)⟩

def aloneR (K : Kd) : List Nat → Option (Tb × List Nat)
 | [] => none
 | c :: r => if c < K.codes then some (tbA c, r) else none
set_option maxHeartbeats 4000000 in
theorem readAlone_all (w : World) (sb g b o gk : Nat) (K : Kd) (bs : List Nat) (z : Value) (hS : Sec w sb g bs) (hC : Coding w b o gk K) (hne : b ≠ sb) :
    Calls Tryz.prog 83 #[.pointer (some ⟨sb, 0, none⟩), .pointer (some ⟨b, o, none⟩), z] w fun e w' => TabAns w sb g (aloneR K bs) e w' := by
  have hlt := hS.lt
  cases bs with
  | nil =>
    have HN := hid (sec_end sb g w hS)
    clear hS hC
    go_enter Tryz.func83, Tryz.ntmps83
    go_wp2_with fail
    refine HN.out.mono ?_
    rintro e w1 ⟨rfl, q2⟩
    have HQ := hid q2
    clear q2
    go_wp2_with fail
    go_ret2
    exact ⟨HQ.out, 10, by decide, rfl⟩
  | cons c rest =>
    have hc256 : c < 256 := hlt 0
    have HN := hid (sec_next sb g c rest w hS)
    have hcl := hC.ok.le
    have HC := hid (show w.cell? ⟨b, o, none⟩ = some (.int .i64 (K.codes : Int)) ∧ b < w.heap.size from ⟨hC.codes, hC.lt⟩)
    obtain ⟨m, hm⟩ : ∃ m, m = K.codes := ⟨_, rfl⟩
    rw [← hm] at HC
    by_cases hc : c < m
    · have hcI : ¬ (m : Int) ≤ (c : Int) := by omega
      have hcN : ¬ m ≤ c := by omega
      have hw : IntKind.u8.wrap (c : Int) = (c : Int) := by rw [IntKind.wrap_u8]; omega
      have HR := hid (show aloneR K (c :: rest) = some (tbA c, rest) from if_pos (by rw [← hm]; exact hc))
      clear hS hC hm hcl hlt
      go_enter Tryz.func83, Tryz.ntmps83
      go_wp2_with fail
      refine HN.out.mono ?_
      rintro e w1 ⟨rfl, q1, q2⟩
      have c0 : w1.cell? ⟨b, o, none⟩ = some (.int .i64 (m : Int)) := (World.cell?_of_block (q2.block b HC.out.2 hne)).trans HC.out.1
      have HQ := hid (And.intro q1 q2)
      have HA := hid (aloneTable_any c w1)
      clear q1 q2 HN
      go_wp2_with fail
      refine HA.out.mono ?_
      rintro e w2 ⟨rfl, rfl⟩
      go_wp2_with fail
      go_ret2
      obtain ⟨q1, q2⟩ := HQ.out
      have ka : Keep noBlock w1 (w1.alloc (.cells #[.int .u8 (c : Int), .int .u8 0, .int .u16 0] 130)) := (Keep.refl _ w1).alloc _
      rw [HR.out]
      exact ⟨q2.trans ka (fun _ _ h => h.elim), w1.heap.size, 1, rfl, alone_tab w1 c, q2.size, q1.keep ka (fun h => h) (fun h => h)⟩
    · have hcI : (m : Int) ≤ (c : Int) := by omega
      have hcN : m ≤ c := by omega
      have HR := hid (show aloneR K (c :: rest) = none from if_neg (by rw [← hm]; exact hc))
      clear hS hC hm hcl hlt
      go_enter Tryz.func83, Tryz.ntmps83
      go_wp2_with fail
      refine HN.out.mono ?_
      rintro e w1 ⟨rfl, q1, q2⟩
      have c0 : w1.cell? ⟨b, o, none⟩ = some (.int .i64 (m : Int)) := (World.cell?_of_block (q2.block b HC.out.2 hne)).trans HC.out.1
      have HQ := hid q2
      clear q1 q2 HN
      go_wp2_with fail
      go_ret2
      rw [HR.out]
      exact ⟨HQ.out, 11, by decide, rfl⟩

def IsTs (w : World) (v : Value) (t : Option Tb) : Prop := match t with
 | none => v = .slice none 0 0
 | some T => ∃ tg cap, v = .slice (some ⟨tg, 0, none⟩) (2 ^ T.l) cap ∧ IsTb w tg T
theorem IsTs.keep {w w' : World} {v : Value} {t : Option Tb} (h : IsTs w v t) (hk : Keep noBlock w w') : IsTs w' v t := by
  cases t with
  | none => exact h
  | some T =>
    obtain ⟨tg, cap, e, hT⟩ := h
    exact ⟨tg, cap, e, hT.keep hk (fun h => h)⟩
def aheadR (t : Option Tb) (bs : List Nat) : Option (Tb × List Nat) := match t with
 | none => none
 | some T => if isTabB T then some (T, bs) else none

theorem logOf_none (w : World) : Calls Tryz.prog 69 #[.slice none 0 0] w fun e w' => e = .returned (.int .i64 (-1)) ∧ w' = w := by
 have HL := (show Hid (∀ W : World, Calls Tryz.prog 92 #[.int .u64 0] W fun e w' => e = .returned (.int .i64 0) ∧ w' = W) from fun W => len_any 0 (by omega) W)
 go_enter Tryz.func69, Tryz.ntmps69
 go_wp2_with fail
 refine (HL.out _).mono ?_
 rintro e w' ⟨rfl, rfl⟩
 go_wp2_with fail
 go_ret
 exact ⟨rfl, rfl⟩
theorem isTable_none (w : World) (b o : Nat) : Calls Tryz.prog 107 #[.pointer (some ⟨b, o, none⟩), .slice none 0 0] w fun e w' => e = .returned (.bool false) ∧ w' = w := by
 have HL := (show Hid (∀ W : World, _) from fun W => logOf_none W)
 go_enter Tryz.func107, Tryz.ntmps107
 go_wp2_with fail
 refine (HL.out _).mono ?_
 rintro e w' ⟨rfl, rfl⟩
 go_wp2_with fail
 go_ret
 exact ⟨rfl, rfl⟩
theorem flatT (T : Tb) : ∀ n : Nat, ((List.range n).flatMap (fun i => [Value.int .u8 ((T.sy i : Nat) : Int), Value.int .u8 ((T.bi i : Nat) : Int), Value.int .u16 ((T.ba i : Nat) : Int)])).length = n * 3 ∧ ∀ i, i < n → ((List.range n).flatMap (fun i => [Value.int .u8 ((T.sy i : Nat) : Int), Value.int .u8 ((T.bi i : Nat) : Int), Value.int .u16 ((T.ba i : Nat) : Int)]))[i * 3]? = some (.int .u8 ((T.sy i : Nat) : Int)) ∧ ((List.range n).flatMap (fun i => [Value.int .u8 ((T.sy i : Nat) : Int), Value.int .u8 ((T.bi i : Nat) : Int), Value.int .u16 ((T.ba i : Nat) : Int)]))[i * 3 + 1]? = some (.int .u8 ((T.bi i : Nat) : Int)) ∧ ((List.range n).flatMap (fun i => [Value.int .u8 ((T.sy i : Nat) : Int), Value.int .u8 ((T.bi i : Nat) : Int), Value.int .u16 ((T.ba i : Nat) : Int)]))[i * 3 + 2]? = some (.int .u16 ((T.ba i : Nat) : Int))
  | 0 => ⟨rfl, fun i hi => by omega⟩
  | n + 1 => by
    obtain ⟨h1, h2⟩ := flatT T n
    rw [List.range_succ, List.flatMap_append]
    refine ⟨by rw [List.length_append, h1]; simp; omega, fun i hi => ?_⟩
    by_cases e : i = n
    · subst e
      rw [List.getElem?_append_right (by omega), List.getElem?_append_right (by omega), List.getElem?_append_right (by omega), h1, Nat.sub_self, show i * 3 + 1 - i * 3 = 1 by omega, show i * 3 + 2 - i * 3 = 2 by omega]
      simp
    · obtain ⟨a, b, c⟩ := h2 i (by omega)
      rw [List.getElem?_append_left (by omega), List.getElem?_append_left (by omega), List.getElem?_append_left (by omega)]
      exact ⟨a, b, c⟩
set_option maxHeartbeats 1000000 in
theorem cloneT_any (tg cap : Nat) (T : Tb) (hl : T.l ≤ 9) (w : World) (h : IsTb w tg T) :
  Calls Tryz.prog 63 #[.slice (some ⟨tg, 0, none⟩) (2 ^ T.l) cap] w fun e w' => ∃ g cap', e = .returned (.slice (some ⟨g, 0, none⟩) (2 ^ T.l) cap') ∧ w.heap.size ≤ g ∧ IsTb w' g T ∧ Keep noBlock w w' := by
 obtain ⟨i0, hi, hz0, hz1, hz2⟩ := info_parts info50
 have hn : 2 ^ T.l ≤ 512 := Nat.pow_le_pow_right (n := 2) (j := 9) (by omega) hl
 obtain ⟨n, hne⟩ : ∃ n, n = 2 ^ T.l := ⟨_, rfl⟩
 have hc0 := h.cells
 have hlt := h.lt
 rw [← hne] at hn ⊢
 obtain ⟨L, hLe⟩ : ∃ L, L = (List.range n).flatMap (fun i => [Value.int .u8 ((T.sy i : Nat) : Int), Value.int .u8 ((T.bi i : Nat) : Int), Value.int .u16 ((T.ba i : Nat) : Int)]) := ⟨_, rfl⟩
 obtain ⟨l1, l4⟩ := flatT T n
 rw [← hLe] at l1 l4
 have l2 : ∀ j u, L[j]? = some u → w.cell? ⟨tg, j, none⟩ = some u := fun j u hu => by
  have hj : j < n * 3 := by rw [← l1]; exact (List.getElem?_eq_some_iff.1 hu).1
  obtain ⟨q1, q2, q3⟩ := l4 (j / 3) (by omega)
  obtain ⟨c1, c2, c3⟩ := hc0 (j / 3) (by rw [← hne]; omega)
  rcases (show j = j / 3 * 3 ∨ j = j / 3 * 3 + 1 ∨ j = j / 3 * 3 + 2 by omega) with e | e | e
  ·rw [e] at hu ⊢; rw [q1] at hu; cases hu; exact c1
  ·rw [e] at hu ⊢; rw [q2] at hu; cases hu; exact c2
  ·rw [e] at hu ⊢; rw [q3] at hu; cases hu; exact c3
 have l3 : ∀ u ∈ L, u.oneCell' = true := fun u hu => by
  rw [hLe] at hu
  obtain ⟨i, -, hi⟩ := List.mem_flatMap.1 hu
  simp only [List.mem_cons, List.not_mem_nil, or_false] at hi
  rcases hi with rfl | rfl | rfl <;> rfl
 have hmax : n ≤ maxLen := by unfold maxLen; omega
 have hby : n * 4 ≤ 140737488355328 := by omega
 have heq := fun (w : World) (a : Option Addr) (n c n' c' : Nat) => Lib.run_eql_slice_nil (P := Tryz.prog) w 36 130 a n c n' c' Tryz.underlying36
 have hown := World.ownsRow_made (e := 130) (size := 3) (base := w.heap.size) w #[] 0 (Nat.le_refl _) (Nat.zero_le _) rfl
 have hc' : ∀ j u, L[j]? = some u → (w.alloc (.cells #[] 130)).cell? ((⟨tg, 0, none⟩ : Addr).add j) = some u := fun j u hu => by
  rw [add0]
  exact (World.cell?_of_block (Below.heap_alloc _ _ _ hlt)).trans (l2 j u hu)
 have HL := (show Hid ((∀ i, i < n → L[i * 3]? = some (.int .u8 ((T.sy i : Nat) : Int)) ∧ L[i * 3 + 1]? = some (.int .u8 ((T.bi i : Nat) : Int)) ∧ L[i * 3 + 2]? = some (.int .u16 ((T.ba i : Nat) : Int))) ∧ n = 2 ^ T.l) from ⟨l4, hne⟩)
 clear l2 l4 hLe hne h hc0
 go_enter Tryz.func63, Tryz.ntmps63
 go_wp2_with (at_builtin; refine wpList_append_own _ rfl _ _ 36 rfl w.heap.size 130 i0 (.agg #[.int .u8 0, .int .u8 0, .int .u16 0]) 3 4 Tryz.underlying36 hi hz0 hz1 hz2 rfl (by decide) (.slice (some ⟨w.heap.size, 0, none⟩) 0 0) 0 [] rfl hown ⟨tg, 0, none⟩ n cap L rfl l1 hc' l3 (by omega) (by omega) (by simp) ?_; intro v' w1 hown' hgrow hnil)
 go_ret
 have hk : Keep noBlock w w1 := ((Keep.refl _ w).alloc _).grown hgrow (fun k e hk => by
  have e' : w.heap.size = k := by simpa [Value.ownBlock] using e
  omega)
 rw [List.nil_append, Nat.zero_add] at hown'
 rcases hown'.2 with ⟨e1, h0⟩ | ⟨g, cap', cur, e1, hb, hg, hr1, hr2, hr3, hr4⟩
 ·have := hnil.1 e1
  cases this.1
 ·subst e1
  refine ⟨g, cap', rfl, hb, ⟨fun i hi => ?_, obj_lt hg⟩, hk⟩
  obtain ⟨d1, d2, d3⟩ := HL.out.1 i (by rw [HL.out.2]; exact hi)
  have q1 := hown'.cells (g := g) rfl _ _ d1
  have q2 := hown'.cells (g := g) rfl _ _ d2
  have q3 := hown'.cells (g := g) rfl _ _ d3
  rw [add0] at q1 q2 q3
  exact ⟨by simpa using q1, by simpa using q2, by simpa using q3⟩
theorem clone_none (w : World) : Calls Tryz.prog 63 #[.slice none 0 0] w fun e w' => e = .returned (.slice none 0 0) ∧ w' = w := by
 have heq := fun (w : World) (a : Option Addr) (n c n' c' : Nat) => Lib.run_eql_slice_nil (P := Tryz.prog) w 36 130 a n c n' c' Tryz.underlying36
 go_enter Tryz.func63, Tryz.ntmps63
 go_wp2
 go_ret
 exact ⟨rfl, rfl⟩
set_option maxHeartbeats 4000000 in
theorem readAhead_all (w : World) (sb g b o gk : Nat) (K : Kd) (bs : List Nat) (v : Value) (t : Option Tb) (hS : Sec w sb g bs) (hC : Coding w b o gk K) (ht : IsTs w v t) (hG : ∀ T, t = some T → GoodT K T) :
    Calls Tryz.prog 87 #[.pointer (some ⟨sb, 0, none⟩), .pointer (some ⟨b, o, none⟩), v] w fun e w' => TabAns w sb g (aheadR t bs) e w' := by
  cases t with
  | none =>
    obtain rfl : v = .slice none 0 0 := ht
    have HI := hid (isTable_none w b o)
    clear hC hG
    go_enter Tryz.func87, Tryz.ntmps87
    go_wp2_with fail
    refine HI.out.mono ?_
    rintro e w1 ⟨rfl, rfl⟩
    go_wp2_with fail
    go_ret2
    exact ⟨Keep.refl _ _, 11, by decide, rfl⟩
  | some T =>
    obtain ⟨tg, cap, rfl, hT⟩ := ht
    have hGT := hG T rfl
    have hl9 : T.l ≤ 9 := Nat.le_trans hGT.hl hGT.ml
    have HI := hid (isTable_any w b o gk tg cap K T hC hT hGT)
    obtain ⟨q, hq⟩ : ∃ q, q = 2 ^ T.l := ⟨_, rfl⟩
    have HCl := (show Hid (∀ W : World, Keep noBlock w W → Calls Tryz.prog 63 #[.slice (some ⟨tg, 0, none⟩) q cap] W fun e w' => ∃ g cap', e = .returned (.slice (some ⟨g, 0, none⟩) q cap') ∧ Hid (W.heap.size ≤ g ∧ IsTb w' g T ∧ Keep noBlock W w')) from fun W hk => by
      have := cloneT_any tg cap T hl9 W (hT.keep hk (fun h => h))
      rw [← hq] at this
      exact this)
    rw [← hq] at HI ⊢
    have HH := hid (And.intro hS hq)
    clear hS hC hT hG hGT hq hl9
    cases hB : isTabB T with
    | false =>
      rw [hB] at HI
      go_enter Tryz.func87, Tryz.ntmps87
      go_wp2_with fail
      refine HI.out.mono ?_
      rintro e w1 ⟨rfl, k1⟩
      go_wp2_with fail
      go_ret2
      rw [show aheadR (some T) bs = none from by simp [aheadR, hB]]
      exact ⟨k1.mono (fun _ _ h => h.elim), 11, by decide, rfl⟩
    | true =>
      rw [hB] at HI
      go_enter Tryz.func87, Tryz.ntmps87
      go_wp2_with fail
      refine HI.out.mono ?_
      rintro e w1 ⟨rfl, k1⟩
      have HK := hid k1
      have HC1 := hid (HCl.out w1 k1)
      clear k1 HCl HI
      go_wp2_with fail
      refine HC1.out.mono ?_
      rintro e w2 ⟨gt, cap', rfl, HX⟩
      go_wp2_with fail
      go_ret2
      obtain ⟨x1, x2, x3⟩ := HX.out
      have kk := HK.out.trans' x3
      rw [show aheadR (some T) bs = some (T, bs) from by simp [aheadR, hB]]
      exact ⟨kk.mono (fun _ _ h => h.elim), gt, cap', by rw [HH.out.2]; rfl, x2, Nat.le_trans HK.out.size x1, HH.out.1.keep kk (fun h => h) (fun h => h)⟩

/-- What a description of counts tells. -/
structure Oc where
 c : List Nat → Nat → Nat → Option (List Int × Nat × Nat)
 hc : ∀ bs ml ms T, RdRel bs ml ms T → c bs ml ms = T
theorem oc_ex : Nonempty Oc := ⟨⟨fun bs ml ms => Classical.epsilon (fun T => RdRel bs ml ms T), fun bs ml ms T h => RdRel.det (Classical.epsilon_spec (p := fun T => RdRel bs ml ms T) ⟨T, h⟩) h⟩⟩
section
variable {Ω : Oc}
def rdC (Ω : Oc) (bs : List Nat) (ml ms : Nat) : Option (List Int × Nat × Nat) := Ω.c bs ml ms
theorem rdC_eq {bs : List Nat} {ml ms : Nat} {T : Option (List Int × Nat × Nat)} (h : RdRel bs ml ms T) : rdC Ω bs ml ms = T :=
 Ω.hc bs ml ms T h
def descR (Ω : Oc) (K : Kd) (bs : List Nat) : Option (Tb × List Nat) := match rdC Ω (bs.take 481) K.ml (K.codes - 1) with
 | none => none
 | some (xs, l, u) => some (tbX xs l, bs.drop u)

theorem Bytes.srcN {w : World} {a : Option Addr} {cap gb off : Nat} {bs : List Nat} (h : Bytes w a cap gb off bs) (hp : ∀ p, a = some p → p.block < w.heap.size) : Src w (.slice a bs.length cap) bs := by
  cases a with
  | none =>
    have h1 := h.nil rfl
    have h2 := h.cap
    have : bs = [] := List.length_eq_zero_iff.1 (by omega)
    subst this
    exact .inl ⟨by rw [h1]; rfl, rfl⟩
  | some p =>
    refine .inr ⟨p, cap, rfl, hp p rfl, fun j u hu => ?_⟩
    rcases h.src with ⟨e, -⟩ | ⟨a', c', e, h2⟩
    · cases e
    · cases e; exact h2 j u hu
section
attribute [local go_sem] sliceSem_eq
set_option maxRecDepth 100000 in
set_option maxHeartbeats 8000000 in
theorem readDescribed_all (w : World) (sb g b o gk : Nat) (K : Kd) (bs : List Nat) (z : Value) (hS : Sec w sb g bs) (hC : Coding w b o gk K) (hl : bs.length ≤ 131072) :
    Calls Tryz.prog 85 #[.pointer (some ⟨sb, 0, none⟩), .pointer (some ⟨b, o, none⟩), z] w fun e w' => TabAns w sb g (descR Ω K bs) e w' ∧ ∀ T r, descR Ω K bs = some (T, r) → GoodT K T := by
  obtain ⟨a, cap, off, s1, s2, s3, s4⟩ := hS
  have hml9 := hC.ok.ml9
  have hml5 := hC.ok.ml5
  have hcl := hC.ok.le
  have hpos := hC.ok.pos
  have c1 := cell_of s1 0
  have c2 := hC.ml
  have c3 := hC.codes
  have hcap := s2.cap
  obtain ⟨ml, hml⟩ : ∃ ml, ml = K.ml := ⟨_, rfl⟩
  obtain ⟨ms, hms⟩ : ∃ ms, ms = K.codes := ⟨_, rfl⟩
  obtain ⟨N, hN⟩ : ∃ N, N = bs.length := ⟨_, rfl⟩
  obtain ⟨m1, hm1⟩ : ∃ m1, m1 = ms - 1 := ⟨_, rfl⟩
  have HD := (show Hid (∀ T, rdC Ω (bs.take 481) ml m1 = T → descR Ω K bs = match T with | none => none | some (xs, l, u) => some (tbX xs l, bs.drop u)) from fun T h => by unfold descR; rw [← hml, ← hms, ← hm1, h])
  have HG := (show Hid (∀ xs l u, RdRel (bs.take 481) ml m1 (some (xs, l, u)) → okT xs (l : Int) = true ∧ I16 xs ∧ GoodT K (tbX xs l) ∧ u ≤ bs.length) from fun xs l u h => by
    obtain ⟨o1, o2, o3, o4, o5, o6, o7, o8⟩ := h.ok (by omega) (by omega)
    rw [List.length_take] at o5
    exact ⟨o1, o2, tbX_good o1 (by omega) (by omega) (by omega), by omega⟩)
  rw [← hml] at c2 hml9 hml5
  rw [← hms] at c3 hcl hpos
  have hm1I : (ms : Int) - 1 = (m1 : Int) := by omega
  have hm1b : (m1 : Int) ≤ 52 := by omega
  have hwm : IntKind.i64.wrap (m1 : Int) = (m1 : Int) := by rw [IntKind.wrap_i64]; omega
  have c1' : w.cell? ⟨sb, 0, none⟩ = some (.slice a N cap) := by rw [hN]; exact c1
  have d0 : ∀ q, (w.drewN q).cell? ⟨sb, 0, none⟩ = some (.slice a N cap) ∧ (w.drewN q).cell? ⟨b, o + 107, none⟩ = some (.int .i64 (ml : Int)) ∧ (w.drewN q).cell? ⟨b, o, none⟩ = some (.int .i64 (ms : Int)) := fun q => ⟨c1', c2, c3⟩
  have HR := (show Hid (∀ q, Calls Tryz.prog 98 #[.slice a N cap, .int .i64 (ml : Int), .int .i64 (m1 : Int)] (w.drewN q) fun e w' => ∃ (v0 : Value) (l0 u0 E : Int), e = .returned (.tuple #[v0, .int .i64 l0, .int .i64 u0, .int .i64 E]) ∧ Hid (∃ T, RdRel (bs.take 481) ml m1 T ∧ Keep noBlock w w' ∧ (match T with
      | none => E ≠ 0
      | some (xs, l, u) => ∃ sa sc gb, v0 = .slice sa xs.length sc ∧ l0 = (l : Int) ∧ u0 = (u : Int) ∧ E = 0 ∧ RowI w' .i16 sa sc gb 0 xs ∧ w.heap.size ≤ gb)) ∧
      (w'.cell? ⟨sb, 0, none⟩ = some (.slice a N cap) ∧ w'.cell? ⟨b, o + 107, none⟩ = some (.int .i64 (ml : Int)) ∧ w'.cell? ⟨b, o, none⟩ = some (.int .i64 (ms : Int)))) from fun q => by
    have hB2 := (s2.take (min N 481) (by omega)).2
    have e1 : bs.take (min N 481) = bs.take 481 := by rw [hN, Nat.min_comm, ← List.take_take, List.take_of_length_le (Nat.le_refl bs.length)]
    rw [e1] at hB2
    have hsrc := (hB2.keep (keep_drewN w q) (fun _ h => h)).srcN (fun p hp => s4 p hp)
    refine (read_all2 a cap (bs.take 481) N ml m1 (w.drewN q) hsrc hB2.lt (by rw [List.length_take, hN]; omega) (by omega) (by omega) hml5 (by omega) (by omega)).mono ?_
    rintro e w' ⟨T, hT, hk, hm⟩
    have hkw := (keep_drewN w q).trans' hk
    cases T with
    | none =>
      obtain ⟨E, hE, rfl⟩ := hm
      exact ⟨_, _, _, E, rfl, ⟨none, hT, hkw, hE⟩, keep_cell0 hkw c1', keep_cell0 hkw c2, keep_cell0 hkw c3⟩
    | some x =>
      obtain ⟨xs, l, u⟩ := x
      obtain ⟨sa, sc, gb, rfl, e2, e3⟩ := hm
      exact ⟨_, _, _, _, rfl, ⟨some (xs, l, u), hT, hkw, sa, sc, gb, rfl, rfl, rfl, rfl, e2, e3⟩, keep_cell0 hkw c1', keep_cell0 hkw c2, keep_cell0 hkw c3⟩)
  have HTb := (show Hid (∀ (w' : World) (sa : Option Addr) (sc gb : Nat) (xs : List Int) (l xn : Nat), xn = xs.length → RowI w' .i16 sa sc gb 0 xs → I16 xs → okT xs (l : Int) = true → Calls Tryz.prog 99 #[.slice sa xn sc, .int .i64 (l : Int)] w' fun e w'' => ∃ tg cap'', e = .returned (.tuple #[.slice (some ⟨tg, 0, none⟩) (2 ^ l) cap'', .int .i64 0]) ∧ Hid (w'.heap.size ≤ tg ∧ IsTb w'' tg (tbX xs l) ∧ Keep noBlock w' w'')) from fun w' sa sc gb xs l xn hxn hR hi hb => by
    rw [hxn]
    refine (table_good _ _ _ _ xs l w' hR hi hb).mono ?_
    rintro e w2 ⟨tg, capg, rfl, t1, t2, t3, t4⟩
    exact ⟨tg, capg, rfl, t1, t3, t4⟩)
  have HS := (show Hid (IsSec w sb (.slice a bs.length cap) ∧ Bytes w a cap g off bs ∧ g ≠ sb ∧ N = bs.length ∧ ∀ p, a = some p → p.block < w.heap.size) from ⟨s1, s2, s3, hN, s4⟩)
  clear hC hml hms hm1 c1 s1 s2 s4 hN
  go_enter Tryz.func85, Tryz.ntmps85
  go_wp2_with fail
  go_region_held3 (fun W => W.cell? ⟨sb, 0, none⟩ = some (.slice a N cap) ∧ W.cell? ⟨b, o + 107, none⟩ = some (.int .i64 (ml : Int)) ∧ W.cell? ⟨b, o, none⟩ = some (.int .i64 (ms : Int))) (first | exact d0 _ | exact ⟨c1', c2, c3⟩ | exact f1) ((first
    | (go_at_call 98; refine (HR.out 1).mono ?_; rintro e w2 ⟨v0, l0, u0, E, rfl, HX0, f1⟩)))
  obtain ⟨T, hX1, hX2, hX3⟩ := HX0.out
  have HX := hid (And.intro hX1 hX2)
  clear HX0 hX1 hX2
  rcases T with _ | ⟨xs, l, u⟩
  · have hE : E ≠ 0 := hX3
    have hE0 : ((E : Int) == 0) = false := by simpa using hE
    have HF := (show Hid (∀ e : Ending, (∃ c : Int, c ≠ 0 ∧ e = .returned (.tuple #[.slice none 0 0, .int .i64 c])) → TabAns w sb g (descR Ω K bs) e w2 ∧ ∀ T r, descR Ω K bs = some (T, r) → GoodT K T) from fun e he => by
      have hd := HD.out none (rdC_eq HX.out.1)
      rw [hd]
      exact ⟨⟨HX.out.2.mono (fun _ _ h => h.elim), he⟩, fun T r h => by cases h⟩)
    clear HX HR HTb HS HD HG
    by_cases h10 : E = 10
    · subst h10
      go_wp2_with fail
      go_ret2
      exact HF.out _ ⟨10, by decide, rfl⟩
    · have hE1 : ((E : Int) == 10) = false := by simpa using h10
      go_wp2_with fail
      go_ret2
      exact HF.out _ ⟨11, by decide, rfl⟩
  · obtain ⟨sa, sc, gc, rfl, rfl, rfl, rfl, y1, y2⟩ := hX3
    have HRow := hid (And.intro y1 y2)
    clear y1 y2
    obtain ⟨o1, o2, o3, o4⟩ := HG.out xs l u HX.out.1
    obtain ⟨z1, z2, z3, z4, z5⟩ := HS.out
    obtain ⟨a', off', hs, hBd, -⟩ := z2.drop u o4
    have hblk := drop_block o4 hs w
    rw [← z4] at hs
    have hs2 := HX.out.2.obj z1 (fun h => h)
    have e1 := f1.1
    have e2 := frozen_of hs2 0
    obtain ⟨xn, hxn⟩ : ∃ xn, xn = xs.length := ⟨_, rfl⟩
    rw [← hxn]
    obtain ⟨r, hr2⟩ : ∃ r, r = (bs.drop u).length := ⟨_, rfl⟩
    rw [← hr2] at hs
    have huN : (u : Int) ≤ (N : Int) := by omega
    have HN := (show Hid (∀ W', W' = w2.setCell ⟨sb, 0, none⟩ (.slice a' r (cap - u)) → Sec W' sb g (bs.drop u) ∧ Keep (fun k => k = sb) w W' ∧ RowI W' .i16 sa sc gc 0 xs ∧ w.heap.size ≤ W'.heap.size) from fun W' e => by
      have hk : Keep (fun k => k = sb) w2 W' := by rw [e]; exact (Keep.refl (fun k => k = sb) w2).setCell (p := ⟨sb, 0, none⟩) (fun _ => rfl) _
      have hkw := (HX.out.2.mono (T := fun k => k = sb) (fun _ _ h => h.elim)).trans hk (fun _ _ h => h)
      refine ⟨⟨a', cap - u, off', ?_, hBd.keep hkw (fun _ => z3), z3, fun p hp => ?_⟩, hkw, HRow.out.1.keep hk (fun _ e => ?_), hkw.size⟩
      · rw [e, ← hr2]
        exact set_obj hs2 0 _
      · obtain ⟨p0, e3, e4⟩ := hblk p hp
        have := z5 p0 e3
        have := hkw.size
        omega
      · have := obj_lt z1
        have := HRow.out.2
        omega)
    have HF := (show Hid (okT xs (l : Int) = true ∧ I16 xs ∧ xn = xs.length ∧ descR Ω K bs = some (tbX xs l, bs.drop u) ∧ GoodT K (tbX xs l)) from ⟨o1, o2, hxn, HD.out _ (rdC_eq HX.out.1), o3⟩)
    clear HX HR HS HD HG o1 o2 o3 z1 z2 z4 z5 hBd hblk hs2 hxn hr2 d0 c1' c2 c3 HRow
    go_wp2_with fail
    obtain ⟨n1, n2, n3, n4⟩ := HN.out _ rfl
    have HM := hid (And.intro n1 (And.intro n2 n4))
    have HTT := hid (HTb.out _ sa sc gc xs l xn HF.out.2.2.1 n3 HF.out.2.1 HF.out.1)
    generalize w2.setCell ⟨sb, 0, none⟩ (.slice a' r (cap - u)) = w3 at *
    clear n1 n2 n3 n4 HN HTb
    refine HTT.out.mono ?_
    rintro e w4 ⟨tg, capg, rfl, HX⟩
    clear HTT
    go_wp2_with fail
    go_ret2
    obtain ⟨m1, m2, m3⟩ := HM.out
    obtain ⟨t1, t2, t3⟩ := HX.out
    obtain ⟨-, -, -, f4, f5⟩ := HF.out
    rw [f4]
    exact ⟨⟨m2.trans t3 (fun _ _ h => h.elim), tg, capg, rfl, t2, by omega, m1.keep t3 (fun h => h) (fun h => h)⟩, fun T r h => by cases h; exact f5⟩
end
end
end Go.Proofs.YtnjilcokkhodmaaGreatDoor

namespace Go.Proofs.YtnjilcokkhodmaaGreatDoor
open Go.RowKit Go.Shelf
set_option linter.unusedVariables false

/-- Where a reader stands. -/
structure Rs where
 u : Nat
 a : Nat
def Rs.val (B : List Nat) (r : Rs) (m : Nat) : Nat := numAt B (r.u - min m r.u) (min m r.u) * 2 ^ (m - min m r.u)
def Rs.go (r : Rs) (m : Nat) : Rs := ⟨r.u - min m r.u, min (r.a + (m - min m r.u)) 1099511627776⟩
def Rs.left (r : Rs) : Int := (r.u : Int) - (r.a : Int)
theorem Rs.val_lt (B : List Nat) (r : Rs) (m : Nat) : r.val B m < 2 ^ m := by
 unfold Rs.val
 have h := numAt_lt B (r.u - min m r.u) (min m r.u)
 have e : 2 ^ m = 2 ^ (min m r.u) * 2 ^ (m - min m r.u) := by rw [← Nat.pow_add]; congr 1; omega
 rw [e]
 exact Nat.mul_lt_mul_of_pos_right h (Nat.two_pow_pos _)
def Rq (w : World) (rb g : Nat) (B : List Nat) (r : Rs) : Prop := Tl.IsR w rb g B r.u r.a
theorem Rq.keep {w w' : World} {S : Nat → Prop} {rb g : Nat} {B : List Nat} {r : Rs} (h : Rq w rb g B r) (hk : Keep S w w') (h1 : ¬ S rb) (h2 : ¬ S g) : Rq w' rb g B r := Tl.IsR.keep h hk h1 (fun _ => h2)
theorem Rq.bits {w : World} {rb g : Nat} {B : List Nat} {r : Rs} {m : Nat} (h : Rq w rb g B r) (hm : m ≤ 56) :
  Calls Tryz.prog 68 #[.pointer (some ⟨rb, 0, none⟩), .int .i64 (m : Int)] w fun e w' => e = .returned (.int .u64 ((r.val B m : Nat) : Int)) ∧ Rq w' rb g B (r.go m) ∧ Keep (fun k => k = rb) w w' :=
 Tl.bits_read rb g B (r.u - min m r.u) (min m r.u) (m - min m r.u) r.u m r.a (min (r.a + (m - min m r.u)) 1099511627776) (m : Int) w h (by omega) (by omega) (by omega) (by omega) rfl
theorem Rq.left {w : World} {rb g : Nat} {B : List Nat} {r : Rs} (h : Rq w rb g B r) :
  Calls Tryz.prog 72 #[.pointer (some ⟨rb, 0, none⟩)] w fun e w' => e = .returned (.int .i64 r.left) ∧ Keep noBlock w w' := by
 refine (Tl.left_any rb g B r.u r.a w h).mono ?_
 rintro e w' ⟨rfl, m, rfl⟩
 exact ⟨rfl, keep_drewN w m⟩
theorem Rq.left_ge {w : World} {rb g : Nat} {B : List Nat} {r : Rs} (h : Rq w rb g B r) : -1099511627776 ≤ r.left ∧ r.left < 9007199254740992 := by
 have h1 := Tl.IsR.most h
 have h2 := Tl.IsR.in_ h
 have h3 := Tl.IsR.fits h
 unfold Rs.left
 omega
def eo (i : Nat) : Nat := if i = 0 then 1 else if i = 1 then 2 else 0
def no (i : Nat) : Nat := if i = 0 then 0 else if i = 1 then 2 else 1
theorem eo_lt (i : Nat) : eo i < 3 := by unfold eo; repeat' split
                                         all_goals omega
theorem no_lt (i : Nat) : no i < 3 := by unfold no; repeat' split
                                         all_goals omega
def fsR (B : List Nat) (T : Nat → Tb) : Nat → Rs
 | 0 => ⟨Tl.tailLen B, 0⟩
 | i + 1 => (fsR B T i).go (T i).l
def fsS (B : List Nat) (T : Nat → Tb) : Nat → Nat → Nat
 | 0 => fun _ => 0
 | i + 1 => updN (fsS B T i) i ((fsR B T i).val B (T i).l)
def exC (T : Nat → Tb) (σ : Nat → Nat) (i : Nat) : Nat := (T (eo i)).sy (σ (eo i))
def exR (T : Nat → Tb) (σ : Nat → Nat) (r : Rs) : Nat → Rs
 | 0 => r
 | i + 1 => (exR T σ r i).go ((kdV (eo i)).ext (exC T σ i))
def exT (B : List Nat) (T : Nat → Tb) (σ : Nat → Nat) (r : Rs) : Nat → Nat → Nat
 | 0 => fun _ => 0
 | i + 1 => updN (exT B T σ r i) (eo i) ((kdV (eo i)).lst (exC T σ i) + (exR T σ r i).val B ((kdV (eo i)).ext (exC T σ i)))
def nxS (B : List Nat) (T : Nat → Tb) (σ : Nat → Nat) (r : Rs) : Nat → Option (Rs × (Nat → Nat))
  | 0 => some (r, σ)
  | i + 1 => match nxS B T σ r i with
    | none => none
    | some (q, τ) => if (q.go ((T (no i)).bi (τ (no i)))).left < 0 then none else some (q.go ((T (no i)).bi (τ (no i))), updN τ (no i) ((T (no i)).ba (τ (no i)) + q.val B ((T (no i)).bi (τ (no i)))))
def oneS (B : List Nat) (T : Nat → Tb) (σ : Nat → Nat) (r : Rs) : Sp := (exT B T σ r 3 0, exT B T σ r 3 2, exT B T σ r 3 1)
def stN (B : List Nat) (T : Nat → Tb) : Nat → Rs → (Nat → Nat) → List Sp → Option (List Sp)
  | 0, _, _, _ => none
  | k + 1, r, σ, l => if k = 0 then (if (exR T σ r 3).left = 0 then some (l ++ [oneS B T σ r]) else none) else match nxS B T σ (exR T σ r 3) 3 with
    | none => none
    | some (q, τ) => stN B T k q τ (l ++ [oneS B T σ r])
def stepsN (B : List Nat) (T : Nat → Tb) (n : Nat) : Option (List Sp) := if B[B.length - 1]?.getD 0 = 0 then none else stN B T n (fsR B T 3) (fsS B T 3) []
theorem nxS_none {B : List Nat} {T : Nat → Tb} {σ : Nat → Nat} {r : Rs} {i : Nat} (h : nxS B T σ r i = none) : ∀ d, nxS B T σ r (i + d) = none
  | 0 => h
  | d + 1 => by
    show (match nxS B T σ r (i + d) with | none => none | some (q, τ) => _) = none
    rw [nxS_none h d]
/-- Bounds. -/
structure TsOk (T : Nat → Tb) : Prop where
 g : ∀ v, v < 3 → GoodT (kdV v) (T v)
theorem kokV (v : Nat) (hv : v < 3) : KOk (kdV v) := by
 rcases (show v = 0 ∨ v = 1 ∨ v = 2 by omega) with rfl | rfl | rfl
 ·exact kokL
 ·exact kokB
 ·exact kokM

def spC (s : Sp) : List Value := [.int .i64 (s.1 : Int), .int .i64 (s.2.1 : Int), .int .i64 (s.2.2 : Int)]
def spL (l : List Sp) : List Value := l.flatMap spC
theorem spL_snoc (l : List Sp) (s : Sp) : spL (l ++ [s]) = spL l ++ spC s := by unfold spL; rw [List.flatMap_append]; simp
theorem spL_at : ∀ (l : List Sp) (k j : Nat) (s : Sp), l[k]? = some s → j < 3 → (spL l)[k * 3 + j]? = (spC s)[j]?
  | [], k, j, s, h, _ => by simp at h
  | x :: l, 0, j, s, h, hj => by
    simp only [List.getElem?_cons_zero, Option.some.injEq] at h
    subst h
    show (spC x ++ spL l)[0 * 3 + j]? = _
    rw [Nat.zero_mul, Nat.zero_add, List.getElem?_append_left (by simp [spC]; omega)]
  | x :: l, k + 1, j, s, h, hj => by
    simp only [List.getElem?_cons_succ] at h
    show (spC x ++ spL l)[(k + 1) * 3 + j]? = _
    rw [List.getElem?_append_right (by simp [spC]; omega), show (k + 1) * 3 + j - (spC x).length = k * 3 + j from by simp [spC]; omega]
    exact spL_at l k j s h hj
/-- A row of steps. -/
structure SpRow (w : World) (v : Value) (l : List Sp) : Prop where
 form : ∃ a cap, v = .slice a l.length cap ∧ (l = [] ∨ ∃ g, a = some ⟨g, 0, none⟩ ∧ g < w.heap.size ∧ ∀ k s, l[k]? = some s → w.cell? ⟨g, k * 3, none⟩ = some (.int .i64 (s.1 : Int)) ∧ w.cell? ⟨g, k * 3 + 1, none⟩ = some (.int .i64 (s.2.1 : Int)) ∧ w.cell? ⟨g, k * 3 + 2, none⟩ = some (.int .i64 (s.2.2 : Int)))
theorem info77s : (Tryz.prog.info? 77).map (fun i => (i.zero, i.size, i.bytes)) = some (some (.agg #[.int .i64 0, .int .i64 0, .int .i64 0]), 3, 24) := by kernel_rfl
theorem run_append_sp (w : World) (base : Nat) (ty : TypeId) (v : Value) (l : List Sp) (s : Sp) (g : Nat) (hown : w.ownsRow base 77 3 v l.length (spL l)) (hb : base ≤ w.heap.size) (hl : l.length ≤ 100000) (hg : w.heap[g]? = some (.cells (spC s).toArray 77 (0, 0))) :
  ∃ v' w', (Builtin.append_ #[73, 73] ty #[v, .slice (some ⟨g, 0, none⟩) 1 1]).run Tryz.prog w = .ok v' w' ∧ w'.ownsRow base 77 3 v' (l.length + 1) (spL (l ++ [s])) ∧ Keep (fun k => v.ownBlock = some k) w w' ∧ (v'.ownBlock = v.ownBlock ∨ v'.ownBlock = some w.heap.size) := by
 obtain ⟨i0, hi, hz0, hz1, hz2⟩ := info_parts info77s
 obtain ⟨v', w', hr, h2, h3, h4, h5⟩ := run_append_own_at (P := Tryz.prog) w base 73 ty 77 i0 (.agg #[.int .i64 0, .int .i64 0, .int .i64 0]) 3 24 Tryz.underlying73 hi hz0 hz1 hz2 rfl (by decide) v l.length (spL l) hown ⟨g, 0, none⟩ 1 1 (spC s) rfl (fun j u hu => by
  rw [add0, cell_of hg, List.getElem?_toArray]
  exact hu) (fun u hu => by
   simp only [spC, List.mem_cons, List.not_mem_nil, or_false] at hu
   rcases hu with rfl | rfl | rfl <;> rfl) (by unfold maxLen; omega) (by omega) hb
 exact ⟨v', w', hr, by rw [spL_snoc]; exact h2, (Keep.refl _ w).grown h3 (fun k e _ => e), h5⟩
def cellL (T : Tb) (s : Nat) : List Value := [.int .u8 ((T.sy s : Nat) : Int), .int .u8 ((T.bi s : Nat) : Int), .int .u16 ((T.ba s : Nat) : Int)]
def AtS (w : World) (atb : Nat) (T : Nat → Tb) (σ : Nat → Nat) (P : Nat → Prop) : Prop := ∃ arr, w.heap[atb]? = some (.cells arr 145 (0, 0)) ∧ arr.size = 9 ∧ ∀ v, v < 3 → P v → ∀ j, j < 3 → arr[v * 3 + j]? = (cellL (T v) (σ v))[j]?
theorem AtS.keep {w w' : World} {S : Nat → Prop} {atb : Nat} {T : Nat → Tb} {σ : Nat → Nat} {P : Nat → Prop} (h : AtS w atb T σ P) (hk : Keep S w w') (hS : ¬ S atb) : AtS w' atb T σ P := by
 obtain ⟨arr, h1, h2, h3⟩ := h
 exact ⟨arr, hk.obj h1 hS, h2, h3⟩
theorem setAll_gt : ∀ (vs : List Value) (o : Nat) (cs : Array Value) (i : Nat), o + vs.length ≤ i → (setAll cs o vs)[i]? = cs[i]?
  | [], _, _, _, _ => rfl
  | v :: vs, o, cs, i, h => by
    simp at h
    rw [setAll, setAll_gt vs (o + 1) _ i (by omega), Array.getElem?_setIfInBounds_ne (by omega)]
theorem AtS.set {w W : World} {atb : Nat} {T : Nat → Tb} {σ : Nat → Nat} {P : Nat → Prop} {arr : Array Value} (h2 : arr.size = 9) (h3 : ∀ v, v < 3 → P v → ∀ j, j < 3 → arr[v * 3 + j]? = (cellL (T v) (σ v))[j]?) (i s : Nat) (hi : i < 3) (hW : W.heap[atb]? = some (.cells (setAll arr (i * 3) (cellL (T i) s)) 145 (0, 0))) : AtS W atb T (updN σ i s) (fun v => P v ∨ v = i) := by
 refine ⟨_, hW, by rw [setAll_size]; exact h2, fun v hv hp j hj => ?_⟩
 by_cases e : v = i
 ·subst e
  rw [updN_self, setAll_at _ _ _ j (by simp [cellL]; omega) (by simp [cellL]; omega)]
 ·rw [show updN σ i s v = σ v from if_neg e]
  have hp' := hp.resolve_right e
  rcases Nat.lt_or_ge v i with q | q
  ·rw [setAll_lt _ _ _ _ (by omega)]; exact h3 v hv hp' j hj
  ·rw [setAll_gt _ _ _ _ (by simp [cellL]; omega)]; exact h3 v hv hp' j hj
theorem AtS.mono {w : World} {atb : Nat} {T : Nat → Tb} {σ : Nat → Nat} {P Q : Nat → Prop} (h : AtS w atb T σ P) (hq : ∀ v, Q v → P v) : AtS w atb T σ Q := by
 obtain ⟨arr, h1, h2, h3⟩ := h
 exact ⟨arr, h1, h2, fun v hv hp => h3 v hv (hq v hp)⟩
theorem ownsK {w w' : World} {S : Nat → Prop} {base e sz : Nat} {v : Value} {n : Nat} {xs : List Value} (h : w.ownsRow base e sz v n xs) (hk : Keep S w w') (hS : ∀ g, v.ownBlock = some g → ¬ S g) : w'.ownsRow base e sz v n xs := by
 refine ⟨h.1, ?_⟩
 rcases h.2 with ⟨e, h0⟩ | ⟨g, cap, cur, rfl, hb, hg, hr⟩
 ·exact .inl ⟨e, h0⟩
 ·exact .inr ⟨g, cap, cur, rfl, hb, hk.obj hg (hS g rfl), hr⟩
theorem owns_lt {w : World} {base e sz : Nat} {v : Value} {n : Nat} {xs : List Value} (h : w.ownsRow base e sz v n xs) {k : Nat} (hk : v.ownBlock = some k) : base ≤ k ∧ k < w.heap.size := by
 rcases h.2 with ⟨rfl, _⟩ | ⟨g, cap, cur, rfl, hb, hg, _⟩
 ·cases hk
 ·obtain rfl : g = k := by simpa [Value.ownBlock] using hk
  exact ⟨hb, obj_lt hg⟩
theorem owns_slice {w : World} {base e sz : Nat} {v : Value} {k : Nat} {xs : List Value} (h : w.ownsRow base e sz v k xs) : ∃ a cp, v = .slice a k cp := by
 rcases h.2 with ⟨e, h0⟩ | ⟨g, cap, cur, e, -⟩
 ·exact ⟨none, 0, by rw [e, h0]⟩
 ·exact ⟨_, _, e⟩
/-- steps under way, since ws: the reader, the states' cells, the steps. -/
structure StS (ws wr : World) (rdb gr atb : Nat) (B : List Nat) (T : Nat → Tb) (r : Rs) (σ : Nat → Nat) (P : Nat → Prop) (v8 : Value) (l : List Sp) : Prop where
 rd : Rq wr rdb gr B r
 at_ : AtS wr atb T σ P
 own : wr.ownsRow ws.heap.size 77 3 v8 l.length (spL l)
 kp : Keep (fun j => j = rdb ∨ j = atb) ws wr
theorem StS.to {ws wr w' : World} {rdb gr atb : Nat} {B : List Nat} {T : Nat → Tb} {r : Rs} {σ : Nat → Nat} {P : Nat → Prop} {v8 : Value} {l : List Sp} (h : StS ws wr rdb gr atb B T r σ P v8 l) (hk : Keep noBlock wr w') : StS ws w' rdb gr atb B T r σ P v8 l :=
 ⟨h.rd.keep hk (fun h => h) (fun h => h), h.at_.keep hk (fun h => h), ownsK h.own hk (fun _ _ h => h), h.kp.trans hk (fun _ _ h => h.elim)⟩
theorem StS.mono {ws wr : World} {rdb gr atb : Nat} {B : List Nat} {T : Nat → Tb} {r : Rs} {σ : Nat → Nat} {P Q : Nat → Prop} {v8 : Value} {l : List Sp} (h : StS ws wr rdb gr atb B T r σ P v8 l) (hq : ∀ v, Q v → P v) : StS ws wr rdb gr atb B T r σ Q v8 l := ⟨h.rd, h.at_.mono hq, h.own, h.kp⟩
/-- The variables that tell the orders. -/
structure Ords (w : World) : Prop where
 e0 : w.cell? ⟨2, 0, none⟩ = some (.int .i64 1) ∧ w.cell? ⟨2, 1, none⟩ = some (.int .i64 2) ∧ w.cell? ⟨2, 2, none⟩ = some (.int .i64 0)
 n0 : w.cell? ⟨3, 0, none⟩ = some (.int .i64 0) ∧ w.cell? ⟨3, 1, none⟩ = some (.int .i64 2) ∧ w.cell? ⟨3, 2, none⟩ = some (.int .i64 1)
theorem keep_cellS {w w' : World} {S : Nat → Prop} (hk : Keep S w w') {b i : Nat} {v : Value} (hS : ¬ S b) (h : w.cell? ⟨b, i, none⟩ = some v) : w'.cell? ⟨b, i, none⟩ = some v :=
 (World.cell?_of_block (hk.block b (World.block_lt_of_cell? w ⟨b, i, none⟩ h) hS)).trans h
theorem Ords.keep {w w' : World} {S : Nat → Prop} (h : Ords w) (hk : Keep S w w') (h2 : ¬ S 2) (h3 : ¬ S 3) : Ords w' :=
 ⟨⟨keep_cellS hk h2 h.e0.1, keep_cellS hk h2 h.e0.2.1, keep_cellS hk h2 h.e0.2.2⟩, ⟨keep_cellS hk h3 h.n0.1, keep_cellS hk h3 h.n0.2.1, keep_cellS hk h3 h.n0.2.2⟩⟩
theorem Ords.lt {w : World} (h : Ords w) : 3 < w.heap.size := World.block_lt_of_cell? w ⟨3, 0, none⟩ h.n0.1
def tabA (T : Nat → Tb) (tg cap : Nat → Nat) : Array Value := #[.slice (some ⟨tg 0, 0, none⟩) (2 ^ (T 0).l) (cap 0), .slice (some ⟨tg 1, 0, none⟩) (2 ^ (T 1).l) (cap 1), .slice (some ⟨tg 2, 0, none⟩) (2 ^ (T 2).l) (cap 2)]
theorem tabA_at (T : Nat → Tb) (tg cap : Nat → Nat) (v : Nat) (hv : v < 3) : (tabA T tg cap)[v]? = some (.slice (some ⟨tg v, 0, none⟩) (2 ^ (T v).l) (cap v)) := by
 rcases (show v = 0 ∨ v = 1 ∨ v = 2 by omega) with rfl | rfl | rfl <;> rfl
/-- What does not change. -/
structure StI (ws : World) (cK g0 g1 g2 tb rdb gr atb : Nat) (T : Nat → Tb) (tg cap : Nat → Nat) : Prop where
 ok : ∀ v, v < 3 → GoodT (kdV v) (T v)
 cods : Cods ws cK g0 g1 g2
 tabs : ∀ v, v < 3 → IsTb ws (tg v) (T v)
 used : ws.heap[tb]? = some (.cells (tabA T tg cap) 109 (0, 0))
 ords : Ords ws
 lt : rdb < ws.heap.size ∧ gr < ws.heap.size ∧ atb < ws.heap.size
 ne : rdb ≠ atb ∧ gr ≠ rdb ∧ gr ≠ atb ∧ tb ≠ rdb ∧ tb ≠ atb ∧ cK ≠ rdb ∧ cK ≠ atb ∧ g0 ≠ rdb ∧ g0 ≠ atb ∧ g1 ≠ rdb ∧ g1 ≠ atb ∧ g2 ≠ rdb ∧ g2 ≠ atb
 tne : ∀ v, v < 3 → tg v ≠ rdb ∧ tg v ≠ atb
 one : 2 ≠ rdb ∧ 2 ≠ atb ∧ 3 ≠ rdb ∧ 3 ≠ atb
theorem StI.now {ws wr : World} {cK g0 g1 g2 tb rdb gr atb : Nat} {T : Nat → Tb} {tg cap : Nat → Nat} (h : StI ws cK g0 g1 g2 tb rdb gr atb T tg cap) (hk : Keep (fun j => j = rdb ∨ j = atb) ws wr) :
  Cods wr cK g0 g1 g2 ∧ (∀ v, v < 3 → IsTb wr (tg v) (T v)) ∧ wr.heap[tb]? = some (.cells (tabA T tg cap) 109 (0, 0)) ∧ Ords wr := by
 obtain ⟨n1, n2, n3, n4, n5, n6, n7, n8, n9, n10, n11, n12, n13⟩ := h.ne
 obtain ⟨o1, o2, o3, o4⟩ := h.one
 exact ⟨h.cods.keep hk (by omega) (by omega) (by omega) (by omega), fun v hv => (h.tabs v hv).keep hk (by have := h.tne v hv; omega), hk.obj h.used (by omega), h.ords.keep hk (by omega) (by omega)⟩
theorem StS.bits {ws wr : World} {rdb gr atb : Nat} {B : List Nat} {T : Nat → Tb} {r : Rs} {σ : Nat → Nat} {P : Nat → Prop} {v8 : Value} {l : List Sp} {m : Nat} (h : StS ws wr rdb gr atb B T r σ P v8 l) (hm : m ≤ 56) (hl : rdb < ws.heap.size) (hne : rdb ≠ atb) :
  Calls Tryz.prog 68 #[.pointer (some ⟨rdb, 0, none⟩), .int .i64 (m : Int)] wr fun e w' => e = .returned (.int .u64 ((r.val B m : Nat) : Int)) ∧ StS ws w' rdb gr atb B T (r.go m) σ P v8 l ∧ Keep (fun j => j = rdb) wr w' := by
 refine (h.rd.bits hm).mono ?_
 rintro e w' ⟨rfl, q1, q2⟩
 exact ⟨rfl, ⟨q1, h.at_.keep q2 (fun e => hne e.symm), ownsK h.own q2 (fun g e1 e2 => by have := (owns_lt h.own e1).1; omega), h.kp.trans q2 (fun _ _ e => .inl e)⟩, q2⟩
theorem StS.put {ws wr W : World} {rdb gr atb : Nat} {B : List Nat} {T : Nat → Tb} {r : Rs} {σ : Nat → Nat} {P : Nat → Prop} {v8 : Value} {l : List Sp} (h : StS ws wr rdb gr atb B T r σ P v8 l) {arr : Array Value} (h1 : wr.heap[atb]? = some (.cells arr 145 (0, 0))) (i s : Nat) (hi : i < 3) (hW : W.heap[atb]? = some (.cells (setAll arr (i * 3) (cellL (T i) s)) 145 (0, 0))) (hk : Keep (fun j => j = atb) wr W) (hl : atb < ws.heap.size) (hne : rdb ≠ atb) (hgr : gr ≠ atb) :
  StS ws W rdb gr atb B T r (updN σ i s) (fun v => P v ∨ v = i) v8 l := by
 obtain ⟨arr', a1, a2, a3⟩ := h.at_
 rw [h1] at a1
 cases a1
 exact ⟨h.rd.keep hk hne hgr, AtS.set (w := wr) a2 a3 i s hi hW, ownsK h.own hk (fun g e1 e2 => by have := (owns_lt h.own e1).1; omega), h.kp.trans hk (fun _ _ e => .inr e)⟩
theorem index_tab (T : Nat → Tb) (tg cap : Nat → Nat) (v : Nat) (hv : v < 3) (W : World) : (Instr.index 109 (.agg (tabA T tg cap)) (.int .i64 (v : Int))).run Tryz.prog W = .ok (.slice (some ⟨tg v, 0, none⟩) (2 ^ (T v).l) (cap v)) W := by
 rcases (show v = 0 ∨ v = 1 ∨ v = 2 by omega) with rfl | rfl | rfl <;> kernel_rfl
theorem info130s : (Tryz.prog.info? 130).map (·.size) = some 3 := by kernel_rfl
theorem cellL_one (T : Tb) (s : Nat) : ∀ v ∈ cellL T s, v.oneCell' = true := by
 intro v hv
 simp only [cellL, List.mem_cons, List.not_mem_nil, or_false] at hv
 rcases hv with rfl | rfl | rfl <;> rfl
theorem index_eo (i : Nat) (hi : i < 3) (W : World) : (Instr.index 39 (.agg #[.int .i64 1, .int .i64 2, .int .i64 0]) (.int .i64 (i : Int))).run Tryz.prog W = .ok (.int .i64 ((eo i : Nat) : Int)) W := by
 rcases (show i = 0 ∨ i = 1 ∨ i = 2 by omega) with rfl | rfl | rfl <;> kernel_rfl
theorem index_no (i : Nat) (hi : i < 3) (W : World) : (Instr.index 39 (.agg #[.int .i64 0, .int .i64 2, .int .i64 1]) (.int .i64 (i : Int))).run Tryz.prog W = .ok (.int .i64 ((no i : Nat) : Int)) W := by
 rcases (show i = 0 ∨ i = 1 ∨ i = 2 by omega) with rfl | rfl | rfl <;> kernel_rfl
end Go.Proofs.YtnjilcokkhodmaaGreatDoor
