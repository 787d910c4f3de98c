/-
  steps: the steps that a section's tail tells.
-/
import Derived.Test.YtgaepmmpedaaiaaGreatDoorBackQ17
namespace Go.Proofs.YtgaepmmpedaaiaaGreatDoor
open Go.RowKit Go.Shelf
set_option linter.unusedVariables false

theorem index_used (R : Nat → RowP) (tg cap : Nat → Nat) (v : Nat) (hv : v < 3) (W : World) : (Instr.index 30 (.agg (usedA R tg cap 3)) (.int .i64 (v : Int))).run Tryz.prog W = .ok (.slice (some ⟨tg v, 0, none⟩) (2 ^ (R v).T.l) (cap v)) W := by
  rcases (show v = 0 ∨ v = 1 ∨ v = 2 by omega) with rfl | rfl | rfl <;> kernel_rfl
theorem info79s : (Tryz.prog.info? 79).map (·.size) = some 3 := by kernel_rfl
theorem info103s : (Tryz.prog.info? 103).map (·.size) = some 9 := by kernel_rfl
theorem cellL_one (T : Tb) (s : Nat) : ∀ v ∈ cellL T s, v.oneCell' = true := by
  intro v hv
  simp only [cellL, List.mem_cons, List.not_mem_nil, or_false] at hv
  rcases hv with rfl | rfl | rfl <;> rfl
theorem AtS.mono {w : World} {atb : Nat} {R : Nat → RowP} {σ : Nat → Nat} {P Q : Nat → Prop} (h : AtS w atb R σ P) (hq : ∀ v, Q v → P v) : AtS w atb R σ Q := by
  obtain ⟨arr, h1, h2, h3⟩ := h
  exact ⟨arr, h1, h2, fun v hv hp => h3 v hv (hq v hp)⟩
theorem StS.mono {ws wr : World} {rdb gr atb : Nat} {t : Tri} {A : List (Fin 2)} {σ : Nat → Nat} {P Q : Nat → Prop} {v8 : Value} {k : Nat} (h : StS ws wr rdb gr atb t A σ P v8 k) (hq : ∀ v, Q v → P v) : StS ws wr rdb gr atb t A σ Q v8 k := ⟨h.rd, h.at_.mono hq, h.own, h.kp⟩
/-- A state's cells are stored. -/
theorem StS.put {ws wr W : World} {rdb gr atb : Nat} {t : Tri} {A : List (Fin 2)} {σ : Nat → Nat} {P : Nat → Prop} {v8 : Value} {k : Nat} (h : StS ws wr rdb gr atb t A σ P v8 k) {arr : Array Value} (h1 : wr.heap[atb]? = some (.cells arr 103 (0, 0))) (i s : Nat) (hi : i < 3) (hW : W.heap[atb]? = some (.cells (setAll arr (i * 3) (cellL (t.R i).T s)) 103 (0, 0))) (hk : Keep (fun j => j = atb) wr W) (hl : atb < ws.heap.size) (hne : rdb ≠ atb) (hgr : gr ≠ atb) :
    StS ws W rdb gr atb t A (updN σ i s) (fun v => P v ∨ v = i) v8 k := by
  obtain ⟨arr', a1, a2, a3⟩ := h.at_
  rw [h1] at a1
  cases a1
  exact ⟨h.rd.keep hk hne hgr, AtS.set (w := wr) a2 a3 i s hi hW, ownsK h.own hk (fun g e1 e2 => by have := (owns_lt h.own e1).1; omega), h.kp.trans hk (fun _ _ e => .inr e)⟩
def StpPost (w : World) (t : Tri) (e : Ending) (w' : World) : Prop :=
  ∃ (g cap : Nat), e = .returned (.tuple #[.slice (some ⟨g, 0, none⟩) t.n cap, .bool true]) ∧ Seqs w' (some ⟨g, 0, none⟩) cap g 0 (stepsT t t.n) ∧ w.heap.size ≤ g ∧ Keep noBlock w w'

theorem index_ext (i : Nat) (hi : i < 3) (W : World) : (Instr.index 80 (.agg #[.int .i64 1, .int .i64 2, .int .i64 0]) (.int .i64 (i : Int))).run Tryz.prog W = .ok (.int .i64 ((eOrd (2 - i) : Nat) : Int)) W := by
  rcases (show i = 0 ∨ i = 1 ∨ i = 2 by omega) with rfl | rfl | rfl <;> kernel_rfl
theorem index_nxt (i : Nat) (hi : i < 3) (W : World) : (Instr.index 80 (.agg #[.int .i64 0, .int .i64 2, .int .i64 1]) (.int .i64 (i : Int))).run Tryz.prog W = .ok (.int .i64 ((nOrd (2 - i) : Nat) : Int)) W := by
  rcases (show i = 0 ∨ i = 1 ∨ i = 2 by omega) with rfl | rfl | rfl <;> kernel_rfl
theorem owns_slice {w : World} {base : Nat} {v : Value} {k : Nat} {xs : List Value} (h : w.ownsRow base 42 3 v k xs) : ∃ a cp, v = .slice a k cp := by
  rcases h.2 with ⟨e, h0⟩ | ⟨g, cap, cur, e, -⟩
  · exact ⟨none, 0, by rw [e, h0]⟩
  · exact ⟨_, _, e⟩
set_option maxRecDepth 100000 in
set_option maxHeartbeats 16000000 in
theorem steps_any (w : World) (sb g cK g0 g1 g2 : Nat) (t : Tri) (tg cap : Nat → Nat) (hS : Sec w sb g (pack (tlAll t ++ [1]))) (hC : Cods w cK g0 g1 g2) (hT : ∀ v, v < 3 → IsTb w (tg v) (t.R v).T) (ok : TriOk t) (hO : Ords w) :
    Calls Tryz.prog 18 #[.pointer (some ⟨sb, 0, none⟩), .int .i64 (t.n : Int), .pointer (some ⟨cK, 0, none⟩), .agg (usedA t.R tg cap 3)] w fun e w' => StpPost w t e w' := by
  obtain ⟨n, hn⟩ : ∃ n, n = t.n := ⟨_, rfl⟩
  have hn1 := ok.pos
  have hn2 := ok.le
  have hnI : (n : Int) ≤ 65535 := by omega
  have hlen : (tlAll t).length ≤ 10000000 := by
    have e1 := ok.tl_le t.n (Nat.le_refl _)
    have e2 := ok.fs_le 3
    unfold tlAll
    rw [List.length_append]
    omega
  obtain ⟨sa, scap, soff, s1, s2, s3⟩ := hS
  have hpl : (pack (tlAll t ++ [1])).length = ((tlAll t).length + 8) / 8 := by rw [pack_length, List.length_append]; rfl
  obtain rfl := s2.at_.resolve_right (fun e => by rw [e, List.length_nil] at hpl; omega)
  obtain ⟨tb, htb⟩ : ∃ tb, tb = w.heap.size := ⟨_, rfl⟩
  obtain ⟨W0, hW0⟩ : ∃ W0, W0 = w.alloc (.cells (usedA t.R tg cap 3) 30) := ⟨_, rfl⟩
  have k0 : Keep noBlock w W0 := by rw [hW0]; exact (Keep.refl _ w).alloc _
  have otb : W0.heap[tb]? = some (.cells (usedA t.R tg cap 3) 30 (0, 0)) := by rw [hW0, htb]; exact alloc_new w _
  obtain ⟨N, hN⟩ : ∃ N, N = (pack (tlAll t ++ [1])).length := ⟨_, rfl⟩
  have c1 : W0.cell? ⟨sb, 0, none⟩ = some (.slice (some ⟨g, soff, none⟩) N scap) := by rw [hN]; exact cell_of (k0.obj s1 (fun h => h)) 0
  have HNw := (show Hid (Calls Tryz.prog 33 #[.slice (some ⟨g, soff, none⟩) N scap] W0 fun e w' => ∃ rb gr, e = .returned (.tuple #[.pointer (some ⟨rb, 0, none⟩), .int .i64 0]) ∧ Hid (W0.heap.size ≤ rb ∧ W0.heap.size ≤ gr ∧ TAt w' rb gr (tlAll t) (tlAll t) ∧ Keep noBlock W0 w' ∧ gr ≠ rb)) from by
    obtain ⟨k, hk⟩ : ∃ k, N = k + 1 := ⟨N - 1, by omega⟩
    have hkl : (pack (tlAll t ++ [1])).length = k + 1 := by omega
    have := Tl.new_mark g soff scap k _ (pack (tlAll t ++ [1])) hkl (by omega) (pack_lt _) W0 rfl (by have := Tl.mark_ne (tlAll t); rwa [hkl] at this) (s2.keep k0 (fun _ h => h)).cells
    rw [← hk] at this
    refine this.mono ?_
    rintro e w' ⟨rb, gr, rfl, q1, q2, q3, q4⟩
    rw [Tl.tailLen_mark] at q3
    exact ⟨rb, gr, rfl, q1, q2, ⟨q3, [], by simp⟩, q4, q3.ne (fun e => by rw [e] at hkl; simp at hkl)⟩)
  have HH := (show Hid (Cods w cK g0 g1 g2 ∧ (∀ v, v < 3 → IsTb w (tg v) (t.R v).T) ∧ TriOk t ∧ Ords w ∧ Keep noBlock w W0 ∧ W0.heap[tb]? = some (.cells (usedA t.R tg cap 3) 30 (0, 0)) ∧ tb = w.heap.size ∧ n = t.n) from ⟨hC, hT, ok, hO, k0, otb, htb, hn⟩)
  have HZ := (show Hid (∀ W, Keep noBlock W0 W → W.heap[tb]? = some (.cells (usedA t.R tg cap 3) 30 (0, 0))) from fun W hk => hk.obj otb (fun h => h))
  obtain ⟨U, hU⟩ : ∃ U, U = usedA t.R tg cap 3 := ⟨_, rfl⟩
  have hU3 : U.size = 3 := by rw [hU]; rfl
  have HU := hid (show (Tryz.prog.info? 30).map (·.size) = some U.size from by rw [hU3]; kernel_rfl)
  have hix := fun v hv W => index_used t.R tg cap v hv W
  rw [← hU] at hW0 HZ hix ⊢
  have hUo : U.all (·.oneCell') = true := by rw [hU]; exact all_oneCell_toArray (fun v hv => by simp only [List.mem_cons, List.not_mem_nil, or_false] at hv; rcases hv with rfl | rfl | rfl <;> rfl)
  rw [← hn] at hn1 hn2 ⊢
  have HIX := (show Hid (∀ v : Nat, v < 3 → ∀ W : World, (Instr.index 30 (.agg U) (.int .i64 (v : Int))).run Tryz.prog W = .ok (.slice (some ⟨tg v, 0, none⟩) (2 ^ (t.R v).T.l) (cap v)) W) from hix)
  clear hC hT ok hO k0 otb hn s1 s2 s3 hpl hN hlen hU hU3 hix
  go_enter Tryz.func18, Tryz.ntmps18
  go_wp2_with fail
  rw [← hW0, ← htb]
  clear hW0 htb
  refine wp_scope_straight ?_
  go_wp2_with fail
  refine HNw.out.mono ?_
  rintro e w1 ⟨rdb, gr, rfl, HX1⟩
  clear HNw c1
  have HZ9 := (show Hid (∀ Z : Array Value, (w1.alloc (.cells Z 103)).heap[tb]? = some (.cells U 30 (0, 0))) from fun Z => HZ.out _ (HX1.out.2.2.2.1.alloc _))
  go_wp2_with (refine wpList_load_row rfl 30 (.tmp 7) rfl tb rfl 30 U (0, 0) _ (HZ9.out _) Tryz.underlying30 rfl HU.out ?_)
  obtain ⟨ws, hws⟩ : ∃ ws, ws = w1.alloc (.cells #[.int .u8 0, .int .u8 0, .int .u16 0, .int .u8 0, .int .u8 0, .int .u16 0, .int .u8 0, .int .u8 0, .int .u16 0] 103) := ⟨_, rfl⟩
  obtain ⟨atb, hatb⟩ : ∃ atb, atb = w1.heap.size := ⟨_, rfl⟩
  rw [← hws, ← hatb]
  have H0 := (show Hid (StI ws sb cK g0 g1 g2 tb rdb gr atb t tg cap ∧ StS ws ws rdb gr atb t (tlD t n ++ fsB t 3) (fun _ => 0) (fun _ => False) (.slice none 0 0) 0 ∧ Keep noBlock w ws ∧ w.heap.size ≤ rdb ∧ w.heap.size ≤ atb) from by
    obtain ⟨y1, y2, y3, y4, y5, y6, y7, y8⟩ := HH.out
    obtain ⟨x1, x2, x3, x4, x5⟩ := HX1.out
    have ka : Keep noBlock w1 ws := by rw [hws]; exact (Keep.refl _ w1).alloc _
    have kw := (y5.trans' x4).trans' ka
    have l1 := obj_lt y6
    have l2 := x4.size
    have l3 : w1.heap.size < ws.heap.size := by rw [hws]; simp
    have r1 : rdb < w1.heap.size := by obtain ⟨sa, cp, -, h⟩ := x3.1.obj; exact obj_lt h
    have r2 : gr < w1.heap.size := x3.1.lt
    have z0 := y1.cl.lt
    have z1 := y1.cl.gt
    have z2 := y1.cb.gt
    have z3 := y1.cm.gt
    have z4 := World.block_lt_of_cell? w _ (y4.ext 0 (by omega))
    have z5 := World.block_lt_of_cell? w _ (y4.nxt 0 (by omega))
    dsimp only at z4 z5
    have l4 := y5.size
    refine ⟨⟨y3, y1.keep kw (fun h => h) (fun h => h) (fun h => h) (fun h => h), fun v hv => (y2 v hv).keep kw (fun h => h), (x4.trans' ka).obj y6 (fun h => h), y4.keep kw, by omega, by omega, fun v hv => by have := (y2 v hv).lt; omega, by omega⟩, ⟨?_, ⟨_, by rw [hws, hatb]; exact alloc_new w1 _, rfl, fun v hv hp => hp.elim⟩, World.ownsRow_nil _ _ _ _, Keep.refl _ _⟩, kw, by omega, by omega⟩
    have := x3.keep ka (fun h => h) (fun h => h)
    rw [show tlD t n ++ fsB t 3 = tlAll t from by rw [y8]; rfl]
    exact this)
  have HI := hid H0.out.1
  have HS0 := hid H0.out.2.1
  have HKW := hid H0.out.2.2
  clear HZ9 HX1 hws hatb H0 HZ
  go_loopw [32] (fun v32 wr => ∃ i : Nat, v32 = .int .i64 (i : Int) ∧ i ≤ 3 ∧ Hid (∃ σ : Nat → Nat, (∀ v, v < i → σ v = (t.R v).f 0) ∧ StS ws wr rdb gr atb t (tlD t n ++ fsB t (3 - i)) σ (fun v => v < i) (.slice none 0 0) 0)) (fun v32 _ => 3 - (intOf v32).toNat)
  case atStart => exact ⟨0, rfl, by omega, fun _ => 0, fun v hv => by omega, HS0.out.mono (fun v hv => by omega)⟩
  case round =>
    clear HS0
    obtain ⟨i, rfl, hi, HC⟩ := hrel
    by_cases hlt : i < 3
    · have hiI : (i : Int) < 3 := by omega
      have hix := HIX.out i hlt
      obtain ⟨σ, hσ, hS⟩ := HC.out
      have hI := HI.out
      have hR := hI.ok.row i hlt
      have hl9 := hR.tb.hl
      have hp12 := pow12 (show (t.R i).T.l ≤ 12 by omega)
      have hst := (hR.path.st 0 (Nat.zero_le _) (by rw [hI.ok.len i hlt]; exact hI.ok.pos)).1
      have HLg := (show Hid (∀ W : World, _) from fun W => logOf_any (some ⟨tg i, 0, none⟩) (2 ^ (t.R i).T.l) (t.R i).T.l (cap i) rfl (by omega) W)
      rw [show 3 - i = (2 - i) + 1 from by omega, show fsB t (2 - i + 1) = fsB t (2 - i) ++ firstB (t.R (2 - (2 - i))) from rfl, show 2 - (2 - i) = i from by omega, ← List.append_assoc] at hS
      obtain ⟨x, hx⟩ : ∃ x, x = (t.R i).f 0 := ⟨_, rfl⟩
      rw [show firstB (t.R i) = low x (t.R i).T.l from by unfold firstB; rw [← hx]] at hS
      rw [← hx] at hst
      have hbt := hS.bits hst (by omega) hI.lt.1 hI.ne.1
      obtain ⟨l, hl⟩ : ∃ l, l = (t.R i).T.l := ⟨_, rfl⟩
      obtain ⟨q, hq⟩ : ∃ q, q = 2 ^ (t.R i).T.l := ⟨_, rfl⟩
      rw [← hl] at hbt HLg hl9
      rw [← hq] at hix hp12 hst
      have hlq : 2 ^ l = q := by rw [hl, hq]
      rw [hlq] at HLg
      have HB := hid hbt
      have HX := hid (And.intro hx (And.intro hσ hq))
      have hxI : (x : Int) < (q : Int) := by omega
      clear hσ hS hI hR hx hl hq hbt HC hlq
      go_wp2_with fail
      refine (HLg.out _).mono ?_
      rintro e w5 ⟨rfl, rfl⟩
      clear HLg
      go_wp2_with fail
      refine HB.out.mono ?_
      rintro e w6 ⟨rfl, q1, q2⟩
      obtain ⟨n1, n2, n3, n4⟩ := HI.out.now q1.kp
      obtain ⟨d1, d2, d3⟩ := (n2 i hlt).cells x (by rw [← HX.out.2.2]; exact hst)
      obtain ⟨arr, a1, a2, a3⟩ := q1.at_
      obtain ⟨S, hS⟩ : ∃ S, S = (t.R i).T.sy x := ⟨_, rfl⟩
      obtain ⟨B, hB⟩ : ∃ B, B = (t.R i).T.bi x := ⟨_, rfl⟩
      obtain ⟨A, hA⟩ : ∃ A, A = (t.R i).T.ba x := ⟨_, rfl⟩
      have hcl : cellL (t.R i).T x = [.int .u8 (S : Int), .int .u8 (B : Int), .int .u16 (A : Int)] := by unfold cellL; rw [← hS, ← hB, ← hA]
      rw [← hS] at d1
      rw [← hB] at d2
      rw [← hA] at d3
      have HQ := hid (And.intro q1 (And.intro a1 hcl))
      have HA1 := hid a1
      have HA2 := hid a2
      have HO := hid (show ∀ v ∈ ([.int .u8 (S : Int), .int .u8 (B : Int), .int .u16 (A : Int)] : List Value), v.oneCell' = true from by rw [← hcl]; exact cellL_one _ _)
      have HLe := hid (show i * 3 + 3 ≤ 9 by omega)
      clear q1 q2 n1 n2 n3 n4 a1 a2 a3 hS hB hA hcl HB
      go_wp2_with (refine wpList_store_obj _ rfl 79 (.tmp 44) (.tmp 43) rfl atb (i * 3) 103 3 9 arr [.int .u8 (S : Int), .int .u8 (B : Int), .int .u16 (A : Int)] _ rfl HA2.out rfl rfl rfl HA1.out HLe.out info79s HO.out ?_; intro W1 p1 p2 p3)
      have HN := (show Hid (∃ σ : Nat → Nat, (∀ v, v < i + 1 → σ v = (t.R v).f 0) ∧ StS ws W1 rdb gr atb t (tlD t n ++ fsB t (3 - (i + 1))) σ (fun v => v < i + 1) (.slice none 0 0) 0) from by
        obtain ⟨q1, a1, hcl⟩ := HQ.out
        have hI := HI.out
        refine ⟨updN σ i x, fun v hv => ?_, ?_⟩
        · by_cases e : v = i
          · rw [e, updN_self]; exact HX.out.1
          · rw [updN_lt σ i x v (by omega)]; exact HX.out.2.1 v (by omega)
        · rw [show 3 - (i + 1) = 2 - i from by omega]
          exact (q1.put a1 i x hlt (by rw [hcl]; exact p1) p2 hI.lt.2.2 hI.ne.1 hI.ne.2.2.1).mono (fun v hv => by omega))
      clear p1 p2 p3 HQ HX HA1 HA2 d1 d2 d3
      go_wp2_with fail
      go_roundw
      case rel => exact ⟨i + 1, by go_num, by omega, HN.out⟩
      case measure => simp [intOf]; omega
    · obtain rfl : i = 3 := by omega
      rw [show (((3 : Nat) : Int)) = (3 : Int) from rfl]
      have HS := (show Hid (∃ σ : Nat → Nat, (∀ v, v < 3 → σ v = (t.R v).f 0) ∧ StS ws wr rdb gr atb t (tlD t (n - 0)) σ (fun v => v < 3) (.slice none 0 0) 0) from by
        obtain ⟨σ, h1, h2⟩ := HC.out
        rw [Nat.sub_self, show fsB t 0 = [] from rfl, List.append_nil] at h2
        exact ⟨σ, h1, h2⟩)
      clear HC
      go_wp2_with fail
      refine wp_label ?_
      go_wp2_with fail
      obtain ⟨wA, hwA⟩ : ∃ wA, wA = wr := ⟨_, rfl⟩
      rw [← hwA] at HS ⊢
      clear hwA
      go_loopw [8] (fun v8 wr => ∃ k : Nat, sliceLen v8 = k ∧ k < n ∧ Hid (∃ σ : Nat → Nat, (∀ v, v < 3 → σ v = (t.R v).f k) ∧ StS ws wr rdb gr atb t (tlD t (n - k)) σ (fun v => v < 3) v8 k)) (fun v8 _ => n - sliceLen v8)
      case atStart => exact ⟨0, rfl, by omega, HS.out⟩
      case round =>
        clear HS
        obtain ⟨k, hsl, hk, HK⟩ := hrel
        obtain ⟨σ, hσ, hS⟩ := HK.out
        obtain ⟨la, lcp, rfl⟩ := owns_slice hS.own
        obtain ⟨n1, n2, n3, n4⟩ := HI.out.now hS.kp
        obtain ⟨td, htd⟩ : ∃ td, td = wr.heap.size := ⟨_, rfl⟩
        obtain ⟨W2, hW2⟩ : ∃ W2, W2 = wr.alloc (.cells #[.int .i64 0, .int .i64 0, .int .i64 0] 80) := ⟨_, rfl⟩
        have k2 : Keep noBlock wr W2 := by rw [hW2]; exact (Keep.refl _ wr).alloc _
        have e0 : (wr.alloc (.cells #[.int .i64 0, .int .i64 0, .int .i64 0] 80)).cell? ⟨0, 0, none⟩ = some (.int .i64 1) := by rw [← hW2]; exact (n4.keep k2).ext 0 (by omega)
        have e1 : (wr.alloc (.cells #[.int .i64 0, .int .i64 0, .int .i64 0] 80)).cell? ⟨0, 1, none⟩ = some (.int .i64 2) := by rw [← hW2]; exact (n4.keep k2).ext 1 (by omega)
        have e2 : (wr.alloc (.cells #[.int .i64 0, .int .i64 0, .int .i64 0] 80)).cell? ⟨0, 2, none⟩ = some (.int .i64 0) := by rw [← hW2]; exact (n4.keep k2).ext 2 (by omega)
        have HS2 := (show Hid ((∀ v, v < 3 → σ v = (t.R v).f k) ∧ StS ws W2 rdb gr atb t (tlN t k ++ stB t k 3) σ (fun v => v < 3) (.slice la k lcp) k ∧ W2.heap[td]? = some (.cells #[.int .i64 0, .int .i64 0, .int .i64 0] 80 (0, 0)) ∧ ws.heap.size ≤ td ∧ ∀ q, (Value.slice la k lcp).ownBlock = some q → q ≠ td) from by
          have h1 := hS.to k2
          have y8 := HH.out.2.2.2.2.2.2.2
          rw [y8, tlD_step t k (by omega)] at h1
          exact ⟨hσ, h1, by rw [hW2, htd]; exact alloc_new wr _, by rw [htd]; exact hS.kp.size, fun q e => by have := (owns_lt hS.own e).2; omega⟩)
        have HTD := hid htd
        have HW2 := hid hW2
        clear hσ hS n1 n2 n3 n4 k2 htd hW2 HK hsl
        go_wp2_with fail
        rw [← HW2.out, ← HTD.out]
        clear HW2 HTD e0 e1 e2
        obtain ⟨wB, hwB⟩ : ∃ wB, wB = W2 := ⟨_, rfl⟩
        rw [← hwB] at HS2 ⊢
        clear hwB
        go_loopw [47] (fun v47 wr => ∃ i : Nat, v47 = .int .i64 (i : Int) ∧ i ≤ 3 ∧ Hid (∃ τ : Nat → Nat, (∀ j, j < i → τ (eOrd (2 - j)) = t.x (eOrd (2 - j)) k) ∧ wr.heap[td]? = some (.cells #[.int .i64 ((τ 0 : Nat) : Int), .int .i64 ((τ 1 : Nat) : Int), .int .i64 ((τ 2 : Nat) : Int)] 80 (0, 0)) ∧ StS ws wr rdb gr atb t (tlN t k ++ stB t k (3 - i)) σ (fun v => v < 3) (.slice la k lcp) k)) (fun v47 _ => 3 - (intOf v47).toNat)
        case atStart => exact ⟨0, rfl, by omega, fun _ => 0, fun j hj => by omega, HS2.out.2.2.1, HS2.out.2.1⟩
        case round =>
          obtain ⟨i, rfl, hi, HC⟩ := hrel
          by_cases hlt : i < 3
          · have hiI : (i : Int) < 3 := by omega
            have hix := index_ext i hlt
            obtain ⟨τ, hτ, htd, hS⟩ := HC.out
            have hI := HI.out
            have hv3 := eOrd_lt (2 - i)
            obtain ⟨v, hv⟩ : ∃ v, v = eOrd (2 - i) := ⟨_, rfl⟩
            rw [← hv] at hix hv3
            have hv3I : (v : Int) < 3 := by omega
            have hkn : k < t.n := by rw [← HH.out.2.2.2.2.2.2.2]; exact hk
            rw [show 3 - i = (2 - i) + 1 from by omega, show stB t k (2 - i + 1) = stB t k (2 - i) ++ extV t k (eOrd (2 - i)) from rfl, ← hv, ← List.append_assoc] at hS
            obtain ⟨W5, hW5⟩ : ∃ W5, W5 = wr.drew := ⟨_, rfl⟩
            have k5 : Keep noBlock wr W5 := by rw [hW5]; exact (Keep.refl _ wr).drew
            have hS5 := hS.to k5
            obtain ⟨arr, a1, a2, a3⟩ := hS5.at_
            have hst := (hI.ok.row v hv3).path.st k (Nat.zero_le _) (by rw [hI.ok.len v hv3]; exact hkn)
            obtain ⟨c, hc⟩ : ∃ c, c = (t.c v)[k]?.getD 0 := ⟨_, rfl⟩
            rw [← hc] at hst
            have g1' : W5.cell? ⟨atb, v * 3, none⟩ = some (.int .u8 (c : Int)) := by
              have := a3 v hv3 hv3 0 (by omega)
              rw [Nat.add_zero, HS2.out.1 v hv3] at this
              rw [cell_of a1, this]
              show some (Value.int .u8 (((t.R v).T.sy ((t.R v).f k) : Nat) : Int)) = _
              rw [hst.2]
            obtain ⟨tl1, tl2⟩ := hI.ok.tells v hv3 k hkn
            obtain ⟨x, hx⟩ : ∃ x, x = t.x v k := ⟨_, rfl⟩
            rw [← hx, ← hc] at tl1
            rw [← hx] at tl2
            have hyl := tl1.lt (kokV v) tl2
            rw [show extV t k v = low (x - (kdV v).lst c) ((kdV v).ext c) from by unfold extV; rw [← hx, ← hc]] at hS5
            have htop := top_le v
            obtain ⟨m1, m2, m3, m4⟩ := hI.now hS5.kp
            obtain ⟨gk, hcod⟩ := m1.at_ v hv3
            have htd5 := k5.obj htd (fun h => h)
            have HRd := (show Hid (Calls Tryz.prog 36 #[.pointer (some ⟨cK, v * 110, none⟩), .pointer (some ⟨rdb, 0, none⟩), .int .u8 (c : Int)] W5 fun e w7 => e = .returned (.int .i64 (x : Int)) ∧ Hid (∃ τ : Nat → Nat, (∀ j, j < i + 1 → τ (eOrd (2 - j)) = t.x (eOrd (2 - j)) k) ∧ (w7.setCell ⟨td, v, none⟩ (.int .i64 (x : Int))).heap[td]? = some (.cells #[.int .i64 ((τ 0 : Nat) : Int), .int .i64 ((τ 1 : Nat) : Int), .int .i64 ((τ 2 : Nat) : Int)] 80 (0, 0)) ∧ StS ws (w7.setCell ⟨td, v, none⟩ (.int .i64 (x : Int))) rdb gr atb t (tlN t k ++ stB t k (3 - (i + 1))) σ (fun v => v < 3) (.slice la k lcp) k) ∧
                w7.cell? ⟨atb, v * 3, none⟩ = some (.int .u8 (c : Int)) ∧ w7.cell? ⟨td, v, none⟩ = some (.int .i64 ((τ v : Nat) : Int)) ∧ w7.frozen? ⟨td, v, none⟩ = false) from by
              have hrd := read_any cK (v * 110) gk rdb gr (kdV v) c (x - (kdV v).lst c) _ _ W5 hcod tl1.1 hS5.rd hyl hI.ne.2.2.2.2.2.1
              rw [show (kdV v).lst c + (x - (kdV v).lst c) = x from by have := tl1.2.1; omega] at hrd
              refine hrd.mono ?_
              rintro e w7 ⟨rfl, r1, r2⟩
              have hlt := hI.lt
              have hne := hI.ne
              have htl := HS2.out.2.2.2.1
              have o7 := r2.obj htd5 (by omega)
              have k8 : Keep (fun j => j = td) w7 (w7.setCell ⟨td, v, none⟩ (.int .i64 (x : Int))) := (Keep.refl (fun j => j = td) w7).setCell (p := ⟨td, v, none⟩) (fun _ => rfl) _
              have hS7 : StS ws w7 rdb gr atb t (tlN t k ++ stB t k (2 - i)) σ (fun v => v < 3) (.slice la k lcp) k := ⟨r1, hS5.at_.keep r2 (by omega), ownsK hS5.own r2 (fun g e1 e2 => by have := (owns_lt hS5.own e1).1; omega), hS5.kp.trans r2 (fun _ _ e => .inl e)⟩
              refine ⟨rfl, ⟨updN τ v x, fun j hj => ?_, ?_, ?_⟩, ?_, ?_, frozen_of o7 v⟩
              · by_cases e : eOrd (2 - j) = v
                · rw [e, updN_self, hx]
                · rw [show updN τ v x (eOrd (2 - j)) = τ (eOrd (2 - j)) from if_neg e]
                  exact hτ j (by
                    rcases Nat.lt_or_ge j i with q | q
                    · exact q
                    · exact absurd (show eOrd (2 - j) = v from by rw [hv, show j = i from by omega]) e)
              · rw [set_obj o7]
                rcases (show v = 0 ∨ v = 1 ∨ v = 2 by omega) with h0 | h0 | h0 <;> rw [h0] <;> rfl
              · rw [show 3 - (i + 1) = 2 - i from by omega]
                exact ⟨hS7.rd.keep k8 (by omega) (by omega), hS7.at_.keep k8 (by omega), ownsK hS7.own k8 (fun g e1 e2 => HS2.out.2.2.2.2 g e1 e2), hS7.kp.trans k8 (fun j hj e => by omega)⟩
              · exact keep_cellS r2 (by omega) g1'
              · rw [cell_of o7]
                rcases (show v = 0 ∨ v = 1 ∨ v = 2 by omega) with h0 | h0 | h0 <;> rw [h0] <;> rfl)
            have HW5 := hid hW5
            clear hτ htd hS hI hv hW5 k5 hS5 a1 a2 a3 hst hc tl1 tl2 hx hyl htop m1 m2 m3 m4 hcod htd5 HC hkn
            go_wp2_with fail
            refine region_last (fun W => W.cell? ⟨atb, v * 3, none⟩ = some (.int .u8 (c : Int))) 12 mx (by rw [← HW5.out]; exact g1') (fun hS => ?_)
            refine last_take (i := 0) (v := ?_) rfl (by kernel_rfl) (by kernel_rfl) (by kernel_rfl) (by kernel_rfl) (fun _ _ _ h => h) (Or.inl ⟨by rfl, ?_⟩) (by assumption) ?_
            rotate_left 1
            · intro w hSw; (try dsimp only at hSw); (go_simp <;> with_reducible rfl)
            simp only [Act.put, List.getElem_toArray, List.getElem_cons_zero, List.setIfInBounds_toArray, List.set_cons_zero, List.set_cons_succ]
            refine last_take (i := 1) (v := ?_) rfl (by kernel_rfl) (by kernel_rfl) (by kernel_rfl) (by kernel_rfl) (fun _ _ _ h => h) (Or.inl ⟨by rfl, ?_⟩) (by assumption) ?_
            rotate_left 1
            · intro w hSw; (try dsimp only at hSw); (go_simp <;> with_reducible rfl)
            simp only [Act.put, List.getElem_toArray, List.getElem_cons_zero, List.getElem_cons_succ, List.setIfInBounds_toArray, List.set_cons_zero, List.set_cons_succ]
            refine last_take (i := 2) (v := ?_) rfl (by kernel_rfl) (by kernel_rfl) (by kernel_rfl) (by kernel_rfl) (fun _ _ _ h => h) (Or.inl ⟨by rfl, ?_⟩) (by assumption) ?_
            rotate_left 1
            · intro w hSw; (try dsimp only at hSw); (go_simp <;> with_reducible rfl)
            simp only [Act.put, List.getElem_toArray, List.getElem_cons_zero, List.getElem_cons_succ, List.setIfInBounds_toArray, List.set_cons_zero, List.set_cons_succ]
            refine last_take (i := 3) (v := ?_) rfl (by kernel_rfl) (by kernel_rfl) (by kernel_rfl) (by kernel_rfl) (fun _ _ _ h => h) (Or.inl ⟨by rfl, ?_⟩) (by assumption) ?_
            rotate_left 1
            · intro w hSw; (try dsimp only at hSw); (go_simp <;> with_reducible rfl)
            simp only [Act.put, List.getElem_toArray, List.getElem_cons_zero, List.getElem_cons_succ, List.setIfInBounds_toArray, List.set_cons_zero, List.set_cons_succ]
            refine last_take (i := 4) (v := ?_) rfl (by kernel_rfl) (by kernel_rfl) (by kernel_rfl) (by kernel_rfl) (fun _ _ _ h => h) (Or.inl ⟨by rfl, ?_⟩) (by assumption) ?_
            rotate_left 1
            · intro w hSw; (try dsimp only at hSw); (go_simp <;> with_reducible rfl)
            simp only [Act.put, List.getElem_toArray, List.getElem_cons_zero, List.getElem_cons_succ, List.setIfInBounds_toArray, List.set_cons_zero, List.set_cons_succ]
            refine last_take (i := 5) (v := ?_) rfl (by kernel_rfl) (by kernel_rfl) (by kernel_rfl) (by kernel_rfl) (fun _ _ _ h => h) (Or.inl ⟨by rfl, ?_⟩) (by assumption) ?_
            rotate_left 1
            · intro w hSw; (try dsimp only at hSw); (go_simp <;> with_reducible rfl)
            simp only [Act.put, List.getElem_toArray, List.getElem_cons_zero, List.getElem_cons_succ, List.setIfInBounds_toArray, List.set_cons_zero, List.set_cons_succ]
            refine last_take (i := 6) (v := ?_) rfl (by kernel_rfl) (by kernel_rfl) (by kernel_rfl) (by kernel_rfl) (fun _ _ _ h => h) (Or.inl ⟨by rfl, ?_⟩) (by assumption) ?_
            rotate_left 1
            · intro w hSw; (try dsimp only at hSw); (go_simp <;> with_reducible rfl)
            simp only [Act.put, List.getElem_toArray, List.getElem_cons_zero, List.getElem_cons_succ, List.setIfInBounds_toArray, List.set_cons_zero, List.set_cons_succ]
            refine last_take (i := 7) (v := ?_) rfl (by kernel_rfl) (by kernel_rfl) (by kernel_rfl) (by kernel_rfl) (fun _ _ _ h => h) (Or.inl ⟨by rfl, ?_⟩) (by assumption) ?_
            rotate_left 1
            · intro w hSw; (try dsimp only at hSw); (go_simp <;> with_reducible rfl)
            simp only [Act.put, List.getElem_toArray, List.getElem_cons_zero, List.getElem_cons_succ, List.setIfInBounds_toArray, List.set_cons_zero, List.set_cons_succ]
            refine last_take (i := 8) (v := ?_) rfl (by kernel_rfl) (by kernel_rfl) (by kernel_rfl) (by kernel_rfl) (fun _ _ _ h => h) (Or.inl ⟨by rfl, ?_⟩) (by assumption) ?_
            rotate_left 1
            · intro w hSw; (try dsimp only at hSw); (go_simp <;> with_reducible rfl)
            simp only [Act.put, List.getElem_toArray, List.getElem_cons_zero, List.getElem_cons_succ, List.setIfInBounds_toArray, List.set_cons_zero, List.set_cons_succ]
            refine last_take (i := 9) (v := ?_) rfl (by kernel_rfl) (by kernel_rfl) (by kernel_rfl) (by kernel_rfl) (fun _ _ _ h => h) (Or.inl ⟨by rfl, ?_⟩) (by assumption) ?_
            rotate_left 1
            · intro w hSw; (try dsimp only at hSw); (go_simp <;> with_reducible rfl)
            simp only [Act.put, List.getElem_toArray, List.getElem_cons_zero, List.getElem_cons_succ, List.setIfInBounds_toArray, List.set_cons_zero, List.set_cons_succ]
            rw [← HW5.out]
            refine last_one (j := 10) (by kernel_rfl) rfl (fun K hK => ?_)
            rw [if_pos (by rfl)]
            simp only [List.getElem_toArray, List.getElem_cons_zero, List.getElem_cons_succ]
            go_simp
            refine HRd.out.mono ?_
            rintro e w7 ⟨rfl, HX, f1, f2, f3⟩
            refine hK.out _ _ (fun _ => f1) ?_
            try simp only [Act.put, List.getElem_toArray, List.getElem_cons_zero, List.getElem_cons_succ, List.setIfInBounds_toArray, List.set_cons_zero, List.set_cons_succ]
            clear hK K
            refine last_one (j := 11) (by kernel_rfl) rfl (fun K hK => ?_)
            rw [if_pos (by rfl)]
            simp only [List.getElem_toArray, List.getElem_cons_zero, List.getElem_cons_succ]
            go_simp
            refine hK.out _ _ (fun _ => f1) ?_
            try simp only [Act.put, List.getElem_toArray, List.getElem_cons_zero, List.getElem_cons_succ, List.setIfInBounds_toArray, List.set_cons_zero, List.set_cons_succ]
            clear hK K
            refine last_one (j := 12) (by kernel_rfl) rfl (fun K hK => ?_)
            rw [if_pos (by rfl)]
            simp only [List.getElem_toArray, List.getElem_cons_zero, List.getElem_cons_succ]
            go_simp
            refine hK.out _ _ (fun e => absurd rfl e) ?_
            clear hK K
            refine last_done (by kernel_rfl) ?_ _
            go_wp2_with fail
            go_roundw
            case rel => exact ⟨i + 1, by go_num, by omega, HX.out⟩
            case measure => simp [intOf]; omega
          · obtain rfl : i = 3 := by omega
            rw [show (((3 : Nat) : Int)) = (3 : Int) from rfl]
            obtain ⟨τ, hτ, htd, hS⟩ := HC.out
            have t1 := hτ 0 (by omega)
            have t2 := hτ 1 (by omega)
            have t0 := hτ 2 (by omega)
            rw [show eOrd (2 - 0) = 1 from rfl] at t1
            rw [show eOrd (2 - 1) = 2 from rfl] at t2
            rw [show eOrd (2 - 2) = 0 from rfl] at t0
            obtain ⟨x0, hx0⟩ : ∃ x0, x0 = t.x 0 k := ⟨_, rfl⟩
            obtain ⟨x1, hx1⟩ : ∃ x1, x1 = t.x 1 k := ⟨_, rfl⟩
            obtain ⟨x2, hx2⟩ : ∃ x2, x2 = t.x 2 k := ⟨_, rfl⟩
            rw [t0, t1, t2, ← hx0, ← hx1, ← hx2] at htd
            have c0 : wr.cell? ⟨td, 0, none⟩ = some (.int .i64 (x0 : Int)) := cell_of htd 0
            have c1 : wr.cell? ⟨td, 1, none⟩ = some (.int .i64 (x1 : Int)) := cell_of htd 1
            have c2 : wr.cell? ⟨td, 2, none⟩ = some (.int .i64 (x2 : Int)) := cell_of htd 2
            have hsc : seqC (stepT t k) = [.int .i64 (x0 : Int), .int .i64 (x2 : Int), .int .i64 (x1 : Int)] := by unfold seqC stepT; rw [hx0, hx1, hx2]
            rw [Nat.sub_self, show stB t k 0 = [] from rfl, List.append_nil] at hS
            have HST := hid (And.intro hS hsc)
            have HSp := (show Hid (Calls Tryz.prog 37 #[.agg #[.int .i64 (x0 : Int), .int .i64 (x1 : Int), .int .i64 (x2 : Int)]] wr fun e w' => e = .returned (.agg #[.int .i64 (x0 : Int), .int .i64 (x2 : Int), .int .i64 (x1 : Int)]) ∧ Hid (Keep noBlock wr w')) from by
              refine (stepOf_any (x0 : Int) (x2 : Int) (x1 : Int) wr).mono ?_
              rintro e w' ⟨rfl, q⟩
              exact ⟨rfl, q⟩)
            clear hτ htd hS t0 t1 t2 hx0 hx1 hx2 hsc HC
            go_wp2_with fail
            refine HSp.out.mono ?_
            rintro e w5 ⟨rfl, HK5⟩
            clear HSp c0 c1 c2
            obtain ⟨hS, hsc⟩ := HST.out
            have ka : Keep noBlock wr (w5.alloc (.cells #[.int .i64 (x0 : Int), .int .i64 (x2 : Int), .int .i64 (x1 : Int)] 42)) := HK5.out.alloc _
            have hSa := hS.to ka
            obtain ⟨v9, w9, hrun, r1, r2, r3⟩ := run_append_seq _ ws.heap.size 23 (.slice la k lcp) t k w5.heap.size hSa.own (Nat.le_trans hSa.kp.size (Nat.le_refl _)) (by omega) (by rw [hsc]; exact alloc_new w5 _)
            obtain ⟨a9, cp9, rfl⟩ := owns_slice r1
            have hlt3 := HI.out.lt
            have nf : ∀ x, x < ws.heap.size → ¬ ((Value.slice la k lcp).ownBlock = some x) := fun x hx e => by have := (owns_lt hSa.own e).1; omega
            have HS9 := (show Hid (StS ws w9 rdb gr atb t (tlN t k) σ (fun v => v < 3) (.slice a9 (k + 1) cp9) (k + 1)) from
              ⟨hSa.rd.keep r2 (nf _ hlt3.1) (nf _ hlt3.2.1), hSa.at_.keep r2 (nf _ hlt3.2.2), r1, hSa.kp.trans r2 (fun j hj e => (nf j hj e).elim)⟩)
            have HSig := hid HS2.out.1
            have HR := hid hrun
            obtain ⟨k1, hk1⟩ : ∃ k1, k1 = k + 1 := ⟨_, rfl⟩
            rw [← hk1] at HS9 HR
            have HK1 := hid hk1
            clear hS hsc ka hSa hrun r1 r2 r3 hlt3 nf HST HK5 HS2 hk1
            by_cases hlast : k1 = n
            · subst hlast
              have HLf := (show Hid (Calls Tryz.prog 38 #[.pointer (some ⟨rdb, 0, none⟩)] w9 fun e w' => e = .returned (.int .i64 0) ∧ Hid (Keep noBlock w9 w')) from by
                have h9 := HS9.out.rd.1
                rw [tlN_last t k (by have := HH.out.2.2.2.2.2.2.2; have := HK1.out; omega)] at h9
                refine (Tl.left_any rdb gr _ _ _ w9 h9).mono ?_
                rintro e w' ⟨rfl, m, rfl⟩
                exact ⟨rfl, keep_drewN w9 m⟩)
              go_wp2_with (at_builtin; refine wpList_append_run _ rfl _ _ 23 rfl _ _ _ _ rfl rfl HR.out ?_)
              refine HLf.out.mono ?_
              rintro e w6 ⟨rfl, HK6⟩
              clear HLf HR
              go_wp2_with fail
              simp only [Exit.noGoto]
              go_ret2
              have h9 := HS9.out
              have y8 := HH.out.2.2.2.2.2.2.2
              have k6 := HK6.out
              have hown := ownsK h9.own k6 (fun _ _ h => h)
              have hpos := HH.out.2.2.1.pos
              rcases hown.2 with ⟨e, h0⟩ | ⟨gg, cc, cur, e, hbb, -⟩
              · omega
              · cases e
                have hcell := fun j u hu => hown.cells (g := gg) rfl j u hu
                refine ⟨gg, cp9, by rw [← y8]; rfl, ⟨.inl rfl, fun j hj => ?_⟩, Nat.le_trans HKW.out.1.size hbb, (HKW.out.1.trans h9.kp (fun j hj e => by have := HKW.out.2; omega)).trans' k6⟩
                have hjn : j < t.n := by unfold stepsT at hj; simpa using hj
                have hst : (stepsT t t.n)[j]?.getD (0, 0, 0) = stepT t j := by unfold stepsT; rw [List.getElem?_map, List.getElem?_range hjn]; rfl
                rw [hst]
                have q0 := hcell (j * 3 + 0) _ ((seqV_at t k1 j 0 (by omega) (by omega)).trans rfl)
                have q1 := hcell (j * 3 + 1) _ ((seqV_at t k1 j 1 (by omega) (by omega)).trans rfl)
                have q2 := hcell (j * 3 + 2) _ ((seqV_at t k1 j 2 (by omega) (by omega)).trans rfl)
                rw [add0] at q0 q1 q2
                rw [Nat.zero_add]
                exact ⟨q0, q1, q2⟩
            · have hl2 : ((k1 : Int) == (n : Int)) = false := by simp; omega
              have hk1n : k1 < n := by have := HK1.out; omega
              obtain ⟨n1, n2, n3, n4⟩ := HI.out.now HS9.out.kp
              have e0 : w9.cell? ⟨1, 0, none⟩ = some (.int .i64 0) := n4.nxt 0 (by omega)
              have e1 : w9.cell? ⟨1, 1, none⟩ = some (.int .i64 2) := n4.nxt 1 (by omega)
              have e2 : w9.cell? ⟨1, 2, none⟩ = some (.int .i64 1) := n4.nxt 2 (by omega)
              clear n1 n2 n3 n4
              go_wp2_with (at_builtin; refine wpList_append_run _ rfl _ _ 23 rfl _ _ _ _ rfl rfl HR.out ?_)
              obtain ⟨wC, hwC⟩ : ∃ wC, wC = w9 := ⟨_, rfl⟩
              rw [← hwC] at HS9 ⊢
              clear hwC HR e0 e1 e2
              go_loopw [73] (fun v73 wr => ∃ i : Nat, v73 = .int .i64 (i : Int) ∧ i ≤ 3 ∧ Hid (∃ σ : Nat → Nat, (∀ j, j < 3 → σ (nOrd (2 - j)) = if j < i then (t.R (nOrd (2 - j))).f k1 else (t.R (nOrd (2 - j))).f k) ∧ StS ws wr rdb gr atb t (tlD t (n - k1) ++ nxB t k (3 - i)) σ (fun v => v < 3) (.slice a9 k1 cp9) k1)) (fun v73 _ => 3 - (intOf v73).toNat)
              case atStart =>
                refine ⟨0, rfl, by omega, σ, fun j hj => ?_, ?_⟩
                · rw [if_neg (by omega)]; exact HSig.out _ (nOrd_lt _)
                · have := HS9.out
                  have y8 := HH.out.2.2.2.2.2.2.2
                  rw [tlN_more t k (by have := HK1.out; omega), ← HK1.out, ← y8] at this
                  exact this
              case round =>
                clear HS9 HSig
                obtain ⟨i, rfl, hi, HC⟩ := hrel
                obtain ⟨σ2, hσ2, hS⟩ := HC.out
                by_cases hlt : i < 3
                · have hiI : (i : Int) < 3 := by omega
                  have hix := index_nxt i hlt
                  have hI := HI.out
                  have hv3 := nOrd_lt (2 - i)
                  have hsv := hσ2 i hlt
                  rw [if_neg (by omega)] at hsv
                  obtain ⟨v, hv⟩ : ∃ v, v = nOrd (2 - i) := ⟨_, rfl⟩
                  rw [← hv] at hix hv3 hsv
                  have hv3I : (v : Int) < 3 := by omega
                  have hkn : k + 1 < t.n := by rw [← HH.out.2.2.2.2.2.2.2, ← HK1.out]; exact hk1n
                  rw [show 3 - i = (2 - i) + 1 from by omega, show nxB t k (2 - i + 1) = nxB t k (2 - i) ++ nextB (t.R (nOrd (2 - i))) k from rfl, ← hv, ← List.append_assoc] at hS
                  have hR := hI.ok.row v hv3
                  have hlv := hI.ok.len v hv3
                  have hst := (hR.path.st k (Nat.zero_le _) (by omega)).1
                  have hst1 := (hR.path.st (k + 1) (Nat.zero_le _) (by omega)).1
                  have hnx := hR.path.nx k (Nat.zero_le _) (by omega)
                  rw [← HK1.out] at hst1 hnx
                  have hfit := hR.tb.xt.fits _ hst
                  have hl9 := hR.tb.hl
                  have hp12 := pow12 (show (t.R v).T.l ≤ 12 by omega)
                  obtain ⟨arr, a1, a2, a3⟩ := hS.at_
                  have b0 := a3 v hv3 hv3 0 (by omega)
                  have b1 := a3 v hv3 hv3 1 (by omega)
                  have b2 := a3 v hv3 hv3 2 (by omega)
                  rw [hsv, ← cell_of a1] at b0 b1 b2
                  obtain ⟨S, hS_⟩ : ∃ S, S = (t.R v).T.sy ((t.R v).f k) := ⟨_, rfl⟩
                  obtain ⟨B, hB⟩ : ∃ B, B = (t.R v).T.bi ((t.R v).f k) := ⟨_, rfl⟩
                  obtain ⟨A, hA⟩ : ∃ A, A = (t.R v).T.ba ((t.R v).f k) := ⟨_, rfl⟩
                  have d0 : wr.cell? ⟨atb, v * 3, none⟩ = some (.int .u8 (S : Int)) := by rw [hS_]; exact b0
                  have d1 : wr.cell? ⟨atb, v * 3 + 1, none⟩ = some (.int .u8 (B : Int)) := by rw [hB]; exact b1
                  have d2 : wr.cell? ⟨atb, v * 3 + 2, none⟩ = some (.int .u16 (A : Int)) := by rw [hA]; exact b2
                  obtain ⟨s', hs'⟩ : ∃ s', s' = (t.R v).f k1 := ⟨_, rfl⟩
                  rw [← hB, ← hA] at hfit
                  rw [← hB, ← hA, ← hs'] at hnx
                  rw [← hs'] at hst1
                  obtain ⟨y, hy⟩ : ∃ y, y = s' - A := ⟨_, rfl⟩
                  have hyB : y < 2 ^ B := by omega
                  have hsI : (A : Int) + (y : Int) = (s' : Int) := by omega
                  rw [show nextB (t.R v) k = low y B from by unfold nextB; rw [← HK1.out, ← hs', ← hA, ← hB, ← hy]] at hS
                  obtain ⟨cb, hcb⟩ : ∃ cb, cb = wr.heap.size := ⟨_, rfl⟩
                  obtain ⟨W4, hW4⟩ : ∃ W4, W4 = wr.alloc (.cells #[.int .u8 (S : Int), .int .u8 (B : Int), .int .u16 (A : Int)] 79) := ⟨_, rfl⟩
                  obtain ⟨W5, hW5⟩ : ∃ W5, W5 = W4.drew := ⟨_, rfl⟩
                  have k5 : Keep noBlock wr W5 := by rw [hW5, hW4]; exact ((Keep.refl _ wr).alloc _).drew
                  have hS5 := hS.to k5
                  have ocb : W5.heap[cb]? = some (.cells #[.int .u8 (S : Int), .int .u8 (B : Int), .int .u16 (A : Int)] 79 (0, 0)) := by rw [hW5, hW4, hcb]; exact alloc_new wr _
                  obtain ⟨m1, m2, m3, m4⟩ := hI.now hS5.kp
                  obtain ⟨q, hq⟩ : ∃ q, q = 2 ^ (t.R v).T.l := ⟨_, rfl⟩
                  have g1' : W5.cell? ⟨tb, v, none⟩ = some (.slice (some ⟨tg v, 0, none⟩) q (cap v)) ∧ W5.cell? ⟨cb, 2, none⟩ = some (.int .u16 (A : Int)) ∧ W5.cell? ⟨cb, 1, none⟩ = some (.int .u8 (B : Int)) := by
                    refine ⟨?_, cell_of ocb 2, cell_of ocb 1⟩
                    rw [cell_of m3, usedA_at t.R tg cap 3 v hv3, hq]
                    unfold usedV
                    rw [if_pos hv3]
                  obtain ⟨S', hS'⟩ : ∃ S', S' = (t.R v).T.sy s' := ⟨_, rfl⟩
                  obtain ⟨B', hB'⟩ : ∃ B', B' = (t.R v).T.bi s' := ⟨_, rfl⟩
                  obtain ⟨A', hA'⟩ : ∃ A', A' = (t.R v).T.ba s' := ⟨_, rfl⟩
                  have HRd := (show Hid (Calls Tryz.prog 34 #[.pointer (some ⟨rdb, 0, none⟩), .int .i64 (B : Int)] W5 fun e w7 => ∃ arr : Array Value, e = .returned (.int .u64 (y : Int)) ∧ Hid (∃ σ : Nat → Nat, (∀ j, j < 3 → σ (nOrd (2 - j)) = if j < i + 1 then (t.R (nOrd (2 - j))).f k1 else (t.R (nOrd (2 - j))).f k) ∧ StS ws (w7.setCells atb (v * 3) [.int .u8 (S' : Int), .int .u8 (B' : Int), .int .u16 (A' : Int)]) rdb gr atb t (tlD t (n - k1) ++ nxB t k (3 - (i + 1))) σ (fun v => v < 3) (.slice a9 k1 cp9) k1) ∧
                      (w7.cell? ⟨tb, v, none⟩ = some (.slice (some ⟨tg v, 0, none⟩) q (cap v)) ∧ w7.cell? ⟨cb, 2, none⟩ = some (.int .u16 (A : Int)) ∧ w7.cell? ⟨cb, 1, none⟩ = some (.int .u8 (B : Int))) ∧
                      (w7.cell? ⟨tg v, s' * 3, none⟩ = some (.int .u8 (S' : Int)) ∧ w7.cell? ⟨tg v, s' * 3 + 1, none⟩ = some (.int .u8 (B' : Int)) ∧ w7.cell? ⟨tg v, s' * 3 + 2, none⟩ = some (.int .u16 (A' : Int))) ∧
                      Hid (w7.there atb (v * 3) (#[.int .u8 (S' : Int), .int .u8 (B' : Int), .int .u16 (A' : Int)] : Array Value).size ∧ (#[.int .u8 (S' : Int), .int .u8 (B' : Int), .int .u16 (A' : Int)] : Array Value).all (·.oneCell') = true)) from by
                    refine (hS5.bits hyB (by omega) hI.lt.1 hI.ne.1).mono ?_
                    rintro e w7 ⟨rfl, r1, r2⟩
                    obtain ⟨arr', o1, o2, o3⟩ := r1.at_
                    obtain ⟨p1, p2, p3, p4⟩ := hI.now r1.kp
                    obtain ⟨z0, z1, z2⟩ := (p2 v hv3).cells s' hst1
                    have hlt2 := hI.lt
                    have hne2 := hI.ne
                    have hcbl : ws.heap.size ≤ cb := by rw [hcb]; exact hS.kp.size
                    have hcl : cellL (t.R v).T s' = [.int .u8 (S' : Int), .int .u8 (B' : Int), .int .u16 (A' : Int)] := by unfold cellL; rw [← hS', ← hB', ← hA']
                    refine ⟨arr', rfl, ⟨updN σ2 v s', fun j hj => ?_, ?_⟩, ⟨keep_cellS r2 (by omega) g1'.1, keep_cellS r2 (by omega) g1'.2.1, keep_cellS r2 (by omega) g1'.2.2⟩, ⟨by rw [hS']; exact z0, by rw [hB']; exact z1, by rw [hA']; exact z2⟩, fun j hj => ⟨?_, frozen_of o1 _⟩, all_oneCell_toArray (by rw [← hcl]; exact cellL_one _ _)⟩
                    · by_cases e : nOrd (2 - j) = v
                      · have eji : j = i := by
                          rw [hv] at e
                          rcases (show i = 0 ∨ i = 1 ∨ i = 2 by omega) with rfl | rfl | rfl <;> rcases (show j = 0 ∨ j = 1 ∨ j = 2 by omega) with rfl | rfl | rfl <;> first | rfl | (exact absurd e (by decide))
                        rw [if_pos (by omega), e, updN_self, hs']
                      · rw [show updN σ2 v s' (nOrd (2 - j)) = σ2 (nOrd (2 - j)) from if_neg e, hσ2 j hj]
                        by_cases hji : j < i
                        · rw [if_pos hji, if_pos (by omega)]
                        · rw [if_neg hji, if_neg (fun h => e (by rw [hv, show j = i from by omega]))]
                    · rw [show 3 - (i + 1) = 2 - i from by omega, ← hcl]
                      exact (r1.put o1 v s' hv3 (setCells_obj atb 103 _ _ _ _ o1) (keep_setCells (S := fun k => k = atb) atb (fun _ => rfl) _ _ _ (Keep.refl _ w7)) hlt2.2.2 hne2.1 hne2.2.2.1).mono (fun u hu => .inl hu)
                    · have hj3 : j < 3 := hj
                      rw [cell_of o1, Array.getElem?_eq_getElem (by omega)]
                      rfl)
                  rw [← hq] at hst1 hp12
                  have hs'I : (s' : Int) < (q : Int) := by omega
                  have hBI : (B : Int) ≤ 9 := by omega
                  have hwA : IntKind.i64.wrap (A : Int) = (A : Int) := by rw [IntKind.wrap_i64]; omega
                  have hwB : IntKind.i64.wrap (B : Int) = (B : Int) := by rw [IntKind.wrap_i64]; omega
                  have hwy : IntKind.i64.wrap (y : Int) = (y : Int) := by rw [IntKind.wrap_i64]; omega
                  have hws : IntKind.i64.wrap (s' : Int) = (s' : Int) := by rw [IntKind.wrap_i64]; omega
                  have HW5 := hid hW5
                  have HW4 := hid hW4
                  have HCB := hid hcb
                  clear hS hI hv hsv hR hlv hst hnx hfit hl9 a1 a2 a3 b0 b1 b2 hS_ hB hA hs' hy hyB hcb hW4 hW5 k5 hS5 ocb m1 m2 m3 m4 hq hS' hB' hA' hkn hσ2 HC
                  go_wp2_with fail
                  rw [← HW4.out, ← HCB.out]
                  clear HW4 HCB d0 d1 d2
                  refine region_last (fun W => W.cell? ⟨tb, v, none⟩ = some (.slice (some ⟨tg v, 0, none⟩) q (cap v)) ∧ W.cell? ⟨cb, 2, none⟩ = some (.int .u16 (A : Int)) ∧ W.cell? ⟨cb, 1, none⟩ = some (.int .u8 (B : Int))) 17 mx (by rw [← HW5.out]; exact g1') (fun hS => ?_)
                  refine last_take (i := 0) (v := ?_) rfl (by kernel_rfl) (by kernel_rfl) (by kernel_rfl) (by kernel_rfl) (fun _ _ _ h => h) (Or.inl ⟨by rfl, ?_⟩) (by assumption) ?_
                  rotate_left 1
                  · intro w hSw; (try dsimp only at hSw); (try obtain ⟨hSw1, hSw2, hSw3⟩ := hSw); (go_simp <;> with_reducible rfl)
                  simp only [Act.put, List.getElem_toArray, List.getElem_cons_zero, List.setIfInBounds_toArray, List.set_cons_zero, List.set_cons_succ]
                  refine last_take (i := 1) (v := ?_) rfl (by kernel_rfl) (by kernel_rfl) (by kernel_rfl) (by kernel_rfl) (fun _ _ _ h => h) (Or.inl ⟨by rfl, ?_⟩) (by assumption) ?_
                  rotate_left 1
                  · intro w hSw; (try dsimp only at hSw); (try obtain ⟨hSw1, hSw2, hSw3⟩ := hSw); (go_simp <;> with_reducible rfl)
                  simp only [Act.put, List.getElem_toArray, List.getElem_cons_zero, List.getElem_cons_succ, List.setIfInBounds_toArray, List.set_cons_zero, List.set_cons_succ]
                  refine last_take (i := 2) (v := ?_) rfl (by kernel_rfl) (by kernel_rfl) (by kernel_rfl) (by kernel_rfl) (fun _ _ _ h => h) (Or.inl ⟨by rfl, ?_⟩) (by assumption) ?_
                  rotate_left 1
                  · intro w hSw; (try dsimp only at hSw); (try obtain ⟨hSw1, hSw2, hSw3⟩ := hSw); (go_simp <;> with_reducible rfl)
                  simp only [Act.put, List.getElem_toArray, List.getElem_cons_zero, List.getElem_cons_succ, List.setIfInBounds_toArray, List.set_cons_zero, List.set_cons_succ]
                  refine last_take (i := 3) (v := ?_) rfl (by kernel_rfl) (by kernel_rfl) (by kernel_rfl) (by kernel_rfl) (fun _ _ _ h => h) (Or.inl ⟨by rfl, ?_⟩) (by assumption) ?_
                  rotate_left 1
                  · intro w hSw; (try dsimp only at hSw); (try obtain ⟨hSw1, hSw2, hSw3⟩ := hSw); (go_simp <;> with_reducible rfl)
                  simp only [Act.put, List.getElem_toArray, List.getElem_cons_zero, List.getElem_cons_succ, List.setIfInBounds_toArray, List.set_cons_zero, List.set_cons_succ]
                  refine last_take (i := 4) (v := ?_) rfl (by kernel_rfl) (by kernel_rfl) (by kernel_rfl) (by kernel_rfl) (fun _ _ _ h => h) (Or.inl ⟨by rfl, ?_⟩) (by assumption) ?_
                  rotate_left 1
                  · intro w hSw; (try dsimp only at hSw); (try obtain ⟨hSw1, hSw2, hSw3⟩ := hSw); (go_simp <;> with_reducible rfl)
                  simp only [Act.put, List.getElem_toArray, List.getElem_cons_zero, List.getElem_cons_succ, List.setIfInBounds_toArray, List.set_cons_zero, List.set_cons_succ]
                  refine last_take (i := 5) (v := ?_) rfl (by kernel_rfl) (by kernel_rfl) (by kernel_rfl) (by kernel_rfl) (fun _ _ _ h => h) (Or.inl ⟨by rfl, ?_⟩) (by assumption) ?_
                  rotate_left 1
                  · intro w hSw; (try dsimp only at hSw); (try obtain ⟨hSw1, hSw2, hSw3⟩ := hSw); (go_simp <;> with_reducible rfl)
                  simp only [Act.put, List.getElem_toArray, List.getElem_cons_zero, List.getElem_cons_succ, List.setIfInBounds_toArray, List.set_cons_zero, List.set_cons_succ]
                  refine last_take (i := 6) (v := ?_) rfl (by kernel_rfl) (by kernel_rfl) (by kernel_rfl) (by kernel_rfl) (fun _ _ _ h => h) (Or.inl ⟨by rfl, ?_⟩) (by assumption) ?_
                  rotate_left 1
                  · intro w hSw; (try dsimp only at hSw); (try obtain ⟨hSw1, hSw2, hSw3⟩ := hSw); (go_simp <;> with_reducible rfl)
                  simp only [Act.put, List.getElem_toArray, List.getElem_cons_zero, List.getElem_cons_succ, List.setIfInBounds_toArray, List.set_cons_zero, List.set_cons_succ]
                  refine last_take (i := 7) (v := ?_) rfl (by kernel_rfl) (by kernel_rfl) (by kernel_rfl) (by kernel_rfl) (fun _ _ _ h => h) (Or.inl ⟨by rfl, ?_⟩) (by assumption) ?_
                  rotate_left 1
                  · intro w hSw; (try dsimp only at hSw); (try obtain ⟨hSw1, hSw2, hSw3⟩ := hSw); (go_simp <;> with_reducible rfl)
                  simp only [Act.put, List.getElem_toArray, List.getElem_cons_zero, List.getElem_cons_succ, List.setIfInBounds_toArray, List.set_cons_zero, List.set_cons_succ]
                  refine last_take (i := 8) (v := ?_) rfl (by kernel_rfl) (by kernel_rfl) (by kernel_rfl) (by kernel_rfl) (fun _ _ _ h => h) (Or.inl ⟨by rfl, ?_⟩) (by assumption) ?_
                  rotate_left 1
                  · intro w hSw; (try dsimp only at hSw); (try obtain ⟨hSw1, hSw2, hSw3⟩ := hSw); (go_simp <;> with_reducible rfl)
                  simp only [Act.put, List.getElem_toArray, List.getElem_cons_zero, List.getElem_cons_succ, List.setIfInBounds_toArray, List.set_cons_zero, List.set_cons_succ]
                  refine last_take (i := 9) (v := ?_) rfl (by kernel_rfl) (by kernel_rfl) (by kernel_rfl) (by kernel_rfl) (fun _ _ _ h => h) (Or.inl ⟨by rfl, ?_⟩) (by assumption) ?_
                  rotate_left 1
                  · intro w hSw; (try dsimp only at hSw); (try obtain ⟨hSw1, hSw2, hSw3⟩ := hSw); (go_simp <;> with_reducible rfl)
                  simp only [Act.put, List.getElem_toArray, List.getElem_cons_zero, List.getElem_cons_succ, List.setIfInBounds_toArray, List.set_cons_zero, List.set_cons_succ]
                  refine last_take (i := 10) (v := ?_) rfl (by kernel_rfl) (by kernel_rfl) (by kernel_rfl) (by kernel_rfl) (fun _ _ _ h => h) (Or.inl ⟨by rfl, ?_⟩) (by assumption) ?_
                  rotate_left 1
                  · intro w hSw; (try dsimp only at hSw); (try obtain ⟨hSw1, hSw2, hSw3⟩ := hSw); (go_simp <;> with_reducible rfl)
                  simp only [Act.put, List.getElem_toArray, List.getElem_cons_zero, List.getElem_cons_succ, List.setIfInBounds_toArray, List.set_cons_zero, List.set_cons_succ]
                  rw [← HW5.out]
                  refine last_one (j := 11) (by kernel_rfl) rfl (fun K hK => ?_)
                  rw [if_pos (by rfl)]
                  simp only [List.getElem_toArray, List.getElem_cons_zero, List.getElem_cons_succ]
                  go_simp
                  refine HRd.out.mono ?_
                  rintro e w7 ⟨arr, rfl, HX, f1, ⟨f2, f3, f4⟩, HST⟩
                  refine hK.out _ _ (fun _ => f1) ?_
                  try simp only [Act.put, List.getElem_toArray, List.getElem_cons_zero, List.getElem_cons_succ, List.setIfInBounds_toArray, List.set_cons_zero, List.set_cons_succ]
                  clear hK K
                  refine last_one (j := 12) (by kernel_rfl) rfl (fun K hK => ?_)
                  rw [if_pos (by rfl)]
                  simp only [List.getElem_toArray, List.getElem_cons_zero, List.getElem_cons_succ]
                  go_simp
                  refine hK.out _ _ (fun _ => f1) ?_
                  try simp only [Act.put, List.getElem_toArray, List.getElem_cons_zero, List.getElem_cons_succ, List.setIfInBounds_toArray, List.set_cons_zero, List.set_cons_succ]
                  clear hK K
                  refine last_one (j := 13) (by kernel_rfl) rfl (fun K hK => ?_)
                  rw [if_pos (by rfl)]
                  simp only [List.getElem_toArray, List.getElem_cons_zero, List.getElem_cons_succ]
                  go_simp
                  refine hK.out _ _ (fun _ => f1) ?_
                  try simp only [Act.put, List.getElem_toArray, List.getElem_cons_zero, List.getElem_cons_succ, List.setIfInBounds_toArray, List.set_cons_zero, List.set_cons_succ]
                  clear hK K
                  refine last_one (j := 14) (by kernel_rfl) rfl (fun K hK => ?_)
                  rw [if_pos (by rfl)]
                  simp only [List.getElem_toArray, List.getElem_cons_zero, List.getElem_cons_succ]
                  go_simp
                  refine hK.out _ _ (fun _ => f1) ?_
                  try simp only [Act.put, List.getElem_toArray, List.getElem_cons_zero, List.getElem_cons_succ, List.setIfInBounds_toArray, List.set_cons_zero, List.set_cons_succ]
                  clear hK K
                  refine last_one (j := 15) (by kernel_rfl) rfl (fun K hK => ?_)
                  rw [if_pos (by rfl)]
                  simp only [List.getElem_toArray, List.getElem_cons_zero, List.getElem_cons_succ]
                  go_simp
                  refine hK.out _ _ (fun _ => f1) ?_
                  try simp only [Act.put, List.getElem_toArray, List.getElem_cons_zero, List.getElem_cons_succ, List.setIfInBounds_toArray, List.set_cons_zero, List.set_cons_succ]
                  clear hK K
                  refine last_one (j := 16) (by kernel_rfl) rfl (fun K hK => ?_)
                  rw [if_pos (by rfl)]
                  simp only [List.getElem_toArray, List.getElem_cons_zero, List.getElem_cons_succ]
                  go_simp
                  refine hK.out _ _ (fun _ => f1) ?_
                  try simp only [Act.put, List.getElem_toArray, List.getElem_cons_zero, List.getElem_cons_succ, List.setIfInBounds_toArray, List.set_cons_zero, List.set_cons_succ]
                  clear hK K
                  refine last_one (j := 17) (by kernel_rfl) rfl (fun K hK => ?_)
                  rw [if_pos (by rfl)]
                  refine wp_store_mid 79 (.tmp 95) (.tmp 94) rfl atb (v * 3) #[.int .u8 (S' : Int), .int .u8 (B' : Int), .int .u16 (A' : Int)] rfl rfl HST.out.1 info79s HST.out.2 ?_
                  refine hK.out _ _ (fun e => absurd rfl e) ?_
                  clear hK K
                  refine last_done (by kernel_rfl) ?_ _
                  obtain ⟨W8, hW8⟩ : ∃ W8, W8 = w7.setCells atb (v * 3) [.int .u8 (S' : Int), .int .u8 (B' : Int), .int .u16 (A' : Int)] := ⟨_, rfl⟩
                  rw [show w7.setCells atb (v * 3) (#[.int .u8 (S' : Int), .int .u8 (B' : Int), .int .u16 (A' : Int)] : Array Value).toList = W8 from hW8.symm]
                  rw [← hW8] at HX
                  clear hW8 HST f1 f2 f3 f4 HRd
                  obtain ⟨σ3, p1, p2⟩ := HX.out
                  obtain ⟨u, hu⟩ : ∃ u, u = (tlD t (n - k1) ++ nxB t k (3 - (i + 1))).length := ⟨_, rfl⟩
                  have HLf := (show Hid (Calls Tryz.prog 38 #[.pointer (some ⟨rdb, 0, none⟩)] W8 fun e w' => e = .returned (.int .i64 (u : Int)) ∧ Hid (Keep noBlock W8 w')) from by
                    refine (Tl.left_any rdb gr _ _ _ W8 p2.rd.1).mono ?_
                    rintro e w' ⟨rfl, m, rfl⟩
                    rw [← hu]
                    exact ⟨by simp, keep_drewN W8 m⟩)
                  have hu0 : ¬ (u : Int) < 0 := by omega
                  clear hu p1 p2
                  go_wp2_with fail
                  refine HLf.out.mono ?_
                  rintro e w10 ⟨rfl, HK10⟩
                  have HN := (show Hid (∃ σ : Nat → Nat, (∀ j, j < 3 → σ (nOrd (2 - j)) = if j < i + 1 then (t.R (nOrd (2 - j))).f k1 else (t.R (nOrd (2 - j))).f k) ∧ StS ws w10 rdb gr atb t (tlD t (n - k1) ++ nxB t k (3 - (i + 1))) σ (fun v => v < 3) (.slice a9 k1 cp9) k1) from by
                    obtain ⟨σ3, p1, p2⟩ := HX.out
                    exact ⟨σ3, p1, p2.to HK10.out⟩)
                  clear HLf HX HK10
                  go_wp2_with fail
                  go_roundw
                  case rel => exact ⟨i + 1, by go_num, by omega, HN.out⟩
                  case measure => simp [intOf]; omega
                · obtain rfl : i = 3 := by omega
                  rw [show (((3 : Nat) : Int)) = (3 : Int) from rfl]
                  have HN := (show Hid (∃ σ : Nat → Nat, (∀ v, v < 3 → σ v = (t.R v).f k1) ∧ StS ws wr rdb gr atb t (tlD t (n - k1)) σ (fun v => v < 3) (.slice a9 k1 cp9) k1) from by
                    rw [Nat.sub_self, show nxB t k 0 = [] from rfl, List.append_nil] at hS
                    refine ⟨σ2, fun v hv => ?_, hS⟩
                    have q0 := hσ2 0 (by omega)
                    have q1 := hσ2 1 (by omega)
                    have q2 := hσ2 2 (by omega)
                    rw [if_pos (by omega)] at q0 q1 q2
                    rcases (show v = 0 ∨ v = 1 ∨ v = 2 by omega) with rfl | rfl | rfl
                    · exact q0
                    · exact q2
                    · exact q1)
                  clear hσ2 hS HC
                  go_wp2_with fail
                  go_roundw
                  case rel => exact ⟨k1, rfl, hk1n, HN.out⟩
                  case measure => simp [sliceLen]; have := HK1.out; omega
end Go.Proofs.YtgaepmmpedaaiaaGreatDoor
