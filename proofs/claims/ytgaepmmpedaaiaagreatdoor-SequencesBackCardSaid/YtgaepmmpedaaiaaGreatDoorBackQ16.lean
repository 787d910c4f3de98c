/-
  lay: the section of some steps.
  Write of sequences.
  A section that is read: next, number, and the four ways to read a table.
  The ways to read a table.
-/
import Derived.Test.YtgaepmmpedaaiaaGreatDoorBackQ7
import Derived.Test.YtgaepmmpedaaiaaGreatDoorBackQ15
namespace Go.Proofs.YtgaepmmpedaaiaaGreatDoor
open Go.RowKit Go.Shelf
set_option linter.unusedVariables false

/-- A section that tells steps l. -/
structure IsLaid (l : List Stp) (B : List Nat) (t : Tri) : Prop where
  eq : B = numB t.n ++ [kbS t.R 3] ++ tolds t.R 3 ++ pack (tlAll t ++ [1])
  ok : TriOk t
  n : t.n = l.length
  x : ∀ v, v < 3 → ∀ k, k < t.n → selS v (l[k]?.getD (0, 0, 0)) = ((t.x v k : Nat) : Int)
def LayPost (w : World) (l : List Stp) (e : Ending) (w' : World) : Prop :=
  ∃ (v : Value) (B : List Nat) (t : Tri), e = .returned v ∧ IsLaid l B t ∧ w'.ownsRow 0 5 1 v B.length (u8s B) ∧ Keep noBlock w w'
/-- All steps can be told. -/
def AllTold (l : List Stp) : Prop := ∀ k, k < l.length → tellS (l[k]?.getD (0, 0, 0)).1 (l[k]?.getD (0, 0, 0)).2.1 (l[k]?.getD (0, 0, 0)).2.2 = true
theorem tri_ok (l : List Stp) (R : Nat → RowP) (c : Nat → List Nat) (h1 : 1 ≤ l.length) (h2 : l.length ≤ 65535) (hT : AllTold l) (ok : ∀ v, v < 3 → RowOk (kdV v) (c v) (R v) ∧ (c v).length = l.length ∧ ∀ k, k < l.length → (kdV v).Tells (selS v (l[k]?.getD (0, 0, 0))).toNat ((c v)[k]?.getD 0)) :
    TriOk ⟨l.length, fun v k => (selS v (l[k]?.getD (0, 0, 0))).toNat, c, R⟩ :=
  ⟨h1, h2, fun v hv => (ok v hv).2.1, fun v hv => (ok v hv).1, fun v hv k hk => ⟨(ok v hv).2.2 k hk, by
    have h3 := tell_sel _ (hT k hk) v hv
    have h4 := most_top v
    show (selS v (l[k]?.getD (0, 0, 0))).toNat < _
    omega⟩⟩
theorem info122 : (Tryz.prog.info? 122).map (·.size) = some 5 := by kernel_rfl
theorem rowC_one (R : RowP) (n : Nat) (a : Option Addr) (capt g capg pg : Nat) (ac : Option Addr) (capc : Nat) : ∀ v ∈ rowC R n a capt g capg pg ac capc, v.oneCell' = true := by
  intro v hv
  simp only [rowC, List.mem_cons, List.not_mem_nil, or_false] at hv
  rcases hv with rfl | rfl | rfl | rfl | rfl <;> rfl
/-- One round of lay's loop up to its row. -/
structure RowGot (w w9 : World) (cK g0 g1 g2 rb n : Nat) (l : List Stp) (i kb : Nat) (vb : Value) : Prop where
  ex : ∃ (R : Nat → RowP) (c : Nat → List Nat), kb = kbS R i ∧ LySt w w9 cK g0 g1 g2 rb n l (i + 1) kb i vb R c

section
set_option maxRecDepth 100000 in
set_option maxHeartbeats 16000000 in
theorem lay_any (w : World) (a : Option Addr) (cap g off : Nat) (l : List Stp) (hS : Seqs w a cap g off l) (hO : Ords w) (hT : AllTold l) (h1 : 1 ≤ l.length) (h2 : l.length ≤ 65535) :
    Calls Tryz.prog 27 #[.slice a l.length cap] w fun e w' => LayPost w l e w' := by
  obtain ⟨n, hn⟩ : ∃ n, n = l.length := ⟨_, rfl⟩
  have HH := (show Hid (Seqs w a cap g off l ∧ Ords w ∧ AllTold l ∧ n = l.length) from ⟨hS, hO, hT, hn⟩)
  have HC := hid (codings_any w)
  rw [← hn] at h1 h2 ⊢
  have hnI : (n : Int) ≤ 65535 := by omega
  clear hS hO hT hn
  go_enter Tryz.func27, Tryz.ntmps27
  go_wp2_with fail
  refine HC.out.mono ?_
  rintro e w1 ⟨g0, g1, g2, rfl, o0, o1, o2, l0, l1, l2, k1⟩
  generalize hA : (codA (.slice (some ⟨g0, 0, none⟩) 36 36) (.slice (some ⟨g1, 0, none⟩) 29 29) (.slice (some ⟨g2, 0, none⟩) 53 53)).toArray = A
  have hsz : A.size = 330 := by rw [← hA, List.size_toArray]; exact codA_length _ _ _
  have HJ : Hid ((Tryz.prog.info? 58).map (·.size) = some A.size) := by rw [hsz]; exact info58
  have HJ2 := hid (show Tryz.zeroCells58.size = A.size from by rw [hsz]; exact zero58_size)
  have H1 : Hid (A.all (·.oneCell') = true) := by rw [← hA]; exact codA_one _ _ _ _ _ _
  have H2 := (show Hid (IsCod (w1.alloc (.cells A 58)) w1.heap.size g0 g1 g2 ∧ Keep noBlock w (w1.alloc (.cells A 58)) ∧ w.heap.size ≤ w1.heap.size ∧ g0 < w1.heap.size ∧ g1 < w1.heap.size ∧ g2 < w1.heap.size) from
    ⟨⟨by rw [hA]; exact alloc_new w1 _, alloc_far o0 _, alloc_far o1 _, alloc_far o2 _⟩, k1.alloc _, k1.size, obj_lt o0, obj_lt o1, obj_lt o2⟩)
  clear hA hsz o0 o1 o2 l0 l1 l2 k1 HC
  have HP := (show Hid (∀ W : World, _) from fun W => putNumber_any n h2 W)
  go_wp2_with (refine wpList_store_row rfl 58 (.tmp 3) (.tmp 8) rfl w1.heap.size A rfl rfl 58 _ (World.alloc_heap_new w1 _) HJ.out HJ2.out H1.out ?_; rw [World.setRow_alloc_new])
  obtain ⟨cK, hcK⟩ : ∃ cK, cK = w1.heap.size := ⟨_, rfl⟩
  rw [← hcK]
  rw [← hcK] at H2
  generalize w1.alloc (.cells A 58) = W1 at *
  clear hcK HJ HJ2 H1
  refine (HP.out W1).mono ?_
  rintro e w2 ⟨rfl, p1, p2, p3⟩
  generalize hβ : W1.heap.size = β at *
  obtain ⟨m, hm⟩ : ∃ m, m = (numB n).length := ⟨_, rfl⟩
  rw [← hm] at p1 ⊢
  have hm3 : m ≤ 3 := by rw [hm]; exact (numB_len n).1
  have hm1 : 1 ≤ m := by rw [hm]; exact (numB_len n).2
  have HQ := hid (And.intro p1 (And.intro p2 (And.intro p3 (And.intro hm hβ))))
  clear p1 p2 p3 hm hβ HP
  have hkz : Keep noBlock w2 (w2.alloc (.cells #[.int .u8 0] 5)) := (Keep.refl _ w2).alloc _
  obtain ⟨v3, w3, hrun, r1, r2, r3⟩ := run_append_all (w2.alloc (.cells #[.int .u8 0] 5)) 22 (.slice (some ⟨β, 0, none⟩) m m) (numB n) [0] (by have := owns_kept HQ.out.1 hkz (fun _ _ h => h); rw [HQ.out.2.2.2.1] at this; rw [HQ.out.2.2.2.1]; exact this) (by have := (numB_len n).1; simp; omega) (.slice (some ⟨w2.heap.size, 0, none⟩) 1 1) (.inr ⟨_, _, rfl, fun j u hu => by rw [add0, cell_of (alloc_new w2 _), List.getElem?_toArray]; exact hu⟩)
  have HR := hid hrun
  have hm3I : (m : Int) ≤ 3 := by omega
  have HX := hid (And.intro r1 (And.intro r2 (And.intro r3 hkz)))
  clear r1 r2 r3 hkz hrun
  go_wp2_with (refine wpList_append_run _ rfl _ _ 22 rfl _ _ _ _ rfl rfl HR.out ?_)
  have HL := (show Hid (∀ W4 : World, ∀ Z : Array Value, Z.size = 15 → W4 = w3.alloc (.cells Z 123) → LySt w W4 cK g0 g1 g2 w3.heap.size n l 0 0 0 v3 (fun _ => ⟨0, [], tbA 0, fun _ => 0⟩) (fun _ => [])) from fun W4 Z hZ e => by
    obtain ⟨x1, x2, x3, x4⟩ := HX.out
    obtain ⟨q1, q2, q3, q4, q5⟩ := HQ.out
    obtain ⟨y1, y2, y3, y4, y5, y6⟩ := H2.out
    have hcd := cods_of y1
    have z0 := hcd.cl.lt
    have hS : ∀ k, (Value.slice (some ⟨β, 0, none⟩) m m).ownBlock = some k → k = β := fun k e => by simpa [Value.ownBlock] using e.symm
    have nn : ∀ x, x < β → ¬ ((Value.slice (some ⟨β, 0, none⟩) m m).ownBlock = some x) := fun x hx e => by have := hS x e; omega
    have ka : Keep noBlock w3 W4 := by rw [e]; exact (Keep.refl _ w3).alloc _
    have hlt3 := x2.size
    have hlt2 := x4.size
    have hlt1 := q2.size
    have hcd3 := (((hcd.keep q2 (fun h => h) (fun h => h) (fun h => h) (fun h => h)).keep x4 (fun h => h) (fun h => h) (fun h => h) (fun h => h)).keep x2 (nn _ (by omega)) (nn _ (by omega)) (nn _ (by omega)) (nn _ (by omega))).keep ka (fun h => h) (fun h => h) (fun h => h) (fun h => h)
    refine ⟨hcd3, ?_, fun k e2 => ?_, ⟨Z, by rw [e]; exact alloc_new w3 _, hZ⟩, fun v hv => by omega, fun v hv => by omega, (((y2.trans' q2).trans' x4).trans x2 (fun k hk e => by have := hS k e; have := y2.size; omega)).trans' ka, ?_⟩
    · have : layB n 0 (fun _ => ⟨0, [], tbA 0, fun _ => 0⟩) 0 = numB n ++ [0] := by unfold layB; simp [tolds]
      rw [this]
      exact owns_kept x1 ka (fun _ _ h => h)
    · have := y2.size
      rcases x3 with x3 | ⟨q, x3, hq⟩
      · rw [x3] at e2
        have := hS k e2
        omega
      · have hql := (owns_lt x1 x3).2
        rw [x3] at e2
        cases e2
        omega
    · have := y2.size
      omega)
  obtain ⟨W4, hW4⟩ : ∃ W4, W4 = w3.alloc (.cells #[.int .i64 0, .slice none 0 0, .slice none 0 0, .slice none 0 0, .slice none 0 0, .int .i64 0, .slice none 0 0, .slice none 0 0, .slice none 0 0, .slice none 0 0, .int .i64 0, .slice none 0 0, .slice none 0 0, .slice none 0 0, .slice none 0 0] 123) := ⟨_, rfl⟩
  rw [← hW4]
  have HL0 := hid (HL.out W4 _ (by rfl) hW4)
  have hm := HQ.out.2.2.2.1
  clear HL HX HR HQ H2 hW4
  generalize w3.heap.size = rb at *
  have HM := hid hm
  clear hm
  go_loopw [4, 17] (fun v4 v17 wr => ∃ i : Nat, v17 = .int .i64 (i : Int) ∧ i ≤ 3 ∧ Hid (∃ (R : Nat → RowP) (c : Nat → List Nat), LySt w wr cK g0 g1 g2 rb n l i (kbS R i) i v4 R c)) (fun _ v17 _ => 3 - (intOf v17).toNat)
  case atStart => exact ⟨0, rfl, by omega, _, _, HL0.out⟩
  case round =>
    clear HL0
    obtain ⟨i, rfl, hi, HI⟩ := hrel
    by_cases hlt : i < 3
    · have hiI : (i : Int) < 3 := by omega
      have HC48 := (show Hid (∀ q, Calls Tryz.prog 48 #[.pointer (some ⟨cK, i * 110, none⟩), .slice a n cap, .int .i64 (i : Int)] (wr.drewN q) fun e w' => ∃ (g : Nat) (cs : List Nat), e = .returned (.slice (some ⟨g, 0, none⟩) n n) ∧ Hid (Bytes w' (some ⟨g, 0, none⟩) n g 0 cs ∧ cs.length = n ∧ (∀ k, k < n → (kdV i).Tells (selS i (l[k]?.getD (0, 0, 0))).toNat (cs[k]?.getD 0)) ∧ wr.heap.size ≤ g ∧ Keep noBlock wr w')) from fun q => by
        obtain ⟨R, c, hL⟩ := HI.out
        obtain ⟨hS, hO, hT, e1⟩ := HH.out
        obtain ⟨gk, hcod⟩ := (hL.to (keep_drewN wr q)).cods.at_ i hlt
        have := codesOf_any (wr.drewN q) (kdV i) cK (i * 110) gk a cap g off i l hcod (hS.keep (hL.kp.trans' (keep_drewN wr q))) hlt (by omega) (fun k hk => by
          have h3 := tell_sel _ (hT k hk) i hlt
          have h4 := most_top i
          have h5 := top_le i
          omega)
        rw [← e1] at this
        refine this.mono ?_
        rintro e w' ⟨g', cs, he, q1, q2, q3, q4, q5⟩
        rw [← e1] at he q1 q2 q3
        exact ⟨g', cs, he, q1, q2, q3, q4, (keep_drewN wr q).trans' q5⟩)
      have HC47 := (show Hid (∀ (w5 : World) (g' : Nat) (cs : List Nat), Hid (Bytes w5 (some ⟨g', 0, none⟩) n g' 0 cs ∧ cs.length = n ∧ (∀ k, k < n → (kdV i).Tells (selS i (l[k]?.getD (0, 0, 0))).toNat (cs[k]?.getD 0)) ∧ wr.heap.size ≤ g' ∧ Keep noBlock wr w5) →
          Calls Tryz.prog 47 #[.pointer (some ⟨cK, i * 110, none⟩), .slice (some ⟨g', 0, none⟩) n n] w5 fun e w' => ∃ (C : Array Value) (W9 : World), e = .returned (.agg C) ∧ Hid (w'.there rb (i * 5) C.size ∧ (Tryz.prog.info? 122).map (·.size) = some C.size ∧ C.all (·.oneCell') = true ∧ w'.setCells rb (i * 5) C.toList = W9) ∧ Hid (∃ (R : Nat → RowP) (c : Nat → List Nat), LySt w W9 cK g0 g1 g2 rb n l (i + 1) (kbS R i) i u4 R c)) from fun w5 g' cs HK => by
        obtain ⟨R, c, hL⟩ := HI.out
        obtain ⟨hS, hO, hT, e1⟩ := HH.out
        obtain ⟨q1, q2, q3, q4, q5⟩ := HK.out
        have hL5 := hL.to q5
        obtain ⟨gk, hcod⟩ := hL5.cods.at_ i hlt
        have := shortestRow_any w5 (kdV i) cK (i * 110) gk cs (some ⟨g', 0, none⟩) n g' 0 hcod (kdefV i) q1 (fun d hd => by
          obtain ⟨k, hk, rfl⟩ := List.mem_iff_getElem.1 hd
          have h3 := tell_sel _ (hT k (by omega)) i hlt
          have h4 := q3 k (by omega)
          rw [List.getElem?_eq_getElem hk] at h4
          exact code_in i _ _ hlt h4 (by omega)) (by omega) (by omega)
        rw [q2] at this
        refine this.mono ?_
        rintro e w6 ⟨R', vt, vc, vp, rfl, r1, ⟨⟨at_, capt, gt, ot, rfl, t1, t2⟩, ⟨gg, capg, rfl, t3, t4⟩, ⟨pg, rfl, t5, t6⟩⟩, r3⟩
        have hk6 := q5.trans' r3
        have hL6 := hL.row_ hlt hk6 R' cs at_ capt gt ot gg capg pg (some ⟨g', 0, none⟩) n g' 0 q2 t1 (fun e => by have := t2 e; have := q5.size; omega) t3 (by have := q5.size; omega) (by rw [q2] at t5; exact t5) (by have := q5.size; omega) (q1.keep r3 (fun _ h => h)) (fun _ => q4) r1 q3
        obtain ⟨arr, a1, a2⟩ := (hL.to hk6).rows
        rw [q2]
        refine ⟨(rowC R' n at_ capt gg capg pg (some ⟨g', 0, none⟩) n).toArray, _, rfl, ⟨fun j hj => ⟨by rw [cell_of a1, Array.getElem?_eq_getElem (by have hj5 : j < 5 := hj; omega)]; rfl, frozen_of a1 _⟩, info122, all_oneCell_toArray (rowC_one _ _ _ _ _ _ _ _ _), rfl⟩, ⟨updN R i R', updN c i cs, ?_⟩⟩
        rw [kbS_congr _ R i (fun v hv => updN_lt R i R' v hv)]
        exact hL6)
      clear HI
      go_wp2_with fail
      refine region_last (fun _ => True) 10 mx trivial (fun hS => ?_)
      refine last_take (i := 0) (v := ?_) rfl (by kernel_rfl) (by kernel_rfl) (by kernel_rfl) (by kernel_rfl) (fun _ _ _ h => h) (Or.inl ⟨by rfl, ?_⟩) (by assumption) ?_
      rotate_left 1
      · intro w hSw; (try dsimp only at hSw); (go_simp <;> with_reducible rfl)
      simp only [Act.put, List.getElem_toArray, List.getElem_cons_zero, List.setIfInBounds_toArray, List.set_cons_zero, List.set_cons_succ]
      refine last_take (i := 1) (v := ?_) rfl (by kernel_rfl) (by kernel_rfl) (by kernel_rfl) (by kernel_rfl) (fun _ _ _ h => h) (Or.inl ⟨by rfl, ?_⟩) (by assumption) ?_
      rotate_left 1
      · intro w hSw; (try dsimp only at hSw); (go_simp <;> with_reducible rfl)
      simp only [Act.put, List.getElem_toArray, List.getElem_cons_zero, List.getElem_cons_succ, List.setIfInBounds_toArray, List.set_cons_zero, List.set_cons_succ]
      refine last_take (i := 2) (v := ?_) rfl (by kernel_rfl) (by kernel_rfl) (by kernel_rfl) (by kernel_rfl) (fun _ _ _ h => h) (Or.inl ⟨by rfl, ?_⟩) (by assumption) ?_
      rotate_left 1
      · intro w hSw; (try dsimp only at hSw); (go_simp <;> with_reducible rfl)
      simp only [Act.put, List.getElem_toArray, List.getElem_cons_zero, List.getElem_cons_succ, List.setIfInBounds_toArray, List.set_cons_zero, List.set_cons_succ]
      refine last_take (i := 3) (v := ?_) rfl (by kernel_rfl) (by kernel_rfl) (by kernel_rfl) (by kernel_rfl) (fun _ _ _ h => h) (Or.inl ⟨by rfl, ?_⟩) (by assumption) ?_
      rotate_left 1
      · intro w hSw; (try dsimp only at hSw); (go_simp <;> with_reducible rfl)
      simp only [Act.put, List.getElem_toArray, List.getElem_cons_zero, List.getElem_cons_succ, List.setIfInBounds_toArray, List.set_cons_zero, List.set_cons_succ]
      refine last_take (i := 4) (v := ?_) rfl (by kernel_rfl) (by kernel_rfl) (by kernel_rfl) (by kernel_rfl) (fun _ _ _ h => h) (Or.inl ⟨by rfl, ?_⟩) (by assumption) ?_
      rotate_left 1
      · intro w hSw; (try dsimp only at hSw); (go_simp <;> with_reducible rfl)
      simp only [Act.put, List.getElem_toArray, List.getElem_cons_zero, List.getElem_cons_succ, List.setIfInBounds_toArray, List.set_cons_zero, List.set_cons_succ]
      refine last_take (i := 5) (v := ?_) rfl (by kernel_rfl) (by kernel_rfl) (by kernel_rfl) (by kernel_rfl) (fun _ _ _ h => h) (Or.inl ⟨by rfl, ?_⟩) (by assumption) ?_
      rotate_left 1
      · intro w hSw; (try dsimp only at hSw); (go_simp <;> with_reducible rfl)
      simp only [Act.put, List.getElem_toArray, List.getElem_cons_zero, List.getElem_cons_succ, List.setIfInBounds_toArray, List.set_cons_zero, List.set_cons_succ]
      refine last_take (i := 6) (v := ?_) rfl (by kernel_rfl) (by kernel_rfl) (by kernel_rfl) (by kernel_rfl) (fun _ _ _ h => h) (Or.inl ⟨by rfl, ?_⟩) (by assumption) ?_
      rotate_left 1
      · intro w hSw; (try dsimp only at hSw); (go_simp <;> with_reducible rfl)
      simp only [Act.put, List.getElem_toArray, List.getElem_cons_zero, List.getElem_cons_succ, List.setIfInBounds_toArray, List.set_cons_zero, List.set_cons_succ]
      refine last_one (j := 7) (by kernel_rfl) rfl (fun K hK => ?_)
      rw [if_pos (by rfl)]
      simp only [List.getElem_toArray, List.getElem_cons_zero, List.getElem_cons_succ]
      go_simp
      refine (HC48.out 1).mono ?_
      rintro e w5 ⟨g', cs, rfl, HK5⟩
      refine hK.out _ _ (fun _ => trivial) ?_
      try simp only [Act.put, List.getElem_toArray, List.getElem_cons_zero, List.getElem_cons_succ, List.setIfInBounds_toArray, List.set_cons_zero, List.set_cons_succ]
      clear hK K
      refine last_one (j := 8) (by kernel_rfl) rfl (fun K hK => ?_)
      rw [if_pos (by rfl)]
      simp only [List.getElem_toArray, List.getElem_cons_zero, List.getElem_cons_succ]
      go_simp
      refine (HC47.out w5 g' cs HK5).mono ?_
      rintro e w6 ⟨C, W9, rfl, HST, HL9⟩
      refine hK.out _ _ (fun _ => trivial) ?_
      try simp only [Act.put, List.getElem_toArray, List.getElem_cons_zero, List.getElem_cons_succ, List.setIfInBounds_toArray, List.set_cons_zero, List.set_cons_succ]
      clear hK K
      refine last_one (j := 9) (by kernel_rfl) rfl (fun K hK => ?_)
      rw [if_pos (by rfl)]
      simp only [List.getElem_toArray, List.getElem_cons_zero, List.getElem_cons_succ]
      go_simp
      refine hK.out _ _ (fun _ => trivial) ?_
      try simp only [Act.put, List.getElem_toArray, List.getElem_cons_zero, List.getElem_cons_succ, List.setIfInBounds_toArray, List.set_cons_zero, List.set_cons_succ]
      clear hK K
      refine last_one (j := 10) (by kernel_rfl) rfl (fun K hK => ?_)
      rw [if_pos (by rfl)]
      refine wp_store_mid 122 (.tmp 29) (.tmp 28) rfl rb (i * 5) C rfl rfl HST.out.1 HST.out.2.1 HST.out.2.2.1 ?_
      rw [HST.out.2.2.2]
      refine hK.out _ _ (fun e => absurd rfl e) ?_
      clear hK K HST HK5 HC48 HC47
      refine last_done (by kernel_rfl) ?_ _
      obtain ⟨R, c, hL9⟩ := HL9.out
      have hk3 : ∀ v, v < i + 1 → (R v).k < 3 := fun v hv => (hL9.ok v hv).1.told.k
      have hkb : kbS R i < 256 ∧ kbS R (i + 1) < 256 ∧ bits .or .u8 ((kbS R i : Nat) : Int) (((R i).k * 2 ^ (6 - 2 * i) : Nat) : Int) = ((kbS R (i + 1) : Nat) : Int) := by
        have e : ∀ v, v < i + 1 → R v = (fun v => if v < i + 1 then R v else ⟨0, [], tbA 0, fun _ => 0⟩) v := fun v hv => (if_pos hv).symm
        have hk4 : ∀ v, v < 3 → ((fun v => if v < i + 1 then R v else ⟨0, [], tbA 0, fun _ => 0⟩) v : RowP).k < 3 := fun v _ => by
          dsimp only
          split
          · exact hk3 v (by assumption)
          · decide
        have q1 := kb_lt _ hk4 i (by omega)
        have q2 := kb_lt _ hk4 (i + 1) (by omega)
        have q3 := kb_or _ hk4 i hlt
        rw [← kbS_congr R _ i (fun v hv => e v (by omega))] at q1 q3
        rw [← kbS_congr R _ (i + 1) e] at q2 q3
        rw [if_pos (show i < i + 1 by omega)] at q3
        exact ⟨q1, q2, q3⟩
      obtain ⟨kb, hkbe⟩ : ∃ kb, kb = kbS R i := ⟨_, rfl⟩
      obtain ⟨kb', hkbe'⟩ : ∃ kb', kb' = kbS R (i + 1) := ⟨_, rfl⟩
      rw [← hkbe, ← hkbe'] at hkb
      rw [← hkbe] at hL9
      obtain ⟨W10, hW10⟩ : ∃ W10, W10 = W9.drew := ⟨_, rfl⟩
      have hL10 := hL9.to (show Keep noBlock W9 W10 from by rw [hW10]; exact (Keep.refl _ W9).drew)
      obtain ⟨bβ, capb, hu4, d1, d2⟩ := hL10.slice (by omega) (by omega) hkb.1 h2
      rw [← HM.out] at d1 d2
      have hblen := hL10.len (by omega) (by omega)
      have hml : m < (layB n kb R i).length := by rw [layB_len, HM.out]; omega
      obtain ⟨N, hN⟩ : ∃ N, N = (layB n kb R i).length := ⟨_, rfl⟩
      rw [← hN] at hu4 hblen hml
      rw [hu4] at hL10
      obtain ⟨at_, capt, gt, ot, gg, capg, pg, ac, capc, gc, oc, x1, -⟩ := hL10.row i (by omega)
      have d3 : W10.cell? ⟨rb, i * 5, none⟩ = some (.int .i64 ((R i).k : Int)) := x1 0 _ rfl
      obtain ⟨k, hk⟩ : ∃ k, k = (R i).k := ⟨_, rfl⟩
      have hk2 : k < 3 := by rw [hk]; exact hk3 i (by omega)
      rw [← hk] at d3 hkb
      have HSh := (show Hid (Calls Tryz.prog 32 #[.int .i64 (i : Int)] W10 fun e w' => e = .returned (.int .i64 ((6 - 2 * i : Nat) : Int)) ∧ w' = W10) from shiftOf_any i (by omega) W10)
      obtain ⟨sh, hsh⟩ : ∃ sh, sh = 6 - 2 * i := ⟨_, rfl⟩
      rw [← hsh] at HSh hkb
      obtain ⟨z, hz⟩ : ∃ z, z = k * 2 ^ sh := ⟨_, rfl⟩
      rw [← hz] at hkb
      have hzI : (k : Int) * 2 ^ sh = (z : Int) := by rw [hz]; simp
      have hzb : z ≤ 128 := by
        rw [hz]
        have h6 : 2 ^ sh ≤ 2 ^ 6 := Nat.pow_le_pow_right (by omega) (by omega)
        exact Nat.le_trans (Nat.mul_le_mul (show k ≤ 2 by omega) h6) (by decide)
      have hwz : IntKind.i64.wrap (z : Int) = (z : Int) := by rw [IntKind.wrap_i64]; omega
      have hwz8 : IntKind.u8.wrap (z : Int) = (z : Int) := by rw [IntKind.wrap_u8]; omega
      have hor := hkb.2.2
      have hkb1 := hkb.1
      have hkb2 := hkb.2.1
      have hL11 := hL10.kind kb' hN
      rw [← HM.out] at hL11
      obtain ⟨at2, capt2, gt2, ot2, gg2, capg2, pg2, ac2, capc2, gc2, oc2, y1, y2, -⟩ := hL11.row i (by omega)
      have d4 : (W10.setCell ⟨bβ, m, none⟩ (.int .u8 (kb' : Int))).cell? ⟨rb, i * 5 + 1, none⟩ = some (.slice at2 (R i).told.length capt2) := y1 1 _ rfl
      have htl := (hL10.ok i (by omega)).1.told.len
      obtain ⟨v5, W12, hrun, s1, s2, s3⟩ := run_append_all (W10.setCell ⟨bβ, m, none⟩ (.int .u8 (kb' : Int))) 22 _ _ (R i).told hL11.own (by have := hL11.len (by omega) (by omega); omega) _ y2.src
      have HF := (show Hid (LySt w W12 cK g0 g1 g2 rb n l (i + 1) (kbS R (i + 1)) (i + 1) v5 R c) from by rw [← hkbe']; exact hL11.tell s1 s2 s3)
      have HR := hid hrun
      obtain ⟨tn, htn⟩ : ∃ tn, tn = (R i).told.length := ⟨_, rfl⟩
      rw [← htn] at d4 HR
      have hsI : (sh : Int) ≤ 6 := by omega
      have hkI : (k : Int) < 3 := by omega
      have hNI : (m : Int) < (N : Int) := by omega
      subst hu4
      have HW10 := hid hW10
      clear hW10 hk3 hkb hkbe hkbe' hL9 hL10 hL11 x1 y1 y2 htl s1 s2 s3 hrun htn hN hblen hk hsh hz HL9
      go_wp2_with fail
      refine region_tail 13 mx (by kernel_rfl) ?_
      rw [← HW10.out]
      clear HW10
      simp only [List.take_succ_cons, List.take_zero, List.drop_succ_cons, List.drop_zero]
      repeat (quiet_step (fail))
      refine wpQuiet_step (fun K hK => ?_)
      go_simp
      refine ⟨_, HSh.out, hK _ ?_⟩
      clear hK K
      repeat (quiet_step (fail))
      refine wpQuiet_nil ?_
      go_wp2_with (at_builtin; refine wpList_append_run _ rfl _ _ 22 rfl _ _ _ _ rfl rfl HR.out ?_)
      go_roundw
      case rel => exact ⟨i + 1, by go_num, by omega, R, c, HF.out⟩
      case measure => simp [intOf]; omega
    · obtain rfl : i = 3 := by omega
      rw [show (((3 : Nat) : Int)) = (3 : Int) from rfl]
      obtain ⟨R, c, hL⟩ := HI.out
      obtain ⟨hS, hO, hT, e1⟩ := HH.out
      have hok := tri_ok l R c (by omega) (by omega) hT (fun v hv => ⟨(hL.ok v hv).1, by rw [(hL.ok v hv).2.1, e1], fun k hk => (hL.ok v hv).2.2 k (by omega)⟩)
      have hx : ∀ v, v < 3 → ∀ k, k < l.length → selS v (l[k]?.getD (0, 0, 0)) = (((selS v (l[k]?.getD (0, 0, 0))).toNat : Nat) : Int) := fun v hv k hk => by
        have h3 := tell_sel _ (hT k hk) v hv
        omega
      have hLay : Lay wr cK g0 g1 g2 rb 0 a cap g off l ⟨l.length, fun v k => (selS v (l[k]?.getD (0, 0, 0))).toNat, c, R⟩ :=
        ⟨hL.cods, hS.keep hL.kp, fun v hv => (hL.row v hv).at_, hok, hO.keep hL.kp, rfl, hx⟩
      have hpt := putTail_any wr cK g0 g1 g2 rb 0 a cap g off l _ hLay
      obtain ⟨t, ht⟩ : ∃ t : Tri, t = ⟨l.length, fun v k => (selS v (l[k]?.getD (0, 0, 0))).toNat, c, R⟩ := ⟨_, rfl⟩
      rw [← ht, ← e1] at hpt
      have HT := (show Hid (TriOk t ∧ t.n = n ∧ t.R = R ∧ t.n = l.length ∧ ∀ v, v < 3 → ∀ k, k < t.n → selS v (l[k]?.getD (0, 0, 0)) = ((t.x v k : Nat) : Int)) from ⟨by rw [ht]; exact hok, by rw [ht, e1], by rw [ht], by rw [ht], by rw [ht]; exact hx⟩)
      have HP := hid hpt
      have HL := hid hL
      clear hL hS hO hT e1 hok hx hLay hpt ht HI
      go_wp2_with fail
      refine HP.out.mono ?_
      rintro e w5 ⟨v', rfl, q1, q2⟩
      obtain ⟨t1, t2, t3, t4, t5⟩ := HT.out
      have hlb : (pack (tlAll t ++ [1])).length ≤ 2000000 := by
        have e1 := t1.tl_le t.n (Nat.le_refl _)
        have e2 := t1.fs_le 3
        rw [pack_length]
        unfold tlAll
        simp only [List.length_append, List.length_cons, List.length_nil]
        omega
      obtain ⟨a5, cap5, g5, he5, hB5, -⟩ := owns_bytes q1 (pack_lt _) (by omega)
      have hL5 := HL.out.to q2
      obtain ⟨v6, w6, hrun, s1, s2, s3⟩ := run_append_all w5 22 u4 _ (pack (tlAll t ++ [1])) hL5.own (by have := hL5.len (by omega) (by omega); omega) v' (by rw [he5]; exact hB5.src)
      have HR := hid hrun
      have HF := (show Hid (LayPost w l (.returned v6) w6) from by
        refine ⟨v6, _, t, rfl, ⟨?_, t1, t4, t5⟩, s1, hL5.kp.trans s2 (fun k hk e => by have := (hL5.far k e).1; omega)⟩
        rw [t2, t3]
        rfl)
      clear q1 q2 t1 t2 t3 t4 t5 hlb he5 hB5 hL5 s1 s2 s3 hrun HL HP HT
      go_wp2_with (at_builtin; refine wpList_append_run _ rfl _ _ 22 rfl _ _ _ _ rfl rfl HR.out ?_)
      go_ret
      exact HF.out
end
end Go.Proofs.YtgaepmmpedaaiaaGreatDoor

namespace Go.Proofs.YtgaepmmpedaaiaaGreatDoor
open Go.RowKit Go.Shelf
set_option linter.unusedVariables false

def toldB (l : List Stp) : Bool := l.all (fun s => tellS s.1 s.2.1 s.2.2)
theorem toldB_all {l : List Stp} (h : toldB l = true) : AllTold l := fun k hk => by
  rw [List.getElem?_eq_getElem hk]
  exact List.all_eq_true.1 h _ (List.getElem_mem hk)
theorem toldB_of {l : List Stp} (h : ∀ k, k < l.length → tellS (l[k]?.getD (0, 0, 0)).1 (l[k]?.getD (0, 0, 0)).2.1 (l[k]?.getD (0, 0, 0)).2.2 = true) : toldB l = true := by
  refine List.all_eq_true.2 (fun s hs => ?_)
  obtain ⟨k, hk, rfl⟩ := List.mem_iff_getElem.1 hs
  have := h k hk
  rwa [List.getElem?_eq_getElem hk] at this
theorem toldB_not {l : List Stp} {k : Nat} (hk : k < l.length) (h : tellS (l[k]?.getD (0, 0, 0)).1 (l[k]?.getD (0, 0, 0)).2.1 (l[k]?.getD (0, 0, 0)).2.2 = false) : toldB l = false := by
  cases hb : toldB l with
  | false => rfl
  | true => have := toldB_all hb k hk; rw [h] at this; cases this
/-- Bytes that tell l. -/
def SecOf (l : List Stp) (B : List Nat) : Prop := (l = [] ∧ B = [0]) ∨ ∃ t, IsLaid l B t
def WriPost (w : World) (l : List Stp) (e : Ending) (w' : World) : Prop := Keep noBlock w w' ∧
  ((toldB l = false ∧ e = .returned (.tuple #[.slice none 0 0, .int .i64 2])) ∨ (toldB l = true ∧ 65535 < l.length ∧ e = .returned (.tuple #[.slice none 0 0, .int .i64 3])) ∨
    (toldB l = true ∧ l.length ≤ 65535 ∧ ∃ v B, e = .returned (.tuple #[v, .int .i64 0]) ∧ SecOf l B ∧ w'.ownsRow 0 5 1 v B.length (u8s B)))
set_option maxRecDepth 100000 in
set_option maxHeartbeats 4000000 in
theorem writeS_any (w : World) (a : Option Addr) (cap g off : Nat) (l : List Stp) (hS : Seqs w a cap g off l) (hO : Ords w) (hl : l.length ≤ 140737488355328) :
    Calls Tryz.prog 12 #[.slice a l.length cap] w fun e w' => WriPost w l e w' := by
  obtain ⟨n, hn⟩ : ∃ n, n = l.length := ⟨_, rfl⟩
  have HH := (show Hid (Seqs w a cap g off l ∧ Ords w ∧ n = l.length) from ⟨hS, hO, hn⟩)
  rw [← hn] at hl ⊢
  have hnI : (n : Int) ≤ 140737488355328 := by omega
  clear hS hO hn
  go_enter Tryz.func12, Tryz.ntmps12
  go_wp2_with fail
  go_loopw [8] (fun v8 wr => ∃ i : Nat, v8 = .int .i64 (i : Int) ∧ i ≤ n ∧ Hid (Keep noBlock w wr ∧ ∀ k, k < i → tellS (l[k]?.getD (0, 0, 0)).1 (l[k]?.getD (0, 0, 0)).2.1 (l[k]?.getD (0, 0, 0)).2.2 = true)) (fun v8 _ => n - (intOf v8).toNat)
  case atStart => exact ⟨0, rfl, Nat.zero_le _, Keep.refl _ _, fun k hk => by omega⟩
  case round =>
    obtain ⟨i, rfl, hi, HC⟩ := hrel
    by_cases hlt : i < n
    · have hiI : (i : Int) < (n : Int) := by omega
      obtain ⟨hK, hT⟩ := HC.out
      obtain ⟨hS, hO, e1⟩ := HH.out
      have hS' := hS.keep hK
      obtain rfl := hS'.at_.resolve_right (fun e => by rw [e] at e1; simp at e1; omega)
      obtain ⟨d1, d2, d3⟩ := hS'.cells i (by omega)
      obtain ⟨s, hs⟩ : ∃ s, s = l[i]?.getD (0, 0, 0) := ⟨_, rfl⟩
      rw [← hs] at d1 d2 d3
      obtain ⟨x, y, z⟩ := s
      dsimp only at d1 d2 d3
      have HS := hid hs
      have HB := (show Hid (∀ W' : World, Keep noBlock wr W' → Calls Tryz.prog 25 #[.agg #[.int .i64 x, .int .i64 y, .int .i64 z]] W' fun e w' => e = .returned (.bool (tellS x y z)) ∧ Hid (Keep noBlock w w')) from fun W' hk' => by
        refine (canBeTold_any x y z W').mono ?_
        rintro e w' ⟨rfl, k⟩
        exact ⟨rfl, (hK.trans' hk').trans' k⟩)
      have HAL := (show Hid (Keep noBlock wr (wr.alloc (.cells #[.int .i64 x, .int .i64 y, .int .i64 z] 42))) from (Keep.refl _ wr).alloc _)
      clear hK hT hS hO hS' hs e1
      cases hb : tellS x y z with
      | true =>
        have HBT := hid hb
        rw [hb] at HB
        clear hb
        go_wp2_with fail
        refine (HB.out _ HAL.out).mono ?_
        rintro e w2 ⟨rfl, HK2⟩
        clear HB HAL d1 d2 d3
        go_wp2_with fail
        go_roundw
        case rel =>
          refine ⟨i + 1, by go_num, by omega, HK2.out, fun k hk => ?_⟩
          by_cases e : k = i
          · rw [e, ← HS.out]; exact HBT.out
          · exact HC.out.2 k (by omega)
        case measure => simp [intOf]; omega
      | false =>
        have HBT := hid hb
        rw [hb] at HB
        clear hb
        go_wp2_with fail
        refine (HB.out _ HAL.out).mono ?_
        rintro e w2 ⟨rfl, HK2⟩
        clear HB HAL d1 d2 d3
        go_wp2_with fail
        go_ret2
        refine ⟨HK2.out, .inl ⟨toldB_not (k := i) (by rw [← HH.out.2.2]; exact hlt) ?_, rfl⟩⟩
        rw [← HS.out]
        exact HBT.out
    · obtain rfl : i = n := by omega
      have hltI : ¬ (i : Int) < (i : Int) := by omega
      have HT := (show Hid (toldB l = true ∧ Keep noBlock w wr) from ⟨toldB_of (fun k hk => HC.out.2 k (by rw [HH.out.2.2]; exact hk)), HC.out.1⟩)
      clear HC
      by_cases hbig : 65535 < i
      · have hbI : (65535 : Int) < (i : Int) := by omega
        go_wp2_with fail
        go_ret2
        exact ⟨HT.out.2, .inr (.inl ⟨HT.out.1, by rw [← HH.out.2.2]; exact hbig, rfl⟩)⟩
      · have hbI : ¬ (65535 : Int) < (i : Int) := by omega
        by_cases h0 : i = 0
        · subst h0
          rw [show (((0 : Nat) : Int)) = (0 : Int) from rfl]
          have HP := (show Hid (Calls Tryz.prog 26 #[.int .i64 0] wr fun e w' => NumPost wr 0 e w') from putNumber_any 0 (by omega) wr)
          go_wp2_with fail
          refine HP.out.mono ?_
          rintro e w2 ⟨rfl, q1, q2, q3⟩
          have HQ := hid (And.intro q1 q2)
          clear q1 q2 q3 HP
          go_wp2_with fail
          go_ret2
          have e1 := HH.out.2.2
          exact ⟨HT.out.2.trans' HQ.out.2, .inr (.inr ⟨HT.out.1, by omega, _, _, rfl, .inl ⟨List.length_eq_zero_iff.1 e1.symm, rfl⟩, HQ.out.1⟩)⟩
        · have h0I : ((i : Int) == 0) = false := by simp; omega
          have hly := lay_any wr a cap g off l (HH.out.1.keep HT.out.2) (HH.out.2.1.keep HT.out.2) (toldB_all HT.out.1) (by rw [← HH.out.2.2]; omega) (by rw [← HH.out.2.2]; omega)
          rw [← HH.out.2.2] at hly
          have HP := hid hly
          clear hly
          go_wp2_with fail
          refine HP.out.mono ?_
          rintro e w2 ⟨v, B, t, rfl, q1, q2, q3⟩
          have HQ := hid (And.intro q1 (And.intro q2 q3))
          clear q1 q2 q3 HP
          go_wp2_with fail
          go_ret2
          exact ⟨HT.out.2.trans' HQ.out.2.2, .inr (.inr ⟨HT.out.1, by rw [← HH.out.2.2]; omega, v, B, rfl, .inr ⟨t, HQ.out.1⟩, HQ.out.2.1⟩)⟩
end Go.Proofs.YtgaepmmpedaaiaaGreatDoor

namespace Go.Proofs.YtgaepmmpedaaiaaGreatDoor
open Go.RowKit Go.Shelf
set_option linter.unusedVariables false

/-- Block sb is a section that has these bytes left, in block g. -/
def Sec (w : World) (sb g : Nat) (bs : List Nat) : Prop := ∃ a cap off, IsSec w sb (.slice a bs.length cap) ∧ Bytes w a cap g off bs ∧ g ≠ sb
theorem Sec.keep {w w' : World} {S : Nat → Prop} {sb g : Nat} {bs : List Nat} (h : Sec w sb g bs) (hk : Keep S w w') (h1 : ¬ S sb) (h2 : ¬ S g) : Sec w' sb g bs := by
  obtain ⟨a, cap, off, q1, q2, q3⟩ := h
  exact ⟨a, cap, off, q1.keep hk h1, q2.keep hk (fun _ => h2), q3⟩
theorem sec_next (sb g x : Nat) (bs : List Nat) (w : World) (h : Sec w sb g (x :: bs)) :
    Calls Tryz.prog 28 #[.pointer (some ⟨sb, 0, none⟩)] w fun e w' => e = .returned (.tuple #[.int .i64 (x : Int), .bool true]) ∧ Sec w' sb g bs ∧ Keep (fun k => k = sb) w w' := by
  obtain ⟨a, cap, off, q1, q2, q3⟩ := h
  obtain rfl := q2.at_.resolve_right (by simp)
  have hx : x < 256 := q2.lt 0
  have hc := q2.cells 0 (by simp)
  obtain ⟨a', off', hs, hB, -⟩ := q2.drop 1 (by simp)
  rw [Nat.add_zero] at hc
  refine (next_some sb g off bs.length cap x (cap - 1) a' w q1 hc hx hs).mono ?_
  rintro e w' ⟨rfl, r1, r2⟩
  exact ⟨rfl, ⟨a', cap - 1, off', r1, hB.keep r2 (fun _ => q3), q3⟩, r2⟩

set_option maxHeartbeats 4000000 in
theorem number_any (sb g n : Nat) (hn : n ≤ 65535) (bs : List Nat) (w : World) (h : Sec w sb g (numB n ++ bs)) :
    Calls Tryz.prog 13 #[.pointer (some ⟨sb, 0, none⟩)] w fun e w' => e = .returned (.tuple #[.int .i64 (n : Int), .bool true]) ∧ Sec w' sb g bs ∧ Keep (fun k => k = sb) w w' := by
  unfold numB at h
  by_cases h1 : n < 128
  · rw [if_pos h1] at h
    have HN := hid (sec_next sb g n bs w h)
    have hx1 : decide ((n : Int) < 128) = true := decide_eq_true (by omega)
    clear h
    go_enter Tryz.func13, Tryz.ntmps13
    go_wp2_with fail
    refine HN.out.mono ?_
    rintro e w' ⟨rfl, h1, h2⟩
    have HF := hid (And.intro h1 h2)
    clear h1 h2
    go_wp2_with fail
    go_ret2
    exact ⟨rfl, HF.out⟩
  · rw [if_neg h1] at h
    by_cases h2 : n < 32512
    · rw [if_pos h2] at h
      obtain ⟨q, hq⟩ : ∃ q, q = 128 + n / 256 := ⟨_, rfl⟩
      obtain ⟨r, hr⟩ : ∃ r, r = n % 256 := ⟨_, rfl⟩
      rw [← hq, ← hr] at h
      have HN := hid (sec_next sb g q (r :: bs) w h)
      have HN2 := (show Hid (∀ w', Sec w' sb g (r :: bs) → _) from fun w' h' => sec_next sb g r bs w' h')
      have hx1 : decide ((q : Int) < 128) = false := decide_eq_false (by omega)
      have hx2 : decide ((q : Int) < 255) = true := decide_eq_true (by omega)
      obtain ⟨d, hd⟩ : ∃ d, d = n / 256 := ⟨_, rfl⟩
      have hdI : (q : Int) - 128 = (d : Int) := by omega
      obtain ⟨f, hf⟩ : ∃ f, f = d * 256 := ⟨_, rfl⟩
      have hfI : (d : Int) * 256 = (f : Int) := by omega
      have hnI : (f : Int) + (r : Int) = (n : Int) := by omega
      have hdb : (d : Int) < 128 := by omega
      have hfb : (f : Int) < 65536 := by omega
      have hnb : (n : Int) < 65536 := by omega
      have hwd : IntKind.i64.wrap (d : Int) = (d : Int) := by rw [IntKind.wrap_i64]; omega
      have hwf : IntKind.i64.wrap (f : Int) = (f : Int) := by rw [IntKind.wrap_i64]; omega
      have hwn : IntKind.i64.wrap (n : Int) = (n : Int) := by rw [IntKind.wrap_i64]; omega
      clear h hq hr hd hf
      go_enter Tryz.func13, Tryz.ntmps13
      go_wp2_with fail
      refine HN.out.mono ?_
      rintro e w' ⟨rfl, h1, h2⟩
      have HM := hid (HN2.out w' h1)
      have HK := hid h2
      clear h1 h2 HN HN2
      go_wp2_with fail
      refine HM.out.mono ?_
      rintro e w2 ⟨rfl, h1, h2⟩
      have HF := hid (And.intro h1 (HK.out.trans' h2))
      clear h1 h2 HM HK
      go_wp2_with fail
      go_ret2
      exact ⟨rfl, HF.out⟩
    · rw [if_neg h2] at h
      obtain ⟨r, hr⟩ : ∃ r, r = (n - 32512) % 256 := ⟨_, rfl⟩
      obtain ⟨d, hd⟩ : ∃ d, d = (n - 32512) / 256 := ⟨_, rfl⟩
      rw [← hd, ← hr] at h
      have HN := (show Hid (Calls Tryz.prog 28 #[.pointer (some ⟨sb, 0, none⟩)] w fun e w' => e = .returned (.tuple #[.int .i64 255, .bool true]) ∧ Sec w' sb g (r :: d :: bs) ∧ Keep (fun k => k = sb) w w') from sec_next sb g 255 (r :: d :: bs) w h)
      have HN2 := (show Hid (∀ w', Sec w' sb g (r :: d :: bs) → _) from fun w' h' => sec_next sb g r (d :: bs) w' h')
      have HN3 := (show Hid (∀ w', Sec w' sb g (d :: bs) → _) from fun w' h' => sec_next sb g d bs w' h')
      obtain ⟨f, hf⟩ : ∃ f, f = d * 256 := ⟨_, rfl⟩
      have hfI : (d : Int) * 256 = (f : Int) := by omega
      obtain ⟨s, hs⟩ : ∃ s, s = r + f := ⟨_, rfl⟩
      have hsI : (r : Int) + (f : Int) = (s : Int) := by omega
      have hnI : (s : Int) + 32512 = (n : Int) := by omega
      have hdb : (d : Int) < 256 := by omega
      have hfb : (f : Int) < 65536 := by omega
      have hsb : (s : Int) < 65536 := by omega
      have hnb : (n : Int) < 65536 := by omega
      have hwf : IntKind.i64.wrap (f : Int) = (f : Int) := by rw [IntKind.wrap_i64]; omega
      have hws : IntKind.i64.wrap (s : Int) = (s : Int) := by rw [IntKind.wrap_i64]; omega
      have hwn : IntKind.i64.wrap (n : Int) = (n : Int) := by rw [IntKind.wrap_i64]; omega
      clear h hr hd hf hs
      go_enter Tryz.func13, Tryz.ntmps13
      go_wp2_with fail
      refine HN.out.mono ?_
      rintro e w' ⟨rfl, h1, h2⟩
      have HM := hid (HN2.out w' h1)
      have HK := hid h2
      clear h1 h2 HN HN2
      go_wp2_with fail
      refine HM.out.mono ?_
      rintro e w2 ⟨rfl, h1, h2⟩
      have HM2 := hid (HN3.out w2 h1)
      have HK2 := hid (HK.out.trans' h2)
      clear h1 h2 HM HK HN3
      go_wp2_with fail
      refine HM2.out.mono ?_
      rintro e w3 ⟨rfl, h1, h2⟩
      have HF := hid (And.intro h1 (HK2.out.trans' h2))
      clear h1 h2 HM2 HK2
      go_wp2_with fail
      go_ret2
      exact ⟨rfl, HF.out⟩
end Go.Proofs.YtgaepmmpedaaiaaGreatDoor

namespace Go.Proofs.YtgaepmmpedaaiaaGreatDoor
open Go.RowKit Go.Shelf
set_option linter.unusedVariables false

def TabPost (w : World) (sb g : Nat) (T : Tb) (rest : List Nat) (e : Ending) (w' : World) : Prop :=
  ∃ tg cap, e = .returned (.tuple #[.slice (some ⟨tg, 0, none⟩) (2 ^ T.l) cap, .int .i64 0]) ∧ IsTb w' tg T ∧ w.heap.size ≤ tg ∧ Sec w' sb g rest ∧ Keep (fun k => k = sb) w w'
set_option maxHeartbeats 4000000 in
theorem readUntold_any (w : World) (sb g b o gk : Nat) (K : Kd) (rest : List Nat) (z : Value) (hS : Sec w sb g rest) (hC : Coding w b o gk K) (hD : KDef K) :
    Calls Tryz.prog 50 #[.pointer (some ⟨sb, 0, none⟩), .pointer (some ⟨b, o, none⟩), z] w fun e w' => TabPost w sb g (tbX K.cs K.l) rest e w' := by
  have c1 := hC.cn
  have c2 := hC.lg
  obtain ⟨m, hm⟩ : ∃ m, m = K.cs.length := ⟨_, rfl⟩
  rw [← hm] at c1
  have d1 : ∀ q, (w.drewN q).cell? ⟨b, o + 109, none⟩ = some (.slice (some ⟨gk, 0, none⟩) m m) := fun q => c1
  have d2 : ∀ q, (w.drewN q).cell? ⟨b, o + 108, none⟩ = some (.int .i64 (K.l : Int)) := fun q => c2
  obtain ⟨q, hq⟩ : ∃ q, q = 2 ^ K.l := ⟨_, rfl⟩
  have HT := (show Hid (∀ z, Calls Tryz.prog 76 #[.slice (some ⟨gk, 0, none⟩) m m, .int .i64 (K.l : Int)] (w.drewN z) fun e w' => ∃ tg cap', e = .returned (.tuple #[.slice (some ⟨tg, 0, none⟩) q cap', .int .i64 0]) ∧ Hid (w.heap.size ≤ tg ∧ IsTb w' tg (tbX K.cs K.l) ∧ Keep noBlock w w') ∧ w'.cell? ⟨b, o + 109, none⟩ = some (.slice (some ⟨gk, 0, none⟩) m m) ∧ w'.cell? ⟨b, o + 108, none⟩ = some (.int .i64 (K.l : Int))) from fun z => by
    have h1 := hC.keep (keep_drewN w z) (fun h => h) (fun h => h)
    have := table_good _ _ _ _ K.cs K.l (w.drewN z) h1.row hD.i16 hD.ok
    rw [← hm, ← hq] at this
    refine this.mono ?_
    rintro e w2 ⟨tg, capg, rfl, t1, t2, t3, t4⟩
    have hk := (keep_drewN w z).trans' t4
    have h2 := hC.keep hk (fun h => h) (fun h => h)
    have e1 := h2.cn
    rw [← hm] at e1
    rw [hq] at t3
    exact ⟨tg, capg, rfl, ⟨t1, t3, hk⟩, e1, h2.lg⟩)
  have HH := hid (And.intro hS hq)
  clear hS hC hD hm hq
  go_enter Tryz.func50, Tryz.ntmps50
  go_wp2_with fail
  go_region_held3 (fun W => W.cell? ⟨b, o + 109, none⟩ = some (.slice (some ⟨gk, 0, none⟩) m m) ∧ W.cell? ⟨b, o + 108, none⟩ = some (.int .i64 (K.l : Int))) (first | exact ⟨d1 _, d2 _⟩ | exact ⟨c1, c2⟩ | exact ⟨f1, f2⟩) ((first
    | (go_at_call 76; refine (HT.out 1).mono ?_; rintro e w2 ⟨tg, capg, rfl, HX, f1, f2⟩)))
  go_wp2_with fail
  go_ret2
  obtain ⟨t1, t3, t4⟩ := HX.out
  exact ⟨tg, capg, by rw [HH.out.2]; rfl, t3, t1, HH.out.1.keep t4 (fun h => h) (fun h => h), t4.mono (fun _ _ h => h.elim)⟩

set_option maxHeartbeats 4000000 in
theorem readAlone_any (w : World) (sb g b o gk : Nat) (K : Kd) (c : Nat) (rest : List Nat) (z : Value) (hS : Sec w sb g (c :: rest)) (hC : Coding w b o gk K) (hc : c < K.codes) (hne : b ≠ sb) :
    Calls Tryz.prog 52 #[.pointer (some ⟨sb, 0, none⟩), .pointer (some ⟨b, o, none⟩), z] w fun e w' => TabPost w sb g (tbA c) rest e w' := by
  have HN := hid (sec_next sb g c rest w hS)
  have hcl := hC.ok.le
  have HC := hid (show w.cell? ⟨b, o, none⟩ = some (.int .i64 (K.codes : Int)) ∧ b < w.heap.size from ⟨hC.codes, hC.lt⟩)
  obtain ⟨m, hm⟩ : ∃ m, m = K.codes := ⟨_, rfl⟩
  rw [← hm] at HC hc
  have hcI : ¬ (m : Int) ≤ (c : Int) := by omega
  have hw : IntKind.u8.wrap (c : Int) = (c : Int) := by rw [IntKind.wrap_u8]; omega
  clear hS hC hm hcl
  go_enter Tryz.func52, Tryz.ntmps52
  go_wp2_with fail
  refine HN.out.mono ?_
  rintro e w1 ⟨rfl, q1, q2⟩
  have c0 : w1.cell? ⟨b, o, none⟩ = some (.int .i64 (m : Int)) := (World.cell?_of_block (q2.block b HC.out.2 hne)).trans HC.out.1
  have HQ := hid (And.intro q1 q2)
  have HA := hid (aloneTable_any c w1)
  clear q1 q2 HN
  go_wp2_with fail
  refine HA.out.mono ?_
  rintro e w2 ⟨rfl, rfl⟩
  go_wp2_with fail
  go_ret2
  obtain ⟨q1, q2⟩ := HQ.out
  have ka : Keep noBlock w1 (w1.alloc (.cells #[.int .u8 (c : Int), .int .u8 0, .int .u16 0] 79)) := (Keep.refl _ w1).alloc _
  exact ⟨w1.heap.size, 1, rfl, alone_tab w1 c, q2.size, q1.keep ka (fun h => h) (fun h => h), q2.trans ka (fun _ _ h => h.elim)⟩

section
attribute [local go_sem] sliceSem_eq
set_option maxRecDepth 100000 in
set_option maxHeartbeats 8000000 in
theorem readDescribed_any (w : World) (sb g b o gk : Nat) (K : Kd) (xs : List Int) (l : Nat) (rest : List Nat) (z : Value) (hS : Sec w sb g (pack (alignL (dscAll xs l)) ++ rest)) (hC : Coding w b o gk K) (hb : okT xs (l : Int) = true) (hi : I16 xs) (hl : l ≤ K.ml) (hx : xs.length ≤ K.codes) (hr : rest.length ≤ 100000000) :
    Calls Tryz.prog 54 #[.pointer (some ⟨sb, 0, none⟩), .pointer (some ⟨b, o, none⟩), z] w fun e w' => TabPost w sb g (tbX xs l) rest e w' := by
  obtain ⟨a, cap, off, s1, s2, s3⟩ := hS
  obtain ⟨dl1, dl2, dl3⟩ := dscB_len hb
  have hml9 := hC.ok.ml9
  have hcl := hC.ok.le
  have hne : pack (alignL (dscAll xs l)) ++ rest ≠ [] := fun e => by
    have h1 := (List.append_eq_nil_iff.1 e).1
    have h2 : (pack (alignL (dscAll xs l))).length = 0 := by rw [h1]; rfl
    have h3 : (dscAll xs l).length = 4 + (dsc xs.length (2 ^ l) xs).length := by unfold dscAll; rw [List.length_append, low_length]
    omega
  obtain rfl := s2.at_.resolve_right hne
  obtain ⟨B, hB⟩ : ∃ B, B = pack (alignL (dscAll xs l)) ++ rest := ⟨_, rfl⟩
  have hLa := laid_pack (dscAll xs l) dl1 rest
  rw [← hB] at s1 s2 hne hLa
  have hBl : B.length = (pack (alignL (dscAll xs l))).length + rest.length := by rw [hB, List.length_append]
  obtain ⟨u, hu⟩ : ∃ u, u = (pack (alignL (dscAll xs l))).length := ⟨_, rfl⟩
  rw [← hu] at dl2 dl3 hBl
  obtain ⟨a', off', hs, hBd, -⟩ := s2.drop u (by omega)
  have hdr : B.drop u = rest := by rw [hB, hu]; exact List.drop_left
  rw [hdr] at hs hBd
  have c1 := cell_of s1 0
  have c2 := hC.ml
  have c3 := hC.codes
  obtain ⟨ml, hml⟩ : ∃ ml, ml = K.ml := ⟨_, rfl⟩
  obtain ⟨ms, hms⟩ : ∃ ms, ms = K.codes := ⟨_, rfl⟩
  obtain ⟨N, hN⟩ : ∃ N, N = B.length := ⟨_, rfl⟩
  obtain ⟨xn, hxn⟩ : ∃ xn, xn = xs.length := ⟨_, rfl⟩
  have hpos := hC.ok.pos
  rw [← hml] at c2 hl hml9
  rw [← hms] at c3 hx hcl hpos
  obtain ⟨m1, hm1⟩ : ∃ m1, m1 = ms - 1 := ⟨_, rfl⟩
  have hm1I : (ms : Int) - 1 = (m1 : Int) := by omega
  have hm1b : (m1 : Int) ≤ 52 := by omega
  have hwm : IntKind.i64.wrap (m1 : Int) = (m1 : Int) := by rw [IntKind.wrap_i64]; omega
  have c1' : w.cell? ⟨sb, 0, none⟩ = some (.slice (some ⟨g, off, none⟩) N cap) := by rw [hN]; exact c1
  rw [← hN] at hs
  have d0 : ∀ q, (w.drewN q).cell? ⟨sb, 0, none⟩ = some (.slice (some ⟨g, off, none⟩) N cap) ∧ (w.drewN q).cell? ⟨b, o + 107, none⟩ = some (.int .i64 (ml : Int)) ∧ (w.drewN q).cell? ⟨b, o, none⟩ = some (.int .i64 (ms : Int)) := fun q => ⟨c1', c2, c3⟩
  have HR := (show Hid (∀ q, Calls Tryz.prog 80 #[.slice (some ⟨g, off, none⟩) N cap, .int .i64 (ml : Int), .int .i64 (m1 : Int)] (w.drewN q) fun e w' => ∃ gc cap', e = .returned (.tuple #[.slice (some ⟨gc, 0, none⟩) xn cap', .int .i64 (l : Int), .int .i64 (u : Int), .int .i64 0]) ∧ Hid (w.heap.size ≤ gc ∧ RowI w' .i16 (some ⟨gc, 0, none⟩) cap' gc 0 xs ∧ Keep noBlock w w') ∧ (w'.cell? ⟨sb, 0, none⟩ = some (.slice (some ⟨g, off, none⟩) N cap) ∧ w'.cell? ⟨b, o + 107, none⟩ = some (.int .i64 (ml : Int)) ∧ w'.cell? ⟨b, o, none⟩ = some (.int .i64 (ms : Int)))) from fun q => by
    have := read_bytes g off cap B xs l ml m1 (w.drewN q) (s2.keep (keep_drewN w q) (fun _ h => h)) (by omega) hb hLa hl (by omega) (by omega) (by omega)
    rw [← hN] at this
    refine this.mono ?_
    rintro e w' ⟨gc, cap', rfl, t1, t2, t3⟩
    have hk := (keep_drewN w q).trans' t3
    exact ⟨gc, cap', by rw [← hxn, dl3], ⟨t1, t2, hk⟩, keep_cell0 hk c1', keep_cell0 hk c2, keep_cell0 hk c3⟩)
  have HT := (show Hid (∀ (w' : World) (gc cap' : Nat), RowI w' .i16 (some ⟨gc, 0, none⟩) cap' gc 0 xs → Calls Tryz.prog 76 #[.slice (some ⟨gc, 0, none⟩) xn cap', .int .i64 (l : Int)] w' fun e w'' => ∃ tg cap'', e = .returned (.tuple #[.slice (some ⟨tg, 0, none⟩) (2 ^ l) cap'', .int .i64 0]) ∧ Hid (w'.heap.size ≤ tg ∧ IsTb w'' tg (tbX xs l) ∧ Keep noBlock w' w'')) from fun w' gc cap' hR => by
    have := table_good _ _ _ _ xs l w' hR hi hb
    rw [← hxn] at this
    refine this.mono ?_
    rintro e w2 ⟨tg, capg, rfl, t1, t2, t3, t4⟩
    exact ⟨tg, capg, rfl, t1, t3, t4⟩)
  have HS := (show Hid (IsSec w sb (.slice (some ⟨g, off, none⟩) B.length cap) ∧ Bytes w a' (cap - u) g off' rest ∧ g ≠ sb) from ⟨s1, hBd, s3⟩)
  have huN : (u : Int) ≤ (N : Int) := by omega
  clear hC hb hi hLa hB hBl hN hxn hml hms hm1 c1 s1 s2 hBd hdr hne dl1 dl2 dl3 hu
  go_enter Tryz.func54, Tryz.ntmps54
  go_wp2_with fail
  go_region_held3 (fun W => W.cell? ⟨sb, 0, none⟩ = some (.slice (some ⟨g, off, none⟩) N cap) ∧ W.cell? ⟨b, o + 107, none⟩ = some (.int .i64 (ml : Int)) ∧ W.cell? ⟨b, o, none⟩ = some (.int .i64 (ms : Int))) (first | exact d0 _ | exact ⟨c1', c2, c3⟩ | exact f1) ((first
    | (go_at_call 80; refine (HR.out 1).mono ?_; rintro e w2 ⟨gc, cap', rfl, HX, f1⟩)))
  obtain ⟨t1, t2, t3⟩ := HX.out
  have hs2 := t3.obj HS.out.1 (fun h => h)
  have e1 := f1.1
  have e2 := frozen_of hs2 0
  obtain ⟨r, hr2⟩ : ∃ r, r = rest.length := ⟨_, rfl⟩
  rw [← hr2] at hs
  have HR2 := hid hr2
  clear hr2
  have HN := (show Hid (∀ W', W' = w2.setCell ⟨sb, 0, none⟩ (.slice a' r (cap - u)) → Sec W' sb g rest ∧ Keep (fun k => k = sb) w W' ∧ RowI W' .i16 (some ⟨gc, 0, none⟩) cap' gc 0 xs ∧ w.heap.size ≤ W'.heap.size) from fun W' e => by
    have hk : Keep (fun k => k = sb) w2 W' := by rw [e]; exact (Keep.refl (fun k => k = sb) w2).setCell (p := ⟨sb, 0, none⟩) (fun _ => rfl) _
    have hkw := (t3.mono (T := fun k => k = sb) (fun _ _ h => h.elim)).trans hk (fun _ _ h => h)
    refine ⟨⟨a', cap - u, off', ?_, HS.out.2.1.keep hkw (fun _ => HS.out.2.2), HS.out.2.2⟩, hkw, t2.keep hk (fun _ e => ?_), hkw.size⟩
    · rw [e, ← HR2.out]
      exact set_obj hs2 0 _
    · have := obj_lt HS.out.1
      omega)
  clear t1 t2 t3 hs2 HX HR c1' c2 c3 d0
  go_wp2_with fail
  obtain ⟨n1, n2, n3, n4⟩ := HN.out _ rfl
  have HM := hid (And.intro n1 (And.intro n2 n4))
  have HTT := hid (HT.out _ gc cap' n3)
  generalize w2.setCell ⟨sb, 0, none⟩ (.slice a' r (cap - u)) = w3 at *
  clear n1 n2 n3 n4 HN HT
  refine HTT.out.mono ?_
  rintro e w4 ⟨tg, capg, rfl, HX⟩
  clear HTT
  go_wp2_with fail
  go_ret2
  obtain ⟨m1, m2, m3⟩ := HM.out
  obtain ⟨t1, t2, t3⟩ := HX.out
  exact ⟨tg, capg, rfl, t2, by omega, m1.keep t3 (fun h => h) (fun h => h), m2.trans t3 (fun _ _ h => h.elim)⟩
end
/-- A table that is told is read. -/
theorem readTab_any (w : World) (sb g b o gk : Nat) (K : Kd) (k : Nat) (told : List Nat) (T : Tb) (rest : List Nat) (z : Value) (h : ToldT K k told T) (hS : Sec w sb g (told ++ rest)) (hC : Coding w b o gk K) (hD : KDef K) (hne : b ≠ sb) (hr : rest.length ≤ 100000000) :
    Calls Tryz.prog (readNo k) #[.pointer (some ⟨sb, 0, none⟩), .pointer (some ⟨b, o, none⟩), z] w fun e w' => TabPost w sb g T rest e w' := by
  rcases h with ⟨rfl, rfl, rfl⟩ | ⟨c, rfl, hc, rfl, rfl⟩ | ⟨xs, l, rfl, h1, h2, h3, h4, rfl, rfl⟩
  · exact readUntold_any w sb g b o gk K rest z hS hC hD
  · exact readAlone_any w sb g b o gk K c rest z hS hC hc hne
  · exact readDescribed_any w sb g b o gk K xs l rest z hS hC h1 h2 h3 h4 hr
end Go.Proofs.YtgaepmmpedaaiaaGreatDoor
