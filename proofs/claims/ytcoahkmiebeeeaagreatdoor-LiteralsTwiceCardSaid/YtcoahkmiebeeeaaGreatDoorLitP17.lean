/-
  merge: one rising row of two.
  longer: how many leaves are taken on each level.
  What packing and merging takes, as numbers. No program is named here.
  Packing and merging gives lengths that make a code, of the least sum. No program is named here.
  tally: how many words each length has, and whether the lengths make a code.
  A range over runs(many): the words of a code, those of one length at a time, in their order.
  The statement 'for run := range runs(many)': its body is asked for the runs of the code alone, in their order.
-/
import Derived.Deep.RegionHeld3
import Derived.BigQuiet
import Derived.Deep.DeepCutAuto
import Derived.Test.YtcoahkmiebeeeaaGreatDoorLitP16
namespace Go.Proofs.YtcoahkmiebeeeaaGreatDoor.C5
open Go.RowKit Go.Shelf

def leI (x y : Nat × Bool) : Bool := decide (x.1 ≤ y.1)

theorem Items.head {w : World} {a : Option Addr} {cap g off : Nat} {x : Nat × Bool} {L : List (Nat × Bool)} (h : Items w a cap g off (x :: L)) : a = some ⟨g, off, none⟩ ∧ w.cell? ⟨g, off, none⟩ = some (.int .u64 ((x.1 : Nat) : Int)) ∧ w.cell? ⟨g, off + 1, none⟩ = some (.bool x.2) ∧ g < w.heap.size ∧ 1 ≤ cap := by
  refine ⟨h.at_.elim id (fun e => by cases e), ?_, ?_, h.lt (by simp), ?_⟩
  · have := (h.cells 0 (by simp)).1; simpa using this
  · have := (h.cells 0 (by simp)).2; simpa using this
  · have := h.le; simp at this; omega
theorem Items.tail {w : World} {a : Option Addr} {cap g off : Nat} {x : Nat × Bool} {L : List (Nat × Bool)} (h : Items w a cap g off (x :: L)) (a' : Option Addr) (ha : L ≠ [] → a' = some ⟨g, off + 2, none⟩) : Items w a' (cap - 1) g (off + 2) L := by
  refine ⟨?_, fun i hi => ?_, by have := h.le; simp at this; omega, fun _ => h.lt (by simp)⟩
  · by_cases e : L = []
    · exact .inr e
    · exact .inl (ha e)
  · have := h.cells (i + 1) (by simpa using hi)
    rw [show off + 2 + i * 2 = off + (i + 1) * 2 from by omega]
    simpa using this

theorem ownB {g n c k : Nat} (h : (Value.slice (some ⟨g, 0, none⟩) n c).ownBlock = some k) : g = k := Option.some.inj h
theorem Items.news {w : World} {a : Addr} {cap g off : Nat} {L : List (Nat × Bool)} (h : Items w (some a) cap g off L) : ∀ j u, (itemCs L)[j]? = some u → w.cell? (a.add j) = some u := by
  intro j u hu
  have hj : j < (itemCs L).length := (List.getElem?_eq_some_iff.1 hu).1
  rw [itemCs_length] at hj
  have hi : j / 2 < L.length := by omega
  obtain rfl : a = ⟨g, off, none⟩ := by
    rcases h.at_ with e | e
    · exact Option.some.inj e
    · rw [e] at hi; simp at hi
  have hadd : (⟨g, off, none⟩ : Addr).add j = ⟨g, off + j, none⟩ := by unfold Addr.add; split <;> simp_all
  rw [hadd]
  obtain ⟨q1, q2⟩ := itemCs_at L (j / 2) hi
  obtain ⟨c1, c2⟩ := h.cells (j / 2) hi
  rcases Nat.mod_two_eq_zero_or_one j with e | e
  · rw [show 2 * (j / 2) = j from by omega, hu] at q1
    rw [show off + j / 2 * 2 = off + j from by omega] at c1
    rw [c1, Option.some.inj q1]
  · rw [show 2 * (j / 2) + 1 = j from by omega, hu] at q2
    rw [show off + j / 2 * 2 + 1 = off + j from by omega] at c2
    rw [c2, Option.some.inj q2]
theorem append_kept {w wq w1 : World} {g n cap : Nat} {o : Obj} (hk : Keep noBlock w wq) (hg : w.heap.size ≤ g) (hgrow : (wq.alloc o).drew.grownBy w1 (Value.slice (some ⟨g, 0, none⟩) n cap).ownBlock) : Keep noBlock w w1 ∧ Keep (fun k => k = g) wq w1 := by
  have e : (Value.slice (some ⟨g, 0, none⟩) n cap).ownBlock = some g := rfl
  rw [e] at hgrow
  exact ⟨(hk.alloc o).drew.grown hgrow (fun k e hk => by cases e; omega), ((Keep.refl _ wq).alloc o).drew.grown hgrow (fun k e _ => by cases e; rfl)⟩

set_option maxRecDepth 100000 in
set_option maxHeartbeats 4000000 in
theorem merge_any (a b : Addr) (ca cb ga gb oa ob : Nat) (La Lb : List (Nat × Bool)) (w : World) (ha : Items w (some a) ca ga oa La) (hb : Items w (some b) cb gb ob Lb) (hl : La.length + Lb.length ≤ 4096) :
    Calls Tryz.prog 88 #[.slice (some a) La.length ca, .slice (some b) Lb.length cb] w fun e w' => ∃ g cap, e = .returned (.slice (some ⟨g, 0, none⟩) (La.merge Lb leI).length cap) ∧ Items w' (some ⟨g, 0, none⟩) cap g 0 (La.merge Lb leI) ∧ w.heap.size ≤ g ∧ g < w'.heap.size ∧ Keep noBlock w w' := by
  obtain ⟨i0, hi, hz0, hz1, hz2⟩ := info_parts info86
  obtain ⟨m, hm⟩ : ∃ m, m = La.length + Lb.length := ⟨_, rfl⟩
  have hmI : (La.length : Int) + (Lb.length : Int) = (m : Int) := by omega
  have hmk : ∀ W : World, (Instr.makeSlice 130 (.int .i64 0) (.int .i64 (m : Int))).run Tryz.prog W = .ok (.slice (some ⟨W.heap.size, 0, none⟩) 0 m) (W.alloc (.cells (madeCells #[.int .u64 0, .bool false] (m * 2)) 132)) := fun W => by
    have := run_make (P := Tryz.prog) W 130 132 i0 (.agg #[.int .u64 0, .bool false]) Tryz.underlying130 hi hz0 .i64 .i64 0 (m : Int) (by omega) (by omega) (by rw [hz2]; omega) (by omega)
    rw [hz1] at this
    simpa [Value.cells] using this
  have hown0 : OwnI (w.alloc (.cells (madeCells #[.int .u64 0, .bool false] (m * 2)) 132)) w.heap.size w.heap.size m [] := World.ownsRow_made (e := 132) (size := 2) (base := w.heap.size) w (madeCells #[.int .u64 0, .bool false] (m * 2)) m (Nat.le_refl _) (by unfold maxLen; omega) (by simp [size_madeCells])
  have hk0 : Keep noBlock w (w.alloc (.cells (madeCells #[.int .u64 0, .bool false] (m * 2)) 132)) := (Keep.refl _ w).alloc _
  have H0 := (show Hid (OwnI _ w.heap.size w.heap.size m [] ∧ _ ∧ Items w (some a) ca ga oa La ∧ Items w (some b) cb gb ob Lb ∧ m = La.length + Lb.length) from ⟨hown0, hk0, ha, hb, hm⟩)
  have hmb : m ≤ 4096 := by omega
  clear hown0 hk0 ha hb hm
  go_enter Tryz.func88, Tryz.ntmps88
  go_wp2
  generalize w.alloc (.cells (madeCells #[.int .u64 0, .bool false] (m * 2)) 132) = W0 at H0 ⊢
  clear hmk hmI
  go_loopw [0, 1, 5] (fun va vb vo wr => ∃ (a' b' : Addr) (ca' cb' oa' ob' g cap : Nat) (A B O : List (Nat × Bool)), va = .slice (some a') A.length ca' ∧ vb = .slice (some b') B.length cb' ∧ vo = .slice (some ⟨g, 0, none⟩) O.length cap ∧ OwnI wr w.heap.size g cap O ∧ Keep noBlock w wr ∧ Items wr (some a') ca' ga oa' A ∧ Items wr (some b') cb' gb ob' B ∧ (A ≠ [] → ga < w.heap.size) ∧ (B ≠ [] → gb < w.heap.size) ∧ Hid (O ++ A.merge B leI = La.merge Lb leI) ∧ O.length + A.length + B.length = m) (fun va vb _ _ => (match va with | .slice _ n _ => n | _ => 0) + (match vb with | .slice _ n _ => n | _ => 0))
  case atStart =>
    obtain ⟨q1, q2, q3, q4, q5⟩ := H0.out
    exact ⟨a, b, ca, cb, oa, ob, w.heap.size, m, La, Lb, [], rfl, rfl, rfl, q1, q2, q3.keep q2 (fun _ h => h), q4.keep q2 (fun _ h => h), q3.lt, q4.lt, rfl, by rw [q5]; simp⟩
  case round =>
    clear H0
    obtain ⟨a', b', ca', cb', oa', ob', g, cap, A, B, O, rfl, rfl, rfl, hown, hk, hA, hB, hga, hgb, HM, hlen⟩ := hrel
    by_cases hAB : A = []
    · subst hAB
      have hOb := hown.items.2.1
      skip
      have hown' : wr.ownsRow w.heap.size 132 2 (.slice (some ⟨g, 0, none⟩) O.length cap) O.length (itemCs O) := hown
      have hsz := hk.size
      have HK := (show Hid (Keep noBlock w wr ∧ Items wr (some b') cb' gb ob' B ∧ (B ≠ [] → gb < w.heap.size)) from ⟨hk, hB, hgb⟩)
      have hmx1 : O.length + 0 ≤ maxLen := by unfold maxLen; omega
      have hmx2 : O.length + 0 + B.length ≤ maxLen := by unfold maxLen; omega
      have hby1 : (O.length + 0) * 16 ≤ 140737488355328 := by omega
      have hby2 : (O.length + 0 + B.length) * 16 ≤ 140737488355328 := by omega
      have hlA : True := trivial
      have hlB := itemCs_length B
      have HLA := (show Hid (_ ∧ _) from ⟨hlA, hlB⟩)
      clear hown hA hB hk hlA hlB
      skip
      go_wp2_with (at_builtin; first | (refine wpList_append_own _ rfl _ _ 130 rfl w.heap.size 132 i0 (.agg #[.int .u64 0, .bool false]) 2 16 Tryz.underlying130 hi hz0 hz1 hz2 rfl (by decide) (.slice (some ⟨g, 0, none⟩) O.length cap) O.length (itemCs O) rfl hown' a' 0 ca' ([]) rfl rfl (by simp) (by simp) hmx1 hby1 hsz ?_; intro v1 w1 hown1 hgrow1 hnil1; have hk1 := HK.out.1.grown hgrow1 (fun k e hk => (by have := ownB e; omega)); have hk2 : Keep (fun k => k = g) wr w1 := (Keep.refl _ wr).grown hgrow1 (fun k e _ => (ownB e).symm); have hnB := (HK.out.2.1.keep hk2 (fun hne => by have := HK.out.2.2 hne; omega)).news; have hsz1 := hk1.size) | (refine wpList_append_own _ rfl _ _ 130 rfl w.heap.size 132 i0 (.agg #[.int .u64 0, .bool false]) 2 16 Tryz.underlying130 hi hz0 hz1 hz2 rfl (by decide) v1 (O.length + 0) (itemCs O ++ []) rfl hown1 b' B.length cb' (itemCs B) rfl HLA.out.2 hnB (itemCs_one B) hmx2 hby2 hsz1 ?_; intro v2 w2 hown2 hgrow2 hnil2))
      go_ret
      obtain ⟨gv, cv, ev⟩ : ∃ gv cv, v2 = .slice (some ⟨gv, 0, none⟩) (O.length + 0 + B.length) cv := by
        rcases hown2.2 with ⟨e, _⟩ | ⟨gv, cv, cur, e, _⟩
        · have := (hnil2.1 e).1
          have := (hnil1.1 this).1
          cases this
        · exact ⟨gv, cv, e⟩
      subst ev
      have hmer : La.merge Lb leI = O ++ [] ++ B := by
        rw [← HM.out]
        simp
      have hll : (La.merge Lb leI).length = O.length + 0 + B.length := by rw [hmer]; simp
      have hOI : OwnI w2 w.heap.size gv cv (La.merge Lb leI) := by
        unfold OwnI
        rw [hll, hmer, itemCs_append, itemCs_append]
        exact hown2
      obtain ⟨r1, r2, r3⟩ := hOI.items
      have hl2 : La.length + Lb.length = O.length + 0 + B.length := by rw [← hll, List.length_merge]
      refine ⟨gv, cv, by first | (rw [hll]; rfl) | (rw [hl2]; rfl), r1, r2, r3, ?_⟩
      rcases hown1.2 with ⟨e, _⟩ | ⟨g1, c1, cur, e, hb1, _⟩
      · subst e; exact hk1.grown hgrow2 (fun k e _ => by cases e)
      · subst e; exact hk1.grown hgrow2 (fun k e hk => (by have := ownB e; omega))
    · by_cases hBB : B = []
      · subst hBB
        have hOb := hown.items.2.1
        have hnA := hA.news
        have hown' : wr.ownsRow w.heap.size 132 2 (.slice (some ⟨g, 0, none⟩) O.length cap) O.length (itemCs O) := hown
        have hsz := hk.size
        have HK := (show Hid (Keep noBlock w wr ∧ True) from ⟨hk, trivial⟩)
        have hmx1 : O.length + A.length ≤ maxLen := by unfold maxLen; omega
        have hmx2 : O.length + A.length + 0 ≤ maxLen := by unfold maxLen; omega
        have hby1 : (O.length + A.length) * 16 ≤ 140737488355328 := by omega
        have hby2 : (O.length + A.length + 0) * 16 ≤ 140737488355328 := by omega
        have hlA := itemCs_length A
        have hlB : True := trivial
        have HLA := (show Hid (_ ∧ _) from ⟨hlA, hlB⟩)
        clear hown hA hB hk hlA hlB
        have g1 : (0 : Int) < (A.length : Int) := by have := List.length_pos_iff.2 hAB; omega
        skip
        go_wp2_with (at_builtin; first | (refine wpList_append_own _ rfl _ _ 130 rfl w.heap.size 132 i0 (.agg #[.int .u64 0, .bool false]) 2 16 Tryz.underlying130 hi hz0 hz1 hz2 rfl (by decide) (.slice (some ⟨g, 0, none⟩) O.length cap) O.length (itemCs O) rfl hown' a' A.length ca' (itemCs A) rfl HLA.out.1 hnA (itemCs_one A) hmx1 hby1 hsz ?_; intro v1 w1 hown1 hgrow1 hnil1; have hk1 := HK.out.1.grown hgrow1 (fun k e hk => (by have := ownB e; omega)); have hk2 : Keep (fun k => k = g) wr w1 := (Keep.refl _ wr).grown hgrow1 (fun k e _ => (ownB e).symm); have hsz1 := hk1.size) | (refine wpList_append_own _ rfl _ _ 130 rfl w.heap.size 132 i0 (.agg #[.int .u64 0, .bool false]) 2 16 Tryz.underlying130 hi hz0 hz1 hz2 rfl (by decide) v1 (O.length + A.length) (itemCs O ++ itemCs A) rfl hown1 b' 0 cb' ([]) rfl rfl (by simp) (by simp) hmx2 hby2 hsz1 ?_; intro v2 w2 hown2 hgrow2 hnil2))
        go_ret
        obtain ⟨gv, cv, ev⟩ : ∃ gv cv, v2 = .slice (some ⟨gv, 0, none⟩) (O.length + A.length + 0) cv := by
          rcases hown2.2 with ⟨e, _⟩ | ⟨gv, cv, cur, e, _⟩
          · have := (hnil2.1 e).1
            have := (hnil1.1 this).1
            cases this
          · exact ⟨gv, cv, e⟩
        subst ev
        have hmer : La.merge Lb leI = O ++ A ++ [] := by
          rw [← HM.out]
          simp
        have hll : (La.merge Lb leI).length = O.length + A.length + 0 := by rw [hmer]; simp
        have hOI : OwnI w2 w.heap.size gv cv (La.merge Lb leI) := by
          unfold OwnI
          rw [hll, hmer, itemCs_append, itemCs_append]
          exact hown2
        obtain ⟨r1, r2, r3⟩ := hOI.items
        have hl2 : La.length + Lb.length = O.length + A.length + 0 := by rw [← hll, List.length_merge]
        refine ⟨gv, cv, by first | (rw [hll]; rfl) | (rw [hl2]; rfl), r1, r2, r3, ?_⟩
        rcases hown1.2 with ⟨e, _⟩ | ⟨g1, c1, cur, e, hb1, _⟩
        · subst e; exact hk1.grown hgrow2 (fun k e _ => by cases e)
        · subst e; exact hk1.grown hgrow2 (fun k e hk => (by have := ownB e; omega))
      · obtain ⟨x, A, rfl⟩ := List.exists_cons_of_ne_nil hAB
        obtain ⟨y, B, rfl⟩ := List.exists_cons_of_ne_nil hBB
        clear hAB hBB
        obtain ⟨eA, a1, a2, a3, a4⟩ := hA.head
        obtain ⟨eB, b1, b2, b3, b4⟩ := hB.head
        obtain rfl := Option.some.inj eA
        obtain rfl := Option.some.inj eB
        obtain ⟨hOI, hOb, hOlt⟩ := hown.items
        have hga' := hga (by simp)
        have hgb' := hgb (by simp)
        obtain ⟨la, hla⟩ : ∃ la, la = (x :: A).length := ⟨_, rfl⟩
        obtain ⟨lb, hlb⟩ : ∃ lb, lb = (y :: B).length := ⟨_, rfl⟩
        rw [← hla, ← hlb] at hlen ⊢
        have la1 : la = A.length + 1 := hla
        have lb1 : lb = B.length + 1 := hlb
        have lac := hA.le
        have lbc := hB.le
        rw [← hla] at lac
        rw [← hlb] at lbc
        have HL := (show Hid (la = A.length + 1 ∧ lb = B.length + 1) from ⟨la1, lb1⟩)
        have lap : 0 < la := by omega
        have lbp : 0 < lb := by omega
        clear hla hlb la1 lb1
        by_cases hle : x.1 ≤ y.1
        · have hleI : ((x.1 : Nat) : Int) ≤ ((y.1 : Nat) : Int) := by omega
          have hmax : O.length + 1 ≤ maxLen := by unfold maxLen; omega
          have hby : (O.length + 1) * 16 ≤ 140737488355328 := by omega
          obtain ⟨x1, x2⟩ := x
          obtain ⟨y1, y2⟩ := y
          dsimp only at a1 a2 b1 b2 hleI hle
          have hgne : (Value.slice (some ⟨g, 0, none⟩) O.length cap).ownBlock ≠ some ga := by simp [Value.ownBlock]; omega
          have hown' : wr.ownsRow w.heap.size 132 2 (.slice (some ⟨g, 0, none⟩) O.length cap) O.length (itemCs O) := hown
          have hsz := hk.size
          have l0 : (1 : Int) ≤ (la : Int) := by omega
          have l2 : (la : Int) ≤ (ca' : Int) := by omega
          go_wp2_with fail
          go_quiet (fail)
          go_wp2_with fail
          have hownq : (wr.drewN nq).ownsRow w.heap.size 132 2 (.slice (some ⟨g, 0, none⟩) O.length cap) O.length (itemCs O) := hown'
          have a1' : (wr.drewN nq).cell? ⟨ga, oa', none⟩ = some (.int .u64 (x1 : Int)) := a1
          have a2' : (wr.drewN nq).cell? ⟨ga, oa' + 1, none⟩ = some (.bool x2) := a2
          have b1' : (wr.drewN nq).cell? ⟨gb, ob', none⟩ = some (.int .u64 (y1 : Int)) := b1
          have b2' : (wr.drewN nq).cell? ⟨gb, ob' + 1, none⟩ = some (.bool y2) := b2
          have a3' : ga < (wr.drewN nq).heap.size := a3
          have b3' : gb < (wr.drewN nq).heap.size := b3
          have hsq : w.heap.size ≤ (wr.drewN nq).heap.size := hsz
          have hOq : g < (wr.drewN nq).heap.size := hOlt
          have HQ := (show Hid (Keep noBlock w (wr.drewN nq) ∧ Items (wr.drewN nq) (some ⟨ga, oa', none⟩) ca' ga oa' ((x1, x2) :: A) ∧ Items (wr.drewN nq) (some ⟨gb, ob', none⟩) cb' gb ob' ((y1, y2) :: B)) from ⟨⟨hk.os, hk.tape, hk.output, hk.size, hk.block⟩, ⟨hA.at_, hA.cells, hA.le, hA.lt⟩, ⟨hB.at_, hB.cells, hB.le, hB.lt⟩⟩)
          clear a1 a2 b1 b2 hown hown' hOI hk hA hB a3 b3 hsz hOlt
          generalize wr.drewN nq = wq at hownq a1' a2' b1' b2' a3' b3' hsq hOq HQ ⊢
          by_cases hce : ca' = 1
          · subst hce
            go_region_held3 (fun w' => w'.cell? ⟨ga, oa', none⟩ = some (.int .u64 (x1 : Int)) ∧ w'.cell? ⟨ga, oa' + 1, none⟩ = some (.bool x2))
              (first | go_keep | (go_split_ands; refine ⟨?_, ?_⟩ <;> (rw [hgrow.cell_far _ (by simp; omega) (Ne.symm hgne)]; assumption)))
              ((refine step_append_lies _ (by rfl) _ _ _ (by rfl) w.heap.size 132 i0 _ 2 16 Tryz.underlying130 hi hz0 hz1 hz2 rfl (by omega) (.slice (some ⟨g, 0, none⟩) O.length cap) O.length (itemCs O) (by rfl) ((hownq.alloc _).drew)
                  ⟨wq.heap.size, 0, none⟩ 1 1 [.int .u64 (x1 : Int), .bool x2] (by rfl) (by rfl) (World.news_of_block (cs := #[.int .u64 (x1 : Int), .bool x2]) (t := 132) (fr := (0, 0)) (heap_alloc_new wq _)) (by simp [Value.oneCell'])
                  (by omega) hmax hby (by simp; omega) (wq.heap.size + 1) (by simp) ?_; intro gg cap2 w1 hown1 hgrow hat hlt))
            all_goals go_wp2
            obtain ⟨hq1, hq2⟩ := append_kept HQ.out.1 hOb hgrow
            go_roundw
            case rel =>
              have hll := HL.out
              refine ⟨⟨ga, oa', none⟩, _, _, _, oa' + 2, ob', gg, cap2, A, (y1, y2) :: B, O ++ [(x1, x2)], ?_, ?_, by simp, ?_, hq1, (HQ.out.2.1.keep hq2 (fun _ => by omega)).tail _ ?_, HQ.out.2.2.keep hq2 (fun _ => by omega), fun _ => hga', fun _ => hgb', ?_, ?_⟩
              · rw [show A.length = 0 from by omega]
              · rw [show ((y1, y2) :: B).length = lb from by simp; omega]
              · unfold OwnI; rw [itemCs_append, List.length_append]; exact hown1
              · intro hne; exact absurd (List.length_eq_zero_iff.1 (show A.length = 0 by omega)) hne
              · show _ = _
                rw [← HM.out, List.append_assoc]
                congr 1
                rw [List.cons_merge_cons]
                simp [leI, hle]
              · simp only [List.length_append, List.length_cons, List.length_nil]; omega
            case measure => simp; omega
          · have hce' : ¬ (ca' : Int) = 1 := by omega
            go_region_held3 (fun w' => w'.cell? ⟨ga, oa', none⟩ = some (.int .u64 (x1 : Int)) ∧ w'.cell? ⟨ga, oa' + 1, none⟩ = some (.bool x2))
              (first | go_keep | (go_split_ands; refine ⟨?_, ?_⟩ <;> (rw [hgrow.cell_far _ (by simp; omega) (Ne.symm hgne)]; assumption)))
              ((refine step_append_lies _ (by rfl) _ _ _ (by rfl) w.heap.size 132 i0 _ 2 16 Tryz.underlying130 hi hz0 hz1 hz2 rfl (by omega) (.slice (some ⟨g, 0, none⟩) O.length cap) O.length (itemCs O) (by rfl) ((hownq.alloc _).drew)
                  ⟨wq.heap.size, 0, none⟩ 1 1 [.int .u64 (x1 : Int), .bool x2] (by rfl) (by rfl) (World.news_of_block (cs := #[.int .u64 (x1 : Int), .bool x2]) (t := 132) (fr := (0, 0)) (heap_alloc_new wq _)) (by simp [Value.oneCell'])
                  (by omega) hmax hby (by simp; omega) (wq.heap.size + 1) (by simp) ?_; intro gg cap2 w1 hown1 hgrow hat hlt))
            all_goals go_wp2
            obtain ⟨hq1, hq2⟩ := append_kept HQ.out.1 hOb hgrow
            go_roundw
            case rel =>
              have hll := HL.out
              refine ⟨⟨ga, oa' + 2, none⟩, _, _, _, oa' + 2, ob', gg, cap2, A, (y1, y2) :: B, O ++ [(x1, x2)], ?_, ?_, by simp, ?_, hq1, (HQ.out.2.1.keep hq2 (fun _ => by omega)).tail _ ?_, HQ.out.2.2.keep hq2 (fun _ => by omega), fun _ => hga', fun _ => hgb', ?_, ?_⟩
              · rw [show A.length = la - 1 from by omega]
              · rw [show ((y1, y2) :: B).length = lb from by simp; omega]
              · unfold OwnI; rw [itemCs_append, List.length_append]; exact hown1
              · intro _; rfl
              · show _ = _
                rw [← HM.out, List.append_assoc]
                congr 1
                rw [List.cons_merge_cons]
                simp [leI, hle]
              · simp only [List.length_append, List.length_cons, List.length_nil]; omega
            case measure => simp; omega
        · have hleI : ¬ ((x.1 : Nat) : Int) ≤ ((y.1 : Nat) : Int) := by omega
          have hmax : O.length + 1 ≤ maxLen := by unfold maxLen; omega
          have hby : (O.length + 1) * 16 ≤ 140737488355328 := by omega
          obtain ⟨x1, x2⟩ := x
          obtain ⟨y1, y2⟩ := y
          dsimp only at a1 a2 b1 b2 hleI hle
          have hgne : (Value.slice (some ⟨g, 0, none⟩) O.length cap).ownBlock ≠ some gb := by simp [Value.ownBlock]; omega
          have hown' : wr.ownsRow w.heap.size 132 2 (.slice (some ⟨g, 0, none⟩) O.length cap) O.length (itemCs O) := hown
          have hsz := hk.size
          have l0 : (1 : Int) ≤ (lb : Int) := by omega
          have l2 : (lb : Int) ≤ (cb' : Int) := by omega
          go_wp2_with fail
          go_quiet (fail)
          go_wp2_with fail
          have hownq : (wr.drewN nq).ownsRow w.heap.size 132 2 (.slice (some ⟨g, 0, none⟩) O.length cap) O.length (itemCs O) := hown'
          have a1' : (wr.drewN nq).cell? ⟨ga, oa', none⟩ = some (.int .u64 (x1 : Int)) := a1
          have a2' : (wr.drewN nq).cell? ⟨ga, oa' + 1, none⟩ = some (.bool x2) := a2
          have b1' : (wr.drewN nq).cell? ⟨gb, ob', none⟩ = some (.int .u64 (y1 : Int)) := b1
          have b2' : (wr.drewN nq).cell? ⟨gb, ob' + 1, none⟩ = some (.bool y2) := b2
          have a3' : ga < (wr.drewN nq).heap.size := a3
          have b3' : gb < (wr.drewN nq).heap.size := b3
          have hsq : w.heap.size ≤ (wr.drewN nq).heap.size := hsz
          have hOq : g < (wr.drewN nq).heap.size := hOlt
          have HQ := (show Hid (Keep noBlock w (wr.drewN nq) ∧ Items (wr.drewN nq) (some ⟨ga, oa', none⟩) ca' ga oa' ((x1, x2) :: A) ∧ Items (wr.drewN nq) (some ⟨gb, ob', none⟩) cb' gb ob' ((y1, y2) :: B)) from ⟨⟨hk.os, hk.tape, hk.output, hk.size, hk.block⟩, ⟨hA.at_, hA.cells, hA.le, hA.lt⟩, ⟨hB.at_, hB.cells, hB.le, hB.lt⟩⟩)
          clear a1 a2 b1 b2 hown hown' hOI hk hA hB a3 b3 hsz hOlt
          generalize wr.drewN nq = wq at hownq a1' a2' b1' b2' a3' b3' hsq hOq HQ ⊢
          by_cases hce : cb' = 1
          · subst hce
            go_region_held3 (fun w' => w'.cell? ⟨gb, ob', none⟩ = some (.int .u64 (y1 : Int)) ∧ w'.cell? ⟨gb, ob' + 1, none⟩ = some (.bool y2))
              (first | go_keep | (go_split_ands; refine ⟨?_, ?_⟩ <;> (rw [hgrow.cell_far _ (by simp; omega) (Ne.symm hgne)]; assumption)))
              ((refine step_append_lies _ (by rfl) _ _ _ (by rfl) w.heap.size 132 i0 _ 2 16 Tryz.underlying130 hi hz0 hz1 hz2 rfl (by omega) (.slice (some ⟨g, 0, none⟩) O.length cap) O.length (itemCs O) (by rfl) ((hownq.alloc _).drew)
                  ⟨wq.heap.size, 0, none⟩ 1 1 [.int .u64 (y1 : Int), .bool y2] (by rfl) (by rfl) (World.news_of_block (cs := #[.int .u64 (y1 : Int), .bool y2]) (t := 132) (fr := (0, 0)) (heap_alloc_new wq _)) (by simp [Value.oneCell'])
                  (by omega) hmax hby (by simp; omega) (wq.heap.size + 1) (by simp) ?_; intro gg cap2 w1 hown1 hgrow hat hlt))
            all_goals go_wp2
            obtain ⟨hq1, hq2⟩ := append_kept HQ.out.1 hOb hgrow
            go_roundw
            case rel =>
              have hll := HL.out
              refine ⟨_, ⟨gb, ob', none⟩, _, _, oa', ob' + 2, gg, cap2, (x1, x2) :: A, B, O ++ [(y1, y2)], ?_, ?_, by simp, ?_, hq1, HQ.out.2.1.keep hq2 (fun _ => by omega), (HQ.out.2.2.keep hq2 (fun _ => by omega)).tail _ ?_, fun _ => hga', fun _ => hgb', ?_, ?_⟩
              · rw [show ((x1, x2) :: A).length = la from by simp; omega]
              · rw [show B.length = 0 from by omega]
              · unfold OwnI; rw [itemCs_append, List.length_append]; exact hown1
              · intro hne; exact absurd (List.length_eq_zero_iff.1 (show B.length = 0 by omega)) hne
              · show _ = _
                rw [← HM.out, List.append_assoc]
                congr 1
                rw [List.cons_merge_cons]
                simp [leI, hle]
              · simp only [List.length_append, List.length_cons, List.length_nil]; omega
            case measure => simp; omega
          · have hce' : ¬ (cb' : Int) = 1 := by omega
            go_region_held3 (fun w' => w'.cell? ⟨gb, ob', none⟩ = some (.int .u64 (y1 : Int)) ∧ w'.cell? ⟨gb, ob' + 1, none⟩ = some (.bool y2))
              (first | go_keep | (go_split_ands; refine ⟨?_, ?_⟩ <;> (rw [hgrow.cell_far _ (by simp; omega) (Ne.symm hgne)]; assumption)))
              ((refine step_append_lies _ (by rfl) _ _ _ (by rfl) w.heap.size 132 i0 _ 2 16 Tryz.underlying130 hi hz0 hz1 hz2 rfl (by omega) (.slice (some ⟨g, 0, none⟩) O.length cap) O.length (itemCs O) (by rfl) ((hownq.alloc _).drew)
                  ⟨wq.heap.size, 0, none⟩ 1 1 [.int .u64 (y1 : Int), .bool y2] (by rfl) (by rfl) (World.news_of_block (cs := #[.int .u64 (y1 : Int), .bool y2]) (t := 132) (fr := (0, 0)) (heap_alloc_new wq _)) (by simp [Value.oneCell'])
                  (by omega) hmax hby (by simp; omega) (wq.heap.size + 1) (by simp) ?_; intro gg cap2 w1 hown1 hgrow hat hlt))
            all_goals go_wp2
            obtain ⟨hq1, hq2⟩ := append_kept HQ.out.1 hOb hgrow
            go_roundw
            case rel =>
              have hll := HL.out
              refine ⟨_, ⟨gb, ob' + 2, none⟩, _, _, oa', ob' + 2, gg, cap2, (x1, x2) :: A, B, O ++ [(y1, y2)], ?_, ?_, by simp, ?_, hq1, HQ.out.2.1.keep hq2 (fun _ => by omega), (HQ.out.2.2.keep hq2 (fun _ => by omega)).tail _ ?_, fun _ => hga', fun _ => hgb', ?_, ?_⟩
              · rw [show ((x1, x2) :: A).length = la from by simp; omega]
              · rw [show B.length = lb - 1 from by omega]
              · unfold OwnI; rw [itemCs_append, List.length_append]; exact hown1
              · intro _; rfl
              · show _ = _
                rw [← HM.out, List.append_assoc]
                congr 1
                rw [List.cons_merge_cons]
                simp [leI, hle]
              · simp only [List.length_append, List.length_cons, List.length_nil]; omega
            case measure => simp; omega

end Go.Proofs.YtcoahkmiebeeeaaGreatDoor.C5

namespace Go.Proofs.YtcoahkmiebeeeaaGreatDoor.C5
open Go.RowKit Go.Shelf

def levelL (lv : List (Nat × Bool)) : Nat → List (Nat × Bool)
  | 0 => lv.merge (pairsL []) leI
  | k + 1 => lv.merge (pairsL (levelL lv k)) leI
theorem levelL_length (lv : List (Nat × Bool)) (k : Nat) : (levelL lv k).length ≤ 2 * lv.length := by
  induction k with
  | zero => simp [levelL, List.length_merge, pairsL_length]; omega
  | succ k ih => simp only [levelL, List.length_merge, pairsL_length]; omega
theorem levelL_ge (lv : List (Nat × Bool)) (k : Nat) : lv.length ≤ (levelL lv k).length := by
  cases k with
  | zero => simp [levelL, List.length_merge]
  | succ k => simp [levelL, List.length_merge]
theorem pairsL_lt (L : List (Nat × Bool)) (b : Nat) (h : ∀ p ∈ L, p.1 < b) : ∀ p ∈ pairsL L, p.1 < 2 * b := by
  intro p hp
  simp only [pairsL, List.mem_map, List.mem_range] at hp
  obtain ⟨i, hi, rfl⟩ := hp
  have l1 : 2 * i < L.length := by omega
  have l2 : 2 * i + 1 < L.length := by omega
  have h1 := h L[2 * i] (List.getElem_mem l1)
  have h2 := h L[2 * i + 1] (List.getElem_mem l2)
  simp only [List.getElem?_eq_getElem l1, List.getElem?_eq_getElem l2, Option.getD_some]
  omega
theorem levelL_lt (lv : List (Nat × Bool)) (h : ∀ p ∈ lv, p.1 < 4294967296) (k : Nat) : ∀ p ∈ levelL lv k, p.1 < 4294967296 * 2 ^ k := by
  induction k with
  | zero =>
    intro p hp
    rw [levelL, List.mem_merge] at hp
    rcases hp with hp | hp
    · have := h p hp; omega
    · simp [pairsL] at hp
  | succ k ih =>
    intro p hp
    rw [levelL, List.mem_merge] at hp
    have h1 : 1 ≤ 2 ^ k := Nat.one_le_two_pow
    rcases hp with hp | hp
    · have := h p hp; rw [Nat.pow_succ]; omega
    · have := pairsL_lt _ _ ih p hp; rw [Nat.pow_succ]; omega
theorem levelL_lt' (lv : List (Nat × Bool)) (h : ∀ p ∈ lv, p.1 < 4294967296) (k : Nat) (hk : k ≤ 15) : ∀ p ∈ levelL lv k, p.1 < 4611686018427387904 := by
  intro p hp
  have h1 := levelL_lt lv h k p hp
  have h2 : 2 ^ k ≤ 2 ^ 15 := Nat.pow_le_pow_right (by omega) hk
  omega

def itF (lv : List (Nat × Bool)) (most : Nat) : Nat → Nat
  | 0 => 2 * lv.length - 2
  | j + 1 => 2 * (itF lv most j - leaves ((levelL lv (most - 1 - j)).take (itF lv most j)))
def takenF (lv : List (Nat × Bool)) (most k : Nat) : Nat := leaves ((levelL lv k).take (itF lv most (most - 1 - k)))

theorem Items.take {w : World} {a : Option Addr} {cap g off : Nat} {L : List (Nat × Bool)} (h : Items w a cap g off L) (n : Nat) : Items w a cap g off (L.take n) := by
  refine ⟨h.at_.imp id (fun e => by rw [e]; simp), fun i hi => ?_, ?_, fun hne => h.lt (by rintro rfl; simp at hne)⟩
  · have hi' : i < L.length := by rw [List.length_take] at hi; omega
    rw [List.getElem_take]
    exact h.cells i hi'
  · rw [List.length_take]; have := h.le; omega

structure LS (lv : List (Nat × Bool)) (w W : World) (lvb most i : Nat) (G C : Nat → Nat) : Prop where
  cells : ∃ cs, W.heap[lvb]? = some (.cells cs 130 (0, 0)) ∧ cs.size = most ∧ ∀ k, k < i → cs[k]? = some (.slice (some ⟨G k, 0, none⟩) (levelL lv k).length (C k))
  items : ∀ k, k < i → Items W (some ⟨G k, 0, none⟩) (C k) (G k) 0 (levelL lv k) ∧ lvb < G k
  keep : Keep noBlock w W
theorem LS.kept {lv : List (Nat × Bool)} {w W W' : World} {lvb most i : Nat} {G C : Nat → Nat} (h : LS lv w W lvb most i G C) (hk : Keep noBlock W W') : LS lv w W' lvb most i G C := by
  obtain ⟨cs, h1, h2, h3⟩ := h.cells
  exact ⟨⟨cs, hk.obj h1 (fun h => h), h2, h3⟩, fun k hk' => ⟨(h.items k hk').1.keep hk (fun _ h => h), (h.items k hk').2⟩, h.keep.trans' hk⟩
theorem LS.put {lv : List (Nat × Bool)} {w W : World} {lvb most i g cap : Nat} {G C : Nat → Nat} (h : LS lv w W lvb most i G C) (hi : i < most) (hw : w.heap.size ≤ lvb) (hI : Items W (some ⟨g, 0, none⟩) cap g 0 (levelL lv i)) (hg : lvb < g) :
    LS lv w (W.setCell ⟨lvb, i, none⟩ (.slice (some ⟨g, 0, none⟩) (levelL lv i).length cap)) lvb most (i + 1) (fun k => if k = i then g else G k) (fun k => if k = i then cap else C k) := by
  obtain ⟨cs, h1, h2, h3⟩ := h.cells
  have hk : Keep (fun k => k = lvb) W (W.setCell ⟨lvb, i, none⟩ (.slice (some ⟨g, 0, none⟩) (levelL lv i).length cap)) := Keep.setCell (S := fun k => k = lvb) (p := ⟨lvb, i, none⟩) (Keep.refl _ W) (fun _ => rfl) _
  refine ⟨⟨_, set_obj h1 _ _, by rw [Array.size_setIfInBounds]; exact h2, fun k hk' => ?_⟩, fun k hk' => ?_, h.keep.setCell (fun hlt => by dsimp only at hlt; omega) _⟩
  · rw [Array.getElem?_setIfInBounds]
    by_cases e : i = k
    · subst e; rw [if_pos rfl, if_pos (by omega), if_pos rfl, if_pos rfl]
    · rw [if_neg e, if_neg (show ¬ k = i from fun x => e x.symm), if_neg (show ¬ k = i from fun x => e x.symm)]; exact h3 k (by omega)
  · by_cases e : k = i
    · rw [if_pos e, if_pos e, e]; exact ⟨hI.keep hk (fun _ => by omega), hg⟩
    · rw [if_neg e, if_neg e]
      obtain ⟨q1, q2⟩ := h.items k (by omega)
      exact ⟨q1.keep hk (fun _ => by omega), q2⟩

theorem info84 : (Tryz.prog.info? 130).map (fun i => (i.zero, i.size, i.bytes)) = some (some (.slice none 0 0), 1, 24) := by kernel_rfl

set_option maxRecDepth 100000 in
set_option maxHeartbeats 1000000 in
theorem longer_any (a : Addr) (ca ga oa most : Nat) (lv : List (Nat × Bool)) (w : World) (ha : Items w (some a) ca ga oa lv) (hl : lv.length ≤ 1024) (h2 : 2 ≤ lv.length) (hm0 : 1 ≤ most) (hm : most ≤ 15) (hlt : ∀ p ∈ lv, p.1 < 4294967296) (hfit : ∀ j, j < most → itF lv most j ≤ (levelL lv (most - 1 - j)).length) :
    Calls Tryz.prog 65 #[.slice (some a) lv.length ca, .int .i64 (most : Int)] w fun e w' => ∃ g, e = .returned (.slice (some ⟨g, 0, none⟩) most most) ∧ Row w' .i64 (some ⟨g, 0, none⟩) most g 0 ((List.range most).map (takenF lv most)) ∧ w.heap.size ≤ g ∧ g < w'.heap.size ∧ Keep noBlock w w' := by
  have hmk : ∀ W : World, (Instr.makeSlice 167 (.int .i64 (most : Int)) (.int .i64 (most : Int))).run Tryz.prog W = .ok (.slice (some ⟨W.heap.size, 0, none⟩) most most) (W.alloc (.cells (madeCells #[.slice none 0 0] most) 130)) := fun W =>
    run_make_row' 167 130 (.slice none 0 0) 24 Tryz.underlying167 info84 rfl .i64 .i64 most (by omega) (by omega) W
  have hmk2 : ∀ W : World, (Instr.makeSlice 128 (.int .i64 (most : Int)) (.int .i64 (most : Int))).run Tryz.prog W = .ok (.slice (some ⟨W.heap.size, 0, none⟩) most most) (W.alloc (.cells (madeCells #[.int .i64 0] most) 3)) := fun W =>
    run_make_row' 128 3 (.int .i64 0) 8 Tryz.underlying128 info3 rfl .i64 .i64 most (by omega) (by omega) W
  have hnew := World.alloc_heap_new w (.cells (madeCells #[.slice none 0 0] most) 130)
  have hls0 : LS lv w (w.alloc (.cells (madeCells #[.slice none 0 0] most) 130)) w.heap.size most 0 (fun _ => 0) (fun _ => 0) := ⟨⟨_, hnew, size_madeCells _ _, fun k hk => by omega⟩, fun k hk => by omega, (Keep.refl _ w).alloc _⟩
  have HA := (show Hid (Items w (some a) ca ga oa lv ∧ (∀ p ∈ lv, p.1 < 4294967296) ∧ ∀ j, j < most → itF lv most j ≤ (levelL lv (most - 1 - j)).length) from ⟨ha, hlt, hfit⟩)
  have H0 := (show Hid (LS lv w _ w.heap.size most 0 (fun _ => 0) (fun _ => 0)) from hls0)
  clear ha hlt hfit hls0 hnew
  go_enter Tryz.func65, Tryz.ntmps65
  go_wp2
  generalize w.alloc (.cells (madeCells #[.slice none 0 0] most) 130) = W0 at H0 ⊢
  obtain ⟨lvb, hlvb⟩ : ∃ lvb, lvb = w.heap.size := ⟨_, rfl⟩
  rw [← hlvb] at H0 ⊢
  have HB := (show Hid (lvb = w.heap.size) from hlvb)
  clear hlvb hmk
  go_loopw [6, 15] (fun vb vi wr => ∃ (i : Nat) (G C : Nat → Nat) (ab : Option Addr) (cb gb : Nat) (L : List (Nat × Bool)), vi = .int .i64 (i : Int) ∧ vb = .slice ab L.length cb ∧ i ≤ most ∧ LS lv w wr lvb most i G C ∧ Items wr ab cb gb 0 L ∧ Hid (levelL lv i = lv.merge (pairsL L) leI) ∧ L.length ≤ 2048 ∧ Hid (∀ p ∈ L, p.1 < 4611686018427387904)) (fun _ vi _ => most - (intOf vi).toNat)
  case atStart => exact ⟨0, _, _, none, 0, 0, [], rfl, rfl, by omega, H0.out, ⟨.inr rfl, fun i hi => by simp at hi, Nat.le_refl _, fun h => absurd rfl h⟩, rfl, by simp, fun p hp => by cases hp⟩
  case round =>
    clear H0
    obtain ⟨i, G, C, ab, cb, gb, L, rfl, rfl, him, hls, hIL, HE, hLl, HW⟩ := hrel
    by_cases hlt : i < most
    · have hll := levelL_length lv i
      have hpl := pairsL_length L
      have hlm : (levelL lv i).length = lv.length + (pairsL L).length := by rw [HE.out, List.length_merge]
      have hlp : lv.length + (pairsL L).length ≤ 4096 := by omega
      have HLM := (show Hid ((levelL lv i).length ≤ 2048) from (by omega : (levelL lv i).length ≤ 2048))
      clear hlm hpl hll
      go_wp2_with fail
      refine (pairs_any ab cb gb 0 L wr hIL (by omega) HW.out).mono ?_
      rintro e w1 ⟨g2, rfl, hI2, hg1, hg2, hk1⟩
      have hA1 := HA.out.1.keep (hls.keep.trans' hk1) (fun _ h => h)
      have hls1 := hls.kept hk1
      have HP := (show Hid (LS lv w w1 lvb most i G C) from hls1)
      have hw1 : lvb < wr.heap.size := by obtain ⟨cs, ho, _⟩ := hls.cells; exact obj_lt ho
      clear hls hIL hls1
      go_wp2_with fail
      refine (merge_any a ⟨g2, 0, none⟩ ca (L.length / 2) ga g2 oa 0 lv (pairsL L) w1 hA1 hI2 hlp).mono ?_
      rintro e w2 ⟨g3, cap3, rfl, hI3, hg3, hg4, hk2⟩
      rw [← HE.out] at hI3 ⊢
      have hs1 := hk1.size
      have hls2 := HP.out.kept hk2
      have hput := hls2.put hlt (by rw [HB.out]; exact Nat.le_refl _) hI3 (by omega)
      obtain ⟨cs2, ho2, hz2, _⟩ := hls2.cells
      have hcell : ∃ v, w2.cell? ⟨lvb, i, none⟩ = some v := ⟨cs2[i]'(by omega), by rw [cell_of ho2, Array.getElem?_eq_getElem (by omega)]⟩
      obtain ⟨v0, hv0⟩ := hcell
      have hf0 := frozen_of ho2 i
      have hgI : (i : Int) < (most : Int) := by omega
      obtain ⟨ln, hln⟩ : ∃ ln, ln = (levelL lv i).length := ⟨_, rfl⟩
      rw [← hln] at hput ⊢
      have HPUT := (show Hid (LS lv w _ lvb most (i + 1) _ _ ∧ Items w2 (some ⟨g3, 0, none⟩) cap3 g3 0 (levelL lv i) ∧ ln = (levelL lv i).length ∧ ln ≤ 2048) from ⟨hput, hI3, hln, by rw [hln]; exact HLM.out⟩)
      clear hput hI3 hls2 ho2 hz2 hI2 hA1 hk1 hk2 hln
      go_wp2
      go_roundw
      case rel =>
        obtain ⟨q1, q2, q3, q4⟩ := HPUT.out
        have hk : Keep (fun k => k = lvb) w2 (w2.setCell ⟨lvb, i, none⟩ (.slice (some ⟨g3, 0, none⟩) ln cap3)) := Keep.setCell (S := fun k => k = lvb) (p := ⟨lvb, i, none⟩) (Keep.refl _ w2) (fun _ => rfl) _
        exact ⟨i + 1, _, _, some ⟨g3, 0, none⟩, cap3, g3, levelL lv i, by go_num, by rw [q3], by omega, q1, q2.keep hk (fun _ => by omega), rfl, by omega, levelL_lt' lv HA.out.2.1 i (by omega)⟩
      case measure => simp [intOf]; omega
    · obtain rfl : i = most := by omega
      have hnt := World.alloc_heap_new wr (.cells (madeCells #[.int .i64 0] i) 3)
      have hlst := hls.kept ((Keep.refl noBlock wr).alloc (.cells (madeCells #[.int .i64 0] i) 3))
      have hsz := hls.keep.size
      obtain ⟨tb, htb⟩ : ∃ tb, tb = wr.heap.size := ⟨_, rfl⟩
      have htl : lvb < tb := by obtain ⟨cs, ho, _⟩ := hls.cells; rw [htb]; exact obj_lt ho
      have H1 := (show Hid ((wr.alloc (.cells (madeCells #[.int .i64 0] i) 3)).heap[tb]? = some (.cells (madeCells #[.int .i64 0] i) 3 (0, 0)) ∧ LS lv w (wr.alloc (.cells (madeCells #[.int .i64 0] i) 3)) lvb i i G C) from ⟨by rw [htb]; exact hnt, hlst⟩)
      have HT := (show Hid (lvb < tb ∧ w.heap.size ≤ tb ∧ ∀ k, k < i → G k < tb) from ⟨htl, by omega, fun k hk => by rw [htb]; exact (hls.items k hk).1.lt (fun e => by have := levelL_ge lv k; rw [e, List.length_nil] at this; omega)⟩)
      clear hnt hlst hIL HE HW hls htl
      go_wp2
      rw [← htb]
      clear htb hmk2
      generalize wr.alloc (.cells (madeCells #[.int .i64 0] i) 3) = W1 at H1 ⊢
      go_loopw [9, 10] (fun vt vk wr => ∃ (j kk : Nat) (cs : Array Value), vt = .int .i64 ((itF lv i j : Nat) : Int) ∧ vk = .int .i64 ((kk : Int) - 1) ∧ kk + j = i ∧ LS lv w wr lvb i i G C ∧ wr.heap[tb]? = some (.cells cs 3 (0, 0)) ∧ cs.size = i ∧ ∀ k, k < i → cs[k]? = some (.int .i64 (((if kk ≤ k then takenF lv i k else 0 : Nat)) : Int))) (fun _ vk _ => (intOf vk + 1).toNat)
      case atStart =>
        refine ⟨0, i, _, ?_, rfl, rfl, H1.out.2, H1.out.1, size_madeCells _ _, fun k hk => ?_⟩
        · show _ = Value.int .i64 ((2 * lv.length - 2 : Nat) : Int)
          congr 1; omega
        · rw [if_neg (by omega)]; simp [madeCells, hk, Nat.mod_one]
      case round =>
        clear H1
        obtain ⟨j, kk, cs, rfl, rfl, hkj, hls, hot, hsz2, hcs⟩ := hrel
        cases kk with
        | zero =>
          rw [show ((0 : Nat) : Int) - 1 = (-1 : Int) from rfl]
          go_wp2
          go_ret
          refine ⟨tb, rfl, ⟨.inl rfl, fun k hk => ?_, by simp⟩, HT.out.2.1, obj_lt hot, hls.keep⟩
          have hk' : k < i := by simpa using hk
          rw [Nat.zero_add, cell_of hot, hcs k hk', if_pos (Nat.zero_le _)]
          simp [hk']
        | succ k =>
          have hki : k < i := by omega
          rw [show ((k + 1 : Nat) : Int) - 1 = (k : Int) from by omega]
          obtain ⟨hI, hGk⟩ := hls.items k hki
          obtain ⟨csl, hol, _, hcl⟩ := hls.cells
          have hft := HA.out.2.2 j (by omega)
          rw [show i - 1 - j = k from by omega] at hft
          have c1 := (cell_of hol k).trans (hcl k hki)
          have c2 : wr.cell? ⟨tb, k, none⟩ = _ := (cell_of hot k).trans (hcs k hki)
          have f2 := frozen_of hot k
          have hIt := hI.take (itF lv i j)
          have htl : ((levelL lv k).take (itF lv i j)).length = itF lv i j := by rw [List.length_take]; omega
          have hll := levelL_length lv k
          have hle := hI.le
          have hlv := leavesIn_any (some ⟨G k, 0, none⟩) (C k) (G k) 0 ((levelL lv k).take (itF lv i j)) wr hIt (by omega)
          rw [htl] at hlv
          have hlle : leaves ((levelL lv k).take (itF lv i j)) ≤ itF lv i j := by
            have : leaves ((levelL lv k).take (itF lv i j)) ≤ _ := List.countP_le_length
            omega
          have htk : takenF lv i k = leaves ((levelL lv k).take (itF lv i j)) := by unfold takenF; rw [show i - 1 - k = j from by omega]
          have hnx : itF lv i (j + 1) = 2 * (itF lv i j - leaves ((levelL lv k).take (itF lv i j))) := by rw [itF, show i - 1 - j = k from by omega]
          rw [← htk] at hlv hlle hnx
          have HV := (show Hid (∀ u : Unit, Calls Tryz.prog 90 _ wr _) from fun _ => hlv)
          have HX := (show Hid (itF lv i (j + 1) = 2 * (itF lv i j - takenF lv i k)) from hnx)
          obtain ⟨t, ht⟩ : ∃ t, t = takenF lv i k := ⟨_, rfl⟩
          rw [← ht] at hlle
          obtain ⟨it, hit⟩ : ∃ it, it = itF lv i j := ⟨_, rfl⟩
          rw [← hit] at hlle hft ⊢
          obtain ⟨ln, hln⟩ : ∃ ln, ln = (levelL lv k).length := ⟨_, rfl⟩
          rw [← hln] at c1 hft hle hll
          have hb1 : it ≤ 2048 := by omega
          have hI1 : (it : Int) ≤ (C k : Int) := by omega
          have HS := (show Hid (t = takenF lv i k ∧ it = itF lv i j ∧ LS lv w wr lvb i i G C ∧ wr.heap[tb]? = some (.cells cs 3 (0, 0)) ∧ ∀ k2, k2 < i → cs[k2]? = some (.int .i64 (((if k + 1 ≤ k2 then takenF lv i k2 else 0 : Nat)) : Int))) from ⟨ht, hit, hls, hot, hcs⟩)
          clear ht hit hlv htk hnx htl hIt hI hol hcl hls hot hcs hln
          go_wp2_with fail
          have hv := HV.out ()
          rw [← HS.out.2.1, ← HS.out.1] at hv
          refine hv.mono ?_
          rintro e w1 ⟨rfl, hk1⟩
          obtain ⟨q1, q2, q3, q4, q5⟩ := HS.out
          have hot1 := hk1.obj q4 (fun h => h)
          have c3 := (cell_of hot1 k).trans (q5 k hki)
          rw [if_neg (by omega)] at c3
          have f3 := frozen_of hot1 k
          have hset := set_obj hot1 k (.int .i64 (t : Int))
          have hls1 := q3.kept hk1
          have hks : Keep (fun x => x = tb) w1 (w1.setCell ⟨tb, k, none⟩ (.int .i64 (t : Int))) := Keep.setCell (S := fun x => x = tb) (p := ⟨tb, k, none⟩) (Keep.refl _ w1) (fun _ => rfl) _
          have hne : ∀ k, k < i → G k ≠ tb := fun k hk => by have := HT.out.2.2 k hk; omega
          have HR := (show Hid (LS lv w (w1.setCell ⟨tb, k, none⟩ (.int .i64 (t : Int))) lvb i i G C ∧ (w1.setCell ⟨tb, k, none⟩ (.int .i64 (t : Int))).heap[tb]? = some (.cells (cs.setIfInBounds k (.int .i64 (t : Int))) 3 (0, 0)) ∧ (∀ k2, k2 < i → (cs.setIfInBounds k (.int .i64 (t : Int)))[k2]? = some (.int .i64 (((if k ≤ k2 then takenF lv i k2 else 0 : Nat)) : Int)))) from ⟨by
              obtain ⟨csl, r1, r2, r3⟩ := hls1.cells
              exact ⟨⟨csl, hks.obj r1 (by have := HT.out.1; omega), r2, r3⟩, fun k2 hk2 => ⟨(hls1.items k2 hk2).1.keep hks (fun _ => hne k2 hk2), (hls1.items k2 hk2).2⟩, hls1.keep.setCell (p := ⟨tb, k, none⟩) (fun h => by have := HT.out.2.1; dsimp only at h; omega) _⟩, hset, fun k2 hk2 => by
              rw [Array.getElem?_setIfInBounds]
              by_cases e : k = k2
              · subst e; rw [if_pos rfl, if_pos (by omega), if_pos (Nat.le_refl _), q1]
              · rw [if_neg e, q5 k2 hk2]
                by_cases e2 : k + 1 ≤ k2
                · rw [if_pos e2, if_pos (by omega)]
                · rw [if_neg e2, if_neg (by omega)]⟩)
          clear hset hls1 hks hot1 q1 q2 q3 q4 q5 c2 f2 c1 hk1
          go_wp2
          go_roundw
          case rel => exact ⟨j + 1, k, _, by rw [HX.out, ← HS.out.1, ← HS.out.2.1]; congr 1; omega, by rfl, by omega, HR.out.1, HR.out.2.1, by rw [Array.size_setIfInBounds]; exact hsz2, HR.out.2.2⟩
          case measure => simp [intOf]

end Go.Proofs.YtcoahkmiebeeeaaGreatDoor.C5

namespace Go.Proofs.YtcoahkmiebeeeaaGreatDoor.C5

def nodes (L : List (Nat × Bool)) : Nat := L.countP (fun p => !p.2)
theorem leaves_nodes (L : List (Nat × Bool)) : L.length = leaves L + nodes L := by
  induction L with
  | nil => rfl
  | cons p L ih =>
    obtain ⟨x, b⟩ := p
    unfold leaves nodes at ih ⊢
    cases b <;> simp [ih] <;> omega
theorem leaves_append (L M : List (Nat × Bool)) : leaves (L ++ M) = leaves L + leaves M := List.countP_append ..
theorem nodes_append (L M : List (Nat × Bool)) : nodes (L ++ M) = nodes L + nodes M := List.countP_append ..
theorem leaves_merge (L M : List (Nat × Bool)) : leaves (L.merge M leI) = leaves L + leaves M := by
  rw [← leaves_append]; exact (List.merge_perm_append leI).countP_eq _
theorem nodes_merge (L M : List (Nat × Bool)) : nodes (L.merge M leI) = nodes L + nodes M := by
  rw [← nodes_append]; exact (List.merge_perm_append leI).countP_eq _
theorem pairsL_nodes (L : List (Nat × Bool)) : leaves (pairsL L) = 0 ∧ nodes (pairsL L) = L.length / 2 := by
  have h : leaves (pairsL L) = 0 := by
    unfold leaves
    rw [List.countP_eq_zero]
    intro p hp
    simp only [pairsL, List.mem_map] at hp
    obtain ⟨i, _, rfl⟩ := hp
    simp
  refine ⟨h, ?_⟩
  have := leaves_nodes (pairsL L)
  rw [pairsL_length, h] at this
  omega
theorem all_leaves (lv : List (Nat × Bool)) (h : ∀ p ∈ lv, p.2 = true) : leaves lv = lv.length ∧ nodes lv = 0 := by
  have h0 : nodes lv = 0 := by
    unfold nodes
    rw [List.countP_eq_zero]
    intro p hp
    simp [h p hp]
  have := leaves_nodes lv
  exact ⟨by omega, h0⟩
def belowL (lv : List (Nat × Bool)) : Nat → List (Nat × Bool)
  | 0 => []
  | k + 1 => levelL lv k
theorem levelL_eq (lv : List (Nat × Bool)) (k : Nat) : levelL lv k = lv.merge (pairsL (belowL lv k)) leI := by cases k <;> rfl
theorem levelL_leaves (lv : List (Nat × Bool)) (h : ∀ p ∈ lv, p.2 = true) (k : Nat) : leaves (levelL lv k) = lv.length ∧ nodes (levelL lv k) = (belowL lv k).length / 2 := by
  obtain ⟨a1, a2⟩ := all_leaves lv h
  obtain ⟨p1, p2⟩ := pairsL_nodes (belowL lv k)
  rw [levelL_eq, leaves_merge, nodes_merge]
  omega
theorem levelL_len (lv : List (Nat × Bool)) (k : Nat) : (levelL lv k).length = lv.length + (belowL lv k).length / 2 := by
  rw [levelL_eq, List.length_merge, pairsL_length]
theorem level_lack (lv : List (Nat × Bool)) (most k : Nat) (h : lv.length ≤ 2 ^ most) (hk : k < most) : 2 * lv.length ≤ (levelL lv k).length + 2 ^ (most - k) := by
  induction k with
  | zero => rw [levelL_len]; simp [belowL]; omega
  | succ k ih =>
    have := ih (by omega)
    rw [levelL_len]
    simp only [belowL]
    have e : 2 ^ (most - k) = 2 * 2 ^ (most - (k + 1)) := by
      rw [show most - k = (most - (k + 1)) + 1 from by omega, Nat.pow_succ, Nat.mul_comm]
    omega
theorem take_nodes (L : List (Nat × Bool)) (n : Nat) : nodes (L.take n) ≤ nodes L := List.Sublist.countP_le (List.take_sublist n L)
theorem take_leaves (L : List (Nat × Bool)) (n : Nat) : leaves (L.take n) ≤ leaves L := List.Sublist.countP_le (List.take_sublist n L)
theorem itF_fits (lv : List (Nat × Bool)) (most : Nat) (hal : ∀ p ∈ lv, p.2 = true) (hm : 1 ≤ most) (hn : lv.length ≤ 2 ^ most) (j : Nat) (hj : j < most) : itF lv most j ≤ (levelL lv (most - 1 - j)).length := by
  induction j with
  | zero =>
    have := level_lack lv most (most - 1) hn (by omega)
    rw [show most - (most - 1) = 1 from by omega] at this
    simp only [itF, Nat.sub_zero]
    omega
  | succ j ih =>
    have h1 := ih (by omega)
    have h2 := leaves_nodes ((levelL lv (most - 1 - j)).take (itF lv most j))
    rw [List.length_take, Nat.min_eq_left h1] at h2
    have h3 := take_nodes (levelL lv (most - 1 - j)) (itF lv most j)
    rw [(levelL_leaves lv hal (most - 1 - j)).2] at h3
    have e : belowL lv (most - 1 - j) = levelL lv (most - 1 - (j + 1)) := by
      rw [show most - 1 - j = (most - 1 - (j + 1)) + 1 from by omega]; rfl
    rw [e] at h3
    simp only [itF]
    omega
theorem takenF_le (lv : List (Nat × Bool)) (most k : Nat) (hal : ∀ p ∈ lv, p.2 = true) : takenF lv most k ≤ lv.length := by
  unfold takenF
  have := take_leaves (levelL lv k) (itF lv most (most - 1 - k))
  rw [(levelL_leaves lv hal k).1] at this
  exact this

def incTo (P : List Nat) (T : Nat → Nat) (k j s : Nat) : Nat := ((List.range k).filter (fun i => decide (s ∈ P.take (T i)))).length + (if s ∈ P.take j then 1 else 0)
theorem incTo_le (P : List Nat) (T : Nat → Nat) (k j s : Nat) : incTo P T k j s ≤ k + 1 := by
  unfold incTo
  have : ((List.range k).filter (fun i => decide (s ∈ P.take (T i)))).length ≤ (List.range k).length := List.length_filter_le _ _
  simp at this
  split <;> omega
theorem incTo_next (P : List Nat) (T : Nat → Nat) (k s : Nat) : incTo P T (k + 1) 0 s = incTo P T k (T k) s := by
  unfold incTo
  rw [List.range_succ, List.filter_append, List.length_append]
  by_cases h : s ∈ P.take (T k) <;> simp [h]
theorem incTo_step (P : List Nat) (T : Nat → Nat) (k j s : Nat) (hd : P.Nodup) (hj : j < P.length) : incTo P T k (j + 1) s = if s = P[j] then incTo P T k j s + 1 else incTo P T k j s := by
  have hmem : s ∈ P.take (j + 1) ↔ s ∈ P.take j ∨ s = P[j] := by
    rw [List.take_add_one, List.getElem?_eq_getElem hj, Option.toList_some, List.mem_append, List.mem_singleton]
  unfold incTo
  by_cases e : s = P[j]
  · have hn : ¬ s ∈ P.take j := by
      intro hm
      obtain ⟨i, hi, he⟩ := List.mem_iff_getElem.1 hm
      rw [List.getElem_take] at he
      rw [List.length_take] at hi
      exact List.pairwise_iff_getElem.1 hd i j (by omega) hj (by omega) (he.trans e)
    rw [if_pos e, if_neg hn, if_pos (hmem.2 (.inr e))]
  · rw [if_neg e]
    congr 1
    by_cases h : s ∈ P.take j
    · rw [if_pos h, if_pos (hmem.2 (.inl h))]
    · rw [if_neg h, if_neg (fun x => (hmem.1 x).elim h e)]
theorem incTo_zero (P : List Nat) (T : Nat → Nat) (s : Nat) : incTo P T 0 0 s = 0 := by simp [incTo]
theorem IsOrder.nodup {K : Nat → Nat} {n : Nat} {P : List Nat} (h : IsOrder K n P) : P.Nodup := h.sorted.imp (fun hl => by rintro rfl; exact hl.irrefl)

def lvOf (xs P : List Nat) : List (Nat × Bool) := P.map (fun p => (numOf xs p, true))
def limitL (xs P : List Nat) (most : Nat) : List Nat := (List.range xs.length).map (incTo P (takenF (lvOf xs P) most) most 0)

end Go.Proofs.YtcoahkmiebeeeaaGreatDoor.C5

namespace Go.Proofs.YtcoahkmiebeeeaaGreatDoor.C5

def wsum (L : List (Nat × Bool)) : Nat := (L.map Prod.fst).sum
theorem wsum_cons (x : Nat × Bool) (L : List (Nat × Bool)) : wsum (x :: L) = x.1 + wsum L := by simp [wsum]
theorem leaves_cons (x : Nat × Bool) (L : List (Nat × Bool)) : leaves (x :: L) = leaves L + (if x.2 then 1 else 0) := by simp [leaves, List.countP_cons]
theorem nodes_cons (x : Nat × Bool) (L : List (Nat × Bool)) : nodes (x :: L) = nodes L + (if x.2 then 0 else 1) := by
  simp only [nodes, List.countP_cons]
  cases x.2 <;> simp
theorem take_all_leaves (A : List (Nat × Bool)) (hA : ∀ p ∈ A, p.2 = true) (n : Nat) : A.take (leaves (A.take n)) = A.take n ∧ nodes (A.take n) = 0 := by
  have h := all_leaves (A.take n) (fun p hp => hA p (List.mem_of_mem_take hp))
  refine ⟨?_, h.2⟩
  rw [h.1, List.length_take]
  rcases Nat.le_total n A.length with e | e
  · rw [Nat.min_eq_left e]
  · rw [Nat.min_eq_right e, List.take_of_length_le e, List.take_of_length_le (Nat.le_refl _)]
theorem take_all_nodes (B : List (Nat × Bool)) (hB : ∀ p ∈ B, p.2 = false) (n : Nat) : B.take (nodes (B.take n)) = B.take n ∧ leaves (B.take n) = 0 := by
  have h0 : leaves (B.take n) = 0 := by
    unfold leaves
    rw [List.countP_eq_zero]
    intro p hp
    simp [hB p (List.mem_of_mem_take hp)]
  refine ⟨?_, h0⟩
  have h := leaves_nodes (B.take n)
  rw [h0, Nat.zero_add] at h
  rw [← h, List.length_take]
  rcases Nat.le_total n B.length with e | e
  · rw [Nat.min_eq_left e]
  · rw [Nat.min_eq_right e, List.take_of_length_le e, List.take_of_length_le (Nat.le_refl _)]

theorem merge_take (A B : List (Nat × Bool)) (n : Nat) (hA : ∀ p ∈ A, p.2 = true) (hB : ∀ p ∈ B, p.2 = false) :
    wsum ((A.merge B leI).take n) = wsum (A.take (leaves ((A.merge B leI).take n))) + wsum (B.take (nodes ((A.merge B leI).take n))) ∧
    ∀ x ∈ A.take (leaves ((A.merge B leI).take n)), x ∈ (A.merge B leI).take n := by
  induction n generalizing A B with
  | zero => simp [wsum, leaves, nodes]
  | succ n ihn =>
    cases A with
    | nil =>
      rw [List.nil_merge, (take_all_nodes B hB (n + 1)).1]
      simp [wsum]
    | cons x A =>
      cases B with
      | nil =>
        rw [List.merge_right, (take_all_leaves (x :: A) hA (n + 1)).1]
        simp [wsum]
      | cons y B =>
        rw [List.cons_merge_cons]
        have hx := hA x (List.mem_cons_self ..)
        have hy := hB y (List.mem_cons_self ..)
        split
        · have ih := ihn A (y :: B) (fun p hp => hA p (List.mem_cons_of_mem _ hp)) hB
          rw [List.take_succ_cons, leaves_cons, nodes_cons, wsum_cons, hx]
          simp only [if_true, Nat.add_zero, List.take_succ_cons, wsum_cons]
          refine ⟨by rw [ih.1]; omega, fun z hz => ?_⟩
          rcases List.mem_cons.1 hz with rfl | hz
          · exact List.mem_cons_self ..
          · exact List.mem_cons_of_mem _ (ih.2 z hz)
        · have ih := ihn (x :: A) B hA (fun p hp => hB p (List.mem_cons_of_mem _ hp))
          rw [List.take_succ_cons, leaves_cons, nodes_cons, wsum_cons, hy]
          simp only [Bool.false_eq_true, if_false, Nat.add_zero, List.take_succ_cons, wsum_cons]
          exact ⟨by rw [ih.1]; omega, fun z hz => List.mem_cons_of_mem _ (ih.2 z hz)⟩

theorem merge_later (A B : List (Nat × Bool)) (n : Nat) (hA : ∀ p ∈ A, p.2 = true) (hB : ∀ p ∈ B, p.2 = false) (hs : A.Pairwise (fun p q => p.1 ≤ q.1)) (ha : leaves ((A.merge B leI).take n) < A.length) (hb : 0 < nodes ((A.merge B leI).take n)) :
    (B[nodes ((A.merge B leI).take n) - 1]?.getD (0, false)).1 < (A[leaves ((A.merge B leI).take n)]?.getD (0, false)).1 := by
  induction n generalizing A B with
  | zero => simp [nodes] at hb
  | succ n ihn =>
    cases A with
    | nil => simp at ha
    | cons x A =>
      cases B with
      | nil =>
        rw [List.merge_right] at hb
        rw [(take_all_leaves (x :: A) hA (n + 1)).2] at hb
        omega
      | cons y B =>
        rw [List.cons_merge_cons] at ha hb ⊢
        have hx := hA x (List.mem_cons_self ..)
        have hy := hB y (List.mem_cons_self ..)
        by_cases h : leI x y = true
        · rw [if_pos h] at ha hb ⊢
          rw [List.take_succ_cons, leaves_cons, hx] at ha
          rw [List.take_succ_cons, nodes_cons, hx] at hb
          rw [List.take_succ_cons, leaves_cons, nodes_cons, hx]
          simp only [if_true, Nat.add_zero, List.getElem?_cons_succ] at ha hb ⊢
          exact ihn A (y :: B) (fun p hp => hA p (List.mem_cons_of_mem _ hp)) hB (List.pairwise_cons.1 hs).2 (by simpa using ha) hb
        · rw [if_neg h] at ha hb ⊢
          rw [List.take_succ_cons, leaves_cons, hy] at ha
          rw [List.take_succ_cons, nodes_cons, hy] at hb
          rw [List.take_succ_cons, leaves_cons, nodes_cons, hy]
          simp only [Bool.false_eq_true, if_false, Nat.add_zero] at ha hb ⊢
          have ih := ihn (x :: A) B hA (fun p hp => hB p (List.mem_cons_of_mem _ hp)) hs ha
          generalize hm : nodes (List.take n ((x :: A).merge B leI)) = m at ih ⊢
          generalize leaves (List.take n ((x :: A).merge B leI)) = k at ih ha ⊢
          cases m with
          | zero =>
            have hxy : y.1 < x.1 := by simpa [leI] using h
            have hk : x.1 ≤ ((x :: A)[k]?.getD (0, false)).1 := by
              rw [List.getElem?_eq_getElem ha]
              cases k with
              | zero => exact Nat.le_refl _
              | succ k => exact (List.pairwise_cons.1 hs).1 _ (List.getElem_mem _)
            simpa using Nat.lt_of_lt_of_le hxy hk
          | succ m =>
            have := ih (by omega)
            simpa using this

def Rising (L : List (Nat × Bool)) : Prop := L.Pairwise (fun p q => p.1 ≤ q.1)
theorem Rising.at {L : List (Nat × Bool)} (h : Rising L) {i j : Nat} (hij : i ≤ j) (hj : j < L.length) : (L[i]?.getD (0, false)).1 ≤ (L[j]?.getD (0, false)).1 := by
  rw [List.getElem?_eq_getElem hj, List.getElem?_eq_getElem (show i < L.length by omega)]
  rcases Nat.lt_or_eq_of_le hij with e | e
  · exact List.pairwise_iff_getElem.1 h i j (by omega) hj e
  · subst e; exact Nat.le_refl _
theorem pairsL_rising {L : List (Nat × Bool)} (h : Rising L) : Rising (pairsL L) := by
  unfold Rising
  rw [List.pairwise_iff_getElem]
  intro i j hi hj hij
  rw [pairsL_length] at hi hj
  simp only [pairsL, List.getElem_map, List.getElem_range]
  have h1 := h.at (i := 2 * i) (j := 2 * j) (by omega) (by omega)
  have h2 := h.at (i := 2 * i + 1) (j := 2 * j + 1) (by omega) (by omega)
  omega
theorem merge_rising {A B : List (Nat × Bool)} (hA : Rising A) (hB : Rising B) : Rising (A.merge B leI) := by
  have := List.pairwise_merge (le := leI) (fun a b c h1 h2 => by simp [leI] at *; omega) (fun a b => by simp [leI]; omega) A B (hA.imp (fun h => by simpa [leI] using h)) (hB.imp (fun h => by simpa [leI] using h))
  exact this.imp (fun h => by simpa [leI] using h)
theorem level_rising {lv : List (Nat × Bool)} (h : Rising lv) (k : Nat) : Rising (levelL lv k) := by
  induction k with
  | zero => exact merge_rising h (pairsL_rising List.Pairwise.nil)
  | succ k ih => exact merge_rising h (pairsL_rising ih)
theorem pairs_false (L : List (Nat × Bool)) : ∀ p ∈ pairsL L, p.2 = false := by
  intro p hp
  simp only [pairsL, List.mem_map] at hp
  obtain ⟨i, _, rfl⟩ := hp
  rfl
theorem leaf_le {lv : List (Nat × Bool)} (hal : ∀ p ∈ lv, p.2 = true) (hr : Rising lv) (k m j : Nat) (hm : m ≤ (levelL lv k).length) (hj : j < leaves ((levelL lv k).take m)) : (lv[j]?.getD (0, false)).1 ≤ ((levelL lv k)[m - 1]?.getD (0, false)).1 := by
  have hR := level_rising hr k
  have hlen : leaves ((levelL lv k).take m) ≤ lv.length := Nat.le_trans (take_leaves _ _) (by rw [(levelL_leaves lv hal k).1]; exact Nat.le_refl _)
  have hmem : lv[j]'(by omega) ∈ (levelL lv k).take m := by
    have h2 := (merge_take lv (pairsL (belowL lv k)) m hal (pairs_false _)).2 (lv[j]'(by omega))
    rw [← levelL_eq] at h2
    exact h2 (List.mem_take_iff_getElem.2 ⟨j, by omega, rfl⟩)
  obtain ⟨i, hi, e⟩ := List.mem_take_iff_getElem.1 hmem
  rw [List.getElem?_eq_getElem (show j < lv.length by omega), ← e]
  have := hR.at (i := i) (j := m - 1) (by omega) (by omega)
  rw [List.getElem?_eq_getElem (show i < (levelL lv k).length by omega)] at this
  exact this
theorem pair_at (L : List (Nat × Bool)) (b : Nat) (hb : 2 * b + 1 < L.length) : ((pairsL L)[b]?.getD (0, false)).1 = (L[2 * b]?.getD (0, false)).1 + (L[2 * b + 1]?.getD (0, false)).1 := by
  unfold pairsL
  rw [List.getElem?_map, List.getElem?_range (by omega)]
  rfl
theorem pairs_wsum (L : List (Nat × Bool)) (b : Nat) (hb : 2 * b ≤ L.length) : wsum ((pairsL L).take b) = wsum (L.take (2 * b)) := by
  induction b with
  | zero => simp [wsum]
  | succ b ih =>
    have h := pair_at L b (by omega)
    have h1 : b < (pairsL L).length := by rw [pairsL_length]; omega
    rw [show 2 * (b + 1) = 2 * b + 1 + 1 by omega, List.take_add_one, List.take_add_one (i := 2 * b + 1), List.take_add_one (i := 2 * b)]
    unfold wsum at ih ⊢
    simp only [List.map_append, List.sum_append]
    rw [ih (by omega)]
    rw [List.getElem?_eq_getElem h1] at h ⊢
    rw [List.getElem?_eq_getElem (show 2 * b < L.length by omega), List.getElem?_eq_getElem (show 2 * b + 1 < L.length by omega)] at h ⊢
    simp at h ⊢
    omega

theorem levelL_lt2 (lv : List (Nat × Bool)) (k : Nat) (h : 0 < lv.length) : (levelL lv k).length < 2 * lv.length := by
  induction k with
  | zero => rw [levelL_len]; simp [belowL]; omega
  | succ k ih => rw [levelL_len]; simp only [belowL]; omega
def nF (lv : List (Nat × Bool)) (most k : Nat) : Nat := itF lv most (most - 1 - k)
theorem nF_fits {lv : List (Nat × Bool)} {most : Nat} (hal : ∀ p ∈ lv, p.2 = true) (hm : 1 ≤ most) (hn : lv.length ≤ 2 ^ most) (k : Nat) (hk : k < most) : nF lv most k ≤ (levelL lv k).length := by
  have := itF_fits lv most hal hm hn (most - 1 - k) (by omega)
  rw [show most - 1 - (most - 1 - k) = k by omega] at this
  exact this
theorem nF_split {lv : List (Nat × Bool)} {most : Nat} (hal : ∀ p ∈ lv, p.2 = true) (hm : 1 ≤ most) (hn : lv.length ≤ 2 ^ most) (k : Nat) (hk : k < most) : nF lv most k = takenF lv most k + nodes ((levelL lv k).take (nF lv most k)) := by
  have h1 := leaves_nodes ((levelL lv k).take (nF lv most k))
  have h3 := nF_fits hal hm hn k hk
  rw [List.length_take, Nat.min_eq_left h3] at h1
  exact h1
theorem nF_below {lv : List (Nat × Bool)} {most : Nat} (hal : ∀ p ∈ lv, p.2 = true) (hm : 1 ≤ most) (hn : lv.length ≤ 2 ^ most) (k : Nat) (hk : k + 1 < most) : nF lv most k = 2 * nodes ((levelL lv (k + 1)).take (nF lv most (k + 1))) := by
  have h1 := nF_split hal hm hn (k + 1) hk
  have e : most - 1 - k = (most - 1 - (k + 1)) + 1 := by omega
  have h3 : nF lv most k = 2 * (nF lv most (k + 1) - takenF lv most (k + 1)) := by
    unfold nF takenF
    rw [e]
    simp only [itF]
    rw [show most - 1 - (most - 1 - (k + 1)) = k + 1 by omega]
  omega
theorem nodes_le {lv : List (Nat × Bool)} (hal : ∀ p ∈ lv, p.2 = true) (k n : Nat) : 2 * nodes ((levelL lv (k + 1)).take n) ≤ (levelL lv k).length := by
  have h1 := take_nodes (levelL lv (k + 1)) n
  have h3 := (levelL_leaves lv hal (k + 1)).2
  simp only [belowL] at h3
  omega
theorem level_sum {lv : List (Nat × Bool)} {most : Nat} (hal : ∀ p ∈ lv, p.2 = true) (hm : 1 ≤ most) (hn : lv.length ≤ 2 ^ most) (k : Nat) (hk : k < most) : wsum ((levelL lv k).take (nF lv most k)) = ((List.range (k + 1)).map (fun i => wsum (lv.take (takenF lv most i)))).sum ∧
    2 ^ k * nF lv most k = ((List.range (k + 1)).map (fun i => 2 ^ i * takenF lv most i)).sum := by
  induction k with
  | zero =>
    have h1 := (merge_take lv (pairsL []) (nF lv most 0) hal (pairs_false _)).1
    have h3 := nF_split hal hm hn 0 hk
    have h4 : nodes ((levelL lv 0).take (nF lv most 0)) = 0 := by
      have := take_nodes (levelL lv 0) (nF lv most 0)
      have h5 := (levelL_leaves lv hal 0).2
      simp only [belowL, List.length_nil] at h5
      omega
    rw [h4, Nat.add_zero] at h3
    refine ⟨?_, by simpa using h3⟩
    have e : levelL lv 0 = lv.merge (pairsL []) leI := rfl
    rw [← e] at h1
    rw [h1, h4]
    simp [wsum, takenF, nF]
  | succ k ih =>
    obtain ⟨i1, i2⟩ := ih (by omega)
    have h1 := (merge_take lv (pairsL (levelL lv k)) (nF lv most (k + 1)) hal (pairs_false _)).1
    have e : levelL lv (k + 1) = lv.merge (pairsL (levelL lv k)) leI := rfl
    rw [← e] at h1
    have h3 := nF_split hal hm hn (k + 1) hk
    have h4 := nF_below hal hm hn k hk
    have h5 := nodes_le hal k (nF lv most (k + 1))
    rw [List.range_succ, List.map_append, List.sum_append, List.map_append, List.sum_append, ← i1, ← i2]
    constructor
    · rw [h1, pairs_wsum _ _ h5, ← h4]
      show wsum (lv.take (takenF lv most (k + 1))) + _ = _
      simp [Nat.add_comm]
    · generalize nodes ((levelL lv (k + 1)).take (nF lv most (k + 1))) = b at h3 h4
      rw [h3, h4, Nat.pow_succ]
      simp only [List.map_cons, List.map_nil, List.sum_cons, List.sum_nil, Nat.add_zero]
      rw [Nat.mul_add, Nat.mul_assoc, Nat.mul_assoc, Nat.add_comm, Nat.pow_succ, Nat.mul_assoc]
theorem taken_mono {lv : List (Nat × Bool)} {most : Nat} (hal : ∀ p ∈ lv, p.2 = true) (hr : Rising lv) (hm : 1 ≤ most) (hn : lv.length ≤ 2 ^ most) (k : Nat) (hk : k + 1 < most) : takenF lv most k ≤ takenF lv most (k + 1) := by
  rcases Nat.lt_or_ge (takenF lv most (k + 1)) (takenF lv most k) with hlt | h
  · exfalso
    have h4 := nF_below hal hm hn k hk
    have h5 := nodes_le hal k (nF lv most (k + 1))
    have h6 : takenF lv most k ≤ lv.length := takenF_le lv most k hal
    have hpos : 0 < nodes ((levelL lv (k + 1)).take (nF lv most (k + 1))) := by
      rcases Nat.eq_zero_or_pos (nodes ((levelL lv (k + 1)).take (nF lv most (k + 1)))) with e | e
      · rw [e] at h4
        have : takenF lv most k = 0 := by
          show leaves ((levelL lv k).take (nF lv most k)) = 0
          rw [h4]; rfl
        omega
      · exact e
    have e : levelL lv (k + 1) = lv.merge (pairsL (levelL lv k)) leI := rfl
    have h7 := merge_later lv (pairsL (levelL lv k)) (nF lv most (k + 1)) hal (pairs_false _) hr
    rw [← e] at h7
    have h8 := h7 (Nat.lt_of_lt_of_le hlt h6) hpos
    have h9 := leaf_le hal hr k (nF lv most k) (takenF lv most (k + 1)) (nF_fits hal hm hn k (by omega)) hlt
    change _ < (lv[takenF lv most (k + 1)]?.getD (0, false)).1 at h8
    generalize nodes ((levelL lv (k + 1)).take (nF lv most (k + 1))) = b at h4 h5 hpos h8
    have hp := pair_at (levelL lv k) (b - 1) (by omega)
    rw [show 2 * (b - 1) + 1 = 2 * b - 1 by omega] at hp
    rw [h4] at h9
    omega
  · exact h
theorem top_all {lv : List (Nat × Bool)} (hal : ∀ p ∈ lv, p.2 = true) (hr : Rising lv) (h2 : 2 ≤ lv.length) (k : Nat) (hk : 2 * lv.length - 2 ≤ (levelL lv k).length) : leaves ((levelL lv k).take (2 * lv.length - 2)) = lv.length := by
  induction k with
  | zero =>
    have hl : (levelL lv 0).length = lv.length := by rw [levelL_len]; simp [belowL]
    rw [List.take_of_length_le (by omega), (levelL_leaves lv hal 0).1]
  | succ k ih =>
    have h1 := leaves_nodes ((levelL lv (k + 1)).take (2 * lv.length - 2))
    rw [List.length_take, Nat.min_eq_left hk] at h1
    have h3 := take_leaves (levelL lv (k + 1)) (2 * lv.length - 2)
    rw [(levelL_leaves lv hal (k + 1)).1] at h3
    have h4 := take_nodes (levelL lv (k + 1)) (2 * lv.length - 2)
    rw [(levelL_leaves lv hal (k + 1)).2] at h4
    simp only [belowL] at h4
    have h5 := levelL_lt2 lv k (by omega)
    rcases Nat.lt_or_ge (leaves ((levelL lv (k + 1)).take (2 * lv.length - 2))) lv.length with hlt | hge
    · exfalso
      have e : levelL lv (k + 1) = lv.merge (pairsL (levelL lv k)) leI := rfl
      have h7 := merge_later lv (pairsL (levelL lv k)) (2 * lv.length - 2) hal (pairs_false _) hr
      rw [← e] at h7
      have h8 := h7 hlt (by omega)
      have h9 := ih (by omega)
      have h10 := leaf_le hal hr k (2 * lv.length - 2) (leaves ((levelL lv (k + 1)).take (2 * lv.length - 2))) (by omega) (by omega)
      generalize nodes ((levelL lv (k + 1)).take (2 * lv.length - 2)) = b at h1 h4 h8
      generalize leaves ((levelL lv (k + 1)).take (2 * lv.length - 2)) = t at h1 h3 hlt h8 h10
      have hp := pair_at (levelL lv k) (b - 1) (by omega)
      rw [show 2 * (b - 1) + 1 = 2 * lv.length - 2 - 1 by omega] at hp
      omega
    · omega
theorem taken_top {lv : List (Nat × Bool)} {most : Nat} (hal : ∀ p ∈ lv, p.2 = true) (hr : Rising lv) (h2 : 2 ≤ lv.length) (hm : 1 ≤ most) (hn : lv.length ≤ 2 ^ most) : takenF lv most (most - 1) = lv.length := by
  have h := nF_fits hal hm hn (most - 1) (by omega)
  have e : nF lv most (most - 1) = 2 * lv.length - 2 := by
    unfold nF
    rw [Nat.sub_self]
    rfl
  rw [e] at h
  have := top_all hal hr h2 (most - 1) h
  unfold takenF
  rw [Nat.sub_self]
  exact this

end Go.Proofs.YtcoahkmiebeeeaaGreatDoor.C5

namespace Go.Proofs.YtcoahkmiebeeeaaGreatDoor.C5
open Go.RowKit Go.Shelf

theorem setCell_self {w : World} {b i : Nat} {v : Value} (h : w.cell? ⟨b, i, none⟩ = some v) : w.setCell ⟨b, i, none⟩ v = w := by
  have e : (w.setCell ⟨b, i, none⟩ v).heap = w.heap := by
    apply Array.ext_getElem?
    intro k
    by_cases hk : k = b
    · subst hk
      cases ho : w.heap[k]? with
      | none => simp [World.cell?, ho] at h
      | some o =>
        cases o with
        | cells cs t fz =>
          simp [World.cell?, ho] at h
          obtain ⟨hlt, hv⟩ := Array.getElem?_eq_some_iff.1 ho
          show (w.heap.modify k _)[k]? = _
          rw [Array.getElem?_eq_getElem (by rw [Array.size_modify]; exact hlt), Array.getElem_modify_self, hv]
          simp only [Option.isSome_none, if_false, Bool.false_eq_true]
          congr 2
          apply Array.ext_getElem?
          intro j
          rw [Array.getElem?_setIfInBounds]
          by_cases e : i = j
          · subst e
            rw [if_pos rfl, if_pos (Array.getElem?_eq_some_iff.1 h).1, h]
          · rw [if_neg e]
        | _ => simp [World.cell?, ho] at h
    · exact Below.heap_setCell _ _ _ _ hk
  cases w with
  | mk heap tape drawn os output =>
    simp only [World.setCell] at e ⊢
    rw [e]

def many (xs : List Nat) (l : Nat) : Nat := if l = 0 then 0 else xs.count l
def partsTo (c : Nat → Nat) : Nat → Nat
  | 0 => 0
  | l + 1 => partsTo c l + c l * 2 ^ (15 - l)
def isCode (xs : List Nat) : Bool := decide (xs.length ≤ 1024 ∧ (∀ x ∈ xs, x ≤ 15) ∧ partsTo (many xs) 16 = 32768)

attribute [local go_sem] setCell_self

end Go.Proofs.YtcoahkmiebeeeaaGreatDoor.C5

namespace Go.Proofs.YtcoahkmiebeeeaaGreatDoor.C5
open Go.RowKit Go.Shelf

end Go.Proofs.YtcoahkmiebeeeaaGreatDoor.C5

namespace Go.Proofs.YtcoahkmiebeeeaaGreatDoor.C5
open Go.RowKit Go.Shelf

def goesOn (B : Nat) (J : World → Prop) (X : Code → World → Prop) (W : World) : Exit → Act → World → Prop
  | .normal, _, V => KeepsFrom B W V ∧ J V
  | .ret, _, V => KeepsFrom B W V ∧ X .ret V
  | .exit i, _, V => KeepsFrom B W V ∧ X (.exit i) V
  | _, _, _ => False

end Go.Proofs.YtcoahkmiebeeeaaGreatDoor.C5
