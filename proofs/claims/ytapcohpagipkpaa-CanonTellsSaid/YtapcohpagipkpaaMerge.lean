/-
  merge: one rising row of two.
-/
import Derived.Test.YtapcohpagipkpaaItems
import Derived.Deep.RegionHeld3
import Derived.BigQuiet
namespace Go.Proofs.Ytapcohpagipkpaa
open Go.RowKit Go.Shelf

/-- The lighter one first; of two that are alike that of the first row. -/
def leI (x y : Nat × Bool) : Bool := decide (x.1 ≤ y.1)

theorem Items.head {w : World} {a : Option Addr} {cap g off : Nat} {x : Nat × Bool} {L : List (Nat × Bool)} (h : Items w a cap g off (x :: L)) : a = some ⟨g, off, none⟩ ∧ w.cell? ⟨g, off, none⟩ = some (.int .u64 ((x.1 : Nat) : Int)) ∧ w.cell? ⟨g, off + 1, none⟩ = some (.bool x.2) ∧ g < w.heap.size ∧ 1 ≤ cap := by
  refine ⟨h.at_.elim id (fun e => by cases e), ?_, ?_, h.lt (by simp), ?_⟩
  · have := (h.cells 0 (by simp)).1; simpa using this
  · have := (h.cells 0 (by simp)).2; simpa using this
  · have := h.le; simp at this; omega
theorem Items.tail {w : World} {a : Option Addr} {cap g off : Nat} {x : Nat × Bool} {L : List (Nat × Bool)} (h : Items w a cap g off (x :: L)) (a' : Option Addr) (ha : L ≠ [] → a' = some ⟨g, off + 2, none⟩) : Items w a' (cap - 1) g (off + 2) L := by
  refine ⟨?_, fun i hi => ?_, by have := h.le; simp at this; omega, fun _ => h.lt (by simp)⟩
  · by_cases e : L = []
    · exact .inr e
    · exact .inl (ha e)
  · have := h.cells (i + 1) (by simpa using hi)
    rw [show off + 2 + i * 2 = off + (i + 1) * 2 from by omega]
    simpa using this

theorem ownB {g n c k : Nat} (h : (Value.slice (some ⟨g, 0, none⟩) n c).ownBlock = some k) : g = k := Option.some.inj h
/-- The cells of items, as append reads them. -/
theorem Items.news {w : World} {a : Addr} {cap g off : Nat} {L : List (Nat × Bool)} (h : Items w (some a) cap g off L) : ∀ j u, (itemCs L)[j]? = some u → w.cell? (a.add j) = some u := by
  intro j u hu
  have hj : j < (itemCs L).length := (List.getElem?_eq_some_iff.1 hu).1
  rw [itemCs_length] at hj
  have hi : j / 2 < L.length := by omega
  obtain rfl : a = ⟨g, off, none⟩ := by
    rcases h.at_ with e | e
    · exact Option.some.inj e
    · rw [e] at hi; simp at hi
  have hadd : (⟨g, off, none⟩ : Addr).add j = ⟨g, off + j, none⟩ := by unfold Addr.add; split <;> simp_all
  rw [hadd]
  obtain ⟨q1, q2⟩ := itemCs_at L (j / 2) hi
  obtain ⟨c1, c2⟩ := h.cells (j / 2) hi
  rcases Nat.mod_two_eq_zero_or_one j with e | e
  · rw [show 2 * (j / 2) = j from by omega, hu] at q1
    rw [show off + j / 2 * 2 = off + j from by omega] at c1
    rw [c1, Option.some.inj q1]
  · rw [show 2 * (j / 2) + 1 = j from by omega, hu] at q2
    rw [show off + j / 2 * 2 + 1 = off + j from by omega] at c2
    rw [c2, Option.some.inj q2]
/-- What an append of one item leaves as it lay. -/
theorem append_kept {w wq w1 : World} {g n cap : Nat} {o : Obj} (hk : Keep noBlock w wq) (hg : w.heap.size ≤ g) (hgrow : (wq.alloc o).drew.grownBy w1 (Value.slice (some ⟨g, 0, none⟩) n cap).ownBlock) : Keep noBlock w w1 ∧ Keep (fun k => k = g) wq w1 := by
  have e : (Value.slice (some ⟨g, 0, none⟩) n cap).ownBlock = some g := rfl
  rw [e] at hgrow
  exact ⟨(hk.alloc o).drew.grown hgrow (fun k e hk => by cases e; omega), ((Keep.refl _ wq).alloc o).drew.grown hgrow (fun k e _ => by cases e; rfl)⟩

set_option maxRecDepth 100000 in
set_option maxHeartbeats 4000000 in
theorem merge_any (a b : Addr) (ca cb ga gb oa ob : Nat) (La Lb : List (Nat × Bool)) (w : World) (ha : Items w (some a) ca ga oa La) (hb : Items w (some b) cb gb ob Lb) (hl : La.length + Lb.length ≤ 4096) :
    Calls Try.prog 56 #[.slice (some a) La.length ca, .slice (some b) Lb.length cb] w fun e w' => ∃ g cap, e = .returned (.slice (some ⟨g, 0, none⟩) (La.merge Lb leI).length cap) ∧ Items w' (some ⟨g, 0, none⟩) cap g 0 (La.merge Lb leI) ∧ w.heap.size ≤ g ∧ g < w'.heap.size ∧ Keep noBlock w w' := by
  obtain ⟨i0, hi, hz0, hz1, hz2⟩ := info_parts info86
  obtain ⟨m, hm⟩ : ∃ m, m = La.length + Lb.length := ⟨_, rfl⟩
  have hmI : (La.length : Int) + (Lb.length : Int) = (m : Int) := by omega
  have hmk : ∀ W : World, (Instr.makeSlice 84 (.int .i64 0) (.int .i64 (m : Int))).run Try.prog W = .ok (.slice (some ⟨W.heap.size, 0, none⟩) 0 m) (W.alloc (.cells (madeCells #[.int .u64 0, .bool false] (m * 2)) 86)) := fun W => by
    have := run_make (P := Try.prog) W 84 86 i0 (.agg #[.int .u64 0, .bool false]) Try.underlying84 hi hz0 .i64 .i64 0 (m : Int) (by omega) (by omega) (by rw [hz2]; omega) (by omega)
    rw [hz1] at this
    simpa [Value.cells] using this
  have hown0 : OwnI (w.alloc (.cells (madeCells #[.int .u64 0, .bool false] (m * 2)) 86)) w.heap.size w.heap.size m [] := World.ownsRow_made (e := 86) (size := 2) (base := w.heap.size) w (madeCells #[.int .u64 0, .bool false] (m * 2)) m (Nat.le_refl _) (by unfold maxLen; omega) (by simp [size_madeCells])
  have hk0 : Keep noBlock w (w.alloc (.cells (madeCells #[.int .u64 0, .bool false] (m * 2)) 86)) := (Keep.refl _ w).alloc _
  have H0 := (show Hid (OwnI _ w.heap.size w.heap.size m [] ∧ _ ∧ Items w (some a) ca ga oa La ∧ Items w (some b) cb gb ob Lb ∧ m = La.length + Lb.length) from ⟨hown0, hk0, ha, hb, hm⟩)
  have hmb : m ≤ 4096 := by omega
  clear hown0 hk0 ha hb hm
  go_enter Try.func56, Try.ntmps56
  go_wp2
  generalize w.alloc (.cells (madeCells #[.int .u64 0, .bool false] (m * 2)) 86) = W0 at H0 ⊢
  clear hmk hmI
  go_loopw [0, 1, 5] (fun va vb vo wr => ∃ (a' b' : Addr) (ca' cb' oa' ob' g cap : Nat) (A B O : List (Nat × Bool)), va = .slice (some a') A.length ca' ∧ vb = .slice (some b') B.length cb' ∧ vo = .slice (some ⟨g, 0, none⟩) O.length cap ∧ OwnI wr w.heap.size g cap O ∧ Keep noBlock w wr ∧ Items wr (some a') ca' ga oa' A ∧ Items wr (some b') cb' gb ob' B ∧ (A ≠ [] → ga < w.heap.size) ∧ (B ≠ [] → gb < w.heap.size) ∧ Hid (O ++ A.merge B leI = La.merge Lb leI) ∧ O.length + A.length + B.length = m) (fun va vb _ _ => (match va with | .slice _ n _ => n | _ => 0) + (match vb with | .slice _ n _ => n | _ => 0))
  case atStart =>
    obtain ⟨q1, q2, q3, q4, q5⟩ := H0.out
    exact ⟨a, b, ca, cb, oa, ob, w.heap.size, m, La, Lb, [], rfl, rfl, rfl, q1, q2, q3.keep q2 (fun _ h => h), q4.keep q2 (fun _ h => h), q3.lt, q4.lt, rfl, by rw [q5]; simp⟩
  case round =>
    clear H0
    obtain ⟨a', b', ca', cb', oa', ob', g, cap, A, B, O, rfl, rfl, rfl, hown, hk, hA, hB, hga, hgb, HM, hlen⟩ := hrel
    by_cases hAB : A = []
    · subst hAB
      have hOb := hown.items.2.1
      skip
      have hown' : wr.ownsRow w.heap.size 86 2 (.slice (some ⟨g, 0, none⟩) O.length cap) O.length (itemCs O) := hown
      have hsz := hk.size
      have HK := (show Hid (Keep noBlock w wr ∧ Items wr (some b') cb' gb ob' B ∧ (B ≠ [] → gb < w.heap.size)) from ⟨hk, hB, hgb⟩)
      have hmx1 : O.length + 0 ≤ maxLen := by unfold maxLen; omega
      have hmx2 : O.length + 0 + B.length ≤ maxLen := by unfold maxLen; omega
      have hby1 : (O.length + 0) * 16 ≤ 140737488355328 := by omega
      have hby2 : (O.length + 0 + B.length) * 16 ≤ 140737488355328 := by omega
      have hlA : True := trivial
      have hlB := itemCs_length B
      have HLA := (show Hid (_ ∧ _) from ⟨hlA, hlB⟩)
      clear hown hA hB hk hlA hlB
      skip
      go_wp2_with (at_builtin; first | (refine wpList_append_own _ rfl _ _ 84 rfl w.heap.size 86 i0 (.agg #[.int .u64 0, .bool false]) 2 16 Try.underlying84 hi hz0 hz1 hz2 rfl (by decide) (.slice (some ⟨g, 0, none⟩) O.length cap) O.length (itemCs O) rfl hown' a' 0 ca' ([]) rfl rfl (by simp) (by simp) hmx1 hby1 hsz ?_; intro v1 w1 hown1 hgrow1 hnil1; have hk1 := HK.out.1.grown hgrow1 (fun k e hk => (by have := ownB e; omega)); have hk2 : Keep (fun k => k = g) wr w1 := (Keep.refl _ wr).grown hgrow1 (fun k e _ => (ownB e).symm); have hnB := (HK.out.2.1.keep hk2 (fun hne => by have := HK.out.2.2 hne; omega)).news; have hsz1 := hk1.size) | (refine wpList_append_own _ rfl _ _ 84 rfl w.heap.size 86 i0 (.agg #[.int .u64 0, .bool false]) 2 16 Try.underlying84 hi hz0 hz1 hz2 rfl (by decide) v1 (O.length + 0) (itemCs O ++ []) rfl hown1 b' B.length cb' (itemCs B) rfl HLA.out.2 hnB (itemCs_one B) hmx2 hby2 hsz1 ?_; intro v2 w2 hown2 hgrow2 hnil2))
      go_ret
      obtain ⟨gv, cv, ev⟩ : ∃ gv cv, v2 = .slice (some ⟨gv, 0, none⟩) (O.length + 0 + B.length) cv := by
        rcases hown2.2 with ⟨e, _⟩ | ⟨gv, cv, cur, e, _⟩
        · have := (hnil2.1 e).1
          have := (hnil1.1 this).1
          cases this
        · exact ⟨gv, cv, e⟩
      subst ev
      have hmer : La.merge Lb leI = O ++ [] ++ B := by
        rw [← HM.out]
        simp
      have hll : (La.merge Lb leI).length = O.length + 0 + B.length := by rw [hmer]; simp
      have hOI : OwnI w2 w.heap.size gv cv (La.merge Lb leI) := by
        unfold OwnI
        rw [hll, hmer, itemCs_append, itemCs_append]
        exact hown2
      obtain ⟨r1, r2, r3⟩ := hOI.items
      have hl2 : La.length + Lb.length = O.length + 0 + B.length := by rw [← hll, List.length_merge]
      refine ⟨gv, cv, by first | (rw [hll]; rfl) | (rw [hl2]; rfl), r1, r2, r3, ?_⟩
      rcases hown1.2 with ⟨e, _⟩ | ⟨g1, c1, cur, e, hb1, _⟩
      · subst e; exact hk1.grown hgrow2 (fun k e _ => by cases e)
      · subst e; exact hk1.grown hgrow2 (fun k e hk => (by have := ownB e; omega))
    · by_cases hBB : B = []
      · subst hBB
        have hOb := hown.items.2.1
        have hnA := hA.news
        have hown' : wr.ownsRow w.heap.size 86 2 (.slice (some ⟨g, 0, none⟩) O.length cap) O.length (itemCs O) := hown
        have hsz := hk.size
        have HK := (show Hid (Keep noBlock w wr ∧ True) from ⟨hk, trivial⟩)
        have hmx1 : O.length + A.length ≤ maxLen := by unfold maxLen; omega
        have hmx2 : O.length + A.length + 0 ≤ maxLen := by unfold maxLen; omega
        have hby1 : (O.length + A.length) * 16 ≤ 140737488355328 := by omega
        have hby2 : (O.length + A.length + 0) * 16 ≤ 140737488355328 := by omega
        have hlA := itemCs_length A
        have hlB : True := trivial
        have HLA := (show Hid (_ ∧ _) from ⟨hlA, hlB⟩)
        clear hown hA hB hk hlA hlB
        have g1 : (0 : Int) < (A.length : Int) := by have := List.length_pos_iff.2 hAB; omega
        skip
        go_wp2_with (at_builtin; first | (refine wpList_append_own _ rfl _ _ 84 rfl w.heap.size 86 i0 (.agg #[.int .u64 0, .bool false]) 2 16 Try.underlying84 hi hz0 hz1 hz2 rfl (by decide) (.slice (some ⟨g, 0, none⟩) O.length cap) O.length (itemCs O) rfl hown' a' A.length ca' (itemCs A) rfl HLA.out.1 hnA (itemCs_one A) hmx1 hby1 hsz ?_; intro v1 w1 hown1 hgrow1 hnil1; have hk1 := HK.out.1.grown hgrow1 (fun k e hk => (by have := ownB e; omega)); have hk2 : Keep (fun k => k = g) wr w1 := (Keep.refl _ wr).grown hgrow1 (fun k e _ => (ownB e).symm); have hsz1 := hk1.size) | (refine wpList_append_own _ rfl _ _ 84 rfl w.heap.size 86 i0 (.agg #[.int .u64 0, .bool false]) 2 16 Try.underlying84 hi hz0 hz1 hz2 rfl (by decide) v1 (O.length + A.length) (itemCs O ++ itemCs A) rfl hown1 b' 0 cb' ([]) rfl rfl (by simp) (by simp) hmx2 hby2 hsz1 ?_; intro v2 w2 hown2 hgrow2 hnil2))
        go_ret
        obtain ⟨gv, cv, ev⟩ : ∃ gv cv, v2 = .slice (some ⟨gv, 0, none⟩) (O.length + A.length + 0) cv := by
          rcases hown2.2 with ⟨e, _⟩ | ⟨gv, cv, cur, e, _⟩
          · have := (hnil2.1 e).1
            have := (hnil1.1 this).1
            cases this
          · exact ⟨gv, cv, e⟩
        subst ev
        have hmer : La.merge Lb leI = O ++ A ++ [] := by
          rw [← HM.out]
          simp
        have hll : (La.merge Lb leI).length = O.length + A.length + 0 := by rw [hmer]; simp
        have hOI : OwnI w2 w.heap.size gv cv (La.merge Lb leI) := by
          unfold OwnI
          rw [hll, hmer, itemCs_append, itemCs_append]
          exact hown2
        obtain ⟨r1, r2, r3⟩ := hOI.items
        have hl2 : La.length + Lb.length = O.length + A.length + 0 := by rw [← hll, List.length_merge]
        refine ⟨gv, cv, by first | (rw [hll]; rfl) | (rw [hl2]; rfl), r1, r2, r3, ?_⟩
        rcases hown1.2 with ⟨e, _⟩ | ⟨g1, c1, cur, e, hb1, _⟩
        · subst e; exact hk1.grown hgrow2 (fun k e _ => by cases e)
        · subst e; exact hk1.grown hgrow2 (fun k e hk => (by have := ownB e; omega))
      · obtain ⟨x, A, rfl⟩ := List.exists_cons_of_ne_nil hAB
        obtain ⟨y, B, rfl⟩ := List.exists_cons_of_ne_nil hBB
        clear hAB hBB
        obtain ⟨eA, a1, a2, a3, a4⟩ := hA.head
        obtain ⟨eB, b1, b2, b3, b4⟩ := hB.head
        obtain rfl := Option.some.inj eA
        obtain rfl := Option.some.inj eB
        obtain ⟨hOI, hOb, hOlt⟩ := hown.items
        have hga' := hga (by simp)
        have hgb' := hgb (by simp)
        obtain ⟨la, hla⟩ : ∃ la, la = (x :: A).length := ⟨_, rfl⟩
        obtain ⟨lb, hlb⟩ : ∃ lb, lb = (y :: B).length := ⟨_, rfl⟩
        rw [← hla, ← hlb] at hlen ⊢
        have la1 : la = A.length + 1 := hla
        have lb1 : lb = B.length + 1 := hlb
        have lac := hA.le
        have lbc := hB.le
        rw [← hla] at lac
        rw [← hlb] at lbc
        have HL := (show Hid (la = A.length + 1 ∧ lb = B.length + 1) from ⟨la1, lb1⟩)
        have lap : 0 < la := by omega
        have lbp : 0 < lb := by omega
        clear hla hlb la1 lb1
        by_cases hle : x.1 ≤ y.1
        · have hleI : ((x.1 : Nat) : Int) ≤ ((y.1 : Nat) : Int) := by omega
          have hmax : O.length + 1 ≤ maxLen := by unfold maxLen; omega
          have hby : (O.length + 1) * 16 ≤ 140737488355328 := by omega
          obtain ⟨x1, x2⟩ := x
          obtain ⟨y1, y2⟩ := y
          dsimp only at a1 a2 b1 b2 hleI hle
          have hgne : (Value.slice (some ⟨g, 0, none⟩) O.length cap).ownBlock ≠ some ga := by simp [Value.ownBlock]; omega
          have hown' : wr.ownsRow w.heap.size 86 2 (.slice (some ⟨g, 0, none⟩) O.length cap) O.length (itemCs O) := hown
          have hsz := hk.size
          have l0 : (1 : Int) ≤ (la : Int) := by omega
          have l2 : (la : Int) ≤ (ca' : Int) := by omega
          go_wp2_with fail
          go_quiet (fail)
          go_wp2_with fail
          have hownq : (wr.drewN nq).ownsRow w.heap.size 86 2 (.slice (some ⟨g, 0, none⟩) O.length cap) O.length (itemCs O) := hown'
          have a1' : (wr.drewN nq).cell? ⟨ga, oa', none⟩ = some (.int .u64 (x1 : Int)) := a1
          have a2' : (wr.drewN nq).cell? ⟨ga, oa' + 1, none⟩ = some (.bool x2) := a2
          have b1' : (wr.drewN nq).cell? ⟨gb, ob', none⟩ = some (.int .u64 (y1 : Int)) := b1
          have b2' : (wr.drewN nq).cell? ⟨gb, ob' + 1, none⟩ = some (.bool y2) := b2
          have a3' : ga < (wr.drewN nq).heap.size := a3
          have b3' : gb < (wr.drewN nq).heap.size := b3
          have hsq : w.heap.size ≤ (wr.drewN nq).heap.size := hsz
          have hOq : g < (wr.drewN nq).heap.size := hOlt
          have HQ := (show Hid (Keep noBlock w (wr.drewN nq) ∧ Items (wr.drewN nq) (some ⟨ga, oa', none⟩) ca' ga oa' ((x1, x2) :: A) ∧ Items (wr.drewN nq) (some ⟨gb, ob', none⟩) cb' gb ob' ((y1, y2) :: B)) from ⟨⟨hk.os, hk.tape, hk.output, hk.size, hk.block⟩, ⟨hA.at_, hA.cells, hA.le, hA.lt⟩, ⟨hB.at_, hB.cells, hB.le, hB.lt⟩⟩)
          clear a1 a2 b1 b2 hown hown' hOI hk hA hB a3 b3 hsz hOlt
          generalize wr.drewN nq = wq at hownq a1' a2' b1' b2' a3' b3' hsq hOq HQ ⊢
          by_cases hce : ca' = 1
          · subst hce
            go_region_held3 (fun w' => w'.cell? ⟨ga, oa', none⟩ = some (.int .u64 (x1 : Int)) ∧ w'.cell? ⟨ga, oa' + 1, none⟩ = some (.bool x2))
              (first | go_keep | (go_split_ands; refine ⟨?_, ?_⟩ <;> (rw [hgrow.cell_far _ (by simp; omega) (Ne.symm hgne)]; assumption)))
              ((refine step_append_lies _ (by rfl) _ _ _ (by rfl) w.heap.size 86 i0 _ 2 16 Try.underlying84 hi hz0 hz1 hz2 rfl (by omega) (.slice (some ⟨g, 0, none⟩) O.length cap) O.length (itemCs O) (by rfl) ((hownq.alloc _).drew)
                  ⟨wq.heap.size, 0, none⟩ 1 1 [.int .u64 (x1 : Int), .bool x2] (by rfl) (by rfl) (World.news_of_block (cs := #[.int .u64 (x1 : Int), .bool x2]) (t := 86) (fr := (0, 0)) (heap_alloc_new wq _)) (by simp [Value.oneCell'])
                  (by omega) hmax hby (by simp; omega) (wq.heap.size + 1) (by simp) ?_; intro gg cap2 w1 hown1 hgrow hat hlt))
            all_goals go_wp2
            obtain ⟨hq1, hq2⟩ := append_kept HQ.out.1 hOb hgrow
            go_roundw
            case rel =>
              have hll := HL.out
              refine ⟨⟨ga, oa', none⟩, _, _, _, oa' + 2, ob', gg, cap2, A, (y1, y2) :: B, O ++ [(x1, x2)], ?_, ?_, by simp, ?_, hq1, (HQ.out.2.1.keep hq2 (fun _ => by omega)).tail _ ?_, HQ.out.2.2.keep hq2 (fun _ => by omega), fun _ => hga', fun _ => hgb', ?_, ?_⟩
              · rw [show A.length = 0 from by omega]
              · rw [show ((y1, y2) :: B).length = lb from by simp; omega]
              · unfold OwnI; rw [itemCs_append, List.length_append]; exact hown1
              · intro hne; exact absurd (List.length_eq_zero_iff.1 (show A.length = 0 by omega)) hne
              · show _ = _
                rw [← HM.out, List.append_assoc]
                congr 1
                rw [List.cons_merge_cons]
                simp [leI, hle]
              · simp only [List.length_append, List.length_cons, List.length_nil]; omega
            case measure => simp; omega
          · have hce' : ¬ (ca' : Int) = 1 := by omega
            go_region_held3 (fun w' => w'.cell? ⟨ga, oa', none⟩ = some (.int .u64 (x1 : Int)) ∧ w'.cell? ⟨ga, oa' + 1, none⟩ = some (.bool x2))
              (first | go_keep | (go_split_ands; refine ⟨?_, ?_⟩ <;> (rw [hgrow.cell_far _ (by simp; omega) (Ne.symm hgne)]; assumption)))
              ((refine step_append_lies _ (by rfl) _ _ _ (by rfl) w.heap.size 86 i0 _ 2 16 Try.underlying84 hi hz0 hz1 hz2 rfl (by omega) (.slice (some ⟨g, 0, none⟩) O.length cap) O.length (itemCs O) (by rfl) ((hownq.alloc _).drew)
                  ⟨wq.heap.size, 0, none⟩ 1 1 [.int .u64 (x1 : Int), .bool x2] (by rfl) (by rfl) (World.news_of_block (cs := #[.int .u64 (x1 : Int), .bool x2]) (t := 86) (fr := (0, 0)) (heap_alloc_new wq _)) (by simp [Value.oneCell'])
                  (by omega) hmax hby (by simp; omega) (wq.heap.size + 1) (by simp) ?_; intro gg cap2 w1 hown1 hgrow hat hlt))
            all_goals go_wp2
            obtain ⟨hq1, hq2⟩ := append_kept HQ.out.1 hOb hgrow
            go_roundw
            case rel =>
              have hll := HL.out
              refine ⟨⟨ga, oa' + 2, none⟩, _, _, _, oa' + 2, ob', gg, cap2, A, (y1, y2) :: B, O ++ [(x1, x2)], ?_, ?_, by simp, ?_, hq1, (HQ.out.2.1.keep hq2 (fun _ => by omega)).tail _ ?_, HQ.out.2.2.keep hq2 (fun _ => by omega), fun _ => hga', fun _ => hgb', ?_, ?_⟩
              · rw [show A.length = la - 1 from by omega]
              · rw [show ((y1, y2) :: B).length = lb from by simp; omega]
              · unfold OwnI; rw [itemCs_append, List.length_append]; exact hown1
              · intro _; rfl
              · show _ = _
                rw [← HM.out, List.append_assoc]
                congr 1
                rw [List.cons_merge_cons]
                simp [leI, hle]
              · simp only [List.length_append, List.length_cons, List.length_nil]; omega
            case measure => simp; omega
        · have hleI : ¬ ((x.1 : Nat) : Int) ≤ ((y.1 : Nat) : Int) := by omega
          have hmax : O.length + 1 ≤ maxLen := by unfold maxLen; omega
          have hby : (O.length + 1) * 16 ≤ 140737488355328 := by omega
          obtain ⟨x1, x2⟩ := x
          obtain ⟨y1, y2⟩ := y
          dsimp only at a1 a2 b1 b2 hleI hle
          have hgne : (Value.slice (some ⟨g, 0, none⟩) O.length cap).ownBlock ≠ some gb := by simp [Value.ownBlock]; omega
          have hown' : wr.ownsRow w.heap.size 86 2 (.slice (some ⟨g, 0, none⟩) O.length cap) O.length (itemCs O) := hown
          have hsz := hk.size
          have l0 : (1 : Int) ≤ (lb : Int) := by omega
          have l2 : (lb : Int) ≤ (cb' : Int) := by omega
          go_wp2_with fail
          go_quiet (fail)
          go_wp2_with fail
          have hownq : (wr.drewN nq).ownsRow w.heap.size 86 2 (.slice (some ⟨g, 0, none⟩) O.length cap) O.length (itemCs O) := hown'
          have a1' : (wr.drewN nq).cell? ⟨ga, oa', none⟩ = some (.int .u64 (x1 : Int)) := a1
          have a2' : (wr.drewN nq).cell? ⟨ga, oa' + 1, none⟩ = some (.bool x2) := a2
          have b1' : (wr.drewN nq).cell? ⟨gb, ob', none⟩ = some (.int .u64 (y1 : Int)) := b1
          have b2' : (wr.drewN nq).cell? ⟨gb, ob' + 1, none⟩ = some (.bool y2) := b2
          have a3' : ga < (wr.drewN nq).heap.size := a3
          have b3' : gb < (wr.drewN nq).heap.size := b3
          have hsq : w.heap.size ≤ (wr.drewN nq).heap.size := hsz
          have hOq : g < (wr.drewN nq).heap.size := hOlt
          have HQ := (show Hid (Keep noBlock w (wr.drewN nq) ∧ Items (wr.drewN nq) (some ⟨ga, oa', none⟩) ca' ga oa' ((x1, x2) :: A) ∧ Items (wr.drewN nq) (some ⟨gb, ob', none⟩) cb' gb ob' ((y1, y2) :: B)) from ⟨⟨hk.os, hk.tape, hk.output, hk.size, hk.block⟩, ⟨hA.at_, hA.cells, hA.le, hA.lt⟩, ⟨hB.at_, hB.cells, hB.le, hB.lt⟩⟩)
          clear a1 a2 b1 b2 hown hown' hOI hk hA hB a3 b3 hsz hOlt
          generalize wr.drewN nq = wq at hownq a1' a2' b1' b2' a3' b3' hsq hOq HQ ⊢
          by_cases hce : cb' = 1
          · subst hce
            go_region_held3 (fun w' => w'.cell? ⟨gb, ob', none⟩ = some (.int .u64 (y1 : Int)) ∧ w'.cell? ⟨gb, ob' + 1, none⟩ = some (.bool y2))
              (first | go_keep | (go_split_ands; refine ⟨?_, ?_⟩ <;> (rw [hgrow.cell_far _ (by simp; omega) (Ne.symm hgne)]; assumption)))
              ((refine step_append_lies _ (by rfl) _ _ _ (by rfl) w.heap.size 86 i0 _ 2 16 Try.underlying84 hi hz0 hz1 hz2 rfl (by omega) (.slice (some ⟨g, 0, none⟩) O.length cap) O.length (itemCs O) (by rfl) ((hownq.alloc _).drew)
                  ⟨wq.heap.size, 0, none⟩ 1 1 [.int .u64 (y1 : Int), .bool y2] (by rfl) (by rfl) (World.news_of_block (cs := #[.int .u64 (y1 : Int), .bool y2]) (t := 86) (fr := (0, 0)) (heap_alloc_new wq _)) (by simp [Value.oneCell'])
                  (by omega) hmax hby (by simp; omega) (wq.heap.size + 1) (by simp) ?_; intro gg cap2 w1 hown1 hgrow hat hlt))
            all_goals go_wp2
            obtain ⟨hq1, hq2⟩ := append_kept HQ.out.1 hOb hgrow
            go_roundw
            case rel =>
              have hll := HL.out
              refine ⟨_, ⟨gb, ob', none⟩, _, _, oa', ob' + 2, gg, cap2, (x1, x2) :: A, B, O ++ [(y1, y2)], ?_, ?_, by simp, ?_, hq1, HQ.out.2.1.keep hq2 (fun _ => by omega), (HQ.out.2.2.keep hq2 (fun _ => by omega)).tail _ ?_, fun _ => hga', fun _ => hgb', ?_, ?_⟩
              · rw [show ((x1, x2) :: A).length = la from by simp; omega]
              · rw [show B.length = 0 from by omega]
              · unfold OwnI; rw [itemCs_append, List.length_append]; exact hown1
              · intro hne; exact absurd (List.length_eq_zero_iff.1 (show B.length = 0 by omega)) hne
              · show _ = _
                rw [← HM.out, List.append_assoc]
                congr 1
                rw [List.cons_merge_cons]
                simp [leI, hle]
              · simp only [List.length_append, List.length_cons, List.length_nil]; omega
            case measure => simp; omega
          · have hce' : ¬ (cb' : Int) = 1 := by omega
            go_region_held3 (fun w' => w'.cell? ⟨gb, ob', none⟩ = some (.int .u64 (y1 : Int)) ∧ w'.cell? ⟨gb, ob' + 1, none⟩ = some (.bool y2))
              (first | go_keep | (go_split_ands; refine ⟨?_, ?_⟩ <;> (rw [hgrow.cell_far _ (by simp; omega) (Ne.symm hgne)]; assumption)))
              ((refine step_append_lies _ (by rfl) _ _ _ (by rfl) w.heap.size 86 i0 _ 2 16 Try.underlying84 hi hz0 hz1 hz2 rfl (by omega) (.slice (some ⟨g, 0, none⟩) O.length cap) O.length (itemCs O) (by rfl) ((hownq.alloc _).drew)
                  ⟨wq.heap.size, 0, none⟩ 1 1 [.int .u64 (y1 : Int), .bool y2] (by rfl) (by rfl) (World.news_of_block (cs := #[.int .u64 (y1 : Int), .bool y2]) (t := 86) (fr := (0, 0)) (heap_alloc_new wq _)) (by simp [Value.oneCell'])
                  (by omega) hmax hby (by simp; omega) (wq.heap.size + 1) (by simp) ?_; intro gg cap2 w1 hown1 hgrow hat hlt))
            all_goals go_wp2
            obtain ⟨hq1, hq2⟩ := append_kept HQ.out.1 hOb hgrow
            go_roundw
            case rel =>
              have hll := HL.out
              refine ⟨_, ⟨gb, ob' + 2, none⟩, _, _, oa', ob' + 2, gg, cap2, (x1, x2) :: A, B, O ++ [(y1, y2)], ?_, ?_, by simp, ?_, hq1, HQ.out.2.1.keep hq2 (fun _ => by omega), (HQ.out.2.2.keep hq2 (fun _ => by omega)).tail _ ?_, fun _ => hga', fun _ => hgb', ?_, ?_⟩
              · rw [show ((x1, x2) :: A).length = la from by simp; omega]
              · rw [show B.length = lb - 1 from by omega]
              · unfold OwnI; rw [itemCs_append, List.length_append]; exact hown1
              · intro _; rfl
              · show _ = _
                rw [← HM.out, List.append_assoc]
                congr 1
                rw [List.cons_merge_cons]
                simp [leI, hle]
              · simp only [List.length_append, List.length_cons, List.length_nil]; omega
            case measure => simp; omega

end Go.Proofs.Ytapcohpagipkpaa
