/-
  The document's merged: two rising rows as one.
-/
import Derived.Test.YtapcohpagipkpaaCoins
namespace Go.Proofs.Ytapcohpagipkpaa
open Go.RowKit Go.Shelf

/-- Two rows as one. -/
def mg (A B : List Nat) : List Nat := A.merge B (fun x y => decide (x ≤ y))
theorem mg_length (A B : List Nat) : (mg A B).length = A.length + B.length := List.length_merge ..
theorem drop_at (A : List Nat) (i : Nat) (h : i < A.length) : A.drop i = A[i]?.getD 0 :: A.drop (i + 1) := by
  rw [List.drop_eq_getElem_cons h, List.getElem?_eq_getElem h]
  rfl

/-- What merged has when i and j are over. -/
structure Mg (w W : World) (A B : List Nat) (i j : Nat) (v : Value) (O : List Nat) : Prop where
  own : W.ownsRow w.heap.size 60 1 v O.length (u64s O)
  eq : O ++ mg (A.drop i) (B.drop j) = mg A B
  len : O.length = i + j
  keep : Keep noBlock w W
theorem Mg.left {w W W1 : World} {A B O : List Nat} {i j cap2 g2 : Nat} {v : Value} {nq : Nat} {o : Obj} (h : Mg w W A B i j v O) (hi : i < A.length) (hc : B.length ≤ j ∨ A[i]?.getD 0 ≤ B[j]?.getD 0)
    (hown : W1.ownsRow w.heap.size 60 1 (.slice (some ⟨g2, 0, none⟩) (O.length + 1) cap2) (O.length + 1) (u64s O ++ [.int .u64 ((A[i]?.getD 0 : Nat) : Int)])) (hg : ((W.drewN nq).alloc o).grownBy W1 v.ownBlock) :
    Mg w W1 A B (i + 1) j (.slice (some ⟨g2, 0, none⟩) (O ++ [A[i]?.getD 0]).length cap2) (O ++ [A[i]?.getD 0]) := by
  refine ⟨by simpa [u64s] using hown, ?_, by rw [List.length_append, h.len]; simp; omega, ((h.keep.trans' (keep_drewN _ _)).alloc o).grown hg (fun k e hk => ?_)⟩
  · rw [← h.eq, List.append_assoc, drop_at A i hi]
    congr 1
    unfold mg
    rcases Nat.lt_or_ge j B.length with e | e
    · rw [drop_at B j e, List.cons_merge_cons, if_pos (decide_eq_true (hc.resolve_left (by omega)))]
      rfl
    · rw [List.drop_eq_nil_of_le e, List.merge_right, List.merge_right]
      rfl
  · have := (h.own.lt k e).1
    omega
theorem Mg.right {w W W1 : World} {A B O : List Nat} {i j cap2 g2 : Nat} {v : Value} {nq : Nat} {o : Obj} (h : Mg w W A B i j v O) (hj : j < B.length) (hc : A.length ≤ i ∨ ¬ A[i]?.getD 0 ≤ B[j]?.getD 0)
    (hown : W1.ownsRow w.heap.size 60 1 (.slice (some ⟨g2, 0, none⟩) (O.length + 1) cap2) (O.length + 1) (u64s O ++ [.int .u64 ((B[j]?.getD 0 : Nat) : Int)])) (hg : ((W.drewN nq).alloc o).grownBy W1 v.ownBlock) :
    Mg w W1 A B i (j + 1) (.slice (some ⟨g2, 0, none⟩) (O ++ [B[j]?.getD 0]).length cap2) (O ++ [B[j]?.getD 0]) := by
  refine ⟨by simpa [u64s] using hown, ?_, by rw [List.length_append, h.len]; simp; omega, ((h.keep.trans' (keep_drewN _ _)).alloc o).grown hg (fun k e hk => ?_)⟩
  · rw [← h.eq, List.append_assoc, drop_at B j hj]
    congr 1
    unfold mg
    rcases Nat.lt_or_ge i A.length with e | e
    · rw [drop_at A i e, List.cons_merge_cons, if_neg (fun h => (hc.resolve_left (by omega)) (of_decide_eq_true h))]
      rfl
    · rw [List.drop_eq_nil_of_le e, List.nil_merge, List.nil_merge]
      rfl
  · have := (h.own.lt k e).1
    omega

set_option maxRecDepth 100000 in
set_option maxHeartbeats 4000000 in
theorem merged_any (a b : Option Addr) (ca cb ga gb oa ob : Nat) (A B : List Nat) (w : World) (hA : Row w .u64 a ca ga oa A) (hB : Row w .u64 b cb gb ob B) (hl : A.length + B.length ≤ 4096) :
    Calls Try.prog 41 #[.slice a A.length ca, .slice b B.length cb] w fun e w' => ∃ v, e = .returned v ∧ w'.ownsRow w.heap.size 60 1 v (mg A B).length (u64s (mg A B)) ∧ Keep noBlock w w' := by
  obtain ⟨i0, hi0, hz0, hz1, hz2⟩ := info_parts info60
  have HR := (show Hid (Row w .u64 a ca ga oa A ∧ Row w .u64 b cb gb ob B) from ⟨hA, hB⟩)
  clear hA hB
  go_enter Try.func41, Try.ntmps41
  go_wp2
  go_loopw [5, 6, 7] (fun vl vi vj wr => ∃ (i j : Nat) (O : List Nat) (sa : Option Addr) (cap' : Nat), vi = .int .i64 (i : Int) ∧ vj = .int .i64 (j : Int) ∧ vl = .slice sa O.length cap' ∧ i ≤ A.length ∧ j ≤ B.length ∧ Hid (Mg w wr A B i j (.slice sa O.length cap') O)) (fun _ vi vj _ => A.length + B.length - ((intOf vi).toNat + (intOf vj).toNat))
  case atStart => exact ⟨0, 0, [], none, 0, rfl, rfl, rfl, Nat.zero_le _, Nat.zero_le _, ⟨⟨rfl, .inl ⟨rfl, rfl⟩⟩, rfl, rfl, Keep.refl _ _⟩⟩
  case round =>
    obtain ⟨i, j, O, sa, cap', rfl, rfl, rfl, hi, hj, HM⟩ := hrel
    have hRA := HR.out.1.keep HM.out.keep (fun _ h => h)
    have hRB := HR.out.2.keep HM.out.keep (fun _ h => h)
    have hlen := HM.out.len
    have hmax : O.length + 1 ≤ maxLen := by unfold maxLen; omega
    have hby : (O.length + 1) * 8 ≤ 140737488355328 := by omega
    have hsz := HM.out.keep.size
    have HLN := (show Hid (O.length = i + j) from hlen)
    clear hlen
    by_cases hlt : i < A.length
    · obtain rfl : a = some ⟨ga, oa, none⟩ := hRA.at_.resolve_right (by rintro rfl; simp at hlt)
      have hltI : (i : Int) < (A.length : Int) := by omega
      have hltB : decide (i < A.length) = true := decide_eq_true hlt
      have c1 := hRA.cells i hlt
      obtain ⟨x, hx⟩ : ∃ x, x = A[i]?.getD 0 := ⟨_, rfl⟩
      rw [← hx] at c1
      by_cases hjl : B.length ≤ j
      · have hjI : (B.length : Int) ≤ (j : Int) := by omega
        have hjB : decide (B.length ≤ j) = true := decide_eq_true hjl
        have HX := (show Hid (x = A[i]?.getD 0) from hx)
        clear hRA hRB hx
        go_wp2_with fail
        go_quiet (fail)
        have hbase : w.heap.size ≤ ((wr.drewN nq).alloc (.cells #[.int .u64 (x : Int)] 60)).heap.size := by simp; exact Nat.le_succ_of_le hsz
        have hownq : (wr.drewN nq).ownsRow w.heap.size 60 1 (.slice sa O.length cap') O.length (u64s O) := owns_keep HM.out.own (keep_drewN _ _) (fun _ _ h => h)
        have cq : (wr.drewN nq).cell? ⟨ga, oa + i, none⟩ = some (.int .u64 (x : Int)) := c1
        have HG := (show Hid (∀ g2 cap2 W1, W1.ownsRow w.heap.size 60 1 (.slice (some ⟨g2, 0, none⟩) (O.length + 1) cap2) (O.length + 1) (u64s O ++ [.int .u64 (x : Int)]) → ((wr.drewN nq).alloc (.cells #[.int .u64 (x : Int)] 60)).grownBy W1 (Value.slice sa O.length cap').ownBlock → Mg w W1 A B (i + 1) j (.slice (some ⟨g2, 0, none⟩) (O ++ [x]).length cap2) (O ++ [x])) from fun g2 cap2 W1 h1 h2 => (by rw [HX.out] at h1 h2 ⊢; exact HM.out.left hlt (.inl hjl) h1 h2))
        clear HM c1 
        generalize wr.drewN nq = wq at hbase hownq cq HG ⊢
        go_wp2_with (at_builtin; refine wpList_append_lies _ rfl _ _ 88 rfl w.heap.size 60 i0 (.int .u64 0) 1 8 Try.underlying88 hi0 hz0 hz1 hz2 rfl (by decide) (.slice sa O.length cap') O.length (u64s O) rfl (hownq.alloc _) ⟨wq.heap.size, 0, none⟩ 1 1 [.int .u64 (x : Int)] rfl rfl (cell_one_new _ _ _) (by simp [Value.oneCell']) (by decide) hmax hby hbase (wq.heap.size + 1) (by simp) ?_; intro g2 cap2 w2 hown2 hgrow hat hltg)
        go_roundw
        case rel => exact ⟨i + 1, j, O ++ [x], some ⟨g2, 0, none⟩, cap2, by go_num, by go_num, by simp, by omega, by omega, HG.out _ _ _ hown2 hgrow⟩
        case measure => simp [intOf]; omega
      · have hjI : ¬ (B.length : Int) ≤ (j : Int) := by omega
        have hjB : decide (B.length ≤ j) = false := decide_eq_false hjl
        obtain rfl : b = some ⟨gb, ob, none⟩ := hRB.at_.resolve_right (by rintro rfl; simp at hjl)
        have c2 := hRB.cells j (by omega)
        have hjlt : (j : Int) < (B.length : Int) := by omega
        obtain ⟨y, hy⟩ : ∃ y, y = B[j]?.getD 0 := ⟨_, rfl⟩
        rw [← hy] at c2
        by_cases hxy : x ≤ y
        · have hxyI : (x : Int) ≤ (y : Int) := by omega
          have hxyB : decide (x ≤ y) = true := decide_eq_true hxy
          have HX := (show Hid (x = A[i]?.getD 0 ∧ y = B[j]?.getD 0) from ⟨hx, hy⟩)
          clear hRA hRB hx hy
          go_wp2_with fail
          go_quiet (fail)
          have hbase : w.heap.size ≤ ((wr.drewN nq).alloc (.cells #[.int .u64 (x : Int)] 60)).heap.size := by simp; exact Nat.le_succ_of_le hsz
          have hownq : (wr.drewN nq).ownsRow w.heap.size 60 1 (.slice sa O.length cap') O.length (u64s O) := owns_keep HM.out.own (keep_drewN _ _) (fun _ _ h => h)
          have cq : (wr.drewN nq).cell? ⟨ga, oa + i, none⟩ = some (.int .u64 (x : Int)) := c1
          have HG := (show Hid (∀ g2 cap2 W1, W1.ownsRow w.heap.size 60 1 (.slice (some ⟨g2, 0, none⟩) (O.length + 1) cap2) (O.length + 1) (u64s O ++ [.int .u64 (x : Int)]) → ((wr.drewN nq).alloc (.cells #[.int .u64 (x : Int)] 60)).grownBy W1 (Value.slice sa O.length cap').ownBlock → Mg w W1 A B (i + 1) j (.slice (some ⟨g2, 0, none⟩) (O ++ [x]).length cap2) (O ++ [x])) from fun g2 cap2 W1 h1 h2 => (by rw [HX.out.1] at h1 h2 ⊢; exact HM.out.left hlt (.inr (by rw [← HX.out.1, ← HX.out.2]; exact hxy)) h1 h2))
          clear HM c1 c2
          generalize wr.drewN nq = wq at hbase hownq cq HG ⊢
          go_wp2_with (at_builtin; refine wpList_append_lies _ rfl _ _ 88 rfl w.heap.size 60 i0 (.int .u64 0) 1 8 Try.underlying88 hi0 hz0 hz1 hz2 rfl (by decide) (.slice sa O.length cap') O.length (u64s O) rfl (hownq.alloc _) ⟨wq.heap.size, 0, none⟩ 1 1 [.int .u64 (x : Int)] rfl rfl (cell_one_new _ _ _) (by simp [Value.oneCell']) (by decide) hmax hby hbase (wq.heap.size + 1) (by simp) ?_; intro g2 cap2 w2 hown2 hgrow hat hltg)
          go_roundw
          case rel => exact ⟨i + 1, j, O ++ [x], some ⟨g2, 0, none⟩, cap2, by go_num, by go_num, by simp, by omega, by omega, HG.out _ _ _ hown2 hgrow⟩
          case measure => simp [intOf]; omega
        · have hxyI : ¬ (x : Int) ≤ (y : Int) := by omega
          have hxyB : decide (x ≤ y) = false := decide_eq_false hxy
          have HX := (show Hid (x = A[i]?.getD 0 ∧ y = B[j]?.getD 0) from ⟨hx, hy⟩)
          clear hRA hRB hx hy
          go_wp2_with fail
          go_quiet (fail)
          have hbase : w.heap.size ≤ ((wr.drewN nq).alloc (.cells #[.int .u64 (y : Int)] 60)).heap.size := by simp; exact Nat.le_succ_of_le hsz
          have hownq : (wr.drewN nq).ownsRow w.heap.size 60 1 (.slice sa O.length cap') O.length (u64s O) := owns_keep HM.out.own (keep_drewN _ _) (fun _ _ h => h)
          have cq : (wr.drewN nq).cell? ⟨gb, ob + j, none⟩ = some (.int .u64 (y : Int)) := c2
          have HG := (show Hid (∀ g2 cap2 W1, W1.ownsRow w.heap.size 60 1 (.slice (some ⟨g2, 0, none⟩) (O.length + 1) cap2) (O.length + 1) (u64s O ++ [.int .u64 (y : Int)]) → ((wr.drewN nq).alloc (.cells #[.int .u64 (y : Int)] 60)).grownBy W1 (Value.slice sa O.length cap').ownBlock → Mg w W1 A B i (j + 1) (.slice (some ⟨g2, 0, none⟩) (O ++ [y]).length cap2) (O ++ [y])) from fun g2 cap2 W1 h1 h2 => (by rw [HX.out.2] at h1 h2 ⊢; exact HM.out.right (by omega) (.inr (by rw [← HX.out.1, ← HX.out.2]; exact hxy)) h1 h2))
          clear HM c1 c2
          generalize wr.drewN nq = wq at hbase hownq cq HG ⊢
          go_wp2_with (at_builtin; refine wpList_append_lies _ rfl _ _ 88 rfl w.heap.size 60 i0 (.int .u64 0) 1 8 Try.underlying88 hi0 hz0 hz1 hz2 rfl (by decide) (.slice sa O.length cap') O.length (u64s O) rfl (hownq.alloc _) ⟨wq.heap.size, 0, none⟩ 1 1 [.int .u64 (y : Int)] rfl rfl (cell_one_new _ _ _) (by simp [Value.oneCell']) (by decide) hmax hby hbase (wq.heap.size + 1) (by simp) ?_; intro g2 cap2 w2 hown2 hgrow hat hltg)
          go_roundw
          case rel => exact ⟨i, j + 1, O ++ [y], some ⟨g2, 0, none⟩, cap2, by go_num, by go_num, by simp, by omega, by omega, HG.out _ _ _ hown2 hgrow⟩
          case measure => simp [intOf]; omega
    · have hltI : ¬ (i : Int) < (A.length : Int) := by omega
      have hltB : decide (i < A.length) = false := decide_eq_false hlt
      by_cases hjl : B.length ≤ j
      · have hjI : ¬ (j : Int) < (B.length : Int) := by omega
        have hjB : decide (j < B.length) = false := decide_eq_false (by omega)
        clear hRA hRB
        obtain rfl : i = A.length := by omega
        obtain rfl : j = B.length := by omega
        have he := HM.out.eq
        rw [List.drop_length, List.drop_length] at he
        have he' : O = mg A B := by rw [← he]; simp [mg]
        have HE := (show Hid _ from he')
        clear he he'
        go_wp2
        go_ret
        exact ⟨_, rfl, by rw [← HE.out]; exact HM.out.own, HM.out.keep⟩
      · have hjI : (j : Int) < (B.length : Int) := by omega
        have hjI2 : ¬ (B.length : Int) ≤ (j : Int) := by omega
        have hjB : decide (j < B.length) = true := decide_eq_true (by omega)
        have hjB2 : decide (B.length ≤ j) = false := decide_eq_false hjl
        obtain rfl : b = some ⟨gb, ob, none⟩ := hRB.at_.resolve_right (by rintro rfl; simp at hjl)
        have c1 := hRB.cells j (by omega)
        obtain ⟨y, hy⟩ : ∃ y, y = B[j]?.getD 0 := ⟨_, rfl⟩
        rw [← hy] at c1
        have HX := (show Hid (y = B[j]?.getD 0) from hy)
        clear hRA hRB hy
        go_wp2_with fail
        go_quiet (fail)
        have hbase : w.heap.size ≤ ((wr.drewN nq).alloc (.cells #[.int .u64 (y : Int)] 60)).heap.size := by simp; exact Nat.le_succ_of_le hsz
        have hownq : (wr.drewN nq).ownsRow w.heap.size 60 1 (.slice sa O.length cap') O.length (u64s O) := owns_keep HM.out.own (keep_drewN _ _) (fun _ _ h => h)
        have cq : (wr.drewN nq).cell? ⟨gb, ob + j, none⟩ = some (.int .u64 (y : Int)) := c1
        have HG := (show Hid (∀ g2 cap2 W1, W1.ownsRow w.heap.size 60 1 (.slice (some ⟨g2, 0, none⟩) (O.length + 1) cap2) (O.length + 1) (u64s O ++ [.int .u64 (y : Int)]) → ((wr.drewN nq).alloc (.cells #[.int .u64 (y : Int)] 60)).grownBy W1 (Value.slice sa O.length cap').ownBlock → Mg w W1 A B i (j + 1) (.slice (some ⟨g2, 0, none⟩) (O ++ [y]).length cap2) (O ++ [y])) from fun g2 cap2 W1 h1 h2 => (by rw [HX.out] at h1 h2 ⊢; exact HM.out.right (by omega) (.inl (by omega)) h1 h2))
        clear HM c1 
        generalize wr.drewN nq = wq at hbase hownq cq HG ⊢
        go_wp2_with (at_builtin; refine wpList_append_lies _ rfl _ _ 88 rfl w.heap.size 60 i0 (.int .u64 0) 1 8 Try.underlying88 hi0 hz0 hz1 hz2 rfl (by decide) (.slice sa O.length cap') O.length (u64s O) rfl (hownq.alloc _) ⟨wq.heap.size, 0, none⟩ 1 1 [.int .u64 (y : Int)] rfl rfl (cell_one_new _ _ _) (by simp [Value.oneCell']) (by decide) hmax hby hbase (wq.heap.size + 1) (by simp) ?_; intro g2 cap2 w2 hown2 hgrow hat hltg)
        go_roundw
        case rel => exact ⟨i, j + 1, O ++ [y], some ⟨g2, 0, none⟩, cap2, by go_num, by go_num, by simp, by omega, by omega, HG.out _ _ _ hown2 hgrow⟩
        case measure => simp [intOf]; omega

end Go.Proofs.Ytapcohpagipkpaa
