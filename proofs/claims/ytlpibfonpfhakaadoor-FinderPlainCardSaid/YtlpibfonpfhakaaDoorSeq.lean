/-
  Rows of steps: three cells each.
-/
import Derived.Test.YtlpibfonpfhakaaDoorSl
import Derived.Deep.RegionLaw
namespace Go.Proofs.YtlpibfonpfhakaaDoor
open Go.RowKit Go.Shelf
set_option linter.unusedVariables false

theorem info25 : (Tryd.prog.info? 25).map (fun i => (i.zero, i.size, i.bytes)) = some (some (.agg #[.int .i64 0, .int .i64 0, .int .i64 0]), 3, 24) := by kernel_rfl
/-- Steps as values. -/
def seqs (L : List (Nat × Nat × Nat)) : List Value := L.flatMap (fun t => [.int .i64 (t.1 : Int), .int .i64 (t.2.1 : Int), .int .i64 (t.2.2 : Int)])
theorem seqs_app (A B : List (Nat × Nat × Nat)) : seqs (A ++ B) = seqs A ++ seqs B := by simp [seqs]
theorem seqs_length (L : List (Nat × Nat × Nat)) : (seqs L).length = L.length * 3 := by
  induction L with
  | nil => rfl
  | cons t r ih => rw [show seqs (t :: r) = seqs [t] ++ seqs r from seqs_app [t] r, List.length_append, ih]; simp [seqs]; omega
theorem seqs_at (L : List (Nat × Nat × Nat)) (j : Nat) (hj : j < L.length) : (seqs L)[j * 3]? = some (.int .i64 ((L[j]?.getD (0, 0, 0)).1 : Int)) ∧ (seqs L)[j * 3 + 1]? = some (.int .i64 ((L[j]?.getD (0, 0, 0)).2.1 : Int)) ∧ (seqs L)[j * 3 + 2]? = some (.int .i64 ((L[j]?.getD (0, 0, 0)).2.2 : Int)) := by
  induction L generalizing j with
  | nil => simp at hj
  | cons t r ih =>
    cases j with
    | zero => simp [seqs]
    | succ j =>
      have e : seqs (t :: r) = [.int .i64 (t.1 : Int), .int .i64 (t.2.1 : Int), .int .i64 (t.2.2 : Int)] ++ seqs r := seqs_app [t] r
      have := ih j (by simpa using hj)
      rw [e, List.getElem?_append_right (by simp; omega), List.getElem?_append_right (by simp; omega), List.getElem?_append_right (by simp; omega)]
      simp only [List.length_cons, List.length_nil, List.getElem?_cons_succ]
      rw [show (j + 1) * 3 - (0 + 1 + 1 + 1) = j * 3 from by omega, show (j + 1) * 3 + 1 - (0 + 1 + 1 + 1) = j * 3 + 1 from by omega, show (j + 1) * 3 + 2 - (0 + 1 + 1 + 1) = j * 3 + 2 from by omega]
      exact this
theorem seqs_one (L : List (Nat × Nat × Nat)) : ∀ u ∈ seqs L, u.oneCell' = true := by
  intro u hu
  simp only [seqs, List.mem_flatMap] at hu
  obtain ⟨t, _, ht⟩ := hu
  simp at ht
  rcases ht with rfl | rfl | rfl <;> rfl
/-- A slice of steps of one's own. -/
abbrev ownsQ (w : World) (v : Value) (L : List (Nat × Nat × Nat)) : Prop := w.ownsRow 0 25 3 v L.length (seqs L)
theorem ownsQ_nil (w : World) : ownsQ w (.slice none 0 0) [] := ⟨rfl, .inl ⟨rfl, rfl⟩⟩
theorem ownsQ_kept {w w' : World} {S : Nat → Prop} {v : Value} {L : List (Nat × Nat × Nat)} (h : ownsQ w v L) (hk : Keep S w w') (hS : ∀ g, v.ownBlock = some g → ¬ S g) : ownsQ w' v L := by
  refine ⟨h.1, ?_⟩
  rcases h.2 with ⟨e, h0⟩ | ⟨g, cap, cur, rfl, hb, hg, hr⟩
  · exact .inl ⟨e, h0⟩
  · exact .inr ⟨g, cap, cur, rfl, hb, hk.obj hg (hS g rfl), hr⟩
theorem ownsQ_form {w : World} {v : Value} {L : List (Nat × Nat × Nat)} (h : ownsQ w v L) : ∃ a cap, v = .slice a L.length cap := by
  rcases h.2 with ⟨e, h0⟩ | ⟨g, cap, cur, rfl, hb, hg, hr⟩
  · exact ⟨none, 0, by rw [h0]; exact e⟩
  · exact ⟨_, cap, rfl⟩
/-- One step more. -/
theorem seq_append (w : World) (v : Value) (L : List (Nat × Nat × Nat)) (h : ownsQ w v L) (hl : L.length < 1000000) (l m b : Nat) :
    ∃ v' w', (Builtin.append_ #[23, 23] 23 #[v, .slice (some ⟨w.heap.size, 0, none⟩) 1 1]).run Tryd.prog (w.alloc (.cells #[.int .i64 (l : Int), .int .i64 (m : Int), .int .i64 (b : Int)] 25)).drew = .ok v' w' ∧ ownsQ w' v' (L ++ [(l, m, b)]) ∧ Keep (fun k => v.ownBlock = some k) w w' ∧ (v'.ownBlock = v.ownBlock ∨ ∃ k, v'.ownBlock = some k ∧ w.heap.size ≤ k) := by
  obtain ⟨i0, hi, hz0, hz1, hz2⟩ := info_parts info25
  have k0 : Keep noBlock w (w.alloc (.cells #[.int .i64 (l : Int), .int .i64 (m : Int), .int .i64 (b : Int)] 25)).drew := ((Keep.refl _ w).alloc _).drew
  have h0 := ownsQ_kept h k0 (fun _ _ h => h)
  have hc : ∀ j u, (seqs [(l, m, b)])[j]? = some u → (w.alloc (.cells #[.int .i64 (l : Int), .int .i64 (m : Int), .int .i64 (b : Int)] 25)).drew.cell? ((⟨w.heap.size, 0, none⟩ : Addr).add j) = some u := fun j u hu => by
    rw [add0]
    have hn : (w.alloc (.cells #[.int .i64 (l : Int), .int .i64 (m : Int), .int .i64 (b : Int)] 25)).drew.heap[w.heap.size]? = some (.cells #[.int .i64 (l : Int), .int .i64 (m : Int), .int .i64 (b : Int)] 25 (0, 0)) := alloc_new w _
    rw [cell_of hn j]
    simpa [seqs] using hu
  obtain ⟨v', w', hr, h2, h3, h4, h5⟩ := run_append_own_at (P := Tryd.prog) _ 0 23 23 25 i0 (.agg #[.int .i64 0, .int .i64 0, .int .i64 0]) 3 24 Tryd.underlying23 hi hz0 hz1 hz2 rfl (by decide) v L.length (seqs L) h0 ⟨w.heap.size, 0, none⟩ 1 1 (seqs [(l, m, b)]) rfl hc (seqs_one _) (by unfold maxLen; omega) (by omega) (Nat.zero_le _)
  refine ⟨v', w', hr, by unfold ownsQ; rw [seqs_app, List.length_append, List.length_singleton]; exact h2, (k0.mono (T := fun k => v.ownBlock = some k) (fun _ _ h => h.elim)).grown h3 (fun k e _ => e), ?_⟩
  rcases h5 with e | e
  · exact .inl e
  · exact .inr ⟨_, e, k0.size⟩
/-- append, its run handed in: at a plain region's list. -/
theorem wpList_append_run {ops : Array Oper} {rest : List Oper} {o : Oper} {a : Act} {Q : Exit → Act → World → Prop} (w : World) (hgd : o.guard = none) (s x : Operand) (t : TypeId)
    (ho : o.op = .call { callee := .builtin .append, args := #[s, x], argTypes := #[t, t] }) (v sv v' : Value) (w' : World) (hs : a.eval s = v) (hx : a.eval x = sv)
    (hr : (Builtin.append_ #[t, t] o.type #[v, sv]).run Tryd.prog w = .ok v' w') (hk : wpList Tryd.prog ops Q rest (a.put o.dst v') w') : wpList Tryd.prog ops Q (o :: rest) a w := by
  refine wpList_plain hgd fun K hK => ?_
  unfold Oper.wp execOp
  simp only [ho, resolve, invoke, builtin, Sem.run_bind, Sem.run_pure, Result.andThen_ok, List.map_toArray, List.map_cons, List.map_nil, hs, hx, hr]
  exact hK _ _ hk
/-- .. at a step of a region that draws. -/
theorem step_append_run {ops : Array Oper} {o : Oper} {a : Act} {K : Act → World → Prop} {Q : Exit → Act → World → Prop} {E : Prop} (w : World) (hgd : o.guard = none) (s x : Operand) (t : TypeId)
    (ho : o.op = .call { callee := .builtin .append, args := #[s, x], argTypes := #[t, t] }) (v sv v' : Value) (w' : World) (hs : a.eval s = v) (hx : a.eval x = sv)
    (hr : (Builtin.append_ #[t, t] o.type #[v, sv]).run Tryd.prog w = .ok v' w') (hk : K (a.put o.dst v') w') : if Region.wanted o (yielded ops a.tmps) = true then Oper.wp Tryd.prog o a w K Q else E := by
  have hw : Region.wanted o (yielded ops a.tmps) = true := by simp [Region.wanted, hgd]
  rw [if_pos hw]
  unfold Oper.wp execOp
  simp only [ho, resolve, invoke, builtin, Sem.run_bind, Sem.run_pure, Result.andThen_ok, List.map_toArray, List.map_cons, List.map_nil, hs, hx, hr]
  exact hk
end Go.Proofs.YtlpibfonpfhakaaDoor
