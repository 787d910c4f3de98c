/-
  append onto a slice that was just made; stores into a row of one's own.
-/
import Derived.Test.YtoohkldhfkoocaaSum
namespace Go.Proofs.Ytoohkldhfkoocaa
open Go.RowKit Go.Shelf
set_option linter.unusedVariables false

theorem set_lt (cs : List Nat) (h : ∀ j : Nat, cs[j]?.getD 0 < 256) (i x : Nat) (hx : x < 256) : ∀ j : Nat, (cs.set i x)[j]?.getD 0 < 256 := by
  intro j
  rw [List.getElem?_set]
  split
  · split
    · exact hx
    · decide
  · exact h j
/-- A store into a row that is owned. -/
theorem owns_set {w : World} {base : Nat} {g n cap : Nat} {bs : List Nat} (h : w.ownsRow base 5 1 (.slice (some ⟨g, 0, none⟩) n cap) n (u8s bs)) (i x : Nat) : (w.setCell ⟨g, i, none⟩ (.int .u8 (x : Int))).ownsRow base 5 1 (.slice (some ⟨g, 0, none⟩) n cap) n (u8s (bs.set i x)) := by
  obtain ⟨h1, h2⟩ := h
  refine ⟨by simpa [u8s] using h1, ?_⟩
  rcases h2 with ⟨e, _⟩ | ⟨g', cap', cur, e, hb, hg, hr1, hr2, hr3, hr4⟩
  · cases e
  · simp only [Value.slice.injEq, Option.some.injEq, Addr.mk.injEq] at e
    obtain ⟨⟨rfl, _⟩, _, rfl⟩ := e
    refine .inr ⟨g, cap, cur.setIfInBounds i (.int .u8 (x : Int)), rfl, hb, set_obj hg i _, hr1, hr2, by simpa using hr3, ?_⟩
    simp only [Array.toList_setIfInBounds, List.take_set, hr4, u8s, List.map_set]

theorem grownBy_set (W : World) (b i : Nat) (v : Value) : W.grownBy (W.setCell ⟨b, i, none⟩ v) (some b) :=
  ⟨rfl, rfl, rfl, by simp [World.setCell], fun k _ hk => Below.heap_setCell _ _ _ k (fun e => hk (by rw [e]))⟩

theorem owns_drew {w : World} {base e size n : Nat} {v : Value} {xs : List Value} (h : w.ownsRow base e size v n xs) : w.drew.ownsRow base e size v n xs := h
/-- A store into another block. -/
theorem owns_far {w : World} {base e size n g cap : Nat} {xs : List Value} (h : w.ownsRow base e size (.slice (some ⟨g, 0, none⟩) n cap) n xs) {b : Nat} (hne : g ≠ b) (i : Nat) (u : Value) : (w.setCell ⟨b, i, none⟩ u).ownsRow base e size (.slice (some ⟨g, 0, none⟩) n cap) n xs :=
  h.kept (grownBy_set w b i u) (.inr (fun e => hne (by simpa [Value.ownBlock] using e)))

theorem owns_ne {w : World} {base n e t : Nat} {v : Value} {xs : List Value} {wb : Nat} {cs : Array Value} (h : w.ownsRow base e 1 v n xs) (ho : w.heap[wb]? = some (.cells cs t (0, 0))) (hte : t ≠ e) : v.ownBlock ≠ some wb := by
  intro hv
  rcases h.2 with ⟨rfl, _⟩ | ⟨g, cap, cur, rfl, _, hg, _⟩
  · cases hv
  · obtain rfl : g = wb := by simpa [Value.ownBlock] using hv
    rw [ho] at hg; simp at hg; exact hte hg.2

/-- append onto an empty slice that was just made, from whatever slice of bytes. -/
theorem run_append_src (w : World) (ty : TypeId) (H : Nat) (hH : w.heap[H]? = some (.cells #[] 5 (0, 0))) (sv : Value) (bs : List Nat) (hlen : bs.length ≤ 140737488351232) (h : (sv = .slice none 0 0 ∧ bs = []) ∨ ∃ a cap, sv = .slice (some a) bs.length cap ∧ ∀ j u, (u8s bs)[j]? = some u → w.cell? (a.add j) = some u) :
    ∃ g cap w', (Builtin.append_ #[22, 22] ty #[.slice (some ⟨H, 0, none⟩) 0 0, sv]).run Try.prog w = .ok (.slice (some ⟨g, 0, none⟩) bs.length cap) w' ∧ w'.ownsRow 0 5 1 (.slice (some ⟨g, 0, none⟩) bs.length cap) bs.length (u8s bs) ∧ Keep (fun k => k = H) w w' ∧ (g = H ∨ w.heap.size ≤ g) := by
  obtain ⟨i0, hi, hz0, hz1, hz2⟩ := info_parts info5
  have hown : w.ownsRow 0 5 1 (.slice (some ⟨H, 0, none⟩) 0 0) 0 [] := ⟨by simp, .inr ⟨H, 0, #[], rfl, Nat.zero_le _, hH, Nat.le_refl _, Nat.zero_le _, rfl, rfl⟩⟩
  rcases h with ⟨rfl, rfl⟩ | ⟨a, c, rfl, hc⟩
  · refine ⟨H, 0, w, ?_, by simpa [u8s] using hown, Keep.refl _ _, .inl rfl⟩
    simp [Builtin.append_, run_underlying Try.underlying22, sizeOf, typeInfo, hi, Builtin.lenOf, go_sem]
  · obtain ⟨v', w', hr, h2, h3, h4, h5⟩ := run_append_own_at (P := Try.prog) w 0 22 ty 5 i0 (.int .u8 0) 1 1 Try.underlying22 hi hz0 hz1 hz2 rfl (by decide) (.slice (some ⟨H, 0, none⟩) 0 0) 0 [] hown a bs.length c (u8s bs) (by simp [u8s_length]) hc (u8s_one bs) (by unfold maxLen; omega) (by omega) (Nat.zero_le _)
    rw [Nat.zero_add, List.nil_append] at h2
    rcases h2.2 with ⟨rfl, _⟩ | ⟨g, cap, cur, rfl, hb, hg, hrest⟩
    · simp at h4
    · refine ⟨g, cap, w', hr, h2, (Keep.refl _ w).grown h3 (fun k e _ => by simpa [Value.ownBlock] using e.symm), ?_⟩
      rcases h5 with e | e
      · exact .inl (by simpa [Value.ownBlock] using e)
      · right
        have : g = w.heap.size := by simpa [Value.ownBlock] using e
        omega

theorem wpList_append_src {ops : Array Oper} {rest : List Oper} {o : Oper} {a : Act} {Q : Exit → Act → World → Prop} (w : World) (hgd : o.guard = none) (s x : Operand)
    (ho : o.op = .call { callee := .builtin .append, args := #[s, x], argTypes := #[22, 22] }) (H : Nat) (hH : w.heap[H]? = some (.cells #[] 5 (0, 0))) (hs : a.eval s = .slice (some ⟨H, 0, none⟩) 0 0) (sv : Value) (hx : a.eval x = sv)
    (bs : List Nat) (hlen : bs.length ≤ 140737488351232) (h : (sv = .slice none 0 0 ∧ bs = []) ∨ ∃ a cap, sv = .slice (some a) bs.length cap ∧ ∀ j u, (u8s bs)[j]? = some u → w.cell? (a.add j) = some u)
    (hk : ∀ g cap w', w'.ownsRow 0 5 1 (.slice (some ⟨g, 0, none⟩) bs.length cap) bs.length (u8s bs) → Keep (fun k => k = H) w w' → (g = H ∨ w.heap.size ≤ g) → wpList Try.prog ops Q rest (a.put o.dst (.slice (some ⟨g, 0, none⟩) bs.length cap)) w') : wpList Try.prog ops Q (o :: rest) a w := by
  obtain ⟨g, cap, w', hr, h2, h3, h4⟩ := run_append_src w o.type H hH sv bs hlen h
  refine wpList_plain hgd fun K hK => ?_
  unfold Oper.wp execOp
  simp only [ho, resolve, invoke, builtin, Sem.run_bind, Sem.run_pure, Result.andThen_ok, List.map_toArray, List.map_cons, List.map_nil, hs, hx, hr]
  exact hK _ _ (hk g cap w' h2 h3 h4)


/-- Bytes in memory of one's own. -/
theorem Bytes.of_owns {w : World} {g cap : Nat} {bs : List Nat} (h : w.ownsRow 0 5 1 (.slice (some ⟨g, 0, none⟩) bs.length cap) bs.length (u8s bs)) (hlt : ∀ j : Nat, bs[j]?.getD 0 < 256) (hl : bs.length < 2 ^ 48) : Bytes w (some ⟨g, 0, none⟩) cap g 0 bs := by
  refine ⟨.inl rfl, fun j hj => ?_, hlt, ?_, hl⟩
  · have := h.cells (g := g) rfl j _ (u8s_at bs j hj)
    rw [add0] at this
    rw [Nat.zero_add]; exact this
  · rcases h.2 with ⟨e, _⟩ | ⟨g', cap', cur, e, _, hg, hr1, hr2, _⟩
    · cases e
    · simp only [Value.slice.injEq, Option.some.injEq, Addr.mk.injEq] at e
      obtain ⟨⟨rfl, _⟩, _, rfl⟩ := e
      omega
/-- What append reads. -/
def SrcB (w : World) (v : Value) (bs : List Nat) : Prop := (v = .slice none 0 0 ∧ bs = []) ∨ ∃ a cap, v = .slice (some a) bs.length cap ∧ ∀ j u, (u8s bs)[j]? = some u → w.cell? (a.add j) = some u
theorem SrcB.alloc {w : World} {v : Value} {bs : List Nat} (h : SrcB w v bs) (o : Obj) : SrcB (w.alloc o) v bs :=
  h.imp id (fun ⟨a, cap, e, h⟩ => ⟨a, cap, e, fun j u hu => (World.cell?_of_block (Below.heap_alloc _ _ _ (World.block_lt_of_cell? w _ (h j u hu)))).trans (h j u hu)⟩)

end Go.Proofs.Ytoohkldhfkoocaa
