/-
  A row of strings of one's own; a string added at its end.
-/
import Derived.Test.YtinhlkioeadfdaaDoorWhl
import Derived.Test.YtinhlkioeadfdaaDoorErs
namespace Go.Proofs.YtinhlkioeadfdaaDoor
open Go.RowKit Go.Shelf
set_option linter.unusedVariables false

theorem info9 : (Tryd.prog.info? 9).map (fun i => (i.zero, i.size, i.bytes)) = some (some (.string ⟨#[]⟩), 1, 16) := by kernel_rfl
theorem owns_kept' {w w' : World} {S : Nat → Prop} {base e : Nat} {v : Value} {n : Nat} {xs : List Value} (h : w.ownsRow base e 1 v n xs) (hk : Keep S w w') (hS : ∀ g, v.ownBlock = some g → ¬ S g) : w'.ownsRow base e 1 v n xs := by
  refine ⟨h.1, ?_⟩
  rcases h.2 with ⟨e, h0⟩ | ⟨g, cap, cur, rfl, hb, hg, hr⟩
  · exact .inl ⟨e, h0⟩
  · exact .inr ⟨g, cap, cur, rfl, hb, hk.obj hg (hS g rfl), hr⟩
/-- append of a string onto a row of one's own. -/
theorem run_append_str (w : World) (ty : TypeId) (v : Value) (xs : List Value) (n : Nat) (hown : w.ownsRow 0 9 1 v n xs) (hlen : n ≤ 1000) (H : Nat) (S : ByteArray) (hH : w.heap[H]? = some (.cells #[.string S] 9 (0, 0))) :
    ∃ g cap w', (Builtin.append_ #[24, 24] ty #[v, .slice (some ⟨H, 0, none⟩) 1 1]).run Tryd.prog w = .ok (.slice (some ⟨g, 0, none⟩) (n + 1) cap) w' ∧ w'.ownsRow 0 9 1 (.slice (some ⟨g, 0, none⟩) (n + 1) cap) (n + 1) (xs ++ [.string S]) ∧ Keep (fun k => v.ownBlock = some k) w w' ∧ (v.ownBlock = some g ∨ g = w.heap.size) := by
  obtain ⟨i0, hi, hz0, hz1, hz2⟩ := info_parts info9
  obtain ⟨g, cap, w', hr, h2, h3, h4, h5⟩ := run_append_lies (P := Tryd.prog) w 24 ty 0 9 i0 (.string ⟨#[]⟩) 1 16 Tryd.underlying24 hi hz0 hz1 hz2 rfl (by decide) v n xs hown ⟨H, 0, none⟩ 1 1 [.string S] rfl
    (fun j u hu => by
      cases j with
      | zero => rw [addO, Nat.add_zero, cell_of hH 0]; simpa using hu
      | succ j => simp at hu) (by simp [Value.oneCell']) (by decide) (by unfold maxLen; omega) (by omega) (Nat.zero_le _) _ rfl
  exact ⟨g, cap, w', hr, h2, (Keep.refl _ w).grown h3 (fun k e _ => e), h4⟩
theorem strOf_size (bs : List Nat) : (strOf bs).size = bs.length := by
  unfold strOf
  have h : ∀ (l : List Int) (r : ByteArray), (l.foldl (fun r n => r.push (UInt8.ofNat n.toNat)) r).size = r.size + l.length := by
    intro l
    induction l with
    | nil => intro r; rfl
    | cons x l ih => intro r; rw [List.foldl_cons, ih, ByteArray.size_push, List.length_cons]; omega
  rw [h, List.length_map]
  simp
/-- Where the walk stands: k strings, all the same. -/
structure Sm (w W : World) (k : Nat) (S : ByteArray) (v : Value) : Prop where
  row : W.ownsRow 0 9 1 v k (List.replicate k (.string S))
  keep : Keep noBlock w W
  vlo : ∀ g, v.ownBlock = some g → w.heap.size ≤ g
theorem Sm.form {w W : World} {k : Nat} {S : ByteArray} {v : Value} (h : Sm w W k S v) : ∃ a cap, v = .slice a k cap := by
  rcases h.row.2 with ⟨e, h0⟩ | ⟨g, cap, cur, e, -⟩
  · exact ⟨none, 0, by rw [e, h0]⟩
  · exact ⟨_, _, e⟩
theorem Sm.cells {w W : World} {S : ByteArray} {a : Option Addr} {cap : Nat} (h : Sm w W 2 S (.slice a 2 cap)) : ∃ g, a = some ⟨g, 0, none⟩ ∧ W.cell? ⟨g, 0, none⟩ = some (.string S) ∧ W.cell? ⟨g, 1, none⟩ = some (.string S) := by
  rcases h.row.2 with ⟨e, h0⟩ | ⟨g, cp, cur, e, hb, hg, h1, h2, h3, h4⟩
  · simp at h0
  · simp only [Value.slice.injEq] at e
    obtain ⟨rfl, -, rfl⟩ := e
    refine ⟨g, rfl, ?_, ?_⟩
    · have h5 : (List.replicate 2 (Value.string S))[0]? = some (.string S) := rfl
      rw [← h4, List.getElem?_take, if_pos (by omega)] at h5
      rw [cell_of hg 0]
      simpa using h5
    · have h5 : (List.replicate 2 (Value.string S))[1]? = some (.string S) := rfl
      rw [← h4, List.getElem?_take, if_pos (by omega)] at h5
      rw [cell_of hg 1]
      simpa using h5
theorem Sm.more {w W W1 : World} {k : Nat} {S : ByteArray} {a : Option Addr} {cap : Nat} (h : Sm w W k S (.slice a k cap)) (hk : k ≤ 2) (k1 : Keep noBlock W W1) :
    ∃ g cp W3, (Builtin.append_ #[24, 24] 24 #[.slice a k cap, .slice (some ⟨W1.heap.size, 0, none⟩) 1 1]).run Tryd.prog (W1.alloc (.cells #[.string S] 9)) = .ok (.slice (some ⟨g, 0, none⟩) (k + 1) cp) W3 ∧ Sm w W3 (k + 1) S (.slice (some ⟨g, 0, none⟩) (k + 1) cp) := by
  have kA : Keep noBlock W1 (W1.alloc (.cells #[.string S] 9)) := (Keep.refl _ W1).alloc _
  have kB : Keep noBlock W (W1.alloc (.cells #[.string S] 9)) := k1.trans kA (fun _ _ h => h)
  obtain ⟨g, cp, W3, r3, o3, k3, g3⟩ := run_append_str (W1.alloc (.cells #[.string S] 9)) 24 (.slice a k cap) _ k (owns_kept' h.row kB (fun _ _ h => h)) (by omega) W1.heap.size S (alloc_new W1 _)
  refine ⟨g, cp, W3, r3, ⟨?_, ?_, ?_⟩⟩
  · rw [List.replicate_succ']; exact o3
  · exact (h.keep.trans kB (fun _ _ h => h)).trans k3 (fun i hi e => by have := h.vlo i e; omega)
  · intro g' hg'
    have : g = g' := by simpa [Value.ownBlock] using hg'
    subst this
    rcases g3 with e | e
    · exact h.vlo _ e
    · have := h.keep.size; have := kB.size; omega
end Go.Proofs.YtinhlkioeadfdaaDoor
