/-
  A window and its ledger, both in memory that is new since w.
-/
import Derived.Test.YtinhlkioeadfdaaDoorCopy
namespace Go.Proofs.YtinhlkioeadfdaaDoor
open Go.RowKit Go.Shelf
set_option linter.unusedVariables false

structure Live (w W : World) (wb lb s : Nat) (rv : Value) (M : List Nat) (B now most : Nat) : Prop where
  isW : IsW W wb lb s rv M
  isL : IsL W lb B now most
  keep : Keep noBlock w W
  lo : w.heap.size ≤ lb
  lo2 : w.heap.size ≤ wb
  ring : ∀ g, rv.ownBlock = some g → w.heap.size ≤ g
theorem IsW.ne {W : World} {wb lb s B now most lb' : Nat} {rv : Value} {M : List Nat} (h : IsW W wb lb' s rv M) (hL : IsL W lb B now most) : lb ≠ wb := by
  obtain ⟨R, o, h, -⟩ := h
  intro e
  have h1 := hL.obj
  rw [e, h.obj] at h1
  simp at h1
theorem Live.kept {w W W' : World} {wb lb s B now most : Nat} {rv : Value} {M : List Nat} {S : Nat → Prop} (h : Live w W wb lb s rv M B now most) (hk : Keep S W W') (h1 : ¬ S wb) (h2 : ¬ S lb) (h3 : ∀ g, rv.ownBlock = some g → ¬ S g) (h4 : ∀ i, i < w.heap.size → ¬ S i) : Live w W' wb lb s rv M B now most :=
  ⟨h.isW.keep hk h1 h3, h.isL.keep hk h2, h.keep.trans hk (fun i hi e => absurd e (h4 i hi)), h.lo, h.lo2, h.ring⟩
theorem Live.same {w W W' : World} {wb lb s B now most : Nat} {rv : Value} {M : List Nat} (h : Live w W wb lb s rv M B now most) (hk : Keep noBlock W W') : Live w W' wb lb s rv M B now most :=
  h.kept hk (fun h => h) (fun h => h) (fun _ _ h => h) (fun _ _ h => h)
/-- What a put leaves. -/
theorem Live.turn {w W W' : World} {wb lb s B now most : Nat} {rv rv' : Value} {M M' : List Nat} (h : Live w W wb lb s rv M B now most) (hW : IsW W' wb lb s rv' M') (hN : Near W rv rv') (hK : Keep (fun k => k = wb ∨ rv.ownBlock = some k) W W') : Live w W' wb lb s rv' M' B now most := by
  refine ⟨hW, h.isL.keep hK ?_, h.keep.trans hK ?_, h.lo, h.lo2, ?_⟩
  · rintro (e | e)
    · exact h.isW.ne h.isL e
    · exact h.isW.ring_ne h.isL.obj (by decide) e
  · rintro i hi (e | e)
    · have := h.lo2; omega
    · have := h.ring i e; omega
  · intro g hg
    rcases hN with e | ⟨k, e, hk⟩
    · exact h.ring g (by rw [← e]; exact hg)
    · rw [e] at hg
      have : k = g := by simpa using hg
      have := h.keep.size
      omega
theorem Live.put {w W : World} {wb lb s B now most : Nat} {rv : Value} {M : List Nat} (h : Live w W wb lb s rv M B now most) {a : Option Addr} {cap gb off : Nat} {bs : List Nat} (hb : Bytes W a cap gb off bs) (hne : bs ≠ [] → gb ≠ wb ∧ rv.ownBlock ≠ some gb) :
    Calls Tryd.prog 49 #[.pointer (some ⟨wb, 0, none⟩), .slice a bs.length cap] W fun e W' => e = .returned (.tuple #[]) ∧ ∃ rv', Live w W' wb lb s rv' (lastN s (M ++ bs)) B now most ∧ Near W rv rv' ∧ Keep (fun k => k = wb ∨ rv.ownBlock = some k) W W' := by
  refine (put_any wb lb s rv M a cap gb off bs W h.isW hb hne).mono ?_
  rintro e W' ⟨rfl, rv', hW, hN, hK⟩
  exact ⟨rfl, rv', h.turn hW hN hK, hN, hK⟩
theorem Live.copy {w W : World} {wb lb s B now most : Nat} {rv : Value} {M : List Nat} (h : Live w W wb lb s rv M B now most) (back n : Nat) (h1 : 1 ≤ back) (h2 : back ≤ M.length) (hn : n ≤ 16777216) :
    Calls Tryd.prog 39 #[.pointer (some ⟨wb, 0, none⟩), .int .i64 (back : Int), .int .i64 (n : Int)] W fun e W' => e = .returned (.tuple #[.slice (some ⟨W.heap.size, 0, none⟩) n n, .int .i64 0]) ∧
      W'.heap[W.heap.size]? = some (.cells (u8s (outL M back n)).toArray 5 (0, 0)) ∧ ∃ rv', Live w W' wb lb s rv' (lastN s (M ++ outL M back n)) B now most ∧ Near W rv rv' ∧ rv'.ownBlock ≠ some W.heap.size ∧ Keep (fun k => k = wb ∨ rv.ownBlock = some k) W W' := by
  refine (copy_ok wb lb s rv M back n W h.isW h1 h2 hn).mono ?_
  rintro e W' ⟨rfl, hz, rv', hW, hN, hne, hK⟩
  exact ⟨rfl, hz, rv', h.turn hW hN hK, hN, hne, hK⟩

/-- .. a window that was dropped. -/
structure Gone (w W : World) (wb lb B now most : Nat) : Prop where
  isD : IsDrop W wb
  isL : IsL W lb B now most
  keep : Keep noBlock w W
  lo : w.heap.size ≤ lb
  lo2 : w.heap.size ≤ wb
theorem Gone.kept {w W W' : World} {wb lb B now most : Nat} {S : Nat → Prop} (h : Gone w W wb lb B now most) (hk : Keep S W W') (h1 : ¬ S wb) (h2 : ¬ S lb) (h4 : ∀ i, i < w.heap.size → ¬ S i) : Gone w W' wb lb B now most :=
  ⟨hk.obj h.isD h1, h.isL.keep hk h2, h.keep.trans hk (fun i hi e => absurd e (h4 i hi)), h.lo, h.lo2⟩
theorem Gone.same {w W W' : World} {wb lb B now most : Nat} (h : Gone w W wb lb B now most) (hk : Keep noBlock W W') : Gone w W' wb lb B now most :=
  h.kept hk (fun h => h) (fun h => h) (fun _ _ h => h)
/-- New. -/
theorem live_new {w W : World} (s lb B now most : Nat) (h1 : 1 ≤ s) (h2 : s ≤ 16777216) (hL : IsL W lb B now most) (ho : now + s ≤ B) (hk : Keep noBlock w W) (lo : w.heap.size ≤ lb) :
    Calls Tryd.prog 11 #[.int .i64 (s : Int), .pointer (some ⟨lb, 0, none⟩)] W fun e W' => ∃ wb, e = .returned (.tuple #[.pointer (some ⟨wb, 0, none⟩), .int .i64 0]) ∧ W.heap.size ≤ wb ∧ Live w W' wb lb s (.slice none 0 0) [] B (now + s) (max (now + s) most) ∧ Keep (fun k => k = lb) W W' := by
  refine (wnew_ok s lb B now most W h1 h2 hL ho).mono ?_
  rintro e W' ⟨wb, rfl, hwb, hW, hL', hK⟩
  exact ⟨wb, rfl, hwb, ⟨hW, hL', hk.trans hK (fun i hi e => by omega), lo, by have := hk.size; omega, (fun g hg => by cases hg)⟩, hK⟩
theorem Live.held {w W : World} {wb lb s B now most : Nat} {rv : Value} {M : List Nat} (h : Live w W wb lb s rv M B now most) : W.cell? ⟨wb, 0, none⟩ = some (.int .i64 (s : Int)) := by
  obtain ⟨R, o, hI, -⟩ := h.isW
  exact cell_of hI.obj 0
theorem Live.ring_cell {w W : World} {wb lb s B now most : Nat} {rv : Value} {M : List Nat} (h : Live w W wb lb s rv M B now most) : ∃ a cap, W.cell? ⟨wb, 2, none⟩ = some (.slice a M.length cap) := by
  obtain ⟨R, o, hI, hM⟩ := h.isW
  obtain ⟨ra, rcap, rg, hrv, -, -⟩ := hI.form
  have hRM : R.length = M.length := by rw [← hM, unr_length]
  exact ⟨ra, rcap, by have := cell_of hI.obj 2; rw [hrv] at this; rw [← hRM]; exact this⟩

end Go.Proofs.YtinhlkioeadfdaaDoor
