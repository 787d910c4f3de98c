/-
  The way that symbols go backwards through a table's states, with the bits that are put.
-/
import Derived.Test.YtoffnhbopjaocaaAhd
import Derived.Test.YtoffnhbopjaocaaTlLaid
import Derived.Test.YtoffnhbopjaocaaBackLaw
namespace Go.Proofs.Ytoffnhbopjaocaa
open Go.RowKit Go.Shelf

/-- From state i on the symbols ls are read and 0 comes at last; L: the bits put for them, the last symbol's first. -/
def Path (sy bi ba : Nat → Nat) (n : Nat) : List Nat → Nat → List (Fin 2) → Prop
  | [], i, L => i = 0 ∧ L = []
  | s :: ls, i, L => ∃ nx L', Path sy bi ba n ls nx L' ∧ Leads sy bi ba n s nx i ∧ L = L' ++ low (nx - ba i) (bi i)
theorem Path.nil {sy bi ba : Nat → Nat} {n : Nat} : Path sy bi ba n [] 0 [] := ⟨rfl, rfl⟩
theorem Path.cons {sy bi ba : Nat → Nat} {n : Nat} {s : Nat} {ls : List Nat} {nx i : Nat} {L : List (Fin 2)} (h : Path sy bi ba n ls nx L) (hl : Leads sy bi ba n s nx i) : Path sy bi ba n (s :: ls) i (L ++ low (nx - ba i) (bi i)) := ⟨nx, L, h, hl, rfl⟩
theorem Path.len {sy bi ba : Nat → Nat} {n : Nat} (hf : Fits sy bi ba n) {ls : List Nat} {i : Nat} {L : List (Fin 2)} (h : Path sy bi ba n ls i L) : L.length ≤ 12 * ls.length := by
  induction ls generalizing i L with
  | nil => obtain ⟨_, rfl⟩ := h; simp
  | cons s ls ih =>
    obtain ⟨nx, L', h', hl, rfl⟩ := h
    rw [List.length_append, low_length, List.length_cons]
    have := (hf _ hl.1).2.1
    have := ih h'
    omega
theorem Path.lt {sy bi ba : Nat → Nat} {n : Nat} (hn : 0 < n) {ls : List Nat} {i : Nat} {L : List (Fin 2)} (h : Path sy bi ba n ls i L) : i < n := by
  cases ls with
  | nil => obtain ⟨rfl, _⟩ := h; exact hn
  | cons s ls => obtain ⟨nx, L', h', hl, rfl⟩ := h; exact hl.1
/-- The next symbol that is read. -/
theorem Path.next {sy bi ba : Nat → Nat} {n : Nat} {s : Nat} {ls : List Nat} {i : Nat} {L : List (Fin 2)} (h : Path sy bi ba n (s :: ls) i L) : ∃ nx L', Path sy bi ba n ls nx L' ∧ L = L' ++ low (nx - ba i) (bi i) ∧ i < n ∧ sy i = s ∧ ba i ≤ nx ∧ nx - ba i < 2 ^ bi i := by
  obtain ⟨nx, L', h', hl, rfl⟩ := h
  exact ⟨nx, L', h', rfl, hl.1, hl.2.1, hl.2.2.1, by have := hl.2.2.2; have := hl.2.2.1; omega⟩
theorem Path.done {sy bi ba : Nat → Nat} {n : Nat} {i : Nat} {L : List (Fin 2)} (h : Path sy bi ba n [] i L) : i = 0 ∧ L = [] := h
theorem drop_at (ls : List Nat) (k : Nat) (hk : k < ls.length) : ls.drop k = ls[k]?.getD 0 :: ls.drop (k + 1) := by
  rw [List.drop_eq_getElem_cons hk, List.getElem?_eq_getElem hk]; rfl

/-- The symbols that were gathered, in a row of one's own. -/
structure Gath (xs : List Int) (w W : World) (v : Value) (ls : List Nat) : Prop where
  owns : W.ownsRow 0 5 1 v ls.length (u8s ls)
  new : ∀ k, v.ownBlock = some k → w.heap.size ≤ k
  keep : Keep noBlock w W
  mem : ∀ s ∈ ls, s < xs.length ∧ xs[s]?.getD 0 ≠ 0
theorem Gath.nil {xs : List Int} {w W : World} (hk : Keep noBlock w W) : Gath xs w W (.slice none 0 0) [] := ⟨World.ownsRow_nil _ _ _ _, fun k e => (by cases e), hk, fun s h => (by cases h)⟩
theorem Gath.keeps {xs : List Int} {w W W' : World} {v : Value} {ls : List Nat} (h : Gath xs w W v ls) (hk : Keep noBlock W W') : Gath xs w W' v ls :=
  ⟨owns_keep h.owns hk (fun _ _ h => h), h.new, h.keep.trans' hk, h.mem⟩
/-- One symbol more. -/
theorem Gath.push {xs : List Int} {w W : World} {v : Value} {ls : List Nat} (h : Gath xs w W v ls) (s : Nat) (h1 : s < xs.length) (h2 : xs[s]?.getD 0 ≠ 0) (hl : ls.length ≤ 1000) :
    ∃ v' W', (Builtin.append_ #[23, 23] 23 #[v, .slice (some ⟨W.heap.size, 0, none⟩) 1 1]).run Try.prog (W.alloc (.cells #[.int .u8 (s : Int)] 5)) = .ok v' W' ∧ Gath xs w W' v' (ls ++ [s]) := by
  have hka : Keep noBlock W (W.alloc (.cells #[.int .u8 (s : Int)] 5)) := (Keep.refl _ W).alloc _
  have hs : SrcB (W.alloc (.cells #[.int .u8 (s : Int)] 5)) (.slice (some ⟨W.heap.size, 0, none⟩) 1 1) [s] := .inr ⟨_, 1, rfl, fun j u hu => by
    have hj : j < 1 := by have := (List.getElem?_eq_some_iff.1 hu).1; rwa [u8s_length] at this
    obtain rfl : j = 0 := by omega
    rw [← hu, addO]
    exact cell_of (World.alloc_heap_new W _) 0⟩
  obtain ⟨v', W', hr, ho, hk, hm⟩ := run_append_all (W.alloc (.cells #[.int .u8 (s : Int)] 5)) 23 v ls [s] (owns_keep h.owns hka (fun _ _ h => h)) (by simp; omega) _ hs
  refine ⟨v', W', hr, ho, fun k e => ?_, ?_, fun x hx => ?_⟩
  · rcases hm with e' | ⟨j, e', hj⟩
    · rw [e'] at e; exact h.new k e
    · rw [e'] at e; cases e; rw [World.size_alloc] at hj; have := h.keep.size; omega
  · exact (h.keep.trans' hka).trans hk (fun i hi e => by have := h.new i e; omega)
  · rcases List.mem_append.1 hx with hx | hx
    · exact h.mem x hx
    · obtain rfl := List.mem_singleton.1 hx; exact ⟨h1, h2⟩

set_option maxRecDepth 100000 in
set_option maxHeartbeats 1000000 in
theorem statesCarry_bad (a : Option Addr) (cap gb off : Nat) (xs : List Int) (log : Int) (v2 : Value) (w : World) (h : RowI w .i16 a cap gb off xs) (hx : I16 xs) (hb : okT xs log = false) :
    Calls Try.prog 6 #[.slice a xs.length cap, .int .i64 log, v2] w fun e w' => e = .returned (.bool true) ∧ Keep noBlock w w' := by
  have H1 := (show Hid (∀ W, RowI W .i16 a cap gb off xs → _) from fun W h => table_bad a cap gb off xs log W h hx hb)
  have HR := (show Hid (RowI w .i16 a cap gb off xs) from h)
  generalize xs.length = n at *
  clear h
  go_enter Try.func6, Try.ntmps6
  go_wp2_with fail
  refine (H1.out _ HR.out).mono ?_
  rintro e w1 ⟨rfl, rfl⟩
  go_wp2_with fail
  refine (wakes_any _).mono ?_
  rintro e w6 ⟨rfl, hk⟩
  go_wp2_with fail
  go_ret
  exact ⟨rfl, hk⟩

end Go.Proofs.Ytoffnhbopjaocaa
