/-
  Write: the word of a symbol, its highest bit first.
-/
import Derived.Test.YtapcohpagipkpaaTurn
import Derived.Test.YtapcohpagipkpaaWrite
namespace Go.Proofs.Ytapcohpagipkpaa
open Go.RowKit Go.Shelf

attribute [local go_sem] Oper.semAt_some

theorem boxes4q (w : World) (o0 o1 o2 o3 : Obj) :
    ((((w.alloc o0).alloc o1).alloc o2).alloc o3).heap[w.heap.size]? = some o0 ∧ ((((w.alloc o0).alloc o1).alloc o2).alloc o3).heap[w.heap.size + 1]? = some o1 ∧
    ((((w.alloc o0).alloc o1).alloc o2).alloc o3).heap[w.heap.size + 1 + 1]? = some o2 ∧ ((((w.alloc o0).alloc o1).alloc o2).alloc o3).heap[w.heap.size + 1 + 1 + 1]? = some o3 ∧
    ((((w.alloc o0).alloc o1).alloc o2).alloc o3).heap.size = w.heap.size + 4 ∧ Keep noBlock w ((((w.alloc o0).alloc o1).alloc o2).alloc o3) := by
  obtain ⟨b0, b1, b2, bz, bk⟩ := boxes3 w o0 o1 o2
  have e3 := World.alloc_heap_new (((w.alloc o0).alloc o1).alloc o2) o3
  rw [bz] at e3
  exact ⟨alloc_far b0 _, alloc_far b1 _, alloc_far b2 _, e3, by rw [World.size_alloc, bz], bk.alloc _⟩

set_option maxRecDepth 100000 in
set_option maxHeartbeats 1000000 in
/-- Write by lengths that make no code. -/
theorem write_bad (wb : Nat) (a : Option Addr) (cap gb off : Nat) (s : Int) (xs : List Nat) (w : World) (hR : Row w .u8 a cap gb off xs) (hl : xs.length ≤ 1024) (hbad : isCode xs = false) :
    Calls Try.prog 11 #[.pointer (some ⟨wb, 0, none⟩), .slice a xs.length cap, .int .i64 s] w fun e w' => e = .returned (.int .i64 50) ∧ Keep noBlock w w' := by
  obtain ⟨b0, b1, b2, b3, bz, bk⟩ := boxes4q w (Obj.cells #[Value.pointer (some ⟨wb, 0, none⟩)] 29) (Obj.cells #[Value.slice a xs.length cap] 22) (Obj.cells #[Value.int IntKind.i64 s] 3) (Obj.cells #[Value.int IntKind.i64 0] 25)
  have hT := tally_any a cap gb off xs _ (hR.keep bk (fun _ h => h)) hl
  rw [hbad] at hT
  have HT := (show Hid (∀ u : Unit, Calls Try.prog 26 _ _ _) from fun _ => hT)
  have HK := (show Hid (Keep noBlock w _ ∧ _) from ⟨bk, b3⟩)
  clear hT bk hR b0 b1 b2 b3 bz
  refine (callsIn_wide (n := 4)).1 ?_
  refine callsIn_of_wp_marks Try.func11 rfl trivial ?_ rfl
  simp only [Try.ntmps11, List.size_toArray, List.length_cons, List.length_nil, Nat.reduceAdd, Nat.reduceSub, Array.replicate_succ, Array.replicate_zero, List.push_toArray, List.append_toArray, List.nil_append, List.cons_append]
  gi_wp2_with (refine ⟨trivial, ?_⟩; gi_at_call 26; refine (callsIn_wide.2 (HT.out ())).mono ?_; rintro e w1 ⟨c, rfl, hc, hk⟩; rw [arr16_lit c]; have h3 := hk.obj HK.out.2 (fun h => h); have c3 : ∀ o : Obj, (w1.alloc o).cell? ⟨w.heap.size + 1 + 1 + 1, 0, none⟩ = some (.int .i64 0) := fun o => cell_of (alloc_far h3 o) 0; have z3 : ∀ o : Obj, (w1.alloc o).frozen? ⟨w.heap.size + 1 + 1 + 1, 0, none⟩ = false := fun o => frozen_of (alloc_far h3 o) 0)
  have hw3 := (set_obj (alloc_far h3 (Obj.cells #[.int .i64 (c 0 : Int), .int .i64 (c 1 : Int), .int .i64 (c 2 : Int), .int .i64 (c 3 : Int), .int .i64 (c 4 : Int), .int .i64 (c 5 : Int), .int .i64 (c 6 : Int), .int .i64 (c 7 : Int), .int .i64 (c 8 : Int), .int .i64 (c 9 : Int), .int .i64 (c 10 : Int), .int .i64 (c 11 : Int), .int .i64 (c 12 : Int), .int .i64 (c 13 : Int), .int .i64 (c 14 : Int), .int .i64 (c 15 : Int)] 63)) 0 (.int .i64 50)).trans (by simp; rfl)
  exact ⟨_, results_cell rfl _ _ _ ⟨w.heap.size + 1 + 1 + 1, 0, none⟩ (.int .i64 50) rfl (loadVar25 (cell_of hw3 0)), rfl, Keep.setCell ((HK.out.1.trans' hk).alloc _) (fun h => by dsimp only at h; omega) _⟩

set_option maxRecDepth 100000 in
set_option maxHeartbeats 1000000 in
/-- Write by too many lengths. -/
theorem write_far (wb : Nat) (a : Option Addr) (cap n : Nat) (s : Int) (w : World) (hl : 1024 < n) :
    Calls Try.prog 11 #[.pointer (some ⟨wb, 0, none⟩), .slice a n cap, .int .i64 s] w fun e w' => e = .returned (.int .i64 50) ∧ Keep noBlock w w' := by
  obtain ⟨b0, b1, b2, b3, bz, bk⟩ := boxes4q w (Obj.cells #[Value.pointer (some ⟨wb, 0, none⟩)] 29) (Obj.cells #[Value.slice a n cap] 22) (Obj.cells #[Value.int IntKind.i64 s] 3) (Obj.cells #[Value.int IntKind.i64 0] 25)
  have hT := tally_far a cap n (((((w.alloc (Obj.cells #[Value.pointer (some ⟨wb, 0, none⟩)] 29)).alloc (Obj.cells #[Value.slice a n cap] 22)).alloc (Obj.cells #[Value.int IntKind.i64 s] 3)).alloc (Obj.cells #[Value.int IntKind.i64 0] 25))) hl
  have HT := (show Hid (∀ u : Unit, Calls Try.prog 26 _ _ _) from fun _ => hT)
  have HK := (show Hid (Keep noBlock w _ ∧ _) from ⟨bk, b3⟩)
  clear hT bk b0 b1 b2 b3 bz
  refine (callsIn_wide (n := 4)).1 ?_
  refine callsIn_of_wp_marks Try.func11 rfl trivial ?_ rfl
  simp only [Try.ntmps11, List.size_toArray, List.length_cons, List.length_nil, Nat.reduceAdd, Nat.reduceSub, Array.replicate_succ, Array.replicate_zero, List.push_toArray, List.append_toArray, List.nil_append, List.cons_append]
  gi_wp2_with (refine ⟨trivial, ?_⟩; gi_at_call 26; refine (callsIn_wide.2 (HT.out ())).mono ?_; rintro e w1 ⟨c, rfl, hk⟩; rw [arr16_lit c]; have h3 := hk.obj HK.out.2 (fun h => h); have c3 : ∀ o : Obj, (w1.alloc o).cell? ⟨w.heap.size + 1 + 1 + 1, 0, none⟩ = some (.int .i64 0) := fun o => cell_of (alloc_far h3 o) 0; have z3 : ∀ o : Obj, (w1.alloc o).frozen? ⟨w.heap.size + 1 + 1 + 1, 0, none⟩ = false := fun o => frozen_of (alloc_far h3 o) 0)
  have hw3 := (set_obj (alloc_far h3 (Obj.cells #[.int .i64 (c 0 : Int), .int .i64 (c 1 : Int), .int .i64 (c 2 : Int), .int .i64 (c 3 : Int), .int .i64 (c 4 : Int), .int .i64 (c 5 : Int), .int .i64 (c 6 : Int), .int .i64 (c 7 : Int), .int .i64 (c 8 : Int), .int .i64 (c 9 : Int), .int .i64 (c 10 : Int), .int .i64 (c 11 : Int), .int .i64 (c 12 : Int), .int .i64 (c 13 : Int), .int .i64 (c 14 : Int), .int .i64 (c 15 : Int)] 63)) 0 (.int .i64 50)).trans (by simp; rfl)
  exact ⟨_, results_cell rfl _ _ _ ⟨w.heap.size + 1 + 1 + 1, 0, none⟩ (.int .i64 50) rfl (loadVar25 (cell_of hw3 0)), rfl, Keep.setCell ((HK.out.1.trans' hk).alloc _) (fun h => by dsimp only at h; omega) _⟩

set_option maxRecDepth 100000 in
set_option maxHeartbeats 1000000 in
/-- Write of a symbol below 0. -/
theorem write_neg (wb : Nat) (a : Option Addr) (cap gb off : Nat) (s : Int) (xs : List Nat) (w : World) (hR : Row w .u8 a cap gb off xs) (hl : xs.length ≤ 1024) (hgood : isCode xs = true) (hs : s < 0) :
    Calls Try.prog 11 #[.pointer (some ⟨wb, 0, none⟩), .slice a xs.length cap, .int .i64 s] w fun e w' => e = .returned (.int .i64 2) ∧ Keep noBlock w w' := by
  obtain ⟨b0, b1, b2, b3, bz, bk⟩ := boxes4q w (Obj.cells #[Value.pointer (some ⟨wb, 0, none⟩)] 29) (Obj.cells #[Value.slice a xs.length cap] 22) (Obj.cells #[Value.int IntKind.i64 s] 3) (Obj.cells #[Value.int IntKind.i64 0] 25)
  have hT := tally_any a cap gb off xs _ (hR.keep bk (fun _ h => h)) hl
  rw [hgood] at hT
  have hd : decide (s < 0) = true := decide_eq_true hs
  have HT := (show Hid (∀ u : Unit, Calls Try.prog 26 _ _ _) from fun _ => hT)
  have HK := (show Hid (Keep noBlock w _ ∧ _ ∧ _ ∧ _) from ⟨bk, b3, b1, b2⟩)
  clear hT bk hR b0 b1 b2 b3 bz
  refine (callsIn_wide (n := 4)).1 ?_
  refine callsIn_of_wp_marks Try.func11 rfl trivial ?_ rfl
  simp only [Try.ntmps11, List.size_toArray, List.length_cons, List.length_nil, Nat.reduceAdd, Nat.reduceSub, Array.replicate_succ, Array.replicate_zero, List.push_toArray, List.append_toArray, List.nil_append, List.cons_append]
  gi_wp2_with (refine ⟨trivial, ?_⟩; gi_at_call 26; refine (callsIn_wide.2 (HT.out ())).mono ?_; rintro e w1 ⟨c, rfl, hc, hk⟩; obtain rfl : c = many xs := (by first | exact hc rfl | exact hc trivial); rw [arr16_lit (many xs)]; have h1 := hk.obj HK.out.2.2.1 (fun h => h); have h2 := hk.obj HK.out.2.2.2 (fun h => h); have c1 : ∀ o : Obj, (w1.alloc o).cell? ⟨w.heap.size + 1, 0, none⟩ = some (.slice a xs.length cap) := fun o => cell_of (alloc_far h1 o) 0; have c2 : ∀ o : Obj, (w1.alloc o).cell? ⟨w.heap.size + 1 + 1, 0, none⟩ = some (.int .i64 s) := fun o => cell_of (alloc_far h2 o) 0; have h3 := hk.obj HK.out.2.1 (fun h => h); have c3 : ∀ o : Obj, (w1.alloc o).cell? ⟨w.heap.size + 1 + 1 + 1, 0, none⟩ = some (.int .i64 0) := fun o => cell_of (alloc_far h3 o) 0; have z3 : ∀ o : Obj, (w1.alloc o).frozen? ⟨w.heap.size + 1 + 1 + 1, 0, none⟩ = false := fun o => frozen_of (alloc_far h3 o) 0)
  have hw3 := (set_obj (alloc_far h3 (Obj.cells #[.int .i64 (many xs 0 : Int), .int .i64 (many xs 1 : Int), .int .i64 (many xs 2 : Int), .int .i64 (many xs 3 : Int), .int .i64 (many xs 4 : Int), .int .i64 (many xs 5 : Int), .int .i64 (many xs 6 : Int), .int .i64 (many xs 7 : Int), .int .i64 (many xs 8 : Int), .int .i64 (many xs 9 : Int), .int .i64 (many xs 10 : Int), .int .i64 (many xs 11 : Int), .int .i64 (many xs 12 : Int), .int .i64 (many xs 13 : Int), .int .i64 (many xs 14 : Int), .int .i64 (many xs 15 : Int)] 63)) 0 (.int .i64 2)).trans (by simp; rfl)
  exact ⟨_, results_cell rfl _ _ _ ⟨w.heap.size + 1 + 1 + 1, 0, none⟩ (.int .i64 2) rfl (loadVar25 (cell_of hw3 0)), rfl, Keep.setCell ((HK.out.1.trans' hk).alloc _) (fun h => by dsimp only at h; omega) _⟩

set_option maxRecDepth 100000 in
set_option maxHeartbeats 1000000 in
/-- Write of a symbol that is none. -/
theorem write_big (wb : Nat) (a : Option Addr) (cap gb off : Nat) (s : Int) (xs : List Nat) (w : World) (hR : Row w .u8 a cap gb off xs) (hl : xs.length ≤ 1024) (hgood : isCode xs = true) (hs : (xs.length : Int) ≤ s) :
    Calls Try.prog 11 #[.pointer (some ⟨wb, 0, none⟩), .slice a xs.length cap, .int .i64 s] w fun e w' => e = .returned (.int .i64 2) ∧ Keep noBlock w w' := by
  obtain ⟨b0, b1, b2, b3, bz, bk⟩ := boxes4q w (Obj.cells #[Value.pointer (some ⟨wb, 0, none⟩)] 29) (Obj.cells #[Value.slice a xs.length cap] 22) (Obj.cells #[Value.int IntKind.i64 s] 3) (Obj.cells #[Value.int IntKind.i64 0] 25)
  have hT := tally_any a cap gb off xs _ (hR.keep bk (fun _ h => h)) hl
  rw [hgood] at hT
  have hs0 : ¬ s < 0 := by omega
  have hd : decide (s < 0) = false := decide_eq_false hs0
  have hd2 : decide ((xs.length : Int) ≤ s) = true := decide_eq_true hs
  have HT := (show Hid (∀ u : Unit, Calls Try.prog 26 _ _ _) from fun _ => hT)
  have HK := (show Hid (Keep noBlock w _ ∧ _ ∧ _ ∧ _) from ⟨bk, b3, b1, b2⟩)
  clear hT bk hR b0 b1 b2 b3 bz
  refine (callsIn_wide (n := 4)).1 ?_
  refine callsIn_of_wp_marks Try.func11 rfl trivial ?_ rfl
  simp only [Try.ntmps11, List.size_toArray, List.length_cons, List.length_nil, Nat.reduceAdd, Nat.reduceSub, Array.replicate_succ, Array.replicate_zero, List.push_toArray, List.append_toArray, List.nil_append, List.cons_append]
  gi_wp2_with (refine ⟨trivial, ?_⟩; gi_at_call 26; refine (callsIn_wide.2 (HT.out ())).mono ?_; rintro e w1 ⟨c, rfl, hc, hk⟩; obtain rfl : c = many xs := (by first | exact hc rfl | exact hc trivial); rw [arr16_lit (many xs)]; have h1 := hk.obj HK.out.2.2.1 (fun h => h); have h2 := hk.obj HK.out.2.2.2 (fun h => h); have c1 : ∀ o : Obj, (w1.alloc o).cell? ⟨w.heap.size + 1, 0, none⟩ = some (.slice a xs.length cap) := fun o => cell_of (alloc_far h1 o) 0; have c2 : ∀ o : Obj, (w1.alloc o).cell? ⟨w.heap.size + 1 + 1, 0, none⟩ = some (.int .i64 s) := fun o => cell_of (alloc_far h2 o) 0; have h3 := hk.obj HK.out.2.1 (fun h => h); have c3 : ∀ o : Obj, (w1.alloc o).cell? ⟨w.heap.size + 1 + 1 + 1, 0, none⟩ = some (.int .i64 0) := fun o => cell_of (alloc_far h3 o) 0; have z3 : ∀ o : Obj, (w1.alloc o).frozen? ⟨w.heap.size + 1 + 1 + 1, 0, none⟩ = false := fun o => frozen_of (alloc_far h3 o) 0)
  have hw3 := (set_obj (alloc_far h3 (Obj.cells #[.int .i64 (many xs 0 : Int), .int .i64 (many xs 1 : Int), .int .i64 (many xs 2 : Int), .int .i64 (many xs 3 : Int), .int .i64 (many xs 4 : Int), .int .i64 (many xs 5 : Int), .int .i64 (many xs 6 : Int), .int .i64 (many xs 7 : Int), .int .i64 (many xs 8 : Int), .int .i64 (many xs 9 : Int), .int .i64 (many xs 10 : Int), .int .i64 (many xs 11 : Int), .int .i64 (many xs 12 : Int), .int .i64 (many xs 13 : Int), .int .i64 (many xs 14 : Int), .int .i64 (many xs 15 : Int)] 63)) 0 (.int .i64 2)).trans (by simp; rfl)
  exact ⟨_, results_cell rfl _ _ _ ⟨w.heap.size + 1 + 1 + 1, 0, none⟩ (.int .i64 2) rfl (loadVar25 (cell_of hw3 0)), rfl, Keep.setCell ((HK.out.1.trans' hk).alloc _) (fun h => by dsimp only at h; omega) _⟩

end Go.Proofs.Ytapcohpagipkpaa
