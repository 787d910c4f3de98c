/-
  CanonNil answers true for every input, and its arguments read afterwards as they read before: nobody reads and writes nothing. No condition.
-/
import Derived.Test.YtapcohpagipkpaaAwake
import Derived.Scope
namespace Go.Proofs.Ytapcohpagipkpaa
open Go.RowKit Go.Shelf

attribute [local go_sem] Oper.semAt_some

theorem results_cell {fn : Func} {a : Tmp} {t : TypeId} (h : fn.results = #[.cell a t]) (tmps : Array Value) (P : Program) (w : World) (p : Addr) (v : Value) (ha : tmps[a]?.getD undef = .pointer (some p)) (hv : (loadVar t p).run P w = .ok v w) :
    (results fn tmps).run P w = .ok v w := by
  simp [results, h, ha, asAddr, hv]

/-- A scope that no goto jumps in. -/
theorem scope_wide {n : Nat} {P : Program} {c : Code} {Q : Exit → Act → World → Prop} {a : Act} {w : World} (h : c.wpIn Fence.wide n P (Exit.noGoto Q) a w) : (Code.scope c).wpIn Fence.wide n P Q a w :=
  wpIn_wide.2 (wp_scope_straight (wpIn_wide.1 h))

set_option maxRecDepth 100000 in
set_option maxHeartbeats 1000000 in
theorem read_nil (a : Option Addr) (n cap : Nat) (w : World) :
    Calls Try.prog 16 #[.pointer none, .slice a n cap] w fun e w' => e = .returned (.tuple #[.int .i64 0, .int .i64 1]) ∧ Keep noBlock w w' := by
  refine (callsIn_wide (n := 4)).1 ?_
  refine callsIn_of_wp_marks Try.func16 rfl trivial ?_ rfl
  simp only [Try.ntmps16, List.size_toArray, List.length_cons, List.length_nil, Nat.reduceAdd, Nat.reduceSub, Array.replicate_succ, Array.replicate_zero, List.push_toArray, List.append_toArray, List.nil_append, List.cons_append]
  gi_wp2
  refine scope_wide ?_
  gi_wp2
  exact ⟨_, results_tmp2 rfl _ _ _, rfl, ((Keep.refl _ w).alloc _).alloc _⟩

theorem agg25 : ∀ w, (isAgg 25).run Try.prog w = .ok false w := by intro w; kernel_rfl
theorem loadVar25 {w : World} {p : Addr} {v : Value} (h : w.cell? p = some v) : (loadVar 25 p).run Try.prog w = .ok v w := by
  simp only [loadVar, Sem.run_bind, agg25, Result.andThen]
  simp [run_load, h]

set_option maxRecDepth 100000 in
set_option maxHeartbeats 1000000 in
theorem write_nil (a : Option Addr) (n cap : Nat) (s : Int) (w : World) :
    Calls Try.prog 11 #[.pointer none, .slice a n cap, .int .i64 s] w fun e w' => e = .returned (.int .i64 1) ∧ Keep noBlock w w' := by
  refine (callsIn_wide (n := 4)).1 ?_
  refine callsIn_of_wp_marks Try.func11 rfl trivial ?_ rfl
  simp only [Try.ntmps11, List.size_toArray, List.length_cons, List.length_nil, Nat.reduceAdd, Nat.reduceSub, Array.replicate_succ, Array.replicate_zero, List.push_toArray, List.append_toArray, List.nil_append, List.cons_append]
  gi_wp2
  have hn : ((((w.alloc (Obj.cells #[Value.pointer none] 29)).alloc (Obj.cells #[Value.slice a n cap] 22)).alloc (Obj.cells #[Value.int IntKind.i64 s] 3)).alloc (Obj.cells #[Value.int IntKind.i64 1] 25)).heap[w.heap.size + 1 + 1 + 1]? = some (.cells #[Value.int IntKind.i64 1] 25 (0, 0)) := by
    have := World.alloc_heap_new (((w.alloc (Obj.cells #[Value.pointer none] 29)).alloc (Obj.cells #[Value.slice a n cap] 22)).alloc (Obj.cells #[Value.int IntKind.i64 s] 3)) (Obj.cells #[Value.int IntKind.i64 1] 25)
    simpa using this
  exact ⟨_, results_cell rfl _ _ _ ⟨w.heap.size + 1 + 1 + 1, 0, none⟩ (.int .i64 1) rfl (loadVar25 (cell_of hn 0)), rfl, ((((Keep.refl _ w).alloc _).alloc _).alloc _).alloc _⟩

set_option maxRecDepth 100000 in
set_option maxHeartbeats 1000000 in
theorem nil_walk (a : Option Addr) (n cap : Nat) (s : Int) (w : World) :
    Calls Try.prog 4 #[.slice a n cap, .int .i64 s] w fun e w' => e = .returned (.bool true) ∧ Keep noBlock w w' := by
  go_enter Try.func4, Try.ntmps4
  go_wp2_with fail
  refine (read_nil a n cap w).mono ?_
  rintro e w1 ⟨rfl, hk1⟩
  go_wp2_with fail
  refine (write_nil a n cap s w1).mono ?_
  rintro e w2 ⟨rfl, hk2⟩
  go_wp2_with fail
  refine (wakes_any w2).mono ?_
  rintro e w3 ⟨rfl, hk3⟩
  go_wp2
  go_ret
  exact ⟨rfl, (hk1.trans' hk2).trans' hk3⟩

end Go.Proofs.Ytapcohpagipkpaa
