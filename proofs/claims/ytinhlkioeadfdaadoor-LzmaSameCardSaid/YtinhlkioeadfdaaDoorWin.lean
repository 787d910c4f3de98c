/-
  A window: what it holds, and its calls that put nothing.
-/
import Derived.Test.YtinhlkioeadfdaaDoorActs
import Derived.Test.YtinhlkioeadfdaaDoorSl
namespace Go.Proofs.YtinhlkioeadfdaaDoor
open Go.RowKit Go.Shelf
set_option linter.unusedVariables false

/-- Block wb is a window: its size, its ledger, its ring. -/
structure IsR (w : World) (wb lb s : Nat) (rv : Value) (R : List Nat) (o : Nat) : Prop where
  obj : w.heap[wb]? = some (.cells #[.int .i64 (s : Int), .pointer (some ⟨lb, 0, none⟩), rv, .int .i64 (o : Int)] 75 (0, 0))
  own : w.ownsRow 0 5 1 rv R.length (u8s R)
  lt : ∀ j : Nat, R[j]?.getD 0 < 256
  s1 : 1 ≤ s
  s2 : s ≤ 16777216
  le : R.length ≤ s
  o_ : o < s
  rd : o = 0 ∨ R.length = s
theorem IsR.keep {w w' : World} {S : Nat → Prop} {wb lb s o : Nat} {rv : Value} {R : List Nat} (h : IsR w wb lb s rv R o) (hk : Keep S w w') (h1 : ¬ S wb) (h2 : ∀ g, rv.ownBlock = some g → ¬ S g) : IsR w' wb lb s rv R o :=
  ⟨hk.obj h.obj h1, owns_kept h.own hk h2, h.lt, h.s1, h.s2, h.le, h.o_, h.rd⟩
theorem IsR.drewN {w : World} {wb lb s o : Nat} {rv : Value} {R : List Nat} (h : IsR w wb lb s rv R o) (n : Nat) : IsR (w.drewN n) wb lb s rv R o :=
  h.keep (keep_drewN w n) (fun h => h) (fun _ _ h => h)
theorem IsR.form {w : World} {wb lb s o : Nat} {rv : Value} {R : List Nat} (h : IsR w wb lb s rv R o) : ∃ a cap g, rv = .slice a R.length cap ∧ Bytes w a cap g 0 R ∧ (a = none ∧ R = [] ∨ a = some ⟨g, 0, none⟩ ∧ ∃ cur, w.heap[g]? = some (.cells cur 5 (0, 0)) ∧ cur.size = cap ∧ cur.toList.take R.length = u8s R ∧ cap ≤ maxLen) :=
  bytes_own h.own h.lt (by have := h.le; have := h.s2; omega)
theorem IsR.ole {w : World} {wb lb s o : Nat} {rv : Value} {R : List Nat} (h : IsR w wb lb s rv R o) : o ≤ R.length := by
  have := h.o_; rcases h.rd with e | e <;> omega
/-- .. by the bytes that it holds, the oldest first. -/
def IsW (w : World) (wb lb s : Nat) (rv : Value) (M : List Nat) : Prop := ∃ R o, IsR w wb lb s rv R o ∧ unr R o = M
theorem IsW.keep {w w' : World} {S : Nat → Prop} {wb lb s : Nat} {rv : Value} {M : List Nat} (h : IsW w wb lb s rv M) (hk : Keep S w w') (h1 : ¬ S wb) (h2 : ∀ g, rv.ownBlock = some g → ¬ S g) : IsW w' wb lb s rv M := by
  obtain ⟨R, o, h, e⟩ := h
  exact ⟨R, o, h.keep hk h1 h2, e⟩
theorem IsW.len {w : World} {wb lb s : Nat} {rv : Value} {M : List Nat} (h : IsW w wb lb s rv M) : M.length ≤ s ∧ 1 ≤ s ∧ s ≤ 16777216 := by
  obtain ⟨R, o, h, e⟩ := h
  subst e
  rw [unr_length]
  exact ⟨h.le, h.s1, h.s2⟩
theorem IsW.lt {w : World} {wb lb s : Nat} {rv : Value} {M : List Nat} (h : IsW w wb lb s rv M) : ∀ j : Nat, M[j]?.getD 0 < 256 := by
  obtain ⟨R, o, h, e⟩ := h
  subst e
  exact lt_app (lt_drop h.lt _) (lt_take h.lt _)
theorem IsW.block {w : World} {wb lb s : Nat} {rv : Value} {M : List Nat} (h : IsW w wb lb s rv M) : wb < w.heap.size := by
  obtain ⟨R, o, h, e⟩ := h
  exact obj_lt h.obj
theorem IsW.ring_ne {w : World} {wb lb s : Nat} {rv : Value} {M : List Nat} (h : IsW w wb lb s rv M) {b : Nat} {cs : Array Value} {t : Nat} (ho : w.heap[b]? = some (.cells cs t (0, 0))) (ht : t ≠ 5) : rv.ownBlock ≠ some b := by
  obtain ⟨R, o, h, e⟩ := h
  exact owns_ne h.own ho ht
theorem IsW.ring_lt {w : World} {wb lb s : Nat} {rv : Value} {M : List Nat} (h : IsW w wb lb s rv M) {g : Nat} (hg : rv.ownBlock = some g) : g < w.heap.size := by
  obtain ⟨R, o, h, e⟩ := h
  rcases h.own.2 with ⟨rfl, _⟩ | ⟨g', cap, cur, rfl, _, hh, _⟩
  · cases hg
  · obtain rfl : g' = g := by simpa [Value.ownBlock] using hg
    exact obj_lt hh
/-- Block wb is a window that was dropped. -/
def IsDrop (w : World) (wb : Nat) : Prop := w.heap[wb]? = some (.cells #[.int .i64 0, .pointer none, .slice none 0 0, .int .i64 0] 75 (0, 0))

set_option maxHeartbeats 1000000 in
theorem place_any (wb lb s o : Nat) (rv : Value) (R : List Nat) (back : Nat) (w : World) (h : IsR w wb lb s rv R o) (h1 : 1 ≤ back) (h2 : back ≤ R.length) :
    Calls Tryd.prog 69 #[.pointer (some ⟨wb, 0, none⟩), .int .i64 (back : Int)] w fun e w' => e = .returned (.int .i64 ((place R.length o back : Nat) : Int)) ∧ ∃ n, w' = w.drewN n := by
  obtain ⟨a, cap, g, rfl, -, -⟩ := h.form
  have c2 : w.cell? ⟨wb, 2, none⟩ = some (.slice a R.length cap) := cell_of h.obj 2
  have c3 : w.cell? ⟨wb, 3, none⟩ = some (.int .i64 (o : Int)) := cell_of h.obj 3
  have hle := h.le
  have hs2 := h.s2
  have ho := h.o_
  obtain ⟨p, hpe⟩ : ∃ p, p = place R.length o back := ⟨_, rfl⟩
  have hp : if back ≤ o then (o : Int) - back = (p : Int) else (o : Int) - back + R.length = (p : Int) := by rw [hpe]; unfold place; by_cases hb : back ≤ o <;> simp only [hb, if_true, if_false] <;> omega
  rw [← hpe]
  clear h hpe
  by_cases hb : back ≤ o
  · rw [if_pos hb] at hp
    have hbI : (back : Int) ≤ (o : Int) := by omega
    go_enter Tryd.func69, Tryd.ntmps69
    go_wp2_with fail
    go_ret
    exact ⟨rfl, 0, rfl⟩
  · rw [if_neg hb] at hp
    have hbI : ¬ (back : Int) ≤ (o : Int) := by omega
    go_enter Tryd.func69, Tryd.ntmps69
    go_wp2_with fail
    go_quiet (fail)
    go_wp2_with fail
    go_ret
    exact ⟨rfl, _, rfl⟩

set_option maxHeartbeats 1000000 in
theorem reaches_cell (wb : Nat) (a : Option Addr) (n cap : Nat) (back : Int) (w : World) (c2 : w.cell? ⟨wb, 2, none⟩ = some (.slice a n cap)) :
    Calls Tryd.prog 61 #[.pointer (some ⟨wb, 0, none⟩), .int .i64 back] w fun e w' => e = .returned (.bool (decide (1 ≤ back ∧ back ≤ n))) ∧ w' = w := by
  by_cases h1 : 1 ≤ back
  · by_cases h2 : back ≤ n
    · have e : decide (1 ≤ back ∧ back ≤ (n : Int)) = true := decide_eq_true ⟨h1, h2⟩
      rw [e]
      go_enter Tryd.func61, Tryd.ntmps61
      go_wp2_with fail
      go_ret
      exact ⟨rfl, rfl⟩
    · have e : decide (1 ≤ back ∧ back ≤ (n : Int)) = false := decide_eq_false (fun h => h2 h.2)
      rw [e]
      go_enter Tryd.func61, Tryd.ntmps61
      go_wp2_with fail
      go_ret
      exact ⟨rfl, rfl⟩
  · have e : decide (1 ≤ back ∧ back ≤ (n : Int)) = false := decide_eq_false (fun h => h1 h.1)
    rw [e]
    go_enter Tryd.func61, Tryd.ntmps61
    go_wp2_with fail
    go_ret
    exact ⟨rfl, rfl⟩

set_option maxHeartbeats 1000000 in
theorem at_ok (wb lb s : Nat) (rv : Value) (M : List Nat) (back : Nat) (w : World) (h : IsW w wb lb s rv M) (h1 : 1 ≤ back) (h2 : back ≤ M.length) :
    Calls Tryd.prog 54 #[.pointer (some ⟨wb, 0, none⟩), .int .i64 (back : Int)] w fun e w' => e = .returned (.tuple #[.int .u8 ((M[M.length - back]?.getD 0 : Nat) : Int), .bool true]) ∧ ∃ n, w' = w.drewN n := by
  obtain ⟨R, o, h, rfl⟩ := h
  rw [unr_length] at h2 ⊢
  obtain ⟨a, cap, g, rfl, hB, -⟩ := h.form
  have c2 : w.cell? ⟨wb, 2, none⟩ = some (.slice a R.length cap) := cell_of h.obj 2
  have HP := fun n : Nat => place_any wb lb s o _ R back (w.drewN n) (h.drewN n) h1 h2
  have hr := reaches_cell wb a R.length cap (back : Int) w c2
  rw [decide_eq_true (show 1 ≤ (back : Int) ∧ (back : Int) ≤ (R.length : Int) by omega)] at hr
  have hpl := place_lt R.length o back h.ole h1 h2
  have hpa := place_at R o back h.ole h1 h2
  have hle := h.le
  have hs2 := h.s2
  have hc := hB.cells (place R.length o back) hpl
  rw [hpa] at hc
  obtain rfl : a = some ⟨g, 0, none⟩ := hB.at_.resolve_right (by rintro rfl; simp at hpl)
  generalize place R.length o back = p at HP hpl hc
  generalize (unr R o)[R.length - back]?.getD 0 = x at hc
  rw [Nat.zero_add] at hc
  generalize R.length = n at *
  have hpI : (p : Int) < (n : Int) := by omega
  clear h hB hpa
  go_enter Tryd.func54, Tryd.ntmps54
  go_wp2_with fail
  refine hr.mono ?_
  rintro e w1 ⟨rfl, rfl⟩
  clear hr
  go_wp2_with fail
  go_quiet (first | (go_at_call 69; refine Calls.quiet_of (HP _)))
  go_wp2_with fail
  go_ret2
  exact ⟨rfl, _, rfl⟩

set_option maxHeartbeats 1000000 in
theorem at_none (wb : Nat) (a : Option Addr) (n cap : Nat) (back : Int) (w : World) (c2 : w.cell? ⟨wb, 2, none⟩ = some (.slice a n cap)) (hb : ¬ (1 ≤ back ∧ back ≤ (n : Int))) :
    Calls Tryd.prog 54 #[.pointer (some ⟨wb, 0, none⟩), .int .i64 back] w fun e w' => e = .returned (.tuple #[.int .u8 0, .bool false]) ∧ w' = w := by
  have hr := reaches_cell wb a n cap back w c2
  rw [decide_eq_false hb] at hr
  go_enter Tryd.func54, Tryd.ntmps54
  go_wp2_with fail
  refine hr.mono ?_
  rintro e w1 ⟨rfl, rfl⟩
  go_wp2_with fail
  go_ret2
  exact ⟨rfl, rfl⟩

/-! Of none. -/
set_option maxHeartbeats 1000000 in
theorem at_nil (back : Int) (w : World) : Calls Tryd.prog 54 #[.pointer none, .int .i64 back] w fun e w' => e = .returned (.tuple #[.int .u8 0, .bool false]) ∧ w' = w := by
  go_enter Tryd.func54, Tryd.ntmps54
  go_wp2_with fail
  go_ret2
  exact ⟨rfl, rfl⟩
set_option maxHeartbeats 1000000 in
theorem put_nil (v : Value) (w : World) : Calls Tryd.prog 49 #[.pointer none, v] w fun e w' => e = .returned (.tuple #[]) ∧ w' = w := by
  go_enter Tryd.func49, Tryd.ntmps49
  go_wp2_with fail
  (try simp only [Exit.inBlock, Exit.then]); refine bodyPost_ret (results_none rfl _ _ _) rfl ?_
  exact ⟨rfl, rfl⟩
set_option maxHeartbeats 1000000 in
theorem copy_nil (back n : Int) (w : World) : Calls Tryd.prog 39 #[.pointer none, .int .i64 back, .int .i64 n] w fun e w' => e = .returned (.tuple #[.slice none 0 0, .int .i64 1]) ∧ w' = w := by
  go_enter Tryd.func39, Tryd.ntmps39
  go_wp2_with fail
  go_ret2
  exact ⟨rfl, rfl⟩

/-! Of one that was dropped. -/
set_option maxHeartbeats 1000000 in
theorem put_gone (wb : Nat) (v : Value) (w : World) (h : IsDrop w wb) : Calls Tryd.prog 49 #[.pointer (some ⟨wb, 0, none⟩), v] w fun e w' => e = .returned (.tuple #[]) ∧ w' = w := by
  have c0 : w.cell? ⟨wb, 0, none⟩ = some (.int .i64 0) := cell_of h 0
  go_enter Tryd.func49, Tryd.ntmps49
  go_wp2_with fail
  (try simp only [Exit.inBlock, Exit.then]); refine bodyPost_ret (results_none rfl _ _ _) rfl ?_
  exact ⟨rfl, rfl⟩
set_option maxHeartbeats 1000000 in
theorem copy_gone (wb : Nat) (back n : Int) (w : World) (h : IsDrop w wb) : Calls Tryd.prog 39 #[.pointer (some ⟨wb, 0, none⟩), .int .i64 back, .int .i64 n] w fun e w' => e = .returned (.tuple #[.slice none 0 0, .int .i64 5]) ∧ w' = w := by
  have c0 : w.cell? ⟨wb, 0, none⟩ = some (.int .i64 0) := cell_of h 0
  go_enter Tryd.func39, Tryd.ntmps39
  go_wp2_with fail
  go_ret2
  exact ⟨rfl, rfl⟩

end Go.Proofs.YtinhlkioeadfdaaDoor
