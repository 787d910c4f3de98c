/-
  cmp.Compare at bytes and at numbers of 32 bits, and the two comparisons of places that package canon makes of it.
-/
import Derived.Test.YtapcohpagipkpaaInsert
namespace Go.Proofs.Ytapcohpagipkpaa
open Go.RowKit Go.Shelf

/-- The slice at a reads as the numbers xs of kind k, which lie in block gb from off on. -/
structure Row (w : World) (k : IntKind) (a : Option Addr) (cap gb off : Nat) (xs : List Nat) : Prop where
  at_ : a = some (⟨gb, off, none⟩ : Addr) ∨ xs = []
  cells : ∀ j, j < xs.length → w.cell? ⟨gb, off + j, none⟩ = some (.int k ((xs[j]?.getD 0 : Nat) : Int))
  le : xs.length ≤ cap
theorem Row.block {w : World} {k : IntKind} {a : Option Addr} {cap gb off : Nat} {xs : List Nat} (h : Row w k a cap gb off xs) (hb : xs ≠ []) : gb < w.heap.size :=
  World.block_lt_of_cell? w ⟨gb, off + 0, none⟩ (h.cells 0 (List.length_pos_iff.2 hb))
theorem Row.keep {w w' : World} {S : Nat → Prop} {k : IntKind} {a : Option Addr} {cap gb off : Nat} {xs : List Nat} (h : Row w k a cap gb off xs) (hk : Keep S w w') (hS : xs ≠ [] → ¬ S gb) : Row w' k a cap gb off xs :=
  ⟨h.at_, fun j hj => by
    have hne : xs ≠ [] := by rintro rfl; simp at hj
    exact (World.cell?_of_block (hk.block gb (h.block hne) (hS hne))).trans (h.cells j hj), h.le⟩
/-- The number at a place. -/
def numOf (xs : List Nat) (i : Nat) : Nat := xs[i]?.getD 0

set_option maxHeartbeats 400000 in
theorem isNaN8_any (x : Int) (w : World) : Calls Try.prog 60 #[.int .u8 x] w fun e w' => e = .returned (.bool false) ∧ w' = w := by
  have h : (x != x) = false := by simp
  go_enter Try.func60, Try.ntmps60
  go_wp2
  go_ret
  exact ⟨rfl, rfl⟩

set_option maxHeartbeats 400000 in
theorem compare8_any (x y : Nat) (w : World) : Calls Try.prog 44 #[.int .u8 (x : Int), .int .u8 (y : Int)] w fun e w' => e = .returned (.int .i64 (if x < y then -1 else if y < x then 1 else 0)) ∧ w' = w := by
  by_cases h1 : x < y
  · have h1' : (x : Int) < (y : Int) := by omega
    rw [if_pos h1]
    go_enter Try.func44, Try.ntmps44
    go_wp2_with (go_at_call 60; refine (isNaN8_any _ _).mono ?_; rintro e w' ⟨rfl, rfl⟩)
    go_ret
    exact ⟨rfl, rfl⟩
  · have h1' : ¬ (x : Int) < (y : Int) := by omega
    rw [if_neg h1]
    by_cases h2 : y < x
    · have h2' : (y : Int) < (x : Int) := by omega
      rw [if_pos h2]
      go_enter Try.func44, Try.ntmps44
      go_wp2_with (go_at_call 60; refine (isNaN8_any _ _).mono ?_; rintro e w' ⟨rfl, rfl⟩)
      go_ret
      exact ⟨rfl, rfl⟩
    · have h2' : ¬ (y : Int) < (x : Int) := by omega
      rw [if_neg h2]
      go_enter Try.func44, Try.ntmps44
      go_wp2_with (go_at_call 60; refine (isNaN8_any _ _).mono ?_; rintro e w' ⟨rfl, rfl⟩)
      go_ret
      exact ⟨rfl, rfl⟩

set_option maxHeartbeats 1000000 in
/-- The comparison of two places. -/
theorem places8_any (B cap gb off x y : Nat) (a : Option Addr) (xs : List Nat) (w : World) (hB : w.heap[B]? = some (.cells #[.slice a xs.length cap] 22 (0, 0))) (hR : Row w .u8 a cap gb off xs) (hx : x < xs.length) (hy : y < xs.length) :
    Calls Try.prog 43 #[.int .i64 (x : Int), .int .i64 (y : Int), .pointer (some ⟨B, 0, none⟩)] w fun e w' => e = .returned (.int .i64 (cmpOf (numOf xs) x y)) ∧ ∃ q, w' = w.drewN q := by
  have hc0 : w.cell? ⟨B, 0, none⟩ = some (.slice a xs.length cap) := cell_of hB 0
  obtain rfl : a = some ⟨gb, off, none⟩ := by
    rcases hR.at_ with h | h
    · exact h
    · rw [h] at hx; simp at hx
  have c1 := hR.cells x hx
  have c2 := hR.cells y hy
  have hq : ∀ W, _ := fun W => compare8_any (xs[x]?.getD 0) (xs[y]?.getD 0) W
  have hd : (if xs[x]?.getD 0 < xs[y]?.getD 0 then (-1 : Int) else if xs[y]?.getD 0 < xs[x]?.getD 0 then 1 else 0) = cmpOf (numOf xs) x y := rfl
  rw [hd] at hq
  generalize cmpOf (numOf xs) x y = cv at hq ⊢
  generalize xs[x]?.getD 0 = x1 at c1 hq
  generalize xs[y]?.getD 0 = x2 at c2 hq
  have HQ : Hid (∀ W, _) := hq
  clear hq hd hB hR
  have hxI : (x : Int) < (xs.length : Int) := by omega
  have hyI : (y : Int) < (xs.length : Int) := by omega
  go_enter Try.func43, Try.ntmps43
  go_wp2_with fail
  go_quiet (first | (go_at_call 44; refine Calls.quiet_of ((HQ.out _).mono (fun e w' h => ⟨h.1, 0, h.2⟩))))
  go_wp2
  go_ret
  exact ⟨rfl, nq, rfl⟩

theorem cmpOk8 (B cap gb off g : Nat) (a : Option Addr) (xs : List Nat) (w0 : World) (hB : w0.heap[B]? = some (.cells #[.slice a xs.length cap] 22 (0, 0))) (hR : Row w0 .u8 a cap gb off xs) (h1 : B ≠ g) (h2 : xs ≠ [] → gb ≠ g) : CmpOk w0 g xs.length (numOf xs) 43 B :=
  ⟨enters_of Try.func43 (by kernel_rfl) rfl, fun W hW x y hx hy => places8_any B cap gb off x y a xs W (hW.obj hB h1) (hR.keep hW h2) hx hy⟩

set_option maxHeartbeats 400000 in
theorem isNaN32_any (x : Int) (w : World) : Calls Try.prog 70 #[.int .u32 x] w fun e w' => e = .returned (.bool false) ∧ w' = w := by
  have h : (x != x) = false := by simp
  go_enter Try.func70, Try.ntmps70
  go_wp2
  go_ret
  exact ⟨rfl, rfl⟩

set_option maxHeartbeats 400000 in
theorem compare32_any (x y : Nat) (w : World) : Calls Try.prog 55 #[.int .u32 (x : Int), .int .u32 (y : Int)] w fun e w' => e = .returned (.int .i64 (if x < y then -1 else if y < x then 1 else 0)) ∧ w' = w := by
  by_cases h1 : x < y
  · have h1' : (x : Int) < (y : Int) := by omega
    rw [if_pos h1]
    go_enter Try.func55, Try.ntmps55
    go_wp2_with (go_at_call 70; refine (isNaN32_any _ _).mono ?_; rintro e w' ⟨rfl, rfl⟩)
    go_ret
    exact ⟨rfl, rfl⟩
  · have h1' : ¬ (x : Int) < (y : Int) := by omega
    rw [if_neg h1]
    by_cases h2 : y < x
    · have h2' : (y : Int) < (x : Int) := by omega
      rw [if_pos h2]
      go_enter Try.func55, Try.ntmps55
      go_wp2_with (go_at_call 70; refine (isNaN32_any _ _).mono ?_; rintro e w' ⟨rfl, rfl⟩)
      go_ret
      exact ⟨rfl, rfl⟩
    · have h2' : ¬ (y : Int) < (x : Int) := by omega
      rw [if_neg h2]
      go_enter Try.func55, Try.ntmps55
      go_wp2_with (go_at_call 70; refine (isNaN32_any _ _).mono ?_; rintro e w' ⟨rfl, rfl⟩)
      go_ret
      exact ⟨rfl, rfl⟩

set_option maxHeartbeats 1000000 in
/-- The comparison of two places. -/
theorem places32_any (B cap gb off x y : Nat) (a : Option Addr) (xs : List Nat) (w : World) (hB : w.heap[B]? = some (.cells #[.slice a xs.length cap] 54 (0, 0))) (hR : Row w .u32 a cap gb off xs) (hx : x < xs.length) (hy : y < xs.length) :
    Calls Try.prog 54 #[.int .i64 (x : Int), .int .i64 (y : Int), .pointer (some ⟨B, 0, none⟩)] w fun e w' => e = .returned (.int .i64 (cmpOf (numOf xs) x y)) ∧ ∃ q, w' = w.drewN q := by
  have hc0 : w.cell? ⟨B, 0, none⟩ = some (.slice a xs.length cap) := cell_of hB 0
  obtain rfl : a = some ⟨gb, off, none⟩ := by
    rcases hR.at_ with h | h
    · exact h
    · rw [h] at hx; simp at hx
  have c1 := hR.cells x hx
  have c2 := hR.cells y hy
  have hq : ∀ W, _ := fun W => compare32_any (xs[x]?.getD 0) (xs[y]?.getD 0) W
  have hd : (if xs[x]?.getD 0 < xs[y]?.getD 0 then (-1 : Int) else if xs[y]?.getD 0 < xs[x]?.getD 0 then 1 else 0) = cmpOf (numOf xs) x y := rfl
  rw [hd] at hq
  generalize cmpOf (numOf xs) x y = cv at hq ⊢
  generalize xs[x]?.getD 0 = x1 at c1 hq
  generalize xs[y]?.getD 0 = x2 at c2 hq
  have HQ : Hid (∀ W, _) := hq
  clear hq hd hB hR
  have hxI : (x : Int) < (xs.length : Int) := by omega
  have hyI : (y : Int) < (xs.length : Int) := by omega
  go_enter Try.func54, Try.ntmps54
  go_wp2_with fail
  go_quiet (first | (go_at_call 55; refine Calls.quiet_of ((HQ.out _).mono (fun e w' h => ⟨h.1, 0, h.2⟩))))
  go_wp2
  go_ret
  exact ⟨rfl, nq, rfl⟩

theorem cmpOk32 (B cap gb off g : Nat) (a : Option Addr) (xs : List Nat) (w0 : World) (hB : w0.heap[B]? = some (.cells #[.slice a xs.length cap] 54 (0, 0))) (hR : Row w0 .u32 a cap gb off xs) (h1 : B ≠ g) (h2 : xs ≠ [] → gb ≠ g) : CmpOk w0 g xs.length (numOf xs) 54 B :=
  ⟨enters_of Try.func54 (by kernel_rfl) rfl, fun W hW x y hx hy => places32_any B cap gb off x y a xs W (hW.obj hB h1) (hR.keep hW h2) hx hy⟩

end Go.Proofs.Ytapcohpagipkpaa
