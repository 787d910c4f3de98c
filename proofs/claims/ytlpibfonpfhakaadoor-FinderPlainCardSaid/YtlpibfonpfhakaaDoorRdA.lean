/-
  limit, reaches and tries of a search.
-/
import Derived.Test.YtlpibfonpfhakaaDoorObj
namespace Go.Proofs.YtlpibfonpfhakaaDoor
open Go.RowKit Go.Shelf
set_option linter.unusedVariables false

/-- How long a match at a place may be. -/
def limN (c : Cf) (p : Nat) : Nat := min c.most (c.bs.length - p)

section
attribute [local go_sem] maxSem_eq minSem_eq
set_option maxRecDepth 100000 in
set_option maxHeartbeats 1000000 in
theorem limit_any (c : Cf) (p told vain p1 p2 : Nat) (w : World) (h : IsS w c p told vain p1 p2) (hp : p ≤ c.bs.length) :
    Calls Tryd.prog 38 #[.pointer (some ⟨c.sb, 0, none⟩)] w fun e w' => e = .returned (.int .i64 ((limN c p : Nat) : Int)) ∧ ∃ k, w' = w.drewN k := by
  have hn := h.ok.n
  have c0 : w.cell? ⟨c.sb, 0, none⟩ = some (.slice (some ⟨c.gb, c.off, none⟩) c.bs.length c.cap) := cell_of h.obj 0
  have c4 : w.cell? ⟨c.sb, 4, none⟩ = some (.int .i64 (c.most : Int)) := cell_of h.obj 4
  have c5 : w.cell? ⟨c.sb, 5, none⟩ = some (.int .i64 (p : Int)) := cell_of h.obj 5
  obtain ⟨d, hd⟩ : ∃ d, d = c.bs.length - p := ⟨_, rfl⟩
  have hsub : (c.bs.length : Int) - (p : Int) = (d : Int) := by omega
  obtain ⟨l, hl⟩ : ∃ l, l = limN c p := ⟨_, rfl⟩
  have hmin := minSem_run #[3, 3] 3 (c.most : Int) (d : Int) (l : Int) (by rw [hl, hd]; unfold limN; omega)
  rw [← hl]
  clear h hd hl
  generalize c.bs.length = n at *
  go_enter Tryd.func38, Tryd.ntmps38
  go_wp2_with fail
  go_quiet (fail)
  go_wp2_with fail
  go_ret
  exact ⟨rfl, _, rfl⟩

set_option maxRecDepth 100000 in
set_option maxHeartbeats 1000000 in
theorem reaches_neg (c : Cf) (p told vain p1 p2 : Nat) (pl : Int) (w : World) (h : IsS w c p told vain p1 p2) (hp : pl < 0) :
    Calls Tryd.prog 41 #[.pointer (some ⟨c.sb, 0, none⟩), .int .i64 pl] w fun e w' => e = .returned (.bool false) ∧ ∃ k, w' = w.drewN k := by
  have hd : decide (0 ≤ pl) = false := decide_eq_false (by omega)
  clear h
  go_enter Tryd.func41, Tryd.ntmps41
  go_wp2_with fail
  go_quiet (fail)
  go_wp2_with fail
  go_ret
  exact ⟨rfl, _, rfl⟩
set_option maxRecDepth 100000 in
set_option maxHeartbeats 1000000 in
theorem reaches_pos (c : Cf) (p told vain p1 p2 q : Nat) (w : World) (h : IsS w c p told vain p1 p2) (hq : q ≤ p) (hp : p < 1000000) :
    Calls Tryd.prog 41 #[.pointer (some ⟨c.sb, 0, none⟩), .int .i64 (q : Int)] w fun e w' => e = .returned (.bool (decide (p - q ≤ c.window))) ∧ ∃ k, w' = w.drewN k := by
  have c2 : w.cell? ⟨c.sb, 2, none⟩ = some (.int .i64 (c.window : Int)) := cell_of h.obj 2
  have c5 : w.cell? ⟨c.sb, 5, none⟩ = some (.int .i64 (p : Int)) := cell_of h.obj 5
  have hd : decide (0 ≤ (q : Int)) = true := decide_eq_true (by omega)
  have hd1 : (0 : Int) ≤ (q : Int) := by omega
  obtain ⟨d, hde⟩ : ∃ d, d = p - q := ⟨_, rfl⟩
  have hsub : (p : Int) - (q : Int) = (d : Int) := by omega
  rw [← hde]
  clear h hde
  go_enter Tryd.func41, Tryd.ntmps41
  go_wp2_with fail
  go_quiet (fail)
  go_wp2_with fail
  go_ret
  exact ⟨rfl, _, rfl⟩
set_option maxRecDepth 100000 in
set_option maxHeartbeats 1000000 in
theorem tries_any (c : Cf) (p told vain p1 p2 : Nat) (w : World) (h : IsS w c p told vain p1 p2) (hv : vain < 1000000) :
    Calls Tryd.prog 40 #[.pointer (some ⟨c.sb, 0, none⟩)] w fun e w' => ∃ t : Nat, 1 ≤ t ∧ t ≤ 64 ∧ e = .returned (.int .i64 (t : Int)) ∧ ∃ k, w' = w.drewN k := by
  have hdd := h.ok.d2
  have c1 : w.cell? ⟨c.sb, 1, none⟩ = some (.int .i64 (c.depth : Int)) := cell_of h.obj 1
  have c7 : w.cell? ⟨c.sb, 7, none⟩ = some (.int .i64 (vain : Int)) := cell_of h.obj 7
  obtain ⟨v, hve⟩ : ∃ v, v = vain / 256 := ⟨_, rfl⟩
  have hdiv : IntKind.i64.wrap ((vain : Int) / 256) = (v : Int) := by rw [IntKind.wrap_i64]; omega
  obtain ⟨m, hme⟩ : ∃ m, m = min v 8 := ⟨_, rfl⟩
  have hmin := minSem_run #[3, 3] 3 (v : Int) 8 (m : Int) (by omega)
  obtain ⟨x, hxe⟩ : ∃ x, x = c.depth / 2 ^ m := ⟨_, rfl⟩
  have hx64 : x ≤ 64 := by rw [hxe]; exact Nat.le_trans (Nat.div_le_self _ _) hdd
  have hsh : (c.depth : Int) / 2 ^ m = (x : Int) := by rw [hxe]; norm_cast
  obtain ⟨t, ht⟩ : ∃ t, t = max 1 x := ⟨_, rfl⟩
  have hmax := maxSem_run #[3, 3] 3 1 (x : Int) (t : Int) (by omega)
  have HT := (show Hid (1 ≤ t ∧ t ≤ 64) from by constructor <;> omega)
  have hm8 : m ≤ 8 := by omega
  clear h hve hme hxe ht
  go_enter Tryd.func40, Tryd.ntmps40
  go_wp2_with fail
  go_quiet (fail)
  go_wp2_with fail
  go_ret
  exact ⟨t, HT.out.1, HT.out.2, rfl, _, rfl⟩
end
end Go.Proofs.YtlpibfonpfhakaaDoor
