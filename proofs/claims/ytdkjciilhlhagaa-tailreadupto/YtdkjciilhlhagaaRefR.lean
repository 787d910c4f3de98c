/-
  The document's own reader: what each of its calls does.
-/
import Derived.Test.YtdkjciilhlhagaaMark
import Derived.Test.YtdkjciilhlhagaaWakes
namespace Go.Proofs.Ytdkjciilhlhagaa
open Go.RowKit Go.Shelf
set_option linter.unusedVariables false

/-- Block qb is the document's reader of the T bits of bs that lie in block g; l of them are left. -/
structure IsQ (W : World) (qb g : Nat) (bs : List Nat) (T : Nat) (l : Int) : Prop where
  obj : ∃ cap, W.heap[qb]? = some (.cells #[.slice (some ⟨g, 0, none⟩) T cap, .int .i64 l] 36 (0, 0))
  cells : ∀ j, j < T → W.cell? ⟨g, j, none⟩ = some (.int .u8 ((bitAt bs j : Nat) : Int))
  lt : g < W.heap.size
  ne : g ≠ qb
  fits : T < 1125899906842624
theorem IsQ.keep {W W' : World} {S : Nat → Prop} {qb g : Nat} {bs : List Nat} {T : Nat} {l : Int} (h : IsQ W qb g bs T l) (hk : Keep S W W') (h1 : ¬ S qb) (h2 : ¬ S g) : IsQ W' qb g bs T l := by
  obtain ⟨cap, ho⟩ := h.obj
  exact ⟨⟨cap, hk.obj ho h1⟩, fun j hj => (World.cell?_of_block (hk.block g h.lt h2)).trans (h.cells j hj), Nat.lt_of_lt_of_le h.lt hk.size, h.ne, h.fits⟩
theorem IsQ.drewN {W : World} {qb g : Nat} {bs : List Nat} {T : Nat} {l : Int} (h : IsQ W qb g bs T l) (n : Nat) : IsQ (W.drewN n) qb g bs T l := ⟨h.obj, h.cells, h.lt, h.ne, h.fits⟩
/-- Its field Left. -/
theorem IsQ.left {W : World} {qb g : Nat} {bs : List Nat} {T : Nat} {l : Int} (h : IsQ W qb g bs T l) : W.cell? ⟨qb, 1, none⟩ = some (.int .i64 l) := by
  obtain ⟨cap, ho⟩ := h.obj
  exact cell_of ho 1
theorem isQ_set {W : World} {qb g : Nat} {bs : List Nat} {T : Nat} {l : Int} (h : IsQ W qb g bs T l) (l' : Int) : IsQ (W.setCell ⟨qb, 1, none⟩ (.int .i64 l')) qb g bs T l' := by
  obtain ⟨cap, ho⟩ := h.obj
  exact ⟨⟨cap, (set_obj ho 1 _).trans (by simp)⟩, fun j hj => (World.cell?_of_block (Below.heap_setCell _ _ _ _ h.ne)).trans (h.cells j hj), by simpa [World.setCell] using h.lt, h.ne, h.fits⟩

section
attribute [local go_sem ↓] maxSem_eq minSem_eq
set_option maxRecDepth 100000 in
set_option maxHeartbeats 1000000 in
/-- The document's Bits(n). -/
theorem bitsQ_read (qb g : Nat) (bs : List Nat) (T p t z u m a b : Nat) (n : Int) (w : World) (h : IsQ w qb g bs T ((u : Int) - a)) (hu : u = p + t) (hmz : m = t + z) (hpz : z = 0 ∨ p = 0) (hn : (m : Int) = min (max n 0) 56) (hb : b = min (a + z) 1099511627776) (hua : u = 0 ∨ a = 0) (huT : u ≤ T) (ha : a ≤ 1099511627776) :
    Calls Try.prog 11 #[.pointer (some ⟨qb, 0, none⟩), .int .i64 n] w fun e w' => e = .returned (.int .u64 ((numAt bs p t * 2 ^ z : Nat) : Int)) ∧ IsQ w' qb g bs T ((p : Int) - b) ∧ Keep (fun k => k = qb) w w' := by
  obtain ⟨cap, ho⟩ := h.obj
  have hm : m ≤ 56 := by omega
  have hfit := h.fits
  have hc1 : w.cell? ⟨qb, 1, none⟩ = some (.int .i64 ((u : Int) - a)) := cell_of ho 1
  have hf1 := frozen_of ho 1
  obtain ⟨X, hX⟩ : ∃ X : Int, X = max n 0 := ⟨_, rfl⟩
  have hmax := maxSem_run #[3, 3] 3 n 0 X hX
  have hmin := minSem_run #[3, 3] 3 X 56 m (by rw [hX]; exact hn)
  obtain ⟨l, hl⟩ : ∃ l : Int, l = (u : Int) - a := ⟨_, rfl⟩
  obtain ⟨l1, hl1⟩ : ∃ l1 : Int, l1 = l - m := ⟨_, rfl⟩
  have hmax2 := maxSem_run #[3, 3] 3 l1 (-1099511627776) ((p : Int) - b) (by omega)
  have hls : l - (m : Int) = l1 := hl1.symm
  have hlb : -1099511627776 ≤ l ∧ l < 1125899906842624 := by omega
  have hix : ∀ k : Nat, k < t → l1 + ((m : Int) - 1 - k) = ((p + t - 1 - k : Nat) : Int) ∧ p + t - 1 - k < T := fun k hk => by omega
  have hiy : ∀ k : Nat, t ≤ k → k < m → l1 + ((m : Int) - 1 - k) < 0 := fun k hk hkm => by omega
  have hqe : qv bs p t m = numAt bs p t * 2 ^ z := by rw [hmz, qv_high]
  rw [← hl] at hc1 h
  have HQE := (show Hid _ from hqe)
  have HIX := (show Hid _ from hix)
  have HIY := (show Hid _ from hiy)
  have H1 := isQ_set h l1
  have hl1b : -1125899906842624 ≤ l1 ∧ l1 < 1125899906842624 := by omega
  clear hX hn hb hpz hu hmz hqe hix hiy hl hua ho h huT ha hl1
  go_enter Try.func11, Try.ntmps11
  go_wp2
  have hK1 : Keep (fun k => k = qb) w (w.setCell ⟨qb, 1, none⟩ (.int .i64 l1)) := (Keep.refl (fun k => k = qb) w).setCell (p := ⟨qb, 1, none⟩) (fun _ => rfl) _
  generalize w.setCell ⟨qb, 1, none⟩ (.int .i64 l1) = W1 at H1 hK1 ⊢
  clear hc1 hf1 hmax hmin hls hlb
  go_loopw [5, 6] (fun x i wr => ∃ k : Nat, k ≤ m ∧ i = .int .i64 ((m : Int) - 1 - k) ∧ x = .int .u64 ((qv bs p t k : Nat) : Int) ∧ IsQ wr qb g bs T l1 ∧ Keep noBlock W1 wr) (fun _ i _ => (intOf i + 1).toNat)
  case atStart => exact ⟨0, Nat.zero_le _, by simp, rfl, H1, Keep.refl _ _⟩
  case round =>
    obtain ⟨k, hk, rfl, rfl, H2, hK2⟩ := hrel
    clear H1
    have hcl := H2.left
    obtain ⟨cap2, ho2⟩ := H2.obj
    by_cases hlt : k < m
    · obtain ⟨i, hi⟩ : ∃ i : Int, i = (m : Int) - 1 - k := ⟨_, rfl⟩
      rw [← hi]
      have hi0 : 0 ≤ i := by omega
      have hi56 : i < 56 := by omega
      have hv := qv_lt bs p t k
      have hpw : 2 ^ k ≤ 2 ^ 56 := Nat.pow_le_pow_right (by omega) (by omega)
      have hv56 : qv bs p t k < 72057594037927936 := by omega
      have hqs : qv bs p t (k + 1) = 2 * qv bs p t k + (if k < t then bitAt bs (p + t - 1 - k) else 0) := rfl
      have hx := HIX.out k
      have hy := HIY.out k
      rw [← hi] at hx hy
      have HI := (show Hid _ from hi)
      clear hv hpw hi
      by_cases hkt : k < t
      · obtain ⟨e1, e2⟩ := hx hkt
        rw [if_pos hkt] at hqs
        have hcg := H2.cells _ e2
        have hb2 := bitAt_lt bs (p + t - 1 - k)
        generalize bitAt bs (p + t - 1 - k) = bt at hqs hcg hb2
        generalize p + t - 1 - k = j at e1 e2 hcg
        have hor : bits .or .u64 (((qv bs p t k : Nat) : Int) * 2) ((bt : Nat) : Int) = ((qv bs p t (k + 1) : Nat) : Int) := by
          rw [hqs, ← or_low (qv bs p t k) bt (by omega) hb2, Int.mul_comm]; rfl
        have hc0 : wr.cell? ⟨qb, 0, none⟩ = some (.slice (some ⟨g, 0, none⟩) T cap2) := cell_of ho2 0
        have hj0 : decide ((0 : Int) ≤ l1 + i) = true := decide_eq_true (by omega)
        have hju : IntKind.u64.wrap ((bt : Nat) : Int) = (bt : Int) := by rw [IntKind.wrap_u64]; omega
        clear hx hy hqs
        generalize qv bs p t k = y at hv56 hor
        go_wp2
        go_quiet (fail)
        go_wp2
        go_roundw
        case rel => exact ⟨k + 1, by omega, by have := HI.out; simp; omega, rfl, H2.drewN _, hK2.trans' (keep_drewN _ _)⟩
        case measure => simp [intOf]; omega
      · have hneg := hy (by omega) hlt
        rw [if_neg hkt, Nat.add_zero] at hqs
        have hqs2 : ((qv bs p t (k + 1) : Nat) : Int) = ((qv bs p t k : Nat) : Int) * 2 := by rw [hqs]; omega
        have HQS := (show Hid _ from hqs2)
        have hj0 : decide ((0 : Int) ≤ l1 + i) = false := decide_eq_false (by omega)
        clear hx hy hqs hqs2
        generalize qv bs p t k = y at hv56 HQS
        go_wp2
        go_roundw
        case rel => exact ⟨k + 1, by omega, by have := HI.out; simp; omega, by rw [HQS.out], H2, hK2⟩
        case measure => simp [intOf]; omega
    · obtain rfl : k = m := by omega
      have hend : (k : Int) - 1 - k = -1 := by omega
      rw [hend, HQE.out]
      have hf1 := frozen_of ho2 1
      have H3 := isQ_set H2 ((p : Int) - b)
      clear hk hlt
      go_wp2
      go_ret
      exact ⟨rfl, H3, Keep.setCell (S := fun k => k = qb) (p := ⟨qb, 1, none⟩) (hK1.trans hK2 (fun _ _ h => h.elim)) (fun _ => rfl) _⟩
end

end Go.Proofs.Ytdkjciilhlhagaa
