/-
  A region that draws its order and ends with a store into what it has read: loads may be taken first all the same, since the store waits for all of them.
-/
import Derived.OrdersHeld
import Derived.RegionTactic
import Derived.Test.YtlpibfonpfhakaaDoorNums
namespace Go.Proofs.YtlpibfonpfhakaaDoor
open Go.RowKit Go.Shelf

section
variable {P : Program} {ops : Array Oper} {Q : Exit → Act → World → Prop} {md : Region.Mode} {S : World → Prop} {z : Nat}

/-- Whatever comes up next, and so on; behind each operation but z the world meets S. -/
def wpLast (P : Program) (md : Region.Mode) (ops : Array Oper) (Q : Exit → Act → World → Prop) (S : World → Prop) (z : Nat) : Nat → Array Bool → Act → World → Prop
  | 0, listed, a, w => Region.ready md ops listed = [] ∧ Q .normal a w
  | n + 1, listed, a, w => (Region.ready md ops listed = [] → Q .normal a w) ∧
      ∀ j ∈ Region.ready md ops listed, wpOp P ops Q j (fun a' w' => wpLast P md ops Q S z n (listed.setIfInBounds j true) a' w' ∧ (j ≠ z → S w')) a w
theorem any_of_last (n : Nat) : ∀ (listed : Array Bool) (a : Act) (w : World), wpLast P md ops Q S z n listed a w → wpAny P md ops Q n listed a w := by
  induction n with
  | zero => exact fun _ _ _ h => h
  | succ n ih => exact fun _ _ _ h => ⟨h.1, fun j hj => wpOp_mono (fun a' w' q => ih _ a' w' q.1) (h.2 j hj)⟩
/-- Does operation z wait for operation i? -/
def waits (md : Region.Mode) (ops : Array Oper) (z i : Nat) : Bool := match ops[z]? with
  | some o => o.after.any (fun e => Region.binds md e && e.on == i)
  | none => true
theorem waits_not {i : Nat} {listed : Array Bool} (h : waits md ops z i = true) (hi : i ∈ Region.ready md ops listed) : z ∉ Region.ready md ops listed := by
  intro hz
  obtain ⟨_, o, ho, hall⟩ := mem_ready.1 hz
  have hun := (mem_ready.1 hi).1
  unfold waits at h
  rw [ho] at h
  obtain ⟨k, hk, e⟩ := Array.any_eq_true.1 h
  rw [Bool.and_eq_true, beq_iff_eq] at e
  have := hall _ (Array.getElem_mem hk) e.1
  rw [e.2] at this
  rcases Nat.lt_or_ge i listed.size with q | q
  · simp [q] at hun this
    rw [hun] at this
    cases this
  · simp [Array.getElem?_eq_none q] at this
theorem last_first {i : Nat} {oi : Oper} {v : Value} (hi : ops[i]? = some oi) (hsel : ∀ (j : Nat) (o : Oper) cs b, ops[j]? = some o → o.op ≠ .select cs b)
    (hQ : ∀ c a w, Q (.panic c) (a.put oi.dst v) w → Q (.panic c) a w) (hz : waits md ops z i = true) (n : Nat) :
    ∀ (listed : Array Bool) (a : Act) (w : World), (∀ j oj, ops[j]? = some oj → j ≠ i → listed.getD j true = false → (∀ e ∈ oj.after, Region.binds md e = true → e.on ≠ i) → oi.apart ops oj = true) →
      i ∈ Region.ready md ops listed → YieldsIf P ops S oi v a → S w → wpLast P md ops Q S z n (listed.setIfInBounds i true) (a.put oi.dst v) w → wpLast P md ops Q S z (n + 1) listed a w := by
  induction n with
  | zero =>
    intro listed a w _ hr hy hS H
    refine ⟨fun e => absurd hr (by rw [e]; simp), fun j hj => ?_⟩
    rcases Nat.decEq j i with q | q
    · have q2 := ready_mono hj q
      rw [H.1] at q2
      cases q2
    · subst q
      exact hy.wpOp hi hS ⟨H, fun _ => hS⟩
  | succ n ih =>
    intro listed a w hfree hr hy hS H
    refine ⟨fun e => absurd hr (by rw [e]; simp), fun j hj => ?_⟩
    rcases Nat.decEq j i with q | q
    · obtain ⟨hun, oj, hoj, hall⟩ := mem_ready.1 hj
      have hni : ∀ e ∈ oj.after, Region.binds md e = true → e.on ≠ i := fun e he hb q1 => by
        have q2 := hall e he hb
        have q3 := (mem_ready.1 hr).1
        rw [q1] at q2
        rcases Nat.lt_or_ge i listed.size with q4 | q4
        · simp [q4] at q2 q3
          rw [q3] at q2
          cases q2
        · simp [Array.getElem?_eq_none q4] at q2
      have hjz : j ≠ z := fun e => waits_not hz hr (e ▸ hj)
      have hput := wpOp_putIf hoj (hfree j oj hoj q hun hni) (fun cs b => hsel i oi cs b hi) (fun cs b => hsel j oj cs b hoj) hQ hy (H.2 j (ready_mono hj q))
      refine wpOp_mono (fun a' w' r => ?_) hput
      have hS' := r.2.2 hjz
      refine ⟨ih (listed.setIfInBounds j true) a' w' (fun k ok hk hki hku hno => hfree k ok hk hki ?_ hno) (ready_mono hr (Ne.symm q)) r.1 hS' ?_, fun _ => hS'⟩
      · rcases Nat.decEq j k with q5 | q5
        · rwa [getD_set_ne true q5] at hku
        · subst q5; exact hun
      · rw [Array.setIfInBounds_comm _ _ q]
        exact r.2.1
    · subst q
      exact hy.wpOp hi hS ⟨H, fun _ => hS⟩
/-- Take number i first. -/
theorem last_take {i : Nat} {oi : Oper} {v : Value} {n : Nat} {listed : Array Bool} {a : Act} {w : World} (hi : ops[i]? = some oi) (hs : Region.noSelect ops = true) (hf : Region.free md ops listed i = true) (hr : (Region.ready md ops listed).contains i = true)
    (hz : waits md ops z i = true) (hQ : ∀ c a w, Q (.panic c) (a.put oi.dst v) w → Q (.panic c) a w) (hy : YieldsIf P ops S oi v a) (hS : S w) (h : wpLast P md ops Q S z n (listed.setIfInBounds i true) (a.put oi.dst v) w) : wpLast P md ops Q S z (n + 1) listed a w :=
  last_first hi (Region.noSelect_spec hs) hQ hz n listed a w (Region.free_spec hi hf) (by simpa using hr) hy hS h
/-- Only number j can come up. -/
theorem last_one {j : Nat} {o : Oper} {n : Nat} {listed : Array Bool} {a : Act} {w : World} (hr : Region.ready md ops listed = [j]) (ho : ops[j]? = some o)
    (h : ∀ K' : Act → World → Prop, Shut (∀ a' w', (j ≠ z → S w') → wpLast P md ops Q S z n (listed.setIfInBounds j true) a' w' → K' a' w') → if Region.wanted o (yielded ops a.tmps) = true then Oper.wp P o a w K' Q else K' (a.put o.dst undef) w) : wpLast P md ops Q S z (n + 1) listed a w := by
  refine ⟨fun e => (by rw [hr] at e; cases e), fun i hi => ?_⟩
  rw [hr] at hi
  obtain rfl : i = j := by simpa using hi
  exact wpOp_step ho (fun K' hK => h K' (fun a' w' q1 q2 => hK a' w' ⟨q2, q1⟩))
theorem last_done {listed : Array Bool} {a : Act} {w : World} (hr : Region.ready md ops listed = []) (h : Q .normal a w) : ∀ n, wpLast P md ops Q S z n listed a w
  | 0 => ⟨hr, h⟩
  | _ + 1 => ⟨fun _ => h, by rw [hr]; intro j hj; cases hj⟩
theorem region_last {id : Nat} {a : Act} {w : World} (S : World → Prop) (z : Nat) (hm : P.follows .mixedOrders = true) (hS : S w.drew) (h : S w.drew → wpLast P .any ops Q S z ops.size (Array.replicate ops.size false) a w.drew) : (Code.region id ops true).wp P Q a w :=
  wp_region_any hm (any_of_last _ _ _ _ (h hS))
end
end Go.Proofs.YtlpibfonpfhakaaDoor
