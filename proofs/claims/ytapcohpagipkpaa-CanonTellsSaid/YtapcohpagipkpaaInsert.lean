/-
  slices.insertionSortCmpFunc at a row of numbers, by a comparison that reads alone.
-/
import Derived.Test.YtapcohpagipkpaaSwap
import Derived.BigQuiet
namespace Go.Proofs.Ytapcohpagipkpaa
open Go.RowKit Go.Shelf

/-- What a comparison of two places by their numbers answers. -/
def cmpOf (K : Nat → Nat) (x y : Nat) : Int := if K x < K y then -1 else if K y < K x then 1 else 0
theorem cmpOf_neg (K : Nat → Nat) (x y : Nat) : cmpOf K x y < 0 ↔ K x < K y := by
  unfold cmpOf
  repeat' split
  all_goals simp_all

/-- Function fn over the box B compares places below N by the numbers K, wherever only block g has turned. -/
structure CmpOk (w0 : World) (g N : Nat) (K : Nat → Nat) (fn B : Nat) : Prop where
  enters : ∀ args w, (callFunc fn args).run Try.prog w = .ok (.enter fn args) w
  call : ∀ W, Keep (fun k => k = g) w0 W → ∀ x y : Nat, x < N → y < N → Calls Try.prog fn #[.int .i64 (x : Int), .int .i64 (y : Int), .pointer (some ⟨B, 0, none⟩)] W fun e w' => e = .returned (.int .i64 (cmpOf K x y)) ∧ ∃ q, w' = W.drewN q

/-- What comes from i on is greater than all that stands ahead of it. -/
def Inc (f : Nat → Nat) (a i b : Nat) : Prop := ∀ x y, a ≤ x → x < y → i ≤ y → y < b → f x < f y
theorem Inc.next {f f' : Nat → Nat} {a i b : Nat} (h : Inc f a i b) (p : PermOn a (i + 1) f f') : Inc f' a (i + 1) b := by
  intro x y h1 h2 h3 h4
  rw [p.out y (by omega)]
  by_cases e : x < i + 1
  · obtain ⟨x', u1, u2, u3⟩ := p.inn x h1 e
    rw [u3]; exact h x' y u1 (by omega) (by omega) h4
  · rw [p.out x (by omega)]; exact h x y h1 h2 (by omega) h4

set_option maxHeartbeats 2000000 in
theorem insertion_any (g n cap N a b fn B : Nat) (K f : Nat → Nat) (w0 w : World) (h : DS w0 w g n N f) (C : CmpOk w0 g N K fn B) (hab : a ≤ b) (hb : b ≤ n) (hn : n ≤ 1024) (hinc : Inc f a a b) :
    Calls Try.prog 71 #[.slice (some ⟨g, 0, none⟩) n cap, .int .i64 (a : Int), .int .i64 (b : Int), .func (.func fn) #[] #[.pointer (some ⟨B, 0, none⟩)]] w fun e w' => e = .returned (.tuple #[]) ∧ ∃ f', DS w0 w' g n N f' ∧ Merged K a b f f' := by
  have eg := C.enters
  have HC := (show Hid _ from C.call)
  clear C
  go_enter Try.func71, Try.ntmps71
  go_wp2
  go_loopw [8] (fun vi wr => ∃ (i : Nat) (fc : Nat → Nat), vi = .int .i64 (i : Int) ∧ a + 1 ≤ i ∧ i ≤ b + 1 ∧ DS w0 wr g n N fc ∧ PermOn a b f fc ∧ SortedOn K fc a i ∧ Inc fc a i b) (fun vi _ => b + 1 - (intOf vi).toNat)
  case atStart => exact ⟨a + 1, f, by go_num, Nat.le_refl _, by omega, h, PermOn.refl _ _ _, SortedOn.one _ _ _ _ (Nat.le_refl _), fun x y h1 h2 h3 h4 => hinc x y h1 h2 (by omega) h4⟩
  case round =>
    obtain ⟨i, fc, rfl, hi1, hi2, hd, hp, hs, hin⟩ := hrel
    have HS := (show Hid (PermOn a b f fc ∧ SortedOn K fc a i ∧ Inc fc a i b) from ⟨hp, hs, hin⟩)
    by_cases hlt : i < b
    · clear h hinc
      have hI : Ins K fc a i i := Ins.start hs (fun x h1 h2 => hin x i h1 h2 (Nat.le_refl _) hlt)
      clear hp hs hin
      go_wp2
      go_loopw [9] (fun vj wr2 => ∃ (j : Nat) (fj : Nat → Nat), vj = .int .i64 (j : Int) ∧ a ≤ j ∧ j ≤ i ∧ DS w0 wr2 g n N fj ∧ Ins K fj a i j ∧ PermOn a (i + 1) fc fj) (fun vj _ => (intOf vj).toNat)
      case atStart => exact ⟨i, fc, rfl, by omega, Nat.le_refl _, hd, hI, PermOn.refl _ _ _⟩
      case round =>
        clear hd hI
        obtain ⟨j, fj, rfl, hj1, hj2, hd, hI, hp⟩ := hrel
        have HI := (show Hid (Ins K fj a i j ∧ PermOn a (i + 1) fc fj) from ⟨hI, hp⟩)
        clear hI hp
        by_cases hja : a < j
        · obtain ⟨jp, rfl⟩ : ∃ jp, j = jp + 1 := ⟨j - 1, by omega⟩
          have c1 := hd.cell (jp + 1) (by omega)
          have c2 := hd.cell jp (by omega)
          have f1 := hd.frozen (jp + 1)
          have f2 := hd.frozen jp
          have hsw := hd.swap (jp + 1) jp (by omega) (by omega)
          have hjz : (a : Int) < (jp : Int) + 1 := by omega
          have jz : (jp : Int) + 1 < (n : Int) := by omega
          have jz1 : (jp : Int) < (n : Int) := by omega
          have hc : ∀ q, _ := fun q => HC.out (wr.drewN q) (hd.drewN q).keep (fj (jp + 1)) (fj jp) (hd.lt _ (by omega)) (hd.lt _ (by omega))
          have HK := (show Hid (cmpOf K (fj (jp + 1)) (fj jp) < 0 ↔ K (fj (jp + 1)) < K (fj jp)) from cmpOf_neg K (fj (jp + 1)) (fj jp))
          have HSW := (show Hid (∀ q, DS w0 (((wr.drewN q).setCell ⟨g, jp + 1, none⟩ (.int .i64 ((fj jp : Nat) : Int))).setCell ⟨g, jp, none⟩ (.int .i64 ((fj (jp + 1) : Nat) : Int))).drew g n N (swapF fj (jp + 1) jp)) from fun q => ((hd.drewN q).swap (jp + 1) jp (by omega) (by omega)).drew)
          have HD := (show Hid (∀ q, DS w0 (wr.drewN q) g n N fj) from fun q => hd.drewN q)
          obtain ⟨cv, hcv⟩ : ∃ cv, cmpOf K (fj (jp + 1)) (fj jp) = cv := ⟨_, rfl⟩
          rw [hcv] at HK hc
          generalize fj (jp + 1) = x1 at c1 hc HSW
          generalize fj jp = x2 at c2 hc HSW
          clear hd hcv
          by_cases hlv : cv < 0
          · go_wp2_with fail
            go_quiet (first | (go_at_fn fn; refine Calls.quiet_of (hc _)))
            go_wp2_with fail
            have HS2 := (show Hid _ from HSW.out nq)
            have c1' : (wr.drewN nq).cell? ⟨g, jp + 1, none⟩ = some (.int .i64 (x1 : Int)) := c1
            have c2' : (wr.drewN nq).cell? ⟨g, jp, none⟩ = some (.int .i64 (x2 : Int)) := c2
            have f1' : (wr.drewN nq).frozen? ⟨g, jp + 1, none⟩ = false := f1
            have f2' : (wr.drewN nq).frozen? ⟨g, jp, none⟩ = false := f2
            clear c1 c2 f1 f2 HSW hc HD
            generalize wr.drewN nq = wq at c1' c2' f1' f2' HS2 ⊢
            go_big_region
            all_goals go_wp2
            go_roundw
            case rel => exact ⟨jp, _, by go_num, by omega, by omega, HS2.out, HI.out.1.step (by omega) (by omega) (HK.out.1 hlv), HI.out.2.trans (PermOn.swap _ _ _ (by omega) (by omega) (by omega) (by omega))⟩
            case measure => simp [intOf]
          · go_wp2_with fail
            go_quiet (first | (go_at_fn fn; refine Calls.quiet_of (hc _)))
            go_wp2
            go_roundw
            case rel =>
              obtain ⟨p1, p2, p3⟩ := HS.out
              exact ⟨i + 1, fj, by go_num, by omega, by omega, HD.out nq, p1.trans (HI.out.2.mono (Nat.le_refl _) (by omega)), HI.out.1.done (by omega) (by omega) (.inr (fun hk => by have := HK.out.2 hk; omega)), p3.next HI.out.2⟩
            case measure => simp [intOf]; omega
        · obtain rfl : j = a := by omega
          have hjz : ¬ (j : Int) < (j : Int) := by omega
          have HD := (show Hid (DS w0 wr.drew g n N fj) from hd.drew)
          clear hd
          go_wp2_with fail
          go_big_region
          all_goals go_wp2
          go_roundw
          case rel =>
            obtain ⟨p1, p2, p3⟩ := HS.out
            exact ⟨i + 1, fj, by go_num, by omega, by omega, HD.out, p1.trans (HI.out.2.mono (Nat.le_refl _) (by omega)), HI.out.1.done (by omega) (by omega) (.inl rfl), p3.next HI.out.2⟩
          case measure => simp [intOf]; omega
    · go_wp2
      go_end0
      obtain ⟨p1, p2, p3⟩ := HS.out
      exact ⟨rfl, fc, hd, p1, p2.sub (Nat.le_refl _) (by omega)⟩

end Go.Proofs.Ytapcohpagipkpaa
