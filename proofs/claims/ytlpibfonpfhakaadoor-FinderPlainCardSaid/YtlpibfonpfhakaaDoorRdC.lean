/-
  alike and dear; a middle piece of a slice of bytes.
-/
import Derived.Test.YtlpibfonpfhakaaDoorSl
import Derived.Test.YtlpibfonpfhakaaDoorHsh
import Derived.Test.YtlpibfonpfhakaaDoorLen
namespace Go.Proofs.YtlpibfonpfhakaaDoor
open Go.RowKit Go.Shelf
set_option linter.unusedVariables false

theorem run_mid (gb off len cap lo hi : Nat) (h1 : lo < hi) (h2 : hi ≤ cap) (w : World) :
    (sliceSem 22 (.slice (some ⟨gb, off, none⟩) len cap) (some (.int .i64 (lo : Int))) (some (.int .i64 (hi : Int))) none).run Tryd.prog w = .ok (.slice (some ⟨gb, off + lo, none⟩) (hi - lo) (cap - lo)) w := by
  obtain ⟨i0, hi0, hz0, hz1, hz2⟩ := info_parts info5
  have e : ¬ cap = lo := by omega
  have e1 : lo ≤ hi := by omega
  simp [sliceSem, Instr.slice, run_underlying Tryd.underlying22, Instr.sliceBounds, Instr.sliceBound, asIntOf, h2, e1, sizeOf, typeInfo, hi0, hz1, e, addO]

set_option maxRecDepth 100000 in
set_option maxHeartbeats 1000000 in
/-- How many bytes two stretches of one text have in common. -/
theorem alike_any (gb off cap c1 c2 p q l : Nat) (bs : List Nat) (w : World) (hB : Bytes w (some ⟨gb, off, none⟩) cap gb off bs) (hp : p + l ≤ bs.length) (hq : q + l ≤ bs.length) :
    Calls Tryd.prog 45 #[.slice (some ⟨gb, off + p, none⟩) l c1, .slice (some ⟨gb, off + q, none⟩) l c2] w fun e w' => (∃ n : Nat, e = .returned (.int .i64 (n : Int)) ∧ n ≤ l ∧ (∀ i, i < n → byteN bs (p + i) = byteN bs (q + i)) ∧ (n < l → byteN bs (p + n) ≠ byteN bs (q + n))) ∧ w' = w := by
  have hlen := hB.len
  have HB := (show Hid (∀ j, j < bs.length → w.cell? ⟨gb, off + j, none⟩ = some (.int .u8 ((byteN bs j : Nat) : Int))) from hB.cells)
  have HL := (show Hid (∀ j, byteN bs j < 256) from hB.lt)
  have HP := (show Hid (p + l ≤ bs.length ∧ q + l ≤ bs.length) from ⟨hp, hq⟩)
  have hl : l < 2 ^ 48 := by omega
  clear hB hp hq hlen
  go_enter Tryd.func45, Tryd.ntmps45
  go_wp2_with fail
  go_loopw [9] (fun v wr => ∃ i : Nat, v = .int .i64 (i : Int) ∧ wr = w ∧ i ≤ l ∧ Hid (∀ j, j < i → byteN bs (p + j) = byteN bs (q + j))) (fun v _ => l - (intOf v).toNat)
  case atStart => exact ⟨0, rfl, rfl, Nat.zero_le _, fun j hj => absurd hj (by omega)⟩
  case round =>
    obtain ⟨i, rfl, rfl, hil, HI⟩ := hrel
    by_cases hlt : i < l
    · have hltI : (i : Int) < (l : Int) := by omega
      have e1 := HB.out (p + i) (by have := HP.out.1; omega)
      have e2 := HB.out (q + i) (by have := HP.out.2; omega)
      rw [← Nat.add_assoc] at e1 e2
      have b1 := HL.out (p + i)
      have b2 := HL.out (q + i)
      obtain ⟨x, hx⟩ : ∃ x, x = byteN bs (p + i) := ⟨_, rfl⟩
      obtain ⟨y, hy⟩ : ∃ y, y = byteN bs (q + i) := ⟨_, rfl⟩
      rw [← hx] at e1 b1
      rw [← hy] at e2 b2
      obtain ⟨i1, hi1⟩ : ∃ i1, i1 = i + 1 := ⟨_, rfl⟩
      have hadd : (i : Int) + 1 = (i1 : Int) := by omega
      by_cases hxy : y = x
      · have hne : ((y : Int) != (x : Int)) = false := by simp [hxy]
        have HN := (show Hid (∀ j, j < i1 → byteN bs (p + j) = byteN bs (q + j)) from fun j hj => by
          by_cases h : j < i
          · exact HI.out j h
          · obtain rfl : j = i := by omega
            rw [← hx, ← hy, hxy])
        have HI1 := (show Hid (i1 = i + 1) from hi1)
        clear hx hy hxy hi1 HI
        go_wp2_with fail
        go_roundw
        case rel => exact ⟨i1, rfl, trivial, by have := HI1.out; omega, HN.out⟩
        case measure => have := HI1.out; simp [intOf]; omega
      · have hne : ((y : Int) != (x : Int)) = true := by rw [bne_iff_ne]; omega
        have HN := (show Hid (i < l → byteN bs (p + i) ≠ byteN bs (q + i)) from fun _ => by rw [← hx, ← hy]; exact fun e => hxy e.symm)
        clear hx hy hxy hi1
        go_wp2_with fail
        go_ret
        exact ⟨⟨i, rfl, hil, HI.out, HN.out⟩, rfl⟩
    · obtain rfl : i = l := by omega
      have hltI : ¬ (i : Int) < (i : Int) := by omega
      go_wp2_with fail
      go_ret
      exact ⟨⟨i, rfl, hil, HI.out, fun h => absurd h hlt⟩, rfl⟩

/-- How many bytes two stretches have in common. -/
def IsLike (bs : List Nat) (p q l n : Nat) : Prop := n ≤ l ∧ (∀ i, i < n → byteN bs (p + i) = byteN bs (q + i)) ∧ (n < l → byteN bs (p + n) ≠ byteN bs (q + n))
theorem some_like (bs : List Nat) (p q l : Nat) : ∃ n, IsLike bs p q l n := by
  induction l with
  | zero => exact ⟨0, Nat.le_refl _, fun i hi => absurd hi (by omega), fun h => absurd h (by omega)⟩
  | succ l ih =>
    obtain ⟨n, h1, h2, h3⟩ := ih
    by_cases e : n < l
    · exact ⟨n, by omega, h2, fun _ => h3 e⟩
    · obtain rfl : n = l := by omega
      by_cases e2 : byteN bs (p + n) = byteN bs (q + n)
      · refine ⟨n + 1, Nat.le_refl _, fun i hi => ?_, fun h => absurd h (by omega)⟩
        by_cases e3 : i < n
        · exact h2 i e3
        · obtain rfl : i = n := by omega
          exact e2
      · exact ⟨n, by omega, h2, fun _ => e2⟩
theorem IsLike.one {bs : List Nat} {p q l n m : Nat} (h : IsLike bs p q l n) (k : IsLike bs p q l m) : n = m := by
  obtain ⟨h1, h2, h3⟩ := h
  obtain ⟨k1, k2, k3⟩ := k
  rcases Nat.lt_trichotomy n m with e | e | e
  · exact absurd (k2 n e) (h3 (by omega))
  · exact e
  · exact absurd (h2 m e) (k3 (by omega))
theorem alike_is (gb off cap c1 c2 p q l n : Nat) (bs : List Nat) (w : World) (hB : Bytes w (some ⟨gb, off, none⟩) cap gb off bs) (hp : p + l ≤ bs.length) (hq : q + l ≤ bs.length) (hn : IsLike bs p q l n) :
    Calls Tryd.prog 45 #[.slice (some ⟨gb, off + p, none⟩) l c1, .slice (some ⟨gb, off + q, none⟩) l c2] w fun e w' => e = .returned (.int .i64 (n : Int)) ∧ w' = w := by
  refine (alike_any gb off cap c1 c2 p q l bs w hB hp hq).mono ?_
  rintro e w' ⟨⟨m, rfl, h1, h2, h3⟩, rfl⟩
  obtain rfl := hn.one ⟨h1, h2, h3⟩
  exact ⟨rfl, rfl⟩

set_option maxRecDepth 100000 in
set_option maxHeartbeats 1000000 in
theorem dear_any (size back : Nat) (w : World) (hs : size < 1000000) (hb : back < 65536) :
    Calls Tryd.prog 46 #[.int .i64 (size : Int), .int .i64 (back : Int)] w fun e w' => (∃ d : Bool, e = .returned (.bool d) ∧ (back = 1 → 2 ≤ size → d = false)) ∧ w' = w := by
  have HL := len_any back hb w
  obtain ⟨l, hl⟩ : ∃ l, l = lenN back := ⟨_, rfl⟩
  rw [← hl] at HL
  have H1 := (show Hid (back = 1 → l = 1) from fun h => by rw [hl, h]; rfl)
  clear hl
  go_enter Tryd.func46, Tryd.ntmps46
  go_wp2_with fail
  refine HL.mono ?_
  rintro e w1 ⟨rfl, rfl⟩
  clear HL
  go_wp2_with fail
  go_ret
  exact ⟨⟨_, rfl, fun h1 h2 => decide_eq_false (by have := H1.out h1; omega)⟩, rfl⟩
end Go.Proofs.YtlpibfonpfhakaaDoor
