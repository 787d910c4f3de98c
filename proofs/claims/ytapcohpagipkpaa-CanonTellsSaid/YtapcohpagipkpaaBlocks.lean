/-
  Blocks of places that are merged two by two. No program is named here.
-/
import Derived.Test.YtapcohpagipkpaaOrd
namespace Go.Proofs.Ytapcohpagipkpaa

theorem div_in (B t i : Nat) (hB : 0 < B) (h1 : t * B ≤ i) (h2 : i < t * B + B) : i / B = t := by
  have e1 : t ≤ i / B := (Nat.le_div_iff_mul_le hB).2 h1
  have e2 : i / B < t + 1 := (Nat.div_lt_iff_lt_mul hB).2 (by rw [Nat.add_mul]; omega)
  omega
theorem div_lt' (B t i : Nat) (hB : 0 < B) (h : i < t * B) : i / B < t := (Nat.div_lt_iff_lt_mul hB).2 h
theorem div_ge' (B t i : Nat) (hB : 0 < B) (h : t * B ≤ i) : t ≤ i / B := (Nat.le_div_iff_mul_le hB).2 h

/-- Each block of B places rises; of two blocks the earlier one has what came first. -/
def Blks (K f : Nat → Nat) (B n : Nat) : Prop := ∀ i j, i < j → j < n → (i / B = j / B → Lx K (f i) (f j)) ∧ (i / B ≠ j / B → f i < f j)
/-- Blocks of B places up to a; from there on as it came. -/
def Some1 (K f : Nat → Nat) (B a n : Nat) : Prop := ∀ i j, i < j → j < n → (j < a ∧ i / B = j / B → Lx K (f i) (f j)) ∧ (¬ (j < a ∧ i / B = j / B) → f i < f j)
/-- Blocks of 2 B places up to a; from there on of B. -/
def Some2 (K f : Nat → Nat) (B a n : Nat) : Prop :=
  ∀ i j, i < j → j < n → (j < a ∧ i / (2 * B) = j / (2 * B) → Lx K (f i) (f j)) ∧ (a ≤ i ∧ i / B = j / B → Lx K (f i) (f j)) ∧ (¬ (j < a ∧ i / (2 * B) = j / (2 * B)) → ¬ (a ≤ i ∧ i / B = j / B) → f i < f j)

theorem Some1.start {K f : Nat → Nat} {B n : Nat} (h : ∀ i j, i < j → j < n → f i < f j) : Some1 K f B 0 n :=
  fun i j h1 h2 => ⟨fun h3 => by omega, fun _ => h i j h1 h2⟩
theorem Some1.inc {K f : Nat → Nat} {B a n : Nat} (h : Some1 K f B a n) : ∀ x y, a ≤ x → x < y → a ≤ y → y < n → f x < f y :=
  fun x y _ h2 h3 h4 => (h x y h2 h4).2 (by omega)
theorem Some1.next {K f f' : Nat → Nat} {B t n : Nat} (hB : 0 < B) (hbn : t * B + B ≤ n) (h : Some1 K f B (t * B) n) (m : Merged K (t * B) (t * B + B) f f') : Some1 K f' B ((t + 1) * B) n := by
  have e : (t + 1) * B = t * B + B := by rw [Nat.add_mul, Nat.one_mul]
  rw [e]
  intro i j h1 h2
  by_cases c1 : j < t * B
  · rw [m.1.out i (by omega), m.1.out j (by omega)]
    have := h i j h1 h2
    exact ⟨fun x => this.1 ⟨c1, x.2⟩, fun x => this.2 (fun y => x ⟨by omega, y.2⟩)⟩
  · by_cases c2 : j < t * B + B
    · by_cases c3 : t * B ≤ i
      · have e1 := div_in B t i hB c3 (by omega)
        have e2 := div_in B t j hB (by omega) c2
        exact ⟨fun _ => m.2 i j c3 h1 c2, fun x => absurd ⟨c2, e1.trans e2.symm⟩ x⟩
      · have e1 := div_lt' B t i hB (by omega)
        have e2 := div_in B t j hB (by omega) c2
        obtain ⟨j', u1, u2, u3⟩ := m.1.inn j (by omega) c2
        refine ⟨fun x => by omega, fun _ => ?_⟩
        rw [m.1.out i (by omega), u3]
        exact (h i j' (by omega) (by omega)).2 (by omega)
    · refine ⟨fun x => by omega, fun _ => ?_⟩
      rw [m.1.out j (by omega)]
      by_cases c3 : t * B ≤ i ∧ i < t * B + B
      · obtain ⟨i', u1, u2, u3⟩ := m.1.inn i c3.1 c3.2
        rw [u3]; exact (h i' j (by omega) h2).2 (by omega)
      · rw [m.1.out i c3]; exact (h i j h1 h2).2 (by omega)
theorem Some1.last {K f f' : Nat → Nat} {B t n : Nat} (hB : 0 < B) (h : Some1 K f B (t * B) n) (hn : n < t * B + B) (m : Merged K (t * B) n f f') : Blks K f' B n := by
  intro i j h1 h2
  by_cases c1 : j < t * B
  · rw [m.1.out i (by omega), m.1.out j (by omega)]
    have := h i j h1 h2
    exact ⟨fun x => this.1 ⟨c1, x⟩, fun x => this.2 (fun y => x y.2)⟩
  · have e2 := div_in B t j hB (by omega) (by omega)
    by_cases c3 : t * B ≤ i
    · have e1 := div_in B t i hB c3 (by omega)
      exact ⟨fun _ => m.2 i j c3 h1 h2, fun x => absurd (e1.trans e2.symm) x⟩
    · have e1 := div_lt' B t i hB (by omega)
      obtain ⟨j', u1, u2, u3⟩ := m.1.inn j (by omega) h2
      refine ⟨fun x => by omega, fun _ => ?_⟩
      rw [m.1.out i (by omega), u3]
      exact (h i j' (by omega) (by omega)).2 (by omega)

theorem Some2.start {K f : Nat → Nat} {B n : Nat} (h : Blks K f B n) : Some2 K f B 0 n :=
  fun i j h1 h2 => ⟨fun x => by omega, fun x => (h i j h1 h2).1 x.2, fun _ x => (h i j h1 h2).2 (fun y => x ⟨by omega, y⟩)⟩
theorem two_mul_eq (B t : Nat) : t * (2 * B) = (2 * t) * B ∧ (2 * t + 1) * B = t * (2 * B) + B ∧ (2 * t + 2) * B = t * (2 * B) + 2 * B ∧ (t + 1) * (2 * B) = t * (2 * B) + 2 * B := by
  have e1 : t * (2 * B) = (2 * t) * B := by rw [← Nat.mul_assoc, Nat.mul_comm t 2]
  refine ⟨e1, by rw [Nat.add_mul, e1]; omega, by rw [Nat.add_mul, e1], by rw [Nat.add_mul]; omega⟩
/-- What is merged next. -/
theorem Some2.pre {K f : Nat → Nat} {B t n b : Nat} (hB : 0 < B) (h : Some2 K f B (t * (2 * B)) n) (hb : b ≤ t * (2 * B) + 2 * B) (hbn : b ≤ n) :
    SortedOn K f (t * (2 * B)) (min (t * (2 * B) + B) n) ∧ SortedOn K f (t * (2 * B) + B) b ∧ Ahead f (t * (2 * B)) (t * (2 * B) + B) b := by
  obtain ⟨e1, e2, e3, e4⟩ := two_mul_eq B t
  refine ⟨fun i j h1 h2 h3 => ?_, fun i j h1 h2 h3 => ?_, fun i j h1 h2 h3 h4 => ?_⟩
  · have d1 := div_in B (2 * t) i hB (by omega) (by omega)
    have d2 := div_in B (2 * t) j hB (by omega) (by omega)
    exact (h i j h2 (by omega)).2.1 ⟨h1, d1.trans d2.symm⟩
  · have d1 := div_in B (2 * t + 1) i hB (by omega) (by omega)
    have d2 := div_in B (2 * t + 1) j hB (by omega) (by omega)
    exact (h i j h2 (by omega)).2.1 ⟨by omega, d1.trans d2.symm⟩
  · have d1 := div_in B (2 * t) i hB (by omega) (by omega)
    have d2 := div_in B (2 * t + 1) j hB (by omega) (by omega)
    exact (h i j (by omega) (by omega)).2.2 (by omega) (by omega)
theorem Some2.next {K f f' : Nat → Nat} {B t n : Nat} (hB : 0 < B) (hbn : t * (2 * B) + 2 * B ≤ n) (h : Some2 K f B (t * (2 * B)) n) (m : Merged K (t * (2 * B)) (t * (2 * B) + 2 * B) f f') : Some2 K f' B ((t + 1) * (2 * B)) n := by
  obtain ⟨e1, e2, e3, e4⟩ := two_mul_eq B t
  rw [e4]
  have hB2 : 0 < 2 * B := by omega
  intro i j h1 h2
  by_cases c1 : j < t * (2 * B)
  · rw [m.1.out i (by omega), m.1.out j (by omega)]
    have := h i j h1 h2
    exact ⟨fun x => this.1 ⟨c1, x.2⟩, fun x => by omega, fun x _ => this.2.2 (fun y => x ⟨by omega, y.2⟩) (by omega)⟩
  · by_cases c2 : j < t * (2 * B) + 2 * B
    · have d2 := div_in (2 * B) t j hB2 (by omega) c2
      by_cases c3 : t * (2 * B) ≤ i
      · have d1 := div_in (2 * B) t i hB2 c3 (by omega)
        exact ⟨fun _ => m.2 i j c3 h1 c2, fun x => by omega, fun x _ => absurd ⟨c2, d1.trans d2.symm⟩ x⟩
      · have d1 := div_lt' (2 * B) t i hB2 (by omega)
        obtain ⟨j', u1, u2, u3⟩ := m.1.inn j (by omega) c2
        refine ⟨fun x => by omega, fun x => by omega, fun _ _ => ?_⟩
        rw [m.1.out i (by omega), u3]
        by_cases c4 : j' < n
        · exact (h i j' (by omega) c4).2.2 (by omega) (by omega)
        · omega
    · rw [m.1.out j (by omega)]
      have d2 := div_ge' B (2 * t + 2) j hB (by omega)
      by_cases c3 : t * (2 * B) + 2 * B ≤ i
      · rw [m.1.out i (by omega)]
        have := h i j h1 h2
        exact ⟨fun x => by omega, fun x => this.2.1 ⟨by omega, x.2⟩, fun _ x => this.2.2 (by omega) (fun y => x ⟨c3, y.2⟩)⟩
      · refine ⟨fun x => by omega, fun x => by omega, fun _ _ => ?_⟩
        by_cases c4 : t * (2 * B) ≤ i
        · obtain ⟨i', u1, u2, u3⟩ := m.1.inn i c4 (by omega)
          have d1 := div_lt' B (2 * t + 2) i' hB (by omega)
          rw [u3]; exact (h i' j (by omega) h2).2.2 (by omega) (by omega)
        · rw [m.1.out i (by omega)]; exact (h i j h1 h2).2.2 (by omega) (by omega)
theorem Some2.last {K f f' : Nat → Nat} {B t n : Nat} (hB : 0 < B) (h : Some2 K f B (t * (2 * B)) n) (hn : n < t * (2 * B) + 2 * B) (m : Merged K (t * (2 * B)) n f f') : Blks K f' (2 * B) n := by
  have hB2 : 0 < 2 * B := by omega
  intro i j h1 h2
  by_cases c1 : j < t * (2 * B)
  · rw [m.1.out i (by omega), m.1.out j (by omega)]
    have := h i j h1 h2
    exact ⟨fun x => this.1 ⟨c1, x⟩, fun x => this.2.2 (fun y => x y.2) (by omega)⟩
  · have d2 := div_in (2 * B) t j hB2 (by omega) (by omega)
    by_cases c3 : t * (2 * B) ≤ i
    · have d1 := div_in (2 * B) t i hB2 c3 (by omega)
      exact ⟨fun _ => m.2 i j c3 h1 h2, fun x => absurd (d1.trans d2.symm) x⟩
    · have d1 := div_lt' (2 * B) t i hB2 (by omega)
      obtain ⟨j', u1, u2, u3⟩ := m.1.inn j (by omega) h2
      refine ⟨fun x => by omega, fun _ => ?_⟩
      rw [m.1.out i (by omega), u3]
      exact (h i j' (by omega) u2).2.2 (by omega) (by omega)
theorem Blks.whole {K f : Nat → Nat} {B n : Nat} (h : Blks K f B n) (hn : n ≤ B) : SortedOn K f 0 n := by
  intro i j _ h2 h3
  have e1 : i / B = 0 := Nat.div_eq_of_lt (by omega)
  have e2 : j / B = 0 := Nat.div_eq_of_lt (by omega)
  exact (h i j h2 h3).1 (e1.trans e2.symm)

end Go.Proofs.Ytapcohpagipkpaa
