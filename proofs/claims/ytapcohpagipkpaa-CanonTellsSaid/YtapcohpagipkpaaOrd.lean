/-
  Rows of numbers as functions of their places: exchanges, rotations, and what a merge that keeps the order of equals makes. No program is named here.
-/
namespace Go.Proofs.Ytapcohpagipkpaa

/-- Two places exchanged. -/
def swapF (f : Nat → Nat) (i j : Nat) : Nat → Nat := fun k => if k = i then f j else if k = j then f i else f k

/-- g is f with the places from a up to b in some order. -/
def PermOn (a b : Nat) (f g : Nat → Nat) : Prop :=
  ∃ s t : Nat → Nat, (∀ k, g k = f (s k)) ∧ (∀ k, s (t k) = k) ∧ (∀ k, t (s k) = k) ∧ ∀ k, ¬ (a ≤ k ∧ k < b) → s k = k

theorem PermOn.refl (a b : Nat) (f : Nat → Nat) : PermOn a b f f := ⟨id, id, fun _ => rfl, fun _ => rfl, fun _ => rfl, fun _ _ => rfl⟩
theorem PermOn.trans {a b : Nat} {f g h : Nat → Nat} (p : PermOn a b f g) (q : PermOn a b g h) : PermOn a b f h := by
  obtain ⟨s, t, p1, p2, p3, p4⟩ := p
  obtain ⟨s', t', q1, q2, q3, q4⟩ := q
  refine ⟨fun k => s (s' k), fun k => t' (t k), fun k => by rw [q1, p1], fun k => by show s (s' (t' (t k))) = k; rw [q2, p2], fun k => by show t' (t (s (s' k))) = k; rw [p3, q3], fun k hk => ?_⟩
  show s (s' k) = k
  rw [q4 k hk, p4 k hk]
theorem PermOn.mono {a b a' b' : Nat} {f g : Nat → Nat} (p : PermOn a b f g) (ha : a' ≤ a) (hb : b ≤ b') : PermOn a' b' f g := by
  obtain ⟨s, t, p1, p2, p3, p4⟩ := p
  exact ⟨s, t, p1, p2, p3, fun k hk => p4 k (fun h => hk ⟨by omega, by omega⟩)⟩
theorem PermOn.out {a b : Nat} {f g : Nat → Nat} (p : PermOn a b f g) (k : Nat) (hk : ¬ (a ≤ k ∧ k < b)) : g k = f k := by
  obtain ⟨s, t, p1, _, _, p4⟩ := p
  rw [p1, p4 k hk]
theorem PermOn.inn {a b : Nat} {f g : Nat → Nat} (p : PermOn a b f g) (k : Nat) (ha : a ≤ k) (hb : k < b) : ∃ i, a ≤ i ∧ i < b ∧ g k = f i := by
  obtain ⟨s, t, p1, p2, p3, p4⟩ := p
  by_cases h : a ≤ s k ∧ s k < b
  · exact ⟨s k, h.1, h.2, p1 k⟩
  · have e := p4 (s k) h
    have e2 := congrArg t e
    rw [p3, p3] at e2
    rw [e2] at h
    exact absurd ⟨ha, hb⟩ h
theorem PermOn.swap {a b : Nat} (f : Nat → Nat) (i j : Nat) (h1 : a ≤ i) (h2 : i < b) (h3 : a ≤ j) (h4 : j < b) : PermOn a b f (swapF f i j) := by
  have inv : ∀ k : Nat, (if (if k = i then j else if k = j then i else k) = i then j else if (if k = i then j else if k = j then i else k) = j then i else (if k = i then j else if k = j then i else k)) = k := by
    intro k
    by_cases e1 : k = i
    · by_cases e3 : j = i
      · simp [e1, e3]
      · simp [e1, e3]
    · by_cases e2 : k = j
      · simp [e2, show ¬ j = i from fun h => e1 (by omega)]
      · simp [e1, e2]
  refine ⟨fun k => if k = i then j else if k = j then i else k, fun k => if k = i then j else if k = j then i else k, fun k => ?_, inv, inv, fun k hk => ?_⟩
  · unfold swapF; dsimp only; split
    · rfl
    · split <;> rfl
  · dsimp only
    rw [if_neg (by omega), if_neg (by omega)]

/-- So many places from a on, exchanged with those from b on. -/
def swapR (a b n : Nat) (f : Nat → Nat) : Nat → Nat := fun k => if a ≤ k ∧ k < a + n then f (k - a + b) else if b ≤ k ∧ k < b + n then f (k - b + a) else f k
/-- The places from a up to m, and those from m up to b, the one behind the other. -/
def rot (a m b : Nat) (f : Nat → Nat) : Nat → Nat := fun k => if k < a then f k else if k < a + (b - m) then f (k - a + m) else if k < b then f (k - (b - m)) else f k

theorem swapR_zero (a b : Nat) (f : Nat → Nat) : swapR a b 0 f = f := by
  funext k; unfold swapR; rw [if_neg (by omega), if_neg (by omega)]
theorem swapR_succ (a b n : Nat) (f : Nat → Nat) (h : a + n < b) : swapF (swapR a b n f) (a + n) (b + n) = swapR a b (n + 1) f := by
  funext k
  unfold swapF swapR
  repeat' split
  all_goals first | omega | rfl | (congr 1; omega)
theorem swapR_perm (a b n lo hi : Nat) (f : Nat → Nat) (h : a + n ≤ b) (h1 : lo ≤ a) (h2 : b + n ≤ hi) : PermOn lo hi f (swapR a b n f) := by
  have inv : ∀ k : Nat, (fun k => if a ≤ k ∧ k < a + n then k - a + b else if b ≤ k ∧ k < b + n then k - b + a else k) ((fun k => if a ≤ k ∧ k < a + n then k - a + b else if b ≤ k ∧ k < b + n then k - b + a else k) k) = k := by
    intro k
    dsimp only
    repeat' split
    all_goals omega
  refine ⟨fun k => if a ≤ k ∧ k < a + n then k - a + b else if b ≤ k ∧ k < b + n then k - b + a else k, fun k => if a ≤ k ∧ k < a + n then k - a + b else if b ≤ k ∧ k < b + n then k - b + a else k, fun k => ?_, inv, inv, fun k hk => ?_⟩
  · unfold swapR
    dsimp only
    by_cases e1 : a ≤ k ∧ k < a + n
    · rw [if_pos e1, if_pos e1]
    · rw [if_neg e1, if_neg e1]
      by_cases e2 : b ≤ k ∧ k < b + n
      · rw [if_pos e2, if_pos e2]
      · rw [if_neg e2, if_neg e2]
  · dsimp only
    rw [if_neg (by omega), if_neg (by omega)]
theorem rot_left (m i j : Nat) (f : Nat → Nat) (h : j < i) (him : i ≤ m) : rot (m - i + j) m (m + j) (swapR (m - i) m j f) = rot (m - i) m (m + j) f := by
  funext k
  unfold rot swapR
  repeat' split
  all_goals first | omega | rfl | (congr 1; omega)
theorem rot_right (m i j : Nat) (f : Nat → Nat) (h : i < j) (him : i ≤ m) : rot (m - i) m (m + (j - i)) (swapR (m - i) (m + j - i) i f) = rot (m - i) m (m + j) f := by
  funext k
  unfold rot swapR
  repeat' split
  all_goals first | omega | rfl | (congr 1; omega)
theorem rot_same (m i : Nat) (f : Nat → Nat) (him : i ≤ m) : swapR (m - i) m i f = rot (m - i) m (m + i) f := by
  funext k
  unfold rot swapR
  repeat' split
  all_goals first | omega | rfl | (congr 1; omega)

/-- The numbers K first; of equal ones the place. -/
def Lx (K : Nat → Nat) (x y : Nat) : Prop := K x < K y ∨ (K x = K y ∧ x < y)
theorem Lx.trans {K : Nat → Nat} {x y z : Nat} (h : Lx K x y) (k : Lx K y z) : Lx K x z := by unfold Lx at *; omega
theorem Lx.of_not {K : Nat → Nat} {x y : Nat} (h : x < y) (k : ¬ K y < K x) : Lx K x y := by unfold Lx; omega
theorem Lx.of_lt {K : Nat → Nat} {x y : Nat} (k : K x < K y) : Lx K x y := .inl k
theorem Lx.irrefl {K : Nat → Nat} {x : Nat} (h : Lx K x x) : False := by unfold Lx at h; omega

/-- The places from a up to b rise. -/
def SortedOn (K f : Nat → Nat) (a b : Nat) : Prop := ∀ i j, a ≤ i → i < j → j < b → Lx K (f i) (f j)
/-- What stands ahead of m came ahead of what stands behind it. -/
def Ahead (f : Nat → Nat) (a m b : Nat) : Prop := ∀ i j, a ≤ i → i < m → m ≤ j → j < b → f i < f j

theorem SortedOn.one (K f : Nat → Nat) (a b : Nat) (h : b ≤ a + 1) : SortedOn K f a b := fun i j h1 h2 h3 => by omega
theorem SortedOn.le {K f : Nat → Nat} {a b : Nat} (h : SortedOn K f a b) {i j : Nat} (h1 : a ≤ i) (h2 : i ≤ j) (h3 : j < b) {z : Nat} (hz : Lx K (f j) z) : Lx K (f i) z := by
  rcases Nat.lt_or_ge i j with e | e
  · exact (h i j h1 e h3).trans hz
  · obtain rfl : i = j := by omega
    exact hz
theorem SortedOn.ge {K f : Nat → Nat} {a b : Nat} (h : SortedOn K f a b) {i j : Nat} (h1 : a ≤ i) (h2 : i ≤ j) (h3 : j < b) {z : Nat} (hz : Lx K z (f i)) : Lx K z (f j) := by
  rcases Nat.lt_or_ge i j with e | e
  · exact hz.trans (h i j h1 e h3)
  · obtain rfl : i = j := by omega
    exact hz
theorem SortedOn.sub {K f : Nat → Nat} {a b a' b' : Nat} (h : SortedOn K f a b) (ha : a ≤ a') (hb : b' ≤ b) : SortedOn K f a' b' := fun i j h1 h2 h3 => h i j (by omega) h2 (by omega)

/-- What a merge leaves: its places in order, nothing else turned. -/
def Merged (K : Nat → Nat) (a b : Nat) (f g : Nat → Nat) : Prop := PermOn a b f g ∧ SortedOn K g a b

/-- What a merge divides: the two halves behind the rotation. -/
theorem split_halves (K f : Nat → Nat) (a m b mid s e : Nat) (hL : SortedOn K f a m) (hR : SortedOn K f m b) (hA : Ahead f a m b) (h1 : a ≤ s) (h2 : s ≤ m) (h3 : m ≤ e) (h4 : e ≤ b) (h5 : s + e = mid + m)
    (c1 : s = a ∨ e = b ∨ Lx K (f (s - 1)) (f e)) (c2 : s = m ∨ e = m ∨ Lx K (f (e - 1)) (f s)) :
    SortedOn K (rot s m e f) a s ∧ SortedOn K (rot s m e f) s mid ∧ Ahead (rot s m e f) a s mid ∧ SortedOn K (rot s m e f) mid e ∧ SortedOn K (rot s m e f) e b ∧ Ahead (rot s m e f) mid e b ∧
    ∀ i j, a ≤ i → i < mid → mid ≤ j → j < b → Lx K (rot s m e f i) (rot s m e f j) := by
  have r1 : ∀ k, k < s → rot s m e f k = f k := fun k hk => by unfold rot; rw [if_pos hk]
  have r2 : ∀ k, s ≤ k → k < mid → rot s m e f k = f (k - s + m) := fun k h h' => by unfold rot; rw [if_neg (by omega), if_pos (by omega)]
  have r3 : ∀ k, mid ≤ k → k < e → rot s m e f k = f (k - (e - m)) := fun k h h' => by unfold rot; rw [if_neg (by omega), if_neg (by omega), if_pos h']
  have r4 : ∀ k, e ≤ k → rot s m e f k = f k := fun k h => by unfold rot; rw [if_neg (by omega), if_neg (by omega), if_neg (by omega)]
  refine ⟨fun i j x y z => ?_, fun i j x y z => ?_, fun i j x y z u => ?_, fun i j x y z => ?_, fun i j x y z => ?_, fun i j x y z u => ?_, fun i j x y z u => ?_⟩
  · rw [r1 i (by omega), r1 j (by omega)]; exact hL i j x y (by omega)
  · rw [r2 i x (by omega), r2 j (by omega) z]; exact hR _ _ (by omega) (by omega) (by omega)
  · rw [r1 i y, r2 j z u]; exact hA _ _ x (by omega) (by omega) (by omega)
  · rw [r3 i x (by omega), r3 j (by omega) z]; exact hL _ _ (by omega) (by omega) (by omega)
  · rw [r4 i x, r4 j (by omega)]; exact hR _ _ (by omega) y z
  · rw [r3 i x y, r4 j z]; exact hA _ _ (by omega) (by omega) (by omega) u
  · by_cases p : i < s
    · rw [r1 i p]
      by_cases q : j < e
      · rw [r3 j z q]; exact hL _ _ x (by omega) (by omega)
      · rw [r4 j (by omega)]
        rcases c1 with c | c | c
        · omega
        · omega
        · exact hL.le x (show i ≤ s - 1 by omega) (by omega) (hR.ge (show m ≤ e by omega) (by omega) u c)
    · rw [r2 i (by omega) y]
      by_cases q : j < e
      · rw [r3 j z q]
        rcases c2 with c | c | c
        · omega
        · omega
        · exact hR.le (show m ≤ i - s + m by omega) (show i - s + m ≤ e - 1 by omega) (by omega) (hL.ge (show a ≤ s by omega) (by omega) (by omega) c)
      · rw [r4 j (by omega)]; exact hR _ _ (by omega) (by omega) u

/-- Both halves merged: the whole. -/
theorem merge_halves (K f f1 f2 f3 : Nat → Nat) (a mid b : Nat) (ha : a ≤ mid) (hb : mid ≤ b) (h1 : PermOn a b f f1) (hx : ∀ i j, a ≤ i → i < mid → mid ≤ j → j < b → Lx K (f1 i) (f1 j)) (h2 : Merged K a mid f1 f2) (h3 : Merged K mid b f2 f3) : Merged K a b f f3 := by
  refine ⟨(h1.trans (h2.1.mono (Nat.le_refl _) hb)).trans (h3.1.mono ha (Nat.le_refl _)), fun i j x y z => ?_⟩
  by_cases p : j < mid
  · rw [h3.1.out i (by omega), h3.1.out j (by omega)]; exact h2.2 i j x y p
  · by_cases q : mid ≤ i
    · exact h3.2 i j q y z
    · rw [h3.1.out i (by omega)]
      obtain ⟨i', u1, u2, u3⟩ := h2.1.inn i x (by omega)
      obtain ⟨j', v1, v2, v3⟩ := h3.1.inn j (by omega) z
      rw [u3, v3, h2.1.out j' (by omega)]
      exact hx i' j' u1 u2 v1 v2
theorem merged_nil (K f : Nat → Nat) (a s mid : Nat) (h1 : SortedOn K f a s) (h2 : SortedOn K f s mid) (h : ¬ (a < s ∧ s < mid)) : Merged K a mid f f := by
  refine ⟨PermOn.refl _ _ _, fun i j x y z => ?_⟩
  by_cases p : a < s
  · exact h1 i j x y (by omega)
  · exact h2 i j (by omega) y z

/-- One ahead of many: it is put behind those that are less. -/
theorem one_left (K f : Nat → Nat) (a i b : Nat) (hR : SortedOn K f (a + 1) b) (h1 : a + 1 ≤ i) (h2 : i ≤ b) (hlt : ∀ k, a + 1 ≤ k → k < i → Lx K (f k) (f a)) (hge : ∀ k, i ≤ k → k < b → Lx K (f a) (f k)) : SortedOn K (rot a (a + 1) i f) a b := by
  have r2 : ∀ k, a ≤ k → k + 1 < i → rot a (a + 1) i f k = f (k + 1) := fun k h h' => by unfold rot; rw [if_neg (by omega), if_pos (by omega)]; congr 1; omega
  have r3 : rot a (a + 1) i f (i - 1) = f a := by unfold rot; rw [if_neg (by omega), if_neg (by omega), if_pos (by omega)]; congr 1; omega
  have r4 : ∀ k, i ≤ k → rot a (a + 1) i f k = f k := fun k h => by unfold rot; rw [if_neg (by omega), if_neg (by omega), if_neg (by omega)]
  intro x y hx hxy hy
  by_cases p : x + 1 < i
  · rw [r2 x hx p]
    by_cases q : y + 1 < i
    · rw [r2 y (by omega) q]; exact hR _ _ (by omega) (by omega) (by omega)
    · by_cases q2 : y = i - 1
      · rw [q2, r3]; exact hlt _ (by omega) (by omega)
      · rw [r4 y (by omega)]; exact hR _ _ (by omega) (by omega) hy
  · by_cases p2 : x = i - 1
    · rw [p2, r3, r4 y (by omega)]; exact hge _ (by omega) hy
    · rw [r4 x (by omega), r4 y (by omega)]; exact hR _ _ (by omega) hxy hy
/-- One behind many: it is put ahead of those that are greater. -/
theorem one_right (K f : Nat → Nat) (a i m : Nat) (hL : SortedOn K f a m) (h1 : a ≤ i) (h2 : i ≤ m) (hlt : ∀ k, a ≤ k → k < i → Lx K (f k) (f m)) (hge : ∀ k, i ≤ k → k < m → Lx K (f m) (f k)) : SortedOn K (rot i m (m + 1) f) a (m + 1) := by
  have r1 : ∀ k, k < i → rot i m (m + 1) f k = f k := fun k h => by unfold rot; rw [if_pos h]
  have r2 : rot i m (m + 1) f i = f m := by unfold rot; rw [if_neg (by omega), if_pos (by omega)]; congr 1; omega
  have r3 : ∀ k, i < k → k < m + 1 → rot i m (m + 1) f k = f (k - 1) := fun k h h' => by unfold rot; rw [if_neg (by omega), if_neg (by omega), if_pos h']; congr 1; omega
  intro x y hx hxy hy
  by_cases p : x < i
  · rw [r1 x p]
    by_cases q : y < i
    · rw [r1 y q]; exact hL _ _ hx hxy (by omega)
    · by_cases q2 : y = i
      · rw [q2, r2]; exact hlt _ hx p
      · rw [r3 y (by omega) hy]
        exact hL _ _ hx (by omega) (by omega)
  · by_cases p2 : x = i
    · rw [p2, r2, r3 y (by omega) hy]; exact hge _ (by omega) (by omega)
    · rw [r3 x (by omega) (by omega), r3 y (by omega) hy]; exact hL _ _ (by omega) (by omega) (by omega)
/-- A rotation by one, step by step upwards. -/
theorem rot_up (a k : Nat) (f : Nat → Nat) (h : a ≤ k) : swapF (rot a (a + 1) (k + 1) f) k (k + 1) = rot a (a + 1) (k + 2) f := by
  funext x
  unfold swapF rot
  repeat' split
  all_goals first | omega | rfl | (congr 1; omega)
theorem rot_down (k m : Nat) (f : Nat → Nat) (h : k < m) : swapF (rot (k + 1) m (m + 1) f) (k + 1) k = rot k m (m + 1) f := by
  funext x
  unfold swapF rot
  repeat' split
  all_goals first | omega | rfl | (congr 1; omega)
theorem rot_none_left (a : Nat) (f : Nat → Nat) : rot a (a + 1) (a + 1) f = f := by
  funext x
  unfold rot
  repeat' split
  all_goals first | omega | rfl | (congr 1; omega)
theorem rot_none_right (m : Nat) (f : Nat → Nat) : rot m m (m + 1) f = f := by
  funext x
  unfold rot
  repeat' split
  all_goals first | omega | rfl | (congr 1; omega)
theorem rot_none (s m e : Nat) (f : Nat → Nat) (h1 : s ≤ m) (h2 : m ≤ e) (h : ¬ (s < m ∧ m < e)) : rot s m e f = f := by
  funext x
  unfold rot
  repeat' split
  all_goals first | omega | rfl | (congr 1; omega)

/-- An insertion under way: the number that is put in stands at j, all others up to i rise. -/
def Ins (K f : Nat → Nat) (a i j : Nat) : Prop :=
  (∀ x y, a ≤ x → x < y → y ≤ i → x ≠ j → y ≠ j → Lx K (f x) (f y)) ∧ (∀ y, j < y → y ≤ i → Lx K (f j) (f y)) ∧ ∀ x, a ≤ x → x ≤ i → x ≠ j → f x < f j
theorem Ins.step {K f : Nat → Nat} {a i j : Nat} (h : Ins K f a i (j + 1)) (ha : a ≤ j) (hi : j + 1 ≤ i) (hk : K (f (j + 1)) < K (f j)) : Ins K (swapF f (j + 1) j) a i j := by
  have s1 : swapF f (j + 1) j (j + 1) = f j := by unfold swapF; rw [if_pos rfl]
  have s2 : swapF f (j + 1) j j = f (j + 1) := by unfold swapF; rw [if_neg (by omega), if_pos rfl]
  have s3 : ∀ k, k ≠ j → k ≠ j + 1 → swapF f (j + 1) j k = f k := fun k h1 h2 => by unfold swapF; rw [if_neg h2, if_neg h1]
  refine ⟨fun x y h1 h2 h3 h4 h5 => ?_, fun y h1 h2 => ?_, fun x h1 h2 h3 => ?_⟩
  · by_cases p : x = j + 1
    · rw [p, s1, s3 y h5 (by omega)]; exact h.1 j y ha (by omega) h3 (by omega) (by omega)
    · by_cases q : y = j + 1
      · rw [q, s1, s3 x h4 p]; exact h.1 x j h1 (by omega) (by omega) (by omega) (by omega)
      · rw [s3 x h4 p, s3 y h5 q]; exact h.1 x y h1 h2 h3 p q
  · rw [s2]
    by_cases q : y = j + 1
    · rw [q, s1]; exact .inl hk
    · rw [s3 y (by omega) q]; exact h.2.1 y (by omega) h2
  · rw [s2]
    by_cases q : x = j + 1
    · rw [q, s1]; exact h.2.2 j ha (by omega) (by omega)
    · rw [s3 x h3 q]; exact h.2.2 x h1 h2 q
theorem Ins.done {K f : Nat → Nat} {a i j : Nat} (h : Ins K f a i j) (ha : a ≤ j) (hi : j ≤ i) (hk : j = a ∨ ¬ K (f j) < K (f (j - 1))) : SortedOn K f a (i + 1) := by
  intro x y h1 h2 h3
  by_cases p : x = j
  · rw [p]; exact h.2.1 y (by omega) (by omega)
  · by_cases q : y = j
    · rw [q]
      rcases hk with hk | hk
      · omega
      · have hl : Lx K (f (j - 1)) (f j) := Lx.of_not (h.2.2 (j - 1) (by omega) (by omega) (by omega)) hk
        by_cases r : x = j - 1
        · rw [r]; exact hl
        · exact (h.1 x (j - 1) h1 (by omega) (by omega) p (by omega)).trans hl
    · exact h.1 x y h1 h2 (by omega) p q
theorem Ins.start {K f : Nat → Nat} {a i : Nat} (hs : SortedOn K f a i) (hA : ∀ x, a ≤ x → x < i → f x < f i) : Ins K f a i i :=
  ⟨fun x y h1 h2 h3 h4 h5 => hs x y h1 h2 (by omega), fun y h1 h2 => by omega, fun x h1 h2 h3 => hA x h1 (by omega)⟩

/-- Blocks of B places: each rises, and what came first stands in the earlier one. -/
def Blk (K f : Nat → Nat) (B n : Nat) : Prop := ∀ i j, i < j → j < n → (i / B = j / B → Lx K (f i) (f j)) ∧ (i / B < j / B → f i < f j)
/-- Up to a in blocks of 2 B places, from there on in blocks of B. -/
def Half (K f : Nat → Nat) (B a n : Nat) : Prop := ∀ i j, i < j → j < n → (j < a → i / (2 * B) = j / (2 * B) → Lx K (f i) (f j)) ∧ (a ≤ i → i / B = j / B → Lx K (f i) (f j)) ∧ (j < a → i / (2 * B) < j / (2 * B) → f i < f j) ∧ (a ≤ i → i / B < j / B → f i < f j) ∧ (i < a → a ≤ j → f i < f j)

end Go.Proofs.Ytapcohpagipkpaa
