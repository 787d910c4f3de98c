/-
  A chunk with one byte more is none: reading that wants no byte reads the same with a byte more, which is left then.
-/
import Derived.Test.YtinhlkioeadfdaaLzx
namespace Go.Proofs.Ytinhlkioeadfdaa
set_option linter.unusedVariables false

def moreD (y : Nat) (d : Dec) : Dec := { d with rest := d.rest ++ [y] }
def moreX (y : Nat) (x : Cx) : Cx := ⟨x.c, moreD y x.d⟩
/-- Where no byte was wanting behind it, none was ahead of it, and a byte more changes nothing. -/
def Sure {A : Type} (f : Cx → A × Cx) : Prop := ∀ (y : Nat) (x : Cx), (f x).2.d.want = false → x.d.want = false ∧ f (moreX y x) = ((f x).1, moreX y (f x).2)
theorem takeD_more (y : Nat) (d : Dec) (h : (takeD d).want = false) : d.want = false ∧ takeD (moreD y d) = moreD y (takeD d) := by
  obtain ⟨span, code, rest, want⟩ := d
  cases rest with
  | nil => simp [takeD] at h
  | cons a r => exact ⟨h, rfl⟩
theorem ordD_more (y : Nat) (d : Dec) (h : (ordD d).want = false) : d.want = false ∧ ordD (moreD y d) = moreD y (ordD d) := by
  unfold ordD at *
  have e : (moreD y d).span = d.span := rfl
  rw [e]
  split
  · rename_i hs
    rw [if_pos hs] at h
    have := takeD_more y { d with span := d.span * 256 } h
    exact ⟨this.1, this.2⟩
  · rename_i hs
    rw [if_neg hs] at h
    exact ⟨h, rfl⟩
theorem narD_want (d : Dec) (c : Nat) : (narD d c).want = d.want := by unfold narD; split <;> rfl
theorem narD_more (y : Nat) (d : Dec) (c : Nat) : narD (moreD y d) c = moreD y (narD d c) := by
  unfold narD
  rw [show oneD (moreD y d) c = oneD d c from rfl]
  split <;> rfl
theorem halfD_want (d : Dec) : (halfD d).want = d.want := by unfold halfD; split <;> rfl
theorem halfD_more (y : Nat) (d : Dec) : halfD (moreD y d) = moreD y (halfD d) := by
  unfold halfD
  rw [show topD (moreD y d) = topD d from rfl]
  split <;> rfl
theorem sure_bit (o : Nat) : Sure (bitM o) := by
  intro y x h
  have h1 : (ordD x.d).want = false := by
    have : (narD (ordD x.d) (fairN (x.c o))).want = false := h
    rwa [narD_want] at this
  obtain ⟨h2, h3⟩ := ordD_more y x.d h1
  refine ⟨h2, ?_⟩
  have e1 : bitX (moreX y x) o = bitX x o := by
    show oneD (ordD (moreD y x.d)) (fairN (x.c o)) = _
    rw [h3]
    rfl
  show (bN (bitX (moreX y x) o), stepX (moreX y x) o) = _
  rw [e1]
  show (_, (⟨putC x.c o (learnN (fairN (x.c o)) (bitX (moreX y x) o)), narD (ordD (moreD y x.d)) (fairN (x.c o))⟩ : Cx)) = _
  rw [e1, h3, narD_more]
  rfl
theorem dirD_more (y : Nat) (k : Nat) : ∀ (d : Dec) (z : Nat), (dirD k d z).1.want = false → d.want = false ∧ dirD k (moreD y d) z = (moreD y (dirD k d z).1, (dirD k d z).2) := by
  induction k with
  | zero => exact fun d z h => ⟨h, rfl⟩
  | succ k ih =>
    intro d z h
    obtain ⟨h1, h2⟩ := ih (halfD (ordD d)) (z * 2 + if topD (ordD d) then 1 else 0) h
    rw [halfD_want] at h1
    obtain ⟨h3, h4⟩ := ordD_more y d h1
    refine ⟨h3, ?_⟩
    show dirD k (halfD (ordD (moreD y d))) (z * 2 + if topD (ordD (moreD y d)) then 1 else 0) = _
    rw [h4, halfD_more]
    exact h2
theorem sure_dir (k : Nat) : Sure (dirM k) := by
  intro y x h
  obtain ⟨h1, h2⟩ := dirD_more y k x.d 0 h
  refine ⟨h1, ?_⟩
  show ((dirD k (moreD y x.d) 0).2, (⟨x.c, (dirD k (moreD y x.d) 0).1⟩ : Cx)) = _
  rw [h2]
  rfl
theorem sure_ret {A : Type} (a : A) : Sure (ret a) := fun y x h => ⟨h, rfl⟩
theorem sure_bnd {A B : Type} {f : Cx → A × Cx} {g : A → Cx → B × Cx} (hf : Sure f) (hg : ∀ a, Sure (g a)) : Sure (bnd f g) := by
  intro y x h
  obtain ⟨h1, h2⟩ := hg (f x).1 y (f x).2 h
  obtain ⟨h3, h4⟩ := hf y x h1
  refine ⟨h3, ?_⟩
  show g (f (moreX y x)).1 (f (moreX y x)).2 = _
  rw [h4]
  exact h2
theorem sure_ite {A : Type} {c : Prop} [Decidable c] {f g : Cx → A × Cx} (hf : Sure f) (hg : Sure g) : Sure (if c then f else g) := by
  split
  · exact hf
  · exact hg
theorem sure_walk (o k : Nat) : ∀ m, Sure (walkM o k m) := by
  induction k with
  | zero => exact fun m => sure_ret m
  | succ k ih => exact fun m => sure_bnd (sure_bit _) (fun b => ih _)
theorem sure_read (o n : Nat) : Sure (readM o n) := sure_bnd (sure_walk _ _ _) (fun _ => sure_ret _)
theorem sure_back (o k : Nat) : ∀ i m t, Sure (backM o k i m t) := by
  induction k with
  | zero => exact fun i m t => sure_ret t
  | succ k ih => exact fun i m t => sure_bnd (sure_bit _) (fun b => ih _ _ _)
theorem sure_like (o other k : Nat) : ∀ m, Sure (likeM o other k m) := by
  induction k with
  | zero => exact fun m => sure_ret m
  | succ k ih => exact fun m => sure_bnd (sure_bit _) (fun b => sure_ite (ih _) (sure_walk _ _ _))
theorem sure_len (L p : Nat) : Sure (lenM L p) :=
  sure_bnd (sure_bit _) (fun a => sure_ite (sure_bnd (sure_read _ _) (fun _ => sure_ret _)) (sure_bnd (sure_bit _) (fun b => sure_ite (sure_bnd (sure_read _ _) (fun _ => sure_ret _)) (sure_bnd (sure_read _ _) (fun _ => sure_ret _)))))
theorem sure_dist (l : Nat) : Sure (distM l) :=
  sure_bnd (sure_read _ _) (fun s => sure_ite (sure_ret _) (sure_ite (sure_bnd (sure_back _ _ _ _ _) (fun _ => sure_ret _)) (sure_bnd (sure_dir _) (fun _ => sure_bnd (sure_back _ _ _ _ _) (fun _ => sure_ret _)))))
theorem sure_lit (K : Ck) (s : Se) (win told : List Nat) : Sure (litM K s win told) := by
  unfold litM
  exact sure_ite (sure_read _ _) (sure_bnd (sure_like _ _ _ _) (fun _ => sure_ret _))
theorem sure_match (s : Se) (p : Nat) : Sure (matchM s p) := sure_bnd (sure_len _ _) (fun l => sure_bnd (sure_dist l) (fun _ => sure_ret _))
theorem sure_last (s : Se) (p k : Nat) : Sure (lastM s p k) := sure_bnd (sure_len _ _) (fun _ => sure_ret _)
theorem sure_rep (s : Se) (p : Nat) : Sure (repM s p) :=
  sure_bnd (sure_bit _) (fun a => sure_ite (sure_bnd (sure_bit _) (fun b => sure_ite (sure_ret _) (sure_last _ _ _))) (sure_bnd (sure_bit _) (fun b => sure_ite (sure_last _ _ _) (sure_bnd (sure_bit _) (fun c => sure_ite (sure_last _ _ _) (sure_last _ _ _))))))
theorem sure_op (K : Ck) (s : Se) (win told : List Nat) : Sure (opM K s win told) :=
  sure_bnd (sure_bit _) (fun a => sure_ite (sure_bnd (sure_lit _ _ _ _) (fun _ => sure_ret _)) (sure_bnd (sure_bit _) (fun b => sure_ite (sure_bnd (sure_match _ _) (fun _ => sure_ret _)) (sure_bnd (sure_rep _ _) (fun _ => sure_ret _)))))
theorem sure_run (K : Ck) (k : Nat) : ∀ (s : Se) (win told : List Nat), Sure (runM K k s win told) := by
  induction k with
  | zero => exact fun s win told => sure_ret _
  | succ k ih =>
    intro s win told
    unfold runM
    refine sure_ite (sure_ret _) (sure_bnd (sure_op _ _ _ _) (fun r => ?_))
    obtain ⟨s1, q⟩ := r
    match q with
    | none => exact sure_ret _
    | some (true, v) => exact ih _ _ _
    | some (false, l) => exact sure_ite (sure_ret _) (sure_ite (sure_ret _) (ih _ _ _))
theorem newD_more (b : List Nat) (y : Nat) (h : 5 ≤ b.length) : newD (b ++ [y]) = moreD y (newD b) := by
  unfold newD moreD
  dsimp only
  rw [List.drop_append_of_le_length (by omega), List.drop_append_of_le_length (by omega), List.take_append_of_le_length (by rw [List.length_drop]; omega)]
/-- A chunk with a byte more is none. -/
theorem chunk_more (K : Ck) (s : Se) (c : Nat → Nat) (win b : List Nat) (y : Nat) (h5 : 5 ≤ b.length) (o : Out) (h : chunkM K s c win b = some o) : chunkM K s c win (b ++ [y]) = none := by
  unfold chunkM chunkR at *
  have hsure := sure_run K K.n s win [] y ⟨c, newD b⟩
  rw [newD_more b y h5]
  rw [show (⟨c, moreD y (newD b)⟩ : Cx) = moreX y ⟨c, newD b⟩ from rfl]
  generalize runM K K.n s win [] ⟨c, newD b⟩ = R at *
  obtain ⟨q, xx⟩ := R
  cases q with
  | none => cases h
  | some q =>
    dsimp only at h hsure
    split at h
    · rename_i hok
      unfold okEnd at hok
      rw [Bool.and_eq_true, decide_eq_true_iff, decide_eq_true_iff] at hok
      have hw : (ordD xx.d).want = false := by
        have := hok.2
        unfold endE at this
        split at this
        · cases this
        · rename_i hh; simpa using hh
      obtain ⟨h1, h2⟩ := ordD_more y xx.d hw
      obtain ⟨-, h3⟩ := hsure h1
      rw [h3]
      dsimp only
      have hbad : okEnd (moreX y xx).d = false := by
        show okEnd (moreD y xx.d) = false
        unfold okEnd
        rw [h2]
        have e1 : endE (moreD y (ordD xx.d)) = endE (ordD xx.d) := rfl
        have e2 : endL (moreD y (ordD xx.d)) = (ordD xx.d).rest.length + 1 := by
          unfold endL
          rw [e1, if_pos hok.2]
          show ((ordD xx.d).rest ++ [y]).length = _
          simp
        rw [e2]
        simp
      rw [hbad]
      rfl
    · cases h

end Go.Proofs.Ytinhlkioeadfdaa
