/-
  Bytes as they are, written by ranges, are told again: plain numbers.
-/
import Derived.Test.YtinhlkioeadfdaaLzx
import Derived.Test.YtinhlkioeadfdaaRss
namespace Go.Proofs.Ytinhlkioeadfdaa
set_option linter.unusedVariables false

/-- An encoder and chances by their places. -/
structure Ex where
  c : Nat → Nat
  e : Enc
def bitEX (z : Ex) (o : Nat) (one : Bool) : Ex := ⟨putC z.c o (learnN (fairN (z.c o)) one), bitE z.e (fairN (z.c o)) one⟩
/-- The k lowest bits of v by a tree, from number m on. -/
def treeE (o v : Nat) : Nat → Nat → Ex → Ex
  | 0, _, z => z
  | k + 1, m, z => treeE o v k (2 * m + v / 2 ^ k % 2) (bitEX z (o + m) (v / 2 ^ k % 2 == 1))
def byteE (i ahead v : Nat) (z : Ex) : Ex := treeE (440 + ahead / 32 * 768) v 8 1 (bitEX z (8 + i % 4) false)
/-- Bytes from number i on, behind one. -/
def bytesE : List Nat → Nat → Nat → Ex → Ex
  | [], _, _, z => z
  | v :: r, i, ahead, z => bytesE r (i + 1) v (byteE i ahead v z)
def madeE (b : List Nat) : Ex := bytesE b 0 0 ⟨fun _ => 1024, newE⟩
def madeB (b : List Nat) : List Nat := (closeE (madeE b).e).out
theorem bitEX_good {z : Ex} (h : Good z.e) (o : Nat) (one : Bool) : Good (bitEX z o one).e := bitE_good h (fairN_bd _).1 (fairN_bd _).2 one
theorem treeE_good (o v k : Nat) : ∀ (m : Nat) (z : Ex), Good z.e → Good (treeE o v k m z).e := by
  induction k with
  | zero => exact fun m z h => h
  | succ k ih => exact fun m z h => ih _ _ (bitEX_good h _ _)
theorem byteE_good {z : Ex} (i ahead v : Nat) (h : Good z.e) : Good (byteE i ahead v z).e := treeE_good _ _ _ _ _ (bitEX_good h _ _)
theorem bytesE_good (l : List Nat) : ∀ (i ahead : Nat) (z : Ex), Good z.e → Good (bytesE l i ahead z).e := by
  induction l with
  | nil => exact fun i ahead z h => h
  | cons v r ih => exact fun i ahead z h => ih _ _ _ (byteE_good i ahead v h)
theorem bitEX_has {b : List Nat} (hb : ∀ j : Nat, b[j]?.getD 0 < 256) {z : Ex} (h : Good z.e) (o : Nat) (one : Bool) (hh : Has b (bitEX z o one).e) : Has b z.e := bit_has hb h (fairN_bd _).1 (fairN_bd _).2 one hh
theorem treeE_has {b : List Nat} (hb : ∀ j : Nat, b[j]?.getD 0 < 256) (o v k : Nat) : ∀ (m : Nat) (z : Ex), Good z.e → Has b (treeE o v k m z).e → Has b z.e := by
  induction k with
  | zero => exact fun m z h hh => hh
  | succ k ih => exact fun m z h hh => bitEX_has hb h _ _ (ih _ _ (bitEX_good h _ _) hh)
theorem bytesE_has {b : List Nat} (hb : ∀ j : Nat, b[j]?.getD 0 < 256) (l : List Nat) : ∀ (i ahead : Nat) (z : Ex), Good z.e → Has b (bytesE l i ahead z).e → Has b z.e := by
  induction l with
  | nil => exact fun i ahead z h hh => hh
  | cons v r ih => exact fun i ahead z h hh => bitEX_has hb h _ _ (treeE_has hb _ _ _ _ _ (bitEX_good h _ _) (ih _ _ _ (byteE_good i ahead v h) hh))
/-- A decoder that stands where an encoder stood. -/
structure Syn (b : List Nat) (x : Cx) (z : Ex) : Prop where
  c : x.c = z.c
  d : ordD x.d = syncD b z.e
theorem Syn.bit {b : List Nat} (hb : ∀ j : Nat, b[j]?.getD 0 < 256) {x : Cx} {z : Ex} (h : Syn b x z) (hg : Good z.e) (o : Nat) (one : Bool) (hh : Has b (bitEX z o one).e) : bitX x o = one ∧ Syn b (stepX x o) (bitEX z o one) := by
  obtain ⟨h1, h2⟩ := bit_sync hb hg (fairN_bd (z.c o)).1 (fairN_bd (z.c o)).2 one hh h.d
  have e : bitX x o = one := by unfold bitX; rw [h.c]; exact h1
  refine ⟨e, ?_, ?_⟩
  · show putC x.c o (learnN (fairN (x.c o)) (bitX x o)) = _
    rw [e, h.c]
    rfl
  · show ordD (narD (ordD x.d) (fairN (x.c o))) = _
    rw [h.c]
    exact h2
theorem bN_bit (t : Nat) (h : t < 2) : bN (t == 1) = t := by
  have : t = 0 ∨ t = 1 := by omega
  rcases this with rfl | rfl <;> rfl
theorem Syn.walk {b : List Nat} (hb : ∀ j : Nat, b[j]?.getD 0 < 256) (o v k : Nat) : ∀ (m : Nat) (x : Cx) (z : Ex), Syn b x z → Good z.e → Has b (treeE o v k m z).e → (walkM o k m x).1 = m * 2 ^ k + v % 2 ^ k ∧ Syn b (walkM o k m x).2 (treeE o v k m z) := by
  induction k with
  | zero => intro m x z h hg hh; exact ⟨by simp [walkM, ret, Nat.mod_one], h⟩
  | succ k ih =>
    intro m x z h hg hh
    have h1 := treeE_has hb o v k _ _ (bitEX_good hg _ _) hh
    obtain ⟨h2, h3⟩ := h.bit hb hg (o + m) (v / 2 ^ k % 2 == 1) h1
    have h4 := ih (2 * m + v / 2 ^ k % 2) (stepX x (o + m)) (bitEX z (o + m) (v / 2 ^ k % 2 == 1)) h3 (bitEX_good hg _ _) hh
    have e : walkM o (k + 1) m x = walkM o k (2 * m + v / 2 ^ k % 2) (stepX x (o + m)) := by
      show walkM o k (2 * m + bN (bitX x (o + m))) (stepX x (o + m)) = _
      rw [h2, bN_bit _ (Nat.mod_lt _ (by decide))]
    rw [e]
    refine ⟨?_, h4.2⟩
    rw [h4.1, Nat.pow_succ]
    have hm : v % (2 ^ k * 2) = v % 2 ^ k + 2 ^ k * (v / 2 ^ k % 2) := Nat.mod_mul
    rw [hm, Nat.add_mul]
    have : 2 * m * 2 ^ k = m * (2 ^ k * 2) := by rw [Nat.mul_comm (2 ^ k) 2, ← Nat.mul_assoc, Nat.mul_comm m 2]
    rw [this, Nat.mul_comm (v / 2 ^ k % 2)]
    omega
/-- What a reader of bytes as they are has. -/
theorem plain_run {b : List Nat} (hb : ∀ j : Nat, b[j]?.getD 0 < 256) (K : Ck) (hK : K.place = 0 ∧ K.ahead = false ∧ K.size = 1) (l : List Nat) : ∀ (told : List Nat) (x : Cx) (z : Ex), (∀ v ∈ l, v < 256) → (∀ v ∈ told, v < 256) → told.length + l.length = K.n → Syn b x z → Good z.e → Has b (bytesE l told.length (told.getLast?.getD 0) z).e →
    ∃ win x', runM K l.length (newS 3 0 2) (lastN 1 told) told x = (some (newS 3 0 2, win, told ++ l), x') ∧ Syn b x' (bytesE l told.length (told.getLast?.getD 0) z) := by
  induction l with
  | nil =>
    intro told x z h1 h2 h3 h4 h5 h6
    exact ⟨_, x, by rw [List.append_nil]; rfl, h4⟩
  | cons v r ih =>
    intro told x z h1 h2 h3 h4 h5 h6
    have hv := h1 v (by simp)
    rw [List.length_cons] at h3
    have hlen : told.length < K.n := by omega
    have hla : lastN1 K (lastN 1 told) told = told.getLast?.getD 0 := by
      unfold lastN1
      rw [hK.2.1, Bool.false_or]
      rcases List.eq_nil_or_concat told with rfl | ⟨t, u, rfl⟩
      · rfl
      · rw [if_pos (by simp)]
        unfold atW lastN
        simp
    have hbh := bytesE_has hb r _ _ _ (byteE_good _ _ _ h5) h6
    have hb1 := treeE_has hb _ _ _ _ _ (bitEX_good h5 _ _) hbh
    obtain ⟨q1, q2⟩ := h4.bit hb h5 (8 + told.length % 4) false hb1
    have hlow : lowN K told 2 = told.length % 4 := by unfold lowN; rw [hK.1, Nat.zero_add]
    have hop1 : bN (bitX x (8 + (newS 3 0 2).ph * 16 + lowN K told (newS 3 0 2).pb)) = 0 := by
      show bN (bitX x (8 + 0 * 16 + lowN K told 2)) = 0
      rw [hlow, Nat.zero_mul, Nat.add_zero, q1]
      rfl
    have hT : litT K (newS 3 0 2) (lastN 1 told) told = told.getLast?.getD 0 / 32 := by
      show lowN K told 0 * 2 ^ 3 + lastN1 K (lastN 1 told) told / 2 ^ (8 - 3) = _
      rw [hla]
      have : lowN K told 0 = 0 := Nat.mod_one _
      rw [this]
      simp
    have q3 := q2.walk hb (440 + told.getLast?.getD 0 / 32 * 768) v 8 1 _ _ (bitEX_good h5 _ _) hbh
    have hstep : stepX x (8 + (newS 3 0 2).ph * 16 + lowN K told (newS 3 0 2).pb) = stepX x (8 + told.length % 4) := by
      show stepX x (8 + 0 * 16 + lowN K told 2) = _
      rw [hlow, Nat.zero_mul, Nat.add_zero]
    have hlit : litM K (newS 3 0 2) (lastN 1 told) told (stepX x (8 + told.length % 4)) = (v, (walkM (440 + told.getLast?.getD 0 / 32 * 768) 8 1 (stepX x (8 + told.length % 4))).2) := by
      unfold litM
      rw [if_pos (by decide), hT]
      show ((walkM _ 8 1 _).1 - 2 ^ 8, _) = _
      rw [q3.1, Nat.mod_eq_of_lt (show v < 2 ^ 8 from hv), Nat.one_mul, Nat.add_sub_cancel_left]
    have hop : opM K (newS 3 0 2) (lastN 1 told) told x = ((newS 3 0 2, some (true, v)), (walkM (440 + told.getLast?.getD 0 / 32 * 768) 8 1 (stepX x (8 + told.length % 4))).2) := by
      refine (bnd_z _ _ _ _ hop1).trans ?_
      show bnd (litM K (newS 3 0 2) (lastN 1 told) told) _ (stepX x (8 + (newS 3 0 2).ph * 16 + lowN K told (newS 3 0 2).pb)) = _
      rw [hstep]
      unfold bnd
      rw [hlit]
      rfl
    have hrun : runM K (r.length + 1) (newS 3 0 2) (lastN 1 told) told x = runM K r.length (newS 3 0 2) (lastN K.size (lastN 1 told ++ [v])) (told ++ [v]) (walkM (440 + told.getLast?.getD 0 / 32 * 768) 8 1 (stepX x (8 + told.length % 4))).2 := by
      conv => lhs; unfold runM
      rw [if_neg (by omega)]
      unfold bnd
      rw [hop]
    have hwin : lastN K.size (lastN 1 told ++ [v]) = lastN 1 (told ++ [v]) := by rw [hK.2.2]; exact lastN_left 1 told [v]
    have hgl : (told ++ [v]).getLast?.getD 0 = v := by simp
    have hll : (told ++ [v]).length = told.length + 1 := by simp
    have h7 := ih (told ++ [v]) (walkM (440 + told.getLast?.getD 0 / 32 * 768) 8 1 (stepX x (8 + told.length % 4))).2 (byteE told.length (told.getLast?.getD 0) v z) (fun u hu => h1 u (by simp [hu])) (fun u hu => by
      rcases List.mem_append.1 hu with h | h
      · exact h2 u h
      · have : u = v := by simpa using h
        omega) (by rw [hll]; omega) q3.2 (byteE_good _ _ _ h5) (by rw [hgl, hll]; exact h6)
    rw [hgl, hll] at h7
    obtain ⟨win, x', e1, e2⟩ := h7
    refine ⟨win, x', ?_, e2⟩
    rw [List.length_cons, hrun, hwin, e1, List.append_assoc]
    rfl

def evenC : Nat → Nat := fun _ => 1024
/-- The chunk that was made of bytes tells them. -/
theorem plain_chunk (b : List Nat) (hb : ∀ v ∈ b, v < 256) (K : Ck) (hK : K.place = 0 ∧ K.ahead = false ∧ K.size = 1 ∧ K.n = b.length) :
    (5 ≤ (madeB b).length ∧ (madeB b)[0]?.getD 0 = 0) ∧ ∃ o, chunkM K (newS 3 0 2) evenC [] (madeB b) = some o ∧ o.told = b := by
  have hg : Good (madeE b).e := bytesE_good b 0 0 _ newE_good
  have hf := closeE_first hg
  have hlt : ∀ j : Nat, (madeB b)[j]?.getD 0 < 256 := (closeE_sh hg.ok).out
  have hhas : Has (madeB b) (madeE b).e := closeE_has hg
  have hsyn : Syn (madeB b) ⟨evenC, newD (madeB b)⟩ ⟨fun _ => 1024, newE⟩ := ⟨rfl, sync_new hf.1 hf.2⟩
  obtain ⟨win, x', e1, e2⟩ := plain_run hlt K ⟨hK.1, hK.2.1, hK.2.2.1⟩ b [] ⟨evenC, newD (madeB b)⟩ ⟨fun _ => 1024, newE⟩ hb (fun v hv => by cases hv) (by rw [hK.2.2.2]; simp) hsyn newE_good hhas
  refine ⟨hf, ?_⟩
  have e3 : ordD x'.d = ⟨(madeE b).e.span, 0, [], false⟩ := e2.d.trans (sync_end hg)
  have hok : okEnd x'.d = true := by
    unfold okEnd endL endE
    rw [e3]
    rfl
  refine ⟨⟨newS 3 0 2, x'.c, win, b⟩, ?_, rfl⟩
  unfold chunkM chunkR
  rw [hK.2.2.2]
  have e4 : runM K b.length (newS 3 0 2) [] [] ⟨evenC, newD (madeB b)⟩ = (some (newS 3 0 2, win, b), x') := e1
  rw [e4]
  dsimp only
  rw [hok]
  rfl

end Go.Proofs.Ytinhlkioeadfdaa
