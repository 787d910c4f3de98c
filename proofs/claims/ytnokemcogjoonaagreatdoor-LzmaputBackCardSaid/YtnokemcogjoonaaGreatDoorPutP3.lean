/-
  LZMA's reading as plain numbers: chances by their places, a decoder, trees, lengths, distances, operations, a chunk.
  LZMA's writing as plain numbers: rows of acts, what they make of chances and an encoder, and that they are read as they were written.
  Operations as plain numbers: what each writes, and that a chunk of them is read as the text.
  A chunk of operations is read as the text; which operations are made of steps.
  Which operations are made of steps, and that they may stand there.
  max and min by names of one's own; small facts on rows of bytes.
-/
import Derived.Shelf.Abstract
import Derived.Shelf.RegionOpen
import Derived.WalkKit
import Derived.WalkSmall
import Derived.WalkLawsBesides
import Derived.BigQuiet
import Derived.Deep.QuietTactic
import Derived.Deep.RegionWith
import Derived.Deep.RegionHeld3
import Derived.Laws.BitsAllLaws
import Derived.Test.YtnokemcogjoonaaGreatDoorProg
import Derived.Test.YtnokemcogjoonaaGreatDoorPutP1
import Derived.Test.YtnokemcogjoonaaGreatDoorPutP2
namespace Go.Proofs.YtnokemcogjoonaaGreatDoor
set_option linter.unusedVariables false

/-- Chances by their places, and a decoder. -/
structure Cx where
  c : Nat → Nat
  d : Dec
def putC (c : Nat → Nat) (o x : Nat) : Nat → Nat := fun k => if k = o then x else c k
def bN (b : Bool) : Nat := if b then 1 else 0
theorem bN_le (b : Bool) : bN b ≤ 1 := by cases b <;> decide
def bitX (x : Cx) (o : Nat) : Bool := oneD (ordD x.d) (fairN (x.c o))
def stepX (x : Cx) (o : Nat) : Cx := ⟨putC x.c o (learnN (fairN (x.c o)) (bitX x o)), narD (ordD x.d) (fairN (x.c o))⟩
/-- Reading: what is told, and what there is behind. -/
def bnd {A B : Type} (f : Cx → A × Cx) (g : A → Cx → B × Cx) : Cx → B × Cx := fun x => g (f x).1 (f x).2
def ret {A : Type} (a : A) : Cx → A × Cx := fun x => (a, x)
theorem bnd_z {B : Type} (f : Cx → Nat × Cx) (g1 g2 : Cx → B × Cx) (x : Cx) (h : (f x).1 = 0) : bnd f (fun a => if a = 0 then g1 else g2) x = g1 (f x).2 := by
  show (if (f x).1 = 0 then g1 else g2) (f x).2 = _
  rw [if_pos h]
theorem bnd_nz {B : Type} (f : Cx → Nat × Cx) (g1 g2 : Cx → B × Cx) (x : Cx) (h : ¬ (f x).1 = 0) : bnd f (fun a => if a = 0 then g1 else g2) x = g2 (f x).2 := by
  show (if (f x).1 = 0 then g1 else g2) (f x).2 = _
  rw [if_neg h]
def bitM (o : Nat) : Cx → Nat × Cx := fun x => (bN (bitX x o), stepX x o)
def dirM (k : Nat) : Cx → Nat × Cx := fun x => ((dirD k x.d 0).2, ⟨x.c, (dirD k x.d 0).1⟩)
/-- A tree: k bits more, from number m on. -/
def walkM (o : Nat) : Nat → Nat → Cx → Nat × Cx
  | 0, m => ret m
  | k + 1, m => bnd (bitM (o + m)) (fun b => walkM o k (2 * m + b))
def readM (o n : Nat) : Cx → Nat × Cx := bnd (walkM o n 1) (fun m => ret (m - 2 ^ n))
/-- A tree backwards: k bits more, i are told. -/
def backM (o : Nat) : Nat → Nat → Nat → Nat → Cx → Nat × Cx
  | 0, _, _, t => ret t
  | k + 1, i, m, t => bnd (bitM (o + m)) (fun b => backM o k (i + 1) (2 * m + b) (t + b * 2 ^ i))
/-- A byte that is likely to be like another one. -/
def likeM (o other : Nat) : Nat → Nat → Cx → Nat × Cx
  | 0, m => ret m
  | k + 1, m => bnd (bitM (o + ((1 + other / 2 ^ k % 2) * 256 + m))) (fun b => if b = other / 2 ^ k % 2 then likeM o other k (2 * m + b) else walkM o k (2 * m + b))
def lenM (L p : Nat) : Cx → Nat × Cx :=
  bnd (bitM L) (fun a => if a = 0 then bnd (readM (L + 2 + p * 8) 3) (fun v => ret (2 + v)) else
    bnd (bitM (L + 1)) (fun b => if b = 0 then bnd (readM (L + 130 + p * 8) 3) (fun v => ret (10 + v)) else bnd (readM (L + 258) 8) (fun v => ret (18 + v))))
def distM (len : Nat) : Cx → Nat × Cx :=
  bnd (readM (13756 + (min len 5 - 2) * 64) 6) (fun s => if s < 4 then ret s else
    if s < 14 then bnd (backM (14012 + ((2 + s % 2) * 2 ^ (s / 2 - 1) - s)) (s / 2 - 1) 0 1 0) (fun q => ret ((2 + s % 2) * 2 ^ (s / 2 - 1) + q))
    else bnd (dirM (s / 2 - 1 - 4)) (fun h => bnd (backM 14127 4 0 1 0) (fun q => ret ((2 + s % 2) * 2 ^ (s / 2 - 1) + h * 16 + q))))

/-- What a state has beside its chances. -/
structure Se where
  lc : Nat
  lp : Nat
  pb : Nat
  ph : Nat
  r0 : Nat
  r1 : Nat
  r2 : Nat
  r3 : Nat
def behB (p : Nat) : Nat := if p < 4 then 0 else if p < 10 then p - 3 else p - 6
def behM (p : Nat) : Nat := if p < 7 then 7 else 10
def behR (p : Nat) : Nat := if p < 7 then 8 else 11
def behS (p : Nat) : Nat := if p < 7 then 9 else 11
def atW (win : List Nat) (back : Nat) : Nat := if back ≤ win.length then win[win.length - back]?.getD 0 else 0
/-- A chunk's own: its place, whether a byte is ahead, the window's size, how many bytes are told. -/
structure Ck where
  place : Nat
  ahead : Bool
  size : Nat
  n : Nat
def lowN (K : Ck) (told : List Nat) (bits : Nat) : Nat := (K.place + told.length) % 2 ^ bits
def lastN1 (K : Ck) (win told : List Nat) : Nat := if K.ahead || decide (0 < told.length) then atW win 1 else 0
def litT (K : Ck) (s : Se) (win told : List Nat) : Nat := lowN K told s.lp * 2 ^ s.lc + lastN1 K win told / 2 ^ (8 - s.lc)
def litM (K : Ck) (s : Se) (win told : List Nat) : Cx → Nat × Cx :=
  if s.ph < 7 then readM (440 + litT K s win told * 768) 8
  else bnd (likeM (440 + litT K s win told * 768) (atW win (s.r0 + 1)) 8 1) (fun m => ret (m - 256))
/-- The distance that is taken becomes the newest. -/
def takeR (s : Se) (k : Nat) : Se := match k with
  | 0 => s
  | 1 => { s with r0 := s.r1, r1 := s.r0 }
  | 2 => { s with r0 := s.r2, r1 := s.r0, r2 := s.r1 }
  | _ => { s with r0 := s.r3, r1 := s.r0, r2 := s.r1, r3 := s.r2 }
def endMark : Nat := 4294967295
def matchM (s : Se) (p : Nat) : Cx → (Se × Nat) × Cx :=
  bnd (lenM 12728 p) (fun l => bnd (distM l) (fun d => ret ({ s with ph := behM s.ph, r0 := d, r1 := s.r0, r2 := s.r1, r3 := s.r2 }, l)))
def lastM (s : Se) (p k : Nat) : Cx → (Se × Nat) × Cx :=
  bnd (lenM 13242 p) (fun l => ret ({ takeR s k with ph := behR s.ph }, l))
def repM (s : Se) (p : Nat) : Cx → (Se × Nat) × Cx :=
  bnd (bitM (404 + s.ph)) (fun a => if a = 0 then bnd (bitM (200 + s.ph * 16 + p)) (fun b => if b = 0 then ret ({ s with ph := behS s.ph }, 1) else lastM s p 0) else
    bnd (bitM (416 + s.ph)) (fun b => if b = 0 then lastM s p 1 else bnd (bitM (428 + s.ph)) (fun c => if c = 0 then lastM s p 2 else lastM s p 3)))
/-- An operation: the state, and a byte, or how many are copied; none: the end mark. -/
def opM (K : Ck) (s : Se) (win told : List Nat) : Cx → (Se × Option (Bool × Nat)) × Cx :=
  bnd (bitM (8 + s.ph * 16 + lowN K told s.pb)) (fun a => if a = 0 then bnd (litM K s win told) (fun v => ret ({ s with ph := behB s.ph }, some (true, v))) else
    bnd (bitM (392 + s.ph)) (fun b => if b = 0 then bnd (matchM s (lowN K told s.pb)) (fun r => ret (r.1, if r.1.r0 = endMark then none else some (false, r.2)))
      else bnd (repM s (lowN K told s.pb)) (fun r => ret (r.1, some (false, r.2)))))
/-- A chunk's operations: what there is behind them; none: the chunk is none. -/
def runM (K : Ck) : Nat → Se → List Nat → List Nat → Cx → Option (Se × List Nat × List Nat) × Cx
  | 0, s, win, told => ret (some (s, win, told))
  | k + 1, s, win, told => if K.n ≤ told.length then ret (some (s, win, told)) else
    bnd (opM K s win told) (fun r => match r.2 with
      | none => ret none
      | some (true, v) => runM K k r.1 (lastN K.size (win ++ [v])) (told ++ [v])
      | some (false, l) => if K.n - told.length < l then ret none else if win.length < r.1.r0 + 1 then ret none else
          runM K k r.1 (lastN K.size (win ++ outL win (r.1.r0 + 1) l)) (told ++ outL win (r.1.r0 + 1) l))
theorem runM_done (K : Ck) (k : Nat) (s : Se) (win told : List Nat) (h : K.n ≤ told.length) : runM K k s win told = ret (some (s, win, told)) := by
  cases k with
  | zero => rfl
  | succ k => simp only [runM, if_pos h]
def okEnd (d : Dec) : Bool := decide (endL (ordD d) = 0) && decide (endE (ordD d) = 0)
/-- A chunk: what is told, the state and the window behind it. -/
structure Out where
  s : Se
  c : Nat → Nat
  win : List Nat
  told : List Nat
def chunkR (r : Option (Se × List Nat × List Nat) × Cx) : Option Out := match r.1 with
  | none => none
  | some q => if okEnd r.2.d then some ⟨q.1, r.2.c, q.2.1, q.2.2⟩ else none
def chunkM (K : Ck) (s : Se) (c : Nat → Nat) (win : List Nat) (b : List Nat) : Option Out := chunkR (runM K K.n s win [] ⟨c, newD b⟩)

end Go.Proofs.YtnokemcogjoonaaGreatDoor

namespace Go.Proofs.YtnokemcogjoonaaGreatDoor
set_option linter.unusedVariables false

/-- Chances by their places, and an encoder. -/
structure Ex where
  c : Nat → Nat
  e : Enc
/-- An act: the bit k by the chance of the place o, or the lowest k bits of the number o, each as likely. -/
structure Act where
  dir : Bool
  o : Nat
  k : Nat
def bitA (o k : Nat) : Act := ⟨false, o, k⟩
def dirA (x k : Nat) : Act := ⟨true, x, k⟩
def actE (a : Act) (x : Ex) : Ex := if a.dir then ⟨x.c, dirE a.o a.k x.e⟩ else ⟨putC x.c a.o (learnN (fairN (x.c a.o)) (a.k != 0)), bitE x.e (fairN (x.c a.o)) (a.k != 0)⟩
def runA : List Act → Ex → Ex
  | [], x => x
  | a :: r, x => runA r (actE a x)
theorem runA_app : ∀ (L M : List Act) (x : Ex), runA (L ++ M) x = runA M (runA L x)
  | [], _, _ => rfl
  | a :: L, M, x => runA_app L M (actE a x)
def costA : List Act → Nat
  | [] => 0
  | a :: r => (if a.dir then a.k else 1) + costA r
theorem costA_app : ∀ (L M : List Act), costA (L ++ M) = costA L + costA M
  | [], M => by simp [costA]
  | a :: L, M => by simp only [List.cons_append, costA, costA_app L M]; omega
theorem actE_many (a : Act) (x : Ex) : manyE (actE a x).e ≤ manyE x.e + (if a.dir then a.k else 1) := by
  unfold actE
  split
  · exact dirE_many _ _ _
  · exact bitE_many _ _ _
theorem runA_many : ∀ (L : List Act) (x : Ex), manyE (runA L x).e ≤ manyE x.e + costA L
  | [], x => Nat.le_refl _
  | a :: L, x => by
    have h1 := runA_many L (actE a x)
    have h2 := actE_many a x
    show manyE (runA L (actE a x)).e ≤ _
    simp only [costA]
    omega
theorem actE_good {a : Act} {x : Ex} (h : Good x.e) : Good (actE a x).e := by
  unfold actE
  split
  · exact dirE_good _ _ h
  · exact bitE_good h (fairN_bd _).1 (fairN_bd _).2 _
theorem runA_good : ∀ (L : List Act) {x : Ex}, Good x.e → Good (runA L x).e
  | [], _, h => h
  | a :: L, _, h => runA_good L (actE_good h)
theorem actE_has {b : List Nat} (hb : ∀ j : Nat, b[j]?.getD 0 < 256) {a : Act} {x : Ex} (h : Good x.e) (hh : Has b (actE a x).e) : Has b x.e := by
  unfold actE at hh
  split at hh
  · exact dir_has hb _ _ h hh
  · exact bit_has hb h (fairN_bd _).1 (fairN_bd _).2 _ hh
theorem runA_has {b : List Nat} (hb : ∀ j : Nat, b[j]?.getD 0 < 256) : ∀ (L : List Act) {x : Ex}, Good x.e → Has b (runA L x).e → Has b x.e
  | [], _, _, h => h
  | a :: L, _, h, hh => actE_has hb h (runA_has hb L (actE_good h) hh)
theorem putC_lt {c : Nat → Nat} (h : ∀ i, c i < 65536) (o x : Nat) (hx : x < 65536) : ∀ i, putC c o x i < 65536 := fun i => by
  unfold putC
  split
  · exact hx
  · exact h i
theorem learn_lt (p : Nat) (b : Bool) : learnN (fairN p) b < 65536 := by
  have := fairN_bd p
  exact Nat.lt_of_le_of_lt (learnN_bd b this.1 this.2).2 (by decide)
theorem actE_lt {a : Act} {x : Ex} (h : ∀ i, x.c i < 65536) : ∀ i, (actE a x).c i < 65536 := by
  unfold actE
  split
  · exact h
  · exact putC_lt h _ _ (learn_lt _ _)
theorem runA_lt : ∀ (L : List Act) {x : Ex}, (∀ i, x.c i < 65536) → ∀ i, (runA L x).c i < 65536
  | [], _, h => h
  | a :: L, _, h => runA_lt L (actE_lt h)

/-- A decoder and chances that stand where chances and an encoder stood. -/
structure Syn (b : List Nat) (y : Ex) (x : Cx) : Prop where
  c : x.c = y.c
  d : ordD x.d = syncD b y.e
  good : Good y.e
/-- What is read of acts. -/
def Reads {A : Type} (f : Cx → A × Cx) (L : List Act) (a : A) : Prop := ∀ (b : List Nat) (y : Ex) (x : Cx), (∀ j : Nat, b[j]?.getD 0 < 256) → Syn b y x → Has b (runA L y).e → (f x).1 = a ∧ Syn b (runA L y) (f x).2
theorem Reads.ret {A : Type} (a : A) : Reads (ret a) [] a := fun b y x hb hs hh => ⟨rfl, hs⟩
theorem Reads.bnd {A B : Type} {f : Cx → A × Cx} {g : A → Cx → B × Cx} {L M : List Act} {a : A} {c : B} (h1 : Reads f L a) (h2 : Reads (g a) M c) : Reads (bnd f g) (L ++ M) c := fun b y x hb hs hh => by
  rw [runA_app] at hh ⊢
  obtain ⟨e1, s1⟩ := h1 b y x hb hs (runA_has hb M (runA_good L hs.good) hh)
  obtain ⟨e2, s2⟩ := h2 b (runA L y) (f x).2 hb s1 hh
  rw [← e1] at e2 s2
  exact ⟨e2, s2⟩
theorem Reads.end {A B : Type} {f : Cx → A × Cx} {g : A → Cx → B × Cx} {L : List Act} {a : A} {c : B} (h1 : Reads f L a) (h2 : Reads (g a) [] c) : Reads (YtnokemcogjoonaaGreatDoor.bnd f g) L c := by
  have := h1.bnd h2
  rwa [List.append_nil] at this
theorem reads_bit (o k : Nat) (hk : k ≤ 1) : Reads (bitM o) [bitA o k] k := fun b y x hb hs hh => by
  have hh' : Has b (bitE y.e (fairN (y.c o)) (k != 0)) := hh
  obtain ⟨e1, e2⟩ := bit_sync hb hs.good (fairN_bd (y.c o)).1 (fairN_bd (y.c o)).2 (k != 0) hh' hs.d
  have e3 : bitX x o = (k != 0) := by unfold bitX; rw [hs.c]; exact e1
  refine ⟨?_, ?_, ?_, actE_good hs.good⟩
  · show bN (bitX x o) = k
    rw [e3]
    rcases (show k = 0 ∨ k = 1 by omega) with rfl | rfl <;> rfl
  · show putC x.c o (learnN (fairN (x.c o)) (bitX x o)) = putC y.c o (learnN (fairN (y.c o)) (k != 0))
    rw [e3, hs.c]
  · show ordD (narD (ordD x.d) (fairN (x.c o))) = _
    rw [hs.c]
    exact e2
theorem reads_dir (z k : Nat) (hz : z < 2 ^ k) : Reads (dirM k) [dirA z k] z := fun b y x hb hs hh => by
  have hh' : Has b (dirE z k y.e) := hh
  obtain ⟨e1, e2⟩ := dir_sync hb z k x.d 0 hs.good hh' hs.d
  refine ⟨?_, hs.c, e1, dirE_good _ _ hs.good⟩
  show (dirD k x.d 0).2 = z
  rw [e2, Nat.zero_mul, Nat.zero_add, Nat.mod_eq_of_lt hz]

/-! Trees. -/
def walkA (o : Nat) : Nat → Nat → Nat → List Act
  | 0, _, _ => []
  | k + 1, m, x => bitA (o + m) (x / 2 ^ k % 2) :: walkA o k (2 * m + x / 2 ^ k % 2) x
theorem walkA_cost (o k : Nat) : ∀ (m x : Nat), costA (walkA o k m x) = k := by
  induction k with
  | zero => intro m x; rfl
  | succ k ih => intro m x; simp only [walkA, costA, ih, bitA]; simp; omega
theorem reads_walk (o x : Nat) : ∀ (k m : Nat), Reads (walkM o k m) (walkA o k m x) (m * 2 ^ k + x % 2 ^ k) := by
  intro k
  induction k with
  | zero =>
    intro m
    rw [Nat.pow_zero, Nat.mod_one, Nat.mul_one, Nat.add_zero]
    exact Reads.ret m
  | succ k ih =>
    intro m
    have h1 := (reads_bit (o + m) (x / 2 ^ k % 2) (by omega)).bnd (g := fun b => walkM o k (2 * m + b)) (ih (2 * m + x / 2 ^ k % 2))
    have e : m * 2 ^ (k + 1) + x % 2 ^ (k + 1) = (2 * m + x / 2 ^ k % 2) * 2 ^ k + x % 2 ^ k := by
      rw [Nat.mod_pow_succ, Nat.pow_succ, Nat.add_mul, Nat.mul_comm (2 ^ k) 2, ← Nat.mul_assoc, Nat.mul_comm m 2, Nat.mul_comm (2 ^ k) (x / 2 ^ k % 2)]
      omega
    rw [e]
    exact h1
def treeA (o x n : Nat) : List Act := walkA o n 1 x
theorem treeA_cost (o x n : Nat) : costA (treeA o x n) = n := walkA_cost o n 1 x
theorem reads_tree (o x n : Nat) (hx : x < 2 ^ n) : Reads (readM o n) (treeA o x n) x := by
  have h := reads_walk o x n 1
  rw [Nat.one_mul, Nat.mod_eq_of_lt hx] at h
  refine h.end ?_
  have := Reads.ret (2 ^ n + x - 2 ^ n)
  rw [Nat.add_sub_cancel_left] at this
  show Reads (ret (2 ^ n + x - 2 ^ n)) [] x
  rw [Nat.add_sub_cancel_left]
  exact this
def backA (o : Nat) : Nat → Nat → Nat → Nat → List Act
  | 0, _, _, _ => []
  | k + 1, i, m, x => bitA (o + m) (x / 2 ^ i % 2) :: backA o k (i + 1) (2 * m + x / 2 ^ i % 2) x
theorem backA_cost (o k : Nat) : ∀ (i m x : Nat), costA (backA o k i m x) = k := by
  induction k with
  | zero => intro i m x; rfl
  | succ k ih => intro i m x; simp only [backA, costA, ih, bitA]; simp; omega
theorem reads_back (o x : Nat) : ∀ (k i m t : Nat), Reads (backM o k i m t) (backA o k i m x) (t + x / 2 ^ i % 2 ^ k * 2 ^ i) := by
  intro k
  induction k with
  | zero =>
    intro i m t
    rw [Nat.pow_zero, Nat.mod_one, Nat.zero_mul, Nat.add_zero]
    exact Reads.ret t
  | succ k ih =>
    intro i m t
    have h1 := (reads_bit (o + m) (x / 2 ^ i % 2) (by omega)).bnd (g := fun b => backM o k (i + 1) (2 * m + b) (t + b * 2 ^ i)) (ih (i + 1) (2 * m + x / 2 ^ i % 2) (t + x / 2 ^ i % 2 * 2 ^ i))
    have e : t + x / 2 ^ i % 2 ^ (k + 1) * 2 ^ i = t + x / 2 ^ i % 2 * 2 ^ i + x / 2 ^ (i + 1) % 2 ^ k * 2 ^ (i + 1) := by
      rw [Nat.pow_succ 2 i, ← Nat.div_div_eq_div_mul]
      generalize x / 2 ^ i = z
      generalize 2 ^ i = p
      have : z % 2 ^ (k + 1) = z % 2 + 2 * (z / 2 % 2 ^ k) := by rw [Nat.pow_succ, Nat.mul_comm, Nat.mod_mul]
      rw [this, Nat.add_mul, Nat.mul_comm p 2, ← Nat.mul_assoc, Nat.mul_comm 2 (z / 2 % 2 ^ k)]
      omega
    rw [e]
    exact h1
def likeA (o other : Nat) : Nat → Nat → Nat → List Act
  | 0, _, _ => []
  | k + 1, m, x => bitA (o + ((1 + other / 2 ^ k % 2) * 256 + m)) (x / 2 ^ k % 2) :: (if x / 2 ^ k % 2 = other / 2 ^ k % 2 then likeA o other k (2 * m + x / 2 ^ k % 2) x else walkA o k (2 * m + x / 2 ^ k % 2) x)
theorem likeA_cost (o other k : Nat) : ∀ (m x : Nat), costA (likeA o other k m x) = k := by
  induction k with
  | zero => intro m x; rfl
  | succ k ih =>
    intro m x
    by_cases h : x / 2 ^ k % 2 = other / 2 ^ k % 2
    · simp only [likeA, costA, bitA, if_pos h, ih]; simp; omega
    · simp only [likeA, costA, bitA, if_neg h, walkA_cost]; simp; omega
theorem reads_like (o other x : Nat) : ∀ (k m : Nat), Reads (likeM o other k m) (likeA o other k m x) (m * 2 ^ k + x % 2 ^ k) := by
  intro k
  induction k with
  | zero =>
    intro m
    rw [Nat.pow_zero, Nat.mod_one, Nat.mul_one, Nat.add_zero]
    exact Reads.ret m
  | succ k ih =>
    intro m
    have e : m * 2 ^ (k + 1) + x % 2 ^ (k + 1) = (2 * m + x / 2 ^ k % 2) * 2 ^ k + x % 2 ^ k := by
      rw [Nat.mod_pow_succ, Nat.pow_succ, Nat.add_mul, Nat.mul_comm (2 ^ k) 2, ← Nat.mul_assoc, Nat.mul_comm m 2, Nat.mul_comm (2 ^ k) (x / 2 ^ k % 2)]
      omega
    rw [e]
    have hA : likeA o other (k + 1) m x = [bitA (o + ((1 + other / 2 ^ k % 2) * 256 + m)) (x / 2 ^ k % 2)] ++ (if x / 2 ^ k % 2 = other / 2 ^ k % 2 then likeA o other k (2 * m + x / 2 ^ k % 2) x else walkA o k (2 * m + x / 2 ^ k % 2) x) := rfl
    rw [hA]
    refine (reads_bit (o + ((1 + other / 2 ^ k % 2) * 256 + m)) (x / 2 ^ k % 2) (by omega)).bnd (g := fun b => if b = other / 2 ^ k % 2 then likeM o other k (2 * m + b) else walkM o k (2 * m + b)) ?_
    show Reads (if x / 2 ^ k % 2 = other / 2 ^ k % 2 then likeM o other k (2 * m + x / 2 ^ k % 2) else walkM o k (2 * m + x / 2 ^ k % 2)) _ _
    by_cases h : x / 2 ^ k % 2 = other / 2 ^ k % 2
    · rw [if_pos h, if_pos h]
      exact ih _
    · rw [if_neg h, if_neg h]
      exact reads_walk o x k _

/-! Lengths and distances. -/
def lenA (L p len : Nat) : List Act :=
  if len < 10 then bitA L 0 :: treeA (L + 2 + p * 8) (len - 2) 3 else
  if len < 18 then bitA L 1 :: bitA (L + 1) 0 :: treeA (L + 130 + p * 8) (len - 10) 3 else bitA L 1 :: bitA (L + 1) 1 :: treeA (L + 258) (len - 18) 8
theorem lenA_cost (L p len : Nat) : costA (lenA L p len) ≤ 10 := by
  unfold lenA
  split
  · simp only [costA, treeA_cost, bitA]; simp
  · split
    · simp only [costA, treeA_cost, bitA]; simp
    · simp only [costA, treeA_cost, bitA]; simp
theorem reads_len (L p len : Nat) (h2 : 2 ≤ len) (h3 : len ≤ 273) : Reads (lenM L p) (lenA L p len) len := by
  unfold lenM lenA
  by_cases h10 : len < 10
  · rw [if_pos h10]
    refine (reads_bit L 0 (by omega)).bnd (L := [bitA L 0]) ?_
    rw [if_pos rfl]
    refine (reads_tree (L + 2 + p * 8) (len - 2) 3 (by omega)).end ?_
    rw [show 2 + (len - 2) = len from by omega]
    exact Reads.ret len
  · rw [if_neg h10]
    by_cases h18 : len < 18
    · rw [if_pos h18]
      refine (reads_bit L 1 (by omega)).bnd (L := [bitA L 1]) ?_
      rw [if_neg (by decide)]
      refine (reads_bit (L + 1) 0 (by omega)).bnd (L := [bitA (L + 1) 0]) ?_
      rw [if_pos rfl]
      refine (reads_tree (L + 130 + p * 8) (len - 10) 3 (by omega)).end ?_
      rw [show 10 + (len - 10) = len from by omega]
      exact Reads.ret len
    · rw [if_neg h18]
      refine (reads_bit L 1 (by omega)).bnd (L := [bitA L 1]) ?_
      rw [if_neg (by decide)]
      refine (reads_bit (L + 1) 1 (by omega)).bnd (L := [bitA (L + 1) 1]) ?_
      rw [if_neg (by decide)]
      refine (reads_tree (L + 258) (len - 18) 8 (by omega)).end ?_
      rw [show 18 + (len - 18) = len from by omega]
      exact Reads.ret len
/-- How many bits tell which of a slot's distances it is; the slot; its least distance. -/
def lowK (far : Nat) : Nat := if far < 4 then 0 else Nat.log2 far - 1
def slotN (far : Nat) : Nat := if far < 4 then far else 2 * lowK far + far / 2 ^ lowK far
def baseN (far : Nat) : Nat := if far < 4 then far else far / 2 ^ lowK far * 2 ^ lowK far
theorem slot_facts (far : Nat) (h4 : ¬ far < 4) (h32 : far < 4294967296) : 1 ≤ lowK far ∧ lowK far ≤ 30 ∧ (far / 2 ^ lowK far = 2 ∨ far / 2 ^ lowK far = 3) ∧ baseN far ≤ far ∧ far - baseN far < 2 ^ lowK far := by
  have hne : far ≠ 0 := by omega
  have l1 : 2 ^ Nat.log2 far ≤ far := Nat.log2_self_le hne
  have l2 : far < 2 ^ (Nat.log2 far + 1) := Nat.lt_log2_self
  have l3 : 2 ≤ Nat.log2 far := (Nat.le_log2 hne).2 (by omega)
  have l4 : Nat.log2 far < 32 := (Nat.log2_lt hne).2 h32
  have hk : lowK far = Nat.log2 far - 1 := by unfold lowK; rw [if_neg h4]
  obtain ⟨k, hk2⟩ : ∃ k, Nat.log2 far = k + 1 := ⟨Nat.log2 far - 1, by omega⟩
  rw [hk2] at l1 l2 hk
  have hk3 : lowK far = k := by omega
  have hp := Nat.two_pow_pos k
  rw [Nat.pow_succ] at l1
  rw [Nat.pow_succ, Nat.pow_succ] at l2
  rw [hk3]
  have hd : far / 2 ^ k = 2 ∨ far / 2 ^ k = 3 := by
    have a1 : 2 ≤ far / 2 ^ k := (Nat.le_div_iff_mul_le hp).2 (by omega)
    have a2 : far / 2 ^ k < 4 := (Nat.div_lt_iff_lt_mul hp).2 (by omega)
    omega
  have hm := Nat.div_add_mod far (2 ^ k)
  have hml := Nat.mod_lt far hp
  rw [Nat.mul_comm] at hm
  unfold baseN
  rw [if_neg h4, hk3]
  exact ⟨by omega, by omega, hd, by omega, by omega⟩
theorem slot_lt (far : Nat) (h32 : far < 4294967296) : slotN far < 64 := by
  unfold slotN
  by_cases h4 : far < 4
  · rw [if_pos h4]; omega
  · rw [if_neg h4]
    obtain ⟨a1, a2, a3, -⟩ := slot_facts far h4 h32
    omega
def distA (len far : Nat) : List Act := treeA (13756 + (min len 5 - 2) * 64) (slotN far) 6 ++
  (if slotN far < 4 then [] else if slotN far < 14 then backA (14012 + (baseN far - slotN far)) (lowK far) 0 1 (far - baseN far)
    else dirA ((far - baseN far) / 16) (lowK far - 4) :: backA 14127 4 0 1 (far - baseN far))
theorem distA_cost (len far : Nat) (h32 : far < 4294967296) : costA (distA len far) ≤ 36 := by
  unfold distA
  rw [costA_app, treeA_cost]
  by_cases h4 : far < 4
  · rw [if_pos (by unfold slotN; rw [if_pos h4]; exact h4)]; simp [costA]
  · obtain ⟨a1, a2, a3, -⟩ := slot_facts far h4 h32
    split
    · simp [costA]
    · split
      · rw [backA_cost]; omega
      · simp only [costA, backA_cost, dirA, if_true]; omega
theorem reads_dist (len far : Nat) (h32 : far < 4294967296) : Reads (distM len) (distA len far) far := by
  unfold distM distA
  refine (reads_tree (13756 + (min len 5 - 2) * 64) (slotN far) 6 (slot_lt far h32)).bnd ?_
  by_cases h4 : far < 4
  · have e : slotN far = far := by unfold slotN; rw [if_pos h4]
    rw [e, if_pos h4, if_pos h4]
    exact Reads.ret far
  · obtain ⟨a1, a2, a3, a4, a5⟩ := slot_facts far h4 h32
    have es : slotN far = 2 * lowK far + far / 2 ^ lowK far := by unfold slotN; rw [if_neg h4]
    have eb : baseN far = far / 2 ^ lowK far * 2 ^ lowK far := by unfold baseN; rw [if_neg h4]
    have e1 : slotN far / 2 - 1 = lowK far := by omega
    have e2 : 2 + slotN far % 2 = far / 2 ^ lowK far := by omega
    rw [if_neg (show ¬ slotN far < 4 by omega), if_neg (show ¬ slotN far < 4 by omega)]
    rw [e1, e2, ← eb]
    by_cases h14 : slotN far < 14
    · rw [if_pos h14, if_pos h14]
      have h := reads_back (14012 + (baseN far - slotN far)) (far - baseN far) (lowK far) 0 1 0
      rw [Nat.pow_zero, Nat.div_one, Nat.mul_one, Nat.zero_add, Nat.mod_eq_of_lt a5] at h
      refine h.end ?_
      rw [show baseN far + (far - baseN far) = far from by omega]
      exact Reads.ret far
    · rw [if_neg h14, if_neg h14]
      have hk : 2 ^ lowK far = 2 ^ (lowK far - 4) * 16 := by rw [show (16 : Nat) = 2 ^ 4 from rfl, ← Nat.pow_add]; congr 1; omega
      refine (reads_dir ((far - baseN far) / 16) (lowK far - 4) ((Nat.div_lt_iff_lt_mul (by omega)).2 (by omega))).bnd (L := [dirA ((far - baseN far) / 16) (lowK far - 4)]) ?_
      have h := reads_back 14127 (far - baseN far) 4 0 1 0
      rw [Nat.pow_zero, Nat.div_one, Nat.mul_one, Nat.zero_add, show (2 : Nat) ^ 4 = 16 from rfl] at h
      refine h.end ?_
      rw [show baseN far + (far - baseN far) / 16 * 16 + (far - baseN far) % 16 = far from by omega]
      exact Reads.ret far

end Go.Proofs.YtnokemcogjoonaaGreatDoor

namespace Go.Proofs.YtnokemcogjoonaaGreatDoor
set_option linter.unusedVariables false

/-- An operation: a byte (kind 0), a copy from a distance less 1 (kind 1), a copy by a kept distance (kind 2). -/
structure Opn where
  kind : Nat
  len : Nat
  far : Nat
  which : Nat
/-- A chunk's own: the text, where the chunk begins in it, its place, whether a byte is ahead. -/
structure Tk where
  T : List Nat
  fr : Nat
  place : Nat
  ahead : Bool
def byteT (T : List Nat) (i : Nat) : Nat := T[i]?.getD 0
def repN (s : Se) (k : Nat) : Nat := match k with
  | 0 => s.r0
  | 1 => s.r1
  | 2 => s.r2
  | _ => s.r3
def lowW (k : Tk) (i bits : Nat) : Nat := (k.place + (i - k.fr)) % 2 ^ bits
def lastW (k : Tk) (i : Nat) : Nat := if k.fr < i ∨ (0 < i ∧ k.ahead = true) then byteT k.T (i - 1) else 0
def treeW (k : Tk) (s : Se) (i : Nat) : Nat := lowW k i s.lp * 2 ^ s.lc + lastW k i / 2 ^ (8 - s.lc)
def litA (k : Tk) (s : Se) (i : Nat) : List Act :=
  if s.ph < 7 then treeA (440 + treeW k s i * 768) (byteT k.T i) 8 else likeA (440 + treeW k s i * 768) (byteT k.T (i - 1 - s.r0)) 8 1 (byteT k.T i)
def whichA (s : Se) (p w : Nat) : List Act := match w with
  | 0 => [bitA (404 + s.ph) 0, bitA (200 + s.ph * 16 + p) 1]
  | 1 => [bitA (404 + s.ph) 1, bitA (416 + s.ph) 0]
  | w + 2 => [bitA (404 + s.ph) 1, bitA (416 + s.ph) 1, bitA (428 + s.ph) w]
def opA (k : Tk) (s : Se) (i : Nat) (o : Opn) : List Act :=
  if o.kind = 0 then [bitA (8 + s.ph * 16 + lowW k i s.pb) 0] ++ litA k s i else
  if o.kind = 1 then [bitA (8 + s.ph * 16 + lowW k i s.pb) 1] ++ ([bitA (392 + s.ph) 0] ++ (lenA 12728 (lowW k i s.pb) o.len ++ distA o.len o.far)) else
  [bitA (8 + s.ph * 16 + lowW k i s.pb) 1] ++ ([bitA (392 + s.ph) 1] ++ (whichA s (lowW k i s.pb) o.which ++ lenA 13242 (lowW k i s.pb) o.len))
def opS (o : Opn) (s : Se) : Se :=
  if o.kind = 0 then { s with ph := behB s.ph } else
  if o.kind = 1 then { s with ph := behM s.ph, r0 := o.far, r1 := s.r0, r2 := s.r1, r3 := s.r2 } else { takeR s o.which with ph := behR s.ph }
/-- The text has so many bytes at a place that stand, too, so far back. -/
def standP (T : List Nat) (i len back : Nat) : Prop := i + len ≤ T.length ∧ 1 ≤ back ∧ back ≤ i ∧ ∀ j, j < len → byteT T (i + j) = byteT T (i - back + j)
/-- Where an operation may stand. -/
def okOp (k : Tk) (s : Se) (i : Nat) (o : Opn) : Prop :=
  (o.kind = 0 ∧ o.len = 1 ∧ i < k.T.length ∧ (7 ≤ s.ph → s.r0 + 1 ≤ i)) ∨
  (o.kind = 1 ∧ 2 ≤ o.len ∧ o.len ≤ 273 ∧ o.far < 65536 ∧ standP k.T i o.len (o.far + 1)) ∨
  (o.kind = 2 ∧ 2 ≤ o.len ∧ o.len ≤ 273 ∧ o.which < 4 ∧ standP k.T i o.len (repN s o.which + 1))
theorem okOp.len {k : Tk} {s : Se} {i : Nat} {o : Opn} (h : okOp k s i o) : 1 ≤ o.len ∧ i + o.len ≤ k.T.length := by
  rcases h with ⟨-, h1, h2, -⟩ | ⟨-, h1, -, -, h2⟩ | ⟨-, h1, -, -, h2⟩
  · omega
  · have := h2.1; omega
  · have := h2.1; omega
def opsA (k : Tk) : List Opn → Se → Nat → List Act
  | [], _, _ => []
  | o :: r, s, i => opA k s i o ++ opsA k r (opS o s) (i + o.len)
def opsS : List Opn → Se → Se
  | [], s => s
  | o :: r, s => opsS r (opS o s)
def opsI : List Opn → Nat → Nat
  | [], i => i
  | o :: r, i => opsI r (i + o.len)
def opsOk (k : Tk) : List Opn → Se → Nat → Prop
  | [], _, _ => True
  | o :: r, s, i => okOp k s i o ∧ opsOk k r (opS o s) (i + o.len)
theorem opsS_app : ∀ (A B : List Opn) (s : Se), opsS (A ++ B) s = opsS B (opsS A s)
  | [], _, _ => rfl
  | o :: A, B, s => opsS_app A B (opS o s)
theorem opsI_app : ∀ (A B : List Opn) (i : Nat), opsI (A ++ B) i = opsI B (opsI A i)
  | [], _, _ => rfl
  | o :: A, B, i => opsI_app A B (i + o.len)
theorem opsA_app (k : Tk) : ∀ (A B : List Opn) (s : Se) (i : Nat), opsA k (A ++ B) s i = opsA k A s i ++ opsA k B (opsS A s) (opsI A i)
  | [], _, _, _ => rfl
  | o :: A, B, s, i => by
    show opA k s i o ++ opsA k (A ++ B) (opS o s) (i + o.len) = (opA k s i o ++ opsA k A (opS o s) (i + o.len)) ++ _
    rw [opsA_app k A B, List.append_assoc]
    rfl
theorem opsOk_app (k : Tk) : ∀ (A B : List Opn) (s : Se) (i : Nat), opsOk k A s i → opsOk k B (opsS A s) (opsI A i) → opsOk k (A ++ B) s i
  | [], _, _, _, _, h => h
  | o :: A, B, s, i, h1, h2 => ⟨h1.1, opsOk_app k A B (opS o s) (i + o.len) h1.2 h2⟩
theorem opsOk.le {k : Tk} : ∀ {A : List Opn} {s : Se} {i : Nat}, opsOk k A s i → i + A.length ≤ opsI A i
  | [], _, _, _ => Nat.le_refl _
  | o :: A, s, i, h => by
    have h1 := h.1.len
    have h2 := opsOk.le h.2
    show i + (A.length + 1) ≤ opsI A (i + o.len)
    omega

/-! What one costs. -/
theorem litA_cost (k : Tk) (s : Se) (i : Nat) : costA (litA k s i) = 8 := by
  unfold litA
  split
  · exact treeA_cost _ _ _
  · exact likeA_cost _ _ _ _ _
theorem whichA_cost (s : Se) (p w : Nat) : costA (whichA s p w) ≤ 3 := by
  unfold whichA
  split <;> simp [costA, bitA]
theorem opA_cost {k : Tk} {s : Se} {i : Nat} {o : Opn} (h : okOp k s i o) : costA (opA k s i o) ≤ 26 * o.len := by
  unfold opA
  rcases h with ⟨h0, h1, -⟩ | ⟨h0, h1, -, h2, -⟩ | ⟨h0, h1, -⟩
  · rw [if_pos h0, costA_app, litA_cost]; simp [costA, bitA]; omega
  · rw [if_neg (by omega), if_pos h0, costA_app, costA_app, costA_app]
    have a := lenA_cost 12728 (lowW k i s.pb) o.len
    have b := distA_cost o.len o.far (by omega)
    simp only [costA, bitA] at *
    simp
    omega
  · rw [if_neg (by omega), if_neg (by omega), costA_app, costA_app, costA_app]
    have a := lenA_cost 13242 (lowW k i s.pb) o.len
    have b := whichA_cost s (lowW k i s.pb) o.which
    simp only [costA, bitA] at *
    simp
    omega
theorem opsA_cost {k : Tk} : ∀ {A : List Opn} {s : Se} {i : Nat}, opsOk k A s i → costA (opsA k A s i) + 26 * i ≤ 26 * opsI A i
  | [], _, _, _ => by simp [opsA, costA, opsI]
  | o :: A, s, i, h => by
    have h1 := opA_cost h.1
    have h2 := opsA_cost h.2
    show costA (opA k s i o ++ opsA k A (opS o s) (i + o.len)) + _ ≤ 26 * opsI A (i + o.len)
    rw [costA_app]
    omega

/-! What is read of one. -/
theorem take_len {T : List Nat} {i : Nat} (h : i ≤ T.length) : (T.take i).length = i := by rw [List.length_take]; omega
theorem atW_take {T : List Nat} {i back : Nat} (h : i ≤ T.length) (h1 : 1 ≤ back) (h2 : back ≤ i) : atW (T.take i) back = byteT T (i - back) := by
  unfold atW byteT
  rw [take_len h, if_pos h2, List.getElem?_take, if_pos (by omega)]
theorem lastW_eq {K : Ck} {k : Tk} {i : Nat} {told : List Nat} (hK : K.ahead = k.ahead) (hi : i ≤ k.T.length) (ht : told.length = i - k.fr) : lastN1 K (k.T.take i) told = lastW k i := by
  unfold lastN1 lastW
  rw [hK, ht]
  by_cases h1 : k.fr < i
  · rw [if_pos (by simp; omega), if_pos (.inl h1), atW_take hi (by omega) (by omega)]
  · by_cases h2 : k.ahead = true
    · rw [if_pos (by simp [h2])]
      by_cases h3 : 0 < i
      · rw [if_pos (.inr ⟨h3, h2⟩), atW_take hi (by omega) (by omega)]
      · rw [if_neg (by omega)]
        have : i = 0 := by omega
        subst this
        rfl
    · rw [if_neg (by simp [h2]; omega), if_neg (fun h => by rcases h with h | h; exact h1 h; exact h2 h.2)]
theorem litT_eq {K : Ck} {k : Tk} {s : Se} {i : Nat} {told : List Nat} (hp : K.place = k.place) (hK : K.ahead = k.ahead) (hi : i ≤ k.T.length) (ht : told.length = i - k.fr) : litT K s (k.T.take i) told = treeW k s i := by
  unfold litT treeW lowN lowW
  rw [lastW_eq hK hi ht, hp, ht]
theorem reads_lit {K : Ck} {k : Tk} {s : Se} {i : Nat} {told : List Nat} (hp : K.place = k.place) (hK : K.ahead = k.ahead) (hi : i < k.T.length) (ht : told.length = i - k.fr) (hb : ∀ j, byteT k.T j < 256) (h7 : 7 ≤ s.ph → s.r0 + 1 ≤ i) :
    Reads (litM K s (k.T.take i) told) (litA k s i) (byteT k.T i) := by
  unfold litM litA
  rw [litT_eq hp hK (Nat.le_of_lt hi) ht]
  by_cases h : s.ph < 7
  · rw [if_pos h, if_pos h]
    exact reads_tree _ _ 8 (hb i)
  · rw [if_neg h, if_neg h, atW_take (Nat.le_of_lt hi) (by omega) (h7 (by omega)), show i - (s.r0 + 1) = i - 1 - s.r0 from by omega]
    have h1 := reads_like (440 + treeW k s i * 768) (byteT k.T (i - 1 - s.r0)) (byteT k.T i) 8 1
    rw [Nat.mod_eq_of_lt (show byteT k.T i < 2 ^ 8 from hb i)] at h1
    refine h1.end ?_
    rw [show 1 * 2 ^ 8 + byteT k.T i - 256 = byteT k.T i from by omega]
    exact Reads.ret _
theorem reads_last {s : Se} {p w len : Nat} (h2 : 2 ≤ len) (h3 : len ≤ 273) : Reads (lastM s p w) (lenA 13242 p len) ({ takeR s w with ph := behR s.ph }, len) :=
  (reads_len 13242 p len h2 h3).end (Reads.ret _)
theorem reads_rep {s : Se} {p w len : Nat} (hw : w < 4) (h2 : 2 ≤ len) (h3 : len ≤ 273) : Reads (repM s p) (whichA s p w ++ lenA 13242 p len) ({ takeR s w with ph := behR s.ph }, len) := by
  unfold repM whichA
  match w, hw with
  | 0, _ =>
    refine (reads_bit (404 + s.ph) 0 (by omega)).bnd (L := [bitA (404 + s.ph) 0]) ?_
    rw [if_pos rfl]
    refine (reads_bit (200 + s.ph * 16 + p) 1 (by omega)).bnd (L := [bitA (200 + s.ph * 16 + p) 1]) ?_
    rw [if_neg (by decide)]
    exact reads_last h2 h3
  | 1, _ =>
    refine (reads_bit (404 + s.ph) 1 (by omega)).bnd (L := [bitA (404 + s.ph) 1]) ?_
    rw [if_neg (by decide)]
    refine (reads_bit (416 + s.ph) 0 (by omega)).bnd (L := [bitA (416 + s.ph) 0]) ?_
    rw [if_pos rfl]
    exact reads_last h2 h3
  | 2, _ =>
    refine (reads_bit (404 + s.ph) 1 (by omega)).bnd (L := [bitA (404 + s.ph) 1]) ?_
    rw [if_neg (by decide)]
    refine (reads_bit (416 + s.ph) 1 (by omega)).bnd (L := [bitA (416 + s.ph) 1]) ?_
    rw [if_neg (by decide)]
    refine (reads_bit (428 + s.ph) 0 (by omega)).bnd (L := [bitA (428 + s.ph) 0]) ?_
    rw [if_pos rfl]
    exact reads_last h2 h3
  | 3, _ =>
    refine (reads_bit (404 + s.ph) 1 (by omega)).bnd (L := [bitA (404 + s.ph) 1]) ?_
    rw [if_neg (by decide)]
    refine (reads_bit (416 + s.ph) 1 (by omega)).bnd (L := [bitA (416 + s.ph) 1]) ?_
    rw [if_neg (by decide)]
    refine (reads_bit (428 + s.ph) 1 (by omega)).bnd (L := [bitA (428 + s.ph) 1]) ?_
    rw [if_neg (by decide)]
    exact reads_last h2 h3
theorem reads_match {s : Se} {p len far : Nat} (h2 : 2 ≤ len) (h3 : len ≤ 273) (hf : far < 4294967296) : Reads (matchM s p) (lenA 12728 p len ++ distA len far) ({ s with ph := behM s.ph, r0 := far, r1 := s.r0, r2 := s.r1, r3 := s.r2 }, len) :=
  (reads_len 12728 p len h2 h3).bnd ((reads_dist len far hf).end (Reads.ret _))
/-- What an operation tells. -/
def opR (k : Tk) (i : Nat) (o : Opn) : Option (Bool × Nat) := if o.kind = 0 then some (true, byteT k.T i) else some (false, o.len)
theorem reads_op {K : Ck} {k : Tk} {s : Se} {i : Nat} {o : Opn} {told : List Nat} (hp : K.place = k.place) (hK : K.ahead = k.ahead) (ht : told.length = i - k.fr) (hb : ∀ j, byteT k.T j < 256) (h : okOp k s i o) :
    Reads (opM K s (k.T.take i) told) (opA k s i o) (opS o s, opR k i o) := by
  have hl : lowN K told s.pb = lowW k i s.pb := by unfold lowN lowW; rw [hp, ht]
  unfold opM opA opS opR
  rw [hl]
  rcases h with ⟨h0, h1, hi, h7⟩ | ⟨h0, h1, h2, h3, h4⟩ | ⟨h0, h1, h2, h3, h4⟩
  · rw [if_pos h0, if_pos h0, if_pos h0]
    refine (reads_bit _ 0 (by omega)).bnd ?_
    rw [if_pos rfl]
    exact (reads_lit hp hK hi ht hb h7).end (Reads.ret _)
  · rw [if_neg (by omega), if_pos h0, if_neg (by omega), if_pos h0, if_neg (by omega)]
    refine (reads_bit _ 1 (by omega)).bnd ?_
    rw [if_neg (by decide)]
    refine (reads_bit _ 0 (by omega)).bnd ?_
    rw [if_pos rfl]
    refine (reads_match h1 h2 (by omega)).end ?_
    have hne : ¬ o.far = endMark := by unfold endMark; omega
    have := Reads.ret (({ s with ph := behM s.ph, r0 := o.far, r1 := s.r0, r2 := s.r1, r3 := s.r2 } : Se), (some (false, o.len) : Option (Bool × Nat)))
    show Reads (ret (_, if o.far = endMark then none else some (false, o.len))) [] _
    rw [if_neg hne]
    exact this
  · rw [if_neg (by omega), if_neg (by omega), if_neg (by omega), if_neg (by omega), if_neg (by omega)]
    refine (reads_bit _ 1 (by omega)).bnd ?_
    rw [if_neg (by decide)]
    refine (reads_bit _ 1 (by omega)).bnd ?_
    rw [if_neg (by decide)]
    exact (reads_rep h3 h1 h2).end (Reads.ret _)

end Go.Proofs.YtnokemcogjoonaaGreatDoor

namespace Go.Proofs.YtnokemcogjoonaaGreatDoor
set_option linter.unusedVariables false

theorem take_snoc {T : List Nat} {i : Nat} (h : i < T.length) : T.take i ++ [byteT T i] = T.take (i + 1) := by
  unfold byteT
  rw [List.take_succ_eq_append_getElem h, List.getElem?_eq_getElem h]
  rfl
theorem take_more {T : List Nat} {i l : Nat} : T.take i ++ (T.drop i).take l = T.take (i + l) := by rw [List.take_add]
theorem drop_take_app {A B : List Nat} {f : Nat} (h : f ≤ A.length) : A.drop f ++ B = (A ++ B).drop f := by rw [List.drop_append, show f - A.length = 0 from by omega, List.drop_zero]
/-- What is copied is what stands there. -/
theorem outL_stand {T : List Nat} {i len back : Nat} (h : standP T i len back) : outL (T.take i) back len = (T.drop i).take len := by
  obtain ⟨h1, h2, h3, h4⟩ := h
  have hi : (T.take i).length = i := take_len (by omega)
  refine getD_ext (by rw [outL_length, List.length_take, List.length_drop]; omega) fun j hj => ?_
  rw [outL_length] at hj
  have hm : j % back < back := Nat.mod_lt _ (by omega)
  rw [outL_at _ _ _ j hj, hi, List.getElem?_take, if_pos (by omega), List.getElem?_take, if_pos hj, List.getElem?_drop]
  have key : ∀ n j, j < len → j / back = n → byteT T (i - back + j % back) = byteT T (i + j) := by
    intro n
    induction n with
    | zero =>
      intro j hj hn
      have hlt : j < back := by
        rcases Nat.lt_or_ge j back with h | h
        · exact h
        · have := Nat.div_pos h (by omega); omega
      rw [Nat.mod_eq_of_lt hlt]
      exact (h4 j hj).symm
    | succ n ih =>
      intro j hj hn
      have hge : back ≤ j := by
        rcases Nat.lt_or_ge j back with h | h
        · rw [Nat.div_eq_of_lt h] at hn; omega
        · exact h
      have e1 := ih (j - back) (by omega) (by have := Nat.div_eq_sub_div (show 0 < back by omega) hge; omega)
      rw [h4 j hj, show i - back + j = i + (j - back) from by omega, ← e1, Nat.mod_eq_sub_mod hge]
  exact key _ j hj rfl

theorem told_len {T : List Nat} {i f : Nat} (h : i ≤ T.length) : ((T.take i).drop f).length = i - f := by rw [List.length_drop, take_len h]
theorem reads_run {K : Ck} {k : Tk} (hp : K.place = k.place) (hK : K.ahead = k.ahead) (hn : K.n = k.T.length - k.fr) (hs : k.T.length ≤ K.size) (hb : ∀ j, byteT k.T j < 256) :
    ∀ (A : List Opn) (fuel : Nat) (s : Se) (i : Nat), k.fr ≤ i → opsOk k A s i → opsI A i = k.T.length → A.length ≤ fuel →
      Reads (runM K fuel s (k.T.take i) ((k.T.take i).drop k.fr)) (opsA k A s i) (some (opsS A s, k.T, k.T.drop k.fr))
  | [], fuel, s, i, hf, hok, hI, hl => by
    have hi : i = k.T.length := hI
    subst hi
    rw [List.take_length]
    rw [runM_done K fuel s _ _ (by rw [hn, List.length_drop]; exact Nat.le_refl _)]
    exact Reads.ret _
  | o :: A, 0, s, i, hf, hok, hI, hl => by simp at hl
  | o :: A, fuel + 1, s, i, hf, hok, hI, hl => by
    obtain ⟨l1, l2⟩ := hok.1.len
    have hle := opsOk.le hok.2
    have hi : i < k.T.length := by omega
    have ht := told_len (T := k.T) (f := k.fr) (Nat.le_of_lt hi)
    have ih := reads_run hp hK hn hs hb A fuel (opS o s) (i + o.len) (by omega) hok.2 hI (by simp at hl; omega)
    simp only [runM]
    rw [if_neg (by rw [hn, ht]; omega)]
    refine (reads_op hp hK ht hb hok.1).bnd ?_
    dsimp only
    unfold opR
    rcases hok.1 with ⟨h0, h1, -, h7⟩ | ⟨h0, h1, h2, h3, h4⟩ | ⟨h0, h1, h2, h3, h4⟩
    · rw [if_pos h0]
      dsimp only
      rw [take_snoc hi, lastN_all _ _ (by rw [take_len (by omega)]; omega), drop_take_app (by rw [take_len (by omega)]; exact hf), take_snoc hi]
      rw [show i + 1 = i + o.len from by omega]
      exact ih
    · rw [if_neg (by omega)]
      dsimp only
      have hr : (opS o s).r0 = o.far := by unfold opS; rw [if_neg (by omega), if_pos h0]
      rw [if_neg (by rw [hn, ht]; omega), if_neg (by rw [take_len (by omega), hr]; have := h4.2.2.1; omega)]
      rw [hr, outL_stand h4, take_more, lastN_all _ _ (by rw [take_len (by omega)]; omega), drop_take_app (by rw [take_len (by omega)]; exact hf), take_more]
      exact ih
    · rw [if_neg (by omega)]
      dsimp only
      have hr : (opS o s).r0 = repN s o.which := by
        unfold opS
        rw [if_neg (by omega), if_neg (by omega)]
        generalize o.which = q at *
        match q with
        | 0 => rfl
        | 1 => rfl
        | 2 => rfl
        | q + 3 => rfl
      rw [if_neg (by rw [hn, ht]; omega), if_neg (by rw [take_len (by omega), hr]; have := h4.2.2.1; omega)]
      rw [hr, outL_stand h4, take_more, lastN_all _ _ (by rw [take_len (by omega)]; omega), drop_take_app (by rw [take_len (by omega)]; exact hf), take_more]
      exact ih

/-- What is written of acts. -/
def outA (L : List Act) (c : Nat → Nat) : List Nat := (closeE (runA L ⟨c, newE⟩).e).out
theorem outA_lt (L : List Act) (c : Nat → Nat) (j : Nat) : (outA L c)[j]?.getD 0 < 256 := (closeE_sh (runA_good L (x := ⟨c, newE⟩) newE_good).ok).out j
theorem outA_begins (L : List Act) (c : Nat → Nat) : 5 ≤ (outA L c).length ∧ (outA L c)[0]?.getD 0 = 0 := closeE_first (runA_good L (x := ⟨c, newE⟩) newE_good)
/-- A chunk of operations is read as the text. -/
theorem chunk_back {K : Ck} {k : Tk} (hp : K.place = k.place) (hK : K.ahead = k.ahead) (hn : K.n = k.T.length - k.fr) (hs : k.T.length ≤ K.size) (hb : ∀ j, byteT k.T j < 256) (A : List Opn) (s : Se) (c : Nat → Nat) (hok : opsOk k A s k.fr) (hI : opsI A k.fr = k.T.length) :
    chunkM K s c (k.T.take k.fr) (outA (opsA k A s k.fr) c) = some ⟨opsS A s, (runA (opsA k A s k.fr) ⟨c, newE⟩).c, k.T, k.T.drop k.fr⟩ := by
  have hle := opsOk.le hok
  have hg := runA_good (opsA k A s k.fr) (x := ⟨c, newE⟩) newE_good
  have hR := reads_run hp hK hn hs hb A K.n s k.fr (Nat.le_refl _) hok hI (by omega)
  rw [show (k.T.take k.fr).drop k.fr = [] from List.drop_eq_nil_of_le (by rw [List.length_take]; omega)] at hR
  obtain ⟨o1, o2⟩ := outA_begins (opsA k A s k.fr) c
  have hsyn : Syn (outA (opsA k A s k.fr) c) ⟨c, newE⟩ ⟨c, newD (outA (opsA k A s k.fr) c)⟩ := ⟨rfl, sync_new o1 o2, newE_good⟩
  obtain ⟨e1, e2⟩ := hR _ _ _ (outA_lt _ _) hsyn (closeE_has hg)
  have hd := e2.d
  rw [show syncD (outA (opsA k A s k.fr) c) (runA (opsA k A s k.fr) ⟨c, newE⟩).e = ⟨(runA (opsA k A s k.fr) ⟨c, newE⟩).e.span, 0, [], false⟩ from sync_end hg] at hd
  unfold chunkM chunkR
  rw [e1]
  dsimp only
  rw [if_pos (by unfold okEnd; rw [hd]; rfl), e2.c]

end Go.Proofs.YtnokemcogjoonaaGreatDoor

namespace Go.Proofs.YtnokemcogjoonaaGreatDoor
set_option linter.unusedVariables false

abbrev Tri := Int × Int × Int
/-- Do so many bytes at a place stand, too, so far back? -/
def standN (T : List Nat) (i len : Nat) (back : Int) : Bool := decide (i + len ≤ T.length) && (decide (1 ≤ back) && (decide (back ≤ (i : Int)) && decide ((T.drop i).take len = (T.drop (i - back.toNat)).take len)))
theorem standN_P {T : List Nat} {i len : Nat} {back : Int} (h : standN T i len back = true) : standP T i len back.toNat := by
  unfold standN at h
  simp only [Bool.and_eq_true, decide_eq_true_eq] at h
  obtain ⟨h1, h2, h3, h4⟩ := h
  refine ⟨h1, by omega, by omega, fun j hj => ?_⟩
  have e1 : ((T.drop i).take len)[j]?.getD 0 = byteT T (i + j) := by rw [List.getElem?_take, if_pos hj, List.getElem?_drop]; rfl
  have e2 : ((T.drop (i - back.toNat)).take len)[j]?.getD 0 = byteT T (i - back.toNat + j) := by rw [List.getElem?_take, if_pos hj, List.getElem?_drop]; rfl
  rw [← e1, ← e2, h4]
/-- May a step be at a place of the text? -/
def okStep (T : List Nat) (i : Nat) (t : Tri) : Bool := decide (0 ≤ t.1) && (decide (0 ≤ t.2.1) && (decide (0 ≤ t.2.2) && (decide (t.1 ≤ (T.length : Int) - (i : Int)) && (!decide (0 < t.2.1) || (decide (2 ≤ t.2.1) && (decide (t.2.1 ≤ 273) && standN T (i + t.1.toNat) t.2.1.toNat t.2.2))))))
def madeB (T : List Nat) : List Tri → Nat → Bool
  | [], i => decide (i = T.length)
  | t :: r, i => okStep T i t && madeB T r (i + t.1.toNat + t.2.1.toNat)
theorem okStep_facts {T : List Nat} {i : Nat} {t : Tri} (h : okStep T i t = true) (hi : i ≤ T.length) : 0 ≤ t.1 ∧ 0 ≤ t.2.1 ∧ 0 ≤ t.2.2 ∧ i + t.1.toNat ≤ T.length ∧ (0 < t.2.1 → 2 ≤ t.2.1 ∧ t.2.1 ≤ 273 ∧ standN T (i + t.1.toNat) t.2.1.toNat t.2.2 = true) ∧ i + t.1.toNat + t.2.1.toNat ≤ T.length := by
  unfold okStep at h
  simp only [Bool.and_eq_true, decide_eq_true_eq, Bool.or_eq_true, Bool.not_eq_true', decide_eq_false_iff_not] at h
  obtain ⟨h1, h2, h3, h4, h5⟩ := h
  refine ⟨h1, h2, h3, by omega, fun hp => ?_, ?_⟩
  · rcases h5 with h5 | h5
    · exact absurd hp h5
    · exact h5
  · rcases h5 with h5 | h5
    · omega
    · exact (standN_P h5.2.2).1

def fitK (T : List Nat) (s : Se) (i len reach k : Nat) : Bool := decide (repN s k + 1 ≤ reach) && standN T i len ((repN s k + 1 : Nat) : Int)
def repFrom (T : List Nat) (s : Se) (i len reach : Nat) : Nat → Nat → Option Nat
  | 0, _ => none
  | n + 1, k => if fitK T s i len reach k then some k else repFrom T s i len reach n (k + 1)
theorem repFrom_some {T : List Nat} {s : Se} {i len reach : Nat} : ∀ {n k q : Nat}, repFrom T s i len reach n k = some q → q < k + n ∧ fitK T s i len reach q = true
  | 0, k, q, h => by simp [repFrom] at h
  | n + 1, k, q, h => by
    unfold repFrom at h
    split at h
    · rename_i hf
      have : k = q := by simpa using h
      subst this
      exact ⟨by omega, hf⟩
    · have := repFrom_some h
      exact ⟨by omega, this.2⟩
/-- The operation that copies so many bytes, if there is one. -/
def copyN (T : List Nat) (reach : Nat) (s : Se) (i : Nat) (len : Int) (back : Nat) : Option Opn :=
  if len < 2 then none else match repFrom T s i len.toNat reach 4 0 with
    | some q => some ⟨2, len.toNat, 0, q⟩
    | none => if reach < back then none else some ⟨1, len.toNat, back - 1, 0⟩
def litO : Opn := ⟨0, 1, 0, 0⟩
def litsO (n : Nat) : List Opn := List.replicate n litO
/-- How many bytes a step may copy. -/
def mostL (T : List Nat) (i : Nat) (m : Int) : Int := min m ((T.length : Int) - 1 - (i : Int))
def tailO (k : Tk) (reach : Nat) (s : Se) (i : Nat) (m : Int) (back : Nat) : List Opn :=
  match copyN k.T reach s i (mostL k.T i m) back with
    | some o => o :: litsO (m.toNat - o.len)
    | none => litsO m.toNat
def splitO (k : Tk) (reach : Nat) (s : Se) (i : Nat) (t : Tri) : List Opn :=
  litsO t.1.toNat ++ tailO k reach (opsS (litsO t.1.toNat) s) (i + t.1.toNat) t.2.1 t.2.2.toNat
def chunkO (k : Tk) (reach : Nat) : List Tri → Se → Nat → List Opn
  | [], _, _ => []
  | t :: r, s, i => splitO k reach s i t ++ chunkO k reach r (opsS (splitO k reach s i t) s) (i + t.1.toNat + t.2.1.toNat)

theorem litsO_succ (n : Nat) : litsO (n + 1) = litO :: litsO n := rfl
theorem opsI_lits : ∀ (n i : Nat), opsI (litsO n) i = i + n
  | 0, i => rfl
  | n + 1, i => by
    show opsI (litsO n) (i + 1) = _
    rw [opsI_lits n]; omega
theorem behB_lt {p : Nat} (h : p < 12) : behB p < 7 := by unfold behB; split <;> (try split) <;> omega
/-- Where a chunk is under way. -/
structure Mid (k : Tk) (s : Se) (i : Nat) : Prop where
  ph : s.ph < 12
  at7 : 7 ≤ s.ph → s.r0 + 1 ≤ i ∧ i < k.T.length
theorem lits_ok {k : Tk} : ∀ {n : Nat} {s : Se} {i : Nat}, Mid k s i → i + n ≤ k.T.length → opsOk k (litsO n) s i ∧ Mid k (opsS (litsO n) s) (i + n) ∧ (opsS (litsO n) s).r0 = s.r0 ∧ (0 < n → (opsS (litsO n) s).ph < 7)
  | 0, s, i, h, hi => ⟨trivial, h, rfl, fun h => by omega⟩
  | n + 1, s, i, h, hi => by
    have hb := behB_lt h.ph
    have hm : Mid k (opS litO s) (i + 1) := ⟨by show behB s.ph < 12; omega, fun h7 => by have h7 : 7 ≤ behB s.ph := h7; omega⟩
    obtain ⟨a1, a2, a3, a4⟩ := lits_ok (n := n) hm (by omega)
    refine ⟨⟨.inl ⟨rfl, rfl, by omega, fun h7 => (h.at7 h7).1⟩, a1⟩, ?_, a3, fun _ => ?_⟩
    · rw [show i + (n + 1) = i + 1 + n from by omega]; exact a2
    · cases n with
      | zero => exact hb
      | succ n => exact a4 (by omega)
theorem copyN_ok {k : Tk} {reach : Nat} {s : Se} {i : Nat} {m : Int} {back : Nat} {o : Opn} (hT : k.T.length ≤ 65536) (hM : Mid k s i) (h2 : m ≤ 273) (hst : standN k.T i m.toNat (back : Int) = true) (h : copyN k.T reach s i (mostL k.T i m) back = some o) :
    okOp k s i o ∧ o.len ≤ m.toNat ∧ Mid k (opS o s) (i + o.len) ∧ 7 ≤ (opS o s).ph ∧ i + o.len < k.T.length := by
  have hP := standN_P hst
  unfold copyN at h
  split at h
  · cases h
  · rename_i hl
    have hl2 : mostL k.T i m ≤ m ∧ mostL k.T i m ≤ (k.T.length : Int) - 1 - (i : Int) := by unfold mostL; omega
    generalize mostL k.T i m = len at *
    split at h
    · rename_i q hq
      obtain ⟨q1, q2⟩ := repFrom_some hq
      have e : o = ⟨2, len.toNat, 0, q⟩ := by simpa using h.symm
      subst e
      unfold fitK at q2
      simp only [Bool.and_eq_true, decide_eq_true_eq] at q2
      have hP2 := standN_P q2.2
      rw [Int.toNat_natCast] at hP2
      have h7 : 7 ≤ behR s.ph := by unfold behR; split <;> omega
      have h12 : behR s.ph < 12 := by unfold behR; split <;> omega
      have hr : (takeR s q).r0 = repN s q := by
        match q with
        | 0 => rfl
        | 1 => rfl
        | 2 => rfl
        | q + 3 => rfl
      refine ⟨.inr (.inr ⟨rfl, by show 2 ≤ len.toNat; omega, by show len.toNat ≤ 273; omega, by show q < 4; omega, hP2⟩), by show len.toNat ≤ _; omega, ⟨h12, fun _ => ⟨?_, ?_⟩⟩, h7, by show i + len.toNat < _; omega⟩
      · show (takeR s q).r0 + 1 ≤ i + len.toNat
        rw [hr]
        have := hP2.2.2.1
        omega
      · show i + len.toNat < _; omega
    · split at h
      · cases h
      · have e : o = ⟨1, len.toNat, back - 1, 0⟩ := by simpa using h.symm
        subst e
        obtain ⟨p1, p2, p3, p4⟩ := hP
        rw [Int.toNat_natCast] at p2 p3 p4
        have h7 : 7 ≤ behM s.ph := by unfold behM; split <;> omega
        have h12 : behM s.ph < 12 := by unfold behM; split <;> omega
        refine ⟨.inr (.inl ⟨rfl, by show 2 ≤ len.toNat; omega, by show len.toNat ≤ 273; omega, by show back - 1 < 65536; omega, ?_⟩), by show len.toNat ≤ _; omega, ⟨h12, fun _ => ⟨?_, ?_⟩⟩, h7, by show i + len.toNat < _; omega⟩
        · show standP k.T i len.toNat (back - 1 + 1)
          rw [show back - 1 + 1 = back from by omega]
          exact ⟨by omega, p2, p3, fun j hj => p4 j (by omega)⟩
        · show back - 1 + 1 ≤ i + len.toNat; omega
        · show i + len.toNat < _; omega
theorem tail_ok {k : Tk} {reach : Nat} {s : Se} {i : Nat} {m : Int} {back : Nat} (hT : k.T.length ≤ 65536) (hM : Mid k s i) (h0 : 0 ≤ m) (h2 : 0 < m → 2 ≤ m ∧ m ≤ 273 ∧ standN k.T i m.toNat (back : Int) = true) (hi : i + m.toNat ≤ k.T.length) :
    opsOk k (tailO k reach s i m back) s i ∧ opsI (tailO k reach s i m back) i = i + m.toNat ∧ Mid k (opsS (tailO k reach s i m back) s) (i + m.toNat) := by
  unfold tailO
  split
  · rename_i o ho
    have hm : 0 < m := by
      by_cases hm : 0 < m
      · exact hm
      · unfold copyN at ho
        rw [if_pos (by unfold mostL; omega)] at ho
        cases ho
    obtain ⟨g1, g2, g3⟩ := h2 hm
    obtain ⟨c1, c2, c3, c4, c5⟩ := copyN_ok hT hM g2 g3 ho
    obtain ⟨l1, l2, l3, l4⟩ := lits_ok (n := m.toNat - o.len) c3 (by omega)
    refine ⟨⟨c1, l1⟩, ?_, ?_⟩
    · show opsI (litsO (m.toNat - o.len)) (i + o.len) = _
      rw [opsI_lits]; omega
    · rw [show i + m.toNat = i + o.len + (m.toNat - o.len) from by omega]
      exact l2
  · obtain ⟨l1, l2, l3, l4⟩ := lits_ok (n := m.toNat) hM hi
    exact ⟨l1, opsI_lits _ _, l2⟩
theorem split_ok {k : Tk} {reach : Nat} {s : Se} {i : Nat} {t : Tri} (hT : k.T.length ≤ 65536) (hM : Mid k s i) (hi : i ≤ k.T.length) (h : okStep k.T i t = true) :
    opsOk k (splitO k reach s i t) s i ∧ opsI (splitO k reach s i t) i = i + t.1.toNat + t.2.1.toNat ∧ Mid k (opsS (splitO k reach s i t) s) (i + t.1.toNat + t.2.1.toNat) ∧ i + t.1.toNat + t.2.1.toNat ≤ k.T.length := by
  obtain ⟨f1, f2, f3, f4, f5, f6⟩ := okStep_facts h hi
  obtain ⟨l1, l2, l3, l4⟩ := lits_ok (n := t.1.toNat) hM f4
  obtain ⟨t1, t2, t3⟩ := tail_ok (reach := reach) (back := t.2.2.toNat) hT l2 f2 (fun hp => by
    obtain ⟨g1, g2, g3⟩ := f5 hp
    rw [Int.toNat_of_nonneg f3]
    exact ⟨g1, g2, g3⟩) f6
  unfold splitO
  refine ⟨opsOk_app k _ _ _ _ l1 (by rw [opsI_lits]; exact t1), ?_, ?_, f6⟩
  · rw [opsI_app, opsI_lits]; exact t2
  · rw [opsS_app]; exact t3
/-- The operations of steps that make the text. -/
theorem chunkO_ok {k : Tk} {reach : Nat} (hT : k.T.length ≤ 65536) : ∀ {L : List Tri} {s : Se} {i : Nat}, Mid k s i → i ≤ k.T.length → madeB k.T L i = true → opsOk k (chunkO k reach L s i) s i ∧ opsI (chunkO k reach L s i) i = k.T.length ∧ Mid k (opsS (chunkO k reach L s i) s) k.T.length
  | [], s, i, hM, hi, h => by
    have e : i = k.T.length := by simpa [madeB] using h
    exact ⟨trivial, e, by rw [← e]; exact hM⟩
  | t :: r, s, i, hM, hi, h => by
    unfold madeB at h
    simp only [Bool.and_eq_true] at h
    obtain ⟨a1, a2, a3, a4⟩ := split_ok (reach := reach) hT hM hi h.1
    obtain ⟨b1, b2, b3⟩ := chunkO_ok (reach := reach) hT a3 a4 h.2
    unfold chunkO
    refine ⟨opsOk_app k _ _ _ _ a1 (by rw [a2]; exact b1), ?_, ?_⟩
    · rw [opsI_app, a2]; exact b2
    · rw [opsS_app]; exact b3
theorem Mid.end {k : Tk} {s : Se} (h : Mid k s k.T.length) : s.ph < 7 := by
  rcases Nat.lt_or_ge s.ph 7 with q | q
  · exact q
  · have := (h.at7 q).2; omega

end Go.Proofs.YtnokemcogjoonaaGreatDoor

namespace Go.Proofs.YtnokemcogjoonaaGreatDoor.Fd
open Go.RowKit Go.Shelf
set_option linter.unusedVariables false

def maxSem (ats : Array TypeId) (ty : TypeId) (args : Array Value) : Sem Value := Builtin.max_ ats ty args
theorem maxSem_eq (ats : Array TypeId) (ty : TypeId) (args : Array Value) : Builtin.max_ ats ty args = maxSem ats ty args := rfl
theorem maxSem_run (ats : Array TypeId) (ty : TypeId) (a b c : Int) (h : c = max a b) (w : World) : (maxSem ats ty #[.int .i64 a, .int .i64 b]).run Tryz.prog w = .ok (.int .i64 c) w := by
  have e : (maxSem ats ty #[.int .i64 a, .int .i64 b]) = pure (.int .i64 (if b > a then b else a)) := rfl
  rw [e, h, show max a b = (if b > a then b else a) from by split <;> omega]
  rfl
def minSem (ats : Array TypeId) (ty : TypeId) (args : Array Value) : Sem Value := Builtin.min_ ats ty args
theorem minSem_eq (ats : Array TypeId) (ty : TypeId) (args : Array Value) : Builtin.min_ ats ty args = minSem ats ty args := rfl
theorem minSem_run (ats : Array TypeId) (ty : TypeId) (a b c : Int) (h : c = min a b) (w : World) : (minSem ats ty #[.int .i64 a, .int .i64 b]).run Tryz.prog w = .ok (.int .i64 c) w := by
  have e : (minSem ats ty #[.int .i64 a, .int .i64 b]) = pure (.int .i64 (if b < a then b else a)) := rfl
  rw [e, h, show min a b = (if b < a then b else a) from by split <;> omega]
  rfl
theorem keep_drewN (w : World) (n : Nat) : Keep noBlock w (w.drewN n) := ⟨rfl, rfl, rfl, Nat.le_refl _, fun _ _ _ => rfl⟩

theorem lt_app {L X : List Nat} (hL : ∀ j : Nat, L[j]?.getD 0 < 256) (hX : ∀ j : Nat, X[j]?.getD 0 < 256) : ∀ j : Nat, (L ++ X)[j]?.getD 0 < 256 := by
  intro j
  rw [List.getElem?_append]
  split
  · exact hL j
  · exact hX _
theorem lt_drop {bs : List Nat} (h : ∀ j : Nat, bs[j]?.getD 0 < 256) (k : Nat) : ∀ j : Nat, (bs.drop k)[j]?.getD 0 < 256 := by
  intro j; rw [List.getElem?_drop]; exact h _
theorem lt_take {bs : List Nat} (h : ∀ j : Nat, bs[j]?.getD 0 < 256) (k : Nat) : ∀ j : Nat, (bs.take k)[j]?.getD 0 < 256 := by
  intro j; rw [List.getElem?_take]; split
  · exact h _
  · decide
end Go.Proofs.YtnokemcogjoonaaGreatDoor.Fd
