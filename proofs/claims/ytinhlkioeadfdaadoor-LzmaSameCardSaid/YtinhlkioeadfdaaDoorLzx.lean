/-
  LZMA's reading as plain numbers: chances by their places, a decoder, trees, lengths, distances, operations, a chunk.
-/
import Derived.Test.YtinhlkioeadfdaaDoorDen
import Derived.Test.YtinhlkioeadfdaaDoorRing
namespace Go.Proofs.YtinhlkioeadfdaaDoor
set_option linter.unusedVariables false

/-- Chances by their places, and a decoder. -/
structure Cx where
  c : Nat → Nat
  d : Dec
def putC (c : Nat → Nat) (o x : Nat) : Nat → Nat := fun k => if k = o then x else c k
def bN (b : Bool) : Nat := if b then 1 else 0
theorem bN_le (b : Bool) : bN b ≤ 1 := by cases b <;> decide
def bitX (x : Cx) (o : Nat) : Bool := oneD (ordD x.d) (fairN (x.c o))
def stepX (x : Cx) (o : Nat) : Cx := ⟨putC x.c o (learnN (fairN (x.c o)) (bitX x o)), narD (ordD x.d) (fairN (x.c o))⟩
/-- Reading: what is told, and what there is behind. -/
def bnd {A B : Type} (f : Cx → A × Cx) (g : A → Cx → B × Cx) : Cx → B × Cx := fun x => g (f x).1 (f x).2
def ret {A : Type} (a : A) : Cx → A × Cx := fun x => (a, x)
theorem bnd_z {B : Type} (f : Cx → Nat × Cx) (g1 g2 : Cx → B × Cx) (x : Cx) (h : (f x).1 = 0) : bnd f (fun a => if a = 0 then g1 else g2) x = g1 (f x).2 := by
  show (if (f x).1 = 0 then g1 else g2) (f x).2 = _
  rw [if_pos h]
theorem bnd_nz {B : Type} (f : Cx → Nat × Cx) (g1 g2 : Cx → B × Cx) (x : Cx) (h : ¬ (f x).1 = 0) : bnd f (fun a => if a = 0 then g1 else g2) x = g2 (f x).2 := by
  show (if (f x).1 = 0 then g1 else g2) (f x).2 = _
  rw [if_neg h]
def bitM (o : Nat) : Cx → Nat × Cx := fun x => (bN (bitX x o), stepX x o)
def dirM (k : Nat) : Cx → Nat × Cx := fun x => ((dirD k x.d 0).2, ⟨x.c, (dirD k x.d 0).1⟩)
/-- A tree: k bits more, from number m on. -/
def walkM (o : Nat) : Nat → Nat → Cx → Nat × Cx
  | 0, m => ret m
  | k + 1, m => bnd (bitM (o + m)) (fun b => walkM o k (2 * m + b))
def readM (o n : Nat) : Cx → Nat × Cx := bnd (walkM o n 1) (fun m => ret (m - 2 ^ n))
/-- A tree backwards: k bits more, i are told. -/
def backM (o : Nat) : Nat → Nat → Nat → Nat → Cx → Nat × Cx
  | 0, _, _, t => ret t
  | k + 1, i, m, t => bnd (bitM (o + m)) (fun b => backM o k (i + 1) (2 * m + b) (t + b * 2 ^ i))
/-- A byte that is likely to be like another one. -/
def likeM (o other : Nat) : Nat → Nat → Cx → Nat × Cx
  | 0, m => ret m
  | k + 1, m => bnd (bitM (o + ((1 + other / 2 ^ k % 2) * 256 + m))) (fun b => if b = other / 2 ^ k % 2 then likeM o other k (2 * m + b) else walkM o k (2 * m + b))
def lenM (L p : Nat) : Cx → Nat × Cx :=
  bnd (bitM L) (fun a => if a = 0 then bnd (readM (L + 2 + p * 8) 3) (fun v => ret (2 + v)) else
    bnd (bitM (L + 1)) (fun b => if b = 0 then bnd (readM (L + 130 + p * 8) 3) (fun v => ret (10 + v)) else bnd (readM (L + 258) 8) (fun v => ret (18 + v))))
def distM (len : Nat) : Cx → Nat × Cx :=
  bnd (readM (13756 + (min len 5 - 2) * 64) 6) (fun s => if s < 4 then ret s else
    if s < 14 then bnd (backM (14012 + ((2 + s % 2) * 2 ^ (s / 2 - 1) - s)) (s / 2 - 1) 0 1 0) (fun q => ret ((2 + s % 2) * 2 ^ (s / 2 - 1) + q))
    else bnd (dirM (s / 2 - 1 - 4)) (fun h => bnd (backM 14127 4 0 1 0) (fun q => ret ((2 + s % 2) * 2 ^ (s / 2 - 1) + h * 16 + q))))

/-- What a state has beside its chances. -/
structure Se where
  lc : Nat
  lp : Nat
  pb : Nat
  ph : Nat
  r0 : Nat
  r1 : Nat
  r2 : Nat
  r3 : Nat
def behB (p : Nat) : Nat := if p < 4 then 0 else if p < 10 then p - 3 else p - 6
def behM (p : Nat) : Nat := if p < 7 then 7 else 10
def behR (p : Nat) : Nat := if p < 7 then 8 else 11
def behS (p : Nat) : Nat := if p < 7 then 9 else 11
def atW (win : List Nat) (back : Nat) : Nat := if back ≤ win.length then win[win.length - back]?.getD 0 else 0
/-- A chunk's own: its place, whether a byte is ahead, the window's size, how many bytes are told. -/
structure Ck where
  place : Nat
  ahead : Bool
  size : Nat
  n : Nat
def lowN (K : Ck) (told : List Nat) (bits : Nat) : Nat := (K.place + told.length) % 2 ^ bits
def lastN1 (K : Ck) (win told : List Nat) : Nat := if K.ahead || decide (0 < told.length) then atW win 1 else 0
def litT (K : Ck) (s : Se) (win told : List Nat) : Nat := lowN K told s.lp * 2 ^ s.lc + lastN1 K win told / 2 ^ (8 - s.lc)
def litM (K : Ck) (s : Se) (win told : List Nat) : Cx → Nat × Cx :=
  if s.ph < 7 then readM (440 + litT K s win told * 768) 8
  else bnd (likeM (440 + litT K s win told * 768) (atW win (s.r0 + 1)) 8 1) (fun m => ret (m - 256))
/-- The distance that is taken becomes the newest. -/
def takeR (s : Se) (k : Nat) : Se := match k with
  | 0 => s
  | 1 => { s with r0 := s.r1, r1 := s.r0 }
  | 2 => { s with r0 := s.r2, r1 := s.r0, r2 := s.r1 }
  | _ => { s with r0 := s.r3, r1 := s.r0, r2 := s.r1, r3 := s.r2 }
def endMark : Nat := 4294967295
def matchM (s : Se) (p : Nat) : Cx → (Se × Nat) × Cx :=
  bnd (lenM 12728 p) (fun l => bnd (distM l) (fun d => ret ({ s with ph := behM s.ph, r0 := d, r1 := s.r0, r2 := s.r1, r3 := s.r2 }, l)))
def lastM (s : Se) (p k : Nat) : Cx → (Se × Nat) × Cx :=
  bnd (lenM 13242 p) (fun l => ret ({ takeR s k with ph := behR s.ph }, l))
def repM (s : Se) (p : Nat) : Cx → (Se × Nat) × Cx :=
  bnd (bitM (404 + s.ph)) (fun a => if a = 0 then bnd (bitM (200 + s.ph * 16 + p)) (fun b => if b = 0 then ret ({ s with ph := behS s.ph }, 1) else lastM s p 0) else
    bnd (bitM (416 + s.ph)) (fun b => if b = 0 then lastM s p 1 else bnd (bitM (428 + s.ph)) (fun c => if c = 0 then lastM s p 2 else lastM s p 3)))
/-- An operation: the state, and a byte, or how many are copied; none: the end mark. -/
def opM (K : Ck) (s : Se) (win told : List Nat) : Cx → (Se × Option (Bool × Nat)) × Cx :=
  bnd (bitM (8 + s.ph * 16 + lowN K told s.pb)) (fun a => if a = 0 then bnd (litM K s win told) (fun v => ret ({ s with ph := behB s.ph }, some (true, v))) else
    bnd (bitM (392 + s.ph)) (fun b => if b = 0 then bnd (matchM s (lowN K told s.pb)) (fun r => ret (r.1, if r.1.r0 = endMark then none else some (false, r.2)))
      else bnd (repM s (lowN K told s.pb)) (fun r => ret (r.1, some (false, r.2)))))
/-- A chunk's operations: what there is behind them; none: the chunk is none. -/
def runM (K : Ck) : Nat → Se → List Nat → List Nat → Cx → Option (Se × List Nat × List Nat) × Cx
  | 0, s, win, told => ret (some (s, win, told))
  | k + 1, s, win, told => if K.n ≤ told.length then ret (some (s, win, told)) else
    bnd (opM K s win told) (fun r => match r.2 with
      | none => ret none
      | some (true, v) => runM K k r.1 (lastN K.size (win ++ [v])) (told ++ [v])
      | some (false, l) => if K.n - told.length < l then ret none else if win.length < r.1.r0 + 1 then ret none else
          runM K k r.1 (lastN K.size (win ++ outL win (r.1.r0 + 1) l)) (told ++ outL win (r.1.r0 + 1) l))
theorem runM_done (K : Ck) (k : Nat) (s : Se) (win told : List Nat) (h : K.n ≤ told.length) : runM K k s win told = ret (some (s, win, told)) := by
  cases k with
  | zero => rfl
  | succ k => simp only [runM, if_pos h]
def okEnd (d : Dec) : Bool := decide (endL (ordD d) = 0) && decide (endE (ordD d) = 0)
/-- A chunk: what is told, the state and the window behind it. -/
structure Out where
  s : Se
  c : Nat → Nat
  win : List Nat
  told : List Nat
def chunkR (r : Option (Se × List Nat × List Nat) × Cx) : Option Out := match r.1 with
  | none => none
  | some q => if okEnd r.2.d then some ⟨q.1, r.2.c, q.2.1, q.2.2⟩ else none
def chunkM (K : Ck) (s : Se) (c : Nat → Nat) (win : List Nat) (b : List Nat) : Option Out := chunkR (runM K K.n s win [] ⟨c, newD b⟩)

end Go.Proofs.YtinhlkioeadfdaaDoor
