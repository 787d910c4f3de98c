/-
  codings: what its walk leans on.
  codings: the codings of all kinds of values, in new memory.
  The kinds of values as plain numbers; the code of a value, found by halving.
  A coding as it lies: its numbers, codeOf, read and put.
  Small functions on codings: codeOf, read, put; values of a step and back.
  setNext: each state is given its Bits and its Base.
  Table of counts: the cells of all states, or ErrCounts.
  Small functions on codings: put; the values of a step, and a step of values; logs and shifts.
-/
import Derived.Deep.RegionLaw
import Derived.Test.YtnjilcokkhodmaaGreatDoorZP3
import Derived.Test.YtnjilcokkhodmaaGreatDoorZP7
namespace Go.Proofs.YtnjilcokkhodmaaGreatDoor
open Go.RowKit Go.Shelf
set_option linter.unusedVariables false

theorem setAll_size : ∀ (vs : List Value) (o : Nat) (cs : Array Value), (setAll cs o vs).size = cs.size
 | [], _, _ => rfl
 | v :: vs, o, cs => by rw [setAll, setAll_size, Array.size_setIfInBounds]
theorem setCells_obj (b t : Nat) : ∀ (vs : List Value) (o : Nat) (cs : Array Value) (w : World), w.heap[b]? = some (.cells cs t (0, 0)) → (w.setCells b o vs).heap[b]? = some (.cells (setAll cs o vs) t (0, 0))
 | [], _, _, _, h => h
 | v :: vs, o, cs, w, h => setCells_obj b t vs (o + 1) _ _ (set_obj h o v)
theorem keep_setCells {S : Nat → Prop} {a : World} (b : Nat) (hb : b < a.heap.size → S b) : ∀ (vs : List Value) (o : Nat) (w : World), Keep S a w → Keep S a (w.setCells b o vs)
 | [], _, _, h => h
 | v :: vs, o, w, h => keep_setCells b hb vs (o + 1) _ (h.setCell (p := ⟨b, o, none⟩) hb v)

theorem info57 : (Tryz.prog.info? 106).map (·.size) = some 110 := by kernel_rfl
theorem info58 : (Tryz.prog.info? 107).map (·.size) = some 330 := by kernel_rfl
theorem raw57_length (ml l : Nat) (v : Value) : (raw57 ml l v).length = 110 := rfl
theorem raw57_one (ml l g n : Nat) : ∀ v ∈ raw57 ml l (.slice (some ⟨g, 0, none⟩) n n), v.oneCell' = true := by
 intro v hv
 simp only [raw57, List.mem_cons, List.mem_append, List.mem_replicate, List.not_mem_nil, or_false] at hv
 rcases hv with rfl | (⟨-, rfl⟩ | ⟨-, rfl⟩) | rfl | rfl | rfl <;> rfl
def i16c (xs : List Int) : List Value := xs.map (fun x => Value.int .i16 x)

/-- The codings in block b, their counts in blocks of their own. -/
structure IsCod (w : World) (b g0 g1 g2 : Nat) : Prop where
 obj : w.heap[b]? = some (.cells (codA (.slice (some ⟨g0, 0, none⟩) 36 36) (.slice (some ⟨g1, 0, none⟩) 29 29) (.slice (some ⟨g2, 0, none⟩) 53 53)).toArray 107 (0, 0))
 o0 : w.heap[g0]? = some (.cells (i16c cL).toArray 131 (0, 0))
 o1 : w.heap[g1]? = some (.cells (i16c cB).toArray 131 (0, 0))
 o2 : w.heap[g2]? = some (.cells (i16c cM).toArray 131 (0, 0))

theorem h110 : 0 + 110 ≤ 330 := by decide
theorem h220 : 110 + 110 ≤ 330 := by decide
theorem h330 : 220 + 110 ≤ 330 := by decide
theorem b57_eq (ml l : Nat) (v : Value) : ((Tryz.zeroCells106.setIfInBounds 107 (.int .i64 (ml : Int))).setIfInBounds 108 (.int .i64 (l : Int))).setIfInBounds 109 v = (raw57 ml l v).toArray := by kernel_rfl
theorem wpList_store_obj {ops : Array Oper} {rest : List Oper} {op : Oper} {a : Act} {Q : Exit → Act → World → Prop} (w : World) (hgd : op.guard = none) (ty : TypeId) (x y : Operand) (ho : op.op = .store ty x y)
  (b o bt n sz : Nat) (cs : Array Value) (vs : List Value) (X : Array Value) (hn : vs.length = n) (hsz : cs.size = sz) (hX : X = vs.toArray) (hx : a.eval x = .pointer (some ⟨b, o, none⟩)) (hy : a.eval y = .agg X) (hb : w.heap[b]? = some (.cells cs bt (0, 0))) (hle : o + n ≤ sz)
  (hi : (Tryz.prog.info? ty).map (·.size) = some n) (h1 : ∀ v ∈ vs, v.oneCell' = true)
  (h : ∀ W : World, W.heap[b]? = some (.cells (setAll cs o vs) bt (0, 0)) → Keep (fun k => k = b) w W → W.heap.size = w.heap.size → wpList Tryz.prog ops Q rest (a.put op.dst undef) W) : wpList Tryz.prog ops Q (op :: rest) a w := by
 rw [hX] at hy
 rw [← hsz, ← hn] at hle
 rw [← hn] at hi
 refine wpList_store_mid hgd ty x y ho b o vs.toArray hx hy (fun j hj => ⟨by rw [cell_of hb, Array.getElem?_eq_getElem (by simp at hj; omega)]; rfl, frozen_of hb _⟩) (by simpa using hi) (all_oneCell_toArray h1) ?_
 rw [List.toList_toArray]
 refine h _ (setCells_obj b bt vs o cs w hb) (keep_setCells (S := fun k => k = b) b (fun _ => rfl) vs o w (Keep.refl (fun k => k = b) w)) ?_
 have : ∀ (vs : List Value) (o : Nat) (w : World), (w.setCells b o vs).heap.size = w.heap.size := by
  intro vs
  induction vs with
  | nil => intro o w; rfl
  | cons v vs ih => intro o w; rw [World.setCells, ih]; simp [World.setCell]
 exact this vs o w
theorem bytes_obj {w : World} {g : Nat} {bs : List Nat} (hg : w.heap[g]? = some (.cells (u8s bs).toArray 5 (0, 0))) (hlt : ∀ j : Nat, bs[j]?.getD 0 < 256) (hl : bs.length < 2 ^ 48) : Bytes w (some ⟨g, 0, none⟩) bs.length g 0 bs :=
 ⟨.inl rfl, fun e => (by cases e), fun j hj => by rw [cell_of hg, Nat.zero_add, List.getElem?_toArray, u8s_at bs j hj], hlt, Nat.le_refl _, hl⟩
theorem sprN_size (o : Nat) : ∀ (es : List Nat) (i f : Nat) (cs : Array Value), (sprN o es i f cs).size = cs.size
 | [], _, _, _ => rfl
 | e :: es, i, f, cs => by rw [sprN, sprN_size, Array.size_setIfInBounds, Array.size_setIfInBounds]
theorem stepC_size (o first : Nat) (es : List Nat) (ml l : Nat) (v : Value) (cs : Array Value) : (stepC o first es ml l v cs).size = cs.size := by
 unfold stepC
 rw [sprN_size, Array.size_setIfInBounds, setAll_size]
theorem zero58_size : Tryz.zeroCells107.size = 330 := by kernel_rfl
theorem eL_lt : ∀ e ∈ eL, e < 32 := by decide
theorem eB_lt : ∀ e ∈ eB, e < 32 := by decide
theorem eM_lt : ∀ e ∈ eM, e < 32 := by decide
theorem lt256_of {es : List Nat} (h : ∀ e ∈ es, e < 32) : ∀ j : Nat, es[j]?.getD 0 < 256 := lt256 (fun b hb => by have := h b hb; omega)

theorem p53 : (53 : Nat) < 2 ^ 48 := Nat.lt_of_lt_of_le (by decide : 53 < 2 ^ 6) (Nat.pow_le_pow_right (by decide) (by decide))
theorem spread_one (b o first g ml l : Nat) (es : List Nat) (v : Value) (cs cur : Array Value) (w : World) (hb : w.heap[b]? = some (.cells cur 107 (0, 0))) (hcur : cur = setAll cs o (raw57 ml l v)) (hs : cs.size = 330) (ho : o + 110 ≤ 330) (hf : first < 4294967296) (hE : ∀ e ∈ es, e < 32) (hl : es.length ≤ 53) (o' : Obj) (ho' : o' = .cells (u8s es).toArray 5 (0, 0)) (n : Nat) (hn : n = es.length) (hg : g = w.heap.size) :
  Calls Tryz.prog 64 #[.pointer (some ⟨b, o, none⟩), .int .u32 (first : Int), .slice (some ⟨g, 0, none⟩) n n] (w.alloc o') fun e w' => e = .returned (.tuple #[]) ∧
   w'.heap[b]? = some (.cells (stepC o first es ml l v cs) 107 (0, 0)) ∧ Keep (fun k => k = b) w w' ∧ w.heap.size ≤ w'.heap.size := by
 rw [hcur] at hb
 rw [ho', hn, hg]
 clear hcur ho' hn hg
 have hbl := obj_lt hb
 refine (spread_any b o first w.heap.size 0 es.length es _ (w.alloc (.cells (u8s es).toArray 5 (0, 0))) (alloc_far hb _) (by rw [setAll_size]; omega) hf (bytes_obj (alloc_new w _) (lt256_of hE) (Nat.lt_of_le_of_lt hl p53)) (by omega) hl hE).mono ?_
 rintro e w' ⟨rfl, h1, h2⟩
 exact ⟨rfl, h1, ((Keep.refl (fun k => k = b) w).alloc _).trans h2 (fun _ _ h => h), by have := h2.size; rw [World.size_alloc] at this; omega⟩

/-- The codings under way: block b, counts that lie. -/
structure Cg (w W : World) (b : Nat) (cs : Array Value) (gs : List (Nat × List Int)) : Prop where
 obj : W.heap[b]? = some (.cells cs 107 (0, 0))
 sz : cs.size = 330
 cnt : ∀ p ∈ gs, W.heap[p.1]? = some (.cells (i16c p.2).toArray 131 (0, 0)) ∧ w.heap.size ≤ p.1 ∧ p.1 ≠ b
 kp : Keep noBlock w W
 n : w.heap.size ≤ b
theorem Cg.step {w W W' : World} {b : Nat} {cs cs' : Array Value} {gs : List (Nat × List Int)} (h : Cg w W b cs gs) (h1 : W'.heap[b]? = some (.cells cs' 107 (0, 0))) (h2 : Keep (fun k => k = b) W W') (h3 : cs'.size = cs.size) : Cg w W' b cs' gs :=
 ⟨h1, h3.trans h.sz, fun p hp => ⟨h2.obj (h.cnt p hp).1 (h.cnt p hp).2.2, (h.cnt p hp).2⟩, h.kp.trans h2 (fun i hi e => by have := h.n; omega), h.n⟩
theorem Cg.alloc {w W : World} {b : Nat} {cs : Array Value} {gs : List (Nat × List Int)} (h : Cg w W b cs gs) (xs : List Int) (g : Nat) (hg : g = W.heap.size) (o : Obj) (ho : o = .cells (i16c xs).toArray 131 (0, 0)) : Cg w (W.alloc o) b cs ((g, xs) :: gs) := by
 rw [hg, ho]
 refine ⟨alloc_far h.obj _, h.sz, fun p hp => ?_, h.kp.alloc _, h.n⟩
 rcases List.mem_cons.1 hp with rfl | hp
 ·exact ⟨alloc_new W _, h.kp.size, by have := obj_lt h.obj; show W.heap.size ≠ b; omega⟩
 ·exact ⟨alloc_far (h.cnt p hp).1 _, (h.cnt p hp).2⟩
theorem cg_new (w : World) : Cg w (w.alloc (.cells Tryz.zeroCells107 107)) w.heap.size Tryz.zeroCells107 [] :=
 ⟨alloc_new w _, zero58_size, fun p hp => (List.not_mem_nil hp).elim, (Keep.refl _ w).alloc _, Nat.le_refl _⟩
theorem codA_length (v0 v1 v2 : Value) : (codA v0 v1 v2).length = 330 := by kernel_rfl

theorem codA_one (g0 g1 g2 n0 n1 n2 : Nat) : (codA (.slice (some ⟨g0, 0, none⟩) n0 n0) (.slice (some ⟨g1, 0, none⟩) n1 n1) (.slice (some ⟨g2, 0, none⟩) n2 n2)).toArray.all (·.oneCell') = true := by kernel_rfl
end Go.Proofs.YtnjilcokkhodmaaGreatDoor

namespace Go.Proofs.YtnjilcokkhodmaaGreatDoor
open Go.RowKit Go.Shelf
set_option linter.unusedVariables false

section
set_option maxRecDepth 20000 in
set_option maxHeartbeats 8000000 in
theorem codings_any (w : World) : Calls Tryz.prog 50 #[] w fun e w' => ∃ g0 g1 g2, e = .returned (.agg (codA (.slice (some ⟨g0, 0, none⟩) 36 36) (.slice (some ⟨g1, 0, none⟩) 29 29) (.slice (some ⟨g2, 0, none⟩) 53 53)).toArray) ∧
  w'.heap[g0]? = some (.cells (i16c cL).toArray 131 (0, 0)) ∧ w'.heap[g1]? = some (.cells (i16c cB).toArray 131 (0, 0)) ∧ w'.heap[g2]? = some (.cells (i16c cM).toArray 131 (0, 0)) ∧ w.heap.size ≤ g0 ∧ w.heap.size ≤ g1 ∧ w.heap.size ≤ g2 ∧ Keep noBlock w w' := by
 have G1 := hid ((cg_new w).alloc cL (w.heap.size + 1) (by rw [World.size_alloc]) _ rfl)
 go_enter Tryz.func50, Tryz.ntmps50
 go_wp2_with (refine wpList_store_obj _ rfl 106 (.tmp 3) (.tmp 2) rfl w.heap.size 0 107 110 330 Tryz.zeroCells107 (raw57 9 6 (.slice (some ⟨w.heap.size + 1, 0, none⟩) 36 36)) _ (raw57_length _ _ _) zero58_size (b57_eq 9 6 _) rfl rfl G1.out.obj h110 info57 (raw57_one 9 6 _ _) ?_; intro W1 q1 q2 q3)
 have G2 := hid (G1.out.step q1 q2 (setAll_size _ _ _))
 have HS := hid (spread_one w.heap.size 0 0 (w.heap.size + 1 + 1) 9 6 eL (.slice (some ⟨w.heap.size + 1, 0, none⟩) 36 36) Tryz.zeroCells107 _ W1 q1 rfl zero58_size h110 (by omega) eL_lt (by decide) _ rfl 36 rfl (by rw [q3]; simp))
 rw [show (((0 : Nat) : Int)) = (0 : Int) from rfl] at HS
 clear q1 q2 q3 G1
 refine HS.out.mono ?_
 rintro e W2 ⟨rfl, q1, q2, -⟩
 have G3 := hid (G2.out.step q1 q2 ((stepC_size _ _ _ _ _ _ _).trans (setAll_size _ _ _).symm))
 clear q1 q2 HS G2
 generalize hC1 : stepC 0 0 eL 9 6 (.slice (some ⟨w.heap.size + 1, 0, none⟩) 36 36) Tryz.zeroCells107 = C1 at *
 have HC1 := hid hC1
 have HN := hid (Nat.le_refl w.heap.size)
 clear hC1
 generalize hb0 : w.heap.size + 1 = g0 at *
 obtain ⟨b, hb⟩ : ∃ b, b = w.heap.size := ⟨_, rfl⟩
 rw [← hb] at G3 ⊢
 have G4 := hid (G3.out.alloc cB W2.heap.size rfl _ rfl)
 clear hb hb0
 go_wp2_with (refine wpList_store_obj _ rfl 106 (.tmp 9) (.tmp 8) rfl b 110 107 110 330 C1 (raw57 8 5 (.slice (some ⟨W2.heap.size, 0, none⟩) 29 29)) _ (raw57_length _ _ _) G4.out.sz (b57_eq 8 5 _) rfl rfl G4.out.obj h220 info57 (raw57_one 8 5 _ _) ?_; intro W3 q1 q2 q3)
 have G5 := hid (G4.out.step q1 q2 (setAll_size _ _ _))
 have HS := hid (spread_one b 110 1 (W2.heap.size + 1) 8 5 eB (.slice (some ⟨W2.heap.size, 0, none⟩) 29 29) C1 _ W3 q1 rfl G4.out.sz h220 (by omega) eB_lt (by decide) _ rfl 32 rfl (by rw [q3]; simp))
 rw [show (((1 : Nat) : Int)) = (1 : Int) from rfl] at HS
 clear q1 q2 q3 G4 G3
 refine HS.out.mono ?_
 rintro e W4 ⟨rfl, q1, q2, -⟩
 have G6 := hid (G5.out.step q1 q2 ((stepC_size _ _ _ _ _ _ _).trans (setAll_size _ _ _).symm))
 clear q1 q2 HS G5
 generalize hg1 : W2.heap.size = g1 at *
 clear hg1
 generalize hC2 : stepC 110 1 eB 8 5 (.slice (some ⟨g1, 0, none⟩) 29 29) C1 = C2 at *
 have HC2 := hid hC2
 have G7 := hid (G6.out.alloc cM W4.heap.size rfl _ rfl)
 clear hC2
 go_wp2_with (refine wpList_store_obj _ rfl 106 (.tmp 15) (.tmp 14) rfl b 220 107 110 330 C2 (raw57 9 6 (.slice (some ⟨W4.heap.size, 0, none⟩) 53 53)) _ (raw57_length _ _ _) G7.out.sz (b57_eq 9 6 _) rfl rfl G7.out.obj h330 info57 (raw57_one 9 6 _ _) ?_; intro W5 q1 q2 q3)
 have G8 := hid (G7.out.step q1 q2 (setAll_size _ _ _))
 have HS := hid (spread_one b 220 3 (W4.heap.size + 1) 9 6 eM (.slice (some ⟨W4.heap.size, 0, none⟩) 53 53) C2 _ W5 q1 rfl G7.out.sz h330 (by omega) eM_lt (by decide) _ rfl 53 rfl (by rw [q3]; simp))
 rw [show (((3 : Nat) : Int)) = (3 : Int) from rfl] at HS
 clear q1 q2 q3 G7 G6
 refine HS.out.mono ?_
 rintro e W6 ⟨rfl, q1, q2, -⟩
 have G9 := hid (G8.out.step q1 q2 ((stepC_size _ _ _ _ _ _ _).trans (setAll_size _ _ _).symm))
 clear q1 q2 HS G8
 generalize hg2 : W4.heap.size = g2 at *
 clear hg2
 rw [← HC2.out, ← HC1.out, codA_made] at G9
 have HO := hid G9.out.obj
 clear HC1 HC2 HN
 generalize hA : (codA (.slice (some ⟨g0, 0, none⟩) 36 36) (.slice (some ⟨g1, 0, none⟩) 29 29) (.slice (some ⟨g2, 0, none⟩) 53 53)).toArray = A at *
 have HA := hid hA
 have HJ : Hid ((Tryz.prog.info? 107).map (·.size) = some A.size) := by rw [G9.out.sz]; exact info58
 have HSf := hid (setRow_self W6 b A 107 (0, 0) HO.out)
 have H1 : Hid (A.all (·.oneCell') = true) := by rw [← hA]; exact codA_one _ _ _ _ _ _
 clear hA
 go_wp2_with (first | (refine wpList_load_row rfl 107 (.tmp 0) rfl b rfl 107 A (0, 0) _ HO.out Tryz.underlying107 rfl HJ.out ?_) | (refine wpList_store_row rfl 107 (.tmp 0) (.tmp 19) rfl b A rfl rfl 107 A HO.out HJ.out rfl H1.out ?_; rw [HSf.out]))
 refine bodyPost_ret (results_cell rfl _ _ _ ⟨b, 0, none⟩ (.agg A) rfl (run_loadVar_row _ _ 107 107 _ (0, 0) _ HO.out Tryz.underlying107 rfl HJ.out)) rfl ?_
 have e0 := G9.out.cnt (g0, cL) (by simp)
 have e1 := G9.out.cnt (g1, cB) (by simp)
 have e2 := G9.out.cnt (g2, cM) (by simp)
 exact ⟨g0, g1, g2, by rw [HA.out], e0.1, e1.1, e2.1, e0.2.1, e1.2.1, e2.2.1, G9.out.kp⟩
end
end Go.Proofs.YtnjilcokkhodmaaGreatDoor

namespace Go.Proofs.YtnjilcokkhodmaaGreatDoor
open Go.RowKit Go.Shelf
set_option linter.unusedVariables false

/-- A kind of values: the first value, extra bits by code, the most log, the log and the counts of the table that is not told. -/
structure Kd where
 first : Nat
 es : List Nat
 ml : Nat
 l : Nat
 cs : List Int
def kdL : Kd := ⟨0, eL, 9, 6, cL⟩
def kdB : Kd := ⟨1, eB, 8, 5, cB⟩
def kdM : Kd := ⟨3, eM, 9, 6, cM⟩
def Kd.codes (K : Kd) : Nat := K.es.length
def Kd.lsts (K : Kd) : List Nat := leastsF K.first K.es
def Kd.lst (K : Kd) (c : Nat) : Nat := K.lsts[c]?.getD 0
def Kd.ext (K : Kd) (c : Nat) : Nat := K.es[c]?.getD 0
/-- What is true of the three kinds. -/
structure KOk (K : Kd) : Prop where
 len : K.lsts.length = K.codes
 le : K.codes ≤ 53
 pos : 0 < K.codes
 zero : K.lst 0 = K.first
 lt : ∀ c, c < K.codes → K.lst c < 4294967296 ∧ K.ext c < 32
 next : ∀ c, c + 1 < K.codes → K.lst (c + 1) = K.lst c + 2 ^ K.ext c
 ml5 : 5 ≤ K.ml
 ml9 : K.ml ≤ 9
theorem kok_check (K : Kd) (h : (decide (K.lsts.length = K.codes) && decide (K.codes ≤ 53) && decide (0 < K.codes) && decide (K.lst 0 = K.first) && decide (5 ≤ K.ml) && decide (K.ml ≤ 9) &&
  (List.range K.codes).all (fun c => decide (K.lst c < 4294967296 ∧ K.ext c < 32)) && (List.range K.codes).all (fun c => decide (c + 1 < K.codes → K.lst (c + 1) = K.lst c + 2 ^ K.ext c))) = true) : KOk K := by
 simp only [Bool.and_eq_true, decide_eq_true_eq, List.all_eq_true, List.mem_range] at h
 obtain ⟨⟨⟨⟨⟨⟨⟨h1, h2⟩, h3⟩, h4⟩, h5⟩, h6⟩, h7⟩, h8⟩ := h
 exact ⟨h1, h2, h3, h4, fun c hc => h7 c hc, fun c hc => h8 c (by omega) hc, h5, h6⟩
theorem kokL : KOk kdL := kok_check _ (by kernel_rfl)
theorem kokB : KOk kdB := kok_check _ (by kernel_rfl)
theorem kokM : KOk kdM := kok_check _ (by kernel_rfl)

end Go.Proofs.YtnjilcokkhodmaaGreatDoor

namespace Go.Proofs.YtnjilcokkhodmaaGreatDoor
open Go.RowKit Go.Shelf
set_option linter.unusedVariables false

/-- At offset o of block b stands a coding, its counts in block gc. -/
structure Coding (w : World) (b o gc : Nat) (K : Kd) : Prop where
 codes : w.cell? ⟨b, o, none⟩ = some (.int .i64 (K.codes : Int))
 least : ∀ j, j < K.codes → w.cell? ⟨b, o + 1 + j, none⟩ = some (.int .u32 ((K.lst j : Nat) : Int))
 extra : ∀ j, j < K.codes → w.cell? ⟨b, o + 54 + j, none⟩ = some (.int .u8 ((K.ext j : Nat) : Int))
 ml : w.cell? ⟨b, o + 107, none⟩ = some (.int .i64 (K.ml : Int))
 lg : w.cell? ⟨b, o + 108, none⟩ = some (.int .i64 (K.l : Int))
 cn : w.cell? ⟨b, o + 109, none⟩ = some (.slice (some ⟨gc, 0, none⟩) K.cs.length K.cs.length)
 row : RowI w .i16 (some ⟨gc, 0, none⟩) K.cs.length gc 0 K.cs
 lt : b < w.heap.size
 gt : gc < w.heap.size
 ok : KOk K
theorem Coding.keep {w w' : World} {S : Nat → Prop} {b o gc : Nat} {K : Kd} (h : Coding w b o gc K) (hk : Keep S w w') (h1 : ¬ S b) (h2 : ¬ S gc) : Coding w' b o gc K := by
 have e := hk.block b h.lt h1
 exact ⟨(World.cell?_of_block e).trans h.codes, fun j hj => (World.cell?_of_block e).trans (h.least j hj), fun j hj => (World.cell?_of_block e).trans (h.extra j hj), (World.cell?_of_block e).trans h.ml, (World.cell?_of_block e).trans h.lg, (World.cell?_of_block e).trans h.cn,
  h.row.keep hk (fun _ => h2), Nat.lt_of_lt_of_le h.lt hk.size, Nat.lt_of_lt_of_le h.gt hk.size, h.ok⟩

theorem pad_length (n : Nat) (l : List Nat) (h : l.length ≤ n) : (pad n l).length = n := by simp [pad]; omega
theorem pad_at (n : Nat) (l : List Nat) (j : Nat) (h : j < l.length) : (pad n l)[j]? = some (l[j]?.getD 0) := by
 unfold pad
 rw [List.getElem?_append_left h, List.getElem?_eq_getElem h]
 rfl
theorem codL_length (K : Kd) (hK : KOk K) (v : Value) : (codL K.first K.es K.ml K.l v).length = 110 := by
 have h1 := pad_length 53 (leastsF K.first K.es) (by have := hK.len; have := hK.le; unfold Kd.lsts at *; omega)
 have h2 := pad_length 53 K.es hK.le
 simp [codL, h1, h2]
theorem coding_of {w : World} {b o gc : Nat} {K : Kd} (hK : KOk K) {A : List Value} (hb : w.heap[b]? = some (.cells A.toArray 107 (0, 0))) (v : Value) (hv : v = .slice (some ⟨gc, 0, none⟩) K.cs.length K.cs.length)
  (hA : ∀ j, j < 110 → A[o + j]? = (codL K.first K.es K.ml K.l v)[j]?) (hg : w.heap[gc]? = some (.cells (i16c K.cs).toArray 131 (0, 0))) : Coding w b o gc K := by
 have hl1 := pad_length 53 (leastsF K.first K.es) (by have := hK.len; have := hK.le; unfold Kd.lsts at *; omega)
 have hl2 := pad_length 53 K.es hK.le
 have cell : ∀ j, j < 110 → w.cell? ⟨b, o + j, none⟩ = (codL K.first K.es K.ml K.l v)[j]? := fun j hj => by
  rw [cell_of hb, List.getElem?_toArray]; exact hA j hj
 have hle := hK.le
 have c53 : K.codes ≤ 53 := hle
 refine ⟨(cell 0 (by omega)).trans rfl, fun j hj => ?_, fun j hj => ?_, ?_, ?_, ?_, ⟨.inl rfl, fun e => (by cases e), fun j hj => ?_, Nat.le_refl _⟩, obj_lt hb, obj_lt hg, hK⟩
 ·rw [Nat.add_assoc, cell (1 + j) (by omega), Nat.add_comm 1 j]
  show ((_ ++ _ ++ _ : List Value))[j]? = _
  rw [List.append_assoc, List.getElem?_append_left (by rw [List.length_map, hl1]; omega), List.getElem?_map, pad_at 53 _ j (by have := hK.len; unfold Kd.lsts at this; omega)]
  rfl
 ·rw [Nat.add_assoc, cell (54 + j) (by omega), show 54 + j = 53 + j + 1 from by omega]
  show ((_ ++ _ ++ _ : List Value))[53 + j]? = _
  rw [List.append_assoc, List.getElem?_append_right (by rw [List.length_map, hl1]; omega), List.length_map, hl1, Nat.add_sub_cancel_left, List.getElem?_append_left (by rw [List.length_map, hl2]; omega), List.getElem?_map, pad_at 53 _ j hj]
  rfl
 ·rw [cell 107 (by omega)]
  show ((_ ++ _ ++ _ : List Value))[106]? = _
  rw [List.getElem?_append_right (by rw [List.length_append, List.length_map, List.length_map, hl1, hl2]; omega), List.length_append, List.length_map, List.length_map, hl1, hl2]
  rfl
 ·rw [cell 108 (by omega)]
  show ((_ ++ _ ++ _ : List Value))[107]? = _
  rw [List.getElem?_append_right (by rw [List.length_append, List.length_map, List.length_map, hl1, hl2]; omega), List.length_append, List.length_map, List.length_map, hl1, hl2]
  rfl
 ·rw [cell 109 (by omega)]
  show ((_ ++ _ ++ _ : List Value))[108]? = _
  rw [List.getElem?_append_right (by rw [List.length_append, List.length_map, List.length_map, hl1, hl2]; omega), List.length_append, List.length_map, List.length_map, hl1, hl2, hv]
  rfl
 ·rw [cell_of hg, Nat.zero_add, List.getElem?_toArray, i16c, List.getElem?_map, List.getElem?_eq_getElem hj]
  rfl
/-- The three codings. -/
structure Cods (w : World) (b g0 g1 g2 : Nat) : Prop where
 cl : Coding w b 0 g0 kdL
 cb : Coding w b 110 g1 kdB
 cm : Coding w b 220 g2 kdM
theorem cods_of {w : World} {b g0 g1 g2 : Nat} (h : IsCod w b g0 g1 g2) : Cods w b g0 g1 g2 := by
 have l0 := codL_length kdL kokL (.slice (some ⟨g0, 0, none⟩) 36 36)
 have l1 := codL_length kdB kokB (.slice (some ⟨g1, 0, none⟩) 29 29)
 refine ⟨coding_of kokL h.obj _ rfl (fun j hj => ?_) h.o0, coding_of kokB h.obj _ rfl (fun j hj => ?_) h.o1, coding_of kokM h.obj _ rfl (fun j hj => ?_) h.o2⟩
 ·unfold codA
  rw [List.append_assoc, Nat.zero_add]
  exact List.getElem?_append_left (by rw [show codL 0 eL 9 6 _ = codL kdL.first kdL.es kdL.ml kdL.l _ from rfl, l0]; exact hj)
 ·unfold codA
  rw [List.append_assoc, List.getElem?_append_right (by rw [show codL 0 eL 9 6 _ = codL kdL.first kdL.es kdL.ml kdL.l _ from rfl, l0]; omega), show codL 0 eL 9 6 _ = codL kdL.first kdL.es kdL.ml kdL.l _ from rfl, l0, Nat.add_sub_cancel_left]
  exact List.getElem?_append_left (by rw [show codL 1 eB 8 5 _ = codL kdB.first kdB.es kdB.ml kdB.l _ from rfl, l1]; exact hj)
 ·unfold codA
  rw [List.getElem?_append_right (by rw [List.length_append, show codL 0 eL 9 6 _ = codL kdL.first kdL.es kdL.ml kdL.l _ from rfl, l0, show codL 1 eB 8 5 _ = codL kdB.first kdB.es kdB.ml kdB.l _ from rfl, l1]; omega), List.length_append, show codL 0 eL 9 6 _ = codL kdL.first kdL.es kdL.ml kdL.l _ from rfl, l0, show codL 1 eB 8 5 _ = codL kdB.first kdB.es kdB.ml kdB.l _ from rfl, l1, show 220 + j - (110 + 110) = j from by omega]
  rfl
theorem Cods.keep {w w' : World} {S : Nat → Prop} {b g0 g1 g2 : Nat} (h : Cods w b g0 g1 g2) (hk : Keep S w w') (hb : ¬ S b) (h0 : ¬ S g0) (h1 : ¬ S g1) (h2 : ¬ S g2) : Cods w' b g0 g1 g2 :=
 ⟨h.cl.keep hk hb h0, h.cb.keep hk hb h1, h.cm.keep hk hb h2⟩
end Go.Proofs.YtnjilcokkhodmaaGreatDoor

namespace Go.Proofs.YtnjilcokkhodmaaGreatDoor
open Go.RowKit Go.Shelf
set_option linter.unusedVariables false

section
attribute [local go_sem] sliceAtSem_eq
end

end Go.Proofs.YtnjilcokkhodmaaGreatDoor

namespace Go.Proofs.YtnjilcokkhodmaaGreatDoor
open Go.RowKit Go.Shelf

def nthF (xs : List Int) (S i s : Nat) : Int := (if s < xs.length then shareN (xs[s]?.getD 0) else 0) + ((cntP (fun j => decide (symF xs S j = s)) i : Nat) : Int)
theorem nthF_at {xs : List Int} {S : Nat} (h : Tab xs S) (i : Nat) (hi : i < S) : nthF xs S i (symF xs S i) = ((xF xs S i : Nat) : Int) := by
 obtain ⟨c, e, c1, c2, c3, c4⟩ := h.x i hi
 obtain ⟨-, h2, -⟩ := h.symF i hi
 unfold nthF
 rw [if_pos h2, e, c4]
 unfold blF
 omega
theorem nthF_succ (xs : List Int) (S i s : Nat) : nthF xs S (i + 1) s = if s = symF xs S i then nthF xs S i s + 1 else nthF xs S i s := by
 unfold nthF
 simp only [cntP]
 by_cases e : symF xs S i = s
 ·subst e; simp; omega
 ·rw [if_neg (show ¬ s = symF xs S i from fun h => e h.symm)]; simp [e]

set_option maxRecDepth 100000 in
set_option maxHeartbeats 4000000 in
theorem setNext_any (cb l : Nat) (xs : List Int) (a : Option Addr) (cap gb off : Nat) (w : World) (hT : IsT w cb 215 4096 (symF xs (2 ^ l)) (fun _ => 0) (fun _ => 0)) (hR : RowI w .i16 a cap gb off xs) (hx : I16 xs) (hgb : xs ≠ [] → gb ≠ cb) (hTab : Tab xs (2 ^ l)) (hl12 : l ≤ 12) :
  Calls Tryz.prog 119 #[.slice (some ⟨cb, 0, none⟩) (2 ^ l) 4096, .slice a xs.length cap, .int .i64 (l : Int)] w fun e w' => e = .returned (.tuple #[]) ∧
   IsT w' cb 215 4096 (symF xs (2 ^ l)) (fun i => if i < 2 ^ l then bitF l (xF xs (2 ^ l) i) else 0) (fun i => if i < 2 ^ l then baseF l (xF xs (2 ^ l) i) else 0) ∧ Keep (fun k => k = cb) w w' := by
 have hcb := hT.lt
 have hSb : 2 ^ l ≤ 4096 := Nat.pow_le_pow_right (n := 2) (j := 12) (by omega) hl12
 have hlen := hTab.len
 have HH := (show Hid (RowI w .i16 a cap gb off xs ∧ (xs ≠ [] → gb ≠ cb) ∧ Tab xs (2 ^ l) ∧ I16 xs) from ⟨hR, hgb, hTab, hx⟩)
 have hA : IsA (w.alloc (.cells Tryz.zeroCells250 250)) w.heap.size 250 .i64 256 (fun _ => 0) := by rw [zero107]; exact isA_zeros w 250 .i64 256
 have HA := (show Hid (IsA (w.alloc (.cells Tryz.zeroCells250 250)) w.heap.size 250 .i64 256 (fun _ => 0) ∧ Keep (fun k => k = cb) w (w.alloc (.cells Tryz.zeroCells250 250)) ∧ IsT (w.alloc (.cells Tryz.zeroCells250 250)) cb 215 4096 (symF xs (2 ^ l)) (fun _ => 0) (fun _ => 0)) from
  ⟨hA, (Keep.refl _ w).alloc _, hT.keep ((Keep.refl noBlock w).alloc _) (fun h => h)⟩)
 obtain ⟨n, hn⟩ : ∃ n, n = xs.length := ⟨_, rfl⟩
 rw [← hn] at hlen ⊢
 have HN := (show Hid (n = xs.length) from hn)
 obtain ⟨S, hS⟩ : ∃ S, S = 2 ^ l := ⟨_, rfl⟩
 rw [← hS] at hSb HH HA ⊢
 have HS := (show Hid (S = 2 ^ l) from hS)
 clear hT hR hgb hTab hn hS hA hx
 go_enter Tryz.func119, Tryz.ntmps119
 go_wp2_with fail
 generalize w.alloc (.cells Tryz.zeroCells250 250) = W1 at HA ⊢
 obtain ⟨nb, hnb⟩ : ∃ nb, nb = w.heap.size := ⟨_, rfl⟩
 rw [← hnb] at HA hcb ⊢
 have HNB := (show Hid (nb = w.heap.size) from hnb)
 clear hnb
 go_loopw [14] (fun v14 wr => ∃ i : Nat, v14 = .int .i64 (i : Int) ∧ i ≤ n ∧ Hid (IsA wr nb 250 .i64 256 (fun s => if s < i then shareN (xs[s]?.getD 0) else 0) ∧ Keep (fun k => k = cb) w wr ∧ IsT wr cb 215 4096 (symF xs S) (fun _ => 0) (fun _ => 0))) (fun v14 _ => n - (intOf v14).toNat)
 case atStart => exact ⟨0, rfl, Nat.zero_le _, HA.out.1.congr (fun i _ => by simp), HA.out.2⟩
 case round =>
  clear HA
  obtain ⟨i, rfl, hi, HC⟩ := hrel
  by_cases hlt : i < n
  ·obtain ⟨h1, h2, h3⟩ := HC.out
   obtain ⟨hR, hgb, hTab, hx⟩ := HH.out
   have hix : i < xs.length := by have := HN.out; omega
   have hR2 := hR.keep h2 hgb
   obtain rfl := hR2.here hix
   have c0 := hR2.cells i hix
   have HSH := (show Hid (∀ w : World, _) from fun w => share_any (xs[i]?.getD 0) (hx i).1 (hx i).2 w)
   have fz := h1.frozen i
   have ci := h1.cell i (by omega)
   have hst := h1.set i (shareN (xs[i]?.getD 0))
   have hltI : (i : Int) < (n : Int) := by omega
   have hi256 : (i : Int) < 256 := by omega
   have hkk : Keep (fun k => k = nb) wr (wr.setCell ⟨nb, i, none⟩ (.int .i64 (shareN (xs[i]?.getD 0)))) := Keep.setCell (S := fun k => k = nb) (p := ⟨nb, i, none⟩) (Keep.refl _ wr) (fun _ => rfl) _
   have HG := (show Hid (IsA (wr.setCell ⟨nb, i, none⟩ (.int .i64 (shareN (xs[i]?.getD 0)))) nb 250 .i64 256 (fun s => if s < i + 1 then shareN (xs[s]?.getD 0) else 0) ∧ Keep (fun k => k = cb) w (wr.setCell ⟨nb, i, none⟩ (.int .i64 (shareN (xs[i]?.getD 0)))) ∧ IsT (wr.setCell ⟨nb, i, none⟩ (.int .i64 (shareN (xs[i]?.getD 0)))) cb 215 4096 (symF xs S) (fun _ => 0) (fun _ => 0)) from by
    refine ⟨hst.congr (fun j _ => ?_), h2.trans hkk (fun j hj e => by have := HNB.out; omega), h3.keep hkk (by omega)⟩
    by_cases e : j = i
    ·subst e; rw [if_pos rfl, if_pos (by omega)]
    ·rw [if_neg e]
     by_cases hj : j < i
     ·rw [if_pos hj, if_pos (by omega)]
     ·rw [if_neg hj, if_neg (by omega)])
   generalize hsc : shareN (xs[i]?.getD 0) = sc at *
   generalize xs[i]?.getD 0 = c at *
   clear h1 h2 h3 hR hgb hTab hx hR2 hst hkk HC hsc
   go_wp2_with (go_at_call 128; refine (HSH.out _).mono ?_; rintro e w'' ⟨rfl, rfl⟩)
   go_roundw
   case rel => exact ⟨i + 1, by go_num, by omega, HG⟩
   case measure => simp [intOf]; omega
  ·obtain rfl : i = n := by omega
   have HD := (show Hid (IsA wr nb 250 .i64 256 (nthF xs S 0) ∧ Keep (fun k => k = cb) w wr ∧ IsT wr cb 215 4096 (symF xs S) (fun i => if i < 0 then bitF l (xF xs S i) else 0) (fun i => if i < 0 then baseF l (xF xs S i) else 0)) from by
    obtain ⟨h1, h2, h3⟩ := HC.out
    refine ⟨h1.congr (fun j _ => ?_), h2, h3.congr (fun _ _ => rfl) (fun _ _ => by simp) (fun _ _ => by simp)⟩
    unfold nthF
    rw [← HN.out]; simp [cntP])
   have hltI : ¬ (i : Int) < (i : Int) := by omega
   clear HC HN
   go_wp2_with fail
   go_loopw [26] (fun v26 wr => ∃ i : Nat, v26 = .int .i64 (i : Int) ∧ i ≤ S ∧ Hid (IsA wr nb 250 .i64 256 (nthF xs S i) ∧ Keep (fun k => k = cb) w wr ∧ IsT wr cb 215 4096 (symF xs S) (fun j => if j < i then bitF l (xF xs S j) else 0) (fun j => if j < i then baseF l (xF xs S j) else 0))) (fun v26 _ => S - (intOf v26).toNat)
   case atStart => exact ⟨0, rfl, Nat.zero_le _, HD⟩
   case round =>
    clear HD
    obtain ⟨i, rfl, hi, HC⟩ := hrel
    by_cases hlt : i < S
    ·obtain ⟨h1, h2, h3⟩ := HC.out
     obtain ⟨hR, hgb, hTab, hx⟩ := HH.out
     obtain ⟨ct, cb1, cb2⟩ := h3.cells i (by omega)
     have f1 := h3.frozen (i * 3 + 1)
     have f2 := h3.frozen (i * 3 + 2)
     have hsl := (hTab.symF i hlt).2.1
     have hsl256 : symF xs S i < 256 := by have := hTab.len; omega
     have cn := h1.cell (symF xs S i) hsl256
     have fn := h1.frozen (symF xs S i)
     rw [nthF_at hTab i hlt] at cn
     have hcl : xF xs S i ≠ 0 ∧ xF xs S i < 2 ^ (l + 1) ∧ bitF l (xF xs S i) ≤ l ∧ baseF l (xF xs S i) < S ∧ 1 ≤ lenN (xF xs S i) ∧ lenN (xF xs S i) ≤ l + 1 ∧ S ≤ xF xs S i * 2 ^ bitF l (xF xs S i) ∧ xF xs S i * 2 ^ bitF l (xF xs S i) < 2 ^ (l + 1) := by
      have hT2 := hTab
      have hl2 := hlt
      rw [HS.out] at hT2 hl2 ⊢
      obtain ⟨a1, a2, a3, a4, a5, a6, a7, a8⟩ := hT2.cell i hl2
      exact ⟨a1, a2, a3, a4, a6, a7, a8, (cell_fits l _ a1 a2).2.2.1⟩
     have hp13 : 2 ^ (l + 1) ≤ 8192 := Nat.pow_le_pow_right (n := 2) (j := 13) (by omega) (by omega)
     obtain ⟨s, hs⟩ : ∃ s, s = symF xs S i := ⟨_, rfl⟩
     obtain ⟨x, hxe⟩ : ∃ x, x = xF xs S i := ⟨_, rfl⟩
     rw [← hxe] at hcl cn
     rw [← hs] at ct cn fn hsl256
     obtain ⟨k1, k2, k3, k4, k5, k6, k7, k8⟩ := hcl
     obtain ⟨b, hb⟩ : ∃ b, b = bitF l x := ⟨_, rfl⟩
     obtain ⟨z, hz⟩ : ∃ z, z = baseF l x := ⟨_, rfl⟩
     obtain ⟨y, hy⟩ : ∃ y, y = x * 2 ^ bitF l x := ⟨_, rfl⟩
     rw [← hy] at k7 k8
     rw [← hb] at k3
     rw [← hz] at k4
     have hbI : (l : Int) + 1 - ((lenN x : Nat) : Int) = (b : Int) := by rw [hb]; unfold bitF; omega
     have hyI : (x : Int) * 2 ^ b = (y : Int) := by rw [hy, hb]; simp
     have hzI : (y : Int) - (S : Int) = (z : Int) := by rw [hz, hy]; unfold baseF; rw [hy, HS.out] at k7; rw [HS.out]; omega
     have HLen := (show Hid (∀ w : World, _) from fun w => len_any x (by omega) w)
     have hLb : ((lenN x : Nat) : Int) ≤ 13 := by omega
     have hL0 : (0 : Int) ≤ ((lenN x : Nat) : Int) := by omega
     have hxb : (x : Int) < 8192 := by omega
     have hyb : (y : Int) < 8192 := by omega
     have hzb : (z : Int) < 4096 := by omega
     have hbb : (b : Int) ≤ 12 := by omega
     have hsI : (s : Int) < 256 := by omega
     have hltI2 : (i : Int) < (S : Int) := by omega
     have hSI : (S : Int) ≤ 4096 := by omega
     have hlI : (l : Int) ≤ 12 := by omega
     have hst := h1.set s ((x : Int) + 1)
     have hkk : Keep (fun k => k = nb) wr (wr.setCell ⟨nb, s, none⟩ (.int .i64 ((x : Int) + 1))) := Keep.setCell (S := fun k => k = nb) (p := ⟨nb, s, none⟩) (Keep.refl _ wr) (fun _ => rfl) _
     have hT2 := h3.keep hkk (by omega)
     have hA2 : IsA (wr.setCell ⟨nb, s, none⟩ (.int .i64 ((x : Int) + 1))) nb 250 .i64 256 (nthF xs S (i + 1)) := hst.congr (fun j _ => by
      rw [nthF_succ, ← hs]
      split
      ·rename_i e; rw [e, hs, nthF_at hTab i hlt, hxe]
      ·rfl)
     have HG := (show Hid (IsA (wr.setCell ⟨nb, s, none⟩ (.int .i64 ((x : Int) + 1))) nb 250 .i64 256 (nthF xs S (i + 1)) ∧ Keep (fun k => k = cb) w (wr.setCell ⟨nb, s, none⟩ (.int .i64 ((x : Int) + 1))) ∧ IsT (wr.setCell ⟨nb, s, none⟩ (.int .i64 ((x : Int) + 1))) cb 215 4096 (symF xs S) (fun j => if j < i then bitF l (xF xs S j) else 0) (fun j => if j < i then baseF l (xF xs S j) else 0)) from
      ⟨hA2, h2.trans hkk (fun j hj e => by have := HNB.out; omega), hT2⟩)
     have HX := (show Hid (b = bitF l (xF xs S i) ∧ z = baseF l (xF xs S i)) from ⟨by rw [hb, hxe], by rw [hz, hxe]⟩)
     obtain ⟨cta, cb1a, cb2a⟩ := hT2.cells i (by omega)
     have f1a := hT2.frozen (i * 3 + 1)
     have f2a := hT2.frozen (i * 3 + 2)
     generalize lenN x = L at *
     clear h1 h2 h3 hR hgb hTab hx HC hst hkk hT2 hA2 hs hxe hb hz hy k1 k2 k3 k4 k5 k6 k7 k8 hp13 hsl cb1 cb2 f1 f2 hsl256
     go_wp2_with fail
     generalize wr.setCell ⟨nb, s, none⟩ (.int .i64 ((x : Int) + 1)) = W2 at HG cta cb1a cb2a f1a f2a ⊢
     refine (HLen.out _).mono ?_
     rintro e w'' ⟨rfl, rfl⟩
     go_wp2_with fail
     go_roundw
     case rel =>
      obtain ⟨g1, g2, g3⟩ := HG.out
      obtain ⟨e1, e2⟩ := HX.out
      have t1 := (g3.setBit i b).setBase i z
      have kk : Keep (fun k => k = cb) w'' ((w''.setCell ⟨cb, i * 3 + 1, none⟩ (.int .u8 (b : Int))).setCell ⟨cb, i * 3 + 2, none⟩ (.int .u16 (z : Int))) :=
       Keep.setCell (S := fun k => k = cb) (p := ⟨cb, i * 3 + 2, none⟩) (Keep.setCell (S := fun k => k = cb) (p := ⟨cb, i * 3 + 1, none⟩) (Keep.refl _ w'') (fun _ => rfl) _) (fun _ => rfl) _
      refine ⟨i + 1, by go_num, by omega, g1.keep kk (by omega), g2.trans kk (fun _ _ h => h), t1.congr (fun _ _ => rfl) (fun j _ => ?_) (fun j _ => ?_)⟩
      ·by_cases e : j = i
       ·subst e; rw [if_pos rfl, if_pos (by omega), e1]
       ·rw [if_neg e]
        by_cases hj : j < i
        ·rw [if_pos hj, if_pos (by omega)]
        ·rw [if_neg hj, if_neg (by omega)]
      ·by_cases e : j = i
       ·subst e; rw [if_pos rfl, if_pos (by omega), e2]
       ·rw [if_neg e]
        by_cases hj : j < i
        ·rw [if_pos hj, if_pos (by omega)]
        ·rw [if_neg hj, if_neg (by omega)]
     case measure => simp [intOf]; omega
    ·obtain rfl : i = S := by omega
     have hltI2 : ¬ (i : Int) < (i : Int) := by omega
     go_wp2_with fail
     go_end0
     obtain ⟨h1, h2, h3⟩ := HC.out
     exact ⟨rfl, h3, h2⟩

end Go.Proofs.YtnjilcokkhodmaaGreatDoor

namespace Go.Proofs.YtnjilcokkhodmaaGreatDoor
open Go.RowKit Go.Shelf

/-- The slice at block g reads as n cells. -/
structure RowT (w : World) (g n : Nat) (sy bi ba : Nat → Nat) : Prop where
 cells : ∀ i, i < n → w.cell? ⟨g, i * 3, none⟩ = some (.int .u8 ((sy i : Nat) : Int)) ∧ w.cell? ⟨g, i * 3 + 1, none⟩ = some (.int .u8 ((bi i : Nat) : Int)) ∧ w.cell? ⟨g, i * 3 + 2, none⟩ = some (.int .u16 ((ba i : Nat) : Int))
 lt : g < w.heap.size
theorem RowT.keep {w w' : World} {S : Nat → Prop} {g n : Nat} {sy bi ba : Nat → Nat} (h : RowT w g n sy bi ba) (hk : Keep S w w') (hS : ¬ S g) : RowT w' g n sy bi ba := by
 have e := hk.block g h.lt hS
 refine ⟨fun i hi => ?_, Nat.lt_of_lt_of_le h.lt hk.size⟩
 obtain ⟨a, b, c⟩ := h.cells i hi
 exact ⟨(World.cell?_of_block e).trans a, (World.cell?_of_block e).trans b, (World.cell?_of_block e).trans c⟩

theorem info50 : (Tryz.prog.info? 130).map (fun i => (i.zero, i.size, i.bytes)) = some (some (.agg #[.int .u8 0, .int .u8 0, .int .u16 0]), 3, 4) := by kernel_rfl

theorem IsT.list {w : World} {b t N : Nat} {sy bi ba : Nat → Nat} (h : IsT w b t N sy bi ba) (n : Nat) (hn : n ≤ N) :
  ∃ L : List Value, L.length = n * 3 ∧ (∀ j u, L[j]? = some u → w.cell? ⟨b, j, none⟩ = some u) ∧ (∀ u ∈ L, u.oneCell' = true) ∧ ∀ i, i < n → L[i * 3]? = some (.int .u8 ((sy i : Nat) : Int)) ∧ L[i * 3 + 1]? = some (.int .u8 ((bi i : Nat) : Int)) ∧ L[i * 3 + 2]? = some (.int .u16 ((ba i : Nat) : Int)) := by
 obtain ⟨cs, h1, h2, h3⟩ := h.obj
 have hat : ∀ j, j < n * 3 → (cs.toList.take (n * 3))[j]? = cs[j]? := fun j hj => by
  rw [List.getElem?_take, if_pos hj]; simp
 have hlen : (cs.toList.take (n * 3)).length = n * 3 := by rw [List.length_take, Array.length_toList, h2]; omega
 refine ⟨cs.toList.take (n * 3), hlen, fun j u hu => ?_, fun u hu => ?_, fun i hi => ?_⟩
 ·have hj : j < n * 3 := by rw [← hlen]; exact (List.getElem?_eq_some_iff.1 hu).1
  rw [hat j hj] at hu
  rw [cell_of h1, hu]
 ·obtain ⟨j, hj, e⟩ := List.getElem_of_mem hu
  rw [hlen] at hj
  have e2 := hat j hj
  rw [List.getElem?_eq_getElem (by rw [hlen]; exact hj), e] at e2
  obtain ⟨d1, d2, d3⟩ := h3 (j / 3) (by omega)
  have hj3 : j = j / 3 * 3 ∨ j = j / 3 * 3 + 1 ∨ j = j / 3 * 3 + 2 := by omega
  rcases hj3 with hj3 | hj3 | hj3
  ·rw [← hj3, ← e2] at d1; cases d1; rfl
  ·rw [← hj3, ← e2] at d2; cases d2; rfl
  ·rw [← hj3, ← e2] at d3; cases d3; rfl
 ·rw [hat _ (by omega), hat _ (by omega), hat _ (by omega)]
  exact h3 i (by omega)

set_option maxHeartbeats 1000000 in
theorem clone39_any (cb n cap : Nat) (sy bi ba : Nat → Nat) (hn : n ≤ 4096) (w : World) (h : IsT w cb 215 4096 sy bi ba) :
  Calls Tryz.prog 63 #[.slice (some ⟨cb, 0, none⟩) n cap] w fun e w' => ∃ g cap', e = .returned (.slice (some ⟨g, 0, none⟩) n cap') ∧ w.heap.size ≤ g ∧ n ≤ cap' ∧ RowT w' g n sy bi ba ∧ Keep noBlock w w' := by
 obtain ⟨i0, hi, hz0, hz1, hz2⟩ := info_parts info50
 obtain ⟨L, l1, l2, l3, l4⟩ := h.list n hn
 have hmax : n ≤ maxLen := by unfold maxLen; omega
 have hby : n * 4 ≤ 140737488355328 := by omega
 have heq := fun (w : World) (a : Option Addr) (n c n' c' : Nat) => Lib.run_eql_slice_nil (P := Tryz.prog) w 36 130 a n c n' c' Tryz.underlying36
 have hlt := h.lt
 have hown := World.ownsRow_made (e := 130) (size := 3) (base := w.heap.size) w #[] 0 (Nat.le_refl _) (Nat.zero_le _) rfl
 have hc' : ∀ j u, L[j]? = some u → (w.alloc (.cells #[] 130)).cell? ((⟨cb, 0, none⟩ : Addr).add j) = some u := fun j u hu => by
  rw [add0]
  exact (World.cell?_of_block (Below.heap_alloc _ _ _ hlt)).trans (l2 j u hu)
 have HL := (show Hid (∀ i, i < n → L[i * 3]? = some (.int .u8 ((sy i : Nat) : Int)) ∧ L[i * 3 + 1]? = some (.int .u8 ((bi i : Nat) : Int)) ∧ L[i * 3 + 2]? = some (.int .u16 ((ba i : Nat) : Int))) from l4)
 clear l2 l4
 go_enter Tryz.func63, Tryz.ntmps63
 go_wp2_with (at_builtin; refine wpList_append_own _ rfl _ _ 36 rfl w.heap.size 130 i0 (.agg #[.int .u8 0, .int .u8 0, .int .u16 0]) 3 4 Tryz.underlying36 hi hz0 hz1 hz2 rfl (by decide) (.slice (some ⟨w.heap.size, 0, none⟩) 0 0) 0 [] rfl hown ⟨cb, 0, none⟩ n cap L rfl l1 hc' l3 (by omega) (by omega) (by simp) ?_; intro v' w1 hown' hgrow hnil)
 go_ret
 have hk : Keep noBlock w w1 := ((Keep.refl _ w).alloc _).grown hgrow (fun k e hk => by
  have e' : w.heap.size = k := by simpa [Value.ownBlock] using e
  omega)
 rw [List.nil_append, Nat.zero_add] at hown'
 rcases hown'.2 with ⟨e1, h0⟩ | ⟨g, cap', cur, e1, hb, hg, hr1, hr2, hr3, hr4⟩
 ·have := hnil.1 e1
  cases this.1
 ·subst e1
  refine ⟨g, cap', rfl, hb, hr1, ⟨fun i hi => ?_, obj_lt hg⟩, hk⟩
  obtain ⟨d1, d2, d3⟩ := HL.out i hi
  have q1 := hown'.cells (g := g) rfl _ _ d1
  have q2 := hown'.cells (g := g) rfl _ _ d2
  have q3 := hown'.cells (g := g) rfl _ _ d3
  rw [add0] at q1 q2 q3
  exact ⟨q1, q2, q3⟩

section
attribute [local go_sem] sliceSem_eq
set_option maxRecDepth 100000 in
set_option maxHeartbeats 2000000 in
theorem table_good (a : Option Addr) (cap gb off : Nat) (xs : List Int) (l : Nat) (w : World) (h : RowI w .i16 a cap gb off xs) (hx : I16 xs) (hb : okT xs (l : Int) = true) :
  Calls Tryz.prog 99 #[.slice a xs.length cap, .int .i64 (l : Int)] w fun e w' => ∃ g cap', e = .returned (.tuple #[.slice (some ⟨g, 0, none⟩) (2 ^ l) cap', .int .i64 0]) ∧ w.heap.size ≤ g ∧ 2 ^ l ≤ cap' ∧
   RowT w' g (2 ^ l) (symF xs (2 ^ l)) (fun i => bitF l (xF xs (2 ^ l) i)) (fun i => baseF l (xF xs (2 ^ l) i)) ∧ Keep noBlock w w' := by
 have HT := (show Hid (∀ w : World, RowI w .i16 a cap gb off xs → Calls Tryz.prog 117 #[.slice a xs.length cap, .int .i64 (l : Int)] w fun e w' => e = .returned (.bool true) ∧ w' = w) from fun w h => by have := makeTable_any a cap gb off xs l w h hx; rwa [hb] at this)
 obtain ⟨hG, hT, hne, hlen, hl5, hl12⟩ := okT_good hb
 have hTab := okT_tab hb
 have hSb : 2 ^ l ≤ 4096 := Nat.pow_le_pow_right (n := 2) (j := 12) (by omega) hl12
 have hp : (2 : Int) ^ l = ((2 ^ l : Nat) : Int) := by simp
 obtain ⟨S, hS⟩ : ∃ S, S = 2 ^ l := ⟨_, rfl⟩
 rw [← hS] at hp hSb hTab ⊢
 have HS := (show Hid (S = 2 ^ l) from hS)
 have hSI : (S : Int) ≤ 4096 := by omega
 have hlI : (l : Int) ≤ 12 := by omega
 have HTB := (show Hid (Tab xs S ∧ Good xs) from ⟨hTab, hG⟩)
 clear hT hS hG hTab
 go_enter Tryz.func99, Tryz.ntmps99
 go_wp2_with (go_at_call 117; refine (HT.out _ h).mono ?_; rintro e w' ⟨rfl, rfl⟩)
 have hT0 : IsT (w'.alloc (.cells Tryz.zeroCells215 215)) w'.heap.size 215 4096 (fun _ => 0) (fun _ => 0) (fun _ => 0) := by rw [zero71]; exact isT_zeros w' 215 4096
 have hK1 : Keep noBlock w' (w'.alloc (.cells Tryz.zeroCells215 215)) := (Keep.refl _ w').alloc _
 have hgb : xs ≠ [] → gb ≠ w'.heap.size := fun hn e => by have := h.block hn; omega
 have hR1 := h.keep hK1 (fun _ h => h)
 generalize w'.alloc (.cells Tryz.zeroCells215 215) = W1 at hT0 hK1 hR1 ⊢
 obtain ⟨cb, hcb⟩ : ∃ cb, cb = w'.heap.size := ⟨_, rfl⟩
 rw [← hcb] at hT0 hgb ⊢
 have HCB := (show Hid (cb = w'.heap.size) from hcb)
 clear hcb HT
 refine (setSymbols_any cb S xs a cap gb off W1 hT0 hR1 hgb HTB.out.1).mono ?_
 rintro e W2 ⟨rfl, hT2, hK2⟩
 have hR2 := hR1.keep hK2 hgb
 have hN := setNext_any cb l xs a cap gb off W2 (by rw [← HS.out]; exact hT2) hR2 hx hgb (by rw [← HS.out]; exact HTB.out.1) (by omega)
 rw [← HS.out] at hN
 have HNX := (show Hid (Calls Tryz.prog 119 _ W2 _) from hN)
 have HK := (show Hid (Keep noBlock w' W1 ∧ Keep (fun k => k = cb) W1 W2) from ⟨hK1, hK2⟩)
 clear hT0 hR1 hT2 hK2 hK1 hN
 go_wp2_with fail
 refine HNX.out.mono ?_
 rintro e W3 ⟨rfl, hT3, hK3⟩
 go_wp2_with fail
 refine (clone39_any cb S 4096 _ _ _ hSb W3 hT3).mono ?_
 rintro e W4 ⟨g, cap', rfl, hg, hcap, hRT, hK4⟩
 go_wp2_with fail
 go_ret2
 have k1 : Keep noBlock w' W3 := (HK.out.1.trans HK.out.2 (fun i hi e => by have := HCB.out; omega)).trans hK3 (fun i hi e => by have := HCB.out; omega)
 have hz := k1.size
 refine ⟨g, cap', rfl, by omega, hcap, ⟨fun i hi => ?_, hRT.lt⟩, k1.trans hK4 (fun _ _ h => h)⟩
 have := hRT.cells i hi
 rw [if_pos hi, if_pos hi] at this
 exact this
end

end Go.Proofs.YtnjilcokkhodmaaGreatDoor

namespace Go.Proofs.YtnjilcokkhodmaaGreatDoor
open Go.RowKit Go.Shelf
set_option linter.unusedVariables false

theorem lenN_powC (l : Nat) : lenN (2 ^ l) = l + 1 := lenN_eq _ _ (Nat.le_refl _) (Nat.pow_lt_pow_right (by omega) (by omega))
theorem pow12 {l : Nat} (hl : l ≤ 12) : 2 ^ l ≤ 4096 := Nat.pow_le_pow_right (n := 2) (j := 12) (by omega) hl
theorem logOf_any (a : Option Addr) (n l cap : Nat) (hn : n = 2 ^ l) (hl : l ≤ 12) (w : World) : Calls Tryz.prog 69 #[.slice a n cap] w fun e w' => e = .returned (.int .i64 (l : Int)) ∧ w' = w := by
 have h12 := pow12 hl
 rw [← hn] at h12
 have hnI : (n : Int) ≤ 4096 := by omega
 have HL := hid (len_any n (by omega) w)
 rw [hn, lenN_powC, ← hn] at HL
 obtain ⟨k, hk⟩ : ∃ k, k = l + 1 := ⟨_, rfl⟩
 rw [← hk] at HL
 have hkI : (k : Int) ≤ 64 := by omega
 have hw1 : IntKind.u64.wrap (n : Int) = (n : Int) := by rw [IntKind.wrap_u64]; omega
 have hw2 : (k : Int) - 1 = (l : Int) := by omega
 have hlI : (l : Int) ≤ 12 := by omega
 clear hk hn
 go_enter Tryz.func69, Tryz.ntmps69
 go_wp2_with fail
 refine HL.out.mono ?_
 rintro e w' ⟨rfl, rfl⟩
 go_wp2_with fail
 go_ret
 exact ⟨rfl, rfl⟩
theorem shiftOf_any (v : Nat) (hv : v ≤ 2) (w : World) : Calls Tryz.prog 66 #[.int .i64 (v : Int)] w fun e w' => e = .returned (.int .i64 ((6 - 2 * v : Nat) : Int)) ∧ w' = w := by
 rcases (show v = 0 ∨ v = 1 ∨ v = 2 by omega) with rfl | rfl | rfl
 all_goals
  go_enter Tryz.func66, Tryz.ntmps66
  go_wp2_with fail
  go_ret
  exact ⟨rfl, rfl⟩
set_option maxHeartbeats 1000000 in
theorem stepOf_any (x y z : Int) (w : World) : Calls Tryz.prog 71 #[.agg #[.int .i64 x, .int .i64 z, .int .i64 y]] w fun e w' => e = .returned (.agg #[.int .i64 x, .int .i64 y, .int .i64 z]) ∧ Keep noBlock w w' := by
 go_enter Tryz.func71, Tryz.ntmps71
 go_wp2_with fail
 refine bodyPost_ret (results_cell rfl _ _ _ ⟨w.heap.size + 1, 0, none⟩ (.agg #[.int .i64 x, .int .i64 y, .int .i64 z]) rfl (run_loadVar_row _ _ 77 77 _ (0, 0) _ ?_ Tryz.underlying77 rfl (by kernel_rfl))) rfl ?_
 ·have := alloc_new (w.alloc (.cells #[.int .i64 x, .int .i64 z, .int .i64 y] 39)) (.cells #[.int .i64 x, .int .i64 y, .int .i64 z] 77)
  rw [World.size_alloc] at this
  exact this
 ·exact ⟨rfl, ((Keep.refl _ w).alloc _).alloc _⟩
end Go.Proofs.YtnjilcokkhodmaaGreatDoor
