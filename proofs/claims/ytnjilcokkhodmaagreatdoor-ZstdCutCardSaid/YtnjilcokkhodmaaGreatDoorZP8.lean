/-
  codings: what its walk leans on.
  codings: the codings of all kinds of values, in new memory.
-/
import Derived.Test.YtnjilcokkhodmaaGreatDoorZP6
namespace Go.Proofs.YtnjilcokkhodmaaGreatDoor
open Go.RowKit Go.Shelf
set_option linter.unusedVariables false

theorem setAll_size : ∀ (vs : List Value) (o : Nat) (cs : Array Value), (setAll cs o vs).size = cs.size
 | [], _, _ => rfl
 | v :: vs, o, cs => by rw [setAll, setAll_size, Array.size_setIfInBounds]
theorem setCells_obj (b t : Nat) : ∀ (vs : List Value) (o : Nat) (cs : Array Value) (w : World), w.heap[b]? = some (.cells cs t (0, 0)) → (w.setCells b o vs).heap[b]? = some (.cells (setAll cs o vs) t (0, 0))
 | [], _, _, _, h => h
 | v :: vs, o, cs, w, h => setCells_obj b t vs (o + 1) _ _ (set_obj h o v)
theorem keep_setCells {S : Nat → Prop} {a : World} (b : Nat) (hb : b < a.heap.size → S b) : ∀ (vs : List Value) (o : Nat) (w : World), Keep S a w → Keep S a (w.setCells b o vs)
 | [], _, _, h => h
 | v :: vs, o, w, h => keep_setCells b hb vs (o + 1) _ (h.setCell (p := ⟨b, o, none⟩) hb v)

theorem info57 : (Tryz.prog.info? 106).map (·.size) = some 110 := by kernel_rfl
theorem info58 : (Tryz.prog.info? 107).map (·.size) = some 330 := by kernel_rfl
theorem raw57_length (ml l : Nat) (v : Value) : (raw57 ml l v).length = 110 := rfl
theorem raw57_one (ml l g n : Nat) : ∀ v ∈ raw57 ml l (.slice (some ⟨g, 0, none⟩) n n), v.oneCell' = true := by
 intro v hv
 simp only [raw57, List.mem_cons, List.mem_append, List.mem_replicate, List.not_mem_nil, or_false] at hv
 rcases hv with rfl | (⟨-, rfl⟩ | ⟨-, rfl⟩) | rfl | rfl | rfl <;> rfl
def i16c (xs : List Int) : List Value := xs.map (fun x => Value.int .i16 x)

/-- The codings in block b, their counts in blocks of their own. -/
structure IsCod (w : World) (b g0 g1 g2 : Nat) : Prop where
 obj : w.heap[b]? = some (.cells (codA (.slice (some ⟨g0, 0, none⟩) 36 36) (.slice (some ⟨g1, 0, none⟩) 29 29) (.slice (some ⟨g2, 0, none⟩) 53 53)).toArray 107 (0, 0))
 o0 : w.heap[g0]? = some (.cells (i16c cL).toArray 131 (0, 0))
 o1 : w.heap[g1]? = some (.cells (i16c cB).toArray 131 (0, 0))
 o2 : w.heap[g2]? = some (.cells (i16c cM).toArray 131 (0, 0))

theorem h110 : 0 + 110 ≤ 330 := by decide
theorem h220 : 110 + 110 ≤ 330 := by decide
theorem h330 : 220 + 110 ≤ 330 := by decide
theorem b57_eq (ml l : Nat) (v : Value) : ((Tryz.zeroCells106.setIfInBounds 107 (.int .i64 (ml : Int))).setIfInBounds 108 (.int .i64 (l : Int))).setIfInBounds 109 v = (raw57 ml l v).toArray := by kernel_rfl
theorem wpList_store_obj {ops : Array Oper} {rest : List Oper} {op : Oper} {a : Act} {Q : Exit → Act → World → Prop} (w : World) (hgd : op.guard = none) (ty : TypeId) (x y : Operand) (ho : op.op = .store ty x y)
  (b o bt n sz : Nat) (cs : Array Value) (vs : List Value) (X : Array Value) (hn : vs.length = n) (hsz : cs.size = sz) (hX : X = vs.toArray) (hx : a.eval x = .pointer (some ⟨b, o, none⟩)) (hy : a.eval y = .agg X) (hb : w.heap[b]? = some (.cells cs bt (0, 0))) (hle : o + n ≤ sz)
  (hi : (Tryz.prog.info? ty).map (·.size) = some n) (h1 : ∀ v ∈ vs, v.oneCell' = true)
  (h : ∀ W : World, W.heap[b]? = some (.cells (setAll cs o vs) bt (0, 0)) → Keep (fun k => k = b) w W → W.heap.size = w.heap.size → wpList Tryz.prog ops Q rest (a.put op.dst undef) W) : wpList Tryz.prog ops Q (op :: rest) a w := by
 rw [hX] at hy
 rw [← hsz, ← hn] at hle
 rw [← hn] at hi
 refine wpList_store_mid hgd ty x y ho b o vs.toArray hx hy (fun j hj => ⟨by rw [cell_of hb, Array.getElem?_eq_getElem (by simp at hj; omega)]; rfl, frozen_of hb _⟩) (by simpa using hi) (all_oneCell_toArray h1) ?_
 rw [List.toList_toArray]
 refine h _ (setCells_obj b bt vs o cs w hb) (keep_setCells (S := fun k => k = b) b (fun _ => rfl) vs o w (Keep.refl (fun k => k = b) w)) ?_
 have : ∀ (vs : List Value) (o : Nat) (w : World), (w.setCells b o vs).heap.size = w.heap.size := by
  intro vs
  induction vs with
  | nil => intro o w; rfl
  | cons v vs ih => intro o w; rw [World.setCells, ih]; simp [World.setCell]
 exact this vs o w
theorem bytes_obj {w : World} {g : Nat} {bs : List Nat} (hg : w.heap[g]? = some (.cells (u8s bs).toArray 5 (0, 0))) (hlt : ∀ j : Nat, bs[j]?.getD 0 < 256) (hl : bs.length < 2 ^ 48) : Bytes w (some ⟨g, 0, none⟩) bs.length g 0 bs :=
 ⟨.inl rfl, fun e => (by cases e), fun j hj => by rw [cell_of hg, Nat.zero_add, List.getElem?_toArray, u8s_at bs j hj], hlt, Nat.le_refl _, hl⟩
theorem sprN_size (o : Nat) : ∀ (es : List Nat) (i f : Nat) (cs : Array Value), (sprN o es i f cs).size = cs.size
 | [], _, _, _ => rfl
 | e :: es, i, f, cs => by rw [sprN, sprN_size, Array.size_setIfInBounds, Array.size_setIfInBounds]
theorem stepC_size (o first : Nat) (es : List Nat) (ml l : Nat) (v : Value) (cs : Array Value) : (stepC o first es ml l v cs).size = cs.size := by
 unfold stepC
 rw [sprN_size, Array.size_setIfInBounds, setAll_size]
theorem zero58_size : Tryz.zeroCells107.size = 330 := by kernel_rfl
theorem eL_lt : ∀ e ∈ eL, e < 32 := by decide
theorem eB_lt : ∀ e ∈ eB, e < 32 := by decide
theorem eM_lt : ∀ e ∈ eM, e < 32 := by decide
theorem lt256_of {es : List Nat} (h : ∀ e ∈ es, e < 32) : ∀ j : Nat, es[j]?.getD 0 < 256 := lt256 (fun b hb => by have := h b hb; omega)

theorem p53 : (53 : Nat) < 2 ^ 48 := Nat.lt_of_lt_of_le (by decide : 53 < 2 ^ 6) (Nat.pow_le_pow_right (by decide) (by decide))
theorem spread_one (b o first g ml l : Nat) (es : List Nat) (v : Value) (cs cur : Array Value) (w : World) (hb : w.heap[b]? = some (.cells cur 107 (0, 0))) (hcur : cur = setAll cs o (raw57 ml l v)) (hs : cs.size = 330) (ho : o + 110 ≤ 330) (hf : first < 4294967296) (hE : ∀ e ∈ es, e < 32) (hl : es.length ≤ 53) (o' : Obj) (ho' : o' = .cells (u8s es).toArray 5 (0, 0)) (n : Nat) (hn : n = es.length) (hg : g = w.heap.size) :
  Calls Tryz.prog 64 #[.pointer (some ⟨b, o, none⟩), .int .u32 (first : Int), .slice (some ⟨g, 0, none⟩) n n] (w.alloc o') fun e w' => e = .returned (.tuple #[]) ∧
   w'.heap[b]? = some (.cells (stepC o first es ml l v cs) 107 (0, 0)) ∧ Keep (fun k => k = b) w w' ∧ w.heap.size ≤ w'.heap.size := by
 rw [hcur] at hb
 rw [ho', hn, hg]
 clear hcur ho' hn hg
 have hbl := obj_lt hb
 refine (spread_any b o first w.heap.size 0 es.length es _ (w.alloc (.cells (u8s es).toArray 5 (0, 0))) (alloc_far hb _) (by rw [setAll_size]; omega) hf (bytes_obj (alloc_new w _) (lt256_of hE) (Nat.lt_of_le_of_lt hl p53)) (by omega) hl hE).mono ?_
 rintro e w' ⟨rfl, h1, h2⟩
 exact ⟨rfl, h1, ((Keep.refl (fun k => k = b) w).alloc _).trans h2 (fun _ _ h => h), by have := h2.size; rw [World.size_alloc] at this; omega⟩

/-- The codings under way: block b, counts that lie. -/
structure Cg (w W : World) (b : Nat) (cs : Array Value) (gs : List (Nat × List Int)) : Prop where
 obj : W.heap[b]? = some (.cells cs 107 (0, 0))
 sz : cs.size = 330
 cnt : ∀ p ∈ gs, W.heap[p.1]? = some (.cells (i16c p.2).toArray 131 (0, 0)) ∧ w.heap.size ≤ p.1 ∧ p.1 ≠ b
 kp : Keep noBlock w W
 n : w.heap.size ≤ b
theorem Cg.step {w W W' : World} {b : Nat} {cs cs' : Array Value} {gs : List (Nat × List Int)} (h : Cg w W b cs gs) (h1 : W'.heap[b]? = some (.cells cs' 107 (0, 0))) (h2 : Keep (fun k => k = b) W W') (h3 : cs'.size = cs.size) : Cg w W' b cs' gs :=
 ⟨h1, h3.trans h.sz, fun p hp => ⟨h2.obj (h.cnt p hp).1 (h.cnt p hp).2.2, (h.cnt p hp).2⟩, h.kp.trans h2 (fun i hi e => by have := h.n; omega), h.n⟩
theorem Cg.alloc {w W : World} {b : Nat} {cs : Array Value} {gs : List (Nat × List Int)} (h : Cg w W b cs gs) (xs : List Int) (g : Nat) (hg : g = W.heap.size) (o : Obj) (ho : o = .cells (i16c xs).toArray 131 (0, 0)) : Cg w (W.alloc o) b cs ((g, xs) :: gs) := by
 rw [hg, ho]
 refine ⟨alloc_far h.obj _, h.sz, fun p hp => ?_, h.kp.alloc _, h.n⟩
 rcases List.mem_cons.1 hp with rfl | hp
 ·exact ⟨alloc_new W _, h.kp.size, by have := obj_lt h.obj; show W.heap.size ≠ b; omega⟩
 ·exact ⟨alloc_far (h.cnt p hp).1 _, (h.cnt p hp).2⟩
theorem cg_new (w : World) : Cg w (w.alloc (.cells Tryz.zeroCells107 107)) w.heap.size Tryz.zeroCells107 [] :=
 ⟨alloc_new w _, zero58_size, fun p hp => (List.not_mem_nil hp).elim, (Keep.refl _ w).alloc _, Nat.le_refl _⟩
theorem codA_length (v0 v1 v2 : Value) : (codA v0 v1 v2).length = 330 := by kernel_rfl

theorem codA_one (g0 g1 g2 n0 n1 n2 : Nat) : (codA (.slice (some ⟨g0, 0, none⟩) n0 n0) (.slice (some ⟨g1, 0, none⟩) n1 n1) (.slice (some ⟨g2, 0, none⟩) n2 n2)).toArray.all (·.oneCell') = true := by kernel_rfl
end Go.Proofs.YtnjilcokkhodmaaGreatDoor

namespace Go.Proofs.YtnjilcokkhodmaaGreatDoor
open Go.RowKit Go.Shelf
set_option linter.unusedVariables false

section
set_option maxRecDepth 20000 in
set_option maxHeartbeats 8000000 in
theorem codings_any (w : World) : Calls Tryz.prog 50 #[] w fun e w' => ∃ g0 g1 g2, e = .returned (.agg (codA (.slice (some ⟨g0, 0, none⟩) 36 36) (.slice (some ⟨g1, 0, none⟩) 29 29) (.slice (some ⟨g2, 0, none⟩) 53 53)).toArray) ∧
  w'.heap[g0]? = some (.cells (i16c cL).toArray 131 (0, 0)) ∧ w'.heap[g1]? = some (.cells (i16c cB).toArray 131 (0, 0)) ∧ w'.heap[g2]? = some (.cells (i16c cM).toArray 131 (0, 0)) ∧ w.heap.size ≤ g0 ∧ w.heap.size ≤ g1 ∧ w.heap.size ≤ g2 ∧ Keep noBlock w w' := by
 have G1 := hid ((cg_new w).alloc cL (w.heap.size + 1) (by rw [World.size_alloc]) _ rfl)
 go_enter Tryz.func50, Tryz.ntmps50
 go_wp2_with (refine wpList_store_obj _ rfl 106 (.tmp 3) (.tmp 2) rfl w.heap.size 0 107 110 330 Tryz.zeroCells107 (raw57 9 6 (.slice (some ⟨w.heap.size + 1, 0, none⟩) 36 36)) _ (raw57_length _ _ _) zero58_size (b57_eq 9 6 _) rfl rfl G1.out.obj h110 info57 (raw57_one 9 6 _ _) ?_; intro W1 q1 q2 q3)
 have G2 := hid (G1.out.step q1 q2 (setAll_size _ _ _))
 have HS := hid (spread_one w.heap.size 0 0 (w.heap.size + 1 + 1) 9 6 eL (.slice (some ⟨w.heap.size + 1, 0, none⟩) 36 36) Tryz.zeroCells107 _ W1 q1 rfl zero58_size h110 (by omega) eL_lt (by decide) _ rfl 36 rfl (by rw [q3]; simp))
 rw [show (((0 : Nat) : Int)) = (0 : Int) from rfl] at HS
 clear q1 q2 q3 G1
 refine HS.out.mono ?_
 rintro e W2 ⟨rfl, q1, q2, -⟩
 have G3 := hid (G2.out.step q1 q2 ((stepC_size _ _ _ _ _ _ _).trans (setAll_size _ _ _).symm))
 clear q1 q2 HS G2
 generalize hC1 : stepC 0 0 eL 9 6 (.slice (some ⟨w.heap.size + 1, 0, none⟩) 36 36) Tryz.zeroCells107 = C1 at *
 have HC1 := hid hC1
 have HN := hid (Nat.le_refl w.heap.size)
 clear hC1
 generalize hb0 : w.heap.size + 1 = g0 at *
 obtain ⟨b, hb⟩ : ∃ b, b = w.heap.size := ⟨_, rfl⟩
 rw [← hb] at G3 ⊢
 have G4 := hid (G3.out.alloc cB W2.heap.size rfl _ rfl)
 clear hb hb0
 go_wp2_with (refine wpList_store_obj _ rfl 106 (.tmp 9) (.tmp 8) rfl b 110 107 110 330 C1 (raw57 8 5 (.slice (some ⟨W2.heap.size, 0, none⟩) 29 29)) _ (raw57_length _ _ _) G4.out.sz (b57_eq 8 5 _) rfl rfl G4.out.obj h220 info57 (raw57_one 8 5 _ _) ?_; intro W3 q1 q2 q3)
 have G5 := hid (G4.out.step q1 q2 (setAll_size _ _ _))
 have HS := hid (spread_one b 110 1 (W2.heap.size + 1) 8 5 eB (.slice (some ⟨W2.heap.size, 0, none⟩) 29 29) C1 _ W3 q1 rfl G4.out.sz h220 (by omega) eB_lt (by decide) _ rfl 32 rfl (by rw [q3]; simp))
 rw [show (((1 : Nat) : Int)) = (1 : Int) from rfl] at HS
 clear q1 q2 q3 G4 G3
 refine HS.out.mono ?_
 rintro e W4 ⟨rfl, q1, q2, -⟩
 have G6 := hid (G5.out.step q1 q2 ((stepC_size _ _ _ _ _ _ _).trans (setAll_size _ _ _).symm))
 clear q1 q2 HS G5
 generalize hg1 : W2.heap.size = g1 at *
 clear hg1
 generalize hC2 : stepC 110 1 eB 8 5 (.slice (some ⟨g1, 0, none⟩) 29 29) C1 = C2 at *
 have HC2 := hid hC2
 have G7 := hid (G6.out.alloc cM W4.heap.size rfl _ rfl)
 clear hC2
 go_wp2_with (refine wpList_store_obj _ rfl 106 (.tmp 15) (.tmp 14) rfl b 220 107 110 330 C2 (raw57 9 6 (.slice (some ⟨W4.heap.size, 0, none⟩) 53 53)) _ (raw57_length _ _ _) G7.out.sz (b57_eq 9 6 _) rfl rfl G7.out.obj h330 info57 (raw57_one 9 6 _ _) ?_; intro W5 q1 q2 q3)
 have G8 := hid (G7.out.step q1 q2 (setAll_size _ _ _))
 have HS := hid (spread_one b 220 3 (W4.heap.size + 1) 9 6 eM (.slice (some ⟨W4.heap.size, 0, none⟩) 53 53) C2 _ W5 q1 rfl G7.out.sz h330 (by omega) eM_lt (by decide) _ rfl 53 rfl (by rw [q3]; simp))
 rw [show (((3 : Nat) : Int)) = (3 : Int) from rfl] at HS
 clear q1 q2 q3 G7 G6
 refine HS.out.mono ?_
 rintro e W6 ⟨rfl, q1, q2, -⟩
 have G9 := hid (G8.out.step q1 q2 ((stepC_size _ _ _ _ _ _ _).trans (setAll_size _ _ _).symm))
 clear q1 q2 HS G8
 generalize hg2 : W4.heap.size = g2 at *
 clear hg2
 rw [← HC2.out, ← HC1.out, codA_made] at G9
 have HO := hid G9.out.obj
 clear HC1 HC2 HN
 generalize hA : (codA (.slice (some ⟨g0, 0, none⟩) 36 36) (.slice (some ⟨g1, 0, none⟩) 29 29) (.slice (some ⟨g2, 0, none⟩) 53 53)).toArray = A at *
 have HA := hid hA
 have HJ : Hid ((Tryz.prog.info? 107).map (·.size) = some A.size) := by rw [G9.out.sz]; exact info58
 have HSf := hid (setRow_self W6 b A 107 (0, 0) HO.out)
 have H1 : Hid (A.all (·.oneCell') = true) := by rw [← hA]; exact codA_one _ _ _ _ _ _
 clear hA
 go_wp2_with (first | (refine wpList_load_row rfl 107 (.tmp 0) rfl b rfl 107 A (0, 0) _ HO.out Tryz.underlying107 rfl HJ.out ?_) | (refine wpList_store_row rfl 107 (.tmp 0) (.tmp 19) rfl b A rfl rfl 107 A HO.out HJ.out rfl H1.out ?_; rw [HSf.out]))
 refine bodyPost_ret (results_cell rfl _ _ _ ⟨b, 0, none⟩ (.agg A) rfl (run_loadVar_row _ _ 107 107 _ (0, 0) _ HO.out Tryz.underlying107 rfl HJ.out)) rfl ?_
 have e0 := G9.out.cnt (g0, cL) (by simp)
 have e1 := G9.out.cnt (g1, cB) (by simp)
 have e2 := G9.out.cnt (g2, cM) (by simp)
 exact ⟨g0, g1, g2, by rw [HA.out], e0.1, e1.1, e2.1, e0.2.1, e1.2.1, e2.2.1, G9.out.kp⟩
end
end Go.Proofs.YtnjilcokkhodmaaGreatDoor
