/-
  Member: the first member of bytes.
  Window: the window that the first member declares.
  Bytes as strings; the statements' own example; two rows, one behind the other.
  Member with its content as a slice; the statements' own example, walked.
-/
import Derived.Deep.DeepAppendWide
import Derived.Test.YtnjilcokkhodmaaGreatDoorZP21
namespace Go.Proofs.YtnjilcokkhodmaaGreatDoor
open Go.RowKit Go.Shelf
set_option linter.unusedVariables false

def frZ (B : Nat) : Array Value := frC 0 0 0 false (.slice none 0 0) (.slice none 0 0) (.slice none 0 0) (.slice none 0 0) 1 4 8 0 false 0 0 (.slice none 0 0) B
theorem newF_is {w W : World} {B fb : Nat} (hB : B ≤ 16777216) (h : W.heap[fb]? = some (.cells (frZ B) 44 (0, 0))) : IsF W fb (newF B) (.slice none 0 0) (.slice none 0 0) (.slice none 0 0) none 0 0 0 (.slice none 0 0) := by
 refine ⟨h, rfl, rfl, rfl, bytes_none W 0, OutF.nil W, fun e => (by cases e), fun p n c e => (by cases e), fun p n c e => (by cases e), fun p n c e => (by cases e), fun e => (e rfl).elim, fun e => (e rfl).elim, fun e => (e rfl).elim, ?_⟩
 exact ⟨by show 0 < _; omega, by show 0 < _; omega, by show (1 : Int) ≤ _; omega, by show (4 : Int) ≤ _; omega, by show (8 : Int) ≤ _; omega, by show 0 < _; omega, hB, Nat.zero_le _, fun T e => (by cases e), fun T e => (by cases e), fun T e => (by cases e)⟩
set_option maxRecDepth 100000 in
set_option maxHeartbeats 4000000 in
theorem member_any (Ω : Oc) (Δ : Od) (a : Option Addr) (cap gb off : Nat) (b : List Nat) (bud : Int) (w : World) (hB : Bytes w a cap gb off b) (hg : gb < w.heap.size) (hF : Frm w) (hO : Ords w) (hb1 : -9223372036854775808 ≤ bud) (hb2 : bud ≤ 9223372036854775807) (B : Nat) (hBB : (B : Int) = min (max bud 0) 16777216) :
  Calls Tryz.prog 6 #[.slice a b.length cap, .int .i64 bud] w fun e w' => ∃ ov, e = .returned (.tuple #[ov, .int .i64 (((memP (orc Ω Δ) b B).2.1 : Nat) : Int), .int .i64 (((memP (orc Ω Δ) b B).2.2 : Nat) : Int)]) ∧ OutF w' ov (memP (orc Ω Δ) b B).1 ∧ (∀ k, ov.ownBlock = some k → w.heap.size ≤ k) ∧ Keep noBlock w w' := by
 have HN := hid (fun W : World => newFrame_any bud hb1 hb2 B hBB W)
 have hBl : B ≤ 16777216 := by omega
 obtain ⟨fb, hfb⟩ : ∃ fb, fb = w.heap.size := ⟨_, rfl⟩
 obtain ⟨w1, hw1⟩ : ∃ w1, w1 = w.alloc (.cells (frZ B) 44) := ⟨_, rfl⟩
 have k1 : Keep noBlock w w1 := by rw [hw1]; exact (Keep.refl _ w).alloc _
 have hsz : w1.heap.size = fb + 1 := by rw [hw1, hfb]; exact World.size_alloc _ _
 have ho : w1.heap[fb]? = some (.cells (frZ B) 44 (0, 0)) := by rw [hw1, hfb]; exact alloc_new w _
 have hO3 := hO.lt
 have herr := memP_err (orc Ω Δ) b B
 have hMe : memP (orc Ω Δ) b B = runU (orc Ω Δ) (newF B) 0 (unitsU b) := rfl
 generalize memP (orc Ω Δ) b B = M at *
 have hrd := readZ_any ⟨Ω, Δ, w1, w.heap.size, fb, b, a, cap, gb, off, M⟩ ⟨by show 3 < w.heap.size; omega, by show w.heap.size ≤ fb; omega, by show fb < w1.heap.size; omega, hB.keep k1 (fun _ h => h), hg, hF.keep k1, hO.keep k1 (fun h => h) (fun h => h)⟩ (by
  intro V hb hk
  refine ⟨newF B, 0, _, _, _, none, 0, 0, 0, _, hb, newF_is (w := w) hBl (hk.obj ho (fun h => h)), ?_, hMe.symm, usOk_units _ _ _ b hB.lt, Nat.zero_le _, Nat.zero_le _, by have := unitsU_tot b; show 0 + totU (unitsU b) ≤ b.length; omega⟩
  refine ⟨?_, fun k e => (by cases e), fun e => (e rfl).elim, fun p n c e => (by cases e), fun p n c e => (by cases e), fun p n c e => (by cases e)⟩
  intro e
  rcases e with e | e
  ·have e2 : fb < w.heap.size := e; omega
  ·have e2 : w1.heap.size ≤ fb := e.1; omega)
 have HRd := (show Hid (Calls Tryz.prog 10 #[.pointer (some ⟨fb, 0, none⟩), .slice a b.length cap] w1 fun e w' => ∃ (used : Nat) (ov : Value), e = .returned (.tuple #[.int .i64 (used : Int), .int .i64 (M.2.2 : Int)]) ∧ Hid ((M.2.2 = 0 → used = M.2.1) ∧ OutF w' ov M.1 ∧ (∀ k, ov.ownBlock = some k → w.heap.size ≤ k) ∧ Keep noBlock w w') ∧ w'.cell? ⟨fb, 15, none⟩ = some ov) from hrd.mono (by
  rintro e w' ⟨used, ov, t1, t2, t3, t4, t5, t6⟩
  refine ⟨used, ov, t1, ⟨t2, t4, fun k hk => ?_, k1.trans t6 (fun i hi (q : w.heap.size ≤ i) => by omega)⟩, t3⟩
  have := t5 k hk
  have h2 : ¬ k < w.heap.size := fun q => this (.inl q)
  omega))
 have HEr := hid herr
 generalize b.length = n at *
 obtain ⟨M1, M2, M3⟩ := M
 dsimp only at *
 clear hrd hB hg hF hO hb1 hb2 hBB hBl k1 hsz ho hO3 herr hMe
 rw [← hfb] at HRd ⊢
 unfold frZ at hw1
 go_enter Tryz.func6, Tryz.ntmps6
 go_wp2_with fail
 refine (HN.out _).mono ?_
 rintro e w0 ⟨rfl, rfl⟩
 rw [← hw1, ← hfb]
 clear hw1 hfb HN
 go_wp2_with fail
 refine HRd.out.mono ?_
 rintro e w2 ⟨used, ov, rfl, HP, h15⟩
 by_cases h0 : M3 = 0
 ·subst h0
  obtain rfl := HP.out.1 rfl
  go_wp2_with fail
  refine bodyPost_ret (results_tmp3 rfl _ _ _) rfl ?_
  exact ⟨ov, rfl, HP.out.2⟩
 ·have hb : ((M3 : Int) != 0) = true := by simp; omega
  obtain rfl := HEr.out h0
  go_wp2_with fail
  refine bodyPost_ret (results_tmp3 rfl _ _ _) rfl ?_
  exact ⟨ov, rfl, HP.out.2⟩
end Go.Proofs.YtnjilcokkhodmaaGreatDoor

namespace Go.Proofs.YtnjilcokkhodmaaGreatDoor
open Go.RowKit Go.Shelf
set_option linter.unusedVariables false
set_option linter.unusedSimpArgs false

structure Wp where
 Ω : Oc
 Δ : Od
 w : World
 b : List Nat
 a : Option Addr
 cap : Nat
 gb : Nat
 off : Nat
 R : Nat × Nat
structure WpOk (G : Wp) : Prop where
 hB : Bytes G.w G.a G.cap G.gb G.off G.b
 gn : G.gb < G.w.heap.size
structure Wbx (G : Wp) (V : World) : Prop where
 b2 : V.heap[G.w.heap.size]? = some (.cells #[.int .i64 0] 3 (0, 0))
 b3 : V.heap[G.w.heap.size + 1]? = some (.cells #[.int .i64 0] 23 (0, 0))
 bp : V.heap[G.w.heap.size + 3]? = some (.cells #[.pointer (some ⟨G.w.heap.size + 1 + 1, 0, none⟩)] 31 (0, 0))
 bs : V.heap[G.w.heap.size + 4]? = some (.cells #[.slice G.a G.b.length G.cap] 22 (0, 0))
 kp : Keep noBlock G.w V
theorem Wbx.keepN {G : Wp} {B : Nat} {V V' : World} (h : Wbx G V) (hk : KeepN B V V') (hB : G.w.heap.size ≤ B) : Wbx G V' := ⟨hk.obj h.b2, hk.obj h.b3, hk.obj h.bp, hk.obj h.bs, h.kp.transN hk hB⟩
theorem Wbx.at {G : Wp} {V V' : World} {j : Nat} (h : Wbx G V) (hk : Keep (fun k => k = G.w.heap.size + j) V V') (hj : j ≠ 0 ∧ j ≠ 1 ∧ j ≠ 3 ∧ j ≠ 4) : Wbx G V' :=
 ⟨hk.obj h.b2 (by omega), hk.obj h.b3 (by omega), hk.obj h.bp (by omega), hk.obj h.bs (by omega), h.kp.trans hk (fun i hi (e : i = _) => by omega)⟩
def WiF (G : Wp) (F : Fr) (V : World) : Prop := IsF V (G.w.heap.size + 1 + 1) F (.slice none 0 0) (.slice none 0 0) (.slice none 0 0) none 0 0 0 (.slice none 0 0) ∧ F.ws = [] ∧ F.out = [] ∧ F.bud = 16777216 ∧ F.win ≤ 16777216
theorem far_nil {S : Nat → Prop} {F : Fr} {fb : Nat} (h : ¬ S fb) (hw : F.ws = []) : FarF S F fb 0 (.slice none 0 0) (.slice none 0 0) (.slice none 0 0) (.slice none 0 0) :=
 ⟨h, fun k e => (by cases e), fun e => (e hw).elim, fun p n c e => (by cases e), fun p n c e => (by cases e), fun p n c e => (by cases e)⟩
def Wst (G : Wp) (us : List Un) (V : World) : Prop := ∃ F, Wbx G V ∧ WiF G F V ∧ winW (orc G.Ω G.Δ) F us = G.R ∧ UsOk F.fl F.kind F.bsz us
def Wex (G : Wp) (c : Code) (V : World) : Prop := Keep noBlock G.w V ∧ ((c = .ret ∧ V.heap[G.w.heap.size]? = some (.cells #[.int .i64 (G.R.1 : Int)] 3 (0, 0)) ∧ V.heap[G.w.heap.size + 1]? = some (.cells #[.int .i64 (G.R.2 : Int)] 23 (0, 0))) ∨
 (c = .exit 0 ∧ Wbx G V ∧ ∃ F, WiF G F V ∧ G.R = (F.win, 0)))
theorem Wst.keepN {G : Wp} {us : List Un} {B : Nat} {V V' : World} (h : Wst G us V) (hk : KeepN B V V') (hB : G.w.heap.size ≤ B) : Wst G us V' := by
 obtain ⟨F, h1, h2, h3⟩ := h
 exact ⟨F, h1.keepN hk hB, ⟨h2.1.keepN hk, h2.2⟩, h3⟩
theorem Wst.keepC {G : Wp} {us : List Un} {V V' : World} (h : Wst G us V) (hk : Keep (fun k => k = G.w.heap.size + 7) V V') : Wst G us V' := by
 obtain ⟨F, h1, h2, h3⟩ := h
 exact ⟨F, h1.at hk (by omega), ⟨h2.1.keep hk (far_nil (by omega) h2.2.1), h2.2⟩, h3⟩
theorem Wex.keepN {G : Wp} {c : Code} {B : Nat} {V V' : World} (h : Wex G c V) (hk : KeepN B V V') (hB : G.w.heap.size ≤ B) : Wex G c V' := by
 obtain ⟨h0, h⟩ := h
 refine ⟨h0.transN hk hB, ?_⟩
 rcases h with ⟨e, h1, h2⟩ | ⟨e, h1, F, h2, h3⟩
 ·exact .inl ⟨e, hk.obj h1, hk.obj h2⟩
 ·exact .inr ⟨e, h1.keepN hk hB, F, ⟨h2.1.keepN hk, h2.2⟩, h3⟩
theorem lookP_win {O : Orc} {F : Fr} {u : Un} (h : (lookP O F u).2 = 0) (h1 : F.bud = 16777216) (h2 : F.win ≤ 16777216) : (lookP O F u).1.win ≤ 16777216 ∧ (lookP O F u).1.bud = 16777216 ∧ (lookP O F u).1.out = F.out := by
 unfold lookP at *
 by_cases a : u.wh = false
 ·rw [if_pos a] at h ⊢; cases h
 rw [if_neg a] at h ⊢
 by_cases b : u.p = 0
 ·rw [if_pos b]; exact ⟨h2, h1, rfl⟩
 rw [if_neg b] at h ⊢
 by_cases c : u.p = 3
 ·rw [if_pos c]; exact ⟨h2, h1, rfl⟩
 rw [if_neg c] at h ⊢
 by_cases d : u.p = 4
 ·rw [if_pos d] at h ⊢
  dsimp only at h ⊢
  refine ⟨?_, h1, rfl⟩
  by_cases hd : hdDic F.fl u.bs ≠ 0
  ·rw [if_pos hd] at h; cases h
  ·rw [if_neg hd] at h
   by_cases hw : F.bud < hdWin F.fl u.bs
   ·rw [if_pos hw] at h; cases h
   ·omega
 rw [if_neg d] at h ⊢
 by_cases e : u.p = 5
 ·rw [if_pos e]; exact ⟨h2, h1, rfl⟩
 rw [if_neg e] at h ⊢
 by_cases f : u.p = 7
 ·rw [if_pos f]; exact ⟨h2, h1, rfl⟩
 rw [if_neg f]; exact ⟨h2, h1, rfl⟩
theorem wn_end {G : Wp} {V V' : World} {B : Nat} {F : Fr} (ok : WpOk G) (hb : Wbx G V) (hF : WiF G F V) (hk : Keep (fun k => k = G.w.heap.size ∨ k = G.w.heap.size + 1 ∨ k = G.w.heap.size + 1 + 1) V V') (hC : G.w.heap.size + 7 < V.heap.size) : KeepsFrom B V V' ∧ PrC (G.w.heap.size + 7) G.gb V V' := by
 have h3 := ok.gn
 refine ⟨⟨hk.size, fun j o _ hj hc => hk.obj hj (fun e => ?_)⟩, ⟨fun k e => hk.block k (by rcases e with rfl | rfl <;> omega) (fun e2 => by rcases e with rfl | rfl <;> omega), fun k cs e => hk.obj e (fun e2 => ?_)⟩⟩
 ·rcases e with rfl | rfl | rfl
  ·rw [hb.b2] at hj; cases hj; cases hc
  ·rw [hb.b3] at hj; cases hj; cases hc
  ·rw [show V.heap[G.w.heap.size + 1 + 1]? = _ from hF.1.fr] at hj; cases hj; cases hc
 ·rcases e2 with rfl | rfl | rfl
  ·rw [hb.b2] at e; cases e
  ·rw [hb.b3] at e; cases e
  ·rw [show V.heap[G.w.heap.size + 1 + 1]? = _ from hF.1.fr] at e; cases e
attribute [local go_sem] Oper.semAt_some sliceSem_eq
set_option maxRecDepth 100000 in
set_option maxHeartbeats 16000000 in
theorem window_any (G : Wp) (ok : WpOk G) (hR : winP (orc G.Ω G.Δ) G.b = G.R) : Calls Tryz.prog 8 #[.slice G.a G.b.length G.cap] G.w fun e w' => e = .returned (.tuple #[.int .i64 (G.R.1 : Int), .int .i64 (G.R.2 : Int)]) ∧ Keep noBlock G.w w' := by
 have HG := hid (And.intro ok hR)
 obtain ⟨n, hn⟩ : ∃ n, n = G.b.length := ⟨_, rfl⟩
 rw [← hn]
 obtain ⟨q, hq⟩ : ∃ q, q = G.w.heap.size := ⟨_, rfl⟩
 have HNQ := hid (And.intro hn hq)
 have HU := hid (show ∀ W, _ from fun W => units_fn G.a n G.cap W)
 have HNw := hid (fun W : World => newFrame_any 16777216 (by omega) (by omega) 16777216 (by omega) W)
 have hgn := ok.gn
 obtain ⟨W0, hW0⟩ : ∃ W0, W0 = ((((G.w.alloc (.cells #[.int .i64 0] 3)).alloc (.cells #[.int .i64 0] 23)).alloc (.cells (frC 0 0 0 false (.slice none 0 0) (.slice none 0 0) (.slice none 0 0) (.slice none 0 0) 1 4 8 0 false 0 0 (.slice none 0 0) 16777216) 44)).alloc (.cells #[.pointer (some ⟨G.w.heap.size + 1 + 1, 0, none⟩)] 31)).alloc (.cells #[.slice G.a n G.cap] 22) := ⟨_, rfl⟩
 have hsz : W0.heap.size = q + 5 := by rw [hW0]; simp only [World.size_alloc]; omega
 have hk0 : Keep noBlock G.w W0 := by rw [hW0]; exact (((((Keep.refl _ G.w).alloc _).alloc _).alloc _).alloc _).alloc _
 have o1 := alloc_new G.w (.cells #[.int .i64 0] 3)
 have o2 := alloc_new (G.w.alloc (.cells #[.int .i64 0] 3)) (.cells #[.int .i64 0] 23)
 have o3 := alloc_new ((G.w.alloc (.cells #[.int .i64 0] 3)).alloc (.cells #[.int .i64 0] 23)) (.cells (frC 0 0 0 false (.slice none 0 0) (.slice none 0 0) (.slice none 0 0) (.slice none 0 0) 1 4 8 0 false 0 0 (.slice none 0 0) 16777216) 44)
 have o4 := alloc_new (((G.w.alloc (.cells #[.int .i64 0] 3)).alloc (.cells #[.int .i64 0] 23)).alloc (.cells (frC 0 0 0 false (.slice none 0 0) (.slice none 0 0) (.slice none 0 0) (.slice none 0 0) 1 4 8 0 false 0 0 (.slice none 0 0) 16777216) 44)) (.cells #[.pointer (some ⟨G.w.heap.size + 1 + 1, 0, none⟩)] 31)
 have o5 := alloc_new ((((G.w.alloc (.cells #[.int .i64 0] 3)).alloc (.cells #[.int .i64 0] 23)).alloc (.cells (frC 0 0 0 false (.slice none 0 0) (.slice none 0 0) (.slice none 0 0) (.slice none 0 0) 1 4 8 0 false 0 0 (.slice none 0 0) 16777216) 44)).alloc (.cells #[.pointer (some ⟨G.w.heap.size + 1 + 1, 0, none⟩)] 31)) (.cells #[.slice G.a n G.cap] 22)
 simp only [World.size_alloc] at o2 o3 o4 o5
 have hbx : Wbx G W0 := ⟨by rw [hW0]; exact alloc_far (alloc_far (alloc_far (alloc_far o1 _) _) _) _, by rw [hW0]; exact alloc_far (alloc_far (alloc_far o2 _) _) _, by rw [hW0]; exact alloc_far o4 _, by rw [hW0, ← hn]; exact o5, hk0⟩
 have hfr : W0.heap[G.w.heap.size + 1 + 1]? = some (.cells (frZ 16777216) 44 (0, 0)) := by rw [hW0]; exact alloc_far (alloc_far o3 _) _
 have hI0 : Wst G (unitsU G.b) W0 := ⟨newF 16777216, hbx, ⟨newF_is (w := G.w) (by omega) hfr, rfl, rfl, rfl, Nat.zero_le _⟩, hR, usOk_units _ _ _ _ ok.hB.lt⟩
 have HW0 := hid (And.intro hsz hk0)
 clear ok hR hn o1 o2 o3 o4 o5 hbx hfr
 unfold frC at hW0 HNw
 rw [show ((0 : Nat) : Int) = 0 from rfl, show ((16777216 : Nat) : Int) = 16777216 from rfl] at hW0
 refine (callsIn_wide (n := 6)).1 ?_
 refine callsIn_of_wp_marks Tryz.func8 rfl trivial ?_ rfl
 simp only [Tryz.ntmps8, List.size_toArray, List.length_cons, List.length_nil, Nat.reduceAdd, Nat.reduceSub, Array.replicate_succ, Array.replicate_zero, List.push_toArray, List.append_toArray, List.nil_append, List.cons_append]
 have HW0e := hid hW0
 have HSZ := hid hsz
 clear hW0 hsz hq
 gi_wp2_with (refine ⟨trivial, ?_⟩; first | (gi_at_call 9; refine (callsIn_wide.2 (HNw.out _)).mono ?_; rintro e w' ⟨rfl, rfl⟩) | (gi_at_call 11; refine (callsIn_wide.2 (HU.out _)).mono ?_; rintro e w' ⟨rfl, rfl⟩))
 rw [← HW0e.out]
 have hsz := HSZ.out
 have hq := HNQ.out.2
 have hk0 := HW0.out.2
 refine range_iterC (gf := 17) (C := G.w.heap.size + 7) (Pr := PrC (G.w.heap.size + 7) G.gb) (by omega) (by omega) (fun _ _ _ h k => h.trans k) (fun V o o' ho hc => ?pp) rfl (enters_of Tryz.func17 (by kernel_rfl) rfl) (UnR G.gb (G.w.heap.size + 7)) (fun us => us = []) (unitsU G.b) (Wst G)
  (fun l J Jx W hWs hWk hJI hJk hXk hY hJ0 => ?iter) (fun us vs us' V h => ?ps) (Wex G)
  (fun us vs us' a' V => ∃ (u : Un) (ua : Option Addr) (uc uo rb : Nat), us = u :: us' ∧ Bytes V ua uc G.gb uo u.bs ∧ G.w.heap.size + 7 < rb ∧ V.heap[rb]? = some (.cells #[.int .i64 (u.p : Int), .slice ua u.bs.length uc, .bool u.wh] 50 (0, 0)) ∧ a' = { tmps := #[Value.slice G.a n G.cap, undef, Value.pointer (some ⟨G.w.heap.size, 0, none⟩), Value.pointer (some ⟨G.w.heap.size + 1, 0, none⟩), Value.pointer (some ⟨G.w.heap.size + 1 + 1 + 1, 0, none⟩), Value.pointer (some ⟨rb, 0, none⟩), undef, Value.pointer (some ⟨G.w.heap.size + 1 + 1, 0, none⟩), Value.slice G.a n G.cap, Value.func (Fn.func 17) #[] #[Value.pointer (some ⟨G.w.heap.size + 1 + 1 + 1 + 1, 0, none⟩)], Value.agg #[.int .i64 (u.p : Int), .slice ua u.bs.length uc, .bool u.wh], undef, undef, undef, undef, undef, undef, undef, undef, undef, undef, undef, undef, undef, undef], defers := [] })
  (fun us U V h hk => h.keepN hk (by omega)) (fun us U V h hk => h.keepC hk) (fun c U V h hk => h.keepN hk (by omega)) (fun us vs us' a' U V h hk => ?hA) hI0 ?assign ?body ?done ?stop
 case pp =>
  refine ⟨fun k hk => World.putObj_heap_other ?_, fun k cs hk => ?_⟩
  ·rcases hk with rfl | rfl <;> omega
  ·by_cases e : k = W0.heap.size + 1
   ·subst e
    rw [ho] at hk
    cases hk
    cases hc
   ·exact (World.putObj_heap_other e).trans hk
 case iter =>
  have hWs2 : W.heap.size = G.w.heap.size + 7 := by omega
  have hX : Taker l W.heap.size G.gb J Jx := ⟨fun i X Y h hk => hJk i X Y h (by rw [hWs2] at hk; exact hk), hXk, fun us vs us' V h hj m => by
   rw [hWs2] at h
   have := hY us vs us' V h hj m
   rw [hWs2]
   exact this, by omega⟩
  have hI1 := hJI _ _ hJ0
  have hbs : W.heap[G.w.heap.size + 1 + 1 + 1 + 1]? = some (.cells #[.slice G.a G.b.length G.cap] 22 (0, 0)) := by
   obtain ⟨F, h1, -⟩ := hI1
   exact h1.bs
  have hbb : Bytes W G.a G.cap G.gb G.off G.b := by
   obtain ⟨F, h1, -⟩ := hI1
   exact HG.out.1.hB.keep h1.kp (fun _ e => e)
  refine (callsIn_wide.2 (units1_any l (G.w.heap.size + 1 + 1 + 1 + 1) G.gb G.a G.cap G.off G.b J Jx W hX hbs hbb hJ0)).mono ?_
  rintro e W' ⟨h1, h2⟩
  exact ⟨h1, h2.imp (fun h => ⟨[], rfl, h⟩) (fun h => h)⟩
 case ps =>
  obtain ⟨u, ua, uc, uo, -, rfl, -⟩ := h
  rfl
 case hA =>
  obtain ⟨u, ua, uc, uo, rb, h1, h2, h3, h4, h5⟩ := h
  exact ⟨u, ua, uc, uo, rb, h1, h2.keep hk.asK (fun hne => noC_cell (h2.cells 0 (List.length_pos_iff.2 hne))), h3, hk.obj h4, h5⟩
 case assign =>
  rintro us vs us' V K ⟨u, ua, uc, uo, h1, rfl, h3, h4⟩ hi hK
  unfold unV
  clear hsz hq
  gi_wp2
  refine hK _ _ ⟨by simp, fun k' o _ ho _ => alloc_far ho _⟩ ⟨fun k hk => ?_, fun k cs hk => alloc_far hk _⟩ (hi.keepN (((Keep.refl noBlock V).alloc _).toN W0.heap.size) (by have := HSZ.out; have := HNQ.out.2; omega)) ⟨u, ua, uc, uo, V.heap.size, h1, h3.keep ((Keep.refl noBlock V).alloc _) (fun _ h => h), h4, alloc_new V _, rfl⟩
  have hlt : k < V.heap.size := by
   rcases hk with rfl | rfl
   ·exact h4
   ·omega
  exact Below.heap_alloc _ _ _ hlt
 case body =>
  rintro us vs us' a' V ⟨F, hb, hF, hw, hu⟩ ⟨u, ua, uc, uo, rb, rfl, g2, g3, g4, rfl⟩
  have hrbl : rb < V.heap.size := obj_lt g4
  have hC : G.w.heap.size + 7 < V.heap.size := by omega
  have hlk := look_any (Ω := G.Ω) (Δ := G.Δ) hF.1 u hu.1 (by rw [hF.2.2.1]; exact Nat.zero_le _) ua uc G.gb uo g2
  have hend := hid (fun (V' : World) (hk : Keep (fun k => k = G.w.heap.size ∨ k = G.w.heap.size + 1 ∨ k = G.w.heap.size + 1 + 1) V V') => wn_end (B := W0.heap.size) HG.out.1 hb hF hk hC)
  have hrn : ∀ k, k ≤ 2 → ¬ rb = G.w.heap.size + k := fun k hk e => by omega
  have HI := (show Hid (Wbx G V ∧ WiF G F V ∧ winW (orc G.Ω G.Δ) F (u :: us') = G.R ∧ UsOk F.fl F.kind F.bsz (u :: us') ∧ V.heap[rb]? = some (.cells #[.int .i64 (u.p : Int), .slice ua u.bs.length uc, .bool u.wh] 50 (0, 0)) ∧ (∀ k, k ≤ 2 → ¬ rb = G.w.heap.size + k)) from ⟨hb, hF, hw, hu, g4, hrn⟩)
  have cp : V.cell? ⟨G.w.heap.size + 1 + 1 + 1, 0, none⟩ = some (.pointer (some ⟨G.w.heap.size + 1 + 1, 0, none⟩)) := cell_of hb.bp 0
  have r0 : V.cell? ⟨rb, 0, none⟩ = some (.int .i64 (u.p : Int)) := cell_of g4 0
  have r1 : V.cell? ⟨rb, 1, none⟩ = some (.slice ua u.bs.length uc) := cell_of g4 1
  have r2 : V.cell? ⟨rb, 2, none⟩ = some (.bool u.wh) := cell_of g4 2
  have hp8 := hu.1.p
  clear hb hF hw hu g2 g3 g4 hrbl hC hrn hsz hq hI0 hgn hk0
  obtain ⟨p, bs, wh⟩ := u
  dsimp only at *
  unfold unV at hlk
  obtain ⟨c, hc⟩ : ∃ c, c = (lookP (orc G.Ω G.Δ) F ⟨p, bs, wh⟩).2 := ⟨_, rfl⟩
  rw [← hc] at hlk
  have HCc := hid hc
  clear hc
  have HLk := (show Hid (Calls Tryz.prog 12 #[.pointer (some ⟨G.w.heap.size + 1 + 1, 0, none⟩), .agg #[.int .i64 (p : Int), .slice ua bs.length uc, .bool wh]] V fun e w1 => e = .returned (.int .i64 (c : Int)) ∧ Hid (IsF w1 (G.w.heap.size + 1 + 1) (lookP (orc G.Ω G.Δ) F ⟨p, bs, wh⟩).1 (.slice none 0 0) (.slice none 0 0) (.slice none 0 0) none 0 0 0 (.slice none 0 0) ∧ Keep (fun k => k = G.w.heap.size + 1 + 1) V w1 ∧ Wbx G w1) ∧
    w1.cell? ⟨G.w.heap.size, 0, none⟩ = some (.int .i64 0) ∧ w1.frozen? ⟨G.w.heap.size, 0, none⟩ = false ∧ (w1.setCell ⟨G.w.heap.size, 0, none⟩ (.int .i64 0)).cell? ⟨G.w.heap.size + 1, 0, none⟩ = some (.int .i64 0) ∧ (w1.setCell ⟨G.w.heap.size, 0, none⟩ (.int .i64 0)).frozen? ⟨G.w.heap.size + 1, 0, none⟩ = false ∧
    w1.cell? ⟨rb, 0, none⟩ = some (.int .i64 (p : Int)) ∧ w1.cell? ⟨rb, 1, none⟩ = some (.slice ua bs.length uc) ∧ w1.cell? ⟨rb, 2, none⟩ = some (.bool wh)) from hlk.mono (by
   rintro e w1 ⟨rfl, q1, q2⟩
   have hb1 := HI.out.1.at (j := 2) q2 (by omega)
   have hk3 : Keep (fun k => k = G.w.heap.size) w1 (w1.setCell ⟨G.w.heap.size, 0, none⟩ (.int .i64 0)) := (Keep.refl (fun k => k = G.w.heap.size) w1).setCell (p := ⟨G.w.heap.size, 0, none⟩) (fun _ => rfl) _
   have o3 := hk3.obj hb1.b3 (by omega)
   have o5 := q2.obj HI.out.2.2.2.2.1 (HI.out.2.2.2.2.2 2 (by omega))
   exact ⟨rfl, ⟨q1, q2, hb1⟩, cell_of hb1.b2 0, frozen_of hb1.b2 0, cell_of o3 0, frozen_of o3 0, cell_of o5 0, cell_of o5 1, cell_of o5 2⟩))
  clear hlk
  by_cases hc0 : c = 0
  ·subst hc0
   have HLO := hid (lookP_ok HCc.out.symm)
   have HLW := hid (lookP_win HCc.out.symm HI.out.2.1.2.2.2.1 HI.out.2.1.2.2.2.2)
   have HEn := hid (fun W : World => endsHead_any p (.slice ua bs.length uc) wh (by omega) W ⟨_, _, _, rfl⟩)
   have HWin := (show Hid (G.R = if p = 1 ∨ p = 4 then ((lookP (orc G.Ω G.Δ) F ⟨p, bs, wh⟩).1.win, 0) else winW (orc G.Ω G.Δ) (lookP (orc G.Ω G.Δ) F ⟨p, bs, wh⟩).1 us') from by
    rw [← HI.out.2.2.1]
    show (if (lookP (orc G.Ω G.Δ) F ⟨p, bs, wh⟩).2 ≠ 0 then _ else _) = _
    rw [if_neg (by rw [← HCc.out]; simp)])
   have HNx := hid (fun (w1 w2 : World) (q : IsF w1 (G.w.heap.size + 1 + 1) (lookP (orc G.Ω G.Δ) F ⟨p, bs, wh⟩).1 (.slice none 0 0) (.slice none 0 0) (.slice none 0 0) none 0 0 0 (.slice none 0 0) ∧ Keep (fun k => k = G.w.heap.size + 1 + 1) V w1 ∧ Wbx G w1) (k2 : Keep noBlock w1 w2) => (show Wbx G w2 ∧ WiF G (lookP (orc G.Ω G.Δ) F ⟨p, bs, wh⟩).1 w2 ∧ Keep (fun k => k = G.w.heap.size ∨ k = G.w.heap.size + 1 ∨ k = G.w.heap.size + 1 + 1) V w2 from
    ⟨q.2.2.at (j := 9) (k2.mono (fun _ _ h => h.elim)) (by omega), ⟨q.1.quiet k2, by rw [lookP_ws]; exact HI.out.2.1.2.1, by rw [HLW.out.2.2]; exact HI.out.2.1.2.2.1, HLW.out.2.1, HLW.out.1⟩, (q.2.1.mono (fun _ _ h => .inr (.inr h))).trans k2 (fun _ _ h => h.elim)⟩))
   by_cases hpe : p = 1 ∨ p = 4
   ·rw [decide_eq_true hpe] at HEn
    have HPe := hid hpe
    clear hpe
    gi_wp2_with (refine ⟨trivial, ?_⟩; first | (gi_at_call 12; refine (CallsIn.inRound _ (callsIn_wide.2 HLk.out)).mono ?_; rintro e w1 ⟨rfl, HP, x1, x2, x3, x4, x5, x6, x7⟩) | (gi_at_call 13; refine (CallsIn.inRound _ (callsIn_wide.2 (HEn.out _))).mono ?_; rintro e w2 ⟨rfl, k2⟩))
    obtain ⟨z1, z2, z3⟩ := HNx.out _ _ HP.out k2
    obtain ⟨e1, e2⟩ := hend.out _ z3
    exact ⟨e1, ⟨z1.kp, .inr ⟨rfl, z1, _, z2, by rw [HWin.out, if_pos HPe.out]⟩⟩, e2⟩
   ·rw [decide_eq_false hpe] at HEn
    have HPe := hid hpe
    clear hpe
    gi_wp2_with (refine ⟨trivial, ?_⟩; first | (gi_at_call 12; refine (CallsIn.inRound _ (callsIn_wide.2 HLk.out)).mono ?_; rintro e w1 ⟨rfl, HP, x1, x2, x3, x4, x5, x6, x7⟩) | (gi_at_call 13; refine (CallsIn.inRound _ (callsIn_wide.2 (HEn.out _))).mono ?_; rintro e w2 ⟨rfl, k2⟩))
    obtain ⟨z1, z2, z3⟩ := HNx.out _ _ HP.out k2
    obtain ⟨e1, e2⟩ := hend.out _ z3
    obtain ⟨l1, l2, l3, l4, l5, l6, l7⟩ := HLO.out
    exact ⟨e1, ⟨_, z1, z2, by rw [HWin.out, if_neg HPe.out], by rw [l2, l3, l4]; exact HI.out.2.2.2.1.2⟩, e2⟩
  ·have hcb : ((c : Int) != 0) = true := by simp; omega
   have HC0 := hid hc0
   clear hc0
   gi_wp2_with (refine ⟨trivial, ?_⟩; gi_at_call 12; refine (CallsIn.inRound _ (callsIn_wide.2 HLk.out)).mono ?_; rintro e w1 ⟨rfl, HP, x1, x2, x3, x4, x5, x6, x7⟩)
   have hR : G.R = (0, c) := by
    rw [← HI.out.2.2.1]
    show (if (lookP (orc G.Ω G.Δ) F ⟨p, bs, wh⟩).2 ≠ 0 then _ else _) = _
    rw [if_pos (by rw [← HCc.out]; exact HC0.out), ← HCc.out]
   have kS : Keep (fun k => k = G.w.heap.size ∨ k = G.w.heap.size + 1) w1 ((w1.setCell ⟨G.w.heap.size, 0, none⟩ (.int .i64 0)).setCell ⟨G.w.heap.size + 1, 0, none⟩ (.int .i64 (c : Int))) := ((Keep.refl (fun k => k = G.w.heap.size ∨ k = G.w.heap.size + 1) w1).setCell (p := ⟨G.w.heap.size, 0, none⟩) (fun _ => .inl rfl) _).setCell (p := ⟨G.w.heap.size + 1, 0, none⟩) (fun _ => .inr rfl) _
   obtain ⟨e1, e2⟩ := hend.out _ ((HP.out.2.1.mono (fun _ _ h => .inr (.inr h))).trans kS (fun _ _ h => h.elim .inl (fun h => .inr (.inl h))))
   have o2 : (w1.setCell ⟨G.w.heap.size, 0, none⟩ (.int .i64 0)).heap[G.w.heap.size]? = some (.cells #[.int .i64 0] 3 (0, 0)) := set_obj HP.out.2.2.b2 0 _
   have o3 := ((Keep.refl (fun k => k = G.w.heap.size) w1).setCell (p := ⟨G.w.heap.size, 0, none⟩) (fun _ => rfl) (.int .i64 0)).obj HP.out.2.2.b3 (by omega)
   refine ⟨e1, ⟨HP.out.2.2.kp.trans kS (fun i hi e => by rcases e with rfl | rfl <;> omega), .inl ⟨rfl, ?_, ?_⟩⟩, e2⟩
   ·rw [hR]
    exact ((Keep.refl (fun k => k = G.w.heap.size + 1) _).setCell (p := ⟨G.w.heap.size + 1, 0, none⟩) (fun _ => rfl) _).obj o2 (by omega)
   ·rw [hR]
    exact set_obj o3 0 _
 case done =>
  rintro us V rfl ⟨F, hb, hF, hw, hu⟩ hD
  have hRR : G.R = (F.win, 0) := hw.symm
  clear hsz hq hu hw hk0
  obtain ⟨wn, hwn⟩ : ∃ wn, wn = F.win := ⟨_, rfl⟩
  have hwb : (wn : Int) ≤ 16777216 := by have := hF.2.2.2.2; omega
  have hwi : IntKind.i64.wrap (wn : Int) = (wn : Int) := by rw [IntKind.wrap_i64]; omega
  have cp : V.cell? ⟨G.w.heap.size + 1 + 1 + 1, 0, none⟩ = some (.pointer (some ⟨G.w.heap.size + 1 + 1, 0, none⟩)) := cell_of hb.bp 0
  have cw : V.cell? ⟨G.w.heap.size + 1 + 1, 0, none⟩ = some (.int .u64 (wn : Int)) := by rw [hwn]; exact cell_of hF.1.fr 0
  have c2 : V.cell? ⟨G.w.heap.size, 0, none⟩ = some (.int .i64 0) := cell_of hb.b2 0
  have f2 : V.frozen? ⟨G.w.heap.size, 0, none⟩ = false := frozen_of hb.b2 0
  have kA : Keep (fun k => k = G.w.heap.size) V (V.setCell ⟨G.w.heap.size, 0, none⟩ (.int .i64 (wn : Int))) := (Keep.refl (fun k => k = G.w.heap.size) V).setCell (p := ⟨G.w.heap.size, 0, none⟩) (fun _ => rfl) _
  have o2 : (V.setCell ⟨G.w.heap.size, 0, none⟩ (.int .i64 (wn : Int))).heap[G.w.heap.size]? = some (.cells #[.int .i64 (wn : Int)] 3 (0, 0)) := set_obj hb.b2 0 _
  have o3 := kA.obj hb.b3 (by omega)
  have c3 : (V.setCell ⟨G.w.heap.size, 0, none⟩ (.int .i64 (wn : Int))).cell? ⟨G.w.heap.size + 1, 0, none⟩ = some (.int .i64 0) := cell_of o3 0
  have f3 : (V.setCell ⟨G.w.heap.size, 0, none⟩ (.int .i64 (wn : Int))).frozen? ⟨G.w.heap.size + 1, 0, none⟩ = false := frozen_of o3 0
  obtain ⟨V2, hV2⟩ : ∃ V2, V2 = ((V.setCell ⟨G.w.heap.size, 0, none⟩ (.int .i64 (wn : Int))).setCell ⟨G.w.heap.size + 1, 0, none⟩ (.int .i64 0)) := ⟨_, rfl⟩
  have kB : Keep (fun k => k = G.w.heap.size ∨ k = G.w.heap.size + 1) V V2 := by
   rw [hV2]
   exact (kA.mono (fun _ _ h => .inl h)).setCell (p := ⟨G.w.heap.size + 1, 0, none⟩) (fun _ => .inr rfl) _
  have o22 : V2.heap[G.w.heap.size]? = some (.cells #[.int .i64 (wn : Int)] 3 (0, 0)) := by
   rw [hV2]
   exact ((Keep.refl (fun k => k = G.w.heap.size + 1) (V.setCell ⟨G.w.heap.size, 0, none⟩ (.int .i64 (wn : Int)))).setCell (p := ⟨G.w.heap.size + 1, 0, none⟩) (fun _ => rfl) _).obj o2 (by omega)
  have o32 : V2.heap[G.w.heap.size + 1]? = some (.cells #[.int .i64 0] 23 (0, 0)) := by rw [hV2]; exact set_obj o3 0 _
  have HE := (show Hid (Keep (fun k => k = G.w.heap.size ∨ k = G.w.heap.size + 1) V V2 ∧ V2.heap[G.w.heap.size]? = some (.cells #[.int .i64 (wn : Int)] 3 (0, 0)) ∧ V2.heap[G.w.heap.size + 1]? = some (.cells #[.int .i64 0] 23 (0, 0)) ∧ V2.heap[W0.heap.size]? = some (.deferred (some []))) from
   ⟨kB, o22, o32, kB.obj hD (by have := HSZ.out; have := HNQ.out.2; omega)⟩)
  have hV2' := hid hV2
  have HWn := hid hwn
  clear kA o2 o3 kB o22 o32 hV2 hwn
  gi_wp2_with fail
  rw [← hV2'.out]
  have hsz := HSZ.out
  have hq := HNQ.out.2
  obtain ⟨y1, y2, y3, y4⟩ := HE.out
  refine ⟨by simp, .inl ⟨_, _, rfl, run_takeDeferred y4, ?_⟩⟩
  have hkp : Keep (fun j => j = W0.heap.size) V2 (V2.putObj W0.heap.size (.deferred none)) := (Keep.refl (fun j => j = W0.heap.size) V2).putObj _ _ (fun _ => rfl)
  refine ⟨_, results_cc rfl _ _ _ ⟨G.w.heap.size, 0, none⟩ ⟨G.w.heap.size + 1, 0, none⟩ (.int .i64 ((wn : Int))) (.int .i64 (0)) rfl rfl (loadVar3 (cell_of (hkp.obj y2 (by omega)) 0)) (loadVar23 (cell_of (hkp.obj y3 (by omega)) 0)), ?_⟩
  rw [hRR, ← HWn.out]
  exact ⟨rfl, (hb.kp.trans y1 (fun i hi e => by rcases e with rfl | rfl <;> omega)).trans hkp (fun i hi (e : i = _) => by omega)⟩
 case stop =>
  rintro j V ⟨hk, h⟩ hD
  rcases h with ⟨rfl, h2, h3⟩ | ⟨rfl, hb, F, hF, hRR⟩
  ·clear hsz hq hk0
   gi_wp2_with fail
   have hsz := HSZ.out
   have hq := HNQ.out.2
   refine ⟨by simp, .inl ⟨_, _, rfl, run_takeDeferred hD, ?_⟩⟩
   have hkp : Keep (fun j => j = W0.heap.size) V (V.putObj W0.heap.size (.deferred none)) := (Keep.refl (fun j => j = W0.heap.size) V).putObj _ _ (fun _ => rfl)
   refine ⟨_, results_cc rfl _ _ _ ⟨G.w.heap.size, 0, none⟩ ⟨G.w.heap.size + 1, 0, none⟩ (.int .i64 (G.R.1 : Int)) (.int .i64 (G.R.2 : Int)) rfl rfl (loadVar3 (cell_of (hkp.obj h2 (by omega)) 0)) (loadVar23 (cell_of (hkp.obj h3 (by omega)) 0)), ?_⟩
   exact ⟨rfl, hk.trans hkp (fun i hi (e : i = _) => by omega)⟩
  ·clear hsz hq hk0
   obtain ⟨wn, hwn⟩ : ∃ wn, wn = F.win := ⟨_, rfl⟩
   have hwb : (wn : Int) ≤ 16777216 := by have := hF.2.2.2.2; omega
   have hwi : IntKind.i64.wrap (wn : Int) = (wn : Int) := by rw [IntKind.wrap_i64]; omega
   have cp : V.cell? ⟨G.w.heap.size + 1 + 1 + 1, 0, none⟩ = some (.pointer (some ⟨G.w.heap.size + 1 + 1, 0, none⟩)) := cell_of hb.bp 0
   have cw : V.cell? ⟨G.w.heap.size + 1 + 1, 0, none⟩ = some (.int .u64 (wn : Int)) := by rw [hwn]; exact cell_of hF.1.fr 0
   have c2 : V.cell? ⟨G.w.heap.size, 0, none⟩ = some (.int .i64 0) := cell_of hb.b2 0
   have f2 : V.frozen? ⟨G.w.heap.size, 0, none⟩ = false := frozen_of hb.b2 0
   have kA : Keep (fun k => k = G.w.heap.size) V (V.setCell ⟨G.w.heap.size, 0, none⟩ (.int .i64 (wn : Int))) := (Keep.refl (fun k => k = G.w.heap.size) V).setCell (p := ⟨G.w.heap.size, 0, none⟩) (fun _ => rfl) _
   have o2 : (V.setCell ⟨G.w.heap.size, 0, none⟩ (.int .i64 (wn : Int))).heap[G.w.heap.size]? = some (.cells #[.int .i64 (wn : Int)] 3 (0, 0)) := set_obj hb.b2 0 _
   have o3 := kA.obj hb.b3 (by omega)
   have c3 : (V.setCell ⟨G.w.heap.size, 0, none⟩ (.int .i64 (wn : Int))).cell? ⟨G.w.heap.size + 1, 0, none⟩ = some (.int .i64 0) := cell_of o3 0
   have f3 : (V.setCell ⟨G.w.heap.size, 0, none⟩ (.int .i64 (wn : Int))).frozen? ⟨G.w.heap.size + 1, 0, none⟩ = false := frozen_of o3 0
   obtain ⟨V2, hV2⟩ : ∃ V2, V2 = ((V.setCell ⟨G.w.heap.size, 0, none⟩ (.int .i64 (wn : Int))).setCell ⟨G.w.heap.size + 1, 0, none⟩ (.int .i64 0)) := ⟨_, rfl⟩
   have kB : Keep (fun k => k = G.w.heap.size ∨ k = G.w.heap.size + 1) V V2 := by
    rw [hV2]
    exact (kA.mono (fun _ _ h => .inl h)).setCell (p := ⟨G.w.heap.size + 1, 0, none⟩) (fun _ => .inr rfl) _
   have o22 : V2.heap[G.w.heap.size]? = some (.cells #[.int .i64 (wn : Int)] 3 (0, 0)) := by
    rw [hV2]
    exact ((Keep.refl (fun k => k = G.w.heap.size + 1) (V.setCell ⟨G.w.heap.size, 0, none⟩ (.int .i64 (wn : Int)))).setCell (p := ⟨G.w.heap.size + 1, 0, none⟩) (fun _ => rfl) _).obj o2 (by omega)
   have o32 : V2.heap[G.w.heap.size + 1]? = some (.cells #[.int .i64 0] 23 (0, 0)) := by rw [hV2]; exact set_obj o3 0 _
   have HE := (show Hid (Keep (fun k => k = G.w.heap.size ∨ k = G.w.heap.size + 1) V V2 ∧ V2.heap[G.w.heap.size]? = some (.cells #[.int .i64 (wn : Int)] 3 (0, 0)) ∧ V2.heap[G.w.heap.size + 1]? = some (.cells #[.int .i64 0] 23 (0, 0)) ∧ V2.heap[W0.heap.size]? = some (.deferred (some []))) from
    ⟨kB, o22, o32, kB.obj hD (by have := HSZ.out; have := HNQ.out.2; omega)⟩)
   have hV2' := hid hV2
   have HWn := hid hwn
   clear kA o2 o3 kB o22 o32 hV2 hwn
   gi_wp2_with fail
   rw [← hV2'.out]
   have hsz := HSZ.out
   have hq := HNQ.out.2
   obtain ⟨y1, y2, y3, y4⟩ := HE.out
   refine ⟨by simp, .inl ⟨_, _, rfl, run_takeDeferred y4, ?_⟩⟩
   have hkp : Keep (fun j => j = W0.heap.size) V2 (V2.putObj W0.heap.size (.deferred none)) := (Keep.refl (fun j => j = W0.heap.size) V2).putObj _ _ (fun _ => rfl)
   refine ⟨_, results_cc rfl _ _ _ ⟨G.w.heap.size, 0, none⟩ ⟨G.w.heap.size + 1, 0, none⟩ (.int .i64 ((wn : Int))) (.int .i64 (0)) rfl rfl (loadVar3 (cell_of (hkp.obj y2 (by omega)) 0)) (loadVar23 (cell_of (hkp.obj y3 (by omega)) 0)), ?_⟩
   rw [hRR, ← HWn.out]
   exact ⟨rfl, (hb.kp.trans y1 (fun i hi e => by rcases e with rfl | rfl <;> omega)).trans hkp (fun i hi (e : i = _) => by omega)⟩
end Go.Proofs.YtnjilcokkhodmaaGreatDoor

namespace Go.Proofs.YtnjilcokkhodmaaGreatDoor
open Go.RowKit Go.Shelf
set_option linter.unusedVariables false

def strOf (bs : List Nat) : ByteArray := (bs.map (fun b => ((b : Nat) : Int))).foldl (fun r n => r.push (UInt8.ofNat n.toNat)) ByteArray.empty
theorem run_convB {w : World} {v : Value} {bs : List Nat} (h : SrcB w v bs) : (convert 22 9 v).run Tryz.prog w = .ok (.string (strOf bs)) w := by
 rcases h with ⟨rfl, rfl⟩ | ⟨a, cap, rfl, hc⟩
 ·rw [run_convert_bytes_string w 22 9 5 none 0 0 Tryz.underlying22 Tryz.underlying5 Tryz.underlying9]
  rfl
 ·rw [run_convert_bytes_string w 22 9 5 (some a) bs.length cap Tryz.underlying22 Tryz.underlying5 Tryz.underlying9]
  refine run_bytesToString w a bs.length cap (bs.map (fun b => ((b : Nat) : Int))) ?_
  have := run_loadCells_list (P := Tryz.prog) w a (u8s bs) hc
  rw [u8s_length] at this
  rw [this]
  simp [u8s]
theorem bytes_new (w : World) (bs : List Nat) (vs : Array Value) (mk : Nat × Nat) (n : Nat) (hn : n = bs.length) (hv : vs = (u8s bs).toArray) (hl : ∀ j : Nat, bs[j]?.getD 0 < 256) (h48 : bs.length < 2 ^ 48) : Bytes (w.alloc (.cells vs 5 mk)) (some ⟨w.heap.size, 0, none⟩) n w.heap.size 0 bs := by
 subst hn; subst hv
 refine ⟨.inl rfl, (fun e => by cases e), fun j hj => ?_, hl, Nat.le_refl _, h48⟩
 have := World.alloc_heap_new w (.cells (u8s bs).toArray 5 mk)
 rw [Nat.zero_add]
 simp only [World.cell?, this]
 simpa using u8s_at bs j hj
theorem run_append_wide (w : World) (ty : TypeId) (v : Value) (M bs : List Nat) (hown : w.ownsRow 0 5 1 v M.length (u8s M)) (hlen : M.length + bs.length ≤ 140737490000000) (sv : Value) (h : SrcB w sv bs) :
  ∃ v' w', (Builtin.append_ #[22, 22] ty #[v, sv]).run Tryz.prog w = .ok v' w' ∧ w'.ownsRow 0 5 1 v' (M ++ bs).length (u8s (M ++ bs)) ∧ Keep (fun k => v.ownBlock = some k) w w' := by
 obtain ⟨i0, hi, hz0, hz1, hz2⟩ := info_parts info5
 have happ : u8s (M ++ bs) = u8s M ++ u8s bs := by simp [u8s]
 rcases h with ⟨rfl, rfl⟩ | ⟨a, c, rfl, hc⟩
 ·refine ⟨v, w, ?_, by simpa using hown, Keep.refl _ _⟩
  rcases hown.2 with ⟨rfl, h0⟩ | ⟨g, cap, cur, rfl, _, hg, hr1, hr2, _⟩
  ·simp [Builtin.append_, run_underlying Tryz.underlying22, sizeOf, typeInfo, hi, Builtin.lenOf, go_sem]
  ·have hcap : M.length ≤ cap := by omega
   simp [Builtin.append_, run_underlying Tryz.underlying22, sizeOf, typeInfo, hi, Builtin.lenOf, go_sem, hcap]
 ·obtain ⟨v', w', hr, h2, h3, h4⟩ := run_append_own_wide (P := Tryz.prog) w 0 22 ty 5 i0 (.int .u8 0) 1 1 Tryz.underlying22 hi hz0 hz1 hz2 rfl (by decide) v M.length (u8s M) hown a bs.length c (u8s bs) (by simp [u8s_length]) hc (u8s_one bs) (by unfold maxLen; omega) (by omega) (Nat.zero_le _)
  exact ⟨v', w', hr, by rw [List.length_append, happ]; exact h2, (Keep.refl _ w).grown h3 (fun k e _ => e)⟩

theorem wk_a (Ω : Oc) (Δ : Od) : memP (orc Ω Δ) [40, 181, 47, 253, 32, 3, 25, 0, 0, 97, 98, 99] 1048576 = ([97, 98, 99], 12, 0) := by kernel_rfl
theorem wk_b (Ω : Oc) (Δ : Od) : memP (orc Ω Δ) [40, 181, 47, 253, 32, 3, 27, 0, 0, 97] 3 = ([97, 97, 97], 10, 0) := by kernel_rfl
theorem wk_c (Ω : Oc) (Δ : Od) : winP (orc Ω Δ) [40, 181, 47, 253, 0, 80] = (1048576, 0) := by kernel_rfl
theorem wk_s3 : strOf [97, 98, 99] = ⟨#[97, 98, 99]⟩ := by decide
theorem wk_t3 : strOf [97, 97, 97] = ⟨#[97, 97, 97]⟩ := by decide
end Go.Proofs.YtnjilcokkhodmaaGreatDoor

namespace Go.Proofs.YtnjilcokkhodmaaGreatDoor
open Go.RowKit Go.Shelf
set_option linter.unusedVariables false

theorem OutF.bytes {w : World} {ov : Value} {out : List Nat} (h : OutF w ov out) (hl : out.length ≤ 16777216) : ∃ a cap g, ov = .slice a out.length cap ∧ Bytes w a cap g 0 out := by
 obtain ⟨a, cap, g, e, hB, -⟩ := owns_bytes h.own h.lt (by omega)
 exact ⟨a, cap, g, e, hB⟩
def lenR (r : (List Nat × Nat) ⊕ Fr) : Prop := match r with
 | .inl r => r.1.length ≤ 16777216
 | .inr f => f.out.length ≤ 16777216
theorem behP_len {old : List Nat} {f : Fr} (h : old.length ≤ 16777216) : lenR (behP old f) := by
 unfold behP
 by_cases h1 : 16777216 < f.out.length
 ·rw [if_pos h1]; exact h
 ·rw [if_neg h1]
  have h2 : f.out.length ≤ 16777216 := by omega
  split
  ·exact h
  ·split
   ·exact h2
   ·exact h2
theorem stepU_len {O : Orc} {f : Fr} {u : Un} (h : f.out.length ≤ 16777216) : lenR (stepU O f u) := by
 unfold stepU
 split
 ·show (lookP O f u).1.out.length ≤ _
  rw [lookP_out]; exact h
 ·split
  ·show (lookP O f u).1.out.length ≤ _
   rw [lookP_out]; exact h
  ·split
   ·exact behP_len h
   ·split
    ·exact behP_len h
    ·split
     ·split
      ·exact h
      ·exact behP_len h
     ·exact behP_len h
theorem runU_len {O : Orc} : ∀ (us : List Un) (f : Fr) (n : Nat), f.out.length ≤ 16777216 → (runU O f n us).1.length ≤ 16777216
  | [], f, n, h => h
  | u :: us, f, n, h => by
    have hs := stepU_len (O := O) (u := u) h
    show (match stepU O f u with | .inl r => (r.1, 0, r.2) | .inr f1 => runU O f1 (n + u.bs.length) us).1.length ≤ _
    cases hc : stepU O f u with
    | inl r => rw [hc] at hs; exact hs
    | inr f1 => rw [hc] at hs; exact runU_len us f1 _ hs
theorem memP_len (O : Orc) (b : List Nat) (B : Nat) : (memP O b B).1.length ≤ 16777216 := runU_len _ _ _ (Nat.zero_le _)
def MbA (w : World) (M : List Nat × Nat × Nat) (e : Ending) (w' : World) : Prop := ∃ oa on oc og, e = .returned (.tuple #[.slice oa on oc, .int .i64 (M.2.1 : Int), .int .i64 (M.2.2 : Int)]) ∧ on = M.1.length ∧ Bytes w' oa oc og 0 M.1 ∧ Keep noBlock w w'
theorem memberB (Ω : Oc) (Δ : Od) (a : Option Addr) (cap gb off : Nat) (b : List Nat) (bud : Int) (w : World) (hB : Bytes w a cap gb off b) (hg : gb < w.heap.size) (hF : Frm w) (hO : Ords w) (hb1 : -9223372036854775808 ≤ bud) (hb2 : bud ≤ 9223372036854775807) (B : Nat) (hBB : (B : Int) = min (max bud 0) 16777216) :
  Calls Tryz.prog 6 #[.slice a b.length cap, .int .i64 bud] w fun e w' => MbA w (memP (orc Ω Δ) b B) e w' := by
 refine (member_any Ω Δ a cap gb off b bud w hB hg hF hO hb1 hb2 B hBB).mono ?_
 rintro e w' ⟨ov, rfl, h2, -, h4⟩
 obtain ⟨oa, oc, og, rfl, hb⟩ := h2.bytes (memP_len _ _ _)
 exact ⟨oa, _, oc, og, rfl, rfl, hb, h4⟩
theorem wk_one (Ω : Oc) (Δ : Od) (w : World) (hF : Frm w) (hO : Ords w) (bs : List Nat) (vs : Array Value) (n : Nat) (hn : n = bs.length) (hv : vs = (u8s bs).toArray) (hl : ∀ j : Nat, bs[j]?.getD 0 < 256) (h48 : bs.length < 2 ^ 48) (bud : Int) (hb1 : -9223372036854775808 ≤ bud) (hb2 : bud ≤ 9223372036854775807) (B : Nat) (hBB : (B : Int) = min (max bud 0) 16777216) (R : List Nat × Nat × Nat) (hR : memP (orc Ω Δ) bs B = R) :
  Calls Tryz.prog 6 #[.slice (some ⟨w.heap.size, 0, none⟩) n n, .int .i64 bud] (w.alloc (.cells vs 5)) fun e w' => MbA w R e w' := by
 have hk := (Keep.refl noBlock w).alloc (.cells vs 5)
 have hB := bytes_new w bs vs (0, 0) n hn hv hl h48
 have := memberB Ω Δ _ _ _ _ bs bud _ hB (by rw [World.size_alloc]; omega) (hF.keep hk) (hO.keep hk (fun h => h) (fun h => h)) hb1 hb2 B hBB
 rw [hR, ← hn] at this
 refine this.mono ?_
 rintro e w' ⟨oa, on, oc, og, h1, h2, h3, h4⟩
 exact ⟨oa, on, oc, og, h1, h2, h3, hk.trans' h4⟩
theorem wk_win (Ω : Oc) (Δ : Od) (w : World) (bs : List Nat) (vs : Array Value) (n : Nat) (hn : n = bs.length) (hv : vs = (u8s bs).toArray) (hl : ∀ j : Nat, bs[j]?.getD 0 < 256) (h48 : bs.length < 2 ^ 48) (R : Nat × Nat) (hR : winP (orc Ω Δ) bs = R) :
  Calls Tryz.prog 8 #[.slice (some ⟨w.heap.size, 0, none⟩) n n] (w.alloc (.cells vs 5)) fun e w' => e = .returned (.tuple #[.int .i64 (R.1 : Int), .int .i64 (R.2 : Int)]) ∧ Keep noBlock w w' := by
 have hk := (Keep.refl noBlock w).alloc (.cells vs 5)
 have hB := bytes_new w bs vs (0, 0) n hn hv hl h48
 have := window_any ⟨Ω, Δ, w.alloc (.cells vs 5), bs, some ⟨w.heap.size, 0, none⟩, n, w.heap.size, 0, R⟩ ⟨hB, by show w.heap.size < (w.alloc (.cells vs 5)).heap.size; rw [World.size_alloc]; omega⟩ hR
 refine (show Calls Tryz.prog 8 #[.slice (some ⟨w.heap.size, 0, none⟩) n n] (w.alloc (.cells vs 5)) _ from by
  have e : n = bs.length := hn
  rw [show Value.slice (some ⟨w.heap.size, 0, none⟩) n n = Value.slice (some ⟨w.heap.size, 0, none⟩) bs.length n by rw [← e]]
  exact this).mono ?_
 rintro e w' ⟨h1, h2⟩
 exact ⟨h1, hk.trans' h2⟩
set_option maxRecDepth 100000 in
set_option maxHeartbeats 4000000 in
theorem wakesZ_any (w : World) (hF : Frm w) (hO : Ords w) : Calls Tryz.prog 7 #[] w fun e w' => e = .returned (.bool true) ∧ Keep noBlock w w' := by
 obtain ⟨Ω⟩ := oc_ex
 obtain ⟨Δ⟩ := od_ex
 have HF := hid (And.intro hF hO)
 clear hF hO
 go_enter Tryz.func7, Tryz.ntmps7
 go_wp2_with fail
 refine (wk_one Ω Δ w HF.out.1 HF.out.2 [40, 181, 47, 253, 32, 3, 25, 0, 0, 97, 98, 99] _ 12 rfl rfl (lt256 (by decide)) (by decide) 1048576 (by omega) (by omega) 1048576 (by omega) _ (wk_a Ω Δ)).mono ?_
 rintro e w1 ⟨a1, n1, c1, g1, rfl, hn1, hB1, hk1⟩
 have H1 := (show Hid (Keep noBlock w w1 ∧ (Frm w1 ∧ Ords w1) ∧ Bytes w1 a1 c1 g1 0 [97, 98, 99] ∧ n1 = 3) from ⟨hk1, ⟨HF.out.1.keep hk1, HF.out.2.keep hk1 (fun h => h) (fun h => h)⟩, hB1, hn1⟩)
 clear hk1 hn1 hB1
 go_wp2_with fail
 refine (wk_one Ω Δ w1 H1.out.2.1.1 H1.out.2.1.2 [40, 181, 47, 253, 32, 3, 27, 0, 0, 97] _ 10 rfl rfl (lt256 (by decide)) (by decide) 3 (by omega) (by omega) 3 (by omega) _ (wk_b Ω Δ)).mono ?_
 rintro e w2 ⟨a2, n2, c2, g2, rfl, hn2, hB2, hk2⟩
 have H2 := (show Hid (Keep noBlock w w2 ∧ Bytes w2 a1 c1 g1 0 [97, 98, 99] ∧ Bytes w2 a2 c2 g2 0 [97, 97, 97] ∧ n2 = 3) from ⟨H1.out.1.trans' hk2, H1.out.2.2.1.keep hk2 (fun _ h => h), hB2, hn2⟩)
 clear hk2 hn2 hB2
 go_wp2_with fail
 refine (wk_win Ω Δ w2 [40, 181, 47, 253, 0, 80] _ 6 rfl rfl (lt256 (by decide)) (by decide) _ (wk_c Ω Δ)).mono ?_
 rintro e w3 ⟨rfl, hk3⟩
 have hc1 := run_convB ((H2.out.2.1.keep hk3 (fun _ h => h)).src)
 have hc2 := run_convB ((H2.out.2.2.1.keep hk3 (fun _ h => h)).src)
 rw [wk_s3, show ([97, 98, 99] : List Nat).length = 3 from rfl, ← H1.out.2.2.2] at hc1
 rw [wk_t3, show ([97, 97, 97] : List Nat).length = 3 from rfl, ← H2.out.2.2.2] at hc2
 have H3 := hid (H2.out.1.trans' hk3)
 clear hk3
 go_wp2_with fail
 go_ret
 exact ⟨rfl, H3.out⟩
end Go.Proofs.YtnjilcokkhodmaaGreatDoor
