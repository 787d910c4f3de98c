/-
  Tables as plain numbers, what tells them in a section, and rows of codes.
  putNext and putFirst: how one comes from a state to the next one; the first state.
  The tail of a section as a plain list of bits, in the order in which they are put.
  The closure of shortestRow: the row that takes fewer bits is kept.
  Are codes all the same? The table of one code; the kinds of tables.
  Tables that are offered: the one that is not told, the one of one code, none.
-/
import Derived.Deep.RegionHeld3
import Derived.Test.YtgaepmmpedaaiaaGreatDoorBackQ12
namespace Go.Proofs.YtgaepmmpedaaiaaGreatDoor
open Go.RowKit Go.Shelf
set_option linter.unusedVariables false

theorem keep_cell0 {w w' : World} (hk : Keep noBlock w w') {b i : Nat} {v : Value} (h : w.cell? ⟨b, i, none⟩ = some v) : w'.cell? ⟨b, i, none⟩ = some v :=
  (World.cell?_of_block (hk.block b (World.block_lt_of_cell? w ⟨b, i, none⟩ h) (fun h => h))).trans h
/-- A table: its log, and by state the symbol, the bits and the base. -/
structure Tb where
  l : Nat
  sy : Nat → Nat
  bi : Nat → Nat
  ba : Nat → Nat
/-- The table that counts make. -/
def tbX (xs : List Int) (l : Nat) : Tb := ⟨l, symF xs (2 ^ l), fun i => bitF l (xF xs (2 ^ l) i), fun i => baseF l (xF xs (2 ^ l) i)⟩
/-- The table of one code. -/
def tbA (c : Nat) : Tb := ⟨0, fun _ => c, fun _ => 0, fun _ => 0⟩
/-- A table that has these codes. -/
structure TbOk (T : Tb) (cs : List Nat) : Prop where
  hl : T.l ≤ 9
  xt : XT T.sy T.bi T.ba T.l
  sm : ∀ i, i < 2 ^ T.l → T.sy i < 53
  has : ∀ c ∈ cs, c < 53 ∧ 1 ≤ cntY T.sy c (2 ^ T.l)
/-- It lies there. -/
def IsTb (w : World) (g : Nat) (T : Tb) : Prop := RowT w g (2 ^ T.l) T.sy T.bi T.ba
theorem IsTb.keep {w w' : World} {S : Nat → Prop} {g : Nat} {T : Tb} (h : IsTb w g T) (hk : Keep S w w') (hS : ¬ S g) : IsTb w' g T := RowT.keep h hk hS
theorem TbOk.tab {w : World} {g : Nat} {T : Tb} {cs : List Nat} (h : TbOk T cs) (hT : IsTb w g T) : TabC w g T.l T.sy T.bi T.ba cs := ⟨hT, h.hl, h.xt, h.sm, h.has⟩
theorem tbX_ok {xs : List Int} {l : Nat} (hb : okT xs (l : Int) = true) (hl : l ≤ 9) (hx : xs.length ≤ 53) (cs : List Nat) (hc : ∀ c ∈ cs, c < xs.length ∧ xs[c]?.getD 0 ≠ 0) : TbOk (tbX xs l) cs := by
  have ht := okT_tab hb
  refine ⟨hl, tab_xt ht, fun i hi => ?_, fun c h => ?_⟩
  · have := (ht.symF i hi).2.1
    show symF xs (2 ^ l) i < 53
    omega
  · obtain ⟨h1, h2⟩ := hc c h
    have e := ht.cnt c h1
    obtain ⟨n, n1, n2, n3⟩ := ht.share c h1 h2
    refine ⟨by omega, ?_⟩
    rw [n1] at e
    have e2 : cntP (fun j => decide (symF xs (2 ^ l) j = c)) (2 ^ l) = n := by exact_mod_cast e
    show 1 ≤ cntP (fun j => decide (symF xs (2 ^ l) j = c)) (2 ^ l)
    omega
theorem tbA_ok (c : Nat) (hc : c < 53) (cs : List Nat) (h : ∀ d ∈ cs, d = c) : TbOk (tbA c) cs :=
  ⟨by simp [tbA], alone_xt c, fun _ _ => hc, fun d hd => by rw [h d hd]; exact ⟨hc, by simp [tbA, cntY, cntP]⟩⟩
/-- The table that is not told is one. -/
structure KDef (K : Kd) : Prop where
  ok : okT K.cs (K.l : Int) = true
  i16 : I16 K.cs
  nz : ∀ c, c < K.cs.length → K.cs[c]?.getD 0 ≠ 0
  le : K.cs.length ≤ K.codes
  l9 : K.l ≤ 9
theorem kdef_check (K : Kd) (h1 : okT K.cs (K.l : Int) = true) (h2 : (K.cs.all (fun x => decide (-32768 ≤ x ∧ x ≤ 32767 ∧ x ≠ 0)) && decide (K.cs.length ≤ K.codes) && decide (K.l ≤ 9)) = true) : KDef K := by
  simp only [Bool.and_eq_true, decide_eq_true_eq, List.all_eq_true] at h2
  obtain ⟨⟨h3, h4⟩, h5⟩ := h2
  refine ⟨h1, fun i => ?_, fun c hc => ?_, h4, h5⟩
  · by_cases hi : i < K.cs.length
    · rw [List.getElem?_eq_getElem hi]
      have := h3 _ (List.getElem_mem hi)
      exact ⟨this.1, this.2.1⟩
    · rw [List.getElem?_eq_none (by omega)]
      simp
  · rw [List.getElem?_eq_getElem hc]
    exact (h3 _ (List.getElem_mem hc)).2.2
theorem kdefL : KDef kdL := kdef_check _ (by kernel_rfl) (by kernel_rfl)
theorem kdefB : KDef kdB := kdef_check _ (by kernel_rfl) (by kernel_rfl)
theorem kdefM : KDef kdM := kdef_check _ (by kernel_rfl) (by kernel_rfl)
/-- Bytes told tell table T by kind k. -/
def ToldT (K : Kd) (k : Nat) (told : List Nat) (T : Tb) : Prop :=
  (k = 0 ∧ told = [] ∧ T = tbX K.cs K.l) ∨ (∃ c, k = 1 ∧ c < K.codes ∧ told = [c] ∧ T = tbA c) ∨
  (∃ (xs : List Int) (l : Nat), k = 2 ∧ okT xs (l : Int) = true ∧ I16 xs ∧ l ≤ K.ml ∧ xs.length ≤ K.codes ∧ told = pack (alignL (dscAll xs l)) ∧ T = tbX xs l)
theorem ToldT.k {K : Kd} {k : Nat} {told : List Nat} {T : Tb} (h : ToldT K k told T) : k < 3 := by
  rcases h with ⟨h, _⟩ | ⟨_, h, _⟩ | ⟨_, _, h, _⟩ <;> omega
theorem ToldT.len {K : Kd} {k : Nat} {told : List Nat} {T : Tb} (h : ToldT K k told T) : told.length ≤ 481 := by
  rcases h with ⟨_, rfl, _⟩ | ⟨c, _, _, rfl, _⟩ | ⟨xs, l, _, h1, _, _, _, rfl, _⟩
  · simp
  · simp
  · exact (dscB_len h1).2.1
/-- How the codes of one kind of values are told. -/
structure RowP where
  k : Nat
  told : List Nat
  T : Tb
  f : Nat → Nat
structure RowOk (K : Kd) (cs : List Nat) (R : RowP) : Prop where
  told : ToldT K R.k R.told R.T
  tb : TbOk R.T cs
  path : PathOk R.T.sy R.T.bi R.T.ba (2 ^ R.T.l) cs R.f 0
/-- .. as it lies, from block lo on. -/
structure RowM (W : World) (lo n : Nat) (R : RowP) (vt vc vp : Value) : Prop where
  told : ∃ a cap g o, vt = .slice a R.told.length cap ∧ Bytes W a cap g o R.told ∧ (R.told ≠ [] → lo ≤ g)
  cells : ∃ g cap, vc = .slice (some ⟨g, 0, none⟩) (2 ^ R.T.l) cap ∧ IsTb W g R.T ∧ lo ≤ g
  path : ∃ g, vp = .slice (some ⟨g, 0, none⟩) n n ∧ IsA W g 77 .u16 n (fun j => ((R.f j : Nat) : Int)) ∧ lo ≤ g
theorem RowM.keep {W W' : World} {S : Nat → Prop} {lo n : Nat} {R : RowP} {vt vc vp : Value} (h : RowM W lo n R vt vc vp) (hk : Keep S W W') (hS : ∀ k, lo ≤ k → ¬ S k) : RowM W' lo n R vt vc vp := by
  obtain ⟨⟨a, cap, g, o, h1, h2, h3⟩, ⟨g2, cap2, h4, h5, h6⟩, ⟨g3, h7, h8, h9⟩⟩ := h
  exact ⟨⟨a, cap, g, o, h1, h2.keep hk (fun e => hS _ (h3 e)), h3⟩, ⟨g2, cap2, h4, h5.keep hk (hS _ h6), h6⟩, ⟨g3, h7, h8.keep hk (hS _ h9), h9⟩⟩
/-- What shortestRow has under way: the boxes of codes, fewest and best. -/
structure Bt (W : World) (K : Kd) (cs : List Nat) (cb fb bb lo : Nat) (ac : Option Addr) (capc gc oc : Nat) (st : Bool) : Prop where
  box : W.heap[cb]? = some (.cells #[.slice ac cs.length capc] 22 (0, 0))
  bytes : Bytes W ac capc gc oc cs
  few : ∃ F : Int, W.heap[fb]? = some (.cells #[.int .i64 F] 3 (0, 0)) ∧ (st = false → F = 9223372036854775807)
  best : ∃ (R : RowP) (vt vc v3 vp : Value), W.heap[bb]? = some (.cells #[.int .i64 (R.k : Int), vt, vc, v3, vp] 122 (0, 0)) ∧ (st = true → RowOk K cs R ∧ RowM W lo cs.length R vt vc vp ∧ v3 = .slice ac cs.length capc)
  ne : cb ≠ fb ∧ cb ≠ bb ∧ fb ≠ bb
  lo : cb < lo ∧ fb < lo ∧ bb < lo ∧ lo ≤ W.heap.size
  gc : gc ≠ fb ∧ gc ≠ bb
theorem Bt.to {W W' : World} {K : Kd} {cs : List Nat} {cb fb bb lo : Nat} {ac : Option Addr} {capc gc oc : Nat} {st : Bool} (h : Bt W K cs cb fb bb lo ac capc gc oc st) (hk : Keep noBlock W W') : Bt W' K cs cb fb bb lo ac capc gc oc st := by
  obtain ⟨h1, h2, ⟨F, h3, h4⟩, ⟨R, vt, vc, v3, vp, h5, h6⟩, h7, h8, h9⟩ := h
  exact ⟨hk.obj h1 (fun h => h), h2.keep hk (fun _ h => h), ⟨F, hk.obj h3 (fun h => h), h4⟩, ⟨R, vt, vc, v3, vp, hk.obj h5 (fun h => h), fun e => ⟨(h6 e).1, (h6 e).2.1.keep hk (fun _ _ h => h), (h6 e).2.2⟩⟩, h7, ⟨h8.1, h8.2.1, h8.2.2.1, Nat.le_trans h8.2.2.2 hk.size⟩, h9⟩
end Go.Proofs.YtgaepmmpedaaiaaGreatDoor

namespace Go.Proofs.YtgaepmmpedaaiaaGreatDoor
open Go.RowKit Go.Shelf
set_option linter.unusedVariables false

/-- At offset o of block rb lies a row for codes cs. -/
structure RowAt (w : World) (rb o lo : Nat) (cs : List Nat) (R : RowP) : Prop where
  vals : ∃ vt vc vp, w.cell? ⟨rb, o + 1, none⟩ = some vt ∧ w.cell? ⟨rb, o + 2, none⟩ = some vc ∧ w.cell? ⟨rb, o + 4, none⟩ = some vp ∧ RowM w lo cs.length R vt vc vp
  kind : w.cell? ⟨rb, o, none⟩ = some (.int .i64 (R.k : Int))
  codes : ∃ ac capc gc oc, w.cell? ⟨rb, o + 3, none⟩ = some (.slice ac cs.length capc) ∧ Bytes w ac capc gc oc cs
theorem RowAt.lt {w : World} {rb o lo : Nat} {cs : List Nat} {R : RowP} (h : RowAt w rb o lo cs R) : rb < w.heap.size := World.block_lt_of_cell? w ⟨rb, o, none⟩ h.kind
theorem RowAt.keep {w w' : World} {rb o lo : Nat} {cs : List Nat} {R : RowP} (h : RowAt w rb o lo cs R) (hk : Keep noBlock w w') : RowAt w' rb o lo cs R := by
  have e := hk.block rb h.lt (fun h => h)
  obtain ⟨⟨vt, vc, vp, h1, h2, h3, h4⟩, h5, ac, capc, gc, oc, h6, h7⟩ := h
  exact ⟨⟨vt, vc, vp, (World.cell?_of_block e).trans h1, (World.cell?_of_block e).trans h2, (World.cell?_of_block e).trans h3, h4.keep hk (fun _ _ h => h)⟩, (World.cell?_of_block e).trans h5, ac, capc, gc, oc, (World.cell?_of_block e).trans h6, h7.keep hk (fun _ h => h)⟩
/-- The bits that lead from state to state, and to the first one. -/
def nextB (R : RowP) (k : Nat) : List (Fin 2) := low (R.f (k + 1) - R.T.ba (R.f k)) (R.T.bi (R.f k))
def firstB (R : RowP) : List (Fin 2) := low (R.f 0) R.T.l

set_option maxHeartbeats 4000000 in
theorem putNext_any (rb o lo wb k : Nat) (K : Kd) (cs : List Nat) (R : RowP) (L : List (Fin 2)) (w W : World) (h : RowAt w rb o lo cs R) (hR : RowOk K cs R) (hk : k + 1 < cs.length) (hn : cs.length ≤ 65535) (hM : Tl.MineT w W wb L) (hL : L.length < 1000000000000) :
    Calls Tryz.prog 72 #[.pointer (some ⟨rb, o, none⟩), .pointer (some ⟨wb, 0, none⟩), .int .i64 (k : Int)] W fun e W' => e = .returned (.tuple #[]) ∧ Tl.MineT w W' wb (L ++ nextB R k) := by
  have hkW := hM.keep
  obtain ⟨⟨vt, vc, vp, h1, h2, h3, h4⟩, h5, -⟩ := h.keep hkW
  obtain ⟨-, ⟨g, capg, rfl, t1, t2⟩, ⟨pg, rfl, p1, p2⟩⟩ := h4
  have q1 := p1.cell k (by omega)
  have q2 := p1.cell (k + 1) hk
  obtain ⟨x, hx⟩ : ∃ x, x = R.f k := ⟨_, rfl⟩
  obtain ⟨y, hy⟩ : ∃ y, y = R.f (k + 1) := ⟨_, rfl⟩
  rw [← hx] at q1
  rw [← hy] at q2
  have hxl := (hR.path.st k (Nat.zero_le _) (by omega)).1
  rw [← hx] at hxl
  have hnx := hR.path.nx k (Nat.zero_le _) hk
  rw [← hx, ← hy] at hnx
  obtain ⟨s0, s1, s2⟩ := t1.cells x hxl
  have hfit := hR.tb.xt.fits x hxl
  have hl9 := hR.tb.hl
  have hp := pow12 (show R.T.l ≤ 12 by omega)
  obtain ⟨S, hS⟩ : ∃ S, S = R.T.sy x := ⟨_, rfl⟩
  obtain ⟨B, hB⟩ : ∃ B, B = R.T.bi x := ⟨_, rfl⟩
  obtain ⟨A, hA⟩ : ∃ A, A = R.T.ba x := ⟨_, rfl⟩
  obtain ⟨q, hq⟩ : ∃ q, q = 2 ^ R.T.l := ⟨_, rfl⟩
  obtain ⟨n, hnn⟩ : ∃ n, n = cs.length := ⟨_, rfl⟩
  rw [← hS] at s0
  rw [← hB] at s1 hfit hnx
  rw [← hA] at s2 hfit hnx
  rw [← hq] at h2 hxl hfit hp
  rw [← hnn] at h3 hk hn
  have hnb : nextB R k = low (y - A) B := by unfold nextB; rw [← hx, ← hy, ← hA, ← hB]
  rw [hnb]
  have hpB : 2 ^ B ≤ 4096 := by omega
  have HM := (show Hid (∀ W', Keep noBlock W W' → Calls Tryz.prog 92 #[.pointer (some ⟨wb, 0, none⟩), .int .u64 (((y - A : Nat)) : Int), .int .i64 (B : Int)] W' fun e W'' => (∃ v, e = .returned v) ∧ Tl.MineT w W'' wb (L ++ low (y - A) B)) from fun W' hk' => by
    refine ((hM.keeps hk').put (y - A) B (by omega) (by omega) hL).mono ?_
    rintro e w2 ⟨rfl, q⟩
    exact ⟨⟨_, rfl⟩, q⟩)
  obtain ⟨d, hd⟩ : ∃ d, d = y - A := ⟨_, rfl⟩
  rw [← hd] at HM ⊢
  have hdI : (y : Int) - (A : Int) = (d : Int) := by omega
  have hkI : (k : Int) < (n : Int) := by omega
  obtain ⟨k1, hk1⟩ : ∃ k1, k1 = k + 1 := ⟨_, rfl⟩
  have hk1I : (k : Int) + 1 = (k1 : Int) := by omega
  have hk1n : (k1 : Int) < (n : Int) := by omega
  have hk1N : k1 < n := by omega
  rw [← hk1] at q2
  have hxI : (x : Int) < (q : Int) := by omega
  have hdb : (d : Int) < 65536 := by omega
  have hBI : (B : Int) ≤ 9 := by omega
  have hw1 : IntKind.i64.wrap (k1 : Int) = (k1 : Int) := by rw [IntKind.wrap_i64]; omega
  have hw2 : IntKind.u64.wrap (d : Int) = (d : Int) := by rw [IntKind.wrap_u64]; omega
  have hw3 : IntKind.i64.wrap (B : Int) = (B : Int) := by rw [IntKind.wrap_i64]; omega
  have hw4 : IntKind.u16.wrap (d : Int) = (d : Int) := by rw [IntKind.wrap_u16]; omega
  clear h hR hM hkW hx hy hnx hfit hS hB hA hq hnn hd hk1 t1 p1 hL hnb hpB
  go_enter Tryz.func72, Tryz.ntmps72
  go_wp2_with fail
  have S0 := And.intro h2 (And.intro h3 (And.intro q1 (And.intro s0 (And.intro s1 s2))))
  go_region_held3 (fun W => W.cell? ⟨rb, o + 2, none⟩ = some (.slice (some ⟨g, 0, none⟩) q capg) ∧ W.cell? ⟨rb, o + 4, none⟩ = some (.slice (some ⟨pg, 0, none⟩) n n) ∧ W.cell? ⟨pg, k, none⟩ = some (.int .u16 (x : Int)) ∧ W.cell? ⟨g, x * 3, none⟩ = some (.int .u8 (S : Int)) ∧ W.cell? ⟨g, x * 3 + 1, none⟩ = some (.int .u8 (B : Int)) ∧ W.cell? ⟨g, x * 3 + 2, none⟩ = some (.int .u16 (A : Int))) (first | exact S0 | go_keep) ((fail))
  go_wp2_with fail
  obtain ⟨W2, hW2⟩ : ∃ W2, W2 = (W.alloc (.cells #[.int .u8 (S : Int), .int .u8 (B : Int), .int .u16 (A : Int)] 79)).drew.drew := ⟨_, rfl⟩
  have hk2 : Keep noBlock W W2 := by rw [hW2]; exact (((Keep.refl _ W).alloc _).drew).drew
  obtain ⟨gx, hgx⟩ : ∃ gx, gx = W.heap.size := ⟨_, rfl⟩
  have o4 : W2.heap[gx]? = some (.cells #[.int .u8 (S : Int), .int .u8 (B : Int), .int .u16 (A : Int)] 79 (0, 0)) := by rw [hW2, hgx]; exact alloc_new W _
  have f1 : W2.cell? ⟨gx, 1, none⟩ = some (.int .u8 (B : Int)) := cell_of o4 1
  have f2 : W2.cell? ⟨gx, 2, none⟩ = some (.int .u16 (A : Int)) := cell_of o4 2
  have f3 : W2.cell? ⟨rb, o + 4, none⟩ = some (.slice (some ⟨pg, 0, none⟩) n n) := keep_cell0 hk2 h3
  have f4 : W2.cell? ⟨pg, k1, none⟩ = some (.int .u16 (y : Int)) := keep_cell0 hk2 q2
  have HM2 := hid (HM.out W2 hk2)
  clear h1 h2 h3 h5 q1 q2 s0 s1 s2 S0 HM o4 hk2
  refine region_tail 16 mx (by kernel_rfl) ?_
  rw [← hW2, ← hgx]
  clear hW2 hgx
  simp only [List.take_succ_cons, List.take_zero, List.drop_succ_cons, List.drop_zero]
  repeat (quiet_step (fail))
  refine wpQuiet_nil ?_
  go_wp2_with fail
  refine HM2.out.mono ?_
  rintro e w2 ⟨⟨v, rfl⟩, m1⟩
  have HF := hid m1
  clear m1
  go_wp2_with fail
  go_end0
  exact ⟨rfl, HF.out⟩

set_option maxHeartbeats 4000000 in
theorem putFirst_any (rb o lo wb : Nat) (K : Kd) (cs : List Nat) (R : RowP) (L : List (Fin 2)) (w W : World) (h : RowAt w rb o lo cs R) (hR : RowOk K cs R) (hk : 0 < cs.length) (hn : cs.length ≤ 65535) (hM : Tl.MineT w W wb L) (hL : L.length < 1000000000000) :
    Calls Tryz.prog 74 #[.pointer (some ⟨rb, o, none⟩), .pointer (some ⟨wb, 0, none⟩)] W fun e W' => e = .returned (.tuple #[]) ∧ Tl.MineT w W' wb (L ++ firstB R) := by
  have hkW := hM.keep
  obtain ⟨W2, hW2⟩ : ∃ W2, W2 = W.drew := ⟨_, rfl⟩
  have hk2 : Keep noBlock W W2 := by rw [hW2]; exact (Keep.refl _ W).drew
  obtain ⟨⟨vt, vc, vp, h1, h2, h3, h4⟩, h5, -⟩ := (h.keep hkW).keep hk2
  obtain ⟨-, ⟨g, capg, rfl, t1, t2⟩, ⟨pg, rfl, p1, p2⟩⟩ := h4
  have q1 := p1.cell 0 hk
  obtain ⟨x, hx⟩ : ∃ x, x = R.f 0 := ⟨_, rfl⟩
  rw [← hx] at q1
  have hxl := (hR.path.st 0 (Nat.zero_le _) hk).1
  rw [← hx] at hxl
  have hl9 := hR.tb.hl
  have hp := pow12 (show R.T.l ≤ 12 by omega)
  have HL := hid (logOf_any (some ⟨g, 0, none⟩) (2 ^ R.T.l) R.T.l capg rfl (by omega) W2)
  have HM := hid ((hM.keeps hk2).put x R.T.l (by omega) (by omega) hL)
  have hnb : firstB R = low x R.T.l := by unfold firstB; rw [← hx]
  rw [hnb]
  obtain ⟨q, hq⟩ : ∃ q, q = 2 ^ R.T.l := ⟨_, rfl⟩
  obtain ⟨l, hl⟩ : ∃ l, l = R.T.l := ⟨_, rfl⟩
  obtain ⟨n, hnn⟩ : ∃ n, n = cs.length := ⟨_, rfl⟩
  rw [← hq] at h2 hxl hp HL
  rw [← hl] at HL HM hl9 ⊢
  rw [← hnn] at h3 hk hn
  have hn0 : (0 : Int) < (n : Int) := by omega
  have hxI : (x : Int) < (q : Int) := by omega
  have hw2 : IntKind.u64.wrap (x : Int) = (x : Int) := by rw [IntKind.wrap_u64]; omega
  clear h hR hM hkW hk2 hx hq hl hnn t1 p1 hL hnb
  go_enter Tryz.func74, Tryz.ntmps74
  go_wp2_with fail
  refine region_tail 13 mx (by kernel_rfl) ?_
  rw [← hW2]
  clear hW2
  simp only [List.take_succ_cons, List.take_zero, List.drop_succ_cons, List.drop_zero]
  repeat (quiet_step (fail))
  refine wpQuiet_step (fun K hK => ?_)
  go_simp
  refine ⟨_, HL.out, hK _ ?_⟩
  clear hK K
  refine wpQuiet_nil ?_
  go_wp2_with fail
  refine HM.out.mono ?_
  rintro e w2 ⟨rfl, m1⟩
  have HF := hid m1
  clear m1
  go_wp2_with fail
  go_end0
  exact ⟨rfl, HF.out⟩
end Go.Proofs.YtgaepmmpedaaiaaGreatDoor

namespace Go.Proofs.YtgaepmmpedaaiaaGreatDoor
open Go.RowKit Go.Shelf
set_option linter.unusedVariables false

def kdV : Nat → Kd
  | 0 => kdL
  | 1 => kdB
  | _ => kdM
theorem kokV (v : Nat) : KOk (kdV v) := by
  match v with
  | 0 => exact kokL
  | 1 => exact kokB
  | _ + 2 => exact kokM
theorem kdefV (v : Nat) : KDef (kdV v) := by
  match v with
  | 0 => exact kdefL
  | 1 => exact kdefB
  | _ + 2 => exact kdefM
/-- In which order next states and extra bits are put. -/
def nOrd (i : Nat) : Nat := [1, 2, 0][i]?.getD 0
def eOrd (i : Nat) : Nat := [0, 2, 1][i]?.getD 0
theorem nOrd_lt (i : Nat) : nOrd i < 3 := by
  match i with
  | 0 => decide
  | 1 => decide
  | 2 => decide
  | _ + 3 => simp [nOrd]
theorem eOrd_lt (i : Nat) : eOrd i < 3 := by
  match i with
  | 0 => decide
  | 1 => decide
  | 2 => decide
  | _ + 3 => simp [eOrd]
/-- Steps with their values, codes and rows by kind of values. -/
structure Tri where
  n : Nat
  x : Nat → Nat → Nat
  c : Nat → List Nat
  R : Nat → RowP
structure TriOk (t : Tri) : Prop where
  pos : 1 ≤ t.n
  le : t.n ≤ 65535
  len : ∀ v, v < 3 → (t.c v).length = t.n
  row : ∀ v, v < 3 → RowOk (kdV v) (t.c v) (t.R v)
  tells : ∀ v, v < 3 → ∀ k, k < t.n → (kdV v).Tells (t.x v k) ((t.c v)[k]?.getD 0) ∧ t.x v k < (kdV v).top
def catN (f : Nat → List (Fin 2)) : Nat → List (Fin 2)
  | 0 => []
  | i + 1 => catN f i ++ f i
def extV (t : Tri) (k v : Nat) : List (Fin 2) := low (t.x v k - (kdV v).lst ((t.c v)[k]?.getD 0)) ((kdV v).ext ((t.c v)[k]?.getD 0))
def stB (t : Tri) (k i : Nat) : List (Fin 2) := catN (fun i => extV t k (eOrd i)) i
def nxB (t : Tri) (k i : Nat) : List (Fin 2) := catN (fun i => nextB (t.R (nOrd i)) k) i
def fsB (t : Tri) (i : Nat) : List (Fin 2) := catN (fun i => firstB (t.R (2 - i))) i
/-- The bits of the last d steps. -/
def tlD (t : Tri) : Nat → List (Fin 2)
  | 0 => []
  | d + 1 => tlD t d ++ (if d = 0 then [] else nxB t (t.n - 1 - d) 3) ++ stB t (t.n - 1 - d) 3
/-- What was put ahead of the extra bits of step k. -/
def tlN (t : Tri) (k : Nat) : List (Fin 2) := tlD t (t.n - 1 - k) ++ (if t.n - 1 - k = 0 then [] else nxB t k 3)
theorem tlD_step (t : Tri) (k : Nat) (h : k < t.n) : tlD t (t.n - k) = tlN t k ++ stB t k 3 := by
  rw [show t.n - k = (t.n - 1 - k) + 1 from by omega]
  show tlD t (t.n - 1 - k) ++ (if t.n - 1 - k = 0 then [] else nxB t (t.n - 1 - (t.n - 1 - k)) 3) ++ stB t (t.n - 1 - (t.n - 1 - k)) 3 = _
  rw [show t.n - 1 - (t.n - 1 - k) = k from by omega]
  rfl
theorem tlN_last (t : Tri) (k : Nat) (h : k + 1 = t.n) : tlN t k = [] := by
  unfold tlN
  rw [show t.n - 1 - k = 0 from by omega]
  rfl
theorem tlN_more (t : Tri) (k : Nat) (h : k + 1 < t.n) : tlN t k = tlD t (t.n - (k + 1)) ++ nxB t k 3 := by
  unfold tlN
  rw [show t.n - 1 - k = t.n - (k + 1) from by omega, if_neg (by omega)]
def tlAll (t : Tri) : List (Fin 2) := tlD t t.n ++ fsB t 3
theorem catN_len (f : Nat → List (Fin 2)) (m : Nat) (h : ∀ i, (f i).length ≤ m) : ∀ i, (catN f i).length ≤ i * m
  | 0 => by simp [catN]
  | i + 1 => by
    show (catN f i ++ f i).length ≤ _
    rw [List.length_append, Nat.succ_mul]
    have := catN_len f m h i
    have := h i
    omega
theorem TriOk.code {t : Tri} (h : TriOk t) (v k : Nat) (hv : v < 3) (hk : k < t.n) : (t.c v)[k]?.getD 0 < (kdV v).codes := (h.tells v hv k hk).1.1
theorem TriOk.ext_le {t : Tri} (h : TriOk t) (v k : Nat) (hv : v < 3) (hk : k < t.n) : (extV t k v).length ≤ 31 := by
  unfold extV
  rw [low_length]
  have := ((kokV v).lt _ (h.code v k hv hk)).2
  omega
theorem TriOk.next_le {t : Tri} (h : TriOk t) (v k : Nat) (hv : v < 3) (hk : k < t.n) : (nextB (t.R v) k).length ≤ 9 := by
  unfold nextB
  rw [low_length]
  have h1 := (h.row v hv).path.st k (Nat.zero_le _) (by rw [h.len v hv]; exact hk)
  have := ((h.row v hv).tb.xt.fits _ h1.1).1
  have := (h.row v hv).tb.hl
  omega
theorem TriOk.st_le {t : Tri} (h : TriOk t) (k : Nat) (hk : k < t.n) (i : Nat) : (stB t k i).length ≤ i * 31 := catN_len _ 31 (fun j => h.ext_le _ k (eOrd_lt j) hk) i
theorem TriOk.nx_le {t : Tri} (h : TriOk t) (k : Nat) (hk : k < t.n) (i : Nat) : (nxB t k i).length ≤ i * 9 := catN_len _ 9 (fun j => h.next_le _ k (nOrd_lt j) hk) i
theorem TriOk.tl_le {t : Tri} (h : TriOk t) : ∀ d, d ≤ t.n → (tlD t d).length ≤ d * 120
  | 0, _ => by simp [tlD]
  | d + 1, hd => by
    show (tlD t d ++ (if d = 0 then [] else nxB t (t.n - 1 - d) 3) ++ stB t (t.n - 1 - d) 3).length ≤ _
    rw [List.length_append, List.length_append]
    have h1 := h.tl_le d (by omega)
    have h2 := h.st_le (t.n - 1 - d) (by omega) 3
    have h3 := h.nx_le (t.n - 1 - d) (by omega) 3
    have h4 : (if d = 0 then [] else nxB t (t.n - 1 - d) 3).length ≤ 27 := by
      split
      · simp
      · omega
    omega
theorem TriOk.fs_le {t : Tri} (h : TriOk t) (i : Nat) : (fsB t i).length ≤ i * 9 := catN_len _ 9 (fun j => by
  unfold firstB
  rw [low_length]
  have := (h.row (2 - j) (by omega)).tb.hl
  omega) i
/-- Three rows, one behind the other. -/
def RowsAt (w : World) (rb lo : Nat) (t : Tri) : Prop := ∀ v, v < 3 → RowAt w rb (v * 5) lo (t.c v) (t.R v)
/-- The orders of the program's two variables. -/
structure Ords (w : World) : Prop where
  ext : ∀ i, i < 3 → w.cell? ⟨0, i, none⟩ = some (.int .i64 ((eOrd (2 - i) : Nat) : Int))
  nxt : ∀ i, i < 3 → w.cell? ⟨1, i, none⟩ = some (.int .i64 ((nOrd (2 - i) : Nat) : Int))
theorem Ords.keep {w w' : World} (h : Ords w) (hk : Keep noBlock w w') : Ords w' := ⟨fun i hi => keep_cell0 hk (h.ext i hi), fun i hi => keep_cell0 hk (h.nxt i hi)⟩
end Go.Proofs.YtgaepmmpedaaiaaGreatDoor

namespace Go.Proofs.YtgaepmmpedaaiaaGreatDoor
open Go.RowKit Go.Shelf
set_option linter.unusedVariables false

set_option maxRecDepth 100000 in
set_option maxHeartbeats 4000000 in
theorem takeRow_any (K : Kd) (cs : List Nat) (cb fb bb nb lo : Nat) (ac : Option Addr) (capc gc oc : Nat) (st : Bool) (W : World) (h : Bt W K cs cb fb bb lo ac capc gc oc st) (k : Nat) (T : Tb) (told : List Nat) (at_ : Option Addr) (capt gt ot g capg : Nat)
    (hn : W.heap[nb]? = some (.cells #[.int .i64 (k : Int)] 3 (0, 0))) (hn1 : nb ≠ fb) (hn2 : nb ≠ bb) (hT : IsTb W g T) (hg : lo ≤ g) (ht : TbOk T cs) (hB : Bytes W at_ capt gt ot told) (hgt : told ≠ [] → lo ≤ gt) (hk : ToldT K k told T) (h1 : 1 ≤ cs.length) (h2 : cs.length ≤ 65535) :
    Calls Tryz.prog 68 #[.slice at_ told.length capt, .slice (some ⟨g, 0, none⟩) (2 ^ T.l) capg, .pointer (some ⟨cb, 0, none⟩), .pointer (some ⟨fb, 0, none⟩), .pointer (some ⟨nb, 0, none⟩), .pointer (some ⟨bb, 0, none⟩)] W fun e W' =>
      e = .returned (.tuple #[]) ∧ Bt W' K cs cb fb bb lo ac capc gc oc true ∧ Keep (fun j => j = fb ∨ j = bb) W W' := by
  have HP := hid (pathOf_any g T.l capg T.sy T.bi T.ba ac capc gc oc cs W (ht.tab hT) h.bytes h1 h2)
  have htl := hk.len
  have c0 : W.cell? ⟨cb, 0, none⟩ = some (.slice ac cs.length capc) := cell_of h.box 0
  have HH := hid (And.intro h (And.intro hn (And.intro hT (And.intro hB (And.intro hk ht)))))
  have HX := hid (And.intro hn1 (And.intro hn2 (And.intro hg hgt)))
  obtain ⟨n, hn⟩ : ∃ n, n = cs.length := ⟨_, rfl⟩
  obtain ⟨m, hm⟩ : ∃ m, m = told.length := ⟨_, rfl⟩
  obtain ⟨q, hq⟩ : ∃ q, q = 2 ^ T.l := ⟨_, rfl⟩
  have HE := hid (And.intro hn (And.intro hm hq))
  rw [← hn] at c0 HP h1 h2
  rw [← hm] at htl ⊢
  rw [← hq] at HP ⊢
  have hmI : (m : Int) ≤ 481 := by omega
  clear h hn1 hn2 hT hg ht hB hgt hk hn hm hq
  clear hn
  go_enter Tryz.func68, Tryz.ntmps68
  go_wp2_with fail
  refine HP.out.mono ?_
  rintro e w1 ⟨pg, f, t, rfl, p1, p2, p3, p4, p5⟩
  obtain ⟨H, Hn, HT, HB, Hk, Ht⟩ := HH.out
  have H1 := H.to p5
  obtain ⟨F, f1, f2⟩ := H1.few
  obtain ⟨R, vt, vc, v3, vp, b1, b2⟩ := H1.best
  have c1 : w1.cell? ⟨cb, 0, none⟩ = some (.slice ac n capc) := by rw [HE.out.1]; exact cell_of H1.box 0
  have c2 : w1.cell? ⟨fb, 0, none⟩ = some (.int .i64 F) := cell_of f1 0
  have c3 : w1.cell? ⟨nb, 0, none⟩ = some (.int .i64 (k : Int)) := cell_of (p5.obj Hn (fun h => h)) 0
  have e1 := HE.out.1
  have e2 := HE.out.2.1
  rw [← e1] at p3 ⊢
  obtain ⟨s, hs⟩ : ∃ s, s = t + 8 * m := ⟨_, rfl⟩
  have hsI : (t : Int) + 8 * (m : Int) = (s : Int) := by omega
  have hs2 : (s : Int) ≤ 1000000 := by omega
  have h8m : 8 * (m : Int) ≤ 4000 := by omega
  have htI : (t : Int) ≤ 900000 := by omega
  by_cases hlt : (s : Int) < F
  · have HW := (show Hid (∀ W3, W3 = (w1.setRow bb #[.int .i64 (k : Int), .slice at_ m capt, .slice (some ⟨g, 0, none⟩) q capg, .slice ac n capc, .slice (some ⟨pg, 0, none⟩) n n]).setCell ⟨fb, 0, none⟩ (.int .i64 (s : Int)) → Bt W3 K cs cb fb bb lo ac capc gc oc true ∧ Keep (fun j => j = fb ∨ j = bb) W W3) from fun W3 e => by
      rw [e]
      have hk2 : Keep (fun j => j = fb ∨ j = bb) w1 ((w1.setRow bb #[.int .i64 (k : Int), .slice at_ m capt, .slice (some ⟨g, 0, none⟩) q capg, .slice ac n capc, .slice (some ⟨pg, 0, none⟩) n n]).setCell ⟨fb, 0, none⟩ (.int .i64 (s : Int))) :=
        (keep_setRow (Keep.refl _ w1) bb (fun _ => .inr rfl) _).setCell (p := ⟨fb, 0, none⟩) (fun _ => .inl rfl) _
      obtain ⟨n1, n2, n3⟩ := H1.ne
      obtain ⟨l1, l2, l3, l4⟩ := H1.lo
      obtain ⟨x1, x2, x3, x4⟩ := HX.out
      have hno : ∀ k, lo ≤ k → ¬ (k = fb ∨ k = bb) := fun k hk => by omega
      have hne : ¬ (cb = fb ∨ cb = bb) := by omega
      refine ⟨⟨hk2.obj H1.box hne, H1.bytes.keep hk2 (fun _ => by have := H1.gc; omega), ⟨s, ?_, fun e => by cases e⟩, ⟨⟨k, told, T, f⟩, .slice at_ m capt, .slice (some ⟨g, 0, none⟩) q capg, .slice ac n capc, .slice (some ⟨pg, 0, none⟩) n n, ?_, fun _ => ⟨⟨Hk, Ht, p2⟩, ?_, by rw [e1]⟩⟩, H1.ne, ⟨l1, l2, l3, Nat.le_trans l4 hk2.size⟩, H1.gc⟩, (p5.mono (T := fun j => j = fb ∨ j = bb) (fun _ _ h => h.elim)).trans hk2 (fun _ _ h => h)⟩
      · exact (set_obj ((setRow_other w1 bb fb _ n3).trans f1) 0 _).trans (by simp)
      · exact set_far (setRow_heap w1 bb _ _ 122 (0, 0) b1) (fun e => n3 e.symm) _ _
      · refine RowM.keep (W := w1) ⟨⟨at_, capt, gt, ot, by rw [e2], HB.keep p5 (fun _ h => h), x4⟩, ⟨g, capg, by rw [HE.out.2.2], HT.keep p5 (fun h => h), x3⟩, ⟨pg, by rw [e1], p1, Nat.le_trans H.lo.2.2.2 p4⟩⟩ hk2 hno)
    have fz1 : (w1.setRow bb #[.int .i64 (k : Int), .slice at_ m capt, .slice (some ⟨g, 0, none⟩) q capg, .slice ac n capc, .slice (some ⟨pg, 0, none⟩) n n]).frozen? ⟨fb, 0, none⟩ = false := frozen_of ((setRow_other w1 bb fb _ H1.ne.2.2).trans f1) 0
    have fz2 : (w1.setRow bb #[.int .i64 (k : Int), .slice at_ m capt, .slice (some ⟨g, 0, none⟩) q capg, .slice ac n capc, .slice (some ⟨pg, 0, none⟩) n n]).cell? ⟨fb, 0, none⟩ = some (.int .i64 F) := cell_of ((setRow_other w1 bb fb _ H1.ne.2.2).trans f1) 0
    have HB1 := hid b1
    have HZ1 : Hid ((Tryz.prog.info? 122).map (·.size) = some (#[.int .i64 (k : Int), .slice at_ m capt, .slice (some ⟨g, 0, none⟩) q capg, .slice ac n capc, .slice (some ⟨pg, 0, none⟩) n n] : Array Value).size) := (by kernel_rfl : (Tryz.prog.info? 122).map (·.size) = some 5)
    have HZ2 := hid (show (#[.int .i64 (R.k : Int), vt, vc, v3, vp] : Array Value).size = (#[.int .i64 (k : Int), .slice at_ m capt, .slice (some ⟨g, 0, none⟩) q capg, .slice ac n capc, .slice (some ⟨pg, 0, none⟩) n n] : Array Value).size from rfl)
    have HZ3 := hid (show (#[.int .i64 (k : Int), .slice at_ m capt, .slice (some ⟨g, 0, none⟩) q capg, .slice ac n capc, .slice (some ⟨pg, 0, none⟩) n n] : Array Value).all (·.oneCell') = true from all_oneCell_toArray (fun v hv => by simp only [List.mem_cons, List.not_mem_nil, or_false] at hv; rcases hv with rfl | rfl | rfl | rfl | rfl <;> rfl))
    clear H Hn HT HB Hk Ht H1 f2 b1 b2 p1 p2 p3 p4 p5 hs e1 e2 HH HX HP
    go_wp2_with (refine wpList_store_row rfl 122 (.tmp 5) (.tmp 29) rfl bb #[.int .i64 (k : Int), .slice at_ m capt, .slice (some ⟨g, 0, none⟩) q capg, .slice ac n capc, .slice (some ⟨pg, 0, none⟩) n n] rfl rfl 122 _ HB1.out HZ1.out HZ2.out HZ3.out ?_)
    go_end0
    exact ⟨rfl, HW.out _ rfl⟩
  · have hst : st = true := by
      cases st with
      | true => rfl
      | false => have := f2 rfl; omega
    have HF := (show Hid (Bt w1 K cs cb fb bb lo ac capc gc oc true ∧ Keep (fun j => j = fb ∨ j = bb) W w1) from ⟨by rw [hst] at H1; exact H1, p5.mono (fun _ _ h => h.elim)⟩)
    clear H Hn HT HB Hk Ht H1 f1 f2 b1 b2 hst p1 p2 p3 p4 p5 hs e1 e2 HH HX HP
    go_wp2_with fail
    go_end0
    exact ⟨rfl, HF.out⟩
end Go.Proofs.YtgaepmmpedaaiaaGreatDoor

namespace Go.Proofs.YtgaepmmpedaaiaaGreatDoor
open Go.RowKit Go.Shelf
set_option linter.unusedVariables false

/-- Are all the first one? -/
def allC (l : List Nat) (c : Nat) : Bool := decide (∀ j, j < l.length → l[j]?.getD 0 = c)
theorem allC_mem {l : List Nat} {c : Nat} (h : allC l c = true) : ∀ d ∈ l, d = c := fun d hd => by
  obtain ⟨i, hi, rfl⟩ := List.mem_iff_getElem.1 hd
  have := of_decide_eq_true h i hi
  rwa [List.getElem?_eq_getElem hi] at this

set_option maxHeartbeats 1000000 in
theorem alone1_any (x c B : Nat) (w : World) (ho : w.heap[B]? = some (.cells #[.int .u8 (c : Int)] 5 (0, 0))) :
    Calls Tryz.prog 79 #[.int .u8 (x : Int), .pointer (some ⟨B, 0, none⟩)] w fun e w' => e = .returned (.bool (decide (x ≠ c))) ∧ w' = w := by
  have c0 : w.cell? ⟨B, 0, none⟩ = some (.int .u8 (c : Int)) := cell_of ho 0
  clear ho
  by_cases h : x = c
  · subst h
    rw [decide_eq_false (by simp)]
    have e1 : ((x : Int) != (x : Int)) = false := by simp
    go_enter Tryz.func79, Tryz.ntmps79
    go_wp2_with fail
    go_ret
    exact ⟨rfl, rfl⟩
  · rw [decide_eq_true h]
    have e1 : ((x : Int) != (c : Int)) = true := by simp; omega
    go_enter Tryz.func79, Tryz.ntmps79
    go_wp2_with fail
    go_ret
    exact ⟨rfl, rfl⟩

set_option maxRecDepth 100000 in
set_option maxHeartbeats 2000000 in
theorem indexA_any (B c : Nat) (a : Option Addr) (cap gb off : Nat) (l : List Nat) (w : World) (ho : w.heap[B]? = some (.cells #[.int .u8 (c : Int)] 5 (0, 0))) (hB : Bytes w a cap gb off l) (hne : l ≠ []) (hl : l.length ≤ 65535) :
    Calls Tryz.prog 97 #[.slice a l.length cap, .func (.func 79) #[] #[.pointer (some ⟨B, 0, none⟩)]] w fun e w' => w' = w ∧ ((allC l c = true ∧ e = .returned (.int .i64 (-1))) ∨ (allC l c = false ∧ ∃ i : Nat, i < l.length ∧ e = .returned (.int .i64 (i : Int)))) := by
  obtain rfl : a = some ⟨gb, off, none⟩ := hB.at_.resolve_right hne
  have HH := hid (show Bytes w (some ⟨gb, off, none⟩) cap gb off l ∧ w.heap[B]? = some (.cells #[.int .u8 (c : Int)] 5 (0, 0)) from ⟨hB, ho⟩)
  obtain ⟨n, hn⟩ : ∃ n, n = l.length := ⟨_, rfl⟩
  have hnI : (n : Int) ≤ 65535 := by omega
  rw [← hn]
  have HN := hid hn
  clear ho hB hne hl hn
  go_enter Tryz.func97, Tryz.ntmps97
  go_wp2_with fail
  go_loopw [8] (fun v8 wr => ∃ i : Nat, v8 = .int .i64 (i : Int) ∧ i ≤ n ∧ wr = w ∧ Hid (∀ j, j < i → l[j]?.getD 0 = c)) (fun v8 _ => n - (intOf v8).toNat)
  case atStart => exact ⟨0, rfl, Nat.zero_le _, rfl, fun j hj => by omega⟩
  case round =>
    obtain ⟨i, rfl, hi, rfl, HC⟩ := hrel
    by_cases hlt : i < n
    · have c1 := HH.out.1.cells i (by rw [← HN.out]; exact hlt)
      have hiI : (i : Int) < (n : Int) := by omega
      have hi0 : (0 : Int) ≤ (i : Int) := by omega
      obtain ⟨x, hx⟩ : ∃ x, x = l[i]?.getD 0 := ⟨_, rfl⟩
      rw [← hx] at c1
      have HF := hid (alone1_any x c B wr HH.out.2)
      have HX := hid hx
      clear hx
      by_cases hxe : x = c
      · rw [decide_eq_false (by simpa using hxe)] at HF
        have HXE := hid hxe
        clear hxe
        go_wp2_with fail
        refine HF.out.mono ?_
        rintro e w1 ⟨rfl, rfl⟩
        go_wp2_with fail
        refine ⟨⟨i + 1, by go_num, by omega, trivial, fun j hj => ?_⟩, ?_⟩
        · by_cases e : j = i
          · subst e; rw [← HX.out]; exact HXE.out
          · exact HC.out j (by omega)
        · simp [intOf]; omega
      · rw [decide_eq_true hxe] at HF
        have HXE := hid hxe
        clear hxe
        go_wp2_with fail
        refine HF.out.mono ?_
        rintro e w1 ⟨rfl, rfl⟩
        go_wp2_with fail
        go_ret
        refine ⟨rfl, .inr ⟨decide_eq_false fun h => HXE.out (by rw [HX.out]; exact h i (by rw [← HN.out]; exact hlt)), i, hlt, rfl⟩⟩
    · have hiI : ¬ (i : Int) < (n : Int) := by omega
      go_wp2_with fail
      go_ret
      exact ⟨rfl, .inl ⟨decide_eq_true (fun j hj => HC.out j (by rw [← HN.out] at hj; omega)), rfl⟩⟩

set_option maxRecDepth 100000 in
set_option maxHeartbeats 1000000 in
theorem contains_any (B c : Nat) (a : Option Addr) (cap gb off : Nat) (l : List Nat) (w : World) (ho : w.heap[B]? = some (.cells #[.int .u8 (c : Int)] 5 (0, 0))) (hB : Bytes w a cap gb off l) (hne : l ≠ []) (hl : l.length ≤ 65535) :
    Calls Tryz.prog 78 #[.slice a l.length cap, .func (.func 79) #[] #[.pointer (some ⟨B, 0, none⟩)]] w fun e w' => w' = w ∧ e = .returned (.bool (!allC l c)) := by
  have HI := hid (indexA_any B c a cap gb off l w ho hB hne hl)
  generalize l.length = n at *
  clear ho hB hne hl
  cases ha : allC l c with
  | true =>
    rw [ha] at HI
    go_enter Tryz.func78, Tryz.ntmps78
    go_wp2_with fail
    refine HI.out.mono ?_
    rintro e w1 ⟨rfl, ⟨_, rfl⟩ | ⟨h, _⟩⟩
    · go_wp2_with fail
      go_ret
      exact ⟨rfl, rfl⟩
    · cases h
  | false =>
    rw [ha] at HI
    go_enter Tryz.func78, Tryz.ntmps78
    go_wp2_with fail
    refine HI.out.mono ?_
    rintro e w1 ⟨rfl, ⟨h, _⟩ | ⟨_, i, hi, rfl⟩⟩
    · cases h
    · have hi0 : (0 : Int) ≤ (i : Int) := by omega
      go_wp2_with fail
      go_ret
      exact ⟨rfl, rfl⟩

theorem alone_tab (w : World) (c : Nat) : IsTb (w.alloc (.cells #[.int .u8 (c : Int), .int .u8 0, .int .u16 0] 79)) w.heap.size (tbA c) := by
  have ho := alloc_new w (.cells #[.int .u8 (c : Int), .int .u8 0, .int .u16 0] 79)
  refine ⟨fun i hi => ?_, by simp⟩
  obtain rfl : i = 0 := by simpa [tbA] using hi
  rw [cell_of ho, cell_of ho, cell_of ho]
  exact ⟨rfl, rfl, rfl⟩
theorem aloneTable_any (c : Nat) (w : World) : Calls Tryz.prog 77 #[.int .u8 (c : Int)] w fun e w' => e = .returned (.slice (some ⟨w.heap.size, 0, none⟩) 1 1) ∧ w' = w.alloc (.cells #[.int .u8 (c : Int), .int .u8 0, .int .u16 0] 79) := by
  go_enter Tryz.func77, Tryz.ntmps77
  go_wp2_with fail
  go_ret
  exact ⟨rfl, rfl⟩

def kindsC : Array Value := #[.func (.func 50) #[] #[], .func (.func 51) #[] #[], .func (.func 52) #[] #[], .func (.func 53) #[] #[], .func (.func 54) #[] #[], .func (.func 55) #[] #[], .func (.func 56) #[] #[], .func (.func 57) #[] #[]]
set_option maxHeartbeats 1000000 in
theorem kinds_any (w : World) : Calls Tryz.prog 31 #[] w fun e w' => e = .returned (.agg kindsC) ∧ Keep noBlock w w' := by
  go_enter Tryz.func31, Tryz.ntmps31
  go_wp2_with (refine wpList_store_row rfl 95 (.tmp 0) (.tmp 5) rfl w.heap.size kindsC rfl rfl 95 _ (World.alloc_heap_new w _) (by kernel_rfl) (by kernel_rfl) (by kernel_rfl) ?_; rw [World.setRow_alloc_new])
  refine bodyPost_ret (results_cell rfl _ _ _ ⟨w.heap.size, 0, none⟩ (.agg kindsC) rfl (run_loadVar_row _ _ 95 95 _ (0, 0) _ (alloc_new w _) Tryz.underlying95 rfl (by kernel_rfl))) rfl ?_
  exact ⟨rfl, (Keep.refl _ w).alloc _⟩
end Go.Proofs.YtgaepmmpedaaiaaGreatDoor

namespace Go.Proofs.YtgaepmmpedaaiaaGreatDoor
open Go.RowKit Go.Shelf
set_option linter.unusedVariables false

/-- Where an offer is made: shortestRow's boxes, the coding, the number of the kind, codes that the table that is not told has. -/
structure Offer (W : World) (K : Kd) (b o gk nb k : Nat) (cs : List Nat) (cb fb bb lo : Nat) (ac : Option Addr) (capc gc oc : Nat) (st : Bool) : Prop where
  bt : Bt W K cs cb fb bb lo ac capc gc oc st
  cod : Coding W b o gk K
  df : KDef K
  far : b ≠ fb ∧ b ≠ bb ∧ gk ≠ fb ∧ gk ≠ bb ∧ nb ≠ fb ∧ nb ≠ bb
  num : W.heap[nb]? = some (.cells #[.int .i64 (k : Int)] 3 (0, 0))
  cs_ : ∀ c ∈ cs, c < K.cs.length
  pos : 1 ≤ cs.length
  le : cs.length ≤ 65535
theorem Offer.to {W W' : World} {K : Kd} {b o gk nb k : Nat} {cs : List Nat} {cb fb bb lo : Nat} {ac : Option Addr} {capc gc oc : Nat} {st : Bool} (h : Offer W K b o gk nb k cs cb fb bb lo ac capc gc oc st) (hk : Keep noBlock W W') : Offer W' K b o gk nb k cs cb fb bb lo ac capc gc oc st :=
  ⟨h.bt.to hk, h.cod.keep hk (fun h => h) (fun h => h), h.df, h.far, hk.obj h.num (fun h => h), h.cs_, h.pos, h.le⟩
theorem Offer.on {W W' : World} {K : Kd} {b o gk nb k : Nat} {cs : List Nat} {cb fb bb lo : Nat} {ac : Option Addr} {capc gc oc : Nat} {st : Bool} (h : Offer W K b o gk nb k cs cb fb bb lo ac capc gc oc st) {st' : Bool} (hb : Bt W' K cs cb fb bb lo ac capc gc oc st') (hk : Keep (fun j => j = fb ∨ j = bb) W W') : Offer W' K b o gk nb k cs cb fb bb lo ac capc gc oc st' := by
  obtain ⟨h1, h2, h3, h4, h5, h6⟩ := h.far
  exact ⟨hb, h.cod.keep hk (by omega) (by omega), h.df, h.far, hk.obj h.num (by omega), h.cs_, h.pos, h.le⟩
def OAns (K : Kd) (cs : List Nat) (cb fb bb lo : Nat) (ac : Option Addr) (capc gc oc : Nat) (W : World) (e : Ending) (W' : World) : Prop :=
  e = .returned (.tuple #[]) ∧ Bt W' K cs cb fb bb lo ac capc gc oc true ∧ Keep (fun j => j = fb ∨ j = bb) W W'
def takeV (cb fb nb bb : Nat) : Value := .func (.func 68) #[] #[.pointer (some ⟨cb, 0, none⟩), .pointer (some ⟨fb, 0, none⟩), .pointer (some ⟨nb, 0, none⟩), .pointer (some ⟨bb, 0, none⟩)]
/-- A table is handed to the closure. -/
theorem Offer.take {W W' : World} {K : Kd} {b o gk nb k : Nat} {cs : List Nat} {cb fb bb lo : Nat} {ac : Option Addr} {capc gc oc : Nat} {st : Bool} (h : Offer W K b o gk nb k cs cb fb bb lo ac capc gc oc st) (hk : Keep noBlock W W') (T : Tb) (told : List Nat) (at_ : Option Addr) (capt gt ot g capg m q : Nat)
    (hT : IsTb W' g T) (hg : W.heap.size ≤ g) (ht : TbOk T cs) (hB : Bytes W' at_ capt gt ot told) (hgt : told ≠ [] → W.heap.size ≤ gt) (hd : ToldT K k told T) (hm : m = told.length) (hq : q = 2 ^ T.l) :
    Calls Tryz.prog 68 #[.slice at_ m capt, .slice (some ⟨g, 0, none⟩) q capg, .pointer (some ⟨cb, 0, none⟩), .pointer (some ⟨fb, 0, none⟩), .pointer (some ⟨nb, 0, none⟩), .pointer (some ⟨bb, 0, none⟩)] W' fun e W'' => OAns K cs cb fb bb lo ac capc gc oc W e W'' := by
  subst hm hq
  have h' := h.to hk
  have hlo := h.bt.lo.2.2.2
  refine (takeRow_any K cs cb fb bb nb lo ac capc gc oc st W' h'.bt k T told at_ capt gt ot g capg h'.num h.far.2.2.2.2.1 h.far.2.2.2.2.2 hT (by omega) ht hB (fun e => Nat.le_trans hlo (hgt e)) hd h.pos h.le).mono ?_
  rintro e w2 ⟨rfl, q1, q2⟩
  exact ⟨rfl, q1, (hk.mono (T := fun j => j = fb ∨ j = bb) (fun _ _ h => h.elim)).trans q2 (fun _ _ h => h)⟩

theorem alloc_new1 (w : World) (o1 o2 : Obj) : ((w.alloc o1).alloc o2).heap[w.heap.size + 1]? = some o2 := by
  have := alloc_new (w.alloc o1) o2
  rwa [World.size_alloc] at this
theorem drewN_keep (W : World) (n : Nat) : Keep noBlock W (W.drewN n) := ⟨rfl, rfl, rfl, Nat.le_refl _, fun _ _ _ => rfl⟩
set_option maxHeartbeats 4000000 in
theorem offerUntold_any (W : World) (K : Kd) (b o gk nb : Nat) (cs : List Nat) (cb fb bb lo : Nat) (ac : Option Addr) (capc gc oc : Nat) (st : Bool) (h : Offer W K b o gk nb 0 cs cb fb bb lo ac capc gc oc st) :
    Calls Tryz.prog 51 #[.pointer (some ⟨b, o, none⟩), .slice ac cs.length capc, takeV cb fb nb bb] W fun e W' => OAns K cs cb fb bb lo ac capc gc oc W e W' := by
  have c1 := h.cod.cn
  have c2 := h.cod.lg
  obtain ⟨m, hm⟩ : ∃ m, m = K.cs.length := ⟨_, rfl⟩
  rw [← hm] at c1
  have d1 : ∀ q, (W.drewN q).cell? ⟨b, o + 109, none⟩ = some (.slice (some ⟨gk, 0, none⟩) m m) := fun q => c1
  have d2 : ∀ q, (W.drewN q).cell? ⟨b, o + 108, none⟩ = some (.int .i64 (K.l : Int)) := fun q => c2
  obtain ⟨q, hq⟩ : ∃ q, q = 2 ^ K.l := ⟨_, rfl⟩
  have HT := (show Hid (∀ z, Calls Tryz.prog 76 #[.slice (some ⟨gk, 0, none⟩) m m, .int .i64 (K.l : Int)] (W.drewN z) fun e w' => ∃ g cap', e = .returned (.tuple #[.slice (some ⟨g, 0, none⟩) q cap', .int .i64 0]) ∧ Hid (W.heap.size ≤ g ∧ IsTb w' g (tbX K.cs K.l) ∧ Keep noBlock W w') ∧ w'.cell? ⟨b, o + 109, none⟩ = some (.slice (some ⟨gk, 0, none⟩) m m) ∧ w'.cell? ⟨b, o + 108, none⟩ = some (.int .i64 (K.l : Int))) from fun z => by
    have h1 := h.to (drewN_keep W z)
    have := table_good _ _ _ _ K.cs K.l (W.drewN z) h1.cod.row h.df.i16 h.df.ok
    rw [← hm, ← hq] at this
    refine this.mono ?_
    rintro e w2 ⟨g, capg, rfl, t1, t2, t3, t4⟩
    have hk := (drewN_keep W z).trans' t4
    have h2 := (h.to hk).cod
    have e1 := h2.cn
    rw [← hm] at e1
    rw [hq] at t3
    exact ⟨g, capg, rfl, ⟨t1, t3, hk⟩, e1, h2.lg⟩)
  have HH := hid h
  generalize cs.length = n at *
  have HQ := hid hq
  clear h hm hq
  unfold takeV
  go_enter Tryz.func51, Tryz.ntmps51
  go_wp2_with fail
  go_region_held3 (fun W => W.cell? ⟨b, o + 109, none⟩ = some (.slice (some ⟨gk, 0, none⟩) m m) ∧ W.cell? ⟨b, o + 108, none⟩ = some (.int .i64 (K.l : Int))) (first | exact ⟨d1 _, d2 _⟩ | exact ⟨c1, c2⟩ | exact ⟨f1, f2⟩) ((first
    | (go_at_call 76; refine (HT.out 1).mono ?_; rintro e w2 ⟨g, capg, rfl, HX, f1, f2⟩)))
  have HN := (show Hid (Calls Tryz.prog 68 #[.slice none 0 0, .slice (some ⟨g, 0, none⟩) q capg, .pointer (some ⟨cb, 0, none⟩), .pointer (some ⟨fb, 0, none⟩), .pointer (some ⟨nb, 0, none⟩), .pointer (some ⟨bb, 0, none⟩)] w2 fun e W'' => OAns K cs cb fb bb lo ac capc gc oc W e W'') from by
    have h := HH.out
    obtain ⟨t1, t3, t4⟩ := HX.out
    refine h.take t4 (tbX K.cs K.l) [] none 0 0 0 g capg 0 q t3 t1 (tbX_ok h.df.ok h.df.l9 ?_ cs (fun c hc => ⟨h.cs_ c hc, h.df.nz c (h.cs_ c hc)⟩)) ⟨.inr rfl, fun _ => rfl, fun j hj => by simp at hj, fun j => by simp, Nat.le_refl _, by simp⟩ (fun e => absurd rfl e) (.inl ⟨rfl, rfl, rfl⟩) rfl HQ.out
    have := h.df.le
    have := h.cod.ok.le
    omega)
  clear HX f1 f2 c1 c2 d1 d2 HT HH
  go_wp2_with fail
  refine HN.out.mono ?_
  rintro e w3 ⟨rfl, q1, q2⟩
  have HF := hid (And.intro q1 q2)
  clear q1 q2
  go_wp2_with fail
  go_end0
  exact ⟨rfl, HF.out⟩

theorem offerNothing_any (W : World) (x y z : Value) : Calls Tryz.prog 57 #[x, y, z] W fun e W' => e = .returned (.tuple #[]) ∧ W' = W := by
  go_enter Tryz.func57, Tryz.ntmps57
  go_wp2_with fail
  go_end0
  exact ⟨rfl, rfl⟩

set_option maxHeartbeats 4000000 in
theorem offerAlone_any (W : World) (K : Kd) (b o gk nb : Nat) (cs : List Nat) (cb fb bb lo : Nat) (ac : Option Addr) (capc gc oc : Nat) (h : Offer W K b o gk nb 1 cs cb fb bb lo ac capc gc oc true) :
    Calls Tryz.prog 53 #[.pointer (some ⟨b, o, none⟩), .slice ac cs.length capc, takeV cb fb nb bb] W fun e W' => OAns K cs cb fb bb lo ac capc gc oc W e W' := by
  have hne : cs ≠ [] := fun e => by have := h.pos; rw [e] at this; simp at this
  obtain rfl := h.bt.bytes.at_.resolve_right hne
  have c1 := h.bt.bytes.cells 0 (by have := h.pos; omega)
  obtain ⟨c, hc⟩ : ∃ c, c = cs[0]?.getD 0 := ⟨_, rfl⟩
  rw [← hc, Nat.add_zero] at c1
  have hcm : c ∈ cs := by rw [hc, List.getElem?_eq_getElem (by have := h.pos; omega)]; exact List.getElem_mem _
  have hk1 : Keep noBlock W (W.alloc (.cells #[.int .u8 (c : Int)] 5)) := (Keep.refl _ W).alloc _
  have h1 := h.to hk1
  have ho := alloc_new W (.cells #[.int .u8 (c : Int)] 5)
  have HC := hid (contains_any W.heap.size c (some ⟨gc, oc, none⟩) capc gc oc cs _ ho h1.bt.bytes hne h.le)
  have HH := hid (And.intro h (And.intro hk1 (And.intro ho hcm)))
  obtain ⟨n, hn⟩ : ∃ n, n = cs.length := ⟨_, rfl⟩
  have hn0 : (0 : Int) < (n : Int) := by have := h.pos; omega
  have hn1 : 0 < n := by have := h.pos; omega
  rw [← hn] at HC ⊢
  obtain ⟨W1, hW1⟩ : ∃ W1, W1 = W.alloc (.cells #[.int .u8 (c : Int)] 5) := ⟨_, rfl⟩
  rw [← hW1] at HC HH
  obtain ⟨B, hB⟩ : ∃ B, B = W.heap.size := ⟨_, rfl⟩
  rw [← hB] at HC HH
  have HB := hid hB
  have HN := hid hn
  clear h h1 hk1 ho hne hn hc hcm
  unfold takeV
  cases ha : allC cs c with
  | false =>
    rw [ha] at HC
    go_enter Tryz.func53, Tryz.ntmps53
    go_wp2_with fail
    rw [← hW1, ← hB]
    refine HC.out.mono ?_
    rintro e w2 ⟨rfl, rfl⟩
    go_wp2_with fail
    go_end0
    obtain ⟨h, hk1, -⟩ := HH.out
    rw [← hW1]
    exact ⟨rfl, (h.to hk1).bt, hk1.mono (fun _ _ h => h.elim)⟩
  | true =>
    have HA := hid ha
    rw [ha] at HC
    clear ha
    go_enter Tryz.func53, Tryz.ntmps53
    go_wp2_with fail
    rw [← hW1, ← hB]
    refine HC.out.mono ?_
    rintro e w2 ⟨rfl, rfl⟩
    clear HC hW1 hB
    have c2 : w2.cell? ⟨B, 0, none⟩ = some (.int .u8 (c : Int)) := cell_of HH.out.2.2.1 0
    go_wp2_with fail
    have HT := (show Hid (∀ (w3 : World) (gt g : Nat), w3.heap[gt]? = some (.cells #[.int .u8 (c : Int)] 5 (0, 0)) → w3.heap[g]? = some (.cells #[.int .u8 (c : Int), .int .u8 0, .int .u16 0] 79 (0, 0)) → Keep noBlock w2 w3 → w2.heap.size ≤ gt → w2.heap.size ≤ g →
        Calls Tryz.prog 68 #[.slice (some ⟨gt, 0, none⟩) 1 1, .slice (some ⟨g, 0, none⟩) 1 1, .pointer (some ⟨cb, 0, none⟩), .pointer (some ⟨fb, 0, none⟩), .pointer (some ⟨nb, 0, none⟩), .pointer (some ⟨bb, 0, none⟩)] w3 fun e W'' => OAns K cs cb fb bb lo (some ⟨gc, oc, none⟩) capc gc oc w2 e W'' ∧ W''.cell? ⟨B, 0, none⟩ = some (.int .u8 (c : Int))) from fun w3 gt g o1 o2 k3 l1 l2 => by
      obtain ⟨h0, hk1, hbo, hcm⟩ := HH.out
      have h := h0.to hk1
      have hc8 : c < 256 := by have h1 := h.cs_ c hcm; have := h.df.le; have := h.cod.ok.le; omega
      have hcc : c < K.codes := by have h1 := h.cs_ c hcm; have := h.df.le; omega
      refine (show Calls Tryz.prog 68 _ w3 fun e W'' => OAns K cs cb fb bb lo (some ⟨gc, oc, none⟩) capc gc oc w2 e W'' from ?_).mono ?_
      rotate_left
      · rintro e w4 ⟨r1, r2, r3⟩
        refine ⟨⟨r1, r2, r3⟩, cell_of (r3.obj hbo ?_) 0⟩
        have := h0.bt.lo
        have := HB.out
        omega
      refine h.take k3 (tbA c) [c] (some ⟨gt, 0, none⟩) 1 gt 0 g 1 1 1 ⟨fun i hi => ?_, obj_lt o2⟩ l2 (tbA_ok c (by have := h.cod.ok.le; omega) cs (allC_mem HA.out)) ⟨.inl rfl, fun e => (by cases e), fun j hj => ?_, fun j => ?_, by simp, by simp⟩ (fun _ => l1) (.inr (.inl ⟨c, rfl, hcc, rfl, rfl⟩)) rfl rfl
      · obtain rfl : i = 0 := by simpa [tbA] using hi
        rw [cell_of o2, cell_of o2, cell_of o2]
        exact ⟨rfl, rfl, rfl⟩
      · obtain rfl : j = 0 := by simpa using hj
        rw [cell_of o1]
        rfl
      · match j with
        | 0 => exact hc8
        | _ + 1 => simp)
    have hz : w2.heap.size = (w2.drewN 1).heap.size := rfl
    have hkz : Keep noBlock w2 (w2.drewN 1) := drewN_keep w2 1
    have c3 : (w2.drewN 1).cell? ⟨B, 0, none⟩ = some (.int .u8 (c : Int)) := c2
    go_region_held3 (fun W => W.cell? ⟨B, 0, none⟩ = some (.int .u8 (c : Int))) (first | exact c2 | exact c3 | exact f1 | exact keep_cell0 ((Keep.refl _ _).alloc _) c3 | exact keep_cell0 (((Keep.refl _ _).alloc _).alloc _) c3) ((first
      | (go_at_call 77; refine (aloneTable_any c _).mono ?_; rintro e w3 ⟨rfl, rfl⟩)
      | (go_at_call 68; refine (HT.out _ _ _ (by first | exact alloc_new _ _ | exact alloc_far (alloc_new _ _) _ | exact alloc_new1 _ _ _) (by first | exact alloc_new _ _ | exact alloc_far (alloc_new _ _) _ | exact alloc_new1 _ _ _) (by first | exact (hkz.alloc _).alloc _ | exact ((Keep.refl _ _).alloc _).alloc _) (by simp) (by simp)).mono ?_; rintro e w3 ⟨⟨rfl, q1, q2⟩, f1⟩)))
    all_goals
      go_wp2_with fail
      go_end0
      exact ⟨rfl, q1, (HH.out.2.1.mono (T := fun j => j = fb ∨ j = bb) (fun _ _ h => h.elim)).trans q2 (fun _ _ h => h)⟩
end Go.Proofs.YtgaepmmpedaaiaaGreatDoor
