/-
  limit, reaches and tries of a search.
  Matches and steps, as plain numbers.
  with: the match with a place.
  mark and place of a search's marks.
  marked: the match that a mark tells of.
  head and ahead of a search's chains.
-/
import Derived.Laws.Rows
import Derived.Test.YtnokemcogjoonaaGreatDoorPutP4
import Derived.Test.YtnokemcogjoonaaGreatDoorPutP16
namespace Go.Proofs.YtnokemcogjoonaaGreatDoor.Fd
open Go.RowKit Go.Shelf
set_option linter.unusedVariables false

/-- How long a match at a place may be. -/
def limN (c : Cf) (p : Nat) : Nat := min c.most (c.bs.length - p)

section
attribute [local go_sem] maxSem_eq minSem_eq
set_option maxRecDepth 100000 in
set_option maxHeartbeats 1000000 in
theorem limit_any (c : Cf) (p told vain p1 p2 : Nat) (w : World) (h : IsS w c p told vain p1 p2) (hp : p ≤ c.bs.length) :
    Calls Tryz.prog 95 #[.pointer (some ⟨c.sb, 0, none⟩)] w fun e w' => e = .returned (.int .i64 ((limN c p : Nat) : Int)) ∧ ∃ k, w' = w.drewN k := by
  have hn := h.ok.n
  have c0 : w.cell? ⟨c.sb, 0, none⟩ = some (.slice (some ⟨c.gb, c.off, none⟩) c.bs.length c.cap) := cell_of h.obj 0
  have c4 : w.cell? ⟨c.sb, 4, none⟩ = some (.int .i64 (c.most : Int)) := cell_of h.obj 4
  have c5 : w.cell? ⟨c.sb, 5, none⟩ = some (.int .i64 (p : Int)) := cell_of h.obj 5
  obtain ⟨d, hd⟩ : ∃ d, d = c.bs.length - p := ⟨_, rfl⟩
  have hsub : (c.bs.length : Int) - (p : Int) = (d : Int) := by omega
  obtain ⟨l, hl⟩ : ∃ l, l = limN c p := ⟨_, rfl⟩
  have hmin := minSem_run #[3, 3] 3 (c.most : Int) (d : Int) (l : Int) (by rw [hl, hd]; unfold limN; omega)
  rw [← hl]
  clear h hd hl
  generalize c.bs.length = n at *
  go_enter Tryz.func95, Tryz.ntmps95
  go_wp2_with fail
  go_quiet (fail)
  go_wp2_with fail
  go_ret
  exact ⟨rfl, _, rfl⟩

set_option maxRecDepth 100000 in
set_option maxHeartbeats 1000000 in
theorem reaches_neg (c : Cf) (p told vain p1 p2 : Nat) (pl : Int) (w : World) (h : IsS w c p told vain p1 p2) (hp : pl < 0) :
    Calls Tryz.prog 98 #[.pointer (some ⟨c.sb, 0, none⟩), .int .i64 pl] w fun e w' => e = .returned (.bool false) ∧ ∃ k, w' = w.drewN k := by
  have hd : decide (0 ≤ pl) = false := decide_eq_false (by omega)
  clear h
  go_enter Tryz.func98, Tryz.ntmps98
  go_wp2_with fail
  go_quiet (fail)
  go_wp2_with fail
  go_ret
  exact ⟨rfl, _, rfl⟩
set_option maxRecDepth 100000 in
set_option maxHeartbeats 1000000 in
theorem reaches_pos (c : Cf) (p told vain p1 p2 q : Nat) (w : World) (h : IsS w c p told vain p1 p2) (hq : q ≤ p) (hp : p < 1000000) :
    Calls Tryz.prog 98 #[.pointer (some ⟨c.sb, 0, none⟩), .int .i64 (q : Int)] w fun e w' => e = .returned (.bool (decide (p - q ≤ c.window))) ∧ ∃ k, w' = w.drewN k := by
  have c2 : w.cell? ⟨c.sb, 2, none⟩ = some (.int .i64 (c.window : Int)) := cell_of h.obj 2
  have c5 : w.cell? ⟨c.sb, 5, none⟩ = some (.int .i64 (p : Int)) := cell_of h.obj 5
  have hd : decide (0 ≤ (q : Int)) = true := decide_eq_true (by omega)
  have hd1 : (0 : Int) ≤ (q : Int) := by omega
  obtain ⟨d, hde⟩ : ∃ d, d = p - q := ⟨_, rfl⟩
  have hsub : (p : Int) - (q : Int) = (d : Int) := by omega
  rw [← hde]
  clear h hde
  go_enter Tryz.func98, Tryz.ntmps98
  go_wp2_with fail
  go_quiet (fail)
  go_wp2_with fail
  go_ret
  exact ⟨rfl, _, rfl⟩
set_option maxRecDepth 100000 in
set_option maxHeartbeats 1000000 in
theorem tries_any (c : Cf) (p told vain p1 p2 : Nat) (w : World) (h : IsS w c p told vain p1 p2) (hv : vain < 1000000) :
    Calls Tryz.prog 97 #[.pointer (some ⟨c.sb, 0, none⟩)] w fun e w' => ∃ t : Nat, 1 ≤ t ∧ t ≤ 64 ∧ e = .returned (.int .i64 (t : Int)) ∧ ∃ k, w' = w.drewN k := by
  have hdd := h.ok.d2
  have c1 : w.cell? ⟨c.sb, 1, none⟩ = some (.int .i64 (c.depth : Int)) := cell_of h.obj 1
  have c7 : w.cell? ⟨c.sb, 7, none⟩ = some (.int .i64 (vain : Int)) := cell_of h.obj 7
  obtain ⟨v, hve⟩ : ∃ v, v = vain / 256 := ⟨_, rfl⟩
  have hdiv : IntKind.i64.wrap ((vain : Int) / 256) = (v : Int) := by rw [IntKind.wrap_i64]; omega
  obtain ⟨m, hme⟩ : ∃ m, m = min v 8 := ⟨_, rfl⟩
  have hmin := minSem_run #[3, 3] 3 (v : Int) 8 (m : Int) (by omega)
  obtain ⟨x, hxe⟩ : ∃ x, x = c.depth / 2 ^ m := ⟨_, rfl⟩
  have hx64 : x ≤ 64 := by rw [hxe]; exact Nat.le_trans (Nat.div_le_self _ _) hdd
  have hsh : (c.depth : Int) / 2 ^ m = (x : Int) := by rw [hxe]; norm_cast
  obtain ⟨t, ht⟩ : ∃ t, t = max 1 x := ⟨_, rfl⟩
  have hmax := maxSem_run #[3, 3] 3 1 (x : Int) (t : Int) (by omega)
  have HT := (show Hid (1 ≤ t ∧ t ≤ 64) from by constructor <;> omega)
  have hm8 : m ≤ 8 := by omega
  clear h hve hme hxe ht
  go_enter Tryz.func97, Tryz.ntmps97
  go_wp2_with fail
  go_quiet (fail)
  go_wp2_with fail
  go_ret
  exact ⟨t, HT.out.1, HT.out.2, rfl, _, rfl⟩
end
end Go.Proofs.YtnokemcogjoonaaGreatDoor.Fd

namespace Go.Proofs.YtnokemcogjoonaaGreatDoor.Fd

/-- s bytes at a stand b bytes ahead, and may be told so. -/
structure OkM (c : Cf) (a s b : Nat) : Prop where
  lo : c.least ≤ s
  hi : s ≤ c.most
  fin : a + s ≤ c.bs.length
  b1 : 1 ≤ b
  bw : b ≤ c.window
  ba : b ≤ a
  same : ∀ i, i < s → byteN c.bs (a + i) = byteN c.bs (a - b + i)
theorem OkM.lim {c : Cf} {a s b : Nat} (h : OkM c a s b) : s ≤ limN c a := by
  have := h.hi; have := h.fin
  unfold limN; omega
/-- A match, or none. -/
def IsM (c : Cf) (a s b : Nat) : Prop := (a = 0 ∧ s = 0 ∧ b = 0) ∨ OkM c a s b
/-- The bytes from a place on are those that stand one ahead. -/
structure Full (c : Cf) (p : Nat) : Prop where
  p1 : 1 ≤ p
  fits : p + c.least ≤ c.bs.length
  same : ∀ i, i < limN c p → byteN c.bs (p - 1 + i) = byteN c.bs (p + i)
theorem limN_mono (c : Cf) {p q : Nat} (h : p ≤ q) : limN c q ≤ limN c p := by unfold limN; omega
theorem limN_le (c : Cf) (p : Nat) (hp : p ≤ c.bs.length) : p + limN c p ≤ c.bs.length := by unfold limN; omega
end Go.Proofs.YtnokemcogjoonaaGreatDoor.Fd

namespace Go.Proofs.YtnokemcogjoonaaGreatDoor.Fd
open Go.RowKit Go.Shelf
set_option linter.unusedVariables false

theorem size63 : (Tryz.prog.info? 145).map (·.size) = some 3 := by kernel_rfl
/-- A result that lies in a block of three cells. -/
theorem ret63 {fn : Func} {p : Tmp} (h : fn.results = #[.cell p 145]) (tmps : Array Value) (w : World) (g : Nat) (t : TypeId) (cs : Array Value) (hp : tmps.getD p undef = .pointer (some ⟨g, 0, none⟩)) (hg : w.heap[g]? = some (.cells cs t (0, 0))) (h3 : cs.size = 3) :
    (results fn tmps).run Tryz.prog w = .ok (.agg cs) w :=
  results_cell_row h tmps w g t cs (0, 0) _ hp hg Tryz.underlying145 rfl (by rw [h3]; exact size63)

theorem put3 {W : World} {g t : Nat} {a0 a1 a2 : Value} (hz : W.heap[g]? = some (.cells #[a0, a1, a2] t (0, 0))) (v0 v1 v2 : Value) :
    (((W.setCell ⟨g, 0, none⟩ v0).setCell ⟨g, 1, none⟩ v1).setCell ⟨g, 2, none⟩ v2).heap[g]? = some (.cells #[v0, v1, v2] t (0, 0)) := by
  rw [set_obj (set_obj (set_obj hz 0 v0) 1 v1) 2 v2]; rfl
theorem keep3 {w W : World} {g : Nat} (h : Keep noBlock w W) (hg : w.heap.size ≤ g) (v0 v1 v2 : Value) : Keep noBlock w (((W.setCell ⟨g, 0, none⟩ v0).setCell ⟨g, 1, none⟩ v1).setCell ⟨g, 2, none⟩ v2) :=
  ((h.setCell (p := ⟨g, 0, none⟩) (fun hh => absurd hh (Nat.not_lt.2 hg)) v0).setCell (p := ⟨g, 1, none⟩) (fun hh => absurd hh (Nat.not_lt.2 hg)) v1).setCell (p := ⟨g, 2, none⟩) (fun hh => absurd hh (Nat.not_lt.2 hg)) v2

section
attribute [local go_sem] sliceSem_eq
set_option maxRecDepth 100000 in
set_option maxHeartbeats 2000000 in
theorem with_any (c : Cf) (p told vain p1 p2 q s : Nat) (w : World) (h : IsS w c p told vain p1 p2) (hp : p ≤ c.bs.length) (hq : q < p) (hw : p - q ≤ c.window) (hs : c.least ≤ s + 1) (hl : s < limN c p) :
    Calls Tryz.prog 99 #[.pointer (some ⟨c.sb, 0, none⟩), .int .i64 (q : Int), .int .i64 (s : Int)] w fun e w' => (∃ a m b : Nat, e = .returned (.agg #[.int .i64 (a : Int), .int .i64 (m : Int), .int .i64 (b : Int)]) ∧
      ((a = 0 ∧ m = 0 ∧ b = 0) ∨ (a = p ∧ s < m ∧ OkM c a m b)) ∧ (q + 1 = p → (∀ i, i < limN c p → byteN c.bs (q + i) = byteN c.bs (p + i)) → m = limN c p)) ∧ Keep noBlock w w' := by
  have hlim := limN_le c p hp
  have hn := h.ok.n
  have hm2 := h.ok.m2
  have hl2 := h.ok.l2
  have hlm : limN c p ≤ c.most := by unfold limN; omega
  obtain ⟨W0, hW0⟩ : ∃ W0, W0 = w.alloc (.cells #[.int .i64 0, .int .i64 0, .int .i64 0] 145) := ⟨_, rfl⟩
  have k0 : Keep noBlock w W0 := by rw [hW0]; exact (Keep.refl _ w).alloc _
  have h0 := h.still k0
  have c0 : W0.cell? ⟨c.sb, 0, none⟩ = some (.slice (some ⟨c.gb, c.off, none⟩) c.bs.length c.cap) := cell_of h0.obj 0
  have c5 : W0.cell? ⟨c.sb, 5, none⟩ = some (.int .i64 (p : Int)) := cell_of h0.obj 5
  obtain ⟨x, hx⟩ : ∃ x, x = byteN c.bs (q + s) := ⟨_, rfl⟩
  obtain ⟨y, hy⟩ : ∃ y, y = byteN c.bs (p + s) := ⟨_, rfl⟩
  obtain ⟨qs, hqs⟩ : ∃ qs, qs = q + s := ⟨_, rfl⟩
  obtain ⟨ps, hps⟩ : ∃ ps, ps = p + s := ⟨_, rfl⟩
  have hadd1 : (q : Int) + (s : Int) = (qs : Int) := by omega
  have hadd2 : (p : Int) + (s : Int) = (ps : Int) := by omega
  have e1 : W0.cell? ⟨c.gb, c.off + qs, none⟩ = some (.int .u8 (x : Int)) := by rw [hx, ← hqs]; exact h0.text.cells qs (by omega)
  have e2 : W0.cell? ⟨c.gb, c.off + ps, none⟩ = some (.int .u8 (y : Int)) := by rw [hy, ← hps]; exact h0.text.cells ps (by omega)
  have hqI : (qs : Int) < (c.bs.length : Int) := by omega
  have hpI : (ps : Int) < (c.bs.length : Int) := by omega
  have z0 : W0.heap[w.heap.size]? = some (.cells #[.int .i64 0, .int .i64 0, .int .i64 0] 145 (0, 0)) := by rw [hW0]; exact alloc_new w _
  have hgs : ∀ i, (⟨w.heap.size, i, none⟩ : Addr).block < w.heap.size → noBlock (⟨w.heap.size, i, none⟩ : Addr).block := fun i hi => absurd hi (Nat.lt_irrefl _)
  have z1 : W0.cell? ⟨w.heap.size, 0, none⟩ = some (.int .i64 0) := cell_of z0 0
  have z2 : W0.cell? ⟨w.heap.size, 1, none⟩ = some (.int .i64 0) := cell_of z0 1
  have z3 : W0.cell? ⟨w.heap.size, 2, none⟩ = some (.int .i64 0) := cell_of z0 2
  have y1 := frozen_of z0 0
  have y2 := frozen_of z0 1
  have y3 := frozen_of z0 2
  have HZ := (show Hid (Keep noBlock w W0 ∧ W0.heap[w.heap.size]? = some (.cells #[.int .i64 0, .int .i64 0, .int .i64 0] 145 (0, 0))) from ⟨k0, z0⟩)
  have HS := (show Hid (IsS W0 c p told vain p1 p2) from h0)
  by_cases hxy : x = y
  · have hne : ((x : Int) != (y : Int)) = false := by simp [hxy]
    obtain ⟨l, hle⟩ : ∃ l, l = limN c p := ⟨_, rfl⟩
    have HL := (show Hid (∀ m, Calls Tryz.prog 95 #[.pointer (some ⟨c.sb, 0, none⟩)] (W0.drewN m) fun e w' => e = .returned (.int .i64 (l : Int)) ∧ ∃ k, w' = (W0.drewN m).drewN k) from fun m => by rw [hle]; exact limit_any c p told vain p1 p2 _ (h0.drewN m) hp)
    rw [← hle] at hl hlim hlm ⊢
    obtain ⟨n, hnl⟩ := some_like c.bs q p l
    have hcap := h0.text.cap
    obtain ⟨ql, hql⟩ : ∃ ql, ql = q + l := ⟨_, rfl⟩
    obtain ⟨pl, hpl⟩ : ∃ pl, pl = p + l := ⟨_, rfl⟩
    have hadd3 : (q : Int) + (l : Int) = (ql : Int) := by omega
    have hadd4 : (p : Int) + (l : Int) = (pl : Int) := by omega
    have hsl1 := run_mid c.gb c.off c.bs.length c.cap q ql (by omega) (by omega)
    have hsl2 := run_mid c.gb c.off c.bs.length c.cap p pl (by omega) (by omega)
    rw [show ql - q = l from by omega] at hsl1
    rw [show pl - p = l from by omega] at hsl2
    have HA := (show Hid (∀ j m, Calls Tryz.prog 126 #[.slice (some ⟨c.gb, c.off + q, none⟩) l (c.cap - q), .slice (some ⟨c.gb, c.off + p, none⟩) l (c.cap - p)] ((W0.drewN j).drewN m) fun e w' => e = .returned (.int .i64 (n : Int)) ∧ w' = (W0.drewN j).drewN m) from
      fun j m => alike_is c.gb c.off c.cap (c.cap - q) (c.cap - p) q p l n c.bs _ ((h0.drewN j).drewN m).text (by omega) (by omega) hnl)
    have hnle := hnl.1
    have hql2 : IntKind.i64.wrap (ql : Int) = (ql : Int) := by rw [IntKind.wrap_i64]; omega
    have hpl2 : IntKind.i64.wrap (pl : Int) = (pl : Int) := by rw [IntKind.wrap_i64]; omega
    obtain ⟨bk, hbk⟩ : ∃ bk, bk = p - q := ⟨_, rfl⟩
    have hsub : (p : Int) - (q : Int) = (bk : Int) := by omega
    have HD := dear_any n bk
    have HO := (show Hid (s < n → OkM c p n bk) from fun hsn => ⟨by omega, by omega, by omega, by omega, by omega, by omega, fun i hi => by rw [show p - bk = q from by omega]; exact (hnl.2.1 i hi).symm⟩)
    have HF := (show Hid (q + 1 = p → (∀ i, i < l → byteN c.bs (q + i) = byteN c.bs (p + i)) → n = l ∧ bk = 1) from fun q1 q2 => by
      refine ⟨?_, by omega⟩
      by_cases e : n < l
      · exact absurd (q2 n e) (hnl.2.2 e)
      · omega)
    have HB := (show Hid (bk < 65536 ∧ n < 1000000 ∧ s < l ∧ 2 ≤ s + 1) from ⟨by omega, by omega, hl, by omega⟩)
    clear h h0 k0 z0 hx hy hqs hps hlim hlm hxy hl hle hql hpl hcap hbk hnl
    obtain ⟨g, hg⟩ : ∃ g, g = w.heap.size := ⟨_, rfl⟩
    have HG := (show Hid (w.heap.size ≤ g) from Nat.le_of_eq hg.symm)
    rw [← hg] at z1 z2 z3 y1 y2 y3 HZ
    generalize c.bs.length = nn at *
    generalize c.cap - q = cq at *
    generalize c.cap - p = cp at *
    go_enter Tryz.func99, Tryz.ntmps99
    go_wp2_with fail
    rw [← hW0, ← hg]
    clear hW0 hg
    go_quiet (fail)
    go_wp2_with fail
    refine (HL.out nq).mono ?_
    rintro e W1 ⟨rfl, k1, rfl⟩
    clear HL
    rw [World.drewN_drewN]
    generalize nq + k1 = j
    obtain ⟨W1, hW1⟩ : ∃ W1, W1 = W0.drewN j := ⟨_, rfl⟩
    have d0 : W1.cell? ⟨c.sb, 0, none⟩ = some (.slice (some ⟨c.gb, c.off, none⟩) nn c.cap) := by rw [hW1]; exact c0
    have d5 : W1.cell? ⟨c.sb, 5, none⟩ = some (.int .i64 (p : Int)) := by rw [hW1]; exact c5
    have u1 : W1.cell? ⟨g, 0, none⟩ = some (.int .i64 0) := by rw [hW1]; exact z1
    have u2 : W1.cell? ⟨g, 1, none⟩ = some (.int .i64 0) := by rw [hW1]; exact z2
    have u3 : W1.cell? ⟨g, 2, none⟩ = some (.int .i64 0) := by rw [hW1]; exact z3
    have t1 : W1.frozen? ⟨g, 0, none⟩ = false := by rw [hW1]; exact y1
    have t2 : W1.frozen? ⟨g, 1, none⟩ = false := by rw [hW1]; exact y2
    have t3 : W1.frozen? ⟨g, 2, none⟩ = false := by rw [hW1]; exact y3
    have HZ1 := (show Hid (Keep noBlock w W1 ∧ W1.heap[g]? = some (.cells #[.int .i64 0, .int .i64 0, .int .i64 0] 145 (0, 0))) from by rw [hW1]; exact ⟨HZ.out.1.trans' (keep_drewN W0 j), HZ.out.2⟩)
    have HA1 := (show Hid (∀ m, Calls Tryz.prog 126 #[.slice (some ⟨c.gb, c.off + q, none⟩) l cq, .slice (some ⟨c.gb, c.off + p, none⟩) l cp] (W1.drewN m) fun e w' => e = .returned (.int .i64 (n : Int)) ∧ w' = W1.drewN m) from by rw [hW1]; exact HA.out j)
    rw [← hW1]
    clear HA HZ c0 c5 z1 z2 z3 y1 y2 y3 e1 e2 hW1 HS
    go_wp2_with fail
    go_quiet (first | (go_at_call 126; refine Calls.quiet_of_same (HA1.out _)))
    by_cases hns : n ≤ s
    · have hnI : (n : Int) ≤ (s : Int) := by omega
      go_wp2_with fail
      refine bodyPost_ret (ret63 rfl _ _ g 145 _ rfl (put3 (W := W1.drewN nq) HZ1.out.2 _ _ _) rfl) rfl ?_
      exact ⟨⟨0, 0, 0, rfl, .inl ⟨rfl, rfl, rfl⟩, fun q1 q2 => absurd (HF.out q1 q2).1 (by have := HB.out; omega)⟩, keep3 (W := W1.drewN nq) (HZ1.out.1.trans' (keep_drewN W1 nq)) HG.out _ _ _⟩
    · have hnI : ¬ (n : Int) ≤ (s : Int) := by omega
      have HD1 := (show Hid (∀ W, Calls Tryz.prog 127 #[.int .i64 (n : Int), .int .i64 (bk : Int)] W fun e w' => (∃ d : Bool, e = .returned (.bool d) ∧ (bk = 1 → 2 ≤ n → d = false)) ∧ w' = W) from fun W => HD W HB.out.2.1 HB.out.1)
      clear HD
      go_wp2_with fail
      refine (HD1.out _).mono ?_
      rintro e W2 ⟨⟨d, rfl, hd⟩, rfl⟩
      cases d with
      | true =>
        have HD2 := (show Hid (bk = 1 → 2 ≤ n → False) from fun q1 q2 => absurd (hd q1 q2) (by decide))
        clear hd HD1
        go_wp2_with fail
        refine bodyPost_ret (ret63 rfl _ _ g 145 _ rfl (put3 (W := W1.drewN nq) HZ1.out.2 _ _ _) rfl) rfl ?_
        exact ⟨⟨0, 0, 0, rfl, .inl ⟨rfl, rfl, rfl⟩, fun q1 q2 => (HD2.out (HF.out q1 q2).2 (by have := HB.out; omega)).elim⟩, keep3 (W := W1.drewN nq) (HZ1.out.1.trans' (keep_drewN W1 nq)) HG.out _ _ _⟩
      | false =>
        clear hd HD1
        go_wp2_with fail
        go_region
        go_wp2_with fail
        refine bodyPost_ret (ret63 rfl _ _ g 145 _ rfl (put3 (W := W1.drewN (nq + 1)) HZ1.out.2 _ _ _) rfl) rfl ?_
        exact ⟨⟨p, n, bk, rfl, .inr ⟨rfl, by omega, HO.out (by omega)⟩, fun q1 q2 => (HF.out q1 q2).1⟩, keep3 (W := W1.drewN (nq + 1)) (HZ1.out.1.trans' (keep_drewN W1 (nq + 1))) HG.out _ _ _⟩
  · have hne : ((x : Int) != (y : Int)) = true := by rw [bne_iff_ne]; omega
    have HN := (show Hid (q + 1 = p → (∀ i, i < limN c p → byteN c.bs (q + i) = byteN c.bs (p + i)) → 0 = limN c p) from fun _ hh => absurd (hh s hl) (by rw [← hx, ← hy]; exact hxy))
    clear h h0 k0 z0 hx hy hqs hps hlim hlm hxy hl
    generalize c.bs.length = n at *
    obtain ⟨g, hg⟩ : ∃ g, g = w.heap.size := ⟨_, rfl⟩
    have HG := (show Hid (w.heap.size ≤ g) from Nat.le_of_eq hg.symm)
    rw [← hg] at z1 z2 z3 y1 y2 y3 HZ
    go_enter Tryz.func99, Tryz.ntmps99
    go_wp2_with fail
    rw [← hW0, ← hg]
    clear hW0 hg
    go_quiet (fail)
    go_wp2_with fail
    refine bodyPost_ret (ret63 rfl _ _ g 145 _ rfl (put3 (W := W0.drewN nq) HZ.out.2 _ _ _) rfl) rfl ?_
    exact ⟨⟨0, 0, 0, rfl, .inl ⟨rfl, rfl, rfl⟩, HN.out⟩, keep3 (W := W0.drewN nq) (HZ.out.1.trans' (keep_drewN W0 nq)) HG.out _ _ _⟩
end
end Go.Proofs.YtnokemcogjoonaaGreatDoor.Fd

namespace Go.Proofs.YtnokemcogjoonaaGreatDoor.Fd
open Go.RowKit Go.Shelf
set_option linter.unusedVariables false

set_option maxRecDepth 100000 in
set_option maxHeartbeats 1000000 in
/-- mark: a key, and whether it is one; if so the whole of it is there. -/
theorem mark_any (c : Cf) (p told vain p1 p2 : Nat) (w : World) (h : IsS w c p told vain p1 p2) (hp : p2 ≤ c.bs.length) :
    Calls Tryz.prog 93 #[.pointer (some ⟨c.sb, 16, none⟩)] w fun e w' => (∃ (ky : Nat) (d : Bool), e = .returned (.tuple #[.int .u64 (ky : Int), .bool d]) ∧ ky < 18446744073709551616 ∧ (d = true → p2 + c.far ≤ c.bs.length)) ∧ ∃ k, w' = w.drewN k := by
  have hn := h.ok.n
  have hm := h.ok.m2
  have hl3 := h.ok.l3
  have hf : c.far ≤ 65536 := by unfold Cf.far; omega
  have c16 : w.cell? ⟨c.sb, 16, none⟩ = some (.slice (some ⟨c.gb, c.off, none⟩) c.bs.length c.cap) := cell_of h.obj 16
  have c17 : w.cell? ⟨c.sb, 17, none⟩ = some (.int .i64 (p2 : Int)) := cell_of h.obj 17
  have c18 : w.cell? ⟨c.sb, 18, none⟩ = some (.int .i64 (c.far : Int)) := cell_of h.obj 18
  have c19 : w.cell? ⟨c.sb, 19, none⟩ = some (.int .u64 ((sumN c.bs c.far p2 : Nat) : Int)) := cell_of h.obj 19
  have HK := key_any c.sb 16 (some ⟨c.gb, c.off, none⟩) c.bs.length c.cap p2 c.far (sumN c.bs c.far p2) w c16 c17 c18 c19 (by omega) (by omega)
  obtain ⟨ky, hky⟩ : ∃ ky, ky = keyN (sumN c.bs c.far p2) := ⟨_, rfl⟩
  rw [← hky] at HK
  have HKL := (show Hid (ky < 18446744073709551616) from by rw [hky]; exact keyN_lt _)
  clear h c16 c17 c18 c19 hky
  by_cases hin : p2 + c.far ≤ c.bs.length
  · rw [decide_eq_true hin] at HK
    have HI := (show Hid (p2 + c.far ≤ c.bs.length) from hin)
    clear hin
    go_enter Tryz.func93, Tryz.ntmps93
    go_wp2_with fail
    refine HK.mono ?_
    rintro e w1 ⟨rfl, k1, rfl⟩
    clear HK
    go_wp2_with fail
    go_ret2
    exact ⟨⟨ky, _, rfl, HKL.out, fun _ => HI.out⟩, _, rfl⟩
  · rw [decide_eq_false hin] at HK
    clear hin
    go_enter Tryz.func93, Tryz.ntmps93
    go_wp2_with fail
    refine HK.mono ?_
    rintro e w1 ⟨rfl, k1, rfl⟩
    clear HK
    go_wp2_with fail
    go_ret2
    exact ⟨⟨ky, false, rfl, HKL.out, fun h => absurd h (by decide)⟩, _, rfl⟩

set_option maxRecDepth 100000 in
set_option maxHeartbeats 1000000 in
theorem place_any (c : Cf) (p told vain p1 p2 : Nat) (w : World) (h : IsS w c p told vain p1 p2) (hp : p2 ≤ c.bs.length) :
    Calls Tryz.prog 125 #[.pointer (some ⟨c.sb, 16, none⟩)] w fun e w' => (∃ v : Nat, e = .returned (.int .i64 ((v : Int) - 1)) ∧ v ≤ p2 ∧ (1 ≤ v → p2 + c.far ≤ c.bs.length)) ∧ ∃ k, w' = w.drewN k := by
  have hn := h.ok.n
  have c21 : w.cell? ⟨c.sb, 21, none⟩ = some (.map (some c.mb)) := cell_of h.obj 21
  have HM := mark_any c p told vain p1 p2 w h hp
  have HL := (show Hid (∀ ky : Nat, ky < 18446744073709551616 → ∀ k : Nat, ∃ v : Nat, v ≤ p2 ∧ (Instr.lookup 137 (.map (some c.mb)) (.int .u64 (ky : Int)) false).run Tryz.prog (w.drewN k) = .ok (.int .i32 (v : Int)) (w.drewN k)) from
    fun ky hky k => (h.drewN k).map.look ky hky)
  clear h
  go_enter Tryz.func125, Tryz.ntmps125
  go_wp2_with fail
  refine HM.mono ?_
  rintro e w1 ⟨⟨ky, d, rfl, hky, hd⟩, k1, rfl⟩
  clear HM
  obtain ⟨v, hv, hrun⟩ := HL.out ky hky k1
  have HV := (show Hid (v ≤ p2 ∧ (d = true → p2 + c.far ≤ c.bs.length)) from ⟨hv, hd⟩)
  have hv2 : v < 65536 := by omega
  clear HL hky hd hv
  cases d with
  | true =>
    go_wp2_with fail
    go_ret
    exact ⟨⟨v, rfl, HV.out.1, fun _ => HV.out.2 trivial⟩, _, rfl⟩
  | false =>
    go_wp2_with fail
    go_ret
    exact ⟨⟨0, rfl, Nat.zero_le _, fun h => absurd h (by omega)⟩, _, rfl⟩
end Go.Proofs.YtnokemcogjoonaaGreatDoor.Fd

namespace Go.Proofs.YtnokemcogjoonaaGreatDoor.Fd
open Go.RowKit Go.Shelf
set_option linter.unusedVariables false

set_option maxRecDepth 100000 in
set_option maxHeartbeats 2000000 in
theorem marked_any (c : Cf) (p told vain : Nat) (w : World) (h : IsS w c p told vain p p) (hp : p ≤ c.bs.length) :
    Calls Tryz.prog 94 #[.pointer (some ⟨c.sb, 0, none⟩)] w fun e w' => (∃ a m b : Nat, e = .returned (.agg #[.int .i64 (a : Int), .int .i64 (m : Int), .int .i64 (b : Int)]) ∧
      ((a = 0 ∧ m = 0 ∧ b = 0) ∨ (a = p ∧ OkM c a m b))) ∧ Keep noBlock w w' := by
  have hn := h.ok.n
  have hl2 := h.ok.l2
  have hl3 := h.ok.l3
  have hm2 := h.ok.m2
  obtain ⟨g, hg⟩ : ∃ g, g = w.heap.size := ⟨_, rfl⟩
  obtain ⟨W0, hW0⟩ : ∃ W0, W0 = w.alloc (.cells #[.int .i64 0, .int .i64 0, .int .i64 0] 145) := ⟨_, rfl⟩
  have k0 : Keep noBlock w W0 := by rw [hW0]; exact (Keep.refl _ w).alloc _
  have h0 := h.still k0
  have z0 : W0.heap[g]? = some (.cells #[.int .i64 0, .int .i64 0, .int .i64 0] 145 (0, 0)) := by rw [hW0, hg]; exact alloc_new w _
  have HP := place_any c p told vain p p W0 h0 hp
  have HS := (show Hid (IsS W0 c p told vain p p ∧ Keep noBlock w W0 ∧ W0.heap[g]? = some (.cells #[.int .i64 0, .int .i64 0, .int .i64 0] 145 (0, 0)) ∧ w.heap.size ≤ g) from ⟨h0, k0, z0, Nat.le_of_eq hg.symm⟩)
  have HW := (show Hid (2 ≤ c.least ∧ c.least ≤ c.most ∧ c.least ≤ c.far) from ⟨hl2, hl3, by unfold Cf.far; omega⟩)
  clear h h0 k0 z0
  go_enter Tryz.func94, Tryz.ntmps94
  go_wp2_with fail
  rw [← hW0, ← hg]
  clear hW0 hg
  refine HP.mono ?_
  rintro e W1 ⟨⟨v, rfl, hv, hv1⟩, k1, rfl⟩
  clear HP
  have S1 := HS.out.1.drewN k1
  by_cases h0 : v = 0
  · subst h0
    have HR := reaches_neg c p told vain p p (((0 : Nat) : Int) - 1) (W0.drewN k1) S1 (by omega)
    have kk := HS.out.2.1.trans' (keep_drewN W0 k1)
    have z1 : (W0.drewN k1).heap[g]? = some (.cells #[.int .i64 0, .int .i64 0, .int .i64 0] 145 (0, 0)) := HS.out.2.2.1
    generalize W0.drewN k1 = W1 at *
    go_wp2_with fail
    refine HR.mono ?_
    rintro e W2 ⟨rfl, k2, rfl⟩
    clear HR
    have HK := (show Hid (Keep noBlock w (W1.drewN k2) ∧ (W1.drewN k2).heap[g]? = some (.cells #[.int .i64 0, .int .i64 0, .int .i64 0] 145 (0, 0))) from ⟨kk.trans' (keep_drewN W1 k2), z1⟩)
    clear kk z1 S1
    generalize W1.drewN k2 = W2 at *
    have u1 : W2.cell? ⟨g, 0, none⟩ = some (.int .i64 0) := cell_of HK.out.2 0
    have u2 : W2.cell? ⟨g, 1, none⟩ = some (.int .i64 0) := cell_of HK.out.2 1
    have u3 : W2.cell? ⟨g, 2, none⟩ = some (.int .i64 0) := cell_of HK.out.2 2
    have t1 := frozen_of HK.out.2 0
    have t2 := frozen_of HK.out.2 1
    have t3 := frozen_of HK.out.2 2
    go_wp2_with fail
    refine bodyPost_ret (ret63 rfl _ _ g 145 _ rfl (put3 HK.out.2 _ _ _) rfl) rfl ?_
    exact ⟨⟨0, 0, 0, rfl, .inl ⟨rfl, rfl, rfl⟩⟩, keep3 HK.out.1 HS.out.2.2.2 _ _ _⟩
  · obtain ⟨q, rfl⟩ : ∃ q, v = q + 1 := ⟨v - 1, by omega⟩
    have hv2 := hv1 (by omega)
    have e : (((q + 1 : Nat) : Int) - 1) = (q : Int) := by omega
    rw [e]
    have HR := reaches_pos c p told vain p p q (W0.drewN k1) S1 (by omega) (by omega)
    have kk := HS.out.2.1.trans' (keep_drewN W0 k1)
    have z1 : (W0.drewN k1).heap[g]? = some (.cells #[.int .i64 0, .int .i64 0, .int .i64 0] 145 (0, 0)) := HS.out.2.2.1
    have HQ := (show Hid (q < p ∧ p + c.far ≤ c.bs.length) from ⟨by omega, hv2⟩)
    have HG := (show Hid (w.heap.size ≤ g) from HS.out.2.2.2)
    clear HS
    generalize W0.drewN k1 = W1 at *
    clear hv hv1 hv2 e h0
    by_cases hr : p - q ≤ c.window
    · rw [decide_eq_true hr] at HR
      go_wp2_with fail
      refine HR.mono ?_
      rintro e W2 ⟨rfl, k2, rfl⟩
      clear HR
      have HK := (show Hid (Keep noBlock w (W1.drewN k2) ∧ (W1.drewN k2).heap[g]? = some (.cells #[.int .i64 0, .int .i64 0, .int .i64 0] 145 (0, 0))) from ⟨kk.trans' (keep_drewN W1 k2), z1⟩)
      have S2 := S1.drewN k2
      generalize W1.drewN k2 = W2 at *
      obtain ⟨l1, hl1⟩ : ∃ l1, l1 = c.least - 1 := ⟨_, rfl⟩
      have hsub : (c.least : Int) - 1 = (l1 : Int) := by omega
      have c3 : W2.cell? ⟨c.sb, 3, none⟩ = some (.int .i64 (c.least : Int)) := cell_of S2.obj 3
      have HWI := with_any c p told vain p p q l1 W2 S2 hp HQ.out.1 hr (by omega) (by have := HW.out; have := HQ.out; unfold limN; omega)
      clear kk z1 S1 S2 hl1 hr
      go_wp2_with fail
      refine HWI.mono ?_
      rintro e W3 ⟨⟨a, m, b, rfl, hab, -⟩, k3⟩
      clear HWI
      have HK3 := (show Hid (Keep noBlock w W3 ∧ W3.heap[g]? = some (.cells #[.int .i64 0, .int .i64 0, .int .i64 0] 145 (0, 0))) from ⟨HK.out.1.trans' k3, k3.obj HK.out.2 (fun h => h)⟩)
      have HAB := (show Hid ((a = 0 ∧ m = 0 ∧ b = 0) ∨ (a = p ∧ OkM c a m b)) from hab.imp id (fun h => ⟨h.1, h.2.2⟩))
      clear hab k3 HK
      have u1 : W3.cell? ⟨g, 0, none⟩ = some (.int .i64 0) := cell_of HK3.out.2 0
      have u2 : W3.cell? ⟨g, 1, none⟩ = some (.int .i64 0) := cell_of HK3.out.2 1
      have u3 : W3.cell? ⟨g, 2, none⟩ = some (.int .i64 0) := cell_of HK3.out.2 2
      have t1 := frozen_of HK3.out.2 0
      have t2 := frozen_of HK3.out.2 1
      have t3 := frozen_of HK3.out.2 2
      go_wp2_with fail
      refine bodyPost_ret (ret63 rfl _ _ g 145 _ rfl (put3 HK3.out.2 _ _ _) rfl) rfl ?_
      exact ⟨⟨a, m, b, rfl, HAB.out⟩, keep3 HK3.out.1 HG.out _ _ _⟩
    · rw [decide_eq_false hr] at HR
      go_wp2_with fail
      refine HR.mono ?_
      rintro e W2 ⟨rfl, k2, rfl⟩
      clear HR
      have HK := (show Hid (Keep noBlock w (W1.drewN k2) ∧ (W1.drewN k2).heap[g]? = some (.cells #[.int .i64 0, .int .i64 0, .int .i64 0] 145 (0, 0))) from ⟨kk.trans' (keep_drewN W1 k2), z1⟩)
      clear kk z1 S1 hr
      generalize W1.drewN k2 = W2 at *
      have u1 : W2.cell? ⟨g, 0, none⟩ = some (.int .i64 0) := cell_of HK.out.2 0
      have u2 : W2.cell? ⟨g, 1, none⟩ = some (.int .i64 0) := cell_of HK.out.2 1
      have u3 : W2.cell? ⟨g, 2, none⟩ = some (.int .i64 0) := cell_of HK.out.2 2
      have t1 := frozen_of HK.out.2 0
      have t2 := frozen_of HK.out.2 1
      have t3 := frozen_of HK.out.2 2
      go_wp2_with fail
      refine bodyPost_ret (ret63 rfl _ _ g 145 _ rfl (put3 HK.out.2 _ _ _) rfl) rfl ?_
      exact ⟨⟨0, 0, 0, rfl, .inl ⟨rfl, rfl, rfl⟩⟩, keep3 HK.out.1 HG.out _ _ _⟩
end Go.Proofs.YtnokemcogjoonaaGreatDoor.Fd

namespace Go.Proofs.YtnokemcogjoonaaGreatDoor.Fd
open Go.RowKit Go.Shelf
set_option linter.unusedVariables false

theorem and_low (p r : Nat) (hp : p < 1000000) (hr : r ≤ 16) : bits .and .i64 (p : Int) ((2 ^ r - 1 : Nat) : Int) = ((p % 2 ^ r : Nat) : Int) := by
  have hpos : 0 < 2 ^ r := Nat.pow_pos (by omega)
  have hple : 2 ^ r ≤ 65536 := Nat.pow_le_pow_right (n := 2) (by omega) hr
  have hm : p % 2 ^ r < 2 ^ r := Nat.mod_lt _ hpos
  show IntKind.i64.wrap ((BitVec.ofInt 64 (p : Int) &&& BitVec.ofInt 64 ((2 ^ r - 1 : Nat) : Int)).toNat : Int) = _
  rw [BitVec.toNat_and, ofInt_u64 p (by omega), ofInt_u64 _ (by omega), Nat.and_two_pow_sub_one_eq_mod, IntKind.wrap_i64]
  omega

set_option maxRecDepth 100000 in
set_option maxHeartbeats 1000000 in
theorem head_any (c : Cf) (p told vain p2 : Nat) (w : World) (h : IsS w c p told vain p p2) (hp : p ≤ c.bs.length) :
    Calls Tryz.prog 96 #[.pointer (some ⟨c.sb, 8, none⟩)] w fun e w' => (∃ v : Nat, e = .returned (.int .i64 ((v : Int) - 1)) ∧ v ≤ p ∧ (1 ≤ v → p + c.least ≤ c.bs.length) ∧ (1 ≤ p → p + c.least ≤ c.bs.length → (∀ i, i < c.least → byteN c.bs (p - 1 + i) = byteN c.bs (p + i)) → v = p)) ∧ ∃ k, w' = w.drewN k := by
  have hn := h.ok.n
  have hm := h.ok.m2
  have hl3 := h.ok.l3
  have h1 := h.ok.h1
  have h2 := h.ok.h2
  have c8 : w.cell? ⟨c.sb, 8, none⟩ = some (.slice (some ⟨c.gb, c.off, none⟩) c.bs.length c.cap) := cell_of h.obj 8
  have c9 : w.cell? ⟨c.sb, 9, none⟩ = some (.int .i64 (p : Int)) := cell_of h.obj 9
  have c10 : w.cell? ⟨c.sb, 10, none⟩ = some (.int .i64 (c.least : Int)) := cell_of h.obj 10
  have c11 : w.cell? ⟨c.sb, 11, none⟩ = some (.int .u64 ((sumN c.bs c.least p : Nat) : Int)) := cell_of h.obj 11
  have c13 : w.cell? ⟨c.sb, 13, none⟩ = some (.int .i64 ((64 - c.hk : Nat) : Int)) := cell_of h.obj 13
  have c14 : w.cell? ⟨c.sb, 14, none⟩ = some (.slice (some ⟨c.hb, 0, none⟩) (2 ^ c.hk) (2 ^ c.hk)) := cell_of h.obj 14
  have HK := key_any c.sb 8 (some ⟨c.gb, c.off, none⟩) c.bs.length c.cap p c.least (sumN c.bs c.least p) w c8 c9 c10 c11 (by omega) (by omega)
  obtain ⟨hs, os, T⟩ := h.tabs
  by_cases hin : p + c.least ≤ c.bs.length
  · rw [decide_eq_true hin] at HK
    rw [sumN_in c.bs c.least p hin] at HK
    obtain ⟨ky, hky⟩ : ∃ ky, ky = keyN (hashN c.bs p c.least) := ⟨_, rfl⟩
    rw [← hky] at HK
    have hkl : ky < 18446744073709551616 := by rw [hky]; exact keyN_lt _
    obtain ⟨j, hj⟩ : ∃ j, j = ky / 2 ^ (64 - c.hk) := ⟨_, rfl⟩
    have hjl : j < 2 ^ c.hk := by
      rw [hj]
      refine Nat.div_lt_of_lt_mul ?_
      rw [← Nat.pow_add, show 64 - c.hk + c.hk = 64 from by omega]; exact hkl
    have hjI : (j : Int) < ((2 ^ c.hk : Nat) : Int) := by omega
    have hsh : (ky : Int) / 2 ^ (64 - c.hk) = (j : Int) := by rw [hj]; norm_cast
    obtain ⟨v, hv⟩ : ∃ v, v = hs[j]?.getD 0 := ⟨_, rfl⟩
    have hc : w.cell? ⟨c.hb, j, none⟩ = some (.int .i32 (v : Int)) := by
      rw [cell_of T.heads j, hv, List.getElem?_toArray]; exact i32s_at hs j (by rw [T.hl]; exact hjl)
    have hvp : v ≤ p := by rw [hv]; exact T.hle j
    have HV := (show Hid (1 ≤ p → p + c.least ≤ c.bs.length → (∀ i, i < c.least → byteN c.bs (p - 1 + i) = byteN c.bs (p + i)) → v = p) from fun q1 q2 q3 => by
      have := T.last q1 (by omega)
      rw [show hashN c.bs (p - 1) c.least = hashN c.bs p c.least from by unfold hashN; rw [hashZ_same c.bs (p - 1) p c.least q3], ← hky, ← hj, ← hv] at this
      exact this)
    have hkk : 64 - c.hk < 64 := by omega
    have HI := (show Hid (p + c.least ≤ c.bs.length) from hin)
    generalize 64 - c.hk = sh at *
    generalize 2 ^ c.hk = hn2 at *
    clear h T c8 c9 c10 c11 hky hkl hj hv hjl hin
    go_enter Tryz.func96, Tryz.ntmps96
    go_wp2_with fail
    refine HK.mono ?_
    rintro e w1 ⟨rfl, k1, rfl⟩
    clear HK
    go_wp2_with fail
    go_quiet (fail)
    go_wp2_with fail
    go_ret
    exact ⟨⟨v, rfl, hvp, fun _ => HI.out, HV.out⟩, _, World.drewN_drewN _ _ _⟩
  · rw [decide_eq_false hin] at HK
    have HI := (show Hid (¬ p + c.least ≤ c.bs.length) from hin)
    clear h T c8 c9 c10 c11 hin
    go_enter Tryz.func96, Tryz.ntmps96
    go_wp2_with fail
    refine HK.mono ?_
    rintro e w1 ⟨rfl, k1, rfl⟩
    clear HK
    go_wp2_with fail
    go_ret
    exact ⟨⟨0, rfl, Nat.zero_le _, fun h => absurd h (by omega), fun _ h => absurd h HI.out⟩, _, rfl⟩

set_option maxRecDepth 100000 in
set_option maxHeartbeats 1000000 in
theorem ahead_any (c : Cf) (p told vain p2 q : Nat) (w : World) (h : IsS w c p told vain p p2) (hp : p ≤ c.bs.length) (hq : q ≤ p) :
    Calls Tryz.prog 100 #[.pointer (some ⟨c.sb, 8, none⟩), .int .i64 (q : Int)] w fun e w' => (∃ v : Nat, e = .returned (.int .i64 ((v : Int) - 1)) ∧ v ≤ p) ∧ ∃ k, w' = w.drewN k := by
  have hn := h.ok.n
  have hr := h.ok.r2
  have c15 : w.cell? ⟨c.sb, 15, none⟩ = some (.slice (some ⟨c.ob, 0, none⟩) (2 ^ c.rk) (2 ^ c.rk)) := cell_of h.obj 15
  obtain ⟨hs, os, T⟩ := h.tabs
  obtain ⟨j, hj⟩ : ∃ j, j = q % 2 ^ c.rk := ⟨_, rfl⟩
  have hpos : 0 < 2 ^ c.rk := Nat.pow_pos (by omega)
  have hple : 2 ^ c.rk ≤ 65536 := Nat.pow_le_pow_right (n := 2) (by omega) hr
  have hjl : j < 2 ^ c.rk := by rw [hj]; exact Nat.mod_lt _ hpos
  have hand := and_low q c.rk (by omega) hr
  rw [← hj] at hand
  obtain ⟨r1, hr1⟩ : ∃ r1, r1 = 2 ^ c.rk - 1 := ⟨_, rfl⟩
  rw [← hr1] at hand
  obtain ⟨v, hv⟩ : ∃ v, v = os[j]?.getD 0 := ⟨_, rfl⟩
  have hc : w.cell? ⟨c.ob, j, none⟩ = some (.int .i32 (v : Int)) := by
    rw [cell_of T.older j, hv, List.getElem?_toArray]; exact i32s_at os j (by rw [T.ol]; exact hjl)
  have hvp : v ≤ p := by rw [hv]; exact T.ole j
  have ho := T.ol
  clear h T hj hv
  generalize 2 ^ c.rk = r at *
  have hsub : (r : Int) - 1 = (r1 : Int) := by omega
  have hjI : (j : Int) < (r : Int) := by omega
  clear hr1 ho
  go_enter Tryz.func100, Tryz.ntmps100
  go_wp2_with fail
  go_quiet (fail)
  go_wp2_with fail
  go_ret
  exact ⟨⟨v, rfl, hvp⟩, _, rfl⟩
end Go.Proofs.YtnokemcogjoonaaGreatDoor.Fd
