/-
  A search, as it lies: its fields, its two tables, its map, its text.
-/
import Derived.Test.YtlpibfonpfhakaaDoorRoll
import Derived.Maps.OwnOps
import Derived.Maps.Views
namespace Go.Proofs.YtlpibfonpfhakaaDoor
open Go.RowKit Go.Shelf Go.Maps
set_option linter.unusedVariables false

/-- Numbers of 32 bits, as values. -/
def i32s (xs : List Nat) : List Value := xs.map (fun b => Value.int .i32 ((b : Nat) : Int))
theorem i32s_length (xs : List Nat) : (i32s xs).length = xs.length := by simp [i32s]
theorem i32s_at (xs : List Nat) (j : Nat) (hj : j < xs.length) : (i32s xs)[j]? = some (.int .i32 ((xs[j]?.getD 0 : Nat) : Int)) := by simp [i32s, hj]
theorem i32s_set (xs : List Nat) (j x : Nat) : (i32s xs).toArray.setIfInBounds j (.int .i32 (x : Int)) = (i32s (xs.set j x)).toArray := by simp [i32s, List.map_set]

theorem keys48 : Keyed Tryd.prog 48 := int_keyed Tryd.underlying48
theorem zero21 (w : World) : (zeroValue 21).run Tryd.prog w = .ok (.int .i32 0) w := by kernel_rfl

/-- Block mb is a map whose elements are from 0 to p, and of at most p entries. -/
def MapOK (w : World) (mb p : Nat) : Prop :=
  ∃ D : DataW Unit, w.ownsMap Tryd.prog 48 (plainElem Tryd.prog 21) mb p D ∧ IsMap D ∧ ∀ kl c, D.atKey kl (.lit (.int .i32 0)) = .lit (.int .i32 c) → 0 ≤ c ∧ c ≤ (p : Int)
theorem MapOK.lt {w : World} {mb p : Nat} (h : MapOK w mb p) : mb < w.heap.size := by
  obtain ⟨D, h1, _⟩ := h
  exact h1.lt
theorem MapOK.block {w w' : World} {mb p : Nat} (h : MapOK w mb p) (hb : w'.heap[mb]? = w.heap[mb]?) : MapOK w' mb p := by
  obtain ⟨D, ⟨es, cl, h1, h2, h3, h4⟩, h5, h6⟩ := h
  exact ⟨D, ⟨es, cl, hb.trans h1, h2, h3, h4⟩, h5, h6⟩
theorem MapOK.keep {w w' : World} {S : Nat → Prop} {mb p : Nat} (h : MapOK w mb p) (hk : Keep S w w') (hS : ¬ S mb) : MapOK w' mb p :=
  h.block (hk.block mb h.lt hS)
theorem wf_u64 (k : Nat) (hk : k < 18446744073709551616) : (Lit.int .u64 (k : Int)).wf = true := by
  simp [Lit.wf, IntKind.min, IntKind.max, IntKind.signed, IntKind.bits]; omega
theorem MapOK.look {w : World} {mb p : Nat} (h : MapOK w mb p) (k : Nat) (hk : k < 18446744073709551616) :
    ∃ c : Nat, c ≤ p ∧ (Instr.lookup 55 (.map (some mb)) (.int .u64 (k : Int)) false).run Tryd.prog w = .ok (.int .i32 (c : Int)) w := by
  obtain ⟨D, h1, h2, h3⟩ := h
  obtain ⟨c, hr, hat, _⟩ := h1.lookup_int keys48 Tryd.underlying55 Tryd.underlying21 (zero21 w) (keyOf_int_mk Tryd.underlying48 (wf_u64 k hk))
  obtain ⟨q1, q2⟩ := h3 _ _ hat
  refine ⟨c.toNat, by omega, ?_⟩
  rw [hr, Int.toNat_of_nonneg q1]
theorem MapOK.store {w : World} {mb p : Nat} (h : MapOK w mb p) (hp : p < 1000000) (k : Nat) (hk : k < 18446744073709551616) :
    ∃ w', (Instr.mapUpdate 55 (.map (some mb)) (.int .u64 (k : Int)) (.int .i32 ((p + 1 : Nat) : Int))).run Tryd.prog w = .ok () w' ∧ MapOK w' mb (p + 1) ∧ Keep (fun k => k = mb) w w' := by
  obtain ⟨D, h1, h2, h3⟩ := h
  have hw : (Lit.int .i32 ((p + 1 : Nat) : Int)).wf = true := by simp [Lit.wf, IntKind.min, IntKind.max, IntKind.signed, IntKind.bits]; omega
  obtain ⟨w', hr, ho, hg⟩ := h1.update keys48 Tryd.underlying55 (by unfold maxLen; omega) (keyOf_int_mk Tryd.underlying48 (wf_u64 k hk)) (plainElem_int Tryd.underlying21 hw)
  refine ⟨w', hr, ⟨_, ho, h2.put _ _, fun kl c hc => ?_⟩, (Keep.refl _ w).grown hg (fun k e _ => by cases e; rfl)⟩
  by_cases e : kl = .int .u64 (k : Int)
  · subst e
    rw [atKey_put_same h2 (by trivial)] at hc
    simp only [DataW.lit.injEq, Lit.int.injEq, true_and] at hc
    omega
  · rw [atKey_put_other e] at hc
    have := h3 kl c hc
    omega

/-- What does not change of a search. -/
structure Cf where
  sb : Nat
  hb : Nat
  ob : Nat
  mb : Nat
  gb : Nat
  off : Nat
  cap : Nat
  bs : List Nat
  depth : Nat
  window : Nat
  least : Nat
  most : Nat
  hk : Nat
  rk : Nat
/-- How long a mark is. -/
def Cf.far (c : Cf) : Nat := max 32 c.least
/-- The cells of a search. -/
def srch (c : Cf) (p told vain p1 p2 : Nat) : Array Value :=
  #[.slice (some ⟨c.gb, c.off, none⟩) c.bs.length c.cap, .int .i64 (c.depth : Int), .int .i64 (c.window : Int), .int .i64 (c.least : Int), .int .i64 (c.most : Int), .int .i64 (p : Int), .int .i64 (told : Int), .int .i64 (vain : Int),
    .slice (some ⟨c.gb, c.off, none⟩) c.bs.length c.cap, .int .i64 (p1 : Int), .int .i64 (c.least : Int), .int .u64 ((sumN c.bs c.least p1 : Nat) : Int), .int .u64 ((leadM c.bs c.least : Nat) : Int), .int .i64 ((64 - c.hk : Nat) : Int), .slice (some ⟨c.hb, 0, none⟩) (2 ^ c.hk) (2 ^ c.hk), .slice (some ⟨c.ob, 0, none⟩) (2 ^ c.rk) (2 ^ c.rk),
    .slice (some ⟨c.gb, c.off, none⟩) c.bs.length c.cap, .int .i64 (p2 : Int), .int .i64 (c.far : Int), .int .u64 ((sumN c.bs c.far p2 : Nat) : Int), .int .u64 ((leadM c.bs c.far : Nat) : Int), .map (some c.mb)]
/-- Its bounds. -/
structure Ok (c : Cf) : Prop where
  n2 : 2 ≤ c.bs.length
  n : c.bs.length < 65536
  w1 : 1 ≤ c.window
  w2 : c.window ≤ 16777216
  l2 : 2 ≤ c.least
  l3 : c.least ≤ c.most
  m2 : c.most ≤ 65536
  d2 : c.depth ≤ 64
  h1 : 6 ≤ c.hk
  h2 : c.hk ≤ 18
  r2 : c.rk ≤ 16
  sh : c.sb ≠ c.hb
  so : c.sb ≠ c.ob
  sm : c.sb ≠ c.mb
  sg : c.sb ≠ c.gb
  ho : c.hb ≠ c.ob
  hm : c.hb ≠ c.mb
  hg : c.hb ≠ c.gb
  om : c.ob ≠ c.mb
  og : c.ob ≠ c.gb
  mg : c.mb ≠ c.gb
/-- The blocks that a search may write. -/
def mine (c : Cf) (k : Nat) : Prop := k = c.sb ∨ k = c.hb ∨ k = c.ob ∨ k = c.mb
/-- The last place that was put into its chain stands at the chain's head. -/
def Last (c : Cf) (hs : List Nat) (p1 : Nat) : Prop := 1 ≤ p1 → p1 - 1 + c.least ≤ c.bs.length → hs[keyN (hashN c.bs (p1 - 1) c.least) / 2 ^ (64 - c.hk)]?.getD 0 = p1
/-- The two tables of a search that has gone through p1 places. -/
structure Tabs (w : World) (c : Cf) (hs os : List Nat) (p1 : Nat) : Prop where
  heads : w.heap[c.hb]? = some (.cells (i32s hs).toArray 21 (0, 0))
  hl : hs.length = 2 ^ c.hk
  hle : ∀ j : Nat, hs[j]?.getD 0 ≤ p1
  last : Last c hs p1
  older : w.heap[c.ob]? = some (.cells (i32s os).toArray 21 (0, 0))
  ol : os.length = 2 ^ c.rk
  ole : ∀ j : Nat, os[j]?.getD 0 ≤ p1
theorem Tabs.keep {w w' : World} {S : Nat → Prop} {c : Cf} {hs os : List Nat} {p1 : Nat} (h : Tabs w c hs os p1) (hk : Keep S w w') (h1 : ¬ S c.hb) (h2 : ¬ S c.ob) : Tabs w' c hs os p1 :=
  ⟨hk.obj h.heads h1, h.hl, h.hle, h.last, hk.obj h.older h2, h.ol, h.ole⟩
/-- Block sb is a search: its place, what is told, what was searched in vain, the places of its two rolls. -/
structure IsS (w : World) (c : Cf) (p told vain p1 p2 : Nat) : Prop where
  ok : Ok c
  obj : w.heap[c.sb]? = some (.cells (srch c p told vain p1 p2) 60 (0, 0))
  tabs : ∃ hs os, Tabs w c hs os p1
  map : MapOK w c.mb p2
  text : Bytes w (some ⟨c.gb, c.off, none⟩) c.cap c.gb c.off c.bs
theorem IsS.keep {w w' : World} {S : Nat → Prop} {c : Cf} {p told vain p1 p2 : Nat} (h : IsS w c p told vain p1 p2) (hk : Keep S w w') (h1 : ¬ S c.sb) (h2 : ¬ S c.hb) (h3 : ¬ S c.ob) (h4 : ¬ S c.mb) (h5 : ¬ S c.gb) : IsS w' c p told vain p1 p2 := by
  obtain ⟨ok, obj, ⟨hs, os, t⟩, m, b⟩ := h
  exact ⟨ok, hk.obj obj h1, ⟨hs, os, t.keep hk h2 h3⟩, m.keep hk h4, b.keep hk (fun _ => h5)⟩
theorem IsS.still {w w' : World} {c : Cf} {p told vain p1 p2 : Nat} (h : IsS w c p told vain p1 p2) (hk : Keep noBlock w w') : IsS w' c p told vain p1 p2 :=
  h.keep hk (fun h => h) (fun h => h) (fun h => h) (fun h => h) (fun h => h)
theorem IsS.drewN {w : World} {c : Cf} {p told vain p1 p2 : Nat} (h : IsS w c p told vain p1 p2) (n : Nat) : IsS (w.drewN n) c p told vain p1 p2 := h.still (keep_drewN w n)

end Go.Proofs.YtlpibfonpfhakaaDoor
