/-
  mostGain and leastLoss.
  A region that draws its order and ends with a store into what it has read: loads may be taken first all the same, since the store waits for all of them.
  Read of a description: all counts.
  Read of a description, as Write gives it, whatever stands behind.
  Tables as plain numbers, what tells them in a section, and rows of codes.
  Are codes all the same? The table of one code; the kinds of tables.
  A section that is read, whatever its bytes: next, number.
  The tail of a section as a plain list of bits, in the order in which they are put.
-/
import Derived.OrdersHeld
import Derived.RegionTactic
import Derived.Deep.WholeRow
import Derived.Maps.AppendAt
import Derived.Test.YtnjilcokkhodmaaGreatDoorZP3
import Derived.Test.YtnjilcokkhodmaaGreatDoorZP4
import Derived.Test.YtnjilcokkhodmaaGreatDoorZP5
import Derived.Test.YtnjilcokkhodmaaGreatDoorZP7
import Derived.Test.YtnjilcokkhodmaaGreatDoorZP8
namespace Go.Proofs.YtnjilcokkhodmaaGreatDoor
open Go.RowKit Go.Shelf

def U32 (fs : List Int) : Prop := ∀ i : Nat, 0 ≤ fs[i]?.getD 0 ∧ fs[i]?.getD 0 ≤ 4294967295
def fr (fs : List Int) (i : Nat) : Nat := (fs[i]?.getD 0).toNat
theorem RowI.fr {w : World} {a : Option Addr} {cap gb off : Nat} {fs : List Int} (h : RowI w .u32 a cap gb off fs) (hu : U32 fs) (i : Nat) (hi : i < fs.length) : w.cell? ⟨gb, off + i, none⟩ = some (.int .u32 ((fr fs i : Nat) : Int)) := by
 rw [h.cells i hi]
 have := hu i
 unfold Go.Proofs.YtnjilcokkhodmaaGreatDoor.fr
 congr 2
 omega

end Go.Proofs.YtnjilcokkhodmaaGreatDoor

namespace Go.Proofs.YtnjilcokkhodmaaGreatDoor
open Go.RowKit Go.Shelf

section
variable {P : Program} {ops : Array Oper} {Q : Exit → Act → World → Prop} {md : Region.Mode} {S : World → Prop} {z : Nat}

def wpLast (P : Program) (md : Region.Mode) (ops : Array Oper) (Q : Exit → Act → World → Prop) (S : World → Prop) (z : Nat) : Nat → Array Bool → Act → World → Prop
  | 0, listed, a, w => Region.ready md ops listed = [] ∧ Q .normal a w
  | n + 1, listed, a, w => (Region.ready md ops listed = [] → Q .normal a w) ∧
      ∀ j ∈ Region.ready md ops listed, wpOp P ops Q j (fun a' w' => wpLast P md ops Q S z n (listed.setIfInBounds j true) a' w' ∧ (j ≠ z → S w')) a w
theorem any_of_last (n : Nat) : ∀ (listed : Array Bool) (a : Act) (w : World), wpLast P md ops Q S z n listed a w → wpAny P md ops Q n listed a w := by
 induction n with
 | zero => exact fun _ _ _ h => h
 | succ n ih => exact fun _ _ _ h => ⟨h.1, fun j hj => wpOp_mono (fun a' w' q => ih _ a' w' q.1) (h.2 j hj)⟩
def waits (md : Region.Mode) (ops : Array Oper) (z i : Nat) : Bool := match ops[z]? with
 | some o => o.after.any (fun e => Region.binds md e && e.on == i)
 | none => true
theorem waits_not {i : Nat} {listed : Array Bool} (h : waits md ops z i = true) (hi : i ∈ Region.ready md ops listed) : z ∉ Region.ready md ops listed := by
 intro hz
 obtain ⟨_, o, ho, hall⟩ := mem_ready.1 hz
 have hun := (mem_ready.1 hi).1
 unfold waits at h
 rw [ho] at h
 obtain ⟨k, hk, e⟩ := Array.any_eq_true.1 h
 rw [Bool.and_eq_true, beq_iff_eq] at e
 have := hall _ (Array.getElem_mem hk) e.1
 rw [e.2] at this
 rcases Nat.lt_or_ge i listed.size with q | q
 ·simp [q] at hun this
  rw [hun] at this
  cases this
 ·simp [Array.getElem?_eq_none q] at this
theorem last_first {i : Nat} {oi : Oper} {v : Value} (hi : ops[i]? = some oi) (hsel : ∀ (j : Nat) (o : Oper) cs b, ops[j]? = some o → o.op ≠ .select cs b)
    (hQ : ∀ c a w, Q (.panic c) (a.put oi.dst v) w → Q (.panic c) a w) (hz : waits md ops z i = true) (n : Nat) :
    ∀ (listed : Array Bool) (a : Act) (w : World), (∀ j oj, ops[j]? = some oj → j ≠ i → listed.getD j true = false → (∀ e ∈ oj.after, Region.binds md e = true → e.on ≠ i) → oi.apart ops oj = true) →
      i ∈ Region.ready md ops listed → YieldsIf P ops S oi v a → S w → wpLast P md ops Q S z n (listed.setIfInBounds i true) (a.put oi.dst v) w → wpLast P md ops Q S z (n + 1) listed a w := by
  induction n with
  | zero =>
    intro listed a w _ hr hy hS H
    refine ⟨fun e => absurd hr (by rw [e]; simp), fun j hj => ?_⟩
    rcases Nat.decEq j i with q | q
    · have q2 := ready_mono hj q
      rw [H.1] at q2
      cases q2
    · subst q
      exact hy.wpOp hi hS ⟨H, fun _ => hS⟩
  | succ n ih =>
    intro listed a w hfree hr hy hS H
    refine ⟨fun e => absurd hr (by rw [e]; simp), fun j hj => ?_⟩
    rcases Nat.decEq j i with q | q
    · obtain ⟨hun, oj, hoj, hall⟩ := mem_ready.1 hj
      have hni : ∀ e ∈ oj.after, Region.binds md e = true → e.on ≠ i := fun e he hb q1 => by
        have q2 := hall e he hb
        have q3 := (mem_ready.1 hr).1
        rw [q1] at q2
        rcases Nat.lt_or_ge i listed.size with q4 | q4
        · simp [q4] at q2 q3
          rw [q3] at q2
          cases q2
        · simp [Array.getElem?_eq_none q4] at q2
      have hjz : j ≠ z := fun e => waits_not hz hr (e ▸ hj)
      have hput := wpOp_putIf hoj (hfree j oj hoj q hun hni) (fun cs b => hsel i oi cs b hi) (fun cs b => hsel j oj cs b hoj) hQ hy (H.2 j (ready_mono hj q))
      refine wpOp_mono (fun a' w' r => ?_) hput
      have hS' := r.2.2 hjz
      refine ⟨ih (listed.setIfInBounds j true) a' w' (fun k ok hk hki hku hno => hfree k ok hk hki ?_ hno) (ready_mono hr (Ne.symm q)) r.1 hS' ?_, fun _ => hS'⟩
      · rcases Nat.decEq j k with q5 | q5
        · rwa [getD_set_ne true q5] at hku
        · subst q5; exact hun
      · rw [Array.setIfInBounds_comm _ _ q]
        exact r.2.1
    · subst q
      exact hy.wpOp hi hS ⟨H, fun _ => hS⟩
theorem last_take {i : Nat} {oi : Oper} {v : Value} {n : Nat} {listed : Array Bool} {a : Act} {w : World} (hi : ops[i]? = some oi) (hs : Region.noSelect ops = true) (hf : Region.free md ops listed i = true) (hr : (Region.ready md ops listed).contains i = true)
  (hz : waits md ops z i = true) (hQ : ∀ c a w, Q (.panic c) (a.put oi.dst v) w → Q (.panic c) a w) (hy : YieldsIf P ops S oi v a) (hS : S w) (h : wpLast P md ops Q S z n (listed.setIfInBounds i true) (a.put oi.dst v) w) : wpLast P md ops Q S z (n + 1) listed a w :=
 last_first hi (Region.noSelect_spec hs) hQ hz n listed a w (Region.free_spec hi hf) (by simpa using hr) hy hS h
theorem tk {i : Nat} {oi : Oper} {v : Value} {n : Nat} {listed : Array Bool} {a : Act} {w : World} (hi : ops[i]? = some oi) (hc : (Region.noSelect ops && (Region.free md ops listed i && ((Region.ready md ops listed).contains i && waits md ops z i))) = true)
    (hQ : ∀ c a w, Q (.panic c) (a.put oi.dst v) w → Q (.panic c) a w) (hw : Region.wanted oi (yielded ops a.tmps) = true) (hy : ∀ w, S w → (execOp a.eval oi).run P w = .ok (.value v) w) (hS : S w) (h : wpLast P md ops Q S z n (listed.setIfInBounds i true) (a.put oi.dst v) w) : wpLast P md ops Q S z (n + 1) listed a w := by
  simp only [Bool.and_eq_true] at hc
  exact last_take hi hc.1 hc.2.1 hc.2.2.1 hc.2.2.2 hQ (Or.inl ⟨hw, hy⟩) hS h
theorem last_one {j : Nat} {o : Oper} {n : Nat} {listed : Array Bool} {a : Act} {w : World} (hr : Region.ready md ops listed = [j]) (ho : ops[j]? = some o)
  (h : ∀ K' : Act → World → Prop, Shut (∀ a' w', (j ≠ z → S w') → wpLast P md ops Q S z n (listed.setIfInBounds j true) a' w' → K' a' w') → if Region.wanted o (yielded ops a.tmps) = true then Oper.wp P o a w K' Q else K' (a.put o.dst undef) w) : wpLast P md ops Q S z (n + 1) listed a w := by
 refine ⟨fun e => (by rw [hr] at e; cases e), fun i hi => ?_⟩
 rw [hr] at hi
 obtain rfl : i = j := by simpa using hi
 exact wpOp_step ho (fun K' hK => h K' (fun a' w' q1 q2 => hK a' w' ⟨q2, q1⟩))
theorem last_done {listed : Array Bool} {a : Act} {w : World} (hr : Region.ready md ops listed = []) (h : Q .normal a w) : ∀ n, wpLast P md ops Q S z n listed a w
 | 0 => ⟨hr, h⟩
 | _ + 1 => ⟨fun _ => h, by rw [hr]; intro j hj; cases hj⟩
theorem region_last {id : Nat} {a : Act} {w : World} (S : World → Prop) (z : Nat) (hm : P.follows .mixedOrders = true) (hS : S w.drew) (h : S w.drew → wpLast P .any ops Q S z ops.size (Array.replicate ops.size false) a w.drew) : (Code.region id ops true).wp P Q a w :=
 wp_region_any hm (any_of_last _ _ _ _ (h hS))
end
end Go.Proofs.YtnjilcokkhodmaaGreatDoor

namespace Go.Proofs.YtnjilcokkhodmaaGreatDoor
open Go.RowKit Go.Shelf

def i16s (xs : List Int) : List Value := xs.map (fun x => Value.int .i16 x)
theorem i16s_length (xs : List Int) : (i16s xs).length = xs.length := by simp [i16s]
theorem i16s_one (xs : List Int) : ∀ u ∈ i16s xs, u.oneCell' = true := by
 intro u hu
 simp only [i16s, List.mem_map] at hu
 obtain ⟨b, _, rfl⟩ := hu
 rfl
theorem i16s_at (xs : List Int) (j : Nat) (hj : j < xs.length) : (i16s xs)[j]? = some (.int .i16 (xs[j]?.getD 0)) := by simp [i16s, hj]

set_option maxHeartbeats 1000000 in
theorem clone65_any (ab n cap : Nat) (xs : List Int) (hn : n = xs.length) (hl : xs.length ≤ 4096) (w : World) (hlt : ab < w.heap.size) (h : ∀ j, j < xs.length → w.cell? ⟨ab, j, none⟩ = some (.int .i16 (xs[j]?.getD 0))) :
  Calls Tryz.prog 137 #[.slice (some ⟨ab, 0, none⟩) n cap] w fun e w' => ∃ g cap', e = .returned (.slice (some ⟨g, 0, none⟩) xs.length cap') ∧ w.heap.size ≤ g ∧ RowI w' .i16 (some ⟨g, 0, none⟩) cap' g 0 xs ∧ Keep noBlock w w' := by
 subst hn
 obtain ⟨i0, hi, hz0, hz1, hz2⟩ := info_parts info42
 have hmax : xs.length ≤ maxLen := by unfold maxLen; omega
 have hby : xs.length * 2 ≤ 140737488355328 := by omega
 have heq := fun (w : World) (a : Option Addr) (n c n' c' : Nat) => Lib.run_eql_slice_nil (P := Tryz.prog) w 104 131 a n c n' c' Tryz.underlying104
 have hown := World.ownsRow_made (e := 131) (size := 1) (base := w.heap.size) w #[] 0 (Nat.le_refl _) (Nat.zero_le _) rfl
 have hc' : ∀ j u, (i16s xs)[j]? = some u → (w.alloc (.cells #[] 131)).cell? ((⟨ab, 0, none⟩ : Addr).add j) = some u := fun j u hu => by
  have hj : j < xs.length := by rw [← i16s_length]; exact (List.getElem?_eq_some_iff.1 hu).1
  rw [add0]
  refine (World.cell?_of_block (Below.heap_alloc _ _ _ hlt)).trans ((h j hj).trans ?_)
  rw [← i16s_at xs j hj, hu]
 have HL := (show Hid ((i16s xs).length = xs.length * 1) from by rw [i16s_length]; exact (Nat.mul_one _).symm)
 clear h
 go_enter Tryz.func137, Tryz.ntmps137
 go_wp2_with (at_builtin; refine wpList_append_own _ rfl _ _ 104 rfl w.heap.size 131 i0 (.int .i16 0) 1 2 Tryz.underlying104 hi hz0 hz1 hz2 rfl (by decide) (.slice (some ⟨w.heap.size, 0, none⟩) 0 0) 0 [] rfl hown ⟨ab, 0, none⟩ xs.length cap (i16s xs) rfl HL.out hc' (i16s_one xs) (by omega) (by omega) (by simp) ?_; intro v' w1 hown' hgrow hnil)
 go_ret
 have hk : Keep noBlock w w1 := ((Keep.refl _ w).alloc _).grown hgrow (fun k e hk => by
  have e' : w.heap.size = k := by simpa [Value.ownBlock] using e
  omega)
 rw [List.nil_append, Nat.zero_add] at hown'
 rcases hown'.2 with ⟨e1, h0⟩ | ⟨g, cap', cur, e1, hb, hg, hr1, hr2, hr3, hr4⟩
 ·have := hnil.1 e1
  cases this.1
 ·subst e1
  refine ⟨g, cap', rfl, hb, ⟨.inl rfl, (fun e => by cases e), fun j hj => ?_, hr1⟩, hk⟩
  have q1 := hown'.cells (g := g) rfl _ _ (i16s_at xs j hj)
  rw [add0] at q1
  rw [Nat.zero_add]; exact q1

def boolN : Value → Nat
 | .bool true => 1
 | _ => 0

end Go.Proofs.YtnjilcokkhodmaaGreatDoor

namespace Go.Proofs.YtnjilcokkhodmaaGreatDoor
open Go.RowKit Go.Shelf

theorem left_i (rb g : Nat) (bs : List Nat) (p y : Nat) (hy : bs.length * 8 = p + y) (w : World) (h : IsR w rb g bs p) :
  Calls Tryz.prog 116 #[.pointer (some ⟨rb, 0, none⟩)] w fun e w' => e = .returned (.int .i64 (y : Int)) ∧ ∃ n, w' = w.drewN n := by
 have := left_any rb g bs p w h
 rw [show (bs.length : Int) * 8 - (p : Int) = (y : Int) from by omega] at this
 exact this

section
attribute [local go_sem] sliceSem_eq minSem_eq
end

end Go.Proofs.YtnjilcokkhodmaaGreatDoor

namespace Go.Proofs.YtnjilcokkhodmaaGreatDoor
open Go.RowKit Go.Shelf
set_option linter.unusedVariables false

/-- A table: its log, and by state the symbol, the bits and the base. -/
structure Tb where
 l : Nat
 sy : Nat → Nat
 bi : Nat → Nat
 ba : Nat → Nat
def tbX (xs : List Int) (l : Nat) : Tb := ⟨l, symF xs (2 ^ l), fun i => bitF l (xF xs (2 ^ l) i), fun i => baseF l (xF xs (2 ^ l) i)⟩
def tbA (c : Nat) : Tb := ⟨0, fun _ => c, fun _ => 0, fun _ => 0⟩
def IsTb (w : World) (g : Nat) (T : Tb) : Prop := RowT w g (2 ^ T.l) T.sy T.bi T.ba
theorem IsTb.keep {w w' : World} {S : Nat → Prop} {g : Nat} {T : Tb} (h : IsTb w g T) (hk : Keep S w w') (hS : ¬ S g) : IsTb w' g T := RowT.keep h hk hS
/-- The table that is not told is one. -/
structure KDef (K : Kd) : Prop where
 ok : okT K.cs (K.l : Int) = true
 i16 : I16 K.cs
 nz : ∀ c, c < K.cs.length → K.cs[c]?.getD 0 ≠ 0
 le : K.cs.length ≤ K.codes
 l9 : K.l ≤ 9
theorem kdef_check (K : Kd) (h1 : okT K.cs (K.l : Int) = true) (h2 : (K.cs.all (fun x => decide (-32768 ≤ x ∧ x ≤ 32767 ∧ x ≠ 0)) && decide (K.cs.length ≤ K.codes) && decide (K.l ≤ 9)) = true) : KDef K := by
 simp only [Bool.and_eq_true, decide_eq_true_eq, List.all_eq_true] at h2
 obtain ⟨⟨h3, h4⟩, h5⟩ := h2
 refine ⟨h1, fun i => ?_, fun c hc => ?_, h4, h5⟩
 ·by_cases hi : i < K.cs.length
  ·rw [List.getElem?_eq_getElem hi]
   have := h3 _ (List.getElem_mem hi)
   exact ⟨this.1, this.2.1⟩
  ·rw [List.getElem?_eq_none (by omega)]
   simp
 ·rw [List.getElem?_eq_getElem hc]
  exact (h3 _ (List.getElem_mem hc)).2.2
theorem kdefL : KDef kdL := kdef_check _ (by kernel_rfl) (by kernel_rfl)
theorem kdefB : KDef kdB := kdef_check _ (by kernel_rfl) (by kernel_rfl)
theorem kdefM : KDef kdM := kdef_check _ (by kernel_rfl) (by kernel_rfl)
end Go.Proofs.YtnjilcokkhodmaaGreatDoor

namespace Go.Proofs.YtnjilcokkhodmaaGreatDoor
open Go.RowKit Go.Shelf
set_option linter.unusedVariables false

theorem alone_tab (w : World) (c : Nat) : IsTb (w.alloc (.cells #[.int .u8 (c : Int), .int .u8 0, .int .u16 0] 130)) w.heap.size (tbA c) := by
 have ho := alloc_new w (.cells #[.int .u8 (c : Int), .int .u8 0, .int .u16 0] 130)
 refine ⟨fun i hi => ?_, by simp⟩
 obtain rfl : i = 0 := by simpa [tbA] using hi
 rw [cell_of ho, cell_of ho, cell_of ho]
 exact ⟨rfl, rfl, rfl⟩
theorem aloneTable_any (c : Nat) (w : World) : Calls Tryz.prog 102 #[.int .u8 (c : Int)] w fun e w' => e = .returned (.slice (some ⟨w.heap.size, 0, none⟩) 1 1) ∧ w' = w.alloc (.cells #[.int .u8 (c : Int), .int .u8 0, .int .u16 0] 130) := by
 go_enter Tryz.func102, Tryz.ntmps102
 go_wp2_with fail
 go_ret
 exact ⟨rfl, rfl⟩

def kindsC : Array Value := #[.func (.func 81) #[] #[], .func (.func 82) #[] #[], .func (.func 83) #[] #[], .func (.func 84) #[] #[], .func (.func 85) #[] #[], .func (.func 86) #[] #[], .func (.func 87) #[] #[], .func (.func 88) #[] #[]]
set_option maxHeartbeats 1000000 in
theorem kinds_any (w : World) : Calls Tryz.prog 65 #[] w fun e w' => e = .returned (.agg kindsC) ∧ Keep noBlock w w' := by
 go_enter Tryz.func65, Tryz.ntmps65
 go_wp2_with (refine wpList_store_row rfl 137 (.tmp 0) (.tmp 5) rfl w.heap.size kindsC rfl rfl 137 _ (World.alloc_heap_new w _) (by kernel_rfl) (by kernel_rfl) (by kernel_rfl) ?_; rw [World.setRow_alloc_new])
 refine bodyPost_ret (results_cell rfl _ _ _ ⟨w.heap.size, 0, none⟩ (.agg kindsC) rfl (run_loadVar_row _ _ 137 137 _ (0, 0) _ (alloc_new w _) Tryz.underlying137 rfl (by kernel_rfl))) rfl ?_
 exact ⟨rfl, (Keep.refl _ w).alloc _⟩
end Go.Proofs.YtnjilcokkhodmaaGreatDoor

namespace Go.Proofs.YtnjilcokkhodmaaGreatDoor
open Go.RowKit Go.Shelf
set_option linter.unusedVariables false

theorem drop_block {a a' : Option Addr} {n cap k m c' : Nat} (hk : k ≤ n) (h : ∀ W, (sliceSem 22 (.slice a n cap) (some (.int .i64 (k : Int))) none none).run Tryz.prog W = .ok (.slice a' m c') W) (w : World) : ∀ p', a' = some p' → ∃ p, a = some p ∧ p.block = p'.block := by
  intro p' hp
  have h1 := h w
  rw [run_low5 a n cap k hk w] at h1
  simp only [Result.ok.injEq, Value.slice.injEq, and_true] at h1
  have h2 := h1.1
  rw [hp] at h2
  split at h2
  · exact ⟨p', h2, rfl⟩
  · cases a with
    | none => cases h2
    | some q =>
      simp only [Option.map_some, Option.some.injEq] at h2
      exact ⟨q, rfl, by rw [← h2]; unfold Addr.add; first | rfl | (split <;> rfl)⟩
def Sec (w : World) (sb g : Nat) (bs : List Nat) : Prop := ∃ a cap off, IsSec w sb (.slice a bs.length cap) ∧ Bytes w a cap g off bs ∧ g ≠ sb ∧ ∀ p, a = some p → p.block < w.heap.size
theorem Sec.keep {w w' : World} {S : Nat → Prop} {sb g : Nat} {bs : List Nat} (h : Sec w sb g bs) (hk : Keep S w w') (h1 : ¬ S sb) (h2 : ¬ S g) : Sec w' sb g bs := by
 obtain ⟨a, cap, off, q1, q2, q3, q4⟩ := h
 exact ⟨a, cap, off, q1.keep hk h1, q2.keep hk (fun _ => h2), q3, fun p hp => Nat.lt_of_lt_of_le (q4 p hp) hk.size⟩
theorem sec_next (sb g x : Nat) (bs : List Nat) (w : World) (h : Sec w sb g (x :: bs)) :
  Calls Tryz.prog 62 #[.pointer (some ⟨sb, 0, none⟩)] w fun e w' => e = .returned (.tuple #[.int .i64 (x : Int), .bool true]) ∧ Sec w' sb g bs ∧ Keep (fun k => k = sb) w w' := by
 obtain ⟨a, cap, off, q1, q2, q3, q4⟩ := h
 obtain rfl := q2.at_.resolve_right (by simp)
 have hx : x < 256 := q2.lt 0
 have hc := q2.cells 0 (by simp)
 obtain ⟨a', off', hs, hB, -⟩ := q2.drop 1 (by simp)
 have hbl := drop_block (by simp) hs w
 rw [Nat.add_zero] at hc
 refine (next_some sb g off bs.length cap x (cap - 1) a' w q1 hc hx hs).mono ?_
 rintro e w' ⟨rfl, r1, r2⟩
 refine ⟨rfl, ⟨a', cap - 1, off', r1, hB.keep r2 (fun _ => q3), q3, fun p hp => ?_⟩, r2⟩
 obtain ⟨p0, e1, e2⟩ := hbl p hp
 have := q4 p0 e1
 have := r2.size
 omega
theorem sec_end (sb g : Nat) (w : World) (h : Sec w sb g []) :
  Calls Tryz.prog 62 #[.pointer (some ⟨sb, 0, none⟩)] w fun e w' => e = .returned (.tuple #[.int .i64 0, .bool false]) ∧ Keep (fun k => k = sb) w w' := by
 obtain ⟨a, cap, off, q1, q2, q3, -⟩ := h
 refine (next_none sb a cap w q1).mono ?_
 rintro e w' ⟨rfl, h2⟩
 exact ⟨rfl, by subst h2; exact Keep.refl _ _⟩
def NxP (w : World) (sb g : Nat) (bs : List Nat) (e : Ending) (w' : World) : Prop :=
 Keep (fun k => k = sb) w w' ∧ match bs with
  | [] => e = .returned (.tuple #[.int .i64 0, .bool false])
  | x :: r => e = .returned (.tuple #[.int .i64 (x : Int), .bool true]) ∧ Sec w' sb g r
theorem next_all (sb g : Nat) (bs : List Nat) (w : World) (h : Sec w sb g bs) : Calls Tryz.prog 62 #[.pointer (some ⟨sb, 0, none⟩)] w fun e w' => NxP w sb g bs e w' := by
 cases bs with
 | nil => exact (sec_end sb g w h).mono fun e w' q => ⟨q.2, q.1⟩
 | cons x r => exact (sec_next sb g x r w h).mono fun e w' q => ⟨q.2.2, q.1, q.2.1⟩
theorem Sec.lt {w : World} {sb g : Nat} {bs : List Nat} (h : Sec w sb g bs) : ∀ j : Nat, bs[j]?.getD 0 < 256 := by
 obtain ⟨a, cap, off, q1, q2, q3, -⟩ := h
 exact q2.lt

def numS : List Nat → Option (Nat × List Nat)
  | [] => none
  | a :: r => if a < 128 then some (a, r) else match r with
    | [] => none
    | b :: r2 => if a < 255 then some ((a - 128) * 256 + b, r2) else match r2 with
      | [] => none
      | c :: r3 => some (b + c * 256 + 32512, r3)
theorem numS_lt {bs : List Nat} (hb : ∀ j : Nat, bs[j]?.getD 0 < 256) {n : Nat} {r : List Nat} (h : numS bs = some (n, r)) : n ≤ 98047 ∧ ∃ k, r = bs.drop k := by
  match bs, h with
  | [], h => simp [numS] at h
  | [a], h =>
    have ha : a < 256 := hb 0
    by_cases h1 : a < 128
    · simp [numS, h1] at h
      exact ⟨by omega, 1, by rw [← h.2]; rfl⟩
    · simp [numS, h1] at h
  | [a, b], h =>
    have ha : a < 256 := hb 0
    have hb1 : b < 256 := hb 1
    by_cases h1 : a < 128
    · simp [numS, h1] at h
      exact ⟨by omega, 1, by rw [← h.2]; rfl⟩
    · by_cases h2 : a < 255
      · simp [numS, h1, h2] at h
        exact ⟨by omega, 2, by rw [← h.2]; rfl⟩
      · simp [numS, h1, h2] at h
  | a :: b :: c :: r3, h =>
    have ha : a < 256 := hb 0
    have hb1 : b < 256 := hb 1
    have hb2 : c < 256 := hb 2
    by_cases h1 : a < 128
    · simp [numS, h1] at h
      exact ⟨by omega, 1, by rw [← h.2]; rfl⟩
    · by_cases h2 : a < 255
      · simp [numS, h1, h2] at h
        exact ⟨by omega, 2, by rw [← h.2]; rfl⟩
      · simp [numS, h1, h2] at h
        exact ⟨by omega, 3, by rw [← h.2]; rfl⟩
def NuP (w : World) (sb g : Nat) (R : Option (Nat × List Nat)) (e : Ending) (w' : World) : Prop :=
 Keep (fun k => k = sb) w w' ∧ match R with
  | none => ∃ v, e = .returned (.tuple #[v, .bool false])
  | some (n, r) => e = .returned (.tuple #[.int .i64 (n : Int), .bool true]) ∧ Sec w' sb g r

set_option maxHeartbeats 4000000 in
theorem number_all (sb g : Nat) (bs : List Nat) (w : World) (h : Sec w sb g bs) :
    Calls Tryz.prog 48 #[.pointer (some ⟨sb, 0, none⟩)] w fun e w' => NuP w sb g (numS bs) e w' := by
  have hlt := h.lt
  cases bs with
  | nil =>
    have HN := hid (sec_end sb g w h)
    clear h hlt
    go_enter Tryz.func48, Tryz.ntmps48
    go_wp2_with fail
    refine HN.out.mono ?_
    rintro e w' ⟨rfl, h2⟩
    have HF := hid h2
    clear h2
    go_wp2_with fail
    go_ret2
    exact ⟨HF.out, _, rfl⟩
  | cons a r =>
    have ha : a < 256 := hlt 0
    by_cases h1 : a < 128
    · have HN := hid (sec_next sb g a r w h)
      have hx1 : decide ((a : Int) < 128) = true := decide_eq_true (by omega)
      have HR := hid (show numS (a :: r) = some (a, r) from by simp [numS, h1])
      clear h hlt
      go_enter Tryz.func48, Tryz.ntmps48
      go_wp2_with fail
      refine HN.out.mono ?_
      rintro e w' ⟨rfl, h1, h2⟩
      have HF := hid (And.intro h1 h2)
      clear h1 h2
      go_wp2_with fail
      go_ret2
      rw [HR.out]
      exact ⟨HF.out.2, rfl, HF.out.1⟩
    · have hx1 : decide ((a : Int) < 128) = false := decide_eq_false (by omega)
      have HN := hid (sec_next sb g a r w h)
      obtain ⟨d, hd⟩ : ∃ d, d = a - 128 := ⟨_, rfl⟩
      have hdI : (a : Int) - 128 = (d : Int) := by omega
      obtain ⟨f, hf⟩ : ∃ f, f = d * 256 := ⟨_, rfl⟩
      have hfI : (d : Int) * 256 = (f : Int) := by omega
      have hdb : (d : Int) < 128 := by omega
      have hfb : (f : Int) < 65536 := by omega
      have hwd : IntKind.i64.wrap (d : Int) = (d : Int) := by rw [IntKind.wrap_i64]; omega
      have hwf : IntKind.i64.wrap (f : Int) = (f : Int) := by rw [IntKind.wrap_i64]; omega
      cases r with
      | nil =>
        have HN2 := (show Hid (∀ w', Sec w' sb g [] → _) from fun w' h' => sec_end sb g w' h')
        have HR := hid (show numS [a] = none from by simp [numS, h1])
        have hf0 : (f : Int) + 0 = (f : Int) := by omega
        clear h hlt hd hf
        go_enter Tryz.func48, Tryz.ntmps48
        go_wp2_with fail
        refine HN.out.mono ?_
        rintro e w' ⟨rfl, h1, h2⟩
        have HM := hid (HN2.out w' h1)
        have HK := hid h2
        clear h1 h2 HN HN2
        go_wp2_with fail
        refine HM.out.mono ?_
        rintro e w2 ⟨rfl, h2⟩
        have HF := hid (HK.out.trans' h2)
        clear h2 HM HK
        go_wp2_with fail
        go_ret2
        rw [HR.out]
        exact ⟨HF.out, _, rfl⟩
      | cons b r2 =>
        have hb : b < 256 := hlt 1
        have HN2 := (show Hid (∀ w', Sec w' sb g (b :: r2) → _) from fun w' h' => sec_next sb g b r2 w' h')
        by_cases h2 : a < 255
        · have hx2 : decide ((a : Int) < 255) = true := decide_eq_true (by omega)
          obtain ⟨n, hn⟩ : ∃ n, n = f + b := ⟨_, rfl⟩
          have hnI : (f : Int) + (b : Int) = (n : Int) := by omega
          have hnb : (n : Int) < 65536 := by omega
          have hwn : IntKind.i64.wrap (n : Int) = (n : Int) := by rw [IntKind.wrap_i64]; omega
          have HR := hid (show numS (a :: b :: r2) = some (n, r2) from by simp [numS, h1, h2, hn, hf, hd])
          clear h hlt hd hf hn
          go_enter Tryz.func48, Tryz.ntmps48
          go_wp2_with fail
          refine HN.out.mono ?_
          rintro e w' ⟨rfl, h1, h2⟩
          have HM := hid (HN2.out w' h1)
          have HK := hid h2
          clear h1 h2 HN HN2
          go_wp2_with fail
          refine HM.out.mono ?_
          rintro e w2 ⟨rfl, h1, h2⟩
          have HF := hid (And.intro h1 (HK.out.trans' h2))
          clear h1 h2 HM HK
          go_wp2_with fail
          go_ret2
          rw [HR.out]
          exact ⟨HF.out.2, rfl, HF.out.1⟩
        · have hx2 : decide ((a : Int) < 255) = false := decide_eq_false (by omega)
          cases r2 with
          | nil =>
            have HN3 := (show Hid (∀ w', Sec w' sb g [] → _) from fun w' h' => sec_end sb g w' h')
            have HR := hid (show numS [a, b] = none from by simp [numS, h1, h2])
            have hbI : (b : Int) < 256 := by omega
            clear h hlt hd hf
            go_enter Tryz.func48, Tryz.ntmps48
            go_wp2_with fail
            refine HN.out.mono ?_
            rintro e w' ⟨rfl, h1, h2⟩
            have HM := hid (HN2.out w' h1)
            have HK := hid h2
            clear h1 h2 HN HN2
            go_wp2_with fail
            refine HM.out.mono ?_
            rintro e w2 ⟨rfl, h1, h2⟩
            have HM2 := hid (HN3.out w2 h1)
            have HK2 := hid (HK.out.trans' h2)
            clear h1 h2 HM HK HN3
            go_wp2_with fail
            refine HM2.out.mono ?_
            rintro e w3 ⟨rfl, h2⟩
            have HF := hid (HK2.out.trans' h2)
            clear h2 HM2 HK2
            go_wp2_with fail
            go_ret2
            rw [HR.out]
            exact ⟨HF.out, _, rfl⟩
          | cons c r3 =>
            have hc : c < 256 := hlt 2
            have HN3 := (show Hid (∀ w', Sec w' sb g (c :: r3) → _) from fun w' h' => sec_next sb g c r3 w' h')
            obtain ⟨f2, hf2⟩ : ∃ f2, f2 = c * 256 := ⟨_, rfl⟩
            have hf2I : (c : Int) * 256 = (f2 : Int) := by omega
            obtain ⟨s, hs⟩ : ∃ s, s = b + f2 := ⟨_, rfl⟩
            have hsI : (b : Int) + (f2 : Int) = (s : Int) := by omega
            obtain ⟨n, hn⟩ : ∃ n, n = s + 32512 := ⟨_, rfl⟩
            have hnI : (s : Int) + 32512 = (n : Int) := by omega
            have hcb : (c : Int) < 256 := by omega
            have hf2b : (f2 : Int) < 65536 := by omega
            have hsb : (s : Int) < 66000 := by omega
            have hnb : (n : Int) < 99000 := by omega
            have hwf2 : IntKind.i64.wrap (f2 : Int) = (f2 : Int) := by rw [IntKind.wrap_i64]; omega
            have hws : IntKind.i64.wrap (s : Int) = (s : Int) := by rw [IntKind.wrap_i64]; omega
            have hwn : IntKind.i64.wrap (n : Int) = (n : Int) := by rw [IntKind.wrap_i64]; omega
            have HR := hid (show numS (a :: b :: c :: r3) = some (n, r3) from by simp [numS, h1, h2, hn, hs, hf2])
            clear h hlt hd hf hf2 hs hn
            go_enter Tryz.func48, Tryz.ntmps48
            go_wp2_with fail
            refine HN.out.mono ?_
            rintro e w' ⟨rfl, h1, h2⟩
            have HM := hid (HN2.out w' h1)
            have HK := hid h2
            clear h1 h2 HN HN2
            go_wp2_with fail
            refine HM.out.mono ?_
            rintro e w2 ⟨rfl, h1, h2⟩
            have HM2 := hid (HN3.out w2 h1)
            have HK2 := hid (HK.out.trans' h2)
            clear h1 h2 HM HK HN3
            go_wp2_with fail
            refine HM2.out.mono ?_
            rintro e w3 ⟨rfl, h1, h2⟩
            have HF := hid (And.intro h1 (HK2.out.trans' h2))
            clear h1 h2 HM2 HK2
            go_wp2_with fail
            go_ret2
            rw [HR.out]
            exact ⟨HF.out.2, rfl, HF.out.1⟩
end Go.Proofs.YtnjilcokkhodmaaGreatDoor

namespace Go.Proofs.YtnjilcokkhodmaaGreatDoor
open Go.RowKit Go.Shelf
set_option linter.unusedVariables false

def kdV : Nat → Kd
 | 0 => kdL
 | 1 => kdB
 | _ => kdM
end Go.Proofs.YtnjilcokkhodmaaGreatDoor
