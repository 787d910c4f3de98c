/-
  Table of counts: the cells of all states, or ErrCounts.
  The document's own reader: what each of its calls does.
  readCounts of any bits.
-/
import Derived.Test.YtnjilcokkhodmaaGreatDoorZP4
namespace Go.Proofs.YtnjilcokkhodmaaGreatDoor
open Go.RowKit Go.Shelf

/-- The slice at block g reads as n cells. -/
structure RowT (w : World) (g n : Nat) (sy bi ba : Nat → Nat) : Prop where
 cells : ∀ i, i < n → w.cell? ⟨g, i * 3, none⟩ = some (.int .u8 ((sy i : Nat) : Int)) ∧ w.cell? ⟨g, i * 3 + 1, none⟩ = some (.int .u8 ((bi i : Nat) : Int)) ∧ w.cell? ⟨g, i * 3 + 2, none⟩ = some (.int .u16 ((ba i : Nat) : Int))
 lt : g < w.heap.size
theorem RowT.keep {w w' : World} {S : Nat → Prop} {g n : Nat} {sy bi ba : Nat → Nat} (h : RowT w g n sy bi ba) (hk : Keep S w w') (hS : ¬ S g) : RowT w' g n sy bi ba := by
 have e := hk.block g h.lt hS
 refine ⟨fun i hi => ?_, Nat.lt_of_lt_of_le h.lt hk.size⟩
 obtain ⟨a, b, c⟩ := h.cells i hi
 exact ⟨(World.cell?_of_block e).trans a, (World.cell?_of_block e).trans b, (World.cell?_of_block e).trans c⟩

theorem info50 : (Tryz.prog.info? 130).map (fun i => (i.zero, i.size, i.bytes)) = some (some (.agg #[.int .u8 0, .int .u8 0, .int .u16 0]), 3, 4) := by kernel_rfl

theorem IsT.list {w : World} {b t N : Nat} {sy bi ba : Nat → Nat} (h : IsT w b t N sy bi ba) (n : Nat) (hn : n ≤ N) :
  ∃ L : List Value, L.length = n * 3 ∧ (∀ j u, L[j]? = some u → w.cell? ⟨b, j, none⟩ = some u) ∧ (∀ u ∈ L, u.oneCell' = true) ∧ ∀ i, i < n → L[i * 3]? = some (.int .u8 ((sy i : Nat) : Int)) ∧ L[i * 3 + 1]? = some (.int .u8 ((bi i : Nat) : Int)) ∧ L[i * 3 + 2]? = some (.int .u16 ((ba i : Nat) : Int)) := by
 obtain ⟨cs, h1, h2, h3⟩ := h.obj
 have hat : ∀ j, j < n * 3 → (cs.toList.take (n * 3))[j]? = cs[j]? := fun j hj => by
  rw [List.getElem?_take, if_pos hj]; simp
 have hlen : (cs.toList.take (n * 3)).length = n * 3 := by rw [List.length_take, Array.length_toList, h2]; omega
 refine ⟨cs.toList.take (n * 3), hlen, fun j u hu => ?_, fun u hu => ?_, fun i hi => ?_⟩
 ·have hj : j < n * 3 := by rw [← hlen]; exact (List.getElem?_eq_some_iff.1 hu).1
  rw [hat j hj] at hu
  rw [cell_of h1, hu]
 ·obtain ⟨j, hj, e⟩ := List.getElem_of_mem hu
  rw [hlen] at hj
  have e2 := hat j hj
  rw [List.getElem?_eq_getElem (by rw [hlen]; exact hj), e] at e2
  obtain ⟨d1, d2, d3⟩ := h3 (j / 3) (by omega)
  have hj3 : j = j / 3 * 3 ∨ j = j / 3 * 3 + 1 ∨ j = j / 3 * 3 + 2 := by omega
  rcases hj3 with hj3 | hj3 | hj3
  ·rw [← hj3, ← e2] at d1; cases d1; rfl
  ·rw [← hj3, ← e2] at d2; cases d2; rfl
  ·rw [← hj3, ← e2] at d3; cases d3; rfl
 ·rw [hat _ (by omega), hat _ (by omega), hat _ (by omega)]
  exact h3 i (by omega)

set_option maxHeartbeats 1000000 in
theorem clone39_any (cb n cap : Nat) (sy bi ba : Nat → Nat) (hn : n ≤ 4096) (w : World) (h : IsT w cb 215 4096 sy bi ba) :
  Calls Tryz.prog 63 #[.slice (some ⟨cb, 0, none⟩) n cap] w fun e w' => ∃ g cap', e = .returned (.slice (some ⟨g, 0, none⟩) n cap') ∧ w.heap.size ≤ g ∧ n ≤ cap' ∧ RowT w' g n sy bi ba ∧ Keep noBlock w w' := by
 obtain ⟨i0, hi, hz0, hz1, hz2⟩ := info_parts info50
 obtain ⟨L, l1, l2, l3, l4⟩ := h.list n hn
 have hmax : n ≤ maxLen := by unfold maxLen; omega
 have hby : n * 4 ≤ 140737488355328 := by omega
 have heq := fun (w : World) (a : Option Addr) (n c n' c' : Nat) => Lib.run_eql_slice_nil (P := Tryz.prog) w 36 130 a n c n' c' Tryz.underlying36
 have hlt := h.lt
 have hown := World.ownsRow_made (e := 130) (size := 3) (base := w.heap.size) w #[] 0 (Nat.le_refl _) (Nat.zero_le _) rfl
 have hc' : ∀ j u, L[j]? = some u → (w.alloc (.cells #[] 130)).cell? ((⟨cb, 0, none⟩ : Addr).add j) = some u := fun j u hu => by
  rw [add0]
  exact (World.cell?_of_block (Below.heap_alloc _ _ _ hlt)).trans (l2 j u hu)
 have HL := (show Hid (∀ i, i < n → L[i * 3]? = some (.int .u8 ((sy i : Nat) : Int)) ∧ L[i * 3 + 1]? = some (.int .u8 ((bi i : Nat) : Int)) ∧ L[i * 3 + 2]? = some (.int .u16 ((ba i : Nat) : Int))) from l4)
 clear l2 l4
 go_enter Tryz.func63, Tryz.ntmps63
 go_wp2_with (at_builtin; refine wpList_append_own _ rfl _ _ 36 rfl w.heap.size 130 i0 (.agg #[.int .u8 0, .int .u8 0, .int .u16 0]) 3 4 Tryz.underlying36 hi hz0 hz1 hz2 rfl (by decide) (.slice (some ⟨w.heap.size, 0, none⟩) 0 0) 0 [] rfl hown ⟨cb, 0, none⟩ n cap L rfl l1 hc' l3 (by omega) (by omega) (by simp) ?_; intro v' w1 hown' hgrow hnil)
 go_ret
 have hk : Keep noBlock w w1 := ((Keep.refl _ w).alloc _).grown hgrow (fun k e hk => by
  have e' : w.heap.size = k := by simpa [Value.ownBlock] using e
  omega)
 rw [List.nil_append, Nat.zero_add] at hown'
 rcases hown'.2 with ⟨e1, h0⟩ | ⟨g, cap', cur, e1, hb, hg, hr1, hr2, hr3, hr4⟩
 ·have := hnil.1 e1
  cases this.1
 ·subst e1
  refine ⟨g, cap', rfl, hb, hr1, ⟨fun i hi => ?_, obj_lt hg⟩, hk⟩
  obtain ⟨d1, d2, d3⟩ := HL.out i hi
  have q1 := hown'.cells (g := g) rfl _ _ d1
  have q2 := hown'.cells (g := g) rfl _ _ d2
  have q3 := hown'.cells (g := g) rfl _ _ d3
  rw [add0] at q1 q2 q3
  exact ⟨q1, q2, q3⟩

section
attribute [local go_sem] sliceSem_eq
set_option maxRecDepth 100000 in
set_option maxHeartbeats 2000000 in
theorem table_good (a : Option Addr) (cap gb off : Nat) (xs : List Int) (l : Nat) (w : World) (h : RowI w .i16 a cap gb off xs) (hx : I16 xs) (hb : okT xs (l : Int) = true) :
  Calls Tryz.prog 99 #[.slice a xs.length cap, .int .i64 (l : Int)] w fun e w' => ∃ g cap', e = .returned (.tuple #[.slice (some ⟨g, 0, none⟩) (2 ^ l) cap', .int .i64 0]) ∧ w.heap.size ≤ g ∧ 2 ^ l ≤ cap' ∧
   RowT w' g (2 ^ l) (symF xs (2 ^ l)) (fun i => bitF l (xF xs (2 ^ l) i)) (fun i => baseF l (xF xs (2 ^ l) i)) ∧ Keep noBlock w w' := by
 have HT := (show Hid (∀ w : World, RowI w .i16 a cap gb off xs → Calls Tryz.prog 117 #[.slice a xs.length cap, .int .i64 (l : Int)] w fun e w' => e = .returned (.bool true) ∧ w' = w) from fun w h => by have := makeTable_any a cap gb off xs l w h hx; rwa [hb] at this)
 obtain ⟨hG, hT, hne, hlen, hl5, hl12⟩ := okT_good hb
 have hTab := okT_tab hb
 have hSb : 2 ^ l ≤ 4096 := Nat.pow_le_pow_right (n := 2) (j := 12) (by omega) hl12
 have hp : (2 : Int) ^ l = ((2 ^ l : Nat) : Int) := by simp
 obtain ⟨S, hS⟩ : ∃ S, S = 2 ^ l := ⟨_, rfl⟩
 rw [← hS] at hp hSb hTab ⊢
 have HS := (show Hid (S = 2 ^ l) from hS)
 have hSI : (S : Int) ≤ 4096 := by omega
 have hlI : (l : Int) ≤ 12 := by omega
 have HTB := (show Hid (Tab xs S ∧ Good xs) from ⟨hTab, hG⟩)
 clear hT hS hG hTab
 go_enter Tryz.func99, Tryz.ntmps99
 go_wp2_with (go_at_call 117; refine (HT.out _ h).mono ?_; rintro e w' ⟨rfl, rfl⟩)
 have hT0 : IsT (w'.alloc (.cells Tryz.zeroCells215 215)) w'.heap.size 215 4096 (fun _ => 0) (fun _ => 0) (fun _ => 0) := by rw [zero71]; exact isT_zeros w' 215 4096
 have hK1 : Keep noBlock w' (w'.alloc (.cells Tryz.zeroCells215 215)) := (Keep.refl _ w').alloc _
 have hgb : xs ≠ [] → gb ≠ w'.heap.size := fun hn e => by have := h.block hn; omega
 have hR1 := h.keep hK1 (fun _ h => h)
 generalize w'.alloc (.cells Tryz.zeroCells215 215) = W1 at hT0 hK1 hR1 ⊢
 obtain ⟨cb, hcb⟩ : ∃ cb, cb = w'.heap.size := ⟨_, rfl⟩
 rw [← hcb] at hT0 hgb ⊢
 have HCB := (show Hid (cb = w'.heap.size) from hcb)
 clear hcb HT
 refine (setSymbols_any cb S xs a cap gb off W1 hT0 hR1 hgb HTB.out.1).mono ?_
 rintro e W2 ⟨rfl, hT2, hK2⟩
 have hR2 := hR1.keep hK2 hgb
 have hN := setNext_any cb l xs a cap gb off W2 (by rw [← HS.out]; exact hT2) hR2 hx hgb (by rw [← HS.out]; exact HTB.out.1) (by omega)
 rw [← HS.out] at hN
 have HNX := (show Hid (Calls Tryz.prog 119 _ W2 _) from hN)
 have HK := (show Hid (Keep noBlock w' W1 ∧ Keep (fun k => k = cb) W1 W2) from ⟨hK1, hK2⟩)
 clear hT0 hR1 hT2 hK2 hK1 hN
 go_wp2_with fail
 refine HNX.out.mono ?_
 rintro e W3 ⟨rfl, hT3, hK3⟩
 go_wp2_with fail
 refine (clone39_any cb S 4096 _ _ _ hSb W3 hT3).mono ?_
 rintro e W4 ⟨g, cap', rfl, hg, hcap, hRT, hK4⟩
 go_wp2_with fail
 go_ret2
 have k1 : Keep noBlock w' W3 := (HK.out.1.trans HK.out.2 (fun i hi e => by have := HCB.out; omega)).trans hK3 (fun i hi e => by have := HCB.out; omega)
 have hz := k1.size
 refine ⟨g, cap', rfl, by omega, hcap, ⟨fun i hi => ?_, hRT.lt⟩, k1.trans hK4 (fun _ _ h => h)⟩
 have := hRT.cells i hi
 rw [if_pos hi, if_pos hi] at this
 exact this
end

end Go.Proofs.YtnjilcokkhodmaaGreatDoor

namespace Go.Proofs.YtnjilcokkhodmaaGreatDoor
open Go.RowKit Go.Shelf

end Go.Proofs.YtnjilcokkhodmaaGreatDoor

namespace Go.Proofs.YtnjilcokkhodmaaGreatDoor
open Go.RowKit Go.Shelf
set_option linter.unusedVariables false

def cntF (bs : List Nat) (ms : Nat) : Nat → Nat → Nat → List Int → Bool → Option (Option (List Int × Nat))
  | 0, _, _, _, _ => none
  | f + 1, R, p, acc, more =>
    if R = 0 then some (some (acc, p)) else if ms < acc.length then some none
    else if more = true then (if 8 * bs.length < p + 2 then some none else cntF bs ms f R (p + 2) (acc ++ List.replicate (numAt bs p 2) 0) (decide (numAt bs p 2 = 3)))
    else match valR bs p R with
      | none => some none
      | some vp => cntF bs ms f (R - (shareN ((vp.1 : Int) - 1)).toNat) vp.2 (acc ++ [(vp.1 : Int) - 1]) (decide ((vp.1 : Int) - 1 = 0))
def Cnt (bs : List Nat) (ms R p : Nat) (acc : List Int) (more : Bool) (T : Option (List Int × Nat)) : Prop := ∃ f, cntF bs ms f R p acc more = some T
theorem Cnt.done {bs : List Nat} {ms : Nat} (p : Nat) (acc : List Int) (more : Bool) : Cnt bs ms 0 p acc more (some (acc, p)) := ⟨1, rfl⟩
theorem Cnt.full {bs : List Nat} {ms : Nat} (R p : Nat) (acc : List Int) (more : Bool) (hR : 1 ≤ R) (h : ms < acc.length) : Cnt bs ms R p acc more none := ⟨1, by unfold cntF; rw [if_neg (by omega), if_pos h]⟩
theorem Cnt.zshort {bs : List Nat} {ms : Nat} (R p : Nat) (acc : List Int) (hR : 1 ≤ R) (h : 8 * bs.length < p + 2) : Cnt bs ms R p acc true none := ⟨1, by
 unfold cntF
 rw [if_neg (by omega)]
 by_cases hf : ms < acc.length
 ·rw [if_pos hf]
 ·rw [if_neg hf, if_pos rfl, if_pos h]⟩
theorem Cnt.zeros {bs : List Nat} {ms : Nat} (R p : Nat) (acc : List Int) (T : Option (List Int × Nat)) (hR : 1 ≤ R) (h : acc.length ≤ ms) (hp : p + 2 ≤ 8 * bs.length) (hT : Cnt bs ms R (p + 2) (acc ++ List.replicate (numAt bs p 2) 0) (decide (numAt bs p 2 = 3)) T) : Cnt bs ms R p acc true T := by
 obtain ⟨f, hf⟩ := hT
 refine ⟨f + 1, ?_⟩
 unfold cntF
 rw [if_neg (by omega), if_neg (by omega), if_pos rfl, if_neg (by omega)]
 exact hf
theorem Cnt.cshort {bs : List Nat} {ms : Nat} (R p : Nat) (acc : List Int) (hR : 1 ≤ R) (h : acc.length ≤ ms) (hv : valR bs p R = none) : Cnt bs ms R p acc false none := ⟨1, by
 unfold cntF
 rw [if_neg (by omega), if_neg (by omega), if_neg (by decide), hv]⟩
theorem Cnt.count {bs : List Nat} {ms : Nat} (R p : Nat) (acc : List Int) (v p' : Nat) (T : Option (List Int × Nat)) (hR : 1 ≤ R) (h : acc.length ≤ ms) (hv : valR bs p R = some (v, p')) (hT : Cnt bs ms (R - (shareN ((v : Int) - 1)).toNat) p' (acc ++ [(v : Int) - 1]) (decide ((v : Int) - 1 = 0)) T) : Cnt bs ms R p acc false T := by
 obtain ⟨f, hf⟩ := hT
 refine ⟨f + 1, ?_⟩
 unfold cntF
 rw [if_neg (by omega), if_neg (by omega), if_neg (by decide), hv]
 exact hf
theorem cntF_cases {bs : List Nat} {ms f R p : Nat} {acc : List Int} {more : Bool} {T : Option (List Int × Nat)} (h : cntF bs ms (f + 1) R p acc more = some T) :
  (R = 0 ∧ T = some (acc, p)) ∨ T = none ∨ (1 ≤ R ∧ acc.length ≤ ms ∧ more = true ∧ p + 2 ≤ 8 * bs.length ∧ cntF bs ms f R (p + 2) (acc ++ List.replicate (numAt bs p 2) 0) (decide (numAt bs p 2 = 3)) = some T) ∨
  (∃ v p', 1 ≤ R ∧ acc.length ≤ ms ∧ more = false ∧ valR bs p R = some (v, p') ∧ cntF bs ms f (R - (shareN ((v : Int) - 1)).toNat) p' (acc ++ [(v : Int) - 1]) (decide ((v : Int) - 1 = 0)) = some T) := by
 unfold cntF at h
 by_cases c1 : R = 0
 ·rw [if_pos c1] at h; cases h; exact .inl ⟨c1, rfl⟩
 rw [if_neg c1] at h
 by_cases c2 : ms < acc.length
 ·rw [if_pos c2] at h; cases h; exact .inr (.inl rfl)
 rw [if_neg c2] at h
 by_cases c3 : more = true
 ·rw [if_pos c3] at h
  by_cases c4 : 8 * bs.length < p + 2
  ·rw [if_pos c4] at h; cases h; exact .inr (.inl rfl)
  ·rw [if_neg c4] at h; exact .inr (.inr (.inl ⟨by omega, by omega, c3, by omega, h⟩))
 ·rw [if_neg c3] at h
  cases hv : valR bs p R with
  | none => rw [hv] at h; cases h; exact .inr (.inl rfl)
  | some vp => rw [hv] at h; exact .inr (.inr (.inr ⟨vp.1, vp.2, by omega, by omega, by simpa using c3, rfl, h⟩))
theorem cntF_more {bs : List Nat} {ms : Nat} (d : Nat) : ∀ (f R p : Nat) (acc : List Int) (more : Bool) (T : Option (List Int × Nat)), cntF bs ms f R p acc more = some T → cntF bs ms (f + d) R p acc more = some T := by
  intro f
  induction f with
  | zero => intro R p acc more T h; cases h
  | succ f ih =>
    intro R p acc more T h
    rw [show f + 1 + d = (f + d) + 1 from by omega]
    unfold cntF at h ⊢
    by_cases c1 : R = 0
    · rw [if_pos c1] at h ⊢; exact h
    rw [if_neg c1] at h ⊢
    by_cases c2 : ms < acc.length
    · rw [if_pos c2] at h ⊢; exact h
    rw [if_neg c2] at h ⊢
    by_cases c3 : more = true
    · rw [if_pos c3] at h ⊢
      by_cases c4 : 8 * bs.length < p + 2
      · rw [if_pos c4] at h ⊢; exact h
      · rw [if_neg c4] at h ⊢; exact ih _ _ _ _ _ h
    · rw [if_neg c3] at h ⊢
      cases hv : valR bs p R with
      | none => rw [hv] at h; exact h
      | some vp => rw [hv] at h; exact ih _ _ _ _ _ h
theorem Cnt.det {bs : List Nat} {ms R p : Nat} {acc : List Int} {more : Bool} {T T' : Option (List Int × Nat)} (h : Cnt bs ms R p acc more T) (h' : Cnt bs ms R p acc more T') : T = T' := by
 obtain ⟨f, hf⟩ := h
 obtain ⟨f', hf'⟩ := h'
 have h1 := cntF_more f' f R p acc more T hf
 have h2 := cntF_more f f' R p acc more T' hf'
 rw [Nat.add_comm f' f, h1] at h2
 exact Option.some.inj h2

def CtsPost (T : Option (List Int × Nat)) (rb g : Nat) (bs : List Nat) (w : World) (e : Ending) (w' : World) : Prop :=
 Keep (fun k => k = rb) w w' ∧ match T with
  | none => ∃ E : Int, E ≠ 0 ∧ e = .returned (.tuple #[.slice none 0 0, .int .i64 E])
  | some (xs, p') => ∃ gc cap', e = .returned (.tuple #[.slice (some ⟨gc, 0, none⟩) xs.length cap', .int .i64 0]) ∧ w.heap.size ≤ gc ∧ RowI w' .i16 (some ⟨gc, 0, none⟩) cap' gc 0 xs ∧ IsR w' rb g bs p'
theorem cts_none {rb g : Nat} {bs : List Nat} {w w' : World} {E : Int} (hE : E ≠ 0) (hk : Keep (fun k => k = rb) w w') : CtsPost none rb g bs w (.returned (.tuple #[.slice none 0 0, .int .i64 E])) w' := ⟨hk, E, hE, rfl⟩

/-- What readCounts has. -/
structure Ct (w : World) (rb g ab : Nat) (bs : List Nat) (ms R0 p0 R q : Nat) (acc : List Int) (more : Bool) (W : World) : Prop where
 arr : IsA W ab 242 .i16 256 (fun j => acc[j]?.getD 0)
 at_ : IsR W rb g bs q
 keep : Keep (fun k => k = rb) w W
 to : ∀ T, Cnt bs ms R q acc more T → Cnt bs ms R0 p0 [] false T
 left : R ≤ 4096
 len : acc.length ≤ ms + 3
 end_ : R = 0 → acc.length ≤ ms + 1

set_option maxRecDepth 100000 in
set_option maxHeartbeats 4000000 in
theorem readCounts_all (rb g : Nat) (bs : List Nat) (p ms R0 : Nat) (w : World) (h : IsR w rb g bs p) (hrb : rb < w.heap.size) (hms2 : ms ≤ 255) (hR0 : R0 ≤ 4096) :
    Calls Tryz.prog 115 #[.pointer (some ⟨rb, 0, none⟩), .int .i64 (R0 : Int), .int .i64 (ms : Int)] w fun e w' => ∃ T, Cnt bs ms R0 p [] false T ∧ CtsPost T rb g bs w e w' := by
  have hA : IsA (w.alloc (.cells Tryz.zeroCells242 242)) w.heap.size 242 .i16 256 (fun _ => 0) := by rw [zero112]; exact isA_zeros w 242 .i16 256
  have hI1 := h.keep ((Keep.refl noBlock w).alloc (.cells Tryz.zeroCells242 242)) (fun h => h) (fun _ h => h)
  have HA := (show Hid (Ct w rb g w.heap.size bs ms R0 p R0 p [] false (w.alloc (.cells Tryz.zeroCells242 242))) from
    ⟨hA.congr (fun _ _ => by simp), hI1, (Keep.refl _ w).alloc _, fun _ h => h, hR0, by simp, fun _ => by simp⟩)
  have HH := (show Hid (g < w.heap.size) from h.lt)
  have hmsI : (ms : Int) ≤ 255 := by omega
  clear hA hI1 h hR0
  go_enter Tryz.func115, Tryz.ntmps115
  go_wp2_with fail
  refine wp_scope_straight ?_
  go_wp2_with fail
  refine wp_label ?_
  go_wp2_with fail
  generalize w.alloc (.cells Tryz.zeroCells242 242) = W1 at HA ⊢
  obtain ⟨ab, hab⟩ : ∃ ab, ab = w.heap.size := ⟨_, rfl⟩
  rw [← hab] at HA hrb ⊢
  have HAB := (show Hid (ab = w.heap.size) from hab)
  clear hab
  go_loopw [1, 9, 10, 11] (fun v1 v9 v10 v11 wr => ∃ (R q : Nat) (acc : List Int) (more : Bool), v1 = .int .i64 (R : Int) ∧ v9 = .int .i64 (acc.length : Int) ∧ v10 = .int .i64 0 ∧ v11 = .bool more ∧
    Hid (Ct w rb g ab bs ms R0 p R q acc more wr)) (fun _ v9 _ v11 _ => 2 * (ms + 4 - (intOf v9).toNat) + boolN v11)
  case atStart => exact ⟨R0, p, [], false, rfl, rfl, rfl, rfl, HA.out⟩
  case round =>
    clear HA
    obtain ⟨R, q, acc, more, rfl, rfl, rfl, rfl, HC⟩ := hrel
    obtain ⟨i, hi⟩ : ∃ i, i = acc.length := ⟨_, rfl⟩
    rw [← hi]
    have hlen := HC.out.len
    have hle := HC.out.left
    have hiI : (i : Int) ≤ 258 := by omega
    have hRI : (R : Int) ≤ 4096 := by omega
    have HI := (show Hid (i = acc.length) from hi)
    by_cases hR : R = 0
    · subst hR
      rw [show ((0 : Nat) : Int) = (0 : Int) from rfl]
      have hend := HC.out.end_ rfl
      have hib : (i : Int) ≤ 256 := by omega
      clear hi hlen hle hend
      go_wp2_with fail
      refine (clone65_any ab i 256 acc HI.out (by have := HI.out; omega) wr HC.out.arr.lt (fun j hj => HC.out.arr.cell j (by have := HI.out; omega))).mono ?_
      rintro e w3 ⟨gc, cap', rfl, hgc, hRow, hK3⟩
      go_wp2_with fail
      simp only [Exit.noGoto]
      go_ret2
      have hk := HC.out.keep
      refine ⟨some (acc, q), HC.out.to _ (.done q acc more), hk.trans hK3 (fun _ _ h => h.elim), gc, cap', rfl, by have := hk.size; omega, hRow, HC.out.at_.keep hK3 (fun h => h) (fun _ h => h)⟩
    · have hRp : 0 < (R : Int) := by omega
      by_cases hfu : ms < i
      · have hfI : (ms : Int) < (i : Int) := by omega
        have HD := (show Hid (Cnt bs ms R0 p [] false none ∧ Keep (fun k => k = rb) w wr) from ⟨HC.out.to _ (.full R q acc more (by omega) (by omega)), HC.out.keep⟩)
        clear hi hlen hle HC
        go_wp2_with fail
        simp only [Exit.noGoto]
        go_ret2
        exact ⟨none, HD.out.1, cts_none (by decide) HD.out.2⟩
      · have hfI : ¬ (ms : Int) < (i : Int) := by omega
        cases more with
        | true =>
          by_cases hsh : 8 * bs.length < q + 2
          · have HB := (show Hid (Calls Tryz.prog 114 #[.pointer (some ⟨rb, 0, none⟩), .int .i64 2] wr _) from bits_few_i rb g bs q 2 2 rfl (by omega) wr HC.out.at_ hsh)
            have HD := (show Hid (Cnt bs ms R0 p [] false none ∧ ∀ n, Keep (fun k => k = rb) w (wr.drewN n)) from ⟨HC.out.to _ (.zshort R q acc (by omega) hsh), fun n => HC.out.keep.trans (keep_drewN wr n) (fun _ _ h => h.elim)⟩)
            clear hi hlen hle HC hsh
            go_wp2_with fail
            refine HB.out.mono ?_
            rintro e w1 ⟨rfl, q1, rfl⟩
            go_wp2_with fail
            simp only [Exit.noGoto]
            go_ret2
            exact ⟨none, HD.out.1, cts_none (by decide) (HD.out.2 _)⟩
          · obtain ⟨z, hz⟩ : ∃ z, numAt bs q 2 = z := ⟨_, rfl⟩
            have hz4 := numAt_lt bs q 2
            rw [hz] at hz4
            have HB := (show Hid (Calls Tryz.prog 114 #[.pointer (some ⟨rb, 0, none⟩), .int .i64 2] wr _) from bits_take_i rb g bs q 2 z 2 rfl (by omega) wr HC.out.at_ (by omega) hz)
            have hzI : (z : Int) ≤ 3 := by omega
            have hiz : (i : Int) + (z : Int) = (((acc ++ List.replicate z 0).length : Nat) : Int) := by simp; omega
            obtain ⟨i3, hi3⟩ : ∃ i3, i3 = (acc ++ List.replicate z (0 : Int)).length := ⟨_, rfl⟩
            rw [← hi3] at hiz
            have hi3b : (i3 : Int) ≤ 258 := by omega
            have HD := (show Hid (i3 = (acc ++ List.replicate z (0 : Int)).length ∧ i3 = i + z ∧ i ≤ ms ∧ z ≤ 3 ∧ ∀ w1, IsR w1 rb g bs (q + 2) → Keep (fun k => k = rb) wr w1 → Ct w rb g ab bs ms R0 p R (q + 2) (acc ++ List.replicate z 0) (decide (z = 3)) w1) from ⟨hi3, by omega, by omega, by omega, fun w1 hI1 hK1 => by
              obtain ⟨h1, h2, h3, h4, h5, h6, h7⟩ := HC.out
              refine ⟨(h1.keep hK1 (by omega)).congr (fun j _ => ?_), hI1, h3.trans hK1 (fun _ _ h => h), fun T hT => h4 T (.zeros R q acc T (by omega) (by omega) (by omega) (by rw [hz]; exact hT)), h5, by rw [← hi3]; omega, fun e => absurd e hR⟩
              rw [List.getElem?_append]
              split
              · rfl
              · rw [List.getElem?_replicate]
                rename_i hj
                rw [List.getElem?_eq_none (by omega)]
                split <;> rfl⟩)
            clear hi hlen hle HC hsh hz hz4 hi3
            go_wp2_with fail
            refine HB.out.mono ?_
            rintro e w1 ⟨rfl, hI1, hK1⟩
            have HD1 := (show Hid (Ct w rb g ab bs ms R0 p R (q + 2) (acc ++ List.replicate z 0) (decide (z = 3)) w1) from HD.out.2.2.2.2 w1 hI1 hK1)
            clear hI1 hK1 HB
            by_cases hz3 : z = 3
            · subst hz3
              rw [show ((3 : Nat) : Int) = (3 : Int) from rfl] at hiz ⊢
              go_wp2_with fail
              go_roundw
              case rel => exact ⟨R, q + 2, acc ++ List.replicate 3 0, true, rfl, by rw [← HD.out.1], rfl, rfl, HD1.out⟩
              case measure => have := HD.out; have := HI.out; simp [intOf, boolN]; omega
            · have hk3 : ((z : Int) == 3) = false := by rw [beq_eq_false_iff_ne]; omega
              have hdz : decide (z = 3) = false := decide_eq_false hz3
              rw [hdz] at HD1
              go_wp2_with fail
              go_roundw
              case rel => exact ⟨R, q + 2, acc ++ List.replicate z 0, false, rfl, by rw [← HD.out.1], rfl, rfl, HD1.out⟩
              case measure => have := HD.out; have := HI.out; simp [intOf, boolN]; omega
        | false =>
          have HB := (show Hid (Calls Tryz.prog 136 _ wr _) from readCount_all rb g bs q R wr HC.out.at_ (by omega) hle)
          have hib : (i : Int) < 256 := by omega
          cases hvr : valR bs q R with
          | none =>
            rw [hvr] at HB
            have HD := (show Hid (Cnt bs ms R0 p [] false none ∧ Keep (fun k => k = rb) w wr ∧ IsA wr ab 242 .i16 256 (fun j => acc[j]?.getD 0)) from ⟨HC.out.to _ (.cshort R q acc (by omega) (by omega) hvr), HC.out.keep, HC.out.arr⟩)
            clear hi hlen hle HC
            go_wp2_with fail
            refine HB.out.mono ?_
            rintro e w1 ⟨hK1, he1⟩
            obtain rfl : e = .returned (.tuple #[.int .i16 0, .int .i64 10]) := he1
            have hA1 := HD.out.2.2.keep hK1 (by omega)
            have fz := hA1.frozen i
            have cz := hA1.cell i (by omega)
            have HK1 := (show Hid (Keep (fun k => k = rb) w w1) from HD.out.2.1.trans hK1 (fun _ _ h => h))
            clear hK1 hA1
            go_wp2_with fail
            simp only [Exit.noGoto]
            go_ret2
            exact ⟨none, HD.out.1, cts_none (by decide) (Keep.setCell HK1.out (fun h => by have := HAB.out; dsimp only at h; omega) _)⟩
          | some vp =>
            obtain ⟨v, p'⟩ := vp
            rw [hvr] at HB
            have hv := valR_le (by omega) hvr
            obtain ⟨c, hc⟩ : ∃ c : Int, c = (v : Int) - 1 := ⟨_, rfl⟩
            have hcb : -1 ≤ c := by omega
            have hcb2 : c ≤ 4096 := by omega
            have hs0 := shareN_pos c hcb
            have hsh : shareN c ≤ (R : Int) := by unfold shareN; split <;> omega
            obtain ⟨R2, hR2e⟩ : ∃ R2, R2 = R - (shareN c).toNat := ⟨_, rfl⟩
            have hsub : (R : Int) - shareN c = (R2 : Int) := by omega
            have hR2b : (R2 : Int) ≤ 4096 := by omega
            have HSH := (show Hid (∀ w : World, _) from fun w => share_any c (by omega) (by omega) w)
            have HD := (show Hid (∀ w1, IsR w1 rb g bs p' → Keep (fun k => k = rb) wr w1 → Ct w rb g ab bs ms R0 p R2 p' (acc ++ [c]) (decide (c = 0)) (w1.setCell ⟨ab, i, none⟩ (.int .i16 c)) ∧ IsA w1 ab 242 .i16 256 (fun j => acc[j]?.getD 0)) from fun w1 hI1 hK1 => by
              obtain ⟨h1, h2, h3, h4, h5, h6, h7⟩ := HC.out
              have kk : Keep (fun k => k = ab) w1 (w1.setCell ⟨ab, i, none⟩ (.int .i16 c)) := Keep.setCell (S := fun k => k = ab) (p := ⟨ab, i, none⟩) (Keep.refl _ w1) (fun _ => rfl) _
              have hab := HAB.out
              have hgl := HH.out
              have hA1 := h1.keep hK1 (by omega)
              refine ⟨⟨(hA1.set i c).congr (fun j _ => ?_), hI1.keep kk (by omega) (fun _ => by omega), (h3.trans hK1 (fun _ _ h => h)).trans kk (fun j hj e => by omega), fun T hT => h4 T (.count R q acc v p' T (by omega) (by omega) hvr (by rw [← hc, ← hR2e]; exact hT)), by omega, by simp; omega, fun _ => by simp; omega⟩, hA1⟩
              rw [List.getElem?_append]
              by_cases e : j = i
              · rw [if_pos e, if_neg (by omega), e, hi, Nat.sub_self]; rfl
              · rw [if_neg e]
                by_cases hj : j < acc.length
                · rw [if_pos hj]
                · rw [if_neg hj, List.getElem?_eq_none (show acc.length ≤ j by omega), List.getElem?_eq_none (by simp; omega)])
            have HL := (show Hid ((acc ++ [c]).length = i + 1 ∧ i ≤ ms) from ⟨by simp; omega, by omega⟩)
            have hcv : (v : Int) - 1 = c := hc.symm
            have HCV := (show Hid ((v : Int) - 1 = c) from hcv)
            clear hi hlen hle HC hvr hv hc hcv hsh hR2e
            generalize shareN c = sc at *
            go_wp2_with fail
            refine HB.out.mono ?_
            rintro e w1 ⟨hK1, he1⟩
            obtain ⟨rfl, hI1⟩ : e = .returned (.tuple #[.int .i16 ((v : Int) - 1), .int .i64 0]) ∧ IsR w1 rb g bs p' := he1
            rw [HCV.out]
            obtain ⟨hCt, hA1⟩ := HD.out w1 hI1 hK1
            have fz := hA1.frozen i
            have cz := hA1.cell i (by omega)
            have HE := (show Hid (Ct w rb g ab bs ms R0 p R2 p' (acc ++ [c]) (decide (c = 0)) (w1.setCell ⟨ab, i, none⟩ (.int .i16 c))) from hCt)
            clear hCt hA1 hI1 hK1 HD HB
            by_cases hc0 : c = 0
            · have hd : decide (c = 0) = true := decide_eq_true hc0
              rw [hd] at HE
              subst hc0
              go_wp2_with (go_at_call 128; refine (HSH.out _).mono ?_; rintro e w'' ⟨rfl, rfl⟩)
              go_roundw
              case rel => exact ⟨R2, p', acc ++ [0], true, rfl, by rw [HL.out.1]; go_num, rfl, rfl, HE.out⟩
              case measure => have := HL.out; simp [intOf, boolN]; omega
            · have hd : decide (c = 0) = false := decide_eq_false hc0
              rw [hd] at HE
              have hcb0 : (c == 0) = false := by simpa using hc0
              go_wp2_with (go_at_call 128; refine (HSH.out _).mono ?_; rintro e w'' ⟨rfl, rfl⟩)
              go_roundw
              case rel => exact ⟨R2, p', acc ++ [c], false, rfl, by rw [HL.out.1]; go_num, rfl, rfl, HE.out⟩
              case measure => have := HL.out; simp [intOf, boolN]; omega

end Go.Proofs.YtnjilcokkhodmaaGreatDoor
