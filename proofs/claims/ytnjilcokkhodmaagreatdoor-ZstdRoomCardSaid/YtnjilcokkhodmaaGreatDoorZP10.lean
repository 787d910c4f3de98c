/-
  isTable: of a table whose states all lead into it.
  readCount of any bits.
  The document's own reader: what each of its calls does.
-/
import Derived.Test.YtnjilcokkhodmaaGreatDoorZP9
namespace Go.Proofs.YtnjilcokkhodmaaGreatDoor
open Go.RowKit Go.Shelf
set_option linter.unusedVariables false

/-- A table by which codes of a coding are read. -/
structure GoodT (K : Kd) (T : Tb) : Prop where
 hl : T.l ≤ K.ml
 ml : K.ml ≤ 9
 sy : ∀ s, s < 2 ^ T.l → T.sy s < K.codes
 bi : ∀ s, s < 2 ^ T.l → T.bi s ≤ 9
 ba : ∀ s, s < 2 ^ T.l → T.ba s + 2 ^ T.bi s ≤ 2 ^ T.l
def cntY (sy : Nat → Nat) : Nat → Nat → Nat
 | 0, _ => 0
 | k + 1, s => cntY sy k s + (if sy k = s then 1 else 0)
theorem cntY_le (sy : Nat → Nat) (s : Nat) : ∀ k, cntY sy k s ≤ k
  | 0 => Nat.le_refl _
  | k + 1 => by
    have := cntY_le sy s k
    unfold cntY
    split <;> omega
theorem cntY_mono (sy : Nat → Nat) (s k : Nat) : ∀ d, cntY sy k s ≤ cntY sy (k + d) s
  | 0 => Nat.le_refl _
  | d + 1 => by
    have := cntY_mono sy s k d
    show _ ≤ cntY sy (k + d) s + _
    omega
theorem cntY_pos (sy : Nat → Nat) {k n : Nat} (h : k < n) : 1 ≤ cntY sy n (sy k) := by
 have h1 : cntY sy (k + 1) (sy k) = cntY sy k (sy k) + 1 := by simp [cntY]
 obtain ⟨d, rfl⟩ : ∃ d, n = k + 1 + d := ⟨n - (k + 1), by omega⟩
 have := cntY_mono sy (sy k) (k + 1) d
 omega
def xT (T : Tb) (k : Nat) : Nat := cntY T.sy (2 ^ T.l) (T.sy k) + cntY T.sy k (T.sy k)
def chkT (T : Tb) (k : Nat) : Bool := decide ((T.bi k : Int) = (T.l : Int) - ((lenN (xT T k) : Int) - 1)) && decide ((T.ba k : Int) = ((xT T k * 2 ^ T.bi k : Nat) : Int) - ((2 ^ T.l : Nat) : Int))
def allT (T : Tb) : Nat → Bool
 | 0 => true
 | k + 1 => allT T k && chkT T k
def isTabB (T : Tb) : Bool := (decide (T.l = 0) || decide (5 ≤ T.l)) && allT T (2 ^ T.l)
theorem allT_no {T : Tb} {k : Nat} (h : chkT T k = false) : ∀ n, k < n → allT T n = false
  | 0, hn => by omega
  | n + 1, hn => by
    unfold allT
    by_cases e : k = n
    · subst e; rw [h, Bool.and_false]
    · rw [allT_no h n (by omega), Bool.false_and]
theorem zero234 : (#[.int .i64 0, .int .i64 0, .int .i64 0, .int .i64 0, .int .i64 0, .int .i64 0, .int .i64 0, .int .i64 0, .int .i64 0, .int .i64 0, .int .i64 0, .int .i64 0, .int .i64 0, .int .i64 0, .int .i64 0, .int .i64 0, .int .i64 0, .int .i64 0, .int .i64 0, .int .i64 0, .int .i64 0, .int .i64 0, .int .i64 0, .int .i64 0, .int .i64 0, .int .i64 0, .int .i64 0, .int .i64 0, .int .i64 0, .int .i64 0, .int .i64 0, .int .i64 0, .int .i64 0, .int .i64 0, .int .i64 0, .int .i64 0, .int .i64 0, .int .i64 0, .int .i64 0, .int .i64 0, .int .i64 0, .int .i64 0, .int .i64 0, .int .i64 0, .int .i64 0, .int .i64 0, .int .i64 0, .int .i64 0, .int .i64 0, .int .i64 0, .int .i64 0, .int .i64 0, .int .i64 0] : Array Value) = (List.replicate 53 (Value.int .i64 0)).toArray := by kernel_rfl

set_option maxRecDepth 100000 in
set_option maxHeartbeats 8000000 in
theorem isTable_any (w : World) (b o gk tg cap : Nat) (K : Kd) (T : Tb) (hC : Coding w b o gk K) (hT : IsTb w tg T) (hG : GoodT K T) :
  Calls Tryz.prog 107 #[.pointer (some ⟨b, o, none⟩), .slice (some ⟨tg, 0, none⟩) (2 ^ T.l) cap] w fun e w' => e = .returned (.bool (isTabB T)) ∧ Keep noBlock w w' := by
 have c1 := hC.ml
 have hl9 : T.l ≤ 9 := Nat.le_trans hG.hl hG.ml
 have hS : 2 ^ T.l ≤ 512 := Nat.pow_le_pow_right (n := 2) (j := 9) (by omega) hl9
 obtain ⟨S, hSe⟩ : ∃ S, S = 2 ^ T.l := ⟨_, rfl⟩
 obtain ⟨l, hle⟩ : ∃ l, l = T.l := ⟨_, rfl⟩
 obtain ⟨ml, hml⟩ : ∃ ml, ml = K.ml := ⟨_, rfl⟩
 have HLg := (show Hid (∀ W : World, Calls Tryz.prog 69 #[.slice (some ⟨tg, 0, none⟩) S cap] W fun e w' => e = .returned (.int .i64 (l : Int)) ∧ w' = W) from fun W => by rw [hle]; exact logOf_any (some ⟨tg, 0, none⟩) S T.l cap hSe (by omega) W)
 have hlm : l ≤ ml := by rw [hle, hml]; exact hG.hl
 rw [← hml] at c1
 rw [← hSe] at hS ⊢
 rw [← hle] at hl9
 have hpl : (2 : Int) ^ l = (S : Int) := by rw [hSe, hle]; simp
 have hm9 : ml ≤ 9 := by rw [hml]; exact hG.ml
 have HH := (show Hid (Coding w b o gk K ∧ IsTb w tg T ∧ GoodT K T ∧ S = 2 ^ T.l ∧ l = T.l) from ⟨hC, hT, hG, hSe, hle⟩)
 by_cases hA : l ≠ 0 ∧ l < 5
 ·have HF := hid (show isTabB T = false from by unfold isTabB; rw [← hle, decide_eq_false hA.1, decide_eq_false (show ¬ 5 ≤ l by omega)]; rfl)
  have g1 : ((l : Int) != 0) = true := by simp; omega
  have g2 : decide ((l : Int) < 5) = true := decide_eq_true (by omega)
  clear hC hT hG hSe hle hml
  go_enter Tryz.func107, Tryz.ntmps107
  go_wp2_with fail
  refine (HLg.out _).mono ?_
  rintro e w1 ⟨rfl, rfl⟩
  go_wp2_with fail
  go_ret
  exact ⟨by rw [HF.out]; rfl, Keep.refl _ _⟩
 ·have HA := (show Hid (IsA (w.alloc (.cells #[.int .i64 0, .int .i64 0, .int .i64 0, .int .i64 0, .int .i64 0, .int .i64 0, .int .i64 0, .int .i64 0, .int .i64 0, .int .i64 0, .int .i64 0, .int .i64 0, .int .i64 0, .int .i64 0, .int .i64 0, .int .i64 0, .int .i64 0, .int .i64 0, .int .i64 0, .int .i64 0, .int .i64 0, .int .i64 0, .int .i64 0, .int .i64 0, .int .i64 0, .int .i64 0, .int .i64 0, .int .i64 0, .int .i64 0, .int .i64 0, .int .i64 0, .int .i64 0, .int .i64 0, .int .i64 0, .int .i64 0, .int .i64 0, .int .i64 0, .int .i64 0, .int .i64 0, .int .i64 0, .int .i64 0, .int .i64 0, .int .i64 0, .int .i64 0, .int .i64 0, .int .i64 0, .int .i64 0, .int .i64 0, .int .i64 0, .int .i64 0, .int .i64 0, .int .i64 0, .int .i64 0] 234)) w.heap.size 234 .i64 53 (fun _ => 0) ∧ Keep noBlock w (w.alloc (.cells #[.int .i64 0, .int .i64 0, .int .i64 0, .int .i64 0, .int .i64 0, .int .i64 0, .int .i64 0, .int .i64 0, .int .i64 0, .int .i64 0, .int .i64 0, .int .i64 0, .int .i64 0, .int .i64 0, .int .i64 0, .int .i64 0, .int .i64 0, .int .i64 0, .int .i64 0, .int .i64 0, .int .i64 0, .int .i64 0, .int .i64 0, .int .i64 0, .int .i64 0, .int .i64 0, .int .i64 0, .int .i64 0, .int .i64 0, .int .i64 0, .int .i64 0, .int .i64 0, .int .i64 0, .int .i64 0, .int .i64 0, .int .i64 0, .int .i64 0, .int .i64 0, .int .i64 0, .int .i64 0, .int .i64 0, .int .i64 0, .int .i64 0, .int .i64 0, .int .i64 0, .int .i64 0, .int .i64 0, .int .i64 0, .int .i64 0, .int .i64 0, .int .i64 0, .int .i64 0, .int .i64 0] 234))) from ⟨by rw [zero234]; exact isA_zeros w 234 .i64 53, (Keep.refl _ w).alloc _⟩)
  have g3 : ¬ ml < l := by omega
  have g3D : decide (ml < l) = false := decide_eq_false g3
  have hl9I : (l : Int) ≤ 9 := by omega
  have hS5 : (S : Int) ≤ 512 := by omega
  have HZ : Hid ((l : Int) = 0 ∨ (((l : Int) != 0) = true ∧ decide ((l : Int) < 5) = false)) := by
   by_cases hz : l = 0
   ·left; omega
   ·right; exact ⟨by simp; omega, decide_eq_false (by omega)⟩
  have HC0 := (show Hid (IsTb w tg T ∧ Coding w b o gk K) from ⟨hT, hC⟩)
  clear hC hT hG hSe hle hml
  go_enter Tryz.func107, Tryz.ntmps107
  go_wp2_with fail
  refine (HLg.out _).mono ?_
  rintro e w1 ⟨rfl, rfl⟩
  clear HLg
  generalize hnb : w1.heap.size = nb at HA ⊢
  rcases HZ.out with hz | ⟨hz1, hz2⟩
  ·have hz0 : ((l : Int) != 0) = false := by rw [hz]; rfl
   clear hz
   go_wp2_with fail
   generalize hW1 : w1.alloc (.cells #[.int .i64 0, .int .i64 0, .int .i64 0, .int .i64 0, .int .i64 0, .int .i64 0, .int .i64 0, .int .i64 0, .int .i64 0, .int .i64 0, .int .i64 0, .int .i64 0, .int .i64 0, .int .i64 0, .int .i64 0, .int .i64 0, .int .i64 0, .int .i64 0, .int .i64 0, .int .i64 0, .int .i64 0, .int .i64 0, .int .i64 0, .int .i64 0, .int .i64 0, .int .i64 0, .int .i64 0, .int .i64 0, .int .i64 0, .int .i64 0, .int .i64 0, .int .i64 0, .int .i64 0, .int .i64 0, .int .i64 0, .int .i64 0, .int .i64 0, .int .i64 0, .int .i64 0, .int .i64 0, .int .i64 0, .int .i64 0, .int .i64 0, .int .i64 0, .int .i64 0, .int .i64 0, .int .i64 0, .int .i64 0, .int .i64 0, .int .i64 0, .int .i64 0, .int .i64 0, .int .i64 0] 234) = W1 at HA ⊢
   go_loopw [38] (fun v38 wr => ∃ i : Nat, v38 = .int .i64 (i : Int) ∧ i ≤ S ∧ Hid (IsA wr nb 234 .i64 53 (fun s => ((cntY T.sy i s : Nat) : Int)) ∧ Keep noBlock w1 wr)) (fun v38 _ => S - (intOf v38).toNat)
   case atStart => exact ⟨0, rfl, Nat.zero_le _, HA.out.1.congr (fun i _ => rfl), HA.out.2⟩
   case round =>
    obtain ⟨i, rfl, hi, HC⟩ := hrel
    by_cases hlt : i < S
    ·have hiI : (i : Int) < (S : Int) := by omega
     obtain ⟨h1, h2⟩ := HC.out
     have hTb := HC0.out.1.keep h2 (fun h => h)
     have hCd := HC0.out.2.keep h2 (fun h => h) (fun h => h)
     obtain ⟨d1, d2, d3⟩ := hTb.cells i (by rw [← HH.out.2.2.2.1]; exact hlt)
     have hsy := HH.out.2.2.1.sy i (by rw [← HH.out.2.2.2.1]; exact hlt)
     have hcl := HH.out.1.ok.le
     have c0 := hCd.codes
     obtain ⟨sy, hsye⟩ : ∃ sy, sy = T.sy i := ⟨_, rfl⟩
     obtain ⟨bi, hbie⟩ : ∃ bi, bi = T.bi i := ⟨_, rfl⟩
     obtain ⟨ba, hbae⟩ : ∃ ba, ba = T.ba i := ⟨_, rfl⟩
     obtain ⟨m, hm⟩ : ∃ m, m = K.codes := ⟨_, rfl⟩
     rw [← hsye] at d1 hsy
     rw [← hbie] at d2
     rw [← hbae] at d3
     rw [← hm] at c0 hsy hcl
     have hb := hCd.lt
     have htl := hTb.lt
     have hnl := h1.lt
     obtain ⟨V, hV⟩ : ∃ V, V = wr.alloc (.cells #[.int .u8 (sy : Int), .int .u8 (bi : Int), .int .u16 (ba : Int)] 130) := ⟨_, rfl⟩
     have kV : Keep noBlock wr V := by rw [hV]; exact (Keep.refl _ wr).alloc _
     have oV : V.heap[wr.heap.size]? = some (.cells #[.int .u8 (sy : Int), .int .u8 (bi : Int), .int .u16 (ba : Int)] 130 (0, 0)) := by rw [hV]; exact alloc_new wr _
     have e0 : V.cell? ⟨wr.heap.size, 0, none⟩ = some (.int .u8 (sy : Int)) := cell_of oV 0
     have e1 : V.cell? ⟨b, o, none⟩ = some (.int .i64 (m : Int)) := keep_cell0 kV c0
     obtain ⟨V2, hV2⟩ : ∃ V2, V2 = V.drew := ⟨_, rfl⟩
     have kV2 : Keep noBlock wr V2 := by rw [hV2]; exact kV.drew
     have hA2 := h1.keep kV2 (fun h => h)
     have hs53 : sy < 53 := by omega
     have q0 : V2.cell? ⟨wr.heap.size, 0, none⟩ = some (.int .u8 (sy : Int)) := by rw [hV2]; exact e0
     have q2 := hA2.cell sy hs53
     have f2 := hA2.frozen sy
     obtain ⟨x, hx⟩ : ∃ x, x = cntY T.sy i sy := ⟨_, rfl⟩
     rw [← hx] at q2
     have hxb : x ≤ 512 := by have := cntY_le T.sy sy i; omega
     have HN := (show Hid (IsA (V2.setCell ⟨nb, sy, none⟩ (.int .i64 ((x + 1 : Nat) : Int))) nb 234 .i64 53 (fun s => ((cntY T.sy (i + 1) s : Nat) : Int)) ∧ Keep noBlock w1 (V2.setCell ⟨nb, sy, none⟩ (.int .i64 ((x + 1 : Nat) : Int)))) from by
      refine ⟨(hA2.set sy _).congr (fun j _ => ?_), (h2.trans' kV2).trans ((Keep.refl (fun k => k = nb) V2).setCell (p := ⟨nb, sy, none⟩) (fun _ => rfl) _) (fun j hj e => by omega)⟩
      simp only [cntY, ← hsye]
      by_cases e : j = sy
      ·rw [if_pos e, e, if_pos rfl, hx]
      ·rw [if_neg e, if_neg (fun h => e h.symm), Nat.add_zero])
     have hxI : (x : Int) + 1 = ((x + 1 : Nat) : Int) := by omega
     obtain ⟨x1, hx1⟩ : ∃ x1, x1 = x + 1 := ⟨_, rfl⟩
     rw [← hx1] at hxI HN
     have hx1b : (x1 : Int) ≤ 513 := by omega
     have hwsy : IntKind.i64.wrap (sy : Int) = (sy : Int) := by rw [IntKind.wrap_i64]; omega
     have hsyN : ¬ m ≤ sy := by omega
     have hsyI : ¬ (m : Int) ≤ (sy : Int) := by omega
     have hsyD : decide (m ≤ sy) = false := decide_eq_false hsyN
     have hs5I : (sy : Int) < 53 := by omega
     have hsy256 : (sy : Int) < 256 := by omega
     have HV2 := hid hV2
     have HV := hid hV
     clear h1 h2 hTb hCd hsye hbie hbae hm hA2 hx HC oV kV kV2 hb htl hnl hx1 hsy hcl hxb c0 hV2
     rw [hV] at e0 e1
     go_wp2_with fail
     go_region_held3 (fun W => W.cell? ⟨wr.heap.size, 0, none⟩ = some (.int .u8 (sy : Int)) ∧ W.cell? ⟨b, o, none⟩ = some (.int .i64 (m : Int))) (first | exact ⟨e0, e1⟩ | assumption) (fail)
     rw [← HV.out, ← HV2.out]
     clear e0 e1 HV HV2 hV
     go_wp2_with fail
     go_roundw
     case rel => exact ⟨i + 1, by go_num, by omega, HN.out⟩
     case measure => simp [intOf]; omega
    ·obtain rfl : i = S := by omega
     clear HA
     have HC2 := (show Hid (IsA wr nb 234 .i64 53 (fun s => ((cntY T.sy i s + cntY T.sy 0 s : Nat) : Int)) ∧ Keep noBlock w1 wr) from ⟨HC.out.1.congr (fun j _ => by simp [cntY]), HC.out.2⟩)
     clear HC
     go_wp2_with fail
     obtain ⟨wA, hwA⟩ : ∃ wA, wA = wr := ⟨_, rfl⟩
     rw [← hwA] at HC2 ⊢
     clear hwA
     go_loopw [59] (fun v59 wr => ∃ k : Nat, v59 = .int .i64 (k : Int) ∧ k ≤ i ∧ Hid (allT T k = true ∧ IsA wr nb 234 .i64 53 (fun s => ((cntY T.sy i s + cntY T.sy k s : Nat) : Int)) ∧ Keep noBlock w1 wr)) (fun v59 _ => i - (intOf v59).toNat)
     case atStart => exact ⟨0, rfl, Nat.zero_le _, rfl, HC2.out⟩
     case round =>
      clear HC2
      obtain ⟨k, rfl, hk, HC⟩ := hrel
      by_cases hlt : k < i
      ·have hiI : (k : Int) < (i : Int) := by omega
       obtain ⟨h0, h1, h2⟩ := HC.out
       have hTb := HC0.out.1.keep h2 (fun h => h)
       obtain ⟨d1, d2, d3⟩ := hTb.cells k (by rw [← HH.out.2.2.2.1]; exact hlt)
       have hsy := HH.out.2.2.1.sy k (by rw [← HH.out.2.2.2.1]; exact hlt)
       have hbi := HH.out.2.2.1.bi k (by rw [← HH.out.2.2.2.1]; exact hlt)
       have hba := HH.out.2.2.1.ba k (by rw [← HH.out.2.2.2.1]; exact hlt)
       rw [← HH.out.2.2.2.1] at hba
       have hba' : T.ba k ≤ i := Nat.le_trans (Nat.le_add_right _ _) hba
       have hcl := HH.out.1.ok.le
       have hxe : xT T k = cntY T.sy i (T.sy k) + cntY T.sy k (T.sy k) := by unfold xT; rw [← HH.out.2.2.2.1]
       have hxp : 1 ≤ cntY T.sy i (T.sy k) := cntY_pos T.sy hlt
       have hx1 := cntY_le T.sy (T.sy k) i
       have hx2 := cntY_le T.sy (T.sy k) k
       have hck : chkT T k = (decide ((T.bi k : Int) = (l : Int) - ((lenN (xT T k) : Int) - 1)) && decide ((T.ba k : Int) = ((xT T k * 2 ^ T.bi k : Nat) : Int) - (i : Int))) := by unfold chkT; rw [← HH.out.2.2.2.1, ← HH.out.2.2.2.2]
       obtain ⟨x, hx⟩ : ∃ x, x = xT T k := ⟨_, rfl⟩
       rw [← hx] at hxe hck
       have hA0 : IsA wr nb 234 .i64 53 (fun s => ((cntY T.sy i s + cntY T.sy k s : Nat) : Int)) := h1
       have hq2 := h1.cell (T.sy k) (by omega)
       rw [← hxe] at hq2
       obtain ⟨sy, hsye⟩ : ∃ sy, sy = T.sy k := ⟨_, rfl⟩
       obtain ⟨bi, hbie⟩ : ∃ bi, bi = T.bi k := ⟨_, rfl⟩
       obtain ⟨ba, hbae⟩ : ∃ ba, ba = T.ba k := ⟨_, rfl⟩
       rw [← hsye] at d1 hsy hxe hq2
       rw [← hbie] at d2 hbi hba hck
       rw [← hbae] at d3 hba hba' hck
       have hs53 : sy < 53 := by omega
       have htl := hTb.lt
       have hnl := h1.lt
       have hxb : x ≤ 1024 := by rw [hsye] at hxe; omega
       have hx0 : x ≠ 0 := by rw [hsye] at hxe; omega
       obtain ⟨hL1, hL2, hL3⟩ := lenN_pos x hx0
       have hL4 : lenN x ≤ 11 := by
        rcases Nat.lt_or_ge (lenN x) 12 with q | q
        ·omega
        ·exfalso
         have : 2 ^ 11 ≤ 2 ^ (lenN x - 1) := Nat.pow_le_pow_right (by omega) (by omega)
         omega
       have HLen := (show Hid (∀ W : World, Calls Tryz.prog 92 #[.int .u64 (x : Int)] W fun e w' => e = .returned (.int .i64 ((lenN x : Nat) : Int)) ∧ w' = W) from fun W => len_any x (by omega) W)
       obtain ⟨L, hL⟩ : ∃ L, L = lenN x := ⟨_, rfl⟩
       rw [← hL] at hL3 hL4 HLen hck
       obtain ⟨V, hV⟩ : ∃ V, V = wr.alloc (.cells #[.int .u8 (sy : Int), .int .u8 (bi : Int), .int .u16 (ba : Int)] 130) := ⟨_, rfl⟩
       have kV : Keep noBlock wr V := by rw [hV]; exact (Keep.refl _ wr).alloc _
       have oV : V.heap[wr.heap.size]? = some (.cells #[.int .u8 (sy : Int), .int .u8 (bi : Int), .int .u16 (ba : Int)] 130 (0, 0)) := by rw [hV]; exact alloc_new wr _
       have hA2 := hA0.keep kV (fun h => h)
       have q2 : V.cell? ⟨nb, sy, none⟩ = some (.int .i64 (x : Int)) := keep_cell0 kV hq2
       have f2 := hA2.frozen sy
       have hxI : (x : Int) + 1 = ((x + 1 : Nat) : Int) := by omega
       obtain ⟨x1, hx1e⟩ : ∃ x1, x1 = x + 1 := ⟨_, rfl⟩
       rw [← hx1e] at hxI
       have hx1b : (x1 : Int) ≤ 1025 := by omega
       obtain ⟨V2, hV2⟩ : ∃ V2, V2 = V.setCell ⟨nb, sy, none⟩ (.int .i64 (x1 : Int)) := ⟨_, rfl⟩
       have kV2 : Keep (fun j => j = nb) V V2 := by rw [hV2]; exact (Keep.refl (fun j => j = nb) V).setCell (p := ⟨nb, sy, none⟩) (fun _ => rfl) _
       have oV2 := kV2.obj oV (by omega)
       have r0 : V2.cell? ⟨wr.heap.size, 0, none⟩ = some (.int .u8 (sy : Int)) := cell_of oV2 0
       have r1 : V2.cell? ⟨wr.heap.size, 1, none⟩ = some (.int .u8 (bi : Int)) := cell_of oV2 1
       have r2 : V2.cell? ⟨wr.heap.size, 2, none⟩ = some (.int .u16 (ba : Int)) := cell_of oV2 2
       have HN := (show Hid (IsA V2 nb 234 .i64 53 (fun s => ((cntY T.sy i s + cntY T.sy (k + 1) s : Nat) : Int)) ∧ Keep noBlock w1 V2) from by
        refine ⟨?_, (h2.trans' kV).trans kV2 (fun j hj e => by omega)⟩
        rw [hV2]
        refine (hA2.set sy _).congr (fun j _ => ?_)
        simp only [cntY, ← hsye]
        by_cases e : j = sy
        ·rw [if_pos e, e, if_pos rfl, hx1e, hxe]; omega
        ·rw [if_neg e, if_neg (fun h => e h.symm), Nat.add_zero])
       obtain ⟨L1, hL1e⟩ : ∃ L1, L1 = L - 1 := ⟨_, rfl⟩
       have hL1I : (L : Int) - 1 = (L1 : Int) := by omega
       rw [hL1I] at hck
       have hs5I : (sy : Int) < 53 := by omega
       have hsy256 : (sy : Int) < 256 := by omega
       have hxu : IntKind.u64.wrap (x : Int) = (x : Int) := by rw [IntKind.wrap_u64]; omega
       have hwbi : IntKind.i64.wrap (bi : Int) = (bi : Int) := by rw [IntKind.wrap_i64]; omega
       have hwba : IntKind.i64.wrap (ba : Int) = (ba : Int) := by rw [IntKind.wrap_i64]; omega
       have hLI : (L : Int) ≤ 11 := by omega
       have hL1b : (L1 : Int) ≤ 11 := by omega
       have HV := hid hV
       have HV2 := hid hV2
       have HA0 := hid h0
       have HCK := hid hck
       have hba9 : ba < 65536 := by omega
       have hp2 : 2 ^ bi ≤ 512 := Nat.pow_le_pow_right (n := 2) (j := 9) (by omega) hbi
       by_cases hB : (bi : Int) = (l : Int) - (L1 : Int)
       ·have hBr : (l : Int) - (L1 : Int) = (bi : Int) := hB.symm
        obtain ⟨y, hy⟩ : ∃ y, y = x * 2 ^ bi := ⟨_, rfl⟩
        have hyI : (x : Int) * 2 ^ bi = (y : Int) := by rw [hy]; simp
        have hyb : y ≤ 524288 := by rw [hy]; exact Nat.le_trans (Nat.mul_le_mul hxb hp2) (by omega)
        have hybI : (y : Int) ≤ 524288 := by omega
        have hwy : IntKind.i64.wrap (y : Int) = (y : Int) := by rw [IntKind.wrap_i64]; omega
        rw [← hy] at hck
        have hbi9 : (bi : Int) ≤ 9 := by omega
        by_cases hD : (ba : Int) = (y : Int) - (i : Int)
        ·have hDr : (y : Int) - (i : Int) = (ba : Int) := hD.symm
         have HF := hid (show allT T (k + 1) = true from by unfold allT; rw [h0, hck, decide_eq_true hB, decide_eq_true hD]; rfl)
         clear h0 h1 h2 hTb hsye hbie hbae hA2 hA0 hx HC oV oV2 kV kV2 htl hnl hx1e hsy hcl hxb hxe hq2 hL hL1 hL2 hck hx1 hx2 hxp hV2 hba hL1e hp2 hB hD hy
         rw [hV] at q2 f2
         go_wp2_with fail
         rw [← HV.out, ← HV2.out]
         refine (HLen.out _).mono ?_
         rintro e w9 ⟨rfl, rfl⟩
         go_wp2_with fail
         go_region_held3 (fun W => W.cell? ⟨wr.heap.size, 1, none⟩ = some (.int .u8 (bi : Int)) ∧ W.cell? ⟨wr.heap.size, 2, none⟩ = some (.int .u16 (ba : Int))) (first | exact ⟨r1, r2⟩ | assumption) (fail)
         go_wp2_with fail
         go_roundw
         case rel => exact ⟨k + 1, by go_num, by omega, HF.out, HN.out.1.keep ((Keep.refl noBlock _).drew) (fun h => h), HN.out.2.drew⟩
         case measure => simp [intOf]; omega
        ·obtain ⟨D, hDe⟩ : ∃ D : Int, D = (y : Int) - (i : Int) := ⟨_, rfl⟩
         have hDr : (y : Int) - (i : Int) = D := hDe.symm
         have hDn : ((ba : Int) != D) = true := by rw [hDe]; simpa using hD
         have hDb1 : D ≤ 524288 := by omega
         have hDb2 : -513 ≤ D := by omega
         have hwD : IntKind.i64.wrap D = D := by rw [IntKind.wrap_i64]; omega
         have HF := hid (show isTabB T = false from by
          unfold isTabB
          rw [← HH.out.2.2.2.1, allT_no (k := k) (by rw [hck, decide_eq_false hD, Bool.and_false]) i hlt, Bool.and_false])
         clear h0 h1 h2 hTb hsye hbie hbae hA2 hA0 hx HC oV oV2 kV kV2 htl hnl hx1e hsy hcl hxb hxe hq2 hL hL1 hL2 hck hx1 hx2 hxp hV2 hba hL1e hp2 hB hD hy hDe
         rw [hV] at q2 f2
         go_wp2_with fail
         rw [← HV.out, ← HV2.out]
         refine (HLen.out _).mono ?_
         rintro e w9 ⟨rfl, rfl⟩
         go_wp2_with fail
         go_region_held3 (fun W => W.cell? ⟨wr.heap.size, 1, none⟩ = some (.int .u8 (bi : Int)) ∧ W.cell? ⟨wr.heap.size, 2, none⟩ = some (.int .u16 (ba : Int))) (first | exact ⟨r1, r2⟩ | assumption) (fail)
         go_wp2_with fail
         go_ret
         exact ⟨by rw [HF.out]; rfl, HN.out.2.drew⟩
       ·obtain ⟨B, hBe⟩ : ∃ B : Int, B = (l : Int) - (L1 : Int) := ⟨_, rfl⟩
        have hBr : (l : Int) - (L1 : Int) = B := hBe.symm
        have hBn : ((bi : Int) != B) = true := by rw [hBe]; simpa using hB
        have hBq : ((bi : Int) == B) = false := by rw [hBe]; simpa using hB
        have hBd : decide ((bi : Int) = B) = false := decide_eq_false (by rw [hBe]; exact hB)
        have hBb1 : B ≤ 9 := by omega
        have hBb2 : -12 ≤ B := by omega
        have hwB : IntKind.i64.wrap B = B := by rw [IntKind.wrap_i64]; omega
        have HF := hid (show isTabB T = false from by
         unfold isTabB
         rw [← HH.out.2.2.2.1, allT_no (k := k) (by rw [hck, decide_eq_false hB, Bool.false_and]) i hlt, Bool.and_false])
        clear h0 h1 h2 hTb hsye hbie hbae hA2 hA0 hx HC oV oV2 kV kV2 htl hnl hx1e hsy hcl hxb hxe hq2 hL hL1 hL2 hck hx1 hx2 hxp hV2 hba hL1e hp2 hB hBe
        rw [hV] at q2 f2
        go_wp2_with fail
        rw [← HV.out, ← HV2.out]
        refine (HLen.out _).mono ?_
        rintro e w9 ⟨rfl, rfl⟩
        go_wp2_with fail
        refine wp_region_held_drew (S := fun W => W.cell? ⟨wr.heap.size, 1, none⟩ = some (.int .u8 (bi : Int)) ∧ W.cell? ⟨wr.heap.size, 2, none⟩ = some (.int .u16 (ba : Int))) mx (⟨r1, r2⟩) (fun hS => ?_)
        refine wpAnyH_take (i := 0) (v := ?_) rfl (by kernel_rfl) (by kernel_rfl) (by kernel_rfl) (fun _ _ _ h => h) (Or.inl ⟨by rfl, ?_⟩) hS ?_
        rotate_left 1
        ·intro w hSw; (try dsimp only at hSw); (try obtain ⟨hSw1, hSw2⟩ := hSw); (go_simp <;> with_reducible rfl)
        simp only [Act.put, tA, tB, tD, tE, tF]
        refine wpAnyH_take (i := 1) (v := ?_) rfl (by kernel_rfl) (by kernel_rfl) (by kernel_rfl) (fun _ _ _ h => h) (Or.inl ⟨by rfl, ?_⟩) hS ?_
        rotate_left 1
        ·intro w hSw; (try dsimp only at hSw); (try obtain ⟨hSw1, hSw2⟩ := hSw); (go_simp <;> with_reducible rfl)
        simp only [Act.put, tA, tB, tC, tD, tE, tF]
        refine wpAnyH_take (i := 2) (v := ?_) rfl (by kernel_rfl) (by kernel_rfl) (by kernel_rfl) (fun _ _ _ h => h) (Or.inl ⟨by rfl, ?_⟩) hS ?_
        rotate_left 1
        ·intro w hSw; (try dsimp only at hSw); (try obtain ⟨hSw1, hSw2⟩ := hSw); (go_simp <;> with_reducible rfl)
        simp only [Act.put, tA, tB, tC, tD, tE, tF]
        refine wpAnyH_take (i := 3) (v := ?_) rfl (by kernel_rfl) (by kernel_rfl) (by kernel_rfl) (fun _ _ _ h => h) (Or.inl ⟨by rfl, ?_⟩) hS ?_
        rotate_left 1
        ·intro w hSw; (try dsimp only at hSw); (try obtain ⟨hSw1, hSw2⟩ := hSw); (go_simp <;> with_reducible rfl)
        simp only [Act.put, tA, tB, tC, tD, tE, tF]
        refine wpAnyH_take (i := 4) (v := ?_) rfl (by kernel_rfl) (by kernel_rfl) (by kernel_rfl) (fun _ _ _ h => h) (Or.inl ⟨by rfl, ?_⟩) hS ?_
        rotate_left 1
        ·intro w hSw; (try dsimp only at hSw); (try obtain ⟨hSw1, hSw2⟩ := hSw); (go_simp <;> with_reducible rfl)
        simp only [Act.put, tA, tB, tC, tD, tE, tF]
        refine wpAnyH_take (i := 5) (v := ?_) rfl (by kernel_rfl) (by kernel_rfl) (by kernel_rfl) (fun _ _ _ h => h) (Or.inl ⟨by rfl, ?_⟩) hS ?_
        rotate_left 1
        ·intro w hSw; (try dsimp only at hSw); (try obtain ⟨hSw1, hSw2⟩ := hSw); (go_simp <;> with_reducible rfl)
        simp only [Act.put, tA, tB, tC, tD, tE, tF]
        refine wpAnyH_take (i := 6) (v := undef) rfl (by kernel_rfl) (by kernel_rfl) (by kernel_rfl) (fun _ _ _ h => h) (Or.inr ⟨by rfl, rfl⟩) hS ?_
        simp only [Act.put, tA, tB, tC, tD, tE, tF]
        refine wpAnyH_take (i := 7) (v := undef) rfl (by kernel_rfl) (by kernel_rfl) (by kernel_rfl) (fun _ _ _ h => h) (Or.inr ⟨by rfl, rfl⟩) hS ?_
        simp only [Act.put, tA, tB, tC, tD, tE, tF]
        refine wpAnyH_take (i := 8) (v := undef) rfl (by kernel_rfl) (by kernel_rfl) (by kernel_rfl) (fun _ _ _ h => h) (Or.inr ⟨by rfl, rfl⟩) hS ?_
        simp only [Act.put, tA, tB, tC, tD, tE, tF]
        refine wpAnyH_take (i := 9) (v := undef) rfl (by kernel_rfl) (by kernel_rfl) (by kernel_rfl) (fun _ _ _ h => h) (Or.inr ⟨by rfl, rfl⟩) hS ?_
        simp only [Act.put, tA, tB, tC, tD, tE, tF]
        refine wpAnyH_take (i := 10) (v := undef) rfl (by kernel_rfl) (by kernel_rfl) (by kernel_rfl) (fun _ _ _ h => h) (Or.inr ⟨by rfl, rfl⟩) hS ?_
        simp only [Act.put, tA, tB, tC, tD, tE, tF]
        refine wpAnyH_take (i := 11) (v := undef) rfl (by kernel_rfl) (by kernel_rfl) (by kernel_rfl) (fun _ _ _ h => h) (Or.inr ⟨by rfl, rfl⟩) hS ?_
        simp only [Act.put, tA, tB, tC, tD, tE, tF]
        refine wpAnyH_take (i := 12) (v := undef) rfl (by kernel_rfl) (by kernel_rfl) (by kernel_rfl) (fun _ _ _ h => h) (Or.inr ⟨by rfl, rfl⟩) hS ?_
        simp only [Act.put, tA, tB, tC, tD, tE, tF]
        refine wpAnyH_take (i := 13) (v := undef) rfl (by kernel_rfl) (by kernel_rfl) (by kernel_rfl) (fun _ _ _ h => h) (Or.inr ⟨by rfl, rfl⟩) hS ?_
        simp only [Act.put, tA, tB, tC, tD, tE, tF]
        refine wpAnyH_take (i := 14) (v := undef) rfl (by kernel_rfl) (by kernel_rfl) (by kernel_rfl) (fun _ _ _ h => h) (Or.inr ⟨by rfl, rfl⟩) hS ?_
        simp only [Act.put, tA, tB, tC, tD, tE, tF]
        refine wpAnyH_take (i := 15) (v := undef) rfl (by kernel_rfl) (by kernel_rfl) (by kernel_rfl) (fun _ _ _ h => h) (Or.inr ⟨by rfl, rfl⟩) hS ?_
        simp only [Act.put, tA, tB, tC, tD, tE, tF]
        refine wpAnyH_take (i := 16) (v := ?_) rfl (by kernel_rfl) (by kernel_rfl) (by kernel_rfl) (fun _ _ _ h => h) (Or.inl ⟨by rfl, ?_⟩) hS ?_
        rotate_left 1
        ·intro w hSw; (try dsimp only at hSw); (try obtain ⟨hSw1, hSw2⟩ := hSw); (go_simp <;> with_reducible rfl)
        simp only [Act.put, tA, tB, tC, tD, tE, tF]
        refine wpAnyH_done (by kernel_rfl) ?_ _
        go_wp2_with fail
        go_ret
        exact ⟨by rw [HF.out]; rfl, HN.out.2.drew⟩
      ·obtain rfl : k = i := by omega
       have HF := hid (show isTabB T = true from by
        unfold isTabB
        rw [← HH.out.2.2.2.1, HC.out.1, ← HH.out.2.2.2.2]
        have : (decide (l = 0) || decide (5 ≤ l)) = true := by
         by_cases hz : l = 0
         ·rw [decide_eq_true hz]; rfl
         ·rw [decide_eq_true (show 5 ≤ l by omega), Bool.or_true]
        rw [this]; rfl)
       have HKk := hid HC.out.2.2
       clear HC
       go_wp2_with fail
       go_ret
       exact ⟨by rw [HF.out]; rfl, HKk.out⟩

  ·go_wp2_with fail
   generalize hW1 : w1.alloc (.cells #[.int .i64 0, .int .i64 0, .int .i64 0, .int .i64 0, .int .i64 0, .int .i64 0, .int .i64 0, .int .i64 0, .int .i64 0, .int .i64 0, .int .i64 0, .int .i64 0, .int .i64 0, .int .i64 0, .int .i64 0, .int .i64 0, .int .i64 0, .int .i64 0, .int .i64 0, .int .i64 0, .int .i64 0, .int .i64 0, .int .i64 0, .int .i64 0, .int .i64 0, .int .i64 0, .int .i64 0, .int .i64 0, .int .i64 0, .int .i64 0, .int .i64 0, .int .i64 0, .int .i64 0, .int .i64 0, .int .i64 0, .int .i64 0, .int .i64 0, .int .i64 0, .int .i64 0, .int .i64 0, .int .i64 0, .int .i64 0, .int .i64 0, .int .i64 0, .int .i64 0, .int .i64 0, .int .i64 0, .int .i64 0, .int .i64 0, .int .i64 0, .int .i64 0, .int .i64 0, .int .i64 0] 234) = W1 at HA ⊢
   go_loopw [38] (fun v38 wr => ∃ i : Nat, v38 = .int .i64 (i : Int) ∧ i ≤ S ∧ Hid (IsA wr nb 234 .i64 53 (fun s => ((cntY T.sy i s : Nat) : Int)) ∧ Keep noBlock w1 wr)) (fun v38 _ => S - (intOf v38).toNat)
   case atStart => exact ⟨0, rfl, Nat.zero_le _, HA.out.1.congr (fun i _ => rfl), HA.out.2⟩
   case round =>
    obtain ⟨i, rfl, hi, HC⟩ := hrel
    by_cases hlt : i < S
    ·have hiI : (i : Int) < (S : Int) := by omega
     obtain ⟨h1, h2⟩ := HC.out
     have hTb := HC0.out.1.keep h2 (fun h => h)
     have hCd := HC0.out.2.keep h2 (fun h => h) (fun h => h)
     obtain ⟨d1, d2, d3⟩ := hTb.cells i (by rw [← HH.out.2.2.2.1]; exact hlt)
     have hsy := HH.out.2.2.1.sy i (by rw [← HH.out.2.2.2.1]; exact hlt)
     have hcl := HH.out.1.ok.le
     have c0 := hCd.codes
     obtain ⟨sy, hsye⟩ : ∃ sy, sy = T.sy i := ⟨_, rfl⟩
     obtain ⟨bi, hbie⟩ : ∃ bi, bi = T.bi i := ⟨_, rfl⟩
     obtain ⟨ba, hbae⟩ : ∃ ba, ba = T.ba i := ⟨_, rfl⟩
     obtain ⟨m, hm⟩ : ∃ m, m = K.codes := ⟨_, rfl⟩
     rw [← hsye] at d1 hsy
     rw [← hbie] at d2
     rw [← hbae] at d3
     rw [← hm] at c0 hsy hcl
     have hb := hCd.lt
     have htl := hTb.lt
     have hnl := h1.lt
     obtain ⟨V, hV⟩ : ∃ V, V = wr.alloc (.cells #[.int .u8 (sy : Int), .int .u8 (bi : Int), .int .u16 (ba : Int)] 130) := ⟨_, rfl⟩
     have kV : Keep noBlock wr V := by rw [hV]; exact (Keep.refl _ wr).alloc _
     have oV : V.heap[wr.heap.size]? = some (.cells #[.int .u8 (sy : Int), .int .u8 (bi : Int), .int .u16 (ba : Int)] 130 (0, 0)) := by rw [hV]; exact alloc_new wr _
     have e0 : V.cell? ⟨wr.heap.size, 0, none⟩ = some (.int .u8 (sy : Int)) := cell_of oV 0
     have e1 : V.cell? ⟨b, o, none⟩ = some (.int .i64 (m : Int)) := keep_cell0 kV c0
     obtain ⟨V2, hV2⟩ : ∃ V2, V2 = V.drew := ⟨_, rfl⟩
     have kV2 : Keep noBlock wr V2 := by rw [hV2]; exact kV.drew
     have hA2 := h1.keep kV2 (fun h => h)
     have hs53 : sy < 53 := by omega
     have q0 : V2.cell? ⟨wr.heap.size, 0, none⟩ = some (.int .u8 (sy : Int)) := by rw [hV2]; exact e0
     have q2 := hA2.cell sy hs53
     have f2 := hA2.frozen sy
     obtain ⟨x, hx⟩ : ∃ x, x = cntY T.sy i sy := ⟨_, rfl⟩
     rw [← hx] at q2
     have hxb : x ≤ 512 := by have := cntY_le T.sy sy i; omega
     have HN := (show Hid (IsA (V2.setCell ⟨nb, sy, none⟩ (.int .i64 ((x + 1 : Nat) : Int))) nb 234 .i64 53 (fun s => ((cntY T.sy (i + 1) s : Nat) : Int)) ∧ Keep noBlock w1 (V2.setCell ⟨nb, sy, none⟩ (.int .i64 ((x + 1 : Nat) : Int)))) from by
      refine ⟨(hA2.set sy _).congr (fun j _ => ?_), (h2.trans' kV2).trans ((Keep.refl (fun k => k = nb) V2).setCell (p := ⟨nb, sy, none⟩) (fun _ => rfl) _) (fun j hj e => by omega)⟩
      simp only [cntY, ← hsye]
      by_cases e : j = sy
      ·rw [if_pos e, e, if_pos rfl, hx]
      ·rw [if_neg e, if_neg (fun h => e h.symm), Nat.add_zero])
     have hxI : (x : Int) + 1 = ((x + 1 : Nat) : Int) := by omega
     obtain ⟨x1, hx1⟩ : ∃ x1, x1 = x + 1 := ⟨_, rfl⟩
     rw [← hx1] at hxI HN
     have hx1b : (x1 : Int) ≤ 513 := by omega
     have hwsy : IntKind.i64.wrap (sy : Int) = (sy : Int) := by rw [IntKind.wrap_i64]; omega
     have hsyN : ¬ m ≤ sy := by omega
     have hsyI : ¬ (m : Int) ≤ (sy : Int) := by omega
     have hsyD : decide (m ≤ sy) = false := decide_eq_false hsyN
     have hs5I : (sy : Int) < 53 := by omega
     have hsy256 : (sy : Int) < 256 := by omega
     have HV2 := hid hV2
     have HV := hid hV
     clear h1 h2 hTb hCd hsye hbie hbae hm hA2 hx HC oV kV kV2 hb htl hnl hx1 hsy hcl hxb c0 hV2
     rw [hV] at e0 e1
     go_wp2_with fail
     go_region_held3 (fun W => W.cell? ⟨wr.heap.size, 0, none⟩ = some (.int .u8 (sy : Int)) ∧ W.cell? ⟨b, o, none⟩ = some (.int .i64 (m : Int))) (first | exact ⟨e0, e1⟩ | assumption) (fail)
     rw [← HV.out, ← HV2.out]
     clear e0 e1 HV HV2 hV
     go_wp2_with fail
     go_roundw
     case rel => exact ⟨i + 1, by go_num, by omega, HN.out⟩
     case measure => simp [intOf]; omega
    ·obtain rfl : i = S := by omega
     clear HA
     have HC2 := (show Hid (IsA wr nb 234 .i64 53 (fun s => ((cntY T.sy i s + cntY T.sy 0 s : Nat) : Int)) ∧ Keep noBlock w1 wr) from ⟨HC.out.1.congr (fun j _ => by simp [cntY]), HC.out.2⟩)
     clear HC
     go_wp2_with fail
     obtain ⟨wA, hwA⟩ : ∃ wA, wA = wr := ⟨_, rfl⟩
     rw [← hwA] at HC2 ⊢
     clear hwA
     go_loopw [59] (fun v59 wr => ∃ k : Nat, v59 = .int .i64 (k : Int) ∧ k ≤ i ∧ Hid (allT T k = true ∧ IsA wr nb 234 .i64 53 (fun s => ((cntY T.sy i s + cntY T.sy k s : Nat) : Int)) ∧ Keep noBlock w1 wr)) (fun v59 _ => i - (intOf v59).toNat)
     case atStart => exact ⟨0, rfl, Nat.zero_le _, rfl, HC2.out⟩
     case round =>
      clear HC2
      obtain ⟨k, rfl, hk, HC⟩ := hrel
      by_cases hlt : k < i
      ·have hiI : (k : Int) < (i : Int) := by omega
       obtain ⟨h0, h1, h2⟩ := HC.out
       have hTb := HC0.out.1.keep h2 (fun h => h)
       obtain ⟨d1, d2, d3⟩ := hTb.cells k (by rw [← HH.out.2.2.2.1]; exact hlt)
       have hsy := HH.out.2.2.1.sy k (by rw [← HH.out.2.2.2.1]; exact hlt)
       have hbi := HH.out.2.2.1.bi k (by rw [← HH.out.2.2.2.1]; exact hlt)
       have hba := HH.out.2.2.1.ba k (by rw [← HH.out.2.2.2.1]; exact hlt)
       rw [← HH.out.2.2.2.1] at hba
       have hba' : T.ba k ≤ i := Nat.le_trans (Nat.le_add_right _ _) hba
       have hcl := HH.out.1.ok.le
       have hxe : xT T k = cntY T.sy i (T.sy k) + cntY T.sy k (T.sy k) := by unfold xT; rw [← HH.out.2.2.2.1]
       have hxp : 1 ≤ cntY T.sy i (T.sy k) := cntY_pos T.sy hlt
       have hx1 := cntY_le T.sy (T.sy k) i
       have hx2 := cntY_le T.sy (T.sy k) k
       have hck : chkT T k = (decide ((T.bi k : Int) = (l : Int) - ((lenN (xT T k) : Int) - 1)) && decide ((T.ba k : Int) = ((xT T k * 2 ^ T.bi k : Nat) : Int) - (i : Int))) := by unfold chkT; rw [← HH.out.2.2.2.1, ← HH.out.2.2.2.2]
       obtain ⟨x, hx⟩ : ∃ x, x = xT T k := ⟨_, rfl⟩
       rw [← hx] at hxe hck
       have hA0 : IsA wr nb 234 .i64 53 (fun s => ((cntY T.sy i s + cntY T.sy k s : Nat) : Int)) := h1
       have hq2 := h1.cell (T.sy k) (by omega)
       rw [← hxe] at hq2
       obtain ⟨sy, hsye⟩ : ∃ sy, sy = T.sy k := ⟨_, rfl⟩
       obtain ⟨bi, hbie⟩ : ∃ bi, bi = T.bi k := ⟨_, rfl⟩
       obtain ⟨ba, hbae⟩ : ∃ ba, ba = T.ba k := ⟨_, rfl⟩
       rw [← hsye] at d1 hsy hxe hq2
       rw [← hbie] at d2 hbi hba hck
       rw [← hbae] at d3 hba hba' hck
       have hs53 : sy < 53 := by omega
       have htl := hTb.lt
       have hnl := h1.lt
       have hxb : x ≤ 1024 := by rw [hsye] at hxe; omega
       have hx0 : x ≠ 0 := by rw [hsye] at hxe; omega
       obtain ⟨hL1, hL2, hL3⟩ := lenN_pos x hx0
       have hL4 : lenN x ≤ 11 := by
        rcases Nat.lt_or_ge (lenN x) 12 with q | q
        ·omega
        ·exfalso
         have : 2 ^ 11 ≤ 2 ^ (lenN x - 1) := Nat.pow_le_pow_right (by omega) (by omega)
         omega
       have HLen := (show Hid (∀ W : World, Calls Tryz.prog 92 #[.int .u64 (x : Int)] W fun e w' => e = .returned (.int .i64 ((lenN x : Nat) : Int)) ∧ w' = W) from fun W => len_any x (by omega) W)
       obtain ⟨L, hL⟩ : ∃ L, L = lenN x := ⟨_, rfl⟩
       rw [← hL] at hL3 hL4 HLen hck
       obtain ⟨V, hV⟩ : ∃ V, V = wr.alloc (.cells #[.int .u8 (sy : Int), .int .u8 (bi : Int), .int .u16 (ba : Int)] 130) := ⟨_, rfl⟩
       have kV : Keep noBlock wr V := by rw [hV]; exact (Keep.refl _ wr).alloc _
       have oV : V.heap[wr.heap.size]? = some (.cells #[.int .u8 (sy : Int), .int .u8 (bi : Int), .int .u16 (ba : Int)] 130 (0, 0)) := by rw [hV]; exact alloc_new wr _
       have hA2 := hA0.keep kV (fun h => h)
       have q2 : V.cell? ⟨nb, sy, none⟩ = some (.int .i64 (x : Int)) := keep_cell0 kV hq2
       have f2 := hA2.frozen sy
       have hxI : (x : Int) + 1 = ((x + 1 : Nat) : Int) := by omega
       obtain ⟨x1, hx1e⟩ : ∃ x1, x1 = x + 1 := ⟨_, rfl⟩
       rw [← hx1e] at hxI
       have hx1b : (x1 : Int) ≤ 1025 := by omega
       obtain ⟨V2, hV2⟩ : ∃ V2, V2 = V.setCell ⟨nb, sy, none⟩ (.int .i64 (x1 : Int)) := ⟨_, rfl⟩
       have kV2 : Keep (fun j => j = nb) V V2 := by rw [hV2]; exact (Keep.refl (fun j => j = nb) V).setCell (p := ⟨nb, sy, none⟩) (fun _ => rfl) _
       have oV2 := kV2.obj oV (by omega)
       have r0 : V2.cell? ⟨wr.heap.size, 0, none⟩ = some (.int .u8 (sy : Int)) := cell_of oV2 0
       have r1 : V2.cell? ⟨wr.heap.size, 1, none⟩ = some (.int .u8 (bi : Int)) := cell_of oV2 1
       have r2 : V2.cell? ⟨wr.heap.size, 2, none⟩ = some (.int .u16 (ba : Int)) := cell_of oV2 2
       have HN := (show Hid (IsA V2 nb 234 .i64 53 (fun s => ((cntY T.sy i s + cntY T.sy (k + 1) s : Nat) : Int)) ∧ Keep noBlock w1 V2) from by
        refine ⟨?_, (h2.trans' kV).trans kV2 (fun j hj e => by omega)⟩
        rw [hV2]
        refine (hA2.set sy _).congr (fun j _ => ?_)
        simp only [cntY, ← hsye]
        by_cases e : j = sy
        ·rw [if_pos e, e, if_pos rfl, hx1e, hxe]; omega
        ·rw [if_neg e, if_neg (fun h => e h.symm), Nat.add_zero])
       obtain ⟨L1, hL1e⟩ : ∃ L1, L1 = L - 1 := ⟨_, rfl⟩
       have hL1I : (L : Int) - 1 = (L1 : Int) := by omega
       rw [hL1I] at hck
       have hs5I : (sy : Int) < 53 := by omega
       have hsy256 : (sy : Int) < 256 := by omega
       have hxu : IntKind.u64.wrap (x : Int) = (x : Int) := by rw [IntKind.wrap_u64]; omega
       have hwbi : IntKind.i64.wrap (bi : Int) = (bi : Int) := by rw [IntKind.wrap_i64]; omega
       have hwba : IntKind.i64.wrap (ba : Int) = (ba : Int) := by rw [IntKind.wrap_i64]; omega
       have hLI : (L : Int) ≤ 11 := by omega
       have hL1b : (L1 : Int) ≤ 11 := by omega
       have HV := hid hV
       have HV2 := hid hV2
       have HA0 := hid h0
       have HCK := hid hck
       have hba9 : ba < 65536 := by omega
       have hp2 : 2 ^ bi ≤ 512 := Nat.pow_le_pow_right (n := 2) (j := 9) (by omega) hbi
       by_cases hB : (bi : Int) = (l : Int) - (L1 : Int)
       ·have hBr : (l : Int) - (L1 : Int) = (bi : Int) := hB.symm
        obtain ⟨y, hy⟩ : ∃ y, y = x * 2 ^ bi := ⟨_, rfl⟩
        have hyI : (x : Int) * 2 ^ bi = (y : Int) := by rw [hy]; simp
        have hyb : y ≤ 524288 := by rw [hy]; exact Nat.le_trans (Nat.mul_le_mul hxb hp2) (by omega)
        have hybI : (y : Int) ≤ 524288 := by omega
        have hwy : IntKind.i64.wrap (y : Int) = (y : Int) := by rw [IntKind.wrap_i64]; omega
        rw [← hy] at hck
        have hbi9 : (bi : Int) ≤ 9 := by omega
        by_cases hD : (ba : Int) = (y : Int) - (i : Int)
        ·have hDr : (y : Int) - (i : Int) = (ba : Int) := hD.symm
         have HF := hid (show allT T (k + 1) = true from by unfold allT; rw [h0, hck, decide_eq_true hB, decide_eq_true hD]; rfl)
         clear h0 h1 h2 hTb hsye hbie hbae hA2 hA0 hx HC oV oV2 kV kV2 htl hnl hx1e hsy hcl hxb hxe hq2 hL hL1 hL2 hck hx1 hx2 hxp hV2 hba hL1e hp2 hB hD hy
         rw [hV] at q2 f2
         go_wp2_with fail
         rw [← HV.out, ← HV2.out]
         refine (HLen.out _).mono ?_
         rintro e w9 ⟨rfl, rfl⟩
         go_wp2_with fail
         go_region_held3 (fun W => W.cell? ⟨wr.heap.size, 1, none⟩ = some (.int .u8 (bi : Int)) ∧ W.cell? ⟨wr.heap.size, 2, none⟩ = some (.int .u16 (ba : Int))) (first | exact ⟨r1, r2⟩ | assumption) (fail)
         go_wp2_with fail
         go_roundw
         case rel => exact ⟨k + 1, by go_num, by omega, HF.out, HN.out.1.keep ((Keep.refl noBlock _).drew) (fun h => h), HN.out.2.drew⟩
         case measure => simp [intOf]; omega
        ·obtain ⟨D, hDe⟩ : ∃ D : Int, D = (y : Int) - (i : Int) := ⟨_, rfl⟩
         have hDr : (y : Int) - (i : Int) = D := hDe.symm
         have hDn : ((ba : Int) != D) = true := by rw [hDe]; simpa using hD
         have hDb1 : D ≤ 524288 := by omega
         have hDb2 : -513 ≤ D := by omega
         have hwD : IntKind.i64.wrap D = D := by rw [IntKind.wrap_i64]; omega
         have HF := hid (show isTabB T = false from by
          unfold isTabB
          rw [← HH.out.2.2.2.1, allT_no (k := k) (by rw [hck, decide_eq_false hD, Bool.and_false]) i hlt, Bool.and_false])
         clear h0 h1 h2 hTb hsye hbie hbae hA2 hA0 hx HC oV oV2 kV kV2 htl hnl hx1e hsy hcl hxb hxe hq2 hL hL1 hL2 hck hx1 hx2 hxp hV2 hba hL1e hp2 hB hD hy hDe
         rw [hV] at q2 f2
         go_wp2_with fail
         rw [← HV.out, ← HV2.out]
         refine (HLen.out _).mono ?_
         rintro e w9 ⟨rfl, rfl⟩
         go_wp2_with fail
         go_region_held3 (fun W => W.cell? ⟨wr.heap.size, 1, none⟩ = some (.int .u8 (bi : Int)) ∧ W.cell? ⟨wr.heap.size, 2, none⟩ = some (.int .u16 (ba : Int))) (first | exact ⟨r1, r2⟩ | assumption) (fail)
         go_wp2_with fail
         go_ret
         exact ⟨by rw [HF.out]; rfl, HN.out.2.drew⟩
       ·obtain ⟨B, hBe⟩ : ∃ B : Int, B = (l : Int) - (L1 : Int) := ⟨_, rfl⟩
        have hBr : (l : Int) - (L1 : Int) = B := hBe.symm
        have hBn : ((bi : Int) != B) = true := by rw [hBe]; simpa using hB
        have hBq : ((bi : Int) == B) = false := by rw [hBe]; simpa using hB
        have hBd : decide ((bi : Int) = B) = false := decide_eq_false (by rw [hBe]; exact hB)
        have hBb1 : B ≤ 9 := by omega
        have hBb2 : -12 ≤ B := by omega
        have hwB : IntKind.i64.wrap B = B := by rw [IntKind.wrap_i64]; omega
        have HF := hid (show isTabB T = false from by
         unfold isTabB
         rw [← HH.out.2.2.2.1, allT_no (k := k) (by rw [hck, decide_eq_false hB, Bool.false_and]) i hlt, Bool.and_false])
        clear h0 h1 h2 hTb hsye hbie hbae hA2 hA0 hx HC oV oV2 kV kV2 htl hnl hx1e hsy hcl hxb hxe hq2 hL hL1 hL2 hck hx1 hx2 hxp hV2 hba hL1e hp2 hB hBe
        rw [hV] at q2 f2
        go_wp2_with fail
        rw [← HV.out, ← HV2.out]
        refine (HLen.out _).mono ?_
        rintro e w9 ⟨rfl, rfl⟩
        go_wp2_with fail
        refine wp_region_held_drew (S := fun W => W.cell? ⟨wr.heap.size, 1, none⟩ = some (.int .u8 (bi : Int)) ∧ W.cell? ⟨wr.heap.size, 2, none⟩ = some (.int .u16 (ba : Int))) mx (⟨r1, r2⟩) (fun hS => ?_)
        refine wpAnyH_take (i := 0) (v := ?_) rfl (by kernel_rfl) (by kernel_rfl) (by kernel_rfl) (fun _ _ _ h => h) (Or.inl ⟨by rfl, ?_⟩) hS ?_
        rotate_left 1
        ·intro w hSw; (try dsimp only at hSw); (try obtain ⟨hSw1, hSw2⟩ := hSw); (go_simp <;> with_reducible rfl)
        simp only [Act.put, tA, tB, tD, tE, tF]
        refine wpAnyH_take (i := 1) (v := ?_) rfl (by kernel_rfl) (by kernel_rfl) (by kernel_rfl) (fun _ _ _ h => h) (Or.inl ⟨by rfl, ?_⟩) hS ?_
        rotate_left 1
        ·intro w hSw; (try dsimp only at hSw); (try obtain ⟨hSw1, hSw2⟩ := hSw); (go_simp <;> with_reducible rfl)
        simp only [Act.put, tA, tB, tC, tD, tE, tF]
        refine wpAnyH_take (i := 2) (v := ?_) rfl (by kernel_rfl) (by kernel_rfl) (by kernel_rfl) (fun _ _ _ h => h) (Or.inl ⟨by rfl, ?_⟩) hS ?_
        rotate_left 1
        ·intro w hSw; (try dsimp only at hSw); (try obtain ⟨hSw1, hSw2⟩ := hSw); (go_simp <;> with_reducible rfl)
        simp only [Act.put, tA, tB, tC, tD, tE, tF]
        refine wpAnyH_take (i := 3) (v := ?_) rfl (by kernel_rfl) (by kernel_rfl) (by kernel_rfl) (fun _ _ _ h => h) (Or.inl ⟨by rfl, ?_⟩) hS ?_
        rotate_left 1
        ·intro w hSw; (try dsimp only at hSw); (try obtain ⟨hSw1, hSw2⟩ := hSw); (go_simp <;> with_reducible rfl)
        simp only [Act.put, tA, tB, tC, tD, tE, tF]
        refine wpAnyH_take (i := 4) (v := ?_) rfl (by kernel_rfl) (by kernel_rfl) (by kernel_rfl) (fun _ _ _ h => h) (Or.inl ⟨by rfl, ?_⟩) hS ?_
        rotate_left 1
        ·intro w hSw; (try dsimp only at hSw); (try obtain ⟨hSw1, hSw2⟩ := hSw); (go_simp <;> with_reducible rfl)
        simp only [Act.put, tA, tB, tC, tD, tE, tF]
        refine wpAnyH_take (i := 5) (v := ?_) rfl (by kernel_rfl) (by kernel_rfl) (by kernel_rfl) (fun _ _ _ h => h) (Or.inl ⟨by rfl, ?_⟩) hS ?_
        rotate_left 1
        ·intro w hSw; (try dsimp only at hSw); (try obtain ⟨hSw1, hSw2⟩ := hSw); (go_simp <;> with_reducible rfl)
        simp only [Act.put, tA, tB, tC, tD, tE, tF]
        refine wpAnyH_take (i := 6) (v := undef) rfl (by kernel_rfl) (by kernel_rfl) (by kernel_rfl) (fun _ _ _ h => h) (Or.inr ⟨by rfl, rfl⟩) hS ?_
        simp only [Act.put, tA, tB, tC, tD, tE, tF]
        refine wpAnyH_take (i := 7) (v := undef) rfl (by kernel_rfl) (by kernel_rfl) (by kernel_rfl) (fun _ _ _ h => h) (Or.inr ⟨by rfl, rfl⟩) hS ?_
        simp only [Act.put, tA, tB, tC, tD, tE, tF]
        refine wpAnyH_take (i := 8) (v := undef) rfl (by kernel_rfl) (by kernel_rfl) (by kernel_rfl) (fun _ _ _ h => h) (Or.inr ⟨by rfl, rfl⟩) hS ?_
        simp only [Act.put, tA, tB, tC, tD, tE, tF]
        refine wpAnyH_take (i := 9) (v := undef) rfl (by kernel_rfl) (by kernel_rfl) (by kernel_rfl) (fun _ _ _ h => h) (Or.inr ⟨by rfl, rfl⟩) hS ?_
        simp only [Act.put, tA, tB, tC, tD, tE, tF]
        refine wpAnyH_take (i := 10) (v := undef) rfl (by kernel_rfl) (by kernel_rfl) (by kernel_rfl) (fun _ _ _ h => h) (Or.inr ⟨by rfl, rfl⟩) hS ?_
        simp only [Act.put, tA, tB, tC, tD, tE, tF]
        refine wpAnyH_take (i := 11) (v := undef) rfl (by kernel_rfl) (by kernel_rfl) (by kernel_rfl) (fun _ _ _ h => h) (Or.inr ⟨by rfl, rfl⟩) hS ?_
        simp only [Act.put, tA, tB, tC, tD, tE, tF]
        refine wpAnyH_take (i := 12) (v := undef) rfl (by kernel_rfl) (by kernel_rfl) (by kernel_rfl) (fun _ _ _ h => h) (Or.inr ⟨by rfl, rfl⟩) hS ?_
        simp only [Act.put, tA, tB, tC, tD, tE, tF]
        refine wpAnyH_take (i := 13) (v := undef) rfl (by kernel_rfl) (by kernel_rfl) (by kernel_rfl) (fun _ _ _ h => h) (Or.inr ⟨by rfl, rfl⟩) hS ?_
        simp only [Act.put, tA, tB, tC, tD, tE, tF]
        refine wpAnyH_take (i := 14) (v := undef) rfl (by kernel_rfl) (by kernel_rfl) (by kernel_rfl) (fun _ _ _ h => h) (Or.inr ⟨by rfl, rfl⟩) hS ?_
        simp only [Act.put, tA, tB, tC, tD, tE, tF]
        refine wpAnyH_take (i := 15) (v := undef) rfl (by kernel_rfl) (by kernel_rfl) (by kernel_rfl) (fun _ _ _ h => h) (Or.inr ⟨by rfl, rfl⟩) hS ?_
        simp only [Act.put, tA, tB, tC, tD, tE, tF]
        refine wpAnyH_take (i := 16) (v := ?_) rfl (by kernel_rfl) (by kernel_rfl) (by kernel_rfl) (fun _ _ _ h => h) (Or.inl ⟨by rfl, ?_⟩) hS ?_
        rotate_left 1
        ·intro w hSw; (try dsimp only at hSw); (try obtain ⟨hSw1, hSw2⟩ := hSw); (go_simp <;> with_reducible rfl)
        simp only [Act.put, tA, tB, tC, tD, tE, tF]
        refine wpAnyH_done (by kernel_rfl) ?_ _
        go_wp2_with fail
        go_ret
        exact ⟨by rw [HF.out]; rfl, HN.out.2.drew⟩
      ·obtain rfl : k = i := by omega
       have HF := hid (show isTabB T = true from by
        unfold isTabB
        rw [← HH.out.2.2.2.1, HC.out.1, ← HH.out.2.2.2.2]
        have : (decide (l = 0) || decide (5 ≤ l)) = true := by
         by_cases hz : l = 0
         ·rw [decide_eq_true hz]; rfl
         ·rw [decide_eq_true (show 5 ≤ l by omega), Bool.or_true]
        rw [this]; rfl)
       have HKk := hid HC.out.2.2
       clear HC
       go_wp2_with fail
       go_ret
       exact ⟨by rw [HF.out]; rfl, HKk.out⟩

end Go.Proofs.YtnjilcokkhodmaaGreatDoor

namespace Go.Proofs.YtnjilcokkhodmaaGreatDoor
open Go.RowKit Go.Shelf
set_option linter.unusedVariables false

def valR (bs : List Nat) (p R : Nat) : Option (Nat × Nat) :=
 if 8 * bs.length < p + (valM R - 1) then none
 else if numAt bs p (valM R - 1) < valT R then some (numAt bs p (valM R - 1), p + (valM R - 1))
 else if 8 * bs.length < p + (valM R - 1) + 1 then none
 else if numAt bs (p + (valM R - 1)) 1 = 1 then some (numAt bs p (valM R - 1) + 2 ^ (valM R - 1) - valT R, p + (valM R - 1) + 1)
 else some (numAt bs p (valM R - 1), p + (valM R - 1) + 1)
theorem valR_le {bs : List Nat} {p R v p' : Nat} (hR1 : 1 ≤ R) (h : valR bs p R = some (v, p')) : v ≤ R + 1 := by
 have h1 := numAt_lt bs p (valM R - 1)
 obtain ⟨h2, h3, h4⟩ := val_half R hR1
 have h5 := valT_eq R
 unfold valR at h
 split at h
 ·cases h
 split at h
 ·cases h; omega
 split at h
 ·cases h
 split at h
 ·cases h; omega
 ·cases h; omega
theorem valR_far {bs : List Nat} {p R v p' : Nat} (h : valR bs p R = some (v, p')) : p' ≤ 8 * bs.length ∧ p ≤ p' := by
 unfold valR at h
 split at h
 ·cases h
 split at h
 ·cases h; omega
 split at h
 ·cases h
 split at h
 ·cases h; omega
 ·cases h; omega
def CntPost (T : Option (Nat × Nat)) (rb g : Nat) (bs : List Nat) (w : World) (e : Ending) (w' : World) : Prop :=
 Keep (fun k => k = rb) w w' ∧ match T with
  | none => e = .returned (.tuple #[.int .i16 0, .int .i64 10])
  | some (v, p') => e = .returned (.tuple #[.int .i16 ((v : Int) - 1), .int .i64 0]) ∧ IsR w' rb g bs p'
theorem cnt_none {T : Option (Nat × Nat)} {rb g : Nat} {bs : List Nat} {w w' : World} (h : T = none) (hk : Keep (fun k => k = rb) w w') : CntPost T rb g bs w (.returned (.tuple #[.int .i16 0, .int .i64 10])) w' := by subst h; exact ⟨hk, rfl⟩
theorem cnt_some {T : Option (Nat × Nat)} {v p' : Nat} {rb g : Nat} {bs : List Nat} {w w' : World} (h : T = some (v, p')) (hk : Keep (fun k => k = rb) w w') (hi : IsR w' rb g bs p') : CntPost T rb g bs w (.returned (.tuple #[.int .i16 ((v : Int) - 1), .int .i64 0])) w' := by subst h; exact ⟨hk, rfl, hi⟩

theorem bits_few_i (rb g : Nat) (bs : List Nat) (p m : Nat) (mi : Int) (hmi : mi = (m : Int)) (hm : m ≤ 56) (w : World) (h : IsR w rb g bs p) (hp : 8 * bs.length < p + m) :
  Calls Tryz.prog 114 #[.pointer (some ⟨rb, 0, none⟩), .int .i64 mi] w fun e w' => e = .returned (.tuple #[.int .u64 0, .int .i64 10]) ∧ ∃ n, w' = w.drewN n := by
 subst hmi; exact bits_few rb g bs p m hm w h hp

set_option maxHeartbeats 2000000 in
theorem readCount_all (rb g : Nat) (bs : List Nat) (p R : Nat) (w : World) (h : IsR w rb g bs p) (hR1 : 1 ≤ R) (hR : R ≤ 4096) :
  Calls Tryz.prog 136 #[.pointer (some ⟨rb, 0, none⟩), .int .i64 (R : Int)] w fun e w' => CntPost (valR bs p R) rb g bs w e w' := by
 have HV := (show Hid (∀ w : World, _) from fun w => valueBits_any R hR w)
 have hm2 := valM_ge R hR1
 have hm13 := valM_le R hR
 have hT := valT_eq R
 have hH := val_half R hR1
 obtain ⟨k, hm⟩ : ∃ k, valM R = k + 1 := ⟨valM R - 1, by omega⟩
 have hm1 : valM R - 1 = k := by omega
 obtain ⟨T, hdef⟩ : ∃ T, T = valR bs p R := ⟨_, rfl⟩
 rw [← hdef]
 unfold valR at hdef
 rw [hm1] at hH hdef
 have hx := numAt_lt bs p k
 generalize valM R = m at *
 generalize valT R = t at *
 have hp : (2 : Nat) ^ m ≤ 2 ^ 13 := Nat.pow_le_pow_right (by omega) hm13
 have hk : (m : Int) - 1 = (k : Int) := by omega
 have hk12 : (k : Int) ≤ 12 := by omega
 have hpk : (2 : Int) ^ k = ((2 ^ k : Nat) : Int) := by simp
 obtain ⟨P, hP⟩ : ∃ P : Nat, P = 2 ^ k := ⟨_, rfl⟩
 rw [← hP] at hpk hH hx hdef
 have hPb : P ≤ 4096 := by omega
 have hPI : (P : Int) ≤ 4096 := by omega
 have htP : (t : Int) ≤ (P : Int) := by omega
 have HK := (show Hid (m = k + 1 ∧ k ≤ 12 ∧ P = 2 ^ k ∧ IsR w rb g bs p) from ⟨hm, by omega, hP, h⟩)
 have kq : ∀ q, Keep (fun k => k = rb) w (w.drewN q) := fun q => (keep_drewN w q).mono (fun _ _ h => h.elim)
 have HQ := (show Hid (∀ q, Keep (fun k => k = rb) w (w.drewN q)) from kq)
 have k2 : ∀ (W : World) q, Keep (fun k => k = rb) W (W.drewN q) := fun W q => (keep_drewN W q).mono (fun _ _ h => h.elim)
 have HQ2 := (show Hid (∀ (W : World) q, Keep (fun k => k = rb) W (W.drewN q)) from k2)
 by_cases c1 : 8 * bs.length < p + k
 ·rw [if_pos c1] at hdef
  have HD := (show Hid (T = none ∧ 8 * bs.length < p + k) from ⟨hdef, c1⟩)
  clear hP hm h hT hH hp hm2 hm13 hm1 kq hdef hx k2 c1
  go_enter Tryz.func136, Tryz.ntmps136
  go_wp2_with (first | (go_at_call 143; refine (HV.out _).mono ?_; rintro e w' ⟨rfl, q, rfl⟩) | (go_at_call 114; refine (bits_few_i rb g bs p k _ rfl (by have := HK.out; omega) _ (HK.out.2.2.2.drewN _) HD.out.2).mono ?_; rintro e w' ⟨rfl, q2, rfl⟩))
  go_ret2
  exact cnt_none HD.out.1 (HQ.out _)
 ·rw [if_neg c1] at hdef
  obtain ⟨x, hxe⟩ : ∃ x, numAt bs p k = x := ⟨_, rfl⟩
  rw [hxe] at hdef hx
  have hxI : (x : Int) < (P : Int) := by omega
  by_cases c2 : x < t
  ·rw [if_pos c2] at hdef
   have g1 : ¬ (t : Int) ≤ (x : Int) := by omega
   have HD := (show Hid (T = some (x, p + k) ∧ p + k ≤ 8 * bs.length ∧ numAt bs p k = x) from ⟨hdef, by omega, hxe⟩)
   clear hP hm h hT hH hp hm2 hm13 hm1 kq hdef hx k2 c1 c2 hxe
   go_enter Tryz.func136, Tryz.ntmps136
   go_wp2_with (first | (go_at_call 143; refine (HV.out _).mono ?_; rintro e w' ⟨rfl, q, rfl⟩) | (go_at_call 114; refine (bits_take_i rb g bs p k x _ rfl (by have := HK.out; omega) _ (HK.out.2.2.2.drewN _) HD.out.2.1 HD.out.2.2).mono ?_; rintro e w' ⟨rfl, hI2, hK2⟩))
   go_ret2
   exact cnt_some HD.out.1 ((HQ.out q).trans hK2 (fun _ _ h => h)) hI2
  ·rw [if_neg c2] at hdef
   have g1 : (t : Int) ≤ (x : Int) := by omega
   by_cases c3 : 8 * bs.length < p + k + 1
   ·rw [if_pos c3] at hdef
    have HD := (show Hid (T = none ∧ p + k ≤ 8 * bs.length ∧ numAt bs p k = x ∧ 8 * bs.length < p + k + 1) from ⟨hdef, by omega, hxe, c3⟩)
    clear hP hm h hT hH hp hm2 hm13 hm1 kq hdef hx k2 c1 c2 hxe c3
    go_enter Tryz.func136, Tryz.ntmps136
    go_wp2_with (go_at_call 143; refine (HV.out _).mono ?_; rintro e w' ⟨rfl, q, rfl⟩)
    refine (bits_take_i rb g bs p k x _ rfl (by have := HK.out; omega) _ (HK.out.2.2.2.drewN _) HD.out.2.1 HD.out.2.2.1).mono ?_
    rintro e w1 ⟨rfl, hI1, hK1⟩
    go_wp2_with fail
    refine (bits_few_i rb g bs (p + k) 1 _ rfl (by omega) _ hI1 HD.out.2.2.2).mono ?_
    rintro e w2 ⟨rfl, q2, rfl⟩
    go_wp2_with fail
    go_ret2
    exact cnt_none HD.out.1 (((HQ.out q).trans hK1 (fun _ _ h => h)).trans (HQ2.out _ q2) (fun _ _ h => h))
   ·rw [if_neg c3] at hdef
    have hb2 := numAt_lt bs (p + k) 1
    by_cases c4 : numAt bs (p + k) 1 = 1
    ·rw [if_pos c4] at hdef
     obtain ⟨v, hv⟩ : ∃ v, v = x + P - t := ⟨_, rfl⟩
     rw [← hv] at hdef
     have g2 : (x : Int) + ((P : Int) - (t : Int)) = (v : Int) := by omega
     have g3 : (v : Int) ≤ 8192 := by omega
     have HD := (show Hid (T = some (v, p + k + 1) ∧ p + k ≤ 8 * bs.length ∧ numAt bs p k = x ∧ p + k + 1 ≤ 8 * bs.length ∧ numAt bs (p + k) 1 = 1) from ⟨hdef, by omega, hxe, by omega, c4⟩)
     clear hP hm h hT hH hp hm2 hm13 hm1 kq hdef hx k2 c1 c2 hxe c3 c4 hb2 hv
     go_enter Tryz.func136, Tryz.ntmps136
     go_wp2_with (go_at_call 143; refine (HV.out _).mono ?_; rintro e w' ⟨rfl, q, rfl⟩)
     refine (bits_take_i rb g bs p k x _ rfl (by have := HK.out; omega) _ (HK.out.2.2.2.drewN _) HD.out.2.1 HD.out.2.2.1).mono ?_
     rintro e w1 ⟨rfl, hI1, hK1⟩
     go_wp2_with fail
     refine (bits_take_i rb g bs (p + k) 1 1 _ rfl (by omega) _ hI1 HD.out.2.2.2.1 HD.out.2.2.2.2).mono ?_
     rintro e w2 ⟨rfl, hI2, hK2⟩
     go_wp2_with fail
     go_ret2
     exact cnt_some HD.out.1 (((HQ.out q).trans hK1 (fun _ _ h => h)).trans hK2 (fun _ _ h => h)) hI2
    ·rw [if_neg c4] at hdef
     have c5 : numAt bs (p + k) 1 = 0 := by omega
     have HD := (show Hid (T = some (x, p + k + 1) ∧ p + k ≤ 8 * bs.length ∧ numAt bs p k = x ∧ p + k + 1 ≤ 8 * bs.length ∧ numAt bs (p + k) 1 = 0) from ⟨hdef, by omega, hxe, by omega, c5⟩)
     clear hP hm h hT hH hp hm2 hm13 hm1 kq hdef hx k2 c1 c2 hxe c3 c4 hb2 c5
     go_enter Tryz.func136, Tryz.ntmps136
     go_wp2_with (go_at_call 143; refine (HV.out _).mono ?_; rintro e w' ⟨rfl, q, rfl⟩)
     refine (bits_take_i rb g bs p k x _ rfl (by have := HK.out; omega) _ (HK.out.2.2.2.drewN _) HD.out.2.1 HD.out.2.2.1).mono ?_
     rintro e w1 ⟨rfl, hI1, hK1⟩
     go_wp2_with fail
     refine (bits_take_i rb g bs (p + k) 1 0 _ rfl (by omega) _ hI1 HD.out.2.2.2.1 HD.out.2.2.2.2).mono ?_
     rintro e w2 ⟨rfl, hI2, hK2⟩
     go_wp2_with fail
     go_ret2
     exact cnt_some HD.out.1 (((HQ.out q).trans hK1 (fun _ _ h => h)).trans hK2 (fun _ _ h => h)) hI2

end Go.Proofs.YtnjilcokkhodmaaGreatDoor

namespace Go.Proofs.YtnjilcokkhodmaaGreatDoor
open Go.RowKit Go.Shelf

end Go.Proofs.YtnjilcokkhodmaaGreatDoor
