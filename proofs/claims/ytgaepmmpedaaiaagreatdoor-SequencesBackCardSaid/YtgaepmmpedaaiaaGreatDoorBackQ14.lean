/-
  Tables that are offered: those that are described.
  shortestRow: the row of codes that takes the fewest bits, of all that are offered.
  Steps as they lie; codesOf: the codes of all steps' values of one kind.
  A tail's writer of one's own beside a variable of one's own; put of a coding, once more.
-/
import Derived.Test.YtgaepmmpedaaiaaGreatDoorBackQ13
namespace Go.Proofs.YtgaepmmpedaaiaaGreatDoor
open Go.RowKit Go.Shelf
set_option linter.unusedVariables false

/-- How often a code is among the first i. -/
def cntC (cs : List Nat) (c i : Nat) : Nat := cntP (fun j => decide (cs[j]?.getD 0 = c)) i
theorem cntC_le (cs : List Nat) (c i : Nat) : cntC cs c i ≤ i := cntP_le _ _
theorem cntC_pos (cs : List Nat) (c : Nat) (h : c ∈ cs) : 0 < cntC cs c cs.length := by
  obtain ⟨i, hi, rfl⟩ := List.mem_iff_getElem.1 h
  have := cntP_lt (fun j => decide (cs[j]?.getD 0 = cs[i])) i cs.length hi (by simp [hi])
  unfold cntC
  omega
theorem cntC_succ (cs : List Nat) (c i : Nat) : cntC cs c (i + 1) = cntC cs c i + if cs[i]?.getD 0 = c then 1 else 0 := by
  show (cntP _ i + if _ then 1 else 0) = _
  by_cases h : cs[i]?.getD 0 = c <;> simp [h, cntC]
def freqL (cs : List Nat) (n : Nat) : List Int := (List.range n).map (fun j => ((cntC cs j cs.length : Nat) : Int))
theorem freqL_len (cs : List Nat) (n : Nat) : (freqL cs n).length = n := by simp [freqL]
theorem freqL_at (cs : List Nat) (n j : Nat) (h : j < n) : (freqL cs n)[j]?.getD 0 = ((cntC cs j cs.length : Nat) : Int) := by
  unfold freqL
  rw [List.getElem?_map, List.getElem?_range h]
  rfl
theorem freqL_u32 (cs : List Nat) (n : Nat) (h : cs.length ≤ 65535) : U32 (freqL cs n) := fun i => by
  by_cases hi : i < n
  · rw [freqL_at cs n i hi]
    have := cntC_le cs i cs.length
    omega
  · rw [List.getElem?_eq_none (by rw [freqL_len]; omega)]
    simp
theorem freqL_pos (cs : List Nat) (n c : Nat) (h : c ∈ cs) (hc : c < n) : 0 < fr (freqL cs n) c := by
  unfold fr
  rw [freqL_at cs n c hc]
  have := cntC_pos cs c h
  omega
theorem owns_zero {w : World} {base e sz : Nat} {v : Value} {n : Nat} {xs : List Value} (h : w.ownsRow base e sz v n xs) : w.ownsRow 0 e sz v n xs := by
  refine ⟨h.1, ?_⟩
  rcases h.2 with h0 | ⟨g, cap, cur, e, hb, hr⟩
  · exact .inl h0
  · exact .inr ⟨g, cap, cur, e, Nat.zero_le _, hr⟩
/-- A row of one's own, told as bytes, in new memory. -/
theorem owns_new {w : World} {base : Nat} {v : Value} {M : List Nat} (h : w.ownsRow base 5 1 v M.length (u8s M)) (hM : ∀ j : Nat, M[j]?.getD 0 < 256) (hl : M.length < 2 ^ 48) : ∃ a cap g, v = .slice a M.length cap ∧ Bytes w a cap g 0 M ∧ (M ≠ [] → base ≤ g) := by
  obtain ⟨a, cap, g, rfl, h2, h3⟩ := owns_bytes (owns_zero h) hM hl
  refine ⟨a, cap, g, rfl, h2, fun hne => ?_⟩
  obtain rfl := h2.at_.resolve_right hne
  exact (owns_lt h (k := g) (by simp [Value.ownBlock])).1
theorem info52 : (Tryz.prog.info? 52).map (fun i => (i.zero, i.size, i.bytes)) = some (some (.int .u32 0), 1, 4) := by kernel_rfl
theorem run_make161 (n : Nat) (h : n ≤ 256) (w : World) : (Instr.makeSlice 161 (.int .i64 (n : Int)) (.int .i64 (n : Int))).run Tryz.prog w = .ok (.slice (some ⟨w.heap.size, 0, none⟩) n n) (w.alloc (.cells (madeCells #[.int .u32 0] n) 52)) :=
  run_make_row' 161 52 (.int .u32 0) 4 Tryz.underlying161 info52 rfl .i64 .i64 n (by omega) (by omega) w
theorem isA_new52 (w : World) (n : Nat) : IsA (w.alloc (.cells (madeCells #[.int .u32 0] n) 52)) w.heap.size 52 .u32 n (fun _ => 0) :=
  ⟨_, World.alloc_heap_new w _, size_madeCells _ _, fun i hi => by simp [madeCells, hi, Nat.mod_one]⟩

section
attribute [local go_sem] maxSem_eq minSem_eq
set_option maxRecDepth 100000 in
set_option maxHeartbeats 8000000 in
theorem offerDescribed_any (W : World) (K : Kd) (b o gk nb : Nat) (cs : List Nat) (cb fb bb lo : Nat) (ac : Option Addr) (capc gc oc : Nat) (h : Offer W K b o gk nb 2 cs cb fb bb lo ac capc gc oc true) :
    Calls Tryz.prog 55 #[.pointer (some ⟨b, o, none⟩), .slice ac cs.length capc, takeV cb fb nb bb] W fun e W' => OAns K cs cb fb bb lo ac capc gc oc W e W' := by
  have hne : cs ≠ [] := fun e => by have := h.pos; rw [e] at this; simp at this
  obtain rfl := h.bt.bytes.at_.resolve_right hne
  obtain ⟨n, hn⟩ : ∃ n, n = cs.length := ⟨_, rfl⟩
  obtain ⟨m, hm⟩ : ∃ m, m = K.codes := ⟨_, rfl⟩
  have hn2 := h.le
  have hn1 := h.pos
  have hm1 := h.cod.ok.le
  rw [← hn] at hn1 hn2 ⊢
  rw [← hm] at hm1
  have c0 := h.cod.codes
  rw [← hm] at c0
  have hmk := run_make161 m (by omega) W
  have hA0 := isA_new52 W m
  have hk0 : Keep noBlock W (W.alloc (.cells (madeCells #[.int .u32 0] m) 52)) := (Keep.refl _ W).alloc _
  obtain ⟨W1, hW1⟩ : ∃ W1, W1 = W.alloc (.cells (madeCells #[.int .u32 0] m) 52) := ⟨_, rfl⟩
  obtain ⟨fg, hfg⟩ : ∃ fg, fg = W.heap.size := ⟨_, rfl⟩
  rw [← hW1, ← hfg] at hmk hA0
  rw [← hW1] at hk0
  have HH := hid (And.intro h (And.intro hn (And.intro hm hfg)))
  have H0 := hid (And.intro hA0 hk0)
  have hnI : (n : Int) ≤ 65535 := by omega
  have hmI : (m : Int) ≤ 53 := by omega
  have hnw : IntKind.u64.wrap (n : Int) = (n : Int) := by rw [IntKind.wrap_u64]; omega
  have HL := (show Hid (∀ W' : World, _) from fun W' => len_any n (by omega) W')
  clear h hne hn hm hA0 hk0 hW1 hfg
  unfold takeV
  go_enter Tryz.func55, Tryz.ntmps55
  go_wp2_with fail
  go_loopw [23] (fun v23 wr => ∃ i : Nat, v23 = .int .i64 (i : Int) ∧ i ≤ n ∧ Hid (IsA wr fg 52 .u32 m (fun j => ((cntC cs j i : Nat) : Int)) ∧ Keep noBlock W wr)) (fun v23 _ => n - (intOf v23).toNat)
  case atStart => exact ⟨0, rfl, Nat.zero_le _, H0.out.1, H0.out.2⟩
  case round =>
    clear H0 hmk
    obtain ⟨i, rfl, hi, HC⟩ := hrel
    by_cases hlt : i < n
    · obtain ⟨hA, hK⟩ := HC.out
      obtain ⟨h, e1, e2, e3⟩ := HH.out
      have h' := h.to hK
      have d1 := h'.bt.bytes.cells i (by omega)
      obtain ⟨c, hc⟩ : ∃ c, c = cs[i]?.getD 0 := ⟨_, rfl⟩
      rw [← hc] at d1
      have hcm : c ∈ cs := by rw [hc, List.getElem?_eq_getElem (by omega)]; exact List.getElem_mem _
      have hcl : c < m := by have h1 := h.cs_ c hcm; have := h.df.le; omega
      have hclI : (c : Int) < (m : Int) := by omega
      have d2 := hA.cell c hcl
      have d3 := hA.frozen c
      have hle := cntC_le cs c i
      obtain ⟨x, hx⟩ : ∃ x, x = cntC cs c i := ⟨_, rfl⟩
      rw [← hx] at d2 hle
      obtain ⟨x1, hx1⟩ : ∃ x1, x1 = x + 1 := ⟨_, rfl⟩
      have hxI : (x : Int) + 1 = (x1 : Int) := by omega
      have hxw : IntKind.u32.wrap (x1 : Int) = (x1 : Int) := by rw [IntKind.wrap_u32]; omega
      have hltI : (i : Int) < (n : Int) := by omega
      have HN := (show Hid (IsA (wr.setCell ⟨fg, c, none⟩ (.int .u32 (x1 : Int))) fg 52 .u32 m (fun j => ((cntC cs j (i + 1) : Nat) : Int)) ∧ Keep noBlock W (wr.setCell ⟨fg, c, none⟩ (.int .u32 (x1 : Int)))) from by
        refine ⟨(hA.set c (x1 : Int)).congr (fun j hj => ?_), hK.setCell (p := ⟨fg, c, none⟩) (fun h => by dsimp only at h; omega) _⟩
        rw [cntC_succ, ← hc]
        by_cases e : j = c
        · rw [if_pos e, e, ← hx, if_pos rfl, hx1]
        · rw [if_neg e, if_neg (fun h => e h.symm), Nat.add_zero])
      have hx1b : (x1 : Int) ≤ 65536 := by omega
      clear hA hK h h' e1 e2 e3 hc hcm hle hx HC hx1
      go_wp2_with fail
      go_roundw
      case rel => exact ⟨i + 1, by go_num, by omega, HN.out⟩
      case measure => simp [intOf]; omega
    · obtain rfl : i = n := by omega
      have hltI : ¬ (i : Int) < (i : Int) := by omega
      have HD := hid HC.out
      clear HC
      have hml9 := HH.out.1.cod.ok.ml9
      have hml5 := HH.out.1.cod.ok.ml5
      obtain ⟨ml, hml⟩ : ∃ ml, ml = K.ml := ⟨_, rfl⟩
      rw [← hml] at hml9 hml5
      have c7 : wr.cell? ⟨b, o + 107, none⟩ = some (.int .i64 (ml : Int)) := by rw [hml]; exact (HH.out.1.to HD.out.2).cod.ml
      have HML := hid hml
      have c8 : ∀ q, (wr.drewN q).cell? ⟨b, o + 107, none⟩ = some (.int .i64 (ml : Int)) := fun q => c7
      obtain ⟨y, hy⟩ : ∃ y, y = max 5 (lenN i) := ⟨_, rfl⟩
      obtain ⟨M, hM⟩ : ∃ M, M = min ml y := ⟨_, rfl⟩
      have hmx := fun W => maxSem_run .i64 #[3, 3] 3 5 ((lenN i : Nat) : Int) (y : Int) (by omega) W
      have hmn := fun W => minSem_run .i64 #[3, 3] 3 (ml : Int) (y : Int) (M : Int) (by omega) W
      have hMm : M ≤ ml := by omega
      have hM5 : 5 ≤ M := by omega
      clear hy hM hml c0
      go_wp2_with fail
      go_region_held3 (fun W => W.cell? ⟨b, o + 107, none⟩ = some (.int .i64 (ml : Int))) (first | exact c7 | exact c8 _) ((first
        | (go_at_call 62; refine (HL.out _).mono ?_; rintro e w2 ⟨rfl, rfl⟩)))
      go_wp2_with fail
      clear c7 c8 hmx hmn
      obtain ⟨hA, hK⟩ := HD.out
      have hR : RowI wr .u32 (some ⟨fg, 0, none⟩) m fg 0 (freqL cs m) := by
        refine ⟨.inl rfl, fun e => (by cases e), fun j hj => ?_, by rw [freqL_len]; exact Nat.le_refl _⟩
        rw [freqL_len] at hj
        rw [Nat.zero_add, freqL_at cs m j hj, ← HH.out.2.1]
        exact hA.cell j hj
      obtain ⟨wA, hwA⟩ : ∃ wA, wA = wr.drew := ⟨_, rfl⟩
      rw [← hwA]
      have hkA : Keep noBlock wr wA := by rw [hwA]; exact (Keep.refl _ wr).drew
      replace hR := hR.keep hkA (fun _ h => h)
      replace hA := hA.keep hkA (fun h => h)
      replace hK := hK.trans' hkA
      have HF := (show Hid (RowI wA .u32 (some ⟨fg, 0, none⟩) m fg 0 (freqL cs m) ∧ Offer wA K b o gk nb 2 cs cb fb bb lo (some ⟨gc, oc, none⟩) capc gc oc true ∧ Keep noBlock W wA ∧ fg < wA.heap.size ∧ fg ≠ fb ∧ fg ≠ bb) from ⟨hR, HH.out.1.to hK, hK, hA.lt, by have := HH.out.1.bt.lo; have := HH.out.2.2.2; omega, by have := HH.out.1.bt.lo; have := HH.out.2.2.2; omega⟩)
      clear HD hA hK hR hkA hwA
      go_loopw [10] (fun v10 w2 => ∃ l : Nat, v10 = .int .i64 (l : Int) ∧ 5 ≤ l ∧ l ≤ M + 1 ∧ Hid (Bt w2 K cs cb fb bb lo (some ⟨gc, oc, none⟩) capc gc oc true ∧ Keep (fun j => j = fb ∨ j = bb) wA w2)) (fun v10 _ => M + 1 - (intOf v10).toNat)
      case atStart => exact ⟨5, rfl, Nat.le_refl _, by omega, HF.out.2.1.bt, Keep.refl _ _⟩
      case round =>
        obtain ⟨l, rfl, hl5, hlM, HC⟩ := hrel
        by_cases hlt2 : l ≤ M
        · have hl9 : l ≤ 9 := by omega
          have hlt2I : (l : Int) ≤ (M : Int) := by omega
          have hO := HF.out.2.1.on HC.out.1 HC.out.2
          have hR2 := HF.out.1.keep HC.out.2 (fun _ => by have := HF.out; omega)
          have hfl := freqL_len cs m
          have hcn := counts_in _ _ _ _ _ l _ hR2 (freqL_u32 cs m (by rw [← HH.out.2.1]; omega)) (by rw [hfl]; omega) hl5 (by omega)
          rw [hfl] at hcn
          have HCN := hid hcn
          have HO := hid hO
          clear hO hR2 hfl hcn
          go_wp2_with fail
          refine HCN.out.mono ?_
          rintro e w2 (⟨-, rfl, rfl⟩ | ⟨-, xb, xs, rfl, x1, x2, x3, x4, x5, x6⟩)
          · clear HCN
            go_wp2_with fail
            go_roundw
            case rel => exact ⟨l + 1, by go_num, by omega, by omega, HC.out⟩
            case measure => simp [intOf]; omega
          · have HW := hid (write_good _ _ _ _ xs l w2 x1 x3 x2)
            have HX := hid (And.intro x1 (And.intro x2 (And.intro x3 (And.intro x4 (And.intro x5 x6)))))
            obtain ⟨xn, hxn⟩ : ∃ xn, xn = xs.length := ⟨_, rfl⟩
            rw [← hxn] at HW ⊢
            have HXN := hid hxn
            clear x1 x2 x3 x4 x5 x6 HCN hxn
            go_wp2_with fail
            refine HW.out.mono ?_
            rintro e w3 ⟨v, rfl, v1, v2⟩
            obtain ⟨x1, x2, x3, x4, x5, x6⟩ := HX.out
            have HTB := hid (table_good _ _ _ _ xs l w3 (x1.keep v2 (fun _ h => h)) x3 x2)
            obtain ⟨q, hq⟩ : ∃ q, q = 2 ^ l := ⟨_, rfl⟩
            rw [← HXN.out, ← hq] at HTB
            have HV := hid (And.intro v1 v2)
            have HQ := hid hq
            clear x1 x2 x3 x4 x5 x6 v1 v2 HW hq
            go_wp2_with fail
            refine HTB.out.mono ?_
            rintro e w4 ⟨g, capg, rfl, t1, t2, t3, t4⟩
            rw [HQ.out] at t3
            have HN := (show Hid (∀ m at_ capt, v = .slice at_ m capt → Calls Tryz.prog 68 #[.slice at_ m capt, .slice (some ⟨g, 0, none⟩) q capg, .pointer (some ⟨cb, 0, none⟩), .pointer (some ⟨fb, 0, none⟩), .pointer (some ⟨nb, 0, none⟩), .pointer (some ⟨bb, 0, none⟩)] w4 fun e W'' => OAns K cs cb fb bb lo (some ⟨gc, oc, none⟩) capc gc oc wr e W'') from fun m at_ capt hv => by
              obtain ⟨x1, x2, x3, x4, x5, x6⟩ := HX.out
              obtain ⟨v1, v2⟩ := HV.out
              have hO := HO.out
              have hdl := dscB_len x2
              obtain ⟨a, cap, gt, hv2, hB, hgt⟩ := owns_new v1 (pack_lt _) (by have := hdl.2.1; omega)
              rw [hv2] at hv
              cases hv
              have e1 := HH.out.2.2.1
              rw [freqL_len] at x4 x5
              have hkk := (x6.trans' v2).trans' t4
              refine hO.take hkk (tbX xs l) (pack (alignL (dscAll xs l))) at_ capt gt 0 g capg _ q t3 (by have := x6.size; have := v2.size; omega) (tbX_ok x2 hl9 (by omega) cs (fun c hc => ?_)) (hB.keep t4 (fun _ h => h)) (fun e => by have := hgt e; have := x6.size; omega) (.inr (.inr ⟨xs, l, rfl, x2, x3, by have := HML.out; omega, by omega, rfl, rfl⟩)) rfl HQ.out
              have hcm : c < m := by have h1 := hO.cs_ c hc; have := hO.df.le; omega
              exact (x5 c hcm).1 (freqL_pos cs m c hc hcm))
            obtain ⟨at_, tn, capt, hv⟩ : ∃ at_ tn capt, v = .slice at_ tn capt := by
              obtain ⟨a, cap, gt, hv2, -⟩ := owns_new HV.out.1 (pack_lt _) (by have := (dscB_len HX.out.2.1).2.1; omega)
              exact ⟨_, _, _, hv2⟩
            have HN2 := hid (HN.out tn at_ capt hv)
            subst hv
            clear HN t1 t2 t3 t4 HTB
            go_wp2_with fail
            refine HN2.out.mono ?_
            rintro e w5 ⟨rfl, q1, q2⟩
            have HC2 := (show Hid (Bt w5 K cs cb fb bb lo (some ⟨gc, oc, none⟩) capc gc oc true ∧ Keep (fun j => j = fb ∨ j = bb) wA w5) from ⟨q1, HC.out.2.trans' q2⟩)
            clear q1 q2 HN2
            go_wp2_with fail
            go_roundw
            case rel => exact ⟨l + 1, by go_num, by omega, by omega, HC2.out⟩
            case measure => simp [intOf]; omega
        · have hlt2I : ¬ (l : Int) ≤ (M : Int) := by omega
          go_wp2_with fail
          go_end0
          exact ⟨rfl, HC.out.1, (HF.out.2.2.1.mono (T := fun j => j = fb ∨ j = bb) (fun _ _ h => h.elim)).trans HC.out.2 (fun _ _ h => h)⟩
end
end Go.Proofs.YtgaepmmpedaaiaaGreatDoor

namespace Go.Proofs.YtgaepmmpedaaiaaGreatDoor
open Go.RowKit Go.Shelf
set_option linter.unusedVariables false

theorem RowM.weak {W : World} {lo lo' n : Nat} {R : RowP} {vt vc vp : Value} (h : RowM W lo n R vt vc vp) (hl : lo' ≤ lo) : RowM W lo' n R vt vc vp := by
  obtain ⟨⟨a, cap, g, o, h1, h2, h3⟩, ⟨g2, cap2, h4, h5, h6⟩, ⟨g3, h7, h8, h9⟩⟩ := h
  exact ⟨⟨a, cap, g, o, h1, h2, fun e => Nat.le_trans hl (h3 e)⟩, ⟨g2, cap2, h4, h5, Nat.le_trans hl h6⟩, ⟨g3, h7, h8, Nat.le_trans hl h9⟩⟩
def ShrPost (w : World) (K : Kd) (cs : List Nat) (ac : Option Addr) (capc : Nat) (e : Ending) (w' : World) : Prop :=
  ∃ (R : RowP) (vt vc vp : Value), e = .returned (.agg #[.int .i64 (R.k : Int), vt, vc, .slice ac cs.length capc, vp]) ∧ RowOk K cs R ∧ RowM w' w.heap.size cs.length R vt vc vp ∧ Keep noBlock w w'
def row0 : Array Value := #[.int .i64 0, .slice none 0 0, .slice none 0 0, .slice none 0 0, .slice none 0 0]
def offerNo (i : Nat) : Nat := [51, 53, 55, 57][i]?.getD 0
/-- Each kind's offer. -/
theorem offers (i : Nat) (hi : i < 4) (W : World) (K : Kd) (b o gk nb : Nat) (cs : List Nat) (cb fb bb lo : Nat) (ac : Option Addr) (capc gc oc : Nat) (h : Offer W K b o gk nb i cs cb fb bb lo ac capc gc oc (decide (0 < i))) :
    Calls Tryz.prog (offerNo i) #[.pointer (some ⟨b, o, none⟩), .slice ac cs.length capc, takeV cb fb nb bb] W fun e W' => OAns K cs cb fb bb lo ac capc gc oc W e W' := by
  rcases (show i = 0 ∨ i = 1 ∨ i = 2 ∨ i = 3 by omega) with rfl | rfl | rfl | rfl
  · exact offerUntold_any W K b o gk nb cs cb fb bb lo ac capc gc oc _ h
  · exact offerAlone_any W K b o gk nb cs cb fb bb lo ac capc gc oc h
  · exact offerDescribed_any W K b o gk nb cs cb fb bb lo ac capc gc oc h
  · refine (offerNothing_any W _ _ _).mono ?_
    rintro e w' ⟨rfl, rfl⟩
    exact ⟨rfl, h.bt, Keep.refl _ _⟩

def readNo (i : Nat) : Nat := [50, 52, 54, 56][i]?.getD 0
theorem index_kinds (i : Nat) (hi : i < 4) (W : World) : (Instr.index 95 (.agg kindsC) (.int .i64 (i : Int))).run Tryz.prog W = .ok (.agg #[.func (.func (readNo i)) #[] #[], .func (.func (offerNo i)) #[] #[]]) W := by
  rcases (show i = 0 ∨ i = 1 ∨ i = 2 ∨ i = 3 by omega) with rfl | rfl | rfl | rfl <;> kernel_rfl
theorem call_offers (i : Nat) (hi : i < 4) (args : Array Value) (W : World) : (callFunc (offerNo i) args).run Tryz.prog W = .ok (.enter (offerNo i) args) W := by
  rcases (show i = 0 ∨ i = 1 ∨ i = 2 ∨ i = 3 by omega) with rfl | rfl | rfl | rfl <;> kernel_rfl
theorem setRow_new1 (w : World) (o : Obj) (c c' : Array Value) (t : TypeId) : ((w.alloc o).alloc (.cells c t)).setRow (w.heap.size + 1) c' = (w.alloc o).alloc (.cells c' t) := by
  have := World.setRow_alloc_new (w.alloc o) c c' t
  rwa [World.size_alloc] at this
theorem Bt.new {wr : World} {K : Kd} {cs : List Nat} {cb fb bb lo : Nat} {ac : Option Addr} {capc gc oc : Nat} {st : Bool} (h : Bt wr K cs cb fb bb lo ac capc gc oc st) : lo ≤ wr.heap.size := h.lo.2.2.2
set_option maxRecDepth 100000 in
set_option maxHeartbeats 8000000 in
theorem shortestRow_any (w : World) (K : Kd) (b o gk : Nat) (cs : List Nat) (ac : Option Addr) (capc gc oc : Nat) (hC : Coding w b o gk K) (hD : KDef K) (hB : Bytes w ac capc gc oc cs) (hcs : ∀ c ∈ cs, c < K.cs.length) (h1 : 1 ≤ cs.length) (h2 : cs.length ≤ 65535) :
    Calls Tryz.prog 47 #[.pointer (some ⟨b, o, none⟩), .slice ac cs.length capc] w fun e w' => ShrPost w K cs ac capc e w' := by
  have hne : cs ≠ [] := fun e => by rw [e] at h1; simp at h1
  obtain ⟨n, hn⟩ : ∃ n, n = cs.length := ⟨_, rfl⟩
  obtain ⟨s, hs⟩ : ∃ s, s = w.heap.size := ⟨_, rfl⟩
  obtain ⟨W0, hW0⟩ : ∃ W0, W0 = ((w.alloc (.cells #[.slice ac n capc] 22)).alloc (.cells row0 122)).alloc (.cells #[.int .i64 9223372036854775807] 3) := ⟨_, rfl⟩
  have hk0 : Keep noBlock w W0 := by rw [hW0]; exact (((Keep.refl _ w).alloc _).alloc _).alloc _
  have o1 : W0.heap[s]? = some (.cells #[.slice ac n capc] 22 (0, 0)) := by rw [hW0, hs]; exact alloc_far (alloc_far (alloc_new w _) _) _
  have o2 : W0.heap[s + 1]? = some (.cells row0 122 (0, 0)) := by rw [hW0, hs]; exact alloc_far (alloc_new1 _ _ _) _
  have o3 : W0.heap[s + 1 + 1]? = some (.cells #[.int .i64 9223372036854775807] 3 (0, 0)) := by
    rw [hW0, hs]
    have := alloc_new ((w.alloc (.cells #[.slice ac n capc] 22)).alloc (.cells row0 122)) (.cells #[.int .i64 9223372036854775807] 3)
    rwa [World.size_alloc, World.size_alloc] at this
  have hsz : W0.heap.size = s + 3 := by rw [hW0, hs]; simp [World.size_alloc]
  have hgc := hB.block hne
  have hBt : Bt W0 K cs s (s + 1 + 1) (s + 1) (s + 3) ac capc gc oc false :=
    ⟨by rw [← hn]; exact o1, hB.keep hk0 (fun _ h => h), ⟨_, o3, fun _ => rfl⟩, ⟨⟨0, [], tbA 0, fun _ => 0⟩, _, _, _, _, o2, fun e => by cases e⟩, by omega, by omega, by omega⟩
  have HK := (show Hid (∀ W : World, _) from fun W => kinds_any W)
  have HB := (show Hid (Bt W0 K cs s (s + 1 + 1) (s + 1) (s + 3) ac capc gc oc false ∧ Coding W0 b o gk K ∧ KDef K ∧ (∀ c ∈ cs, c < K.cs.length) ∧ n = cs.length ∧ s = w.heap.size ∧ b < s ∧ gk < s ∧ Keep noBlock w W0 ∧ 1 ≤ n ∧ n ≤ 65535) from
    ⟨hBt, hC.keep hk0 (fun h => h) (fun h => h), hD, hcs, hn, hs, by rw [hs]; exact hC.lt, by rw [hs]; exact hC.gt, hk0, by omega, by omega⟩)
  rw [← hn]
  clear hC hD hB hcs h1 h2 hne hn hk0 o1 o2 o3 hsz hgc hBt
  go_enter Tryz.func47, Tryz.ntmps47
  go_wp2_with fail
  unfold row0 at hW0
  rw [← hW0, ← hs]
  refine (HK.out _).mono ?_
  rintro e w1 ⟨rfl, k1⟩
  have HD := (show Hid (Bt w1 K cs s (s + 1 + 1) (s + 1) (s + 3) ac capc gc oc false ∧ Coding w1 b o gk K ∧ Keep noBlock w w1) from ⟨HB.out.1.to k1, HB.out.2.1.keep k1 (fun h => h) (fun h => h), HB.out.2.2.2.2.2.2.2.2.1.trans' k1⟩)
  clear k1 HK hW0 hs
  go_wp2_with fail
  go_loopw [9] (fun v9 wr => ∃ i : Nat, v9 = .int .i64 (i : Int) ∧ i ≤ 4 ∧ Hid (Bt wr K cs s (s + 1 + 1) (s + 1) (s + 3) ac capc gc oc (decide (0 < i)) ∧ Keep (fun j => j = s + 1 + 1 ∨ j = s + 1) w1 wr)) (fun v9 _ => 4 - (intOf v9).toNat)
  case atStart => exact ⟨0, rfl, by omega, HD.out.1, Keep.refl _ _⟩
  case round =>
    obtain ⟨i, rfl, hi, HC⟩ := hrel
    obtain ⟨hB, hK⟩ := HC.out
    by_cases hlt : i < 4
    · have c1 : wr.cell? ⟨s, 0, none⟩ = some (.slice ac n capc) := by rw [HB.out.2.2.2.2.1]; exact cell_of hB.box 0
      have hix := index_kinds i hlt
      have hltI : (i : Int) < 4 := by omega
      obtain ⟨fr, hfr⟩ : ∃ fr, fr = readNo i := ⟨_, rfl⟩
      obtain ⟨fo, hfo⟩ : ∃ fo, fo = offerNo i := ⟨_, rfl⟩
      have hcf := call_offers i hlt
      rw [← hfr, ← hfo] at hix
      rw [← hfo] at hcf
      have HFO := hid hfo
      clear hfr hfo
      obtain ⟨nb, hnb⟩ : ∃ nb, nb = wr.heap.size := ⟨_, rfl⟩
      obtain ⟨w2, hw2⟩ : ∃ w2, w2 = (wr.alloc (.cells #[.int .i64 (i : Int)] 3)).alloc (.cells #[.func (.func fr) #[] #[], .func (.func fo) #[] #[]] 94) := ⟨_, rfl⟩
      have hk2 : Keep noBlock wr w2 := by rw [hw2]; exact ((Keep.refl _ wr).alloc _).alloc _
      have o4 : w2.heap[nb]? = some (.cells #[.int .i64 (i : Int)] 3 (0, 0)) := by rw [hw2, hnb]; exact alloc_far (alloc_new _ _) _
      have o5 : w2.heap[nb + 1]? = some (.cells #[.func (.func fr) #[] #[], .func (.func fo) #[] #[]] 94 (0, 0)) := by rw [hw2, hnb]; exact alloc_new1 _ _ _
      have c2 : w2.cell? ⟨s, 0, none⟩ = some (.slice ac n capc) := keep_cell0 hk2 c1
      have c3 : w2.cell? ⟨nb + 1, 1, none⟩ = some (.func (.func fo) #[] #[]) := cell_of o5 1
      have HZ1 := hid (show (Tryz.prog.info? 94).map (·.size) = some (#[.func (.func fr) #[] #[], .func (.func fo) #[] #[]] : Array Value).size from (by kernel_rfl : (Tryz.prog.info? 94).map (·.size) = some 2))
      have HZ3 := hid (show (#[.func (.func fr) #[] #[], .func (.func fo) #[] #[]] : Array Value).all (·.oneCell') = true from all_oneCell_toArray (fun v hv => by simp only [List.mem_cons, List.not_mem_nil, or_false] at hv; rcases hv with rfl | rfl <;> rfl))
      have HO := (show Hid (Calls Tryz.prog fo #[.pointer (some ⟨b, o, none⟩), .slice ac n capc, .func (.func 68) #[] #[.pointer (some ⟨s, 0, none⟩), .pointer (some ⟨s + 1 + 1, 0, none⟩), .pointer (some ⟨nb, 0, none⟩), .pointer (some ⟨s + 1, 0, none⟩)]] w2 fun e W' => OAns K cs s (s + 1 + 1) (s + 1) (s + 3) ac capc gc oc w2 e W') from by
        obtain ⟨g1, g2, g3, g4, g5, g6, g7, g8, g9, g10, g11⟩ := HB.out
        have hnl := hB.new
        have := offers i hlt w2 K b o gk nb cs s (s + 1 + 1) (s + 1) (s + 3) ac capc gc oc ⟨hB.to hk2, (HD.out.2.1.keep hK (by omega) (by omega)).keep hk2 (fun h => h) (fun h => h), g3, by omega, o4, g4, by omega, by omega⟩
        rw [← HFO.out, ← g5] at this
        exact this)
      have HKW := (show Hid (Keep (fun j => j = s + 1 + 1 ∨ j = s + 1) w1 w2) from hK.trans hk2 (fun _ _ h => h.elim))
      have HW2 := hid hw2
      have HNB := hid hnb
      clear hB hK hk2 o4 o5 HC hw2 hnb
      generalize kindsC = kc at *
      go_wp2_with (refine wpList_store_row rfl 94 (.tmp 7) (.tmp 12) rfl _ #[.func (.func fr) #[] #[], .func (.func fo) #[] #[]] rfl rfl 94 _ (alloc_new1 _ _ _) HZ1.out (by kernel_rfl) HZ3.out ?_; rw [setRow_new1, ← HW2.out, ← HNB.out])
      refine HO.out.mono ?_
      rintro e w3 ⟨rfl, q1, q2⟩
      have HC := (show Hid (Bt w3 K cs s (s + 1 + 1) (s + 1) (s + 3) ac capc gc oc (decide (0 < i + 1)) ∧ Keep (fun j => j = s + 1 + 1 ∨ j = s + 1) w1 w3) from ⟨by rw [decide_eq_true (by omega)]; exact q1, HKW.out.trans' q2⟩)
      clear q1 q2 HO HKW
      go_wp2_with fail
      go_roundw
      case rel => exact ⟨i + 1, by go_num, by omega, HC.out⟩
      case measure => simp [intOf]; omega
    · obtain rfl : i = 4 := by omega
      rw [show (((4 : Nat) : Int)) = (4 : Int) from rfl]
      obtain ⟨R, vt, vc, v3, vp, b1, b2⟩ := hB.best
      obtain ⟨r1, r2, rfl⟩ := b2 (by decide)
      obtain ⟨⟨a5, cap5, g5, o5, rfl, -⟩, ⟨g6, cap6, rfl, -⟩, ⟨g7, rfl, -⟩⟩ := And.intro r2.told (And.intro r2.cells r2.path)
      obtain ⟨C, hC⟩ : ∃ C : Array Value, C = #[.int .i64 (R.k : Int), .slice a5 R.told.length cap5, .slice (some ⟨g6, 0, none⟩) (2 ^ R.T.l) cap6, .slice ac cs.length capc, .slice (some ⟨g7, 0, none⟩) cs.length cs.length] := ⟨_, rfl⟩
      have hC5 : C.size = 5 := by rw [hC]; rfl
      have HZ1 := hid (show (Tryz.prog.info? 122).map (·.size) = some C.size from by rw [hC5]; kernel_rfl)
      have HZ3 := hid (show C.all (·.oneCell') = true from by rw [hC]; exact all_oneCell_toArray (fun v hv => by simp only [List.mem_cons, List.not_mem_nil, or_false] at hv; rcases hv with rfl | rfl | rfl | rfl | rfl <;> rfl))
      rw [← hC] at b1
      have hlt4 : ¬ ((4 : Int) < 4) := by omega
      have HB1 := hid b1
      have HF := (show Hid (∀ W', W' = wr.setRow (s + 1) C → RowOk K cs R ∧ RowM W' w.heap.size cs.length R (.slice a5 R.told.length cap5) (.slice (some ⟨g6, 0, none⟩) (2 ^ R.T.l) cap6) (.slice (some ⟨g7, 0, none⟩) cs.length cs.length) ∧ Keep noBlock w W' ∧ W'.heap[s + 1]? = some (.cells C 122 (0, 0))) from fun W' e => by
        have hk2 : Keep (fun j => j = s + 1) wr W' := by rw [e]; exact keep_setRow (Keep.refl (fun j => j = s + 1) wr) (s + 1) (fun _ => rfl) _
        have hsw := HB.out.2.2.2.2.2.1
        refine ⟨r1, (r2.keep hk2 (fun k hk => by omega)).weak (by omega), (HD.out.2.2.trans hK (fun i hi h => by omega)).trans hk2 (fun i hi h => by omega), ?_⟩
        rw [e]
        exact setRow_heap wr (s + 1) _ _ 122 (0, 0) b1)
      have HC2 := hid hC
      clear b1 b2 r1 r2 hB hK HC hC hC5
      go_wp2_with (first | (refine wpList_load_row rfl 122 (.tmp 4) rfl (s + 1) rfl 122 C (0, 0) _ HB1.out Tryz.underlying122 rfl HZ1.out ?_) | (refine wpList_store_row rfl 122 (.tmp 4) (.tmp 20) rfl (s + 1) C rfl rfl 122 _ HB1.out HZ1.out rfl HZ3.out ?_))
      obtain ⟨f1, f2, f3, f4⟩ := HF.out _ rfl
      refine bodyPost_ret (results_cell rfl _ _ _ ⟨s + 1, 0, none⟩ (.agg C) rfl (run_loadVar_row _ _ 122 122 _ (0, 0) _ f4 Tryz.underlying122 rfl HZ1.out)) rfl ?_
      exact ⟨R, _, _, _, by rw [HC2.out], f1, f2, f3⟩
end Go.Proofs.YtgaepmmpedaaiaaGreatDoor

namespace Go.Proofs.YtgaepmmpedaaiaaGreatDoor
open Go.RowKit Go.Shelf
set_option linter.unusedVariables false

abbrev Stp := Int × Int × Int
/-- A slice of steps: Lits, Match, Back. -/
structure Seqs (w : World) (a : Option Addr) (cap g off : Nat) (l : List Stp) : Prop where
  at_ : a = some ⟨g, off, none⟩ ∨ l = []
  cells : ∀ j, j < l.length → w.cell? ⟨g, off + j * 3, none⟩ = some (.int .i64 (l[j]?.getD (0, 0, 0)).1) ∧ w.cell? ⟨g, off + j * 3 + 1, none⟩ = some (.int .i64 (l[j]?.getD (0, 0, 0)).2.1) ∧ w.cell? ⟨g, off + j * 3 + 2, none⟩ = some (.int .i64 (l[j]?.getD (0, 0, 0)).2.2)
theorem Seqs.keep {w w' : World} {a : Option Addr} {cap g off : Nat} {l : List Stp} (h : Seqs w a cap g off l) (hk : Keep noBlock w w') : Seqs w' a cap g off l :=
  ⟨h.at_, fun j hj => ⟨keep_cell0 hk (h.cells j hj).1, keep_cell0 hk (h.cells j hj).2.1, keep_cell0 hk (h.cells j hj).2.2⟩⟩
/-- A step's value of a kind. -/
def selS (v : Nat) (s : Stp) : Int := if v = 0 then s.1 else if v = 1 then s.2.2 else s.2.1
theorem index_vals (v : Nat) (hv : v < 3) (x y z : Int) (W : World) : (Instr.index 80 (.agg #[.int .i64 x, .int .i64 z, .int .i64 y]) (.int .i64 (v : Int))).run Tryz.prog W = .ok (.int .i64 (selS v (x, y, z))) W := by
  rcases (show v = 0 ∨ v = 1 ∨ v = 2 by omega) with rfl | rfl | rfl <;> kernel_rfl
theorem isA_new5 (w : World) (n : Nat) : IsA (w.alloc (.cells (madeCells #[.int .u8 0] n) 5)) w.heap.size 5 .u8 n (fun _ => 0) :=
  ⟨_, World.alloc_heap_new w _, size_madeCells _ _, fun i hi => by simp [madeCells, hi, Nat.mod_one]⟩
theorem run_make22b (n : Nat) (h : n ≤ 65535) (w : World) : (Instr.makeSlice 22 (.int .i64 (n : Int)) (.int .i64 (n : Int))).run Tryz.prog w = .ok (.slice (some ⟨w.heap.size, 0, none⟩) n n) (w.alloc (.cells (madeCells #[.int .u8 0] n) 5)) :=
  run_make_row' 22 5 (.int .u8 0) 1 Tryz.underlying22 info5 rfl .i64 .i64 n (by omega) (by omega) w
def CodPost (w : World) (K : Kd) (v : Nat) (l : List Stp) (e : Ending) (w' : World) : Prop :=
  ∃ (g : Nat) (cs : List Nat), e = .returned (.slice (some ⟨g, 0, none⟩) l.length l.length) ∧ Bytes w' (some ⟨g, 0, none⟩) l.length g 0 cs ∧ cs.length = l.length ∧ (∀ k, k < l.length → K.Tells (selS v (l[k]?.getD (0, 0, 0))).toNat (cs[k]?.getD 0)) ∧ w.heap.size ≤ g ∧ Keep noBlock w w'

set_option maxRecDepth 100000 in
set_option maxHeartbeats 8000000 in
theorem codesOf_any (w : World) (K : Kd) (b o gk : Nat) (a : Option Addr) (cap g off v : Nat) (l : List Stp) (hC : Coding w b o gk K) (hS : Seqs w a cap g off l) (hv : v < 3) (hl : l.length ≤ 65535) (hx : ∀ k, k < l.length → (K.first : Int) ≤ selS v (l[k]?.getD (0, 0, 0)) ∧ selS v (l[k]?.getD (0, 0, 0)) < 4294967296) :
    Calls Tryz.prog 48 #[.pointer (some ⟨b, o, none⟩), .slice a l.length cap, .int .i64 (v : Int)] w fun e w' => CodPost w K v l e w' := by
  obtain ⟨n, hn⟩ : ∃ n, n = l.length := ⟨_, rfl⟩
  have hmk := run_make22b n (by omega) w
  obtain ⟨W1, hW1⟩ : ∃ W1, W1 = w.alloc (.cells (madeCells #[.int .u8 0] n) 5) := ⟨_, rfl⟩
  obtain ⟨cg, hcg⟩ : ∃ cg, cg = w.heap.size := ⟨_, rfl⟩
  have hA0 := isA_new5 w n
  have hk0 : Keep noBlock w W1 := by rw [hW1]; exact (Keep.refl _ w).alloc _
  rw [← hW1, ← hcg] at hmk hA0
  have HH := (show Hid (Coding w b o gk K ∧ Seqs w a cap g off l ∧ n = l.length ∧ cg = w.heap.size ∧ (∀ k, k < l.length → (K.first : Int) ≤ selS v (l[k]?.getD (0, 0, 0)) ∧ selS v (l[k]?.getD (0, 0, 0)) < 4294967296)) from ⟨hC, hS, hn, hcg, hx⟩)
  have H0 := (show Hid (IsA W1 cg 5 .u8 n (fun _ => 0) ∧ Keep noBlock w W1) from ⟨hA0, hk0⟩)
  have hnI : (n : Int) ≤ 65535 := by omega
  have hvI : (v : Int) < 3 := by omega
  rw [← hn]
  clear hC hS hx hn hA0 hk0 hW1 hcg hl
  go_enter Tryz.func48, Tryz.ntmps48
  go_wp2_with fail
  go_loopw [15] (fun v15 wr => ∃ i : Nat, v15 = .int .i64 (i : Int) ∧ i ≤ n ∧ Hid (∃ f : Nat → Nat, IsA wr cg 5 .u8 n (fun j => ((f j : Nat) : Int)) ∧ (∀ k, f k < 256) ∧ (∀ k, k < i → K.Tells (selS v (l[k]?.getD (0, 0, 0))).toNat (f k)) ∧ Keep noBlock w wr)) (fun v15 _ => n - (intOf v15).toNat)
  case atStart => exact ⟨0, rfl, Nat.zero_le _, fun _ => 0, H0.out.1, fun _ => (by decide : (0 : Nat) < 256), fun k hk => by omega, H0.out.2⟩
  case round =>
    clear H0 hmk
    obtain ⟨i, rfl, hi, HC⟩ := hrel
    by_cases hlt : i < n
    · have hiI : (i : Int) < (n : Int) := by omega
      obtain ⟨f, hA, hf, hT, hK⟩ := HC.out
      obtain ⟨hC, hS, e1, e2, hx⟩ := HH.out
      have hS' := hS.keep hK
      obtain rfl := hS'.at_.resolve_right (fun e => by rw [e] at e1; simp at e1; omega)
      obtain ⟨d1, d2, d3⟩ := hS'.cells i (by omega)
      have hxi := hx i (by omega)
      obtain ⟨s, hs⟩ : ∃ s, s = l[i]?.getD (0, 0, 0) := ⟨_, rfl⟩
      rw [← hs] at d1 d2 d3 hxi
      obtain ⟨x, y, z⟩ := s
      dsimp only at d1 d2 d3
      have hix := index_vals v hv x y z
      obtain ⟨q, hq⟩ : ∃ q, q = (selS v (x, y, z)).toNat := ⟨_, rfl⟩
      have hqI : selS v (x, y, z) = (q : Int) := by omega
      rw [hqI] at hix hxi
      have HV := (show Hid (∀ W' : World, Keep noBlock wr W' → Calls Tryz.prog 71 #[.agg #[.int .i64 x, .int .i64 y, .int .i64 z]] W' fun e w' => e = .returned (.agg #[.int .i64 x, .int .i64 z, .int .i64 y]) ∧ Hid (Keep noBlock wr w')) from fun W' hk' => by
        refine (valuesOf_any x y z W').mono ?_
        rintro e w' ⟨rfl, k⟩
        exact ⟨rfl, hk'.trans' k⟩)
      have HO := (show Hid (∀ W' : World, Keep noBlock wr W' → Calls Tryz.prog 70 #[.pointer (some ⟨b, o, none⟩), .int .i64 (q : Int)] W' fun e w' => ∃ c, e = .returned (.int .u8 ((c : Nat) : Int)) ∧ Hid (K.Tells q c ∧ Keep noBlock wr w')) from fun W' hk' => by
        refine (codeOf_any b o gk K q W' (hC.keep (hK.trans' hk') (fun h => h) (fun h => h)) (by omega) (by omega)).mono ?_
        rintro e w' ⟨c, rfl, q1, q2⟩
        exact ⟨c, rfl, q1, hk'.trans' q2⟩)
      have hal := (show Keep noBlock wr (wr.alloc (.cells #[.int .i64 x, .int .i64 y, .int .i64 z] 42)) from (Keep.refl _ wr).alloc _)
      have HAL := hid hal
      have HS := (show Hid (q = (selS v (l[i]?.getD (0, 0, 0))).toNat ∧ KOk K) from ⟨by rw [hq, hs], hC.ok⟩)
      clear hA hf hT hK hC hS e1 e2 hx hS' hxi hs hq hqI hal
      go_wp2_with fail
      refine (HV.out _ HAL.out).mono ?_
      rintro e w2 ⟨rfl, HK2⟩
      have HO2 := hid (HO.out w2 HK2.out)
      clear HV HO HAL
      go_wp2_with fail
      refine HO2.out.mono ?_
      rintro e w3 ⟨c, rfl, HK3⟩
      obtain ⟨f, hA, hf, hT, hK⟩ := HC.out
      obtain ⟨hc, hk3⟩ := HK3.out
      have hA3 := hA.keep hk3 (fun h => h)
      have e1 := hA3.cell i hlt
      have e2 := hA3.frozen i
      have hcb : c < 53 := by have := hc.1; have := HS.out.2.le; omega
      have HN := (show Hid (∃ f : Nat → Nat, IsA (w3.setCell ⟨cg, i, none⟩ (.int .u8 (c : Int))) cg 5 .u8 n (fun j => ((f j : Nat) : Int)) ∧ (∀ k, f k < 256) ∧ (∀ k, k < i + 1 → K.Tells (selS v (l[k]?.getD (0, 0, 0))).toNat (f k)) ∧ Keep noBlock w (w3.setCell ⟨cg, i, none⟩ (.int .u8 (c : Int)))) from by
        refine ⟨fun j => if j = i then c else f j, (hA3.set i (c : Int)).congr (fun j hj => ?_), fun k => ?_, fun k hk => ?_, (hK.trans' hk3).setCell (p := ⟨cg, i, none⟩) (fun h => by dsimp only at h; have := HH.out.2.2.2.1; omega) _⟩
        · by_cases e : j = i <;> simp [e]
        · dsimp only; split
          · omega
          · exact hf k
        · dsimp only; by_cases e : k = i
          · rw [if_pos e, e, ← HS.out.1]; exact hc
          · rw [if_neg e]; exact hT k (by omega))
      clear hA hf hT hK hc hk3 hA3 HK3 HK2 HO2 HC
      go_wp2_with fail
      go_roundw
      case rel => exact ⟨i + 1, by go_num, by omega, HN.out⟩
      case measure => simp [intOf]; omega
    · have hiI : ¬ (i : Int) < (n : Int) := by omega
      go_wp2_with fail
      go_ret
      obtain ⟨f, hA, hf, hT, hK⟩ := HC.out
      have e1 := HH.out.2.2.1
      have hcl : ((List.range n).map f).length = n := by simp
      have hat : ∀ j, j < n → ((List.range n).map f)[j]?.getD 0 = f j := fun j hj => by rw [List.getElem?_map, List.getElem?_range hj]; rfl
      refine ⟨cg, (List.range n).map f, by rw [← e1]; rfl, ⟨.inl rfl, fun e => (by cases e), fun j hj => ?_, fun j => ?_, by rw [hcl, e1]; exact Nat.le_refl _, by rw [hcl]; omega⟩, by rw [hcl, e1], fun k hk => ?_, by rw [HH.out.2.2.2.1]; exact Nat.le_refl _, hK⟩
      · rw [hcl] at hj
        rw [Nat.zero_add, hat j hj]
        exact hA.cell j hj
      · by_cases hj : j < n
        · rw [hat j hj]; exact hf j
        · rw [List.getElem?_eq_none (by rw [hcl]; omega)]; simp
      · rw [hat k (by omega)]
        exact hT k (by omega)
end Go.Proofs.YtgaepmmpedaaiaaGreatDoor

namespace Go.Proofs.YtgaepmmpedaaiaaGreatDoor
open Go.RowKit Go.Shelf
set_option linter.unusedVariables false

/-- A writer made since w, that was given the bits L; block vb is another one. -/
structure MineV (w W : World) (wb : Nat) (L : List (Fin 2)) (vb : Nat) (ob : Obj) : Prop where
  is : ∃ v, Tl.IsW W wb v L ∧ ∀ k, v.ownBlock = some k → w.heap.size ≤ k ∧ k ≠ vb
  new : w.heap.size ≤ wb
  keep : Keep noBlock w W
  obj : W.heap[vb]? = some ob
  ne : vb ≠ wb
theorem MineV.keeps {w W W' : World} {wb : Nat} {L : List (Fin 2)} {vb : Nat} {ob : Obj} (h : MineV w W wb L vb ob) (hk : Keep noBlock W W') : MineV w W' wb L vb ob := by
  obtain ⟨v, hv, hn⟩ := h.is
  exact ⟨⟨v, hv.keep hk (fun h => h) (fun _ _ h => h), hn⟩, h.new, h.keep.trans hk (fun _ _ h => h), hk.obj h.obj (fun h => h), h.ne⟩
theorem MineV.mine {w W : World} {wb : Nat} {L : List (Fin 2)} {vb : Nat} {ob : Obj} (h : MineV w W wb L vb ob) : Tl.MineT w W wb L := by
  obtain ⟨v, hv, hn⟩ := h.is
  exact ⟨⟨v, hv, fun k e => (hn k e).1⟩, h.new, h.keep⟩
theorem mineV_of {w W W' : World} {wb : Nat} {L : List (Fin 2)} (h : Tl.MineT w W wb L) {ob : Obj} {vb : Nat} (hk : Keep noBlock W W') (hv : W.heap.size ≤ vb) (ho : W'.heap[vb]? = some ob) : MineV w W' wb L vb ob := by
  obtain ⟨v, hv2, hn⟩ := h.is
  refine ⟨⟨v, hv2.keep hk (fun h => h) (fun _ _ h => h), fun k e => ⟨hn k e, ?_⟩⟩, h.new, h.keep.trans' hk, ho, ?_⟩
  · have := hv2.row_lt k e
    omega
  · have : wb < W.heap.size := obj_lt hv2.obj
    omega
theorem MineV.put {w W : World} {wb : Nat} {L : List (Fin 2)} {vb : Nat} {ob : Obj} (h : MineV w W wb L vb ob) (x m : Nat) (hx : x < 18446744073709551616) (hm : m ≤ 56) (hL : L.length < 1000000000000) :
    Calls Tryz.prog 92 #[.pointer (some ⟨wb, 0, none⟩), .int .u64 (x : Int), .int .i64 (m : Int)] W fun e W' => e = .returned (.int .i64 0) ∧ MineV w W' wb (L ++ low x m) vb ob := by
  obtain ⟨v, hv, hn⟩ := h.is
  refine (Tl.put_any wb v L x m hx hm hL W hv).mono ?_
  rintro e W' ⟨rfl, v', h1, h2, h3⟩
  refine ⟨rfl, ⟨v', h1, fun k e => ?_⟩, h.new, h.keep.trans h3 ?_, h3.obj h.obj ?_, h.ne⟩
  · rcases h2 with h2 | ⟨j, h2, hj⟩
    · rw [h2] at e; exact hn k e
    · rw [h2] at e; cases e; have := h.keep.size; have := obj_lt h.obj; omega
  · rintro i hi (e | e)
    · have := h.new; omega
    · have := hn i e; omega
  · rintro (e | e)
    · exact h.ne e
    · exact (hn vb e).2 rfl
set_option maxHeartbeats 2000000 in
theorem cputV_any (b o gc wb : Nat) (K : Kd) (c x : Nat) (L : List (Fin 2)) (w W : World) (vb : Nat) (ob : Obj) (h : Coding w b o gc K) (hc : c < K.codes) (hM : MineV w W wb L vb ob) (hx : K.lst c ≤ x) (hx2 : x < 4294967296) (hL : L.length < 1000000000000) :
    Calls Tryz.prog 73 #[.pointer (some ⟨b, o, none⟩), .pointer (some ⟨wb, 0, none⟩), .int .u8 (c : Int), .int .i64 (x : Int)] W fun e W' => e = .returned (.tuple #[]) ∧ MineV w W' wb (L ++ low (x - K.lst c) (K.ext c)) vb ob := by
  have hkW := hM.keep
  obtain ⟨W1, hW1⟩ : ∃ W1, W1 = W.drew := ⟨_, rfl⟩
  have hk1 : Keep noBlock W W1 := by rw [hW1]; exact (Keep.refl _ W).drew
  have h1 := (h.keep hkW (fun h => h) (fun h => h)).keep hk1 (fun h => h) (fun h => h)
  have c1 := h1.least c hc
  have c2 := h1.extra c hc
  have hlt := h.ok.lt c hc
  have hle := h.ok.le
  have hM1 := hM.keeps hk1
  have HP := hid (hM1.put (x - K.lst c) (K.ext c) (by omega) (by omega) hL)
  obtain ⟨l, hl⟩ : ∃ l, l = K.lst c := ⟨_, rfl⟩
  obtain ⟨m, hm⟩ : ∃ m, m = K.ext c := ⟨_, rfl⟩
  rw [← hl] at c1 hlt hx HP ⊢
  rw [← hm] at c2 hlt HP ⊢
  obtain ⟨d, hd⟩ : ∃ d, d = x - l := ⟨_, rfl⟩
  rw [← hd] at HP ⊢
  have hdI : (x : Int) - (l : Int) = (d : Int) := by omega
  have hdb : d < 4294967296 := by omega
  have hcI : (c : Int) < 53 := by omega
  have hc53 : c < 53 := by omega
  have hlI : (l : Int) < 4294967296 := by omega
  have hxI : (x : Int) < 4294967296 := by omega
  have hwx : IntKind.u64.wrap (x : Int) = (x : Int) := by rw [IntKind.wrap_u64]; omega
  have hwl : IntKind.u64.wrap (l : Int) = (l : Int) := by rw [IntKind.wrap_u64]; omega
  have hwd : IntKind.u64.wrap (d : Int) = (d : Int) := by rw [IntKind.wrap_u64]; omega
  have hwm : IntKind.i64.wrap (m : Int) = (m : Int) := by rw [IntKind.wrap_i64]; omega
  clear h h1 hM hM1 hkW hk1 hlt hle hl hm hd hL
  go_enter Tryz.func73, Tryz.ntmps73
  go_wp2_with fail
  refine region_tail 18 mx (by kernel_rfl) ?_
  rw [← hW1]
  clear hW1
  simp only [List.take_succ_cons, List.take_zero, List.drop_succ_cons, List.drop_zero]
  repeat (quiet_step (fail))
  refine wpQuiet_nil ?_
  go_wp2_with fail
  refine HP.out.mono ?_
  rintro e w2 ⟨rfl, q1⟩
  have HQ := hid q1
  clear q1 HP
  go_wp2_with fail
  go_end0
  exact ⟨rfl, HQ.out⟩

theorem Cods.at_ {w : World} {b g0 g1 g2 : Nat} (h : Cods w b g0 g1 g2) (v : Nat) (hv : v < 3) : ∃ gk, Coding w b (v * 110) gk (kdV v) := by
  rcases (show v = 0 ∨ v = 1 ∨ v = 2 by omega) with rfl | rfl | rfl
  · exact ⟨g0, h.cl⟩
  · exact ⟨g1, h.cb⟩
  · exact ⟨g2, h.cm⟩
end Go.Proofs.YtgaepmmpedaaiaaGreatDoor
