/-
  SumsGrow answers true for every input of bulk at most 1048576, and its arguments read afterwards as they read before: a sum that grows piece by piece tells at any time the number of all that it got. Its condition is the narrowed row's own.
-/
import Derived.Test.YtoohkldhfkoocaaGrowLaw
import Derived.Deep.Matrix
import Derived.JoinedCond
namespace Go.Proofs.Ytoohkldhfkoocaa
namespace SumsGrowPart
open Go.ChangeShapes Go.WideShapes Go.ChangeAt Go.RowKit Go.Deep
set_option linter.unusedVariables false

/-- What a list's bulk is no less than: how many it holds, and the bulk of each. -/
theorem bulk_ge {H : Type} (l : List (DataW H)) : l.length ≤ Rows.uptoBulkAll l ∧ ∀ d ∈ l, Rows.uptoBulk d ≤ Rows.uptoBulkAll l := by
  have hpos : ∀ d : DataW H, 0 < Rows.uptoBulk d := fun d => by
    rcases d with l | _ | _ | _ | _ | _ | _ | _
    case lit => cases l <;> simp [Rows.uptoBulk]
    all_goals simp [Rows.uptoBulk]
  induction l with
  | nil => exact ⟨Nat.zero_le _, fun d h => by cases h⟩
  | cons x r ih =>
    have hx := hpos x
    rw [Rows.uptoBulkAll]
    refine ⟨by rw [List.length_cons]; omega, fun d hd => ?_⟩
    rcases List.mem_cons.1 hd with rfl | hd
    · omega
    · have := ih.2 d hd
      omega

/-- A row's length, by its bulk. -/
theorem row_small {H : Type} (A : Option Addr) (L C : Nat) (Z : List Int) (hL : L ≤ C) (hZ : Z.length = C) (h0 : A = none → C = 0) (hb : Rows.uptoBulk (intRow (H := H) .u8 A L Z) ≤ 1048576) : L ≤ 1048576 := by
  cases A with
  | none => have := h0 rfl; omega
  | some a =>
    simp only [intRow, Rows.uptoBulk] at hb
    have h1 := (bulk_ge (lits (H := H) .u8 (Z.take L))).1
    simp only [lits, List.length_map, List.length_take] at h1 hb
    omega

theorem walk (kind : Int) (a1 : Option Addr) (len cap : Nat) (A : Nat → Option Addr) (L C : Nat → Nat) (Z : Nat → List Int) (w : World)
    (hx : (a1 = none ∧ len = 0) ∨ ∃ x, a1 = some x ∧ ∀ r, r < len → w.cell? (x.add r) = some (.slice (A r) (L r) (C r)))
    (hrow : ∀ r, r < len → IsRow .u8 w (A r) (L r) (C r) (Z r)) (hsm : ∀ r, r < len → L r ≤ 1048576) (hlen : len ≤ 1048576) :
    Calls Try.prog 4 #[.int .i64 kind, .slice a1 len cap] w fun e w' => e = .returned (.bool true) ∧ Below w.heap.size w w' := by
  have hl : ∀ r, r < len → (bytesOf (L r) (Z r)).length = L r := fun r hr => bytesOf_length (hrow r hr)
  have hch : ∀ r, ∃ p : Nat × Nat, r < len → Bytes w (A r) (C r) p.1 p.2 (bytesOf (L r) (Z r)) := fun r => by
    by_cases hr : r < len
    · obtain ⟨gb, off, h⟩ := bytes_of_row (hrow r hr) (by have := hsm r hr; omega)
      exact ⟨(gb, off), fun _ => h⟩
    · exact ⟨(0, 0), fun h => absurd h hr⟩
  obtain ⟨b1, off1, ha1, hcl⟩ : ∃ b1 off1, (a1 = some ⟨b1, off1, none⟩ ∨ len = 0) ∧ ∀ r, r < len → w.cell? ⟨b1, off1 + r, none⟩ = some (.slice (A r) (bytesOf (L r) (Z r)).length (C r)) := by
    rcases hx with ⟨_, h0⟩ | ⟨x, rfl, hc⟩
    · exact ⟨0, 0, .inr h0, fun r hr => by omega⟩
    · by_cases h0 : len = 0
      · exact ⟨0, 0, .inr h0, fun r hr => by omega⟩
      · obtain ⟨b, off, spot⟩ := x
        have hc0 := hc 0 (by omega)
        have hspot : spot = none := by simpa [Addr.add] using World.cell?_spot hc0
        subst hspot
        refine ⟨b, off, .inl rfl, fun r hr => ?_⟩
        have h1 := hc r hr
        rw [show (⟨b, off, none⟩ : Addr).add r = ⟨b, off + r, none⟩ from by unfold Addr.add; split <;> simp_all] at h1
        rw [h1, hl r hr]
  refine (grow_walk kind a1 len cap b1 off1 A C (fun r => (Classical.choose (hch r)).1) (fun r => (Classical.choose (hch r)).2) (fun r => bytesOf (L r) (Z r)) w ha1 hcl
    (fun r hr => Classical.choose_spec (hch r) hr) (fun r hr => src_of_row (hrow r hr) (hl r hr)) (fun r hr => by rw [hl r hr]; exact hsm r hr) hlen).mono ?_
  rintro e w' ⟨rfl, hk⟩
  exact ⟨rfl, hk.below (Nat.le_refl _) (fun _ _ h => h)⟩

set_option maxRecDepth 100000 in
theorem contract (H : Type) (enc : TypeId × Value → H) (W : World) (base : Nat) (args : Array Value) (ds gs : List (DataW H)) (before : List MemPlace)
    (hval0 : ∀ (j : Nat) t v, Try.f4.params[j]? = some t → args[j]? = some v → Value.okWide Try.prog W .any base t v)
    (hW : DataW.Whole enc Try.prog Try.f4.params.toList Rows.sumsGrowSpec.vars false W args.toList ds gs before) (hk : Rows.uptoSmall H (ds ++ gs) = true) :
    Calls Try.prog 4 args W fun e W' => ∃ v, e = .returned v ∧ Rows.sumsGrowSpec.post enc Try.prog Try.f4 false true false false W args v W' := by
  have hval : ∀ (j : Nat) t v, Try.f4.params[j]? = some t → args[j]? = some v → Value.okWide Try.prog W .any base t v := hval0
  have hW' := hW
  obtain ⟨p, q, hA0, hV, rfl, hfz, hnd⟩ := hW
  have hA : DataW.TrodAll enc Try.prog W 0 (fun _ => true) true Try.f4.params.toList args.toList ds p := hA0
  rw [Try.params4] at hA hval
  obtain ⟨v0, vs0, d0, ds0, p0, q0, hargs, rfl, rfl, h0, r0⟩ := trodAll_cons hA
  obtain ⟨v1, vs1, d1, ds1, p1, q1, rfl, rfl, rfl, h1, r1⟩ := trodAll_cons r0
  obtain ⟨rfl, rfl, rfl⟩ := trodAll_nil r1
  obtain rfl : args = #[v0, v1] := by cases args; simp_all
  obtain ⟨rfl, rfl⟩ := trodVars_none hV
  obtain ⟨a0, rfl, rfl, rfl, w0⟩ := open_int Try.underlying3 (hval 0 3 v0 rfl rfl) h0
  obtain ⟨a1, len1, cap1, rfl⟩ := okWide_slice Try.underlying29 (hval 1 29 v1 rfl rfl)
  have k1 := h1
  have lt1 : ∀ x ∈ p1, x.block < W.heap.size := by obtain ⟨m, hm⟩ := k1; exact DataW.trod_lt m _ _ _ hm
  have hbulk : Rows.uptoBulkAll ([DataW.lit (H := H) (.int .i64 a0), d1] ++ []) ≤ 1048576 := of_decide_eq_true hk
  simp only [List.append_nil, Rows.uptoBulkAll] at hbulk
  have key : Calls Try.prog 4 #[.int .i64 a0, .slice a1 len1 cap1] W fun e w' => e = .returned (.bool true) ∧ Below W.heap.size W w' := by
    obtain ⟨fuel, hf⟩ := h1
    rcases open_int_rows Try.underlying29 Try.underlying22 Try.underlying5 (by kernel_rfl) (by kernel_rfl) hf with ⟨hcs, _⟩ | ⟨x, l, c, A, L, C, Z, hcs, _, hl, hm, hx, hrows⟩
    · simp [Value.cells] at hcs
      obtain ⟨rfl, rfl, rfl⟩ := hcs
      exact walk a0 none 0 0 (fun _ => none) (fun _ => 0) (fun _ => 0) (fun _ => []) W (.inl ⟨rfl, rfl⟩) (fun r hr => by omega) (fun r hr => by omega) (by omega)
    · simp [Value.cells] at hcs
      obtain ⟨rfl, rfl, rfl⟩ := hcs
      simp only [Prod.mk.injEq] at hx
      obtain ⟨rfl, _⟩ := hx
      simp only [Rows.uptoBulk] at hbulk
      have hlen := (bulk_ge ((List.range len1).map fun r => intRow (H := H) .u8 (A r) (L r) (Z r))).1
      rw [List.length_map, List.length_range] at hlen
      refine walk a0 (some x) len1 cap1 A L C Z W (.inr ⟨x, rfl, fun r hr => (hrows r (by omega)).1⟩) (fun r hr => ?_) (fun r hr => ?_) (by omega)
      · obtain ⟨e1, e2, e3, e4, e5, e6, e7⟩ := hrows r (by omega)
        cases hAr : A r with
        | none =>
          have hC0 := e6 hAr
          refine .inl ⟨rfl, by omega, hC0, List.length_eq_zero_iff.1 (by omega)⟩
        | some y =>
          obtain ⟨_, e8⟩ := e7 y hAr
          exact .inr ⟨y, rfl, e2, e3, e4, fun i hi => e8 i (by omega), e5⟩
      · obtain ⟨e1, e2, e3, e4, e5, e6, e7⟩ := hrows r (by omega)
        have hmem : intRow (H := H) .u8 (A r) (L r) (Z r) ∈ (List.range len1).map fun r => intRow (H := H) .u8 (A r) (L r) (Z r) := List.mem_map.2 ⟨r, List.mem_range.2 hr, rfl⟩
        have := (bulk_ge _).2 _ hmem
        exact row_small (A r) (L r) (C r) (Z r) e2 e4 e6 (by omega)
  clear hA0 hval0
  refine key.mono fun e W' ⟨he, bel⟩ => ?_
  subst he
  exact ⟨_, rfl, _, _, _, [], _, [], hW', trodAll_mk1 (shut_bool Try.underlying4 _), (trodAll_cons_mk (shut_int Try.underlying3 w0) (trodAll_cons_mk (Below.trod laidOut (by kernel_rfl) (of_decide_eq_true (by kernel_rfl)) k1 bel lt1) trodAll_mk0)), rfl, bel.frame _, fun h => by cases h⟩

set_option maxRecDepth 100000 in
theorem lifted (os : Os) (started : os.Started) (H : Type) (enc : TypeId × Value → H) (F : Stop.Interp) :
    ReturnsInHanded {} Try.checked os 4 .any ((Rows.OpenSpec.upto Rows.sumsGrowSpec).pre6 enc Try.prog Try.f4 Rows.sumsGrowUptoRow.domain false) (((Rows.OpenSpec.upto Rows.sumsGrowSpec).at F).post enc Try.prog Try.f4 false true false false) := by
  refine returnsInHanded_of_cond (C := Try.checked) (s := Rows.OpenSpec.upto Rows.sumsGrowSpec) (k := Rows.uptoSmall) rfl own started (by kernel_rfl) Try.func4
    (OpenSpec.witness (enc := enc) (C := Try.checked) (s := Rows.OpenSpec.upto Rows.sumsGrowSpec) (k := Rows.uptoSmall) rfl false ⟨#[], #[.int .i64 0, .slice none 0 0], []⟩ 8 (by kernel_rfl) (by kernel_rfl) (by kernel_rfl)
      (x := ([.lit (.int .i64 0), .nil], [], [])) (by kernel_rfl) rfl (by kernel_rfl)) ?_
  intro W base args ds gs before hval hW _ hk _
  exact contract H enc W base args ds gs before hval hW hk

theorem over : Rows.SumsGrowUptoSaid :=
  OpenClaim.holds_of_cond 4 Try.f4 rfl rfl rfl rfl rfl rfl rfl ⟨rfl, rfl, rfl, rfl, rfl⟩ rfl rfl rfl rfl rfl (by kernel_rfl) Try.func4 (by kernel_rfl)
    (of_decide_eq_true (by kernel_rfl)) (by unfold Func.isWrapper; first | (rw [if_pos (by decide +kernel)]; kernel_rfl) | (rw [if_neg (by decide +kernel)]; exact ⟨rfl, rfl⟩))
    (fun os started H enc _ F => lifted os started H enc F)

end SumsGrowPart
/-- The statement. -/
theorem sumsGrowUpto_holds : Rows.SumsGrowUptoSaid := SumsGrowPart.over
#print axioms sumsGrowUpto_holds
end Go.Proofs.Ytoohkldhfkoocaa
