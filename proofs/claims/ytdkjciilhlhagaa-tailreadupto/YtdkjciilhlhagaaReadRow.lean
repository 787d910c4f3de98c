/-
  TailRead answers true for every input of bulk at most 1048576, and its two arguments read afterwards as they read before: numbers are read from the end on as the document says, also ahead of the beginning. Its condition is the narrowed row's own.
-/
import Derived.Test.YtdkjciilhlhagaaRows
import Derived.WalkKit
import Derived.ProofKit
import Derived.OpenShut
import Derived.ShutString
import Derived.ChangeOld
import Derived.Below
import Derived.JoinedCond
import Derived.Test.YtdkjciilhlhagaaReadLaw
namespace Go.Proofs.Ytdkjciilhlhagaa
namespace TailReadPart
open Go.ChangeShapes Go.WideShapes Go.ChangeAt Go.RowKit
set_option linter.unusedVariables false

theorem own : ownKnob Try.prog.godebug = none := by kernel_rfl
theorem laidOut : laidOutB Try.prog = true := by kernel_rfl

/-- A slice of integers that came in: nil, or a row of cap cells that hold zs. -/
def IsRow (k : IntKind) (w : World) (a : Option Addr) (len cap : Nat) (zs : List Int) : Prop :=
  (a = none ∧ len = 0 ∧ cap = 0 ∧ zs = []) ∨
  ∃ x, a = some x ∧ len ≤ cap ∧ cap ≤ maxLen ∧ zs.length = cap ∧ (∀ i, i < zs.length → w.cell? (x.add i) = some (.int k (zs.getD i 0))) ∧ ∀ n ∈ zs, (Lit.int k n).wf = true

/-- A slice of integers that came in: the row's address, where it has elements. -/
theorem row_open {k : IntKind} {w : World} {a : Option Addr} {len cap : Nat} {zs : List Int} (h : IsRow k w a len cap zs) :
    ∃ b off, (a = some ⟨b, off, none⟩ ∨ len = 0) ∧ ∀ j, j < len → w.cell? ⟨b, off + j, none⟩ = some (.int k (zs[j]?.getD 0)) := by
  rcases h with ⟨rfl, rfl, rfl, rfl⟩ | ⟨x, rfl, hl, hm, hz, hc, hw⟩
  · exact ⟨0, 0, .inr rfl, fun j hj => by omega⟩
  · by_cases h0 : len = 0
    · exact ⟨0, 0, .inr h0, fun j hj => by omega⟩
    · obtain ⟨b, off, spot⟩ := x
      have hc0 := hc 0 (by omega)
      have hspot : spot = none := by simpa [Addr.add] using World.cell?_spot hc0
      subst hspot
      refine ⟨b, off, .inl rfl, fun j hj => ?_⟩
      have h1 := hc j (by omega)
      rw [show (⟨b, off, none⟩ : Addr).add j = ⟨b, off + j, none⟩ from by unfold Addr.add; split <;> simp_all] at h1
      rw [h1]; simp [List.getD]

/-- The bytes of a slice that came in. -/
def bytesOf (len : Nat) (zs : List Int) : List Nat := (zs.take len).map Int.toNat
theorem u8_of_wf {n : Int} (h : (Lit.int .u8 n).wf = true) : 0 ≤ n ∧ n < 256 := by
  have := bounds_u8 h
  omega
theorem bytesOf_length {w : World} {a : Option Addr} {len cap : Nat} {zs : List Int} (h : IsRow .u8 w a len cap zs) : (bytesOf len zs).length = len := by
  rcases h with ⟨rfl, rfl, rfl, rfl⟩ | ⟨x, rfl, hl, hm, hz, hc, hw⟩
  · rfl
  · simp [bytesOf]; omega
theorem bytesOf_at {w : World} {a : Option Addr} {len cap : Nat} {zs : List Int} (h : IsRow .u8 w a len cap zs) (j : Nat) (hj : j < len) : (((bytesOf len zs)[j]?.getD 0 : Nat) : Int) = zs[j]?.getD 0 := by
  rcases h with ⟨rfl, rfl, rfl, rfl⟩ | ⟨x, rfl, hl, hm, hz, hc, hw⟩
  · omega
  · have hjz : j < zs.length := by omega
    have hwf := u8_of_wf (hw zs[j] (List.getElem_mem hjz))
    simp only [bytesOf, List.getElem?_map, List.getElem?_take, hj, if_true, List.getElem?_eq_getElem hjz, Option.map_some, Option.getD_some]
    omega
theorem bytesOf_lt {w : World} {a : Option Addr} {len cap : Nat} {zs : List Int} (h : IsRow .u8 w a len cap zs) (j : Nat) : (bytesOf len zs)[j]?.getD 0 < 256 := by
  have hl := bytesOf_length h
  by_cases hj : j < len
  · rcases h with ⟨rfl, rfl, rfl, rfl⟩ | ⟨x, rfl, hl, hm, hz, hc, hw⟩
    · omega
    · have hjz : j < zs.length := by omega
      have hwf := u8_of_wf (hw zs[j] (List.getElem_mem hjz))
      simp only [bytesOf, List.getElem?_map, List.getElem?_take, hj, if_true, List.getElem?_eq_getElem hjz, Option.map_some, Option.getD_some]
      omega
  · rw [List.getElem?_eq_none (by omega)]; decide

/-- What a list's bulk is no less than: how many it holds, and the bulk of each. -/
theorem bulk_ge {H : Type} (l : List (DataW H)) : l.length ≤ Rows.uptoBulkAll l ∧ ∀ d ∈ l, Rows.uptoBulk d ≤ Rows.uptoBulkAll l := by
  have hpos : ∀ d : DataW H, 0 < Rows.uptoBulk d := fun d => by
    rcases d with l | _ | _ | _ | _ | _ | _ | _
    case lit => cases l <;> simp [Rows.uptoBulk]
    all_goals simp [Rows.uptoBulk]
  induction l with
  | nil => exact ⟨Nat.zero_le _, fun d h => by cases h⟩
  | cons x r ih =>
    have hx := hpos x
    rw [Rows.uptoBulkAll]
    refine ⟨by rw [List.length_cons]; omega, fun d hd => ?_⟩
    rcases List.mem_cons.1 hd with rfl | hd
    · omega
    · have := ih.2 d hd
      omega

/-- A row's length, by its bulk. -/
theorem row_small {H : Type} (k : IntKind) (len cap : Nat) (zs sp : List Int) (hl : len ≤ cap) (hz : zs.length = cap) (hb : Rows.uptoBulk (DataW.slice (lits (H := H) k (zs.take len)) (lits k sp)) ≤ 1048576) : len ≤ 1048576 := by
  simp only [Rows.uptoBulk] at hb
  have h1 := (bulk_ge (lits (H := H) k (zs.take len))).1
  simp only [lits, List.length_map, List.length_take] at h1 hb
  omega

theorem walk (a0 : Option Addr) (len0 cap0 : Nat) (z0 : List Int) (a1 : Option Addr) (len1 cap1 : Nat) (z1 : List Int) (w : World) (w0 : IsRow .u8 w a0 len0 cap0 z0) (w1 : IsRow .i64 w a1 len1 cap1 z1) (r0 : len0 ≤ 1048576) (r1 : len1 ≤ 1048576) :
    Calls Try.prog 3 #[.slice a0 len0 cap0, .slice a1 len1 cap1] w fun e w' => e = .returned (.bool true) ∧ Below w.heap.size w w' := by
  obtain ⟨gb, off, ha, hc⟩ := row_open w0
  obtain ⟨b1, off1, ha1, hc1⟩ := row_open w1
  have hl := bytesOf_length w0
  have hat := bytesOf_at w0
  have hlt := bytesOf_lt w0
  have hcs : ∀ j, j < (bytesOf len0 z0).length → w.cell? ⟨gb, off + j, none⟩ = some (.int .u8 (((bytesOf len0 z0)[j]?.getD 0 : Nat) : Int)) := fun j hj => by rw [hc j (by omega), hat j (by omega)]
  generalize bytesOf len0 z0 = bs at hl hlt hcs
  have key : Calls Try.prog 3 #[.slice a0 len0 cap0, .slice a1 len1 cap1] w fun e w' => e = .returned (.bool true) ∧ Keep noBlock w w' := by
    by_cases h0 : len0 = 0
    · subst h0
      exact read_bad a0 a1 0 cap0 len1 cap1 w (new_none a0 cap0 w) (newQ_none a0 cap0 w)
    · obtain rfl : a0 = some ⟨gb, off, none⟩ := ha.elim id (fun e => absurd e h0)
      obtain ⟨k, rfl⟩ : ∃ k, len0 = k + 1 := ⟨len0 - 1, by omega⟩
      by_cases hz : bs[k]?.getD 0 = 0
      · have hck := hcs k (by omega)
        rw [hz] at hck
        exact read_bad _ a1 (k + 1) cap0 len1 cap1 w (new_zero gb off cap0 k w (by omega) hck) (newQ_zero gb off cap0 k w (by omega) hck)
      · have hgb : gb < w.heap.size := World.block_lt_of_cell? w ⟨gb, off + k, none⟩ (hcs k (by omega))
        have hcs1 : ∀ w1 : World, Keep noBlock w w1 → ∀ j, j < bs.length → w1.cell? ⟨gb, off + j, none⟩ = some (.int .u8 ((bs[j]?.getD 0 : Nat) : Int)) := fun w1 hK j hj => (World.cell?_of_block (hK.block gb hgb (fun h => h))).trans (hcs j hj)
        exact read_good _ a1 (k + 1) cap0 len1 cap1 b1 off1 (tailLen bs) bs z1 w (by omega) ha1 hc1
          (fun w1 hK => new_mark gb off cap0 k _ bs hl (by omega) hlt w1 rfl hz (hcs1 w1 hK))
          (fun w1 hK => newQ_mark gb off cap0 k _ bs hl (by omega) hlt w1 rfl hz (hcs1 w1 hK))
  refine key.mono ?_
  rintro e w' ⟨rfl, hk⟩
  exact ⟨rfl, hk.below (Nat.le_refl _) (fun _ _ h => h)⟩

set_option maxRecDepth 100000 in
theorem contract (H : Type) (enc : TypeId × Value → H) (W : World) (base : Nat) (args : Array Value) (ds gs : List (DataW H)) (before : List MemPlace)
    (hval0 : ∀ (j : Nat) t v, Try.f3.params[j]? = some t → args[j]? = some v → Value.okWide Try.prog W .any base t v)
    (hW : DataW.Whole enc Try.prog Try.f3.params.toList Rows.tailReadSpec.vars false W args.toList ds gs before) (hk : Rows.uptoSmall H (ds ++ gs) = true) :
    Calls Try.prog 3 args W fun e W' => ∃ v, e = .returned v ∧ Rows.tailReadSpec.post enc Try.prog Try.f3 false true false false W args v W' := by
  have hval : ∀ (j : Nat) t v, Try.f3.params[j]? = some t → args[j]? = some v → Value.okWide Try.prog W .any base t v := hval0
  have hW' := hW
  obtain ⟨p, q, hA0, hV, rfl, hfz, hnd⟩ := hW
  have hA : DataW.TrodAll enc Try.prog W 0 (fun _ => true) true Try.f3.params.toList args.toList ds p := hA0
  rw [Try.params3] at hA hval
  obtain ⟨v0, vs0, d0, ds0, p0, q0, hargs, rfl, rfl, h0, r0⟩ := trodAll_cons hA
  obtain ⟨v1, vs1, d1, ds1, p1, q1, rfl, rfl, rfl, h1, r1⟩ := trodAll_cons r0
  obtain ⟨rfl, rfl, rfl⟩ := trodAll_nil r1
  obtain rfl : args = #[v0, v1] := by cases args; simp_all
  obtain ⟨rfl, rfl⟩ := trodVars_none hV
  have hbulk : Rows.uptoBulkAll ([d0, d1] ++ []) ≤ 1048576 := of_decide_eq_true hk
  simp only [List.append_nil, Rows.uptoBulkAll] at hbulk
  obtain ⟨a0, len0, cap0, rfl⟩ := okWide_slice Try.underlying22 (hval 0 22 v0 rfl rfl)
  have k0 := h0
  have lt0 : ∀ x ∈ p0, x.block < W.heap.size := by obtain ⟨m, hm⟩ := k0; exact DataW.trod_lt m _ _ _ hm
  obtain ⟨z0, w0, rch0⟩ : ∃ zs, IsRow .u8 W a0 len0 cap0 zs ∧ len0 ≤ 1048576 := by
    obtain ⟨fuel, hf⟩ := h0
    rcases open_ints Try.underlying22 Try.underlying5 (by kernel_rfl) hf with ⟨hcs, _⟩ | ⟨x, l, c, zs, hcs, _, hl, hm, hz, hx, hcell, hwz⟩
    · simp [Value.cells] at hcs
      obtain ⟨rfl, rfl, rfl⟩ := hcs
      exact ⟨[], .inl ⟨rfl, rfl, rfl, rfl⟩, by omega⟩
    · simp [Value.cells] at hcs
      obtain ⟨rfl, rfl, rfl⟩ := hcs
      simp only [Prod.mk.injEq] at hx
      obtain ⟨rfl, _⟩ := hx
      have hz' : zs.length = cap0 := by simpa using hz
      exact ⟨zs, .inr ⟨_, rfl, hl, hm, hz', hcell, hwz⟩, row_small .u8 len0 cap0 zs (zs.drop len0) hl hz' (by omega)⟩
  obtain ⟨a1, len1, cap1, rfl⟩ := okWide_slice Try.underlying23 (hval 1 23 v1 rfl rfl)
  have k1 := h1
  have lt1 : ∀ x ∈ p1, x.block < W.heap.size := by obtain ⟨m, hm⟩ := k1; exact DataW.trod_lt m _ _ _ hm
  obtain ⟨z1, w1, rch1⟩ : ∃ zs, IsRow .i64 W a1 len1 cap1 zs ∧ len1 ≤ 1048576 := by
    obtain ⟨fuel, hf⟩ := h1
    rcases open_ints Try.underlying23 Try.underlying3 (by kernel_rfl) hf with ⟨hcs, _⟩ | ⟨x, l, c, zs, hcs, _, hl, hm, hz, hx, hcell, hwz⟩
    · simp [Value.cells] at hcs
      obtain ⟨rfl, rfl, rfl⟩ := hcs
      exact ⟨[], .inl ⟨rfl, rfl, rfl, rfl⟩, by omega⟩
    · simp [Value.cells] at hcs
      obtain ⟨rfl, rfl, rfl⟩ := hcs
      simp only [Prod.mk.injEq] at hx
      obtain ⟨rfl, _⟩ := hx
      have hz' : zs.length = cap1 := by simpa using hz
      exact ⟨zs, .inr ⟨_, rfl, hl, hm, hz', hcell, hwz⟩, row_small .i64 len1 cap1 zs (zs.drop len1) hl hz' (by omega)⟩
  clear hA0 hval0
  refine (walk a0 len0 cap0 z0 a1 len1 cap1 z1 W w0 w1 rch0 rch1).mono fun e W' ⟨he, bel⟩ => ?_
  subst he
  exact ⟨_, rfl, _, _, _, [], _, [], hW', trodAll_mk1 (shut_bool Try.underlying4 _), (trodAll_cons_mk (Below.trod laidOut (by kernel_rfl) (of_decide_eq_true (by kernel_rfl)) k0 bel lt0) (trodAll_cons_mk (Below.trod laidOut (by kernel_rfl) (of_decide_eq_true (by kernel_rfl)) k1 bel lt1) trodAll_mk0)), rfl, bel.frame _, fun h => by cases h⟩

set_option maxRecDepth 100000 in
theorem lifted (os : Os) (started : os.Started) (H : Type) (enc : TypeId × Value → H) (F : Stop.Interp) :
    ReturnsInHanded {} Try.checked os 3 .any ((Rows.OpenSpec.upto Rows.tailReadSpec).pre6 enc Try.prog Try.f3 Rows.tailReadUptoRow.domain false) (((Rows.OpenSpec.upto Rows.tailReadSpec).at F).post enc Try.prog Try.f3 false true false false) := by
  refine returnsInHanded_of_cond (C := Try.checked) (s := Rows.OpenSpec.upto Rows.tailReadSpec) (k := Rows.uptoSmall) rfl own started (by kernel_rfl) Try.func3
    (OpenSpec.witness (enc := enc) (C := Try.checked) (s := Rows.OpenSpec.upto Rows.tailReadSpec) (k := Rows.uptoSmall) rfl false ⟨#[], #[.slice none 0 0, .slice none 0 0], []⟩ 8 (by kernel_rfl) (by kernel_rfl) (by kernel_rfl)
      (x := ([.nil, .nil], [], [])) (by kernel_rfl) rfl (by kernel_rfl)) ?_
  intro W base args ds gs before hval hW _ hk _
  exact contract H enc W base args ds gs before hval hW hk

theorem over : Rows.TailReadUptoSaid :=
  OpenClaim.holds_of_cond 3 Try.f3 rfl rfl rfl rfl rfl rfl rfl ⟨rfl, rfl, rfl, rfl, rfl⟩ rfl rfl rfl rfl rfl (by kernel_rfl) Try.func3 (by kernel_rfl)
    (of_decide_eq_true (by kernel_rfl)) (by unfold Func.isWrapper; first | (rw [if_pos (by decide +kernel)]; kernel_rfl) | (rw [if_neg (by decide +kernel)]; exact ⟨rfl, rfl⟩))
    (fun os started H enc _ F => lifted os started H enc F)

end TailReadPart
/-- The statement. -/
theorem tailReadUpto_holds : Rows.TailReadUptoSaid := TailReadPart.over
#print axioms tailReadUpto_holds
end Go.Proofs.Ytdkjciilhlhagaa
