/-
  mark and place of a search's marks.
-/
import Derived.Test.YtlpibfonpfhakaaDoorObj
namespace Go.Proofs.YtlpibfonpfhakaaDoor
open Go.RowKit Go.Shelf
set_option linter.unusedVariables false

set_option maxRecDepth 100000 in
set_option maxHeartbeats 1000000 in
/-- mark: a key, and whether it is one; if so the whole of it is there. -/
theorem mark_any (c : Cf) (p told vain p1 p2 : Nat) (w : World) (h : IsS w c p told vain p1 p2) (hp : p2 ≤ c.bs.length) :
    Calls Tryd.prog 36 #[.pointer (some ⟨c.sb, 16, none⟩)] w fun e w' => (∃ (ky : Nat) (d : Bool), e = .returned (.tuple #[.int .u64 (ky : Int), .bool d]) ∧ ky < 18446744073709551616 ∧ (d = true → p2 + c.far ≤ c.bs.length)) ∧ ∃ k, w' = w.drewN k := by
  have hn := h.ok.n
  have hm := h.ok.m2
  have hl3 := h.ok.l3
  have hf : c.far ≤ 65536 := by unfold Cf.far; omega
  have c16 : w.cell? ⟨c.sb, 16, none⟩ = some (.slice (some ⟨c.gb, c.off, none⟩) c.bs.length c.cap) := cell_of h.obj 16
  have c17 : w.cell? ⟨c.sb, 17, none⟩ = some (.int .i64 (p2 : Int)) := cell_of h.obj 17
  have c18 : w.cell? ⟨c.sb, 18, none⟩ = some (.int .i64 (c.far : Int)) := cell_of h.obj 18
  have c19 : w.cell? ⟨c.sb, 19, none⟩ = some (.int .u64 ((sumN c.bs c.far p2 : Nat) : Int)) := cell_of h.obj 19
  have HK := key_any c.sb 16 (some ⟨c.gb, c.off, none⟩) c.bs.length c.cap p2 c.far (sumN c.bs c.far p2) w c16 c17 c18 c19 (by omega) (by omega)
  obtain ⟨ky, hky⟩ : ∃ ky, ky = keyN (sumN c.bs c.far p2) := ⟨_, rfl⟩
  rw [← hky] at HK
  have HKL := (show Hid (ky < 18446744073709551616) from by rw [hky]; exact keyN_lt _)
  clear h c16 c17 c18 c19 hky
  by_cases hin : p2 + c.far ≤ c.bs.length
  · rw [decide_eq_true hin] at HK
    have HI := (show Hid (p2 + c.far ≤ c.bs.length) from hin)
    clear hin
    go_enter Tryd.func36, Tryd.ntmps36
    go_wp2_with fail
    refine HK.mono ?_
    rintro e w1 ⟨rfl, k1, rfl⟩
    clear HK
    go_wp2_with fail
    go_ret2
    exact ⟨⟨ky, _, rfl, HKL.out, fun _ => HI.out⟩, _, rfl⟩
  · rw [decide_eq_false hin] at HK
    clear hin
    go_enter Tryd.func36, Tryd.ntmps36
    go_wp2_with fail
    refine HK.mono ?_
    rintro e w1 ⟨rfl, k1, rfl⟩
    clear HK
    go_wp2_with fail
    go_ret2
    exact ⟨⟨ky, false, rfl, HKL.out, fun h => absurd h (by decide)⟩, _, rfl⟩

set_option maxRecDepth 100000 in
set_option maxHeartbeats 1000000 in
theorem place_any (c : Cf) (p told vain p1 p2 : Nat) (w : World) (h : IsS w c p told vain p1 p2) (hp : p2 ≤ c.bs.length) :
    Calls Tryd.prog 44 #[.pointer (some ⟨c.sb, 16, none⟩)] w fun e w' => (∃ v : Nat, e = .returned (.int .i64 ((v : Int) - 1)) ∧ v ≤ p2 ∧ (1 ≤ v → p2 + c.far ≤ c.bs.length)) ∧ ∃ k, w' = w.drewN k := by
  have hn := h.ok.n
  have c21 : w.cell? ⟨c.sb, 21, none⟩ = some (.map (some c.mb)) := cell_of h.obj 21
  have HM := mark_any c p told vain p1 p2 w h hp
  have HL := (show Hid (∀ ky : Nat, ky < 18446744073709551616 → ∀ k : Nat, ∃ v : Nat, v ≤ p2 ∧ (Instr.lookup 55 (.map (some c.mb)) (.int .u64 (ky : Int)) false).run Tryd.prog (w.drewN k) = .ok (.int .i32 (v : Int)) (w.drewN k)) from
    fun ky hky k => (h.drewN k).map.look ky hky)
  clear h
  go_enter Tryd.func44, Tryd.ntmps44
  go_wp2_with fail
  refine HM.mono ?_
  rintro e w1 ⟨⟨ky, d, rfl, hky, hd⟩, k1, rfl⟩
  clear HM
  obtain ⟨v, hv, hrun⟩ := HL.out ky hky k1
  have HV := (show Hid (v ≤ p2 ∧ (d = true → p2 + c.far ≤ c.bs.length)) from ⟨hv, hd⟩)
  have hv2 : v < 65536 := by omega
  clear HL hky hd hv
  cases d with
  | true =>
    go_wp2_with fail
    go_ret
    exact ⟨⟨v, rfl, HV.out.1, fun _ => HV.out.2 trivial⟩, _, rfl⟩
  | false =>
    go_wp2_with fail
    go_ret
    exact ⟨⟨0, rfl, Nat.zero_le _, fun h => absurd h (by omega)⟩, _, rfl⟩
end Go.Proofs.YtlpibfonpfhakaaDoor
