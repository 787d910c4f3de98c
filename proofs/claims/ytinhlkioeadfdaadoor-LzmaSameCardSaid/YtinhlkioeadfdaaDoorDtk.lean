/-
  The program's decoder: the next byte is taken, the decoder is brought into order.
-/
import Derived.Test.YtinhlkioeadfdaaDoorChn
namespace Go.Proofs.YtinhlkioeadfdaaDoor
open Go.RowKit Go.Shelf
set_option linter.unusedVariables false

/-- Block b is a decoder; what is not taken yet lies in block g. -/
structure IsD (w : World) (b g : Nat) (d : Dec) : Prop where
  obj : ∃ a cap off, w.heap[b]? = some (.cells #[.int .u32 (d.span : Int), .int .u32 (d.code : Int), .slice a d.rest.length cap, .bool d.want] 86 (0, 0)) ∧ Bytes w a cap g off d.rest
  ne : g ≠ b
  ok : DecOk d
theorem IsD.keep {w w' : World} {S : Nat → Prop} {b g : Nat} {d : Dec} (h : IsD w b g d) (hk : Keep S w w') (h1 : ¬ S b) (h2 : ¬ S g) : IsD w' b g d := by
  obtain ⟨a, cap, off, ho, hB⟩ := h.obj
  exact ⟨⟨a, cap, off, hk.obj ho h1, hB.keep hk (fun _ => h2)⟩, h.ne, h.ok⟩
theorem u32_join (c x : Nat) (hx : x < 256) : bits .or .u32 (((c * 256 % 4294967296 : Nat)) : Int) (x : Int) = (((c * 256 + x) % 4294967296 : Nat) : Int) := by
  rw [u32_or_nat _ _ (by omega) (by omega), nat_join 8 _ _ (by omega) (by omega)]
  congr 1
  omega

section
attribute [local go_sem] sliceSem_eq
set_option maxHeartbeats 2000000 in
theorem take_any (b g : Nat) (d : Dec) (w : World) (h : IsD w b g d) : Calls Tryd.prog 19 #[.pointer (some ⟨b, 0, none⟩)] w fun e w' => e = .returned (.tuple #[]) ∧ IsD w' b g (takeD d) ∧ Keep (fun k => k = b) w w' := by
  obtain ⟨a, cap, off, ho, hB⟩ := h.obj
  have hne := h.ne
  have hok := takeD_ok h.ok
  have hc := h.ok.code
  obtain ⟨span, code, rest, want⟩ := d
  dsimp only at ho hB hc
  have c1 : w.cell? ⟨b, 1, none⟩ = some (.int .u32 (code : Int)) := cell_of ho 1
  have c2 : w.cell? ⟨b, 2, none⟩ = some (.slice a rest.length cap) := cell_of ho 2
  have c3 : w.cell? ⟨b, 3, none⟩ = some (.bool want) := cell_of ho 3
  have f1 := frozen_of ho 1
  have f2 := frozen_of ho 2
  have f3 := frozen_of ho 3
  have hcI : (code : Int) < 4294967296 := by omega
  obtain ⟨z, hz⟩ : ∃ z : Nat, z = code * 256 % 4294967296 := ⟨_, rfl⟩
  have hzI : (code : Int) * 256 % 4294967296 = (z : Int) := by omega
  have hmx : Tryd.prog.follows .mixedOrders = true := by kernel_rfl
  cases rest with
  | nil =>
    have hj := u32_join code 0 (by omega)
    rw [← hz] at hj
    simp only [Nat.add_zero, List.length_nil] at hj c2 ho hB
    rw [← hz, show (((0 : Nat) : Int)) = (0 : Int) from rfl] at hj
    have HF := (show Hid (IsD ((w.setCell ⟨b, 3, none⟩ (.bool true)).setCell ⟨b, 1, none⟩ (.int .u32 (z : Int))) b g (takeD ⟨span, code, [], want⟩) ∧ Keep (fun k => k = b) w ((w.setCell ⟨b, 3, none⟩ (.bool true)).setCell ⟨b, 1, none⟩ (.int .u32 (z : Int)))) from by
      have hk := ((Keep.refl (fun k => k = b) w).setCell (p := ⟨b, 3, none⟩) (fun _ => rfl) (.bool true)).setCell (p := ⟨b, 1, none⟩) (fun _ => rfl) (.int .u32 (z : Int))
      refine ⟨⟨⟨a, cap, off, ?_, ?_⟩, hne, hok⟩, hk⟩
      · refine (set_obj (set_obj ho 3 _) 1 _).trans ?_
        rw [hz]
        rfl
      · exact hB.keep hk (fun e => absurd rfl e))
    clear hz hok ho hB h hc
    go_enter Tryd.func19, Tryd.ntmps19
    go_wp2_with fail
    go_end0
    exact ⟨rfl, HF.out⟩
  | cons x r =>
    have hx : x < 256 := by have := hB.lt 0; simpa using this
    have hj := u32_join code x hx
    rw [← hz] at hj
    obtain ⟨y, hy⟩ : ∃ y : Nat, y = (code * 256 + x) % 4294967296 := ⟨_, rfl⟩
    rw [← hy] at hj
    obtain ⟨a', off', hsl, hB', -⟩ := hB.drop 1 (by simp)
    rw [show (x :: r).drop 1 = r from rfl] at hsl hB'
    rw [show (((1 : Nat) : Int)) = (1 : Int) from rfl] at hsl
    have hcx : w.cell? ⟨g, off, none⟩ = some (.int .u8 (x : Int)) := by
      have := hB.cells 0 (by simp)
      simpa using this
    obtain rfl : a = some ⟨g, off, none⟩ := by
      rcases hB.at_ with e | e
      · exact e
      · cases e
    have HF := (show Hid (∀ W : World, W.heap = w.heap → W.os = w.os → W.tape = w.tape → W.output = w.output → IsD ((W.setCell ⟨b, 2, none⟩ (.slice a' r.length (cap - 1))).setCell ⟨b, 1, none⟩ (.int .u32 (y : Int))) b g (takeD ⟨span, code, x :: r, want⟩) ∧ Keep (fun k => k = b) w ((W.setCell ⟨b, 2, none⟩ (.slice a' r.length (cap - 1))).setCell ⟨b, 1, none⟩ (.int .u32 (y : Int)))) from by
      intro W e1 e2 e3 e4
      have hk0 : Keep (fun k => k = b) w W := ⟨e2, e3, e4, by rw [e1]; exact Nat.le_refl _, fun k _ _ => by rw [e1]⟩
      have hk := (hk0.setCell (p := ⟨b, 2, none⟩) (fun _ => rfl) (.slice a' r.length (cap - 1))).setCell (p := ⟨b, 1, none⟩) (fun _ => rfl) (.int .u32 (y : Int))
      have ho' := ho
      rw [← e1] at ho'
      refine ⟨⟨⟨a', cap - 1, off', ?_, ?_⟩, hne, hok⟩, hk⟩
      · refine (set_obj (set_obj ho' 2 _) 1 _).trans ?_
        rw [hy]
        rfl
      · exact hB'.keep hk (fun _ e => hne e))
    have hrl : r.length < 2 ^ 48 := hB'.len
    obtain ⟨m, hm⟩ : ∃ m, m = (x :: r).length := ⟨_, rfl⟩
    rw [← hm] at hsl c2
    rw [List.length_cons] at hm
    have hm0 : 0 < m := by omega
    have hl0 : ((m : Int) == 0) = false := by rw [beq_eq_false_iff_ne]; omega
    generalize r.length = n at *
    have hmI : (0 : Int) < (m : Int) := by omega
    have hxI : (x : Int) < 256 := by omega
    clear hz hok ho hB h hB' hy hm hc
    go_enter Tryd.func19, Tryd.ntmps19
    go_wp2_with fail
    go_region
    go_wp2_with fail
    go_end0
    exact ⟨rfl, HF.out w.drew rfl rfl rfl rfl⟩
end

end Go.Proofs.YtinhlkioeadfdaaDoor
