/-
  newSearch.
-/
import Derived.Test.YtlpibfonpfhakaaDoorNChn
namespace Go.Proofs.YtlpibfonpfhakaaDoor
open Go.RowKit Go.Shelf
set_option linter.unusedVariables false

/-- How many places are tried, by level. -/
def depthN : Nat → Nat
  | 0 => 0
  | 1 => 8
  | 2 => 24
  | _ => 64
/-- The table of depths, as it lies. -/
def Dep (w : World) : Prop := ∀ i, i < 4 → w.cell? ⟨0, i, none⟩ = some (.int .i64 ((depthN i : Nat) : Int))
theorem Dep.keep {w w' : World} (h : Dep w) (hk : Keep noBlock w w') : Dep w' := fun i hi =>
  (World.cell?_of_block (hk.block 0 (World.block_lt_of_cell? w ⟨0, i, none⟩ (h i hi)) (fun h => h))).trans (h i hi)

set_option maxRecDepth 100000 in
set_option maxHeartbeats 2000000 in
theorem newSearch_any (gb off cap level window least most : Nat) (bs : List Nat) (w : World) (hD : Dep w) (hB : Bytes w (some ⟨gb, off, none⟩) cap gb off bs) (hn2 : 2 ≤ bs.length) (hn : bs.length < 65536) (hlv : level < 4) (hw1 : 1 ≤ window) (hw2 : window ≤ 16777216) (hl2 : 2 ≤ least) (hlm : least ≤ most) (hm : most ≤ 65536) :
    Calls Tryd.prog 18 #[.slice (some ⟨gb, off, none⟩) bs.length cap, .int .i64 (level : Int), .int .i64 (window : Int), .int .i64 (least : Int), .int .i64 (most : Int)] w fun e w' => (∃ c : Cf, e = .returned (.pointer (some ⟨c.sb, 0, none⟩)) ∧ c.bs = bs ∧ c.window = window ∧ c.least = least ∧ c.most = most ∧ IsS w' c 0 0 0 0 0 ∧ (∀ k, mine c k → w.heap.size ≤ k)) ∧ Keep noBlock w w' := by
  obtain ⟨d, hd⟩ : ∃ d, d = depthN level := ⟨_, rfl⟩
  have hc : w.cell? ⟨0, level, none⟩ = some (.int .i64 (d : Int)) := by rw [hd]; exact hD level hlv
  have hd64 : d ≤ 64 := by
    rw [hd]
    match level, hlv with
    | 0, _ => decide
    | 1, _ => decide
    | 2, _ => decide
    | 3, _ => decide
  have hlI : (level : Int) < 4 := by omega
  have hgl : gb < w.heap.size := hB.block (fun e => by rw [e] at hn2; simp at hn2)
  have HCH := (show Hid (∀ W, Keep noBlock w W → _) from fun W (kW : Keep noBlock w W) => newChains_any gb off cap window least bs W (hB.keep kW (fun _ h => h)) hn2 hn hw1 hw2 (by omega))
  have HMK := (show Hid (∀ W, Keep noBlock w W → _) from fun W (kW : Keep noBlock w W) => newMarks_any gb off cap least bs W (hB.keep kW (fun _ h => h)) hn (by omega))
  have HG := (show Hid (Bytes w (some ⟨gb, off, none⟩) cap gb off bs ∧ gb < w.heap.size ∧ 2 ≤ bs.length ∧ bs.length < 65536 ∧ 1 ≤ window ∧ window ≤ 16777216 ∧ 2 ≤ least ∧ least ≤ most ∧ most ≤ 65536 ∧ d ≤ 64) from ⟨hB, hgl, hn2, hn, hw1, hw2, hl2, hlm, hm, hd64⟩)
  have hD0 := hD.keep (Keep.refl noBlock w).drew
  clear hB hD hd hgl
  go_enter Tryd.func18, Tryd.ntmps18
  go_wp2_with fail
  go_region_held3 (fun W' => W'.cell? ⟨0, level, none⟩ = some (.int .i64 (d : Int))) (first | exact hc | exact c1 | exact c2 | go_keep) ((first
    | (go_at_call 20; refine (HCH.out _ ?_).mono ?_; exact (Keep.refl _ _).drew; rintro e W1 ⟨⟨hb, ob, hk, rk, rfl, hcf⟩, k1⟩; have kk1 : Keep noBlock w W1 := Keep.trans' (Keep.refl noBlock w).drew k1; have c1 : W1.cell? ⟨0, level, none⟩ = some (.int .i64 (d : Int)) := (World.cell?_of_block (kk1.block 0 (World.block_lt_of_cell? w ⟨0, level, none⟩ hc) (fun h => h))).trans hc)
    | (go_at_call 21; refine (HMK.out _ kk1).mono ?_; rintro e W2 ⟨⟨mb, rfl, hmb⟩, k2⟩; have c2 : W2.cell? ⟨0, level, none⟩ = some (.int .i64 (d : Int)) := (World.cell?_of_block ((kk1.trans' k2).block 0 (World.block_lt_of_cell? w ⟨0, level, none⟩ hc) (fun h => h))).trans hc)))
  obtain ⟨q1, q2, q3, q4, q5, q6, q7, q8⟩ := hcf
  have hk2 := kk1.trans' k2
  have hsz1 := kk1.size
  have hsz0 : w.drew.heap.size = w.heap.size := rfl
  rw [hsz0] at q4 q5
  have hh2 := k2.obj q7 (fun h => h)
  have ho2 := k2.obj q8 (fun h => h)
  have hlh := obj_lt q7
  have hlo := obj_lt q8
  have hmg := hmb.1
  have hml := hmb.2.lt
  have hsz2 := k2.size
  have HF := (show Hid (IsS (W2.alloc (.cells (srch ⟨W2.heap.size, hb, ob, mb, gb, off, cap, bs, d, window, least, most, hk, rk⟩ 0 0 0 0 0) 60)) ⟨W2.heap.size, hb, ob, mb, gb, off, cap, bs, d, window, least, most, hk, rk⟩ 0 0 0 0 0 ∧ (∀ k, mine ⟨W2.heap.size, hb, ob, mb, gb, off, cap, bs, d, window, least, most, hk, rk⟩ k → w.heap.size ≤ k) ∧ Keep noBlock w (W2.alloc (.cells (srch ⟨W2.heap.size, hb, ob, mb, gb, off, cap, bs, d, window, least, most, hk, rk⟩ 0 0 0 0 0) 60))) from by
    obtain ⟨g1, g2, g3, g4, g5, g6, g7, g8, g9, g10⟩ := HG.out
    refine ⟨⟨⟨g3, g4, g5, g6, g7, g8, g9, g10, q1, q2, q3, ?_, ?_, ?_, ?_, q6, ?_, ?_, ?_, ?_, ?_⟩, alloc_new W2 _, ⟨List.replicate (2 ^ hk) 0, List.replicate (2 ^ rk) 0, ⟨alloc_far hh2 _, by simp, fun j => ?_, fun h => absurd h (by omega), alloc_far ho2 _, by simp, fun j => ?_⟩⟩, hmb.2.keep ((Keep.refl noBlock W2).alloc _) (fun h => h), g1.keep (hk2.alloc _) (fun _ h => h)⟩, fun k e => ?_, hk2.alloc _⟩
    · show W2.heap.size ≠ hb; omega
    · show W2.heap.size ≠ ob; omega
    · show W2.heap.size ≠ mb; omega
    · show W2.heap.size ≠ gb; omega
    · show hb ≠ mb; omega
    · show hb ≠ gb; omega
    · show ob ≠ mb; omega
    · show ob ≠ gb; omega
    · show mb ≠ gb; omega
    · rw [List.getElem?_replicate]; split <;> simp
    · rw [List.getElem?_replicate]; split <;> simp
    · rcases e with e | e | e | e
      · rw [e]; show w.heap.size ≤ W2.heap.size; omega
      · rw [e]; exact q4
      · rw [e]; exact q5
      · rw [e]; show w.heap.size ≤ mb; omega)
  clear hk2 hsz1 hsz0 hh2 ho2 hlh hlo hmg hml hsz2 q1 q2 q3 q4 q5 q6 q7 q8 hmb k2 kk1 k1 HCH HMK
  go_wp2_with fail
  go_ret
  exact ⟨⟨⟨W2.heap.size, hb, ob, mb, gb, off, cap, bs, d, window, least, most, hk, rk⟩, rfl, rfl, rfl, rfl, rfl, HF.out.1, HF.out.2.1⟩, HF.out.2.2⟩
end Go.Proofs.YtlpibfonpfhakaaDoor
