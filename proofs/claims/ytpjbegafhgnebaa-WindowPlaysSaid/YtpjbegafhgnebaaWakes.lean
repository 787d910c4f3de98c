/-
  What the statements' own case comes to: true.
-/
import Derived.Test.YtpjbegafhgnebaaLive
import Derived.Lib.SlBytesConst
import Derived.Laws.BytesString
namespace Go.Proofs.Ytpjbegafhgnebaa
open Go.RowKit Go.Shelf
set_option linter.unusedVariables false

def strOf (bs : List Nat) : ByteArray := (bs.map (fun b => ((b : Nat) : Int))).foldl (fun r n => r.push (UInt8.ofNat n.toNat)) ByteArray.empty
theorem run_conv {w : World} {v : Value} {bs : List Nat} (h : SrcB w v bs) : (convert 38 9 v).run Try.prog w = .ok (.string (strOf bs)) w := by
  rcases h with ⟨rfl, rfl⟩ | ⟨a, cap, rfl, hc⟩
  · rw [run_convert_bytes_string w 38 9 5 none 0 0 Try.underlying38 Try.underlying5 Try.underlying9]
    rfl
  · rw [run_convert_bytes_string w 38 9 5 (some a) bs.length cap Try.underlying38 Try.underlying5 Try.underlying9]
    refine run_bytesToString w a bs.length cap (bs.map (fun b => ((b : Nat) : Int))) ?_
    have := run_loadCells_list (P := Try.prog) w a (u8s bs) hc
    rw [u8s_length] at this
    rw [this]
    simp [u8s]
theorem bytes_lit {W : World} {g : Nat} {X : List Nat} {fr : Nat × Nat} (h : W.heap[g]? = some (.cells (u8s X).toArray 5 fr)) (cap : Nat) (hX : ∀ j : Nat, X[j]?.getD 0 < 256) (hc : X.length ≤ cap) (hl : X.length < 2 ^ 48) : Bytes W (some ⟨g, 0, none⟩) cap g 0 X := by
  refine ⟨.inl rfl, (fun e => by cases e), fun j hj => ?_, hX, hc, hl⟩
  have hc : W.cell? ⟨g, j, none⟩ = (u8s X).toArray[j]? := by simp [World.cell?, h]
  rw [Nat.zero_add, hc, List.getElem?_toArray]
  exact u8s_at X j hj
theorem str_bc : strOf [98, 99, 98, 99, 98] = ⟨#[98, 99, 98, 99, 98]⟩ := by rfl

set_option maxRecDepth 100000 in
set_option maxHeartbeats 4000000 in
theorem wakes_any (w : World) : Calls Try.prog 8 #[] w fun e w' => e = .returned (.bool true) ∧ Keep noBlock w w' := by
  have hcv := fun (w : World) (C : Array Value) (n c : Nat) => Lib.run_convert_bytes_const (P := Try.prog) w 38 5 C n c Try.underlying38 Try.underlying5
  go_enter Try.func8, Try.ntmps8
  go_wp2_with fail
  refine (new_any 10 w).mono ?_
  rintro e w1 ⟨rfl, hL1, k1⟩
  rw [show budget 10 = 10 from by decide] at hL1
  have HN := live_new (w := w) 4 w.heap.size 10 0 0 (by decide) (by decide) hL1 (by decide) k1 (Nat.le_refl _)
  clear hL1 k1
  go_wp2_with fail
  refine HN.mono ?_
  clear HN
  rintro e w2 ⟨wb, rfl, hwb, hV2, -⟩
  rw [show 0 + 4 = 4 from rfl, show max 4 0 = 4 from rfl] at hV2
  have hwlt := hV2.isW.block
  have k3 : Keep noBlock w2 (w2.alloc (.cells #[.int .u8 97, .int .u8 98, .int .u8 99] 5 (3, 4))) := (Keep.refl _ w2).alloc _
  have r3 : (w2.alloc (.cells #[.int .u8 97, .int .u8 98, .int .u8 99] 5 (3, 4))).heap[w2.heap.size]? = some (.cells (u8s [97, 98, 99]).toArray 5 (3, 4)) := alloc_new w2 _
  have hB3 := bytes_lit r3 3 (by intro j; match j with | 0 => decide | 1 => decide | 2 => decide | (n + 3) => simp) (by decide) (by decide)
  have HP := (hV2.same k3).put hB3 (fun _ => ⟨by omega, by intro e; cases e⟩)
  rw [show lastN 4 ([] ++ [97, 98, 99]) = [97, 98, 99] from by decide] at HP
  clear k3 r3 hB3 hV2 hwb hwlt
  generalize w.heap.size = lb at HP ⊢
  go_wp2_with fail
  refine HP.mono ?_
  clear HP
  rintro e w4 ⟨rfl, rv4, hV4, -, -⟩
  clear hcv
  have HC := hV4.copy 2 5 (by decide) (by decide) (by decide)
  rw [show outL [97, 98, 99] 2 5 = [98, 99, 98, 99, 98] from by decide, show lastN 4 ([97, 98, 99] ++ [98, 99, 98, 99, 98]) = [99, 98, 99, 98] from by decide] at HC
  have hg1 : w4.heap.size ≠ wb := by have := hV4.isW.block; omega
  have hg2 : w4.heap.size ≠ lb := by have := obj_lt hV4.isL.obj; omega
  clear hV4
  generalize w4.heap.size = g at HC hg1 hg2
  go_wp2_with fail
  refine HC.mono ?_
  clear HC
  rintro e w5 ⟨rfl, hz5, rv5, hV5, -, -, -⟩
  have HF := copy_far wb lb 4 rv5 _ 5 1 w5 hV5.isW (by decide) (by decide) (by decide)
  have HZ := (show Hid (w5.heap[g]? = some (.cells (u8s [98, 99, 98, 99, 98]).toArray 5 (0, 0)) ∧ Live w w5 wb lb 4 rv5 [99, 98, 99, 98] 10 4 4) from ⟨hz5, hV5⟩)
  clear hz5 hV5
  go_wp2_with fail
  refine HF.mono ?_
  clear HF
  rintro e w6 ⟨rfl, rfl⟩
  go_wp2_with fail
  refine (held_any lb 10 4 4 _ HZ.out.2.isL).mono ?_
  rintro e w7 ⟨rfl, rfl⟩
  go_wp2_with fail
  refine (HZ.out.2.drop (by decide)).mono ?_
  rintro e w8 ⟨rfl, hG8, hK8⟩
  have hz8 := hK8.obj HZ.out.1 (fun e => e.elim hg1 hg2)
  have hB8 : Bytes w8 (some ⟨g, 0, none⟩) 5 g 0 [98, 99, 98, 99, 98] := bytes_lit hz8 5 (by intro j; match j with | 0 => decide | 1 => decide | 2 => decide | 3 => decide | 4 => decide | (n + 5) => simp) (by decide) (by decide)
  have hcv : (convert 38 9 (.slice (some ⟨g, 0, none⟩) 5 5)).run Try.prog w8 = .ok (.string ⟨#[98, 99, 98, 99, 98]⟩) w8 := by
    have := run_conv hB8.src
    rw [str_bc] at this
    exact this
  have HG := (show Hid (Gone w w8 wb lb 10 0 4) from hG8)
  clear hG8 hK8 hz8 hB8 HZ
  go_wp2_with fail
  refine (held_any lb 10 0 4 _ HG.out.isL).mono ?_
  rintro e w9 ⟨rfl, rfl⟩
  go_wp2_with fail
  refine (copy_gone wb 1 1 _ HG.out.isD).mono ?_
  rintro e w10 ⟨rfl, rfl⟩
  go_wp2_with fail
  refine (wheld_cell wb 0 _ (cell_of HG.out.isD 0)).mono ?_
  rintro e w11 ⟨rfl, rfl⟩
  go_wp2_with fail
  go_ret
  exact ⟨rfl, HG.out.keep⟩

end Go.Proofs.Ytpjbegafhgnebaa
