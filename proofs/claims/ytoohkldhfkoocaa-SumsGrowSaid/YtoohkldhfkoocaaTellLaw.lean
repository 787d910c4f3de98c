/-
  SumsTell, the walk.
-/
import Derived.Test.YtoohkldhfkoocaaSrc
import Derived.Test.YtoohkldhfkoocaaRefC
import Derived.Test.YtoohkldhfkoocaaRefY
namespace Go.Proofs.Ytoohkldhfkoocaa
open Go.RowKit Go.Shelf
set_option linter.unusedVariables false

/-- Bytes as a string. -/
def strOf (bs : List Nat) : ByteArray := (bs.map (fun b => ((b : Nat) : Int))).foldl (fun r n => r.push (UInt8.ofNat n.toNat)) ByteArray.empty
theorem run_conv {w : World} {v : Value} {bs : List Nat} (h : SrcB w v bs) : (convert 22 9 v).run Try.prog w = .ok (.string (strOf bs)) w := by
  rcases h with ⟨rfl, rfl⟩ | ⟨a, cap, rfl, hc⟩
  · rw [run_convert_bytes_string w 22 9 5 none 0 0 Try.underlying22 Try.underlying5 Try.underlying9]
    rfl
  · rw [run_convert_bytes_string w 22 9 5 (some a) bs.length cap Try.underlying22 Try.underlying5 Try.underlying9]
    refine run_bytesToString w a bs.length cap (bs.map (fun b => ((b : Nat) : Int))) ?_
    have := run_loadCells_list (P := Try.prog) w a (u8s bs) hc
    rw [u8s_length] at this
    rw [this]
    simp [u8s]

theorem SrcB.keep {w w' : World} {v : Value} {bs : List Nat} (h : SrcB w v bs) (hk : Keep noBlock w w') : SrcB w' v bs :=
  h.imp id (fun ⟨a, cap, e, h⟩ => ⟨a, cap, e, fun j u hu => (World.cell?_of_block (hk.block _ (World.block_lt_of_cell? w _ (h j u hu)) (fun h => h))).trans (h j u hu)⟩)
theorem SrcB.of_owns {w : World} {g cap : Nat} {bs : List Nat} (h : w.ownsRow 0 5 1 (.slice (some ⟨g, 0, none⟩) bs.length cap) bs.length (u8s bs)) : SrcB w (.slice (some ⟨g, 0, none⟩) bs.length cap) bs :=
  .inr ⟨_, cap, rfl, fun j u hu => h.cells (g := g) rfl j u hu⟩

set_option maxRecDepth 100000 in
set_option maxHeartbeats 4000000 in
theorem tell_walk (a0 : Option Addr) (cap0 gb off : Nat) (bs : List Nat) (w : World) (hB : Bytes w a0 cap0 gb off bs) (hs : SrcB w (.slice a0 bs.length cap0) bs) (hl : bs.length ≤ 140737488351232) :
    Calls Try.prog 3 #[.slice a0 bs.length cap0] w fun e w' => e = .returned (.bool true) ∧ Keep noBlock w w' := by
  have HB := (show Hid _ from hB)
  have HS0 := (show Hid (SrcB w (.slice a0 bs.length cap0) bs) from hs)
  have HS := (show Hid _ from hs.alloc (.cells #[] 5))
  unfold SrcB at HS
  clear hB hs
  by_cases h1 : 65536 < bs.length
  · have d1 : (65536 : Int) < (bs.length : Int) := by omega
    go_enter Try.func3, Try.ntmps3
    go_wp2_with fail
    refine (wakes_any _).mono ?_
    rintro e w1 ⟨rfl, hK⟩
    go_wp2_with fail
    go_ret
    exact ⟨rfl, hK⟩
  have d1 : ¬ ((65536 : Int) < (bs.length : Int)) := by omega
  go_enter Try.func3, Try.ntmps3
  go_wp2_with (first | (at_builtin; refine wpList_append_src _ rfl _ _ rfl w.heap.size (World.alloc_heap_new w _) rfl (.slice a0 bs.length cap0) rfl bs hl HS.out ?_; intro g0 cap w1 hown hK1 hg0) | fail)
  have hK2 : Keep noBlock w w1 := ((Keep.refl _ w).alloc _).trans hK1 (fun j hj e => by omega)
  have HM := (show Hid _ from Bytes.of_owns hown HB.out.lt HB.out.len)
  have HMS := (show Hid _ from SrcB.of_owns hown)
  have HBS := (show Hid _ from SrcB.keep HS0.out hK2)
  have HB1 := (show Hid _ from HB.out.keep hK2 (fun _ h => h))
  clear hown hK1 hg0 HS HS0 HB
  refine (crc32_any (some ⟨g0, 0, none⟩) cap g0 0 bs w1 HM.out).mono ?_
  rintro e w2 ⟨rfl, hk⟩
  have HM2 := (show Hid _ from HM.out.keep hk (fun _ h => h))
  have HMS2 := (show Hid _ from SrcB.keep HMS.out hk)
  have HBS2 := (show Hid _ from SrcB.keep HBS.out hk)
  have HB2 := (show Hid _ from HB1.out.keep hk (fun _ h => h))
  have hK3 := hK2.trans' hk
  clear HM HMS HBS HB1 hK2 hk
  go_wp2_with fail
  refine (refCrc32_any a0 cap0 gb off bs w2 HB2.out).mono ?_
  rintro e w2' ⟨rfl, rfl⟩
  go_wp2_with fail
  refine (crc64_any (some ⟨g0, 0, none⟩) cap g0 0 bs _ HM2.out).mono ?_
  rintro e w3 ⟨rfl, hk⟩
  have HM3 := (show Hid _ from HM2.out.keep hk (fun _ h => h))
  have HMS3 := (show Hid _ from SrcB.keep HMS2.out hk)
  have HBS3 := (show Hid _ from SrcB.keep HBS2.out hk)
  have HB3 := (show Hid _ from HB2.out.keep hk (fun _ h => h))
  have hK4 := hK3.trans' hk
  clear HM2 HMS2 HBS2 HB2 hK3 hk
  go_wp2_with fail
  refine (refCrc64_any a0 cap0 gb off bs w3 HB3.out).mono ?_
  rintro e w3' ⟨rfl, rfl⟩
  go_wp2_with fail
  refine (xxh_any (some ⟨g0, 0, none⟩) cap g0 0 bs _ HM3.out).mono ?_
  rintro e w4 ⟨rfl, hk⟩
  have HMS4 := (show Hid _ from SrcB.keep HMS3.out hk)
  have HBS4 := (show Hid _ from SrcB.keep HBS3.out hk)
  have HB4 := (show Hid _ from HB3.out.keep hk (fun _ h => h))
  have hK5 := hK4.trans' hk
  clear HM3 HMS3 HBS3 HB3 hK4 hk
  go_wp2_with fail
  refine (refXxh_any a0 cap0 gb off bs w4 HB4.out).mono ?_
  rintro e w5 ⟨rfl, hk⟩
  have cv1 := run_conv (SrcB.keep HMS4.out hk)
  have cv2 := run_conv (SrcB.keep HBS4.out hk)
  have hK6 := hK5.trans' hk
  clear HMS4 HBS4 HB4 hK5 hk
  generalize strOf bs = st at cv1 cv2
  go_wp2_with fail
  refine (wakes_any _).mono ?_
  rintro e w6 ⟨rfl, hk⟩
  go_wp2_with fail
  go_ret
  exact ⟨rfl, hK6.trans' hk⟩

end Go.Proofs.Ytoohkldhfkoocaa
