/-
  What the document says of one symbol: wakes.
-/
import Derived.Test.YtoffnhbopjaocaaHlp
namespace Go.Proofs.Ytoffnhbopjaocaa
open Go.RowKit Go.Shelf

/-- Bytes as a string. -/
def strOf (bs : List Nat) : ByteArray := (bs.map (fun b => ((b : Nat) : Int))).foldl (fun r n => r.push (UInt8.ofNat n.toNat)) ByteArray.empty
theorem run_conv {w : World} {v : Value} {bs : List Nat} (h : Src w v bs) : (convert 23 9 v).run Try.prog w = .ok (.string (strOf bs)) w := by
  rcases h with ⟨rfl, rfl⟩ | ⟨a, cap, rfl, _, hc⟩
  · rw [run_convert_bytes_string w 23 9 5 none 0 0 Try.underlying23 Try.underlying5 Try.underlying9]
    rfl
  · rw [run_convert_bytes_string w 23 9 5 (some a) bs.length cap Try.underlying23 Try.underlying5 Try.underlying9]
    refine run_bytesToString w a bs.length cap (bs.map (fun b => ((b : Nat) : Int))) ?_
    have := run_loadCells_list (P := Try.prog) w a (u8s bs) hc
    rw [u8s_length] at this
    rw [this]
    simp [u8s]

/-- A description lies in what Write gives, whatever stands behind. -/
theorem laid_pack (D : List (Fin 2)) (hD : D.length ≤ 3844) (bh : List Nat) : Laid ((pack (alignL D) ++ bh).take 481) 0 D := by
  have hal : (alignL D).length = D.length + (8 - D.length % 8) % 8 := by unfold alignL; rw [List.length_append, low_length]
  have hpl := pack_length (alignL D)
  have hp : (pack (alignL D)).length ≤ 481 := by omega
  have hlen : D.length ≤ 8 * (pack (alignL D)).length := by omega
  refine ⟨?_, fun k hk => ?_⟩
  · rw [List.length_take, List.length_append]; omega
  · rw [Nat.zero_add]
    have e : bitAt ((pack (alignL D) ++ bh).take 481) k = bitAt (pack (alignL D)) k := by
      unfold bitAt
      rw [List.getElem?_take, if_pos (by omega), List.getElem?_append_left (by omega)]
    rw [e, bitAt_pack]
    unfold alignL
    exact bitL_app _ _ _ hk

theorem ok32 : okT [32] ((5 : Nat) : Int) = true := by decide
theorem ok16 : okT [16, 8, 4, 4] ((5 : Nat) : Int) = true := by decide +kernel
theorem pack32 : pack (alignL (dscAll [32] 5)) = [240, 3] := by decide +kernel
theorem len32 : (dscAll [32] 5).length = 10 := by decide +kernel
theorem sym0 : symF [16, 8, 4, 4] (2 ^ 5) 0 = 0 := by decide +kernel
theorem sym23 : symF [16, 8, 4, 4] (2 ^ 5) 23 = 0 := by decide +kernel
theorem bit0 : bitF 5 (xF [16, 8, 4, 4] (2 ^ 5) 0) = 1 := by decide +kernel
theorem base0 : baseF 5 (xF [16, 8, 4, 4] (2 ^ 5) 0) = 0 := by decide +kernel
theorem i16_32 : I16 [32] := by
  intro i
  cases i with
  | zero => simp
  | succ i => simp
theorem i16_16 : I16 [16, 8, 4, 4] := by
  intro i
  rcases i with _ | _ | _ | _ | i <;> simp

theorem rowI_new (w : World) (xs : List Int) (vs : Array Value) (n : Nat) (hn : n = xs.length) (hv : vs = (i16s xs).toArray) : RowI (w.alloc (.cells vs 42)) .i16 (some ⟨w.heap.size, 0, none⟩) n w.heap.size 0 xs := by
  subst hn hv
  refine ⟨.inl rfl, (fun e => by cases e), fun j hj => ?_, Nat.le_refl _⟩
  rw [cell_of (World.alloc_heap_new w _), Nat.zero_add, List.getElem?_toArray]
  exact i16s_at xs j hj

set_option maxRecDepth 100000 in
set_option maxHeartbeats 4000000 in
theorem wakes_any (w : World) : Calls Try.prog 12 #[] w fun e w' => e = .returned (.bool true) ∧ Keep noBlock w w' := by
  have hs1 : strOf [240, 3] = ⟨#[240, 3]⟩ := by rfl
  go_enter Try.func12, Try.ntmps12
  go_wp2_with fail
  have hR0 := rowI_new w [32] #[.int .i16 32] 1 rfl rfl
  have hK0 : Keep noBlock w (w.alloc (.cells #[.int .i16 32] 42)) := (Keep.refl _ w).alloc _
  generalize w.alloc (.cells #[.int .i16 32] 42) = W0 at hR0 hK0 ⊢
  refine (write_good (some ⟨w.heap.size, 0, none⟩) 1 w.heap.size 0 [32] 5 W0 hR0 i16_32 ok32).mono ?_
  rintro e W1 ⟨v1, rfl, hown1, hK1⟩
  rw [pack32] at hown1
  have hL := laid_pack (dscAll [32] 5) (by rw [len32]; omega) []
  rw [pack32, List.append_nil] at hL
  have hbs : ∀ j : Nat, ([240, 3] : List Nat)[j]?.getD 0 < 256 := fun j => by
    rcases j with _ | _ | j <;> simp
  have hrd := read_good W0.heap.size v1 [240, 3] [32] 5 5 3 W1 hown1 hbs (by simp) ok32 hL (by omega) (by omega) (by simp) (by omega)
  rw [len32] at hrd
  have HRD := (show Hid (Calls Try.prog 13 _ W1 _) from hrd)
  have HOW := (show Hid (W1.ownsRow W0.heap.size 5 1 v1 2 (u8s [240, 3]) ∧ Keep noBlock w W1) from ⟨hown1, hK0.trans' hK1⟩)
  obtain ⟨sa, cp, rfl⟩ := owns_form hown1
  clear hrd hown1 hK0 hK1 hR0 hL hbs
  go_wp2_with fail
  refine HRD.out.mono ?_
  rintro e W2 ⟨gc, cap2, rfl, hgc, hRow2, hK2⟩
  have HR2 := (show Hid (RowI W2 .i16 (some ⟨gc, 0, none⟩) cap2 gc 0 [32] ∧ Keep noBlock w W2 ∧ Keep noBlock W1 W2) from ⟨hRow2, HOW.out.2.trans' hK2, hK2⟩)
  clear hRow2 hK2 hgc HRD
  go_wp2_with fail
  have hR3 := rowI_new W2 [16, 8, 4, 4] #[.int .i16 16, .int .i16 8, .int .i16 4, .int .i16 4] 4 rfl rfl
  have hK3 : Keep noBlock W2 (W2.alloc (.cells #[.int .i16 16, .int .i16 8, .int .i16 4, .int .i16 4] 42)) := (Keep.refl _ W2).alloc _
  generalize W2.alloc (.cells #[.int .i16 16, .int .i16 8, .int .i16 4, .int .i16 4] 42) = W3 at hR3 hK3 ⊢
  refine (table_good (some ⟨W2.heap.size, 0, none⟩) 4 W2.heap.size 0 [16, 8, 4, 4] 5 W3 hR3 i16_16 ok16).mono ?_
  rintro e W4 ⟨gt, cap4, rfl, hgt, hcap4, hRT, hK4⟩
  have htc : ∀ W, Keep noBlock W4 W → W.cell? ⟨gt, 0, none⟩ = some (.int .u8 0) ∧ W.cell? ⟨gt, 1, none⟩ = some (.int .u8 1) ∧ W.cell? ⟨gt, 2, none⟩ = some (.int .u16 0) ∧ W.cell? ⟨gt, 69, none⟩ = some (.int .u8 0) := fun W hk => by
    have hR := hRT.keep hk (fun h => h)
    obtain ⟨t1, t2, t3⟩ := hR.cells 0 (by decide)
    obtain ⟨t4, -, -⟩ := hR.cells 23 (by decide)
    rw [sym0] at t1
    rw [bit0] at t2
    rw [base0] at t3
    rw [sym23] at t4
    exact ⟨t1, t2, t3, t4⟩
  have HTC := (show Hid (∀ W, Keep noBlock W4 W → _) from htc)
  have kk : Keep noBlock W1 W4 := (HR2.out.2.2.trans' hK3).trans' hK4
  have hcv := run_conv (Src.of_owns (owns_keep HOW.out.1 kk (fun _ _ h => h)))
  rw [hs1] at hcv
  simp only [show ([240, 3] : List Nat).length = 2 from rfl] at hcv
  have HR4 := (show Hid (RowI W4 .i16 (some ⟨gc, 0, none⟩) cap2 gc 0 [32] ∧ Keep noBlock w W4) from ⟨HR2.out.1.keep (hK3.trans' hK4) (fun _ h => h), HR2.out.2.1.trans' (hK3.trans' hK4)⟩)
  clear hRT hK3 hK4 hR3 kk HR2 HOW htc
  rw [show (2 : Nat) ^ 5 = 32 from rfl]
  go_wp2_with fail
  have hR5 := rowI_new W4 [32] #[.int .i16 32] 1 rfl rfl
  have hK5 : Keep noBlock W4 (W4.alloc (.cells #[.int .i16 32] 42)) := (Keep.refl _ W4).alloc _
  generalize W4.alloc (.cells #[.int .i16 32] 42) = W5 at hR5 hK5 ⊢
  refine (same_true (some ⟨gc, 0, none⟩) (some ⟨W4.heap.size, 0, none⟩) cap2 1 gc W4.heap.size 0 0 [32] W5 (HR4.out.1.keep hK5 (fun _ h => h)) hR5 (by simp)).mono ?_
  rintro e W6 ⟨rfl, q, rfl⟩
  have k6 : Keep noBlock W4 (W5.drewN q) := hK5.trans' (keep_drewN W5 q)
  generalize W5.drewN q = W6 at k6 ⊢
  obtain ⟨t1, t2, t3, t4⟩ := HTC.out W6 k6
  have HK6 := (show Hid (Keep noBlock w W6) from HR4.out.2.trans' k6)
  clear k6 hK5 hR5 HTC HR4 hcv
  go_wp2_with fail
  go_ret
  exact ⟨rfl, HK6.out⟩

end Go.Proofs.Ytoffnhbopjaocaa
