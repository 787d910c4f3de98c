/-
  CanonWhole, walked: 15 bits, whatever they are, begin with a word.
-/
import Derived.Test.YtapcohpagipkpaaRead5
import Derived.Deep.RegionHeld3
namespace Go.Proofs.Ytapcohpagipkpaa
open Go.RowKit Go.Shelf

theorem two_bytes (x : Nat) (w : World) : Src (w.alloc (.cells #[.int .u8 ((x % 256 : Nat) : Int), .int .u8 ((x / 256 : Nat) : Int)] 5)) (.slice (some ⟨w.heap.size, 0, none⟩) 2 2) [x % 256, x / 256] := by
  refine .inr ⟨⟨w.heap.size, 0, none⟩, 2, rfl, by simp, fun j u hu => ?_⟩
  rw [add0, cell_of (World.alloc_heap_new w _)]
  have hj : j < 2 := by
    have := (List.getElem?_eq_some_iff.1 hu).1
    simpa [u8s] using this
  have : j = 0 ∨ j = 1 := by omega
  rcases this with rfl | rfl <;> simpa [u8s] using hu

theorem keepN {S : Nat → Prop} {a w : World} (h : Keep S a w) (n : Nat) : Keep S a (w.drewN n) := ⟨h.os, h.tape, h.output, h.size, h.block⟩

set_option maxRecDepth 100000 in
set_option maxHeartbeats 4000000 in
theorem whole_far (a : Option Addr) (cap n : Nat) (x : Int) (w : World) (hl : 1024 < n) :
    Calls Try.prog 6 #[.slice a n cap, .int .u16 x] w fun e w' => e = .returned (.bool true) ∧ Keep noBlock w w' := by
  go_enter Try.func6, Try.ntmps6
  go_wp2_with fail
  refine (codes_far a cap n w hl).mono ?_
  rintro e w1 ⟨rfl, hk1⟩
  go_wp2_with fail
  refine (wakes_any _).mono ?_
  rintro e w2 ⟨rfl, hk2⟩
  go_wp2
  go_ret
  exact ⟨rfl, hk1.trans' hk2⟩

set_option maxRecDepth 100000 in
set_option maxHeartbeats 4000000 in
theorem whole_bad (a : Option Addr) (cap gb off : Nat) (xs : List Nat) (x : Int) (w : World) (hR : Row w .u8 a cap gb off xs) (hl : xs.length ≤ 1024) (hbad : isCode xs = false) :
    Calls Try.prog 6 #[.slice a xs.length cap, .int .u16 x] w fun e w' => e = .returned (.bool true) ∧ Keep noBlock w w' := by
  go_enter Try.func6, Try.ntmps6
  go_wp2_with fail
  refine (codes_bad a cap gb off xs w hR hl hbad).mono ?_
  rintro e w1 ⟨rfl, hk1⟩
  go_wp2_with fail
  refine (wakes_any _).mono ?_
  rintro e w2 ⟨rfl, hk2⟩
  go_wp2
  go_ret
  exact ⟨rfl, hk1.trans' hk2⟩

set_option maxRecDepth 100000 in
set_option maxHeartbeats 4000000 in
theorem whole_good (a : Option Addr) (cap gb off : Nat) (xs : List Nat) (x : Nat) (hx : x < 65536) (w : World) (hR : Row w .u8 a cap gb off xs) (hl : xs.length ≤ 1024) (hgood : isCode xs = true) :
    Calls Try.prog 6 #[.slice a xs.length cap, .int .u16 (x : Int)] w fun e w' => e = .returned (.bool true) ∧ Keep noBlock w w' := by
  go_enter Try.func6, Try.ntmps6
  go_wp2_with fail
  refine (codes_good a cap gb off xs w hR hl hgood).mono ?_
  rintro e w1 ⟨cb, rfl, hb1, hb2, hrow, hk1⟩
  have hR1 := hR.keep hk1 (fun _ h => h)
  clear hrow hR
  have hS := two_bytes x w1
  have hbs : ∀ j : Nat, [x % 256, x / 256][j]?.getD 0 < 256 := by
    intro j
    match j with
    | 0 => simp; omega
    | 1 => simp; omega
    | j + 2 => simp
  rw [show ((x % 256 : Nat) : Int) = (x : Int) % 256 by omega, show ((x / 256 : Nat) : Int) = (x : Int) / 256 by omega] at hS
  go_wp2_with fail
  refine (new_any _ [x % 256, x / 256] (by show 2 ≤ _; omega) hbs _ hS).mono ?_
  rintro e w2 ⟨rb, g, rfl, hrb, hg, hI, hk2⟩
  have hka := ((Keep.refl noBlock w1).alloc (.cells #[.int .u8 ((x : Int) % 256), .int .u8 ((x : Int) / 256)] 5)).trans' hk2
  have hrb' : w1.heap.size < rb := by rw [World.size_alloc] at hrb; omega
  have hR2 := hR1.keep hka (fun _ h => h)
  have hblk : xs ≠ [] → gb ≠ rb := fun h => by have := hR1.block h; omega
  have hkw := hk1.trans' hka
  have hsz := hk1.size
  clear hS hbs hrb hg hb1 hb2 hka hk1 hk2 hR1
  go_wp2_with fail
  refine (read_good rb g 0 [x % 256, x / 256] a cap gb off xs w2 hI (fun h => hI.ne h) hblk hR2 hl hgood).mono ?_
  rintro e w3 ⟨l, hW, hk3, h | ⟨h, -⟩⟩
  rotate_left
  · exfalso
    have := hW.hi
    simp at h
    omega
  obtain ⟨hle, ⟨sym, hsym, rfl⟩, hI3⟩ := h
  have hmem := (symsOf_mem xs l sym).1 (List.mem_of_getElem? hsym)
  have hne : xs ≠ [] := by rintro rfl; simp at hmem
  have hc := (hR2.keep hk3 hblk).cells sym hmem.1
  have hat : a = some ⟨gb, off, none⟩ := hR2.at_.resolve_right hne
  have hnum : xs[sym]?.getD 0 = l := hmem.2
  rw [hnum] at hc
  have hkf : Keep noBlock w w3 := hkw.trans hk3 (fun i hi e => by omega)
  have hl1 := hW.lo
  have hl2 := hW.hi
  have hs1 := hmem.1
  have HK := (show Hid (Keep noBlock w w3) from hkf)
  have HI := (show Hid (IsR w3 rb g [x % 256, x / 256] (0 + l)) from hI3)
  have hlI : (0 : Int) < (l : Int) := by omega
  have hsI : (sym : Int) < (xs.length : Int) := by omega
  have hsI0 : (0 : Int) ≤ (sym : Int) := by omega
  have hd1 : decide ((0 : Int) < (l : Int)) = true := by simp; omega
  have hd2 : decide (0 < l) = true := by simp; omega
  have hd3 : decide ((l : Int) > 0) = true := by simp; omega
  have hle0 : Calls Try.prog 18 #[.pointer (some ⟨rb, 0, none⟩)] w3.drew fun e w' => e = .returned (.int .i64 (16 - (l : Int))) ∧ ∃ n, w' = w3.drew.drewN n := by
    refine (left_any rb g _ _ w3.drew (hI3.keep ((Keep.refl noBlock w3).drew) (fun h => h) (fun _ h => h))).mono ?_
    rintro e w4 ⟨rfl, n, rfl⟩
    refine ⟨?_, n, rfl⟩
    show Ending.returned (.int .i64 (((2 : Nat) : Int) * 8 - ((0 + l : Nat) : Int))) = _
    rw [show ((2 : Nat) : Int) * 8 - ((0 + l : Nat) : Int) = 16 - (l : Int) by omega]
  have h16 : (16 : Int) - (16 - (l : Int)) = (l : Int) := by omega
  subst hat
  clear hW hk3 hsym hmem hnum hI3 hkf hkw hle hI hR2 hblk hgood hl1 hx
  go_wp2_with fail
  go_region_held3 (fun w' => w'.cell? ⟨gb, off + sym, none⟩ = some (.int .u8 (l : Int)))
    (first | go_keep)
    ((first
      | (refine hle0.mono ?_; rintro e w4 ⟨rfl, n, rfl⟩)
      | (refine (wakes_any _).mono ?_; rintro e w4 ⟨rfl, hk4⟩
         have hk5 : Keep noBlock w3 w4 := ⟨hk4.os, hk4.tape, hk4.output, hk4.size, hk4.block⟩
         have hc4 : w4.cell? ⟨gb, off + sym, none⟩ = some (.int .u8 (l : Int)) := (World.cell?_of_block (hk5.block gb (World.block_lt_of_cell? _ _ hc) (fun h => h))).trans hc)))
  all_goals go_wp2
  all_goals go_ret

  all_goals exact ⟨rfl, HK.out.trans' (by assumption)⟩

end Go.Proofs.Ytapcohpagipkpaa
