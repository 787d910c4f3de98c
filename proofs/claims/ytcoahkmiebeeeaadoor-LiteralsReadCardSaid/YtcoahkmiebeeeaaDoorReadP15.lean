/-
  readHead.
  Read of literals.
  Read of weights, the program's and the document's, and what it tells where it tells weights.
  What the statements' own example comes to: true.
  The document's number of bytes.
  The document's head.
  The document's own writer: what each of its calls does.
-/
import Derived.Test.YtcoahkmiebeeeaaDoorReadP14
namespace Go.Proofs.YtcoahkmiebeeeaaDoor
open Go.RowKit Go.Shelf
set_option linter.unusedVariables false

section
attribute [local go_sem] sliceSem_eq
set_option maxRecDepth 100000 in
set_option maxHeartbeats 1000000 in
theorem readHead_any (a : Option Addr) (cap gb off : Nat) (bs : List Nat) (w : World) (hB : Bytes w a cap gb off bs) (hF : Frm w) (hne : bs ≠ []) :
    Calls Tryd.prog 7 #[.slice a bs.length cap] w fun e w' => Keep noBlock w w' ∧ ((bs.length < hBy bs ∧ e = .returned (.tuple #[headV 0 0 0 0 0 0 0, .bool false])) ∨ (hBy bs ≤ bs.length ∧ e = .returned (.tuple #[headV (hKi bs) (hBy bs) (frN (hKi bs) (hFo bs)) (btN (hKi bs) (hFo bs)) (hRw bs) (hSz bs) (hPk bs), .bool true]))) := by
  have hl : 0 < bs.length := List.length_pos_iff.2 hne
  have h0 := hB.cells 0 hl
  obtain ⟨x, hx⟩ : ∃ x, x = bs[0]?.getD 0 := ⟨_, rfl⟩
  have hx256 : x < 256 := by rw [hx]; exact hB.lt 0
  rw [← hx, Nat.add_zero] at h0
  obtain rfl : a = some ⟨gb, off, none⟩ := hB.at_.resolve_right hne
  obtain ⟨k, hk⟩ : ∃ k, k = x % 4 := ⟨_, rfl⟩
  obtain ⟨f, hf⟩ : ∃ f, f = x / 4 % 4 := ⟨_, rfl⟩
  obtain ⟨i, hi⟩ : ∃ i, i = k / 2 := ⟨_, rfl⟩
  have hF1 := hF i f (by omega) (by omega)
  obtain ⟨q1, q2, q3, q4⟩ := hbN_two (k := k) (f := f) (by omega)
  rw [← hi] at q1 q2 q3 q4
  rw [q1, q2, q3, q4] at hF1
  obtain ⟨HB, hHB⟩ : ∃ HB, HB = hbN k f := ⟨_, rfl⟩
  obtain ⟨HF, hHF⟩ : ∃ HF, HF = frN k f := ⟨_, rfl⟩
  obtain ⟨HT, hHT⟩ : ∃ HT, HT = btN k f := ⟨_, rfl⟩
  obtain ⟨HR, hHR⟩ : ∃ HR, HR = rwN k f := ⟨_, rfl⟩
  rw [← hHB, ← hHF, ← hHT, ← hHR] at hF1
  have e1 : bits .and .u8 (x : Int) 3 = (k : Int) := by rw [hk]; exact and3_u8 x hx256
  have e2 : bits .and .u8 ((x : Int) / 4) 3 = (f : Int) := by
    rw [show ((x : Int) / 4) = ((x / 4 : Nat) : Int) from by omega, hf]; exact and3_u8 (x / 4) (by omega)
  have e3 : (k : Int).tdiv 2 = (i : Int) := by rw [hi]; rfl
  obtain ⟨n, hn⟩ : ∃ n, n = bs.length := ⟨_, rfl⟩
  have g0 : ((n : Int) == 0) = false := by rw [beq_eq_false_iff_ne]; omega
  have hk0 := fun vs : Array Value => (Keep.refl noBlock w).alloc (.cells vs 31)
  have z0 := fun vs : Array Value => keep_cell0 (hk0 vs) h0
  rw [← hn] at hl ⊢
  have hk4 : (k : Int) ≤ 3 := by omega
  have hi1 : (i : Int) < 2 := by omega
  have hf4 : (f : Int) < 4 := by omega
  have hHB5 : 1 ≤ HB ∧ HB ≤ 5 := by rw [hHB]; exact hbN_le k f
  have wi : IntKind.i64.wrap (i : Int) = (i : Int) := by rw [IntKind.wrap_i64]; omega
  have wf : IntKind.u8.wrap (f : Int) = (f : Int) := by rw [IntKind.wrap_u8]; omega
  have hi0 : (0 : Int) ≤ (i : Int) := by omega
  have hf0 : (0 : Int) ≤ (f : Int) := by omega
  have HH := hid (show x = bs[0]?.getD 0 ∧ k = x % 4 ∧ f = x / 4 % 4 ∧ i = k / 2 ∧ HB = hbN k f ∧ HF = frN k f ∧ HT = btN k f ∧ HR = rwN k f ∧ n = bs.length ∧ Bytes w (some ⟨gb, off, none⟩) cap gb off bs ∧ Frm w from ⟨hx, hk, hf, hi, hHB, hHF, hHT, hHR, hn, hB, hF⟩)
  clear hk0 hx hk hf hi hHB hHF hHT hHR hn hB hF q1 q2 q3 q4 hne hx256
  obtain ⟨y1, y2, y3, y4⟩ := hF1
  go_enter Tryd.func7, Tryd.ntmps7
  go_wp2_with fail
  have o1 := World.alloc_heap_new w (.cells #[.int .i64 (k : Int), .int .i64 0, .int .i64 0, .int .i64 0, .int .i64 0, .int .i64 0, .int .i64 0] 31)
  have hk1 := (Keep.refl noBlock w).alloc (.cells #[.int .i64 (k : Int), .int .i64 0, .int .i64 0, .int .i64 0, .int .i64 0, .int .i64 0, .int .i64 0] 31)
  have hz := z0 #[.int .i64 (k : Int), .int .i64 0, .int .i64 0, .int .i64 0, .int .i64 0, .int .i64 0, .int .i64 0]
  obtain ⟨hb, hhb⟩ : ∃ hb, hb = w.heap.size := ⟨_, rfl⟩
  rw [← hhb] at o1 ⊢
  generalize w.alloc (.cells #[.int .i64 (k : Int), .int .i64 0, .int .i64 0, .int .i64 0, .int .i64 0, .int .i64 0, .int .i64 0] 31) = W1 at o1 hk1 hz ⊢
  have x1 := keep_cell0 hk1 y1
  have x2 := keep_cell0 hk1 y2
  have x3 := keep_cell0 hk1 y3
  have x4 := keep_cell0 hk1 y4
  have c0 : W1.cell? ⟨hb, 0, none⟩ = some (.int .i64 (k : Int)) := cell_of o1 0
  have c1 : W1.cell? ⟨hb, 1, none⟩ = some (.int .i64 0) := cell_of o1 1
  have c2 : W1.cell? ⟨hb, 2, none⟩ = some (.int .i64 0) := cell_of o1 2
  have c3 : W1.cell? ⟨hb, 3, none⟩ = some (.int .i64 0) := cell_of o1 3
  have c4 : W1.cell? ⟨hb, 4, none⟩ = some (.int .i64 0) := cell_of o1 4
  have f1 := frozen_of o1 1
  have f2 := frozen_of o1 2
  have f3 := frozen_of o1 3
  have f4 := frozen_of o1 4
  have hgh : gb ≠ hb := by have := World.block_lt_of_cell? w ⟨gb, off, none⟩ h0; rw [hhb]; exact Nat.ne_of_lt this
  have h0h : 0 ≠ hb := by have := World.block_lt_of_cell? w _ y1; rw [hhb]; exact Nat.ne_of_lt this
  obtain ⟨W2, hW2⟩ : ∃ W2, W2 = (((W1.setCell ⟨hb, 1, none⟩ (.int .i64 (HB : Int))).setCell ⟨hb, 2, none⟩ (.int .i64 (HF : Int))).setCell ⟨hb, 3, none⟩ (.int .i64 (HT : Int))).setCell ⟨hb, 4, none⟩ (.int .i64 (HR : Int)) := ⟨_, rfl⟩
  have k2 : Keep (fun j => j = hb) W1 W2 := by
    rw [hW2]
    exact ((((Keep.refl (fun j => j = hb) W1).setCell (p := ⟨hb, 1, none⟩) (fun _ => rfl) _).setCell (p := ⟨hb, 2, none⟩) (fun _ => rfl) _).setCell (p := ⟨hb, 3, none⟩) (fun _ => rfl) _).setCell (p := ⟨hb, 4, none⟩) (fun _ => rfl) _
  have o2 : W2.heap[hb]? = some (.cells #[.int .i64 (k : Int), .int .i64 (HB : Int), .int .i64 (HF : Int), .int .i64 (HT : Int), .int .i64 (HR : Int), .int .i64 0, .int .i64 0] 31 (0, 0)) := by
    rw [hW2, set_obj (set_obj (set_obj (set_obj o1 1 _) 2 _) 3 _) 4 _]
    rfl
  have kc : ∀ (b j : Nat) (v : Value), b ≠ hb → W1.cell? ⟨b, j, none⟩ = some v → W2.drew.cell? ⟨b, j, none⟩ = some v := fun b j v hne h =>
    (World.cell?_of_block (w := W1) (w' := W2.drew) (k2.drew.block b (World.block_lt_of_cell? W1 ⟨b, j, none⟩ h) hne)).trans h
  have d0 : W2.drew.cell? ⟨hb, 0, none⟩ = some (.int .i64 (k : Int)) := cell_of (w := W2.drew) o2 0
  have d1 := kc _ _ _ hgh hz
  have d2 := kc _ _ _ h0h x1
  have d3 := kc _ _ _ h0h x2
  have d4 := kc _ _ _ h0h x3
  have d5 := kc _ _ _ h0h x4
  have HW := hid (show Keep (fun j => j = hb) W1 W2 ∧ W2.heap[hb]? = some (.cells #[.int .i64 (k : Int), .int .i64 (HB : Int), .int .i64 (HF : Int), .int .i64 (HT : Int), .int .i64 (HR : Int), .int .i64 0, .int .i64 0] 31 (0, 0)) from ⟨k2, o2⟩)
  have HI := hid (show hb = w.heap.size ∧ Keep noBlock w W1 ∧ W1.heap[hb]? = some (.cells #[.int .i64 (k : Int), .int .i64 0, .int .i64 0, .int .i64 0, .int .i64 0, .int .i64 0, .int .i64 0] 31 (0, 0)) from ⟨hhb, hk1, o1⟩)
  rw [hW2] at d0 d1 d2 d3 d4 d5
  have HE := hid hW2
  clear y1 y2 y3 y4 z0 h0 hhb hk1 o1 kc k2 o2 hW2
  go_region_held3 (fun w' => w'.cell? ⟨hb, 0, none⟩ = some (.int .i64 (k : Int)) ∧ w'.cell? ⟨gb, off, none⟩ = some (.int .u8 (x : Int)) ∧ w'.cell? ⟨0, i * 16 + f * 4, none⟩ = some (.int .i64 (HB : Int)) ∧ w'.cell? ⟨0, i * 16 + f * 4 + 1, none⟩ = some (.int .i64 (HF : Int)) ∧ w'.cell? ⟨0, i * 16 + f * 4 + 2, none⟩ = some (.int .i64 (HT : Int)) ∧ w'.cell? ⟨0, i * 16 + f * 4 + 3, none⟩ = some (.int .i64 (HR : Int))) (first | go_keep | exact d0 | exact d1 | exact d2 | exact d3 | exact d4 | exact d5) ((fail))
  rw [← HE.out]
  clear d0 d1 d2 d3 d4 d5 c0 c1 c2 c3 c4 f1 f2 f3 f4 x1 x2 x3 x4 hz
  have hK3 : Keep noBlock w W2.drew := by
    have h1 := HI.out
    exact (h1.2.1.trans HW.out.1 (fun i hi e => by omega)).drew
  have o3 : W2.drew.heap[hb]? = some (.cells #[.int .i64 (k : Int), .int .i64 (HB : Int), .int .i64 (HF : Int), .int .i64 (HT : Int), .int .i64 (HR : Int), .int .i64 0, .int .i64 0] 31 (0, 0)) := HW.out.2
  rename_i hHeld
  clear hHeld HW HE
  generalize W2.drew = W3 at hK3 o3 ⊢
  have hhb : w.heap.size ≤ hb := by rw [HI.out.1]; exact Nat.le_refl _
  clear HI e1 e2 e3 wi wf hi1 hf4 hi0 hf0
  have c0 : W3.cell? ⟨hb, 0, none⟩ = some (.int .i64 (k : Int)) := cell_of o3 0
  have c1 : W3.cell? ⟨hb, 1, none⟩ = some (.int .i64 (HB : Int)) := cell_of o3 1
  have c2 : W3.cell? ⟨hb, 2, none⟩ = some (.int .i64 (HF : Int)) := cell_of o3 2
  have c3 : W3.cell? ⟨hb, 3, none⟩ = some (.int .i64 (HT : Int)) := cell_of o3 3
  have c4 : W3.cell? ⟨hb, 4, none⟩ = some (.int .i64 (HR : Int)) := cell_of o3 4
  have c5 : W3.cell? ⟨hb, 5, none⟩ = some (.int .i64 0) := cell_of o3 5
  have c6 : W3.cell? ⟨hb, 6, none⟩ = some (.int .i64 0) := cell_of o3 6
  have f0 := frozen_of o3 0
  have f1 := frozen_of o3 1
  have f2 := frozen_of o3 2
  have f3 := frozen_of o3 3
  have f4 := frozen_of o3 4
  have f5 := frozen_of o3 5
  have f6 := frozen_of o3 6
  by_cases hs : n < HB
  · have hsI : (n : Int) < (HB : Int) := by omega
    go_wp2_with fail
    refine bodyPost_ret (resH rfl rfl (set7 o3 _ _ _ _ _ _ _) rfl) rfl ⟨keep7 hK3 hhb _ _ _ _ _ _ _, .inl ⟨?_, rfl⟩⟩
    obtain ⟨e1, e2, e3, e4, e5, e6, e7, e8, e9, -⟩ := HH.out
    unfold hBy hKi hFo
    rw [← e1, ← e2, ← e3, ← e5]
    exact hs
  · have hsI : ¬ (n : Int) < (HB : Int) := by omega
    have hsI2 : (HB : Int) ≤ (n : Int) := by omega
    have hB3 : Bytes W3 (some ⟨gb, off, none⟩) cap gb off bs := HH.out.2.2.2.2.2.2.2.2.2.1.keep hK3 (fun _ h => h)
    obtain ⟨hsl, hBt⟩ := hB3.take HB (by have := HH.out.2.2.2.2.2.2.2.2.1; omega)
    have htl : (bs.take HB).length = HB := by rw [List.length_take]; have := HH.out.2.2.2.2.2.2.2.2.1; omega
    rw [← HH.out.2.2.2.2.2.2.2.2.1, htl] at hsl
    have HBt := hid (show Bytes W3 (some ⟨gb, off, none⟩) cap gb off (bs.take HB) ∧ (bs.take HB).length = HB from ⟨hBt, htl⟩)
    clear hB3 hBt htl
    go_wp2_with fail
    go_loop [4, 43] (fun v4 v43 => ∃ j N : Nat, v43 = .int .i64 (j : Int) ∧ j ≤ HB ∧ v4 = .int .u64 (N : Int) ∧ Hid (N = numN (bs.take j))) (fun _ v43 => HB - (intOf v43).toNat)
    case atStart => exact ⟨0, 0, rfl, Nat.zero_le _, rfl, by rw [List.take_zero]; rfl⟩
    case round =>
      obtain ⟨j, N, rfl, hj, rfl, HN⟩ := hrel
      by_cases hlt : j < HB
      · have hltI : (j : Int) < (HB : Int) := by omega
        obtain ⟨y, hy⟩ : ∃ y, y = (bs.take HB)[j]?.getD 0 := ⟨_, rfl⟩
        have hcy := HBt.out.1.cells j (by rw [HBt.out.2]; exact hlt)
        rw [← hy] at hcy
        have hy256 : y < 256 := by rw [hy]; exact HBt.out.1.lt j
        have HY := hid hy
        have hy2 : (y : Int) < 256 := by omega
        obtain ⟨j8, hj8⟩ : ∃ j8, j8 = 8 * j := ⟨_, rfl⟩
        have e8 : 8 * (j : Int) = (j8 : Int) := by omega
        have b8 : (j8 : Int) ≤ 40 := by omega
        have H8 := hid hj8
        clear hy hj8
        have hor : bits .or .u64 (N : Int) (IntKind.u64.wrap ((y : Int) * 2 ^ j8)) = ((N + 256 ^ j * y : Nat) : Int) := by
          have hN : N < 256 ^ j := by
            rw [HN.out]
            have := numN_lt (l := bs.take j) (fun b hb => lt_mem HH.out.2.2.2.2.2.2.2.2.2.1.lt b (List.mem_of_mem_take hb))
            rwa [List.length_take, Nat.min_eq_left (by have := HH.out.2.2.2.2.2.2.2.2.1; omega)] at this
          have hpw : 256 ^ j = 2 ^ j8 := by rw [H8.out, Nat.pow_mul]
          have hj4 : 256 ^ j ≤ 4294967296 := Nat.le_trans (Nat.pow_le_pow_right (by decide) (show j ≤ 4 by omega)) (by decide)
          rw [hpw] at hN hj4 ⊢
          have hm : 2 ^ j8 * y ≤ 4294967296 * 255 := Nat.mul_le_mul hj4 (by omega)
          have ey : IntKind.u64.wrap ((y : Int) * 2 ^ j8) = ((2 ^ j8 * y : Nat) : Int) := by
            rw [show ((y : Int) * 2 ^ j8) = ((2 ^ j8 * y : Nat) : Int) from by rw [Nat.mul_comm]; simp]
            exact wraps_u64 _ (by omega) (by omega)
          rw [ey]
          exact or_add64 N y j8 hN (by omega)
        obtain ⟨N2, hN2⟩ : ∃ N2, N2 = N + 256 ^ j * y := ⟨_, rfl⟩
        rw [← hN2] at hor
        have HN2 := hid hN2
        clear hN2
        obtain ⟨j1, hj1⟩ : ∃ j1, j1 = j + 1 := ⟨_, rfl⟩
        have ej : (j : Int) + 1 = (j1 : Int) := by omega
        have HJ1 := hid hj1
        have hjb : (j1 : Int) ≤ 5 := by omega
        clear hj1
        go_wp2_with fail
        refine ⟨⟨j1, N2, rfl, by rw [HJ1.out]; omega, rfl, ?_⟩, ?_⟩
        · rw [HJ1.out, HN2.out, HN.out, HY.out]
          have := numN_take (l := bs) (k := j) (by have := HH.out.2.2.2.2.2.2.2.2.1; omega)
          rw [List.getElem?_take, if_pos hlt]
          exact this.symm
        · have := HJ1.out
          simp only [intOf, Int.toNat_natCast]
          omega
      · have hltI : ¬ (j : Int) < (HB : Int) := by omega
        obtain rfl : j = HB := by omega
        obtain ⟨e1, e2, e3, e4, e5, e6, e7, e8, e9, -⟩ := HH.out
        have hHF : HF = frN (hKi bs) (hFo bs) := by unfold hKi hFo; rw [← e1, ← e2, ← e3]; exact e6
        have hHT : HT = btN (hKi bs) (hFo bs) := by unfold hKi hFo; rw [← e1, ← e2, ← e3]; exact e7
        have hHB : j = hBy bs := by unfold hBy hKi hFo; rw [← e1, ← e2, ← e3]; exact e5
        have hHR : HR = hRw bs := by unfold hRw hKi hFo; rw [← e1, ← e2, ← e3]; exact e8
        have hkk : k = hKi bs := by unfold hKi; rw [← e1]; exact e2
        have b1 := frN_le (hKi bs) (hFo bs)
        have b2 := btN_le (hKi bs) (hFo bs)
        have hNu : N = hNu bs := by rw [HN.out, hHB]; rfl
        have hNlt : N < 1099511627776 := by
          rw [HN.out]
          have := numN_lt (l := bs.take j) (fun b hb => lt_mem HH.out.2.2.2.2.2.2.2.2.2.1.lt b (List.mem_of_mem_take hb))
          rw [List.length_take, Nat.min_eq_left (by omega)] at this
          have h5 : 256 ^ j ≤ 256 ^ 5 := Nat.pow_le_pow_right (by decide) hHB5.2
          have : 256 ^ 5 = 1099511627776 := by decide
          omega
        obtain ⟨FT, hFT⟩ : ∃ FT, FT = HF + HT := ⟨_, rfl⟩
        have eFT : (HF : Int) + (HT : Int) = (FT : Int) := by omega
        obtain ⟨P2, hP2⟩ : ∃ P2, P2 = 2 ^ HT := ⟨_, rfl⟩
        have hPb : 1 ≤ P2 ∧ P2 ≤ 1048576 := by rw [hP2]; exact ⟨Nat.two_pow_pos _, by rw [hHT]; exact pow_bt _ _⟩
        have hmask : IntKind.u64.wrap (IntKind.u64.wrap ((2 : Int) ^ min HT 64) - 1) = ((2 ^ HT - 1 : Nat) : Int) := by
          rw [show min HT 64 = HT from by omega, wrap_pow HT (by omega), ← hP2]
          exact wrap_pred P2 hPb.1 (by omega)
        have w64 : ∀ q : Nat, q < 1048576 → wrap64 (q : Int) = (q : Int) := fun q hq => by unfold wrap64; omega
        obtain ⟨SZ, hSZ⟩ : ∃ SZ, SZ = hSz bs := ⟨_, rfl⟩
        have E5 := hid (show wrap64 (bits .and .u64 ((N : Int) / 2 ^ min HF 64) (IntKind.u64.wrap (IntKind.u64.wrap ((2 : Int) ^ min HT 64) - 1))) = (SZ : Int) from by
          rw [hmask, show min HF 64 = HF from by omega, shr_nat, and_mask64 _ _ (by have := Nat.div_le_self N (2 ^ HF); omega) (by omega)]
          rw [show N / 2 ^ HF % 2 ^ HT = SZ from by rw [hSZ, hNu, hHF, hHT]; rfl]
          exact w64 _ (by rw [hSZ]; exact hSz_lt bs))
        by_cases hk2 : k < 2
        · have hR0 : HR = 0 := by rw [hHR]; unfold hRw rwN; rw [if_pos (by omega)]
          have hR2 : ¬ (0 : Int) < (HR : Int) := by omega
          have hPk0 : hPk bs = 0 := by unfold hPk; rw [if_pos (by omega)]
          have HG := hid (show j = hBy bs ∧ HF = frN (hKi bs) (hFo bs) ∧ HT = btN (hKi bs) (hFo bs) ∧ HR = hRw bs ∧ k = hKi bs ∧ SZ = hSz bs ∧ 0 = hPk bs ∧ n = bs.length from ⟨hHB, hHF, hHT, hHR, hkk, hSZ, hPk0.symm, e9⟩)
          subst hR0
          clear e1 e2 e3 e4 e5 e6 e7 e8 e9 hHF hHT hHB hHR hkk b1 b2 hNu hNlt hFT hP2 hPb hSZ hPk0 hk2 hmask w64 eFT
          rw [show ((0 : Nat) : Int) = (0 : Int) from rfl] at c4 o3 hR2
          go_wp2_with fail
          refine bodyPost_ret (resH rfl rfl (set7 (set_obj o3 5 _) _ _ _ _ _ _ _) rfl) rfl ⟨keep7 (hK3.setCell (p := ⟨hb, 5, none⟩) (fun h => absurd (show hb < _ from h) (by omega)) _) hhb _ _ _ _ _ _ _, .inr ⟨?_, ?_⟩⟩
          · have := HG.out; omega
          · obtain ⟨q1, q2, q3, q4, q5, q6, q7, -⟩ := HG.out
            rw [← q1, ← q2, ← q3, ← q4, ← q5, ← q6, ← q7, E5.out]
            rfl
        · have hR0 : 0 < HR := by rw [hHR]; unfold hRw rwN; rw [if_neg (by omega)]; split <;> omega
          have hR2 : (0 : Int) < (HR : Int) := by omega
          obtain ⟨PK, hPK⟩ : ∃ PK, PK = hPk bs := ⟨_, rfl⟩
          have E6 := hid (show wrap64 (bits .and .u64 ((N : Int) / 2 ^ min FT 64) (IntKind.u64.wrap (IntKind.u64.wrap ((2 : Int) ^ min HT 64) - 1))) = (PK : Int) from by
            rw [hmask, show min FT 64 = FT from by omega, shr_nat, and_mask64 _ _ (by have := Nat.div_le_self N (2 ^ FT); omega) (by omega)]
            rw [show N / 2 ^ FT % 2 ^ HT = PK from by rw [hPK, hFT, hNu, hHF, hHT]; unfold hPk; rw [if_neg (by omega)]]
            exact w64 _ (by rw [hPK]; exact hPk_lt bs))
          have ftb : (FT : Int) ≤ 24 := by omega
          have m1 : min HF 64 = HF := by omega
          have m2 : min HT 64 = HT := by omega
          have m3 : min FT 64 = FT := by omega
          have F5 := E5.out
          have F6 := E6.out
          rw [m1, m2] at F5
          rw [m3, m2] at F6
          have G5 := hid F5
          have G6 := hid F6
          have HG := hid (show j = hBy bs ∧ HF = frN (hKi bs) (hFo bs) ∧ HT = btN (hKi bs) (hFo bs) ∧ HR = hRw bs ∧ k = hKi bs ∧ SZ = hSz bs ∧ PK = hPk bs ∧ n = bs.length from ⟨hHB, hHF, hHT, hHR, hkk, hSZ, hPK, e9⟩)
          clear e1 e2 e3 e4 e5 e6 e7 e8 e9 hHF hHT hHB hHR hkk b1 b2 hNu hNlt hFT hP2 hPb hSZ hR0 hk2 hPK hmask w64 m1 m2 m3 F5 F6
          go_wp2_with fail
          refine bodyPost_ret (resH rfl rfl (set7 (set_obj (set_obj o3 5 _) 6 _) _ _ _ _ _ _ _) rfl) rfl ⟨keep7 ((hK3.setCell (p := ⟨hb, 5, none⟩) (fun h => absurd (show hb < _ from h) (by omega)) _).setCell (p := ⟨hb, 6, none⟩) (fun h => absurd (show hb < _ from h) (by omega)) _) hhb _ _ _ _ _ _ _, .inr ⟨?_, ?_⟩⟩
          · have := HG.out; omega
          · obtain ⟨q1, q2, q3, q4, q5, q6, q7, -⟩ := HG.out
            rw [← q1, ← q2, ← q3, ← q4, ← q5, ← q6, ← q7, G5.out, G6.out]
            rfl

end
end Go.Proofs.YtcoahkmiebeeeaaDoor

namespace Go.Proofs.YtcoahkmiebeeeaaDoor
open Go.RowKit Go.Shelf
set_option linter.unusedVariables false

/-- What Read answers: an error, literals, weights, how many bytes were used. -/
def LAns (r : Nat × List Nat × List Nat × Nat) (w : World) (e : Ending) (w' : World) : Prop :=
  Keep noBlock w w' ∧ ∃ a1 n1 c1 g1 o1 a2 n2 c2 g2 o2, e = .returned (.tuple #[.slice a1 n1 c1, .slice a2 n2 c2, .int .i64 (r.2.2.2 : Int), .int .i64 (r.1 : Int)]) ∧ n1 = r.2.1.length ∧ n2 = r.2.2.1.length ∧ Bytes w' a1 c1 g1 o1 r.2.1 ∧ Bytes w' a2 c2 g2 o2 r.2.2.1
theorem bytes_none (w : World) : Bytes w none 0 0 0 [] := ⟨.inr rfl, fun _ => rfl, fun j hj => by simp at hj, fun j => by simp, Nat.le_refl _, by decide⟩
theorem lans_none {c : Nat} {w w' : World} (hk : Keep noBlock w w') : LAns (c, [], [], 0) w (.returned (.tuple #[.slice none 0 0, .slice none 0 0, .int .i64 0, .int .i64 (c : Int)])) w' :=
  ⟨hk, none, 0, 0, 0, 0, none, 0, 0, 0, 0, rfl, rfl, rfl, bytes_none _, bytes_none _⟩

theorem run_cut3 (a : Option Addr) (len cap lo hi : Nat) (h0 : lo ≤ hi) (h1 : hi ≤ len) (h2 : len ≤ cap) (w : World) :
    (sliceSem 22 (.slice a len cap) (some (.int .i64 (lo : Int))) (some (.int .i64 (hi : Int))) (some (.int .i64 (hi : Int)))).run Tryd.prog w = .ok (.slice (if hi = lo then a else a.map (fun x => x.add lo)) (hi - lo) (hi - lo)) w := by
  obtain ⟨i0, hi', hz0, hz1, hz2⟩ := info_parts info5
  have h3 : hi ≤ cap := by omega
  simp [sliceSem, Instr.slice, run_underlying Tryd.underlying22, Instr.sliceBounds, Instr.sliceBound, asIntOf, h0, h3, sizeOf, typeInfo, hi', hz1]
theorem Bytes.cut3 {w : World} {a : Option Addr} {cap gb off : Nat} {bs : List Nat} (h : Bytes w a cap gb off bs) (lo hi : Nat) (h0 : lo ≤ hi) (h1 : hi ≤ bs.length) :
    ∃ a' off', (∀ W, (sliceSem 22 (.slice a bs.length cap) (some (.int .i64 (lo : Int))) (some (.int .i64 (hi : Int))) (some (.int .i64 (hi : Int)))).run Tryd.prog W = .ok (.slice a' (hi - lo) (hi - lo)) W) ∧ Bytes w a' (hi - lo) gb off' ((bs.take hi).drop lo) := by
  have hc := h.cap
  have hl := h.len
  have hlen : ((bs.take hi).drop lo).length = hi - lo := by rw [List.length_drop, List.length_take]; omega
  refine ⟨if hi = lo then a else a.map (fun x => x.add lo), off + lo, fun W => run_cut3 a bs.length cap lo hi h0 h1 hc W, ⟨?_, ?_, ?_, lt_drop (lt_take h.lt hi) lo, by omega, by omega⟩⟩
  · by_cases e : hi = lo
    · right; exact List.length_eq_zero_iff.1 (by omega)
    · rcases h.at_ with q | q
      · left; rw [if_neg e, q]; simp [addO]
      · rw [q] at h1; simp at h1; omega
  · intro e
    by_cases e2 : hi = lo
    · omega
    · rw [if_neg e2, Option.map_eq_none_iff] at e
      have := h.nil e
      omega
  · intro j hj
    rw [hlen] at hj
    rw [List.getElem?_drop, List.getElem?_take, if_pos (by omega), Nat.add_assoc]
    exact h.cells (lo + j) (by omega)

set_option maxRecDepth 100000 in
set_option maxHeartbeats 1000000 in
theorem readHead_nil (a : Option Addr) (cap : Nat) (w : World) : Calls Tryd.prog 7 #[.slice a 0 cap] w fun e w' => Keep noBlock w w' ∧ e = .returned (.tuple #[headV 0 0 0 0 0 0 0, .bool false]) := by
  go_enter Tryd.func7, Tryd.ntmps7
  go_wp2
  refine bodyPost_ret (resH rfl rfl (World.alloc_heap_new w _) rfl) rfl ⟨(Keep.refl _ w).alloc _, rfl⟩

section
attribute [local go_sem] sliceSem_eq
set_option maxRecDepth 100000 in
set_option maxHeartbeats 1000000 in
theorem readL_arg (a : Option Addr) (n cap : Nat) (a2 : Option Addr) (n2 cap2 : Nat) (most : Int) (w : World) (h : most < 0 ∨ 131072 < most) :
    Calls Tryd.prog 4 #[.slice a n cap, .slice a2 n2 cap2, .int .i64 most] w fun e w' => LAns (2, [], [], 0) w e w' := by
  by_cases h0 : most < 0
  · go_enter Tryd.func4, Tryd.ntmps4
    go_wp2
    refine bodyPost_ret (v := .tuple #[.slice none 0 0, .slice none 0 0, .int .i64 0, .int .i64 2]) (by simp [results, Tryd.results4, go_sem]) rfl (lans_none (Keep.refl _ _))
  · have h1 : 131072 < most := by omega
    go_enter Tryd.func4, Tryd.ntmps4
    go_wp2
    all_goals refine bodyPost_ret (v := .tuple #[.slice none 0 0, .slice none 0 0, .int .i64 0, .int .i64 2]) (by simp [results, Tryd.results4, go_sem]) rfl (lans_none (Keep.refl _ _))

set_option maxRecDepth 100000 in
set_option maxHeartbeats 1000000 in
/-- Read, where b ends ahead of the head's end. -/
theorem readL_short (a : Option Addr) (n cap : Nat) (a2 : Option Addr) (n2 cap2 : Nat) (most : Int) (w : World) (h0 : 0 ≤ most) (h1 : most ≤ 131072)
    (hc : Calls Tryd.prog 7 #[.slice a n cap] w fun e w' => Keep noBlock w w' ∧ e = .returned (.tuple #[headV 0 0 0 0 0 0 0, .bool false])) :
    Calls Tryd.prog 4 #[.slice a n cap, .slice a2 n2 cap2, .int .i64 most] w fun e w' => LAns (10, [], [], 0) w e w' := by
  have HC := hid hc
  have g0 : ¬ most < 0 := by omega
  have g1 : ¬ 131072 < most := by omega
  clear hc
  unfold headV at HC
  go_enter Tryd.func4, Tryd.ntmps4
  go_wp2_with (go_at_call 7; refine HC.out.mono ?_; rintro e w1 ⟨hk1, rfl⟩)
  refine bodyPost_ret (v := .tuple #[.slice none 0 0, .slice none 0 0, .int .i64 0, .int .i64 10]) (by simp [results, Tryd.results4, go_sem]) rfl (lans_none (hk1.alloc _))

set_option maxRecDepth 100000 in
set_option maxHeartbeats 2000000 in
/-- Read, where the head is there. -/
theorem readL_head (a : Option Addr) (n cap : Nat) (a2 : Option Addr) (n2 cap2 : Nat) (most : Int) (k hb fr bt rw size pk : Nat) (r : Nat × List Nat × List Nat × Nat) (w : World) (h0 : 0 ≤ most) (h1 : most ≤ 131072) (hnb : n < 2 ^ 48) (hhb : hb ≤ 5) (hsz : size < 1048576) (hpk : pk < 1048576)
    (hc : Calls Tryd.prog 7 #[.slice a n cap] w fun e w' => Keep noBlock w w' ∧ e = .returned (.tuple #[headV k hb fr bt rw size pk, .bool true]))
    (hr1 : most < (size : Int) → r = (11, [], [], 0))
    (hr2 : ¬ most < (size : Int) → n < hb + behN k size pk → r = (10, [], [], 0))
    (hr3 : ¬ most < (size : Int) → ¬ n < hb + behN k size pk → ∃ a' o, (∀ W, (sliceSem 22 (.slice a n cap) (some (.int .i64 (hb : Int))) (some (.int .i64 ((hb + behN k size pk : Nat) : Int))) (some (.int .i64 ((hb + behN k size pk : Nat) : Int)))).run Tryd.prog W = .ok (.slice a' (behN k size pk) (behN k size pk)) W) ∧
      (r = match o with | none => (11, [], [], 0) | some p => (0, p.1, p.2, hb + behN k size pk)) ∧ ∀ W, Keep noBlock w W → Calls Tryd.prog 9 #[headV k hb fr bt rw size pk, .slice a' (behN k size pk) (behN k size pk), .slice a2 n2 cap2] W fun e w' => TAns o W e w') :
    Calls Tryd.prog 4 #[.slice a n cap, .slice a2 n2 cap2, .int .i64 most] w fun e w' => LAns r w e w' := by
  have HC := hid hc
  have g0 : ¬ most < 0 := by omega
  have g1 : ¬ 131072 < most := by omega
  have HBH := hid (fun W => behind_any k hb fr bt rw size pk W)
  obtain ⟨bh, hbh⟩ : ∃ bh, bh = behN k size pk := ⟨_, rfl⟩
  obtain ⟨en, hen⟩ : ∃ en, en = hb + bh := ⟨_, rfl⟩
  rw [← hbh] at hr2 hr3 HBH
  have hbhb : bh < 1048576 := by rw [hbh]; unfold behN; repeat' split
                                 all_goals omega
  rw [← hen] at hr2 hr3
  have e1 : (hb : Int) + (bh : Int) = (en : Int) := by omega
  have enb : (en : Int) ≤ 1048600 := by omega
  have wen : IntKind.i64.wrap (en : Int) = (en : Int) := by rw [IntKind.wrap_i64]; omega
  unfold headV at HC hr3 HBH
  have HEN := hid hen
  clear hc hbh hen
  by_cases hA : most < (size : Int)
  · have hr := hr1 hA
    clear hr1 hr2 hr3
    subst hr
    go_enter Tryd.func4, Tryd.ntmps4
    go_wp2_with (go_at_call 7; refine HC.out.mono ?_; rintro e w1 ⟨hk1, rfl⟩)
    refine bodyPost_ret (v := .tuple #[.slice none 0 0, .slice none 0 0, .int .i64 0, .int .i64 11]) (by simp [results, Tryd.results4, go_sem]) rfl (lans_none (hk1.alloc _))
  · have hR2 := hr2 hA
    have hR3 := hr3 hA
    clear hr1 hr2 hr3
    go_enter Tryd.func4, Tryd.ntmps4
    go_wp2_with (go_at_call 7; refine HC.out.mono ?_; rintro e w1 ⟨hk1, rfl⟩)
    have o1 := World.alloc_heap_new w1 (.cells #[.int .i64 (k : Int), .int .i64 (hb : Int), .int .i64 (fr : Int), .int .i64 (bt : Int), .int .i64 (rw : Int), .int .i64 (size : Int), .int .i64 (pk : Int)] 31)
    have k1 := hk1.alloc (.cells #[.int .i64 (k : Int), .int .i64 (hb : Int), .int .i64 (fr : Int), .int .i64 (bt : Int), .int .i64 (rw : Int), .int .i64 (size : Int), .int .i64 (pk : Int)] 31)
    obtain ⟨xb, hxb⟩ : ∃ xb, xb = w1.heap.size := ⟨_, rfl⟩
    rw [← hxb] at o1 ⊢
    generalize w1.alloc (.cells #[.int .i64 (k : Int), .int .i64 (hb : Int), .int .i64 (fr : Int), .int .i64 (bt : Int), .int .i64 (rw : Int), .int .i64 (size : Int), .int .i64 (pk : Int)] 31) = W1 at o1 k1 ⊢
    have c0 : W1.cell? ⟨xb, 0, none⟩ = some (.int .i64 (k : Int)) := cell_of o1 0
    have c1 : W1.cell? ⟨xb, 1, none⟩ = some (.int .i64 (hb : Int)) := cell_of o1 1
    have c2 : W1.cell? ⟨xb, 2, none⟩ = some (.int .i64 (fr : Int)) := cell_of o1 2
    have c3 : W1.cell? ⟨xb, 3, none⟩ = some (.int .i64 (bt : Int)) := cell_of o1 3
    have c4 : W1.cell? ⟨xb, 4, none⟩ = some (.int .i64 (rw : Int)) := cell_of o1 4
    have c5 : W1.cell? ⟨xb, 5, none⟩ = some (.int .i64 (size : Int)) := cell_of o1 5
    have c6 : W1.cell? ⟨xb, 6, none⟩ = some (.int .i64 (pk : Int)) := cell_of o1 6
    have HK1 := hid k1
    clear hk1 hxb o1 k1
    go_region_held3 (fun W => W.cell? ⟨xb, 0, none⟩ = some (.int .i64 (k : Int)) ∧ W.cell? ⟨xb, 1, none⟩ = some (.int .i64 (hb : Int)) ∧ W.cell? ⟨xb, 2, none⟩ = some (.int .i64 (fr : Int)) ∧ W.cell? ⟨xb, 3, none⟩ = some (.int .i64 (bt : Int)) ∧ W.cell? ⟨xb, 4, none⟩ = some (.int .i64 (rw : Int)) ∧ W.cell? ⟨xb, 5, none⟩ = some (.int .i64 (size : Int)) ∧ W.cell? ⟨xb, 6, none⟩ = some (.int .i64 (pk : Int))) (first | go_keep | assumption) ((first | (go_at_call 8; refine (HBH.out _).mono ?_; rintro e w2 ⟨rfl, hk2⟩; have d0 := keep_cell0 hk2 (show W1.drew.cell? ⟨xb, 0, none⟩ = _ from c0); have d1 := keep_cell0 hk2 (show W1.drew.cell? ⟨xb, 1, none⟩ = _ from c1); have d2 := keep_cell0 hk2 (show W1.drew.cell? ⟨xb, 2, none⟩ = _ from c2); have d3 := keep_cell0 hk2 (show W1.drew.cell? ⟨xb, 3, none⟩ = _ from c3); have d4 := keep_cell0 hk2 (show W1.drew.cell? ⟨xb, 4, none⟩ = _ from c4); have d5 := keep_cell0 hk2 (show W1.drew.cell? ⟨xb, 5, none⟩ = _ from c5); have d6 := keep_cell0 hk2 (show W1.drew.cell? ⟨xb, 6, none⟩ = _ from c6))))
    have HK2 := hid (HK1.out.drew.trans' hk2)
    clear hk2 c0 c1 c2 c3 c4 c5 c6
    by_cases hB : n < en
    · have hr := hR2 hB
      have g2 : (n : Int) < (en : Int) := by omega
      clear hR2 hR3
      subst hr
      go_wp2_with fail
      refine bodyPost_ret (v := .tuple #[.slice none 0 0, .slice none 0 0, .int .i64 0, .int .i64 10]) (by simp [results, Tryd.results4, go_sem]) rfl (lans_none HK2.out)
    · obtain ⟨a', o, hsl, hr, hT⟩ := hR3 hB
      have g2 : ¬ (n : Int) < (en : Int) := by omega
      clear hR2 hR3
      cases o with
      | none =>
        have HT := hid (show ∀ W, Keep noBlock w W → Calls Tryd.prog 9 #[.agg #[.int .i64 (k : Int), .int .i64 (hb : Int), .int .i64 (fr : Int), .int .i64 (bt : Int), .int .i64 (rw : Int), .int .i64 (size : Int), .int .i64 (pk : Int)], .slice a' bh bh, .slice a2 n2 cap2] W fun e w' => Keep noBlock W w' ∧ ∃ v1 v2, e = .returned (.tuple #[v1, v2, .bool false]) from fun W hW => (hT W hW).mono fun e w' h => h)
        clear hT
        subst hr
        go_wp2_with fail
        go_region_held3 (fun W => W.cell? ⟨xb, 0, none⟩ = some (.int .i64 (k : Int)) ∧ W.cell? ⟨xb, 1, none⟩ = some (.int .i64 (hb : Int)) ∧ W.cell? ⟨xb, 2, none⟩ = some (.int .i64 (fr : Int)) ∧ W.cell? ⟨xb, 3, none⟩ = some (.int .i64 (bt : Int)) ∧ W.cell? ⟨xb, 4, none⟩ = some (.int .i64 (rw : Int)) ∧ W.cell? ⟨xb, 5, none⟩ = some (.int .i64 (size : Int)) ∧ W.cell? ⟨xb, 6, none⟩ = some (.int .i64 (pk : Int))) (first | go_keep | assumption) ((first | (go_at_call 9; refine (HT.out _ HK2.out.drew).mono ?_; rintro e w3 ⟨hk3, v1, v2, rfl⟩; have f0 := keep_cell0 hk3 (show w2.drew.cell? ⟨xb, 0, none⟩ = _ from d0); have f1 := keep_cell0 hk3 (show w2.drew.cell? ⟨xb, 1, none⟩ = _ from d1); have f2 := keep_cell0 hk3 (show w2.drew.cell? ⟨xb, 2, none⟩ = _ from d2); have f3 := keep_cell0 hk3 (show w2.drew.cell? ⟨xb, 3, none⟩ = _ from d3); have f4 := keep_cell0 hk3 (show w2.drew.cell? ⟨xb, 4, none⟩ = _ from d4); have f5 := keep_cell0 hk3 (show w2.drew.cell? ⟨xb, 5, none⟩ = _ from d5); have f6 := keep_cell0 hk3 (show w2.drew.cell? ⟨xb, 6, none⟩ = _ from d6))))
        have HK3 := hid (HK2.out.drew.trans' hk3)
        clear hk3
        go_wp2_with fail
        refine bodyPost_ret (v := .tuple #[.slice none 0 0, .slice none 0 0, .int .i64 0, .int .i64 11]) (by simp [results, Tryd.results4, go_sem]) rfl (lans_none HK3.out)
      | some p =>
        have HT := hid (show ∀ W, Keep noBlock w W → Calls Tryd.prog 9 #[.agg #[.int .i64 (k : Int), .int .i64 (hb : Int), .int .i64 (fr : Int), .int .i64 (bt : Int), .int .i64 (rw : Int), .int .i64 (size : Int), .int .i64 (pk : Int)], .slice a' bh bh, .slice a2 n2 cap2] W fun e w' => Keep noBlock W w' ∧ ∃ a1 n1 c1 g1 o1 a2 n2 c2 g2 o2, e = .returned (.tuple #[.slice a1 n1 c1, .slice a2 n2 c2, .bool true]) ∧ n1 = p.1.length ∧ n2 = p.2.length ∧ Bytes w' a1 c1 g1 o1 p.1 ∧ Bytes w' a2 c2 g2 o2 p.2 from fun W hW => (hT W hW).mono fun e w' h => h)
        have HR := hid hr
        clear hT hr
        go_wp2_with fail
        go_region_held3 (fun W => W.cell? ⟨xb, 0, none⟩ = some (.int .i64 (k : Int)) ∧ W.cell? ⟨xb, 1, none⟩ = some (.int .i64 (hb : Int)) ∧ W.cell? ⟨xb, 2, none⟩ = some (.int .i64 (fr : Int)) ∧ W.cell? ⟨xb, 3, none⟩ = some (.int .i64 (bt : Int)) ∧ W.cell? ⟨xb, 4, none⟩ = some (.int .i64 (rw : Int)) ∧ W.cell? ⟨xb, 5, none⟩ = some (.int .i64 (size : Int)) ∧ W.cell? ⟨xb, 6, none⟩ = some (.int .i64 (pk : Int))) (first | go_keep | assumption) ((first | (go_at_call 9; refine (HT.out _ HK2.out.drew).mono ?_; rintro e w3 ⟨hk3, a5, n5, c5', g5, o5, a6, n6, c6', g6, o6, rfl, hn5, hn6, hB5, hB6⟩; have f0 := keep_cell0 hk3 (show w2.drew.cell? ⟨xb, 0, none⟩ = _ from d0); have f1 := keep_cell0 hk3 (show w2.drew.cell? ⟨xb, 1, none⟩ = _ from d1); have f2 := keep_cell0 hk3 (show w2.drew.cell? ⟨xb, 2, none⟩ = _ from d2); have f3 := keep_cell0 hk3 (show w2.drew.cell? ⟨xb, 3, none⟩ = _ from d3); have f4 := keep_cell0 hk3 (show w2.drew.cell? ⟨xb, 4, none⟩ = _ from d4); have f5 := keep_cell0 hk3 (show w2.drew.cell? ⟨xb, 5, none⟩ = _ from d5); have f6 := keep_cell0 hk3 (show w2.drew.cell? ⟨xb, 6, none⟩ = _ from d6))))
        have H3 := hid (show Keep noBlock w w3 ∧ n5 = p.1.length ∧ n6 = p.2.length ∧ Bytes w3 a5 c5' g5 o5 p.1 ∧ Bytes w3 a6 c6' g6 o6 p.2 from ⟨HK2.out.drew.trans' hk3, hn5, hn6, hB5, hB6⟩)
        clear hk3 hn5 hn6 hB5 hB6
        go_wp2_with fail
        refine bodyPost_ret (v := .tuple #[.slice a5 n5 c5', .slice a6 n6 c6', .int .i64 (en : Int), .int .i64 0]) (by simp [results, Tryd.results4, go_sem]; exact ⟨H3.out.2.1.symm, H3.out.2.2.1.symm⟩) rfl ?_
        rw [HR.out]
        exact ⟨H3.out.1, a5, n5, c5', g5, o5, a6, n6, c6', g6, o6, rfl, H3.out.2.1, H3.out.2.2.1, H3.out.2.2.2.1, H3.out.2.2.2.2⟩
end
/-- Read. -/
theorem readL_any (a : Option Addr) (cap gb off : Nat) (bs : List Nat) (a2 : Option Addr) (cap2 gb2 off2 : Nat) (ws : List Nat) (most : Int) (c u : Nat) (V : List Nat) (w : World) (hF : Frm w) (hB : Bytes w a cap gb off bs) (hB2 : Bytes w a2 cap2 gb2 off2 ws) (hl2 : ws.length ≤ 140737488355327)
    (hR : RdW (bodyN bs) c u V) (hc : c = 0 → u ≤ (bodyN bs).length ∧ V.length ≤ 256 ∧ ∀ j : Nat, V[j]?.getD 0 < 256) :
    Calls Tryd.prog 4 #[.slice a bs.length cap, .slice a2 ws.length cap2, .int .i64 most] w fun e w' => LAns (litR c u V bs ws most) w e w' := by
  unfold litR
  by_cases hm : most < 0 ∨ 131072 < most
  · rw [if_pos hm]
    exact readL_arg a bs.length cap a2 ws.length cap2 most w hm
  · rw [if_neg hm]
    by_cases hs : bs = [] ∨ bs.length < hBy bs
    · rw [if_pos hs]
      refine readL_short a bs.length cap a2 ws.length cap2 most w (by omega) (by omega) ?_
      by_cases he : bs = []
      · subst he
        exact readHead_nil a cap w
      · have hs' := hs.resolve_left he
        refine (readHead_any a cap gb off bs w hB hF he).mono ?_
        rintro e w' ⟨hk, ⟨_, h⟩ | ⟨h, _⟩⟩
        · exact ⟨hk, h⟩
        · omega
    · rw [if_neg hs]
      have hne : bs ≠ [] := fun h => hs (.inl h)
      have hbl : hBy bs ≤ bs.length := Nat.le_of_not_lt fun h => hs (.inr h)
      have hbe : behN (hKi bs) (hSz bs) (hPk bs) = hBe bs := rfl
      refine readL_head a bs.length cap a2 ws.length cap2 most (hKi bs) (hBy bs) (frN (hKi bs) (hFo bs)) (btN (hKi bs) (hFo bs)) (hRw bs) (hSz bs) (hPk bs) _ w (by omega) (by omega) hB.len (hbN_le _ _).2 (hSz_lt bs) (hPk_lt bs) ?_ (fun h => by rw [if_pos h]) (fun h1 h2 => by rw [hbe] at h2; rw [if_neg h1, if_pos h2]) (fun h1 h2 => ?_)
      · refine (readHead_any a cap gb off bs w hB hF hne).mono ?_
        rintro e w' ⟨hk, ⟨h, _⟩ | ⟨_, h⟩⟩
        · omega
        · exact ⟨hk, h⟩
      · rw [hbe] at h2 ⊢
        rw [if_neg h1, if_neg h2]
        obtain ⟨a', off', hsl, hBb⟩ := hB.cut3 (hBy bs) (hBy bs + hBe bs) (by omega) (by omega)
        have hbl2 := bodyN_length h2
        rw [show hBy bs + hBe bs - hBy bs = hBe bs from by omega] at hsl hBb
        have hsz : hSz bs ≤ 131072 := by omega
        refine ⟨a', tellL c u V (hKi bs) (hSz bs) (hRw bs) (bodyN bs) ws, hsl, ?_, fun W hW => ?_⟩
        · cases tellL c u V (hKi bs) (hSz bs) (hRw bs) (bodyN bs) ws with
          | none => rfl
          | some p => rfl
        · have hBW : Bytes W a' (hBe bs) gb off' (bodyN bs) := hBb.keep hW (fun _ h => h)
          have hBW2 := hB2.keep hW (fun _ h => h)
          have hbeb := hBe_lt bs
          have hk4 := hKi_lt bs
          unfold tellL
          by_cases k0 : hKi bs = 0
          · rw [if_pos k0, k0]
            have := tell_raw (hBy bs) (frN 0 (hFo bs)) (btN 0 (hFo bs)) (hRw bs) (hSz bs) (hPk bs) a' (hBe bs) gb off' (bodyN bs) a2 cap2 gb2 off2 ws W hBW hBW2 (by omega) hl2
            rw [hbl2] at this
            exact this
          · rw [if_neg k0]
            by_cases k1 : hKi bs = 1
            · rw [if_pos k1, k1]
              have hb1 : hBe bs = 1 := by unfold hBe; rw [if_neg k0, if_pos k1]
              rw [hb1] at hbl2 hBW ⊢
              obtain ⟨x, hx⟩ := List.length_eq_one_iff.1 hbl2
              rw [hx] at hBW ⊢
              exact tell_one (hBy bs) (frN 1 (hFo bs)) (btN 1 (hFo bs)) (hRw bs) (hSz bs) (hPk bs) a' 1 gb off' x a2 cap2 gb2 off2 ws W hBW hBW2 hsz hl2
            · rw [if_neg k1]
              have hrw : 1 ≤ hRw bs ∧ hRw bs ≤ 4 := by
                unfold hRw
                rcases rwN_is (hKi bs) (hFo bs) with q | q | q <;> omega
              by_cases k3 : hKi bs = 3
              · rw [if_pos k3, k3]
                have := tell_ahead (hBy bs) (frN 3 (hFo bs)) (btN 3 (hFo bs)) (hRw bs) (hSz bs) (hPk bs) a' (hBe bs) gb off' (bodyN bs) a2 cap2 gb2 off2 ws W hBW hBW2 hsz (by omega) hl2 hrw.1 hrw.2
                rw [hbl2] at this
                exact this
              · rw [if_neg k3]
                have k2 : hKi bs = 2 := by omega
                rw [k2]
                have := tell_anew (hBy bs) (frN 2 (hFo bs)) (btN 2 (hFo bs)) (hRw bs) (hSz bs) (hPk bs) a' (hBe bs) gb off' (bodyN bs) a2 cap2 gb2 off2 ws c u V W hBW hsz (by omega) hrw.1 hrw.2 hR hc
                rw [hbl2] at this
                exact this

end Go.Proofs.YtcoahkmiebeeeaaDoor

namespace Go.Proofs.YtcoahkmiebeeeaaDoor
open Go.RowKit Go.Shelf
set_option linter.unusedVariables false

theorem readOf_code {Y : Option (List Nat)} {ws : List Nat} (h : readOf Y = some ws) : codeB ws = true := by
  cases Y with
  | none => cases h
  | some M =>
    cases hc : codeB (M ++ [lastW M]) with
    | false => rw [readOf_no hc] at h; cases h
    | true => rw [readOf_yes hc] at h; cases h; exact hc
theorem rb_ok (Y : Option (List Nat)) (u n : Nat) (hu : u ≤ n) : (if readOf Y = none then 11 else 0) = 0 → (if readOf Y = none then 0 else u) ≤ n ∧ codeB ((readOf Y).getD []) = true := by
  intro h
  cases hr : readOf Y with
  | none => rw [hr] at h; cases h
  | some ws => exact ⟨by rw [if_neg (by simp)]; exact hu, readOf_code hr⟩
/-- Both Reads answer the same. -/
theorem read_both2 (bs : List Nat) : ∃ (c u : Nat) (V : List Nat), (c = 0 → u ≤ bs.length ∧ codeB V = true) ∧
    (∀ (a : Option Addr) (cap gb off : Nat) (w : World), Bytes w a cap gb off bs → Calls Tryd.prog 17 #[.slice a bs.length cap] w fun e w' => RAns c u V w e w') ∧
    (∀ (a : Option Addr) (cap gb off : Nat) (w : World), Bytes w a cap gb off bs → Calls Tryd.prog 11 #[.slice a bs.length cap] w fun e w' => RAns c u V w e w') := by
  by_cases hs : bs.length < usedN (bs[0]?.getD 0)
  · exact ⟨10, 0, [], (fun h => by cases h), fun a cap gb off w hB => (read_short a cap gb off bs w hB hs).mono fun e w' h => rans_short h, fun a cap gb off w hB => (readD_short a cap gb off bs w hB hs).mono fun e w' h => rans_short h⟩
  · have hu : 1 ≤ usedN (bs[0]?.getD 0) := by unfold usedN; split <;> omega
    have hne : bs ≠ [] := by intro e; rw [e] at hs hu; exact hs hu
    have htl : (bs.take (usedN (bs[0]?.getD 0))).length = usedN (bs[0]?.getD 0) := by rw [List.length_take]; omega
    have ht0 : (bs.take (usedN (bs[0]?.getD 0)))[0]?.getD 0 = bs[0]?.getD 0 := by rw [List.getElem?_take, if_pos (by omega)]
    have htne : bs.take (usedN (bs[0]?.getD 0)) ≠ [] := by intro h; rw [h] at htl; simp at htl; omega
    by_cases h1 : bs[0]?.getD 0 ≤ 127
    · have hue : usedN (bs[0]?.getD 0) = 1 + bs[0]?.getD 0 := if_pos h1
      obtain ⟨u, hu2⟩ : ∃ u, u = usedN (bs[0]?.getD 0) := ⟨_, rfl⟩
      rw [← hu2] at hs htl ht0 htne hue hu
      obtain ⟨R0, hR0⟩ : ∃ R0, ∀ R, RdRel ((bs.take u).drop 1) 6 11 R → R = R0 := by
        by_cases h : ∃ R, RdRel ((bs.take u).drop 1) 6 11 R
        · obtain ⟨R, hR⟩ := h
          exact ⟨R, fun R' h' => h'.det hR⟩
        · exact ⟨none, fun R' h' => absurd ⟨R', h'⟩ h⟩
      refine ⟨if readOf (tellD ((bs.take u).drop 1) R0) = none then 11 else 0, if readOf (tellD ((bs.take u).drop 1) R0) = none then 0 else u, (readOf (tellD ((bs.take u).drop 1) R0)).getD [], rb_ok _ u bs.length (by omega), fun a cap gb off w hB => ?_, fun a cap gb off w hB => ((readD_states a cap gb off bs u w hB hne h1 hue (by omega)).mono fun e w' h => ?_)⟩
      · by_cases hex : RdRel ((bs.take u).drop 1) 6 11 R0
        · have hT := (tell_states a cap gb off (bs.take u) w (hB.take u (by omega)).2 htne (by rw [ht0]; exact h1) (by omega)).mono (fun e w' h => show TellPost (tellT ((bs.take u).drop 1) R0) w e w' from by
            obtain ⟨R, hR, h⟩ := h
            rw [hR0 R hR] at h
            exact h)
          have := read_told a cap gb off bs u _ w hB hne hu2 (by omega) hT (fun M hM => by
            have h := (tellT_iff _ _ _).1 hM
            exact ⟨h.2, tellD_lt hex h.1⟩)
          rw [readOf_tell] at this
          exact this.mono fun e w' h => rans_of h
        · obtain ⟨e, w', fr, ⟨R, hR, -⟩, -⟩ := (tell_states a cap gb off (bs.take u) w (hB.take u (by omega)).2 htne (by rw [ht0]; exact h1) (by omega)) []
          rw [hR0 R hR] at hR
          exact absurd hR hex
      · obtain ⟨R, hR, h⟩ := h
        rw [hR0 R hR] at h
        exact rans_of h
    · have hue : usedN (bs[0]?.getD 0) = 1 + (bs[0]?.getD 0 - 127 + 1) / 2 := if_neg h1
      obtain ⟨u, hu2⟩ : ∃ u, u = usedN (bs[0]?.getD 0) := ⟨_, rfl⟩
      rw [← hu2] at hs htl ht0 htne hue hu
      obtain ⟨n, hn⟩ : ∃ n, n = bs[0]?.getD 0 - 127 := ⟨_, rfl⟩
      rw [← hn] at hue
      have hfe : (List.range n).map (fourW ((bs.take u).drop 1)) = (List.range n).map (fourW (bs.drop 1)) := by
        refine List.map_congr_left fun k hk => ?_
        have hk' := List.mem_range.1 hk
        have : ((bs.take u).drop 1)[k / 2]? = (bs.drop 1)[k / 2]? := by rw [List.getElem?_drop, List.getElem?_drop, List.getElem?_take, if_pos (by omega)]
        unfold fourW
        rw [this]
      refine ⟨_, _, _, rb_ok _ u bs.length (by omega), fun a cap gb off w hB => ?_, fun a cap gb off w hB => ((readD_fours a cap gb off bs n w hB hne (by omega) (by omega) (by omega)).mono fun e w' h => by rw [← hue] at h; exact rans_of h)⟩
      have hx := hB.lt 0
      have hT := tell_fours a cap gb off (bs.take u) n w (hB.take u (by omega)).2 htne (by rw [ht0]; omega) (by omega) (by omega)
      rw [hfe] at hT
      exact (read_told a cap gb off bs u _ w hB hne hu2 (by omega) hT (fun M hM => by
        cases hM
        refine ⟨by simp; omega, lt256 (fun b hb => ?_)⟩
        obtain ⟨j, -, rfl⟩ := List.mem_map.1 hb
        have := fourW_lt (bs.drop 1) j (lt_drop hB.lt 1)
        omega)).mono fun e w' h => rans_of h

theorem code_ok {V : List Nat} (h : codeB V = true) : V.length ≤ 256 ∧ ∀ j : Nat, V[j]?.getD 0 < 256 := by
  have hI := codeB_is h
  refine ⟨hI.len, fun j => ?_⟩
  by_cases hj : j < V.length
  · have := hI.le j hj
    unfold wt at this
    omega
  · rw [List.getElem?_eq_none (by omega)]; simp
end Go.Proofs.YtcoahkmiebeeeaaDoor

namespace Go.Proofs.YtcoahkmiebeeeaaDoor
open Go.RowKit Go.Shelf
set_option linter.unusedVariables false

/-- Read, whatever Read of weights may tell. -/
theorem readL_some (bs ws : List Nat) (most : Int) : ∃ (c u : Nat) (V : List Nat), (c = 0 → u ≤ (bodyN bs).length ∧ codeB V = true) ∧ RdW (bodyN bs) c u V ∧ ∀ (a : Option Addr) (cap gb off : Nat) (a2 : Option Addr) (cap2 gb2 off2 : Nat) (w : World), Frm w → Bytes w a cap gb off bs → Bytes w a2 cap2 gb2 off2 ws → ws.length ≤ 140737488355327 →
    Calls Tryd.prog 4 #[.slice a bs.length cap, .slice a2 ws.length cap2, .int .i64 most] w fun e w' => LAns (litR c u V bs ws most) w e w' := by
  obtain ⟨c, u, V, h1, h2, -⟩ := read_both2 (bodyN bs)
  exact ⟨c, u, V, h1, h2, fun a cap gb off a2 cap2 gb2 off2 w hF hB hB2 hl => readL_any a cap gb off bs a2 cap2 gb2 off2 ws most c u V w hF hB hB2 hl h2 (fun h => ⟨(h1 h).1, code_ok (h1 h).2⟩)⟩
theorem wk_a (c u : Nat) (V : List Nat) : litR c u V [24, 97, 98, 99] [] 9 = (0, [97, 98, 99], [], 4) := by rfl
theorem wk_b (c u : Nat) (V : List Nat) : litR c u V [41, 97] [] 9 = (0, [97, 97, 97, 97, 97], [], 2) := by rfl
theorem wk_c (c u : Nat) (V : List Nat) : litR c u V [24, 97, 98] [] 9 = (10, [], [], 0) := by rfl
theorem wk_s3 : strOf [97, 98, 99] = ⟨#[97, 98, 99]⟩ := by decide
theorem wk_s5 : strOf [97, 97, 97, 97, 97] = ⟨#[97, 97, 97, 97, 97]⟩ := by decide

theorem wk_one (w : World) (hF : Frm w) (bs : List Nat) (vs : Array Value) (n : Nat) (hn : n = bs.length) (hv : vs = (u8s bs).toArray) (hl : ∀ j : Nat, bs[j]?.getD 0 < 256) (h48 : bs.length < 2 ^ 48) (r : Nat × List Nat × List Nat × Nat) (hr : ∀ c u V, litR c u V bs [] 9 = r) :
    Calls Tryd.prog 4 #[.slice (some ⟨w.heap.size, 0, none⟩) n n, .slice none 0 0, .int .i64 9] (w.alloc (.cells vs 5)) fun e w' => LAns r w e w' := by
  have hk := (Keep.refl noBlock w).alloc (.cells vs 5)
  have hB := bytes_new w bs vs (0, 0) n hn hv hl h48
  obtain ⟨c, u, V, -, -, h⟩ := readL_some bs [] 9
  have := h (some ⟨w.heap.size, 0, none⟩) n w.heap.size 0 none 0 0 0 _ (hF.keep hk) hB (bytes_none _) (by simp)
  rw [hr, ← hn] at this
  refine this.mono fun e w' h => ?_
  exact ⟨hk.trans' h.1, h.2⟩

set_option maxRecDepth 100000 in
set_option maxHeartbeats 2000000 in
theorem wakesL_any (w : World) (hF : Frm w) : Calls Tryd.prog 6 #[] w fun e w' => e = .returned (.bool true) ∧ Keep noBlock w w' := by
  go_enter Tryd.func6, Tryd.ntmps6
  go_wp2_with fail
  refine (wk_one w hF [24, 97, 98, 99] _ 4 rfl rfl (lt256 (by decide)) (by decide) _ (fun c u V => wk_a c u V)).mono ?_
  rintro e w1 ⟨hk1, a1, n1, c1, g1, o1, a2, n2, c2, g2, o2, rfl, hn1, hn2, hB1, hB2⟩
  have hF1 := hF.keep hk1
  have H1 := hid (show Keep noBlock w w1 ∧ Frm w1 ∧ Bytes w1 a1 c1 g1 o1 [97, 98, 99] ∧ n1 = 3 from ⟨hk1, hF1, hB1, hn1⟩)
  clear hk1 hn1 hn2 hB1 hB2 hF1
  go_wp2_with fail
  refine (wk_one w1 H1.out.2.1 [41, 97] _ 2 rfl rfl (lt256 (by decide)) (by decide) _ (fun c u V => wk_b c u V)).mono ?_
  rintro e w2 ⟨hk2, a3, n3, c3, g3, o3, a4, n4, c4, g4, o4, rfl, hn3, hn4, hB3, hB4⟩
  have H2 := hid (show Keep noBlock w w2 ∧ Frm w2 ∧ Bytes w2 a1 c1 g1 o1 [97, 98, 99] ∧ Bytes w2 a3 c3 g3 o3 [97, 97, 97, 97, 97] ∧ n3 = 5 from ⟨H1.out.1.trans' hk2, H1.out.2.1.keep hk2, H1.out.2.2.1.keep hk2 (fun _ h => h), hB3, hn3⟩)
  clear hk2 hn3 hn4 hB3 hB4
  go_wp2_with fail
  refine (wk_one w2 H2.out.2.1 [24, 97, 98] _ 3 rfl rfl (lt256 (by decide)) (by decide) _ (fun c u V => wk_c c u V)).mono ?_
  rintro e w3 ⟨hk3, a5, n5, c5, g5, o5, a6, n6, c6, g6, o6, rfl, hn5, hn6, hB5, hB6⟩
  have hc1 := run_convB ((H2.out.2.2.1.keep hk3 (fun _ h => h)).src)
  have hc2 := run_convB ((H2.out.2.2.2.1.keep hk3 (fun _ h => h)).src)
  rw [wk_s3, show ([97, 98, 99] : List Nat).length = 3 from rfl, ← H1.out.2.2.2] at hc1
  rw [wk_s5, show ([97, 97, 97, 97, 97] : List Nat).length = 5 from rfl, ← H2.out.2.2.2.2] at hc2
  have H3 := hid (H2.out.1.trans' hk3)
  clear hk3 hn5 hn6 hB5 hB6
  go_wp2_with fail
  go_ret
  exact ⟨rfl, H3.out⟩
end Go.Proofs.YtcoahkmiebeeeaaDoor

namespace Go.Proofs.YtcoahkmiebeeeaaDoor
open Go.RowKit Go.Shelf
set_option linter.unusedVariables false

theorem or_low (n x : Nat) (hx : x < 256) (hn : 256 * n + x < 18446744073709551616) : bits .or .u64 ((n : Int) * 256) (x : Int) = ((x + 256 * n : Nat) : Int) := by
  rw [show ((n : Int) * 256) = ((256 * n : Nat) : Int) from by omega, (bits_nat .u64 64 (by decide) wraps_u64 (256 * n) x (by omega) (by omega)).2]
  have h := Nat.two_pow_add_eq_or_of_lt (i := 8) hx n
  rw [show 256 * n = 2 ^ 8 * n from rfl, ← h, Nat.add_comm]
theorem numN_drop {l : List Nat} {k : Nat} (hk : k < l.length) : numN (l.drop k) = l[k]?.getD 0 + 256 * numN (l.drop (k + 1)) := by
  rw [List.drop_eq_getElem_cons hk, List.getElem?_eq_getElem hk]; rfl

set_option maxRecDepth 100000 in
set_option maxHeartbeats 1000000 in
theorem number_any (a : Option Addr) (cap gb off : Nat) (bs : List Nat) (w : World) (hB : Bytes w a cap gb off bs) (hl : bs.length ≤ 5) :
    Calls Tryd.prog 18 #[.slice a bs.length cap] w fun e w' => e = .returned (.int .u64 ((numN bs : Nat) : Int)) ∧ w' = w := by
  have HB := hid hB
  have hlI : (bs.length : Int) ≤ 5 := by omega
  obtain ⟨L, hL⟩ : ∃ L, L = bs.length := ⟨_, rfl⟩
  rw [← hL] at hlI hl ⊢
  have HL := hid hL
  clear hB hL
  go_enter Tryd.func18, Tryd.ntmps18
  go_wp2_with fail
  go_loop [3, 4] (fun v3 v4 => ∃ j N : Nat, v4 = .int .i64 ((j : Int) - 1) ∧ j ≤ L ∧ v3 = .int .u64 (N : Int) ∧ Hid (N = numN (bs.drop j))) (fun _ v4 => (intOf v4 + 1).toNat)
  case atStart => exact ⟨L, 0, rfl, Nat.le_refl _, rfl, by rw [HL.out, List.drop_length]; rfl⟩
  case round =>
    obtain ⟨j, N, rfl, hj, rfl, HN⟩ := hrel
    by_cases h0 : j = 0
    · subst h0
      have HN2 := hid (show N = numN bs from by have := HN.out; rwa [List.drop_zero] at this)
      clear HN
      rw [show (((0 : Nat) : Int) - 1) = -1 from rfl]
      go_wp2_with fail
      go_ret
      exact ⟨by rw [HN2.out]; rfl, rfl⟩
    · obtain ⟨i, rfl⟩ : ∃ i, j = i + 1 := ⟨j - 1, by omega⟩
      rw [show (((i + 1 : Nat) : Int) - 1) = (i : Int) from by omega]
      obtain ⟨x, hx⟩ : ∃ x, x = bs[i]?.getD 0 := ⟨_, rfl⟩
      have hcx := HB.out.cells i (by have := HL.out; omega)
      rw [← hx] at hcx
      have hx256 : x < 256 := by rw [hx]; exact HB.out.lt i
      have hNl : N < 4294967296 := by
        rw [HN.out]
        have h1 := numN_lt (l := bs.drop (i + 1)) (fun b hb => lt_mem HB.out.lt b (List.mem_of_mem_drop hb))
        rw [List.length_drop] at h1
        exact Nat.lt_of_lt_of_le h1 (Nat.le_trans (Nat.pow_le_pow_right (by decide) (show bs.length - (i + 1) ≤ 4 by have := HL.out; omega)) (by decide))
      have hane : a = some ⟨gb, off, none⟩ := HB.out.at_.resolve_right (fun h => by have := HL.out; rw [h] at this; simp at this; omega)
      obtain ⟨N2, hN2⟩ : ∃ N2, N2 = x + 256 * N := ⟨_, rfl⟩
      have hor : bits .or .u64 ((N : Int) * 256) (x : Int) = (N2 : Int) := by rw [hN2]; exact or_low N x hx256 (by omega)
      have hNI : (N : Int) * 256 < 18446744073709551616 := by omega
      have hiL : (i : Int) < (L : Int) := by omega
      have hi0 : (0 : Int) ≤ (i : Int) := by omega
      have hxI : (x : Int) < 256 := by omega
      have HX := hid (show N2 = numN (bs.drop i) from by rw [hN2, HN.out, hx]; exact (numN_drop (by have := HL.out; omega)).symm)
      subst hane
      clear hx hN2 HN hNl hx256
      go_wp2_with fail
      refine ⟨⟨i, N2, rfl, by omega, rfl, HX.out⟩, ?_⟩
      simp only [intOf]
      omega
end Go.Proofs.YtcoahkmiebeeeaaDoor

namespace Go.Proofs.YtcoahkmiebeeeaaDoor
open Go.RowKit Go.Shelf
set_option linter.unusedVariables false

/-- The document's head, as a value. -/
def headD (k size pk used rows : Nat) : Value := .agg #[.int .i64 (k : Int), .int .i64 (size : Int), .int .i64 (pk : Int), .int .i64 (used : Int), .int .i64 (rows : Int)]

theorem agg38 : ∀ w, (isAgg 38).run Tryd.prog w = .ok true w := by intro w; kernel_rfl
theorem loadVarD {w : World} {b : Nat} {cs : Array Value} (h : w.heap[b]? = some (.cells cs 38 (0, 0))) (h5 : cs.size = 5) : (loadVar 38 ⟨b, 0, none⟩).run Tryd.prog w = .ok (.agg cs) w := by
  have := run_loadCells_list (P := Tryd.prog) w ⟨b, 0, none⟩ cs.toList (fun j v hv => by
    rw [add0, cell_of h]
    simpa using hv)
  rw [Array.length_toList, h5] at this
  simp only [loadVar, Sem.run_bind, agg38, Result.andThen]
  simp [this]
theorem resD {tmps : Array Value} {w : World} {b : Nat} {cs : Array Value} {v : Value} (hp : tmps[2]?.getD undef = .pointer (some ⟨b, 0, none⟩)) (hv : tmps[3]?.getD undef = v) (h : w.heap[b]? = some (.cells cs 38 (0, 0))) (h5 : cs.size = 5) :
    (results Tryd.f10 tmps).run Tryd.prog w = .ok (.tuple #[.agg cs, v]) w := by
  simp [results, Tryd.results10, hp, hv, asAddr, loadVarD h h5]
theorem set5 {w : World} {b : Nat} {u0 u1 u2 u3 u4 : Value} (h : w.heap[b]? = some (.cells #[u0, u1, u2, u3, u4] 38 (0, 0))) (v0 v1 v2 v3 v4 : Value) :
    (((((w.setCell ⟨b, 0, none⟩ v0).setCell ⟨b, 1, none⟩ v1).setCell ⟨b, 2, none⟩ v2).setCell ⟨b, 3, none⟩ v3).setCell ⟨b, 4, none⟩ v4).heap[b]? = some (.cells #[v0, v1, v2, v3, v4] 38 (0, 0)) := by
  have h0 := set_obj h 0 v0
  have h1 := set_obj h0 1 v1
  have h2 := set_obj h1 2 v2
  have h3 := set_obj h2 3 v3
  have h4 := set_obj h3 4 v4
  simpa only [List.setIfInBounds_toArray, List.set_cons_zero, List.set_cons_succ] using h4
theorem keep5 {w0 w : World} {b : Nat} (h : Keep noBlock w0 w) (hb : w0.heap.size ≤ b) (v0 v1 v2 v3 v4 : Value) :
    Keep noBlock w0 (((((w.setCell ⟨b, 0, none⟩ v0).setCell ⟨b, 1, none⟩ v1).setCell ⟨b, 2, none⟩ v2).setCell ⟨b, 3, none⟩ v3).setCell ⟨b, 4, none⟩ v4) := by
  have e : b < w0.heap.size → noBlock b := fun h => by omega
  exact ((((h.setCell (p := ⟨b, 0, none⟩) e _).setCell (p := ⟨b, 1, none⟩) e _).setCell (p := ⟨b, 2, none⟩) e _).setCell (p := ⟨b, 3, none⟩) e _).setCell (p := ⟨b, 4, none⟩) e _

section
attribute [local go_sem] sliceSem_eq
set_option maxRecDepth 100000 in
set_option maxHeartbeats 2000000 in
theorem headD_any (a : Option Addr) (cap gb off : Nat) (bs : List Nat) (w : World) (hB : Bytes w a cap gb off bs) (hne : bs ≠ []) :
    Calls Tryd.prog 10 #[.slice a bs.length cap] w fun e w' => Keep noBlock w w' ∧ ((bs.length < hBy bs ∧ e = .returned (.tuple #[headD 0 0 0 0 0, .bool false])) ∨ (hBy bs ≤ bs.length ∧ e = .returned (.tuple #[headD (hKi bs) (hSz bs) (hPk bs) (hBy bs) (hRw bs), .bool true]))) := by
  have hl : 0 < bs.length := List.length_pos_iff.2 hne
  have h0 := hB.cells 0 hl
  obtain ⟨x, hx⟩ : ∃ x, x = bs[0]?.getD 0 := ⟨_, rfl⟩
  have hx256 : x < 256 := by rw [hx]; exact hB.lt 0
  rw [← hx, Nat.add_zero] at h0
  obtain rfl : a = some ⟨gb, off, none⟩ := hB.at_.resolve_right hne
  obtain ⟨k, hk⟩ : ∃ k, k = hKi bs := ⟨_, rfl⟩
  obtain ⟨f, hf⟩ : ∃ f, f = hFo bs := ⟨_, rfl⟩
  have e1 : bits .and .u8 (x : Int) 3 = (k : Int) := by rw [hk]; unfold hKi; rw [← hx]; exact and3_u8 x hx256
  have e2 : bits .and .u8 ((x : Int) / 4) 3 = (f : Int) := by
    rw [show ((x : Int) / 4) = ((x / 4 : Nat) : Int) from by omega, hf]; unfold hFo; rw [← hx]; exact and3_u8 (x / 4) (by omega)
  have hk4 : (k : Int) ≤ 3 := by have := hKi_lt bs; omega
  have hf4 : (f : Int) ≤ 3 := by have := hFo_lt bs; omega
  have wk : IntKind.i64.wrap (k : Int) = (k : Int) := by rw [IntKind.wrap_i64]; omega
  have wf : IntKind.i64.wrap (f : Int) = (f : Int) := by rw [IntKind.wrap_i64]; omega
  obtain ⟨U, hU⟩ : ∃ U, U = hBy bs := ⟨_, rfl⟩
  obtain ⟨n, hn⟩ : ∃ n, n = bs.length := ⟨_, rfl⟩
  have hU5 : 1 ≤ U ∧ U ≤ 5 := by rw [hU]; exact hbN_le _ _
  have HN := hid (show ∀ (_ : U ≤ n), (∀ W, (sliceSem 22 (.slice (some ⟨gb, off, none⟩) n cap) none (some (.int .i64 (U : Int))) none).run Tryd.prog W = .ok (.slice (some ⟨gb, off, none⟩) U cap) W) ∧ (∀ W, Keep noBlock w W → Calls Tryd.prog 18 #[.slice (some ⟨gb, off, none⟩) U cap] W fun e w' => e = .returned (.int .u64 ((hNu bs : Nat) : Int)) ∧ w' = W) ∧ hNu bs < 256 ^ U from fun hle => by
    obtain ⟨hs, hB'⟩ := hB.take U (by omega)
    have hlt : (bs.take U).length = U := by rw [List.length_take]; omega
    rw [hlt, ← hn] at hs
    refine ⟨hs, fun W hW => ?_, ?_⟩
    · have := number_any (some ⟨gb, off, none⟩) cap gb off (bs.take U) W (hB'.keep hW (fun _ h => h)) (by omega)
      rw [hlt] at this
      unfold hNu
      rw [← hU]
      exact this
    · have := numN_lt (l := bs.take U) (fun b hb => lt_mem hB.lt b (List.mem_of_mem_take hb))
      rw [List.length_take, Nat.min_eq_left (by omega)] at this
      unfold hNu
      rw [← hU]
      exact this)
  obtain ⟨N, hN⟩ : ∃ N, N = hNu bs := ⟨_, rfl⟩
  rw [← hN] at HN
  obtain ⟨SZ, hSZ⟩ : ∃ SZ, SZ = hSz bs := ⟨_, rfl⟩
  obtain ⟨PK, hPK⟩ : ∃ PK, PK = hPk bs := ⟨_, rfl⟩
  obtain ⟨RW, hRW⟩ : ∃ RW, RW = hRw bs := ⟨_, rfl⟩
  have HV := hid (show SZ = N / 2 ^ frN k f % 2 ^ btN k f ∧ (PK = if k < 2 then 0 else N / 2 ^ (frN k f + btN k f) % 2 ^ btN k f) ∧ RW = rwN k f ∧ U = hbN k f from ⟨by rw [hSZ, hN, hk, hf]; rfl, by rw [hPK, hN, hk, hf]; rfl, by rw [hRW, hk, hf]; rfl, by rw [hU, hk, hf]; rfl⟩)
  rw [← hU, ← hk, ← hn, ← hSZ, ← hPK, ← hRW]
  have hl48 : n < 2 ^ 48 := by rw [hn]; exact hB.len
  have hl0 : 0 < n := by rw [hn]; exact hl
  clear hSZ hPK hRW hB hne hl hU hx hk hf hn hN hx256
  go_enter Tryd.func10, Tryd.ntmps10
  go_wp2_with fail
  have z0 := keep_cell0 ((Keep.refl noBlock w).alloc (.cells #[.int .i64 0, .int .i64 0, .int .i64 0, .int .i64 0, .int .i64 0] 38)) h0
  go_region_held3 (fun W => W.cell? ⟨gb, off, none⟩ = some (.int .u8 (x : Int))) (go_keep) ((fail))
  have HK := hid (((Keep.refl noBlock w).alloc (.cells #[.int .i64 0, .int .i64 0, .int .i64 0, .int .i64 0, .int .i64 0] 38)).drew)
  have o1 : (w.alloc (.cells #[.int .i64 0, .int .i64 0, .int .i64 0, .int .i64 0, .int .i64 0] 38)).drew.heap[w.heap.size]? = some (.cells #[.int .i64 0, .int .i64 0, .int .i64 0, .int .i64 0, .int .i64 0] 38 (0, 0)) := World.alloc_heap_new w _
  obtain ⟨xb, hxb⟩ : ∃ xb, xb = w.heap.size := ⟨_, rfl⟩
  rename_i hHeld
  clear hHeld h0 z0 wk wf e1 e2
  rw [← hxb] at o1 ⊢
  generalize (w.alloc (.cells #[.int .i64 0, .int .i64 0, .int .i64 0, .int .i64 0, .int .i64 0] 38)).drew = W at HK o1 ⊢
  have HXB := hid (show w.heap.size ≤ xb from by omega)
  clear hxb
  have c0 : W.cell? ⟨xb, 0, none⟩ = some (.int .i64 0) := cell_of o1 0
  have y0 := frozen_of o1 0
  have c1 : W.cell? ⟨xb, 1, none⟩ = some (.int .i64 0) := cell_of o1 1
  have y1 := frozen_of o1 1
  have c2 : W.cell? ⟨xb, 2, none⟩ = some (.int .i64 0) := cell_of o1 2
  have y2 := frozen_of o1 2
  have c3 : W.cell? ⟨xb, 3, none⟩ = some (.int .i64 0) := cell_of o1 3
  have y3 := frozen_of o1 3
  have c4 : W.cell? ⟨xb, 4, none⟩ = some (.int .i64 0) := cell_of o1 4
  have y4 := frozen_of o1 4
  by_cases hk2 : k < 2
  · have hk2I : (k : Int) < 2 := by omega
    obtain ⟨v1, v2, v3, v4⟩ := HV.out
    have hPK0 : PK = 0 := by rw [v2, if_pos hk2]
    have hRW0 : RW = 0 := by rw [v3]; unfold rwN; rw [if_pos hk2]
    subst hPK0
    subst hRW0
    clear v2 v3
    by_cases f1 : f = 1
    · have hpw : 256 ^ 2 = 65536 := by decide
      have q1 : ((f : Int) == 1) = true := by simp; omega
      have q3 : ((f : Int) == 3) = false := by rw [beq_eq_false_iff_ne]; omega
      have eU : U = 2 := by rw [v4]; unfold hbN; rw [if_pos hk2]; rw [if_pos f1]
      have efr : frN k f = 4 := by unfold frN; rw [if_neg (by omega)]
      have ebt : btN k f = 12 := by unfold btN; rw [if_pos hk2]; rw [if_pos f1]
      rw [efr, ebt] at v1
      subst eU
      by_cases hs : n < 2
      · have hsI : (n : Int) < 2 := by omega
        clear HN v1 v4 efr ebt HV hU5
        go_wp2_with fail
        refine bodyPost_ret (resD rfl rfl (set5 o1 _ _ _ _ _) rfl) rfl ⟨keep5 HK.out HXB.out _ _ _ _ _, by first | exact rfl | exact .inl rfl | exact .inl ⟨hs, rfl⟩⟩
      · have hsI : ¬ (n : Int) < 2 := by omega
        obtain ⟨hsl, hnum, hNb⟩ := HN.out (by omega)
        rw [show ((2 : Nat) : Int) = (2 : Int) from rfl] at hsl
        have eS : (N : Int) / 16 = (SZ : Int) := by rw [v1]; omega
        have hSb : (SZ : Int) < 1048576 := by rw [v1]; omega
        have hNI : (N : Int) < 1099511627776 := by omega
        have HC := hid (hnum W HK.out)
        have hsI2 : (2 : Int) ≤ (n : Int) := by omega
        clear hnum HN hNb v1 v4 efr ebt HV hU5
        go_wp2_with (go_at_call 18; refine HC.out.mono ?_; rintro e w1 ⟨rfl, hw1⟩; subst hw1)
        refine bodyPost_ret (resD rfl rfl (set5 o1 _ _ _ _ _) rfl) rfl ⟨keep5 HK.out HXB.out _ _ _ _ _, by first | exact rfl | exact .inr ⟨by omega, rfl⟩⟩
    · by_cases f3 : f = 3
      · have hpw : 256 ^ 3 = 16777216 := by decide
        have q1 : ((f : Int) == 1) = false := by rw [beq_eq_false_iff_ne]; omega
        have q3 : ((f : Int) == 3) = true := by simp; omega
        have eU : U = 3 := by rw [v4]; unfold hbN; rw [if_pos hk2]; rw [if_neg f1, if_pos f3]
        have efr : frN k f = 4 := by unfold frN; rw [if_neg (by omega)]
        have ebt : btN k f = 20 := by unfold btN; rw [if_pos hk2]; rw [if_neg f1, if_pos f3]
        rw [efr, ebt] at v1
        subst eU
        by_cases hs : n < 3
        · have hsI : (n : Int) < 3 := by omega
          clear HN v1 v4 efr ebt HV hU5
          go_wp2_with fail
          refine bodyPost_ret (resD rfl rfl (set5 o1 _ _ _ _ _) rfl) rfl ⟨keep5 HK.out HXB.out _ _ _ _ _, by first | exact rfl | exact .inl rfl | exact .inl ⟨hs, rfl⟩⟩
        · have hsI : ¬ (n : Int) < 3 := by omega
          obtain ⟨hsl, hnum, hNb⟩ := HN.out (by omega)
          rw [show ((3 : Nat) : Int) = (3 : Int) from rfl] at hsl
          have eS : (N : Int) / 16 = (SZ : Int) := by rw [v1]; omega
          have hSb : (SZ : Int) < 1048576 := by rw [v1]; omega
          have hNI : (N : Int) < 1099511627776 := by omega
          have HC := hid (hnum W HK.out)
          have hsI2 : (3 : Int) ≤ (n : Int) := by omega
          clear hnum HN hNb v1 v4 efr ebt HV hU5
          go_wp2_with (go_at_call 18; refine HC.out.mono ?_; rintro e w1 ⟨rfl, hw1⟩; subst hw1)
          refine bodyPost_ret (resD rfl rfl (set5 o1 _ _ _ _ _) rfl) rfl ⟨keep5 HK.out HXB.out _ _ _ _ _, by first | exact rfl | exact .inr ⟨by omega, rfl⟩⟩
      · have hpw : 256 ^ 1 = 256 := by decide
        have q1 : ((f : Int) == 1) = false := by rw [beq_eq_false_iff_ne]; omega
        have q3 : ((f : Int) == 3) = false := by rw [beq_eq_false_iff_ne]; omega
        have eU : U = 1 := by rw [v4]; unfold hbN; rw [if_pos hk2]; rw [if_neg f1, if_neg f3]
        have efr : frN k f = 3 := by unfold frN; rw [if_pos (by omega)]
        have ebt : btN k f = 5 := by unfold btN; rw [if_pos hk2]; rw [if_neg f1, if_neg f3]
        rw [efr, ebt] at v1
        subst eU
        by_cases hs : n < 1
        · exact absurd hs (by omega)
        · have hsI : ¬ (n : Int) < 1 := by omega
          obtain ⟨hsl, hnum, hNb⟩ := HN.out (by omega)
          rw [show ((1 : Nat) : Int) = (1 : Int) from rfl] at hsl
          have eS : (N : Int) / 8 = (SZ : Int) := by rw [v1]; omega
          have hSb : (SZ : Int) < 1048576 := by rw [v1]; omega
          have hNI : (N : Int) < 1099511627776 := by omega
          have HC := hid (hnum W HK.out)
          have hsI2 : (1 : Int) ≤ (n : Int) := by omega
          clear hnum HN hNb v1 v4 efr ebt HV hU5
          go_wp2_with (go_at_call 18; refine HC.out.mono ?_; rintro e w1 ⟨rfl, hw1⟩; subst hw1)
          refine bodyPost_ret (resD rfl rfl (set5 o1 _ _ _ _ _) rfl) rfl ⟨keep5 HK.out HXB.out _ _ _ _ _, by first | exact rfl | exact .inr ⟨by omega, rfl⟩⟩
  · have hk2I : ¬ (k : Int) < 2 := by omega
    obtain ⟨v1, v2, v3, v4⟩ := HV.out
    rw [if_neg hk2] at v2
    have efr : frN k f = 4 := by unfold frN; rw [if_neg (by omega)]
    by_cases f0 : f = 0
    · have hpw : 256 ^ 3 = 16777216 := by decide
      have q2 : ((f : Int) == 2) = false := by rw [beq_eq_false_iff_ne]; omega
      have q3 : ((f : Int) == 3) = false := by rw [beq_eq_false_iff_ne]; omega
      have q1 : ¬ (1 : Int) ≤ (f : Int) := by omega
      have eU : U = 3 := by rw [v4]; unfold hbN; rw [if_neg hk2]; rw [if_neg (by omega), if_neg (by omega)]
      have ebt : btN k f = 10 := by unfold btN; rw [if_neg hk2]; rw [if_neg (by omega), if_neg (by omega)]
      have erw : RW = 1 := by rw [v3]; unfold rwN; rw [if_neg hk2]; rw [if_pos f0]
      rw [efr, ebt] at v1 v2
      subst eU
      subst erw
      by_cases hs : n < 3
      · have hsI : (n : Int) < 3 := by omega
        clear HN v1 v2 v4 efr ebt HV hU5 v3
        go_wp2_with fail
        refine bodyPost_ret (resD rfl rfl (set5 o1 _ _ _ _ _) rfl) rfl ⟨keep5 HK.out HXB.out _ _ _ _ _, by first | exact rfl | exact .inl rfl | exact .inl ⟨hs, rfl⟩⟩
      · have hsI : ¬ (n : Int) < 3 := by omega
        obtain ⟨hsl, hnum, hNb⟩ := HN.out (by omega)
        rw [show ((3 : Nat) : Int) = (3 : Int) from rfl] at hsl
        have eS : bits .and .u64 ((N : Int) / 16) 1023 = (SZ : Int) := by
          rw [v1, show ((N : Int) / 16) = ((N / 2 ^ 4 : Nat) : Int) from by omega]
          exact and_mask64 (N / 2 ^ 4) 10 (by omega) (by omega)
        have eP : (N : Int) / 16384 = (PK : Int) := by rw [v2]; omega
        have hSb : (SZ : Int) < 1048576 := by rw [v1]; omega
        have hPb : (PK : Int) < 1048576 := by rw [v2]; omega
        have hNI : (N : Int) < 1099511627776 := by omega
        have HC := hid (hnum W HK.out)
        have hsI2 : (3 : Int) ≤ (n : Int) := by omega
        clear hnum HN hNb v1 v2 v3 v4 efr ebt HV hU5
        go_wp2_with (go_at_call 18; refine HC.out.mono ?_; rintro e w1 ⟨rfl, hw1⟩; subst hw1)
        refine bodyPost_ret (resD rfl rfl (set5 o1 _ _ _ _ _) rfl) rfl ⟨keep5 HK.out HXB.out _ _ _ _ _, by first | exact rfl | exact .inr ⟨by omega, rfl⟩⟩
    · by_cases f2 : f = 2
      · have hpw : 256 ^ 4 = 4294967296 := by decide
        have q2 : ((f : Int) == 2) = true := by simp; omega
        have q3 : ((f : Int) == 3) = false := by rw [beq_eq_false_iff_ne]; omega
        have q1 : (1 : Int) ≤ (f : Int) := by omega
        have eU : U = 4 := by rw [v4]; unfold hbN; rw [if_neg hk2]; rw [if_pos f2]
        have ebt : btN k f = 14 := by unfold btN; rw [if_neg hk2]; rw [if_pos f2]
        have erw : RW = 4 := by rw [v3]; unfold rwN; rw [if_neg hk2]; rw [if_neg f0]
        rw [efr, ebt] at v1 v2
        subst eU
        subst erw
        by_cases hs : n < 4
        · have hsI : (n : Int) < 4 := by omega
          clear HN v1 v2 v4 efr ebt HV hU5 v3
          go_wp2_with fail
          refine bodyPost_ret (resD rfl rfl (set5 o1 _ _ _ _ _) rfl) rfl ⟨keep5 HK.out HXB.out _ _ _ _ _, by first | exact rfl | exact .inl rfl | exact .inl ⟨hs, rfl⟩⟩
        · have hsI : ¬ (n : Int) < 4 := by omega
          obtain ⟨hsl, hnum, hNb⟩ := HN.out (by omega)
          rw [show ((4 : Nat) : Int) = (4 : Int) from rfl] at hsl
          have eS : bits .and .u64 ((N : Int) / 16) 16383 = (SZ : Int) := by
            rw [v1, show ((N : Int) / 16) = ((N / 2 ^ 4 : Nat) : Int) from by omega]
            exact and_mask64 (N / 2 ^ 4) 14 (by omega) (by omega)
          have eP : (N : Int) / 262144 = (PK : Int) := by rw [v2]; omega
          have hSb : (SZ : Int) < 1048576 := by rw [v1]; omega
          have hPb : (PK : Int) < 1048576 := by rw [v2]; omega
          have hNI : (N : Int) < 1099511627776 := by omega
          have HC := hid (hnum W HK.out)
          have hsI2 : (4 : Int) ≤ (n : Int) := by omega
          clear hnum HN hNb v1 v2 v3 v4 efr ebt HV hU5
          go_wp2_with (go_at_call 18; refine HC.out.mono ?_; rintro e w1 ⟨rfl, hw1⟩; subst hw1)
          refine bodyPost_ret (resD rfl rfl (set5 o1 _ _ _ _ _) rfl) rfl ⟨keep5 HK.out HXB.out _ _ _ _ _, by first | exact rfl | exact .inr ⟨by omega, rfl⟩⟩
      · by_cases f3 : f = 3
        · have hpw : 256 ^ 5 = 1099511627776 := by decide
          have q2 : ((f : Int) == 2) = false := by rw [beq_eq_false_iff_ne]; omega
          have q3 : ((f : Int) == 3) = true := by simp; omega
          have q1 : (1 : Int) ≤ (f : Int) := by omega
          have eU : U = 5 := by rw [v4]; unfold hbN; rw [if_neg hk2]; rw [if_neg f2, if_pos f3]
          have ebt : btN k f = 18 := by unfold btN; rw [if_neg hk2]; rw [if_neg f2, if_pos f3]
          have erw : RW = 4 := by rw [v3]; unfold rwN; rw [if_neg hk2]; rw [if_neg f0]
          rw [efr, ebt] at v1 v2
          subst eU
          subst erw
          by_cases hs : n < 5
          · have hsI : (n : Int) < 5 := by omega
            clear HN v1 v2 v4 efr ebt HV hU5 v3
            go_wp2_with fail
            refine bodyPost_ret (resD rfl rfl (set5 o1 _ _ _ _ _) rfl) rfl ⟨keep5 HK.out HXB.out _ _ _ _ _, by first | exact rfl | exact .inl rfl | exact .inl ⟨hs, rfl⟩⟩
          · have hsI : ¬ (n : Int) < 5 := by omega
            obtain ⟨hsl, hnum, hNb⟩ := HN.out (by omega)
            rw [show ((5 : Nat) : Int) = (5 : Int) from rfl] at hsl
            have eS : bits .and .u64 ((N : Int) / 16) 262143 = (SZ : Int) := by
              rw [v1, show ((N : Int) / 16) = ((N / 2 ^ 4 : Nat) : Int) from by omega]
              exact and_mask64 (N / 2 ^ 4) 18 (by omega) (by omega)
            have eP : (N : Int) / 4194304 = (PK : Int) := by rw [v2]; omega
            have hSb : (SZ : Int) < 1048576 := by rw [v1]; omega
            have hPb : (PK : Int) < 1048576 := by rw [v2]; omega
            have hNI : (N : Int) < 1099511627776 := by omega
            have HC := hid (hnum W HK.out)
            have hsI2 : (5 : Int) ≤ (n : Int) := by omega
            clear hnum HN hNb v1 v2 v3 v4 efr ebt HV hU5
            go_wp2_with (go_at_call 18; refine HC.out.mono ?_; rintro e w1 ⟨rfl, hw1⟩; subst hw1)
            refine bodyPost_ret (resD rfl rfl (set5 o1 _ _ _ _ _) rfl) rfl ⟨keep5 HK.out HXB.out _ _ _ _ _, by first | exact rfl | exact .inr ⟨by omega, rfl⟩⟩
        · have hpw : 256 ^ 3 = 16777216 := by decide
          have q2 : ((f : Int) == 2) = false := by rw [beq_eq_false_iff_ne]; omega
          have q3 : ((f : Int) == 3) = false := by rw [beq_eq_false_iff_ne]; omega
          have q1 : (1 : Int) ≤ (f : Int) := by omega
          have eU : U = 3 := by rw [v4]; unfold hbN; rw [if_neg hk2]; rw [if_neg f2, if_neg f3]
          have ebt : btN k f = 10 := by unfold btN; rw [if_neg hk2]; rw [if_neg f2, if_neg f3]
          have erw : RW = 4 := by rw [v3]; unfold rwN; rw [if_neg hk2]; rw [if_neg f0]
          rw [efr, ebt] at v1 v2
          subst eU
          subst erw
          by_cases hs : n < 3
          · have hsI : (n : Int) < 3 := by omega
            clear HN v1 v2 v4 efr ebt HV hU5 v3
            go_wp2_with fail
            refine bodyPost_ret (resD rfl rfl (set5 o1 _ _ _ _ _) rfl) rfl ⟨keep5 HK.out HXB.out _ _ _ _ _, by first | exact rfl | exact .inl rfl | exact .inl ⟨hs, rfl⟩⟩
          · have hsI : ¬ (n : Int) < 3 := by omega
            obtain ⟨hsl, hnum, hNb⟩ := HN.out (by omega)
            rw [show ((3 : Nat) : Int) = (3 : Int) from rfl] at hsl
            have eS : bits .and .u64 ((N : Int) / 16) 1023 = (SZ : Int) := by
              rw [v1, show ((N : Int) / 16) = ((N / 2 ^ 4 : Nat) : Int) from by omega]
              exact and_mask64 (N / 2 ^ 4) 10 (by omega) (by omega)
            have eP : (N : Int) / 16384 = (PK : Int) := by rw [v2]; omega
            have hSb : (SZ : Int) < 1048576 := by rw [v1]; omega
            have hPb : (PK : Int) < 1048576 := by rw [v2]; omega
            have hNI : (N : Int) < 1099511627776 := by omega
            have HC := hid (hnum W HK.out)
            have hsI2 : (3 : Int) ≤ (n : Int) := by omega
            clear hnum HN hNb v1 v2 v3 v4 efr ebt HV hU5
            go_wp2_with (go_at_call 18; refine HC.out.mono ?_; rintro e w1 ⟨rfl, hw1⟩; subst hw1)
            refine bodyPost_ret (resD rfl rfl (set5 o1 _ _ _ _ _) rfl) rfl ⟨keep5 HK.out HXB.out _ _ _ _ _, by first | exact rfl | exact .inr ⟨by omega, rfl⟩⟩
end
end Go.Proofs.YtcoahkmiebeeeaaDoor

namespace Go.Proofs.YtcoahkmiebeeeaaDoor.Tl
open Go.RowKit Go.Shelf
set_option linter.unusedVariables false

/-- Bits as numbers. -/
def vals (L : List (Fin 2)) : List Nat := L.map Fin.val
theorem vals_length (L : List (Fin 2)) : (vals L).length = L.length := by simp [vals]
theorem vals_at (L : List (Fin 2)) (k : Nat) : (vals L)[k]?.getD 0 = bitL L k := by
  unfold vals bitL
  rw [List.getElem?_map]
  cases L[k]? <;> rfl


theorem low_succ (x k : Nat) : low x (k + 1) = low x k ++ [⟨bitOf x k, bitOf_lt x k⟩] := upto_succ _ _




theorem byteOf_take_succ (L : List (Fin 2)) (i : Nat) (hi : i < L.length) : L.take (i + 1) = L.take i ++ [L[i]] := by
  rw [List.take_succ_eq_append_getElem hi]
theorem bitL_lt' (L : List (Fin 2)) (i : Nat) (hi : i < L.length) : bitL L i = L[i].val := by
  unfold bitL; rw [List.getElem?_eq_getElem hi]; rfl
/-- The bytes when the first i bits have been laid. -/
def packTo (L : List (Fin 2)) (i : Nat) : List Nat := (List.range ((L.length + 7) / 8)).map (byteOf (L.take i))
theorem packTo_length (L : List (Fin 2)) (i : Nat) : (packTo L i).length = (L.length + 7) / 8 := by simp [packTo]
theorem packTo_zero (L : List (Fin 2)) : packTo L 0 = List.replicate ((L.length + 7) / 8) 0 := by
  unfold packTo
  apply List.ext_getElem
  · simp
  · intro j h1 h2
    simp only [List.getElem_map, List.getElem_range, List.getElem_replicate, List.take_zero]
    exact byteOf_far [] j (by simp)
theorem packTo_all (L : List (Fin 2)) : packTo L L.length = pack L := by
  unfold packTo pack; rw [List.take_of_length_le (Nat.le_refl _)]
theorem packTo_at (L : List (Fin 2)) (i j : Nat) (h : j < (L.length + 7) / 8) : (packTo L i)[j]?.getD 0 = byteOf (L.take i) j := by
  unfold packTo
  rw [List.getElem?_map, List.getElem?_range h]
  rfl
theorem packTo_succ (L : List (Fin 2)) (i : Nat) (hi : i < L.length) : packTo L (i + 1) = (packTo L i).set (i / 8) (byteOf (L.take i) (i / 8) ||| bitL L i * 2 ^ (i % 8)) := by
  have hlen : (L.take i).length = i := by rw [List.length_take]; omega
  have hs := byteOf_take_succ L i hi
  apply List.ext_getElem
  · rw [List.length_set, packTo_length, packTo_length]
  · intro j h1 h2
    rw [List.getElem_set]
    simp only [packTo, List.getElem_map, List.getElem_range]
    have hl := byteOf_last (L.take i) L[i]
    rw [hlen] at hl
    by_cases hj : i / 8 = j
    · rw [if_pos hj, ← hj, hs, hl, bitL_lt' L i hi]
    · rw [if_neg hj, hs]
      by_cases hlt : j < i / 8
      · exact byteOf_old _ _ _ (by rw [hlen]; exact hlt)
      · rw [byteOf_far (L.take i) j (by rw [hlen]; omega), byteOf_far (L.take i ++ [L[i]]) j (by rw [List.length_append, hlen]; simp; omega)]


end Go.Proofs.YtcoahkmiebeeeaaDoor.Tl
