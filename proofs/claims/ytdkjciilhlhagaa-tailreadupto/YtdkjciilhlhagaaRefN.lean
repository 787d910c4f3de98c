/-
  The document's own New.
-/
import Derived.Test.YtdkjciilhlhagaaRefR
namespace Go.Proofs.Ytdkjciilhlhagaa
open Go.RowKit Go.Shelf
set_option linter.unusedVariables false

set_option maxHeartbeats 400000 in
theorem newQ_none (sa : Option Addr) (cap : Nat) (w : World) : Calls Try.prog 8 #[.slice sa 0 cap] w fun e w' => e = .returned (.tuple #[.pointer none, .int .i64 11]) ∧ w' = w := by
  go_enter Try.func8, Try.ntmps8
  go_wp2
  go_ret2
  exact ⟨rfl, rfl⟩

set_option maxHeartbeats 400000 in
theorem newQ_zero (gb off cap k : Nat) (w : World) (hk : k < 140737488355328) (hc : w.cell? ⟨gb, off + k, none⟩ = some (.int .u8 0)) : Calls Try.prog 8 #[.slice (some ⟨gb, off, none⟩) (k + 1) cap] w fun e w' => e = .returned (.tuple #[.pointer none, .int .i64 11]) ∧ w' = w := by
  have h0 : ((k : Int) + 1 == 0) = false := by simp; omega
  go_enter Try.func8, Try.ntmps8
  go_wp2
  go_ret2
  exact ⟨rfl, rfl⟩

/-- The document's reader while its bits are laid: xs so far, in row v. -/
structure IsN (w W : World) (qb : Nat) (v : Value) (xs : List Nat) : Prop where
  obj : W.heap[qb]? = some (.cells #[v, .int .i64 0] 36 (0, 0))
  row : W.ownsRow 0 5 1 v xs.length (u8s xs)
  ub : ∀ k, v.ownBlock = some k → w.heap.size ≤ k
  keep : Keep noBlock w W
theorem isN_snoc {w W w1 : World} {qb g cap : Nat} {v : Value} {xs : List Nat} {d : Nat} {o : Obj} (h : IsN w W qb v xs) (hqb : w.heap.size ≤ qb)
    (hown : w1.ownsRow 0 5 1 (.slice (some ⟨g, 0, none⟩) (xs.length + 1) cap) (xs.length + 1) (u8s xs ++ [.int .u8 (d : Int)])) (hgrow : (W.alloc o).drew.grownBy w1 v.ownBlock) (hat : v.ownBlock = some g ∨ g = W.heap.size + 1) :
    IsN w (w1.setCell ⟨qb, 0, none⟩ (.slice (some ⟨g, 0, none⟩) (xs.length + 1) cap)) qb (.slice (some ⟨g, 0, none⟩) (xs.length + 1) cap) (xs ++ [d]) := by
  have hvb := owns_ne h.row h.obj (by decide)
  have hlt := obj_lt h.obj
  have hob1 : w1.heap[qb]? = _ := (hgrow.block qb (by simp; omega) (Ne.symm hvb)).trans (alloc_far h.obj _)
  have hs := h.keep.size
  have hne : g ≠ qb := by
    rintro rfl
    rcases hat with e | e
    · exact hvb e
    · omega
  refine ⟨(set_obj hob1 0 _).trans (by simp), ?_, fun k e => ?_, ?_⟩
  · have h2 := owns_far hown hne 0 (.slice (some ⟨g, 0, none⟩) (xs.length + 1) cap)
    simpa [u8s] using h2
  · obtain rfl : g = k := by simpa [Value.ownBlock] using e
    rcases hat with e1 | e1
    · exact h.ub g e1
    · omega
  · exact (((h.keep.alloc _).drew).grown hgrow (fun k e hk => by have := h.ub k e; omega)).setCell (p := ⟨qb, 0, none⟩) (fun hl => by dsimp only at hl; omega) _

/-- The document's reader when all its bits are laid, and its row is cut to n of them. -/
structure IsT (w W : World) (qb g : Nat) (bs : List Nat) (K cap n : Nat) : Prop where
  obj : W.heap[qb]? = some (.cells #[.slice (some ⟨g, 0, none⟩) n cap, .int .i64 0] 36 (0, 0))
  cells : ∀ j, j < K → W.cell? ⟨g, j, none⟩ = some (.int .u8 ((bitAt bs j : Nat) : Int))
  lt : g < W.heap.size
  ne : g ≠ qb
  new : w.heap.size ≤ g
  room : K ≤ cap
  keep : Keep noBlock w W
theorem IsT.drewN {w W : World} {qb g : Nat} {bs : List Nat} {K cap n : Nat} (h : IsT w W qb g bs K cap n) (i : Nat) : IsT w (W.drewN i) qb g bs K cap n := ⟨h.obj, h.cells, h.lt, h.ne, h.new, h.room, h.keep.trans' (keep_drewN _ _)⟩
theorem IsT.drew {w W : World} {qb g : Nat} {bs : List Nat} {K cap n : Nat} (h : IsT w W qb g bs K cap n) : IsT w W.drew qb g bs K cap n := ⟨h.obj, h.cells, h.lt, h.ne, h.new, h.room, h.keep.drew⟩
theorem isT_cut {w W : World} {qb g : Nat} {bs : List Nat} {K cap n : Nat} (h : IsT w W qb g bs K cap n) (hqb : w.heap.size ≤ qb) (m : Nat) : IsT w (W.setCell ⟨qb, 0, none⟩ (.slice (some ⟨g, 0, none⟩) m cap)) qb g bs K cap m :=
  ⟨(set_obj h.obj 0 _).trans (by simp), fun j hj => (World.cell?_of_block (Below.heap_setCell _ _ _ _ h.ne)).trans (h.cells j hj), by simpa [World.setCell] using h.lt, h.ne, h.new, h.room, h.keep.setCell (p := ⟨qb, 0, none⟩) (fun hl => by dsimp only at hl; omega) _⟩

/-- The length of the row that the document's reader holds. -/
def heldQ (W : World) (qb : Nat) : Nat := match W.cell? ⟨qb, 0, none⟩ with | some (.slice _ n _) => n | _ => 0
theorem heldQ_of {w W : World} {qb g : Nat} {bs : List Nat} {K cap n : Nat} (h : IsT w W qb g bs K cap n) : heldQ W qb = n := by
  unfold heldQ
  rw [cell_of h.obj 0]
  rfl

set_option maxRecDepth 100000 in
set_option maxHeartbeats 2000000 in
theorem newQ_mark (gb off cap k c : Nat) (bs : List Nat) (hlen : bs.length = k + 1) (hk : k < 1099511627776) (hbs : ∀ j : Nat, bs[j]?.getD 0 < 256) (w : World) (hck : bs[k]?.getD 0 = c) (hc0 : c ≠ 0)
    (hcs : ∀ j, j < bs.length → w.cell? ⟨gb, off + j, none⟩ = some (.int .u8 ((bs[j]?.getD 0 : Nat) : Int))) :
    Calls Try.prog 8 #[.slice (some ⟨gb, off, none⟩) (k + 1) cap] w fun e w' => ∃ qb g, e = .returned (.tuple #[.pointer (some ⟨qb, 0, none⟩), .int .i64 0]) ∧ w.heap.size ≤ qb ∧ w.heap.size ≤ g ∧ IsQ w' qb g bs (tailLen bs) ((tailLen bs : Nat) : Int) ∧ Keep noBlock w w' := by
  obtain ⟨i0, hi, hz0, hz1, hz2⟩ := info_parts info5
  have hc : w.cell? ⟨gb, off + k, none⟩ = some (.int .u8 (c : Int)) := by rw [hcs k (by omega), hck]
  have h0 : ((k : Int) + 1 == 0) = false := by simp; omega
  have hce : ((c : Int) == 0) = false := by simp; omega
  have hgb : gb < w.heap.size := World.block_lt_of_cell? w ⟨gb, off + k, none⟩ hc
  have hlast : bs[bs.length - 1]?.getD 0 ≠ 0 := by rw [show bs.length - 1 = k from by omega, hck]; exact hc0
  have HT1 := (show Hid _ from mark_one bs hbs hlast)
  have HT2 := (show Hid _ from mark_above bs hlast)
  have HT3 := (show Hid _ from tailLen_lt bs hbs hlast)
  have HL := (show Hid _ from hlen)
  have HC := (show Hid _ from hcs)
  have HX := (show Hid _ from hbs)
  have hN0 : IsN w (w.alloc (.cells #[.slice none 0 0, .int .i64 0] 36)) w.heap.size (.slice none 0 0) (bitsTo bs 0) :=
    ⟨World.alloc_heap_new w _, World.ownsRow_nil _ _ _ _, fun k e => (by cases e), (Keep.refl _ w).alloc _⟩
  have hmx : Try.prog.follows .mixedOrders = true := by kernel_rfl
  clear hcs hbs hlen hlast hck hc0
  generalize tailLen bs = T at HT1 HT2 HT3 ⊢
  go_enter Try.func8, Try.ntmps8
  go_wp2
  go_loopw [5] (fun i wr => ∃ (n : Nat) (v : Value), n ≤ 8 * (k + 1) ∧ i = .int .i64 n ∧ IsN w wr w.heap.size v (bitsTo bs n)) (fun i _ => 8 * (k + 1) - (intOf i).toNat)
  case atStart => exact ⟨0, _, Nat.zero_le _, rfl, hN0⟩
  case round =>
    clear hN0
    obtain ⟨n, v, hn, rfl, hN⟩ := hrel
    by_cases hlt : n < 8 * (k + 1)
    · have hidx : n / 8 < bs.length := by have := HL.out; omega
      have hcg : wr.cell? ⟨gb, off + n / 8, none⟩ = some (.int .u8 ((bs[n / 8]?.getD 0 : Nat) : Int)) := (World.cell?_of_block (hN.keep.block gb hgb (fun h => h))).trans (HC.out _ hidx)
      have hc256 := HX.out (n / 8)
      have hba : bitAt bs n = bitOf (bs[n / 8]?.getD 0) (n % 8) := rfl
      have hbl := bitAt_lt bs n
      have hbs1 := bitsTo_succ bs n
      have hbn := bitsTo_length bs n
      rw [hba] at hbs1 hbl
      have HBS := (show Hid _ from hbs1)
      have HBN := (show Hid _ from hbn)
      clear hba hbs1 hbn
      generalize bs[n / 8]?.getD 0 = y at hcg hc256 HBS hbl
      have hq8 : n % 8 < 8 := by omega
      have hI : (n : Int).tmod 8 = ((n % 8 : Nat) : Int) := by rw [Int.tmod_eq_emod_of_nonneg (by omega)]; omega
      have hD : (n : Int).tdiv 8 = ((n / 8 : Nat) : Int) := by rw [Int.tdiv_eq_ediv_of_nonneg (by omega)]; omega
      have hI' : (n : Int) % 8 = ((n % 8 : Nat) : Int) := by omega
      have hD' : (n : Int) / 8 = ((n / 8 : Nat) : Int) := by omega
      have hd1 : n / 8 < k + 1 := by omega
      generalize n % 8 = q at hq8 hI hI' HBS hbl
      generalize n / 8 = d at hcg hD hD' hidx hd1
      have hb1 := and_bit_u8 y q hc256
      have hwd : IntKind.i64.wrap (d : Int) = (d : Int) := by rw [IntKind.wrap_i64]; omega
      have hwq : IntKind.u64.wrap (q : Int) = (q : Int) := by rw [IntKind.wrap_u64]; omega
      have hdI : (d : Int) < (k : Int) + 1 := by omega
      generalize bitOf y q = bt at hb1 HBS hbl
      have hll : (bitsTo bs n).length < 140737488355327 := by have := HBN.out; omega
      generalize bitsTo bs n = xs at hN HBS HBN hll
      have hcq : wr.cell? ⟨w.heap.size, 0, none⟩ = some v := cell_of hN.obj 0
      have hob := hN.obj
      have hrow := hN.row
      have hvb := owns_ne hrow hob (by decide)
      have hwb := obj_lt hob
      have hmax : xs.length + 1 ≤ maxLen := by unfold maxLen; omega
      obtain ⟨sa, cap0, rfl⟩ := owns_form hrow
      go_wp2
      go_region_law (refine step_append_lies _ rfl (.tmp 31) (.tmp 42) 22 rfl 0 5 i0 (.int .u8 0) 1 1 Try.underlying22 hi hz0 hz1 hz2 rfl (by decide) (.slice sa xs.length cap0) xs.length (u8s xs) (by simp [Act.eval]) (hrow.alloc _) ⟨wr.heap.size, 0, none⟩ 1 1 [.int .u8 (bt : Int)] (by simp [Act.eval]) rfl (World.news_of_block (World.alloc_heap_new wr _)) (by simp [Value.oneCell']) (by decide) hmax (by omega) (Nat.zero_le _) (wr.heap.size + 1) (by simp) ?_; intro g cap1 w1 hown hgrow hat hltg; have hob1 := (hgrow.block w.heap.size (by simp; omega) (Ne.symm hvb)).trans (alloc_far hob _); have hcb := cell_of hob1 0; have hfb := frozen_of hob1 0)
      all_goals
        have hN2 := isN_snoc (d := bt) hN (Nat.le_refl _) hown hgrow hat
        clear hob hrow hvb hob1 hcb hfb hown hgrow hat hN hcq hcg
        go_wp2
        go_roundw
      all_goals first | exact ⟨n + 1, _, by omega, by go_num, by rw [HBS.out]; exact hN2⟩ | (simp [intOf]; omega)
    · obtain rfl : n = 8 * (k + 1) := by omega
      obtain ⟨g, cap1, rfl, hT⟩ : ∃ g cap1, v = .slice (some ⟨g, 0, none⟩) (8 * (k + 1)) cap1 ∧ IsT w wr w.heap.size g bs (8 * (k + 1)) cap1 (8 * (k + 1)) := by
        have hbl := bitsTo_length bs (8 * (k + 1))
        have hvb := owns_ne hN.row hN.obj (by decide)
        have hob := hN.obj
        rcases hN.row.2 with ⟨rfl, h0⟩ | ⟨g, cap1, cur, rfl, hb, hg, hr1, hr2, hr3, hr4⟩
        · omega
        · rw [hbl] at hob hr1
          refine ⟨g, cap1, by rw [hbl], hob, fun j hj => ?_, obj_lt hg, fun e => hvb (by rw [e]; rfl), hN.ub g rfl, hr1, hN.keep⟩
          have := hN.row.cells (g := g) rfl j _ (u8s_at (bitsTo bs (8 * (k + 1))) j (by omega))
          rw [add0, bitsTo_at bs _ j hj] at this
          exact this
      clear hN hlt hn
      go_wp2
      go_loopw [] (fun wr => ∃ j : Nat, T ≤ j ∧ j + 1 ≤ 8 * (k + 1) ∧ IsT w wr w.heap.size g bs (8 * (k + 1)) cap1 (j + 1)) (fun wr => heldQ wr w.heap.size)
      case atStart => exact ⟨8 * k + 7, by have := HT3.out; have := HL.out; omega, by omega, hT⟩
      case round =>
        clear hT
        obtain ⟨j, hj1, hj2, hT⟩ := hrel
        have hcq : wr.cell? ⟨w.heap.size, 0, none⟩ = some (.slice (some ⟨g, 0, none⟩) (j + 1) cap1) := cell_of hT.obj 0
        have hcj := hT.cells j (by omega)
        have hfq := frozen_of hT.obj 0
        have hroom := hT.room
        have hjc : (j : Int) ≤ (cap1 : Int) := by omega
        have hj0 : (0 : Int) ≤ (j : Int) := by omega
        by_cases hjT : j = T
        · subst hjT
          rw [HT1.out] at hcj
          go_wp2
          go_quiet (fail)
          go_wp2
          have hT2 := hT.drewN nq
          generalize wr.drewN nq = W2 at hT2 ⊢
          clear hcq hcj hfq hT
          have hcq : W2.cell? ⟨w.heap.size, 0, none⟩ = some (.slice (some ⟨g, 0, none⟩) (j + 1) cap1) := cell_of hT2.obj 0
          have hfq := frozen_of hT2.obj 0
          go_region
          all_goals
            have hT3 := (isT_cut hT2 (Nat.le_refl _) j).drew
            generalize (W2.setCell ⟨w.heap.size, 0, none⟩ (.slice (some ⟨g, 0, none⟩) j cap1)).drew = W3 at hT3 ⊢
            clear hcq hfq hT2
            have hcq : W3.cell? ⟨w.heap.size, 0, none⟩ = some (.slice (some ⟨g, 0, none⟩) j cap1) := cell_of hT3.obj 0
            have hc1 : W3.cell? ⟨w.heap.size, 1, none⟩ = some (.int .i64 0) := cell_of hT3.obj 1
            have hf1 := frozen_of hT3.obj 1
            go_wp2
            go_ret2
            refine ⟨w.heap.size, g, rfl, Nat.le_refl _, hT3.new, ⟨⟨cap1, (set_obj hT3.obj 1 _).trans (by simp)⟩, fun i hi => (World.cell?_of_block (Below.heap_setCell _ _ _ _ hT3.ne)).trans (hT3.cells i (by omega)), by simpa [World.setCell] using hT3.lt, hT3.ne, by omega⟩, hT3.keep.setCell (p := ⟨w.heap.size, 1, none⟩) (fun hl => by dsimp only at hl; omega) _⟩
        · rw [HT2.out j (by omega) (by have := HL.out; omega)] at hcj
          go_wp2
          go_quiet (fail)
          go_wp2
          have hT2 := hT.drewN nq
          have hheld := heldQ_of hT
          generalize wr.drewN nq = W2 at hT2 ⊢
          have HHD := (show Hid _ from hheld)
          clear hcq hcj hfq hT hheld
          have hcq : W2.cell? ⟨w.heap.size, 0, none⟩ = some (.slice (some ⟨g, 0, none⟩) (j + 1) cap1) := cell_of hT2.obj 0
          have hfq := frozen_of hT2.obj 0
          go_region
          all_goals
            go_wp2
            have hT3 := (isT_cut hT2 (Nat.le_refl _) j).drew
            go_roundw
          all_goals first | exact ⟨j - 1, by omega, by omega, by rw [show j - 1 + 1 = j from by omega]; exact hT3⟩ | (rw [HHD.out]; have := heldQ_of hT3; rw [this]; omega)

end Go.Proofs.Ytdkjciilhlhagaa
