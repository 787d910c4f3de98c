/-
  Rows of numbers, cut; which counts make a table: makeTable, and the document's Right.
-/
import Derived.Test.YtoffnhbopjaocaaNum
import Derived.Laws.CopyRow
import Derived.Deep.OwnRows
namespace Go.Proofs.Ytoffnhbopjaocaa
open Go.RowKit Go.Shelf

theorem addO (g o j : Nat) : (⟨g, o, none⟩ : Addr).add j = ⟨g, o + j, none⟩ := by unfold Addr.add; split <;> simp_all

/-- The slice at a reads as the numbers xs of kind k, which lie in block gb from off on. -/
structure RowI (w : World) (k : IntKind) (a : Option Addr) (cap gb off : Nat) (xs : List Int) : Prop where
  at_ : a = some (⟨gb, off, none⟩ : Addr) ∨ xs = []
  nil : a = none → cap = 0
  cells : ∀ j, j < xs.length → w.cell? ⟨gb, off + j, none⟩ = some (.int k (xs[j]?.getD 0))
  le : xs.length ≤ cap
theorem RowI.block {w : World} {k : IntKind} {a : Option Addr} {cap gb off : Nat} {xs : List Int} (h : RowI w k a cap gb off xs) (hb : xs ≠ []) : gb < w.heap.size :=
  World.block_lt_of_cell? w ⟨gb, off + 0, none⟩ (h.cells 0 (List.length_pos_iff.2 hb))
theorem RowI.keep {w w' : World} {S : Nat → Prop} {k : IntKind} {a : Option Addr} {cap gb off : Nat} {xs : List Int} (h : RowI w k a cap gb off xs) (hk : Keep S w w') (hS : xs ≠ [] → ¬ S gb) : RowI w' k a cap gb off xs :=
  ⟨h.at_, h.nil, fun j hj => by
    have hne : xs ≠ [] := by rintro rfl; simp at hj
    exact (World.cell?_of_block (hk.block gb (h.block hne) (hS hne))).trans (h.cells j hj), h.le⟩
theorem RowI.here {w : World} {k : IntKind} {a : Option Addr} {cap gb off : Nat} {xs : List Int} (h : RowI w k a cap gb off xs) {i : Nat} (hi : i < xs.length) : a = some ⟨gb, off, none⟩ := by
  rcases h.at_ with h | h
  · exact h
  · rw [h] at hi; simp at hi

/-- The slice operation by a name of one's own. -/
def sliceSem (t : TypeId) (x : Value) (lo hi mx : Option Value) : Sem Value := Instr.slice t x lo hi mx
theorem sliceSem_eq (t : TypeId) (x : Value) (lo hi mx : Option Value) : Instr.slice t x lo hi mx = sliceSem t x lo hi mx := rfl

theorem info42 : (Try.prog.info? 42).map (fun i => (i.zero, i.size, i.bytes)) = some (some (.int .i16 0), 1, 2) := by kernel_rfl
theorem info41 : (Try.prog.info? 41).map (fun i => (i.zero, i.size, i.bytes)) = some (some (.int .u32 0), 1, 4) := by kernel_rfl
theorem info3 : (Try.prog.info? 3).map (fun i => (i.zero, i.size, i.bytes)) = some (some (.int .i64 0), 1, 8) := by kernel_rfl

/-- Reslices of a type whose elements take one cell each. -/
theorem run_low {t e : TypeId} {z : Value} {b : Nat} (hu : Try.prog.underlying t = some (.slice e)) (hinfo : (Try.prog.info? e).map (fun i => (i.zero, i.size, i.bytes)) = some (some z, 1, b)) (a : Option Addr) (len cap k : Nat) (h1 : k ≤ len) (w : World) :
    (sliceSem t (.slice a len cap) (some (.int .i64 (k : Int))) none none).run Try.prog w = .ok (.slice (if cap = k then a else a.map (fun x => x.add k)) (len - k) (cap - k)) w := by
  obtain ⟨i0, hi, hz0, hz1, hz2⟩ := info_parts hinfo
  simp [sliceSem, Instr.slice, run_underlying hu, Instr.sliceBounds, Instr.sliceBound, asIntOf, h1, sizeOf, typeInfo, hi, hz1]
theorem run_high {t e : TypeId} {z : Value} {b : Nat} (hu : Try.prog.underlying t = some (.slice e)) (hinfo : (Try.prog.info? e).map (fun i => (i.zero, i.size, i.bytes)) = some (some z, 1, b)) (a : Option Addr) (len cap k : Nat) (h1 : k ≤ cap) (w : World) :
    (sliceSem t (.slice a len cap) none (some (.int .i64 (k : Int))) none).run Try.prog w = .ok (.slice a k cap) w := by
  obtain ⟨i0, hi, hz0, hz1, hz2⟩ := info_parts hinfo
  have e : (if cap = 0 then a else a.map (fun x => x.add 0)) = a := by
    split
    · rfl
    · cases a <;> simp [Addr.add]
  simp [sliceSem, Instr.slice, run_underlying hu, Instr.sliceBounds, Instr.sliceBound, asIntOf, h1, sizeOf, typeInfo, hi, e]

theorem RowI.drop {t e : TypeId} {z : Value} {b : Nat} (hu : Try.prog.underlying t = some (.slice e)) (hinfo : (Try.prog.info? e).map (fun i => (i.zero, i.size, i.bytes)) = some (some z, 1, b)) {w : World} {ki : IntKind} {a : Option Addr} {cap gb off : Nat} {xs : List Int} (h : RowI w ki a cap gb off xs) (k : Nat) (hk : k ≤ xs.length) :
    ∃ a' off', (∀ W, (sliceSem t (.slice a xs.length cap) (some (.int .i64 (k : Int))) none none).run Try.prog W = .ok (.slice a' (xs.drop k).length (cap - k)) W) ∧ RowI w ki a' (cap - k) gb off' (xs.drop k) := by
  have hc := h.le
  refine ⟨if cap = k then a else a.map (fun x => x.add k), if cap = k then off else off + k, fun W => by rw [run_low hu hinfo a xs.length cap k hk W, List.length_drop], ⟨?_, ?_, ?_, by rw [List.length_drop]; omega⟩⟩
  · rcases h.at_ with e | e
    · left
      subst e
      split
      · rfl
      · simp [addO]
    · right; rw [e]; simp
  · intro e
    split at e
    · have := h.nil e; omega
    · rw [Option.map_eq_none_iff] at e
      have := h.nil e; omega
  · intro j hj
    rw [List.length_drop] at hj
    have := h.cells (k + j) (by omega)
    rw [List.getElem?_drop, if_neg (by omega), Nat.add_assoc]
    exact this
theorem RowI.take {t e : TypeId} {z : Value} {b : Nat} (hu : Try.prog.underlying t = some (.slice e)) (hinfo : (Try.prog.info? e).map (fun i => (i.zero, i.size, i.bytes)) = some (some z, 1, b)) {w : World} {ki : IntKind} {a : Option Addr} {cap gb off : Nat} {xs : List Int} (h : RowI w ki a cap gb off xs) (k : Nat) (hk : k ≤ xs.length) :
    (∀ W, (sliceSem t (.slice a xs.length cap) none (some (.int .i64 (k : Int))) none).run Try.prog W = .ok (.slice a (xs.take k).length cap) W) ∧ RowI w ki a cap gb off (xs.take k) := by
  have hc := h.le
  have e : (xs.take k).length = k := by rw [List.length_take]; omega
  refine ⟨fun W => by rw [run_high hu hinfo a xs.length cap k (by omega) W, e], ⟨?_, h.nil, ?_, by omega⟩⟩
  · rcases h.at_ with e | e
    · exact .inl e
    · right; rw [e]; simp
  · intro j hj
    rw [e] at hj
    rw [List.getElem?_take, if_pos hj]
    exact h.cells j (by omega)

/-- Numbers of 16 bits. -/
def I16 (xs : List Int) : Prop := ∀ i : Nat, -32768 ≤ xs[i]?.getD 0 ∧ xs[i]?.getD 0 ≤ 32767
/-- How many states the first n counts take. -/
def sumS (xs : List Int) : Nat → Int
  | 0 => 0
  | n + 1 => sumS xs n + shareN (xs[n]?.getD 0)
/-- Do counts make a table? -/
def okT (xs : List Int) (log : Int) : Bool :=
  decide (5 ≤ log ∧ log ≤ 12 ∧ xs.length ≠ 0 ∧ xs.length ≤ 256 ∧ xs[xs.length - 1]?.getD 0 ≠ 0 ∧ (∀ i : Nat, i < xs.length → -1 ≤ xs[i]?.getD 0) ∧ sumS xs xs.length = 2 ^ log.toNat)
theorem shareN_le (c : Int) (h1 : -32768 ≤ c) (h2 : c ≤ 32767) : -32768 ≤ shareN c ∧ shareN c ≤ 32767 := by unfold shareN; split <;> omega
theorem sumS_le (xs : List Int) (h : I16 xs) (n : Nat) : -32768 * (n : Int) ≤ sumS xs n ∧ sumS xs n ≤ 32767 * (n : Int) := by
  induction n with
  | zero => simp [sumS]
  | succ n ih =>
    have := shareN_le _ (h n).1 (h n).2
    simp only [sumS]
    omega

section
attribute [local go_sem] sliceSem_eq

theorem pow_log (log : Int) (h1 : 5 ≤ log) (h2 : log ≤ 12) : ∃ l : Nat, log = (l : Int) ∧ 5 ≤ l ∧ l ≤ 12 ∧ (2 : Int) ^ l ≤ 4096 ∧ 32 ≤ (2 : Int) ^ l ∧ (2 : Int) ^ l = ((2 ^ l : Nat) : Int) := by
  obtain ⟨l, rfl⟩ := Int.eq_ofNat_of_zero_le (show 0 ≤ log by omega)
  have h3 : l = 5 ∨ l = 6 ∨ l = 7 ∨ l = 8 ∨ l = 9 ∨ l = 10 ∨ l = 11 ∨ l = 12 := by omega
  refine ⟨l, rfl, by omega, by omega, ?_⟩
  rcases h3 with rfl | rfl | rfl | rfl | rfl | rfl | rfl | rfl <;> decide

set_option maxRecDepth 100000 in
set_option maxHeartbeats 2000000 in
theorem makeTable_any (a : Option Addr) (cap gb off : Nat) (xs : List Int) (log : Int) (w : World) (h : RowI w .i16 a cap gb off xs) (hx : I16 xs) :
    Calls Try.prog 24 #[.slice a xs.length cap, .int .i64 log] w fun e w' => e = .returned (.bool (okT xs log)) ∧ w' = w := by
  by_cases hl : 5 ≤ log ∧ log ≤ 12
  · have hd : decide (5 ≤ log ∧ log ≤ 12) = true := decide_eq_true hl
    have HL := (show Hid (∀ w : World, Calls Try.prog 41 #[.int .i64 log] w fun e w' => e = .returned (.bool true) ∧ w' = w) from fun w => by have := isLog_any log w; rwa [hd] at this)
    by_cases h0 : xs.length = 0
    · have hz : ((xs.length : Int) == 0) = true := by simp [h0]
      have hr : okT xs log = false := decide_eq_false (fun h => h.2.2.1 h0)
      rw [hr]
      clear h
      generalize xs.length = n at *
      go_enter Try.func24, Try.ntmps24
      go_wp2_with (go_at_call 41; refine (HL.out _).mono ?_; rintro e w' ⟨rfl, rfl⟩)
      go_ret
      exact ⟨rfl, rfl⟩
    · have hz : ((xs.length : Int) == 0) = false := by rw [beq_eq_false_iff_ne]; omega
      by_cases h256 : xs.length ≤ 256
      · have hg : ¬ (256 : Int) < (xs.length : Int) := by omega
        obtain ⟨k, hk⟩ : ∃ k, xs.length = k + 1 := ⟨xs.length - 1, by omega⟩
        have hk1 : (xs.length : Int) - 1 = (k : Int) := by omega
        obtain rfl := h.here (i := k) (by omega)
        have hc := h.cells k (by omega)
        obtain ⟨y, hy⟩ : ∃ y, xs[k]?.getD 0 = y := ⟨_, rfl⟩
        rw [hy] at hc
        by_cases hy0 : y = 0
        · have hr : okT xs log = false := decide_eq_false (fun h => h.2.2.2.2.1 (by rw [hk, Nat.add_sub_cancel, hy]; exact hy0))
          rw [hr]
          subst hy0
          have HK := (show Hid _ from hk)
          have hki : (k : Int) < (xs.length : Int) := by omega
          clear h hk
          generalize xs.length = n at *
          go_enter Try.func24, Try.ntmps24
          go_wp2_with (go_at_call 41; refine (HL.out _).mono ?_; rintro e w' ⟨rfl, rfl⟩)
          go_ret
          exact ⟨rfl, rfl⟩
        · have hyb : (y == 0) = false := by simpa using hy0
          obtain ⟨l, rfl, hl1, hl2, hp1, hp2, hpe⟩ := pow_log log hl.1 hl.2
          have HR := (show Hid (RowI w .i16 (some ⟨gb, off, none⟩) cap gb off xs) from h)
          have HY := (show Hid (xs[k]?.getD 0 = y ∧ xs.length = k + 1 ∧ y ≠ 0) from ⟨hy, hk, hy0⟩)
          have hki : (k : Int) < (xs.length : Int) := by omega
          have HX := (show Hid (I16 xs) from hx)
          have HN := (show Hid (∃ n, n = xs.length) from ⟨_, rfl⟩)
          obtain ⟨n, hn⟩ := HN.out
          rw [← hn] at h256 hz hg hk1 hki ⊢
          have HN := (show Hid (n = xs.length) from hn)
          clear h hk hy hn hy0 hx hpe
          go_enter Try.func24, Try.ntmps24
          go_wp2_with (go_at_call 41; refine (HL.out _).mono ?_; rintro e w' ⟨rfl, rfl⟩)
          go_loop [5, 32] (fun s i => ∃ j : Nat, j ≤ n ∧ i = .int .i64 j ∧ s = .int .i64 (sumS xs j) ∧ Hid (∀ i : Nat, i < j → -1 ≤ xs[i]?.getD 0)) (fun _ i => n - (intOf i).toNat)
          case atStart => exact ⟨0, Nat.zero_le _, rfl, rfl, fun i hi => by omega⟩
          case round =>
            clear hc hk1 hki
            obtain ⟨j, hj, rfl, rfl, HA⟩ := hrel
            have hs := sumS_le xs HX.out j
            by_cases hlt : j < n
            · have hcj := HR.out.cells j (by have := HN.out; omega)
              have hb := HX.out j
              have HS := (show Hid (sumS xs (j + 1) = sumS xs j + shareN (xs[j]?.getD 0)) from rfl)
              have hAs : -1 ≤ xs[j]?.getD 0 → ∀ i : Nat, i < j + 1 → -1 ≤ xs[i]?.getD 0 := fun h i hi => by
                by_cases e : i = j
                · subst e; exact h
                · exact HA.out i (by omega)
              have HAS := (show Hid _ from hAs)
              have HOK := (show Hid (okT xs (l : Int) = true → -1 ≤ xs[j]?.getD 0) from fun h => (of_decide_eq_true h).2.2.2.2.2.1 j (by have := HN.out; omega))
              clear hAs
              generalize xs[j]?.getD 0 = x at *
              have hbs := shareN_le x hb.1 hb.2
              have HSH := (show Hid (∀ w : World, _) from fun w => share_any x hb.1 hb.2 w)
              obtain ⟨b1, b2⟩ := hb
              obtain ⟨b3, b4⟩ := hbs
              obtain ⟨b5, b6⟩ := hs
              have b7 : (j : Int) ≤ 256 := by omega
              generalize shareN x = sx at *
              generalize sumS xs j = sj at *
              by_cases hx1 : x < -1
              · go_wp2
                go_ret
                refine ⟨?_, rfl⟩
                have : okT xs (l : Int) = false := by
                  cases hb : okT xs (l : Int) with
                  | false => rfl
                  | true => have := HOK.out hb; omega
                rw [this]
                rfl
              · go_wp2_with (go_at_call 27; refine (HSH.out _).mono ?_; rintro e w' ⟨rfl, rfl⟩)
                go_round
                case rel => exact ⟨j + 1, by omega, by go_num, by rw [HS.out], HAS.out (by omega)⟩
                case measure => simp [intOf]; omega
            · obtain rfl : j = n := by omega
              have HB := (show Hid (okT xs (l : Int) = (sumS xs j == 2 ^ l)) from by
                have hn := HN.out
                obtain ⟨hy1, hy2, hy3⟩ := HY.out
                rw [Bool.eq_iff_iff]
                unfold okT
                rw [decide_eq_true_iff, beq_iff_eq]
                constructor
                · intro h; have := h.2.2.2.2.2.2; rw [← hn] at this; simpa using this
                · intro h
                  refine ⟨by omega, by omega, by omega, by omega, ?_, ?_, ?_⟩
                  · rw [hy2, Nat.add_sub_cancel, hy1]; exact hy3
                  · rw [← hn]; exact HA.out
                  · rw [← hn]; simpa using h)
              clear HR HX HY HN HA HL
              obtain ⟨b5, b6⟩ := hs
              generalize sumS xs j = sj at *
              go_wp2
              go_ret
              exact ⟨by rw [HB.out]; rfl, rfl⟩
      · have hg : (256 : Int) < (xs.length : Int) := by omega
        have hr : okT xs log = false := decide_eq_false (fun h => h256 h.2.2.2.1)
        rw [hr]
        clear h
        generalize xs.length = n at *
        go_enter Try.func24, Try.ntmps24
        go_wp2_with (go_at_call 41; refine (HL.out _).mono ?_; rintro e w' ⟨rfl, rfl⟩)
        go_ret
        exact ⟨rfl, rfl⟩
  · have hd : decide (5 ≤ log ∧ log ≤ 12) = false := decide_eq_false hl
    have hr : okT xs log = false := decide_eq_false (fun h => hl ⟨h.1, h.2.1⟩)
    have HL := (show Hid (∀ w : World, Calls Try.prog 41 #[.int .i64 log] w fun e w' => e = .returned (.bool false) ∧ w' = w) from fun w => by have := isLog_any log w; rwa [hd] at this)
    rw [hr]
    clear h
    go_enter Try.func24, Try.ntmps24
    go_wp2_with (go_at_call 41; refine (HL.out _).mono ?_; rintro e w' ⟨rfl, rfl⟩)
    go_ret
    exact ⟨rfl, rfl⟩

end

end Go.Proofs.Ytoffnhbopjaocaa
