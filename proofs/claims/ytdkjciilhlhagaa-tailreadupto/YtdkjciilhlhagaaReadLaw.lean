/-
  TailRead, the walk: the program's reader and the document's go side by side.
-/
import Derived.Test.YtdkjciilhlhagaaRefN
import Derived.Deep.RegionHeld3
import Derived.Deep.DrawnRows
namespace Go.Proofs.Ytdkjciilhlhagaa
open Go.RowKit Go.Shelf
set_option linter.unusedVariables false

attribute [local go_sem ↓] Go.wp_at_zero Go.wp_at_succ

theorem bitsQ_i (qb g : Nat) (bs : List Nat) (T p t z u m a b r : Nat) (n : Int) (hr : numAt bs p t * 2 ^ z = r) (hu : u = p + t) (hmz : m = t + z) (hpz : z = 0 ∨ p = 0) (hn : (m : Int) = min (max n 0) 56) (hb : b = min (a + z) 1099511627776) (hua : u = 0 ∨ a = 0) (huT : u ≤ T) (ha : a ≤ 1099511627776) (w : World) (h : IsQ w qb g bs T ((u : Int) - a)) :
    Calls Try.prog 11 #[.pointer (some ⟨qb, 0, none⟩), .int .i64 n] w fun e w' => e = .returned (.int .u64 (r : Int)) ∧ IsQ w' qb g bs T ((p : Int) - b) ∧ Keep (fun k => k = qb) w w' := by
  subst hr
  exact bitsQ_read qb g bs T p t z u m a b n w h hu hmz hpz hn hb hua huT ha

/-- The two readers, at the same place, in memory that is new since w and apart. -/
structure TwoR (w W : World) (rb g qb gq : Nat) (bs : List Nat) (T u a : Nat) : Prop where
  isR : IsR W rb g bs u a
  isQ : IsQ W qb gq bs T ((u : Int) - a)
  keep : Keep noBlock w W
  one : u = 0 ∨ a = 0
  le : u ≤ T
theorem TwoR.drewN {w W : World} {rb g qb gq : Nat} {bs : List Nat} {T u a : Nat} (h : TwoR w W rb g qb gq bs T u a) (n : Nat) : TwoR w (W.drewN n) rb g qb gq bs T u a := ⟨h.isR.drewN n, h.isQ.drewN n, h.keep.trans' (keep_drewN _ _), h.one, h.le⟩

/-- Where the two readers lie. -/
structure Apart (n rb g qb gq : Nat) : Prop where
  rb' : n ≤ rb
  g' : n ≤ g
  qb' : n ≤ qb
  gq' : n ≤ gq
  rq : rb ≠ qb
  rgq : rb ≠ gq
  gqb : g ≠ qb

/-- Both have gone back: the same number, the same place. -/
theorem TwoR.bits {w W : World} {rb g qb gq : Nat} {bs : List Nat} {T u a : Nat} (h : TwoR w W rb g qb gq bs T u a) (hA : Apart w.heap.size rb g qb gq) (n : Int) :
    ∃ r u' a' : Nat, ∃ l : Int, l = (u' : Int) - a' ∧ (Calls Try.prog 10 #[.pointer (some ⟨rb, 0, none⟩), .int .i64 n] W fun e W1 => e = .returned (.int .u64 (r : Int)) ∧
      Calls Try.prog 11 #[.pointer (some ⟨qb, 0, none⟩), .int .i64 n] W1 fun e W2 => e = .returned (.int .u64 (r : Int)) ∧ W2.cell? ⟨qb, 1, none⟩ = some (.int .i64 l) ∧ TwoR w W2 rb g qb gq bs T u' a') := by
  obtain ⟨p, t, z, m, b, hu, hmz, hpz, hn, hb, hpb⟩ := split_any u a n h.one h.isR.most
  refine ⟨numAt bs p t * 2 ^ z, p, b, _, rfl, ?_⟩
  refine (bits_i rb g bs p t z u m a b _ n rfl hu hmz hpz hn hb W h.isR).mono ?_
  rintro e W1 ⟨rfl, hR1, hK1⟩
  refine ⟨rfl, ?_⟩
  have hQ1 := h.isQ.keep hK1 hA.rq.symm hA.rgq.symm
  have hs := h.keep.size
  have r1 := hA.rb'
  have r2 := hA.qb'
  refine (bitsQ_i qb gq bs T p t z u m a b _ n rfl hu hmz hpz hn hb h.one h.le h.isR.most W1 hQ1).mono ?_
  rintro e W2 ⟨rfl, hQ2, hK2⟩
  refine ⟨rfl, hQ2.left, hR1.keep hK2 hA.rq (fun _ => hA.gqb), hQ2, (h.keep.trans hK1 (fun i hi e => by omega)).trans hK2 (fun i hi e => by omega), hpb, by have := h.le; omega⟩

set_option maxRecDepth 100000 in
set_option maxHeartbeats 2000000 in
/-- TailRead, where New refuses. -/
theorem read_bad (a0 a1 : Option Addr) (len0 cap0 len1 cap1 : Nat) (w : World)
    (h1 : Calls Try.prog 7 #[.slice a0 len0 cap0] w fun e w' => e = .returned (.tuple #[.pointer none, .int .i64 11]) ∧ w' = w)
    (h2 : Calls Try.prog 8 #[.slice a0 len0 cap0] w fun e w' => e = .returned (.tuple #[.pointer none, .int .i64 11]) ∧ w' = w) :
    Calls Try.prog 3 #[.slice a0 len0 cap0, .slice a1 len1 cap1] w fun e w' => e = .returned (.bool true) ∧ Keep noBlock w w' := by
  have H1 : Hid (Calls Try.prog 7 #[.slice a0 len0 cap0] w fun e w' => e = .returned (.tuple #[.pointer none, .int .i64 11]) ∧ w' = w) := h1
  have H2 : Hid (Calls Try.prog 8 #[.slice a0 len0 cap0] w fun e w' => e = .returned (.tuple #[.pointer none, .int .i64 11]) ∧ w' = w) := h2
  clear h1 h2
  go_enter Try.func3, Try.ntmps3
  go_wp2_with fail
  refine H1.out.mono ?_
  rintro e w1 ⟨rfl, rfl⟩
  go_wp2_with fail
  refine H2.out.mono ?_
  rintro e w2 ⟨rfl, rfl⟩
  go_wp2_with fail
  refine (wakes_any _).mono ?_
  rintro e wA ⟨rfl, hKA⟩
  go_wp2_with fail
  go_ret
  exact ⟨rfl, hKA⟩

set_option maxRecDepth 100000 in
set_option maxHeartbeats 2000000 in
/-- TailRead, where New gives a reader. -/
theorem read_good (a0 a1 : Option Addr) (len0 cap0 len1 cap1 b1 off1 T : Nat) (bs : List Nat) (ns : List Int) (w : World)
    (hlen1 : len1 ≤ 140737488351232) (ha1 : a1 = some ⟨b1, off1, none⟩ ∨ len1 = 0) (hns : ∀ j, j < len1 → w.cell? ⟨b1, off1 + j, none⟩ = some (.int .i64 (ns[j]?.getD 0)))
    (h1 : ∀ w1 : World, Keep noBlock w w1 → Calls Try.prog 7 #[.slice a0 len0 cap0] w1 fun e w' => ∃ rb g, e = .returned (.tuple #[.pointer (some ⟨rb, 0, none⟩), .int .i64 0]) ∧ w1.heap.size ≤ rb ∧ w1.heap.size ≤ g ∧ IsR w' rb g bs T 0 ∧ Keep noBlock w1 w')
    (h2 : ∀ w1 : World, Keep noBlock w w1 → Calls Try.prog 8 #[.slice a0 len0 cap0] w1 fun e w' => ∃ qb g, e = .returned (.tuple #[.pointer (some ⟨qb, 0, none⟩), .int .i64 0]) ∧ w1.heap.size ≤ qb ∧ w1.heap.size ≤ g ∧ IsQ w' qb g bs T (T : Int) ∧ Keep noBlock w1 w') :
    Calls Try.prog 3 #[.slice a0 len0 cap0, .slice a1 len1 cap1] w fun e w' => e = .returned (.bool true) ∧ Keep noBlock w w' := by
  have H1 := (show Hid _ from h1)
  have H2 := (show Hid _ from h2)
  have HN := (show Hid _ from hns)
  have HB := (show Hid _ from ha1)
  have hmx : Try.prog.follows .mixedOrders = true := by kernel_rfl
  clear h1 h2 hns ha1
  go_enter Try.func3, Try.ntmps3
  go_wp2_with fail
  refine (H1.out w (Keep.refl _ _)).mono ?_
  rintro e w1 ⟨rb, g, rfl, hrb, hg, hR, hK1⟩
  go_wp2_with fail
  refine (H2.out w1 hK1).mono ?_
  rintro e w2 ⟨qb, gq, rfl, hqb, hgq, hQ, hK2⟩
  have hrl : rb < w1.heap.size := by obtain ⟨_, _, _, ho⟩ := hR.obj; exact obj_lt ho
  have hgl := hR.lt
  have hs1 := hK1.size
  have hA : Apart w.heap.size rb g qb gq := ⟨hrb, hg, by omega, by omega, by omega, by omega, by omega⟩
  have h2R : TwoR w w2 rb g qb gq bs T T 0 := ⟨hR.keep hK2 (fun h => h) (fun _ h => h), by simpa using hQ, hK1.trans' hK2, .inr rfl, Nat.le_refl _⟩
  have HAP := (show Hid (Apart _ _ _ _ _) from hA)
  clear hA hR hQ hK1 hK2 hrl hgl hs1 hrb hg hqb hgq
  go_wp2_with fail
  go_loopw [36] (fun i wv => ∃ (k u a : Nat), k ≤ len1 ∧ i = .int .i64 k ∧ TwoR w wv rb g qb gq bs T u a) (fun i _ => len1 - (intOf i).toNat)
  case atStart => exact ⟨0, T, 0, Nat.zero_le _, rfl, h2R⟩
  case round =>
    clear h2R
    obtain ⟨k, u, a, hk1, rfl, hTv⟩ := hrel
    by_cases hlt1 : k < len1
    · have hcn : wr.cell? ⟨b1, off1 + k, none⟩ = some (.int .i64 (ns[k]?.getD 0)) :=
        (World.cell?_of_block (hTv.keep.block b1 (World.block_lt_of_cell? w ⟨b1, off1 + k, none⟩ (HN.out k hlt1)) (fun h => h))).trans (HN.out k hlt1)
      obtain rfl : a1 = some ⟨b1, off1, none⟩ := HB.out.elim id (fun e => by omega)
      generalize ns[k]?.getD 0 = n at hcn
      by_cases h300 : k < 300
      · obtain ⟨r, u', a', l, hl, hC⟩ := (hTv.drewN 1).bits HAP.out n
        have HL := (show Hid _ from hl)
        have HC : Hid (Calls Try.prog 10 #[.pointer (some ⟨rb, 0, none⟩), .int .i64 n] (wr.drewN 1) fun e W1 => e = .returned (.int .u64 (r : Int)) ∧ Hid (Calls Try.prog 11 #[.pointer (some ⟨qb, 0, none⟩), .int .i64 n] W1 fun e W2 => e = .returned (.int .u64 (r : Int)) ∧ W2.cell? ⟨qb, 1, none⟩ = some (.int .i64 l) ∧ TwoR w W2 rb g qb gq bs T u' a')) := hC
        clear hl hC
        go_wp2_with fail
        go_region_with (first
          | (go_at_call 10; refine HC.out.mono ?_; rintro e wA ⟨rfl, HC2⟩)
          | (go_at_call 11; refine HC2.out.mono ?_; rintro e wB ⟨rfl, hcl, hT2⟩)
          | (go_at_call 12; refine (left_i rb g bs u' a' l HL.out.symm _ hT2.isR).mono ?_; rintro e wC ⟨rfl, nq, rfl⟩))
        all_goals go_wp2
        all_goals go_roundw
        all_goals first | exact ⟨k + 1, u', a', by omega, by go_num, hT2.drewN _⟩ | (simp [intOf]; omega)
      · go_wp2_with fail
        refine (wakes_any _).mono ?_
        rintro e wA ⟨rfl, hKA⟩
        go_wp2_with fail
        go_ret
        exact ⟨rfl, hTv.keep.trans' hKA⟩
    · go_wp2_with fail
      refine (wakes_any _).mono ?_
      rintro e wA ⟨rfl, hKA⟩
      go_wp2_with fail
      go_ret
      exact ⟨rfl, hTv.keep.trans' hKA⟩

end Go.Proofs.Ytdkjciilhlhagaa
