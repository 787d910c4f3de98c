/-
  slices.symMergeCmpFunc, where both parts are two places or more: one step, the rest by those of fewer places.
  slices.symMergeCmpFunc, where both parts are two places or more: one step, the rest by those of fewer places.
  Blocks of places that are merged two by two. No program is named here.
  slices.symMergeCmpFunc, stableCmpFunc, SortStableFunc: a row of places that rise is put into the order of their numbers, equal ones as they came.
  cmp.Compare at bytes and at numbers of 32 bits, and the two comparisons of places that package canon makes of it.
  order: the places of the numbers that are not 0, the least number's first.
  Rows of items: pairs, leavesIn.
-/
import Derived.Deep.DeepCutAuto
import Derived.Deep.OwnRows
import Derived.BigRegion
import Derived.Test.YtcoahkmiebeeeaaGreatDoorLitP15
namespace Go.Proofs.YtcoahkmiebeeeaaGreatDoor.C5
open Go.RowKit Go.Shelf

def SymTo (g n cap N fn B : Nat) (K : Nat → Nat) (w0 : World) (top : Nat) : Prop :=
  ∀ (a m b : Nat) (f : Nat → Nat) (w : World), b - a < top → DS w0 w g n N f → a < m → m < b → b ≤ n → SortedOn K f a m → SortedOn K f m b → Ahead f a m b →
    Calls Tryz.prog 124 #[.slice (some ⟨g, 0, none⟩) n cap, .int .i64 (a : Int), .int .i64 (m : Int), .int .i64 (b : Int), .func (.func fn) #[] #[.pointer (some ⟨B, 0, none⟩)]] w fun e w' => e = .returned (.tuple #[]) ∧ ∃ f', DS w0 w' g n N f' ∧ Merged K a b f f'

set_option maxRecDepth 1000000 in
set_option maxHeartbeats 8000000 in
theorem sym_midA (g n cap N a m b mid fn B : Nat) (K f : Nat → Nat) (w0 w : World) (h : DS w0 w g n N f) (C : CmpOk w0 g N K fn B) (IH : SymTo g n cap N fn B K w0 (b - a)) (ham : a + 1 < m) (hmb : m + 1 < b) (hb : b ≤ n) (hn : n ≤ 1024) (hL : SortedOn K f a m) (hR : SortedOn K f m b) (hA : Ahead f a m b)
    (hmid : mid = (a + b) / 2) (hgt : mid < m) :
    Calls Tryz.prog 124 #[.slice (some ⟨g, 0, none⟩) n cap, .int .i64 (a : Int), .int .i64 (m : Int), .int .i64 (b : Int), .func (.func fn) #[] #[.pointer (some ⟨B, 0, none⟩)]] w fun e w' => e = .returned (.tuple #[]) ∧ ∃ f', DS w0 w' g n N f' ∧ Merged K a b f f' := by
  have eg := C.enters
  have HC := (show Hid _ from C.call)
  have HA := (show Hid (SortedOn K f a m ∧ SortedOn K f m b ∧ Ahead f a m b) from ⟨hL, hR, hA⟩)
  have HIH := (show Hid (∀ (a m b : Nat) (f : Nat → Nat) (w : World), _) from IH)
  have ha1 : ((b : Int) - (m : Int) == 1) = false := by simpa using (show (b : Int) - (m : Int) ≠ 1 by omega)
  have ha2 : ((m : Int) - (a : Int) == 1) = false := by simpa using (show (m : Int) - (a : Int) ≠ 1 by omega)
  have hmI : ((a : Int) + (b : Int)) / 2 = (mid : Int) := by omega
  obtain ⟨lo, hlo⟩ : ∃ lo : Nat, lo = mid + m - b := ⟨_, rfl⟩
  obtain ⟨hi, hhi⟩ : ∃ hi : Nat, hi = mid := ⟨_, rfl⟩
  obtain ⟨p, hp⟩ : ∃ p : Nat, p + 1 = mid + m := ⟨mid + m - 1, by omega⟩
  have hloI : (mid : Int) + (m : Int) - (b : Int) = (lo : Int) := by omega
  have hpI : (mid : Int) + (m : Int) - 1 = (p : Int) := by omega
  have bnd : lo ≤ hi ∧ a ≤ lo ∧ mid < b ∧ a < mid ∧ hi ≤ m ∧ hi ≤ mid ∧ mid + m ≤ lo + b := by omega
  have HQ := (show Hid (lo = mid + m - b ∧ hi = mid ∧ p + 1 = mid + m ∧ mid = (a + b) / 2) from ⟨hlo, hhi, hp, hmid⟩)
  
  clear C hL hR hA IH hmid hlo hhi hp
  go_enter Tryz.func124, Tryz.ntmps124
  go_wp2
  go_loopw [20, 21] (fun vs vr wr => ∃ (s r : Nat), vs = .int .i64 (s : Int) ∧ vr = .int .i64 (r : Int) ∧ lo ≤ s ∧ s ≤ r ∧ r ≤ hi ∧ DS w0 wr g n N f ∧ Hid ((∀ c, lo ≤ c → c < s → Lx K (f c) (f (p - c))) ∧ (∀ c, r ≤ c → c < hi → Lx K (f (p - c)) (f c)))) (fun vs vr _ => (intOf vr).toNat - (intOf vs).toNat)
  case atStart =>
    have hq := HQ.out
    exact ⟨lo, hi, by congr 1 <;> omega, by congr 1 <;> omega, Nat.le_refl _, by omega, Nat.le_refl _, h, fun k h1 h2 => by omega, fun k h1 h2 => by omega⟩
  case round =>
    clear h
    obtain ⟨s, r, rfl, rfl, hs, hsr, hr, hd, HB⟩ := hrel
    by_cases hlt : s < r
    · obtain ⟨c, hc0⟩ : ∃ c : Nat, c = (s + r) / 2 := ⟨_, rfl⟩
      have hc1 : s ≤ c ∧ c < r := by omega
      have hcI : ((s : Int) + (r : Int)) / 2 = (c : Int) := by omega
      have hq := HQ.out
      obtain ⟨d, hd0⟩ : ∃ d : Nat, d + c = p := ⟨p - c, by omega⟩
      have hdI : (p : Int) - (c : Int) = (d : Int) := by omega
      have hdm : m ≤ d ∧ d < b := by omega
      have hdz : (d : Int) < (n : Int) := by omega
      have hcm : a ≤ c ∧ c < m := by omega
      have hcz : (c : Int) < (n : Int) := by omega
      have HE := (show Hid (p - c = d ∧ ∀ k, k ≤ c → lo ≤ k → d ≤ p - k ∧ p - k < b) from ⟨by omega, fun k h1 h2 => by omega⟩)
      have HE2 := (show Hid (∀ k, c ≤ k → k < hi → m ≤ p - k ∧ p - k ≤ d ∧ k < m) from fun k h1 h2 => by omega)
      have c1 := hd.cell c (by omega)
      have c2 := hd.cell d (by omega)
      have hc : ∀ q, _ := fun q => HC.out (wr.drewN q) (hd.drewN q).keep (f d) (f c) (hd.lt _ (by omega)) (hd.lt _ (by omega))
      have HK := (show Hid (cmpOf K (f d) (f c) < 0 ↔ K (f d) < K (f c)) from cmpOf_neg K (f d) (f c))
      have HD := (show Hid (∀ q, DS w0 (wr.drewN q) g n N f) from fun q => hd.drewN q)
      obtain ⟨cv, hcv⟩ : ∃ cv, cmpOf K (f d) (f c) = cv := ⟨_, rfl⟩
      rw [hcv] at HK hc
      obtain ⟨y1, hy1⟩ : ∃ x, f c = x := ⟨_, rfl⟩
      obtain ⟨y2, hy2⟩ : ∃ x, f d = x := ⟨_, rfl⟩
      rw [hy1] at c1 hc
      rw [hy2] at c2 hc
      clear hy1 hy2 hd hcv hc0 hd0 hq
      by_cases hlv : cv < 0
      · have hlb : decide (cv < 0) = true := decide_eq_true hlv
        go_wp2_with fail
        go_quiet (first | (go_at_fn fn; refine Calls.quiet_of (hc _)))
        go_wp2
        go_roundw
        case rel =>
          refine ⟨s, c, rfl, rfl, hs, by omega, by omega, HD.out nq, HB.out.1, fun k h1 h2 => ?_⟩
          have hl : Lx K (f d) (f c) := .inl (HK.out.1 hlv)
          have he := HE2.out k h1 h2
          exact HA.out.2.1.le he.1 he.2.1 (by omega) (HA.out.1.ge (by omega) h1 he.2.2 hl)
        case measure => simp [intOf]; omega
      · have hlb : decide (cv < 0) = false := decide_eq_false hlv
        go_wp2_with fail
        go_quiet (first | (go_at_fn fn; refine Calls.quiet_of (hc _)))
        go_wp2
        go_roundw
        case rel =>
          refine ⟨c + 1, r, by go_num, rfl, by omega, by omega, hr, HD.out nq, fun k h1 h2 => ?_, HB.out.2⟩
          have hl : Lx K (f c) (f d) := Lx.of_not (HA.out.2.2 c d (by omega) (by omega) (by omega) (by omega)) (fun hk => by have := HK.out.2 hk; omega)
          have he := HE.out.2 k (by omega) h1
          exact HA.out.1.le (by omega) (by omega) (by omega) (HA.out.2.1.ge (by omega) he.1 he.2 hl)
        case measure => simp [intOf]; omega
    · obtain rfl : s = r := by omega
      have hq := HQ.out
      obtain ⟨e, he⟩ : ∃ e : Nat, s + e = mid + m := ⟨mid + m - s, by omega⟩
      have heI : (mid : Int) + (m : Int) - (s : Int) = (e : Int) := by omega
      have be : m ≤ e ∧ e ≤ b ∧ mid ≤ e ∧ s ≤ m ∧ a ≤ s ∧ s ≤ mid := by omega
      have k1 : s = a ∨ e = b ∨ Lx K (f (s - 1)) (f e) := by
        by_cases z : lo < s
        · have := HB.out.1 (s - 1) (by omega) (by omega)
          rw [show p - (s - 1) = e from by omega] at this
          exact .inr (.inr this)
        · exact .inr (.inl (by omega))
      have k2 : s = m ∨ e = m ∨ Lx K (f (e - 1)) (f s) := by
        by_cases z : s < hi
        · have := HB.out.2 s (by omega) z
          rw [show p - s = e - 1 from by omega] at this
          exact .inr (.inr this)
        · exact .inr (.inl (by omega))
      obtain ⟨q1, q2, q3, q4, q5, q6, q7⟩ := split_halves K f a m b mid s e HA.out.1 HA.out.2.1 HA.out.2.2 (by omega) (by omega) (by omega) (by omega) he k1 k2
      have HR := (show Hid (SortedOn K (rot s m e f) a s ∧ SortedOn K (rot s m e f) s mid ∧ Ahead (rot s m e f) a s mid ∧ SortedOn K (rot s m e f) mid e ∧ SortedOn K (rot s m e f) e b ∧ Ahead (rot s m e f) mid e b ∧ ∀ i j, a ≤ i → i < mid → mid ≤ j → j < b → Lx K (rot s m e f i) (rot s m e f j)) from ⟨q1, q2, q3, q4, q5, q6, q7⟩)
      clear q1 q2 q3 q4 q5 q6 q7 k1 k2 HB HC hq
      have hz : s < mid ∨ s = mid := by omega
      go_upto_if 185 with fail
      go_cut [] (fun wc => DS w0 wc g n N (rot s m e f) ∧ PermOn a b f (rot s m e f))
      case first =>
        rcases hz with hz | hz
        · have z1 : s < m := by omega
          have z2 : m < e := by omega
          go_wp2_with fail
          refine (rotate_any g n cap N s m e fn B f w0 _ hd z1 z2 (by omega) hn).mono ?_
          rintro e1 w1 ⟨rfl, hd1, hp1⟩
          go_wp2_with fail
          go_meet
          case rel => exact ⟨hd1, hp1.mono (by omega) (by omega)⟩
        · have z2 : ¬ m < e := by omega
          go_wp2_with fail
          go_meet
          case rel =>
            rw [rot_none s m e f (by omega) (by omega) (by omega)]
            exact ⟨hd, PermOn.refl _ _ _⟩
      case rest =>
        obtain ⟨hcD, hcP⟩ := hcut
        have HH0 := HR.out
        obtain ⟨f1, hf1⟩ : ∃ f1, f1 = rot s m e f := ⟨_, rfl⟩
        rw [← hf1] at hcD hcP HH0
        have HH := (show Hid (SortedOn K f1 a s ∧ SortedOn K f1 s mid ∧ Ahead f1 a s mid ∧ SortedOn K f1 mid e ∧ SortedOn K f1 e b ∧ Ahead f1 mid e b ∧ (∀ i j, a ≤ i → i < mid → mid ≤ j → j < b → Lx K (f1 i) (f1 j)) ∧ PermOn a b f f1) from ⟨HH0.1, HH0.2.1, HH0.2.2.1, HH0.2.2.2.1, HH0.2.2.2.2.1, HH0.2.2.2.2.2.1, HH0.2.2.2.2.2.2, hcP⟩)
        have HJ := (show Hid (∀ f2, PermOn a mid f1 f2 → SortedOn K f2 mid e ∧ SortedOn K f2 e b ∧ Ahead f2 mid e b) from fun f2 p2 => ⟨fun i j h1 h2 h3 => by rw [p2.out i (by omega), p2.out j (by omega)]; exact HH0.2.2.2.1 i j h1 h2 h3, fun i j h1 h2 h3 => by rw [p2.out i (by omega), p2.out j (by omega)]; exact HH0.2.2.2.2.1 i j h1 h2 h3, fun i j h1 h2 h3 h4 => by rw [p2.out i (by omega), p2.out j (by omega)]; exact HH0.2.2.2.2.2.1 i j h1 h2 h3 h4⟩)
        clear hf1 HH0 hcP HR hd hz
        by_cases x1 : a < s ∧ s < mid
        · obtain ⟨x1a, x1b⟩ := x1
          go_wp2_with fail
          refine (HIH.out a s mid f1 _ (by omega) hcD x1a x1b (by omega) HH.out.1 HH.out.2.1 HH.out.2.2.1).mono ?_
          rintro e1 w1 ⟨rfl, f2, hd2, hm2⟩
          have HM2 := (show Hid (Merged K a mid f1 f2) from hm2)
          clear hm2 hcD
          have hs4 : SortedOn K f2 mid e ∧ SortedOn K f2 e b ∧ Ahead f2 mid e b := HJ.out f2 HM2.out.1
          have H4 := (show Hid (SortedOn K f2 mid e ∧ SortedOn K f2 e b ∧ Ahead f2 mid e b) from hs4)
          clear hs4
          by_cases x3 : mid < e ∧ e < b
          · obtain ⟨x3a, x3b⟩ := x3
            go_wp2_with fail
            refine (HIH.out mid e b f2 _ (by omega) hd2 x3a x3b hb H4.out.1 H4.out.2.1 H4.out.2.2).mono ?_
            rintro e1 w2 ⟨rfl, f3, hd3, hm3⟩
            go_wp2
            go_end0
            exact ⟨rfl, _, hd3, merge_halves K f f1 f2 _ a mid b (by omega) (by omega) HH.out.2.2.2.2.2.2.2 HH.out.2.2.2.2.2.2.1 HM2.out hm3⟩
          · have hm3 : Merged K mid b f2 f2 := merged_nil K f2 mid e b H4.out.1 H4.out.2.1 x3
            have hd3 := hd2
            have HM4 := (show Hid (Merged K mid b f2 f2) from hm3)
            clear hm3
            by_cases x3a : mid < e
            · have x3b : ¬ e < b := fun h => x3 ⟨x3a, h⟩
              clear x3
              go_wp2
              go_end0
              exact ⟨rfl, _, hd3, merge_halves K f f1 f2 _ a mid b (by omega) (by omega) HH.out.2.2.2.2.2.2.2 HH.out.2.2.2.2.2.2.1 HM2.out HM4.out⟩
            · clear x3
              go_wp2
              go_end0
              exact ⟨rfl, _, hd3, merge_halves K f f1 f2 _ a mid b (by omega) (by omega) HH.out.2.2.2.2.2.2.2 HH.out.2.2.2.2.2.2.1 HM2.out HM4.out⟩
        · have HM2 := (show Hid (Merged K a mid f1 f1) from merged_nil K f1 a s mid HH.out.1 HH.out.2.1 x1)
          obtain ⟨f2, hf2⟩ : ∃ f2, f2 = f1 := ⟨_, rfl⟩
          have hd2 := hcD
          rw [← hf2] at hd2
          have HM3 := (show Hid (Merged K a mid f1 f2) from by rw [hf2]; exact HM2.out)
          clear HM2
          have HM2 := HM3
          clear HM3 hcD hf2
          by_cases x1a : a < s
          · have x1b : ¬ s < mid := fun h => x1 ⟨x1a, h⟩
            clear x1
            have hs4 : SortedOn K f2 mid e ∧ SortedOn K f2 e b ∧ Ahead f2 mid e b := HJ.out f2 HM2.out.1
            have H4 := (show Hid (SortedOn K f2 mid e ∧ SortedOn K f2 e b ∧ Ahead f2 mid e b) from hs4)
            clear hs4
            by_cases x3 : mid < e ∧ e < b
            · obtain ⟨x3a, x3b⟩ := x3
              go_wp2_with fail
              refine (HIH.out mid e b f2 _ (by omega) hd2 x3a x3b hb H4.out.1 H4.out.2.1 H4.out.2.2).mono ?_
              rintro e1 w2 ⟨rfl, f3, hd3, hm3⟩
              go_wp2
              go_end0
              exact ⟨rfl, _, hd3, merge_halves K f f1 f2 _ a mid b (by omega) (by omega) HH.out.2.2.2.2.2.2.2 HH.out.2.2.2.2.2.2.1 HM2.out hm3⟩
            · have hm3 : Merged K mid b f2 f2 := merged_nil K f2 mid e b H4.out.1 H4.out.2.1 x3
              have hd3 := hd2
              have HM4 := (show Hid (Merged K mid b f2 f2) from hm3)
              clear hm3
              by_cases x3a : mid < e
              · have x3b : ¬ e < b := fun h => x3 ⟨x3a, h⟩
                clear x3
                go_wp2
                go_end0
                exact ⟨rfl, _, hd3, merge_halves K f f1 f2 _ a mid b (by omega) (by omega) HH.out.2.2.2.2.2.2.2 HH.out.2.2.2.2.2.2.1 HM2.out HM4.out⟩
              · clear x3
                go_wp2
                go_end0
                exact ⟨rfl, _, hd3, merge_halves K f f1 f2 _ a mid b (by omega) (by omega) HH.out.2.2.2.2.2.2.2 HH.out.2.2.2.2.2.2.1 HM2.out HM4.out⟩
          · clear x1
            have hs4 : SortedOn K f2 mid e ∧ SortedOn K f2 e b ∧ Ahead f2 mid e b := HJ.out f2 HM2.out.1
            have H4 := (show Hid (SortedOn K f2 mid e ∧ SortedOn K f2 e b ∧ Ahead f2 mid e b) from hs4)
            clear hs4
            by_cases x3 : mid < e ∧ e < b
            · obtain ⟨x3a, x3b⟩ := x3
              go_wp2_with fail
              refine (HIH.out mid e b f2 _ (by omega) hd2 x3a x3b hb H4.out.1 H4.out.2.1 H4.out.2.2).mono ?_
              rintro e1 w2 ⟨rfl, f3, hd3, hm3⟩
              go_wp2
              go_end0
              exact ⟨rfl, _, hd3, merge_halves K f f1 f2 _ a mid b (by omega) (by omega) HH.out.2.2.2.2.2.2.2 HH.out.2.2.2.2.2.2.1 HM2.out hm3⟩
            · have hm3 : Merged K mid b f2 f2 := merged_nil K f2 mid e b H4.out.1 H4.out.2.1 x3
              have hd3 := hd2
              have HM4 := (show Hid (Merged K mid b f2 f2) from hm3)
              clear hm3
              by_cases x3a : mid < e
              · have x3b : ¬ e < b := fun h => x3 ⟨x3a, h⟩
                clear x3
                go_wp2
                go_end0
                exact ⟨rfl, _, hd3, merge_halves K f f1 f2 _ a mid b (by omega) (by omega) HH.out.2.2.2.2.2.2.2 HH.out.2.2.2.2.2.2.1 HM2.out HM4.out⟩
              · clear x3
                go_wp2
                go_end0
                exact ⟨rfl, _, hd3, merge_halves K f f1 f2 _ a mid b (by omega) (by omega) HH.out.2.2.2.2.2.2.2 HH.out.2.2.2.2.2.2.1 HM2.out HM4.out⟩

end Go.Proofs.YtcoahkmiebeeeaaGreatDoor.C5

namespace Go.Proofs.YtcoahkmiebeeeaaGreatDoor.C5
open Go.RowKit Go.Shelf

set_option maxRecDepth 1000000 in
set_option maxHeartbeats 8000000 in
theorem sym_midB (g n cap N a m b mid fn B : Nat) (K f : Nat → Nat) (w0 w : World) (h : DS w0 w g n N f) (C : CmpOk w0 g N K fn B) (IH : SymTo g n cap N fn B K w0 (b - a)) (ham : a + 1 < m) (hmb : m + 1 < b) (hb : b ≤ n) (hn : n ≤ 1024) (hL : SortedOn K f a m) (hR : SortedOn K f m b) (hA : Ahead f a m b)
    (hmid : mid = (a + b) / 2) (hgt : ¬ mid < m) :
    Calls Tryz.prog 124 #[.slice (some ⟨g, 0, none⟩) n cap, .int .i64 (a : Int), .int .i64 (m : Int), .int .i64 (b : Int), .func (.func fn) #[] #[.pointer (some ⟨B, 0, none⟩)]] w fun e w' => e = .returned (.tuple #[]) ∧ ∃ f', DS w0 w' g n N f' ∧ Merged K a b f f' := by
  have eg := C.enters
  have HC := (show Hid _ from C.call)
  have HA := (show Hid (SortedOn K f a m ∧ SortedOn K f m b ∧ Ahead f a m b) from ⟨hL, hR, hA⟩)
  have HIH := (show Hid (∀ (a m b : Nat) (f : Nat → Nat) (w : World), _) from IH)
  have ha1 : ((b : Int) - (m : Int) == 1) = false := by simpa using (show (b : Int) - (m : Int) ≠ 1 by omega)
  have ha2 : ((m : Int) - (a : Int) == 1) = false := by simpa using (show (m : Int) - (a : Int) ≠ 1 by omega)
  have hmI : ((a : Int) + (b : Int)) / 2 = (mid : Int) := by omega
  obtain ⟨lo, hlo⟩ : ∃ lo : Nat, lo = a := ⟨_, rfl⟩
  obtain ⟨hi, hhi⟩ : ∃ hi : Nat, hi = m := ⟨_, rfl⟩
  obtain ⟨p, hp⟩ : ∃ p : Nat, p + 1 = mid + m := ⟨mid + m - 1, by omega⟩
  have hloI : (a : Int) = (lo : Int) := by omega
  have hpI : (mid : Int) + (m : Int) - 1 = (p : Int) := by omega
  have bnd : lo ≤ hi ∧ a ≤ lo ∧ mid < b ∧ a < mid ∧ hi ≤ m ∧ hi ≤ mid ∧ mid + m ≤ lo + b := by omega
  have HQ := (show Hid (lo = a ∧ hi = m ∧ p + 1 = mid + m ∧ mid = (a + b) / 2) from ⟨hlo, hhi, hp, hmid⟩)
  clear hloI
  clear C hL hR hA IH hmid hlo hhi hp
  go_enter Tryz.func124, Tryz.ntmps124
  go_wp2
  go_loopw [20, 21] (fun vs vr wr => ∃ (s r : Nat), vs = .int .i64 (s : Int) ∧ vr = .int .i64 (r : Int) ∧ lo ≤ s ∧ s ≤ r ∧ r ≤ hi ∧ DS w0 wr g n N f ∧ Hid ((∀ c, lo ≤ c → c < s → Lx K (f c) (f (p - c))) ∧ (∀ c, r ≤ c → c < hi → Lx K (f (p - c)) (f c)))) (fun vs vr _ => (intOf vr).toNat - (intOf vs).toNat)
  case atStart =>
    have hq := HQ.out
    exact ⟨lo, hi, by congr 1 <;> omega, by congr 1 <;> omega, Nat.le_refl _, by omega, Nat.le_refl _, h, fun k h1 h2 => by omega, fun k h1 h2 => by omega⟩
  case round =>
    clear h
    obtain ⟨s, r, rfl, rfl, hs, hsr, hr, hd, HB⟩ := hrel
    by_cases hlt : s < r
    · obtain ⟨c, hc0⟩ : ∃ c : Nat, c = (s + r) / 2 := ⟨_, rfl⟩
      have hc1 : s ≤ c ∧ c < r := by omega
      have hcI : ((s : Int) + (r : Int)) / 2 = (c : Int) := by omega
      have hq := HQ.out
      obtain ⟨d, hd0⟩ : ∃ d : Nat, d + c = p := ⟨p - c, by omega⟩
      have hdI : (p : Int) - (c : Int) = (d : Int) := by omega
      have hdm : m ≤ d ∧ d < b := by omega
      have hdz : (d : Int) < (n : Int) := by omega
      have hcm : a ≤ c ∧ c < m := by omega
      have hcz : (c : Int) < (n : Int) := by omega
      have HE := (show Hid (p - c = d ∧ ∀ k, k ≤ c → lo ≤ k → d ≤ p - k ∧ p - k < b) from ⟨by omega, fun k h1 h2 => by omega⟩)
      have HE2 := (show Hid (∀ k, c ≤ k → k < hi → m ≤ p - k ∧ p - k ≤ d ∧ k < m) from fun k h1 h2 => by omega)
      have c1 := hd.cell c (by omega)
      have c2 := hd.cell d (by omega)
      have hc : ∀ q, _ := fun q => HC.out (wr.drewN q) (hd.drewN q).keep (f d) (f c) (hd.lt _ (by omega)) (hd.lt _ (by omega))
      have HK := (show Hid (cmpOf K (f d) (f c) < 0 ↔ K (f d) < K (f c)) from cmpOf_neg K (f d) (f c))
      have HD := (show Hid (∀ q, DS w0 (wr.drewN q) g n N f) from fun q => hd.drewN q)
      obtain ⟨cv, hcv⟩ : ∃ cv, cmpOf K (f d) (f c) = cv := ⟨_, rfl⟩
      rw [hcv] at HK hc
      obtain ⟨y1, hy1⟩ : ∃ x, f c = x := ⟨_, rfl⟩
      obtain ⟨y2, hy2⟩ : ∃ x, f d = x := ⟨_, rfl⟩
      rw [hy1] at c1 hc
      rw [hy2] at c2 hc
      clear hy1 hy2 hd hcv hc0 hd0 hq
      by_cases hlv : cv < 0
      · have hlb : decide (cv < 0) = true := decide_eq_true hlv
        go_wp2_with fail
        go_quiet (first | (go_at_fn fn; refine Calls.quiet_of (hc _)))
        go_wp2
        go_roundw
        case rel =>
          refine ⟨s, c, rfl, rfl, hs, by omega, by omega, HD.out nq, HB.out.1, fun k h1 h2 => ?_⟩
          have hl : Lx K (f d) (f c) := .inl (HK.out.1 hlv)
          have he := HE2.out k h1 h2
          exact HA.out.2.1.le he.1 he.2.1 (by omega) (HA.out.1.ge (by omega) h1 he.2.2 hl)
        case measure => simp [intOf]; omega
      · have hlb : decide (cv < 0) = false := decide_eq_false hlv
        go_wp2_with fail
        go_quiet (first | (go_at_fn fn; refine Calls.quiet_of (hc _)))
        go_wp2
        go_roundw
        case rel =>
          refine ⟨c + 1, r, by go_num, rfl, by omega, by omega, hr, HD.out nq, fun k h1 h2 => ?_, HB.out.2⟩
          have hl : Lx K (f c) (f d) := Lx.of_not (HA.out.2.2 c d (by omega) (by omega) (by omega) (by omega)) (fun hk => by have := HK.out.2 hk; omega)
          have he := HE.out.2 k (by omega) h1
          exact HA.out.1.le (by omega) (by omega) (by omega) (HA.out.2.1.ge (by omega) he.1 he.2 hl)
        case measure => simp [intOf]; omega
    · obtain rfl : s = r := by omega
      have hq := HQ.out
      obtain ⟨e, he⟩ : ∃ e : Nat, s + e = mid + m := ⟨mid + m - s, by omega⟩
      have heI : (mid : Int) + (m : Int) - (s : Int) = (e : Int) := by omega
      have be : m ≤ e ∧ e ≤ b ∧ mid ≤ e ∧ s ≤ m ∧ a ≤ s ∧ s ≤ mid := by omega
      have k1 : s = a ∨ e = b ∨ Lx K (f (s - 1)) (f e) := by
        by_cases z : lo < s
        · have := HB.out.1 (s - 1) (by omega) (by omega)
          rw [show p - (s - 1) = e from by omega] at this
          exact .inr (.inr this)
        · exact .inl (by omega)
      have k2 : s = m ∨ e = m ∨ Lx K (f (e - 1)) (f s) := by
        by_cases z : s < hi
        · have := HB.out.2 s (by omega) z
          rw [show p - s = e - 1 from by omega] at this
          exact .inr (.inr this)
        · exact .inl (by omega)
      obtain ⟨q1, q2, q3, q4, q5, q6, q7⟩ := split_halves K f a m b mid s e HA.out.1 HA.out.2.1 HA.out.2.2 (by omega) (by omega) (by omega) (by omega) he k1 k2
      have HR := (show Hid (SortedOn K (rot s m e f) a s ∧ SortedOn K (rot s m e f) s mid ∧ Ahead (rot s m e f) a s mid ∧ SortedOn K (rot s m e f) mid e ∧ SortedOn K (rot s m e f) e b ∧ Ahead (rot s m e f) mid e b ∧ ∀ i j, a ≤ i → i < mid → mid ≤ j → j < b → Lx K (rot s m e f i) (rot s m e f j)) from ⟨q1, q2, q3, q4, q5, q6, q7⟩)
      clear q1 q2 q3 q4 q5 q6 q7 k1 k2 HB HC hq
      have hz : s < m ∨ s = m := by omega
      rcases hz with hz | hz
      · have z1 : s < m := by omega
        have z2 : m < e := by omega
        go_wp2_with fail
        refine (rotate_any g n cap N s m e fn B f w0 _ hd z1 z2 (by omega) hn).mono ?_
        rintro e1 w1 ⟨rfl, hcD, hcP0⟩
        have hcP := hcP0.mono (show a ≤ s by omega) (show e ≤ b by omega)
        have HH0 := HR.out
        obtain ⟨f1, hf1⟩ : ∃ f1, f1 = rot s m e f := ⟨_, rfl⟩
        rw [← hf1] at hcD hcP HH0
        have HH := (show Hid (SortedOn K f1 a s ∧ SortedOn K f1 s mid ∧ Ahead f1 a s mid ∧ SortedOn K f1 mid e ∧ SortedOn K f1 e b ∧ Ahead f1 mid e b ∧ (∀ i j, a ≤ i → i < mid → mid ≤ j → j < b → Lx K (f1 i) (f1 j)) ∧ PermOn a b f f1) from ⟨HH0.1, HH0.2.1, HH0.2.2.1, HH0.2.2.2.1, HH0.2.2.2.2.1, HH0.2.2.2.2.2.1, HH0.2.2.2.2.2.2, hcP⟩)
        have HJ := (show Hid (∀ f2, PermOn a mid f1 f2 → SortedOn K f2 mid e ∧ SortedOn K f2 e b ∧ Ahead f2 mid e b) from fun f2 p2 => ⟨fun i j h1 h2 h3 => by rw [p2.out i (by omega), p2.out j (by omega)]; exact HH0.2.2.2.1 i j h1 h2 h3, fun i j h1 h2 h3 => by rw [p2.out i (by omega), p2.out j (by omega)]; exact HH0.2.2.2.2.1 i j h1 h2 h3, fun i j h1 h2 h3 h4 => by rw [p2.out i (by omega), p2.out j (by omega)]; exact HH0.2.2.2.2.2.1 i j h1 h2 h3 h4⟩)
        clear hf1 HH0 hcP hcP0 HR hd hz
        by_cases x1 : a < s ∧ s < mid
        · obtain ⟨x1a, x1b⟩ := x1
          go_wp2_with fail
          refine (HIH.out a s mid f1 _ (by omega) hcD x1a x1b (by omega) HH.out.1 HH.out.2.1 HH.out.2.2.1).mono ?_
          rintro e1 w1 ⟨rfl, f2, hd2, hm2⟩
          have HM2 := (show Hid (Merged K a mid f1 f2) from hm2)
          clear hm2 hcD
          have hs4 : SortedOn K f2 mid e ∧ SortedOn K f2 e b ∧ Ahead f2 mid e b := HJ.out f2 HM2.out.1
          have H4 := (show Hid (SortedOn K f2 mid e ∧ SortedOn K f2 e b ∧ Ahead f2 mid e b) from hs4)
          clear hs4
          by_cases x3 : mid < e ∧ e < b
          · obtain ⟨x3a, x3b⟩ := x3
            go_wp2_with fail
            refine (HIH.out mid e b f2 _ (by omega) hd2 x3a x3b hb H4.out.1 H4.out.2.1 H4.out.2.2).mono ?_
            rintro e1 w2 ⟨rfl, f3, hd3, hm3⟩
            go_wp2
            go_end0
            exact ⟨rfl, _, hd3, merge_halves K f f1 f2 _ a mid b (by omega) (by omega) HH.out.2.2.2.2.2.2.2 HH.out.2.2.2.2.2.2.1 HM2.out hm3⟩
          · have hm3 : Merged K mid b f2 f2 := merged_nil K f2 mid e b H4.out.1 H4.out.2.1 x3
            have hd3 := hd2
            have HM4 := (show Hid (Merged K mid b f2 f2) from hm3)
            clear hm3
            by_cases x3a : mid < e
            · have x3b : ¬ e < b := fun h => x3 ⟨x3a, h⟩
              clear x3
              go_wp2
              go_end0
              exact ⟨rfl, _, hd3, merge_halves K f f1 f2 _ a mid b (by omega) (by omega) HH.out.2.2.2.2.2.2.2 HH.out.2.2.2.2.2.2.1 HM2.out HM4.out⟩
            · clear x3
              go_wp2
              go_end0
              exact ⟨rfl, _, hd3, merge_halves K f f1 f2 _ a mid b (by omega) (by omega) HH.out.2.2.2.2.2.2.2 HH.out.2.2.2.2.2.2.1 HM2.out HM4.out⟩
        · have HM2 := (show Hid (Merged K a mid f1 f1) from merged_nil K f1 a s mid HH.out.1 HH.out.2.1 x1)
          obtain ⟨f2, hf2⟩ : ∃ f2, f2 = f1 := ⟨_, rfl⟩
          have hd2 := hcD
          rw [← hf2] at hd2
          have HM3 := (show Hid (Merged K a mid f1 f2) from by rw [hf2]; exact HM2.out)
          clear HM2
          have HM2 := HM3
          clear HM3 hcD hf2
          by_cases x1a : a < s
          · have x1b : ¬ s < mid := fun h => x1 ⟨x1a, h⟩
            clear x1
            have hs4 : SortedOn K f2 mid e ∧ SortedOn K f2 e b ∧ Ahead f2 mid e b := HJ.out f2 HM2.out.1
            have H4 := (show Hid (SortedOn K f2 mid e ∧ SortedOn K f2 e b ∧ Ahead f2 mid e b) from hs4)
            clear hs4
            by_cases x3 : mid < e ∧ e < b
            · obtain ⟨x3a, x3b⟩ := x3
              go_wp2_with fail
              refine (HIH.out mid e b f2 _ (by omega) hd2 x3a x3b hb H4.out.1 H4.out.2.1 H4.out.2.2).mono ?_
              rintro e1 w2 ⟨rfl, f3, hd3, hm3⟩
              go_wp2
              go_end0
              exact ⟨rfl, _, hd3, merge_halves K f f1 f2 _ a mid b (by omega) (by omega) HH.out.2.2.2.2.2.2.2 HH.out.2.2.2.2.2.2.1 HM2.out hm3⟩
            · have hm3 : Merged K mid b f2 f2 := merged_nil K f2 mid e b H4.out.1 H4.out.2.1 x3
              have hd3 := hd2
              have HM4 := (show Hid (Merged K mid b f2 f2) from hm3)
              clear hm3
              by_cases x3a : mid < e
              · have x3b : ¬ e < b := fun h => x3 ⟨x3a, h⟩
                clear x3
                go_wp2
                go_end0
                exact ⟨rfl, _, hd3, merge_halves K f f1 f2 _ a mid b (by omega) (by omega) HH.out.2.2.2.2.2.2.2 HH.out.2.2.2.2.2.2.1 HM2.out HM4.out⟩
              · clear x3
                go_wp2
                go_end0
                exact ⟨rfl, _, hd3, merge_halves K f f1 f2 _ a mid b (by omega) (by omega) HH.out.2.2.2.2.2.2.2 HH.out.2.2.2.2.2.2.1 HM2.out HM4.out⟩
          · clear x1
            have hs4 : SortedOn K f2 mid e ∧ SortedOn K f2 e b ∧ Ahead f2 mid e b := HJ.out f2 HM2.out.1
            have H4 := (show Hid (SortedOn K f2 mid e ∧ SortedOn K f2 e b ∧ Ahead f2 mid e b) from hs4)
            clear hs4
            by_cases x3 : mid < e ∧ e < b
            · obtain ⟨x3a, x3b⟩ := x3
              go_wp2_with fail
              refine (HIH.out mid e b f2 _ (by omega) hd2 x3a x3b hb H4.out.1 H4.out.2.1 H4.out.2.2).mono ?_
              rintro e1 w2 ⟨rfl, f3, hd3, hm3⟩
              go_wp2
              go_end0
              exact ⟨rfl, _, hd3, merge_halves K f f1 f2 _ a mid b (by omega) (by omega) HH.out.2.2.2.2.2.2.2 HH.out.2.2.2.2.2.2.1 HM2.out hm3⟩
            · have hm3 : Merged K mid b f2 f2 := merged_nil K f2 mid e b H4.out.1 H4.out.2.1 x3
              have hd3 := hd2
              have HM4 := (show Hid (Merged K mid b f2 f2) from hm3)
              clear hm3
              by_cases x3a : mid < e
              · have x3b : ¬ e < b := fun h => x3 ⟨x3a, h⟩
                clear x3
                go_wp2
                go_end0
                exact ⟨rfl, _, hd3, merge_halves K f f1 f2 _ a mid b (by omega) (by omega) HH.out.2.2.2.2.2.2.2 HH.out.2.2.2.2.2.2.1 HM2.out HM4.out⟩
              · clear x3
                go_wp2
                go_end0
                exact ⟨rfl, _, hd3, merge_halves K f f1 f2 _ a mid b (by omega) (by omega) HH.out.2.2.2.2.2.2.2 HH.out.2.2.2.2.2.2.1 HM2.out HM4.out⟩
      · have z1 : ¬ s < m := by omega
        have hrn := rot_none s m e f (by omega) (by omega) (by omega)
        have hcD : DS w0 wr g n N (rot s m e f) := by rw [hrn]; exact hd
        have hcP : PermOn a b f (rot s m e f) := by rw [hrn]; exact PermOn.refl _ _ _
        have HH0 := HR.out
        obtain ⟨f1, hf1⟩ : ∃ f1, f1 = rot s m e f := ⟨_, rfl⟩
        rw [← hf1] at hcD hcP HH0
        have HH := (show Hid (SortedOn K f1 a s ∧ SortedOn K f1 s mid ∧ Ahead f1 a s mid ∧ SortedOn K f1 mid e ∧ SortedOn K f1 e b ∧ Ahead f1 mid e b ∧ (∀ i j, a ≤ i → i < mid → mid ≤ j → j < b → Lx K (f1 i) (f1 j)) ∧ PermOn a b f f1) from ⟨HH0.1, HH0.2.1, HH0.2.2.1, HH0.2.2.2.1, HH0.2.2.2.2.1, HH0.2.2.2.2.2.1, HH0.2.2.2.2.2.2, hcP⟩)
        have HJ := (show Hid (∀ f2, PermOn a mid f1 f2 → SortedOn K f2 mid e ∧ SortedOn K f2 e b ∧ Ahead f2 mid e b) from fun f2 p2 => ⟨fun i j h1 h2 h3 => by rw [p2.out i (by omega), p2.out j (by omega)]; exact HH0.2.2.2.1 i j h1 h2 h3, fun i j h1 h2 h3 => by rw [p2.out i (by omega), p2.out j (by omega)]; exact HH0.2.2.2.2.1 i j h1 h2 h3, fun i j h1 h2 h3 h4 => by rw [p2.out i (by omega), p2.out j (by omega)]; exact HH0.2.2.2.2.2.1 i j h1 h2 h3 h4⟩)
        clear hf1 HH0 hcP HR hd hz hrn
        by_cases x1 : a < s ∧ s < mid
        · obtain ⟨x1a, x1b⟩ := x1
          go_wp2_with fail
          refine (HIH.out a s mid f1 _ (by omega) hcD x1a x1b (by omega) HH.out.1 HH.out.2.1 HH.out.2.2.1).mono ?_
          rintro e1 w1 ⟨rfl, f2, hd2, hm2⟩
          have HM2 := (show Hid (Merged K a mid f1 f2) from hm2)
          clear hm2 hcD
          have hs4 : SortedOn K f2 mid e ∧ SortedOn K f2 e b ∧ Ahead f2 mid e b := HJ.out f2 HM2.out.1
          have H4 := (show Hid (SortedOn K f2 mid e ∧ SortedOn K f2 e b ∧ Ahead f2 mid e b) from hs4)
          clear hs4
          by_cases x3 : mid < e ∧ e < b
          · obtain ⟨x3a, x3b⟩ := x3
            go_wp2_with fail
            refine (HIH.out mid e b f2 _ (by omega) hd2 x3a x3b hb H4.out.1 H4.out.2.1 H4.out.2.2).mono ?_
            rintro e1 w2 ⟨rfl, f3, hd3, hm3⟩
            go_wp2
            go_end0
            exact ⟨rfl, _, hd3, merge_halves K f f1 f2 _ a mid b (by omega) (by omega) HH.out.2.2.2.2.2.2.2 HH.out.2.2.2.2.2.2.1 HM2.out hm3⟩
          · have hm3 : Merged K mid b f2 f2 := merged_nil K f2 mid e b H4.out.1 H4.out.2.1 x3
            have hd3 := hd2
            have HM4 := (show Hid (Merged K mid b f2 f2) from hm3)
            clear hm3
            by_cases x3a : mid < e
            · have x3b : ¬ e < b := fun h => x3 ⟨x3a, h⟩
              clear x3
              go_wp2
              go_end0
              exact ⟨rfl, _, hd3, merge_halves K f f1 f2 _ a mid b (by omega) (by omega) HH.out.2.2.2.2.2.2.2 HH.out.2.2.2.2.2.2.1 HM2.out HM4.out⟩
            · clear x3
              go_wp2
              go_end0
              exact ⟨rfl, _, hd3, merge_halves K f f1 f2 _ a mid b (by omega) (by omega) HH.out.2.2.2.2.2.2.2 HH.out.2.2.2.2.2.2.1 HM2.out HM4.out⟩
        · have HM2 := (show Hid (Merged K a mid f1 f1) from merged_nil K f1 a s mid HH.out.1 HH.out.2.1 x1)
          obtain ⟨f2, hf2⟩ : ∃ f2, f2 = f1 := ⟨_, rfl⟩
          have hd2 := hcD
          rw [← hf2] at hd2
          have HM3 := (show Hid (Merged K a mid f1 f2) from by rw [hf2]; exact HM2.out)
          clear HM2
          have HM2 := HM3
          clear HM3 hcD hf2
          by_cases x1a : a < s
          · have x1b : ¬ s < mid := fun h => x1 ⟨x1a, h⟩
            clear x1
            have hs4 : SortedOn K f2 mid e ∧ SortedOn K f2 e b ∧ Ahead f2 mid e b := HJ.out f2 HM2.out.1
            have H4 := (show Hid (SortedOn K f2 mid e ∧ SortedOn K f2 e b ∧ Ahead f2 mid e b) from hs4)
            clear hs4
            by_cases x3 : mid < e ∧ e < b
            · obtain ⟨x3a, x3b⟩ := x3
              go_wp2_with fail
              refine (HIH.out mid e b f2 _ (by omega) hd2 x3a x3b hb H4.out.1 H4.out.2.1 H4.out.2.2).mono ?_
              rintro e1 w2 ⟨rfl, f3, hd3, hm3⟩
              go_wp2
              go_end0
              exact ⟨rfl, _, hd3, merge_halves K f f1 f2 _ a mid b (by omega) (by omega) HH.out.2.2.2.2.2.2.2 HH.out.2.2.2.2.2.2.1 HM2.out hm3⟩
            · have hm3 : Merged K mid b f2 f2 := merged_nil K f2 mid e b H4.out.1 H4.out.2.1 x3
              have hd3 := hd2
              have HM4 := (show Hid (Merged K mid b f2 f2) from hm3)
              clear hm3
              by_cases x3a : mid < e
              · have x3b : ¬ e < b := fun h => x3 ⟨x3a, h⟩
                clear x3
                go_wp2
                go_end0
                exact ⟨rfl, _, hd3, merge_halves K f f1 f2 _ a mid b (by omega) (by omega) HH.out.2.2.2.2.2.2.2 HH.out.2.2.2.2.2.2.1 HM2.out HM4.out⟩
              · clear x3
                go_wp2
                go_end0
                exact ⟨rfl, _, hd3, merge_halves K f f1 f2 _ a mid b (by omega) (by omega) HH.out.2.2.2.2.2.2.2 HH.out.2.2.2.2.2.2.1 HM2.out HM4.out⟩
          · clear x1
            have hs4 : SortedOn K f2 mid e ∧ SortedOn K f2 e b ∧ Ahead f2 mid e b := HJ.out f2 HM2.out.1
            have H4 := (show Hid (SortedOn K f2 mid e ∧ SortedOn K f2 e b ∧ Ahead f2 mid e b) from hs4)
            clear hs4
            by_cases x3 : mid < e ∧ e < b
            · obtain ⟨x3a, x3b⟩ := x3
              go_wp2_with fail
              refine (HIH.out mid e b f2 _ (by omega) hd2 x3a x3b hb H4.out.1 H4.out.2.1 H4.out.2.2).mono ?_
              rintro e1 w2 ⟨rfl, f3, hd3, hm3⟩
              go_wp2
              go_end0
              exact ⟨rfl, _, hd3, merge_halves K f f1 f2 _ a mid b (by omega) (by omega) HH.out.2.2.2.2.2.2.2 HH.out.2.2.2.2.2.2.1 HM2.out hm3⟩
            · have hm3 : Merged K mid b f2 f2 := merged_nil K f2 mid e b H4.out.1 H4.out.2.1 x3
              have hd3 := hd2
              have HM4 := (show Hid (Merged K mid b f2 f2) from hm3)
              clear hm3
              by_cases x3a : mid < e
              · have x3b : ¬ e < b := fun h => x3 ⟨x3a, h⟩
                clear x3
                go_wp2
                go_end0
                exact ⟨rfl, _, hd3, merge_halves K f f1 f2 _ a mid b (by omega) (by omega) HH.out.2.2.2.2.2.2.2 HH.out.2.2.2.2.2.2.1 HM2.out HM4.out⟩
              · clear x3
                go_wp2
                go_end0
                exact ⟨rfl, _, hd3, merge_halves K f f1 f2 _ a mid b (by omega) (by omega) HH.out.2.2.2.2.2.2.2 HH.out.2.2.2.2.2.2.1 HM2.out HM4.out⟩

end Go.Proofs.YtcoahkmiebeeeaaGreatDoor.C5

namespace Go.Proofs.YtcoahkmiebeeeaaGreatDoor.C5

theorem div_in (B t i : Nat) (hB : 0 < B) (h1 : t * B ≤ i) (h2 : i < t * B + B) : i / B = t := by
  have e1 : t ≤ i / B := (Nat.le_div_iff_mul_le hB).2 h1
  have e2 : i / B < t + 1 := (Nat.div_lt_iff_lt_mul hB).2 (by rw [Nat.add_mul]; omega)
  omega
theorem div_lt' (B t i : Nat) (hB : 0 < B) (h : i < t * B) : i / B < t := (Nat.div_lt_iff_lt_mul hB).2 h
theorem div_ge' (B t i : Nat) (hB : 0 < B) (h : t * B ≤ i) : t ≤ i / B := (Nat.le_div_iff_mul_le hB).2 h

def Blks (K f : Nat → Nat) (B n : Nat) : Prop := ∀ i j, i < j → j < n → (i / B = j / B → Lx K (f i) (f j)) ∧ (i / B ≠ j / B → f i < f j)
def Some1 (K f : Nat → Nat) (B a n : Nat) : Prop := ∀ i j, i < j → j < n → (j < a ∧ i / B = j / B → Lx K (f i) (f j)) ∧ (¬ (j < a ∧ i / B = j / B) → f i < f j)
def Some2 (K f : Nat → Nat) (B a n : Nat) : Prop :=
  ∀ i j, i < j → j < n → (j < a ∧ i / (2 * B) = j / (2 * B) → Lx K (f i) (f j)) ∧ (a ≤ i ∧ i / B = j / B → Lx K (f i) (f j)) ∧ (¬ (j < a ∧ i / (2 * B) = j / (2 * B)) → ¬ (a ≤ i ∧ i / B = j / B) → f i < f j)

theorem Some1.start {K f : Nat → Nat} {B n : Nat} (h : ∀ i j, i < j → j < n → f i < f j) : Some1 K f B 0 n :=
  fun i j h1 h2 => ⟨fun h3 => by omega, fun _ => h i j h1 h2⟩
theorem Some1.inc {K f : Nat → Nat} {B a n : Nat} (h : Some1 K f B a n) : ∀ x y, a ≤ x → x < y → a ≤ y → y < n → f x < f y :=
  fun x y _ h2 h3 h4 => (h x y h2 h4).2 (by omega)
theorem Some1.next {K f f' : Nat → Nat} {B t n : Nat} (hB : 0 < B) (hbn : t * B + B ≤ n) (h : Some1 K f B (t * B) n) (m : Merged K (t * B) (t * B + B) f f') : Some1 K f' B ((t + 1) * B) n := by
  have e : (t + 1) * B = t * B + B := by rw [Nat.add_mul, Nat.one_mul]
  rw [e]
  intro i j h1 h2
  by_cases c1 : j < t * B
  · rw [m.1.out i (by omega), m.1.out j (by omega)]
    have := h i j h1 h2
    exact ⟨fun x => this.1 ⟨c1, x.2⟩, fun x => this.2 (fun y => x ⟨by omega, y.2⟩)⟩
  · by_cases c2 : j < t * B + B
    · by_cases c3 : t * B ≤ i
      · have e1 := div_in B t i hB c3 (by omega)
        have e2 := div_in B t j hB (by omega) c2
        exact ⟨fun _ => m.2 i j c3 h1 c2, fun x => absurd ⟨c2, e1.trans e2.symm⟩ x⟩
      · have e1 := div_lt' B t i hB (by omega)
        have e2 := div_in B t j hB (by omega) c2
        obtain ⟨j', u1, u2, u3⟩ := m.1.inn j (by omega) c2
        refine ⟨fun x => by omega, fun _ => ?_⟩
        rw [m.1.out i (by omega), u3]
        exact (h i j' (by omega) (by omega)).2 (by omega)
    · refine ⟨fun x => by omega, fun _ => ?_⟩
      rw [m.1.out j (by omega)]
      by_cases c3 : t * B ≤ i ∧ i < t * B + B
      · obtain ⟨i', u1, u2, u3⟩ := m.1.inn i c3.1 c3.2
        rw [u3]; exact (h i' j (by omega) h2).2 (by omega)
      · rw [m.1.out i c3]; exact (h i j h1 h2).2 (by omega)
theorem Some1.last {K f f' : Nat → Nat} {B t n : Nat} (hB : 0 < B) (h : Some1 K f B (t * B) n) (hn : n < t * B + B) (m : Merged K (t * B) n f f') : Blks K f' B n := by
  intro i j h1 h2
  by_cases c1 : j < t * B
  · rw [m.1.out i (by omega), m.1.out j (by omega)]
    have := h i j h1 h2
    exact ⟨fun x => this.1 ⟨c1, x⟩, fun x => this.2 (fun y => x y.2)⟩
  · have e2 := div_in B t j hB (by omega) (by omega)
    by_cases c3 : t * B ≤ i
    · have e1 := div_in B t i hB c3 (by omega)
      exact ⟨fun _ => m.2 i j c3 h1 h2, fun x => absurd (e1.trans e2.symm) x⟩
    · have e1 := div_lt' B t i hB (by omega)
      obtain ⟨j', u1, u2, u3⟩ := m.1.inn j (by omega) h2
      refine ⟨fun x => by omega, fun _ => ?_⟩
      rw [m.1.out i (by omega), u3]
      exact (h i j' (by omega) (by omega)).2 (by omega)

theorem Some2.start {K f : Nat → Nat} {B n : Nat} (h : Blks K f B n) : Some2 K f B 0 n :=
  fun i j h1 h2 => ⟨fun x => by omega, fun x => (h i j h1 h2).1 x.2, fun _ x => (h i j h1 h2).2 (fun y => x ⟨by omega, y⟩)⟩
theorem two_mul_eq (B t : Nat) : t * (2 * B) = (2 * t) * B ∧ (2 * t + 1) * B = t * (2 * B) + B ∧ (2 * t + 2) * B = t * (2 * B) + 2 * B ∧ (t + 1) * (2 * B) = t * (2 * B) + 2 * B := by
  have e1 : t * (2 * B) = (2 * t) * B := by rw [← Nat.mul_assoc, Nat.mul_comm t 2]
  refine ⟨e1, by rw [Nat.add_mul, e1]; omega, by rw [Nat.add_mul, e1], by rw [Nat.add_mul]; omega⟩
theorem Some2.pre {K f : Nat → Nat} {B t n b : Nat} (hB : 0 < B) (h : Some2 K f B (t * (2 * B)) n) (hb : b ≤ t * (2 * B) + 2 * B) (hbn : b ≤ n) :
    SortedOn K f (t * (2 * B)) (min (t * (2 * B) + B) n) ∧ SortedOn K f (t * (2 * B) + B) b ∧ Ahead f (t * (2 * B)) (t * (2 * B) + B) b := by
  obtain ⟨e1, e2, e3, e4⟩ := two_mul_eq B t
  refine ⟨fun i j h1 h2 h3 => ?_, fun i j h1 h2 h3 => ?_, fun i j h1 h2 h3 h4 => ?_⟩
  · have d1 := div_in B (2 * t) i hB (by omega) (by omega)
    have d2 := div_in B (2 * t) j hB (by omega) (by omega)
    exact (h i j h2 (by omega)).2.1 ⟨h1, d1.trans d2.symm⟩
  · have d1 := div_in B (2 * t + 1) i hB (by omega) (by omega)
    have d2 := div_in B (2 * t + 1) j hB (by omega) (by omega)
    exact (h i j h2 (by omega)).2.1 ⟨by omega, d1.trans d2.symm⟩
  · have d1 := div_in B (2 * t) i hB (by omega) (by omega)
    have d2 := div_in B (2 * t + 1) j hB (by omega) (by omega)
    exact (h i j (by omega) (by omega)).2.2 (by omega) (by omega)
theorem Some2.next {K f f' : Nat → Nat} {B t n : Nat} (hB : 0 < B) (hbn : t * (2 * B) + 2 * B ≤ n) (h : Some2 K f B (t * (2 * B)) n) (m : Merged K (t * (2 * B)) (t * (2 * B) + 2 * B) f f') : Some2 K f' B ((t + 1) * (2 * B)) n := by
  obtain ⟨e1, e2, e3, e4⟩ := two_mul_eq B t
  rw [e4]
  have hB2 : 0 < 2 * B := by omega
  intro i j h1 h2
  by_cases c1 : j < t * (2 * B)
  · rw [m.1.out i (by omega), m.1.out j (by omega)]
    have := h i j h1 h2
    exact ⟨fun x => this.1 ⟨c1, x.2⟩, fun x => by omega, fun x _ => this.2.2 (fun y => x ⟨by omega, y.2⟩) (by omega)⟩
  · by_cases c2 : j < t * (2 * B) + 2 * B
    · have d2 := div_in (2 * B) t j hB2 (by omega) c2
      by_cases c3 : t * (2 * B) ≤ i
      · have d1 := div_in (2 * B) t i hB2 c3 (by omega)
        exact ⟨fun _ => m.2 i j c3 h1 c2, fun x => by omega, fun x _ => absurd ⟨c2, d1.trans d2.symm⟩ x⟩
      · have d1 := div_lt' (2 * B) t i hB2 (by omega)
        obtain ⟨j', u1, u2, u3⟩ := m.1.inn j (by omega) c2
        refine ⟨fun x => by omega, fun x => by omega, fun _ _ => ?_⟩
        rw [m.1.out i (by omega), u3]
        by_cases c4 : j' < n
        · exact (h i j' (by omega) c4).2.2 (by omega) (by omega)
        · omega
    · rw [m.1.out j (by omega)]
      have d2 := div_ge' B (2 * t + 2) j hB (by omega)
      by_cases c3 : t * (2 * B) + 2 * B ≤ i
      · rw [m.1.out i (by omega)]
        have := h i j h1 h2
        exact ⟨fun x => by omega, fun x => this.2.1 ⟨by omega, x.2⟩, fun _ x => this.2.2 (by omega) (fun y => x ⟨c3, y.2⟩)⟩
      · refine ⟨fun x => by omega, fun x => by omega, fun _ _ => ?_⟩
        by_cases c4 : t * (2 * B) ≤ i
        · obtain ⟨i', u1, u2, u3⟩ := m.1.inn i c4 (by omega)
          have d1 := div_lt' B (2 * t + 2) i' hB (by omega)
          rw [u3]; exact (h i' j (by omega) h2).2.2 (by omega) (by omega)
        · rw [m.1.out i (by omega)]; exact (h i j h1 h2).2.2 (by omega) (by omega)
theorem Some2.last {K f f' : Nat → Nat} {B t n : Nat} (hB : 0 < B) (h : Some2 K f B (t * (2 * B)) n) (hn : n < t * (2 * B) + 2 * B) (m : Merged K (t * (2 * B)) n f f') : Blks K f' (2 * B) n := by
  have hB2 : 0 < 2 * B := by omega
  intro i j h1 h2
  by_cases c1 : j < t * (2 * B)
  · rw [m.1.out i (by omega), m.1.out j (by omega)]
    have := h i j h1 h2
    exact ⟨fun x => this.1 ⟨c1, x⟩, fun x => this.2.2 (fun y => x y.2) (by omega)⟩
  · have d2 := div_in (2 * B) t j hB2 (by omega) (by omega)
    by_cases c3 : t * (2 * B) ≤ i
    · have d1 := div_in (2 * B) t i hB2 c3 (by omega)
      exact ⟨fun _ => m.2 i j c3 h1 h2, fun x => absurd (d1.trans d2.symm) x⟩
    · have d1 := div_lt' (2 * B) t i hB2 (by omega)
      obtain ⟨j', u1, u2, u3⟩ := m.1.inn j (by omega) h2
      refine ⟨fun x => by omega, fun _ => ?_⟩
      rw [m.1.out i (by omega), u3]
      exact (h i j' (by omega) u2).2.2 (by omega) (by omega)
theorem Blks.whole {K f : Nat → Nat} {B n : Nat} (h : Blks K f B n) (hn : n ≤ B) : SortedOn K f 0 n := by
  intro i j _ h2 h3
  have e1 : i / B = 0 := Nat.div_eq_of_lt (by omega)
  have e2 : j / B = 0 := Nat.div_eq_of_lt (by omega)
  exact (h i j h2 h3).1 (e1.trans e2.symm)

end Go.Proofs.YtcoahkmiebeeeaaGreatDoor.C5

namespace Go.Proofs.YtcoahkmiebeeeaaGreatDoor.C5
open Go.RowKit Go.Shelf

theorem sym_any (g n cap N fn B : Nat) (K : Nat → Nat) (w0 : World) (C : CmpOk w0 g N K fn B) (hn : n ≤ 1024) : ∀ top, SymTo g n cap N fn B K w0 top := by
  intro top
  induction top with
  | zero => intro a m b f w h; omega
  | succ top ih =>
    intro a m b f w htop hd h1 h2 h3 hL hR hA
    by_cases c1 : m = a + 1
    · subst c1
      exact sym_left g n cap N a b fn B K f w0 w hd C h2 h3 hn hR hA
    · by_cases c2 : b = m + 1
      · subst c2
        exact sym_right g n cap N a m fn B K f w0 w hd C (by omega) h3 hn hL hA
      · have IH : SymTo g n cap N fn B K w0 (b - a) := fun a' m' b' f' w' x => ih a' m' b' f' w' (by omega)
        by_cases c3 : (a + b) / 2 < m
        · exact sym_midA g n cap N a m b ((a + b) / 2) fn B K f w0 w hd C IH (by omega) (by omega) h3 hn hL hR hA rfl c3
        · exact sym_midB g n cap N a m b ((a + b) / 2) fn B K f w0 w hd C IH (by omega) (by omega) h3 hn hL hR hA rfl c3

theorem sym_i (g n cap N fn B : Nat) (K : Nat → Nat) (w0 : World) (C : CmpOk w0 g N K fn B) (hn : n ≤ 1024) (a m b : Nat) (ai mi bi : Int) (ea : ai = (a : Int)) (em : mi = (m : Int)) (eb : bi = (b : Int)) (f : Nat → Nat) (w : World) (hd : DS w0 w g n N f) (h1 : a < m) (h2 : m < b) (h3 : b ≤ n) (hL : SortedOn K f a m) (hR : SortedOn K f m b) (hA : Ahead f a m b) :
    Calls Tryz.prog 124 #[.slice (some ⟨g, 0, none⟩) n cap, .int .i64 ai, .int .i64 mi, .int .i64 bi, .func (.func fn) #[] #[.pointer (some ⟨B, 0, none⟩)]] w fun e w' => e = .returned (.tuple #[]) ∧ ∃ f', DS w0 w' g n N f' ∧ Merged K a b f f' := by
  subst ea; subst em; subst eb
  exact sym_any g n cap N fn B K w0 C hn (b - a + 1) a m b f w (by omega) hd h1 h2 h3 hL hR hA
theorem insertion_i (g n cap N fn B : Nat) (K : Nat → Nat) (w0 : World) (C : CmpOk w0 g N K fn B) (hn : n ≤ 1024) (a b : Nat) (ai bi : Int) (ea : ai = (a : Int)) (eb : bi = (b : Int)) (f : Nat → Nat) (w : World) (hd : DS w0 w g n N f) (h1 : a ≤ b) (h3 : b ≤ n) (hinc : Inc f a a b) :
    Calls Tryz.prog 123 #[.slice (some ⟨g, 0, none⟩) n cap, .int .i64 ai, .int .i64 bi, .func (.func fn) #[] #[.pointer (some ⟨B, 0, none⟩)]] w fun e w' => e = .returned (.tuple #[]) ∧ ∃ f', DS w0 w' g n N f' ∧ Merged K a b f f' := by
  subst ea; subst eb
  exact insertion_any g n cap N a b fn B K f w0 w hd C h1 h3 hn hinc

set_option maxRecDepth 1000000 in
set_option maxHeartbeats 4000000 in
theorem stable_any (g n cap N fn B : Nat) (K f : Nat → Nat) (w0 w : World) (h : DS w0 w g n N f) (C : CmpOk w0 g N K fn B) (hn : n ≤ 1024) (hinc : ∀ i j, i < j → j < n → f i < f j) :
    Calls Tryz.prog 105 #[.slice (some ⟨g, 0, none⟩) n cap, .int .i64 (n : Int), .func (.func fn) #[] #[.pointer (some ⟨B, 0, none⟩)]] w fun e w' => e = .returned (.tuple #[]) ∧ ∃ f', DS w0 w' g n N f' ∧ PermOn 0 n f f' ∧ SortedOn K f' 0 n := by
  have HI := (show Hid (∀ i j, i < j → j < n → f i < f j) from hinc)
  have HC := (show Hid (CmpOk w0 g N K fn B) from C)
  clear hinc C
  go_enter Tryz.func105, Tryz.ntmps105
  go_wp2
  go_loopw [7, 8] (fun va vb wr => ∃ (t a : Nat) (fc : Nat → Nat), va = .int .i64 (a : Int) ∧ vb = .int .i64 ((a : Int) + 20) ∧ a = t * 20 ∧ a ≤ n ∧ DS w0 wr g n N fc ∧ Hid (PermOn 0 n f fc ∧ Some1 K fc 20 (t * 20) n)) (fun va _ _ => n + 1 - (intOf va).toNat)
  case atStart => exact ⟨0, 0, f, rfl, rfl, rfl, Nat.zero_le _, h, PermOn.refl _ _ _, by rw [Nat.zero_mul]; exact Some1.start HI.out⟩
  case round =>
    clear h
    obtain ⟨t, a, fc, rfl, rfl, hta, han, hd, HS⟩ := hrel
    have HT := (show Hid (a = t * 20) from hta)
    clear hta
    by_cases hlt : a + 20 ≤ n
    · have hlI : (a : Int) + 20 ≤ (n : Int) := by omega
      go_wp2_with fail
      refine (insertion_i g n cap N fn B K w0 HC.out hn a (a + 20) _ _ rfl (by omega) fc _ hd (by omega) hlt (fun x y h1 h2 h3 h4 => by have := HT.out; exact HS.out.2.inc x y (by omega) h2 (by omega) (by omega))).mono ?_
      rintro e w1 ⟨rfl, f', hd1, hm⟩
      go_wp2
      go_roundw
      case rel =>
        have ht := HT.out
        subst ht
        exact ⟨t + 1, t * 20 + 20, f', by go_num, by congr 1, by omega, hlt, hd1, HS.out.1.trans (hm.1.mono (by omega) (by omega)), Some1.next (by omega) hlt HS.out.2 hm⟩
      case measure => simp [intOf]; omega
    · have hlI : ¬ (a : Int) + 20 ≤ (n : Int) := by omega
      go_wp2_with fail
      refine (insertion_i g n cap N fn B K w0 HC.out hn a n _ _ rfl rfl fc _ hd (by omega) (Nat.le_refl _) (fun x y h1 h2 h3 h4 => by have := HT.out; exact HS.out.2.inc x y (by omega) h2 (by omega) (by omega))).mono ?_
      rintro e w1 ⟨rfl, f1, hd1, hm⟩
      have HB := (show Hid (PermOn 0 n f f1 ∧ Blks K f1 20 n) from by
        have ht := HT.out
        subst ht
        exact ⟨HS.out.1.trans (hm.1.mono (by omega) (by omega)), Some1.last (by omega) HS.out.2 (by omega) hm⟩)
      clear hm HS HT hd
      go_wp2
      go_loopw [6] (fun vB wr => ∃ (Bs : Nat) (fc : Nat → Nat), vB = .int .i64 (Bs : Int) ∧ 20 ≤ Bs ∧ Bs ≤ 4096 ∧ DS w0 wr g n N fc ∧ Hid (PermOn 0 n f fc ∧ Blks K fc Bs n)) (fun vB _ => n - (intOf vB).toNat)
      case atStart => exact ⟨20, f1, rfl, by omega, by omega, hd1, HB.out⟩
      case round =>
        clear hd1 HB
        obtain ⟨Bs, fc, rfl, hB1, hB2, hd, HB⟩ := hrel
        by_cases hBn : Bs < n
        · have HS0 := (show Hid (PermOn 0 n f fc ∧ Some2 K fc Bs (0 * (2 * Bs)) n) from ⟨HB.out.1, by rw [Nat.zero_mul]; exact Some2.start HB.out.2⟩)
          go_wp2
          go_loopw [7, 8] (fun va vb wr => ∃ (t a : Nat) (fd : Nat → Nat), va = .int .i64 (a : Int) ∧ vb = .int .i64 ((a : Int) + 2 * (Bs : Int)) ∧ a = t * (2 * Bs) ∧ a ≤ n ∧ DS w0 wr g n N fd ∧ Hid (PermOn 0 n f fd ∧ Some2 K fd Bs (t * (2 * Bs)) n)) (fun va _ _ => n + 1 - (intOf va).toNat)
          case atStart => exact ⟨0, 0, fc, rfl, by congr 1; omega, by omega, Nat.zero_le _, hd, HS0.out⟩
          case round =>
            clear hd HB HS0
            obtain ⟨t, a, fd, rfl, rfl, hta, han, hd, HS⟩ := hrel
            have HT := (show Hid (a = t * (2 * Bs)) from hta)
            clear hta
            by_cases hlt : a + 2 * Bs ≤ n
            · have hlI : (a : Int) + 2 * (Bs : Int) ≤ (n : Int) := by omega
              have hp := HS.out.2.pre (b := a + 2 * Bs) (by omega) (by rw [HT.out]; exact Nat.le_refl _) hlt
              rw [← HT.out, show min (a + Bs) n = a + Bs from by omega] at hp
              have HP := (show Hid (SortedOn K fd a (a + Bs) ∧ SortedOn K fd (a + Bs) (a + 2 * Bs) ∧ Ahead fd a (a + Bs) (a + 2 * Bs)) from hp)
              clear hp
              go_wp2_with fail
              refine (sym_i g n cap N fn B K w0 HC.out hn a (a + Bs) (a + 2 * Bs) _ _ _ rfl (by omega) (by omega) fd _ hd (by omega) (by omega) hlt HP.out.1 HP.out.2.1 HP.out.2.2).mono ?_
              rintro e w1 ⟨rfl, f', hd1, hm⟩
              go_wp2
              go_roundw
              case rel =>
                have ht := HT.out
                subst ht
                exact ⟨t + 1, t * (2 * Bs) + 2 * Bs, f', by congr 1 <;> omega, by congr 1 <;> omega, by rw [Nat.add_mul]; omega, hlt, hd1, HS.out.1.trans (hm.1.mono (by omega) (by omega)), Some2.next (by omega) hlt HS.out.2 hm⟩
              case measure => simp [intOf]; omega
            · have hlI : ¬ (a : Int) + 2 * (Bs : Int) ≤ (n : Int) := by omega
              have hp := HS.out.2.pre (b := n) (by omega) (by rw [← HT.out]; omega) (Nat.le_refl _)
              rw [← HT.out] at hp
              have HP := (show Hid (SortedOn K fd a (min (a + Bs) n) ∧ SortedOn K fd (a + Bs) n ∧ Ahead fd a (a + Bs) n) from hp)
              clear hp
              by_cases hmn : a + Bs < n
              · have hmI : (a : Int) + (Bs : Int) < (n : Int) := by omega
                go_wp2_with fail
                refine (sym_i g n cap N fn B K w0 HC.out hn a (a + Bs) n _ _ _ rfl (by omega) rfl fd _ hd (by omega) (by omega) (Nat.le_refl _) (by have := HP.out.1; rwa [show min (a + Bs) n = a + Bs from by omega] at this) HP.out.2.1 HP.out.2.2).mono ?_
                rintro e w1 ⟨rfl, f', hd1, hm⟩
                go_wp2
                go_roundw
                case rel =>
                  have ht := HT.out
                  subst ht
                  exact ⟨2 * Bs, f', by congr 1 <;> omega, by omega, by omega, hd1, HS.out.1.trans (hm.1.mono (by omega) (by omega)), Some2.last (by omega) HS.out.2 (by omega) hm⟩
                case measure => simp [intOf]; omega
              · have hmI : ¬ (a : Int) + (Bs : Int) < (n : Int) := by omega
                go_wp2
                go_roundw
                case rel =>
                  have ht := HT.out
                  subst ht
                  have hm : Merged K (t * (2 * Bs)) n fd fd := ⟨PermOn.refl _ _ _, by have := HP.out.1; rwa [show min (t * (2 * Bs) + Bs) n = n from by omega] at this⟩
                  exact ⟨2 * Bs, fd, by congr 1 <;> omega, by omega, by omega, hd, HS.out.1, Some2.last (by omega) HS.out.2 (by omega) hm⟩
                case measure => simp [intOf]; omega
        · have hBI : ¬ (Bs : Int) < (n : Int) := by omega
          go_wp2
          go_end0
          exact ⟨rfl, fc, hd, HB.out.1, HB.out.2.whole (by omega)⟩

set_option maxHeartbeats 1000000 in
theorem sortStable_any (g n cap N fn B : Nat) (K f : Nat → Nat) (w0 w : World) (h : DS w0 w g n N f) (C : CmpOk w0 g N K fn B) (hn : n ≤ 1024) (hinc : ∀ i j, i < j → j < n → f i < f j) :
    Calls Tryz.prog 85 #[.slice (some ⟨g, 0, none⟩) n cap, .func (.func fn) #[] #[.pointer (some ⟨B, 0, none⟩)]] w fun e w' => e = .returned (.tuple #[]) ∧ ∃ f', DS w0 w' g n N f' ∧ PermOn 0 n f f' ∧ SortedOn K f' 0 n := by
  have HS := (show Hid (CmpOk w0 g N K fn B ∧ ∀ i j, i < j → j < n → f i < f j) from ⟨C, hinc⟩)
  clear hinc C
  go_enter Tryz.func85, Tryz.ntmps85
  go_wp2_with fail
  refine (stable_any g n cap N fn B K f w0 _ h HS.out.1 hn HS.out.2).mono ?_
  rintro e w1 ⟨rfl, h1⟩
  go_wp2
  go_end0
  exact ⟨rfl, h1⟩

end Go.Proofs.YtcoahkmiebeeeaaGreatDoor.C5

namespace Go.Proofs.YtcoahkmiebeeeaaGreatDoor.C5
open Go.RowKit Go.Shelf

/-- The slice at a reads as the numbers xs of kind k, which lie in block gb from off on. -/
structure Row (w : World) (k : IntKind) (a : Option Addr) (cap gb off : Nat) (xs : List Nat) : Prop where
  at_ : a = some (⟨gb, off, none⟩ : Addr) ∨ xs = []
  cells : ∀ j, j < xs.length → w.cell? ⟨gb, off + j, none⟩ = some (.int k ((xs[j]?.getD 0 : Nat) : Int))
  le : xs.length ≤ cap
theorem Row.block {w : World} {k : IntKind} {a : Option Addr} {cap gb off : Nat} {xs : List Nat} (h : Row w k a cap gb off xs) (hb : xs ≠ []) : gb < w.heap.size :=
  World.block_lt_of_cell? w ⟨gb, off + 0, none⟩ (h.cells 0 (List.length_pos_iff.2 hb))
theorem Row.keep {w w' : World} {S : Nat → Prop} {k : IntKind} {a : Option Addr} {cap gb off : Nat} {xs : List Nat} (h : Row w k a cap gb off xs) (hk : Keep S w w') (hS : xs ≠ [] → ¬ S gb) : Row w' k a cap gb off xs :=
  ⟨h.at_, fun j hj => by
    have hne : xs ≠ [] := by rintro rfl; simp at hj
    exact (World.cell?_of_block (hk.block gb (h.block hne) (hS hne))).trans (h.cells j hj), h.le⟩
def numOf (xs : List Nat) (i : Nat) : Nat := xs[i]?.getD 0

set_option maxHeartbeats 400000 in
theorem isNaN32_any (x : Int) (w : World) : Calls Tryz.prog 106 #[.int .u32 x] w fun e w' => e = .returned (.bool false) ∧ w' = w := by
  have h : (x != x) = false := by simp
  go_enter Tryz.func106, Tryz.ntmps106
  go_wp2
  go_ret
  exact ⟨rfl, rfl⟩

set_option maxHeartbeats 400000 in
theorem compare32_any (x y : Nat) (w : World) : Calls Tryz.prog 87 #[.int .u32 (x : Int), .int .u32 (y : Int)] w fun e w' => e = .returned (.int .i64 (if x < y then -1 else if y < x then 1 else 0)) ∧ w' = w := by
  by_cases h1 : x < y
  · have h1' : (x : Int) < (y : Int) := by omega
    rw [if_pos h1]
    go_enter Tryz.func87, Tryz.ntmps87
    go_wp2_with (go_at_call 106; refine (isNaN32_any _ _).mono ?_; rintro e w' ⟨rfl, rfl⟩)
    go_ret
    exact ⟨rfl, rfl⟩
  · have h1' : ¬ (x : Int) < (y : Int) := by omega
    rw [if_neg h1]
    by_cases h2 : y < x
    · have h2' : (y : Int) < (x : Int) := by omega
      rw [if_pos h2]
      go_enter Tryz.func87, Tryz.ntmps87
      go_wp2_with (go_at_call 106; refine (isNaN32_any _ _).mono ?_; rintro e w' ⟨rfl, rfl⟩)
      go_ret
      exact ⟨rfl, rfl⟩
    · have h2' : ¬ (y : Int) < (x : Int) := by omega
      rw [if_neg h2]
      go_enter Tryz.func87, Tryz.ntmps87
      go_wp2_with (go_at_call 106; refine (isNaN32_any _ _).mono ?_; rintro e w' ⟨rfl, rfl⟩)
      go_ret
      exact ⟨rfl, rfl⟩

set_option maxHeartbeats 1000000 in
theorem places32_any (B cap gb off x y : Nat) (a : Option Addr) (xs : List Nat) (w : World) (hB : w.heap[B]? = some (.cells #[.slice a xs.length cap] 101 (0, 0))) (hR : Row w .u32 a cap gb off xs) (hx : x < xs.length) (hy : y < xs.length) :
    Calls Tryz.prog 86 #[.int .i64 (x : Int), .int .i64 (y : Int), .pointer (some ⟨B, 0, none⟩)] w fun e w' => e = .returned (.int .i64 (cmpOf (numOf xs) x y)) ∧ ∃ q, w' = w.drewN q := by
  have hc0 : w.cell? ⟨B, 0, none⟩ = some (.slice a xs.length cap) := cell_of hB 0
  obtain rfl : a = some ⟨gb, off, none⟩ := by
    rcases hR.at_ with h | h
    · exact h
    · rw [h] at hx; simp at hx
  have c1 := hR.cells x hx
  have c2 := hR.cells y hy
  have hq : ∀ W, _ := fun W => compare32_any (xs[x]?.getD 0) (xs[y]?.getD 0) W
  have hd : (if xs[x]?.getD 0 < xs[y]?.getD 0 then (-1 : Int) else if xs[y]?.getD 0 < xs[x]?.getD 0 then 1 else 0) = cmpOf (numOf xs) x y := rfl
  rw [hd] at hq
  generalize cmpOf (numOf xs) x y = cv at hq ⊢
  generalize xs[x]?.getD 0 = x1 at c1 hq
  generalize xs[y]?.getD 0 = x2 at c2 hq
  have HQ : Hid (∀ W, _) := hq
  clear hq hd hB hR
  have hxI : (x : Int) < (xs.length : Int) := by omega
  have hyI : (y : Int) < (xs.length : Int) := by omega
  go_enter Tryz.func86, Tryz.ntmps86
  go_wp2_with fail
  go_quiet (first | (go_at_call 87; refine Calls.quiet_of ((HQ.out _).mono (fun e w' h => ⟨h.1, 0, h.2⟩))))
  go_wp2
  go_ret
  exact ⟨rfl, nq, rfl⟩

theorem cmpOk32 (B cap gb off g : Nat) (a : Option Addr) (xs : List Nat) (w0 : World) (hB : w0.heap[B]? = some (.cells #[.slice a xs.length cap] 101 (0, 0))) (hR : Row w0 .u32 a cap gb off xs) (h1 : B ≠ g) (h2 : xs ≠ [] → gb ≠ g) : CmpOk w0 g xs.length (numOf xs) 86 B :=
  ⟨enters_of Tryz.func86 (by kernel_rfl) rfl, fun W hW x y hx hy => places32_any B cap gb off x y a xs W (hW.obj hB h1) (hR.keep hW h2) hx hy⟩

end Go.Proofs.YtcoahkmiebeeeaaGreatDoor.C5

namespace Go.Proofs.YtcoahkmiebeeeaaGreatDoor.C5
open Go.RowKit Go.Shelf

/-- P has the places below n whose number is not 0, in the order of their numbers, equal ones as they come. -/
structure IsOrder (K : Nat → Nat) (n : Nat) (P : List Nat) : Prop where
  sorted : P.Pairwise (Lx K)
  mem : ∀ x, x ∈ P ↔ x < n ∧ K x ≠ 0
  len : P.length = ((List.range n).filter (fun i => K i != 0)).length

theorem sorted_same {K : Nat → Nat} : ∀ {P Q : List Nat}, P.Pairwise (Lx K) → Q.Pairwise (Lx K) → (∀ x, x ∈ P ↔ x ∈ Q) → P = Q
  | [], [], _, _, _ => rfl
  | [], q :: Q, _, _, h => absurd ((h q).2 (List.mem_cons_self ..)) (by simp)
  | p :: P, [], _, _, h => absurd ((h p).1 (List.mem_cons_self ..)) (by simp)
  | p :: P, q :: Q, hp, hq, h => by
    obtain ⟨hp1, hp2⟩ := List.pairwise_cons.1 hp
    obtain ⟨hq1, hq2⟩ := List.pairwise_cons.1 hq
    have e : p = q := by
      rcases List.mem_cons.1 ((h p).1 (List.mem_cons_self ..)) with e | e
      · exact e
      · rcases List.mem_cons.1 ((h q).2 (List.mem_cons_self ..)) with e' | e'
        · exact e'.symm
        · exact ((hq1 p e).trans (hp1 q e')).irrefl.elim
    subst e
    rw [sorted_same hp2 hq2 (fun x => ⟨fun hx => ?_, fun hx => ?_⟩)]
    · rcases List.mem_cons.1 ((h x).1 (List.mem_cons_of_mem _ hx)) with e | e
      · subst e; exact (hp1 x hx).irrefl.elim
      · exact e
    · rcases List.mem_cons.1 ((h x).2 (List.mem_cons_of_mem _ hx)) with e | e
      · subst e; exact (hq1 x hx).irrefl.elim
      · exact e
theorem IsOrder.same {K : Nat → Nat} {n : Nat} {P Q : List Nat} (h : IsOrder K n P) (k : IsOrder K n Q) : P = Q :=
  sorted_same h.sorted k.sorted (fun x => (h.mem x).trans (k.mem x).symm)

def placesTo (K : Nat → Nat) (i : Nat) : List Nat := (List.range i).filter (fun j => K j != 0)
theorem placesTo_succ (K : Nat → Nat) (i : Nat) : placesTo K (i + 1) = if K i = 0 then placesTo K i else placesTo K i ++ [i] := by
  unfold placesTo
  rw [List.range_succ, List.filter_append]
  by_cases h : K i = 0
  · simp [h]
  · simp [h]
theorem placesTo_len (K : Nat → Nat) (i : Nat) : (placesTo K i).length ≤ i := by
  unfold placesTo
  exact Nat.le_trans (List.length_filter_le _ _) (by simp)
theorem placesTo_mem (K : Nat → Nat) (i x : Nat) : x ∈ placesTo K i ↔ x < i ∧ K x ≠ 0 := by simp [placesTo]
theorem placesTo_inc (K : Nat → Nat) (i : Nat) : (placesTo K i).Pairwise (· < ·) := List.Pairwise.sublist List.filter_sublist List.pairwise_lt_range

def ints (P : List Nat) : List Value := P.map (fun p => Value.int .i64 ((p : Nat) : Int))
theorem ints_at (P : List Nat) (j : Nat) (hj : j < P.length) : (ints P)[j]? = some (.int .i64 ((P[j]?.getD 0 : Nat) : Int)) := by simp [ints, hj]
theorem info3 : (Tryz.prog.info? 3).map (fun i => (i.zero, i.size, i.bytes)) = some (some (.int .i64 0), 1, 8) := by kernel_rfl

theorem order_of (K f' : Nat → Nat) (n : Nat) (hp : PermOn 0 (placesTo K n).length (fun i => (placesTo K n)[i]?.getD 0) f') (hs : SortedOn K f' 0 (placesTo K n).length) :
    IsOrder K n ((List.range (placesTo K n).length).map f') := by
  refine ⟨?_, fun x => ?_, by simp [placesTo]⟩
  · rw [List.pairwise_map]
    refine List.Pairwise.imp_of_mem ?_ List.pairwise_lt_range
    intro a b ha hb hab
    exact hs a b (Nat.zero_le _) hab (List.mem_range.1 hb)
  · rw [← placesTo_mem, List.mem_map]
    constructor
    · rintro ⟨k, hk, rfl⟩
      obtain ⟨i, _, hi, e⟩ := hp.inn k (Nat.zero_le _) (List.mem_range.1 hk)
      rw [e, List.getElem?_eq_getElem hi]
      exact List.getElem_mem hi
    · intro hx
      obtain ⟨i, hi, e⟩ := List.mem_iff_getElem.1 hx
      obtain ⟨s, t, p1, p2, p3, p4⟩ := hp
      refine ⟨t i, ?_, ?_⟩
      · rw [List.mem_range]
        by_cases h : t i < (placesTo K n).length
        · exact h
        · have := p4 (t i) (by omega)
          rw [p2] at this
          omega
      · rw [p1, p2]
        simp [hi, e]

theorem owns_cell {W : World} {base g cap : Nat} {P : List Nat} (h : W.ownsRow base 3 1 (.slice (some ⟨g, 0, none⟩) P.length cap) P.length (ints P)) :
    ∃ cs, W.heap[g]? = some (.cells cs 3 (0, 0)) ∧ P.length ≤ cap ∧ base ≤ g ∧ ∀ i, i < P.length → cs[i]? = some (.int .i64 ((P[i]?.getD 0 : Nat) : Int)) := by
  rcases h.2 with ⟨e, _⟩ | ⟨g', cap', cur, e, hb, hg, h1, h2, h3, h4⟩
  · cases e
  · simp only [Value.slice.injEq, Option.some.injEq, Addr.mk.injEq] at e
    obtain ⟨⟨rfl, _⟩, _, rfl⟩ := e
    refine ⟨cur, hg, h1, hb, fun i hi => ?_⟩
    have := ints_at P i hi
    rw [← h4, List.getElem?_take, if_pos (by omega)] at this
    simpa using this

set_option maxRecDepth 100000 in
set_option maxHeartbeats 2000000 in
theorem order32_any (a : Option Addr) (cap gb off : Nat) (xs : List Nat) (w : World) (hR : Row w .u32 a cap gb off xs) (hl : xs.length ≤ 1024) :
    Calls Tryz.prog 64 #[.slice a xs.length cap] w fun e w' => ∃ g cap' P, e = .returned (.slice (some ⟨g, 0, none⟩) P.length cap') ∧ w.heap.size ≤ g ∧ g < w'.heap.size ∧ Row w' .i64 (some ⟨g, 0, none⟩) cap' g 0 P ∧ IsOrder (numOf xs) xs.length P ∧ Keep noBlock w w' := by
  obtain ⟨i0, hi, hz0, hz1, hz2⟩ := info_parts info3
  have hmk : ∀ W : World, (Instr.makeSlice 128 (.int .i64 0) (.int .i64 (xs.length : Int))).run Tryz.prog W = .ok (.slice (some ⟨W.heap.size, 0, none⟩) 0 xs.length) (W.alloc (.cells (madeCells #[.int .i64 0] xs.length) 3)) := fun W => by
    have := run_make (P := Tryz.prog) W 128 3 i0 (.int .i64 0) Tryz.underlying128 hi hz0 .i64 .i64 0 (xs.length : Int) (by omega) (by omega) (by rw [hz2]; omega) (by omega)
    rw [hz1] at this
    simpa [Value.cells] using this
  have hown0 : ((w.alloc (.cells #[.slice a xs.length cap] 101)).alloc (.cells (madeCells #[.int .i64 0] xs.length) 3)).ownsRow (w.heap.size + 1) 3 1 (.slice (some ⟨w.heap.size + 1, 0, none⟩) 0 xs.length) 0 [] := by
    have := World.ownsRow_made (e := 3) (size := 1) (base := w.heap.size + 1) (w.alloc (.cells #[.slice a xs.length cap] 101)) (madeCells #[.int .i64 0] xs.length) xs.length (by simp) (by unfold maxLen; omega) (by simp [size_madeCells])
    simpa using this
  have hk0 : Keep noBlock w ((w.alloc (.cells #[.slice a xs.length cap] 101)).alloc (.cells (madeCells #[.int .i64 0] xs.length) 3)) := ((Keep.refl _ w).alloc _).alloc _
  have hb0 : ((w.alloc (.cells #[.slice a xs.length cap] 101)).alloc (.cells (madeCells #[.int .i64 0] xs.length) 3)).heap[w.heap.size]? = some (.cells #[.slice a xs.length cap] 101 (0, 0)) := alloc_far (World.alloc_heap_new w _) _
  have hcb := cell_of (World.alloc_heap_new w (.cells #[.slice a xs.length cap] 101)) 0
  have hcb2 := cell_of hb0 0
  simp at hcb hcb2
  have HR := (show Hid (Row w .u32 a cap gb off xs) from hR)
  clear hR
  go_enter Tryz.func64, Tryz.ntmps64
  go_wp2
  have H0 := (show Hid (_ ∧ _ ∧ _) from ⟨hown0, hk0, hb0⟩)
  clear hown0 hk0 hb0 hcb hcb2
  generalize (w.alloc (.cells #[.slice a xs.length cap] 101)).alloc (.cells (madeCells #[.int .i64 0] xs.length) 3) = W0 at H0 ⊢
  go_loopw [3, 11] (fun vp vi wr => ∃ (i g cap' : Nat) (P : List Nat), vi = .int .i64 (i : Int) ∧ vp = .slice (some ⟨g, 0, none⟩) P.length cap' ∧ i ≤ xs.length ∧ P = placesTo (numOf xs) i ∧ wr.ownsRow (w.heap.size + 1) 3 1 (.slice (some ⟨g, 0, none⟩) P.length cap') P.length (ints P) ∧ Keep noBlock w wr ∧ wr.heap[w.heap.size]? = some (.cells #[.slice a xs.length cap] 101 (0, 0))) (fun _ vi _ => xs.length - (intOf vi).toNat)
  case atStart => exact ⟨0, w.heap.size + 1, xs.length, [], rfl, rfl, Nat.zero_le _, rfl, H0.out.1, H0.out.2.1, H0.out.2.2⟩
  case round =>
    clear H0
    obtain ⟨i, g, cap', P, rfl, rfl, hi2, hP, hown, hk, hbx⟩ := hrel
    by_cases hlt : i < xs.length
    · have hRw := HR.out.keep hk (fun _ h => h)
      obtain rfl : a = some ⟨gb, off, none⟩ := by
        rcases hRw.at_ with h | h
        · exact h
        · rw [h] at hlt; simp at hlt
      have c1 := hRw.cells i hlt
      have hPl := placesTo_len (numOf xs) i
      rw [← hP] at hPl
      have hPs := placesTo_succ (numOf xs) i
      rw [← hP] at hPs
      have hnum : xs[i]?.getD 0 = numOf xs i := rfl
      rw [hnum] at c1
      by_cases hz : numOf xs i = 0
      · rw [if_pos hz] at hPs
        rw [hz] at c1
        have HP := (show Hid _ from hPs)
        clear hPs hP hnum hRw
        go_wp2
        go_roundw
        case rel => exact ⟨i + 1, g, cap', P, by go_num, rfl, by omega, HP.out.symm, hown, hk, hbx⟩
        case measure => simp [intOf]; omega
      · rw [if_neg hz] at hPs
        have HP := (show Hid _ from hPs)
        have hnz : ((numOf xs i : Nat) : Int) ≠ 0 := by omega
        have hnb : (((numOf xs i : Nat) : Int) != 0) = true := by simpa using hnz
        have hmax : P.length + 1 ≤ maxLen := by unfold maxLen; omega
        have hby : (P.length + 1) * 8 ≤ 140737488355328 := by omega
        have hsz := hk.size
        have hbase : w.heap.size + 1 ≤ (wr.alloc (.cells #[.int .i64 (i : Int)] 3)).heap.size := by simp; omega
        clear hPs hP hnum hRw
        go_wp2_with (at_builtin; refine wpList_append_lies _ rfl _ _ 128 rfl (w.heap.size + 1) 3 i0 (.int .i64 0) 1 8 Tryz.underlying128 hi hz0 hz1 hz2 rfl (by decide) (.slice (some ⟨g, 0, none⟩) P.length cap') P.length (ints P) rfl (hown.alloc _) ⟨wr.heap.size, 0, none⟩ 1 1 [.int .i64 (i : Int)] rfl rfl (cell_one_new _ _ _) (by simp [Value.oneCell']) (by decide) hmax hby hbase (wr.heap.size + 1) (by simp) ?_; intro g2 cap2 w2 hown2 hgrow hat hltg)
        go_roundw
        case rel =>
          obtain ⟨cs, hcg, _, hbg, _⟩ := owns_cell hown
          refine ⟨i + 1, g2, cap2, P ++ [i], by go_num, by simp, by omega, HP.out.symm, by simpa [ints] using hown2, (hk.alloc _).grown hgrow (fun k e hk' => ?_), ?_⟩
          · have : g = k := by simpa [Value.ownBlock] using e
            omega
          · refine (hgrow.block _ (by simp; omega) (fun e => ?_)).trans (alloc_far hbx _)
            have : w.heap.size = g := by simpa [Value.ownBlock] using e
            omega
        case measure => simp [intOf]; omega
    · obtain rfl : i = xs.length := by omega
      obtain ⟨cs, hcg, hle, hbg, hcs⟩ := owns_cell hown
      have hlen := placesTo_len (numOf xs) xs.length
      have hsub : ∀ x ∈ P, x < xs.length := by rw [hP]; intro x hx; exact ((placesTo_mem _ _ _).1 hx).1
      have hDS : DS wr wr g P.length xs.length (fun i => P[i]?.getD 0) := ⟨⟨cs, hcg, hcs⟩, Keep.refl _ _, fun i hi => hsub _ (by rw [List.getElem?_eq_getElem hi]; exact List.getElem_mem hi)⟩
      have hgb : xs ≠ [] → gb ≠ g := fun hne => by have := HR.out.block hne; omega
      have hC := cmpOk32 w.heap.size cap gb off g a xs wr hbx (HR.out.keep hk (fun _ h => h)) (by omega) hgb
      have hinc : ∀ i j, i < j → j < P.length → P[i]?.getD 0 < P[j]?.getD 0 := fun i j h1 h2 => by
        have := List.pairwise_iff_getElem.1 (placesTo_inc (numOf xs) xs.length)
        rw [← hP] at this
        rw [List.getElem?_eq_getElem h2, List.getElem?_eq_getElem (show i < P.length by omega)]
        exact this i j (by omega) h2 h1
      have HC := (show Hid (CmpOk wr g xs.length (numOf xs) 86 w.heap.size ∧ (∀ i j, i < j → j < P.length → P[i]?.getD 0 < P[j]?.getD 0) ∧ P = placesTo (numOf xs) xs.length) from ⟨hC, hinc, hP⟩)
      have hPl : P.length ≤ 1024 := by rw [hP]; omega
      clear hC hinc hcs hcg hown hP hlen
      go_wp2_with fail
      refine (sortStable_any g P.length cap' xs.length 86 w.heap.size (numOf xs) (fun i => P[i]?.getD 0) wr _ hDS HC.out.1 hPl HC.out.2.1).mono ?_
      rintro e w1 ⟨rfl, f', hd1, hp1, hs1⟩
      go_wp2
      go_ret
      obtain ⟨cs', ho', hc'⟩ := hd1.row
      have hPe := HC.out.2.2
      have hlen' : ((List.range P.length).map f').length = P.length := by simp
      refine ⟨g, cap', (List.range P.length).map f', by simp, by omega, obj_lt ho', ⟨.inl rfl, fun j hj => ?_, by rw [hlen']; exact hle⟩, ?_, hk.trans hd1.keep (fun i hi e => by omega)⟩
      · rw [hlen'] at hj
        rw [Nat.zero_add, cell_of ho', hc' j hj]
        simp [hj]
      · rw [hPe] at hp1 hs1 ⊢
        exact order_of (numOf xs) f' xs.length hp1 hs1

end Go.Proofs.YtcoahkmiebeeeaaGreatDoor.C5

namespace Go.Proofs.YtcoahkmiebeeeaaGreatDoor.C5
open Go.RowKit Go.Shelf

def itemCs (L : List (Nat × Bool)) : List Value := L.flatMap (fun p => [Value.int .u64 ((p.1 : Nat) : Int), Value.bool p.2])
theorem itemCs_length (L : List (Nat × Bool)) : (itemCs L).length = L.length * 2 := by
  induction L with
  | nil => rfl
  | cons p L ih => simp only [itemCs, List.flatMap_cons] at ih ⊢; rw [List.length_append, ih]; simp; omega
theorem itemCs_at (L : List (Nat × Bool)) (i : Nat) (hi : i < L.length) : (itemCs L)[2 * i]? = some (.int .u64 ((L[i].1 : Nat) : Int)) ∧ (itemCs L)[2 * i + 1]? = some (.bool L[i].2) := by
  induction L generalizing i with
  | nil => simp at hi
  | cons p L ih =>
    cases i with
    | zero => exact ⟨rfl, rfl⟩
    | succ i =>
      have := ih i (by simpa using hi)
      simp only [itemCs, List.flatMap_cons] at this ⊢
      rw [show 2 * (i + 1) = 2 * i + 2 from by omega]
      exact this
theorem itemCs_one (L : List (Nat × Bool)) : ∀ u ∈ itemCs L, u.oneCell' = true := by
  intro u hu
  simp only [itemCs, List.mem_flatMap] at hu
  obtain ⟨p, _, hp⟩ := hu
  simp at hp
  rcases hp with rfl | rfl <;> rfl
theorem itemCs_append (L M : List (Nat × Bool)) : itemCs (L ++ M) = itemCs L ++ itemCs M := by simp [itemCs]
theorem info86 : (Tryz.prog.info? 132).map (fun i => (i.zero, i.size, i.bytes)) = some (some (.agg #[.int .u64 0, .bool false]), 2, 16) := by kernel_rfl

/-- The slice at a reads as the items L, which lie in block g from cell off on. -/
structure Items (w : World) (a : Option Addr) (cap g off : Nat) (L : List (Nat × Bool)) : Prop where
  at_ : a = some (⟨g, off, none⟩ : Addr) ∨ L = []
  cells : ∀ i (hi : i < L.length), w.cell? ⟨g, off + i * 2, none⟩ = some (.int .u64 ((L[i].1 : Nat) : Int)) ∧ w.cell? ⟨g, off + i * 2 + 1, none⟩ = some (.bool L[i].2)
  le : L.length ≤ cap
  lt : L ≠ [] → g < w.heap.size
theorem Items.keep {w w' : World} {S : Nat → Prop} {a : Option Addr} {cap g off : Nat} {L : List (Nat × Bool)} (h : Items w a cap g off L) (hk : Keep S w w') (hS : L ≠ [] → ¬ S g) : Items w' a cap g off L :=
  ⟨h.at_, fun i hi => by
    have hne : L ≠ [] := by rintro rfl; simp at hi
    have hb := World.cell?_of_block (a := ⟨g, off + i * 2, none⟩) (hk.block g (h.lt hne) (hS hne))
    have hb2 := World.cell?_of_block (a := ⟨g, off + i * 2 + 1, none⟩) (hk.block g (h.lt hne) (hS hne))
    exact ⟨hb.trans (h.cells i hi).1, hb2.trans (h.cells i hi).2⟩, h.le, fun hne => Nat.lt_of_lt_of_le (h.lt hne) hk.size⟩

def leaves (L : List (Nat × Bool)) : Nat := L.countP (fun p => p.2)
theorem leaves_take (L : List (Nat × Bool)) (i : Nat) (hi : i < L.length) : leaves (L.take (i + 1)) = leaves (L.take i) + (if L[i].2 then 1 else 0) := by
  unfold leaves
  rw [List.take_add_one, List.countP_append, List.getElem?_eq_getElem hi]
  simp [List.countP_cons]

set_option maxRecDepth 100000 in
set_option maxHeartbeats 1000000 in
theorem leavesIn_any (a : Option Addr) (cap g off : Nat) (L : List (Nat × Bool)) (w : World) (h : Items w a cap g off L) (hl : L.length ≤ 4096) :
    Calls Tryz.prog 90 #[.slice a L.length cap] w fun e w' => e = .returned (.int .i64 ((leaves L : Nat) : Int)) ∧ Keep noBlock w w' := by
  have HI := (show Hid (Items w a cap g off L) from h)
  clear h
  go_enter Tryz.func90, Tryz.ntmps90
  go_wp2
  go_loopw [3, 8] (fun vn vi wr => ∃ i : Nat, vi = .int .i64 (i : Int) ∧ i ≤ L.length ∧ vn = .int .i64 ((leaves (L.take i) : Nat) : Int) ∧ Keep noBlock w wr) (fun _ vi _ => L.length - (intOf vi).toNat)
  case atStart => exact ⟨0, rfl, Nat.zero_le _, rfl, Keep.refl _ _⟩
  case round =>
    obtain ⟨i, rfl, hi, rfl, hk⟩ := hrel
    by_cases hlt : i < L.length
    · have hIw := HI.out.keep hk (fun _ h => h)
      obtain rfl : a = some ⟨g, off, none⟩ := by
        rcases hIw.at_ with h | h
        · exact h
        · rw [h] at hlt; simp at hlt
      obtain ⟨c1, c2⟩ := hIw.cells i hlt
      have hle : leaves (L.take i) ≤ 4096 := Nat.le_trans List.countP_le_length (by rw [List.length_take]; omega)
      have HL := (show Hid _ from leaves_take L i hlt)
      obtain ⟨x1, hx1⟩ : ∃ x, L[i].1 = x := ⟨_, rfl⟩
      obtain ⟨x2, hx2⟩ : ∃ x, L[i].2 = x := ⟨_, rfl⟩
      rw [hx1] at c1
      rw [hx2] at c2 HL
      generalize leaves (L.take i) = lv at hle HL ⊢
      clear hx1 hx2 hIw
      cases x2 with
      | true =>
        go_wp2
        go_roundw
        case rel => exact ⟨i + 1, by go_num, by omega, by rw [HL.out]; go_num, hk.alloc _⟩
        case measure => simp [intOf]; omega
      | false =>
        go_wp2
        go_roundw
        case rel => exact ⟨i + 1, by go_num, by omega, by rw [HL.out]; rfl, hk.alloc _⟩
        case measure => simp [intOf]; omega
    · obtain rfl : i = L.length := by omega
      rw [List.take_length]
      go_wp2
      go_ret
      exact ⟨rfl, hk⟩

def pairsL (L : List (Nat × Bool)) : List (Nat × Bool) := (List.range (L.length / 2)).map (fun i => ((L[2 * i]?.getD (0, false)).1 + (L[2 * i + 1]?.getD (0, false)).1, false))
theorem pairsL_length (L : List (Nat × Bool)) : (pairsL L).length = L.length / 2 := by simp [pairsL]

def OwnI (W : World) (base g cap : Nat) (L : List (Nat × Bool)) : Prop := W.ownsRow base 132 2 (.slice (some ⟨g, 0, none⟩) L.length cap) L.length (itemCs L)
theorem OwnI.items {W : World} {base g cap : Nat} {L : List (Nat × Bool)} (h : OwnI W base g cap L) : Items W (some ⟨g, 0, none⟩) cap g 0 L ∧ base ≤ g ∧ g < W.heap.size := by
  rcases h.2 with ⟨e, _⟩ | ⟨g', cap', cur, e, hb, hg, h1, h2, h3, h4⟩
  · cases e
  · simp only [Value.slice.injEq, Option.some.injEq, Addr.mk.injEq] at e
    obtain ⟨⟨rfl, _⟩, _, rfl⟩ := e
    refine ⟨⟨.inl rfl, fun i hi => ?_, h1, fun _ => obj_lt hg⟩, hb, obj_lt hg⟩
    obtain ⟨q1, q2⟩ := itemCs_at L i hi
    rw [← h4, List.getElem?_take, if_pos (by omega)] at q1 q2
    rw [Nat.zero_add, cell_of hg, cell_of hg, show i * 2 = 2 * i from by omega]
    exact ⟨by simpa using q1, by simpa using q2⟩

set_option maxRecDepth 100000 in
set_option maxHeartbeats 2000000 in
theorem pairs_any (a : Option Addr) (cap g off : Nat) (L : List (Nat × Bool)) (w : World) (h : Items w a cap g off L) (hl : L.length ≤ 4096) (hw : ∀ p ∈ L, p.1 < 4611686018427387904) :
    Calls Tryz.prog 89 #[.slice a L.length cap] w fun e w' => ∃ g2, e = .returned (.slice (some ⟨g2, 0, none⟩) (pairsL L).length (L.length / 2)) ∧ Items w' (some ⟨g2, 0, none⟩) (L.length / 2) g2 0 (pairsL L) ∧ w.heap.size ≤ g2 ∧ g2 < w'.heap.size ∧ Keep noBlock w w' := by
  obtain ⟨i0, hi, hz0, hz1, hz2⟩ := info_parts info86
  obtain ⟨m, hm⟩ : ∃ m, m = L.length / 2 := ⟨_, rfl⟩
  have hmk : ∀ W : World, (Instr.makeSlice 130 (.int .i64 (m : Int)) (.int .i64 (m : Int))).run Tryz.prog W = .ok (.slice (some ⟨W.heap.size, 0, none⟩) m m) (W.alloc (.cells (madeCells #[.int .u64 0, .bool false] (m * 2)) 132)) := fun W => by
    have := run_make (P := Tryz.prog) W 130 132 i0 (.agg #[.int .u64 0, .bool false]) Tryz.underlying130 hi hz0 .i64 .i64 (m : Int) (m : Int) (by omega) (by omega) (by rw [hz2]; omega) (by omega)
    rw [hz1] at this
    simpa [Value.cells] using this
  have hdiv : (L.length : Int).tdiv 2 = (m : Int) := by rw [Int.tdiv_eq_ediv_of_nonneg (by omega)]; omega
  have hdiv' : (L.length : Int) / 2 = (m : Int) := by omega
  have HI := (show Hid (Items w a cap g off L ∧ ∀ p ∈ L, p.1 < 4611686018427387904) from ⟨h, hw⟩)
  have hnew := World.alloc_heap_new w (.cells (madeCells #[.int .u64 0, .bool false] (m * 2)) 132)
  have hk0 : Keep noBlock w (w.alloc (.cells (madeCells #[.int .u64 0, .bool false] (m * 2)) 132)) := (Keep.refl _ w).alloc _
  have H0 := (show Hid (_ ∧ _) from ⟨hnew, hk0⟩)
  have HM0 := (show Hid (m = L.length / 2) from hm)
  have hmb : m ≤ 2048 := by omega
  clear h hw hnew hk0 hm
  go_enter Tryz.func89, Tryz.ntmps89
  go_wp2
  generalize w.alloc (.cells (madeCells #[.int .u64 0, .bool false] (m * 2)) 132) = W0 at H0 ⊢
  obtain ⟨g2, hg2⟩ : ∃ g2, g2 = w.heap.size := ⟨_, rfl⟩
  rw [← hg2] at H0 ⊢
  have HM := (show Hid (m = L.length / 2 ∧ g2 = w.heap.size) from ⟨HM0.out, hg2⟩)
  clear hg2 hmk HM0
  go_loopw [11] (fun vi wr => ∃ (i : Nat) (cs : Array Value), vi = .int .i64 (i : Int) ∧ i ≤ m ∧ wr.heap[g2]? = some (.cells cs 132 (0, 0)) ∧ cs.size = m * 2 ∧ (∀ j, j < m → cs[j * 2]? = some (.int .u64 (((if j < i then ((pairsL L)[j]?.getD (0, false)).1 else 0 : Nat)) : Int)) ∧ cs[j * 2 + 1]? = some (.bool false)) ∧ Keep noBlock w wr) (fun vi _ => m - (intOf vi).toNat)
  case atStart =>
    refine ⟨0, _, rfl, Nat.zero_le _, H0.out.1, by simp [size_madeCells], fun j hj => ?_, H0.out.2⟩
    have e1 : j * 2 < m * 2 := by omega
    have e2 : j * 2 + 1 < m * 2 := by omega
    have e3 : j * 2 % 2 = 0 := by omega
    have e4 : (j * 2 + 1) % 2 = 1 := by omega
    simp [madeCells, e1, e2, e3, e4]
  case round =>
    clear H0
    obtain ⟨i, cs, rfl, him, ho, hsz, hcs, hk⟩ := hrel
    by_cases hlt : i < m
    · have hml := HM.out.1
      have hIw := HI.out.1.keep hk (fun _ h => h)
      obtain rfl : a = some ⟨g, off, none⟩ := by
        rcases hIw.at_ with h | h
        · exact h
        · rw [h] at hml; simp at hml; omega
      have l1 : 2 * i < L.length := by omega
      have l2 : 2 * i + 1 < L.length := by omega
      have c1 := (hIw.cells (2 * i) l1).1
      have c2 := (hIw.cells (2 * i + 1) l2).1
      have b1 := HI.out.2 L[2 * i] (List.getElem_mem l1)
      have b2 := HI.out.2 L[2 * i + 1] (List.getElem_mem l2)
      have c3 := (cell_of ho (i * 2)).trans (hcs i hlt).1
      rw [if_neg (Nat.lt_irrefl _)] at c3
      have z3 := frozen_of ho (i * 2)
      have hset := set_obj ho (i * 2) (.int .u64 ((L[2 * i].1 : Int) + (L[2 * i + 1].1 : Int)))
      have hgne : g ≠ g2 := by have := HI.out.1.lt (by rintro rfl; simp at l1); have := HM.out.2; omega
      have HS := (show Hid ((wr.setCell ⟨g2, i * 2, none⟩ (.int .u64 ((L[2 * i].1 : Int) + (L[2 * i + 1].1 : Int)))).heap[g2]? = some (.cells (cs.setIfInBounds (i * 2) (.int .u64 ((L[2 * i].1 : Int) + (L[2 * i + 1].1 : Int)))) 132 (0, 0)) ∧ Keep noBlock w (wr.setCell ⟨g2, i * 2, none⟩ (.int .u64 ((L[2 * i].1 : Int) + (L[2 * i + 1].1 : Int)))).drew ∧
        ∀ j, j < m → (cs.setIfInBounds (i * 2) (.int .u64 ((L[2 * i].1 : Int) + (L[2 * i + 1].1 : Int))))[j * 2]? = some (.int .u64 (((if j < i + 1 then ((pairsL L)[j]?.getD (0, false)).1 else 0 : Nat)) : Int)) ∧ (cs.setIfInBounds (i * 2) (.int .u64 ((L[2 * i].1 : Int) + (L[2 * i + 1].1 : Int))))[j * 2 + 1]? = some (.bool false)) from ⟨hset, (hk.setCell (p := ⟨g2, i * 2, none⟩) (fun h => by have := HM.out.2; dsimp only at h; omega) _).drew, fun j hj => by
          refine ⟨?_, (Array.getElem?_setIfInBounds ..).trans ((if_neg (by omega)).trans (hcs j hj).2)⟩
          rw [Array.getElem?_setIfInBounds]
          by_cases e : i = j
          · subst e
            rw [if_pos rfl, if_pos (by omega), if_pos (by omega)]
            have hp : (pairsL L)[i]?.getD (0, false) = (L[2 * i].1 + L[2 * i + 1].1, false) := by simp [pairsL, ← hml, hlt, l1, l2]
            rw [hp]
            congr 2
          · rw [if_neg (by omega)]
            have := (hcs j hj).1
            by_cases e2 : j < i
            · rw [if_pos e2] at this; rw [if_pos (by omega)]; exact this
            · rw [if_neg e2] at this; rw [if_neg (by omega)]; exact this⟩)
      generalize L[2 * i].1 = x1 at c1 b1 HS
      generalize L[2 * i + 1].1 = x2 at c2 b2 HS
      have i1 : (2 : Int) * (i : Int) < (L.length : Int) := by omega
      have i2 : (2 : Int) * (i : Int) + 1 < (L.length : Int) := by omega
      clear hset ho hcs hk hIw hml hdiv hdiv' him
      go_wp2_with fail
      go_big_region
      all_goals go_wp2
      go_roundw
      case rel => exact ⟨i + 1, _, by go_num, by omega, HS.out.1, by rw [Array.size_setIfInBounds]; exact hsz, HS.out.2.2, HS.out.2.1⟩
      case measure => simp [intOf]; omega
    · obtain rfl : i = m := by omega
      clear hdiv hdiv'
      go_wp2
      go_ret
      obtain ⟨q1, q2⟩ := HM.out
      have hpl := pairsL_length L
      rw [← q1] at hpl
      refine ⟨g2, by rw [hpl, ← q1]; rfl, ⟨.inl rfl, fun j hj => ?_, by rw [hpl, ← q1]; exact Nat.le_refl _, fun _ => obj_lt ho⟩, by omega, obj_lt ho, hk⟩
      have := hcs j (by omega)
      rw [if_pos (by omega), List.getElem?_eq_getElem hj] at this
      rw [Nat.zero_add, cell_of ho, cell_of ho]
      refine ⟨this.1, this.2.trans ?_⟩
      simp [pairsL]

end Go.Proofs.YtcoahkmiebeeeaaGreatDoor.C5
