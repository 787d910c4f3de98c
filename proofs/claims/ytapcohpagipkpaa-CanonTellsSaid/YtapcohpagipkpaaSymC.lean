/-
  slices.symMergeCmpFunc, where both parts are two places or more: one step, the rest by those of fewer places.
-/
import Derived.Test.YtapcohpagipkpaaSymB
import Derived.Deep.DeepCutAuto
namespace Go.Proofs.Ytapcohpagipkpaa
open Go.RowKit Go.Shelf


set_option maxRecDepth 1000000 in
set_option maxHeartbeats 8000000 in
theorem sym_midB (g n cap N a m b mid fn B : Nat) (K f : Nat → Nat) (w0 w : World) (h : DS w0 w g n N f) (C : CmpOk w0 g N K fn B) (IH : SymTo g n cap N fn B K w0 (b - a)) (ham : a + 1 < m) (hmb : m + 1 < b) (hb : b ≤ n) (hn : n ≤ 1024) (hL : SortedOn K f a m) (hR : SortedOn K f m b) (hA : Ahead f a m b)
    (hmid : mid = (a + b) / 2) (hgt : ¬ mid < m) :
    Calls Try.prog 72 #[.slice (some ⟨g, 0, none⟩) n cap, .int .i64 (a : Int), .int .i64 (m : Int), .int .i64 (b : Int), .func (.func fn) #[] #[.pointer (some ⟨B, 0, none⟩)]] w fun e w' => e = .returned (.tuple #[]) ∧ ∃ f', DS w0 w' g n N f' ∧ Merged K a b f f' := by
  have eg := C.enters
  have HC := (show Hid _ from C.call)
  have HA := (show Hid (SortedOn K f a m ∧ SortedOn K f m b ∧ Ahead f a m b) from ⟨hL, hR, hA⟩)
  have HIH := (show Hid (∀ (a m b : Nat) (f : Nat → Nat) (w : World), _) from IH)
  have ha1 : ((b : Int) - (m : Int) == 1) = false := by simpa using (show (b : Int) - (m : Int) ≠ 1 by omega)
  have ha2 : ((m : Int) - (a : Int) == 1) = false := by simpa using (show (m : Int) - (a : Int) ≠ 1 by omega)
  have hmI : ((a : Int) + (b : Int)) / 2 = (mid : Int) := by omega
  obtain ⟨lo, hlo⟩ : ∃ lo : Nat, lo = a := ⟨_, rfl⟩
  obtain ⟨hi, hhi⟩ : ∃ hi : Nat, hi = m := ⟨_, rfl⟩
  obtain ⟨p, hp⟩ : ∃ p : Nat, p + 1 = mid + m := ⟨mid + m - 1, by omega⟩
  have hloI : (a : Int) = (lo : Int) := by omega
  have hpI : (mid : Int) + (m : Int) - 1 = (p : Int) := by omega
  have bnd : lo ≤ hi ∧ a ≤ lo ∧ mid < b ∧ a < mid ∧ hi ≤ m ∧ hi ≤ mid ∧ mid + m ≤ lo + b := by omega
  have HQ := (show Hid (lo = a ∧ hi = m ∧ p + 1 = mid + m ∧ mid = (a + b) / 2) from ⟨hlo, hhi, hp, hmid⟩)
  clear hloI
  clear C hL hR hA IH hmid hlo hhi hp
  go_enter Try.func72, Try.ntmps72
  go_wp2
  go_loopw [20, 21] (fun vs vr wr => ∃ (s r : Nat), vs = .int .i64 (s : Int) ∧ vr = .int .i64 (r : Int) ∧ lo ≤ s ∧ s ≤ r ∧ r ≤ hi ∧ DS w0 wr g n N f ∧ Hid ((∀ c, lo ≤ c → c < s → Lx K (f c) (f (p - c))) ∧ (∀ c, r ≤ c → c < hi → Lx K (f (p - c)) (f c)))) (fun vs vr _ => (intOf vr).toNat - (intOf vs).toNat)
  case atStart =>
    have hq := HQ.out
    exact ⟨lo, hi, by congr 1 <;> omega, by congr 1 <;> omega, Nat.le_refl _, by omega, Nat.le_refl _, h, fun k h1 h2 => by omega, fun k h1 h2 => by omega⟩
  case round =>
    clear h
    obtain ⟨s, r, rfl, rfl, hs, hsr, hr, hd, HB⟩ := hrel
    by_cases hlt : s < r
    · obtain ⟨c, hc0⟩ : ∃ c : Nat, c = (s + r) / 2 := ⟨_, rfl⟩
      have hc1 : s ≤ c ∧ c < r := by omega
      have hcI : ((s : Int) + (r : Int)) / 2 = (c : Int) := by omega
      have hq := HQ.out
      obtain ⟨d, hd0⟩ : ∃ d : Nat, d + c = p := ⟨p - c, by omega⟩
      have hdI : (p : Int) - (c : Int) = (d : Int) := by omega
      have hdm : m ≤ d ∧ d < b := by omega
      have hdz : (d : Int) < (n : Int) := by omega
      have hcm : a ≤ c ∧ c < m := by omega
      have hcz : (c : Int) < (n : Int) := by omega
      have HE := (show Hid (p - c = d ∧ ∀ k, k ≤ c → lo ≤ k → d ≤ p - k ∧ p - k < b) from ⟨by omega, fun k h1 h2 => by omega⟩)
      have HE2 := (show Hid (∀ k, c ≤ k → k < hi → m ≤ p - k ∧ p - k ≤ d ∧ k < m) from fun k h1 h2 => by omega)
      have c1 := hd.cell c (by omega)
      have c2 := hd.cell d (by omega)
      have hc : ∀ q, _ := fun q => HC.out (wr.drewN q) (hd.drewN q).keep (f d) (f c) (hd.lt _ (by omega)) (hd.lt _ (by omega))
      have HK := (show Hid (cmpOf K (f d) (f c) < 0 ↔ K (f d) < K (f c)) from cmpOf_neg K (f d) (f c))
      have HD := (show Hid (∀ q, DS w0 (wr.drewN q) g n N f) from fun q => hd.drewN q)
      obtain ⟨cv, hcv⟩ : ∃ cv, cmpOf K (f d) (f c) = cv := ⟨_, rfl⟩
      rw [hcv] at HK hc
      obtain ⟨y1, hy1⟩ : ∃ x, f c = x := ⟨_, rfl⟩
      obtain ⟨y2, hy2⟩ : ∃ x, f d = x := ⟨_, rfl⟩
      rw [hy1] at c1 hc
      rw [hy2] at c2 hc
      clear hy1 hy2 hd hcv hc0 hd0 hq
      by_cases hlv : cv < 0
      · have hlb : decide (cv < 0) = true := decide_eq_true hlv
        go_wp2_with fail
        go_quiet (first | (go_at_fn fn; refine Calls.quiet_of (hc _)))
        go_wp2
        go_roundw
        case rel =>
          refine ⟨s, c, rfl, rfl, hs, by omega, by omega, HD.out nq, HB.out.1, fun k h1 h2 => ?_⟩
          have hl : Lx K (f d) (f c) := .inl (HK.out.1 hlv)
          have he := HE2.out k h1 h2
          exact HA.out.2.1.le he.1 he.2.1 (by omega) (HA.out.1.ge (by omega) h1 he.2.2 hl)
        case measure => simp [intOf]; omega
      · have hlb : decide (cv < 0) = false := decide_eq_false hlv
        go_wp2_with fail
        go_quiet (first | (go_at_fn fn; refine Calls.quiet_of (hc _)))
        go_wp2
        go_roundw
        case rel =>
          refine ⟨c + 1, r, by go_num, rfl, by omega, by omega, hr, HD.out nq, fun k h1 h2 => ?_, HB.out.2⟩
          have hl : Lx K (f c) (f d) := Lx.of_not (HA.out.2.2 c d (by omega) (by omega) (by omega) (by omega)) (fun hk => by have := HK.out.2 hk; omega)
          have he := HE.out.2 k (by omega) h1
          exact HA.out.1.le (by omega) (by omega) (by omega) (HA.out.2.1.ge (by omega) he.1 he.2 hl)
        case measure => simp [intOf]; omega
    · obtain rfl : s = r := by omega
      have hq := HQ.out
      obtain ⟨e, he⟩ : ∃ e : Nat, s + e = mid + m := ⟨mid + m - s, by omega⟩
      have heI : (mid : Int) + (m : Int) - (s : Int) = (e : Int) := by omega
      have be : m ≤ e ∧ e ≤ b ∧ mid ≤ e ∧ s ≤ m ∧ a ≤ s ∧ s ≤ mid := by omega
      have k1 : s = a ∨ e = b ∨ Lx K (f (s - 1)) (f e) := by
        by_cases z : lo < s
        · have := HB.out.1 (s - 1) (by omega) (by omega)
          rw [show p - (s - 1) = e from by omega] at this
          exact .inr (.inr this)
        · exact .inl (by omega)
      have k2 : s = m ∨ e = m ∨ Lx K (f (e - 1)) (f s) := by
        by_cases z : s < hi
        · have := HB.out.2 s (by omega) z
          rw [show p - s = e - 1 from by omega] at this
          exact .inr (.inr this)
        · exact .inl (by omega)
      obtain ⟨q1, q2, q3, q4, q5, q6, q7⟩ := split_halves K f a m b mid s e HA.out.1 HA.out.2.1 HA.out.2.2 (by omega) (by omega) (by omega) (by omega) he k1 k2
      have HR := (show Hid (SortedOn K (rot s m e f) a s ∧ SortedOn K (rot s m e f) s mid ∧ Ahead (rot s m e f) a s mid ∧ SortedOn K (rot s m e f) mid e ∧ SortedOn K (rot s m e f) e b ∧ Ahead (rot s m e f) mid e b ∧ ∀ i j, a ≤ i → i < mid → mid ≤ j → j < b → Lx K (rot s m e f i) (rot s m e f j)) from ⟨q1, q2, q3, q4, q5, q6, q7⟩)
      clear q1 q2 q3 q4 q5 q6 q7 k1 k2 HB HC hq
      have hz : s < m ∨ s = m := by omega
      rcases hz with hz | hz
      · have z1 : s < m := by omega
        have z2 : m < e := by omega
        go_wp2_with fail
        refine (rotate_any g n cap N s m e fn B f w0 _ hd z1 z2 (by omega) hn).mono ?_
        rintro e1 w1 ⟨rfl, hcD, hcP0⟩
        have hcP := hcP0.mono (show a ≤ s by omega) (show e ≤ b by omega)
        have HH0 := HR.out
        obtain ⟨f1, hf1⟩ : ∃ f1, f1 = rot s m e f := ⟨_, rfl⟩
        rw [← hf1] at hcD hcP HH0
        have HH := (show Hid (SortedOn K f1 a s ∧ SortedOn K f1 s mid ∧ Ahead f1 a s mid ∧ SortedOn K f1 mid e ∧ SortedOn K f1 e b ∧ Ahead f1 mid e b ∧ (∀ i j, a ≤ i → i < mid → mid ≤ j → j < b → Lx K (f1 i) (f1 j)) ∧ PermOn a b f f1) from ⟨HH0.1, HH0.2.1, HH0.2.2.1, HH0.2.2.2.1, HH0.2.2.2.2.1, HH0.2.2.2.2.2.1, HH0.2.2.2.2.2.2, hcP⟩)
        have HJ := (show Hid (∀ f2, PermOn a mid f1 f2 → SortedOn K f2 mid e ∧ SortedOn K f2 e b ∧ Ahead f2 mid e b) from fun f2 p2 => ⟨fun i j h1 h2 h3 => by rw [p2.out i (by omega), p2.out j (by omega)]; exact HH0.2.2.2.1 i j h1 h2 h3, fun i j h1 h2 h3 => by rw [p2.out i (by omega), p2.out j (by omega)]; exact HH0.2.2.2.2.1 i j h1 h2 h3, fun i j h1 h2 h3 h4 => by rw [p2.out i (by omega), p2.out j (by omega)]; exact HH0.2.2.2.2.2.1 i j h1 h2 h3 h4⟩)
        clear hf1 HH0 hcP hcP0 HR hd hz
        by_cases x1 : a < s ∧ s < mid
        · obtain ⟨x1a, x1b⟩ := x1
          go_wp2_with fail
          refine (HIH.out a s mid f1 _ (by omega) hcD x1a x1b (by omega) HH.out.1 HH.out.2.1 HH.out.2.2.1).mono ?_
          rintro e1 w1 ⟨rfl, f2, hd2, hm2⟩
          have HM2 := (show Hid (Merged K a mid f1 f2) from hm2)
          clear hm2 hcD
          have hs4 : SortedOn K f2 mid e ∧ SortedOn K f2 e b ∧ Ahead f2 mid e b := HJ.out f2 HM2.out.1
          have H4 := (show Hid (SortedOn K f2 mid e ∧ SortedOn K f2 e b ∧ Ahead f2 mid e b) from hs4)
          clear hs4
          by_cases x3 : mid < e ∧ e < b
          · obtain ⟨x3a, x3b⟩ := x3
            go_wp2_with fail
            refine (HIH.out mid e b f2 _ (by omega) hd2 x3a x3b hb H4.out.1 H4.out.2.1 H4.out.2.2).mono ?_
            rintro e1 w2 ⟨rfl, f3, hd3, hm3⟩
            go_wp2
            go_end0
            exact ⟨rfl, _, hd3, merge_halves K f f1 f2 _ a mid b (by omega) (by omega) HH.out.2.2.2.2.2.2.2 HH.out.2.2.2.2.2.2.1 HM2.out hm3⟩
          · have hm3 : Merged K mid b f2 f2 := merged_nil K f2 mid e b H4.out.1 H4.out.2.1 x3
            have hd3 := hd2
            have HM4 := (show Hid (Merged K mid b f2 f2) from hm3)
            clear hm3
            by_cases x3a : mid < e
            · have x3b : ¬ e < b := fun h => x3 ⟨x3a, h⟩
              clear x3
              go_wp2
              go_end0
              exact ⟨rfl, _, hd3, merge_halves K f f1 f2 _ a mid b (by omega) (by omega) HH.out.2.2.2.2.2.2.2 HH.out.2.2.2.2.2.2.1 HM2.out HM4.out⟩
            · clear x3
              go_wp2
              go_end0
              exact ⟨rfl, _, hd3, merge_halves K f f1 f2 _ a mid b (by omega) (by omega) HH.out.2.2.2.2.2.2.2 HH.out.2.2.2.2.2.2.1 HM2.out HM4.out⟩
        · have HM2 := (show Hid (Merged K a mid f1 f1) from merged_nil K f1 a s mid HH.out.1 HH.out.2.1 x1)
          obtain ⟨f2, hf2⟩ : ∃ f2, f2 = f1 := ⟨_, rfl⟩
          have hd2 := hcD
          rw [← hf2] at hd2
          have HM3 := (show Hid (Merged K a mid f1 f2) from by rw [hf2]; exact HM2.out)
          clear HM2
          have HM2 := HM3
          clear HM3 hcD hf2
          by_cases x1a : a < s
          · have x1b : ¬ s < mid := fun h => x1 ⟨x1a, h⟩
            clear x1
            have hs4 : SortedOn K f2 mid e ∧ SortedOn K f2 e b ∧ Ahead f2 mid e b := HJ.out f2 HM2.out.1
            have H4 := (show Hid (SortedOn K f2 mid e ∧ SortedOn K f2 e b ∧ Ahead f2 mid e b) from hs4)
            clear hs4
            by_cases x3 : mid < e ∧ e < b
            · obtain ⟨x3a, x3b⟩ := x3
              go_wp2_with fail
              refine (HIH.out mid e b f2 _ (by omega) hd2 x3a x3b hb H4.out.1 H4.out.2.1 H4.out.2.2).mono ?_
              rintro e1 w2 ⟨rfl, f3, hd3, hm3⟩
              go_wp2
              go_end0
              exact ⟨rfl, _, hd3, merge_halves K f f1 f2 _ a mid b (by omega) (by omega) HH.out.2.2.2.2.2.2.2 HH.out.2.2.2.2.2.2.1 HM2.out hm3⟩
            · have hm3 : Merged K mid b f2 f2 := merged_nil K f2 mid e b H4.out.1 H4.out.2.1 x3
              have hd3 := hd2
              have HM4 := (show Hid (Merged K mid b f2 f2) from hm3)
              clear hm3
              by_cases x3a : mid < e
              · have x3b : ¬ e < b := fun h => x3 ⟨x3a, h⟩
                clear x3
                go_wp2
                go_end0
                exact ⟨rfl, _, hd3, merge_halves K f f1 f2 _ a mid b (by omega) (by omega) HH.out.2.2.2.2.2.2.2 HH.out.2.2.2.2.2.2.1 HM2.out HM4.out⟩
              · clear x3
                go_wp2
                go_end0
                exact ⟨rfl, _, hd3, merge_halves K f f1 f2 _ a mid b (by omega) (by omega) HH.out.2.2.2.2.2.2.2 HH.out.2.2.2.2.2.2.1 HM2.out HM4.out⟩
          · clear x1
            have hs4 : SortedOn K f2 mid e ∧ SortedOn K f2 e b ∧ Ahead f2 mid e b := HJ.out f2 HM2.out.1
            have H4 := (show Hid (SortedOn K f2 mid e ∧ SortedOn K f2 e b ∧ Ahead f2 mid e b) from hs4)
            clear hs4
            by_cases x3 : mid < e ∧ e < b
            · obtain ⟨x3a, x3b⟩ := x3
              go_wp2_with fail
              refine (HIH.out mid e b f2 _ (by omega) hd2 x3a x3b hb H4.out.1 H4.out.2.1 H4.out.2.2).mono ?_
              rintro e1 w2 ⟨rfl, f3, hd3, hm3⟩
              go_wp2
              go_end0
              exact ⟨rfl, _, hd3, merge_halves K f f1 f2 _ a mid b (by omega) (by omega) HH.out.2.2.2.2.2.2.2 HH.out.2.2.2.2.2.2.1 HM2.out hm3⟩
            · have hm3 : Merged K mid b f2 f2 := merged_nil K f2 mid e b H4.out.1 H4.out.2.1 x3
              have hd3 := hd2
              have HM4 := (show Hid (Merged K mid b f2 f2) from hm3)
              clear hm3
              by_cases x3a : mid < e
              · have x3b : ¬ e < b := fun h => x3 ⟨x3a, h⟩
                clear x3
                go_wp2
                go_end0
                exact ⟨rfl, _, hd3, merge_halves K f f1 f2 _ a mid b (by omega) (by omega) HH.out.2.2.2.2.2.2.2 HH.out.2.2.2.2.2.2.1 HM2.out HM4.out⟩
              · clear x3
                go_wp2
                go_end0
                exact ⟨rfl, _, hd3, merge_halves K f f1 f2 _ a mid b (by omega) (by omega) HH.out.2.2.2.2.2.2.2 HH.out.2.2.2.2.2.2.1 HM2.out HM4.out⟩
      · have z1 : ¬ s < m := by omega
        have hrn := rot_none s m e f (by omega) (by omega) (by omega)
        have hcD : DS w0 wr g n N (rot s m e f) := by rw [hrn]; exact hd
        have hcP : PermOn a b f (rot s m e f) := by rw [hrn]; exact PermOn.refl _ _ _
        have HH0 := HR.out
        obtain ⟨f1, hf1⟩ : ∃ f1, f1 = rot s m e f := ⟨_, rfl⟩
        rw [← hf1] at hcD hcP HH0
        have HH := (show Hid (SortedOn K f1 a s ∧ SortedOn K f1 s mid ∧ Ahead f1 a s mid ∧ SortedOn K f1 mid e ∧ SortedOn K f1 e b ∧ Ahead f1 mid e b ∧ (∀ i j, a ≤ i → i < mid → mid ≤ j → j < b → Lx K (f1 i) (f1 j)) ∧ PermOn a b f f1) from ⟨HH0.1, HH0.2.1, HH0.2.2.1, HH0.2.2.2.1, HH0.2.2.2.2.1, HH0.2.2.2.2.2.1, HH0.2.2.2.2.2.2, hcP⟩)
        have HJ := (show Hid (∀ f2, PermOn a mid f1 f2 → SortedOn K f2 mid e ∧ SortedOn K f2 e b ∧ Ahead f2 mid e b) from fun f2 p2 => ⟨fun i j h1 h2 h3 => by rw [p2.out i (by omega), p2.out j (by omega)]; exact HH0.2.2.2.1 i j h1 h2 h3, fun i j h1 h2 h3 => by rw [p2.out i (by omega), p2.out j (by omega)]; exact HH0.2.2.2.2.1 i j h1 h2 h3, fun i j h1 h2 h3 h4 => by rw [p2.out i (by omega), p2.out j (by omega)]; exact HH0.2.2.2.2.2.1 i j h1 h2 h3 h4⟩)
        clear hf1 HH0 hcP HR hd hz hrn
        by_cases x1 : a < s ∧ s < mid
        · obtain ⟨x1a, x1b⟩ := x1
          go_wp2_with fail
          refine (HIH.out a s mid f1 _ (by omega) hcD x1a x1b (by omega) HH.out.1 HH.out.2.1 HH.out.2.2.1).mono ?_
          rintro e1 w1 ⟨rfl, f2, hd2, hm2⟩
          have HM2 := (show Hid (Merged K a mid f1 f2) from hm2)
          clear hm2 hcD
          have hs4 : SortedOn K f2 mid e ∧ SortedOn K f2 e b ∧ Ahead f2 mid e b := HJ.out f2 HM2.out.1
          have H4 := (show Hid (SortedOn K f2 mid e ∧ SortedOn K f2 e b ∧ Ahead f2 mid e b) from hs4)
          clear hs4
          by_cases x3 : mid < e ∧ e < b
          · obtain ⟨x3a, x3b⟩ := x3
            go_wp2_with fail
            refine (HIH.out mid e b f2 _ (by omega) hd2 x3a x3b hb H4.out.1 H4.out.2.1 H4.out.2.2).mono ?_
            rintro e1 w2 ⟨rfl, f3, hd3, hm3⟩
            go_wp2
            go_end0
            exact ⟨rfl, _, hd3, merge_halves K f f1 f2 _ a mid b (by omega) (by omega) HH.out.2.2.2.2.2.2.2 HH.out.2.2.2.2.2.2.1 HM2.out hm3⟩
          · have hm3 : Merged K mid b f2 f2 := merged_nil K f2 mid e b H4.out.1 H4.out.2.1 x3
            have hd3 := hd2
            have HM4 := (show Hid (Merged K mid b f2 f2) from hm3)
            clear hm3
            by_cases x3a : mid < e
            · have x3b : ¬ e < b := fun h => x3 ⟨x3a, h⟩
              clear x3
              go_wp2
              go_end0
              exact ⟨rfl, _, hd3, merge_halves K f f1 f2 _ a mid b (by omega) (by omega) HH.out.2.2.2.2.2.2.2 HH.out.2.2.2.2.2.2.1 HM2.out HM4.out⟩
            · clear x3
              go_wp2
              go_end0
              exact ⟨rfl, _, hd3, merge_halves K f f1 f2 _ a mid b (by omega) (by omega) HH.out.2.2.2.2.2.2.2 HH.out.2.2.2.2.2.2.1 HM2.out HM4.out⟩
        · have HM2 := (show Hid (Merged K a mid f1 f1) from merged_nil K f1 a s mid HH.out.1 HH.out.2.1 x1)
          obtain ⟨f2, hf2⟩ : ∃ f2, f2 = f1 := ⟨_, rfl⟩
          have hd2 := hcD
          rw [← hf2] at hd2
          have HM3 := (show Hid (Merged K a mid f1 f2) from by rw [hf2]; exact HM2.out)
          clear HM2
          have HM2 := HM3
          clear HM3 hcD hf2
          by_cases x1a : a < s
          · have x1b : ¬ s < mid := fun h => x1 ⟨x1a, h⟩
            clear x1
            have hs4 : SortedOn K f2 mid e ∧ SortedOn K f2 e b ∧ Ahead f2 mid e b := HJ.out f2 HM2.out.1
            have H4 := (show Hid (SortedOn K f2 mid e ∧ SortedOn K f2 e b ∧ Ahead f2 mid e b) from hs4)
            clear hs4
            by_cases x3 : mid < e ∧ e < b
            · obtain ⟨x3a, x3b⟩ := x3
              go_wp2_with fail
              refine (HIH.out mid e b f2 _ (by omega) hd2 x3a x3b hb H4.out.1 H4.out.2.1 H4.out.2.2).mono ?_
              rintro e1 w2 ⟨rfl, f3, hd3, hm3⟩
              go_wp2
              go_end0
              exact ⟨rfl, _, hd3, merge_halves K f f1 f2 _ a mid b (by omega) (by omega) HH.out.2.2.2.2.2.2.2 HH.out.2.2.2.2.2.2.1 HM2.out hm3⟩
            · have hm3 : Merged K mid b f2 f2 := merged_nil K f2 mid e b H4.out.1 H4.out.2.1 x3
              have hd3 := hd2
              have HM4 := (show Hid (Merged K mid b f2 f2) from hm3)
              clear hm3
              by_cases x3a : mid < e
              · have x3b : ¬ e < b := fun h => x3 ⟨x3a, h⟩
                clear x3
                go_wp2
                go_end0
                exact ⟨rfl, _, hd3, merge_halves K f f1 f2 _ a mid b (by omega) (by omega) HH.out.2.2.2.2.2.2.2 HH.out.2.2.2.2.2.2.1 HM2.out HM4.out⟩
              · clear x3
                go_wp2
                go_end0
                exact ⟨rfl, _, hd3, merge_halves K f f1 f2 _ a mid b (by omega) (by omega) HH.out.2.2.2.2.2.2.2 HH.out.2.2.2.2.2.2.1 HM2.out HM4.out⟩
          · clear x1
            have hs4 : SortedOn K f2 mid e ∧ SortedOn K f2 e b ∧ Ahead f2 mid e b := HJ.out f2 HM2.out.1
            have H4 := (show Hid (SortedOn K f2 mid e ∧ SortedOn K f2 e b ∧ Ahead f2 mid e b) from hs4)
            clear hs4
            by_cases x3 : mid < e ∧ e < b
            · obtain ⟨x3a, x3b⟩ := x3
              go_wp2_with fail
              refine (HIH.out mid e b f2 _ (by omega) hd2 x3a x3b hb H4.out.1 H4.out.2.1 H4.out.2.2).mono ?_
              rintro e1 w2 ⟨rfl, f3, hd3, hm3⟩
              go_wp2
              go_end0
              exact ⟨rfl, _, hd3, merge_halves K f f1 f2 _ a mid b (by omega) (by omega) HH.out.2.2.2.2.2.2.2 HH.out.2.2.2.2.2.2.1 HM2.out hm3⟩
            · have hm3 : Merged K mid b f2 f2 := merged_nil K f2 mid e b H4.out.1 H4.out.2.1 x3
              have hd3 := hd2
              have HM4 := (show Hid (Merged K mid b f2 f2) from hm3)
              clear hm3
              by_cases x3a : mid < e
              · have x3b : ¬ e < b := fun h => x3 ⟨x3a, h⟩
                clear x3
                go_wp2
                go_end0
                exact ⟨rfl, _, hd3, merge_halves K f f1 f2 _ a mid b (by omega) (by omega) HH.out.2.2.2.2.2.2.2 HH.out.2.2.2.2.2.2.1 HM2.out HM4.out⟩
              · clear x3
                go_wp2
                go_end0
                exact ⟨rfl, _, hd3, merge_halves K f f1 f2 _ a mid b (by omega) (by omega) HH.out.2.2.2.2.2.2.2 HH.out.2.2.2.2.2.2.1 HM2.out HM4.out⟩

end Go.Proofs.Ytapcohpagipkpaa
