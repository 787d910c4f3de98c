/-
  slices.symMergeCmpFunc, stableCmpFunc, SortStableFunc: a row of places that rise is put into the order of their numbers, equal ones as they came.
-/
import Derived.Test.YtapcohpagipkpaaSymC
import Derived.Test.YtapcohpagipkpaaBlocks
namespace Go.Proofs.Ytapcohpagipkpaa
open Go.RowKit Go.Shelf

theorem sym_any (g n cap N fn B : Nat) (K : Nat → Nat) (w0 : World) (C : CmpOk w0 g N K fn B) (hn : n ≤ 1024) : ∀ top, SymTo g n cap N fn B K w0 top := by
  intro top
  induction top with
  | zero => intro a m b f w h; omega
  | succ top ih =>
    intro a m b f w htop hd h1 h2 h3 hL hR hA
    by_cases c1 : m = a + 1
    · subst c1
      exact sym_left g n cap N a b fn B K f w0 w hd C h2 h3 hn hR hA
    · by_cases c2 : b = m + 1
      · subst c2
        exact sym_right g n cap N a m fn B K f w0 w hd C (by omega) h3 hn hL hA
      · have IH : SymTo g n cap N fn B K w0 (b - a) := fun a' m' b' f' w' x => ih a' m' b' f' w' (by omega)
        by_cases c3 : (a + b) / 2 < m
        · exact sym_midA g n cap N a m b ((a + b) / 2) fn B K f w0 w hd C IH (by omega) (by omega) h3 hn hL hR hA rfl c3
        · exact sym_midB g n cap N a m b ((a + b) / 2) fn B K f w0 w hd C IH (by omega) (by omega) h3 hn hL hR hA rfl c3

theorem sym_i (g n cap N fn B : Nat) (K : Nat → Nat) (w0 : World) (C : CmpOk w0 g N K fn B) (hn : n ≤ 1024) (a m b : Nat) (ai mi bi : Int) (ea : ai = (a : Int)) (em : mi = (m : Int)) (eb : bi = (b : Int)) (f : Nat → Nat) (w : World) (hd : DS w0 w g n N f) (h1 : a < m) (h2 : m < b) (h3 : b ≤ n) (hL : SortedOn K f a m) (hR : SortedOn K f m b) (hA : Ahead f a m b) :
    Calls Try.prog 72 #[.slice (some ⟨g, 0, none⟩) n cap, .int .i64 ai, .int .i64 mi, .int .i64 bi, .func (.func fn) #[] #[.pointer (some ⟨B, 0, none⟩)]] w fun e w' => e = .returned (.tuple #[]) ∧ ∃ f', DS w0 w' g n N f' ∧ Merged K a b f f' := by
  subst ea; subst em; subst eb
  exact sym_any g n cap N fn B K w0 C hn (b - a + 1) a m b f w (by omega) hd h1 h2 h3 hL hR hA
theorem insertion_i (g n cap N fn B : Nat) (K : Nat → Nat) (w0 : World) (C : CmpOk w0 g N K fn B) (hn : n ≤ 1024) (a b : Nat) (ai bi : Int) (ea : ai = (a : Int)) (eb : bi = (b : Int)) (f : Nat → Nat) (w : World) (hd : DS w0 w g n N f) (h1 : a ≤ b) (h3 : b ≤ n) (hinc : Inc f a a b) :
    Calls Try.prog 71 #[.slice (some ⟨g, 0, none⟩) n cap, .int .i64 ai, .int .i64 bi, .func (.func fn) #[] #[.pointer (some ⟨B, 0, none⟩)]] w fun e w' => e = .returned (.tuple #[]) ∧ ∃ f', DS w0 w' g n N f' ∧ Merged K a b f f' := by
  subst ea; subst eb
  exact insertion_any g n cap N a b fn B K f w0 w hd C h1 h3 hn hinc

set_option maxRecDepth 1000000 in
set_option maxHeartbeats 4000000 in
theorem stable_any (g n cap N fn B : Nat) (K f : Nat → Nat) (w0 w : World) (h : DS w0 w g n N f) (C : CmpOk w0 g N K fn B) (hn : n ≤ 1024) (hinc : ∀ i j, i < j → j < n → f i < f j) :
    Calls Try.prog 59 #[.slice (some ⟨g, 0, none⟩) n cap, .int .i64 (n : Int), .func (.func fn) #[] #[.pointer (some ⟨B, 0, none⟩)]] w fun e w' => e = .returned (.tuple #[]) ∧ ∃ f', DS w0 w' g n N f' ∧ PermOn 0 n f f' ∧ SortedOn K f' 0 n := by
  have HI := (show Hid (∀ i j, i < j → j < n → f i < f j) from hinc)
  have HC := (show Hid (CmpOk w0 g N K fn B) from C)
  clear hinc C
  go_enter Try.func59, Try.ntmps59
  go_wp2
  go_loopw [7, 8] (fun va vb wr => ∃ (t a : Nat) (fc : Nat → Nat), va = .int .i64 (a : Int) ∧ vb = .int .i64 ((a : Int) + 20) ∧ a = t * 20 ∧ a ≤ n ∧ DS w0 wr g n N fc ∧ Hid (PermOn 0 n f fc ∧ Some1 K fc 20 (t * 20) n)) (fun va _ _ => n + 1 - (intOf va).toNat)
  case atStart => exact ⟨0, 0, f, rfl, rfl, rfl, Nat.zero_le _, h, PermOn.refl _ _ _, by rw [Nat.zero_mul]; exact Some1.start HI.out⟩
  case round =>
    clear h
    obtain ⟨t, a, fc, rfl, rfl, hta, han, hd, HS⟩ := hrel
    have HT := (show Hid (a = t * 20) from hta)
    clear hta
    by_cases hlt : a + 20 ≤ n
    · have hlI : (a : Int) + 20 ≤ (n : Int) := by omega
      go_wp2_with fail
      refine (insertion_i g n cap N fn B K w0 HC.out hn a (a + 20) _ _ rfl (by omega) fc _ hd (by omega) hlt (fun x y h1 h2 h3 h4 => by have := HT.out; exact HS.out.2.inc x y (by omega) h2 (by omega) (by omega))).mono ?_
      rintro e w1 ⟨rfl, f', hd1, hm⟩
      go_wp2
      go_roundw
      case rel =>
        have ht := HT.out
        subst ht
        exact ⟨t + 1, t * 20 + 20, f', by go_num, by congr 1, by omega, hlt, hd1, HS.out.1.trans (hm.1.mono (by omega) (by omega)), Some1.next (by omega) hlt HS.out.2 hm⟩
      case measure => simp [intOf]; omega
    · have hlI : ¬ (a : Int) + 20 ≤ (n : Int) := by omega
      go_wp2_with fail
      refine (insertion_i g n cap N fn B K w0 HC.out hn a n _ _ rfl rfl fc _ hd (by omega) (Nat.le_refl _) (fun x y h1 h2 h3 h4 => by have := HT.out; exact HS.out.2.inc x y (by omega) h2 (by omega) (by omega))).mono ?_
      rintro e w1 ⟨rfl, f1, hd1, hm⟩
      have HB := (show Hid (PermOn 0 n f f1 ∧ Blks K f1 20 n) from by
        have ht := HT.out
        subst ht
        exact ⟨HS.out.1.trans (hm.1.mono (by omega) (by omega)), Some1.last (by omega) HS.out.2 (by omega) hm⟩)
      clear hm HS HT hd
      go_wp2
      go_loopw [6] (fun vB wr => ∃ (Bs : Nat) (fc : Nat → Nat), vB = .int .i64 (Bs : Int) ∧ 20 ≤ Bs ∧ Bs ≤ 4096 ∧ DS w0 wr g n N fc ∧ Hid (PermOn 0 n f fc ∧ Blks K fc Bs n)) (fun vB _ => n - (intOf vB).toNat)
      case atStart => exact ⟨20, f1, rfl, by omega, by omega, hd1, HB.out⟩
      case round =>
        clear hd1 HB
        obtain ⟨Bs, fc, rfl, hB1, hB2, hd, HB⟩ := hrel
        by_cases hBn : Bs < n
        · have HS0 := (show Hid (PermOn 0 n f fc ∧ Some2 K fc Bs (0 * (2 * Bs)) n) from ⟨HB.out.1, by rw [Nat.zero_mul]; exact Some2.start HB.out.2⟩)
          go_wp2
          go_loopw [7, 8] (fun va vb wr => ∃ (t a : Nat) (fd : Nat → Nat), va = .int .i64 (a : Int) ∧ vb = .int .i64 ((a : Int) + 2 * (Bs : Int)) ∧ a = t * (2 * Bs) ∧ a ≤ n ∧ DS w0 wr g n N fd ∧ Hid (PermOn 0 n f fd ∧ Some2 K fd Bs (t * (2 * Bs)) n)) (fun va _ _ => n + 1 - (intOf va).toNat)
          case atStart => exact ⟨0, 0, fc, rfl, by congr 1; omega, by omega, Nat.zero_le _, hd, HS0.out⟩
          case round =>
            clear hd HB HS0
            obtain ⟨t, a, fd, rfl, rfl, hta, han, hd, HS⟩ := hrel
            have HT := (show Hid (a = t * (2 * Bs)) from hta)
            clear hta
            by_cases hlt : a + 2 * Bs ≤ n
            · have hlI : (a : Int) + 2 * (Bs : Int) ≤ (n : Int) := by omega
              have hp := HS.out.2.pre (b := a + 2 * Bs) (by omega) (by rw [HT.out]; exact Nat.le_refl _) hlt
              rw [← HT.out, show min (a + Bs) n = a + Bs from by omega] at hp
              have HP := (show Hid (SortedOn K fd a (a + Bs) ∧ SortedOn K fd (a + Bs) (a + 2 * Bs) ∧ Ahead fd a (a + Bs) (a + 2 * Bs)) from hp)
              clear hp
              go_wp2_with fail
              refine (sym_i g n cap N fn B K w0 HC.out hn a (a + Bs) (a + 2 * Bs) _ _ _ rfl (by omega) (by omega) fd _ hd (by omega) (by omega) hlt HP.out.1 HP.out.2.1 HP.out.2.2).mono ?_
              rintro e w1 ⟨rfl, f', hd1, hm⟩
              go_wp2
              go_roundw
              case rel =>
                have ht := HT.out
                subst ht
                exact ⟨t + 1, t * (2 * Bs) + 2 * Bs, f', by congr 1 <;> omega, by congr 1 <;> omega, by rw [Nat.add_mul]; omega, hlt, hd1, HS.out.1.trans (hm.1.mono (by omega) (by omega)), Some2.next (by omega) hlt HS.out.2 hm⟩
              case measure => simp [intOf]; omega
            · have hlI : ¬ (a : Int) + 2 * (Bs : Int) ≤ (n : Int) := by omega
              have hp := HS.out.2.pre (b := n) (by omega) (by rw [← HT.out]; omega) (Nat.le_refl _)
              rw [← HT.out] at hp
              have HP := (show Hid (SortedOn K fd a (min (a + Bs) n) ∧ SortedOn K fd (a + Bs) n ∧ Ahead fd a (a + Bs) n) from hp)
              clear hp
              by_cases hmn : a + Bs < n
              · have hmI : (a : Int) + (Bs : Int) < (n : Int) := by omega
                go_wp2_with fail
                refine (sym_i g n cap N fn B K w0 HC.out hn a (a + Bs) n _ _ _ rfl (by omega) rfl fd _ hd (by omega) (by omega) (Nat.le_refl _) (by have := HP.out.1; rwa [show min (a + Bs) n = a + Bs from by omega] at this) HP.out.2.1 HP.out.2.2).mono ?_
                rintro e w1 ⟨rfl, f', hd1, hm⟩
                go_wp2
                go_roundw
                case rel =>
                  have ht := HT.out
                  subst ht
                  exact ⟨2 * Bs, f', by congr 1 <;> omega, by omega, by omega, hd1, HS.out.1.trans (hm.1.mono (by omega) (by omega)), Some2.last (by omega) HS.out.2 (by omega) hm⟩
                case measure => simp [intOf]; omega
              · have hmI : ¬ (a : Int) + (Bs : Int) < (n : Int) := by omega
                go_wp2
                go_roundw
                case rel =>
                  have ht := HT.out
                  subst ht
                  have hm : Merged K (t * (2 * Bs)) n fd fd := ⟨PermOn.refl _ _ _, by have := HP.out.1; rwa [show min (t * (2 * Bs) + Bs) n = n from by omega] at this⟩
                  exact ⟨2 * Bs, fd, by congr 1 <;> omega, by omega, by omega, hd, HS.out.1, Some2.last (by omega) HS.out.2 (by omega) hm⟩
                case measure => simp [intOf]; omega
        · have hBI : ¬ (Bs : Int) < (n : Int) := by omega
          go_wp2
          go_end0
          exact ⟨rfl, fc, hd, HB.out.1, HB.out.2.whole (by omega)⟩

set_option maxHeartbeats 1000000 in
theorem sortStable_any (g n cap N fn B : Nat) (K f : Nat → Nat) (w0 w : World) (h : DS w0 w g n N f) (C : CmpOk w0 g N K fn B) (hn : n ≤ 1024) (hinc : ∀ i j, i < j → j < n → f i < f j) :
    Calls Try.prog 42 #[.slice (some ⟨g, 0, none⟩) n cap, .func (.func fn) #[] #[.pointer (some ⟨B, 0, none⟩)]] w fun e w' => e = .returned (.tuple #[]) ∧ ∃ f', DS w0 w' g n N f' ∧ PermOn 0 n f f' ∧ SortedOn K f' 0 n := by
  have HS := (show Hid (CmpOk w0 g N K fn B ∧ ∀ i j, i < j → j < n → f i < f j) from ⟨C, hinc⟩)
  clear hinc C
  go_enter Try.func42, Try.ntmps42
  go_wp2_with fail
  refine (stable_any g n cap N fn B K f w0 _ h HS.out.1 hn HS.out.2).mono ?_
  rintro e w1 ⟨rfl, h1⟩
  go_wp2
  go_end0
  exact ⟨rfl, h1⟩

end Go.Proofs.Ytapcohpagipkpaa
