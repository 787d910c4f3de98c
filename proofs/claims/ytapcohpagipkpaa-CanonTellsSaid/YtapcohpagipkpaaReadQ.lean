/-
  The document's Read and ReadWord.
-/
import Derived.Test.YtapcohpagipkpaaWords
import Derived.Test.YtapcohpagipkpaaReadS
namespace Go.Proofs.Ytapcohpagipkpaa
open Go.RowKit Go.Shelf

theorem found_word {xs : List Nat} (h : isCode xs = true) (b : Nat → Nat) (hb : ∀ i, b i < 2) (l s : Nat) (hs : s < xs.length) (hn : numOf xs s = l) (hl : l ≠ 0) (hv : wordN xs s = valF b l) :
    IsWord (many xs) b l ∧ (symsOf xs l)[valF b l - nextF (many xs) l]? = some s := by
  have h15 := num15 h s
  obtain ⟨h1, h2, h3⟩ := wordN_lt h s hs (by omega)
  rw [hn] at h1 h2 h3 h15
  refine ⟨word_is (many xs) b hb l (wordN xs s) (by omega) h15 hv.symm h1 h2, ?_⟩
  have e : valF b l - nextF (many xs) l = rank xs s := by
    rw [← hv]
    unfold wordN
    rw [if_neg (by omega), hn]
    omega
  have := symsOf_rank xs s hs
  rw [hn] at this
  rw [e]
  exact this
theorem word_found {xs : List Nat} (b : Nat → Nat) (l : Nat) (h : IsWord (many xs) b l) : ∃ s, s < xs.length ∧ numOf xs s = l ∧ wordN xs s = valF b l := by
  have hlo := h.lo
  have hge := h.ge
  have hlt := h.lt
  have hj : valF b l - nextF (many xs) l < (symsOf xs l).length := by rw [← many_count (by omega)]; omega
  obtain ⟨r1, r2, r3⟩ := rank_of xs l _ hj
  refine ⟨(symsOf xs l)[valF b l - nextF (many xs) l], r2, r1, ?_⟩
  unfold wordN
  rw [if_neg (by omega), r1, r3]
  omega

set_option maxRecDepth 100000 in
set_option maxHeartbeats 4000000 in
theorem readWord_good (qb g o p : Nat) (bs : List Nat) (a : Option Addr) (cap gb off cb : Nat) (xs : List Nat) (w : World) (hI : IsQ w qb g o bs p) (hgr : bs ≠ [] → g ≠ qb) (hrow : gb ≠ qb) (hcq : cb ≠ qb) (hR : Row w .u8 a cap gb off xs)
    (hC : Row w .u16 (some ⟨cb, 0, none⟩) xs.length cb 0 ((List.range xs.length).map (fun s => wordN xs s % 65536))) (hl : xs.length ≤ 1024) (hgood : isCode xs = true) :
    Calls Try.prog 37 #[.pointer (some ⟨qb, 0, none⟩), .slice a xs.length cap, .slice (some ⟨cb, 0, none⟩) xs.length xs.length] w fun e w' => ∃ l, IsWord (many xs) (fun i => bitAt bs (p + i)) l ∧ Keep (fun k => k = qb) w w' ∧
      ((p + l ≤ 8 * bs.length ∧ (∃ sym, (symsOf xs l)[valF (fun i => bitAt bs (p + i)) l - nextF (many xs) l]? = some sym ∧ e = .returned (.tuple #[.int .i64 (sym : Int), .int .i64 0])) ∧ IsQ w' qb g o bs (p + l)) ∨
       (8 * bs.length < p + l ∧ e = .returned (.tuple #[.int .i64 0, .int .i64 10]) ∧ IsQ w' qb g o bs (8 * bs.length))) := by
  obtain ⟨b, hbe⟩ : ∃ b : Nat → Nat, b = fun i => bitAt bs (p + i) := ⟨_, rfl⟩
  have hb : ∀ i, b i < 2 := by rw [hbe]; exact fun i => bitAt_lt _ _
  obtain ⟨l0, hW⟩ := exists_word xs bs p hgood
  rw [← hbe] at hW ⊢
  have HW := (show Hid (IsWord (many xs) b l0 ∧ (∀ i, b i < 2) ∧ b = fun i => bitAt bs (p + i)) from ⟨hW, hb, hbe⟩)
  have hl0 := hW.hi
  have HR := (show Hid (Row w .u8 a cap gb off xs ∧ Row w .u16 (some ⟨cb, 0, none⟩) xs.length cb 0 ((List.range xs.length).map (fun s => wordN xs s % 65536)) ∧ gb ≠ qb ∧ cb ≠ qb ∧ (bs ≠ [] → g ≠ qb)) from ⟨hR, hC, hrow, hcq, hgr⟩)
  have HG := (show Hid (isCode xs = true) from hgood)
  have H0 := (show Hid (IsQ w qb g o bs (p + 0) ∧ Keep (fun k => k = qb) w w) from ⟨hI, Keep.refl _ _⟩)
  clear hbe hb hW hR hC hrow hcq hgr hgood hI
  go_enter Try.func37, Try.ntmps37
  go_wp2
  go_loopw [8, 9] (fun vx vl wr => ∃ (j x : Nat) (zl : Int), vl = .int .i64 zl ∧ vx = .int .i64 (x : Int) ∧ j < l0 ∧ Hid (zl = (j : Int) + 1 ∧ x = valF b j ∧ IsQ wr qb g o bs (p + j) ∧ Keep (fun k => k = qb) w wr)) (fun _ vl _ => 16 - (intOf vl).toNat)
  case atStart => exact ⟨0, 0, 1, rfl, rfl, by have := HW.out.1.lo; omega, rfl, rfl, H0.out⟩
  case round =>
    clear H0
    obtain ⟨j, x, zl, rfl, rfl, hj, HJ⟩ := hrel
    obtain ⟨l, hlj⟩ : ∃ l, l = j + 1 := ⟨_, rfl⟩
    obtain rfl : zl = (l : Int) := by have := HJ.out.1; omega
    have hl15 : (l : Int) ≤ 15 := by omega
    have hxb : x < 32768 := by
      rw [HJ.out.2.1]
      have h1 := valF_lt b HW.out.2.1 j
      have h2 : 2 ^ j ≤ 2 ^ 15 := Nat.pow_le_pow_right (by omega) (by omega)
      omega
    by_cases hfit : p + j + 1 ≤ 8 * bs.length
    · have hbq := bitsQ_take qb g o bs (p + j) 1 (by omega) wr HJ.out.2.2.1 HR.out.2.2.2.2 hfit
      have hnum : numAt bs (p + j) 1 = b j := by
        rw [numAt_numF, HW.out.2.2]
        simp [numF]
      rw [hnum] at hbq
      obtain ⟨c, hc⟩ : ∃ c, c = b j := ⟨_, rfl⟩
      have hc2 : c < 2 := by rw [hc]; exact HW.out.2.1 j
      rw [← hc] at hbq
      obtain ⟨y, hy⟩ : ∃ y, y = 2 * x + c := ⟨_, rfl⟩
      have hyI : 2 * (x : Int) + (c : Int) = (y : Int) := by omega
      have hyv : y = valF b l := by rw [hy, hlj, hc, HJ.out.2.1]; rfl
      have hyb : y < 65536 := by omega
      have HB := (show Hid (∀ u : Unit, Calls Try.prog 53 _ wr _) from fun _ => hbq)
      have HY := (show Hid (y = valF b l ∧ l = j + 1 ∧ p + j + 1 ≤ 8 * bs.length) from ⟨hyv, hlj, hfit⟩)
      have HK := (show Hid (Keep (fun k => k = qb) w wr) from HJ.out.2.2.2)
      clear hbq hnum hc hy hyv HJ hlj hfit
      go_wp2_with fail
      refine (HB.out ()).mono ?_
      rintro e w1 ⟨rfl, hI1, hk1⟩
      have hk := HK.out.trans' hk1
      have hIl : IsQ w1 qb g o bs (p + l) := by rw [HY.out.2.1, ← Nat.add_assoc]; exact hI1
      have H1 := (show Hid (IsQ w1 qb g o bs (p + l) ∧ Keep (fun k => k = qb) w w1) from ⟨hIl, hk⟩)
      have HWW := (show Hid (Keep noBlock w1 w1) from Keep.refl _ _)
      clear hI1 hk1 hk hIl HB HK
      go_wp2_with fail
      go_loopw [12] (fun vs wr => ∃ s : Nat, vs = .int .i64 (s : Int) ∧ s ≤ xs.length ∧ Hid (Keep noBlock w1 wr ∧ ∀ t, t < s → ¬ (numOf xs t = l ∧ wordN xs t = y))) (fun vs _ => xs.length - (intOf vs).toNat)
      case atStart => exact ⟨0, rfl, Nat.zero_le _, HWW.out, fun t ht => by omega⟩
      case round =>
        clear HWW
        obtain ⟨s, rfl, hs, HS⟩ := hrel
        have hkk : Keep (fun k => k = qb) w wr := H1.out.2.trans HS.out.1 (fun _ _ h => h.elim)
        by_cases hlt : s < xs.length
        · have hRw := HR.out.1.keep hkk (fun _ => HR.out.2.2.1)
          have hCw := HR.out.2.1.keep hkk (fun _ => HR.out.2.2.2.1)
          obtain rfl : a = some ⟨gb, off, none⟩ := hRw.at_.resolve_right (by rintro rfl; simp at hlt)
          have c1 : wr.cell? ⟨gb, off + s, none⟩ = some (.int .u8 ((numOf xs s : Nat) : Int)) := hRw.cells s hlt
          have c2 := hCw.cells s (by simpa using hlt)
          have hmap : ((List.range xs.length).map (fun s => wordN xs s % 65536))[s]?.getD 0 = wordN xs s % 65536 := by simp [hlt]
          rw [hmap, Nat.zero_add] at c2
          have h15 := num15 HG.out s
          have hwn : numOf xs s = l → wordN xs s % 65536 = wordN xs s := fun e => by
            have h1 := (wordN_lt HG.out s hlt (by have := HY.out.2.1; omega)).2.2
            have h2 : 2 ^ numOf xs s ≤ 2 ^ 15 := Nat.pow_le_pow_right (by omega) h15
            omega
          have hltI : (s : Int) < (xs.length : Int) := by omega
          clear hRw hCw hmap
          by_cases hx : numOf xs s = l
          · have hw := hwn hx
            rw [hw] at c2
            rw [hx] at c1
            by_cases hwy : wordN xs s = y
            · have hfw := found_word HG.out b HW.out.2.1 l s hlt hx (by have := HY.out.2.1; omega) (by rw [hwy]; exact HY.out.1)
              have HF := (show Hid (IsWord (many xs) b l ∧ (symsOf xs l)[valF b l - nextF (many xs) l]? = some s ∧ IsQ wr qb g o bs (p + l) ∧ Keep (fun k => k = qb) w wr) from ⟨hfw.1, hfw.2, H1.out.1.keep HS.out.1 (fun h => h) (fun _ h => h), hkk⟩)
              rw [hwy] at c2
              clear hfw hwn hw HS hkk
              go_wp2
              go_ret2
              exact ⟨l, HF.out.1, HF.out.2.2.2, .inl ⟨by have := HY.out.2; omega, ⟨s, HF.out.2.1, rfl⟩, HF.out.2.2.1⟩⟩
            · have hno : ∀ t, t < s + 1 → ¬ (numOf xs t = l ∧ wordN xs t = y) := fun t ht => by
                by_cases e : t = s
                · subst e; exact fun h => hwy h.2
                · exact HS.out.2 t (by omega)
              have HN := (show Hid (Keep noBlock w1 wr ∧ ∀ t, t < s + 1 → ¬ (numOf xs t = l ∧ wordN xs t = y)) from ⟨HS.out.1, hno⟩)
              have hub : wordN xs s < 65536 := by omega
              clear hno HS hwn hw hkk
              generalize wordN xs s = u at c2 hwy hub
              have hwyI : ¬ (u : Int) = (y : Int) := by omega
              have hwyB : ((u : Int) == (y : Int)) = false := by simpa using hwyI
              go_wp2
              go_roundw
              case rel => exact ⟨s + 1, by go_num, by omega, HN.out⟩
              case measure => simp [intOf]; omega
          · have hno : ∀ t, t < s + 1 → ¬ (numOf xs t = l ∧ wordN xs t = y) := fun t ht => by
              by_cases e : t = s
              · subst e; exact fun h => hx h.1
              · exact HS.out.2 t (by omega)
            have HN := (show Hid (Keep noBlock w1 wr ∧ ∀ t, t < s + 1 → ¬ (numOf xs t = l ∧ wordN xs t = y)) from ⟨HS.out.1, hno⟩)
            have hxI : ¬ ((numOf xs s : Nat) : Int) = (l : Int) := by omega
            have hxB : (((numOf xs s : Nat) : Int) == (l : Int)) = false := by simpa using hxI
            clear hno HS hwn hkk c2
            generalize numOf xs s = u at c1 hx hxI hxB h15
            go_wp2
            go_roundw
            case rel => exact ⟨s + 1, by go_num, by omega, HN.out⟩
            case measure => simp [intOf]; omega
        · obtain rfl : s = xs.length := by omega
          have hll : l < l0 := by
            have h1 := HY.out.2.1
            rcases Nat.lt_or_ge l l0 with h | h
            · exact h
            · exfalso
              obtain rfl : l0 = l := by omega
              obtain ⟨t, ht1, ht2, ht3⟩ := word_found b l0 HW.out.1
              exact HS.out.2 t ht1 ⟨ht2, by rw [ht3]; exact HY.out.1.symm⟩
          have HN := (show Hid (y = valF b l ∧ IsQ wr qb g o bs (p + l) ∧ Keep (fun k => k = qb) w wr) from ⟨HY.out.1, H1.out.1.keep HS.out.1 (fun h => h) (fun _ h => h), hkk⟩)
          clear HS hkk
          go_wp2
          go_roundw
          case rel => exact ⟨l, y, (l : Int) + 1, by go_num, rfl, hll, rfl, HN.out⟩
          case measure => simp [intOf]; omega
    · have hbq := bitsQ_few qb g o bs (p + j) 1 (by omega) wr HJ.out.2.2.1 (by omega)
      have hin := HJ.out.2.2.1.in_
      have HB := (show Hid (∀ u : Unit, Calls Try.prog 53 _ wr _) from fun _ => hbq)
      have HN := (show Hid (IsQ wr qb g o bs (8 * bs.length) ∧ Keep (fun k => k = qb) w wr ∧ 8 * bs.length < p + l0) from ⟨by have h := HJ.out.2.2.1; rwa [show p + j = 8 * bs.length by omega] at h, HJ.out.2.2.2, by omega⟩)
      clear hbq hin HJ hlj hfit
      go_wp2_with fail
      refine (HB.out ()).mono ?_
      rintro e w1 ⟨rfl, nq, rfl⟩
      go_wp2
      go_ret2
      exact ⟨l0, HW.out.1, HN.out.2.1.trans (keep_drewN _ _) (fun _ _ h => h.elim), .inr ⟨HN.out.2.2, rfl, HN.out.1.drewN _⟩⟩

set_option maxRecDepth 100000 in
set_option maxHeartbeats 1000000 in
theorem readQ_far (p a : Option Addr) (cap n : Nat) (w : World) (hl : 1024 < n) :
    Calls Try.prog 17 #[.pointer p, .slice a n cap] w fun e w' => e = .returned (.tuple #[.int .i64 0, .int .i64 50]) ∧ Keep noBlock w w' := by
  go_enter Try.func17, Try.ntmps17
  go_wp2_with fail
  refine (right_far a cap n w hl).mono ?_
  rintro e w1 ⟨rfl, hk⟩
  go_wp2
  go_ret2
  exact ⟨rfl, hk⟩
set_option maxRecDepth 100000 in
set_option maxHeartbeats 1000000 in
theorem readQ_bad (p a : Option Addr) (cap gb off : Nat) (xs : List Nat) (w : World) (hR : Row w .u8 a cap gb off xs) (h8 : ∀ i, numOf xs i < 256) (hl : xs.length ≤ 1024) (hbad : isCode xs = false) :
    Calls Try.prog 17 #[.pointer p, .slice a xs.length cap] w fun e w' => e = .returned (.tuple #[.int .i64 0, .int .i64 50]) ∧ Keep noBlock w w' := by
  have h := right_any a cap gb off xs w hR h8 hl
  rw [hbad] at h
  go_enter Try.func17, Try.ntmps17
  go_wp2_with fail
  refine h.mono ?_
  rintro e w1 ⟨rfl, hk⟩
  clear h
  go_wp2
  go_ret2
  exact ⟨rfl, hk⟩
set_option maxRecDepth 100000 in
set_option maxHeartbeats 1000000 in
theorem readQ_good (qb g o p : Nat) (bs : List Nat) (a : Option Addr) (cap gb off : Nat) (xs : List Nat) (w : World) (hI : IsQ w qb g o bs p) (hgr : bs ≠ [] → g ≠ qb) (hrow : gb ≠ qb) (hqw : qb < w.heap.size) (hR : Row w .u8 a cap gb off xs) (h8 : ∀ i, numOf xs i < 256) (hl : xs.length ≤ 1024) (hgood : isCode xs = true) :
    Calls Try.prog 17 #[.pointer (some ⟨qb, 0, none⟩), .slice a xs.length cap] w fun e w' => ∃ l, IsWord (many xs) (fun i => bitAt bs (p + i)) l ∧ Keep (fun k => k = qb) w w' ∧
      ((p + l ≤ 8 * bs.length ∧ (∃ sym, (symsOf xs l)[valF (fun i => bitAt bs (p + i)) l - nextF (many xs) l]? = some sym ∧ e = .returned (.tuple #[.int .i64 (sym : Int), .int .i64 0])) ∧ IsQ w' qb g o bs (p + l)) ∨
       (8 * bs.length < p + l ∧ e = .returned (.tuple #[.int .i64 0, .int .i64 10]) ∧ IsQ w' qb g o bs (8 * bs.length))) := by
  have h := right_any a cap gb off xs w hR h8 hl
  rw [hgood] at h
  go_enter Try.func17, Try.ntmps17
  go_wp2_with fail
  refine h.mono ?_
  rintro e w1 ⟨rfl, hk⟩
  clear h
  go_wp2_with fail
  refine (words_any a cap gb off xs w1 (hR.keep hk (fun _ h => h)) hl hgood).mono ?_
  rintro e w2 ⟨cb, rfl, h1, h2, h3, h4⟩
  have hkw := hk.trans' h4
  have hsz := hk.size
  have hrw := readWord_good qb g o p bs a cap gb off cb xs w2 (hI.keep hkw (fun h => h) (fun _ h => h)) hgr hrow (by omega) (hR.keep hkw (fun _ h => h)) h3 hl hgood
  have HRW := (show Hid (∀ u : Unit, Calls Try.prog 37 _ w2 _) from fun _ => hrw)
  have HK := (show Hid (Keep noBlock w w2) from hkw)
  clear hrw hkw h1 h2 h3 h4 hk hR hI
  go_wp2_with fail
  refine (HRW.out ()).mono ?_
  rintro e w3 ⟨l, hW, hk3, ⟨hle, ⟨sym, hsym, rfl⟩, hI3⟩ | ⟨hlt, rfl, hI3⟩⟩
  · have H := (show Hid (IsWord (many xs) (fun i => bitAt bs (p + i)) l ∧ p + l ≤ 8 * bs.length ∧ (symsOf xs l)[valF (fun i => bitAt bs (p + i)) l - nextF (many xs) l]? = some sym ∧ IsQ w3 qb g o bs (p + l) ∧ Keep (fun k => k = qb) w w3) from ⟨hW, hle, hsym, hI3, (HK.out.mono (fun _ _ h => h.elim)).trans' hk3⟩)
    clear hW hle hsym hI3 hk3 HRW
    go_wp2
    go_ret2
    exact ⟨l, H.out.1, H.out.2.2.2.2, .inl ⟨H.out.2.1, ⟨sym, H.out.2.2.1, rfl⟩, H.out.2.2.2.1⟩⟩
  · have H := (show Hid (IsWord (many xs) (fun i => bitAt bs (p + i)) l ∧ 8 * bs.length < p + l ∧ IsQ w3 qb g o bs (8 * bs.length) ∧ Keep (fun k => k = qb) w w3) from ⟨hW, hlt, hI3, (HK.out.mono (fun _ _ h => h.elim)).trans' hk3⟩)
    clear hW hlt hI3 hk3 HRW
    go_wp2
    go_ret2
    exact ⟨l, H.out.1, H.out.2.2.2, .inr ⟨H.out.2.1, rfl, H.out.2.2.1⟩⟩

end Go.Proofs.Ytapcohpagipkpaa
