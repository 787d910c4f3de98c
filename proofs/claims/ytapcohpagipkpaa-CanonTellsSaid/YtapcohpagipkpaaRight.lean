/-
  The document's Right, Able: do lengths make a code; may counts be given lengths.
-/
import Derived.Test.YtapcohpagipkpaaBestK
namespace Go.Proofs.Ytapcohpagipkpaa
open Go.RowKit Go.Shelf

set_option maxRecDepth 100000 in
set_option maxHeartbeats 1000000 in
theorem right_far (a : Option Addr) (cap n : Nat) (w : World) (hl : 1024 < n) :
    Calls Try.prog 23 #[.slice a n cap] w fun e w' => e = .returned (.bool false) ∧ Keep noBlock w w' := by
  have h1 : (1024 : Int) < (n : Int) := by omega
  go_enter Try.func23, Try.ntmps23
  go_wp2
  go_ret
  exact ⟨rfl, Keep.refl _ _⟩

/-- What Right has counted when k lengths are over. -/
def rsum (ls : List Nat) (k : Nat) : Nat := sumL (ls.take k) (fun x => if x = 0 then 0 else 2 ^ (15 - x))
def rcnt (ls : List Nat) (k : Nat) : Nat := sumL (ls.take k) (fun x => if x = 0 then 0 else 1)
theorem sumL_take (ls : List Nat) (f : Nat → Nat) (k : Nat) (h : k < ls.length) : sumL (ls.take (k + 1)) f = sumL (ls.take k) f + f (numOf ls k) := by
  rw [List.take_add_one, List.getElem?_eq_getElem h]
  show sumL (ls.take k ++ [ls[k]]) f = _
  rw [sumL_snoc]
  congr 2
  unfold numOf
  rw [List.getElem?_eq_getElem h]
  rfl
theorem rsum_le (ls : List Nat) (k : Nat) : rsum ls k ≤ 16384 * rcnt ls k ∧ rcnt ls k ≤ k := by
  constructor
  · unfold rsum rcnt
    generalize ls.take k = l
    induction l with
    | nil => simp [sumL_nil]
    | cons x l ih =>
      rw [sumL_cons, sumL_cons, Nat.mul_add]
      have : (if x = 0 then 0 else 2 ^ (15 - x)) ≤ 16384 * (if x = 0 then 0 else 1) := by
        by_cases h : x = 0
        · simp [h]
        · rw [if_neg h, if_neg h, Nat.mul_one]
          exact Nat.le_trans (Nat.pow_le_pow_right (by omega) (show 15 - x ≤ 14 by omega)) (by decide)
      omega
  · unfold rcnt
    refine Nat.le_trans ?_ (show (ls.take k).length ≤ k by rw [List.length_take]; omega)
    generalize ls.take k = l
    induction l with
    | nil => simp [sumL_nil]
    | cons x l ih =>
      rw [sumL_cons, List.length_cons]
      split <;> omega

set_option maxRecDepth 100000 in
set_option maxHeartbeats 1000000 in
theorem right_any (a : Option Addr) (cap gb off : Nat) (ls : List Nat) (w : World) (hR : Row w .u8 a cap gb off ls) (h8 : ∀ i, numOf ls i < 256) (hl : ls.length ≤ 1024) :
    Calls Try.prog 23 #[.slice a ls.length cap] w fun e w' => e = .returned (.bool (isCode ls)) ∧ Keep noBlock w w' := by
  have g1 : ¬ (1024 : Int) < (ls.length : Int) := by omega
  have HR := (show Hid (Row w .u8 a cap gb off ls ∧ ∀ i, numOf ls i < 256) from ⟨hR, h8⟩)
  clear hR h8
  go_enter Try.func23, Try.ntmps23
  go_wp2
  go_loopw [3, 4, 5] (fun vn vs vi wr => ∃ i : Nat, vi = .int .i64 (i : Int) ∧ i ≤ ls.length ∧ vn = .int .i64 ((rcnt ls i : Nat) : Int) ∧ vs = .int .i64 ((rsum ls i : Nat) : Int) ∧ Hid (∀ x ∈ ls.take i, x ≤ 15) ∧ Keep noBlock w wr) (fun _ _ vi _ => ls.length - (intOf vi).toNat)
  case atStart => exact ⟨0, rfl, Nat.zero_le _, rfl, rfl, (fun x hx => by simp at hx), Keep.refl _ _⟩
  case round =>
    obtain ⟨i, rfl, hi, rfl, rfl, H15, hk⟩ := hrel
    by_cases hlt : i < ls.length
    · have hRw := HR.out.1.keep hk (fun _ h => h)
      obtain rfl : a = some ⟨gb, off, none⟩ := hRw.at_.resolve_right (by rintro rfl; simp at hlt)
      have c1 : wr.cell? ⟨gb, off + i, none⟩ = some (.int .u8 ((numOf ls i : Nat) : Int)) := hRw.cells i hlt
      have h8 := HR.out.2 i
      by_cases h15 : 15 < numOf ls i
      · have hbad : isCode ls = false := by
          unfold isCode
          rw [decide_eq_false_iff_not]
          rintro ⟨_, h, _⟩
          have := h ls[i] (List.getElem_mem hlt)
          unfold numOf at h15
          rw [List.getElem?_eq_getElem hlt] at h15
          simp at h15
          omega
        have h15I : (15 : Int) < ((numOf ls i : Nat) : Int) := by omega
        have HB := (show Hid _ from hbad)
        clear hRw hbad
        generalize numOf ls i = x at c1 h15I
        go_wp2
        go_ret
        exact ⟨by rw [HB.out]; rfl, hk⟩
      · have h15I : ¬ (15 : Int) < ((numOf ls i : Nat) : Int) := by omega
        have hn := sumL_take ls (fun x => if x = 0 then 0 else 1) i hlt
        have hs := sumL_take ls (fun x => if x = 0 then 0 else 2 ^ (15 - x)) i hlt
        change rcnt ls (i + 1) = rcnt ls i + _ at hn
        change rsum ls (i + 1) = rsum ls i + _ at hs
        have hall : ∀ x ∈ ls.take (i + 1), x ≤ 15 := by
          intro x hx
          rw [List.take_add_one, List.getElem?_eq_getElem hlt] at hx
          rcases List.mem_append.1 hx with hx | hx
          · exact H15.out x hx
          · have : x = ls[i] := by simpa using hx
            unfold numOf at h15
            rw [List.getElem?_eq_getElem hlt] at h15
            simp at h15
            omega
        have hb := rsum_le ls i
        have HALL := (show Hid (∀ x ∈ ls.take (i + 1), x ≤ 15) from hall)
        clear hRw hall H15
        generalize rsum ls i = sm at hs hb ⊢
        generalize rcnt ls i = cn at hn hb ⊢
        have hsm : sm ≤ 16777216 := by omega
        have hcn : cn ≤ 1024 := by omega
        by_cases h0 : numOf ls i = 0
        · rw [if_pos h0] at hn hs
          have HN := (show Hid (rcnt ls (i + 1) = cn + 0 ∧ rsum ls (i + 1) = sm + 0) from ⟨hn, hs⟩)
          rw [h0] at c1
          clear hn hs hb h15I
          go_wp2
          go_roundw
          case rel => exact ⟨i + 1, by go_num, by omega, by rw [HN.out.1]; rfl, by rw [HN.out.2]; rfl, HALL, hk⟩
          case measure => simp [intOf]; omega
        · rw [if_neg h0] at hn hs
          obtain ⟨x, hx⟩ : ∃ x, x = numOf ls i := ⟨_, rfl⟩
          rw [← hx] at c1 hs h0 h15I h15 h8
          obtain ⟨z, hz⟩ : ∃ z, z = 2 ^ (15 - x) := ⟨_, rfl⟩
          rw [← hz] at hs
          have hzb : z ≤ 16384 := by rw [hz]; exact Nat.le_trans (Nat.pow_le_pow_right (by omega) (show 15 - x ≤ 14 by omega)) (by decide)
          have hzI : (2 : Int) ^ (15 - x) = (z : Int) := by rw [hz]; simp
          have h0I : (0 : Int) < (x : Int) := by omega
          have HN := (show Hid (rcnt ls (i + 1) = cn + 1 ∧ rsum ls (i + 1) = sm + z) from ⟨hn, hs⟩)
          clear hn hs hb hx hz
          go_wp2
          go_roundw
          case rel => exact ⟨i + 1, by go_num, by omega, by rw [HN.out.1]; go_num, by rw [HN.out.2]; go_num, HALL, hk⟩
          case measure => simp [intOf]; omega
    · obtain rfl : i = ls.length := by omega
      have h15 := H15.out
      rw [List.take_length] at h15
      have hp := parts_all ls h15
      have hb := rsum_le ls ls.length
      have hrs : rsum ls ls.length = partsTo (many ls) 16 := by rw [hp]; unfold rsum; rw [List.take_length]
      have hcode : isCode ls = decide (rsum ls ls.length = 32768) := by
        unfold isCode
        rw [hrs]
        simp [hl]
        exact fun _ => h15
      have HC := (show Hid _ from hcode)
      generalize rsum ls ls.length = sm at hb HC ⊢
      generalize rcnt ls ls.length = cn at hb ⊢
      clear hp hrs hcode h15
      by_cases h2 : 2 ≤ cn
      · have h2I : (2 : Int) ≤ (cn : Int) := by omega
        by_cases hs : sm = 32768
        · subst hs
          go_wp2
          go_ret
          exact ⟨by rw [HC.out]; rfl, hk⟩
        · have hsI : ¬ (sm : Int) = 32768 := by omega
          have hsB : ((sm : Int) == 32768) = false := by simpa using hsI
          go_wp2
          go_ret
          exact ⟨by rw [HC.out, decide_eq_false hs]; rfl, hk⟩
      · have h2I : ¬ (2 : Int) ≤ (cn : Int) := by omega
        have hs : ¬ sm = 32768 := by omega
        have h2B : decide ((2 : Int) ≤ (cn : Int)) = false := decide_eq_false h2I
        go_wp2
        go_ret
        exact ⟨by rw [HC.out, decide_eq_false hs]; rfl, hk⟩

set_option maxRecDepth 100000 in
set_option maxHeartbeats 1000000 in
theorem able_arg (a : Option Addr) (cap n : Nat) (most : Int) (w : World) (h : 1024 < n ∨ most < 1 ∨ 15 < most) :
    Calls Try.prog 22 #[.slice a n cap, .int .i64 most] w fun e w' => e = .returned (.bool false) ∧ Keep noBlock w w' := by
  by_cases h1 : 1024 < n
  · have h1I : (1024 : Int) < (n : Int) := by omega
    have h1B : decide ((1024 : Int) < (n : Int)) = true := decide_eq_true h1I
    go_enter Try.func22, Try.ntmps22
    go_wp2
    go_ret
    exact ⟨rfl, Keep.refl _ _⟩
  · have h1I : ¬ (1024 : Int) < (n : Int) := by omega
    have h1B : decide ((1024 : Int) < (n : Int)) = false := decide_eq_false h1I
    by_cases h2 : most < 1
    · have h2B : decide (most < 1) = true := decide_eq_true h2
      go_enter Try.func22, Try.ntmps22
      go_wp2
      go_ret
      exact ⟨rfl, Keep.refl _ _⟩
    · have h3 : 15 < most := by omega
      have h2B : decide (most < 1) = false := decide_eq_false h2
      have h3B : decide (15 < most) = true := decide_eq_true h3
      go_enter Try.func22, Try.ntmps22
      go_wp2
      go_ret
      exact ⟨rfl, Keep.refl _ _⟩

set_option maxRecDepth 100000 in
set_option maxHeartbeats 1000000 in
theorem able_any (a : Option Addr) (cap gb off most : Nat) (xs : List Nat) (w : World) (hR : Row w .u32 a cap gb off xs) (hl : xs.length ≤ 1024) (hm0 : 1 ≤ most) (hm : most ≤ 15) :
    Calls Try.prog 22 #[.slice a xs.length cap, .int .i64 (most : Int)] w fun e w' => e = .returned (.bool (decide (2 ≤ (placesTo (numOf xs) xs.length).length ∧ (placesTo (numOf xs) xs.length).length ≤ 2 ^ most))) ∧ Keep noBlock w w' := by
  have g1 : ¬ (1024 : Int) < (xs.length : Int) := by omega
  have g2 : ¬ (most : Int) < 1 := by omega
  have g3 : ¬ (15 : Int) < (most : Int) := by omega
  have b1 : decide ((1024 : Int) < (xs.length : Int)) = false := decide_eq_false g1
  have b2 : decide ((most : Int) < 1) = false := decide_eq_false g2
  have b3 : decide ((15 : Int) < (most : Int)) = false := decide_eq_false g3
  obtain ⟨z, hz⟩ : ∃ z, z = 2 ^ most := ⟨_, rfl⟩
  have hzI : (2 : Int) ^ most = (z : Int) := by rw [hz]; simp
  have hzb : z ≤ 32768 := by rw [hz]; exact Nat.le_trans (Nat.pow_le_pow_right (by omega) hm) (by decide)
  rw [← hz]
  obtain ⟨ans, hans⟩ : ∃ ans, ans = decide (2 ≤ (placesTo (numOf xs) xs.length).length ∧ (placesTo (numOf xs) xs.length).length ≤ z) := ⟨_, rfl⟩
  rw [← hans]
  have HA := (show Hid _ from hans)
  clear hz hans
  have HR := (show Hid (Row w .u32 a cap gb off xs) from hR)
  clear hR
  go_enter Try.func22, Try.ntmps22
  go_wp2
  go_loopw [5, 6] (fun vn vi wr => ∃ i : Nat, vi = .int .i64 (i : Int) ∧ i ≤ xs.length ∧ vn = .int .i64 (((placesTo (numOf xs) i).length : Nat) : Int) ∧ Keep noBlock w wr) (fun _ vi _ => xs.length - (intOf vi).toNat)
  case atStart => exact ⟨0, rfl, Nat.zero_le _, rfl, Keep.refl _ _⟩
  case round =>
    obtain ⟨i, rfl, hi, rfl, hk⟩ := hrel
    by_cases hlt : i < xs.length
    · have hRw := HR.out.keep hk (fun _ h => h)
      obtain rfl : a = some ⟨gb, off, none⟩ := hRw.at_.resolve_right (by rintro rfl; simp at hlt)
      have c1 : wr.cell? ⟨gb, off + i, none⟩ = some (.int .u32 ((numOf xs i : Nat) : Int)) := hRw.cells i hlt
      have hp := placesTo_succ (numOf xs) i
      have hb := placesTo_len (numOf xs) i
      have hp' : (placesTo (numOf xs) (i + 1)).length = (placesTo (numOf xs) i).length + (if numOf xs i = 0 then 0 else 1) := by
        rw [hp]; split <;> simp
      generalize (placesTo (numOf xs) i).length = cn at hp' hb ⊢
      clear hp hRw
      by_cases h0 : numOf xs i = 0
      · rw [if_pos h0] at hp'
        rw [h0] at c1
        have HN := (show Hid _ from hp')
        clear hp'
        go_wp2
        go_roundw
        case rel => exact ⟨i + 1, by go_num, by omega, by rw [HN.out]; rfl, hk⟩
        case measure => simp [intOf]; omega
      · rw [if_neg h0] at hp'
        have HN := (show Hid _ from hp')
        have h0I : (0 : Int) < ((numOf xs i : Nat) : Int) := by omega
        clear hp'
        generalize numOf xs i = x at c1 h0 h0I
        go_wp2
        go_roundw
        case rel => exact ⟨i + 1, by go_num, by omega, by rw [HN.out]; go_num, hk⟩
        case measure => simp [intOf]; omega
    · obtain rfl : i = xs.length := by omega
      generalize (placesTo (numOf xs) xs.length).length = cn at HA ⊢
      by_cases h2 : 2 ≤ cn
      · have h2I : (2 : Int) ≤ (cn : Int) := by omega
        have h2B : decide ((2 : Int) ≤ (cn : Int)) = true := decide_eq_true h2I
        by_cases h3 : cn ≤ z
        · have h3I : (cn : Int) ≤ (z : Int) := by omega
          have hd := decide_eq_true (show 2 ≤ cn ∧ cn ≤ z from ⟨h2, h3⟩)
          have HD := (show Hid _ from hd)
          clear hd
          go_wp2
          go_ret
          exact ⟨by rw [HA.out, HD.out]; rfl, hk⟩
        · have h3I : ¬ (cn : Int) ≤ (z : Int) := by omega
          have hd := decide_eq_false (show ¬ (2 ≤ cn ∧ cn ≤ z) from fun h => h3 h.2)
          have HD := (show Hid _ from hd)
          clear hd
          go_wp2
          go_ret
          exact ⟨by rw [HA.out, HD.out]; rfl, hk⟩
      · have h2I : ¬ (2 : Int) ≤ (cn : Int) := by omega
        have h2B : decide ((2 : Int) ≤ (cn : Int)) = false := decide_eq_false h2I
        have hd := decide_eq_false (show ¬ (2 ≤ cn ∧ cn ≤ z) from fun h => h2 h.1)
        have HD := (show Hid _ from hd)
        clear hd
        go_wp2
        go_ret
        exact ⟨by rw [HA.out, HD.out]; rfl, hk⟩

end Go.Proofs.Ytapcohpagipkpaa
