/-
  right: do steps tell a text? Of the steps that do.
-/
import Derived.Test.YtlpibfonpfhakaaDoorPrs
import Derived.Test.YtlpibfonpfhakaaDoorSiz
namespace Go.Proofs.YtlpibfonpfhakaaDoor
open Go.RowKit Go.Shelf
set_option linter.unusedVariables false

/-- Steps as numbers that may be below 0. -/
def triI (L : List Trip) : List Tri := L.map (fun t => ((t.1 : Int), (t.2.1 : Int), (t.2.2 : Int)))
theorem triI_length (L : List Trip) : (triI L).length = L.length := by simp [triI]
theorem triI_at (L : List Trip) (j : Nat) (hj : j < L.length) : (triI L)[j]?.getD (0, 0, 0) = (((L[j]?.getD (0, 0, 0)).1 : Int), ((L[j]?.getD (0, 0, 0)).2.1 : Int), ((L[j]?.getD (0, 0, 0)).2.2 : Int)) := by simp [triI, hj]
theorem RightL.small {c : Cf} (hn : c.bs.length < 65536) : ∀ {L : List Trip} {p : Nat}, RightL c p L → ∀ t ∈ L, t.1 < 65536 ∧ t.2.1 < 65536 ∧ t.2.2 < 65536
  | [], p, h, t, ht => by cases ht
  | (l, m, b) :: r, p, h, t, ht => by
    rcases h with ⟨q1, q2, q3, q4, q5⟩ | ⟨q1, q2⟩
    · subst q2
      have : t = (l, m, b) := by simpa using ht
      subst this
      exact ⟨by show l < 65536; omega, by show m < 65536; omega, by show b < 65536; omega⟩
    · rcases List.mem_cons.1 ht with e | e
      · subst e
        have h1 := q1.fin; have h2 := q1.ba
        exact ⟨by show l < 65536; omega, by show m < 65536; omega, by show b < 65536; omega⟩
      · exact RightL.small hn q2 t e
theorem ownsQ_row {w : World} {v : Value} {L : List Trip} (h : ownsQ w v L) (hs : ∀ t ∈ L, t.2.2 < 65536) : ∃ a cap g, v = .slice a L.length cap ∧ RowQ w a cap g 0 (triI L) ∧ (v.ownBlock = some g ∨ L = []) := by
  have hb : ∀ j : Nat, ((triI L)[j]?.getD (0, 0, 0)).2.2 < 9223372036854775808 := fun j => by
    by_cases hj : j < L.length
    · rw [triI_at L j hj]
      have := hs (L[j]?.getD (0, 0, 0)) (by rw [List.getElem?_eq_getElem hj]; exact List.getElem_mem hj)
      show (((L[j]?.getD (0, 0, 0)).2.2 : Nat) : Int) < 9223372036854775808
      omega
    · rw [List.getElem?_eq_none (by rw [triI_length]; omega)]; decide
  rcases h.2 with ⟨e, h0⟩ | ⟨g, cap, cur, e, _, hg, h1, h2, h3, h4⟩
  · have : L = [] := List.length_eq_zero_iff.1 h0
    subst this
    exact ⟨none, 0, 0, e, ⟨.inr rfl, fun j hj => by simp [triI] at hj, hb⟩, .inr rfl⟩
  · subst e
    refine ⟨some ⟨g, 0, none⟩, cap, g, rfl, ⟨.inl rfl, fun j hj => ?_, hb⟩, .inl rfl⟩
    rw [triI_length] at hj
    rw [triI_at L j hj]
    obtain ⟨q1, q2, q3⟩ := seqs_at L j hj
    have e : ∀ k, k < L.length * 3 → cur[k]? = (seqs L)[k]? := fun k hk => by
      rw [← h4, List.getElem?_take, if_pos hk, Array.getElem?_toList]
    refine ⟨?_, ?_, ?_⟩
    · rw [cell_of hg, Nat.zero_add, e _ (by omega)]; exact q1
    · rw [cell_of hg, Nat.zero_add, e _ (by omega)]; exact q2
    · rw [cell_of hg, Nat.zero_add, e _ (by omega)]; exact q3

set_option maxRecDepth 100000 in
set_option maxHeartbeats 4000000 in
theorem right_any (a : Option Addr) (cap gb off : Nat) (bs : List Nat) (F win lo hi : Nat) (la : Option Addr) (lcap lg loff : Nat) (L : List Trip) (w : World) (hB : Bytes w a cap gb off bs) (hQ : RowQ w la lcap lg loff (triI L)) (hR : RightL (cf0 bs win lo hi) F L) (hn : bs.length < 65536) (hL : L.length < 1000000) (hF : F ≤ bs.length) (hlo : 2 ≤ lo) :
    Calls Tryd.prog 13 #[.slice a bs.length cap, .int .i64 (F : Int), .int .i64 (win : Int), .int .i64 (lo : Int), .int .i64 (hi : Int), .slice la L.length lcap] w fun e w' => e = .returned (.bool true) ∧ Keep noBlock w w' := by
  have HB := (show Hid (Bytes w a cap gb off bs ∧ RowQ w la lcap lg loff (triI L)) from ⟨hB, hQ⟩)
  have HR := (show Hid (RightL (cf0 bs win lo hi) F (L.drop 0) ∧ Keep noBlock w w) from ⟨hR, Keep.refl _ _⟩)
  obtain ⟨ll, hll⟩ : ∃ ll, ll = L.length := ⟨_, rfl⟩
  obtain ⟨n, hne⟩ : ∃ n, n = bs.length := ⟨_, rfl⟩
  have HN := (show Hid (ll = L.length ∧ n = bs.length) from ⟨hll, hne⟩)
  rw [← hll] at hL ⊢
  rw [← hne] at hn hF ⊢
  clear hB hQ hR hll hne
  go_enter Tryd.func13, Tryd.ntmps13
  go_wp2_with fail
  go_loopw [13, 14] (fun v13 v14 wr => ∃ p i : Nat, v13 = .int .i64 (p : Int) ∧ v14 = .int .i64 (i : Int) ∧ i ≤ ll ∧ p ≤ n ∧ Hid (RightL (cf0 bs win lo hi) p (L.drop i) ∧ Keep noBlock w wr)) (fun _ v14 _ => ll - (intOf v14).toNat)
  case atStart => exact ⟨F, 0, rfl, rfl, Nat.zero_le _, hF, HR.out⟩
  case round =>
    clear HR
    obtain ⟨p, i, rfl, rfl, hi1, hpn, HI⟩ := hrel
    have hnn := HN.out
    by_cases hlt : i < ll
    · have hltI : (i : Int) < (ll : Int) := by omega
      have hlt2 : i < L.length := by omega
      have hdr : L.drop i = L[i]?.getD (0, 0, 0) :: L.drop (i + 1) := by rw [List.drop_eq_getElem_cons hlt2, List.getElem?_eq_getElem hlt2]; rfl
      obtain ⟨e1, e2, e3⟩ := (HB.out.2.keep HI.out.2 (fun _ h => h)).cells i (by rw [triI_length]; exact hlt2)
      rw [triI_at L i hlt2] at e1 e2 e3
      obtain rfl := HB.out.2.here (i := i) (by rw [triI_length]; exact hlt2)
      obtain ⟨⟨l, m, b⟩, ht⟩ : ∃ t : Trip, L[i]?.getD (0, 0, 0) = t := ⟨_, rfl⟩
      rw [ht] at e1 e2 e3 hdr
      simp only at e1 e2 e3
      have hri := HI.out.1
      rw [hdr] at hri
      obtain ⟨i1, hi1e⟩ : ∃ i1, i1 = i + 1 := ⟨_, rfl⟩
      have hadd : (i : Int) + 1 = (i1 : Int) := by omega
      obtain ⟨d, hd⟩ : ∃ d, d = n - p := ⟨_, rfl⟩
      have hsub : (n : Int) - (p : Int) = (d : Int) := by omega
      obtain ⟨q, hq⟩ : ∃ q, q = p + l := ⟨_, rfl⟩
      have hadd1 : (p : Int) + (l : Int) = (q : Int) := by omega
      have hlen : (cf0 bs win lo hi).bs.length = n := hnn.2.symm
      have gA : decide ((l : Int) < 0) = false := decide_eq_false (by omega)
      have gB : decide ((m : Int) < 0) = false := decide_eq_false (by omega)
      have gC : decide ((b : Int) < 0) = false := decide_eq_false (by omega)
      have HI1 := (show Hid (i1 = i + 1) from hi1e)
      by_cases hm0 : m = 0
      · have hmb : ((m : Int) == 0) = true := by simp [hm0]
        have hx : L.drop (i + 1) = [] ∧ b = 0 ∧ l ≠ 0 ∧ p + l = n := by
          rcases hri with ⟨q1, q2, q3, q4, q5⟩ | ⟨q1, q2⟩
          · exact ⟨q2, q3, q4, by omega⟩
          · have q3 : lo ≤ m := q1.lo
            omega
        obtain ⟨x1, x2, x3, x4⟩ := hx
        have hlast : i + 1 = ll := by
          have : (L.drop (i + 1)).length = 0 := by rw [x1]; rfl
          rw [List.length_drop] at this
          omega
        obtain ⟨l1, hl1⟩ : ∃ l1, l1 = ll - 1 := ⟨_, rfl⟩
        have hsub1 : (ll : Int) - 1 = (l1 : Int) := by omega
        have gD : decide (d < l) = false := decide_eq_false (by omega)
        have gD' : ¬ (d : Int) < (l : Int) := by omega
        have gE : ((i : Int) != (l1 : Int)) = false := by simp; omega
        have gF : ((b : Int) != 0) = false := by simp [x2]
        have gG : ((l : Int) == 0) = false := by rw [beq_eq_false_iff_ne]; omega
        have hqb : q < 65536 := by omega
        have HNX := (show Hid (RightL (cf0 bs win lo hi) q (L.drop i1) ∧ q ≤ n) from ⟨by rw [hi1e, x1]; show q = (cf0 bs win lo hi).bs.length; omega, by omega⟩)
        have HKK := (show Hid (Keep noBlock w wr) from HI.out.2)
        clear ht hdr hri hi1e hd hq hm0 x1 x2 x3 x4 hlast hl1 HI hnn hlen
        go_wp2_with fail
        go_roundw
        case rel => exact ⟨q, i1, rfl, rfl, by have := HI1.out; omega, HNX.out.2, HNX.out.1, HKK.out.alloc _⟩
        case measure => have := HI1.out; simp [intOf]; omega
      · have hmb : ((m : Int) == 0) = false := by rw [beq_eq_false_iff_ne]; omega
        have hx : OkM (cf0 bs win lo hi) (p + l) m b ∧ RightL (cf0 bs win lo hi) (p + l + m) (L.drop (i + 1)) := by
          rcases hri with ⟨q1, q2, q3, q4, q5⟩ | h
          · omega
          · exact h
        have x1 : lo ≤ m := hx.1.lo
        have x2 : m ≤ hi := hx.1.hi
        have x3 : p + l + m ≤ n := by have := hx.1.fin; omega
        have x4 := hx.1.b1
        have x5 : b ≤ win := hx.1.bw
        have x6 := hx.1.ba
        obtain ⟨d2, hd2⟩ : ∃ d2, d2 = n - q := ⟨_, rfl⟩
        have hsub2 : (n : Int) - (q : Int) = (d2 : Int) := by omega
        obtain ⟨q2, hq2⟩ : ∃ q2, q2 = q + m := ⟨_, rfl⟩
        have hadd2 : (q : Int) + (m : Int) = (q2 : Int) := by omega
        have gD : decide (d < l) = false := decide_eq_false (by omega)
        have gD' : ¬ (d : Int) < (l : Int) := by omega
        have gE : decide (m < lo) = false := decide_eq_false (by omega)
        have gF : decide (hi < m) = false := decide_eq_false (by omega)
        have gG : decide (d2 < m) = false := decide_eq_false (by omega)
        have gH : decide ((b : Int) < 1) = false := decide_eq_false (by omega)
        have gI : decide (win < b) = false := decide_eq_false (by omega)
        have gJ : decide (q < b) = false := decide_eq_false (by omega)
        have HNX := (show Hid (RightL (cf0 bs win lo hi) q2 (L.drop i1) ∧ q2 ≤ n ∧ OkM (cf0 bs win lo hi) q m b ∧ q2 = q + m) from ⟨by rw [hi1e, hq2, hq]; exact hx.2, by omega, by rw [hq]; exact hx.1, hq2⟩)
        have HKK := (show Hid (Keep noBlock w wr ∧ b ≤ q ∧ 1 ≤ b) from ⟨HI.out.2, by omega, x4⟩)
        have hq65 : q < 65536 := by omega
        have hq265 : q2 < 65536 := by omega
        have HA := (show Hid (a = some ⟨gb, off, none⟩) from by
          rcases HB.out.1.at_ with e | e
          · exact e
          · exfalso; have : bs.length = 0 := by rw [e]; rfl
            omega)
        obtain rfl := HA.out
        clear HA ht hdr hri hi1e hd hd2 hq hq2 hm0 x1 x2 x3 x4 x5 x6 HI hnn hlen hx
        go_wp2_with fail
        obtain ⟨gs, hgs⟩ : ∃ gs, gs = wr.heap.size := ⟨_, rfl⟩
        obtain ⟨WA, hWA⟩ : ∃ WA, WA = wr.alloc (.cells #[.int .i64 (l : Int), .int .i64 (m : Int), .int .i64 (b : Int)] 25) := ⟨_, rfl⟩
        have HWA := (show Hid (Keep noBlock w WA ∧ WA.heap[gs]? = some (.cells #[.int .i64 (l : Int), .int .i64 (m : Int), .int .i64 (b : Int)] 25 (0, 0))) from by rw [hWA, hgs]; exact ⟨HKK.out.1.alloc _, alloc_new wr _⟩)
        rw [← hWA, ← hgs]
        clear hWA hgs
        go_loopw [16] (fun v16 wx => ∃ k : Nat, v16 = .int .i64 (k : Int) ∧ k ≤ m ∧ Hid (Keep noBlock WA wx)) (fun v16 _ => m - (intOf v16).toNat)
        case atStart => exact ⟨0, rfl, Nat.zero_le _, Keep.refl _ _⟩
        case round =>
          obtain ⟨k, rfl, hkm, HX⟩ := hrel
          have s1 : wr.cell? ⟨gs, 1, none⟩ = some (.int .i64 (m : Int)) := cell_of (HX.out.obj HWA.out.2 (fun h => h)) 1
          have s2 : wr.cell? ⟨gs, 2, none⟩ = some (.int .i64 (b : Int)) := cell_of (HX.out.obj HWA.out.2 (fun h => h)) 2
          by_cases hk : k < m
          · have hkI : (k : Int) < (m : Int) := by omega
            have hnn := HN.out
            have hok := HNX.out.2.2.1
            have hq2e := HNX.out.2.2.2
            have hq2n := HNX.out.2.1
            have hkk := HKK.out
            obtain ⟨x, hx⟩ : ∃ x, x = q + k := ⟨_, rfl⟩
            have ha1 : (q : Int) + (k : Int) = (x : Int) := by omega
            obtain ⟨y, hy⟩ : ∃ y, y = q + k - b := ⟨_, rfl⟩
            have ha2 : (x : Int) - (b : Int) = (y : Int) := by omega
            have hxI : (x : Int) < (n : Int) := by omega
            have hyI : (y : Int) < (n : Int) := by omega
            have hBw := HB.out.1.keep (HWA.out.1.trans' HX.out) (fun _ h => h)
            have c1 := hBw.cells x (by omega)
            have c2 := hBw.cells y (by omega)
            have heq : bs[x]?.getD 0 = bs[y]?.getD 0 := by
              have := hok.same k hk
              have h2 : byteN bs (q + k) = byteN bs (q - b + k) := this
              rw [hx, hy, show q + k - b = q - b + k from by omega]
              exact h2
            rw [← heq] at c2
            obtain ⟨z, hz⟩ : ∃ z, z = bs[x]?.getD 0 := ⟨_, rfl⟩
            rw [← hz] at c1 c2
            have hzb : z < 256 := by rw [hz]; exact HB.out.1.lt x
            have hne : ((z : Int) != (z : Int)) = false := by simp
            obtain ⟨k1, hk1⟩ : ∃ k1, k1 = k + 1 := ⟨_, rfl⟩
            have ha3 : (k : Int) + 1 = (k1 : Int) := by omega
            have hmb2 : m < 65536 := by omega
            have HK1 := (show Hid (k1 = k + 1) from hk1)
            clear hnn hok hq2e hq2n hkk hx hy hBw heq hz hk1
            go_wp2_with fail
            go_quiet (fail)
            go_wp2_with fail
            go_roundw
            case rel => exact ⟨k1, rfl, by have := HK1.out; omega, HX.out.trans' (keep_drewN _ _)⟩
            case measure => have := HK1.out; simp [intOf]; omega
          · have hkI : ¬ (k : Int) < (m : Int) := by omega
            have HKX := (show Hid (Keep noBlock w wr) from HWA.out.1.trans' HX.out)
            clear HX
            go_wp2_with fail
            go_roundw
            case rel => exact ⟨q2, i1, rfl, rfl, by have := HI1.out; omega, HNX.out.2.1, HNX.out.1, HKX.out⟩
            case measure => have := HI1.out; simp [intOf]; omega
    · have hltI : ¬ (i : Int) < (ll : Int) := by omega
      have hpe : p = n := by
        have := HI.out.1
        rw [List.drop_eq_nil_of_le (by omega)] at this
        have h2 : p = (cf0 bs win lo hi).bs.length := this
        have h3 : (cf0 bs win lo hi).bs.length = bs.length := rfl
        omega
      have hpb : ((p : Int) == (n : Int)) = true := by simp [hpe]
      clear hpe hnn
      go_wp2_with fail
      go_ret
      exact ⟨rfl, HI.out.2⟩
end Go.Proofs.YtlpibfonpfhakaaDoor
