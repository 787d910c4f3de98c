/-
  The document's Least: what the uppermost row's first coins weigh.
-/
import Derived.Test.YtapcohpagipkpaaMerged
import Derived.Deep.RegionHeld3
namespace Go.Proofs.Ytapcohpagipkpaa
open Go.RowKit Go.Shelf

/-- Two by two. -/
def pairsN (R : List Nat) : List Nat := (List.range (R.length / 2)).map (fun i => R[2 * i]?.getD 0 + R[2 * i + 1]?.getD 0)
theorem pairsN_length (R : List Nat) : (pairsN R).length = R.length / 2 := by simp [pairsN]
theorem pairsN_take (R : List Nat) (k : Nat) (h : k < R.length / 2) : (pairsN R).take (k + 1) = (pairsN R).take k ++ [R[2 * k]?.getD 0 + R[2 * k + 1]?.getD 0] := by
  rw [List.take_add_one]
  unfold pairsN
  rw [List.getElem?_map, List.getElem?_range h]
  rfl
theorem wt_pairs (L : List (Nat × Bool)) : (pairsL L).map Prod.fst = pairsN (L.map Prod.fst) := by
  unfold pairsL pairsN
  rw [List.map_map, List.length_map]
  refine List.map_congr_left (fun i hi => ?_)
  have hi' := List.mem_range.1 hi
  simp only [Function.comp, List.getElem?_map]
  rw [List.getElem?_eq_getElem (show 2 * i < L.length by omega), List.getElem?_eq_getElem (show 2 * i + 1 < L.length by omega)]
  rfl
/-- The weights of a level. -/
def wt (lv : List (Nat × Bool)) (k : Nat) : List Nat := (levelL lv k).map Prod.fst
theorem wt_zero (lv : List (Nat × Bool)) : wt lv 0 = lv.map Prod.fst := by
  unfold wt levelL
  rw [show pairsL [] = [] from rfl, List.merge_right]
theorem wt_succ (lv : List (Nat × Bool)) (k : Nat) : wt lv (k + 1) = mg (lv.map Prod.fst) (pairsN (wt lv k)) := by
  unfold wt
  rw [← wt_pairs]
  exact List.map_merge (fun a _ b _ => rfl)
theorem wt_length (lv : List (Nat × Bool)) (k : Nat) : (wt lv k).length = (levelL lv k).length := by simp [wt]
theorem wt_sum (lv : List (Nat × Bool)) (k m : Nat) : wsum ((levelL lv k).take m) = ((wt lv k).take m).sum := by
  unfold wsum wt
  rw [List.map_take]
theorem coins_eq {xs P L : List Nat} (hP : IsOrder (numOf xs) xs.length P) (hs : L.Pairwise (· ≤ ·)) (hp : L.Perm (nz xs xs.length)) : L = (lvOf xs P).map Prod.fst := by
  have e : (lvOf xs P).map Prod.fst = P.map (numOf xs) := by unfold lvOf; rw [List.map_map]; rfl
  rw [e]
  have h1 : P.Perm (placesTo (numOf xs) xs.length) := by
    rw [List.perm_ext_iff_of_nodup hP.nodup ((placesTo_inc (numOf xs) xs.length).imp (fun h => Nat.ne_of_lt h))]
    intro x
    rw [hP.mem, placesTo_mem]
  refine List.Perm.eq_of_pairwise (le := (· ≤ ·)) (fun a b _ _ h1 h2 => Nat.le_antisymm h1 h2) hs ?_ (hp.trans (h1.symm.map (numOf xs)))
  rw [List.pairwise_map]
  exact hP.sorted.imp (fun h => by unfold Lx at h; omega)
theorem sum_take (R : List Nat) (k : Nat) (h : k < R.length) : (R.take (k + 1)).sum = (R.take k).sum + R[k]?.getD 0 := by
  rw [List.take_add_one, List.getElem?_eq_getElem h, List.sum_append]
  simp
theorem sum_take_le (R : List Nat) (b : Nat) (hb : ∀ x ∈ R, x < b) (k : Nat) (hk : k ≤ R.length) : (R.take k).sum ≤ k * b := by
  induction k with
  | zero => simp
  | succ k ih =>
    have := hb R[k] (List.getElem_mem (by omega))
    rw [sum_take R k (by omega), List.getElem?_eq_getElem (by omega), Nat.add_mul]
    have := ih (by omega)
    simp
    omega

/-- The coins and the row, in memory that is new since w. -/
structure LR (w W : World) (cv rv : Value) (C R : List Nat) : Prop where
  coins : W.ownsRow w.heap.size 60 1 cv C.length (u64s C)
  row : W.ownsRow w.heap.size 60 1 rv R.length (u64s R)
  keep : Keep noBlock w W
theorem LR.kept {w W W1 : World} {cv rv : Value} {C R : List Nat} (h : LR w W cv rv C R) (hk : Keep noBlock W W1) : LR w W1 cv rv C R :=
  ⟨owns_keep h.coins hk (fun _ _ h => h), owns_keep h.row hk (fun _ _ h => h), h.keep.trans' hk⟩
theorem owns_mono {W : World} {base base' e size n : Nat} {v : Value} {xs : List Value} (h : W.ownsRow base e size v n xs) (hb : base' ≤ base) : W.ownsRow base' e size v n xs := by
  refine ⟨h.1, ?_⟩
  rcases h.2 with h | ⟨g, cap, cur, e, hg, r⟩
  · exact .inl h
  · exact .inr ⟨g, cap, cur, e, by omega, r⟩
/-- The pairs so far, in memory that is new since W0. -/
structure LP (W0 W : World) (pv : Value) (R : List Nat) (k : Nat) : Prop where
  own : W.ownsRow W0.heap.size 60 1 pv k (u64s ((pairsN R).take k))
  keep : Keep noBlock W0 W

set_option maxRecDepth 100000 in
set_option maxHeartbeats 8000000 in
theorem least_any (a : Option Addr) (cap gb off most : Nat) (xs P : List Nat) (w : World) (hR : Row w .u32 a cap gb off xs) (hx : ∀ i, numOf xs i < 4294967296) (hl : xs.length ≤ 1024)
    (hP : IsOrder (numOf xs) xs.length P) (h2 : 2 ≤ P.length) (hm0 : 1 ≤ most) (hm : most ≤ 15) (hn : P.length ≤ 2 ^ most) :
    Calls Try.prog 25 #[.slice a xs.length cap, .int .i64 (most : Int)] w fun e w' => e = .returned (.int .u64 ((wsum ((levelL (lvOf xs P) (most - 1)).take (2 * P.length - 2)) : Nat) : Int)) ∧ Keep noBlock w w' := by
  obtain ⟨i0, hi0, hz0, hz1, hz2⟩ := info_parts info60
  have hlv := lv_len xs P
  have hPl : P.length ≤ 1024 := by
    have := hP.len
    have h3 := placesTo_len (numOf xs) xs.length
    unfold placesTo at h3
    omega
  have hb : ∀ k, k ≤ 14 → ∀ x ∈ wt (lvOf xs P) k, x < 70368744177664 := by
    intro k hk x hxm
    obtain ⟨p, hp, rfl⟩ := List.mem_map.1 hxm
    have h3 := levelL_lt (lvOf xs P) (fun q hq => by
      simp only [lvOf, List.mem_map] at hq
      obtain ⟨i, _, rfl⟩ := hq
      exact hx i) k p hp
    have h4 : 2 ^ k ≤ 2 ^ 14 := Nat.pow_le_pow_right (by omega) hk
    omega
  have hlen : ∀ k, (wt (lvOf xs P) k).length ≤ 2048 := by
    intro k
    rw [wt_length]
    have := levelL_length (lvOf xs P) k
    omega
  have hfit : 2 * P.length - 2 ≤ (wt (lvOf xs P) (most - 1)).length := by
    rw [wt_length]
    have h3 := nF_fits (lv := lvOf xs P) (most := most) (lv_all xs P) hm0 (by rw [hlv]; exact hn) (most - 1) (by omega)
    have e : nF (lvOf xs P) most (most - 1) = 2 * P.length - 2 := by
      unfold nF
      rw [Nat.sub_self]
      show 2 * (lvOf xs P).length - 2 = _
      rw [hlv]
    omega
  obtain ⟨ans, hans⟩ : ∃ ans, ans = wsum ((levelL (lvOf xs P) (most - 1)).take (2 * P.length - 2)) := ⟨_, rfl⟩
  rw [← hans]
  rw [wt_sum] at hans
  have HA := (show Hid (ans = _) from hans)
  have hmx : Try.prog.follows .mixedOrders = true := by kernel_rfl
  clear hans
  have HR := (show Hid (Row w .u32 a cap gb off xs ∧ (∀ i, numOf xs i < 4294967296)) from ⟨hR, hx⟩)
  have HB := (show Hid ((∀ k, k ≤ 14 → ∀ x ∈ wt (lvOf xs P) k, x < 70368744177664) ∧ (∀ k, (wt (lvOf xs P) k).length ≤ 2048) ∧ 2 * P.length - 2 ≤ (wt (lvOf xs P) (most - 1)).length) from ⟨hb, hlen, hfit⟩)
  clear hR hx hb hlen hfit hn
  go_enter Try.func25, Try.ntmps25
  go_wp2_with fail
  refine (sorted_any a cap gb off xs w HR.out.1 HR.out.2 hl).mono ?_
  rintro e w1 ⟨v, L, rfl, hC⟩
  have hL := coins_eq hP hC.sorted hC.perm
  have hLl : L.length = P.length := by rw [hL, List.length_map, hlv]
  obtain ⟨ca, cc, rfl⟩ := owns_form hC.own
  have H0 := (show Hid (LR w w1 (.slice ca L.length cc) (.slice ca L.length cc) L L ∧ L = wt (lvOf xs P) 0) from ⟨⟨hC.own, hC.own, hC.keep⟩, by rw [wt_zero]; exact hL⟩)
  have HL := (show Hid (L = (lvOf xs P).map Prod.fst ∧ L.length = P.length) from ⟨hL, hLl⟩)
  have hL2 : 2 ≤ L.length := by omega
  have hL3 : L.length ≤ 1024 := by omega
  clear hC hL hLl hlv hP h2 hPl
  go_wp2_with fail
  go_loopw [6, 7] (fun vr vi wr => ∃ (i : Nat) (R : List Nat) (sa : Option Addr) (cap' : Nat), vi = .int .i64 (i : Int) ∧ vr = .slice sa R.length cap' ∧ 1 ≤ i ∧ i ≤ most ∧ R.length ≤ 2048 ∧ Hid (LR w wr (.slice ca L.length cc) (.slice sa R.length cap') L R ∧ R = wt (lvOf xs P) (i - 1))) (fun _ vi _ => most - (intOf vi).toNat)
  case atStart => exact ⟨1, L, ca, cc, rfl, rfl, Nat.le_refl _, hm0, by omega, H0.out⟩
  case round =>
    clear H0
    obtain ⟨i, R, sa, cap', rfl, rfl, hi1, hi2, hRl, HM⟩ := hrel
    by_cases hlt : i < most
    · have hltI : (i : Int) < (most : Int) := by omega
      go_wp2_with fail
      obtain ⟨rg, hRow, hRg⟩ := owns64 HM.out.1.row rfl
      have HRow := (show Hid (Row wr .u64 sa cap' rg 0 R) from hRow)
      obtain ⟨W0, hW0⟩ : ∃ W0, W0 = wr := ⟨_, rfl⟩
      have H1 := (show Hid (LP W0 wr (.slice none 0 0) R 0) from by rw [hW0]; exact ⟨⟨rfl, .inl ⟨rfl, rfl⟩⟩, Keep.refl _ _⟩)
      rw [← hW0] at HRow
      have HM0 := (show Hid (LR w W0 (.slice ca L.length cc) (.slice sa R.length cap') L R ∧ R = wt (lvOf xs P) (i - 1)) from by rw [hW0]; exact HM.out)
      clear hRow hRg HM hW0
      go_loopw [8, 9] (fun vp vk wr => ∃ (k m : Nat) (sa2 : Option Addr) (cap2 : Nat), vk = .int .i64 (m : Int) ∧ vp = .slice sa2 k cap2 ∧ m ≤ R.length ∧ Hid (LP W0 wr (.slice sa2 k cap2) R k ∧ m = 2 * k)) (fun _ vk _ => R.length - (intOf vk).toNat)
      case atStart => exact ⟨0, 0, none, 0, rfl, rfl, Nat.zero_le _, H1.out, rfl⟩
      case round =>
        clear H1
        obtain ⟨k, m, sa2, cap2, rfl, rfl, hmR, HK⟩ := hrel
        by_cases hlt2 : m + 1 < R.length
        · obtain ⟨m1, hm1⟩ : ∃ m1, m1 = m + 1 := ⟨_, rfl⟩
          have hm1I : (m : Int) + 1 = (m1 : Int) := by omega
          have hm1W : IntKind.i64.wrap ((m : Int) + 1) = (m1 : Int) := by rw [IntKind.wrap_i64]; omega
          have hm1V : IntKind.i64.wrap (m1 : Int) = (m1 : Int) := by rw [IntKind.wrap_i64]; omega
          have hlt2I : (m1 : Int) < (R.length : Int) := by omega
          have hlt2N : m1 < R.length := by omega
          have hlt3I : (m : Int) < (R.length : Int) := by omega
          have hrow := HRow.out.keep HK.out.1.keep (fun _ h => h)
          obtain rfl : sa = some ⟨rg, 0, none⟩ := hrow.at_.resolve_right (by rintro rfl; simp at hlt2)
          have c1 := hrow.cells m (by omega)
          have c2 := hrow.cells m1 hlt2N
          rw [Nat.zero_add] at c1 c2
          obtain ⟨x, hx⟩ : ∃ x, x = R[m]?.getD 0 := ⟨_, rfl⟩
          obtain ⟨y, hy⟩ : ∃ y, y = R[m1]?.getD 0 := ⟨_, rfl⟩
          rw [← hx] at c1
          rw [← hy] at c2
          have hbx : ∀ j, j < R.length → R[j]?.getD 0 < 70368744177664 := fun j hj => by
            have e := HM0.out.2
            have := HB.out.1 (i - 1) (by omega) R[j] (by rw [← e]; exact List.getElem_mem hj)
            rw [List.getElem?_eq_getElem hj]; exact this
          have hxb : x < 70368744177664 := by rw [hx]; exact hbx m (by omega)
          have hyb : y < 70368744177664 := by rw [hy]; exact hbx m1 hlt2N
          obtain ⟨z, hz⟩ : ∃ z, z = x + y := ⟨_, rfl⟩
          have hzI : (x : Int) + (y : Int) = (z : Int) := by omega
          have hzb : z < 140737488355328 := by omega
          have hzW : IntKind.u64.wrap ((x : Int) + (y : Int)) = (z : Int) := by rw [IntKind.wrap_u64]; omega
          have hzV : IntKind.u64.wrap (z : Int) = (z : Int) := by rw [IntKind.wrap_u64]; omega
          have hk2 := HK.out.2
          have hnx : (pairsN R).take (k + 1) = (pairsN R).take k ++ [z] := by rw [pairsN_take R k (by omega), ← hk2, ← hm1, ← hx, ← hy, hz]
          have hkl : k ≤ 2048 := by omega
          have hrl : rg < W0.heap.size := by have := HRow.out.block (by rintro rfl; simp at hlt2); exact this
          have hgne : (Value.slice sa2 k cap2).ownBlock ≠ some rg := fun e => by have := (HK.out.1.own.lt rg e).1; omega
          have hmax : k + 1 ≤ maxLen := by unfold maxLen; omega
          have hby : (k + 1) * 8 ≤ 140737488355328 := by omega
          have hsz := HK.out.1.keep.size
          have hrl2 : rg < wr.heap.size := by omega
          have hownq := HK.out.1.own
          have HN := (show Hid ((pairsN R).take (k + 1) = (pairsN R).take k ++ [z] ∧ m = 2 * k ∧ Keep noBlock W0 wr) from ⟨hnx, hk2, HK.out.1.keep⟩)
          have HM1 := (show Hid (m1 = m + 1) from hm1)
          clear hrow hx hy hbx hz hk2 hnx HK hm1 hlt2
          go_wp2_with fail
          go_region_held3 (fun w' => w'.cell? ⟨rg, m, none⟩ = some (.int .u64 (x : Int)) ∧ w'.cell? ⟨rg, m1, none⟩ = some (.int .u64 (y : Int)))
            (first | go_keep | (go_split_ands; refine ⟨?_, ?_⟩ <;> (rw [hgrow.cell_far _ (by simp; omega) (Ne.symm hgne)]; assumption)))
            ((refine step_append_lies _ (by rfl) _ _ _ (by rfl) W0.heap.size 60 i0 _ 1 8 Try.underlying88 hi0 hz0 hz1 hz2 rfl (by omega) (.slice sa2 k cap2) k (u64s ((pairsN R).take k)) (by rfl) ((hownq.alloc _).drew)
                ⟨wr.heap.size, 0, none⟩ 1 1 [.int .u64 (z : Int)] (by rfl) (by rfl) (World.news_of_block (cs := #[.int .u64 (z : Int)]) (t := 60) (fr := (0, 0)) (heap_alloc_new wr _)) (by simp [Value.oneCell'])
                (by omega) hmax hby (by simp; omega) (wr.heap.size + 1) (by simp) ?_; intro gg cap3 w2 hown2 hgrow hat hltg))
          all_goals go_wp2
          go_roundw
          case rel =>
            refine ⟨k + 1, m + 2, some ⟨gg, 0, none⟩, cap3, by go_num, rfl, by have := HM1.out; omega, ⟨?_, ?_⟩, by have := HN.out.2.1; omega⟩
            · rw [HN.out.1]; simpa [u64s] using hown2
            · exact ((HN.out.2.2.alloc _).drew).grown hgrow (fun k e hk => by have := (hownq.lt k e).1; omega)
          case measure => have := HM1.out; simp [intOf]; omega
        · have hlt2I : ¬ (m : Int) + 1 < (R.length : Int) := by omega
          have hk2 := HK.out.2
          have hkl : k ≤ R.length / 2 := by omega
          obtain rfl : k = (pairsN R).length := by rw [pairsN_length]; omega
          have hpo := HK.out.1.own
          rw [List.take_length] at hpo
          obtain ⟨pg, hpR, _⟩ := owns64 hpo rfl
          have hLR := HM0.out.1.kept HK.out.1.keep
          obtain ⟨cg, hcR, _⟩ := owns64 hLR.coins rfl
          have hpl := pairsN_length R
          have hsum : L.length + (pairsN R).length ≤ 4096 := by omega
          have HC := (show Hid (Row wr .u64 ca cc cg 0 L ∧ Row wr .u64 sa2 cap2 pg 0 (pairsN R) ∧ LR w wr (.slice ca L.length cc) (.slice sa R.length cap') L R ∧ R = wt (lvOf xs P) (i - 1)) from ⟨hcR, hpR, hLR, HM0.out.2⟩)
          clear hk2 hkl hpo hpR hLR hcR hpl HK HM0 HRow
          go_wp2_with fail
          refine (merged_any ca sa2 cc cap2 cg pg 0 0 L (pairsN R) _ HC.out.1 HC.out.2.1 hsum).mono ?_
          rintro e w3 ⟨v3, rfl, hown3, hk3⟩
          obtain ⟨sa3, cap3, rfl⟩ := owns_form hown3
          have hsz := HC.out.2.2.1.keep.size
          have hLR3 : LR w w3 (.slice ca L.length cc) (.slice sa3 (mg L (pairsN R)).length cap3) L (mg L (pairsN R)) := by
            have h := HC.out.2.2.1.kept hk3
            exact ⟨h.coins, owns_mono hown3 hsz, h.keep⟩
          have hwt : mg L (pairsN R) = wt (lvOf xs P) (i + 1 - 1) := by
            rw [show i + 1 - 1 = (i - 1) + 1 by omega, wt_succ, ← HL.out.1, ← HC.out.2.2.2]
          have HN := (show Hid (LR w w3 (.slice ca L.length cc) (.slice sa3 (mg L (pairsN R)).length cap3) L (mg L (pairsN R)) ∧ mg L (pairsN R) = wt (lvOf xs P) (i + 1 - 1)) from ⟨hLR3, hwt⟩)
          clear hLR3 hwt hown3 hk3 HC hsz
          go_wp2_with fail
          go_roundw
          case rel => exact ⟨i + 1, mg L (pairsN R), sa3, cap3, by go_num, rfl, by omega, by omega, by rw [HN.out.2]; exact HB.out.2.1 _, HN.out⟩
          case measure => simp [intOf]; omega
    · obtain rfl : i = most := by omega
      have hltI : ¬ (i : Int) < (i : Int) := by omega
      obtain ⟨T, hT⟩ : ∃ T, T = 2 * L.length - 2 := ⟨_, rfl⟩
      have hTI : (2 : Int) * ((L.length : Int) - 1) = (T : Int) := by omega
      have hTR : T ≤ R.length := by
        have h1 := HM.out.2
        have h3 := HB.out.2.2
        have h4 := HL.out.2
        rw [← h1] at h3
        omega
      have hans : ans = (R.take T).sum := by rw [HA.out, ← HM.out.2, hT, HL.out.2]
      have HS := (show Hid (ans = (R.take T).sum ∧ LR w wr (.slice ca L.length cc) (.slice sa R.length cap') L R ∧ ∀ x ∈ R, x < 70368744177664) from ⟨hans, HM.out.1, by rw [HM.out.2]; exact HB.out.1 _ (by omega)⟩)
      clear hT hans HM HA HB HR
      obtain ⟨W0, hW0⟩ : ∃ W0, W0 = wr := ⟨_, rfl⟩
      rw [← hW0] at HS
      have HW := (show Hid (Keep noBlock W0 wr) from by rw [hW0]; exact Keep.refl _ _)
      clear hW0
      go_wp2_with fail
      go_loopw [10, 11] (fun vs vk wr => ∃ (k s : Nat), vk = .int .i64 (k : Int) ∧ vs = .int .u64 (s : Int) ∧ k ≤ T ∧ Hid (s = (R.take k).sum ∧ Keep noBlock W0 wr)) (fun _ vk _ => T - (intOf vk).toNat)
      case atStart => exact ⟨0, 0, rfl, rfl, Nat.zero_le _, rfl, HW.out⟩
      case round =>
        clear HW
        obtain ⟨k, s, rfl, rfl, hk, HK⟩ := hrel
        by_cases hltk : k < T
        · have hltkI : (k : Int) < (T : Int) := by omega
          obtain ⟨rg, hRow, _⟩ := owns64 (HS.out.2.1.kept HK.out.2).row rfl
          obtain rfl : sa = some ⟨rg, 0, none⟩ := hRow.at_.resolve_right (by rintro rfl; simp at hTR; omega)
          have c1 := hRow.cells k (by omega)
          rw [Nat.zero_add] at c1
          have hs1 := sum_take R k (by omega)
          have hs2 := sum_take_le R _ HS.out.2.2 k (by omega)
          rw [← HK.out.1] at hs1 hs2
          have hxb : R[k]?.getD 0 < 70368744177664 := by rw [List.getElem?_eq_getElem (show k < R.length by omega)]; exact HS.out.2.2 _ (List.getElem_mem _)
          obtain ⟨x, hx⟩ : ∃ x, x = R[k]?.getD 0 := ⟨_, rfl⟩
          rw [← hx] at c1 hs1 hxb
          have hsb : s ≤ 144115188075855872 := by omega
          have hkR : (k : Int) < (R.length : Int) := by omega
          have HN := (show Hid ((R.take (k + 1)).sum = s + x) from hs1)
          clear hs1 hs2 hx hRow
          go_wp2
          go_roundw
          case rel => exact ⟨k + 1, s + x, by go_num, by go_num, by omega, HN.out.symm, HK.out.2⟩
          case measure => simp [intOf]; omega
        · obtain rfl : k = T := by omega
          have hltkI : ¬ (k : Int) < (k : Int) := by omega
          go_wp2
          go_ret
          exact ⟨by rw [HS.out.1, ← HK.out.1]; rfl, HS.out.2.1.keep.trans' HK.out.2⟩

end Go.Proofs.Ytapcohpagipkpaa
