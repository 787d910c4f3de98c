/-
  StatesCarry answers true: symbols that are put backwards by a table's states are read forwards by them.
-/
import Derived.Test.YtoffnhbopjaocaaCrr
import Derived.Deep.CutBlock
import Derived.Deep.DeepCutAuto
import Derived.Deep.RegionHeld3
namespace Go.Proofs.Ytoffnhbopjaocaa
open Go.RowKit Go.Shelf

attribute [local go_sem] minSem_eq
set_option maxRecDepth 100000 in
set_option maxHeartbeats 8000000 in
theorem statesCarry_good (a : Option Addr) (cap gb off : Nat) (xs : List Int) (l : Nat) (a2 : Option Addr) (cap2 gb2 off2 : Nat) (xs2 : List Int) (w : World) (h : RowI w .i16 a cap gb off xs) (hx : I16 xs) (hb : okT xs (l : Int) = true) (h2 : RowI w .u8 a2 cap2 gb2 off2 xs2) (hb2 : ∀ i : Nat, 0 ≤ xs2[i]?.getD 0 ∧ xs2[i]?.getD 0 ≤ 255) :
    Calls Try.prog 6 #[.slice a xs.length cap, .int .i64 (l : Int), .slice a2 xs2.length cap2] w fun e w' => e = .returned (.bool true) ∧ Keep noBlock w w' := by
  have H1 := (show Hid (Calls Try.prog 9 _ w _) from table_good a cap gb off xs l w h hx hb)
  have hTab := okT_tab hb
  obtain ⟨hG, hT, hne, hlen, hl5, hl12⟩ := okT_good hb
  have hSb : 2 ^ l ≤ 4096 := Nat.pow_le_pow_right (n := 2) (j := 12) (by omega) hl12
  have hS0 : 0 < 2 ^ l := Nat.pow_pos (by omega)
  have hCom : ∀ s, s < xs.length → xs[s]?.getD 0 ≠ 0 → ∀ nx, nx < 2 ^ l → ∃ i, Leads (symF xs (2 ^ l)) (fun i => bitF l (xF xs (2 ^ l) i)) (fun i => baseF l (xF xs (2 ^ l) i)) (2 ^ l) s nx i := fun s h1 h2 nx h3 => hTab.comes s h1 h2 nx h3
  have hFit : Fits (symF xs (2 ^ l)) (fun i => bitF l (xF xs (2 ^ l) i)) (fun i => baseF l (xF xs (2 ^ l) i)) (2 ^ l) := fun i hi => by
    have h1 := (hTab.symF i hi).2.1
    obtain ⟨-, -, c1, c2, -⟩ := hTab.cell i hi
    exact ⟨by omega, Nat.le_trans c1 hl12, Nat.lt_of_lt_of_le c2 hSb⟩
  generalize symF xs (2 ^ l) = sy at *
  generalize (fun i => bitF l (xF xs (2 ^ l) i)) = bi at *
  generalize (fun i => baseF l (xF xs (2 ^ l) i)) = ba at *
  obtain ⟨S, hS⟩ : ∃ S, S = 2 ^ l := ⟨_, rfl⟩
  rw [← hS] at H1 hSb hS0 hCom hFit
  have HF := (show Hid (S = 2 ^ l ∧ (∀ s, s < xs.length → xs[s]?.getD 0 ≠ 0 → ∀ nx, nx < S → ∃ i, Leads sy bi ba S s nx i) ∧ Fits sy bi ba S) from ⟨hS, hCom, hFit⟩)
  obtain ⟨n, hn⟩ : ∃ n, n = xs.length := ⟨_, rfl⟩
  obtain ⟨n2, hn2⟩ : ∃ n2, n2 = xs2.length := ⟨_, rfl⟩
  have hn0 : n ≠ 0 := by rw [hn]; exact fun e => hne (List.length_eq_zero_iff.1 e)
  have HN := (show Hid (n = xs.length ∧ n2 = xs2.length ∧ (∀ i : Nat, 0 ≤ xs2[i]?.getD 0 ∧ xs2[i]?.getD 0 ≤ 255) ∧ RowI w .i16 a cap gb off xs ∧ RowI w .u8 a2 cap2 gb2 off2 xs2) from ⟨hn, hn2, hb2, h, h2⟩)
  rw [← hn] at H1 hlen
  rw [← hn, ← hn2]
  have hn0B : ((n : Int) == 0) = false := by rw [beq_eq_false_iff_ne]; omega
  clear hS hCom hFit hTab hG hT hne hb h h2 hx hb2 hn hn2
  go_enter Try.func6, Try.ntmps6
  go_wp2_with fail
  refine H1.out.mono ?_
  rintro e w1 ⟨g, tcap, rfl, hg, hcap, hRT, hK1⟩
  have HT := (show Hid (RowT w1 g S sy bi ba ∧ Keep noBlock w w1) from ⟨hRT, hK1⟩)
  clear H1 hRT hK1 hg hcap
  go_upto_block 0 with fail
  go_cut [9] (fun v9 wc => ∃ ls : List Nat, ls.length ≤ 200 ∧ Hid (Gath xs w1 wc v9 ls))
  case first =>
    go_wp2_with fail
    go_loopw [9, 39] (fun v9 v39 wr => ∃ (i : Nat) (ls : List Nat), v39 = .int .i64 (i : Int) ∧ i ≤ n2 ∧ ls.length ≤ i ∧ i ≤ 200 ∧ Hid (Gath xs w1 wr v9 ls)) (fun _ v39 _ => n2 - (intOf v39).toNat)
    case atStart => exact ⟨0, [], rfl, Nat.zero_le _, Nat.le_refl _, Nat.zero_le _, Gath.nil (Keep.refl _ _)⟩
    case round =>
      obtain ⟨i, ls, rfl, hi, hll, hi2, HC⟩ := hrel
      by_cases hlt : i < n2
      · have hltI : (i : Int) < (n2 : Int) := by omega
        obtain ⟨hn, hn2, hb2, hR, hR2⟩ := HN.out
        have hkw : Keep noBlock w wr := HT.out.2.trans' HC.out.keep
        obtain rfl := hR2.here (i := i) (by omega)
        have c1 : wr.cell? ⟨gb2, off2 + i, none⟩ = _ := (hR2.keep hkw (fun _ h => h)).cells i (by omega)
        obtain ⟨x, hx⟩ : ∃ x : Nat, xs2[i]?.getD 0 = (x : Int) := ⟨(xs2[i]?.getD 0).toNat, by have := hb2 i; omega⟩
        have hx2 := hb2 i
        rw [hx] at c1 hx2
        have hx255 : (x : Int) ≤ 255 := hx2.2
        by_cases h200 : i < 200
        · have h200I : (i : Int) < 200 := by omega
          obtain ⟨k, hk⟩ : ∃ k, k = min n 255 := ⟨_, rfl⟩
          have hmn : ∀ W, _ := fun W => minSem_run .i64 #[3, 3] 3 (n : Int) 255 (k : Int) (by omega) W
          have hkI : (k : Int) ≤ 255 := by omega
          have hk0 : 1 ≤ k := by omega
          have hk0I : (1 : Int) ≤ (k : Int) := by omega
          obtain ⟨r, hr⟩ : ∃ r, r = x % k := ⟨_, rfl⟩
          have hrl : r < k := by rw [hr]; exact Nat.mod_lt _ (by omega)
          have hrm : (x : Int).tmod (k : Int) = (r : Int) := by rw [hr]; simp [Int.tmod_eq_emod_of_nonneg]
          have hrI : (r : Int) ≤ 255 := by omega
          have hrn : r < n := by omega
          have hrnI : (r : Int) < (n : Int) := by omega
          obtain rfl := hR.here (i := r) (by omega)
          have c2 : wr.cell? ⟨gb, off + r, none⟩ = _ := (hR.keep hkw (fun _ h => h)).cells r (by omega)
          obtain ⟨y, hy⟩ : ∃ y, y = xs[r]?.getD 0 := ⟨_, rfl⟩
          rw [← hy] at c2
          have HY := (show Hid (y = xs[r]?.getD 0 ∧ r < xs.length) from ⟨hy, by omega⟩)
          clear hn hn2 hb2 hR hR2 hx hx2 hk hr hy hkw
          by_cases hy0 : y = 0
          · have hy0B : (y != 0) = false := by simp [hy0]
            go_wp2_with fail
            go_roundw
            case rel => exact ⟨i + 1, ls, by go_num, by omega, by omega, by omega, HC⟩
            case measure => simp [intOf]; omega
          · have hy0B : (y != 0) = true := by simp [hy0]
            obtain ⟨v', W', hrun, hG⟩ := HC.out.push r HY.out.2 (by rw [← HY.out.1]; exact hy0) (by omega)
            obtain ⟨sa, cp, rfl⟩ := owns_form HC.out.owns
            have HG := (show Hid (Gath xs w1 W' v' (ls ++ [r])) from hG)
            clear hG
            go_wp2_with (at_builtin; refine wpList_append_run _ rfl _ _ 23 rfl _ _ _ _ rfl rfl hrun ?_)
            go_roundw
            case rel => exact ⟨i + 1, _, by go_num, by omega, by rw [List.length_append]; simp; omega, by omega, HG⟩
            case measure => simp [intOf]; omega
        · have h200I : ¬ (i : Int) < 200 := by omega
          clear hn hn2 hb2 hR hR2 hx hx2 hkw
          go_wp2_with fail
          go_meet
          case rel => exact ⟨ls, by omega, HC⟩
      · have hltI : ¬ (i : Int) < (n2 : Int) := by omega
        go_wp2_with fail
        go_meet
        case rel => exact ⟨ls, by omega, HC⟩
  case rest =>
    obtain ⟨ls, hls, HG⟩ := hcut
    obtain ⟨sa, cp, rfl⟩ := owns_form HG.out.owns
    obtain ⟨m, hm⟩ : ∃ m, m = ls.length := ⟨_, rfl⟩
    rw [← hm] at hls
    have HM := (show Hid (m = ls.length ∧ RowT wc g S sy bi ba ∧ Keep noBlock w wc) from ⟨hm, HT.out.1.keep HG.out.keep (fun h => h), HT.out.2.trans' HG.out.keep⟩)
    simp only [← hm]
    have hmI : (m : Int) ≤ 200 := by omega
    clear hm
    go_wp2_with fail
    go_loopw [13, 14] (fun v13 v14 wr => ∃ (k st : Nat) (L : List (Fin 2)), v13 = .int .i64 (st : Int) ∧ v14 = .int .i64 ((k : Int) - 1) ∧ k ≤ m ∧ Hid (Path sy bi ba S (ls.drop k) st L ∧ Tl.MineT wc wr wc.heap.size L)) (fun _ v14 _ => (intOf v14 + 1).toNat)
    case atStart => exact ⟨m, 0, [], rfl, by go_num, Nat.le_refl _, by rw [HM.out.1, List.drop_length]; exact Path.nil, Tl.mineT_new _ _ (Keep.refl _ _)⟩
    case round =>
      obtain ⟨k, st, L, rfl, rfl, hk, HP⟩ := hrel
      have hst := HP.out.1.lt hS0
      have hstI : (st : Int) < 4096 := by omega
      cases k with
      | zero =>
        rw [show (((0 : Nat) : Int) - 1) = (-1 : Int) from rfl]
        have hLl : L.length ≤ 2400 := by
          have := HP.out.1.len HF.out.2.2
          rw [List.drop_zero, ← HM.out.1] at this
          omega
        have hSl : st % 2 ^ l = st := Nat.mod_eq_of_lt (by rw [← HF.out.1]; exact hst)
        have hlI : (l : Int) ≤ 12 := by omega
        have hll : (L ++ low st l).length = L.length + l := by rw [List.length_append, low_length]
        have HPut := (show Hid (Calls Try.prog 19 _ wr _) from HP.out.2.put st l (by omega) (by omega) (by omega))
        have HQ := (show Hid (Path sy bi ba S ls st L ∧ (L ++ low st l).length = L.length + l ∧ numAt (pack (L ++ low st l ++ [1])) L.length l = st) from ⟨by simpa using HP.out.1, hll, by rw [Tl.num_back L [1] st l _ rfl, hSl]⟩)
        clear HP hSl hll
        go_wp2_with fail
        refine HPut.out.mono ?_
        rintro e w3 ⟨rfl, hM3⟩
        have HM3 := (show Hid (Tl.MineT wc w3 wc.heap.size (L ++ low st l)) from hM3)
        clear hM3 HPut
        go_wp2_with fail
        refine (HM3.out.close (by rw [HQ.out.2.1]; omega)).mono ?_
        rintro e w4 ⟨v4, rfl, ho4, hK4⟩
        have HN4 := (show Hid (Calls Try.prog 20 _ w4 _ ∧ Keep noBlock wc w4) from ⟨Tl.new_closed v4 (L ++ low st l) (by rw [HQ.out.2.1]; omega) w4 ho4, hK4⟩)
        clear ho4 hK4 HM3
        go_wp2_with fail
        refine HN4.out.1.mono ?_
        rintro e w5 ⟨rb, gr, rfl, hrb, hgr, hR5, hK5⟩
        have hrbw : wc.heap.size ≤ rb := by have := HN4.out.2.size; omega
        have HB5 := (show Hid (Calls Try.prog 22 _ w5 _ ∧ Keep noBlock wc w5 ∧ wc.heap.size ≤ rb) from ⟨Tl.bits_there rb gr (pack (L ++ low st l ++ [1])) L.length l (L ++ low st l).length st (by omega) HQ.out.2.1 HQ.out.2.2 w5 hR5, HN4.out.2.trans' hK5, hrbw⟩)
        clear hrb hgr hR5 hK5 HN4 hrbw
        go_wp2_with fail
        refine HB5.out.1.mono ?_
        rintro e w6 ⟨rfl, hR6, hK6⟩
        have HR6 := (show Hid (Tl.IsR w6 rb gr (pack (L ++ low st l ++ [1])) L.length 0 ∧ Keep noBlock wc w6 ∧ wc.heap.size ≤ rb) from ⟨hR6, HB5.out.2.1.trans hK6 (fun i hi e => by have := HB5.out.2.2; omega), HB5.out.2.2⟩)
        clear hR6 hK6 HB5
        obtain ⟨LL, hLL⟩ : ∃ LL, LL = L ++ low st l ++ [1] := ⟨_, rfl⟩
        rw [← hLL] at HR6
        have HPL := (show Hid (Path sy bi ba S ls st L ∧ LL = L ++ (low st l ++ [1])) from ⟨HQ.out.1, by rw [hLL, List.append_assoc]⟩)
        clear hLL HQ
        go_wp2_with fail
        go_loopw [13, 142] (fun v13 v142 wr => ∃ (i st : Nat) (L M : List (Fin 2)), v13 = .int .i64 (st : Int) ∧ v142 = .int .i64 (i : Int) ∧ i ≤ m ∧ Hid (Path sy bi ba S (ls.drop i) st L ∧ LL = L ++ M ∧ Tl.IsR wr rb gr (pack LL) L.length 0 ∧ Keep noBlock wc wr ∧ wc.heap.size ≤ rb)) (fun _ v142 _ => m - (intOf v142).toNat)
        case atStart => exact ⟨0, st, L, _, rfl, rfl, Nat.zero_le _, by simpa using HPL.out.1, HPL.out.2, HR6.out⟩
        case round =>
          clear HPL HR6 hstI hst hLl
          obtain ⟨i, s, A, M, rfl, rfl, hi, HP⟩ := hrel
          by_cases hlt : i < m
          · have hltI : (i : Int) < (m : Int) := by omega
            obtain ⟨x, hx⟩ : ∃ x, x = ls[i]?.getD 0 := ⟨_, rfl⟩
            have hm := HM.out.1
            have hdr := drop_at ls i (by omega)
            rw [← hx] at hdr
            have hGl : ∃ gl, sa = some ⟨gl, 0, none⟩ ∧ wc.cell? ⟨gl, i, none⟩ = some (.int .u8 (x : Int)) := by
              rcases HG.out.owns.2 with ⟨e, e0⟩ | ⟨gl, cap0, cur, e, _⟩
              · omega
              · refine ⟨gl, by cases e; rfl, ?_⟩
                have := HG.out.owns.cells (g := gl) (by rw [e]; rfl) i _ (u8s_at ls i (by omega))
                rw [add0] at this
                rw [hx]; exact this
            obtain ⟨gl, rfl, cl0⟩ := hGl
            obtain ⟨hPth, hLM, hIsR, hkl, hrbw⟩ := HP.out
            rw [hdr] at hPth
            obtain ⟨nx, A', hPn, rfl, hsS, hsy, hz1, hz2⟩ := hPth.next
            have cl : wr.cell? ⟨gl, i, none⟩ = some (.int .u8 (x : Int)) := (World.cell?_of_block (hkl.block gl (World.block_lt_of_cell? _ _ cl0) (fun h => h))).trans cl0
            have hRTr : RowT wr g S sy bi ba := HM.out.2.1.keep hkl (fun h => h)
            have hgl := HM.out.2.1.lt
            obtain ⟨c1, c2, c3⟩ := hRTr.cells s hsS
            obtain ⟨f1, f2, f3⟩ := HF.out.2.2 s hsS
            have hnxS := hPn.lt hS0
            rw [hsy] at c1 f1
            have hBits : ∀ q, _ := fun q => Tl.bits_there rb gr (pack LL) A'.length (bi s) (A' ++ low (nx - ba s) (bi s)).length (nx - ba s) (by omega) (by rw [List.length_append, low_length]) (by rw [Tl.num_back A' M (nx - ba s) (bi s) LL hLM, Nat.mod_eq_of_lt hz2]) (wr.drewN q) (hIsR.drewN q)
            have HNX := (show Hid (Path sy bi ba S (ls.drop (i + 1)) nx A' ∧ LL = A' ++ (low (nx - ba s) (bi s) ++ M) ∧ Keep noBlock wc wr ∧ wc.heap.size ≤ rb) from ⟨hPn, by rw [hLM, List.append_assoc], hkl, hrbw⟩)
            have HBits := (show Hid _ from hBits)
            have HC := (show Hid (∀ W, Keep (fun k => k = rb) wr W → W.cell? ⟨g, s * 3 + 1, none⟩ = some (.int .u8 ((bi s : Nat) : Int)) ∧ W.cell? ⟨g, s * 3 + 2, none⟩ = some (.int .u16 ((ba s : Nat) : Int))) from fun W hq => ((hRTr.keep hq (fun e => by omega)).cells s hsS).2)
            have q2 : wr.cell? ⟨g, s * 3 + 1, none⟩ = some (.int .u8 ((bi s : Nat) : Int)) ∧ wr.cell? ⟨g, s * 3 + 2, none⟩ = some (.int .u16 ((ba s : Nat) : Int)) := ⟨c2, c3⟩
            clear hBits hx hm hdr cl0 hPth hPn hLM hIsR hkl hrbw hRTr hgl c2 c3 HP hsy
            generalize bi s = y at *
            generalize ba s = z at *
            obtain ⟨d, hd⟩ : ∃ d, d = nx - z := ⟨_, rfl⟩
            rw [← hd] at HBits HNX
            have hdI : (z : Int) + (d : Int) = (nx : Int) := by omega
            have hdb : (d : Int) < 4096 := by omega
            have hyI : (y : Int) ≤ 12 := by omega
            have hzI : (z : Int) < 4096 := by omega
            have hsI : (s : Int) < (S : Int) := by omega
            have hsB : decide (S ≤ s) = false := decide_eq_false (by omega)
            have hxx : ((x : Int) != (x : Int)) = false := by simp
            have hxI : (x : Int) < 256 := by omega
            have HW := (show Hid (IntKind.i64.wrap (y : Int) = (y : Int) ∧ IntKind.i64.wrap (IntKind.i64.wrap (z : Int) + IntKind.i64.wrap (d : Int)) = (nx : Int)) from by
              have e1 : IntKind.i64.wrap (z : Int) = (z : Int) := by rw [IntKind.wrap_i64]; omega
              have e2 : IntKind.i64.wrap (d : Int) = (d : Int) := by rw [IntKind.wrap_i64]; omega
              have e3 : IntKind.i64.wrap (nx : Int) = (nx : Int) := by rw [IntKind.wrap_i64]; omega
              refine ⟨by rw [IntKind.wrap_i64]; omega, ?_⟩
              rw [e1, e2, hdI, e3])
            clear hz1 hz2 hd f1 f2 f3
            go_wp2_with fail
            go_region_held3 (fun W => W.cell? ⟨g, s * 3 + 1, none⟩ = some (.int .u8 (y : Int)) ∧ W.cell? ⟨g, s * 3 + 2, none⟩ = some (.int .u16 (z : Int))) (first | exact q2 | exact q3) ((first
              | (go_at_call 22; rw [HW.out.1]; refine (HBits.out 1).mono ?_; rintro e w3 ⟨rfl, hR3, hK3⟩; have HD3 := (show Hid (Tl.IsR w3 rb gr (pack LL) A'.length 0 ∧ Keep (fun k => k = rb) (wr.drewN 1) w3) from ⟨hR3, hK3⟩); clear hR3 hK3; have q3 := HC.out w3 (((keep_drewN wr 1).mono (fun _ _ h => h.elim)).trans HD3.out.2 (fun i hi e => e)))))
            go_wp2_with fail
            go_roundw
            case rel => exact ⟨i + 1, nx, A', _, congrArg _ HW.out.2, by go_num, by omega, HNX.out.1, HNX.out.2.1, HD3.out.1, (HNX.out.2.2.1.trans' (keep_drewN wr 1)).trans HD3.out.2 (fun j hj e => by have := HNX.out.2.2.2; omega), HNX.out.2.2.2⟩
            case measure => simp [intOf]; omega
          · obtain rfl : i = m := by omega
            have hltI : ¬ (i : Int) < (i : Int) := by omega
            obtain ⟨rfl, rfl⟩ := Path.done (by have := HP.out.1; rwa [HM.out.1, List.drop_length] at this)
            have HE := (show Hid (Tl.IsR wr rb gr (pack LL) 0 0 ∧ Keep noBlock wc wr) from ⟨HP.out.2.2.1, HP.out.2.2.2.1⟩)
            clear HP
            go_wp2_with fail
            refine (Tl.left_any rb gr (pack LL) 0 0 _ HE.out.1).mono ?_
            rintro e w7 ⟨rfl, q7, rfl⟩
            have hK7 := HE.out.2.trans' (keep_drewN wr q7)
            generalize wr.drewN q7 = W7 at *
            rw [show (((0 : Nat) : Int) - ((0 : Nat) : Int)) = (0 : Int) from rfl]
            go_wp2_with fail
            refine (wakes_any _).mono ?_
            rintro e w8 ⟨rfl, hk8⟩
            go_wp2_with fail
            go_ret
            exact ⟨rfl, (HM.out.2.2.trans' hK7).trans' hk8⟩
      | succ k =>
        rw [show (((k + 1 : Nat) : Int) - 1) = (k : Int) from by omega]
        obtain ⟨x, hx⟩ : ∃ x, x = ls[k]?.getD 0 := ⟨_, rfl⟩
        have hm := HM.out.1
        have hdr := drop_at ls k (by omega)
        rw [← hx] at hdr
        have hxm := HG.out.mem x (by rw [hx, List.getElem?_eq_getElem (by omega)]; exact List.getElem_mem _)
        have hxl : x < 256 := by have := HN.out.1; omega
        have hxI : (x : Int) < 256 := by omega
        have hGl : ∃ gl, sa = some ⟨gl, 0, none⟩ ∧ wc.cell? ⟨gl, k, none⟩ = some (.int .u8 (x : Int)) := by
          rcases HG.out.owns.2 with ⟨e, e0⟩ | ⟨gl, cap0, cur, e, _⟩
          · omega
          · refine ⟨gl, by cases e; rfl, ?_⟩
            have := HG.out.owns.cells (g := gl) (by rw [e]; rfl) k _ (u8s_at ls k (by omega))
            rw [add0] at this
            rw [hx]; exact this
        obtain ⟨gl, rfl, cl0⟩ := hGl
        have hkl : Keep noBlock wc wr := HP.out.2.keep
        have hRTr : RowT wr g S sy bi ba := HM.out.2.1.keep hkl (fun h => h)
        have cl : wr.cell? ⟨gl, k, none⟩ = some (.int .u8 (x : Int)) := (World.cell?_of_block (hkl.block gl (World.block_lt_of_cell? _ _ cl0) (fun h => h))).trans cl0
        have hkI : (k : Int) < (m : Int) := by omega
        have HA := (show Hid (Calls Try.prog 18 _ wr _) from ahead_any g S tcap x st sy bi ba wr hRTr hSb HF.out.2.2 (by omega) hxl (HF.out.2.1 x hxm.1 hxm.2 st hst))
        have HX := (show Hid (ls.drop k = x :: ls.drop (k + 1) ∧ RowT wr g S sy bi ba) from ⟨hdr, hRTr⟩)
        clear hx hm hdr hxm hkl hRTr cl0
        go_wp2_with fail
        refine HA.out.mono ?_
        rintro e w2 ⟨i, rfl, hL, hK2⟩
        have cl2 : w2.cell? ⟨gl, k, none⟩ = some (.int .u8 (x : Int)) := (World.cell?_of_block (hK2.block gl (World.block_lt_of_cell? _ _ cl) (fun h => h))).trans cl
        obtain ⟨c1, c2, c3⟩ := (HX.out.2.keep hK2 (fun h => h)).cells i hL.1
        obtain ⟨f1, f2, f3⟩ := HF.out.2.2 i hL.1
        have HP2 := (show Hid (Path sy bi ba S (ls.drop k) i (L ++ low (st - ba i) (bi i)) ∧ Tl.MineT wc w2 wc.heap.size L ∧ L.length ≤ 12 * (ls.drop (k + 1)).length ∧ (ls.drop (k + 1)).length ≤ 200) from ⟨by rw [HX.out.1]; exact Path.cons HP.out.1 hL, HP.out.2.keeps hK2, HP.out.1.len HF.out.2.2, by have := HM.out.1; rw [List.length_drop]; omega⟩)
        obtain ⟨hi, hsy, hz1, hz2⟩ := hL
        rw [hsy] at c1
        have hCells : ∀ W, Keep noBlock wc W → W.cell? ⟨g, i * 3 + 1, none⟩ = some (.int .u8 ((bi i : Nat) : Int)) ∧ W.cell? ⟨g, i * 3 + 2, none⟩ = some (.int .u16 ((ba i : Nat) : Int)) := fun W hq => ((HM.out.2.1.keep hq (fun h => h)).cells i hi).2
        generalize bi i = y at *
        generalize ba i = z at *
        obtain ⟨d, hd⟩ : ∃ d, d = st - z := ⟨_, rfl⟩
        have hdI : (st : Int) - (z : Int) = (d : Int) := by omega
        have hdb : (d : Int) < 4096 := by omega
        have hyI : (y : Int) ≤ 12 := by omega
        have hzI : (z : Int) < 4096 := by omega
        have hiI : (i : Int) < (S : Int) := by omega
        have hiB : decide (S ≤ i) = false := decide_eq_false (by omega)
        have hiB2 : decide ((S : Int) ≤ (i : Int)) = false := decide_eq_false (by omega)
        have hi0 : decide ((i : Int) < 0) = false := decide_eq_false (by omega)
        have hxx : ((x : Int) != (x : Int)) = false := by simp
        rw [← hd] at HP2
        have hPut : ∀ W, Keep noBlock w2 W → _ := fun W hq => (HP2.out.2.1.keeps hq).put d y (by omega) (by omega) (by have := HP2.out.2.2; omega)
        have HPut := (show Hid _ from hPut)
        have HC := (show Hid (∀ W, Keep noBlock wc W → W.cell? ⟨g, i * 3 + 1, none⟩ = some (.int .u8 (y : Int)) ∧ W.cell? ⟨g, i * 3 + 2, none⟩ = some (.int .u16 (z : Int))) from fun W hq => hCells W hq)
        clear hCells hPut hd hz1 hz2 hsy f1 f2 f3 HA HX HP hK2 cl
        go_wp2_with fail
        go_quiet (fail)
        go_wp2_with fail
        have hKq : Keep noBlock w2 (w2.drewN nq) := keep_drewN w2 nq
        generalize w2.drewN nq = W2 at *
        have q2 := HC.out W2 (HP2.out.2.1.keep.trans' hKq)
        have HP3 := (show Hid (∀ q, Calls Try.prog 19 _ (W2.drewN q) _) from fun q => HPut.out (W2.drewN q) (hKq.trans' (keep_drewN W2 q)))
        have HW := (show Hid (IntKind.u64.wrap (IntKind.i64.wrap ((st : Int) - IntKind.i64.wrap (z : Int))) = (d : Int) ∧ IntKind.i64.wrap (y : Int) = (y : Int)) from by
          have e1 : IntKind.i64.wrap (z : Int) = (z : Int) := by rw [IntKind.wrap_i64]; omega
          have e2 : IntKind.i64.wrap (d : Int) = (d : Int) := by rw [IntKind.wrap_i64]; omega
          refine ⟨?_, by rw [IntKind.wrap_i64]; omega⟩
          rw [e1, hdI, e2, IntKind.wrap_u64]; omega)
        clear HPut hKq c1 c2 c3 cl2
        go_region_held3 (fun W => W.cell? ⟨g, i * 3 + 1, none⟩ = some (.int .u8 (y : Int)) ∧ W.cell? ⟨g, i * 3 + 2, none⟩ = some (.int .u16 (z : Int))) (first | exact q2 | exact q3) ((first
          | (go_at_call 19; rw [HW.out.1, HW.out.2]; refine (HP3.out 1).mono ?_; rintro e w3 ⟨rfl, hM3⟩; have q3 := HC.out w3 hM3.keep)))
        go_wp2_with fail
        go_roundw
        case rel => exact ⟨k, i, _, rfl, by go_num, by omega, HP2.out.1, hM3⟩
        case measure => simp [intOf]

theorem statesCarry_any (a : Option Addr) (cap gb off : Nat) (xs : List Int) (log : Int) (a2 : Option Addr) (cap2 gb2 off2 : Nat) (xs2 : List Int) (w : World) (h : RowI w .i16 a cap gb off xs) (hx : I16 xs) (h2 : RowI w .u8 a2 cap2 gb2 off2 xs2) (hb2 : ∀ i : Nat, 0 ≤ xs2[i]?.getD 0 ∧ xs2[i]?.getD 0 ≤ 255) :
    Calls Try.prog 6 #[.slice a xs.length cap, .int .i64 log, .slice a2 xs2.length cap2] w fun e w' => e = .returned (.bool true) ∧ Keep noBlock w w' := by
  cases hb : okT xs log with
  | false => exact statesCarry_bad a cap gb off xs log _ w h hx hb
  | true =>
    have h5 := (of_decide_eq_true hb).1
    obtain ⟨l, rfl⟩ := Int.eq_ofNat_of_zero_le (show 0 ≤ log by omega)
    exact statesCarry_good a cap gb off xs l a2 cap2 gb2 off2 xs2 w h hx hb h2 hb2

end Go.Proofs.Ytoffnhbopjaocaa
