/-
  putTail: the tail of a section.
  putNumber: how many steps there are, in bytes.
  Rows of codes in memory, away from a block that may turn; the byte of kinds.
  lay under way: the section's bytes as far as they are told, the rows, the codings.
-/
import Derived.Test.YtgaepmmpedaaiaaGreatDoorBackQ14
namespace Go.Proofs.YtgaepmmpedaaiaaGreatDoor
open Go.RowKit Go.Shelf
set_option linter.unusedVariables false

/-- What putTail has before it. -/
structure Lay (w : World) (b g0 g1 g2 rb lo : Nat) (a : Option Addr) (cap g off : Nat) (l : List Stp) (t : Tri) : Prop where
  cods : Cods w b g0 g1 g2
  seqs : Seqs w a cap g off l
  rows : RowsAt w rb lo t
  ok : TriOk t
  ords : Ords w
  n : t.n = l.length
  x : ∀ v, v < 3 → ∀ k, k < t.n → selS v (l[k]?.getD (0, 0, 0)) = ((t.x v k : Nat) : Int)
theorem Lay.keep {w w' : World} {b g0 g1 g2 rb lo : Nat} {a : Option Addr} {cap g off : Nat} {l : List Stp} {t : Tri} (h : Lay w b g0 g1 g2 rb lo a cap g off l t) (hk : Keep noBlock w w') : Lay w' b g0 g1 g2 rb lo a cap g off l t :=
  ⟨h.cods.keep hk (fun h => h) (fun h => h) (fun h => h) (fun h => h), h.seqs.keep hk, fun v hv => (h.rows v hv).keep hk, h.ok, h.ords.keep hk, h.n, h.x⟩

theorem top_le (v : Nat) : (kdV v).top ≤ 4294967296 := by
  match v with
  | 0 => rw [show kdV 0 = kdL from rfl, topL]; decide
  | 1 => rw [show kdV 1 = kdB from rfl, topB]; decide
  | _ + 2 => rw [show ∀ i, kdV (i + 2) = kdM from fun _ => rfl, topM]; decide
theorem vals_at (v : Nat) (hv : v < 3) (x y z : Int) : (#[.int .i64 x, .int .i64 z, .int .i64 y] : Array Value)[v]? = some (.int .i64 (selS v (x, y, z))) := by
  rcases (show v = 0 ∨ v = 1 ∨ v = 2 by omega) with rfl | rfl | rfl <;> rfl
set_option maxRecDepth 100000 in
set_option maxHeartbeats 16000000 in
theorem putTail_any (w : World) (b g0 g1 g2 rb lo : Nat) (a : Option Addr) (cap g off : Nat) (l : List Stp) (t : Tri) (h : Lay w b g0 g1 g2 rb lo a cap g off l t) :
    Calls Tryz.prog 49 #[.pointer (some ⟨b, 0, none⟩), .slice a l.length cap, .pointer (some ⟨rb, 0, none⟩)] w fun e w' => ∃ v', e = .returned v' ∧ w'.ownsRow 0 5 1 v' (pack (tlAll t ++ [1])).length (u8s (pack (tlAll t ++ [1]))) ∧ Keep noBlock w w' := by
  have hn1 := h.ok.pos
  have hn2 := h.ok.le
  obtain ⟨n, hn⟩ : ∃ n, n = t.n := ⟨_, rfl⟩
  rw [← hn] at hn1 hn2
  have hln : l.length = n := by rw [hn, h.n]
  rw [hln]
  obtain rfl := h.seqs.at_.resolve_right (fun e => by rw [e] at hln; simp at hln; omega)
  obtain ⟨wb, hwb⟩ : ∃ wb, wb = w.heap.size := ⟨_, rfl⟩
  obtain ⟨W0, hW0⟩ : ∃ W0, W0 = w.alloc (.cells #[.slice none 0 0, .int .u8 0, .int .i64 0] 153) := ⟨_, rfl⟩
  have hM0 : Tl.MineT w W0 wb [] := by rw [hW0, hwb]; exact Tl.mineT_new w w (Keep.refl _ w)
  have HH := hid (And.intro h (And.intro hn hln))
  have H0 := hid hM0
  have hnI : (n : Int) ≤ 65535 := by omega
  obtain ⟨m, hm⟩ : ∃ m, m = n - 1 := ⟨_, rfl⟩
  have hmI : (n : Int) - 1 = (m : Int) := by omega
  have HM := hid hm
  clear h hn hln hM0 hm
  go_enter Tryz.func49, Tryz.ntmps49
  go_wp2_with fail
  rw [← hW0, ← hwb]
  clear hW0 hwb
  go_loopw [8] (fun v8 wr => ∃ k : Nat, v8 = .int .i64 ((k : Int) - 1) ∧ k ≤ n ∧ Hid (Tl.MineT w wr wb (tlD t (n - k)))) (fun v8 _ => (intOf v8 + 1).toNat)
  case atStart => exact ⟨n, by go_num, Nat.le_refl _, by rw [Nat.sub_self]; exact H0.out⟩
  case round =>
    clear H0
    obtain ⟨k, rfl, hk, HC⟩ := hrel
    rcases k with _ | k
    · have HC0 := (show Hid (Tl.MineT w wr wb (tlD t n)) from HC.out)
      clear HC
      rw [show (((0 : Nat) : Int)) - 1 = (-1 : Int) from rfl]
      go_wp2_with fail
      obtain ⟨wA, hwA⟩ : ∃ wA, wA = wr := ⟨_, rfl⟩
      rw [← hwA] at HC0 ⊢
      clear hwA
      go_loopw [73] (fun v73 wr => ∃ i : Nat, v73 = .int .i64 (i : Int) ∧ i ≤ 3 ∧ Hid (Tl.MineT w wr wb (tlD t n ++ fsB t i))) (fun v73 _ => 3 - (intOf v73).toNat)
      case atStart => exact ⟨0, rfl, by omega, by rw [show fsB t 0 = [] from rfl, List.append_nil]; exact HC0.out⟩
      case round =>
        clear HC0
        obtain ⟨i, rfl, hi, HC1⟩ := hrel
        obtain ⟨h, e1, e2⟩ := HH.out
        have hM := HC1.out
        have hlen := h.ok.tl_le n (by omega)
        have hlen2 := h.ok.fs_le i
        by_cases hlt : i < 3
        · have hiI : (i : Int) < 3 := by omega
          obtain ⟨j, hj⟩ : ∃ j, j = 2 - i := ⟨_, rfl⟩
          have hjI : 2 - (i : Int) = (j : Int) := by omega
          have hj3 : j < 3 := by omega
          have hj3I : (j : Int) < 3 := by omega
          have hwj : IntKind.i64.wrap (j : Int) = (j : Int) := by rw [IntKind.wrap_i64]; omega
          have hpf := putFirst_any rb (j * 5) lo wb (kdV j) (t.c j) (t.R j) _ w wr (h.rows j hj3) (h.ok.row j hj3) (by rw [h.ok.len j hj3]; omega) (by rw [h.ok.len j hj3]; exact h.ok.le) hM (by rw [List.length_append]; omega)
          have HN := (show Hid (Calls Tryz.prog 74 #[.pointer (some ⟨rb, j * 5, none⟩), .pointer (some ⟨wb, 0, none⟩)] wr fun e W' => e = .returned (.tuple #[]) ∧ Tl.MineT w W' wb (tlD t n ++ fsB t (i + 1))) from by
            refine hpf.mono ?_
            rintro e w2 ⟨rfl, q⟩
            refine ⟨rfl, ?_⟩
            rw [List.append_assoc, hj] at q
            exact q)
          clear h e1 e2 hM hlen hlen2 hpf hj HC1
          go_wp2_with fail
          refine HN.out.mono ?_
          rintro e w2 ⟨rfl, q1⟩
          have HQ := hid q1
          clear q1 HN
          go_wp2_with fail
          go_roundw
          case rel => exact ⟨i + 1, by go_num, by omega, HQ.out⟩
          case measure => simp [intOf]; omega
        · obtain rfl : i = 3 := by omega
          rw [show (((3 : Nat) : Int)) = (3 : Int) from rfl]
          have hcl := hM.close (by rw [List.length_append]; omega)
          rw [e1] at hcl
          have HQ := hid hcl
          clear h e1 e2 hM hlen hlen2 hcl HC1
          go_wp2_with fail
          refine HQ.out.mono ?_
          rintro e w2 ⟨v', rfl, q1, q2⟩
          have HF := hid (And.intro q1 q2)
          clear q1 q2 HQ
          go_wp2_with fail
          go_ret
          exact ⟨v', rfl, HF.out⟩
    · rw [show (((k + 1 : Nat) : Int)) - 1 = (k : Int) from by omega]
      have hkn : k < n := by omega
      have hkI2 : ¬ (k : Int) < 0 := by omega
      have hkI3 : (0 : Int) ≤ (k : Int) := by omega
      have hkI4 : (k : Int) < (n : Int) := by omega
      have HC0 := (show Hid (Tl.MineT w wr wb (tlD t (n - (k + 1)))) from HC.out)
      clear HC
      by_cases hlast : k + 1 = n
      · have hlI : ¬ (k : Int) < (m : Int) := by have := HM.out; omega
        have HC := (show Hid (Tl.MineT w wr wb (tlN t k)) from by
          have := HC0.out
          rw [show n - (k + 1) = 0 from by omega] at this
          rw [tlN_last t k (by have := HH.out.2.1; omega)]
          exact this)
        clear HC0
        obtain ⟨h, e1, e2⟩ := HH.out
        have hS := h.seqs.keep HC.out.keep
        obtain ⟨d1, d2, d3⟩ := hS.cells k (by omega)
        obtain ⟨s, hs⟩ : ∃ s, s = l[k]?.getD (0, 0, 0) := ⟨_, rfl⟩
        rw [← hs] at d1 d2 d3
        obtain ⟨x, y, z⟩ := s
        dsimp only at d1 d2 d3
        have HS := hid hs
        have HV := (show Hid (∀ W' : World, Keep noBlock wr W' → Calls Tryz.prog 71 #[.agg #[.int .i64 x, .int .i64 y, .int .i64 z]] W' fun e w' => e = .returned (.agg #[.int .i64 x, .int .i64 z, .int .i64 y]) ∧ Hid (Keep noBlock wr w')) from fun W' hk' => by
          refine (valuesOf_any x y z W').mono ?_
          rintro e w' ⟨rfl, k⟩
          exact ⟨rfl, hk'.trans' k⟩)
        clear h e1 e2 hS hs
        go_wp2_with fail
        refine (HV.out _ (Keep.refl _ _)).mono ?_
        rintro e w2 ⟨rfl, HK2⟩
        clear HV d1 d2 d3
        go_wp2_with fail
        have HV0 := (show Hid (∀ W', W' = w2.alloc (.cells #[.int .i64 x, .int .i64 z, .int .i64 y] 80) → MineV w W' wb (tlN t k) w2.heap.size (.cells #[.int .i64 x, .int .i64 z, .int .i64 y] 80 (0, 0))) from fun W' e => by
          rw [e]
          exact mineV_of HC.out (HK2.out.alloc _) HK2.out.size (alloc_new w2 _))
        have HV1 := hid (HV0.out _ rfl)
        clear HV0 HC HK2
        generalize w2.alloc (.cells #[.int .i64 x, .int .i64 z, .int .i64 y] 80) = wB at *
        generalize w2.heap.size = vb at *
        go_loopw [47] (fun v47 wr => ∃ i : Nat, v47 = .int .i64 (i : Int) ∧ i ≤ 3 ∧ Hid (MineV w wr wb (tlN t k ++ stB t k i) vb (.cells #[.int .i64 x, .int .i64 z, .int .i64 y] 80 (0, 0)))) (fun v47 _ => 3 - (intOf v47).toNat)
        case atStart => exact ⟨0, rfl, by omega, by rw [show stB t k 0 = [] from rfl, List.append_nil]; exact HV1.out⟩
        case round =>
          clear HV1
          obtain ⟨i, rfl, hi, HC1⟩ := hrel
          by_cases hlt : i < 3
          · have hiI : (i : Int) < 3 := by omega
            obtain ⟨h, e1, e2⟩ := HH.out
            have hM := HC1.out
            obtain ⟨j, hj⟩ : ∃ j, j = 2 - i := ⟨_, rfl⟩
            have hjI : 2 - (i : Int) = (j : Int) := by omega
            have hj3 : j < 3 := by omega
            have hj3I : (j : Int) < 3 := by omega
            have hwj : IntKind.i64.wrap (j : Int) = (j : Int) := by rw [IntKind.wrap_i64]; omega
            have d1 := (h.ords.keep hM.keep).ext j hj3
            rw [show 2 - j = i from by omega] at d1
            have hv3 := eOrd_lt i
            obtain ⟨v, hv⟩ : ∃ v, v = eOrd i := ⟨_, rfl⟩
            rw [← hv] at d1 hv3
            have hv3I : (v : Int) < 3 := by omega
            obtain ⟨W5, hW5⟩ : ∃ W5, W5 = wr.drew := ⟨_, rfl⟩
            have hk5 : Keep noBlock wr W5 := by rw [hW5]; exact (Keep.refl _ wr).drew
            have h5 := h.keep (hM.keep.trans' hk5)
            obtain ⟨ac, capc, gc, oc, c1, c2⟩ := (h5.rows v hv3).codes
            have hcl := h.ok.len v hv3
            obtain rfl := c2.at_.resolve_right (fun e => by rw [e] at hcl; simp at hcl; omega)
            have c3 := c2.cells k (by omega)
            rw [hcl, ← e1] at c1
            obtain ⟨c, hc⟩ : ∃ c, c = (t.c v)[k]?.getD 0 := ⟨_, rfl⟩
            rw [← hc] at c3
            have c4 : W5.cell? ⟨vb, v, none⟩ = some (.int .i64 (selS v (x, y, z))) := (cell_of (hM.keeps hk5).obj v).trans (vals_at v hv3 x y z)
            have hxe := h.x v hv3 k (by omega)
            rw [← HS.out] at hxe
            rw [hxe] at c4
            obtain ⟨q, hq⟩ : ∃ q, q = t.x v k := ⟨_, rfl⟩
            rw [← hq] at c4
            obtain ⟨tl1, tl2⟩ := h.ok.tells v hv3 k (by omega)
            rw [← hq, ← hc] at tl1
            rw [← hq] at tl2
            have htop := top_le v
            obtain ⟨gk, hcod⟩ := h.cods.at_ v hv3
            have hlen := h.ok.tl_le (n - (k + 1)) (by omega)
            have hlen2 := h.ok.nx_le k (by omega) 3
            have hlen3 := h.ok.st_le k (by omega) i
            have hlen4 : (tlN t k).length ≤ 7864320 + 27 := by
              unfold tlN
              rw [List.length_append, show t.n - 1 - k = n - (k + 1) from by omega]
              split
              · simp; omega
              · omega
            have hcp := cputV_any b (v * 110) gk wb (kdV v) c q _ w W5 vb _ hcod tl1.1 (hM.keeps hk5) tl1.2.1 (by omega) (by rw [List.length_append]; omega)
            have HN := (show Hid (Calls Tryz.prog 73 #[.pointer (some ⟨b, v * 110, none⟩), .pointer (some ⟨wb, 0, none⟩), .int .u8 (c : Int), .int .i64 (q : Int)] W5 fun e W' => e = .returned (.tuple #[]) ∧ MineV w W' wb (tlN t k ++ stB t k (i + 1)) vb (.cells #[.int .i64 x, .int .i64 z, .int .i64 y] 80 (0, 0))) from by
              refine hcp.mono ?_
              rintro e w2 ⟨rfl, q1⟩
              refine ⟨rfl, ?_⟩
              rw [List.append_assoc, hq, hc, hv] at q1
              exact q1)
            clear h e1 e2 hM hk5 h5 hv hlen hlen2 hlen3 hlen4 hcp hj HC1 c2 hc hxe hq tl1 tl2 htop hcod hcl
            go_wp2_with fail
            refine region_tail 17 mx (by kernel_rfl) ?_
            rw [← hW5]
            clear hW5
            simp only [List.take_succ_cons, List.take_zero, List.drop_succ_cons, List.drop_zero]
            repeat (quiet_step (fail))
            refine wpQuiet_nil ?_
            go_wp2_with fail
            refine HN.out.mono ?_
            rintro e w2 ⟨rfl, q1⟩
            have HQ := hid q1
            clear q1 HN
            go_wp2_with fail
            go_roundw
            case rel => exact ⟨i + 1, by go_num, by omega, HQ.out⟩
            case measure => simp [intOf]; omega
          · obtain rfl : i = 3 := by omega
            rw [show (((3 : Nat) : Int)) = (3 : Int) from rfl]
            have HQ := (show Hid (Tl.MineT w wr wb (tlD t (n - k))) from by
              have e1 := HH.out.2.1
              rw [e1, tlD_step t k (by omega)]
              exact HC1.out.mine)
            clear HC1
            go_wp2_with fail
            go_roundw
            case rel => exact ⟨k, by go_num, by omega, HQ.out⟩
            case measure => simp [intOf]
      · have hlI : (k : Int) < (m : Int) := by have := HM.out; omega
        go_wp2_with fail
        obtain ⟨wA, hwA⟩ : ∃ wA, wA = wr := ⟨_, rfl⟩
        rw [← hwA] at HC0 ⊢
        clear hwA
        go_loopw [28] (fun v28 wr => ∃ i : Nat, v28 = .int .i64 (i : Int) ∧ i ≤ 3 ∧ Hid (Tl.MineT w wr wb (tlD t (n - (k + 1)) ++ nxB t k i))) (fun v28 _ => 3 - (intOf v28).toNat)
        case atStart => exact ⟨0, rfl, by omega, by rw [show nxB t k 0 = [] from rfl, List.append_nil]; exact HC0.out⟩
        case round =>
          clear HC0
          obtain ⟨i, rfl, hi, HC1⟩ := hrel
          by_cases hlt : i < 3
          · have hiI : (i : Int) < 3 := by omega
            obtain ⟨h, e1, e2⟩ := HH.out
            have hM := HC1.out
            have hM5 := hM
            obtain ⟨j, hj⟩ : ∃ j, j = 2 - i := ⟨_, rfl⟩
            have hjI : 2 - (i : Int) = (j : Int) := by omega
            have hj3 : j < 3 := by omega
            have hj3I : (j : Int) < 3 := by omega
            obtain ⟨W5, hW5⟩ : ∃ W5, W5 = wr.drew := ⟨_, rfl⟩
            have hk5 : Keep noBlock wr W5 := by rw [hW5]; exact (Keep.refl _ wr).drew
            have d1 := (h.ords.keep (hM.keep.trans' hk5)).nxt j hj3
            rw [show 2 - j = i from by omega] at d1
            have hv3 := nOrd_lt i
            obtain ⟨v, hv⟩ : ∃ v, v = nOrd i := ⟨_, rfl⟩
            rw [← hv] at d1 hv3
            have hv3I : (v : Int) < 3 := by omega
            have hwj : IntKind.i64.wrap (j : Int) = (j : Int) := by rw [IntKind.wrap_i64]; omega
            have hlen := h.ok.tl_le (n - (k + 1)) (by omega)
            have hlen2 := h.ok.nx_le k (by omega) i
            have hpn := putNext_any rb (v * 5) lo wb k (kdV v) (t.c v) (t.R v) _ w W5 (h.rows v hv3) (h.ok.row v hv3) (by rw [h.ok.len v hv3]; omega) (by rw [h.ok.len v hv3]; exact h.ok.le) (hM.keeps hk5) (by rw [List.length_append]; omega)
            have HN := (show Hid (Calls Tryz.prog 72 #[.pointer (some ⟨rb, v * 5, none⟩), .pointer (some ⟨wb, 0, none⟩), .int .i64 (k : Int)] W5 fun e W' => e = .returned (.tuple #[]) ∧ Tl.MineT w W' wb (tlD t (n - (k + 1)) ++ nxB t k (i + 1))) from by
              refine hpn.mono ?_
              rintro e w2 ⟨rfl, q⟩
              refine ⟨rfl, ?_⟩
              rw [List.append_assoc, hv] at q
              exact q)
            clear h e1 e2 hM hM5 hk5 hv hlen hlen2 hpn hj HC1
            go_wp2_with fail
            refine region_tail 9 mx (by kernel_rfl) ?_
            rw [← hW5]
            clear hW5
            simp only [List.take_succ_cons, List.take_zero, List.drop_succ_cons, List.drop_zero]
            repeat (quiet_step (fail))
            refine wpQuiet_nil ?_
            go_wp2_with fail
            refine HN.out.mono ?_
            rintro e w2 ⟨rfl, q1⟩
            have HQ := hid q1
            clear q1 HN
            go_wp2_with fail
            go_roundw
            case rel => exact ⟨i + 1, by go_num, by omega, HQ.out⟩
            case measure => simp [intOf]; omega
          · obtain rfl : i = 3 := by omega
            rw [show (((3 : Nat) : Int)) = (3 : Int) from rfl]
            have HC := (show Hid (Tl.MineT w wr wb (tlN t k)) from by
              have e1 := HH.out.2.1
              rw [tlN_more t k (by omega), ← e1]
              exact HC1.out)
            clear HC1
            obtain ⟨h, e1, e2⟩ := HH.out
            have hS := h.seqs.keep HC.out.keep
            obtain ⟨d1, d2, d3⟩ := hS.cells k (by omega)
            obtain ⟨s, hs⟩ : ∃ s, s = l[k]?.getD (0, 0, 0) := ⟨_, rfl⟩
            rw [← hs] at d1 d2 d3
            obtain ⟨x, y, z⟩ := s
            dsimp only at d1 d2 d3
            have HS := hid hs
            have HV := (show Hid (∀ W' : World, Keep noBlock wr W' → Calls Tryz.prog 71 #[.agg #[.int .i64 x, .int .i64 y, .int .i64 z]] W' fun e w' => e = .returned (.agg #[.int .i64 x, .int .i64 z, .int .i64 y]) ∧ Hid (Keep noBlock wr w')) from fun W' hk' => by
              refine (valuesOf_any x y z W').mono ?_
              rintro e w' ⟨rfl, k⟩
              exact ⟨rfl, hk'.trans' k⟩)
            clear h e1 e2 hS hs
            go_wp2_with fail
            refine (HV.out _ (Keep.refl _ _)).mono ?_
            rintro e w2 ⟨rfl, HK2⟩
            clear HV d1 d2 d3
            go_wp2_with fail
            have HV0 := (show Hid (∀ W', W' = w2.alloc (.cells #[.int .i64 x, .int .i64 z, .int .i64 y] 80) → MineV w W' wb (tlN t k) w2.heap.size (.cells #[.int .i64 x, .int .i64 z, .int .i64 y] 80 (0, 0))) from fun W' e => by
              rw [e]
              exact mineV_of HC.out (HK2.out.alloc _) HK2.out.size (alloc_new w2 _))
            have HV1 := hid (HV0.out _ rfl)
            clear HV0 HC HK2
            generalize w2.alloc (.cells #[.int .i64 x, .int .i64 z, .int .i64 y] 80) = wB at *
            generalize w2.heap.size = vb at *
            go_loopw [47] (fun v47 wr => ∃ i : Nat, v47 = .int .i64 (i : Int) ∧ i ≤ 3 ∧ Hid (MineV w wr wb (tlN t k ++ stB t k i) vb (.cells #[.int .i64 x, .int .i64 z, .int .i64 y] 80 (0, 0)))) (fun v47 _ => 3 - (intOf v47).toNat)
            case atStart => exact ⟨0, rfl, by omega, by rw [show stB t k 0 = [] from rfl, List.append_nil]; exact HV1.out⟩
            case round =>
              clear HV1
              obtain ⟨i, rfl, hi, HC1⟩ := hrel
              by_cases hlt : i < 3
              · have hiI : (i : Int) < 3 := by omega
                obtain ⟨h, e1, e2⟩ := HH.out
                have hM := HC1.out
                obtain ⟨j, hj⟩ : ∃ j, j = 2 - i := ⟨_, rfl⟩
                have hjI : 2 - (i : Int) = (j : Int) := by omega
                have hj3 : j < 3 := by omega
                have hj3I : (j : Int) < 3 := by omega
                have hwj : IntKind.i64.wrap (j : Int) = (j : Int) := by rw [IntKind.wrap_i64]; omega
                have d1 := (h.ords.keep hM.keep).ext j hj3
                rw [show 2 - j = i from by omega] at d1
                have hv3 := eOrd_lt i
                obtain ⟨v, hv⟩ : ∃ v, v = eOrd i := ⟨_, rfl⟩
                rw [← hv] at d1 hv3
                have hv3I : (v : Int) < 3 := by omega
                obtain ⟨W5, hW5⟩ : ∃ W5, W5 = wr.drew := ⟨_, rfl⟩
                have hk5 : Keep noBlock wr W5 := by rw [hW5]; exact (Keep.refl _ wr).drew
                have h5 := h.keep (hM.keep.trans' hk5)
                obtain ⟨ac, capc, gc, oc, c1, c2⟩ := (h5.rows v hv3).codes
                have hcl := h.ok.len v hv3
                obtain rfl := c2.at_.resolve_right (fun e => by rw [e] at hcl; simp at hcl; omega)
                have c3 := c2.cells k (by omega)
                rw [hcl, ← e1] at c1
                obtain ⟨c, hc⟩ : ∃ c, c = (t.c v)[k]?.getD 0 := ⟨_, rfl⟩
                rw [← hc] at c3
                have c4 : W5.cell? ⟨vb, v, none⟩ = some (.int .i64 (selS v (x, y, z))) := (cell_of (hM.keeps hk5).obj v).trans (vals_at v hv3 x y z)
                have hxe := h.x v hv3 k (by omega)
                rw [← HS.out] at hxe
                rw [hxe] at c4
                obtain ⟨q, hq⟩ : ∃ q, q = t.x v k := ⟨_, rfl⟩
                rw [← hq] at c4
                obtain ⟨tl1, tl2⟩ := h.ok.tells v hv3 k (by omega)
                rw [← hq, ← hc] at tl1
                rw [← hq] at tl2
                have htop := top_le v
                obtain ⟨gk, hcod⟩ := h.cods.at_ v hv3
                have hlen := h.ok.tl_le (n - (k + 1)) (by omega)
                have hlen2 := h.ok.nx_le k (by omega) 3
                have hlen3 := h.ok.st_le k (by omega) i
                have hlen4 : (tlN t k).length ≤ 7864320 + 27 := by
                  unfold tlN
                  rw [List.length_append, show t.n - 1 - k = n - (k + 1) from by omega]
                  split
                  · simp; omega
                  · omega
                have hcp := cputV_any b (v * 110) gk wb (kdV v) c q _ w W5 vb _ hcod tl1.1 (hM.keeps hk5) tl1.2.1 (by omega) (by rw [List.length_append]; omega)
                have HN := (show Hid (Calls Tryz.prog 73 #[.pointer (some ⟨b, v * 110, none⟩), .pointer (some ⟨wb, 0, none⟩), .int .u8 (c : Int), .int .i64 (q : Int)] W5 fun e W' => e = .returned (.tuple #[]) ∧ MineV w W' wb (tlN t k ++ stB t k (i + 1)) vb (.cells #[.int .i64 x, .int .i64 z, .int .i64 y] 80 (0, 0))) from by
                  refine hcp.mono ?_
                  rintro e w2 ⟨rfl, q1⟩
                  refine ⟨rfl, ?_⟩
                  rw [List.append_assoc, hq, hc, hv] at q1
                  exact q1)
                clear h e1 e2 hM hk5 h5 hv hlen hlen2 hlen3 hlen4 hcp hj HC1 c2 hc hxe hq tl1 tl2 htop hcod hcl
                go_wp2_with fail
                refine region_tail 17 mx (by kernel_rfl) ?_
                rw [← hW5]
                clear hW5
                simp only [List.take_succ_cons, List.take_zero, List.drop_succ_cons, List.drop_zero]
                repeat (quiet_step (fail))
                refine wpQuiet_nil ?_
                go_wp2_with fail
                refine HN.out.mono ?_
                rintro e w2 ⟨rfl, q1⟩
                have HQ := hid q1
                clear q1 HN
                go_wp2_with fail
                go_roundw
                case rel => exact ⟨i + 1, by go_num, by omega, HQ.out⟩
                case measure => simp [intOf]; omega
              · obtain rfl : i = 3 := by omega
                rw [show (((3 : Nat) : Int)) = (3 : Int) from rfl]
                have HQ := (show Hid (Tl.MineT w wr wb (tlD t (n - k))) from by
                  have e1 := HH.out.2.1
                  rw [e1, tlD_step t k (by omega)]
                  exact HC1.out.mine)
                clear HC1
                go_wp2_with fail
                go_roundw
                case rel => exact ⟨k, by go_num, by omega, HQ.out⟩
                case measure => simp [intOf]
end Go.Proofs.YtgaepmmpedaaiaaGreatDoor

namespace Go.Proofs.YtgaepmmpedaaiaaGreatDoor
open Go.RowKit Go.Shelf
set_option linter.unusedVariables false

def numB (n : Nat) : List Nat := if n < 128 then [n] else if n < 32512 then [128 + n / 256, n % 256] else [255, (n - 32512) % 256, (n - 32512) / 256]
theorem numB_len (n : Nat) : (numB n).length ≤ 3 ∧ 1 ≤ (numB n).length := by
  unfold numB
  split
  · simp
  · split <;> simp
theorem numB_lt (n : Nat) (h : n ≤ 65535) : ∀ j : Nat, (numB n)[j]?.getD 0 < 256 := lt256 (fun b hb => by
  unfold numB at hb
  split at hb
  · simp at hb; omega
  · split at hb
    · simp at hb; omega
    · simp at hb; omega)
theorem owns_alloc (w : World) (M : List Nat) (n : Nat) (vs : Array Value) (hv : vs = (u8s M).toArray) (hn : n = M.length) (hl : M.length ≤ 1000) : (w.alloc (.cells vs 5)).ownsRow 0 5 1 (.slice (some ⟨w.heap.size, 0, none⟩) n n) M.length (u8s M) := by
  subst hv hn
  exact owns_mk (cur := (u8s M).toArray) (alloc_new w _) (Nat.le_refl _) (by unfold maxLen; omega) (by simp [u8s_length]) (by rw [List.toList_toArray, List.take_of_length_le (by rw [u8s_length]; exact Nat.le_refl _)])
def NumPost (w : World) (n : Nat) (e : Ending) (w' : World) : Prop :=
  e = .returned (.slice (some ⟨w.heap.size, 0, none⟩) (numB n).length (numB n).length) ∧ w'.ownsRow 0 5 1 (.slice (some ⟨w.heap.size, 0, none⟩) (numB n).length (numB n).length) (numB n).length (u8s (numB n)) ∧ Keep noBlock w w' ∧ w'.heap.size = w.heap.size + 1
set_option maxHeartbeats 4000000 in
theorem putNumber_any (n : Nat) (hn : n ≤ 65535) (w : World) : Calls Tryz.prog 26 #[.int .i64 (n : Int)] w fun e w' => NumPost w n e w' := by
  by_cases h1 : n < 128
  · have hI : (n : Int) < 128 := by omega
    have hw : IntKind.u8.wrap (n : Int) = (n : Int) := by rw [IntKind.wrap_u8]; omega
    have HE := hid (show numB n = [n] from by unfold numB; rw [if_pos h1])
    go_enter Tryz.func26, Tryz.ntmps26
    go_wp2_with fail
    go_ret
    unfold NumPost
    rw [HE.out]
    exact ⟨rfl, owns_alloc w [n] 1 _ rfl rfl (by simp), (Keep.refl _ w).alloc _, by simp⟩
  · by_cases h2 : n < 32512
    · have hI : ¬ (n : Int) < 128 := by omega
      have hI2 : (n : Int) < 32512 := by omega
      obtain ⟨q, hq⟩ : ∃ q, q = n / 256 := ⟨_, rfl⟩
      obtain ⟨r, hr⟩ : ∃ r, r = n % 256 := ⟨_, rfl⟩
      obtain ⟨s, hs⟩ : ∃ s, s = 128 + q := ⟨_, rfl⟩
      have hqI : (n : Int) / 256 = (q : Int) := by omega
      have hsI : 128 + (q : Int) = (s : Int) := by omega
      have hqb : (q : Int) < 128 := by omega
      have hsb : (s : Int) < 256 := by omega
      have hw : IntKind.u8.wrap (n : Int) = (r : Int) := by rw [IntKind.wrap_u8]; omega
      have hw2 : IntKind.u8.wrap (s : Int) = (s : Int) := by rw [IntKind.wrap_u8]; omega
      have HE := hid (show numB n = [s, r] from by unfold numB; rw [if_neg h1, if_pos h2, ← hq, ← hr, hs])
      clear hq hr hs
      go_enter Tryz.func26, Tryz.ntmps26
      go_wp2_with fail
      go_ret
      unfold NumPost
      rw [HE.out]
      exact ⟨rfl, owns_alloc w [s, r] 2 _ rfl rfl (by simp), (Keep.refl _ w).alloc _, by simp⟩
    · have hI : ¬ (n : Int) < 128 := by omega
      have hI2 : ¬ (n : Int) < 32512 := by omega
      obtain ⟨m, hm⟩ : ∃ m, m = n - 32512 := ⟨_, rfl⟩
      obtain ⟨q, hq⟩ : ∃ q, q = m / 256 := ⟨_, rfl⟩
      obtain ⟨r, hr⟩ : ∃ r, r = m % 256 := ⟨_, rfl⟩
      have hmI : (n : Int) - 32512 = (m : Int) := by omega
      have hmb : (m : Int) < 65536 := by omega
      have hqI : (m : Int) / 256 = (q : Int) := by omega
      have hqb : (q : Int) < 256 := by omega
      have hw : IntKind.u8.wrap (m : Int) = (r : Int) := by rw [IntKind.wrap_u8]; omega
      have hw2 : IntKind.u8.wrap (q : Int) = (q : Int) := by rw [IntKind.wrap_u8]; omega
      have HE := hid (show numB n = [255, r, q] from by unfold numB; rw [if_neg h1, if_neg h2, ← hm, ← hq, ← hr])
      clear hq hr hm
      go_enter Tryz.func26, Tryz.ntmps26
      go_wp2_with fail
      go_ret
      unfold NumPost
      rw [HE.out]
      exact ⟨rfl, owns_alloc w [255, r, q] 3 _ rfl rfl (by simp), (Keep.refl _ w).alloc _, by simp⟩
end Go.Proofs.YtgaepmmpedaaiaaGreatDoor

namespace Go.Proofs.YtgaepmmpedaaiaaGreatDoor
open Go.RowKit Go.Shelf
set_option linter.unusedVariables false

/-- A row's five cells. -/
def rowC (R : RowP) (n : Nat) (a : Option Addr) (capt g capg pg : Nat) (ac : Option Addr) (capc : Nat) : List Value :=
  [.int .i64 (R.k : Int), .slice a R.told.length capt, .slice (some ⟨g, 0, none⟩) (2 ^ R.T.l) capg, .slice ac n capc, .slice (some ⟨pg, 0, none⟩) n n]
/-- At offset o of block rb lies a row; all its other blocks meet P. -/
def RowQ (W : World) (P : Nat → Prop) (rb o : Nat) (cs : List Nat) (R : RowP) : Prop :=
  ∃ (a : Option Addr) (capt gt ot g capg pg : Nat) (ac : Option Addr) (capc gc oc : Nat), (∀ j u, (rowC R cs.length a capt g capg pg ac capc)[j]? = some u → W.cell? ⟨rb, o + j, none⟩ = some u) ∧
    Bytes W a capt gt ot R.told ∧ (R.told ≠ [] → P gt) ∧ IsTb W g R.T ∧ P g ∧ IsA W pg 77 .u16 cs.length (fun j => ((R.f j : Nat) : Int)) ∧ P pg ∧ Bytes W ac capc gc oc cs ∧ (cs ≠ [] → P gc)
theorem rowC_len (R : RowP) (n : Nat) (a : Option Addr) (capt g capg pg : Nat) (ac : Option Addr) (capc : Nat) : (rowC R n a capt g capg pg ac capc).length = 5 := rfl
theorem RowQ.turn {W W' : World} {S P : Nat → Prop} {rb o : Nat} {cs : List Nat} {R : RowP} (h : RowQ W P rb o cs R) (hk : Keep S W W') (hS : ∀ k, P k → ¬ S k) (hc : ∀ j, j < 5 → W'.cell? ⟨rb, o + j, none⟩ = W.cell? ⟨rb, o + j, none⟩) : RowQ W' P rb o cs R := by
  obtain ⟨a, capt, gt, ot, g, capg, pg, ac, capc, gc, oc, h1, h2, h3, h4, h5, h6, h7, h8, h9⟩ := h
  refine ⟨a, capt, gt, ot, g, capg, pg, ac, capc, gc, oc, fun j u hu => ?_, h2.keep hk (fun e => hS _ (h3 e)), h3, h4.keep hk (hS _ h5), h5, h6.keep hk (hS _ h7), h7, h8.keep hk (fun e => hS _ (h9 e)), h9⟩
  have hj := (List.getElem?_eq_some_iff.1 hu).1
  rw [rowC_len] at hj
  exact (hc j hj).trans (h1 j u hu)
theorem RowQ.lt {W : World} {P : Nat → Prop} {rb o : Nat} {cs : List Nat} {R : RowP} (h : RowQ W P rb o cs R) : rb < W.heap.size := by
  obtain ⟨a, capt, gt, ot, g, capg, pg, ac, capc, gc, oc, h1, -⟩ := h
  exact World.block_lt_of_cell? W ⟨rb, o + 0, none⟩ (h1 0 _ rfl)
theorem RowQ.keep {W W' : World} {S P : Nat → Prop} {rb o : Nat} {cs : List Nat} {R : RowP} (h : RowQ W P rb o cs R) (hk : Keep S W W') (hS : ∀ k, P k → ¬ S k) (hr : ¬ S rb) : RowQ W' P rb o cs R :=
  h.turn hk hS (fun j _ => World.cell?_of_block (hk.block rb h.lt hr))
theorem RowQ.mono {W : World} {P Q : Nat → Prop} {rb o : Nat} {cs : List Nat} {R : RowP} (h : RowQ W P rb o cs R) (hq : ∀ k, k < W.heap.size → P k → Q k) : RowQ W Q rb o cs R := by
  obtain ⟨a, capt, gt, ot, g, capg, pg, ac, capc, gc, oc, h1, h2, h3, h4, h5, h6, h7, h8, h9⟩ := h
  exact ⟨a, capt, gt, ot, g, capg, pg, ac, capc, gc, oc, h1, h2, fun e => hq _ (h2.block e) (h3 e), h4, hq _ h4.lt h5, h6, hq _ h6.lt h7, h8, fun e => hq _ (h8.block e) (h9 e)⟩
theorem RowQ.at_ {W : World} {P : Nat → Prop} {rb o : Nat} {cs : List Nat} {R : RowP} (h : RowQ W P rb o cs R) : RowAt W rb o 0 cs R := by
  obtain ⟨a, capt, gt, ot, g, capg, pg, ac, capc, gc, oc, h1, h2, h3, h4, h5, h6, h7, h8, h9⟩ := h
  exact ⟨⟨_, _, _, h1 1 _ rfl, h1 2 _ rfl, h1 4 _ rfl, ⟨⟨a, capt, gt, ot, rfl, h2, fun _ => Nat.zero_le _⟩, ⟨g, capg, rfl, h4, Nat.zero_le _⟩, ⟨pg, rfl, h6, Nat.zero_le _⟩⟩⟩, h1 0 _ rfl, ac, capc, gc, oc, h1 3 _ rfl, h8⟩
/-- The byte of kinds, kind by kind. -/
def kbS (R : Nat → RowP) : Nat → Nat
  | 0 => 0
  | v + 1 => kbS R v + (R v).k * 2 ^ (6 - 2 * v)
theorem or_kinds : ∀ a, a < 3 → ∀ b, b < 3 → ∀ c, c < 3 → bits .or .u8 0 ((a * 64 : Nat) : Int) = ((0 + a * 64 : Nat) : Int) ∧ bits .or .u8 ((0 + a * 64 : Nat) : Int) ((b * 16 : Nat) : Int) = ((0 + a * 64 + b * 16 : Nat) : Int) ∧ bits .or .u8 ((0 + a * 64 + b * 16 : Nat) : Int) ((c * 4 : Nat) : Int) = ((0 + a * 64 + b * 16 + c * 4 : Nat) : Int) := by decide
theorem kb_or (R : Nat → RowP) (h : ∀ v, v < 3 → (R v).k < 3) (v : Nat) (hv : v < 3) : bits .or .u8 ((kbS R v : Nat) : Int) (((R v).k * 2 ^ (6 - 2 * v) : Nat) : Int) = ((kbS R (v + 1) : Nat) : Int) := by
  obtain ⟨h1, h2, h3⟩ := or_kinds (R 0).k (h 0 (by omega)) (R 1).k (h 1 (by omega)) (R 2).k (h 2 (by omega))
  rcases (show v = 0 ∨ v = 1 ∨ v = 2 by omega) with rfl | rfl | rfl
  · exact h1
  · exact h2
  · exact h3
theorem kb_lt (R : Nat → RowP) (h : ∀ v, v < 3 → (R v).k < 3) (v : Nat) (hv : v ≤ 3) : kbS R v < 256 := by
  have h0 := h 0 (by omega)
  have h1 := h 1 (by omega)
  have h2 := h 2 (by omega)
  rcases (show v = 0 ∨ v = 1 ∨ v = 2 ∨ v = 3 by omega) with rfl | rfl | rfl | rfl <;> simp [kbS] <;> omega
theorem kb_get (R : Nat → RowP) (h : ∀ v, v < 3 → (R v).k < 3) (v : Nat) (hv : v < 3) : kbS R 3 / 2 ^ (6 - 2 * v) % 4 = (R v).k ∧ kbS R 3 % 4 = 0 := by
  have h0 := h 0 (by omega)
  have h1 := h 1 (by omega)
  have h2 := h 2 (by omega)
  rcases (show v = 0 ∨ v = 1 ∨ v = 2 by omega) with rfl | rfl | rfl <;> simp [kbS] <;> omega
/-- What tells the tables, one behind the other. -/
def tolds (R : Nat → RowP) : Nat → List Nat
  | 0 => []
  | v + 1 => tolds R v ++ (R v).told
theorem kbS_congr (R R' : Nat → RowP) : ∀ i, (∀ v, v < i → R v = R' v) → kbS R i = kbS R' i
  | 0, _ => rfl
  | i + 1, h => by
    show kbS R i + (R i).k * _ = kbS R' i + (R' i).k * _
    rw [kbS_congr R R' i (fun v hv => h v (by omega)), h i (by omega)]
theorem tolds_congr (R R' : Nat → RowP) : ∀ i, (∀ v, v < i → R v = R' v) → tolds R i = tolds R' i
  | 0, _ => rfl
  | i + 1, h => by
    show tolds R i ++ (R i).told = tolds R' i ++ (R' i).told
    rw [tolds_congr R R' i (fun v hv => h v (by omega)), h i (by omega)]
/-- A store into a row of one's own. -/
theorem owns_put {w : World} {g cap : Nat} {M : List Nat} (h : w.ownsRow 0 5 1 (.slice (some ⟨g, 0, none⟩) M.length cap) M.length (u8s M)) (hM : ∀ j : Nat, M[j]?.getD 0 < 256) (hl : M.length < 2 ^ 48) (i x : Nat) (hi : i < M.length) :
    (w.setCell ⟨g, i, none⟩ (.int .u8 (x : Int))).ownsRow 0 5 1 (.slice (some ⟨g, 0, none⟩) M.length cap) M.length (u8s (M.set i x)) := by
  obtain ⟨a, cap', g', he, hB, ⟨rfl, rfl⟩ | ⟨rfl, cur, h1, h2, h3, h4⟩⟩ := bytes_own h hM hl
  · simp at hi
  · cases he
    have h0 := hB.cap
    have := owns_mk (M := M.set i x) (set_obj h1 i (.int .u8 (x : Int))) (by rw [List.length_set]; exact h0) h4 (by rw [Array.size_setIfInBounds]; exact h2) (by
      rw [Array.toList_setIfInBounds, List.length_set, List.take_set, h3]
      simp [u8s, List.map_set])
    rw [List.length_set] at this
    exact this
/-- What a step's value may be. -/
def mostX : Nat → Nat
  | 0 => 131071
  | 1 => 268435456
  | _ => 131074
theorem tell_sel (s : Stp) (h : tellS s.1 s.2.1 s.2.2 = true) (v : Nat) (hv : v < 3) : ((kdV v).first : Int) ≤ selS v s ∧ selS v s ≤ (mostX v : Int) := by
  unfold tellS at h
  simp only [Bool.and_eq_true, decide_eq_true_eq] at h
  rcases (show v = 0 ∨ v = 1 ∨ v = 2 by omega) with rfl | rfl | rfl
  · exact ⟨h.1.1.1.1.1, h.1.1.1.1.2⟩
  · exact ⟨h.1.2, h.2⟩
  · exact ⟨h.1.1.1.2, h.1.1.2⟩
theorem most_top (v : Nat) : mostX v < (kdV v).top := by
  match v with
  | 0 => rw [show kdV 0 = kdL from rfl, topL]; decide
  | 1 => rw [show kdV 1 = kdB from rfl, topB]; decide
  | _ + 2 => rw [show ∀ i, kdV (i + 2) = kdM from fun _ => rfl, topM]; exact (by decide : (131074 : Nat) < 131075)
theorem code_in (v x c : Nat) (hv : v < 3) (h : (kdV v).Tells x c) (hx : x ≤ mostX v) : c < (kdV v).cs.length := by
  obtain ⟨h1, h2, -⟩ := h
  rcases (show v = 0 ∨ v = 1 ∨ v = 2 by omega) with rfl | rfl | rfl
  · exact h1
  · show c < 29
    rcases Nat.lt_or_ge c 29 with q | q
    · exact q
    · have h3 := kokB.rise (c - 29) 29 (by rw [show 29 + (c - 29) = c from by omega]; exact h1)
      rw [show 29 + (c - 29) = c from by omega, show kdB.lst 29 = 536870912 from by kernel_rfl] at h3
      have h4 : kdB.lst c ≤ 268435456 := Nat.le_trans h2 hx
      omega
  · exact h1
end Go.Proofs.YtgaepmmpedaaiaaGreatDoor

namespace Go.Proofs.YtgaepmmpedaaiaaGreatDoor
open Go.RowKit Go.Shelf
set_option linter.unusedVariables false

theorem setAll_lt : ∀ (vs : List Value) (o : Nat) (cs : Array Value) (i : Nat), i < o → (setAll cs o vs)[i]? = cs[i]?
  | [], _, _, _, _ => rfl
  | v :: vs, o, cs, i, h => by
    rw [setAll, setAll_lt vs (o + 1) _ i (by omega), Array.getElem?_setIfInBounds_ne (by omega)]
theorem setAll_at : ∀ (vs : List Value) (o : Nat) (cs : Array Value) (j : Nat), j < vs.length → o + vs.length ≤ cs.size → (setAll cs o vs)[o + j]? = vs[j]?
  | [], _, _, j, h, _ => by simp at h
  | v :: vs, o, cs, 0, h, h2 => by
    rw [setAll, show o + 0 = o from rfl, setAll_lt vs (o + 1) _ o (by omega)]
    simp at h2
    rw [Array.getElem?_setIfInBounds_self_of_lt (by omega)]
    rfl
  | v :: vs, o, cs, j + 1, h, h2 => by
    simp at h h2
    rw [setAll, show o + (j + 1) = o + 1 + j from by omega, setAll_at vs (o + 1) _ j (by omega) (by rw [Array.size_setIfInBounds]; omega)]
    rfl
/-- The section's bytes as far as they are told: j tables are told, kb is the byte of kinds. -/
def layB (n kb : Nat) (R : Nat → RowP) (j : Nat) : List Nat := numB n ++ [kb] ++ tolds R j
structure LySt (w wr : World) (cK g0 g1 g2 rb n : Nat) (l : List Stp) (i kb j : Nat) (vb : Value) (R : Nat → RowP) (c : Nat → List Nat) : Prop where
  cods : Cods wr cK g0 g1 g2
  own : wr.ownsRow 0 5 1 vb (layB n kb R j).length (u8s (layB n kb R j))
  far : ∀ k, vb.ownBlock = some k → w.heap.size ≤ k ∧ k ≠ cK ∧ k ≠ rb ∧ k ≠ g0 ∧ k ≠ g1 ∧ k ≠ g2
  rows : ∃ arr, wr.heap[rb]? = some (.cells arr 123 (0, 0)) ∧ arr.size = 15
  row : ∀ v, v < i → RowQ wr (fun k => vb.ownBlock ≠ some k ∧ k ≠ rb) rb (v * 5) (c v) (R v)
  ok : ∀ v, v < i → RowOk (kdV v) (c v) (R v) ∧ (c v).length = n ∧ ∀ k, k < n → (kdV v).Tells (selS v (l[k]?.getD (0, 0, 0))).toNat ((c v)[k]?.getD 0)
  kp : Keep noBlock w wr
  nw : w.heap.size ≤ cK ∧ w.heap.size ≤ rb ∧ cK ≠ rb ∧ g0 ≠ rb ∧ g1 ≠ rb ∧ g2 ≠ rb
theorem LySt.to {w wr w' : World} {cK g0 g1 g2 rb n : Nat} {l : List Stp} {i kb j : Nat} {vb : Value} {R : Nat → RowP} {c : Nat → List Nat} (h : LySt w wr cK g0 g1 g2 rb n l i kb j vb R c) (hk : Keep noBlock wr w') : LySt w w' cK g0 g1 g2 rb n l i kb j vb R c := by
  obtain ⟨h1, h2, h3, ⟨arr, h4, h5⟩, h6, h7, h8, h9⟩ := h
  exact ⟨h1.keep hk (fun h => h) (fun h => h) (fun h => h) (fun h => h), owns_kept h2 hk (fun _ _ h => h), h3, ⟨arr, hk.obj h4 (fun h => h), h5⟩, fun v hv => (h6 v hv).keep hk (fun _ _ h => h) (fun h => h), h7, h8.trans' hk, h9⟩
def updN {A : Type} (f : Nat → A) (i : Nat) (x : A) : Nat → A := fun v => if v = i then x else f v
theorem updN_lt {A : Type} (f : Nat → A) (i : Nat) (x : A) (v : Nat) (h : v < i) : updN f i x v = f v := if_neg (by omega)
theorem updN_self {A : Type} (f : Nat → A) (i : Nat) (x : A) : updN f i x i = x := if_pos rfl
/-- A row is stored. -/
theorem LySt.row_ {w wr w3 : World} {cK g0 g1 g2 rb n : Nat} {l : List Stp} {i kb : Nat} {vb : Value} {R : Nat → RowP} {c : Nat → List Nat} (h : LySt w wr cK g0 g1 g2 rb n l i kb i vb R c) (hi : i < 3) (hk : Keep noBlock wr w3)
    (R' : RowP) (cs : List Nat) (a : Option Addr) (capt gt ot g capg pg : Nat) (ac : Option Addr) (capc gc oc : Nat) (hn : cs.length = n)
    (h1 : Bytes w3 a capt gt ot R'.told) (h2 : R'.told ≠ [] → wr.heap.size ≤ gt) (h3 : IsTb w3 g R'.T) (h4 : wr.heap.size ≤ g) (h5 : IsA w3 pg 77 .u16 n (fun j => ((R'.f j : Nat) : Int))) (h6 : wr.heap.size ≤ pg) (h7 : Bytes w3 ac capc gc oc cs) (h8 : cs ≠ [] → wr.heap.size ≤ gc)
    (h9 : RowOk (kdV i) cs R') (h10 : ∀ k, k < n → (kdV i).Tells (selS i (l[k]?.getD (0, 0, 0))).toNat (cs[k]?.getD 0)) :
    LySt w (w3.setCells rb (i * 5) (rowC R' n a capt g capg pg ac capc)) cK g0 g1 g2 rb n l (i + 1) kb i vb (updN R i R') (updN c i cs) := by
  have h' := h.to hk
  obtain ⟨arr, a1, a2⟩ := h'.rows
  obtain ⟨n1, n2, n3, n4, n5, n6⟩ := h.nw
  have hrb : rb < wr.heap.size := by obtain ⟨arr, a1, a2⟩ := h.rows; exact obj_lt a1
  have hown : ∀ k, vb.ownBlock = some k → k < wr.heap.size := fun k e => (owns_lt h.own e).2
  have hk2 : Keep (fun k => k = rb) w3 (w3.setCells rb (i * 5) (rowC R' n a capt g capg pg ac capc)) := keep_setCells (S := fun k => k = rb) rb (fun _ => rfl) _ _ _ (Keep.refl _ w3)
  have ho := setCells_obj rb 123 (rowC R' n a capt g capg pg ac capc) (i * 5) arr w3 a1
  refine ⟨h'.cods.keep hk2 n3 n4 n5 n6, ?_, h.far, ⟨_, ho, by rw [setAll_size]; exact a2⟩, fun v hv => ?_, fun v hv => ?_, h'.kp.trans hk2 (fun k hk e => by omega), h.nw⟩
  · have e : layB n kb (updN R i R') i = layB n kb R i := by unfold layB; rw [tolds_congr _ R i (fun v hv => updN_lt R i R' v hv)]
    rw [e]
    exact owns_kept h'.own hk2 (fun k e => (h.far k e).2.2.1)
  · by_cases e : v = i
    · subst e
      rw [updN_self, updN_self]
      refine ⟨a, capt, gt, ot, g, capg, pg, ac, capc, gc, oc, fun j u hu => ?_, h1.keep hk2 (fun e => by have := h2 e; omega), fun e => ⟨fun e2 => by have := hown _ e2; have := h2 e; omega, by have := h2 e; omega⟩, h3.keep hk2 (by omega), ⟨fun e2 => by have := hown _ e2; omega, by omega⟩, by rw [hn]; exact h5.keep hk2 (by omega), ⟨fun e2 => by have := hown _ e2; omega, by omega⟩, h7.keep hk2 (fun e => by have := h8 e; omega), fun e => ⟨fun e2 => by have := hown _ e2; have := h8 e; omega, by have := h8 e; omega⟩⟩
      rw [hn] at hu
      have hj := (List.getElem?_eq_some_iff.1 hu).1
      rw [rowC_len] at hj
      rw [cell_of ho, setAll_at _ _ _ j (by rw [rowC_len]; exact hj) (by rw [rowC_len, a2]; omega)]
      exact hu
    · rw [updN_lt R i R' v (by omega), updN_lt c i cs v (by omega)]
      refine (h'.row v (by omega)).turn hk2 (fun k hk e => hk.2 e) (fun j hj => ?_)
      rw [cell_of ho, cell_of a1, setAll_lt _ _ _ _ (by omega)]
  · by_cases e : v = i
    · subst e
      rw [updN_self, updN_self]
      exact ⟨h9, hn, h10⟩
    · rw [updN_lt R i R' v (by omega), updN_lt c i cs v (by omega)]
      exact h.ok v (by omega)
theorem layB_len (n kb : Nat) (R : Nat → RowP) (j : Nat) : (layB n kb R j).length = (numB n).length + 1 + (tolds R j).length := by unfold layB; simp; omega
theorem layB_set (n kb kb' : Nat) (R : Nat → RowP) (j : Nat) : (layB n kb R j).set (numB n).length kb' = layB n kb' R j := by
  unfold layB
  rw [List.append_assoc, List.append_assoc, List.set_append_right _ _ (Nat.le_refl _), Nat.sub_self]
  rfl
theorem layB_at (n kb : Nat) (R : Nat → RowP) (j : Nat) : (layB n kb R j)[(numB n).length]?.getD 0 = kb := by
  unfold layB
  rw [List.append_assoc, List.getElem?_append_right (Nat.le_refl _), Nat.sub_self]
  rfl
/-- The byte of kinds is turned. -/
theorem LySt.kind {w wr : World} {cK g0 g1 g2 rb n : Nat} {l : List Stp} {i kb j : Nat} {R : Nat → RowP} {c : Nat → List Nat} {β cap m : Nat} (h : LySt w wr cK g0 g1 g2 rb n l i kb j (.slice (some ⟨β, 0, none⟩) m cap) R c) (kb' : Nat) (hm : m = (layB n kb R j).length) :
    LySt w (wr.setCell ⟨β, (numB n).length, none⟩ (.int .u8 (kb' : Int))) cK g0 g1 g2 rb n l i kb' j (.slice (some ⟨β, 0, none⟩) m cap) R c := by
  obtain ⟨arr, a1, a2⟩ := h.rows
  obtain ⟨f1, f2, f3, f4, f5, f6⟩ := h.far β (by simp [Value.ownBlock])
  have hk : Keep (fun k => k = β) wr (wr.setCell ⟨β, (numB n).length, none⟩ (.int .u8 (kb' : Int))) := (Keep.refl (fun k => k = β) wr).setCell (p := ⟨β, (numB n).length, none⟩) (fun _ => rfl) _
  refine ⟨h.cods.keep hk (fun e => f2 e.symm) (fun e => f4 e.symm) (fun e => f5 e.symm) (fun e => f6 e.symm), ?_, h.far, ⟨arr, hk.obj a1 (fun e => f3 e.symm), a2⟩, fun v hv => (h.row v hv).keep hk (fun k hk e => hk.1 (by rw [e]; simp [Value.ownBlock])) (fun e => f3 e.symm), h.ok, h.kp.trans hk (fun k hk e => by omega), h.nw⟩
  have ho := h.own
  rw [← hm] at ho
  have := owns_set ho (numB n).length kb'
  rw [layB_set] at this
  have e : m = (layB n kb' R j).length := by rw [hm, layB_len, layB_len]
  rw [← e]
  exact this
/-- A table is told. -/
theorem LySt.tell {w wr w' : World} {cK g0 g1 g2 rb n : Nat} {l : List Stp} {i kb : Nat} {vb vb' : Value} {R : Nat → RowP} {c : Nat → List Nat} (h : LySt w wr cK g0 g1 g2 rb n l (i + 1) kb i vb R c) (ho : w'.ownsRow 0 5 1 vb' (layB n kb R i ++ (R i).told).length (u8s (layB n kb R i ++ (R i).told)))
    (hk : Keep (fun k => vb.ownBlock = some k) wr w') (hb : vb'.ownBlock = vb.ownBlock ∨ ∃ k, vb'.ownBlock = some k ∧ wr.heap.size ≤ k) : LySt w w' cK g0 g1 g2 rb n l (i + 1) kb (i + 1) vb' R c := by
  obtain ⟨arr, a1, a2⟩ := h.rows
  have nf : ∀ x, (∀ k, vb.ownBlock = some k → k ≠ x) → ¬ (vb.ownBlock = some x) := fun x hx e => hx x e rfl
  have hrb : rb < wr.heap.size := obj_lt a1
  have c0 := h.cods.cl.lt
  have c1 := h.cods.cl.gt
  have c2 := h.cods.cb.gt
  have c3 := h.cods.cm.gt
  have e : layB n kb R i ++ (R i).told = layB n kb R (i + 1) := by unfold layB; rw [List.append_assoc]; rfl
  rw [e] at ho
  refine ⟨h.cods.keep hk (nf _ fun k e => (h.far k e).2.1) (nf _ fun k e => (h.far k e).2.2.2.1) (nf _ fun k e => (h.far k e).2.2.2.2.1) (nf _ fun k e => (h.far k e).2.2.2.2.2), ho, fun k e => ?_, ⟨arr, hk.obj a1 (nf _ fun k e => (h.far k e).2.2.1), a2⟩, fun v hv => ?_, h.ok, h.kp.trans hk (fun k hk2 e => by have := (h.far k e).1; omega), h.nw⟩
  · rcases hb with hb | ⟨q, hb, hq⟩
    · rw [hb] at e; exact h.far k e
    · rw [hb] at e
      cases e
      have := h.kp.size
      omega
  · have hr := (h.row v hv).keep hk (fun k hk e => hk.1 e) (nf _ fun k e => (h.far k e).2.2.1)
    have hr0 := h.row v hv
    rcases hb with hb | ⟨q, hb, hq⟩
    · rw [hb]; exact hr
    · rw [hb]
      have := hr0.mono (Q := fun k => (vb.ownBlock ≠ some k ∧ k ≠ rb) ∧ k < wr.heap.size) (fun k hk hp => ⟨hp, hk⟩)
      refine (this.keep hk (fun k hk e => hk.1.1 e) (nf _ fun k e => (h.far k e).2.2.1)).mono (fun k _ hp => ⟨fun e => ?_, hp.1.2⟩)
      cases e
      omega
theorem tolds_lt (R : Nat → RowP) : ∀ j, (∀ v, v < j → ∀ q : Nat, (R v).told[q]?.getD 0 < 256) → ∀ q : Nat, (tolds R j)[q]?.getD 0 < 256
  | 0, _, q => by simp [tolds]
  | j + 1, h, q => lt_app (tolds_lt R j (fun v hv => h v (by omega))) (h j (by omega)) q
theorem tolds_len (R : Nat → RowP) : ∀ j, (∀ v, v < j → (R v).told.length ≤ 481) → (tolds R j).length ≤ j * 481
  | 0, _ => by simp [tolds]
  | j + 1, h => by
    show (tolds R j ++ (R j).told).length ≤ _
    rw [List.length_append]
    have := tolds_len R j (fun v hv => h v (by omega))
    have := h j (by omega)
    omega
theorem LySt.lt {w wr : World} {cK g0 g1 g2 rb n : Nat} {l : List Stp} {i kb j : Nat} {vb : Value} {R : Nat → RowP} {c : Nat → List Nat} (h : LySt w wr cK g0 g1 g2 rb n l i kb j vb R c) (hj : j ≤ i) (hk : kb < 256) (hn : n ≤ 65535) : ∀ q : Nat, (layB n kb R j)[q]?.getD 0 < 256 := by
  unfold layB
  refine lt_app (lt_app (numB_lt n hn) (lt256 (fun b hb => by simp at hb; omega))) (tolds_lt R j (fun v hv q => ?_))
  obtain ⟨a, capt, gt, ot, g, capg, pg, ac, capc, gc, oc, h1, h2, -⟩ := h.row v (by omega)
  exact h2.lt q
theorem LySt.len {w wr : World} {cK g0 g1 g2 rb n : Nat} {l : List Stp} {i kb j : Nat} {vb : Value} {R : Nat → RowP} {c : Nat → List Nat} (h : LySt w wr cK g0 g1 g2 rb n l i kb j vb R c) (hj : j ≤ i) (hi : i ≤ 3) : (layB n kb R j).length ≤ 2000 := by
  rw [layB_len]
  have := (numB_len n).1
  have h2 := tolds_len R j (fun v hv => (h.ok v (by omega)).1.told.len)
  have : j * 481 ≤ 3 * 481 := Nat.mul_le_mul_right _ (by omega)
  omega
/-- The section's slice. -/
theorem LySt.slice {w wr : World} {cK g0 g1 g2 rb n : Nat} {l : List Stp} {i kb j : Nat} {vb : Value} {R : Nat → RowP} {c : Nat → List Nat} (h : LySt w wr cK g0 g1 g2 rb n l i kb j vb R c) (hj : j ≤ i) (hi : i ≤ 3) (hk : kb < 256) (hn : n ≤ 65535) :
    ∃ β cap, vb = .slice (some ⟨β, 0, none⟩) (layB n kb R j).length cap ∧ wr.cell? ⟨β, (numB n).length, none⟩ = some (.int .u8 (kb : Int)) ∧ wr.frozen? ⟨β, (numB n).length, none⟩ = false := by
  have hl := h.len hj hi
  obtain ⟨a, cap, g, he, hB, ⟨rfl, hM⟩ | ⟨rfl, cur, h1, h2, h3, h4⟩⟩ := bytes_own h.own (h.lt hj hk hn) (by omega)
  · have := layB_len n kb R j
    rw [hM] at this
    simp only [List.length_nil] at this
    omega
  · refine ⟨g, cap, he, ?_, frozen_of h1 _⟩
    have := hB.cells (numB n).length (by rw [layB_len]; omega)
    rw [layB_at, Nat.zero_add] at this
    exact this
end Go.Proofs.YtgaepmmpedaaiaaGreatDoor
