/-
  WindowWhole, the walk: a window, and all bytes that were put, put together.
-/
import Derived.Test.YtpjbegafhgnebaaGreat
import Derived.Test.YtpjbegafhgnebaaWakes
import Derived.Test.YtpjbegafhgnebaaFill
namespace Go.Proofs.Ytpjbegafhgnebaa
namespace WholeLaw
open Go.RowKit Go.Shelf
set_option linter.unusedVariables false

theorem cell_kept {w W : World} (h : Keep noBlock w W) {b o : Nat} {v : Value} (hc : w.cell? ⟨b, o, none⟩ = some v) : W.cell? ⟨b, o, none⟩ = some v :=
  (World.cell?_of_block (a := ⟨b, o, none⟩) (h.block b (World.block_lt_of_cell? w _ hc) (fun h => h))).trans hc
theorem costs_mono (ps : Nat → ActD) (j k : Nat) (h : j ≤ k) : costs ps j ≤ costs ps k := by
  induction k with
  | zero => obtain rfl : j = 0 := by omega
            exact Nat.le_refl _
  | succ k ih =>
    rcases Nat.lt_or_ge j (k + 1) with e | e
    · exact Nat.le_trans (ih (by omega)) (Nat.le_add_right _ _)
    · obtain rfl : j = k + 1 := by omega
      exact Nat.le_refl _
theorem type_ne {W : World} {a b : Nat} {cs ds : Array Value} {t u : TypeId} {f g : Nat × Nat} (ha : W.heap[a]? = some (.cells cs t f)) (hb : W.heap[b]? = some (.cells ds u g)) (h : t ≠ u) : a ≠ b := by
  rintro rfl
  rw [ha] at hb
  simp only [Option.some.injEq, Obj.cells.injEq] at hb
  exact h hb.2.1

/-- The window into which Lw was put, and the row of all, Lv. -/
structure Whole (w W : World) (wb lb s : Nat) (rv v : Value) (Lw Lv : List Nat) : Prop where
  live : Live w W wb lb s rv (lastN s Lw) 16777216 s s
  own : W.ownsRow 0 5 1 v Lv.length (u8s Lv)
  lt : ∀ j : Nat, Lv[j]?.getD 0 < 256
  vring : ∀ g, v.ownBlock = some g → w.heap.size ≤ g
  apart : ∀ g, rv.ownBlock = some g → v.ownBlock ≠ some g
theorem owns_lt {W : World} {v : Value} {n : Nat} {xs : List Value} (h : W.ownsRow 0 5 1 v n xs) {g : Nat} (hg : v.ownBlock = some g) : g < W.heap.size := by
  rcases h.2 with ⟨rfl, _⟩ | ⟨g', cap, cur, rfl, _, hh, _⟩
  · cases hg
  · obtain rfl : g' = g := by simpa [Value.ownBlock] using hg
    exact obj_lt hh
theorem Whole.obj {w W : World} {wb lb s : Nat} {rv v : Value} {Lw Lv : List Nat} (h : Whole w W wb lb s rv v Lw Lv) : ∃ cs, W.heap[wb]? = some (.cells cs 65 (0, 0)) := by
  obtain ⟨R, o, h, -⟩ := h.live.isW
  exact ⟨_, h.obj⟩
theorem Whole.same {w W W' : World} {wb lb s : Nat} {rv v : Value} {Lw Lv : List Nat} (h : Whole w W wb lb s rv v Lw Lv) (hk : Keep noBlock W W') : Whole w W' wb lb s rv v Lw Lv :=
  ⟨h.live.same hk, owns_kept h.own hk (fun _ _ h => h), h.lt, h.vring, h.apart⟩
/-- What turns the window alone. -/
theorem Whole.turn1 {w W W' : World} {wb lb s : Nat} {rv rv' v : Value} {Lw Lw' Lv : List Nat} (h : Whole w W wb lb s rv v Lw Lv) (hV : Live w W' wb lb s rv' (lastN s Lw') 16777216 s s) (hN : Near W rv rv') (hK : Keep (fun k => k = wb ∨ rv.ownBlock = some k) W W') : Whole w W' wb lb s rv' v Lw' Lv := by
  obtain ⟨cs, ow⟩ := h.obj
  refine ⟨hV, owns_kept h.own hK ?_, h.lt, h.vring, ?_⟩
  · rintro g hg (e | e)
    · exact owns_ne h.own ow (by decide) (by rw [hg, e])
    · exact h.apart g e hg
  · intro g hg
    rcases hN with e | ⟨k, e, hk⟩
    · exact h.apart g (by rw [← e]; exact hg)
    · intro q
      have := owns_lt h.own q
      rw [e] at hg
      have : k = g := by simpa using hg
      omega
/-- What is appended to all. -/
theorem Whole.turn2 {w W W' : World} {wb lb s : Nat} {rv v v' : Value} {Lw Lv Lv' : List Nat} (h : Whole w W wb lb s rv v Lw Lv) (hO : W'.ownsRow 0 5 1 v' Lv'.length (u8s Lv')) (hlt : ∀ j : Nat, Lv'[j]?.getD 0 < 256) (hN : Near W v v') (hK : Keep (fun k => v.ownBlock = some k) W W') : Whole w W' wb lb s rv v' Lw Lv' := by
  obtain ⟨cs, ow⟩ := h.obj
  refine ⟨h.live.kept hK ?_ ?_ ?_ ?_, hO, hlt, ?_, ?_⟩
  · exact owns_ne h.own ow (by decide)
  · exact owns_ne h.own h.live.isL.obj (by decide)
  · exact fun g hg => h.apart g hg
  · exact fun i hi e => by have := h.vring i e; omega
  · intro g hg
    rcases hN with e | ⟨k, e, hk⟩
    · exact h.vring g (by rw [← e]; exact hg)
    · rw [e] at hg
      have : k = g := by simpa using hg
      have := h.live.keep.size
      omega
  · intro g hg q
    rcases hN with e | ⟨k, e, hk⟩
    · exact h.apart g hg (by rw [← e]; exact q)
    · have := h.live.isW.ring_lt hg
      rw [e] at q
      have : k = g := by simpa using q
      omega
/-- While the bytes that were copied are held against all: j of them are over. -/
structure Held (w W : World) (wb lb s : Nat) (rv v : Value) (L : List Nat) (back n g j : Nat) : Prop where
  whole : Whole w W wb lb s rv v (L ++ outL L back n) (L ++ outL L back j)
  row : W.heap[g]? = some (.cells (u8s (outL L back n)).toArray 5 (0, 0))
  ne : v.ownBlock ≠ some g
/-- Where the walk stands when k acts are over. -/
def At (w W : World) (wb lb s : Nat) (ps : Nat → ActD) (k : Nat) (v : Value) : Prop :=
  ∃ rv L, Whole w W wb lb s rv v L L ∧ L.length ≤ costs ps k

section
set_option maxRecDepth 100000 in
set_option maxHeartbeats 8000000 in
theorem whole_walk (size : Int) (a : Option Addr) (len cap b off : Nat) (ps : Nat → ActD) (w : World) (h : Acts w a len b off ps) (hl : len < 2 ^ 60) :
    Calls Try.prog 5 #[.int .i64 size, .slice a len cap] w fun e w' => e = .returned (.bool true) ∧ Keep noBlock w w' := by
  have HA := (show Hid (Acts w a len b off ps) from h)
  have HGr := great_any a len cap b off ps w h hl
  clear h
  go_enter Try.func5, Try.ntmps5
  go_wp2_with fail
  refine HGr.mono ?_
  clear HGr
  rintro e w0 ⟨rfl, rfl | ⟨rfl, hl2, hco⟩⟩
  · go_wp2_with fail
    refine (wakes_any _).mono ?_
    rintro e w1 ⟨rfl, hk⟩
    go_wp2_with fail
    go_ret
    exact ⟨rfl, hk⟩
  have HCO := (show Hid (costs ps len ≤ 65536) from hco)
  clear hco
  go_wp2_with fail
  refine (new_any 16777216 w0).mono ?_
  rintro e w1 ⟨rfl, hL1, k1⟩
  rw [show budget 16777216 = 16777216 from by decide] at hL1
  obtain ⟨lb, hlb⟩ : ∃ lb, lb = w0.heap.size := ⟨_, rfl⟩
  rw [← hlb] at hL1 ⊢
  have HB := (show Hid (IsL w1 lb 16777216 0 0 ∧ Keep noBlock w0 w1 ∧ w0.heap.size ≤ lb) from ⟨hL1, k1, by omega⟩)
  clear hL1 k1 hlb
  by_cases hsz : 1 ≤ size ∧ size ≤ 16777216
  · obtain ⟨s, rfl⟩ : ∃ s : Nat, size = (s : Int) := ⟨size.toNat, by omega⟩
    have hs1 : 1 ≤ s := by omega
    have hs2 : s ≤ 16777216 := by omega
    clear hsz
    go_wp2_with fail
    refine (live_new (w := w0) s lb 16777216 0 0 hs1 hs2 HB.out.1 (by omega) HB.out.2.1 HB.out.2.2).mono ?_
    rintro e w3 ⟨wb, rfl, hwb, hV3, k3⟩
    rw [Nat.zero_add, Nat.max_zero] at hV3
    have HP := (show Hid (At w0 w3 wb lb s ps 0 (.slice none 0 0)) from ⟨.slice none 0 0, [], ⟨by rw [show lastN s [] = [] from by simp [lastN]]; exact hV3, ⟨rfl, .inl ⟨rfl, rfl⟩⟩, (fun j => by simp), (fun g hg => by cases hg), (fun g hg => by cases hg)⟩, Nat.zero_le _⟩)
    clear hV3 k3 hwb HB
    go_wp2_with fail
    go_loopw [7, 8] (fun va v wr => ∃ (k : Nat) (aa : Option Addr) (an ac : Nat), v = .int .i64 (k : Int) ∧ va = .slice aa an ac ∧ k ≤ len ∧ Hid (At w0 wr wb lb s ps k (.slice aa an ac))) (fun _ v _ => len - (intOf v).toNat)
    case atStart => exact ⟨0, none, 0, 0, rfl, rfl, Nat.zero_le _, HP.out⟩
    case round =>
      clear HP
      obtain ⟨k, aa, an, ac, rfl, rfl, hk, HP⟩ := hrel
      by_cases hlt : k < len
      · obtain ⟨rv, L, hB0, hLk⟩ := HP.out
        obtain ⟨c0, c1, c2, c3⟩ := HA.out.cells k hlt
        have hby := HA.out.bytes k hlt
        have hc1 := costs_mono ps (k + 1) len (by omega)
        have hc2 : costs ps (k + 1) = costs ps k + cost (ps k) := rfl
        have hc3 : cost (ps k) = (ps k).bs.length + (if 0 < (ps k).n ∧ (ps k).n ≤ 16777216 then (ps k).n.toNat else 0) := rfl
        have hcc := HCO.out
        obtain rfl : a = some ⟨b, off, none⟩ := HA.out.at_.resolve_right (by omega)
        have hltI : (k : Int) < (len : Int) := by omega
        have hkw := hB0.live.keep
        have d0 := cell_kept hkw c0
        have d1 := cell_kept hkw c1
        have d2 := cell_kept hkw c2
        have d3 := cell_kept hkw c3
        have HST := (show Hid (∀ {W : World} {rv v : Value} {L : List Nat}, Whole w0 W wb lb s rv v L L → L.length ≤ costs ps k + cost (ps k) → At w0 W wb lb s ps (k + 1) v) from fun h1 h2 => ⟨_, _, h1, h2⟩)
        generalize ps k = x at *
        obtain ⟨what, bs, back, n, xa, xcap, xgb, xoff⟩ := x
        dsimp only at c0 c1 c2 c3 d0 d1 d2 d3 hby hc3
        have hbl := hby.len
        have HBY := (show Hid (Bytes w0 xa xcap xgb xoff bs) from hby)
        obtain ⟨T, hT⟩ : ∃ T, T = costs ps k := ⟨_, rfl⟩
        generalize cost _ = C at hc2 hc3 HST
        rw [← hT] at hLk hc2 HST
        have hsum : T + C ≤ 65536 := by omega
        obtain rfl : an = L.length := by
          rcases hB0.own.2 with ⟨e, h0⟩ | ⟨g, c', cur, e, _⟩
          · simp only [Value.slice.injEq] at e; omega
          · simp only [Value.slice.injEq] at e; omega
        clear hby c0 c1 c2 c3 HP hc1 hc2 hcc hT hkw
        obtain ⟨bl, hble⟩ : ∃ bl, bl = bs.length := ⟨_, rfl⟩
        rw [← hble] at d1 hc3
        have hblC : bl ≤ C := by omega
        have HBL := (show Hid (bl = bs.length) from hble)
        clear hble
        obtain ⟨bx, hbx⟩ : ∃ bx, bx = wr.heap.size := ⟨_, rfl⟩
        obtain ⟨W1, hW1⟩ : ∃ W1, W1 = wr.alloc (.cells #[.int .i64 what, .slice xa bl xcap, .int .i64 back, .int .i64 n] 40) := ⟨_, rfl⟩
        have kb : Keep noBlock wr W1 := by rw [hW1]; exact (Keep.refl _ wr).alloc _
        have ob : W1.heap[bx]? = some (.cells #[.int .i64 what, .slice xa bl xcap, .int .i64 back, .int .i64 n] 40 (0, 0)) := by rw [hW1, hbx]; exact alloc_new wr _
        have HBX := (show Hid (Whole w0 W1 wb lb s rv (.slice aa L.length ac) L L ∧ W1.heap[bx]? = some (.cells #[.int .i64 what, .slice xa bl xcap, .int .i64 back, .int .i64 n] 40 (0, 0)) ∧ bx = wr.heap.size) from ⟨hB0.same kb, ob, hbx⟩)
        have HW1 := (show Hid (W1 = wr.alloc (.cells #[.int .i64 what, .slice xa bl xcap, .int .i64 back, .int .i64 n] 40)) from hW1)
        clear kb ob hB0 hW1 hbx
        by_cases hw0 : what = 0
        · subst hw0
          have hBy1 := HBY.out.keep HBX.out.1.live.keep (fun _ h => h)
          have HP := HBX.out.1.live.put hBy1 (fun e => ⟨by have := HBY.out.block e; have := HBX.out.1.live.lo2; omega, fun q => by have := HBY.out.block e; have := HBX.out.1.live.ring _ q; omega⟩)
          rw [lastN_left, ← HBL.out] at HP
          clear hBy1
          go_wp2_with fail
          rw [← HW1.out]
          refine HP.mono ?_
          clear HP
          rintro e W2 ⟨rfl, rv2, hV2, hN2, hK2⟩
          have hWh2 := HBX.out.1.turn1 hV2 hN2 hK2
          obtain ⟨cs, ow⟩ := HBX.out.1.obj
          have ob2 := hK2.obj HBX.out.2.1 (fun e => e.elim (type_ne HBX.out.2.1 ow (by decide)) (HBX.out.1.live.isW.ring_ne HBX.out.2.1 (by decide)))
          have e1 : W2.cell? ⟨bx, 1, none⟩ = some (.slice xa bl xcap) := cell_of ob2 1
          obtain ⟨v3, W3, hr3, own3, k3, n3⟩ := run_append_all W2 38 (.slice aa L.length ac) L bs hWh2.own (by have := HBL.out; omega) (.slice xa bs.length xcap) (HBY.out.keep hWh2.live.keep (fun _ h => h)).src
          have hWh3 := hWh2.turn2 own3 (lt_app hWh2.lt HBY.out.lt) n3 k3
          obtain ⟨va, vn, vc, rfl⟩ : ∃ va vn vc, v3 = .slice va vn vc := by
            rcases own3.2 with ⟨e, _⟩ | ⟨g, c', cur, e, _⟩
            · exact ⟨_, _, _, e⟩
            · exact ⟨_, _, _, e⟩
          have HF := (show Hid (At w0 W3 wb lb s ps (k + 1) (.slice va vn vc)) from HST.out hWh3 (by rw [List.length_append, ← HBL.out]; omega))
          rw [← HBL.out] at hr3
          have hbx := HBX.out.2.2
          rw [← hbx]
          clear hbx own3 k3 n3 hWh2 hWh3 hV2 hN2 hK2 ow ob2
          go_wp2_with (at_builtin; refine wpList_append_run _ rfl _ _ 38 rfl (.slice aa L.length ac) (.slice xa bl xcap) (.slice va vn vc) W3 rfl rfl hr3 ?_)
          go_roundw
          case rel => exact ⟨k + 1, va, vn, vc, by go_num, rfl, by omega, HF.out⟩
          case measure => simp [intOf]; omega
        · have hw0b : (what == 0) = false := by simpa using hw0
          have hw0c : ¬ what = 0 := hw0
          by_cases hgood : 0 ≤ n ∧ n ≤ 16777216 ∧ 1 ≤ back ∧ back ≤ (s : Int) ∧ back ≤ (L.length : Int)
          · obtain ⟨hn0, hn1, hb1, hb2, hb3⟩ := hgood
            obtain ⟨nn, rfl⟩ : ∃ nn : Nat, n = (nn : Int) := ⟨n.toNat, by omega⟩
            obtain ⟨bk, rfl⟩ : ∃ bk : Nat, back = (bk : Int) := ⟨back.toNat, by omega⟩
            have hnC : nn ≤ C := by
              by_cases e : 0 < (nn : Int) ∧ (nn : Int) ≤ 16777216
              · rw [if_pos e] at hc3; omega
              · omega
            have hnB : nn ≤ 65536 := by omega
            have hll := lastN_length s L
            have hout := outL_last s L bk nn (by omega) (by omega)
            have HC := HBX.out.1.live.copy bk nn (by omega) (by omega) (by omega)
            rw [hout, lastN_left] at HC
            have hg0 := HBX.out.1.live.keep.size
            have hvg : (Value.slice aa L.length ac).ownBlock ≠ some W1.heap.size := fun e => absurd (owns_lt HBX.out.1.own e) (Nat.lt_irrefl _)
            generalize W1.heap.size = g at HC hg0 hvg
            have HX := (show Hid (w0.heap.size ≤ g ∧ nn ≤ C ∧ (Value.slice aa L.length ac).ownBlock ≠ some g) from ⟨hg0, hnC, hvg⟩)
            clear hg0 hnC hc3 hout hll hvg
            go_wp2_with fail
            rw [← HW1.out]
            refine HC.mono ?_
            clear HC
            rintro e W2 ⟨rfl, hz2, rv2, hV2, hN2, hne2, hK2⟩
            have hWh2 := HBX.out.1.turn1 hV2 hN2 hK2
            obtain ⟨cs, ow⟩ := HBX.out.1.obj
            have ob2 := hK2.obj HBX.out.2.1 (fun e => e.elim (type_ne HBX.out.2.1 ow (by decide)) (HBX.out.1.live.isW.ring_ne HBX.out.2.1 (by decide)))
            have e2 : W2.cell? ⟨bx, 2, none⟩ = some (.int .i64 (bk : Int)) := cell_of ob2 2
            have e3 : W2.cell? ⟨bx, 3, none⟩ = some (.int .i64 (nn : Int)) := cell_of ob2 3
            have HH := (show Hid (Held w0 W2 wb lb s rv2 (.slice aa L.length ac) L bk nn g 0 ∧ W2.heap[bx]? = some (.cells #[.int .i64 what, .slice xa bl xcap, .int .i64 (bk : Int), .int .i64 (nn : Int)] 40 (0, 0))) from ⟨⟨by simpa [outL] using hWh2, hz2, HX.out.2.2⟩, ob2⟩)
            have hbx := HBX.out.2.2
            rw [← hbx]
            clear hbx hWh2 ow ob2 hz2 hV2 hN2 hne2 hK2
            go_wp2_with fail
            go_loopw [7, 13] (fun va v wr' => ∃ (j : Nat) (aj : Option Addr) (cj N : Nat), v = .int .i64 (j : Int) ∧ va = .slice aj N cj ∧ N = L.length + j ∧ j ≤ nn ∧ Hid (Held w0 wr' wb lb s rv2 (.slice aj N cj) L bk nn g j ∧ wr'.heap[bx]? = some (.cells #[.int .i64 what, .slice xa bl xcap, .int .i64 (bk : Int), .int .i64 (nn : Int)] 40 (0, 0)))) (fun _ v _ => nn - (intOf v).toNat)
            case atStart => exact ⟨0, aa, ac, L.length, rfl, rfl, rfl, Nat.zero_le _, HH.out⟩
            case round =>
              clear HH e2 e3
              obtain ⟨j, aj, cj, N, rfl, rfl, hN, hj, HH⟩ := hrel
              by_cases hlt2 : j < nn
              · have hol := outL_length L bk j
                have hML : (L ++ outL L bk j).length = L.length + j := by rw [List.length_append, hol]
                obtain ⟨a1, cap1, ga, hbv1, hB1, -⟩ := bytes_own HH.out.1.whole.own HH.out.1.whole.lt (by omega)
                simp only [Value.slice.injEq] at hbv1
                obtain ⟨rfl, -, rfl⟩ := hbv1
                have hnx := outL_next L bk j (by omega) (by omega)
                have hsucc := outL_succ L bk j
                have hxb : wr.cell? ⟨g, j, none⟩ = some (.int .u8 (((outL L bk nn)[j]?.getD 0 : Nat) : Int)) := by
                  rw [cell_of HH.out.1.row j, List.getElem?_toArray]
                  exact u8s_at _ j (by rw [outL_length]; exact hlt2)
                rw [outL_at L bk nn j hlt2] at hxb
                obtain ⟨p, hp⟩ : ∃ p, p = L.length + j - bk := ⟨_, rfl⟩
                have hcell := hB1.cells p (by omega)
                rw [Nat.zero_add, hp, hnx, ← hp] at hcell
                have hltx : L[L.length - bk + j % bk]?.getD 0 < 256 := HBX.out.1.lt _
                generalize L[L.length - bk + j % bk]?.getD 0 = x at hcell hsucc hltx hxb
                obtain rfl : aj = some ⟨ga, 0, none⟩ := hB1.at_.resolve_right (by intro e; rw [e] at hML; simp at hML; omega)
                have hsub : (N : Int) - (bk : Int) = (p : Int) := by omega
                have hpI : (p : Int) < (N : Int) := by omega
                have hpN : p < N := by omega
                have hjI : (j : Int) < (nn : Int) := by omega
                have e2 : wr.cell? ⟨bx, 2, none⟩ = some (.int .i64 (bk : Int)) := cell_of HH.out.2 2
                have hN2 : N ≤ 131072 := by omega
                have HS := (show Hid (outL L bk (j + 1) = outL L bk j ++ [x] ∧ (L ++ outL L bk j).length = N ∧ N = L.length + j ∧ x < 256) from ⟨hsucc, by omega, hN, hltx⟩)
                clear hB1 hnx hsucc hp hol hML hltx hN
                go_wp2_with fail
                go_quiet (fail)
                have kq : Keep noBlock wr (wr.drewN nq) := keep_drewN wr nq
                have hxq : (wr.drewN nq).cell? ⟨g, j, none⟩ = some (.int .u8 (x : Int)) := hxb
                have HHq := (show Hid (Held w0 (wr.drewN nq) wb lb s rv2 (.slice (some ⟨ga, 0, none⟩) N cj) L bk nn g j ∧ (wr.drewN nq).heap[bx]? = some (.cells #[.int .i64 what, .slice xa bl xcap, .int .i64 (bk : Int), .int .i64 (nn : Int)] 40 (0, 0))) from ⟨⟨HH.out.1.whole.same kq, HH.out.1.row, HH.out.1.ne⟩, HH.out.2⟩)
                clear HH hxb hcell e2 kq hsub hpI hpN
                generalize wr.drewN nq = Wq at hxq HHq ⊢
                have k5 : Keep noBlock Wq (Wq.alloc (.cells #[.int .u8 (x : Int)] 5)) := (Keep.refl _ Wq).alloc _
                have r5 : (Wq.alloc (.cells #[.int .u8 (x : Int)] 5)).heap[Wq.heap.size]? = some (.cells (u8s [x]).toArray 5 (0, 0)) := alloc_new Wq _
                have hWh5 := HHq.out.1.whole.same k5
                have hs1 : SrcB (Wq.alloc (.cells #[.int .u8 (x : Int)] 5)) (.slice (some ⟨Wq.heap.size, 0, none⟩) 1 1) [x] := by
                  refine .inr ⟨⟨Wq.heap.size, 0, none⟩, 1, rfl, fun i u hu => ?_⟩
                  rw [add0, cell_of r5 i, List.getElem?_toArray]; exact hu
                obtain ⟨v6, W6, hr6, own6, k6, n6⟩ := run_append_all (Wq.alloc (.cells #[.int .u8 (x : Int)] 5)) 38 (.slice (some ⟨ga, 0, none⟩) N cj) (L ++ outL L bk j) [x] hWh5.own (by rw [HS.out.2.1]; simp; omega) _ hs1
                have hlx : ∀ i : Nat, [x][i]?.getD 0 < 256 := by intro i; cases i with | zero => exact HS.out.2.2.2 | succ i => simp
                have hWh6 := hWh5.turn2 own6 (lt_app hWh5.lt hlx) n6 k6
                rw [List.append_assoc, ← HS.out.1] at hWh6
                have hrow6 := k6.obj (k5.obj HHq.out.1.row (fun h => h)) HHq.out.1.ne
                have hbox6 := k6.obj (k5.obj HHq.out.2 (fun h => h)) (owns_ne hWh5.own (k5.obj HHq.out.2 (fun h => h)) (by decide))
                have hne6 : v6.ownBlock ≠ some g := by
                  rcases n6 with e | ⟨k', e, hk'⟩
                  · rw [e]; exact HHq.out.1.ne
                  · rw [e]
                    intro q
                    have : k' = g := by simpa using q
                    have := obj_lt HHq.out.1.row
                    simp at hk'
                    omega
                obtain ⟨va, vc, rfl⟩ : ∃ va vc, v6 = .slice va (N + 1) vc := by
                  have hl6 : (L ++ outL L bk j ++ [x]).length = N + 1 := by rw [List.length_append, HS.out.2.1]; rfl
                  rcases own6.2 with ⟨e, h0⟩ | ⟨g', c', cur, e, _⟩
                  · rw [hl6] at h0; omega
                  · rw [hl6] at e; exact ⟨_, _, e⟩
                have HF := (show Hid (Held w0 W6 wb lb s rv2 (.slice va (N + 1) vc) L bk nn g (j + 1) ∧ W6.heap[bx]? = some (.cells #[.int .i64 what, .slice xa bl xcap, .int .i64 (bk : Int), .int .i64 (nn : Int)] 40 (0, 0))) from ⟨⟨hWh6, hrow6, hne6⟩, hbox6⟩)
                clear k5 r5 hWh5 hs1 own6 k6 n6 hlx hWh6 hrow6 hbox6 hne6
                go_wp2_with (at_builtin; refine wpList_append_run _ rfl _ _ 38 rfl (.slice (some ⟨ga, 0, none⟩) N cj) (.slice (some ⟨Wq.heap.size, 0, none⟩) 1 1) (.slice va (N + 1) vc) W6 rfl rfl hr6 ?_)
                go_roundw
                case rel => exact ⟨j + 1, va, vc, N + 1, by go_num, rfl, by have := HS.out.2.2.1; omega, by omega, HF.out⟩
                case measure => simp [intOf]; omega
              · obtain rfl : j = nn := by omega
                have hWh := HH.out.1.whole
                have HF := (show Hid (At w0 wr wb lb s ps (k + 1) (.slice aj N cj)) from HST.out hWh (by rw [List.length_append, outL_length]; have := HX.out.2.1; omega))
                clear hWh HH
                go_wp2_with fail
                go_roundw
                case rel => exact ⟨k + 1, aj, N, cj, by go_num, rfl, by omega, HF.out⟩
                case measure => simp [intOf]; omega
          · have hll := lastN_length s L
            by_cases hn0 : 0 ≤ n
            · by_cases hn1 : n ≤ 16777216
              · have hn0' : ¬ n < 0 := by omega
                have hn1' : ¬ 16777216 < n := by omega
                by_cases hb1 : 1 ≤ back
                · by_cases hb2 : back ≤ (s : Int)
                  · have hb3 : ¬ back ≤ (L.length : Int) := fun e => hgood ⟨hn0, hn1, hb1, hb2, e⟩
                    have HC := copy_far wb lb s rv (lastN s L) back n W1 HBX.out.1.live.isW hn0' hn1' (by omega)
                    clear hgood hc3 hll hn0' hn1'
                    go_wp2_with fail
                    rw [← HW1.out]
                    refine HC.mono ?_
                    clear HC
                    rintro e W2 ⟨rfl, rfl⟩
                    have e2 : W2.cell? ⟨bx, 2, none⟩ = some (.int .i64 back) := cell_of HBX.out.2.1 2
                    have e3 : W2.cell? ⟨bx, 3, none⟩ = some (.int .i64 n) := cell_of HBX.out.2.1 3
                    have hbx := HBX.out.2.2
                    rw [← hbx]
                    clear hbx
                    go_wp2_with fail
                    go_loopw [7, 13] (fun va v wr' => va = .slice aa L.length ac ∧ v = .int .i64 0 ∧ wr' = W2) (fun _ _ _ => 0)
                    case atStart => exact ⟨rfl, rfl, rfl⟩
                    case round =>
                      obtain ⟨rfl, rfl, rfl⟩ := hrel
                      go_wp2_with fail
                      go_roundw
                      case rel => exact ⟨k + 1, aa, L.length, ac, by go_num, rfl, by omega, HST.out HBX.out.1 (by omega)⟩
                      case measure => simp [intOf]; omega
                  · have HC := copy_far wb lb s rv (lastN s L) back n W1 HBX.out.1.live.isW hn0' hn1' (by omega)
                    clear hgood hc3 hll hn0' hn1'
                    go_wp2_with fail
                    rw [← HW1.out]
                    refine HC.mono ?_
                    clear HC
                    rintro e W2 ⟨rfl, rfl⟩
                    have e2 : W2.cell? ⟨bx, 2, none⟩ = some (.int .i64 back) := cell_of HBX.out.2.1 2
                    have e3 : W2.cell? ⟨bx, 3, none⟩ = some (.int .i64 n) := cell_of HBX.out.2.1 3
                    have hbx := HBX.out.2.2
                    rw [← hbx]
                    clear hbx
                    go_wp2_with fail
                    go_loopw [7, 13] (fun va v wr' => va = .slice aa L.length ac ∧ v = .int .i64 0 ∧ wr' = W2) (fun _ _ _ => 0)
                    case atStart => exact ⟨rfl, rfl, rfl⟩
                    case round =>
                      obtain ⟨rfl, rfl, rfl⟩ := hrel
                      go_wp2_with fail
                      go_roundw
                      case rel => exact ⟨k + 1, aa, L.length, ac, by go_num, rfl, by omega, HST.out HBX.out.1 (by omega)⟩
                      case measure => simp [intOf]; omega
                · have HC := copy_far wb lb s rv (lastN s L) back n W1 HBX.out.1.live.isW hn0' hn1' (by omega)
                  clear hgood hc3 hll hn0' hn1'
                  go_wp2_with fail
                  rw [← HW1.out]
                  refine HC.mono ?_
                  clear HC
                  rintro e W2 ⟨rfl, rfl⟩
                  have e2 : W2.cell? ⟨bx, 2, none⟩ = some (.int .i64 back) := cell_of HBX.out.2.1 2
                  have e3 : W2.cell? ⟨bx, 3, none⟩ = some (.int .i64 n) := cell_of HBX.out.2.1 3
                  have hbx := HBX.out.2.2
                  rw [← hbx]
                  clear hbx
                  go_wp2_with fail
                  go_loopw [7, 13] (fun va v wr' => va = .slice aa L.length ac ∧ v = .int .i64 0 ∧ wr' = W2) (fun _ _ _ => 0)
                  case atStart => exact ⟨rfl, rfl, rfl⟩
                  case round =>
                    obtain ⟨rfl, rfl, rfl⟩ := hrel
                    go_wp2_with fail
                    go_roundw
                    case rel => exact ⟨k + 1, aa, L.length, ac, by go_num, rfl, by omega, HST.out HBX.out.1 (by omega)⟩
                    case measure => simp [intOf]; omega
              · have HC := copy_arg wb lb s rv (lastN s L) back n W1 HBX.out.1.live.isW (.inr (by omega))
                clear hgood hc3 hll
                go_wp2_with fail
                rw [← HW1.out]
                refine HC.mono ?_
                clear HC
                rintro e W2 ⟨rfl, rfl⟩
                have e2 : W2.cell? ⟨bx, 2, none⟩ = some (.int .i64 back) := cell_of HBX.out.2.1 2
                have e3 : W2.cell? ⟨bx, 3, none⟩ = some (.int .i64 n) := cell_of HBX.out.2.1 3
                have hbx := HBX.out.2.2
                rw [← hbx]
                clear hbx
                go_wp2_with fail
                go_loopw [7, 13] (fun va v wr' => va = .slice aa L.length ac ∧ v = .int .i64 0 ∧ wr' = W2) (fun _ _ _ => 0)
                case atStart => exact ⟨rfl, rfl, rfl⟩
                case round =>
                  obtain ⟨rfl, rfl, rfl⟩ := hrel
                  go_wp2_with fail
                  go_roundw
                  case rel => exact ⟨k + 1, aa, L.length, ac, by go_num, rfl, by omega, HST.out HBX.out.1 (by omega)⟩
                  case measure => simp [intOf]; omega
            · have HC := copy_arg wb lb s rv (lastN s L) back n W1 HBX.out.1.live.isW (.inl (by omega))
              clear hgood hc3 hll
              go_wp2_with fail
              rw [← HW1.out]
              refine HC.mono ?_
              clear HC
              rintro e W2 ⟨rfl, rfl⟩
              have e2 : W2.cell? ⟨bx, 2, none⟩ = some (.int .i64 back) := cell_of HBX.out.2.1 2
              have e3 : W2.cell? ⟨bx, 3, none⟩ = some (.int .i64 n) := cell_of HBX.out.2.1 3
              have hbx := HBX.out.2.2
              rw [← hbx]
              clear hbx
              go_wp2_with fail
              go_loopw [7, 13] (fun va v wr' => va = .slice aa L.length ac ∧ v = .int .i64 0 ∧ wr' = W2) (fun _ _ _ => 0)
              case atStart => exact ⟨rfl, rfl, rfl⟩
              case round =>
                obtain ⟨rfl, rfl, rfl⟩ := hrel
                go_wp2_with fail
                go_roundw
                case rel => exact ⟨k + 1, aa, L.length, ac, by go_num, rfl, by omega, HST.out HBX.out.1 (by omega)⟩
                case measure => simp [intOf]; omega
      · obtain rfl : k = len := by omega
        have hkw : Keep noBlock w0 wr := by obtain ⟨rv, L, hB0, -⟩ := HP.out; exact hB0.live.keep
        clear HP
        go_wp2_with fail
        refine (wakes_any _).mono ?_
        rintro e w5 ⟨rfl, hk5⟩
        go_wp2_with fail
        go_ret
        exact ⟨rfl, hkw.trans' hk5⟩
  · have HN := new_arg size (.pointer (some ⟨lb, 0, none⟩)) w1 hsz
    go_wp2_with fail
    refine HN.mono ?_
    rintro e w3 ⟨rfl, rfl⟩
    clear HN
    by_cases h1 : size < 1
    · clear hsz
      go_wp2_with fail
      refine (wakes_any _).mono ?_
      rintro e w6 ⟨rfl, hk6⟩
      go_wp2_with fail
      go_ret
      exact ⟨rfl, HB.out.2.1.trans' hk6⟩
    · have h2 : 16777216 < size := by omega
      clear hsz
      go_wp2_with fail
      refine (wakes_any _).mono ?_
      rintro e w6 ⟨rfl, hk6⟩
      go_wp2_with fail
      go_ret
      exact ⟨rfl, HB.out.2.1.trans' hk6⟩
end
end WholeLaw
end Go.Proofs.Ytpjbegafhgnebaa
