/-
  WindowPlays, the walk: the program's window and the document's go side by side.
-/
import Derived.Test.YtpjbegafhgnebaaBoth
import Derived.Test.YtpjbegafhgnebaaGreat
import Derived.Test.YtpjbegafhgnebaaWakes
namespace Go.Proofs.Ytpjbegafhgnebaa
open Go.RowKit Go.Shelf
set_option linter.unusedVariables false

theorem cell_kept {w W : World} (h : Keep noBlock w W) {b o : Nat} {v : Value} (hc : w.cell? ⟨b, o, none⟩ = some v) : W.cell? ⟨b, o, none⟩ = some v :=
  (World.cell?_of_block (a := ⟨b, o, none⟩) (h.block b (World.block_lt_of_cell? w _ hc) (fun h => h))).trans hc
theorem costs_mono (ps : Nat → ActD) (j k : Nat) (h : j ≤ k) : costs ps j ≤ costs ps k := by
  induction k with
  | zero => obtain rfl : j = 0 := by omega
            exact Nat.le_refl _
  | succ k ih =>
    rcases Nat.lt_or_ge j (k + 1) with e | e
    · exact Nat.le_trans (ih (by omega)) (Nat.le_add_right _ _)
    · obtain rfl : j = k + 1 := by omega
      exact Nat.le_refl _

/-- append onto an empty slice that was just made, from whatever slice of bytes. -/
theorem run_append_new (w : World) (ty : TypeId) (H : Nat) (hH : w.heap[H]? = some (.cells #[] 5 (0, 0))) (sv : Value) (bs : List Nat) (hlen : bs.length ≤ 140737488351232) (h : SrcB w sv bs) :
    ∃ g cap w', (Builtin.append_ #[38, 38] ty #[.slice (some ⟨H, 0, none⟩) 0 0, sv]).run Try.prog w = .ok (.slice (some ⟨g, 0, none⟩) bs.length cap) w' ∧ w'.ownsRow 0 5 1 (.slice (some ⟨g, 0, none⟩) bs.length cap) bs.length (u8s bs) ∧ Keep (fun k => k = H) w w' ∧ (g = H ∨ w.heap.size ≤ g) := by
  obtain ⟨i0, hi, hz0, hz1, hz2⟩ := info_parts info5
  have hown : w.ownsRow 0 5 1 (.slice (some ⟨H, 0, none⟩) 0 0) 0 [] := ⟨by simp, .inr ⟨H, 0, #[], rfl, Nat.zero_le _, hH, Nat.le_refl _, Nat.zero_le _, rfl, rfl⟩⟩
  rcases h with ⟨rfl, rfl⟩ | ⟨a, c, rfl, hc⟩
  · refine ⟨H, 0, w, ?_, by simpa [u8s] using hown, Keep.refl _ _, .inl rfl⟩
    simp [Builtin.append_, run_underlying Try.underlying38, sizeOf, typeInfo, hi, Builtin.lenOf, go_sem]
  · obtain ⟨v', w', hr, h2, h3, h4, h5⟩ := run_append_own_at (P := Try.prog) w 0 38 ty 5 i0 (.int .u8 0) 1 1 Try.underlying38 hi hz0 hz1 hz2 rfl (by decide) (.slice (some ⟨H, 0, none⟩) 0 0) 0 [] hown a bs.length c (u8s bs) (by simp [u8s_length]) hc (u8s_one bs) (by unfold maxLen; omega) (by omega) (Nat.zero_le _)
    rw [Nat.zero_add, List.nil_append] at h2
    rcases h2.2 with ⟨rfl, _⟩ | ⟨g, cap, cur, rfl, hb, hg, hrest⟩
    · simp at h4
    · refine ⟨g, cap, w', hr, h2, (Keep.refl _ w).grown h3 (fun k e _ => by simpa [Value.ownBlock] using e.symm), ?_⟩
      rcases h5 with e | e
      · exact .inl (by simpa [Value.ownBlock] using e)
      · right
        have : g = w.heap.size := by simpa [Value.ownBlock] using e
        omega

/-- A row of n bytes that is turned byte by byte. -/
structure Flip (W W' : World) (g n : Nat) : Prop where
  row : ∃ cur, W'.heap[g]? = some (.cells cur 5 (0, 0)) ∧ n ≤ cur.size ∧ ∀ j, j < n → ∃ y : Nat, y < 256 ∧ cur[j]? = some (.int .u8 (y : Int))
  keep : Keep (fun k => k = g) W W'
theorem not_u8 (y : Nat) (hy : y < 256) : bits .xor .u8 IntKind.u8.max (y : Int) = ((255 ^^^ y : Nat) : Int) := by
  have h := u8_xor_nat 255 y (by decide) hy
  rw [← h]
  rfl
theorem Flip.step {W W' : World} {g n : Nat} (h : Flip W W' g n) (j : Nat) (hj : j < n) :
    ∃ y z : Nat, W'.cell? ⟨g, j, none⟩ = some (.int .u8 (y : Int)) ∧ W'.frozen? ⟨g, j, none⟩ = false ∧ bits .xor .u8 (if IntKind.u8.signed = true then -1 else IntKind.u8.max) (y : Int) = (z : Int) ∧ Flip W (W'.setCell ⟨g, j, none⟩ (.int .u8 (z : Int))) g n := by
  obtain ⟨cur, hc, hs, hy⟩ := h.row
  obtain ⟨y, hy1, hy2⟩ := hy j hj
  refine ⟨y, 255 ^^^ y, (cell_of hc j).trans hy2, frozen_of hc j, not_u8 y hy1, ⟨cur.setIfInBounds j (.int .u8 ((255 ^^^ y : Nat) : Int)), set_obj hc j _, by simpa using hs, fun i hi => ?_⟩, h.keep.setCell (p := ⟨g, j, none⟩) (fun _ => rfl) _⟩
  by_cases e : j = i
  · subst e
    exact ⟨255 ^^^ y, Nat.xor_lt_two_pow (n := 8) (by decide) hy1, by rw [Array.getElem?_setIfInBounds, if_pos rfl, if_pos (by omega)]⟩
  · obtain ⟨y2, q1, q2⟩ := hy i hi
    exact ⟨y2, q1, by rw [Array.getElem?_setIfInBounds_ne e]; exact q2⟩
theorem flip_own {W W' : World} {S : Nat → Prop} {g cap : Nat} {bs : List Nat} (h : W.ownsRow 0 5 1 (.slice (some ⟨g, 0, none⟩) bs.length cap) bs.length (u8s bs)) (hlt : ∀ j : Nat, bs[j]?.getD 0 < 256) (hk : Keep S W W') (hS : ¬ S g) : Flip W' W' g bs.length := by
  rcases h.2 with ⟨e, _⟩ | ⟨g', cap', cur, e, _, hg, h1, _, h3, h4⟩
  · cases e
  · simp only [Value.slice.injEq, Option.some.injEq, Addr.mk.injEq] at e
    obtain ⟨⟨rfl, _⟩, _, rfl⟩ := e
    refine ⟨⟨cur, hk.obj hg hS, by omega, fun j hj => ⟨bs[j]?.getD 0, hlt j, ?_⟩⟩, Keep.refl _ _⟩
    have := u8s_at bs j hj
    rw [← h4, List.getElem?_take, if_pos (by omega)] at this
    simpa using this
theorem flip_row {W : World} {g : Nat} {bs : List Nat} (h : W.heap[g]? = some (.cells (u8s bs).toArray 5 (0, 0))) (hlt : ∀ j : Nat, bs[j]?.getD 0 < 256) : Flip W W g bs.length :=
  ⟨⟨_, h, by simp [u8s_length], fun j hj => ⟨bs[j]?.getD 0, hlt j, by rw [List.getElem?_toArray]; exact u8s_at bs j hj⟩⟩, Keep.refl _ _⟩

theorem Both.new_ne {w W : World} {wb lb vb qb s B : Nat} {d : Bool} {rv bv : Value} {Lw Lv : List Nat} (h : Both w W wb lb vb qb s B d rv bv Lw Lv) {g : Nat} (hg : W.heap.size ≤ g) : g ≠ wb ∧ (d = false → rv.ownBlock ≠ some g ∧ bv.ownBlock ≠ some g) := by
  obtain ⟨⟨_, o1⟩, _⟩ := h.objs
  refine ⟨fun e => by have := obj_lt o1; omega, fun hd => ?_⟩
  subst hd
  have h : Pair w W wb lb vb qb s B rv bv Lw Lv := h
  exact ⟨fun e => by have := h.live.isW.ring_lt e; omega, fun e => by have := h.isV.ring_lt e; omega⟩
theorem Both.box_ne {w W : World} {wb lb vb qb s B : Nat} {d : Bool} {rv bv : Value} {Lw Lv : List Nat} (h : Both w W wb lb vb qb s B d rv bv Lw Lv) {bx : Nat} {cs : Array Value} (hb : W.heap[bx]? = some (.cells cs 40 (0, 0))) : bx ≠ wb ∧ (d = false → rv.ownBlock ≠ some bx ∧ bv.ownBlock ≠ some bx) := by
  obtain ⟨⟨_, o1⟩, _⟩ := h.objs
  refine ⟨type_ne hb o1 (by decide), fun hd => ?_⟩
  subst hd
  have h : Pair w W wb lb vb qb s B rv bv Lw Lv := h
  exact ⟨h.live.isW.ring_ne hb (by decide), owns_ne h.isV.own hb (by decide)⟩
/-- Bytes in memory of one's own. -/
theorem bytes_of_owns {w : World} {g cap : Nat} {bs : List Nat} (h : w.ownsRow 0 5 1 (.slice (some ⟨g, 0, none⟩) bs.length cap) bs.length (u8s bs)) (hlt : ∀ j : Nat, bs[j]?.getD 0 < 256) (hl : bs.length < 2 ^ 48) : Bytes w (some ⟨g, 0, none⟩) cap g 0 bs ∧ ∃ cur, w.heap[g]? = some (.cells cur 5 (0, 0)) := by
  obtain ⟨a, c, g', e, hB, hr⟩ := bytes_own h hlt hl
  simp only [Value.slice.injEq, true_and] at e
  obtain ⟨rfl, rfl⟩ := e
  obtain ⟨e, cur, hg, -⟩ := hr.resolve_left (fun e => by cases e.1)
  cases e
  exact ⟨hB, cur, hg⟩

/-- Where the walk stands when k acts are over. -/
def At (w W : World) (wb lb vb qb s B : Nat) (ps : Nat → ActD) (k : Nat) : Prop :=
  ∃ d rv bv L, Both w W wb lb vb qb s B d rv bv L L ∧ L.length ≤ costs ps k

section
set_option maxRecDepth 100000 in
set_option maxHeartbeats 8000000 in
theorem plays_walk (size bud : Int) (a : Option Addr) (len cap b off : Nat) (ps : Nat → ActD) (w : World) (h : Acts w a len b off ps) (hl : len < 2 ^ 60) :
    Calls Try.prog 3 #[.int .i64 size, .int .i64 bud, .slice a len cap] w fun e w' => e = .returned (.bool true) ∧ Keep noBlock w w' := by
  have HA := (show Hid (Acts w a len b off ps) from h)
  have HGr := great_any a len cap b off ps w h hl
  clear h
  go_enter Try.func3, Try.ntmps3
  go_wp2_with fail
  refine HGr.mono ?_
  clear HGr
  rintro e w0 ⟨rfl, rfl | ⟨rfl, hl2, hco⟩⟩
  · go_wp2_with fail
    refine (wakes_any _).mono ?_
    rintro e w1 ⟨rfl, hk⟩
    go_wp2_with fail
    go_ret
    exact ⟨rfl, hk⟩
  have HCO := (show Hid (costs ps len ≤ 65536) from hco)
  clear hco
  go_wp2_with fail
  refine (new_any bud w0).mono ?_
  rintro e w1 ⟨rfl, hL1, k1⟩
  go_wp2_with fail
  refine (newQ_any bud w1).mono ?_
  rintro e w2 ⟨rfl, hQ2, k2⟩
  generalize budget bud = B at hL1 hQ2
  have hlq : w0.heap.size < w1.heap.size := obj_lt hL1.obj
  have hL2 := hL1.keep k2 (fun h => h)
  have k02 := k1.trans' k2
  obtain ⟨lb, hlb⟩ : ∃ lb, lb = w0.heap.size := ⟨_, rfl⟩
  obtain ⟨qb, hqb⟩ : ∃ qb, qb = w1.heap.size := ⟨_, rfl⟩
  rw [← hlb] at hL2 ⊢
  rw [← hqb] at hQ2 ⊢
  have HB := (show Hid (IsL w2 lb B 0 0 ∧ IsQ w2 qb B 0 0 ∧ Keep noBlock w0 w2 ∧ w0.heap.size ≤ lb ∧ lb < qb) from ⟨hL2, hQ2, k02, by omega, by omega⟩)
  clear hL1 hL2 hQ2 k1 k2 k02 hlq hlb hqb
  by_cases hsz : 1 ≤ size ∧ size ≤ 16777216
  · obtain ⟨s, rfl⟩ : ∃ s : Nat, size = (s : Int) := ⟨size.toNat, by omega⟩
    have hs1 : 1 ≤ s := by omega
    have hs2 : s ≤ 16777216 := by omega
    clear hsz
    by_cases hB : s ≤ B
    · go_wp2_with fail
      refine (live_new (w := w0) s lb B 0 0 hs1 hs2 HB.out.1 (by omega) HB.out.2.2.1 HB.out.2.2.2.1).mono ?_
      rintro e w3 ⟨wb, rfl, hwb, hV3, k3⟩
      rw [Nat.zero_add, Nat.max_zero] at hV3
      have hQ3 := HB.out.2.1.keep k3 (by have := HB.out.2.2.2.2; omega)
      have HV3 := (show Hid (Live w0 w3 wb lb s (.slice none 0 0) [] B s s) from hV3)
      clear hV3 k3
      go_wp2_with fail
      refine (newV_ok s qb B 0 0 w3 hs1 hs2 hQ3 (by omega)).mono ?_
      rintro e w4 ⟨vb, rfl, hvb, hV4, hQ4, k4⟩
      rw [Nat.zero_add, Nat.max_zero] at hQ4
      have hP : At w0 w4 wb lb vb qb s B ps 0 := by
        obtain ⟨cs, ow⟩ := HV3.out.isW.obj
        have hsz := HV3.out.keep.size
        have hq0 := HB.out.2.2.2
        exact ⟨false, .slice none 0 0, .slice none 0 0, [], ⟨by rw [show lastN s [] = [] from by simp [lastN]]; exact HV3.out.kept k4 (type_ne ow hQ3.obj (by decide)) (by omega) (fun g hg => by cases hg) (fun i hi e => by omega), hV4, hQ4, by omega, by omega, (fun g hg => by cases hg), (fun g hg => by cases hg)⟩, Nat.zero_le _⟩
      have HP := (show Hid (At w0 w4 wb lb vb qb s B ps 0) from hP)
      clear hP hV4 hQ4 k4 hQ3 HV3 HB hvb hwb
      go_wp2_with fail
      go_loopw [15] (fun v wr => ∃ k : Nat, v = .int .i64 (k : Int) ∧ k ≤ len ∧ Hid (At w0 wr wb lb vb qb s B ps k)) (fun v _ => len - (intOf v).toNat)
      case atStart => exact ⟨0, rfl, Nat.zero_le _, HP.out⟩
      case round =>
        clear HP
        obtain ⟨k, rfl, hk, HP⟩ := hrel
        by_cases hlt : k < len
        · obtain ⟨d, rv, bv, L, hB0, hLk⟩ := HP.out
          obtain ⟨c0, c1, c2, c3⟩ := HA.out.cells k hlt
          have hby := HA.out.bytes k hlt
          have hc1 := costs_mono ps (k + 1) len (by omega)
          have hc2 : costs ps (k + 1) = costs ps k + cost (ps k) := rfl
          have hc3 : cost (ps k) = (ps k).bs.length + (if 0 < (ps k).n ∧ (ps k).n ≤ 16777216 then (ps k).n.toNat else 0) := rfl
          have hcc := HCO.out
          obtain rfl : a = some ⟨b, off, none⟩ := HA.out.at_.resolve_right (by omega)
          have hltI : (k : Int) < (len : Int) := by omega
          have hkw := hB0.keep
          have d0 := cell_kept hkw c0
          have d1 := cell_kept hkw c1
          have d2 := cell_kept hkw c2
          have d3 := cell_kept hkw c3
          have hst : ∀ {W : World} {d : Bool} {rv bv : Value} {L : List Nat}, Both w0 W wb lb vb qb s B d rv bv L L → L.length ≤ costs ps k + cost (ps k) → At w0 W wb lb vb qb s B ps (k + 1) := fun h1 h2 => ⟨_, _, _, _, h1, h2⟩
          have HST := (show Hid (∀ {W : World} {d : Bool} {rv bv : Value} {L : List Nat}, Both w0 W wb lb vb qb s B d rv bv L L → L.length ≤ costs ps k + cost (ps k) → At w0 W wb lb vb qb s B ps (k + 1)) from hst)
          clear hst
          generalize ps k = x at *
          obtain ⟨what, bs, back, n, xa, xcap, xgb, xoff⟩ := x
          dsimp only at c0 c1 c2 c3 d0 d1 d2 d3 hby hc3
          have hbl := hby.len
          have HBY := (show Hid (Bytes w0 xa xcap xgb xoff bs) from hby)
          have HB0 := (show Hid (Both w0 wr wb lb vb qb s B d rv bv L L) from hB0)
          obtain ⟨T, hT⟩ : ∃ T, T = costs ps k := ⟨_, rfl⟩
          generalize cost _ = C at hc2 hc3 HST
          rw [← hT] at hLk hc2 HST
          have hsum : T + C ≤ 65536 := by omega
          clear hB0 hby c0 c1 c2 c3 HP hc1 hc2 hcc hT hkw
          obtain ⟨bl, hble⟩ : ∃ bl, bl = bs.length := ⟨_, rfl⟩
          rw [← hble] at d1 hc3
          have hblC : bl ≤ C := by omega
          have HBL := (show Hid (bl = bs.length) from hble)
          clear hble
          obtain ⟨bx, hbx⟩ : ∃ bx, bx = wr.heap.size := ⟨_, rfl⟩
          obtain ⟨W1, hW1⟩ : ∃ W1, W1 = wr.alloc (.cells #[.int .i64 what, .slice xa bl xcap, .int .i64 back, .int .i64 n] 40) := ⟨_, rfl⟩
          have kb : Keep noBlock wr W1 := by rw [hW1]; exact (Keep.refl _ wr).alloc _
          have ob : W1.heap[bx]? = some (.cells #[.int .i64 what, .slice xa bl xcap, .int .i64 back, .int .i64 n] 40 (0, 0)) := by rw [hW1, hbx]; exact alloc_new wr _
          have hBW1 := HB0.out.same kb
          have HBX := (show Hid (Both w0 W1 wb lb vb qb s B d rv bv L L ∧ W1.heap[bx]? = some (.cells #[.int .i64 what, .slice xa bl xcap, .int .i64 back, .int .i64 n] 40 (0, 0)) ∧ bx = wr.heap.size ∧ W1.heap.size = wr.heap.size + 1) from ⟨hBW1, ob, hbx, by rw [hW1]; simp⟩)
          have HW1 := (show Hid (W1 = wr.alloc (.cells #[.int .i64 what, .slice xa bl xcap, .int .i64 back, .int .i64 n] 40)) from hW1)
          clear kb ob hBW1 HB0 hW1 hbx
          by_cases hw0 : what = 0
          · subst hw0
            have kA : Keep noBlock W1 (W1.alloc (.cells #[] 5)) := (Keep.refl _ W1).alloc _
            have hHz : (W1.alloc (.cells #[] 5)).heap[W1.heap.size]? = some (.cells #[] 5 (0, 0)) := alloc_new W1 _
            have hB2 := HBX.out.1.same kA
            obtain ⟨g, cp, W3, hr3, own3, k3, hg3⟩ := run_append_new (W1.alloc (.cells #[] 5)) 38 W1.heap.size hHz (.slice xa bs.length xcap) bs (by have := HBL.out; omega) (HBY.out.keep hB2.keep (fun _ h => h)).src
            have hnew := HBX.out.1.new_ne (g := W1.heap.size) (Nat.le_refl _)
            have hsz1 := HBX.out.1.keep.size
            have hB3 := hB2.row hHz k3 hsz1 hnew.2
            have hgn : W1.heap.size ≤ g := by
              rcases hg3 with e | e
              · omega
              · simp at e; omega
            have hnewg := HBX.out.1.new_ne hgn
            obtain ⟨hBy3, cur3, hg3o⟩ := bytes_of_owns own3 HBY.out.lt (by omega)
            have HP := hB3.put1 hBy3 (fun _ => ⟨hnewg.1, fun e => (hnewg.2 e).1⟩)
            have ob3 : W3.heap[bx]? = some (.cells #[.int .i64 0, .slice xa bl xcap, .int .i64 back, .int .i64 n] 40 (0, 0)) := k3.obj (kA.obj HBX.out.2.1 (fun h => h)) (by have := obj_lt HBX.out.2.1; omega)
            have hbx3 := hB3.box_ne ob3
            have hW3s : W1.heap.size < W3.heap.size := by have := k3.size; simp at this; omega
            have HX : Hid (∀ (W4 : World) (rv' : Value), Both w0 W4 wb lb vb qb s B d rv' bv (L ++ bs) L → Near W3 rv rv' → Keep (fun k => k = wb ∨ (d = false ∧ rv.ownBlock = some k)) W3 W4 →
                Flip W4 W4 g bl ∧ (∃ cur, W4.heap[g]? = some (.cells cur 5 (0, 0))) ∧ W4.heap[bx]? = some (.cells #[.int .i64 0, .slice xa bl xcap, .int .i64 back, .int .i64 n] 40 (0, 0)) ∧ w0.heap.size ≤ g ∧ bx ≠ g ∧ (d = false → rv'.ownBlock ≠ some g ∧ bv.ownBlock ≠ some g)) := by
              intro W4 rv' hB4 hN4 hK4
              have hgS : ¬ (g = wb ∨ (d = false ∧ rv.ownBlock = some g)) := fun e => e.elim hnewg.1 (fun e => (hnewg.2 e.1).1 e.2)
              have hF := flip_own own3 HBY.out.lt hK4 hgS
              rw [← HBL.out] at hF
              refine ⟨hF, ⟨cur3, hK4.obj hg3o hgS⟩, hK4.obj ob3 (fun e => e.elim hbx3.1 (fun e => (hbx3.2 e.1).1 e.2)), by omega, type_ne ob3 hg3o (by decide), fun hd => ⟨?_, (hnewg.2 hd).2⟩⟩
              rcases hN4 with e | ⟨k', e, hk'⟩
              · rw [e]; exact (hnewg.2 hd).1
              · rw [e]
                intro q
                have : k' = g := by simpa using q
                have := obj_lt hg3o
                omega
            rw [← HBL.out, HW1.out] at hr3
            rw [← HBL.out] at HP
            have hsz2 : (wr.alloc (.cells #[.int .i64 0, .slice xa bl xcap, .int .i64 back, .int .i64 n] 40)).heap.size = wr.heap.size + 1 := by simp
            rw [hsz2] at hr3
            clear kA hHz hB2 own3 k3 hg3 hnew hsz1 hB3 hgn hnewg hBy3 hg3o ob3 hbx3 hW3s hsz2
            go_wp2_with (at_builtin; refine wpList_append_run _ rfl _ _ 38 rfl (.slice (some ⟨wr.heap.size + 1, 0, none⟩) 0 0) (.slice xa bl xcap) (.slice (some ⟨g, 0, none⟩) bl cp) W3 rfl rfl hr3 ?_)
            refine HP.mono ?_
            clear HP hr3
            rintro e W4 ⟨rfl, rv', hB4, hN4, hK4⟩
            have HX4 := (show Hid (Flip W4 W4 g bl ∧ (∃ cur, W4.heap[g]? = some (.cells cur 5 (0, 0))) ∧ W4.heap[bx]? = some (.cells #[.int .i64 0, .slice xa bl xcap, .int .i64 back, .int .i64 n] 40 (0, 0)) ∧ w0.heap.size ≤ g ∧ bx ≠ g ∧ (d = false → rv'.ownBlock ≠ some g ∧ bv.ownBlock ≠ some g)) from HX.out W4 rv' hB4 hN4 hK4)
            have HB4 := (show Hid (Both w0 W4 wb lb vb qb s B d rv' bv (L ++ bs) L) from hB4)
            have HF0 := (show Hid (Flip W4 W4 g bl) from HX4.out.1)
            have hbx := HBX.out.2.2.1
            rw [← hbx]
            clear HX hB4 hN4 hK4 hbx
            go_wp2_with fail
            go_loopw [18] (fun v wr' => ∃ j : Nat, v = .int .i64 (j : Int) ∧ j ≤ bl ∧ Hid (Flip W4 wr' g bl)) (fun v _ => bl - (intOf v).toNat)
            case atStart => exact ⟨0, rfl, Nat.zero_le _, HF0.out⟩
            case round =>
              clear HF0
              obtain ⟨j, rfl, hj, HF⟩ := hrel
              by_cases hlt2 : j < bl
              · obtain ⟨y, z, hy, hfz, hz, hnext⟩ := HF.out.step j hlt2
                have HN := (show Hid (Flip W4 (wr.setCell ⟨g, j, none⟩ (.int .u8 (z : Int))) g bl) from hnext)
                have hjI : (j : Int) < (bl : Int) := by omega
                clear hnext HF
                go_wp2_with fail
                go_roundw
                case rel => exact ⟨j + 1, by go_num, by omega, HN.out⟩
                case measure => simp [intOf]; omega
              · obtain rfl : j = bl := by omega
                obtain ⟨cur4, hg4⟩ := HX4.out.2.1
                have hB5 := HB4.out.row hg4 HF.out.keep HX4.out.2.2.2.1 HX4.out.2.2.2.2.2
                have e1 : wr.cell? ⟨bx, 1, none⟩ = some (.slice xa j xcap) := cell_of (HF.out.keep.obj HX4.out.2.2.1 HX4.out.2.2.2.2.1) 1
                have HP2 := hB5.put2 (HBY.out.keep hB5.keep (fun _ h => h)) (by have := HBL.out; omega)
                rw [← HBL.out] at HP2
                clear hg4 hB5 HF
                go_wp2_with fail
                refine HP2.mono ?_
                clear HP2 e1
                rintro e W6 ⟨rfl, bv6, hB6⟩
                have HB6 := (show Hid (Both w0 W6 wb lb vb qb s B d rv' bv6 (L ++ bs) (L ++ bs)) from hB6)
                have hlen6 : (L ++ bs).length ≤ T + C := by rw [List.length_append, ← HBL.out]; omega
                have HLEN := (show Hid ((L ++ bs).length ≤ T + C) from hlen6)
                clear hB6 hlen6
                go_wp2_with fail
                refine HB6.out.held1.mono ?_
                rintro e wh1 ⟨rfl, rfl⟩
                obtain ⟨q1, q2⟩ := HB6.out.cells
                go_wp2_with fail
                refine HB6.out.held2.mono ?_
                rintro e wh2 ⟨rfl, rfl⟩
                go_wp2_with fail
                refine HB6.out.held3.mono ?_
                rintro e wh3 ⟨rfl, rfl⟩
                go_wp2_with fail
                go_roundw
                case rel => exact ⟨k + 1, by go_num, by omega, HST.out HB6.out (HLEN.out)⟩
                case measure => simp [intOf]; omega
          · have hw0b : (what == 0) = false := by simpa using hw0
            by_cases hw1 : what = 1
            · subst hw1
              by_cases hgood : d = false ∧ 0 ≤ n ∧ n ≤ 16777216 ∧ 1 ≤ back ∧ back ≤ (s : Int) ∧ back ≤ (L.length : Int)
              · obtain ⟨rfl, hn0, hn1, hb1, hb2, hb3⟩ := hgood
                obtain ⟨nn, rfl⟩ : ∃ nn : Nat, n = (nn : Int) := ⟨n.toNat, by omega⟩
                obtain ⟨bk, rfl⟩ : ∃ bk : Nat, back = (bk : Int) := ⟨back.toNat, by omega⟩
                have hnC : nn ≤ C := by
                  by_cases e : 0 < (nn : Int) ∧ (nn : Int) ≤ 16777216
                  · rw [if_pos e] at hc3; omega
                  · omega
                have HC := HBX.out.1.copy bk nn (by omega) (by omega) (by omega) (by omega) (by omega)
                have hol := outL_length L bk nn
                have hltX : ∀ j : Nat, (outL L bk nn)[j]?.getD 0 < 256 := lt_out (show Pair w0 W1 wb lb vb qb s B rv bv L L from HBX.out.1).isV.lt bk nn
                have hg0 := HBX.out.1.keep.size
                generalize outL L bk nn = X at HC hol hltX
                generalize W1.heap.size = g at HC hg0
                have HX := (show Hid (X.length = nn ∧ (∀ j : Nat, X[j]?.getD 0 < 256) ∧ w0.heap.size ≤ g ∧ nn ≤ C) from ⟨hol, hltX, hg0, hnC⟩)
                have hnB : nn ≤ 65536 := by omega
                clear hol hltX hg0 hnC hc3 hn0 hn1 hb1 hb2 hb3
                go_wp2_with fail
                rw [← HW1.out]
                refine HC.mono ?_
                clear HC
                rintro e W2 ⟨rfl, hK2, HQ⟩
                have ob2 := hK2.obj HBX.out.2.1 (fun e => e.elim (HBX.out.1.box_ne HBX.out.2.1).1 ((HBX.out.1.box_ne HBX.out.2.1).2 rfl).1)
                have e2 : W2.cell? ⟨bx, 2, none⟩ = some (.int .i64 (bk : Int)) := cell_of ob2 2
                have e3 : W2.cell? ⟨bx, 3, none⟩ = some (.int .i64 (nn : Int)) := cell_of ob2 3
                have hbx := HBX.out.2.2.1
                rw [← hbx]
                clear hbx ob2 hK2
                go_wp2_with fail
                refine HQ.out.mono ?_
                clear HQ e2 e3
                rintro e W3 ⟨a3, cap3, gb3, off3, rv3, bv3, rfl, hBy3, hz3, hB3, hne1, hne2⟩
                have cv1 : (convert 38 9 (.slice (some ⟨g, 0, none⟩) nn nn)).run Try.prog W3 = .ok (.string (strOf X)) W3 := by
                  have := run_conv (bytes_lit hz3 nn HX.out.2.1 (by have := HX.out.1; omega) (by have := HX.out.1; have := HX.out.2.2.2; omega)).src
                  rwa [HX.out.1] at this
                have cv2 : (convert 38 9 (.slice a3 nn cap3)).run Try.prog W3 = .ok (.string (strOf X)) W3 := by
                  have := run_conv hBy3.src
                  rwa [HX.out.1] at this
                have hF0 := flip_row hz3 HX.out.2.1
                rw [HX.out.1] at hF0
                have HF0 := (show Hid (Flip W3 W3 g nn) from hF0)
                have HB3 := (show Hid (Both w0 W3 wb lb vb qb s B false rv3 bv3 (L ++ X) (L ++ X) ∧ W3.heap[g]? = some (.cells (u8s X).toArray 5 (0, 0)) ∧ rv3.ownBlock ≠ some g ∧ bv3.ownBlock ≠ some g) from ⟨hB3, hz3, hne1, hne2⟩)
                generalize strOf X = SX at cv1 cv2
                clear hF0 hBy3 hz3 hB3 hne1 hne2
                go_wp2_with fail
                go_loopw [23] (fun v wr' => ∃ j : Nat, v = .int .i64 (j : Int) ∧ j ≤ nn ∧ Hid (Flip W3 wr' g nn)) (fun v _ => nn - (intOf v).toNat)
                case atStart => exact ⟨0, rfl, Nat.zero_le _, HF0.out⟩
                case round =>
                  clear HF0
                  obtain ⟨j, rfl, hj, HF⟩ := hrel
                  by_cases hlt2 : j < nn
                  · obtain ⟨y, z, hy, hfz, hz, hnext⟩ := HF.out.step j hlt2
                    have HN := (show Hid (Flip W3 (wr.setCell ⟨g, j, none⟩ (.int .u8 (z : Int))) g nn) from hnext)
                    have hjI : (j : Int) < (nn : Int) := by omega
                    clear hnext HF
                    go_wp2_with fail
                    go_roundw
                    case rel => exact ⟨j + 1, by go_num, by omega, HN.out⟩
                    case measure => simp [intOf]; omega
                  · obtain rfl : j = nn := by omega
                    have hB4 := HB3.out.1.row HB3.out.2.1 HF.out.keep HX.out.2.2.1 (fun _ => HB3.out.2.2)
                    have HB4 := (show Hid (Both w0 wr wb lb vb qb s B false rv3 bv3 (L ++ X) (L ++ X)) from hB4)
                    have hlen4 : (L ++ X).length ≤ T + C := by rw [List.length_append, HX.out.1]; have := HX.out.2.2.2; omega
                    have HLEN := (show Hid ((L ++ X).length ≤ T + C) from hlen4)
                    clear hB4 HF hlen4
                    go_wp2_with fail
                    refine HB4.out.held1.mono ?_
                    rintro e wh1 ⟨rfl, rfl⟩
                    obtain ⟨q1, q2⟩ := HB4.out.cells
                    go_wp2_with fail
                    refine HB4.out.held2.mono ?_
                    rintro e wh2 ⟨rfl, rfl⟩
                    go_wp2_with fail
                    refine HB4.out.held3.mono ?_
                    rintro e wh3 ⟨rfl, rfl⟩
                    go_wp2_with fail
                    go_roundw
                    case rel => exact ⟨k + 1, by go_num, by omega, HST.out HB4.out (HLEN.out)⟩
                    case measure => simp [intOf]; omega
              · obtain ⟨E, H1, H2⟩ := HBX.out.1.copyBad back n hgood
                have hcv : ∀ W : World, (convert 38 9 (.slice none 0 0)).run Try.prog W = .ok (.string (strOf [])) W := fun W => run_conv (.inl ⟨rfl, rfl⟩)
                generalize strOf [] = S0 at hcv
                clear hgood hc3
                go_wp2_with fail
                rw [← HW1.out]
                refine H1.out.mono ?_
                clear H1
                rintro e W2 ⟨rfl, rfl⟩
                have e2 : W2.cell? ⟨bx, 2, none⟩ = some (.int .i64 back) := cell_of HBX.out.2.1 2
                have e3 : W2.cell? ⟨bx, 3, none⟩ = some (.int .i64 n) := cell_of HBX.out.2.1 3
                have hbx := HBX.out.2.2.1
                rw [← hbx]
                clear hbx
                go_wp2_with fail
                refine H2.out.mono ?_
                clear H2 e2 e3
                rintro e W3 ⟨rfl, rfl⟩
                go_wp2_with fail
                go_loopw [23] (fun v wr' => v = .int .i64 0 ∧ wr' = W3) (fun _ _ => 0)
                case atStart => exact ⟨rfl, rfl⟩
                case round =>
                  obtain ⟨rfl, rfl⟩ := hrel
                  go_wp2_with fail
                  refine HBX.out.1.held1.mono ?_
                  rintro e wh1 ⟨rfl, rfl⟩
                  obtain ⟨q1, q2⟩ := HBX.out.1.cells
                  go_wp2_with fail
                  refine HBX.out.1.held2.mono ?_
                  rintro e wh2 ⟨rfl, rfl⟩
                  go_wp2_with fail
                  refine HBX.out.1.held3.mono ?_
                  rintro e wh3 ⟨rfl, rfl⟩
                  go_wp2_with fail
                  go_roundw
                  case rel => exact ⟨k + 1, by go_num, by omega, HST.out HBX.out.1 (by omega)⟩
                  case measure => simp [intOf]; omega
            · have hw1b : (what == 1) = false := by simpa using hw1
              by_cases hw2 : what = 2
              · subst hw2
                obtain ⟨x, ok, H1, H2⟩ := HBX.out.1.at_ back (by omega)
                go_wp2_with fail
                rw [← HW1.out]
                refine H1.out.mono ?_
                clear H1
                rintro e W2 ⟨rfl, n1, rfl⟩
                have H3 := H2.out n1
                have e2 : (W1.drewN n1).cell? ⟨bx, 2, none⟩ = some (.int .i64 back) := cell_of HBX.out.2.1 2
                have hB2 := HBX.out.1.same (keep_drewN W1 n1)
                have hbx := HBX.out.2.2.1
                rw [← hbx]
                clear H2 hbx
                generalize W1.drewN n1 = W2 at H3 e2 hB2 ⊢
                have HB2 := (show Hid (Both w0 W2 wb lb vb qb s B d rv bv L L) from hB2)
                clear hB2
                go_wp2_with fail
                refine H3.mono ?_
                clear H3
                rintro e W3 ⟨rfl, m1, rfl⟩
                have hB3 := HB2.out.same (keep_drewN W2 m1)
                clear e2 HB2
                generalize W2.drewN m1 = W3 at hB3 ⊢
                have HB3 := (show Hid (Both w0 W3 wb lb vb qb s B d rv bv L L) from hB3)
                clear hB3
                go_wp2_with fail
                refine HB3.out.held1.mono ?_
                rintro e wh1 ⟨rfl, rfl⟩
                obtain ⟨q1, q2⟩ := HB3.out.cells
                go_wp2_with fail
                refine HB3.out.held2.mono ?_
                rintro e wh2 ⟨rfl, rfl⟩
                go_wp2_with fail
                refine HB3.out.held3.mono ?_
                rintro e wh3 ⟨rfl, rfl⟩
                go_wp2_with fail
                go_roundw
                case rel => exact ⟨k + 1, by go_num, by omega, HST.out HB3.out (by omega)⟩
                case measure => simp [intOf]; omega
              · have hw2b : (what == 2) = false := by simpa using hw2
                by_cases hw3 : what = 3
                · subst hw3
                  have HD := HBX.out.1.clear1
                  go_wp2_with fail
                  rw [← HW1.out]
                  refine HD.mono ?_
                  clear HD
                  rintro e W2 ⟨rfl, rv2, hB2⟩
                  have HD2 := hB2.clear2
                  clear hB2
                  go_wp2_with fail
                  refine HD2.mono ?_
                  clear HD2
                  rintro e W3 ⟨rfl, hB3⟩
                  have HB3 := (show Hid (Both w0 W3 wb lb vb qb s B d rv2 (.slice none 0 0) [] []) from hB3)
                  clear hB3
                  go_wp2_with fail
                  refine HB3.out.held1.mono ?_
                  rintro e wh1 ⟨rfl, rfl⟩
                  obtain ⟨q1, q2⟩ := HB3.out.cells
                  go_wp2_with fail
                  refine HB3.out.held2.mono ?_
                  rintro e wh2 ⟨rfl, rfl⟩
                  go_wp2_with fail
                  refine HB3.out.held3.mono ?_
                  rintro e wh3 ⟨rfl, rfl⟩
                  go_wp2_with fail
                  go_roundw
                  case rel => exact ⟨k + 1, by go_num, by omega, HST.out HB3.out (Nat.zero_le _)⟩
                  case measure => simp [intOf]; omega
                · have hw3b : (what == 3) = false := by simpa using hw3
                  by_cases hw4 : what = 4
                  · subst hw4
                    have HD := HBX.out.1.drop
                    go_wp2_with fail
                    rw [← HW1.out]
                    refine HD.mono ?_
                    clear HD
                    rintro e W2 ⟨rfl, HD2⟩
                    go_wp2_with fail
                    refine HD2.out.mono ?_
                    rintro e W3 ⟨rfl, hB3⟩
                    have HB3 := (show Hid (Both w0 W3 wb lb vb qb s B true rv bv L L) from hB3)
                    clear hB3 HD2
                    go_wp2_with fail
                    refine HB3.out.held1.mono ?_
                    rintro e wh1 ⟨rfl, rfl⟩
                    obtain ⟨q1, q2⟩ := HB3.out.cells
                    go_wp2_with fail
                    refine HB3.out.held2.mono ?_
                    rintro e wh2 ⟨rfl, rfl⟩
                    go_wp2_with fail
                    refine HB3.out.held3.mono ?_
                    rintro e wh3 ⟨rfl, rfl⟩
                    go_wp2_with fail
                    go_roundw
                    case rel => exact ⟨k + 1, by go_num, by omega, HST.out HB3.out (by omega)⟩
                    case measure => simp [intOf]; omega
                  · have hw4b : (what == 4) = false := by simpa using hw4
                    go_wp2_with fail
                    rw [← HW1.out]
                    refine HBX.out.1.held1.mono ?_
                    rintro e wh1 ⟨rfl, rfl⟩
                    obtain ⟨q1, q2⟩ := HBX.out.1.cells
                    go_wp2_with fail
                    refine HBX.out.1.held2.mono ?_
                    rintro e wh2 ⟨rfl, rfl⟩
                    go_wp2_with fail
                    refine HBX.out.1.held3.mono ?_
                    rintro e wh3 ⟨rfl, rfl⟩
                    go_wp2_with fail
                    go_roundw
                    case rel => exact ⟨k + 1, by go_num, by omega, HST.out HBX.out.1 (by omega)⟩
                    case measure => simp [intOf]; omega
        · obtain rfl : k = len := by omega
          have hkw : Keep noBlock w0 wr := by obtain ⟨d, rv, bv, L, hB0, -⟩ := HP.out; exact hB0.keep
          clear HP
          go_wp2_with fail
          refine (wakes_any _).mono ?_
          rintro e w5 ⟨rfl, hk5⟩
          go_wp2_with fail
          go_ret
          exact ⟨rfl, hkw.trans' hk5⟩
    · have HN := new_over s lb B 0 0 w2 hs1 hs2 HB.out.1 (by omega)
      have HN2 := newV_over s qb B 0 0 w2 hs1 hs2 HB.out.2.1 (by omega)
      go_wp2_with fail
      refine HN.mono ?_
      rintro e w3 ⟨rfl, rfl⟩
      clear HN
      go_wp2_with fail
      refine HN2.mono ?_
      rintro e w4 ⟨rfl, -, k4⟩
      clear HN2
      have hL4 := HB.out.1.keep k4 (by have := HB.out.2.2.2.2; omega)
      have k04 : Keep noBlock w0 w4 := HB.out.2.2.1.trans k4 (fun i hi e => by have := HB.out.2.2.2; omega)
      clear k4 HB
      go_wp2_with fail
      refine (held_any lb B 0 0 w4 hL4).mono ?_
      rintro e w5 ⟨rfl, rfl⟩
      go_wp2_with fail
      refine (wakes_any _).mono ?_
      rintro e w6 ⟨rfl, hk6⟩
      go_wp2_with fail
      go_ret
      exact ⟨rfl, k04.trans' hk6⟩
  · have HN := new_arg size (.pointer (some ⟨lb, 0, none⟩)) w2 hsz
    have HN2 := newV_arg size (.pointer (some ⟨qb, 0, none⟩)) w2 hsz
    clear hsz
    go_wp2_with fail
    refine HN.mono ?_
    rintro e w3 ⟨rfl, rfl⟩
    clear HN
    go_wp2_with fail
    refine HN2.mono ?_
    rintro e w4 ⟨rfl, rfl⟩
    clear HN2
    go_wp2_with fail
    refine (held_any lb B 0 0 _ HB.out.1).mono ?_
    rintro e w5 ⟨rfl, rfl⟩
    go_wp2_with fail
    refine (wakes_any _).mono ?_
    rintro e w6 ⟨rfl, hk6⟩
    go_wp2_with fail
    go_ret
    exact ⟨rfl, HB.out.2.2.1.trans' hk6⟩
end
end Go.Proofs.Ytpjbegafhgnebaa
