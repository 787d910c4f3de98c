/-
  BitsWrite, the walk: the program's writer and the document's go side by side.
-/
import Derived.Test.YtajhobjjkcnomaaRefW
import Derived.Deep.RegionHeld3
import Derived.Deep.DrawnRows
namespace Go.Proofs.Ytajhobjjkcnomaa
open Go.RowKit Go.Shelf

attribute [local go_sem ↓] Go.wp_at_zero Go.wp_at_succ

/-- What Put answers, and the bits behind it. -/
def putCode (n : Int) : Int := if 0 ≤ n ∧ n ≤ 56 then 0 else 2
def putL (L : List (Fin 2)) (x : Nat) (n : Int) : List (Fin 2) := if 0 ≤ n ∧ n ≤ 56 then L ++ low x n.toNat else L
theorem putL_le (L : List (Fin 2)) (x : Nat) (n : Int) : (putL L x n).length ≤ L.length + 56 := by
  unfold putL
  split
  · rw [List.length_append, low_length]; omega
  · omega
theorem put_all (wb : Nat) (v : Value) (L : List (Fin 2)) (x : Nat) (n : Int) (hx : x < 18446744073709551616) (hL : L.length < 1000000000000) (w : World) (h : IsW w wb v L) :
    Calls Try.prog 17 #[.pointer (some ⟨wb, 0, none⟩), .int .u64 (x : Int), .int .i64 n] w fun e w' => e = .returned (.int .i64 (putCode n)) ∧ ∃ v', IsW w' wb v' (putL L x n) ∧ Moves w.heap.size v v' ∧ Keep (fun k => k = wb ∨ v.ownBlock = some k) w w' := by
  unfold putCode putL
  by_cases hn : 0 ≤ n ∧ n ≤ 56
  · rw [if_pos hn, if_pos hn]
    obtain ⟨m, rfl⟩ := Int.eq_ofNat_of_zero_le hn.1
    exact put_any wb v L x m hx (by omega) hL w h
  · rw [if_neg hn, if_neg hn]
    refine (put_arg wb _ n hn w).mono ?_
    rintro e w' ⟨rfl, hk⟩
    exact ⟨rfl, v, h.keep hk (fun h => h) (fun _ _ h => h), .inl rfl, hk.mono (fun _ _ h => h.elim)⟩
theorem putV_all (vb : Nat) (v : Value) (L : List (Fin 2)) (x : Nat) (n : Int) (hx : x < 18446744073709551616) (hL : L.length < 1000000000000) (w : World) (h : IsV w vb v L) :
    Calls Try.prog 18 #[.pointer (some ⟨vb, 0, none⟩), .int .u64 (x : Int), .int .i64 n] w fun e w' => e = .returned (.int .i64 (putCode n)) ∧ ∃ v', IsV w' vb v' (putL L x n) ∧ Moves w.heap.size v v' ∧ Keep (fun k => k = vb ∨ v.ownBlock = some k) w w' := by
  unfold putCode putL
  by_cases hn : 0 ≤ n ∧ n ≤ 56
  · rw [if_pos hn, if_pos hn]
    obtain ⟨m, rfl⟩ := Int.eq_ofNat_of_zero_le hn.1
    exact putV_any vb v L x m hx (by omega) hL w h
  · rw [if_neg hn, if_neg hn]
    refine (putV_arg vb _ n hn w).mono ?_
    rintro e w' ⟨rfl, rfl⟩
    exact ⟨rfl, v, h, .inl rfl, Keep.refl _ _⟩

/-- A number and its bits, as it came in. -/
structure PutD where
  x : Nat
  n : Int
  al : Bool
def putD0 : PutD := ⟨0, 0, false⟩

/-- Two writers that hold the same bits, in memory that is new since w and apart. -/
structure Both (w W : World) (wb vb : Nat) (u v : Value) (L : List (Fin 2)) : Prop where
  isW : IsW W wb u L
  isV : IsV W vb v L
  keep : Keep noBlock w W
  ub : ∀ k, u.ownBlock = some k → w.heap.size ≤ k ∧ k ≠ vb ∧ v.ownBlock ≠ some k
  vb' : ∀ k, v.ownBlock = some k → w.heap.size ≤ k ∧ k ≠ wb

theorem Both.keep0 {w W W' : World} {wb vb : Nat} {u v : Value} {L : List (Fin 2)} (h : Both w W wb vb u v L) (hk : Keep noBlock W W') : Both w W' wb vb u v L :=
  ⟨h.isW.keep hk (fun h => h) (fun _ _ h => h), h.isV.keep hk (fun h => h) (fun _ _ h => h), h.keep.trans' hk, h.ub, h.vb'⟩
theorem Both.step1 {w W W1 : World} {wb vb : Nat} {u v u' : Value} {L L' : List (Fin 2)} (h : Both w W wb vb u v L) (hwb : w.heap.size ≤ wb) (hne : wb ≠ vb) (hM : Moves W.heap.size u u') (hK : Keep (fun k => k = wb ∨ u.ownBlock = some k) W W1) (h1 : IsW W1 wb u' L') :
    IsW W1 wb u' L' ∧ IsV W1 vb v L ∧ Keep noBlock w W1 ∧ ∀ k, u'.ownBlock = some k → w.heap.size ≤ k ∧ k ≠ vb ∧ v.ownBlock ≠ some k := by
  refine ⟨h1, h.isV.keep hK ?_ ?_, h.keep.trans hK ?_, ?_⟩
  · rintro (e | e)
    · exact hne e.symm
    · exact (h.ub vb e).2.1 rfl
  · rintro k hk (e | e)
    · exact (h.vb' k hk).2 e
    · exact (h.ub k e).2.2 hk
  · rintro i hi (e | e)
    · omega
    · have := (h.ub i e).1; omega
  · intro k hk
    rcases hM with e | ⟨j, e, hj⟩
    · exact h.ub k (by rw [← e]; exact hk)
    · rw [e] at hk; cases hk
      have h2 := obj_lt h.isV.obj
      have h3 := h.keep.size
      refine ⟨by omega, by omega, fun hv => ?_⟩
      have := (h.isV.row.lt k hv).2; omega
theorem Both.step2 {w W1 W2 : World} {wb vb : Nat} {u v v' : Value} {L' : List (Fin 2)} (hwb : w.heap.size ≤ wb) (hvb : w.heap.size ≤ vb) (hne : wb ≠ vb)
    (hW : IsW W1 wb u L') (hK0 : Keep noBlock w W1) (hub : ∀ k, u.ownBlock = some k → w.heap.size ≤ k ∧ k ≠ vb ∧ v.ownBlock ≠ some k) (hvb' : ∀ k, v.ownBlock = some k → w.heap.size ≤ k ∧ k ≠ wb)
    (hM : Moves W1.heap.size v v') (hK : Keep (fun k => k = vb ∨ v.ownBlock = some k) W1 W2) (h2 : IsV W2 vb v' L') : Both w W2 wb vb u v' L' := by
  have hl := obj_lt hW.obj
  have hs := hK0.size
  refine ⟨hW.keep hK ?_ ?_, h2, hK0.trans hK ?_, ?_, ?_⟩
  · rintro (e | e)
    · exact hne e
    · exact (hvb' wb e).2 rfl
  · rintro k hk (e | e)
    · exact (hub k hk).2.1 e
    · exact (hub k hk).2.2 e
  · rintro i hi (e | e)
    · omega
    · have := (hvb' i e).1; omega
  · intro k hk
    refine ⟨(hub k hk).1, (hub k hk).2.1, fun hv => ?_⟩
    rcases hM with e | ⟨j, e, hj⟩
    · exact (hub k hk).2.2 (by rw [← e]; exact hv)
    · rw [e] at hv; cases hv
      have := (hW.row.lt k hk).2; omega
  · intro k hk
    rcases hM with e | ⟨j, e, hj⟩
    · exact hvb' k (by rw [← e]; exact hk)
    · rw [e] at hk; cases hk
      exact ⟨by omega, by omega⟩
theorem Both.new (w : World) : Both w ((w.alloc (.cells #[.slice none 0 0, .int .i64 0] 40)).alloc (.cells #[.slice none 0 0] 43)) w.heap.size (w.heap.size + 1) (.slice none 0 0) (.slice none 0 0) [] := by
  refine ⟨(isW_new w).keep ((Keep.refl noBlock _).alloc _) (fun h => h) (fun _ _ h => h), ?_, ((Keep.refl _ w).alloc _).alloc _, fun k e => (by cases e), fun k e => (by cases e)⟩
  have := isV_new (w.alloc (.cells #[.slice none 0 0, .int .i64 0] 40))
  rwa [World.size_alloc] at this

set_option maxRecDepth 100000 in
set_option maxHeartbeats 2000000 in
theorem write_walk (a : Option Addr) (len cap b off : Nat) (ps : List PutD) (w : World)
    (ha : a = some ⟨b, off, none⟩ ∨ len = 0) (hps : ∀ j : Nat, (ps[j]?.getD putD0).x < 18446744073709551616)
    (hcs : ∀ j, j < len → w.cell? ⟨b, off + j * 3, none⟩ = some (.int .u64 ((ps[j]?.getD putD0).x : Int)) ∧ w.cell? ⟨b, off + j * 3 + 1, none⟩ = some (.int .i64 (ps[j]?.getD putD0).n) ∧ w.cell? ⟨b, off + j * 3 + 2, none⟩ = some (.bool (ps[j]?.getD putD0).al)) :
    Calls Try.prog 4 #[.slice a len cap] w fun e w' => e = .returned (.bool true) ∧ Keep noBlock w w' := by
  have HA := (show Hid _ from ha)
  have HP := (show Hid _ from hps)
  have HC := (show Hid _ from hcs)
  clear ha hps hcs
  go_enter Try.func4, Try.ntmps4
  go_wp2_with fail
  go_loopw [13] (fun i wr => ∃ (k : Nat) (u v : Value) (L : List (Fin 2)), k ≤ len ∧ k ≤ 300 ∧ i = .int .i64 k ∧ L.length ≤ 56 * k ∧ Both w wr w.heap.size (w.heap.size + 1) u v L) (fun i _ => len - (intOf i).toNat)
  case atStart => exact ⟨0, _, _, [], Nat.zero_le _, Nat.zero_le _, rfl, Nat.zero_le _, Both.new w⟩
  case round =>
    obtain ⟨k, u, v, L, hk, hk3, rfl, hL, hB⟩ := hrel
    by_cases hlt : k < len
    · have hKr := hB.keep
      obtain ⟨c0, c1, c2⟩ := HC.out k hlt
      have hbw := World.block_lt_of_cell? w _ c0
      have d0 := (World.cell?_of_block (a := ⟨b, off + k * 3, none⟩) (hKr.block b hbw (fun h => h))).trans c0
      have d1 := (World.cell?_of_block (a := ⟨b, off + k * 3 + 1, none⟩) (hKr.block b hbw (fun h => h))).trans c1
      have d2 := (World.cell?_of_block (a := ⟨b, off + k * 3 + 2, none⟩) (hKr.block b hbw (fun h => h))).trans c2
      have hx := HP.out k
      obtain rfl : a = some ⟨b, off, none⟩ := HA.out.elim id (fun e => by omega)
      clear c0 c1 c2
      generalize ps[k]?.getD putD0 = pd at d0 d1 d2 hx
      obtain ⟨x, n, al⟩ := pd
      dsimp only at d0 d1 d2 hx
      have hB1 : Both w (wr.alloc (.cells #[.int .u64 (x : Int), .int .i64 n, .bool al] 45)) w.heap.size (w.heap.size + 1) u v L := hB.keep0 ((Keep.refl _ wr).alloc _)
      have hpb := World.alloc_heap_new wr (.cells #[.int .u64 (x : Int), .int .i64 n, .bool al] 45)
      have hup : u.ownBlock ≠ some wr.heap.size := fun e => by have := (hB.isW.row.lt _ e).2; omega
      have hvp : v.ownBlock ≠ some wr.heap.size := fun e => by have := (hB.isV.row.lt _ e).2; omega
      have hsz := hKr.size
      have hl1 := obj_lt hB.isW.obj
      have hl2 := obj_lt hB.isV.obj
      have hvbq := hB.vb'
      have HVB := (show Hid _ from hvbq)
      have hmx : Try.prog.follows .mixedOrders = true := by kernel_rfl
      clear hvbq
      by_cases h300 : k < 300
      · cases al with
        | true =>
          go_wp2_with fail
          refine (alignW_any w.heap.size u L (by omega) _ hB1.isW).mono ?_
          rintro e w1 ⟨rfl, u1, hW1, hM1, hK1⟩
          obtain ⟨s1, s2, s3, s4⟩ := hB1.step1 (Nat.le_refl _) (by omega) hM1 hK1 hW1
          go_wp2_with fail
          refine (alignV_any (w.heap.size + 1) v L (by omega) _ s2).mono ?_
          rintro e w2 ⟨rfl, v1, hV1, hM2, hK2⟩
          have hB2 := Both.step2 (Nat.le_refl _) (by omega) (by omega) s1 s3 s4 HVB.out hM2 hK2 hV1
          have hLL : (L ++ low 0 ((8 - L.length % 8) % 8)).length ≤ 56 * (k + 1) := by rw [List.length_append, low_length]; omega
          clear s1 s2 s3 s4 hW1 hV1 hM1 hM2 hK1 hK2 hB1 hB
          go_wp2_with fail
          go_roundw
          case rel => exact ⟨k + 1, _, _, _, by omega, by omega, by go_num, hLL, hB2⟩
          case measure => simp [intOf]; omega
        | false =>
          have hLp := putL_le L x n
          go_wp2_with fail
          go_region_held3 (fun w' => w'.cell? ⟨wr.heap.size, 0, none⟩ = some (.int .u64 (x : Int)) ∧ w'.cell? ⟨wr.heap.size, 1, none⟩ = some (.int .i64 n))
            (first | (exact ⟨hp2, hp3⟩) | (exact ⟨hp0, hp1⟩) | go_keep)
            ((first
              | (go_at_call 17; refine (put_all w.heap.size u L x n hx (by omega) _ (hB1.keep0 (keep_drewN _ 1)).isW).mono ?_; rintro e w1 ⟨rfl, u1, hW1, hM1, hK1⟩; obtain ⟨s1, s2, s3, s4⟩ := (hB1.keep0 (keep_drewN _ 1)).step1 (Nat.le_refl _) (by omega) hM1 hK1 hW1; have hpb1 := hK1.obj (b := wr.heap.size) hpb (by rintro (e | e); omega; exact hup e); have hp0 : w1.cell? ⟨wr.heap.size, 0, none⟩ = some (.int .u64 (x : Int)) := cell_of hpb1 0; have hp1 : w1.cell? ⟨wr.heap.size, 1, none⟩ = some (.int .i64 n) := cell_of hpb1 1)
              | (go_at_call 18; refine (putV_all (w.heap.size + 1) v L x n hx (by omega) _ s2).mono ?_; rintro e w2 ⟨rfl, v1, hV1, hM2, hK2⟩; have hB2 := Both.step2 (Nat.le_refl _) (by omega) (by omega) s1 s3 s4 HVB.out hM2 hK2 hV1; have hpb2 := hK2.obj (b := wr.heap.size) hpb1 (by rintro (e | e); omega; exact hvp e); have hp2 : w2.cell? ⟨wr.heap.size, 0, none⟩ = some (.int .u64 (x : Int)) := cell_of hpb2 0; have hp3 : w2.cell? ⟨wr.heap.size, 1, none⟩ = some (.int .i64 n) := cell_of hpb2 1)))
          have hLL : (putL L x n).length ≤ 56 * (k + 1) := by omega
          clear hB1 hB hKr hpb hup hvp HVB hLp hL hl1 hl2 d0 d1 d2 hp0 hp1 hp2 hp3 hpb1 hpb2 hW1 hV1 hM1 hM2 hK1 hK2 s1 s2 s3 s4
          generalize putL L x n = M at hB2 hLL
          have hML : M.length < 1000000000000 := by omega
          have hML2 : M.length < 1099511627776 := by omega
          by_cases h7 : k % 7 = 0
          · have hb7 : ((k : Int).tmod 7 == 0) = true := by rw [Int.tmod_eq_emod_of_nonneg (by omega)]; simp; omega
            clear h7
            go_wp2_with fail
            go_region_with (first
              | (go_at_call 19; refine (bytes_any w.heap.size u1 M hML2 _ (hB2.keep0 (keep_drewN _ 1)).isW).mono ?_; rintro e w3 ⟨y1, rfl, hown1, hk1⟩; obtain ⟨sa1, cp1, rfl⟩ := owns_form hown1; have cv1 := run_conv (Src.of_owns hown1); have hB3 := (hB2.keep0 (keep_drewN _ 1)).keep0 hk1)
              | (go_at_call 20; refine (bytesV_any (w.heap.size + 1) v1 M hML2 _ hB3.isV).mono ?_; rintro e w4 ⟨y2, rfl, hown2, hk2⟩; obtain ⟨sa2, cp2, rfl⟩ := owns_form hown2; have cv3 := run_conv (Src.of_owns (owns_keep hown1 hk2 (fun _ _ h => h))); have cv2 := run_conv (Src.of_owns hown2); have hB4 := hB3.keep0 hk2))
            all_goals go_wp2
            all_goals go_roundw
            all_goals first | exact ⟨k + 1, _, _, _, by omega, by omega, by go_num, hLL, hB4⟩ | (simp [intOf]; omega)
          · have hb7 : ((k : Int).tmod 7 == 0) = false := by rw [Int.tmod_eq_emod_of_nonneg (by omega)]; simp; omega
            clear h7
            go_wp2_with fail
            go_quiet (fail)
            go_wp2
            go_roundw
            case rel => exact ⟨k + 1, _, _, _, by omega, by omega, by go_num, hLL, hB2.keep0 (keep_drewN _ _)⟩
            case measure => simp [intOf]; omega
      · clear hB HVB hup hvp hpb hKr
        have hML2 : L.length < 1099511627776 := by omega
        go_wp2_with fail
        go_region_with (first
          | (go_at_call 19; refine (bytes_any w.heap.size u L hML2 _ (hB1.keep0 (keep_drewN _ 1)).isW).mono ?_; rintro e w3 ⟨y1, rfl, hown1, hk1⟩; obtain ⟨sa1, cp1, rfl⟩ := owns_form hown1; have cv1 := run_conv (Src.of_owns hown1); have hB3 := (hB1.keep0 (keep_drewN _ 1)).keep0 hk1)
          | (go_at_call 20; refine (bytesV_any (w.heap.size + 1) v L hML2 _ hB3.isV).mono ?_; rintro e w4 ⟨y2, rfl, hown2, hk2⟩; obtain ⟨sa2, cp2, rfl⟩ := owns_form hown2; have cv3 := run_conv (Src.of_owns (owns_keep hown1 hk2 (fun _ _ h => h))); have cv2 := run_conv (Src.of_owns hown2); have hB4 := hB3.keep0 hk2)
          | (go_at_call 14; refine (wakes_any _).mono ?_; rintro e w5 ⟨rfl, hk5⟩))
        all_goals go_wp2
        all_goals go_ret
        all_goals exact ⟨rfl, hB4.keep.trans' hk5⟩
    · obtain rfl : k = len := by omega
      have hML2 : L.length < 1099511627776 := by omega
      have hmx : Try.prog.follows .mixedOrders = true := by kernel_rfl
      go_wp2_with fail
      go_region_with (first
        | (go_at_call 19; refine (bytes_any w.heap.size u L hML2 _ (hB.keep0 (keep_drewN _ 1)).isW).mono ?_; rintro e w3 ⟨y1, rfl, hown1, hk1⟩; obtain ⟨sa1, cp1, rfl⟩ := owns_form hown1; have cv1 := run_conv (Src.of_owns hown1); have hB3 := (hB.keep0 (keep_drewN _ 1)).keep0 hk1)
        | (go_at_call 20; refine (bytesV_any (w.heap.size + 1) v L hML2 _ hB3.isV).mono ?_; rintro e w4 ⟨y2, rfl, hown2, hk2⟩; obtain ⟨sa2, cp2, rfl⟩ := owns_form hown2; have cv3 := run_conv (Src.of_owns (owns_keep hown1 hk2 (fun _ _ h => h))); have cv2 := run_conv (Src.of_owns hown2); have hB4 := hB3.keep0 hk2)
        | (go_at_call 14; refine (wakes_any _).mono ?_; rintro e w5 ⟨rfl, hk5⟩))
      all_goals go_wp2
      all_goals go_ret
      all_goals exact ⟨rfl, hB4.keep.trans' hk5⟩

end Go.Proofs.Ytajhobjjkcnomaa
