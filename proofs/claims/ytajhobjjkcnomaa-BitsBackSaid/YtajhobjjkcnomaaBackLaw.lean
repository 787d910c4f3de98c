/-
  BitsBack, the walk: what was put is read as it was put.
-/
import Derived.Test.YtajhobjjkcnomaaLaid
namespace Go.Proofs.Ytajhobjjkcnomaa
open Go.RowKit Go.Shelf

attribute [local go_sem ↓] Go.wp_at_zero Go.wp_at_succ

theorem stepL_put (L : List (Fin 2)) (x m : Nat) (hm : m ≤ 56) : stepL L ⟨x, (m : Int), false⟩ = L ++ low x m := by
  have h : (0 : Int) ≤ (m : Int) ∧ (m : Int) ≤ 56 := ⟨by omega, by omega⟩
  simp only [stepL, putL, if_pos h, Int.toNat_natCast]
  simp
theorem stepL_arg (L : List (Fin 2)) (x : Nat) (n : Int) (hn : ¬ (0 ≤ n ∧ n ≤ 56)) : stepL L ⟨x, n, false⟩ = L := by
  unfold stepL putL
  rw [if_neg (by simp), if_neg hn]
theorem stepL_align (L : List (Fin 2)) (x : Nat) (n : Int) : stepL L ⟨x, n, true⟩ = L ++ low 0 ((8 - L.length % 8) % 8) := by
  unfold stepL
  rw [if_pos rfl]

/-- 'x & (1 << uint(m) - 1)', as the walk writes it. -/
theorem mask_form (x m : Nat) (hx : x < 18446744073709551616) (hm : m ≤ 56) :
    bits .and .u64 (x : Int) (IntKind.u64.wrap (IntKind.u64.wrap (2 ^ min (IntKind.u64.wrap (m : Int)).toNat 64) - 1)) = ((x % 2 ^ m : Nat) : Int) := by
  have h0 : 0 < 2 ^ m := Nat.two_pow_pos m
  have h1 : 2 ^ m ≤ 2 ^ 56 := Nat.pow_le_pow_right (by omega) hm
  have e1 : IntKind.u64.wrap (m : Int) = (m : Int) := by rw [IntKind.wrap_u64]; omega
  have e2 : min m 64 = m := by omega
  have e3 : ((2 : Int) ^ m) = ((2 ^ m : Nat) : Int) := by simp
  have e4 : IntKind.u64.wrap ((2 : Int) ^ m) = (2 : Int) ^ m := by
    rw [e3]; generalize 2 ^ m = z at h0 h1; rw [IntKind.wrap_u64]; omega
  have e5 : IntKind.u64.wrap ((2 : Int) ^ m - 1) = (2 : Int) ^ m - 1 := by
    rw [e3]; generalize 2 ^ m = z at h0 h1; rw [IntKind.wrap_u64]; omega
  rw [e1, Int.toNat_natCast, e2, e4, e5]
  exact and_mask x m hx hm

/-- The three cells of element k, in a later world. -/
theorem cellsAt {w W : World} {b off len : Nat} {ps : List PutD}
    (HC : Hid (∀ j, j < len → w.cell? ⟨b, off + j * 3, none⟩ = some (.int .u64 ((ps[j]?.getD putD0).x : Int)) ∧ w.cell? ⟨b, off + j * 3 + 1, none⟩ = some (.int .i64 (ps[j]?.getD putD0).n) ∧ w.cell? ⟨b, off + j * 3 + 2, none⟩ = some (.bool (ps[j]?.getD putD0).al)))
    (hK : Keep noBlock w W) (k : Nat) (hlt : k < len) :
    W.cell? ⟨b, off + k * 3, none⟩ = some (.int .u64 ((ps[k]?.getD putD0).x : Int)) ∧ W.cell? ⟨b, off + k * 3 + 1, none⟩ = some (.int .i64 (ps[k]?.getD putD0).n) ∧ W.cell? ⟨b, off + k * 3 + 2, none⟩ = some (.bool (ps[k]?.getD putD0).al) := by
  obtain ⟨c0, c1, c2⟩ := HC.out k hlt
  have hbw := World.block_lt_of_cell? w _ c0
  exact ⟨(World.cell?_of_block (a := ⟨b, off + k * 3, none⟩) (hK.block b hbw (fun h => h))).trans c0, (World.cell?_of_block (a := ⟨b, off + k * 3 + 1, none⟩) (hK.block b hbw (fun h => h))).trans c1, (World.cell?_of_block (a := ⟨b, off + k * 3 + 2, none⟩) (hK.block b hbw (fun h => h))).trans c2⟩

/-- A writer that holds L, in memory that is new since w. -/
structure Mine (w W : World) (u : Value) (L : List (Fin 2)) : Prop where
  isW : IsW W w.heap.size u L
  keep : Keep noBlock w W
  ub : ∀ k, u.ownBlock = some k → w.heap.size ≤ k

/-- A reader at bit p, in memory that is new since w. -/
structure MineR (w W : World) (rb g : Nat) (bs : List Nat) (p : Nat) : Prop where
  isR : IsR W rb g bs p
  keep : Keep noBlock w W

theorem MineR.drewN {w W : World} {rb g : Nat} {bs : List Nat} {p : Nat} (h : MineR w W rb g bs p) (n : Nat) : MineR w (W.drewN n) rb g bs p := ⟨h.isR.drewN n, h.keep.trans' (keep_drewN _ _)⟩

/-- A writer in new memory behind a call on it. -/
theorem own_step {w W w1 : World} {o : Obj} {u u1 : Value} (hub : ∀ k, u.ownBlock = some k → w.heap.size ≤ k) (hK : Keep noBlock w W) (hM : Moves (W.alloc o).heap.size u u1) (hK1 : Keep (fun k => k = w.heap.size ∨ u.ownBlock = some k) (W.alloc o) w1) :
    Keep noBlock w w1 ∧ ∀ k, u1.ownBlock = some k → w.heap.size ≤ k := by
  have hs := hK.size
  refine ⟨(hK.alloc o).trans hK1 ?_, ?_⟩
  · rintro i hi (e | e)
    · omega
    · have := hub i e; omega
  · intro k hk
    rcases hM with e | ⟨j, e, hj⟩
    · exact hub k (by rw [← e]; exact hk)
    · rw [e] at hk; cases hk; rw [World.size_alloc] at hj; omega

set_option maxRecDepth 100000 in
set_option maxHeartbeats 2000000 in
theorem back_walk (a : Option Addr) (len cap b off : Nat) (ps : List PutD) (w : World) (hcap : len ≤ cap)
    (ha : a = some ⟨b, off, none⟩ ∨ len = 0) (hps : ∀ j : Nat, (ps[j]?.getD putD0).x < 18446744073709551616)
    (hcs : ∀ j, j < len → w.cell? ⟨b, off + j * 3, none⟩ = some (.int .u64 ((ps[j]?.getD putD0).x : Int)) ∧ w.cell? ⟨b, off + j * 3 + 1, none⟩ = some (.int .i64 (ps[j]?.getD putD0).n) ∧ w.cell? ⟨b, off + j * 3 + 2, none⟩ = some (.bool (ps[j]?.getD putD0).al)) :
    Calls Try.prog 5 #[.slice a len cap] w fun e w' => e = .returned (.bool true) ∧ Keep noBlock w w' := by
  have HP := (show Hid _ from hps)
  have HC := (show Hid _ from hcs)
  have hmx : Try.prog.follows .mixedOrders = true := by kernel_rfl
  clear hps hcs
  by_cases h300 : 300 < len
  · obtain rfl : a = some ⟨b, off, none⟩ := ha.elim id (fun e => by omega)
    clear ha
    have hcap3 : (300 : Int) ≤ (cap : Int) := by omega
    have hd3 : decide ((300 : Int) < (len : Int)) = true := decide_eq_true (by omega)
    go_enter Try.func5, Try.ntmps5
    go_wp2_with fail
    go_loopw [24] (fun i wr => ∃ (k : Nat) (u : Value), k ≤ 300 ∧ i = .int .i64 k ∧ Mine w wr u (laid ps k)) (fun i _ => 300 - (intOf i).toNat)
    case atStart => exact ⟨0, _, Nat.zero_le _, rfl, isW_new w, (Keep.refl _ w).alloc _, fun k e => (by cases e)⟩
    case round =>
      obtain ⟨k, u, hk, rfl, hMn⟩ := hrel
      obtain ⟨hW, hKr, hub⟩ := hMn
      have hLk := laid_le ps k
      by_cases hlt : k < 300
      · obtain ⟨d0, d1, d2⟩ := cellsAt HC hKr k (by omega)
        have hx := HP.out k
        have hst : laid ps (k + 1) = stepL (laid ps k) (ps[k]?.getD putD0) := rfl
        have HST := (show Hid _ from hst)
        clear hst
        generalize ps[k]?.getD putD0 = pd at d0 d1 d2 hx HST
        obtain ⟨x, n, al⟩ := pd
        dsimp only at d0 d1 d2 hx
        have hW1 : IsW (wr.alloc (.cells #[.int .u64 (x : Int), .int .i64 n, .bool al] 45)) w.heap.size u (laid ps k) := hW.keep ((Keep.refl noBlock wr).alloc _) (fun h => h) (fun _ _ h => h)
        have hpb := World.alloc_heap_new wr (.cells #[.int .u64 (x : Int), .int .i64 n, .bool al] 45)
        have hl1 := obj_lt hW.obj
        have hul : ∀ k, u.ownBlock = some k → k < wr.heap.size := hW.row_lt
        have hL2 : (laid ps k).length < 1000000000000 := by omega
        have HUB := (show Hid _ from hub)
        have HUL := (show Hid _ from hul)
        clear hub hul
        cases al with
        | true =>
          go_wp2_with fail
          refine (alignW_any w.heap.size u (laid ps k) hL2 _ hW1).mono ?_
          rintro e w1 ⟨rfl, u1, hWn, hM, hK1⟩
          obtain ⟨q1, q2⟩ := own_step HUB.out hKr hM hK1
          have hMn : Mine w w1 u1 (laid ps (k + 1)) := ⟨by rw [HST.out, stepL_align]; exact hWn, q1, q2⟩
          clear hW hW1 hKr d0 d1 d2 hWn hM hK1 q1 q2
          go_wp2_with fail
          go_roundw
          case rel => exact ⟨k + 1, u1, by omega, by go_num, hMn⟩
          case measure => simp [intOf]; omega
        | false =>
          by_cases hn : 0 ≤ n ∧ n ≤ 56
          · obtain ⟨m, rfl⟩ := Int.eq_ofNat_of_zero_le hn.1
            have hm : m ≤ 56 := by omega
            have hm2 : (m : Int) ≤ 56 := by omega
            have hm3 : decide ((m : Int) ≤ 56) = true := decide_eq_true hm2
            clear hn
            go_wp2_with fail
            refine (put_any w.heap.size u (laid ps k) x m hx hm hL2 _ hW1).mono ?_
            rintro e w1 ⟨rfl, u1, hWn, hM, hK1⟩
            obtain ⟨q1, q2⟩ := own_step HUB.out hKr hM hK1
            have hpb1 := hK1.obj (b := wr.heap.size) hpb (by rintro (e | e); omega; exact absurd (HUL.out _ e) (by omega))
            have hp1 : w1.cell? ⟨wr.heap.size, 1, none⟩ = some (.int .i64 (m : Int)) := cell_of hpb1 1
            have hMn : Mine w w1 u1 (laid ps (k + 1)) := ⟨by rw [HST.out, stepL_put _ x m hm]; exact hWn, q1, q2⟩
            clear hW hW1 hKr d0 d1 d2 hpb hWn hM hK1 q1 q2
            go_wp2_with fail
            go_roundw
            case rel => exact ⟨k + 1, u1, by omega, by go_num, hMn⟩
            case measure => simp [intOf]; omega
          · go_wp2_with fail
            refine (put_arg w.heap.size _ n hn _).mono ?_
            rintro e w1 ⟨rfl, hK1⟩
            have hWn := hW1.keep hK1 (fun h => h) (fun _ _ h => h)
            have q1 : Keep noBlock w w1 := (hKr.alloc _).trans' hK1
            have hpb1 := hK1.obj (b := wr.heap.size) hpb (fun h => h)
            have hp1 : w1.cell? ⟨wr.heap.size, 1, none⟩ = some (.int .i64 n) := cell_of hpb1 1
            have hMn : Mine w w1 u (laid ps (k + 1)) := ⟨by rw [HST.out, stepL_arg _ x n hn]; exact hWn, q1, HUB.out⟩
            clear hW hW1 hKr d0 d1 d2 hpb hWn hK1 q1
            by_cases h0 : 0 ≤ n
            all_goals
              go_wp2_with fail
              go_roundw
              case rel => exact ⟨k + 1, u, by omega, by go_num, hMn⟩
              case measure => simp [intOf]; omega
      · have hkN : 300 = k := by omega
        subst hkN
        obtain ⟨Lf, hLf⟩ : ∃ Lf, laid ps 300 = Lf := ⟨_, rfl⟩
        have HG : Hid (∀ k, k ≤ 300 → ∃ M, Lf = laid ps k ++ M) := fun k hk => by rw [← hLf]; exact laid_grows ps k 300 hk
        have HLE := (show Hid _ from hLf)
        rw [hLf] at hW hLk
        clear hLf hlt hk hub
        have hLl : Lf.length < 1099511627776 := by omega
        have hpl : (pack Lf).length ≤ 140737488355327 := by have := pack_room Lf; omega
        go_wp2_with fail
        refine (bytes_any w.heap.size u Lf hLl _ hW).mono ?_
        rintro e w1 ⟨v1, rfl, hown1, hK1⟩
        have hKw1 : Keep noBlock w w1 := hKr.trans' hK1
        clear hW hKr hK1
        go_wp2_with fail
        refine (new_any _ (pack Lf) hpl (pack_lt Lf) _ (Src.of_owns hown1)).mono ?_
        rintro e w2 ⟨rb, g, rfl, hrb, hg, hR, hK2⟩
        have hMr0 : MineR w w2 rb g (pack Lf) 0 := ⟨hR, hKw1.trans' hK2⟩
        have hsz := hKw1.size
        have hrbw : w.heap.size ≤ rb := by omega
        have hroom := pack_room Lf
        have HRM := (show Hid _ from hroom)
        clear hR hKw1 hK2 hown1 hroom hsz hrb hg hLk
        go_wp2_with fail
        go_loopw [55] (fun i wv => ∃ k : Nat, k ≤ 300 ∧ i = .int .i64 k ∧ MineR w wv rb g (pack Lf) (laid ps k).length) (fun i _ => 300 - (intOf i).toNat)
        case atStart => exact ⟨0, Nat.zero_le _, rfl, hMr0⟩
        case round =>
          clear hMr0
          obtain ⟨k, hk, rfl, hMr⟩ := hrel
          obtain ⟨hR, hKr⟩ := hMr
          by_cases hlt : k < 300
          · obtain ⟨d0, d1, d2⟩ := cellsAt HC hKr k (by omega)
            have hx := HP.out k
            have hst : laid ps (k + 1) = stepL (laid ps k) (ps[k]?.getD putD0) := rfl
            obtain ⟨M, hM⟩ := HG.out (k + 1) (by omega)
            have hle : (laid ps (k + 1)).length ≤ 8 * (pack Lf).length := by
              have h1 := congrArg List.length hM
              rw [List.length_append] at h1
              have := HRM.out; omega
            rw [hst] at hM hle
            generalize ps[k]?.getD putD0 = pd at d0 d1 d2 hx hst hM hle
            have HST := (show Hid _ from hst)
            have HM := (show Hid _ from hM)
            clear hst hM
            obtain ⟨x, n, al⟩ := pd
            dsimp only at d0 d1 d2 hx
            have hR1 : IsR (wr.alloc (.cells #[.int .u64 (x : Int), .int .i64 n, .bool al] 45)) rb g (pack Lf) (laid ps k).length := hR.keep ((Keep.refl noBlock wr).alloc _) (fun h => h) (fun _ h => h)
            have hKr1 : Keep noBlock w (wr.alloc (.cells #[.int .u64 (x : Int), .int .i64 n, .bool al] 45)) := hKr.alloc _
            have hpb := World.alloc_heap_new wr (.cells #[.int .u64 (x : Int), .int .i64 n, .bool al] 45)
            have hrl : rb < wr.heap.size := by obtain ⟨_, _, _, ho⟩ := hR.obj; exact obj_lt ho
            clear hR hKr
            cases al with
            | true =>
              rw [stepL_align] at hle
              have hz : numAt (pack Lf) (laid ps k).length ((8 - (laid ps k).length % 8) % 8) = 0 := num_back_zero (laid ps k) M _ Lf (by rw [← stepL_align (laid ps k) x n]; exact HM.out)
              have hp' : (laid ps k).length + (8 - (laid ps k).length % 8) % 8 = (laid ps (k + 1)).length := by rw [HST.out, stepL_align, List.length_append, low_length]
              have HZ := (show Hid _ from hz)
              have HPP := (show Hid _ from hp')
              clear hz hp' hle
              go_wp2_with fail
              refine (alignR_i rb g (pack Lf) (laid ps k).length 0 HZ.out _ HPP.out _ hR1).mono ?_
              rintro e w3 ⟨rfl, hR3, hK3⟩
              have hMr : MineR w w3 rb g (pack Lf) (laid ps (k + 1)).length := ⟨hR3, hKr1.trans hK3 (fun i hi e => by omega)⟩
              clear hR3 hK3 hKr1 d0 d1 d2 hR1 hpb
              go_wp2_with fail
              go_roundw
              case rel => exact ⟨k + 1, by omega, by go_num, hMr⟩
              case measure => simp [intOf]; omega
            | false =>
              by_cases hn : 0 ≤ n ∧ n ≤ 56
              · obtain ⟨m, rfl⟩ := Int.eq_ofNat_of_zero_le hn.1
                have hm : m ≤ 56 := by omega
                have hm2 : (m : Int) ≤ 56 := by omega
                have hm3 : decide ((m : Int) ≤ 56) = true := decide_eq_true hm2
                rw [stepL_put _ x m hm, List.length_append, low_length] at hle
                have hz : numAt (pack Lf) (laid ps k).length m = x % 2 ^ m := num_back (laid ps k) M x m Lf (by rw [← stepL_put (laid ps k) x m hm]; exact HM.out)
                have hp' : (laid ps k).length + m = (laid ps (k + 1)).length := by rw [HST.out, stepL_put _ x m hm, List.length_append, low_length]
                have HZ := (show Hid _ from hz)
                have HPP := (show Hid _ from hp')
                have hpa : (laid ps k).length + m ≤ (laid ps (k + 1)).length := by omega
                have hpc : (laid ps (k + 1)).length ≤ (laid ps k).length + m := by omega
                have hleq : ((((pack Lf).length : Int) * 8 - ((laid ps (k + 1)).length : Int)) != IntKind.i64.wrap (((pack Lf).length : Int) * 8 - ((laid ps k).length : Int) - (m : Int))) = false := by rw [bne_eq_false_iff_eq, IntKind.wrap_i64]; omega
                have hmk := mask_form x m hx hm
                generalize x % 2 ^ m = r at HZ hmk
                clear hz hp' hn
                go_wp2_with fail
                refine (left_any rb g (pack Lf) _ _ hR1).mono ?_
                rintro e w3 ⟨rfl, nq, rfl⟩
                go_wp2_with fail
                refine (bits_take_i rb g (pack Lf) (laid ps k).length m m rfl _ HZ.out _ HPP.out hm _ (hR1.drewN nq) hle).mono ?_
                rintro e w4 ⟨rfl, hR4, hK4⟩
                have hpb4 := hK4.obj (b := wr.heap.size) hpb (by omega)
                have hKw4 : Keep noBlock w w4 := (hKr1.trans' (keep_drewN _ nq)).trans hK4 (fun i hi e => by omega)
                have hp0 : w4.cell? ⟨wr.heap.size, 0, none⟩ = some (.int .u64 (x : Int)) := cell_of hpb4 0
                have hp1 : w4.cell? ⟨wr.heap.size, 1, none⟩ = some (.int .i64 (m : Int)) := cell_of hpb4 1
                have hMr : MineR w w4 rb g (pack Lf) (laid ps (k + 1)).length := ⟨hR4, hKw4⟩
                clear hR1 hK4 hKr1 d0 d1 d2 hpb hpb4
                go_wp2_with fail
                go_region_held3 (fun w' => w'.cell? ⟨wr.heap.size, 0, none⟩ = some (.int .u64 (x : Int)) ∧ w'.cell? ⟨wr.heap.size, 1, none⟩ = some (.int .i64 (m : Int)))
                  (go_keep)
                  ((first
                    | (go_at_call 12; refine (left_any rb g (pack Lf) (laid ps (k + 1)).length _ (hMr.isR.drewN 1)).mono ?_; rintro e w5 ⟨rfl, nr, rfl⟩)))
                go_wp2_with fail
                go_roundw
                case rel => exact ⟨k + 1, by omega, by go_num, hMr.drewN _⟩
                case measure => simp [intOf]; omega
              · have hsame : (laid ps k).length = (laid ps (k + 1)).length := by rw [HST.out, stepL_arg _ x n hn]
                rw [hsame] at hR1
                have hMr : MineR w (wr.alloc (.cells #[.int .u64 (x : Int), .int .i64 n, .bool false] 45)) rb g (pack Lf) (laid ps (k + 1)).length := ⟨hR1, hKr1⟩
                clear hR1 hKr1 hsame hle
                by_cases h0 : n < 0
                · go_wp2_with fail
                  go_roundw
                  case rel => exact ⟨k + 1, by omega, by go_num, hMr⟩
                  case measure => simp [intOf]; omega
                · have h56 : 56 < n := by omega
                  go_wp2_with fail
                  go_roundw
                  case rel => exact ⟨k + 1, by omega, by go_num, hMr⟩
                  case measure => simp [intOf]; omega
          · have hkN : 300 = k := by omega
            subst hkN
            have hle2 : (laid ps 300).length = Lf.length := by rw [HLE.out]
            rw [hle2] at hR
            clear hle2 hlt hk
            have hr1 := HRM.out
            have hnn : (0 : Int) ≤ ((pack Lf).length : Int) * 8 - (Lf.length : Int) := by omega
            have hn8 : ((pack Lf).length : Int) * 8 - (Lf.length : Int) < 8 := by omega
            clear hr1
            go_wp2_with fail
            refine (left_any rb g (pack Lf) _ _ hR).mono ?_
            rintro e w3 ⟨rfl, nq, rfl⟩
            go_wp2_with fail
            refine (left_any rb g (pack Lf) _ _ (hR.drewN nq)).mono ?_
            rintro e w4 ⟨rfl, nr, rfl⟩
            go_wp2_with fail
            refine (wakes_any _).mono ?_
            rintro e w5 ⟨rfl, hk5⟩
            go_wp2_with fail
            go_ret
            exact ⟨rfl, (hKr.trans' (keep_drewN _ _)).trans' hk5⟩
  · have HA := (show Hid _ from ha)
    clear ha
    have hd3 : decide ((300 : Int) < (len : Int)) = false := decide_eq_false (by omega)
    go_enter Try.func5, Try.ntmps5
    go_wp2_with fail
    go_loopw [24] (fun i wr => ∃ (k : Nat) (u : Value), k ≤ len ∧ i = .int .i64 k ∧ Mine w wr u (laid ps k)) (fun i _ => len - (intOf i).toNat)
    case atStart => exact ⟨0, _, Nat.zero_le _, rfl, isW_new w, (Keep.refl _ w).alloc _, fun k e => (by cases e)⟩
    case round =>
      obtain ⟨k, u, hk, rfl, hMn⟩ := hrel
      obtain ⟨hW, hKr, hub⟩ := hMn
      have hLk := laid_le ps k
      by_cases hlt : k < len
      · obtain rfl : a = some ⟨b, off, none⟩ := HA.out.elim id (fun e => by omega)
        obtain ⟨d0, d1, d2⟩ := cellsAt HC hKr k (by omega)
        have hx := HP.out k
        have hst : laid ps (k + 1) = stepL (laid ps k) (ps[k]?.getD putD0) := rfl
        have HST := (show Hid _ from hst)
        clear hst
        generalize ps[k]?.getD putD0 = pd at d0 d1 d2 hx HST
        obtain ⟨x, n, al⟩ := pd
        dsimp only at d0 d1 d2 hx
        have hW1 : IsW (wr.alloc (.cells #[.int .u64 (x : Int), .int .i64 n, .bool al] 45)) w.heap.size u (laid ps k) := hW.keep ((Keep.refl noBlock wr).alloc _) (fun h => h) (fun _ _ h => h)
        have hpb := World.alloc_heap_new wr (.cells #[.int .u64 (x : Int), .int .i64 n, .bool al] 45)
        have hl1 := obj_lt hW.obj
        have hul : ∀ k, u.ownBlock = some k → k < wr.heap.size := hW.row_lt
        have hL2 : (laid ps k).length < 1000000000000 := by omega
        have HUB := (show Hid _ from hub)
        have HUL := (show Hid _ from hul)
        clear hub hul
        cases al with
        | true =>
          go_wp2_with fail
          refine (alignW_any w.heap.size u (laid ps k) hL2 _ hW1).mono ?_
          rintro e w1 ⟨rfl, u1, hWn, hM, hK1⟩
          obtain ⟨q1, q2⟩ := own_step HUB.out hKr hM hK1
          have hMn : Mine w w1 u1 (laid ps (k + 1)) := ⟨by rw [HST.out, stepL_align]; exact hWn, q1, q2⟩
          clear hW hW1 hKr d0 d1 d2 hWn hM hK1 q1 q2
          go_wp2_with fail
          go_roundw
          case rel => exact ⟨k + 1, u1, by omega, by go_num, hMn⟩
          case measure => simp [intOf]; omega
        | false =>
          by_cases hn : 0 ≤ n ∧ n ≤ 56
          · obtain ⟨m, rfl⟩ := Int.eq_ofNat_of_zero_le hn.1
            have hm : m ≤ 56 := by omega
            have hm2 : (m : Int) ≤ 56 := by omega
            have hm3 : decide ((m : Int) ≤ 56) = true := decide_eq_true hm2
            clear hn
            go_wp2_with fail
            refine (put_any w.heap.size u (laid ps k) x m hx hm hL2 _ hW1).mono ?_
            rintro e w1 ⟨rfl, u1, hWn, hM, hK1⟩
            obtain ⟨q1, q2⟩ := own_step HUB.out hKr hM hK1
            have hpb1 := hK1.obj (b := wr.heap.size) hpb (by rintro (e | e); omega; exact absurd (HUL.out _ e) (by omega))
            have hp1 : w1.cell? ⟨wr.heap.size, 1, none⟩ = some (.int .i64 (m : Int)) := cell_of hpb1 1
            have hMn : Mine w w1 u1 (laid ps (k + 1)) := ⟨by rw [HST.out, stepL_put _ x m hm]; exact hWn, q1, q2⟩
            clear hW hW1 hKr d0 d1 d2 hpb hWn hM hK1 q1 q2
            go_wp2_with fail
            go_roundw
            case rel => exact ⟨k + 1, u1, by omega, by go_num, hMn⟩
            case measure => simp [intOf]; omega
          · go_wp2_with fail
            refine (put_arg w.heap.size _ n hn _).mono ?_
            rintro e w1 ⟨rfl, hK1⟩
            have hWn := hW1.keep hK1 (fun h => h) (fun _ _ h => h)
            have q1 : Keep noBlock w w1 := (hKr.alloc _).trans' hK1
            have hpb1 := hK1.obj (b := wr.heap.size) hpb (fun h => h)
            have hp1 : w1.cell? ⟨wr.heap.size, 1, none⟩ = some (.int .i64 n) := cell_of hpb1 1
            have hMn : Mine w w1 u (laid ps (k + 1)) := ⟨by rw [HST.out, stepL_arg _ x n hn]; exact hWn, q1, HUB.out⟩
            clear hW hW1 hKr d0 d1 d2 hpb hWn hK1 q1
            by_cases h0 : 0 ≤ n
            all_goals
              go_wp2_with fail
              go_roundw
              case rel => exact ⟨k + 1, u, by omega, by go_num, hMn⟩
              case measure => simp [intOf]; omega
      · have hkN : len = k := by omega
        subst hkN
        obtain ⟨Lf, hLf⟩ : ∃ Lf, laid ps len = Lf := ⟨_, rfl⟩
        have HG : Hid (∀ k, k ≤ len → ∃ M, Lf = laid ps k ++ M) := fun k hk => by rw [← hLf]; exact laid_grows ps k len hk
        have HLE := (show Hid _ from hLf)
        rw [hLf] at hW hLk
        clear hLf hlt hk hub
        have hLl : Lf.length < 1099511627776 := by omega
        have hpl : (pack Lf).length ≤ 140737488355327 := by have := pack_room Lf; omega
        go_wp2_with fail
        refine (bytes_any w.heap.size u Lf hLl _ hW).mono ?_
        rintro e w1 ⟨v1, rfl, hown1, hK1⟩
        have hKw1 : Keep noBlock w w1 := hKr.trans' hK1
        clear hW hKr hK1
        go_wp2_with fail
        refine (new_any _ (pack Lf) hpl (pack_lt Lf) _ (Src.of_owns hown1)).mono ?_
        rintro e w2 ⟨rb, g, rfl, hrb, hg, hR, hK2⟩
        have hMr0 : MineR w w2 rb g (pack Lf) 0 := ⟨hR, hKw1.trans' hK2⟩
        have hsz := hKw1.size
        have hrbw : w.heap.size ≤ rb := by omega
        have hroom := pack_room Lf
        have HRM := (show Hid _ from hroom)
        clear hR hKw1 hK2 hown1 hroom hsz hrb hg hLk
        go_wp2_with fail
        go_loopw [55] (fun i wv => ∃ k : Nat, k ≤ len ∧ i = .int .i64 k ∧ MineR w wv rb g (pack Lf) (laid ps k).length) (fun i _ => len - (intOf i).toNat)
        case atStart => exact ⟨0, Nat.zero_le _, rfl, hMr0⟩
        case round =>
          clear hMr0
          obtain ⟨k, hk, rfl, hMr⟩ := hrel
          obtain ⟨hR, hKr⟩ := hMr
          by_cases hlt : k < len
          · obtain rfl : a = some ⟨b, off, none⟩ := HA.out.elim id (fun e => by omega)
            obtain ⟨d0, d1, d2⟩ := cellsAt HC hKr k (by omega)
            have hx := HP.out k
            have hst : laid ps (k + 1) = stepL (laid ps k) (ps[k]?.getD putD0) := rfl
            obtain ⟨M, hM⟩ := HG.out (k + 1) (by omega)
            have hle : (laid ps (k + 1)).length ≤ 8 * (pack Lf).length := by
              have h1 := congrArg List.length hM
              rw [List.length_append] at h1
              have := HRM.out; omega
            rw [hst] at hM hle
            generalize ps[k]?.getD putD0 = pd at d0 d1 d2 hx hst hM hle
            have HST := (show Hid _ from hst)
            have HM := (show Hid _ from hM)
            clear hst hM
            obtain ⟨x, n, al⟩ := pd
            dsimp only at d0 d1 d2 hx
            have hR1 : IsR (wr.alloc (.cells #[.int .u64 (x : Int), .int .i64 n, .bool al] 45)) rb g (pack Lf) (laid ps k).length := hR.keep ((Keep.refl noBlock wr).alloc _) (fun h => h) (fun _ h => h)
            have hKr1 : Keep noBlock w (wr.alloc (.cells #[.int .u64 (x : Int), .int .i64 n, .bool al] 45)) := hKr.alloc _
            have hpb := World.alloc_heap_new wr (.cells #[.int .u64 (x : Int), .int .i64 n, .bool al] 45)
            have hrl : rb < wr.heap.size := by obtain ⟨_, _, _, ho⟩ := hR.obj; exact obj_lt ho
            clear hR hKr
            cases al with
            | true =>
              rw [stepL_align] at hle
              have hz : numAt (pack Lf) (laid ps k).length ((8 - (laid ps k).length % 8) % 8) = 0 := num_back_zero (laid ps k) M _ Lf (by rw [← stepL_align (laid ps k) x n]; exact HM.out)
              have hp' : (laid ps k).length + (8 - (laid ps k).length % 8) % 8 = (laid ps (k + 1)).length := by rw [HST.out, stepL_align, List.length_append, low_length]
              have HZ := (show Hid _ from hz)
              have HPP := (show Hid _ from hp')
              clear hz hp' hle
              go_wp2_with fail
              refine (alignR_i rb g (pack Lf) (laid ps k).length 0 HZ.out _ HPP.out _ hR1).mono ?_
              rintro e w3 ⟨rfl, hR3, hK3⟩
              have hMr : MineR w w3 rb g (pack Lf) (laid ps (k + 1)).length := ⟨hR3, hKr1.trans hK3 (fun i hi e => by omega)⟩
              clear hR3 hK3 hKr1 d0 d1 d2 hR1 hpb
              go_wp2_with fail
              go_roundw
              case rel => exact ⟨k + 1, by omega, by go_num, hMr⟩
              case measure => simp [intOf]; omega
            | false =>
              by_cases hn : 0 ≤ n ∧ n ≤ 56
              · obtain ⟨m, rfl⟩ := Int.eq_ofNat_of_zero_le hn.1
                have hm : m ≤ 56 := by omega
                have hm2 : (m : Int) ≤ 56 := by omega
                have hm3 : decide ((m : Int) ≤ 56) = true := decide_eq_true hm2
                rw [stepL_put _ x m hm, List.length_append, low_length] at hle
                have hz : numAt (pack Lf) (laid ps k).length m = x % 2 ^ m := num_back (laid ps k) M x m Lf (by rw [← stepL_put (laid ps k) x m hm]; exact HM.out)
                have hp' : (laid ps k).length + m = (laid ps (k + 1)).length := by rw [HST.out, stepL_put _ x m hm, List.length_append, low_length]
                have HZ := (show Hid _ from hz)
                have HPP := (show Hid _ from hp')
                have hpa : (laid ps k).length + m ≤ (laid ps (k + 1)).length := by omega
                have hpc : (laid ps (k + 1)).length ≤ (laid ps k).length + m := by omega
                have hleq : ((((pack Lf).length : Int) * 8 - ((laid ps (k + 1)).length : Int)) != IntKind.i64.wrap (((pack Lf).length : Int) * 8 - ((laid ps k).length : Int) - (m : Int))) = false := by rw [bne_eq_false_iff_eq, IntKind.wrap_i64]; omega
                have hmk := mask_form x m hx hm
                generalize x % 2 ^ m = r at HZ hmk
                clear hz hp' hn
                go_wp2_with fail
                refine (left_any rb g (pack Lf) _ _ hR1).mono ?_
                rintro e w3 ⟨rfl, nq, rfl⟩
                go_wp2_with fail
                refine (bits_take_i rb g (pack Lf) (laid ps k).length m m rfl _ HZ.out _ HPP.out hm _ (hR1.drewN nq) hle).mono ?_
                rintro e w4 ⟨rfl, hR4, hK4⟩
                have hpb4 := hK4.obj (b := wr.heap.size) hpb (by omega)
                have hKw4 : Keep noBlock w w4 := (hKr1.trans' (keep_drewN _ nq)).trans hK4 (fun i hi e => by omega)
                have hp0 : w4.cell? ⟨wr.heap.size, 0, none⟩ = some (.int .u64 (x : Int)) := cell_of hpb4 0
                have hp1 : w4.cell? ⟨wr.heap.size, 1, none⟩ = some (.int .i64 (m : Int)) := cell_of hpb4 1
                have hMr : MineR w w4 rb g (pack Lf) (laid ps (k + 1)).length := ⟨hR4, hKw4⟩
                clear hR1 hK4 hKr1 d0 d1 d2 hpb hpb4
                go_wp2_with fail
                go_region_held3 (fun w' => w'.cell? ⟨wr.heap.size, 0, none⟩ = some (.int .u64 (x : Int)) ∧ w'.cell? ⟨wr.heap.size, 1, none⟩ = some (.int .i64 (m : Int)))
                  (go_keep)
                  ((first
                    | (go_at_call 12; refine (left_any rb g (pack Lf) (laid ps (k + 1)).length _ (hMr.isR.drewN 1)).mono ?_; rintro e w5 ⟨rfl, nr, rfl⟩)))
                go_wp2_with fail
                go_roundw
                case rel => exact ⟨k + 1, by omega, by go_num, hMr.drewN _⟩
                case measure => simp [intOf]; omega
              · have hsame : (laid ps k).length = (laid ps (k + 1)).length := by rw [HST.out, stepL_arg _ x n hn]
                rw [hsame] at hR1
                have hMr : MineR w (wr.alloc (.cells #[.int .u64 (x : Int), .int .i64 n, .bool false] 45)) rb g (pack Lf) (laid ps (k + 1)).length := ⟨hR1, hKr1⟩
                clear hR1 hKr1 hsame hle
                by_cases h0 : n < 0
                · go_wp2_with fail
                  go_roundw
                  case rel => exact ⟨k + 1, by omega, by go_num, hMr⟩
                  case measure => simp [intOf]; omega
                · have h56 : 56 < n := by omega
                  go_wp2_with fail
                  go_roundw
                  case rel => exact ⟨k + 1, by omega, by go_num, hMr⟩
                  case measure => simp [intOf]; omega
          · have hkN : len = k := by omega
            subst hkN
            have hle2 : (laid ps len).length = Lf.length := by rw [HLE.out]
            rw [hle2] at hR
            clear hle2 hlt hk
            have hr1 := HRM.out
            have hnn : (0 : Int) ≤ ((pack Lf).length : Int) * 8 - (Lf.length : Int) := by omega
            have hn8 : ((pack Lf).length : Int) * 8 - (Lf.length : Int) < 8 := by omega
            clear hr1
            go_wp2_with fail
            refine (left_any rb g (pack Lf) _ _ hR).mono ?_
            rintro e w3 ⟨rfl, nq, rfl⟩
            go_wp2_with fail
            refine (left_any rb g (pack Lf) _ _ (hR.drewN nq)).mono ?_
            rintro e w4 ⟨rfl, nr, rfl⟩
            go_wp2_with fail
            refine (wakes_any _).mono ?_
            rintro e w5 ⟨rfl, hk5⟩
            go_wp2_with fail
            go_ret
            exact ⟨rfl, (hKr.trans' (keep_drewN _ _)).trans' hk5⟩

end Go.Proofs.Ytajhobjjkcnomaa
