/-
  settle: the counts are brought to all states; it comes to an end.
-/
import Derived.Test.YtoffnhbopjaocaaGai
namespace Go.Proofs.Ytoffnhbopjaocaa
open Go.RowKit Go.Shelf

/-- Counts on their way. -/
def InvC (f c : Nat → Nat) (n : Nat) : Prop := ∀ i, i < n → (0 < f i → 1 ≤ c i) ∧ (f i = 0 → c i = 0) ∧ c i ≤ 4096
/-- How many symbols are there. -/
def usedN (f : Nat → Nat) (n : Nat) : Nat := sumN (fun i => if 0 < f i then 1 else 0) n
/-- The counts as they lie. -/
def cOf (cb : Nat) (w : World) (i : Nat) : Nat := match w.cell? ⟨cb, i, none⟩ with | some (.int _ x) => x.toNat | _ => 0
theorem cOf_eq {cb n : Nat} {c : Nat → Nat} {w : World} (h : IsA w cb 42 .i16 n (fun i => ((c i : Nat) : Int))) (i : Nat) (hi : i < n) : cOf cb w i = c i := by
  unfold cOf; rw [h.cell i hi]; simp
theorem potF_eq {cb n : Nat} {c f : Nat → Nat} {w : World} (h : IsA w cb 42 .i16 n (fun i => ((c i : Nat) : Int))) : potF f (cOf cb w) n = potF f c n :=
  sumN_congr _ _ n (fun i hi => by show f i * SP (cOf cb w i) = f i * SP (c i); rw [cOf_eq h i hi])
/-- Far from the end. -/
def farN (f : Nat → Nat) (cb n : Nat) (v6 : Value) (w : World) : Nat := (intOf v6).natAbs * (potMax + 1) + (potMax - potF f (cOf cb w) n)

theorem some_two (f c : Nat → Nat) (n S : Nat) (hI : InvC f c n) (hU : usedN f n ≤ S) (h : S < sumN c n) : ∃ j, j < n ∧ 2 ≤ c j := by
  refine Classical.byContradiction fun hno => ?_
  have : sumN c n ≤ usedN f n := sumN_mono _ _ n (fun i hi => by
    have h1 := hI i hi
    have h2 : ¬ 2 ≤ c i := fun h => hno ⟨i, hi, h⟩
    by_cases hf : 0 < f i
    · rw [if_pos hf]; omega
    · rw [if_neg hf, h1.2.1 (by omega)]; omega)
  omega
theorem some_there (f : Nat → Nat) (n : Nat) (h : 0 < usedN f n) : ∃ j, j < n ∧ 0 < f j := by
  refine Classical.byContradiction fun hno => ?_
  have : usedN f n ≤ n * 0 := sumN_le _ n 0 (fun i hi => by
    have h2 : ¬ 0 < f i := fun h => hno ⟨i, hi, h⟩
    rw [if_neg h2]; omega)
  omega
theorem most_there {f c : Nat → Nat} {n s g : Nat} (h : IsMost f c n s g) (hI : InvC f c n) (hU : 0 < usedN f n) : s < n ∧ g = f s * savedN (c s) ∧ 0 < g ∧ 0 < f s := by
  rcases h with ⟨_, _, h3⟩ | ⟨h1, h2, h3⟩
  · obtain ⟨j, hj, hf⟩ := some_there f n hU
    have h4 := hI j hj
    have h5 := (saved_facts (c j) (h4.1 hf) h4.2.2).1
    have := h3 j hj
    have h6 : 0 < f j * savedN (c j) := Nat.mul_pos hf h5
    omega
  · refine ⟨h1, h2, h3, ?_⟩
    rcases Nat.eq_zero_or_pos (f s) with e | e
    · rw [e, Nat.zero_mul] at h2; omega
    · exact e

theorem far_less {f : Nat → Nat} {cb n : Nat} {x y : Int} {w w' : World} (h : y.natAbs + 1 = x.natAbs) : farN f cb n (.int .i64 y) w' < farN f cb n (.int .i64 x) w := by
  unfold farN
  show y.natAbs * (potMax + 1) + _ < x.natAbs * (potMax + 1) + _
  rw [← h, Nat.succ_mul]
  omega
theorem far_same {f c c' : Nat → Nat} {cb n : Nat} {x : Int} {w w' : World} (h : IsA w cb 42 .i16 n (fun i => ((c i : Nat) : Int))) (h' : IsA w' cb 42 .i16 n (fun i => ((c' i : Nat) : Int))) (hp : potF f c n < potF f c' n) (hb : potF f c' n ≤ potMax) : farN f cb n (.int .i64 x) w' < farN f cb n (.int .i64 x) w := by
  unfold farN
  rw [potF_eq h, potF_eq h']
  omega
theorem InvC.up {f c : Nat → Nat} {n i : Nat} (h : InvC f c n) (hf : 0 < f i) (hb : c i + 1 ≤ 4096) : InvC f (fun j => if j = i then c i + 1 else c j) n := fun j hj => by
  dsimp only
  by_cases e : j = i
  · subst e; rw [if_pos rfl]; exact ⟨fun _ => by omega, fun e => by omega, hb⟩
  · rw [if_neg e]; exact h j hj
theorem InvC.down {f c : Nat → Nat} {n i : Nat} (h : InvC f c n) (hi : i < n) (h2 : 2 ≤ c i) : InvC f (fun j => if j = i then c i - 1 else c j) n := fun j hj => by
  dsimp only
  have := h i hi
  by_cases e : j = i
  · subst e; rw [if_pos rfl]; exact ⟨fun _ => by omega, fun e => by have := this.2.1 e; omega, by omega⟩
  · rw [if_neg e]; exact h j hj
theorem sum_up (c : Nat → Nat) (n i : Nat) (hi : i < n) : sumN (fun j => if j = i then c i + 1 else c j) n = sumN c n + 1 := by
  have := sumN_set c (fun j => if j = i then c i + 1 else c j) n i hi (fun k _ hk => by simp [hk])
  simp only [if_true] at this
  omega
theorem sum_down (c : Nat → Nat) (n i : Nat) (hi : i < n) (h2 : 2 ≤ c i) : sumN (fun j => if j = i then c i - 1 else c j) n + 1 = sumN c n := by
  have := sumN_set c (fun j => if j = i then c i - 1 else c j) n i hi (fun k _ hk => by simp [hk])
  simp only [if_true] at this
  omega
theorem isA_up {w : World} {cb n : Nat} {c : Nat → Nat} (h : IsA w cb 42 .i16 n (fun i => ((c i : Nat) : Int))) (i : Nat) (v : Int) (x : Nat) (hv : v = (x : Int)) : IsA (w.setCell ⟨cb, i, none⟩ (.int .i16 v)) cb 42 .i16 n (fun j => (((if j = i then x else c j) : Nat) : Int)) :=
  (h.set i v).congr (fun j _ => by split <;> first | exact hv | rfl)

set_option maxRecDepth 100000 in
set_option maxHeartbeats 4000000 in
theorem settle_any (cb S : Nat) (c0 : Nat → Nat) (a : Option Addr) (cap gb off : Nat) (fs : List Int) (w : World) (hA : IsA w cb 42 .i16 fs.length (fun i => ((c0 i : Nat) : Int))) (hR : RowI w .u32 a cap gb off fs) (hgb : fs ≠ [] → gb ≠ cb) (hu : U32 fs) (hl : fs.length ≤ 256) (hI : InvC (fr fs) c0 fs.length) (hU0 : 0 < usedN (fr fs) fs.length) (hUS : usedN (fr fs) fs.length ≤ S) (hS : S ≤ 4096) :
    Calls Try.prog 48 #[.slice (some ⟨cb, 0, none⟩) fs.length fs.length, .slice a fs.length cap, .int .i64 (S : Int)] w fun e w' => e = .returned (.tuple #[]) ∧ ∃ c : Nat → Nat, IsA w' cb 42 .i16 fs.length (fun i => ((c i : Nat) : Int)) ∧ InvC (fr fs) c fs.length ∧ sumN c fs.length = S ∧ Keep (fun k => k = cb) w w' := by
  have HH := (show Hid (RowI w .u32 a cap gb off fs ∧ (fs ≠ [] → gb ≠ cb) ∧ U32 fs ∧ 0 < usedN (fr fs) fs.length ∧ usedN (fr fs) fs.length ≤ S ∧ fs.length ≤ 256) from ⟨hR, hgb, hu, hU0, hUS, hl⟩)
  have HA := (show Hid (IsA w cb 42 .i16 fs.length (fun i => ((c0 i : Nat) : Int)) ∧ InvC (fr fs) c0 fs.length) from ⟨hA, hI⟩)
  obtain ⟨n, hn⟩ : ∃ n, n = fs.length := ⟨_, rfl⟩
  rw [← hn] at hl HA HH ⊢
  have HN := (show Hid (n = fs.length) from hn)
  have hSI : (S : Int) ≤ 4096 := by omega
  have hnI : (n : Int) ≤ 256 := by omega
  clear hA hR hgb hu hI hU0 hUS hn
  go_enter Try.func48, Try.ntmps48
  go_wp2_with fail
  go_loop [6, 16] (fun v6 v16 => ∃ i : Nat, v16 = .int .i64 (i : Int) ∧ v6 = .int .i64 ((S : Int) - ((sumN c0 i : Nat) : Int)) ∧ i ≤ n) (fun _ v16 => n - (intOf v16).toNat)
  case atStart => exact ⟨0, rfl, by simp [sumN], Nat.zero_le _⟩
  case round =>
    obtain ⟨i, rfl, rfl, hi⟩ := hrel
    have hsb : sumN c0 i ≤ i * 4096 := sumN_le c0 i 4096 (fun j hj => (HA.out.2 j (by omega)).2.2)
    by_cases hlt : i < n
    · have c1 := HA.out.1.cell i hlt
      have hci := (HA.out.2 i hlt).2.2
      have HSU := (show Hid (sumN c0 (i + 1) = sumN c0 i + c0 i) from rfl)
      have hltI : (i : Int) < (n : Int) := by omega
      have hcI : ((c0 i : Nat) : Int) ≤ 4096 := by omega
      have hsI : ((sumN c0 i : Nat) : Int) ≤ 1048576 := by omega
      generalize c0 i = ci at *
      generalize sumN c0 i = si at *
      clear hci hsb
      go_wp2_with fail
      go_round
      case rel => exact ⟨i + 1, by go_num, by rw [HSU.out]; congr 1; omega, by omega⟩
      case measure => simp [intOf]; omega
    · obtain rfl : i = n := by omega
      have hltI : ¬ (i : Int) < (i : Int) := by omega
      go_wp2_with fail
      go_loopw [6] (fun v6 wr => ∃ (sp : Int) (c : Nat → Nat), v6 = .int .i64 sp ∧ -1048576 ≤ sp ∧ sp ≤ 4096 ∧ Hid (IsA wr cb 42 .i16 i (fun i => ((c i : Nat) : Int)) ∧ InvC (fr fs) c i ∧ ((sumN c i : Nat) : Int) + sp = (S : Int) ∧ Keep (fun k => k = cb) w wr)) (fun v6 wr => farN (fr fs) cb i v6 wr)
      case atStart => exact ⟨_, c0, rfl, by omega, by omega, HA.out.1, HA.out.2, by omega, Keep.refl _ _⟩
      case round =>
        clear HA hsb
        obtain ⟨sp, c, rfl, hsp1, hsp2, HC⟩ := hrel
        obtain ⟨hA, hI, hsum, hK⟩ := HC.out
        obtain ⟨hR, hgb, hu, hU0, hUS, hl⟩ := HH.out
        have hR2 := hR.keep hK hgb
        have hn := HN.out
        have h1 := mostGain_any cb c a cap gb off fs wr (by rw [← hn]; exact hA) hR2 hu (by omega) (fun j hj => (hI j (by omega)).2.2) (fun j hj e => by
          have h3 := hI j (by omega)
          rcases Nat.eq_zero_or_pos (fr fs j) with e2 | e2
          · exact e2
          · have := h3.1 e2; omega)
        have h2 := leastLoss_any cb c a cap gb off fs wr (by rw [← hn]; exact hA) hR2 hu (by omega) (fun j hj => (hI j (by omega)).2.2)
        rw [← hn] at h1 h2
        have H1 := (show Hid (Calls Try.prog 66 _ wr _) from h1)
        have H2 := (show Hid (Calls Try.prog 67 _ wr _) from h2)
        clear h1 h2 hR hgb hu hR2 hn hA hI hsum hK
        go_wp2_with fail
        refine H1.out.mono ?_
        rintro e w1 ⟨to_, gain, rfl, hmost, rfl⟩
        go_wp2_with fail
        refine H2.out.mono ?_
        rintro e w1 ⟨from_, loss, rfl, hleast, hlossb, rfl⟩
        clear H1 H2
        obtain ⟨hA, hI, hsum, hK⟩ := HC.out
        obtain ⟨m1, m2, m3, m4⟩ := most_there hmost hI hU0
        have hgb2 : gain < 9223372036854775808 := gain_lt _ _ gain (fr_lt HH.out.2.2.1 to_) (hI to_ m1).2.2 (fun e => by have := (hI to_ m1).1 m4; omega) m2
        have hkk : ∀ (W : World) (j : Nat) (v : Value), Keep (fun k => k = cb) w W → Keep (fun k => k = cb) w (W.setCell ⟨cb, j, none⟩ v) := fun W j v hk => Keep.setCell (S := fun k => k = cb) (p := ⟨cb, j, none⟩) hk (fun _ => rfl) _
        by_cases hp : 0 < sp
        · have hge := sumN_ge c i to_ m1
          have hup := isA_up hA to_ (((c to_ : Nat) : Int) + 1) (c to_ + 1) (by omega)
          have HG := (show Hid (IsA (w1.setCell ⟨cb, to_, none⟩ (.int .i16 (((c to_ : Nat) : Int) + 1))) cb 42 .i16 i (fun j => (((if j = to_ then c to_ + 1 else c j) : Nat) : Int)) ∧ InvC (fr fs) (fun j => if j = to_ then c to_ + 1 else c j) i ∧ ((sumN (fun j => if j = to_ then c to_ + 1 else c j) i : Nat) : Int) + (sp - 1) = (S : Int) ∧ Keep (fun k => k = cb) w (w1.setCell ⟨cb, to_, none⟩ (.int .i16 (((c to_ : Nat) : Int) + 1)))) from
            ⟨hup, hI.up m4 (by omega), by rw [sum_up c i to_ m1]; omega, hkk _ _ _ hK⟩)
          have ct := hA.cell to_ m1
          have ft := hA.frozen to_
          have hcb : ((c to_ : Nat) : Int) ≤ 4096 := by omega
          have htI : (to_ : Int) < (i : Int) := by omega
          clear hA hI hsum hK m2 m3 m4 hmost hleast hkk hup HC hge
          generalize c to_ = x at *
          go_wp2_with fail
          go_roundw
          case rel => exact ⟨sp - 1, _, rfl, by omega, by omega, HG⟩
          case measure => exact far_less (by omega)
        · by_cases hq : sp < 0
          · obtain ⟨l1, l2, l3⟩ : from_ < i ∧ loss = fr fs from_ * savedN (c from_ - 1) ∧ 2 ≤ c from_ := by
              rcases hleast with ⟨_, _, h3⟩ | h
              · obtain ⟨j, hj, h4⟩ := some_two (fr fs) c i S hI hUS (by omega)
                have := h3 j hj; omega
              · exact h
            have hdn := isA_up hA from_ (((c from_ : Nat) : Int) - 1) (c from_ - 1) (by omega)
            have hsd := sum_down c i from_ l1 l3
            have HG := (show Hid (IsA (w1.setCell ⟨cb, from_, none⟩ (.int .i16 (((c from_ : Nat) : Int) - 1))) cb 42 .i16 i (fun j => (((if j = from_ then c from_ - 1 else c j) : Nat) : Int)) ∧ InvC (fr fs) (fun j => if j = from_ then c from_ - 1 else c j) i ∧ ((sumN (fun j => if j = from_ then c from_ - 1 else c j) i : Nat) : Int) + (sp + 1) = (S : Int) ∧ Keep (fun k => k = cb) w (w1.setCell ⟨cb, from_, none⟩ (.int .i16 (((c from_ : Nat) : Int) - 1)))) from
              ⟨hdn, hI.down l1 l3, by omega, hkk _ _ _ hK⟩)
            have ct := hA.cell from_ l1
            have ft := hA.frozen from_
            have hcb : ((c from_ : Nat) : Int) ≤ 4096 := by have := (hI from_ l1).2.2; omega
            have hcl : (2 : Int) ≤ ((c from_ : Nat) : Int) := by omega
            have htI : (from_ : Int) < (i : Int) := by omega
            clear hA hI hsum hK m2 m3 m4 hmost hleast hkk hdn HC hsd l2 l3
            generalize c from_ = x at *
            go_wp2_with fail
            go_roundw
            case rel => exact ⟨sp + 1, _, rfl, by omega, by omega, HG⟩
            case measure => exact far_less (by omega)
          · obtain rfl : sp = 0 := by omega
            have hgI : (gain : Int) < 9223372036854775808 := by omega
            have hlI : (loss : Int) ≤ 18446744073709551615 := by omega
            by_cases hgl : loss < gain
            · obtain ⟨l1, l2, l3⟩ : from_ < i ∧ loss = fr fs from_ * savedN (c from_ - 1) ∧ 2 ≤ c from_ := by
                rcases hleast with ⟨h1, _, _⟩ | h
                · omega
                · exact h
              have hne : to_ ≠ from_ := by
                rintro rfl
                have h5 := (saved_facts (c to_ - 1) (by omega) (by have := (hI to_ m1).2.2; omega)).2.2
                rw [show c to_ - 1 + 1 = c to_ from by omega] at h5
                have : fr fs to_ * savedN (c to_) ≤ fr fs to_ * savedN (c to_ - 1) := Nat.mul_le_mul_left _ h5
                omega
              have htwo := sumN_two c i to_ from_ m1 l1 hne
              have hup := isA_up hA to_ (((c to_ : Nat) : Int) + 1) (c to_ + 1) (by omega)
              have hI2 := hI.up (i := to_) m4 (by omega)
              have hdn := isA_up hup from_ (((c from_ : Nat) : Int) - 1) (c from_ - 1) (by omega)
              have l3' : 2 ≤ (fun j => if j = to_ then c to_ + 1 else c j) from_ := by dsimp only; rw [if_neg (fun h => hne h.symm)]; exact l3
              have hI3 := hI2.down l1 l3'
              have hs1 := sum_up c i to_ m1
              have hs2 := sum_down (fun j => if j = to_ then c to_ + 1 else c j) i from_ l1 l3'
              have efr : (if from_ = to_ then c to_ + 1 else c from_) = c from_ := if_neg (fun h => hne h.symm)
              simp only [efr] at hI3 hs2
              have hpm := pot_move (fr fs) c i to_ from_ m1 l1 hne l3 (by rw [← l2, ← m2]; exact hgl)
              have hpb := pot_le (fr fs) (fun k => if k = from_ then c from_ - 1 else if k = to_ then c to_ + 1 else c k) i (by omega) (fr_lt HH.out.2.2.1) (fun j hj => (hI3 j hj).2.2)
              have HG := (show Hid (IsA ((w1.setCell ⟨cb, to_, none⟩ (.int .i16 (((c to_ : Nat) : Int) + 1))).setCell ⟨cb, from_, none⟩ (.int .i16 (((c from_ : Nat) : Int) - 1))) cb 42 .i16 i (fun j => (((if j = from_ then c from_ - 1 else if j = to_ then c to_ + 1 else c j) : Nat) : Int)) ∧ InvC (fr fs) (fun j => if j = from_ then c from_ - 1 else if j = to_ then c to_ + 1 else c j) i ∧ ((sumN (fun j => if j = from_ then c from_ - 1 else if j = to_ then c to_ + 1 else c j) i : Nat) : Int) + 0 = (S : Int) ∧ Keep (fun k => k = cb) w ((w1.setCell ⟨cb, to_, none⟩ (.int .i16 (((c to_ : Nat) : Int) + 1))).setCell ⟨cb, from_, none⟩ (.int .i16 (((c from_ : Nat) : Int) - 1)))) from
                ⟨hdn, hI3, by omega, hkk _ _ _ (hkk _ _ _ hK)⟩)
              have HPT := (show Hid (IsA w1 cb 42 .i16 i (fun i => ((c i : Nat) : Int)) ∧ potF (fr fs) c i < potF (fr fs) (fun k => if k = from_ then c from_ - 1 else if k = to_ then c to_ + 1 else c k) i ∧ potF (fr fs) (fun k => if k = from_ then c from_ - 1 else if k = to_ then c to_ + 1 else c k) i ≤ potMax) from ⟨hA, hpm, hpb⟩)
              have ct := hA.cell to_ m1
              have ft := hA.frozen to_
              have cf := hA.cell from_ l1
              have ff := hA.frozen from_
              have hct : ((c to_ : Nat) : Int) ≤ 4096 := by have := (hI to_ m1).2.2; omega
              have hcf : ((c from_ : Nat) : Int) ≤ 4096 := by have := (hI from_ l1).2.2; omega
              have hcl : (2 : Int) ≤ ((c from_ : Nat) : Int) := by omega
              have htI : (to_ : Int) < (i : Int) := by omega
              have hfI : (from_ : Int) < (i : Int) := by omega
              have hne2 : from_ ≠ to_ := fun h => hne h.symm
              have hglI : (loss : Int) < (gain : Int) := by omega
              have hp0 : ¬ (0 : Int) < 0 := by omega
              clear hA hI hsum hK m2 m3 m4 hmost hleast hkk hup hdn hI2 hI3 hs1 hs2 efr hpm hpb HC l2 l3 l3' htwo hp hq
              go_wp2_with fail
              go_roundw
              case rel => exact ⟨0, _, rfl, by omega, by omega, HG⟩
              case measure => exact far_same HPT.out.1 HG.out.1 HPT.out.2.1 HPT.out.2.2
            · have hglI : ¬ (loss : Int) < (gain : Int) := by omega
              have hp0 : ¬ (0 : Int) < 0 := by omega
              clear hp hq hA hI hsum hK m2 m3 m4 hmost hleast hkk
              go_wp2_with fail
              refine bodyPost_ret (results_none rfl _ _ _) rfl ?_
              obtain ⟨hA, hI, hsum, hK⟩ := HC.out
              exact ⟨rfl, c, hA, hI, by omega, hK⟩

end Go.Proofs.Ytoffnhbopjaocaa
