/-
  Read of a description: all counts.
-/
import Derived.Test.YtoffnhbopjaocaaRdC
import Derived.Test.YtoffnhbopjaocaaArr
namespace Go.Proofs.Ytoffnhbopjaocaa
open Go.RowKit Go.Shelf

def i16s (xs : List Int) : List Value := xs.map (fun x => Value.int .i16 x)
theorem i16s_length (xs : List Int) : (i16s xs).length = xs.length := by simp [i16s]
theorem i16s_one (xs : List Int) : ∀ u ∈ i16s xs, u.oneCell' = true := by
  intro u hu
  simp only [i16s, List.mem_map] at hu
  obtain ⟨b, _, rfl⟩ := hu
  rfl
theorem i16s_at (xs : List Int) (j : Nat) (hj : j < xs.length) : (i16s xs)[j]? = some (.int .i16 (xs[j]?.getD 0)) := by simp [i16s, hj]

set_option maxHeartbeats 1000000 in
/-- slices.Clone of counts: the same in memory of its own. -/
theorem clone65_any (ab n cap : Nat) (xs : List Int) (hn : n = xs.length) (hl : xs.length ≤ 4096) (w : World) (hlt : ab < w.heap.size) (h : ∀ j, j < xs.length → w.cell? ⟨ab, j, none⟩ = some (.int .i16 (xs[j]?.getD 0))) :
    Calls Try.prog 65 #[.slice (some ⟨ab, 0, none⟩) n cap] w fun e w' => ∃ g cap', e = .returned (.slice (some ⟨g, 0, none⟩) xs.length cap') ∧ w.heap.size ≤ g ∧ RowI w' .i16 (some ⟨g, 0, none⟩) cap' g 0 xs ∧ Keep noBlock w w' := by
  subst hn
  obtain ⟨i0, hi, hz0, hz1, hz2⟩ := info_parts info42
  have hmax : xs.length ≤ maxLen := by unfold maxLen; omega
  have hby : xs.length * 2 ≤ 140737488355328 := by omega
  have heq := fun (w : World) (a : Option Addr) (n c n' c' : Nat) => Lib.run_eql_slice_nil (P := Try.prog) w 22 42 a n c n' c' Try.underlying22
  have hown := World.ownsRow_made (e := 42) (size := 1) (base := w.heap.size) w #[] 0 (Nat.le_refl _) (Nat.zero_le _) rfl
  have hc' : ∀ j u, (i16s xs)[j]? = some u → (w.alloc (.cells #[] 42)).cell? ((⟨ab, 0, none⟩ : Addr).add j) = some u := fun j u hu => by
    have hj : j < xs.length := by rw [← i16s_length]; exact (List.getElem?_eq_some_iff.1 hu).1
    rw [add0]
    refine (World.cell?_of_block (Below.heap_alloc _ _ _ hlt)).trans ((h j hj).trans ?_)
    rw [← i16s_at xs j hj, hu]
  have HL := (show Hid ((i16s xs).length = xs.length * 1) from by rw [i16s_length]; exact (Nat.mul_one _).symm)
  clear h
  go_enter Try.func65, Try.ntmps65
  go_wp2_with (at_builtin; refine wpList_append_own _ rfl _ _ 22 rfl w.heap.size 42 i0 (.int .i16 0) 1 2 Try.underlying22 hi hz0 hz1 hz2 rfl (by decide) (.slice (some ⟨w.heap.size, 0, none⟩) 0 0) 0 [] rfl hown ⟨ab, 0, none⟩ xs.length cap (i16s xs) rfl HL.out hc' (i16s_one xs) (by omega) (by omega) (by simp) ?_; intro v' w1 hown' hgrow hnil)
  go_ret
  have hk : Keep noBlock w w1 := ((Keep.refl _ w).alloc _).grown hgrow (fun k e hk => by
    have e' : w.heap.size = k := by simpa [Value.ownBlock] using e
    omega)
  rw [List.nil_append, Nat.zero_add] at hown'
  rcases hown'.2 with ⟨e1, h0⟩ | ⟨g, cap', cur, e1, hb, hg, hr1, hr2, hr3, hr4⟩
  · have := hnil.1 e1
    cases this.1
  · subst e1
    refine ⟨g, cap', rfl, hb, ⟨.inl rfl, (fun e => by cases e), fun j hj => ?_, hr1⟩, hk⟩
    have q1 := hown'.cells (g := g) rfl _ _ (i16s_at xs j hj)
    rw [add0] at q1
    rw [Nat.zero_add]; exact q1

/-- What of a description is still to be read. -/
def Rest (bs : List Nat) (xs : List Int) (i R q E : Nat) : Bool → Prop
  | false => ∃ f, xs.length - i ≤ f ∧ Laid bs q (dsc f R (xs.drop i)) ∧ q + (dsc f R (xs.drop i)).length = E
  | true => xs.drop i ≠ [] ∧ ∃ f, xs.length - i ≤ f ∧ Laid bs q (zbits (zl (xs.drop i)) ++ dsc f R ((xs.drop i).drop (zl (xs.drop i)))) ∧ q + (zbits (zl (xs.drop i)) ++ dsc f R ((xs.drop i).drop (zl (xs.drop i)))).length = E
def boolN : Value → Nat
  | .bool true => 1
  | _ => 0
theorem getD_dropI (xs : List Int) (i j : Nat) : (xs.drop i)[j]?.getD 0 = xs[i + j]?.getD 0 := by rw [List.getElem?_drop]
theorem drop_consI (xs : List Int) (i : Nat) (h : i < xs.length) : xs.drop i = (xs[i]?.getD 0) :: xs.drop (i + 1) := by
  rw [List.drop_eq_getElem_cons h, List.getElem?_eq_getElem h]; rfl

set_option maxRecDepth 100000 in
set_option maxHeartbeats 4000000 in
theorem readCounts_any (rb g : Nat) (bs : List Nat) (p ms f : Nat) (xs : List Int) (w : World) (h : IsR w rb g bs p) (hrb : rb < w.heap.size) (hG : Good xs) (hL : Laid bs p (dsc f (tot xs) xs)) (hf : xs.length ≤ f) (hms : xs.length ≤ ms + 1) (hms2 : ms ≤ 255) :
    Calls Try.prog 44 #[.pointer (some ⟨rb, 0, none⟩), .int .i64 ((tot xs : Nat) : Int), .int .i64 (ms : Int)] w fun e w' => ∃ gc cap', e = .returned (.tuple #[.slice (some ⟨gc, 0, none⟩) xs.length cap', .int .i64 0]) ∧ w.heap.size ≤ gc ∧ RowI w' .i16 (some ⟨gc, 0, none⟩) cap' gc 0 xs ∧
      IsR w' rb g bs (p + (dsc f (tot xs) xs).length) ∧ Keep (fun k => k = rb) w w' := by
  have hA : IsA (w.alloc (.cells Try.zeroCells112 112)) w.heap.size 112 .i16 256 (fun _ => 0) := by rw [zero112]; exact isA_zeros w 112 .i16 256
  have hI1 := h.keep ((Keep.refl noBlock w).alloc (.cells Try.zeroCells112 112)) (fun h => h) (fun _ h => h)
  obtain ⟨E, hE⟩ : ∃ E, E = p + (dsc f (tot xs) xs).length := ⟨_, rfl⟩
  rw [← hE]
  have hlt := hG.le
  have HA := (show Hid (IsA (w.alloc (.cells Try.zeroCells112 112)) w.heap.size 112 .i16 256 (fun _ => 0) ∧ IsR (w.alloc (.cells Try.zeroCells112 112)) rb g bs p ∧ Keep (fun k => k = rb) w (w.alloc (.cells Try.zeroCells112 112)) ∧ Rest bs xs 0 (tot xs) p E false) from
    ⟨hA, hI1, (Keep.refl _ w).alloc _, f, by omega, hL, hE.symm⟩)
  have HH := (show Hid (Good xs ∧ xs.length ≤ 256 ∧ g < w.heap.size) from ⟨hG, by omega, h.lt⟩)
  obtain ⟨n, hn⟩ : ∃ n, n = xs.length := ⟨_, rfl⟩
  rw [← hn] at hms ⊢
  have HN := (show Hid (n = xs.length) from hn)
  obtain ⟨R0, hR0⟩ : ∃ R0, R0 = tot xs := ⟨_, rfl⟩
  rw [← hR0] at HA hlt ⊢
  have HR0 := (show Hid (R0 = tot xs) from hR0)
  clear hA hI1 hE h hG hL hf hn hR0
  go_enter Try.func44, Try.ntmps44
  go_wp2_with fail
  refine wp_scope_straight ?_
  go_wp2_with fail
  refine wp_label ?_
  go_wp2_with fail
  generalize w.alloc (.cells Try.zeroCells112 112) = W1 at HA ⊢
  obtain ⟨ab, hab⟩ : ∃ ab, ab = w.heap.size := ⟨_, rfl⟩
  rw [← hab] at HA hrb ⊢
  have HAB := (show Hid (ab = w.heap.size) from hab)
  clear hab
  go_loopw [1, 9, 10, 11] (fun v1 v9 v10 v11 wr => ∃ (i R q : Nat) (more : Bool), v1 = .int .i64 (R : Int) ∧ v9 = .int .i64 (i : Int) ∧ v10 = .int .i64 0 ∧ v11 = .bool more ∧ i ≤ n ∧
    Hid (R = tot (xs.drop i) ∧ IsA wr ab 112 .i16 256 (fun j => if j < i then xs[j]?.getD 0 else 0) ∧ IsR wr rb g bs q ∧ Keep (fun k => k = rb) w wr ∧ Rest bs xs i R q E more)) (fun _ v9 _ v11 _ => 2 * (n - (intOf v9).toNat) + boolN v11)
  case atStart =>
    obtain ⟨a1, a2, a3, a4⟩ := HA.out
    exact ⟨0, R0, p, false, rfl, rfl, rfl, rfl, Nat.zero_le _, HR0.out, a1.congr (fun _ _ => by simp), a2, a3, a4⟩
  case round =>
    clear HA
    obtain ⟨i, R, q, more, rfl, rfl, rfl, rfl, hi, HC⟩ := hrel
    cases more with
    | true =>
      obtain ⟨hR, hA, hI, hK, hne, f, hf, hL, hE⟩ := HC.out
      have hG := HH.out.1.drop i
      have hin : i < n := by
        rcases Nat.lt_or_ge i n with h | h
        · exact h
        · exact absurd (List.drop_eq_nil_of_le (by have := HN.out; omega)) hne
      have hpos := hG.pos hne
      rw [← hR] at hpos
      have hle := hG.le
      rw [← hR] at hle
      have hzl := hG.zl hne
      have hz0 := zl_zero (xs.drop i)
      have hn := HN.out
      rw [List.length_drop] at hzl
      have hRp : 0 < (R : Int) := by omega
      have hmsI : ¬ (ms : Int) < (i : Int) := by omega
      have hib : (i : Int) ≤ 256 := by omega
      by_cases h3 : 3 ≤ zl (xs.drop i)
      · obtain ⟨k, hk⟩ : ∃ k, zl (xs.drop i) = k + 3 := ⟨zl (xs.drop i) - 3, by omega⟩
        rw [hk, zbits_more, List.append_assoc] at hL hE
        have hnum : numAt bs q 2 = 3 := hL.left.num 2 (by omega)
        have hle2 := hL.left.le
        rw [low_length] at hle2
        have hR2 := hL.right
        rw [low_length] at hR2
        have hzd : zl (xs.drop (i + 3)) = k := by rw [← List.drop_drop, zl_drop _ 3 (by omega), hk]; omega
        have htd : tot (xs.drop (i + 3)) = tot (xs.drop i) := by rw [← List.drop_drop]; exact tot_zeros _ 3 (by omega)
        have HB := (show Hid (Calls Try.prog 43 #[.pointer (some ⟨rb, 0, none⟩), .int .i64 2] wr _) from bits_take_i rb g bs q 2 3 2 rfl (by omega) wr hI hle2 hnum)
        have HG2 := (show Hid (R = tot (xs.drop (i + 3)) ∧ IsA wr ab 112 .i16 256 (fun j => if j < i + 3 then xs[j]?.getD 0 else 0) ∧ Keep (fun k => k = rb) w wr ∧ Rest bs xs (i + 3) R (q + 2) E true ∧ i + 3 ≤ n) from by
          refine ⟨by rw [htd]; exact hR, hA.congr (fun j _ => ?_), hK, ⟨?_, f, by omega, ?_, ?_⟩, by omega⟩
          · by_cases hj : j < i
            · rw [if_pos hj, if_pos (by omega)]
            · rw [if_neg hj]
              by_cases hj3 : j < i + 3
              · rw [if_pos hj3]
                have := hz0 (j - i) (by omega)
                rw [getD_dropI, show i + (j - i) = j from by omega] at this
                exact this.symm
              · rw [if_neg hj3]
          · intro e
            have := congrArg List.length e
            rw [List.length_drop] at this
            simp at this
            omega
          · rw [hzd, List.drop_drop, show i + 3 + k = i + (k + 3) from by omega, ← List.drop_drop]; exact hR2
          · rw [hzd, List.drop_drop, show i + 3 + k = i + (k + 3) from by omega, ← List.drop_drop]
            rw [List.length_append, low_length] at hE
            omega)
        have hi3 : (i : Int) + 3 = ((i + 3 : Nat) : Int) := by omega
        obtain ⟨i3, hi3e⟩ : ∃ i3, i3 = i + 3 := ⟨_, rfl⟩
        rw [← hi3e] at hi3 HG2
        have hi3b : (i3 : Int) ≤ 256 := by omega
        have HI3 := (show Hid (i3 = i + 3) from hi3e)
        clear hR hA hI hK hne hf hL hE hG hpos hle hzl hz0 hn h3 hk hnum hle2 hR2 hzd htd HC hi3e
        go_wp2_with fail
        refine HB.out.mono ?_
        rintro e w1 ⟨rfl, hI1, hK1⟩
        have HI1 := (show Hid (IsR w1 rb g bs (q + 2) ∧ Keep (fun k => k = rb) wr w1) from ⟨hI1, hK1⟩)
        clear hI1 hK1
        rw [show ((3 : Nat) : Int) = (3 : Int) from rfl]
        go_wp2_with fail
        go_roundw
        case rel =>
          obtain ⟨g1, g2, g3, g4, g5⟩ := HG2.out
          obtain ⟨e1, e2⟩ := HI1.out
          exact ⟨i3, R, q + 2, true, rfl, rfl, rfl, rfl, g5, g1, g2.keep e2 (by omega), e1, g3.trans e2 (fun _ _ h => h), g4⟩
        case measure => have := HI3.out; have := HG2.out.2.2.2.2; simp [intOf, boolN]; omega
      · obtain ⟨k, hk⟩ : ∃ k, zl (xs.drop i) = k := ⟨_, rfl⟩
        rw [hk] at h3 hzl hz0
        rw [hk, zbits_few k (by omega)] at hL hE
        have hnum : numAt bs q 2 = k := by rw [hL.left.num 2 (by omega)]; exact Nat.mod_eq_of_lt (by omega)
        have hle2 := hL.left.le
        rw [low_length] at hle2
        have hR2 := hL.right
        rw [low_length, List.drop_drop] at hR2
        have htd : tot (xs.drop (i + k)) = tot (xs.drop i) := by rw [← List.drop_drop]; exact tot_zeros _ k (by omega)
        have HB := (show Hid (Calls Try.prog 43 #[.pointer (some ⟨rb, 0, none⟩), .int .i64 2] wr _) from bits_take_i rb g bs q 2 k 2 rfl (by omega) wr hI hle2 hnum)
        have HG2 := (show Hid (R = tot (xs.drop (i + k)) ∧ IsA wr ab 112 .i16 256 (fun j => if j < i + k then xs[j]?.getD 0 else 0) ∧ Keep (fun k => k = rb) w wr ∧ Rest bs xs (i + k) R (q + 2) E false ∧ i + k ≤ n) from by
          refine ⟨by rw [htd]; exact hR, hA.congr (fun j _ => ?_), hK, ⟨f, by omega, hR2, ?_⟩, by omega⟩
          · by_cases hj : j < i
            · rw [if_pos hj, if_pos (by omega)]
            · rw [if_neg hj]
              by_cases hj3 : j < i + k
              · rw [if_pos hj3]
                have := hz0 (j - i) (by omega)
                rw [getD_dropI, show i + (j - i) = j from by omega] at this
                exact this.symm
              · rw [if_neg hj3]
          · rw [List.length_append, low_length, List.drop_drop] at hE
            omega)
        have hi3 : (i : Int) + (k : Int) = ((i + k : Nat) : Int) := by omega
        obtain ⟨i3, hi3e⟩ : ∃ i3, i3 = i + k := ⟨_, rfl⟩
        rw [← hi3e] at hi3 HG2
        have hi3b : (i3 : Int) ≤ 256 := by omega
        have hk3 : ((k : Int) == 3) = false := by rw [beq_eq_false_iff_ne]; omega
        have hkb : (k : Int) < 3 := by omega
        have HI3 := (show Hid (i3 = i + k) from hi3e)
        clear hR hA hI hK hne hf hL hE hG hpos hle hzl hz0 hn h3 hk hnum hle2 hR2 htd HC hi3e
        go_wp2_with fail
        refine HB.out.mono ?_
        rintro e w1 ⟨rfl, hI1, hK1⟩
        have HI1 := (show Hid (IsR w1 rb g bs (q + 2) ∧ Keep (fun k => k = rb) wr w1) from ⟨hI1, hK1⟩)
        clear hI1 hK1
        go_wp2_with fail
        go_roundw
        case rel =>
          obtain ⟨g1, g2, g3, g4, g5⟩ := HG2.out
          obtain ⟨e1, e2⟩ := HI1.out
          exact ⟨i3, R, q + 2, false, rfl, rfl, rfl, rfl, g5, g1, g2.keep e2 (by omega), e1, g3.trans e2 (fun _ _ h => h), g4⟩
        case measure => have := HI3.out; have := HG2.out.2.2.2.2; simp [intOf, boolN]; omega
    | false =>
      by_cases hin : i < n
      · obtain ⟨hR, hA, hI, hK, f, hf, hL, hE⟩ := HC.out
        have hG := HH.out.1.drop i
        have hn := HN.out
        have hdc := drop_consI xs i (by omega)
        have hne : xs.drop i ≠ [] := by rw [hdc]; simp
        have hpos := hG.pos hne
        have hle := hG.le
        rw [← hR] at hpos hle
        have hb := HH.out.1.at_ i
        have hsh := tot_mem (xs.drop i) 0 hG.low
        rw [getD_dropI, Nat.add_zero, ← hR] at hsh
        obtain ⟨f, rfl⟩ : ∃ f', f = f' + 1 := ⟨f - 1, by omega⟩
        obtain ⟨c, hc⟩ : ∃ c, c = xs[i]?.getD 0 := ⟨_, rfl⟩
        rw [← hc] at hb hsh hdc
        obtain ⟨v, hv⟩ : ∃ v, v = (c + 1).toNat := ⟨_, rfl⟩
        have hcv : (v : Int) - 1 = c := by omega
        have hvR : v ≤ R + 1 := by unfold shareN at hsh; split at hsh <;> omega
        have hs0 := shareN_pos c hb.1
        have hsz := shareN_zero c
        have htt : R = (shareN c).toNat + tot (xs.drop (i + 1)) := by rw [hR, hdc]; rfl
        have hdd : dsc (f + 1) R (xs.drop i) = valBits R v ++ (if c = 0 then zbits (zl (xs.drop (i + 1))) ++ dsc f R ((xs.drop (i + 1)).drop (zl (xs.drop (i + 1)))) else dsc f (R - (shareN c).toNat) (xs.drop (i + 1))) := by rw [hv, hdc]; rfl
        rw [hdd] at hL hE
        have HB := (show Hid (Calls Try.prog 64 _ wr _) from readCount_any rb g bs q R v wr hI hL.left hpos hle hvR)
        rw [hcv] at HB
        obtain ⟨R2, hR2e⟩ : ∃ R2, R2 = R - (shareN c).toNat := ⟨_, rfl⟩
        have hsub : (R : Int) - shareN c = (R2 : Int) := by omega
        have hst := hA.set i c
        have HG2 := (show Hid (R2 = tot (xs.drop (i + 1)) ∧ IsA (wr.setCell ⟨ab, i, none⟩ (.int .i16 c)) ab 112 .i16 256 (fun j => if j < i + 1 then xs[j]?.getD 0 else 0) ∧ Keep (fun k => k = rb) w wr ∧ Rest bs xs (i + 1) R2 (q + (valBits R v).length) E (decide (c = 0)) ∧ IsA wr ab 112 .i16 256 (fun j => if j < i then xs[j]?.getD 0 else 0) ∧ c = xs[i]?.getD 0) from by
          refine ⟨by omega, hst.congr (fun j _ => ?_), hK, ?_, hA, hc⟩
          · by_cases e : j = i
            · subst e; rw [if_pos rfl, if_pos (by omega)]; exact hc
            · rw [if_neg e]
              by_cases hj : j < i
              · rw [if_pos hj, if_pos (by omega)]
              · rw [if_neg hj, if_neg (by omega)]
          · have hLr := hL.right
            rw [List.length_append] at hE
            by_cases hc0 : c = 0
            · rw [if_pos hc0] at hLr hE
              have hRR : R2 = R := by rw [hR2e, hsz.2 hc0]; simp
              rw [decide_eq_true hc0, hRR]
              refine ⟨?_, f, by omega, hLr, by omega⟩
              intro e
              rw [hdc, e, hc0] at hG
              exact hG.last (by simp) rfl
            · rw [if_neg hc0] at hLr hE
              rw [decide_eq_false hc0, hR2e]
              exact ⟨f, by omega, hLr, by omega⟩)
        have HSH := (show Hid (∀ w : World, _) from fun w => share_any c (by omega) (by omega) w)
        have hRp : 0 < (R : Int) := by omega
        have hmsI : ¬ (ms : Int) < (i : Int) := by omega
        have hib : (i : Int) < 256 := by omega
        have hRb : (R : Int) ≤ 4096 := by omega
        have hR2b : (R2 : Int) ≤ 4096 := by omega
        have hcb : -1 ≤ c := hb.1
        have hcb2 : c ≤ 4096 := hb.2
        have hgl := HH.out.2.2
        clear hR hA hI hK hf hL hE hG hpos hle hn HC hdc hne hsh hv hcv hvR htt hdd hR2e hst hb hc hsz
        generalize shareN c = sc at *
        go_wp2_with fail
        refine HB.out.mono ?_
        rintro e w1 ⟨rfl, hI1, hK1⟩
        have hA1 := HG2.out.2.2.2.2.1.keep hK1 (by omega)
        have fz := hA1.frozen i
        have cz := hA1.cell i (by omega)
        have HI1 := (show Hid (IsR w1 rb g bs (q + (valBits R v).length) ∧ Keep (fun k => k = rb) wr w1) from ⟨hI1, hK1⟩)
        have HG3 := (show Hid (IsA (w1.setCell ⟨ab, i, none⟩ (.int .i16 c)) ab 112 .i16 256 (fun j => if j < i + 1 then xs[j]?.getD 0 else 0) ∧ IsR (w1.setCell ⟨ab, i, none⟩ (.int .i16 c)) rb g bs (q + (valBits R v).length) ∧ Keep (fun k => k = rb) w (w1.setCell ⟨ab, i, none⟩ (.int .i16 c))) from by
          have kk : Keep (fun k => k = ab) w1 (w1.setCell ⟨ab, i, none⟩ (.int .i16 c)) := Keep.setCell (S := fun k => k = ab) (p := ⟨ab, i, none⟩) (Keep.refl _ w1) (fun _ => rfl) _
          have hab := HAB.out
          refine ⟨(hA1.set i c).congr (fun j _ => ?_), hI1.keep kk (by omega) (fun _ => by omega), (HG2.out.2.2.1.trans hK1 (fun _ _ h => h)).trans kk (fun j hj e => by omega)⟩
          by_cases e : j = i
          · subst e; rw [if_pos rfl, if_pos (by omega)]; exact HG2.out.2.2.2.2.2
          · rw [if_neg e]
            by_cases hj : j < i
            · rw [if_pos hj, if_pos (by omega)]
            · rw [if_neg hj, if_neg (by omega)])
        clear hI1 hK1 hA1
        by_cases hc0 : c = 0
        · have hd : decide (c = 0) = true := decide_eq_true hc0
          rw [hd] at HG2
          subst hc0
          go_wp2_with (go_at_call 27; refine (HSH.out _).mono ?_; rintro e w'' ⟨rfl, rfl⟩)
          go_roundw
          case rel =>
            obtain ⟨g1, g2, g3, g4, -⟩ := HG2.out
            obtain ⟨e1, e2, e3⟩ := HG3.out
            exact ⟨i + 1, R2, _, true, rfl, by go_num, rfl, rfl, by omega, g1, e1, e2, e3, g4⟩
          case measure => simp [intOf, boolN]; omega
        · have hd : decide (c = 0) = false := decide_eq_false hc0
          rw [hd] at HG2
          have hcb0 : (c == 0) = false := by simpa using hc0
          go_wp2_with (go_at_call 27; refine (HSH.out _).mono ?_; rintro e w'' ⟨rfl, rfl⟩)
          go_roundw
          case rel =>
            obtain ⟨g1, g2, g3, g4, -⟩ := HG2.out
            obtain ⟨e1, e2, e3⟩ := HG3.out
            exact ⟨i + 1, R2, _, false, rfl, by go_num, rfl, rfl, by omega, g1, e1, e2, e3, g4⟩
          case measure => simp [intOf, boolN]; omega
      · obtain rfl : i = n := by omega
        have HD := (show Hid (R = 0 ∧ IsA wr ab 112 .i16 256 (fun j => if j < i then xs[j]?.getD 0 else 0) ∧ IsR wr rb g bs E ∧ Keep (fun k => k = rb) w wr) from by
          obtain ⟨hR, hA, hI, hK, f, hf, hL, hE⟩ := HC.out
          have hd : xs.drop i = [] := List.drop_eq_nil_of_le (by have := HN.out; omega)
          rw [hd] at hR hL hE
          have h5 : dsc f R [] = [] := by cases f <;> rfl
          rw [h5] at hE
          have : q = E := by simpa using hE
          rw [this] at hI
          exact ⟨hR, hA, hI, hK⟩)
        obtain ⟨rfl, -⟩ := HD.out
        rw [show ((0 : Nat) : Int) = (0 : Int) from rfl]
        have hib : (i : Int) ≤ 256 := by have := HH.out.2.1; have := HN.out; omega
        clear HC
        go_wp2_with fail
        refine (clone65_any ab i 256 xs HN.out (by have := HH.out.2.1; omega) wr HD.out.2.1.lt (fun j hj => ?_)).mono ?_
        · rw [HD.out.2.1.cell j (by have := HH.out.2.1; omega), if_pos (by have := HN.out; omega)]
        · rintro e w3 ⟨gc, cap', rfl, hgc, hRow, hK3⟩
          rw [← HN.out]
          go_wp2_with fail
          simp only [Exit.noGoto]
          go_ret2
          have hk := HD.out.2.2.2
          refine ⟨gc, cap', rfl, by have := hk.size; omega, hRow, HD.out.2.2.1.keep hK3 (fun h => h) (fun _ h => h), hk.trans hK3 (fun _ _ h => h.elim)⟩

end Go.Proofs.Ytoffnhbopjaocaa
