/-
  LzmaExact: a chunk with a byte more, or one byte less, is no chunk.
-/
import Derived.Test.YtinhlkioeadfdaaFrs
namespace Go.Proofs.Ytinhlkioeadfdaa
open Go.RowKit Go.Shelf
set_option linter.unusedVariables false

theorem take_neg (b : List Nat) : (b.take (b.length - 1)).length = b.length - 1 := by rw [List.length_take]; omega
/-- One byte less: a new state, then a new window; and the other way. -/
theorem exA {a : Option Addr} {cap gb off wb lb : Nat} (b : List Nat) (m : Nat) (n : Int) (ht : (b.take m).length = m ∧ m ≤ 16384) (hE : frE 4096 (b.take m) n = 11) (hn : n ≤ 16384) {w wS wR : World} (hB : Bytes w a cap gb off (b.take m)) (s4 : IsS wS w.heap.size (newS 3 0 2) even) (k4 : Keep noBlock w.drew wS) (b1 : wS.heap.size ≤ wb) (b2 : IsW wR wb lb 4096 (.slice none 0 0) []) (b3 : Keep noBlock wS wR) :
    Calls Try.prog 20 #[.pointer (some ⟨w.heap.size, 0, none⟩), .pointer (some ⟨wb, 0, none⟩), .int .i64 0, .slice a m cap, .int .i64 n] wR fun e w' => (∃ v1 v2 v3, e = .returned (.tuple #[.slice v1 v2 v3, .int .i64 11])) ∧ Keep noBlock w w' := by
  have k : Keep noBlock w wR := ((Keep.refl noBlock w).drew.trans k4 (fun _ _ h => h)).trans b3 (fun _ _ h => h)
  have h := fresh 4096 w.heap.size wb lb w wR a cap gb off (b.take m) n (s4.keep b3 (fun h => h)) b2 (hB.keep k (fun _ h => h)) (by omega) (by omega) k (Nat.le_refl _) (by have h1 : w.heap.size ≤ wS.heap.size := k4.size; omega)
  rw [ht.1, hE] at h
  exact h
theorem exB {a : Option Addr} {cap gb off wb lb : Nat} (b : List Nat) (m : Nat) (n : Int) (ht : (b.take m).length = m ∧ m ≤ 16384) (hE : frE 4096 (b.take m) n = 11) (hn : n ≤ 16384) {w wS wR : World} (hB : Bytes w a cap gb off (b.take m)) (s4 : IsS wS wR.heap.size (newS 3 0 2) even) (k4 : Keep noBlock wR wS) (b1 : w.heap.size ≤ wb) (b2 : IsW wR wb lb 4096 (.slice none 0 0) []) (b3 : Keep noBlock w.drew wR) :
    Calls Try.prog 20 #[.pointer (some ⟨wR.heap.size, 0, none⟩), .pointer (some ⟨wb, 0, none⟩), .int .i64 0, .slice a m cap, .int .i64 n] wS fun e w' => (∃ v1 v2 v3, e = .returned (.tuple #[.slice v1 v2 v3, .int .i64 11])) ∧ Keep noBlock w w' := by
  have k : Keep noBlock w wS := ((Keep.refl noBlock w).drew.trans b3 (fun _ _ h => h)).trans k4 (fun _ _ h => h)
  have h := fresh 4096 wR.heap.size wb lb w wS a cap gb off (b.take m) n s4 (b2.keep k4 (fun h => h) (fun _ _ h => h)) (hB.keep k (fun _ h => h)) (by omega) (by omega) k (by have h1 : w.heap.size ≤ wR.heap.size := b3.size; omega) b1
  rw [ht.1, hE] at h
  exact h
section
set_option maxRecDepth 20000 in
set_option maxHeartbeats 8000000 in
theorem lexact_law (a : Option Addr) (cap gb off : Nat) (b : List Nat) (n : Int) (more : Nat) (hm : more < 256) (w : World) (hB : Bytes w a cap gb off b) :
    Calls Try.prog 6 #[.slice a b.length cap, .int .i64 n, .int .u8 (more : Int)] w fun e w' => e = .returned (.bool true) ∧ Keep noBlock w w' := by
  have HWk := hid (wakes_any w)
  by_cases c1 : 16384 < b.length
  · have c1I : 16384 < (b.length : Int) := by omega
    clear hB
    generalize b.length = bl at *
    go_enter Try.func6, Try.ntmps6
    go_wp2_with fail
    refine HWk.out.mono ?_
    rintro e w1 ⟨rfl, k1⟩
    have HK := hid k1
    clear k1 HWk
    go_wp2_with fail
    go_ret
    exact ⟨rfl, HK.out⟩
  · have c1I : ¬ 16384 < (b.length : Int) := by omega
    by_cases c2 : 16384 < n
    · clear hB
      generalize b.length = bl at *
      go_enter Try.func6, Try.ntmps6
      go_wp2_with fail
      refine HWk.out.mono ?_
      rintro e w1 ⟨rfl, k1⟩
      have HK := hid k1
      clear k1 HWk
      go_wp2_with fail
      go_ret
      exact ⟨rfl, HK.out⟩
    · by_cases c3 : b.length = 0
      · have c3I : ((b.length : Int) == 0) = true := by rw [c3]; rfl
        clear hB c3
        generalize b.length = bl at *
        go_enter Try.func6, Try.ntmps6
        go_wp2_with fail
        refine HWk.out.mono ?_
        rintro e w1 ⟨rfl, k1⟩
        have HK := hid k1
        clear k1 HWk
        go_wp2_with fail
        go_ret
        exact ⟨rfl, HK.out⟩
      · have c3I : ((b.length : Int) == 0) = false := by simp; rintro rfl; simp at c3
        clear HWk
        have HC2 := hid (show n ≤ 16384 from by omega)
        obtain rfl : a = some ⟨gb, off, none⟩ := hB.at_.resolve_right (by rintro rfl; simp at c3)
        have hcap0 : ¬ cap = 0 := by have := hB.cap; omega
        have hcapI : (b.length : Int) ≤ (cap : Int) := by have := hB.cap; omega
        have HB := hid hB
        have HN := hid new_state
        have HRo := hid (room_any 4096 (by omega) (by omega))
        rw [show (((4096 : Nat) : Int)) = (4096 : Int) from rfl] at HRo
        clear hB
        have HL := (show Hid (b.length ≤ 16384 ∧ 1 ≤ b.length) from ⟨by omega, by omega⟩)
        generalize hbl : b.length = bl at *
        have HBL := hid hbl
        clear hbl
        go_enter Try.func6, Try.ntmps6
        go_wp2_with fail
        refine (HN.out w).mono ?_
        rintro e w1 ⟨rfl, s1, k1⟩
        have H1 := hid (And.intro s1 k1)
        clear s1 k1
        go_wp2_with fail
        refine (HRo.out w1).mono ?_
        rintro e w2 ⟨wb, lb, rfl, b1, b2, b3⟩
        have HF := hid (fresh 4096 w.heap.size wb lb w w2 (some ⟨gb, off, none⟩) cap gb off b n (H1.out.1.keep b3 (fun h => h)) b2 (HB.out.keep (H1.out.2.trans b3 (fun _ _ h => h)) (fun _ h => h)) (by have := HL.out.1; have := HBL.out; omega) (by omega) (H1.out.2.trans b3 (fun _ _ h => h)) (Nat.le_refl _) (by have := H1.out.2.size; omega))
        rw [HBL.out] at HF
        clear b1 b2 b3 H1
        go_wp2_with fail
        refine HF.out.mono ?_
        rintro e w3 ⟨⟨v1, v2, v3, rfl⟩, k3⟩
        have HK3 := hid k3
        clear k3 HF
        by_cases c4 : frE 4096 b n = 0
        · rw [c4]
          have HM := hid (frE_more more c4)
          have HLs := hid (frE_less c4)
          clear c4
          go_wp2_with fail
          refine (HN.out w3).mono ?_
          rintro e w4 ⟨rfl, s4, k4⟩
          have H4 := hid (And.intro s4 k4)
          clear s4 k4
          go_wp2_with fail
          refine (HRo.out w4).mono ?_
          rintro e w5 ⟨wb5, lb5, rfl, b1, b2, b3⟩
          have H5 := hid (And.intro b1 (And.intro b2 b3))
          clear b1 b2 b3
          obtain ⟨W6, hW6⟩ : ∃ W6, W6 = w5.alloc (.cells #[] 5) := ⟨_, rfl⟩
          have k56 : Keep noBlock w5 W6 := by rw [hW6]; exact (Keep.refl noBlock w5).alloc _
          have k36 : Keep noBlock w3 W6 := (H4.out.2.trans H5.out.2.2 (fun _ _ h => h)).trans k56 (fun _ _ h => h)
          have hb6 : W6.heap[w5.heap.size]? = some (.cells #[] 5 (0, 0)) := by rw [hW6]; exact alloc_new w5 _
          have o6 : W6.ownsRow 0 5 1 (.slice (some ⟨w5.heap.size, 0, none⟩) 0 0) ([] : List Nat).length (u8s []) := owns_mk (M := []) hb6 (Nat.le_refl _) (by unfold maxLen; omega) rfl rfl
          have hB6 : Bytes W6 (some ⟨gb, off, none⟩) cap gb off b := HB.out.keep (HK3.out.trans k36 (fun _ _ h => h)) (fun _ h => h)
          obtain ⟨v7, W7, r7, o7, k7, n7⟩ := run_append_all W6 22 _ [] b o6 (by have := HL.out.1; have := HBL.out; simp; omega) _ hB6.src
          rw [List.nil_append] at o7
          obtain ⟨v8, W8, r8, o8, k8, n8⟩ := own_push o7 more (by have := HL.out.1; have := HBL.out; omega)
          have hlen8 : (b ++ [more]).length = bl + 1 := by rw [List.length_append, HBL.out]; rfl
          have hlt8 : ∀ j : Nat, (b ++ [more])[j]?.getD 0 < 256 := lt_app HB.out.lt (lt256 (fun y hy => by
            have : y = more := by simpa using hy
            omega))
          obtain ⟨a8, cap8, g8, e8, B8, -⟩ := owns_bytes o8 hlt8 (by rw [hlen8]; have := HL.out.1; have := HBL.out; omega)
          have k68 : Keep noBlock w3 W8 := by
            have hsz := H4.out.2.size
            have hsz5 := H5.out.2.2.size
            refine (k36.trans k7 (fun i hi e => ?_)).trans k8 (fun i hi e => ?_)
            · have : w5.heap.size = i := by simpa [Value.ownBlock] using e
              omega
            · rcases n7 with q | ⟨k, q, hk⟩
              · rw [q] at e
                have : w5.heap.size = i := by simpa [Value.ownBlock] using e
                omega
              · rw [q] at e
                have : k = i := by simpa using e
                have := k36.size
                omega
          have hS8 : IsS W8 w3.heap.size (newS 3 0 2) even := by
            have hlt := H4.out.1.block
            have hsz5 := H5.out.2.2.size
            refine (((H4.out.1.keep H5.out.2.2 (fun h => h)).keep k56 (fun h => h)).keep k7 (fun e => ?_)).keep k8 (fun e => ?_)
            · have : w5.heap.size = w3.heap.size := by simpa [Value.ownBlock] using e
              omega
            · rcases n7 with q | ⟨k, q, hk⟩
              · rw [q] at e
                have : w5.heap.size = w3.heap.size := by simpa [Value.ownBlock] using e
                omega
              · rw [q] at e
                have : k = w3.heap.size := by simpa using e
                have := k56.size
                omega
          have hW8 : IsW W8 wb5 lb5 4096 (.slice none 0 0) [] := by
            have hlt := H5.out.2.1.block
            refine ((H5.out.2.1.keep k56 (fun h => h) (fun _ _ h => h)).keep k7 (fun e => ?_) (fun g hg e => by cases hg)).keep k8 (fun e => ?_) (fun g hg e => by cases hg)
            · have : w5.heap.size = wb5 := by simpa [Value.ownBlock] using e
              omega
            · rcases n7 with q | ⟨k, q, hk⟩
              · rw [q] at e
                have : w5.heap.size = wb5 := by simpa [Value.ownBlock] using e
                omega
              · rw [q] at e
                have : k = wb5 := by simpa using e
                have := k56.size
                omega
          have HF := hid (fresh 4096 w3.heap.size wb5 lb5 w3 W8 a8 cap8 g8 0 (b ++ [more]) n hS8 hW8 B8 (by rw [hlen8]; have := HL.out.1; have := HBL.out; omega) (by omega) k68 (Nat.le_refl _) (by have := H4.out.2.size; have := H5.out.1; omega))
          rw [HM.out, hlen8] at HF
          obtain ⟨ua, un, uc, rfl⟩ : ∃ ua un uc, v7 = .slice ua un uc := by
            obtain ⟨p, q, r⟩ := owns_form o7
            exact ⟨_, _, _, r⟩
          subst e8
          rw [hlen8] at r8
          rw [HBL.out, hW6] at r7
          clear hW6
          clear k56 k36 hb6 o6 hB6 o7 k7 n7 o8 k8 n8 hlt8 B8 k68 hS8 hW8 H4 H5 hlen8
          go_wp2_with (first | (at_builtin; refine wpList_append_run _ rfl _ _ 22 rfl _ _ _ _ rfl rfl r7 ?_) | (at_builtin; refine wpList_append_run _ rfl _ _ 22 rfl _ _ _ _ rfl rfl r8 ?_))
          refine HF.out.mono ?_
          rintro e w9 ⟨⟨u1, u2, u3, rfl⟩, k9⟩
          have HK9 := hid (HK3.out.trans k9 (fun _ _ h => h))
          obtain ⟨m, hm2⟩ : ∃ m : Nat, m = b.length - 1 := ⟨_, rfl⟩
          have hmI : (bl : Int) - 1 = (m : Int) := by have := HBL.out; have := HL.out.2; omega
          have hmb : m ≤ b.length := by omega
          obtain ⟨hsl, hB9⟩ := (HB.out.keep HK9.out (fun _ h => h)).take m hmb
          have htl : (b.take m).length = m := by rw [List.length_take]; omega
          clear hsl
          have hmc : (m : Int) ≤ (cap : Int) := by omega
          have hmw : IntKind.i64.wrap (m : Int) = (m : Int) := wraps_i64 _ (by omega) (by have := HBL.out; have := HL.out.1; omega)
          rw [← hm2] at HLs
          have HBm := hid hB9
          have HTL := hid (show (b.take m).length = m ∧ m ≤ 16384 from ⟨htl, by have := HBL.out; have := HL.out.1; omega⟩)
          have hm48 : m < 16385 := Nat.lt_of_le_of_lt HTL.out.2 (by omega)
          clear k9 HF r7 r8 hmb hm2 hB9 htl
          go_wp2_with fail
          go_region_with (first | (go_at_call 12; refine (HN.out _).mono ?_; rintro e wS ⟨rfl, s4, k4⟩) | (go_at_call 9; refine (HRo.out _).mono ?_; rintro e wR ⟨wb7, lb7, rfl, b1, b2, b3⟩) | (go_at_call_of 20 (Value.pointer (some ⟨w9.heap.size, 0, none⟩)); (refine (exA b m n HTL.out HLs.out HC2.out HBm.out s4 k4 b1 b2 b3).mono ?_; rintro e wc ⟨⟨y1, y2, y3, rfl⟩, kc⟩; clear s4 k4 b1 b2 b3)) | (go_at_call_of 20 (Value.pointer (some ⟨wR.heap.size, 0, none⟩)); (refine (exB b m n HTL.out HLs.out HC2.out HBm.out s4 k4 b1 b2 b3).mono ?_; rintro e wc ⟨⟨y1, y2, y3, rfl⟩, kc⟩; clear s4 k4 b1 b2 b3)))
          all_goals
            have HKc := hid (HK9.out.trans kc (fun _ _ h => h))
            clear kc
            go_wp2_with fail
            refine (wakes_any wc).mono ?_
            rintro e wd ⟨rfl, kd⟩
            have HKd := hid (HKc.out.trans kd (fun _ _ h => h))
            clear kd
            go_wp2_with fail
            go_ret
            exact ⟨rfl, HKd.out⟩
        · have c4I : ((frE 4096 b n) != 0) = true := by simpa using c4
          clear c4
          generalize frE 4096 b n = er at *
          go_wp2_with fail
          refine (wakes_any w3).mono ?_
          rintro e w4 ⟨rfl, k4⟩
          have HK4 := hid (HK3.out.trans k4 (fun _ _ h => h))
          clear k4
          go_wp2_with fail
          go_ret
          exact ⟨rfl, HK4.out⟩
end

end Go.Proofs.Ytinhlkioeadfdaa
