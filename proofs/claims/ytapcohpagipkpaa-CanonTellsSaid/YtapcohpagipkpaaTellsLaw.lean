/-
  CanonTells, walked: lengths are given their words, words are read and written, as the document says.
-/
import Derived.Test.YtapcohpagipkpaaPair5
namespace Go.Proofs.Ytapcohpagipkpaa
open Go.RowKit Go.Shelf

theorem Src.keep {w W : World} {v : Value} {bs : List Nat} (h : Src w v bs) (hk : Keep noBlock w W) : Src W v bs := by
  rcases h with h | ⟨a, cap, e, hc, hcell⟩
  · exact .inl h
  · exact .inr ⟨a, cap, e, Nat.lt_of_lt_of_le hc hk.size, fun j u hu => by
      have h1 := hcell j u hu
      exact (World.cell?_of_block (hk.block _ (World.block_lt_of_cell? _ _ h1) (fun h => h))).trans h1⟩
set_option maxHeartbeats 400000 in
/-- slices.Clone of an empty slice, wherever it lies. -/
theorem clone_empty (a : Addr) (cap : Nat) (w : World) :
    Calls Try.prog 34 #[.slice (some a) 0 cap] w fun e w' => ∃ v', e = .returned v' ∧ w'.ownsRow w.heap.size 5 1 v' 0 [] ∧ Keep noBlock w w' := by
  obtain ⟨i0, hi, hz0, hz1, hz2⟩ := info_parts info5
  have heq := fun (w : World) (a : Option Addr) (n c n' c' : Nat) => Lib.run_eql_slice_nil (P := Try.prog) w 22 5 a n c n' c' Try.underlying22
  have hown := World.ownsRow_made (e := 5) (size := 1) (base := w.heap.size) w #[] 0 (Nat.le_refl _) (Nat.zero_le _) rfl
  go_enter Try.func34, Try.ntmps34
  go_wp2_with (at_builtin; refine wpList_append_own _ rfl _ _ 22 rfl w.heap.size 5 i0 (.int .u8 0) 1 1 Try.underlying22 hi hz0 hz1 hz2 rfl (by decide) (.slice (some ⟨w.heap.size, 0, none⟩) 0 0) 0 [] rfl hown a 0 cap [] rfl rfl (by simp) (by simp) (by unfold maxLen; omega) (by omega) (by simp) ?_; intro v' w1 hown' hgrow hnil)
  go_ret
  refine ⟨v', rfl, by simpa using hown', ((Keep.refl _ w).alloc _).grown hgrow (fun k e hk => ?_)⟩
  have e' : w.heap.size = k := by simpa [Value.ownBlock] using e
  omega
set_option maxHeartbeats 400000 in
/-- bits.New of an empty slice, wherever it lies. -/
theorem new_empty (a : Addr) (cap : Nat) (w : World) :
    Calls Try.prog 15 #[.slice (some a) 0 cap] w fun e w' => ∃ rb g, e = .returned (.pointer (some ⟨rb, 0, none⟩)) ∧ w.heap.size ≤ rb ∧ w.heap.size ≤ g ∧ IsR w' rb g [] 0 ∧ Keep noBlock w w' := by
  go_enter Try.func15, Try.ntmps15
  go_wp2_with (go_at_call 34; refine (clone_empty a cap _).mono ?_; rintro e w1 ⟨v', rfl, hown, hk⟩; obtain ⟨sa, cp, rfl⟩ := owns_form hown)
  go_ret
  have hsz := hk.size
  have hob := World.alloc_heap_new w1 (.cells #[.slice sa 0 cp, .int .i64 0] 78)
  exact ⟨w1.heap.size, w1.heap.size, rfl, hsz, hsz, ⟨obj_lt hob, ⟨sa, cp, .inr rfl, hob⟩, fun j hj => by simp at hj, by simp, fun j => by simp, Nat.zero_le _⟩, hk.alloc _⟩
/-- What New answers of the bytes. -/
def NewOf (w : World) (v : Value) (bs : List Nat) : Prop := ∀ W, Keep noBlock w W → Calls Try.prog 15 #[v] W fun e w' => ∃ rb g, e = .returned (.pointer (some ⟨rb, 0, none⟩)) ∧ W.heap.size ≤ rb ∧ W.heap.size ≤ g ∧ IsR w' rb g bs 0 ∧ Keep noBlock W w'
theorem two_new {w W : World} {rb g gq oq cap : Nat} {a3 : Option Addr} {bs : List Nat} (hk : Keep noBlock w W) (hI : IsR W rb g bs 0) (hrb : w.heap.size ≤ rb) (hR : Row w .u8 a3 cap gq oq bs) (hb8 : ∀ j : Nat, bs[j]?.getD 0 < 256) (hbl : bs.length < 140737488355328) :
    TwoR w (W.alloc (.cells #[.slice a3 bs.length cap, .int .i64 0] 42)) rb g W.heap.size gq oq bs 0 := by
  have hk2 : Keep noBlock W (W.alloc (.cells #[.slice a3 bs.length cap, .int .i64 0] 42)) := (Keep.refl _ W).alloc _
  have hrl : rb < W.heap.size := by obtain ⟨_, _, _, ho⟩ := hI.obj; exact obj_lt ho
  have hgl := hI.lt
  have hsz := hk.size
  refine ⟨hI.keep hk2 (fun h => h) (fun _ h => h), ⟨⟨a3, cap, hR.at_, World.alloc_heap_new _ _⟩, fun j hj => (hR.keep (hk.trans' hk2) (fun _ h => h)).cells j hj, hbl, hb8, Nat.zero_le _⟩, hk.trans' hk2, hrb, hsz, by omega, fun hn => ?_⟩
  have := hR.block hn
  exact ⟨by omega, by omega, by omega⟩

set_option maxRecDepth 100000 in
set_option maxHeartbeats 16000000 in
theorem tells_walk (a a2 a3 : Option Addr) (n cap cap2 gb2 off2 cap3 gb3 off3 : Nat) (ys : List Int) (bs : List Nat) (w : World) (hC : CodesSame w a n cap) (hWr : Writes w a n cap) (hRd : Reads w a n cap bs)
    (hZ : RowZ w a2 gb2 off2 ys) (hm : ys.length ≤ 140737488351232) (hB : Row w .u8 a3 cap3 gb3 off3 bs) (hS : NewOf w (.slice a3 bs.length cap3) bs) (hb8 : ∀ j : Nat, bs[j]?.getD 0 < 256) (hbl : bs.length ≤ 140737488351232) :
    Calls Try.prog 3 #[.slice a n cap, .slice a2 ys.length cap2, .slice a3 bs.length cap3] w fun e w' => e = .returned (.bool true) ∧ Keep noBlock w w' := by
  have hmx : Try.prog.follows .mixedOrders = true := by kernel_rfl
  have HA : Hid ((∀ u : Unit, Writes w a n cap) ∧ (∀ u : Unit, Reads w a n cap bs) ∧ (∀ u : Unit, RowZ w a2 gb2 off2 ys) ∧ (∀ u : Unit, Row w .u8 a3 cap3 gb3 off3 bs) ∧ (∀ u : Unit, NewOf w (.slice a3 bs.length cap3) bs) ∧ (∀ j : Nat, bs[j]?.getD 0 < 256)) := ⟨fun _ => hWr, fun _ => hRd, fun _ => hZ, fun _ => hB, fun _ => hS, hb8⟩
  have HC : Hid (∀ u : Unit, CodesSame w a n cap) := fun _ => hC
  clear hC hWr hRd hZ hB hS hb8
  go_enter Try.func3, Try.ntmps3
  go_wp2_with fail
  refine (HC.out ()).mono ?_
  rintro e w1 ⟨sl, k0, cl, c0, rfl, HQ⟩
  clear HC
  have hcc : (c0 != c0) = false := by simp
  go_wp2_with fail
  refine HQ.out.mono ?_
  rintro e w2 ⟨sm, m0, cm, rfl, HQ2⟩
  clear HQ
  go_wp2_with fail
  refine HQ2.out.mono ?_
  rintro e w3 ⟨rfl, hk3⟩
  clear HQ2 hcc
  have hB0 := Both.new hk3
  clear hk3
  go_wp2_with fail
  generalize (w3.alloc (.cells #[.slice none 0 0, .int .i64 0] 31)).alloc (.cells #[.slice none 0 0] 34) = W0 at hB0 ⊢
  generalize hvb : w3.heap.size + 1 = vb at hB0 ⊢
  generalize w3.heap.size = wb at hB0 ⊢
  clear hvb
  have H0 := (show Hid (Both w W0 wb vb (.slice none 0 0) (.slice none 0 0) []) from hB0)
  clear hB0
  go_loopw [46] (fun vi wr => ∃ (k : Nat) (u v : Value) (L : List (Fin 2)), vi = .int .i64 (k : Int) ∧ k ≤ ys.length ∧ k ≤ 60 ∧ L.length ≤ 15 * k ∧ Hid (Both w wr wb vb u v L)) (fun vi _ => ys.length - (intOf vi).toNat)
  case atStart => exact ⟨0, _, _, [], rfl, Nat.zero_le _, Nat.zero_le _, Nat.le_refl _, H0.out⟩
  case round =>
    clear H0
    obtain ⟨k, u, v, L, rfl, hk1, hk2, hL, HB⟩ := hrel
    have hZw := (HA.out.2.2.1 ()).keep HB.out.keep (fun h => h)
    by_cases hgo : k < ys.length ∧ k < 60
    · obtain ⟨hlt, h60⟩ := hgo
      obtain rfl : a2 = some ⟨gb2, off2, none⟩ := hZw.at_.resolve_right (by rintro rfl; simp at hlt)
      have c1 := hZw.cells k hlt
      generalize ys[k]?.getD 0 = y at c1
      have h60i : ¬ (60 : Int) ≤ (k : Int) := by omega
      have h60b : decide ((60 : Int) ≤ (k : Int)) = false := decide_eq_false h60i
      clear hZw
      go_wp2_with fail
      refine ((HA.out.1 ()) wr wb vb u v L y HB.out (by omega)).mono ?_
      rintro e W1 ⟨c, rfl, HQ⟩
      have hcc : (c != c) = false := by simp
      clear HB
      go_wp2_with fail
      refine HQ.out.mono ?_
      rintro e W2 ⟨rfl, u', v', L', hL', hB'⟩
      have HB' := (show Hid (Both w W2 wb vb u' v' L') from hB')
      clear hB' HQ c1
      go_wp2_with fail
      go_roundw
      case rel => exact ⟨k + 1, u', v', L', by go_num, by omega, by omega, by omega, HB'.out⟩
      case measure => simp [intOf]; omega
    · have hML : L.length < 1099511627776 := by omega
      by_cases h60 : k < ys.length
      · obtain rfl : a2 = some ⟨gb2, off2, none⟩ := hZw.at_.resolve_right (by rintro rfl; simp at h60)
        have c1 := hZw.cells k h60
        generalize ys[k]?.getD 0 = y at c1
        have h60i : (60 : Int) ≤ (k : Int) := by omega
        have h60b : decide ((60 : Int) ≤ (k : Int)) = true := decide_eq_true h60i
        clear hZw hgo
        go_wp2_with fail
        go_region_with (first
          | (go_at_call 13; refine (bytes_any wb u L hML _ (HB.out.keep0 (keep_drewN _ 1)).isW).mono ?_; rintro e x3 ⟨y1, rfl, hown1, hkb1⟩; obtain ⟨sa1, cp1, rfl⟩ := owns_form hown1; have cv1 := run_conv (Src.of_owns hown1); have hB3 := (HB.out.keep0 (keep_drewN _ 1)).keep0 hkb1)
          | (go_at_call 14; refine (bytesV_any vb v L hML _ hB3.isV).mono ?_; rintro e x4 ⟨y2, rfl, hown2, hkb2⟩; obtain ⟨sa2, cp2, rfl⟩ := owns_form hown2; have cv3 := run_conv (Src.of_owns (owns_keep hown1 hkb2 (fun _ _ h => h))); have cv2 := run_conv (Src.of_owns hown2); have hB4 := hB3.keep0 hkb2))
        all_goals
          have hk4 := hB4.keep
          clear cv1 cv2 cv3 hown1 hown2 hB3 hB4 hkb1 hkb2 HB
          go_wp2_with fail
          refine ((HA.out.2.2.2.2.1 ()) _ hk4).mono ?_
          rintro e w5 ⟨rb, g, rfl, hrb, hg, hIR, hk5⟩
          have hT := two_new (hk4.trans' hk5) hIR (by have := hk4.size; omega) (HA.out.2.2.2.1 ()) HA.out.2.2.2.2.2 (by omega)
          clear hIR hk5 hk4 hrb hg
          go_wp2_with fail
          generalize w5.alloc (.cells #[.slice a3 bs.length cap3, .int .i64 0] 42) = W5 at hT ⊢
          generalize w5.heap.size = qb at hT ⊢
          have HT0 := (show Hid (TwoR w W5 rb g qb gb3 off3 bs 0) from hT)
          clear hT
          go_loopw [75] (fun vi wr => ∃ (j p : Nat), vi = .int .i64 (j : Int) ∧ j ≤ 60 ∧ Hid (TwoR w wr rb g qb gb3 off3 bs p)) (fun vi _ => 60 - (intOf vi).toNat)
          case atStart => exact ⟨0, 0, rfl, Nat.zero_le _, HT0.out⟩
          case round =>
            clear HT0
            obtain ⟨j, p, rfl, hj, HT⟩ := hrel
            by_cases hlt : j < 60
            · have hltI : (j : Int) < 60 := by omega
              go_wp2_with fail
              refine ((HA.out.2.1 ()) wr rb g qb gb3 off3 p HT.out).mono ?_
              rintro e W1 ⟨s, c, rfl, HQ⟩
              clear HT
              go_wp2_with fail
              refine HQ.out.mono ?_
              rintro e W2 ⟨rfl, h⟩
              clear HQ
              have hss : ((s : Int) != (s : Int)) = false := by simp
              rcases h with ⟨rfl, p', hT'⟩ | ⟨hc, hkc⟩
              · have HT' := (show Hid (TwoR w W2 rb g qb gb3 off3 bs p') from hT')
                clear hT'
                obtain ⟨z, hz⟩ : ∃ z : Int, z = (bs.length : Int) * 8 - (p' : Int) := ⟨_, rfl⟩
                have hzz : (z != z) = false := by simp
                have HL := (show Hid (∀ u : Unit, Calls Try.prog 18 #[.pointer (some ⟨rb, 0, none⟩)] W2 fun e w' => e = .returned (.int .i64 z) ∧ ∃ n, w' = W2.drewN n) from fun _ => by rw [hz]; exact left_any rb g bs p' W2 HT'.out.isR)
                have HLQ := (show Hid (∀ q : Nat, Calls Try.prog 19 #[.pointer (some ⟨qb, 0, none⟩)] (W2.drewN q) fun e w' => e = .returned (.int .i64 z) ∧ ∃ n, w' = (W2.drewN q).drewN n) from fun q => by rw [hz]; exact leftQ_any qb gb3 off3 bs p' _ (HT'.out.keep0 (keep_drewN _ q)).isQ)
                clear hz
                go_wp2_with fail
                refine (HL.out ()).mono ?_
                rintro e W3 ⟨rfl, q, rfl⟩
                go_wp2_with fail
                refine (HLQ.out q).mono ?_
                rintro e W4 ⟨rfl, q2, rfl⟩
                clear HL HLQ
                go_wp2_with fail
                go_roundw
                case rel => exact ⟨j + 1, p', by go_num, by omega, HT'.out.keep0 (keep_drewN _ _)⟩
                case measure => simp [intOf]; omega
              · have hcc : (c != c) = false := by simp
                have hc0 : (c == 0) = false := by simpa using hc
                have hc1 : (c != 0) = true := by simpa using hc
                go_wp2_with fail
                refine (wakes_any _).mono ?_
                rintro e w6 ⟨rfl, hk6⟩
                go_wp2_with fail
                go_ret
                exact ⟨rfl, hkc.trans' hk6⟩
            · obtain rfl : j = 60 := by omega
              rw [show ((60 : Nat) : Int) = (60 : Int) from rfl]
              go_wp2_with fail
              refine (wakes_any _).mono ?_
              rintro e w6 ⟨rfl, hk6⟩
              go_wp2_with fail
              go_ret
              exact ⟨rfl, HT.out.keep.trans' hk6⟩
      · obtain rfl : k = ys.length := by omega
        clear hZw hgo
        go_wp2_with fail
        go_region_with (first
          | (go_at_call 13; refine (bytes_any wb u L hML _ (HB.out.keep0 (keep_drewN _ 1)).isW).mono ?_; rintro e x3 ⟨y1, rfl, hown1, hkb1⟩; obtain ⟨sa1, cp1, rfl⟩ := owns_form hown1; have cv1 := run_conv (Src.of_owns hown1); have hB3 := (HB.out.keep0 (keep_drewN _ 1)).keep0 hkb1)
          | (go_at_call 14; refine (bytesV_any vb v L hML _ hB3.isV).mono ?_; rintro e x4 ⟨y2, rfl, hown2, hkb2⟩; obtain ⟨sa2, cp2, rfl⟩ := owns_form hown2; have cv3 := run_conv (Src.of_owns (owns_keep hown1 hkb2 (fun _ _ h => h))); have cv2 := run_conv (Src.of_owns hown2); have hB4 := hB3.keep0 hkb2))
        all_goals
          have hk4 := hB4.keep
          clear cv1 cv2 cv3 hown1 hown2 hB3 hB4 hkb1 hkb2 HB
          go_wp2_with fail
          refine ((HA.out.2.2.2.2.1 ()) _ hk4).mono ?_
          rintro e w5 ⟨rb, g, rfl, hrb, hg, hIR, hk5⟩
          have hT := two_new (hk4.trans' hk5) hIR (by have := hk4.size; omega) (HA.out.2.2.2.1 ()) HA.out.2.2.2.2.2 (by omega)
          clear hIR hk5 hk4 hrb hg
          go_wp2_with fail
          generalize w5.alloc (.cells #[.slice a3 bs.length cap3, .int .i64 0] 42) = W5 at hT ⊢
          generalize w5.heap.size = qb at hT ⊢
          have HT0 := (show Hid (TwoR w W5 rb g qb gb3 off3 bs 0) from hT)
          clear hT
          go_loopw [75] (fun vi wr => ∃ (j p : Nat), vi = .int .i64 (j : Int) ∧ j ≤ 60 ∧ Hid (TwoR w wr rb g qb gb3 off3 bs p)) (fun vi _ => 60 - (intOf vi).toNat)
          case atStart => exact ⟨0, 0, rfl, Nat.zero_le _, HT0.out⟩
          case round =>
            clear HT0
            obtain ⟨j, p, rfl, hj, HT⟩ := hrel
            by_cases hlt : j < 60
            · have hltI : (j : Int) < 60 := by omega
              go_wp2_with fail
              refine ((HA.out.2.1 ()) wr rb g qb gb3 off3 p HT.out).mono ?_
              rintro e W1 ⟨s, c, rfl, HQ⟩
              clear HT
              go_wp2_with fail
              refine HQ.out.mono ?_
              rintro e W2 ⟨rfl, h⟩
              clear HQ
              have hss : ((s : Int) != (s : Int)) = false := by simp
              rcases h with ⟨rfl, p', hT'⟩ | ⟨hc, hkc⟩
              · have HT' := (show Hid (TwoR w W2 rb g qb gb3 off3 bs p') from hT')
                clear hT'
                obtain ⟨z, hz⟩ : ∃ z : Int, z = (bs.length : Int) * 8 - (p' : Int) := ⟨_, rfl⟩
                have hzz : (z != z) = false := by simp
                have HL := (show Hid (∀ u : Unit, Calls Try.prog 18 #[.pointer (some ⟨rb, 0, none⟩)] W2 fun e w' => e = .returned (.int .i64 z) ∧ ∃ n, w' = W2.drewN n) from fun _ => by rw [hz]; exact left_any rb g bs p' W2 HT'.out.isR)
                have HLQ := (show Hid (∀ q : Nat, Calls Try.prog 19 #[.pointer (some ⟨qb, 0, none⟩)] (W2.drewN q) fun e w' => e = .returned (.int .i64 z) ∧ ∃ n, w' = (W2.drewN q).drewN n) from fun q => by rw [hz]; exact leftQ_any qb gb3 off3 bs p' _ (HT'.out.keep0 (keep_drewN _ q)).isQ)
                clear hz
                go_wp2_with fail
                refine (HL.out ()).mono ?_
                rintro e W3 ⟨rfl, q, rfl⟩
                go_wp2_with fail
                refine (HLQ.out q).mono ?_
                rintro e W4 ⟨rfl, q2, rfl⟩
                clear HL HLQ
                go_wp2_with fail
                go_roundw
                case rel => exact ⟨j + 1, p', by go_num, by omega, HT'.out.keep0 (keep_drewN _ _)⟩
                case measure => simp [intOf]; omega
              · have hcc : (c != c) = false := by simp
                have hc0 : (c == 0) = false := by simpa using hc
                have hc1 : (c != 0) = true := by simpa using hc
                go_wp2_with fail
                refine (wakes_any _).mono ?_
                rintro e w6 ⟨rfl, hk6⟩
                go_wp2_with fail
                go_ret
                exact ⟨rfl, hkc.trans' hk6⟩
            · obtain rfl : j = 60 := by omega
              rw [show ((60 : Nat) : Int) = (60 : Int) from rfl]
              go_wp2_with fail
              refine (wakes_any _).mono ?_
              rintro e w6 ⟨rfl, hk6⟩
              go_wp2_with fail
              go_ret
              exact ⟨rfl, HT.out.keep.trans' hk6⟩

end Go.Proofs.Ytapcohpagipkpaa
