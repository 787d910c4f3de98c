/-
  Parse: the steps of a text.
-/
import Derived.Test.YtlpibfonpfhakaaDoorSteps
import Derived.Test.YtlpibfonpfhakaaDoorNSch
namespace Go.Proofs.YtlpibfonpfhakaaDoor
open Go.RowKit Go.Shelf
set_option linter.unusedVariables false

/-- A text, and how far and how long matches may be. -/
def cf0 (bs : List Nat) (win lo hi : Nat) : Cf := ⟨0, 0, 0, 0, 0, 0, 0, bs, 0, win, lo, hi, 0, 0⟩
theorem byteN_drop (bs : List Nat) (k i : Nat) : byteN (bs.drop k) i = byteN bs (k + i) := by unfold byteN; rw [List.getElem?_drop]
theorem OkM.shift {c : Cf} {bs : List Nat} {k a m b : Nat} (h : OkM c a m b) (hb : c.bs = bs.drop k) (hk : k ≤ bs.length) : OkM (cf0 bs c.window c.least c.most) (a + k) m b := by
  refine ⟨h.lo, h.hi, ?_, h.b1, h.bw, ?_, fun i hi => ?_⟩
  · have := h.fin
    rw [hb, List.length_drop] at this
    show a + k + m ≤ bs.length
    omega
  · have := h.ba; omega
  · have := h.same i hi
    rw [hb, byteN_drop, byteN_drop] at this
    have e := h.ba
    show byteN bs (a + k + i) = byteN bs (a + k - b + i)
    rw [show a + k + i = k + (a + i) from by omega, show a + k - b + i = k + (a - b + i) from by omega]
    exact this
theorem RightL.shift {c : Cf} {bs : List Nat} {k : Nat} (hb : c.bs = bs.drop k) (hk : k ≤ bs.length) : ∀ {L : List Trip} {p : Nat}, RightL c p L → RightL (cf0 bs c.window c.least c.most) (p + k) L
  | [], p, h => by
    have h : p = c.bs.length := h
    rw [hb, List.length_drop] at h
    show p + k = bs.length
    omega
  | (l, m, b) :: r, p, h => by
    rcases h with ⟨q1, q2, q3, q4, q5⟩ | ⟨q1, q2⟩
    · refine .inl ⟨q1, q2, q3, q4, ?_⟩
      rw [hb, List.length_drop] at q5
      show p + k + l = bs.length
      omega
    · refine .inr ⟨?_, ?_⟩
      · have := q1.shift hb hk
        rwa [show p + l + k = p + k + l from by omega] at this
      · have := RightL.shift hb hk q2
        rwa [show p + l + m + k = p + k + l + m from by omega] at this
theorem Uni.shift {c : Cf} {bs : List Nat} {k p win lo hi : Nat} (hb : c.bs = bs.drop k) (h : Uni (cf0 bs win lo hi) (p + k)) : Uni c p := fun i h1 h2 => by
  rw [hb, List.length_drop] at h2
  rw [hb, byteN_drop, byteN_drop]
  have := h (k + i) (by omega) (by show k + i + 1 < bs.length; omega)
  rwa [show k + i + 1 = k + (i + 1) from by omega] at this
/-- What Parse tells. -/
structure Parsed (bs : List Nat) (F lv win lo hi : Nat) (L : List Trip) : Prop where
  right : RightL (cf0 bs win lo hi) F L
  few : lv ≠ 0 → Uni (cf0 bs win lo hi) F → L.length ≤ 2 + (bs.length - F) / hi
  zero : lv = 0 → ∀ t ∈ L, t.2.1 = 0
  none : F = bs.length → L = []
  len : L.length ≤ bs.length + 1

section
attribute [local go_sem] maxSem_eq sliceSem_eq
set_option maxRecDepth 100000 in
set_option maxHeartbeats 4000000 in
theorem parse_any (a : Option Addr) (cap gb off : Nat) (bs : List Nat) (from_ level window least most : Int) (F lv win lo hi : Nat) (w : World) (hD : Dep w) (hB : Bytes w a cap gb off bs) (hn : bs.length < 65536)
    (hF : bringN from_ 0 bs.length = (F : Int)) (hlv : bringN level 0 3 = (lv : Int)) (hwin : bringN window 1 16777216 = (win : Int)) (hlo : bringN least 2 65536 = (lo : Int)) (hhi : bringN most lo 65536 = (hi : Int)) :
    Calls Tryd.prog 11 #[.slice a bs.length cap, .int .i64 from_, .int .i64 level, .int .i64 window, .int .i64 least, .int .i64 most] w fun e w' => (∃ (v : Value) (L : List Trip), e = .returned v ∧ ownsQ w' v L ∧ (∀ g, v.ownBlock = some g → w.heap.size ≤ g) ∧ Parsed bs F lv win lo hi L) ∧ Keep noBlock w w' := by
  have H1 := bring_any from_ 0 bs.length w
  have H2 := bring_any level 0 3 w
  have H3 := bring_any window 1 16777216 w
  have H4 := bring_any least 2 65536 w
  have H5 := bring_any most lo 65536 w
  rw [hF] at H1
  rw [hlv] at H2
  rw [hwin] at H3
  rw [hlo] at H4
  rw [hhi] at H5
  have bF : F ≤ bs.length := by unfold bringN at hF; omega
  have bl : lv < 4 := by unfold bringN at hlv; omega
  have bw : 1 ≤ win ∧ win ≤ 16777216 := by unfold bringN at hwin; omega
  have blo : 2 ≤ lo ∧ lo ≤ 65536 := by unfold bringN at hlo; omega
  have bhi : lo ≤ hi ∧ hi ≤ 65536 := by unfold bringN at hhi; omega
  obtain ⟨r, hr⟩ : ∃ r, r = bs.length - F := ⟨_, rfl⟩
  have hsub : (bs.length : Int) - (F : Int) = (r : Int) := by omega
  clear hF hlv hwin hlo hhi
  have HB := (show Hid (Bytes w a cap gb off bs ∧ Dep w) from ⟨hB, hD⟩)
  have HR := (show Hid (r = bs.length - F ∧ F ≤ bs.length ∧ bs.length < 65536) from ⟨hr, bF, hn⟩)
  clear hD
  by_cases h0 : r = 0
  · have h0b : ((r : Int) == 0) = true := by simp [h0]
    have HF := (show Hid (Parsed bs F lv win lo hi []) from ⟨by show F = bs.length; omega, fun _ _ => Nat.zero_le _, fun _ t ht => (by cases ht), fun _ => rfl, Nat.zero_le _⟩)
    clear hB hr h0
    generalize bs.length = n at *
    go_enter Tryd.func11, Tryd.ntmps11
    go_wp2_with fail
    refine H1.mono ?_
    rintro e w1 ⟨rfl, rfl⟩
    go_wp2_with fail
    refine H2.mono ?_
    rintro e w1 ⟨rfl, rfl⟩
    go_wp2_with fail
    refine H3.mono ?_
    rintro e w1 ⟨rfl, rfl⟩
    go_wp2_with fail
    refine H4.mono ?_
    rintro e w1 ⟨rfl, rfl⟩
    go_wp2_with fail
    refine H5.mono ?_
    rintro e w1 ⟨rfl, rfl⟩
    go_wp2_with fail
    go_ret
    exact ⟨⟨.slice none 0 0, [], rfl, ownsQ_nil _, (fun g e => by cases e), HF.out⟩, Keep.refl _ _⟩
  · have h0b : ((r : Int) == 0) = false := by rw [beq_eq_false_iff_ne]; omega
    by_cases h1 : lv = 0 ∨ r < lo
    · have HF := (show Hid (Parsed bs F lv win lo hi [(r, 0, 0)]) from ⟨.inl ⟨rfl, rfl, rfl, h0, by show F + r = bs.length; omega⟩, fun _ _ => Nat.le_trans (show 1 ≤ 2 by decide) (Nat.le_add_right 2 _), fun _ t ht => by simp at ht; rw [ht], fun e => by omega, by simp⟩)
      have HO := (show Hid (∀ W : World, ownsQ (W.alloc (.cells #[.int .i64 (r : Int), .int .i64 0, .int .i64 0] 25)) (.slice (some ⟨W.heap.size, 0, none⟩) 1 1) [(r, 0, 0)]) from fun W =>
        ⟨rfl, .inr ⟨W.heap.size, 1, _, rfl, Nat.zero_le _, alloc_new W _, Nat.le_refl _, by unfold maxLen; omega, rfl, rfl⟩⟩)
      have hc : ((lv : Int) == 0) = true ∨ (((lv : Int) == 0) = false ∧ (r : Int) < (lo : Int)) := by
        by_cases e : lv = 0
        · left; simp [e]
        · right; exact ⟨by rw [beq_eq_false_iff_ne]; omega, by omega⟩
      clear hB hr h0 h1
      generalize bs.length = n at *
      rcases hc with hc | ⟨hc, hc2⟩
      · go_enter Tryd.func11, Tryd.ntmps11
        go_wp2_with fail
        refine H1.mono ?_
        rintro e w1 ⟨rfl, rfl⟩
        go_wp2_with fail
        refine H2.mono ?_
        rintro e w1 ⟨rfl, rfl⟩
        go_wp2_with fail
        refine H3.mono ?_
        rintro e w1 ⟨rfl, rfl⟩
        go_wp2_with fail
        refine H4.mono ?_
        rintro e w1 ⟨rfl, rfl⟩
        go_wp2_with fail
        refine H5.mono ?_
        rintro e w1 ⟨rfl, rfl⟩
        go_wp2_with fail
        go_ret
        exact ⟨⟨.slice (some ⟨w1.heap.size, 0, none⟩) 1 1, _, rfl, HO.out _, (fun g e => by simp [Value.ownBlock] at e; omega), HF.out⟩, (Keep.refl _ _).alloc _⟩
      · go_enter Tryd.func11, Tryd.ntmps11
        go_wp2_with fail
        refine H1.mono ?_
        rintro e w1 ⟨rfl, rfl⟩
        go_wp2_with fail
        refine H2.mono ?_
        rintro e w1 ⟨rfl, rfl⟩
        go_wp2_with fail
        refine H3.mono ?_
        rintro e w1 ⟨rfl, rfl⟩
        go_wp2_with fail
        refine H4.mono ?_
        rintro e w1 ⟨rfl, rfl⟩
        go_wp2_with fail
        refine H5.mono ?_
        rintro e w1 ⟨rfl, rfl⟩
        go_wp2_with fail
        go_ret
        exact ⟨⟨.slice (some ⟨w1.heap.size, 0, none⟩) 1 1, _, rfl, HO.out _, (fun g e => by simp [Value.ownBlock] at e; omega), HF.out⟩, (Keep.refl _ _).alloc _⟩
    · have hc1 : ((lv : Int) == 0) = false := by rw [beq_eq_false_iff_ne]; omega
      have hc2 : ¬ (r : Int) < (lo : Int) := by omega
      have hc2' : decide (r < lo) = false := decide_eq_false (by omega)
      obtain ⟨dd, hdd⟩ : ∃ dd : Int, dd = (F : Int) - (win : Int) := ⟨_, rfl⟩
      have hsub2 : (F : Int) - (win : Int) = dd := hdd.symm
      have hdw : IntKind.i64.wrap dd = dd := by rw [IntKind.wrap_i64]; omega
      obtain ⟨k, hk⟩ : ∃ k, k = F - win := ⟨_, rfl⟩
      have hmax := maxSem_run #[3, 3] 3 0 dd (k : Int) (by omega)
      obtain ⟨p, hp⟩ : ∃ p, p = F - k := ⟨_, rfl⟩
      have hsub3 : (F : Int) - (k : Int) = (p : Int) := by omega
      obtain ⟨a2, off2, hdr, hB2, -⟩ := hB.drop k (by omega)
      have hdl : (bs.drop k).length = bs.length - k := List.length_drop
      have ha2 : a2 = some ⟨gb, off2, none⟩ := by
        rcases hB2.at_ with e | e
        · exact e
        · have : (bs.drop k).length = 0 := by rw [e]; rfl
          omega
      subst ha2
      obtain ⟨c2, hc2e⟩ : ∃ c2, c2 = cap - k := ⟨_, rfl⟩
      rw [← hc2e] at hdr hB2
      have HNS := newSearch_any gb off2 c2 lv win lo hi (bs.drop k) w HB.out.2 hB2 (by omega) (by omega) bl bw.1 bw.2 blo.1 bhi.1 bhi.2
      have HEND := (show Hid (∀ (c : Cf) (L : List Trip), c.bs = bs.drop k → c.window = win → c.least = lo → c.most = hi → Told c p L → L.length ≤ c.bs.length + 1 → Parsed bs F lv win lo hi L) from fun c L e1 e2 e3 e4 hT hL => by
        have hkb : k ≤ bs.length := by omega
        have hpk : p + k = F := by omega
        have hr2 := hT.right.shift e1 hkb
        rw [e2, e3, e4, hpk] at hr2
        refine ⟨hr2, fun _ hu => ?_, fun e => by omega, fun e => by omega, by rw [e1, hdl] at hL; omega⟩
        have := hT.few (Uni.shift e1 (by rw [hpk]; exact hu))
        rw [e1, e4, hdl] at this
        rwa [show bs.length - k - p = bs.length - F from by omega] at this)
      have HPL := (show Hid (p ≤ (bs.drop k).length) from (by omega : p ≤ (bs.drop k).length))
      obtain ⟨ln, hln⟩ : ∃ ln, ln = (bs.drop k).length := ⟨_, rfl⟩
      rw [← hln] at hdr HNS
      clear hB hB2 hr h0 h1 hdd hk hp hdl hc2e hln
      generalize bs.length = n at *
      go_enter Tryd.func11, Tryd.ntmps11
      go_wp2_with fail
      refine H1.mono ?_
      rintro e w1 ⟨rfl, rfl⟩
      go_wp2_with fail
      refine H2.mono ?_
      rintro e w1 ⟨rfl, rfl⟩
      go_wp2_with fail
      refine H3.mono ?_
      rintro e w1 ⟨rfl, rfl⟩
      go_wp2_with fail
      refine H4.mono ?_
      rintro e w1 ⟨rfl, rfl⟩
      go_wp2_with fail
      refine H5.mono ?_
      rintro e w1 ⟨rfl, rfl⟩
      go_wp2_with fail
      refine HNS.mono ?_
      rintro e W1 ⟨⟨c, rfl, e1, e2, e3, e4, s1, hnew⟩, k1⟩
      have HST := steps_any c p W1 s1 (by rw [e1]; exact HPL.out)
      clear HNS H1 H2 H3 H4 H5
      go_wp2_with fail
      refine HST.mono ?_
      rintro e W2 ⟨⟨v, L, rfl, own2, new2, hT, hL⟩, k2⟩
      have HF := (show Hid (ownsQ W2 v L ∧ (∀ g, v.ownBlock = some g → w1.heap.size ≤ g) ∧ Parsed bs F lv win lo hi L ∧ Keep noBlock w1 W2) from
        ⟨own2, fun g hg => Nat.le_trans k1.size (new2 g hg), HEND.out c L e1 e2 e3 e4 hT hL, k1.trans k2 (fun i hi e => by have := hnew i e; omega)⟩)
      clear HST own2 new2 hT hL k2 k1 hnew s1
      go_wp2_with fail
      go_ret
      exact ⟨⟨v, L, rfl, HF.out.1, HF.out.2.1, HF.out.2.2.1⟩, HF.out.2.2.2⟩
end
end Go.Proofs.YtlpibfonpfhakaaDoor
