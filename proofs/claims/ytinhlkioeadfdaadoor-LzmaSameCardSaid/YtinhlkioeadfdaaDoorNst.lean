/-
  A new state; settings.
-/
import Derived.Test.YtinhlkioeadfdaaDoorRss
import Derived.Laws.Tables
namespace Go.Proofs.YtinhlkioeadfdaaDoor
open Go.RowKit Go.Shelf
set_option linter.unusedVariables false

/-! A new state: its cells are looked through by the kernel. -/
def isI (k : IntKind) (m : Int) : Value → Bool
  | .int k' n => decide (k' = k) && n == m
  | _ => false
theorem isI_eq {k : IntKind} {m : Int} {v : Value} (h : isI k m v = true) : v = .int k m := by
  cases v with
  | int k' n =>
    simp only [isI, Bool.and_eq_true, decide_eq_true_eq, beq_iff_eq] at h
    rw [h.1, h.2]
  | _ => simp [isI] at h
def ok16 : Nat → List Value → Bool
  | 0, [] => true
  | n + 1, a :: r => isI .u16 0 a && ok16 n r
  | _, _ => false
theorem ok16_eq : ∀ (n : Nat) (l : List Value), ok16 n l = true → l = List.replicate n (.int .u16 0)
  | 0, [], _ => rfl
  | 0, _ :: _, h => by simp [ok16] at h
  | n + 1, [], h => by simp [ok16] at h
  | n + 1, a :: r, h => by
    simp only [ok16, Bool.and_eq_true] at h
    rw [isI_eq h.1, ok16_eq n r h.2, List.replicate_succ]
def okS : List Value → Bool
  | a0 :: a1 :: a2 :: a3 :: a4 :: a5 :: a6 :: a7 :: r => isI .i64 0 a0 && (isI .i64 0 a1 && (isI .i64 0 a2 && (isI .u8 0 a3 && (isI .u32 0 a4 && (isI .u32 0 a5 && (isI .u32 0 a6 && (isI .u32 0 a7 && ok16 14135 r)))))))
  | _ => false
theorem chkS : okS Tryd.zeroCells60.toList = true := by kernel_rfl
theorem okS_cells (a : Array Value) (h : okS a.toList = true) : Cells a (newS 0 0 0) (fun _ => 0) := by
  obtain ⟨l⟩ := a
  match l, h with
  | a0 :: a1 :: a2 :: a3 :: a4 :: a5 :: a6 :: a7 :: r, h =>
    simp only [okS, Bool.and_eq_true] at h
    obtain ⟨h0, h1, h2, h3, h4, h5, h6, h7, h8⟩ := h
    rw [isI_eq h0, isI_eq h1, isI_eq h2, isI_eq h3, isI_eq h4, isI_eq h5, isI_eq h6, isI_eq h7]
    have hr := ok16_eq 14135 r h8
    clear h8
    generalize hn : 14135 = n at hr
    subst hr
    refine ⟨by simp; omega, rfl, rfl, rfl, rfl, rfl, rfl, rfl, rfl, fun i i1 i2 => ?_⟩
    obtain ⟨k, rfl⟩ : ∃ k, i = k + 8 := ⟨i - 8, by omega⟩
    rw [List.getElem?_toArray]
    simp only [List.getElem?_cons_succ]
    rw [List.getElem?_replicate, if_pos (by omega)]
    rfl
/-- Settings are set. -/
theorem Cells.sett {cs : Array Value} {s : Se} {c : Nat → Nat} (h : Cells cs s c) (lc lp pb : Nat) : Cells (((cs.setIfInBounds 0 (.int .i64 (lc : Int))).setIfInBounds 1 (.int .i64 (lp : Int))).setIfInBounds 2 (.int .i64 (pb : Int))) { s with lc := lc, lp := lp, pb := pb } c := by
  have hs := h.size
  have far : ∀ k, 3 ≤ k → (((cs.setIfInBounds 0 (.int .i64 (lc : Int))).setIfInBounds 1 (.int .i64 (lp : Int))).setIfInBounds 2 (.int .i64 (pb : Int)))[k]? = cs[k]? := fun k hk => by
    rw [Array.getElem?_setIfInBounds, if_neg (by omega), Array.getElem?_setIfInBounds, if_neg (by omega), Array.getElem?_setIfInBounds, if_neg (by omega)]
  refine ⟨by simp [hs], ?_, ?_, ?_, (far 3 (by omega)).trans h.e3, (far 4 (by omega)).trans h.e4, (far 5 (by omega)).trans h.e5, (far 6 (by omega)).trans h.e6, (far 7 (by omega)).trans h.e7, fun k k1 k2 => (far k (by omega)).trans (h.ch k k1 k2)⟩
  · simp [hs]
  · simp [hs]
  · simp [hs]
theorem IsS.sett {w : World} {b : Nat} {s : Se} {c : Nat → Nat} (h : IsS w b s c) (lc lp pb : Nat) (h1 : lc + lp ≤ 4) (h2 : pb ≤ 4) : IsS (((w.setCell ⟨b, 0, none⟩ (.int .i64 (lc : Int))).setCell ⟨b, 1, none⟩ (.int .i64 (lp : Int))).setCell ⟨b, 2, none⟩ (.int .i64 (pb : Int))) b { s with lc := lc, lp := lp, pb := pb } c := by
  obtain ⟨cs, ho, hc⟩ := h.obj
  exact ⟨⟨_, set_obj (set_obj (set_obj ho 0 _) 1 _) 2 _, hc.sett lc lp pb⟩, ⟨h1, h2, h.ok.ph, h.ok.r0, h.ok.r1, h.ok.r2, h.ok.r3⟩, h.lt⟩
set_option maxRecDepth 20000 in
set_option maxHeartbeats 2000000 in
theorem new_state (w : World) : Calls Tryd.prog 5 #[] w fun e w' => e = .returned (.pointer (some ⟨w.heap.size, 0, none⟩)) ∧ IsS w' w.heap.size (newS 3 0 2) (fun _ => 1024) ∧ Keep noBlock w w' := by
  have hS : IsS (w.alloc (.cells (((Tryd.zeroCells60.setIfInBounds 0 (.int .i64 3)).setIfInBounds 1 (.int .i64 0)).setIfInBounds 2 (.int .i64 2)) 60)) w.heap.size (newS 3 0 2) (fun _ => 0) := ⟨⟨_, alloc_new w _, (okS_cells _ chkS).sett 3 0 2⟩, ⟨by decide, by decide, by decide, by decide, by decide, by decide, by decide⟩, fun _ => by show 0 < 65536; omega⟩
  have HR := hid (reset_any w.heap.size _ _ _ hS)
  clear hS
  generalize hzz : ((Tryd.zeroCells60.setIfInBounds 0 (.int .i64 3)).setIfInBounds 1 (.int .i64 0)).setIfInBounds 2 (.int .i64 2) = zz at *
  have HZ := hid hzz
  clear hzz
  go_enter Tryd.func5, Tryd.ntmps5
  go_wp2_with fail
  rw [HZ.out]
  refine HR.out.mono ?_
  rintro e w2 ⟨rfl, h2, k2⟩
  have HF := (show Hid (IsS w2 w.heap.size (newS 3 0 2) (fun _ => 1024) ∧ Keep noBlock w w2) from ⟨h2, ((Keep.refl noBlock w).alloc _).trans k2 (fun i hi e => by omega)⟩)
  clear h2 k2 HR
  go_wp2_with fail
  go_ret
  exact ⟨rfl, HF.out⟩

theorem props_nil (b : Int) (w : World) : Calls Tryd.prog 9 #[.pointer none, .int .u8 b] w fun e w' => e = .returned (.int .i64 1) ∧ w' = w := by
  go_enter Tryd.func9, Tryd.ntmps9
  go_wp2
  go_ret
  exact ⟨rfl, rfl⟩
/-- What Props answers. -/
def propsE (b : Nat) : Nat := if 4 < b / 45 ∨ 4 < b % 9 + b / 9 % 5 then 11 else 0
set_option maxRecDepth 20000 in
set_option maxHeartbeats 2000000 in
theorem props_any (sb : Nat) (s : Se) (c : Nat → Nat) (b : Nat) (hb : b < 256) (w : World) (h : IsS w sb s c) :
    Calls Tryd.prog 9 #[.pointer (some ⟨sb, 0, none⟩), .int .u8 (b : Int)] w fun e w' => e = .returned (.int .i64 ((propsE b : Nat) : Int)) ∧ (∃ s' c', IsS w' sb s' c') ∧ Keep (fun k => k = sb) w w' := by
  obtain ⟨lc, hlc⟩ : ∃ lc : Nat, lc = b % 9 := ⟨_, rfl⟩
  obtain ⟨b9, hb9⟩ : ∃ b9 : Nat, b9 = b / 9 := ⟨_, rfl⟩
  obtain ⟨lp, hlp⟩ : ∃ lp : Nat, lp = b9 % 5 := ⟨_, rfl⟩
  obtain ⟨pb, hpb⟩ : ∃ pb : Nat, pb = b / 45 := ⟨_, rfl⟩
  have i1 : (b : Int) % 9 = (lc : Int) := by omega
  have i2 : (b : Int) / 9 = (b9 : Int) := by omega
  have i3 : (b9 : Int) % 5 = (lp : Int) := by omega
  have i4 : (b : Int) / 45 = (pb : Int) := by omega
  have hE : propsE b = if 4 < pb ∨ 4 < lc + lp then 11 else 0 := by rw [hpb, hlc, hlp, hb9]; rfl
  rw [hE]
  have l1 : lc < 9 := by omega
  have l2 : lp < 5 := by omega
  have l3 : pb < 6 := by omega
  have l4 : b9 < 30 := by omega
  obtain ⟨f0, f1, f2, -, -, -, -, -, ff⟩ := h.first
  have g0 := ff 0
  have g1 := ff 1
  have g2 := ff 2
  have HI := hid h
  clear hlc hb9 hlp hpb hE h ff
  by_cases h1 : 4 < pb
  · have h1I : 4 < (pb : Int) := by omega
    rw [if_pos (.inl h1)]
    go_enter Tryd.func9, Tryd.ntmps9
    go_wp2_with fail
    go_ret
    exact ⟨rfl, ⟨s, c, HI.out.keep (S := noBlock) ((Keep.refl _ w).alloc _) (fun h => h)⟩, (Keep.refl _ w).alloc _⟩
  · have h1I : ¬ 4 < (pb : Int) := by omega
    by_cases h2 : 4 < lc + lp
    · have h2I : 4 < (lc : Int) + (lp : Int) := by omega
      rw [if_pos (.inr h2)]
      go_enter Tryd.func9, Tryd.ntmps9
      go_wp2_with fail
      go_ret
      exact ⟨rfl, ⟨s, c, HI.out.keep (S := noBlock) ((Keep.refl _ w).alloc _) (fun h => h)⟩, (Keep.refl _ w).alloc _⟩
    · have h2I : ¬ 4 < (lc : Int) + (lp : Int) := by omega
      rw [if_neg (by omega)]
      have ka : Keep noBlock w (w.alloc (.cells #[.int .i64 (lc : Int), .int .i64 (lp : Int), .int .i64 (pb : Int)] 36)) := (Keep.refl noBlock w).alloc _
      have h3 := HI.out.keep ka (fun h => h)
      obtain ⟨b0, b1, b2, -, -, -, -, -, bf⟩ := h3.first
      have d0 := bf 0
      have d1 := bf 1
      have d2 := bf 2
      have h4 := h3.sett lc lp pb (by omega) (by omega)
      have HR := hid (reset_any sb _ _ _ h4)
      have HK := (show Hid (Keep (fun k => k = sb) w (((((w.alloc (.cells #[.int .i64 (lc : Int), .int .i64 (lp : Int), .int .i64 (pb : Int)] 36)).setCell ⟨sb, 0, none⟩ (.int .i64 (lc : Int))).setCell ⟨sb, 1, none⟩ (.int .i64 (lp : Int))).setCell ⟨sb, 2, none⟩ (.int .i64 (pb : Int))))) from (((ka.mono (T := fun k => k = sb) (fun _ _ h => h.elim)).setCell (p := ⟨sb, 0, none⟩) (fun _ => rfl) _).setCell (p := ⟨sb, 1, none⟩) (fun _ => rfl) _).setCell (p := ⟨sb, 2, none⟩) (fun _ => rfl) _)
      clear h3 h4 bf ka
      go_enter Tryd.func9, Tryd.ntmps9
      go_wp2_with fail
      refine HR.out.mono ?_
      rintro e w5 ⟨rfl, h5, k5⟩
      have HF := (show Hid ((∃ s' c', IsS w5 sb s' c') ∧ Keep (fun k => k = sb) w w5) from ⟨⟨_, _, h5⟩, HK.out.trans' k5⟩)
      clear h5 k5 HR HK
      go_wp2_with fail
      go_ret
      exact ⟨rfl, HF.out⟩

end Go.Proofs.YtinhlkioeadfdaaDoor
