/-
  WindowHolds, the walk: a ledger and all windows that were charged to it.
-/
import Derived.Test.YtpjbegafhgnebaaIn
import Derived.Test.YtpjbegafhgnebaaWakes
import Derived.Test.YtpjbegafhgnebaaFill
namespace Go.Proofs.Ytpjbegafhgnebaa
namespace HoldsLaw
open Go.RowKit Go.Shelf
set_option linter.unusedVariables false

theorem cell_kept {w W : World} (h : Keep noBlock w W) {b o : Nat} {v : Value} (hc : w.cell? ⟨b, o, none⟩ = some v) : W.cell? ⟨b, o, none⟩ = some v :=
  (World.cell?_of_block (a := ⟨b, o, none⟩) (h.block b (World.block_lt_of_cell? w _ hc) (fun h => h))).trans hc
theorem type_ne {W : World} {a b : Nat} {cs ds : Array Value} {t u : TypeId} {f g : Nat × Nat} (ha : W.heap[a]? = some (.cells cs t f)) (hb : W.heap[b]? = some (.cells ds u g)) (h : t ≠ u) : a ≠ b := by
  rintro rfl
  rw [ha] at hb
  simp only [Option.some.injEq, Obj.cells.injEq] at hb
  exact h hb.2.1
theorem owns_kept' {w w' : World} {S : Nat → Prop} {base e : Nat} {v : Value} {n : Nat} {xs : List Value} (h : w.ownsRow base e 1 v n xs) (hk : Keep S w w') (hS : ∀ g, v.ownBlock = some g → ¬ S g) : w'.ownsRow base e 1 v n xs := by
  refine ⟨h.1, ?_⟩
  rcases h.2 with ⟨e, h0⟩ | ⟨g, cap, cur, rfl, hb, hg, hr⟩
  · exact .inl ⟨e, h0⟩
  · exact .inr ⟨g, cap, cur, rfl, hb, hk.obj hg (hS g rfl), hr⟩
/-- 's = ((s % n) + n) % n'. -/
def around (n : Nat) (s : Int) : Nat := ((s.tmod n + n).tmod n).toNat
theorem around_lt (n : Nat) (s : Int) (hn : 0 < n) (h : n ≤ 1024) : ((around n s : Nat) : Int) = (s.tmod n + n).tmod n ∧ around n s < n ∧ -1024 ≤ s.tmod n ∧ s.tmod n ≤ 1024 := by
  have h1 : -(n : Int) < s.tmod n := by
    have h := Int.natAbs_tmod s n
    have h' := Nat.mod_lt s.natAbs (show 0 < (n : Int).natAbs by simpa using hn)
    rw [← h] at h'
    simp only [Int.natAbs_natCast] at h'
    omega
  have h2 : s.tmod n < n := Int.tmod_lt_of_pos _ (by omega)
  have h3 : 0 ≤ s.tmod n + n := by omega
  have h4 : (s.tmod n + n).tmod n < n := Int.tmod_lt_of_pos _ (by omega)
  have h5 : 0 ≤ (s.tmod n + n).tmod n := Int.tmod_nonneg _ h3
  unfold around
  omega

theorem info29 : (Try.prog.info? 29).map (fun i => (i.zero, i.size, i.bytes)) = some (some (.pointer none), 1, 8) := by kernel_rfl
/-- append of a pointer onto a row of one's own. -/
theorem run_append_ptr (w : World) (ty : TypeId) (v : Value) (xs : List Value) (n : Nat) (hown : w.ownsRow 0 29 1 v n xs) (hlen : n ≤ 1000) (H b : Nat) (hH : w.heap[H]? = some (.cells #[.pointer (some ⟨b, 0, none⟩)] 29 (0, 0))) :
    ∃ g cap w', (Builtin.append_ #[53, 53] ty #[v, .slice (some ⟨H, 0, none⟩) 1 1]).run Try.prog w = .ok (.slice (some ⟨g, 0, none⟩) (n + 1) cap) w' ∧ w'.ownsRow 0 29 1 (.slice (some ⟨g, 0, none⟩) (n + 1) cap) (n + 1) (xs ++ [.pointer (some ⟨b, 0, none⟩)]) ∧ Keep (fun k => v.ownBlock = some k) w w' ∧ (v.ownBlock = some g ∨ g = w.heap.size) := by
  obtain ⟨i0, hi, hz0, hz1, hz2⟩ := info_parts info29
  obtain ⟨g, cap, w', hr, h2, h3, h4, h5⟩ := run_append_lies (P := Try.prog) w 53 ty 0 29 i0 (.pointer none) 1 8 Try.underlying53 hi hz0 hz1 hz2 rfl (by decide) v n xs hown ⟨H, 0, none⟩ 1 1 [.pointer (some ⟨b, 0, none⟩)] rfl
    (fun j u hu => by
      cases j with
      | zero => rw [add0, cell_of hH 0]; simpa using hu
      | succ j => simp at hu) (by simp [Value.oneCell']) (by decide) (by unfold maxLen; omega) (by omega) (Nat.zero_le _) _ rfl
  exact ⟨g, cap, w', hr, h2, (Keep.refl _ w).grown h3 (fun k e _ => e), h4⟩

/-- A window of which nothing but its size matters: h, 0 when it was dropped. -/
def WinAt (W : World) (lb : Nat) (p : Nat × Nat) : Prop := (p.2 = 0 ∧ IsD W p.1) ∨ (0 < p.2 ∧ IsW W p.1 lb p.2 (.slice none 0 0) [])
theorem WinAt.obj {W : World} {lb : Nat} {p : Nat × Nat} (h : WinAt W lb p) : ∃ cs, W.heap[p.1]? = some (.cells cs 65 (0, 0)) := by
  rcases h with ⟨_, h⟩ | ⟨_, R, o, h, -⟩
  · exact ⟨_, h⟩
  · exact ⟨_, h.obj⟩
theorem WinAt.keep {W W' : World} {S : Nat → Prop} {lb : Nat} {p : Nat × Nat} (h : WinAt W lb p) (hk : Keep S W W') (hS : ¬ S p.1) : WinAt W' lb p := by
  rcases h with ⟨e, h⟩ | ⟨e, h⟩
  · exact .inl ⟨e, hk.obj h hS⟩
  · exact .inr ⟨e, h.keep hk hS (fun g hg => by cases hg)⟩
theorem WinAt.cell {W : World} {lb : Nat} {p : Nat × Nat} (h : WinAt W lb p) : W.cell? ⟨p.1, 0, none⟩ = some (.int .i64 (p.2 : Int)) := by
  rcases h with ⟨e, h⟩ | ⟨e, R, o, h, -⟩
  · rw [e]; exact cell_of h 0
  · exact cell_of h.obj 0

def ptrs (ws : List (Nat × Nat)) : List Value := ws.map (fun p => .pointer (some ⟨p.1, 0, none⟩))
def sizes (ws : List (Nat × Nat)) : Nat := (ws.map Prod.snd).sum
theorem sizes_set (ws : List (Nat × Nat)) (j : Nat) (p : Nat × Nat) (h : j < ws.length) : sizes (ws.set j p) + (ws[j]).2 = sizes ws + p.2 := by
  induction ws generalizing j with
  | nil => simp at h
  | cons a ws ih =>
    cases j with
    | zero => simp [sizes]; omega
    | succ j =>
      have := ih j (by simpa using h)
      simp only [sizes, List.set_cons_succ, List.map_cons, List.sum_cons, List.getElem_cons_succ] at this ⊢
      omega
theorem sizes_le (ws : List (Nat × Nat)) (j : Nat) (h : j < ws.length) : (ws[j]).2 ≤ sizes ws := by
  have := sizes_set ws j (0, 0) h
  simp only at this
  omega
theorem sizes_zero (ws : List (Nat × Nat)) (h : ∀ p ∈ ws, p.2 = 0) : sizes ws = 0 := by
  induction ws with
  | nil => rfl
  | cons a ws ih =>
    have h1 := h a (by simp)
    have h2 := ih (fun p hp => h p (by simp [hp]))
    simp only [sizes, List.map_cons, List.sum_cons] at h2 ⊢
    omega
theorem ptrs_set (ws : List (Nat × Nat)) (j h : Nat) (hj : j < ws.length) : ptrs (ws.set j ((ws[j]).1, h)) = ptrs ws := by
  unfold ptrs
  rw [List.map_set]
  refine List.ext_getElem (by simp) fun i h1 h2 => ?_
  rw [List.getElem_set]
  split
  · rename_i e
    subst e
    simp
  · rfl

/-- The ledger and all windows. -/
structure Many (w W : World) (lb B most : Nat) (ws : List (Nat × Nat)) (v : Value) : Prop where
  isL : IsL W lb B (sizes ws) most
  wins : ∀ p ∈ ws, WinAt W lb p
  nodup : (ws.map Prod.fst).Nodup
  row : W.ownsRow 0 29 1 v ws.length (ptrs ws)
  keep : Keep noBlock w W
  lo : w.heap.size ≤ lb
  lows : ∀ p ∈ ws, w.heap.size ≤ p.1
  vlo : ∀ g, v.ownBlock = some g → w.heap.size ≤ g
theorem Many.same {w W W' : World} {lb B most : Nat} {ws : List (Nat × Nat)} {v : Value} (h : Many w W lb B most ws v) (hk : Keep noBlock W W') : Many w W' lb B most ws v :=
  ⟨h.isL.keep hk (fun h => h), fun p hp => (h.wins p hp).keep hk (fun h => h), h.nodup, owns_kept' h.row hk (fun _ _ h => h), h.keep.trans' hk, h.lo, h.lows, h.vlo⟩
theorem Many.form {w W : World} {lb B most : Nat} {ws : List (Nat × Nat)} {v : Value} (h : Many w W lb B most ws v) : ∃ a cap g, v = .slice a ws.length cap ∧ (a = some ⟨g, 0, none⟩ ∨ ws = []) ∧ ∀ j (hj : j < ws.length), W.cell? ⟨g, j, none⟩ = some (.pointer (some ⟨(ws[j]).1, 0, none⟩)) := by
  rcases h.row.2 with ⟨e, h0⟩ | ⟨g, cap, cur, e, hb, hg, h1, h2, h3, h4⟩
  · have : ws = [] := List.length_eq_zero_iff.1 h0
    subst this
    exact ⟨none, 0, 0, e, .inr rfl, (fun j hj => by simp at hj)⟩
  · refine ⟨_, cap, g, e, .inl rfl, fun j hj => ?_⟩
    rw [Nat.mul_one] at h4
    have h5 : (ptrs ws)[j]? = some (.pointer (some ⟨(ws[j]).1, 0, none⟩)) := by simp [ptrs, hj]
    rw [← h4, List.getElem?_take, if_pos hj] at h5
    rw [cell_of hg j]
    simpa using h5
theorem Many.held {w W : World} {lb B most : Nat} {ws : List (Nat × Nat)} {v : Value} (h : Many w W lb B most ws v) (j : Nat) (hj : j < ws.length) :
    Calls Try.prog 24 #[.pointer (some ⟨(ws[j]).1, 0, none⟩)] W fun e W' => e = .returned (.int .i64 (((ws[j]).2 : Nat) : Int)) ∧ W' = W :=
  wheld_cell _ _ W (h.wins _ (List.getElem_mem hj)).cell
theorem fst_ne {ws : List (Nat × Nat)} (hn : (ws.map Prod.fst).Nodup) {i j : Nat} (hi : i < ws.length) (hj : j < ws.length) (hij : i ≠ j) : (ws[i]).1 ≠ (ws[j]).1 := by
  intro e
  have h1 := List.pairwise_iff_getElem.1 hn
  rcases Nat.lt_or_gt_of_ne hij with h | h
  · exact h1 i j (by simpa using hi) (by simpa using hj) h (by simpa using e)
  · exact h1 j i (by simpa using hj) (by simpa using hi) h (by simpa using e.symm)
/-- Drop of one of them. -/
theorem Many.drop {w W : World} {lb B most : Nat} {ws : List (Nat × Nat)} {v : Value} (h : Many w W lb B most ws v) (j : Nat) (hj : j < ws.length) :
    Calls Try.prog 22 #[.pointer (some ⟨(ws[j]).1, 0, none⟩)] W fun e W' => e = .returned (.tuple #[]) ∧ Many w W' lb B most (ws.set j ((ws[j]).1, 0)) v := by
  have hmem := List.getElem_mem hj
  have hss := sizes_set ws j ((ws[j]).1, 0) hj
  have hsl := sizes_le ws j hj
  have hfst : (ws.set j ((ws[j]).1, 0)).map Prod.fst = ws.map Prod.fst := by
    rw [List.map_set]
    refine List.ext_getElem (by simp) fun i h1 h2 => ?_
    rw [List.getElem_set]
    split
    · rename_i e
      subst e
      simp
    · rfl
  have hin : ∀ (W' : World) (S : Nat → Prop), Keep S W W' → (∀ k, S k → k = (ws[j]).1 ∨ k = lb) → WinAt W' lb ((ws[j]).1, 0) → ∀ p ∈ ws.set j ((ws[j]).1, 0), WinAt W' lb p := by
    intro W' S hK hS hD p hp
    obtain ⟨i, hi, rfl⟩ := List.mem_iff_getElem.1 hp
    rw [List.length_set] at hi
    rw [List.getElem_set]
    split
    · exact hD
    · rename_i hne
      refine (h.wins _ (List.getElem_mem hi)).keep hK (fun e => ?_)
      rcases hS _ e with e | e
      · exact fst_ne h.nodup hi hj (fun q => hne q.symm) e
      · obtain ⟨cs, o⟩ := (h.wins _ (List.getElem_mem hi)).obj
        exact type_ne o h.isL.obj (by decide) e
  have hlows : ∀ p ∈ ws.set j ((ws[j]).1, 0), w.heap.size ≤ p.1 := by
    intro p hp
    obtain ⟨i, hi, rfl⟩ := List.mem_iff_getElem.1 hp
    rw [List.length_set] at hi
    rw [List.getElem_set]
    split
    · have := h.lows (ws[j]) hmem
      exact this
    · exact h.lows _ (List.getElem_mem hi)
  rcases h.wins _ hmem with ⟨e0, hD⟩ | ⟨e0, hW⟩
  · refine (drop_gone _ W hD).mono ?_
    rintro e W' ⟨rfl, rfl⟩
    have es : sizes (ws.set j ((ws[j]).1, 0)) = sizes ws := by simp only at hss; omega
    exact ⟨rfl, ⟨by rw [es]; exact h.isL, hin W' noBlock (Keep.refl _ _) (fun _ h => h.elim) (.inl ⟨rfl, hD⟩), by rw [hfst]; exact h.nodup, by rw [List.length_set, ptrs_set ws j 0 hj]; exact h.row, h.keep, h.lo, hlows, h.vlo⟩⟩
  · refine (drop_any (ws[j]).1 lb (ws[j]).2 B (sizes ws) most (.slice none 0 0) [] W hW h.isL hsl).mono ?_
    rintro e W' ⟨rfl, hD, hL, hK⟩
    have es : sizes (ws.set j ((ws[j]).1, 0)) = sizes ws - (ws[j]).2 := by simp only at hss; omega
    obtain ⟨cs, o⟩ := (h.wins _ hmem).obj
    refine ⟨rfl, ⟨by rw [es]; exact hL, hin W' _ hK (fun _ e => e) (.inl ⟨rfl, hD⟩), by rw [hfst]; exact h.nodup, ?_, h.keep.trans hK ?_, h.lo, hlows, h.vlo⟩⟩
    · rw [List.length_set, ptrs_set ws j 0 hj]
      refine owns_kept' h.row hK ?_
      rintro g hg (e | e)
      · exact owns_ne h.row o (by decide) (by rw [hg, e])
      · exact owns_ne h.row h.isL.obj (by decide) (by rw [hg, e])
    · rintro i hi (e | e)
      · have := h.lows _ hmem; omega
      · have := h.lo; omega
/-- New, and the row with it. -/
theorem Many.more {w W W1 W2 : World} {lb B most s wb : Nat} {ws : List (Nat × Nat)} {v v' : Value} (h : Many w W lb B most ws v) (hs : 1 ≤ s) (hwb : W.heap.size ≤ wb) (hL : IsL W1 lb B (sizes ws + s) (max (sizes ws + s) most)) (hW : IsW W1 wb lb s (.slice none 0 0) []) (hK : Keep (fun k => k = lb) W W1)
    (hR : W2.ownsRow 0 29 1 v' (ws.length + 1) (ptrs ws ++ [.pointer (some ⟨wb, 0, none⟩)])) (hK2 : Keep (fun k => v.ownBlock = some k) W1 W2) (hv : v'.ownBlock = v.ownBlock ∨ ∃ g, v'.ownBlock = some g ∧ w.heap.size ≤ g) :
    Many w W2 lb B (max (sizes ws + s) most) (ws ++ [(wb, s)]) v' := by
  obtain ⟨cs, ow⟩ : ∃ cs, W1.heap[wb]? = some (.cells cs 65 (0, 0)) := by obtain ⟨R, o, hh, -⟩ := hW; exact ⟨_, hh.obj⟩
  have hrow1 : W1.ownsRow 0 29 1 v ws.length (ptrs ws) := owns_kept' h.row hK (fun g hg e => owns_ne h.row h.isL.obj (by decide) (by rw [hg, e]))
  have es : sizes (ws ++ [(wb, s)]) = sizes ws + s := by simp [sizes]
  refine ⟨by rw [es]; exact hL.keep hK2 (owns_ne hrow1 hL.obj (by decide)), ?_, ?_, ?_, ?_, h.lo, ?_, ?_⟩
  · intro p hp
    rcases List.mem_append.1 hp with hp | hp
    · have h1 := (h.wins p hp).keep hK (by obtain ⟨cs, o⟩ := (h.wins p hp).obj; exact type_ne o h.isL.obj (by decide))
      exact h1.keep hK2 (by obtain ⟨cs, o⟩ := h1.obj; exact owns_ne hrow1 o (by decide))
    · obtain rfl : p = (wb, s) := by simpa using hp
      exact .inr ⟨hs, hW.keep hK2 (owns_ne hrow1 ow (by decide)) (fun g hg => by cases hg)⟩
  · rw [List.map_append, List.nodup_append]
    refine ⟨h.nodup, by simp, ?_⟩
    intro a ha b hb
    obtain ⟨p, hp, rfl⟩ := List.mem_map.1 ha
    obtain rfl : b = wb := by simpa using hb
    intro e
    obtain ⟨cs, o⟩ := (h.wins p hp).obj
    have := obj_lt o
    omega
  · rw [List.length_append]
    have : ptrs (ws ++ [(wb, s)]) = ptrs ws ++ [.pointer (some ⟨wb, 0, none⟩)] := by simp [ptrs]
    rw [this]
    exact hR
  · exact (h.keep.trans hK (fun i hi e => by have := h.lo; omega)).trans hK2 (fun i hi e => by have := h.vlo i e; omega)
  · intro p hp
    rcases List.mem_append.1 hp with hp | hp
    · exact h.lows p hp
    · obtain rfl : p = (wb, s) := by simpa using hp
      have := h.keep.size
      show w.heap.size ≤ wb
      omega
  · intro g hg
    rcases hv with e | ⟨k, e, hk⟩
    · exact h.vlo g (by rw [← e]; exact hg)
    · rw [e] at hg
      have : k = g := by simpa using hg
      omega

/-- Where the walk stands. -/
def At (w W : World) (lb B sm : Nat) (v : Value) (n : Nat) : Prop := ∃ most ws, Many w W lb B most ws v ∧ sizes ws = sm ∧ ws.length = n

set_option maxHeartbeats 1000000 in
theorem holds_far (bud : Int) (a1 a2 : Option Addr) (len1 cap1 len2 cap2 : Nat) (w : World) (h : 30 < len1 ∨ 60 < len2) :
    Calls Try.prog 6 #[.int .i64 bud, .slice a1 len1 cap1, .slice a2 len2 cap2] w fun e w' => e = .returned (.bool true) ∧ Keep noBlock w w' := by
  by_cases h1 : 30 < len1
  · have h1I : (30 : Int) < (len1 : Int) := by omega
    go_enter Try.func6, Try.ntmps6
    go_wp2_with fail
    refine (wakes_any _).mono ?_
    rintro e w1 ⟨rfl, hk⟩
    go_wp2_with fail
    go_ret
    exact ⟨rfl, hk⟩
  · have h1I : ¬ (30 : Int) < (len1 : Int) := by omega
    have h2I : (60 : Int) < (len2 : Int) := by omega
    go_enter Try.func6, Try.ntmps6
    go_wp2_with fail
    refine (wakes_any _).mono ?_
    rintro e w1 ⟨rfl, hk⟩
    go_wp2_with fail
    go_ret
    exact ⟨rfl, hk⟩

section
set_option maxRecDepth 100000 in
set_option maxHeartbeats 8000000 in
theorem holds_walk (bud : Int) (a1 a2 : Option Addr) (len1 cap1 b1 off1 len2 cap2 b2 off2 : Nat) (zs ys : Nat → Int) (w : World) (hz : RowZ w a1 len1 b1 off1 zs) (hy : RowZ w a2 len2 b2 off2 ys) (hl1 : len1 ≤ 30) (hl2 : len2 ≤ 60) :
    Calls Try.prog 6 #[.int .i64 bud, .slice a1 len1 cap1, .slice a2 len2 cap2] w fun e w' => e = .returned (.bool true) ∧ Keep noBlock w w' := by
  have HZ := (show Hid (RowZ w a1 len1 b1 off1 zs) from hz)
  have HY := (show Hid (RowZ w a2 len2 b2 off2 ys) from hy)
  have h1I : ¬ (30 : Int) < (len1 : Int) := by omega
  have h2I : ¬ (60 : Int) < (len2 : Int) := by omega
  clear hz hy
  go_enter Try.func6, Try.ntmps6
  go_wp2_with fail
  refine (new_any bud w).mono ?_
  rintro e w1 ⟨rfl, hL1, k1⟩
  generalize budget bud = B at hL1
  obtain ⟨lb, hlb⟩ : ∃ lb, lb = w.heap.size := ⟨_, rfl⟩
  rw [← hlb] at hL1 ⊢
  have HP := (show Hid (At w w1 lb B 0 (.slice none 0 0) 0) from ⟨0, [], ⟨hL1, (fun p hp => by cases hp), by simp, ⟨rfl, .inl ⟨rfl, rfl⟩⟩, k1, by omega, (fun p hp => by cases hp), (fun g hg => by cases hg)⟩, rfl, rfl⟩)
  clear hL1 k1 hlb h1I h2I
  go_wp2_with fail
  go_loopw [8, 9, 10] (fun va vs vi wr => ∃ (k n sm : Nat) (aa : Option Addr) (ac : Nat), vi = .int .i64 (k : Int) ∧ vs = .int .i64 (sm : Int) ∧ va = .slice aa n ac ∧ k ≤ len1 ∧ n ≤ k ∧ Hid (At w wr lb B sm (.slice aa n ac) n)) (fun _ _ vi _ => len1 - (intOf vi).toNat)
  case atStart => exact ⟨0, 0, 0, none, 0, rfl, rfl, rfl, Nat.zero_le _, Nat.le_refl _, HP.out⟩
  case round =>
    clear HP
    obtain ⟨k, n, sm, aa, ac, rfl, rfl, rfl, hk, hnk, HP⟩ := hrel
    by_cases hlt : k < len1
    · obtain ⟨most, ws, hM, hsm, hwn⟩ := HP.out
      have c0 := HZ.out.cells k hlt
      have d0 := cell_kept hM.keep c0
      have HC0 := (show Hid (w.cell? ⟨b1, off1 + k, none⟩ = some (.int .i64 (zs k))) from c0)
      obtain rfl : a1 = some ⟨b1, off1, none⟩ := HZ.out.at_.resolve_right (by omega)
      have hltI : (k : Int) < (len1 : Int) := by omega
      generalize zs k = z at d0 HC0
      have HM := (show Hid (Many w wr lb B most ws (.slice aa n ac) ∧ sizes ws = sm ∧ ws.length = n) from ⟨hM, hsm, hwn⟩)
      have hL := hM.isL
      rw [hsm] at hL
      have htop := hL.top
      have hle := hL.le
      have hin := hL.in_
      clear hM hsm hwn c0
      by_cases hsz : 1 ≤ z ∧ z ≤ 16777216
      · obtain ⟨s, rfl⟩ : ∃ s : Nat, z = (s : Int) := ⟨z.toNat, by omega⟩
        have hs1 : 1 ≤ s := by omega
        have hs2 : s ≤ 16777216 := by omega
        clear hsz
        by_cases hB : sm + s ≤ B
        · have HN := wnew_ok s lb B sm most wr hs1 hs2 hL hB
          clear hL
          go_wp2_with fail
          refine HN.mono ?_
          clear HN
          rintro e W1 ⟨wb, rfl, hwb, hW1, hL1, hK1⟩
          have hv1 : (Value.slice aa n ac).ownBlock ≠ some lb := owns_ne HM.out.1.row HM.out.1.isL.obj (by decide)
          have hrow1 : W1.ownsRow 0 29 1 (.slice aa n ac) n (ptrs ws) := by
            have := owns_kept' HM.out.1.row hK1 (fun g hg e => hv1 (by rw [hg, e]))
            rwa [HM.out.2.2] at this
          have kA : Keep noBlock W1 (W1.alloc (.cells #[.pointer (some ⟨wb, 0, none⟩)] 29)) := (Keep.refl _ W1).alloc _
          obtain ⟨g, cp, W3, hr3, own3, k3, hg3⟩ := run_append_ptr (W1.alloc (.cells #[.pointer (some ⟨wb, 0, none⟩)] 29)) 53 (.slice aa n ac) (ptrs ws) n (owns_kept' hrow1 kA (fun _ _ h => h)) (by omega) W1.heap.size wb (alloc_new W1 _)
          have hsz1 : w.heap.size ≤ W1.heap.size := by have := HM.out.1.keep.size; have := hK1.size; omega
          have hM3 : Many w W3 lb B (max (sizes ws + s) most) (ws ++ [(wb, s)]) (.slice (some ⟨g, 0, none⟩) (n + 1) cp) := by
            refine HM.out.1.more hs1 hwb (by rw [HM.out.2.1]; exact hL1) hW1 hK1 (by rw [HM.out.2.2]; exact own3) ((kA.mono (fun _ _ h => h.elim)).trans' k3) ?_
            rcases hg3 with e | e
            · exact .inl e.symm
            · refine .inr ⟨g, rfl, ?_⟩
              rw [e]; simp; omega
          have d3 := cell_kept hM3.keep HC0.out
          obtain ⟨sm2, hsm2⟩ : ∃ sm2, sm2 = sm + s := ⟨_, rfl⟩
          have hadd : (sm : Int) + (s : Int) = (sm2 : Int) := by omega
          have HF := (show Hid (At w W3 lb B sm2 (.slice (some ⟨g, 0, none⟩) (n + 1) cp) (n + 1)) from ⟨_, _, hM3, by rw [hsm2, ← HM.out.2.1]; simp [sizes], by rw [List.length_append, HM.out.2.2]; rfl⟩)
          have hsm3 : sm2 ≤ 16777216 := by omega
          clear hv1 hrow1 kA own3 k3 hg3 hsz1 hM3 hW1 hL1 hK1 hsm2 HM d0
          go_wp2_with (at_builtin; refine wpList_append_run _ rfl _ _ 53 rfl (.slice aa n ac) (.slice (some ⟨W1.heap.size, 0, none⟩) 1 1) (.slice (some ⟨g, 0, none⟩) (n + 1) cp) W3 rfl rfl hr3 ?_)
          go_roundw
          case rel => exact ⟨k + 1, n + 1, sm2, some ⟨g, 0, none⟩, cp, by go_num, rfl, rfl, by omega, by omega, HF.out⟩
          case measure => simp [intOf]; omega
        · have HN := new_over s lb B sm most wr hs1 hs2 hL (by omega)
          clear hL
          go_wp2_with fail
          refine HN.mono ?_
          clear HN
          rintro e W1 ⟨rfl, rfl⟩
          go_wp2_with fail
          go_roundw
          case rel => exact ⟨k + 1, n, sm, aa, ac, by go_num, rfl, rfl, by omega, by omega, ⟨most, ws, HM.out⟩⟩
          case measure => simp [intOf]; omega
      · have HN := new_arg z (.pointer (some ⟨lb, 0, none⟩)) wr hsz
        clear hL hsz
        go_wp2_with fail
        refine HN.mono ?_
        clear HN
        rintro e W1 ⟨rfl, rfl⟩
        go_wp2_with fail
        go_roundw
        case rel => exact ⟨k + 1, n, sm, aa, ac, by go_num, rfl, rfl, by omega, by omega, ⟨most, ws, HM.out⟩⟩
        case measure => simp [intOf]; omega
    · obtain rfl : k = len1 := by omega
      have hn30 : n ≤ 30 := by omega
      clear hlt hk hnk
      go_wp2_with fail
      go_loopw [9, 13] (fun vs vi wr' => ∃ (k sm : Nat), vi = .int .i64 (k : Int) ∧ vs = .int .i64 (sm : Int) ∧ k ≤ len2 ∧ Hid (At w wr' lb B sm (.slice aa n ac) n)) (fun _ vi _ => len2 - (intOf vi).toNat)
      case atStart => exact ⟨0, sm, rfl, rfl, Nat.zero_le _, HP.out⟩
      case round =>
        clear HP
        obtain ⟨k2, sm2, rfl, rfl, hk2, HP⟩ := hrel
        by_cases hlt : k2 < len2 ∧ 0 < n
        · obtain ⟨hlt, hn0⟩ := hlt
          obtain ⟨most, ws, hM, hsm, hwn⟩ := HP.out
          have d0 := cell_kept hM.keep (HY.out.cells k2 hlt)
          obtain rfl : a2 = some ⟨b2, off2, none⟩ := HY.out.at_.resolve_right (by omega)
          have hltI : (k2 : Int) < (len2 : Int) := by omega
          have hn0I : (0 : Int) < (n : Int) := by omega
          have hnz : ¬ (n : Int) = 0 := by omega
          generalize ys k2 = y at d0
          obtain ⟨hr1, hr2, hr3, hr4⟩ := around_lt n y hn0 (by omega)
          generalize around n y = j at hr1 hr2
          have hr1' := hr1.symm
          have hjw : j < ws.length := by omega
          obtain ⟨aw, cw, g, hform, hat, hcells⟩ := hM.form
          simp only [Value.slice.injEq] at hform
          obtain ⟨rfl, -, rfl⟩ := hform
          obtain rfl : aa = some ⟨g, 0, none⟩ := hat.resolve_right (by rintro rfl; simp at hwn; omega)
          have cj := hcells j hjw
          have HH := hM.held j hjw
          have HD := hM.drop j hjw
          have hle := sizes_le ws j hjw
          have hss := sizes_set ws j ((ws[j]).1, 0) hjw
          have htop := hM.isL.top
          have hlm := hM.isL.le
          have hin := hM.isL.in_
          have hjI : (j : Int) < (n : Int) := by omega
          rw [hsm] at hle hss hlm
          simp only [Nat.add_zero] at hss
          have HN : Hid (∀ W', Many w W' lb B most (ws.set j ((ws[j]).1, 0)) (.slice (some ⟨g, 0, none⟩) n ac) → Calls Try.prog 24 #[.pointer (some ⟨(ws[j]).1, 0, none⟩)] W' fun e W'' => e = .returned (.int .i64 0) ∧ W'' = W') := by
            intro W' hM'
            have := hM'.held j (by rw [List.length_set]; exact hjw)
            simpa using this
          have hwn2 : (ws.set j ((ws[j]).1, 0)).length = n := by rw [List.length_set]; exact hwn
          generalize (ws[j]).1 = wb at cj HH HD hss HN hwn2
          generalize (ws[j]).2 = hh at HH hle hss
          generalize ws.set j (wb, 0) = ws2 at HD hss HN hwn2
          obtain ⟨sm3, hsm3⟩ : ∃ sm3, sm3 = sizes ws2 := ⟨_, rfl⟩
          rw [← hsm3] at hss
          have hsub : (sm2 : Int) - (hh : Int) = (sm3 : Int) := by omega
          have hsm2b : sm2 ≤ 16777216 := by omega
          have HS := (show Hid (sm3 = sizes ws2 ∧ ws2.length = n) from ⟨hsm3, hwn2⟩)
          clear hr1 hM hsm hwn hat hcells hss hle hsm3 hwn2 HP hjw hlm hin htop
          go_wp2_with fail
          refine HH.mono ?_
          clear HH
          rintro e W1 ⟨rfl, rfl⟩
          go_wp2_with fail
          refine HD.mono ?_
          clear HD
          rintro e W2 ⟨rfl, hM2⟩
          have HM2 := (show Hid (Many w W2 lb B most ws2 (.slice (some ⟨g, 0, none⟩) n ac)) from hM2)
          have hL2 := hM2.isL
          rw [← HS.out.1] at hL2
          clear hM2 cj d0
          go_wp2_with fail
          refine (held_any lb B sm3 most W2 hL2).mono ?_
          rintro e W3 ⟨rfl, rfl⟩
          go_wp2_with fail
          refine (HN.out _ HM2.out).mono ?_
          rintro e W4 ⟨rfl, rfl⟩
          go_wp2_with fail
          go_roundw
          case rel => exact ⟨k2 + 1, sm3, by go_num, rfl, by omega, ⟨most, ws2, HM2.out, HS.out.1.symm, HS.out.2⟩⟩
          case measure => simp [intOf]; omega
        · have hex : (k2 : Int) < (len2 : Int) → ¬ (0 : Int) < (n : Int) := fun e1 e2 => hlt ⟨by omega, by omega⟩
          have HX : Hid (∃ most ws, Many w wr lb B most ws (.slice aa n ac) ∧ ws.length = n ∧ ∀ j (hj : j < ws.length), j < 0 → (ws[j]).2 = 0) := by
            obtain ⟨most, ws, hM, -, hwn⟩ := HP.out
            exact ⟨most, ws, hM, hwn, fun j hj h0 => absurd h0 (Nat.not_lt_zero _)⟩
          clear HP hlt
          by_cases hq : k2 < len2
          · have hqI : (k2 : Int) < (len2 : Int) := by omega
            have hn0 : ¬ (0 : Int) < (n : Int) := hex hqI
            clear hex
            go_wp2_with fail
            go_loopw [17] (fun vi wr' => ∃ k : Nat, vi = .int .i64 (k : Int) ∧ k ≤ n ∧ Hid (∃ most ws, Many w wr' lb B most ws (.slice aa n ac) ∧ ws.length = n ∧ ∀ j (hj : j < ws.length), j < k → (ws[j]).2 = 0)) (fun vi _ => n - (intOf vi).toNat)
            case atStart => exact ⟨0, rfl, Nat.zero_le _, HX.out⟩
            case round =>
              clear HX
              obtain ⟨k3, rfl, hk3, HX⟩ := hrel
              obtain ⟨most, ws, hM, hwn, hz0⟩ := HX.out
              by_cases hlt3 : k3 < n
              · have hlt3I : (k3 : Int) < (n : Int) := by omega
                have hjw : k3 < ws.length := by omega
                obtain ⟨aw, cw, g, hform, hat, hcells⟩ := hM.form
                simp only [Value.slice.injEq] at hform
                obtain ⟨rfl, -, rfl⟩ := hform
                obtain rfl : aa = some ⟨g, 0, none⟩ := hat.resolve_right (by rintro rfl; simp at hwn; omega)
                have cj := hcells k3 hjw
                have HD := hM.drop k3 hjw
                have HN : Hid (∀ W', Many w W' lb B most (ws.set k3 ((ws[k3]).1, 0)) (.slice (some ⟨g, 0, none⟩) n ac) → ∃ most ws, Many w W' lb B most ws (.slice (some ⟨g, 0, none⟩) n ac) ∧ ws.length = n ∧ ∀ j (hj : j < ws.length), j < k3 + 1 → (ws[j]).2 = 0) := by
                  intro W' hM'
                  refine ⟨most, _, hM', by rw [List.length_set]; exact hwn, fun j hj hjk => ?_⟩
                  rw [List.getElem_set]
                  split
                  · rfl
                  · rw [List.length_set] at hj
                    exact hz0 j hj (by omega)
                generalize (ws[k3]).1 = wb at cj HD HN
                generalize ws.set k3 (wb, 0) = ws2 at HD HN
                clear hM hwn hz0 hat hcells hjw HX
                go_wp2_with fail
                refine HD.mono ?_
                clear HD
                rintro e W2 ⟨rfl, hM2⟩
                have HM2 := (show Hid (∃ most ws, Many w W2 lb B most ws (.slice (some ⟨g, 0, none⟩) n ac) ∧ ws.length = n ∧ ∀ j (hj : j < ws.length), j < k3 + 1 → (ws[j]).2 = 0) from HN.out W2 hM2)
                clear hM2 HN
                go_wp2_with fail
                go_roundw
                case rel => exact ⟨k3 + 1, by go_num, by omega, HM2.out⟩
                case measure => simp [intOf]; omega
              · obtain rfl : k3 = n := by omega
                have hs0 : sizes ws = 0 := sizes_zero ws (fun p hp => by
                  obtain ⟨i, hi, rfl⟩ := List.mem_iff_getElem.1 hp
                  exact hz0 i hi (by omega))
                have hL := hM.isL
                rw [hs0] at hL
                have hkw := hM.keep
                clear hM hwn hz0 hs0 HX
                go_wp2_with fail
                refine (held_any lb B 0 most _ hL).mono ?_
                rintro e W3 ⟨rfl, rfl⟩
                go_wp2_with fail
                refine (wakes_any _).mono ?_
                rintro e W4 ⟨rfl, hk4⟩
                go_wp2_with fail
                go_ret
                exact ⟨rfl, hkw.trans' hk4⟩
          · have hqI : ¬ (k2 : Int) < (len2 : Int) := by omega
            clear hex
            go_wp2_with fail
            go_loopw [17] (fun vi wr' => ∃ k : Nat, vi = .int .i64 (k : Int) ∧ k ≤ n ∧ Hid (∃ most ws, Many w wr' lb B most ws (.slice aa n ac) ∧ ws.length = n ∧ ∀ j (hj : j < ws.length), j < k → (ws[j]).2 = 0)) (fun vi _ => n - (intOf vi).toNat)
            case atStart => exact ⟨0, rfl, Nat.zero_le _, HX.out⟩
            case round =>
              clear HX
              obtain ⟨k3, rfl, hk3, HX⟩ := hrel
              obtain ⟨most, ws, hM, hwn, hz0⟩ := HX.out
              by_cases hlt3 : k3 < n
              · have hlt3I : (k3 : Int) < (n : Int) := by omega
                have hjw : k3 < ws.length := by omega
                obtain ⟨aw, cw, g, hform, hat, hcells⟩ := hM.form
                simp only [Value.slice.injEq] at hform
                obtain ⟨rfl, -, rfl⟩ := hform
                obtain rfl : aa = some ⟨g, 0, none⟩ := hat.resolve_right (by rintro rfl; simp at hwn; omega)
                have cj := hcells k3 hjw
                have HD := hM.drop k3 hjw
                have HN : Hid (∀ W', Many w W' lb B most (ws.set k3 ((ws[k3]).1, 0)) (.slice (some ⟨g, 0, none⟩) n ac) → ∃ most ws, Many w W' lb B most ws (.slice (some ⟨g, 0, none⟩) n ac) ∧ ws.length = n ∧ ∀ j (hj : j < ws.length), j < k3 + 1 → (ws[j]).2 = 0) := by
                  intro W' hM'
                  refine ⟨most, _, hM', by rw [List.length_set]; exact hwn, fun j hj hjk => ?_⟩
                  rw [List.getElem_set]
                  split
                  · rfl
                  · rw [List.length_set] at hj
                    exact hz0 j hj (by omega)
                generalize (ws[k3]).1 = wb at cj HD HN
                generalize ws.set k3 (wb, 0) = ws2 at HD HN
                clear hM hwn hz0 hat hcells hjw HX
                go_wp2_with fail
                refine HD.mono ?_
                clear HD
                rintro e W2 ⟨rfl, hM2⟩
                have HM2 := (show Hid (∃ most ws, Many w W2 lb B most ws (.slice (some ⟨g, 0, none⟩) n ac) ∧ ws.length = n ∧ ∀ j (hj : j < ws.length), j < k3 + 1 → (ws[j]).2 = 0) from HN.out W2 hM2)
                clear hM2 HN
                go_wp2_with fail
                go_roundw
                case rel => exact ⟨k3 + 1, by go_num, by omega, HM2.out⟩
                case measure => simp [intOf]; omega
              · obtain rfl : k3 = n := by omega
                have hs0 : sizes ws = 0 := sizes_zero ws (fun p hp => by
                  obtain ⟨i, hi, rfl⟩ := List.mem_iff_getElem.1 hp
                  exact hz0 i hi (by omega))
                have hL := hM.isL
                rw [hs0] at hL
                have hkw := hM.keep
                clear hM hwn hz0 hs0 HX
                go_wp2_with fail
                refine (held_any lb B 0 most _ hL).mono ?_
                rintro e W3 ⟨rfl, rfl⟩
                go_wp2_with fail
                refine (wakes_any _).mono ?_
                rintro e W4 ⟨rfl, hk4⟩
                go_wp2_with fail
                go_ret
                exact ⟨rfl, hkw.trans' hk4⟩
end

end HoldsLaw
end Go.Proofs.Ytpjbegafhgnebaa
