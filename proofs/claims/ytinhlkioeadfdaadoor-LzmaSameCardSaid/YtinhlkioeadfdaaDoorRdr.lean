/-
  A reader as it lies: its state, decoder, window, and what is told; small calls of it.
-/
import Derived.Test.YtinhlkioeadfdaaDoorLgt
import Derived.Test.YtinhlkioeadfdaaDoorLive
namespace Go.Proofs.YtinhlkioeadfdaaDoor
open Go.RowKit Go.Shelf
set_option linter.unusedVariables false

/-- The blocks of a reader, and the world ahead of it. -/
structure Rg where
  w0 : World
  rb : Nat
  sb : Nat
  db : Nat
  gb : Nat
  wb : Nat
  lb : Nat
  rv0 : Value
  tv0 : Value
  K : Ck
/-- What a reader may turn. -/
def RS (G : Rg) (k : Nat) : Prop := k = G.sb ∨ k = G.wb ∨ k = G.rb ∨ k = G.db ∨ G.rv0.ownBlock = some k ∨ G.tv0.ownBlock = some k
/-- Block rb is a reader. -/
structure Rd (G : Rg) (w : World) (rv tv : Value) (s : Se) (x : Cx) (win told : List Nat) : Prop where
  obj : w.heap[G.rb]? = some (.cells #[.pointer (some ⟨G.sb, 0, none⟩), .pointer (some ⟨G.db, 0, none⟩), .pointer (some ⟨G.wb, 0, none⟩), tv, .int .i64 (G.K.place : Int), .bool G.K.ahead] 70 (0, 0))
  pr : Pr w G.sb G.db G.gb s x
  wi : IsW w G.wb G.lb G.K.size rv win
  own : w.ownsRow 0 5 1 tv told.length (u8s told)
  lt : ∀ j : Nat, told[j]?.getD 0 < 256
  gt : tv.ownBlock ≠ some G.gb
  gr : rv.ownBlock ≠ some G.gb
  tr : ∀ g, tv.ownBlock = some g → rv.ownBlock ≠ some g
  g1 : G.gb ≠ G.rb
  g2 : G.gb ≠ G.wb
  gl : G.gb < w.heap.size
  kp : Keep (RS G) G.w0 w
  n4 : Near G.w0 G.tv0 tv
  n5 : Near G.w0 G.rv0 rv
  pl : G.K.place < 16
  tl : told.length ≤ G.K.n
  nn : G.K.n ≤ 2097152
theorem Rd.sw {G : Rg} {w : World} {rv tv : Value} {s : Se} {x : Cx} {win told : List Nat} (h : Rd G w rv tv s x win told) : G.sb ≠ G.wb ∧ G.db ≠ G.wb ∧ G.rb ≠ G.sb ∧ G.rb ≠ G.db ∧ G.rb ≠ G.wb := by
  obtain ⟨R, o, hw, -⟩ := h.wi
  obtain ⟨a, cap, off, hd, hB⟩ := h.pr.de.obj
  refine ⟨h.pr.st.ne hw.obj (by decide), ne_of_type hd hw.obj (by decide), fun e => h.pr.st.ne h.obj (by decide) e.symm, ne_of_type h.obj hd (by decide), ne_of_type h.obj hw.obj (by decide)⟩
theorem Rd.rows {G : Rg} {w : World} {rv tv : Value} {s : Se} {x : Cx} {win told : List Nat} (h : Rd G w rv tv s x win told) :
    (tv.ownBlock ≠ some G.rb ∧ tv.ownBlock ≠ some G.sb ∧ tv.ownBlock ≠ some G.db ∧ tv.ownBlock ≠ some G.wb) ∧ (rv.ownBlock ≠ some G.rb ∧ rv.ownBlock ≠ some G.sb ∧ rv.ownBlock ≠ some G.db ∧ rv.ownBlock ≠ some G.wb) := by
  obtain ⟨R, o, hw, -⟩ := h.wi
  obtain ⟨a, cap, off, hd, hB⟩ := h.pr.de.obj
  obtain ⟨cs, hs, -⟩ := h.pr.st.obj
  exact ⟨⟨owns_ne h.own h.obj (by decide), owns_ne h.own hs (by decide), owns_ne h.own hd (by decide), owns_ne h.own hw.obj (by decide)⟩, ⟨h.wi.ring_ne h.obj (by decide), h.wi.ring_ne hs (by decide), h.wi.ring_ne hd (by decide), h.wi.ring_ne hw.obj (by decide)⟩⟩
theorem Rd.kept {G : Rg} {w w' : World} {rv tv : Value} {s : Se} {x : Cx} {win told : List Nat} (h : Rd G w rv tv s x win told) (hk : Keep noBlock w w') : Rd G w' rv tv s x win told :=
  ⟨hk.obj h.obj (fun h => h), h.pr.keep hk (fun h => h) (fun h => h) (fun h => h), h.wi.keep hk (fun h => h) (fun _ _ h => h), owns_kept h.own hk (fun _ _ h => h), h.lt, h.gt, h.gr, h.tr, h.g1, h.g2, Nat.lt_of_lt_of_le h.gl hk.size, h.kp.trans hk (fun _ _ h => h.elim), h.n4, h.n5, h.pl, h.tl, h.nn⟩
theorem Rd.same {G : Rg} {w : World} {rv tv : Value} {s : Se} {x : Cx} {win told : List Nat} (h : Rd G w rv tv s x win told) {W : World} (e1 : W.heap = w.heap) (e2 : W.os = w.os) (e3 : W.tape = w.tape) (e4 : W.output = w.output) : Rd G W rv tv s x win told :=
  h.kept ((Keep.refl _ w).same e1 e2 e3 e4)
/-- Behind reading. -/
theorem Rd.turn {G : Rg} {w w' : World} {rv tv : Value} {s s' : Se} {x x' : Cx} {win told : List Nat} (h : Rd G w rv tv s x win told) (hp : Pr w' G.sb G.db G.gb s' x') (hk : Keep (SD G.sb G.db) w w') : Rd G w' rv tv s' x' win told := by
  obtain ⟨s1, s2, s3, s4, s5⟩ := h.sw
  obtain ⟨⟨t1, t2, t3, t4⟩, r1, r2, r3, r4⟩ := h.rows
  refine ⟨hk.obj h.obj ?_, hp, h.wi.keep hk ?_ ?_, owns_kept h.own hk ?_, h.lt, h.gt, h.gr, h.tr, h.g1, h.g2, Nat.lt_of_lt_of_le h.gl hk.size, h.kp.trans hk ?_, h.n4, h.n5, h.pl, h.tl, h.nn⟩
  · rintro (e | e)
    · exact s4 e
    · exact s3 e
  · rintro (e | e)
    · exact s2 e.symm
    · exact s1 e.symm
  · rintro g hg (e | e)
    · exact r3 (by rw [hg, e])
    · exact r2 (by rw [hg, e])
  · rintro g hg (e | e)
    · exact t3 (by rw [hg, e])
    · exact t2 (by rw [hg, e])
  · rintro i hi (e | e)
    · exact .inr (.inr (.inr (.inl e)))
    · exact .inl e
theorem near_old {w : World} {v0 v : Value} (h : Near w v0 v) {i : Nat} (hi : i < w.heap.size) (e : v.ownBlock = some i) : v0.ownBlock = some i := by
  rcases h with q | ⟨k, q, hk⟩
  · rw [← q]; exact e
  · rw [q] at e
    have : k = i := by simpa using e
    omega
theorem Rd.tform {G : Rg} {w : World} {rv tv : Value} {s : Se} {x : Cx} {win told : List Nat} (h : Rd G w rv tv s x win told) : ∃ ta tc, tv = .slice ta told.length tc := owns_form h.own
/-- What lies in a reader. -/
theorem Rd.cells {G : Rg} {w : World} {rv tv : Value} {s : Se} {x : Cx} {win told : List Nat} (h : Rd G w rv tv s x win told) :
    w.cell? ⟨G.rb, 0, none⟩ = some (.pointer (some ⟨G.sb, 0, none⟩)) ∧ w.cell? ⟨G.rb, 1, none⟩ = some (.pointer (some ⟨G.db, 0, none⟩)) ∧ w.cell? ⟨G.rb, 2, none⟩ = some (.pointer (some ⟨G.wb, 0, none⟩)) ∧
    w.cell? ⟨G.rb, 3, none⟩ = some tv ∧ w.cell? ⟨G.rb, 4, none⟩ = some (.int .i64 (G.K.place : Int)) ∧ w.cell? ⟨G.rb, 5, none⟩ = some (.bool G.K.ahead) ∧ ∀ i, w.frozen? ⟨G.rb, i, none⟩ = false :=
  ⟨cell_of h.obj 0, cell_of h.obj 1, cell_of h.obj 2, cell_of h.obj 3, cell_of h.obj 4, cell_of h.obj 5, fun i => frozen_of h.obj i⟩

/-! The state's number. -/
theorem copied_any (p : Nat) (hp : p < 12) (w : World) : Calls Tryd.prog 52 #[.int .u8 (p : Int)] w fun e w' => e = .returned (.bool (!decide (p < 7))) ∧ w' = w := by
  by_cases h : p < 7
  · have hI : ¬ 7 ≤ (p : Int) := by omega
    rw [decide_eq_true h]
    go_enter Tryd.func52, Tryd.ntmps52
    go_wp2
    go_ret
    exact ⟨rfl, rfl⟩
  · have hI : 7 ≤ (p : Int) := by omega
    rw [decide_eq_false h]
    go_enter Tryd.func52, Tryd.ntmps52
    go_wp2
    go_ret
    exact ⟨rfl, rfl⟩
theorem behindByte_any (p : Nat) (hp : p < 12) (w : World) : Calls Tryd.prog 50 #[.int .u8 (p : Int)] w fun e w' => e = .returned (.int .u8 ((behB p : Nat) : Int)) ∧ w' = w := by
  unfold behB
  by_cases h : p < 4
  · have hI : (p : Int) < 4 := by omega
    rw [if_pos h]
    go_enter Tryd.func50, Tryd.ntmps50
    go_wp2
    go_ret
    exact ⟨rfl, rfl⟩
  · have hI : ¬ (p : Int) < 4 := by omega
    rw [if_neg h]
    by_cases h2 : p < 10
    · have hI2 : (p : Int) < 10 := by omega
      have e : ((p : Int) - 3) = ((p - 3 : Nat) : Int) := by omega
      rw [if_pos h2]
      have hq : p - 3 < 12 := by omega
      generalize p - 3 = q at *
      go_enter Tryd.func50, Tryd.ntmps50
      go_wp2
      go_ret
      exact ⟨rfl, rfl⟩
    · have hI2 : ¬ (p : Int) < 10 := by omega
      have e : ((p : Int) - 6) = ((p - 6 : Nat) : Int) := by omega
      rw [if_neg h2]
      have hq : p - 6 < 12 := by omega
      generalize p - 6 = q at *
      go_enter Tryd.func50, Tryd.ntmps50
      go_wp2
      go_ret
      exact ⟨rfl, rfl⟩
theorem behindMatch_any (p : Nat) (hp : p < 12) (w : World) : Calls Tryd.prog 57 #[.int .u8 (p : Int)] w fun e w' => e = .returned (.int .u8 ((behM p : Nat) : Int)) ∧ w' = w := by
  have hc := copied_any p hp
  unfold behM
  by_cases h : p < 7
  · rw [decide_eq_true h] at hc
    rw [if_pos h]
    go_enter Tryd.func57, Tryd.ntmps57
    go_wp2_with (go_at_call 52; refine (hc _).mono ?_; rintro e w' ⟨rfl, rfl⟩)
    go_ret
    exact ⟨rfl, rfl⟩
  · rw [decide_eq_false h] at hc
    rw [if_neg h]
    go_enter Tryd.func57, Tryd.ntmps57
    go_wp2_with (go_at_call 52; refine (hc _).mono ?_; rintro e w' ⟨rfl, rfl⟩)
    go_ret
    exact ⟨rfl, rfl⟩
theorem behindRepeat_any (p : Nat) (hp : p < 12) (w : World) : Calls Tryd.prog 60 #[.int .u8 (p : Int)] w fun e w' => e = .returned (.int .u8 ((behR p : Nat) : Int)) ∧ w' = w := by
  have hc := copied_any p hp
  unfold behR
  by_cases h : p < 7
  · rw [decide_eq_true h] at hc
    rw [if_pos h]
    go_enter Tryd.func60, Tryd.ntmps60
    go_wp2_with (go_at_call 52; refine (hc _).mono ?_; rintro e w' ⟨rfl, rfl⟩)
    go_ret
    exact ⟨rfl, rfl⟩
  · rw [decide_eq_false h] at hc
    rw [if_neg h]
    go_enter Tryd.func60, Tryd.ntmps60
    go_wp2_with (go_at_call 52; refine (hc _).mono ?_; rintro e w' ⟨rfl, rfl⟩)
    go_ret
    exact ⟨rfl, rfl⟩
theorem behindShort_any (p : Nat) (hp : p < 12) (w : World) : Calls Tryd.prog 59 #[.int .u8 (p : Int)] w fun e w' => e = .returned (.int .u8 ((behS p : Nat) : Int)) ∧ w' = w := by
  have hc := copied_any p hp
  unfold behS
  by_cases h : p < 7
  · rw [decide_eq_true h] at hc
    rw [if_pos h]
    go_enter Tryd.func59, Tryd.ntmps59
    go_wp2_with (go_at_call 52; refine (hc _).mono ?_; rintro e w' ⟨rfl, rfl⟩)
    go_ret
    exact ⟨rfl, rfl⟩
  · rw [decide_eq_false h] at hc
    rw [if_neg h]
    go_enter Tryd.func59, Tryd.ntmps59
    go_wp2_with (go_at_call 52; refine (hc _).mono ?_; rintro e w' ⟨rfl, rfl⟩)
    go_ret
    exact ⟨rfl, rfl⟩

/-- How far back the newest distance reaches. -/
theorem back_any (G : Rg) (rv tv : Value) (s : Se) (x : Cx) (win told : List Nat) (w : World) (h : Rd G w rv tv s x win told) :
    Calls Tryd.prog 40 #[.pointer (some ⟨G.rb, 0, none⟩)] w fun e w' => e = .returned (.int .i64 (((s.r0 + 1 : Nat)) : Int)) ∧ w' = w := by
  obtain ⟨c0, -⟩ := h.cells
  obtain ⟨-, -, -, -, f4, -⟩ := h.pr.st.first
  have hr := h.pr.st.ok.r0
  clear h
  generalize s.r0 = r at *
  go_enter Tryd.func40, Tryd.ntmps40
  go_wp2
  go_ret
  exact ⟨by simp, rfl⟩
theorem backQ_any (G : Rg) (rv tv : Value) (s : Se) (x : Cx) (win told : List Nat) (w : World) (h : Rd G w rv tv s x win told) :
    Calls Tryd.prog 40 #[.pointer (some ⟨G.rb, 0, none⟩)] w fun e w' => e = .returned (.int .i64 (((s.r0 + 1 : Nat)) : Int)) ∧ ∃ n, w' = w.drewN n :=
  (back_any G rv tv s x win told w h).mono (fun _ _ h => ⟨h.1, 0, h.2⟩)
theorem mask_i64 (x b : Nat) (hb : b ≤ 4) (hx : x < 9223372036854775808) : bits .and .i64 (x : Int) (2 ^ b - 1) = ((x % 2 ^ b : Nat) : Int) := by
  have := bits_mask .i64 63 (by decide) wraps_i64 b (by omega) (x : Int) (by omega) (by omega)
  exact this.trans (by simp)
theorem mask_form (b : Nat) (hb : b ≤ 4) : wrap64 (wrap64 (2 ^ b) - 1) = 2 ^ b - 1 := by
  have : b = 0 ∨ b = 1 ∨ b = 2 ∨ b = 3 ∨ b = 4 := by omega
  rcases this with rfl | rfl | rfl | rfl | rfl <;> simp [go_sem, wrap64]
set_option maxHeartbeats 1000000 in
theorem lowest_any (G : Rg) (rv tv : Value) (s : Se) (x : Cx) (win told : List Nat) (b : Nat) (hb : b ≤ 4) (w : World) (h : Rd G w rv tv s x win told) :
    Calls Tryd.prog 33 #[.pointer (some ⟨G.rb, 0, none⟩), .int .i64 (b : Int)] w fun e w' => e = .returned (.int .i64 ((lowN G.K told b : Nat) : Int)) ∧ ∃ n, w' = w.drewN n := by
  obtain ⟨-, -, -, c3, c4, -⟩ := h.cells
  obtain ⟨ta, tc, rfl⟩ := h.tform
  have hp := h.pl
  have ht := h.tl
  have hn := h.nn
  have hm := mask_i64 (G.K.place + told.length) b hb (by omega)
  obtain ⟨z, hz⟩ : ∃ z : Nat, z = G.K.place + told.length := ⟨_, rfl⟩
  have hzI : (G.K.place : Int) + (told.length : Int) = (z : Int) := by omega
  have hL : lowN G.K told b = z % 2 ^ b := by rw [hz]; rfl
  rw [hL]
  rw [← hz] at hm
  generalize z % 2 ^ b = m at *
  clear h hL hz
  generalize G.K.place = pl at *
  generalize told.length = n at *
  go_enter Tryd.func33, Tryd.ntmps33
  go_wp2_with fail
  go_quiet (fail)
  go_wp2_with fail
  go_ret
  refine ⟨congrArg (fun x => Ending.returned (Value.int .i64 x)) ?_, _, rfl⟩
  rw [mask_form b hb]
  exact hm

end Go.Proofs.YtinhlkioeadfdaaDoor
