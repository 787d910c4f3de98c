/-
  A window and its ledger, both in memory that is new since w.
  A reader as it lies: its state, decoder, window, and what is told; small calls of it.
  Bytes that stand further back, too; two rows of bytes that are the same.
  The program's encoder: a shift.
  The program's encoder: brought into order, a bit.
-/
import Derived.Test.YtnokemcogjoonaaGreatDoorPutP2
import Derived.Test.YtnokemcogjoonaaGreatDoorPutP3
import Derived.Test.YtnokemcogjoonaaGreatDoorPutP4
import Derived.Test.YtnokemcogjoonaaGreatDoorPutP5
import Derived.Test.YtnokemcogjoonaaGreatDoorPutP6
namespace Go.Proofs.YtnokemcogjoonaaGreatDoor
open Go.RowKit Go.Shelf
set_option linter.unusedVariables false

structure Live (w W : World) (wb lb s : Nat) (rv : Value) (M : List Nat) (B now most : Nat) : Prop where
  isW : IsW W wb lb s rv M
  isL : IsL W lb B now most
  keep : Keep noBlock w W
  lo : w.heap.size ≤ lb
  lo2 : w.heap.size ≤ wb
  ring : ∀ g, rv.ownBlock = some g → w.heap.size ≤ g
theorem IsW.ne {W : World} {wb lb s B now most lb' : Nat} {rv : Value} {M : List Nat} (h : IsW W wb lb' s rv M) (hL : IsL W lb B now most) : lb ≠ wb := by
  obtain ⟨R, o, h, -⟩ := h
  intro e
  have h1 := hL.obj
  rw [e, h.obj] at h1
  simp at h1
theorem Live.kept {w W W' : World} {wb lb s B now most : Nat} {rv : Value} {M : List Nat} {S : Nat → Prop} (h : Live w W wb lb s rv M B now most) (hk : Keep S W W') (h1 : ¬ S wb) (h2 : ¬ S lb) (h3 : ∀ g, rv.ownBlock = some g → ¬ S g) (h4 : ∀ i, i < w.heap.size → ¬ S i) : Live w W' wb lb s rv M B now most :=
  ⟨h.isW.keep hk h1 h3, h.isL.keep hk h2, h.keep.trans hk (fun i hi e => absurd e (h4 i hi)), h.lo, h.lo2, h.ring⟩
theorem Live.same {w W W' : World} {wb lb s B now most : Nat} {rv : Value} {M : List Nat} (h : Live w W wb lb s rv M B now most) (hk : Keep noBlock W W') : Live w W' wb lb s rv M B now most :=
  h.kept hk (fun h => h) (fun h => h) (fun _ _ h => h) (fun _ _ h => h)
/-- What a put leaves. -/
theorem Live.turn {w W W' : World} {wb lb s B now most : Nat} {rv rv' : Value} {M M' : List Nat} (h : Live w W wb lb s rv M B now most) (hW : IsW W' wb lb s rv' M') (hN : Near W rv rv') (hK : Keep (fun k => k = wb ∨ rv.ownBlock = some k) W W') : Live w W' wb lb s rv' M' B now most := by
  refine ⟨hW, h.isL.keep hK ?_, h.keep.trans hK ?_, h.lo, h.lo2, ?_⟩
  · rintro (e | e)
    · exact h.isW.ne h.isL e
    · exact h.isW.ring_ne h.isL.obj (by decide) e
  · rintro i hi (e | e)
    · have := h.lo2; omega
    · have := h.ring i e; omega
  · intro g hg
    rcases hN with e | ⟨k, e, hk⟩
    · exact h.ring g (by rw [← e]; exact hg)
    · rw [e] at hg
      have : k = g := by simpa using hg
      have := h.keep.size
      omega
theorem Live.put {w W : World} {wb lb s B now most : Nat} {rv : Value} {M : List Nat} (h : Live w W wb lb s rv M B now most) {a : Option Addr} {cap gb off : Nat} {bs : List Nat} (hb : Bytes W a cap gb off bs) (hne : bs ≠ [] → gb ≠ wb ∧ rv.ownBlock ≠ some gb) :
    Calls Tryz.prog 31 #[.pointer (some ⟨wb, 0, none⟩), .slice a bs.length cap] W fun e W' => e = .returned (.tuple #[]) ∧ ∃ rv', Live w W' wb lb s rv' (lastN s (M ++ bs)) B now most ∧ Near W rv rv' ∧ Keep (fun k => k = wb ∨ rv.ownBlock = some k) W W' := by
  refine (put_any wb lb s rv M a cap gb off bs W h.isW hb hne).mono ?_
  rintro e W' ⟨rfl, rv', hW, hN, hK⟩
  exact ⟨rfl, rv', h.turn hW hN hK, hN, hK⟩
theorem Live.copy {w W : World} {wb lb s B now most : Nat} {rv : Value} {M : List Nat} (h : Live w W wb lb s rv M B now most) (back n : Nat) (h1 : 1 ≤ back) (h2 : back ≤ M.length) (hn : n ≤ 16777216) :
    Calls Tryz.prog 83 #[.pointer (some ⟨wb, 0, none⟩), .int .i64 (back : Int), .int .i64 (n : Int)] W fun e W' => e = .returned (.tuple #[.slice (some ⟨W.heap.size, 0, none⟩) n n, .int .i64 0]) ∧
      W'.heap[W.heap.size]? = some (.cells (u8s (outL M back n)).toArray 5 (0, 0)) ∧ ∃ rv', Live w W' wb lb s rv' (lastN s (M ++ outL M back n)) B now most ∧ Near W rv rv' ∧ rv'.ownBlock ≠ some W.heap.size ∧ Keep (fun k => k = wb ∨ rv.ownBlock = some k) W W' := by
  refine (copy_ok wb lb s rv M back n W h.isW h1 h2 hn).mono ?_
  rintro e W' ⟨rfl, hz, rv', hW, hN, hne, hK⟩
  exact ⟨rfl, hz, rv', h.turn hW hN hK, hN, hne, hK⟩

/-- .. a window that was dropped. -/
structure Gone (w W : World) (wb lb B now most : Nat) : Prop where
  isD : IsDrop W wb
  isL : IsL W lb B now most
  keep : Keep noBlock w W
  lo : w.heap.size ≤ lb
  lo2 : w.heap.size ≤ wb
theorem Gone.kept {w W W' : World} {wb lb B now most : Nat} {S : Nat → Prop} (h : Gone w W wb lb B now most) (hk : Keep S W W') (h1 : ¬ S wb) (h2 : ¬ S lb) (h4 : ∀ i, i < w.heap.size → ¬ S i) : Gone w W' wb lb B now most :=
  ⟨hk.obj h.isD h1, h.isL.keep hk h2, h.keep.trans hk (fun i hi e => absurd e (h4 i hi)), h.lo, h.lo2⟩
theorem Gone.same {w W W' : World} {wb lb B now most : Nat} (h : Gone w W wb lb B now most) (hk : Keep noBlock W W') : Gone w W' wb lb B now most :=
  h.kept hk (fun h => h) (fun h => h) (fun _ _ h => h)
/-- New. -/
theorem live_new {w W : World} (s lb B now most : Nat) (h1 : 1 ≤ s) (h2 : s ≤ 16777216) (hL : IsL W lb B now most) (ho : now + s ≤ B) (hk : Keep noBlock w W) (lo : w.heap.size ≤ lb) :
    Calls Tryz.prog 19 #[.int .i64 (s : Int), .pointer (some ⟨lb, 0, none⟩)] W fun e W' => ∃ wb, e = .returned (.tuple #[.pointer (some ⟨wb, 0, none⟩), .int .i64 0]) ∧ W.heap.size ≤ wb ∧ Live w W' wb lb s (.slice none 0 0) [] B (now + s) (max (now + s) most) ∧ Keep (fun k => k = lb) W W' := by
  refine (wnew_ok s lb B now most W h1 h2 hL ho).mono ?_
  rintro e W' ⟨wb, rfl, hwb, hW, hL', hK⟩
  exact ⟨wb, rfl, hwb, ⟨hW, hL', hk.trans hK (fun i hi e => by omega), lo, by have := hk.size; omega, (fun g hg => by cases hg)⟩, hK⟩
theorem Live.held {w W : World} {wb lb s B now most : Nat} {rv : Value} {M : List Nat} (h : Live w W wb lb s rv M B now most) : W.cell? ⟨wb, 0, none⟩ = some (.int .i64 (s : Int)) := by
  obtain ⟨R, o, hI, -⟩ := h.isW
  exact cell_of hI.obj 0
theorem Live.ring_cell {w W : World} {wb lb s B now most : Nat} {rv : Value} {M : List Nat} (h : Live w W wb lb s rv M B now most) : ∃ a cap, W.cell? ⟨wb, 2, none⟩ = some (.slice a M.length cap) := by
  obtain ⟨R, o, hI, hM⟩ := h.isW
  obtain ⟨ra, rcap, rg, hrv, -, -⟩ := hI.form
  have hRM : R.length = M.length := by rw [← hM, unr_length]
  exact ⟨ra, rcap, by have := cell_of hI.obj 2; rw [hrv] at this; rw [← hRM]; exact this⟩

end Go.Proofs.YtnokemcogjoonaaGreatDoor

namespace Go.Proofs.YtnokemcogjoonaaGreatDoor
open Go.RowKit Go.Shelf
set_option linter.unusedVariables false

/-- The blocks of a reader, and the world ahead of it. -/
structure Rg where
  w0 : World
  rb : Nat
  sb : Nat
  db : Nat
  gb : Nat
  wb : Nat
  lb : Nat
  rv0 : Value
  tv0 : Value
  K : Ck
/-- What a reader may turn. -/
def RS (G : Rg) (k : Nat) : Prop := k = G.sb ∨ k = G.wb ∨ k = G.rb ∨ k = G.db ∨ G.rv0.ownBlock = some k ∨ G.tv0.ownBlock = some k
/-- Block rb is a reader. -/
structure Rd (G : Rg) (w : World) (rv tv : Value) (s : Se) (x : Cx) (win told : List Nat) : Prop where
  obj : w.heap[G.rb]? = some (.cells #[.pointer (some ⟨G.sb, 0, none⟩), .pointer (some ⟨G.db, 0, none⟩), .pointer (some ⟨G.wb, 0, none⟩), tv, .int .i64 (G.K.place : Int), .bool G.K.ahead] 109 (0, 0))
  pr : Pr w G.sb G.db G.gb s x
  wi : IsW w G.wb G.lb G.K.size rv win
  own : w.ownsRow 0 5 1 tv told.length (u8s told)
  lt : ∀ j : Nat, told[j]?.getD 0 < 256
  gt : tv.ownBlock ≠ some G.gb
  gr : rv.ownBlock ≠ some G.gb
  tr : ∀ g, tv.ownBlock = some g → rv.ownBlock ≠ some g
  g1 : G.gb ≠ G.rb
  g2 : G.gb ≠ G.wb
  gl : G.gb < w.heap.size
  kp : Keep (RS G) G.w0 w
  n4 : Near G.w0 G.tv0 tv
  n5 : Near G.w0 G.rv0 rv
  pl : G.K.place < 16
  tl : told.length ≤ G.K.n
  nn : G.K.n ≤ 2097152
theorem Rd.sw {G : Rg} {w : World} {rv tv : Value} {s : Se} {x : Cx} {win told : List Nat} (h : Rd G w rv tv s x win told) : G.sb ≠ G.wb ∧ G.db ≠ G.wb ∧ G.rb ≠ G.sb ∧ G.rb ≠ G.db ∧ G.rb ≠ G.wb := by
  obtain ⟨R, o, hw, -⟩ := h.wi
  obtain ⟨a, cap, off, hd, hB⟩ := h.pr.de.obj
  refine ⟨h.pr.st.ne hw.obj (by decide), ne_of_type hd hw.obj (by decide), fun e => h.pr.st.ne h.obj (by decide) e.symm, ne_of_type h.obj hd (by decide), ne_of_type h.obj hw.obj (by decide)⟩
theorem Rd.rows {G : Rg} {w : World} {rv tv : Value} {s : Se} {x : Cx} {win told : List Nat} (h : Rd G w rv tv s x win told) :
    (tv.ownBlock ≠ some G.rb ∧ tv.ownBlock ≠ some G.sb ∧ tv.ownBlock ≠ some G.db ∧ tv.ownBlock ≠ some G.wb) ∧ (rv.ownBlock ≠ some G.rb ∧ rv.ownBlock ≠ some G.sb ∧ rv.ownBlock ≠ some G.db ∧ rv.ownBlock ≠ some G.wb) := by
  obtain ⟨R, o, hw, -⟩ := h.wi
  obtain ⟨a, cap, off, hd, hB⟩ := h.pr.de.obj
  obtain ⟨cs, hs, -⟩ := h.pr.st.obj
  exact ⟨⟨owns_ne h.own h.obj (by decide), owns_ne h.own hs (by decide), owns_ne h.own hd (by decide), owns_ne h.own hw.obj (by decide)⟩, ⟨h.wi.ring_ne h.obj (by decide), h.wi.ring_ne hs (by decide), h.wi.ring_ne hd (by decide), h.wi.ring_ne hw.obj (by decide)⟩⟩
theorem Rd.kept {G : Rg} {w w' : World} {rv tv : Value} {s : Se} {x : Cx} {win told : List Nat} (h : Rd G w rv tv s x win told) (hk : Keep noBlock w w') : Rd G w' rv tv s x win told :=
  ⟨hk.obj h.obj (fun h => h), h.pr.keep hk (fun h => h) (fun h => h) (fun h => h), h.wi.keep hk (fun h => h) (fun _ _ h => h), owns_kept h.own hk (fun _ _ h => h), h.lt, h.gt, h.gr, h.tr, h.g1, h.g2, Nat.lt_of_lt_of_le h.gl hk.size, h.kp.trans hk (fun _ _ h => h.elim), h.n4, h.n5, h.pl, h.tl, h.nn⟩
theorem Rd.same {G : Rg} {w : World} {rv tv : Value} {s : Se} {x : Cx} {win told : List Nat} (h : Rd G w rv tv s x win told) {W : World} (e1 : W.heap = w.heap) (e2 : W.os = w.os) (e3 : W.tape = w.tape) (e4 : W.output = w.output) : Rd G W rv tv s x win told :=
  h.kept ((Keep.refl _ w).same e1 e2 e3 e4)
/-- Behind reading. -/
theorem Rd.turn {G : Rg} {w w' : World} {rv tv : Value} {s s' : Se} {x x' : Cx} {win told : List Nat} (h : Rd G w rv tv s x win told) (hp : Pr w' G.sb G.db G.gb s' x') (hk : Keep (SD G.sb G.db) w w') : Rd G w' rv tv s' x' win told := by
  obtain ⟨s1, s2, s3, s4, s5⟩ := h.sw
  obtain ⟨⟨t1, t2, t3, t4⟩, r1, r2, r3, r4⟩ := h.rows
  refine ⟨hk.obj h.obj ?_, hp, h.wi.keep hk ?_ ?_, owns_kept h.own hk ?_, h.lt, h.gt, h.gr, h.tr, h.g1, h.g2, Nat.lt_of_lt_of_le h.gl hk.size, h.kp.trans hk ?_, h.n4, h.n5, h.pl, h.tl, h.nn⟩
  · rintro (e | e)
    · exact s4 e
    · exact s3 e
  · rintro (e | e)
    · exact s2 e.symm
    · exact s1 e.symm
  · rintro g hg (e | e)
    · exact r3 (by rw [hg, e])
    · exact r2 (by rw [hg, e])
  · rintro g hg (e | e)
    · exact t3 (by rw [hg, e])
    · exact t2 (by rw [hg, e])
  · rintro i hi (e | e)
    · exact .inr (.inr (.inr (.inl e)))
    · exact .inl e
theorem near_old {w : World} {v0 v : Value} (h : Near w v0 v) {i : Nat} (hi : i < w.heap.size) (e : v.ownBlock = some i) : v0.ownBlock = some i := by
  rcases h with q | ⟨k, q, hk⟩
  · rw [← q]; exact e
  · rw [q] at e
    have : k = i := by simpa using e
    omega
theorem Rd.tform {G : Rg} {w : World} {rv tv : Value} {s : Se} {x : Cx} {win told : List Nat} (h : Rd G w rv tv s x win told) : ∃ ta tc, tv = .slice ta told.length tc := owns_form h.own
/-- What lies in a reader. -/
theorem Rd.cells {G : Rg} {w : World} {rv tv : Value} {s : Se} {x : Cx} {win told : List Nat} (h : Rd G w rv tv s x win told) :
    w.cell? ⟨G.rb, 0, none⟩ = some (.pointer (some ⟨G.sb, 0, none⟩)) ∧ w.cell? ⟨G.rb, 1, none⟩ = some (.pointer (some ⟨G.db, 0, none⟩)) ∧ w.cell? ⟨G.rb, 2, none⟩ = some (.pointer (some ⟨G.wb, 0, none⟩)) ∧
    w.cell? ⟨G.rb, 3, none⟩ = some tv ∧ w.cell? ⟨G.rb, 4, none⟩ = some (.int .i64 (G.K.place : Int)) ∧ w.cell? ⟨G.rb, 5, none⟩ = some (.bool G.K.ahead) ∧ ∀ i, w.frozen? ⟨G.rb, i, none⟩ = false :=
  ⟨cell_of h.obj 0, cell_of h.obj 1, cell_of h.obj 2, cell_of h.obj 3, cell_of h.obj 4, cell_of h.obj 5, fun i => frozen_of h.obj i⟩

/-! The state's number. -/
theorem copied_any (p : Nat) (hp : p < 12) (w : World) : Calls Tryz.prog 114 #[.int .u8 (p : Int)] w fun e w' => e = .returned (.bool (!decide (p < 7))) ∧ w' = w := by
  by_cases h : p < 7
  · have hI : ¬ 7 ≤ (p : Int) := by omega
    rw [decide_eq_true h]
    go_enter Tryz.func114, Tryz.ntmps114
    go_wp2
    go_ret
    exact ⟨rfl, rfl⟩
  · have hI : 7 ≤ (p : Int) := by omega
    rw [decide_eq_false h]
    go_enter Tryz.func114, Tryz.ntmps114
    go_wp2
    go_ret
    exact ⟨rfl, rfl⟩
theorem behindByte_any (p : Nat) (hp : p < 12) (w : World) : Calls Tryz.prog 112 #[.int .u8 (p : Int)] w fun e w' => e = .returned (.int .u8 ((behB p : Nat) : Int)) ∧ w' = w := by
  unfold behB
  by_cases h : p < 4
  · have hI : (p : Int) < 4 := by omega
    rw [if_pos h]
    go_enter Tryz.func112, Tryz.ntmps112
    go_wp2
    go_ret
    exact ⟨rfl, rfl⟩
  · have hI : ¬ (p : Int) < 4 := by omega
    rw [if_neg h]
    by_cases h2 : p < 10
    · have hI2 : (p : Int) < 10 := by omega
      have e : ((p : Int) - 3) = ((p - 3 : Nat) : Int) := by omega
      rw [if_pos h2]
      have hq : p - 3 < 12 := by omega
      generalize p - 3 = q at *
      go_enter Tryz.func112, Tryz.ntmps112
      go_wp2
      go_ret
      exact ⟨rfl, rfl⟩
    · have hI2 : ¬ (p : Int) < 10 := by omega
      have e : ((p : Int) - 6) = ((p - 6 : Nat) : Int) := by omega
      rw [if_neg h2]
      have hq : p - 6 < 12 := by omega
      generalize p - 6 = q at *
      go_enter Tryz.func112, Tryz.ntmps112
      go_wp2
      go_ret
      exact ⟨rfl, rfl⟩
theorem behindMatch_any (p : Nat) (hp : p < 12) (w : World) : Calls Tryz.prog 119 #[.int .u8 (p : Int)] w fun e w' => e = .returned (.int .u8 ((behM p : Nat) : Int)) ∧ w' = w := by
  have hc := copied_any p hp
  unfold behM
  by_cases h : p < 7
  · rw [decide_eq_true h] at hc
    rw [if_pos h]
    go_enter Tryz.func119, Tryz.ntmps119
    go_wp2_with (go_at_call 114; refine (hc _).mono ?_; rintro e w' ⟨rfl, rfl⟩)
    go_ret
    exact ⟨rfl, rfl⟩
  · rw [decide_eq_false h] at hc
    rw [if_neg h]
    go_enter Tryz.func119, Tryz.ntmps119
    go_wp2_with (go_at_call 114; refine (hc _).mono ?_; rintro e w' ⟨rfl, rfl⟩)
    go_ret
    exact ⟨rfl, rfl⟩
theorem behindRepeat_any (p : Nat) (hp : p < 12) (w : World) : Calls Tryz.prog 122 #[.int .u8 (p : Int)] w fun e w' => e = .returned (.int .u8 ((behR p : Nat) : Int)) ∧ w' = w := by
  have hc := copied_any p hp
  unfold behR
  by_cases h : p < 7
  · rw [decide_eq_true h] at hc
    rw [if_pos h]
    go_enter Tryz.func122, Tryz.ntmps122
    go_wp2_with (go_at_call 114; refine (hc _).mono ?_; rintro e w' ⟨rfl, rfl⟩)
    go_ret
    exact ⟨rfl, rfl⟩
  · rw [decide_eq_false h] at hc
    rw [if_neg h]
    go_enter Tryz.func122, Tryz.ntmps122
    go_wp2_with (go_at_call 114; refine (hc _).mono ?_; rintro e w' ⟨rfl, rfl⟩)
    go_ret
    exact ⟨rfl, rfl⟩
theorem behindShort_any (p : Nat) (hp : p < 12) (w : World) : Calls Tryz.prog 121 #[.int .u8 (p : Int)] w fun e w' => e = .returned (.int .u8 ((behS p : Nat) : Int)) ∧ w' = w := by
  have hc := copied_any p hp
  unfold behS
  by_cases h : p < 7
  · rw [decide_eq_true h] at hc
    rw [if_pos h]
    go_enter Tryz.func121, Tryz.ntmps121
    go_wp2_with (go_at_call 114; refine (hc _).mono ?_; rintro e w' ⟨rfl, rfl⟩)
    go_ret
    exact ⟨rfl, rfl⟩
  · rw [decide_eq_false h] at hc
    rw [if_neg h]
    go_enter Tryz.func121, Tryz.ntmps121
    go_wp2_with (go_at_call 114; refine (hc _).mono ?_; rintro e w' ⟨rfl, rfl⟩)
    go_ret
    exact ⟨rfl, rfl⟩

/-- How far back the newest distance reaches. -/
theorem back_any (G : Rg) (rv tv : Value) (s : Se) (x : Cx) (win told : List Nat) (w : World) (h : Rd G w rv tv s x win told) :
    Calls Tryz.prog 84 #[.pointer (some ⟨G.rb, 0, none⟩)] w fun e w' => e = .returned (.int .i64 (((s.r0 + 1 : Nat)) : Int)) ∧ w' = w := by
  obtain ⟨c0, -⟩ := h.cells
  obtain ⟨-, -, -, -, f4, -⟩ := h.pr.st.first
  have hr := h.pr.st.ok.r0
  clear h
  generalize s.r0 = r at *
  go_enter Tryz.func84, Tryz.ntmps84
  go_wp2
  go_ret
  exact ⟨by simp, rfl⟩
theorem backQ_any (G : Rg) (rv tv : Value) (s : Se) (x : Cx) (win told : List Nat) (w : World) (h : Rd G w rv tv s x win told) :
    Calls Tryz.prog 84 #[.pointer (some ⟨G.rb, 0, none⟩)] w fun e w' => e = .returned (.int .i64 (((s.r0 + 1 : Nat)) : Int)) ∧ ∃ n, w' = w.drewN n :=
  (back_any G rv tv s x win told w h).mono (fun _ _ h => ⟨h.1, 0, h.2⟩)
theorem mask_i64 (x b : Nat) (hb : b ≤ 4) (hx : x < 9223372036854775808) : bits .and .i64 (x : Int) (2 ^ b - 1) = ((x % 2 ^ b : Nat) : Int) := by
  have := bits_mask .i64 63 (by decide) wraps_i64 b (by omega) (x : Int) (by omega) (by omega)
  exact this.trans (by simp)
theorem mask_form (b : Nat) (hb : b ≤ 4) : wrap64 (wrap64 (2 ^ b) - 1) = 2 ^ b - 1 := by
  have : b = 0 ∨ b = 1 ∨ b = 2 ∨ b = 3 ∨ b = 4 := by omega
  rcases this with rfl | rfl | rfl | rfl | rfl <;> simp [go_sem, wrap64]
set_option maxHeartbeats 1000000 in
theorem lowest_any (G : Rg) (rv tv : Value) (s : Se) (x : Cx) (win told : List Nat) (b : Nat) (hb : b ≤ 4) (w : World) (h : Rd G w rv tv s x win told) :
    Calls Tryz.prog 77 #[.pointer (some ⟨G.rb, 0, none⟩), .int .i64 (b : Int)] w fun e w' => e = .returned (.int .i64 ((lowN G.K told b : Nat) : Int)) ∧ ∃ n, w' = w.drewN n := by
  obtain ⟨-, -, -, c3, c4, -⟩ := h.cells
  obtain ⟨ta, tc, rfl⟩ := h.tform
  have hp := h.pl
  have ht := h.tl
  have hn := h.nn
  have hm := mask_i64 (G.K.place + told.length) b hb (by omega)
  obtain ⟨z, hz⟩ : ∃ z : Nat, z = G.K.place + told.length := ⟨_, rfl⟩
  have hzI : (G.K.place : Int) + (told.length : Int) = (z : Int) := by omega
  have hL : lowN G.K told b = z % 2 ^ b := by rw [hz]; rfl
  rw [hL]
  rw [← hz] at hm
  generalize z % 2 ^ b = m at *
  clear h hL hz
  generalize G.K.place = pl at *
  generalize told.length = n at *
  go_enter Tryz.func77, Tryz.ntmps77
  go_wp2_with fail
  go_quiet (fail)
  go_wp2_with fail
  go_ret
  refine ⟨congrArg (fun x => Ending.returned (Value.int .i64 x)) ?_, _, rfl⟩
  rw [mask_form b hb]
  exact hm

end Go.Proofs.YtnokemcogjoonaaGreatDoor

namespace Go.Proofs.YtnokemcogjoonaaGreatDoor.Pt
open Go.RowKit Go.Shelf
set_option linter.unusedVariables false

theorem fold_data (l : List Int) : ∀ acc : ByteArray, (l.foldl (fun r n => r.push (UInt8.ofNat n.toNat)) acc).data.toList = acc.data.toList ++ l.map (fun n => UInt8.ofNat n.toNat) := by
  induction l with
  | nil => intro acc; simp
  | cons a l ih =>
    intro acc
    rw [List.foldl_cons, ih]
    have : (acc.push (UInt8.ofNat a.toNat)).data.toList = acc.data.toList ++ [UInt8.ofNat a.toNat] := by cases acc; simp [ByteArray.push]
    rw [this]
    simp
theorem strOf_data (bs : List Nat) : (strOf bs).data.toList = bs.map (fun b => UInt8.ofNat b) := by
  unfold strOf
  rw [fold_data]
  simp [List.map_map, Function.comp_def]
theorem ofNat_inj {a b : Nat} (ha : a < 256) (hb : b < 256) (h : UInt8.ofNat a = UInt8.ofNat b) : a = b := by
  have := congrArg UInt8.toNat h
  simp only [UInt8.toNat_ofNat'] at this
  omega
theorem map_inj : ∀ {A B : List Nat}, (∀ b ∈ A, b < 256) → (∀ b ∈ B, b < 256) → A.map (fun b => UInt8.ofNat b) = B.map (fun b => UInt8.ofNat b) → A = B
  | [], [], _, _, _ => rfl
  | [], b :: B, _, _, h => by simp at h
  | a :: A, [], _, _, h => by simp at h
  | a :: A, b :: B, h1, h2, h => by
    simp only [List.map_cons, List.cons.injEq] at h
    rw [ofNat_inj (h1 a (by simp)) (h2 b (by simp)) h.1, map_inj (fun x hx => h1 x (by simp [hx])) (fun x hx => h2 x (by simp [hx])) h.2]
theorem strOf_inj {A B : List Nat} (h1 : ∀ j : Nat, A[j]?.getD 0 < 256) (h2 : ∀ j : Nat, B[j]?.getD 0 < 256) (h : strOf A = strOf B) : A = B := by
  refine map_inj (lt_mem h1) (lt_mem h2) ?_
  rw [← strOf_data, ← strOf_data, h]
theorem str_same {A B : List Nat} (h1 : ∀ j : Nat, A[j]?.getD 0 < 256) (h2 : ∀ j : Nat, B[j]?.getD 0 < 256) : ((strOf A).toList == (strOf B).toList) = decide (A = B) := by
  rw [ByteArray.toList_eq, ByteArray.toList_eq, strOf_data, strOf_data]
  by_cases h : A = B
  · rw [h]; simp
  · rw [decide_eq_false h]
    have : ¬ A.map (fun b => UInt8.ofNat b) = B.map (fun b => UInt8.ofNat b) := fun e => h (map_inj (lt_mem h1) (lt_mem h2) e)
    exact beq_eq_false_iff_ne.2 this
theorem equal_any (v1 v2 : Value) (A B : List Nat) (w : World) (s1 : SrcB w v1 A) (s2 : SrcB w v2 B) (h1 : ∀ j : Nat, A[j]?.getD 0 < 256) (h2 : ∀ j : Nat, B[j]?.getD 0 < 256) :
    Calls Tryz.prog 69 #[v1, v2] w fun e w' => e = .returned (.bool (decide (A = B))) ∧ w' = w := by
  have r1 := run_convB s1
  have r2 := run_convB s2
  have he := str_same h1 h2
  rw [← he]
  clear he s1 s2 h1 h2
  generalize strOf A = sa at *
  generalize strOf B = sb at *
  go_enter Tryz.func69, Tryz.ntmps69
  go_wp2_with fail
  go_ret
  exact ⟨rfl, rfl⟩
section
attribute [local go_sem] sliceSem_eq
set_option maxHeartbeats 2000000 in
theorem stands_any (ta : Option Addr) (tc tg tf : Nat) (T : List Nat) (i len : Nat) (back : Int) (w : World) (h : Bytes w ta tc tg tf T) (hT : T.length ≤ 1099511627776) (hi : i ≤ T.length) (h1 : 1 ≤ len) (hl : len ≤ 1099511627776) (hb : -9223372036854775808 ≤ back ∧ back < 9223372036854775808) :
    Calls Tryz.prog 44 #[.slice ta T.length tc, .int .i64 (i : Int), .int .i64 (len : Int), .int .i64 back] w fun e w' => e = .returned (.bool (standN T i len back)) ∧ ∃ n, w' = w.drewN n := by
  unfold standN
  by_cases c1 : i + len ≤ T.length
  · have c1I : decide ((T.length : Int) - (i : Int) < (len : Int)) = false := decide_eq_false (by omega)
    rw [decide_eq_true c1, Bool.true_and]
    by_cases c2 : 1 ≤ back
    · have c2I : decide (back < 1) = false := decide_eq_false (by omega)
      rw [decide_eq_true c2, Bool.true_and]
      by_cases c3 : back ≤ (i : Int)
      · have c3I : decide ((i : Int) < back) = false := decide_eq_false (by omega)
        rw [decide_eq_true c3, Bool.true_and]
        have hne : T ≠ [] := fun e => by rw [e] at c1; simp at c1; omega
        have hta : ta = some ⟨tg, tf, none⟩ := h.at_.resolve_right hne
        obtain ⟨k, hk⟩ : ∃ k : Nat, (k : Int) = back := ⟨back.toNat, by omega⟩
        subst hk
        rw [Int.toNat_natCast]
        have hcap := h.cap
        have m1 := Fd.run_mid tg tf T.length tc i (i + len) (by omega) (by omega)
        have m2 := Fd.run_mid tg tf T.length tc (i - k) (i - k + len) (by omega) (by omega)
        obtain ⟨a1, z1, r1, b1, y1⟩ := h.drop i hi
        obtain ⟨a2, z2, r2, b2, y2⟩ := h.drop (i - k) (by omega)
        have l1 : ((T.drop i).take len).length = len := by rw [List.length_take, List.length_drop]; omega
        have l2 : ((T.drop (i - k)).take len).length = len := by rw [List.length_take, List.length_drop]; omega
        have n1 : T.drop i ≠ [] := fun e => by have := congrArg List.length e; rw [List.length_drop] at this; simp at this; omega
        have n2 : T.drop (i - k) ≠ [] := fun e => by have := congrArg List.length e; rw [List.length_drop] at this; simp at this; omega
        have q1 := (b1.take len (by rw [List.length_drop]; omega)).2
        have q2 := (b2.take len (by rw [List.length_drop]; omega)).2
        have e1 := q1.at_.resolve_right (fun e => by rw [e] at l1; simp at l1; omega)
        have e2 := q2.at_.resolve_right (fun e => by rw [e] at l2; simp at l2; omega)
        have s1 := q1.src
        have s2 := q2.src
        rw [e1, l1, y1 n1] at s1
        rw [e2, l2, y2 n2] at s2
        rw [show i + len - i = len from by omega] at m1
        rw [show i - k + len - (i - k) = len from by omega] at m2
        have HE := hid (fun n : Nat => equal_any (.slice (some ⟨tg, tf + i, none⟩) len (tc - i)) (.slice (some ⟨tg, tf + (i - k), none⟩) len (tc - (i - k))) _ _ (w.drewN n) (s1.keep (keep_drewN w n)) (s2.keep (keep_drewN w n)) q1.lt q2.lt)
        obtain ⟨z, hz⟩ : ∃ z : Nat, z = i - k := ⟨_, rfl⟩
        rw [← hz] at m2 HE ⊢
        have hzI : (i : Int) - (k : Int) = (z : Int) := by omega
        obtain ⟨u, hu⟩ : ∃ u : Nat, u = i + len := ⟨_, rfl⟩
        obtain ⟨y, hy⟩ : ∃ y : Nat, y = z + len := ⟨_, rfl⟩
        rw [← hu] at m1
        rw [← hy] at m2
        have huI : (i : Int) + (len : Int) = (u : Int) := by omega
        have hyI : (z : Int) + (len : Int) = (y : Int) := by omega
        have hm1 : ∀ W, (sliceSem 22 (.slice (some ⟨tg, tf, none⟩) T.length tc) (some (.int .i64 (i : Int))) (some (.int .i64 (u : Int))) none).run Tryz.prog W = .ok (.slice (some ⟨tg, tf + i, none⟩) len (tc - i)) W := m1
        have hm2 : ∀ W, (sliceSem 22 (.slice (some ⟨tg, tf, none⟩) T.length tc) (some (.int .i64 (z : Int))) (some (.int .i64 (y : Int))) none).run Tryz.prog W = .ok (.slice (some ⟨tg, tf + z, none⟩) len (tc - z)) W := m2
        have w1 : IntKind.i64.wrap ((i : Int) + (len : Int)) = (u : Int) := by rw [huI]; exact wraps_i64 _ (by omega) (by omega)
        have w2 : IntKind.i64.wrap ((i : Int) - (k : Int)) = (z : Int) := by rw [hzI]; exact wraps_i64 _ (by omega) (by omega)
        have w3 : IntKind.i64.wrap (IntKind.i64.wrap ((i : Int) - (k : Int)) + (len : Int)) = (y : Int) := by rw [w2, hyI]; exact wraps_i64 _ (by omega) (by omega)
        have w4 : IntKind.i64.wrap ((z : Int) + (len : Int)) = (y : Int) := by rw [hyI]; exact wraps_i64 _ (by omega) (by omega)
        rw [hta]
        generalize decide ((T.drop i).take len = (T.drop z).take len) = r at *
        generalize T.length = tl at *
        clear m1 m2 a1 a2 b1 b2 q1 q2 e1 e2 s1 s2 l1 l2 r1 r2 y1 y2 n1 n2 h hta hne hz hu hy hcap
        go_enter Tryz.func44, Tryz.ntmps44
        go_wp2_with fail
        go_quiet (first | (go_at_call 69; refine Calls.quiet_of ((HE.out _).mono (fun e w' h => ⟨h.1, 0, h.2⟩))))
        go_wp2_with fail
        go_ret
        exact ⟨rfl, _, rfl⟩
      · have c3I : decide ((i : Int) < back) = true := decide_eq_true (by omega)
        rw [decide_eq_false c3, Bool.false_and]
        clear h
        go_enter Tryz.func44, Tryz.ntmps44
        go_wp2_with fail
        go_ret
        exact ⟨rfl, 0, rfl⟩
    · have c2I : decide (back < 1) = true := decide_eq_true (by omega)
      rw [decide_eq_false c2, Bool.false_and]
      clear h
      go_enter Tryz.func44, Tryz.ntmps44
      go_wp2_with fail
      go_ret
      exact ⟨rfl, 0, rfl⟩
  · have c1I : decide ((T.length : Int) - (i : Int) < (len : Int)) = true := decide_eq_true (by omega)
    rw [decide_eq_false c1, Bool.false_and]
    clear h
    go_enter Tryz.func44, Tryz.ntmps44
    go_wp2_with fail
    go_ret
    exact ⟨rfl, 0, rfl⟩
end

end Go.Proofs.YtnokemcogjoonaaGreatDoor.Pt

namespace Go.Proofs.YtnokemcogjoonaaGreatDoor
open Go.RowKit Go.Shelf
set_option linter.unusedVariables false

/-- Block b is an encoder; v is the slice of what went out. -/
structure IsE (w : World) (b : Nat) (e : Enc) (op : Bool) (v : Value) : Prop where
  obj : w.heap[b]? = some (.cells #[.int .u64 (e.low : Int), .int .u32 (e.span : Int), .int .u8 (e.first : Int), .int .i64 (e.wait : Int), v, .bool op] 149 (0, 0))
  own : w.ownsRow 0 5 1 v e.out.length (u8s e.out)
  low : e.low < 8589934592
  span : e.span < 4294967296
  first : e.first < 256
  out : ∀ j : Nat, e.out[j]?.getD 0 < 256
/-- What an encoder's call may turn. -/
def EncS (b : Nat) (v : Value) (k : Nat) : Prop := k = b ∨ v.ownBlock = some k
theorem keep_near {w w1 w2 : World} {b : Nat} {v v1 : Value} (k1 : Keep (EncS b v) w w1) (hn : Near w v v1) (k2 : Keep (EncS b v1) w1 w2) : Keep (EncS b v) w w2 :=
  k1.trans k2 (fun i hi h => by
    rcases h with e | e
    · exact .inl e
    · rcases hn with q | ⟨k, q, hk⟩
      · exact .inr (q ▸ e)
      · rw [q] at e
        have : k = i := by simpa using e
        omega)
theorem IsE.ne {w : World} {b : Nat} {e : Enc} {op : Bool} {v : Value} (h : IsE w b e op v) : v.ownBlock ≠ some b := owns_ne h.own h.obj (by decide)
theorem IsE.keep {w w' : World} {S : Nat → Prop} {b : Nat} {e : Enc} {op : Bool} {v : Value} (h : IsE w b e op v) (hk : Keep S w w') (h1 : ¬ S b) (h2 : ∀ g, v.ownBlock = some g → ¬ S g) : IsE w' b e op v :=
  ⟨hk.obj h.obj h1, owns_kept h.own hk h2, h.low, h.span, h.first, h.out⟩
theorem IsE.same {w : World} {b : Nat} {e : Enc} {op : Bool} {v : Value} (h : IsE w b e op v) {W : World} (e1 : W.heap = w.heap) (e2 : W.os = w.os) (e3 : W.tape = w.tape) (e4 : W.output = w.output) : IsE W b e op v :=
  h.keep (S := noBlock) ((Keep.refl _ w).same e1 e2 e3 e4) (fun h => h) (fun _ _ h => h)
/-- A store into the encoder's own block. -/
theorem own_set {w : World} {b n : Nat} {v : Value} {xs : List Value} (h : w.ownsRow 0 5 1 v n xs) (hne : v.ownBlock ≠ some b) (i : Nat) (u : Value) : (w.setCell ⟨b, i, none⟩ u).ownsRow 0 5 1 v n xs :=
  owns_kept h ((Keep.refl (fun k => k = b) w).setCell (p := ⟨b, i, none⟩) (fun _ => rfl) _) (fun g hg e => hne (by rw [hg, e]))
theorem IsE.cells {w : World} {b : Nat} {e : Enc} {op : Bool} {v : Value} (h : IsE w b e op v) : w.cell? ⟨b, 0, none⟩ = some (.int .u64 (e.low : Int)) ∧ w.cell? ⟨b, 1, none⟩ = some (.int .u32 (e.span : Int)) ∧ w.cell? ⟨b, 2, none⟩ = some (.int .u8 (e.first : Int)) ∧ w.cell? ⟨b, 3, none⟩ = some (.int .i64 (e.wait : Int)) ∧ w.cell? ⟨b, 4, none⟩ = some v ∧ w.cell? ⟨b, 5, none⟩ = some (.bool op) ∧ (∀ i, w.frozen? ⟨b, i, none⟩ = false) :=
  ⟨cell_of h.obj 0, cell_of h.obj 1, cell_of h.obj 2, cell_of h.obj 3, cell_of h.obj 4, cell_of h.obj 5, fun i => frozen_of h.obj i⟩
theorem IsE.form {w : World} {b : Nat} {e : Enc} {op : Bool} {v : Value} (h : IsE w b e op v) : ∃ va vn vc, v = .slice va vn vc := by
  obtain ⟨a, c, hv⟩ := owns_form h.own
  exact ⟨_, _, _, hv⟩
/-- How many wait, as it lies. -/
def heldW (W : World) (b : Nat) : Nat := match W.cell? ⟨b, 3, none⟩ with | some (.int _ n) => n.toNat | _ => 0
theorem heldW_of {W : World} {b : Nat} {e : Enc} {op : Bool} {v : Value} (h : IsE W b e op v) : heldW W b = e.wait := by
  unfold heldW
  rw [cell_of h.obj 3]
  rfl
/-- What went out behind m of those that waited. -/
def midE (e : Enc) (m : Nat) : Enc := ⟨e.low, e.span, if m = 0 then e.first else 255, e.wait - m, e.out ++ (flushL e.first e.wait (e.low / 4294967296 % 256)).take m⟩
theorem midE_zero (e : Enc) : midE e 0 = e := by simp [midE]
theorem flush_at (f n c m : Nat) (h : m < n) : (flushL f n c)[m]? = some (((if m = 0 then f else 255) + c) % 256) := by
  unfold flushL
  cases n with
  | zero => omega
  | succ n =>
    cases m with
    | zero => simp
    | succ m => simp [List.getElem?_replicate]; omega
theorem midE_succ (e : Enc) (m : Nat) (h : m < e.wait) : midE e (m + 1) = ⟨(midE e m).low, (midE e m).span, 255, (midE e m).wait - 1, (midE e m).out ++ [((midE e m).first + e.low / 4294967296 % 256) % 256]⟩ := by
  unfold midE
  have := flush_at e.first e.wait (e.low / 4294967296 % 256) m h
  rw [List.take_add_one, this]
  simp only [Option.toList_some, List.append_assoc, Nat.add_one_ne_zero, if_false]
  congr 1
theorem midE_all (e : Enc) (h : ¬ e.low / 16777216 = 255) : shiftE e = ⟨(midE e e.wait).low % 16777216 * 256, (midE e e.wait).span, e.low / 16777216 % 256, 1, (midE e e.wait).out⟩ := by
  unfold shiftE midE
  rw [if_neg h, List.take_of_length_le (by rw [flushL_len]; exact Nat.le_refl _)]
theorem and_24 (x : Nat) (h : x < 8589934592) : bits .and .u64 (x : Int) 16777215 = ((x % 16777216 : Nat) : Int) := by
  rw [show (16777215 : Int) = ((16777215 : Nat) : Int) from rfl, u64_and_nat _ _ (by omega) (by decide), show (16777215 : Nat) = 2 ^ 24 - 1 from rfl, Nat.and_two_pow_sub_one_eq_mod]

set_option maxHeartbeats 4000000 in
theorem shift_any (b : Nat) (e : Enc) (op : Bool) (v : Value) (w : World) (h : IsE w b e op v) (hm : manyE e ≤ 1000000) :
    Calls Tryz.prog 76 #[.pointer (some ⟨b, 0, none⟩)] w fun r w' => r = .returned (.tuple #[]) ∧ ∃ v', IsE w' b (shiftE e) op v' ∧ Near w v v' ∧ Keep (EncS b v) w w' := by
  obtain ⟨c0, c1, c2, c3, c4, c5, hf⟩ := h.cells
  have f0 := hf 0
  have f3 := hf 3
  have hlow := h.low
  obtain ⟨l24, hl24⟩ : ∃ x, x = e.low / 16777216 := ⟨_, rfl⟩
  obtain ⟨l32, hl32⟩ : ∃ x, x = e.low / 4294967296 := ⟨_, rfl⟩
  obtain ⟨lm, hlm⟩ : ∃ x, x = e.low % 16777216 := ⟨_, rfl⟩
  obtain ⟨lw, hlw⟩ : ∃ x, x = lm * 256 := ⟨_, rfl⟩
  have i24 : (e.low : Int) / 16777216 = (l24 : Int) := by omega
  have i32 : (e.low : Int) / 4294967296 = (l32 : Int) := by omega
  have iand : bits .and .u64 (e.low : Int) 16777215 = (lm : Int) := by rw [hlm]; exact and_24 _ hlow
  have ilw : (lm : Int) * 256 = (lw : Int) := by omega
  have hlwb : (lw : Int) < 4294967296 := by omega
  have hlmb : (lm : Int) < 16777216 := by omega
  have hw : (e.wait : Int) ≤ 1000000 := by unfold manyE at hm; omega
  by_cases h255 : e.low / 16777216 = 255
  · have hsh : shiftE e = ⟨lw, e.span, e.first, e.wait + 1, e.out⟩ := by unfold shiftE; rw [if_pos h255, hlw, hlm]
    have h24 : (l24 : Int) = 255 := by omega
    have h32 : (l32 : Int) = 0 := by omega
    rw [h24] at i24
    rw [h32] at i32
    have HF := (show Hid (∀ x : Int, x = (e.wait : Int) + 1 → IsE ((w.setCell ⟨b, 3, none⟩ (.int .i64 x)).setCell ⟨b, 0, none⟩ (.int .u64 (lw : Int))) b (shiftE e) op v ∧ Keep (EncS b v) w ((w.setCell ⟨b, 3, none⟩ (.int .i64 x)).setCell ⟨b, 0, none⟩ (.int .u64 (lw : Int)))) from by
      intro x hx
      have hk := ((Keep.refl (EncS b v) w).setCell (p := ⟨b, 3, none⟩) (fun _ => .inl rfl) (.int .i64 x)).setCell (p := ⟨b, 0, none⟩) (fun _ => .inl rfl) (.int .u64 (lw : Int))
      refine ⟨⟨?_, ?_, ?_, ?_, ?_, ?_⟩, hk⟩
      · refine (set_obj (set_obj h.obj 3 _) 0 _).trans ?_
        rw [hsh, hx]
        simp
      · rw [hsh]; exact own_set (own_set h.own h.ne 3 _) h.ne 0 _
      · rw [hsh]; show lw < _; omega
      · rw [hsh]; exact h.span
      · rw [hsh]; exact h.first
      · rw [hsh]; exact h.out)
    clear h hf hsh h24 h32 hl24 hl32 hlm hlw h255 hlow
    go_enter Tryz.func76, Tryz.ntmps76
    go_wp2_with fail
    refine wp_scope_straight ?_
    go_wp2_with fail
    refine wp_label ?_
    go_wp2_with fail
    refine wp_loop_rounds 1 ?_
    rw [rounds_succ]
    go_wp2_with fail
    simp only [Exit.noGoto]
    go_end0
    exact ⟨rfl, v, (HF.out _ rfl).1, Near.refl _ _, (HF.out _ rfl).2⟩
  · have h24 : ((l24 : Int) == 255) = false := by rw [beq_eq_false_iff_ne]; omega
    obtain ⟨ca, hca⟩ : ∃ x, x = l32 % 256 := ⟨_, rfl⟩
    have ica : (l32 : Int) % 256 = (ca : Int) := by omega
    have ica2 : (l32 : Int) = (ca : Int) := by omega
    obtain ⟨lb, hlb⟩ : ∃ x, x = l24 % 256 := ⟨_, rfl⟩
    have ilb : (l24 : Int) % 256 = (lb : Int) := by omega
    have hcaB : (ca : Int) ≤ 1 := by omega
    rw [ica2] at i32
    have HS := (show Hid (shiftE e = ⟨lw, e.span, lb, 1, (midE e e.wait).out⟩ ∧ e.low / 4294967296 % 256 = ca ∧ lb < 256) from ⟨by rw [midE_all e h255, hlb, hl24, hlw, hlm]; rfl, by rw [hca, hl32], by omega⟩)
    have HM := hid hm
    have H0 := (show Hid (IsE w b (midE e 0) op v ∧ Near w v v ∧ Keep (EncS b v) w w) from ⟨by rw [midE_zero]; exact h, Near.refl _ _, Keep.refl _ _⟩)
    clear h hf hl24 hl32 hlm hlw h255 hca hlb ica ica2 hm
    go_enter Tryz.func76, Tryz.ntmps76
    go_wp2_with fail
    refine wp_scope_straight ?_
    go_wp2_with fail
    refine wp_label ?_
    go_wp2_with fail
    go_loopw [] (fun wr => ∃ (m : Nat) (v' : Value), m ≤ e.wait ∧ Hid (IsE wr b (midE e m) op v' ∧ Near w v v' ∧ Keep (EncS b v) w wr)) (fun wr => heldW wr b)
    case atStart => exact ⟨0, v, Nat.zero_le _, H0.out⟩
    case round =>
      clear H0 c0 c1 c2 c3 c4 c5 f0 f3
      obtain ⟨m, v1, hmw, HR⟩ := hrel
      obtain ⟨hE, hN, hK⟩ := HR.out
      obtain ⟨c0, c1, c2, c3, c4, c5, hf⟩ := hE.cells
      have f0 := hf 0
      have f2 := hf 2
      have f3 := hf 3
      have f4 := hf 4
      have hHW := heldW_of hE
      have c0' : wr.cell? ⟨b, 0, none⟩ = some (.int .u64 (e.low : Int)) := c0
      clear c0
      by_cases hlt : m < e.wait
      · have hsuc := midE_succ e m hlt
        rw [HS.out.2.1] at hsuc
        have hw1 : (midE e m).wait = e.wait - m := rfl
        have hol : (midE e m).out.length = e.out.length + m := by
          show (e.out ++ (flushL e.first e.wait (e.low / 4294967296 % 256)).take m).length = _
          rw [List.length_append, List.length_take, flushL_len]
          omega
        have hmany := HM.out
        unfold manyE at hmany
        obtain ⟨x, hx⟩ : ∃ x, x = ((midE e m).first + ca) % 256 := ⟨_, rfl⟩
        rw [← hx] at hsuc
        obtain ⟨y, hy⟩ : ∃ y, y = (midE e m).first + ca := ⟨_, rfl⟩
        have ix : ((midE e m).first : Int) + (ca : Int) = (y : Int) := by omega
        have ix2 : IntKind.u8.wrap (y : Int) = (x : Int) := by rw [IntKind.wrap_u8']; omega
        have a4 : (wr.alloc (.cells #[.int .u8 (x : Int)] 5)).cell? ⟨b, 4, none⟩ = some v1 := cell_of (alloc_far hE.obj _) 4
        have a2 : (wr.alloc (.cells #[.int .u8 (x : Int)] 5)).cell? ⟨b, 2, none⟩ = some (.int .u8 ((midE e m).first : Int)) := cell_of (alloc_far hE.obj _) 2
        have hk0 : Keep noBlock wr wr.drew := (Keep.refl _ wr).drew
        have hEd := hE.keep hk0 (fun h => h) (fun _ _ h => h)
        obtain ⟨v2, W2, hr, ho2, hk2, hn2⟩ := own_push hEd.own x (by omega)
        have hr' : (Builtin.append_ #[22, 22] 22 #[v1, .slice (some ⟨wr.heap.size, 0, none⟩) 1 1]).run Tryz.prog (wr.alloc (.cells #[.int .u8 (x : Int)] 5)).drew = .ok v2 W2 := hr
        have ob2 := hk2.obj hEd.obj hEd.ne
        have d4 : W2.cell? ⟨b, 4, none⟩ = some v1 := cell_of ob2 4
        have d2 : W2.cell? ⟨b, 2, none⟩ = some (.int .u8 ((midE e m).first : Int)) := cell_of ob2 2
        have d3 : W2.cell? ⟨b, 3, none⟩ = some (.int .i64 ((midE e m).wait : Int)) := cell_of ob2 3
        have g2 := frozen_of ob2 2
        have g3 := frozen_of ob2 3
        have g4 := frozen_of ob2 4
        have hne2 : v2.ownBlock ≠ some b := owns_ne ho2 ob2 (by decide)
        obtain ⟨wn, hwn⟩ : ∃ x, x = (midE e m).wait - 1 := ⟨_, rfl⟩
        have iwn : ((midE e m).wait : Int) - 1 = (wn : Int) := by omega
        have hwI : (((midE e m).wait : Int) == 0) = false := by rw [beq_eq_false_iff_ne]; omega
        have hwB : ((midE e m).wait : Int) ≤ 1000000 := by omega
        have hnn : Near w v v2 := hN.trans (w1 := wr.drew) hn2 hK.size
        have HF := (show Hid (IsE (((W2.setCell ⟨b, 4, none⟩ v2).setCell ⟨b, 2, none⟩ (.int .u8 255)).setCell ⟨b, 3, none⟩ (.int .i64 (wn : Int))) b (midE e (m + 1)) op v2 ∧ Near w v v2 ∧ Keep (EncS b v) w (((W2.setCell ⟨b, 4, none⟩ v2).setCell ⟨b, 2, none⟩ (.int .u8 255)).setCell ⟨b, 3, none⟩ (.int .i64 (wn : Int)))) from by
          have k2 : Keep (EncS b v1) wr W2 := (hk0.mono (fun _ _ h => h.elim)).trans hk2 (fun _ _ h => .inr h)
          have k3 := ((k2.setCell (p := ⟨b, 4, none⟩) (fun _ => .inl rfl) v2).setCell (p := ⟨b, 2, none⟩) (fun _ => .inl rfl) (.int .u8 255)).setCell (p := ⟨b, 3, none⟩) (fun _ => .inl rfl) (.int .i64 (wn : Int))
          refine ⟨⟨?_, ?_, ?_, ?_, ?_, ?_⟩, hnn, keep_near hK hN k3⟩
          · refine (set_obj (set_obj (set_obj ob2 4 _) 2 _) 3 _).trans ?_
            rw [hsuc, ← hwn]
            rfl
          · rw [hsuc]; exact own_set (own_set (own_set ho2 hne2 4 _) hne2 2 _) hne2 3 _
          · rw [hsuc]; exact hE.low
          · rw [hsuc]; exact hE.span
          · rw [hsuc]; show 255 < 256; omega
          · rw [hsuc]
            exact lt_app hE.out (lt256 (fun y hy => by
              have : y = x := by simpa using hy
              omega)))
        obtain ⟨va, vn, vc, rfl⟩ := hE.form
        obtain ⟨ua, uc, rfl⟩ := owns_form ho2
        have HW := hid hHW
        have HWN := hid (show (midE e m).wait = e.wait - m ∧ m < e.wait from ⟨rfl, hlt⟩)
        have hfb := hE.first
        clear hE hN hK hf hHW HR hsuc hw1 hol hmany hx hy hk0 hEd hr ob2 ho2 hk2 hn2 hne2 hwn hnn c1 c5
        generalize (midE e m).first = fi at *
        generalize (midE e m).wait = wt at *
        generalize ((midE e m).out ++ [x]).length = on at *
        have hfbI : (fi : Int) < 256 := by omega
        go_wp2_with fail
        go_region_law (refine step_append_run _ (by rfl) _ _ 22 (by rfl) (.slice va vn vc) (.slice (some ⟨wr.heap.size, 0, none⟩) 1 1) (.slice ua on uc) W2 (by rfl) (by rfl) hr' ?_)
        all_goals
          go_wp2_with fail
          go_roundw
          case rel => exact ⟨m + 1, _, by omega, HF.out⟩
          case measure =>
            rw [heldW_of HF.out.1, HW.out]
            have h1 := HWN.out
            show (midE e (m + 1)).wait < wt
            have h2 : (midE e (m + 1)).wait = e.wait - (m + 1) := rfl
            omega
      · obtain rfl : m = e.wait := by omega
        have hw0 : (midE e e.wait).wait = 0 := by show e.wait - e.wait = 0; omega
        rw [hw0, show (((0 : Nat) : Int)) = (0 : Int) from rfl] at c3
        have hlbI : (lb : Int) < 256 := by have := HS.out.2.2; omega
        have HF := (show Hid (IsE (((wr.setCell ⟨b, 2, none⟩ (.int .u8 (lb : Int))).setCell ⟨b, 3, none⟩ (.int .i64 1)).setCell ⟨b, 0, none⟩ (.int .u64 (lw : Int))) b (shiftE e) op v1 ∧ Near w v v1 ∧ Keep (EncS b v) w (((wr.setCell ⟨b, 2, none⟩ (.int .u8 (lb : Int))).setCell ⟨b, 3, none⟩ (.int .i64 1)).setCell ⟨b, 0, none⟩ (.int .u64 (lw : Int)))) from by
          have k3 := (((Keep.refl (EncS b v1) wr).setCell (p := ⟨b, 2, none⟩) (fun _ => .inl rfl) (.int .u8 (lb : Int))).setCell (p := ⟨b, 3, none⟩) (fun _ => .inl rfl) (.int .i64 1)).setCell (p := ⟨b, 0, none⟩) (fun _ => .inl rfl) (.int .u64 (lw : Int))
          have hne := hE.ne
          rw [HS.out.1]
          refine ⟨⟨?_, ?_, ?_, ?_, ?_, ?_⟩, hN, keep_near hK hN k3⟩
          · exact (set_obj (set_obj (set_obj hE.obj 2 _) 3 _) 0 _).trans rfl
          · exact own_set (own_set (own_set hE.own hne 2 _) hne 3 _) hne 0 _
          · show lw < _; omega
          · exact hE.span
          · exact HS.out.2.2
          · exact hE.out)
        clear hE hN hK hf hHW HR hw0 hlt hmw
        go_wp2_with fail
        simp only [Exit.noGoto]
        go_end0
        exact ⟨rfl, v1, HF.out⟩

end Go.Proofs.YtnokemcogjoonaaGreatDoor

namespace Go.Proofs.YtnokemcogjoonaaGreatDoor
open Go.RowKit Go.Shelf
set_option linter.unusedVariables false

theorem IsE.set_span {w : World} {b : Nat} {e : Enc} {op : Bool} {v : Value} (h : IsE w b e op v) (s : Nat) (hs : s < 4294967296) : IsE (w.setCell ⟨b, 1, none⟩ (.int .u32 (s : Int))) b { e with span := s } op v :=
  ⟨set_obj h.obj 1 _, own_set h.own h.ne 1 _, h.low, hs, h.first, h.out⟩
theorem IsE.set_low {w : World} {b : Nat} {e : Enc} {op : Bool} {v : Value} (h : IsE w b e op v) (s : Nat) (hs : s < 8589934592) : IsE (w.setCell ⟨b, 0, none⟩ (.int .u64 (s : Int))) b { e with low := s } op v :=
  ⟨set_obj h.obj 0 _, own_set h.own h.ne 0 _, hs, h.span, h.first, h.out⟩
theorem IsE.set_open {w : World} {b : Nat} {e : Enc} {op : Bool} {v : Value} (h : IsE w b e op v) (s : Bool) : IsE (w.setCell ⟨b, 5, none⟩ (.bool s)) b e s v :=
  ⟨set_obj h.obj 5 _, own_set h.own h.ne 5 _, h.low, h.span, h.first, h.out⟩
def heldS (W : World) (b : Nat) : Nat := match W.cell? ⟨b, 1, none⟩ with | some (.int _ n) => n.toNat | _ => 0
theorem heldS_of {W : World} {b : Nat} {e : Enc} {op : Bool} {v : Value} (h : IsE W b e op v) : heldS W b = e.span := by
  unfold heldS
  rw [cell_of h.obj 1]
  rfl
theorem normE_small {e : Enc} (h : e.span < 16777216) : normE e = shiftE { e with span := e.span * 256 } := if_pos h
theorem normE_great {e : Enc} (h : ¬ e.span < 16777216) : normE e = e := if_neg h

/-- On the way to order. -/
def Ordg (w wr : World) (b : Nat) (e E : Enc) (op : Bool) (v v' : Value) : Prop := normE E = normE e ∧ IsE wr b E op v' ∧ (E.span < 16777216 → manyE E ≤ 1000000) ∧ 65536 ≤ E.span ∧ Near w v v' ∧ Keep (EncS b v) w wr
set_option maxHeartbeats 2000000 in
theorem orderE_any (b : Nat) (e : Enc) (op : Bool) (v : Value) (w : World) (h : IsE w b e op v) (hm : manyE e ≤ 1000000) (hs : 65536 ≤ e.span) :
    Calls Tryz.prog 128 #[.pointer (some ⟨b, 0, none⟩)] w fun r w' => r = .returned (.tuple #[]) ∧ ∃ v', IsE w' b (normE e) op v' ∧ Near w v v' ∧ Keep (EncS b v) w w' := by
  have H0 : Ordg w w b e e op v v := ⟨rfl, h, fun _ => hm, hs, Near.refl _ _, Keep.refl _ _⟩
  clear h hm hs
  go_enter Tryz.func128, Tryz.ntmps128
  go_wp2_with fail
  go_loopw [] (fun wr => ∃ (E : Enc) (v' : Value), Ordg w wr b e E op v v') (fun wr => 16777216 - heldS wr b)
  case atStart => exact ⟨e, v, H0⟩
  case round =>
    clear H0
    obtain ⟨E, v1, HR⟩ := hrel
    obtain ⟨hnE, hE, hmE, hsE, hN, hK⟩ := HR
    obtain ⟨-, c1, -, -, -, -, hf⟩ := hE.cells
    have f1 := hf 1
    have hsp := hE.span
    have hHS := heldS_of hE
    by_cases hl : E.span < 16777216
    · have hlI : (E.span : Int) < 16777216 := by omega
      obtain ⟨s, hs2⟩ : ∃ s, s = E.span * 256 := ⟨_, rfl⟩
      have hsI : (E.span : Int) * 256 % 4294967296 = (s : Int) := by omega
      have hsI2 : (E.span : Int) * 256 = (s : Int) := by omega
      have hsl : (s : Int) < 4294967296 := by omega
      have h2 := hE.set_span s (by omega)
      have hk := (Keep.refl (EncS b v1) wr).setCell (p := ⟨b, 1, none⟩) (fun _ => .inl rfl) (.int .u32 (s : Int))
      have hnorm := normE_small hl
      rw [← hs2] at hnorm
      have HT := hid (shift_any b _ op v1 _ h2 (hmE hl))
      have HX := (show Hid (normE E = normE e ∧ normE E = shiftE ({ E with span := s } : Enc) ∧ 16777216 ≤ (shiftE ({ E with span := s } : Enc)).span ∧ Near w v v1 ∧ Keep (EncS b v) w wr ∧ Keep (EncS b v1) wr (wr.setCell ⟨b, 1, none⟩ (.int .u32 (s : Int))) ∧ heldS wr b < 16777216) from ⟨hnE, hnorm, by rw [shiftE_span]; show _ ≤ s; omega, hN, hK, hk, by rw [hHS]; exact hl⟩)
      clear hnE hE hmE hsE hN hK hf hHS h2 hk hnorm hs2 hl hsp
      generalize shiftE ({ E with span := s } : Enc) = E2 at *
      generalize E.span = z at *
      go_wp2_with (go_at_call 76; refine HT.out.mono ?_; rintro r w1 ⟨rfl, v2, h3, hn3, hk3⟩)
      go_roundw
      case rel =>
        obtain ⟨x1, x2, x3, x4, x5, x6, x7⟩ := HX.out
        have hsz := x6.size
        exact ⟨E2, v2, ⟨by rw [normE_great (by omega), ← x2]; exact x1, h3, fun q => by omega, by omega, x4.trans hn3 (Nat.le_trans x5.size hsz), keep_near x5 x4 (x6.trans hk3 (fun _ _ h => h))⟩⟩
      case measure =>
        have x3 := HX.out.2.2.1
        have x7 := HX.out.2.2.2.2.2.2
        rw [heldS_of h3]
        omega
    · have hlI : ¬ (E.span : Int) < 16777216 := by omega
      have hnorm := normE_great hl
      have HF := (show Hid (∃ v', IsE wr b (normE e) op v' ∧ Near w v v' ∧ Keep (EncS b v) w wr) from ⟨v1, by rw [← hnE, hnorm]; exact hE, hN, hK⟩)
      clear hnE hE hmE hsE hN hK hf hHS hl hsp hnorm
      go_wp2_with fail
      go_end0
      exact ⟨rfl, HF.out⟩

theorem bitE_one {e : Enc} {c : Nat} : bitE e c true = normE { e with low := e.low + boundN e.span c, span := e.span - boundN e.span c } := rfl
theorem bitE_zero {e : Enc} {c : Nat} : bitE e c false = normE { e with span := boundN e.span c } := rfl
set_option maxHeartbeats 2000000 in
theorem bitE_any (b pb i p : Nat) (bit : Int) (one : Bool) (t : TypeId) (ht : t ≠ 149) (ht5 : t ≠ 5) (cs : Array Value) (e : Enc) (v : Value) (w : World) (h : IsE w b e true v) (hok : EncOk e) (hm : manyE e ≤ 1000000) (hp : w.heap[pb]? = some (.cells cs t (0, 0))) (hi : cs[i]? = some (.int .u16 (p : Int))) (hp16 : p < 65536) (hb : one = (bit != 0)) :
    Calls Tryz.prog 101 #[.pointer (some ⟨b, 0, none⟩), .pointer (some ⟨pb, i, none⟩), .int .i64 bit] w fun r w' => r = .returned (.tuple #[]) ∧ ∃ v', IsE w' b (bitE e (fairN p) one) true v' ∧ Near w v v' ∧
      w'.heap[pb]? = some (.cells (cs.setIfInBounds i (.int .u16 ((learnN (fairN p) one : Nat) : Int))) t (0, 0)) ∧ Keep (fun k => EncS b v k ∨ k = pb) w w' := by
  have hne : pb ≠ b := ne_of_type hp h.obj ht
  have hnv : v.ownBlock ≠ some pb := owns_ne h.own hp ht5
  obtain ⟨hf1, hf2⟩ := fairN_bd p
  have HC := hid (chanceOf_any p hp16)
  have hbd := boundN_lt hf1 hf2 hok.s1
  have hs1 := hok.s1
  have hlow := hok.low
  have hs := h.span
  have HB := hid (bound_any (fairN p) e.span hf2 hs)
  have HL := hid (learned_any (fairN p) bit one hf1 hf2 hb)
  obtain ⟨c0, c1, -, -, -, c5, hf⟩ := h.cells
  have f0 := hf 0
  have f1 := hf 1
  have cp : w.cell? ⟨pb, i, none⟩ = some (.int .u16 (p : Int)) := (cell_of hp i).trans hi
  have fp := frozen_of hp i
  generalize fairN p = c at *
  have hfar : ∀ (W : World), Keep (fun k => k = b) w W → (∀ E : Enc, manyE E ≤ 1000000 → 65536 ≤ E.span → IsE W b E true v →
      Calls Tryz.prog 128 #[.pointer (some ⟨b, 0, none⟩)] (W.setCell ⟨pb, i, none⟩ (.int .u16 ((learnN c one : Nat) : Int))) fun r w' => r = .returned (.tuple #[]) ∧ ∃ v', IsE w' b (normE E) true v' ∧ Near w v v' ∧
      w'.heap[pb]? = some (.cells (cs.setIfInBounds i (.int .u16 ((learnN c one : Nat) : Int))) t (0, 0)) ∧ Keep (fun k => EncS b v k ∨ k = pb) w w') := by
    intro W hk E hmE hsE hE
    have hp1 := hk.obj hp (fun e => hne e)
    have k2 := (Keep.refl (fun k => k = pb) W).setCell (p := ⟨pb, i, none⟩) (fun _ => rfl) (.int .u16 ((learnN c one : Nat) : Int))
    have hE2 := hE.keep k2 (fun e => hne e.symm) (fun g hg e => hnv (by rw [hg, e]))
    have hp2 := set_obj hp1 i (.int .u16 ((learnN c one : Nat) : Int))
    refine (orderE_any b E true v _ hE2 hmE hsE).mono ?_
    rintro r w1 ⟨rfl, v1, a1, a2, a3⟩
    have ksz := hk.size
    have ksz2 := k2.size
    refine ⟨rfl, v1, a1, (show Near w v v1 from ?_), a3.obj hp2 ?_, ?_⟩
    · rcases a2 with q | ⟨k, q, hq⟩
      · exact .inl q
      · exact .inr ⟨k, q, by omega⟩
    · rintro (e | e)
      · exact hne e
      · exact hnv e
    · exact ((hk.mono (fun _ _ e => .inl (.inl e))).trans k2 (fun _ _ e => .inr e)).trans a3 (fun _ _ e => .inl e)
  cases one with
  | true =>
    rw [bitE_one]
    have hbI : (bit == 0) = false := by simpa using hb.symm
    have h2 := (h.set_low (e.low + boundN e.span c) (by omega)).set_span (e.span - boundN e.span c) (by omega)
    have HF := hid (hfar _ (((Keep.refl (fun k => k = b) w).setCell (p := ⟨b, 0, none⟩) (fun _ => rfl) _).setCell (p := ⟨b, 1, none⟩) (fun _ => rfl) _) ({ e with low := e.low + boundN e.span c, span := e.span - boundN e.span c } : Enc) hm (show 65536 ≤ e.span - boundN e.span c by omega) h2)
    have e1 : (e.low : Int) + ((boundN e.span c : Nat) : Int) = ((e.low + boundN e.span c : Nat) : Int) := by omega
    have e2 : ((e.span : Int) - ((boundN e.span c : Nat) : Int)) % 4294967296 = ((e.span - boundN e.span c : Nat) : Int) := by omega
    have e3 : ((e.low + boundN e.span c : Nat) : Int) < 18446744073709551616 := by omega
    have e4 : ((boundN e.span c : Nat) : Int) < 4294967296 := by omega
    clear h h2 hfar hok hm hp hi hb hbd hs1 hlow hs hf
    generalize e.low + boundN e.span c = L' at *
    generalize e.span - boundN e.span c = S' at *
    generalize boundN e.span c = B at *
    go_enter Tryz.func101, Tryz.ntmps101
    go_wp2_with (first | (go_at_call 109; refine (HC.out _).mono ?_; rintro r w' ⟨rfl, rfl⟩) | (go_at_call 110; refine (HB.out _).mono ?_; rintro r w' ⟨rfl, rfl⟩) | (go_at_call 111; refine (HL.out _).mono ?_; rintro r w' ⟨rfl, rfl⟩) | (go_at_call 128; refine HF.out.mono ?_; rintro r w1 ⟨rfl, hr⟩))
    go_end0
    exact ⟨rfl, hr⟩
  | false =>
    rw [bitE_zero]
    obtain rfl : bit = 0 := by simpa using hb.symm
    have h2 := h.set_span (boundN e.span c) (by omega)
    have HF := hid (hfar _ ((Keep.refl (fun k => k = b) w).setCell (p := ⟨b, 1, none⟩) (fun _ => rfl) _) ({ e with span := boundN e.span c } : Enc) hm (show 65536 ≤ boundN e.span c by omega) h2)
    clear h h2 hfar hok hm hp hi hb hbd hs1 hlow hs hf
    generalize boundN e.span c = B at *
    go_enter Tryz.func101, Tryz.ntmps101
    go_wp2_with (first | (go_at_call 109; refine (HC.out _).mono ?_; rintro r w' ⟨rfl, rfl⟩) | (go_at_call 110; refine (HB.out _).mono ?_; rintro r w' ⟨rfl, rfl⟩) | (go_at_call 111; refine (HL.out _).mono ?_; rintro r w' ⟨rfl, rfl⟩) | (go_at_call 128; refine HF.out.mono ?_; rintro r w1 ⟨rfl, hr⟩))
    go_end0
    exact ⟨rfl, hr⟩

end Go.Proofs.YtnokemcogjoonaaGreatDoor
