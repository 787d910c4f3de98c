/-
  The program's window and the document's, side by side.
-/
import Derived.Test.YtpjbegafhgnebaaRefC
import Derived.Test.YtpjbegafhgnebaaLive
namespace Go.Proofs.Ytpjbegafhgnebaa
open Go.RowKit Go.Shelf
set_option linter.unusedVariables false

set_option maxHeartbeats 1000000 in
theorem clear_gone (wb : Nat) (w : World) (h : IsD w wb) :
    Calls Try.prog 20 #[.pointer (some ⟨wb, 0, none⟩)] w fun e w' => e = .returned (.tuple #[]) ∧ IsD w' wb ∧ Keep (fun k => k = wb) w w' := by
  have c2 : w.cell? ⟨wb, 2, none⟩ = some (.slice none 0 0) := cell_of h 2
  have f2 := frozen_of h 2
  have c3 : w.cell? ⟨wb, 3, none⟩ = some (.int .i64 0) := cell_of h 3
  have f3 := frozen_of h 3
  go_enter Try.func20, Try.ntmps20
  go_wp2_with fail
  go_end0
  exact ⟨rfl, (set_obj (set_obj h 2 _) 3 _).trans (by simp), ((Keep.refl (fun k => k = wb) w).setCell (p := ⟨wb, 2, none⟩) (fun _ => rfl) _).setCell (p := ⟨wb, 3, none⟩) (fun _ => rfl) _⟩

theorem type_ne {W : World} {a b : Nat} {cs ds : Array Value} {t u : TypeId} {f g : Nat × Nat} (ha : W.heap[a]? = some (.cells cs t f)) (hb : W.heap[b]? = some (.cells ds u g)) (h : t ≠ u) : a ≠ b := by
  rintro rfl
  rw [ha] at hb
  simp only [Option.some.injEq, Obj.cells.injEq] at hb
  exact h hb.2.1

/-- Both, not dropped: Lw was put into the program's, Lv into the document's. -/
structure Pair (w W : World) (wb lb vb qb s B : Nat) (rv bv : Value) (Lw Lv : List Nat) : Prop where
  live : Live w W wb lb s rv (lastN s Lw) B s s
  isV : IsV W vb qb s bv Lv
  isQ : IsQ W qb B s s
  vlo : w.heap.size ≤ vb
  qlo : w.heap.size ≤ qb
  vring : ∀ g, bv.ownBlock = some g → w.heap.size ≤ g
  apart : ∀ g, rv.ownBlock = some g → bv.ownBlock ≠ some g
/-- Both, dropped. -/
structure PairX (w W : World) (wb lb vb qb s B : Nat) : Prop where
  gone : Gone w W wb lb B 0 s
  isX : IsX W vb qb s
  isQ : IsQ W qb B 0 s
  vlo : w.heap.size ≤ vb
  qlo : w.heap.size ≤ qb
def Both (w W : World) (wb lb vb qb s B : Nat) (d : Bool) (rv bv : Value) (Lw Lv : List Nat) : Prop :=
  match d with
  | false => Pair w W wb lb vb qb s B rv bv Lw Lv
  | true => PairX w W wb lb vb qb s B
def heldN (d : Bool) (s : Nat) : Nat := if d then 0 else s

theorem IsW.obj {W : World} {wb lb s : Nat} {rv : Value} {M : List Nat} (h : IsW W wb lb s rv M) : ∃ cs, W.heap[wb]? = some (.cells cs 65 (0, 0)) := by
  obtain ⟨R, o, h, -⟩ := h
  exact ⟨_, h.obj⟩
theorem Both.objs {w W : World} {wb lb vb qb s B : Nat} {d : Bool} {rv bv : Value} {Lw Lv : List Nat} (h : Both w W wb lb vb qb s B d rv bv Lw Lv) :
    (∃ cs, W.heap[wb]? = some (.cells cs 65 (0, 0))) ∧ (∃ cs, W.heap[lb]? = some (.cells cs 62 (0, 0))) ∧ (∃ cs, W.heap[vb]? = some (.cells cs 67 (0, 0))) ∧ (∃ cs, W.heap[qb]? = some (.cells cs 48 (0, 0))) := by
  cases d with
  | false => have h : Pair w W wb lb vb qb s B rv bv Lw Lv := h; exact ⟨h.live.isW.obj, ⟨_, h.live.isL.obj⟩, ⟨_, h.isV.obj⟩, ⟨_, h.isQ.obj⟩⟩
  | true => have h : PairX w W wb lb vb qb s B := h; exact ⟨⟨_, h.gone.isD⟩, ⟨_, h.gone.isL.obj⟩, ⟨_, h.isX⟩, ⟨_, h.isQ.obj⟩⟩
theorem Both.keep {w W : World} {wb lb vb qb s B : Nat} {d : Bool} {rv bv : Value} {Lw Lv : List Nat} (h : Both w W wb lb vb qb s B d rv bv Lw Lv) : Keep noBlock w W := by
  cases d with
  | false => exact (show Pair w W wb lb vb qb s B rv bv Lw Lv from h).live.keep
  | true => exact (show PairX w W wb lb vb qb s B from h).gone.keep
/-- What else is turned is none of theirs. -/
theorem Both.kept {w W W' : World} {wb lb vb qb s B : Nat} {d : Bool} {rv bv : Value} {Lw Lv : List Nat} {S : Nat → Prop} (h : Both w W wb lb vb qb s B d rv bv Lw Lv) (hk : Keep S W W')
    (hS : ∀ k, S k → k ≠ wb ∧ k ≠ lb ∧ k ≠ vb ∧ k ≠ qb ∧ w.heap.size ≤ k) (h1 : d = false → ∀ k, S k → rv.ownBlock ≠ some k ∧ bv.ownBlock ≠ some k) : Both w W' wb lb vb qb s B d rv bv Lw Lv := by
  have hold : ∀ i, i < w.heap.size → ¬ S i := fun i hi e => by have := (hS i e).2.2.2.2; omega
  cases d with
  | false =>
    have h : Pair w W wb lb vb qb s B rv bv Lw Lv := h
    exact ⟨h.live.kept hk (fun e => (hS _ e).1 rfl) (fun e => (hS _ e).2.1 rfl) (fun g hg e => (h1 rfl g e).1 hg) hold, h.isV.keep hk (fun e => (hS _ e).2.2.1 rfl) (fun g hg e => (h1 rfl g e).2 hg), h.isQ.keep hk (fun e => (hS _ e).2.2.2.1 rfl), h.vlo, h.qlo, h.vring, h.apart⟩
  | true =>
    have h : PairX w W wb lb vb qb s B := h
    exact ⟨h.gone.kept hk (fun e => (hS _ e).1 rfl) (fun e => (hS _ e).2.1 rfl) hold, hk.obj h.isX (fun e => (hS _ e).2.2.1 rfl), h.isQ.keep hk (fun e => (hS _ e).2.2.2.1 rfl), h.vlo, h.qlo⟩
theorem Both.same {w W W' : World} {wb lb vb qb s B : Nat} {d : Bool} {rv bv : Value} {Lw Lv : List Nat} (h : Both w W wb lb vb qb s B d rv bv Lw Lv) (hk : Keep noBlock W W') : Both w W' wb lb vb qb s B d rv bv Lw Lv :=
  h.kept hk (fun _ h => h.elim) (fun _ _ h => h.elim)
/-- A row of bytes of one's own is turned. -/
theorem Both.row {w W W' : World} {wb lb vb qb s B : Nat} {d : Bool} {rv bv : Value} {Lw Lv : List Nat} (h : Both w W wb lb vb qb s B d rv bv Lw Lv) {g : Nat} {cs : Array Value} {fr : Nat × Nat} (hg : W.heap[g]? = some (.cells cs 5 fr)) (hk : Keep (fun k => k = g) W W') (hlo : w.heap.size ≤ g)
    (h1 : d = false → rv.ownBlock ≠ some g ∧ bv.ownBlock ≠ some g) : Both w W' wb lb vb qb s B d rv bv Lw Lv := by
  obtain ⟨⟨_, o1⟩, ⟨_, o2⟩, ⟨_, o3⟩, ⟨_, o4⟩⟩ := h.objs
  refine h.kept hk ?_ ?_
  · rintro k rfl
    exact ⟨type_ne hg o1 (by decide), type_ne hg o2 (by decide), type_ne hg o3 (by decide), type_ne hg o4 (by decide), hlo⟩
  · rintro hd k rfl
    exact h1 hd

theorem Both.held1 {w W : World} {wb lb vb qb s B : Nat} {d : Bool} {rv bv : Value} {Lw Lv : List Nat} (h : Both w W wb lb vb qb s B d rv bv Lw Lv) :
    Calls Try.prog 13 #[.pointer (some ⟨lb, 0, none⟩)] W fun e W' => e = .returned (.tuple #[.int .i64 ((heldN d s : Nat) : Int), .int .i64 (s : Int)]) ∧ W' = W := by
  cases d with
  | false => exact held_any lb B s s W (show Pair w W wb lb vb qb s B rv bv Lw Lv from h).live.isL
  | true => exact held_any lb B 0 s W (show PairX w W wb lb vb qb s B from h).gone.isL
theorem Both.held2 {w W : World} {wb lb vb qb s B : Nat} {d : Bool} {rv bv : Value} {Lw Lv : List Nat} (h : Both w W wb lb vb qb s B d rv bv Lw Lv) :
    Calls Try.prog 24 #[.pointer (some ⟨wb, 0, none⟩)] W fun e W' => e = .returned (.int .i64 ((heldN d s : Nat) : Int)) ∧ W' = W := by
  cases d with
  | false => exact wheld_cell wb (s : Int) W (show Pair w W wb lb vb qb s B rv bv Lw Lv from h).live.held
  | true => exact wheld_cell wb 0 W (cell_of (show PairX w W wb lb vb qb s B from h).gone.isD 0)
theorem Both.held3 {w W : World} {wb lb vb qb s B : Nat} {d : Bool} {rv bv : Value} {Lw Lv : List Nat} (h : Both w W wb lb vb qb s B d rv bv Lw Lv) :
    Calls Try.prog 25 #[.pointer (some ⟨vb, 0, none⟩)] W fun e W' => e = .returned (.int .i64 ((heldN d s : Nat) : Int)) ∧ W' = W := by
  cases d with
  | false => exact heldV_any vb qb s bv Lv W (show Pair w W wb lb vb qb s B rv bv Lw Lv from h).isV
  | true => exact heldV_gone vb qb s W (show PairX w W wb lb vb qb s B from h).isX
theorem Both.cells {w W : World} {wb lb vb qb s B : Nat} {d : Bool} {rv bv : Value} {Lw Lv : List Nat} (h : Both w W wb lb vb qb s B d rv bv Lw Lv) :
    W.cell? ⟨qb, 1, none⟩ = some (.int .i64 ((heldN d s : Nat) : Int)) ∧ W.cell? ⟨qb, 2, none⟩ = some (.int .i64 (s : Int)) := by
  cases d with
  | false => have h : Pair w W wb lb vb qb s B rv bv Lw Lv := h; exact ⟨cell_of h.isQ.obj 1, cell_of h.isQ.obj 2⟩
  | true => have h : PairX w W wb lb vb qb s B := h; exact ⟨cell_of h.isQ.obj 1, cell_of h.isQ.obj 2⟩

/-- What turns the program's window alone. -/
theorem Pair.turn1 {w W W' : World} {wb lb vb qb s B : Nat} {rv rv' bv : Value} {Lw Lw' Lv : List Nat} (h : Pair w W wb lb vb qb s B rv bv Lw Lv) (hV : Live w W' wb lb s rv' (lastN s Lw') B s s) (hN : Near W rv rv') (hK : Keep (fun k => k = wb ∨ rv.ownBlock = some k) W W') : Pair w W' wb lb vb qb s B rv' bv Lw' Lv := by
  obtain ⟨cs, ow⟩ := h.live.isW.obj
  have r1 := h.live.isW.ring_ne h.isV.obj (by decide)
  have r2 := h.live.isW.ring_ne h.isQ.obj (by decide)
  refine ⟨hV, h.isV.keep hK ?_ ?_, h.isQ.keep hK ?_, h.vlo, h.qlo, h.vring, ?_⟩
  · rintro (e | e)
    · exact type_ne h.isV.obj ow (by decide) e
    · exact r1 e
  · rintro g hg (e | e)
    · exact owns_ne h.isV.own ow (by decide) (by rw [hg, e])
    · exact h.apart g e hg
  · rintro (e | e)
    · exact type_ne h.isQ.obj ow (by decide) e
    · exact r2 e
  · intro g hg
    rcases hN with e | ⟨k, e, hk⟩
    · exact h.apart g (by rw [← e]; exact hg)
    · intro q
      have := h.isV.ring_lt q
      rw [e] at hg
      have : k = g := by simpa using hg
      omega
/-- What turns the document's window alone. -/
theorem Pair.turn2 {w W W' : World} {wb lb vb qb s B : Nat} {rv bv bv' : Value} {Lw Lv Lv' : List Nat} (h : Pair w W wb lb vb qb s B rv bv Lw Lv) (hV : IsV W' vb qb s bv' Lv') (hN : Near W bv bv') (hK : Keep (fun k => k = vb ∨ bv.ownBlock = some k) W W') : Pair w W' wb lb vb qb s B rv bv' Lw Lv' := by
  obtain ⟨cs, ow⟩ := h.live.isW.obj
  have hq : bv.ownBlock ≠ some wb := owns_ne h.isV.own ow (by decide)
  have hq2 : bv.ownBlock ≠ some lb := owns_ne h.isV.own h.live.isL.obj (by decide)
  have hq3 : bv.ownBlock ≠ some qb := owns_ne h.isV.own h.isQ.obj (by decide)
  refine ⟨h.live.kept hK ?_ ?_ ?_ ?_, hV, h.isQ.keep hK ?_, h.vlo, h.qlo, ?_, ?_⟩
  · rintro (e | e)
    · exact type_ne ow h.isV.obj (by decide) e
    · exact hq e
  · rintro (e | e)
    · exact type_ne h.live.isL.obj h.isV.obj (by decide) e
    · exact hq2 e
  · rintro g hg (e | e)
    · exact h.live.isW.ring_ne h.isV.obj (by decide) (by rw [hg, e])
    · exact h.apart g hg e
  · rintro i hi (e | e)
    · have := h.vlo; omega
    · have := h.vring i e; omega
  · rintro (e | e)
    · exact type_ne h.isQ.obj h.isV.obj (by decide) e
    · exact hq3 e
  · intro g hg
    rcases hN with e | ⟨k, e, hk⟩
    · exact h.vring g (by rw [← e]; exact hg)
    · rw [e] at hg
      have : k = g := by simpa using hg
      have := h.live.keep.size
      omega
  · intro g hg q
    rcases hN with e | ⟨k, e, hk⟩
    · exact h.apart g hg (by rw [← e]; exact q)
    · have := h.live.isW.ring_lt hg
      rw [e] at q
      have : k = g := by simpa using q
      omega

/-- Put, the program's. -/
theorem Both.put1 {w W : World} {wb lb vb qb s B : Nat} {d : Bool} {rv bv : Value} {L : List Nat} (h : Both w W wb lb vb qb s B d rv bv L L) {a : Option Addr} {cap gb off : Nat} {bs : List Nat} (hb : Bytes W a cap gb off bs) (hne : bs ≠ [] → gb ≠ wb ∧ (d = false → rv.ownBlock ≠ some gb)) :
    Calls Try.prog 14 #[.pointer (some ⟨wb, 0, none⟩), .slice a bs.length cap] W fun e W' => e = .returned (.tuple #[]) ∧ ∃ rv', Both w W' wb lb vb qb s B d rv' bv (L ++ bs) L ∧ Near W rv rv' ∧ Keep (fun k => k = wb ∨ (d = false ∧ rv.ownBlock = some k)) W W' := by
  cases d with
  | false =>
    have h : Pair w W wb lb vb qb s B rv bv L L := h
    refine (h.live.put hb (fun e => ⟨(hne e).1, (hne e).2 rfl⟩)).mono ?_
    rintro e W' ⟨rfl, rv', hV, hN, hK⟩
    rw [lastN_left] at hV
    exact ⟨rfl, rv', h.turn1 hV hN hK, hN, hK.mono (fun _ _ e => e.elim (fun e => .inl e) (fun e => .inr ⟨rfl, e⟩))⟩
  | true =>
    have h : PairX w W wb lb vb qb s B := h
    refine (put_gone wb _ W h.gone.isD).mono ?_
    rintro e W' ⟨rfl, rfl⟩
    exact ⟨rfl, rv, h, Near.refl _ _, Keep.refl _ _⟩
/-- .. and the document's. -/
theorem Both.put2 {w W : World} {wb lb vb qb s B : Nat} {d : Bool} {rv bv : Value} {L : List Nat} {bs : List Nat} (h : Both w W wb lb vb qb s B d rv bv (L ++ bs) L) {a : Option Addr} {cap gb off : Nat} (hb : Bytes W a cap gb off bs) (hl : L.length + bs.length ≤ 1099511627776) :
    Calls Try.prog 15 #[.pointer (some ⟨vb, 0, none⟩), .slice a bs.length cap] W fun e W' => e = .returned (.tuple #[]) ∧ ∃ bv', Both w W' wb lb vb qb s B d rv bv' (L ++ bs) (L ++ bs) := by
  cases d with
  | false =>
    have h : Pair w W wb lb vb qb s B rv bv (L ++ bs) L := h
    refine (putV_any vb qb s bv L a cap gb off bs W h.isV hb hl).mono ?_
    rintro e W' ⟨rfl, bv', hV, hN, hK⟩
    exact ⟨rfl, bv', h.turn2 hV hN hK⟩
  | true =>
    have h : PairX w W wb lb vb qb s B := h
    refine (putV_gone vb qb s _ W h.isX).mono ?_
    rintro e W' ⟨rfl, rfl⟩
    exact ⟨rfl, bv, h⟩
/-- At. -/
theorem Both.at_ {w W : World} {wb lb vb qb s B : Nat} {d : Bool} {rv bv : Value} {L : List Nat} (h : Both w W wb lb vb qb s B d rv bv L L) (back : Int) (hl : L.length < 2 ^ 48) :
    ∃ (x : Nat) (ok : Bool), Hid (Calls Try.prog 18 #[.pointer (some ⟨wb, 0, none⟩), .int .i64 back] W fun e W' => e = .returned (.tuple #[.int .u8 (x : Int), .bool ok]) ∧ ∃ n, W' = W.drewN n) ∧
      Hid (∀ n, Calls Try.prog 19 #[.pointer (some ⟨vb, 0, none⟩), .int .i64 back] (W.drewN n) fun e W' => e = .returned (.tuple #[.int .u8 (x : Int), .bool ok]) ∧ ∃ m, W' = (W.drewN n).drewN m) := by
  cases d with
  | false =>
    have h : Pair w W wb lb vb qb s B rv bv L L := h
    have hlen := h.live.isW.len
    have hll := lastN_length s L
    by_cases hb : 1 ≤ back ∧ back ≤ ((lastN s L).length : Int)
    · obtain ⟨k, rfl⟩ : ∃ k : Nat, back = (k : Int) := ⟨back.toNat, by omega⟩
      have e := lastN_at s L k (by omega) (by omega) 0
      refine ⟨_, true, at_ok wb lb s rv (lastN s L) k W h.live.isW (by omega) (by omega), fun n => ?_⟩
      rw [Nat.add_zero, Nat.add_zero] at e
      rw [e]
      exact atV_ok vb qb s bv L k (W.drewN n) (h.isV.keep (keep_drewN W n) (fun h => h) (fun _ _ h => h)) (by omega) (by omega) (by omega) hlen.2.2 hl
    · obtain ⟨a, cap, hc⟩ := h.live.ring_cell
      refine ⟨0, false, ?_, fun n => ?_⟩
      · refine (at_none wb a (lastN s L).length cap back W hc hb).mono ?_
        rintro e W' ⟨rfl, rfl⟩
        exact ⟨rfl, 0, rfl⟩
      · refine (atV_none vb qb s bv L back (W.drewN n) (h.isV.keep (keep_drewN W n) (fun h => h) (fun _ _ h => h)) (by omega)).mono ?_
        rintro e W' ⟨rfl, rfl⟩
        exact ⟨rfl, 0, rfl⟩
  | true =>
    have h : PairX w W wb lb vb qb s B := h
    refine ⟨0, false, ?_, fun n => ?_⟩
    · refine (at_none wb none 0 0 back W (cell_of h.gone.isD 2) (by omega)).mono ?_
      rintro e W' ⟨rfl, rfl⟩
      exact ⟨rfl, 0, rfl⟩
    · refine (atV_gone vb qb s back (W.drewN n) h.isX).mono ?_
      rintro e W' ⟨rfl, rfl⟩
      exact ⟨rfl, 0, rfl⟩
/-- Clear, the program's. -/
theorem Both.clear1 {w W : World} {wb lb vb qb s B : Nat} {d : Bool} {rv bv : Value} {L : List Nat} (h : Both w W wb lb vb qb s B d rv bv L L) :
    Calls Try.prog 20 #[.pointer (some ⟨wb, 0, none⟩)] W fun e W' => e = .returned (.tuple #[]) ∧ ∃ rv', Both w W' wb lb vb qb s B d rv' bv [] L := by
  cases d with
  | false =>
    have h : Pair w W wb lb vb qb s B rv bv L L := h
    refine h.live.clear.mono ?_
    rintro e W' ⟨rfl, rv', hV, hN, hK⟩
    exact ⟨rfl, rv', h.turn1 (by simpa [lastN] using hV) hN hK⟩
  | true =>
    have h : PairX w W wb lb vb qb s B := h
    refine (clear_gone wb W h.gone.isD).mono ?_
    rintro e W' ⟨rfl, hD, hK⟩
    have o := h.gone.isD
    have h' : Both w W wb lb vb qb s B true rv bv [] L := h
    refine ⟨rfl, rv, ⟨hD, h.gone.isL.keep hK (type_ne h.gone.isL.obj o (by decide)), h.gone.keep.trans hK (fun i hi e => by have := h.gone.lo2; omega), h.gone.lo, h.gone.lo2⟩, hK.obj h.isX (type_ne h.isX o (by decide)), h.isQ.keep hK (type_ne h.isQ.obj o (by decide)), h.vlo, h.qlo⟩
theorem Both.clear2 {w W : World} {wb lb vb qb s B : Nat} {d : Bool} {rv bv : Value} {L : List Nat} (h : Both w W wb lb vb qb s B d rv bv [] L) :
    Calls Try.prog 21 #[.pointer (some ⟨vb, 0, none⟩)] W fun e W' => e = .returned (.tuple #[]) ∧ Both w W' wb lb vb qb s B d rv (.slice none 0 0) [] [] := by
  cases d with
  | false =>
    have h : Pair w W wb lb vb qb s B rv bv [] L := h
    refine (clearV_any vb qb s bv L W h.isV).mono ?_
    rintro e W' ⟨rfl, hV, hK⟩
    obtain ⟨cs, ow⟩ := h.live.isW.obj
    refine ⟨rfl, ⟨h.live.kept hK (type_ne ow h.isV.obj (by decide)) (type_ne h.live.isL.obj h.isV.obj (by decide)) (fun g hg e => h.live.isW.ring_ne h.isV.obj (by decide) (by rw [hg, e])) (fun i hi e => by have := h.vlo; omega), hV, h.isQ.keep hK (type_ne h.isQ.obj h.isV.obj (by decide)), h.vlo, h.qlo, (fun g hg => by cases hg), (fun g hg e => by cases e)⟩⟩
  | true =>
    have h : PairX w W wb lb vb qb s B := h
    refine (clearV_gone vb qb s W h.isX).mono ?_
    rintro e W' ⟨rfl, hX, hK⟩
    exact ⟨rfl, h.gone.kept hK (type_ne h.gone.isD h.isX (by decide)) (type_ne h.gone.isL.obj h.isX (by decide)) (fun i hi e => by have := h.vlo; omega), hX, h.isQ.keep hK (type_ne h.isQ.obj h.isX (by decide)), h.vlo, h.qlo⟩
/-- Drop, both. -/
theorem Both.drop {w W : World} {wb lb vb qb s B : Nat} {d : Bool} {rv bv : Value} {L : List Nat} (h : Both w W wb lb vb qb s B d rv bv L L) :
    Calls Try.prog 22 #[.pointer (some ⟨wb, 0, none⟩)] W fun e W1 => e = .returned (.tuple #[]) ∧
      Hid (Calls Try.prog 23 #[.pointer (some ⟨vb, 0, none⟩)] W1 fun e W2 => e = .returned (.tuple #[]) ∧ Both w W2 wb lb vb qb s B true rv bv L L) := by
  cases d with
  | false =>
    have h : Pair w W wb lb vb qb s B rv bv L L := h
    obtain ⟨cs, ow⟩ := h.live.isW.obj
    refine (h.live.drop (Nat.le_refl _)).mono ?_
    rintro e W1 ⟨rfl, hG, hK⟩
    rw [Nat.sub_self] at hG
    refine ⟨rfl, ?_⟩
    have hV1 : IsV W1 vb qb s bv L := h.isV.keep hK (fun e => e.elim (type_ne h.isV.obj ow (by decide)) (type_ne h.isV.obj h.live.isL.obj (by decide))) (fun g hg e => e.elim (fun e => owns_ne h.isV.own ow (by decide) (by rw [hg, e])) (fun e => owns_ne h.isV.own h.live.isL.obj (by decide) (by rw [hg, e])))
    have hQ1 := h.isQ.keep hK (fun e => e.elim (type_ne h.isQ.obj ow (by decide)) (type_ne h.isQ.obj h.live.isL.obj (by decide)))
    refine (dropV_any vb qb s B s s bv L W1 hV1 hQ1 (Nat.le_refl _)).mono ?_
    rintro e W2 ⟨rfl, hX, hQ, hK2⟩
    rw [Nat.sub_self] at hQ
    refine ⟨rfl, hG.kept hK2 (fun e => e.elim (type_ne hG.isD hV1.obj (by decide)) (type_ne hG.isD hQ1.obj (by decide))) (fun e => e.elim (type_ne hG.isL.obj hV1.obj (by decide)) (type_ne hG.isL.obj hQ1.obj (by decide))) ?_, hX, hQ, h.vlo, h.qlo⟩
    rintro i hi (e | e)
    · have := h.vlo; omega
    · have := h.qlo; omega
  | true =>
    have h : PairX w W wb lb vb qb s B := h
    refine (drop_gone wb W h.gone.isD).mono ?_
    rintro e W1 ⟨rfl, rfl⟩
    refine ⟨rfl, ?_⟩
    refine (dropV_gone vb qb s W1 h.isX).mono ?_
    rintro e W2 ⟨rfl, hX, hK⟩
    exact ⟨rfl, h.gone.kept hK (type_ne h.gone.isD h.isX (by decide)) (type_ne h.gone.isL.obj h.isX (by decide)) (fun i hi e => by have := h.vlo; omega), hX, h.isQ.keep hK (type_ne h.isQ.obj h.isX (by decide)), h.vlo, h.qlo⟩
/-- Copy that is refused, by both alike. -/
theorem Both.copyBad {w W : World} {wb lb vb qb s B : Nat} {d : Bool} {rv bv : Value} {L : List Nat} (h : Both w W wb lb vb qb s B d rv bv L L) (back n : Int) (hbad : ¬ (d = false ∧ 0 ≤ n ∧ n ≤ 16777216 ∧ 1 ≤ back ∧ back ≤ (s : Int) ∧ back ≤ (L.length : Int))) :
    ∃ E : Int, Hid (Calls Try.prog 16 #[.pointer (some ⟨wb, 0, none⟩), .int .i64 back, .int .i64 n] W fun e W' => e = .returned (.tuple #[.slice none 0 0, .int .i64 E]) ∧ W' = W) ∧
      Hid (Calls Try.prog 17 #[.pointer (some ⟨vb, 0, none⟩), .int .i64 back, .int .i64 n] W fun e W' => e = .returned (.tuple #[.slice none 0 0, .int .i64 E]) ∧ W' = W) := by
  cases d with
  | false =>
    have h : Pair w W wb lb vb qb s B rv bv L L := h
    have hll := lastN_length s L
    by_cases hn : n < 0 ∨ 16777216 < n
    · exact ⟨2, copy_arg wb lb s rv _ back n W h.live.isW hn, copyV_arg vb qb s bv L back n W h.isV hn⟩
    · have hb : ¬ (1 ≤ back ∧ back ≤ (s : Int) ∧ back ≤ (L.length : Int)) := fun e => hbad ⟨rfl, by omega, by omega, e.1, e.2.1, e.2.2⟩
      exact ⟨11, copy_far wb lb s rv _ back n W h.live.isW (by omega) (by omega) (by omega), copyV_far vb qb s bv L back n W h.isV (by omega) (by omega) hb⟩
  | true =>
    have h : PairX w W wb lb vb qb s B := h
    exact ⟨5, copy_gone wb back n W h.gone.isD, copyV_gone vb qb s back n W h.isX⟩
/-- Copy, by both alike. -/
theorem Both.copy {w W : World} {wb lb vb qb s B : Nat} {rv bv : Value} {L : List Nat} (h : Both w W wb lb vb qb s B false rv bv L L) (back n : Nat) (h1 : 1 ≤ back) (h2 : back ≤ s) (h3 : back ≤ L.length) (hn : n ≤ 16777216) (hl : L.length ≤ 549755813888) :
    Calls Try.prog 16 #[.pointer (some ⟨wb, 0, none⟩), .int .i64 (back : Int), .int .i64 (n : Int)] W fun e W1 => e = .returned (.tuple #[.slice (some ⟨W.heap.size, 0, none⟩) n n, .int .i64 0]) ∧ Keep (fun k => k = wb ∨ rv.ownBlock = some k) W W1 ∧
      Hid (Calls Try.prog 17 #[.pointer (some ⟨vb, 0, none⟩), .int .i64 (back : Int), .int .i64 (n : Int)] W1 fun e W2 => ∃ a cap gb off rv' bv', e = .returned (.tuple #[.slice a n cap, .int .i64 0]) ∧ Bytes W2 a cap gb off (outL L back n) ∧
        W2.heap[W.heap.size]? = some (.cells (u8s (outL L back n)).toArray 5 (0, 0)) ∧ Both w W2 wb lb vb qb s B false rv' bv' (L ++ outL L back n) (L ++ outL L back n) ∧ rv'.ownBlock ≠ some W.heap.size ∧ bv'.ownBlock ≠ some W.heap.size) := by
  have h : Pair w W wb lb vb qb s B rv bv L L := h
  have hlen := h.live.isW.len
  have hll := lastN_length s L
  have hout := outL_last s L back n h1 (by omega)
  refine (h.live.copy back n h1 (by omega) hn).mono ?_
  rintro e W1 ⟨rfl, hz, rv', hV, hN, hne, hK⟩
  rw [hout] at hz
  rw [hout, lastN_left] at hV
  have hP1 := h.turn1 hV hN hK
  refine ⟨rfl, hK, ?_⟩
  refine (copyV_ok vb qb s bv L back n W1 hP1.isV h1 h2 h3 hlen.2.2 hn hl).mono ?_
  rintro e W2 ⟨a, cap, gb, off, bv', rfl, hB, hD⟩
  have hbne : bv.ownBlock ≠ some W.heap.size := fun e => absurd (h.isV.ring_lt e) (Nat.lt_irrefl _)
  refine ⟨a, cap, gb, off, rv', bv', rfl, hB, ?_, hP1.turn2 hD.isV hD.near hD.keep, hne, ?_⟩
  · exact hD.keep.obj hz (fun e => e.elim (type_ne hz hP1.isV.obj (by decide)) hbne)
  · rcases hD.near with e | ⟨k, e, hk⟩
    · rw [e]; exact hbne
    · rw [e]
      intro q
      have : k = W.heap.size := by simpa using q
      have := obj_lt hz
      omega

end Go.Proofs.Ytpjbegafhgnebaa
