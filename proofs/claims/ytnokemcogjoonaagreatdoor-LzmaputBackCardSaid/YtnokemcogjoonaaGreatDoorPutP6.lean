/-
  Room in a window's ring; bytes that fill it.
  Bytes that go into a ring which is not yet round.
  Bytes that are put into a window.
  The last bytes of a window, copied out.
  A window that is made, emptied, dropped.
  Bytes that are copied out of a window, and put.
-/
import Derived.BigRegion
import Derived.Deep.RegionLaw
import Derived.Test.YtnokemcogjoonaaGreatDoorPutP5
namespace Go.Proofs.YtnokemcogjoonaaGreatDoor
open Go.RowKit Go.Shelf
set_option linter.unusedVariables false

/-- The ring's block: the old one, or one that is new since w. -/
def Near (w : World) (v v' : Value) : Prop := v'.ownBlock = v.ownBlock ∨ ∃ k, v'.ownBlock = some k ∧ w.heap.size ≤ k
theorem Near.refl (w : World) (v : Value) : Near w v v := .inl rfl
theorem Near.trans {w w1 : World} {v v1 v2 : Value} (h1 : Near w v v1) (h2 : Near w1 v1 v2) (hs : w.heap.size ≤ w1.heap.size) : Near w v v2 := by
  rcases h2 with e | ⟨k, e, hk⟩
  · rcases h1 with e1 | ⟨k, e1, hk⟩
    · exact .inl (e.trans e1)
    · exact .inr ⟨k, e.trans e1, hk⟩
  · exact .inr ⟨k, e, by omega⟩

section
attribute [local go_sem] maxSem6_eq minSem6_eq
set_option maxHeartbeats 2000000 in
theorem grow_any (wb lb s o : Nat) (rv : Value) (R : List Nat) (n : Nat) (w : World) (h : IsR w wb lb s rv R o) (h1 : R.length ≤ n) (h2 : n ≤ s) :
    Calls Tryz.prog 86 #[.pointer (some ⟨wb, 0, none⟩), .int .i64 (n : Int)] w fun e w' => e = .returned (.tuple #[]) ∧ ∃ rv', IsR w' wb lb s rv' R o ∧ Near w rv rv' ∧ Keep (fun k => k = wb) w w' := by
  obtain ⟨a, cap, g, rfl, hB, hrow⟩ := h.form
  have c0 : w.cell? ⟨wb, 0, none⟩ = some (.int .i64 (s : Int)) := cell_of h.obj 0
  have c2 : w.cell? ⟨wb, 2, none⟩ = some (.slice a R.length cap) := cell_of h.obj 2
  by_cases hn : n ≤ cap
  · have hI : (n : Int) ≤ (cap : Int) := by omega
    go_enter Tryz.func86, Tryz.ntmps86
    go_wp2_with fail
    (try simp only [Exit.inBlock, Exit.then]); refine bodyPost_ret (results_none rfl _ _ _) rfl ?_
    exact ⟨rfl, _, h, Near.refl _ _, Keep.refl _ _⟩
  · have hI : ¬ (n : Int) ≤ (cap : Int) := by omega
    have hs2 := h.s2
    have hle := h.le
    obtain ⟨C2, hC2⟩ : ∃ C2 : Nat, C2 = 2 * cap := ⟨_, rfl⟩
    have hwr : IntKind.i64.wrap (2 * (cap : Int)) = (C2 : Int) := by rw [IntKind.wrap_i64]; omega
    obtain ⟨X, hX⟩ : ∃ X : Nat, X = max n C2 := ⟨_, rfl⟩
    obtain ⟨c, hc⟩ : ∃ c : Nat, c = min X s := ⟨_, rfl⟩
    have hlc : R.length ≤ c := by omega
    have hcs : c ≤ 16777216 := by omega
    have hmax := maxSem6_run #[3, 3] 3 (n : Int) (C2 : Int) (X : Int) (by omega)
    have hmin := minSem6_run #[3, 3] 3 (X : Int) (s : Int) (c : Int) (by omega)
    have hmk := run_make_u8 R.length c hlc (by omega)
    have hne : wb < w.heap.size := obj_lt h.obj
    have hcap2 : 2 * (cap : Int) < 9223372036854775808 := by omega
    have HH := (show Hid (IsR w wb lb s (.slice a R.length cap) R o ∧ Bytes w a cap g 0 R) from ⟨h, hB⟩)
    clear hB hrow h hX hc hC2 hcap2
    go_enter Tryz.func86, Tryz.ntmps86
    go_wp2_with fail
    go_region_held3 (fun w' => w'.cell? ⟨wb, 0, none⟩ = some (.int .i64 (s : Int)) ∧ w'.cell? ⟨wb, 2, none⟩ = some (.slice a R.length cap)) (go_keep) ((fail))
    obtain ⟨W1, hW1⟩ : ∃ W1, W1 = (w.alloc (.cells (u8s (List.replicate c 0)).toArray 5)).drew := ⟨_, rfl⟩
    rw [← hW1]
    have k1 : Keep noBlock w W1 := by rw [hW1]; exact ((Keep.refl noBlock w).alloc _).drew
    have r1 : W1.heap[w.heap.size]? = some (.cells (u8s (List.replicate c 0)).toArray 5 (0, 0)) := by rw [hW1]; exact alloc_new w _
    clear hW1 hmk
    have hcopy := run_copy_any W1 3 w.heap.size 0 R.length c (some ⟨w.heap.size, 0, none⟩) (.slice a R.length cap) R (u8s (List.replicate c 0)).toArray R.length (HH.out.2.keep k1 (fun _ h => h)).src (by omega) (.inl rfl) r1 (by simp [u8s]; omega)
    have k2 := keep_setRow k1 w.heap.size (fun h => absurd h (Nat.lt_irrefl _)) ((u8s (List.replicate c 0)).toArray.toList.take 0 ++ u8s (R.take R.length) ++ (u8s (List.replicate c 0)).toArray.toList.drop (0 + R.length)).toArray
    have r2 := setRow_heap W1 w.heap.size (u8s (List.replicate c 0)).toArray ((u8s (List.replicate c 0)).toArray.toList.take 0 ++ u8s (R.take R.length) ++ (u8s (List.replicate c 0)).toArray.toList.drop (0 + R.length)).toArray 5 (0, 0) r1
    have er : ((u8s (List.replicate c 0)).toArray.toList.take 0 ++ u8s (R.take R.length) ++ (u8s (List.replicate c 0)).toArray.toList.drop (0 + R.length)).toArray = (u8s (R ++ List.replicate (c - R.length) 0)).toArray := by simp [u8s]
    rw [er] at hcopy k2 r2
    clear er
    generalize W1.setRow w.heap.size (u8s (R ++ List.replicate (c - R.length) 0)).toArray = W2 at hcopy k2 r2
    have o2 := k2.obj HH.out.1.obj (fun h => h)
    have g2 : W1.cell? ⟨wb, 2, none⟩ = some (.slice a R.length cap) := cell_of (k1.obj HH.out.1.obj (fun h => h)) 2
    have d2 : W2.cell? ⟨wb, 2, none⟩ = some (.slice a R.length cap) := cell_of o2 2
    have f2 := frozen_of o2 2
    have HF := (show Hid (Keep noBlock w W2 ∧ W2.heap[w.heap.size]? = some (.cells (u8s (R ++ List.replicate (c - R.length) 0)).toArray 5 (0, 0)) ∧ W2.heap[wb]? = some (.cells #[.int .i64 (s : Int), .pointer (some ⟨lb, 0, none⟩), .slice a R.length cap, .int .i64 (o : Int)] 114 (0, 0))) from ⟨k2, r2, o2⟩)
    clear k1 r1 k2 r2 o2 c0 c2
    go_wp2_with fail
    go_end0
    obtain ⟨k2, r2, o2⟩ := HF.out
    have h := HH.out.1
    refine ⟨rfl, .slice (some ⟨w.heap.size, 0, none⟩) R.length c, ⟨(set_obj o2 2 _).trans (by simp), ?_, h.lt, h.s1, h.s2, h.le, h.o_, h.rd⟩, .inr ⟨_, rfl, Nat.le_refl _⟩, (k2.mono (T := fun k => k = wb) (fun _ _ h => h.elim)).setCell (p := ⟨wb, 2, none⟩) (fun _ => rfl) _⟩
    exact owns_mk (set_far r2 (by omega) 2 _) hlc (by unfold maxLen; omega) (by simp [u8s]; omega) (by simp [u8s])
end
end Go.Proofs.YtnokemcogjoonaaGreatDoor

namespace Go.Proofs.YtnokemcogjoonaaGreatDoor
open Go.RowKit Go.Shelf
set_option linter.unusedVariables false


section
attribute [local go_sem] maxSem6_eq minSem6_eq
attribute [local go_sem] sliceSem_eq
set_option maxHeartbeats 2000000 in
theorem fill_any (wb lb s o : Nat) (rv : Value) (R : List Nat) (a : Option Addr) (cap gb off : Nat) (bs : List Nat) (t : Nat) (w : World) (h : IsR w wb lb s rv R o) (hb : Bytes w a cap gb off bs)
    (hne : bs ≠ [] → gb ≠ wb) (ht : t = min bs.length (s - R.length)) :
    Calls Tryz.prog 57 #[.pointer (some ⟨wb, 0, none⟩), .slice a bs.length cap] w fun e w' => e = .returned (.int .i64 (t : Int)) ∧ ∃ rv', IsR w' wb lb s rv' (R ++ bs.take t) o ∧ Near w rv rv' ∧ Keep (fun k => k = wb ∨ rv.ownBlock = some k) w w' := by
  obtain ⟨ra, rcap, rg, hrv, -, -⟩ := h.form
  have c0 : w.cell? ⟨wb, 0, none⟩ = some (.int .i64 (s : Int)) := cell_of h.obj 0
  have c2 : w.cell? ⟨wb, 2, none⟩ = some (.slice ra R.length rcap) := by rw [← hrv]; exact cell_of h.obj 2
  have hle := h.le
  have hs2 := h.s2
  have hcap := hb.cap
  have hlen := hb.len
  obtain ⟨d, hd⟩ : ∃ d : Nat, d = s - R.length := ⟨_, rfl⟩
  have hsub : (s : Int) - (R.length : Int) = (d : Int) := by omega
  have hwd : IntKind.i64.wrap (d : Int) = (d : Int) := by rw [IntKind.wrap_i64]; omega
  have hmin := minSem6_run #[3, 3] 3 (bs.length : Int) (d : Int) (t : Int) (by omega)
  have htl : t ≤ bs.length := by omega
  obtain ⟨n, hn⟩ : ∃ n : Nat, n = R.length + t := ⟨_, rfl⟩
  have hadd : (R.length : Int) + (t : Int) = (n : Int) := by omega
  obtain ⟨hsl, hbt⟩ := hb.take t htl
  have hlt : (bs.take t).length = t := by rw [List.length_take]; omega
  rw [hlt] at hsl
  have HH := (show Hid (IsR w wb lb s rv R o ∧ Bytes w a cap gb off (bs.take t) ∧ (bs.take t ≠ [] → gb ≠ wb)) from ⟨h, hbt, fun e => hne (by rintro rfl; simp at e)⟩)
  have hnt : n ≤ s := by omega
  have hrd : o = 0 ∨ (R ++ bs.take t).length = s := by
    rw [List.length_append, hlt]
    rcases h.rd with e | e
    · exact .inl e
    · right; omega
  have HRD := (show Hid (o = 0 ∨ (R ++ bs.take t).length = s) from hrd)
  have hnR : R.length ≤ n := by omega
  generalize hL : bs.length = L at *
  clear h hb hbt hrd ht hd hn
  go_enter Tryz.func57, Tryz.ntmps57
  go_wp2_with fail
  go_region_held3 (fun w' => w'.cell? ⟨wb, 0, none⟩ = some (.int .i64 (s : Int)) ∧ w'.cell? ⟨wb, 2, none⟩ = some (.slice ra R.length rcap)) (go_keep) ((fail))
  go_wp2_with fail
  have k0 : Keep noBlock w w.drew := (Keep.refl _ w).drew
  have hg := grow_any wb lb s o rv R n w.drew (HH.out.1.keep k0 (fun h => h) (fun _ _ h => h)) hnR hnt
  refine hg.mono ?_
  clear hg c0 c2
  rintro e W2 ⟨rfl, rv2, h2, n2, k2⟩
  have kw : Keep (fun k => k = wb) w W2.drew := ((k0.mono (fun _ _ h => h.elim)).trans' k2).drew
  have hbt2 := HH.out.2.1.keep kw HH.out.2.2
  have h2' : IsR W2.drew wb lb s rv2 R o := h2.keep (S := noBlock) (Keep.refl _ W2).drew (fun h => h) (fun _ _ h => h)
  obtain ⟨ra2, rcap2, rg2, hrv2, -, -⟩ := h2.form
  have c2 : W2.cell? ⟨wb, 2, none⟩ = some (.slice ra2 R.length rcap2) := by rw [← hrv2]; exact cell_of h2.obj 2
  obtain ⟨v3, W3, hr3, own3, k3, n3⟩ := run_append_all W2.drew 22 rv2 R (bs.take t) h2'.own (by rw [hlt]; omega) (.slice a t cap) (by have := hbt2.src; rwa [hlt] at this)
  have hw3 : rv2.ownBlock ≠ some wb := owns_ne h2'.own h2'.obj (by decide)
  have o3 := k3.obj h2'.obj hw3
  have c3 : W3.cell? ⟨wb, 2, none⟩ = some (.slice ra2 R.length rcap2) := by rw [← hrv2]; exact cell_of o3 2
  have f3 := frozen_of o3 2
  have hw4 : v3.ownBlock ≠ some wb := owns_ne own3 o3 (by decide)
  have own4 : (W3.setCell ⟨wb, 2, none⟩ v3).ownsRow 0 5 1 v3 (R ++ bs.take t).length (u8s (R ++ bs.take t)) := owns_kept own3 ((Keep.refl (fun k => k = wb) W3).setCell (p := ⟨wb, 2, none⟩) (fun _ => rfl) _) (fun g hg e => hw4 (by rw [hg, e]))
  have k4 : Keep (fun k => k = wb ∨ rv.ownBlock = some k) w (W3.setCell ⟨wb, 2, none⟩ v3) := by
    refine (Keep.trans (kw.mono (fun _ _ e => .inl e)) k3 (fun i hi e => ?_)).setCell (p := ⟨wb, 2, none⟩) (fun _ => .inl rfl) _
    rcases n2 with q | ⟨k, q, hk⟩
    · exact .inr (q ▸ e)
    · rw [q] at e
      have : k = i := by simpa using e
      have : w.heap.size ≤ k := hk
      omega
  have n4 : Near w rv v3 := (show Near w rv rv2 from n2).trans (w1 := W2.drew) n3 kw.size
  have HF := (show Hid (IsR (W3.setCell ⟨wb, 2, none⟩ v3) wb lb s v3 (R ++ bs.take t) o ∧ Near w rv v3 ∧ Keep (fun k => k = wb ∨ rv.ownBlock = some k) w (W3.setCell ⟨wb, 2, none⟩ v3)) from
    ⟨⟨(set_obj o3 2 _).trans (by simp), own4, lt_app h2.lt hbt2.lt, h2.s1, h2.s2, by rw [List.length_append, hlt]; omega, h2.o_, HRD.out⟩, n4, k4⟩)
  obtain ⟨va, vn, vc, rfl⟩ : ∃ va vn vc, v3 = .slice va vn vc := by
    rcases own3.2 with ⟨e, _⟩ | ⟨g, c', cur, e, _⟩
    · exact ⟨_, _, _, e⟩
    · exact ⟨_, _, _, e⟩
  rw [hrv2] at hr3
  clear own3 own4 k3 n3 k4 n4 hw3 hw4 o3 h2' h2 n2 k2 k0 kw hbt2
  go_wp2_with fail
  go_region_law (refine step_append_run _ (by rfl) _ _ 22 (by rfl) (.slice ra2 R.length rcap2) (.slice a t cap) (.slice va vn vc) W3 (by rfl) (by rfl) hr3 ?_)
  go_wp2_with fail
  go_ret
  exact ⟨rfl, _, HF.out⟩
end
end Go.Proofs.YtnokemcogjoonaaGreatDoor

namespace Go.Proofs.YtnokemcogjoonaaGreatDoor
open Go.RowKit Go.Shelf
set_option linter.unusedVariables false

def lenV : Value → Nat
  | .slice _ n _ => n
  | _ => 0
theorem row_over {L : List Value} {R Y : List Nat} {o t : Nat} (hl : L.take R.length = u8s R) (ho : o + t ≤ R.length) (hY : Y.length = t) : (L.take o ++ u8s Y ++ L.drop (o + t)).take R.length = u8s (over R o Y) := by
  have e : L = u8s R ++ L.drop R.length := by rw [← hl, List.take_append_drop]
  have e1 : L.take o = u8s (R.take o) := by
    rw [e, List.take_append_of_le_length (by rw [u8s_length]; omega), u8s_take]
  have e2 : L.drop (o + t) = u8s (R.drop (o + t)) ++ L.drop R.length := by
    conv => lhs; rw [e]
    rw [List.drop_append_of_le_length (by rw [u8s_length]; exact ho), u8s_drop]
  rw [e1, e2, ← List.append_assoc, ← u8s_app, ← u8s_app]
  have hl2 : (u8s (R.take o ++ Y ++ R.drop (o + t))).length = R.length := by
    rw [u8s_length, List.length_append, List.length_append, List.length_take, List.length_drop]; omega
  rw [List.take_left' hl2]
  unfold over
  rw [hY]
theorem size_over {L : Array Value} {Y : List Nat} {o t : Nat} (ho : o + t ≤ L.size) (hY : Y.length = t) : (L.toList.take o ++ u8s Y ++ L.toList.drop (o + t)).toArray.size = L.size := by
  simp [u8s_length, hY]; omega

/-- What goes round and round in Put: s bytes in the ring, bs' still to come. -/
structure Puts (w W : World) (wb lb s : Nat) (rv : Value) (gb : Nat) (G : List Nat) (a' : Option Addr) (c : Nat) (bs' : List Nat) : Prop where
  ex : ∃ rv' R' o', IsR W wb lb s rv' R' o' ∧ Near w rv rv' ∧ lastN s (unr R' o' ++ bs') = G ∧ (bs' ≠ [] → R'.length = s)
  bytes : ∃ off', Bytes W a' c gb off' bs'
  keep : Keep (fun k => k = wb ∨ rv.ownBlock = some k) w W
  ne : bs' ≠ [] → gb ≠ wb ∧ rv.ownBlock ≠ some gb ∧ gb < w.heap.size

section
attribute [local go_sem] maxSem6_eq minSem6_eq
attribute [local go_sem] sliceSem_eq
set_option maxRecDepth 100000 in
set_option maxHeartbeats 4000000 in
theorem put_any (wb lb s : Nat) (rv : Value) (M : List Nat) (a : Option Addr) (cap gb off : Nat) (bs : List Nat) (w : World) (h : IsW w wb lb s rv M) (hb : Bytes w a cap gb off bs) (hne : bs ≠ [] → gb ≠ wb ∧ rv.ownBlock ≠ some gb) :
    Calls Tryz.prog 31 #[.pointer (some ⟨wb, 0, none⟩), .slice a bs.length cap] w fun e w' => e = .returned (.tuple #[]) ∧ ∃ rv', IsW w' wb lb s rv' (lastN s (M ++ bs)) ∧ Near w rv rv' ∧ Keep (fun k => k = wb ∨ rv.ownBlock = some k) w w' := by
  obtain ⟨R, o, h, rfl⟩ := h
  have c0 : w.cell? ⟨wb, 0, none⟩ = some (.int .i64 (s : Int)) := cell_of h.obj 0
  have hs1 := h.s1
  have hs2 := h.s2
  have hlen := hb.len
  have hs0 : ¬ (s : Int) = 0 := by omega
  have hs0b : ((s : Int) == 0) = false := by simpa using hs0
  obtain ⟨k, hk⟩ : ∃ k : Nat, k = bs.length - s := ⟨_, rfl⟩
  obtain ⟨D, hD⟩ : ∃ D : Int, D = (bs.length : Int) - (s : Int) := ⟨_, rfl⟩
  have hmax := maxSem6_run #[3, 3] 3 0 D (k : Int) (by omega)
  have hsub : (bs.length : Int) - (s : Int) = D := hD.symm
  have hwD : IntKind.i64.wrap D = D := by rw [IntKind.wrap_i64]; omega
  obtain ⟨a1, off1, hsl1, hb1, -⟩ := hb.drop k (by omega)
  have e1 : bs.drop k = lastN s bs := by unfold lastN; rw [hk]
  rw [e1] at hsl1 hb1
  have hne1 : lastN s bs ≠ [] → gb ≠ wb ∧ rv.ownBlock ≠ some gb ∧ gb < w.heap.size := fun e =>
    have hb0 : bs ≠ [] := by rintro rfl; exact e (by simp [lastN])
    ⟨(hne hb0).1, (hne hb0).2, hb.block hb0⟩
  have hG : lastN s (unr R o ++ lastN s bs) = lastN s (unr R o ++ bs) := lastN_right s _ _
  rw [← hG]
  generalize lastN s bs = b1 at hsl1 hb1 hne1 ⊢
  generalize cap - k = cap1 at hsl1 hb1
  obtain ⟨t, ht⟩ : ∃ t : Nat, t = min b1.length (s - R.length) := ⟨_, rfl⟩
  have HFill := fill_any wb lb s o rv R a1 cap1 gb off1 b1 t w h hb1 (fun e => (hne1 e).1) ht
  obtain ⟨a2, off2, hsl2, hb2, -⟩ := hb1.drop t (by omega)
  obtain ⟨G, hGe⟩ : ∃ G, G = lastN s (unr R o ++ b1) := ⟨_, rfl⟩
  rw [← hGe]
  have HPost : Hid (∀ w1 rv1, IsR w1 wb lb s rv1 (R ++ b1.take t) o → Near w rv rv1 → Keep (fun k => k = wb ∨ rv.ownBlock = some k) w w1 → Puts w w1 wb lb s rv gb G a2 (cap1 - t) (b1.drop t)) := by
    intro w1 rv1 hI hN hK
    refine ⟨⟨rv1, R ++ b1.take t, o, hI, hN, ?_, fun e => ?_⟩, ⟨off2, hb2.keep hK (fun e => ?_)⟩, hK, fun e => hne1 (by rintro rfl; simp at e)⟩
    · rw [hGe]
      rcases h.rd with e | e
      · subst e; rw [unr_zero, unr_zero, List.append_assoc, List.take_append_drop]
      · have : t = 0 := by omega
        subst this; simp
    · have : 0 < (b1.drop t).length := List.length_pos_iff.2 e
      rw [List.length_drop] at this
      have hle := h.le
      rw [List.length_append, List.length_take]; omega
    · have := hne1 (by rintro rfl; simp at e)
      exact fun q => q.elim this.1 this.2.1
  clear hb hb1 hb2 hne hne1 hG hGe e1 ht hk hD h
  generalize b1.length = L1 at hsl1 hsl2 HFill
  generalize b1.drop t = b2 at hsl2 HPost
  generalize cap1 - t = cap2 at hsl2 HPost
  generalize bs.length = L at *
  go_enter Tryz.func31, Tryz.ntmps31
  go_wp2_with fail
  refine HFill.mono ?_
  clear HFill
  rintro e w1 ⟨rfl, rv1, hI1, hN1, hK1⟩
  have HP := (show Hid (Puts w w1 wb lb s rv gb G a2 cap2 b2) from HPost.out w1 rv1 hI1 hN1 hK1)
  clear hI1 hN1 hK1 HPost c0
  go_wp2_with fail
  go_loopw [1] (fun v wr => ∃ (a' : Option Addr) (c : Nat) (bs' : List Nat), v = .slice a' bs'.length c ∧ Hid (Puts w wr wb lb s rv gb G a' c bs')) (fun v _ => lenV v)
  case atStart => exact ⟨a2, cap2, b2, rfl, HP.out⟩
  case round =>
    clear HP hsl1 hsl2 hmax
    obtain ⟨a', c, bs', rfl, HP⟩ := hrel
    by_cases hr : 0 < bs'.length
    · have hbne : bs' ≠ [] := List.length_pos_iff.1 hr
      obtain ⟨⟨rv', R', o', hI, hN, hG, hfull⟩, ⟨off', hB⟩, hK, hne⟩ := HP.out
      have hRs := hfull hbne
      obtain ⟨hg1, hg2, hg3⟩ := hne hbne
      obtain ⟨ra, rcap, rg, hrv, hRB, hrow⟩ := hI.form
      have ho := hI.o_
      obtain ⟨hra, cur, hcur, hcsz, hct, hcm⟩ := hrow.resolve_left (by rintro ⟨_, e⟩; rw [e] at hRs; simp at hRs; omega)
      subst hra
      have hrcap : s ≤ rcap := by rw [← hRs]; exact hRB.cap
      obtain ⟨m, hm⟩ : ∃ m : Nat, m = s - o' := ⟨_, rfl⟩
      obtain ⟨t', ht'⟩ : ∃ t' : Nat, t' = min bs'.length m := ⟨_, rfl⟩
      have hsl3 := run_low (some ⟨rg, 0, none⟩) s rcap o' (by omega)
      rw [if_neg (by omega), Option.map_some, add0, ← hm] at hsl3
      generalize rcap - o' = dcap at hsl3
      have kd : Keep noBlock wr wr.drew := (Keep.refl _ wr).drew
      have hcopy := run_copy_any wr.drew 3 rg o' m dcap (some ⟨rg, o', none⟩) (.slice a' bs'.length c) bs' cur t' (hB.keep kd (fun _ h => h)).src ht' (.inl rfl) (kd.obj hcur (fun h => h)) (by omega)
      obtain ⟨cs2, hcs2⟩ : ∃ cs2, cs2 = (cur.toList.take o' ++ u8s (bs'.take t') ++ cur.toList.drop (o' + t')).toArray := ⟨_, rfl⟩
      rw [← hcs2] at hcopy
      have r2 := setRow_heap wr.drew rg cur cs2 5 (0, 0) (kd.obj hcur (fun h => h))
      have k2 : Keep (fun k => k = rg) wr (wr.drew.setRow rg cs2) := keep_setRow (kd.mono (T := fun k => k = rg) (fun _ _ h => h.elim)) rg (fun _ => rfl) cs2
      generalize wr.drew.setRow rg cs2 = W2 at hcopy r2 k2
      have hrw : rg ≠ wb := by
        have := owns_ne hI.own hI.obj (by decide)
        rw [hrv] at this
        exact fun e => this (by rw [e]; rfl)
      have o2 := k2.obj hI.obj (fun e => hrw e.symm)
      obtain ⟨n2, hn2⟩ : ∃ n2 : Nat, n2 = o' + t' := ⟨_, rfl⟩
      have hn2s : n2 ≤ s := by omega
      have hadd : (o' : Int) + (t' : Int) = (n2 : Int) := by omega
      have hwn : IntKind.i64.wrap (n2 : Int) = (n2 : Int) := by rw [IntKind.wrap_i64]; omega
      obtain ⟨a3, off3, hsl4, hB3, -⟩ := hB.drop t' (by omega)
      have hrb : gb ≠ rg := by
        intro e
        rcases hN with q | ⟨q1, q, hq⟩
        · rw [hrv] at q; exact hg2 (by rw [← q, e]; rfl)
        · rw [hrv] at q
          have : rg = q1 := by simpa [Value.ownBlock] using q
          omega
      have c2 : wr.cell? ⟨wb, 2, none⟩ = some (.slice (some ⟨rg, 0, none⟩) s rcap) := by have := cell_of hI.obj 2; rw [hrv] at this; rw [← hRs]; exact this
      have c3 : wr.cell? ⟨wb, 3, none⟩ = some (.int .i64 (o' : Int)) := cell_of hI.obj 3
      have d0 : W2.cell? ⟨wb, 0, none⟩ = some (.int .i64 (s : Int)) := cell_of o2 0
      have d2 : W2.cell? ⟨wb, 2, none⟩ = some (.slice (some ⟨rg, 0, none⟩) s rcap) := by have := cell_of o2 2; rw [hrv] at this; rw [← hRs]; exact this
      have d3 : W2.cell? ⟨wb, 3, none⟩ = some (.int .i64 (o' : Int)) := cell_of o2 3
      have f3 := frozen_of o2 3
      -- what the round leaves
      have HE : Hid (∀ (W3 : World) (o3 : Nat), o3 = (if n2 = s then 0 else n2) → W3.heap[wb]? = some (.cells #[.int .i64 (s : Int), .pointer (some ⟨lb, 0, none⟩), rv', .int .i64 (o3 : Int)] 114 (0, 0)) → Keep (fun k => k = wb) W2 W3 → Puts w W3 wb lb s rv gb G a3 (c - t') (bs'.drop t')) := by
        intro W3 o3 ho3 hobj hk3
        have hY : (bs'.take t').length = t' := by rw [List.length_take]; omega
        have hov := over_length R' o' (bs'.take t') (by omega)
        have hrow3 := hk3.obj r2 hrw
        have hkk : Keep (fun k => k = wb ∨ rv.ownBlock = some k) w W3 := by
          refine (hK.trans k2 (fun i hi e => ?_)).trans hk3 (fun i hi e => .inl e)
          rcases hN with q | ⟨q1, q, hq⟩
          · rw [hrv] at q; exact .inr (by rw [← q, e]; rfl)
          · rw [hrv] at q
            have : rg = q1 := by simpa [Value.ownBlock] using q
            omega
        have eu : unr (over R' o' (bs'.take t')) o3 = lastN s (unr R' o' ++ bs'.take t') := by
          have hu := unr_over R' o' (bs'.take t') (by omega)
          rw [hRs] at hu
          rw [← hu, ho3, hY]
          by_cases e : n2 = s
          · rw [if_pos e, unr_zero, show o' + t' = (over R' o' (bs'.take t')).length by omega, unr_all]
          · rw [if_neg e, hn2]
        refine ⟨⟨rv', over R' o' (bs'.take t'), o3, ⟨hobj, ?_, lt_over hI.lt (lt_take hB.lt _) _, hI.s1, hI.s2, by omega, by rw [ho3]; split <;> omega, .inr (by omega)⟩, hN, ?_, fun _ => by omega⟩, ⟨off3, ?_⟩, hkk, fun e => ⟨hg1, hg2, hg3⟩⟩
        · rw [hrv, ← hov]
          exact owns_mk hrow3 (by omega) hcm (by rw [hcs2, size_over (by omega) hY]; exact hcsz) (by rw [hcs2, hov]; exact row_over hct (by omega) hY)
        · rw [eu, lastN_left, List.append_assoc, List.take_append_drop]; exact hG
        · exact hB3.keep (S := fun k => k = rg ∨ k = wb) ((k2.mono (fun _ _ e => .inl e)).trans hk3 (fun _ _ e => .inr e)) (fun _ q => q.elim hrb hg1)
      have HO := (show Hid (W2.heap[wb]? = some (.cells #[.int .i64 (s : Int), .pointer (some ⟨lb, 0, none⟩), rv', .int .i64 (o' : Int)] 114 (0, 0)) ∧ t' ≤ bs'.length ∧ 0 < t') from ⟨o2, by omega, by omega⟩)
      generalize hL4 : (bs'.drop t').length = L4 at hsl4
      have HL4 := (show Hid ((bs'.drop t').length = L4 ∧ L4 < bs'.length) from ⟨hL4, by rw [List.length_drop] at hL4; omega⟩)
      clear hI hN hG hfull hB hK hne hB3 o2 r2 k2 hcur hcsz hct hcs2 hRs hRB hrv hm ht' hn2 kd hL4 HP hbne hg2 hg3 hrb hcm hrcap
      by_cases hns : n2 = s
      · have hq : ((n2 : Int) == (s : Int)) = true := by simp; omega
        go_wp2_with fail
        go_region_held3 (fun w' => w'.cell? ⟨wb, 2, none⟩ = some (.slice (some ⟨rg, 0, none⟩) s rcap) ∧ w'.cell? ⟨wb, 3, none⟩ = some (.int .i64 (o' : Int))) (go_keep) ((fail))
        go_wp2_with fail
        go_quiet (fail)
        go_wp2_with fail
        go_roundw
        case rel =>
          refine ⟨a3, c - t', bs'.drop t', by rw [HL4.out.1], HE.out _ 0 (by rw [if_pos hns]) ((set_obj (w := (W2.setCell ⟨wb, 3, none⟩ (.int .i64 (s : Int))).drewN nq) (set_obj HO.out.1 3 _) 3 _).trans (by simp)) ?_⟩
          exact (((Keep.refl (fun k => k = wb) W2).setCell (p := ⟨wb, 3, none⟩) (fun _ => rfl) _).trans' (keep_drew' _ nq)).setCell (p := ⟨wb, 3, none⟩) (fun _ => rfl) _
        case measure => show L4 < bs'.length; exact HL4.out.2
      · have hq : ((n2 : Int) == (s : Int)) = false := by simp; omega
        have hq2 : ¬ (n2 : Int) = (s : Int) := by omega
        go_wp2_with fail
        go_region_held3 (fun w' => w'.cell? ⟨wb, 2, none⟩ = some (.slice (some ⟨rg, 0, none⟩) s rcap) ∧ w'.cell? ⟨wb, 3, none⟩ = some (.int .i64 (o' : Int))) (go_keep) ((fail))
        go_wp2_with fail
        go_quiet (fail)
        go_wp2_with fail
        go_roundw
        case rel =>
          refine ⟨a3, c - t', bs'.drop t', by rw [HL4.out.1], HE.out _ n2 (by rw [if_neg hns]) ((set_obj HO.out.1 3 _).trans (by simp)) ?_⟩
          exact ((Keep.refl (fun k => k = wb) W2).setCell (p := ⟨wb, 3, none⟩) (fun _ => rfl) _).trans' (keep_drew' _ nq)
        case measure => show L4 < bs'.length; exact HL4.out.2
    · obtain rfl : bs' = [] := List.length_eq_zero_iff.1 (by omega)
      obtain ⟨⟨rv', R', o', hI, hN, hG, -⟩, -, hK, -⟩ := HP.out
      have hle := hI.le
      rw [List.append_nil, lastN_all s _ (by rw [unr_length]; exact hle)] at hG
      go_wp2
      go_end0
      exact ⟨rfl, rv', ⟨R', o', hI, hG⟩, hN, hK⟩
end
end Go.Proofs.YtnokemcogjoonaaGreatDoor

namespace Go.Proofs.YtnokemcogjoonaaGreatDoor
open Go.RowKit Go.Shelf
set_option linter.unusedVariables false

set_option maxHeartbeats 1000000 in
theorem place_lo (wb o back p : Nat) (w : World) (c3 : w.cell? ⟨wb, 3, none⟩ = some (.int .i64 (o : Int))) (hb : back ≤ o) (hp : p = o - back) (ho : o ≤ 16777216) :
    Calls Tryz.prog 134 #[.pointer (some ⟨wb, 0, none⟩), .int .i64 (back : Int)] w fun e w' => e = .returned (.int .i64 (p : Int)) ∧ w' = w := by
  have hq : (o : Int) - back = (p : Int) := by omega
  have hbI : (back : Int) ≤ (o : Int) := by omega
  clear hp
  go_enter Tryz.func134, Tryz.ntmps134
  go_wp2_with fail
  go_ret
  exact ⟨rfl, rfl⟩
set_option maxHeartbeats 1000000 in
theorem place_hi (wb o back p : Nat) (a : Option Addr) (n cap : Nat) (w : World) (c2 : w.cell? ⟨wb, 2, none⟩ = some (.slice a n cap)) (c3 : w.cell? ⟨wb, 3, none⟩ = some (.int .i64 (o : Int))) (hb : ¬ back ≤ o) (hn : back ≤ n) (hp : p = o + n - back) (hn2 : n ≤ 16777216) (ho : o ≤ 16777216) :
    Calls Tryz.prog 134 #[.pointer (some ⟨wb, 0, none⟩), .int .i64 (back : Int)] w fun e w' => e = .returned (.int .i64 (p : Int)) ∧ w' = w.drew := by
  obtain ⟨D, hD⟩ : ∃ D : Int, D = (o : Int) - back := ⟨_, rfl⟩
  have hq1 : IntKind.i64.wrap ((o : Int) - back) = D := by rw [IntKind.wrap_i64]; omega
  have hq2 : IntKind.i64.wrap (D + n) = (p : Int) := by rw [IntKind.wrap_i64]; omega
  have hbI : ¬ (back : Int) ≤ (o : Int) := by omega
  clear hp hD
  go_enter Tryz.func134, Tryz.ntmps134
  go_wp2_with fail
  go_region_held3 (fun w' => w'.cell? ⟨wb, 2, none⟩ = some (.slice a n cap) ∧ w'.cell? ⟨wb, 3, none⟩ = some (.int .i64 (o : Int))) (go_keep) ((fail))
  go_wp2_with fail
  go_ret
  exact ⟨rfl, rfl⟩

section
attribute [local go_sem] maxSem6_eq minSem6_eq
attribute [local go_sem] sliceSem_eq
set_option maxRecDepth 100000 in
set_option maxHeartbeats 4000000 in
theorem last_any (wb lb s o : Nat) (rv : Value) (R : List Nat) (g n back t : Nat) (Z : List Nat) (w : World) (h : IsR w wb lb s rv R o) (hz : w.heap[g]? = some (.cells (u8s Z).toArray 5 (0, 0))) (hZ : Z.length = n)
    (hg : rv.ownBlock ≠ some g) (h1 : 1 ≤ back) (h2 : back ≤ R.length) (hn : n ≤ 16777216) (ht : t = min n back) :
    Calls Tryz.prog 124 #[.pointer (some ⟨wb, 0, none⟩), .slice (some ⟨g, 0, none⟩) n n, .int .i64 (back : Int)] w fun e w' => e = .returned (.int .i64 (t : Int)) ∧ w'.heap[g]? = some (.cells (u8s (outL (unr R o) back t ++ Z.drop t)).toArray 5 (0, 0)) ∧ Keep (fun k => k = g) w w' := by
  obtain ⟨ra, rcap, rg, hrv, hRB, hrow⟩ := h.form
  have c2 : w.cell? ⟨wb, 2, none⟩ = some (.slice ra R.length rcap) := by have := cell_of h.obj 2; rw [hrv] at this; exact this
  have c3 : w.cell? ⟨wb, 3, none⟩ = some (.int .i64 (o : Int)) := cell_of h.obj 3
  have ho := h.o_
  have hs2 := h.s2
  have hle := h.le
  have hole := h.ole
  have hgw : g ≠ wb := by
    intro e
    have := h.obj
    rw [← e, hz] at this
    simp at this
  have hmin := minSem6_run #[3, 3] 3 (n : Int) (back : Int) (t : Int) (by omega)
  have hsl1 := run_high (some ⟨g, 0, none⟩) n n t (by omega)
  have hplt := place_lt R.length o back hole h1 h2
  have hpt := place_take R o back t hole h1 h2 (by omega)
  obtain ⟨p, hp⟩ : ∃ p, p = place R.length o back := ⟨_, rfl⟩
  rw [← hp] at hplt hpt
  have hout := outL_first (unr R o) back t h1 (by rw [unr_length]; exact h2) (by omega)
  rw [unr_length] at hout
  rw [hout] at hpt
  obtain ⟨a1, off1, hsl2, hB1, -⟩ := hRB.drop p (by omega)
  obtain ⟨t1, ht1⟩ : ∃ t1 : Nat, t1 = min (R.drop p).length t := ⟨_, rfl⟩
  have hne : R ≠ [] := by rintro rfl; simp at h2; omega
  have hrg : rg ≠ g := by
    obtain ⟨hra, _⟩ := hrow.resolve_left (fun e => hne e.2)
    rw [hrv, hra] at hg
    exact fun e => hg (by rw [e]; rfl)
  have hsl3 := run_low (some ⟨g, 0, none⟩) t n t1 (by omega)
  obtain ⟨da, hda⟩ : ∃ da : Option Addr, da = (if n = t1 then some ⟨g, 0, none⟩ else (some (⟨g, 0, none⟩ : Addr)).map (fun x => x.add t1)) := ⟨_, rfl⟩
  rw [← hda] at hsl3
  have hda2 : da = some ⟨g, t1, none⟩ ∨ t - t1 = 0 := by
    by_cases e : n = t1
    · right; omega
    · left; rw [hda, if_neg e, Option.map_some, add0]
  clear hda
  obtain ⟨t2, ht2⟩ : ∃ t2 : Nat, t2 = min R.length (t - t1) := ⟨_, rfl⟩
  have hsum : t1 + t2 = t := by rw [List.length_drop] at ht1; omega
  have hadd : (t1 : Int) + (t2 : Int) = (t : Int) := by omega
  have hwt : IntKind.i64.wrap (t : Int) = (t : Int) := by rw [IntKind.wrap_i64]; omega
  -- both copies, from any world that has the heap of w
  have HC : Hid (∀ W : World, W.heap = w.heap → Keep noBlock w W → ∃ W2, (Builtin.copy_ #[22, 22] 3 #[.slice (some ⟨g, 0, none⟩) t n, .slice a1 (R.drop p).length (rcap - p)]).run Tryz.prog W = .ok (.int .i64 (t1 : Int)) W2 ∧ Keep (fun k => k = g) w W2 ∧
      ∀ W3 : World, W3.heap = W2.heap → Keep noBlock W2 W3 → ∃ W4, (Builtin.copy_ #[22, 22] 3 #[.slice da (t - t1) (n - t1), .slice ra R.length rcap]).run Tryz.prog W3 = .ok (.int .i64 (t2 : Int)) W4 ∧ Keep (fun k => k = g) w W4 ∧ W4.heap[g]? = some (.cells (u8s (outL (unr R o) back t ++ Z.drop t)).toArray 5 (0, 0))) := by
    intro W hW hkW
    have z1 : W.heap[g]? = some (.cells (u8s Z).toArray 5 (0, 0)) := by rw [hW]; exact hz
    have c1 := run_copy_any W 3 g 0 t n (some ⟨g, 0, none⟩) (.slice a1 (R.drop p).length (rcap - p)) (R.drop p) (u8s Z).toArray t1 (hB1.keep hkW (fun _ h => h)).src ht1 (.inl rfl) z1 (by simp [u8s_length]; omega)
    have r1 := setRow_heap W g (u8s Z).toArray ((u8s Z).toArray.toList.take 0 ++ u8s ((R.drop p).take t1) ++ (u8s Z).toArray.toList.drop (0 + t1)).toArray 5 (0, 0) z1
    have k1 := keep_setRow (hkW.mono (T := fun k => k = g) (fun _ _ h => h.elim)) g (fun _ => rfl) ((u8s Z).toArray.toList.take 0 ++ u8s ((R.drop p).take t1) ++ (u8s Z).toArray.toList.drop (0 + t1)).toArray
    refine ⟨_, c1, k1, fun W3 hW3 hk3 => ?_⟩
    generalize W.setRow g _ = W2 at r1 k1 hW3 hk3
    have e1 : ((u8s Z).toArray.toList.take 0 ++ u8s ((R.drop p).take t1) ++ (u8s Z).toArray.toList.drop (0 + t1)).toArray = (u8s ((R.drop p).take t1 ++ Z.drop t1)).toArray := by
      simp [u8s_app, u8s_drop]
    rw [e1] at r1
    have z3 : W3.heap[g]? = some (.cells (u8s ((R.drop p).take t1 ++ Z.drop t1)).toArray 5 (0, 0)) := by rw [hW3]; exact r1
    have k3 : Keep (fun k => k = g) w W3 := k1.trans hk3 (fun _ _ h => h.elim)
    have hl1 : ((R.drop p).take t1).length = t1 := by rw [List.length_take]; omega
    have c3 := run_copy_any W3 3 g t1 (t - t1) (n - t1) da (.slice ra R.length rcap) R (u8s ((R.drop p).take t1 ++ Z.drop t1)).toArray t2 (hRB.keep k3 (fun _ => hrg)).src ht2 (hda2.elim (fun e => .inl e) (fun e => .inr (by omega))) z3 (by simp [u8s_length, hl1]; omega)
    refine ⟨_, c3, keep_setRow k3 g (fun _ => rfl) _, ?_⟩
    rw [setRow_heap W3 g _ _ 5 (0, 0) z3]
    congr 2
    have e2 : (u8s ((R.drop p).take t1 ++ Z.drop t1)).toArray.toList.take t1 = u8s ((R.drop p).take t1) := by
      rw [List.toList_toArray, u8s_app]; exact List.take_left' (by rw [u8s_length, hl1])
    have e3 : (u8s ((R.drop p).take t1 ++ Z.drop t1)).toArray.toList.drop (t1 + t2) = u8s (Z.drop t) := by
      rw [List.toList_toArray, u8s_drop, List.drop_append, List.drop_eq_nil_of_le (by omega), List.nil_append, List.drop_drop, hl1]
      congr 2; omega
    have eA : (R.drop p).take t1 = (R.drop p).take t := List.take_eq_take_iff.2 (by omega)
    have eB : R.take t2 = R.take (t - (R.drop p).length) := List.take_eq_take_iff.2 (by omega)
    rw [e2, e3, ← u8s_app, ← u8s_app, ← hpt, List.take_append, eA, eB]
  clear hpt hout hB1 hRB hrow
  have hnI : (n : Int) ≤ 16777216 := by omega
  generalize (R.drop p).length = Lp at hsl2 HC
  generalize rcap - p = cp at hsl2 HC
  have HZ := (show Hid (w.heap[g]? = some (.cells (u8s Z).toArray 5 (0, 0))) from hz)
  clear hz ht1 ht2 ht
  by_cases hb : back ≤ o
  · have HP := place_lo wb o back p w.drew c3 hb (by rw [hp]; unfold place; rw [if_pos hb]) (by omega)
    obtain ⟨W2, hc1, kw2, HC2⟩ := HC.out w.drew rfl (Keep.refl _ w).drew
    obtain ⟨W4, hc2, kw4, z4⟩ := HC2 W2.drew rfl (Keep.refl _ W2).drew
    have d2 : W2.cell? ⟨wb, 2, none⟩ = some (.slice ra R.length rcap) := by have := cell_of (kw2.obj h.obj (fun e => hgw e.symm)) 2; rw [hrv] at this; exact this
    have d4 : W4.cell? ⟨wb, 2, none⟩ = some (.slice ra R.length rcap) := by have := cell_of (kw4.obj h.obj (fun e => hgw e.symm)) 2; rw [hrv] at this; exact this
    have HF := (show Hid (W4.heap[g]? = some (.cells (u8s (outL (unr R o) back t ++ Z.drop t)).toArray 5 (0, 0)) ∧ Keep (fun k => k = g) w W4) from ⟨z4, kw4⟩)
    clear HC HC2 kw2 kw4 z4 h hrv hp HZ hg
    go_enter Tryz.func124, Tryz.ntmps124
    go_wp2_with fail
    go_region_held3 (fun w' => w'.cell? ⟨wb, 2, none⟩ = some (.slice ra R.length rcap)) (go_keep) ((first | (go_at_call 134; refine HP.mono ?_; rintro e w2 ⟨rfl, rfl⟩)))
    go_wp2_with fail
    go_region_held3 (fun w' => w'.cell? ⟨wb, 2, none⟩ = some (.slice ra R.length rcap)) (go_keep) ((fail))
    go_wp2_with fail
    go_ret
    exact ⟨rfl, HF.out⟩
  · have HP := place_hi wb o back p ra R.length rcap w.drew c2 c3 hb h2 (by rw [hp]; unfold place; rw [if_neg hb]) (by omega) (by omega)
    obtain ⟨W2, hc1, kw2, HC2⟩ := HC.out w.drew.drew rfl (Keep.refl _ w).drew.drew
    obtain ⟨W4, hc2, kw4, z4⟩ := HC2 W2.drew rfl (Keep.refl _ W2).drew
    have d2 : W2.cell? ⟨wb, 2, none⟩ = some (.slice ra R.length rcap) := by have := cell_of (kw2.obj h.obj (fun e => hgw e.symm)) 2; rw [hrv] at this; exact this
    have d4 : W4.cell? ⟨wb, 2, none⟩ = some (.slice ra R.length rcap) := by have := cell_of (kw4.obj h.obj (fun e => hgw e.symm)) 2; rw [hrv] at this; exact this
    have HF := (show Hid (W4.heap[g]? = some (.cells (u8s (outL (unr R o) back t ++ Z.drop t)).toArray 5 (0, 0)) ∧ Keep (fun k => k = g) w W4) from ⟨z4, kw4⟩)
    clear HC HC2 kw2 kw4 z4 h hrv hp HZ hg
    go_enter Tryz.func124, Tryz.ntmps124
    go_wp2_with fail
    go_region_held3 (fun w' => w'.cell? ⟨wb, 2, none⟩ = some (.slice ra R.length rcap)) (go_keep) ((first | (go_at_call 134; refine HP.mono ?_; rintro e w2 ⟨rfl, rfl⟩)))
    go_wp2_with fail
    go_region_held3 (fun w' => w'.cell? ⟨wb, 2, none⟩ = some (.slice ra R.length rcap)) (go_keep) ((fail))
    go_wp2_with fail
    go_ret
    exact ⟨rfl, HF.out⟩
end
end Go.Proofs.YtnokemcogjoonaaGreatDoor

namespace Go.Proofs.YtnokemcogjoonaaGreatDoor
open Go.RowKit Go.Shelf
set_option linter.unusedVariables false

set_option maxHeartbeats 1000000 in
theorem new_arg (size : Int) (v : Value) (w : World) (h : ¬ (1 ≤ size ∧ size ≤ 16777216)) :
    Calls Tryz.prog 19 #[.int .i64 size, v] w fun e w' => e = .returned (.tuple #[.pointer none, .int .i64 2]) ∧ w' = w := by
  by_cases h1 : size < 1
  · go_enter Tryz.func19, Tryz.ntmps19
    go_wp2_with fail
    go_ret2
    exact ⟨rfl, rfl⟩
  · have h2 : 16777216 < size := by omega
    go_enter Tryz.func19, Tryz.ntmps19
    go_wp2_with fail
    go_ret2
    exact ⟨rfl, rfl⟩
set_option maxHeartbeats 1000000 in
theorem new_nil (size : Int) (w : World) (h1 : 1 ≤ size) (h2 : size ≤ 16777216) :
    Calls Tryz.prog 19 #[.int .i64 size, .pointer none] w fun e w' => e = .returned (.tuple #[.pointer none, .int .i64 1]) ∧ w' = w := by
  have h1' : ¬ size < 1 := by omega
  have h2' : ¬ 16777216 < size := by omega
  go_enter Tryz.func19, Tryz.ntmps19
  go_wp2_with fail
  refine (charge_nil size _).mono ?_
  rintro e w1 ⟨rfl, rfl⟩
  go_wp2_with fail
  go_ret2
  exact ⟨rfl, rfl⟩
set_option maxHeartbeats 1000000 in
theorem new_over (s lb B now most : Nat) (w : World) (h1 : 1 ≤ s) (h2 : s ≤ 16777216) (hL : IsL w lb B now most) (ho : B < now + s) :
    Calls Tryz.prog 19 #[.int .i64 (s : Int), .pointer (some ⟨lb, 0, none⟩)] w fun e w' => e = .returned (.tuple #[.pointer none, .int .i64 40]) ∧ w' = w := by
  have h1' : ¬ (s : Int) < 1 := by omega
  have h2' : ¬ 16777216 < (s : Int) := by omega
  go_enter Tryz.func19, Tryz.ntmps19
  go_wp2_with fail
  refine (charge_over lb B now most s ho _ hL).mono ?_
  rintro e w1 ⟨rfl, rfl⟩
  go_wp2_with fail
  go_ret2
  exact ⟨rfl, rfl⟩
set_option maxHeartbeats 1000000 in
theorem wnew_ok (s lb B now most : Nat) (w : World) (h1 : 1 ≤ s) (h2 : s ≤ 16777216) (hL : IsL w lb B now most) (ho : now + s ≤ B) :
    Calls Tryz.prog 19 #[.int .i64 (s : Int), .pointer (some ⟨lb, 0, none⟩)] w fun e w' => ∃ wb, e = .returned (.tuple #[.pointer (some ⟨wb, 0, none⟩), .int .i64 0]) ∧ w.heap.size ≤ wb ∧ IsW w' wb lb s (.slice none 0 0) [] ∧ IsL w' lb B (now + s) (max (now + s) most) ∧ Keep (fun k => k = lb) w w' := by
  have h1' : ¬ (s : Int) < 1 := by omega
  have h2' : ¬ 16777216 < (s : Int) := by omega
  go_enter Tryz.func19, Tryz.ntmps19
  go_wp2_with fail
  refine (charge_ok lb B now most s ho _ hL).mono ?_
  rintro e w1 ⟨rfl, hL1, hK1⟩
  go_wp2_with fail
  go_ret2
  refine ⟨w1.heap.size, rfl, hK1.size, ⟨[], 0, ⟨alloc_new w1 _, ⟨rfl, .inl ⟨rfl, rfl⟩⟩, fun j => by simp, h1, h2, Nat.zero_le _, by omega, .inl rfl⟩, rfl⟩, hL1.keep ((Keep.refl noBlock w1).alloc _) (fun h => h), hK1.alloc _⟩

section
attribute [local go_sem] sliceSem_eq
end

end Go.Proofs.YtnokemcogjoonaaGreatDoor

namespace Go.Proofs.YtnokemcogjoonaaGreatDoor
open Go.RowKit Go.Shelf
set_option linter.unusedVariables false

/-- Copied: d bytes are there. -/
structure Done (w W : World) (g : Nat) (M : List Nat) (back n d : Nat) : Prop where
  row : W.heap[g]? = some (.cells (u8s (outL M back d ++ List.replicate (n - d) 0)).toArray 5 (0, 0))
  le : d ≤ n
  keep : Keep noBlock w W
  many : d = n ∨ (back ∣ d ∧ 0 < d)
theorem bytes_row {W : World} {g : Nat} {X : List Nat} {cs : List Value} (h : W.heap[g]? = some (.cells (u8s X ++ cs).toArray 5 (0, 0))) (cap : Nat) (hX : ∀ j : Nat, X[j]?.getD 0 < 256) (hc : X.length ≤ cap) (hl : X.length < 2 ^ 48) : Bytes W (some ⟨g, 0, none⟩) cap g 0 X := by
  refine ⟨.inl rfl, (fun e => by cases e), fun j hj => ?_, hX, hc, hl⟩
  rw [Nat.zero_add, cell_of h j, List.getElem?_toArray, List.getElem?_append_left (by rw [u8s_length]; exact hj)]
  exact u8s_at X j hj
theorem Done.next {w W : World} {g : Nat} {M : List Nat} {back n d t : Nat} (h : Done w W g M back n d) (hg : w.heap.size ≤ g) (hd : d < n) (ht : t = min d (n - d)) {W' : World} (hW : W'.heap[g]? = some (.cells ((u8s (outL M back d ++ List.replicate (n - d) 0)).toArray.toList.take d ++ u8s ((outL M back d).take t) ++ (u8s (outL M back d ++ List.replicate (n - d) 0)).toArray.toList.drop (d + t)).toArray 5 (0, 0))) (hK : Keep (fun k => k = g) W W') : Done w W' g M back n (d + t) := by
  obtain ⟨hdv, h0⟩ := h.many.resolve_left (by omega)
  refine ⟨?_, by omega, h.keep.trans hK (fun i hi e => by omega), ?_⟩
  · rw [hW]
    have e1 : (u8s (outL M back d ++ List.replicate (n - d) 0)).toArray.toList.take d = u8s (outL M back d) := by
      rw [List.toList_toArray, u8s_app]; exact List.take_left' (by rw [u8s_length, outL_length])
    have e2 : (u8s (outL M back d ++ List.replicate (n - d) 0)).toArray.toList.drop (d + t) = u8s (List.replicate (n - (d + t)) 0) := by
      rw [List.toList_toArray, u8s_drop, List.drop_append, List.drop_eq_nil_of_le (by rw [outL_length]; omega), List.nil_append, outL_length, List.drop_replicate]
      congr 2; omega
    rw [e1, e2, ← u8s_app, ← u8s_app, outL_more M back d t hdv (by omega)]
  · by_cases e : d + t = n
    · exact .inl e
    · right
      have : t = d := by omega
      subst this
      exact ⟨Nat.dvd_add hdv hdv, by omega⟩

section
attribute [local go_sem] maxSem6_eq minSem6_eq
attribute [local go_sem] sliceSem_eq
set_option maxRecDepth 100000 in
set_option maxHeartbeats 4000000 in
theorem copy_ok (wb lb s : Nat) (rv : Value) (M : List Nat) (back n : Nat) (w : World) (h : IsW w wb lb s rv M) (h1 : 1 ≤ back) (h2 : back ≤ M.length) (hn : n ≤ 16777216) :
    Calls Tryz.prog 83 #[.pointer (some ⟨wb, 0, none⟩), .int .i64 (back : Int), .int .i64 (n : Int)] w fun e w' => e = .returned (.tuple #[.slice (some ⟨w.heap.size, 0, none⟩) n n, .int .i64 0]) ∧
      w'.heap[w.heap.size]? = some (.cells (u8s (outL M back n)).toArray 5 (0, 0)) ∧ ∃ rv', IsW w' wb lb s rv' (lastN s (M ++ outL M back n)) ∧ Near w rv rv' ∧ rv'.ownBlock ≠ some w.heap.size ∧ Keep (fun k => k = wb ∨ rv.ownBlock = some k) w w' := by
  have HW := (show Hid (IsW w wb lb s rv M) from h)
  have hlen := h.len
  have hltM := h.lt
  obtain ⟨R, o, hI, hM⟩ := h
  obtain ⟨ra, rcap, rg, hrv, -, -⟩ := hI.form
  have c0 : w.cell? ⟨wb, 0, none⟩ = some (.int .i64 (s : Int)) := cell_of hI.obj 0
  have c2 : w.cell? ⟨wb, 2, none⟩ = some (.slice ra R.length rcap) := by have := cell_of hI.obj 2; rw [hrv] at this; exact this
  have hRM : R.length = M.length := by rw [← hM, unr_length]
  have hs0 : ¬ (s : Int) = 0 := by omega
  have hs0b : ((s : Int) == 0) = false := by simpa using hs0
  have hn0 : ¬ (n : Int) < 0 := by omega
  have hn1 : ¬ 16777216 < (n : Int) := by omega
  have hr := reaches_cell wb ra R.length rcap (back : Int) w c2
  rw [decide_eq_true (show 1 ≤ (back : Int) ∧ (back : Int) ≤ (R.length : Int) by omega)] at hr
  have hmk := run_make_u8 n n (Nat.le_refl _) (by omega)
  obtain ⟨W1, hW1⟩ : ∃ W1, W1 = w.alloc (.cells (u8s (List.replicate n 0)).toArray 5) := ⟨_, rfl⟩
  have k1 : Keep noBlock w W1 := by rw [hW1]; exact (Keep.refl _ w).alloc _
  have z1 : W1.heap[w.heap.size]? = some (.cells (u8s (List.replicate n 0)).toArray 5 (0, 0)) := by rw [hW1]; exact alloc_new w _
  have hrg : rv.ownBlock ≠ some w.heap.size := fun e => absurd (HW.out.ring_lt e) (Nat.lt_irrefl _)
  obtain ⟨t, ht⟩ : ∃ t : Nat, t = min n back := ⟨_, rfl⟩
  have HL := last_any wb lb s o rv R w.heap.size n back t (List.replicate n 0) W1 (hI.keep k1 (fun h => h) (fun _ _ h => h)) z1 (by simp) hrg h1 (by omega) hn ht
  rw [hM] at HL
  have HS : Hid (∀ W2, W2.heap[w.heap.size]? = some (.cells (u8s (outL M back t ++ (List.replicate n 0).drop t)).toArray 5 (0, 0)) → Keep (fun k => k = w.heap.size) W1 W2 → Done w W2 w.heap.size M back n t) := by
    intro W2 hz hk
    refine ⟨by rw [hz, List.drop_replicate], by omega, k1.trans hk (fun i hi e => by omega), ?_⟩
    by_cases e : t = n
    · exact .inl e
    · right
      have : t = back := by omega
      subst this; exact ⟨Nat.dvd_refl _, h1⟩
  have hmk1 := hmk w
  rw [← hW1] at hmk1
  clear hI hM hRM hrv k1 z1 hW1 hmk ht
  go_enter Tryz.func83, Tryz.ntmps83
  go_wp2_with fail
  refine hr.mono ?_
  rintro e w1 ⟨rfl, rfl⟩
  clear hr
  go_wp2_with fail
  refine HL.mono ?_
  rintro e W2 ⟨rfl, hz2, hk2⟩
  have HD := (show Hid (Done w1 W2 w1.heap.size M back n t) from HS.out W2 hz2 hk2)
  clear HL HS hz2 hk2 hmk1 c0 c2
  obtain ⟨g, hg⟩ : ∃ g, g = w1.heap.size := ⟨_, rfl⟩
  rw [← hg] at HD ⊢
  have hwlt := HW.out.block
  have hrg' : rv.ownBlock ≠ some g := by rw [hg]; exact hrg
  have HG0 := (show Hid (g = w1.heap.size ∧ rv.ownBlock ≠ some g ∧ wb < g) from ⟨hg, hrg', by omega⟩)
  clear hg hrg hrg' hwlt
  go_wp2_with fail
  go_loopw [9] (fun v wr => ∃ d : Nat, v = .int .i64 (d : Int) ∧ Hid (Done w1 wr g M back n d)) (fun v _ => n - (intOf v).toNat)
  case atStart => exact ⟨t, rfl, HD.out⟩
  case round =>
    clear HD
    obtain ⟨d, rfl, HD⟩ := hrel
    have hdn := HD.out.le
    by_cases hlt : d < n
    · have hltI : (d : Int) < (n : Int) := by omega
      have hsl1 := run_low (some ⟨g, 0, none⟩) n n d (by omega)
      rw [if_neg (by omega), Option.map_some, add0] at hsl1
      have hsl2 := run_high (some ⟨g, 0, none⟩) n n d (by omega)
      obtain ⟨c, hc⟩ : ∃ c : Nat, c = min d (n - d) := ⟨_, rfl⟩
      have hol := outL_length M back d
      have hB : Bytes wr.drew (some ⟨g, 0, none⟩) n g 0 (outL M back d) := bytes_row (cs := u8s (List.replicate (n - d) 0)) (by rw [← u8s_app]; exact HD.out.row) n (lt_out hltM _ _) (by omega) (by omega)
      have hcopy := run_copy_any wr.drew 3 g d (n - d) (n - d) (some ⟨g, d, none⟩) (.slice (some ⟨g, 0, none⟩) d n) (outL M back d) (u8s (outL M back d ++ List.replicate (n - d) 0)).toArray c (by have := hB.src; rwa [hol] at this) (by rw [hol]; exact hc) (.inl rfl) HD.out.row (by simp [u8s_length, hol]; omega)
      have r2 := setRow_heap wr.drew g _ ((u8s (outL M back d ++ List.replicate (n - d) 0)).toArray.toList.take d ++ u8s ((outL M back d).take c) ++ (u8s (outL M back d ++ List.replicate (n - d) 0)).toArray.toList.drop (d + c)).toArray 5 (0, 0) HD.out.row
      have k2 := keep_setRow (((Keep.refl (fun k => k = g) wr).drew)) g (fun _ => rfl) ((u8s (outL M back d ++ List.replicate (n - d) 0)).toArray.toList.take d ++ u8s ((outL M back d).take c) ++ (u8s (outL M back d ++ List.replicate (n - d) 0)).toArray.toList.drop (d + c)).toArray
      have hnext := HD.out.next (by have := HG0.out.1; omega) hlt hc r2 k2
      generalize wr.drew.setRow g _ = W3 at hcopy hnext
      obtain ⟨d2, hd2⟩ : ∃ d2 : Nat, d2 = d + c := ⟨_, rfl⟩
      rw [← hd2] at hnext
      have hadd : IntKind.i64.wrap ((d : Int) + (c : Int)) = (d2 : Int) := by rw [IntKind.wrap_i64]; omega
      have HN := (show Hid (Done w1 W3 g M back n d2 ∧ d < d2) from ⟨hnext, by rcases HD.out.many with e | ⟨_, e⟩ <;> omega⟩)
      generalize n - d = nd at hsl1 hcopy
      clear r2 k2 hnext hB hol hd2 hc HD
      go_wp2_with fail
      go_region_held3 (fun _ => True) (trivial) ((fail))
      go_wp2_with fail
      go_roundw
      case rel => exact ⟨d2, rfl, HN.out.1⟩
      case measure => have := HN.out.2; have := HN.out.1.le; simp [intOf]; omega
    · obtain rfl : d = n := by omega
      have hrow := HD.out.row
      rw [Nat.sub_self, List.replicate_zero, List.append_nil] at hrow
      have hol := outL_length M back d
      have hB : Bytes wr (some ⟨g, 0, none⟩) d g 0 (outL M back d) := bytes_row (cs := []) (by rw [List.append_nil]; exact hrow) d (lt_out hltM _ _) (by omega) (by omega)
      have hWr := HW.out.keep HD.out.keep (fun h => h) (fun _ _ h => h)
      have hgne : g ≠ wb := fun e => by have := HG0.out.2.2; omega
      have HP := put_any wb lb s rv M (some ⟨g, 0, none⟩) d g 0 (outL M back d) wr hWr hB (fun _ => ⟨hgne, HG0.out.2.1⟩)
      rw [hol] at HP
      have HF := (show Hid (Keep noBlock w1 wr ∧ wr.heap[g]? = some (.cells (u8s (outL M back d)).toArray 5 (0, 0))) from ⟨HD.out.keep, hrow⟩)
      clear hrow hB hWr HD hol
      go_wp2_with fail
      refine HP.mono ?_
      rintro e W3 ⟨rfl, rv', hW3, hN3, hK3⟩
      have hsz := HF.out.1.size
      have hgl := obj_lt HF.out.2
      have hfin : W3.heap[g]? = some (.cells (u8s (outL M back d)).toArray 5 (0, 0)) := hK3.obj HF.out.2 (fun e => e.elim hgne HG0.out.2.1)
      have hne' : rv'.ownBlock ≠ some g := by
        rcases hN3 with e | ⟨k, e, hk⟩
        · rw [e]; exact HG0.out.2.1
        · rw [e]; intro q
          have : k = g := by simpa using q
          omega
      have HG := (show Hid (W3.heap[g]? = some (.cells (u8s (outL M back d)).toArray 5 (0, 0)) ∧ ∃ rv', IsW W3 wb lb s rv' (lastN s (M ++ outL M back d)) ∧ Near w1 rv rv' ∧ rv'.ownBlock ≠ some g ∧ Keep (fun k => k = wb ∨ rv.ownBlock = some k) w1 W3) from
        ⟨hfin, rv', hW3, (Near.refl w1 rv).trans hN3 hsz, hne', (HF.out.1.mono (fun _ _ h => h.elim)).trans' hK3⟩)
      clear hfin hne' hW3 hN3 hK3 HP
      go_wp2_with fail
      go_ret2
      obtain rfl := HG0.out.1
      exact ⟨rfl, HG.out⟩
end

set_option maxHeartbeats 1000000 in
/-- Copy of a count that is none. -/
theorem copy_arg (wb lb s : Nat) (rv : Value) (M : List Nat) (back n : Int) (w : World) (h : IsW w wb lb s rv M) (hn : n < 0 ∨ 16777216 < n) :
    Calls Tryz.prog 83 #[.pointer (some ⟨wb, 0, none⟩), .int .i64 back, .int .i64 n] w fun e w' => e = .returned (.tuple #[.slice none 0 0, .int .i64 2]) ∧ w' = w := by
  have hlen := h.len
  obtain ⟨R, o, hI, hM⟩ := h
  have c0 : w.cell? ⟨wb, 0, none⟩ = some (.int .i64 (s : Int)) := cell_of hI.obj 0
  have hs0 : ¬ (s : Int) = 0 := by omega
  have hs0b : ((s : Int) == 0) = false := by simpa using hs0
  by_cases h0 : n < 0
  · go_enter Tryz.func83, Tryz.ntmps83
    go_wp2_with fail
    go_ret2
    exact ⟨rfl, rfl⟩
  · have h1 : 16777216 < n := by omega
    go_enter Tryz.func83, Tryz.ntmps83
    go_wp2_with fail
    go_ret2
    exact ⟨rfl, rfl⟩
set_option maxHeartbeats 1000000 in
/-- Copy from where nothing stands. -/
theorem copy_far (wb lb s : Nat) (rv : Value) (M : List Nat) (back n : Int) (w : World) (h : IsW w wb lb s rv M) (hn0 : ¬ n < 0) (hn1 : ¬ 16777216 < n) (hb : ¬ (1 ≤ back ∧ back ≤ (M.length : Int))) :
    Calls Tryz.prog 83 #[.pointer (some ⟨wb, 0, none⟩), .int .i64 back, .int .i64 n] w fun e w' => e = .returned (.tuple #[.slice none 0 0, .int .i64 11]) ∧ w' = w := by
  have hlen := h.len
  obtain ⟨R, o, hI, hM⟩ := h
  obtain ⟨ra, rcap, rg, hrv, -, -⟩ := hI.form
  have c0 : w.cell? ⟨wb, 0, none⟩ = some (.int .i64 (s : Int)) := cell_of hI.obj 0
  have c2 : w.cell? ⟨wb, 2, none⟩ = some (.slice ra R.length rcap) := by have := cell_of hI.obj 2; rw [hrv] at this; exact this
  have hRM : R.length = M.length := by rw [← hM, unr_length]
  have hs0 : ¬ (s : Int) = 0 := by omega
  have hs0b : ((s : Int) == 0) = false := by simpa using hs0
  have hr := reaches_cell wb ra R.length rcap back w c2
  rw [decide_eq_false (by rw [hRM]; exact hb)] at hr
  clear hb hM hRM hI hrv
  go_enter Tryz.func83, Tryz.ntmps83
  go_wp2_with fail
  refine hr.mono ?_
  rintro e w1 ⟨rfl, rfl⟩
  go_wp2_with fail
  go_ret2
  exact ⟨rfl, rfl⟩

end Go.Proofs.YtnokemcogjoonaaGreatDoor
