/-
  Bytes that go into a ring which is not yet round.
-/
import Derived.Test.YtinhlkioeadfdaaDoorGrow
import Derived.Deep.RegionLaw
namespace Go.Proofs.YtinhlkioeadfdaaDoor
open Go.RowKit Go.Shelf
set_option linter.unusedVariables false


section
attribute [local go_sem] maxSem6_eq minSem6_eq
attribute [local go_sem] sliceSem_eq
set_option maxHeartbeats 2000000 in
theorem fill_any (wb lb s o : Nat) (rv : Value) (R : List Nat) (a : Option Addr) (cap gb off : Nat) (bs : List Nat) (t : Nat) (w : World) (h : IsR w wb lb s rv R o) (hb : Bytes w a cap gb off bs)
    (hne : bs ≠ [] → gb ≠ wb) (ht : t = min bs.length (s - R.length)) :
    Calls Tryd.prog 67 #[.pointer (some ⟨wb, 0, none⟩), .slice a bs.length cap] w fun e w' => e = .returned (.int .i64 (t : Int)) ∧ ∃ rv', IsR w' wb lb s rv' (R ++ bs.take t) o ∧ Near w rv rv' ∧ Keep (fun k => k = wb ∨ rv.ownBlock = some k) w w' := by
  obtain ⟨ra, rcap, rg, hrv, -, -⟩ := h.form
  have c0 : w.cell? ⟨wb, 0, none⟩ = some (.int .i64 (s : Int)) := cell_of h.obj 0
  have c2 : w.cell? ⟨wb, 2, none⟩ = some (.slice ra R.length rcap) := by rw [← hrv]; exact cell_of h.obj 2
  have hle := h.le
  have hs2 := h.s2
  have hcap := hb.cap
  have hlen := hb.len
  obtain ⟨d, hd⟩ : ∃ d : Nat, d = s - R.length := ⟨_, rfl⟩
  have hsub : (s : Int) - (R.length : Int) = (d : Int) := by omega
  have hwd : IntKind.i64.wrap (d : Int) = (d : Int) := by rw [IntKind.wrap_i64]; omega
  have hmin := minSem6_run #[3, 3] 3 (bs.length : Int) (d : Int) (t : Int) (by omega)
  have htl : t ≤ bs.length := by omega
  obtain ⟨n, hn⟩ : ∃ n : Nat, n = R.length + t := ⟨_, rfl⟩
  have hadd : (R.length : Int) + (t : Int) = (n : Int) := by omega
  obtain ⟨hsl, hbt⟩ := hb.take t htl
  have hlt : (bs.take t).length = t := by rw [List.length_take]; omega
  rw [hlt] at hsl
  have HH := (show Hid (IsR w wb lb s rv R o ∧ Bytes w a cap gb off (bs.take t) ∧ (bs.take t ≠ [] → gb ≠ wb)) from ⟨h, hbt, fun e => hne (by rintro rfl; simp at e)⟩)
  have hnt : n ≤ s := by omega
  have hrd : o = 0 ∨ (R ++ bs.take t).length = s := by
    rw [List.length_append, hlt]
    rcases h.rd with e | e
    · exact .inl e
    · right; omega
  have HRD := (show Hid (o = 0 ∨ (R ++ bs.take t).length = s) from hrd)
  have hnR : R.length ≤ n := by omega
  generalize hL : bs.length = L at *
  clear h hb hbt hrd ht hd hn
  go_enter Tryd.func67, Tryd.ntmps67
  go_wp2_with fail
  go_region_held3 (fun w' => w'.cell? ⟨wb, 0, none⟩ = some (.int .i64 (s : Int)) ∧ w'.cell? ⟨wb, 2, none⟩ = some (.slice ra R.length rcap)) (go_keep) ((fail))
  go_wp2_with fail
  have k0 : Keep noBlock w w.drew := (Keep.refl _ w).drew
  have hg := grow_any wb lb s o rv R n w.drew (HH.out.1.keep k0 (fun h => h) (fun _ _ h => h)) hnR hnt
  refine hg.mono ?_
  clear hg c0 c2
  rintro e W2 ⟨rfl, rv2, h2, n2, k2⟩
  have kw : Keep (fun k => k = wb) w W2.drew := ((k0.mono (fun _ _ h => h.elim)).trans' k2).drew
  have hbt2 := HH.out.2.1.keep kw HH.out.2.2
  have h2' : IsR W2.drew wb lb s rv2 R o := h2.keep (S := noBlock) (Keep.refl _ W2).drew (fun h => h) (fun _ _ h => h)
  obtain ⟨ra2, rcap2, rg2, hrv2, -, -⟩ := h2.form
  have c2 : W2.cell? ⟨wb, 2, none⟩ = some (.slice ra2 R.length rcap2) := by rw [← hrv2]; exact cell_of h2.obj 2
  obtain ⟨v3, W3, hr3, own3, k3, n3⟩ := run_append_all W2.drew 22 rv2 R (bs.take t) h2'.own (by rw [hlt]; omega) (.slice a t cap) (by have := hbt2.src; rwa [hlt] at this)
  have hw3 : rv2.ownBlock ≠ some wb := owns_ne h2'.own h2'.obj (by decide)
  have o3 := k3.obj h2'.obj hw3
  have c3 : W3.cell? ⟨wb, 2, none⟩ = some (.slice ra2 R.length rcap2) := by rw [← hrv2]; exact cell_of o3 2
  have f3 := frozen_of o3 2
  have hw4 : v3.ownBlock ≠ some wb := owns_ne own3 o3 (by decide)
  have own4 : (W3.setCell ⟨wb, 2, none⟩ v3).ownsRow 0 5 1 v3 (R ++ bs.take t).length (u8s (R ++ bs.take t)) := owns_kept own3 ((Keep.refl (fun k => k = wb) W3).setCell (p := ⟨wb, 2, none⟩) (fun _ => rfl) _) (fun g hg e => hw4 (by rw [hg, e]))
  have k4 : Keep (fun k => k = wb ∨ rv.ownBlock = some k) w (W3.setCell ⟨wb, 2, none⟩ v3) := by
    refine (Keep.trans (kw.mono (fun _ _ e => .inl e)) k3 (fun i hi e => ?_)).setCell (p := ⟨wb, 2, none⟩) (fun _ => .inl rfl) _
    rcases n2 with q | ⟨k, q, hk⟩
    · exact .inr (q ▸ e)
    · rw [q] at e
      have : k = i := by simpa using e
      have : w.heap.size ≤ k := hk
      omega
  have n4 : Near w rv v3 := (show Near w rv rv2 from n2).trans (w1 := W2.drew) n3 kw.size
  have HF := (show Hid (IsR (W3.setCell ⟨wb, 2, none⟩ v3) wb lb s v3 (R ++ bs.take t) o ∧ Near w rv v3 ∧ Keep (fun k => k = wb ∨ rv.ownBlock = some k) w (W3.setCell ⟨wb, 2, none⟩ v3)) from
    ⟨⟨(set_obj o3 2 _).trans (by simp), own4, lt_app h2.lt hbt2.lt, h2.s1, h2.s2, by rw [List.length_append, hlt]; omega, h2.o_, HRD.out⟩, n4, k4⟩)
  obtain ⟨va, vn, vc, rfl⟩ : ∃ va vn vc, v3 = .slice va vn vc := by
    rcases own3.2 with ⟨e, _⟩ | ⟨g, c', cur, e, _⟩
    · exact ⟨_, _, _, e⟩
    · exact ⟨_, _, _, e⟩
  rw [hrv2] at hr3
  clear own3 own4 k3 n3 k4 n4 hw3 hw4 o3 h2' h2 n2 k2 k0 kw hbt2
  go_wp2_with fail
  go_region_law (refine step_append_run _ (by rfl) _ _ 22 (by rfl) (.slice ra2 R.length rcap2) (.slice a t cap) (.slice va vn vc) W3 (by rfl) (by rfl) hr3 ?_)
  go_wp2_with fail
  go_ret
  exact ⟨rfl, _, HF.out⟩
end
end Go.Proofs.YtinhlkioeadfdaaDoor
