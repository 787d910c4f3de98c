/-
  Bytes that are put into a window.
-/
import Derived.Test.YtinhlkioeadfdaaDoorFill
namespace Go.Proofs.YtinhlkioeadfdaaDoor
open Go.RowKit Go.Shelf
set_option linter.unusedVariables false

def lenV : Value → Nat
  | .slice _ n _ => n
  | _ => 0
theorem row_over {L : List Value} {R Y : List Nat} {o t : Nat} (hl : L.take R.length = u8s R) (ho : o + t ≤ R.length) (hY : Y.length = t) : (L.take o ++ u8s Y ++ L.drop (o + t)).take R.length = u8s (over R o Y) := by
  have e : L = u8s R ++ L.drop R.length := by rw [← hl, List.take_append_drop]
  have e1 : L.take o = u8s (R.take o) := by
    rw [e, List.take_append_of_le_length (by rw [u8s_length]; omega), u8s_take]
  have e2 : L.drop (o + t) = u8s (R.drop (o + t)) ++ L.drop R.length := by
    conv => lhs; rw [e]
    rw [List.drop_append_of_le_length (by rw [u8s_length]; exact ho), u8s_drop]
  rw [e1, e2, ← List.append_assoc, ← u8s_app, ← u8s_app]
  have hl2 : (u8s (R.take o ++ Y ++ R.drop (o + t))).length = R.length := by
    rw [u8s_length, List.length_append, List.length_append, List.length_take, List.length_drop]; omega
  rw [List.take_left' hl2]
  unfold over
  rw [hY]
theorem size_over {L : Array Value} {Y : List Nat} {o t : Nat} (ho : o + t ≤ L.size) (hY : Y.length = t) : (L.toList.take o ++ u8s Y ++ L.toList.drop (o + t)).toArray.size = L.size := by
  simp [u8s_length, hY]; omega

/-- What goes round and round in Put: s bytes in the ring, bs' still to come. -/
structure Puts (w W : World) (wb lb s : Nat) (rv : Value) (gb : Nat) (G : List Nat) (a' : Option Addr) (c : Nat) (bs' : List Nat) : Prop where
  ex : ∃ rv' R' o', IsR W wb lb s rv' R' o' ∧ Near w rv rv' ∧ lastN s (unr R' o' ++ bs') = G ∧ (bs' ≠ [] → R'.length = s)
  bytes : ∃ off', Bytes W a' c gb off' bs'
  keep : Keep (fun k => k = wb ∨ rv.ownBlock = some k) w W
  ne : bs' ≠ [] → gb ≠ wb ∧ rv.ownBlock ≠ some gb ∧ gb < w.heap.size

section
attribute [local go_sem] maxSem6_eq minSem6_eq
attribute [local go_sem] sliceSem_eq
set_option maxRecDepth 100000 in
set_option maxHeartbeats 4000000 in
theorem put_any (wb lb s : Nat) (rv : Value) (M : List Nat) (a : Option Addr) (cap gb off : Nat) (bs : List Nat) (w : World) (h : IsW w wb lb s rv M) (hb : Bytes w a cap gb off bs) (hne : bs ≠ [] → gb ≠ wb ∧ rv.ownBlock ≠ some gb) :
    Calls Tryd.prog 49 #[.pointer (some ⟨wb, 0, none⟩), .slice a bs.length cap] w fun e w' => e = .returned (.tuple #[]) ∧ ∃ rv', IsW w' wb lb s rv' (lastN s (M ++ bs)) ∧ Near w rv rv' ∧ Keep (fun k => k = wb ∨ rv.ownBlock = some k) w w' := by
  obtain ⟨R, o, h, rfl⟩ := h
  have c0 : w.cell? ⟨wb, 0, none⟩ = some (.int .i64 (s : Int)) := cell_of h.obj 0
  have hs1 := h.s1
  have hs2 := h.s2
  have hlen := hb.len
  have hs0 : ¬ (s : Int) = 0 := by omega
  have hs0b : ((s : Int) == 0) = false := by simpa using hs0
  obtain ⟨k, hk⟩ : ∃ k : Nat, k = bs.length - s := ⟨_, rfl⟩
  obtain ⟨D, hD⟩ : ∃ D : Int, D = (bs.length : Int) - (s : Int) := ⟨_, rfl⟩
  have hmax := maxSem6_run #[3, 3] 3 0 D (k : Int) (by omega)
  have hsub : (bs.length : Int) - (s : Int) = D := hD.symm
  have hwD : IntKind.i64.wrap D = D := by rw [IntKind.wrap_i64]; omega
  obtain ⟨a1, off1, hsl1, hb1, -⟩ := hb.drop k (by omega)
  have e1 : bs.drop k = lastN s bs := by unfold lastN; rw [hk]
  rw [e1] at hsl1 hb1
  have hne1 : lastN s bs ≠ [] → gb ≠ wb ∧ rv.ownBlock ≠ some gb ∧ gb < w.heap.size := fun e =>
    have hb0 : bs ≠ [] := by rintro rfl; exact e (by simp [lastN])
    ⟨(hne hb0).1, (hne hb0).2, hb.block hb0⟩
  have hG : lastN s (unr R o ++ lastN s bs) = lastN s (unr R o ++ bs) := lastN_right s _ _
  rw [← hG]
  generalize lastN s bs = b1 at hsl1 hb1 hne1 ⊢
  generalize cap - k = cap1 at hsl1 hb1
  obtain ⟨t, ht⟩ : ∃ t : Nat, t = min b1.length (s - R.length) := ⟨_, rfl⟩
  have HFill := fill_any wb lb s o rv R a1 cap1 gb off1 b1 t w h hb1 (fun e => (hne1 e).1) ht
  obtain ⟨a2, off2, hsl2, hb2, -⟩ := hb1.drop t (by omega)
  obtain ⟨G, hGe⟩ : ∃ G, G = lastN s (unr R o ++ b1) := ⟨_, rfl⟩
  rw [← hGe]
  have HPost : Hid (∀ w1 rv1, IsR w1 wb lb s rv1 (R ++ b1.take t) o → Near w rv rv1 → Keep (fun k => k = wb ∨ rv.ownBlock = some k) w w1 → Puts w w1 wb lb s rv gb G a2 (cap1 - t) (b1.drop t)) := by
    intro w1 rv1 hI hN hK
    refine ⟨⟨rv1, R ++ b1.take t, o, hI, hN, ?_, fun e => ?_⟩, ⟨off2, hb2.keep hK (fun e => ?_)⟩, hK, fun e => hne1 (by rintro rfl; simp at e)⟩
    · rw [hGe]
      rcases h.rd with e | e
      · subst e; rw [unr_zero, unr_zero, List.append_assoc, List.take_append_drop]
      · have : t = 0 := by omega
        subst this; simp
    · have : 0 < (b1.drop t).length := List.length_pos_iff.2 e
      rw [List.length_drop] at this
      have hle := h.le
      rw [List.length_append, List.length_take]; omega
    · have := hne1 (by rintro rfl; simp at e)
      exact fun q => q.elim this.1 this.2.1
  clear hb hb1 hb2 hne hne1 hG hGe e1 ht hk hD h
  generalize b1.length = L1 at hsl1 hsl2 HFill
  generalize b1.drop t = b2 at hsl2 HPost
  generalize cap1 - t = cap2 at hsl2 HPost
  generalize bs.length = L at *
  go_enter Tryd.func49, Tryd.ntmps49
  go_wp2_with fail
  refine HFill.mono ?_
  clear HFill
  rintro e w1 ⟨rfl, rv1, hI1, hN1, hK1⟩
  have HP := (show Hid (Puts w w1 wb lb s rv gb G a2 cap2 b2) from HPost.out w1 rv1 hI1 hN1 hK1)
  clear hI1 hN1 hK1 HPost c0
  go_wp2_with fail
  go_loopw [1] (fun v wr => ∃ (a' : Option Addr) (c : Nat) (bs' : List Nat), v = .slice a' bs'.length c ∧ Hid (Puts w wr wb lb s rv gb G a' c bs')) (fun v _ => lenV v)
  case atStart => exact ⟨a2, cap2, b2, rfl, HP.out⟩
  case round =>
    clear HP hsl1 hsl2 hmax
    obtain ⟨a', c, bs', rfl, HP⟩ := hrel
    by_cases hr : 0 < bs'.length
    · have hbne : bs' ≠ [] := List.length_pos_iff.1 hr
      obtain ⟨⟨rv', R', o', hI, hN, hG, hfull⟩, ⟨off', hB⟩, hK, hne⟩ := HP.out
      have hRs := hfull hbne
      obtain ⟨hg1, hg2, hg3⟩ := hne hbne
      obtain ⟨ra, rcap, rg, hrv, hRB, hrow⟩ := hI.form
      have ho := hI.o_
      obtain ⟨hra, cur, hcur, hcsz, hct, hcm⟩ := hrow.resolve_left (by rintro ⟨_, e⟩; rw [e] at hRs; simp at hRs; omega)
      subst hra
      have hrcap : s ≤ rcap := by rw [← hRs]; exact hRB.cap
      obtain ⟨m, hm⟩ : ∃ m : Nat, m = s - o' := ⟨_, rfl⟩
      obtain ⟨t', ht'⟩ : ∃ t' : Nat, t' = min bs'.length m := ⟨_, rfl⟩
      have hsl3 := run_low (some ⟨rg, 0, none⟩) s rcap o' (by omega)
      rw [if_neg (by omega), Option.map_some, add0, ← hm] at hsl3
      generalize rcap - o' = dcap at hsl3
      have kd : Keep noBlock wr wr.drew := (Keep.refl _ wr).drew
      have hcopy := run_copy_any wr.drew 3 rg o' m dcap (some ⟨rg, o', none⟩) (.slice a' bs'.length c) bs' cur t' (hB.keep kd (fun _ h => h)).src ht' (.inl rfl) (kd.obj hcur (fun h => h)) (by omega)
      obtain ⟨cs2, hcs2⟩ : ∃ cs2, cs2 = (cur.toList.take o' ++ u8s (bs'.take t') ++ cur.toList.drop (o' + t')).toArray := ⟨_, rfl⟩
      rw [← hcs2] at hcopy
      have r2 := setRow_heap wr.drew rg cur cs2 5 (0, 0) (kd.obj hcur (fun h => h))
      have k2 : Keep (fun k => k = rg) wr (wr.drew.setRow rg cs2) := keep_setRow (kd.mono (T := fun k => k = rg) (fun _ _ h => h.elim)) rg (fun _ => rfl) cs2
      generalize wr.drew.setRow rg cs2 = W2 at hcopy r2 k2
      have hrw : rg ≠ wb := by
        have := owns_ne hI.own hI.obj (by decide)
        rw [hrv] at this
        exact fun e => this (by rw [e]; rfl)
      have o2 := k2.obj hI.obj (fun e => hrw e.symm)
      obtain ⟨n2, hn2⟩ : ∃ n2 : Nat, n2 = o' + t' := ⟨_, rfl⟩
      have hn2s : n2 ≤ s := by omega
      have hadd : (o' : Int) + (t' : Int) = (n2 : Int) := by omega
      have hwn : IntKind.i64.wrap (n2 : Int) = (n2 : Int) := by rw [IntKind.wrap_i64]; omega
      obtain ⟨a3, off3, hsl4, hB3, -⟩ := hB.drop t' (by omega)
      have hrb : gb ≠ rg := by
        intro e
        rcases hN with q | ⟨q1, q, hq⟩
        · rw [hrv] at q; exact hg2 (by rw [← q, e]; rfl)
        · rw [hrv] at q
          have : rg = q1 := by simpa [Value.ownBlock] using q
          omega
      have c2 : wr.cell? ⟨wb, 2, none⟩ = some (.slice (some ⟨rg, 0, none⟩) s rcap) := by have := cell_of hI.obj 2; rw [hrv] at this; rw [← hRs]; exact this
      have c3 : wr.cell? ⟨wb, 3, none⟩ = some (.int .i64 (o' : Int)) := cell_of hI.obj 3
      have d0 : W2.cell? ⟨wb, 0, none⟩ = some (.int .i64 (s : Int)) := cell_of o2 0
      have d2 : W2.cell? ⟨wb, 2, none⟩ = some (.slice (some ⟨rg, 0, none⟩) s rcap) := by have := cell_of o2 2; rw [hrv] at this; rw [← hRs]; exact this
      have d3 : W2.cell? ⟨wb, 3, none⟩ = some (.int .i64 (o' : Int)) := cell_of o2 3
      have f3 := frozen_of o2 3
      -- what the round leaves
      have HE : Hid (∀ (W3 : World) (o3 : Nat), o3 = (if n2 = s then 0 else n2) → W3.heap[wb]? = some (.cells #[.int .i64 (s : Int), .pointer (some ⟨lb, 0, none⟩), rv', .int .i64 (o3 : Int)] 75 (0, 0)) → Keep (fun k => k = wb) W2 W3 → Puts w W3 wb lb s rv gb G a3 (c - t') (bs'.drop t')) := by
        intro W3 o3 ho3 hobj hk3
        have hY : (bs'.take t').length = t' := by rw [List.length_take]; omega
        have hov := over_length R' o' (bs'.take t') (by omega)
        have hrow3 := hk3.obj r2 hrw
        have hkk : Keep (fun k => k = wb ∨ rv.ownBlock = some k) w W3 := by
          refine (hK.trans k2 (fun i hi e => ?_)).trans hk3 (fun i hi e => .inl e)
          rcases hN with q | ⟨q1, q, hq⟩
          · rw [hrv] at q; exact .inr (by rw [← q, e]; rfl)
          · rw [hrv] at q
            have : rg = q1 := by simpa [Value.ownBlock] using q
            omega
        have eu : unr (over R' o' (bs'.take t')) o3 = lastN s (unr R' o' ++ bs'.take t') := by
          have hu := unr_over R' o' (bs'.take t') (by omega)
          rw [hRs] at hu
          rw [← hu, ho3, hY]
          by_cases e : n2 = s
          · rw [if_pos e, unr_zero, show o' + t' = (over R' o' (bs'.take t')).length by omega, unr_all]
          · rw [if_neg e, hn2]
        refine ⟨⟨rv', over R' o' (bs'.take t'), o3, ⟨hobj, ?_, lt_over hI.lt (lt_take hB.lt _) _, hI.s1, hI.s2, by omega, by rw [ho3]; split <;> omega, .inr (by omega)⟩, hN, ?_, fun _ => by omega⟩, ⟨off3, ?_⟩, hkk, fun e => ⟨hg1, hg2, hg3⟩⟩
        · rw [hrv, ← hov]
          exact owns_mk hrow3 (by omega) hcm (by rw [hcs2, size_over (by omega) hY]; exact hcsz) (by rw [hcs2, hov]; exact row_over hct (by omega) hY)
        · rw [eu, lastN_left, List.append_assoc, List.take_append_drop]; exact hG
        · exact hB3.keep (S := fun k => k = rg ∨ k = wb) ((k2.mono (fun _ _ e => .inl e)).trans hk3 (fun _ _ e => .inr e)) (fun _ q => q.elim hrb hg1)
      have HO := (show Hid (W2.heap[wb]? = some (.cells #[.int .i64 (s : Int), .pointer (some ⟨lb, 0, none⟩), rv', .int .i64 (o' : Int)] 75 (0, 0)) ∧ t' ≤ bs'.length ∧ 0 < t') from ⟨o2, by omega, by omega⟩)
      generalize hL4 : (bs'.drop t').length = L4 at hsl4
      have HL4 := (show Hid ((bs'.drop t').length = L4 ∧ L4 < bs'.length) from ⟨hL4, by rw [List.length_drop] at hL4; omega⟩)
      clear hI hN hG hfull hB hK hne hB3 o2 r2 k2 hcur hcsz hct hcs2 hRs hRB hrv hm ht' hn2 kd hL4 HP hbne hg2 hg3 hrb hcm hrcap
      by_cases hns : n2 = s
      · have hq : ((n2 : Int) == (s : Int)) = true := by simp; omega
        go_wp2_with fail
        go_region_held3 (fun w' => w'.cell? ⟨wb, 2, none⟩ = some (.slice (some ⟨rg, 0, none⟩) s rcap) ∧ w'.cell? ⟨wb, 3, none⟩ = some (.int .i64 (o' : Int))) (go_keep) ((fail))
        go_wp2_with fail
        go_quiet (fail)
        go_wp2_with fail
        go_roundw
        case rel =>
          refine ⟨a3, c - t', bs'.drop t', by rw [HL4.out.1], HE.out _ 0 (by rw [if_pos hns]) ((set_obj (w := (W2.setCell ⟨wb, 3, none⟩ (.int .i64 (s : Int))).drewN nq) (set_obj HO.out.1 3 _) 3 _).trans (by simp)) ?_⟩
          exact (((Keep.refl (fun k => k = wb) W2).setCell (p := ⟨wb, 3, none⟩) (fun _ => rfl) _).trans' (keep_drew' _ nq)).setCell (p := ⟨wb, 3, none⟩) (fun _ => rfl) _
        case measure => show L4 < bs'.length; exact HL4.out.2
      · have hq : ((n2 : Int) == (s : Int)) = false := by simp; omega
        have hq2 : ¬ (n2 : Int) = (s : Int) := by omega
        go_wp2_with fail
        go_region_held3 (fun w' => w'.cell? ⟨wb, 2, none⟩ = some (.slice (some ⟨rg, 0, none⟩) s rcap) ∧ w'.cell? ⟨wb, 3, none⟩ = some (.int .i64 (o' : Int))) (go_keep) ((fail))
        go_wp2_with fail
        go_quiet (fail)
        go_wp2_with fail
        go_roundw
        case rel =>
          refine ⟨a3, c - t', bs'.drop t', by rw [HL4.out.1], HE.out _ n2 (by rw [if_neg hns]) ((set_obj HO.out.1 3 _).trans (by simp)) ?_⟩
          exact ((Keep.refl (fun k => k = wb) W2).setCell (p := ⟨wb, 3, none⟩) (fun _ => rfl) _).trans' (keep_drew' _ nq)
        case measure => show L4 < bs'.length; exact HL4.out.2
    · obtain rfl : bs' = [] := List.length_eq_zero_iff.1 (by omega)
      obtain ⟨⟨rv', R', o', hI, hN, hG, -⟩, -, hK, -⟩ := HP.out
      have hle := hI.le
      rw [List.append_nil, lastN_all s _ (by rw [unr_length]; exact hle)] at hG
      go_wp2
      go_end0
      exact ⟨rfl, rv', ⟨R', o', hI, hG⟩, hN, hK⟩
end
end Go.Proofs.YtinhlkioeadfdaaDoor
