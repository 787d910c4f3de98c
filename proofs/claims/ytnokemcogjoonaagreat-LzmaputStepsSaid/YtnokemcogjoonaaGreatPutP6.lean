/-
  Bytes that are put into a window.
  The last bytes of a window, copied out.
  A window that is made, emptied, dropped.
  Bytes that are copied out of a window, and put.
  A window and its ledger, both in memory that is new since w.
  A reader as it lies: its state, decoder, window, and what is told; small calls of it.
-/
import Derived.Test.YtnokemcogjoonaaGreatPutP4
import Derived.Test.YtnokemcogjoonaaGreatPutP5
namespace Go.Proofs.YtnokemcogjoonaaGreat
open Go.RowKit Go.Shelf
set_option linter.unusedVariables false

def lenV : Value → Nat
  | .slice _ n _ => n
  | _ => 0
theorem row_over {L : List Value} {R Y : List Nat} {o t : Nat} (hl : L.take R.length = u8s R) (ho : o + t ≤ R.length) (hY : Y.length = t) : (L.take o ++ u8s Y ++ L.drop (o + t)).take R.length = u8s (over R o Y) := by
  have e : L = u8s R ++ L.drop R.length := by rw [← hl, List.take_append_drop]
  have e1 : L.take o = u8s (R.take o) := by
    rw [e, List.take_append_of_le_length (by rw [u8s_length]; omega), u8s_take]
  have e2 : L.drop (o + t) = u8s (R.drop (o + t)) ++ L.drop R.length := by
    conv => lhs; rw [e]
    rw [List.drop_append_of_le_length (by rw [u8s_length]; exact ho), u8s_drop]
  rw [e1, e2, ← List.append_assoc, ← u8s_app, ← u8s_app]
  have hl2 : (u8s (R.take o ++ Y ++ R.drop (o + t))).length = R.length := by
    rw [u8s_length, List.length_append, List.length_append, List.length_take, List.length_drop]; omega
  rw [List.take_left' hl2]
  unfold over
  rw [hY]
theorem size_over {L : Array Value} {Y : List Nat} {o t : Nat} (ho : o + t ≤ L.size) (hY : Y.length = t) : (L.toList.take o ++ u8s Y ++ L.toList.drop (o + t)).toArray.size = L.size := by
  simp [u8s_length, hY]; omega

/-- What goes round and round in Put: s bytes in the ring, bs' still to come. -/
structure Puts (w W : World) (wb lb s : Nat) (rv : Value) (gb : Nat) (G : List Nat) (a' : Option Addr) (c : Nat) (bs' : List Nat) : Prop where
  ex : ∃ rv' R' o', IsR W wb lb s rv' R' o' ∧ Near w rv rv' ∧ lastN s (unr R' o' ++ bs') = G ∧ (bs' ≠ [] → R'.length = s)
  bytes : ∃ off', Bytes W a' c gb off' bs'
  keep : Keep (fun k => k = wb ∨ rv.ownBlock = some k) w W
  ne : bs' ≠ [] → gb ≠ wb ∧ rv.ownBlock ≠ some gb ∧ gb < w.heap.size

section
attribute [local go_sem] maxSem6_eq minSem6_eq
attribute [local go_sem] sliceSem_eq
set_option maxRecDepth 100000 in
set_option maxHeartbeats 4000000 in
theorem put_any (wb lb s : Nat) (rv : Value) (M : List Nat) (a : Option Addr) (cap gb off : Nat) (bs : List Nat) (w : World) (h : IsW w wb lb s rv M) (hb : Bytes w a cap gb off bs) (hne : bs ≠ [] → gb ≠ wb ∧ rv.ownBlock ≠ some gb) :
    Calls Tryz.prog 22 #[.pointer (some ⟨wb, 0, none⟩), .slice a bs.length cap] w fun e w' => e = .returned (.tuple #[]) ∧ ∃ rv', IsW w' wb lb s rv' (lastN s (M ++ bs)) ∧ Near w rv rv' ∧ Keep (fun k => k = wb ∨ rv.ownBlock = some k) w w' := by
  obtain ⟨R, o, h, rfl⟩ := h
  have c0 : w.cell? ⟨wb, 0, none⟩ = some (.int .i64 (s : Int)) := cell_of h.obj 0
  have hs1 := h.s1
  have hs2 := h.s2
  have hlen := hb.len
  have hs0 : ¬ (s : Int) = 0 := by omega
  have hs0b : ((s : Int) == 0) = false := by simpa using hs0
  obtain ⟨k, hk⟩ : ∃ k : Nat, k = bs.length - s := ⟨_, rfl⟩
  obtain ⟨D, hD⟩ : ∃ D : Int, D = (bs.length : Int) - (s : Int) := ⟨_, rfl⟩
  have hmax := maxSem6_run #[3, 3] 3 0 D (k : Int) (by omega)
  have hsub : (bs.length : Int) - (s : Int) = D := hD.symm
  have hwD : IntKind.i64.wrap D = D := by rw [IntKind.wrap_i64]; omega
  obtain ⟨a1, off1, hsl1, hb1, -⟩ := hb.drop k (by omega)
  have e1 : bs.drop k = lastN s bs := by unfold lastN; rw [hk]
  rw [e1] at hsl1 hb1
  have hne1 : lastN s bs ≠ [] → gb ≠ wb ∧ rv.ownBlock ≠ some gb ∧ gb < w.heap.size := fun e =>
    have hb0 : bs ≠ [] := by rintro rfl; exact e (by simp [lastN])
    ⟨(hne hb0).1, (hne hb0).2, hb.block hb0⟩
  have hG : lastN s (unr R o ++ lastN s bs) = lastN s (unr R o ++ bs) := lastN_right s _ _
  rw [← hG]
  generalize lastN s bs = b1 at hsl1 hb1 hne1 ⊢
  generalize cap - k = cap1 at hsl1 hb1
  obtain ⟨t, ht⟩ : ∃ t : Nat, t = min b1.length (s - R.length) := ⟨_, rfl⟩
  have HFill := fill_any wb lb s o rv R a1 cap1 gb off1 b1 t w h hb1 (fun e => (hne1 e).1) ht
  obtain ⟨a2, off2, hsl2, hb2, -⟩ := hb1.drop t (by omega)
  obtain ⟨G, hGe⟩ : ∃ G, G = lastN s (unr R o ++ b1) := ⟨_, rfl⟩
  rw [← hGe]
  have HPost : Hid (∀ w1 rv1, IsR w1 wb lb s rv1 (R ++ b1.take t) o → Near w rv rv1 → Keep (fun k => k = wb ∨ rv.ownBlock = some k) w w1 → Puts w w1 wb lb s rv gb G a2 (cap1 - t) (b1.drop t)) := by
    intro w1 rv1 hI hN hK
    refine ⟨⟨rv1, R ++ b1.take t, o, hI, hN, ?_, fun e => ?_⟩, ⟨off2, hb2.keep hK (fun e => ?_)⟩, hK, fun e => hne1 (by rintro rfl; simp at e)⟩
    · rw [hGe]
      rcases h.rd with e | e
      · subst e; rw [unr_zero, unr_zero, List.append_assoc, List.take_append_drop]
      · have : t = 0 := by omega
        subst this; simp
    · have : 0 < (b1.drop t).length := List.length_pos_iff.2 e
      rw [List.length_drop] at this
      have hle := h.le
      rw [List.length_append, List.length_take]; omega
    · have := hne1 (by rintro rfl; simp at e)
      exact fun q => q.elim this.1 this.2.1
  clear hb hb1 hb2 hne hne1 hG hGe e1 ht hk hD h
  generalize b1.length = L1 at hsl1 hsl2 HFill
  generalize b1.drop t = b2 at hsl2 HPost
  generalize cap1 - t = cap2 at hsl2 HPost
  generalize bs.length = L at *
  go_enter Tryz.func22, Tryz.ntmps22
  go_wp2_with fail
  refine HFill.mono ?_
  clear HFill
  rintro e w1 ⟨rfl, rv1, hI1, hN1, hK1⟩
  have HP := (show Hid (Puts w w1 wb lb s rv gb G a2 cap2 b2) from HPost.out w1 rv1 hI1 hN1 hK1)
  clear hI1 hN1 hK1 HPost c0
  go_wp2_with fail
  go_loopw [1] (fun v wr => ∃ (a' : Option Addr) (c : Nat) (bs' : List Nat), v = .slice a' bs'.length c ∧ Hid (Puts w wr wb lb s rv gb G a' c bs')) (fun v _ => lenV v)
  case atStart => exact ⟨a2, cap2, b2, rfl, HP.out⟩
  case round =>
    clear HP hsl1 hsl2 hmax
    obtain ⟨a', c, bs', rfl, HP⟩ := hrel
    by_cases hr : 0 < bs'.length
    · have hbne : bs' ≠ [] := List.length_pos_iff.1 hr
      obtain ⟨⟨rv', R', o', hI, hN, hG, hfull⟩, ⟨off', hB⟩, hK, hne⟩ := HP.out
      have hRs := hfull hbne
      obtain ⟨hg1, hg2, hg3⟩ := hne hbne
      obtain ⟨ra, rcap, rg, hrv, hRB, hrow⟩ := hI.form
      have ho := hI.o_
      obtain ⟨hra, cur, hcur, hcsz, hct, hcm⟩ := hrow.resolve_left (by rintro ⟨_, e⟩; rw [e] at hRs; simp at hRs; omega)
      subst hra
      have hrcap : s ≤ rcap := by rw [← hRs]; exact hRB.cap
      obtain ⟨m, hm⟩ : ∃ m : Nat, m = s - o' := ⟨_, rfl⟩
      obtain ⟨t', ht'⟩ : ∃ t' : Nat, t' = min bs'.length m := ⟨_, rfl⟩
      have hsl3 := run_low (some ⟨rg, 0, none⟩) s rcap o' (by omega)
      rw [if_neg (by omega), Option.map_some, add0, ← hm] at hsl3
      generalize rcap - o' = dcap at hsl3
      have kd : Keep noBlock wr wr.drew := (Keep.refl _ wr).drew
      have hcopy := run_copy_any wr.drew 3 rg o' m dcap (some ⟨rg, o', none⟩) (.slice a' bs'.length c) bs' cur t' (hB.keep kd (fun _ h => h)).src ht' (.inl rfl) (kd.obj hcur (fun h => h)) (by omega)
      obtain ⟨cs2, hcs2⟩ : ∃ cs2, cs2 = (cur.toList.take o' ++ u8s (bs'.take t') ++ cur.toList.drop (o' + t')).toArray := ⟨_, rfl⟩
      rw [← hcs2] at hcopy
      have r2 := setRow_heap wr.drew rg cur cs2 5 (0, 0) (kd.obj hcur (fun h => h))
      have k2 : Keep (fun k => k = rg) wr (wr.drew.setRow rg cs2) := keep_setRow (kd.mono (T := fun k => k = rg) (fun _ _ h => h.elim)) rg (fun _ => rfl) cs2
      generalize wr.drew.setRow rg cs2 = W2 at hcopy r2 k2
      have hrw : rg ≠ wb := by
        have := owns_ne hI.own hI.obj (by decide)
        rw [hrv] at this
        exact fun e => this (by rw [e]; rfl)
      have o2 := k2.obj hI.obj (fun e => hrw e.symm)
      obtain ⟨n2, hn2⟩ : ∃ n2 : Nat, n2 = o' + t' := ⟨_, rfl⟩
      have hn2s : n2 ≤ s := by omega
      have hadd : (o' : Int) + (t' : Int) = (n2 : Int) := by omega
      have hwn : IntKind.i64.wrap (n2 : Int) = (n2 : Int) := by rw [IntKind.wrap_i64]; omega
      obtain ⟨a3, off3, hsl4, hB3, -⟩ := hB.drop t' (by omega)
      have hrb : gb ≠ rg := by
        intro e
        rcases hN with q | ⟨q1, q, hq⟩
        · rw [hrv] at q; exact hg2 (by rw [← q, e]; rfl)
        · rw [hrv] at q
          have : rg = q1 := by simpa [Value.ownBlock] using q
          omega
      have c2 : wr.cell? ⟨wb, 2, none⟩ = some (.slice (some ⟨rg, 0, none⟩) s rcap) := by have := cell_of hI.obj 2; rw [hrv] at this; rw [← hRs]; exact this
      have c3 : wr.cell? ⟨wb, 3, none⟩ = some (.int .i64 (o' : Int)) := cell_of hI.obj 3
      have d0 : W2.cell? ⟨wb, 0, none⟩ = some (.int .i64 (s : Int)) := cell_of o2 0
      have d2 : W2.cell? ⟨wb, 2, none⟩ = some (.slice (some ⟨rg, 0, none⟩) s rcap) := by have := cell_of o2 2; rw [hrv] at this; rw [← hRs]; exact this
      have d3 : W2.cell? ⟨wb, 3, none⟩ = some (.int .i64 (o' : Int)) := cell_of o2 3
      have f3 := frozen_of o2 3
      -- what the round leaves
      have HE : Hid (∀ (W3 : World) (o3 : Nat), o3 = (if n2 = s then 0 else n2) → W3.heap[wb]? = some (.cells #[.int .i64 (s : Int), .pointer (some ⟨lb, 0, none⟩), rv', .int .i64 (o3 : Int)] 114 (0, 0)) → Keep (fun k => k = wb) W2 W3 → Puts w W3 wb lb s rv gb G a3 (c - t') (bs'.drop t')) := by
        intro W3 o3 ho3 hobj hk3
        have hY : (bs'.take t').length = t' := by rw [List.length_take]; omega
        have hov := over_length R' o' (bs'.take t') (by omega)
        have hrow3 := hk3.obj r2 hrw
        have hkk : Keep (fun k => k = wb ∨ rv.ownBlock = some k) w W3 := by
          refine (hK.trans k2 (fun i hi e => ?_)).trans hk3 (fun i hi e => .inl e)
          rcases hN with q | ⟨q1, q, hq⟩
          · rw [hrv] at q; exact .inr (by rw [← q, e]; rfl)
          · rw [hrv] at q
            have : rg = q1 := by simpa [Value.ownBlock] using q
            omega
        have eu : unr (over R' o' (bs'.take t')) o3 = lastN s (unr R' o' ++ bs'.take t') := by
          have hu := unr_over R' o' (bs'.take t') (by omega)
          rw [hRs] at hu
          rw [← hu, ho3, hY]
          by_cases e : n2 = s
          · rw [if_pos e, unr_zero, show o' + t' = (over R' o' (bs'.take t')).length by omega, unr_all]
          · rw [if_neg e, hn2]
        refine ⟨⟨rv', over R' o' (bs'.take t'), o3, ⟨hobj, ?_, lt_over hI.lt (lt_take hB.lt _) _, hI.s1, hI.s2, by omega, by rw [ho3]; split <;> omega, .inr (by omega)⟩, hN, ?_, fun _ => by omega⟩, ⟨off3, ?_⟩, hkk, fun e => ⟨hg1, hg2, hg3⟩⟩
        · rw [hrv, ← hov]
          exact owns_mk hrow3 (by omega) hcm (by rw [hcs2, size_over (by omega) hY]; exact hcsz) (by rw [hcs2, hov]; exact row_over hct (by omega) hY)
        · rw [eu, lastN_left, List.append_assoc, List.take_append_drop]; exact hG
        · exact hB3.keep (S := fun k => k = rg ∨ k = wb) ((k2.mono (fun _ _ e => .inl e)).trans hk3 (fun _ _ e => .inr e)) (fun _ q => q.elim hrb hg1)
      have HO := (show Hid (W2.heap[wb]? = some (.cells #[.int .i64 (s : Int), .pointer (some ⟨lb, 0, none⟩), rv', .int .i64 (o' : Int)] 114 (0, 0)) ∧ t' ≤ bs'.length ∧ 0 < t') from ⟨o2, by omega, by omega⟩)
      generalize hL4 : (bs'.drop t').length = L4 at hsl4
      have HL4 := (show Hid ((bs'.drop t').length = L4 ∧ L4 < bs'.length) from ⟨hL4, by rw [List.length_drop] at hL4; omega⟩)
      clear hI hN hG hfull hB hK hne hB3 o2 r2 k2 hcur hcsz hct hcs2 hRs hRB hrv hm ht' hn2 kd hL4 HP hbne hg2 hg3 hrb hcm hrcap
      by_cases hns : n2 = s
      · have hq : ((n2 : Int) == (s : Int)) = true := by simp; omega
        go_wp2_with fail
        go_region_held3 (fun w' => w'.cell? ⟨wb, 2, none⟩ = some (.slice (some ⟨rg, 0, none⟩) s rcap) ∧ w'.cell? ⟨wb, 3, none⟩ = some (.int .i64 (o' : Int))) (go_keep) ((fail))
        go_wp2_with fail
        go_quiet (fail)
        go_wp2_with fail
        go_roundw
        case rel =>
          refine ⟨a3, c - t', bs'.drop t', by rw [HL4.out.1], HE.out _ 0 (by rw [if_pos hns]) ((set_obj (w := (W2.setCell ⟨wb, 3, none⟩ (.int .i64 (s : Int))).drewN nq) (set_obj HO.out.1 3 _) 3 _).trans (by simp)) ?_⟩
          exact (((Keep.refl (fun k => k = wb) W2).setCell (p := ⟨wb, 3, none⟩) (fun _ => rfl) _).trans' (keep_drew' _ nq)).setCell (p := ⟨wb, 3, none⟩) (fun _ => rfl) _
        case measure => show L4 < bs'.length; exact HL4.out.2
      · have hq : ((n2 : Int) == (s : Int)) = false := by simp; omega
        have hq2 : ¬ (n2 : Int) = (s : Int) := by omega
        go_wp2_with fail
        go_region_held3 (fun w' => w'.cell? ⟨wb, 2, none⟩ = some (.slice (some ⟨rg, 0, none⟩) s rcap) ∧ w'.cell? ⟨wb, 3, none⟩ = some (.int .i64 (o' : Int))) (go_keep) ((fail))
        go_wp2_with fail
        go_quiet (fail)
        go_wp2_with fail
        go_roundw
        case rel =>
          refine ⟨a3, c - t', bs'.drop t', by rw [HL4.out.1], HE.out _ n2 (by rw [if_neg hns]) ((set_obj HO.out.1 3 _).trans (by simp)) ?_⟩
          exact ((Keep.refl (fun k => k = wb) W2).setCell (p := ⟨wb, 3, none⟩) (fun _ => rfl) _).trans' (keep_drew' _ nq)
        case measure => show L4 < bs'.length; exact HL4.out.2
    · obtain rfl : bs' = [] := List.length_eq_zero_iff.1 (by omega)
      obtain ⟨⟨rv', R', o', hI, hN, hG, -⟩, -, hK, -⟩ := HP.out
      have hle := hI.le
      rw [List.append_nil, lastN_all s _ (by rw [unr_length]; exact hle)] at hG
      go_wp2
      go_end0
      exact ⟨rfl, rv', ⟨R', o', hI, hG⟩, hN, hK⟩
end
end Go.Proofs.YtnokemcogjoonaaGreat

namespace Go.Proofs.YtnokemcogjoonaaGreat
open Go.RowKit Go.Shelf
set_option linter.unusedVariables false

set_option maxHeartbeats 1000000 in
theorem place_lo (wb o back p : Nat) (w : World) (c3 : w.cell? ⟨wb, 3, none⟩ = some (.int .i64 (o : Int))) (hb : back ≤ o) (hp : p = o - back) (ho : o ≤ 16777216) :
    Calls Tryz.prog 108 #[.pointer (some ⟨wb, 0, none⟩), .int .i64 (back : Int)] w fun e w' => e = .returned (.int .i64 (p : Int)) ∧ w' = w := by
  have hq : (o : Int) - back = (p : Int) := by omega
  have hbI : (back : Int) ≤ (o : Int) := by omega
  clear hp
  go_enter Tryz.func108, Tryz.ntmps108
  go_wp2_with fail
  go_ret
  exact ⟨rfl, rfl⟩
set_option maxHeartbeats 1000000 in
theorem place_hi (wb o back p : Nat) (a : Option Addr) (n cap : Nat) (w : World) (c2 : w.cell? ⟨wb, 2, none⟩ = some (.slice a n cap)) (c3 : w.cell? ⟨wb, 3, none⟩ = some (.int .i64 (o : Int))) (hb : ¬ back ≤ o) (hn : back ≤ n) (hp : p = o + n - back) (hn2 : n ≤ 16777216) (ho : o ≤ 16777216) :
    Calls Tryz.prog 108 #[.pointer (some ⟨wb, 0, none⟩), .int .i64 (back : Int)] w fun e w' => e = .returned (.int .i64 (p : Int)) ∧ w' = w.drew := by
  obtain ⟨D, hD⟩ : ∃ D : Int, D = (o : Int) - back := ⟨_, rfl⟩
  have hq1 : IntKind.i64.wrap ((o : Int) - back) = D := by rw [IntKind.wrap_i64]; omega
  have hq2 : IntKind.i64.wrap (D + n) = (p : Int) := by rw [IntKind.wrap_i64]; omega
  have hbI : ¬ (back : Int) ≤ (o : Int) := by omega
  clear hp hD
  go_enter Tryz.func108, Tryz.ntmps108
  go_wp2_with fail
  go_region_held3 (fun w' => w'.cell? ⟨wb, 2, none⟩ = some (.slice a n cap) ∧ w'.cell? ⟨wb, 3, none⟩ = some (.int .i64 (o : Int))) (go_keep) ((fail))
  go_wp2_with fail
  go_ret
  exact ⟨rfl, rfl⟩

section
attribute [local go_sem] maxSem6_eq minSem6_eq
attribute [local go_sem] sliceSem_eq
set_option maxRecDepth 100000 in
set_option maxHeartbeats 4000000 in
theorem last_any (wb lb s o : Nat) (rv : Value) (R : List Nat) (g n back t : Nat) (Z : List Nat) (w : World) (h : IsR w wb lb s rv R o) (hz : w.heap[g]? = some (.cells (u8s Z).toArray 5 (0, 0))) (hZ : Z.length = n)
    (hg : rv.ownBlock ≠ some g) (h1 : 1 ≤ back) (h2 : back ≤ R.length) (hn : n ≤ 16777216) (ht : t = min n back) :
    Calls Tryz.prog 104 #[.pointer (some ⟨wb, 0, none⟩), .slice (some ⟨g, 0, none⟩) n n, .int .i64 (back : Int)] w fun e w' => e = .returned (.int .i64 (t : Int)) ∧ w'.heap[g]? = some (.cells (u8s (outL (unr R o) back t ++ Z.drop t)).toArray 5 (0, 0)) ∧ Keep (fun k => k = g) w w' := by
  obtain ⟨ra, rcap, rg, hrv, hRB, hrow⟩ := h.form
  have c2 : w.cell? ⟨wb, 2, none⟩ = some (.slice ra R.length rcap) := by have := cell_of h.obj 2; rw [hrv] at this; exact this
  have c3 : w.cell? ⟨wb, 3, none⟩ = some (.int .i64 (o : Int)) := cell_of h.obj 3
  have ho := h.o_
  have hs2 := h.s2
  have hle := h.le
  have hole := h.ole
  have hgw : g ≠ wb := by
    intro e
    have := h.obj
    rw [← e, hz] at this
    simp at this
  have hmin := minSem6_run #[3, 3] 3 (n : Int) (back : Int) (t : Int) (by omega)
  have hsl1 := run_high (some ⟨g, 0, none⟩) n n t (by omega)
  have hplt := place_lt R.length o back hole h1 h2
  have hpt := place_take R o back t hole h1 h2 (by omega)
  obtain ⟨p, hp⟩ : ∃ p, p = place R.length o back := ⟨_, rfl⟩
  rw [← hp] at hplt hpt
  have hout := outL_first (unr R o) back t h1 (by rw [unr_length]; exact h2) (by omega)
  rw [unr_length] at hout
  rw [hout] at hpt
  obtain ⟨a1, off1, hsl2, hB1, -⟩ := hRB.drop p (by omega)
  obtain ⟨t1, ht1⟩ : ∃ t1 : Nat, t1 = min (R.drop p).length t := ⟨_, rfl⟩
  have hne : R ≠ [] := by rintro rfl; simp at h2; omega
  have hrg : rg ≠ g := by
    obtain ⟨hra, _⟩ := hrow.resolve_left (fun e => hne e.2)
    rw [hrv, hra] at hg
    exact fun e => hg (by rw [e]; rfl)
  have hsl3 := run_low (some ⟨g, 0, none⟩) t n t1 (by omega)
  obtain ⟨da, hda⟩ : ∃ da : Option Addr, da = (if n = t1 then some ⟨g, 0, none⟩ else (some (⟨g, 0, none⟩ : Addr)).map (fun x => x.add t1)) := ⟨_, rfl⟩
  rw [← hda] at hsl3
  have hda2 : da = some ⟨g, t1, none⟩ ∨ t - t1 = 0 := by
    by_cases e : n = t1
    · right; omega
    · left; rw [hda, if_neg e, Option.map_some, add0]
  clear hda
  obtain ⟨t2, ht2⟩ : ∃ t2 : Nat, t2 = min R.length (t - t1) := ⟨_, rfl⟩
  have hsum : t1 + t2 = t := by rw [List.length_drop] at ht1; omega
  have hadd : (t1 : Int) + (t2 : Int) = (t : Int) := by omega
  have hwt : IntKind.i64.wrap (t : Int) = (t : Int) := by rw [IntKind.wrap_i64]; omega
  -- both copies, from any world that has the heap of w
  have HC : Hid (∀ W : World, W.heap = w.heap → Keep noBlock w W → ∃ W2, (Builtin.copy_ #[22, 22] 3 #[.slice (some ⟨g, 0, none⟩) t n, .slice a1 (R.drop p).length (rcap - p)]).run Tryz.prog W = .ok (.int .i64 (t1 : Int)) W2 ∧ Keep (fun k => k = g) w W2 ∧
      ∀ W3 : World, W3.heap = W2.heap → Keep noBlock W2 W3 → ∃ W4, (Builtin.copy_ #[22, 22] 3 #[.slice da (t - t1) (n - t1), .slice ra R.length rcap]).run Tryz.prog W3 = .ok (.int .i64 (t2 : Int)) W4 ∧ Keep (fun k => k = g) w W4 ∧ W4.heap[g]? = some (.cells (u8s (outL (unr R o) back t ++ Z.drop t)).toArray 5 (0, 0))) := by
    intro W hW hkW
    have z1 : W.heap[g]? = some (.cells (u8s Z).toArray 5 (0, 0)) := by rw [hW]; exact hz
    have c1 := run_copy_any W 3 g 0 t n (some ⟨g, 0, none⟩) (.slice a1 (R.drop p).length (rcap - p)) (R.drop p) (u8s Z).toArray t1 (hB1.keep hkW (fun _ h => h)).src ht1 (.inl rfl) z1 (by simp [u8s_length]; omega)
    have r1 := setRow_heap W g (u8s Z).toArray ((u8s Z).toArray.toList.take 0 ++ u8s ((R.drop p).take t1) ++ (u8s Z).toArray.toList.drop (0 + t1)).toArray 5 (0, 0) z1
    have k1 := keep_setRow (hkW.mono (T := fun k => k = g) (fun _ _ h => h.elim)) g (fun _ => rfl) ((u8s Z).toArray.toList.take 0 ++ u8s ((R.drop p).take t1) ++ (u8s Z).toArray.toList.drop (0 + t1)).toArray
    refine ⟨_, c1, k1, fun W3 hW3 hk3 => ?_⟩
    generalize W.setRow g _ = W2 at r1 k1 hW3 hk3
    have e1 : ((u8s Z).toArray.toList.take 0 ++ u8s ((R.drop p).take t1) ++ (u8s Z).toArray.toList.drop (0 + t1)).toArray = (u8s ((R.drop p).take t1 ++ Z.drop t1)).toArray := by
      simp [u8s_app, u8s_drop]
    rw [e1] at r1
    have z3 : W3.heap[g]? = some (.cells (u8s ((R.drop p).take t1 ++ Z.drop t1)).toArray 5 (0, 0)) := by rw [hW3]; exact r1
    have k3 : Keep (fun k => k = g) w W3 := k1.trans hk3 (fun _ _ h => h.elim)
    have hl1 : ((R.drop p).take t1).length = t1 := by rw [List.length_take]; omega
    have c3 := run_copy_any W3 3 g t1 (t - t1) (n - t1) da (.slice ra R.length rcap) R (u8s ((R.drop p).take t1 ++ Z.drop t1)).toArray t2 (hRB.keep k3 (fun _ => hrg)).src ht2 (hda2.elim (fun e => .inl e) (fun e => .inr (by omega))) z3 (by simp [u8s_length, hl1]; omega)
    refine ⟨_, c3, keep_setRow k3 g (fun _ => rfl) _, ?_⟩
    rw [setRow_heap W3 g _ _ 5 (0, 0) z3]
    congr 2
    have e2 : (u8s ((R.drop p).take t1 ++ Z.drop t1)).toArray.toList.take t1 = u8s ((R.drop p).take t1) := by
      rw [List.toList_toArray, u8s_app]; exact List.take_left' (by rw [u8s_length, hl1])
    have e3 : (u8s ((R.drop p).take t1 ++ Z.drop t1)).toArray.toList.drop (t1 + t2) = u8s (Z.drop t) := by
      rw [List.toList_toArray, u8s_drop, List.drop_append, List.drop_eq_nil_of_le (by omega), List.nil_append, List.drop_drop, hl1]
      congr 2; omega
    have eA : (R.drop p).take t1 = (R.drop p).take t := List.take_eq_take_iff.2 (by omega)
    have eB : R.take t2 = R.take (t - (R.drop p).length) := List.take_eq_take_iff.2 (by omega)
    rw [e2, e3, ← u8s_app, ← u8s_app, ← hpt, List.take_append, eA, eB]
  clear hpt hout hB1 hRB hrow
  have hnI : (n : Int) ≤ 16777216 := by omega
  generalize (R.drop p).length = Lp at hsl2 HC
  generalize rcap - p = cp at hsl2 HC
  have HZ := (show Hid (w.heap[g]? = some (.cells (u8s Z).toArray 5 (0, 0))) from hz)
  clear hz ht1 ht2 ht
  by_cases hb : back ≤ o
  · have HP := place_lo wb o back p w.drew c3 hb (by rw [hp]; unfold place; rw [if_pos hb]) (by omega)
    obtain ⟨W2, hc1, kw2, HC2⟩ := HC.out w.drew rfl (Keep.refl _ w).drew
    obtain ⟨W4, hc2, kw4, z4⟩ := HC2 W2.drew rfl (Keep.refl _ W2).drew
    have d2 : W2.cell? ⟨wb, 2, none⟩ = some (.slice ra R.length rcap) := by have := cell_of (kw2.obj h.obj (fun e => hgw e.symm)) 2; rw [hrv] at this; exact this
    have d4 : W4.cell? ⟨wb, 2, none⟩ = some (.slice ra R.length rcap) := by have := cell_of (kw4.obj h.obj (fun e => hgw e.symm)) 2; rw [hrv] at this; exact this
    have HF := (show Hid (W4.heap[g]? = some (.cells (u8s (outL (unr R o) back t ++ Z.drop t)).toArray 5 (0, 0)) ∧ Keep (fun k => k = g) w W4) from ⟨z4, kw4⟩)
    clear HC HC2 kw2 kw4 z4 h hrv hp HZ hg
    go_enter Tryz.func104, Tryz.ntmps104
    go_wp2_with fail
    go_region_held3 (fun w' => w'.cell? ⟨wb, 2, none⟩ = some (.slice ra R.length rcap)) (go_keep) ((first | (go_at_call 108; refine HP.mono ?_; rintro e w2 ⟨rfl, rfl⟩)))
    go_wp2_with fail
    go_region_held3 (fun w' => w'.cell? ⟨wb, 2, none⟩ = some (.slice ra R.length rcap)) (go_keep) ((fail))
    go_wp2_with fail
    go_ret
    exact ⟨rfl, HF.out⟩
  · have HP := place_hi wb o back p ra R.length rcap w.drew c2 c3 hb h2 (by rw [hp]; unfold place; rw [if_neg hb]) (by omega) (by omega)
    obtain ⟨W2, hc1, kw2, HC2⟩ := HC.out w.drew.drew rfl (Keep.refl _ w).drew.drew
    obtain ⟨W4, hc2, kw4, z4⟩ := HC2 W2.drew rfl (Keep.refl _ W2).drew
    have d2 : W2.cell? ⟨wb, 2, none⟩ = some (.slice ra R.length rcap) := by have := cell_of (kw2.obj h.obj (fun e => hgw e.symm)) 2; rw [hrv] at this; exact this
    have d4 : W4.cell? ⟨wb, 2, none⟩ = some (.slice ra R.length rcap) := by have := cell_of (kw4.obj h.obj (fun e => hgw e.symm)) 2; rw [hrv] at this; exact this
    have HF := (show Hid (W4.heap[g]? = some (.cells (u8s (outL (unr R o) back t ++ Z.drop t)).toArray 5 (0, 0)) ∧ Keep (fun k => k = g) w W4) from ⟨z4, kw4⟩)
    clear HC HC2 kw2 kw4 z4 h hrv hp HZ hg
    go_enter Tryz.func104, Tryz.ntmps104
    go_wp2_with fail
    go_region_held3 (fun w' => w'.cell? ⟨wb, 2, none⟩ = some (.slice ra R.length rcap)) (go_keep) ((first | (go_at_call 108; refine HP.mono ?_; rintro e w2 ⟨rfl, rfl⟩)))
    go_wp2_with fail
    go_region_held3 (fun w' => w'.cell? ⟨wb, 2, none⟩ = some (.slice ra R.length rcap)) (go_keep) ((fail))
    go_wp2_with fail
    go_ret
    exact ⟨rfl, HF.out⟩
end
end Go.Proofs.YtnokemcogjoonaaGreat

namespace Go.Proofs.YtnokemcogjoonaaGreat
open Go.RowKit Go.Shelf
set_option linter.unusedVariables false

set_option maxHeartbeats 1000000 in
theorem new_arg (size : Int) (v : Value) (w : World) (h : ¬ (1 ≤ size ∧ size ≤ 16777216)) :
    Calls Tryz.prog 32 #[.int .i64 size, v] w fun e w' => e = .returned (.tuple #[.pointer none, .int .i64 2]) ∧ w' = w := by
  by_cases h1 : size < 1
  · go_enter Tryz.func32, Tryz.ntmps32
    go_wp2_with fail
    go_ret2
    exact ⟨rfl, rfl⟩
  · have h2 : 16777216 < size := by omega
    go_enter Tryz.func32, Tryz.ntmps32
    go_wp2_with fail
    go_ret2
    exact ⟨rfl, rfl⟩
set_option maxHeartbeats 1000000 in
theorem new_nil (size : Int) (w : World) (h1 : 1 ≤ size) (h2 : size ≤ 16777216) :
    Calls Tryz.prog 32 #[.int .i64 size, .pointer none] w fun e w' => e = .returned (.tuple #[.pointer none, .int .i64 1]) ∧ w' = w := by
  have h1' : ¬ size < 1 := by omega
  have h2' : ¬ 16777216 < size := by omega
  go_enter Tryz.func32, Tryz.ntmps32
  go_wp2_with fail
  refine (charge_nil size _).mono ?_
  rintro e w1 ⟨rfl, rfl⟩
  go_wp2_with fail
  go_ret2
  exact ⟨rfl, rfl⟩
set_option maxHeartbeats 1000000 in
theorem new_over (s lb B now most : Nat) (w : World) (h1 : 1 ≤ s) (h2 : s ≤ 16777216) (hL : IsL w lb B now most) (ho : B < now + s) :
    Calls Tryz.prog 32 #[.int .i64 (s : Int), .pointer (some ⟨lb, 0, none⟩)] w fun e w' => e = .returned (.tuple #[.pointer none, .int .i64 40]) ∧ w' = w := by
  have h1' : ¬ (s : Int) < 1 := by omega
  have h2' : ¬ 16777216 < (s : Int) := by omega
  go_enter Tryz.func32, Tryz.ntmps32
  go_wp2_with fail
  refine (charge_over lb B now most s ho _ hL).mono ?_
  rintro e w1 ⟨rfl, rfl⟩
  go_wp2_with fail
  go_ret2
  exact ⟨rfl, rfl⟩
set_option maxHeartbeats 1000000 in
theorem wnew_ok (s lb B now most : Nat) (w : World) (h1 : 1 ≤ s) (h2 : s ≤ 16777216) (hL : IsL w lb B now most) (ho : now + s ≤ B) :
    Calls Tryz.prog 32 #[.int .i64 (s : Int), .pointer (some ⟨lb, 0, none⟩)] w fun e w' => ∃ wb, e = .returned (.tuple #[.pointer (some ⟨wb, 0, none⟩), .int .i64 0]) ∧ w.heap.size ≤ wb ∧ IsW w' wb lb s (.slice none 0 0) [] ∧ IsL w' lb B (now + s) (max (now + s) most) ∧ Keep (fun k => k = lb) w w' := by
  have h1' : ¬ (s : Int) < 1 := by omega
  have h2' : ¬ 16777216 < (s : Int) := by omega
  go_enter Tryz.func32, Tryz.ntmps32
  go_wp2_with fail
  refine (charge_ok lb B now most s ho _ hL).mono ?_
  rintro e w1 ⟨rfl, hL1, hK1⟩
  go_wp2_with fail
  go_ret2
  refine ⟨w1.heap.size, rfl, hK1.size, ⟨[], 0, ⟨alloc_new w1 _, ⟨rfl, .inl ⟨rfl, rfl⟩⟩, fun j => by simp, h1, h2, Nat.zero_le _, by omega, .inl rfl⟩, rfl⟩, hL1.keep ((Keep.refl noBlock w1).alloc _) (fun h => h), hK1.alloc _⟩

section
attribute [local go_sem] sliceSem_eq
end

end Go.Proofs.YtnokemcogjoonaaGreat

namespace Go.Proofs.YtnokemcogjoonaaGreat
open Go.RowKit Go.Shelf
set_option linter.unusedVariables false

/-- Copied: d bytes are there. -/
structure Done (w W : World) (g : Nat) (M : List Nat) (back n d : Nat) : Prop where
  row : W.heap[g]? = some (.cells (u8s (outL M back d ++ List.replicate (n - d) 0)).toArray 5 (0, 0))
  le : d ≤ n
  keep : Keep noBlock w W
  many : d = n ∨ (back ∣ d ∧ 0 < d)
theorem bytes_row {W : World} {g : Nat} {X : List Nat} {cs : List Value} (h : W.heap[g]? = some (.cells (u8s X ++ cs).toArray 5 (0, 0))) (cap : Nat) (hX : ∀ j : Nat, X[j]?.getD 0 < 256) (hc : X.length ≤ cap) (hl : X.length < 2 ^ 48) : Bytes W (some ⟨g, 0, none⟩) cap g 0 X := by
  refine ⟨.inl rfl, (fun e => by cases e), fun j hj => ?_, hX, hc, hl⟩
  rw [Nat.zero_add, cell_of h j, List.getElem?_toArray, List.getElem?_append_left (by rw [u8s_length]; exact hj)]
  exact u8s_at X j hj
theorem Done.next {w W : World} {g : Nat} {M : List Nat} {back n d t : Nat} (h : Done w W g M back n d) (hg : w.heap.size ≤ g) (hd : d < n) (ht : t = min d (n - d)) {W' : World} (hW : W'.heap[g]? = some (.cells ((u8s (outL M back d ++ List.replicate (n - d) 0)).toArray.toList.take d ++ u8s ((outL M back d).take t) ++ (u8s (outL M back d ++ List.replicate (n - d) 0)).toArray.toList.drop (d + t)).toArray 5 (0, 0))) (hK : Keep (fun k => k = g) W W') : Done w W' g M back n (d + t) := by
  obtain ⟨hdv, h0⟩ := h.many.resolve_left (by omega)
  refine ⟨?_, by omega, h.keep.trans hK (fun i hi e => by omega), ?_⟩
  · rw [hW]
    have e1 : (u8s (outL M back d ++ List.replicate (n - d) 0)).toArray.toList.take d = u8s (outL M back d) := by
      rw [List.toList_toArray, u8s_app]; exact List.take_left' (by rw [u8s_length, outL_length])
    have e2 : (u8s (outL M back d ++ List.replicate (n - d) 0)).toArray.toList.drop (d + t) = u8s (List.replicate (n - (d + t)) 0) := by
      rw [List.toList_toArray, u8s_drop, List.drop_append, List.drop_eq_nil_of_le (by rw [outL_length]; omega), List.nil_append, outL_length, List.drop_replicate]
      congr 2; omega
    rw [e1, e2, ← u8s_app, ← u8s_app, outL_more M back d t hdv (by omega)]
  · by_cases e : d + t = n
    · exact .inl e
    · right
      have : t = d := by omega
      subst this
      exact ⟨Nat.dvd_add hdv hdv, by omega⟩

section
attribute [local go_sem] maxSem6_eq minSem6_eq
attribute [local go_sem] sliceSem_eq
set_option maxRecDepth 100000 in
set_option maxHeartbeats 4000000 in
theorem copy_ok (wb lb s : Nat) (rv : Value) (M : List Nat) (back n : Nat) (w : World) (h : IsW w wb lb s rv M) (h1 : 1 ≤ back) (h2 : back ≤ M.length) (hn : n ≤ 16777216) :
    Calls Tryz.prog 78 #[.pointer (some ⟨wb, 0, none⟩), .int .i64 (back : Int), .int .i64 (n : Int)] w fun e w' => e = .returned (.tuple #[.slice (some ⟨w.heap.size, 0, none⟩) n n, .int .i64 0]) ∧
      w'.heap[w.heap.size]? = some (.cells (u8s (outL M back n)).toArray 5 (0, 0)) ∧ ∃ rv', IsW w' wb lb s rv' (lastN s (M ++ outL M back n)) ∧ Near w rv rv' ∧ rv'.ownBlock ≠ some w.heap.size ∧ Keep (fun k => k = wb ∨ rv.ownBlock = some k) w w' := by
  have HW := (show Hid (IsW w wb lb s rv M) from h)
  have hlen := h.len
  have hltM := h.lt
  obtain ⟨R, o, hI, hM⟩ := h
  obtain ⟨ra, rcap, rg, hrv, -, -⟩ := hI.form
  have c0 : w.cell? ⟨wb, 0, none⟩ = some (.int .i64 (s : Int)) := cell_of hI.obj 0
  have c2 : w.cell? ⟨wb, 2, none⟩ = some (.slice ra R.length rcap) := by have := cell_of hI.obj 2; rw [hrv] at this; exact this
  have hRM : R.length = M.length := by rw [← hM, unr_length]
  have hs0 : ¬ (s : Int) = 0 := by omega
  have hs0b : ((s : Int) == 0) = false := by simpa using hs0
  have hn0 : ¬ (n : Int) < 0 := by omega
  have hn1 : ¬ 16777216 < (n : Int) := by omega
  have hr := reaches_cell wb ra R.length rcap (back : Int) w c2
  rw [decide_eq_true (show 1 ≤ (back : Int) ∧ (back : Int) ≤ (R.length : Int) by omega)] at hr
  have hmk := run_make_u8 n n (Nat.le_refl _) (by omega)
  obtain ⟨W1, hW1⟩ : ∃ W1, W1 = w.alloc (.cells (u8s (List.replicate n 0)).toArray 5) := ⟨_, rfl⟩
  have k1 : Keep noBlock w W1 := by rw [hW1]; exact (Keep.refl _ w).alloc _
  have z1 : W1.heap[w.heap.size]? = some (.cells (u8s (List.replicate n 0)).toArray 5 (0, 0)) := by rw [hW1]; exact alloc_new w _
  have hrg : rv.ownBlock ≠ some w.heap.size := fun e => absurd (HW.out.ring_lt e) (Nat.lt_irrefl _)
  obtain ⟨t, ht⟩ : ∃ t : Nat, t = min n back := ⟨_, rfl⟩
  have HL := last_any wb lb s o rv R w.heap.size n back t (List.replicate n 0) W1 (hI.keep k1 (fun h => h) (fun _ _ h => h)) z1 (by simp) hrg h1 (by omega) hn ht
  rw [hM] at HL
  have HS : Hid (∀ W2, W2.heap[w.heap.size]? = some (.cells (u8s (outL M back t ++ (List.replicate n 0).drop t)).toArray 5 (0, 0)) → Keep (fun k => k = w.heap.size) W1 W2 → Done w W2 w.heap.size M back n t) := by
    intro W2 hz hk
    refine ⟨by rw [hz, List.drop_replicate], by omega, k1.trans hk (fun i hi e => by omega), ?_⟩
    by_cases e : t = n
    · exact .inl e
    · right
      have : t = back := by omega
      subst this; exact ⟨Nat.dvd_refl _, h1⟩
  have hmk1 := hmk w
  rw [← hW1] at hmk1
  clear hI hM hRM hrv k1 z1 hW1 hmk ht
  go_enter Tryz.func78, Tryz.ntmps78
  go_wp2_with fail
  refine hr.mono ?_
  rintro e w1 ⟨rfl, rfl⟩
  clear hr
  go_wp2_with fail
  refine HL.mono ?_
  rintro e W2 ⟨rfl, hz2, hk2⟩
  have HD := (show Hid (Done w1 W2 w1.heap.size M back n t) from HS.out W2 hz2 hk2)
  clear HL HS hz2 hk2 hmk1 c0 c2
  obtain ⟨g, hg⟩ : ∃ g, g = w1.heap.size := ⟨_, rfl⟩
  rw [← hg] at HD ⊢
  have hwlt := HW.out.block
  have hrg' : rv.ownBlock ≠ some g := by rw [hg]; exact hrg
  have HG0 := (show Hid (g = w1.heap.size ∧ rv.ownBlock ≠ some g ∧ wb < g) from ⟨hg, hrg', by omega⟩)
  clear hg hrg hrg' hwlt
  go_wp2_with fail
  go_loopw [9] (fun v wr => ∃ d : Nat, v = .int .i64 (d : Int) ∧ Hid (Done w1 wr g M back n d)) (fun v _ => n - (intOf v).toNat)
  case atStart => exact ⟨t, rfl, HD.out⟩
  case round =>
    clear HD
    obtain ⟨d, rfl, HD⟩ := hrel
    have hdn := HD.out.le
    by_cases hlt : d < n
    · have hltI : (d : Int) < (n : Int) := by omega
      have hsl1 := run_low (some ⟨g, 0, none⟩) n n d (by omega)
      rw [if_neg (by omega), Option.map_some, add0] at hsl1
      have hsl2 := run_high (some ⟨g, 0, none⟩) n n d (by omega)
      obtain ⟨c, hc⟩ : ∃ c : Nat, c = min d (n - d) := ⟨_, rfl⟩
      have hol := outL_length M back d
      have hB : Bytes wr.drew (some ⟨g, 0, none⟩) n g 0 (outL M back d) := bytes_row (cs := u8s (List.replicate (n - d) 0)) (by rw [← u8s_app]; exact HD.out.row) n (lt_out hltM _ _) (by omega) (by omega)
      have hcopy := run_copy_any wr.drew 3 g d (n - d) (n - d) (some ⟨g, d, none⟩) (.slice (some ⟨g, 0, none⟩) d n) (outL M back d) (u8s (outL M back d ++ List.replicate (n - d) 0)).toArray c (by have := hB.src; rwa [hol] at this) (by rw [hol]; exact hc) (.inl rfl) HD.out.row (by simp [u8s_length, hol]; omega)
      have r2 := setRow_heap wr.drew g _ ((u8s (outL M back d ++ List.replicate (n - d) 0)).toArray.toList.take d ++ u8s ((outL M back d).take c) ++ (u8s (outL M back d ++ List.replicate (n - d) 0)).toArray.toList.drop (d + c)).toArray 5 (0, 0) HD.out.row
      have k2 := keep_setRow (((Keep.refl (fun k => k = g) wr).drew)) g (fun _ => rfl) ((u8s (outL M back d ++ List.replicate (n - d) 0)).toArray.toList.take d ++ u8s ((outL M back d).take c) ++ (u8s (outL M back d ++ List.replicate (n - d) 0)).toArray.toList.drop (d + c)).toArray
      have hnext := HD.out.next (by have := HG0.out.1; omega) hlt hc r2 k2
      generalize wr.drew.setRow g _ = W3 at hcopy hnext
      obtain ⟨d2, hd2⟩ : ∃ d2 : Nat, d2 = d + c := ⟨_, rfl⟩
      rw [← hd2] at hnext
      have hadd : IntKind.i64.wrap ((d : Int) + (c : Int)) = (d2 : Int) := by rw [IntKind.wrap_i64]; omega
      have HN := (show Hid (Done w1 W3 g M back n d2 ∧ d < d2) from ⟨hnext, by rcases HD.out.many with e | ⟨_, e⟩ <;> omega⟩)
      generalize n - d = nd at hsl1 hcopy
      clear r2 k2 hnext hB hol hd2 hc HD
      go_wp2_with fail
      go_region_held3 (fun _ => True) (trivial) ((fail))
      go_wp2_with fail
      go_roundw
      case rel => exact ⟨d2, rfl, HN.out.1⟩
      case measure => have := HN.out.2; have := HN.out.1.le; simp [intOf]; omega
    · obtain rfl : d = n := by omega
      have hrow := HD.out.row
      rw [Nat.sub_self, List.replicate_zero, List.append_nil] at hrow
      have hol := outL_length M back d
      have hB : Bytes wr (some ⟨g, 0, none⟩) d g 0 (outL M back d) := bytes_row (cs := []) (by rw [List.append_nil]; exact hrow) d (lt_out hltM _ _) (by omega) (by omega)
      have hWr := HW.out.keep HD.out.keep (fun h => h) (fun _ _ h => h)
      have hgne : g ≠ wb := fun e => by have := HG0.out.2.2; omega
      have HP := put_any wb lb s rv M (some ⟨g, 0, none⟩) d g 0 (outL M back d) wr hWr hB (fun _ => ⟨hgne, HG0.out.2.1⟩)
      rw [hol] at HP
      have HF := (show Hid (Keep noBlock w1 wr ∧ wr.heap[g]? = some (.cells (u8s (outL M back d)).toArray 5 (0, 0))) from ⟨HD.out.keep, hrow⟩)
      clear hrow hB hWr HD hol
      go_wp2_with fail
      refine HP.mono ?_
      rintro e W3 ⟨rfl, rv', hW3, hN3, hK3⟩
      have hsz := HF.out.1.size
      have hgl := obj_lt HF.out.2
      have hfin : W3.heap[g]? = some (.cells (u8s (outL M back d)).toArray 5 (0, 0)) := hK3.obj HF.out.2 (fun e => e.elim hgne HG0.out.2.1)
      have hne' : rv'.ownBlock ≠ some g := by
        rcases hN3 with e | ⟨k, e, hk⟩
        · rw [e]; exact HG0.out.2.1
        · rw [e]; intro q
          have : k = g := by simpa using q
          omega
      have HG := (show Hid (W3.heap[g]? = some (.cells (u8s (outL M back d)).toArray 5 (0, 0)) ∧ ∃ rv', IsW W3 wb lb s rv' (lastN s (M ++ outL M back d)) ∧ Near w1 rv rv' ∧ rv'.ownBlock ≠ some g ∧ Keep (fun k => k = wb ∨ rv.ownBlock = some k) w1 W3) from
        ⟨hfin, rv', hW3, (Near.refl w1 rv).trans hN3 hsz, hne', (HF.out.1.mono (fun _ _ h => h.elim)).trans' hK3⟩)
      clear hfin hne' hW3 hN3 hK3 HP
      go_wp2_with fail
      go_ret2
      obtain rfl := HG0.out.1
      exact ⟨rfl, HG.out⟩
end

set_option maxHeartbeats 1000000 in
/-- Copy of a count that is none. -/
theorem copy_arg (wb lb s : Nat) (rv : Value) (M : List Nat) (back n : Int) (w : World) (h : IsW w wb lb s rv M) (hn : n < 0 ∨ 16777216 < n) :
    Calls Tryz.prog 78 #[.pointer (some ⟨wb, 0, none⟩), .int .i64 back, .int .i64 n] w fun e w' => e = .returned (.tuple #[.slice none 0 0, .int .i64 2]) ∧ w' = w := by
  have hlen := h.len
  obtain ⟨R, o, hI, hM⟩ := h
  have c0 : w.cell? ⟨wb, 0, none⟩ = some (.int .i64 (s : Int)) := cell_of hI.obj 0
  have hs0 : ¬ (s : Int) = 0 := by omega
  have hs0b : ((s : Int) == 0) = false := by simpa using hs0
  by_cases h0 : n < 0
  · go_enter Tryz.func78, Tryz.ntmps78
    go_wp2_with fail
    go_ret2
    exact ⟨rfl, rfl⟩
  · have h1 : 16777216 < n := by omega
    go_enter Tryz.func78, Tryz.ntmps78
    go_wp2_with fail
    go_ret2
    exact ⟨rfl, rfl⟩
set_option maxHeartbeats 1000000 in
/-- Copy from where nothing stands. -/
theorem copy_far (wb lb s : Nat) (rv : Value) (M : List Nat) (back n : Int) (w : World) (h : IsW w wb lb s rv M) (hn0 : ¬ n < 0) (hn1 : ¬ 16777216 < n) (hb : ¬ (1 ≤ back ∧ back ≤ (M.length : Int))) :
    Calls Tryz.prog 78 #[.pointer (some ⟨wb, 0, none⟩), .int .i64 back, .int .i64 n] w fun e w' => e = .returned (.tuple #[.slice none 0 0, .int .i64 11]) ∧ w' = w := by
  have hlen := h.len
  obtain ⟨R, o, hI, hM⟩ := h
  obtain ⟨ra, rcap, rg, hrv, -, -⟩ := hI.form
  have c0 : w.cell? ⟨wb, 0, none⟩ = some (.int .i64 (s : Int)) := cell_of hI.obj 0
  have c2 : w.cell? ⟨wb, 2, none⟩ = some (.slice ra R.length rcap) := by have := cell_of hI.obj 2; rw [hrv] at this; exact this
  have hRM : R.length = M.length := by rw [← hM, unr_length]
  have hs0 : ¬ (s : Int) = 0 := by omega
  have hs0b : ((s : Int) == 0) = false := by simpa using hs0
  have hr := reaches_cell wb ra R.length rcap back w c2
  rw [decide_eq_false (by rw [hRM]; exact hb)] at hr
  clear hb hM hRM hI hrv
  go_enter Tryz.func78, Tryz.ntmps78
  go_wp2_with fail
  refine hr.mono ?_
  rintro e w1 ⟨rfl, rfl⟩
  go_wp2_with fail
  go_ret2
  exact ⟨rfl, rfl⟩

end Go.Proofs.YtnokemcogjoonaaGreat

namespace Go.Proofs.YtnokemcogjoonaaGreat
open Go.RowKit Go.Shelf
set_option linter.unusedVariables false

structure Live (w W : World) (wb lb s : Nat) (rv : Value) (M : List Nat) (B now most : Nat) : Prop where
  isW : IsW W wb lb s rv M
  isL : IsL W lb B now most
  keep : Keep noBlock w W
  lo : w.heap.size ≤ lb
  lo2 : w.heap.size ≤ wb
  ring : ∀ g, rv.ownBlock = some g → w.heap.size ≤ g
theorem IsW.ne {W : World} {wb lb s B now most lb' : Nat} {rv : Value} {M : List Nat} (h : IsW W wb lb' s rv M) (hL : IsL W lb B now most) : lb ≠ wb := by
  obtain ⟨R, o, h, -⟩ := h
  intro e
  have h1 := hL.obj
  rw [e, h.obj] at h1
  simp at h1
theorem Live.kept {w W W' : World} {wb lb s B now most : Nat} {rv : Value} {M : List Nat} {S : Nat → Prop} (h : Live w W wb lb s rv M B now most) (hk : Keep S W W') (h1 : ¬ S wb) (h2 : ¬ S lb) (h3 : ∀ g, rv.ownBlock = some g → ¬ S g) (h4 : ∀ i, i < w.heap.size → ¬ S i) : Live w W' wb lb s rv M B now most :=
  ⟨h.isW.keep hk h1 h3, h.isL.keep hk h2, h.keep.trans hk (fun i hi e => absurd e (h4 i hi)), h.lo, h.lo2, h.ring⟩
theorem Live.same {w W W' : World} {wb lb s B now most : Nat} {rv : Value} {M : List Nat} (h : Live w W wb lb s rv M B now most) (hk : Keep noBlock W W') : Live w W' wb lb s rv M B now most :=
  h.kept hk (fun h => h) (fun h => h) (fun _ _ h => h) (fun _ _ h => h)
/-- What a put leaves. -/
theorem Live.turn {w W W' : World} {wb lb s B now most : Nat} {rv rv' : Value} {M M' : List Nat} (h : Live w W wb lb s rv M B now most) (hW : IsW W' wb lb s rv' M') (hN : Near W rv rv') (hK : Keep (fun k => k = wb ∨ rv.ownBlock = some k) W W') : Live w W' wb lb s rv' M' B now most := by
  refine ⟨hW, h.isL.keep hK ?_, h.keep.trans hK ?_, h.lo, h.lo2, ?_⟩
  · rintro (e | e)
    · exact h.isW.ne h.isL e
    · exact h.isW.ring_ne h.isL.obj (by decide) e
  · rintro i hi (e | e)
    · have := h.lo2; omega
    · have := h.ring i e; omega
  · intro g hg
    rcases hN with e | ⟨k, e, hk⟩
    · exact h.ring g (by rw [← e]; exact hg)
    · rw [e] at hg
      have : k = g := by simpa using hg
      have := h.keep.size
      omega
theorem Live.put {w W : World} {wb lb s B now most : Nat} {rv : Value} {M : List Nat} (h : Live w W wb lb s rv M B now most) {a : Option Addr} {cap gb off : Nat} {bs : List Nat} (hb : Bytes W a cap gb off bs) (hne : bs ≠ [] → gb ≠ wb ∧ rv.ownBlock ≠ some gb) :
    Calls Tryz.prog 22 #[.pointer (some ⟨wb, 0, none⟩), .slice a bs.length cap] W fun e W' => e = .returned (.tuple #[]) ∧ ∃ rv', Live w W' wb lb s rv' (lastN s (M ++ bs)) B now most ∧ Near W rv rv' ∧ Keep (fun k => k = wb ∨ rv.ownBlock = some k) W W' := by
  refine (put_any wb lb s rv M a cap gb off bs W h.isW hb hne).mono ?_
  rintro e W' ⟨rfl, rv', hW, hN, hK⟩
  exact ⟨rfl, rv', h.turn hW hN hK, hN, hK⟩
theorem Live.copy {w W : World} {wb lb s B now most : Nat} {rv : Value} {M : List Nat} (h : Live w W wb lb s rv M B now most) (back n : Nat) (h1 : 1 ≤ back) (h2 : back ≤ M.length) (hn : n ≤ 16777216) :
    Calls Tryz.prog 78 #[.pointer (some ⟨wb, 0, none⟩), .int .i64 (back : Int), .int .i64 (n : Int)] W fun e W' => e = .returned (.tuple #[.slice (some ⟨W.heap.size, 0, none⟩) n n, .int .i64 0]) ∧
      W'.heap[W.heap.size]? = some (.cells (u8s (outL M back n)).toArray 5 (0, 0)) ∧ ∃ rv', Live w W' wb lb s rv' (lastN s (M ++ outL M back n)) B now most ∧ Near W rv rv' ∧ rv'.ownBlock ≠ some W.heap.size ∧ Keep (fun k => k = wb ∨ rv.ownBlock = some k) W W' := by
  refine (copy_ok wb lb s rv M back n W h.isW h1 h2 hn).mono ?_
  rintro e W' ⟨rfl, hz, rv', hW, hN, hne, hK⟩
  exact ⟨rfl, hz, rv', h.turn hW hN hK, hN, hne, hK⟩

/-- .. a window that was dropped. -/
structure Gone (w W : World) (wb lb B now most : Nat) : Prop where
  isD : IsDrop W wb
  isL : IsL W lb B now most
  keep : Keep noBlock w W
  lo : w.heap.size ≤ lb
  lo2 : w.heap.size ≤ wb
theorem Gone.kept {w W W' : World} {wb lb B now most : Nat} {S : Nat → Prop} (h : Gone w W wb lb B now most) (hk : Keep S W W') (h1 : ¬ S wb) (h2 : ¬ S lb) (h4 : ∀ i, i < w.heap.size → ¬ S i) : Gone w W' wb lb B now most :=
  ⟨hk.obj h.isD h1, h.isL.keep hk h2, h.keep.trans hk (fun i hi e => absurd e (h4 i hi)), h.lo, h.lo2⟩
theorem Gone.same {w W W' : World} {wb lb B now most : Nat} (h : Gone w W wb lb B now most) (hk : Keep noBlock W W') : Gone w W' wb lb B now most :=
  h.kept hk (fun h => h) (fun h => h) (fun _ _ h => h)
/-- New. -/
theorem live_new {w W : World} (s lb B now most : Nat) (h1 : 1 ≤ s) (h2 : s ≤ 16777216) (hL : IsL W lb B now most) (ho : now + s ≤ B) (hk : Keep noBlock w W) (lo : w.heap.size ≤ lb) :
    Calls Tryz.prog 32 #[.int .i64 (s : Int), .pointer (some ⟨lb, 0, none⟩)] W fun e W' => ∃ wb, e = .returned (.tuple #[.pointer (some ⟨wb, 0, none⟩), .int .i64 0]) ∧ W.heap.size ≤ wb ∧ Live w W' wb lb s (.slice none 0 0) [] B (now + s) (max (now + s) most) ∧ Keep (fun k => k = lb) W W' := by
  refine (wnew_ok s lb B now most W h1 h2 hL ho).mono ?_
  rintro e W' ⟨wb, rfl, hwb, hW, hL', hK⟩
  exact ⟨wb, rfl, hwb, ⟨hW, hL', hk.trans hK (fun i hi e => by omega), lo, by have := hk.size; omega, (fun g hg => by cases hg)⟩, hK⟩
theorem Live.held {w W : World} {wb lb s B now most : Nat} {rv : Value} {M : List Nat} (h : Live w W wb lb s rv M B now most) : W.cell? ⟨wb, 0, none⟩ = some (.int .i64 (s : Int)) := by
  obtain ⟨R, o, hI, -⟩ := h.isW
  exact cell_of hI.obj 0
theorem Live.ring_cell {w W : World} {wb lb s B now most : Nat} {rv : Value} {M : List Nat} (h : Live w W wb lb s rv M B now most) : ∃ a cap, W.cell? ⟨wb, 2, none⟩ = some (.slice a M.length cap) := by
  obtain ⟨R, o, hI, hM⟩ := h.isW
  obtain ⟨ra, rcap, rg, hrv, -, -⟩ := hI.form
  have hRM : R.length = M.length := by rw [← hM, unr_length]
  exact ⟨ra, rcap, by have := cell_of hI.obj 2; rw [hrv] at this; rw [← hRM]; exact this⟩

end Go.Proofs.YtnokemcogjoonaaGreat

namespace Go.Proofs.YtnokemcogjoonaaGreat
open Go.RowKit Go.Shelf
set_option linter.unusedVariables false

/-- The blocks of a reader, and the world ahead of it. -/
structure Rg where
  w0 : World
  rb : Nat
  sb : Nat
  db : Nat
  gb : Nat
  wb : Nat
  lb : Nat
  rv0 : Value
  tv0 : Value
  K : Ck
/-- What a reader may turn. -/
def RS (G : Rg) (k : Nat) : Prop := k = G.sb ∨ k = G.wb ∨ k = G.rb ∨ k = G.db ∨ G.rv0.ownBlock = some k ∨ G.tv0.ownBlock = some k
/-- Block rb is a reader. -/
structure Rd (G : Rg) (w : World) (rv tv : Value) (s : Se) (x : Cx) (win told : List Nat) : Prop where
  obj : w.heap[G.rb]? = some (.cells #[.pointer (some ⟨G.sb, 0, none⟩), .pointer (some ⟨G.db, 0, none⟩), .pointer (some ⟨G.wb, 0, none⟩), tv, .int .i64 (G.K.place : Int), .bool G.K.ahead] 121 (0, 0))
  pr : Pr w G.sb G.db G.gb s x
  wi : IsW w G.wb G.lb G.K.size rv win
  own : w.ownsRow 0 5 1 tv told.length (u8s told)
  lt : ∀ j : Nat, told[j]?.getD 0 < 256
  gt : tv.ownBlock ≠ some G.gb
  gr : rv.ownBlock ≠ some G.gb
  tr : ∀ g, tv.ownBlock = some g → rv.ownBlock ≠ some g
  g1 : G.gb ≠ G.rb
  g2 : G.gb ≠ G.wb
  gl : G.gb < w.heap.size
  kp : Keep (RS G) G.w0 w
  n4 : Near G.w0 G.tv0 tv
  n5 : Near G.w0 G.rv0 rv
  pl : G.K.place < 16
  tl : told.length ≤ G.K.n
  nn : G.K.n ≤ 2097152
theorem Rd.sw {G : Rg} {w : World} {rv tv : Value} {s : Se} {x : Cx} {win told : List Nat} (h : Rd G w rv tv s x win told) : G.sb ≠ G.wb ∧ G.db ≠ G.wb ∧ G.rb ≠ G.sb ∧ G.rb ≠ G.db ∧ G.rb ≠ G.wb := by
  obtain ⟨R, o, hw, -⟩ := h.wi
  obtain ⟨a, cap, off, hd, hB⟩ := h.pr.de.obj
  refine ⟨h.pr.st.ne hw.obj (by decide), ne_of_type hd hw.obj (by decide), fun e => h.pr.st.ne h.obj (by decide) e.symm, ne_of_type h.obj hd (by decide), ne_of_type h.obj hw.obj (by decide)⟩
theorem Rd.rows {G : Rg} {w : World} {rv tv : Value} {s : Se} {x : Cx} {win told : List Nat} (h : Rd G w rv tv s x win told) :
    (tv.ownBlock ≠ some G.rb ∧ tv.ownBlock ≠ some G.sb ∧ tv.ownBlock ≠ some G.db ∧ tv.ownBlock ≠ some G.wb) ∧ (rv.ownBlock ≠ some G.rb ∧ rv.ownBlock ≠ some G.sb ∧ rv.ownBlock ≠ some G.db ∧ rv.ownBlock ≠ some G.wb) := by
  obtain ⟨R, o, hw, -⟩ := h.wi
  obtain ⟨a, cap, off, hd, hB⟩ := h.pr.de.obj
  obtain ⟨cs, hs, -⟩ := h.pr.st.obj
  exact ⟨⟨owns_ne h.own h.obj (by decide), owns_ne h.own hs (by decide), owns_ne h.own hd (by decide), owns_ne h.own hw.obj (by decide)⟩, ⟨h.wi.ring_ne h.obj (by decide), h.wi.ring_ne hs (by decide), h.wi.ring_ne hd (by decide), h.wi.ring_ne hw.obj (by decide)⟩⟩
theorem Rd.kept {G : Rg} {w w' : World} {rv tv : Value} {s : Se} {x : Cx} {win told : List Nat} (h : Rd G w rv tv s x win told) (hk : Keep noBlock w w') : Rd G w' rv tv s x win told :=
  ⟨hk.obj h.obj (fun h => h), h.pr.keep hk (fun h => h) (fun h => h) (fun h => h), h.wi.keep hk (fun h => h) (fun _ _ h => h), owns_kept h.own hk (fun _ _ h => h), h.lt, h.gt, h.gr, h.tr, h.g1, h.g2, Nat.lt_of_lt_of_le h.gl hk.size, h.kp.trans hk (fun _ _ h => h.elim), h.n4, h.n5, h.pl, h.tl, h.nn⟩
theorem Rd.same {G : Rg} {w : World} {rv tv : Value} {s : Se} {x : Cx} {win told : List Nat} (h : Rd G w rv tv s x win told) {W : World} (e1 : W.heap = w.heap) (e2 : W.os = w.os) (e3 : W.tape = w.tape) (e4 : W.output = w.output) : Rd G W rv tv s x win told :=
  h.kept ((Keep.refl _ w).same e1 e2 e3 e4)
/-- Behind reading. -/
theorem Rd.turn {G : Rg} {w w' : World} {rv tv : Value} {s s' : Se} {x x' : Cx} {win told : List Nat} (h : Rd G w rv tv s x win told) (hp : Pr w' G.sb G.db G.gb s' x') (hk : Keep (SD G.sb G.db) w w') : Rd G w' rv tv s' x' win told := by
  obtain ⟨s1, s2, s3, s4, s5⟩ := h.sw
  obtain ⟨⟨t1, t2, t3, t4⟩, r1, r2, r3, r4⟩ := h.rows
  refine ⟨hk.obj h.obj ?_, hp, h.wi.keep hk ?_ ?_, owns_kept h.own hk ?_, h.lt, h.gt, h.gr, h.tr, h.g1, h.g2, Nat.lt_of_lt_of_le h.gl hk.size, h.kp.trans hk ?_, h.n4, h.n5, h.pl, h.tl, h.nn⟩
  · rintro (e | e)
    · exact s4 e
    · exact s3 e
  · rintro (e | e)
    · exact s2 e.symm
    · exact s1 e.symm
  · rintro g hg (e | e)
    · exact r3 (by rw [hg, e])
    · exact r2 (by rw [hg, e])
  · rintro g hg (e | e)
    · exact t3 (by rw [hg, e])
    · exact t2 (by rw [hg, e])
  · rintro i hi (e | e)
    · exact .inr (.inr (.inr (.inl e)))
    · exact .inl e
theorem near_old {w : World} {v0 v : Value} (h : Near w v0 v) {i : Nat} (hi : i < w.heap.size) (e : v.ownBlock = some i) : v0.ownBlock = some i := by
  rcases h with q | ⟨k, q, hk⟩
  · rw [← q]; exact e
  · rw [q] at e
    have : k = i := by simpa using e
    omega
theorem Rd.tform {G : Rg} {w : World} {rv tv : Value} {s : Se} {x : Cx} {win told : List Nat} (h : Rd G w rv tv s x win told) : ∃ ta tc, tv = .slice ta told.length tc := owns_form h.own
/-- What lies in a reader. -/
theorem Rd.cells {G : Rg} {w : World} {rv tv : Value} {s : Se} {x : Cx} {win told : List Nat} (h : Rd G w rv tv s x win told) :
    w.cell? ⟨G.rb, 0, none⟩ = some (.pointer (some ⟨G.sb, 0, none⟩)) ∧ w.cell? ⟨G.rb, 1, none⟩ = some (.pointer (some ⟨G.db, 0, none⟩)) ∧ w.cell? ⟨G.rb, 2, none⟩ = some (.pointer (some ⟨G.wb, 0, none⟩)) ∧
    w.cell? ⟨G.rb, 3, none⟩ = some tv ∧ w.cell? ⟨G.rb, 4, none⟩ = some (.int .i64 (G.K.place : Int)) ∧ w.cell? ⟨G.rb, 5, none⟩ = some (.bool G.K.ahead) ∧ ∀ i, w.frozen? ⟨G.rb, i, none⟩ = false :=
  ⟨cell_of h.obj 0, cell_of h.obj 1, cell_of h.obj 2, cell_of h.obj 3, cell_of h.obj 4, cell_of h.obj 5, fun i => frozen_of h.obj i⟩

/-! The state's number. -/
theorem copied_any (p : Nat) (hp : p < 12) (w : World) : Calls Tryz.prog 94 #[.int .u8 (p : Int)] w fun e w' => e = .returned (.bool (!decide (p < 7))) ∧ w' = w := by
  by_cases h : p < 7
  · have hI : ¬ 7 ≤ (p : Int) := by omega
    rw [decide_eq_true h]
    go_enter Tryz.func94, Tryz.ntmps94
    go_wp2
    go_ret
    exact ⟨rfl, rfl⟩
  · have hI : 7 ≤ (p : Int) := by omega
    rw [decide_eq_false h]
    go_enter Tryz.func94, Tryz.ntmps94
    go_wp2
    go_ret
    exact ⟨rfl, rfl⟩
theorem behindByte_any (p : Nat) (hp : p < 12) (w : World) : Calls Tryz.prog 92 #[.int .u8 (p : Int)] w fun e w' => e = .returned (.int .u8 ((behB p : Nat) : Int)) ∧ w' = w := by
  unfold behB
  by_cases h : p < 4
  · have hI : (p : Int) < 4 := by omega
    rw [if_pos h]
    go_enter Tryz.func92, Tryz.ntmps92
    go_wp2
    go_ret
    exact ⟨rfl, rfl⟩
  · have hI : ¬ (p : Int) < 4 := by omega
    rw [if_neg h]
    by_cases h2 : p < 10
    · have hI2 : (p : Int) < 10 := by omega
      have e : ((p : Int) - 3) = ((p - 3 : Nat) : Int) := by omega
      rw [if_pos h2]
      have hq : p - 3 < 12 := by omega
      generalize p - 3 = q at *
      go_enter Tryz.func92, Tryz.ntmps92
      go_wp2
      go_ret
      exact ⟨rfl, rfl⟩
    · have hI2 : ¬ (p : Int) < 10 := by omega
      have e : ((p : Int) - 6) = ((p - 6 : Nat) : Int) := by omega
      rw [if_neg h2]
      have hq : p - 6 < 12 := by omega
      generalize p - 6 = q at *
      go_enter Tryz.func92, Tryz.ntmps92
      go_wp2
      go_ret
      exact ⟨rfl, rfl⟩
theorem behindMatch_any (p : Nat) (hp : p < 12) (w : World) : Calls Tryz.prog 99 #[.int .u8 (p : Int)] w fun e w' => e = .returned (.int .u8 ((behM p : Nat) : Int)) ∧ w' = w := by
  have hc := copied_any p hp
  unfold behM
  by_cases h : p < 7
  · rw [decide_eq_true h] at hc
    rw [if_pos h]
    go_enter Tryz.func99, Tryz.ntmps99
    go_wp2_with (go_at_call 94; refine (hc _).mono ?_; rintro e w' ⟨rfl, rfl⟩)
    go_ret
    exact ⟨rfl, rfl⟩
  · rw [decide_eq_false h] at hc
    rw [if_neg h]
    go_enter Tryz.func99, Tryz.ntmps99
    go_wp2_with (go_at_call 94; refine (hc _).mono ?_; rintro e w' ⟨rfl, rfl⟩)
    go_ret
    exact ⟨rfl, rfl⟩
theorem behindRepeat_any (p : Nat) (hp : p < 12) (w : World) : Calls Tryz.prog 102 #[.int .u8 (p : Int)] w fun e w' => e = .returned (.int .u8 ((behR p : Nat) : Int)) ∧ w' = w := by
  have hc := copied_any p hp
  unfold behR
  by_cases h : p < 7
  · rw [decide_eq_true h] at hc
    rw [if_pos h]
    go_enter Tryz.func102, Tryz.ntmps102
    go_wp2_with (go_at_call 94; refine (hc _).mono ?_; rintro e w' ⟨rfl, rfl⟩)
    go_ret
    exact ⟨rfl, rfl⟩
  · rw [decide_eq_false h] at hc
    rw [if_neg h]
    go_enter Tryz.func102, Tryz.ntmps102
    go_wp2_with (go_at_call 94; refine (hc _).mono ?_; rintro e w' ⟨rfl, rfl⟩)
    go_ret
    exact ⟨rfl, rfl⟩
theorem behindShort_any (p : Nat) (hp : p < 12) (w : World) : Calls Tryz.prog 101 #[.int .u8 (p : Int)] w fun e w' => e = .returned (.int .u8 ((behS p : Nat) : Int)) ∧ w' = w := by
  have hc := copied_any p hp
  unfold behS
  by_cases h : p < 7
  · rw [decide_eq_true h] at hc
    rw [if_pos h]
    go_enter Tryz.func101, Tryz.ntmps101
    go_wp2_with (go_at_call 94; refine (hc _).mono ?_; rintro e w' ⟨rfl, rfl⟩)
    go_ret
    exact ⟨rfl, rfl⟩
  · rw [decide_eq_false h] at hc
    rw [if_neg h]
    go_enter Tryz.func101, Tryz.ntmps101
    go_wp2_with (go_at_call 94; refine (hc _).mono ?_; rintro e w' ⟨rfl, rfl⟩)
    go_ret
    exact ⟨rfl, rfl⟩

/-- How far back the newest distance reaches. -/
theorem back_any (G : Rg) (rv tv : Value) (s : Se) (x : Cx) (win told : List Nat) (w : World) (h : Rd G w rv tv s x win told) :
    Calls Tryz.prog 79 #[.pointer (some ⟨G.rb, 0, none⟩)] w fun e w' => e = .returned (.int .i64 (((s.r0 + 1 : Nat)) : Int)) ∧ w' = w := by
  obtain ⟨c0, -⟩ := h.cells
  obtain ⟨-, -, -, -, f4, -⟩ := h.pr.st.first
  have hr := h.pr.st.ok.r0
  clear h
  generalize s.r0 = r at *
  go_enter Tryz.func79, Tryz.ntmps79
  go_wp2
  go_ret
  exact ⟨by simp, rfl⟩
theorem backQ_any (G : Rg) (rv tv : Value) (s : Se) (x : Cx) (win told : List Nat) (w : World) (h : Rd G w rv tv s x win told) :
    Calls Tryz.prog 79 #[.pointer (some ⟨G.rb, 0, none⟩)] w fun e w' => e = .returned (.int .i64 (((s.r0 + 1 : Nat)) : Int)) ∧ ∃ n, w' = w.drewN n :=
  (back_any G rv tv s x win told w h).mono (fun _ _ h => ⟨h.1, 0, h.2⟩)
theorem mask_i64 (x b : Nat) (hb : b ≤ 4) (hx : x < 9223372036854775808) : bits .and .i64 (x : Int) (2 ^ b - 1) = ((x % 2 ^ b : Nat) : Int) := by
  have := bits_mask .i64 63 (by decide) wraps_i64 b (by omega) (x : Int) (by omega) (by omega)
  exact this.trans (by simp)
theorem mask_form (b : Nat) (hb : b ≤ 4) : wrap64 (wrap64 (2 ^ b) - 1) = 2 ^ b - 1 := by
  have : b = 0 ∨ b = 1 ∨ b = 2 ∨ b = 3 ∨ b = 4 := by omega
  rcases this with rfl | rfl | rfl | rfl | rfl <;> simp [go_sem, wrap64]
set_option maxHeartbeats 1000000 in
theorem lowest_any (G : Rg) (rv tv : Value) (s : Se) (x : Cx) (win told : List Nat) (b : Nat) (hb : b ≤ 4) (w : World) (h : Rd G w rv tv s x win told) :
    Calls Tryz.prog 72 #[.pointer (some ⟨G.rb, 0, none⟩), .int .i64 (b : Int)] w fun e w' => e = .returned (.int .i64 ((lowN G.K told b : Nat) : Int)) ∧ ∃ n, w' = w.drewN n := by
  obtain ⟨-, -, -, c3, c4, -⟩ := h.cells
  obtain ⟨ta, tc, rfl⟩ := h.tform
  have hp := h.pl
  have ht := h.tl
  have hn := h.nn
  have hm := mask_i64 (G.K.place + told.length) b hb (by omega)
  obtain ⟨z, hz⟩ : ∃ z : Nat, z = G.K.place + told.length := ⟨_, rfl⟩
  have hzI : (G.K.place : Int) + (told.length : Int) = (z : Int) := by omega
  have hL : lowN G.K told b = z % 2 ^ b := by rw [hz]; rfl
  rw [hL]
  rw [← hz] at hm
  generalize z % 2 ^ b = m at *
  clear h hL hz
  generalize G.K.place = pl at *
  generalize told.length = n at *
  go_enter Tryz.func72, Tryz.ntmps72
  go_wp2_with fail
  go_quiet (fail)
  go_wp2_with fail
  go_ret
  refine ⟨congrArg (fun x => Ending.returned (Value.int .i64 x)) ?_, _, rfl⟩
  rw [mask_form b hb]
  exact hm

end Go.Proofs.YtnokemcogjoonaaGreat
