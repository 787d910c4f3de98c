/-
  One byte many times (bytes.Repeat).
  behind; a copy of bytes.
  The last weight, as the document finds it.
  The document's Bits.
  The document's whole.
  Read of a description: all counts.
  Read of a description, as Write gives it, whatever stands behind.
-/
import Derived.Lib.MakeNoZero
import Derived.Laws.Externs
import Derived.Test.YtcoahkmiebeeeaaDoorReadP9
namespace Go.Proofs.YtcoahkmiebeeeaaDoor
open Go.RowKit Go.Shelf
set_option linter.unusedVariables false

set_option maxRecDepth 100000 in
set_option maxHeartbeats 1000000 in
theorem mul64_one (s : Nat) (hs : s ≤ 131072) (w : World) : Calls Tryd.prog 36 #[.int .u64 1, .int .u64 (s : Int)] w fun e w' => e = .returned (.tuple #[.int .u64 0, .int .u64 (s : Int)]) ∧ w' = w := by
  have h1 : (s : Int) / 4294967296 = 0 := by omega
  have h2 : bits .and .u64 (s : Int) 4294967295 = (s : Int) := by
    have := and_mask64 s 32 (by omega) (by omega)
    rw [show (2 ^ 32 - 1 : Nat) = 4294967295 from rfl, Nat.mod_eq_of_lt (by omega)] at this
    exact this
  have h3 : bits .and .u64 1 4294967295 = 1 := by decide
  have h4 : bits .and .u64 0 4294967295 = 0 := by decide
  have hsb : (s : Int) ≤ 131072 := by omega
  go_enter Tryd.func36, Tryd.ntmps36
  go_wp2
  go_ret2
  exact ⟨rfl, rfl⟩
set_option maxRecDepth 100000 in
set_option maxHeartbeats 1000000 in
theorem mul_one_any (s : Nat) (hs : s ≤ 131072) (w : World) : Calls Tryd.prog 22 #[.int .u64 1, .int .u64 (s : Int)] w fun e w' => e = .returned (.tuple #[.int .u64 0, .int .u64 (s : Int)]) ∧ w' = w := by
  have HM := hid (fun W => mul64_one s hs W)
  have hsb : (s : Int) ≤ 131072 := by omega
  go_enter Tryd.func22, Tryd.ntmps22
  go_wp2_with (go_at_call 36; refine (HM.out _).mono ?_; rintro e w1 ⟨rfl, rfl⟩)
  go_ret2
  exact ⟨rfl, rfl⟩

/-- The first q bytes of the row are x. -/
def Fil (W : World) (g N x q : Nat) : Prop := ∃ cur, W.heap[g]? = some (.cells cur 5 (0, 0)) ∧ cur.size = N ∧ cur.toList.take q = u8s (List.replicate q x)
theorem Fil.src {W : World} {g N x q : Nat} (h : Fil W g N x q) (hq : q ≤ N) (c cap : Nat) (hc : c ≤ q) : SrcB W (.slice (some ⟨g, 0, none⟩) c cap) (List.replicate c x) := by
  obtain ⟨cur, ho, hsz, ht⟩ := h
  refine .inr ⟨⟨g, 0, none⟩, cap, by rw [List.length_replicate], fun j u hu => ?_⟩
  have hj : j < c := by have := (List.getElem?_eq_some_iff.1 hu).1; rwa [u8s_length, List.length_replicate] at this
  rw [addO, cell_of ho, Nat.zero_add]
  have h1 : (cur.toList.take q)[j]? = cur[j]? := by rw [List.getElem?_take, if_pos (by omega), Array.getElem?_toList]
  rw [← h1, ht, ← hu]
  unfold u8s
  rw [List.getElem?_map, List.getElem?_map, List.getElem?_replicate, List.getElem?_replicate, if_pos hj, if_pos (by omega)]
theorem Fil.copy {W : World} {g N x q : Nat} (h : Fil W g N x q) (v : Value) (bs : List Nat) (hv : SrcB W v bs) (c dl dc t : Nat) (hbs : bs = List.replicate c x) (ht : t = min c dl) (hN : q + dl ≤ N) :
    ∃ W', (Builtin.copy_ #[22, 22] 3 #[.slice (some ⟨g, q, none⟩) dl dc, v]).run Tryd.prog W = .ok (.int .i64 (t : Int)) W' ∧ Fil W' g N x (q + t) ∧ Keep (fun k => k = g) W W' := by
  obtain ⟨cur, ho, hsz, htk⟩ := h
  have hbl : bs.length = c := by rw [hbs, List.length_replicate]
  refine ⟨_, run_copy_any W 3 g q dl dc (some ⟨g, q, none⟩) v bs cur t hv (by rw [hbl]; exact ht) (.inl rfl) ho (by omega), ⟨_, setRow_heap W g cur _ 5 (0, 0) ho, ?_, ?_⟩, keep_setRow (S := fun k => k = g) (Keep.refl _ _) g (fun _ => rfl) _⟩
  · simp [u8s_length, hbs]; omega
  · rw [List.toList_toArray, htk, hbs, ← u8s_app]
    have e : List.replicate q x ++ (List.replicate c x).take t = List.replicate (q + t) x := by
      rw [List.take_replicate, List.replicate_append_replicate, Nat.min_eq_left (by omega)]
    rw [e, List.take_left' (by rw [u8s_length, List.length_replicate])]
theorem Fil.drew {W : World} {g N x q : Nat} (h : Fil W g N x q) : Fil W.drew g N x q := h
theorem Fil.bytes {W : World} {g N x s : Nat} (h : Fil W g N x s) (hs : s ≤ N) (hx : x < 256) (hN : s < 2 ^ 48) : Bytes W (some ⟨g, 0, none⟩) s g 0 (List.replicate s x) := by
  obtain ⟨cur, ho, hsz, ht⟩ := h
  refine ⟨.inl rfl, (fun e => by cases e), fun j hj => ?_, lt256 (fun b hb => by rw [List.eq_of_mem_replicate hb]; exact hx), by rw [List.length_replicate]; exact Nat.le_refl _, by rw [List.length_replicate]; exact hN⟩
  rw [List.length_replicate] at hj
  rw [cell_of ho, Nat.zero_add]
  have h1 : (cur.toList.take s)[j]? = cur[j]? := by rw [List.getElem?_take, if_pos hj, Array.getElem?_toList]
  rw [← h1, ht]
  unfold u8s
  rw [List.getElem?_map, List.getElem?_replicate, if_pos hj]
  simp

section
attribute [local go_sem] sliceSem_eq minSem_eq
set_option maxRecDepth 100000 in
set_option maxHeartbeats 1000000 in
theorem repeat_any (a : Option Addr) (cap gb off x s : Nat) (w : World) (hB : Bytes w a cap gb off [x]) (hs0 : 1 ≤ s) (hs : s ≤ 131072) :
    Calls Tryd.prog 15 #[.slice a 1 cap, .int .i64 (s : Int)] w fun e w' => Keep noBlock w w' ∧ ∃ a' cap' g, e = .returned (.slice a' s cap') ∧ Bytes w' a' cap' g 0 (List.replicate s x) := by
  have HM := hid (fun W => mul_one_any s hs W)
  have hx256 : x < 256 := hB.lt 0
  obtain ⟨cs, hrunM, hle, hmax⟩ := Lib.run_makeNoZero (P := Tryd.prog) w #[3] 22 5 Tryd.underlying22 s (by omega)
  have hcall : (callFunc 23 #[.int .i64 (s : Int)]).run Tryd.prog w = .ok (.value (.slice (some ⟨w.heap.size, 0, none⟩) s cs.size)) ((w.alloc (.cells cs 5)).drewN 2) := by
    rw [run_callFunc_extern Tryd.func23 (by kernel_rfl) (by kernel_rfl) (by kernel_rfl) (e := Extern.BytealgMakeNoZero.makeNoZero #[3] #[22]) (by kernel_rfl), hrunM]
    rfl
  clear hrunM
  have h3 : ∀ W : World, (sliceSem 22 (.slice (some ⟨w.heap.size, 0, none⟩) s cs.size) none (some (.int .i64 (s : Int))) (some (.int .i64 (s : Int)))).run Tryd.prog W = .ok (.slice (some ⟨w.heap.size, 0, none⟩) s s) W := fun W => run_three _ s cs.size s (Nat.le_refl _) hle W
  have hk1 : Keep noBlock w ((w.alloc (.cells cs 5)).drewN 2) := ((Keep.refl _ w).alloc _).trans' (keep_drewN _ 2)
  have hf0 : Fil ((w.alloc (.cells cs 5)).drewN 2) w.heap.size cs.size x 0 := ⟨cs, World.alloc_heap_new w _, rfl, by simp [u8s]⟩
  obtain ⟨W2, hcopy, hf1, hk2⟩ := hf0.copy (.slice a 1 cap) [x] (hB.keep hk1 (fun _ h => h)).src 1 s s 1 rfl (by omega) (by omega)
  have hK : Keep noBlock w W2 := hk1.trans hk2 (fun i hi e => by omega)
  have hsb : (s : Int) ≤ 131072 := by omega
  have hs1 : ((s : Int) == 0) = false := by rw [beq_eq_false_iff_ne]; omega
  have hs2 : ¬ (s : Int) < 0 := by omega
  have hs3 : ¬ (9223372036854775807 : Int) < (s : Int) := by omega
  obtain ⟨g, hg⟩ : ∃ g, g = w.heap.size := ⟨_, rfl⟩
  rw [show ((1 : Nat) : Int) = (1 : Int) from rfl] at hcopy
  rw [Nat.zero_add] at hf1
  have HF := hid (show Keep noBlock w W2 ∧ Fil W2 w.heap.size cs.size x 1 ∧ s ≤ cs.size from ⟨hK, hf1, hle⟩)
  clear hB hk1 hf0 hk2 hK hle hmax hg hf1
  by_cases hbig : 8192 < s
  · have hb1 : (8192 : Int) < (s : Int) := by omega
    go_enter Tryd.func15, Tryd.ntmps15
    go_wp2_with (go_at_call 22; refine (HM.out _).mono ?_; rintro e w1 ⟨rfl, rfl⟩)
    obtain ⟨g, hg⟩ : ∃ g, g = w1.heap.size := ⟨_, rfl⟩
    rw [← hg] at HF h3 ⊢
    have HG := hid hg
    clear hg hcopy hcall h3
    go_loopw [10] (fun v10 wr => ∃ q : Nat, v10 = .int .i64 (q : Int) ∧ 1 ≤ q ∧ q ≤ s ∧ Hid (Keep noBlock w1 wr ∧ Fil wr g cs.size x q)) (fun v10 _ => s - (intOf v10).toNat)
    case atStart => exact ⟨1, rfl, Nat.le_refl _, hs0, HF.out.1, HF.out.2.1⟩
    case round =>
      obtain ⟨q, rfl, hq1, hq, HQ⟩ := hrel
      by_cases hlt : q < s
      · have hltI : (q : Int) < (s : Int) := by omega
        obtain ⟨ch, hch⟩ : ∃ ch, ch = min q 8192 := ⟨_, rfl⟩
        have hmin := minSem_run .i64 #[3, 3] 3 (q : Int) 8192 (ch : Int) (by omega)
        obtain ⟨r, hr⟩ : ∃ r, r = s - q := ⟨_, rfl⟩
        obtain ⟨t, ht⟩ : ∃ t, t = min ch r := ⟨_, rfl⟩
        obtain ⟨hKr, hFr⟩ := HQ.out
        have hsc := HF.out.2.2
        have hsrc := fun c cap hc => (hFr.src (by omega) c cap hc)
        have hcp := fun W' hF' hs' => Fil.copy (W := W') (g := g) (N := cs.size) (x := x) (q := q) hF' (.slice (some ⟨g, 0, none⟩) ch s) (List.replicate ch x) hs' ch r r t rfl ht (by omega)
        obtain ⟨W5, hrun5, hF5, hK5⟩ := hcp wr hFr (hsrc ch s (by omega))
        obtain ⟨W6, hrun6, hF6, hK6⟩ := hcp wr.drew hFr (hsrc ch s (by omega))
        have hlo : ∀ W : World, (sliceSem 22 (.slice (some ⟨g, 0, none⟩) s s) (some (.int .i64 (q : Int))) none none).run Tryd.prog W = .ok (.slice (some ⟨g, q, none⟩) r r) W := fun W => by
          rw [run_low5 (some ⟨g, 0, none⟩) s s q (by omega) W, if_neg (by omega), ← hr]
          simp [addO]
        have hhi : ∀ W : World, (sliceSem 22 (.slice (some ⟨g, 0, none⟩) s s) none (some (.int .i64 (ch : Int))) none).run Tryd.prog W = .ok (.slice (some ⟨g, 0, none⟩) ch s) W := fun W => run_high5 _ s s ch (by omega) W
        obtain ⟨q1, hq1e⟩ : ∃ q1, q1 = q + t := ⟨_, rfl⟩
        have e1 : (q : Int) + (t : Int) = (q1 : Int) := by omega
        have hq1b : (q1 : Int) ≤ 131072 := by omega
        have hq1w : IntKind.i64.wrap (q1 : Int) = (q1 : Int) := by rw [IntKind.wrap_i64]; omega
        have HE := hid (show q1 = q + t ∧ 1 ≤ t ∧ q1 ≤ s ∧ Fil W5 g cs.size x (q + t) ∧ Fil W6 g cs.size x (q + t) ∧ Keep (fun k => k = g) wr W5 ∧ Keep (fun k => k = g) wr W6 ∧ Keep noBlock w1 wr from ⟨hq1e, by omega, by omega, hF5, hF6, hK5, ⟨hK6.os, hK6.tape, hK6.output, hK6.size, hK6.block⟩, hKr⟩)
        clear hch hr ht hKr hFr hsc hsrc hcp hF5 hF6 hK5 hK6 hq1e
        go_wp2_with fail
        go_region_held3 (fun _ => True) (trivial) ((fail))
        go_wp2_with fail
        obtain ⟨u1, u2, u3, u4, u5, u6, u7, u8⟩ := HE.out
        refine ⟨⟨q1, rfl, by omega, u3, u8.trans u7 (fun i hi e => by have := HG.out; omega), by rw [u1]; exact u5⟩, ?_⟩
        simp only [intOf, Int.toNat_natCast]
        omega
      · have hltI : ¬ (q : Int) < (s : Int) := by omega
        go_wp2_with fail
        go_ret
        obtain rfl : q = s := by omega
        obtain ⟨hKr, hFr⟩ := HQ.out
        exact ⟨hKr, some ⟨g, 0, none⟩, q, rfl, g, hFr.bytes HF.out.2.2 hx256 (by omega)⟩
  · have hb1 : ¬ (8192 : Int) < (s : Int) := by omega
    go_enter Tryd.func15, Tryd.ntmps15
    go_wp2_with (go_at_call 22; refine (HM.out _).mono ?_; rintro e w1 ⟨rfl, rfl⟩)
    obtain ⟨g, hg⟩ : ∃ g, g = w1.heap.size := ⟨_, rfl⟩
    rw [← hg] at HF h3 ⊢
    have HG := hid hg
    clear hg hcopy hcall h3
    go_loopw [10] (fun v10 wr => ∃ q : Nat, v10 = .int .i64 (q : Int) ∧ 1 ≤ q ∧ q ≤ s ∧ Hid (Keep noBlock w1 wr ∧ Fil wr g cs.size x q)) (fun v10 _ => s - (intOf v10).toNat)
    case atStart => exact ⟨1, rfl, Nat.le_refl _, hs0, HF.out.1, HF.out.2.1⟩
    case round =>
      obtain ⟨q, rfl, hq1, hq, HQ⟩ := hrel
      by_cases hlt : q < s
      · have hltI : (q : Int) < (s : Int) := by omega
        obtain ⟨ch, hch⟩ : ∃ ch, ch = min q s := ⟨_, rfl⟩
        have hmin := minSem_run .i64 #[3, 3] 3 (q : Int) (s : Int) (ch : Int) (by omega)
        obtain ⟨r, hr⟩ : ∃ r, r = s - q := ⟨_, rfl⟩
        obtain ⟨t, ht⟩ : ∃ t, t = min ch r := ⟨_, rfl⟩
        obtain ⟨hKr, hFr⟩ := HQ.out
        have hsc := HF.out.2.2
        have hsrc := fun c cap hc => (hFr.src (by omega) c cap hc)
        have hcp := fun W' hF' hs' => Fil.copy (W := W') (g := g) (N := cs.size) (x := x) (q := q) hF' (.slice (some ⟨g, 0, none⟩) ch s) (List.replicate ch x) hs' ch r r t rfl ht (by omega)
        obtain ⟨W5, hrun5, hF5, hK5⟩ := hcp wr hFr (hsrc ch s (by omega))
        obtain ⟨W6, hrun6, hF6, hK6⟩ := hcp wr.drew hFr (hsrc ch s (by omega))
        have hlo : ∀ W : World, (sliceSem 22 (.slice (some ⟨g, 0, none⟩) s s) (some (.int .i64 (q : Int))) none none).run Tryd.prog W = .ok (.slice (some ⟨g, q, none⟩) r r) W := fun W => by
          rw [run_low5 (some ⟨g, 0, none⟩) s s q (by omega) W, if_neg (by omega), ← hr]
          simp [addO]
        have hhi : ∀ W : World, (sliceSem 22 (.slice (some ⟨g, 0, none⟩) s s) none (some (.int .i64 (ch : Int))) none).run Tryd.prog W = .ok (.slice (some ⟨g, 0, none⟩) ch s) W := fun W => run_high5 _ s s ch (by omega) W
        obtain ⟨q1, hq1e⟩ : ∃ q1, q1 = q + t := ⟨_, rfl⟩
        have e1 : (q : Int) + (t : Int) = (q1 : Int) := by omega
        have hq1b : (q1 : Int) ≤ 131072 := by omega
        have hq1w : IntKind.i64.wrap (q1 : Int) = (q1 : Int) := by rw [IntKind.wrap_i64]; omega
        have HE := hid (show q1 = q + t ∧ 1 ≤ t ∧ q1 ≤ s ∧ Fil W5 g cs.size x (q + t) ∧ Fil W6 g cs.size x (q + t) ∧ Keep (fun k => k = g) wr W5 ∧ Keep (fun k => k = g) wr W6 ∧ Keep noBlock w1 wr from ⟨hq1e, by omega, by omega, hF5, hF6, hK5, ⟨hK6.os, hK6.tape, hK6.output, hK6.size, hK6.block⟩, hKr⟩)
        clear hch hr ht hKr hFr hsc hsrc hcp hF5 hF6 hK5 hK6 hq1e
        go_wp2_with fail
        go_region_held3 (fun _ => True) (trivial) ((fail))
        go_wp2_with fail
        obtain ⟨u1, u2, u3, u4, u5, u6, u7, u8⟩ := HE.out
        refine ⟨⟨q1, rfl, by omega, u3, u8.trans u7 (fun i hi e => by have := HG.out; omega), by rw [u1]; exact u5⟩, ?_⟩
        simp only [intOf, Int.toNat_natCast]
        omega
      · have hltI : ¬ (q : Int) < (s : Int) := by omega
        go_wp2_with fail
        go_ret
        obtain rfl : q = s := by omega
        obtain ⟨hKr, hFr⟩ := HQ.out
        exact ⟨hKr, some ⟨g, 0, none⟩, q, rfl, g, hFr.bytes HF.out.2.2 hx256 (by omega)⟩
end
end Go.Proofs.YtcoahkmiebeeeaaDoor

namespace Go.Proofs.YtcoahkmiebeeeaaDoor
open Go.RowKit Go.Shelf
set_option linter.unusedVariables false

/-- How many bytes stand behind a head. -/
def behN (k size pk : Nat) : Nat := if k = 0 then size else if k = 1 then 1 else pk
set_option maxRecDepth 100000 in
set_option maxHeartbeats 1000000 in
theorem behind_any (k hb fr bt rw size pk : Nat) (w : World) :
    Calls Tryd.prog 8 #[headV k hb fr bt rw size pk] w fun e w' => e = .returned (.int .i64 ((behN k size pk : Nat) : Int)) ∧ Keep noBlock w w' := by
  unfold headV behN
  by_cases h0 : k = 0
  · subst h0
    rw [if_pos rfl]
    go_enter Tryd.func8, Tryd.ntmps8
    go_wp2
    go_ret
    exact ⟨rfl, (Keep.refl _ w).alloc _⟩
  · rw [if_neg h0]
    have g0 : ((k : Int) == 0) = false := by rw [beq_eq_false_iff_ne]; omega
    by_cases h1 : k = 1
    · subst h1
      rw [if_pos rfl]
      go_enter Tryd.func8, Tryd.ntmps8
      go_wp2
      go_ret
      exact ⟨rfl, (Keep.refl _ w).alloc _⟩
    · rw [if_neg h1]
      have g1 : ((k : Int) == 1) = false := by rw [beq_eq_false_iff_ne]; omega
      go_enter Tryd.func8, Tryd.ntmps8
      go_wp2
      go_ret
      exact ⟨rfl, (Keep.refl _ w).alloc _⟩

set_option maxRecDepth 100000 in
set_option maxHeartbeats 1000000 in
theorem cloneB_any (a : Option Addr) (cap gb off : Nat) (bs : List Nat) (w : World) (hB : Bytes w a cap gb off bs) (hlen : bs.length ≤ 140737488355327) :
    Calls Tryd.prog 14 #[.slice a bs.length cap] w fun e w' => Keep noBlock w w' ∧ ∃ a' n cap' g, e = .returned (.slice a' n cap') ∧ n = bs.length ∧ Bytes w' a' cap' g 0 bs := by
  obtain ⟨i0, hi, hz0, hz1, hz2⟩ := info_parts info5
  have hmax : bs.length ≤ maxLen := by unfold maxLen; omega
  have heq := fun (w : World) (a : Option Addr) (n c n' c' : Nat) => Lib.run_eql_slice_nil (P := Tryd.prog) w 22 5 a n c n' c' Tryd.underlying22
  cases a with
  | none =>
    have h1 := hB.nil rfl
    have h2 := hB.cap
    have h3 : bs.length = 0 := by omega
    have h4 : bs = [] := List.length_eq_zero_iff.1 h3
    rw [h3, h1]
    clear hB hmax h2 h3
    subst h4
    go_enter Tryd.func14, Tryd.ntmps14
    go_wp2
    go_ret
    exact ⟨Keep.refl _ _, none, 0, 0, 0, rfl, rfl, .inr rfl, fun _ => rfl, fun j hj => by simp at hj, fun j => by simp, Nat.le_refl _, by decide⟩
  | some ad =>
    have hown := World.ownsRow_made (e := 5) (size := 1) (base := 0) w #[] 0 (Nat.zero_le _) (Nat.zero_le _) rfl
    have hsr : SrcB (w.alloc (.cells #[] 5)) (.slice (some ad) bs.length cap) bs := hB.src.keep ((Keep.refl _ w).alloc _)
    have hc' : ∀ j u, (u8s bs)[j]? = some u → (w.alloc (.cells #[] 5)).cell? (ad.add j) = some u := by
      rcases hsr with ⟨h, _⟩ | ⟨a', c', h, hc⟩
      · cases h
      · cases h; exact hc
    have hlt := hB.lt
    clear hsr hB
    go_enter Tryd.func14, Tryd.ntmps14
    go_wp2_with (at_builtin; refine wpList_append_own _ rfl _ _ 22 rfl 0 5 i0 (.int .u8 0) 1 1 Tryd.underlying22 hi hz0 hz1 hz2 rfl (by decide) (.slice (some ⟨w.heap.size, 0, none⟩) 0 0) 0 [] rfl hown ad bs.length cap (u8s bs) rfl (by simp [u8s_length]) hc' (u8s_one bs) (by omega) (by omega) (by simp) ?_; intro v' w1 hown' hgrow hnil)
    go_ret
    rw [Nat.zero_add, List.nil_append] at hown'
    obtain ⟨a', cap', g, rfl, hB', -⟩ := owns_bytes (M := bs) hown' hlt (by omega)
    refine ⟨((Keep.refl _ w).alloc _).grown hgrow (fun k e hk => ?_), a', _, cap', g, rfl, rfl, hB'⟩
    have e' : w.heap.size = k := by simpa [Value.ownBlock] using e
    omega

end Go.Proofs.YtcoahkmiebeeeaaDoor

namespace Go.Proofs.YtcoahkmiebeeeaaDoor
open Go.RowKit Go.Shelf
set_option linter.unusedVariables false

theorem sumW_app (M : List Nat) (x : Nat) : ∀ n, n ≤ M.length → sumW (M ++ [x]) n = sumW M n := by
  intro n
  induction n with
  | zero => intro _; rfl
  | succ n ih => intro h; rw [sumW_succ, sumW_succ, ih (by omega), wt_app M x n (by omega)]
theorem onesW_app (M : List Nat) (x : Nat) : ∀ n, n ≤ M.length → onesW (M ++ [x]) n = onesW M n := by
  intro n
  induction n with
  | zero => intro _; rfl
  | succ n ih => intro h; rw [onesW_succ, onesW_succ, ih (by omega), wt_app M x n (by omega)]
theorem wt_end (M : List Nat) (x : Nat) : wt (M ++ [x]) M.length = x := by unfold wt; rw [List.getElem?_append_right (Nat.le_refl _), Nat.sub_self]; rfl
theorem sumW_end (M : List Nat) (x : Nat) : sumW (M ++ [x]) (M ++ [x]).length = sumW M M.length + shN x := by
  rw [List.length_append]
  show sumW (M ++ [x]) (M.length + 1) = _
  rw [sumW_succ, sumW_app M x _ (Nat.le_refl _), wt_end]
theorem ones_zero (M : List Nat) : ∀ n, sumW M n = 0 → onesW M n = 0 := by
  intro n
  induction n with
  | zero => intro _; rfl
  | succ n ih =>
    intro h
    rw [sumW_succ] at h
    rw [onesW_succ, ih (by omega)]
    have : shN (wt M n) = 0 := by omega
    split
    · rename_i e
      rw [e] at this; simp [shN] at this
    · rfl
theorem whole_long (M : List Nat) (h : 255 < M.length) : codeB (M ++ [lastW M]) = false := by
  refine decide_eq_false fun q => ?_
  have := q.2.1
  simp at this; omega
theorem whole_zero (M : List Nat) (h : sumW M M.length = 0) : codeB (M ++ [lastW M]) = false := by
  refine decide_eq_false fun q => ?_
  have h7 := q.2.2.2.2.2.2
  rw [List.length_append] at h7
  have h8 : 2 ≤ onesW (M ++ [lastW M]) (M.length + 1) := h7
  rw [onesW_succ, onesW_app M _ _ (Nat.le_refl _), ones_zero M _ h] at h8
  split at h8 <;> omega
theorem whole_big (M : List Nat) (h : 4096 ≤ sumW M M.length) : codeB (M ++ [lastW M]) = false := by
  refine decide_eq_false fun q => ?_
  have h6 := q.2.2.2.2.2.1
  have h5 := q.2.2.2.2.1
  rw [sumW_end] at h5 h6
  have : 2 ^ (lenN (sumW M M.length + shN (lastW M)) - 1) ≤ 2 ^ 11 := Nat.pow_le_pow_right (by omega) h6
  omega
theorem whole_hit (M : List Nat) (x : Nat) (hx : 1 ≤ x) (h : 2 ^ lenN (sumW M M.length) - sumW M M.length = 2 ^ (x - 1)) : lastW M = x := by
  unfold lastW
  rw [h, lenN_pow]; omega
theorem whole_miss (M : List Nat) (h0 : sumW M M.length ≠ 0) (h : ∀ x, 1 ≤ x → x ≤ 12 → 2 ^ lenN (sumW M M.length) - sumW M M.length ≠ 2 ^ (x - 1)) : codeB (M ++ [lastW M]) = false := by
  refine decide_eq_false fun q => ?_
  have h5 := q.2.2.2.2.1
  have h4 := q.2.2.2.1 M.length (by simp)
  rw [wt_end] at h4
  rw [sumW_end] at h5
  obtain ⟨s1, s2, s3⟩ := lenN_pos _ h0
  generalize hs : sumW M M.length = s at *
  generalize hL : lenN s = L at *
  have hD : 2 ^ L - s ≠ 0 := by omega
  have hlw : lastW M = lenN (2 ^ L - s) := by unfold lastW; rw [hs, hL]
  obtain ⟨d1, d2, d3⟩ := lenN_pos _ hD
  rw [← hlw] at d1 d2 d3
  have hsh : shN (lastW M) = 2 ^ (lastW M - 1) := if_neg (by omega)
  rw [hsh] at h5
  refine h (lastW M) d3 (by omega) ?_
  generalize hk : lenN (s + 2 ^ (lastW M - 1)) - 1 = k at h5
  have hp := Nat.two_pow_pos (lastW M - 1)
  have hle : 2 ^ k ≤ 2 ^ L := by omega
  have hgt : 2 ^ (L - 1) < 2 ^ k := by omega
  have k1 : L - 1 < k := (Nat.pow_lt_pow_iff_right (by omega)).1 hgt
  have k2 : k ≤ L := (Nat.pow_le_pow_iff_right (by omega)).1 hle
  have : k = L := by omega
  rw [this] at h5
  omega

end Go.Proofs.YtcoahkmiebeeeaaDoor

namespace Go.Proofs.YtcoahkmiebeeeaaDoor
open Go.RowKit Go.Shelf

set_option maxRecDepth 100000 in
set_option maxHeartbeats 4000000 in
/-- The document's Bits. -/
theorem bitsD_any (a : Option Addr) (cap gb off : Nat) (ws : List Nat) (w : World) (hB : Bytes w a cap gb off ws) :
    Calls Tryd.prog 12 #[.slice a ws.length cap] w fun e w' => e = .returned (.int .i64 ((codeM ws : Nat) : Int)) ∧ w' = w := by
  have HB := (show Hid (Bytes w a cap gb off ws) from hB)
  have h48 := hB.len
  obtain ⟨n, hn⟩ : ∃ n, n = ws.length := ⟨_, rfl⟩
  have HN := (show Hid (n = ws.length) from hn)
  have hnI : (n : Int) < 281474976710656 := by omega
  rw [← hn]
  by_cases h2 : n < 2
  · have h2I : (n : Int) < 2 := by omega
    rw [codeM_no (codeB_short (by omega))]
    clear hB hn h48
    go_enter Tryd.func12, Tryd.ntmps12
    go_wp2
    go_ret
    exact ⟨rfl, rfl⟩
  · have h2I : ¬ (n : Int) < 2 := by omega
    by_cases h256 : 256 < n
    · have h256I : (256 : Int) < (n : Int) := by omega
      rw [codeM_no (codeB_long (by omega))]
      clear hB hn h48
      go_enter Tryd.func12, Tryd.ntmps12
      go_wp2
      go_ret
      exact ⟨rfl, rfl⟩
    · have h256I : ¬ (256 : Int) < (n : Int) := by omega
      obtain ⟨k, hk⟩ : ∃ k, n = k + 1 := ⟨n - 1, by omega⟩
      have hk1 : (n : Int) - 1 = (k : Int) := by omega
      have hkn : (k : Int) < (n : Int) := by omega
      obtain rfl := hB.here (i := k) (by omega)
      have c0 := hB.cells k (by omega)
      have hx256 := hB.lt k
      obtain ⟨x, hx⟩ : ∃ x, x = ws[k]?.getD 0 := ⟨_, rfl⟩
      have hlast : wt ws (ws.length - 1) = x := by unfold wt; rw [hx]; congr 2; omega
      rw [← hx] at c0 hx256
      by_cases hx0 : x = 0
      · rw [codeM_no (codeB_last (by rw [hlast]; exact hx0))]
        subst hx0
        clear hB hn hk hlast hx h48
        go_enter Tryd.func12, Tryd.ntmps12
        go_wp2
        go_ret
        exact ⟨rfl, rfl⟩
      · have hxb : ((x : Int) == 0) = false := by rw [beq_eq_false_iff_ne]; omega
        have hxI : (x : Int) < 256 := by omega
        have HL := (show Hid (wt ws (ws.length - 1) ≠ 0 ∧ n = k + 1) from ⟨by rw [hlast]; exact hx0, hk⟩)
        clear hB hn hk hlast hx hx0
        go_enter Tryd.func12, Tryd.ntmps12
        go_wp2
        clear c0 hk1 hkn hxb hxI hx256 h48 hnI
        go_loop [3, 4, 5] (fun v3 v4 v5 => ∃ i : Nat, v5 = .int .i64 (i : Int) ∧ v3 = .int .i64 ((sumW ws i : Nat) : Int) ∧ v4 = .int .i64 ((onesW ws i : Nat) : Int) ∧ i ≤ n ∧ Hid (∀ j, j < i → wt ws j ≤ 11)) (fun _ _ v5 => n - (intOf v5).toNat)
        case atStart => exact ⟨0, rfl, rfl, rfl, Nat.zero_le _, fun j hj => by omega⟩
        case round =>
          obtain ⟨i, rfl, rfl, rfl, hi, HA⟩ := hrel
          have hsb := sumW_le ws i HA.out
          have hsI : ((sumW ws i : Nat) : Int) ≤ 262144 := by omega
          have hob := onesW_le ws i
          have hoI : ((onesW ws i : Nat) : Int) ≤ 256 := by omega
          by_cases hlt : i < n
          · have hix : i < ws.length := by have := HN.out; omega
            have c1 := HB.out.cells i hix
            have hx256 := HB.out.lt i
            have HX := (show Hid (wt ws i = ws[i]?.getD 0 ∧ sumW ws (i + 1) = sumW ws i + shN (ws[i]?.getD 0) ∧ onesW ws (i + 1) = onesW ws i + (if ws[i]?.getD 0 = 1 then 1 else 0)) from ⟨rfl, rfl, rfl⟩)
            have hltI : (i : Int) < (n : Int) := by omega
            clear hsb hob
            generalize ws[i]?.getD 0 = y at *
            generalize sumW ws i = si at *
            generalize onesW ws i = oi at *
            by_cases h11 : y ≤ 11
            · have hyI : ¬ (11 : Int) < (y : Int) := by omega
              by_cases hy0 : y = 0
              · subst hy0
                have hyb : (((0 : Nat) : Int) == 1) = false := by decide
                go_wp2_with fail
                go_round
                case rel => exact ⟨i + 1, by go_num, by rw [HX.out.2.1]; rfl, by rw [HX.out.2.2]; rfl, by omega, fun j hj => by
                  by_cases e : j = i
                  · subst e; rw [HX.out.1]; exact h11
                  · exact HA.out j (by omega)⟩
                case measure => simp [intOf]; omega
              · obtain ⟨q, hq⟩ : ∃ q, y = q + 1 := ⟨y - 1, by omega⟩
                have hy0I : (0 : Int) < (y : Int) := by omega
                have hqI : (y : Int) - 1 = (q : Int) := by omega
                have hq10 : (q : Int) ≤ 10 := by omega
                have hsh : shN y = 2 ^ q := by rw [hq]; rfl
                have hp : 2 ^ q ≤ 1024 := Nat.pow_le_pow_right (n := 2) (j := 10) (by omega) (by omega)
                obtain ⟨P, hP⟩ : ∃ P, P = shN y := ⟨_, rfl⟩
                have hPl : P ≤ 1024 := hP ▸ shN_le y h11
                have hPI : (P : Int) ≤ 1024 := by clear hp hsh hP hq; omega
                have hSP : IntKind.i64.wrap ((si : Int) + (P : Int)) = ((si + P : Nat) : Int) := by clear hp hsh hP hq hPI; rw [IntKind.wrap_i64]; omega
                have hpI : wrap64 ((2 : Int) ^ q) = (P : Int) := by
                  have e : (2 : Int) ^ q = ((2 ^ q : Nat) : Int) := by simp
                  rw [e, hP, hsh]
                  generalize 2 ^ q = z at hp
                  unfold wrap64; omega
                rw [← hP] at HX
                have HP := (show Hid _ from hpI)
                have HQ := (show Hid _ from hq)
                clear hp hsh hP hq hPl
                have hyI2 : (y : Int) < 256 := by omega
                by_cases hy1 : y = 1
                · have hyb : ((y : Int) == 1) = true := by simp [hy1]
                  have HY := (show Hid _ from hy1)
                  clear hy1 hy0
                  go_wp2_with fail
                  go_round
                  case rel => exact ⟨i + 1, by go_num, by rw [HX.out.2.1]; go_num, by rw [HX.out.2.2, if_pos HY.out]; go_num, by omega, fun j hj => by
                    by_cases e : j = i
                    · subst e; rw [HX.out.1]; exact h11
                    · exact HA.out j (by omega)⟩
                  case measure => simp [intOf]; omega
                · have hyb : ((y : Int) == 1) = false := by rw [beq_eq_false_iff_ne]; omega
                  go_wp2_with fail
                  go_round
                  case rel => exact ⟨i + 1, by go_num, by rw [HX.out.2.1]; go_num, by rw [HX.out.2.2, if_neg hy1]; rfl, by omega, fun j hj => by
                    by_cases e : j = i
                    · subst e; rw [HX.out.1]; exact h11
                    · exact HA.out j (by omega)⟩
                  case measure => simp [intOf]; omega
            · have hyI : (11 : Int) < (y : Int) := by omega
              have hyI2 : (y : Int) < 256 := by omega
              have HC := (show Hid (codeM ws = 0) from codeM_no (codeB_ok (decide_eq_false (fun h => h11 (by have := h i hix; rwa [HX.out.1] at this)))))
              go_wp2_with fail
              go_ret
              exact ⟨by rw [HC.out]; rfl, rfl⟩
          · obtain rfl : i = n := by omega
            have hltI : ¬ (i : Int) < (i : Int) := by omega
            have HCB := (show Hid (codeB ws = decide (sumW ws i = 2 ^ (lenN (sumW ws i) - 1) ∧ lenN (sumW ws i) - 1 ≤ 11 ∧ 2 ≤ onesW ws i)) from by
              have hnn := HN.out
              unfold codeB
              rw [Bool.eq_iff_iff, decide_eq_true_iff, decide_eq_true_iff, ← hnn]
              exact ⟨fun h => h.2.2.2.2, fun h => ⟨by omega, by omega, by rw [hnn]; exact HL.out.1, HA.out, h⟩⟩)
            have HS1 := (show Hid (2 ≤ onesW ws i → sumW ws i ≠ 1) from fun h e => by have := ones_le_sum ws i; omega)
            have HCM := (show Hid (codeM ws = if codeB ws then lenN (sumW ws i) - 1 else 0) from by rw [HN.out]; rfl)
            clear hsb hob
            generalize sumW ws i = S at *
            generalize onesW ws i = oi at *
            go_wp2_with fail
            go_loop [6] (fun v6 => ∃ m : Nat, v6 = .int .i64 (m : Int) ∧ 1 ≤ m ∧ m ≤ 12 ∧ Hid (∀ j, 1 ≤ j → j < m → ¬ (S = 2 ^ j ∧ 2 ≤ oi))) (fun v6 => 12 - (intOf v6).toNat)
            case atStart => exact ⟨1, rfl, by omega, by omega, fun j h1 h2 => by omega⟩
            case round =>
              obtain ⟨m, rfl, hm1, hm12, HJ⟩ := hrel
              by_cases hm : m ≤ 11
              · have hmI : (m : Int) ≤ 11 := by omega
                obtain ⟨P, hP⟩ : ∃ P, P = 2 ^ m := ⟨_, rfl⟩
                have hPl : P ≤ 2048 := hP ▸ Nat.pow_le_pow_right (n := 2) (j := 11) (by omega) hm
                have HP := (show Hid (P = 2 ^ m) from hP)
                have hpI : wrap64 ((2 : Int) ^ m) = (P : Int) := by
                  have e : (2 : Int) ^ m = (P : Int) := by rw [hP]; simp
                  rw [e]
                  clear hP e
                  unfold wrap64; omega
                clear hP
                by_cases hSP : S = P
                · have HSP := (show Hid _ from hSP)
                  by_cases ho : 2 ≤ oi
                  · have hoI2 : (2 : Int) ≤ (oi : Int) := by omega
                    subst hSP
                    have hb : ((S : Int) == (S : Int)) = true := by simp
                    have HR := (show Hid (codeM ws = m) from by
                      have e1 : lenN S = m + 1 := by rw [HP.out]; exact lenN_pow m
                      have e2 : codeB ws = true := by
                        rw [HCB.out, e1]
                        exact decide_eq_true ⟨HP.out, hm, ho⟩
                      rw [HCM.out, if_pos e2, e1]; rfl)
                    clear hPl hsI
                    go_wp2_with fail
                    go_ret
                    exact ⟨by rw [HR.out]; rfl, rfl⟩
                  · have hoI2 : ¬ (2 : Int) ≤ (oi : Int) := by omega
                    subst hSP
                    have hb : ((S : Int) == (S : Int)) = true := by simp
                    clear hPl hsI
                    go_wp2_with fail
                    go_round
                    case rel => exact ⟨m + 1, by go_num, by omega, by omega, fun j h1 h2 h => ho h.2⟩
                    case measure => simp [intOf]; omega
                · have hb : ((S : Int) == (P : Int)) = false := by rw [beq_eq_false_iff_ne]; omega
                  have HNE := (show Hid _ from hSP)
                  clear hPl hsI hSP
                  go_wp2_with fail
                  go_round
                  case rel => exact ⟨m + 1, by go_num, by omega, by omega, fun j h1 h2 h => by
                    by_cases e : j = m
                    · subst e; exact HNE.out (by rw [HP.out]; exact h.1)
                    · exact HJ.out j h1 (by omega) h⟩
                  case measure => simp [intOf]; omega
              · obtain rfl : m = 12 := by omega
                have HR := (show Hid (codeM ws = 0) from by
                  have e2 : codeB ws = false := by
                    rw [HCB.out]
                    refine decide_eq_false (fun h => ?_)
                    have h3 := HJ.out (lenN S - 1)
                    by_cases e : 1 ≤ lenN S - 1
                    · exact h3 e (by omega) ⟨h.1, h.2.2⟩
                    · have h1 := h.1
                      rw [show lenN S - 1 = 0 from by omega] at h1
                      exact HS1.out h.2.2 h1
                  rw [HCM.out, e2]; rfl)
                rw [show ((12 : Nat) : Int) = (12 : Int) from rfl]
                go_wp2_with fail
                go_ret
                exact ⟨by rw [HR.out]; rfl, rfl⟩

end Go.Proofs.YtcoahkmiebeeeaaDoor

namespace Go.Proofs.YtcoahkmiebeeeaaDoor
open Go.RowKit Go.Shelf
set_option linter.unusedVariables false

theorem codeM_pos (ws : List Nat) : decide ((0 : Int) < ((codeM ws : Nat) : Int)) = codeB ws := by
  cases h : codeB ws with
  | false => rw [codeM_no h]; rfl
  | true =>
    have h0 : codeM ws ≠ 0 := fun e => by rw [codeM_zero.1 e] at h; cases h
    exact decide_eq_true (by omega)
theorem last_of {M : List Nat} {w w' : World} {v : Value} {y : Nat} {b : Bool} (hl : lastW M = y) (hb : b = codeB (M ++ [y])) (hk : Keep noBlock w w') (ho : w'.ownsRow 0 5 1 v (M ++ [y]).length (u8s (M ++ [y]))) (hn : ∀ k, v.ownBlock = some k → w.heap.size ≤ k) : Keep noBlock w w' ∧ LastPost M w (.returned (.tuple #[v, .bool b])) w' := by
  subst hl
  refine ⟨hk, ?_⟩
  cases h : codeB (M ++ [lastW M]) with
  | true => rw [h] at hb; subst hb; exact .inl ⟨h, v, rfl, ho, hn⟩
  | false => rw [h] at hb; subst hb; exact .inr ⟨h, v, rfl⟩
theorem last_no {M : List Nat} {w w' : World} {v : Value} (h : codeB (M ++ [lastW M]) = false) (hk : Keep noBlock w w') : Keep noBlock w w' ∧ LastPost M w (.returned (.tuple #[v, .bool false])) w' := ⟨hk, .inr ⟨h, v, rfl⟩⟩

set_option maxRecDepth 100000 in
set_option maxHeartbeats 1000000 in
theorem whole_any (a : Option Addr) (cap gb off : Nat) (M : List Nat) (w : World) (hB : Bytes w a cap gb off M) :
    Calls Tryd.prog 20 #[.slice a M.length cap] w fun e w' => Keep noBlock w w' ∧ LastPost M w e w' := by
  have HB := (show Hid (Bytes w a cap gb off M) from hB)
  have h48 := hB.len
  obtain ⟨n, hn⟩ : ∃ n, n = M.length := ⟨_, rfl⟩
  rw [← hn] at h48 ⊢
  have HN := (show Hid (n = M.length) from hn)
  have hnI : (n : Int) < 281474976710656 := by omega
  by_cases hlo : 255 < n
  · have hloI : (255 : Int) < (n : Int) := by omega
    have HD := (show Hid (codeB (M ++ [lastW M]) = false) from whole_long M (by omega))
    clear hB h48 hn hlo
    go_enter Tryd.func20, Tryd.ntmps20
    go_wp2
    go_ret2
    exact last_no HD.out (Keep.refl _ _)
  have hloI : ¬ (255 : Int) < (n : Int) := by omega
  have hn255 : (n : Int) ≤ 255 := by omega
  clear hB h48 hn hnI
  go_enter Tryd.func20, Tryd.ntmps20
  go_wp2
  go_loop [4, 5] (fun v4 v5 => ∃ (i s : Nat), v4 = .int .i64 (s : Int) ∧ v5 = .int .i64 (i : Int) ∧ i ≤ n ∧ s ≤ i * 1024 ∧ Hid (s = sumW M i ∧ ∀ j, j < i → wt M j ≤ 11)) (fun _ v5 => n - (intOf v5).toNat)
  case atStart => exact ⟨0, 0, rfl, rfl, Nat.zero_le _, by omega, rfl, fun j hj => by omega⟩
  case round =>
    obtain ⟨i, s, rfl, rfl, hi, hsb, HC⟩ := hrel
    have hsI : (s : Int) ≤ 261120 := by omega
    by_cases hlt : i < n
    · have hltI : (i : Int) < (n : Int) := by omega
      have hiM : i < M.length := by have := HN.out; omega
      obtain rfl := HB.out.here hiM
      have c1 := HB.out.cells i hiM
      have hx256 := HB.out.lt i
      obtain ⟨x, hx⟩ : ∃ x, x = M[i]?.getD 0 := ⟨_, rfl⟩
      rw [← hx] at c1 hx256
      have hxI : (x : Int) < 256 := by omega
      have HX := (show Hid (x = wt M i) from hx)
      by_cases h11 : 11 < x
      · have h11I : (11 : Int) < (x : Int) := by omega
        have HD := (show Hid (codeB (M ++ [lastW M]) = false) from codeB_okW _ (decide_eq_false (fun q => by have := q i hiM; have := HX.out; omega)))
        clear hx
        go_wp2
        go_ret2
        exact last_no HD.out (Keep.refl _ _)
      · have h11I : ¬ (11 : Int) < (x : Int) := by omega
        have HLe := (show Hid (∀ j, j < i + 1 → wt M j ≤ 11) from fun j hj => by
          by_cases e : j = i
          · rw [e, ← HX.out]; omega
          · exact HC.out.2 j (by omega))
        by_cases hx0 : x = 0
        · subst hx0
          rw [show ((0 : Nat) : Int) = (0 : Int) from rfl] at c1
          have HS := (show Hid (s = sumW M (i + 1)) from by rw [sumW_succ, ← HX.out, ← HC.out.1]; rfl)
          clear hx
          go_wp2
          go_round
          case rel => exact ⟨i + 1, s, rfl, by go_num, by omega, by omega, HS.out, HLe.out⟩
          case measure => simp [intOf]; omega
        · have hx0I : (0 : Int) < (x : Int) := by omega
          obtain ⟨x1, hx1⟩ : ∃ x1, x1 = x - 1 := ⟨_, rfl⟩
          have hx1I : (x : Int) - 1 = (x1 : Int) := by omega
          have hx10 : (x1 : Int) ≤ 10 := by omega
          have hpw : (2 : Int) ^ x1 = ((2 ^ x1 : Nat) : Int) := by simp
          have hpb : 2 ^ x1 ≤ 1024 := Nat.pow_le_pow_right (n := 2) (j := 10) (by omega) (by omega)
          obtain ⟨P, hP⟩ : ∃ P, P = 2 ^ x1 := ⟨_, rfl⟩
          rw [← hP] at hpw hpb
          have hss : s + P = sumW M (i + 1) := by
            rw [sumW_succ, ← HX.out, ← HC.out.1]
            unfold shN
            rw [if_neg hx0, ← hx1, hP]
          have HS := (show Hid (s + P = sumW M (i + 1)) from hss)
          clear hss
          have hPI : (P : Int) ≤ 1024 := by omega
          have HPB := (show Hid (P ≤ 1024) from hpb)
          clear hx hx1 hP hpb
          go_wp2
          go_round
          case rel => exact ⟨i + 1, s + P, by go_num, by go_num, by omega, by have := HPB.out; omega, HS.out, HLe.out⟩
          case measure => simp [intOf]; omega
    · obtain rfl : i = n := by omega
      have hltI : ¬ (i : Int) < (i : Int) := by omega
      have HS := (show Hid (s = sumW M M.length) from by rw [← HN.out]; exact HC.out.1)
      by_cases hs0 : s = 0
      · subst hs0
        rw [show ((0 : Nat) : Int) = (0 : Int) from rfl]
        have HD := (show Hid (codeB (M ++ [lastW M]) = false) from whole_zero M HS.out.symm)
        go_wp2
        go_ret2
        exact last_no HD.out (Keep.refl _ _)
      · have hs0I : ¬ (s : Int) = 0 := by omega
        by_cases hsb2 : 4096 < s
        · have hsbI : (4096 : Int) < (s : Int) := by omega
          have HD := (show Hid (codeB (M ++ [lastW M]) = false) from whole_big M (by have := HS.out; omega))
          go_wp2
          go_ret2
          exact last_no HD.out (Keep.refl _ _)
        · have hsbI : ¬ (4096 : Int) < (s : Int) := by omega
          clear HC hsb hsI hlt
          go_wp2
          go_loop [6] (fun v6 => ∃ A : Nat, v6 = .int .i64 (A : Int) ∧ 1 ≤ A ∧ A ≤ 8192 ∧ Hid (∃ t, A = 2 ^ t ∧ (t = 0 ∨ 2 ^ (t - 1) ≤ s))) (fun v6 => 8193 - (intOf v6).toNat)
          case atStart => exact ⟨1, rfl, by omega, by omega, 0, rfl, .inl rfl⟩
          case round =>
            obtain ⟨A, rfl, hA1, hA2, HA⟩ := hrel
            have hAI : (A : Int) ≤ 8192 := by omega
            by_cases hle : A ≤ s
            · have hleI : (A : Int) ≤ (s : Int) := by omega
              have HA2 := (show Hid (∃ t, A * 2 = 2 ^ t ∧ (t = 0 ∨ 2 ^ (t - 1) ≤ s)) from by
                obtain ⟨t, h1, h2⟩ := HA.out
                exact ⟨t + 1, by rw [h1, Nat.pow_succ], .inr (by rw [Nat.add_sub_cancel, ← h1]; exact hle)⟩)
              clear HA
              go_wp2
              go_round
              case rel => exact ⟨A * 2, by go_num, by omega, by omega, HA2.out⟩
              case measure => simp [intOf]; omega
            · have hleI : ¬ (A : Int) ≤ (s : Int) := by omega
              have hAe : A = 2 ^ lenN s := by
                obtain ⟨t, h1, h2⟩ := HA.out
                rcases h2 with h2 | h2
                · rw [h2] at h1; simp at h1; omega
                · by_cases ht : t = 0
                  · rw [ht] at h1; simp at h1; omega
                  · rw [lenN_eq s (t - 1) h2 (by rw [Nat.sub_add_cancel (by omega), ← h1]; omega), h1, Nat.sub_add_cancel (by omega)]
              obtain ⟨D, hD⟩ : ∃ D, D = A - s := ⟨_, rfl⟩
              have hDI : (A : Int) - (s : Int) = (D : Int) := by omega
              have hDb : (D : Int) ≤ 8192 := by omega
              have HDD := (show Hid (D = 2 ^ lenN (sumW M M.length) - sumW M M.length ∧ sumW M M.length ≠ 0) from by
                rw [← HS.out, ← hAe]; exact ⟨hD, hs0⟩)
              clear HA hAe hD
              go_wp2
              go_loop [7] (fun v7 => ∃ y : Nat, v7 = .int .i64 (y : Int) ∧ 1 ≤ y ∧ y ≤ 13 ∧ Hid (∀ x, 1 ≤ x → x < y → D ≠ 2 ^ (x - 1))) (fun v7 => 14 - (intOf v7).toNat)
              case atStart => exact ⟨1, rfl, by omega, by omega, fun x h1 h2 => by omega⟩
              case round =>
                obtain ⟨y, rfl, hy1, hy2, HY⟩ := hrel
                have hyI : (y : Int) ≤ 13 := by omega
                by_cases hy : y ≤ 12
                · have hy12 : (y : Int) ≤ 12 := by omega
                  obtain ⟨y1, hy1e⟩ : ∃ y1, y1 = y - 1 := ⟨_, rfl⟩
                  have hy1I : (y : Int) - 1 = (y1 : Int) := by omega
                  have hy11 : (y1 : Int) ≤ 11 := by omega
                  have hpw : (2 : Int) ^ y1 = ((2 ^ y1 : Nat) : Int) := by simp
                  have hpb : 2 ^ y1 ≤ 2048 := Nat.pow_le_pow_right (n := 2) (j := 11) (by omega) (by omega)
                  obtain ⟨P, hP⟩ : ∃ P, P = 2 ^ y1 := ⟨_, rfl⟩
                  rw [← hP] at hpw hpb
                  have hPI : (P : Int) ≤ 2048 := by omega
                  have HP := (show Hid (P = 2 ^ (y - 1)) from by rw [hP, hy1e]; exact rfl)
                  clear hy1e hP hpb
                  by_cases hit : D = P
                  · subst hit
                    have HLW := (show Hid (lastW M = y) from whole_hit M y hy1 (by rw [← HDD.out.1]; exact HP.out))
                    obtain ⟨nb, hnb⟩ : ∃ nb, nb = w.heap.size := ⟨_, rfl⟩
                    have hk0 : Keep noBlock w (w.alloc (.cells #[] 5)) := (Keep.refl _ w).alloc _
                    have on0 := World.alloc_heap_new w (.cells #[] 5)
                    rw [← hnb] at on0
                    have ho0 : (w.alloc (.cells #[] 5)).ownsRow 0 5 1 (.slice (some ⟨nb, 0, none⟩) 0 0) ([] : List Nat).length (u8s []) := owns_mk (M := []) on0 (Nat.le_refl _) (by decide) rfl rfl
                    have hlM : M.length ≤ 255 := by have := HN.out; omega
                    have hsrc : SrcB (w.alloc (.cells #[] 5)) (.slice a i cap) M := by
                      have := (HB.out.keep hk0 (fun _ h => h)).src
                      rw [← HN.out] at this
                      exact this
                    obtain ⟨v1, W1, hr1, ho1, hkk1, hm1⟩ := run_append_all (w.alloc (.cells #[] 5)) 22 _ [] M ho0 (by simp; omega) _ hsrc
                    rw [List.nil_append] at ho1
                    obtain ⟨v2, W2, hr2, ho2, hkk2, hm2⟩ := own_push ho1 y (by omega)
                    have hlt2 : ∀ j : Nat, (M ++ [y])[j]?.getD 0 < 256 := lt_app HB.out.lt (lt256 (fun b hb => by rw [List.mem_singleton.1 hb]; omega))
                    obtain ⟨a2, cap2, g2, rfl, hB2, hg2⟩ := owns_bytes ho2 hlt2 (by simp; omega)
                    have HM := (show Hid (Calls Tryd.prog 12 _ W2 _) from bitsD_any a2 cap2 g2 0 (M ++ [y]) W2 hB2)
                    have hn1 : ∀ k, v1.ownBlock = some k → nb ≤ k := fun k e => by
                      rcases hm1 with e2 | ⟨j, e2, hj⟩
                      · rw [e2] at e; simp [Value.ownBlock] at e; omega
                      · rw [e2] at e; cases e; rw [World.size_alloc] at hj; omega
                    have hK2 : Keep noBlock w W2 := ((hk0.trans hkk1 (fun j hj e => by simp [Value.ownBlock] at e; omega))).trans hkk2 (fun j hj e => by have := hn1 j e; omega)
                    have HE := (show Hid (W2.ownsRow 0 5 1 (.slice a2 (M ++ [y]).length cap2) (M ++ [y]).length (u8s (M ++ [y])) ∧ Keep noBlock w W2 ∧ ∀ k, (Value.slice a2 (M ++ [y]).length cap2).ownBlock = some k → w.heap.size ≤ k) from ⟨ho2, hK2, fun k e => by
                      rcases hm2 with e2 | ⟨j, e2, hj⟩
                      · rw [e2] at e; have := hn1 k e; omega
                      · rw [e2] at e; cases e; have h1 := (hk0.trans hkk1 (fun j hj e => by simp [Value.ownBlock] at e; omega) : Keep noBlock w W1).size; omega⟩)
                    have hmb : codeM (M ++ [y]) ≤ 11 := by
                      unfold codeM
                      split
                      · rename_i h; exact (codeB_is h).m11
                      · omega
                    have HCM := (show Hid (decide ((0 : Int) < ((codeM (M ++ [y]) : Nat) : Int)) = codeB (M ++ [y])) from codeM_pos (M ++ [y]))
                    obtain ⟨m, hm⟩ : ∃ m, m = codeM (M ++ [y]) := ⟨_, rfl⟩
                    rw [← hm] at HM HCM hmb
                    obtain ⟨n2, hn2⟩ : ∃ n2, n2 = (M ++ [y]).length := ⟨_, rfl⟩
                    rw [← hn2] at HM hr2 HE
                    have HN2 := (show Hid (n2 = (M ++ [y]).length) from hn2)
                    have hmI : (m : Int) ≤ 11 := by omega
                    rw [hnb] at hr1
                    clear HY HP HDD hnb hk0 on0 ho0 hsrc ho1 hkk1 hm1 ho2 hkk2 hm2 hlt2 hB2 hg2 hn1 hK2 hm hn2 hlM hmb
                    go_wp2_with (at_builtin; first | refine wpList_append_run _ rfl _ _ 22 rfl _ _ _ _ rfl rfl hr1 ?_ | refine wpList_append_run _ rfl _ _ 22 rfl _ _ _ _ rfl rfl hr2 ?_)
                    refine HM.out.mono ?_
                    rintro e w4 ⟨rfl, rfl⟩
                    go_wp2_with fail
                    go_ret2
                    rw [HN2.out] at HE ⊢
                    exact last_of HLW.out (by first | exact HCM.out | (rw [← HCM.out]; simp)) HE.out.2.1 HE.out.1 HE.out.2.2
                  · have hitI : ¬ (D : Int) = (P : Int) := by omega
                    have HY2 := (show Hid (∀ x, 1 ≤ x → x < y + 1 → D ≠ 2 ^ (x - 1)) from fun x h1 h2 => by
                      by_cases e : x = y
                      · rw [e, ← HP.out]; exact hit
                      · exact HY.out x h1 (by omega))
                    clear HY HP
                    go_wp2
                    go_round
                    case rel => exact ⟨y + 1, by go_num, by omega, by omega, HY2.out⟩
                    case measure => simp [intOf]; omega
                · obtain rfl : y = 13 := by omega
                  have HD := (show Hid (codeB (M ++ [lastW M]) = false) from whole_miss M HDD.out.2 (fun x h1 h2 => by rw [← HDD.out.1]; exact HY.out x h1 (by omega)))
                  clear HY HDD
                  go_wp2
                  go_ret2
                  exact last_no HD.out (Keep.refl _ _)

end Go.Proofs.YtcoahkmiebeeeaaDoor

namespace Go.Proofs.YtcoahkmiebeeeaaDoor
open Go.RowKit Go.Shelf

def i16s (xs : List Int) : List Value := xs.map (fun x => Value.int .i16 x)
theorem i16s_length (xs : List Int) : (i16s xs).length = xs.length := by simp [i16s]
theorem i16s_one (xs : List Int) : ∀ u ∈ i16s xs, u.oneCell' = true := by
  intro u hu
  simp only [i16s, List.mem_map] at hu
  obtain ⟨b, _, rfl⟩ := hu
  rfl
theorem i16s_at (xs : List Int) (j : Nat) (hj : j < xs.length) : (i16s xs)[j]? = some (.int .i16 (xs[j]?.getD 0)) := by simp [i16s, hj]

set_option maxHeartbeats 1000000 in
/-- slices.Clone of counts: the same in memory of its own. -/
theorem clone65_any (ab n cap : Nat) (xs : List Int) (hn : n = xs.length) (hl : xs.length ≤ 4096) (w : World) (hlt : ab < w.heap.size) (h : ∀ j, j < xs.length → w.cell? ⟨ab, j, none⟩ = some (.int .i16 (xs[j]?.getD 0))) :
    Calls Tryd.prog 77 #[.slice (some ⟨ab, 0, none⟩) n cap] w fun e w' => ∃ g cap', e = .returned (.slice (some ⟨g, 0, none⟩) xs.length cap') ∧ w.heap.size ≤ g ∧ RowI w' .i16 (some ⟨g, 0, none⟩) cap' g 0 xs ∧ Keep noBlock w w' := by
  subst hn
  obtain ⟨i0, hi, hz0, hz1, hz2⟩ := info_parts info42
  have hmax : xs.length ≤ maxLen := by unfold maxLen; omega
  have hby : xs.length * 2 ≤ 140737488355328 := by omega
  have heq := fun (w : World) (a : Option Addr) (n c n' c' : Nat) => Lib.run_eql_slice_nil (P := Tryd.prog) w 66 107 a n c n' c' Tryd.underlying66
  have hown := World.ownsRow_made (e := 107) (size := 1) (base := w.heap.size) w #[] 0 (Nat.le_refl _) (Nat.zero_le _) rfl
  have hc' : ∀ j u, (i16s xs)[j]? = some u → (w.alloc (.cells #[] 107)).cell? ((⟨ab, 0, none⟩ : Addr).add j) = some u := fun j u hu => by
    have hj : j < xs.length := by rw [← i16s_length]; exact (List.getElem?_eq_some_iff.1 hu).1
    rw [add0]
    refine (World.cell?_of_block (Below.heap_alloc _ _ _ hlt)).trans ((h j hj).trans ?_)
    rw [← i16s_at xs j hj, hu]
  have HL := (show Hid ((i16s xs).length = xs.length * 1) from by rw [i16s_length]; exact (Nat.mul_one _).symm)
  clear h
  go_enter Tryd.func77, Tryd.ntmps77
  go_wp2_with (at_builtin; refine wpList_append_own _ rfl _ _ 66 rfl w.heap.size 107 i0 (.int .i16 0) 1 2 Tryd.underlying66 hi hz0 hz1 hz2 rfl (by decide) (.slice (some ⟨w.heap.size, 0, none⟩) 0 0) 0 [] rfl hown ⟨ab, 0, none⟩ xs.length cap (i16s xs) rfl HL.out hc' (i16s_one xs) (by omega) (by omega) (by simp) ?_; intro v' w1 hown' hgrow hnil)
  go_ret
  have hk : Keep noBlock w w1 := ((Keep.refl _ w).alloc _).grown hgrow (fun k e hk => by
    have e' : w.heap.size = k := by simpa [Value.ownBlock] using e
    omega)
  rw [List.nil_append, Nat.zero_add] at hown'
  rcases hown'.2 with ⟨e1, h0⟩ | ⟨g, cap', cur, e1, hb, hg, hr1, hr2, hr3, hr4⟩
  · have := hnil.1 e1
    cases this.1
  · subst e1
    refine ⟨g, cap', rfl, hb, ⟨.inl rfl, (fun e => by cases e), fun j hj => ?_, hr1⟩, hk⟩
    have q1 := hown'.cells (g := g) rfl _ _ (i16s_at xs j hj)
    rw [add0] at q1
    rw [Nat.zero_add]; exact q1

/-- What of a description is still to be read. -/
def Rest (bs : List Nat) (xs : List Int) (i R q E : Nat) : Bool → Prop
  | false => ∃ f, xs.length - i ≤ f ∧ Laid bs q (dsc f R (xs.drop i)) ∧ q + (dsc f R (xs.drop i)).length = E
  | true => xs.drop i ≠ [] ∧ ∃ f, xs.length - i ≤ f ∧ Laid bs q (zbits (zl (xs.drop i)) ++ dsc f R ((xs.drop i).drop (zl (xs.drop i)))) ∧ q + (zbits (zl (xs.drop i)) ++ dsc f R ((xs.drop i).drop (zl (xs.drop i)))).length = E
def boolN : Value → Nat
  | .bool true => 1
  | _ => 0
theorem getD_dropI (xs : List Int) (i j : Nat) : (xs.drop i)[j]?.getD 0 = xs[i + j]?.getD 0 := by rw [List.getElem?_drop]
theorem drop_consI (xs : List Int) (i : Nat) (h : i < xs.length) : xs.drop i = (xs[i]?.getD 0) :: xs.drop (i + 1) := by
  rw [List.drop_eq_getElem_cons h, List.getElem?_eq_getElem h]; rfl

set_option maxRecDepth 100000 in
set_option maxHeartbeats 4000000 in
theorem readCounts_any (rb g : Nat) (bs : List Nat) (p ms f : Nat) (xs : List Int) (w : World) (h : IsR w rb g bs p) (hrb : rb < w.heap.size) (hG : Good xs) (hL : Laid bs p (dsc f (tot xs) xs)) (hf : xs.length ≤ f) (hms : xs.length ≤ ms + 1) (hms2 : ms ≤ 255) :
    Calls Tryd.prog 59 #[.pointer (some ⟨rb, 0, none⟩), .int .i64 ((tot xs : Nat) : Int), .int .i64 (ms : Int)] w fun e w' => ∃ gc cap', e = .returned (.tuple #[.slice (some ⟨gc, 0, none⟩) xs.length cap', .int .i64 0]) ∧ w.heap.size ≤ gc ∧ RowI w' .i16 (some ⟨gc, 0, none⟩) cap' gc 0 xs ∧
      IsR w' rb g bs (p + (dsc f (tot xs) xs).length) ∧ Keep (fun k => k = rb) w w' := by
  have hA : IsA (w.alloc (.cells Tryd.zeroCells144 144)) w.heap.size 144 .i16 256 (fun _ => 0) := by rw [zero112]; exact isA_zeros w 144 .i16 256
  have hI1 := h.keep ((Keep.refl noBlock w).alloc (.cells Tryd.zeroCells144 144)) (fun h => h) (fun _ h => h)
  obtain ⟨E, hE⟩ : ∃ E, E = p + (dsc f (tot xs) xs).length := ⟨_, rfl⟩
  rw [← hE]
  have hlt := hG.le
  have HA := (show Hid (IsA (w.alloc (.cells Tryd.zeroCells144 144)) w.heap.size 144 .i16 256 (fun _ => 0) ∧ IsR (w.alloc (.cells Tryd.zeroCells144 144)) rb g bs p ∧ Keep (fun k => k = rb) w (w.alloc (.cells Tryd.zeroCells144 144)) ∧ Rest bs xs 0 (tot xs) p E false) from
    ⟨hA, hI1, (Keep.refl _ w).alloc _, f, by omega, hL, hE.symm⟩)
  have HH := (show Hid (Good xs ∧ xs.length ≤ 256 ∧ g < w.heap.size) from ⟨hG, by omega, h.lt⟩)
  obtain ⟨n, hn⟩ : ∃ n, n = xs.length := ⟨_, rfl⟩
  rw [← hn] at hms ⊢
  have HN := (show Hid (n = xs.length) from hn)
  obtain ⟨R0, hR0⟩ : ∃ R0, R0 = tot xs := ⟨_, rfl⟩
  rw [← hR0] at HA hlt ⊢
  have HR0 := (show Hid (R0 = tot xs) from hR0)
  clear hA hI1 hE h hG hL hf hn hR0
  go_enter Tryd.func59, Tryd.ntmps59
  go_wp2_with fail
  refine wp_scope_straight ?_
  go_wp2_with fail
  refine wp_label ?_
  go_wp2_with fail
  generalize w.alloc (.cells Tryd.zeroCells144 144) = W1 at HA ⊢
  obtain ⟨ab, hab⟩ : ∃ ab, ab = w.heap.size := ⟨_, rfl⟩
  rw [← hab] at HA hrb ⊢
  have HAB := (show Hid (ab = w.heap.size) from hab)
  clear hab
  go_loopw [1, 9, 10, 11] (fun v1 v9 v10 v11 wr => ∃ (i R q : Nat) (more : Bool), v1 = .int .i64 (R : Int) ∧ v9 = .int .i64 (i : Int) ∧ v10 = .int .i64 0 ∧ v11 = .bool more ∧ i ≤ n ∧
    Hid (R = tot (xs.drop i) ∧ IsA wr ab 144 .i16 256 (fun j => if j < i then xs[j]?.getD 0 else 0) ∧ IsR wr rb g bs q ∧ Keep (fun k => k = rb) w wr ∧ Rest bs xs i R q E more)) (fun _ v9 _ v11 _ => 2 * (n - (intOf v9).toNat) + boolN v11)
  case atStart =>
    obtain ⟨a1, a2, a3, a4⟩ := HA.out
    exact ⟨0, R0, p, false, rfl, rfl, rfl, rfl, Nat.zero_le _, HR0.out, a1.congr (fun _ _ => by simp), a2, a3, a4⟩
  case round =>
    clear HA
    obtain ⟨i, R, q, more, rfl, rfl, rfl, rfl, hi, HC⟩ := hrel
    cases more with
    | true =>
      obtain ⟨hR, hA, hI, hK, hne, f, hf, hL, hE⟩ := HC.out
      have hG := HH.out.1.drop i
      have hin : i < n := by
        rcases Nat.lt_or_ge i n with h | h
        · exact h
        · exact absurd (List.drop_eq_nil_of_le (by have := HN.out; omega)) hne
      have hpos := hG.pos hne
      rw [← hR] at hpos
      have hle := hG.le
      rw [← hR] at hle
      have hzl := hG.zl hne
      have hz0 := zl_zero (xs.drop i)
      have hn := HN.out
      rw [List.length_drop] at hzl
      have hRp : 0 < (R : Int) := by omega
      have hmsI : ¬ (ms : Int) < (i : Int) := by omega
      have hib : (i : Int) ≤ 256 := by omega
      by_cases h3 : 3 ≤ zl (xs.drop i)
      · obtain ⟨k, hk⟩ : ∃ k, zl (xs.drop i) = k + 3 := ⟨zl (xs.drop i) - 3, by omega⟩
        rw [hk, zbits_more, List.append_assoc] at hL hE
        have hnum : numAt bs q 2 = 3 := hL.left.num 2 (by omega)
        have hle2 := hL.left.le
        rw [low_length] at hle2
        have hR2 := hL.right
        rw [low_length] at hR2
        have hzd : zl (xs.drop (i + 3)) = k := by rw [← List.drop_drop, zl_drop _ 3 (by omega), hk]; omega
        have htd : tot (xs.drop (i + 3)) = tot (xs.drop i) := by rw [← List.drop_drop]; exact tot_zeros _ 3 (by omega)
        have HB := (show Hid (Calls Tryd.prog 58 #[.pointer (some ⟨rb, 0, none⟩), .int .i64 2] wr _) from bits_take_i rb g bs q 2 3 2 rfl (by omega) wr hI hle2 hnum)
        have HG2 := (show Hid (R = tot (xs.drop (i + 3)) ∧ IsA wr ab 144 .i16 256 (fun j => if j < i + 3 then xs[j]?.getD 0 else 0) ∧ Keep (fun k => k = rb) w wr ∧ Rest bs xs (i + 3) R (q + 2) E true ∧ i + 3 ≤ n) from by
          refine ⟨by rw [htd]; exact hR, hA.congr (fun j _ => ?_), hK, ⟨?_, f, by omega, ?_, ?_⟩, by omega⟩
          · by_cases hj : j < i
            · rw [if_pos hj, if_pos (by omega)]
            · rw [if_neg hj]
              by_cases hj3 : j < i + 3
              · rw [if_pos hj3]
                have := hz0 (j - i) (by omega)
                rw [getD_dropI, show i + (j - i) = j from by omega] at this
                exact this.symm
              · rw [if_neg hj3]
          · intro e
            have := congrArg List.length e
            rw [List.length_drop] at this
            simp at this
            omega
          · rw [hzd, List.drop_drop, show i + 3 + k = i + (k + 3) from by omega, ← List.drop_drop]; exact hR2
          · rw [hzd, List.drop_drop, show i + 3 + k = i + (k + 3) from by omega, ← List.drop_drop]
            rw [List.length_append, low_length] at hE
            omega)
        have hi3 : (i : Int) + 3 = ((i + 3 : Nat) : Int) := by omega
        obtain ⟨i3, hi3e⟩ : ∃ i3, i3 = i + 3 := ⟨_, rfl⟩
        rw [← hi3e] at hi3 HG2
        have hi3b : (i3 : Int) ≤ 256 := by omega
        have HI3 := (show Hid (i3 = i + 3) from hi3e)
        clear hR hA hI hK hne hf hL hE hG hpos hle hzl hz0 hn h3 hk hnum hle2 hR2 hzd htd HC hi3e
        go_wp2_with fail
        refine HB.out.mono ?_
        rintro e w1 ⟨rfl, hI1, hK1⟩
        have HI1 := (show Hid (IsR w1 rb g bs (q + 2) ∧ Keep (fun k => k = rb) wr w1) from ⟨hI1, hK1⟩)
        clear hI1 hK1
        rw [show ((3 : Nat) : Int) = (3 : Int) from rfl]
        go_wp2_with fail
        go_roundw
        case rel =>
          obtain ⟨g1, g2, g3, g4, g5⟩ := HG2.out
          obtain ⟨e1, e2⟩ := HI1.out
          exact ⟨i3, R, q + 2, true, rfl, rfl, rfl, rfl, g5, g1, g2.keep e2 (by omega), e1, g3.trans e2 (fun _ _ h => h), g4⟩
        case measure => have := HI3.out; have := HG2.out.2.2.2.2; simp [intOf, boolN]; omega
      · obtain ⟨k, hk⟩ : ∃ k, zl (xs.drop i) = k := ⟨_, rfl⟩
        rw [hk] at h3 hzl hz0
        rw [hk, zbits_few k (by omega)] at hL hE
        have hnum : numAt bs q 2 = k := by rw [hL.left.num 2 (by omega)]; exact Nat.mod_eq_of_lt (by omega)
        have hle2 := hL.left.le
        rw [low_length] at hle2
        have hR2 := hL.right
        rw [low_length, List.drop_drop] at hR2
        have htd : tot (xs.drop (i + k)) = tot (xs.drop i) := by rw [← List.drop_drop]; exact tot_zeros _ k (by omega)
        have HB := (show Hid (Calls Tryd.prog 58 #[.pointer (some ⟨rb, 0, none⟩), .int .i64 2] wr _) from bits_take_i rb g bs q 2 k 2 rfl (by omega) wr hI hle2 hnum)
        have HG2 := (show Hid (R = tot (xs.drop (i + k)) ∧ IsA wr ab 144 .i16 256 (fun j => if j < i + k then xs[j]?.getD 0 else 0) ∧ Keep (fun k => k = rb) w wr ∧ Rest bs xs (i + k) R (q + 2) E false ∧ i + k ≤ n) from by
          refine ⟨by rw [htd]; exact hR, hA.congr (fun j _ => ?_), hK, ⟨f, by omega, hR2, ?_⟩, by omega⟩
          · by_cases hj : j < i
            · rw [if_pos hj, if_pos (by omega)]
            · rw [if_neg hj]
              by_cases hj3 : j < i + k
              · rw [if_pos hj3]
                have := hz0 (j - i) (by omega)
                rw [getD_dropI, show i + (j - i) = j from by omega] at this
                exact this.symm
              · rw [if_neg hj3]
          · rw [List.length_append, low_length, List.drop_drop] at hE
            omega)
        have hi3 : (i : Int) + (k : Int) = ((i + k : Nat) : Int) := by omega
        obtain ⟨i3, hi3e⟩ : ∃ i3, i3 = i + k := ⟨_, rfl⟩
        rw [← hi3e] at hi3 HG2
        have hi3b : (i3 : Int) ≤ 256 := by omega
        have hk3 : ((k : Int) == 3) = false := by rw [beq_eq_false_iff_ne]; omega
        have hkb : (k : Int) < 3 := by omega
        have HI3 := (show Hid (i3 = i + k) from hi3e)
        clear hR hA hI hK hne hf hL hE hG hpos hle hzl hz0 hn h3 hk hnum hle2 hR2 htd HC hi3e
        go_wp2_with fail
        refine HB.out.mono ?_
        rintro e w1 ⟨rfl, hI1, hK1⟩
        have HI1 := (show Hid (IsR w1 rb g bs (q + 2) ∧ Keep (fun k => k = rb) wr w1) from ⟨hI1, hK1⟩)
        clear hI1 hK1
        go_wp2_with fail
        go_roundw
        case rel =>
          obtain ⟨g1, g2, g3, g4, g5⟩ := HG2.out
          obtain ⟨e1, e2⟩ := HI1.out
          exact ⟨i3, R, q + 2, false, rfl, rfl, rfl, rfl, g5, g1, g2.keep e2 (by omega), e1, g3.trans e2 (fun _ _ h => h), g4⟩
        case measure => have := HI3.out; have := HG2.out.2.2.2.2; simp [intOf, boolN]; omega
    | false =>
      by_cases hin : i < n
      · obtain ⟨hR, hA, hI, hK, f, hf, hL, hE⟩ := HC.out
        have hG := HH.out.1.drop i
        have hn := HN.out
        have hdc := drop_consI xs i (by omega)
        have hne : xs.drop i ≠ [] := by rw [hdc]; simp
        have hpos := hG.pos hne
        have hle := hG.le
        rw [← hR] at hpos hle
        have hb := HH.out.1.at_ i
        have hsh := tot_mem (xs.drop i) 0 hG.low
        rw [getD_dropI, Nat.add_zero, ← hR] at hsh
        obtain ⟨f, rfl⟩ : ∃ f', f = f' + 1 := ⟨f - 1, by omega⟩
        obtain ⟨c, hc⟩ : ∃ c, c = xs[i]?.getD 0 := ⟨_, rfl⟩
        rw [← hc] at hb hsh hdc
        obtain ⟨v, hv⟩ : ∃ v, v = (c + 1).toNat := ⟨_, rfl⟩
        have hcv : (v : Int) - 1 = c := by omega
        have hvR : v ≤ R + 1 := by unfold shareN at hsh; split at hsh <;> omega
        have hs0 := shareN_pos c hb.1
        have hsz := shareN_zero c
        have htt : R = (shareN c).toNat + tot (xs.drop (i + 1)) := by rw [hR, hdc]; rfl
        have hdd : dsc (f + 1) R (xs.drop i) = valBits R v ++ (if c = 0 then zbits (zl (xs.drop (i + 1))) ++ dsc f R ((xs.drop (i + 1)).drop (zl (xs.drop (i + 1)))) else dsc f (R - (shareN c).toNat) (xs.drop (i + 1))) := by rw [hv, hdc]; rfl
        rw [hdd] at hL hE
        have HB := (show Hid (Calls Tryd.prog 75 _ wr _) from readCount_any rb g bs q R v wr hI hL.left hpos hle hvR)
        rw [hcv] at HB
        obtain ⟨R2, hR2e⟩ : ∃ R2, R2 = R - (shareN c).toNat := ⟨_, rfl⟩
        have hsub : (R : Int) - shareN c = (R2 : Int) := by omega
        have hst := hA.set i c
        have HG2 := (show Hid (R2 = tot (xs.drop (i + 1)) ∧ IsA (wr.setCell ⟨ab, i, none⟩ (.int .i16 c)) ab 144 .i16 256 (fun j => if j < i + 1 then xs[j]?.getD 0 else 0) ∧ Keep (fun k => k = rb) w wr ∧ Rest bs xs (i + 1) R2 (q + (valBits R v).length) E (decide (c = 0)) ∧ IsA wr ab 144 .i16 256 (fun j => if j < i then xs[j]?.getD 0 else 0) ∧ c = xs[i]?.getD 0) from by
          refine ⟨by omega, hst.congr (fun j _ => ?_), hK, ?_, hA, hc⟩
          · by_cases e : j = i
            · subst e; rw [if_pos rfl, if_pos (by omega)]; exact hc
            · rw [if_neg e]
              by_cases hj : j < i
              · rw [if_pos hj, if_pos (by omega)]
              · rw [if_neg hj, if_neg (by omega)]
          · have hLr := hL.right
            rw [List.length_append] at hE
            by_cases hc0 : c = 0
            · rw [if_pos hc0] at hLr hE
              have hRR : R2 = R := by rw [hR2e, hsz.2 hc0]; simp
              rw [decide_eq_true hc0, hRR]
              refine ⟨?_, f, by omega, hLr, by omega⟩
              intro e
              rw [hdc, e, hc0] at hG
              exact hG.last (by simp) rfl
            · rw [if_neg hc0] at hLr hE
              rw [decide_eq_false hc0, hR2e]
              exact ⟨f, by omega, hLr, by omega⟩)
        have HSH := (show Hid (∀ w : World, _) from fun w => share_any c (by omega) (by omega) w)
        have hRp : 0 < (R : Int) := by omega
        have hmsI : ¬ (ms : Int) < (i : Int) := by omega
        have hib : (i : Int) < 256 := by omega
        have hRb : (R : Int) ≤ 4096 := by omega
        have hR2b : (R2 : Int) ≤ 4096 := by omega
        have hcb : -1 ≤ c := hb.1
        have hcb2 : c ≤ 4096 := hb.2
        have hgl := HH.out.2.2
        clear hR hA hI hK hf hL hE hG hpos hle hn HC hdc hne hsh hv hcv hvR htt hdd hR2e hst hb hc hsz
        generalize shareN c = sc at *
        go_wp2_with fail
        refine HB.out.mono ?_
        rintro e w1 ⟨rfl, hI1, hK1⟩
        have hA1 := HG2.out.2.2.2.2.1.keep hK1 (by omega)
        have fz := hA1.frozen i
        have cz := hA1.cell i (by omega)
        have HI1 := (show Hid (IsR w1 rb g bs (q + (valBits R v).length) ∧ Keep (fun k => k = rb) wr w1) from ⟨hI1, hK1⟩)
        have HG3 := (show Hid (IsA (w1.setCell ⟨ab, i, none⟩ (.int .i16 c)) ab 144 .i16 256 (fun j => if j < i + 1 then xs[j]?.getD 0 else 0) ∧ IsR (w1.setCell ⟨ab, i, none⟩ (.int .i16 c)) rb g bs (q + (valBits R v).length) ∧ Keep (fun k => k = rb) w (w1.setCell ⟨ab, i, none⟩ (.int .i16 c))) from by
          have kk : Keep (fun k => k = ab) w1 (w1.setCell ⟨ab, i, none⟩ (.int .i16 c)) := Keep.setCell (S := fun k => k = ab) (p := ⟨ab, i, none⟩) (Keep.refl _ w1) (fun _ => rfl) _
          have hab := HAB.out
          refine ⟨(hA1.set i c).congr (fun j _ => ?_), hI1.keep kk (by omega) (fun _ => by omega), (HG2.out.2.2.1.trans hK1 (fun _ _ h => h)).trans kk (fun j hj e => by omega)⟩
          by_cases e : j = i
          · subst e; rw [if_pos rfl, if_pos (by omega)]; exact HG2.out.2.2.2.2.2
          · rw [if_neg e]
            by_cases hj : j < i
            · rw [if_pos hj, if_pos (by omega)]
            · rw [if_neg hj, if_neg (by omega)])
        clear hI1 hK1 hA1
        by_cases hc0 : c = 0
        · have hd : decide (c = 0) = true := decide_eq_true hc0
          rw [hd] at HG2
          subst hc0
          go_wp2_with (go_at_call 76; refine (HSH.out _).mono ?_; rintro e w'' ⟨rfl, rfl⟩)
          go_roundw
          case rel =>
            obtain ⟨g1, g2, g3, g4, -⟩ := HG2.out
            obtain ⟨e1, e2, e3⟩ := HG3.out
            exact ⟨i + 1, R2, _, true, rfl, by go_num, rfl, rfl, by omega, g1, e1, e2, e3, g4⟩
          case measure => simp [intOf, boolN]; omega
        · have hd : decide (c = 0) = false := decide_eq_false hc0
          rw [hd] at HG2
          have hcb0 : (c == 0) = false := by simpa using hc0
          go_wp2_with (go_at_call 76; refine (HSH.out _).mono ?_; rintro e w'' ⟨rfl, rfl⟩)
          go_roundw
          case rel =>
            obtain ⟨g1, g2, g3, g4, -⟩ := HG2.out
            obtain ⟨e1, e2, e3⟩ := HG3.out
            exact ⟨i + 1, R2, _, false, rfl, by go_num, rfl, rfl, by omega, g1, e1, e2, e3, g4⟩
          case measure => simp [intOf, boolN]; omega
      · obtain rfl : i = n := by omega
        have HD := (show Hid (R = 0 ∧ IsA wr ab 144 .i16 256 (fun j => if j < i then xs[j]?.getD 0 else 0) ∧ IsR wr rb g bs E ∧ Keep (fun k => k = rb) w wr) from by
          obtain ⟨hR, hA, hI, hK, f, hf, hL, hE⟩ := HC.out
          have hd : xs.drop i = [] := List.drop_eq_nil_of_le (by have := HN.out; omega)
          rw [hd] at hR hL hE
          have h5 : dsc f R [] = [] := by cases f <;> rfl
          rw [h5] at hE
          have : q = E := by simpa using hE
          rw [this] at hI
          exact ⟨hR, hA, hI, hK⟩)
        obtain ⟨rfl, -⟩ := HD.out
        rw [show ((0 : Nat) : Int) = (0 : Int) from rfl]
        have hib : (i : Int) ≤ 256 := by have := HH.out.2.1; have := HN.out; omega
        clear HC
        go_wp2_with fail
        refine (clone65_any ab i 256 xs HN.out (by have := HH.out.2.1; omega) wr HD.out.2.1.lt (fun j hj => ?_)).mono ?_
        · rw [HD.out.2.1.cell j (by have := HH.out.2.1; omega), if_pos (by have := HN.out; omega)]
        · rintro e w3 ⟨gc, cap', rfl, hgc, hRow, hK3⟩
          rw [← HN.out]
          go_wp2_with fail
          simp only [Exit.noGoto]
          go_ret2
          have hk := HD.out.2.2.2
          refine ⟨gc, cap', rfl, by have := hk.size; omega, hRow, HD.out.2.2.1.keep hK3 (fun h => h) (fun _ h => h), hk.trans hK3 (fun _ _ h => h.elim)⟩

end Go.Proofs.YtcoahkmiebeeeaaDoor

namespace Go.Proofs.YtcoahkmiebeeeaaDoor
open Go.RowKit Go.Shelf

theorem left_i (rb g : Nat) (bs : List Nat) (p y : Nat) (hy : bs.length * 8 = p + y) (w : World) (h : IsR w rb g bs p) :
    Calls Tryd.prog 60 #[.pointer (some ⟨rb, 0, none⟩)] w fun e w' => e = .returned (.int .i64 (y : Int)) ∧ ∃ n, w' = w.drewN n := by
  have := left_any rb g bs p w h
  rw [show (bs.length : Int) * 8 - (p : Int) = (y : Int) from by omega] at this
  exact this

section
attribute [local go_sem] sliceSem_eq minSem_eq
set_option maxRecDepth 100000 in
set_option maxHeartbeats 4000000 in
theorem read_good (base : Nat) (v : Value) (bs : List Nat) (xs : List Int) (l ml ms : Nat) (w : World) (hown : w.ownsRow base 5 1 v bs.length (u8s bs)) (hbs : ∀ j : Nat, bs[j]?.getD 0 < 256) (hlen : bs.length ≤ 140737488355327) (hb : okT xs (l : Int) = true)
    (hL : Laid (bs.take 481) 0 (dscAll xs l)) (hml : l ≤ ml) (hml2 : ml ≤ 12) (hms : xs.length ≤ ms + 1) (hms2 : ms ≤ 255) :
    Calls Tryd.prog 43 #[v, .int .i64 (ml : Int), .int .i64 (ms : Int)] w fun e w' => ∃ gc cap', e = .returned (.tuple #[.slice (some ⟨gc, 0, none⟩) xs.length cap', .int .i64 (l : Int), .int .i64 ((((dscAll xs l).length + 7) / 8 : Nat) : Int), .int .i64 0]) ∧ w.heap.size ≤ gc ∧
      RowI w' .i16 (some ⟨gc, 0, none⟩) cap' gc 0 xs ∧ Keep noBlock w w' := by
  obtain ⟨hG, hT, hne, hxl, hl5, hl12⟩ := okT_good hb
  have hL4 := hL.left
  have hLr := hL.right
  have hle := hL.le
  rw [low_length] at hLr
  have hdl : (dscAll xs l).length = 4 + (dsc xs.length (2 ^ l) xs).length := by unfold dscAll; rw [List.length_append, low_length]
  obtain ⟨k, hk⟩ : ∃ k, k = min bs.length 481 := ⟨_, rfl⟩
  have htl : (bs.take 481).length = k := by rw [List.length_take, hk]; omega
  rw [htl] at hle
  have hbne : bs.length ≠ 0 := by
    intro e
    omega
  rcases hown.2 with ⟨_, h0⟩ | ⟨g, cap, cur, rfl, hg0, hg, hr1, hr2, hr3, hr4⟩
  · exact absurd h0 hbne
  have hmin := fun W => minSem_run .i64 #[3, 3] 3 (bs.length : Int) 481 (k : Int) (by omega) W
  have hsl := fun W => run_high (t := 22) Tryd.underlying22 info5 (some ⟨g, 0, none⟩) bs.length cap k (by omega) W
  have hsrc : Src w (.slice (some ⟨g, 0, none⟩) k cap) (bs.take 481) := by
    refine .inr ⟨⟨g, 0, none⟩, cap, by rw [htl], obj_lt hg, fun j u hu => ?_⟩
    refine hown.cells (g := g) rfl j u ?_
    have e : u8s (bs.take 481) = (u8s bs).take 481 := by simp [u8s, List.map_take]
    rw [e, List.getElem?_take] at hu
    split at hu
    · exact hu
    · cases hu
  have hlt : ∀ j : Nat, (bs.take 481)[j]?.getD 0 < 256 := fun j => by
    rw [List.getElem?_take]
    split
    · exact hbs j
    · simp
  have HN := (show Hid (∀ W, Src W (.slice (some ⟨g, 0, none⟩) k cap) (bs.take 481) → _) from fun W hs => new_any (.slice (some ⟨g, 0, none⟩) k cap) (bs.take 481) (by omega) hlt W hs)
  have hn4 : numAt (bs.take 481) 0 4 = l - 5 := by
    rw [hL4.num 4 (Nat.le_refl _)]; exact Nat.mod_eq_of_lt (by omega)
  have hLr2 : Laid (bs.take 481) 4 (dsc xs.length (tot xs) xs) := by rw [hT]; simpa using hLr
  have hdl2 : (dscAll xs l).length = 4 + (dsc xs.length (tot xs) xs).length := by rw [hT]; exact hdl
  obtain ⟨E, hE⟩ : ∃ E, E = (dscAll xs l).length := ⟨_, rfl⟩
  rw [← hE] at hdl2 hle ⊢
  obtain ⟨y, hy⟩ : ∃ y, k * 8 = E + y := ⟨k * 8 - E, by omega⟩
  obtain ⟨u, hu⟩ : ∃ u, u = (E + 7) / 8 := ⟨_, rfl⟩
  obtain ⟨z, hz⟩ : ∃ z, z = y / 8 := ⟨_, rfl⟩
  have hzI : (y : Int) / 8 = (z : Int) := by omega
  have huI : (k : Int) - (z : Int) = (u : Int) := by omega
  rw [← hu]
  have HF := (show Hid (numAt (bs.take 481) 0 4 = l - 5 ∧ Laid (bs.take 481) 4 (dsc xs.length (tot xs) xs) ∧ E = 4 + (dsc xs.length (tot xs) xs).length ∧ Good xs ∧ (bs.take 481).length = k ∧ k * 8 = E + y ∧ 2 ^ l = tot xs ∧ 4 ≤ 8 * (bs.take 481).length) from ⟨hn4, hLr2, hdl2, hG, htl, hy, hT.symm, by rw [htl]; omega⟩)
  have hl5' : (5 : Int) + ((l - 5 : Nat) : Int) = (l : Int) := by omega
  obtain ⟨l5, hl5e⟩ : ∃ l5, l5 = l - 5 := ⟨_, rfl⟩
  rw [← hl5e] at hl5' HF
  have hlm : ¬ (ml : Int) < (l : Int) := by omega
  have hp : (2 : Int) ^ l = ((tot xs : Nat) : Int) := by rw [hT]; simp
  have hTb := hG.le
  obtain ⟨T, hTe⟩ : ∃ T, T = tot xs := ⟨_, rfl⟩
  rw [← hTe] at hp hTb
  have hTI : (T : Int) ≤ 4096 := by omega
  have HTE := (show Hid (T = tot xs) from hTe)
  have hd : decide (5 ≤ (ml : Int) ∧ (ml : Int) ≤ 12) = true := decide_eq_true ⟨by omega, by omega⟩
  have HIL := (show Hid (∀ w : World, Calls Tryd.prog 56 #[.int .i64 (ml : Int)] w fun e w' => e = .returned (.bool true) ∧ w' = w) from fun w => by have := isLog_any (ml : Int) w; rwa [hd] at this)
  have hm0 : ¬ (ms : Int) < 0 := by omega
  have hm2 : ¬ (256 : Int) ≤ (ms : Int) := by omega
  have hkI : (k : Int) ≤ 481 := by omega
  have hzb : (z : Int) ≤ 481 := by omega
  have hyb : (y : Int) ≤ 4000 := by omega
  have hl5b : (l5 : Int) ≤ 7 := by omega
  have hlI : (l : Int) ≤ 12 := by omega
  have HMS := (show Hid (xs.length ≤ ms + 1 ∧ ms ≤ 255) from ⟨hms, hms2⟩)
  clear hL hL4 hLr hle hdl htl hbne hr1 hr2 hr3 hr4 hlt hn4 hLr2 hdl2 hE hy hu hz hG hT hTe hd hb hl5e hk hown hg hms hms2
  generalize bs.length = bl at *
  go_enter Tryd.func43, Tryd.ntmps43
  go_wp2_with (go_at_call 56; refine (HIL.out _).mono ?_; rintro e w' ⟨rfl, rfl⟩)
  refine (HN.out _ hsrc).mono ?_
  rintro e w1 ⟨rb, gg, rfl, hrb, hgg, hI1, hK1⟩
  have HI1 := (show Hid (IsR w1 rb gg (bs.take 481) 0 ∧ Keep noBlock w' w1 ∧ w'.heap.size ≤ rb ∧ w'.heap.size ≤ gg) from ⟨hI1, hK1, hrb, hgg⟩)
  clear hI1 hK1 hrb hgg hsrc
  go_wp2_with fail
  refine (bits_take_i rb gg (bs.take 481) 0 4 l5 _ rfl (by omega) w1 HI1.out.1 (by have := HF.out.2.2.2.2.2.2.2; omega) HF.out.1).mono ?_
  rintro e w2 ⟨rfl, hI2, hK2⟩
  rw [Nat.zero_add] at hI2
  have HI2 := (show Hid (IsR w2 rb gg (bs.take 481) 4 ∧ Keep (fun k => k = rb) w1 w2) from ⟨hI2, hK2⟩)
  clear hI2 hK2
  go_wp2_with fail
  rw [HTE.out]
  refine (readCounts_any rb gg (bs.take 481) 4 ms xs.length xs w2 HI2.out.1 (by obtain ⟨_, _, _, ho⟩ := HI2.out.1.obj; exact obj_lt ho) HF.out.2.2.2.1 HF.out.2.1 (Nat.le_refl _) HMS.out.1 HMS.out.2).mono ?_
  rintro e w3 ⟨gc, cap', rfl, hgc, hRow, hI3, hK3⟩
  rw [← HF.out.2.2.1] at hI3
  have HI3 := (show Hid (w2.heap.size ≤ gc ∧ RowI w3 .i16 (some ⟨gc, 0, none⟩) cap' gc 0 xs ∧ IsR w3 rb gg (bs.take 481) E ∧ Keep (fun k => k = rb) w2 w3) from ⟨hgc, hRow, hI3, hK3⟩)
  clear hgc hRow hI3 hK3
  go_wp2_with fail
  refine (left_i rb gg (bs.take 481) E y (by rw [HF.out.2.2.2.2.1]; exact HF.out.2.2.2.2.2.1) w3 HI3.out.2.2.1).mono ?_
  rintro e w4 ⟨rfl, nq, rfl⟩
  go_wp2_with fail
  obtain ⟨h1, h2, h3, h4⟩ := HI3.out
  obtain ⟨i1, i2, i3, i4⟩ := HI1.out
  have k1 : Keep noBlock w' w3 := (i2.trans HI2.out.2 (fun i hi e => by omega)).trans h4 (fun i hi e => by omega)
  have hz2 : w'.heap.size ≤ w2.heap.size := Nat.le_trans i2.size HI2.out.2.size
  exact bodyPost_ret (v := .tuple #[.slice (some ⟨gc, 0, none⟩) xs.length cap', .int .i64 (l : Int), .int .i64 (u : Int), .int .i64 0]) (by simp [results, Tryd.results43, go_sem]) rfl ⟨gc, cap', rfl, by omega, h2.keep (keep_drewN w3 nq) (fun _ h => h), k1.trans (keep_drewN w3 nq) (fun _ _ h => h)⟩
end

end Go.Proofs.YtcoahkmiebeeeaaDoor
