/-
  Write of a symbol by a code: its word is put, the highest bit first; or it has none.
-/
import Derived.Test.YtapcohpagipkpaaRnd
namespace Go.Proofs.Ytapcohpagipkpaa
open Go.RowKit Go.Shelf

attribute [local go_sem] Oper.semAt_some

theorem num15 {xs : List Nat} (h : isCode xs = true) (i : Nat) : numOf xs i ≤ 15 := by
  unfold numOf
  by_cases hi : i < xs.length
  · rw [List.getElem?_eq_getElem hi]
    exact (of_decide_eq_true h).2.1 _ (List.getElem_mem hi)
  · rw [List.getElem?_eq_none (by omega)]; exact Nat.zero_le _

set_option maxRecDepth 100000 in
set_option maxHeartbeats 16000000 in
set_option linter.unusedSimpArgs false in
theorem write_good (wb : Nat) (v : Value) (L : List (Fin 2)) (a : Option Addr) (cap gb off s : Nat) (xs : List Nat) (w : World) (hW : IsW w wb v L) (hL : L.length < 1000000000000) (hgw : gb ≠ wb) (hgv : v.ownBlock ≠ some gb)
    (hR : Row w .u8 a cap gb off xs) (hl : xs.length ≤ 1024) (hgood : isCode xs = true) (hs : s < xs.length) :
    Calls Try.prog 11 #[.pointer (some ⟨wb, 0, none⟩), .slice a xs.length cap, .int .i64 (s : Int)] w fun e w' =>
      (numOf xs s = 0 ∧ e = .returned (.int .i64 2) ∧ Keep noBlock w w') ∨
      (numOf xs s ≠ 0 ∧ e = .returned (.int .i64 0) ∧ ∃ v', IsW w' wb v' (L ++ low (valF (bitOf (wordN xs s)) (numOf xs s)) (numOf xs s)) ∧ Moves w.heap.size v v' ∧ Keep (fun k => k = wb ∨ v.ownBlock = some k) w w') := by
  obtain ⟨b0, b1, b2, b3, bz, bk⟩ := boxes4q w (Obj.cells #[Value.pointer (some ⟨wb, 0, none⟩)] 29) (Obj.cells #[Value.slice a xs.length cap] 22) (Obj.cells #[Value.int IntKind.i64 (s : Int)] 3) (Obj.cells #[Value.int IntKind.i64 0] 25)
  have hT := tally_any a cap gb off xs _ (hR.keep bk (fun _ h => h)) hl
  rw [hgood] at hT
  have hs0 : ¬ (s : Int) < 0 := by omega
  have hd : decide ((s : Int) < 0) = false := decide_eq_false hs0
  have hs2 : ¬ (xs.length : Int) ≤ (s : Int) := by omega
  have hd2 : decide ((xs.length : Int) ≤ (s : Int)) = false := decide_eq_false hs2
  have HT := (show Hid (∀ u : Unit, Calls Try.prog 26 _ _ _) from fun _ => hT)
  have HK := (show Hid (Keep noBlock w _ ∧ _ ∧ _ ∧ _ ∧ _ ∧ _) from ⟨bk, b3, b1, b2, b0, bz⟩)
  have HR := (show Hid (Row w .u8 a cap gb off xs ∧ IsW w wb v L ∧ L.length < 1000000000000 ∧ gb ≠ wb ∧ v.ownBlock ≠ some gb) from ⟨hR, hW, hL, hgw, hgv⟩)
  clear hT bk hR b0 b1 b2 b3 bz hW hL hgw hgv
  refine (callsIn_wide (n := 4)).1 ?_
  refine callsIn_of_wp_marks Try.func11 rfl trivial ?_ rfl
  simp only [Try.ntmps11, List.size_toArray, List.length_cons, List.length_nil, Nat.reduceAdd, Nat.reduceSub, Array.replicate_succ, Array.replicate_zero, List.push_toArray, List.append_toArray, List.nil_append, List.cons_append]
  gi_wp2_with (refine ⟨trivial, ?_⟩; first | (gi_at_call 26; refine (callsIn_wide.2 (HT.out ())).mono ?_; rintro e w1 ⟨c, rfl, hc, hk⟩; obtain rfl : c = many xs := (by first | exact hc rfl | exact hc trivial); rw [arr16_lit (many xs)]; have h1 := hk.obj HK.out.2.2.1 (fun h => h); have h2 := hk.obj HK.out.2.2.2.1 (fun h => h); have c1 : ∀ o : Obj, (w1.alloc o).cell? ⟨w.heap.size + 1, 0, none⟩ = some (.slice a xs.length cap) := fun o => cell_of (alloc_far h1 o) 0; have c2 : ∀ o : Obj, (w1.alloc o).cell? ⟨w.heap.size + 1 + 1, 0, none⟩ = some (.int .i64 (s : Int)) := fun o => cell_of (alloc_far h2 o) 0) | fail)
  rw [← arr16_lit (many xs)]
  have hz2 : (w1.alloc (Obj.cells (arr16 (many xs)) 63)).heap.size = w1.heap.size + 1 := World.size_alloc _ _
  have hk2 : Keep noBlock w (w1.alloc (Obj.cells (arr16 (many xs)) 63)) := (HK.out.1.trans' hk).alloc _
  have hs1 := hk.size
  have h0 := alloc_far (hk.obj HK.out.2.2.2.2.1 (fun h => h)) (Obj.cells (arr16 (many xs)) 63)
  have h3 := alloc_far (hk.obj HK.out.2.1 (fun h => h)) (Obj.cells (arr16 (many xs)) 63)
  have h1' := alloc_far h1 (Obj.cells (arr16 (many xs)) 63)
  have h2' := alloc_far h2 (Obj.cells (arr16 (many xs)) 63)
  rw [HK.out.2.2.2.2.2] at hs1
  obtain ⟨mb, hmb⟩ : ∃ mb, mb = w1.heap.size := ⟨_, rfl⟩
  obtain ⟨b, hb⟩ : ∃ b, b = w.heap.size := ⟨_, rfl⟩
  rw [← hmb] at hz2 hs1 ⊢
  rw [← hb] at h0 h1' h2' h3 hs1 ⊢
  clear c1 c2 h1 h2 hk HT HK hmb
  generalize w1.alloc (Obj.cells (arr16 (many xs)) 63) = W2 at hz2 hk2 h0 h3 h1' h2' ⊢
  refine ⟨trivial, (runs_in Fence.wide 3 trivial rfl (many xs) _).mono ?_⟩
  rintro e w4 ⟨rfl, rfl⟩
  have hmle : ∀ l, many xs l ≤ 1024 := fun l => by
    unfold many
    split
    · omega
    · exact Nat.le_trans List.count_le_length hl
  have bx4 := World.alloc_heap_new W2 (Obj.cells (arr16 (many xs)) 63)
  have hz4 : (W2.alloc (Obj.cells (arr16 (many xs)) 63)).heap.size = mb + 2 := by rw [World.size_alloc, hz2]
  rw [hz2] at bx4 ⊢
  have q0 := alloc_far h0 (Obj.cells (arr16 (many xs)) 63)
  have q1 := alloc_far h1' (Obj.cells (arr16 (many xs)) 63)
  have q2 := alloc_far h2' (Obj.cells (arr16 (many xs)) 63)
  have q3 := alloc_far h3 (Obj.cells (arr16 (many xs)) 63)
  have hk4 := hk2.alloc (Obj.cells (arr16 (many xs)) 63)
  generalize W2.alloc (Obj.cells (arr16 (many xs)) 63) = W4 at bx4 hz4 q0 q1 q2 q3 hk4 ⊢
  have HQ := (show Hid (W4.heap[b]? = some (.cells #[.pointer (some ⟨wb, 0, none⟩)] 29 (0, 0)) ∧ W4.heap[b + 1]? = some (.cells #[.slice a xs.length cap] 22 (0, 0)) ∧ W4.heap[b + 1 + 1]? = some (.cells #[.int .i64 (s : Int)] 3 (0, 0)) ∧ W4.heap[b + 1 + 1 + 1]? = some (.cells #[.int .i64 0] 25 (0, 0)) ∧ Keep noBlock w W4 ∧ W4.heap.size = mb + 2 ∧ b = w.heap.size ∧ b + 4 ≤ mb) from ⟨q0, q1, q2, q3, hk4, hz4, hb, hs1⟩)
  clear q0 q1 q2 q3 hk4 hz4 h0 h1' h2' h3 hk2 hz2 hb hs1
  gi_wp2
  refine range_runs (by omega) (mb + 1) (many xs) hmle rfl bx4 rfl
    (fun k V => Keep noBlock W4 V ∧ Hid (∀ l, l < k → 0 < many xs l → l ≠ numOf xs s))
    (fun j V => j = .ret ∧ numOf xs s ≠ 0 ∧ V.heap[b + 1 + 1 + 1]? = some (.cells #[.int .i64 0] 25 (0, 0)) ∧ ∃ v', IsW V wb v' (L ++ low (valF (bitOf (wordN xs s)) (numOf xs s)) (numOf xs s)) ∧ Moves w.heap.size v v' ∧ Keep (fun k => k = wb ∨ v.ownBlock = some k) w V ∧ mb + 2 ≤ V.heap.size)
    (fun k a' V => ∃ ub, mb + 2 ≤ ub ∧ V.heap[ub]? = some (.cells #[.int .i64 (k : Int), .int .i64 ((nextF (many xs) k : Nat) : Int), .int .i64 ((many xs k : Nat) : Int)] 71 (0, 0)) ∧
      a' = { tmps := #[.pointer (some ⟨wb, 0, none⟩), .slice a xs.length cap, .int .i64 (s : Int), .pointer (some ⟨b, 0, none⟩), .pointer (some ⟨b + 1, 0, none⟩), .pointer (some ⟨b + 1 + 1, 0, none⟩), .pointer (some ⟨b + 1 + 1 + 1, 0, none⟩), .pointer (some ⟨mb, 0, none⟩), .bool true, .pointer (some ⟨ub, 0, none⟩), undef,
        .pointer (some ⟨wb, 0, none⟩), .bool false, .tuple #[.agg (arr16 (many xs)), .bool true], .slice a xs.length cap, .tuple #[.agg (arr16 (many xs)), .bool true], .agg (arr16 (many xs)), .bool true, .bool true, .bool false, .int .i64 (s : Int), .bool false, .bool false, .int .i64 (s : Int), .slice a xs.length cap, .int .i64 (xs.length : Int), .bool false, .bool false, .agg (arr16 (many xs)), .func (.func 45) #[] #[.pointer (some ⟨mb + 1, 0, none⟩)], runV (many xs) k,
        undef, undef, undef, undef, undef, undef, undef, undef, undef, undef, undef, undef, undef, undef, undef, undef, undef, undef, undef, undef, undef, undef, undef, undef, undef, undef, undef, undef], defers := [] })
    (fun k V V' row hs hgr hr => ?own1) (fun j V V' row hs hgr hr => ?own2)
    (fun k a' _ V V' row hs hgr hr => by
      obtain ⟨ub, q1, q2, q3⟩ := hs
      exact ⟨ub, q1, own_obj hgr (fun r e => (hr r e).2) q2 rfl, q3⟩)
    ⟨Keep.refl _ _, fun l hl => by omega⟩ ?skip ?assign ?body ?done ?stop
  case own1 =>
    obtain ⟨e1, e2⟩ := hs
    exact ⟨e1.grown hgr (fun r e hk => absurd (hr r e).1 (by omega)), e2⟩
  case own2 =>
    obtain ⟨e0, e1, e2, v', e3, e4, e5, e6⟩ := hs
    have hr' : ∀ r, row = some r → ∃ o : Obj, V.heap[r]? = some o ∧ o.isCells = false := fun r e => (hr r e).2
    have hq := HQ.out
    have hkk : Keep (fun k => row = some k) V V' := (Keep.refl _ V).grown hgr (fun r e _ => e)
    refine ⟨e0, e1, own_obj hgr hr' e2 rfl, v', e3.keep hkk ?_ ?_, e4, e5.grown hgr (fun r e hk => absurd (hr r e).1 (by omega)), Nat.le_trans e6 hgr.size⟩
    · intro e
      obtain ⟨o, ho, hc⟩ := hr' _ e
      rw [e3.obj] at ho
      cases ho
      cases hc
    · intro k hk e
      obtain ⟨o, ho, hc⟩ := hr' _ e
      obtain ⟨_, h | ⟨g, cap', cur, rfl, _, hg, _⟩⟩ := e3.row
      · rw [h.1] at hk; cases hk
      · cases hk
        rw [hg] at ho
        cases ho
        cases hc
  case skip =>
    rintro k V hk h0 ⟨e1, e2⟩
    refine ⟨e1, fun l hl hp => ?_⟩
    by_cases e : l = k
    · rw [e, h0] at hp; omega
    · exact e2.out l (by omega) hp
  case assign =>
    rintro k V K hk hck ⟨e1, e2⟩ hK
    unfold runV
    gi_wp2
    exact hK _ _ ⟨by simp, fun k' o _ ho _ => alloc_far ho _⟩ ⟨e1.alloc _, e2⟩ ⟨V.heap.size, by have := e1.size; rw [HQ.out.2.2.2.2.2.1] at this; exact this, World.alloc_heap_new V _, rfl⟩
  case body =>
    rintro k a' V hk hck ⟨hKV, HF⟩ ⟨ub, hub, hob, rfl⟩
    have hmx : Try.prog.follows .mixedOrders = true := by kernel_rfl
    have hq := HQ.out
    have c0 : V.cell? ⟨b, 0, none⟩ = some (.pointer (some ⟨wb, 0, none⟩)) := cell_of (hKV.obj hq.1 (fun h => h)) 0
    have c1 : V.cell? ⟨b + 1, 0, none⟩ = some (.slice a xs.length cap) := cell_of (hKV.obj hq.2.1 (fun h => h)) 0
    have c2 : V.cell? ⟨b + 1 + 1, 0, none⟩ = some (.int .i64 (s : Int)) := cell_of (hKV.obj hq.2.2.1 (fun h => h)) 0
    have hRV : Row V .u8 a cap gb off xs := (HR.out.1.keep hq.2.2.2.2.1 (fun _ h => h)).keep hKV (fun _ h => h)
    have hne : xs ≠ [] := by rintro rfl; simp at hs
    obtain rfl : a = some ⟨gb, off, none⟩ := hRV.at_.resolve_right hne
    have cR : V.cell? ⟨gb, off + s, none⟩ = some (.int .u8 ((numOf xs s : Nat) : Int)) := hRV.cells s hs
    obtain ⟨x, hx⟩ : ∃ x, x = numOf xs s := ⟨_, rfl⟩
    obtain ⟨nk, hnk⟩ : ∃ nk, nk = nextF (many xs) k := ⟨_, rfl⟩
    obtain ⟨mk, hmk⟩ : ∃ mk, mk = many xs k := ⟨_, rfl⟩
    rw [← hnk, ← hmk] at hob
    rw [← hx] at cR
    have u0 : V.cell? ⟨ub, 0, none⟩ = some (.int .i64 (k : Int)) := cell_of hob 0
    have u1 : V.cell? ⟨ub, 1, none⟩ = some (.int .i64 (nk : Int)) := cell_of hob 1
    have HX := (show Hid (x = numOf xs s ∧ nk = nextF (many xs) k ∧ mk = many xs k ∧ Row V .u8 (some ⟨gb, off, none⟩) cap gb off xs ∧ Keep noBlock W4 V ∧ V.heap[ub]? = some (.cells #[.int .i64 (k : Int), .int .i64 (nk : Int), .int .i64 (mk : Int)] 71 (0, 0)) ∧ xs ≠ []) from ⟨hx, hnk, hmk, hRV, hKV, hob, hne⟩)
    have hsI : (s : Int) < (xs.length : Int) := by omega
    have hs0I : (0 : Int) ≤ (s : Int) := by omega
    unfold runV
    rw [← hnk, ← hmk]
    clear hx hnk hmk hob hRV hKV hne hq bx4
    have hx15 : x ≤ 15 := by rw [HX.out.1]; exact num15 hgood s
    have hwk : IntKind.i64.wrap (x : Int) = (x : Int) := by rw [IntKind.wrap_i64]; omega
    by_cases he : k = x
    · subst he
      gi_wp2
      refine region_round (fun w' => w'.cell? ⟨ub, 0, none⟩ = some (.int .i64 (k : Int)) ∧ w'.cell? ⟨b + 1, 0, none⟩ = some (.slice (some ⟨gb, off, none⟩) xs.length cap) ∧ w'.cell? ⟨b + 1 + 1, 0, none⟩ = some (.int .i64 (s : Int)) ∧ w'.cell? ⟨gb, off + s, none⟩ = some (.int .u8 (k : Int))) (by kernel_rfl) hmx ⟨u0, c1, c2, cR⟩ (fun hS => ?_)
      refine wpAnyH_take (i := 0) (v := ?_) rfl (by kernel_rfl) (by kernel_rfl) (by kernel_rfl) (fun _ _ _ h => h) (Or.inl ⟨by rfl, ?_⟩) (by assumption) ?_
      rotate_left 1
      · intro w hSw; (try dsimp only at hSw); (go_simp <;> with_reducible rfl)
      simp only [Act.put, List.getElem_toArray, List.getElem_cons_zero, List.getElem_cons_succ, List.setIfInBounds_toArray, List.set_cons_zero, List.set_cons_succ]
      refine wpAnyH_take (i := 1) (v := ?_) rfl (by kernel_rfl) (by kernel_rfl) (by kernel_rfl) (fun _ _ _ h => h) (Or.inl ⟨by rfl, ?_⟩) (by assumption) ?_
      rotate_left 1
      · intro w hSw; (try dsimp only at hSw); (go_simp <;> with_reducible rfl)
      simp only [Act.put, List.getElem_toArray, List.getElem_cons_zero, List.getElem_cons_succ, List.setIfInBounds_toArray, List.set_cons_zero, List.set_cons_succ]
      refine wpAnyH_take (i := 2) (v := ?_) rfl (by kernel_rfl) (by kernel_rfl) (by kernel_rfl) (fun _ _ _ h => h) (Or.inl ⟨by rfl, ?_⟩) (by assumption) ?_
      rotate_left 1
      · intro w hSw; (try dsimp only at hSw); (go_simp <;> with_reducible rfl)
      simp only [Act.put, List.getElem_toArray, List.getElem_cons_zero, List.getElem_cons_succ, List.setIfInBounds_toArray, List.set_cons_zero, List.set_cons_succ]
      refine wpAnyH_take (i := 3) (v := ?_) rfl (by kernel_rfl) (by kernel_rfl) (by kernel_rfl) (fun _ _ _ h => h) (Or.inl ⟨by rfl, ?_⟩) (by assumption) ?_
      rotate_left 1
      · intro w hSw; (try dsimp only at hSw); (go_simp <;> with_reducible rfl)
      simp only [Act.put, List.getElem_toArray, List.getElem_cons_zero, List.getElem_cons_succ, List.setIfInBounds_toArray, List.set_cons_zero, List.set_cons_succ]
      refine wpAnyH_take (i := 4) (v := ?_) rfl (by kernel_rfl) (by kernel_rfl) (by kernel_rfl) (fun _ _ _ h => h) (Or.inl ⟨by rfl, ?_⟩) (by assumption) ?_
      rotate_left 1
      · intro w hSw; (try dsimp only at hSw); (go_simp <;> with_reducible rfl)
      simp only [Act.put, List.getElem_toArray, List.getElem_cons_zero, List.getElem_cons_succ, List.setIfInBounds_toArray, List.set_cons_zero, List.set_cons_succ]
      refine wpAnyH_take (i := 5) (v := ?_) rfl (by kernel_rfl) (by kernel_rfl) (by kernel_rfl) (fun _ _ _ h => h) (Or.inl ⟨by rfl, ?_⟩) (by assumption) ?_
      rotate_left 1
      · intro w hSw; (try dsimp only at hSw); (go_simp <;> with_reducible rfl)
      simp only [Act.put, List.getElem_toArray, List.getElem_cons_zero, List.getElem_cons_succ, List.setIfInBounds_toArray, List.set_cons_zero, List.set_cons_succ]
      refine wpAnyH_take (i := 6) (v := ?_) rfl (by kernel_rfl) (by kernel_rfl) (by kernel_rfl) (fun _ _ _ h => h) (Or.inl ⟨by rfl, ?_⟩) (by assumption) ?_
      rotate_left 1
      · intro w hSw; (try dsimp only at hSw); (go_simp <;> with_reducible rfl)
      simp only [Act.put, List.getElem_toArray, List.getElem_cons_zero, List.getElem_cons_succ, List.setIfInBounds_toArray, List.set_cons_zero, List.set_cons_succ]
      refine wpAnyH_take (i := 7) (v := ?_) rfl (by kernel_rfl) (by kernel_rfl) (by kernel_rfl) (fun _ _ _ h => h) (Or.inl ⟨by rfl, ?_⟩) (by assumption) ?_
      rotate_left 1
      · intro w hSw; (try dsimp only at hSw); (go_simp <;> with_reducible rfl)
      simp only [Act.put, List.getElem_toArray, List.getElem_cons_zero, List.getElem_cons_succ, List.setIfInBounds_toArray, List.set_cons_zero, List.set_cons_succ]
      refine wpAnyH_done (by kernel_rfl) ?_ _
      simp only [onward]
      have hcapI : (s : Int) ≤ (cap : Int) := by have := HX.out.2.2.2.1.le; omega
      have hcap2 : (s : Int) + 1 ≤ (cap : Int) := by have := HX.out.2.2.2.1.le; omega
      have hcap3 : ¬ cap = s := by have := HX.out.2.2.2.1.le; omega
      obtain ⟨s1, hs1⟩ : ∃ s1, s1 = s + 1 := ⟨_, rfl⟩
      have hw1 : IntKind.i64.wrap ((s : Int) + 1) = ((s1 : Nat) : Int) := by rw [IntKind.wrap_i64]; omega
      have hs1a : (s1 : Int) ≤ (cap : Int) := by omega
      have hs1b : s ≤ s1 := by omega
      have hs1c : s1 - s = 1 := by omega
      have hs1d : (0 : Int) ≤ (s1 : Int) := by omega
      clear hs1 hcap2
      gi_wp2
      refine region_round (fun w' => w'.cell? ⟨b + 1, 0, none⟩ = some (.slice (some ⟨gb, off, none⟩) xs.length cap) ∧ w'.cell? ⟨b + 1 + 1, 0, none⟩ = some (.int .i64 (s : Int))) (by kernel_rfl) hmx ⟨c1, c2⟩ (fun hS => ?_)
      refine wpAnyH_take (i := 0) (v := ?_) rfl (by kernel_rfl) (by kernel_rfl) (by kernel_rfl) (fun _ _ _ h => h) (Or.inl ⟨by rfl, ?_⟩) (by assumption) ?_
      rotate_left 1
      · intro w hSw; (try dsimp only at hSw); (go_simp <;> with_reducible rfl)
      simp only [Act.put, List.getElem_toArray, List.getElem_cons_zero, List.getElem_cons_succ, List.setIfInBounds_toArray, List.set_cons_zero, List.set_cons_succ]
      refine wpAnyH_take (i := 1) (v := ?_) rfl (by kernel_rfl) (by kernel_rfl) (by kernel_rfl) (fun _ _ _ h => h) (Or.inl ⟨by rfl, ?_⟩) (by assumption) ?_
      rotate_left 1
      · intro w hSw; (try dsimp only at hSw); (go_simp <;> with_reducible rfl)
      simp only [Act.put, List.getElem_toArray, List.getElem_cons_zero, List.getElem_cons_succ, List.setIfInBounds_toArray, List.set_cons_zero, List.set_cons_succ]
      refine wpAnyH_take (i := 2) (v := ?_) rfl (by kernel_rfl) (by kernel_rfl) (by kernel_rfl) (fun _ _ _ h => h) (Or.inl ⟨by rfl, ?_⟩) (by assumption) ?_
      rotate_left 1
      · intro w hSw; (try dsimp only at hSw); (go_simp <;> with_reducible rfl)
      simp only [Act.put, List.getElem_toArray, List.getElem_cons_zero, List.getElem_cons_succ, List.setIfInBounds_toArray, List.set_cons_zero, List.set_cons_succ]
      refine wpAnyH_take (i := 3) (v := ?_) rfl (by kernel_rfl) (by kernel_rfl) (by kernel_rfl) (fun _ _ _ h => h) (Or.inl ⟨by rfl, ?_⟩) (by assumption) ?_
      rotate_left 1
      · intro w hSw; (try dsimp only at hSw); (go_simp <;> with_reducible rfl)
      simp only [Act.put, List.getElem_toArray, List.getElem_cons_zero, List.getElem_cons_succ, List.setIfInBounds_toArray, List.set_cons_zero, List.set_cons_succ]
      refine wpAnyH_take (i := 4) (v := ?_) rfl (by kernel_rfl) (by kernel_rfl) (by kernel_rfl) (fun _ _ _ h => h) (Or.inl ⟨by rfl, ?_⟩) (by assumption) ?_
      rotate_left 1
      · intro w hSw; (try dsimp only at hSw); (go_simp <;> with_reducible rfl)
      simp only [Act.put, List.getElem_toArray, List.getElem_cons_zero, List.getElem_cons_succ, List.setIfInBounds_toArray, List.set_cons_zero, List.set_cons_succ]
      refine wpAnyH_take (i := 5) (v := ?_) rfl (by kernel_rfl) (by kernel_rfl) (by kernel_rfl) (fun _ _ _ h => h) (Or.inl ⟨by rfl, ?_⟩) (by assumption) ?_
      rotate_left 1
      · intro w hSw; (try dsimp only at hSw); (go_simp <;> with_reducible rfl)
      simp only [Act.put, List.getElem_toArray, List.getElem_cons_zero, List.getElem_cons_succ, List.setIfInBounds_toArray, List.set_cons_zero, List.set_cons_succ]
      refine wpAnyH_take (i := 6) (v := ?_) rfl (by kernel_rfl) (by kernel_rfl) (by kernel_rfl) (fun _ _ _ h => h) (Or.inl ⟨by rfl, ?_⟩) (by assumption) ?_
      rotate_left 1
      · intro w hSw; (try dsimp only at hSw); (go_simp <;> with_reducible rfl)
      simp only [Act.put, List.getElem_toArray, List.getElem_cons_zero, List.getElem_cons_succ, List.setIfInBounds_toArray, List.set_cons_zero, List.set_cons_succ]
      refine wpAnyH_take (i := 7) (v := ?_) rfl (by kernel_rfl) (by kernel_rfl) (by kernel_rfl) (fun _ _ _ h => h) (Or.inl ⟨by rfl, ?_⟩) (by assumption) ?_
      rotate_left 1
      · intro w hSw; (try dsimp only at hSw); (go_simp <;> with_reducible rfl)
      simp only [Act.put, List.getElem_toArray, List.getElem_cons_zero, List.getElem_cons_succ, List.setIfInBounds_toArray, List.set_cons_zero, List.set_cons_succ]
      refine wpAnyH_ready (rs := [8]) (by kernel_rfl) (by simp) ?_
      refine AllReadyH.cons rfl (fun K hK => ?_) AllReadyH.nil
      rw [if_pos (by rfl)]
      simp only [List.getElem_toArray, List.getElem_cons_zero, List.getElem_cons_succ]
      go_simp
      refine (count_any gb off s cap (cap - s) xs V.drew.drew ((HX.out.2.2.2.1.keep ((Keep.refl noBlock V).drew) (fun _ h => h)).keep ((Keep.refl noBlock V.drew).drew) (fun _ h => h)) (fun i => Nat.lt_of_le_of_lt (num15 hgood i) (by omega)) hs).mono ?_
      rintro e wz ⟨rfl, rfl⟩
      refine hK.out _ _ hS (fun hS => ?_)
      try simp only [Act.put, List.getElem_toArray, List.getElem_cons_zero, List.getElem_cons_succ, List.setIfInBounds_toArray, List.set_cons_zero, List.set_cons_succ]
      refine wpAnyH_take (i := 9) (v := ?_) rfl (by kernel_rfl) (by kernel_rfl) (by kernel_rfl) (fun _ _ _ h => h) (Or.inl ⟨by rfl, ?_⟩) (by assumption) ?_
      rotate_left 1
      · intro w hSw; (try dsimp only at hSw); (go_simp <;> with_reducible rfl)
      simp only [Act.put, List.getElem_toArray, List.getElem_cons_zero, List.getElem_cons_succ, List.setIfInBounds_toArray, List.set_cons_zero, List.set_cons_succ]
      refine wpAnyH_done (by kernel_rfl) ?_ _
      simp only [onward]
      clear hK
      obtain ⟨rk, hrk⟩ : ∃ rk, rk = rank xs s := ⟨_, rfl⟩
      rw [← hrk]
      have HRK := (show Hid (rk = rank xs s) from hrk)
      clear hrk
      obtain ⟨wd, hwd⟩ : ∃ wd, wd = nk + rk := ⟨_, rfl⟩
      have hk0 : k ≠ 0 := by rintro rfl; simp [many] at hck
      have hwl : wd < 65536 := by
        have h1 := next_le (many xs) (of_decide_eq_true hgood).2.2 k (by omega)
        have h2 := rank_lt xs s hs
        rw [← HX.out.1, symsOf_length] at h2
        have h3 : many xs k = xs.count k := by unfold many; rw [if_neg hk0]
        have h4 : 2 ^ k ≤ 2 ^ 15 := Nat.pow_le_pow_right (by omega) (by omega)
        rw [hwd, HX.out.2.1, HRK.out]
        omega
      have hwn : IntKind.i64.wrap ((nk : Int) + (rk : Int)) = (wd : Int) := by rw [IntKind.wrap_i64]; omega
      have HWD := (show Hid (wd = nk + rk) from hwd)
      clear hwd
      gi_wp2
      refine region_round (fun w' => w'.cell? ⟨b, 0, none⟩ = some (.pointer (some ⟨wb, 0, none⟩)) ∧ w'.cell? ⟨ub, 0, none⟩ = some (.int .i64 (k : Int)) ∧ w'.cell? ⟨ub, 1, none⟩ = some (.int .i64 (nk : Int))) (by kernel_rfl) hmx ⟨c0, u0, u1⟩ (fun hS => ?_)
      refine wpAnyH_take (i := 0) (v := ?_) rfl (by kernel_rfl) (by kernel_rfl) (by kernel_rfl) (fun _ _ _ h => h) (Or.inl ⟨by rfl, ?_⟩) (by assumption) ?_
      rotate_left 1
      · intro w hSw; (try dsimp only at hSw); (go_simp <;> with_reducible rfl)
      simp only [Act.put, List.getElem_toArray, List.getElem_cons_zero, List.getElem_cons_succ, List.setIfInBounds_toArray, List.set_cons_zero, List.set_cons_succ]
      refine wpAnyH_take (i := 1) (v := ?_) rfl (by kernel_rfl) (by kernel_rfl) (by kernel_rfl) (fun _ _ _ h => h) (Or.inl ⟨by rfl, ?_⟩) (by assumption) ?_
      rotate_left 1
      · intro w hSw; (try dsimp only at hSw); (go_simp <;> with_reducible rfl)
      simp only [Act.put, List.getElem_toArray, List.getElem_cons_zero, List.getElem_cons_succ, List.setIfInBounds_toArray, List.set_cons_zero, List.set_cons_succ]
      refine wpAnyH_take (i := 2) (v := ?_) rfl (by kernel_rfl) (by kernel_rfl) (by kernel_rfl) (fun _ _ _ h => h) (Or.inl ⟨by rfl, ?_⟩) (by assumption) ?_
      rotate_left 1
      · intro w hSw; (try dsimp only at hSw); (go_simp <;> with_reducible rfl)
      simp only [Act.put, List.getElem_toArray, List.getElem_cons_zero, List.getElem_cons_succ, List.setIfInBounds_toArray, List.set_cons_zero, List.set_cons_succ]
      refine wpAnyH_take (i := 3) (v := ?_) rfl (by kernel_rfl) (by kernel_rfl) (by kernel_rfl) (fun _ _ _ h => h) (Or.inl ⟨by rfl, ?_⟩) (by assumption) ?_
      rotate_left 1
      · intro w hSw; (try dsimp only at hSw); (go_simp <;> with_reducible rfl)
      simp only [Act.put, List.getElem_toArray, List.getElem_cons_zero, List.getElem_cons_succ, List.setIfInBounds_toArray, List.set_cons_zero, List.set_cons_succ]
      refine wpAnyH_take (i := 4) (v := ?_) rfl (by kernel_rfl) (by kernel_rfl) (by kernel_rfl) (fun _ _ _ h => h) (Or.inl ⟨by rfl, ?_⟩) (by assumption) ?_
      rotate_left 1
      · intro w hSw; (try dsimp only at hSw); (go_simp <;> with_reducible rfl)
      simp only [Act.put, List.getElem_toArray, List.getElem_cons_zero, List.getElem_cons_succ, List.setIfInBounds_toArray, List.set_cons_zero, List.set_cons_succ]
      refine wpAnyH_take (i := 5) (v := ?_) rfl (by kernel_rfl) (by kernel_rfl) (by kernel_rfl) (fun _ _ _ h => h) (Or.inl ⟨by rfl, ?_⟩) (by assumption) ?_
      rotate_left 1
      · intro w hSw; (try dsimp only at hSw); (go_simp <;> with_reducible rfl)
      simp only [Act.put, List.getElem_toArray, List.getElem_cons_zero, List.getElem_cons_succ, List.setIfInBounds_toArray, List.set_cons_zero, List.set_cons_succ]
      refine wpAnyH_take (i := 6) (v := ?_) rfl (by kernel_rfl) (by kernel_rfl) (by kernel_rfl) (fun _ _ _ h => h) (Or.inl ⟨by rfl, ?_⟩) (by assumption) ?_
      rotate_left 1
      · intro w hSw; (try dsimp only at hSw); (go_simp <;> with_reducible rfl)
      simp only [Act.put, List.getElem_toArray, List.getElem_cons_zero, List.getElem_cons_succ, List.setIfInBounds_toArray, List.set_cons_zero, List.set_cons_succ]
      refine wpAnyH_take (i := 8) (v := ?_) rfl (by kernel_rfl) (by kernel_rfl) (by kernel_rfl) (fun _ _ _ h => h) (Or.inl ⟨by rfl, ?_⟩) (by assumption) ?_
      rotate_left 1
      · intro w hSw; (try dsimp only at hSw); (go_simp <;> with_reducible rfl)
      simp only [Act.put, List.getElem_toArray, List.getElem_cons_zero, List.getElem_cons_succ, List.setIfInBounds_toArray, List.set_cons_zero, List.set_cons_succ]
      refine wpAnyH_take (i := 9) (v := ?_) rfl (by kernel_rfl) (by kernel_rfl) (by kernel_rfl) (fun _ _ _ h => h) (Or.inl ⟨by rfl, ?_⟩) (by assumption) ?_
      rotate_left 1
      · intro w hSw; (try dsimp only at hSw); (go_simp <;> with_reducible rfl)
      simp only [Act.put, List.getElem_toArray, List.getElem_cons_zero, List.getElem_cons_succ, List.setIfInBounds_toArray, List.set_cons_zero, List.set_cons_succ]
      refine wpAnyH_ready (rs := [7]) (by kernel_rfl) (by simp) ?_
      refine AllReadyH.cons rfl (fun K hK => ?_) AllReadyH.nil
      rw [if_pos (by rfl)]
      simp only [List.getElem_toArray, List.getElem_cons_zero, List.getElem_cons_succ]
      go_simp
      refine (turned_any wd k hwl (by omega) _).mono ?_
      rintro e wz ⟨rfl, rfl⟩
      refine hK.out _ _ hS (fun hS => ?_)
      try simp only [Act.put, List.getElem_toArray, List.getElem_cons_zero, List.getElem_cons_succ, List.setIfInBounds_toArray, List.set_cons_zero, List.set_cons_succ]
      clear hK
      refine wpAnyH_ready (rs := [10]) (by kernel_rfl) (by simp) ?_
      refine AllReadyH.cons rfl (fun K hK => ?_) AllReadyH.nil
      rw [if_pos (by rfl)]
      simp only [List.getElem_toArray, List.getElem_cons_zero, List.getElem_cons_succ]
      obtain ⟨tv, htv⟩ : ∃ tv, tv = valF (bitOf wd) k := ⟨_, rfl⟩
      have htl : tv < 18446744073709551616 := by
        rw [htv]
        exact Nat.lt_of_lt_of_le (valF_lt _ (bitOf_lt wd) k) (Nat.le_trans (Nat.pow_le_pow_right (by omega) (show k ≤ 15 by omega)) (by decide))
      have HTV := (show Hid (tv = valF (bitOf wd) k) from htv)
      rw [← htv]
      clear htv
      go_simp
      obtain ⟨V3, hV3⟩ : ∃ V3, V3 = V.drew.drew.drew := ⟨_, rfl⟩
      have hk3 : Keep noBlock V V3 := by rw [hV3]; exact (((Keep.refl noBlock V).drew).drew).drew
      rw [← hV3]
      have hq := HQ.out
      have hkW : Keep noBlock w V3 := (hq.2.2.2.2.1.trans' HX.out.2.2.2.2.1).trans' hk3
      have hIW : IsW V3 wb v L := HR.out.2.1.keep hkW (fun h => h) (fun _ _ h => h)
      refine (put_any wb v L tv k htl (by omega) HR.out.2.2.1 V3 hIW).mono ?_
      rintro e wp ⟨rfl, v', hW', hmv, hkp⟩
      have hwb : wb < w.heap.size := obj_lt HR.out.2.1.obj
      have hvb : ∀ j, v.ownBlock = some j → j < w.heap.size := HR.out.2.1.row_lt
      have hsz := hkW.size
      have hfar : ∀ j, w.heap.size ≤ j → ¬ (j = wb ∨ v.ownBlock = some j) := by
        rintro j hj (rfl | e)
        · omega
        · have := hvb j e; omega
      have hV4 := HX.out.2.2.2.2.1.trans' hk3
      have o0 := hkp.obj (hV4.obj hq.1 (fun h => h)) (hfar _ (by omega))
      have o3 := hkp.obj (hV4.obj hq.2.2.2.1 (fun h => h)) (hfar _ (by omega))
      have ou := hkp.obj (hk3.obj HX.out.2.2.2.2.2.1 (fun h => h)) (hfar _ (by omega))
      have p0 : wp.cell? ⟨b, 0, none⟩ = some (.pointer (some ⟨wb, 0, none⟩)) := cell_of o0 0
      have pu0 : wp.cell? ⟨ub, 0, none⟩ = some (.int .i64 (k : Int)) := cell_of ou 0
      have pu1 : wp.cell? ⟨ub, 1, none⟩ = some (.int .i64 (nk : Int)) := cell_of ou 1
      have p3 : wp.cell? ⟨b + 1 + 1 + 1, 0, none⟩ = some (.int .i64 0) := cell_of o3 0
      have z3 : wp.frozen? ⟨b + 1 + 1 + 1, 0, none⟩ = false := frozen_of o3 0
      have HP := (show Hid (IsW wp wb v' (L ++ low tv k) ∧ Moves V3.heap.size v v' ∧ Keep (fun j => j = wb ∨ v.ownBlock = some j) V3 wp ∧ Keep noBlock V V3 ∧ Keep noBlock w V3 ∧ wp.heap[b + 1 + 1 + 1]? = some (.cells #[.int .i64 0] 25 (0, 0)) ∧ wp.heap[b]? = some (.cells #[.pointer (some ⟨wb, 0, none⟩)] 29 (0, 0)) ∧ wp.heap[ub]? = some (.cells #[.int .i64 (k : Int), .int .i64 (nk : Int), .int .i64 (mk : Int)] 71 (0, 0)) ∧ IsW V3 wb v L ∧ wb < w.heap.size ∧ (∀ j, v.ownBlock = some j → j < w.heap.size)) from ⟨hW', hmv, hkp, hk3, hkW, o3, o0, ou, hIW, hwb, hvb⟩)
      refine hK.out _ _ ⟨p0, pu0, pu1⟩ (fun hS => ?_)
      try simp only [Act.put, List.getElem_toArray, List.getElem_cons_zero, List.getElem_cons_succ, List.setIfInBounds_toArray, List.set_cons_zero, List.set_cons_succ]
      clear hK hW' hmv hkp hk3 hkW o3 o0 ou hIW hwb hvb hfar hV4 hq hsz
      refine wpAnyH_ready (rs := [11]) (by kernel_rfl) (by simp) ?_
      refine AllReadyH.cons rfl (fun K hK => ?_) AllReadyH.nil
      rw [if_pos (by rfl)]
      simp only [List.getElem_toArray, List.getElem_cons_zero, List.getElem_cons_succ]
      go_simp
      obtain ⟨t1, t2, t3, t4, t5, t6, t7, t8, t9, t10, t11⟩ := HP.out
      have hq := HQ.out
      refine hK.out _ _ ⟨cell_of (set_far t7 (by omega) _ _) 0, cell_of (set_far t8 (by omega) _ _) 0, cell_of (set_far t8 (by omega) _ _) 1⟩ (fun hS => ?_)
      refine wpAnyH_done (by kernel_rfl) ?_ _
      simp only [onward]
      gi_wp2
      have hvs := t5.size
      have hk1 : Keep (fun j => j = wb ∨ v.ownBlock = some j) V wp := (t4.mono (fun _ _ h => h.elim)).trans t3 (fun _ _ h => h)
      have hk2 : Keep (fun j => j = wb ∨ v.ownBlock = some j) w wp := (t5.mono (fun _ _ h => h.elim)).trans t3 (fun _ _ h => h)
      have hkk : Keep (fun j => j = b + 1 + 1 + 1) wp (wp.setCell ⟨b + 1 + 1 + 1, 0, none⟩ (.int .i64 0)) := Keep.setCell (S := fun j => j = b + 1 + 1 + 1) (p := ⟨b + 1 + 1 + 1, 0, none⟩) (Keep.refl _ wp) (fun _ => rfl) _
      have hIV : IsW V wb v L := HR.out.2.1.keep (hq.2.2.2.2.1.trans' HX.out.2.2.2.2.1) (fun h => h) (fun _ _ h => h)
      have hxk := HX.out.1
      have hwd : wordN xs s = wd := by
        unfold wordN
        rw [← hxk, if_neg hk0, ← HX.out.2.1, ← HRK.out, HWD.out]
      refine ⟨keeps_set _ (keeps_of _ hk1 ?_) _ _, rfl, by rw [← hxk]; exact hk0, (set_obj t6 0 _).trans (by simp), v', ?_, ?_, Keep.trans (T := fun j => j = b + 1 + 1 + 1) hk2 hkk (fun i hi e => by omega), ?_⟩
      · rintro j o ho hc (rfl | e)
        · rw [hIV.obj] at ho; cases ho; cases hc
        · obtain ⟨_, h | ⟨g, cap', cur, rfl, _, hg, _⟩⟩ := hIV.row
          · rw [h.1] at e; cases e
          · cases e
            rw [hg] at ho; cases ho; cases hc
      · rw [← hxk, hwd, ← HTV.out]
        refine t1.keep hkk (by omega) (fun j hj e => ?_)
        rcases t2 with h | ⟨i, h, hi⟩
        · rw [h] at hj; have := t11 j hj; omega
        · rw [h] at hj; cases hj
          have := (hq.2.2.2.2.1.trans' HX.out.2.2.2.2.1).size
          have := HX.out.2.2.2.2.1.size
          have := t4.size
          omega
      · rcases t2 with h | ⟨i, h, hi⟩
        · exact .inl h
        · exact .inr ⟨i, h, by omega⟩
      · have h1 := HX.out.2.2.2.2.1.size
        have h2 := hk1.size
        rw [World.size_setCell]
        omega
    · have hd1 : ((k : Int) == (x : Int)) = false := by simpa using (show ¬ (k : Int) = (x : Int) by omega)
      have hd3 : ¬ (k : Int) = (x : Int) := by omega
      gi_wp2
      refine region_round (fun w' => w'.cell? ⟨ub, 0, none⟩ = some (.int .i64 (k : Int)) ∧ w'.cell? ⟨b + 1, 0, none⟩ = some (.slice (some ⟨gb, off, none⟩) xs.length cap) ∧ w'.cell? ⟨b + 1 + 1, 0, none⟩ = some (.int .i64 (s : Int)) ∧ w'.cell? ⟨gb, off + s, none⟩ = some (.int .u8 (x : Int))) (by kernel_rfl) hmx ⟨u0, c1, c2, cR⟩ (fun hS => ?_)
      refine wpAnyH_take (i := 0) (v := ?_) rfl (by kernel_rfl) (by kernel_rfl) (by kernel_rfl) (fun _ _ _ h => h) (Or.inl ⟨by rfl, ?_⟩) (by assumption) ?_
      rotate_left 1
      · intro w hSw; (try dsimp only at hSw); (go_simp <;> with_reducible rfl)
      simp only [Act.put, List.getElem_toArray, List.getElem_cons_zero, List.getElem_cons_succ, List.setIfInBounds_toArray, List.set_cons_zero, List.set_cons_succ]
      refine wpAnyH_take (i := 1) (v := ?_) rfl (by kernel_rfl) (by kernel_rfl) (by kernel_rfl) (fun _ _ _ h => h) (Or.inl ⟨by rfl, ?_⟩) (by assumption) ?_
      rotate_left 1
      · intro w hSw; (try dsimp only at hSw); (go_simp <;> with_reducible rfl)
      simp only [Act.put, List.getElem_toArray, List.getElem_cons_zero, List.getElem_cons_succ, List.setIfInBounds_toArray, List.set_cons_zero, List.set_cons_succ]
      refine wpAnyH_take (i := 2) (v := ?_) rfl (by kernel_rfl) (by kernel_rfl) (by kernel_rfl) (fun _ _ _ h => h) (Or.inl ⟨by rfl, ?_⟩) (by assumption) ?_
      rotate_left 1
      · intro w hSw; (try dsimp only at hSw); (go_simp <;> with_reducible rfl)
      simp only [Act.put, List.getElem_toArray, List.getElem_cons_zero, List.getElem_cons_succ, List.setIfInBounds_toArray, List.set_cons_zero, List.set_cons_succ]
      refine wpAnyH_take (i := 3) (v := ?_) rfl (by kernel_rfl) (by kernel_rfl) (by kernel_rfl) (fun _ _ _ h => h) (Or.inl ⟨by rfl, ?_⟩) (by assumption) ?_
      rotate_left 1
      · intro w hSw; (try dsimp only at hSw); (go_simp <;> with_reducible rfl)
      simp only [Act.put, List.getElem_toArray, List.getElem_cons_zero, List.getElem_cons_succ, List.setIfInBounds_toArray, List.set_cons_zero, List.set_cons_succ]
      refine wpAnyH_take (i := 4) (v := ?_) rfl (by kernel_rfl) (by kernel_rfl) (by kernel_rfl) (fun _ _ _ h => h) (Or.inl ⟨by rfl, ?_⟩) (by assumption) ?_
      rotate_left 1
      · intro w hSw; (try dsimp only at hSw); (go_simp <;> with_reducible rfl)
      simp only [Act.put, List.getElem_toArray, List.getElem_cons_zero, List.getElem_cons_succ, List.setIfInBounds_toArray, List.set_cons_zero, List.set_cons_succ]
      refine wpAnyH_take (i := 5) (v := ?_) rfl (by kernel_rfl) (by kernel_rfl) (by kernel_rfl) (fun _ _ _ h => h) (Or.inl ⟨by rfl, ?_⟩) (by assumption) ?_
      rotate_left 1
      · intro w hSw; (try dsimp only at hSw); (go_simp <;> with_reducible rfl)
      simp only [Act.put, List.getElem_toArray, List.getElem_cons_zero, List.getElem_cons_succ, List.setIfInBounds_toArray, List.set_cons_zero, List.set_cons_succ]
      refine wpAnyH_take (i := 6) (v := ?_) rfl (by kernel_rfl) (by kernel_rfl) (by kernel_rfl) (fun _ _ _ h => h) (Or.inl ⟨by rfl, ?_⟩) (by assumption) ?_
      rotate_left 1
      · intro w hSw; (try dsimp only at hSw); (go_simp <;> with_reducible rfl)
      simp only [Act.put, List.getElem_toArray, List.getElem_cons_zero, List.getElem_cons_succ, List.setIfInBounds_toArray, List.set_cons_zero, List.set_cons_succ]
      refine wpAnyH_take (i := 7) (v := ?_) rfl (by kernel_rfl) (by kernel_rfl) (by kernel_rfl) (fun _ _ _ h => h) (Or.inl ⟨by rfl, ?_⟩) (by assumption) ?_
      rotate_left 1
      · intro w hSw; (try dsimp only at hSw); (go_simp <;> with_reducible rfl)
      simp only [Act.put, List.getElem_toArray, List.getElem_cons_zero, List.getElem_cons_succ, List.setIfInBounds_toArray, List.set_cons_zero, List.set_cons_succ]
      refine wpAnyH_done (by kernel_rfl) ?_ _
      simp only [onward]
      gi_wp2
      refine ⟨keeps_of _ ((Keep.refl noBlock V).drew) (fun _ _ _ _ h => h), HX.out.2.2.2.2.1.drew, fun l hl h0 => ?_⟩
      by_cases e : l = k
      · rw [e, ← HX.out.1]; exact he
      · exact HF.out l (by omega) h0
  case done =>
    rintro V ⟨hKV, HF⟩ hD
    have hx0 : numOf xs s = 0 := by
      by_cases e : numOf xs s = 0
      · exact e
      · exfalso
        have h1 := num15 hgood s
        refine HF.out (numOf xs s) (by omega) ?_ rfl
        unfold many
        rw [if_neg e, List.count_pos_iff]
        unfold numOf
        rw [List.getElem?_eq_getElem hs]
        exact List.getElem_mem hs
    have hq := HQ.out
    have o3 := hKV.obj hq.2.2.2.1 (fun h => h)
    have c3 : V.cell? ⟨b + 1 + 1 + 1, 0, none⟩ = some (.int .i64 0) := cell_of o3 0
    have z3 : V.frozen? ⟨b + 1 + 1 + 1, 0, none⟩ = false := frozen_of o3 0
    have HD := (show Hid (V.heap[W4.heap.size]? = some (.deferred (some [])) ∧ V.heap[b + 1 + 1 + 1]? = some (.cells #[.int .i64 0] 25 (0, 0)) ∧ Keep noBlock W4 V ∧ numOf xs s = 0) from ⟨hD, o3, hKV, hx0⟩)
    clear hD o3 hKV hx0 hq bx4
    gi_wp2
    obtain ⟨t1, t2, t3, t4⟩ := HD.out
    have hq := HQ.out
    have hsz := hq.2.2.2.2.1.size
    have hD' : (V.setCell ⟨b + 1 + 1 + 1, 0, none⟩ (.int .i64 2)).heap[W4.heap.size]? = some (.deferred (some [])) := set_far t1 (by omega) _ _
    refine ⟨by simp, .inl ⟨_, _, rfl, run_takeDeferred hD', ?_⟩⟩
    have o3 : (V.setCell ⟨b + 1 + 1 + 1, 0, none⟩ (.int .i64 2)).heap[b + 1 + 1 + 1]? = some (.cells #[.int .i64 2] 25 (0, 0)) := (set_obj t2 0 _).trans (by simp)
    have hkp : Keep (fun x => x = W4.heap.size) (V.setCell ⟨b + 1 + 1 + 1, 0, none⟩ (.int .i64 2)) ((V.setCell ⟨b + 1 + 1 + 1, 0, none⟩ (.int .i64 2)).putObj W4.heap.size (.deferred none)) := (Keep.refl _ _).putObj _ _ (fun _ => rfl)
    have hk1 : Keep noBlock w (V.setCell ⟨b + 1 + 1 + 1, 0, none⟩ (.int .i64 2)) := Keep.setCell (hq.2.2.2.2.1.trans' t3) (fun h => by dsimp only at h; omega) _
    exact ⟨_, results_cell rfl _ _ _ ⟨b + 1 + 1 + 1, 0, none⟩ (.int .i64 2) rfl (loadVar25 (cell_of (hkp.obj o3 (by omega)) 0)), .inl ⟨t4, rfl, hk1.trans hkp (fun i hi e => by omega)⟩⟩
  case stop =>
    rintro j V ⟨rfl, h0, o3, v', h1, h2, h3, h4⟩ hD
    gi_wp2
    refine ⟨by simp, .inl ⟨_, _, rfl, run_takeDeferred hD, ?_⟩⟩
    have hq := HQ.out
    have hsz := hq.2.2.2.2.1.size
    have hwb : wb < w.heap.size := obj_lt HR.out.2.1.obj
    have hvb : ∀ j, v.ownBlock = some j → j < w.heap.size := HR.out.2.1.row_lt
    have hkp : Keep (fun x => x = W4.heap.size) V (V.putObj W4.heap.size (.deferred none)) := (Keep.refl _ V).putObj _ _ (fun _ => rfl)
    refine ⟨_, results_cell rfl _ _ _ ⟨b + 1 + 1 + 1, 0, none⟩ (.int .i64 0) rfl (loadVar25 (cell_of (hkp.obj o3 (by omega)) 0)), .inr ⟨h0, rfl, v', h1.keep hkp (by omega) (fun j hj e => ?_), h2, h3.trans hkp (fun i hi e => by omega)⟩⟩
    obtain ⟨_, h | ⟨g, cap', cur, rfl, _, hg, _⟩⟩ := h1.row
    · rw [h.1] at hj; cases hj
    · cases hj
      have e' : g = W4.heap.size := e
      rw [e', hD] at hg
      cases hg

end Go.Proofs.Ytapcohpagipkpaa
