/-
  BitsRead, the walk: the program's reader and the document's go side by side.
-/
import Derived.Test.YtajhobjjkcnomaaRefR
import Derived.Test.YtajhobjjkcnomaaWakes
namespace Go.Proofs.Ytajhobjjkcnomaa
open Go.RowKit Go.Shelf

theorem xor_u8 (c : Nat) (hc : c < 256) : bits .xor .u8 (c : Int) 255 = ((c ^^^ 255 : Nat) : Int) := u8_xor_nat c 255 hc (by decide)
theorem xor_lt (c : Nat) (hc : c < 256) : c ^^^ 255 < 256 := Nat.xor_lt_two_pow (n := 8) hc (by decide)
theorem set_lt (cs : List Nat) (h : ∀ j : Nat, cs[j]?.getD 0 < 256) (i x : Nat) (hx : x < 256) : ∀ j : Nat, (cs.set i x)[j]?.getD 0 < 256 := by
  intro j
  rw [List.getElem?_set]
  split
  · split
    · exact hx
    · decide
  · exact h j

/-- append onto an empty slice that was just made, from whatever slice of bytes. -/
theorem run_append_src (w : World) (ty : TypeId) (H : Nat) (hH : w.heap[H]? = some (.cells #[] 5 (0, 0))) (sv : Value) (bs : List Nat) (hlen : bs.length ≤ 140737488351232) (h : (sv = .slice none 0 0 ∧ bs = []) ∨ ∃ a cap, sv = .slice (some a) bs.length cap ∧ ∀ j u, (u8s bs)[j]? = some u → w.cell? (a.add j) = some u) :
    ∃ g cap w', (Builtin.append_ #[22, 22] ty #[.slice (some ⟨H, 0, none⟩) 0 0, sv]).run Try.prog w = .ok (.slice (some ⟨g, 0, none⟩) bs.length cap) w' ∧ w'.ownsRow 0 5 1 (.slice (some ⟨g, 0, none⟩) bs.length cap) bs.length (u8s bs) ∧ Keep (fun k => k = H) w w' ∧ (g = H ∨ w.heap.size ≤ g) := by
  obtain ⟨i0, hi, hz0, hz1, hz2⟩ := info_parts info5
  have hown : w.ownsRow 0 5 1 (.slice (some ⟨H, 0, none⟩) 0 0) 0 [] := ⟨by simp, .inr ⟨H, 0, #[], rfl, Nat.zero_le _, hH, Nat.le_refl _, Nat.zero_le _, rfl, rfl⟩⟩
  rcases h with ⟨rfl, rfl⟩ | ⟨a, c, rfl, hc⟩
  · refine ⟨H, 0, w, ?_, by simpa [u8s] using hown, Keep.refl _ _, .inl rfl⟩
    simp [Builtin.append_, run_underlying Try.underlying22, sizeOf, typeInfo, hi, Builtin.lenOf, go_sem]
  · obtain ⟨v', w', hr, h2, h3, h4, h5⟩ := run_append_own_at (P := Try.prog) w 0 22 ty 5 i0 (.int .u8 0) 1 1 Try.underlying22 hi hz0 hz1 hz2 rfl (by decide) (.slice (some ⟨H, 0, none⟩) 0 0) 0 [] hown a bs.length c (u8s bs) (by simp [u8s_length]) hc (u8s_one bs) (by unfold maxLen; omega) (by omega) (Nat.zero_le _)
    rw [Nat.zero_add, List.nil_append] at h2
    rcases h2.2 with ⟨rfl, _⟩ | ⟨g, cap, cur, rfl, hb, hg, hrest⟩
    · simp at h4
    · refine ⟨g, cap, w', hr, h2, (Keep.refl _ w).grown h3 (fun k e _ => by simpa [Value.ownBlock] using e.symm), ?_⟩
      rcases h5 with e | e
      · exact .inl (by simpa [Value.ownBlock] using e)
      · right
        have : g = w.heap.size := by simpa [Value.ownBlock] using e
        omega

theorem wpList_append_src {ops : Array Oper} {rest : List Oper} {o : Oper} {a : Act} {Q : Exit → Act → World → Prop} (w : World) (hgd : o.guard = none) (s x : Operand)
    (ho : o.op = .call { callee := .builtin .append, args := #[s, x], argTypes := #[22, 22] }) (H : Nat) (hH : w.heap[H]? = some (.cells #[] 5 (0, 0))) (hs : a.eval s = .slice (some ⟨H, 0, none⟩) 0 0) (sv : Value) (hx : a.eval x = sv)
    (bs : List Nat) (hlen : bs.length ≤ 140737488351232) (h : (sv = .slice none 0 0 ∧ bs = []) ∨ ∃ a cap, sv = .slice (some a) bs.length cap ∧ ∀ j u, (u8s bs)[j]? = some u → w.cell? (a.add j) = some u)
    (hk : ∀ g cap w', w'.ownsRow 0 5 1 (.slice (some ⟨g, 0, none⟩) bs.length cap) bs.length (u8s bs) → Keep (fun k => k = H) w w' → (g = H ∨ w.heap.size ≤ g) → wpList Try.prog ops Q rest (a.put o.dst (.slice (some ⟨g, 0, none⟩) bs.length cap)) w') : wpList Try.prog ops Q (o :: rest) a w := by
  obtain ⟨g, cap, w', hr, h2, h3, h4⟩ := run_append_src w o.type H hH sv bs hlen h
  refine wpList_plain hgd fun K hK => ?_
  unfold Oper.wp execOp
  simp only [ho, resolve, invoke, builtin, Sem.run_bind, Sem.run_pure, Result.andThen_ok, List.map_toArray, List.map_cons, List.map_nil, hs, hx, hr]
  exact hK _ _ (hk g cap w' h2 h3 h4)

set_option maxRecDepth 100000 in
set_option maxHeartbeats 2000000 in
theorem read_walk (a0 a1 : Option Addr) (cap0 len1 cap1 gb off b1 off1 : Nat) (bs : List Nat) (ns : List Int) (w : World)
    (hbs : ∀ j : Nat, bs[j]?.getD 0 < 256) (hlen : bs.length ≤ 140737488351232) (ha0 : a0 = some ⟨gb, off, none⟩ ∨ bs = []) (hcs : ∀ j, j < bs.length → w.cell? ⟨gb, off + j, none⟩ = some (.int .u8 ((bs[j]?.getD 0 : Nat) : Int)))
    (_hlen1 : len1 ≤ 140737488351232) (ha1 : a1 = some ⟨b1, off1, none⟩ ∨ len1 = 0) (hns : ∀ j, j < len1 → w.cell? ⟨b1, off1 + j, none⟩ = some (.int .i64 (ns[j]?.getD 0)))
    (hsrc : (Value.slice a0 bs.length cap0 = .slice none 0 0 ∧ bs = []) ∨ ∃ a cap, Value.slice a0 bs.length cap0 = .slice (some a) bs.length cap ∧ ∀ j u, (u8s bs)[j]? = some u → w.cell? (a.add j) = some u) :
    Calls Try.prog 3 #[.slice a0 bs.length cap0, .slice a1 len1 cap1] w fun e w' => e = .returned (.bool true) ∧ Keep noBlock w w' := by
  have hsrc2 : (Value.slice a0 bs.length cap0 = .slice none 0 0 ∧ bs = []) ∨ ∃ a cap, Value.slice a0 bs.length cap0 = .slice (some a) bs.length cap ∧ ∀ j u, (u8s bs)[j]? = some u → (w.alloc (.cells #[] 5)).cell? (a.add j) = some u :=
    hsrc.imp id (fun ⟨a, cap, e, h⟩ => ⟨a, cap, e, fun j u hu => (World.cell?_of_block (Below.heap_alloc _ _ _ (World.block_lt_of_cell? w _ (h j u hu)))).trans (h j u hu)⟩)
  have HS := (show Hid _ from hsrc2)
  have HC := (show Hid _ from hcs)
  have HN := (show Hid _ from hns)
  have HA := (show Hid _ from ha0)
  have HB := (show Hid _ from ha1)
  have HX := (show Hid _ from hbs)
  clear hsrc hsrc2 hcs hns ha0 ha1 hbs
  go_enter Try.func3, Try.ntmps3
  go_wp2_with (first | (at_builtin; refine wpList_append_src _ rfl _ _ rfl w.heap.size (World.alloc_heap_new w _) rfl (.slice a0 bs.length cap0) rfl bs hlen HS.out ?_; intro g0 cap w1 hown hK1 hg0) | fail)
  refine (new_any _ bs (by omega) HX.out _ (Src.of_owns hown)).mono ?_
  rintro e w2 ⟨rb, g, rfl, hrb, hg, hR, hK2⟩
  have hK0 : Keep noBlock w w1 := ((Keep.refl _ w).alloc _).trans hK1 (fun i hi e => by omega)
  have hsz1 := hK1.size
  rw [World.size_alloc] at hsz1
  have hg0lt : g0 < w1.heap.size := (hown.lt g0 rfl).2
  have hg0w : w.heap.size ≤ g0 := by
    rcases hg0 with e | e
    · omega
    · rw [World.size_alloc] at e; omega
  have hown2 : (w2.alloc (.cells #[.slice a0 bs.length cap0, .int .i64 0] 28)).ownsRow 0 5 1 (.slice (some ⟨g0, 0, none⟩) bs.length cap) bs.length (u8s bs) := (owns_keep hown hK2 (fun _ _ h => h)).alloc _
  have hR2 : IsR (w2.alloc (.cells #[.slice a0 bs.length cap0, .int .i64 0] 28)) rb g bs 0 := hR.keep ((Keep.refl noBlock _).alloc _) (fun h => h) (fun _ h => h)
  have hK3 : Keep noBlock w (w2.alloc (.cells #[.slice a0 bs.length cap0, .int .i64 0] 28)) := (hK0.trans' hK2).alloc _
  have hgb : bs ≠ [] → gb < w.heap.size := fun hb => World.block_lt_of_cell? w ⟨gb, off + 0, none⟩ (HC.out 0 (List.length_pos_iff.2 hb))
  have hQ2 : IsQ (w2.alloc (.cells #[.slice a0 bs.length cap0, .int .i64 0] 28)) w2.heap.size gb off bs 0 :=
    ⟨⟨a0, cap0, HA.out, World.alloc_heap_new w2 _⟩, fun j hj => (World.cell?_of_block (hK3.block gb (hgb (by rintro rfl; simp at hj)) (fun h => h))).trans (HC.out j hj), by omega, HX.out, Nat.zero_le _⟩
  have hrb2 : rb < w2.heap.size := by obtain ⟨_, _, _, ho⟩ := hR.obj; exact obj_lt ho
  have hg2 : g < w2.heap.size := hR.lt
  have hw12 := hK2.size
  go_wp2_with fail
  generalize w2.alloc (.cells #[.slice a0 bs.length cap0, .int .i64 0] 28) = W3 at hown2 hR2 hK3 hQ2 ⊢
  have HG := (show Hid _ from hgb)
  clear hown hR hK0 hK1 hK2 hsz1 hgb hg0
  generalize w2.heap.size = qb at *
  go_loopw [25] (fun i wr => ∃ (k : Nat) (cs : List Nat), k ≤ bs.length ∧ i = .int .i64 k ∧ cs.length = bs.length ∧ (∀ j : Nat, cs[j]?.getD 0 < 256) ∧ wr.ownsRow 0 5 1 (.slice (some ⟨g0, 0, none⟩) bs.length cap) bs.length (u8s cs) ∧ IsR wr rb g bs 0 ∧ IsQ wr qb gb off bs 0 ∧ Keep noBlock w wr)
    (fun i _ => bs.length - (intOf i).toNat)
  case atStart => exact ⟨0, bs, Nat.zero_le _, rfl, rfl, HX.out, hown2, hR2, hQ2, hK3⟩
  case round =>
    obtain ⟨k, cs, hk, rfl, hcl, hc256, hro, hRr, hQr, hKr⟩ := hrel
    by_cases hlt : k < bs.length
    · have hck : wr.cell? ⟨g0, k, none⟩ = some (.int .u8 ((cs[k]?.getD 0 : Nat) : Int)) := by
        have := hro.cells (g := g0) rfl k _ (u8s_at cs k (by omega))
        rwa [add0] at this
      have hfk : wr.frozen? ⟨g0, k, none⟩ = false := by
        rcases hro.2 with ⟨e, _⟩ | ⟨g', cap', cur, e, _, hg', _⟩
        · cases e
        · simp only [Value.slice.injEq, Option.some.injEq, Addr.mk.injEq] at e
          obtain ⟨⟨rfl, _⟩, _, rfl⟩ := e
          exact frozen_of hg' _
      have hcc := hc256 k
      have HCC := (show Hid _ from hc256)
      have HCL := (show Hid _ from hcl)
      clear hc256 hcl
      generalize cs[k]?.getD 0 = c at hck hcc
      have hxo := xor_u8 c hcc
      go_wp2
      go_roundw
      case rel =>
        have hks : Keep (fun j => j = g0) wr (wr.setCell ⟨g0, k, none⟩ (.int .u8 ((c ^^^ 255 : Nat) : Int))) := Keep.setCell (S := fun j => j = g0) (p := ⟨g0, k, none⟩) (Keep.refl _ wr) (fun _ => rfl) _
        refine ⟨k + 1, cs.set k (c ^^^ 255), by omega, by go_num, by rw [List.length_set]; exact HCL.out, set_lt cs HCC.out k _ (xor_lt c hcc), owns_set hro k _, hRr.keep hks (by omega) (fun _ => by omega), hQr.keep hks (by omega) (fun hb => ?_), hKr.trans hks (fun i hi e => by omega)⟩
        have := HG.out hb; omega
      case measure => simp [intOf]; omega
    · obtain rfl : k = bs.length := by omega
      clear hro hc256 hcl hown2 hR2 hQ2 hK3
      go_wp2
      go_loopw [37] (fun i wv => ∃ (k p : Nat), k ≤ len1 ∧ i = .int .i64 k ∧ IsR wv rb g bs p ∧ IsQ wv qb gb off bs p ∧ Keep noBlock w wv) (fun i _ => len1 - (intOf i).toNat)
      case atStart => exact ⟨0, 0, Nat.zero_le _, rfl, hRr, hQr, hKr⟩
      case round =>
        clear hRr hQr hKr
        obtain ⟨k, p, hk1, rfl, hRv, hQv, hKv⟩ := hrel
        have hgqb : bs ≠ [] → gb ≠ qb := fun hb => by have := HG.out hb; omega
        have hgrb : bs ≠ [] → gb ≠ rb := fun hb => by have := HG.out hb; omega
        have HGQ := (show Hid _ from hgqb)
        have HGR := (show Hid _ from hgrb)
        clear hgqb hgrb
        by_cases hlt1 : k < len1
        · by_cases h300 : k < 300
          · have hcn : wr.cell? ⟨b1, off1 + k, none⟩ = some (.int .i64 (ns[k]?.getD 0)) :=
              (World.cell?_of_block (hKv.block b1 (World.block_lt_of_cell? w ⟨b1, off1 + k, none⟩ (HN.out k hlt1)) (fun h => h))).trans (HN.out k hlt1)
            obtain rfl : a1 = some ⟨b1, off1, none⟩ := HB.out.elim id (fun e => by omega)
            generalize ns[k]?.getD 0 = n at hcn
            by_cases hn : n < -100
            · go_wp2_with fail
              refine (alignR_any rb g bs p _ hRv).mono ?_
              rintro e wA ⟨rfl, hRA, hKA⟩
              have hQA := hQv.keep hKA (by omega) HGR.out
              have hKwA : Keep noBlock w wA := hKv.trans hKA (fun i hi e => by omega)
              clear hRv hQv hKv hcn hKA
              go_wp2_with fail
              refine (alignQ_any qb gb off bs p _ hQA HGQ.out).mono ?_
              rintro e wB ⟨rfl, hQB, hKB⟩
              have hRB := hRA.keep hKB (by omega) (fun _ => by omega)
              have hKwB : Keep noBlock w wB := hKwA.trans hKB (fun i hi e => by omega)
              clear hRA hQA hKwA hKB
              generalize numAt bs p ((8 - p % 8) % 8) = r
              generalize p + (8 - p % 8) % 8 = p' at hQB hRB
              go_wp2_with fail
              refine (left_any rb g bs p' _ hRB).mono ?_
              rintro e wC ⟨rfl, nq, rfl⟩
              go_wp2_with fail
              refine (leftQ_any qb gb off bs p' _ (hQB.drewN nq)).mono ?_
              rintro e wD ⟨rfl, nr, rfl⟩
              go_wp2_with fail
              go_roundw
              case rel => exact ⟨k + 1, p', by omega, by go_num, hRB.drewN _, hQB.drewN _, hKwB.trans' (keep_drewN _ _)⟩
              case measure => simp [intOf]; omega
            · go_wp2_with fail
              refine (bits_any rb g bs p n _ hRv).mono ?_
              rintro e wA ⟨rfl, hRA, hKA⟩
              have hQA := hQv.keep hKA (by omega) HGR.out
              have hKwA : Keep noBlock w wA := hKv.trans hKA (fun i hi e => by omega)
              clear hRv hQv hKv hcn hKA
              go_wp2_with fail
              refine (bitsQ_any qb gb off bs p n _ hQA HGQ.out).mono ?_
              rintro e wB ⟨rfl, hQB, hKB⟩
              have hRB := hRA.keep hKB (by omega) (fun _ => by omega)
              have hKwB : Keep noBlock w wB := hKwA.trans hKB (fun i hi e => by omega)
              clear hRA hQA hKwA hKB
              generalize bitsAns bs p n = r at hQB hRB ⊢
              obtain ⟨r1, r2, p'⟩ := r
              dsimp only at hQB hRB ⊢
              go_wp2_with fail
              refine (left_any rb g bs p' _ hRB).mono ?_
              rintro e wC ⟨rfl, nq, rfl⟩
              go_wp2_with fail
              refine (leftQ_any qb gb off bs p' _ (hQB.drewN nq)).mono ?_
              rintro e wD ⟨rfl, nr, rfl⟩
              go_wp2_with fail
              go_roundw
              case rel => exact ⟨k + 1, p', by omega, by go_num, hRB.drewN _, hQB.drewN _, hKwB.trans' (keep_drewN _ _)⟩
              case measure => simp [intOf]; omega
          · have hcn : wr.cell? ⟨b1, off1 + k, none⟩ = some (.int .i64 (ns[k]?.getD 0)) :=
              (World.cell?_of_block (hKv.block b1 (World.block_lt_of_cell? w ⟨b1, off1 + k, none⟩ (HN.out k hlt1)) (fun h => h))).trans (HN.out k hlt1)
            obtain rfl : a1 = some ⟨b1, off1, none⟩ := HB.out.elim id (fun e => by omega)
            clear hRv hQv
            go_wp2_with fail
            refine (wakes_any _).mono ?_
            rintro e wA ⟨rfl, hKA⟩
            go_wp2_with fail
            go_ret
            exact ⟨rfl, hKv.trans' hKA⟩
        · clear hRv hQv
          go_wp2_with fail
          refine (wakes_any _).mono ?_
          rintro e wA ⟨rfl, hKA⟩
          go_wp2_with fail
          go_ret
          exact ⟨rfl, hKv.trans' hKA⟩

end Go.Proofs.Ytajhobjjkcnomaa
