/-
  Read: the symbol whose word comes next.
-/
import Derived.Test.YtapcohpagipkpaaReadS
namespace Go.Proofs.Ytapcohpagipkpaa
open Go.RowKit Go.Shelf

attribute [local go_sem] Oper.semAt_some

set_option maxRecDepth 100000 in
set_option maxHeartbeats 4000000 in
/-- Read, where the lengths make no code. -/
theorem read_bad (rb : Nat) (a : Option Addr) (cap gb off : Nat) (xs : List Nat) (w : World) (hR : Row w .u8 a cap gb off xs) (hl : xs.length ≤ 1024) (hbad : isCode xs = false) :
    Calls Try.prog 16 #[.pointer (some ⟨rb, 0, none⟩), .slice a xs.length cap] w fun e w' => e = .returned (.tuple #[.int .i64 0, .int .i64 50]) ∧ Keep noBlock w w' := by
  have hk0 : Keep noBlock w ((w.alloc (Obj.cells #[Value.pointer (some ⟨rb, 0, none⟩)] 38)).alloc (Obj.cells #[Value.slice a xs.length cap] 22)) := ((Keep.refl _ w).alloc _).alloc _
  have hT := tally_any a cap gb off xs _ (hR.keep hk0 (fun _ h => h)) hl
  rw [hbad] at hT
  have HT := (show Hid (∀ u : Unit, Calls Try.prog 26 _ _ _) from fun _ => hT)
  have HK := (show Hid (Keep noBlock w _) from hk0)
  clear hT hk0 hR
  refine (callsIn_wide (n := 4)).1 ?_
  refine callsIn_of_wp_marks Try.func16 rfl trivial ?_ rfl
  simp only [Try.ntmps16, List.size_toArray, List.length_cons, List.length_nil, Nat.reduceAdd, Nat.reduceSub, Array.replicate_succ, Array.replicate_zero, List.push_toArray, List.append_toArray, List.nil_append, List.cons_append]
  gi_wp2
  refine scope_wide ?_
  gi_wp2_with (refine ⟨trivial, ?_⟩; gi_at_call 26; refine (callsIn_wide.2 (HT.out ())).mono ?_; rintro e w1 ⟨c, rfl, -, hk⟩; rw [arr16_lit c])
  exact ⟨_, results_tmp2 rfl _ _ _, rfl, (HK.out.trans' hk).alloc _⟩

set_option maxRecDepth 100000 in
set_option maxHeartbeats 4000000 in
/-- Read, where the lengths make a code. -/
theorem read_good (rb g p : Nat) (bs : List Nat) (a : Option Addr) (cap gb off : Nat) (xs : List Nat) (w : World) (hI : IsR w rb g bs p) (hgr : bs ≠ [] → g ≠ rb) (hrow : xs ≠ [] → gb ≠ rb) (hR : Row w .u8 a cap gb off xs) (hl : xs.length ≤ 1024) (hgood : isCode xs = true) :
    Calls Try.prog 16 #[.pointer (some ⟨rb, 0, none⟩), .slice a xs.length cap] w fun e w' => ∃ l, IsWord (many xs) (fun i => bitAt bs (p + i)) l ∧ Keep (fun k => k = rb) w w' ∧
      ((p + l ≤ 8 * bs.length ∧ (∃ sym, (symsOf xs l)[valF (fun i => bitAt bs (p + i)) l - nextF (many xs) l]? = some sym ∧ e = .returned (.tuple #[.int .i64 (sym : Int), .int .i64 0])) ∧ IsR w' rb g bs (p + l)) ∨
       (8 * bs.length < p + l ∧ e = .returned (.tuple #[.int .i64 0, .int .i64 10]) ∧ IsR w' rb g bs (8 * bs.length))) := by
  have hk0 : Keep noBlock w ((w.alloc (Obj.cells #[Value.pointer (some ⟨rb, 0, none⟩)] 38)).alloc (Obj.cells #[Value.slice a xs.length cap] 22)) := ((Keep.refl _ w).alloc _).alloc _
  have hT := tally_any a cap gb off xs _ (hR.keep hk0 (fun _ h => h)) hl
  rw [hgood] at hT
  have HT := (show Hid (∀ u : Unit, Calls Try.prog 26 _ _ _) from fun _ => hT)
  have hb1 : ((w.alloc (Obj.cells #[Value.pointer (some ⟨rb, 0, none⟩)] 38)).alloc (Obj.cells #[Value.slice a xs.length cap] 22)).heap[w.heap.size]? = some (.cells #[Value.pointer (some ⟨rb, 0, none⟩)] 38 (0, 0)) := alloc_far (World.alloc_heap_new w _) _
  have hb2 : ((w.alloc (Obj.cells #[Value.pointer (some ⟨rb, 0, none⟩)] 38)).alloc (Obj.cells #[Value.slice a xs.length cap] 22)).heap[w.heap.size + 1]? = some (.cells #[Value.slice a xs.length cap] 22 (0, 0)) := by
    have := World.alloc_heap_new (w.alloc (Obj.cells #[Value.pointer (some ⟨rb, 0, none⟩)] 38)) (Obj.cells #[Value.slice a xs.length cap] 22)
    rwa [World.size_alloc] at this
  have hbz : ((w.alloc (Obj.cells #[Value.pointer (some ⟨rb, 0, none⟩)] 38)).alloc (Obj.cells #[Value.slice a xs.length cap] 22)).heap.size = w.heap.size + 2 := by rw [World.size_alloc, World.size_alloc]
  have H0 := (show Hid (Keep noBlock w _ ∧ _ ∧ _ ∧ _) from ⟨hk0, hb1, hb2, hbz⟩)
  have HR := (show Hid (Row w .u8 a cap gb off xs ∧ IsR w rb g bs p ∧ (bs ≠ [] → g ≠ rb) ∧ (xs ≠ [] → gb ≠ rb)) from ⟨hR, hI, hgr, hrow⟩)
  clear hT hk0 hR hb1 hb2 hbz hI hgr hrow
  refine (callsIn_wide (n := 4)).1 ?_
  refine callsIn_of_wp_marks Try.func16 rfl trivial ?_ rfl
  simp only [Try.ntmps16, List.size_toArray, List.length_cons, List.length_nil, Nat.reduceAdd, Nat.reduceSub, Array.replicate_succ, Array.replicate_zero, List.push_toArray, List.append_toArray, List.nil_append, List.cons_append]
  gi_wp2
  refine scope_wide ?_
  gi_wp2_with (refine ⟨trivial, ?_⟩; gi_at_call 26; refine (callsIn_wide.2 (HT.out ())).mono ?_; rintro e w1 ⟨c, rfl, hc, hk⟩; obtain rfl : c = many xs := (by first | exact hc rfl | exact hc trivial); rw [arr16_lit (many xs)])
  refine wpIn_label ?_
  rw [← arr16_lit (many xs)]
  obtain ⟨b0, b1, b2, b3, b4, bz, bk⟩ := boxes5 w1 (Obj.cells (arr16 (many xs)) 63) (Obj.cells #[Value.int IntKind.i64 0] 3) (Obj.cells #[Value.int IntKind.i64 0] 3) (Obj.cells #[Value.int IntKind.i64 0] 3) (Obj.cells #[Value.int IntKind.i64 0] 25)
  generalize ((((w1.alloc (Obj.cells (arr16 (many xs)) 63)).alloc (Obj.cells #[Value.int IntKind.i64 0] 3)).alloc (Obj.cells #[Value.int IntKind.i64 0] 3)).alloc (Obj.cells #[Value.int IntKind.i64 0] 3)).alloc (Obj.cells #[Value.int IntKind.i64 0] 25) = W2 at b0 b1 b2 b3 b4 bz bk ⊢
  obtain ⟨h1, h2, h3, h4⟩ := H0.out
  have hs1 := hk.size
  rw [h4] at hs1
  have hkw2 : Keep noBlock w W2 := (h1.trans' hk).trans' bk
  have hr2 := (hk.trans' bk).obj h2 (fun h => h)
  have hl2 := (hk.trans' bk).obj h3 (fun h => h)
  obtain ⟨mb, hmb⟩ : ∃ mb, mb = w1.heap.size := ⟨_, rfl⟩
  obtain ⟨b, hb⟩ : ∃ b, b = w.heap.size := ⟨_, rfl⟩
  rw [← hmb] at b0 b1 b2 b3 b4 bz hs1 ⊢
  rw [← hb] at hr2 hl2 hs1 ⊢
  have hRS : RS xs bs w W2 rb g p a cap gb off b mb 0 := ⟨hr2, hl2, b1, b2, b3, b4, HR.out.2.1.keep hkw2 (fun h => h) (fun _ h => h), HR.out.1.keep hkw2 (fun _ h => h), hkw2.mono (fun _ _ h => h.elim)⟩
  have HS := (show Hid (RS xs bs w W2 rb g p a cap gb off b mb 0 ∧ b = w.heap.size ∧ b + 2 ≤ mb ∧ W2.heap.size = mb + 5) from ⟨hRS, hb, by omega, bz⟩)
  have k0 := cells16 b0 0 (by omega)
  have k1 := cells16 b0 1 (by omega)
  have k2 := cells16 b0 2 (by omega)
  have k3 := cells16 b0 3 (by omega)
  have k4 := cells16 b0 4 (by omega)
  have k5 := cells16 b0 5 (by omega)
  have k6 := cells16 b0 6 (by omega)
  have k7 := cells16 b0 7 (by omega)
  have k8 := cells16 b0 8 (by omega)
  have k9 := cells16 b0 9 (by omega)
  have k10 := cells16 b0 10 (by omega)
  have k11 := cells16 b0 11 (by omega)
  have k12 := cells16 b0 12 (by omega)
  have k13 := cells16 b0 13 (by omega)
  have k14 := cells16 b0 14 (by omega)
  have k15 := cells16 b0 15 (by omega)
  clear hRS hr2 hl2 b1 b2 b3 b4 bk h1 h2 h3 h4 hkw2 hk hmb hb HT H0 hs1
  gi_wp2_with fail
  rw [← arr16_lit (many xs)]
  refine ⟨trivial, (runs_in Fence.wide 3 trivial rfl (many xs) _).mono ?_⟩
  rintro e w4 ⟨rfl, rfl⟩
  clear k0 k1 k2 k3 k4 k5 k6 k7 k8 k9 k10 k11 k12 k13 k14 k15 b0
  have hmle : ∀ l, many xs l ≤ 1024 := fun l => by
    unfold many
    split
    · omega
    · exact Nat.le_trans List.count_le_length hl
  have bx4 := World.alloc_heap_new W2 (Obj.cells (arr16 (many xs)) 63)
  have hRS4 := HS.out.1.alloc (Obj.cells (arr16 (many xs)) 63)
  have hz4 : (W2.alloc (Obj.cells (arr16 (many xs)) 63)).heap.size = mb + 6 := by rw [World.size_alloc, HS.out.2.2.2]
  rw [HS.out.2.2.2] at bx4 ⊢
  have HB := (show Hid (b = w.heap.size ∧ b + 2 ≤ mb) from ⟨HS.out.2.1, HS.out.2.2.1⟩)
  generalize W2.alloc (Obj.cells (arr16 (many xs)) 63) = W4 at bx4 hRS4 hz4 ⊢
  have HZ := (show Hid (W4.heap.size = mb + 6 ∧ Lay xs bs w rb g gb b mb) from ⟨hz4, ⟨by obtain ⟨sa, c, _, ho⟩ := HR.out.2.1.obj; exact obj_lt ho, HR.out.2.1.lt, HR.out.1.block, HR.out.2.2.1, HR.out.2.2.2, HB.out.1, HB.out.2⟩⟩)
  clear HS bz hz4
  gi_wp2
  refine range_runs (by omega) (mb + 5) (many xs) hmle rfl bx4 rfl
    (fun k V => (∃ h, h ≤ k ∧ RS xs bs w V rb g p a cap gb off b mb h) ∧ Hid (∀ l, l < k → 0 < many xs l → nextF (many xs) l + many xs l ≤ valF (fun i => bitAt bs (p + i)) l) ∧ mb + 6 ≤ V.heap.size)
    (fun j V => j = .exit 0 ∧ mb + 6 ≤ V.heap.size ∧ ∃ l, IsWord (many xs) (fun i => bitAt bs (p + i)) l ∧ Keep (fun k => k = rb) w V ∧
      ((p + l ≤ 8 * bs.length ∧ (∃ sym, (symsOf xs l)[valF (fun i => bitAt bs (p + i)) l - nextF (many xs) l]? = some sym ∧ V.heap[mb + 1 + 1 + 1]? = some (.cells #[.int .i64 (sym : Int)] 3 (0, 0)) ∧ V.heap[mb + 1 + 1 + 1 + 1]? = some (.cells #[.int .i64 0] 25 (0, 0))) ∧ IsR V rb g bs (p + l)) ∨
       (8 * bs.length < p + l ∧ (V.heap[mb + 1 + 1 + 1]? = some (.cells #[.int .i64 0] 3 (0, 0)) ∧ V.heap[mb + 1 + 1 + 1 + 1]? = some (.cells #[.int .i64 10] 25 (0, 0))) ∧ IsR V rb g bs (8 * bs.length))))
    (fun k a' V => ∃ ub, mb + 6 ≤ ub ∧ V.heap[ub]? = some (.cells #[.int .i64 (k : Int), .int .i64 ((nextF (many xs) k : Nat) : Int), .int .i64 ((many xs k : Nat) : Int)] 71 (0, 0)) ∧
      a' = { tmps := #[.pointer (some ⟨rb, 0, none⟩), .slice a xs.length cap, .pointer (some ⟨b, 0, none⟩), .pointer (some ⟨b + 1, 0, none⟩), .int .i64 0, .int .i64 0, .pointer (some ⟨mb, 0, none⟩), .bool true, .pointer (some ⟨mb + 1, 0, none⟩), .pointer (some ⟨mb + 1 + 1, 0, none⟩), .pointer (some ⟨mb + 1 + 1 + 1, 0, none⟩), .pointer (some ⟨mb + 1 + 1 + 1 + 1, 0, none⟩), .pointer (some ⟨ub, 0, none⟩), undef, undef,
        .pointer (some ⟨rb, 0, none⟩), .bool false, .tuple #[.agg (arr16 (many xs)), .bool true], .slice a xs.length cap, .tuple #[.agg (arr16 (many xs)), .bool true], .agg (arr16 (many xs)), .bool true, .bool true, .bool false, .agg (arr16 (many xs)), .func (.func 45) #[] #[.pointer (some ⟨mb + 5, 0, none⟩)], runV (many xs) k, undef, undef, undef, undef, undef, undef, undef, undef, undef, undef, undef, undef, undef, undef, undef, undef, undef, undef, undef, undef, undef, undef, undef, undef, undef, undef, undef, undef, undef, undef, undef, undef, undef, undef], defers := [] })
    (fun k V V' row hs hgr hr => ?own1) (fun j V V' row hs hgr hr => ?own2)
    (fun k a' _ V V' row hs hgr hr => by
      obtain ⟨ub, q1, q2, q3⟩ := hs
      exact ⟨ub, q1, own_obj hgr (fun r e => (hr r e).2) q2 rfl, q3⟩)
    ⟨⟨0, Nat.le_refl _, hRS4⟩, fun l hl => by omega, by rw [HZ.out.1]; exact Nat.le_refl _⟩ ?skip ?assign ?body ?done ?stop
  case own1 =>
    obtain ⟨⟨h, e1, e3⟩, e4, e5⟩ := hs
    exact ⟨⟨h, e1, e3.own (by have := HB.out; rw [HZ.out.1]; omega) hgr hr⟩, e4, Nat.le_trans e5 hgr.size⟩
  case own2 =>
    obtain ⟨e0, e1, l, e2, e3, e4⟩ := hs
    have hr' : ∀ r, row = some r → ∃ o : Obj, V.heap[r]? = some o ∧ o.isCells = false := fun r e => (hr r e).2
    refine ⟨e0, Nat.le_trans e1 hgr.size, l, e2, e3.grown hgr (fun r e hk => by have h1 := (hr r e).1; have := HB.out; rw [HZ.out.1] at h1; omega), ?_⟩
    rcases e4 with ⟨q1, ⟨sym, q2, q3, q4⟩, q5⟩ | ⟨q1, ⟨q2, q3⟩, q4⟩
    · exact .inl ⟨q1, ⟨sym, q2, own_obj hgr hr' q3 rfl, own_obj hgr hr' q4 rfl⟩, q5.own hgr hr'⟩
    · exact .inr ⟨q1, ⟨own_obj hgr hr' q2 rfl, own_obj hgr hr' q3 rfl⟩, q4.own hgr hr'⟩
  case skip =>
    rintro k V hk h0 ⟨⟨h, e1, e3⟩, e4, e5⟩
    refine ⟨⟨h, by omega, e3⟩, fun l hl hp => ?_, e5⟩
    by_cases e : l = k
    · rw [e, h0] at hp; omega
    · exact e4.out l (by omega) hp
  case assign =>
    rintro k V K hk hck ⟨⟨h, e1, e3⟩, e4, e5⟩ hK
    unfold runV
    gi_wp2
    exact hK _ _ ⟨by simp, fun k' o _ ho _ => alloc_far ho _⟩ ⟨⟨h, e1, e3.alloc _⟩, e4, by rw [World.size_alloc]; omega⟩ ⟨V.heap.size, e5, World.alloc_heap_new V _, rfl⟩
  case body =>
    rintro k a' V hk hck ⟨⟨h0, e1, hRS⟩, HF, hsz⟩ ⟨ub, hub, hob, rfl⟩
    have hk0 : k ≠ 0 := by rintro rfl; simp [many] at hck
    obtain ⟨nk, hnk⟩ : ∃ nk, nk = nextF (many xs) k := ⟨_, rfl⟩
    obtain ⟨mk, hmk⟩ : ∃ mk, mk = many xs k := ⟨_, rfl⟩
    rw [← hnk, ← hmk] at hob
    have hnl := nextF_lt (many xs) hmle k (by omega)
    have hml := hmle k
    rw [← hnk] at hnl
    rw [← hmk] at hml
    have HN := (show Hid (nk = nextF (many xs) k ∧ mk = many xs k ∧ 0 < many xs k ∧ k ≠ 0) from ⟨hnk, hmk, hck, hk0⟩)
    unfold runV
    rw [← hnk, ← hmk]
    clear hnk hmk hck bx4 hRS4
    gi_wp2
    gi_loopw [] (fun wr => ∃ h, h ≤ k ∧ RS xs bs w wr rb g p a cap gb off b mb h ∧ wr.heap[ub]? = some (.cells #[.int .i64 (k : Int), .int .i64 (nk : Int), .int .i64 (mk : Int)] 71 (0, 0)) ∧ KeepsFrom W4.heap.size V wr ∧ mb + 6 ≤ wr.heap.size) (fun wr => k - heldI wr (mb + 1 + 1))
    case atStart => exact ⟨h0, e1, hRS, hob, KeepsFrom.refl _ _, hsz⟩
    case round =>
      clear hRS hob hsz e1
      obtain ⟨h, hhk, hRS, hob, hkf, hsz⟩ := hrel
      have c1 := cell_of hRS.hbox 0
      have z1 := frozen_of hRS.hbox 0
      have u0 := cell_of hob 0
      have u1 := cell_of hob 1
      have u2 := cell_of hob 2
      have r0 := cell_of hRS.rbox 0
      have cw := cell_of hRS.wbox 0
      have zw := frozen_of hRS.wbox 0
      have ce := cell_of hRS.ebox 0
      have ze := frozen_of hRS.ebox 0
      simp at c1 u0 u1 u2 r0 cw ce
      by_cases hlt : h < k
      · have hbt := bits_any rb g bs (p + h) 1 wr hRS.rd
        have hin := hRS.rd.in_
        by_cases hav : p + h + 1 ≤ 8 * bs.length
        · rw [bit_one bs (p + h) hav] at hbt
          have hvl := valF_lt (fun i => bitAt bs (p + i)) (fun i => bitAt_lt bs _) h
          have hv15 : valF (fun i => bitAt bs (p + i)) h < 32768 := Nat.lt_of_lt_of_le hvl (Nat.le_trans (Nat.pow_le_pow_right (by omega) (show h ≤ 15 by omega)) (by decide))
          have hbl := bitAt_lt bs (p + h)
          have hor := shl_or_bit (valF (fun i => bitAt bs (p + i)) h) (bitAt bs (p + h)) hv15 hbl
          have hvn : valF (fun i => bitAt bs (p + i)) (h + 1) = 2 * valF (fun i => bitAt bs (p + i)) h + bitAt bs (p + h) := rfl
          rw [← hvn] at hor
          obtain ⟨v2, hv2⟩ : ∃ v, v = valF (fun i => bitAt bs (p + i)) (h + 1) := ⟨_, rfl⟩
          obtain ⟨v, hv⟩ : ∃ v, v = valF (fun i => bitAt bs (p + i)) h := ⟨_, rfl⟩
          obtain ⟨bt, hbt2⟩ : ∃ bt, bt = bitAt bs (p + h) := ⟨_, rfl⟩
          rw [← hv2, ← hv, ← hbt2] at hor
          rw [← hv] at cw hv15
          rw [← hbt2] at hbt hbl
          have HBT := (show Hid (∀ u : Unit, Calls Try.prog 35 _ wr _) from fun _ => hbt)
          have HE := (show Hid (RS xs bs w wr rb g p a cap gb off b mb h ∧ KeepsFrom W4.heap.size V wr ∧ v2 = valF (fun i => bitAt bs (p + i)) (h + 1) ∧ v = valF (fun i => bitAt bs (p + i)) h ∧ wr.heap[ub]? = some (.cells #[.int .i64 (k : Int), .int .i64 (nk : Int), .int .i64 (mk : Int)] 71 (0, 0))) from ⟨hRS, hkf, hv2, hv, hob⟩)
          clear hbt hRS hkf hv2 hv hbt2 hvn hvl hob
          gi_wp2_with (refine ⟨trivial, ?_⟩; gi_at_call 35; refine (CallsIn.inRound _ (callsIn_wide.2 (HBT.out ()))).mono ?_; rintro e w1 ⟨rfl, hI1, hk1⟩; obtain ⟨q1, q2, q3, q4, q5, q6, q7, q8⟩ := HE.out.1.after HZ.out.2 hk1; rw [← HE.out.2.2.2.1] at q3; have n1 := cell_of q3 0; have n2 := frozen_of q3 0; have n3 := cell_of q4 0; have n4 := frozen_of q4 0; have n5 := cell_of q6 0; have n6 := frozen_of q6 0; simp at n1 n3 n5; have HQ := (show Hid (IsR w1 rb g bs (p + h + 1) ∧ Keep (fun x => x = rb) wr w1) from ⟨hI1, hk1⟩); clear q1 q2 q3 q4 q5 q6 q7 q8 hI1 hk1)
          go_roundw
          case rel =>
            obtain ⟨r1, r2, r3, r4, r5⟩ := HE.out
            obtain ⟨s1, s2⟩ := HQ.out
            have hnx := r1.next HZ.out.2 s2 s1
            rw [← r3] at hnx
            have hL := HZ.out.2
            have l1 := hL.f1
            have l6 := hL.f6
            have l7 := hL.f7
            exact ⟨h + 1, by omega, hnx, set_far (set_far (set_far (s2.obj r5 (by omega)) (by omega) _ _) (by omega) _ _) (by omega) _ _, keeps_set _ (keeps_set _ (keeps_set _ (keeps_trans _ r2 (r1.keeps _ s2)) _ _) _ _) _ _, by rw [World.size_setCell, World.size_setCell, World.size_setCell]; exact Nat.le_trans hsz s2.size⟩
          case measure =>
            obtain ⟨r1, r2, r3, r4, r5⟩ := HE.out
            obtain ⟨s1, s2⟩ := HQ.out
            have hnx := r1.next HZ.out.2 s2 s1
            rw [← r3] at hnx
            rw [heldI_of r1.hbox, heldI_of hnx.hbox]
            omega
        · rw [bit_none bs (p + h) (by omega)] at hbt
          have HBT := (show Hid (∀ u : Unit, Calls Try.prog 35 _ wr _) from fun _ => hbt)
          have HE := (show Hid (RS xs bs w wr rb g p a cap gb off b mb h ∧ KeepsFrom W4.heap.size V wr) from ⟨hRS, hkf⟩)
          clear hbt hRS hkf hob
          gi_wp2_with (refine ⟨trivial, ?_⟩; gi_at_call 35; refine (CallsIn.inRound _ (callsIn_wide.2 (HBT.out ()))).mono ?_; rintro e w1 ⟨rfl, hI1, hk1⟩; obtain ⟨q1, q2, q3, q4, q5, q6, q7, q8⟩ := HE.out.1.after HZ.out.2 hk1; have n5 := cell_of q6 0; have n6 := frozen_of q6 0; simp at n5; have HQ := (show Hid (IsR w1 rb g bs (p + h) ∧ Keep (fun x => x = rb) wr w1 ∧ w1.heap[mb + 1 + 1 + 1]? = some (.cells #[.int .i64 0] 3 (0, 0)) ∧ w1.heap[mb + 1 + 1 + 1 + 1]? = some (.cells #[.int .i64 0] 25 (0, 0)) ∧ Keep (fun k => k = rb) w w1) from ⟨hI1, hk1, q5, q6, q8⟩); clear q1 q2 q3 q4 q5 q6 q7 q8 hI1 hk1)
          obtain ⟨r1, r2⟩ := HE.out
          obtain ⟨s1, s2, s3, s4, s5⟩ := HQ.out
          obtain ⟨l, hw⟩ := exists_word xs bs p hgood
          have hL := HZ.out.2
          have l1 := hL.f1
          have l2 := hL.f2
          have l6 := hL.f6
          have l7 := hL.f7
          have hlk : ¬ l < k := fun hlk => by
            have h1 := HF.out l hlk (by have := hw.lt; have := hw.ge; omega)
            have := hw.lt
            omega
          have hkk : Keep (fun x => x = mb + 1 + 1 + 1 + 1) w1 (w1.setCell ⟨mb + 1 + 1 + 1 + 1, 0, none⟩ (.int .i64 10)) := Keep.setCell (S := fun x => x = mb + 1 + 1 + 1 + 1) (p := ⟨mb + 1 + 1 + 1 + 1, 0, none⟩) (Keep.refl _ w1) (fun _ => rfl) _
          have hpe : p + h = 8 * bs.length := by omega
          rw [hpe] at s1
          refine ⟨keeps_set _ (keeps_trans _ r2 (r1.keeps _ s2)) _ _, rfl, by rw [World.size_setCell]; exact Nat.le_trans hsz s2.size, l, hw, s5.trans hkk (fun i hi e => by omega), .inr ⟨by omega, ⟨set_far s3 (by omega) _ _, (set_obj s4 0 _).trans (by simp)⟩, s1.keep hkk (by omega) (fun _ => by omega)⟩⟩
      · obtain rfl : h = k := by omega
        have hvg := val_ge (many xs) (fun i => bitAt bs (p + i)) h HF.out h (Nat.le_refl _)
        rw [← HN.out.1] at hvg
        have hvl := valF_lt (fun i => bitAt bs (p + i)) (fun i => bitAt_lt bs _) h
        have hv15 : valF (fun i => bitAt bs (p + i)) h < 65536 := Nat.lt_of_lt_of_le hvl (Nat.le_trans (Nat.pow_le_pow_right (by omega) (show h ≤ 16 by omega)) (by decide))
        obtain ⟨v, hv⟩ : ∃ v, v = valF (fun i => bitAt bs (p + i)) h := ⟨_, rfl⟩
        rw [← hv] at cw hvg hv15
        by_cases hfd : v < nk + mk
        · have hsy : v - nk < (symsOf xs h).length := by
            have h1 := HN.out
            rw [symsOf_length]
            have h2 : many xs h = xs.count h := by unfold many; rw [if_neg h1.2.2.2]
            omega
          have hat := symbolAt_any a cap gb off h (v - nk) (symsOf xs h)[v - nk] xs wr hRS.row hl (List.getElem?_eq_getElem hsy)
          obtain ⟨sym, hsym⟩ : ∃ sym, sym = (symsOf xs h)[v - nk] := ⟨_, rfl⟩
          rw [← hsym] at hat
          have hdI : ((v - nk : Nat) : Int) = (v : Int) - (nk : Int) := by omega
          rw [hdI] at hat
          have HAT := (show Hid (∀ u : Unit, Calls Try.prog 36 _ wr _) from fun _ => hat)
          have cs0 := cell_of hRS.sbox 0
          have zs0 := frozen_of hRS.sbox 0
          have cl0 := cell_of hRS.lbox 0
          simp at cs0 cl0
          have HE := (show Hid (RS xs bs w wr rb g p a cap gb off b mb h ∧ KeepsFrom W4.heap.size V wr ∧ v = valF (fun i => bitAt bs (p + i)) h ∧ (symsOf xs h)[v - nk]? = some sym) from ⟨hRS, hkf, hv, by rw [hsym]; exact List.getElem?_eq_getElem hsy⟩)
          have hfI : (v : Int) - (nk : Int) < (mk : Int) := by omega
          have hh8 : (h : Int) % 256 = (h : Int) := by omega
          clear hRS hkf hob hvl hv hat hsym hdI hsy
          gi_wp2_with (refine ⟨trivial, ?_⟩; gi_at_call 36; refine (CallsIn.inRound _ (callsIn_wide.2 (HAT.out ()))).mono ?_; rintro e w1 ⟨rfl, rfl⟩)
          obtain ⟨r1, r2, r3, r4⟩ := HE.out
          obtain ⟨t1, t2, t3, t4⟩ := HN.out
          have hL := HZ.out.2
          have l1 := hL.f1
          have l2 := hL.f2
          have l6 := hL.f6
          have l7 := hL.f7
          refine ⟨keeps_set _ r2 _ _, rfl, by rw [World.size_setCell]; exact hsz, h, ⟨by omega, by omega, by rw [← r3, ← t1]; omega, by rw [← r3, ← t1, ← t2]; omega, HF.out⟩, ?_, ?_⟩
          · exact Keep.setCell (S := fun k => k = rb) (p := ⟨mb + 1 + 1 + 1, 0, none⟩) r1.keep (fun hh => by dsimp only at hh; omega) _
          · have hkk : ∀ (W : World) v, Keep (fun x => x = mb + 1 + 1 + 1) W (W.setCell ⟨mb + 1 + 1 + 1, 0, none⟩ v) := fun W v => Keep.setCell (S := fun x => x = mb + 1 + 1 + 1) (p := ⟨mb + 1 + 1 + 1, 0, none⟩) (Keep.refl _ W) (fun _ => rfl) _
            refine .inl ⟨r1.rd.in_, ⟨sym, by rw [← r3, ← t1]; exact r4, (set_obj r1.sbox 0 _).trans (by simp), set_far r1.ebox (by omega) _ _⟩, r1.rd.keep (hkk _ _) (by omega) (fun _ => by omega)⟩
        · have hfI : ¬ (v : Int) - (nk : Int) < (mk : Int) := by omega
          have HE := (show Hid (RS xs bs w wr rb g p a cap gb off b mb h ∧ KeepsFrom W4.heap.size V wr ∧ v = valF (fun i => bitAt bs (p + i)) h) from ⟨hRS, hkf, hv⟩)
          clear hRS hkf hob hvl hv
          gi_wp2
          refine ⟨HE.out.2.1, ⟨h, by omega, HE.out.1⟩, fun l hl h0 => ?_, hsz⟩
          by_cases e : l = h
          · subst e
            rw [← HE.out.2.2, ← HN.out.1, ← HN.out.2.1]; omega
          · exact HF.out l (by omega) h0
  case done =>
    rintro V ⟨_, HF, _⟩ hD
    exact (some_word (many xs) _ (fun i => bitAt_lt bs _) (of_decide_eq_true hgood).2.2 (fun l hl h0 => HF.out l hl h0)).elim
  case stop =>
    rintro j V ⟨rfl, hsz, l, hW, hK, hor⟩ hD
    have hL := HZ.out.2
    have l1 := hL.f1
    have l2 := hL.f2
    have hz := HZ.out.1
    have l6 := hL.f6
    have l7 := hL.f7
    have HD := (show Hid (V.heap[W4.heap.size]? = some (.deferred (some [])) ∧ rb < w.heap.size ∧ g < w.heap.size ∧ w.heap.size ≤ mb ∧ W4.heap.size = mb + 6) from ⟨hD, l1, l2, by omega, hz⟩)
    clear hD hL l1 l2 hz l6 l7
    rcases hor with ⟨q1, ⟨sym, q2, q3, q4⟩, q5⟩ | ⟨q1, ⟨q3, q4⟩, q5⟩
    · have c1 := cell_of q3 0
      have c2 := cell_of q4 0
      simp at c1 c2
      have HX := (show Hid (IsWord (many xs) (fun i => bitAt bs (p + i)) l ∧ Keep (fun k => k = rb) w V ∧ p + l ≤ 8 * bs.length ∧ (symsOf xs l)[valF (fun i => bitAt bs (p + i)) l - nextF (many xs) l]? = some sym ∧ IsR V rb g bs (p + l)) from ⟨hW, hK, q1, q2, q5⟩)
      clear hW hK q1 q2 q3 q4 q5
      gi_wp2_with fail
      have hmx : Try.prog.follows .mixedOrders = true := by kernel_rfl
      refine wpIn_calm ?_
      gi_region_with_o (fail)
      all_goals
        simp only [calm]
        gi_wp2
        have hD' : V.drew.heap[W4.heap.size]? = some (.deferred (some [])) := HD.out.1
        refine ⟨by simp, .inl ⟨_, _, rfl, run_takeDeferred hD', ?_⟩⟩
        obtain ⟨t1, t2, t3, t4, t5⟩ := HD.out
        have hkp : Keep (fun x => x = W4.heap.size) V (V.drew.putObj W4.heap.size (.deferred none)) := ((Keep.refl _ V).drew).putObj _ _ (fun _ => rfl)
        obtain ⟨x1, x2, x3, x4, x5⟩ := HX.out
        exact ⟨_, results_tmp2 rfl _ _ _, l, x1, x2.trans hkp (fun i hi e => by omega), .inl ⟨x3, ⟨sym, x4, rfl⟩, x5.keep hkp (by omega) (fun _ => by omega)⟩⟩
    · have c1 := cell_of q3 0
      have c2 := cell_of q4 0
      simp at c1 c2
      have HX := (show Hid (IsWord (many xs) (fun i => bitAt bs (p + i)) l ∧ Keep (fun k => k = rb) w V ∧ 8 * bs.length < p + l ∧ IsR V rb g bs (8 * bs.length)) from ⟨hW, hK, q1, q5⟩)
      clear hW hK q1 q3 q4 q5
      gi_wp2_with fail
      have hmx : Try.prog.follows .mixedOrders = true := by kernel_rfl
      refine wpIn_calm ?_
      gi_region_with_o (fail)
      all_goals
        simp only [calm]
        gi_wp2
        have hD' : V.drew.heap[W4.heap.size]? = some (.deferred (some [])) := HD.out.1
        refine ⟨by simp, .inl ⟨_, _, rfl, run_takeDeferred hD', ?_⟩⟩
        obtain ⟨t1, t2, t3, t4, t5⟩ := HD.out
        have hkp : Keep (fun x => x = W4.heap.size) V (V.drew.putObj W4.heap.size (.deferred none)) := ((Keep.refl _ V).drew).putObj _ _ (fun _ => rfl)
        obtain ⟨x1, x2, x3, x5⟩ := HX.out
        exact ⟨_, results_tmp2 rfl _ _ _, l, x1, x2.trans hkp (fun i hi e => by omega), .inr ⟨x3, rfl, x5.keep hkp (by omega) (fun _ => by omega)⟩⟩

end Go.Proofs.Ytapcohpagipkpaa
