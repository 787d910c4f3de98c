/-
  A tail's writer of one's own, beside other blocks.
  Pack.
  Unpack; what Pack and Unpack answer where they refuse.
  Read: how many bytes a description has, weights of four bits, the last weight.
  Read: the last weight, and what Read makes of weights that are told.
-/
import Derived.Test.YtkljidigmolmmaaBackP9
namespace Go.Proofs.Ytkljidigmolmmaa.Tl
open Go.RowKit Go.Shelf
set_option linter.unusedVariables false

/-- Whatever is no row of bytes, and is not wb, lies as it lay. -/
structure Oth (wb : Nat) (W W' : World) : Prop where
  size : W.heap.size ≤ W'.heap.size
  same : ∀ k o, W.heap[k]? = some o → k ≠ wb → (∀ cs, o ≠ .cells cs 5 (0, 0)) → W'.heap[k]? = some o
theorem Oth.cells {wb b t : Nat} {W W' : World} {cs : Array Value} (h : Oth wb W W') (hb : W.heap[b]? = some (.cells cs t (0, 0))) (hne : b ≠ wb) (ht : t ≠ 5) : W'.heap[b]? = some (.cells cs t (0, 0)) :=
  h.same b _ hb hne (fun cs' e => by cases e; exact ht rfl)
theorem Oth.mark {wb b : Nat} {W W' : World} {o : Obj} (h : Oth wb W W') (hb : W.heap[b]? = some o) (hne : b ≠ wb) (ho : o.isCells = false) : W'.heap[b]? = some o :=
  h.same b _ hb hne (fun cs' e => by subst e; cases ho)
theorem Oth.from {wb : Nat} {W W' : World} {cs : Array Value} {t : Nat} (h : Oth wb W W') (hw : W.heap[wb]? = some (.cells cs t (0, 0))) (B : Nat) : KeepsFrom B W W' :=
  ⟨h.size, fun k o _ ho hc => h.mark ho (by rintro rfl; rw [hw] at ho; cases ho; cases hc) hc⟩
theorem oth_of {W W' : World} {wb : Nat} {v : Value} {L : List (Fin 2)} (h : IsW W wb v L) (hk : Keep (fun k => k = wb ∨ v.ownBlock = some k) W W') : Oth wb W W' := by
  refine ⟨hk.size, fun k o ho hne hc => hk.obj ho ?_⟩
  rintro (e | e)
  · exact hne e
  · rcases h.row.2 with ⟨rfl, _⟩ | ⟨g, cap, cur, rfl, _, hg, _⟩
    · cases e
    · obtain rfl : g = k := by simpa [Value.ownBlock] using e
      rw [hg] at ho; cases ho; exact hc _ rfl
theorem MineT.obj {w W : World} {wb : Nat} {L : List (Fin 2)} (h : MineT w W wb L) : ∃ cs, W.heap[wb]? = some (.cells cs 50 (0, 0)) := by
  obtain ⟨v, hv, _⟩ := h.is
  exact ⟨_, hv.obj⟩
theorem MineT.putO {w W : World} {wb : Nat} {L : List (Fin 2)} (h : MineT w W wb L) (x m : Nat) (hx : x < 18446744073709551616) (hm : m ≤ 56) (hL : L.length < 1000000000000) :
    Calls Try.prog 24 #[.pointer (some ⟨wb, 0, none⟩), .int .u64 (x : Int), .int .i64 (m : Int)] W fun e W' => e = .returned (.int .i64 0) ∧ MineT w W' wb (L ++ low x m) ∧ Oth wb W W' := by
  obtain ⟨v, hv, hn⟩ := h.is
  refine (put_any wb v L x m hx hm hL W hv).mono ?_
  rintro e W' ⟨rfl, v', h1, h2, h3⟩
  refine ⟨rfl, ⟨⟨v', h1, fun k e => ?_⟩, h.new, h.keep.trans h3 ?_⟩, oth_of hv h3⟩
  · rcases h2 with h2 | ⟨j, h2, hj⟩
    · rw [h2] at e; exact hn k e
    · rw [h2] at e; cases e; have := h.keep.size; omega
  · rintro i hi (e | e)
    · have := h.new; omega
    · have := hn i e; omega
theorem MineT.closeO {w W : World} {wb : Nat} {L : List (Fin 2)} (h : MineT w W wb L) (hL : L.length < 1000000000000) :
    Calls Try.prog 25 #[.pointer (some ⟨wb, 0, none⟩)] W fun e W' => ∃ v', e = .returned v' ∧ W'.ownsRow 0 5 1 v' (pack (L ++ [1])).length (u8s (pack (L ++ [1]))) ∧ Keep noBlock w W' ∧ Oth wb W W' ∧ ∀ k, v'.ownBlock = some k → w.heap.size ≤ k := by
  obtain ⟨v, hv, hn⟩ := h.is
  refine (close_any wb v L hL W hv).mono ?_
  rintro e W' ⟨v', rfl, h1, _, h2, h3⟩
  refine ⟨v', rfl, h1, h.keep.trans h3 ?_, oth_of hv h3, fun k e => ?_⟩
  · rintro i hi (e | e)
    · have := h.new; omega
    · have := hn i e; omega
  · rcases h2 with h2 | ⟨j, h2, hj⟩
    · rw [h2] at e; exact hn k e
    · rw [h2] at e; cases e; have := h.keep.size; omega
theorem MineT.keepN {w W W' : World} {wb B : Nat} {L : List (Fin 2)} (h : MineT w W wb L) (hk : KeepN B W W') (hB : w.heap.size ≤ B) : MineT w W' wb L := by
  obtain ⟨v, hv, hn⟩ := h.is
  refine ⟨⟨v, ⟨hk.obj hv.obj, hv.row.1, ?_⟩, hn⟩, h.new, h.keep.transN hk hB⟩
  rcases hv.row.2 with hq | ⟨g, cap, cur, rfl, hb, hgb, hr⟩
  · exact .inl hq
  · exact .inr ⟨g, cap, cur, rfl, hb, hk.obj hgb, hr⟩

end Go.Proofs.Ytkljidigmolmmaa.Tl

namespace Go.Proofs.Ytkljidigmolmmaa
open Go.RowKit Go.Shelf
set_option linter.unusedVariables false

attribute [local go_sem] Oper.semAt_some

/-- What Pack has, while the words are laid: b is its first block. -/
structure PkI (w : World) (b : Nat) (a : Option Addr) (cap k m : Nat) (X N : Nat → Nat) (V : World) : Prop where
  r4 : V.heap[b]? = some (.cells #[.slice none 0 0] 22 (0, 0))
  r5 : V.heap[b + 1]? = some (.cells #[.int .i64 0] 23 (0, 0))
  of : OfA V (b + 1 + 1) X N
  bs : V.heap[b + 1 + 1 + 1]? = some (.cells #[.slice a k cap] 22 (0, 0))
  bm : V.heap[b + 1 + 1 + 1 + 1]? = some (.cells #[.int .i64 (m : Int)] 3 (0, 0))
  keep : Keep noBlock w V
theorem PkI.keepN {w : World} {b : Nat} {a : Option Addr} {cap k m : Nat} {X N : Nat → Nat} {U V : World} {B : Nat} (h : PkI w b a cap k m X N U) (hk : KeepN B U V) (hB : w.heap.size ≤ B) : PkI w b a cap k m X N V :=
  ⟨hk.obj h.r4, hk.obj h.r5, h.of.keepN hk, hk.obj h.bs, hk.obj h.bm, h.keep.transN hk hB⟩
theorem PkI.keeps {w : World} {b : Nat} {a : Option Addr} {cap k m : Nat} {X N : Nat → Nat} {U V : World} (h : PkI w b a cap k m X N U) (hk : Keep noBlock U V) : PkI w b a cap k m X N V :=
  ⟨hk.obj h.r4 (fun h => h), hk.obj h.r5 (fun h => h), h.of.keep hk (fun h => h), hk.obj h.bs (fun h => h), hk.obj h.bm (fun h => h), h.keep.trans' hk⟩

/-- What Pack answers where the weights make a code. -/
def PackPost (ws : List Nat) (m : Nat) (bs : List Nat) (w : World) (e : Ending) (w' : World) : Prop :=
  Keep noBlock w w' ∧ ((packOk ws bs = true ∧ ∃ v, e = .returned (.tuple #[v, .int .i64 0]) ∧ w'.ownsRow 0 5 1 v (pack (packL ws m bs ++ [1])).length (u8s (pack (packL ws m bs ++ [1])))) ∨ (packOk ws bs = false ∧ e = .returned (.tuple #[.slice none 0 0, .int .i64 2])))

theorem wbox_of {w V : World} {b : Nat} {a : Option Addr} {cap gb off m : Nat} {ws : List Nat} {X N : Nat → Nat} (hB : Bytes w a cap gb off ws) (h : PkI w b a cap ws.length m X N V) : WBox (b + 1 + 1 + 1) (b + 1 + 1 + 1 + 1) a cap gb off ws m V :=
  ⟨h.bs, h.bm, hB.keep h.keep (fun _ h => h)⟩

/-- What Pack has, while bytes are put: k are still to come. -/
structure PkJ (w : World) (ws : List Nat) (m : Nat) (bs : List Nat) (a2 : Option Addr) (cap2 n b D wb : Nat) (k : Nat) (V : World) : Prop where
  r4 : V.heap[b]? = some (.cells #[.slice none 0 0] 22 (0, 0))
  r5 : V.heap[b + 1]? = some (.cells #[.int .i64 0] 23 (0, 0))
  of : OfA V (b + 1 + 1) (fun s => if wt ws s = 0 then 0 else wordX ws s) (fun s => if wt ws s = 0 then 0 else m + 1 - wt ws s)
  mark : V.heap[D]? = some (.deferred (some []))
  box : V.heap[wb + 1]? = some (.cells #[.pointer (some ⟨wb, 0, none⟩)] 48 (0, 0))
  bx : V.heap[wb + 1 + 1]? = some (.cells #[.slice a2 n cap2] 22 (0, 0))
  wr : Tl.MineT w V wb (packL ws m (bs.drop k))
  ok : ∀ x ∈ bs.drop k, wt ws x ≠ 0
theorem PkJ.keepN {w : World} {ws : List Nat} {m : Nat} {bs : List Nat} {a2 : Option Addr} {cap2 n b D wb k B : Nat} {U V : World} (h : PkJ w ws m bs a2 cap2 n b D wb k U) (hk : KeepN B U V) (hB : w.heap.size ≤ B) (hD : D < B) : PkJ w ws m bs a2 cap2 n b D wb k V :=
  ⟨hk.obj h.r4, hk.obj h.r5, h.of.keepN hk, hk.block _ _ h.mark (.inl hD), hk.obj h.box, hk.obj h.bx, h.wr.keepN hk hB, h.ok⟩
/-- What Pack leaves where a byte has no word. -/
structure PkX (w : World) (ws bs : List Nat) (b D : Nat) (V : World) : Prop where
  r4 : V.heap[b]? = some (.cells #[.slice none 0 0] 22 (0, 0))
  r5 : V.heap[b + 1]? = some (.cells #[.int .i64 2] 23 (0, 0))
  mark : V.heap[D]? = some (.deferred (some []))
  keep : Keep noBlock w V
  bad : packOk ws bs = false

set_option maxRecDepth 100000 in
set_option maxHeartbeats 4000000 in
theorem pack_any (a : Option Addr) (cap gb off : Nat) (ws : List Nat) (m : Nat) (a2 : Option Addr) (cap2 gb2 off2 : Nat) (bs : List Nat) (w : World) (hB : Bytes w a cap gb off ws) (hB2 : Bytes w a2 cap2 gb2 off2 bs) (hc : IsCode ws m) (hl : bs.length ≤ 131072) :
    Calls Try.prog 10 #[.slice a ws.length cap, .slice a2 bs.length cap2] w fun e w' => PackPost ws m bs w e w' := by
  have HM := (show Hid (∀ W, Keep noBlock w W → Calls Try.prog 21 #[.slice a ws.length cap] W fun e w' => e = .returned (.tuple #[.int .i64 (m : Int), .bool true]) ∧ w' = W) from fun W hk => by
    refine (makeCode_any a cap gb off ws W (hB.keep hk (fun _ h => h))).mono ?_
    rintro e w' ⟨l, rfl, h, rfl⟩
    rw [hc.codeB.1] at h ⊢
    rw [h rfl, hc.codeM]
    exact ⟨rfl, rfl⟩)
  have HH := (show Hid (Bytes w a cap gb off ws ∧ Bytes w a2 cap2 gb2 off2 bs ∧ IsCode ws m) from ⟨hB, hB2, hc⟩)
  obtain ⟨n, hn⟩ : ∃ n, n = bs.length := ⟨_, rfl⟩
  have HN := (show Hid (n = bs.length) from hn)
  obtain ⟨k, hk⟩ : ∃ k, k = ws.length := ⟨_, rfl⟩
  have HK := (show Hid (k = ws.length) from hk)
  rw [← hn] at hl ⊢
  rw [← hk] at HM ⊢
  have hlI : ¬ (131072 : Int) < (n : Int) := by omega
  have hlI2 : (n : Int) ≤ 131072 := by omega
  have hm11 := hc.m11
  clear hB hB2 hc hn hk
  refine (callsIn_wide (n := 6)).1 ?_
  refine callsIn_of_wp_marks Try.func10 rfl trivial ?_ rfl
  simp only [Try.ntmps10, List.size_toArray, List.length_cons, List.length_nil, Nat.reduceAdd, Nat.reduceSub, Array.replicate_succ, Array.replicate_zero, List.push_toArray, List.append_toArray, List.nil_append, List.cons_append]
  gi_wp2_with (first | (refine ⟨trivial, ?_⟩; gi_at_call 21; refine (callsIn_wide.2 (HM.out _ (((Keep.refl _ w).alloc _).alloc _))).mono ?_; rintro e w' ⟨rfl, rfl⟩) | (refine ⟨trivial, ?_⟩; gi_at_call 22; refine (words_in Fence.wide _ trivial rfl _ _ _ _ _).mono ?_; rintro e w' ⟨rfl, rfl⟩))
  rw [show decide ((131072 : Int) < (n : Int)) = false from decide_eq_false (by omega)]
  obtain ⟨b, hb⟩ : ∃ b, b = w.heap.size := ⟨_, rfl⟩
  have hI0 : PkI w b a cap k m (ofX ws []) (ofN ws m []) (((((w.alloc (.cells #[.slice none 0 0] 22)).alloc (.cells #[.int .i64 0] 23)).alloc (.cells Try.zeroCells44 44)).alloc (.cells #[.slice a k cap] 22)).alloc (.cells #[.int .i64 (m : Int)] 3)) := by
    have o1 := World.alloc_heap_new w (.cells #[.slice none 0 0] 22)
    have o2 := World.alloc_heap_new (w.alloc (.cells #[.slice none 0 0] 22)) (.cells #[.int .i64 0] 23)
    have o3 := ofA_zeros ((w.alloc (.cells #[.slice none 0 0] 22)).alloc (.cells #[.int .i64 0] 23))
    have o4 := World.alloc_heap_new (((w.alloc (.cells #[.slice none 0 0] 22)).alloc (.cells #[.int .i64 0] 23)).alloc (.cells Try.zeroCells44 44)) (.cells #[.slice a k cap] 22)
    have o5 := World.alloc_heap_new ((((w.alloc (.cells #[.slice none 0 0] 22)).alloc (.cells #[.int .i64 0] 23)).alloc (.cells Try.zeroCells44 44)).alloc (.cells #[.slice a k cap] 22)) (.cells #[.int .i64 (m : Int)] 3)
    simp only [World.size_alloc] at o1 o2 o3 o4 o5
    rw [← hb] at o1 o2 o3 o4 o5
    exact ⟨alloc_far (alloc_far (alloc_far (alloc_far o1 _) _) _) _, alloc_far (alloc_far (alloc_far o2 _) _) _, ((o3.congr (fun i _ => rfl) (fun i _ => rfl)).keep (((Keep.refl noBlock _).alloc _).alloc _) (fun h => h)), alloc_far o4 _, o5, (((((Keep.refl _ w).alloc _).alloc _).alloc _).alloc _).alloc _⟩
  have hsz : (((((w.alloc (.cells #[.slice none 0 0] 22)).alloc (.cells #[.int .i64 0] 23)).alloc (.cells Try.zeroCells44 44)).alloc (.cells #[.slice a k cap] 22)).alloc (.cells #[.int .i64 (m : Int)] 3)).heap.size = b + 5 := by simp only [World.size_alloc]; rw [hb]
  generalize (((((w.alloc (.cells #[.slice none 0 0] 22)).alloc (.cells #[.int .i64 0] 23)).alloc (.cells Try.zeroCells44 44)).alloc (.cells #[.slice a k cap] 22)).alloc (.cells #[.int .i64 (m : Int)] 3)) = W0 at hI0 hsz ⊢
  rw [← hb]
  have HBW := (show Hid (b = w.heap.size) from hb)
  clear hb
  refine range_iter (gf := 44) (by omega) rfl (enters_of Try.func44 (by kernel_rfl) rfl) (wordR ws m) (fun p => p = ordC ws m) [] (fun p V => PkI w b a cap k m (ofX ws p) (ofN ws m p) V ∧ b + 5 ≤ V.heap.size)
    (fun l J Jx W _ hJI hD hY h0 => ?iter) (fun i vs i' V h => ?ps) (fun _ _ => False)
    (fun p vs p' a' V => ∃ s rb, s < ws.length ∧ p' = p ++ [s] ∧ b + 5 ≤ rb ∧ V.heap[rb]? = some (.cells #[.int .u64 ((wordX ws s : Nat) : Int), .int .i64 ((m + 1 - wt ws s : Nat) : Int)] 43 (0, 0)) ∧
      a' = { tmps := #[.slice a k cap, .slice a2 n cap2, undef, undef, .pointer (some ⟨b, 0, none⟩), .pointer (some ⟨b + 1, 0, none⟩), .int .i64 (m : Int), .bool true, .pointer (some ⟨b + 1 + 1, 0, none⟩), .int .u8 (s : Int), .pointer (some ⟨rb, 0, none⟩), undef, undef, undef, undef,
        .tuple #[.int .i64 (m : Int), .bool true], .slice a k cap, .tuple #[.int .i64 (m : Int), .bool true], .int .i64 (m : Int), .bool true, .bool true, .bool false, .slice a2 n cap2, .int .i64 (n : Int), .bool false, .slice a k cap, .int .i64 (m : Int),
        .func (.func 44) #[] #[.pointer (some ⟨b + 1 + 1 + 1 + 1, 0, none⟩), .pointer (some ⟨b + 1 + 1 + 1, 0, none⟩)], .int .u8 (s : Int), .agg #[.int .u64 ((wordX ws s : Nat) : Int), .int .i64 ((m + 1 - wt ws s : Nat) : Int)],
        undef, undef, undef, undef, undef, undef, undef, undef, undef, undef, undef, undef, undef, undef, undef, undef, undef, undef, undef, undef, undef, undef, undef], defers := [] })
    (fun p U V h hk => ⟨h.1.keepN hk (by have := HBW.out; omega), Nat.le_trans h.2 hk.size⟩) (fun _ _ _ h _ => h.elim) (fun p vs p' a' U V h hk => ?keepA) ⟨hI0, by omega⟩ ?assign ?body ?done (fun _ _ h _ => h.elim)
  case iter =>
    refine (words1_in 5 (by omega) l (b + 1 + 1 + 1) (b + 1 + 1 + 1 + 1) a cap gb off ws m HH.out.2.2 J Jx (fun p V hp => ?_) hD hY W h0).mono ?_
    · have := (hJI p V hp).1
      rw [HK.out] at this
      exact wbox_of HH.out.1 this
    · rintro e W' ⟨h1, h2⟩
      exact ⟨h1, h2.imp (fun h => ⟨_, rfl, h⟩) (fun h => h)⟩
  case ps =>
    obtain ⟨s, _, _, _, _, _, rfl⟩ := h
    rfl
  case keepA =>
    obtain ⟨s, rb, h1, h2, h3, h4, h5⟩ := h
    exact ⟨s, rb, h1, h2, h3, hk.obj h4, h5⟩
  case assign =>
    rintro p vs p' V K ⟨s, h1, h2, h3, h4, h5, rfl⟩ hi hK
    unfold wordV
    gi_wp2
    exact hK _ _ ⟨by simp, fun k' o _ ho _ => alloc_far ho _⟩ ⟨hi.1.keeps ((Keep.refl _ V).alloc _), by rw [World.size_alloc]; omega⟩ ⟨s, V.heap.size, h1, h5, hi.2, World.alloc_heap_new V _, rfl⟩
  case body =>
    rintro p vs p' a' V ⟨hi, hsz2⟩ ⟨s, rb, h1, rfl, hrb, hob, rfl⟩
    have hs256 : s < 256 := by have := HH.out.2.2.len; omega
    have hset := hi.of.set s (wordX ws s) (m + 1 - wt ws s)
    obtain ⟨c1, c2⟩ := hi.of.cells s hs256
    have f1 := hi.of.frozen (s * 2)
    have f2 := hi.of.frozen (s * 2 + 1)
    have r0 := cell_of hob 0
    have r1 := cell_of hob 1
    simp at r0 r1
    have hsI : (s : Int) < 256 := by omega
    have hkk : ∀ x y : Value, Keep (fun j => j = b + 1 + 1) V ((V.setCell ⟨b + 1 + 1, s * 2, none⟩ x).setCell ⟨b + 1 + 1, s * 2 + 1, none⟩ y) := fun x y =>
      ((Keep.refl (fun j => j = b + 1 + 1) V).setCell (p := ⟨b + 1 + 1, s * 2, none⟩) (fun _ => rfl) _).setCell (p := ⟨b + 1 + 1, s * 2 + 1, none⟩) (fun _ => rfl) _
    have HNEW := (show Hid (PkI w b a cap k m (ofX ws (p ++ [s])) (ofN ws m (p ++ [s])) ((V.setCell ⟨b + 1 + 1, s * 2, none⟩ (.int .u64 ((wordX ws s : Nat) : Int))).setCell ⟨b + 1 + 1, s * 2 + 1, none⟩ (.int .i64 ((m + 1 - wt ws s : Nat) : Int)))) from by
      refine ⟨(hkk _ _).obj hi.r4 (by omega), (hkk _ _).obj hi.r5 (by omega), hset.congr (fun i _ => ofX_snoc ws p s i) (fun i _ => ofN_snoc ws m p s i), (hkk _ _).obj hi.bs (by omega), (hkk _ _).obj hi.bm (by omega), hi.keep.trans (hkk _ _) (fun i hi e => by have := HBW.out; omega)⟩)
    have HKF := (show Hid (∀ x y : Value, KeepsFrom W0.heap.size V ((V.setCell ⟨b + 1 + 1, s * 2, none⟩ x).setCell ⟨b + 1 + 1, s * 2 + 1, none⟩ y)) from fun x y => ((KeepsOthers.setCell _ _ _).from _).trans ((KeepsOthers.setCell _ _ _).from _))
    generalize wordX ws s = xs at *
    generalize m + 1 - wt ws s = ns at *
    clear hob hi hset hkk
    gi_wp2
    exact ⟨HKF.out _ _, HNEW.out, by simp only [World.size_setCell]; exact hsz2⟩
  case done =>
    rintro p V rfl ⟨hi, hsz2⟩ hD
    have hof := hi.of.congr (fun i _ => HH.out.2.2.ofX i) (fun i _ => HH.out.2.2.ofN i)
    have HI := (show Hid (V.heap[b]? = some (.cells #[.slice none 0 0] 22 (0, 0)) ∧ V.heap[b + 1]? = some (.cells #[.int .i64 0] 23 (0, 0)) ∧ OfA V (b + 1 + 1) (fun s => if wt ws s = 0 then 0 else wordX ws s) (fun s => if wt ws s = 0 then 0 else m + 1 - wt ws s) ∧ Keep noBlock w V ∧ V.heap[W0.heap.size]? = some (.deferred (some []))) from ⟨hi.r4, hi.r5, hof, hi.keep, hD⟩)
    clear hi hof hD
    gi_wp2_with (refine ⟨trivial, ?_⟩; gi_at_call 23; refine (backward_in Fence.wide _ trivial rfl _ _ _ _).mono ?_; rintro e w' ⟨rfl, rfl⟩)
    obtain ⟨q1, q2, q3, q4, q5⟩ := HI.out
    obtain ⟨vb, hvb⟩ : ∃ vb, vb = V.heap.size := ⟨_, rfl⟩
    have hJ0 : PkJ w ws m bs a2 cap2 n b (b + 5) vb n (((V.alloc (.cells #[.slice none 0 0, .int .u8 0, .int .i64 0] 50)).alloc (.cells #[.pointer (some ⟨V.heap.size, 0, none⟩)] 48)).alloc (.cells #[.slice a2 n cap2] 22)) := by
      have o2 := World.alloc_heap_new (V.alloc (.cells #[.slice none 0 0, .int .u8 0, .int .i64 0] 50)) (.cells #[.pointer (some ⟨V.heap.size, 0, none⟩)] 48)
      have o3 := World.alloc_heap_new ((V.alloc (.cells #[.slice none 0 0, .int .u8 0, .int .i64 0] 50)).alloc (.cells #[.pointer (some ⟨V.heap.size, 0, none⟩)] 48)) (.cells #[.slice a2 n cap2] 22)
      have hmt := (Tl.mineT_new w V q4).keeps (((Keep.refl noBlock _).alloc (.cells #[.pointer (some ⟨V.heap.size, 0, none⟩)] 48)).alloc (.cells #[.slice a2 n cap2] 22))
      have hkk : Keep noBlock V (((V.alloc (.cells #[.slice none 0 0, .int .u8 0, .int .i64 0] 50)).alloc (.cells #[.pointer (some ⟨V.heap.size, 0, none⟩)] 48)).alloc (.cells #[.slice a2 n cap2] 22)) := (((Keep.refl noBlock V).alloc _).alloc _).alloc _
      simp only [World.size_alloc] at o2 o3
      rw [← hvb] at o2 o3 hmt hkk ⊢
      have hd : bs.drop n = [] := List.drop_eq_nil_of_le (by rw [HN.out]; exact Nat.le_refl _)
      exact ⟨hkk.obj q1 (fun h => h), hkk.obj q2 (fun h => h), q3.keep hkk (fun h => h), hkk.obj (by rw [← hsz]; exact q5) (fun h => h), alloc_far o2 _, o3, by rw [hd]; exact hmt, by rw [hd]; intro x hx; cases hx⟩
    have hsz3 : (((V.alloc (.cells #[.slice none 0 0, .int .u8 0, .int .i64 0] 50)).alloc (.cells #[.pointer (some ⟨V.heap.size, 0, none⟩)] 48)).alloc (.cells #[.slice a2 n cap2] 22)).heap.size = vb + 3 := by simp only [World.size_alloc]; rw [hvb]
    generalize (((V.alloc (.cells #[.slice none 0 0, .int .u8 0, .int .i64 0] 50)).alloc (.cells #[.pointer (some ⟨V.heap.size, 0, none⟩)] 48)).alloc (.cells #[.slice a2 n cap2] 22)) = W1 at hJ0 hsz3 ⊢
    have hD5 : b + 5 < vb := by rw [hvb]; rw [← hsz]; exact obj_lt q5
    rw [← hvb]
    have HV := (show Hid (b + 5 < vb ∧ b = w.heap.size ∧ W1.heap.size = vb + 3) from ⟨hD5, HBW.out, hsz3⟩)
    clear q1 q2 q3 q4 q5 HI hvb hD5 hsz2 hI0
    refine range_iter (gf := 46) (by omega) rfl (enters_of Try.func46 (by kernel_rfl) rfl) (backR bs) (fun p => p = 0) n (fun p U => PkJ w ws m bs a2 cap2 n b (b + 5) vb p U ∧ vb + 3 ≤ U.heap.size)
      (fun l J Jx W _ hJI hD hY h0 => ?iter2) (fun i vs i' V h => ?ps2) (fun c U => c = .ret ∧ PkX w ws bs b (b + 5) U)
      (fun p vs p' a' U => ∃ x, p = p' + 1 ∧ p ≤ n ∧ x = bs[p']?.getD 0 ∧
        a' = { tmps := #[.slice a k cap, .slice a2 n cap2, undef, undef, .pointer (some ⟨b, 0, none⟩), .pointer (some ⟨b + 1, 0, none⟩), .int .i64 (m : Int), .bool true, .pointer (some ⟨b + 1 + 1, 0, none⟩), undef, undef, .pointer (some ⟨vb + 1, 0, none⟩), undef, .int .u8 (x : Int), undef,
          .tuple #[.int .i64 (m : Int), .bool true], .slice a k cap, .tuple #[.int .i64 (m : Int), .bool true], .int .i64 (m : Int), .bool true, .bool true, .bool false, .slice a2 n cap2, .int .i64 (n : Int), .bool false, .slice a k cap, .int .i64 (m : Int),
          .func (.func 44) #[] #[.pointer (some ⟨b + 1 + 1 + 1 + 1, 0, none⟩), .pointer (some ⟨b + 1 + 1 + 1, 0, none⟩)], undef, undef, undef, undef, undef,
          .agg #[.slice none 0 0, .int .u8 0, .int .i64 0], .pointer (some ⟨vb, 0, none⟩), .slice a2 n cap2, .func (.func 46) #[] #[.pointer (some ⟨vb + 1 + 1, 0, none⟩)], .int .i64 (p' : Int), .int .u8 (x : Int),
          undef, undef, undef, undef, undef, undef, undef, undef, undef, undef, undef, undef, undef, undef], defers := [] })
      (fun p U U' h hk => ⟨h.1.keepN hk (by have := HV.out; have := hsz3; omega) (by have := HV.out; omega), Nat.le_trans h.2 hk.size⟩)
      (fun c U U' h hk => ⟨h.1, hk.obj h.2.r4, hk.obj h.2.r5, hk.block _ _ h.2.mark (.inl (by have := HV.out; omega)), h.2.keep.transN hk (by have := HV.out; omega), h.2.bad⟩)
      (fun p vs p' a' U U' h hk => h) ⟨hJ0, by omega⟩ ?assign2 ?body2 ?done2 ?stop2
    case iter2 =>
      refine (backward1_in 5 (by omega) l (vb + 1 + 1) a2 cap2 gb2 off2 bs J Jx (fun p U hp => ?_) hY W (by rw [← HN.out]; exact h0)).mono ?_
      · have := (hJI p U hp).1
        exact ⟨by rw [← HN.out]; exact this.bx, HH.out.2.1.keep this.wr.keep (fun _ h => h)⟩
      · rintro e W' ⟨h1, h2⟩
        exact ⟨h1, h2.imp (fun h => ⟨_, rfl, h⟩) (fun h => h)⟩
    case ps2 =>
      obtain ⟨_, _, rfl⟩ := h
      rfl
    case assign2 =>
      rintro p vs p' U K ⟨h1, h2, rfl⟩ hi hK
      unfold backV
      gi_wp2
      exact hK _ _ (KeepsFrom.refl _ _) hi ⟨_, h1, by rw [HN.out]; exact h2, rfl, rfl⟩
    case body2 =>
      rintro p vs p' a' U ⟨hi, hsz2⟩ ⟨x, rfl, hp, hx, rfl⟩
      have hpx : p' < bs.length := by have := HN.out; omega
      have hx256 : x < 256 := by rw [hx]; exact HH.out.2.1.lt p'
      have hxI : (x : Int) < 256 := by omega
      have hmem : x ∈ bs := by rw [hx, List.getElem?_eq_getElem hpx]; exact List.getElem_mem hpx
      obtain ⟨c1, c2⟩ := hi.of.cells x hx256
      have hb1 := obj_lt hi.r5
      by_cases h0 : wt ws x = 0
      · rw [if_pos h0] at c1 c2
        have d1 : U.cell? ⟨b + 1 + 1, x * 2, none⟩ = some (.int .u64 0) := c1
        have d2 : U.cell? ⟨b + 1 + 1, x * 2 + 1, none⟩ = some (.int .i64 0) := c2
        clear c1 c2
        have HBAD := (show Hid (packOk ws bs = false) from decide_eq_false (fun q => q x hmem h0))
        have hkU : Keep noBlock U (U.alloc (.cells #[.int .u64 0, .int .i64 0] 43)) := (Keep.refl _ U).alloc _
        have o4 := hkU.obj hi.r4 (fun h => h)
        have o5 := hkU.obj hi.r5 (fun h => h)
        have om := hkU.obj hi.mark (fun h => h)
        have c4 := cell_of o4 0
        have f4 := frozen_of o4 0
        have c5 := cell_of o5 0
        have f5 := frozen_of o5 0
        simp only [List.getElem?_toArray, List.getElem?_cons_zero] at c4 c5
        have HF := (show Hid (PkX w ws bs b (b + 5) (((U.alloc (.cells #[.int .u64 0, .int .i64 0] 43)).setCell ⟨b, 0, none⟩ (.slice none 0 0)).setCell ⟨b + 1, 0, none⟩ (.int .i64 2)) ∧ KeepsFrom W1.heap.size U (((U.alloc (.cells #[.int .u64 0, .int .i64 0] 43)).setCell ⟨b, 0, none⟩ (.slice none 0 0)).setCell ⟨b + 1, 0, none⟩ (.int .i64 2))) from by
          have hbw := HBW.out
          refine ⟨⟨set_far ((set_obj o4 0 _).trans (by simp)) (by omega) _ _, (set_obj (set_far o5 (by omega) _ _) 0 _).trans (by simp), set_far (set_far om (by omega) _ _) (by omega) _ _, ?_, decide_eq_false (fun q => q x hmem h0)⟩, ?_⟩
          · exact Keep.setCell (p := ⟨b + 1, 0, none⟩) (Keep.setCell (p := ⟨b, 0, none⟩) (hi.wr.keep.trans' hkU) (fun h => by dsimp only at h; omega) _) (fun h => by dsimp only at h; omega) _
          · exact (KeepsFrom.trans (⟨by simp, fun k' o _ ho _ => alloc_far ho _⟩ : KeepsFrom _ U (U.alloc _)) (((KeepsOthers.setCell _ _ _).from _).trans ((KeepsOthers.setCell _ _ _).from _))))
        clear hi o4 o5 om hkU hx hmem h0
        gi_wp2
        exact ⟨HF.out.2, rfl, HF.out.1⟩
      · rw [if_neg h0] at c1 c2
        obtain ⟨hxl, hxm⟩ := HH.out.2.2.wt_in x h0
        have hwl := HH.out.2.2.word_lt x hxl (by omega)
        have hp11 : 2 ^ (m + 1 - wt ws x) ≤ 2 ^ 12 := Nat.pow_le_pow_right (by omega) (by omega)
        have hX64 : wordX ws x < 4096 := Nat.lt_of_lt_of_le hwl hp11
        have hN12 : m + 1 - wt ws x ≤ 12 ∧ 1 ≤ m + 1 - wt ws x := by clear hwl hp11; omega
        have hpd := packL_drop ws m bs p' hpx
        rw [← hx] at hpd
        have hpl := packL_len ws m (bs.drop (p' + 1))
        have hll : (packL ws m (bs.drop (p' + 1))).length < 1000000000000 := by
          have e1 : (bs.drop (p' + 1)).length ≤ 131072 := by rw [List.length_drop]; have := HN.out; omega
          have e2 : (m + 1) * (bs.drop (p' + 1)).length ≤ 12 * 131072 := Nat.mul_le_mul (by omega) e1
          omega
        have hok2 : ∀ y ∈ bs.drop p', wt ws y ≠ 0 := by
          intro y hy
          rw [List.drop_eq_getElem_cons hpx] at hy
          rcases List.mem_cons.1 hy with e | e
          · rw [e]; have : x = bs[p'] := by rw [hx, List.getElem?_eq_getElem hpx]; rfl
            rw [← this]; exact h0
          · exact hi.ok y e
        have HO := (show Hid (packL ws m (bs.drop p') = packL ws m (bs.drop (p' + 1)) ++ low (wordX ws x) (m + 1 - wt ws x) ∧ ∀ y ∈ bs.drop p', wt ws y ≠ 0) from ⟨hpd, hok2⟩)
        have HI := (show Hid (PkJ w ws m bs a2 cap2 n b (b + 5) vb (p' + 1) U) from hi)
        have HL := (show Hid ((packL ws m (bs.drop (p' + 1))).length < 1000000000000) from hll)
        clear hpd hok2 hwl hp11 hpl hll hx hmem h0
        generalize wordX ws x = X at *
        generalize m + 1 - wt ws x = N at *
        have hkU : Keep noBlock U (U.alloc (.cells #[.int .u64 (X : Int), .int .i64 (N : Int)] 43)) := (Keep.refl _ U).alloc _
        have ob := hkU.obj hi.box (fun h => h)
        have c6 := cell_of ob 0
        simp only [List.getElem?_toArray, List.getElem?_cons_zero] at c6
        have hNb : ((N : Int) == 0) = false := by rw [beq_eq_false_iff_ne]; omega
        have HP := (show Hid (Calls Try.prog 24 _ (U.alloc (.cells #[.int .u64 (X : Int), .int .i64 (N : Int)] 43)) _) from (hi.wr.keeps hkU).putO X N (by omega) (by omega) HL.out)
        have hXI : (X : Int) < 4096 := by omega
        have hNI : (N : Int) ≤ 12 := by omega
        have HKU := (show Hid _ from hkU)
        clear hi ob hkU
        gi_wp2_with (refine ⟨trivial, ?_⟩; gi_at_call 24; refine (CallsIn.inRound _ (callsIn_wide.2 HP.out)).mono ?_; rintro e U2 ⟨rfl, hM2, hO2⟩)
        have hi := HI.out
        have hk := HKU.out
        obtain ⟨cs0, hw0⟩ := hi.wr.obj
        have hv := HV.out
        have hb0 := obj_lt hi.r4
        obtain ⟨ofc, of1, of2⟩ := hi.of.obj
        refine ⟨(KeepsFrom.trans (⟨by simp, fun k' o _ ho _ => alloc_far ho _⟩ : KeepsFrom _ U (U.alloc _)) (hO2.from (hk.obj hw0 (fun h => h)) _)), ⟨hO2.cells (hk.obj hi.r4 (fun h => h)) (by omega) (by decide), hO2.cells (hk.obj hi.r5 (fun h => h)) (by omega) (by decide), ⟨ofc, hO2.cells (hk.obj of1 (fun h => h)) (by omega) (by decide), of2⟩, hO2.mark (hk.obj hi.mark (fun h => h)) (by omega) rfl, hO2.cells (hk.obj hi.box (fun h => h)) (by omega) (by decide), hO2.cells (hk.obj hi.bx (fun h => h)) (by omega) (by decide), by rw [HO.out.1]; exact hM2, HO.out.2⟩, ?_⟩
        have := hO2.size
        rw [World.size_alloc] at this
        omega
    case done2 =>
      rintro p U rfl ⟨hi, hsz2⟩ hD
      have hok : packOk ws bs = true := decide_eq_true (fun x hx => hi.ok x (by rw [List.drop_zero]; exact hx))
      have hwr := hi.wr
      rw [List.drop_zero] at hwr
      have hpl := packL_len ws m bs
      have hll : (packL ws m bs).length < 1000000000000 := by
        have e2 : (m + 1) * bs.length ≤ 12 * 131072 := Nat.mul_le_mul (by omega) (by have := HN.out; omega)
        omega
      have HP := (show Hid (Calls Try.prog 25 _ U _) from hwr.closeO hll)
      have c6 := cell_of hi.box 0
      simp only [List.getElem?_toArray, List.getElem?_cons_zero] at c6
      have HI := (show Hid (PkJ w ws m bs a2 cap2 n b (b + 5) vb 0 U ∧ U.heap[W1.heap.size]? = some (.deferred (some [])) ∧ packOk ws bs = true) from ⟨hi, hD, hok⟩)
      clear hwr hpl hll hD hok hi
      gi_wp2_with (refine ⟨trivial, ?_⟩; gi_at_call 25; refine (callsIn_wide.2 HP.out).mono ?_; rintro e U2 ⟨v, rfl, hown, hK2, hO2, hnew⟩; have o4 := hO2.cells HI.out.1.r4 (by have := HV.out; omega) (by decide); have o5 := hO2.cells HI.out.1.r5 (by have := HV.out; omega) (by decide); have c4 := cell_of o4 0; have f4 := frozen_of o4 0; have c5 := cell_of o5 0; have f5 := frozen_of o5 0; simp only [List.getElem?_toArray, List.getElem?_cons_zero] at c4 c5; obtain ⟨sa, scap, hvf⟩ := owns_form hown; subst hvf)
      obtain ⟨hi, hD, hok⟩ := HI.out
      have hv := HV.out
      have hbw := HBW.out
      have hm1 := hO2.mark hi.mark (by omega) rfl
      have hm2 := hO2.mark hD (by omega) rfl
      rw [hsz3] at hm2
      have e4 := set_far ((set_obj o4 0 (.slice sa (pack (packL ws m bs ++ [1])).length scap)).trans (by simp) : _ = some (.cells #[.slice sa (pack (packL ws m bs ++ [1])).length scap] 22 (0, 0))) (show b ≠ b + 1 by omega) 0 (.int .i64 0)
      have e5 := (set_obj (set_far o5 (show b + 1 ≠ b by omega) 0 (.slice sa (pack (packL ws m bs ++ [1])).length scap)) 0 (.int .i64 0)).trans (by simp : _ = some (.cells #[.int .i64 0] 23 (0, 0)))
      have em1 := set_far (set_far hm1 (show b + 5 ≠ b by omega) 0 (.slice sa (pack (packL ws m bs ++ [1])).length scap)) (show b + 5 ≠ b + 1 by omega) 0 (.int .i64 0)
      have em2 := set_far (set_far hm2 (show vb + 3 ≠ b by omega) 0 (.slice sa (pack (packL ws m bs ++ [1])).length scap)) (show vb + 3 ≠ b + 1 by omega) 0 (.int .i64 0)
      have hks : Keep (fun j => j = b ∨ j = b + 1) U2 ((U2.setCell ⟨b, 0, none⟩ (.slice sa (pack (packL ws m bs ++ [1])).length scap)).setCell ⟨b + 1, 0, none⟩ (.int .i64 0)) :=
        ((Keep.refl (fun j => j = b ∨ j = b + 1) U2).setCell (p := ⟨b, 0, none⟩) (fun _ => .inl rfl) _).setCell (p := ⟨b + 1, 0, none⟩) (fun _ => .inr rfl) _
      have hne : ∀ g, (Value.slice sa (pack (packL ws m bs ++ [1])).length scap).ownBlock = some g → g ≠ b ∧ g ≠ b + 1 := fun g hg => ⟨fun e => owns_ne hown o4 (by decide) (by rw [← e]; exact hg), fun e => owns_ne hown o5 (by decide) (by rw [← e]; exact hg)⟩
      have hown2 := owns_kept hown hks (fun g hg => by have := hne g hg; omega)
      clear hO2 c4 c5 f4 f5 HP
      generalize (U2.setCell ⟨b, 0, none⟩ (.slice sa (pack (packL ws m bs ++ [1])).length scap)).setCell ⟨b + 1, 0, none⟩ (.int .i64 0) = U3 at *
      refine ⟨by simp, .inl ⟨_, _, rfl, run_takeDeferred em2, ?_⟩⟩
      refine ⟨by simp, .inl ⟨_, _, rfl, run_takeDeferred ((World.putObj_heap_other (by omega)).trans em1), ?_⟩⟩
      have hkp : Keep (fun j => j = vb + 3 ∨ j = b + 5) U3 ((U3.putObj (vb + 3) (.deferred none)).putObj (b + 5) (.deferred none)) := ((Keep.refl (fun j => j = vb + 3 ∨ j = b + 5) U3).putObj _ _ (fun _ => .inl rfl)).putObj _ _ (fun _ => .inr rfl)
      refine ⟨_, results_cell2 rfl _ _ _ ⟨b, 0, none⟩ ⟨b + 1, 0, none⟩ (.slice sa (pack (packL ws m bs ++ [1])).length scap) (.int .i64 0) rfl rfl (loadVar22 (cell_of (hkp.obj e4 (by omega)) 0)) (loadVar23 (cell_of (hkp.obj e5 (by omega)) 0)), ?_, .inl ⟨hok, _, rfl, owns_kept hown2 hkp (fun g hg => ?_)⟩⟩
      · exact (hK2.trans hks (fun i hi e => by omega)).trans hkp (fun i hi e => by omega)
      · rintro (e | e)
        · subst e
          rcases hown2.2 with ⟨h, _⟩ | ⟨g2, _, _, h, _, hg2, _⟩
          · rw [h] at hg; cases hg
          · rw [h] at hg
            obtain rfl : g2 = vb + 3 := by simpa [Value.ownBlock] using hg
            rw [em2] at hg2; cases hg2
        · subst e
          rcases hown2.2 with ⟨h, _⟩ | ⟨g2, _, _, h, _, hg2, _⟩
          · rw [h] at hg; cases hg
          · rw [h] at hg
            obtain rfl : g2 = b + 5 := by simpa [Value.ownBlock] using hg
            rw [em1] at hg2; cases hg2
    case stop2 =>
      rintro j U ⟨rfl, hx⟩ hD
      rw [hsz3] at hD ⊢
      gi_wp2
      have hv := HV.out
      refine ⟨by simp, .inl ⟨_, _, rfl, run_takeDeferred hD, ?_⟩⟩
      refine ⟨by simp, .inl ⟨_, _, rfl, run_takeDeferred ((World.putObj_heap_other (by omega)).trans hx.mark), ?_⟩⟩
      have hkp : Keep (fun j => j = vb + 3 ∨ j = b + 5) U ((U.putObj (vb + 3) (.deferred none)).putObj (b + 5) (.deferred none)) := ((Keep.refl (fun j => j = vb + 3 ∨ j = b + 5) U).putObj _ _ (fun _ => .inl rfl)).putObj _ _ (fun _ => .inr rfl)
      refine ⟨_, results_cell2 rfl _ _ _ ⟨b, 0, none⟩ ⟨b + 1, 0, none⟩ (.slice none 0 0) (.int .i64 2) rfl rfl (loadVar22 (cell_of (hkp.obj hx.r4 (by omega)) 0)) (loadVar23 (cell_of (hkp.obj hx.r5 (by omega)) 0)), hx.keep.trans hkp (fun i hi e => by omega), .inr ⟨hx.bad, rfl⟩⟩

end Go.Proofs.Ytkljidigmolmmaa

namespace Go.Proofs.Ytkljidigmolmmaa
open Go.RowKit Go.Shelf
set_option linter.unusedVariables false

theorem made_is {ws : List Nat} {m : Nat} (hc : IsCode ws m) {a : Option Addr} {cap gb off : Nat} {W : World} (hB : Bytes W a cap gb off ws) : Calls Try.prog 21 #[.slice a ws.length cap] W fun e w' => e = .returned (.tuple #[.int .i64 (m : Int), .bool true]) ∧ w' = W := by
  refine (makeCode_any a cap gb off ws W hB).mono ?_
  rintro e w' ⟨l, rfl, h, rfl⟩
  rw [hc.codeB.1] at h ⊢
  rw [h rfl, hc.codeM]
  exact ⟨rfl, rfl⟩
theorem made_not {ws : List Nat} (hc : codeB ws = false) {a : Option Addr} {cap gb off : Nat} {W : World} (hB : Bytes W a cap gb off ws) : Calls Try.prog 21 #[.slice a ws.length cap] W fun e w' => ∃ l, e = .returned (.tuple #[.int .i64 l, .bool false]) ∧ w' = W := by
  refine (makeCode_any a cap gb off ws W hB).mono ?_
  rintro e w' ⟨l, rfl, h, rfl⟩
  rw [hc]
  exact ⟨l, rfl, rfl⟩

/-- New over whatever bytes. -/
theorem newB_bad (a : Option Addr) (cap gb off : Nat) (bs : List Nat) (w : World) (hB : Bytes w a cap gb off bs) (hl : bs.length ≤ 140737488351232) (h0 : bs[bs.length - 1]?.getD 0 = 0) :
    Calls Try.prog 29 #[.slice a bs.length cap] w fun e w' => e = .returned (.tuple #[.pointer none, .int .i64 11]) ∧ w' = w := by
  cases hn : bs.length with
  | zero => exact Tl.new_none a cap w
  | succ k =>
    obtain rfl := hB.here (i := k) (by omega)
    refine Tl.new_zero gb off cap k w (by omega) ?_
    rw [hB.cells k (by omega)]
    rw [hn, Nat.add_sub_cancel] at h0
    rw [h0]; rfl
theorem newB_good (a : Option Addr) (cap gb off : Nat) (bs : List Nat) (w : World) (hB : Bytes w a cap gb off bs) (hl : bs.length ≤ 140737488351232) (h0 : bs[bs.length - 1]?.getD 0 ≠ 0) :
    Calls Try.prog 29 #[.slice a bs.length cap] w fun e w' => ∃ rb g, e = .returned (.tuple #[.pointer (some ⟨rb, 0, none⟩), .int .i64 0]) ∧ w.heap.size ≤ rb ∧ w.heap.size ≤ g ∧ At w' rb g bs 0 ∧ Keep noBlock w w' := by
  cases hn : bs.length with
  | zero => rw [List.length_eq_zero_iff.1 hn] at h0; simp at h0
  | succ k =>
    obtain rfl := hB.here (i := k) (by omega)
    rw [hn, Nat.add_sub_cancel] at h0
    refine (Tl.new_mark gb off cap k _ bs hn (by omega) hB.lt w rfl h0 hB.cells).mono ?_
    rintro e w' ⟨rb, g, rfl, h1, h2, h3, h4⟩
    exact ⟨rb, g, rfl, h1, h2, ⟨by simpa using h3, by decide⟩, h4⟩

/-- Do n words come to just the tail's beginning? -/
def unpOk (ws : List Nat) (m : Nat) (bs : List Nat) (n : Nat) : Bool := decide (bs[bs.length - 1]?.getD 0 ≠ 0 ∧ posU ws m bs n = Tl.tailLen bs)
/-- What Unpack answers where the weights make a code. -/
def UnpPost (ws : List Nat) (m : Nat) (bs : List Nat) (n : Nat) (w : World) (e : Ending) (w' : World) : Prop :=
  Keep noBlock w w' ∧ ((unpOk ws m bs n = true ∧ ∃ v, e = .returned (.tuple #[v, .int .i64 0]) ∧ w'.ownsRow 0 5 1 v n (u8s ((List.range n).map (symU ws m bs)))) ∨ (unpOk ws m bs n = false ∧ e = .returned (.tuple #[.slice none 0 0, .int .i64 11])))

set_option maxRecDepth 100000 in
set_option maxHeartbeats 4000000 in
theorem unpack_any (a : Option Addr) (cap gb off : Nat) (ws : List Nat) (m : Nat) (a2 : Option Addr) (cap2 gb2 off2 : Nat) (bs : List Nat) (n : Nat) (w : World) (hB : Bytes w a cap gb off ws) (hB2 : Bytes w a2 cap2 gb2 off2 bs) (hc : IsCode ws m) (hl : bs.length ≤ 140737488351232) (hn : n ≤ 131072) :
    Calls Try.prog 12 #[.slice a ws.length cap, .slice a2 bs.length cap2, .int .i64 (n : Int)] w fun e w' => UnpPost ws m bs n w e w' := by
  have HM := (show Hid (Calls Try.prog 21 _ w _) from made_is hc hB)
  have hm11 := hc.m11
  have hn1 : ¬ (n : Int) < 0 := by omega
  have hn2 : ¬ (131072 : Int) < (n : Int) := by omega
  by_cases h0 : bs[bs.length - 1]?.getD 0 = 0
  · have HN := (show Hid (Calls Try.prog 29 _ w _) from newB_bad a2 cap2 gb2 off2 bs w hB2 hl h0)
    have HB := (show Hid (unpOk ws m bs n = false) from decide_eq_false (fun h => h.1 h0))
    generalize bs.length = n2 at *
    generalize ws.length = n1 at *
    clear hB hB2 hc hl
    go_enter Try.func12, Try.ntmps12
    go_wp2_with (first | (go_at_call 21; refine HM.out.mono ?_; rintro e w' ⟨rfl, rfl⟩) | (go_at_call 29; refine HN.out.mono ?_; rintro e w' ⟨rfl, rfl⟩))
    go_ret2
    exact ⟨Keep.refl _ _, .inr ⟨HB.out, rfl⟩⟩
  · have HN := (show Hid (Calls Try.prog 29 _ w _) from newB_good a2 cap2 gb2 off2 bs w hB2 hl h0)
    have HH := (show Hid (Bytes w a cap gb off ws ∧ IsCode ws m ∧ bs[bs.length - 1]?.getD 0 ≠ 0 ∧ n ≤ 131072) from ⟨hB, hc, h0, hn⟩)
    have hgw : ws ≠ [] → gb < w.heap.size := fun h => hB.block h
    have hwne : ws ≠ [] := by have := hc.len2; intro e; rw [e] at this; simp at this
    have HG := (show Hid (gb < w.heap.size) from hgw hwne)
    have hTl := Tl.tailLen_le bs hB2.lt
    have hpl := posU_le ws m bs n
    have hpl2 : n * (m + 1) ≤ 131072 * 12 := Nat.mul_le_mul hn (by omega)
    have HT := (show Hid (Tl.tailLen bs < 1125899906842624 ∧ posU ws m bs n ≤ 1572864) from ⟨by omega, Nat.le_trans hpl (Nat.le_trans hpl2 (by decide))⟩)
    obtain ⟨n1, hn1'⟩ : ∃ n1, n1 = ws.length := ⟨_, rfl⟩
    obtain ⟨n2, hn2'⟩ : ∃ n2, n2 = bs.length := ⟨_, rfl⟩
    have HL := (show Hid (n1 = ws.length) from hn1')
    rw [← hn1'] at HM ⊢
    rw [← hn2'] at HN ⊢
    clear hB hB2 hc hl h0 hgw hwne hTl hpl hpl2 hn1' hn2' hn
    go_enter Try.func12, Try.ntmps12
    go_wp2_with (first | (go_at_call 21; refine HM.out.mono ?_; rintro e w' ⟨rfl, rfl⟩))
    refine HN.out.mono ?_
    rintro e w1 ⟨rb, g, rfl, h1, h2, hA, hK1⟩
    have HR := (show Hid (Calls Try.prog 30 _ w1 _) from readWords_any rb g bs a cap gb off ws m n w1 hA (HH.out.1.keep hK1 (fun _ h => h)) HH.out.2.1 HH.out.2.2.2 (by have := HG.out; omega))
    rw [← HL.out] at HR
    clear hA
    go_wp2_with fail
    refine HR.out.mono ?_
    rintro e w2 ⟨v, rfl, hown, hA2, hK2, hnew⟩
    obtain ⟨sa, scap, rfl⟩ := owns_form hown
    have HLf := (show Hid (Calls Try.prog 31 _ w2 _) from hA2.left)
    have HE := (show Hid (w2.ownsRow 0 5 1 (.slice sa n scap) n (u8s ((List.range n).map (symU ws m bs))) ∧ Keep noBlock w' w2) from ⟨hown, hK1.trans hK2 (fun i hi e => by omega)⟩)
    clear HR hown hA2 hK1 hK2 hnew
    go_wp2_with fail
    refine HLf.out.mono ?_
    rintro e w3 ⟨rfl, q, rfl⟩
    have hT := HT.out
    have HD := (show Hid (unpOk ws m bs n = decide (posU ws m bs n = Tl.tailLen bs)) from by
      unfold unpOk
      rw [Bool.eq_iff_iff, decide_eq_true_iff, decide_eq_true_iff]
      exact ⟨fun h => h.2, fun h => ⟨HH.out.2.2.1, h⟩⟩)
    clear HLf
    generalize posU ws m bs n = p at *
    generalize Tl.tailLen bs = T at *
    obtain ⟨z, hz⟩ : ∃ z : Int, z = (T : Int) - ((p + m : Nat) : Int) + (m : Int) := ⟨_, rfl⟩
    have hz2 : (T : Int) - ((p : Int) + (m : Int)) + (m : Int) = z := by omega
    have hzl : -4503599627370496 < z ∧ z < 4503599627370496 := by omega
    have HZ := (show Hid _ from hz)
    clear hz
    rw [show (((p + m : Nat) : Int)) = (p : Int) + (m : Int) from by omega]
    by_cases hp : p = T
    · have hz0 : (z != 0) = false := by have := HZ.out; simp; omega
      have HP := (show Hid (p = T) from hp)
      clear hp
      go_wp2_with fail
      go_ret2
      exact ⟨HE.out.2.trans' (keep_drewN w2 q), .inl ⟨by rw [HD.out]; exact decide_eq_true HP.out, _, rfl, HE.out.1⟩⟩
    · have hz0 : (z != 0) = true := by have := HZ.out; simp; omega
      go_wp2_with fail
      go_ret2
      exact ⟨HE.out.2.trans' (keep_drewN w2 q), .inr ⟨by rw [HD.out]; exact decide_eq_false hp, rfl⟩⟩

end Go.Proofs.Ytkljidigmolmmaa

namespace Go.Proofs.Ytkljidigmolmmaa
open Go.RowKit Go.Shelf
set_option linter.unusedVariables false

/-- append, whose run is known. -/
theorem wpList_append_run {ops : Array Oper} {rest : List Oper} {o : Oper} {a : Act} {Q : Exit → Act → World → Prop} (w : World) (hgd : o.guard = none) (s x : Operand) (t : TypeId)
    (ho : o.op = .call { callee := .builtin .append, args := #[s, x], argTypes := #[t, t] }) (v sv v' : Value) (w' : World) (hs : a.eval s = v) (hx : a.eval x = sv)
    (hr : (Builtin.append_ #[t, t] o.type #[v, sv]).run Try.prog w = .ok v' w') (hk : wpList Try.prog ops Q rest (a.put o.dst v') w') : wpList Try.prog ops Q (o :: rest) a w := by
  refine wpList_plain hgd fun K hK => ?_
  unfold Oper.wp execOp
  simp only [ho, resolve, invoke, builtin, Sem.run_bind, Sem.run_pure, Result.andThen_ok, List.map_toArray, List.map_cons, List.map_nil, hs, hx, hr]
  exact hK _ _ hk
theorem step_append_run {ops : Array Oper} {o : Oper} {a : Act} {K : Act → World → Prop} {Q : Exit → Act → World → Prop} {E : Prop} (w : World) (hgd : o.guard = none) (s x : Operand) (t : TypeId)
    (ho : o.op = .call { callee := .builtin .append, args := #[s, x], argTypes := #[t, t] }) (v sv v' : Value) (w' : World) (hs : a.eval s = v) (hx : a.eval x = sv)
    (hr : (Builtin.append_ #[t, t] o.type #[v, sv]).run Try.prog w = .ok v' w') (hk : K (a.put o.dst v') w') : if Region.wanted o (yielded ops a.tmps) = true then Oper.wp Try.prog o a w K Q else E := by
  have hw : Region.wanted o (yielded ops a.tmps) = true := by simp [Region.wanted, hgd]
  rw [if_pos hw]
  unfold Oper.wp execOp
  simp only [ho, resolve, invoke, builtin, Sem.run_bind, Sem.run_pure, Result.andThen_ok, List.map_toArray, List.map_cons, List.map_nil, hs, hx, hr]
  exact hk

/-- A byte more, behind a row of one's own. -/
theorem own_push {W : World} {v : Value} {M : List Nat} (h : W.ownsRow 0 5 1 v M.length (u8s M)) (x : Nat) (hl : M.length ≤ 1000000) :
    ∃ v' W', (Builtin.append_ #[22, 22] 22 #[v, .slice (some ⟨W.heap.size, 0, none⟩) 1 1]).run Try.prog (W.alloc (.cells #[.int .u8 (x : Int)] 5)) = .ok v' W' ∧ W'.ownsRow 0 5 1 v' (M ++ [x]).length (u8s (M ++ [x])) ∧ Keep (fun k => v.ownBlock = some k) W W' ∧ (v'.ownBlock = v.ownBlock ∨ ∃ k, v'.ownBlock = some k ∧ W.heap.size ≤ k) := by
  have hka : Keep noBlock W (W.alloc (.cells #[.int .u8 (x : Int)] 5)) := (Keep.refl _ W).alloc _
  have hs : SrcB (W.alloc (.cells #[.int .u8 (x : Int)] 5)) (.slice (some ⟨W.heap.size, 0, none⟩) 1 1) [x] := .inr ⟨_, 1, rfl, fun j u hu => by
    have hj : j < 1 := by have := (List.getElem?_eq_some_iff.1 hu).1; rwa [u8s_length] at this
    obtain rfl : j = 0 := by omega
    rw [← hu, addO]
    exact cell_of (World.alloc_heap_new W _) 0⟩
  obtain ⟨v', W', hr, ho, hk, hm⟩ := run_append_all (W.alloc (.cells #[.int .u8 (x : Int)] 5)) 22 v M [x] (owns_kept h hka (fun _ _ h => h)) (by simp; omega) _ hs
  refine ⟨v', W', hr, ho, (hka.mono (fun _ _ h => h.elim)).trans hk (fun _ _ h => h), ?_⟩
  rcases hm with e | ⟨k, e, hk⟩
  · exact .inl e
  · exact .inr ⟨k, e, by rw [World.size_alloc] at hk; omega⟩

/-- How many bytes a description has whose first byte is h. -/
def usedN (h : Nat) : Nat := if h ≤ 127 then 1 + h else 1 + (h - 127 + 1) / 2
set_option maxHeartbeats 400000 in
theorem describedIn_any (h : Nat) (hh : h < 256) (w : World) : Calls Try.prog 16 #[.int .u8 (h : Int)] w fun e w' => e = .returned (.int .i64 ((usedN h : Nat) : Int)) ∧ w' = w := by
  unfold usedN
  by_cases h1 : h ≤ 127
  · rw [if_pos h1]
    have hI : (h : Int) ≤ 127 := by omega
    go_enter Try.func16, Try.ntmps16
    go_wp2
    go_ret
    exact ⟨by simp, rfl⟩
  · rw [if_neg h1]
    have hI : ¬ (h : Int) ≤ 127 := by omega
    obtain ⟨d, hd⟩ : ∃ d, d = (h - 127 + 1) / 2 := ⟨_, rfl⟩
    rw [← hd]
    have hdI : ((h : Int) - 127 + 1) / 2 = (d : Int) := by omega
    have hdT : ((h : Int) - 127 + 1).tdiv 2 = (d : Int) := by rw [Int.tdiv_eq_ediv_of_nonneg (by omega)]; exact hdI
    have hhI : (h : Int) < 256 := by omega
    have hd2 : (d : Int) < 100 := by omega
    clear hd
    go_enter Try.func16, Try.ntmps16
    go_wp2
    go_ret
    exact ⟨by simp, rfl⟩

/-- The k-th weight of four bits. -/
def fourW (bs : List Nat) (k : Nat) : Nat := if k % 2 = 1 then bs[k / 2]?.getD 0 % 16 else bs[k / 2]?.getD 0 / 16
theorem fourW_lt (bs : List Nat) (k : Nat) (h : ∀ j : Nat, bs[j]?.getD 0 < 256) : fourW bs k < 16 := by
  have := h (k / 2)
  unfold fourW
  split <;> omega
theorem and15 (x : Nat) (h : x < 256) : bits .and .u8 (x : Int) 15 = ((x % 16 : Nat) : Int) := by
  revert h; revert x; decide +kernel

set_option maxRecDepth 100000 in
set_option maxHeartbeats 2000000 in
theorem tellFours_any (a : Option Addr) (cap gb off : Nat) (bs : List Nat) (n : Nat) (w : World) (hB : Bytes w a cap gb off bs) (hn : n ≤ 128) (hl : (n + 1) / 2 ≤ bs.length) :
    Calls Try.prog 35 #[.slice a bs.length cap, .int .i64 (n : Int)] w fun e w' => ∃ v, e = .returned v ∧ w'.ownsRow 0 5 1 v n (u8s ((List.range n).map (fourW bs))) ∧ Keep noBlock w w' ∧ ∀ k, v.ownBlock = some k → w.heap.size ≤ k := by
  have hmk : ∀ W : World, _ := fun W => run_make_u8 n n (Nat.le_refl _) (by omega) W
  have hnI : (n : Int) ≤ 128 := by omega
  have HB := (show Hid (Bytes w a cap gb off bs) from hB)
  obtain ⟨N, hN⟩ : ∃ N, N = bs.length := ⟨_, rfl⟩
  have HN := (show Hid (N = bs.length) from hN)
  rw [← hN] at hl ⊢
  have h48 := hB.len
  have hNI : (N : Int) < 281474976710656 := by omega
  clear hB hN h48
  obtain ⟨tb, htb⟩ : ∃ tb, tb = w.heap.size := ⟨_, rfl⟩
  have HR := (show Hid (RowK (w.alloc (.cells (u8s (List.replicate n 0)).toArray 5)) tb n (fourW bs) 0 ∧ Keep noBlock w (w.alloc (.cells (u8s (List.replicate n 0)).toArray 5))) from by rw [htb]; exact ⟨rowK_new w n _, (Keep.refl _ w).alloc _⟩)
  have HT := (show Hid (tb = w.heap.size) from htb)
  go_enter Try.func35, Try.ntmps35
  go_wp2
  rw [← htb]
  clear htb
  go_loopw [11] (fun v11 wr => ∃ i : Nat, v11 = .int .i64 (i : Int) ∧ i ≤ n ∧ Hid (RowK wr tb n (fourW bs) i ∧ Keep noBlock w wr)) (fun v11 _ => n - (intOf v11).toNat)
  case atStart => exact ⟨0, rfl, Nat.zero_le _, HR.out⟩
  case round =>
    clear HR
    obtain ⟨i, rfl, hi, HC⟩ := hrel
    by_cases hlt : i < n
    · have hltI : (i : Int) < (n : Int) := by omega
      obtain ⟨hRow, hK⟩ := HC.out
      obtain ⟨d, hd⟩ : ∃ d, d = i / 2 := ⟨_, rfl⟩
      have hdx : d < bs.length := by have := HN.out; omega
      obtain rfl := HB.out.here hdx
      have hgb := HB.out.block (by intro e; rw [e] at hdx; simp at hdx)
      have hBr := HB.out.keep hK (fun _ h => h)
      have c1 := hBr.cells d hdx
      have hx256 := HB.out.lt d
      have hdN : (d : Int) < (N : Int) := by have := HN.out; omega
      have hdI : (i : Int) / 2 = (d : Int) := by omega
      have hdT : (i : Int).tdiv 2 = (d : Int) := by rw [Int.tdiv_eq_ediv_of_nonneg (by omega)]; exact hdI
      obtain ⟨x0, c2⟩ := hRow.cell i hlt
      have f2 := hRow.frozen i
      have hst := hRow.step hlt
      have htw := HT.out
      have hks : ∀ x : Value, Keep (fun k => k = tb) wr (wr.setCell ⟨tb, i, none⟩ x) := fun x => (Keep.refl (fun k => k = tb) wr).setCell (p := ⟨tb, i, none⟩) (fun _ => rfl) _
      have hfw : fourW bs i = if i % 2 = 1 then bs[d]?.getD 0 % 16 else bs[d]?.getD 0 / 16 := by rw [hd]; rfl
      obtain ⟨y, hy⟩ : ∃ y, y = bs[d]?.getD 0 := ⟨_, rfl⟩
      rw [← hy] at c1 hx256 hfw
      have hyI : (y : Int) < 256 := by omega
      have hsh : (y : Int) / 2 ^ 4 = ((y / 16 : Nat) : Int) := by omega
      obtain ⟨z, hz⟩ : ∃ z, z = y / 16 := ⟨_, rfl⟩
      rw [← hz] at hsh
      have hzI : (z : Int) < 16 := by omega
      have hsh2 : (y : Int) / 16 = (z : Int) := by omega
      by_cases hp : i % 2 = 1
      · rw [if_pos hp] at hfw
        obtain ⟨u, hu⟩ : ∃ u, u = y % 16 := ⟨_, rfl⟩
        have h15 := and15 y hx256
        rw [← hu] at h15 hfw
        rw [hfw] at hst
        have hmI : (i : Int) % 2 = 1 := by omega
        have hmT : (i : Int).tmod 2 = 1 := by rw [Int.tmod_eq_emod_of_nonneg (by omega)]; exact hmI
        have c3 : (wr.setCell ⟨tb, i, none⟩ (.int .u8 (z : Int))).cell? ⟨gb, off + d, none⟩ = some (.int .u8 (y : Int)) := (World.cell?_of_block ((hks _).block gb (Nat.lt_of_lt_of_le hgb hK.size) (by omega))).trans c1
        have hR1 : RowK (wr.setCell ⟨tb, i, none⟩ (.int .u8 (z : Int))) tb n (fourW bs) i := by
          obtain ⟨cs, o1, o2, o3, o4⟩ := hRow
          refine ⟨_, set_obj o1 _ _, by rw [Array.size_setIfInBounds, o2], fun j hj => ?_, fun j hj => ?_⟩
          · rw [Array.getElem?_setIfInBounds]
            by_cases e : i = j
            · subst e; rw [if_pos rfl, if_pos (by omega)]; exact ⟨_, rfl⟩
            · rw [if_neg e]; exact o3 j hj
          · rw [Array.getElem?_setIfInBounds, if_neg (by omega)]; exact o4 j hj
        have hst2 := hR1.step hlt
        rw [hfw] at hst2
        have HST := (show Hid (RowK ((wr.setCell ⟨tb, i, none⟩ (.int .u8 (z : Int))).setCell ⟨tb, i, none⟩ (.int .u8 (u : Int))) tb n (fourW bs) (i + 1) ∧ Keep noBlock w ((wr.setCell ⟨tb, i, none⟩ (.int .u8 (z : Int))).setCell ⟨tb, i, none⟩ (.int .u8 (u : Int)))) from ⟨hst2, (hK.setCell (p := ⟨tb, i, none⟩) (fun h => by dsimp only at h; omega) _).setCell (p := ⟨tb, i, none⟩) (fun h => by dsimp only at h; omega) _⟩)
        obtain ⟨x1, c4⟩ := hR1.cell i hlt
        have f4 := hR1.frozen i
        have htn : tb ≠ gb := by omega
        clear hst hst2 hR1 hRow hK hBr hks hd hy hz hu hfw HC htw hp
        go_wp2
        go_roundw
        case rel => exact ⟨i + 1, by go_num, by omega, HST.out⟩
        case measure => simp [intOf]; omega
      · rw [if_neg hp, ← hz] at hfw
        rw [hfw] at hst
        have hmI : (i : Int) % 2 = 0 := by omega
        have hmT : (i : Int).tmod 2 = 0 := by rw [Int.tmod_eq_emod_of_nonneg (by omega)]; exact hmI
        have HST := (show Hid (RowK (wr.setCell ⟨tb, i, none⟩ (.int .u8 (z : Int))) tb n (fourW bs) (i + 1) ∧ Keep noBlock w (wr.setCell ⟨tb, i, none⟩ (.int .u8 (z : Int)))) from ⟨hst, hK.setCell (p := ⟨tb, i, none⟩) (fun h => by dsimp only at h; omega) _⟩)
        clear hst hRow hK hBr hks hd hy hz hfw HC htw hp
        go_wp2
        go_roundw
        case rel => exact ⟨i + 1, by go_num, by omega, HST.out⟩
        case measure => simp [intOf]; omega
    · obtain rfl : i = n := by omega
      have hltI : ¬ (i : Int) < (i : Int) := by omega
      go_wp2
      go_ret
      exact ⟨_, rfl, HC.out.1.owns (by omega), HC.out.2, fun j hj => by
        obtain rfl : tb = j := by simpa [Value.ownBlock] using hj
        rw [HT.out]; exact Nat.le_refl _⟩

end Go.Proofs.Ytkljidigmolmmaa

namespace Go.Proofs.Ytkljidigmolmmaa
open Go.RowKit Go.Shelf
set_option linter.unusedVariables false

/-- The weight that stands behind those told. -/
def lastW (M : List Nat) : Nat := lenN (2 ^ lenN (sumW M M.length) - sumW M M.length)
theorem wt_app (M : List Nat) (x i : Nat) (h : i < M.length) : wt (M ++ [x]) i = wt M i := by unfold wt; rw [List.getElem?_append_left h]
theorem codeB_okW {M : List Nat} (x : Nat) (h : okW M = false) : codeB (M ++ [x]) = false := by
  refine codeB_ok (decide_eq_false (fun q => (of_decide_eq_false h) (fun i hi => ?_)))
  have := q i (by simp; omega)
  rwa [wt_app M x i hi] at this

/-- What withLast answers. -/
def LastPost (M : List Nat) (w : World) (e : Ending) (w' : World) : Prop :=
  (codeB (M ++ [lastW M]) = true ∧ ∃ v, e = .returned (.tuple #[v, .bool true]) ∧ w'.ownsRow 0 5 1 v (M ++ [lastW M]).length (u8s (M ++ [lastW M])) ∧ ∀ k, v.ownBlock = some k → w.heap.size ≤ k) ∨
  (codeB (M ++ [lastW M]) = false ∧ ∃ v, e = .returned (.tuple #[v, .bool false]))

set_option maxRecDepth 100000 in
set_option maxHeartbeats 2000000 in
theorem withLast_any (w : World) (v : Value) (M : List Nat) (W : World) (hown : W.ownsRow 0 5 1 v M.length (u8s M)) (hlt : ∀ j : Nat, M[j]?.getD 0 < 256) (hl : M.length ≤ 255) (hnew : ∀ k, v.ownBlock = some k → w.heap.size ≤ k) (hsz : w.heap.size ≤ W.heap.size) :
    Calls Try.prog 18 #[v] W fun e W' => LastPost M w e W' ∧ Keep (fun k => w.heap.size ≤ k) W W' := by
  obtain ⟨a, cap, g, rfl, hB, hg⟩ := owns_bytes hown hlt (by omega)
  have HS := (show Hid (Calls Try.prog 39 _ W _) from sumOfW_any a cap g 0 M W hB (by omega))
  obtain ⟨n, hn⟩ : ∃ n, n = M.length := ⟨_, rfl⟩
  have HN := (show Hid (n = M.length) from hn)
  cases hok : okW M with
  | false =>
    have HC := (show Hid (codeB (M ++ [lastW M]) = false) from codeB_okW _ hok)
    have HS2 := (show Hid (Calls Try.prog 39 #[.slice a n cap] W fun e w' => e = .returned (.tuple #[.int .i64 0, .bool false]) ∧ w' = W) from by
      rw [hn]
      exact HS.out.mono (by
        rintro e w' ⟨h, rfl⟩
        rw [hok] at h
        rcases h with ⟨h, _⟩ | ⟨_, rfl⟩
        · cases h
        · exact ⟨rfl, rfl⟩))
    rw [← hn]
    clear HS hB hown hlt hnew hn hok hg
    go_enter Try.func18, Try.ntmps18
    go_wp2_with (go_at_call 39; refine HS2.out.mono ?_; rintro e w' ⟨rfl, rfl⟩)
    go_ret2
    exact ⟨.inr ⟨HC.out, _, rfl⟩, Keep.refl _ _⟩
  | true =>
    have HS2 := (show Hid (Calls Try.prog 39 #[.slice a n cap] W fun e w' => e = .returned (.tuple #[.int .i64 ((sumW M M.length : Nat) : Int), .bool true]) ∧ w' = W) from by
      rw [hn]
      exact HS.out.mono (by
        rintro e w' ⟨h, rfl⟩
        rw [hok] at h
        rcases h with ⟨_, rfl⟩ | ⟨h, _⟩
        · exact ⟨rfl, rfl⟩
        · cases h))
    have hsb := sumW_le M M.length (of_decide_eq_true hok)
    have hS18 : sumW M M.length < 262144 := by omega
    have hl18 : lenN (sumW M M.length) ≤ 18 := lenN_le _ _ (by omega)
    have hp18 : 2 ^ lenN (sumW M M.length) ≤ 262144 := Nat.pow_le_pow_right (n := 2) (j := 18) (by omega) hl18
    have hSP : sumW M M.length ≤ 2 ^ lenN (sumW M M.length) := by
      by_cases h0 : sumW M M.length = 0
      · rw [h0]; exact Nat.zero_le _
      · exact Nat.le_of_lt (lenN_pos _ h0).2.1
    have HL1 := (show Hid (∀ w : World, _) from fun w => len_big (sumW M M.length) (by omega) w)
    have hlw : lastW M = lenN (2 ^ lenN (sumW M M.length) - sumW M M.length) := rfl
    obtain ⟨L1, hL1⟩ : ∃ L1, L1 = lenN (sumW M M.length) := ⟨_, rfl⟩
    obtain ⟨P, hP⟩ : ∃ P, P = 2 ^ lenN (sumW M M.length) := ⟨_, rfl⟩
    obtain ⟨S, hS⟩ : ∃ S, S = sumW M M.length := ⟨_, rfl⟩
    have hPI : wrap64 ((2 : Int) ^ L1) = (P : Int) := by
      have e : (2 : Int) ^ L1 = (P : Int) := by rw [hP, hL1]; simp
      rw [e]
      rw [← hP] at hp18
      clear e hP hlw hSP
      unfold wrap64; omega
    rw [← hP] at hlw hp18 hSP
    rw [← hL1] at HL1 hl18
    rw [← hS] at HL1 HS2 hlw hSP hS18
    have hwant : P - S ≤ 262144 := by clear hPI; omega
    obtain ⟨D, hD⟩ : ∃ D, D = P - S := ⟨_, rfl⟩
    rw [← hD] at hlw
    have hDI : (P : Int) - (S : Int) = (D : Int) := by clear hPI; omega
    have HL2 := (show Hid (∀ w : World, Calls Try.prog 40 #[.int .u64 (D : Int)] w fun e w' => e = .returned (.int .i64 ((lastW M : Nat) : Int)) ∧ w' = w) from fun w => by rw [hlw]; exact len_big D (by clear hPI; omega) w)
    have hlw19 : lastW M ≤ 19 := by rw [hlw]; exact lenN_le _ _ (by clear hPI; omega)
    obtain ⟨v', W', hrun, hown', hk', hm'⟩ := own_push hown (lastW M) (by omega)
    have hnew' : ∀ k, v'.ownBlock = some k → w.heap.size ≤ k := fun k e => by
      rcases hm' with e2 | ⟨j, e2, hj⟩
      · rw [e2] at e; exact hnew k e
      · rw [e2] at e; cases e; omega
    have hlt' : ∀ j : Nat, (M ++ [lastW M])[j]?.getD 0 < 256 := lt_app hlt (lt256 (fun b hb => by rw [List.mem_singleton.1 hb]; omega))
    obtain ⟨a', cap', g', rfl, hB', hg'⟩ := owns_bytes hown' hlt' (by simp; omega)
    have HM := (show Hid (Calls Try.prog 21 _ W' _) from makeCode_any a' cap' g' 0 (M ++ [lastW M]) W' hB')
    have HF := (show Hid (W'.ownsRow 0 5 1 (.slice a' (M ++ [lastW M]).length cap') (M ++ [lastW M]).length (u8s (M ++ [lastW M])) ∧ Keep (fun k => w.heap.size ≤ k) W W' ∧ ∀ k, (Value.slice a' (M ++ [lastW M]).length cap').ownBlock = some k → w.heap.size ≤ k) from ⟨hown', hk'.mono (fun i hi e => hnew i e), hnew'⟩)
    rw [← hn] at hrun
    obtain ⟨n', hn'⟩ : ∃ n', n' = (M ++ [lastW M]).length := ⟨_, rfl⟩
    rw [← hn'] at hrun HM HF
    have HN' := (show Hid (n' = (M ++ [lastW M]).length) from hn')
    rw [← hn]
    clear HS hB hown hlt hnew hn hok hg hn' hown' hk' hm' hnew' hlt' hB' hg' hlw hD hP hL1 hS hsb hSP
    obtain ⟨lw, hlwe⟩ : ∃ lw, lastW M = lw := ⟨_, rfl⟩
    rw [hlwe] at HL2 hlw19 hrun HM HF HN'
    have HLW := (show Hid (lastW M = lw) from hlwe)
    clear hlwe
    have hlwI : (lw : Int) ≤ 19 := by omega
    have hDl : (D : Int) ≤ 262144 := by omega
    have hL1I : (L1 : Int) ≤ 18 := by omega
    clear hwant hp18 hl18
    go_enter Try.func18, Try.ntmps18
    go_wp2_with (go_at_call 39; refine HS2.out.mono ?_; rintro e w' ⟨rfl, rfl⟩)
    refine (HL1.out _).mono ?_
    rintro e w2 ⟨rfl, rfl⟩
    have HX := (show Hid _ from hS18)
    clear hS18
    go_wp2_with fail
    refine (HL2.out _).mono ?_
    rintro e w3 ⟨rfl, rfl⟩
    clear hPI hDI
    go_wp2_with (at_builtin; refine wpList_append_run _ rfl _ _ 22 rfl _ _ _ _ rfl rfl hrun ?_)
    refine HM.out.mono ?_
    rintro e w4 ⟨l, rfl, -, rfl⟩
    cases hcb : codeB (M ++ [lw]) with
    | true =>
      go_wp2_with fail
      go_ret2
      exact ⟨.inl ⟨by rw [HLW.out]; exact hcb, _, rfl, by rw [HLW.out, ← HN'.out]; exact HF.out.1, HF.out.2.2⟩, HF.out.2.1⟩
    | false =>
      go_wp2_with fail
      go_ret2
      exact ⟨.inr ⟨by rw [HLW.out]; exact hcb, _, rfl⟩, HF.out.2.1⟩

end Go.Proofs.Ytkljidigmolmmaa
