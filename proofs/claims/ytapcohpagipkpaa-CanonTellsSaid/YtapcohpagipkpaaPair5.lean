/-
  Both writers and both readers side by side.
-/
import Derived.Test.YtapcohpagipkpaaBackLaw
import Derived.Test.YtapcohpagipkpaaWriteQ
import Derived.Test.YtapcohpagipkpaaReadQ
namespace Go.Proofs.Ytapcohpagipkpaa
open Go.RowKit Go.Shelf

attribute [local go_sem] Oper.semAt_some in
set_option maxRecDepth 100000 in
set_option maxHeartbeats 4000000 in
/-- Read by too many lengths. -/
theorem read_far (rb : Nat) (a : Option Addr) (cap n : Nat) (w : World) (hl : 1024 < n) :
    Calls Try.prog 16 #[.pointer (some ⟨rb, 0, none⟩), .slice a n cap] w fun e w' => e = .returned (.tuple #[.int .i64 0, .int .i64 50]) ∧ Keep noBlock w w' := by
  have hk0 : Keep noBlock w ((w.alloc (Obj.cells #[Value.pointer (some ⟨rb, 0, none⟩)] 38)).alloc (Obj.cells #[Value.slice a n cap] 22)) := ((Keep.refl _ w).alloc _).alloc _
  have hT := tally_far a cap n ((w.alloc (Obj.cells #[Value.pointer (some ⟨rb, 0, none⟩)] 38)).alloc (Obj.cells #[Value.slice a n cap] 22)) hl
  have HT := (show Hid (∀ u : Unit, Calls Try.prog 26 _ _ _) from fun _ => hT)
  have HK := (show Hid (Keep noBlock w _) from hk0)
  clear hT hk0
  refine (callsIn_wide (n := 4)).1 ?_
  refine callsIn_of_wp_marks Try.func16 rfl trivial ?_ rfl
  simp only [Try.ntmps16, List.size_toArray, List.length_cons, List.length_nil, Nat.reduceAdd, Nat.reduceSub, Array.replicate_succ, Array.replicate_zero, List.push_toArray, List.append_toArray, List.nil_append, List.cons_append]
  gi_wp2
  refine scope_wide ?_
  gi_wp2_with (refine ⟨trivial, ?_⟩; gi_at_call 26; refine (callsIn_wide.2 (HT.out ())).mono ?_; rintro e w1 ⟨c, rfl, hk⟩; rw [arr16_lit c])
  exact ⟨_, results_tmp2 rfl _ _ _, rfl, (HK.out.trans' hk).alloc _⟩

/-- Bytes as a string. -/
def strOf (bs : List Nat) : ByteArray := (bs.map (fun b => ((b : Nat) : Int))).foldl (fun r n => r.push (UInt8.ofNat n.toNat)) ByteArray.empty
theorem run_conv {w : World} {v : Value} {bs : List Nat} (h : Src w v bs) : (convert 22 9 v).run Try.prog w = .ok (.string (strOf bs)) w := by
  rcases h with ⟨rfl, rfl⟩ | ⟨a, cap, rfl, _, hc⟩
  · rw [run_convert_bytes_string w 22 9 5 none 0 0 Try.underlying22 Try.underlying5 Try.underlying9]
    rfl
  · rw [run_convert_bytes_string w 22 9 5 (some a) bs.length cap Try.underlying22 Try.underlying5 Try.underlying9]
    refine run_bytesToString w a bs.length cap (bs.map (fun b => ((b : Nat) : Int))) ?_
    have := run_loadCells_list (P := Try.prog) w a (u8s bs) hc
    rw [u8s_length] at this
    rw [this]
    simp [u8s]

/-- Two writers that hold the same bits, in memory that is new since w and apart. -/
structure Both (w W : World) (wb vb : Nat) (u v : Value) (L : List (Fin 2)) : Prop where
  isW : IsW W wb u L
  isV : IsV W vb v L
  keep : Keep noBlock w W
  ub : ∀ k, u.ownBlock = some k → w.heap.size ≤ k ∧ k ≠ vb ∧ v.ownBlock ≠ some k
  vb' : ∀ k, v.ownBlock = some k → w.heap.size ≤ k ∧ k ≠ wb
  wbn : w.heap.size ≤ wb
  vbn : w.heap.size ≤ vb
  ne : wb ≠ vb
theorem Both.keep0 {w W W' : World} {wb vb : Nat} {u v : Value} {L : List (Fin 2)} (h : Both w W wb vb u v L) (hk : Keep noBlock W W') : Both w W' wb vb u v L :=
  ⟨h.isW.keep hk (fun h => h) (fun _ _ h => h), h.isV.keep hk (fun h => h) (fun _ _ h => h), h.keep.trans' hk, h.ub, h.vb', h.wbn, h.vbn, h.ne⟩
theorem Both.step1 {w W W1 : World} {wb vb : Nat} {u v u' : Value} {L L' : List (Fin 2)} (h : Both w W wb vb u v L) (hM : Moves W.heap.size u u') (hK : Keep (fun k => k = wb ∨ u.ownBlock = some k) W W1) (h1 : IsW W1 wb u' L') :
    IsW W1 wb u' L' ∧ IsV W1 vb v L ∧ Keep noBlock w W1 ∧ ∀ k, u'.ownBlock = some k → w.heap.size ≤ k ∧ k ≠ vb ∧ v.ownBlock ≠ some k := by
  have hwb := h.wbn
  refine ⟨h1, h.isV.keep hK ?_ ?_, h.keep.trans hK ?_, ?_⟩
  · rintro (e | e)
    · exact h.ne e.symm
    · exact (h.ub vb e).2.1 rfl
  · rintro k hk (e | e)
    · exact (h.vb' k hk).2 e
    · exact (h.ub k e).2.2 hk
  · rintro i hi (e | e)
    · omega
    · have := (h.ub i e).1; omega
  · intro k hk
    rcases hM with e | ⟨j, e, hj⟩
    · exact h.ub k (by rw [← e]; exact hk)
    · rw [e] at hk; cases hk
      have h2 := obj_lt h.isV.obj
      have h3 := h.keep.size
      refine ⟨by omega, by omega, fun hv => ?_⟩
      have := (h.isV.row.lt k hv).2; omega
theorem Both.step2 {w W1 W2 : World} {wb vb : Nat} {u v v' : Value} {L' : List (Fin 2)} (hwb : w.heap.size ≤ wb) (hvb : w.heap.size ≤ vb) (hne : wb ≠ vb)
    (hW : IsW W1 wb u L') (hK0 : Keep noBlock w W1) (hub : ∀ k, u.ownBlock = some k → w.heap.size ≤ k ∧ k ≠ vb ∧ v.ownBlock ≠ some k) (hvb' : ∀ k, v.ownBlock = some k → w.heap.size ≤ k ∧ k ≠ wb)
    (hM : Moves W1.heap.size v v') (hK : Keep (fun k => k = vb ∨ v.ownBlock = some k) W1 W2) (h2 : IsV W2 vb v' L') : Both w W2 wb vb u v' L' := by
  have hl := obj_lt hW.obj
  have hs := hK0.size
  refine ⟨hW.keep hK ?_ ?_, h2, hK0.trans hK ?_, ?_, ?_, hwb, hvb, hne⟩
  · rintro (e | e)
    · exact hne e
    · exact (hvb' wb e).2 rfl
  · rintro k hk (e | e)
    · exact (hub k hk).2.1 e
    · exact (hub k hk).2.2 e
  · rintro i hi (e | e)
    · omega
    · have := (hvb' i e).1; omega
  · intro k hk
    refine ⟨(hub k hk).1, (hub k hk).2.1, fun hv => ?_⟩
    rcases hM with e | ⟨j, e, hj⟩
    · exact (hub k hk).2.2 (by rw [← e]; exact hv)
    · rw [e] at hv; cases hv
      have := (hW.row.lt k hk).2; omega
  · intro k hk
    rcases hM with e | ⟨j, e, hj⟩
    · exact hvb' k (by rw [← e]; exact hk)
    · rw [e] at hk; cases hk
      exact ⟨by omega, by omega⟩
theorem Both.new {w W : World} (hk : Keep noBlock w W) : Both w ((W.alloc (.cells #[.slice none 0 0, .int .i64 0] 31)).alloc (.cells #[.slice none 0 0] 34)) W.heap.size (W.heap.size + 1) (.slice none 0 0) (.slice none 0 0) [] := by
  have hs := hk.size
  refine ⟨(isW_new W).keep ((Keep.refl noBlock _).alloc _) (fun h => h) (fun _ _ h => h), ?_, (hk.alloc _).alloc _, fun k e => (by cases e), fun k e => (by cases e), hs, by omega, by omega⟩
  have := isV_new (W.alloc (.cells #[.slice none 0 0, .int .i64 0] 31))
  rwa [World.size_alloc] at this

/-- What both Writes answer: the same; both hold the same bits again. -/
def Writes (w : World) (a : Option Addr) (n cap : Nat) : Prop := ∀ W wb vb u v L y, Both w W wb vb u v L → L.length ≤ 1000 →
  Calls Try.prog 11 #[.pointer (some ⟨wb, 0, none⟩), .slice a n cap, .int .i64 y] W fun e W1 => ∃ c, e = .returned (.int .i64 c) ∧
    Hid (Calls Try.prog 12 #[.pointer (some ⟨vb, 0, none⟩), .slice a n cap, .int .i64 y] W1 fun e W2 => e = .returned (.int .i64 c) ∧ ∃ u v L', L'.length ≤ L.length + 15 ∧ Both w W2 wb vb u v L')
theorem writes_no {w : World} {a : Option Addr} {n cap : Nat}
    (h1 : ∀ W wb y, Keep noBlock w W → Calls Try.prog 11 #[.pointer (some ⟨wb, 0, none⟩), .slice a n cap, .int .i64 y] W fun e W1 => e = .returned (.int .i64 50) ∧ Keep noBlock W W1)
    (h2 : ∀ W vb y, Keep noBlock w W → Calls Try.prog 12 #[.pointer (some ⟨vb, 0, none⟩), .slice a n cap, .int .i64 y] W fun e W1 => e = .returned (.int .i64 50) ∧ Keep noBlock W W1) : Writes w a n cap := by
  intro W wb vb u v L y hB _
  refine (h1 W wb y hB.keep).mono ?_
  rintro e W1 ⟨rfl, hk1⟩
  refine ⟨50, rfl, ?_⟩
  refine (h2 W1 vb y (hB.keep.trans' hk1)).mono ?_
  rintro e W2 ⟨rfl, hk2⟩
  exact ⟨rfl, u, v, L, by omega, (hB.keep0 hk1).keep0 hk2⟩
theorem writes_good {w : World} {a : Option Addr} {cap gb off : Nat} {xs : List Nat} (hR : Row w .u8 a cap gb off xs) (h8 : ∀ i, numOf xs i < 256) (hl : xs.length ≤ 1024) (hgood : isCode xs = true) : Writes w a xs.length cap := by
  intro W wb vb u v L y hB hL
  have hne : xs ≠ [] := by rintro rfl; exact absurd hgood (by decide)
  have hgw := hR.block hne
  have hRW := hR.keep hB.keep (fun _ h => h)
  by_cases hy : y < 0 ∨ (xs.length : Int) ≤ y
  · have h11 : Calls Try.prog 11 #[.pointer (some ⟨wb, 0, none⟩), .slice a xs.length cap, .int .i64 y] W fun e W1 => e = .returned (.int .i64 2) ∧ Keep noBlock W W1 := by
      by_cases h0 : y < 0
      · exact write_neg wb a cap gb off y xs W hRW hl hgood h0
      · exact write_big wb a cap gb off y xs W hRW hl hgood (hy.resolve_left h0)
    refine h11.mono ?_
    rintro e W1 ⟨rfl, hk1⟩
    refine ⟨2, rfl, ?_⟩
    refine (writeQ_arg _ a cap gb off y xs W1 (hRW.keep hk1 (fun _ h => h)) h8 hl hgood hy).mono ?_
    rintro e W2 ⟨rfl, hk2⟩
    exact ⟨rfl, u, v, L, by omega, (hB.keep0 hk1).keep0 hk2⟩
  · obtain ⟨s, rfl⟩ : ∃ s : Nat, y = (s : Int) := ⟨y.toNat, by omega⟩
    have hs : s < xs.length := by omega
    refine (write_good wb u L a cap gb off s xs W hB.isW (by omega) (by have := hB.wbn; omega) (fun e => by have := (hB.ub _ e).1; omega) hRW hl hgood hs).mono ?_
    rintro e W1 (⟨hz, rfl, hk1⟩ | ⟨hnz, rfl, u', hW', hM', hK'⟩)
    · refine ⟨2, rfl, ?_⟩
      refine (writeQ_zero _ a cap gb off s xs W1 (hRW.keep hk1 (fun _ h => h)) h8 hl hgood hs hz).mono ?_
      rintro e W2 ⟨rfl, hk2⟩
      exact ⟨rfl, u, v, L, by omega, (hB.keep0 hk1).keep0 hk2⟩
    · refine ⟨0, rfl, ?_⟩
      obtain ⟨q1, q2, q3, q4⟩ := hB.step1 hM' hK' hW'
      refine (writeQ_good vb v L a cap gb off s xs W1 q2 (by omega) (by have := hB.vbn; omega) (fun e => by have := (hB.vb' _ e).1; omega) (hR.keep q3 (fun _ h => h)) h8 hl hgood hs hnz).mono ?_
      rintro e W2 ⟨rfl, v', hV', hMv, hKv⟩
      exact ⟨rfl, u', v', L ++ wordBits xs s, by rw [List.length_append, wordBits_length]; have := num15 hgood s; omega, Both.step2 hB.wbn hB.vbn hB.ne q1 q3 q4 hB.vb' hMv hKv hV'⟩

/-- Two readers at the same bit, in memory that is new since w and apart. -/
structure TwoR (w W : World) (rb g qb gq oq : Nat) (bs : List Nat) (p : Nat) : Prop where
  isR : IsR W rb g bs p
  isQ : IsQ W qb gq oq bs p
  keep : Keep noBlock w W
  rbn : w.heap.size ≤ rb
  qbn : w.heap.size ≤ qb
  ne : rb ≠ qb
  gq_ : bs ≠ [] → g ≠ qb ∧ gq ≠ rb ∧ gq ≠ qb
theorem TwoR.keep0 {w W W' : World} {rb g qb gq oq : Nat} {bs : List Nat} {p : Nat} (h : TwoR w W rb g qb gq oq bs p) (hk : Keep noBlock W W') : TwoR w W' rb g qb gq oq bs p :=
  ⟨h.isR.keep hk (fun h => h) (fun _ h => h), h.isQ.keep hk (fun h => h) (fun _ h => h), h.keep.trans' hk, h.rbn, h.qbn, h.ne, h.gq_⟩
/-- What both Reads answer: the same. -/
def Reads (w : World) (a : Option Addr) (n cap : Nat) (bs : List Nat) : Prop := ∀ W rb g qb gq oq p, TwoR w W rb g qb gq oq bs p →
  Calls Try.prog 16 #[.pointer (some ⟨rb, 0, none⟩), .slice a n cap] W fun e W1 => ∃ (s : Nat) (c : Int), e = .returned (.tuple #[.int .i64 (s : Int), .int .i64 c]) ∧
    Hid (Calls Try.prog 17 #[.pointer (some ⟨qb, 0, none⟩), .slice a n cap] W1 fun e W2 => e = .returned (.tuple #[.int .i64 (s : Int), .int .i64 c]) ∧ ((c = 0 ∧ ∃ p', TwoR w W2 rb g qb gq oq bs p') ∨ (c ≠ 0 ∧ Keep noBlock w W2)))
theorem reads_no {w : World} {a : Option Addr} {n cap : Nat} {bs : List Nat}
    (h1 : ∀ W rb, Keep noBlock w W → Calls Try.prog 16 #[.pointer (some ⟨rb, 0, none⟩), .slice a n cap] W fun e W1 => e = .returned (.tuple #[.int .i64 0, .int .i64 50]) ∧ Keep noBlock W W1)
    (h2 : ∀ W qb, Keep noBlock w W → Calls Try.prog 17 #[.pointer (some ⟨qb, 0, none⟩), .slice a n cap] W fun e W1 => e = .returned (.tuple #[.int .i64 0, .int .i64 50]) ∧ Keep noBlock W W1) : Reads w a n cap bs := by
  intro W rb g qb gq oq p hB
  refine (h1 W rb hB.keep).mono ?_
  rintro e W1 ⟨rfl, hk1⟩
  refine ⟨0, 50, rfl, ?_⟩
  refine (h2 W1 qb (hB.keep.trans' hk1)).mono ?_
  rintro e W2 ⟨rfl, hk2⟩
  exact ⟨rfl, .inr ⟨by decide, (hB.keep.trans' hk1).trans' hk2⟩⟩
theorem reads_good {w : World} {a : Option Addr} {cap gb off : Nat} {xs bs : List Nat} (hR : Row w .u8 a cap gb off xs) (h8 : ∀ i, numOf xs i < 256) (hl : xs.length ≤ 1024) (hgood : isCode xs = true) : Reads w a xs.length cap bs := by
  intro W rb g qb gq oq p hB
  have hne : xs ≠ [] := by rintro rfl; exact absurd hgood (by decide)
  have hgw := hR.block hne
  have hRW := hR.keep hB.keep (fun _ h => h)
  have hrn := hB.rbn
  have hqn := hB.qbn
  refine (read_good rb g p bs a cap gb off xs W hB.isR (fun h => hB.isR.ne h) (fun _ => by omega) hRW hl hgood).mono ?_
  rintro e W1 ⟨l, hW, hk1, h⟩
  have hk1' : Keep noBlock w W1 := hB.keep.trans hk1 (fun i hi e => by omega)
  have hQ1 : IsQ W1 qb gq oq bs p := hB.isQ.keep hk1 (fun e => hB.ne e.symm) (fun hn e => (hB.gq_ hn).2.1 e)
  have hq : qb < W1.heap.size := by obtain ⟨_, _, _, ho⟩ := hQ1.obj; exact obj_lt ho
  have hread := readQ_good qb gq oq p bs a cap gb off xs W1 hQ1 (fun hn => (hB.gq_ hn).2.2) (by omega) hq (hR.keep hk1' (fun _ h => h)) h8 hl hgood
  rcases h with ⟨hle, ⟨sym, hsym, rfl⟩, hI⟩ | ⟨hlt, rfl, hI⟩
  · refine ⟨sym, 0, rfl, ?_⟩
    refine hread.mono ?_
    rintro e W2 ⟨l', hW', hk2, h'⟩
    obtain rfl := hW.one hW'
    rcases h' with ⟨_, ⟨sym', hsym', rfl⟩, hI'⟩ | ⟨hlt', _⟩
    · rw [hsym] at hsym'
      cases hsym'
      exact ⟨rfl, .inl ⟨rfl, p + l, hI.keep hk2 (fun e => hB.ne e) (fun hn e => (hB.gq_ hn).1 e), hI', hk1'.trans hk2 (fun i hi e => by omega), hrn, hqn, hB.ne, hB.gq_⟩⟩
    · omega
  · refine ⟨0, 10, rfl, ?_⟩
    refine hread.mono ?_
    rintro e W2 ⟨l', hW', hk2, h'⟩
    obtain rfl := hW.one hW'
    rcases h' with ⟨hle', _⟩ | ⟨_, rfl, _⟩
    · omega
    · exact ⟨rfl, .inr ⟨by decide, hk1'.trans hk2 (fun i hi e => by omega)⟩⟩

/-- What both Codes answer: the same. -/
def CodesSame (w : World) (a : Option Addr) (n cap : Nat) : Prop :=
  Calls Try.prog 8 #[.slice a n cap] w fun e w1 => ∃ (sl : Option Addr) (k cl : Nat) (c : Int), e = .returned (.tuple #[.slice sl k cl, .int .i64 c]) ∧
    Hid (Calls Try.prog 9 #[.slice a n cap] w1 fun e w2 => ∃ (sm : Option Addr) (m cm : Nat), e = .returned (.tuple #[.slice sm m cm, .int .i64 c]) ∧
      Hid (Calls Try.prog 10 #[.slice sl k cl, .slice sm m cm] w2 fun e w3 => e = .returned (.bool true) ∧ Keep noBlock w w3))
theorem codes_no {w : World} {a : Option Addr} {n cap : Nat}
    (h1 : Calls Try.prog 8 #[.slice a n cap] w fun e w1 => e = .returned (.tuple #[.slice none 0 0, .int .i64 50]) ∧ Keep noBlock w w1)
    (h2 : ∀ W, Keep noBlock w W → Calls Try.prog 9 #[.slice a n cap] W fun e w1 => e = .returned (.tuple #[.slice none 0 0, .int .i64 50]) ∧ Keep noBlock W w1) : CodesSame w a n cap := by
  refine h1.mono ?_
  rintro e w1 ⟨rfl, hk1⟩
  refine ⟨none, 0, 0, 50, rfl, ?_⟩
  refine (h2 w1 hk1).mono ?_
  rintro e w2 ⟨rfl, hk2⟩
  refine ⟨none, 0, 0, rfl, ?_⟩
  refine (same_any none none 0 0 0 0 0 0 [] [] w2 ⟨.inr rfl, fun j hj => by simp at hj, Nat.le_refl _⟩ ⟨.inr rfl, fun j hj => by simp at hj, Nat.le_refl _⟩ (by simp)).mono ?_
  rintro e w3 ⟨rfl, q, rfl⟩
  exact ⟨rfl, (hk1.trans' hk2).trans' (keep_drewN _ _)⟩
theorem codes_same {w : World} {a : Option Addr} {cap gb off : Nat} {xs : List Nat} (hR : Row w .u8 a cap gb off xs) (h8 : ∀ i, numOf xs i < 256) (hl : xs.length ≤ 1024) (hgood : isCode xs = true) : CodesSame w a xs.length cap := by
  refine (codes_good a cap gb off xs w hR hl hgood).mono ?_
  rintro e w1 ⟨cb, rfl, h1, h2, h3, hk1⟩
  refine ⟨some ⟨cb, 0, none⟩, xs.length, xs.length, 0, rfl, ?_⟩
  refine (codesQ_good a cap gb off xs w1 (hR.keep hk1 (fun _ h => h)) h8 hl hgood).mono ?_
  rintro e w2 ⟨cb2, rfl, g1, g2, g3, hk2⟩
  refine ⟨some ⟨cb2, 0, none⟩, xs.length, xs.length, rfl, ?_⟩
  have hs := same_any (some ⟨cb, 0, none⟩) (some ⟨cb2, 0, none⟩) xs.length xs.length cb cb2 0 0 _ _ w2 (h3.keep hk2 (fun _ h => h)) g3 (by simp; omega)
  rw [decide_eq_true rfl, List.length_map, List.length_range] at hs
  refine hs.mono ?_
  rintro e w3 ⟨rfl, q, rfl⟩
  exact ⟨rfl, (hk1.trans' hk2).trans' (keep_drewN _ _)⟩

end Go.Proofs.Ytapcohpagipkpaa
