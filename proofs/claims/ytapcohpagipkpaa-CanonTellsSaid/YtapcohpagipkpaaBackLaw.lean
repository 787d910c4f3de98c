/-
  CanonBack, walked: words that are written are read as they were.
-/
import Derived.Test.YtapcohpagipkpaaLaidW
import Derived.Test.YtapcohpagipkpaaAwake
import Derived.Deep.AppendLies
namespace Go.Proofs.Ytapcohpagipkpaa
open Go.RowKit Go.Shelf

theorem isW_new (w : World) : IsW (w.alloc (.cells #[.slice none 0 0, .int .i64 0] 31)) w.heap.size (.slice none 0 0) [] :=
  ⟨World.alloc_heap_new _ _, ⟨rfl, .inl ⟨rfl, rfl⟩⟩⟩

/-- A slice of integers of any sign, which lies in block gb from off on. -/
structure RowZ (w : World) (a : Option Addr) (gb off : Nat) (ys : List Int) : Prop where
  at_ : a = some (⟨gb, off, none⟩ : Addr) ∨ ys = []
  cells : ∀ j, j < ys.length → w.cell? ⟨gb, off + j, none⟩ = some (.int .i64 (ys[j]?.getD 0))
theorem RowZ.keep {w w' : World} {S : Nat → Prop} {a : Option Addr} {gb off : Nat} {ys : List Int} (h : RowZ w a gb off ys) (hk : Keep S w w') (hS : ¬ S gb) : RowZ w' a gb off ys :=
  ⟨h.at_, fun j hj => (World.cell?_of_block (hk.block gb (World.block_lt_of_cell? _ _ (h.cells j hj)) hS)).trans (h.cells j hj)⟩

/-- A writer of the bits L and a row of the numbers S, in memory that is new since w. -/
structure MineB (w W : World) (wb : Nat) (v vl : Value) (L : List (Fin 2)) (S : List Nat) : Prop where
  isW : IsW W wb v L
  own : W.ownsRow w.heap.size 3 1 vl S.length (ints S)
  keep : Keep noBlock w W
  wbn : w.heap.size ≤ wb
  ub : ∀ k, v.ownBlock = some k → w.heap.size ≤ k
/-- The rows' blocks are three. -/
theorem MineB.far {w W : World} {wb : Nat} {v vl : Value} {L : List (Fin 2)} {S : List Nat} (h : MineB w W wb v vl L S) : vl.ownBlock ≠ some wb ∧ ∀ k, v.ownBlock = some k → vl.ownBlock ≠ some k := by
  refine ⟨owns_ne h.own h.isW.obj (by decide), fun k e => ?_⟩
  rcases h.isW.row.2 with ⟨rfl, _⟩ | ⟨g, cap, cur, rfl, _, hg, _⟩
  · cases e
  · cases e
    exact owns_ne h.own hg (by decide)
theorem MineB.write {w W W1 : World} {wb : Nat} {v v' vl : Value} {L M : List (Fin 2)} {S : List Nat} (h : MineB w W wb v vl L S) (hW : IsW W1 wb v' M) (hM : Moves W.heap.size v v') (hK : Keep (fun k => k = wb ∨ v.ownBlock = some k) W W1) : MineB w W1 wb v' vl M S := by
  have hs := h.keep.size
  refine ⟨hW, owns_keep h.own hK ?_, h.keep.trans hK ?_, h.wbn, ?_⟩
  · rintro k e (rfl | e2)
    · exact h.far.1 e
    · exact h.far.2 k e2 e
  · rintro i hi (rfl | e)
    · exact absurd h.wbn (by omega)
    · exact absurd (h.ub i e) (by omega)
  · intro k e
    rcases hM with e2 | ⟨j, e2, hj⟩
    · exact h.ub k (by rw [← e2]; exact e)
    · rw [e2] at e; cases e; omega
theorem MineB.kept {w W W1 : World} {wb : Nat} {v vl : Value} {L : List (Fin 2)} {S : List Nat} (h : MineB w W wb v vl L S) (hK : Keep noBlock W W1) : MineB w W1 wb v vl L S :=
  ⟨h.isW.keep hK (fun h => h) (fun _ _ h => h), owns_keep h.own hK (fun _ _ h => h), h.keep.trans' hK, h.wbn, h.ub⟩
theorem MineB.append {w W W1 : World} {wb : Nat} {v vl vl' : Value} {L : List (Fin 2)} {S S' : List Nat} (h : MineB w W wb v vl L S) (hown : W1.ownsRow w.heap.size 3 1 vl' S'.length (ints S')) (hg : W.grownBy W1 vl.ownBlock) : MineB w W1 wb v vl' L S' := by
  have hK : Keep (fun k => vl.ownBlock = some k) W W1 := (Keep.refl _ W).grown hg (fun k e _ => e)
  refine ⟨h.isW.keep hK h.far.1 (fun k e => h.far.2 k e), hown, h.keep.trans hK (fun i hi e => ?_), h.wbn, h.ub⟩
  have := (h.own.lt i e).1
  omega

/-- A reader at bit p and the row of numbers, in memory that is new since w. -/
structure MineS (w W : World) (rb g : Nat) (vl : Value) (bs : List Nat) (p : Nat) (S : List Nat) : Prop where
  isR : IsR W rb g bs p
  own : W.ownsRow w.heap.size 3 1 vl S.length (ints S)
  keep : Keep noBlock w W
  rbn : w.heap.size ≤ rb
theorem MineS.far {w W : World} {rb g : Nat} {vl : Value} {bs : List Nat} {p : Nat} {S : List Nat} (h : MineS w W rb g vl bs p S) : vl.ownBlock ≠ some rb := by
  obtain ⟨sa, cap, _, ho⟩ := h.isR.obj
  exact owns_ne h.own ho (by decide)
theorem MineS.read {w W W1 : World} {rb g : Nat} {vl : Value} {bs : List Nat} {p q : Nat} {S : List Nat} (h : MineS w W rb g vl bs p S) (hR : IsR W1 rb g bs q) (hK : Keep (fun k => k = rb) W W1) : MineS w W1 rb g vl bs q S :=
  ⟨hR, owns_keep h.own hK (fun k e e2 => h.far (by rw [← e2]; exact e)), h.keep.trans hK (fun i hi e => absurd h.rbn (by omega)), h.rbn⟩
theorem MineS.cell {w W : World} {rb g g2 n cap : Nat} {bs : List Nat} {p : Nat} {S : List Nat} (h : MineS w W rb g (.slice (some ⟨g2, 0, none⟩) n cap) bs p S) (k : Nat) (hk : k < S.length) : W.cell? ⟨g2, k, none⟩ = some (.int .i64 ((S[k]?.getD 0 : Nat) : Int)) := by
  have hown := h.own
  rcases hown.2 with ⟨e, _⟩ | ⟨g', cap', cur, e, hb, hg, h1, h2, h3, h4⟩
  · cases e
  · simp only [Value.slice.injEq, Option.some.injEq, Addr.mk.injEq] at e
    obtain ⟨⟨rfl, _⟩, rfl, rfl⟩ := e
    have := ints_at S k hk
    rw [← h4, List.getElem?_take, if_pos (by omega)] at this
    rw [cell_of hg]
    simpa using this

set_option maxRecDepth 100000 in
set_option maxHeartbeats 4000000 in
theorem back_far (a a2 : Option Addr) (cap n m cap2 : Nat) (w : World) (hl : 1024 < n) :
    Calls Try.prog 5 #[.slice a n cap, .slice a2 m cap2] w fun e w' => e = .returned (.bool true) ∧ Keep noBlock w w' := by
  go_enter Try.func5, Try.ntmps5
  go_wp2_with fail
  refine (codes_far a cap n w hl).mono ?_
  rintro e w1 ⟨rfl, hk1⟩
  go_wp2_with fail
  refine (wakes_any _).mono ?_
  rintro e w2 ⟨rfl, hk2⟩
  go_wp2
  go_ret
  exact ⟨rfl, hk1.trans' hk2⟩

set_option maxRecDepth 100000 in
set_option maxHeartbeats 4000000 in
theorem back_bad (a a2 : Option Addr) (cap gb off m cap2 : Nat) (xs : List Nat) (w : World) (hR : Row w .u8 a cap gb off xs) (hl : xs.length ≤ 1024) (hbad : isCode xs = false) :
    Calls Try.prog 5 #[.slice a xs.length cap, .slice a2 m cap2] w fun e w' => e = .returned (.bool true) ∧ Keep noBlock w w' := by
  go_enter Try.func5, Try.ntmps5
  go_wp2_with fail
  refine (codes_bad a cap gb off xs w hR hl hbad).mono ?_
  rintro e w1 ⟨rfl, hk1⟩
  go_wp2_with fail
  refine (wakes_any _).mono ?_
  rintro e w2 ⟨rfl, hk2⟩
  go_wp2
  go_ret
  exact ⟨rfl, hk1.trans' hk2⟩

set_option maxRecDepth 100000 in
set_option maxHeartbeats 8000000 in
theorem back_good (a a2 : Option Addr) (cap gb off cap2 gb2 off2 : Nat) (xs : List Nat) (ys : List Int) (w : World) (hR : Row w .u8 a cap gb off xs) (hl : xs.length ≤ 1024) (hgood : isCode xs = true)
    (hZ : RowZ w a2 gb2 off2 ys) (hm : ys.length ≤ 140737488351232) :
    Calls Try.prog 5 #[.slice a xs.length cap, .slice a2 ys.length cap2] w fun e w' => e = .returned (.bool true) ∧ Keep noBlock w w' := by
  obtain ⟨i0, hi, hz0, hz1, hz2⟩ := info_parts info3
  have hne : xs ≠ [] := by rintro rfl; exact absurd hgood (by decide)
  have hgw := hR.block hne
  have hpos : 0 < xs.length := List.length_pos_iff.2 hne
  have hposI : ¬ ((xs.length : Int) = 0) := by omega
  have hposB : (((xs.length : Nat) : Int) == 0) = false := by simpa using hposI
  obtain rfl : a = some ⟨gb, off, none⟩ := hR.at_.resolve_right hne
  go_enter Try.func5, Try.ntmps5
  go_wp2_with fail
  refine (codes_good _ cap gb off xs w hR hl hgood).mono ?_
  rintro e w1 ⟨cb, rfl, -, -, -, hk1⟩
  have hM0 : MineB w (w1.alloc (.cells #[.slice none 0 0, .int .i64 0] 31)) w1.heap.size (.slice none 0 0) (.slice none 0 0) [] [] :=
    ⟨isW_new w1, ⟨rfl, .inl ⟨rfl, rfl⟩⟩, hk1.alloc _, hk1.size, fun k e => by cases e⟩
  have HR := (show Hid (Row w .u8 (some ⟨gb, off, none⟩) cap gb off xs ∧ RowZ w a2 gb2 off2 ys) from ⟨hR, hZ⟩)
  clear hR hZ hk1
  go_wp2_with fail
  generalize w1.alloc (.cells #[.slice none 0 0, .int .i64 0] 31) = W0 at hM0 ⊢
  generalize w1.heap.size = wb at hM0 ⊢
  clear w1
  have H0 := (show Hid (MineB w W0 wb (.slice none 0 0) (.slice none 0 0) [] []) from hM0)
  clear hM0
  go_loopw [8, 31] (fun vl vi wr => ∃ (k : Nat) (S : List Nat) (v : Value) (sa : Option Addr) (cap' : Nat), vi = .int .i64 (k : Int) ∧ vl = .slice sa S.length cap' ∧ k ≤ ys.length ∧ k ≤ 60 ∧ S.length ≤ k ∧ Hid (MineB w wr wb v (.slice sa S.length cap') (laidW xs S) S ∧ ∀ s ∈ S, s < xs.length ∧ numOf xs s ≠ 0)) (fun _ vi _ => ys.length - (intOf vi).toNat)
  case atStart => exact ⟨0, [], _, none, 0, rfl, rfl, Nat.zero_le _, Nat.zero_le _, Nat.le_refl _, H0.out, fun s hs => by cases hs⟩
  case round =>
    clear H0
    obtain ⟨k, S, v, sa, cap', rfl, rfl, hk1, hk2, hS, HM⟩ := hrel
    have hLl := laidW_le hgood S
    by_cases hgo : k < ys.length ∧ k < 60
    · obtain ⟨hlt, h60⟩ := hgo
      have hZw := HR.out.2.keep HM.out.1.keep (fun h => h)
      obtain rfl : a2 = some ⟨gb2, off2, none⟩ := hZw.at_.resolve_right (by rintro rfl; simp at hlt)
      have c1 := hZw.cells k hlt
      generalize ys[k]?.getD 0 = y at c1
      obtain ⟨hr1, hr2, hr3, hr4⟩ := around_lt xs.length y hpos hl
      generalize around xs.length y = s at hr1 hr2
      have hr1' := hr1.symm
      have hrow := HR.out.1.keep HM.out.1.keep (fun _ h => h)
      have h60i : ¬ (60 : Int) ≤ (k : Int) := by omega
      have h60b : decide ((60 : Int) ≤ (k : Int)) = false := decide_eq_false h60i
      clear hZw hr1
      go_wp2_with fail
      refine (write_good wb v (laidW xs S) (some ⟨gb, off, none⟩) cap gb off s xs _ HM.out.1.isW (by omega) (by have := HM.out.1.wbn; omega) (fun e => by have := HM.out.1.ub _ e; omega) hrow hl hgood hr2).mono ?_
      rintro e w2 (⟨hz, rfl, hkq⟩ | ⟨hnz, rfl, v', hW', hMv, hKw⟩)
      · have c2 := (hrow.keep hkq (fun _ h => h)).cells s hr2
        rw [show xs[s]?.getD 0 = numOf xs s from rfl, hz] at c2
        have hM2 := HM.out.1.kept hkq
        have HA := (show Hid _ from HM.out.2)
        have HM2 := (show Hid (MineB w w2 wb v (.slice sa S.length cap') (laidW xs S) S) from hM2)
        clear hM2 HM hkq hrow c1 hr1'
        go_wp2_with fail
        go_roundw
        case rel => exact ⟨k + 1, S, v, sa, cap', by go_num, rfl, by omega, by omega, by omega, HM2.out, HA.out⟩
        case measure => simp [intOf]; omega
      · have hM2 := HM.out.1.write hW' hMv hKw
        have HA := (show Hid _ from HM.out.2)
        have hmax : S.length + 1 ≤ maxLen := by unfold maxLen; omega
        have hby : (S.length + 1) * 8 ≤ 140737488355328 := by omega
        have hsz := hM2.keep.size
        have hbase : w.heap.size ≤ (w2.alloc (.cells #[.int .i64 (s : Int)] 3)).heap.size := by simp; omega
        have HM2 := (show Hid (MineB w w2 wb v' (.slice sa S.length cap') _ S ∧ numOf xs s ≠ 0 ∧ s < xs.length) from ⟨hM2, hnz, hr2⟩)
        clear hM2 HM hKw hrow c1 hr1' hW' hMv hnz
        go_wp2_with (at_builtin; refine wpList_append_lies _ rfl _ _ 23 rfl w.heap.size 3 i0 (.int .i64 0) 1 8 Try.underlying23 hi hz0 hz1 hz2 rfl (by decide) (.slice sa S.length cap') S.length (ints S) rfl (HM2.out.1.own.alloc _) ⟨w2.heap.size, 0, none⟩ 1 1 [.int .i64 (s : Int)] rfl rfl (cell_one_new _ _ _) (by simp [Value.oneCell']) (by decide) hmax hby hbase (w2.heap.size + 1) (by simp) ?_; intro g2 cap2 w3 hown2 hgrow hat hltg)
        go_roundw
        case rel =>
          refine ⟨k + 1, S ++ [s], v', some ⟨g2, 0, none⟩, cap2, by go_num, by simp, by omega, by omega, by simp; omega, ?_, ?_⟩
          · rw [laidW_snoc]
            exact (HM2.out.1.kept ((Keep.refl _ w2).alloc _)).append (by simpa [ints] using hown2) hgrow
          · intro t ht
            rcases List.mem_append.1 ht with ht | ht
            · exact HA.out t ht
            · obtain rfl := List.mem_singleton.1 ht
              exact ⟨HM2.out.2.2, HM2.out.2.1⟩
        case measure => simp [intOf]; omega
    · have hpl : (pack (laidW xs S)).length ≤ 140737488355327 := by have := pack_room (laidW xs S); omega
      have HLL := (show Hid _ from hLl)
      have hZw := HR.out.2.keep HM.out.1.keep (fun h => h)
      clear hLl
      by_cases h60 : k < ys.length
      · obtain rfl : a2 = some ⟨gb2, off2, none⟩ := hZw.at_.resolve_right (by rintro rfl; simp at h60)
        have c1 := hZw.cells k h60
        generalize ys[k]?.getD 0 = y at c1
        have h60i : (60 : Int) ≤ (k : Int) := by omega
        have h60b : decide ((60 : Int) ≤ (k : Int)) = true := decide_eq_true h60i
        clear hZw hgo
        go_wp2_with fail
        refine (bytes_any wb v (laidW xs S) (by have := HLL.out; omega) _ HM.out.1.isW).mono ?_
        rintro e w2 ⟨v1, rfl, hown1, hK1⟩
        go_wp2_with fail
        refine (new_any _ (pack (laidW xs S)) hpl (pack_lt _) _ (Src.of_owns hown1)).mono ?_
        rintro e w3 ⟨rb, g, rfl, hrb, hg, hIR, hK2⟩
        have hMS : MineS w w3 rb g (.slice sa S.length cap') (pack (laidW xs S)) 0 S := by
          have hk := hK1.trans' hK2
          have := HM.out.1.keep.size
          have := hK1.size
          exact ⟨hIR, owns_keep HM.out.1.own hk (fun _ _ h => h), HM.out.1.keep.trans' hk, by omega⟩
        obtain ⟨bs, hbs⟩ : ∃ bs, bs = pack (laidW xs S) := ⟨_, rfl⟩
        have hroom := pack_room (laidW xs S)
        rw [← hbs] at hMS hroom
        have HB := (show Hid (bs = pack (laidW xs S) ∧ (laidW xs S).length ≤ 8 * bs.length ∧ 8 * bs.length < (laidW xs S).length + 8) from ⟨hbs, hroom⟩)
        have H1 := (show Hid (MineS w w3 rb g (.slice sa S.length cap') bs 0 S) from hMS)
        have HA := (show Hid (∀ s ∈ S, s < xs.length ∧ numOf xs s ≠ 0) from HM.out.2)
        clear hMS hroom hbs hIR hK1 hK2 hown1 hrb hg HM hpl
        go_wp2_with fail
        go_loopw [68] (fun vi wr => ∃ j : Nat, vi = .int .i64 (j : Int) ∧ j ≤ S.length ∧ Hid (MineS w wr rb g (.slice sa S.length cap') bs (laidW xs (S.take j)).length S)) (fun vi _ => S.length - (intOf vi).toNat)
        case atStart => exact ⟨0, rfl, Nat.zero_le _, H1.out⟩
        case round =>
          clear H1
          obtain ⟨j, rfl, hj, HS⟩ := hrel
          by_cases hlt2 : j < S.length
          · obtain ⟨lg, rfl⟩ : ∃ lg, sa = some ⟨lg, 0, none⟩ := by
              rcases HS.out.own.2 with ⟨e, h0⟩ | ⟨g', cap'', cur, e, _⟩
              · omega
              · simp only [Value.slice.injEq] at e
                exact ⟨g', e.1⟩
            have hc := HS.out.cell j hlt2
            have hmem : S[j]?.getD 0 ∈ S := by rw [List.getElem?_eq_getElem hlt2]; exact List.getElem_mem hlt2
            obtain ⟨hs1, hs2⟩ := HA.out _ hmem
            have hsp : laidW xs S = laidW xs (S.take j) ++ (wordBits xs (S[j]?.getD 0) ++ laidW xs (S.drop (j + 1))) := by
              rw [← List.append_assoc, ← laidW_take xs S j hlt2]
              exact laidW_split xs S (j + 1)
            have hnx : (laidW xs (S.take (j + 1))).length = (laidW xs (S.take j)).length + numOf xs (S[j]?.getD 0) := by
              rw [laidW_take xs S j hlt2, List.length_append, wordBits_length]
            generalize S[j]?.getD 0 = s at hc hs1 hs2 hsp hnx
            have HX := (show Hid (laidW xs S = _ ∧ (laidW xs (S.take (j + 1))).length = _ ∧ numOf xs s ≠ 0) from ⟨hsp, hnx, hs2⟩)
            clear hsp hnx hmem hs2
            go_wp2_with fail
            refine (read_good rb g _ bs (some ⟨gb, off, none⟩) cap gb off xs _ HS.out.isR (fun h => HS.out.isR.ne h) (fun _ => by have := HS.out.rbn; omega) (HR.out.1.keep HS.out.keep (fun _ h => h)) hl hgood).mono ?_
            rintro e w4 ⟨l, hW, hK, h⟩
            have hwb := word_back hgood s hs1 HX.out.2.2 _ _ _ HX.out.1 l (by rw [← HB.out.1]; exact hW)
            rw [← HB.out.1] at hwb
            rcases h with ⟨hle, ⟨sym, hsym, rfl⟩, hI⟩ | ⟨hbig, -⟩
            rotate_left
            · have := hwb.2.1; omega
            obtain rfl := hwb.2.2 sym hsym
            have hnext : MineS w w4 rb g (.slice (some ⟨lg, 0, none⟩) S.length cap') bs (laidW xs (S.take (j + 1))).length S := HS.out.read (by rw [HX.out.2.1, ← hwb.1]; exact hI) hK
            have HN := (show Hid (MineS w w4 rb g (.slice (some ⟨lg, 0, none⟩) S.length cap') bs (laidW xs (S.take (j + 1))).length S) from hnext)
            clear hnext hwb hsym hI hK hW HX hc hle
            go_wp2_with fail
            go_roundw
            case rel => exact ⟨j + 1, by go_num, by omega, HN.out⟩
            case measure => simp [intOf]; omega
          · obtain rfl : j = S.length := by omega
            have hIR := HS.out.isR
            rw [List.take_length] at hIR
            have h8 : (bs.length : Int) * 8 - ((laidW xs S).length : Int) < 8 := by have := HB.out.2.2; omega
            have h8b : decide ((bs.length : Int) * 8 - ((laidW xs S).length : Int) < 8) = true := decide_eq_true h8
            go_wp2_with fail
            refine (left_any rb g bs _ _ hIR).mono ?_
            rintro e w5 ⟨rfl, nq, rfl⟩
            go_wp2_with fail
            refine (wakes_any _).mono ?_
            rintro e w6 ⟨rfl, hk6⟩
            go_wp2_with fail
            go_ret
            exact ⟨rfl, (HS.out.keep.trans' (keep_drewN _ _)).trans' hk6⟩
      · obtain rfl : k = ys.length := by omega
        clear hZw hgo
        go_wp2_with fail
        refine (bytes_any wb v (laidW xs S) (by have := HLL.out; omega) _ HM.out.1.isW).mono ?_
        rintro e w2 ⟨v1, rfl, hown1, hK1⟩
        go_wp2_with fail
        refine (new_any _ (pack (laidW xs S)) hpl (pack_lt _) _ (Src.of_owns hown1)).mono ?_
        rintro e w3 ⟨rb, g, rfl, hrb, hg, hIR, hK2⟩
        have hMS : MineS w w3 rb g (.slice sa S.length cap') (pack (laidW xs S)) 0 S := by
          have hk := hK1.trans' hK2
          have := HM.out.1.keep.size
          have := hK1.size
          exact ⟨hIR, owns_keep HM.out.1.own hk (fun _ _ h => h), HM.out.1.keep.trans' hk, by omega⟩
        obtain ⟨bs, hbs⟩ : ∃ bs, bs = pack (laidW xs S) := ⟨_, rfl⟩
        have hroom := pack_room (laidW xs S)
        rw [← hbs] at hMS hroom
        have HB := (show Hid (bs = pack (laidW xs S) ∧ (laidW xs S).length ≤ 8 * bs.length ∧ 8 * bs.length < (laidW xs S).length + 8) from ⟨hbs, hroom⟩)
        have H1 := (show Hid (MineS w w3 rb g (.slice sa S.length cap') bs 0 S) from hMS)
        have HA := (show Hid (∀ s ∈ S, s < xs.length ∧ numOf xs s ≠ 0) from HM.out.2)
        clear hMS hroom hbs hIR hK1 hK2 hown1 hrb hg HM hpl
        go_wp2_with fail
        go_loopw [68] (fun vi wr => ∃ j : Nat, vi = .int .i64 (j : Int) ∧ j ≤ S.length ∧ Hid (MineS w wr rb g (.slice sa S.length cap') bs (laidW xs (S.take j)).length S)) (fun vi _ => S.length - (intOf vi).toNat)
        case atStart => exact ⟨0, rfl, Nat.zero_le _, H1.out⟩
        case round =>
          clear H1
          obtain ⟨j, rfl, hj, HS⟩ := hrel
          by_cases hlt2 : j < S.length
          · obtain ⟨lg, rfl⟩ : ∃ lg, sa = some ⟨lg, 0, none⟩ := by
              rcases HS.out.own.2 with ⟨e, h0⟩ | ⟨g', cap'', cur, e, _⟩
              · omega
              · simp only [Value.slice.injEq] at e
                exact ⟨g', e.1⟩
            have hc := HS.out.cell j hlt2
            have hmem : S[j]?.getD 0 ∈ S := by rw [List.getElem?_eq_getElem hlt2]; exact List.getElem_mem hlt2
            obtain ⟨hs1, hs2⟩ := HA.out _ hmem
            have hsp : laidW xs S = laidW xs (S.take j) ++ (wordBits xs (S[j]?.getD 0) ++ laidW xs (S.drop (j + 1))) := by
              rw [← List.append_assoc, ← laidW_take xs S j hlt2]
              exact laidW_split xs S (j + 1)
            have hnx : (laidW xs (S.take (j + 1))).length = (laidW xs (S.take j)).length + numOf xs (S[j]?.getD 0) := by
              rw [laidW_take xs S j hlt2, List.length_append, wordBits_length]
            generalize S[j]?.getD 0 = s at hc hs1 hs2 hsp hnx
            have HX := (show Hid (laidW xs S = _ ∧ (laidW xs (S.take (j + 1))).length = _ ∧ numOf xs s ≠ 0) from ⟨hsp, hnx, hs2⟩)
            clear hsp hnx hmem hs2
            go_wp2_with fail
            refine (read_good rb g _ bs (some ⟨gb, off, none⟩) cap gb off xs _ HS.out.isR (fun h => HS.out.isR.ne h) (fun _ => by have := HS.out.rbn; omega) (HR.out.1.keep HS.out.keep (fun _ h => h)) hl hgood).mono ?_
            rintro e w4 ⟨l, hW, hK, h⟩
            have hwb := word_back hgood s hs1 HX.out.2.2 _ _ _ HX.out.1 l (by rw [← HB.out.1]; exact hW)
            rw [← HB.out.1] at hwb
            rcases h with ⟨hle, ⟨sym, hsym, rfl⟩, hI⟩ | ⟨hbig, -⟩
            rotate_left
            · have := hwb.2.1; omega
            obtain rfl := hwb.2.2 sym hsym
            have hnext : MineS w w4 rb g (.slice (some ⟨lg, 0, none⟩) S.length cap') bs (laidW xs (S.take (j + 1))).length S := HS.out.read (by rw [HX.out.2.1, ← hwb.1]; exact hI) hK
            have HN := (show Hid (MineS w w4 rb g (.slice (some ⟨lg, 0, none⟩) S.length cap') bs (laidW xs (S.take (j + 1))).length S) from hnext)
            clear hnext hwb hsym hI hK hW HX hc hle
            go_wp2_with fail
            go_roundw
            case rel => exact ⟨j + 1, by go_num, by omega, HN.out⟩
            case measure => simp [intOf]; omega
          · obtain rfl : j = S.length := by omega
            have hIR := HS.out.isR
            rw [List.take_length] at hIR
            have h8 : (bs.length : Int) * 8 - ((laidW xs S).length : Int) < 8 := by have := HB.out.2.2; omega
            have h8b : decide ((bs.length : Int) * 8 - ((laidW xs S).length : Int) < 8) = true := decide_eq_true h8
            go_wp2_with fail
            refine (left_any rb g bs _ _ hIR).mono ?_
            rintro e w5 ⟨rfl, nq, rfl⟩
            go_wp2_with fail
            refine (wakes_any _).mono ?_
            rintro e w6 ⟨rfl, hk6⟩
            go_wp2_with fail
            go_ret
            exact ⟨rfl, (HS.out.keep.trans' (keep_drewN _ _)).trans' hk6⟩

end Go.Proofs.Ytapcohpagipkpaa
