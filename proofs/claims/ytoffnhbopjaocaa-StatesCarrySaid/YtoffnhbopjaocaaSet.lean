/-
  setSymbols: each state is given its symbol.
-/
import Derived.Test.YtoffnhbopjaocaaRnd
import Derived.Test.YtoffnhbopjaocaaArr
import Derived.Sort.QuietIn
namespace Go.Proofs.Ytoffnhbopjaocaa
open Go.RowKit Go.Shelf

def maxSem (ats : Array TypeId) (ty : TypeId) (args : Array Value) : Sem Value := Builtin.max_ ats ty args
theorem maxSem_eq (ats : Array TypeId) (ty : TypeId) (args : Array Value) : Builtin.max_ ats ty args = maxSem ats ty args := rfl
theorem maxSem_run (k : IntKind) (ats : Array TypeId) (ty : TypeId) (a b c : Int) (h : c = max a b) (w : World) : (maxSem ats ty #[.int k a, .int k b]).run Try.prog w = .ok (.int k c) w := by
  have e : (maxSem ats ty #[.int k a, .int k b]) = pure (.int k (if b > a then b else a)) := rfl
  rw [e, h, show max a b = (if b > a then b else a) from by split <;> omega]
  rfl
def minSem (ats : Array TypeId) (ty : TypeId) (args : Array Value) : Sem Value := Builtin.min_ ats ty args
theorem minSem_eq (ats : Array TypeId) (ty : TypeId) (args : Array Value) : Builtin.min_ ats ty args = minSem ats ty args := rfl
theorem minSem_run (k : IntKind) (ats : Array TypeId) (ty : TypeId) (a b c : Int) (h : c = min a b) (w : World) : (minSem ats ty #[.int k a, .int k b]).run Try.prog w = .ok (.int k c) w := by
  have e : (minSem ats ty #[.int k a, .int k b]) = pure (.int k (if b < a then b else a)) := rfl
  rw [e, h, show min a b = (if b < a then b else a) from by split <;> omega]
  rfl

/-- Where setSymbols stands: the states' symbols f, the row r, the box of the slice. -/
structure SS (w W : World) (S cb bx : Nat) (f : Nat → Option Nat) (r : Nat → Int) : Prop where
  tab : IsT W cb 71 4096 (fun j => (f j).getD 0) (fun _ => 0) (fun _ => 0)
  row : IsA W (bx + 1) 103 .u8 4096 r
  box : W.heap[bx]? = some (.cells #[.slice (some ⟨cb, 0, none⟩) S 4096] 27 (0, 0))
  keep : Keep (fun k => k = cb) w W
theorem SS.keeps {w W W' : World} {S cb bx : Nat} {f : Nat → Option Nat} {r : Nat → Int} (h : SS w W S cb bx f r) (hk : Keep noBlock W W') : SS w W' S cb bx f r :=
  ⟨h.tab.keep hk (fun h => h), h.row.keep hk (fun h => h), hk.obj h.box (fun h => h), h.keep.trans hk (fun _ _ h => h.elim)⟩
theorem SS.setSym {w W : World} {S cb bx : Nat} {f : Nat → Option Nat} {r : Nat → Int} (h : SS w W S cb bx f r) (hcb : cb < bx) (i s : Nat) : SS w (W.setCell ⟨cb, i * 3, none⟩ (.int .u8 (s : Int))) S cb bx (upd f i s) r := by
  have hk : Keep (fun k => k = cb) W (W.setCell ⟨cb, i * 3, none⟩ (.int .u8 (s : Int))) := Keep.setCell (S := fun k => k = cb) (p := ⟨cb, i * 3, none⟩) (Keep.refl _ W) (fun _ => rfl) _
  refine ⟨(h.tab.setSym i s).congr (fun j _ => ?_) (fun _ _ => rfl) (fun _ _ => rfl), h.row.keep hk (by omega), hk.obj h.box (by omega), h.keep.trans hk (fun _ _ h => h)⟩
  simp only [upd]; split <;> rfl
theorem SS.setRow {w W : World} {S cb bx : Nat} {f : Nat → Option Nat} {r : Nat → Int} (h : SS w W S cb bx f r) (hcb : cb < bx) (hw : w.heap.size ≤ bx) (i : Nat) (s : Int) : SS w (W.setCell ⟨bx + 1, i, none⟩ (.int .u8 s)) S cb bx f (fun j => if j = i then s else r j) := by
  have hk : Keep (fun k => k = bx + 1) W (W.setCell ⟨bx + 1, i, none⟩ (.int .u8 s)) := Keep.setCell (S := fun k => k = bx + 1) (p := ⟨bx + 1, i, none⟩) (Keep.refl _ W) (fun _ => rfl) _
  exact ⟨h.tab.keep hk (by omega), h.row.set i s, hk.obj h.box (by omega), h.keep.trans hk (fun i hi e => by omega)⟩

theorem own_obj {B : Nat} {X Y : World} {row : Option Nat} {b : Nat} {o : Obj} (hg : X.grownBy Y row) (hr : ∀ r, row = some r → B ≤ r ∧ ∃ o, X.heap[r]? = some o ∧ o.isCells = false) (h : X.heap[b]? = some o) (hc : o.isCells = true) : Y.heap[b]? = some o := by
  refine (hg.block b (obj_lt h) (fun e => ?_)).trans h
  obtain ⟨_, o', h1, h2⟩ := hr b e.symm
  rw [h] at h1
  cases h1
  rw [hc] at h2
  cases h2
theorem PBox.own {B Bs Bh S H : Nat} {X Y : World} {row : Option Nat} (h : PBox Bs Bh S H X) (hg : X.grownBy Y row) (hr : ∀ r, row = some r → B ≤ r ∧ ∃ o, X.heap[r]? = some o ∧ o.isCells = false) : PBox Bs Bh S H Y :=
  ⟨own_obj hg hr h.1 rfl, own_obj hg hr h.2 rfl⟩
theorem SS.own {B : Nat} {w X Y : World} {S cb bx : Nat} {f : Nat → Option Nat} {r : Nat → Int} {row : Option Nat} (h : SS w X S cb bx f r) (hB : w.heap.size ≤ B) (hg : X.grownBy Y row) (hr : ∀ r, row = some r → B ≤ r ∧ ∃ o, X.heap[r]? = some o ∧ o.isCells = false) : SS w Y S cb bx f r := by
  obtain ⟨cs, h1, h2⟩ := h.tab.obj
  obtain ⟨ds, d1, d2⟩ := h.row.obj
  exact ⟨⟨cs, own_obj hg hr h1 rfl, h2⟩, ⟨ds, own_obj hg hr d1 rfl, d2⟩, own_obj hg hr h.box rfl, h.keep.grown hg (fun k e hk => by have := (hr k e).1; omega)⟩

section
attribute [local go_sem] Oper.semAt_some
attribute [local go_sem] maxSem_eq
set_option maxRecDepth 100000 in
set_option maxHeartbeats 4000000 in
theorem setSymbols_any (cb S : Nat) (xs : List Int) (a : Option Addr) (cap gb off : Nat) (w : World) (hT : IsT w cb 71 4096 (fun _ => 0) (fun _ => 0) (fun _ => 0)) (hR : RowI w .i16 a cap gb off xs) (hgb : xs ≠ [] → gb ≠ cb) (hTab : Tab xs S) :
    Calls Try.prog 37 #[.slice (some ⟨cb, 0, none⟩) S 4096, .slice a xs.length cap] w fun e w' => e = .returned (.tuple #[]) ∧ IsT w' cb 71 4096 (symF xs S) (fun _ => 0) (fun _ => 0) ∧ Keep (fun k => k = cb) w w' := by
  have hcb := hT.lt
  obtain ⟨l, hS, hl5, hl12⟩ := hTab.log
  have hSb : S ≤ 4096 := by rw [hS]; exact Nat.pow_le_pow_right (n := 2) (j := 12) (by omega) hl12
  obtain ⟨v, ho⟩ := odd_pow l hl5 hl12
  rw [← hS] at ho
  have HH := (show Hid (RowI w .i16 a cap gb off xs ∧ (xs ≠ [] → gb ≠ cb) ∧ Tab xs S ∧ Odd S v ∧ S ≤ 4096) from ⟨hR, hgb, hTab, ho, hSb⟩)
  have hlen := hTab.len
  have hmx : Try.prog.follows .mixedOrders = true := by kernel_rfl
  have hc1 : ((w.alloc (.cells #[.slice (some ⟨cb, 0, none⟩) S 4096] 27)).alloc (.cells Try.zeroCells103 103)).cell? ⟨w.heap.size, 0, none⟩ = some (.slice (some ⟨cb, 0, none⟩) S 4096) := by
    have e := alloc_far (World.alloc_heap_new w (.cells #[.slice (some ⟨cb, 0, none⟩) S 4096] 27)) (.cells Try.zeroCells103 103)
    exact cell_of e 0
  have hss : SS w ((w.alloc (.cells #[.slice (some ⟨cb, 0, none⟩) S 4096] 27)).alloc (.cells Try.zeroCells103 103)) S cb w.heap.size (rareF xs S 0) (fun _ => 0) := by
    have hk : Keep noBlock w ((w.alloc (.cells #[.slice (some ⟨cb, 0, none⟩) S 4096] 27)).alloc (.cells Try.zeroCells103 103)) := ((Keep.refl _ w).alloc _).alloc _
    refine ⟨hT.keep hk (fun h => h), ?_, alloc_far (World.alloc_heap_new w _) _, hk.mono (fun _ _ h => h.elim)⟩
    have := isA_zeros (w.alloc (.cells #[.slice (some ⟨cb, 0, none⟩) S 4096] 27)) 103 .u8 4096
    rw [World.size_alloc] at this
    rw [zero103]
    exact this
  have HSS := (show Hid (SS w _ S cb w.heap.size (rareF xs S 0) (fun _ => 0)) from hss)
  obtain ⟨n, hn⟩ : ∃ n, n = xs.length := ⟨_, rfl⟩
  rw [← hn] at hlen ⊢
  have HN := (show Hid (n = xs.length) from hn)
  clear hT hR hgb hTab hn hss ho hS
  refine (callsIn_wide (n := 4)).1 ?_
  refine callsIn_of_wp_marks Try.func37 rfl trivial ?_ rfl
  simp only [Try.ntmps37, List.size_toArray, List.length_cons, List.length_nil, Nat.reduceAdd, Nat.reduceSub, Array.replicate_succ, Array.replicate_zero, List.push_toArray, List.append_toArray, List.nil_append, List.cons_append]
  gi_wp2_with fail
  generalize (w.alloc (.cells #[.slice (some ⟨cb, 0, none⟩) S 4096] 27)).alloc (.cells Try.zeroCells103 103) = W1 at hc1 HSS ⊢

  gi_quiet (fail)
  have HS2 := (show Hid (SS w (W1.drewN nq) S cb w.heap.size (rareF xs S 0) (fun _ => 0)) from HSS.out.keeps (keep_drewN W1 nq))
  clear hc1 HSS
  generalize W1.drewN nq = W2 at HS2 ⊢
  obtain ⟨bx, hbx⟩ : ∃ bx, bx = w.heap.size := ⟨_, rfl⟩
  rw [← hbx] at HS2 hcb ⊢
  have HBX := (show Hid (bx = w.heap.size) from hbx)
  clear hbx
  gi_wp2_with fail
  gi_loopw [5, 6, 15] (fun v5 v6 v15 wr => ∃ (i m h : Nat) (r : Nat → Int), v15 = .int .i64 (i : Int) ∧ v5 = .int .i64 (m : Int) ∧ v6 = .int .i64 (h : Int) ∧ i ≤ n ∧
    Hid (m = (rowL xs i).length ∧ h + nr xs i = S ∧ (∀ j, j < m → r j = (((rowL xs i)[j]?.getD 0 : Nat) : Int)) ∧ SS w wr S cb bx (rareF xs S i) r)) (fun _ _ v15 _ => n - (intOf v15).toNat)
  case atStart => exact ⟨0, 0, S, fun _ => 0, rfl, rfl, rfl, Nat.zero_le _, rfl, rfl, fun j hj => by omega, HS2.out⟩
  case round =>
    clear HS2
    obtain ⟨i, m, h, r, rfl, rfl, rfl, hi, HC⟩ := hrel
    by_cases hlt : i < n
    · obtain ⟨hm, hh, hr, hss⟩ := HC.out
      obtain ⟨hR, hgb, hTab, ho, -⟩ := HH.out
      have hix : i < xs.length := by have := HN.out; omega
      have hR2 := hR.keep hss.keep hgb
      obtain rfl := hR2.here hix
      have c0 := hR2.cells i hix
      have hlow := hTab.low i hix
      have hrow := hTab.row
      have hrl := rowL_grow xs (i + 1) xs.length (by omega)
      have hnr := cntP_mono (isRare xs) (i + 1) xs.length (by omega)
      have hns := nr_succ xs i
      have hrs : rowL xs (i + 1) = rowL xs i ++ List.replicate (xs[i]?.getD 0).toNat i := rfl
      have hfs : rareF xs S (i + 1) = if xs[i]?.getD 0 = -1 then upd (rareF xs S i) (S - nr xs (i + 1)) i else rareF xs S i := rfl
      have hrlen : (rowL xs (i + 1)).length + nr xs (i + 1) ≤ S := by
        obtain ⟨T, hT⟩ := hrl
        rw [hT, List.length_append] at hrow
        unfold nr at hrow ⊢
        omega
      obtain ⟨c, hc⟩ : ∃ c, c = xs[i]?.getD 0 := ⟨_, rfl⟩
      rw [← hc] at c0 hlow hns hrs hfs
      have hrsl : (rowL xs (i + 1)).length = m + c.toNat := by rw [hrs, List.length_append, List.length_replicate, hm]
      have hcb2 : c ≤ 4096 := by omega
      have hltI : (i : Int) < (n : Int) := by omega
      have hi256 : (i : Int) < 256 := by omega
      have hnI : (n : Int) ≤ 256 := by omega
      have hmx2 : ∀ W, _ := fun W => maxSem_run .i16 #[42, 42] 42 c 0 ((c.toNat : Nat) : Int) (by omega) W
      obtain ⟨cn, hcn⟩ : ∃ cn, cn = c.toNat := ⟨_, rfl⟩
      rw [← hcn] at hmx2 hrs hrsl
      have hmb : m + cn ≤ 4096 := by omega
      have HR := (show Hid (rowL xs (i + 1) = rowL xs i ++ List.replicate cn i ∧ m = (rowL xs i).length ∧ (∀ j, j < m → r j = (((rowL xs i)[j]?.getD 0 : Nat) : Int)) ∧ cn = c.toNat) from ⟨hrs, hm, hr, hcn⟩)
      by_cases hc1 : c = -1
      · rw [if_pos hc1] at hns hfs
        obtain ⟨h2, hh2⟩ : ∃ h2, h = h2 + 1 := ⟨h - 1, by omega⟩
        have hhI : (h : Int) - 1 = (h2 : Int) := by omega
        have hh2S : (h2 : Int) < (S : Int) := by omega
        have hfr := hss.tab.frozen (h2 * 3)
        have cx : wr.cell? ⟨bx, 0, none⟩ = some (.slice (some ⟨cb, 0, none⟩) S 4096) := cell_of hss.box 0
        have hce := (hss.tab.cells h2 (by omega)).1
        have hss2 := hss.setSym hcb h2 i
        rw [show S - nr xs (i + 1) = h2 from by omega] at hfs
        rw [← hfs] at hss2
        have HSS := (show Hid (SS w (wr.setCell ⟨cb, h2 * 3, none⟩ (.int .u8 (i : Int))) S cb bx (rareF xs S (i + 1)) r ∧ h2 + nr xs (i + 1) = S) from ⟨hss2, by omega⟩)
        subst hc1
        clear hm hh hr hss hR hgb hTab ho hR2 hlow hrow hrl hnr hns hrs hfs hrlen hrsl hss2 HC hc hcn
        gi_wp2_with fail
        generalize wr.setCell ⟨cb, h2 * 3, none⟩ (.int .u8 (i : Int)) = W3 at HSS ⊢
        gi_loopw [5, 32] (fun v5 v32 wr => ∃ (q p : Nat) (r2 : Nat → Int), v32 = .int .i16 (q : Int) ∧ v5 = .int .i64 (p : Int) ∧ q ≤ cn ∧ Hid (p = m + q ∧ (∀ j, j < m → r2 j = r j) ∧ (∀ j, m ≤ j → j < m + q → r2 j = (i : Int)) ∧ SS w wr S cb bx (rareF xs S (i + 1)) r2)) (fun _ v32 _ => cn - (intOf v32).toNat)
        case atStart => exact ⟨0, m, r, rfl, rfl, Nat.zero_le _, rfl, fun _ _ => rfl, fun j h1 h2 => by omega, HSS.out.1⟩
        case round =>
          have HS3 := (show Hid (h2 + nr xs (i + 1) = S) from HSS.out.2)
          clear HSS
          obtain ⟨q, p, r2, rfl, rfl, hq, HC2⟩ := hrel
          obtain ⟨hp, hr1, hr2, hss⟩ := HC2.out
          have hp4 : p ≤ 4096 := by omega
          by_cases hql : q < cn
          · have hqI : (q : Int) < (cn : Int) := by omega
            have hq2 : (q : Int) < 4096 := by omega
            have hpI : (p : Int) < 4096 := by omega
            have cp := hss.row.cell p (by omega)
            have fp := hss.row.frozen p
            have hss2 := hss.setRow hcb (by have := HBX.out; omega) p (i : Int)
            have HS4 := (show Hid (SS w (wr.setCell ⟨bx + 1, p, none⟩ (.int .u8 (i : Int))) S cb bx (rareF xs S (i + 1)) (fun j => if j = p then (i : Int) else r2 j)) from hss2)
            clear hp hr1 hr2 hss hss2
            gi_wp2_with fail
            go_roundw
            case rel =>
              obtain ⟨hp, hr1, hr2, -⟩ := HC2.out
              refine ⟨q + 1, p + 1, _, by go_num, by go_num, by omega, by omega, fun j hj => ?_, fun j h1 h2 => ?_, HS4.out⟩
              · rw [if_neg (by omega)]; exact hr1 j hj
              · split
                · rfl
                · exact hr2 j h1 (by omega)
            case measure => simp [intOf]; omega
          · obtain rfl : q = cn := by omega
            have hqI : ¬ (q : Int) < (q : Int) := by omega
            clear hp hr1 hr2 hss
            gi_wp2_with fail
            go_roundw
            case rel =>
              obtain ⟨hp, hr1, hr2, hss⟩ := HC2.out
              obtain ⟨e1, e2, e3, -⟩ := HR.out
              refine ⟨i + 1, p, h2, r2, by go_num, rfl, rfl, by omega, by rw [e1, List.length_append, List.length_replicate, hp, e2], HS3.out, fun j hj => ?_, hss⟩
              rw [e1]
              by_cases hjm : j < m
              · rw [List.getElem?_append_left (by omega), hr1 j hjm]; exact e3 j hjm
              · rw [List.getElem?_append_right (by omega), List.getElem?_replicate, if_pos (by omega), hr2 j (by omega) (by omega)]; rfl
            case measure => simp [intOf]; omega
      · rw [if_neg hc1] at hns hfs
        rw [← hfs] at hss
        obtain ⟨h2, hh2⟩ : ∃ h2, h2 = h := ⟨_, rfl⟩
        have hcb1 : (c == -1) = false := by simpa using hc1
        have HSS := (show Hid (SS w wr S cb bx (rareF xs S (i + 1)) r ∧ h2 + nr xs (i + 1) = S) from ⟨hss, by omega⟩)
        subst hh2
        clear hm hh hr hss hR hgb hTab ho hR2 hlow hrow hrl hnr hns hrs hfs hrlen hrsl HC hc hcn
        gi_wp2_with fail
        gi_loopw [5, 32] (fun v5 v32 wr => ∃ (q p : Nat) (r2 : Nat → Int), v32 = .int .i16 (q : Int) ∧ v5 = .int .i64 (p : Int) ∧ q ≤ cn ∧ Hid (p = m + q ∧ (∀ j, j < m → r2 j = r j) ∧ (∀ j, m ≤ j → j < m + q → r2 j = (i : Int)) ∧ SS w wr S cb bx (rareF xs S (i + 1)) r2)) (fun _ v32 _ => cn - (intOf v32).toNat)
        case atStart => exact ⟨0, m, r, rfl, rfl, Nat.zero_le _, rfl, fun _ _ => rfl, fun j h1 h2 => by omega, HSS.out.1⟩
        case round =>
          have HS3 := (show Hid (h2 + nr xs (i + 1) = S) from HSS.out.2)
          clear HSS
          obtain ⟨q, p, r2, rfl, rfl, hq, HC2⟩ := hrel
          obtain ⟨hp, hr1, hr2, hss⟩ := HC2.out
          have hp4 : p ≤ 4096 := by omega
          by_cases hql : q < cn
          · have hqI : (q : Int) < (cn : Int) := by omega
            have hq2 : (q : Int) < 4096 := by omega
            have hpI : (p : Int) < 4096 := by omega
            have cp := hss.row.cell p (by omega)
            have fp := hss.row.frozen p
            have hss2 := hss.setRow hcb (by have := HBX.out; omega) p (i : Int)
            have HS4 := (show Hid (SS w (wr.setCell ⟨bx + 1, p, none⟩ (.int .u8 (i : Int))) S cb bx (rareF xs S (i + 1)) (fun j => if j = p then (i : Int) else r2 j)) from hss2)
            clear hp hr1 hr2 hss hss2
            gi_wp2_with fail
            go_roundw
            case rel =>
              obtain ⟨hp, hr1, hr2, -⟩ := HC2.out
              refine ⟨q + 1, p + 1, _, by go_num, by go_num, by omega, by omega, fun j hj => ?_, fun j h1 h2 => ?_, HS4.out⟩
              · rw [if_neg (by omega)]; exact hr1 j hj
              · split
                · rfl
                · exact hr2 j h1 (by omega)
            case measure => simp [intOf]; omega
          · obtain rfl : q = cn := by omega
            have hqI : ¬ (q : Int) < (q : Int) := by omega
            clear hp hr1 hr2 hss
            gi_wp2_with fail
            go_roundw
            case rel =>
              obtain ⟨hp, hr1, hr2, hss⟩ := HC2.out
              obtain ⟨e1, e2, e3, -⟩ := HR.out
              refine ⟨i + 1, p, h2, r2, by go_num, rfl, rfl, by omega, by rw [e1, List.length_append, List.length_replicate, hp, e2], HS3.out, fun j hj => ?_, hss⟩
              rw [e1]
              by_cases hjm : j < m
              · rw [List.getElem?_append_left (by omega), hr1 j hjm]; exact e3 j hjm
              · rw [List.getElem?_append_right (by omega), List.getElem?_replicate, if_pos (by omega), hr2 j (by omega) (by omega)]; rfl
            case measure => simp [intOf]; omega
    · obtain rfl : i = n := by omega
      obtain ⟨hm, hh, hr, hss⟩ := HC.out
      obtain ⟨hR, hgb, hTab, ho, -⟩ := HH.out
      have hnx := HN.out
      have cx : wr.cell? ⟨bx, 0, none⟩ = some (.slice (some ⟨cb, 0, none⟩) S 4096) := cell_of hss.box 0
      have hrow := hTab.row
      have hltI : ¬ (i : Int) < (i : Int) := by omega
      have HF := (show Hid (m = h ∧ SS w wr S cb bx (putF xs S h 0) r ∧ (∀ j, j < h → r j = ((rowAt xs j : Nat) : Int)) ∧ h = S - nr xs xs.length ∧ bx + 1 < wr.heap.size) from by
        have e : m = h := by rw [hnx] at hm hh; omega
        refine ⟨e, ?_, fun j hj => ?_, by rw [hnx] at hh; omega, hss.row.lt⟩
        · show SS w wr S cb bx (rareF xs S xs.length) r
          rw [← hnx]; exact hss
        · rw [hr j (by omega), hnx]; rfl)
      have hhS : h ≤ S := by omega
      clear hm hh hr hss hR hgb hTab hnx hrow HC HN
      gi_wp2_with fail
      refine ⟨trivial, (places_in Fence.wide 3 trivial rfl _ _ _).mono ?_⟩
      rintro e w4 ⟨rfl, rfl⟩
      obtain ⟨pb, hpb⟩ : ∃ pb, pb = wr.heap.size := ⟨_, rfl⟩
      have e1 := World.alloc_heap_new wr (.cells #[.int .i64 (S : Int)] 3)
      have e2 := World.alloc_heap_new (wr.alloc (.cells #[.int .i64 (S : Int)] 3)) (.cells #[.int .i64 (h : Int)] 3)
      have e3 := alloc_far e1 (.cells #[.int .i64 (h : Int)] 3)
      have hz4 : ((wr.alloc (.cells #[.int .i64 (S : Int)] 3)).alloc (.cells #[.int .i64 (h : Int)] 3)).heap.size = pb + 2 := by rw [World.size_alloc, World.size_alloc, hpb]
      rw [World.size_alloc] at e2
      have hk4 : Keep noBlock wr ((wr.alloc (.cells #[.int .i64 (S : Int)] 3)).alloc (.cells #[.int .i64 (h : Int)] 3)) := ((Keep.refl _ wr).alloc _).alloc _
      have hss4 := HF.out.2.1.keeps hk4
      have f5 : bx + 1 < wr.heap.size := HF.out.2.2.2.2
      have HF2 := (show Hid ((∀ j, j < h → r j = ((rowAt xs j : Nat) : Int)) ∧ h = S - nr xs xs.length) from ⟨HF.out.2.2.1, HF.out.2.2.2.1⟩)
      rw [← hpb] at e2 e3 f5 ⊢
      have HS4 := (show Hid (SS w _ S cb bx (putF xs S h 0) r ∧ PBox pb (pb + 1) S h _ ∧ _) from ⟨hss4, ⟨e3, e2⟩, hz4⟩)
      generalize (wr.alloc (.cells #[.int .i64 (S : Int)] 3)).alloc (.cells #[.int .i64 (h : Int)] 3) = W4 at HS4 ⊢
      clear e1 e2 e3 hz4 hk4 hss4 hpb HF cx
      gi_wp2
      have hz4 := HS4.out.2.2
      refine range_places (by omega) pb (pb + 1) S h v ho hSb hhS rfl rfl (fun k V => SS w V S cb bx (putF xs S h k) r ∧ PBox pb (pb + 1) S h V) (fun _ _ => False)
        (fun k a' _ => a' = { tmps := #[.slice (some ⟨cb, 0, none⟩) S 4096, .slice a i cap, .pointer (some ⟨bx, 0, none⟩), undef, .pointer (some ⟨bx + 1, 0, none⟩), .int .i64 (m : Int), .int .i64 (h : Int), u7, u8, .int .i64 (k : Int), .int .i64 ((place S h k : Nat) : Int), .slice (some ⟨cb, 0, none⟩) S 4096, .int .i64 (S : Int), .slice a i cap, .int .i64 (i : Int), .int .i64 (i : Int), .bool false, u17, u18, u19, u20, u21, u22, u23, u24, u25, u26, u27, u28, u29, u30, u31, u32, u33, u34, u35, u36, u37, u38, u39, u40, u41, .slice (some ⟨cb, 0, none⟩) S 4096, .int .i64 (S : Int), .int .i64 (h : Int), .func (.func 71) #[] #[.pointer (some ⟨pb, 0, none⟩), .pointer (some ⟨pb + 1, 0, none⟩)], .int .i64 (k : Int), .int .i64 ((place S h k : Nat) : Int), undef, undef, undef, undef, undef, undef, undef], defers := [] })
        (fun k V V' row hs hg hr => ⟨hs.1.own (by have := HBX.out; omega) hg hr, PBox.own hs.2 hg hr⟩) (fun _ _ _ _ h _ _ => h) (fun _ _ _ _ _ _ h _ _ => h)
        ⟨HS4.out.1, HS4.out.2.1⟩ (fun k V h => h.2) ?assign ?body ?done (fun _ _ h _ => h.elim)
      case assign =>
        intro k V K hk hi hK
        unfold placeV
        gi_wp2
        exact hK _ _ ⟨Nat.le_refl _, fun k' o _ ho _ => ho⟩ hi rfl
      case body =>
        rintro k a' V hk ⟨hss, hpbx⟩ rfl
        have hpl := place_lt ho h hhS k hk
        have cx : V.cell? ⟨bx, 0, none⟩ = some (.slice (some ⟨cb, 0, none⟩) S 4096) := cell_of hss.box 0
        have cr := hss.row.cell k (by omega)
        rw [HF2.out.1 k hk] at cr
        obtain ⟨x, hx⟩ : ∃ x, x = place S h k := ⟨_, rfl⟩
        obtain ⟨y, hy⟩ : ∃ y, y = rowAt xs k := ⟨_, rfl⟩
        rw [← hy] at cr
        rw [← hx] at hpl ⊢
        have fx := hss.tab.frozen (x * 3)
        have ct := (hss.tab.cells x (by omega)).1
        have hxI : (x : Int) < (S : Int) := by omega
        have hkI : (k : Int) < 4096 := by omega
        have hss2 := hss.setSym hcb x y
        have e : putF xs S h (k + 1) = upd (putF xs S h k) x y := by rw [hx, hy]; rfl
        rw [← e] at hss2
        have HG := (show Hid (SS w (V.setCell ⟨cb, x * 3, none⟩ (.int .u8 (y : Int))) S cb bx (putF xs S h (k + 1)) r ∧ PBox pb (pb + 1) S h V ∧ SS w V S cb bx (putF xs S h k) r) from ⟨hss2, hpbx, hss⟩)
        have fx2 : V.drew.frozen? ⟨cb, x * 3, none⟩ = false := fx
        have ct2 : V.drew.cell? ⟨cb, x * 3, none⟩ = _ := ct
        clear hss hpbx hss2 e hx hy HS4
        gi_wp2
        refine region_round (fun w' => w'.cell? ⟨bx, 0, none⟩ = some (.slice (some ⟨cb, 0, none⟩) S 4096) ∧ w'.cell? ⟨bx + 1, k, none⟩ = some (.int .u8 (y : Int))) (by kernel_rfl) hmx ⟨cx, cr⟩ (fun hS => ?_)
        refine wpAnyH_take (i := 0) (v := ?_) rfl (by kernel_rfl) (by kernel_rfl) (by kernel_rfl) (fun _ _ _ h => h) (Or.inl ⟨by rfl, ?_⟩) (by assumption) ?_
        rotate_left 1
        · intro w hSw; (try dsimp only at hSw); (go_simp <;> with_reducible rfl)
        simp only [Act.put, List.getElem_toArray, List.getElem_cons_zero, List.setIfInBounds_toArray, List.set_cons_zero, List.set_cons_succ]
        refine wpAnyH_take (i := 1) (v := ?_) rfl (by kernel_rfl) (by kernel_rfl) (by kernel_rfl) (fun _ _ _ h => h) (Or.inl ⟨by rfl, ?_⟩) (by assumption) ?_
        rotate_left 1
        · intro w hSw; (try dsimp only at hSw); (go_simp <;> with_reducible rfl)
        simp only [Act.put, List.getElem_toArray, List.getElem_cons_zero, List.getElem_cons_succ, List.setIfInBounds_toArray, List.set_cons_zero, List.set_cons_succ]
        refine wpAnyH_take (i := 2) (v := ?_) rfl (by kernel_rfl) (by kernel_rfl) (by kernel_rfl) (fun _ _ _ h => h) (Or.inl ⟨by rfl, ?_⟩) (by assumption) ?_
        rotate_left 1
        · intro w hSw; (try dsimp only at hSw); (go_simp <;> with_reducible rfl)
        simp only [Act.put, List.getElem_toArray, List.getElem_cons_zero, List.getElem_cons_succ, List.setIfInBounds_toArray, List.set_cons_zero, List.set_cons_succ]
        refine wpAnyH_take (i := 3) (v := ?_) rfl (by kernel_rfl) (by kernel_rfl) (by kernel_rfl) (fun _ _ _ h => h) (Or.inl ⟨by rfl, ?_⟩) (by assumption) ?_
        rotate_left 1
        · intro w hSw; (try dsimp only at hSw); (go_simp <;> with_reducible rfl)
        simp only [Act.put, List.getElem_toArray, List.getElem_cons_zero, List.getElem_cons_succ, List.setIfInBounds_toArray, List.set_cons_zero, List.set_cons_succ]
        refine wpAnyH_take (i := 4) (v := ?_) rfl (by kernel_rfl) (by kernel_rfl) (by kernel_rfl) (fun _ _ _ h => h) (Or.inl ⟨by rfl, ?_⟩) (by assumption) ?_
        rotate_left 1
        · intro w hSw; (try dsimp only at hSw); (go_simp <;> with_reducible rfl)
        simp only [Act.put, List.getElem_toArray, List.getElem_cons_zero, List.getElem_cons_succ, List.setIfInBounds_toArray, List.set_cons_zero, List.set_cons_succ]
        refine wpAnyH_take (i := 5) (v := ?_) rfl (by kernel_rfl) (by kernel_rfl) (by kernel_rfl) (fun _ _ _ h => h) (Or.inl ⟨by rfl, ?_⟩) (by assumption) ?_
        rotate_left 1
        · intro w hSw; (try dsimp only at hSw); (go_simp <;> with_reducible rfl)
        simp only [Act.put, List.getElem_toArray, List.getElem_cons_zero, List.getElem_cons_succ, List.setIfInBounds_toArray, List.set_cons_zero, List.set_cons_succ]
        refine wpAnyH_take (i := 6) (v := ?_) rfl (by kernel_rfl) (by kernel_rfl) (by kernel_rfl) (fun _ _ _ h => h) (Or.inl ⟨by rfl, ?_⟩) (by assumption) ?_
        rotate_left 1
        · intro w hSw; (try dsimp only at hSw); (go_simp <;> with_reducible rfl)
        simp only [Act.put, List.getElem_toArray, List.getElem_cons_zero, List.getElem_cons_succ, List.setIfInBounds_toArray, List.set_cons_zero, List.set_cons_succ]
        refine wpAnyH_ready (rs := [7]) (by kernel_rfl) (by simp) ?_
        refine AllReadyH.cons rfl (fun K hK => ?_) AllReadyH.nil
        rw [if_pos (by rfl)]
        simp only [List.getElem_toArray, List.getElem_cons_zero, List.getElem_cons_succ]
        go_simp
        have hs3 := HG.out.2.2
        have hss4 : SS w (V.drew.setCell ⟨cb, x * 3, none⟩ (.int .u8 (y : Int))) S cb bx (putF xs S h (k + 1)) r := HG.out.1.keeps ⟨rfl, rfl, rfl, Nat.le_refl _, fun _ _ _ => rfl⟩
        refine hK.out _ _ ⟨cell_of hss4.box 0, (hss4.row.cell k (by omega)).trans (by rw [← cr, hs3.row.cell k (by omega)])⟩ (fun hS => ?_)
        refine wpAnyH_done (by kernel_rfl) ?_ _
        simp only [onward]
        have hss5 : SS w (V.setCell ⟨cb, x * 3, none⟩ (.int .u8 (y : Int))).drew S cb bx (putF xs S h (k + 1)) r := HG.out.1.keeps ⟨rfl, rfl, rfl, Nat.le_refl _, fun _ _ _ => rfl⟩
        have hkv : Keep (fun j => j = cb) V (V.setCell ⟨cb, x * 3, none⟩ (.int .u8 (y : Int))).drew := (Keep.setCell (S := fun j => j = cb) (p := ⟨cb, x * 3, none⟩) (Keep.refl _ V) (fun _ => rfl) _).drew
        have hb := HG.out.2.1
        refine ⟨⟨hkv.size, fun j o _ hjo hc => hkv.obj hjo ?_⟩, hss5, hkv.obj hb.1 (by omega), hkv.obj hb.2 (by omega)⟩
        rintro rfl
        obtain ⟨cs, hcs, _⟩ := hs3.tab.obj
        rw [hcs] at hjo; cases hjo; cases hc
      case done =>
        rintro V ⟨hss, hpbx⟩ hK
        gi_wp2
        refine ⟨by simp, .inl ⟨_, _, rfl, run_takeDeferred hK, ?_⟩⟩
        have hk : Keep (fun k => k = W4.heap.size) V (V.putObj W4.heap.size (.deferred none)) := (Keep.refl _ V).putObj _ _ (fun _ => rfl)
        refine ⟨_, results_none rfl _ _ _, rfl, ?_, ?_⟩
        · have := hss.tab.keep hk (by omega)
          unfold symF symO
          rw [← HF2.out.2]
          exact this
        · exact hss.keep.trans hk (fun j hj e => by have := HBX.out; omega)
end

end Go.Proofs.Ytoffnhbopjaocaa
