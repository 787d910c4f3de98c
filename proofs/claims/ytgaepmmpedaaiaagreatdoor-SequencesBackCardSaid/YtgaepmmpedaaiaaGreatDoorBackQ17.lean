/-
  tables: all three tables of a section.
  steps: what its walk leans on.
-/
import Derived.Test.YtgaepmmpedaaiaaGreatDoorBackQ16
namespace Go.Proofs.YtgaepmmpedaaiaaGreatDoor
open Go.RowKit Go.Shelf
set_option linter.unusedVariables false

/-- What is left of a section, d tables ahead of its tail. -/
def restT (R : Nat → RowP) (rest : List Nat) : Nat → List Nat
  | 0 => rest
  | d + 1 => (R (2 - d)).told ++ restT R rest d
theorem restT_all (R : Nat → RowP) (rest : List Nat) : tolds R 3 ++ rest = restT R rest 3 := by
  simp [restT, tolds]
theorem restT_len (R : Nat → RowP) (rest : List Nat) (h : ∀ v, v < 3 → (R v).told.length ≤ 481) : ∀ d, (restT R rest d).length ≤ rest.length + d * 481
  | 0 => by simp [restT]
  | d + 1 => by
    show ((R (2 - d)).told ++ restT R rest d).length ≤ _
    rw [List.length_append]
    have := restT_len R rest h d
    have := h (2 - d) (by omega)
    omega
/-- The slices of the tables that are read. -/
def usedV (R : Nat → RowP) (tg cap : Nat → Nat) (i v : Nat) : Value := if v < i then .slice (some ⟨tg v, 0, none⟩) (2 ^ (R v).T.l) (cap v) else .slice none 0 0
def usedA (R : Nat → RowP) (tg cap : Nat → Nat) (i : Nat) : Array Value := #[usedV R tg cap i 0, usedV R tg cap i 1, usedV R tg cap i 2]
theorem usedA_at (R : Nat → RowP) (tg cap : Nat → Nat) (i v : Nat) (hv : v < 3) : (usedA R tg cap i)[v]? = some (usedV R tg cap i v) := by
  rcases (show v = 0 ∨ v = 1 ∨ v = 2 by omega) with rfl | rfl | rfl <;> rfl
theorem usedA_set (R : Nat → RowP) (tg cap : Nat → Nat) (i t c : Nat) (hi : i < 3) : (usedA R tg cap i).setIfInBounds i (.slice (some ⟨t, 0, none⟩) (2 ^ (R i).T.l) c) = usedA R (updN tg i t) (updN cap i c) (i + 1) := by
  rcases (show i = 0 ∨ i = 1 ∨ i = 2 by omega) with rfl | rfl | rfl <;> rfl
structure TbSt (w wr : World) (sb g cK g0 g1 g2 ub ab wk : Nat) (R : Nat → RowP) (rest : List Nat) (i : Nat) (tg cap : Nat → Nat) : Prop where
  sec : Sec wr sb g (restT R rest (3 - i))
  cods : Cods wr cK g0 g1 g2
  used : wr.heap[ub]? = some (.cells (usedA R tg cap i) 30 (0, 0))
  ahead : wr.heap[ab]? = some (.cells #[.slice none 0 0, .slice none 0 0, .slice none 0 0] 30 (0, 0))
  kinds : wr.heap[wk]? = some (.cells kindsC 95 (0, 0))
  tab : ∀ v, v < i → IsTb wr (tg v) (R v).T ∧ w.heap.size ≤ tg v ∧ tg v ≠ ub
  kp : Keep (fun k => k = sb) w wr
/-- What does not change. -/
structure TbIn (w : World) (sb g cK g0 g1 g2 ub ab wk : Nat) (R : Nat → RowP) (rest : List Nat) : Prop where
  ok : ∀ v, v < 3 → ToldT (kdV v) (R v).k (R v).told (R v).T
  sbl : sb < w.heap.size ∧ g < w.heap.size ∧ cK < w.heap.size ∧ g0 < w.heap.size ∧ g1 < w.heap.size ∧ g2 < w.heap.size
  far : cK ≠ sb ∧ g0 ≠ sb ∧ g1 ≠ sb ∧ g2 ≠ sb
  new : w.heap.size ≤ ub ∧ w.heap.size ≤ ab ∧ w.heap.size ≤ wk ∧ ub ≠ ab ∧ ub ≠ wk ∧ ab ≠ wk
  len : rest.length ≤ 90000000
theorem TbSt.to {w wr w' : World} {sb g cK g0 g1 g2 ub ab wk : Nat} {R : Nat → RowP} {rest : List Nat} {i : Nat} {tg cap : Nat → Nat} (h : TbSt w wr sb g cK g0 g1 g2 ub ab wk R rest i tg cap) (hk : Keep noBlock wr w') : TbSt w w' sb g cK g0 g1 g2 ub ab wk R rest i tg cap :=
  ⟨h.sec.keep hk (fun h => h) (fun h => h), h.cods.keep hk (fun h => h) (fun h => h) (fun h => h) (fun h => h), hk.obj h.used (fun h => h), hk.obj h.ahead (fun h => h), hk.obj h.kinds (fun h => h), fun v hv => ⟨(h.tab v hv).1.keep hk (fun h => h), (h.tab v hv).2⟩, h.kp.trans hk (fun _ _ h => h.elim)⟩
/-- One table more. -/
theorem TbSt.next {w wr w3 : World} {sb g cK g0 g1 g2 ub ab wk : Nat} {R : Nat → RowP} {rest : List Nat} {i : Nat} {tg cap : Nat → Nat} (hI : TbIn w sb g cK g0 g1 g2 ub ab wk R rest) (h : TbSt w wr sb g cK g0 g1 g2 ub ab wk R rest i tg cap) (hi : i < 3) (t c : Nat)
    (h1 : IsTb w3 t (R i).T) (h2 : wr.heap.size ≤ t) (h3 : Sec w3 sb g (restT R rest (3 - (i + 1)))) (hk : Keep (fun k => k = sb) wr w3) :
    TbSt w (w3.setCell ⟨ub, i, none⟩ (.slice (some ⟨t, 0, none⟩) (2 ^ (R i).T.l) c)) sb g cK g0 g1 g2 ub ab wk R rest (i + 1) (updN tg i t) (updN cap i c) := by
  obtain ⟨s1, s2, s3, s4, s5, s6⟩ := hI.sbl
  obtain ⟨f1, f2, f3, f4⟩ := hI.far
  obtain ⟨n1, n2, n3, n4, n5, n6⟩ := hI.new
  have hwr := h.kp.size
  have hk2 : Keep (fun k => k = ub) w3 (w3.setCell ⟨ub, i, none⟩ (.slice (some ⟨t, 0, none⟩) (2 ^ (R i).T.l) c)) := (Keep.refl (fun k => k = ub) w3).setCell (p := ⟨ub, i, none⟩) (fun _ => rfl) _
  have hub : ub < wr.heap.size := obj_lt h.used
  refine ⟨h3.keep hk2 (by omega) (by omega), (h.cods.keep hk f1 f2 f3 f4).keep hk2 (by omega) (by omega) (by omega) (by omega), ?_, hk2.obj (hk.obj h.ahead (by omega)) (by omega), hk2.obj (hk.obj h.kinds (by omega)) (by omega), fun v hv => ?_, (h.kp.trans' hk).trans hk2 (fun k hk e => by omega)⟩
  · rw [← usedA_set R tg cap i t c hi]
    exact set_obj (hk.obj h.used (by omega)) i _
  · by_cases e : v = i
    · subst e
      rw [updN_self]
      exact ⟨h1.keep hk2 (by omega), by omega, by omega⟩
    · rw [updN_lt tg i t v (by omega)]
      obtain ⟨a1, a2, a3⟩ := h.tab v (by omega)
      exact ⟨(a1.keep hk (by omega)).keep hk2 a3, a2, a3⟩
theorem call_reads (i : Nat) (hi : i < 3) (args : Array Value) (W : World) : (callFunc (readNo i) args).run Tryz.prog W = .ok (.enter (readNo i) args) W := by
  rcases (show i = 0 ∨ i = 1 ∨ i = 2 by omega) with rfl | rfl | rfl <;> kernel_rfl
theorem kinds_at (i : Nat) (hi : i < 3) : kindsC[i * 2]? = some (.func (.func (readNo i)) #[] #[]) ∧ kindsC[i * 2 + 1]? = some (.func (.func (offerNo i)) #[] #[]) := by
  rcases (show i = 0 ∨ i = 1 ∨ i = 2 by omega) with rfl | rfl | rfl <;> exact ⟨rfl, rfl⟩
def TbsPost (w : World) (sb g : Nat) (R : Nat → RowP) (rest : List Nat) (e : Ending) (w' : World) : Prop :=
  ∃ tg cap : Nat → Nat, e = .returned (.tuple #[.agg (usedA R tg cap 3), .int .i64 0]) ∧ (∀ v, v < 3 → IsTb w' (tg v) (R v).T ∧ w.heap.size ≤ tg v) ∧ Sec w' sb g rest ∧ Keep (fun k => k = sb) w w'

theorem results_ct {fn : Func} {a u : Tmp} {t : TypeId} (h : fn.results = #[.cell a t, .tmp u]) (tmps : Array Value) (P : Program) (w : World) (p : Addr) (v : Value) (ha : tmps[a]?.getD undef = .pointer (some p)) (hv : (loadVar t p).run P w = .ok v w) :
    (results fn tmps).run P w = .ok (.tuple #[v, tmps.getD u undef]) w := by
  simp [results, h, ha, asAddr, hv]
set_option maxRecDepth 100000 in
set_option maxHeartbeats 16000000 in
theorem tables_any (w : World) (sb g cK g0 g1 g2 : Nat) (R : Nat → RowP) (rest : List Nat) (hS : Sec w sb g (kbS R 3 :: (tolds R 3 ++ rest))) (hC : Cods w cK g0 g1 g2) (ok : ∀ v, v < 3 → ToldT (kdV v) (R v).k (R v).told (R v).T) (hsb : sb < w.heap.size) (hg : g < w.heap.size) (far : cK ≠ sb ∧ g0 ≠ sb ∧ g1 ≠ sb ∧ g2 ≠ sb) (hl : rest.length ≤ 90000000) :
    Calls Tryz.prog 16 #[.pointer (some ⟨sb, 0, none⟩), .pointer (some ⟨cK, 0, none⟩), .agg #[.slice none 0 0, .slice none 0 0, .slice none 0 0]] w fun e w' => TbsPost w sb g R rest e w' := by
  have hk3 : ∀ v, v < 3 → (R v).k < 3 := fun v hv => (ok v hv).k
  have hkb := kb_lt R hk3 3 (Nat.le_refl _)
  have hkm := (kb_get R hk3 0 (by omega)).2
  rw [restT_all] at hS
  obtain ⟨kb, hkbe⟩ : ∃ kb, kb = kbS R 3 := ⟨_, rfl⟩
  rw [← hkbe] at hS hkb hkm
  have hz := (show Hid (∀ W0 : World, Keep noBlock w W0 → Calls Tryz.prog 28 #[.pointer (some ⟨sb, 0, none⟩)] W0 fun e w' => e = .returned (.tuple #[.int .i64 (kb : Int), .bool true]) ∧ Sec w' sb g (restT R rest 3) ∧ Keep (fun k => k = sb) W0 w') from fun W0 k0 => sec_next sb g kb _ W0 (hS.keep k0 (fun h => h) (fun h => h)))
  have HH := (show Hid (Cods w cK g0 g1 g2 ∧ (∀ v, v < 3 → ToldT (kdV v) (R v).k (R v).told (R v).T) ∧ sb < w.heap.size ∧ g < w.heap.size ∧ (cK ≠ sb ∧ g0 ≠ sb ∧ g1 ≠ sb ∧ g2 ≠ sb) ∧ rest.length ≤ 90000000 ∧ kb = kbS R 3) from ⟨hC, ok, hsb, hg, far, hl, hkbe⟩)
  have hm4 : (kb : Int) % 4 = 0 := by omega
  have hmt : Int.tmod (kb : Int) 4 = 0 := by rw [Int.tmod_eq_emod_of_nonneg (by omega)]; omega
  have HK := (show Hid (∀ W : World, _) from fun W => kinds_any W)
  clear hS hC ok hsb hg far hl hkbe hk3 hkm
  go_enter Tryz.func16, Tryz.ntmps16
  go_wp2_with fail
  obtain ⟨W0, hW0⟩ : ∃ W0, W0 = (w.alloc (.cells #[.slice none 0 0, .slice none 0 0, .slice none 0 0] 30)).alloc (.cells #[.slice none 0 0, .slice none 0 0, .slice none 0 0] 30) := ⟨_, rfl⟩
  have k0 : Keep noBlock w W0 := by rw [hW0]; exact ((Keep.refl _ w).alloc _).alloc _
  obtain ⟨ab, hab⟩ : ∃ ab, ab = w.heap.size := ⟨_, rfl⟩
  have o1 : W0.heap[ab]? = some (.cells #[.slice none 0 0, .slice none 0 0, .slice none 0 0] 30 (0, 0)) := by rw [hW0, hab]; exact alloc_far (alloc_new _ _) _
  have o2 : W0.heap[ab + 1]? = some (.cells #[.slice none 0 0, .slice none 0 0, .slice none 0 0] 30 (0, 0)) := by rw [hW0, hab]; exact alloc_new1 _ _ _
  rw [← hW0, ← hab]
  refine (hz.out W0 k0).mono ?_
  rintro e w1 ⟨rfl, q1, q2⟩
  have H1 := (show Hid (Sec w1 sb g (restT R rest 3) ∧ Keep (fun k => k = sb) w w1 ∧ w1.heap[ab]? = some (.cells #[.slice none 0 0, .slice none 0 0, .slice none 0 0] 30 (0, 0)) ∧ w1.heap[ab + 1]? = some (.cells #[.slice none 0 0, .slice none 0 0, .slice none 0 0] 30 (0, 0)) ∧ ab = w.heap.size) from
    ⟨q1, (k0.mono (T := fun k => k = sb) (fun _ _ h => h.elim)).trans' q2, q2.obj o1 (by have := HH.out.2.2.1; omega), q2.obj o2 (by have := HH.out.2.2.1; omega), hab⟩)
  clear q1 q2 o1 o2 k0 hW0 hab hz
  go_wp2_with fail
  refine (HK.out w1).mono ?_
  rintro e w2 ⟨rfl, k2⟩
  have HZ1 := hid (show (Tryz.prog.info? 95).map (·.size) = some kindsC.size from (by kernel_rfl : (Tryz.prog.info? 95).map (·.size) = some 8))
  have HZ3 := hid (show kindsC.all (·.oneCell') = true from by kernel_rfl)
  have HL := (show Hid (∀ W3, W3 = w2.alloc (.cells kindsC 95) → TbIn w sb g cK g0 g1 g2 (ab + 1) ab w2.heap.size R rest ∧ TbSt w W3 sb g cK g0 g1 g2 (ab + 1) ab w2.heap.size R rest 0 (fun _ => 0) (fun _ => 0)) from fun W3 e => by
    obtain ⟨x1, x2, x3, x4, x5⟩ := H1.out
    obtain ⟨y1, y2, y3, y4, y5, y6, y7⟩ := HH.out
    have k3 : Keep noBlock w1 W3 := by rw [e]; exact k2.alloc _
    have l1 := obj_lt x3
    have l2 := obj_lt x4
    have l3 := k2.size
    refine ⟨⟨y2, ⟨y3, y4, y1.cl.lt, y1.cl.gt, y1.cb.gt, y1.cm.gt⟩, y5, by omega, y6⟩, x1.keep k3 (fun h => h) (fun h => h), ((y1.keep x2 y5.1 y5.2.1 y5.2.2.1 y5.2.2.2)).keep k3 (fun h => h) (fun h => h) (fun h => h) (fun h => h), k3.obj x4 (fun h => h), k3.obj x3 (fun h => h), ?_, fun v hv => by omega, x2.trans k3 (fun _ _ h => h.elim)⟩
    rw [e]
    exact alloc_new w2 _)
  clear k2 HK
  go_wp2_with (refine wpList_store_row rfl 95 (.tmp 10) (.tmp 25) rfl w2.heap.size kindsC rfl rfl 95 _ (World.alloc_heap_new w2 _) HZ1.out (by kernel_rfl) HZ3.out ?_; rw [World.setRow_alloc_new])
  have HL0 := hid (HL.out _ rfl)
  clear HL H1 HZ1 HZ3
  generalize w2.alloc (.cells kindsC 95) = W3 at *
  generalize w2.heap.size = wk at *
  have HI := hid HL0.out.1
  have HL1 := hid HL0.out.2
  clear HL0
  go_loopw [7, 26] (fun v7 v26 wr => ∃ i : Nat, v26 = .int .i64 (i : Int) ∧ v7 = .int .i64 0 ∧ i ≤ 3 ∧ Hid (∃ tg cap : Nat → Nat, TbSt w wr sb g cK g0 g1 g2 (ab + 1) ab wk R rest i tg cap)) (fun _ v26 _ => 3 - (intOf v26).toNat)
  case atStart => exact ⟨0, rfl, rfl, by omega, _, _, HL1.out⟩
  case round =>
    clear HL1
    obtain ⟨i, rfl, rfl, hi, HC⟩ := hrel
    obtain ⟨tg, cap, hT⟩ := HC.out
    by_cases hlt : i < 3
    · have hiI : (i : Int) < 3 := by omega
      have hk3 : ∀ v, v < 3 → (R v).k < 3 := fun v hv => (HI.out.ok v hv).k
      have hkg := (kb_get R hk3 i hlt).1
      rw [← HH.out.2.2.2.2.2.2] at hkg
      obtain ⟨k, hk⟩ : ∃ k, k = (R i).k := ⟨_, rfl⟩
      have hkl : k < 3 := by rw [hk]; exact hk3 i hlt
      rw [← hk] at hkg
      have HSh := (show Hid (Calls Tryz.prog 32 #[.int .i64 (i : Int)] wr fun e w' => e = .returned (.int .i64 ((6 - 2 * i : Nat) : Int)) ∧ w' = wr) from shiftOf_any i (by omega) wr)
      obtain ⟨sh, hsh⟩ : ∃ sh, sh = 6 - 2 * i := ⟨_, rfl⟩
      rw [← hsh] at HSh hkg
      obtain ⟨y, hy⟩ : ∃ y, y = kb / 2 ^ sh := ⟨_, rfl⟩
      rw [← hy] at hkg
      have hyb : y < 256 := by rw [hy]; exact Nat.lt_of_le_of_lt (Nat.div_le_self _ _) hkb
      have hyI : (kb : Int) / 2 ^ sh = (y : Int) := by rw [hy]; simp
      have hyk : Int.tmod (y : Int) 4 = (k : Int) := by rw [Int.tmod_eq_emod_of_nonneg (by omega)]; omega
      have hkI : (k : Int) < 4 := by omega
      have hshI : (sh : Int) ≤ 6 := by omega
      obtain ⟨e1, e2⟩ := kinds_at k hkl
      obtain ⟨fr, hfr⟩ : ∃ fr, fr = readNo k := ⟨_, rfl⟩
      obtain ⟨fo, hfo⟩ : ∃ fo, fo = offerNo k := ⟨_, rfl⟩
      have c1 : wr.cell? ⟨wk, k * 2, none⟩ = some (.func (.func fr) #[] #[]) := by rw [cell_of hT.kinds, hfr]; exact e1
      have c2 : wr.cell? ⟨wk, k * 2 + 1, none⟩ = some (.func (.func fo) #[] #[]) := by rw [cell_of hT.kinds, hfo]; exact e2
      have hcf := call_reads k hkl
      rw [← hfr] at hcf
      have HFR := hid hfr
      have HK := hid hk
      have HZ1 := hid (show (Tryz.prog.info? 94).map (·.size) = some (#[.func (.func fr) #[] #[], .func (.func fo) #[] #[]] : Array Value).size from (by kernel_rfl : (Tryz.prog.info? 94).map (·.size) = some 2))
      have HZ3 := hid (show (#[.func (.func fr) #[] #[], .func (.func fo) #[] #[]] : Array Value).all (·.oneCell') = true from all_oneCell_toArray (fun v hv => by simp only [List.mem_cons, List.not_mem_nil, or_false] at hv; rcases hv with rfl | rfl <;> rfl))
      have HT := hid hT
      clear hT hk3 hkg hk hsh hy e1 e2 hfr hfo HC
      go_wp2_with fail
      refine HSh.out.mono ?_
      rintro e w5 ⟨rfl, rfl⟩
      go_wp2_with (refine wpList_store_row rfl 94 (.tmp 12) (.tmp 35) rfl w5.heap.size #[.func (.func fr) #[] #[], .func (.func fo) #[] #[]] rfl rfl 94 _ (World.alloc_heap_new w5 _) HZ1.out (by kernel_rfl) HZ3.out ?_; rw [World.setRow_alloc_new])
      obtain ⟨wb, hwb⟩ : ∃ wb, wb = w5.heap.size := ⟨_, rfl⟩
      rw [← hwb]
      obtain ⟨W5, hW5⟩ : ∃ W5, W5 = w5.alloc (.cells #[.func (.func fr) #[] #[], .func (.func fo) #[] #[]] 94) := ⟨_, rfl⟩
      rw [← hW5]
      obtain ⟨W6, hW6⟩ : ∃ W6, W6 = W5.drew := ⟨_, rfl⟩
      have k6 : Keep noBlock w5 W6 := by rw [hW6, hW5]; exact ((Keep.refl _ w5).alloc _).drew
      have hT6 := HT.out.to k6
      have owb : W6.heap[wb]? = some (.cells #[.func (.func fr) #[] #[], .func (.func fo) #[] #[]] 94 (0, 0)) := by rw [hW6, hW5, hwb]; exact alloc_new w5 _
      have hnil : (#[.slice none 0 0, .slice none 0 0, .slice none 0 0] : Array Value)[i]? = some (.slice none 0 0) := by
        rcases (show i = 0 ∨ i = 1 ∨ i = 2 by omega) with rfl | rfl | rfl <;> rfl
      have g1' : W6.cell? ⟨wb, 0, none⟩ = some (.func (.func fr) #[] #[]) := cell_of owb 0
      have g2' : W6.cell? ⟨ab, i, none⟩ = some (.slice none 0 0) := (cell_of hT6.ahead i).trans hnil
      obtain ⟨q, hq⟩ : ∃ q, q = 2 ^ (R i).T.l := ⟨_, rfl⟩
      have HRd := (show Hid (Calls Tryz.prog fr #[.pointer (some ⟨sb, 0, none⟩), .pointer (some ⟨cK, i * 110, none⟩), .slice none 0 0] W6 fun e w7 => ∃ t c, e = .returned (.tuple #[.slice (some ⟨t, 0, none⟩) q c, .int .i64 0]) ∧ Hid (∃ tg cap : Nat → Nat, TbSt w (w7.setCell ⟨ab + 1, i, none⟩ (.slice (some ⟨t, 0, none⟩) q c)) sb g cK g0 g1 g2 (ab + 1) ab wk R rest (i + 1) tg cap) ∧
          (w7.cell? ⟨wb, 0, none⟩ = some (.func (.func fr) #[] #[]) ∧ w7.cell? ⟨ab, i, none⟩ = some (.slice none 0 0)) ∧ w7.cell? ⟨ab + 1, i, none⟩ = some (.slice none 0 0) ∧ w7.frozen? ⟨ab + 1, i, none⟩ = false ∧ ((w7.setCell ⟨ab + 1, i, none⟩ (.slice (some ⟨t, 0, none⟩) q c)).cell? ⟨wb, 0, none⟩ = some (.func (.func fr) #[] #[]) ∧ (w7.setCell ⟨ab + 1, i, none⟩ (.slice (some ⟨t, 0, none⟩) q c)).cell? ⟨ab, i, none⟩ = some (.slice none 0 0))) from by
        have hI := HI.out
        obtain ⟨gk, hcod⟩ := hT6.cods.at_ i hlt
        have hsec := hT6.sec
        rw [show 3 - i = (2 - i) + 1 from by omega, restT, show 2 - (2 - i) = i from by omega] at hsec
        have hrl := restT_len R rest (fun v hv => (hI.ok v hv).len) (2 - i)
        have hll := hI.len
        have := readTab_any W6 sb g cK (i * 110) gk (kdV i) (R i).k (R i).told (R i).T (restT R rest (2 - i)) (.slice none 0 0) (hI.ok i hlt) hsec hcod (kdefV i) hI.far.1 (by omega)
        rw [← HK.out, ← HFR.out] at this
        refine this.mono ?_
        rintro e w7 ⟨t, c, rfl, t1, t2, t3, t4⟩
        rw [← hq]
        have hn := hI.new
        have hsb := hI.sbl
        have hwr := HT.out.kp.size
        have hu := obj_lt hT6.used
        have hnx := TbSt.next hI hT6 hlt t c t1 t2 (by rw [show 3 - (i + 1) = 2 - i from by omega]; exact t3) t4
        rw [← hq] at hnx
        have u1 := t4.obj owb (by omega)
        have u2 := t4.obj hT6.ahead (by omega)
        have u3 := t4.obj hT6.used (by omega)
        have hwbne : wb ≠ ab + 1 := by have := obj_lt HT.out.used; omega
        refine ⟨t, c, rfl, ⟨_, _, hnx⟩, ⟨cell_of u1 0, (cell_of u2 i).trans hnil⟩, ?_, frozen_of u3 i, cell_of (set_far u1 hwbne _ _) 0, (cell_of (set_far u2 (by omega) _ _) i).trans hnil⟩
        rw [cell_of u3, usedA_at R tg cap i i hlt]
        unfold usedV
        rw [if_neg (by omega)])
      have HW6 := hid hW6
      clear k6 hT6 owb hnil hq hwb hW5 hW6 c1 c2 HZ1 HZ3
      refine region_last (fun W => W.cell? ⟨wb, 0, none⟩ = some (.func (.func fr) #[] #[]) ∧ W.cell? ⟨ab, i, none⟩ = some (.slice none 0 0)) 17 mx (by rw [← HW6.out]; exact ⟨g1', g2'⟩) (fun hS => ?_)
      refine last_take (i := 0) (v := ?_) rfl (by kernel_rfl) (by kernel_rfl) (by kernel_rfl) (by kernel_rfl) (fun _ _ _ h => h) (Or.inl ⟨by rfl, ?_⟩) (by assumption) ?_
      rotate_left 1
      · intro w hSw; (try dsimp only at hSw); (try obtain ⟨hSw1, hSw2⟩ := hSw); (go_simp <;> with_reducible rfl)
      simp only [Act.put, List.getElem_toArray, List.getElem_cons_zero, List.setIfInBounds_toArray, List.set_cons_zero, List.set_cons_succ]
      refine last_take (i := 1) (v := ?_) rfl (by kernel_rfl) (by kernel_rfl) (by kernel_rfl) (by kernel_rfl) (fun _ _ _ h => h) (Or.inl ⟨by rfl, ?_⟩) (by assumption) ?_
      rotate_left 1
      · intro w hSw; (try dsimp only at hSw); (try obtain ⟨hSw1, hSw2⟩ := hSw); (go_simp <;> with_reducible rfl)
      simp only [Act.put, List.getElem_toArray, List.getElem_cons_zero, List.getElem_cons_succ, List.setIfInBounds_toArray, List.set_cons_zero, List.set_cons_succ]
      refine last_take (i := 2) (v := ?_) rfl (by kernel_rfl) (by kernel_rfl) (by kernel_rfl) (by kernel_rfl) (fun _ _ _ h => h) (Or.inl ⟨by rfl, ?_⟩) (by assumption) ?_
      rotate_left 1
      · intro w hSw; (try dsimp only at hSw); (try obtain ⟨hSw1, hSw2⟩ := hSw); (go_simp <;> with_reducible rfl)
      simp only [Act.put, List.getElem_toArray, List.getElem_cons_zero, List.getElem_cons_succ, List.setIfInBounds_toArray, List.set_cons_zero, List.set_cons_succ]
      refine last_take (i := 3) (v := ?_) rfl (by kernel_rfl) (by kernel_rfl) (by kernel_rfl) (by kernel_rfl) (fun _ _ _ h => h) (Or.inl ⟨by rfl, ?_⟩) (by assumption) ?_
      rotate_left 1
      · intro w hSw; (try dsimp only at hSw); (try obtain ⟨hSw1, hSw2⟩ := hSw); (go_simp <;> with_reducible rfl)
      simp only [Act.put, List.getElem_toArray, List.getElem_cons_zero, List.getElem_cons_succ, List.setIfInBounds_toArray, List.set_cons_zero, List.set_cons_succ]
      refine last_take (i := 4) (v := ?_) rfl (by kernel_rfl) (by kernel_rfl) (by kernel_rfl) (by kernel_rfl) (fun _ _ _ h => h) (Or.inl ⟨by rfl, ?_⟩) (by assumption) ?_
      rotate_left 1
      · intro w hSw; (try dsimp only at hSw); (try obtain ⟨hSw1, hSw2⟩ := hSw); (go_simp <;> with_reducible rfl)
      simp only [Act.put, List.getElem_toArray, List.getElem_cons_zero, List.getElem_cons_succ, List.setIfInBounds_toArray, List.set_cons_zero, List.set_cons_succ]
      refine last_take (i := 5) (v := ?_) rfl (by kernel_rfl) (by kernel_rfl) (by kernel_rfl) (by kernel_rfl) (fun _ _ _ h => h) (Or.inl ⟨by rfl, ?_⟩) (by assumption) ?_
      rotate_left 1
      · intro w hSw; (try dsimp only at hSw); (try obtain ⟨hSw1, hSw2⟩ := hSw); (go_simp <;> with_reducible rfl)
      simp only [Act.put, List.getElem_toArray, List.getElem_cons_zero, List.getElem_cons_succ, List.setIfInBounds_toArray, List.set_cons_zero, List.set_cons_succ]
      refine last_take (i := 6) (v := ?_) rfl (by kernel_rfl) (by kernel_rfl) (by kernel_rfl) (by kernel_rfl) (fun _ _ _ h => h) (Or.inl ⟨by rfl, ?_⟩) (by assumption) ?_
      rotate_left 1
      · intro w hSw; (try dsimp only at hSw); (try obtain ⟨hSw1, hSw2⟩ := hSw); (go_simp <;> with_reducible rfl)
      simp only [Act.put, List.getElem_toArray, List.getElem_cons_zero, List.getElem_cons_succ, List.setIfInBounds_toArray, List.set_cons_zero, List.set_cons_succ]
      refine last_take (i := 7) (v := ?_) rfl (by kernel_rfl) (by kernel_rfl) (by kernel_rfl) (by kernel_rfl) (fun _ _ _ h => h) (Or.inl ⟨by rfl, ?_⟩) (by assumption) ?_
      rotate_left 1
      · intro w hSw; (try dsimp only at hSw); (try obtain ⟨hSw1, hSw2⟩ := hSw); (go_simp <;> with_reducible rfl)
      simp only [Act.put, List.getElem_toArray, List.getElem_cons_zero, List.getElem_cons_succ, List.setIfInBounds_toArray, List.set_cons_zero, List.set_cons_succ]
      refine last_take (i := 8) (v := ?_) rfl (by kernel_rfl) (by kernel_rfl) (by kernel_rfl) (by kernel_rfl) (fun _ _ _ h => h) (Or.inl ⟨by rfl, ?_⟩) (by assumption) ?_
      rotate_left 1
      · intro w hSw; (try dsimp only at hSw); (try obtain ⟨hSw1, hSw2⟩ := hSw); (go_simp <;> with_reducible rfl)
      simp only [Act.put, List.getElem_toArray, List.getElem_cons_zero, List.getElem_cons_succ, List.setIfInBounds_toArray, List.set_cons_zero, List.set_cons_succ]
      refine last_take (i := 9) (v := ?_) rfl (by kernel_rfl) (by kernel_rfl) (by kernel_rfl) (by kernel_rfl) (fun _ _ _ h => h) (Or.inl ⟨by rfl, ?_⟩) (by assumption) ?_
      rotate_left 1
      · intro w hSw; (try dsimp only at hSw); (try obtain ⟨hSw1, hSw2⟩ := hSw); (go_simp <;> with_reducible rfl)
      simp only [Act.put, List.getElem_toArray, List.getElem_cons_zero, List.getElem_cons_succ, List.setIfInBounds_toArray, List.set_cons_zero, List.set_cons_succ]
      refine last_take (i := 10) (v := ?_) rfl (by kernel_rfl) (by kernel_rfl) (by kernel_rfl) (by kernel_rfl) (fun _ _ _ h => h) (Or.inl ⟨by rfl, ?_⟩) (by assumption) ?_
      rotate_left 1
      · intro w hSw; (try dsimp only at hSw); (try obtain ⟨hSw1, hSw2⟩ := hSw); (go_simp <;> with_reducible rfl)
      simp only [Act.put, List.getElem_toArray, List.getElem_cons_zero, List.getElem_cons_succ, List.setIfInBounds_toArray, List.set_cons_zero, List.set_cons_succ]
      rw [← HW6.out]
      refine last_one (j := 11) (by kernel_rfl) rfl (fun K hK => ?_)
      rw [if_pos (by rfl)]
      simp only [List.getElem_toArray, List.getElem_cons_zero, List.getElem_cons_succ]
      go_simp
      refine HRd.out.mono ?_
      rintro e w7 ⟨t, c, rfl, HX, f1, f2, f3, f4⟩
      refine hK.out _ _ (fun _ => f1) ?_
      try simp only [Act.put, List.getElem_toArray, List.getElem_cons_zero, List.getElem_cons_succ, List.setIfInBounds_toArray, List.set_cons_zero, List.set_cons_succ]
      clear hK K
      clear hS
      have hS := f1
      refine last_take (i := 12) (v := ?_) rfl (by kernel_rfl) (by kernel_rfl) (by kernel_rfl) (by kernel_rfl) (fun _ _ _ h => h) (Or.inl ⟨by rfl, ?_⟩) (by assumption) ?_
      rotate_left 1
      · intro w hSw; (try dsimp only at hSw); (try obtain ⟨hSw1, hSw2⟩ := hSw); (go_simp <;> with_reducible rfl)
      simp only [Act.put, List.getElem_toArray, List.getElem_cons_zero, List.getElem_cons_succ, List.setIfInBounds_toArray, List.set_cons_zero, List.set_cons_succ]
      refine last_take (i := 13) (v := ?_) rfl (by kernel_rfl) (by kernel_rfl) (by kernel_rfl) (by kernel_rfl) (fun _ _ _ h => h) (Or.inl ⟨by rfl, ?_⟩) (by assumption) ?_
      rotate_left 1
      · intro w hSw; (try dsimp only at hSw); (try obtain ⟨hSw1, hSw2⟩ := hSw); (go_simp <;> with_reducible rfl)
      simp only [Act.put, List.getElem_toArray, List.getElem_cons_zero, List.getElem_cons_succ, List.setIfInBounds_toArray, List.set_cons_zero, List.set_cons_succ]
      refine last_take (i := 14) (v := ?_) rfl (by kernel_rfl) (by kernel_rfl) (by kernel_rfl) (by kernel_rfl) (fun _ _ _ h => h) (Or.inl ⟨by rfl, ?_⟩) (by assumption) ?_
      rotate_left 1
      · intro w hSw; (try dsimp only at hSw); (try obtain ⟨hSw1, hSw2⟩ := hSw); (go_simp <;> with_reducible rfl)
      simp only [Act.put, List.getElem_toArray, List.getElem_cons_zero, List.getElem_cons_succ, List.setIfInBounds_toArray, List.set_cons_zero, List.set_cons_succ]
      refine last_one (j := 15) (by kernel_rfl) rfl (fun K hK => ?_)
      rw [if_pos (by rfl)]
      simp only [List.getElem_toArray, List.getElem_cons_zero, List.getElem_cons_succ]
      go_simp
      refine hK.out _ _ (fun _ => f1) ?_
      try simp only [Act.put, List.getElem_toArray, List.getElem_cons_zero, List.getElem_cons_succ, List.setIfInBounds_toArray, List.set_cons_zero, List.set_cons_succ]
      clear hK K
      refine last_one (j := 16) (by kernel_rfl) rfl (fun K hK => ?_)
      rw [if_pos (by rfl)]
      simp only [List.getElem_toArray, List.getElem_cons_zero, List.getElem_cons_succ]
      go_simp
      refine hK.out _ _ (fun _ => f4) ?_
      try simp only [Act.put, List.getElem_toArray, List.getElem_cons_zero, List.getElem_cons_succ, List.setIfInBounds_toArray, List.set_cons_zero, List.set_cons_succ]
      clear hK K
      refine last_one (j := 17) (by kernel_rfl) rfl (fun K hK => ?_)
      rw [if_pos (by rfl)]
      simp only [List.getElem_toArray, List.getElem_cons_zero, List.getElem_cons_succ]
      go_simp
      refine hK.out _ _ (fun e => absurd rfl e) ?_
      clear hK K
      refine last_done (by kernel_rfl) ?_ _
      go_wp2_with fail
      go_roundw
      case rel => exact ⟨i + 1, by go_num, rfl, by omega, HX.out⟩
      case measure => simp [intOf]; omega
    · obtain rfl : i = 3 := by omega
      rw [show (((3 : Nat) : Int)) = (3 : Int) from rfl]
      obtain ⟨C, hC⟩ : ∃ C, C = usedA R tg cap 3 := ⟨_, rfl⟩
      have hus := hT.used
      rw [← hC] at hus
      have hC3 : C.size = 3 := by rw [hC]; rfl
      have HB1 := hid hus
      have HZ1 := hid (show (Tryz.prog.info? 30).map (·.size) = some C.size from by rw [hC3]; kernel_rfl)
      have HZ3 := hid (show C.all (·.oneCell') = true from by rw [hC]; exact all_oneCell_toArray (fun v hv => by simp only [List.mem_cons, List.not_mem_nil, or_false] at hv; rcases hv with rfl | rfl | rfl <;> rfl))
      have HF := (show Hid (∀ W', W' = wr.setRow (ab + 1) C → TbsPost w sb g R rest (.returned (.tuple #[.agg C, .int .i64 0])) W' ∧ W'.heap[ab + 1]? = some (.cells C 30 (0, 0))) from fun W' e => by
        have hk2 : Keep (fun j => j = ab + 1) wr W' := by rw [e]; exact keep_setRow (Keep.refl (fun j => j = ab + 1) wr) (ab + 1) (fun _ => rfl) _
        have hn := HI.out.new
        have hsb := HI.out.sbl
        refine ⟨⟨tg, cap, by rw [hC], fun v hv => ⟨(hT.tab v hv).1.keep hk2 (hT.tab v hv).2.2, (hT.tab v hv).2.1⟩, hT.sec.keep hk2 (by omega) (by omega), hT.kp.trans hk2 (fun k hk e => by omega)⟩, ?_⟩
        rw [e]
        exact setRow_heap wr (ab + 1) _ _ 30 (0, 0) hus)
      have hlt3 : ¬ ((3 : Int) < 3) := by omega
      clear hT hus hC hC3 HC
      go_wp2_with (first | (refine wpList_load_row rfl 30 (.tmp 6) rfl (ab + 1) rfl 30 C (0, 0) _ HB1.out Tryz.underlying30 rfl HZ1.out ?_) | (refine wpList_store_row rfl 30 (.tmp 6) (.tmp 55) rfl (ab + 1) C rfl rfl 30 _ HB1.out HZ1.out rfl HZ3.out ?_))
      obtain ⟨f1, f4⟩ := HF.out _ rfl
      refine bodyPost_ret (results_ct rfl _ _ _ ⟨ab + 1, 0, none⟩ (.agg C) rfl (run_loadVar_row _ _ 30 30 _ (0, 0) _ f4 Tryz.underlying30 rfl HZ1.out)) rfl ?_
      exact f1
end Go.Proofs.YtgaepmmpedaaiaaGreatDoor

namespace Go.Proofs.YtgaepmmpedaaiaaGreatDoor
open Go.RowKit Go.Shelf
set_option linter.unusedVariables false

/-- A step as it is told. -/
def stepT (t : Tri) (k : Nat) : Stp := (((t.x 0 k : Nat) : Int), ((t.x 2 k : Nat) : Int), ((t.x 1 k : Nat) : Int))
def stepsT (t : Tri) (k : Nat) : List Stp := (List.range k).map (stepT t)
def seqC (s : Stp) : List Value := [.int .i64 s.1, .int .i64 s.2.1, .int .i64 s.2.2]
def seqV (t : Tri) : Nat → List Value
  | 0 => []
  | k + 1 => seqV t k ++ seqC (stepT t k)
theorem seqV_len (t : Tri) : ∀ k, (seqV t k).length = k * 3
  | 0 => rfl
  | k + 1 => by rw [seqV, List.length_append, seqV_len t k]; simp [seqC]; omega
theorem seqV_at (t : Tri) : ∀ (n k j : Nat), k < n → j < 3 → (seqV t n)[k * 3 + j]? = (seqC (stepT t k))[j]?
  | 0, k, j, h, _ => by omega
  | n + 1, k, j, h, hj => by
    rw [seqV]
    by_cases e : k = n
    · subst e
      rw [List.getElem?_append_right (by rw [seqV_len]; omega), seqV_len, Nat.add_sub_cancel_left]
    · rw [List.getElem?_append_left (by rw [seqV_len]; omega)]
      exact seqV_at t n k j (by omega) hj
theorem info42s : (Tryz.prog.info? 42).map (fun i => (i.zero, i.size, i.bytes)) = some (some (.agg #[.int .i64 0, .int .i64 0, .int .i64 0]), 3, 24) := by kernel_rfl
/-- One step more. -/
theorem run_append_seq (w : World) (base : Nat) (ty : TypeId) (v : Value) (t : Tri) (k g : Nat) (hown : w.ownsRow base 42 3 v k (seqV t k)) (hb : base ≤ w.heap.size) (hl : k ≤ 65535) (hg : w.heap[g]? = some (.cells (seqC (stepT t k)).toArray 42 (0, 0))) :
    ∃ v' w', (Builtin.append_ #[23, 23] ty #[v, .slice (some ⟨g, 0, none⟩) 1 1]).run Tryz.prog w = .ok v' w' ∧ w'.ownsRow base 42 3 v' (k + 1) (seqV t (k + 1)) ∧ Keep (fun k => v.ownBlock = some k) w w' ∧ (v'.ownBlock = v.ownBlock ∨ v'.ownBlock = some w.heap.size) := by
  obtain ⟨i0, hi, hz0, hz1, hz2⟩ := info_parts info42s
  obtain ⟨v', w', hr, h2, h3, h4, h5⟩ := run_append_own_at (P := Tryz.prog) w base 23 ty 42 i0 (.agg #[.int .i64 0, .int .i64 0, .int .i64 0]) 3 24 Tryz.underlying23 hi hz0 hz1 hz2 rfl (by decide) v k (seqV t k) hown ⟨g, 0, none⟩ 1 1 (seqC (stepT t k)) rfl (fun j u hu => by
    rw [add0, cell_of hg, List.getElem?_toArray]
    exact hu) (fun u hu => by
      simp only [seqC, List.mem_cons, List.not_mem_nil, or_false] at hu
      rcases hu with rfl | rfl | rfl <;> rfl) (by unfold maxLen; omega) (by omega) hb
  exact ⟨v', w', hr, h2, (Keep.refl _ w).grown h3 (fun k e _ => e), h5⟩
/-- The cells of the states where one is. -/
def cellL (T : Tb) (s : Nat) : List Value := [.int .u8 ((T.sy s : Nat) : Int), .int .u8 ((T.bi s : Nat) : Int), .int .u16 ((T.ba s : Nat) : Int)]
def AtS (w : World) (atb : Nat) (R : Nat → RowP) (σ : Nat → Nat) (P : Nat → Prop) : Prop := ∃ arr, w.heap[atb]? = some (.cells arr 103 (0, 0)) ∧ arr.size = 9 ∧ ∀ v, v < 3 → P v → ∀ j, j < 3 → arr[v * 3 + j]? = (cellL (R v).T (σ v))[j]?
theorem AtS.keep {w w' : World} {S : Nat → Prop} {atb : Nat} {R : Nat → RowP} {σ : Nat → Nat} {P : Nat → Prop} (h : AtS w atb R σ P) (hk : Keep S w w') (hS : ¬ S atb) : AtS w' atb R σ P := by
  obtain ⟨arr, h1, h2, h3⟩ := h
  exact ⟨arr, hk.obj h1 hS, h2, h3⟩
theorem setAll_gt : ∀ (vs : List Value) (o : Nat) (cs : Array Value) (i : Nat), o + vs.length ≤ i → (setAll cs o vs)[i]? = cs[i]?
  | [], _, _, _, _ => rfl
  | v :: vs, o, cs, i, h => by
    simp at h
    rw [setAll, setAll_gt vs (o + 1) _ i (by omega), Array.getElem?_setIfInBounds_ne (by omega)]
theorem AtS.set {w W : World} {atb : Nat} {R : Nat → RowP} {σ : Nat → Nat} {P : Nat → Prop} {arr : Array Value} (h2 : arr.size = 9) (h3 : ∀ v, v < 3 → P v → ∀ j, j < 3 → arr[v * 3 + j]? = (cellL (R v).T (σ v))[j]?) (i s : Nat) (hi : i < 3) (hW : W.heap[atb]? = some (.cells (setAll arr (i * 3) (cellL (R i).T s)) 103 (0, 0))) : AtS W atb R (updN σ i s) (fun v => P v ∨ v = i) := by
  refine ⟨_, hW, by rw [setAll_size]; exact h2, fun v hv hp j hj => ?_⟩
  by_cases e : v = i
  · subst e
    rw [updN_self, setAll_at _ _ _ j (by simp [cellL]; omega) (by simp [cellL]; omega)]
  · rw [show updN σ i s v = σ v from if_neg e]
    have hp' := hp.resolve_right e
    rcases Nat.lt_or_ge v i with q | q
    · rw [setAll_lt _ _ _ _ (by omega)]; exact h3 v hv hp' j hj
    · rw [setAll_gt _ _ _ _ (by simp [cellL]; omega)]; exact h3 v hv hp' j hj
/-- steps under way, since ws: the reader, the states' cells, the steps. -/
structure StS (ws wr : World) (rdb gr atb : Nat) (t : Tri) (A : List (Fin 2)) (σ : Nat → Nat) (P : Nat → Prop) (v8 : Value) (k : Nat) : Prop where
  rd : TAt wr rdb gr (tlAll t) A
  at_ : AtS wr atb t.R σ P
  own : wr.ownsRow ws.heap.size 42 3 v8 k (seqV t k)
  kp : Keep (fun j => j = rdb ∨ j = atb) ws wr
theorem StS.to {ws wr w' : World} {rdb gr atb : Nat} {t : Tri} {A : List (Fin 2)} {σ : Nat → Nat} {P : Nat → Prop} {v8 : Value} {k : Nat} (h : StS ws wr rdb gr atb t A σ P v8 k) (hk : Keep noBlock wr w') : StS ws w' rdb gr atb t A σ P v8 k :=
  ⟨h.rd.keep hk (fun h => h) (fun h => h), h.at_.keep hk (fun h => h), ownsK h.own hk (fun _ _ h => h), h.kp.trans hk (fun _ _ h => h.elim)⟩
/-- What does not change. -/
structure StI (ws : World) (sb cK g0 g1 g2 tb rdb gr atb : Nat) (t : Tri) (tg cap : Nat → Nat) : Prop where
  ok : TriOk t
  cods : Cods ws cK g0 g1 g2
  tabs : ∀ v, v < 3 → IsTb ws (tg v) (t.R v).T
  used : ws.heap[tb]? = some (.cells (usedA t.R tg cap 3) 30 (0, 0))
  ords : Ords ws
  lt : rdb < ws.heap.size ∧ gr < ws.heap.size ∧ atb < ws.heap.size
  ne : rdb ≠ atb ∧ gr ≠ rdb ∧ gr ≠ atb ∧ tb ≠ rdb ∧ tb ≠ atb ∧ cK ≠ rdb ∧ cK ≠ atb ∧ g0 ≠ rdb ∧ g0 ≠ atb ∧ g1 ≠ rdb ∧ g1 ≠ atb ∧ g2 ≠ rdb ∧ g2 ≠ atb
  tne : ∀ v, v < 3 → tg v ≠ rdb ∧ tg v ≠ atb
  one : 0 ≠ rdb ∧ 0 ≠ atb ∧ 1 ≠ rdb ∧ 1 ≠ atb
theorem keep_cellS {w w' : World} {S : Nat → Prop} (hk : Keep S w w') {b i : Nat} {v : Value} (hS : ¬ S b) (h : w.cell? ⟨b, i, none⟩ = some v) : w'.cell? ⟨b, i, none⟩ = some v :=
  (World.cell?_of_block (hk.block b (World.block_lt_of_cell? w ⟨b, i, none⟩ h) hS)).trans h
/-- The same at a later world. -/
theorem StI.now {ws wr : World} {sb cK g0 g1 g2 tb rdb gr atb : Nat} {t : Tri} {tg cap : Nat → Nat} (h : StI ws sb cK g0 g1 g2 tb rdb gr atb t tg cap) (hk : Keep (fun j => j = rdb ∨ j = atb) ws wr) :
    Cods wr cK g0 g1 g2 ∧ (∀ v, v < 3 → IsTb wr (tg v) (t.R v).T) ∧ wr.heap[tb]? = some (.cells (usedA t.R tg cap 3) 30 (0, 0)) ∧ Ords wr := by
  obtain ⟨n1, n2, n3, n4, n5, n6, n7, n8, n9, n10, n11, n12, n13⟩ := h.ne
  obtain ⟨o1, o2, o3, o4⟩ := h.one
  refine ⟨h.cods.keep hk (by omega) (by omega) (by omega) (by omega), fun v hv => (h.tabs v hv).keep hk (by have := h.tne v hv; omega), hk.obj h.used (by omega), ⟨fun i hi => keep_cellS hk (by omega) (h.ords.ext i hi), fun i hi => keep_cellS hk (by omega) (h.ords.nxt i hi)⟩⟩
/-- Bits are read. -/
theorem StS.bits {ws wr : World} {rdb gr atb : Nat} {t : Tri} {A : List (Fin 2)} {σ : Nat → Nat} {P : Nat → Prop} {v8 : Value} {k x m : Nat} (h : StS ws wr rdb gr atb t (A ++ low x m) σ P v8 k) (hx : x < 2 ^ m) (hm : m ≤ 56) (hl : rdb < ws.heap.size) (hne : rdb ≠ atb) :
    Calls Tryz.prog 34 #[.pointer (some ⟨rdb, 0, none⟩), .int .i64 (m : Int)] wr fun e w' => e = .returned (.int .u64 (x : Int)) ∧ StS ws w' rdb gr atb t A σ P v8 k ∧ Keep (fun j => j = rdb) wr w' := by
  refine (h.rd.bits hx hm).mono ?_
  rintro e w' ⟨rfl, q1, q2⟩
  exact ⟨rfl, ⟨q1, h.at_.keep q2 (fun e => hne e.symm), ownsK h.own q2 (fun g e1 e2 => by have := (owns_lt h.own e1).1; omega), h.kp.trans q2 (fun _ _ e => .inl e)⟩, q2⟩
end Go.Proofs.YtgaepmmpedaaiaaGreatDoor
