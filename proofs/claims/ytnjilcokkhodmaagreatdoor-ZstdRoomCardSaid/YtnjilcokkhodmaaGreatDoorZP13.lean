/-
 tables: all three tables of a section, whatever its bytes.
-/
import Derived.Deep.MidRow
import Derived.Test.YtnjilcokkhodmaaGreatDoorZP12
namespace Go.Proofs.YtnjilcokkhodmaaGreatDoor
open Go.RowKit Go.Shelf
set_option linter.unusedVariables false

section
variable {Ω : Oc}
def rdK (Ω : Oc) (k : Nat) (K : Kd) (t : Option Tb) (bs : List Nat) : Option (Tb × List Nat) :=
 if k = 0 then some (tbX K.cs K.l, bs) else if k = 1 then aloneR K bs else if k = 2 then descR Ω K bs else aheadR t bs
def readNo (k : Nat) : Nat := if k = 0 then 81 else if k = 1 then 83 else if k = 2 then 85 else 87
def offerNo (k : Nat) : Nat := if k = 0 then 82 else if k = 1 then 84 else if k = 2 then 86 else 88
theorem kdefV (v : Nat) (hv : v < 3) : KDef (kdV v) := by
 rcases (show v = 0 ∨ v = 1 ∨ v = 2 by omega) with rfl | rfl | rfl
 ·exact kdefL
 ·exact kdefB
 ·exact kdefM
theorem kd_l (v : Nat) (hv : v < 3) : (kdV v).l ≤ (kdV v).ml := by
 rcases (show v = 0 ∨ v = 1 ∨ v = 2 by omega) with rfl | rfl | rfl <;> decide
theorem kd_len (v : Nat) (hv : v < 3) : (kdV v).cs.length ≤ (kdV v).codes := by
 rcases (show v = 0 ∨ v = 1 ∨ v = 2 by omega) with rfl | rfl | rfl <;> decide
theorem call_reads (k : Nat) (hk : k < 4) (args : Array Value) (W : World) : (callFunc (readNo k) args).run Tryz.prog W = .ok (.enter (readNo k) args) W := by
 rcases (show k = 0 ∨ k = 1 ∨ k = 2 ∨ k = 3 by omega) with rfl | rfl | rfl | rfl <;> kernel_rfl
theorem kinds_at (k : Nat) (hk : k < 4) : kindsC[k * 2]? = some (.func (.func (readNo k)) #[] #[]) ∧ kindsC[k * 2 + 1]? = some (.func (.func (offerNo k)) #[] #[]) := by
 rcases (show k = 0 ∨ k = 1 ∨ k = 2 ∨ k = 3 by omega) with rfl | rfl | rfl | rfl <;> exact ⟨rfl, rfl⟩
theorem aloneR_good {K : Kd} (hm : K.ml ≤ 9) {bs r : List Nat} {T : Tb} (h : aloneR K bs = some (T, r)) : GoodT K T ∧ ∃ n, r = bs.drop n := by
  cases bs with
  | nil => cases h
  | cons c r2 =>
    by_cases hc : c < K.codes
    · rw [show aloneR K (c :: r2) = some (tbA c, r2) from if_pos hc] at h
      cases h; exact ⟨tbA_good hm c hc, 1, rfl⟩
    · rw [show aloneR K (c :: r2) = none from if_neg hc] at h
      cases h
theorem descR_drop {K : Kd} {bs r : List Nat} {T : Tb} (h : descR Ω K bs = some (T, r)) : ∃ n, r = bs.drop n := by
 unfold descR at h
 split at h
 ·cases h
 ·cases h; exact ⟨_, rfl⟩
theorem rdK_drop {k : Nat} {K : Kd} {t : Option Tb} {bs r : List Nat} {T : Tb} (hm : K.ml ≤ 9) (h : rdK Ω k K t bs = some (T, r)) : ∃ n, r = bs.drop n := by
 unfold rdK at h
 split at h
 ·cases h; exact ⟨0, rfl⟩
 ·split at h
  ·exact (aloneR_good hm h).2
  ·split at h
   ·exact descR_drop h
   ·unfold aheadR at h
    split at h
    ·cases h
    ·split at h
     ·cases h; exact ⟨0, rfl⟩
     ·cases h
theorem readK_all (w : World) (sb g b gk k v : Nat) (bs : List Nat) (x : Value) (t : Option Tb) (hk : k < 4) (hv : v < 3) (hS : Sec w sb g bs) (hC : Coding w b (v * 110) gk (kdV v)) (hne : b ≠ sb) (hl : bs.length ≤ 131072) (ht : IsTs w x t) (hG : ∀ T, t = some T → GoodT (kdV v) T) :
  Calls Tryz.prog (readNo k) #[.pointer (some ⟨sb, 0, none⟩), .pointer (some ⟨b, v * 110, none⟩), x] w fun e w' => TabAns w sb g (rdK Ω k (kdV v) t bs) e w' ∧ ∀ T r, rdK Ω k (kdV v) t bs = some (T, r) → GoodT (kdV v) T := by
 have hm := (kokV v hv).ml9
 rcases (show k = 0 ∨ k = 1 ∨ k = 2 ∨ k = 3 by omega) with rfl | rfl | rfl | rfl
 ·exact (readUntold_all w sb g b (v * 110) gk (kdV v) bs x hS hC (kdefV v hv)).mono fun e w' h => ⟨h, fun T r h2 => by cases h2; exact tbX_good (kdefV v hv).ok (kd_l v hv) hm (kd_len v hv)⟩
 ·exact (readAlone_all w sb g b (v * 110) gk (kdV v) bs x hS hC hne).mono fun e w' h => ⟨h, fun T r h2 => (aloneR_good hm h2).1⟩
 ·exact readDescribed_all w sb g b (v * 110) gk (kdV v) bs x hS hC hl
 ·refine (readAhead_all w sb g b (v * 110) gk (kdV v) bs x t hS hC ht hG).mono fun e w' h => ⟨h, fun T r h2 => ?_⟩
  have h3 : aheadR t bs = some (T, r) := h2
  unfold aheadR at h3
  split at h3
  ·cases h3
  ·split at h3
   ·cases h3; exact hG _ rfl
   ·cases h3

def tabsN (Ω : Oc) (kb : Nat) (ah : Nat → Option Tb) (bs : List Nat) : Nat → Option ((Nat → Tb) × List Nat)
  | 0 => some (fun _ => tbA 0, bs)
  | i + 1 => match tabsN Ω kb ah bs i with
    | none => none
    | some (T, r) => match rdK Ω (kb / 2 ^ (6 - 2 * i) % 4) (kdV i) (ah i) r with
      | none => none
      | some (X, r2) => some (updN T i X, r2)
theorem tabsN_none {kb : Nat} {ah : Nat → Option Tb} {bs : List Nat} {i : Nat} (h : tabsN Ω kb ah bs i = none) : ∀ d, tabsN Ω kb ah bs (i + d) = none
  | 0 => h
  | d + 1 => by
    show (match tabsN Ω kb ah bs (i + d) with | none => none | some (T, r) => _) = none
    rw [tabsN_none h d]
theorem tabsN_drop {kb : Nat} {ah : Nat → Option Tb} {bs : List Nat} : ∀ {i : Nat} {T : Nat → Tb} {r : List Nat}, i ≤ 3 → tabsN Ω kb ah bs i = some (T, r) → ∃ n, r = bs.drop n
  | 0, T, r, _, h => by cases h; exact ⟨0, rfl⟩
  | i + 1, T, r, hi, h => by
    unfold tabsN at h
    split at h
    · cases h
    · rename_i T0 r0 h0
      split at h
      · cases h
      · rename_i X r2 h1
        cases h
        obtain ⟨n, rfl⟩ := tabsN_drop (by omega) h0
        obtain ⟨m, rfl⟩ := rdK_drop (kokV i (by omega)).ml9 h1
        exact ⟨n + m, by rw [List.drop_drop]⟩
def tablesR (Ω : Oc) (ah : Nat → Option Tb) : List Nat → Option ((Nat → Tb) × List Nat)
 | [] => none
 | kb :: r => if kb % 4 ≠ 0 then none else tabsN Ω kb ah r 3
def usV (T : Nat → Tb) (tg cap : Nat → Nat) (i v : Nat) : Value := if v < i then .slice (some ⟨tg v, 0, none⟩) (2 ^ (T v).l) (cap v) else .slice none 0 0
def usA (T : Nat → Tb) (tg cap : Nat → Nat) (i : Nat) : Array Value := #[usV T tg cap i 0, usV T tg cap i 1, usV T tg cap i 2]
theorem usA_at (T : Nat → Tb) (tg cap : Nat → Nat) (i v : Nat) (hv : v < 3) : (usA T tg cap i)[v]? = some (usV T tg cap i v) := by
 rcases (show v = 0 ∨ v = 1 ∨ v = 2 by omega) with rfl | rfl | rfl <;> rfl
theorem usA_set (T : Nat → Tb) (tg cap : Nat → Nat) (i t c : Nat) (X : Tb) (hi : i < 3) : (usA T tg cap i).setIfInBounds i (.slice (some ⟨t, 0, none⟩) (2 ^ X.l) c) = usA (updN T i X) (updN tg i t) (updN cap i c) (i + 1) := by
 rcases (show i = 0 ∨ i = 1 ∨ i = 2 by omega) with rfl | rfl | rfl <;> rfl
theorem usA_nil (T : Nat → Tb) (tg cap : Nat → Nat) (i : Nat) (hi : i < 3) : (usA T tg cap i).setIfInBounds i (.slice none 0 0) = usA T tg cap i := by
 rcases (show i = 0 ∨ i = 1 ∨ i = 2 by omega) with rfl | rfl | rfl <;> rfl
theorem usA_three (T : Nat → Tb) (tg cap : Nat → Nat) : usA T tg cap 3 = tabA T tg cap := rfl
theorem usA_one (T : Nat → Tb) (tg cap : Nat → Nat) (i : Nat) : (usA T tg cap i).all (·.oneCell') = true := by
 refine all_oneCell_toArray (fun v hv => ?_)
 simp only [List.mem_cons, List.not_mem_nil, or_false] at hv
 rcases hv with rfl | rfl | rfl <;> (unfold usV; split <;> rfl)
/-- tables under way. -/
structure TbS (w wr : World) (sb g cK g0 g1 g2 ub ab wk : Nat) (A : Array Value) (T : Nat → Tb) (tg cap : Nat → Nat) (i : Nat) (rest : List Nat) : Prop where
 sec : Sec wr sb g rest
 cods : Cods wr cK g0 g1 g2
 used : wr.heap[ub]? = some (.cells (usA T tg cap i) 109 (0, 0))
 ahead : wr.heap[ab]? = some (.cells A 109 (0, 0))
 kinds : wr.heap[wk]? = some (.cells kindsC 137 (0, 0))
 tab : ∀ v, v < i → IsTb wr (tg v) (T v) ∧ w.heap.size ≤ tg v ∧ tg v ≠ ub
 good : ∀ v, v < i → GoodT (kdV v) (T v)
 kp : Keep (fun k => k = sb) w wr
/-- What does not change. -/
structure TbIn (w : World) (sb g cK g0 g1 g2 ub ab wk : Nat) (A : Array Value) (ah : Nat → Option Tb) : Prop where
 av : ∀ v, v < 3 → ∃ x, A[v]? = some x ∧ (match ah v with
  | none => x = .slice none 0 0
  | some T => ∃ tg cap, x = .slice (some ⟨tg, 0, none⟩) (2 ^ T.l) cap ∧ IsTb w tg T ∧ tg ≠ sb)
 ag : ∀ v, v < 3 → ∀ T, ah v = some T → GoodT (kdV v) T
 sbl : sb < w.heap.size ∧ g < w.heap.size ∧ cK < w.heap.size ∧ g0 < w.heap.size ∧ g1 < w.heap.size ∧ g2 < w.heap.size
 far : cK ≠ sb ∧ g0 ≠ sb ∧ g1 ≠ sb ∧ g2 ≠ sb
 new : w.heap.size ≤ ub ∧ w.heap.size ≤ ab ∧ w.heap.size ≤ wk ∧ ub ≠ ab ∧ ub ≠ wk ∧ ab ≠ wk
theorem TbS.to {w wr w' : World} {sb g cK g0 g1 g2 ub ab wk : Nat} {A : Array Value} {T : Nat → Tb} {tg cap : Nat → Nat} {i : Nat} {rest : List Nat} (h : TbS w wr sb g cK g0 g1 g2 ub ab wk A T tg cap i rest) (hk : Keep noBlock wr w') : TbS w w' sb g cK g0 g1 g2 ub ab wk A T tg cap i rest :=
 ⟨h.sec.keep hk (fun h => h) (fun h => h), h.cods.keep hk (fun h => h) (fun h => h) (fun h => h) (fun h => h), hk.obj h.used (fun h => h), hk.obj h.ahead (fun h => h), hk.obj h.kinds (fun h => h), fun v hv => ⟨(h.tab v hv).1.keep hk (fun h => h), (h.tab v hv).2⟩, h.good, h.kp.trans hk (fun _ _ h => h.elim)⟩
theorem TbS.next {w wr w3 : World} {sb g cK g0 g1 g2 ub ab wk : Nat} {A : Array Value} {ah : Nat → Option Tb} {T : Nat → Tb} {tg cap : Nat → Nat} {i : Nat} {rest r2 : List Nat} (hI : TbIn w sb g cK g0 g1 g2 ub ab wk A ah) (h : TbS w wr sb g cK g0 g1 g2 ub ab wk A T tg cap i rest) (hi : i < 3) (t c : Nat) (X : Tb)
  (h1 : IsTb w3 t X) (h2 : wr.heap.size ≤ t) (h3 : Sec w3 sb g r2) (hX : GoodT (kdV i) X) (hk : Keep (fun k => k = sb) wr w3) :
  TbS w (w3.setCell ⟨ub, i, none⟩ (.slice (some ⟨t, 0, none⟩) (2 ^ X.l) c)) sb g cK g0 g1 g2 ub ab wk A (updN T i X) (updN tg i t) (updN cap i c) (i + 1) r2 := by
 obtain ⟨s1, s2, s3, s4, s5, s6⟩ := hI.sbl
 obtain ⟨f1, f2, f3, f4⟩ := hI.far
 obtain ⟨n1, n2, n3, n4, n5, n6⟩ := hI.new
 have hwr := h.kp.size
 have hk2 : Keep (fun k => k = ub) w3 (w3.setCell ⟨ub, i, none⟩ (.slice (some ⟨t, 0, none⟩) (2 ^ X.l) c)) := (Keep.refl (fun k => k = ub) w3).setCell (p := ⟨ub, i, none⟩) (fun _ => rfl) _
 have hub : ub < wr.heap.size := obj_lt h.used
 refine ⟨h3.keep hk2 (by omega) (by omega), (h.cods.keep hk f1 f2 f3 f4).keep hk2 (by omega) (by omega) (by omega) (by omega), ?_, hk2.obj (hk.obj h.ahead (by omega)) (by omega), hk2.obj (hk.obj h.kinds (by omega)) (by omega), fun v hv => ?_, fun v hv => ?_, (h.kp.trans' hk).trans hk2 (fun k hk e => by omega)⟩
 ·rw [← usA_set T tg cap i t c X hi]
  exact set_obj (hk.obj h.used (by omega)) i _
 ·by_cases e : v = i
  ·subst e
   rw [updN_self, updN_self]
   exact ⟨h1.keep hk2 (by omega), by omega, by omega⟩
  ·rw [updN_lt tg i t v (by omega), updN_lt T i X v (by omega)]
   obtain ⟨a1, a2, a3⟩ := h.tab v (by omega)
   exact ⟨(a1.keep hk (by omega)).keep hk2 a3, a2, a3⟩
 ·by_cases e : v = i
  ·subst e; rw [updN_self]; exact hX
  ·rw [updN_lt T i X v (by omega)]; exact h.good v (by omega)
theorem results_ct {fn : Func} {a u : Tmp} {t : TypeId} (h : fn.results = #[.cell a t, .tmp u]) (tmps : Array Value) (P : Program) (w : World) (p : Addr) (v : Value) (ha : tmps[a]?.getD undef = .pointer (some p)) (hv : (loadVar t p).run P w = .ok v w) :
  (results fn tmps).run P w = .ok (.tuple #[v, tmps.getD u undef]) w := by
 simp [results, h, ha, asAddr, hv]
def TbsAns (w : World) (sb g : Nat) (R : Option ((Nat → Tb) × List Nat)) (e : Ending) (w' : World) : Prop :=
 Keep (fun k => k = sb) w w' ∧ match R with
  | none => ∃ (v : Array Value) (c : Int), c ≠ 0 ∧ v.size = 3 ∧ v.all (·.oneCell') = true ∧ e = .returned (.tuple #[.agg v, .int .i64 c])
  | some (T, rest) => ∃ tg cap : Nat → Nat, e = .returned (.tuple #[.agg (tabA T tg cap), .int .i64 0]) ∧ (∀ v, v < 3 → IsTb w' (tg v) (T v) ∧ w.heap.size ≤ tg v ∧ GoodT (kdV v) (T v)) ∧ Sec w' sb g rest

theorem set_far {w : World} {b c : Nat} {o : Obj} (h : w.heap[b]? = some o) (hne : b ≠ c) (i : Nat) (v : Value) : (w.setCell ⟨c, i, none⟩ v).heap[b]? = some o :=
 (Below.heap_setCell _ _ _ _ hne).trans h
theorem alloc_new1 (w : World) (c1 c2 : Array Value) (t1 t2 : TypeId) : ((w.alloc (.cells c1 t1)).alloc (.cells c2 t2)).heap[w.heap.size + 1]? = some (.cells c2 t2 (0, 0)) := by
 have := alloc_new (w.alloc (.cells c1 t1)) (.cells c2 t2)
 rwa [World.size_alloc] at this
theorem tbs_fin {w wr : World} {sb g ub : Nat} {C : Array Value} {E : Int} (hk : Keep (fun k => k = sb) w wr) (hub : w.heap.size ≤ ub) (hus : wr.heap[ub]? = some (.cells C 109 (0, 0))) (hE : E ≠ 0) (hC3 : C.size = 3) (hC1 : C.all (·.oneCell') = true) : ∀ W', W' = wr.setRow ub C → TbsAns w sb g none (.returned (.tuple #[.agg C, .int .i64 E])) W' ∧ W'.heap[ub]? = some (.cells C 109 (0, 0)) := fun W' e => by
 have hk2 : Keep (fun j => j = ub) wr W' := by rw [e]; exact keep_setRow (Keep.refl (fun j => j = ub) wr) ub (fun _ => rfl) _
 refine ⟨⟨hk.trans hk2 (fun k hk e => by omega), C, E, hE, hC3, hC1, rfl⟩, ?_⟩
 rw [e]
 exact setRow_heap wr ub _ _ 109 (0, 0) hus
set_option maxRecDepth 100000 in
set_option maxHeartbeats 16000000 in
theorem tables_all (w : World) (sb g cK g0 g1 g2 : Nat) (A : Array Value) (ah : Nat → Option Tb) (bs : List Nat) (hS : Sec w sb g bs) (hC : Cods w cK g0 g1 g2) (hA3 : A.size = 3) (hA1 : A.all (·.oneCell') = true)
    (hav : ∀ v, v < 3 → ∃ x, A[v]? = some x ∧ (match ah v with
      | none => x = .slice none 0 0
      | some T => ∃ tg cap, x = .slice (some ⟨tg, 0, none⟩) (2 ^ T.l) cap ∧ IsTb w tg T ∧ tg ≠ sb))
    (hag : ∀ v, v < 3 → ∀ T, ah v = some T → GoodT (kdV v) T) (hsb : sb < w.heap.size) (hg : g < w.heap.size) (far : cK ≠ sb ∧ g0 ≠ sb ∧ g1 ≠ sb ∧ g2 ≠ sb) (hl : bs.length ≤ 131072) :
    Calls Tryz.prog 51 #[.pointer (some ⟨sb, 0, none⟩), .pointer (some ⟨cK, 0, none⟩), .agg A] w fun e w' => TbsAns w sb g (tablesR Ω ah bs) e w' := by
  have HU := (show Hid ((Tryz.prog.info? 109).map (·.size) = some 3) from (by kernel_rfl : (Tryz.prog.info? 109).map (·.size) = some 3))
  obtain ⟨U0, hU0⟩ : ∃ U0 : Array Value, U0 = #[.slice none 0 0, .slice none 0 0, .slice none 0 0] := ⟨_, rfl⟩
  obtain ⟨W0, hW0⟩ : ∃ W0, W0 = (w.alloc (.cells A 109)).alloc (.cells #[.slice none 0 0, .slice none 0 0, .slice none 0 0] 109) := ⟨_, rfl⟩
  have k0 : Keep noBlock w W0 := by rw [hW0]; exact ((Keep.refl _ w).alloc _).alloc _
  obtain ⟨ab, hab⟩ : ∃ ab, ab = w.heap.size := ⟨_, rfl⟩
  have o1 : W0.heap[ab]? = some (.cells A 109 (0, 0)) := by rw [hW0, hab]; exact alloc_far (alloc_new _ _) _
  have o2 : W0.heap[ab + 1]? = some (.cells U0 109 (0, 0)) := by rw [hW0, hab, hU0]; exact alloc_new1 _ _ _ _ _
  have HN := (show Hid (Calls Tryz.prog 62 #[.pointer (some ⟨sb, 0, none⟩)] W0 fun e w' => NxP W0 sb g bs e w' ∧ w'.heap[ab]? = some (.cells A 109 (0, 0)) ∧ w'.heap[ab + 1]? = some (.cells U0 109 (0, 0)) ∧ Keep (fun k => k = sb) w w') from (next_all sb g bs W0 (hS.keep k0 (fun h => h) (fun h => h))).mono fun e w' h => ⟨h, h.1.obj o1 (by omega), h.1.obj o2 (by omega), (k0.mono (T := fun k => k = sb) (fun _ _ h => h.elim)).trans' h.1⟩)
  have HH := (show Hid (Cods w cK g0 g1 g2 ∧ (∀ v, v < 3 → ∃ x, A[v]? = some x ∧ (match ah v with
      | none => x = .slice none 0 0
      | some T => ∃ tg cap, x = .slice (some ⟨tg, 0, none⟩) (2 ^ T.l) cap ∧ IsTb w tg T ∧ tg ≠ sb)) ∧ (∀ v, v < 3 → ∀ T, ah v = some T → GoodT (kdV v) T) ∧ sb < w.heap.size ∧ g < w.heap.size ∧ (cK ≠ sb ∧ g0 ≠ sb ∧ g1 ≠ sb ∧ g2 ≠ sb) ∧ bs.length ≤ 131072 ∧ ab = w.heap.size) from ⟨hC, hav, hag, hsb, hg, far, hl, hab⟩)
  have HU1 := (show Hid (U0.all (·.oneCell') = true ∧ (Tryz.prog.info? 109).map (·.size) = some U0.size ∧ U0.size = 3) from by rw [hU0]; exact ⟨by kernel_rfl, HU.out, rfl⟩)
  have HU2 := hid hU0
  have hlt := hS.lt
  clear hS hC hav hag hsb hg far hl k0 o1 o2 hA1 hA3 hU0
  rcases bs with _ | ⟨kb, r⟩
  · have HN2 := (show Hid (Calls Tryz.prog 62 #[.pointer (some ⟨sb, 0, none⟩)] W0 fun e w' => e = .returned (.tuple #[.int .i64 0, .bool false]) ∧ Hid (w'.heap[ab + 1]? = some (.cells U0 109 (0, 0)) ∧ Keep (fun k => k = sb) w w')) from HN.out.mono fun e w' h => ⟨h.1.2, h.2.2⟩)
    clear HN
    go_enter Tryz.func51, Tryz.ntmps51
    go_wp2_with fail
    rw [← hW0, ← hab]
    refine HN2.out.mono ?_
    rintro e w1 ⟨rfl, HB⟩
    have HF := (show Hid (∀ W', W' = w1.setRow (ab + 1) U0 → TbsAns w sb g none (.returned (.tuple #[.agg U0, .int .i64 10])) W' ∧ W'.heap[ab + 1]? = some (.cells U0 109 (0, 0))) from tbs_fin HB.out.2 (by have := HH.out.2.2.2.2.2.2.2; omega) HB.out.1 (by decide) HU1.out.2.2 HU1.out.1)
    have HB1 := hid HB.out.1
    clear HB HN2 hW0 hab
    go_wp2_with (first | (refine wpList_load_row rfl 109 (.tmp 6) rfl (ab + 1) rfl 109 U0 (0, 0) _ HB1.out Tryz.underlying109 rfl HU1.out.2.1 ?_) | (refine wpList_store_row rfl 109 (.tmp 6) (.tmp 20) rfl (ab + 1) U0 rfl rfl 109 _ HB1.out HU1.out.2.1 rfl HU1.out.1 ?_))
    obtain ⟨f1, f4⟩ := HF.out _ rfl
    refine bodyPost_ret (results_ct rfl _ _ _ ⟨ab + 1, 0, none⟩ (.agg U0) rfl (run_loadVar_row _ _ 109 109 _ (0, 0) _ f4 Tryz.underlying109 rfl HU1.out.2.1)) rfl ?_
    exact f1
  · have HN2 := (show Hid (Calls Tryz.prog 62 #[.pointer (some ⟨sb, 0, none⟩)] W0 fun e w' => e = .returned (.tuple #[.int .i64 (kb : Int), .bool true]) ∧ Hid (w'.heap[ab]? = some (.cells A 109 (0, 0)) ∧ w'.heap[ab + 1]? = some (.cells U0 109 (0, 0)) ∧ Keep (fun k => k = sb) w w' ∧ Sec w' sb g r)) from HN.out.mono fun e w' h => ⟨h.1.2.1, h.2.1, h.2.2.1, h.2.2.2, h.1.2.2⟩)
    have hkb : kb < 256 := hlt 0
    clear HN
    by_cases hm : kb % 4 ≠ 0
    · have HR := hid (show tablesR Ω ah (kb :: r) = none from if_pos hm)
      obtain ⟨m, hme⟩ : ∃ m, m = kb % 4 := ⟨_, rfl⟩
      have hmt : Int.tmod (kb : Int) 4 = (m : Int) := by rw [Int.tmod_eq_emod_of_nonneg (by omega)]; omega
      have hm0 : ((m : Int) != 0) = true := by simp; omega
      have hmb : (m : Int) < 4 := by omega
      clear hme hm
      go_enter Tryz.func51, Tryz.ntmps51
      go_wp2_with fail
      rw [← hW0, ← hab]
      refine HN2.out.mono ?_
      rintro e w1 ⟨rfl, HB⟩
      have HF := (show Hid (∀ W', W' = w1.setRow (ab + 1) U0 → TbsAns w sb g none (.returned (.tuple #[.agg U0, .int .i64 11])) W' ∧ W'.heap[ab + 1]? = some (.cells U0 109 (0, 0))) from tbs_fin HB.out.2.2.1 (by have := HH.out.2.2.2.2.2.2.2; omega) HB.out.2.1 (by decide) HU1.out.2.2 HU1.out.1)
      have HB1 := hid HB.out.2.1
      clear HB HN2 hW0 hab
      go_wp2_with (first | (refine wpList_load_row rfl 109 (.tmp 6) rfl (ab + 1) rfl 109 U0 (0, 0) _ HB1.out Tryz.underlying109 rfl HU1.out.2.1 ?_) | (refine wpList_store_row rfl 109 (.tmp 6) (.tmp 24) rfl (ab + 1) U0 rfl rfl 109 _ HB1.out HU1.out.2.1 rfl HU1.out.1 ?_))
      obtain ⟨f1, f4⟩ := HF.out _ rfl
      refine bodyPost_ret (results_ct rfl _ _ _ ⟨ab + 1, 0, none⟩ (.agg U0) rfl (run_loadVar_row _ _ 109 109 _ (0, 0) _ f4 Tryz.underlying109 rfl HU1.out.2.1)) rfl ?_
      rw [HR.out]
      exact f1
    · have HR := hid (show tablesR Ω ah (kb :: r) = tabsN Ω kb ah r 3 from if_neg hm)
      have hmt : Int.tmod (kb : Int) 4 = 0 := by rw [Int.tmod_eq_emod_of_nonneg (by omega)]; omega
      have HK := (show Hid (∀ W : World, _) from fun W => kinds_any W)
      rw [HR.out]
      clear hm HR
      go_enter Tryz.func51, Tryz.ntmps51
      go_wp2_with fail
      rw [← hW0, ← hab]
      refine HN2.out.mono ?_
      rintro e w1 ⟨rfl, HB⟩
      clear HN2 hW0 hab
      go_wp2_with fail
      refine (HK.out w1).mono ?_
      rintro e w2 ⟨rfl, k2⟩
      have HZ1 := hid (show (Tryz.prog.info? 137).map (·.size) = some kindsC.size from (by kernel_rfl : (Tryz.prog.info? 137).map (·.size) = some 8))
      have HZ3 := hid (show kindsC.all (·.oneCell') = true from by kernel_rfl)
      have HL := (show Hid (∀ W3, W3 = w2.alloc (.cells kindsC 137) → TbIn w sb g cK g0 g1 g2 (ab + 1) ab w2.heap.size A ah ∧ TbS w W3 sb g cK g0 g1 g2 (ab + 1) ab w2.heap.size A (fun _ => tbA 0) (fun _ => 0) (fun _ => 0) 0 r) from fun W3 e => by
        obtain ⟨x1, x2, x3, x4⟩ := HB.out
        obtain ⟨y1, y2, y3, y4, y5, y6, y7, y8⟩ := HH.out
        have k3 : Keep noBlock w1 W3 := by rw [e]; exact k2.alloc _
        have l1 := obj_lt x1
        have l2 := obj_lt x2
        have l3 := k2.size
        refine ⟨⟨y2, y3, ⟨y4, y5, y1.cl.lt, y1.cl.gt, y1.cb.gt, y1.cm.gt⟩, y6, by omega⟩, x4.keep k3 (fun h => h) (fun h => h), ((y1.keep x3 y6.1 y6.2.1 y6.2.2.1 y6.2.2.2)).keep k3 (fun h => h) (fun h => h) (fun h => h) (fun h => h), ?_, k3.obj x1 (fun h => h), ?_, fun v hv => by omega, fun v hv => by omega, x3.trans k3 (fun _ _ h => h.elim)⟩
        · have := k3.obj x2 (fun h => h)
          rw [HU2.out] at this
          exact this
        · rw [e]
          exact alloc_new w2 _)
      clear k2 HK
      go_wp2_with (refine wpList_store_row rfl 137 (.tmp 10) (.tmp 25) rfl w2.heap.size kindsC rfl rfl 137 _ (World.alloc_heap_new w2 _) HZ1.out (by kernel_rfl) HZ3.out ?_; rw [World.setRow_alloc_new])
      have HL0 := hid (HL.out _ rfl)
      clear HL HB HZ1 HZ3 HU1 HU2
      generalize w2.alloc (.cells kindsC 137) = W3 at *
      generalize w2.heap.size = wk at *
      have HI := hid HL0.out.1
      have HL1 := hid HL0.out.2
      clear HL0
      have HRL := (show Hid (r.length ≤ 131072) from by have := HH.out.2.2.2.2.2.2.1; simp at this; show r.length ≤ 131072; omega)
      go_loopw [7, 26] (fun v7 v26 wr => ∃ i : Nat, v26 = .int .i64 (i : Int) ∧ v7 = .int .i64 0 ∧ i ≤ 3 ∧ Hid (∃ (T : Nat → Tb) (rest : List Nat) (tg cap : Nat → Nat), tabsN Ω kb ah r i = some (T, rest) ∧ TbS w wr sb g cK g0 g1 g2 (ab + 1) ab wk A T tg cap i rest)) (fun _ v26 _ => 3 - (intOf v26).toNat)
      case atStart => exact ⟨0, rfl, rfl, by omega, _, _, _, _, rfl, HL1.out⟩
      case round =>
        clear HL1
        obtain ⟨i, rfl, rfl, hi, HC⟩ := hrel
        obtain ⟨T, rest, tg, cap, hTn, hT⟩ := HC.out
        by_cases hlt : i < 3
        · have hiI : (i : Int) < 3 := by omega
          obtain ⟨k, hk⟩ : ∃ k, k = kb / 2 ^ (6 - 2 * i) % 4 := ⟨_, rfl⟩
          have hkl : k < 4 := by omega
          have HSh := (show Hid (Calls Tryz.prog 66 #[.int .i64 (i : Int)] wr fun e w' => e = .returned (.int .i64 ((6 - 2 * i : Nat) : Int)) ∧ w' = wr) from shiftOf_any i (by omega) wr)
          obtain ⟨sh, hsh⟩ : ∃ sh, sh = 6 - 2 * i := ⟨_, rfl⟩
          rw [← hsh] at HSh hk
          obtain ⟨y, hy⟩ : ∃ y, y = kb / 2 ^ sh := ⟨_, rfl⟩
          rw [← hy] at hk
          have hyb : y < 256 := by rw [hy]; exact Nat.lt_of_le_of_lt (Nat.div_le_self _ _) hkb
          have hyI : (kb : Int) / 2 ^ sh = (y : Int) := by rw [hy]; simp
          have hyk : Int.tmod (y : Int) 4 = (k : Int) := by rw [Int.tmod_eq_emod_of_nonneg (by omega)]; omega
          have hkI : (k : Int) < 4 := by omega
          have hshI : (sh : Int) ≤ 6 := by omega
          obtain ⟨e1, e2⟩ := kinds_at k hkl
          obtain ⟨fr, hfr⟩ : ∃ fr, fr = readNo k := ⟨_, rfl⟩
          obtain ⟨fo, hfo⟩ : ∃ fo, fo = offerNo k := ⟨_, rfl⟩
          have c1 : wr.cell? ⟨wk, k * 2, none⟩ = some (.func (.func fr) #[] #[]) := by rw [cell_of hT.kinds, hfr]; exact e1
          have c2 : wr.cell? ⟨wk, k * 2 + 1, none⟩ = some (.func (.func fo) #[] #[]) := by rw [cell_of hT.kinds, hfo]; exact e2
          have hcf := call_reads k hkl
          rw [← hfr] at hcf
          have HFR := (show Hid (fr = readNo k ∧ k < 4 ∧ tabsN Ω kb ah r (i + 1) = match rdK Ω k (kdV i) (ah i) rest with | none => none | some (X, r2) => some (updN T i X, r2)) from ⟨hfr, hkl, by
            show (match tabsN Ω kb ah r i with | none => none | some (T, r) => match rdK Ω (kb / 2 ^ (6 - 2 * i) % 4) (kdV i) (ah i) r with | none => none | some (X, r2) => some (updN T i X, r2)) = _
            rw [hTn, hk, hy, hsh]⟩)
          have HZ1 := hid (show (Tryz.prog.info? 136).map (·.size) = some (#[.func (.func fr) #[] #[], .func (.func fo) #[] #[]] : Array Value).size from (by kernel_rfl : (Tryz.prog.info? 136).map (·.size) = some 2))
          have HZ3 := hid (show (#[.func (.func fr) #[] #[], .func (.func fo) #[] #[]] : Array Value).all (·.oneCell') = true from all_oneCell_toArray (fun v hv => by simp only [List.mem_cons, List.not_mem_nil, or_false] at hv; rcases hv with rfl | rfl <;> rfl))
          have HT := hid hT
          have HTD := hid (tabsN_drop hi hTn)
          clear hT hk hsh hy e1 e2 hfr hfo HC hTn
          go_wp2_with fail
          refine HSh.out.mono ?_
          rintro e w5 ⟨rfl, rfl⟩
          go_wp2_with (refine wpList_store_row rfl 136 (.tmp 12) (.tmp 35) rfl w5.heap.size #[.func (.func fr) #[] #[], .func (.func fo) #[] #[]] rfl rfl 136 _ (World.alloc_heap_new w5 _) HZ1.out (by kernel_rfl) HZ3.out ?_; rw [World.setRow_alloc_new])
          obtain ⟨wb, hwb⟩ : ∃ wb, wb = w5.heap.size := ⟨_, rfl⟩
          rw [← hwb]
          obtain ⟨W5, hW5⟩ : ∃ W5, W5 = w5.alloc (.cells #[.func (.func fr) #[] #[], .func (.func fo) #[] #[]] 136) := ⟨_, rfl⟩
          rw [← hW5]
          obtain ⟨W6, hW6⟩ : ∃ W6, W6 = W5.drew := ⟨_, rfl⟩
          have k6 : Keep noBlock w5 W6 := by rw [hW6, hW5]; exact ((Keep.refl _ w5).alloc _).drew
          have hT6 := HT.out.to k6
          have owb : W6.heap[wb]? = some (.cells #[.func (.func fr) #[] #[], .func (.func fo) #[] #[]] 136 (0, 0)) := by rw [hW6, hW5, hwb]; exact alloc_new w5 _
          obtain ⟨x, hx1, hx2⟩ := HI.out.av i hlt
          have hxs : ∃ xa xn xc, x = .slice xa xn xc := by
            cases ha : ah i with
            | none => rw [ha] at hx2; exact ⟨_, _, _, hx2⟩
            | some T0 => rw [ha] at hx2; obtain ⟨t1, c1, e, -⟩ := hx2; exact ⟨_, _, _, e⟩
          obtain ⟨xa, xn, xc, rfl⟩ := hxs
          have g1' : W6.cell? ⟨wb, 0, none⟩ = some (.func (.func fr) #[] #[]) := cell_of owb 0
          have g2' : W6.cell? ⟨ab, i, none⟩ = some (.slice xa xn xc) := (cell_of hT6.ahead i).trans hx1
          have HRd := (show Hid (Calls Tryz.prog fr #[.pointer (some ⟨sb, 0, none⟩), .pointer (some ⟨cK, i * 110, none⟩), .slice xa xn xc] W6 fun e w7 => ∃ va vn vc E, e = .returned (.tuple #[.slice va vn vc, .int .i64 E]) ∧
              Hid (match rdK Ω k (kdV i) (ah i) rest with
                | none => E ≠ 0 ∧ Keep (fun k => k = sb) w (w7.setCell ⟨ab + 1, i, none⟩ (.slice va vn vc)) ∧ (w7.setCell ⟨ab + 1, i, none⟩ (.slice va vn vc)).heap[ab + 1]? = some (.cells (usA T tg cap i) 109 (0, 0))
                | some (X, r2) => E = 0 ∧ ∃ tg cap : Nat → Nat, TbS w (w7.setCell ⟨ab + 1, i, none⟩ (.slice va vn vc)) sb g cK g0 g1 g2 (ab + 1) ab wk A (updN T i X) tg cap (i + 1) r2) ∧
              (w7.cell? ⟨wb, 0, none⟩ = some (.func (.func fr) #[] #[]) ∧ w7.cell? ⟨ab, i, none⟩ = some (.slice xa xn xc)) ∧ w7.cell? ⟨ab + 1, i, none⟩ = some (.slice none 0 0) ∧ w7.frozen? ⟨ab + 1, i, none⟩ = false ∧ ((w7.setCell ⟨ab + 1, i, none⟩ (.slice va vn vc)).cell? ⟨wb, 0, none⟩ = some (.func (.func fr) #[] #[]) ∧ (w7.setCell ⟨ab + 1, i, none⟩ (.slice va vn vc)).cell? ⟨ab, i, none⟩ = some (.slice xa xn xc))) from by
            have hI := HI.out
            obtain ⟨gk, hcod⟩ := hT6.cods.at_ i hlt
            obtain ⟨nd, hnd⟩ := HTD.out
            have hrl := HRL.out
            have hts : IsTs W6 (.slice xa xn xc) (ah i) := by
              cases ha : ah i with
              | none => rw [ha] at hx2; exact hx2
              | some T0 =>
                rw [ha] at hx2
                obtain ⟨t1, c1, e, q1, q2⟩ := hx2
                exact ⟨t1, c1, e, q1.keep hT6.kp q2⟩
            have := readK_all (Ω := Ω) W6 sb g cK gk k i rest (.slice xa xn xc) (ah i) HFR.out.2.1 hlt hT6.sec hcod hI.far.1 (by rw [hnd, List.length_drop]; omega) hts (hI.ag i hlt)
            rw [← HFR.out.1] at this
            refine this.mono ?_
            rintro e w7 ⟨⟨t4, hm⟩, hgd⟩
            have hn := hI.new
            have hsb := hI.sbl
            have hwr := HT.out.kp.size
            have hu := obj_lt hT6.used
            have u1 := t4.obj owb (by omega)
            have u2 := t4.obj hT6.ahead (by omega)
            have u3 := t4.obj hT6.used (by omega)
            have hwbne : wb ≠ ab + 1 := by have := obj_lt HT.out.used; omega
            have hc3 : w7.cell? ⟨ab + 1, i, none⟩ = some (.slice none 0 0) := by
              rw [cell_of u3, usA_at T tg cap i i hlt]
              unfold usV
              rw [if_neg (by omega)]
            cases hr : rdK Ω k (kdV i) (ah i) rest with
            | none =>
              rw [hr] at hm
              obtain ⟨c, hc, rfl⟩ := hm
              refine ⟨none, 0, 0, c, rfl, ⟨hc, ?_, ?_⟩, ⟨cell_of u1 0, (cell_of u2 i).trans hx1⟩, hc3, frozen_of u3 i, cell_of (set_far u1 hwbne _ _) 0, (cell_of (set_far u2 (by omega) _ _) i).trans hx1⟩
              · exact (hT6.kp.trans' t4).trans ((Keep.refl (fun k => k = ab + 1) w7).setCell (p := ⟨ab + 1, i, none⟩) (fun _ => rfl) _) (fun k hk e => by omega)
              · rw [← usA_nil T tg cap i hlt]
                exact set_obj u3 i _
            | some p =>
              obtain ⟨X, r2⟩ := p
              rw [hr] at hm
              obtain ⟨t, c, rfl, t1, t2, t3⟩ := hm
              exact ⟨_, _, _, 0, rfl, ⟨rfl, _, _, TbS.next hI hT6 hlt t c X t1 t2 t3 (hgd X r2 hr) t4⟩, ⟨cell_of u1 0, (cell_of u2 i).trans hx1⟩, hc3, frozen_of u3 i, cell_of (set_far u1 hwbne _ _) 0, (cell_of (set_far u2 (by omega) _ _) i).trans hx1⟩)
          have HW6 := hid hW6
          clear k6 hT6 owb hwb hW5 hW6 c1 c2 HZ1 HZ3 hx1 hx2
          refine region_last (fun W => W.cell? ⟨wb, 0, none⟩ = some (.func (.func fr) #[] #[]) ∧ W.cell? ⟨ab, i, none⟩ = some (.slice xa xn xc)) 17 mx (by rw [← HW6.out]; exact ⟨g1', g2'⟩) (fun hS => ?_)
          refine tk (i := 0) (v := ?_) rfl (by kernel_rfl) (fun _ _ _ h => h) (by rfl) ?_ (by assumption) ?_
          rotate_left 1
          · intro w hSw; (try dsimp only at hSw); (try obtain ⟨hSw1, hSw2⟩ := hSw); (go_simp <;> with_reducible rfl)
          simp only [Act.put, tA, tB, tD, tE, tF]
          refine tk (i := 1) (v := ?_) rfl (by kernel_rfl) (fun _ _ _ h => h) (by rfl) ?_ (by assumption) ?_
          rotate_left 1
          · intro w hSw; (try dsimp only at hSw); (try obtain ⟨hSw1, hSw2⟩ := hSw); (go_simp <;> with_reducible rfl)
          simp only [Act.put, tA, tB, tC, tD, tE, tF]
          refine tk (i := 2) (v := ?_) rfl (by kernel_rfl) (fun _ _ _ h => h) (by rfl) ?_ (by assumption) ?_
          rotate_left 1
          · intro w hSw; (try dsimp only at hSw); (try obtain ⟨hSw1, hSw2⟩ := hSw); (go_simp <;> with_reducible rfl)
          simp only [Act.put, tA, tB, tC, tD, tE, tF]
          refine tk (i := 3) (v := ?_) rfl (by kernel_rfl) (fun _ _ _ h => h) (by rfl) ?_ (by assumption) ?_
          rotate_left 1
          · intro w hSw; (try dsimp only at hSw); (try obtain ⟨hSw1, hSw2⟩ := hSw); (go_simp <;> with_reducible rfl)
          simp only [Act.put, tA, tB, tC, tD, tE, tF]
          refine tk (i := 4) (v := ?_) rfl (by kernel_rfl) (fun _ _ _ h => h) (by rfl) ?_ (by assumption) ?_
          rotate_left 1
          · intro w hSw; (try dsimp only at hSw); (try obtain ⟨hSw1, hSw2⟩ := hSw); (go_simp <;> with_reducible rfl)
          simp only [Act.put, tA, tB, tC, tD, tE, tF]
          refine tk (i := 5) (v := ?_) rfl (by kernel_rfl) (fun _ _ _ h => h) (by rfl) ?_ (by assumption) ?_
          rotate_left 1
          · intro w hSw; (try dsimp only at hSw); (try obtain ⟨hSw1, hSw2⟩ := hSw); (go_simp <;> with_reducible rfl)
          simp only [Act.put, tA, tB, tC, tD, tE, tF]
          refine tk (i := 6) (v := ?_) rfl (by kernel_rfl) (fun _ _ _ h => h) (by rfl) ?_ (by assumption) ?_
          rotate_left 1
          · intro w hSw; (try dsimp only at hSw); (try obtain ⟨hSw1, hSw2⟩ := hSw); (go_simp <;> with_reducible rfl)
          simp only [Act.put, tA, tB, tC, tD, tE, tF]
          refine tk (i := 7) (v := ?_) rfl (by kernel_rfl) (fun _ _ _ h => h) (by rfl) ?_ (by assumption) ?_
          rotate_left 1
          · intro w hSw; (try dsimp only at hSw); (try obtain ⟨hSw1, hSw2⟩ := hSw); (go_simp <;> with_reducible rfl)
          simp only [Act.put, tA, tB, tC, tD, tE, tF]
          refine tk (i := 8) (v := ?_) rfl (by kernel_rfl) (fun _ _ _ h => h) (by rfl) ?_ (by assumption) ?_
          rotate_left 1
          · intro w hSw; (try dsimp only at hSw); (try obtain ⟨hSw1, hSw2⟩ := hSw); (go_simp <;> with_reducible rfl)
          simp only [Act.put, tA, tB, tC, tD, tE, tF]
          refine tk (i := 9) (v := ?_) rfl (by kernel_rfl) (fun _ _ _ h => h) (by rfl) ?_ (by assumption) ?_
          rotate_left 1
          · intro w hSw; (try dsimp only at hSw); (try obtain ⟨hSw1, hSw2⟩ := hSw); (go_simp <;> with_reducible rfl)
          simp only [Act.put, tA, tB, tC, tD, tE, tF]
          refine tk (i := 10) (v := ?_) rfl (by kernel_rfl) (fun _ _ _ h => h) (by rfl) ?_ (by assumption) ?_
          rotate_left 1
          · intro w hSw; (try dsimp only at hSw); (try obtain ⟨hSw1, hSw2⟩ := hSw); (go_simp <;> with_reducible rfl)
          simp only [Act.put, tA, tB, tC, tD, tE, tF]
          rw [← HW6.out]
          refine last_one (j := 11) (by kernel_rfl) rfl (fun K hK => ?_)
          rw [if_pos (by rfl)]
          simp only [tA, tB, tC]
          go_simp
          refine HRd.out.mono ?_
          rintro e w7 ⟨va, vn, vc, E, rfl, HX, f1, f2, f3, f4⟩
          refine hK.out _ _ (fun _ => f1) ?_
          clear hK K
          clear hS
          have hS := f1
          refine tk (i := 12) (v := ?_) rfl (by kernel_rfl) (fun _ _ _ h => h) (by rfl) ?_ (by assumption) ?_
          rotate_left 1
          · intro w hSw; (try dsimp only at hSw); (try obtain ⟨hSw1, hSw2⟩ := hSw); (go_simp <;> with_reducible rfl)
          simp only [Act.put, tA, tB, tC, tD, tE, tF]
          refine tk (i := 13) (v := ?_) rfl (by kernel_rfl) (fun _ _ _ h => h) (by rfl) ?_ (by assumption) ?_
          rotate_left 1
          · intro w hSw; (try dsimp only at hSw); (try obtain ⟨hSw1, hSw2⟩ := hSw); (go_simp <;> with_reducible rfl)
          simp only [Act.put, tA, tB, tC, tD, tE, tF]
          refine tk (i := 14) (v := ?_) rfl (by kernel_rfl) (fun _ _ _ h => h) (by rfl) ?_ (by assumption) ?_
          rotate_left 1
          · intro w hSw; (try dsimp only at hSw); (try obtain ⟨hSw1, hSw2⟩ := hSw); (go_simp <;> with_reducible rfl)
          simp only [Act.put, tA, tB, tC, tD, tE, tF]
          refine last_one (j := 15) (by kernel_rfl) rfl (fun K hK => ?_)
          rw [if_pos (by rfl)]
          simp only [tA, tB, tC]
          go_simp
          refine hK.out _ _ (fun _ => f1) ?_
          clear hK K
          refine last_one (j := 16) (by kernel_rfl) rfl (fun K hK => ?_)
          rw [if_pos (by rfl)]
          simp only [tA, tB, tC]
          go_simp
          refine hK.out _ _ (fun _ => f4) ?_
          clear hK K
          refine last_one (j := 17) (by kernel_rfl) rfl (fun K hK => ?_)
          rw [if_pos (by rfl)]
          simp only [tA, tB, tC]
          go_simp
          refine hK.out _ _ (fun e => absurd rfl e) ?_
          clear hK K
          refine last_done (by kernel_rfl) ?_ _
          generalize w7.setCell ⟨ab + 1, i, none⟩ (.slice va vn vc) = W8 at HX ⊢
          clear f1 f2 f3 f4 hS HRd g1' g2'
          have hx := HX.out
          have hfe := HFR.out.2.2
          cases hr : rdK Ω k (kdV i) (ah i) rest with
          | none =>
            rw [hr] at hx hfe
            obtain ⟨hE, hk8, hu8⟩ := hx
            have hE0 : (E != 0) = true := by simpa using hE
            have HRn := hid (show tabsN Ω kb ah r 3 = none from by
              have := tabsN_none hfe (3 - (i + 1))
              rwa [show i + 1 + (3 - (i + 1)) = 3 from by omega] at this)
            obtain ⟨C, hC⟩ : ∃ C, C = usA T tg cap i := ⟨_, rfl⟩
            rw [← hC] at hu8
            have hC3 : C.size = 3 := by rw [hC]; rfl
            have HZ1 := hid (show (Tryz.prog.info? 109).map (·.size) = some C.size from by rw [hC3]; exact HU.out)
            have HZ3 := hid (show C.all (·.oneCell') = true from by rw [hC]; exact usA_one _ _ _ _)
            have HF := (show Hid (∀ W', W' = W8.setRow (ab + 1) C → TbsAns w sb g none (.returned (.tuple #[.agg C, .int .i64 E])) W' ∧ W'.heap[ab + 1]? = some (.cells C 109 (0, 0))) from tbs_fin hk8 (by have := HH.out.2.2.2.2.2.2.2; omega) hu8 hE hC3 HZ3.out)
            have HB1 := hid hu8
            clear hfe hk8 hu8 hE hC hC3 HX HFR HT HTD
            go_wp2_with (first | (refine wpList_load_row rfl 109 (.tmp 6) rfl (ab + 1) rfl 109 C (0, 0) _ HB1.out Tryz.underlying109 rfl HZ1.out ?_) | (refine wpList_store_row rfl 109 (.tmp 6) (.tmp 55) rfl (ab + 1) C rfl rfl 109 _ HB1.out HZ1.out rfl HZ3.out ?_))
            obtain ⟨f1, f4⟩ := HF.out _ rfl
            refine bodyPost_ret (results_ct rfl _ _ _ ⟨ab + 1, 0, none⟩ (.agg C) rfl (run_loadVar_row _ _ 109 109 _ (0, 0) _ f4 Tryz.underlying109 rfl HZ1.out)) rfl ?_
            rw [HRn.out]
            exact f1
          | some p =>
            obtain ⟨X, r2⟩ := p
            rw [hr] at hx hfe
            obtain ⟨rfl, tg2, cap2, hT2⟩ := hx
            have HN := (show Hid (∃ (T : Nat → Tb) (rest : List Nat) (tg cap : Nat → Nat), tabsN Ω kb ah r (i + 1) = some (T, rest) ∧ TbS w W8 sb g cK g0 g1 g2 (ab + 1) ab wk A T tg cap (i + 1) rest) from ⟨_, _, _, _, hfe, hT2⟩)
            clear hfe hT2 HX HFR HT HTD
            go_wp2_with fail
            go_roundw
            case rel => exact ⟨i + 1, by go_num, rfl, by omega, HN.out⟩
            case measure => simp [intOf]; omega
        · obtain rfl : i = 3 := by omega
          rw [show (((3 : Nat) : Int)) = (3 : Int) from rfl]
          obtain ⟨C, hC⟩ : ∃ C, C = usA T tg cap 3 := ⟨_, rfl⟩
          have hus := hT.used
          rw [← hC] at hus
          have hC3 : C.size = 3 := by rw [hC]; rfl
          have HB1 := hid hus
          have HZ1 := hid (show (Tryz.prog.info? 109).map (·.size) = some C.size from by rw [hC3]; exact HU.out)
          have HZ3 := hid (show C.all (·.oneCell') = true from by rw [hC]; exact usA_one _ _ _ _)
          have HF := (show Hid (∀ W', W' = wr.setRow (ab + 1) C → TbsAns w sb g (tabsN Ω kb ah r 3) (.returned (.tuple #[.agg C, .int .i64 0])) W' ∧ W'.heap[ab + 1]? = some (.cells C 109 (0, 0))) from fun W' e => by
            have hk2 : Keep (fun j => j = ab + 1) wr W' := by rw [e]; exact keep_setRow (Keep.refl (fun j => j = ab + 1) wr) (ab + 1) (fun _ => rfl) _
            have hn := HI.out.new
            have hsb := HI.out.sbl
            rw [hTn]
            refine ⟨⟨hT.kp.trans hk2 (fun k hk e => by omega), tg, cap, by rw [hC, usA_three], fun v hv => ⟨(hT.tab v hv).1.keep hk2 (hT.tab v hv).2.2, (hT.tab v hv).2.1, hT.good v hv⟩, hT.sec.keep hk2 (by omega) (by omega)⟩, ?_⟩
            rw [e]
            exact setRow_heap wr (ab + 1) _ _ 109 (0, 0) hus)
          have hlt3 : ¬ ((3 : Int) < 3) := by omega
          clear hT hus hC hC3 HC hTn
          go_wp2_with (first | (refine wpList_load_row rfl 109 (.tmp 6) rfl (ab + 1) rfl 109 C (0, 0) _ HB1.out Tryz.underlying109 rfl HZ1.out ?_) | (refine wpList_store_row rfl 109 (.tmp 6) (.tmp 55) rfl (ab + 1) C rfl rfl 109 _ HB1.out HZ1.out rfl HZ3.out ?_))
          obtain ⟨f1, f4⟩ := HF.out _ rfl
          refine bodyPost_ret (results_ct rfl _ _ _ ⟨ab + 1, 0, none⟩ (.agg C) rfl (run_loadVar_row _ _ 109 109 _ (0, 0) _ f4 Tryz.underlying109 rfl HZ1.out)) rfl ?_
          exact f1
end
end Go.Proofs.YtnjilcokkhodmaaGreatDoor
