/-
  tables: all three tables of a section, whatever its bytes.
  steps: the steps that a section's tail tells, whatever its bytes.
-/
import Derived.Deep.MidRow
import Derived.Test.YtnjilcokkhodmaaGreatDoorZP16
namespace Go.Proofs.YtnjilcokkhodmaaGreatDoor
open Go.RowKit Go.Shelf
set_option linter.unusedVariables false

section
variable {Ω : Oc}
def rdK (Ω : Oc) (k : Nat) (K : Kd) (t : Option Tb) (bs : List Nat) : Option (Tb × List Nat) :=
 if k = 0 then some (tbX K.cs K.l, bs) else if k = 1 then aloneR K bs else if k = 2 then descR Ω K bs else aheadR t bs
def readNo (k : Nat) : Nat := if k = 0 then 81 else if k = 1 then 83 else if k = 2 then 85 else 87
def offerNo (k : Nat) : Nat := if k = 0 then 82 else if k = 1 then 84 else if k = 2 then 86 else 88
theorem kdefV (v : Nat) (hv : v < 3) : KDef (kdV v) := by
 rcases (show v = 0 ∨ v = 1 ∨ v = 2 by omega) with rfl | rfl | rfl
 ·exact kdefL
 ·exact kdefB
 ·exact kdefM
theorem kd_l (v : Nat) (hv : v < 3) : (kdV v).l ≤ (kdV v).ml := by
 rcases (show v = 0 ∨ v = 1 ∨ v = 2 by omega) with rfl | rfl | rfl <;> decide
theorem kd_len (v : Nat) (hv : v < 3) : (kdV v).cs.length ≤ (kdV v).codes := by
 rcases (show v = 0 ∨ v = 1 ∨ v = 2 by omega) with rfl | rfl | rfl <;> decide
theorem call_reads (k : Nat) (hk : k < 4) (args : Array Value) (W : World) : (callFunc (readNo k) args).run Tryz.prog W = .ok (.enter (readNo k) args) W := by
 rcases (show k = 0 ∨ k = 1 ∨ k = 2 ∨ k = 3 by omega) with rfl | rfl | rfl | rfl <;> kernel_rfl
theorem kinds_at (k : Nat) (hk : k < 4) : kindsC[k * 2]? = some (.func (.func (readNo k)) #[] #[]) ∧ kindsC[k * 2 + 1]? = some (.func (.func (offerNo k)) #[] #[]) := by
 rcases (show k = 0 ∨ k = 1 ∨ k = 2 ∨ k = 3 by omega) with rfl | rfl | rfl | rfl <;> exact ⟨rfl, rfl⟩
theorem aloneR_good {K : Kd} (hm : K.ml ≤ 9) {bs r : List Nat} {T : Tb} (h : aloneR K bs = some (T, r)) : GoodT K T ∧ ∃ n, r = bs.drop n := by
  cases bs with
  | nil => cases h
  | cons c r2 =>
    by_cases hc : c < K.codes
    · rw [show aloneR K (c :: r2) = some (tbA c, r2) from if_pos hc] at h
      cases h; exact ⟨tbA_good hm c hc, 1, rfl⟩
    · rw [show aloneR K (c :: r2) = none from if_neg hc] at h
      cases h
theorem descR_drop {K : Kd} {bs r : List Nat} {T : Tb} (h : descR Ω K bs = some (T, r)) : ∃ n, r = bs.drop n := by
 unfold descR at h
 split at h
 ·cases h
 ·cases h; exact ⟨_, rfl⟩
theorem rdK_drop {k : Nat} {K : Kd} {t : Option Tb} {bs r : List Nat} {T : Tb} (hm : K.ml ≤ 9) (h : rdK Ω k K t bs = some (T, r)) : ∃ n, r = bs.drop n := by
 unfold rdK at h
 split at h
 ·cases h; exact ⟨0, rfl⟩
 ·split at h
  ·exact (aloneR_good hm h).2
  ·split at h
   ·exact descR_drop h
   ·unfold aheadR at h
    split at h
    ·cases h
    ·split at h
     ·cases h; exact ⟨0, rfl⟩
     ·cases h
theorem readK_all (w : World) (sb g b gk k v : Nat) (bs : List Nat) (x : Value) (t : Option Tb) (hk : k < 4) (hv : v < 3) (hS : Sec w sb g bs) (hC : Coding w b (v * 110) gk (kdV v)) (hne : b ≠ sb) (hl : bs.length ≤ 131072) (ht : IsTs w x t) (hG : ∀ T, t = some T → GoodT (kdV v) T) :
  Calls Tryz.prog (readNo k) #[.pointer (some ⟨sb, 0, none⟩), .pointer (some ⟨b, v * 110, none⟩), x] w fun e w' => TabAns w sb g (rdK Ω k (kdV v) t bs) e w' ∧ ∀ T r, rdK Ω k (kdV v) t bs = some (T, r) → GoodT (kdV v) T := by
 have hm := (kokV v hv).ml9
 rcases (show k = 0 ∨ k = 1 ∨ k = 2 ∨ k = 3 by omega) with rfl | rfl | rfl | rfl
 ·exact (readUntold_all w sb g b (v * 110) gk (kdV v) bs x hS hC (kdefV v hv)).mono fun e w' h => ⟨h, fun T r h2 => by cases h2; exact tbX_good (kdefV v hv).ok (kd_l v hv) hm (kd_len v hv)⟩
 ·exact (readAlone_all w sb g b (v * 110) gk (kdV v) bs x hS hC hne).mono fun e w' h => ⟨h, fun T r h2 => (aloneR_good hm h2).1⟩
 ·exact readDescribed_all w sb g b (v * 110) gk (kdV v) bs x hS hC hl
 ·refine (readAhead_all w sb g b (v * 110) gk (kdV v) bs x t hS hC ht hG).mono fun e w' h => ⟨h, fun T r h2 => ?_⟩
  have h3 : aheadR t bs = some (T, r) := h2
  unfold aheadR at h3
  split at h3
  ·cases h3
  ·split at h3
   ·cases h3; exact hG _ rfl
   ·cases h3

def tabsN (Ω : Oc) (kb : Nat) (ah : Nat → Option Tb) (bs : List Nat) : Nat → Option ((Nat → Tb) × List Nat)
  | 0 => some (fun _ => tbA 0, bs)
  | i + 1 => match tabsN Ω kb ah bs i with
    | none => none
    | some (T, r) => match rdK Ω (kb / 2 ^ (6 - 2 * i) % 4) (kdV i) (ah i) r with
      | none => none
      | some (X, r2) => some (updN T i X, r2)
theorem tabsN_none {kb : Nat} {ah : Nat → Option Tb} {bs : List Nat} {i : Nat} (h : tabsN Ω kb ah bs i = none) : ∀ d, tabsN Ω kb ah bs (i + d) = none
  | 0 => h
  | d + 1 => by
    show (match tabsN Ω kb ah bs (i + d) with | none => none | some (T, r) => _) = none
    rw [tabsN_none h d]
theorem tabsN_drop {kb : Nat} {ah : Nat → Option Tb} {bs : List Nat} : ∀ {i : Nat} {T : Nat → Tb} {r : List Nat}, i ≤ 3 → tabsN Ω kb ah bs i = some (T, r) → ∃ n, r = bs.drop n
  | 0, T, r, _, h => by cases h; exact ⟨0, rfl⟩
  | i + 1, T, r, hi, h => by
    unfold tabsN at h
    split at h
    · cases h
    · rename_i T0 r0 h0
      split at h
      · cases h
      · rename_i X r2 h1
        cases h
        obtain ⟨n, rfl⟩ := tabsN_drop (by omega) h0
        obtain ⟨m, rfl⟩ := rdK_drop (kokV i (by omega)).ml9 h1
        exact ⟨n + m, by rw [List.drop_drop]⟩
def tablesR (Ω : Oc) (ah : Nat → Option Tb) : List Nat → Option ((Nat → Tb) × List Nat)
 | [] => none
 | kb :: r => if kb % 4 ≠ 0 then none else tabsN Ω kb ah r 3
def usV (T : Nat → Tb) (tg cap : Nat → Nat) (i v : Nat) : Value := if v < i then .slice (some ⟨tg v, 0, none⟩) (2 ^ (T v).l) (cap v) else .slice none 0 0
def usA (T : Nat → Tb) (tg cap : Nat → Nat) (i : Nat) : Array Value := #[usV T tg cap i 0, usV T tg cap i 1, usV T tg cap i 2]
theorem usA_at (T : Nat → Tb) (tg cap : Nat → Nat) (i v : Nat) (hv : v < 3) : (usA T tg cap i)[v]? = some (usV T tg cap i v) := by
 rcases (show v = 0 ∨ v = 1 ∨ v = 2 by omega) with rfl | rfl | rfl <;> rfl
theorem usA_set (T : Nat → Tb) (tg cap : Nat → Nat) (i t c : Nat) (X : Tb) (hi : i < 3) : (usA T tg cap i).setIfInBounds i (.slice (some ⟨t, 0, none⟩) (2 ^ X.l) c) = usA (updN T i X) (updN tg i t) (updN cap i c) (i + 1) := by
 rcases (show i = 0 ∨ i = 1 ∨ i = 2 by omega) with rfl | rfl | rfl <;> rfl
theorem usA_nil (T : Nat → Tb) (tg cap : Nat → Nat) (i : Nat) (hi : i < 3) : (usA T tg cap i).setIfInBounds i (.slice none 0 0) = usA T tg cap i := by
 rcases (show i = 0 ∨ i = 1 ∨ i = 2 by omega) with rfl | rfl | rfl <;> rfl
theorem usA_three (T : Nat → Tb) (tg cap : Nat → Nat) : usA T tg cap 3 = tabA T tg cap := rfl
theorem usA_one (T : Nat → Tb) (tg cap : Nat → Nat) (i : Nat) : (usA T tg cap i).all (·.oneCell') = true := by
 refine all_oneCell_toArray (fun v hv => ?_)
 simp only [List.mem_cons, List.not_mem_nil, or_false] at hv
 rcases hv with rfl | rfl | rfl <;> (unfold usV; split <;> rfl)
/-- tables under way. -/
structure TbS (w wr : World) (sb g cK g0 g1 g2 ub ab wk : Nat) (A : Array Value) (T : Nat → Tb) (tg cap : Nat → Nat) (i : Nat) (rest : List Nat) : Prop where
 sec : Sec wr sb g rest
 cods : Cods wr cK g0 g1 g2
 used : wr.heap[ub]? = some (.cells (usA T tg cap i) 109 (0, 0))
 ahead : wr.heap[ab]? = some (.cells A 109 (0, 0))
 kinds : wr.heap[wk]? = some (.cells kindsC 137 (0, 0))
 tab : ∀ v, v < i → IsTb wr (tg v) (T v) ∧ w.heap.size ≤ tg v ∧ tg v ≠ ub
 good : ∀ v, v < i → GoodT (kdV v) (T v)
 kp : Keep (fun k => k = sb) w wr
/-- What does not change. -/
structure TbIn (w : World) (sb g cK g0 g1 g2 ub ab wk : Nat) (A : Array Value) (ah : Nat → Option Tb) : Prop where
 av : ∀ v, v < 3 → ∃ x, A[v]? = some x ∧ (match ah v with
  | none => x = .slice none 0 0
  | some T => ∃ tg cap, x = .slice (some ⟨tg, 0, none⟩) (2 ^ T.l) cap ∧ IsTb w tg T ∧ tg ≠ sb)
 ag : ∀ v, v < 3 → ∀ T, ah v = some T → GoodT (kdV v) T
 sbl : sb < w.heap.size ∧ g < w.heap.size ∧ cK < w.heap.size ∧ g0 < w.heap.size ∧ g1 < w.heap.size ∧ g2 < w.heap.size
 far : cK ≠ sb ∧ g0 ≠ sb ∧ g1 ≠ sb ∧ g2 ≠ sb
 new : w.heap.size ≤ ub ∧ w.heap.size ≤ ab ∧ w.heap.size ≤ wk ∧ ub ≠ ab ∧ ub ≠ wk ∧ ab ≠ wk
theorem TbS.to {w wr w' : World} {sb g cK g0 g1 g2 ub ab wk : Nat} {A : Array Value} {T : Nat → Tb} {tg cap : Nat → Nat} {i : Nat} {rest : List Nat} (h : TbS w wr sb g cK g0 g1 g2 ub ab wk A T tg cap i rest) (hk : Keep noBlock wr w') : TbS w w' sb g cK g0 g1 g2 ub ab wk A T tg cap i rest :=
 ⟨h.sec.keep hk (fun h => h) (fun h => h), h.cods.keep hk (fun h => h) (fun h => h) (fun h => h) (fun h => h), hk.obj h.used (fun h => h), hk.obj h.ahead (fun h => h), hk.obj h.kinds (fun h => h), fun v hv => ⟨(h.tab v hv).1.keep hk (fun h => h), (h.tab v hv).2⟩, h.good, h.kp.trans hk (fun _ _ h => h.elim)⟩
theorem TbS.next {w wr w3 : World} {sb g cK g0 g1 g2 ub ab wk : Nat} {A : Array Value} {ah : Nat → Option Tb} {T : Nat → Tb} {tg cap : Nat → Nat} {i : Nat} {rest r2 : List Nat} (hI : TbIn w sb g cK g0 g1 g2 ub ab wk A ah) (h : TbS w wr sb g cK g0 g1 g2 ub ab wk A T tg cap i rest) (hi : i < 3) (t c : Nat) (X : Tb)
  (h1 : IsTb w3 t X) (h2 : wr.heap.size ≤ t) (h3 : Sec w3 sb g r2) (hX : GoodT (kdV i) X) (hk : Keep (fun k => k = sb) wr w3) :
  TbS w (w3.setCell ⟨ub, i, none⟩ (.slice (some ⟨t, 0, none⟩) (2 ^ X.l) c)) sb g cK g0 g1 g2 ub ab wk A (updN T i X) (updN tg i t) (updN cap i c) (i + 1) r2 := by
 obtain ⟨s1, s2, s3, s4, s5, s6⟩ := hI.sbl
 obtain ⟨f1, f2, f3, f4⟩ := hI.far
 obtain ⟨n1, n2, n3, n4, n5, n6⟩ := hI.new
 have hwr := h.kp.size
 have hk2 : Keep (fun k => k = ub) w3 (w3.setCell ⟨ub, i, none⟩ (.slice (some ⟨t, 0, none⟩) (2 ^ X.l) c)) := (Keep.refl (fun k => k = ub) w3).setCell (p := ⟨ub, i, none⟩) (fun _ => rfl) _
 have hub : ub < wr.heap.size := obj_lt h.used
 refine ⟨h3.keep hk2 (by omega) (by omega), (h.cods.keep hk f1 f2 f3 f4).keep hk2 (by omega) (by omega) (by omega) (by omega), ?_, hk2.obj (hk.obj h.ahead (by omega)) (by omega), hk2.obj (hk.obj h.kinds (by omega)) (by omega), fun v hv => ?_, fun v hv => ?_, (h.kp.trans' hk).trans hk2 (fun k hk e => by omega)⟩
 ·rw [← usA_set T tg cap i t c X hi]
  exact set_obj (hk.obj h.used (by omega)) i _
 ·by_cases e : v = i
  ·subst e
   rw [updN_self, updN_self]
   exact ⟨h1.keep hk2 (by omega), by omega, by omega⟩
  ·rw [updN_lt tg i t v (by omega), updN_lt T i X v (by omega)]
   obtain ⟨a1, a2, a3⟩ := h.tab v (by omega)
   exact ⟨(a1.keep hk (by omega)).keep hk2 a3, a2, a3⟩
 ·by_cases e : v = i
  ·subst e; rw [updN_self]; exact hX
  ·rw [updN_lt T i X v (by omega)]; exact h.good v (by omega)
theorem results_ct {fn : Func} {a u : Tmp} {t : TypeId} (h : fn.results = #[.cell a t, .tmp u]) (tmps : Array Value) (P : Program) (w : World) (p : Addr) (v : Value) (ha : tmps[a]?.getD undef = .pointer (some p)) (hv : (loadVar t p).run P w = .ok v w) :
  (results fn tmps).run P w = .ok (.tuple #[v, tmps.getD u undef]) w := by
 simp [results, h, ha, asAddr, hv]
def TbsAns (w : World) (sb g : Nat) (R : Option ((Nat → Tb) × List Nat)) (e : Ending) (w' : World) : Prop :=
 Keep (fun k => k = sb) w w' ∧ match R with
  | none => ∃ (v : Array Value) (c : Int), c ≠ 0 ∧ v.size = 3 ∧ v.all (·.oneCell') = true ∧ e = .returned (.tuple #[.agg v, .int .i64 c])
  | some (T, rest) => ∃ tg cap : Nat → Nat, e = .returned (.tuple #[.agg (tabA T tg cap), .int .i64 0]) ∧ (∀ v, v < 3 → IsTb w' (tg v) (T v) ∧ w.heap.size ≤ tg v ∧ GoodT (kdV v) (T v)) ∧ Sec w' sb g rest

theorem set_far {w : World} {b c : Nat} {o : Obj} (h : w.heap[b]? = some o) (hne : b ≠ c) (i : Nat) (v : Value) : (w.setCell ⟨c, i, none⟩ v).heap[b]? = some o :=
 (Below.heap_setCell _ _ _ _ hne).trans h
theorem alloc_new1 (w : World) (c1 c2 : Array Value) (t1 t2 : TypeId) : ((w.alloc (.cells c1 t1)).alloc (.cells c2 t2)).heap[w.heap.size + 1]? = some (.cells c2 t2 (0, 0)) := by
 have := alloc_new (w.alloc (.cells c1 t1)) (.cells c2 t2)
 rwa [World.size_alloc] at this
theorem tbs_fin {w wr : World} {sb g ub : Nat} {C : Array Value} {E : Int} (hk : Keep (fun k => k = sb) w wr) (hub : w.heap.size ≤ ub) (hus : wr.heap[ub]? = some (.cells C 109 (0, 0))) (hE : E ≠ 0) (hC3 : C.size = 3) (hC1 : C.all (·.oneCell') = true) : ∀ W', W' = wr.setRow ub C → TbsAns w sb g none (.returned (.tuple #[.agg C, .int .i64 E])) W' ∧ W'.heap[ub]? = some (.cells C 109 (0, 0)) := fun W' e => by
 have hk2 : Keep (fun j => j = ub) wr W' := by rw [e]; exact keep_setRow (Keep.refl (fun j => j = ub) wr) ub (fun _ => rfl) _
 refine ⟨⟨hk.trans hk2 (fun k hk e => by omega), C, E, hE, hC3, hC1, rfl⟩, ?_⟩
 rw [e]
 exact setRow_heap wr ub _ _ 109 (0, 0) hus
set_option maxRecDepth 100000 in
set_option maxHeartbeats 16000000 in
theorem tables_all (w : World) (sb g cK g0 g1 g2 : Nat) (A : Array Value) (ah : Nat → Option Tb) (bs : List Nat) (hS : Sec w sb g bs) (hC : Cods w cK g0 g1 g2) (hA3 : A.size = 3) (hA1 : A.all (·.oneCell') = true)
    (hav : ∀ v, v < 3 → ∃ x, A[v]? = some x ∧ (match ah v with
      | none => x = .slice none 0 0
      | some T => ∃ tg cap, x = .slice (some ⟨tg, 0, none⟩) (2 ^ T.l) cap ∧ IsTb w tg T ∧ tg ≠ sb))
    (hag : ∀ v, v < 3 → ∀ T, ah v = some T → GoodT (kdV v) T) (hsb : sb < w.heap.size) (hg : g < w.heap.size) (far : cK ≠ sb ∧ g0 ≠ sb ∧ g1 ≠ sb ∧ g2 ≠ sb) (hl : bs.length ≤ 131072) :
    Calls Tryz.prog 51 #[.pointer (some ⟨sb, 0, none⟩), .pointer (some ⟨cK, 0, none⟩), .agg A] w fun e w' => TbsAns w sb g (tablesR Ω ah bs) e w' := by
  have HU := (show Hid ((Tryz.prog.info? 109).map (·.size) = some 3) from (by kernel_rfl : (Tryz.prog.info? 109).map (·.size) = some 3))
  obtain ⟨U0, hU0⟩ : ∃ U0 : Array Value, U0 = #[.slice none 0 0, .slice none 0 0, .slice none 0 0] := ⟨_, rfl⟩
  obtain ⟨W0, hW0⟩ : ∃ W0, W0 = (w.alloc (.cells A 109)).alloc (.cells #[.slice none 0 0, .slice none 0 0, .slice none 0 0] 109) := ⟨_, rfl⟩
  have k0 : Keep noBlock w W0 := by rw [hW0]; exact ((Keep.refl _ w).alloc _).alloc _
  obtain ⟨ab, hab⟩ : ∃ ab, ab = w.heap.size := ⟨_, rfl⟩
  have o1 : W0.heap[ab]? = some (.cells A 109 (0, 0)) := by rw [hW0, hab]; exact alloc_far (alloc_new _ _) _
  have o2 : W0.heap[ab + 1]? = some (.cells U0 109 (0, 0)) := by rw [hW0, hab, hU0]; exact alloc_new1 _ _ _ _ _
  have HN := (show Hid (Calls Tryz.prog 62 #[.pointer (some ⟨sb, 0, none⟩)] W0 fun e w' => NxP W0 sb g bs e w' ∧ w'.heap[ab]? = some (.cells A 109 (0, 0)) ∧ w'.heap[ab + 1]? = some (.cells U0 109 (0, 0)) ∧ Keep (fun k => k = sb) w w') from (next_all sb g bs W0 (hS.keep k0 (fun h => h) (fun h => h))).mono fun e w' h => ⟨h, h.1.obj o1 (by omega), h.1.obj o2 (by omega), (k0.mono (T := fun k => k = sb) (fun _ _ h => h.elim)).trans' h.1⟩)
  have HH := (show Hid (Cods w cK g0 g1 g2 ∧ (∀ v, v < 3 → ∃ x, A[v]? = some x ∧ (match ah v with
      | none => x = .slice none 0 0
      | some T => ∃ tg cap, x = .slice (some ⟨tg, 0, none⟩) (2 ^ T.l) cap ∧ IsTb w tg T ∧ tg ≠ sb)) ∧ (∀ v, v < 3 → ∀ T, ah v = some T → GoodT (kdV v) T) ∧ sb < w.heap.size ∧ g < w.heap.size ∧ (cK ≠ sb ∧ g0 ≠ sb ∧ g1 ≠ sb ∧ g2 ≠ sb) ∧ bs.length ≤ 131072 ∧ ab = w.heap.size) from ⟨hC, hav, hag, hsb, hg, far, hl, hab⟩)
  have HU1 := (show Hid (U0.all (·.oneCell') = true ∧ (Tryz.prog.info? 109).map (·.size) = some U0.size ∧ U0.size = 3) from by rw [hU0]; exact ⟨by kernel_rfl, HU.out, rfl⟩)
  have HU2 := hid hU0
  have hlt := hS.lt
  clear hS hC hav hag hsb hg far hl k0 o1 o2 hA1 hA3 hU0
  rcases bs with _ | ⟨kb, r⟩
  · have HN2 := (show Hid (Calls Tryz.prog 62 #[.pointer (some ⟨sb, 0, none⟩)] W0 fun e w' => e = .returned (.tuple #[.int .i64 0, .bool false]) ∧ Hid (w'.heap[ab + 1]? = some (.cells U0 109 (0, 0)) ∧ Keep (fun k => k = sb) w w')) from HN.out.mono fun e w' h => ⟨h.1.2, h.2.2⟩)
    clear HN
    go_enter Tryz.func51, Tryz.ntmps51
    go_wp2_with fail
    rw [← hW0, ← hab]
    refine HN2.out.mono ?_
    rintro e w1 ⟨rfl, HB⟩
    have HF := (show Hid (∀ W', W' = w1.setRow (ab + 1) U0 → TbsAns w sb g none (.returned (.tuple #[.agg U0, .int .i64 10])) W' ∧ W'.heap[ab + 1]? = some (.cells U0 109 (0, 0))) from tbs_fin HB.out.2 (by have := HH.out.2.2.2.2.2.2.2; omega) HB.out.1 (by decide) HU1.out.2.2 HU1.out.1)
    have HB1 := hid HB.out.1
    clear HB HN2 hW0 hab
    go_wp2_with (first | (refine wpList_load_row rfl 109 (.tmp 6) rfl (ab + 1) rfl 109 U0 (0, 0) _ HB1.out Tryz.underlying109 rfl HU1.out.2.1 ?_) | (refine wpList_store_row rfl 109 (.tmp 6) (.tmp 20) rfl (ab + 1) U0 rfl rfl 109 _ HB1.out HU1.out.2.1 rfl HU1.out.1 ?_))
    obtain ⟨f1, f4⟩ := HF.out _ rfl
    refine bodyPost_ret (results_ct rfl _ _ _ ⟨ab + 1, 0, none⟩ (.agg U0) rfl (run_loadVar_row _ _ 109 109 _ (0, 0) _ f4 Tryz.underlying109 rfl HU1.out.2.1)) rfl ?_
    exact f1
  · have HN2 := (show Hid (Calls Tryz.prog 62 #[.pointer (some ⟨sb, 0, none⟩)] W0 fun e w' => e = .returned (.tuple #[.int .i64 (kb : Int), .bool true]) ∧ Hid (w'.heap[ab]? = some (.cells A 109 (0, 0)) ∧ w'.heap[ab + 1]? = some (.cells U0 109 (0, 0)) ∧ Keep (fun k => k = sb) w w' ∧ Sec w' sb g r)) from HN.out.mono fun e w' h => ⟨h.1.2.1, h.2.1, h.2.2.1, h.2.2.2, h.1.2.2⟩)
    have hkb : kb < 256 := hlt 0
    clear HN
    by_cases hm : kb % 4 ≠ 0
    · have HR := hid (show tablesR Ω ah (kb :: r) = none from if_pos hm)
      obtain ⟨m, hme⟩ : ∃ m, m = kb % 4 := ⟨_, rfl⟩
      have hmt : Int.tmod (kb : Int) 4 = (m : Int) := by rw [Int.tmod_eq_emod_of_nonneg (by omega)]; omega
      have hm0 : ((m : Int) != 0) = true := by simp; omega
      have hmb : (m : Int) < 4 := by omega
      clear hme hm
      go_enter Tryz.func51, Tryz.ntmps51
      go_wp2_with fail
      rw [← hW0, ← hab]
      refine HN2.out.mono ?_
      rintro e w1 ⟨rfl, HB⟩
      have HF := (show Hid (∀ W', W' = w1.setRow (ab + 1) U0 → TbsAns w sb g none (.returned (.tuple #[.agg U0, .int .i64 11])) W' ∧ W'.heap[ab + 1]? = some (.cells U0 109 (0, 0))) from tbs_fin HB.out.2.2.1 (by have := HH.out.2.2.2.2.2.2.2; omega) HB.out.2.1 (by decide) HU1.out.2.2 HU1.out.1)
      have HB1 := hid HB.out.2.1
      clear HB HN2 hW0 hab
      go_wp2_with (first | (refine wpList_load_row rfl 109 (.tmp 6) rfl (ab + 1) rfl 109 U0 (0, 0) _ HB1.out Tryz.underlying109 rfl HU1.out.2.1 ?_) | (refine wpList_store_row rfl 109 (.tmp 6) (.tmp 24) rfl (ab + 1) U0 rfl rfl 109 _ HB1.out HU1.out.2.1 rfl HU1.out.1 ?_))
      obtain ⟨f1, f4⟩ := HF.out _ rfl
      refine bodyPost_ret (results_ct rfl _ _ _ ⟨ab + 1, 0, none⟩ (.agg U0) rfl (run_loadVar_row _ _ 109 109 _ (0, 0) _ f4 Tryz.underlying109 rfl HU1.out.2.1)) rfl ?_
      rw [HR.out]
      exact f1
    · have HR := hid (show tablesR Ω ah (kb :: r) = tabsN Ω kb ah r 3 from if_neg hm)
      have hmt : Int.tmod (kb : Int) 4 = 0 := by rw [Int.tmod_eq_emod_of_nonneg (by omega)]; omega
      have HK := (show Hid (∀ W : World, _) from fun W => kinds_any W)
      rw [HR.out]
      clear hm HR
      go_enter Tryz.func51, Tryz.ntmps51
      go_wp2_with fail
      rw [← hW0, ← hab]
      refine HN2.out.mono ?_
      rintro e w1 ⟨rfl, HB⟩
      clear HN2 hW0 hab
      go_wp2_with fail
      refine (HK.out w1).mono ?_
      rintro e w2 ⟨rfl, k2⟩
      have HZ1 := hid (show (Tryz.prog.info? 137).map (·.size) = some kindsC.size from (by kernel_rfl : (Tryz.prog.info? 137).map (·.size) = some 8))
      have HZ3 := hid (show kindsC.all (·.oneCell') = true from by kernel_rfl)
      have HL := (show Hid (∀ W3, W3 = w2.alloc (.cells kindsC 137) → TbIn w sb g cK g0 g1 g2 (ab + 1) ab w2.heap.size A ah ∧ TbS w W3 sb g cK g0 g1 g2 (ab + 1) ab w2.heap.size A (fun _ => tbA 0) (fun _ => 0) (fun _ => 0) 0 r) from fun W3 e => by
        obtain ⟨x1, x2, x3, x4⟩ := HB.out
        obtain ⟨y1, y2, y3, y4, y5, y6, y7, y8⟩ := HH.out
        have k3 : Keep noBlock w1 W3 := by rw [e]; exact k2.alloc _
        have l1 := obj_lt x1
        have l2 := obj_lt x2
        have l3 := k2.size
        refine ⟨⟨y2, y3, ⟨y4, y5, y1.cl.lt, y1.cl.gt, y1.cb.gt, y1.cm.gt⟩, y6, by omega⟩, x4.keep k3 (fun h => h) (fun h => h), ((y1.keep x3 y6.1 y6.2.1 y6.2.2.1 y6.2.2.2)).keep k3 (fun h => h) (fun h => h) (fun h => h) (fun h => h), ?_, k3.obj x1 (fun h => h), ?_, fun v hv => by omega, fun v hv => by omega, x3.trans k3 (fun _ _ h => h.elim)⟩
        · have := k3.obj x2 (fun h => h)
          rw [HU2.out] at this
          exact this
        · rw [e]
          exact alloc_new w2 _)
      clear k2 HK
      go_wp2_with (refine wpList_store_row rfl 137 (.tmp 10) (.tmp 25) rfl w2.heap.size kindsC rfl rfl 137 _ (World.alloc_heap_new w2 _) HZ1.out (by kernel_rfl) HZ3.out ?_; rw [World.setRow_alloc_new])
      have HL0 := hid (HL.out _ rfl)
      clear HL HB HZ1 HZ3 HU1 HU2
      generalize w2.alloc (.cells kindsC 137) = W3 at *
      generalize w2.heap.size = wk at *
      have HI := hid HL0.out.1
      have HL1 := hid HL0.out.2
      clear HL0
      have HRL := (show Hid (r.length ≤ 131072) from by have := HH.out.2.2.2.2.2.2.1; simp at this; show r.length ≤ 131072; omega)
      go_loopw [7, 26] (fun v7 v26 wr => ∃ i : Nat, v26 = .int .i64 (i : Int) ∧ v7 = .int .i64 0 ∧ i ≤ 3 ∧ Hid (∃ (T : Nat → Tb) (rest : List Nat) (tg cap : Nat → Nat), tabsN Ω kb ah r i = some (T, rest) ∧ TbS w wr sb g cK g0 g1 g2 (ab + 1) ab wk A T tg cap i rest)) (fun _ v26 _ => 3 - (intOf v26).toNat)
      case atStart => exact ⟨0, rfl, rfl, by omega, _, _, _, _, rfl, HL1.out⟩
      case round =>
        clear HL1
        obtain ⟨i, rfl, rfl, hi, HC⟩ := hrel
        obtain ⟨T, rest, tg, cap, hTn, hT⟩ := HC.out
        by_cases hlt : i < 3
        · have hiI : (i : Int) < 3 := by omega
          obtain ⟨k, hk⟩ : ∃ k, k = kb / 2 ^ (6 - 2 * i) % 4 := ⟨_, rfl⟩
          have hkl : k < 4 := by omega
          have HSh := (show Hid (Calls Tryz.prog 66 #[.int .i64 (i : Int)] wr fun e w' => e = .returned (.int .i64 ((6 - 2 * i : Nat) : Int)) ∧ w' = wr) from shiftOf_any i (by omega) wr)
          obtain ⟨sh, hsh⟩ : ∃ sh, sh = 6 - 2 * i := ⟨_, rfl⟩
          rw [← hsh] at HSh hk
          obtain ⟨y, hy⟩ : ∃ y, y = kb / 2 ^ sh := ⟨_, rfl⟩
          rw [← hy] at hk
          have hyb : y < 256 := by rw [hy]; exact Nat.lt_of_le_of_lt (Nat.div_le_self _ _) hkb
          have hyI : (kb : Int) / 2 ^ sh = (y : Int) := by rw [hy]; simp
          have hyk : Int.tmod (y : Int) 4 = (k : Int) := by rw [Int.tmod_eq_emod_of_nonneg (by omega)]; omega
          have hkI : (k : Int) < 4 := by omega
          have hshI : (sh : Int) ≤ 6 := by omega
          obtain ⟨e1, e2⟩ := kinds_at k hkl
          obtain ⟨fr, hfr⟩ : ∃ fr, fr = readNo k := ⟨_, rfl⟩
          obtain ⟨fo, hfo⟩ : ∃ fo, fo = offerNo k := ⟨_, rfl⟩
          have c1 : wr.cell? ⟨wk, k * 2, none⟩ = some (.func (.func fr) #[] #[]) := by rw [cell_of hT.kinds, hfr]; exact e1
          have c2 : wr.cell? ⟨wk, k * 2 + 1, none⟩ = some (.func (.func fo) #[] #[]) := by rw [cell_of hT.kinds, hfo]; exact e2
          have hcf := call_reads k hkl
          rw [← hfr] at hcf
          have HFR := (show Hid (fr = readNo k ∧ k < 4 ∧ tabsN Ω kb ah r (i + 1) = match rdK Ω k (kdV i) (ah i) rest with | none => none | some (X, r2) => some (updN T i X, r2)) from ⟨hfr, hkl, by
            show (match tabsN Ω kb ah r i with | none => none | some (T, r) => match rdK Ω (kb / 2 ^ (6 - 2 * i) % 4) (kdV i) (ah i) r with | none => none | some (X, r2) => some (updN T i X, r2)) = _
            rw [hTn, hk, hy, hsh]⟩)
          have HZ1 := hid (show (Tryz.prog.info? 136).map (·.size) = some (#[.func (.func fr) #[] #[], .func (.func fo) #[] #[]] : Array Value).size from (by kernel_rfl : (Tryz.prog.info? 136).map (·.size) = some 2))
          have HZ3 := hid (show (#[.func (.func fr) #[] #[], .func (.func fo) #[] #[]] : Array Value).all (·.oneCell') = true from all_oneCell_toArray (fun v hv => by simp only [List.mem_cons, List.not_mem_nil, or_false] at hv; rcases hv with rfl | rfl <;> rfl))
          have HT := hid hT
          have HTD := hid (tabsN_drop hi hTn)
          clear hT hk hsh hy e1 e2 hfr hfo HC hTn
          go_wp2_with fail
          refine HSh.out.mono ?_
          rintro e w5 ⟨rfl, rfl⟩
          go_wp2_with (refine wpList_store_row rfl 136 (.tmp 12) (.tmp 35) rfl w5.heap.size #[.func (.func fr) #[] #[], .func (.func fo) #[] #[]] rfl rfl 136 _ (World.alloc_heap_new w5 _) HZ1.out (by kernel_rfl) HZ3.out ?_; rw [World.setRow_alloc_new])
          obtain ⟨wb, hwb⟩ : ∃ wb, wb = w5.heap.size := ⟨_, rfl⟩
          rw [← hwb]
          obtain ⟨W5, hW5⟩ : ∃ W5, W5 = w5.alloc (.cells #[.func (.func fr) #[] #[], .func (.func fo) #[] #[]] 136) := ⟨_, rfl⟩
          rw [← hW5]
          obtain ⟨W6, hW6⟩ : ∃ W6, W6 = W5.drew := ⟨_, rfl⟩
          have k6 : Keep noBlock w5 W6 := by rw [hW6, hW5]; exact ((Keep.refl _ w5).alloc _).drew
          have hT6 := HT.out.to k6
          have owb : W6.heap[wb]? = some (.cells #[.func (.func fr) #[] #[], .func (.func fo) #[] #[]] 136 (0, 0)) := by rw [hW6, hW5, hwb]; exact alloc_new w5 _
          obtain ⟨x, hx1, hx2⟩ := HI.out.av i hlt
          have hxs : ∃ xa xn xc, x = .slice xa xn xc := by
            cases ha : ah i with
            | none => rw [ha] at hx2; exact ⟨_, _, _, hx2⟩
            | some T0 => rw [ha] at hx2; obtain ⟨t1, c1, e, -⟩ := hx2; exact ⟨_, _, _, e⟩
          obtain ⟨xa, xn, xc, rfl⟩ := hxs
          have g1' : W6.cell? ⟨wb, 0, none⟩ = some (.func (.func fr) #[] #[]) := cell_of owb 0
          have g2' : W6.cell? ⟨ab, i, none⟩ = some (.slice xa xn xc) := (cell_of hT6.ahead i).trans hx1
          have HRd := (show Hid (Calls Tryz.prog fr #[.pointer (some ⟨sb, 0, none⟩), .pointer (some ⟨cK, i * 110, none⟩), .slice xa xn xc] W6 fun e w7 => ∃ va vn vc E, e = .returned (.tuple #[.slice va vn vc, .int .i64 E]) ∧
              Hid (match rdK Ω k (kdV i) (ah i) rest with
                | none => E ≠ 0 ∧ Keep (fun k => k = sb) w (w7.setCell ⟨ab + 1, i, none⟩ (.slice va vn vc)) ∧ (w7.setCell ⟨ab + 1, i, none⟩ (.slice va vn vc)).heap[ab + 1]? = some (.cells (usA T tg cap i) 109 (0, 0))
                | some (X, r2) => E = 0 ∧ ∃ tg cap : Nat → Nat, TbS w (w7.setCell ⟨ab + 1, i, none⟩ (.slice va vn vc)) sb g cK g0 g1 g2 (ab + 1) ab wk A (updN T i X) tg cap (i + 1) r2) ∧
              (w7.cell? ⟨wb, 0, none⟩ = some (.func (.func fr) #[] #[]) ∧ w7.cell? ⟨ab, i, none⟩ = some (.slice xa xn xc)) ∧ w7.cell? ⟨ab + 1, i, none⟩ = some (.slice none 0 0) ∧ w7.frozen? ⟨ab + 1, i, none⟩ = false ∧ ((w7.setCell ⟨ab + 1, i, none⟩ (.slice va vn vc)).cell? ⟨wb, 0, none⟩ = some (.func (.func fr) #[] #[]) ∧ (w7.setCell ⟨ab + 1, i, none⟩ (.slice va vn vc)).cell? ⟨ab, i, none⟩ = some (.slice xa xn xc))) from by
            have hI := HI.out
            obtain ⟨gk, hcod⟩ := hT6.cods.at_ i hlt
            obtain ⟨nd, hnd⟩ := HTD.out
            have hrl := HRL.out
            have hts : IsTs W6 (.slice xa xn xc) (ah i) := by
              cases ha : ah i with
              | none => rw [ha] at hx2; exact hx2
              | some T0 =>
                rw [ha] at hx2
                obtain ⟨t1, c1, e, q1, q2⟩ := hx2
                exact ⟨t1, c1, e, q1.keep hT6.kp q2⟩
            have := readK_all (Ω := Ω) W6 sb g cK gk k i rest (.slice xa xn xc) (ah i) HFR.out.2.1 hlt hT6.sec hcod hI.far.1 (by rw [hnd, List.length_drop]; omega) hts (hI.ag i hlt)
            rw [← HFR.out.1] at this
            refine this.mono ?_
            rintro e w7 ⟨⟨t4, hm⟩, hgd⟩
            have hn := hI.new
            have hsb := hI.sbl
            have hwr := HT.out.kp.size
            have hu := obj_lt hT6.used
            have u1 := t4.obj owb (by omega)
            have u2 := t4.obj hT6.ahead (by omega)
            have u3 := t4.obj hT6.used (by omega)
            have hwbne : wb ≠ ab + 1 := by have := obj_lt HT.out.used; omega
            have hc3 : w7.cell? ⟨ab + 1, i, none⟩ = some (.slice none 0 0) := by
              rw [cell_of u3, usA_at T tg cap i i hlt]
              unfold usV
              rw [if_neg (by omega)]
            cases hr : rdK Ω k (kdV i) (ah i) rest with
            | none =>
              rw [hr] at hm
              obtain ⟨c, hc, rfl⟩ := hm
              refine ⟨none, 0, 0, c, rfl, ⟨hc, ?_, ?_⟩, ⟨cell_of u1 0, (cell_of u2 i).trans hx1⟩, hc3, frozen_of u3 i, cell_of (set_far u1 hwbne _ _) 0, (cell_of (set_far u2 (by omega) _ _) i).trans hx1⟩
              · exact (hT6.kp.trans' t4).trans ((Keep.refl (fun k => k = ab + 1) w7).setCell (p := ⟨ab + 1, i, none⟩) (fun _ => rfl) _) (fun k hk e => by omega)
              · rw [← usA_nil T tg cap i hlt]
                exact set_obj u3 i _
            | some p =>
              obtain ⟨X, r2⟩ := p
              rw [hr] at hm
              obtain ⟨t, c, rfl, t1, t2, t3⟩ := hm
              exact ⟨_, _, _, 0, rfl, ⟨rfl, _, _, TbS.next hI hT6 hlt t c X t1 t2 t3 (hgd X r2 hr) t4⟩, ⟨cell_of u1 0, (cell_of u2 i).trans hx1⟩, hc3, frozen_of u3 i, cell_of (set_far u1 hwbne _ _) 0, (cell_of (set_far u2 (by omega) _ _) i).trans hx1⟩)
          have HW6 := hid hW6
          clear k6 hT6 owb hwb hW5 hW6 c1 c2 HZ1 HZ3 hx1 hx2
          refine region_last (fun W => W.cell? ⟨wb, 0, none⟩ = some (.func (.func fr) #[] #[]) ∧ W.cell? ⟨ab, i, none⟩ = some (.slice xa xn xc)) 17 mx (by rw [← HW6.out]; exact ⟨g1', g2'⟩) (fun hS => ?_)
          refine tk (i := 0) (v := ?_) rfl (by kernel_rfl) (fun _ _ _ h => h) (by rfl) ?_ (by assumption) ?_
          rotate_left 1
          · intro w hSw; (try dsimp only at hSw); (try obtain ⟨hSw1, hSw2⟩ := hSw); (go_simp <;> with_reducible rfl)
          simp only [Act.put, tA, tB, tD, tE, tF]
          refine tk (i := 1) (v := ?_) rfl (by kernel_rfl) (fun _ _ _ h => h) (by rfl) ?_ (by assumption) ?_
          rotate_left 1
          · intro w hSw; (try dsimp only at hSw); (try obtain ⟨hSw1, hSw2⟩ := hSw); (go_simp <;> with_reducible rfl)
          simp only [Act.put, tA, tB, tC, tD, tE, tF]
          refine tk (i := 2) (v := ?_) rfl (by kernel_rfl) (fun _ _ _ h => h) (by rfl) ?_ (by assumption) ?_
          rotate_left 1
          · intro w hSw; (try dsimp only at hSw); (try obtain ⟨hSw1, hSw2⟩ := hSw); (go_simp <;> with_reducible rfl)
          simp only [Act.put, tA, tB, tC, tD, tE, tF]
          refine tk (i := 3) (v := ?_) rfl (by kernel_rfl) (fun _ _ _ h => h) (by rfl) ?_ (by assumption) ?_
          rotate_left 1
          · intro w hSw; (try dsimp only at hSw); (try obtain ⟨hSw1, hSw2⟩ := hSw); (go_simp <;> with_reducible rfl)
          simp only [Act.put, tA, tB, tC, tD, tE, tF]
          refine tk (i := 4) (v := ?_) rfl (by kernel_rfl) (fun _ _ _ h => h) (by rfl) ?_ (by assumption) ?_
          rotate_left 1
          · intro w hSw; (try dsimp only at hSw); (try obtain ⟨hSw1, hSw2⟩ := hSw); (go_simp <;> with_reducible rfl)
          simp only [Act.put, tA, tB, tC, tD, tE, tF]
          refine tk (i := 5) (v := ?_) rfl (by kernel_rfl) (fun _ _ _ h => h) (by rfl) ?_ (by assumption) ?_
          rotate_left 1
          · intro w hSw; (try dsimp only at hSw); (try obtain ⟨hSw1, hSw2⟩ := hSw); (go_simp <;> with_reducible rfl)
          simp only [Act.put, tA, tB, tC, tD, tE, tF]
          refine tk (i := 6) (v := ?_) rfl (by kernel_rfl) (fun _ _ _ h => h) (by rfl) ?_ (by assumption) ?_
          rotate_left 1
          · intro w hSw; (try dsimp only at hSw); (try obtain ⟨hSw1, hSw2⟩ := hSw); (go_simp <;> with_reducible rfl)
          simp only [Act.put, tA, tB, tC, tD, tE, tF]
          refine tk (i := 7) (v := ?_) rfl (by kernel_rfl) (fun _ _ _ h => h) (by rfl) ?_ (by assumption) ?_
          rotate_left 1
          · intro w hSw; (try dsimp only at hSw); (try obtain ⟨hSw1, hSw2⟩ := hSw); (go_simp <;> with_reducible rfl)
          simp only [Act.put, tA, tB, tC, tD, tE, tF]
          refine tk (i := 8) (v := ?_) rfl (by kernel_rfl) (fun _ _ _ h => h) (by rfl) ?_ (by assumption) ?_
          rotate_left 1
          · intro w hSw; (try dsimp only at hSw); (try obtain ⟨hSw1, hSw2⟩ := hSw); (go_simp <;> with_reducible rfl)
          simp only [Act.put, tA, tB, tC, tD, tE, tF]
          refine tk (i := 9) (v := ?_) rfl (by kernel_rfl) (fun _ _ _ h => h) (by rfl) ?_ (by assumption) ?_
          rotate_left 1
          · intro w hSw; (try dsimp only at hSw); (try obtain ⟨hSw1, hSw2⟩ := hSw); (go_simp <;> with_reducible rfl)
          simp only [Act.put, tA, tB, tC, tD, tE, tF]
          refine tk (i := 10) (v := ?_) rfl (by kernel_rfl) (fun _ _ _ h => h) (by rfl) ?_ (by assumption) ?_
          rotate_left 1
          · intro w hSw; (try dsimp only at hSw); (try obtain ⟨hSw1, hSw2⟩ := hSw); (go_simp <;> with_reducible rfl)
          simp only [Act.put, tA, tB, tC, tD, tE, tF]
          rw [← HW6.out]
          refine last_one (j := 11) (by kernel_rfl) rfl (fun K hK => ?_)
          rw [if_pos (by rfl)]
          simp only [tA, tB, tC]
          go_simp
          refine HRd.out.mono ?_
          rintro e w7 ⟨va, vn, vc, E, rfl, HX, f1, f2, f3, f4⟩
          refine hK.out _ _ (fun _ => f1) ?_
          clear hK K
          clear hS
          have hS := f1
          refine tk (i := 12) (v := ?_) rfl (by kernel_rfl) (fun _ _ _ h => h) (by rfl) ?_ (by assumption) ?_
          rotate_left 1
          · intro w hSw; (try dsimp only at hSw); (try obtain ⟨hSw1, hSw2⟩ := hSw); (go_simp <;> with_reducible rfl)
          simp only [Act.put, tA, tB, tC, tD, tE, tF]
          refine tk (i := 13) (v := ?_) rfl (by kernel_rfl) (fun _ _ _ h => h) (by rfl) ?_ (by assumption) ?_
          rotate_left 1
          · intro w hSw; (try dsimp only at hSw); (try obtain ⟨hSw1, hSw2⟩ := hSw); (go_simp <;> with_reducible rfl)
          simp only [Act.put, tA, tB, tC, tD, tE, tF]
          refine tk (i := 14) (v := ?_) rfl (by kernel_rfl) (fun _ _ _ h => h) (by rfl) ?_ (by assumption) ?_
          rotate_left 1
          · intro w hSw; (try dsimp only at hSw); (try obtain ⟨hSw1, hSw2⟩ := hSw); (go_simp <;> with_reducible rfl)
          simp only [Act.put, tA, tB, tC, tD, tE, tF]
          refine last_one (j := 15) (by kernel_rfl) rfl (fun K hK => ?_)
          rw [if_pos (by rfl)]
          simp only [tA, tB, tC]
          go_simp
          refine hK.out _ _ (fun _ => f1) ?_
          clear hK K
          refine last_one (j := 16) (by kernel_rfl) rfl (fun K hK => ?_)
          rw [if_pos (by rfl)]
          simp only [tA, tB, tC]
          go_simp
          refine hK.out _ _ (fun _ => f4) ?_
          clear hK K
          refine last_one (j := 17) (by kernel_rfl) rfl (fun K hK => ?_)
          rw [if_pos (by rfl)]
          simp only [tA, tB, tC]
          go_simp
          refine hK.out _ _ (fun e => absurd rfl e) ?_
          clear hK K
          refine last_done (by kernel_rfl) ?_ _
          generalize w7.setCell ⟨ab + 1, i, none⟩ (.slice va vn vc) = W8 at HX ⊢
          clear f1 f2 f3 f4 hS HRd g1' g2'
          have hx := HX.out
          have hfe := HFR.out.2.2
          cases hr : rdK Ω k (kdV i) (ah i) rest with
          | none =>
            rw [hr] at hx hfe
            obtain ⟨hE, hk8, hu8⟩ := hx
            have hE0 : (E != 0) = true := by simpa using hE
            have HRn := hid (show tabsN Ω kb ah r 3 = none from by
              have := tabsN_none hfe (3 - (i + 1))
              rwa [show i + 1 + (3 - (i + 1)) = 3 from by omega] at this)
            obtain ⟨C, hC⟩ : ∃ C, C = usA T tg cap i := ⟨_, rfl⟩
            rw [← hC] at hu8
            have hC3 : C.size = 3 := by rw [hC]; rfl
            have HZ1 := hid (show (Tryz.prog.info? 109).map (·.size) = some C.size from by rw [hC3]; exact HU.out)
            have HZ3 := hid (show C.all (·.oneCell') = true from by rw [hC]; exact usA_one _ _ _ _)
            have HF := (show Hid (∀ W', W' = W8.setRow (ab + 1) C → TbsAns w sb g none (.returned (.tuple #[.agg C, .int .i64 E])) W' ∧ W'.heap[ab + 1]? = some (.cells C 109 (0, 0))) from tbs_fin hk8 (by have := HH.out.2.2.2.2.2.2.2; omega) hu8 hE hC3 HZ3.out)
            have HB1 := hid hu8
            clear hfe hk8 hu8 hE hC hC3 HX HFR HT HTD
            go_wp2_with (first | (refine wpList_load_row rfl 109 (.tmp 6) rfl (ab + 1) rfl 109 C (0, 0) _ HB1.out Tryz.underlying109 rfl HZ1.out ?_) | (refine wpList_store_row rfl 109 (.tmp 6) (.tmp 55) rfl (ab + 1) C rfl rfl 109 _ HB1.out HZ1.out rfl HZ3.out ?_))
            obtain ⟨f1, f4⟩ := HF.out _ rfl
            refine bodyPost_ret (results_ct rfl _ _ _ ⟨ab + 1, 0, none⟩ (.agg C) rfl (run_loadVar_row _ _ 109 109 _ (0, 0) _ f4 Tryz.underlying109 rfl HZ1.out)) rfl ?_
            rw [HRn.out]
            exact f1
          | some p =>
            obtain ⟨X, r2⟩ := p
            rw [hr] at hx hfe
            obtain ⟨rfl, tg2, cap2, hT2⟩ := hx
            have HN := (show Hid (∃ (T : Nat → Tb) (rest : List Nat) (tg cap : Nat → Nat), tabsN Ω kb ah r (i + 1) = some (T, rest) ∧ TbS w W8 sb g cK g0 g1 g2 (ab + 1) ab wk A T tg cap (i + 1) rest) from ⟨_, _, _, _, hfe, hT2⟩)
            clear hfe hT2 HX HFR HT HTD
            go_wp2_with fail
            go_roundw
            case rel => exact ⟨i + 1, by go_num, rfl, by omega, HN.out⟩
            case measure => simp [intOf]; omega
        · obtain rfl : i = 3 := by omega
          rw [show (((3 : Nat) : Int)) = (3 : Int) from rfl]
          obtain ⟨C, hC⟩ : ∃ C, C = usA T tg cap 3 := ⟨_, rfl⟩
          have hus := hT.used
          rw [← hC] at hus
          have hC3 : C.size = 3 := by rw [hC]; rfl
          have HB1 := hid hus
          have HZ1 := hid (show (Tryz.prog.info? 109).map (·.size) = some C.size from by rw [hC3]; exact HU.out)
          have HZ3 := hid (show C.all (·.oneCell') = true from by rw [hC]; exact usA_one _ _ _ _)
          have HF := (show Hid (∀ W', W' = wr.setRow (ab + 1) C → TbsAns w sb g (tabsN Ω kb ah r 3) (.returned (.tuple #[.agg C, .int .i64 0])) W' ∧ W'.heap[ab + 1]? = some (.cells C 109 (0, 0))) from fun W' e => by
            have hk2 : Keep (fun j => j = ab + 1) wr W' := by rw [e]; exact keep_setRow (Keep.refl (fun j => j = ab + 1) wr) (ab + 1) (fun _ => rfl) _
            have hn := HI.out.new
            have hsb := HI.out.sbl
            rw [hTn]
            refine ⟨⟨hT.kp.trans hk2 (fun k hk e => by omega), tg, cap, by rw [hC, usA_three], fun v hv => ⟨(hT.tab v hv).1.keep hk2 (hT.tab v hv).2.2, (hT.tab v hv).2.1, hT.good v hv⟩, hT.sec.keep hk2 (by omega) (by omega)⟩, ?_⟩
            rw [e]
            exact setRow_heap wr (ab + 1) _ _ 109 (0, 0) hus)
          have hlt3 : ¬ ((3 : Int) < 3) := by omega
          clear hT hus hC hC3 HC hTn
          go_wp2_with (first | (refine wpList_load_row rfl 109 (.tmp 6) rfl (ab + 1) rfl 109 C (0, 0) _ HB1.out Tryz.underlying109 rfl HZ1.out ?_) | (refine wpList_store_row rfl 109 (.tmp 6) (.tmp 55) rfl (ab + 1) C rfl rfl 109 _ HB1.out HZ1.out rfl HZ3.out ?_))
          obtain ⟨f1, f4⟩ := HF.out _ rfl
          refine bodyPost_ret (results_ct rfl _ _ _ ⟨ab + 1, 0, none⟩ (.agg C) rfl (run_loadVar_row _ _ 109 109 _ (0, 0) _ f4 Tryz.underlying109 rfl HZ1.out)) rfl ?_
          exact f1
end
end Go.Proofs.YtnjilcokkhodmaaGreatDoor

namespace Go.Proofs.YtnjilcokkhodmaaGreatDoor
open Go.RowKit Go.Shelf
set_option linter.unusedVariables false

set_option maxHeartbeats 2000000 in
theorem readQ_any (b o gc rb g : Nat) (K : Kd) (c : Nat) (B : List Nat) (r : Rs) (w : World) (h : Coding w b o gc K) (hc : c < K.codes) (hR : Rq w rb g B r) (hne : b ≠ rb) :
  Calls Tryz.prog 70 #[.pointer (some ⟨b, o, none⟩), .pointer (some ⟨rb, 0, none⟩), .int .u8 (c : Int)] w fun e w' => e = .returned (.int .i64 ((K.lst c + r.val B (K.ext c) : Nat) : Int)) ∧ Rq w' rb g B (r.go (K.ext c)) ∧ Keep (fun k => k = rb) w w' := by
 have c1 := h.least c hc
 have c2 := h.extra c hc
 have hlt := h.ok.lt c hc
 have hle := h.ok.le
 have hy := r.val_lt B (K.ext c)
 obtain ⟨y, hye⟩ : ∃ y, y = r.val B (K.ext c) := ⟨_, rfl⟩
 rw [← hye] at hy ⊢
 obtain ⟨l, hl⟩ : ∃ l, l = K.lst c := ⟨_, rfl⟩
 obtain ⟨m, hm⟩ : ∃ m, m = K.ext c := ⟨_, rfl⟩
 rw [← hl] at c1 hlt ⊢
 rw [← hm] at c2 hlt hy hye ⊢
 have hy32 : y < 4294967296 := Nat.lt_of_lt_of_le hy (Nat.pow_le_pow_right (n := 2) (j := 32) (by omega) (by omega))
 obtain ⟨s, hs⟩ : ∃ s, s = l + y := ⟨_, rfl⟩
 rw [← hs]
 have hsI : (l : Int) + (y : Int) = (s : Int) := by omega
 have hsb : s < 8589934592 := by omega
 have d1 : ∀ q, (w.drewN q).cell? ⟨b, o + 1 + c, none⟩ = some (.int .u32 (l : Int)) := fun q => c1
 have d2 : ∀ q, (w.drewN q).cell? ⟨b, o + 54 + c, none⟩ = some (.int .u8 (m : Int)) := fun q => c2
 have HB := (show Hid (∀ q, Calls Tryz.prog 68 #[.pointer (some ⟨rb, 0, none⟩), .int .i64 (m : Int)] (w.drewN q) fun e w' => e = .returned (.int .u64 (y : Int)) ∧ Rq w' rb g B (r.go m) ∧ Keep (fun k => k = rb) w w' ∧ w'.cell? ⟨b, o + 1 + c, none⟩ = some (.int .u32 (l : Int)) ∧ w'.cell? ⟨b, o + 54 + c, none⟩ = some (.int .u8 (m : Int))) from fun q => by
  have hkq : Keep noBlock w (w.drewN q) := ⟨rfl, rfl, rfl, Nat.le_refl _, fun _ _ _ => rfl⟩
  refine ((hR.keep hkq (fun h => h) (fun h => h)).bits (m := m) (by omega)).mono ?_
  rintro e w' ⟨rfl, q1, q2⟩
  have e := q2.block b h.lt hne
  exact ⟨by rw [hye], q1, (hkq.mono (fun _ _ h => h.elim)).trans q2 (fun _ _ h => h), (World.cell?_of_block e).trans c1, (World.cell?_of_block e).trans c2⟩)
 have HW := (show Hid (IntKind.i64.wrap (m : Int) = (m : Int)) from (by rw [IntKind.wrap_i64]; omega : IntKind.i64.wrap (m : Int) = (m : Int)))
 have hcI : (c : Int) < 53 := by omega
 have hc53 : c < 53 := by omega
 have hlI : (l : Int) < 4294967296 := by omega
 have hyI : (y : Int) < 4294967296 := by omega
 have hwl : IntKind.i64.wrap (l : Int) = (l : Int) := by rw [IntKind.wrap_i64]; omega
 have hwy : IntKind.i64.wrap (y : Int) = (y : Int) := by rw [IntKind.wrap_i64]; omega
 have hws : IntKind.i64.wrap (s : Int) = (s : Int) := by rw [IntKind.wrap_i64]; omega
 clear h hR hlt hle hl hm hs hye hy
 go_enter Tryz.func70, Tryz.ntmps70
 go_wp2_with fail
 go_region_held3 (fun W => W.cell? ⟨b, o + 1 + c, none⟩ = some (.int .u32 (l : Int)) ∧ W.cell? ⟨b, o + 54 + c, none⟩ = some (.int .u8 (m : Int))) (first | exact ⟨d1 _, d2 _⟩ | exact ⟨c1, c2⟩ | exact ⟨f1, f2⟩) ((first
  | (go_at_call 68; rw [HW.out]; refine (HB.out 1).mono ?_; rintro e w3 ⟨rfl, hR3, hK3, f1, f2⟩)))
 go_wp2_with fail
 go_ret
 exact ⟨rfl, hR3, hK3⟩

def NwS (n : Nat) (v : Value) : Prop := ∀ p l c, v = .slice (some p) l c → n ≤ p.block
theorem nws_own {w : World} {base n e sz k : Nat} {v : Value} {xs : List Value} (h : w.ownsRow base e sz v k xs) (hn : n ≤ base) : NwS n v := by
 intro p l c hv
 rcases h.2 with ⟨e, h0⟩ | ⟨g, cap, cur, e, hb, hg, hr⟩
 ·rw [hv] at e; cases e
 ·rw [hv] at e; cases e; exact Nat.le_trans hn hb
def StpAns (w : World) (R : Option (List Sp)) (e : Ending) (w' : World) : Prop :=
 Keep noBlock w w' ∧ match R with
  | none => ∃ v, e = .returned (.tuple #[v, .bool false])
  | some l => ∃ v, e = .returned (.tuple #[v, .bool true]) ∧ SpRow w' v l ∧ NwS w.heap.size v
theorem exC_lt {T : Nat → Tb} {σ : Nat → Nat} (hG : ∀ v, v < 3 → GoodT (kdV v) (T v)) (hσ : ∀ v, v < 3 → σ v < 2 ^ (T v).l) (i : Nat) : exC T σ i < (kdV (eo i)).codes := (hG _ (eo_lt i)).sy _ (hσ _ (eo_lt i))
theorem sprow_of {w : World} {base : Nat} {v : Value} {l : List Sp} (h : w.ownsRow base 77 3 v l.length (spL l)) : SpRow w v l := by
 rcases h.2 with ⟨e, h0⟩ | ⟨g, cap, cur, e, hb, hg, hr⟩
 ·exact ⟨none, 0, by rw [e, h0], .inl (List.length_eq_zero_iff.1 h0)⟩
 ·refine ⟨some ⟨g, 0, none⟩, cap, e, .inr ⟨g, rfl, obj_lt hg, fun k s hs => ?_⟩⟩
  subst e
  have q0 := h.cells (g := g) rfl (k * 3 + 0) _ ((spL_at l k 0 s hs (by omega)).trans rfl)
  have q1 := h.cells (g := g) rfl (k * 3 + 1) _ ((spL_at l k 1 s hs (by omega)).trans rfl)
  have q2 := h.cells (g := g) rfl (k * 3 + 2) _ ((spL_at l k 2 s hs (by omega)).trans rfl)
  rw [add0] at q0 q1 q2
  exact ⟨q0, q1, q2⟩

theorem fsS_lt {B : List Nat} {T : Nat → Tb} : ∀ (i : Nat), i ≤ 3 → ∀ v, v < i → fsS B T i v < 2 ^ (T v).l
  | 0, _, v, hv => by omega
  | i + 1, hi, v, hv => by
    show updN (fsS B T i) i _ v < _
    by_cases e : v = i
    · subst e; rw [updN_self]; exact Rs.val_lt _ _ _
    · rw [show updN (fsS B T i) i ((fsR B T i).val B (T i).l) v = fsS B T i v from if_neg e]
      exact fsS_lt i (by omega) v (by omega)
theorem updN_bound {T : Nat → Tb} {τ : Nat → Nat} (h : ∀ v, v < 3 → τ v < 2 ^ (T v).l) (i x : Nat) (hx : i < 3 → x < 2 ^ (T i).l) : ∀ v, v < 3 → updN τ i x v < 2 ^ (T v).l := fun v hv => by
 by_cases e : v = i
 ·subst e; rw [updN_self]; exact hx hv
 ·rw [show updN τ i x v = τ v from if_neg e]; exact h v hv
theorem good_next {K : Kd} {X : Tb} (h : GoodT K X) {s y : Nat} (hs : s < 2 ^ X.l) (hy : y < 2 ^ X.bi s) : X.ba s + y < 2 ^ X.l := by
 have := h.ba s hs
 omega
theorem exT_cells (B : List Nat) (T : Nat → Tb) (σ : Nat → Nat) (r : Rs) (i : Nat) (hi : i < 3) (x : Nat) (hx : x = (kdV (eo i)).lst (exC T σ i) + (exR T σ r i).val B ((kdV (eo i)).ext (exC T σ i))) :
  (#[.int .i64 ((exT B T σ r i 0 : Nat) : Int), .int .i64 ((exT B T σ r i 1 : Nat) : Int), .int .i64 ((exT B T σ r i 2 : Nat) : Int)] : Array Value).setIfInBounds (eo i) (.int .i64 (x : Int)) = #[.int .i64 ((exT B T σ r (i + 1) 0 : Nat) : Int), .int .i64 ((exT B T σ r (i + 1) 1 : Nat) : Int), .int .i64 ((exT B T σ r (i + 1) 2 : Nat) : Int)] := by
 have e : exT B T σ r (i + 1) = updN (exT B T σ r i) (eo i) x := by rw [hx]; rfl
 rw [e]
 have := eo_lt i
 generalize eo i = v at *
 rcases (show v = 0 ∨ v = 1 ∨ v = 2 by omega) with rfl | rfl | rfl <;> rfl
theorem three_at (a b c : Nat) (v : Nat) (f : Nat → Nat) (h0 : f 0 = a) (h1 : f 1 = b) (h2 : f 2 = c) (hv : v < 3) : (#[.int .i64 (a : Int), .int .i64 (b : Int), .int .i64 (c : Int)] : Array Value)[v]? = some (.int .i64 ((f v : Nat) : Int)) := by
 rcases (show v = 0 ∨ v = 1 ∨ v = 2 by omega) with rfl | rfl | rfl
 ·rw [h0]; rfl
 ·rw [h1]; rfl
 ·rw [h2]; rfl

set_option maxRecDepth 100000 in
set_option maxHeartbeats 16000000 in
theorem steps_all (w : World) (sb g cK g0 g1 g2 : Nat) (B : List Nat) (T : Nat → Tb) (tg cap : Nat → Nat) (n : Nat) (hS : Sec w sb g B) (hC : Cods w cK g0 g1 g2) (hT : ∀ v, v < 3 → IsTb w (tg v) (T v)) (hG : ∀ v, v < 3 → GoodT (kdV v) (T v)) (hO : Ords w) (hn1 : 1 ≤ n) (hn2 : n ≤ 98047) (hl : B.length ≤ 131072) :
  Calls Tryz.prog 53 #[.pointer (some ⟨sb, 0, none⟩), .int .i64 (n : Int), .pointer (some ⟨cK, 0, none⟩), .agg (tabA T tg cap)] w fun e w' => StpAns w (stepsN B T n) e w' := by
 have hnI : (n : Int) ≤ 98047 := by omega
 have hlt := hS.lt
 obtain ⟨sa, scap, soff, s1, s2, s3, s4⟩ := hS
 obtain ⟨tb, htb⟩ : ∃ tb, tb = w.heap.size := ⟨_, rfl⟩
 obtain ⟨W0, hW0⟩ : ∃ W0, W0 = w.alloc (.cells (tabA T tg cap) 109) := ⟨_, rfl⟩
 have k0 : Keep noBlock w W0 := by rw [hW0]; exact (Keep.refl _ w).alloc _
 have otb : W0.heap[tb]? = some (.cells (tabA T tg cap) 109 (0, 0)) := by rw [hW0, htb]; exact alloc_new w _
 obtain ⟨N, hN⟩ : ∃ N, N = B.length := ⟨_, rfl⟩
 have c1 : W0.cell? ⟨sb, 0, none⟩ = some (.slice sa N scap) := by rw [hN]; exact cell_of (k0.obj s1 (fun h => h)) 0
 have hnew := Tl.new_any sa scap g soff B (by omega) hlt W0 s2.at_ (s2.keep k0 (fun _ h => h)).cells
 rw [← hN] at hnew
 obtain ⟨U, hU⟩ : ∃ U, U = tabA T tg cap := ⟨_, rfl⟩
 have hU3 : U.size = 3 := by rw [hU]; rfl
 have HU := hid (show (Tryz.prog.info? 109).map (·.size) = some U.size from by rw [hU3]; kernel_rfl)
 have hix := fun v hv W => index_tab T tg cap v hv W
 have hUo : U.all (·.oneCell') = true := by rw [hU]; exact all_oneCell_toArray (fun v hv => by simp only [List.mem_cons, List.not_mem_nil, or_false] at hv; rcases hv with rfl | rfl | rfl <;> rfl)
 have HH := (show Hid (Cods w cK g0 g1 g2 ∧ (∀ v, v < 3 → IsTb w (tg v) (T v)) ∧ (∀ v, v < 3 → GoodT (kdV v) (T v)) ∧ Ords w ∧ Keep noBlock w W0 ∧ W0.heap[tb]? = some (.cells (tabA T tg cap) 109 (0, 0)) ∧ tb = w.heap.size) from ⟨hC, hT, hG, hO, k0, otb, htb⟩)
 have HZ := (show Hid (∀ W, Keep noBlock W0 W → W.heap[tb]? = some (.cells U 109 (0, 0))) from fun W hk => by rw [hU]; exact hk.obj otb (fun h => h))
 rw [← hU] at hW0 hix ⊢
 have HIX := (show Hid (∀ v : Nat, v < 3 → ∀ W : World, (Instr.index 109 (.agg U) (.int .i64 (v : Int))).run Tryz.prog W = .ok (.slice (some ⟨tg v, 0, none⟩) (2 ^ (T v).l) (cap v)) W) from hix)
 rcases hnew with ⟨hz, hnw⟩ | ⟨hz, hnw⟩
 ·have HR := hid (show stepsN B T n = none from if_pos (by rw [← hN]; exact hz))
  have HNw := hid hnw
  have HK := hid k0
  clear hC hT hG hO k0 otb s1 s2 s3 s4 hN hU hU3 hix hnw hz HH HZ HIX
  go_enter Tryz.func53, Tryz.ntmps53
  go_wp2_with fail
  rw [← hW0, ← htb]
  clear hW0 htb
  refine wp_scope_straight ?_
  go_wp2_with fail
  refine HNw.out.mono ?_
  rintro e w1 ⟨rfl, rfl⟩
  go_wp2_with fail
  simp only [Exit.noGoto]
  go_ret2
  rw [HR.out]
  exact ⟨HK.out, _, rfl⟩
 ·obtain ⟨R, hRe⟩ : ∃ R, R = stN B T n (fsR B T 3) (fsS B T 3) [] := ⟨_, rfl⟩
  rw [show stepsN B T n = R from by rw [hRe]; exact if_neg (by rw [← hN]; exact hz)]
  have HNw := (show Hid (Calls Tryz.prog 67 #[.slice sa N scap] W0 fun e w' => ∃ rb gr, e = .returned (.tuple #[.pointer (some ⟨rb, 0, none⟩), .int .i64 0]) ∧ Hid (W0.heap.size ≤ rb ∧ W0.heap.size ≤ gr ∧ Rq w' rb gr B (fsR B T 0) ∧ Keep noBlock W0 w' ∧ gr ≠ rb)) from by
   refine hnw.mono ?_
   rintro e w' ⟨rb, gr, rfl, q1, q2, q3, q4⟩
   exact ⟨rb, gr, rfl, q1, q2, q3, q4, Tl.IsR.ne q3 (fun e => by rw [hN, e] at hz; exact hz rfl)⟩)
  have HRe := hid hRe
  clear hC hT hG hO k0 otb s1 s2 s3 s4 hN hU hU3 hix hnw hz hRe
  go_enter Tryz.func53, Tryz.ntmps53
  go_wp2_with fail
  rw [← hW0, ← htb]
  clear hW0 htb
  refine wp_scope_straight ?_
  go_wp2_with fail
  refine HNw.out.mono ?_
  rintro e w1 ⟨rdb, gr, rfl, HX1⟩
  clear HNw c1
  have HZ9 := (show Hid (∀ Z : Array Value, (w1.alloc (.cells Z 145)).heap[tb]? = some (.cells U 109 (0, 0))) from fun Z => HZ.out _ (HX1.out.2.2.2.1.alloc _))
  go_wp2_with (refine wpList_load_row rfl 109 (.tmp 7) rfl tb rfl 109 U (0, 0) _ (HZ9.out _) Tryz.underlying109 rfl HU.out ?_)
  obtain ⟨ws, hws⟩ : ∃ ws, ws = w1.alloc (.cells #[.int .u8 0, .int .u8 0, .int .u16 0, .int .u8 0, .int .u8 0, .int .u16 0, .int .u8 0, .int .u8 0, .int .u16 0] 145) := ⟨_, rfl⟩
  obtain ⟨atb, hatb⟩ : ∃ atb, atb = w1.heap.size := ⟨_, rfl⟩
  rw [← hws, ← hatb]
  have H0 := (show Hid (StI ws cK g0 g1 g2 tb rdb gr atb T tg cap ∧ StS ws ws rdb gr atb B T (fsR B T 0) (fsS B T 0) (fun _ => False) (.slice none 0 0) [] ∧ Keep noBlock w ws ∧ w.heap.size ≤ rdb ∧ w.heap.size ≤ atb) from by
   obtain ⟨y1, y2, y3, y4, y5, y6, y7⟩ := HH.out
   obtain ⟨x1, x2, x3, x4, x5⟩ := HX1.out
   have ka : Keep noBlock w1 ws := by rw [hws]; exact (Keep.refl _ w1).alloc _
   have kw := (y5.trans' x4).trans' ka
   have l1 := obj_lt y6
   have l2 := x4.size
   have l3 : w1.heap.size < ws.heap.size := by rw [hws]; simp
   have r1 : rdb < w1.heap.size := by obtain ⟨sa, cp, -, h⟩ := Tl.IsR.obj x3; exact obj_lt h
   have r2 : gr < w1.heap.size := Tl.IsR.lt x3
   have z0 := y1.cl.lt
   have z1 := y1.cl.gt
   have z2 := y1.cb.gt
   have z3 := y1.cm.gt
   have z4 := y4.lt
   have l4 := y5.size
   exact ⟨⟨y3, y1.keep kw (fun h => h) (fun h => h) (fun h => h) (fun h => h), fun v hv => (y2 v hv).keep kw (fun h => h), (x4.trans' ka).obj y6 (fun h => h), y4.keep kw (fun h => h) (fun h => h), by omega, by omega, fun v hv => by have := (y2 v hv).lt; omega, by omega⟩, ⟨x3.keep ka (fun h => h) (fun h => h), ⟨_, by rw [hws, hatb]; exact alloc_new w1 _, rfl, fun v hv hp => hp.elim⟩, World.ownsRow_nil _ _ _ _, Keep.refl _ _⟩, kw, by omega, by omega⟩)
  have HI := hid H0.out.1
  have HS0 := hid H0.out.2.1
  have HKW := hid H0.out.2.2
  clear HZ9 HX1 hws hatb H0 HZ HH
  go_loopw [32] (fun v32 wr => ∃ i : Nat, v32 = .int .i64 (i : Int) ∧ i ≤ 3 ∧ Hid (StS ws wr rdb gr atb B T (fsR B T i) (fsS B T i) (fun v => v < i) (.slice none 0 0) [])) (fun v32 _ => 3 - (intOf v32).toNat)
  case atStart => exact ⟨0, rfl, by omega, HS0.out.mono (fun v hv => by omega)⟩
  case round =>
   clear HS0
   obtain ⟨i, rfl, hi, HC⟩ := hrel
   by_cases hlt : i < 3
   ·have hiI : (i : Int) < 3 := by omega
    have hix := HIX.out i hlt
    have hS := HC.out
    have hI := HI.out
    have hGi := hI.ok i hlt
    have hl9 : (T i).l ≤ 9 := Nat.le_trans hGi.hl hGi.ml
    have hp12 := pow12 (show (T i).l ≤ 12 by omega)
    have HLg := (show Hid (∀ W : World, _) from fun W => logOf_any (some ⟨tg i, 0, none⟩) (2 ^ (T i).l) (T i).l (cap i) rfl (by omega) W)
    obtain ⟨x, hx⟩ : ∃ x, x = (fsR B T i).val B (T i).l := ⟨_, rfl⟩
    have hst := (fsR B T i).val_lt B (T i).l
    have hbt := hS.bits (m := (T i).l) (by omega) hI.lt.1 hI.ne.1
    rw [← hx] at hst hbt
    obtain ⟨l, hl⟩ : ∃ l, l = (T i).l := ⟨_, rfl⟩
    obtain ⟨q, hq⟩ : ∃ q, q = 2 ^ (T i).l := ⟨_, rfl⟩
    rw [← hq] at hix hp12 hst
    have hlq : 2 ^ l = q := by rw [hl, hq]
    have HB := (show Hid (Calls Tryz.prog 68 #[.pointer (some ⟨rdb, 0, none⟩), .int .i64 (l : Int)] wr fun e w' => e = .returned (.int .u64 (x : Int)) ∧ StS ws w' rdb gr atb B T (fsR B T (i + 1)) (fsS B T i) (fun v => v < i) (.slice none 0 0) [] ∧ Keep (fun j => j = rdb) wr w') from by rw [hl]; exact hbt)
    rw [← hl] at HLg hl9
    rw [hlq] at HLg
    have HX := (show Hid (x = (fsR B T i).val B (T i).l ∧ q = 2 ^ (T i).l) from ⟨hx, hq⟩)
    have hxI : (x : Int) < (q : Int) := by omega
    clear hS hI hGi hx hl hq hbt HC hlq
    go_wp2_with fail
    refine (HLg.out _).mono ?_
    rintro e w5 ⟨rfl, rfl⟩
    clear HLg
    go_wp2_with fail
    refine HB.out.mono ?_
    rintro e w6 ⟨rfl, q1, q2⟩
    obtain ⟨n1, n2, n3, n4⟩ := HI.out.now q1.kp
    obtain ⟨d1, d2, d3⟩ := (n2 i hlt).cells x (by rw [← HX.out.2]; exact hst)
    obtain ⟨arr, a1, a2, a3⟩ := q1.at_
    obtain ⟨S, hS⟩ : ∃ S, S = (T i).sy x := ⟨_, rfl⟩
    obtain ⟨Bi, hB⟩ : ∃ Bi, Bi = (T i).bi x := ⟨_, rfl⟩
    obtain ⟨A, hA⟩ : ∃ A, A = (T i).ba x := ⟨_, rfl⟩
    have hcl : cellL (T i) x = [.int .u8 (S : Int), .int .u8 (Bi : Int), .int .u16 (A : Int)] := by unfold cellL; rw [← hS, ← hB, ← hA]
    rw [← hS] at d1
    rw [← hB] at d2
    rw [← hA] at d3
    have HQ := hid (And.intro q1 (And.intro a1 hcl))
    have HA1 := hid a1
    have HA2 := hid a2
    have HO := hid (show ∀ v ∈ ([.int .u8 (S : Int), .int .u8 (Bi : Int), .int .u16 (A : Int)] : List Value), v.oneCell' = true from by rw [← hcl]; exact cellL_one _ _)
    have HLe := hid (show i * 3 + 3 ≤ 9 by omega)
    clear q1 q2 n1 n2 n3 n4 a1 a2 a3 hS hB hA hcl HB
    go_wp2_with (refine wpList_store_obj _ rfl 130 (.tmp 44) (.tmp 43) rfl atb (i * 3) 145 3 9 arr [.int .u8 (S : Int), .int .u8 (Bi : Int), .int .u16 (A : Int)] _ rfl HA2.out rfl rfl rfl HA1.out HLe.out info130s HO.out ?_; intro W1 p1 p2 p3)
    have HN := (show Hid (StS ws W1 rdb gr atb B T (fsR B T (i + 1)) (fsS B T (i + 1)) (fun v => v < i + 1) (.slice none 0 0) []) from by
     obtain ⟨q1, a1, hcl⟩ := HQ.out
     have hI := HI.out
     have := (q1.put a1 i x hlt (by rw [hcl]; exact p1) p2 hI.lt.2.2 hI.ne.1 hI.ne.2.2.1).mono (Q := fun v => v < i + 1) (fun v hv => by omega)
     rw [HX.out.1] at this
     exact this)
    clear p1 p2 p3 HQ HX HA1 HA2 d1 d2 d3
    go_wp2_with fail
    go_roundw
    case rel => exact ⟨i + 1, by go_num, by omega, HN.out⟩
    case measure => simp [intOf]; omega
   ·obtain rfl : i = 3 := by omega
    rw [show (((3 : Nat) : Int)) = (3 : Int) from rfl]
    have HS := (show Hid ((∀ v, v < 3 → fsS B T 3 v < 2 ^ (T v).l) ∧ stN B T (n - 0) (fsR B T 3) (fsS B T 3) [] = R ∧ StS ws wr rdb gr atb B T (fsR B T 3) (fsS B T 3) (fun v => v < 3) (.slice none 0 0) []) from ⟨fun v hv => fsS_lt 3 (by omega) v hv, HRe.out.symm, HC.out⟩)
    clear HC
    go_wp2_with fail
    refine wp_label ?_
    go_wp2_with fail
    obtain ⟨wA, hwA⟩ : ∃ wA, wA = wr := ⟨_, rfl⟩
    rw [← hwA] at HS ⊢
    clear hwA
    go_loopw [8] (fun v8 wr => ∃ k : Nat, sliceLen v8 = k ∧ k < n ∧ Hid (∃ (r : Rs) (σ : Nat → Nat) (l : List Sp), l.length = k ∧ (∀ v, v < 3 → σ v < 2 ^ (T v).l) ∧ stN B T (n - k) r σ l = R ∧ StS ws wr rdb gr atb B T r σ (fun v => v < 3) v8 l)) (fun v8 _ => n - sliceLen v8)
    case atStart => exact ⟨0, rfl, by omega, _, _, [], rfl, HS.out⟩
    case round =>
     clear HS
     obtain ⟨k, hsl, hk, HK⟩ := hrel
     obtain ⟨r, σ, l, hlk, hσ, hst, hS⟩ := HK.out
     obtain ⟨la, lcp, rfl⟩ := owns_slice hS.own
     rw [hlk] at hsl
     obtain ⟨n1, n2, n3, n4⟩ := HI.out.now hS.kp
     obtain ⟨td, htd⟩ : ∃ td, td = wr.heap.size := ⟨_, rfl⟩
     obtain ⟨W2, hW2⟩ : ∃ W2, W2 = wr.alloc (.cells #[.int .i64 0, .int .i64 0, .int .i64 0] 39) := ⟨_, rfl⟩
     have k2 : Keep noBlock wr W2 := by rw [hW2]; exact (Keep.refl _ wr).alloc _
     obtain ⟨e0, e1, e2⟩ := (n4.keep k2 (fun h => h) (fun h => h)).e0
     rw [hW2] at e0 e1 e2
     have HS2 := (show Hid ((∀ v, v < 3 → σ v < 2 ^ (T v).l) ∧ StS ws W2 rdb gr atb B T (exR T σ r 0) σ (fun v => v < 3) (.slice la l.length lcp) l ∧ W2.heap[td]? = some (.cells #[.int .i64 0, .int .i64 0, .int .i64 0] 39 (0, 0)) ∧ ws.heap.size ≤ td ∧ (∀ q, (Value.slice la l.length lcp).ownBlock = some q → q ≠ td) ∧ stN B T (n - k) r σ l = R ∧ l.length = k) from
      ⟨hσ, hS.to k2, by rw [hW2, htd]; exact alloc_new wr _, by rw [htd]; exact hS.kp.size, fun q e => by have := (owns_lt hS.own e).2; omega, hst, hlk⟩)
     have HTD := hid htd
     have HW2 := hid hW2
     rw [hlk]
     clear hσ hS n1 n2 n3 n4 k2 htd hW2 HK hsl hst hlk
     go_wp2_with fail
     rw [← HW2.out, ← HTD.out]
     clear HW2 HTD e0 e1 e2
     obtain ⟨wB, hwB⟩ : ∃ wB, wB = W2 := ⟨_, rfl⟩
     rw [← hwB] at HS2 ⊢
     clear hwB
     go_loopw [47] (fun v47 wr => ∃ i : Nat, v47 = .int .i64 (i : Int) ∧ i ≤ 3 ∧ Hid (wr.heap[td]? = some (.cells #[.int .i64 ((exT B T σ r i 0 : Nat) : Int), .int .i64 ((exT B T σ r i 1 : Nat) : Int), .int .i64 ((exT B T σ r i 2 : Nat) : Int)] 39 (0, 0)) ∧ StS ws wr rdb gr atb B T (exR T σ r i) σ (fun v => v < 3) (.slice la l.length lcp) l)) (fun v47 _ => 3 - (intOf v47).toNat)
     case atStart => exact ⟨0, rfl, by omega, HS2.out.2.2.1, HS2.out.2.1⟩
     case round =>
      obtain ⟨i, rfl, hi, HC⟩ := hrel
      by_cases hlt : i < 3
      ·have hiI : (i : Int) < 3 := by omega
       have hix := index_eo i hlt
       obtain ⟨htd, hS⟩ := HC.out
       have hI := HI.out
       have hv3 := eo_lt i
       have hcl := exC_lt hI.ok HS2.out.1 i
       obtain ⟨x, hx⟩ : ∃ x, x = (kdV (eo i)).lst (exC T σ i) + (exR T σ r i).val B ((kdV (eo i)).ext (exC T σ i)) := ⟨_, rfl⟩
       have hcs := exT_cells B T σ r i hlt x hx
       have hko := kokV (eo i) hv3
       obtain ⟨W5, hW5⟩ : ∃ W5, W5 = wr.drew := ⟨_, rfl⟩
       have k5 : Keep noBlock wr W5 := by rw [hW5]; exact (Keep.refl _ wr).drew
       have hS5 := hS.to k5
       obtain ⟨arr, a1, a2, a3⟩ := hS5.at_
       obtain ⟨m1, m2, m3, m4⟩ := hI.now hS5.kp
       obtain ⟨gk, hcod⟩ := m1.at_ (eo i) hv3
       have htd5 := k5.obj htd (fun h => h)
       have hRq := readQ_any cK (eo i * 110) gk rdb gr (kdV (eo i)) (exC T σ i) B (exR T σ r i) W5 hcod hcl hS5.rd hI.ne.2.2.2.2.2.1
       rw [← hx] at hRq
       obtain ⟨c, hc⟩ : ∃ c, c = exC T σ i := ⟨_, rfl⟩
       have hc3 : arr[eo i * 3]? = some (.int .u8 (c : Int)) := by
        have := a3 (eo i) hv3 hv3 0 (by omega)
        rw [Nat.add_zero] at this
        rw [this, hc]
        rfl
       have hxb : x < 8589934592 := by
        have h1 := hko.lt _ hcl
        have h2 := (exR T σ r i).val_lt B ((kdV (eo i)).ext (exC T σ i))
        have h3 : 2 ^ ((kdV (eo i)).ext (exC T σ i)) ≤ 2 ^ 32 := Nat.pow_le_pow_right (by omega) (by omega)
        omega
       have hold : ∃ o : Nat, (#[.int .i64 ((exT B T σ r i 0 : Nat) : Int), .int .i64 ((exT B T σ r i 1 : Nat) : Int), .int .i64 ((exT B T σ r i 2 : Nat) : Int)] : Array Value)[eo i]? = some (.int .i64 (o : Int)) := ⟨_, three_at _ _ _ (eo i) (exT B T σ r i) rfl rfl rfl hv3⟩
       obtain ⟨old, hold⟩ := hold
       rw [← hc] at hRq
       have hgo : (exR T σ r i).go ((kdV (eo i)).ext c) = exR T σ r (i + 1) := by rw [hc]; rfl
       rw [hgo] at hRq
       obtain ⟨v, hv⟩ : ∃ v, v = eo i := ⟨_, rfl⟩
       rw [← hv] at hix hv3 hcs hc3 hold hRq
       have hv3I : (v : Int) < 3 := by omega
       have g1' : W5.cell? ⟨atb, v * 3, none⟩ = some (.int .u8 (c : Int)) := by rw [cell_of a1, hc3]
       have HRd := (show Hid (Calls Tryz.prog 70 #[.pointer (some ⟨cK, v * 110, none⟩), .pointer (some ⟨rdb, 0, none⟩), .int .u8 (c : Int)] W5 fun e w7 => e = .returned (.int .i64 (x : Int)) ∧ Hid ((w7.setCell ⟨td, v, none⟩ (.int .i64 (x : Int))).heap[td]? = some (.cells #[.int .i64 ((exT B T σ r (i + 1) 0 : Nat) : Int), .int .i64 ((exT B T σ r (i + 1) 1 : Nat) : Int), .int .i64 ((exT B T σ r (i + 1) 2 : Nat) : Int)] 39 (0, 0)) ∧ StS ws (w7.setCell ⟨td, v, none⟩ (.int .i64 (x : Int))) rdb gr atb B T (exR T σ r (i + 1)) σ (fun v => v < 3) (.slice la l.length lcp) l) ∧
         w7.cell? ⟨atb, v * 3, none⟩ = some (.int .u8 (c : Int)) ∧ w7.cell? ⟨td, v, none⟩ = some (.int .i64 (old : Int)) ∧ w7.frozen? ⟨td, v, none⟩ = false) from by
        refine hRq.mono ?_
        rintro e w7 ⟨rfl, r1, r2⟩
        have hlt := hI.lt
        have hne := hI.ne
        have htl := HS2.out.2.2.2.1
        have o7 := r2.obj htd5 (by omega)
        have k8 : Keep (fun j => j = td) w7 (w7.setCell ⟨td, v, none⟩ (.int .i64 (x : Int))) := (Keep.refl (fun j => j = td) w7).setCell (p := ⟨td, v, none⟩) (fun _ => rfl) _
        have hS7 : StS ws w7 rdb gr atb B T (exR T σ r (i + 1)) σ (fun v => v < 3) (.slice la l.length lcp) l := ⟨r1, hS5.at_.keep r2 (by omega), ownsK hS5.own r2 (fun g e1 e2 => by have := (owns_lt hS5.own e1).1; omega), hS5.kp.trans r2 (fun _ _ e => .inl e)⟩
        refine ⟨rfl, ⟨?_, ?_⟩, keep_cellS r2 (by omega) g1', ?_, frozen_of o7 v⟩
        ·rw [← hcs]
         exact set_obj o7 v _
        ·exact ⟨hS7.rd.keep k8 (by omega) (by omega), hS7.at_.keep k8 (by omega), ownsK hS7.own k8 (fun g e1 e2 => HS2.out.2.2.2.2.1 g e1 e2), hS7.kp.trans k8 (fun j hj e => by omega)⟩
        ·rw [cell_of o7, hold])
       have HW5 := hid hW5
       have hxI : (x : Int) < 8589934592 := by omega
       clear htd hS hI hv hW5 k5 hS5 a1 a2 a3 hc hx hcl hcs hko m1 m2 m3 m4 hcod htd5 HC hRq hgo hold hc3 hxb
       go_wp2_with fail
       refine region_last (fun W => W.cell? ⟨atb, v * 3, none⟩ = some (.int .u8 (c : Int))) 12 mx (by rw [← HW5.out]; exact g1') (fun hS => ?_)
       refine tk (i := 0) (v := ?_) rfl (by kernel_rfl) (fun _ _ _ h => h) (by rfl) ?_ (by assumption) ?_
       rotate_left 1
       ·intro w hSw; (try dsimp only at hSw); (go_simp <;> with_reducible rfl)
       simp only [Act.put, tA, tB, tD, tE, tF]
       refine tk (i := 1) (v := ?_) rfl (by kernel_rfl) (fun _ _ _ h => h) (by rfl) ?_ (by assumption) ?_
       rotate_left 1
       ·intro w hSw; (try dsimp only at hSw); (go_simp <;> with_reducible rfl)
       simp only [Act.put, tA, tB, tC, tD, tE, tF]
       refine tk (i := 2) (v := ?_) rfl (by kernel_rfl) (fun _ _ _ h => h) (by rfl) ?_ (by assumption) ?_
       rotate_left 1
       ·intro w hSw; (try dsimp only at hSw); (go_simp <;> with_reducible rfl)
       simp only [Act.put, tA, tB, tC, tD, tE, tF]
       refine tk (i := 3) (v := ?_) rfl (by kernel_rfl) (fun _ _ _ h => h) (by rfl) ?_ (by assumption) ?_
       rotate_left 1
       ·intro w hSw; (try dsimp only at hSw); (go_simp <;> with_reducible rfl)
       simp only [Act.put, tA, tB, tC, tD, tE, tF]
       refine tk (i := 4) (v := ?_) rfl (by kernel_rfl) (fun _ _ _ h => h) (by rfl) ?_ (by assumption) ?_
       rotate_left 1
       ·intro w hSw; (try dsimp only at hSw); (go_simp <;> with_reducible rfl)
       simp only [Act.put, tA, tB, tC, tD, tE, tF]
       refine tk (i := 5) (v := ?_) rfl (by kernel_rfl) (fun _ _ _ h => h) (by rfl) ?_ (by assumption) ?_
       rotate_left 1
       ·intro w hSw; (try dsimp only at hSw); (go_simp <;> with_reducible rfl)
       simp only [Act.put, tA, tB, tC, tD, tE, tF]
       refine tk (i := 6) (v := ?_) rfl (by kernel_rfl) (fun _ _ _ h => h) (by rfl) ?_ (by assumption) ?_
       rotate_left 1
       ·intro w hSw; (try dsimp only at hSw); (go_simp <;> with_reducible rfl)
       simp only [Act.put, tA, tB, tC, tD, tE, tF]
       refine tk (i := 7) (v := ?_) rfl (by kernel_rfl) (fun _ _ _ h => h) (by rfl) ?_ (by assumption) ?_
       rotate_left 1
       ·intro w hSw; (try dsimp only at hSw); (go_simp <;> with_reducible rfl)
       simp only [Act.put, tA, tB, tC, tD, tE, tF]
       refine tk (i := 8) (v := ?_) rfl (by kernel_rfl) (fun _ _ _ h => h) (by rfl) ?_ (by assumption) ?_
       rotate_left 1
       ·intro w hSw; (try dsimp only at hSw); (go_simp <;> with_reducible rfl)
       simp only [Act.put, tA, tB, tC, tD, tE, tF]
       refine tk (i := 9) (v := ?_) rfl (by kernel_rfl) (fun _ _ _ h => h) (by rfl) ?_ (by assumption) ?_
       rotate_left 1
       ·intro w hSw; (try dsimp only at hSw); (go_simp <;> with_reducible rfl)
       simp only [Act.put, tA, tB, tC, tD, tE, tF]
       rw [← HW5.out]
       refine last_one (j := 10) (by kernel_rfl) rfl (fun K hK => ?_)
       rw [if_pos (by rfl)]
       simp only [tA, tB, tC]
       go_simp
       refine HRd.out.mono ?_
       rintro e w7 ⟨rfl, HX, f1, f2, f3⟩
       refine hK.out _ _ (fun _ => f1) ?_
       clear hK K
       refine last_one (j := 11) (by kernel_rfl) rfl (fun K hK => ?_)
       rw [if_pos (by rfl)]
       simp only [tA, tB, tC]
       go_simp
       refine hK.out _ _ (fun _ => f1) ?_
       clear hK K
       refine last_one (j := 12) (by kernel_rfl) rfl (fun K hK => ?_)
       rw [if_pos (by rfl)]
       simp only [tA, tB, tC]
       go_simp
       refine hK.out _ _ (fun e => absurd rfl e) ?_
       clear hK K
       refine last_done (by kernel_rfl) ?_ _
       go_wp2_with fail
       go_roundw
       case rel => exact ⟨i + 1, by go_num, by omega, HX.out⟩
       case measure => simp [intOf]; omega
      ·obtain rfl : i = 3 := by omega
       rw [show (((3 : Nat) : Int)) = (3 : Int) from rfl]
       obtain ⟨htd, hS⟩ := HC.out
       obtain ⟨x0, hx0⟩ : ∃ x0, x0 = exT B T σ r 3 0 := ⟨_, rfl⟩
       obtain ⟨x1, hx1⟩ : ∃ x1, x1 = exT B T σ r 3 1 := ⟨_, rfl⟩
       obtain ⟨x2, hx2⟩ : ∃ x2, x2 = exT B T σ r 3 2 := ⟨_, rfl⟩
       rw [← hx0, ← hx1, ← hx2] at htd
       have c0 : wr.cell? ⟨td, 0, none⟩ = some (.int .i64 (x0 : Int)) := cell_of htd 0
       have c1 : wr.cell? ⟨td, 1, none⟩ = some (.int .i64 (x1 : Int)) := cell_of htd 1
       have c2 : wr.cell? ⟨td, 2, none⟩ = some (.int .i64 (x2 : Int)) := cell_of htd 2
       have hsc : spC (oneS B T σ r) = [.int .i64 (x0 : Int), .int .i64 (x2 : Int), .int .i64 (x1 : Int)] := by unfold spC oneS; rw [hx0, hx1, hx2]
       have HST := hid (And.intro hS hsc)
       have HSp := (show Hid (Calls Tryz.prog 71 #[.agg #[.int .i64 (x0 : Int), .int .i64 (x1 : Int), .int .i64 (x2 : Int)]] wr fun e w' => e = .returned (.agg #[.int .i64 (x0 : Int), .int .i64 (x2 : Int), .int .i64 (x1 : Int)]) ∧ Hid (Keep noBlock wr w')) from by
        refine (stepOf_any (x0 : Int) (x2 : Int) (x1 : Int) wr).mono ?_
        rintro e w' ⟨rfl, q⟩
        exact ⟨rfl, q⟩)
       clear htd hS hx0 hx1 hx2 hsc HC
       go_wp2_with fail
       refine HSp.out.mono ?_
       rintro e w5 ⟨rfl, HK5⟩
       clear HSp c0 c1 c2
       obtain ⟨hS, hsc⟩ := HST.out
       have hlk := HS2.out.2.2.2.2.2.2
       have ka : Keep noBlock wr (w5.alloc (.cells #[.int .i64 (x0 : Int), .int .i64 (x2 : Int), .int .i64 (x1 : Int)] 77)) := HK5.out.alloc _
       have hSa := hS.to ka
       obtain ⟨v9, w9, hrun, r1, r2, r3⟩ := run_append_sp _ ws.heap.size 73 (.slice la l.length lcp) l (oneS B T σ r) w5.heap.size hSa.own (Nat.le_trans hSa.kp.size (Nat.le_refl _)) (by omega) (by rw [hsc]; exact alloc_new w5 _)
       obtain ⟨a9, cp9, rfl⟩ := owns_slice r1
       have hlt3 := HI.out.lt
       have nf : ∀ x, x < ws.heap.size → ¬ ((Value.slice la l.length lcp).ownBlock = some x) := fun x hx e => by have := (owns_lt hSa.own e).1; omega
       obtain ⟨k1, hk1⟩ : ∃ k1, k1 = k + 1 := ⟨_, rfl⟩
       obtain ⟨l1, hl1⟩ : ∃ l1, l1 = l ++ [oneS B T σ r] := ⟨_, rfl⟩
       have hl1k : l1.length = k1 := by rw [hl1, List.length_append, hlk, hk1]; rfl
       rw [← hl1] at r1
       obtain ⟨r3q, hr3q⟩ : ∃ r3q, r3q = exR T σ r 3 := ⟨_, rfl⟩
       have HS9 := (show Hid (StS ws w9 rdb gr atb B T r3q σ (fun v => v < 3) (.slice a9 k1 cp9) l1 ∧ l1.length = k1) from by
        refine ⟨⟨?_, hSa.at_.keep r2 (nf _ hlt3.2.2), ?_, hSa.kp.trans r2 (fun j hj e => (nf j hj e).elim)⟩, hl1k⟩
        ·rw [hr3q]; exact hSa.rd.keep r2 (nf _ hlt3.1) (nf _ hlt3.2.1)
        ·rw [hl1k]
         rw [hlk, ← hk1] at r1
         exact r1)
       have HSt := (show Hid ((∀ v, v < 3 → σ v < 2 ^ (T v).l) ∧ (if n - k1 = 0 then (if r3q.left = 0 then some l1 else none) else match nxS B T σ r3q 3 with
         | none => none
         | some (q, τ) => stN B T (n - k1) q τ l1) = R) from ⟨HS2.out.1, by
        have h := HS2.out.2.2.2.2.2.1
        rw [show n - k = (n - k1) + 1 from by omega] at h
        rw [hr3q, hl1]
        exact h⟩)
       have HR := (show Hid ((Builtin.append_ #[73, 73] 73 #[.slice la k lcp, .slice (some ⟨w5.heap.size, 0, none⟩) 1 1]).run Tryz.prog (w5.alloc (.cells #[.int .i64 (x0 : Int), .int .i64 (x2 : Int), .int .i64 (x1 : Int)] 77)) = .ok (.slice a9 k1 cp9) w9) from by rw [hlk] at hrun; rw [hk1]; exact hrun)
       have HK1 := hid hk1
       clear hS hsc ka hSa hrun r1 r2 r3 hlt3 nf HST HK5 HS2 hk1 hlk hl1k hl1 hr3q
       by_cases hlast : k1 = n
       ·have HLf := (show Hid (Calls Tryz.prog 72 #[.pointer (some ⟨rdb, 0, none⟩)] w9 fun e w' => e = .returned (.int .i64 r3q.left) ∧ Hid (Keep noBlock w9 w')) from by
         refine HS9.out.1.rd.left.mono ?_
         rintro e w' ⟨rfl, h⟩
         exact ⟨rfl, h⟩)
        have hrs := HSt.out.2
        rw [if_pos (by omega)] at hrs
        obtain ⟨lf, hlf⟩ : ∃ lf, lf = r3q.left := ⟨_, rfl⟩
        rw [← hlf] at HLf hrs
        have HRs := hid hrs
        clear hrs hlf HSt
        subst hlast
        by_cases h0 : lf = 0
        ·subst h0
         go_wp2_with (at_builtin; refine wpList_append_run _ rfl _ _ 73 rfl _ _ _ _ rfl rfl HR.out ?_)
         refine HLf.out.mono ?_
         rintro e w6 ⟨rfl, HK6⟩
         clear HLf HR
         go_wp2_with fail
         simp only [Exit.noGoto]
         go_ret2
         rw [← HRs.out, if_pos trivial]
         have h9 := HS9.out.1
         have k6 := HK6.out
         have hown := ownsK h9.own k6 (fun _ _ h => h)
         exact ⟨(HKW.out.1.trans h9.kp (fun j hj e => by have := HKW.out.2; omega)).trans' k6, _, rfl, sprow_of hown, nws_own hown HKW.out.1.size⟩
        ·have h0b : ((lf : Int) == 0) = false := by simpa using h0
         have h0d : decide (lf = 0) = false := decide_eq_false h0
         go_wp2_with (at_builtin; refine wpList_append_run _ rfl _ _ 73 rfl _ _ _ _ rfl rfl HR.out ?_)
         refine HLf.out.mono ?_
         rintro e w6 ⟨rfl, HK6⟩
         clear HLf HR
         go_wp2_with fail
         simp only [Exit.noGoto]
         go_ret2
         rw [← HRs.out, if_neg h0]
         have h9 := HS9.out.1
         have k6 := HK6.out
         exact ⟨(HKW.out.1.trans h9.kp (fun j hj e => by have := HKW.out.2; omega)).trans' k6, _, rfl⟩
       ·have hl2 : ((k1 : Int) == (n : Int)) = false := by simp; omega
        have hl3 : decide (k1 = n) = false := decide_eq_false hlast
        have hk1n : k1 < n := by have := HK1.out; omega
        obtain ⟨n1, n2, n3, n4⟩ := HI.out.now HS9.out.1.kp
        obtain ⟨e0, e1, e2⟩ := n4.n0
        have hrs := HSt.out.2
        rw [if_neg (by omega)] at hrs
        have HRs := hid hrs
        have HSg := hid HSt.out.1
        clear n1 n2 n3 n4 hrs HSt
        go_wp2_with (at_builtin; refine wpList_append_run _ rfl _ _ 73 rfl _ _ _ _ rfl rfl HR.out ?_)
        obtain ⟨wC, hwC⟩ : ∃ wC, wC = w9 := ⟨_, rfl⟩
        rw [← hwC] at HS9 ⊢
        clear hwC HR e0 e1 e2
        go_loopw [73] (fun v73 wr => ∃ i : Nat, v73 = .int .i64 (i : Int) ∧ i ≤ 3 ∧ Hid (∃ (q : Rs) (τ : Nat → Nat), nxS B T σ r3q i = some (q, τ) ∧ (∀ v, v < 3 → τ v < 2 ^ (T v).l) ∧ StS ws wr rdb gr atb B T q τ (fun v => v < 3) (.slice a9 k1 cp9) l1)) (fun v73 _ => 3 - (intOf v73).toNat)
        case atStart => exact ⟨0, rfl, by omega, r3q, σ, rfl, HSg.out, HS9.out.1⟩
        case round =>
         have HL1 := hid HS9.out.2
         clear HS9 HSg
         obtain ⟨i, rfl, hi, HC⟩ := hrel
         obtain ⟨rq, τ, hnx, hτ, hS⟩ := HC.out
         by_cases hlt : i < 3
         ·have hiI : (i : Int) < 3 := by omega
          have hix := index_no i hlt
          have hI := HI.out
          have hv3 := no_lt i
          have hnx1 : nxS B T σ r3q (i + 1) = if (rq.go ((T (no i)).bi (τ (no i)))).left < 0 then none else some (rq.go ((T (no i)).bi (τ (no i))), updN τ (no i) ((T (no i)).ba (τ (no i)) + rq.val B ((T (no i)).bi (τ (no i))))) := by
           show (match nxS B T σ r3q i with | none => none | some (q, τ) => _) = _
           rw [hnx]
          obtain ⟨v, hv⟩ : ∃ v, v = no i := ⟨_, rfl⟩
          rw [← hv] at hix hv3 hnx1
          have hv3I : (v : Int) < 3 := by omega
          have hGv := hI.ok v hv3
          have hst := hτ v hv3
          have hb9 := hGv.bi _ hst
          have hl9 : (T v).l ≤ 9 := Nat.le_trans hGv.hl hGv.ml
          have hp12 := pow12 (show (T v).l ≤ 12 by omega)
          have hyl := rq.val_lt B ((T v).bi (τ v))
          have hst1 := good_next hGv hst hyl
          have hba := hGv.ba _ hst
          obtain ⟨arr, a1, a2, a3⟩ := hS.at_
          have b0 := a3 v hv3 hv3 0 (by omega)
          have b1 := a3 v hv3 hv3 1 (by omega)
          have b2 := a3 v hv3 hv3 2 (by omega)
          rw [← cell_of a1] at b0 b1 b2
          obtain ⟨S, hS_⟩ : ∃ S, S = (T v).sy (τ v) := ⟨_, rfl⟩
          obtain ⟨Bi, hB⟩ : ∃ Bi, Bi = (T v).bi (τ v) := ⟨_, rfl⟩
          obtain ⟨A, hA⟩ : ∃ A, A = (T v).ba (τ v) := ⟨_, rfl⟩
          have d0 : wr.cell? ⟨atb, v * 3, none⟩ = some (.int .u8 (S : Int)) := by rw [hS_]; exact b0
          have d1 : wr.cell? ⟨atb, v * 3 + 1, none⟩ = some (.int .u8 (Bi : Int)) := by rw [hB]; exact b1
          have d2 : wr.cell? ⟨atb, v * 3 + 2, none⟩ = some (.int .u16 (A : Int)) := by rw [hA]; exact b2
          rw [← hB] at hb9 hyl hst1 hba hnx1
          rw [← hA] at hst1 hba hnx1
          obtain ⟨y, hy⟩ : ∃ y, y = rq.val B Bi := ⟨_, rfl⟩
          rw [← hy] at hyl hst1 hnx1
          obtain ⟨s', hs'⟩ : ∃ s', s' = A + y := ⟨_, rfl⟩
          rw [← hs'] at hst1 hnx1
          have hsI : (A : Int) + (y : Int) = (s' : Int) := by omega
          obtain ⟨q', hq'⟩ : ∃ q', q' = rq.go Bi := ⟨_, rfl⟩
          rw [← hq'] at hnx1
          obtain ⟨cb, hcb⟩ : ∃ cb, cb = wr.heap.size := ⟨_, rfl⟩
          obtain ⟨W4, hW4⟩ : ∃ W4, W4 = wr.alloc (.cells #[.int .u8 (S : Int), .int .u8 (Bi : Int), .int .u16 (A : Int)] 130) := ⟨_, rfl⟩
          obtain ⟨W5, hW5⟩ : ∃ W5, W5 = W4.drew := ⟨_, rfl⟩
          have k5 : Keep noBlock wr W5 := by rw [hW5, hW4]; exact ((Keep.refl _ wr).alloc _).drew
          have hS5 := hS.to k5
          have ocb : W5.heap[cb]? = some (.cells #[.int .u8 (S : Int), .int .u8 (Bi : Int), .int .u16 (A : Int)] 130 (0, 0)) := by rw [hW5, hW4, hcb]; exact alloc_new wr _
          obtain ⟨m1, m2, m3, m4⟩ := hI.now hS5.kp
          obtain ⟨q, hq⟩ : ∃ q, q = 2 ^ (T v).l := ⟨_, rfl⟩
          have g1' : W5.cell? ⟨tb, v, none⟩ = some (.slice (some ⟨tg v, 0, none⟩) q (cap v)) ∧ W5.cell? ⟨cb, 2, none⟩ = some (.int .u16 (A : Int)) ∧ W5.cell? ⟨cb, 1, none⟩ = some (.int .u8 (Bi : Int)) := by
           refine ⟨?_, cell_of ocb 2, cell_of ocb 1⟩
           rw [cell_of m3, tabA_at T tg cap v hv3, hq]
          obtain ⟨S', hS'⟩ : ∃ S', S' = (T v).sy s' := ⟨_, rfl⟩
          obtain ⟨B', hB'⟩ : ∃ B', B' = (T v).bi s' := ⟨_, rfl⟩
          obtain ⟨A', hA'⟩ : ∃ A', A' = (T v).ba s' := ⟨_, rfl⟩
          have HRd := (show Hid (Calls Tryz.prog 68 #[.pointer (some ⟨rdb, 0, none⟩), .int .i64 (Bi : Int)] W5 fun e w7 => e = .returned (.int .u64 (y : Int)) ∧ Hid (StS ws (w7.setCells atb (v * 3) [.int .u8 (S' : Int), .int .u8 (B' : Int), .int .u16 (A' : Int)]) rdb gr atb B T q' (updN τ v s') (fun v => v < 3) (.slice a9 k1 cp9) l1) ∧
            (w7.cell? ⟨tb, v, none⟩ = some (.slice (some ⟨tg v, 0, none⟩) q (cap v)) ∧ w7.cell? ⟨cb, 2, none⟩ = some (.int .u16 (A : Int)) ∧ w7.cell? ⟨cb, 1, none⟩ = some (.int .u8 (Bi : Int))) ∧
            (w7.cell? ⟨tg v, s' * 3, none⟩ = some (.int .u8 (S' : Int)) ∧ w7.cell? ⟨tg v, s' * 3 + 1, none⟩ = some (.int .u8 (B' : Int)) ∧ w7.cell? ⟨tg v, s' * 3 + 2, none⟩ = some (.int .u16 (A' : Int))) ∧
            Hid (w7.there atb (v * 3) (#[.int .u8 (S' : Int), .int .u8 (B' : Int), .int .u16 (A' : Int)] : Array Value).size ∧ (#[.int .u8 (S' : Int), .int .u8 (B' : Int), .int .u16 (A' : Int)] : Array Value).all (·.oneCell') = true)) from by
           refine (hS5.bits (m := Bi) (by omega) hI.lt.1 hI.ne.1).mono ?_
           rintro e w7 ⟨rfl, r1, r2⟩
           rw [← hq'] at r1
           obtain ⟨arr', o1, o2, o3⟩ := r1.at_
           obtain ⟨p1, p2, p3, p4⟩ := hI.now r1.kp
           obtain ⟨z0, z1, z2⟩ := (p2 v hv3).cells s' hst1
           have hlt2 := hI.lt
           have hne2 := hI.ne
           have hcbl : ws.heap.size ≤ cb := by rw [hcb]; exact hS.kp.size
           have hcl : cellL (T v) s' = [.int .u8 (S' : Int), .int .u8 (B' : Int), .int .u16 (A' : Int)] := by unfold cellL; rw [← hS', ← hB', ← hA']
           refine ⟨by rw [hy], ?_, ⟨keep_cellS r2 (by omega) g1'.1, keep_cellS r2 (by omega) g1'.2.1, keep_cellS r2 (by omega) g1'.2.2⟩, ⟨by rw [hS']; exact z0, by rw [hB']; exact z1, by rw [hA']; exact z2⟩, fun j hj => ⟨?_, frozen_of o1 _⟩, all_oneCell_toArray (by rw [← hcl]; exact cellL_one _ _)⟩
           ·rw [← hcl]
            exact (r1.put o1 v s' hv3 (setCells_obj atb 145 _ _ _ _ o1) (keep_setCells (S := fun k => k = atb) atb (fun _ => rfl) _ _ _ (Keep.refl _ w7)) hlt2.2.2 hne2.1 hne2.2.2.1).mono (fun u hu => .inl hu)
           ·have hj3 : j < 3 := hj
            rw [cell_of o1, Array.getElem?_eq_getElem (by omega)]
            rfl)
          have HNx := (show Hid (nxS B T σ r3q (i + 1) = (if q'.left < 0 then none else some (q', updN τ v s')) ∧ ∀ u, u < 3 → updN τ v s' u < 2 ^ (T u).l) from ⟨hnx1, updN_bound hτ v s' (fun _ => hst1)⟩)
          rw [← hq] at hst1 hp12
          have hs'I : (s' : Int) < (q : Int) := by omega
          have hBI : (Bi : Int) ≤ 9 := by omega
          have hwA : IntKind.i64.wrap (A : Int) = (A : Int) := by rw [IntKind.wrap_i64]; omega
          have hwB : IntKind.i64.wrap (Bi : Int) = (Bi : Int) := by rw [IntKind.wrap_i64]; omega
          have hwy : IntKind.i64.wrap (y : Int) = (y : Int) := by rw [IntKind.wrap_i64]; omega
          have hws : IntKind.i64.wrap (s' : Int) = (s' : Int) := by rw [IntKind.wrap_i64]; omega
          have HW5 := hid hW5
          have HW4 := hid hW4
          have HCB := hid hcb
          clear hS hI hv hGv hst hba hl9 a1 a2 a3 b0 b1 b2 hS_ hB hA hs' hy hyl hcb hW4 hW5 k5 hS5 ocb m1 m2 m3 m4 hq hS' hB' hA' HC hnx hnx1 hτ hq'
          go_wp2_with fail
          rw [← HW4.out, ← HCB.out]
          clear HW4 HCB d0 d1 d2
          refine region_last (fun W => W.cell? ⟨tb, v, none⟩ = some (.slice (some ⟨tg v, 0, none⟩) q (cap v)) ∧ W.cell? ⟨cb, 2, none⟩ = some (.int .u16 (A : Int)) ∧ W.cell? ⟨cb, 1, none⟩ = some (.int .u8 (Bi : Int))) 17 mx (by rw [← HW5.out]; exact g1') (fun hS => ?_)
          refine tk (i := 0) (v := ?_) rfl (by kernel_rfl) (fun _ _ _ h => h) (by rfl) ?_ (by assumption) ?_
          rotate_left 1
          ·intro w hSw; (try dsimp only at hSw); (try obtain ⟨hSw1, hSw2, hSw3⟩ := hSw); (go_simp <;> with_reducible rfl)
          simp only [Act.put, tA, tB, tD, tE, tF]
          refine tk (i := 1) (v := ?_) rfl (by kernel_rfl) (fun _ _ _ h => h) (by rfl) ?_ (by assumption) ?_
          rotate_left 1
          ·intro w hSw; (try dsimp only at hSw); (try obtain ⟨hSw1, hSw2, hSw3⟩ := hSw); (go_simp <;> with_reducible rfl)
          simp only [Act.put, tA, tB, tC, tD, tE, tF]
          refine tk (i := 2) (v := ?_) rfl (by kernel_rfl) (fun _ _ _ h => h) (by rfl) ?_ (by assumption) ?_
          rotate_left 1
          ·intro w hSw; (try dsimp only at hSw); (try obtain ⟨hSw1, hSw2, hSw3⟩ := hSw); (go_simp <;> with_reducible rfl)
          simp only [Act.put, tA, tB, tC, tD, tE, tF]
          refine tk (i := 3) (v := ?_) rfl (by kernel_rfl) (fun _ _ _ h => h) (by rfl) ?_ (by assumption) ?_
          rotate_left 1
          ·intro w hSw; (try dsimp only at hSw); (try obtain ⟨hSw1, hSw2, hSw3⟩ := hSw); (go_simp <;> with_reducible rfl)
          simp only [Act.put, tA, tB, tC, tD, tE, tF]
          refine tk (i := 4) (v := ?_) rfl (by kernel_rfl) (fun _ _ _ h => h) (by rfl) ?_ (by assumption) ?_
          rotate_left 1
          ·intro w hSw; (try dsimp only at hSw); (try obtain ⟨hSw1, hSw2, hSw3⟩ := hSw); (go_simp <;> with_reducible rfl)
          simp only [Act.put, tA, tB, tC, tD, tE, tF]
          refine tk (i := 5) (v := ?_) rfl (by kernel_rfl) (fun _ _ _ h => h) (by rfl) ?_ (by assumption) ?_
          rotate_left 1
          ·intro w hSw; (try dsimp only at hSw); (try obtain ⟨hSw1, hSw2, hSw3⟩ := hSw); (go_simp <;> with_reducible rfl)
          simp only [Act.put, tA, tB, tC, tD, tE, tF]
          refine tk (i := 6) (v := ?_) rfl (by kernel_rfl) (fun _ _ _ h => h) (by rfl) ?_ (by assumption) ?_
          rotate_left 1
          ·intro w hSw; (try dsimp only at hSw); (try obtain ⟨hSw1, hSw2, hSw3⟩ := hSw); (go_simp <;> with_reducible rfl)
          simp only [Act.put, tA, tB, tC, tD, tE, tF]
          refine tk (i := 7) (v := ?_) rfl (by kernel_rfl) (fun _ _ _ h => h) (by rfl) ?_ (by assumption) ?_
          rotate_left 1
          ·intro w hSw; (try dsimp only at hSw); (try obtain ⟨hSw1, hSw2, hSw3⟩ := hSw); (go_simp <;> with_reducible rfl)
          simp only [Act.put, tA, tB, tC, tD, tE, tF]
          refine tk (i := 8) (v := ?_) rfl (by kernel_rfl) (fun _ _ _ h => h) (by rfl) ?_ (by assumption) ?_
          rotate_left 1
          ·intro w hSw; (try dsimp only at hSw); (try obtain ⟨hSw1, hSw2, hSw3⟩ := hSw); (go_simp <;> with_reducible rfl)
          simp only [Act.put, tA, tB, tC, tD, tE, tF]
          refine tk (i := 9) (v := ?_) rfl (by kernel_rfl) (fun _ _ _ h => h) (by rfl) ?_ (by assumption) ?_
          rotate_left 1
          ·intro w hSw; (try dsimp only at hSw); (try obtain ⟨hSw1, hSw2, hSw3⟩ := hSw); (go_simp <;> with_reducible rfl)
          simp only [Act.put, tA, tB, tC, tD, tE, tF]
          refine tk (i := 10) (v := ?_) rfl (by kernel_rfl) (fun _ _ _ h => h) (by rfl) ?_ (by assumption) ?_
          rotate_left 1
          ·intro w hSw; (try dsimp only at hSw); (try obtain ⟨hSw1, hSw2, hSw3⟩ := hSw); (go_simp <;> with_reducible rfl)
          simp only [Act.put, tA, tB, tC, tD, tE, tF]
          rw [← HW5.out]
          refine last_one (j := 11) (by kernel_rfl) rfl (fun K hK => ?_)
          rw [if_pos (by rfl)]
          simp only [tA, tB, tC]
          go_simp
          refine HRd.out.mono ?_
          rintro e w7 ⟨rfl, HX, f1, ⟨f2, f3, f4⟩, HST⟩
          refine hK.out _ _ (fun _ => f1) ?_
          clear hK K
          refine last_one (j := 12) (by kernel_rfl) rfl (fun K hK => ?_)
          rw [if_pos (by rfl)]
          simp only [tA, tB, tC]
          go_simp
          refine hK.out _ _ (fun _ => f1) ?_
          clear hK K
          refine last_one (j := 13) (by kernel_rfl) rfl (fun K hK => ?_)
          rw [if_pos (by rfl)]
          simp only [tA, tB, tC]
          go_simp
          refine hK.out _ _ (fun _ => f1) ?_
          clear hK K
          refine last_one (j := 14) (by kernel_rfl) rfl (fun K hK => ?_)
          rw [if_pos (by rfl)]
          simp only [tA, tB, tC]
          go_simp
          refine hK.out _ _ (fun _ => f1) ?_
          clear hK K
          refine last_one (j := 15) (by kernel_rfl) rfl (fun K hK => ?_)
          rw [if_pos (by rfl)]
          simp only [tA, tB, tC]
          go_simp
          refine hK.out _ _ (fun _ => f1) ?_
          clear hK K
          refine last_one (j := 16) (by kernel_rfl) rfl (fun K hK => ?_)
          rw [if_pos (by rfl)]
          simp only [tA, tB, tC]
          go_simp
          refine hK.out _ _ (fun _ => f1) ?_
          clear hK K
          refine last_one (j := 17) (by kernel_rfl) rfl (fun K hK => ?_)
          rw [if_pos (by rfl)]
          refine wp_store_mid 130 (.tmp 95) (.tmp 94) rfl atb (v * 3) #[.int .u8 (S' : Int), .int .u8 (B' : Int), .int .u16 (A' : Int)] rfl rfl HST.out.1 info130s HST.out.2 ?_
          refine hK.out _ _ (fun e => absurd rfl e) ?_
          clear hK K
          refine last_done (by kernel_rfl) ?_ _
          obtain ⟨W8, hW8⟩ : ∃ W8, W8 = w7.setCells atb (v * 3) [.int .u8 (S' : Int), .int .u8 (B' : Int), .int .u16 (A' : Int)] := ⟨_, rfl⟩
          rw [show w7.setCells atb (v * 3) (#[.int .u8 (S' : Int), .int .u8 (B' : Int), .int .u16 (A' : Int)] : Array Value).toList = W8 from hW8.symm]
          rw [← hW8] at HX
          clear hW8 HST f1 f2 f3 f4 HRd
          have hlr := HX.out.rd.left_ge
          have HLf := (show Hid (∀ W : World, Keep noBlock W8 W → Calls Tryz.prog 72 #[.pointer (some ⟨rdb, 0, none⟩)] W fun e w' => e = .returned (.int .i64 q'.left) ∧ Hid (Keep noBlock W8 w')) from fun W hW => by
           refine (HX.out.rd.keep hW (fun h => h) (fun h => h)).left.mono ?_
           rintro e w' ⟨rfl, h⟩
           exact ⟨rfl, hW.trans' h⟩)
          have hnx2 := HNx.out.1
          obtain ⟨lf, hlf⟩ : ∃ lf, lf = q'.left := ⟨_, rfl⟩
          rw [← hlf] at HLf hnx2 hlr
          clear hlf
          by_cases hneg : lf < 0
          ·rw [if_pos hneg] at hnx2
           have HRn := hid (show R = none from by
            have h3 := nxS_none hnx2 (3 - (i + 1))
            rw [show i + 1 + (3 - (i + 1)) = 3 from by omega] at h3
            have := HRs.out
            rw [h3] at this
            exact this.symm)
           have hnd : decide (lf < 0) = true := decide_eq_true hneg
           have h0b : ((lf : Int) == 0) = false := by simp; omega
           have h0d : decide (lf = 0) = false := decide_eq_false (by omega)
           clear hnx2 HNx
           go_wp2_with fail
           refine (HLf.out W8 (Keep.refl _ _)).mono ?_
           rintro e w10 ⟨rfl, HK10⟩
           go_wp2_with fail
           refine (HLf.out w10 HK10.out).mono ?_
           rintro e w11 ⟨rfl, HK11⟩
           clear HLf
           go_wp2_with fail
           simp only [Exit.noGoto]
           go_ret2
           rw [HRn.out]
           have h9 := HX.out
           exact ⟨(HKW.out.1.trans h9.kp (fun j hj e => by have := HKW.out.2; omega)).trans' HK11.out, _, rfl⟩
          ·rw [if_neg hneg] at hnx2
           have hnd : decide (lf < 0) = false := decide_eq_false hneg
           have HN := (show Hid (∀ w10, Keep noBlock W8 w10 → ∃ (q : Rs) (τ : Nat → Nat), nxS B T σ r3q (i + 1) = some (q, τ) ∧ (∀ v, v < 3 → τ v < 2 ^ (T v).l) ∧ StS ws w10 rdb gr atb B T q τ (fun v => v < 3) (.slice a9 k1 cp9) l1) from fun w10 h10 => ⟨_, _, hnx2, HNx.out.2, HX.out.to h10⟩)
           clear hnx2 HNx
           go_wp2_with fail
           refine (HLf.out W8 (Keep.refl _ _)).mono ?_
           rintro e w10 ⟨rfl, HK10⟩
           have HN2 := hid (HN.out w10 HK10.out)
           clear HLf HX HK10 HN
           go_wp2_with fail
           go_roundw
           case rel => exact ⟨i + 1, by go_num, by omega, HN2.out⟩
           case measure => simp [intOf]; omega
         ·obtain rfl : i = 3 := by omega
          rw [show (((3 : Nat) : Int)) = (3 : Int) from rfl]
          have HN := (show Hid (∃ (r : Rs) (σ : Nat → Nat) (l : List Sp), l.length = k1 ∧ (∀ v, v < 3 → σ v < 2 ^ (T v).l) ∧ stN B T (n - k1) r σ l = R ∧ StS ws wr rdb gr atb B T r σ (fun v => v < 3) (.slice a9 k1 cp9) l) from by
           have := HRs.out
           rw [hnx] at this
           exact ⟨rq, τ, l1, HL1.out, hτ, this, hS⟩)
          clear hnx hτ hS HC
          go_wp2_with fail
          go_roundw
          case rel => exact ⟨k1, rfl, hk1n, HN.out⟩
          case measure => simp [sliceLen]; have := HK1.out; omega
end Go.Proofs.YtnjilcokkhodmaaGreatDoor
