/-
  What came in: slices of integers, and of acts, as the rows hand them on.
  Steps make what they make: plain lists.
  again: bytes that are put once more.
  Back: the text that steps make.
  Whatever steps make a text, the chunk of these is read as it: the walk of the statement.
  Steps that came in, opened.
-/
import Derived.WalkKit
import Derived.ProofKit
import Derived.OpenShut
import Derived.ChangeOld
import Derived.ChangeSame
import Derived.ChangeArms
import Derived.Below
import Derived.SizedLaws
import Derived.Deep.Slices
import Derived.Deep.Strs
import Derived.Deep.Matrix
import Derived.Lib.SmallJoins
import Derived.Test.YtnokemcogjoonaaGreatRows
import Derived.Test.YtnokemcogjoonaaGreatPutP1
import Derived.Test.YtnokemcogjoonaaGreatPutP3
import Derived.Test.YtnokemcogjoonaaGreatPutP4
import Derived.Test.YtnokemcogjoonaaGreatPutP11
import Derived.Test.YtnokemcogjoonaaGreatPutP15
namespace Go.Proofs.YtnokemcogjoonaaGreat
open Go.ChangeShapes Go.WideShapes Go.ChangeAt Go.RowKit
set_option linter.unusedVariables false

/-- A slice of integers, as it lies. -/
structure RowI (w : World) (k : IntKind) (a : Option Addr) (cap gb off : Nat) (xs : List Int) : Prop where
  at_ : a = some ⟨gb, off, none⟩ ∨ xs = []
  nil : a = none → cap = 0
  cells : ∀ j, j < xs.length → w.cell? ⟨gb, off + j, none⟩ = some (.int k (xs[j]?.getD 0))
  le : xs.length ≤ cap
theorem own : ownKnob Tryz.prog.godebug = none := by kernel_rfl
theorem laidOut : laidOutB Tryz.prog = true := by kernel_rfl
theorem bytes5 : Tryz.prog.bytesOf 5 = 1 := by kernel_rfl
theorem getD_el (zs : List Int) (j : Nat) (h : j < zs.length) : zs.getD j 0 = zs[j] := by simp [List.getD, h]

/-- A slice of integers that came in, made of a row of cap cells. -/
theorem rowI_of {k : IntKind} {W : World} {x : Addr} {l cp : Nat} {zs : List Int} (hl : l ≤ cp) (hz : zs.length = cp) (hcell : ∀ i, i < cp → W.cell? (x.add i) = some (.int k (zs.getD i 0))) :
    ∃ (gb off : Nat), RowI W k (some x) cp gb off (zs.take l) ∧ (zs.take l).length = l := by
  have hbl : (zs.take l).length = l := by rw [List.length_take]; omega
  by_cases h0 : l = 0
  · subst h0
    exact ⟨0, 0, ⟨.inr (by simp), (fun e => by cases e), (fun j hj => by simp at hj), by rw [hbl]; omega⟩, hbl⟩
  · obtain ⟨b, off, spot⟩ := x
    have hc0 := hcell 0 (by omega)
    have hspot : spot = none := by simpa [Addr.add] using World.cell?_spot hc0
    subst hspot
    refine ⟨b, off, ⟨.inl rfl, (fun e => by cases e), fun j hj => ?_, by omega⟩, hbl⟩
    rw [hbl] at hj
    have h1 := hcell j (by omega)
    rw [addO] at h1
    rw [h1, List.getElem?_take, if_pos hj]
    simp [List.getD]

theorem row22_open {H : Type} {enc : TypeId × Value → H} {W : World} {a : Option Addr} {len cap fuel : Nat} {x : DataW H × List MemPlace} (h : DataW.trod enc Tryz.prog W 0 (fun _ => true) true fuel 22 [.slice a len cap] = some x) (hw : ∀ n ∈ x.1.weights Tryz.prog 22, n ≤ reachBytes) :
    ∃ (b off : Nat) (xs : List Int), xs.length = len ∧ RowI W .u8 a cap b off xs ∧ (∀ i : Nat, 0 ≤ xs[i]?.getD 0 ∧ xs[i]?.getD 0 ≤ 255) ∧ len * Tryz.prog.bytesOf 5 ≤ reachBytes := by
  rcases open_ints Tryz.underlying22 Tryz.underlying5 (by kernel_rfl) h with ⟨hcs, _⟩ | ⟨y, l, cp, zs, hcs, _, hl, hm, hz, hx, hcell, hwz⟩
  · simp at hcs
    obtain ⟨rfl, rfl, rfl⟩ := hcs
    exact ⟨0, 0, [], rfl, ⟨.inr rfl, (fun _ => rfl), (fun j hj => by simp at hj), Nat.le_refl _⟩, (fun i => by simp), by simp⟩
  · simp at hcs
    obtain ⟨rfl, rfl, rfl⟩ := hcs
    have hz' : zs.length = cap := by simpa using hz
    obtain ⟨b, off, hR, hlen⟩ := rowI_of (k := .u8) hl hz' (fun i hi => hcell i (by omega))
    refine ⟨b, off, zs.take len, hlen, hR, fun i => ?_, ?_⟩
    · by_cases hi : i < len
      · have hb := bounds_u8 (hwz (zs.getD i 0) (by rw [getD_el zs i (by omega)]; exact List.getElem_mem _))
        rw [List.getElem?_take, if_pos hi, List.getElem?_eq_getElem (by omega), Option.getD_some]
        rw [getD_el zs i (by omega)] at hb
        omega
      · rw [List.getElem?_eq_none (by omega)]; simp
    · have hx1 : x.1 = .slice (lits .u8 (zs.take len)) (lits .u8 (zs.drop len)) := by rw [hx]
      have h1 := hw (((lits (H := H) .u8 (zs.take len)).length + (lits (H := H) .u8 (zs.drop len)).length) * Tryz.prog.bytesOf 5) (by
        rw [hx1]
        simp only [DataW.weights, Tryz.underlying22]
        exact List.mem_cons_self)
      simp only [lits, List.length_map, List.length_take, List.length_drop] at h1
      refine Nat.le_trans (Nat.mul_le_mul_right _ ?_) h1
      omega

/-- A slice of bytes that came in. -/
theorem bytes_open {H : Type} {enc : TypeId × Value → H} {W : World} {a : Option Addr} {len cap fuel : Nat} {x : DataW H × List MemPlace} (h : DataW.trod enc Tryz.prog W 0 (fun _ => true) true fuel 22 [.slice a len cap] = some x) (hw : ∀ n ∈ x.1.weights Tryz.prog 22, n ≤ reachBytes) :
    ∃ (b off : Nat) (bs : List Nat), bs.length = len ∧ Bytes W a cap b off bs ∧ len ≤ 140737488351232 := by
  obtain ⟨b, off, xs, hl, hR, hb, hr⟩ := row22_open h hw
  have hlen : len ≤ 140737488351232 := by rw [bytes5, Nat.mul_one] at hr; exact hr
  refine ⟨b, off, xs.map Int.toNat, by simpa using hl, ⟨?_, hR.nil, fun j hj => ?_, fun j => ?_, ?_, ?_⟩, hlen⟩
  · rcases hR.at_ with e | e
    · exact .inl e
    · exact .inr (by rw [e]; rfl)
  · rw [List.length_map] at hj
    rw [hR.cells j hj]
    have := hb j
    rw [List.getElem?_eq_getElem hj] at this ⊢
    rw [List.getElem?_map, List.getElem?_eq_getElem hj]
    simp only [Option.getD_some, Option.map_some] at this ⊢
    rw [Int.toNat_of_nonneg this.1]
  · have := hb j
    rw [List.getElem?_map]
    cases hx : xs[j]? with
    | none => simp
    | some y => rw [hx] at this; simp only [Option.getD_some, Option.map_some] at this ⊢; omega
  · rw [List.length_map, hl]; have := hR.le; omega
  · rw [List.length_map, hl]; omega

end Go.Proofs.YtnokemcogjoonaaGreat

namespace Go.Proofs.YtnokemcogjoonaaGreat
set_option linter.unusedVariables false

/-- Of matches that a copy may have. -/
def fitT (t : Tri) : Prop := t.2.1 = 0 ∨ (2 ≤ t.2.1 ∧ t.2.1 ≤ 273)
theorem outB_more : ∀ (ts : List Tri) (out rest : List Nat), ∃ X, Fd.outB out rest ts = out ++ X
  | [], out, rest => ⟨[], (List.append_nil _).symm⟩
  | t :: r, out, rest => by
    obtain ⟨X, hX⟩ := outB_more r ((out ++ rest.take t.1.toNat) ++ Fd.outL (out ++ rest.take t.1.toNat) t.2.2.toNat t.2.1.toNat) (rest.drop t.1.toNat)
    refine ⟨rest.take t.1.toNat ++ (Fd.outL (out ++ rest.take t.1.toNat) t.2.2.toNat t.2.1.toNat ++ X), ?_⟩
    show Fd.outB _ _ r = _
    rw [hX, List.append_assoc, List.append_assoc]
def sumM : List Tri → Int
  | [] => 0
  | t :: r => t.2.1 + sumM r
theorem outB_len : ∀ (ts : List Tri) (out rest : List Nat), (∀ t ∈ ts, 0 ≤ t.2.1) → ((Fd.outB out rest ts).length : Int) ≤ (out.length : Int) + (rest.length : Int) + sumM ts
  | [], out, rest, _ => by show (out.length : Int) ≤ _; simp [sumM]; omega
  | t :: r, out, rest, h => by
    have h1 := outB_len r ((out ++ rest.take t.1.toNat) ++ Fd.outL (out ++ rest.take t.1.toNat) t.2.2.toNat t.2.1.toNat) (rest.drop t.1.toNat) (fun x hx => h x (List.mem_cons_of_mem _ hx))
    have h2 := h t (List.mem_cons_self ..)
    rw [List.length_append, List.length_append, Fd.outL_length, List.length_take, List.length_drop] at h1
    show ((Fd.outB _ _ r).length : Int) ≤ _
    unfold sumM
    omega
theorem outB_lt : ∀ (ts : List Tri) (out rest : List Nat), (∀ j : Nat, out[j]?.getD 0 < 256) → (∀ j : Nat, rest[j]?.getD 0 < 256) → ∀ j : Nat, (Fd.outB out rest ts)[j]?.getD 0 < 256
  | [], out, rest, h1, h2 => h1
  | t :: r, out, rest, h1, h2 => by
    have h3 := lt_app h1 (lt_take h2 t.1.toNat)
    exact outB_lt r _ _ (lt_app h3 (Fd.lt_out h3 _ _)) (lt_drop h2 _)
theorem getD_left {A B : List Nat} {j : Nat} (h : j < A.length) : (A ++ B)[j]?.getD 0 = A[j]?.getD 0 := by rw [List.getElem?_append_left h]
/-- A copy stands there. -/
theorem copy_stands (M X : List Nat) (b m : Nat) (h1 : 1 ≤ b) (h2 : b ≤ M.length) : ∀ j, j < m → byteT (M ++ (Fd.outL M b m ++ X)) (M.length + j) = byteT (M ++ (Fd.outL M b m ++ X)) (M.length - b + j) := by
  intro j hj
  unfold byteT
  rw [← List.append_assoc]
  have e1 : ((M ++ Fd.outL M b m) ++ X)[M.length + j]?.getD 0 = M[M.length - b + j % b]?.getD 0 := by
    rw [getD_left (by rw [List.length_append, Fd.outL_length]; omega), List.getElem?_append_right (by omega), show M.length + j - M.length = j from by omega, Fd.outL_at M b m j hj]
  rw [e1, getD_left (by rw [List.length_append, Fd.outL_length]; omega)]
  by_cases hjb : j < b
  · rw [List.getElem?_append_left (by omega), Nat.mod_eq_of_lt hjb]
  · rw [List.getElem?_append_right (by omega), show M.length - b + j - M.length = j - b from by omega, Fd.outL_at M b m (j - b) (by omega), Nat.mod_eq_sub_mod (show j ≥ b by omega)]
theorem take_eq {T : List Nat} {i k m : Nat} (h1 : i + m ≤ T.length) (h2 : k + m ≤ T.length) (h : ∀ j, j < m → byteT T (i + j) = byteT T (k + j)) : (T.drop i).take m = (T.drop k).take m := by
  refine getD_ext (by rw [List.length_take, List.length_take, List.length_drop, List.length_drop]; omega) fun j hj => ?_
  rw [List.length_take, List.length_drop] at hj
  rw [List.getElem?_take, if_pos (by omega), List.getElem?_take, if_pos (by omega), List.getElem?_drop, List.getElem?_drop]
  exact h j (by omega)
/-- Steps that may be make what they make. -/
theorem made_out : ∀ (ts : List Tri) (out rest : List Nat), Fd.okB (rest.length : Int) (out.length : Int) ts = true → (∀ t ∈ ts, fitT t) → madeB (Fd.outB out rest ts) ts out.length = true
  | [], out, rest, _, _ => by simp [madeB, Fd.outB]
  | t :: r, out, rest, h, hf => by
    obtain ⟨l, m, b⟩ := t
    by_cases e : Fd.okT (rest.length : Int) (out.length : Int) (l, m, b)
    · rw [Fd.okB_go e] at h
      obtain ⟨f1, f2, f3, f4, f5, f6⟩ := e
      dsimp only at f1 f2 f3 f4 f5 f6 h
      obtain ⟨ln, rfl⟩ : ∃ ln : Nat, l = (ln : Int) := ⟨l.toNat, by omega⟩
      obtain ⟨mn, rfl⟩ : ∃ mn : Nat, m = (mn : Int) := ⟨m.toNat, by omega⟩
      obtain ⟨bn, rfl⟩ : ∃ bn : Nat, b = (bn : Int) := ⟨b.toNat, by omega⟩
      obtain ⟨M, hM⟩ : ∃ M, M = out ++ rest.take ln := ⟨_, rfl⟩
      have hMl : M.length = out.length + ln := by rw [hM, List.length_append, List.length_take]; omega
      have hO : Fd.outB out rest (((ln : Int), (mn : Int), (bn : Int)) :: r) = Fd.outB (M ++ Fd.outL M bn mn) (rest.drop ln) r := by
        rw [hM]
        show Fd.outB _ _ r = _
        dsimp only
        rw [Int.toNat_natCast, Int.toNat_natCast, Int.toNat_natCast]
      have hlen : (M ++ Fd.outL M bn mn).length = out.length + ln + mn := by rw [List.length_append, Fd.outL_length, hMl]
      have ih := made_out r (M ++ Fd.outL M bn mn) (rest.drop ln) (by
        rw [hlen, List.length_drop]
        have e1 : (((rest.length - ln : Nat)) : Int) = (rest.length : Int) - (ln : Int) := by omega
        have e2 : (((out.length + ln + mn : Nat)) : Int) = (out.length : Int) + (ln : Int) + (mn : Int) := by omega
        rw [e1, e2]
        exact h) (fun x hx => hf x (List.mem_cons_of_mem _ hx))
      obtain ⟨X, hX⟩ := outB_more r (M ++ Fd.outL M bn mn) (rest.drop ln)
      rw [hO]
      rw [hlen] at ih
      have hfit := hf ((ln : Int), (mn : Int), (bn : Int)) (List.mem_cons_self ..)
      unfold fitT at hfit
      dsimp only at hfit
      generalize hT : Fd.outB (M ++ Fd.outL M bn mn) (rest.drop ln) r = T at *
      have hTl : out.length + ln + mn ≤ T.length := by rw [hX, List.length_append, hlen]; omega
      show (okStep T out.length ((ln : Int), (mn : Int), (bn : Int)) && madeB T r (out.length + ((ln : Int)).toNat + ((mn : Int)).toNat)) = true
      rw [Int.toNat_natCast, Int.toNat_natCast, ih, Bool.and_true]
      unfold okStep
      simp only [Bool.and_eq_true, decide_eq_true_eq, Bool.or_eq_true, Bool.not_eq_true', decide_eq_false_iff_not, Int.toNat_natCast]
      refine ⟨by omega, by omega, by omega, by omega, ?_⟩
      by_cases hm0 : 0 < (mn : Int)
      · right
        refine ⟨by omega, by omega, ?_⟩
        obtain ⟨g1, g2⟩ := f6 hm0
        unfold standN
        simp only [Bool.and_eq_true, decide_eq_true_eq, Int.toNat_natCast]
        refine ⟨by omega, by omega, by omega, take_eq (by omega) (by omega) ?_⟩
        have hc := copy_stands M X bn mn (by omega) (by omega)
        rw [List.append_assoc] at hX
        rw [← hX, hMl] at hc
        exact hc
      · left; omega
    · rw [Fd.okB_no e] at h; cases h

end Go.Proofs.YtnokemcogjoonaaGreat

namespace Go.Proofs.YtnokemcogjoonaaGreat.Fd
open Go.RowKit Go.Shelf
set_option linter.unusedVariables false

/-- A row of bytes of one's own. -/
abbrev ownsU (w : World) (v : Value) (M : List Nat) : Prop := w.ownsRow 0 5 1 v M.length (u8s M)
/-- The block of a row: the old one, or a new one. -/
def NearU (w : World) (v v' : Value) : Prop := v'.ownBlock = v.ownBlock ∨ ∃ k, v'.ownBlock = some k ∧ w.heap.size ≤ k
theorem NearU.trans {w w1 : World} {a b c : Value} (h : NearU w a b) (k : NearU w1 b c) (hs : w.heap.size ≤ w1.heap.size) : NearU w a c := by
  rcases k with k | ⟨x, k1, k2⟩
  · rcases h with h | ⟨y, h1, h2⟩
    · exact .inl (k.trans h)
    · exact .inr ⟨y, k.trans h1, h2⟩
  · exact .inr ⟨x, k1, by omega⟩
theorem keep_near {w W W' : World} {v v1 : Value} (h : Keep (fun k => v.ownBlock = some k) w W) (hn : NearU w v v1) (k : Keep (fun k => v1.ownBlock = some k) W W') : Keep (fun k => v.ownBlock = some k) w W' :=
  h.trans k (fun i hi e => by
    rcases hn with q | ⟨y, q1, q2⟩
    · exact q ▸ e
    · rw [q1] at e
      have : y = i := by simpa using e
      omega)
/-- What again has come to. -/
structure Agn (w W : World) (v v1 : Value) (M : List Nat) (back n k : Nat) : Prop where
  own : ownsU W v1 (M ++ outL M back k)
  le : k ≤ n
  dv : k = n ∨ back ∣ k
  keep : Keep (fun k => v.ownBlock = some k) w W
  near : NearU w v v1

section
attribute [local go_sem] minSem_eq sliceSem_eq
set_option maxRecDepth 100000 in
set_option maxHeartbeats 2000000 in
theorem again_any (v : Value) (M : List Nat) (n back : Nat) (w : World) (h : ownsU w v M) (hM : ∀ j : Nat, M[j]?.getD 0 < 256) (hb : 0 < n → 1 ≤ back ∧ back ≤ M.length) (hl : M.length + n ≤ 1000000000) (hb2 : back < 9223372036854775808) :
    Calls Tryz.prog 14 #[v, .int .i64 (n : Int), .int .i64 (back : Int)] w fun e w' => (∃ v' : Value, e = .returned v' ∧ ownsU w' v' (M ++ outL M back n) ∧ NearU w v v') ∧ Keep (fun k => v.ownBlock = some k) w w' := by
  obtain ⟨va, vcap, vg, rfl, -, -⟩ := bytes_own h hM (by omega)
  obtain ⟨st, hst⟩ : ∃ st : Int, st = (M.length : Int) - (back : Int) := ⟨_, rfl⟩
  have hsub : (M.length : Int) - (back : Int) = st := hst.symm
  have hw0 : IntKind.i64.wrap st = st := by rw [IntKind.wrap_i64]; omega
  have HA := (show Hid (Agn w w (.slice va M.length vcap) (.slice va M.length vcap) M back n 0) from ⟨by rw [outL_zero, List.append_nil]; exact h, Nat.zero_le _, .inr (Nat.dvd_zero _), Keep.refl _ _, .inl rfl⟩)
  have HST := (show Hid (st = (M.length : Int) - (back : Int)) from hst)
  clear h hst
  go_enter Tryz.func14, Tryz.ntmps14
  go_wp2_with fail
  go_loopw [0, 1] (fun v0 v1 wr => ∃ k r : Nat, v1 = .int .i64 (r : Int) ∧ r + k = n ∧ Hid (Agn w wr (.slice va M.length vcap) v0 M back n k)) (fun _ v1 _ => (intOf v1).toNat)
  case atStart => exact ⟨0, n, rfl, by omega, HA.out⟩
  case round =>
    clear HA
    obtain ⟨k, r, rfl, hrk, HI⟩ := hrel
    by_cases h0 : 0 < r
    · have h0I : (0 : Int) < (r : Int) := by omega
      obtain ⟨hb1, hb3⟩ := hb (by omega)
      obtain ⟨s, hs⟩ : ∃ s : Nat, s = M.length - back := ⟨_, rfl⟩
      have hss : st = (s : Int) := by have := HST.out; omega
      have hml : (M ++ outL M back k).length = M.length + k := by rw [List.length_append, outL_length]
      have hlt : ∀ j : Nat, (M ++ outL M back k)[j]?.getD 0 < 256 := lt_app hM (lt_out hM _ _)
      obtain ⟨a1, c1, g1, rfl, hB, hrow⟩ := bytes_own HI.out.own hlt (by omega)
      have hsome : a1 = some ⟨g1, 0, none⟩ := by
        rcases hrow with ⟨_, e⟩ | ⟨e, _⟩
        · have : (M ++ outL M back k).length = 0 := by rw [e]; rfl
          omega
        · exact e
      subst hsome
      obtain ⟨ln, hln⟩ : ∃ ln, ln = (M ++ outL M back k).length := ⟨_, rfl⟩
      obtain ⟨d, hd⟩ : ∃ d : Nat, d = ln - s := ⟨_, rfl⟩
      have hsub2 : (ln : Int) - st = (d : Int) := by rw [hss]; omega
      have hsub3 : (ln : Int) - (s : Int) = (d : Int) := by omega
      obtain ⟨t, ht⟩ : ∃ t : Nat, t = min r d := ⟨_, rfl⟩
      have hmin := minSem_run #[3, 3] 3 (r : Int) (d : Int) (t : Int) (by omega)
      obtain ⟨e, he⟩ : ∃ e : Nat, e = s + t := ⟨_, rfl⟩
      have hadd : (s : Int) + (t : Int) = (e : Int) := by omega
      have hwe : IntKind.i64.wrap (e : Int) = (e : Int) := by rw [IntKind.wrap_i64]; omega
      have hcap := hB.cap
      have hmid := run_mid g1 0 ln c1 s e (by omega) (by omega)
      rw [show e - s = t from by omega, Nat.zero_add] at hmid
      have hsrc : SrcB wr (.slice (some ⟨g1, s, none⟩) t (c1 - s)) (((M ++ outL M back k).drop s).take t) := by
        have hlt2 : (((M ++ outL M back k).drop s).take t).length = t := by rw [List.length_take, List.length_drop]; omega
        refine .inr ⟨⟨g1, s, none⟩, c1 - s, by rw [hlt2], fun j u hu => ?_⟩
        have hj : j < t := by rw [← hlt2, ← u8s_length]; exact (List.getElem?_eq_some_iff.1 hu).1
        rw [addO, show s + j = 0 + (s + j) from by omega, hB.cells (s + j) (by omega)]
        rw [u8s_at _ j (by rw [hlt2]; exact hj), List.getElem?_take, if_pos hj, List.getElem?_drop] at hu
        exact hu
      obtain ⟨v3, W3, hr3, own3, k3, n3⟩ := run_append_all wr 22 _ (M ++ outL M back k) _ HI.out.own (by rw [hml, List.length_take, List.length_drop]; omega) _ hsrc
      have hgrow := outL_grow M back k t hb1 hb3 (by rcases HI.out.dv with q | q; · omega
                                                     · exact q) (by omega)
      obtain ⟨k2, hk2⟩ : ∃ k2, k2 = k + t := ⟨_, rfl⟩
      obtain ⟨r2, hr2⟩ : ∃ r2 : Nat, r2 = r - t := ⟨_, rfl⟩
      have hsub4 : (r : Int) - (t : Int) = (r2 : Int) := by omega
      have HN := (show Hid (Agn w W3 (.slice va M.length vcap) v3 M back n k2 ∧ r2 + k2 = n ∧ r2 < r) from by
        refine ⟨⟨?_, by omega, ?_, keep_near HI.out.keep HI.out.near k3, HI.out.near.trans (w1 := wr) n3 HI.out.keep.size⟩, by omega, by omega⟩
        · have : M ++ outL M back k ++ List.take t (List.drop s (M ++ outL M back k)) = M ++ outL M back k2 := by rw [hk2, hgrow, hs, List.append_assoc]
          unfold ownsU
          rw [← this]
          exact own3
        · by_cases q : t = r
          · left; omega
          · right
            have hdk : back ∣ k := by rcases HI.out.dv with q | q; · omega
                                      · exact q
            rw [hk2, show k + t = k + k + back from by omega]
            exact Nat.dvd_add (Nat.dvd_add hdk hdk) (Nat.dvd_refl _))
      have bd : (d : Int) ≤ 1000000000 := by omega
      have bd' : d ≤ 1000000000 := by omega
      have be : (e : Int) ≤ 1000000000 := by omega
      have be' : e ≤ 1000000000 := by omega
      have br : (r2 : Int) ≤ 1000000000 := by omega
      have br' : r2 ≤ 1000000000 := by omega
      rw [← hln] at hr3 ⊢
      rw [hss] at *
      clear HI hB hrow hlt hml own3 k3 n3 hgrow hsrc hs hd ht he hk2 hr2 hcap hln HST
      go_wp2_with (at_builtin; refine wpList_append_run _ rfl _ _ 22 rfl (.slice (some ⟨g1, 0, none⟩) ln c1) (.slice (some ⟨g1, s, none⟩) t (c1 - s)) v3 W3 rfl rfl hr3 ?_)
      go_roundw
      case rel => exact ⟨k2, r2, rfl, HN.out.2.1, HN.out.1⟩
      case measure => have := HN.out.2.2; simp [intOf]; omega
    · have h0I : ¬ (0 : Int) < (r : Int) := by omega
      have hk : k = n := by omega
      subst hk
      have HF := (show Hid (ownsU wr u0 (M ++ outL M back k) ∧ NearU w (.slice va M.length vcap) u0 ∧ Keep (fun k => (Value.slice va M.length vcap).ownBlock = some k) w wr) from ⟨HI.out.own, HI.out.near, HI.out.keep⟩)
      clear HI
      go_wp2_with fail
      go_ret
      exact ⟨⟨u0, rfl, HF.out.1, HF.out.2.1⟩, HF.out.2.2⟩
end
end Go.Proofs.YtnokemcogjoonaaGreat.Fd

namespace Go.Proofs.YtnokemcogjoonaaGreat.Fd
open Go.RowKit Go.Shelf
set_option linter.unusedVariables false

/-- What Back has come to. -/
structure BakS (w W : World) (bs : List Nat) (ts : List Tri) (F i : Nat) (v : Value) (a : Option Addr) (cap gb off : Nat) (out rest : List Nat) : Prop where
  own : ownsU W v out
  new : ∀ g, v.ownBlock = some g → w.heap.size ≤ g
  lt : ∀ j : Nat, out[j]?.getD 0 < 256
  row : Bytes w a cap gb off rest
  ok : okB rest.length out.length (ts.drop i) = true
  same : outB out rest (ts.drop i) = outB (bs.take F) (bs.drop F) ts
  keep : Keep noBlock w W
theorem keep_new {w W W' : World} {v : Value} (h : Keep noBlock w W) (hn : ∀ g, v.ownBlock = some g → w.heap.size ≤ g) (k : Keep (fun k => v.ownBlock = some k) W W') : Keep noBlock w W' :=
  h.trans k (fun i hi e => by have := hn i e; omega)
theorem new_near {w W : World} {v v' : Value} (hk : w.heap.size ≤ W.heap.size) (hn : ∀ g, v.ownBlock = some g → w.heap.size ≤ g) (k : NearU W v v') : ∀ g, v'.ownBlock = some g → w.heap.size ≤ g := fun g hg => by
  rcases k with e | ⟨x, e1, e2⟩
  · exact hn g (by rw [← e]; exact hg)
  · rw [e1] at hg
    have : x = g := by simpa using hg
    omega

set_option maxRecDepth 100000 in
set_option maxHeartbeats 1000000 in
theorem back_arg (a : Option Addr) (n cap : Nat) (from_ : Int) (l : Value) (la : Option Addr) (ln lc : Nat) (hl : l = .slice la ln lc) (w : World) (h : from_ < 0 ∨ (n : Int) < from_) :
    Calls Tryz.prog 7 #[.slice a n cap, .int .i64 from_, l] w fun e w' => e = .returned (.tuple #[.slice none 0 0, .int .i64 2]) ∧ w' = w := by
  subst hl
  by_cases h0 : from_ < 0
  · have h0' : decide (from_ < 0) = true := decide_eq_true h0
    go_enter Tryz.func7, Tryz.ntmps7
    go_wp2_with fail
    go_ret2
    exact ⟨rfl, rfl⟩
  · have h0' : decide (from_ < 0) = false := decide_eq_false h0
    have h1 : (n : Int) < from_ := by omega
    have h1' : decide ((n : Int) < from_) = true := decide_eq_true h1
    go_enter Tryz.func7, Tryz.ntmps7
    go_wp2_with fail
    go_ret2
    exact ⟨rfl, rfl⟩

section
attribute [local go_sem] sliceSem_eq
set_option maxRecDepth 100000 in
set_option maxHeartbeats 2000000 in
theorem back_bad (a : Option Addr) (cap n F : Nat) (la : Option Addr) (lcap lg loff : Nat) (ts : List Tri) (w : World) (hF : F ≤ n) (hQ : RowQ w la lcap lg loff ts) (hn : n < 140737488355328) (hT : ts.length < 140737488355328) (hok : okB ((n - F : Nat) : Int) F ts = false) :
    Calls Tryz.prog 7 #[.slice a n cap, .int .i64 (F : Int), .slice la ts.length lcap] w fun e w' => e = .returned (.tuple #[.slice none 0 0, .int .i64 11]) ∧ Keep noBlock w w' := by
  obtain ⟨r, hr⟩ : ∃ r, r = n - F := ⟨_, rfl⟩
  rw [← hr] at hok
  have HS := size_any la lcap lg loff ts r F w hQ (by omega) hT
  rw [hok] at HS
  have hsub : (n : Int) - (F : Int) = (r : Int) := by omega
  have h0 : ¬ (F : Int) < 0 := by omega
  have h0' : decide ((F : Int) < 0) = false := decide_eq_false h0
  have h1 : ¬ (n : Int) < (F : Int) := by omega
  have h1' : decide (n < F) = false := decide_eq_false (by omega)
  clear hQ hr
  generalize ts.length = tl at *
  go_enter Tryz.func7, Tryz.ntmps7
  go_wp2_with fail
  refine HS.mono ?_
  rintro e w1 ⟨⟨x, rfl, -⟩, k1⟩
  clear HS
  go_wp2_with fail
  go_ret2
  exact ⟨rfl, k1⟩
set_option maxRecDepth 100000 in
set_option maxHeartbeats 4000000 in
theorem back_ok (a : Option Addr) (cap gb off F : Nat) (bs : List Nat) (la : Option Addr) (lcap lg loff : Nat) (ts : List Tri) (w : World) (hF : F ≤ bs.length) (hB : Bytes w a cap gb off bs) (hQ : RowQ w la lcap lg loff ts) (hn : bs.length < 65537) (hT : ts.length < 140737488355328) (hok : okB ((bs.length - F : Nat) : Int) F ts = true) :
    Calls Tryz.prog 7 #[.slice a bs.length cap, .int .i64 (F : Int), .slice la ts.length lcap] w fun e w' => (∃ v : Value, e = .returned (.tuple #[v, .int .i64 0]) ∧ ownsU w' v (outB (bs.take F) (bs.drop F) ts) ∧ (∀ g, v.ownBlock = some g → w.heap.size ≤ g)) ∧ Keep noBlock w w' := by
  obtain ⟨r, hr⟩ : ∃ r, r = bs.length - F := ⟨_, rfl⟩
  rw [← hr] at hok
  have HS := size_any la lcap lg loff ts r F w hQ (by omega) hT
  rw [hok] at HS
  obtain ⟨z, hz⟩ : ∃ z : Nat, sizeB F ts = (z : Int) := ⟨(sizeB F ts).toNat, by have := sizeB_le hok (by omega); omega⟩
  have hz2 : z ≤ 16777216 := by have := (sizeB_le hok (by omega)).2; omega
  have hsub : (bs.length : Int) - (F : Int) = (r : Int) := by omega
  have h0 : ¬ (F : Int) < 0 := by omega
  have h0' : decide ((F : Int) < 0) = false := decide_eq_false h0
  have h1 : ¬ (bs.length : Int) < (F : Int) := by omega
  have h1' : decide (bs.length < F) = false := decide_eq_false (by omega)
  have HQ := (show Hid (RowQ w la lcap lg loff ts) from hQ)
  have HB := (show Hid (Bytes w a cap gb off bs) from hB)
  obtain ⟨htk, hBt⟩ := hB.take F hF
  obtain ⟨a2, off2, hdk, hBd, -⟩ := hB.drop F hF
  have hlt : (bs.take F).length = F := by rw [List.length_take]; omega
  have hld : (bs.drop F).length = r := by rw [List.length_drop]; omega
  rw [hlt] at htk
  have HB0 := (show Hid (Bytes w a cap gb off (bs.take F) ∧ Bytes w a2 (cap - F) gb off2 (bs.drop F)) from ⟨hBt, hBd⟩)
  have HX := (show Hid (okB (r : Int) F ts = true ∧ (bs.take F).length = F ∧ (bs.drop F).length = r) from ⟨hok, hlt, hld⟩)
  rw [hld] at hdk
  clear hQ hB hr hok hBt hBd hlt hld
  obtain ⟨bl, hbl⟩ : ∃ bl, bl = bs.length := ⟨_, rfl⟩
  obtain ⟨tl, htl⟩ : ∃ tl, tl = ts.length := ⟨_, rfl⟩
  rw [← hbl] at hsub h1 h1' htk hdk hF hn ⊢
  rw [← htl] at HS hT ⊢
  have HTL := (show Hid (tl = ts.length) from htl)
  clear hbl htl
  generalize cap - F = cap2 at *
  go_enter Tryz.func7, Tryz.ntmps7
  go_wp2_with fail
  refine HS.mono ?_
  rintro e w1 ⟨⟨x, rfl, hx⟩, k1⟩
  obtain rfl : x = (z : Int) := (hx trivial).trans hz
  clear HS hx hz
  have hmk := run_make_u8 0 z (Nat.zero_le _) (by omega)
  obtain ⟨W2, hW2⟩ : ∃ W2, W2 = (w1.alloc (.cells (u8s (List.replicate z 0)).toArray 5)).drew := ⟨_, rfl⟩
  have k2 : Keep noBlock w W2 := by rw [hW2]; exact (k1.alloc _).drew
  have o2 : ownsU W2 (.slice (some ⟨w1.heap.size, 0, none⟩) 0 z) [] := by
    have hg : W2.heap[w1.heap.size]? = some (.cells (u8s (List.replicate z 0)).toArray 5 (0, 0)) := by rw [hW2]; exact alloc_new w1 _
    exact owns_mk hg (Nat.zero_le _) (by unfold maxLen; omega) (by simp [u8s]) rfl
  have hsrc := (HB0.out.1.keep k2 (fun _ h => h)).src
  rw [HX.out.2.1] at hsrc
  obtain ⟨v3, W3, hr3, own3, k3, n3⟩ := run_append_all W2 22 _ [] (bs.take F) o2 (by rw [HX.out.2.1]; simp; omega) _ hsrc
  have hnew : ∀ g, (Value.slice (some ⟨w1.heap.size, 0, none⟩) 0 z).ownBlock = some g → w.heap.size ≤ g := fun g hg => by
    have : w1.heap.size = g := by simpa [Value.ownBlock] using hg
    have := k1.size
    omega
  have HI0 := (show Hid (BakS w W3 bs ts F 0 v3 a2 cap2 gb off2 (bs.take F) (bs.drop F)) from
    ⟨by have := own3; rwa [List.nil_append] at this, new_near k2.size hnew n3, lt_take HB.out.lt F, HB0.out.2, by rw [HX.out.2.1, HX.out.2.2]; exact HX.out.1, rfl, keep_new k2 hnew k3⟩)
  have hmk1 : (Instr.makeSlice 22 (.int .i64 0) (.int .i64 (z : Int))).run Tryz.prog w1.drew = .ok (.slice (some ⟨w1.heap.size, 0, none⟩) 0 z) (w1.alloc (.cells (u8s (List.replicate z 0)).toArray 5)).drew := hmk w1.drew
  clear hmk
  clear o2 hsrc own3 k3 n3 hnew k2
  go_wp2_with fail
  rw [hW2] at hr3
  clear hW2
  go_region_law (refine step_append_run _ (by rfl) _ _ 22 (by rfl) (.slice (some ⟨w1.heap.size, 0, none⟩) 0 z) (.slice a F cap) v3 W3 (by rfl) (by rfl) hr3 ?_)
  clear hr3 hmk1
  go_wp2_with fail
  go_loopw [10, 11, 45] (fun v10 v11 v45 wr => ∃ (i : Nat) (a' : Option Addr) (cap' off' rl : Nat) (out rest : List Nat), v11 = .slice a' rl cap' ∧ v45 = .int .i64 (i : Int) ∧ i ≤ tl ∧ rl = rest.length ∧ Hid (BakS w wr bs ts F i v10 a' cap' gb off' out rest)) (fun _ _ v45 _ => tl - (intOf v45).toNat)
  case atStart => exact ⟨0, a2, cap2, off2, r, bs.take F, bs.drop F, rfl, rfl, Nat.zero_le _, HX.out.2.2.symm, HI0.out⟩
  case round =>
    clear HI0
    obtain ⟨i, a', cap', off', rl, out, rest, rfl, rfl, hi, hrl, HI⟩ := hrel
    have HRL := (show Hid (rl = rest.length) from hrl)
    clear hrl
    have htl := HTL.out
    by_cases hlt : i < tl
    · have hltI : (i : Int) < (tl : Int) := by omega
      have hlt2 : i < ts.length := by omega
      obtain ⟨e1, e2, e3⟩ := (HQ.out.keep HI.out.keep (fun _ h => h)).cells i hlt2
      obtain rfl := HQ.out.here hlt2
      have hdr := drop_cons hlt2
      obtain ⟨⟨l, m, b⟩, ht⟩ : ∃ t : Tri, ts[i]?.getD (0, 0, 0) = t := ⟨_, rfl⟩
      rw [ht] at e1 e2 e3 hdr
      have ht0 := ht
      clear ht
      have hokt : okT rest.length out.length (l, m, b) := by
        by_cases q : okT rest.length out.length (l, m, b)
        · exact q
        · have := HI.out.ok
          rw [hdr, okB_no q] at this
          cases this
      have hok2 := HI.out.ok
      rw [hdr, okB_go hokt] at hok2
      have hout2 := HI.out.same
      rw [hdr] at hout2
      obtain ⟨q1, q2, q3, q4, q5, q6⟩ : 0 ≤ l ∧ 0 ≤ m ∧ 0 ≤ b ∧ l ≤ rest.length ∧ m ≤ 16777216 - (out.length + l) ∧ (0 < m → b ≠ 0 ∧ b ≤ out.length + l) := hokt
      obtain ⟨ln, rfl⟩ := Int.eq_ofNat_of_zero_le q1
      obtain ⟨mn, rfl⟩ := Int.eq_ofNat_of_zero_le q2
      obtain ⟨bn, rfl⟩ := Int.eq_ofNat_of_zero_le q3
      have hb63 : bn < 9223372036854775808 := by have := HQ.out.b63 i; rw [ht0] at this; have h2 : (bn : Int) < 9223372036854775808 := this; omega
      have hln : ln ≤ rest.length := by omega
      obtain ⟨ht1, hB1⟩ := HI.out.row.take ln hln
      obtain ⟨a4, off4, hd1, hB2, -⟩ := HI.out.row.drop ln hln
      have hl1 : (rest.take ln).length = ln := by rw [List.length_take]; omega
      rw [hl1] at ht1
      obtain ⟨rl2, hrl2⟩ : ∃ rl2, rl2 = (rest.drop ln).length := ⟨_, rfl⟩
      rw [← hrl2] at hd1
      rw [← HRL.out] at ht1 hd1
      have hsrc := (hB1.keep (HI.out.keep.alloc (.cells #[.int .i64 (ln : Int), .int .i64 (mn : Int), .int .i64 (bn : Int)] 26)) (fun _ h => h)).src
      rw [hl1] at hsrc
      have kA : Keep noBlock wr (wr.alloc (.cells #[.int .i64 (ln : Int), .int .i64 (mn : Int), .int .i64 (bn : Int)] 26)) := (Keep.refl noBlock wr).alloc _
      have oA : ownsU (wr.alloc (.cells #[.int .i64 (ln : Int), .int .i64 (mn : Int), .int .i64 (bn : Int)] 26)) u10 out := owns_kept HI.out.own kA (fun _ _ h => h)
      obtain ⟨v4, W4, hr4, own4, k4, n4⟩ := run_append_all _ 22 u10 out (rest.take ln) oA (by rw [hl1]; omega) _ hsrc
      have x4 := k4.obj (alloc_new wr (.cells #[.int .i64 (ln : Int), .int .i64 (mn : Int), .int .i64 (bn : Int)] 26)) (owns_ne oA (alloc_new wr (.cells #[.int .i64 (ln : Int), .int .i64 (mn : Int), .int .i64 (bn : Int)] 26)) (by decide))
      have y0 : W4.cell? ⟨wr.heap.size, 0, none⟩ = some (.int .i64 (ln : Int)) := cell_of x4 0
      have y1 : W4.cell? ⟨wr.heap.size, 1, none⟩ = some (.int .i64 (mn : Int)) := cell_of x4 1
      have y2 : W4.cell? ⟨wr.heap.size, 2, none⟩ = some (.int .i64 (bn : Int)) := cell_of x4 2
      have kA4 : Keep noBlock w W4 := keep_new (HI.out.keep.trans' kA) HI.out.new k4
      have new4 : ∀ g, v4.ownBlock = some g → w.heap.size ≤ g := new_near (HI.out.keep.trans' kA).size HI.out.new n4
      have lt4 : ∀ j : Nat, (out ++ rest.take ln)[j]?.getD 0 < 256 := lt_app HI.out.lt (lt_take HI.out.row.lt ln)
      have hl4 : (out ++ rest.take ln).length = out.length + ln := by rw [List.length_append, hl1]
      have HAG := again_any v4 (out ++ rest.take ln) mn bn W4 own4 lt4 (fun h => by rw [hl4]; have := q6 (by omega); omega) (by rw [hl4]; omega) hb63
      have HNX := (show Hid (∀ v5 W5, ownsU W5 v5 (out ++ rest.take ln ++ outL (out ++ rest.take ln) bn mn) → NearU W4 v4 v5 → Keep (fun k => v4.ownBlock = some k) W4 W5 → BakS w W5 bs ts F (i + 1) v5 a4 (cap' - ln) gb off4 (out ++ rest.take ln ++ outL (out ++ rest.take ln) bn mn) (rest.drop ln)) from fun v5 W5 o5 n5 k5 => by
        have kk := keep_new kA4 new4 k5
        refine ⟨o5, new_near kA4.size new4 n5, lt_app lt4 (lt_out lt4 _ _), ?_, ?_, ?_, kk⟩
        · exact hB2
        · rw [List.length_drop, List.length_append, outL_length, hl4]
          have e1 : ((rest.length - ln : Nat) : Int) = (rest.length : Int) - (ln : Int) := by omega
          have e2 : ((out.length + ln + mn : Nat) : Int) = (out.length : Int) + (ln : Int) + (mn : Int) := by omega
          rw [e1, e2]
          exact hok2
        · exact hout2)
      obtain ⟨i1, hi1⟩ : ∃ i1, i1 = i + 1 := ⟨_, rfl⟩
      have hadd : (i : Int) + 1 = (i1 : Int) := by omega
      rw [← hi1] at HNX
      have HI1 := (show Hid (i1 = i + 1 ∧ rl2 = (rest.drop ln).length) from ⟨hi1, hrl2⟩)
      clear x4 hdr ht0 hok2 hout2 q1 q2 q3 q4 q5 q6 hB1 hB2 hsrc kA oA own4 k4 n4 kA4 new4 lt4 hl4 hl1 hi1 hrl2 HI hln htl
      generalize cap' - ln = cap3 at *
      go_wp2_with (at_builtin; refine wpList_append_run _ rfl _ _ 22 rfl u10 (.slice a' ln cap') v4 W4 rfl rfl hr4 ?_)
      refine HAG.mono ?_
      rintro e W5 ⟨⟨v5, rfl, o5, n5⟩, k5⟩
      have HN := (show Hid (BakS w W5 bs ts F i1 v5 a4 cap3 gb off4 _ _) from HNX.out v5 W5 o5 n5 k5)
      clear HAG HNX o5 n5 k5 hr4
      go_wp2_with fail
      go_roundw
      case rel => exact ⟨i1, a4, cap3, off4, rl2, _, _, rfl, rfl, by have := HI1.out.1; omega, HI1.out.2, HN.out⟩
      case measure => have := HI1.out.1; simp [intOf]; omega
    · have hltI : ¬ (i : Int) < (tl : Int) := by omega
      have HF := (show Hid (ownsU wr u10 (outB (bs.take F) (bs.drop F) ts) ∧ (∀ g, u10.ownBlock = some g → w.heap.size ≤ g) ∧ Keep noBlock w wr) from by
        have hs := HI.out.same
        rw [List.drop_eq_nil_of_le (by omega)] at hs
        have hs : out = outB (bs.take F) (bs.drop F) ts := hs
        rw [← hs]
        exact ⟨HI.out.own, HI.out.new, HI.out.keep⟩)
      clear HI
      go_wp2_with fail
      go_ret2
      exact ⟨⟨u10, rfl, HF.out.1, HF.out.2.1⟩, HF.out.2.2⟩
end
end Go.Proofs.YtnokemcogjoonaaGreat.Fd

namespace Go.Proofs.YtnokemcogjoonaaGreat.Pt
open Go.RowKit Go.Shelf
set_option linter.unusedVariables false

theorem bytes_fd {w : World} {a : Option Addr} {cap gb off : Nat} {bs : List Nat} (h : Bytes w a cap gb off bs) : Fd.Bytes w a cap gb off bs := ⟨h.at_, h.nil, h.cells, h.lt, h.cap, h.len⟩
theorem sumM_snoc : ∀ (A : List Tri) (t : Tri), sumM (A ++ [t]) = sumM A + t.2.1
  | [], t => by simp [sumM]
  | x :: A, t => by
    show x.2.1 + sumM (A ++ [t]) = x.2.1 + sumM A + t.2.1
    rw [sumM_snoc A t]; omega
theorem take_next {ts : List Tri} {j : Nat} (h : j < ts.length) : ts.take (j + 1) = ts.take j ++ [ts[j]?.getD (0, 0, 0)] := by
  rw [List.take_succ_eq_append_getElem h, List.getElem?_eq_getElem h]; rfl
theorem fit_pos {t : Tri} (h : fitT t) : 0 ≤ t.2.1 := by unfold fitT at h; omega
/-- What the loop over steps has found. -/
structure Lps (w wr : World) (ts : List Tri) (j : Nat) (n : Int) : Prop where
  same : wr = w
  sum : n = sumM (ts.take j)
  fit : ∀ t ∈ ts.take j, fitT t
  lo : 0 ≤ n
  hi : n ≤ 273 * j
theorem Lps.next {w wr : World} {ts : List Tri} {j : Nat} {n l m b : Int} (h : Lps w wr ts j n) (hj : j < ts.length) (ht : ts[j]?.getD (0, 0, 0) = (l, m, b)) (h0 : ¬ m < 0) (h1 : ¬ m = 1) (h2 : ¬ 273 < m) : Lps w wr ts (j + 1) (n + m) := by
  refine ⟨h.same, ?_, ?_, ?_, ?_⟩
  · rw [take_next hj, sumM_snoc, ht, h.sum]
  · intro t hh
    rw [take_next hj, ht, List.mem_append] at hh
    rcases hh with hh | hh
    · exact h.fit t hh
    · have : t = (l, m, b) := by simpa using hh
      rw [this]; unfold fitT; show m = 0 ∨ (2 ≤ m ∧ m ≤ 273); omega
  · have := h.lo; omega
  · have := h.hi; omega
/-- A text and its steps, and where they lie. -/
structure Mk (w W : World) (T : List Nat) (ts : List Tri) (ta : Option Addr) (tc tg : Nat) (la : Option Addr) (lc lg lo : Nat) : Prop where
  bt : Bytes W ta tc tg 0 T
  rq : Fd.RowQ W la lc lg lo ts
  kp : Keep noBlock w W
theorem Mk.keep {w W W' : World} {T : List Nat} {ts : List Tri} {ta : Option Addr} {tc tg : Nat} {la : Option Addr} {lc lg lo : Nat} (h : Mk w W T ts ta tc tg la lc lg lo) (k : Keep noBlock W W') : Mk w W' T ts ta tc tg la lc lg lo := ⟨h.bt.keep k (fun _ h => h), h.rq.keep k (fun _ h => h), h.kp.trans' k⟩
set_option maxRecDepth 20000 in
set_option maxHeartbeats 4000000 in
theorem stp_law (a : Option Addr) (cap gb off : Nat) (bs : List Nat) (la : Option Addr) (lc lg lo : Nat) (ts : List Tri) (total : Int) (w : World) (hB : Bytes w a cap gb off bs) (hQ : Fd.RowQ w la lc lg lo ts) :
    Calls Tryz.prog 3 #[.slice a bs.length cap, .slice la ts.length lc, .int .i64 total] w fun e w' => e = .returned (.bool true) ∧ Keep noBlock w w' := by
  have HW := hid wakes_any
  by_cases g1 : 4096 < bs.length
  · have g1' : decide (4096 < bs.length) = true := decide_eq_true g1
    have g1I : decide (4096 < (bs.length : Int)) = true := decide_eq_true (by omega)
    clear hB hQ g1
    generalize bs.length = bl at *
    generalize ts.length = tl at *
    go_enter Tryz.func3, Tryz.ntmps3
    go_wp2_with fail
    refine (HW.out _).mono ?_
    rintro e w1 ⟨rfl, k1⟩
    have HK := hid k1
    clear k1 HW
    go_wp2_with fail
    go_ret
    exact ⟨rfl, HK.out⟩
  have g1' : decide (4096 < bs.length) = false := decide_eq_false g1
  have g1I : decide (4096 < (bs.length : Int)) = false := decide_eq_false (by omega)
  by_cases g2 : 300 < ts.length
  · have g2' : decide (300 < ts.length) = true := decide_eq_true g2
    have g2I : decide (300 < (ts.length : Int)) = true := decide_eq_true (by omega)
    clear hB hQ g1 g2
    generalize bs.length = bl at *
    generalize ts.length = tl at *
    go_enter Tryz.func3, Tryz.ntmps3
    go_wp2_with fail
    refine (HW.out _).mono ?_
    rintro e w1 ⟨rfl, k1⟩
    have HK := hid k1
    clear k1 HW
    go_wp2_with fail
    go_ret
    exact ⟨rfl, HK.out⟩
  have g2' : decide (300 < ts.length) = false := decide_eq_false g2
  have g2I : decide (300 < (ts.length : Int)) = false := decide_eq_false (by omega)
  by_cases g3 : total < 0
  · have g3' : decide (total < 0) = true := decide_eq_true g3
    clear hB hQ g1 g2 g3
    generalize bs.length = bl at *
    generalize ts.length = tl at *
    go_enter Tryz.func3, Tryz.ntmps3
    go_wp2_with fail
    refine (HW.out _).mono ?_
    rintro e w1 ⟨rfl, k1⟩
    have HK := hid k1
    clear k1 HW
    go_wp2_with fail
    go_ret
    exact ⟨rfl, HK.out⟩
  have g3' : decide (total < 0) = false := decide_eq_false g3
  by_cases g4 : 1099511627776 < total
  · have g4' : decide (1099511627776 < total) = true := decide_eq_true g4
    clear hB hQ g1 g2 g3 g4
    generalize bs.length = bl at *
    generalize ts.length = tl at *
    go_enter Tryz.func3, Tryz.ntmps3
    go_wp2_with fail
    refine (HW.out _).mono ?_
    rintro e w1 ⟨rfl, k1⟩
    have HK := hid k1
    clear k1 HW
    go_wp2_with fail
    go_ret
    exact ⟨rfl, HK.out⟩
  have g4' : decide (1099511627776 < total) = false := decide_eq_false g4
  have H3 := hid (new_good 3 0 2 (by omega) (by omega))
  rw [show (((3 : Nat)) : Int) = (3 : Int) from rfl, show (((0 : Nat)) : Int) = (0 : Int) from rfl, show (((2 : Nat)) : Int) = (2 : Int) from rfl] at H3
  have HPV := hid (propsV_any 3 0 2 (by omega) (by omega) (by omega))
  rw [show (((3 : Nat)) : Int) = (3 : Int) from rfl, show (((0 : Nat)) : Int) = (0 : Int) from rfl, show (((2 : Nat)) : Int) = (2 : Int) from rfl] at HPV
  have HBad := hid (fun (hok : Fd.okB ((bs.length - 0 : Nat) : Int) ((0 : Nat) : Int) ts = false) => Fd.back_bad a cap bs.length 0 la lc lg lo ts w (Nat.zero_le _) hQ (by omega) (by omega) hok)
  have HGood := hid (fun (hok : Fd.okB ((bs.length - 0 : Nat) : Int) ((0 : Nat) : Int) ts = true) => Fd.back_ok a cap gb off 0 bs la lc lg lo ts w (Nat.zero_le _) (bytes_fd hB) hQ (by omega) (by omega) hok)
  rw [show (((0 : Nat)) : Int) = (0 : Int) from rfl] at HBad HGood
  rw [show bs.take 0 = [] from rfl, show bs.drop 0 = bs from rfl] at HGood
  have HIn := hid (And.intro hQ (And.intro hB.lt (And.intro (show bs.length ≤ 4096 by omega) (show ts.length ≤ 300 by omega))))
  have ht0 : 0 ≤ total := by omega
  have ht1 : total ≤ 1099511627776 := by omega
  clear hB hQ g1 g2 g3 g4
  obtain ⟨bl, hbl⟩ : ∃ bl, bl = bs.length := ⟨_, rfl⟩
  rw [← hbl] at g1' g1I HBad HGood ⊢
  have HBL := hid hbl
  clear hbl
  go_enter Tryz.func3, Tryz.ntmps3
  go_wp2_with fail
  go_loopw [7, 8] (fun t7 t8 wr => ∃ (j : Nat) (n : Int), t8 = .int .i64 (j : Int) ∧ t7 = .int .i64 n ∧ j ≤ ts.length ∧ Hid (Lps w wr ts j n)) (fun _ t8 _ => ts.length - (intOf t8).toNat)
  case atStart => exact ⟨0, 0, rfl, rfl, Nat.zero_le _, ⟨rfl, rfl, (fun t ht => by simp at ht), by omega, by omega⟩⟩
  case round =>
    obtain ⟨j, n, rfl, rfl, hj, HL⟩ := hrel
    have hts := HIn.out.2.2.2
    by_cases hlt : j < ts.length
    · have hltI : (j : Int) < (ts.length : Int) := by omega
      obtain ⟨e1, e2, e3⟩ := HIn.out.1.cells j hlt
      have hla := HIn.out.1.here hlt
      obtain ⟨⟨l, m, b⟩, ht⟩ : ∃ t : Tri, ts[j]?.getD (0, 0, 0) = t := ⟨_, rfl⟩
      rw [ht] at e1 e2 e3
      have HT := hid ht
      have hsame := HL.out.same
      rw [← hsame] at e2
      have hnl := HL.out.lo
      have hnh := HL.out.hi
      rw [hla]
      clear e1 e3 ht hsame
      by_cases q1 : m < 0
      · have q1' : decide (m < 0) = true := decide_eq_true q1
        go_wp2_with fail
        refine (HW.out _).mono ?_
        rintro e w1 ⟨rfl, k1⟩
        have HK := hid (show Keep noBlock w w1 from by rw [← HL.out.same]; exact k1)
        clear k1 HW
        go_wp2_with fail
        go_ret
        exact ⟨rfl, HK.out⟩
      have q1' : decide (m < 0) = false := decide_eq_false q1
      by_cases q2 : m = 1
      · have q2' : (m == 1) = true := by simp [q2]
        subst q2
        go_wp2_with fail
        refine (HW.out _).mono ?_
        rintro e w1 ⟨rfl, k1⟩
        have HK := hid (show Keep noBlock w w1 from by rw [← HL.out.same]; exact k1)
        clear k1 HW
        go_wp2_with fail
        go_ret
        exact ⟨rfl, HK.out⟩
      have q2' : (m == 1) = false := beq_eq_false_iff_ne.2 q2
      by_cases q3 : 273 < m
      · have q3' : decide (273 < m) = true := decide_eq_true q3
        go_wp2_with fail
        refine (HW.out _).mono ?_
        rintro e w1 ⟨rfl, k1⟩
        have HK := hid (show Keep noBlock w w1 from by rw [← HL.out.same]; exact k1)
        clear k1 HW
        go_wp2_with fail
        go_ret
        exact ⟨rfl, HK.out⟩
      have q3' : decide (273 < m) = false := decide_eq_false q3
      have HN := hid (HL.out.next hlt HT.out q1 q2 q3)
      have hnw : IntKind.i64.wrap (n + m) = n + m := by rw [IntKind.wrap_i64]; omega
      clear HL
      go_wp2_with fail
      go_roundw
      case rel => exact ⟨j + 1, n + m, by go_num, by go_num, by omega, HN⟩
      case measure => simp [intOf]; omega
    · have hltI : ¬ (j : Int) < (ts.length : Int) := by omega
      have hw := HL.out.same
      subst hw
      have hsum := HL.out.sum
      have hfit := HL.out.fit
      have hlo := HL.out.lo
      have hhi := HL.out.hi
      rw [List.take_of_length_le (by omega)] at hsum hfit
      have HFit := hid hfit
      have HSum := hid hsum
      clear HL hsum hfit
      cases hok : Fd.okB ((bl - 0 : Nat) : Int) 0 ts with
      | false =>
        have HC := hid (HBad.out hok)
        clear hok HBad HGood
        go_wp2_with fail
        refine HC.out.mono ?_
        rintro e w1 ⟨rfl, k1⟩
        have HK1 := hid k1
        clear k1 HC
        go_wp2_with fail
        refine (HW.out _).mono ?_
        rintro e w2 ⟨rfl, k2⟩
        have HK := hid (HK1.out.trans' k2)
        clear k2 HW HK1
        go_wp2_with fail
        go_ret
        exact ⟨rfl, HK.out⟩
      | true =>
        have HC := hid (HGood.out hok)
        obtain ⟨T, hT⟩ : ∃ T, T = Fd.outB [] bs ts := ⟨_, rfl⟩
        rw [← hT] at HC
        obtain ⟨i1, i2, i3, i4⟩ := HIn.out
        have hmade : madeB T ts 0 = true := by
          have := made_out ts [] bs (by
            have h1 := hok
            rw [Nat.sub_zero, HBL.out] at h1
            exact h1) HFit.out
          rw [hT]; exact this
        have hTlt : ∀ j : Nat, T[j]?.getD 0 < 256 := by rw [hT]; exact outB_lt ts [] bs (fun j => by simp) i2
        have hTlen : (T.length : Int) ≤ 4096 + n := by
          have h1 := outB_len ts [] bs (fun t ht => fit_pos (HFit.out t ht))
          rw [← hT, ← HSum.out] at h1
          have h2 : (([] : List Nat).length : Int) = 0 := rfl
          omega
        have HTf := hid (And.intro hmade (And.intro hTlt (And.intro hTlen i1)))
        clear hok HBad HGood hT hmade hTlt hTlen i1 i2 i3 i4 HFit HSum HIn
        obtain ⟨Tl, hTl⟩ : ∃ Tl, Tl = T.length := ⟨_, rfl⟩
        have HTL := hid hTl
        clear hTl
        go_wp2_with fail
        refine HC.out.mono ?_
        rintro e w1 ⟨⟨v, rfl, own1, hnew⟩, k1⟩
        obtain ⟨f1, f2, f3, f4⟩ := HTf.out
        obtain ⟨ta, tc, tg, rfl, bt, hob⟩ := owns_bytes own1 f2 (by omega)
        rw [← HTL.out]
        have HMk := hid (show Mk wr w1 T ts ta tc tg la lc lg lo from ⟨bt, f4.keep k1 (fun _ h => h), k1⟩)
        clear own1 k1 HC f4 hob hnew bt
        by_cases z1 : Tl = 0
        · have z1' : ((Tl : Int) == 0) = true := by simp [z1]
          subst z1
          rw [show (((0 : Nat)) : Int) = (0 : Int) from rfl] at z1'
          clear z1'
          go_wp2_with fail
          refine (HW.out _).mono ?_
          rintro e w2 ⟨rfl, k2⟩
          have HK := hid (HMk.out.kp.trans' k2)
          clear k2 HW HMk
          go_wp2_with fail
          go_ret
          exact ⟨rfl, HK.out⟩
        have z1' : ((Tl : Int) == 0) = false := beq_eq_false_iff_ne.2 (by omega)
        by_cases z2 : 16384 < n
        · have z2' : decide (16384 < n) = true := decide_eq_true z2
          go_wp2_with fail
          refine (HW.out _).mono ?_
          rintro e w2 ⟨rfl, k2⟩
          have HK := hid (HMk.out.kp.trans' k2)
          clear k2 HW HMk
          go_wp2_with fail
          go_ret
          exact ⟨rfl, HK.out⟩
        have z2' : decide (16384 < n) = false := decide_eq_false z2
        have hT1 : 1 ≤ T.length := by rw [← HTL.out]; omega
        have hT2 : T.length ≤ 32768 := by omega
        have hTne : T ≠ [] := fun e => by rw [e] at hT1; simp at hT1
        go_wp2_with fail
        refine (H3.out _).mono ?_
        rintro e w2 ⟨sb, rfl, b2, s2, k2⟩
        have m2 := HMk.out.keep k2
        have hgb := HMk.out.bt.block hTne
        have hsb := s2.block
        have hC := chunkP_good sb (newS 3 0 2) (fun _ => 1024) ta tc tg 0 T 0 la lc lg lo ts total w2 s2 (by decide) m2.bt m2.rq hT2 (by omega) (by omega) ht0 (by omega) f1 (by omega) (fun hne => by have := HMk.out.rq.block hne; omega)
        rw [← HTL.out, show (((0 : Nat)) : Int) = (0 : Int) from rfl] at hC
        have HC := hid hC
        have HM2 := hid (And.intro m2 (And.intro b2 k2))
        clear hC m2 s2 b2 k2 H3
        go_wp2_with fail
        refine HC.out.mono ?_
        rintro e w3 ⟨u, rfl, p3⟩
        obtain ⟨cp, g, rfl, bt3, hge⟩ := p3.row.ex
        have hrd := steps_read T 0 total ts (newS 3 0 2) (fun _ => 1024) 65536 hT2 (by omega) (Nat.zero_le _) f2 (by decide) f1
        have hol := steps_len T 0 total ts (newS 3 0 2) (fun _ => 1024) hT2 (Nat.zero_le _) (by decide) f1
        have hbg := out_begins (opsA (tkOf T 0 total) (opsOf T 0 total ts (newS 3 0 2)) (newS 3 0 2) 0) (fun _ => 1024)
        have hk3 : Keep noBlock wr w3 := HM2.out.1.kp.trans p3.kp (fun i hi e => by have e : i = sb := e; have := HM2.out.2.1; have := HMk.out.kp.size; omega)
        have hb3 : Bytes w3 ta tc tg 0 T := HM2.out.1.bt.keep p3.kp (fun _ e => by have e : tg = sb := e; have := HM2.out.2.1; omega)
        generalize opsS (opsOf T 0 total ts (newS 3 0 2)) (newS 3 0 2) = S6 at *
        generalize (runA (opsA (tkOf T 0 total) (opsOf T 0 total ts (newS 3 0 2)) (newS 3 0 2) 0) ⟨fun _ => 1024, newE⟩).c = C6 at *
        generalize outA (opsA (tkOf T 0 total) (opsOf T 0 total ts (newS 3 0 2)) (newS 3 0 2) 0) (fun _ => 1024) = M at *
        have H6 := hid (And.intro hk3 (And.intro hb3 bt3))
        have HRd := hid (And.intro hrd (And.intro hol hbg))
        clear p3 hge hrd hol hbg hk3 hb3 bt3 HC HM2 HMk hgb hsb
        generalize hml : M.length = ml at *
        have HML := hid hml
        clear hml
        go_wp2_with fail
        refine (HPV.out _).mono ?_
        rintro e w7 ⟨rfl, rfl⟩
        go_wp2_with fail
        obtain ⟨j1, j2, j3⟩ := H6.out
        obtain ⟨r1, r2, r3⟩ := HRd.out
        have hr := rdn_new w7 (.slice (some ⟨g, 0, none⟩) ml cp) g cp Tl M (by rw [HML.out]) j3
        have hRG := read_good 3 0 2 (by omega) (by omega) _ _ g cp M T total S6 C6 T _ (by rw [← HTL.out]; exact hr) r3 (by rw [HML.out]; omega) ht0 ht1 hT1 (by omega) r1
        have k8 : Keep noBlock w7 ((w7.alloc (.cells #[.slice (some ⟨g, 0, none⟩) ml cp] 22)).alloc (.cells #[.int .i64 (Tl : Int)] 3)) := ((Keep.refl noBlock w7).alloc _).alloc _
        have HR := hid hRG
        have H8 := hid (And.intro (j1.trans' k8) (j2.keep k8 (fun _ h => h)))
        clear hRG hr r1 r2 r3 j1 j2 j3 k8 H6 HRd HPV
        refine HR.out.mono ?_
        rintro e w9 ⟨rfl, k9⟩
        have H9 := hid (And.intro (H8.out.1.trans' k9) (H8.out.2.keep k9 (fun _ h => h)))
        have hcv := run_convB (H9.out.2.src)
        rw [← HTL.out] at hcv
        generalize strOf T = st at *
        have hz : ¬ 65536 < (Tl : Int) := by have := HTL.out; omega
        clear k9 HR H8 f1 f2 f3 HTf hT1 hT2 hTne
        go_wp2_with fail
        refine (HW.out _).mono ?_
        rintro e w10 ⟨rfl, k10⟩
        have HF := hid (H9.out.1.trans' k10)
        clear k10 HW H9
        go_wp2_with fail
        go_ret
        exact ⟨rfl, HF.out⟩

end Go.Proofs.YtnokemcogjoonaaGreat.Pt

namespace Go.Proofs.YtnokemcogjoonaaGreat.Fd
open Go.RowKit Go.Shelf Go.ChangeShapes Go.WideShapes
set_option linter.unusedVariables false

theorem cells3 : Tryz.prog.cellsOf 3 = 1 := by kernel_rfl
theorem cells25 : Tryz.prog.cellsOf 26 = 3 := by kernel_rfl
set_option maxRecDepth 100000 in
theorem step_open {H : Type} {enc : TypeId × Value → H} {W : World} {fuel : Nat} {cs : List Value} {x : DataW H × List MemPlace} (h : DataW.trod enc Tryz.prog W 0 (fun _ => true) true fuel 26 cs = some x) :
    ∃ d : Tri, cs = [.int .i64 d.1, .int .i64 d.2.1, .int .i64 d.2.2] ∧ d.2.2 < 9223372036854775808 ∧ d.2.1 < 9223372036854775808 ∧ -9223372036854775808 ≤ d.2.1 := by
  obtain ⟨y0, y1, y2, n, _, hl, h0, h1, h2⟩ := Go.Deep.trod_struct3 Tryz.underlying26 h
  rw [cells25] at hl
  match cs, hl with
  | [c0, c1, c2], _ =>
    simp only [cells3, List.drop_succ_cons, List.drop_zero, List.take_succ_cons, List.take_zero] at h0 h1 h2
    obtain ⟨q0, e0, _, w0⟩ := DataW.trod_int Tryz.underlying3 h0
    obtain ⟨q1, e1, _, w1⟩ := DataW.trod_int Tryz.underlying3 h1
    obtain ⟨q2, e2, _, w2⟩ := DataW.trod_int Tryz.underlying3 h2
    have hb := bounds_i64 w2
    have hb1 := bounds_i64 w1
    simp only [List.cons.injEq, and_true] at e0 e1 e2
    subst e0 e1 e2
    exact ⟨(q0, q1, q2), rfl, by show q2 < 9223372036854775808; omega, by show q1 < 9223372036854775808; omega, by show -9223372036854775808 ≤ q1; omega⟩

theorem add_at (b off j i : Nat) : ((⟨b, off, none⟩ : Addr).add j).add i = ⟨b, off + j + i, none⟩ := by
  rw [Go.Deep.add_add]
  unfold Addr.add
  split <;> simp_all [Nat.add_assoc]

theorem steps_open {H : Type} {enc : TypeId × Value → H} {W : World} {a : Option Addr} {len cap fuel : Nat} {x : DataW H × List MemPlace} (h : DataW.trod enc Tryz.prog W 0 (fun _ => true) true fuel 23 [.slice a len cap] = some x) :
    ∃ (b off : Nat) (ts : List Tri), ts.length = len ∧ RowQ W a cap b off ts := by
  rcases Go.Deep.open_slice Tryz.underlying23 h with ⟨e, _⟩ | ⟨ad, l, c, m, n, D, Pl, e, _, hl, hm, hmm, _, hel⟩
  · simp only [List.cons.injEq, Value.slice.injEq, and_true] at e
    obtain ⟨rfl, rfl, rfl⟩ := e
    exact ⟨0, 0, [], rfl, ⟨.inr rfl, (fun j hj => by simp at hj), fun j => by show (0 : Int) < _; decide⟩⟩
  · simp only [List.cons.injEq, Value.slice.injEq, and_true] at e
    obtain ⟨rfl, rfl, rfl⟩ := e
    simp only [if_true] at hmm
    subst hmm
    have hel2 : ∀ i, i < len → ∃ d : Tri, d.2.2 < 9223372036854775808 ∧ W.cell? (ad.add (i * 3)) = some (.int .i64 d.1) ∧ W.cell? ((ad.add (i * 3)).add 1) = some (.int .i64 d.2.1) ∧ W.cell? ((ad.add (i * 3)).add 2) = some (.int .i64 d.2.2) := by
      intro i hi
      obtain ⟨cs, hc, ht⟩ := hel i (by omega)
      obtain ⟨d, rfl, hd, -⟩ := step_open ht
      rw [cells25] at hc
      obtain ⟨_, _, hcc⟩ := World.cells?_some hc
      have q0 := hcc 0 (by omega)
      have q1 := hcc 1 (by omega)
      have q2 := hcc 2 (by omega)
      have e0 : (ad.add (i * 3)).add 0 = ad.add (i * 3) := by rw [Go.Deep.add_add]; rfl
      rw [e0] at q0
      exact ⟨d, hd, q0, q1, q2⟩
    obtain ⟨f, hf⟩ := Go.Deep.choose_lt hel2
    by_cases h0 : len = 0
    · subst h0
      exact ⟨0, 0, [], rfl, ⟨.inr rfl, (fun j hj => by simp at hj), fun j => by show (0 : Int) < _; decide⟩⟩
    · obtain ⟨b, off, spot⟩ := ad
      have c0 := (hf 0 (by omega)).2.1
      have hspot : spot = none := by simpa [Addr.add] using World.cell?_spot c0
      subst hspot
      have hat : ∀ j, j < len → ((List.range len).map f)[j]?.getD (0, 0, 0) = f j := fun j hj => by
        rw [List.getElem?_map, List.getElem?_range hj]; rfl
      have hlen : ((List.range len).map f).length = len := by simp
      refine ⟨b, off, (List.range len).map f, hlen, ⟨.inl rfl, fun j hj => ?_, fun j => ?_⟩⟩
      · rw [hlen] at hj
        rw [hat j hj]
        obtain ⟨_, p0, p1, p2⟩ := hf j hj
        have e0 : (⟨b, off, none⟩ : Addr).add (j * 3) = ⟨b, off + j * 3, none⟩ := by have := add_at b off (j * 3) 0; rw [Go.Deep.add_add] at this; exact this
        rw [add_at] at p1 p2
        rw [e0] at p0
        exact ⟨p0, p1, p2⟩
      · by_cases hj : j < len
        · rw [hat j hj]; exact (hf j hj).1
        · rw [List.getElem?_eq_none (by omega)]; decide
end Go.Proofs.YtnokemcogjoonaaGreat.Fd
