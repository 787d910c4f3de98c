/-
  again: bytes that are put once more.
-/
import Derived.Test.YtlpibfonpfhakaaDoorBck
import Derived.Test.YtlpibfonpfhakaaDoorSeq
import Derived.Test.YtlpibfonpfhakaaDoorRdC
namespace Go.Proofs.YtlpibfonpfhakaaDoor
open Go.RowKit Go.Shelf
set_option linter.unusedVariables false

/-- A row of bytes of one's own. -/
abbrev ownsU (w : World) (v : Value) (M : List Nat) : Prop := w.ownsRow 0 5 1 v M.length (u8s M)
/-- The block of a row: the old one, or a new one. -/
def NearU (w : World) (v v' : Value) : Prop := v'.ownBlock = v.ownBlock ∨ ∃ k, v'.ownBlock = some k ∧ w.heap.size ≤ k
theorem NearU.trans {w w1 : World} {a b c : Value} (h : NearU w a b) (k : NearU w1 b c) (hs : w.heap.size ≤ w1.heap.size) : NearU w a c := by
  rcases k with k | ⟨x, k1, k2⟩
  · rcases h with h | ⟨y, h1, h2⟩
    · exact .inl (k.trans h)
    · exact .inr ⟨y, k.trans h1, h2⟩
  · exact .inr ⟨x, k1, by omega⟩
theorem keep_near {w W W' : World} {v v1 : Value} (h : Keep (fun k => v.ownBlock = some k) w W) (hn : NearU w v v1) (k : Keep (fun k => v1.ownBlock = some k) W W') : Keep (fun k => v.ownBlock = some k) w W' :=
  h.trans k (fun i hi e => by
    rcases hn with q | ⟨y, q1, q2⟩
    · exact q ▸ e
    · rw [q1] at e
      have : y = i := by simpa using e
      omega)
/-- What again has come to. -/
structure Agn (w W : World) (v v1 : Value) (M : List Nat) (back n k : Nat) : Prop where
  own : ownsU W v1 (M ++ outL M back k)
  le : k ≤ n
  dv : k = n ∨ back ∣ k
  keep : Keep (fun k => v.ownBlock = some k) w W
  near : NearU w v v1

section
attribute [local go_sem] minSem_eq sliceSem_eq
set_option maxRecDepth 100000 in
set_option maxHeartbeats 2000000 in
theorem again_any (v : Value) (M : List Nat) (n back : Nat) (w : World) (h : ownsU w v M) (hM : ∀ j : Nat, M[j]?.getD 0 < 256) (hb : 0 < n → 1 ≤ back ∧ back ≤ M.length) (hl : M.length + n ≤ 1000000000) (hb2 : back < 9223372036854775808) :
    Calls Tryd.prog 16 #[v, .int .i64 (n : Int), .int .i64 (back : Int)] w fun e w' => (∃ v' : Value, e = .returned v' ∧ ownsU w' v' (M ++ outL M back n) ∧ NearU w v v') ∧ Keep (fun k => v.ownBlock = some k) w w' := by
  obtain ⟨va, vcap, vg, rfl, -, -⟩ := bytes_own h hM (by omega)
  obtain ⟨st, hst⟩ : ∃ st : Int, st = (M.length : Int) - (back : Int) := ⟨_, rfl⟩
  have hsub : (M.length : Int) - (back : Int) = st := hst.symm
  have hw0 : IntKind.i64.wrap st = st := by rw [IntKind.wrap_i64]; omega
  have HA := (show Hid (Agn w w (.slice va M.length vcap) (.slice va M.length vcap) M back n 0) from ⟨by rw [outL_zero, List.append_nil]; exact h, Nat.zero_le _, .inr (Nat.dvd_zero _), Keep.refl _ _, .inl rfl⟩)
  have HST := (show Hid (st = (M.length : Int) - (back : Int)) from hst)
  clear h hst
  go_enter Tryd.func16, Tryd.ntmps16
  go_wp2_with fail
  go_loopw [0, 1] (fun v0 v1 wr => ∃ k r : Nat, v1 = .int .i64 (r : Int) ∧ r + k = n ∧ Hid (Agn w wr (.slice va M.length vcap) v0 M back n k)) (fun _ v1 _ => (intOf v1).toNat)
  case atStart => exact ⟨0, n, rfl, by omega, HA.out⟩
  case round =>
    clear HA
    obtain ⟨k, r, rfl, hrk, HI⟩ := hrel
    by_cases h0 : 0 < r
    · have h0I : (0 : Int) < (r : Int) := by omega
      obtain ⟨hb1, hb3⟩ := hb (by omega)
      obtain ⟨s, hs⟩ : ∃ s : Nat, s = M.length - back := ⟨_, rfl⟩
      have hss : st = (s : Int) := by have := HST.out; omega
      have hml : (M ++ outL M back k).length = M.length + k := by rw [List.length_append, outL_length]
      have hlt : ∀ j : Nat, (M ++ outL M back k)[j]?.getD 0 < 256 := lt_app hM (lt_out hM _ _)
      obtain ⟨a1, c1, g1, rfl, hB, hrow⟩ := bytes_own HI.out.own hlt (by omega)
      have hsome : a1 = some ⟨g1, 0, none⟩ := by
        rcases hrow with ⟨_, e⟩ | ⟨e, _⟩
        · have : (M ++ outL M back k).length = 0 := by rw [e]; rfl
          omega
        · exact e
      subst hsome
      obtain ⟨ln, hln⟩ : ∃ ln, ln = (M ++ outL M back k).length := ⟨_, rfl⟩
      obtain ⟨d, hd⟩ : ∃ d : Nat, d = ln - s := ⟨_, rfl⟩
      have hsub2 : (ln : Int) - st = (d : Int) := by rw [hss]; omega
      have hsub3 : (ln : Int) - (s : Int) = (d : Int) := by omega
      obtain ⟨t, ht⟩ : ∃ t : Nat, t = min r d := ⟨_, rfl⟩
      have hmin := minSem_run #[3, 3] 3 (r : Int) (d : Int) (t : Int) (by omega)
      obtain ⟨e, he⟩ : ∃ e : Nat, e = s + t := ⟨_, rfl⟩
      have hadd : (s : Int) + (t : Int) = (e : Int) := by omega
      have hwe : IntKind.i64.wrap (e : Int) = (e : Int) := by rw [IntKind.wrap_i64]; omega
      have hcap := hB.cap
      have hmid := run_mid g1 0 ln c1 s e (by omega) (by omega)
      rw [show e - s = t from by omega, Nat.zero_add] at hmid
      have hsrc : SrcB wr (.slice (some ⟨g1, s, none⟩) t (c1 - s)) (((M ++ outL M back k).drop s).take t) := by
        have hlt2 : (((M ++ outL M back k).drop s).take t).length = t := by rw [List.length_take, List.length_drop]; omega
        refine .inr ⟨⟨g1, s, none⟩, c1 - s, by rw [hlt2], fun j u hu => ?_⟩
        have hj : j < t := by rw [← hlt2, ← u8s_length]; exact (List.getElem?_eq_some_iff.1 hu).1
        rw [addO, show s + j = 0 + (s + j) from by omega, hB.cells (s + j) (by omega)]
        rw [u8s_at _ j (by rw [hlt2]; exact hj), List.getElem?_take, if_pos hj, List.getElem?_drop] at hu
        exact hu
      obtain ⟨v3, W3, hr3, own3, k3, n3⟩ := run_append_all wr 22 _ (M ++ outL M back k) _ HI.out.own (by rw [hml, List.length_take, List.length_drop]; omega) _ hsrc
      have hgrow := outL_grow M back k t hb1 hb3 (by rcases HI.out.dv with q | q; · omega
                                                     · exact q) (by omega)
      obtain ⟨k2, hk2⟩ : ∃ k2, k2 = k + t := ⟨_, rfl⟩
      obtain ⟨r2, hr2⟩ : ∃ r2 : Nat, r2 = r - t := ⟨_, rfl⟩
      have hsub4 : (r : Int) - (t : Int) = (r2 : Int) := by omega
      have HN := (show Hid (Agn w W3 (.slice va M.length vcap) v3 M back n k2 ∧ r2 + k2 = n ∧ r2 < r) from by
        refine ⟨⟨?_, by omega, ?_, keep_near HI.out.keep HI.out.near k3, HI.out.near.trans (w1 := wr) n3 HI.out.keep.size⟩, by omega, by omega⟩
        · have : M ++ outL M back k ++ List.take t (List.drop s (M ++ outL M back k)) = M ++ outL M back k2 := by rw [hk2, hgrow, hs, List.append_assoc]
          unfold ownsU
          rw [← this]
          exact own3
        · by_cases q : t = r
          · left; omega
          · right
            have hdk : back ∣ k := by rcases HI.out.dv with q | q; · omega
                                      · exact q
            rw [hk2, show k + t = k + k + back from by omega]
            exact Nat.dvd_add (Nat.dvd_add hdk hdk) (Nat.dvd_refl _))
      have bd : (d : Int) ≤ 1000000000 := by omega
      have bd' : d ≤ 1000000000 := by omega
      have be : (e : Int) ≤ 1000000000 := by omega
      have be' : e ≤ 1000000000 := by omega
      have br : (r2 : Int) ≤ 1000000000 := by omega
      have br' : r2 ≤ 1000000000 := by omega
      rw [← hln] at hr3 ⊢
      rw [hss] at *
      clear HI hB hrow hlt hml own3 k3 n3 hgrow hsrc hs hd ht he hk2 hr2 hcap hln HST
      go_wp2_with (at_builtin; refine wpList_append_run _ rfl _ _ 22 rfl (.slice (some ⟨g1, 0, none⟩) ln c1) (.slice (some ⟨g1, s, none⟩) t (c1 - s)) v3 W3 rfl rfl hr3 ?_)
      go_roundw
      case rel => exact ⟨k2, r2, rfl, HN.out.2.1, HN.out.1⟩
      case measure => have := HN.out.2.2; simp [intOf]; omega
    · have h0I : ¬ (0 : Int) < (r : Int) := by omega
      have hk : k = n := by omega
      subst hk
      have HF := (show Hid (ownsU wr u0 (M ++ outL M back k) ∧ NearU w (.slice va M.length vcap) u0 ∧ Keep (fun k => (Value.slice va M.length vcap).ownBlock = some k) w wr) from ⟨HI.out.own, HI.out.near, HI.out.keep⟩)
      clear HI
      go_wp2_with fail
      go_ret
      exact ⟨⟨u0, rfl, HF.out.1, HF.out.2.1⟩, HF.out.2.2⟩
end
end Go.Proofs.YtlpibfonpfhakaaDoor
