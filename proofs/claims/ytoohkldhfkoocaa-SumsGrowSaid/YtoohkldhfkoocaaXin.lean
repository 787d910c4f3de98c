/-
  Bytes that go into an XXH64.
-/
import Derived.Test.YtoohkldhfkoocaaXadd
namespace Go.Proofs.Ytoohkldhfkoocaa
open Go.RowKit Go.Shelf
set_option linter.unusedVariables false

theorem Xc.stripe {L : List Nat} {k : Nat} {cs : Array Value} (h : Xc L k 32 cs) : Xs L k 0 cs :=
  ⟨h.size, fun j hj => by rw [if_neg (by omega)]; exact h.four j hj, h.rest, h.num⟩
theorem Xs.done {L : List Nat} {k : Nat} {cs : Array Value} (h : Xs L k 4 cs) : Xc L (k + 1) 0 cs :=
  ⟨h.size, fun i hi => by rw [h.four i hi, if_pos hi], fun j hj => ⟨_, h.rest j hj⟩, fun j hj => by omega, h.num⟩
theorem app_lt {L X : List Nat} (hL : ∀ j : Nat, L[j]?.getD 0 < 256) (hX : ∀ j : Nat, X[j]?.getD 0 < 256) : ∀ j : Nat, (L ++ X)[j]?.getD 0 < 256 := by
  intro j
  rw [List.getElem?_append]
  split
  · exact hL j
  · exact hX _
theorem drop_lt {bs : List Nat} (h : ∀ j : Nat, bs[j]?.getD 0 < 256) (k : Nat) : ∀ j : Nat, (bs.drop k)[j]?.getD 0 < 256 := by
  intro j
  rw [List.getElem?_drop]
  exact h _
/-- A piece of bs: t bytes from k on. -/
def piece (bs : List Nat) (k t : Nat) : List Nat := (bs.drop k).take t
theorem piece_length (bs : List Nat) (k t : Nat) (h : k + t ≤ bs.length) : (piece bs k t).length = t := by simp [piece]; omega
theorem take_piece (bs : List Nat) (k t : Nat) : bs.take (k + t) = bs.take k ++ piece bs k t := by simp [piece, List.take_add]
theorem piece_at (bs : List Nat) (k t j : Nat) (hj : j < t) : (piece bs k t)[j]?.getD 0 = bs[k + j]?.getD 0 := by
  simp [piece, hj]
theorem keep_setRow {S : Nat → Prop} {a w : World} (h : Keep S a w) (g : Nat) (hg : S g) (cs : Array Value) : Keep S a (w.setRow g cs) :=
  h.trans (T := fun k => k = g) ⟨rfl, rfl, rfl, by simp [World.setRow], fun k _ hk => setRow_other w g k cs hk⟩ (fun i _ e => by subst e; exact hg)

set_option maxRecDepth 100000 in
set_option maxHeartbeats 4000000 in
/-- add: bytes go in. -/
theorem xadd_any (b : Nat) (L : List Nat) (a : Option Addr) (cap gb off : Nat) (bs : List Nat) (hbs : ∀ j : Nat, bs[j]?.getD 0 < 256) (hcap : bs.length ≤ cap) (hfit : L.length + bs.length < 2 ^ 62) (w : World) (h : IsX w b L)
    (ha : a = some ⟨gb, off, none⟩ ∨ bs = []) (hcs : ∀ j, j < bs.length → w.cell? ⟨gb, off + j, none⟩ = some (.int .u8 ((bs[j]?.getD 0 : Nat) : Int))) (hne : gb ≠ b) :
    Calls Try.prog 45 #[.pointer (some ⟨b, 0, none⟩), .slice a bs.length cap] w fun e w' => e = .returned (.tuple #[]) ∧ IsX w' b (L ++ bs) ∧ Keep (fun k => k = b) w w' := by
  have HC := (show Hid _ from hcs)
  have HA := (show Hid _ from ha)
  have HX := (show Hid _ from hbs)
  clear hcs ha hbs
  go_enter Try.func45, Try.ntmps45
  go_wp2_with fail
  go_loopw [1] (fun v wr => ∃ (k r c o : Nat) (a' : Option Addr), (k + r = bs.length ∧ r ≤ c ∧ (r = 0 ∨ (a' = some ⟨gb, o, none⟩ ∧ o = off + k))) ∧ v = .slice a' r c ∧ IsX wr b (L ++ bs.take k) ∧ Keep (fun k => k = b) w wr) (fun v _ => lenV v)
  case atStart =>
    refine ⟨0, bs.length, cap, off, a, ⟨by omega, hcap, ?_⟩, rfl, by simpa using h, Keep.refl _ _⟩
    rcases HA.out with e | e
    · exact .inr ⟨e, rfl⟩
    · exact .inl (by rw [e]; rfl)
  case round =>
    clear h
    obtain ⟨k, r, c, o, a', hk, rfl, hX, hK⟩ := hrel
    by_cases hr : 0 < r
    · obtain ⟨hk1, hk2, hk3⟩ := hk
      obtain ⟨rfl, ho⟩ : a' = some ⟨gb, o, none⟩ ∧ o = off + k := hk3.resolve_left (by omega)
      obtain ⟨⟨cs, hob, hxc⟩, h256, hfl⟩ := hX
      have hPl : (L ++ bs.take k).length = L.length + k := by simp; omega
      obtain ⟨t, ht⟩ : ∃ t, t = Nat.min r (32 - (L ++ bs.take k).length % 32) := ⟨_, rfl⟩
      have htl : t ≤ r ∧ t ≤ 32 - (L ++ bs.take k).length % 32 ∧ 0 < t ∧ (t = r ∨ t = 32 - (L ++ bs.take k).length % 32) := by
        have : Nat.min r (32 - (L ++ bs.take k).length % 32) = min r (32 - (L ++ bs.take k).length % 32) := rfl
        omega
      have hnext : L ++ bs.take (k + t) = (L ++ bs.take k) ++ piece bs k t := by rw [take_piece, List.append_assoc]
      have hpl : (piece bs k t).length = t := piece_length bs k t (by omega)
      have hp256 : ∀ j : Nat, (piece bs k t)[j]?.getD 0 < 256 := take_lt (drop_lt HX.out k) t
      have hsrc : ∀ j u, (u8s (piece bs k t))[j]? = some u → wr.cell? ((⟨gb, o, none⟩ : Addr).add j) = some u := fun j u hu => by
        have hj : j < t := by
          have := (List.getElem?_eq_some_iff.1 hu).1
          rwa [u8s_length, hpl] at this
        rw [u8s_at _ j (by omega), piece_at bs k t j hj] at hu
        have h1 := HC.out (k + j) (by omega)
        have h2 := (World.cell?_of_block (hK.block gb (World.block_lt_of_cell? w ⟨gb, off + (k + j), none⟩ h1) hne)).trans h1
        rw [← Nat.add_assoc, ← ho] at h2
        rw [← hu, ← h2]
        unfold Addr.add; split <;> simp_all
      have HN := (show Hid _ from hnext)
      have HP := (show Hid _ from hp256)
      have HO := (show Hid _ from ho)
      have HPL := (show Hid _ from hPl)
      have H256 := (show Hid _ from h256)
      clear hnext hp256 ho hPl h256
      generalize L ++ bs.take k = P at *
      generalize piece bs k t = X at *
      have hgrow := hxc.grow X (by omega)
      have hxs := u8s_length X
      have hone := u8s_one X
      have HG := (show Hid _ from hgrow)
      unfold grown at HG
      clear hgrow
      have hnum : wr.cell? ⟨b, 36, none⟩ = some (.int .u64 (P.length : Int)) := (cell_of hob 36).trans hxc.num
      have hcsz := hxc.size
      have hc36 := hxc.num
      clear hxc
      generalize u8s X = xs at *
      rw [hpl] at hxs
      rw [hpl] at HG
      obtain ⟨n, hn⟩ : ∃ n, P.length = n := ⟨_, rfl⟩
      rw [hn] at HG HPL htl hnum ht hfl hc36
      obtain ⟨m, hm⟩ : ∃ m, n % 32 = m := ⟨_, rfl⟩
      rw [hm] at HG htl ht
      have hm32 : m < 32 := by omega
      have hn62 : n < 2 ^ 62 := by have := HPL.out; omega
      have hheld := held_any b n wr hn62 hnum
      rw [hm] at hheld
      have HPN := (show Hid _ from hn)
      have HM := (show Hid _ from hm)
      have HT := (show Hid _ from ht)
      have HTL := (show Hid _ from htl)
      have hmin : xs.length = Nat.min r (32 - m) := by rw [hxs]; exact ht
      have ht1 : (t : Int) ≤ (r : Int) := by omega
      have ht0 : (0 : Int) ≤ (t : Int) := by omega
      have hm0 : (0 : Int) ≤ (m : Int) := by omega
      have hm1 : (m : Int) ≤ 32 := by omega
      have hmne : ¬ 32 = m := by omega
      have htr : t ≤ r := htl.1
      have hn63 : (n : Int) + (t : Int) < 18446744073709551616 := by have := HPL.out; omega
      have hfitc : 4 + m + xs.length ≤ cs.size := by rw [hcsz, hxs]; omega
      have hr63 : r < 2 ^ 62 := by omega
      have HF := (show Hid _ from hfit)
      have HXL := (show Hid _ from hpl)
      clear hn hm ht htl hcap hfit hfl hpl
      have hK0 := hK
      go_wp2_with fail
      refine hheld.mono ?_
      rintro e w' ⟨rfl, n1, rfl⟩
      clear hheld hnum
      have hobW : (wr.drewN n1).heap[b]? = some (.cells cs 60 (0, 0)) := hob
      have hsrcW : ∀ j u, xs[j]? = some u → (wr.drewN n1).cell? ((⟨gb, o, none⟩ : Addr).add j) = some u := hsrc
      have hKW : Keep (fun k => k = b) w (wr.drewN n1) := hK.trans (keep_drewN wr _) (fun i _ e => e.elim)
      clear hob hsrc hK hK0
      generalize wr.drewN n1 = W at hobW hsrcW hKW ⊢
      have hcopy := run_copy_row Try.prog W 22 22 3 5 b (4 + m) (32 - m) (32 - m) ⟨gb, o, none⟩ r c cs 60 xs Try.underlying22 (by kernel_rfl) hobW hmin hsrcW hfitc hone
      rw [List.append_assoc] at hcopy
      have hob2 := setRow_heap W b cs (cs.toList.take (4 + m) ++ (xs ++ cs.toList.drop (4 + m + xs.length))).toArray 60 _ hobW
      have hK2 := keep_setRow hKW b rfl (cs.toList.take (4 + m) ++ (xs ++ cs.toList.drop (4 + m + xs.length))).toArray
      generalize W.setRow b (cs.toList.take (4 + m) ++ (xs ++ cs.toList.drop (4 + m + xs.length))).toArray = W2 at hcopy hob2 hK2
      have hcs2 : (cs.toList.take (4 + m) ++ (xs ++ cs.toList.drop (4 + m + xs.length))).toArray[36]? = some (.int .u64 (n : Int)) := by
        rw [List.getElem?_toArray, mid_at _ _ _ _ (by simpa using hfitc), if_neg (by omega), if_neg (by have := HTL.out; omega)]
        simpa using hc36
      generalize (cs.toList.take (4 + m) ++ (xs ++ cs.toList.drop (4 + m + xs.length))).toArray = cs2 at hob2 HG hcs2
      rw [hxs] at hcopy
      have hgi : goInt t = .int .i64 (t : Int) := rfl
      rw [hgi] at hcopy
      have hc36' : W2.cell? ⟨b, 36, none⟩ = some (.int .u64 (n : Int)) := (cell_of hob2 36).trans hcs2
      have hf36 := frozen_of hob2 36
      clear hsrcW hobW hgi hmin hfitc hone hxs hcs2
      have hmt : (m : Int) + (t : Int) ≤ 32 := by have := HTL.out; omega
      have htc : t ≤ c := by omega
      have ht33 : (t : Int) ≤ 32 := by omega
      have hwr : IntKind.u64.wrap ((n : Int) + (t : Int)) = (n : Int) + (t : Int) := by rw [IntKind.wrap_u64]; omega
      have hwt : IntKind.u64.wrap (t : Int) = (t : Int) := by rw [IntKind.wrap_u64]; omega
      have HK1 := (show Hid _ from hk1)
      have HLT : Hid (n + t < 2 ^ 62) := by have := HPL.out; have := HTL.out; have := HF.out; exact (show n + t < 2 ^ 62 by omega)
      clear hk3 hc36 hn63 hn62 hcsz hk1
      have hlen : (P ++ X).length = n + t := by rw [List.length_append, HPN.out, HXL.out]
      have HLEN := (show Hid _ from hlen)
      clear hlen
      by_cases h32 : m + t = 32
      · have hd : ((m : Int) + (t : Int) == 32) = true := by simp; omega
        by_cases hct : c = t
        · obtain rfl : t = c := hct.symm
          clear hct
          obtain rfl : t = r := by have := HTL.out; omega
          go_wp2_with fail
          refine (stripe_any b (P ++ X) (n / 32) _ (app_lt H256.out HP.out) _ (set_obj hob2 36 _) ?_).mono ?_
          · have := HG.out
            rw [h32] at this
            simpa using this.stripe
          rintro e w' ⟨rfl, ⟨cs3, hob3, hx3⟩, hK3⟩
          go_wp2_with fail
          go_roundw
          case rel =>
            have h1 := HTL.out
            have h2 := HK1.out
            have h3 := HM.out
            have h4 := HO.out
            refine ⟨k + t, t - t, t - t, o + t, if t = t then some ⟨gb, o, none⟩ else some ⟨gb, o + t, none⟩, ⟨by omega, by omega, ?_⟩, by first | rfl | (simp; done), ?_, ?_⟩
            · first
                | exact .inl (by omega)
                | exact .inr ⟨if_neg (by omega), by omega⟩
            · rw [HN.out]
              refine ⟨⟨cs3, hob3, ?_⟩, app_lt H256.out HP.out, by rw [HLEN.out]; exact HLT.out⟩
              have e1 : (P ++ X).length / 32 = n / 32 + 1 := by rw [HLEN.out]; omega
              have e2 : (P ++ X).length % 32 = 0 := by rw [HLEN.out]; omega
              rw [e1, e2]
              exact hx3.done
            · exact (hK2.setCell (p := ⟨b, 36, none⟩) (fun _ => rfl) _).trans hK3 (fun _ _ e => e)
          case measure => simp only [lenV]; have := HTL.out; omega
        · go_wp2_with fail
          refine (stripe_any b (P ++ X) (n / 32) _ (app_lt H256.out HP.out) _ (set_obj hob2 36 _) ?_).mono ?_
          · have := HG.out
            rw [h32] at this
            simpa using this.stripe
          rintro e w' ⟨rfl, ⟨cs3, hob3, hx3⟩, hK3⟩
          go_wp2_with fail
          go_roundw
          case rel =>
            have h1 := HTL.out
            have h2 := HK1.out
            have h3 := HM.out
            have h4 := HO.out
            refine ⟨k + t, r - t, c - t, o + t, if c = t then some ⟨gb, o, none⟩ else some ⟨gb, o + t, none⟩, ⟨by omega, by omega, ?_⟩, by simp [hct], ?_, ?_⟩
            · first
                | exact .inl (by omega)
                | exact .inr ⟨if_neg hct, by omega⟩
            · rw [HN.out]
              refine ⟨⟨cs3, hob3, ?_⟩, app_lt H256.out HP.out, by rw [HLEN.out]; exact HLT.out⟩
              have e1 : (P ++ X).length / 32 = n / 32 + 1 := by rw [HLEN.out]; omega
              have e2 : (P ++ X).length % 32 = 0 := by rw [HLEN.out]; omega
              rw [e1, e2]
              exact hx3.done
            · exact (hK2.setCell (p := ⟨b, 36, none⟩) (fun _ => rfl) _).trans hK3 (fun _ _ e => e)
          case measure => simp only [lenV]; have := HTL.out; omega
      · have hd : ((m : Int) + (t : Int) == 32) = false := by simp; omega
        go_wp2_with fail
        go_roundw
        case rel =>
          have h1 := HTL.out
          have h2 := HK1.out
          have h3 := HM.out
          have h4 := HO.out
          refine ⟨k + t, r - t, c - t, o + t, if c = t then some ⟨gb, o, none⟩ else some ⟨gb, o + t, none⟩, ⟨by omega, by omega, ?_⟩, rfl, ?_, ?_⟩
          · by_cases hct : c = t
            · exact .inl (by omega)
            · exact .inr ⟨if_neg hct, by omega⟩
          · rw [HN.out]
            refine ⟨⟨_, set_obj hob2 36 _, ?_⟩, app_lt H256.out HP.out, by rw [HLEN.out]; exact HLT.out⟩
            have e1 : (P ++ X).length / 32 = n / 32 := by rw [HLEN.out]; omega
            have e2 : (P ++ X).length % 32 = m + t := by rw [HLEN.out]; omega
            rw [e1, e2]
            simpa using HG.out
          · exact hK2.setCell (p := ⟨b, 36, none⟩) (fun _ => rfl) _
        case measure => simp only [lenV]; have := HTL.out; omega
    · obtain rfl : r = 0 := by omega
      obtain rfl : k = bs.length := by omega
      rw [List.take_length] at hX
      go_wp2
      go_end0
      exact ⟨rfl, hX, hK⟩

end Go.Proofs.Ytoohkldhfkoocaa
