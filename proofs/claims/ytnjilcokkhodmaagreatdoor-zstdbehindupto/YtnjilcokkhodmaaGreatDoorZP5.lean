/-
  Bytes that go into an XXH64.
  The sums that grow: New, Add, Value; and the three numbers of bytes.
-/
import Derived.Test.YtnjilcokkhodmaaGreatDoorZP1
namespace Go.Proofs.YtnjilcokkhodmaaGreatDoor.Xs
open Go.RowKit Go.Shelf
set_option linter.unusedVariables false

theorem Xc.stripe {L : List Nat} {k : Nat} {cs : Array Value} (h : Xc L k 32 cs) : Xs L k 0 cs :=
 ⟨h.size, fun j hj => by rw [if_neg (by omega)]; exact h.four j hj, h.rest, h.num⟩
theorem Xs.done {L : List Nat} {k : Nat} {cs : Array Value} (h : Xs L k 4 cs) : Xc L (k + 1) 0 cs :=
 ⟨h.size, fun i hi => by rw [h.four i hi, if_pos hi], fun j hj => ⟨_, h.rest j hj⟩, fun j hj => by omega, h.num⟩
theorem app_lt {L X : List Nat} (hL : ∀ j : Nat, L[j]?.getD 0 < 256) (hX : ∀ j : Nat, X[j]?.getD 0 < 256) : ∀ j : Nat, (L ++ X)[j]?.getD 0 < 256 := by
 intro j
 rw [List.getElem?_append]
 split
 ·exact hL j
 ·exact hX _
theorem drop_lt {bs : List Nat} (h : ∀ j : Nat, bs[j]?.getD 0 < 256) (k : Nat) : ∀ j : Nat, (bs.drop k)[j]?.getD 0 < 256 := by
 intro j
 rw [List.getElem?_drop]
 exact h _
def piece (bs : List Nat) (k t : Nat) : List Nat := (bs.drop k).take t
theorem piece_length (bs : List Nat) (k t : Nat) (h : k + t ≤ bs.length) : (piece bs k t).length = t := by simp [piece]; omega
theorem take_piece (bs : List Nat) (k t : Nat) : bs.take (k + t) = bs.take k ++ piece bs k t := by simp [piece, List.take_add]
theorem piece_at (bs : List Nat) (k t j : Nat) (hj : j < t) : (piece bs k t)[j]?.getD 0 = bs[k + j]?.getD 0 := by
 simp [piece, hj]
theorem keep_setRow {S : Nat → Prop} {a w : World} (h : Keep S a w) (g : Nat) (hg : S g) (cs : Array Value) : Keep S a (w.setRow g cs) :=
 h.trans (T := fun k => k = g) ⟨rfl, rfl, rfl, by simp [World.setRow], fun k _ hk => setRow_other w g k cs hk⟩ (fun i _ e => by subst e; exact hg)

set_option maxRecDepth 100000 in
set_option maxHeartbeats 4000000 in
theorem xadd_any (b : Nat) (L : List Nat) (a : Option Addr) (cap gb off : Nat) (bs : List Nat) (hbs : ∀ j : Nat, bs[j]?.getD 0 < 256) (hcap : bs.length ≤ cap) (hfit : L.length + bs.length < 2 ^ 62) (w : World) (h : IsX w b L)
  (ha : a = some ⟨gb, off, none⟩ ∨ bs = []) (hcs : ∀ j, j < bs.length → w.cell? ⟨gb, off + j, none⟩ = some (.int .u8 ((bs[j]?.getD 0 : Nat) : Int))) (hne : gb ≠ b) :
  Calls Tryz.prog 170 #[.pointer (some ⟨b, 0, none⟩), .slice a bs.length cap] w fun e w' => e = .returned (.tuple #[]) ∧ IsX w' b (L ++ bs) ∧ Keep (fun k => k = b) w w' := by
 have HC := (show Hid _ from hcs)
 have HA := (show Hid _ from ha)
 have HX := (show Hid _ from hbs)
 clear hcs ha hbs
 go_enter Tryz.func170, Tryz.ntmps170
 go_wp2_with fail
 go_loopw [1] (fun v wr => ∃ (k r c o : Nat) (a' : Option Addr), (k + r = bs.length ∧ r ≤ c ∧ (r = 0 ∨ (a' = some ⟨gb, o, none⟩ ∧ o = off + k))) ∧ v = .slice a' r c ∧ IsX wr b (L ++ bs.take k) ∧ Keep (fun k => k = b) w wr) (fun v _ => lenV v)
 case atStart =>
  refine ⟨0, bs.length, cap, off, a, ⟨by omega, hcap, ?_⟩, rfl, by simpa using h, Keep.refl _ _⟩
  rcases HA.out with e | e
  ·exact .inr ⟨e, rfl⟩
  ·exact .inl (by rw [e]; rfl)
 case round =>
  clear h
  obtain ⟨k, r, c, o, a', hk, rfl, hX, hK⟩ := hrel
  by_cases hr : 0 < r
  ·obtain ⟨hk1, hk2, hk3⟩ := hk
   obtain ⟨rfl, ho⟩ : a' = some ⟨gb, o, none⟩ ∧ o = off + k := hk3.resolve_left (by omega)
   obtain ⟨⟨cs, hob, hxc⟩, h256, hfl⟩ := hX
   have hPl : (L ++ bs.take k).length = L.length + k := by simp; omega
   obtain ⟨t, ht⟩ : ∃ t, t = Nat.min r (32 - (L ++ bs.take k).length % 32) := ⟨_, rfl⟩
   have htl : t ≤ r ∧ t ≤ 32 - (L ++ bs.take k).length % 32 ∧ 0 < t ∧ (t = r ∨ t = 32 - (L ++ bs.take k).length % 32) := by
    have : Nat.min r (32 - (L ++ bs.take k).length % 32) = min r (32 - (L ++ bs.take k).length % 32) := rfl
    omega
   have hnext : L ++ bs.take (k + t) = (L ++ bs.take k) ++ piece bs k t := by rw [take_piece, List.append_assoc]
   have hpl : (piece bs k t).length = t := piece_length bs k t (by omega)
   have hp256 : ∀ j : Nat, (piece bs k t)[j]?.getD 0 < 256 := take_lt (drop_lt HX.out k) t
   have hsrc : ∀ j u, (u8s (piece bs k t))[j]? = some u → wr.cell? ((⟨gb, o, none⟩ : Addr).add j) = some u := fun j u hu => by
    have hj : j < t := by
     have := (List.getElem?_eq_some_iff.1 hu).1
     rwa [u8s_length, hpl] at this
    rw [u8s_at _ j (by omega), piece_at bs k t j hj] at hu
    have h1 := HC.out (k + j) (by omega)
    have h2 := (World.cell?_of_block (hK.block gb (World.block_lt_of_cell? w ⟨gb, off + (k + j), none⟩ h1) hne)).trans h1
    rw [← Nat.add_assoc, ← ho] at h2
    rw [← hu, ← h2]
    unfold Addr.add; split <;> simp_all
   have HN := (show Hid _ from hnext)
   have HP := (show Hid _ from hp256)
   have HO := (show Hid _ from ho)
   have HPL := (show Hid _ from hPl)
   have H256 := (show Hid _ from h256)
   clear hnext hp256 ho hPl h256
   generalize L ++ bs.take k = P at *
   generalize piece bs k t = X at *
   have hgrow := hxc.grow X (by omega)
   have hxs := u8s_length X
   have hone := u8s_one X
   have HG := (show Hid _ from hgrow)
   unfold grown at HG
   clear hgrow
   have hnum : wr.cell? ⟨b, 36, none⟩ = some (.int .u64 (P.length : Int)) := (cell_of hob 36).trans hxc.num
   have hcsz := hxc.size
   have hc36 := hxc.num
   clear hxc
   generalize u8s X = xs at *
   rw [hpl] at hxs
   rw [hpl] at HG
   obtain ⟨n, hn⟩ : ∃ n, P.length = n := ⟨_, rfl⟩
   rw [hn] at HG HPL htl hnum ht hfl hc36
   obtain ⟨m, hm⟩ : ∃ m, n % 32 = m := ⟨_, rfl⟩
   rw [hm] at HG htl ht
   have hm32 : m < 32 := by omega
   have hn62 : n < 2 ^ 62 := by have := HPL.out; omega
   have hheld := held_any b n wr hn62 hnum
   rw [hm] at hheld
   have HPN := (show Hid _ from hn)
   have HM := (show Hid _ from hm)
   have HT := (show Hid _ from ht)
   have HTL := (show Hid _ from htl)
   have hmin : xs.length = Nat.min r (32 - m) := by rw [hxs]; exact ht
   have ht1 : (t : Int) ≤ (r : Int) := by omega
   have ht0 : (0 : Int) ≤ (t : Int) := by omega
   have hm0 : (0 : Int) ≤ (m : Int) := by omega
   have hm1 : (m : Int) ≤ 32 := by omega
   have hmne : ¬ 32 = m := by omega
   have htr : t ≤ r := htl.1
   have hn63 : (n : Int) + (t : Int) < 18446744073709551616 := by have := HPL.out; omega
   have hfitc : 4 + m + xs.length ≤ cs.size := by rw [hcsz, hxs]; omega
   have hr63 : r < 2 ^ 62 := by omega
   have HF := (show Hid _ from hfit)
   have HXL := (show Hid _ from hpl)
   clear hn hm ht htl hcap hfit hfl hpl
   have hK0 := hK
   go_wp2_with fail
   refine hheld.mono ?_
   rintro e w' ⟨rfl, n1, rfl⟩
   clear hheld hnum
   have hobW : (wr.drewN n1).heap[b]? = some (.cells cs 185 (0, 0)) := hob
   have hsrcW : ∀ j u, xs[j]? = some u → (wr.drewN n1).cell? ((⟨gb, o, none⟩ : Addr).add j) = some u := hsrc
   have hKW : Keep (fun k => k = b) w (wr.drewN n1) := hK.trans (keep_drewN wr _) (fun i _ e => e.elim)
   clear hob hsrc hK hK0
   generalize wr.drewN n1 = W at hobW hsrcW hKW ⊢
   have hcopy := run_copy_row Tryz.prog W 22 22 3 5 b (4 + m) (32 - m) (32 - m) ⟨gb, o, none⟩ r c cs 185 xs Tryz.underlying22 (by kernel_rfl) hobW hmin hsrcW hfitc hone
   rw [List.append_assoc] at hcopy
   have hob2 := setRow_heap W b cs (cs.toList.take (4 + m) ++ (xs ++ cs.toList.drop (4 + m + xs.length))).toArray 185 _ hobW
   have hK2 := keep_setRow hKW b rfl (cs.toList.take (4 + m) ++ (xs ++ cs.toList.drop (4 + m + xs.length))).toArray
   generalize W.setRow b (cs.toList.take (4 + m) ++ (xs ++ cs.toList.drop (4 + m + xs.length))).toArray = W2 at hcopy hob2 hK2
   have hcs2 : (cs.toList.take (4 + m) ++ (xs ++ cs.toList.drop (4 + m + xs.length))).toArray[36]? = some (.int .u64 (n : Int)) := by
    rw [List.getElem?_toArray, mid_at _ _ _ _ (by simpa using hfitc), if_neg (by omega), if_neg (by have := HTL.out; omega)]
    simpa using hc36
   generalize (cs.toList.take (4 + m) ++ (xs ++ cs.toList.drop (4 + m + xs.length))).toArray = cs2 at hob2 HG hcs2
   rw [hxs] at hcopy
   have hgi : goInt t = .int .i64 (t : Int) := rfl
   rw [hgi] at hcopy
   have hc36' : W2.cell? ⟨b, 36, none⟩ = some (.int .u64 (n : Int)) := (cell_of hob2 36).trans hcs2
   have hf36 := frozen_of hob2 36
   clear hsrcW hobW hgi hmin hfitc hone hxs hcs2
   have hmt : (m : Int) + (t : Int) ≤ 32 := by have := HTL.out; omega
   have htc : t ≤ c := by omega
   have ht33 : (t : Int) ≤ 32 := by omega
   have hwr : IntKind.u64.wrap ((n : Int) + (t : Int)) = (n : Int) + (t : Int) := by rw [IntKind.wrap_u64]; omega
   have hwt : IntKind.u64.wrap (t : Int) = (t : Int) := by rw [IntKind.wrap_u64]; omega
   have HK1 := (show Hid _ from hk1)
   have HLT : Hid (n + t < 2 ^ 62) := by have := HPL.out; have := HTL.out; have := HF.out; exact (show n + t < 2 ^ 62 by omega)
   clear hk3 hc36 hn63 hn62 hcsz hk1
   have hlen : (P ++ X).length = n + t := by rw [List.length_append, HPN.out, HXL.out]
   have HLEN := (show Hid _ from hlen)
   clear hlen
   by_cases h32 : m + t = 32
   ·have hd : ((m : Int) + (t : Int) == 32) = true := by simp; omega
    by_cases hct : c = t
    ·obtain rfl : t = c := hct.symm
     clear hct
     obtain rfl : t = r := by have := HTL.out; omega
     go_wp2_with fail
     refine (stripe_any b (P ++ X) (n / 32) _ (app_lt H256.out HP.out) _ (set_obj hob2 36 _) ?_).mono ?_
     ·have := HG.out
      rw [h32] at this
      simpa using this.stripe
     rintro e w' ⟨rfl, ⟨cs3, hob3, hx3⟩, hK3⟩
     go_wp2_with fail
     go_roundw
     case rel =>
      have h1 := HTL.out
      have h2 := HK1.out
      have h3 := HM.out
      have h4 := HO.out
      refine ⟨k + t, t - t, t - t, o + t, if t = t then some ⟨gb, o, none⟩ else some ⟨gb, o + t, none⟩, ⟨by omega, by omega, ?_⟩, by first | rfl | (simp; done), ?_, ?_⟩
      ·first
        | exact .inl (by omega)
        | exact .inr ⟨if_neg (by omega), by omega⟩
      ·rw [HN.out]
       refine ⟨⟨cs3, hob3, ?_⟩, app_lt H256.out HP.out, by rw [HLEN.out]; exact HLT.out⟩
       have e1 : (P ++ X).length / 32 = n / 32 + 1 := by rw [HLEN.out]; omega
       have e2 : (P ++ X).length % 32 = 0 := by rw [HLEN.out]; omega
       rw [e1, e2]
       exact hx3.done
      ·exact (hK2.setCell (p := ⟨b, 36, none⟩) (fun _ => rfl) _).trans hK3 (fun _ _ e => e)
     case measure => simp only [lenV]; have := HTL.out; omega
    ·go_wp2_with fail
     refine (stripe_any b (P ++ X) (n / 32) _ (app_lt H256.out HP.out) _ (set_obj hob2 36 _) ?_).mono ?_
     ·have := HG.out
      rw [h32] at this
      simpa using this.stripe
     rintro e w' ⟨rfl, ⟨cs3, hob3, hx3⟩, hK3⟩
     go_wp2_with fail
     go_roundw
     case rel =>
      have h1 := HTL.out
      have h2 := HK1.out
      have h3 := HM.out
      have h4 := HO.out
      refine ⟨k + t, r - t, c - t, o + t, if c = t then some ⟨gb, o, none⟩ else some ⟨gb, o + t, none⟩, ⟨by omega, by omega, ?_⟩, by simp [hct], ?_, ?_⟩
      ·first
        | exact .inl (by omega)
        | exact .inr ⟨if_neg hct, by omega⟩
      ·rw [HN.out]
       refine ⟨⟨cs3, hob3, ?_⟩, app_lt H256.out HP.out, by rw [HLEN.out]; exact HLT.out⟩
       have e1 : (P ++ X).length / 32 = n / 32 + 1 := by rw [HLEN.out]; omega
       have e2 : (P ++ X).length % 32 = 0 := by rw [HLEN.out]; omega
       rw [e1, e2]
       exact hx3.done
      ·exact (hK2.setCell (p := ⟨b, 36, none⟩) (fun _ => rfl) _).trans hK3 (fun _ _ e => e)
     case measure => simp only [lenV]; have := HTL.out; omega
   ·have hd : ((m : Int) + (t : Int) == 32) = false := by simp; omega
    go_wp2_with fail
    go_roundw
    case rel =>
     have h1 := HTL.out
     have h2 := HK1.out
     have h3 := HM.out
     have h4 := HO.out
     refine ⟨k + t, r - t, c - t, o + t, if c = t then some ⟨gb, o, none⟩ else some ⟨gb, o + t, none⟩, ⟨by omega, by omega, ?_⟩, rfl, ?_, ?_⟩
     ·by_cases hct : c = t
      ·exact .inl (by omega)
      ·exact .inr ⟨if_neg hct, by omega⟩
     ·rw [HN.out]
      refine ⟨⟨_, set_obj hob2 36 _, ?_⟩, app_lt H256.out HP.out, by rw [HLEN.out]; exact HLT.out⟩
      have e1 : (P ++ X).length / 32 = n / 32 := by rw [HLEN.out]; omega
      have e2 : (P ++ X).length % 32 = m + t := by rw [HLEN.out]; omega
      rw [e1, e2]
      simpa using HG.out
     ·exact hK2.setCell (p := ⟨b, 36, none⟩) (fun _ => rfl) _
    case measure => simp only [lenV]; have := HTL.out; omega
  ·obtain rfl : r = 0 := by omega
   obtain rfl : k = bs.length := by omega
   rw [List.take_length] at hX
   go_wp2
   go_end0
   exact ⟨rfl, hX, hK⟩

end Go.Proofs.YtnjilcokkhodmaaGreatDoor.Xs

namespace Go.Proofs.YtnjilcokkhodmaaGreatDoor.Xs
open Go.RowKit Go.Shelf
set_option linter.unusedVariables false

def P32 : Nat := 3988292384
def M32 : Nat := 4294967295
def P64 : Nat := 14514072000185962306
def M64 : Nat := 18446744073709551615
def crc32 (bs : List Nat) : Nat := bytesIn P32 M32 bs ^^^ M32
def crc64 (bs : List Nat) : Nat := bytesIn P64 M64 bs ^^^ M64
def sumOf (kind : Int) (bs : List Nat) : Nat := if kind = 1 then crc32 bs else if kind = 2 then crc64 bs else if kind = 3 then xxh bs else 0

theorem sumOf1 (bs : List Nat) : sumOf 1 bs = crc32 bs := by unfold sumOf; rw [if_pos rfl]
theorem sumOf2 (bs : List Nat) : sumOf 2 bs = crc64 bs := by unfold sumOf; rw [if_neg (by decide), if_pos rfl]
theorem sumOf3 (bs : List Nat) : sumOf 3 bs = xxh bs := by unfold sumOf; rw [if_neg (by decide), if_neg (by decide), if_pos rfl]

theorem newCRC_i (poly mask : Nat) (pi mi : Int) (ep : pi = (poly : Int)) (em : mi = (mask : Int)) (hp : poly < 2 ^ 64) (w : World) :
  Calls Tryz.prog 74 #[.int .u64 pi, .int .u64 mi] w fun e w' => e = .returned (.pointer (some ⟨w.heap.size, 0, none⟩)) ∧ IsC w' w.heap.size poly mask mask ∧ Keep noBlock w w' := by
 subst ep; subst em; exact newCRC_any poly mask hp w

def ptr (b : Nat) : Value := .pointer (some ⟨b, 0, none⟩)
def SumCore (w : World) (sb cb : Nat) (kind : Int) (bs : List Nat) : Prop :=
 (kind = 1 ∧ w.heap[sb]? = some (.cells #[.iface 153 (.pointer (some ⟨cb, 0, none⟩))] 158 (0, 0)) ∧ IsC w cb P32 M32 (bytesIn P32 M32 bs)) ∨
 (kind = 2 ∧ w.heap[sb]? = some (.cells #[.iface 153 (.pointer (some ⟨cb, 0, none⟩))] 158 (0, 0)) ∧ IsC w cb P64 M64 (bytesIn P64 M64 bs)) ∨
 (kind = 3 ∧ w.heap[sb]? = some (.cells #[.iface 159 (.pointer (some ⟨cb, 0, none⟩))] 158 (0, 0)) ∧ IsX w cb bs) ∨
 ((kind ≠ 1 ∧ kind ≠ 2 ∧ kind ≠ 3) ∧ w.heap[sb]? = some (.cells #[.nilIface] 158 (0, 0)))
structure IsS (w : World) (sb cb : Nat) (kind : Int) (bs : List Nat) : Prop where
 core : SumCore w sb cb kind bs
 bytes : ∀ j : Nat, bs[j]?.getD 0 < 256
 len : bs.length < 2 ^ 61
 ne : sb ≠ cb

set_option maxRecDepth 100000 in
set_option maxHeartbeats 1000000 in
theorem new_any (kind : Int) (w : World) :
  Calls Tryz.prog 56 #[.int .i64 kind] w fun e w' => ∃ sb cb, e = .returned (.pointer (some ⟨sb, 0, none⟩)) ∧ w.heap.size ≤ sb ∧ w.heap.size ≤ cb ∧ IsS w' sb cb kind [] ∧ Keep noBlock w w' := by
 by_cases k1 : kind = 1
 ·subst k1
  go_enter Tryz.func56, Tryz.ntmps56
  go_wp2_with fail
  refine (newCRC_i P32 M32 _ _ (by simp [P32]) (by simp [M32]) (by decide) _).mono ?_
  rintro e w1 ⟨rfl, hC, hK⟩
  have hsz := hK.size
  have hlt := hC.lt
  go_wp2_with fail
  go_ret
  refine ⟨w1.heap.size, w.heap.size, rfl, hsz, Nat.le_refl _, ⟨.inl ⟨rfl, World.alloc_heap_new w1 _, hC.keep ((Keep.refl noBlock _).alloc _) (fun h => h)⟩, fun j => by simp, by decide, by omega⟩, hK.alloc _⟩
 by_cases k2 : kind = 2
 ·subst k2
  go_enter Tryz.func56, Tryz.ntmps56
  go_wp2_with fail
  refine (newCRC_i P64 M64 _ _ (by simp [P64]) (by simp [M64]) (by decide) _).mono ?_
  rintro e w1 ⟨rfl, hC, hK⟩
  have hsz := hK.size
  have hlt := hC.lt
  go_wp2_with fail
  go_ret
  refine ⟨w1.heap.size, w.heap.size, rfl, hsz, Nat.le_refl _, ⟨.inr (.inl ⟨rfl, World.alloc_heap_new w1 _, hC.keep ((Keep.refl noBlock _).alloc _) (fun h => h)⟩), fun j => by simp, by decide, by omega⟩, hK.alloc _⟩
 by_cases k3 : kind = 3
 ·subst k3
  go_enter Tryz.func56, Tryz.ntmps56
  go_wp2_with fail
  refine (newX_any _).mono ?_
  rintro e w1 ⟨rfl, hC, hK⟩
  have hsz := hK.size
  have hlt := hC.lt
  go_wp2_with fail
  go_ret
  refine ⟨w1.heap.size, w.heap.size, rfl, hsz, Nat.le_refl _, ⟨.inr (.inr (.inl ⟨rfl, World.alloc_heap_new w1 _, hC.keep ((Keep.refl noBlock _).alloc _) (fun h => h)⟩)), fun j => by simp, by decide, by omega⟩, hK.alloc _⟩
 ·have d1 : (kind == 1) = false := by simpa using k1
  have d2 : (kind == 2) = false := by simpa using k2
  have d3 : (kind == 3) = false := by simpa using k3
  have HKK : Hid (kind ≠ 1 ∧ kind ≠ 2 ∧ kind ≠ 3) := ⟨k1, k2, k3⟩
  clear k1 k2 k3
  go_enter Tryz.func56, Tryz.ntmps56
  go_wp2_with fail
  go_ret
  refine ⟨w.heap.size, w.heap.size + 1, rfl, Nat.le_refl _, by omega, ⟨.inr (.inr (.inr ⟨HKK.out, World.alloc_heap_new w _⟩)), fun j => by simp, by decide, by omega⟩, (Keep.refl _ w).alloc _⟩

theorem m46v (a : Addr) (w : World) : (method 178 153 (.pointer (some a)) "baler/sums.value").run Tryz.prog w = .ok (169, .pointer (some a)) w := by kernel_rfl
theorem m46a (a : Addr) (w : World) : (method 178 153 (.pointer (some a)) "baler/sums.add").run Tryz.prog w = .ok (168, .pointer (some a)) w := by kernel_rfl
theorem m52v (a : Addr) (w : World) : (method 178 159 (.pointer (some a)) "baler/sums.value").run Tryz.prog w = .ok (172, .pointer (some a)) w := by kernel_rfl
theorem m52a (a : Addr) (w : World) : (method 178 159 (.pointer (some a)) "baler/sums.add").run Tryz.prog w = .ok (170, .pointer (some a)) w := by kernel_rfl

set_option maxRecDepth 100000 in
set_option maxHeartbeats 1000000 in
theorem value_crc (sb cb poly mask x : Nat) (hm : mask < 2 ^ 64) (hx : x < 2 ^ 64) (w : World) (ho : w.heap[sb]? = some (.cells #[.iface 153 (.pointer (some ⟨cb, 0, none⟩))] 158 (0, 0))) (h : IsC w cb poly mask x) :
  Calls Tryz.prog 58 #[.pointer (some ⟨sb, 0, none⟩)] w fun e w' => e = .returned (.int .u64 ((x ^^^ mask : Nat) : Int)) ∧ ∃ n, w' = w.drewN n := by
 have hc : w.cell? ⟨sb, 0, none⟩ = some (.iface 153 (.pointer (some ⟨cb, 0, none⟩))) := cell_of ho 0
 have hmv := m46v ⟨cb, 0, none⟩
 go_enter Tryz.func58, Tryz.ntmps58
 go_wp2_with fail
 refine (crcValue_any cb poly mask x hm hx w h).mono ?_
 rintro e w' ⟨rfl, n, rfl⟩
 go_wp2_with fail
 go_ret
 exact ⟨rfl, n, rfl⟩

set_option maxRecDepth 100000 in
set_option maxHeartbeats 1000000 in
theorem value_xxh (sb cb : Nat) (bs : List Nat) (w : World) (ho : w.heap[sb]? = some (.cells #[.iface 159 (.pointer (some ⟨cb, 0, none⟩))] 158 (0, 0))) (h : IsX w cb bs) :
  Calls Tryz.prog 58 #[.pointer (some ⟨sb, 0, none⟩)] w fun e w' => e = .returned (.int .u64 ((xxh bs : Nat) : Int)) ∧ ∃ n, w' = w.drewN n := by
 have hc : w.cell? ⟨sb, 0, none⟩ = some (.iface 159 (.pointer (some ⟨cb, 0, none⟩))) := cell_of ho 0
 have hmv := m52v ⟨cb, 0, none⟩
 go_enter Tryz.func58, Tryz.ntmps58
 go_wp2_with fail
 refine (xval_any cb bs w h).mono ?_
 rintro e w' ⟨rfl, n, rfl⟩
 go_wp2_with fail
 go_ret
 exact ⟨rfl, n, rfl⟩

set_option maxRecDepth 100000 in
set_option maxHeartbeats 1000000 in
theorem value_none (sb : Nat) (w : World) (ho : w.heap[sb]? = some (.cells #[.nilIface] 158 (0, 0))) :
  Calls Tryz.prog 58 #[.pointer (some ⟨sb, 0, none⟩)] w fun e w' => e = .returned (.int .u64 0) ∧ ∃ n, w' = w.drewN n := by
 have hc : w.cell? ⟨sb, 0, none⟩ = some .nilIface := cell_of ho 0
 go_enter Tryz.func58, Tryz.ntmps58
 go_wp2_with fail
 go_ret
 exact ⟨rfl, 0, rfl⟩

theorem b64 {bs : List Nat} (h : ∀ j : Nat, bs[j]?.getD 0 < 256) : ∀ j : Nat, bs[j]?.getD 0 < 2 ^ 64 := fun j => Nat.lt_of_lt_of_le (h j) (by decide)
theorem b32 {bs : List Nat} (h : ∀ j : Nat, bs[j]?.getD 0 < 256) : ∀ j : Nat, bs[j]?.getD 0 < 2 ^ 32 := fun j => Nat.lt_of_lt_of_le (h j) (by decide)
theorem in32_lt {bs : List Nat} (h : ∀ j : Nat, bs[j]?.getD 0 < 256) : bytesIn P32 M32 bs < 2 ^ 32 := bytesIn_lt (by decide) bs (b32 h) M32 (by decide)
theorem in64_lt {bs : List Nat} (h : ∀ j : Nat, bs[j]?.getD 0 < 256) : bytesIn P64 M64 bs < 2 ^ 64 := bytesIn_lt (by decide) bs (b64 h) M64 (by decide)

theorem value_any (sb cb : Nat) (kind : Int) (bs : List Nat) (w : World) (h : IsS w sb cb kind bs) :
  Calls Tryz.prog 58 #[.pointer (some ⟨sb, 0, none⟩)] w fun e w' => e = .returned (.int .u64 ((sumOf kind bs : Nat) : Int)) ∧ ∃ n, w' = w.drewN n := by
 have h32 := in32_lt h.bytes
 rcases h.core with ⟨rfl, ho, hi⟩ | ⟨rfl, ho, hi⟩ | ⟨rfl, ho, hi⟩ | ⟨⟨k1, k2, k3⟩, ho⟩
 ·rw [sumOf1, crc32]
  exact value_crc sb cb P32 M32 _ (by decide) (Nat.lt_trans h32 (by decide)) w ho hi
 ·rw [sumOf2, crc64]
  exact value_crc sb cb P64 M64 _ (by decide) (in64_lt h.bytes) w ho hi
 ·rw [sumOf3]
  exact value_xxh sb cb bs w ho hi
 ·have e0 : sumOf kind bs = 0 := by simp [sumOf, k1, k2, k3]
  rw [e0]
  exact value_none sb w ho

set_option maxRecDepth 100000 in
set_option maxHeartbeats 1000000 in
theorem add_crc (sb cb poly mask x : Nat) (hp : poly < 2 ^ 64) (hx : x < 2 ^ 64) (a : Option Addr) (cap gb off : Nat) (bs : List Nat) (hbs : ∀ j : Nat, bs[j]?.getD 0 < 256) (hfit : bs.length < 2 ^ 48) (w : World) (ho : w.heap[sb]? = some (.cells #[.iface 153 (.pointer (some ⟨cb, 0, none⟩))] 158 (0, 0))) (h : IsC w cb poly mask x)
  (ha : a = some ⟨gb, off, none⟩ ∨ bs = []) (hcs : ∀ j, j < bs.length → w.cell? ⟨gb, off + j, none⟩ = some (.int .u8 ((bs[j]?.getD 0 : Nat) : Int))) (hne : gb ≠ cb) :
  Calls Tryz.prog 57 #[.pointer (some ⟨sb, 0, none⟩), .slice a bs.length cap] w fun e w' => e = .returned (.tuple #[]) ∧ IsC w' cb poly mask (bytesIn poly x bs) ∧ Keep (fun k => k = cb) w w' := by
 have hc : w.cell? ⟨sb, 0, none⟩ = some (.iface 153 (.pointer (some ⟨cb, 0, none⟩))) := cell_of ho 0
 have hmv := m46a ⟨cb, 0, none⟩
 have HH := crcAdd_any cb poly mask x hp hx a cap gb off bs hbs hfit w h ha hcs hne
 clear ha hcs hbs
 go_enter Tryz.func57, Tryz.ntmps57
 go_wp2_with fail
 refine HH.mono ?_
 rintro e w' ⟨rfl, h1, h2⟩
 go_wp2_with fail
 go_end0
 exact ⟨rfl, h1, h2⟩

set_option maxRecDepth 100000 in
set_option maxHeartbeats 1000000 in
theorem add_xxh (sb cb : Nat) (L : List Nat) (a : Option Addr) (cap gb off : Nat) (bs : List Nat) (hbs : ∀ j : Nat, bs[j]?.getD 0 < 256) (hcap : bs.length ≤ cap) (hfit : L.length + bs.length < 2 ^ 62) (w : World) (ho : w.heap[sb]? = some (.cells #[.iface 159 (.pointer (some ⟨cb, 0, none⟩))] 158 (0, 0))) (h : IsX w cb L)
  (ha : a = some ⟨gb, off, none⟩ ∨ bs = []) (hcs : ∀ j, j < bs.length → w.cell? ⟨gb, off + j, none⟩ = some (.int .u8 ((bs[j]?.getD 0 : Nat) : Int))) (hne : gb ≠ cb) :
  Calls Tryz.prog 57 #[.pointer (some ⟨sb, 0, none⟩), .slice a bs.length cap] w fun e w' => e = .returned (.tuple #[]) ∧ IsX w' cb (L ++ bs) ∧ Keep (fun k => k = cb) w w' := by
 have hc : w.cell? ⟨sb, 0, none⟩ = some (.iface 159 (.pointer (some ⟨cb, 0, none⟩))) := cell_of ho 0
 have hmv := m52a ⟨cb, 0, none⟩
 have HH := xadd_any cb L a cap gb off bs hbs hcap hfit w h ha hcs hne
 clear ha hcs hbs hcap hfit
 go_enter Tryz.func57, Tryz.ntmps57
 go_wp2_with fail
 refine HH.mono ?_
 rintro e w' ⟨rfl, h1, h2⟩
 go_wp2_with fail
 go_end0
 exact ⟨rfl, h1, h2⟩

set_option maxRecDepth 100000 in
set_option maxHeartbeats 1000000 in
theorem add_none (sb : Nat) (v : Value) (w : World) (ho : w.heap[sb]? = some (.cells #[.nilIface] 158 (0, 0))) :
  Calls Tryz.prog 57 #[.pointer (some ⟨sb, 0, none⟩), v] w fun e w' => e = .returned (.tuple #[]) ∧ w' = w := by
 have hc : w.cell? ⟨sb, 0, none⟩ = some .nilIface := cell_of ho 0
 go_enter Tryz.func57, Tryz.ntmps57
 go_wp2_with fail
 refine bodyPost_ret (results_none rfl _ _ _) rfl ?_
 exact ⟨rfl, rfl⟩

/-- A slice of bytes: where they lie, and what they are. -/
structure Bytes (w : World) (a : Option Addr) (cap gb off : Nat) (bs : List Nat) : Prop where
 at_ : a = some ⟨gb, off, none⟩ ∨ bs = []
 cells : ∀ j, j < bs.length → w.cell? ⟨gb, off + j, none⟩ = some (.int .u8 ((bs[j]?.getD 0 : Nat) : Int))
 lt : ∀ j : Nat, bs[j]?.getD 0 < 256
 cap : bs.length ≤ cap
 len : bs.length < 2 ^ 48
theorem Bytes.block {w : World} {a : Option Addr} {cap gb off : Nat} {bs : List Nat} (h : Bytes w a cap gb off bs) (hb : bs ≠ []) : gb < w.heap.size :=
 World.block_lt_of_cell? w ⟨gb, off + 0, none⟩ (h.cells 0 (List.length_pos_iff.2 hb))
theorem Bytes.keep {w w' : World} {S : Nat → Prop} {a : Option Addr} {cap gb off : Nat} {bs : List Nat} (h : Bytes w a cap gb off bs) (hk : Keep S w w') (hS : bs ≠ [] → ¬ S gb) : Bytes w' a cap gb off bs :=
 ⟨h.at_, fun j hj => by
  have hne : bs ≠ [] := by rintro rfl; simp at hj
  exact (World.cell?_of_block (hk.block gb (h.block hne) (hS hne))).trans (h.cells j hj), h.lt, h.cap, h.len⟩

theorem add_any (sb cb : Nat) (kind : Int) (L : List Nat) (a : Option Addr) (cap gb off : Nat) (bs : List Nat) (w : World) (h : IsS w sb cb kind L) (hb : Bytes w a cap gb off bs) (hl : L.length + bs.length < 2 ^ 61) (hne0 : bs ≠ [] → gb ≠ cb) :
  Calls Tryz.prog 57 #[.pointer (some ⟨sb, 0, none⟩), .slice a bs.length cap] w fun e w' => e = .returned (.tuple #[]) ∧ IsS w' sb cb kind (L ++ bs) ∧ Keep (fun k => k = cb) w w' := by
 obtain ⟨gb', off', hb', hne⟩ : ∃ gb' off', Bytes w a cap gb' off' bs ∧ gb' ≠ cb := by
  by_cases e : bs = []
  ·subst e
   exact ⟨cb + 1, 0, ⟨.inr rfl, fun j hj => by simp at hj, hb.lt, hb.cap, hb.len⟩, by omega⟩
  ·exact ⟨gb, off, hb, hne0 e⟩
 have hbl := app_lt h.bytes hb'.lt
 have hll : (L ++ bs).length < 2 ^ 61 := by rw [List.length_append]; exact hl
 have h32 := in32_lt h.bytes
 have hsne := h.ne
 rcases h.core with ⟨rfl, ho, hi⟩ | ⟨rfl, ho, hi⟩ | ⟨rfl, ho, hi⟩ | ⟨⟨k1, k2, k3⟩, ho⟩
 ·refine (add_crc sb cb P32 M32 _ (by decide) (Nat.lt_trans h32 (by decide)) a cap gb' off' bs hb'.lt hb'.len w ho hi hb'.at_ hb'.cells hne).mono ?_
  rintro e w' ⟨rfl, h1, h2⟩
  rw [← bytesIn_append] at h1
  exact ⟨rfl, ⟨.inl ⟨rfl, h2.obj ho hsne, h1⟩, hbl, hll, hsne⟩, h2⟩
 ·refine (add_crc sb cb P64 M64 _ (by decide) (in64_lt h.bytes) a cap gb' off' bs hb'.lt hb'.len w ho hi hb'.at_ hb'.cells hne).mono ?_
  rintro e w' ⟨rfl, h1, h2⟩
  rw [← bytesIn_append] at h1
  exact ⟨rfl, ⟨.inr (.inl ⟨rfl, h2.obj ho hsne, h1⟩), hbl, hll, hsne⟩, h2⟩
 ·refine (add_xxh sb cb L a cap gb' off' bs hb'.lt hb'.cap (by omega) w ho hi hb'.at_ hb'.cells hne).mono ?_
  rintro e w' ⟨rfl, h1, h2⟩
  exact ⟨rfl, ⟨.inr (.inr (.inl ⟨rfl, h2.obj ho hsne, h1⟩)), hbl, hll, hsne⟩, h2⟩
 ·refine (add_none sb _ w ho).mono ?_
  rintro e w' ⟨rfl, rfl⟩
  exact ⟨rfl, ⟨.inr (.inr (.inr ⟨⟨k1, k2, k3⟩, ho⟩)), hbl, hll, hsne⟩, Keep.refl _ _⟩

set_option maxRecDepth 100000 in
set_option maxHeartbeats 1000000 in
theorem whole_any (kind : Int) (a : Option Addr) (cap gb off : Nat) (bs : List Nat) (w : World) (hb : Bytes w a cap gb off bs) :
  Calls Tryz.prog 42 #[.int .i64 kind, .slice a bs.length cap] w fun e w' => e = .returned (.int .u64 ((sumOf kind bs : Nat) : Int)) ∧ Keep noBlock w w' := by
 have HB := (show Hid _ from hb)
 clear hb
 go_enter Tryz.func42, Tryz.ntmps42
 go_wp2_with fail
 refine (new_any kind w).mono ?_
 rintro e w1 ⟨sb, cb, rfl, hsb, hcb, hS, hK⟩
 go_wp2_with fail
 refine (add_any sb cb kind [] a cap gb off bs w1 hS (HB.out.keep hK (fun _ h => h)) (by have := HB.out.len; simp; omega) (fun hne => by have := HB.out.block hne; omega)).mono ?_
 rintro e w2 ⟨rfl, hS2, hK2⟩
 rw [List.nil_append] at hS2
 have hK3 : Keep noBlock w w2 := hK.trans hK2 (fun i hi e => by omega)
 clear hS hK hK2
 go_wp2_with fail
 refine (value_any sb cb kind bs w2 hS2).mono ?_
 rintro e w3 ⟨rfl, n, rfl⟩
 go_wp2_with fail
 go_ret
 exact ⟨rfl, hK3.trans' (keep_drewN _ _)⟩

set_option maxRecDepth 100000 in
set_option maxHeartbeats 1000000 in
theorem xxh_any (a : Option Addr) (cap gb off : Nat) (bs : List Nat) (w : World) (hb : Bytes w a cap gb off bs) :
  Calls Tryz.prog 28 #[.slice a bs.length cap] w fun e w' => e = .returned (.int .u64 ((xxh bs : Nat) : Int)) ∧ Keep noBlock w w' := by
 have HW := whole_any 3 a cap gb off bs w hb
 rw [sumOf3] at HW
 clear hb
 go_enter Tryz.func28, Tryz.ntmps28
 go_wp2_with fail
 refine HW.mono ?_
 rintro e w1 ⟨rfl, hK⟩
 go_wp2_with fail
 go_ret
 exact ⟨rfl, hK⟩

end Go.Proofs.YtnjilcokkhodmaaGreatDoor.Xs
