/-
  Bytes that go into an XXH64.
  The sums that grow: New, Add, Value; and the three numbers of bytes.
  What the layers below tell, as plain functions; a frame as it lies.
  The statement 'for .. := range g', where the function has a block of its own, which no round touches.
  A frame as it lies, with all that it leans on.
-/
import Derived.Test.YtnjilcokkhodmaaGreatDoorZP5
import Derived.Test.YtnjilcokkhodmaaGreatDoorZP15
import Derived.Test.YtnjilcokkhodmaaGreatDoorZP16
import Derived.Test.YtnjilcokkhodmaaGreatDoorZP18
import Derived.Test.YtnjilcokkhodmaaGreatDoorZP20
import Derived.Test.YtnjilcokkhodmaaGreatDoorZP21
namespace Go.Proofs.YtnjilcokkhodmaaGreatDoor.Xs
open Go.RowKit Go.Shelf
set_option linter.unusedVariables false

theorem Xc.stripe {L : List Nat} {k : Nat} {cs : Array Value} (h : Xc L k 32 cs) : Xs L k 0 cs :=
 ⟨h.size, fun j hj => by rw [if_neg (by omega)]; exact h.four j hj, h.rest, h.num⟩
theorem Xs.done {L : List Nat} {k : Nat} {cs : Array Value} (h : Xs L k 4 cs) : Xc L (k + 1) 0 cs :=
 ⟨h.size, fun i hi => by rw [h.four i hi, if_pos hi], fun j hj => ⟨_, h.rest j hj⟩, fun j hj => by omega, h.num⟩
theorem app_lt {L X : List Nat} (hL : ∀ j : Nat, L[j]?.getD 0 < 256) (hX : ∀ j : Nat, X[j]?.getD 0 < 256) : ∀ j : Nat, (L ++ X)[j]?.getD 0 < 256 := by
 intro j
 rw [List.getElem?_append]
 split
 ·exact hL j
 ·exact hX _
theorem drop_lt {bs : List Nat} (h : ∀ j : Nat, bs[j]?.getD 0 < 256) (k : Nat) : ∀ j : Nat, (bs.drop k)[j]?.getD 0 < 256 := by
 intro j
 rw [List.getElem?_drop]
 exact h _
def piece (bs : List Nat) (k t : Nat) : List Nat := (bs.drop k).take t
theorem piece_length (bs : List Nat) (k t : Nat) (h : k + t ≤ bs.length) : (piece bs k t).length = t := by simp [piece]; omega
theorem take_piece (bs : List Nat) (k t : Nat) : bs.take (k + t) = bs.take k ++ piece bs k t := by simp [piece, List.take_add]
theorem piece_at (bs : List Nat) (k t j : Nat) (hj : j < t) : (piece bs k t)[j]?.getD 0 = bs[k + j]?.getD 0 := by
 simp [piece, hj]
theorem keep_setRow {S : Nat → Prop} {a w : World} (h : Keep S a w) (g : Nat) (hg : S g) (cs : Array Value) : Keep S a (w.setRow g cs) :=
 h.trans (T := fun k => k = g) ⟨rfl, rfl, rfl, by simp [World.setRow], fun k _ hk => setRow_other w g k cs hk⟩ (fun i _ e => by subst e; exact hg)

set_option maxRecDepth 100000 in
set_option maxHeartbeats 4000000 in
theorem xadd_any (b : Nat) (L : List Nat) (a : Option Addr) (cap gb off : Nat) (bs : List Nat) (hbs : ∀ j : Nat, bs[j]?.getD 0 < 256) (hcap : bs.length ≤ cap) (hfit : L.length + bs.length < 2 ^ 62) (w : World) (h : IsX w b L)
  (ha : a = some ⟨gb, off, none⟩ ∨ bs = []) (hcs : ∀ j, j < bs.length → w.cell? ⟨gb, off + j, none⟩ = some (.int .u8 ((bs[j]?.getD 0 : Nat) : Int))) (hne : gb ≠ b) :
  Calls Tryz.prog 170 #[.pointer (some ⟨b, 0, none⟩), .slice a bs.length cap] w fun e w' => e = .returned (.tuple #[]) ∧ IsX w' b (L ++ bs) ∧ Keep (fun k => k = b) w w' := by
 have HC := (show Hid _ from hcs)
 have HA := (show Hid _ from ha)
 have HX := (show Hid _ from hbs)
 clear hcs ha hbs
 go_enter Tryz.func170, Tryz.ntmps170
 go_wp2_with fail
 go_loopw [1] (fun v wr => ∃ (k r c o : Nat) (a' : Option Addr), (k + r = bs.length ∧ r ≤ c ∧ (r = 0 ∨ (a' = some ⟨gb, o, none⟩ ∧ o = off + k))) ∧ v = .slice a' r c ∧ IsX wr b (L ++ bs.take k) ∧ Keep (fun k => k = b) w wr) (fun v _ => lenV v)
 case atStart =>
  refine ⟨0, bs.length, cap, off, a, ⟨by omega, hcap, ?_⟩, rfl, by simpa using h, Keep.refl _ _⟩
  rcases HA.out with e | e
  ·exact .inr ⟨e, rfl⟩
  ·exact .inl (by rw [e]; rfl)
 case round =>
  clear h
  obtain ⟨k, r, c, o, a', hk, rfl, hX, hK⟩ := hrel
  by_cases hr : 0 < r
  ·obtain ⟨hk1, hk2, hk3⟩ := hk
   obtain ⟨rfl, ho⟩ : a' = some ⟨gb, o, none⟩ ∧ o = off + k := hk3.resolve_left (by omega)
   obtain ⟨⟨cs, hob, hxc⟩, h256, hfl⟩ := hX
   have hPl : (L ++ bs.take k).length = L.length + k := by simp; omega
   obtain ⟨t, ht⟩ : ∃ t, t = Nat.min r (32 - (L ++ bs.take k).length % 32) := ⟨_, rfl⟩
   have htl : t ≤ r ∧ t ≤ 32 - (L ++ bs.take k).length % 32 ∧ 0 < t ∧ (t = r ∨ t = 32 - (L ++ bs.take k).length % 32) := by
    have : Nat.min r (32 - (L ++ bs.take k).length % 32) = min r (32 - (L ++ bs.take k).length % 32) := rfl
    omega
   have hnext : L ++ bs.take (k + t) = (L ++ bs.take k) ++ piece bs k t := by rw [take_piece, List.append_assoc]
   have hpl : (piece bs k t).length = t := piece_length bs k t (by omega)
   have hp256 : ∀ j : Nat, (piece bs k t)[j]?.getD 0 < 256 := take_lt (drop_lt HX.out k) t
   have hsrc : ∀ j u, (u8s (piece bs k t))[j]? = some u → wr.cell? ((⟨gb, o, none⟩ : Addr).add j) = some u := fun j u hu => by
    have hj : j < t := by
     have := (List.getElem?_eq_some_iff.1 hu).1
     rwa [u8s_length, hpl] at this
    rw [u8s_at _ j (by omega), piece_at bs k t j hj] at hu
    have h1 := HC.out (k + j) (by omega)
    have h2 := (World.cell?_of_block (hK.block gb (World.block_lt_of_cell? w ⟨gb, off + (k + j), none⟩ h1) hne)).trans h1
    rw [← Nat.add_assoc, ← ho] at h2
    rw [← hu, ← h2]
    unfold Addr.add; split <;> simp_all
   have HN := (show Hid _ from hnext)
   have HP := (show Hid _ from hp256)
   have HO := (show Hid _ from ho)
   have HPL := (show Hid _ from hPl)
   have H256 := (show Hid _ from h256)
   clear hnext hp256 ho hPl h256
   generalize L ++ bs.take k = P at *
   generalize piece bs k t = X at *
   have hgrow := hxc.grow X (by omega)
   have hxs := u8s_length X
   have hone := u8s_one X
   have HG := (show Hid _ from hgrow)
   unfold grown at HG
   clear hgrow
   have hnum : wr.cell? ⟨b, 36, none⟩ = some (.int .u64 (P.length : Int)) := (cell_of hob 36).trans hxc.num
   have hcsz := hxc.size
   have hc36 := hxc.num
   clear hxc
   generalize u8s X = xs at *
   rw [hpl] at hxs
   rw [hpl] at HG
   obtain ⟨n, hn⟩ : ∃ n, P.length = n := ⟨_, rfl⟩
   rw [hn] at HG HPL htl hnum ht hfl hc36
   obtain ⟨m, hm⟩ : ∃ m, n % 32 = m := ⟨_, rfl⟩
   rw [hm] at HG htl ht
   have hm32 : m < 32 := by omega
   have hn62 : n < 2 ^ 62 := by have := HPL.out; omega
   have hheld := held_any b n wr hn62 hnum
   rw [hm] at hheld
   have HPN := (show Hid _ from hn)
   have HM := (show Hid _ from hm)
   have HT := (show Hid _ from ht)
   have HTL := (show Hid _ from htl)
   have hmin : xs.length = Nat.min r (32 - m) := by rw [hxs]; exact ht
   have ht1 : (t : Int) ≤ (r : Int) := by omega
   have ht0 : (0 : Int) ≤ (t : Int) := by omega
   have hm0 : (0 : Int) ≤ (m : Int) := by omega
   have hm1 : (m : Int) ≤ 32 := by omega
   have hmne : ¬ 32 = m := by omega
   have htr : t ≤ r := htl.1
   have hn63 : (n : Int) + (t : Int) < 18446744073709551616 := by have := HPL.out; omega
   have hfitc : 4 + m + xs.length ≤ cs.size := by rw [hcsz, hxs]; omega
   have hr63 : r < 2 ^ 62 := by omega
   have HF := (show Hid _ from hfit)
   have HXL := (show Hid _ from hpl)
   clear hn hm ht htl hcap hfit hfl hpl
   have hK0 := hK
   go_wp2_with fail
   refine hheld.mono ?_
   rintro e w' ⟨rfl, n1, rfl⟩
   clear hheld hnum
   have hobW : (wr.drewN n1).heap[b]? = some (.cells cs 185 (0, 0)) := hob
   have hsrcW : ∀ j u, xs[j]? = some u → (wr.drewN n1).cell? ((⟨gb, o, none⟩ : Addr).add j) = some u := hsrc
   have hKW : Keep (fun k => k = b) w (wr.drewN n1) := hK.trans (keep_drewN wr _) (fun i _ e => e.elim)
   clear hob hsrc hK hK0
   generalize wr.drewN n1 = W at hobW hsrcW hKW ⊢
   have hcopy := run_copy_row Tryz.prog W 22 22 3 5 b (4 + m) (32 - m) (32 - m) ⟨gb, o, none⟩ r c cs 185 xs Tryz.underlying22 (by kernel_rfl) hobW hmin hsrcW hfitc hone
   rw [List.append_assoc] at hcopy
   have hob2 := setRow_heap W b cs (cs.toList.take (4 + m) ++ (xs ++ cs.toList.drop (4 + m + xs.length))).toArray 185 _ hobW
   have hK2 := keep_setRow hKW b rfl (cs.toList.take (4 + m) ++ (xs ++ cs.toList.drop (4 + m + xs.length))).toArray
   generalize W.setRow b (cs.toList.take (4 + m) ++ (xs ++ cs.toList.drop (4 + m + xs.length))).toArray = W2 at hcopy hob2 hK2
   have hcs2 : (cs.toList.take (4 + m) ++ (xs ++ cs.toList.drop (4 + m + xs.length))).toArray[36]? = some (.int .u64 (n : Int)) := by
    rw [List.getElem?_toArray, mid_at _ _ _ _ (by simpa using hfitc), if_neg (by omega), if_neg (by have := HTL.out; omega)]
    simpa using hc36
   generalize (cs.toList.take (4 + m) ++ (xs ++ cs.toList.drop (4 + m + xs.length))).toArray = cs2 at hob2 HG hcs2
   rw [hxs] at hcopy
   have hgi : goInt t = .int .i64 (t : Int) := rfl
   rw [hgi] at hcopy
   have hc36' : W2.cell? ⟨b, 36, none⟩ = some (.int .u64 (n : Int)) := (cell_of hob2 36).trans hcs2
   have hf36 := frozen_of hob2 36
   clear hsrcW hobW hgi hmin hfitc hone hxs hcs2
   have hmt : (m : Int) + (t : Int) ≤ 32 := by have := HTL.out; omega
   have htc : t ≤ c := by omega
   have ht33 : (t : Int) ≤ 32 := by omega
   have hwr : IntKind.u64.wrap ((n : Int) + (t : Int)) = (n : Int) + (t : Int) := by rw [IntKind.wrap_u64]; omega
   have hwt : IntKind.u64.wrap (t : Int) = (t : Int) := by rw [IntKind.wrap_u64]; omega
   have HK1 := (show Hid _ from hk1)
   have HLT : Hid (n + t < 2 ^ 62) := by have := HPL.out; have := HTL.out; have := HF.out; exact (show n + t < 2 ^ 62 by omega)
   clear hk3 hc36 hn63 hn62 hcsz hk1
   have hlen : (P ++ X).length = n + t := by rw [List.length_append, HPN.out, HXL.out]
   have HLEN := (show Hid _ from hlen)
   clear hlen
   by_cases h32 : m + t = 32
   ·have hd : ((m : Int) + (t : Int) == 32) = true := by simp; omega
    by_cases hct : c = t
    ·obtain rfl : t = c := hct.symm
     clear hct
     obtain rfl : t = r := by have := HTL.out; omega
     go_wp2_with fail
     refine (stripe_any b (P ++ X) (n / 32) _ (app_lt H256.out HP.out) _ (set_obj hob2 36 _) ?_).mono ?_
     ·have := HG.out
      rw [h32] at this
      simpa using this.stripe
     rintro e w' ⟨rfl, ⟨cs3, hob3, hx3⟩, hK3⟩
     go_wp2_with fail
     go_roundw
     case rel =>
      have h1 := HTL.out
      have h2 := HK1.out
      have h3 := HM.out
      have h4 := HO.out
      refine ⟨k + t, t - t, t - t, o + t, if t = t then some ⟨gb, o, none⟩ else some ⟨gb, o + t, none⟩, ⟨by omega, by omega, ?_⟩, by first | rfl | (simp; done), ?_, ?_⟩
      ·first
        | exact .inl (by omega)
        | exact .inr ⟨if_neg (by omega), by omega⟩
      ·rw [HN.out]
       refine ⟨⟨cs3, hob3, ?_⟩, app_lt H256.out HP.out, by rw [HLEN.out]; exact HLT.out⟩
       have e1 : (P ++ X).length / 32 = n / 32 + 1 := by rw [HLEN.out]; omega
       have e2 : (P ++ X).length % 32 = 0 := by rw [HLEN.out]; omega
       rw [e1, e2]
       exact hx3.done
      ·exact (hK2.setCell (p := ⟨b, 36, none⟩) (fun _ => rfl) _).trans hK3 (fun _ _ e => e)
     case measure => simp only [lenV]; have := HTL.out; omega
    ·go_wp2_with fail
     refine (stripe_any b (P ++ X) (n / 32) _ (app_lt H256.out HP.out) _ (set_obj hob2 36 _) ?_).mono ?_
     ·have := HG.out
      rw [h32] at this
      simpa using this.stripe
     rintro e w' ⟨rfl, ⟨cs3, hob3, hx3⟩, hK3⟩
     go_wp2_with fail
     go_roundw
     case rel =>
      have h1 := HTL.out
      have h2 := HK1.out
      have h3 := HM.out
      have h4 := HO.out
      refine ⟨k + t, r - t, c - t, o + t, if c = t then some ⟨gb, o, none⟩ else some ⟨gb, o + t, none⟩, ⟨by omega, by omega, ?_⟩, by simp [hct], ?_, ?_⟩
      ·first
        | exact .inl (by omega)
        | exact .inr ⟨if_neg hct, by omega⟩
      ·rw [HN.out]
       refine ⟨⟨cs3, hob3, ?_⟩, app_lt H256.out HP.out, by rw [HLEN.out]; exact HLT.out⟩
       have e1 : (P ++ X).length / 32 = n / 32 + 1 := by rw [HLEN.out]; omega
       have e2 : (P ++ X).length % 32 = 0 := by rw [HLEN.out]; omega
       rw [e1, e2]
       exact hx3.done
      ·exact (hK2.setCell (p := ⟨b, 36, none⟩) (fun _ => rfl) _).trans hK3 (fun _ _ e => e)
     case measure => simp only [lenV]; have := HTL.out; omega
   ·have hd : ((m : Int) + (t : Int) == 32) = false := by simp; omega
    go_wp2_with fail
    go_roundw
    case rel =>
     have h1 := HTL.out
     have h2 := HK1.out
     have h3 := HM.out
     have h4 := HO.out
     refine ⟨k + t, r - t, c - t, o + t, if c = t then some ⟨gb, o, none⟩ else some ⟨gb, o + t, none⟩, ⟨by omega, by omega, ?_⟩, rfl, ?_, ?_⟩
     ·by_cases hct : c = t
      ·exact .inl (by omega)
      ·exact .inr ⟨if_neg hct, by omega⟩
     ·rw [HN.out]
      refine ⟨⟨_, set_obj hob2 36 _, ?_⟩, app_lt H256.out HP.out, by rw [HLEN.out]; exact HLT.out⟩
      have e1 : (P ++ X).length / 32 = n / 32 := by rw [HLEN.out]; omega
      have e2 : (P ++ X).length % 32 = m + t := by rw [HLEN.out]; omega
      rw [e1, e2]
      simpa using HG.out
     ·exact hK2.setCell (p := ⟨b, 36, none⟩) (fun _ => rfl) _
    case measure => simp only [lenV]; have := HTL.out; omega
  ·obtain rfl : r = 0 := by omega
   obtain rfl : k = bs.length := by omega
   rw [List.take_length] at hX
   go_wp2
   go_end0
   exact ⟨rfl, hX, hK⟩

end Go.Proofs.YtnjilcokkhodmaaGreatDoor.Xs

namespace Go.Proofs.YtnjilcokkhodmaaGreatDoor.Xs
open Go.RowKit Go.Shelf
set_option linter.unusedVariables false

def P32 : Nat := 3988292384
def M32 : Nat := 4294967295
def P64 : Nat := 14514072000185962306
def M64 : Nat := 18446744073709551615
def crc32 (bs : List Nat) : Nat := bytesIn P32 M32 bs ^^^ M32
def crc64 (bs : List Nat) : Nat := bytesIn P64 M64 bs ^^^ M64
def sumOf (kind : Int) (bs : List Nat) : Nat := if kind = 1 then crc32 bs else if kind = 2 then crc64 bs else if kind = 3 then xxh bs else 0

theorem sumOf1 (bs : List Nat) : sumOf 1 bs = crc32 bs := by unfold sumOf; rw [if_pos rfl]
theorem sumOf2 (bs : List Nat) : sumOf 2 bs = crc64 bs := by unfold sumOf; rw [if_neg (by decide), if_pos rfl]
theorem sumOf3 (bs : List Nat) : sumOf 3 bs = xxh bs := by unfold sumOf; rw [if_neg (by decide), if_neg (by decide), if_pos rfl]

theorem newCRC_i (poly mask : Nat) (pi mi : Int) (ep : pi = (poly : Int)) (em : mi = (mask : Int)) (hp : poly < 2 ^ 64) (w : World) :
  Calls Tryz.prog 74 #[.int .u64 pi, .int .u64 mi] w fun e w' => e = .returned (.pointer (some ⟨w.heap.size, 0, none⟩)) ∧ IsC w' w.heap.size poly mask mask ∧ Keep noBlock w w' := by
 subst ep; subst em; exact newCRC_any poly mask hp w

def ptr (b : Nat) : Value := .pointer (some ⟨b, 0, none⟩)
def SumCore (w : World) (sb cb : Nat) (kind : Int) (bs : List Nat) : Prop :=
 (kind = 1 ∧ w.heap[sb]? = some (.cells #[.iface 153 (.pointer (some ⟨cb, 0, none⟩))] 158 (0, 0)) ∧ IsC w cb P32 M32 (bytesIn P32 M32 bs)) ∨
 (kind = 2 ∧ w.heap[sb]? = some (.cells #[.iface 153 (.pointer (some ⟨cb, 0, none⟩))] 158 (0, 0)) ∧ IsC w cb P64 M64 (bytesIn P64 M64 bs)) ∨
 (kind = 3 ∧ w.heap[sb]? = some (.cells #[.iface 159 (.pointer (some ⟨cb, 0, none⟩))] 158 (0, 0)) ∧ IsX w cb bs) ∨
 ((kind ≠ 1 ∧ kind ≠ 2 ∧ kind ≠ 3) ∧ w.heap[sb]? = some (.cells #[.nilIface] 158 (0, 0)))
structure IsS (w : World) (sb cb : Nat) (kind : Int) (bs : List Nat) : Prop where
 core : SumCore w sb cb kind bs
 bytes : ∀ j : Nat, bs[j]?.getD 0 < 256
 len : bs.length < 2 ^ 61
 ne : sb ≠ cb

set_option maxRecDepth 100000 in
set_option maxHeartbeats 1000000 in
theorem new_any (kind : Int) (w : World) :
  Calls Tryz.prog 56 #[.int .i64 kind] w fun e w' => ∃ sb cb, e = .returned (.pointer (some ⟨sb, 0, none⟩)) ∧ w.heap.size ≤ sb ∧ w.heap.size ≤ cb ∧ IsS w' sb cb kind [] ∧ Keep noBlock w w' := by
 by_cases k1 : kind = 1
 ·subst k1
  go_enter Tryz.func56, Tryz.ntmps56
  go_wp2_with fail
  refine (newCRC_i P32 M32 _ _ (by simp [P32]) (by simp [M32]) (by decide) _).mono ?_
  rintro e w1 ⟨rfl, hC, hK⟩
  have hsz := hK.size
  have hlt := hC.lt
  go_wp2_with fail
  go_ret
  refine ⟨w1.heap.size, w.heap.size, rfl, hsz, Nat.le_refl _, ⟨.inl ⟨rfl, World.alloc_heap_new w1 _, hC.keep ((Keep.refl noBlock _).alloc _) (fun h => h)⟩, fun j => by simp, by decide, by omega⟩, hK.alloc _⟩
 by_cases k2 : kind = 2
 ·subst k2
  go_enter Tryz.func56, Tryz.ntmps56
  go_wp2_with fail
  refine (newCRC_i P64 M64 _ _ (by simp [P64]) (by simp [M64]) (by decide) _).mono ?_
  rintro e w1 ⟨rfl, hC, hK⟩
  have hsz := hK.size
  have hlt := hC.lt
  go_wp2_with fail
  go_ret
  refine ⟨w1.heap.size, w.heap.size, rfl, hsz, Nat.le_refl _, ⟨.inr (.inl ⟨rfl, World.alloc_heap_new w1 _, hC.keep ((Keep.refl noBlock _).alloc _) (fun h => h)⟩), fun j => by simp, by decide, by omega⟩, hK.alloc _⟩
 by_cases k3 : kind = 3
 ·subst k3
  go_enter Tryz.func56, Tryz.ntmps56
  go_wp2_with fail
  refine (newX_any _).mono ?_
  rintro e w1 ⟨rfl, hC, hK⟩
  have hsz := hK.size
  have hlt := hC.lt
  go_wp2_with fail
  go_ret
  refine ⟨w1.heap.size, w.heap.size, rfl, hsz, Nat.le_refl _, ⟨.inr (.inr (.inl ⟨rfl, World.alloc_heap_new w1 _, hC.keep ((Keep.refl noBlock _).alloc _) (fun h => h)⟩)), fun j => by simp, by decide, by omega⟩, hK.alloc _⟩
 ·have d1 : (kind == 1) = false := by simpa using k1
  have d2 : (kind == 2) = false := by simpa using k2
  have d3 : (kind == 3) = false := by simpa using k3
  have HKK : Hid (kind ≠ 1 ∧ kind ≠ 2 ∧ kind ≠ 3) := ⟨k1, k2, k3⟩
  clear k1 k2 k3
  go_enter Tryz.func56, Tryz.ntmps56
  go_wp2_with fail
  go_ret
  refine ⟨w.heap.size, w.heap.size + 1, rfl, Nat.le_refl _, by omega, ⟨.inr (.inr (.inr ⟨HKK.out, World.alloc_heap_new w _⟩)), fun j => by simp, by decide, by omega⟩, (Keep.refl _ w).alloc _⟩

theorem m46v (a : Addr) (w : World) : (method 178 153 (.pointer (some a)) "baler/sums.value").run Tryz.prog w = .ok (169, .pointer (some a)) w := by kernel_rfl
theorem m46a (a : Addr) (w : World) : (method 178 153 (.pointer (some a)) "baler/sums.add").run Tryz.prog w = .ok (168, .pointer (some a)) w := by kernel_rfl
theorem m52v (a : Addr) (w : World) : (method 178 159 (.pointer (some a)) "baler/sums.value").run Tryz.prog w = .ok (172, .pointer (some a)) w := by kernel_rfl
theorem m52a (a : Addr) (w : World) : (method 178 159 (.pointer (some a)) "baler/sums.add").run Tryz.prog w = .ok (170, .pointer (some a)) w := by kernel_rfl

set_option maxRecDepth 100000 in
set_option maxHeartbeats 1000000 in
theorem value_crc (sb cb poly mask x : Nat) (hm : mask < 2 ^ 64) (hx : x < 2 ^ 64) (w : World) (ho : w.heap[sb]? = some (.cells #[.iface 153 (.pointer (some ⟨cb, 0, none⟩))] 158 (0, 0))) (h : IsC w cb poly mask x) :
  Calls Tryz.prog 58 #[.pointer (some ⟨sb, 0, none⟩)] w fun e w' => e = .returned (.int .u64 ((x ^^^ mask : Nat) : Int)) ∧ ∃ n, w' = w.drewN n := by
 have hc : w.cell? ⟨sb, 0, none⟩ = some (.iface 153 (.pointer (some ⟨cb, 0, none⟩))) := cell_of ho 0
 have hmv := m46v ⟨cb, 0, none⟩
 go_enter Tryz.func58, Tryz.ntmps58
 go_wp2_with fail
 refine (crcValue_any cb poly mask x hm hx w h).mono ?_
 rintro e w' ⟨rfl, n, rfl⟩
 go_wp2_with fail
 go_ret
 exact ⟨rfl, n, rfl⟩

set_option maxRecDepth 100000 in
set_option maxHeartbeats 1000000 in
theorem value_xxh (sb cb : Nat) (bs : List Nat) (w : World) (ho : w.heap[sb]? = some (.cells #[.iface 159 (.pointer (some ⟨cb, 0, none⟩))] 158 (0, 0))) (h : IsX w cb bs) :
  Calls Tryz.prog 58 #[.pointer (some ⟨sb, 0, none⟩)] w fun e w' => e = .returned (.int .u64 ((xxh bs : Nat) : Int)) ∧ ∃ n, w' = w.drewN n := by
 have hc : w.cell? ⟨sb, 0, none⟩ = some (.iface 159 (.pointer (some ⟨cb, 0, none⟩))) := cell_of ho 0
 have hmv := m52v ⟨cb, 0, none⟩
 go_enter Tryz.func58, Tryz.ntmps58
 go_wp2_with fail
 refine (xval_any cb bs w h).mono ?_
 rintro e w' ⟨rfl, n, rfl⟩
 go_wp2_with fail
 go_ret
 exact ⟨rfl, n, rfl⟩

set_option maxRecDepth 100000 in
set_option maxHeartbeats 1000000 in
theorem value_none (sb : Nat) (w : World) (ho : w.heap[sb]? = some (.cells #[.nilIface] 158 (0, 0))) :
  Calls Tryz.prog 58 #[.pointer (some ⟨sb, 0, none⟩)] w fun e w' => e = .returned (.int .u64 0) ∧ ∃ n, w' = w.drewN n := by
 have hc : w.cell? ⟨sb, 0, none⟩ = some .nilIface := cell_of ho 0
 go_enter Tryz.func58, Tryz.ntmps58
 go_wp2_with fail
 go_ret
 exact ⟨rfl, 0, rfl⟩

theorem b64 {bs : List Nat} (h : ∀ j : Nat, bs[j]?.getD 0 < 256) : ∀ j : Nat, bs[j]?.getD 0 < 2 ^ 64 := fun j => Nat.lt_of_lt_of_le (h j) (by decide)
theorem b32 {bs : List Nat} (h : ∀ j : Nat, bs[j]?.getD 0 < 256) : ∀ j : Nat, bs[j]?.getD 0 < 2 ^ 32 := fun j => Nat.lt_of_lt_of_le (h j) (by decide)
theorem in32_lt {bs : List Nat} (h : ∀ j : Nat, bs[j]?.getD 0 < 256) : bytesIn P32 M32 bs < 2 ^ 32 := bytesIn_lt (by decide) bs (b32 h) M32 (by decide)
theorem in64_lt {bs : List Nat} (h : ∀ j : Nat, bs[j]?.getD 0 < 256) : bytesIn P64 M64 bs < 2 ^ 64 := bytesIn_lt (by decide) bs (b64 h) M64 (by decide)

theorem value_any (sb cb : Nat) (kind : Int) (bs : List Nat) (w : World) (h : IsS w sb cb kind bs) :
  Calls Tryz.prog 58 #[.pointer (some ⟨sb, 0, none⟩)] w fun e w' => e = .returned (.int .u64 ((sumOf kind bs : Nat) : Int)) ∧ ∃ n, w' = w.drewN n := by
 have h32 := in32_lt h.bytes
 rcases h.core with ⟨rfl, ho, hi⟩ | ⟨rfl, ho, hi⟩ | ⟨rfl, ho, hi⟩ | ⟨⟨k1, k2, k3⟩, ho⟩
 ·rw [sumOf1, crc32]
  exact value_crc sb cb P32 M32 _ (by decide) (Nat.lt_trans h32 (by decide)) w ho hi
 ·rw [sumOf2, crc64]
  exact value_crc sb cb P64 M64 _ (by decide) (in64_lt h.bytes) w ho hi
 ·rw [sumOf3]
  exact value_xxh sb cb bs w ho hi
 ·have e0 : sumOf kind bs = 0 := by simp [sumOf, k1, k2, k3]
  rw [e0]
  exact value_none sb w ho

set_option maxRecDepth 100000 in
set_option maxHeartbeats 1000000 in
theorem add_crc (sb cb poly mask x : Nat) (hp : poly < 2 ^ 64) (hx : x < 2 ^ 64) (a : Option Addr) (cap gb off : Nat) (bs : List Nat) (hbs : ∀ j : Nat, bs[j]?.getD 0 < 256) (hfit : bs.length < 2 ^ 48) (w : World) (ho : w.heap[sb]? = some (.cells #[.iface 153 (.pointer (some ⟨cb, 0, none⟩))] 158 (0, 0))) (h : IsC w cb poly mask x)
  (ha : a = some ⟨gb, off, none⟩ ∨ bs = []) (hcs : ∀ j, j < bs.length → w.cell? ⟨gb, off + j, none⟩ = some (.int .u8 ((bs[j]?.getD 0 : Nat) : Int))) (hne : gb ≠ cb) :
  Calls Tryz.prog 57 #[.pointer (some ⟨sb, 0, none⟩), .slice a bs.length cap] w fun e w' => e = .returned (.tuple #[]) ∧ IsC w' cb poly mask (bytesIn poly x bs) ∧ Keep (fun k => k = cb) w w' := by
 have hc : w.cell? ⟨sb, 0, none⟩ = some (.iface 153 (.pointer (some ⟨cb, 0, none⟩))) := cell_of ho 0
 have hmv := m46a ⟨cb, 0, none⟩
 have HH := crcAdd_any cb poly mask x hp hx a cap gb off bs hbs hfit w h ha hcs hne
 clear ha hcs hbs
 go_enter Tryz.func57, Tryz.ntmps57
 go_wp2_with fail
 refine HH.mono ?_
 rintro e w' ⟨rfl, h1, h2⟩
 go_wp2_with fail
 go_end0
 exact ⟨rfl, h1, h2⟩

set_option maxRecDepth 100000 in
set_option maxHeartbeats 1000000 in
theorem add_xxh (sb cb : Nat) (L : List Nat) (a : Option Addr) (cap gb off : Nat) (bs : List Nat) (hbs : ∀ j : Nat, bs[j]?.getD 0 < 256) (hcap : bs.length ≤ cap) (hfit : L.length + bs.length < 2 ^ 62) (w : World) (ho : w.heap[sb]? = some (.cells #[.iface 159 (.pointer (some ⟨cb, 0, none⟩))] 158 (0, 0))) (h : IsX w cb L)
  (ha : a = some ⟨gb, off, none⟩ ∨ bs = []) (hcs : ∀ j, j < bs.length → w.cell? ⟨gb, off + j, none⟩ = some (.int .u8 ((bs[j]?.getD 0 : Nat) : Int))) (hne : gb ≠ cb) :
  Calls Tryz.prog 57 #[.pointer (some ⟨sb, 0, none⟩), .slice a bs.length cap] w fun e w' => e = .returned (.tuple #[]) ∧ IsX w' cb (L ++ bs) ∧ Keep (fun k => k = cb) w w' := by
 have hc : w.cell? ⟨sb, 0, none⟩ = some (.iface 159 (.pointer (some ⟨cb, 0, none⟩))) := cell_of ho 0
 have hmv := m52a ⟨cb, 0, none⟩
 have HH := xadd_any cb L a cap gb off bs hbs hcap hfit w h ha hcs hne
 clear ha hcs hbs hcap hfit
 go_enter Tryz.func57, Tryz.ntmps57
 go_wp2_with fail
 refine HH.mono ?_
 rintro e w' ⟨rfl, h1, h2⟩
 go_wp2_with fail
 go_end0
 exact ⟨rfl, h1, h2⟩

set_option maxRecDepth 100000 in
set_option maxHeartbeats 1000000 in
theorem add_none (sb : Nat) (v : Value) (w : World) (ho : w.heap[sb]? = some (.cells #[.nilIface] 158 (0, 0))) :
  Calls Tryz.prog 57 #[.pointer (some ⟨sb, 0, none⟩), v] w fun e w' => e = .returned (.tuple #[]) ∧ w' = w := by
 have hc : w.cell? ⟨sb, 0, none⟩ = some .nilIface := cell_of ho 0
 go_enter Tryz.func57, Tryz.ntmps57
 go_wp2_with fail
 refine bodyPost_ret (results_none rfl _ _ _) rfl ?_
 exact ⟨rfl, rfl⟩

/-- A slice of bytes: where they lie, and what they are. -/
structure Bytes (w : World) (a : Option Addr) (cap gb off : Nat) (bs : List Nat) : Prop where
 at_ : a = some ⟨gb, off, none⟩ ∨ bs = []
 cells : ∀ j, j < bs.length → w.cell? ⟨gb, off + j, none⟩ = some (.int .u8 ((bs[j]?.getD 0 : Nat) : Int))
 lt : ∀ j : Nat, bs[j]?.getD 0 < 256
 cap : bs.length ≤ cap
 len : bs.length < 2 ^ 48
theorem Bytes.block {w : World} {a : Option Addr} {cap gb off : Nat} {bs : List Nat} (h : Bytes w a cap gb off bs) (hb : bs ≠ []) : gb < w.heap.size :=
 World.block_lt_of_cell? w ⟨gb, off + 0, none⟩ (h.cells 0 (List.length_pos_iff.2 hb))
theorem Bytes.keep {w w' : World} {S : Nat → Prop} {a : Option Addr} {cap gb off : Nat} {bs : List Nat} (h : Bytes w a cap gb off bs) (hk : Keep S w w') (hS : bs ≠ [] → ¬ S gb) : Bytes w' a cap gb off bs :=
 ⟨h.at_, fun j hj => by
  have hne : bs ≠ [] := by rintro rfl; simp at hj
  exact (World.cell?_of_block (hk.block gb (h.block hne) (hS hne))).trans (h.cells j hj), h.lt, h.cap, h.len⟩

theorem add_any (sb cb : Nat) (kind : Int) (L : List Nat) (a : Option Addr) (cap gb off : Nat) (bs : List Nat) (w : World) (h : IsS w sb cb kind L) (hb : Bytes w a cap gb off bs) (hl : L.length + bs.length < 2 ^ 61) (hne0 : bs ≠ [] → gb ≠ cb) :
  Calls Tryz.prog 57 #[.pointer (some ⟨sb, 0, none⟩), .slice a bs.length cap] w fun e w' => e = .returned (.tuple #[]) ∧ IsS w' sb cb kind (L ++ bs) ∧ Keep (fun k => k = cb) w w' := by
 obtain ⟨gb', off', hb', hne⟩ : ∃ gb' off', Bytes w a cap gb' off' bs ∧ gb' ≠ cb := by
  by_cases e : bs = []
  ·subst e
   exact ⟨cb + 1, 0, ⟨.inr rfl, fun j hj => by simp at hj, hb.lt, hb.cap, hb.len⟩, by omega⟩
  ·exact ⟨gb, off, hb, hne0 e⟩
 have hbl := app_lt h.bytes hb'.lt
 have hll : (L ++ bs).length < 2 ^ 61 := by rw [List.length_append]; exact hl
 have h32 := in32_lt h.bytes
 have hsne := h.ne
 rcases h.core with ⟨rfl, ho, hi⟩ | ⟨rfl, ho, hi⟩ | ⟨rfl, ho, hi⟩ | ⟨⟨k1, k2, k3⟩, ho⟩
 ·refine (add_crc sb cb P32 M32 _ (by decide) (Nat.lt_trans h32 (by decide)) a cap gb' off' bs hb'.lt hb'.len w ho hi hb'.at_ hb'.cells hne).mono ?_
  rintro e w' ⟨rfl, h1, h2⟩
  rw [← bytesIn_append] at h1
  exact ⟨rfl, ⟨.inl ⟨rfl, h2.obj ho hsne, h1⟩, hbl, hll, hsne⟩, h2⟩
 ·refine (add_crc sb cb P64 M64 _ (by decide) (in64_lt h.bytes) a cap gb' off' bs hb'.lt hb'.len w ho hi hb'.at_ hb'.cells hne).mono ?_
  rintro e w' ⟨rfl, h1, h2⟩
  rw [← bytesIn_append] at h1
  exact ⟨rfl, ⟨.inr (.inl ⟨rfl, h2.obj ho hsne, h1⟩), hbl, hll, hsne⟩, h2⟩
 ·refine (add_xxh sb cb L a cap gb' off' bs hb'.lt hb'.cap (by omega) w ho hi hb'.at_ hb'.cells hne).mono ?_
  rintro e w' ⟨rfl, h1, h2⟩
  exact ⟨rfl, ⟨.inr (.inr (.inl ⟨rfl, h2.obj ho hsne, h1⟩)), hbl, hll, hsne⟩, h2⟩
 ·refine (add_none sb _ w ho).mono ?_
  rintro e w' ⟨rfl, rfl⟩
  exact ⟨rfl, ⟨.inr (.inr (.inr ⟨⟨k1, k2, k3⟩, ho⟩)), hbl, hll, hsne⟩, Keep.refl _ _⟩

set_option maxRecDepth 100000 in
set_option maxHeartbeats 1000000 in
theorem whole_any (kind : Int) (a : Option Addr) (cap gb off : Nat) (bs : List Nat) (w : World) (hb : Bytes w a cap gb off bs) :
  Calls Tryz.prog 42 #[.int .i64 kind, .slice a bs.length cap] w fun e w' => e = .returned (.int .u64 ((sumOf kind bs : Nat) : Int)) ∧ Keep noBlock w w' := by
 have HB := (show Hid _ from hb)
 clear hb
 go_enter Tryz.func42, Tryz.ntmps42
 go_wp2_with fail
 refine (new_any kind w).mono ?_
 rintro e w1 ⟨sb, cb, rfl, hsb, hcb, hS, hK⟩
 go_wp2_with fail
 refine (add_any sb cb kind [] a cap gb off bs w1 hS (HB.out.keep hK (fun _ h => h)) (by have := HB.out.len; simp; omega) (fun hne => by have := HB.out.block hne; omega)).mono ?_
 rintro e w2 ⟨rfl, hS2, hK2⟩
 rw [List.nil_append] at hS2
 have hK3 : Keep noBlock w w2 := hK.trans hK2 (fun i hi e => by omega)
 clear hS hK hK2
 go_wp2_with fail
 refine (value_any sb cb kind bs w2 hS2).mono ?_
 rintro e w3 ⟨rfl, n, rfl⟩
 go_wp2_with fail
 go_ret
 exact ⟨rfl, hK3.trans' (keep_drewN _ _)⟩

set_option maxRecDepth 100000 in
set_option maxHeartbeats 1000000 in
theorem xxh_any (a : Option Addr) (cap gb off : Nat) (bs : List Nat) (w : World) (hb : Bytes w a cap gb off bs) :
  Calls Tryz.prog 28 #[.slice a bs.length cap] w fun e w' => e = .returned (.int .u64 ((xxh bs : Nat) : Int)) ∧ Keep noBlock w w' := by
 have HW := whole_any 3 a cap gb off bs w hb
 rw [sumOf3] at HW
 clear hb
 go_enter Tryz.func28, Tryz.ntmps28
 go_wp2_with fail
 refine HW.mono ?_
 rintro e w1 ⟨rfl, hK⟩
 go_wp2_with fail
 go_ret
 exact ⟨rfl, hK⟩

end Go.Proofs.YtnjilcokkhodmaaGreatDoor.Xs

namespace Go.Proofs.YtnjilcokkhodmaaGreatDoor
open Go.RowKit Go.Shelf
set_option linter.unusedVariables false

def SpOk (s : Sp) : Prop := s.1 ≤ 8589934592 ∧ s.2.1 ≤ 8589934592 ∧ s.2.2 ≤ 8589934592 ∧ 1 ≤ s.2.2
theorem ex_le (B : List Nat) (r : Rs) (v c : Nat) (hv : v < 3) (hc : c < (kdV v).codes) : (kdV v).lst c + r.val B ((kdV v).ext c) ≤ 8589934592 := by
 obtain ⟨h1, h2⟩ := (kokV v hv).lt c hc
 have h3 := r.val_lt B ((kdV v).ext c)
 have h4 : 2 ^ (kdV v).ext c ≤ 2 ^ 32 := Nat.pow_le_pow_right (by omega) (by omega)
 omega
theorem lst_pos (c : Nat) (hc : c < kdB.codes) : 1 ≤ kdB.lst c := by
 induction c with
 | zero => rw [kokB.zero]; exact Nat.le_refl 1
 | succ c ih => rw [kokB.next c hc]; exact Nat.le_trans (ih (by omega)) (Nat.le_add_right _ _)
theorem oneS_ok {B : List Nat} {T : Nat → Tb} {σ : Nat → Nat} {r : Rs} (hG : ∀ v, v < 3 → GoodT (kdV v) (T v)) (hσ : ∀ v, v < 3 → σ v < 2 ^ (T v).l) : SpOk (oneS B T σ r) := by
 have hc : ∀ i, exC T σ i < (kdV (eo i)).codes := fun i => exC_lt hG hσ i
 have e0 : exT B T σ r 3 0 = (kdV (eo 2)).lst (exC T σ 2) + (exR T σ r 2).val B ((kdV (eo 2)).ext (exC T σ 2)) := rfl
 have e2 : exT B T σ r 3 2 = (kdV (eo 1)).lst (exC T σ 1) + (exR T σ r 1).val B ((kdV (eo 1)).ext (exC T σ 1)) := rfl
 have e1 : exT B T σ r 3 1 = (kdV (eo 0)).lst (exC T σ 0) + (exR T σ r 0).val B ((kdV (eo 0)).ext (exC T σ 0)) := rfl
 refine ⟨?_, ?_, ?_, ?_⟩
 ·show exT B T σ r 3 0 ≤ _
  rw [e0]; exact ex_le B _ _ _ (eo_lt 2) (hc 2)
 ·show exT B T σ r 3 2 ≤ _
  rw [e2]; exact ex_le B _ _ _ (eo_lt 1) (hc 1)
 ·show exT B T σ r 3 1 ≤ _
  rw [e1]; exact ex_le B _ _ _ (eo_lt 0) (hc 0)
 ·show 1 ≤ exT B T σ r 3 1
  rw [e1]
  have := lst_pos _ (hc 0)
  exact Nat.le_trans this (Nat.le_add_right _ _)
theorem nxS_lt {B : List Nat} {T : Nat → Tb} (hG : ∀ v, v < 3 → GoodT (kdV v) (T v)) {σ : Nat → Nat} {r : Rs} (hσ : ∀ v, v < 3 → σ v < 2 ^ (T v).l) : ∀ (i : Nat) (q : Rs) (τ : Nat → Nat), nxS B T σ r i = some (q, τ) → ∀ v, v < 3 → τ v < 2 ^ (T v).l
  | 0, q, τ, h, v, hv => by cases h; exact hσ v hv
  | i + 1, q, τ, h, v, hv => by
    have h' : (match nxS B T σ r i with
      | none => none
      | some (q, τ) => if (q.go ((T (no i)).bi (τ (no i)))).left < 0 then none else some (q.go ((T (no i)).bi (τ (no i))), updN τ (no i) ((T (no i)).ba (τ (no i)) + q.val B ((T (no i)).bi (τ (no i)))))) = some (q, τ) := h
    cases hn : nxS B T σ r i with
    | none => rw [hn] at h'; cases h'
    | some p =>
      obtain ⟨q0, τ0⟩ := p
      rw [hn] at h'
      dsimp only at h'
      have ih := nxS_lt hG hσ i q0 τ0 hn
      split at h'
      · cases h'
      · cases h'
        by_cases e : v = no i
        · subst e
          rw [updN_self]
          have h1 := (hG _ (no_lt i)).ba _ (ih _ (no_lt i))
          have h2 := q0.val_lt B ((T (no i)).bi (τ0 (no i)))
          omega
        · rw [show updN τ0 (no i) _ v = τ0 v from if_neg e]
          exact ih v hv
theorem stN_ok {B : List Nat} {T : Nat → Tb} (hG : ∀ v, v < 3 → GoodT (kdV v) (T v)) : ∀ (k : Nat) (r : Rs) (σ : Nat → Nat) (l R : List Sp), (∀ v, v < 3 → σ v < 2 ^ (T v).l) → (∀ s ∈ l, SpOk s) → stN B T k r σ l = some R → ∀ s ∈ R, SpOk s
  | 0, r, σ, l, R, hσ, hl, h => by cases h
  | k + 1, r, σ, l, R, hσ, hl, h => by
    have hl2 : ∀ s ∈ l ++ [oneS B T σ r], SpOk s := fun s hs => by
      rcases List.mem_append.1 hs with q | q
      · exact hl s q
      · rw [List.mem_singleton.1 q]; exact oneS_ok hG hσ
    have h' : (if k = 0 then (if (exR T σ r 3).left = 0 then some (l ++ [oneS B T σ r]) else none) else match nxS B T σ (exR T σ r 3) 3 with
      | none => none
      | some (q, τ) => stN B T k q τ (l ++ [oneS B T σ r])) = some R := h
    split at h'
    · split at h'
      · cases h'; exact hl2
      · cases h'
    · cases hn : nxS B T σ (exR T σ r 3) 3 with
      | none => rw [hn] at h'; cases h'
      | some p =>
        obtain ⟨q, τ⟩ := p
        rw [hn] at h'
        exact stN_ok hG k q τ _ R (nxS_lt hG hσ 3 q τ hn) hl2 h'
theorem stepsN_ok {B : List Nat} {T : Nat → Tb} {n : Nat} {R : List Sp} (hG : ∀ v, v < 3 → GoodT (kdV v) (T v)) (h : stepsN B T n = some R) : ∀ s ∈ R, SpOk s := by
 unfold stepsN at h
 split at h
 ·cases h
 ·exact stN_ok hG n _ _ [] R (fun v hv => fsS_lt 3 (Nat.le_refl _) v hv) (fun s hs => by cases hs) h
theorem seqR_ok {Ω : Oc} {bs : List Nat} {t0 t1 t2 a b c : Option Tb} {l : List Sp} (h : seqR Ω bs t0 t1 t2 = some (l, a, b, c)) (g0 : GoodO 0 a) (g1 : GoodO 1 b) (g2 : GoodO 2 c) : ∀ s ∈ l, SpOk s := by
 unfold seqR at h
 split at h
 ·cases h
 ·split at h
  ·split at h
   ·cases h; exact fun s hs => by cases hs
   ·cases h
  ·split at h
   ·cases h
   ·split at h
    ·cases h
    ·rename_i T r2 htb l' hst
     cases h
     exact stepsN_ok (fun v hv => by
      rcases (show v = 0 ∨ v = 1 ∨ v = 2 by omega) with rfl | rfl | rfl
      ·exact g0 _ rfl
      ·exact g1 _ rfl
      ·exact g2 _ rfl) hst
/-- What Read of weights tells. -/
structure Od where
 a : List Nat → Nat
 b : List Nat → Nat
 v : List Nat → List Nat
 h : ∀ B, (a B = 0 → b B ≤ B.length ∧ codeB (v B) = true) ∧ RdW B (a B) (b B) (v B)
theorem od_ex : Nonempty Od := ⟨⟨fun B => (read_prog B).choose, fun B => (read_prog B).choose_spec.choose, fun B => (read_prog B).choose_spec.choose_spec.choose, fun B => (read_prog B).choose_spec.choose_spec.choose_spec⟩⟩
def rdA (Δ : Od) (B : List Nat) : Nat := Δ.a B
def rdB (Δ : Od) (B : List Nat) : Nat := Δ.b B
def rdV (Δ : Od) (B : List Nat) : List Nat := Δ.v B
theorem rd_spec (Δ : Od) (B : List Nat) : (rdA Δ B = 0 → rdB Δ B ≤ B.length ∧ codeB (rdV Δ B) = true) ∧ RdW B (rdA Δ B) (rdB Δ B) (rdV Δ B) := Δ.h B
def litO (Δ : Od) (bs ws : List Nat) (most : Nat) : Option (List Nat × List Nat × Nat) :=
 if (litR (rdA Δ (bodyN bs)) (rdB Δ (bodyN bs)) (rdV Δ (bodyN bs)) bs ws (most : Int)).1 = 0 then some (litR (rdA Δ (bodyN bs)) (rdB Δ (bodyN bs)) (rdV Δ (bodyN bs)) bs ws (most : Int)).2 else none
theorem hRw_ok {bs : List Nat} (h0 : ¬ hKi bs = 0) (h1 : ¬ hKi bs = 1) : 1 ≤ hRw bs ∧ hRw bs ≤ 4 := by
 unfold hRw rwN
 repeat' split
 all_goals omega
theorem litO_ok {Δ : Od} {bs ws l n : List Nat} {most u : Nat} (hm : most ≤ 131072) (hb : bs.length ≤ 131072) (hw : ws.length ≤ 256) (h : litO Δ bs ws most = some (l, n, u)) : l.length ≤ 524304 ∧ n.length ≤ 256 ∧ u ≤ bs.length := by
 unfold litO at h
 split at h
 ·rename_i hc
  obtain ⟨r1, r2⟩ := rd_spec Δ (bodyN bs)
  generalize rdA Δ (bodyN bs) = A at *
  generalize rdB Δ (bodyN bs) = U at *
  generalize rdV Δ (bodyN bs) = V at *
  unfold litR at h hc
  split at h
  ·rename_i q; rw [if_pos q] at hc; cases hc
  ·rename_i q; rw [if_neg q] at hc
   split at h
   ·rename_i q; rw [if_pos q] at hc; cases hc
   ·rename_i q; rw [if_neg q] at hc
    split at h
    ·rename_i q; rw [if_pos q] at hc; cases hc
    ·rename_i q3; rw [if_neg q3] at hc
     split at h
     ·rename_i q; rw [if_pos q] at hc; cases hc
     ·rename_i q4; rw [if_neg q4] at hc
      have hbl := bodyN_length q4
      split at h
      ·rename_i q5; rw [q5] at hc; cases hc
      ·rename_i l' n' q5
       cases h
       have hsz : hSz bs ≤ 131072 := by omega
       unfold tellL at q5
       split at q5
       ·cases q5; exact ⟨by omega, hw, by omega⟩
       ·rename_i k0
        split at q5
        ·cases q5; exact ⟨by rw [List.length_replicate]; omega, hw, by omega⟩
        ·rename_i k1
         obtain ⟨w1, w2⟩ := hRw_ok k0 k1
         split at q5
         ·cases hu : unpL ws (bodyN bs) (hSz bs) (hRw bs) with
          | none => rw [hu] at q5; cases q5
          | some x => rw [hu] at q5; cases q5; exact ⟨(unpL_ok hsz w1 w2 hu).1, hw, by omega⟩
         ·split at q5
          ·rename_i hA
           cases hu : unpL V ((bodyN bs).drop U) (hSz bs) (hRw bs) with
           | none => rw [hu] at q5; cases q5
           | some x => rw [hu] at q5; cases q5; exact ⟨(unpL_ok hsz w1 w2 hu).1, (code_ok (r1 hA).2).1, by omega⟩
          ·cases q5
 ·cases h
def orc (Ω : Oc) (Δ : Od) : Orc := ⟨litO Δ, seqR Ω, Xs.xxh⟩
end Go.Proofs.YtnjilcokkhodmaaGreatDoor

namespace Go.Proofs.YtnjilcokkhodmaaGreatDoor
open Go.RowKit Go.Shelf
set_option linter.unusedVariables false

theorem yield_any {m : Nat} (m' : Nat) {P : Program} {l : Nat} {args : Array Value} {W : World} {R : Ending → World → Prop} (h : YieldAt Fence.wide m P l args W R) : YieldAt Fence.wide m' P l args W R := by
 obtain ⟨fn, tmps, assign, body, hy, hR⟩ := h
 exact ⟨fn, tmps, assign, body, hy, hR.1, fun c cs _ => hR.2 c cs (fun d h => by cases h)⟩

theorem range_iterC {ι : Type} {n gf C : Nat} {Pr : World → World → Prop} {lb : Array Value} {g : Operand} {ps : Array Tmp} {assign body : Code} {Q : Exit → Act → World → Prop} {a : Act} {w : World} (hn : 3 ≤ n) (hC : w.heap.size + 1 < C) (hPt : ∀ U V X, Pr U V → Pr V X → Pr U X) (hPp : ∀ V o o', V.heap[w.heap.size + 1]? = some o → o.isCells = false → Pr V (V.putObj (w.heap.size + 1) o'))
    (hg : a.eval g = .func (.func gf) #[] lb) (eg : ∀ args w, (callFunc gf args).run Tryz.prog w = .ok (.enter gf args) w)
    (R : ι → Array Value → ι → World → Prop) (E : ι → Prop) (i0 : ι) (I : ι → World → Prop)
    (hit : ∀ (l : Nat) (J : ι → World → Prop) (Jx : World → Prop) (W : World), W.heap.size = w.heap.size + 2 → KeepN w.heap.size w W → (∀ i V, J i V → I i V) → (∀ i X Y, J i X → Keep (fun k => k = C) X Y → J i Y) → (∀ X Y, Jx X → Keep noBlock X Y → Jx Y) →
      (∀ i vs i' V, R i vs i' V → J i V → ∀ m, YieldAt Fence.wide m Tryz.prog l vs V fun e V' => (e = .returned (.bool true) ∧ J i' V' ∧ Pr V V') ∨ (e = .returned (.bool false) ∧ Jx V' ∧ Pr V V')) → J i0 W →
      CallsIn Fence.wide (n - 1) Tryz.prog gf (#[.func (.yield l) #[] #[]] ++ lb) W fun e W' => (∃ v, e = .returned v) ∧ ((∃ i, E i ∧ J i W') ∨ Jx W'))
    (hps : ∀ i vs i' V, R i vs i' V → vs.size = ps.size)
    (X : Code → World → Prop) (A : ι → Array Value → ι → Act → World → Prop)
    (hI : ∀ i U V, I i U → KeepN w.heap.size U V → I i V) (hIc : ∀ i U V, I i U → Keep (fun k => k = C) U V → I i V) (hX : ∀ c U V, X c U → KeepN w.heap.size U V → X c V) (hA : ∀ i vs i' a' U V, A i vs i' a' U → KeepN w.heap.size U V → A i vs i' a' V) (h0 : I i0 w)
    (hassign : ∀ i vs i' V (K : Act → World → Prop), R i vs i' V → I i V → (∀ a' V', KeepsFrom w.heap.size V V' → Pr V V' → I i V' → A i vs i' a' V' → K a' V') →
      assign.wpIn (Fence.wide.inRound (w.heap.size + 1)) (n - 1 - 1) Tryz.prog (Exit.then K (fun _ _ _ => False)) { tmps := (ps.zip vs).foldl (fun t (p, v) => t.setIfInBounds p v) a.tmps, defers := [] } V)
    (hbody : ∀ i vs i' a' V, I i V → A i vs i' a' V → body.wpIn (Fence.wide.inRound (w.heap.size + 1)) (n - 1 - 1) Tryz.prog (goesOn w.heap.size (fun V' => I i' V' ∧ Pr V V') (fun c V' => X c V' ∧ Pr V V') V) a' V)
    (hdone : ∀ i V, E i → I i V → V.heap[w.heap.size]? = some (.deferred (some [])) → Q .normal { a with defers := { target := .collected w.heap.size, args := #[] } :: a.defers } V)
    (hstop : ∀ j V, X j V → V.heap[w.heap.size]? = some (.deferred (some [])) → j.wpIn Fence.wide n Tryz.prog Q { a with defers := { target := .collected w.heap.size, args := #[] } :: a.defers } V) :
    (Code.rangeFunc g ps assign body).wpIn Fence.wide n Tryz.prog Q a w := by
  refine wpIn_rangeFunc fun fn hfn => ?_
  -- the loop's record
  obtain ⟨mk, hmk⟩ : ∃ mk : LoopState → Option Code → Obj, mk = fun st pe => .loop { state := st, pending := pe, fn, tmps := a.tmps, params := ps, assign, body, defers := w.heap.size } := ⟨_, rfl⟩
  have mkc : ∀ st pe, (mk st pe).isCells = false := fun st pe => by rw [hmk]; rfl
  obtain ⟨V1, hV1⟩ : ∃ V1, V1 = (w.alloc (.deferred (some []))).alloc (mk .ready none) := ⟨_, rfl⟩
  have hsz : (w.alloc (.deferred (some []))).heap.size = w.heap.size + 1 := World.size_alloc _ _
  have hrec : V1.heap[w.heap.size + 1]? = some (mk .ready none) := by rw [hV1, ← hsz]; exact World.alloc_heap_new _ _
  have hdef : V1.heap[w.heap.size]? = some (.deferred (some [])) := by rw [hV1]; exact alloc_far (World.alloc_heap_new w _) _
  have hK1 : KeepN w.heap.size w V1 := by rw [hV1]; exact (((Keep.refl noBlock w).alloc _).alloc _).toN _
  have hsz1 : V1.heap.size = w.heap.size + 2 := by rw [hV1, World.size_alloc, hsz]
  have hI1 : I i0 V1 := hI _ _ _ h0 hK1
  refine ⟨w.heap.size + 1, [{ target := .collected w.heap.size, args := #[] }], V1, { target := .fn (.func gf) lb, args := #[.func (.yield (w.heap.size + 1)) #[] #[]] }, V1, gf,
    #[.func (.yield (w.heap.size + 1)) #[] #[]] ++ lb, V1, ?_, ?_, fun _ _ => trivial, ?_, fun _ => by omega, ?_⟩
  · rw [hV1, hmk]; exact run_enterLoop_outer _ _ _ _ _
  · simp only [resolve, hg]
    simp [go_sem]
  · simp [invoke, go_sem, eg]
  · refine (hit (w.heap.size + 1)
      (fun i V => I i V ∧ V.heap[w.heap.size + 1]? = some (mk .ready none) ∧ V.heap[w.heap.size]? = some (.deferred (some [])))
      (fun V => ∃ j, X j V ∧ V.heap[w.heap.size + 1]? = some (mk .done (some j)) ∧ V.heap[w.heap.size]? = some (.deferred (some [])))
      V1 hsz1 hK1 (fun i V h => h.1) (fun i U V h hk => ⟨hIc _ _ _ h.1 hk, hk.obj h.2.1 (fun h => by omega), hk.obj h.2.2 (fun h => by omega)⟩) (fun U V ⟨j, h⟩ hk => ⟨j, hX _ _ _ h.1 (hk.toN _), hk.obj h.2.1 (fun h => h), hk.obj h.2.2 (fun h => h)⟩) ?_ ⟨hI1, hrec, hdef⟩).mono ?_
    · rintro i vs i' V hR ⟨hi, hl, hd⟩ m
      refine yield_any (m := n - 1 - 1) m ?_
      have hy := run_yield (P := Tryz.prog) (args := vs) (by rw [hmk] at hl; exact hl) (by simp [hps i vs i' V hR])
      refine ⟨fn, _, assign, body, hy, roundIn_of_wpIn hfn (hassign i vs i' V _ hR hi fun a' V2 hkf hsc hi2 hax => ?_)⟩
      have hl2 := hkf.same _ _ (Nat.le_succ _) hl (mkc _ _)
      have hd2 := hkf.same _ _ (Nat.le_refl _) hd rfl
      have hlt : w.heap.size + 1 < V2.heap.size := obj_lt hl2
      have hbr := run_beginRound (P := Tryz.prog) (by rw [hmk] at hl2; exact hl2) rfl
      refine ⟨_, hbr, ?_⟩
      obtain ⟨V3, hV3⟩ : ∃ V3, V3 = V2.putObj (w.heap.size + 1) (mk .busy none) := ⟨_, rfl⟩
      have hl3 : V3.heap[w.heap.size + 1]? = some (mk .busy none) := by rw [hV3]; exact World.putObj_heap_same hlt
      have hd3 : V3.heap[w.heap.size]? = some (.deferred (some [])) := by rw [hV3]; exact (World.putObj_heap_other (by omega)).trans hd2
      have hk3 : KeepN w.heap.size V2 V3 := by rw [hV3]; exact keepN_putObj _ (Nat.le_succ _) hl2 (mkc _ _)
      have hi3 : I i V3 := hI _ _ _ hi2 hk3
      have hx3 : A i vs i' a' V3 := hA _ _ _ _ _ _ hax hk3
      have hb := hbody i vs i' a' V3 hi3 hx3
      rw [hV3, hmk] at hb
      refine wpIn_mono hb ?_
      -- however the round ends, the record is turned
      have fin : ∀ (j : Option Code) (V4 : World), KeepsFrom w.heap.size V3 V4 → (Instr.endRound (w.heap.size + 1) j).run Tryz.prog V4 = .ok (.bool j.isNone) (V4.putObj (w.heap.size + 1) (mk (if j.isNone then .ready else .done) j)) ∧
          V4.heap[w.heap.size + 1]? = some (mk .busy none) ∧ (V4.putObj (w.heap.size + 1) (mk (if j.isNone then .ready else .done) j)).heap[w.heap.size + 1]? = some (mk (if j.isNone then .ready else .done) j) ∧
          (V4.putObj (w.heap.size + 1) (mk (if j.isNone then .ready else .done) j)).heap[w.heap.size]? = some (.deferred (some [])) := by
        intro j V4 h4
        have hl4 := h4.same _ _ (Nat.le_succ _) hl3 (mkc _ _)
        have hr := run_endRound (P := Tryz.prog) j (by rw [hmk] at hl4; exact hl4)
        refine ⟨?_, hl4, World.putObj_heap_same (obj_lt hl4), (World.putObj_heap_other (by omega)).trans (h4.same _ _ (Nat.le_refl _) hd3 rfl)⟩
        rw [hmk]; exact hr
      intro e a4 V4 hp
      have hsc3 : Pr V V3 := by rw [hV3]; exact hPt _ _ _ hsc (hPp _ _ _ hl2 (mkc _ _))
      have hp' : goesOn w.heap.size (fun V' => I i' V' ∧ Pr V3 V') (fun c V' => X c V' ∧ Pr V3 V') V3 e a4 V4 := by rw [hV3, hmk]; exact hp
      clear hp hb
      cases e with
      | normal =>
        obtain ⟨r1, r2, r3, r4⟩ := fin none V4 hp'.1
        exact ⟨_, _, r1, .inl ⟨rfl, ⟨hI _ _ _ hp'.2.1 (keepN_putObj _ (Nat.le_succ _) r2 (mkc _ _)), r3, r4⟩, hPt _ _ _ hsc3 (hPt _ _ _ hp'.2.2 (hPp _ _ _ r2 (mkc _ _)))⟩⟩
      | ret =>
        obtain ⟨r1, r2, r3, r4⟩ := fin (some .ret) V4 hp'.1
        exact ⟨_, _, r1, .inr ⟨rfl, ⟨.ret, hX _ _ _ hp'.2.1 (keepN_putObj _ (Nat.le_succ _) r2 (mkc _ _)), r3, r4⟩, hPt _ _ _ hsc3 (hPt _ _ _ hp'.2.2 (hPp _ _ _ r2 (mkc _ _)))⟩⟩
      | exit i =>
        obtain ⟨r1, r2, r3, r4⟩ := fin (some (.exit i)) V4 hp'.1
        exact ⟨_, _, r1, .inr ⟨rfl, ⟨.exit i, hX _ _ _ hp'.2.1 (keepN_putObj _ (Nat.le_succ _) r2 (mkc _ _)), r3, r4⟩, hPt _ _ _ hsc3 (hPt _ _ _ hp'.2.2 (hPp _ _ _ r2 (mkc _ _)))⟩⟩
      | goto t => exact hp'.elim
      | panic ch => exact hp'.elim
      | outgrown => exact hp'.elim
    · rintro e V ⟨⟨v, rfl⟩, (⟨i, hE, hi, hl, hd⟩ | ⟨j, hj, hl, hd⟩)⟩
      · have hr := run_endLoop (P := Tryz.prog) (by rw [hmk] at hl; exact hl) (by simp)
        exact ⟨none, _, hr, hdone i _ hE (hI _ _ _ hi (keepN_putObj _ (Nat.le_succ _) hl (mkc _ _))) ((World.putObj_heap_other (by omega)).trans hd)⟩
      · have hr := run_endLoop (P := Tryz.prog) (by rw [hmk] at hl; exact hl) (by simp)
        exact ⟨some j, _, hr, hstop j _ (hX _ _ _ hj (keepN_putObj _ (Nat.le_succ _) hl (mkc _ _))) ((World.putObj_heap_other (by omega)).trans hd)⟩

end Go.Proofs.YtnjilcokkhodmaaGreatDoor

namespace Go.Proofs.YtnjilcokkhodmaaGreatDoor
open Go.RowKit Go.Shelf
set_option linter.unusedVariables false

def Apart (S : Nat → Prop) (v : Value) : Prop := ∀ p n c, v = .slice (some p) n c → ¬ S p.block
theorem IsTs.keepS {w w' : World} {S : Nat → Prop} {v : Value} {t : Option Tb} (h : IsTs w v t) (hk : Keep S w w') (hS : Apart S v) : IsTs w' v t := by
  cases t with
  | none => exact h
  | some T =>
    obtain ⟨tg, cap, e, hT⟩ := h
    exact ⟨tg, cap, e, hT.keep hk (hS _ _ _ e)⟩
theorem IsTs.shape {w : World} {v : Value} {t : Option Tb} (h : IsTs w v t) : ∃ a n c, v = .slice a n c := by
 cases t with
 | none => exact ⟨none, 0, 0, h⟩
 | some T => obtain ⟨tg, cap, e, -⟩ := h; exact ⟨_, _, _, e⟩
theorem IsTs.there {w : World} {v : Value} {t : Option Tb} (h : IsTs w v t) (p : Addr) (n c : Nat) (hv : v = .slice (some p) n c) : p.block < w.heap.size ∧ (∃ x, w.cell? ⟨p.block, 0, none⟩ = some (.int .u8 x)) := by
  cases t with
  | none =>
    have e : v = .slice none 0 0 := h
    rw [e] at hv; cases hv
  | some T =>
    obtain ⟨tg, cap, e, hT⟩ := h
    rw [e] at hv; cases hv
    have := (hT.cells 0 (Nat.two_pow_pos _)).1
    rw [Nat.zero_mul] at this
    exact ⟨hT.lt, _, this⟩
structure FrOk (F : Fr) : Prop where
 win : F.win < 18446744073709551616
 siz : F.siz < 18446744073709551616
 r0 : F.r0 ≤ 4611686018427387904
 r1 : F.r1 ≤ 4611686018427387904
 r2 : F.r2 ≤ 4611686018427387904
 fl : F.fl < 256
 bud : F.bud ≤ 16777216
 ws : F.ws.length ≤ 256
 g0 : GoodO 0 F.t0
 g1 : GoodO 1 F.t1
 g2 : GoodO 2 F.t2
/-- A frame. -/
structure IsF (w : World) (fb : Nat) (F : Fr) (x0 x1 x2 : Value) (aw : Option Addr) (cw gw ow : Nat) (ov : Value) : Prop where
 fr : IsFr w fb F x0 x1 x2 (.slice aw F.ws.length cw) ov
 t0 : IsTs w x0 F.t0
 t1 : IsTs w x1 F.t1
 t2 : IsTs w x2 F.t2
 bw : Bytes w aw cw gw ow F.ws
 out : OutF w ov F.out
 ne : ov.ownBlock ≠ some fb
 p0 : Apart (fun k => ov.ownBlock = some k) x0
 p1 : Apart (fun k => ov.ownBlock = some k) x1
 p2 : Apart (fun k => ov.ownBlock = some k) x2
 gl : F.ws ≠ [] → gw < w.heap.size
 pw : F.ws ≠ [] → ov.ownBlock ≠ some gw
 fw : F.ws ≠ [] → gw ≠ fb
 ok : FrOk F
/-- What a frame leans on lies apart from S. -/
structure FarF (S : Nat → Prop) (F : Fr) (fb gw : Nat) (x0 x1 x2 ov : Value) : Prop where
 fb : ¬ S fb
 ov : ∀ k, ov.ownBlock = some k → ¬ S k
 gw : F.ws ≠ [] → ¬ S gw
 x0 : Apart S x0
 x1 : Apart S x1
 x2 : Apart S x2
section
variable {w w' : World} {S : Nat → Prop} {fb : Nat} {F : Fr} {x0 x1 x2 : Value} {aw : Option Addr} {cw gw ow : Nat} {ov : Value}
theorem FarF.none : FarF noBlock F fb gw x0 x1 x2 ov := ⟨fun h => h, fun _ _ h => h, fun _ h => h, fun _ _ _ _ h => h, fun _ _ _ _ h => h, fun _ _ _ _ h => h⟩
theorem FarF.mono {T : Nat → Prop} (h : FarF S F fb gw x0 x1 x2 ov) (hT : ∀ k, T k → S k) : FarF T F fb gw x0 x1 x2 ov :=
 ⟨fun q => h.fb (hT _ q), fun k e q => h.ov k e (hT _ q), fun e q => h.gw e (hT _ q), fun p n c e q => h.x0 p n c e (hT _ q), fun p n c e q => h.x1 p n c e (hT _ q), fun p n c e q => h.x2 p n c e (hT _ q)⟩
theorem IsF.keep (h : IsF w fb F x0 x1 x2 aw cw gw ow ov) (hk : Keep S w w') (hf : FarF S F fb gw x0 x1 x2 ov) : IsF w' fb F x0 x1 x2 aw cw gw ow ov :=
 ⟨IsFr.keep h.fr hk hf.fb, h.t0.keepS hk hf.x0, h.t1.keepS hk hf.x1, h.t2.keepS hk hf.x2, h.bw.keep hk hf.gw, h.out.keep hk hf.ov, h.ne, h.p0, h.p1, h.p2, fun e => Nat.lt_of_lt_of_le (h.gl e) hk.size, h.pw, h.fw, h.ok⟩
theorem IsF.quiet (h : IsF w fb F x0 x1 x2 aw cw gw ow ov) (hk : Keep noBlock w w') : IsF w' fb F x0 x1 x2 aw cw gw ow ov := h.keep hk FarF.none
theorem IsF.apart (h : IsF w fb F x0 x1 x2 aw cw gw ow ov) : Apart (fun k => k = fb) x0 ∧ Apart (fun k => k = fb) x1 ∧ Apart (fun k => k = fb) x2 := by
 have hc : w.cell? ⟨fb, 0, none⟩ = some (.int .u64 (F.win : Int)) := cell_of h.fr 0
 refine ⟨fun p n c e q => ?_, fun p n c e q => ?_, fun p n c e q => ?_⟩
 ·obtain ⟨-, x, hx⟩ := h.t0.there p n c e
  have q' : p.block = fb := q
  rw [q', hc] at hx; cases hx
 ·obtain ⟨-, x, hx⟩ := h.t1.there p n c e
  have q' : p.block = fb := q
  rw [q', hc] at hx; cases hx
 ·obtain ⟨-, x, hx⟩ := h.t2.there p n c e
  have q' : p.block = fb := q
  rw [q', hc] at hx; cases hx
end
def NoC (U : World) (B k : Nat) : Prop := B ≤ k ∧ ∀ o, U.heap[k]? = some o → o.isCells = false
theorem KeepN.asK {B : Nat} {U V : World} (h : KeepN B U V) : Keep (NoC U B) U V :=
 ⟨h.os, h.tape, h.output, h.size, fun k hk hn => by
  rw [Array.getElem?_eq_getElem hk]
  refine h.block k _ (Array.getElem?_eq_getElem hk) ?_
  by_cases hb : k < B
  ·exact .inl hb
  ·right
   cases hc : (U.heap[k]).isCells with
   | true => rfl
   | false => exact (hn ⟨by omega, fun o ho => by rw [Array.getElem?_eq_getElem hk] at ho; cases ho; exact hc⟩).elim⟩
theorem noC_cells {U : World} {B k : Nat} {cs : Array Value} {t : TypeId} {fz : Nat × Nat} (h : U.heap[k]? = some (.cells cs t fz)) : ¬ NoC U B k := fun q => by
 have := q.2 _ h
 cases this
theorem noC_cell {U : World} {B k i : Nat} {x : Value} (h : U.cell? ⟨k, i, none⟩ = some x) : ¬ NoC U B k := fun q => by
  unfold World.cell? at h
  cases ho : U.heap[k]? with
  | none => simp [ho] at h
  | some o =>
    have := q.2 _ ho
    cases o <;> simp [ho, Obj.isCells] at h this
theorem IsF.farN {w : World} {fb : Nat} {F : Fr} {x0 x1 x2 : Value} {aw : Option Addr} {cw gw ow : Nat} {ov : Value} (h : IsF w fb F x0 x1 x2 aw cw gw ow ov) (B : Nat) : FarF (NoC w B) F fb gw x0 x1 x2 ov := by
 refine ⟨noC_cells h.fr, fun k hk => ?_, fun hne => noC_cell (h.bw.cells 0 (List.length_pos_iff.2 hne)), fun p n c e => ?_, fun p n c e => ?_, fun p n c e => ?_⟩
 ·rcases h.out.own.2 with ⟨e, h0⟩ | ⟨g, cap, cur, e, hb, hg, h1⟩
  ·rw [e] at hk; cases hk
  ·rw [e] at hk
   obtain rfl : g = k := by simpa [Value.ownBlock] using hk
   exact noC_cells hg
 ·obtain ⟨-, x, hx⟩ := h.t0.there p n c e
  exact noC_cell hx
 ·obtain ⟨-, x, hx⟩ := h.t1.there p n c e
  exact noC_cell hx
 ·obtain ⟨-, x, hx⟩ := h.t2.there p n c e
  exact noC_cell hx
theorem IsF.keepN {w w' : World} {B fb : Nat} {F : Fr} {x0 x1 x2 : Value} {aw : Option Addr} {cw gw ow : Nat} {ov : Value} (h : IsF w fb F x0 x1 x2 aw cw gw ow ov) (hk : KeepN B w w') : IsF w' fb F x0 x1 x2 aw cw gw ow ov := h.keep hk.asK (h.farN B)
end Go.Proofs.YtnjilcokkhodmaaGreatDoor
