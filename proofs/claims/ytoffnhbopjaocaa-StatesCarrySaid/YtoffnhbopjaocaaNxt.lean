/-
  setNext: each state is given its Bits and its Base.
-/
import Derived.Test.YtoffnhbopjaocaaSet
namespace Go.Proofs.Ytoffnhbopjaocaa
open Go.RowKit Go.Shelf

/-- The array nth when i states are done. -/
def nthF (xs : List Int) (S i s : Nat) : Int := (if s < xs.length then shareN (xs[s]?.getD 0) else 0) + ((cntP (fun j => decide (symF xs S j = s)) i : Nat) : Int)
theorem nthF_at {xs : List Int} {S : Nat} (h : Tab xs S) (i : Nat) (hi : i < S) : nthF xs S i (symF xs S i) = ((xF xs S i : Nat) : Int) := by
  obtain ⟨c, e, c1, c2, c3, c4⟩ := h.x i hi
  obtain ⟨-, h2, -⟩ := h.symF i hi
  unfold nthF
  rw [if_pos h2, e, c4]
  unfold blF
  omega
theorem nthF_succ (xs : List Int) (S i s : Nat) : nthF xs S (i + 1) s = if s = symF xs S i then nthF xs S i s + 1 else nthF xs S i s := by
  unfold nthF
  simp only [cntP]
  by_cases e : symF xs S i = s
  · subst e; simp; omega
  · rw [if_neg (show ¬ s = symF xs S i from fun h => e h.symm)]; simp [e]

set_option maxRecDepth 100000 in
set_option maxHeartbeats 4000000 in
theorem setNext_any (cb l : Nat) (xs : List Int) (a : Option Addr) (cap gb off : Nat) (w : World) (hT : IsT w cb 71 4096 (symF xs (2 ^ l)) (fun _ => 0) (fun _ => 0)) (hR : RowI w .i16 a cap gb off xs) (hx : I16 xs) (hgb : xs ≠ [] → gb ≠ cb) (hTab : Tab xs (2 ^ l)) (hl12 : l ≤ 12) :
    Calls Try.prog 38 #[.slice (some ⟨cb, 0, none⟩) (2 ^ l) 4096, .slice a xs.length cap, .int .i64 (l : Int)] w fun e w' => e = .returned (.tuple #[]) ∧
      IsT w' cb 71 4096 (symF xs (2 ^ l)) (fun i => if i < 2 ^ l then bitF l (xF xs (2 ^ l) i) else 0) (fun i => if i < 2 ^ l then baseF l (xF xs (2 ^ l) i) else 0) ∧ Keep (fun k => k = cb) w w' := by
  have hcb := hT.lt
  have hSb : 2 ^ l ≤ 4096 := Nat.pow_le_pow_right (n := 2) (j := 12) (by omega) hl12
  have hlen := hTab.len
  have HH := (show Hid (RowI w .i16 a cap gb off xs ∧ (xs ≠ [] → gb ≠ cb) ∧ Tab xs (2 ^ l) ∧ I16 xs) from ⟨hR, hgb, hTab, hx⟩)
  have hA : IsA (w.alloc (.cells Try.zeroCells107 107)) w.heap.size 107 .i64 256 (fun _ => 0) := by rw [zero107]; exact isA_zeros w 107 .i64 256
  have HA := (show Hid (IsA (w.alloc (.cells Try.zeroCells107 107)) w.heap.size 107 .i64 256 (fun _ => 0) ∧ Keep (fun k => k = cb) w (w.alloc (.cells Try.zeroCells107 107)) ∧ IsT (w.alloc (.cells Try.zeroCells107 107)) cb 71 4096 (symF xs (2 ^ l)) (fun _ => 0) (fun _ => 0)) from
    ⟨hA, (Keep.refl _ w).alloc _, hT.keep ((Keep.refl noBlock w).alloc _) (fun h => h)⟩)
  obtain ⟨n, hn⟩ : ∃ n, n = xs.length := ⟨_, rfl⟩
  rw [← hn] at hlen ⊢
  have HN := (show Hid (n = xs.length) from hn)
  obtain ⟨S, hS⟩ : ∃ S, S = 2 ^ l := ⟨_, rfl⟩
  rw [← hS] at hSb HH HA ⊢
  have HS := (show Hid (S = 2 ^ l) from hS)
  clear hT hR hgb hTab hn hS hA hx
  go_enter Try.func38, Try.ntmps38
  go_wp2_with fail
  generalize w.alloc (.cells Try.zeroCells107 107) = W1 at HA ⊢
  obtain ⟨nb, hnb⟩ : ∃ nb, nb = w.heap.size := ⟨_, rfl⟩
  rw [← hnb] at HA hcb ⊢
  have HNB := (show Hid (nb = w.heap.size) from hnb)
  clear hnb
  go_loopw [14] (fun v14 wr => ∃ i : Nat, v14 = .int .i64 (i : Int) ∧ i ≤ n ∧ Hid (IsA wr nb 107 .i64 256 (fun s => if s < i then shareN (xs[s]?.getD 0) else 0) ∧ Keep (fun k => k = cb) w wr ∧ IsT wr cb 71 4096 (symF xs S) (fun _ => 0) (fun _ => 0))) (fun v14 _ => n - (intOf v14).toNat)
  case atStart => exact ⟨0, rfl, Nat.zero_le _, HA.out.1.congr (fun i _ => by simp), HA.out.2⟩
  case round =>
    clear HA
    obtain ⟨i, rfl, hi, HC⟩ := hrel
    by_cases hlt : i < n
    · obtain ⟨h1, h2, h3⟩ := HC.out
      obtain ⟨hR, hgb, hTab, hx⟩ := HH.out
      have hix : i < xs.length := by have := HN.out; omega
      have hR2 := hR.keep h2 hgb
      obtain rfl := hR2.here hix
      have c0 := hR2.cells i hix
      have HSH := (show Hid (∀ w : World, _) from fun w => share_any (xs[i]?.getD 0) (hx i).1 (hx i).2 w)
      have fz := h1.frozen i
      have ci := h1.cell i (by omega)
      have hst := h1.set i (shareN (xs[i]?.getD 0))
      have hltI : (i : Int) < (n : Int) := by omega
      have hi256 : (i : Int) < 256 := by omega
      have hkk : Keep (fun k => k = nb) wr (wr.setCell ⟨nb, i, none⟩ (.int .i64 (shareN (xs[i]?.getD 0)))) := Keep.setCell (S := fun k => k = nb) (p := ⟨nb, i, none⟩) (Keep.refl _ wr) (fun _ => rfl) _
      have HG := (show Hid (IsA (wr.setCell ⟨nb, i, none⟩ (.int .i64 (shareN (xs[i]?.getD 0)))) nb 107 .i64 256 (fun s => if s < i + 1 then shareN (xs[s]?.getD 0) else 0) ∧ Keep (fun k => k = cb) w (wr.setCell ⟨nb, i, none⟩ (.int .i64 (shareN (xs[i]?.getD 0)))) ∧ IsT (wr.setCell ⟨nb, i, none⟩ (.int .i64 (shareN (xs[i]?.getD 0)))) cb 71 4096 (symF xs S) (fun _ => 0) (fun _ => 0)) from by
        refine ⟨hst.congr (fun j _ => ?_), h2.trans hkk (fun j hj e => by have := HNB.out; omega), h3.keep hkk (by omega)⟩
        by_cases e : j = i
        · subst e; rw [if_pos rfl, if_pos (by omega)]
        · rw [if_neg e]
          by_cases hj : j < i
          · rw [if_pos hj, if_pos (by omega)]
          · rw [if_neg hj, if_neg (by omega)])
      generalize hsc : shareN (xs[i]?.getD 0) = sc at *
      generalize xs[i]?.getD 0 = c at *
      clear h1 h2 h3 hR hgb hTab hx hR2 hst hkk HC hsc
      go_wp2_with (go_at_call 27; refine (HSH.out _).mono ?_; rintro e w'' ⟨rfl, rfl⟩)
      go_roundw
      case rel => exact ⟨i + 1, by go_num, by omega, HG⟩
      case measure => simp [intOf]; omega
    · obtain rfl : i = n := by omega
      have HD := (show Hid (IsA wr nb 107 .i64 256 (nthF xs S 0) ∧ Keep (fun k => k = cb) w wr ∧ IsT wr cb 71 4096 (symF xs S) (fun i => if i < 0 then bitF l (xF xs S i) else 0) (fun i => if i < 0 then baseF l (xF xs S i) else 0)) from by
        obtain ⟨h1, h2, h3⟩ := HC.out
        refine ⟨h1.congr (fun j _ => ?_), h2, h3.congr (fun _ _ => rfl) (fun _ _ => by simp) (fun _ _ => by simp)⟩
        unfold nthF
        rw [← HN.out]; simp [cntP])
      have hltI : ¬ (i : Int) < (i : Int) := by omega
      clear HC HN
      go_wp2_with fail
      go_loopw [26] (fun v26 wr => ∃ i : Nat, v26 = .int .i64 (i : Int) ∧ i ≤ S ∧ Hid (IsA wr nb 107 .i64 256 (nthF xs S i) ∧ Keep (fun k => k = cb) w wr ∧ IsT wr cb 71 4096 (symF xs S) (fun j => if j < i then bitF l (xF xs S j) else 0) (fun j => if j < i then baseF l (xF xs S j) else 0))) (fun v26 _ => S - (intOf v26).toNat)
      case atStart => exact ⟨0, rfl, Nat.zero_le _, HD⟩
      case round =>
        clear HD
        obtain ⟨i, rfl, hi, HC⟩ := hrel
        by_cases hlt : i < S
        · obtain ⟨h1, h2, h3⟩ := HC.out
          obtain ⟨hR, hgb, hTab, hx⟩ := HH.out
          obtain ⟨ct, cb1, cb2⟩ := h3.cells i (by omega)
          have f1 := h3.frozen (i * 3 + 1)
          have f2 := h3.frozen (i * 3 + 2)
          have hsl := (hTab.symF i hlt).2.1
          have hsl256 : symF xs S i < 256 := by have := hTab.len; omega
          have cn := h1.cell (symF xs S i) hsl256
          have fn := h1.frozen (symF xs S i)
          rw [nthF_at hTab i hlt] at cn
          have hcl : xF xs S i ≠ 0 ∧ xF xs S i < 2 ^ (l + 1) ∧ bitF l (xF xs S i) ≤ l ∧ baseF l (xF xs S i) < S ∧ 1 ≤ lenN (xF xs S i) ∧ lenN (xF xs S i) ≤ l + 1 ∧ S ≤ xF xs S i * 2 ^ bitF l (xF xs S i) ∧ xF xs S i * 2 ^ bitF l (xF xs S i) < 2 ^ (l + 1) := by
            have hT2 := hTab
            have hl2 := hlt
            rw [HS.out] at hT2 hl2 ⊢
            obtain ⟨a1, a2, a3, a4, a5, a6, a7, a8⟩ := hT2.cell i hl2
            exact ⟨a1, a2, a3, a4, a6, a7, a8, (cell_fits l _ a1 a2).2.2.1⟩
          have hp13 : 2 ^ (l + 1) ≤ 8192 := Nat.pow_le_pow_right (n := 2) (j := 13) (by omega) (by omega)
          obtain ⟨s, hs⟩ : ∃ s, s = symF xs S i := ⟨_, rfl⟩
          obtain ⟨x, hxe⟩ : ∃ x, x = xF xs S i := ⟨_, rfl⟩
          rw [← hxe] at hcl cn
          rw [← hs] at ct cn fn hsl256
          obtain ⟨k1, k2, k3, k4, k5, k6, k7, k8⟩ := hcl
          obtain ⟨b, hb⟩ : ∃ b, b = bitF l x := ⟨_, rfl⟩
          obtain ⟨z, hz⟩ : ∃ z, z = baseF l x := ⟨_, rfl⟩
          obtain ⟨y, hy⟩ : ∃ y, y = x * 2 ^ bitF l x := ⟨_, rfl⟩
          rw [← hy] at k7 k8
          rw [← hb] at k3
          rw [← hz] at k4
          have hbI : (l : Int) + 1 - ((lenN x : Nat) : Int) = (b : Int) := by rw [hb]; unfold bitF; omega
          have hyI : (x : Int) * 2 ^ b = (y : Int) := by rw [hy, hb]; simp
          have hzI : (y : Int) - (S : Int) = (z : Int) := by rw [hz, hy]; unfold baseF; rw [hy, HS.out] at k7; rw [HS.out]; omega
          have HLen := (show Hid (∀ w : World, _) from fun w => len_any x (by omega) w)
          have hLb : ((lenN x : Nat) : Int) ≤ 13 := by omega
          have hL0 : (0 : Int) ≤ ((lenN x : Nat) : Int) := by omega
          have hxb : (x : Int) < 8192 := by omega
          have hyb : (y : Int) < 8192 := by omega
          have hzb : (z : Int) < 4096 := by omega
          have hbb : (b : Int) ≤ 12 := by omega
          have hsI : (s : Int) < 256 := by omega
          have hltI2 : (i : Int) < (S : Int) := by omega
          have hSI : (S : Int) ≤ 4096 := by omega
          have hlI : (l : Int) ≤ 12 := by omega
          have hst := h1.set s ((x : Int) + 1)
          have hkk : Keep (fun k => k = nb) wr (wr.setCell ⟨nb, s, none⟩ (.int .i64 ((x : Int) + 1))) := Keep.setCell (S := fun k => k = nb) (p := ⟨nb, s, none⟩) (Keep.refl _ wr) (fun _ => rfl) _
          have hT2 := h3.keep hkk (by omega)
          have hA2 : IsA (wr.setCell ⟨nb, s, none⟩ (.int .i64 ((x : Int) + 1))) nb 107 .i64 256 (nthF xs S (i + 1)) := hst.congr (fun j _ => by
            rw [nthF_succ, ← hs]
            split
            · rename_i e; rw [e, hs, nthF_at hTab i hlt, hxe]
            · rfl)
          have HG := (show Hid (IsA (wr.setCell ⟨nb, s, none⟩ (.int .i64 ((x : Int) + 1))) nb 107 .i64 256 (nthF xs S (i + 1)) ∧ Keep (fun k => k = cb) w (wr.setCell ⟨nb, s, none⟩ (.int .i64 ((x : Int) + 1))) ∧ IsT (wr.setCell ⟨nb, s, none⟩ (.int .i64 ((x : Int) + 1))) cb 71 4096 (symF xs S) (fun j => if j < i then bitF l (xF xs S j) else 0) (fun j => if j < i then baseF l (xF xs S j) else 0)) from
            ⟨hA2, h2.trans hkk (fun j hj e => by have := HNB.out; omega), hT2⟩)
          have HX := (show Hid (b = bitF l (xF xs S i) ∧ z = baseF l (xF xs S i)) from ⟨by rw [hb, hxe], by rw [hz, hxe]⟩)
          obtain ⟨cta, cb1a, cb2a⟩ := hT2.cells i (by omega)
          have f1a := hT2.frozen (i * 3 + 1)
          have f2a := hT2.frozen (i * 3 + 2)
          generalize lenN x = L at *
          clear h1 h2 h3 hR hgb hTab hx HC hst hkk hT2 hA2 hs hxe hb hz hy k1 k2 k3 k4 k5 k6 k7 k8 hp13 hsl cb1 cb2 f1 f2 hsl256
          go_wp2_with fail
          generalize wr.setCell ⟨nb, s, none⟩ (.int .i64 ((x : Int) + 1)) = W2 at HG cta cb1a cb2a f1a f2a ⊢
          refine (HLen.out _).mono ?_
          rintro e w'' ⟨rfl, rfl⟩
          go_wp2_with fail
          go_roundw
          case rel =>
            obtain ⟨g1, g2, g3⟩ := HG.out
            obtain ⟨e1, e2⟩ := HX.out
            have t1 := (g3.setBit i b).setBase i z
            have kk : Keep (fun k => k = cb) w'' ((w''.setCell ⟨cb, i * 3 + 1, none⟩ (.int .u8 (b : Int))).setCell ⟨cb, i * 3 + 2, none⟩ (.int .u16 (z : Int))) :=
              Keep.setCell (S := fun k => k = cb) (p := ⟨cb, i * 3 + 2, none⟩) (Keep.setCell (S := fun k => k = cb) (p := ⟨cb, i * 3 + 1, none⟩) (Keep.refl _ w'') (fun _ => rfl) _) (fun _ => rfl) _
            refine ⟨i + 1, by go_num, by omega, g1.keep kk (by omega), g2.trans kk (fun _ _ h => h), t1.congr (fun _ _ => rfl) (fun j _ => ?_) (fun j _ => ?_)⟩
            · by_cases e : j = i
              · subst e; rw [if_pos rfl, if_pos (by omega), e1]
              · rw [if_neg e]
                by_cases hj : j < i
                · rw [if_pos hj, if_pos (by omega)]
                · rw [if_neg hj, if_neg (by omega)]
            · by_cases e : j = i
              · subst e; rw [if_pos rfl, if_pos (by omega), e2]
              · rw [if_neg e]
                by_cases hj : j < i
                · rw [if_pos hj, if_pos (by omega)]
                · rw [if_neg hj, if_neg (by omega)]
          case measure => simp [intOf]; omega
        · obtain rfl : i = S := by omega
          have hltI2 : ¬ (i : Int) < (i : Int) := by omega
          go_wp2_with fail
          go_end0
          obtain ⟨h1, h2, h3⟩ := HC.out
          exact ⟨rfl, h3, h2⟩

end Go.Proofs.Ytoffnhbopjaocaa
