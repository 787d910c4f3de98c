/-
  The document's own XXH64.
-/
import Derived.Test.YtoohkldhfkoocaaRefX
namespace Go.Proofs.Ytoohkldhfkoocaa
open Go.RowKit Go.Shelf
set_option linter.unusedVariables false

/-- The four of the document, i of them behind the next stripe. -/
structure R4 (bs : List Nat) (k i : Nat) (cs : Array Value) : Prop where
  size : cs.size = 4
  four : ∀ j, j < 4 → cs[j]? = some (.int .u64 ((if j < i then lane bs (k + 1) j else lane bs k j : Nat) : Int))
theorem R4.set {bs : List Nat} {k i : Nat} {cs : Array Value} (h : R4 bs k i cs) (hi : i < 4) : R4 bs k (i + 1) (cs.setIfInBounds i (.int .u64 ((lane bs (k + 1) i : Nat) : Int))) := by
  have hs := h.size
  refine ⟨by simp [hs], fun j hj => ?_⟩
  rw [Array.getElem?_setIfInBounds]
  by_cases e : i = j
  · subst e
    rw [if_pos rfl, if_pos (by omega), if_pos (by omega)]
  · rw [if_neg e, h.four j hj]
    by_cases h2 : j < i
    · rw [if_pos h2, if_pos (by omega)]
    · rw [if_neg h2, if_neg (by omega)]
theorem R4.next {bs : List Nat} {k : Nat} {cs : Array Value} (h : R4 bs k 4 cs) : R4 bs (k + 1) 0 cs :=
  ⟨h.size, fun j hj => by rw [h.four j hj, if_pos hj, if_neg (by omega)]⟩
theorem R4.at_ {bs : List Nat} {k : Nat} {cs : Array Value} (h : R4 bs k 0 cs) (j : Nat) (hj : j < 4) : cs[j]? = some (.int .u64 ((lane bs k j : Nat) : Int)) := by rw [h.four j hj, if_neg (by omega)]
theorem r4_zero (bs : List Nat) : R4 bs 0 0 #[.int .u64 6983438078262162902, .int .u64 14029467366897019727, .int .u64 0, .int .u64 7046029288634856825] := by
  refine ⟨rfl, fun i hi => ?_⟩
  obtain rfl | rfl | rfl | rfl : i = 0 ∨ i = 1 ∨ i = 2 ∨ i = 3 := by omega
  all_goals rfl

set_option maxRecDepth 100000 in
set_option maxHeartbeats 4000000 in
/-- Fewer than 32 bytes. -/
theorem refXxh_few (c0 gb o0 : Nat) (bs : List Nat) (W : World) (hb : Bytes W (some ⟨gb, o0, none⟩) c0 gb o0 bs) (h32 : bs.length < 32) :
    Calls Try.prog 15 #[.slice (some ⟨gb, o0, none⟩) bs.length c0] W fun e w' => e = .returned (.int .u64 ((xxh bs : Nat) : Int)) ∧ Keep noBlock W w' := by
  obtain ⟨p, hp⟩ : ∃ p : Nat, p = 0 := ⟨0, rfl⟩
  have hcs : ∀ j, j < bs.length → W.cell? ⟨gb, o0 + j, none⟩ = some (.int .u8 ((bs[p + j]?.getD 0 : Nat) : Int)) := fun j hj => by rw [hp, Nat.zero_add]; exact hb.cells j hj
  have HC := (show Hid _ from hcs)
  have HX : Hid (∀ j : Nat, bs[j]?.getD 0 < 256) := hb.lt
  have hm := hb.cap
  have hm48 := hb.len
  have hd : ¬ ((32 : Int) ≤ (bs.length : Int)) := by omega
  have hxx : xxh bs = final (restOf ((p5 + bs.length) % 2 ^ 64) bs p bs.length) := by
    unfold xxh beginOf
    rw [hp, if_pos h32, show bs.length / 32 = 0 from by omega, show bs.length % 32 = bs.length from by omega]
  have hsum : IntKind.u64.wrap (2870177450012600261 + (bs.length : Int)) = (((p5 + bs.length) % 2 ^ 64 : Nat) : Int) := wrapN _ _ (by simp [p5])
  have hsum2 : (2870177450012600261 + (bs.length : Int)) = (((p5 + bs.length) % 2 ^ 64 : Nat) : Int) := by simp [p5]; omega
  have hh : (p5 + bs.length) % 2 ^ 64 < 2 ^ 64 := Nat.mod_lt _ (by decide)
  have HXX := (show Hid _ from hxx)
  clear hxx hb hcs
  generalize (p5 + bs.length) % 2 ^ 64 = h0 at hsum hsum2 hh HXX
  have HKW : Hid (Keep noBlock W W) := Keep.refl _ _
  generalize xxh bs = X at HXX ⊢
  generalize bs.length = m at *
  clear hp
  go_enter Try.func15, Try.ntmps15
  go_wp2_with fail
  clear hsum hsum2 hd h32
  go_loopw [4, 0] (fun x b wr => ∃ (k nq r c o : Nat), (r + 8 * k = m ∧ r ≤ c ∧ c ≤ c0 ∧ (o = o0 + 8 * k ∨ r = 0)) ∧ x = .int .u64 ((rest8 h0 bs p k : Nat) : Int) ∧ b = .slice (some ⟨gb, o, none⟩) r c ∧ wr = W.drewN nq) (fun _ b _ => lenV b)
  case atStart => exact ⟨0, 0, m, c0, o0, ⟨rfl, hm, Nat.le_refl _, .inl rfl⟩, rfl, rfl, rfl⟩
  case round =>
    obtain ⟨k, nq, r, c, o, hk, rfl, rfl, rfl⟩ := hrel
    have hy := rest8_lt h0 hh bs p k
    have hrc : r ≤ c := by omega
    have hr48 : r < 281474976710656 := by omega
    have HK := (show Hid _ from hk)
    clear hk
    by_cases hlt : 8 ≤ r
    · have h8 : (8 : Int) ≤ (r : Int) := by omega
      have h9 : (8 : Int) ≤ (c : Int) := by omega
      have hs : rest8 h0 bs p (k + 1) = eightIn (rest8 h0 bs p k) (num bs (p + 8 * k) 8) := rfl
      generalize rest8 h0 bs p k = y at hy hs
      have HS := (show Hid _ from hs)
      clear hs
      go_wp2_with fail
      refine (readR_any r c gb o 8 _ rfl bs (p + 8 * k) (by decide) (by omega) (by omega) _ (fun j hj => ?_) HX.out).mono ?_
      · obtain ⟨h1, h2, h3, h4⟩ := HK.out
        rcases h4 with rfl | h4
        · have := HC.out (8 * k + j) (by omega)
          rw [← Nat.add_assoc, ← Nat.add_assoc] at this
          exact this
        · omega
      rintro e w' ⟨rfl, n1, rfl⟩
      have hn := num_lt bs (p + 8 * k) 8
      generalize num bs (p + 8 * k) 8 = x at HS hn
      go_wp2_with fail
      refine (roundR_any 0 x _ _ rfl rfl _).mono ?_
      rintro e w' ⟨rfl, n2, rfl⟩
      go_wp2_with fail
      refine (turnR_any (y ^^^ round 0 x) 27 _ _ (xorN _ _ _ _ rfl rfl hy (round_lt _ _)) rfl (xor_lt64 hy (round_lt _ _)) (by decide) (by decide) _).mono ?_
      rintro e w' ⟨rfl, n3, rfl⟩
      go_wp2_with fail
      go_roundw
      case rel =>
        obtain ⟨h1, h2, h3, h4⟩ := HK.out
        refine ⟨k + 1, _, r - 8, c - 8, if c = 8 then o else o + 8, ⟨by omega, by omega, by omega, ?_⟩, ?_, ?_, rfl⟩
        · split <;> omega
        · rw [HS.out, wrapN _ (turn (y ^^^ round 0 x) 27 * p1 % 2 ^ 64 + p4) (by rw [wrapN _ (turn (y ^^^ round 0 x) 27 * p1) (by simp [p1])]; simp [p4])]
          rfl
        · split <;> rfl
      case measure => simp only [lenV]; omega
    · have hr8 : r = m % 8 ∧ k = m / 8 := by have := HK.out; omega
      generalize hyd : rest8 h0 bs p k = y at hy
      by_cases h4 : 4 ≤ r
      · have h8 : (4 : Int) ≤ (r : Int) := by omega
        have h9 : (4 : Int) ≤ (c : Int) := by omega
        have hres : restOf h0 bs p m = rest1 (fourIn y (num bs (p + 8 * k) 4)) bs (p + 8 * k + 4) (r - 4) := by
          unfold restOf
          rw [← hr8.1, ← hr8.2, if_neg (by omega), hyd]
        have HR := (show Hid _ from hres)
        clear hres hyd hr8
        go_wp2_with fail
        refine (readR_any r c gb o 4 _ rfl bs (p + 8 * k) (by decide) (by omega) (by omega) _ (fun j hj => ?_) HX.out).mono ?_
        · obtain ⟨h1, h2, h3, h4⟩ := HK.out
          rcases h4 with rfl | h4
          · have := HC.out (8 * k + j) (by omega)
            rw [← Nat.add_assoc, ← Nat.add_assoc] at this
            exact this
          · omega
        rintro e w' ⟨rfl, n1, rfl⟩
        have hn := num_lt bs (p + 8 * k) 4
        generalize num bs (p + 8 * k) 4 = x at HR hn
        go_wp2_with fail
        refine (turnR_any (y ^^^ x * p1 % 2 ^ 64) 23 _ _ (xorN _ _ _ _ rfl (wrapN _ _ (by simp [p1])) hy (Nat.mod_lt _ (by decide))) rfl (xor_lt64 hy (Nat.mod_lt _ (by decide))) (by decide) (by decide) _).mono ?_
        rintro e w' ⟨rfl, n3, rfl⟩
        have hfo : IntKind.u64.wrap (IntKind.u64.wrap (((turn (y ^^^ x * p1 % 2 ^ 64) 23 : Nat) : Int) * 14029467366897019727) + 1609587929392839161) = ((fourIn y x : Nat) : Int) :=
          wrapN _ (turn (y ^^^ x * p1 % 2 ^ 64) 23 * p2 % 2 ^ 64 + p3) (by rw [wrapN _ (turn (y ^^^ x * p1 % 2 ^ 64) 23 * p2) (by simp [p2])]; simp [p3])
        have hf := fourIn_lt y x
        generalize turn (y ^^^ x * p1 % 2 ^ 64) 23 = z at hfo
        generalize fourIn y x = y2 at hfo hf HR
        have HB : Hid (∀ j, j < r - 4 → ¬ c = 4 ∧ W.cell? ⟨gb, o + 4 + j, none⟩ = some (.int .u8 ((bs[p + 8 * k + 4 + j]?.getD 0 : Nat) : Int))) := fun j hj => by
          obtain ⟨h1, h2, h3, h4⟩ := HK.out
          refine ⟨by omega, ?_⟩
          have := HC.out (8 * k + 4 + j) (by omega)
          rw [← Nat.add_assoc, ← Nat.add_assoc, ← Nat.add_assoc, ← Nat.add_assoc] at this
          rcases h4 with rfl | h4
          · exact this
          · omega
        clear HC HK
        generalize hrr : r - 4 = rr at HR HB
        have HRR := (show Hid _ from hrr)
        clear hrr
        by_cases hc4 : c = 4
        · obtain rfl : rr = 0 := by
            have := HRR.out; omega
          subst hc4
          obtain rfl : r = 4 := by omega
          go_wp2_with fail
          go_loopw [9, 4] (fun i x wr => i = .int .i64 0 ∧ x = .int .u64 (y2 : Int) ∧ ∃ nq, wr = W.drewN nq) (fun _ _ _ => 0)
          case atStart => exact ⟨rfl, rfl, _, rfl⟩
          case round =>
            obtain ⟨rfl, rfl, nq, rfl⟩ := hrel
            have hz := rest1_lt y2 hf bs (p + 8 * k + 4) 0
            have hr0 : rest1 y2 bs (p + 8 * k + 4) 0 = y2 := rfl
            rw [hr0] at hz HR
            clear hr0
            generalize y2 = z at *
            have hs1 := shake1 z hz
            have hl1 := shake_lt z (2 ^ 33) p2
            have hfin := final_eq z
            generalize shake z (2 ^ 33) p2 = z1 at hs1 hl1 hfin
            have hs2 := shake2 z1 hl1
            have hl2 := shake_lt z1 (2 ^ 29) p3
            generalize shake z1 (2 ^ 29) p3 = z2 at hs2 hl2 hfin
            have hs3 := shake3 z2 hl2
            generalize z2 ^^^ z2 / 2 ^ 32 = z3 at hs3 hfin
            have HF2 := (show Hid _ from hfin)
            clear hfin
            go_wp2
            go_ret
            exact ⟨by rw [HXX.out, HR.out, HF2.out]; rfl, HKW.out.trans' (keep_drewN W _)⟩
        · have HB2 : Hid (∀ j, j < rr → W.cell? ⟨gb, o + 4 + j, none⟩ = some (.int .u8 ((bs[p + 8 * k + 4 + j]?.getD 0 : Nat) : Int))) := fun j hj => (HB.out j hj).2
          clear HB
          have HB := HB2
          clear HB2
          have hrr4 : rr + 4 = r := by have := HRR.out; omega
          subst hrr4
          clear HRR
          go_wp2_with fail
          go_loopw [9, 4] (fun i x wr => ∃ (j nq : Nat), j ≤ rr ∧ i = .int .i64 j ∧ x = .int .u64 ((rest1 y2 bs (p + 8 * k + 4) j : Nat) : Int) ∧ wr = W.drewN nq) (fun i _ _ => rr - (intOf i).toNat)
          case atStart => exact ⟨0, _, Nat.zero_le _, rfl, rfl, rfl⟩
          case round =>
            obtain ⟨j, nq, hj, rfl, rfl, rfl⟩ := hrel
            by_cases hlt2 : j < rr
            · have hcv := HB.out j hlt2
              have hv := HX.out (p + 8 * k + 4 + j)
              have hz := rest1_lt y2 hf bs (p + 8 * k + 4) j
              have hs : rest1 y2 bs (p + 8 * k + 4) (j + 1) = oneIn (rest1 y2 bs (p + 8 * k + 4) j) (bs[p + 8 * k + 4 + j]?.getD 0) := rfl
              generalize bs[p + 8 * k + 4 + j]?.getD 0 = v at hcv hv hs
              generalize rest1 y2 bs (p + 8 * k + 4) j = z1 at hz hs
              have HS := (show Hid _ from hs)
              clear hs
              go_wp2_with fail
              refine (turnR_any (z1 ^^^ v * p5 % 2 ^ 64) 11 _ _ (xorN _ _ _ _ rfl (wrapN _ _ (by simp [p5])) hz (Nat.mod_lt _ (by decide))) rfl (xor_lt64 hz (Nat.mod_lt _ (by decide))) (by decide) (by decide) _).mono ?_
              rintro e w' ⟨rfl, n4, rfl⟩
              go_wp2_with fail
              go_roundw
              case rel =>
                refine ⟨j + 1, _, by omega, by go_num, ?_, rfl⟩
                rw [HS.out, wrapN _ (turn (z1 ^^^ v * p5 % 2 ^ 64) 11 * p1) (by simp [p1])]
                rfl
              case measure => simp [intOf]; omega
            · obtain rfl : j = rr := by omega
              have hz := rest1_lt y2 hf bs (p + 8 * k + 4) j
              generalize rest1 y2 bs (p + 8 * k + 4) j = z at hz HR ⊢
              have hs1 := shake1 z hz
              have hl1 := shake_lt z (2 ^ 33) p2
              have hfin := final_eq z
              generalize shake z (2 ^ 33) p2 = z1 at hs1 hl1 hfin
              have hs2 := shake2 z1 hl1
              have hl2 := shake_lt z1 (2 ^ 29) p3
              generalize shake z1 (2 ^ 29) p3 = z2 at hs2 hl2 hfin
              have hs3 := shake3 z2 hl2
              generalize z2 ^^^ z2 / 2 ^ 32 = z3 at hs3 hfin
              have HF2 := (show Hid _ from hfin)
              clear hfin
              go_wp2
              go_ret
              exact ⟨by rw [HXX.out, HR.out, HF2.out]; rfl, HKW.out.trans' (keep_drewN W _)⟩
      · have hres : restOf h0 bs p m = rest1 y bs (p + 8 * k) r := by
          unfold restOf
          rw [← hr8.1, ← hr8.2, if_pos (by omega), hyd]
        have HR := (show Hid _ from hres)
        clear hres hyd hr8
        have HB : Hid (∀ j, j < r → W.cell? ⟨gb, o + j, none⟩ = some (.int .u8 ((bs[p + 8 * k + j]?.getD 0 : Nat) : Int))) := fun j hj => by
          obtain ⟨h1, h2, h3, h4⟩ := HK.out
          have := HC.out (8 * k + j) (by omega)
          rw [← Nat.add_assoc, ← Nat.add_assoc] at this
          rcases h4 with rfl | h4
          · exact this
          · omega
        clear HC HK
        have hf := hy
        go_wp2_with fail
        go_loopw [9, 4] (fun i x wr => ∃ (j nq : Nat), j ≤ r ∧ i = .int .i64 j ∧ x = .int .u64 ((rest1 y bs (p + 8 * k) j : Nat) : Int) ∧ wr = W.drewN nq) (fun i _ _ => r - (intOf i).toNat)
        case atStart => exact ⟨0, _, Nat.zero_le _, rfl, rfl, rfl⟩
        case round =>
          obtain ⟨j, nq, hj, rfl, rfl, rfl⟩ := hrel
          by_cases hlt2 : j < r
          · have hcv := HB.out j hlt2
            have hv := HX.out (p + 8 * k + j)
            have hz := rest1_lt y hf bs (p + 8 * k) j
            have hs : rest1 y bs (p + 8 * k) (j + 1) = oneIn (rest1 y bs (p + 8 * k) j) (bs[p + 8 * k + j]?.getD 0) := rfl
            generalize bs[p + 8 * k + j]?.getD 0 = v at hcv hv hs
            generalize rest1 y bs (p + 8 * k) j = z1 at hz hs
            have HS := (show Hid _ from hs)
            clear hs
            go_wp2_with fail
            refine (turnR_any (z1 ^^^ v * p5 % 2 ^ 64) 11 _ _ (xorN _ _ _ _ rfl (wrapN _ _ (by simp [p5])) hz (Nat.mod_lt _ (by decide))) rfl (xor_lt64 hz (Nat.mod_lt _ (by decide))) (by decide) (by decide) _).mono ?_
            rintro e w' ⟨rfl, n4, rfl⟩
            go_wp2_with fail
            go_roundw
            case rel =>
              refine ⟨j + 1, _, by omega, by go_num, ?_, rfl⟩
              rw [HS.out, wrapN _ (turn (z1 ^^^ v * p5 % 2 ^ 64) 11 * p1) (by simp [p1])]
              rfl
            case measure => simp [intOf]; omega
          · obtain rfl : j = r := by omega
            have hz := rest1_lt y hf bs (p + 8 * k) j
            generalize rest1 y bs (p + 8 * k) j = z at hz HR ⊢
            have hs1 := shake1 z hz
            have hl1 := shake_lt z (2 ^ 33) p2
            have hfin := final_eq z
            generalize shake z (2 ^ 33) p2 = z1 at hs1 hl1 hfin
            have hs2 := shake2 z1 hl1
            have hl2 := shake_lt z1 (2 ^ 29) p3
            generalize shake z1 (2 ^ 29) p3 = z2 at hs2 hl2 hfin
            have hs3 := shake3 z2 hl2
            generalize z2 ^^^ z2 / 2 ^ 32 = z3 at hs3 hfin
            have HF2 := (show Hid _ from hfin)
            clear hfin
            go_wp2
            go_ret
            exact ⟨by rw [HXX.out, HR.out, HF2.out]; rfl, HKW.out.trans' (keep_drewN W _)⟩

set_option maxRecDepth 100000 in
set_option maxHeartbeats 4000000 in
/-- No bytes. -/
theorem refXxh_none (a : Option Addr) (cap : Nat) (w : World) :
    Calls Try.prog 15 #[.slice a 0 cap] w fun e w' => e = .returned (.int .u64 ((xxh [] : Nat) : Int)) ∧ Keep noBlock w w' := by
  have hxx : xxh [] = final p5 := rfl
  have hz : p5 < 2 ^ 64 := by decide
  have hp5 : (2870177450012600261 : Int) = ((p5 : Nat) : Int) := by simp [p5]
  have hs1 := shake1 p5 hz
  have hl1 := shake_lt p5 (2 ^ 33) p2
  have hfin := final_eq p5
  rw [← hp5] at hs1
  clear hp5 hz
  generalize shake p5 (2 ^ 33) p2 = z1 at hs1 hl1 hfin
  have hs2 := shake2 z1 hl1
  have hl2 := shake_lt z1 (2 ^ 29) p3
  generalize shake z1 (2 ^ 29) p3 = z2 at hs2 hl2 hfin
  have hs3 := shake3 z2 hl2
  generalize z2 ^^^ z2 / 2 ^ 32 = z3 at hs3 hfin
  rw [hfin] at hxx
  rw [hxx]
  clear hxx hfin
  have hdv : ((2870177450012600261 : Int) / 8589934592) = 334132631 := by decide
  rw [hdv] at hs1
  go_enter Try.func15, Try.ntmps15
  go_wp2_with fail
  go_loopw [4, 0] (fun x b wr => x = .int .u64 2870177450012600261 ∧ b = .slice a 0 cap ∧ wr = w) (fun _ _ _ => 0)
  case atStart => exact ⟨rfl, rfl, rfl⟩
  case round =>
    obtain ⟨rfl, rfl, rfl⟩ := hrel
    go_wp2_with fail
    go_loopw [9, 4] (fun i x wr' => i = .int .i64 0 ∧ x = .int .u64 2870177450012600261 ∧ wr' = wr) (fun _ _ _ => 0)
    case atStart => exact ⟨rfl, rfl, rfl⟩
    case round =>
      obtain ⟨rfl, rfl, rfl⟩ := hrel
      go_wp2
      go_ret
      exact ⟨rfl, Keep.refl _ _⟩

set_option maxRecDepth 100000 in
set_option maxHeartbeats 8000000 in
/-- 32 bytes and more. -/
theorem refXxh_many (cap gb off : Nat) (bs : List Nat) (w : World) (hb : Bytes w (some ⟨gb, off, none⟩) cap gb off bs) (h32 : 32 ≤ bs.length) :
    Calls Try.prog 15 #[.slice (some ⟨gb, off, none⟩) bs.length cap] w fun e w' => e = .returned (.int .u64 ((xxh bs : Nat) : Int)) ∧ Keep noBlock w w' := by
  have HX : Hid (∀ j : Nat, bs[j]?.getD 0 < 256) := hb.lt
  have HC0 : Hid (∀ j, j < bs.length → w.cell? ⟨gb, off + j, none⟩ = some (.int .u8 ((bs[j]?.getD 0 : Nat) : Int))) := hb.cells
  have hcap := hb.cap
  have hm48 := hb.len
  have hgb : gb < w.heap.size := hb.block (by rintro rfl; simp at h32)
  have hd : (32 : Int) ≤ (bs.length : Int) := by omega
  have hxx : xxh bs = final (restOf ((mixed (lane bs (bs.length / 32)) 4 + bs.length) % 2 ^ 64) bs (32 * (bs.length / 32)) (bs.length % 32)) := by
    unfold xxh beginOf
    rw [if_neg (by omega)]
  have HXX0 := (show Hid _ from hxx)
  clear hxx hb
  have hw1 : IntKind.u64.wrap 25430182151971714518 = 6983438078262162902 := by rw [IntKind.wrap_u64]; rfl
  have hw2 : IntKind.u64.wrap (-11400714785074694791) = 7046029288634856825 := by rw [IntKind.wrap_u64]; rfl
  have hw3 : IntKind.u64.wrap (0 - 11400714785074694791) = 7046029288634856825 := by rw [IntKind.wrap_u64]; rfl
  have hob0 := World.alloc_heap_new w (.cells #[.int .u64 6983438078262162902, .int .u64 14029467366897019727, .int .u64 0, .int .u64 7046029288634856825] 26)
  have hK0 : Keep noBlock w (w.alloc (.cells #[.int .u64 6983438078262162902, .int .u64 14029467366897019727, .int .u64 0, .int .u64 7046029288634856825] 26)) := (Keep.refl _ w).alloc _
  have HO0 := (show Hid _ from hob0)
  clear hob0
  generalize hXe : xxh bs = X at HXX0 ⊢
  clear hXe
  go_enter Try.func15, Try.ntmps15
  go_wp2_with fail
  clear hw1 hw2 hw3 hd
  generalize w.alloc (.cells #[.int .u64 6983438078262162902, .int .u64 14029467366897019727, .int .u64 0, .int .u64 7046029288634856825] 26) = W0 at HO0 hK0 ⊢
  generalize hBB : w.heap.size = B at HO0 hgb ⊢
  have HBB := (show Hid _ from hBB)
  clear hBB
  go_loopw [0] (fun b wr => ∃ (k r c o : Nat) (cs : Array Value), (r + 32 * k = bs.length ∧ r ≤ c ∧ c ≤ cap ∧ (o = off + 32 * k ∨ r = 0)) ∧ b = .slice (some ⟨gb, o, none⟩) r c ∧ wr.heap[B]? = some (.cells cs 26 (0, 0)) ∧ R4 bs k 0 cs ∧ Keep noBlock w wr) (fun b _ => lenV b)
  case atStart => exact ⟨0, bs.length, cap, off, _, ⟨rfl, hcap, Nat.le_refl _, .inl rfl⟩, rfl, HO0.out, r4_zero bs, hK0⟩
  case round =>
    clear HO0 hK0
    obtain ⟨k, r, c, o, cs, hk, rfl, ho, hr4, hK⟩ := hrel
    have hr48 : r < 281474976710656 := by omega
    have hrc : r ≤ c := by omega
    by_cases hlt : 32 ≤ r
    · have h8 : (32 : Int) ≤ (r : Int) := by omega
      have HK := (show Hid _ from hk)
      clear hk
      go_wp2_with fail
      go_loopw [7] (fun i wr' => ∃ (j : Nat) (cs' : Array Value), j ≤ 4 ∧ i = .int .i64 j ∧ wr'.heap[B]? = some (.cells cs' 26 (0, 0)) ∧ R4 bs k j cs' ∧ Keep noBlock w wr') (fun i _ => 4 - (intOf i).toNat)
      case atStart => exact ⟨0, cs, by omega, rfl, ho, hr4, hK⟩
      case round =>
        clear ho hr4 hK
        obtain ⟨j, cs', hj, rfl, ho, hx, hK⟩ := hrel
        by_cases hlt4 : j < 4
        · have hc : wr.cell? ⟨B, j, none⟩ = some (.int .u64 ((lane bs k j : Nat) : Int)) := (cell_of ho j).trans (by rw [hx.four j hlt4, if_neg (by omega)])
          have hfz := frozen_of ho j
          have hmx : Try.prog.follows .mixedOrders = true := by kernel_rfl
          have hrest : ∀ i, i < 8 → wr.cell? ⟨gb, o + 8 * j + i, none⟩ = some (.int .u8 ((bs[32 * k + 8 * j + i]?.getD 0 : Nat) : Int)) := fun i hi => by
            obtain ⟨e1, e2, e3, e4⟩ := HK.out
            have h1 := HC0.out (32 * k + 8 * j + i) (by omega)
            have h2 := (World.cell?_of_block (hK.block gb (World.block_lt_of_cell? w ⟨gb, off + (32 * k + 8 * j + i), none⟩ h1) (fun h => h))).trans h1
            have e5 : o + 8 * j + i = off + (32 * k + 8 * j + i) := by omega
            rw [e5]; exact h2
          have HR := (show Hid _ from hrest)
          clear hrest
          obtain ⟨q, hq⟩ : ∃ q, 8 * j = q := ⟨_, rfl⟩
          have hq1 : IntKind.i64.wrap (8 * (j : Int)) = (q : Int) := by rw [IntKind.wrap_i64]; omega
          have hj4 : (j : Int) < 4 := by omega
          have hb1 : (q : Int) ≤ (r : Int) := by omega
          have hb0 : (0 : Int) ≤ (q : Int) := by omega
          have hb3 : ¬ c = q := by omega
          have hq24 : q ≤ 24 := by omega
          rw [hq] at HR
          have HL : Hid (lane bs (k + 1) j = round (lane bs k j) (num bs (32 * k + q) 8)) := by rw [← hq]; rfl
          clear hq
          generalize lane bs k j = f at hc HL
          go_wp2_with fail
          go_region_with (first | (go_at_call 23; refine (readR_any (r - q) (c - q) gb (o + q) 8 _ rfl bs (32 * k + q) (by decide) (by omega) (by omega) _ ?_ HX.out).mono ?_; exact fun i hi => HR.out i hi; rintro e w' ⟨rfl, n1, rfl⟩) | (go_at_call 22; refine (roundR_any f (num bs (32 * k + q) 8) _ _ rfl rfl _).mono ?_; rintro e w' ⟨rfl, n2, rfl⟩))
          all_goals go_wp2
          all_goals go_roundw
          all_goals first
            | (rw [← HL.out]; exact ⟨j + 1, _, by omega, by go_num, set_obj (w := wr.drewN _) ho j _, hx.set hlt4, hK.trans (Keep.setCell (S := fun i => i = B) (p := ⟨B, j, none⟩) (keep_drewN wr _ |>.mono (fun _ _ h => h.elim)) (fun _ => rfl) _) (fun i hi e => by have := HBB.out; omega)⟩)
            | (simp [intOf]; omega)
        · obtain rfl : j = 4 := by omega
          go_wp2
          go_roundw
          case rel =>
            obtain ⟨e1, e2, e3, e4⟩ := HK.out
            refine ⟨k + 1, r - 32, c - 32, if c = 32 then o else o + 32, cs', ⟨by omega, by omega, by omega, ?_⟩, ?_, ho, hx.next, hK⟩
            · split <;> omega
            · split <;> rfl
          case measure => simp only [lenV]; omega
    · have hk2 : k = bs.length / 32 ∧ r = bs.length % 32 := by omega
      obtain ⟨hk2, hr2⟩ := hk2
      rw [← hk2, ← hr2] at HXX0
      have hcl : ∀ j, j < 4 → wr.cell? ⟨B, j, none⟩ = some (.int .u64 ((lane bs k j : Nat) : Int)) := fun j hj => (cell_of ho j).trans (hr4.at_ j hj)
      have hll := fun j => lane_lt bs k j
      generalize lane bs k = f at hcl hll HXX0
      have hcs : ∀ j, j < r → wr.cell? ⟨gb, o + j, none⟩ = some (.int .u8 ((bs[32 * k + j]?.getD 0 : Nat) : Int)) := fun j hj => by
        obtain ⟨e1, e2, e3, e4⟩ := hk
        have h1 := HC0.out (32 * k + j) (by omega)
        have h2 := (World.cell?_of_block (hK.block gb (World.block_lt_of_cell? w ⟨gb, off + (32 * k + j), none⟩ h1) (fun h => h))).trans h1
        have e5 : o + j = off + (32 * k + j) := by omega
        rw [e5]; exact h2
      have HCS := (show Hid _ from hcs)
      clear hcs ho hr4 hk hk2 hr2 HC0
      have hc0 := hcl 0 (by decide)
      have hc1 := hcl 1 (by decide)
      have hc2 := hcl 2 (by decide)
      have hc3 := hcl 3 (by decide)
      have hl0 := hll 0
      have hl1 := hll 1
      have hl2 := hll 2
      have hl3 := hll 3
      have HCL := (show Hid _ from hcl)
      clear hcl hll
      have hjn : IntKind.u64.wrap (IntKind.u64.wrap (IntKind.u64.wrap (((turn (f 0) 1 : Nat) : Int) + ((turn (f 1) 7 : Nat) : Int)) + ((turn (f 2) 12 : Nat) : Int)) + ((turn (f 3) 18 : Nat) : Int)) = ((joined f : Nat) : Int) := by
        rw [wrapN (((turn (f 0) 1 : Nat) : Int) + ((turn (f 1) 7 : Nat) : Int)) (turn (f 0) 1 + turn (f 1) 7) (by simp), wrapN (_ + ((turn (f 2) 12 : Nat) : Int)) ((turn (f 0) 1 + turn (f 1) 7) % 2 ^ 64 + turn (f 2) 12) (by simp), wrapN _ ((((turn (f 0) 1 + turn (f 1) 7) % 2 ^ 64 + turn (f 2) 12) % 2 ^ 64 + turn (f 3) 18)) (by simp)]
        rfl
      go_wp2_with fail
      go_quiet (first | (go_at_call_of 24 (Value.int .u64 ((f 0 : Nat) : Int)); exact Calls.quiet_of (turnR_any (f 0) 1 _ _ rfl rfl hl0 (by decide) (by decide) _)) | (go_at_call_of 24 (Value.int .u64 ((f 1 : Nat) : Int)); exact Calls.quiet_of (turnR_any (f 1) 7 _ _ rfl rfl hl1 (by decide) (by decide) _)) | (go_at_call_of 24 (Value.int .u64 ((f 2 : Nat) : Int)); exact Calls.quiet_of (turnR_any (f 2) 12 _ _ rfl rfl hl2 (by decide) (by decide) _)) | (go_at_call_of 24 (Value.int .u64 ((f 3 : Nat) : Int)); exact Calls.quiet_of (turnR_any (f 3) 18 _ _ rfl rfl hl3 (by decide) (by decide) _)))
      go_wp2_with fail
      have hj0 : joined f = mixed f 0 := rfl
      rw [hj0]
      clear hj0 hjn hc0 hc1 hc2 hc3 hl0 hl1 hl2 hl3
      go_loopw [8, 4] (fun i x wr' => ∃ (j nq : Nat), j ≤ 4 ∧ i = .int .i64 j ∧ x = .int .u64 ((mixed f j : Nat) : Int) ∧ wr' = wr.drewN nq) (fun i _ _ => 4 - (intOf i).toNat)
      case atStart => exact ⟨0, _, by omega, rfl, rfl, rfl⟩
      case round =>
        obtain ⟨j, nq, hj, rfl, rfl, rfl⟩ := hrel
        by_cases hlt4 : j < 4
        · have hcj := HCL.out j hlt4
          have hj4 : (j : Int) < 4 := by omega
          have hy := mixed_lt f j
          have hs : mixed f (j + 1) = mixIn (mixed f j) (f j) := rfl
          generalize mixed f j = y at hy hs
          generalize f j = fj at hcj hs
          have HS := (show Hid _ from hs)
          clear hs
          go_wp2_with fail
          refine (roundR_any 0 fj _ _ rfl rfl _).mono ?_
          rintro e w' ⟨rfl, n2, rfl⟩
          have hmi := mixIn_form y fj hy
          go_wp2_with fail
          go_roundw
          case rel => exact ⟨j + 1, _, by omega, by go_num, by rw [HS.out], rfl⟩
          case measure => simp [intOf]; omega
        · obtain rfl : j = 4 := by omega
          rw [show ((4 : Nat) : Int) = (4 : Int) from rfl]
          have hy := mixed_lt f 4
          generalize mixed f 4 = y4 at hy HXX0
          have hsum : IntKind.u64.wrap ((y4 : Int) + (bs.length : Int)) = (((y4 + bs.length) % 2 ^ 64 : Nat) : Int) := wrapN _ _ (by simp)
          have hh : (y4 + bs.length) % 2 ^ 64 < 2 ^ 64 := Nat.mod_lt _ (by decide)
          have HXX := HXX0
          clear HXX0
          generalize (y4 + bs.length) % 2 ^ 64 = h0 at hsum hh HXX
          go_wp2_with fail
          clear hsum hy hlt hlt4 HCL h32
          have HC : Hid (∀ j, j < r → (wr.drewN nq).cell? ⟨gb, o + j, none⟩ = some (.int .u8 ((bs[32 * k + j]?.getD 0 : Nat) : Int))) := fun j hj => HCS.out j hj
          have HKW := (show Hid _ from hK.trans' (keep_drewN wr nq))
          clear HCS hK
          generalize wr.drewN nq = W at HC HKW ⊢
          generalize 32 * k = p at HC HXX
          have hm48' := hm48
          have hm := hrc
          generalize bs.length = N at *
          generalize r = m at *
          generalize c = c0 at *
          generalize o = o0 at *
          have hm48 := hr48
          clear hr48 hrc hcap hgb HBB hm48'
          go_loopw [4, 0] (fun x b wr => ∃ (k nq r c o : Nat), (r + 8 * k = m ∧ r ≤ c ∧ c ≤ c0 ∧ (o = o0 + 8 * k ∨ r = 0)) ∧ x = .int .u64 ((rest8 h0 bs p k : Nat) : Int) ∧ b = .slice (some ⟨gb, o, none⟩) r c ∧ wr = W.drewN nq) (fun _ b _ => lenV b)
          case atStart => exact ⟨0, 0, m, c0, o0, ⟨rfl, hm, Nat.le_refl _, .inl rfl⟩, rfl, rfl, rfl⟩
          case round =>
            obtain ⟨k, nq, r, c, o, hk, rfl, rfl, rfl⟩ := hrel
            have hy := rest8_lt h0 hh bs p k
            have hrc : r ≤ c := by omega
            have hr48 : r < 281474976710656 := by omega
            have HK := (show Hid _ from hk)
            clear hk
            by_cases hlt : 8 ≤ r
            · have h8 : (8 : Int) ≤ (r : Int) := by omega
              have h9 : (8 : Int) ≤ (c : Int) := by omega
              have hs : rest8 h0 bs p (k + 1) = eightIn (rest8 h0 bs p k) (num bs (p + 8 * k) 8) := rfl
              generalize rest8 h0 bs p k = y at hy hs
              have HS := (show Hid _ from hs)
              clear hs
              go_wp2_with fail
              refine (readR_any r c gb o 8 _ rfl bs (p + 8 * k) (by decide) (by omega) (by omega) _ (fun j hj => ?_) HX.out).mono ?_
              · obtain ⟨h1, h2, h3, h4⟩ := HK.out
                rcases h4 with rfl | h4
                · have := HC.out (8 * k + j) (by omega)
                  rw [← Nat.add_assoc, ← Nat.add_assoc] at this
                  exact this
                · omega
              rintro e w' ⟨rfl, n1, rfl⟩
              have hn := num_lt bs (p + 8 * k) 8
              generalize num bs (p + 8 * k) 8 = x at HS hn
              go_wp2_with fail
              refine (roundR_any 0 x _ _ rfl rfl _).mono ?_
              rintro e w' ⟨rfl, n2, rfl⟩
              go_wp2_with fail
              refine (turnR_any (y ^^^ round 0 x) 27 _ _ (xorN _ _ _ _ rfl rfl hy (round_lt _ _)) rfl (xor_lt64 hy (round_lt _ _)) (by decide) (by decide) _).mono ?_
              rintro e w' ⟨rfl, n3, rfl⟩
              go_wp2_with fail
              go_roundw
              case rel =>
                obtain ⟨h1, h2, h3, h4⟩ := HK.out
                refine ⟨k + 1, _, r - 8, c - 8, if c = 8 then o else o + 8, ⟨by omega, by omega, by omega, ?_⟩, ?_, ?_, rfl⟩
                · split <;> omega
                · rw [HS.out, wrapN _ (turn (y ^^^ round 0 x) 27 * p1 % 2 ^ 64 + p4) (by rw [wrapN _ (turn (y ^^^ round 0 x) 27 * p1) (by simp [p1])]; simp [p4])]
                  rfl
                · split <;> rfl
              case measure => simp only [lenV]; omega
            · have hr8 : r = m % 8 ∧ k = m / 8 := by have := HK.out; omega
              generalize hyd : rest8 h0 bs p k = y at hy
              by_cases h4 : 4 ≤ r
              · have h8 : (4 : Int) ≤ (r : Int) := by omega
                have h9 : (4 : Int) ≤ (c : Int) := by omega
                have hres : restOf h0 bs p m = rest1 (fourIn y (num bs (p + 8 * k) 4)) bs (p + 8 * k + 4) (r - 4) := by
                  unfold restOf
                  rw [← hr8.1, ← hr8.2, if_neg (by omega), hyd]
                have HR := (show Hid _ from hres)
                clear hres hyd hr8
                go_wp2_with fail
                refine (readR_any r c gb o 4 _ rfl bs (p + 8 * k) (by decide) (by omega) (by omega) _ (fun j hj => ?_) HX.out).mono ?_
                · obtain ⟨h1, h2, h3, h4⟩ := HK.out
                  rcases h4 with rfl | h4
                  · have := HC.out (8 * k + j) (by omega)
                    rw [← Nat.add_assoc, ← Nat.add_assoc] at this
                    exact this
                  · omega
                rintro e w' ⟨rfl, n1, rfl⟩
                have hn := num_lt bs (p + 8 * k) 4
                generalize num bs (p + 8 * k) 4 = x at HR hn
                go_wp2_with fail
                refine (turnR_any (y ^^^ x * p1 % 2 ^ 64) 23 _ _ (xorN _ _ _ _ rfl (wrapN _ _ (by simp [p1])) hy (Nat.mod_lt _ (by decide))) rfl (xor_lt64 hy (Nat.mod_lt _ (by decide))) (by decide) (by decide) _).mono ?_
                rintro e w' ⟨rfl, n3, rfl⟩
                have hfo : IntKind.u64.wrap (IntKind.u64.wrap (((turn (y ^^^ x * p1 % 2 ^ 64) 23 : Nat) : Int) * 14029467366897019727) + 1609587929392839161) = ((fourIn y x : Nat) : Int) :=
                  wrapN _ (turn (y ^^^ x * p1 % 2 ^ 64) 23 * p2 % 2 ^ 64 + p3) (by rw [wrapN _ (turn (y ^^^ x * p1 % 2 ^ 64) 23 * p2) (by simp [p2])]; simp [p3])
                have hf := fourIn_lt y x
                generalize turn (y ^^^ x * p1 % 2 ^ 64) 23 = z at hfo
                generalize fourIn y x = y2 at hfo hf HR
                have HB : Hid (∀ j, j < r - 4 → ¬ c = 4 ∧ W.cell? ⟨gb, o + 4 + j, none⟩ = some (.int .u8 ((bs[p + 8 * k + 4 + j]?.getD 0 : Nat) : Int))) := fun j hj => by
                  obtain ⟨h1, h2, h3, h4⟩ := HK.out
                  refine ⟨by omega, ?_⟩
                  have := HC.out (8 * k + 4 + j) (by omega)
                  rw [← Nat.add_assoc, ← Nat.add_assoc, ← Nat.add_assoc, ← Nat.add_assoc] at this
                  rcases h4 with rfl | h4
                  · exact this
                  · omega
                clear HC HK
                generalize hrr : r - 4 = rr at HR HB
                have HRR := (show Hid _ from hrr)
                clear hrr
                by_cases hc4 : c = 4
                · obtain rfl : rr = 0 := by
                    have := HRR.out; omega
                  subst hc4
                  obtain rfl : r = 4 := by omega
                  go_wp2_with fail
                  go_loopw [9, 4] (fun i x wr => i = .int .i64 0 ∧ x = .int .u64 (y2 : Int) ∧ ∃ nq, wr = W.drewN nq) (fun _ _ _ => 0)
                  case atStart => exact ⟨rfl, rfl, _, rfl⟩
                  case round =>
                    obtain ⟨rfl, rfl, nq, rfl⟩ := hrel
                    have hz := rest1_lt y2 hf bs (p + 8 * k + 4) 0
                    have hr0 : rest1 y2 bs (p + 8 * k + 4) 0 = y2 := rfl
                    rw [hr0] at hz HR
                    clear hr0
                    generalize y2 = z at *
                    have hs1 := shake1 z hz
                    have hl1 := shake_lt z (2 ^ 33) p2
                    have hfin := final_eq z
                    generalize shake z (2 ^ 33) p2 = z1 at hs1 hl1 hfin
                    have hs2 := shake2 z1 hl1
                    have hl2 := shake_lt z1 (2 ^ 29) p3
                    generalize shake z1 (2 ^ 29) p3 = z2 at hs2 hl2 hfin
                    have hs3 := shake3 z2 hl2
                    generalize z2 ^^^ z2 / 2 ^ 32 = z3 at hs3 hfin
                    have HF2 := (show Hid _ from hfin)
                    clear hfin
                    go_wp2
                    go_ret
                    exact ⟨by rw [HXX.out, HR.out, HF2.out]; rfl, HKW.out.trans' (keep_drewN W _)⟩
                · have HB2 : Hid (∀ j, j < rr → W.cell? ⟨gb, o + 4 + j, none⟩ = some (.int .u8 ((bs[p + 8 * k + 4 + j]?.getD 0 : Nat) : Int))) := fun j hj => (HB.out j hj).2
                  clear HB
                  have HB := HB2
                  clear HB2
                  have hrr4 : rr + 4 = r := by have := HRR.out; omega
                  subst hrr4
                  clear HRR
                  go_wp2_with fail
                  go_loopw [9, 4] (fun i x wr => ∃ (j nq : Nat), j ≤ rr ∧ i = .int .i64 j ∧ x = .int .u64 ((rest1 y2 bs (p + 8 * k + 4) j : Nat) : Int) ∧ wr = W.drewN nq) (fun i _ _ => rr - (intOf i).toNat)
                  case atStart => exact ⟨0, _, Nat.zero_le _, rfl, rfl, rfl⟩
                  case round =>
                    obtain ⟨j, nq, hj, rfl, rfl, rfl⟩ := hrel
                    by_cases hlt2 : j < rr
                    · have hcv := HB.out j hlt2
                      have hv := HX.out (p + 8 * k + 4 + j)
                      have hz := rest1_lt y2 hf bs (p + 8 * k + 4) j
                      have hs : rest1 y2 bs (p + 8 * k + 4) (j + 1) = oneIn (rest1 y2 bs (p + 8 * k + 4) j) (bs[p + 8 * k + 4 + j]?.getD 0) := rfl
                      generalize bs[p + 8 * k + 4 + j]?.getD 0 = v at hcv hv hs
                      generalize rest1 y2 bs (p + 8 * k + 4) j = z1 at hz hs
                      have HS := (show Hid _ from hs)
                      clear hs
                      go_wp2_with fail
                      refine (turnR_any (z1 ^^^ v * p5 % 2 ^ 64) 11 _ _ (xorN _ _ _ _ rfl (wrapN _ _ (by simp [p5])) hz (Nat.mod_lt _ (by decide))) rfl (xor_lt64 hz (Nat.mod_lt _ (by decide))) (by decide) (by decide) _).mono ?_
                      rintro e w' ⟨rfl, n4, rfl⟩
                      go_wp2_with fail
                      go_roundw
                      case rel =>
                        refine ⟨j + 1, _, by omega, by go_num, ?_, rfl⟩
                        rw [HS.out, wrapN _ (turn (z1 ^^^ v * p5 % 2 ^ 64) 11 * p1) (by simp [p1])]
                        rfl
                      case measure => simp [intOf]; omega
                    · obtain rfl : j = rr := by omega
                      have hz := rest1_lt y2 hf bs (p + 8 * k + 4) j
                      generalize rest1 y2 bs (p + 8 * k + 4) j = z at hz HR ⊢
                      have hs1 := shake1 z hz
                      have hl1 := shake_lt z (2 ^ 33) p2
                      have hfin := final_eq z
                      generalize shake z (2 ^ 33) p2 = z1 at hs1 hl1 hfin
                      have hs2 := shake2 z1 hl1
                      have hl2 := shake_lt z1 (2 ^ 29) p3
                      generalize shake z1 (2 ^ 29) p3 = z2 at hs2 hl2 hfin
                      have hs3 := shake3 z2 hl2
                      generalize z2 ^^^ z2 / 2 ^ 32 = z3 at hs3 hfin
                      have HF2 := (show Hid _ from hfin)
                      clear hfin
                      go_wp2
                      go_ret
                      exact ⟨by rw [HXX.out, HR.out, HF2.out]; rfl, HKW.out.trans' (keep_drewN W _)⟩
              · have hres : restOf h0 bs p m = rest1 y bs (p + 8 * k) r := by
                  unfold restOf
                  rw [← hr8.1, ← hr8.2, if_pos (by omega), hyd]
                have HR := (show Hid _ from hres)
                clear hres hyd hr8
                have HB : Hid (∀ j, j < r → W.cell? ⟨gb, o + j, none⟩ = some (.int .u8 ((bs[p + 8 * k + j]?.getD 0 : Nat) : Int))) := fun j hj => by
                  obtain ⟨h1, h2, h3, h4⟩ := HK.out
                  have := HC.out (8 * k + j) (by omega)
                  rw [← Nat.add_assoc, ← Nat.add_assoc] at this
                  rcases h4 with rfl | h4
                  · exact this
                  · omega
                clear HC HK
                have hf := hy
                go_wp2_with fail
                go_loopw [9, 4] (fun i x wr => ∃ (j nq : Nat), j ≤ r ∧ i = .int .i64 j ∧ x = .int .u64 ((rest1 y bs (p + 8 * k) j : Nat) : Int) ∧ wr = W.drewN nq) (fun i _ _ => r - (intOf i).toNat)
                case atStart => exact ⟨0, _, Nat.zero_le _, rfl, rfl, rfl⟩
                case round =>
                  obtain ⟨j, nq, hj, rfl, rfl, rfl⟩ := hrel
                  by_cases hlt2 : j < r
                  · have hcv := HB.out j hlt2
                    have hv := HX.out (p + 8 * k + j)
                    have hz := rest1_lt y hf bs (p + 8 * k) j
                    have hs : rest1 y bs (p + 8 * k) (j + 1) = oneIn (rest1 y bs (p + 8 * k) j) (bs[p + 8 * k + j]?.getD 0) := rfl
                    generalize bs[p + 8 * k + j]?.getD 0 = v at hcv hv hs
                    generalize rest1 y bs (p + 8 * k) j = z1 at hz hs
                    have HS := (show Hid _ from hs)
                    clear hs
                    go_wp2_with fail
                    refine (turnR_any (z1 ^^^ v * p5 % 2 ^ 64) 11 _ _ (xorN _ _ _ _ rfl (wrapN _ _ (by simp [p5])) hz (Nat.mod_lt _ (by decide))) rfl (xor_lt64 hz (Nat.mod_lt _ (by decide))) (by decide) (by decide) _).mono ?_
                    rintro e w' ⟨rfl, n4, rfl⟩
                    go_wp2_with fail
                    go_roundw
                    case rel =>
                      refine ⟨j + 1, _, by omega, by go_num, ?_, rfl⟩
                      rw [HS.out, wrapN _ (turn (z1 ^^^ v * p5 % 2 ^ 64) 11 * p1) (by simp [p1])]
                      rfl
                    case measure => simp [intOf]; omega
                  · obtain rfl : j = r := by omega
                    have hz := rest1_lt y hf bs (p + 8 * k) j
                    generalize rest1 y bs (p + 8 * k) j = z at hz HR ⊢
                    have hs1 := shake1 z hz
                    have hl1 := shake_lt z (2 ^ 33) p2
                    have hfin := final_eq z
                    generalize shake z (2 ^ 33) p2 = z1 at hs1 hl1 hfin
                    have hs2 := shake2 z1 hl1
                    have hl2 := shake_lt z1 (2 ^ 29) p3
                    generalize shake z1 (2 ^ 29) p3 = z2 at hs2 hl2 hfin
                    have hs3 := shake3 z2 hl2
                    generalize z2 ^^^ z2 / 2 ^ 32 = z3 at hs3 hfin
                    have HF2 := (show Hid _ from hfin)
                    clear hfin
                    go_wp2
                    go_ret
                    exact ⟨by rw [HXX.out, HR.out, HF2.out]; rfl, HKW.out.trans' (keep_drewN W _)⟩

theorem refXxh_any (a : Option Addr) (cap gb off : Nat) (bs : List Nat) (w : World) (hb : Bytes w a cap gb off bs) :
    Calls Try.prog 15 #[.slice a bs.length cap] w fun e w' => e = .returned (.int .u64 ((xxh bs : Nat) : Int)) ∧ Keep noBlock w w' := by
  by_cases h0 : bs = []
  · subst h0
    exact refXxh_none a cap w
  · obtain rfl : a = some ⟨gb, off, none⟩ := hb.at_.resolve_right h0
    by_cases h32 : bs.length < 32
    · exact refXxh_few cap gb off bs w hb h32
    · exact refXxh_many cap gb off bs w hb (by omega)

end Go.Proofs.Ytoohkldhfkoocaa
