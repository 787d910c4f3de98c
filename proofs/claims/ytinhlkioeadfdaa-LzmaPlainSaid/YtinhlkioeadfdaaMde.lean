/-
  The chunk that the statement makes: of bytes as they are.
-/
import Derived.Test.YtinhlkioeadfdaaVen
import Derived.Test.YtinhlkioeadfdaaRfn
import Derived.Test.YtinhlkioeadfdaaPln
import Derived.Test.YtinhlkioeadfdaaLgt
namespace Go.Proofs.Ytinhlkioeadfdaa
open Go.RowKit Go.Shelf
set_option linter.unusedVariables false

/-- The document's encoder and state, both new. -/
structure Mk (w W : World) (eb qb lb : Nat) (z : Ex) (v : Value) (M : Nat) : Prop where
  en : IsV W eb z.e false v
  st : Qn W qb lb z.c
  go : Good z.e
  mn : manyE z.e ≤ M
  kp : Keep noBlock w W
  n1 : w.heap.size ≤ eb
  n2 : w.heap.size ≤ qb
  n3 : w.heap.size ≤ lb
  n4 : ∀ g, v.ownBlock = some g → w.heap.size ≤ g
theorem Mk.n5 {w W W' : World} {eb qb lb pb : Nat} {z : Ex} {v v' : Value} {M : Nat} (h : Mk w W eb qb lb z v M) (hp : w.heap.size ≤ pb) (hn : Near W v v') (hk : Keep (fun k => EncS eb v k ∨ k = pb) W W') : (∀ g, v'.ownBlock = some g → w.heap.size ≤ g) ∧ Keep noBlock w W' := by
  refine ⟨fun g hg => ?_, h.kp.trans hk ?_⟩
  · rcases hn with q | ⟨k, q, hk⟩
    · exact h.n4 g (by rw [← q]; exact hg)
    · rw [q] at hg
      have : k = g := by simpa using hg
      have := h.kp.size
      omega
  · rintro i hi ((e | e) | e)
    · have := h.n1; omega
    · have := h.n4 i e; omega
    · omega
theorem Mk.bitM {w W : World} {eb qb lb : Nat} {z : Ex} {v : Value} {M : Nat} (h : Mk w W eb qb lb z v M) (hM : M ≤ 1000000) (i : Nat) (hi : i < 4) (bit : Int) (one : Bool) (hb : one = (bit != 0)) :
    Calls Try.prog 36 #[.pointer (some ⟨eb, 0, none⟩), .pointer (some ⟨qb, 8 + i, none⟩), .int .i64 bit] W fun e W' => e = .returned (.tuple #[]) ∧ ∃ v', Mk w W' eb qb lb (bitEX z (8 + i) one) v' (M + 1) := by
  obtain ⟨cs, q1, q2, q3⟩ := h.st.obj
  obtain ⟨cl, l1, l2, l3⟩ := h.st.lit
  have hmn := h.mn
  refine (bitV_any eb qb (8 + i) (z.c (8 + i)) 90 bit one cs z.e v W h.en h.go.ok (by omega) q1 (by decide) (by decide) (q3 i hi) (h.st.lt _) hb).mono ?_
  rintro e W' ⟨rfl, v', r1, r2, r3, r4⟩
  obtain ⟨m1, m2⟩ := h.n5 h.n2 r2 r4
  have hlq : lb ≠ qb := ne_of_type l1 q1 (by decide)
  have hle : lb ≠ eb := ne_of_type l1 h.en.obj (by decide)
  have hlv : v.ownBlock ≠ some lb := owns_ne h.en.own l1 (by decide)
  have hmany := bitE_many z.e (fairN (z.c (8 + i))) one
  refine ⟨rfl, v', r1, ⟨⟨_, r3, ?_, fun k hk => ?_⟩, ⟨cl, r4.obj l1 ?_, l2, fun k hk => ?_⟩, fun k => ?_⟩, bitEX_good h.go _ _, by show manyE (bitE _ _ _) ≤ _; omega, m2, h.n1, h.n2, h.n3, m1⟩
  · rw [Array.getElem?_setIfInBounds, if_neg (by omega)]; exact q2
  · rw [Array.getElem?_setIfInBounds]
    show _ = some (Value.int .u16 ((putC z.c (8 + i) _ (8 + k) : Nat) : Int))
    unfold putC
    by_cases e : i = k
    · subst e
      rw [if_pos rfl, if_pos rfl, if_pos]
      have := q3 i hi
      exact (Array.getElem?_eq_some_iff.1 this).1
    · rw [if_neg (by omega), if_neg (by omega)]
      exact q3 k hk
  · rintro ((e | e) | e)
    · exact hle e
    · exact hlv e
    · exact hlq e
  · show _ = some (Value.int .u16 ((putC z.c (8 + i) _ (440 + k) : Nat) : Int))
    unfold putC
    rw [if_neg (by omega)]
    exact l3 k hk
  · show putC z.c (8 + i) _ k < _
    unfold putC
    split
    · have := fairN_bd (z.c (8 + i))
      exact Nat.lt_of_le_of_lt (learnN_bd one this.1 this.2).2 (by decide)
    · exact h.st.lt k
theorem Mk.bitL {w W : World} {eb qb lb : Nat} {z : Ex} {v : Value} {M : Nat} (h : Mk w W eb qb lb z v M) (hM : M ≤ 1000000) (i : Nat) (hi : i < 6144) (bit : Int) (one : Bool) (hb : one = (bit != 0)) :
    Calls Try.prog 36 #[.pointer (some ⟨eb, 0, none⟩), .pointer (some ⟨lb, i, none⟩), .int .i64 bit] W fun e W' => e = .returned (.tuple #[]) ∧ ∃ v', Mk w W' eb qb lb (bitEX z (440 + i) one) v' (M + 1) := by
  obtain ⟨cs, q1, q2, q3⟩ := h.st.obj
  obtain ⟨cl, l1, l2, l3⟩ := h.st.lit
  have hmn := h.mn
  refine (bitV_any eb lb i (z.c (440 + i)) 64 bit one cl z.e v W h.en h.go.ok (by omega) l1 (by decide) (by decide) (l3 i hi) (h.st.lt _) hb).mono ?_
  rintro e W' ⟨rfl, v', r1, r2, r3, r4⟩
  obtain ⟨m1, m2⟩ := h.n5 h.n3 r2 r4
  have hlq : qb ≠ lb := ne_of_type q1 l1 (by decide)
  have hle : qb ≠ eb := ne_of_type q1 h.en.obj (by decide)
  have hlv : v.ownBlock ≠ some qb := owns_ne h.en.own q1 (by decide)
  have hmany := bitE_many z.e (fairN (z.c (440 + i))) one
  refine ⟨rfl, v', r1, ⟨⟨cs, r4.obj q1 ?_, q2, fun k hk => ?_⟩, ⟨_, r3, by rw [Array.size_setIfInBounds]; exact l2, fun k hk => ?_⟩, fun k => ?_⟩, bitEX_good h.go _ _, by show manyE (bitE _ _ _) ≤ _; omega, m2, h.n1, h.n2, h.n3, m1⟩
  · rintro ((e | e) | e)
    · exact hle e
    · exact hlv e
    · exact hlq e
  · show _ = some (Value.int .u16 ((putC z.c (440 + i) _ (8 + k) : Nat) : Int))
    unfold putC
    rw [if_neg (by omega)]
    exact q3 k hk
  · rw [Array.getElem?_setIfInBounds]
    show _ = some (Value.int .u16 ((putC z.c (440 + i) _ (440 + k) : Nat) : Int))
    unfold putC
    by_cases e : i = k
    · subst e
      rw [if_pos rfl, if_pos rfl, if_pos (by omega)]
    · rw [if_neg (by omega), if_neg (by omega)]
      exact l3 k hk
  · show putC z.c (440 + i) _ k < _
    unfold putC
    split
    · have := fairN_bd (z.c (440 + i))
      exact Nat.lt_of_le_of_lt (learnN_bd one this.1 this.2).2 (by decide)
    · exact h.st.lt k

set_option maxRecDepth 20000 in
set_option maxHeartbeats 4000000 in
theorem made_any (a : Option Addr) (cap gb off : Nat) (b : List Nat) (w : World) (hB : Bytes w a cap gb off b) (hl : b.length ≤ 4096) :
    Calls Try.prog 22 #[.slice a b.length cap] w fun e w' => ∃ u, e = .returned u ∧ w'.ownsRow 0 5 1 u (madeB b).length (u8s (madeB b)) ∧ (∀ j : Nat, (madeB b)[j]?.getD 0 < 256) ∧ (madeB b).length ≤ 100000 ∧ Keep noBlock w w' := by
  have HN := hid (newV_any w)
  have HQ := hid newQ_any
  have HB := hid hB
  have hblI : (b.length : Int) ≤ 4096 := by omega
  have HF := (show Hid (bytesE (b.drop 0) 0 0 ⟨fun _ => 1024, newE⟩ = madeE b) from rfl)
  clear hB
  generalize hbl : b.length = bl at *
  have HBL := hid hbl
  clear hbl
  go_enter Try.func22, Try.ntmps22
  go_wp2_with fail
  refine HN.out.mono ?_
  rintro e w1 ⟨rfl, v1, k1⟩
  have H1 := hid (And.intro v1 k1)
  clear v1 k1 HN
  generalize heb : w.heap.size = eb at *
  have HEB := hid heb
  clear heb
  go_wp2_with fail
  refine (HQ.out w1).mono ?_
  rintro e w2 ⟨rfl, lb, q2, q3, k2⟩
  have H2 := (show Hid (Mk w w2 eb w1.heap.size lb ⟨fun _ => 1024, newE⟩ (.slice none 0 0) 1) from by
    have hs := H1.out.2.size
    have := HEB.out
    refine ⟨H1.out.1.keep k2 (fun h => h) (fun _ _ h => h), q2, newE_good, by decide, H1.out.2.trans k2 (fun _ _ h => h), by omega, hs, by omega, fun g hg => by cases hg⟩)
  clear q2 q3 k2 H1 HQ
  generalize w1.heap.size = qb at *
  go_wp2_with fail
  go_loopw [5, 6] (fun ah i wr => ∃ (x j : Nat), ah = .int .u8 x ∧ i = .int .i64 j ∧ x < 256 ∧ j ≤ bl ∧ Hid (∃ z v, Mk w wr eb qb lb z v (1 + 9 * j) ∧ bytesE (b.drop j) j x z = madeE b)) (fun _ i _ => bl - (intOf i).toNat)
  case atStart => exact ⟨0, 0, rfl, rfl, by omega, by omega, (show ∃ z v, _ from ⟨_, _, H2.out, HF.out⟩)⟩
  case round =>
    obtain ⟨x, j, rfl, rfl, hx, hj, HQ⟩ := hrel
    by_cases hlt : j < bl
    · have hltI : (j : Int) < (bl : Int) := by omega
      obtain ⟨z, v, q1, q2⟩ := HQ.out
      clear HQ
      obtain ⟨vv, hvv⟩ : ∃ vv, vv = b[j]?.getD 0 := ⟨_, rfl⟩
      have hjb : j < b.length := by rw [HBL.out]; exact hlt
      have hv256 : vv < 256 := by rw [hvv]; exact HB.out.lt j
      have hdrop : b.drop j = vv :: b.drop (j + 1) := by
        rw [List.drop_eq_getElem_cons hjb, hvv, List.getElem?_eq_getElem hjb]
        rfl
      rw [hdrop] at q2
      have HQ2 := (show Hid (bytesE (b.drop (j + 1)) (j + 1) vv (byteE j x vv z) = madeE b) from q2)
      obtain ⟨r, hr⟩ : ∃ r, r = j % 4 := ⟨_, rfl⟩
      have i1 : bits .and .i64 (j : Int) 3 = (r : Int) := (bits_mask .i64 63 (by decide) wraps_i64 2 (by decide) (j : Int) (by omega) (by omega)).trans (by omega)
      have i2 : (r : Int) < 4 := by omega
      have hr4 : r < 4 := by omega
      obtain ⟨t, ht⟩ : ∃ t, t = x / 32 := ⟨_, rfl⟩
      have i3 : (x : Int) / 32 = (t : Int) := by omega
      obtain ⟨o, ho⟩ : ∃ o, o = 768 * t := ⟨_, rfl⟩
      have i4 : 768 * (t : Int) = (o : Int) := by omega
      have i5 : o ≤ 5376 := by omega
      have i6 : (o : Int) ≤ 6144 := by omega
      have i7 : ¬ 6144 = o := by omega
      have i8 : t ≤ 7 := by omega
      have HZ := hid (show byteE j x vv z = treeE (440 + o) vv 8 1 (bitEX z (8 + r) false) from by unfold byteE; rw [hr, ho, ht, Nat.mul_comm 768])
      obtain ⟨B0, hB0⟩ : ∃ B0, B0 = byteE j x vv z := ⟨_, rfl⟩
      rw [← hB0] at HZ HQ2
      have hat : a = some ⟨gb, off, none⟩ := HB.out.at_.resolve_right (by rintro rfl; simp at hjb)
      have HBt := hid (q1.bitM (by omega) r hr4 0 false rfl)
      have HV := (show Hid (vv = b[j]?.getD 0 ∧ a = some ⟨gb, off, none⟩ ∧ j < b.length) from ⟨hvv, hat, hjb⟩)
      clear q1 q2 hr ht ho hB0 hvv hdrop hjb hat
      go_wp2_with fail
      refine HBt.out.mono ?_
      rintro e w3 ⟨rfl, v3, m3⟩
      obtain ⟨cs, s1, s2, s3⟩ := m3.st.obj
      have c1 : w3.cell? ⟨qb, 1868, none⟩ = some (.slice (some ⟨lb, 0, none⟩) 6144 6144) := (cell_of s1 1868).trans s2
      have H3 := hid m3
      clear s1 s2 s3 m3 HBt
      go_wp2_with fail
      have hvI : (vv : Int) < 256 := by omega
      go_loopw [8, 9] (fun m k wr => ∃ (q : Nat) (kk : Int), m = .int .i64 q ∧ k = .int .i64 kk ∧ q < 512 ∧ -1 ≤ kk ∧ kk ≤ 7 ∧ Hid (∃ (A kn : Nat) (zz : Ex) (v : Value), (kn : Int) = kk + 1 ∧ A * 2 ^ kn = 256 ∧ A ≤ q ∧ q < 2 * A ∧ Mk w wr eb qb lb zz v (1 + 9 * j + 1 + (8 - kn)) ∧ treeE (440 + o) vv kn q zz = B0)) (fun _ k _ => (intOf k + 1).toNat)
      case atStart => exact ⟨1, 7, rfl, rfl, by omega, by omega, by omega, (show ∃ (A kn : Nat) (zz : Ex) (v : Value), _ from ⟨1, 8, _, v3, rfl, rfl, by omega, by omega, H3.out, HZ.out.symm⟩)⟩
      case round =>
        obtain ⟨q, kk, rfl, rfl, hq, hk1, hk2, HR⟩ := hrel
        obtain ⟨A, kn, zz, v, b0, b1, b2, b3, b4, b5⟩ := HR.out
        have hcell : wr.cell? ⟨gb, off + j, none⟩ = some (.int .u8 (vv : Int)) := by
          have := (HB.out.keep b4.kp (fun _ h => h)).cells j HV.out.2.2
          rw [HV.out.1]
          exact this
        by_cases hkk : 0 ≤ kk
        · obtain ⟨kn, rfl⟩ : ∃ kn', kn = kn' + 1 := ⟨kn - 1, by omega⟩
          obtain rfl : kk = (kn : Int) := by omega
          obtain ⟨l, hl2⟩ : ∃ l : Nat, l = vv / 2 ^ kn % 2 := ⟨_, rfl⟩
          obtain ⟨vs, hvs⟩ : ∃ vs : Nat, vs = vv / 2 ^ kn := ⟨_, rfl⟩
          have hvs2 : vs ≤ vv := by rw [hvs]; exact Nat.div_le_self _ _
          have j1 : (vv : Int) / 2 ^ kn = (vs : Int) := by rw [hvs]; simp
          have j2 : bits .and .i64 (vs : Int) 1 = (l : Int) := (bits_mask .i64 63 (by decide) wraps_i64 1 (by decide) (vs : Int) (by omega) (by omega)).trans (by omega)
          have hl3 : l ≤ 1 := by omega
          have hqq : q < 256 := by
            have : 2 * A ≤ 256 := by rw [← b1, Nat.pow_succ, Nat.mul_comm (2 ^ kn) 2, ← Nat.mul_assoc, Nat.mul_comm A 2]; exact Nat.le_mul_of_pos_right _ (Nat.two_pow_pos kn)
            omega
          have j3 : (q : Int) < ((6144 - o : Nat) : Int) := by omega
          have HBt := hid (b4.bitL (by omega) (o + q) (by omega) (l : Int) (l == 1) (by
            have : l = 0 ∨ l = 1 := by omega
            rcases this with rfl | rfl <;> rfl))
          have HN2 := (show Hid ((2 * A) * 2 ^ kn = 256 ∧ A ≤ q ∧ q < 2 * A ∧ treeE (440 + o) vv kn (2 * q + l) (bitEX zz (440 + (o + q)) (l == 1)) = B0) from by
            refine ⟨by rw [← b1, Nat.pow_succ, Nat.mul_comm (2 ^ kn) 2, ← Nat.mul_assoc, Nat.mul_comm A 2], b2, b3, ?_⟩
            rw [← b5, hl2, ← Nat.add_assoc]
            rfl)
          obtain ⟨ad, hat⟩ : ∃ ad, ad = a := ⟨_, rfl⟩
          rw [HV.out.2.1] at hat
          clear b0 b1 b2 b3 b4 b5 hl2 hvs HR
          have hltI2 : (j : Int) < (bl : Int) := hltI
          have HA := HV.out.2.1
          subst HA
          go_wp2_with fail
          refine HBt.out.mono ?_
          rintro e w5 ⟨rfl, v5, m5⟩
          have H5 := hid m5
          clear m5 HBt hcell
          obtain ⟨q', hq'⟩ : ∃ q' : Nat, q' = 2 * q + l := ⟨_, rfl⟩
          have j4 : 2 * (q : Int) + (l : Int) = (q' : Int) := by omega
          have HQ' := hid hq'
          rw [← hq'] at HN2
          clear hq'
          go_wp2_with fail
          go_roundw
          case rel =>
            refine ⟨q', (kn : Int) - 1, rfl, by go_num, by have := HQ'.out; omega, by omega, by omega, (show ∃ (A kn : Nat) (zz : Ex) (v : Value), _ from ⟨2 * A, kn, _, v5, by omega, HN2.out.1, by have := HN2.out.2.1; have := HQ'.out; omega, by have := HN2.out.2.2.1; have := HQ'.out; omega, ?_, HN2.out.2.2.2⟩)⟩
            have := H5.out
            rw [show 1 + 9 * j + 1 + (8 - kn) = 1 + 9 * j + 1 + (8 - (kn + 1)) + 1 from by omega]
            exact this
          case measure => simp [intOf]
        · obtain rfl : kk = -1 := by omega
          obtain rfl : kn = 0 := by omega
          have e5 : zz = B0 := b5
          have H6 := (show Hid (Mk w wr eb qb lb B0 v (1 + 9 * (j + 1))) from by
            rw [← e5]
            have := b4
            rw [show 1 + 9 * (j + 1) = 1 + 9 * j + 1 + (8 - 0) from by omega]
            exact this)
          clear b0 b1 b2 b3 b4 b5 e5 HR
          have HA := HV.out.2.1
          subst HA
          go_wp2_with fail
          go_roundw
          case rel => exact ⟨vv, j + 1, rfl, by go_num, hv256, by omega, (show ∃ z v, _ from ⟨B0, v, H6.out, HQ2.out⟩)⟩
          case measure => simp [intOf]; omega
    · have hltI : ¬ (j : Int) < (bl : Int) := by omega
      obtain ⟨z, v, q1, q2⟩ := HQ.out
      have hd : b.drop j = [] := List.drop_eq_nil_of_le (by rw [HBL.out]; omega)
      rw [hd] at q2
      have q2 : z = madeE b := q2
      subst q2
      have HC := hid (closeV_any eb (madeE b).e v wr q1.en q1.go.ok.wait (by have := q1.mn; omega))
      have HG := (show Hid (Good (madeE b).e ∧ manyE (madeE b).e ≤ 36900 ∧ Keep noBlock w wr ∧ w.heap.size ≤ eb ∧ ∀ g, v.ownBlock = some g → w.heap.size ≤ g) from ⟨q1.go, by have := q1.mn; omega, q1.kp, q1.n1, q1.n4⟩)
      clear q1 HQ hd
      go_wp2_with fail
      refine HC.out.mono ?_
      rintro e w6 ⟨u, rfl, r1, r2, r3⟩
      have HX := (show Hid (w6.ownsRow 0 5 1 u (madeB b).length (u8s (madeB b)) ∧ (∀ j : Nat, (madeB b)[j]?.getD 0 < 256) ∧ (madeB b).length ≤ 100000 ∧ Keep noBlock w w6) from by
        obtain ⟨g1, g2, g3, g4, g5⟩ := HG.out
        refine ⟨r1.own, r1.out, ?_, g3.trans r3 ?_⟩
        · have := (closeE_val g1).2
          show (closeE (madeE b).e).out.length ≤ _
          omega
        · rintro i hi (e | e)
          · omega
          · have := g5 i e; omega)
      obtain ⟨ua, uc, hu⟩ := owns_form r1.own
      subst hu
      clear r1 r2 r3 HC HG
      go_wp2_with fail
      go_ret
      exact ⟨_, rfl, HX.out⟩

end Go.Proofs.Ytinhlkioeadfdaa
