/-
  SumsGrow, the walk, for pieces of whatever length the full form bears.
-/
import Derived.Test.YtoohkldhfkoocaaAll
namespace Go.Proofs.Ytoohkldhfkoocaa
open Go.RowKit Go.Shelf
set_option linter.unusedVariables false

/-- The pieces as far as k, put together. -/
def joinTo (P : Nat → List Nat) (k : Nat) : List Nat := ((List.range k).map P).flatten
theorem joinTo_succ (P : Nat → List Nat) (k : Nat) : joinTo P (k + 1) = joinTo P k ++ P k := by simp [joinTo, List.range_succ]
theorem joinTo_le (P : Nat → List Nat) (k : Nat) (h : ∀ r, r < k → (P r).length ≤ 140737488351232) : (joinTo P k).length ≤ k * 140737488351232 := by
  induction k with
  | zero => simp [joinTo]
  | succ k ih =>
    have h1 := ih (fun r hr => h r (by omega))
    have h2 := h k (by omega)
    rw [joinTo_succ, List.length_append]
    omega
theorem joinTo_mono (P : Nat → List Nat) (k n : Nat) (h : k ≤ n) : (joinTo P k).length ≤ (joinTo P n).length := by
  induction n with
  | zero => obtain rfl : k = 0 := by omega
            exact Nat.le_refl _
  | succ n ih =>
    by_cases e : k = n + 1
    · rw [e]; exact Nat.le_refl _
    · have := ih (by omega)
      rw [joinTo_succ, List.length_append]; omega

/-- Within the pieces: what was put together is a row of one's own, the sum has it. -/
structure Mid (w : World) (sb cb : Nat) (kind : Int) (M : List Nat) (v : Value) (wr : World) : Prop where
  own : wr.ownsRow 0 5 1 v M.length (u8s M)
  sum : IsS wr sb cb kind M
  keep : Keep noBlock w wr
  new : ∀ k, v.ownBlock = some k → w.heap.size ≤ k

theorem wpList_append_run {ops : Array Oper} {rest : List Oper} {o : Oper} {a : Act} {Q : Exit → Act → World → Prop} (w : World) (hgd : o.guard = none) (s x : Operand)
    (ho : o.op = .call { callee := .builtin .append, args := #[s, x], argTypes := #[22, 22] }) (v sv v' : Value) (w' : World) (hs : a.eval s = v) (hx : a.eval x = sv)
    (hr : (Builtin.append_ #[22, 22] o.type #[v, sv]).run Try.prog w = .ok v' w') (hk : wpList Try.prog ops Q rest (a.put o.dst v') w') : wpList Try.prog ops Q (o :: rest) a w := by
  refine wpList_plain hgd fun K hK => ?_
  unfold Oper.wp execOp
  simp only [ho, resolve, invoke, builtin, Sem.run_bind, Sem.run_pure, Result.andThen_ok, List.map_toArray, List.map_cons, List.map_nil, hs, hx, hr]
  exact hK _ _ hk

set_option maxRecDepth 100000 in
set_option maxHeartbeats 8000000 in
theorem grow_walk (kind : Int) (a1 : Option Addr) (len cap1 b1 off1 : Nat) (A : Nat → Option Addr) (Cp g o : Nat → Nat) (P : Nat → List Nat) (w : World)
    (ha1 : a1 = some ⟨b1, off1, none⟩ ∨ len = 0) (hcl : ∀ r, r < len → w.cell? ⟨b1, off1 + r, none⟩ = some (.slice (A r) (P r).length (Cp r)))
    (hB : ∀ r, r < len → Bytes w (A r) (Cp r) (g r) (o r) (P r)) (hS : ∀ r, r < len → SrcB w (.slice (A r) (P r).length (Cp r)) (P r))
    (hsm : ∀ r, r < len → (P r).length ≤ 140737488351232) (hlen : len ≤ 140737488351232) :
    Calls Try.prog 4 #[.int .i64 kind, .slice a1 len cap1] w fun e w' => e = .returned (.bool true) ∧ Keep noBlock w w' := by
  have HA := (show Hid _ from ha1)
  have HCL := (show Hid _ from hcl)
  have HB := (show Hid _ from hB)
  have HS : Hid (∀ r, r < len → SrcB w (.slice (A r) (P r).length (Cp r)) (P r)) := hS
  have HSM := (show Hid _ from hsm)
  clear ha1 hcl hB hS hsm
  have cellK : ∀ W, Keep noBlock w W → ∀ r, r < len → W.cell? ⟨b1, off1 + r, none⟩ = some (.slice (A r) (P r).length (Cp r)) := fun W hW r hr =>
    (World.cell?_of_block (hW.block b1 (World.block_lt_of_cell? w ⟨b1, off1 + r, none⟩ (HCL.out r hr)) (fun h => h))).trans (HCL.out r hr)
  have HCK := (show Hid _ from cellK)
  clear cellK
  go_enter Try.func4, Try.ntmps4
  go_wp2_with fail
  go_loopw [6, 5] (fun i n wr => ∃ k : Nat, (k ≤ len ∧ k ≤ 61) ∧ i = .int .i64 k ∧ n = .int .i64 (((joinTo P k).length : Nat) : Int) ∧ wr = w) (fun i _ _ => len - (intOf i).toNat)
  case atStart => exact ⟨0, ⟨Nat.zero_le _, by omega⟩, rfl, rfl, rfl⟩
  case round =>
    obtain ⟨k, ⟨hk1, hk2⟩, rfl, rfl, rfl⟩ := hrel
    have hN := joinTo_le P k (fun r hr => HSM.out r (by omega))
    by_cases hlt : k < len
    · have d1 : decide ((k : Int) < (len : Int)) = true := by simp; omega
      obtain rfl : a1 = some ⟨b1, off1, none⟩ := HA.out.elim id (fun e => by omega)
      by_cases h60 : k ≤ 60
      · have d2 : decide ((k : Int) ≤ 60) = true := by simp; omega
        have hc := HCL.out k hlt
        have hL := HSM.out k hlt
        have HJ : Hid ((joinTo P (k + 1)).length = (joinTo P k).length + (P k).length) := by rw [joinTo_succ, List.length_append]; exact rfl
        generalize (P k).length = L at hc hL HJ
        generalize (joinTo P k).length = N at hN HJ
        have hb1 : (N : Int) + (L : Int) < 4611686018427387904 := by omega
        have hkl : (k : Int) < (len : Int) := by omega
        go_wp2
        go_roundw
        case rel => exact ⟨k + 1, ⟨by omega, by omega⟩, by go_num, by first | (rw [HJ.out]; simp; done) | (rw [HJ.out]; exact ⟨by simp, rfl⟩)⟩
        case measure => simp [intOf]; omega
      · have d2 : decide ((k : Int) ≤ 60) = false := by simp; omega
        have d3 : decide ((60 : Int) < (len : Int)) = true := by simp; omega
        go_wp2_with fail
        refine (wakes_any _).mono ?_
        rintro e w1 ⟨rfl, hK⟩
        go_wp2_with fail
        go_ret
        exact ⟨rfl, hK⟩
    · have d1 : decide ((k : Int) < (len : Int)) = false := by simp; omega
      obtain rfl : k = len := by omega
      by_cases h60 : 60 < k
      · have d3 : decide ((60 : Int) < (k : Int)) = true := by simp; omega
        go_wp2_with fail
        refine (wakes_any _).mono ?_
        rintro e w1 ⟨rfl, hK⟩
        go_wp2_with fail
        go_ret
        exact ⟨rfl, hK⟩
      have d3 : decide ((60 : Int) < (k : Int)) = false := by simp; omega
      by_cases h14 : 16384 < (joinTo P k).length
      · have d4 : decide ((16384 : Int) < (((joinTo P k).length : Nat) : Int)) = true := by simp; omega
        go_wp2_with fail
        refine (wakes_any _).mono ?_
        rintro e w1 ⟨rfl, hK⟩
        go_wp2_with fail
        go_ret
        exact ⟨rfl, hK⟩
      have d4 : decide ((16384 : Int) < (((joinTo P k).length : Nat) : Int)) = false := by simp; omega
      have H14 : Hid ((joinTo P k).length ≤ 16384) := by exact (show (joinTo P k).length ≤ 16384 by omega)
      clear h14 hN hlt
      rename World => w0
      go_wp2_with fail
      clear d1 d3 d4
      refine (new_any kind w0).mono ?_
      rintro e w1 ⟨sb, cb, rfl, hsb, hcb, hS, hK⟩
      have hmid0 : Mid w0 sb cb kind (joinTo P 0) (.slice none 0 0) w1 := ⟨World.ownsRow_nil _ _ _ _, hS, hK, fun k e => by cases e⟩
      clear hS hK
      go_wp2_with fail
      go_loopw [9, 8] (fun i v wx => ∃ n : Nat, n ≤ k ∧ i = .int .i64 n ∧ Mid w0 sb cb kind (joinTo P n) v wx) (fun i _ _ => k - (intOf i).toNat)
      case atStart => exact ⟨0, Nat.zero_le _, rfl, hmid0⟩
      case round =>
        clear hmid0
        obtain ⟨n, hn, rfl, hmid⟩ := hrel
        have hML : (joinTo P n).length ≤ 16384 := Nat.le_trans (joinTo_mono P n k hn) H14.out
        obtain ⟨av, capv, gv, rfl, hBv⟩ := bytes_own hmid.own hmid.sum.bytes (by omega)
        have HMID := (show Hid (Mid w0 sb cb kind (joinTo P n) (.slice av (joinTo P n).length capv) wr) from hmid)
        have HBV := (show Hid _ from hBv)
        clear hmid hBv
        by_cases hlt : n < k
        · have d1 : (n : Int) < (k : Int) := by omega
          obtain rfl : a1 = some ⟨b1, off1, none⟩ := HA.out.elim id (fun e => by omega)
          have HJ : Hid (joinTo P (n + 1) = joinTo P n ++ P n) := joinTo_succ P n
          have hJL : (joinTo P n).length + (P n).length ≤ 16384 := by
            have h1 := joinTo_mono P (n + 1) k (by omega)
            have h2 := H14.out
            rw [joinTo_succ, List.length_append] at h1
            omega
          have HPB := (show Hid (Bytes w0 (A n) (Cp n) (g n) (o n) (P n)) from HB.out n hlt)
          have HPS := (show Hid (SrcB w0 (.slice (A n) (P n).length (Cp n)) (P n)) from HS.out n hlt)
          have HCN : Hid (∀ W, Keep noBlock w0 W → W.cell? ⟨b1, off1 + n, none⟩ = some (.slice (A n) (P n).length (Cp n))) := fun W hW => HCK.out W hW n hlt
          generalize joinTo P n = M at HMID HBV HJ hML hJL
          generalize P n = Q at HJ hJL HPB HPS HCN
          generalize A n = aq at HPB HPS HCN
          generalize Cp n = cq at HPB HPS HCN
          go_wp2_with fail
          refine (value_any sb cb kind M wr HMID.out.sum).mono ?_
          rintro e w2 ⟨rfl, n1, rfl⟩
          have K1 : Keep noBlock wr (wr.drewN n1) := keep_drewN wr n1
          generalize wr.drewN n1 = w2 at K1 ⊢
          go_wp2_with fail
          refine (refOf_any kind av capv gv 0 M w2 (HBV.out.keep K1 (fun _ h => h))).mono ?_
          rintro e w3 ⟨rfl, k2⟩
          have K2 := K1.trans' k2
          clear K1 k2
          have hc3 := HCN.out w3 (HMID.out.keep.trans' K2)
          have hc3a := HCN.out (w3.alloc (.cells #[] 5)) ((HMID.out.keep.trans' K2).alloc _)
          have hsrc3 := (SrcB.keep HPS.out (HMID.out.keep.trans' K2)).alloc (.cells #[] 5)
          unfold SrcB at hsrc3
          have HSR := (show Hid _ from hsrc3)
          clear hsrc3
          have hql : Q.length ≤ 140737488351232 := by omega
          go_wp2_with (first | (at_builtin; refine wpList_append_src _ rfl _ _ rfl w3.heap.size (World.alloc_heap_new w3 _) rfl (.slice aq Q.length cq) rfl Q hql HSR.out ?_; intro g0 cap w4 hown4 hK4 hg0) | fail)
          have hsz4 := hK4.size
          rw [World.size_alloc] at hsz4
          rw [World.size_alloc] at hg0
          have K3 : Keep noBlock w3 w4 := ((Keep.refl _ w3).alloc _).trans hK4 (fun j hj e => by omega)
          have hg03 : w3.heap.size ≤ g0 := by omega
          have hg04 : g0 < w4.heap.size := (hown4.lt g0 rfl).2
          have hr3 := K2.size
          have K4 : Keep noBlock wr w4 := K2.trans' K3
          have hS4 : IsS w4 sb cb kind M := HMID.out.sum.keep K4 (fun h => h) (fun _ h => h)
          have hsbl : sb < wr.heap.size := by obtain ⟨cs, h⟩ := HMID.out.sum.outer; exact obj_lt h
          have hcbl : isKind kind → cb < wr.heap.size := fun hk => by obtain ⟨cs, t, h, _⟩ := HMID.out.sum.inner hk; exact obj_lt h
          have hv4 : w4.ownsRow 0 5 1 (.slice av M.length capv) M.length (u8s M) := owns_kept HMID.out.own K4 (fun _ _ h => h)
          have hvl : ∀ j, (Value.slice av M.length capv).ownBlock = some j → j < wr.heap.size := fun j e => by
            rcases HMID.out.own.2 with ⟨e2, _⟩ | ⟨gg, cc, cur, e2, _, hg, _⟩
            · rw [e2] at e; cases e
            · rw [e2] at e
              obtain rfl : gg = j := by simpa [Value.ownBlock] using e
              exact obj_lt hg
          clear hc3 hc3a HSR hK4 hg0
          refine (add_kind sb cb kind M (some ⟨g0, 0, none⟩) cap g0 0 Q w4 hS4 (Bytes.of_owns hown4 HPB.out.lt HPB.out.len) (by omega) (fun _ hk => by have := hcbl hk; omega)).mono ?_
          rintro e w5 ⟨rfl, hS5, hK5⟩
          have hown5 := owns_kept hown4 hK5 (fun j e h => by
            have e1 : g0 = j := by simpa [Value.ownBlock] using e
            have := hcbl h.1; omega)
          have hv5 := owns_kept hv4 hK5 (fun j e h => by
            obtain ⟨cs, t, ho, ht⟩ := hS4.inner h.1
            exact owns_ne hv4 ho ht (by rw [e, h.2]))
          have K5 : Keep noBlock w0 w5 := (HMID.out.keep.trans' K4).trans hK5 (fun j hj e => by omega)
          have hsz5 := hK5.size
          have HS5 : Hid (IsS w5 sb cb kind (M ++ Q)) := hS5
          have HQ256 := (show Hid _ from HPB.out.lt)
          have HV5 := (show Hid _ from hv5)
          have HCB := (show Hid _ from hcbl)
          have HVL := (show Hid _ from hvl)
          have HNEW := (show Hid _ from HMID.out.new)
          have hw0r := HMID.out.keep.size
          clear hS4 hown4 hv4 hK5 K2 K3 K4 hS5 hv5 hcbl hvl HPB
          go_wp2_with fail
          obtain ⟨m, hm⟩ : ∃ m, m = Q.length := ⟨_, rfl⟩
          have HQM := (show Hid _ from hm)
          have hml : m ≤ 16384 := by omega
          have hst : ∃ cs : List Nat, cs.length = m ∧ (∀ j : Nat, cs[j]?.getD 0 < 256) ∧ w5.ownsRow 0 5 1 (.slice (some ⟨g0, 0, none⟩) m cap) m (u8s cs) := ⟨Q, hm.symm, HQ256.out, by rw [hm]; exact hown5⟩
          have HST := (show Hid _ from hst)
          rw [← hm]
          rw [← hm] at HPS HCN
          clear hm hown5 hst
          go_loopw [11] (fun j wx => ∃ (jj : Nat) (cs : List Nat), jj ≤ m ∧ j = .int .i64 jj ∧ (cs.length = m ∧ ∀ i : Nat, cs[i]?.getD 0 < 256) ∧ wx.ownsRow 0 5 1 (.slice (some ⟨g0, 0, none⟩) m cap) m (u8s cs) ∧ Keep (fun i => i = g0) w5 wx) (fun j _ => m - (intOf j).toNat)
          case atStart =>
            obtain ⟨cs, h1, h2, h3⟩ := HST.out
            exact ⟨0, cs, Nat.zero_le _, rfl, ⟨h1, h2⟩, h3, Keep.refl _ _⟩
          case round =>
            clear HST
            obtain ⟨jj, cs, hj, rfl, ⟨hcl, hc256⟩, hro, hKr⟩ := hrel
            by_cases hlt3 : jj < m
            · have hjm : (jj : Int) < (m : Int) := by omega
              have hcj : wr.cell? ⟨g0, jj, none⟩ = some (.int .u8 ((cs[jj]?.getD 0 : Nat) : Int)) := by
                have := hro.cells (g := g0) rfl jj _ (u8s_at cs jj (by omega))
                rwa [add0] at this
              have hfj := own_frozen hro jj
              have hcc := hc256 jj
              have HCC : Hid (cs.length = m ∧ ∀ i : Nat, cs[i]?.getD 0 < 256) := ⟨hcl, hc256⟩
              clear hc256 hcl
              generalize cs[jj]?.getD 0 = c at hcj hcc
              have hno := not_u8 c hcc
              have hno2 : bits .xor .u8 (if IntKind.u8.signed = true then -1 else IntKind.u8.max) (c : Int) = ((255 ^^^ c : Nat) : Int) := by rw [if_neg (by decide)]; exact hno
              have hnl : 255 ^^^ c < 256 := Nat.xor_lt_two_pow (n := 8) (by decide) hcc
              go_wp2
              go_roundw
              case rel =>
                first
                  | (rw [hno2]; exact ⟨jj + 1, cs.set jj (255 ^^^ c), by omega, by go_num, ⟨by rw [List.length_set]; exact HCC.out.1, set_lt cs HCC.out.2 jj _ hnl⟩, owns_set hro jj _, hKr.setCell (p := ⟨g0, jj, none⟩) (fun _ => rfl) _⟩)
                  | exact ⟨jj + 1, cs.set jj (255 ^^^ c), by omega, by go_num, ⟨by rw [List.length_set]; exact HCC.out.1, set_lt cs HCC.out.2 jj _ hnl⟩, owns_set hro jj _, hKr.setCell (p := ⟨g0, jj, none⟩) (fun _ => rfl) _⟩
              case measure => simp [intOf]; omega
            · obtain rfl : jj = m := by omega
              have hsz6 := hKr.size
              have hv6 := owns_kept HV5.out hKr (fun j e h => by have := HVL.out j e; omega)
              have K6 : Keep noBlock w0 wr := K5.trans hKr (fun j hj e => by omega)
              have hS6 : IsS wr sb cb kind (M ++ Q) := HS5.out.keep hKr (by omega) (fun hk => by have := HCB.out hk; omega)
              have hc6 := HCN.out wr K6
              have hs6 : SrcB wr (.slice aq jj cq) Q := SrcB.keep HPS.out K6
              obtain ⟨v', w7, hrun, hown7, hK7, hnew7⟩ := run_append_all wr 22 (.slice av M.length capv) M Q hv6 (by omega) (.slice aq jj cq) hs6
              have hS7 : IsS w7 sb cb kind (M ++ Q) := hS6.keep hK7 (fun e => by
                obtain ⟨cs, ho⟩ := hS6.outer
                exact owns_ne hv6 ho (by decide) e) (fun hk e => by
                obtain ⟨cs, t, ho, ht⟩ := hS6.inner hk
                exact owns_ne hv6 ho ht e)
              have hmid7 : Mid w0 sb cb kind (M ++ Q) v' w7 := ⟨hown7, hS7, K6.trans hK7 (fun j hj e => by have := HNEW.out j e; omega), fun j e => by
                have hs := K6.size
                rcases hnew7 with e2 | ⟨i, e2, hi⟩
                · rw [e2] at e; exact HNEW.out j e
                · rw [e2] at e; cases e; omega⟩
              obtain ⟨sa, cpp, rfl⟩ := owns_form hown7
              have HM7 := (show Hid (Mid w0 sb cb kind (M ++ Q) (.slice sa (M ++ Q).length cpp) w7) from hmid7)
              clear hown7 hS7 hmid7 hv6 hS6 hs6 hnew7 hK7 hro hKr hc256 hcl
              generalize (M ++ Q).length = mm at hrun HM7 ⊢
              have HRUN := (show Hid _ from hrun)
              clear hrun
              go_wp2_with (first | (at_builtin; refine wpList_append_run _ rfl _ _ rfl _ _ _ _ rfl rfl HRUN.out ?_) | fail)
              go_roundw
              case rel => exact ⟨n + 1, by omega, by go_num, by rw [HJ.out]; exact HM7.out⟩
              case measure => simp [intOf]; omega
        · obtain rfl : n = k := by omega
          generalize joinTo P n = M at HMID HBV hML
          have d1 : ¬ ((n : Int) < (n : Int)) := by omega
          go_wp2_with fail
          refine (value_any sb cb kind M wr HMID.out.sum).mono ?_
          rintro e w2 ⟨rfl, n1, rfl⟩
          have K1 : Keep noBlock wr (wr.drewN n1) := keep_drewN wr n1
          generalize wr.drewN n1 = w2 at K1 ⊢
          go_wp2_with fail
          refine (refOf_any kind av capv gv 0 M w2 (HBV.out.keep K1 (fun _ h => h))).mono ?_
          rintro e w3 ⟨rfl, k2⟩
          have K2 := K1.trans' k2
          clear K1 k2
          go_wp2_with fail
          refine (value_any sb cb kind M w3 (HMID.out.sum.keep K2 (fun h => h) (fun _ h => h))).mono ?_
          rintro e w4 ⟨rfl, n2, rfl⟩
          have K3 : Keep noBlock wr (w3.drewN n2) := K2.trans' (keep_drewN w3 n2)
          clear K2
          generalize w3.drewN n2 = w4 at K3 ⊢
          go_wp2_with fail
          refine (refOf_any kind av capv gv 0 M w4 (HBV.out.keep K3 (fun _ h => h))).mono ?_
          rintro e w5 ⟨rfl, k4⟩
          have K4 := K3.trans' k4
          clear K3 k4
          go_wp2_with fail
          refine (wakes_any _).mono ?_
          rintro e w6 ⟨rfl, k5⟩
          go_wp2_with fail
          go_ret
          exact ⟨rfl, (HMID.out.keep.trans' K4).trans' k5⟩

end Go.Proofs.Ytoohkldhfkoocaa
