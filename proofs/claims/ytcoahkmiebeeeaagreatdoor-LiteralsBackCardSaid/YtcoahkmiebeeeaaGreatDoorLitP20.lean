/-
  pack.
  The statement 'for .. := range g', where each round keeps what the function has laid.
  mostGain and leastLoss.
  settle: the counts are brought to all states; it comes to an end.
  The parts of Counts: sumOf, wholeParts, markRare; the document's Able.
  wholeParts and markRare.
-/
import Derived.Test.YtcoahkmiebeeeaaGreatDoorLitP3
import Derived.Test.YtcoahkmiebeeeaaGreatDoorLitP4
import Derived.Test.YtcoahkmiebeeeaaGreatDoorLitP19
namespace Go.Proofs.YtcoahkmiebeeeaaGreatDoor
open Go.RowKit Go.Shelf
set_option linter.unusedVariables false

def PAns (o : Option (List Nat)) (n : Nat) (w : World) (e : Ending) (w' : World) : Prop := Keep noBlock w w' ∧ match o with
  | none => e = .returned (.tuple #[.slice none 0 0, .bool false])
  | some b => ∃ v, e = .returned (.tuple #[v, .bool (decide (b.length < n))]) ∧ w'.ownsRow 0 5 1 v b.length (u8s b)

theorem rw14 (L : Nat) : (rwN 2 (whN 2 L) = 1 ∧ L < 1024) ∨ (rwN 2 (whN 2 L) = 4 ∧ 1024 ≤ L) := by
  have e : whN 2 L = if L < 1024 then 0 else if L < 16384 then 2 else 3 := by unfold whN; rw [if_neg (by decide)]
  rw [e]
  by_cases h1 : L < 1024
  · rw [if_pos h1]; exact .inl ⟨rfl, h1⟩
  · rw [if_neg h1]
    right
    split
    · exact ⟨rfl, by omega⟩
    · exact ⟨rfl, by omega⟩
/-- Two rows of one's own: lengths and tails. -/
structure Rws (W0 wr : World) (v9 v10 : Value) (A B : List Nat) : Prop where
  keep : Keep noBlock W0 wr
  o9 : wr.ownsRow 0 5 1 v9 A.length (u8s A)
  o10 : wr.ownsRow 0 5 1 v10 B.length (u8s B)
  n9 : ∀ q, v9.ownBlock = some q → W0.heap.size ≤ q
  n10 : ∀ q, v10.ownBlock = some q → W0.heap.size ≤ q
  ne : ∀ q, v9.ownBlock = some q → v10.ownBlock ≠ some q
theorem own_lt {W : World} {v : Value} {M : List Nat} (h : W.ownsRow 0 5 1 v M.length (u8s M)) {k : Nat} (e : v.ownBlock = some k) : k < W.heap.size := by
  rcases h.2 with ⟨e0, h0⟩ | ⟨g, cap, cur, rfl, hb, hg, hr⟩
  · rw [e0] at e; cases e
  · obtain rfl : g = k := by simpa [Value.ownBlock] using e
    exact obj_lt hg
theorem Rws.to {W0 wr w' : World} {v9 v10 : Value} {A B : List Nat} (h : Rws W0 wr v9 v10 A B) (hk : Keep noBlock wr w') : Rws W0 w' v9 v10 A B :=
  ⟨h.keep.trans' hk, owns_kept h.o9 hk (fun _ _ h => h), owns_kept h.o10 hk (fun _ _ h => h), h.n9, h.n10, h.ne⟩
theorem Rws.add9 {W0 wr : World} {v9 v10 : Value} {A B : List Nat} (h : Rws W0 wr v9 v10 A B) (bs : List Nat) (sv : Value) (hs : SrcB wr sv bs) (hl : A.length + bs.length ≤ 1099511627776) : ∃ v' w', (Builtin.append_ #[22, 22] 22 #[v9, sv]).run Tryz.prog wr = .ok v' w' ∧ Rws W0 w' v' v10 (A ++ bs) B ∧ Keep (fun k => v9.ownBlock = some k) wr w' := by
  obtain ⟨v', w', hr, ho, hk, hn⟩ := run_append_all wr 22 v9 A bs h.o9 hl sv hs
  refine ⟨v', w', hr, ⟨h.keep.trans hk (fun i hi e => by have := h.n9 i e; omega), ho, owns_kept h.o10 hk (fun g hg e => h.ne g e hg), ?_, h.n10, ?_⟩, hk⟩
  · intro q hq
    rcases hn with e | ⟨k, e, hk'⟩
    · rw [e] at hq; exact h.n9 q hq
    · rw [e] at hq; cases hq; have := h.keep.size; omega
  · intro q hq hq2
    rcases hn with e | ⟨k, e, hk'⟩
    · rw [e] at hq; exact h.ne q hq hq2
    · rw [e] at hq; cases hq; have := own_lt h.o10 hq2; omega
theorem Rws.add10 {W0 wr : World} {v9 v10 : Value} {A B : List Nat} (h : Rws W0 wr v9 v10 A B) (bs : List Nat) (sv : Value) (hs : SrcB wr sv bs) (hl : B.length + bs.length ≤ 1099511627776) : ∃ v' w', (Builtin.append_ #[22, 22] 22 #[v10, sv]).run Tryz.prog wr = .ok v' w' ∧ Rws W0 w' v9 v' A (B ++ bs) := by
  obtain ⟨v', w', hr, ho, hk, hn⟩ := run_append_all wr 22 v10 B bs h.o10 hl sv hs
  refine ⟨v', w', hr, h.keep.trans hk (fun i hi e => by have := h.n10 i e; omega), owns_kept h.o9 hk (fun g hg e => h.ne g hg e), ho, h.n9, ?_, ?_⟩
  · intro q hq
    rcases hn with e | ⟨k, e, hk'⟩
    · rw [e] at hq; exact h.n10 q hq
    · rw [e] at hq; cases hq; have := h.keep.size; omega
  · intro q hq hq2
    rcases hn with e | ⟨k, e, hk'⟩
    · rw [e] at hq2; exact h.ne q hq hq2
    · rw [e] at hq2; cases hq2; have := own_lt h.o9 hq; omega

theorem tails_lt (ws l : List Nat) (each j : Nat) : ∀ q : Nat, (tailsN ws l each j)[q]?.getD 0 < 256 := by
  induction j with
  | zero => intro q; simp [tailsN]
  | succ j ih => exact lt_app ih (packV_lt ws (pieceN l each j))
theorem lens_len (ws l : List Nat) (each n j : Nat) : (lensN ws l each n j).length ≤ 2 * j := by
  induction j with
  | zero => simp [lensN]
  | succ j ih =>
    unfold lensN
    rw [List.length_append]
    split
    · simp [twoN]; omega
    · simp; omega
theorem tails_len {ws l : List Nat} {each B j : Nat} (h : ∀ i, i < j → (tailN ws l each i).length ≤ B) : (tailsN ws l each j).length ≤ j * B := by
  induction j with
  | zero => simp [tailsN]
  | succ j ih =>
    unfold tailsN
    rw [List.length_append, Nat.succ_mul]
    have := ih (fun i hi => h i (by omega))
    have := h j (by omega)
    omega

section
attribute [local go_sem] sliceSem_eq minSem_eq
set_option maxRecDepth 100000 in
set_option maxHeartbeats 2000000 in
theorem packL_any (a : Option Addr) (cap gb off : Nat) (l : List Nat) (a2 : Option Addr) (cap2 gb2 off2 : Nat) (ws : List Nat) (w : World) (hF : Frm w) (hB : Bytes w a cap gb off l) (hB2 : Bytes w a2 cap2 gb2 off2 ws) (hl : l.length ≤ 131072) :
    Calls Tryz.prog 17 #[.slice a l.length cap, .slice a2 ws.length cap2] w fun e w' => PAns (packP ws l (rwN 2 (whN 2 l.length))) l.length w e w' := by
  have HFF := hid (formFor_any 2 l.length w hF (by decide) hl)
  unfold formV at HFF
  obtain ⟨L, hL⟩ : ∃ L, L = l.length := ⟨_, rfl⟩
  rw [← hL] at HFF hl ⊢
  obtain ⟨wh, hwh⟩ : ∃ wh, wh = whN 2 L := ⟨_, rfl⟩
  rw [← hwh] at HFF ⊢
  obtain ⟨n, hn⟩ : ∃ n, n = rwN 2 wh := ⟨_, rfl⟩
  obtain ⟨HB, hHB⟩ : ∃ HB, HB = hbN 2 wh := ⟨_, rfl⟩
  obtain ⟨HR, hHR⟩ : ∃ HR, HR = frN 2 wh := ⟨_, rfl⟩
  obtain ⟨HT, hHT⟩ : ∃ HT, HT = btN 2 wh := ⟨_, rfl⟩
  rw [← hn, ← hHB, ← hHR, ← hHT] at HFF
  rw [← hn]
  have hn14 : (n = 1 ∧ L < 1024) ∨ (n = 4 ∧ 1024 ≤ L) := by
    rw [hn, hwh]; exact rw14 L
  have HS := hid (fun W => shareOf_any L n (by omega) (by omega) (by omega) W)
  obtain ⟨each, heach⟩ : ∃ each, each = eachN L n := ⟨_, rfl⟩
  rw [← heach] at HS
  have heb : each ≤ 131076 := by rw [heach]; exact Nat.le_trans (Nat.div_le_self _ _) (by omega)
  have hnI : (n : Int) ≤ 4 := by omega
  have hn1 : (1 : Int) ≤ (n : Int) := by omega
  have hLI : (L : Int) ≤ 131072 := by omega
  have heI : (each : Int) ≤ 131076 := by omega
  obtain ⟨n1, hn1'⟩ : ∃ n1, n1 = n - 1 := ⟨_, rfl⟩
  have en1 : (n : Int) - 1 = (n1 : Int) := by omega
  have HP := hid (show ∀ (W : World), Keep noBlock w W → ∀ (a1 : Option Addr) (c1 g1 o1 : Nat) (bs : List Nat), Bytes W a1 c1 g1 o1 bs → Calls Tryz.prog 28 #[.slice a2 ws.length cap2, .slice a1 bs.length c1] W fun e w' => AnsN (packC ws bs) (packV ws bs) W e w' from
    fun W hW a1 c1 g1 o1 bs hx => packNew_all a2 cap2 gb2 off2 ws a1 c1 g1 o1 bs W (hB2.keep hW (fun _ h => h)) hx)
  have HB1 := hid (fun (W : World) (hW : Keep noBlock w W) => hB.keep (w' := W) hW (fun _ h => h))
  have HQ := hid (show L = l.length ∧ each = eachN L n ∧ ((n = 1 ∧ L < 1024) ∨ (n = 4 ∧ 1024 ≤ L)) ∧ L ≤ 131072 ∧ n1 = n - 1 from ⟨hL, heach, hn14, hl, hn1'⟩)
  obtain ⟨Lw, hLw⟩ : ∃ Lw, Lw = ws.length := ⟨_, rfl⟩
  rw [← hLw] at HP ⊢
  clear hB hB2 hL hwh hn hHB hHR hHT hn14 heach heb hn1' hl hF hLw
  go_enter Tryz.func17, Tryz.ntmps17
  go_wp2_with (first | (go_at_call 26; refine HFF.out.mono ?_; rintro e w1 ⟨hk1, rfl⟩; have HK1 := hid hk1; clear hk1) | (go_at_call 27; refine (HS.out _).mono ?_; rintro e w2 ⟨rfl, hw2⟩; subst hw2))
  have o1 := World.alloc_heap_new w1 (.cells #[.int .i64 (HB : Int), .int .i64 (HR : Int), .int .i64 (HT : Int), .int .i64 (n : Int)] 36)
  have k1 := HK1.out.alloc (.cells #[.int .i64 (HB : Int), .int .i64 (HR : Int), .int .i64 (HT : Int), .int .i64 (n : Int)] 36)
  obtain ⟨xb, hxb⟩ : ∃ xb, xb = w1.heap.size := ⟨_, rfl⟩
  rw [← hxb] at o1 ⊢
  generalize w1.alloc (.cells #[.int .i64 (HB : Int), .int .i64 (HR : Int), .int .i64 (HT : Int), .int .i64 (n : Int)] 36) = W1 at o1 k1 ⊢
  have H1 := hid (show Keep noBlock w W1 ∧ W1.heap[xb]? = some (.cells #[.int .i64 (HB : Int), .int .i64 (HR : Int), .int .i64 (HT : Int), .int .i64 (n : Int)] 36 (0, 0)) from ⟨k1, o1⟩)
  clear o1 k1 hxb
  go_loopw [9, 10, 30] (fun v9 v10 v30 wr => ∃ j m1 c1 m2 c2 : Nat, ∃ ad1 ad2, v30 = .int .i64 (j : Int) ∧ j ≤ n ∧ v9 = .slice ad1 m1 c1 ∧ v10 = .slice ad2 m2 c2 ∧ Hid (okN ws l each j = true ∧ Rws W1 wr (.slice ad1 m1 c1) (.slice ad2 m2 c2) (lensN ws l each n j) (tailsN ws l each j))) (fun _ _ v30 _ => n - (intOf v30).toNat)
  case atStart => exact ⟨0, 0, 0, 0, 0, none, none, rfl, Nat.zero_le _, rfl, rfl, rfl, ⟨Keep.refl _ _, World.ownsRow_nil _ _ _ _, World.ownsRow_nil _ _ _ _, (fun q hq => by simp [Value.ownBlock] at hq), (fun q hq => by simp [Value.ownBlock] at hq), (fun q hq => by simp [Value.ownBlock] at hq)⟩⟩
  case round =>
    obtain ⟨j, m1, c1, m2, c2, ad1, ad2, rfl, hj, rfl, rfl, HJ⟩ := hrel
    by_cases hlt : j < n
    · have hltI : (j : Int) < (n : Int) := by omega
      obtain ⟨hok, hRw⟩ := HJ.out
      obtain ⟨q1, q2, q3, q4, q5⟩ := HQ.out
      have hKw := H1.out.1.trans' hRw.keep
      have c3 : wr.cell? ⟨xb, 3, none⟩ = some (.int .i64 (n : Int)) := cell_of (hRw.keep.obj H1.out.2 (fun h => h)) 3
      obtain ⟨j1, hj1⟩ : ∃ j1, j1 = j + 1 := ⟨_, rfl⟩
      obtain ⟨fr, hfr⟩ : ∃ fr, fr = each * j := ⟨_, rfl⟩
      obtain ⟨e1, he1⟩ : ∃ e1, e1 = each * (j + 1) := ⟨_, rfl⟩
      obtain ⟨to, hto⟩ : ∃ to, to = min e1 L := ⟨_, rfl⟩
      have he4 : each = (L + n - 1) / n := q2
      have hfe : e1 = fr + each := by rw [he1, hfr, Nat.mul_add, Nat.mul_one]
      have hfb : fr ≤ L := by
        rw [hfr]
        rcases q3 with ⟨e, hL1⟩ | ⟨e, hL1⟩
        · rw [e] at hlt; obtain rfl : j = 0 := by omega
          omega
        · have : each * j ≤ each * 3 := Nat.mul_le_mul_left _ (by omega)
          rw [e] at he4
          omega
      have hft : fr ≤ to := by omega
      have htL : to ≤ L := by omega
      have p1 : (each : Int) * (j : Int) = (fr : Int) := by rw [hfr]; simp
      have p2 : (j : Int) + 1 = (j1 : Int) := by omega
      have p3 : (each : Int) * (j1 : Int) = (e1 : Int) := by rw [he1, hj1]; simp
      have p4 : (fr : Int) ≤ 131072 := by omega
      have p5 : (e1 : Int) ≤ 300000 := by omega
      have p6 : (j1 : Int) ≤ 5 := by omega
      have hmin := minSem_run .i64 #[3, 3] 3 (e1 : Int) (L : Int) (to : Int) (by omega)
      have hBw := HB1.out wr hKw
      obtain ⟨ap, op, hcut, hBp⟩ := hBw.cut3 fr to hft (by omega)
      have hpiece : (l.take to).drop fr = pieceN l each j := by
        unfold pieceN
        rw [List.drop_take, ← hfr]
        have hdl : (l.drop fr).length = L - fr := by rw [List.length_drop, ← q1]
        by_cases hE : each ≤ L - fr
        · congr 1; omega
        · rw [List.take_of_length_le (by omega), List.take_of_length_le (by omega)]
      rw [hpiece] at hBp
      obtain ⟨sz, hsz⟩ : ∃ sz, sz = to - fr := ⟨_, rfl⟩
      have hpl : (pieceN l each j).length = sz := by rw [← hpiece, List.length_drop, List.length_take]; omega
      rw [← hsz, ← q1] at hcut
      rw [← hsz] at hBp
      have hcall := HP.out wr hKw ap sz gb op (pieceN l each j) hBp
      rw [hpl] at hcall
      obtain ⟨pc, hpc⟩ : ∃ pc, pc = packC ws (pieceN l each j) := ⟨_, rfl⟩
      obtain ⟨pv, hpv⟩ : ∃ pv, pv = tailN ws l each j := ⟨_, rfl⟩
      rw [← hpc, show packV ws (pieceN l each j) = pv from hpv.symm] at hcall
      have HCA := hid hcall
      have hpvl : pv.length ≤ 65535 := by
        rw [hpv]
        have h8 := packV_len ws (pieceN l each j)
        rw [hpl] at h8
        have : sz ≤ 33000 := by
          rcases q3 with ⟨e, hL1⟩ | ⟨e, hL1⟩
          · omega
          · rw [e] at he4; omega
        show (packV ws (pieceN l each j)).length ≤ 65535
        omega
      have HX := hid (show pc = packC ws (pieceN l each j) ∧ pv = tailN ws l each j ∧ pv.length ≤ 65535 ∧ j1 = j + 1 ∧ Keep noBlock w wr from ⟨hpc, hpv, hpvl, hj1, hKw⟩)
      have hfr0 : (0 : Int) ≤ (fr : Int) := by omega
      have hftI : (fr : Int) ≤ (to : Int) := by omega
      clear hok hRw q1 q2 q3 q4 q5 hKw hj1 hfr he1 hto he4 hfe hfb hft htL hBw hBp hpiece hsz hpl hcall hpc hpv hpvl
      by_cases hp0 : pc = 0
      · subst hp0
        go_wp2_with fail
        refine HCA.out.mono ?_
        rintro e w4 ⟨hk4, va, vn, vc, rfl, hvn, hvo, hvf⟩
        have c4 := keep_cell0 hk4 c3
        rw [show ((0 : Nat) : Int) = (0 : Int) from rfl]
        have HV := hid (show Keep noBlock wr w4 ∧ vn = pv.length ∧ w4.ownsRow 0 5 1 (.slice va vn vc) vn (u8s pv) ∧ ∀ k, (Value.slice va vn vc).ownBlock = some k → wr.heap.size ≤ k from ⟨hk4, hvn, hvo, hvf⟩)
        clear hk4 hvn hvo hvf c3
        by_cases hjn : j < n1
        · have hjnI : (j : Int) < (n1 : Int) := by omega
          obtain ⟨b0, hb0⟩ : ∃ b0, b0 = vn % 256 := ⟨_, rfl⟩
          obtain ⟨vq, hvq⟩ : ∃ vq, vq = vn / 256 := ⟨_, rfl⟩
          obtain ⟨b1, hb1⟩ : ∃ b1, b1 = vq % 256 := ⟨_, rfl⟩
          have hvn := HV.out.2.1
          have hvnb : vn ≤ 65535 := by rw [hvn]; exact HX.out.2.2.1
          have s1 : IntKind.u8.wrap (vn : Int) = (b0 : Int) := by rw [IntKind.wrap_u8, hb0]; omega
          have s2 : (vn : Int) / 256 = (vq : Int) := by omega
          have s3 : IntKind.u8.wrap (vq : Int) = (b1 : Int) := by rw [IntKind.wrap_u8, hb1]; omega
          have s4 : (vn : Int) % 256 = (b0 : Int) := by omega
          have s5 : (vq : Int) % 256 = (b1 : Int) := by omega
          have hvnI : (vn : Int) ≤ 65535 := by omega
          obtain ⟨hok, hRw⟩ := HJ.out
          have hR4 := hRw.to HV.out.1
          have hka := (Keep.refl noBlock w4).alloc (.cells #[.int .u8 (b0 : Int), .int .u8 (b1 : Int)] 5)
          have hB2 := bytes_new w4 [b0, b1] #[.int .u8 (b0 : Int), .int .u8 (b1 : Int)] (0, 0) 2 rfl rfl (lt256 fun b hb => by simp at hb; omega) (by simp)
          have hll : (lensN ws l each n j).length ≤ 2 * j := lens_len ws l each n j
          have htl : (tailsN ws l each j).length ≤ j * 65535 := tails_len (by
            intro i hi
            have := HQ.out
            have hq2 := this.2.1
            show (packV ws (pieceN l each i)).length ≤ 65535
            have h8 := packV_len ws (pieceN l each i)
            rw [pieceN_len] at h8
            have he4 : each = (L + n - 1) / n := hq2
            rcases this.2.2.1 with ⟨e, hL1⟩ | ⟨e, hL1⟩
            · rw [e] at he4; omega
            · rw [e] at he4; omega)
          have hj4 : j ≤ 4 := by omega
          have hjm : j * 65535 ≤ 4 * 65535 := Nat.mul_le_mul_right _ hj4
          obtain ⟨v5, w5, hrun5, hR5, hk5⟩ := (hR4.to hka).add9 [b0, b1] _ hB2.src (by simp; omega)
          obtain ⟨ad5, c5, hv5⟩ := owns_form hR5.o9
          subst hv5
          have hvo5 : w5.ownsRow 0 5 1 (.slice va vn vc) vn (u8s pv) := owns_kept (owns_kept HV.out.2.2.1 hka (fun _ _ h => h)) hk5 (fun g hg e => by
            have h1 := HV.out.2.2.2 g hg
            have h2 := own_lt hRw.o9 e
            omega)
          have hvlt : ∀ q : Nat, pv[q]?.getD 0 < 256 := by rw [HX.out.2.1]; exact packV_lt ws (pieceN l each j)
          obtain ⟨va', vc', vg, hve, hvB, -⟩ := owns_bytes (M := pv) (by rw [← hvn]; exact hvo5) hvlt (by have := HX.out.2.2.1; omega)
          rw [← hvn] at hve
          cases hve
          obtain ⟨v6, w6, hrun6, hR6⟩ := hR5.add10 pv (.slice va vn vc) (by rw [hvn]; exact hvB.src) (by have := HX.out.2.2.1; omega)
          obtain ⟨ad6, c6, hv6⟩ := owns_form hR6.o10
          subst hv6
          obtain ⟨m5, hm5⟩ : ∃ m5, m5 = (lensN ws l each n j ++ [b0, b1]).length := ⟨_, rfl⟩
          obtain ⟨m6, hm6⟩ : ∃ m6, m6 = (tailsN ws l each j ++ pv).length := ⟨_, rfl⟩
          rw [← hm5] at hrun5 hR6 hR5
          rw [← hm6] at hrun6 hR6
          rw [show ([b0, b1] : List Nat).length = 2 from rfl] at hrun5
          have hstep : okN ws l each j1 = true ∧ lensN ws l each n j1 = lensN ws l each n j ++ [b0, b1] ∧ tailsN ws l each j1 = tailsN ws l each j ++ pv := by
            obtain ⟨x1, x2, x3, x4, x5⟩ := HX.out
            refine ⟨by rw [x4]; unfold okN; rw [hok, ← x1]; rfl, ?_, by rw [x4, x2]; rfl⟩
            rw [x4]
            have hjj : j + 1 < n := by have := HQ.out.2.2.2.2; omega
            show lensN ws l each n j ++ (if j + 1 < n then twoN (tailN ws l each j).length else []) = _
            rw [if_pos hjj, ← x2, ← hvn]
            unfold twoN
            rw [hb0, hb1, hvq]
          have HE := hid (And.intro hstep hR6)
          clear hok hRw hR4 hka hB2 hll htl hj4 hjm hR5 hk5 hvo5 hvlt hvB hR6 hm5 hm6 hstep hb0 hvq hb1 hvn hvnb
          go_wp2_with (at_builtin; first | (refine wpList_append_run _ rfl _ _ 22 rfl _ _ _ _ rfl rfl hrun5 ?_) | (refine wpList_append_run _ rfl _ _ 22 rfl _ _ _ _ rfl rfl hrun6 ?_))
          obtain ⟨⟨y1, y2, y3⟩, y4⟩ := HE.out
          refine ⟨⟨j1, m5, c5, m6, c6, ad5, ad6, rfl, by have := HX.out.2.2.2.1; omega, rfl, rfl, y1, by rw [y2, y3]; exact y4⟩, ?_⟩
          have := HX.out.2.2.2.1
          simp only [intOf, Int.toNat_natCast]
          omega
        · have hjnI : ¬ (j : Int) < (n1 : Int) := by omega
          obtain ⟨hok, hRw⟩ := HJ.out
          have hR5 := hRw.to HV.out.1
          have hvn := HV.out.2.1
          have hvo5 := HV.out.2.2.1
          have htl : (tailsN ws l each j).length ≤ j * 65535 := tails_len (by
            intro i hi
            have := HQ.out
            have hq2 := this.2.1
            show (packV ws (pieceN l each i)).length ≤ 65535
            have h8 := packV_len ws (pieceN l each i)
            rw [pieceN_len] at h8
            have he4 : each = (L + n - 1) / n := hq2
            rcases this.2.2.1 with ⟨e, hL1⟩ | ⟨e, hL1⟩
            · rw [e] at he4; omega
            · rw [e] at he4; omega)
          have hj4 : j ≤ 4 := by omega
          have hjm : j * 65535 ≤ 4 * 65535 := Nat.mul_le_mul_right _ hj4
          have hvlt : ∀ q : Nat, pv[q]?.getD 0 < 256 := by rw [HX.out.2.1]; exact packV_lt ws (pieceN l each j)
          obtain ⟨va', vc', vg, hve, hvB, -⟩ := owns_bytes (M := pv) (by rw [← hvn]; exact hvo5) hvlt (by have := HX.out.2.2.1; omega)
          rw [← hvn] at hve
          cases hve
          obtain ⟨v6, w6, hrun6, hR6⟩ := hR5.add10 pv (.slice va vn vc) (by rw [hvn]; exact hvB.src) (by have := HX.out.2.2.1; omega)
          obtain ⟨ad6, c6, hv6⟩ := owns_form hR6.o10
          subst hv6
          obtain ⟨m6, hm6⟩ : ∃ m6, m6 = (tailsN ws l each j ++ pv).length := ⟨_, rfl⟩
          rw [← hm6] at hrun6 hR6
          have hstep : okN ws l each j1 = true ∧ lensN ws l each n j1 = lensN ws l each n j ∧ tailsN ws l each j1 = tailsN ws l each j ++ pv := by
            obtain ⟨x1, x2, x3, x4, x5⟩ := HX.out
            refine ⟨by rw [x4]; unfold okN; rw [hok, ← x1]; rfl, ?_, by rw [x4, x2]; rfl⟩
            rw [x4]
            have hjj : ¬ j + 1 < n := by have := HQ.out.2.2.2.2; omega
            show lensN ws l each n j ++ (if j + 1 < n then twoN (tailN ws l each j).length else []) = _
            rw [if_neg hjj, List.append_nil]
          have HE := hid (And.intro hstep hR6)
          clear hok hRw htl hj4 hjm hR5 hvo5 hvlt hvB hR6 hm6 hstep hvn
          go_wp2_with (at_builtin; refine wpList_append_run _ rfl _ _ 22 rfl _ _ _ _ rfl rfl hrun6 ?_)
          obtain ⟨⟨y1, y2, y3⟩, y4⟩ := HE.out
          refine ⟨⟨j1, m1, c1, m6, c6, ad1, ad6, rfl, by have := HX.out.2.2.2.1; omega, rfl, rfl, y1, by rw [y2, y3]; exact y4⟩, ?_⟩
          have := HX.out.2.2.2.1
          simp only [intOf, Int.toNat_natCast]
          omega
      · have hub : ((pc : Int) != 0) = true := by simp; omega
        go_wp2_with fail
        refine HCA.out.mono ?_
        rintro e w4 ⟨hk4, va, vn, vc, rfl, hvn, hvo, hvf⟩
        have HKf := hid (HX.out.2.2.2.2.trans' hk4)
        clear hk4 hvn hvo hvf
        go_wp2_with fail
        go_ret2
        have hno : okN ws l each n = false := by
          cases ho : okN ws l each n with
          | false => rfl
          | true => exact absurd (HX.out.1.trans (okN_all ho j hlt)) hp0
        have hpn : packP ws l n = none := by
          unfold packP
          rw [← HQ.out.1, ← HQ.out.2.1, if_neg (by rw [hno]; decide)]
        rw [hpn]
        exact ⟨HKf.out, rfl⟩
    · have hltI : ¬ (j : Int) < (n : Int) := by omega
      obtain rfl : j = n := by omega
      obtain ⟨hok, hRw⟩ := HJ.out
      have hll : (lensN ws l each j j).length ≤ 2 * j := lens_len ws l each j j
      have htl : (tailsN ws l each j).length ≤ j * 65535 := tails_len (by
        intro i hi
        have := HQ.out
        have hq2 := this.2.1
        show (packV ws (pieceN l each i)).length ≤ 65535
        have h8 := packV_len ws (pieceN l each i)
        rw [pieceN_len] at h8
        have he4 : each = (L + j - 1) / j := hq2
        rcases this.2.2.1 with ⟨e, hL1⟩ | ⟨e, hL1⟩
        · rw [e] at he4; omega
        · rw [e] at he4; omega)
      have hj4 : j ≤ 4 := by omega
      have hjm : j * 65535 ≤ 4 * 65535 := Nat.mul_le_mul_right _ hj4
      have htlt : ∀ q : Nat, (tailsN ws l each j)[q]?.getD 0 < 256 := tails_lt ws l each j
      obtain ⟨va', vc', vg, hve, hvB, -⟩ := owns_bytes hRw.o10 htlt (by omega)
      cases hve
      obtain ⟨v5, w5, hrun5, hR5, hk5⟩ := hRw.add9 (tailsN ws l each j) _ hvB.src (by omega)
      obtain ⟨ad5, c5, hv5⟩ := owns_form hR5.o9
      subst hv5
      obtain ⟨m5, hm5⟩ : ∃ m5, m5 = (lensN ws l each j j ++ tailsN ws l each j).length := ⟨_, rfl⟩
      obtain ⟨m2, hm2⟩ : ∃ m2, m2 = (tailsN ws l each j).length := ⟨_, rfl⟩
      rw [← hm5] at hrun5 hR5
      rw [← hm2] at hrun5 ⊢
      have hm5b : (m5 : Int) ≤ 400000 := by rw [hm5, List.length_append]; omega
      have HE := hid (show packP ws l j = some (lensN ws l each j j ++ tailsN ws l each j) ∧ m5 = (lensN ws l each j j ++ tailsN ws l each j).length ∧ Rws W1 w5 (.slice ad5 m5 c5) (.slice ad2 m2 c2) (lensN ws l each j j ++ tailsN ws l each j) (tailsN ws l each j) from ⟨by
        unfold packP bodyP
        rw [← HQ.out.1, ← HQ.out.2.1, if_pos hok], hm5, by rw [hm2]; exact hR5⟩)
      clear hok hRw hll htl hj4 hjm htlt hvB hR5 hk5 hm5 hm2
      go_wp2_with (at_builtin; refine wpList_append_run _ rfl _ _ 22 rfl _ _ _ _ rfl rfl hrun5 ?_)
      go_ret2
      obtain ⟨y1, y2, y3⟩ := HE.out
      rw [y1]
      refine ⟨H1.out.1.trans' y3.keep, .slice ad5 m5 c5, ?_, y3.o9⟩
      rw [← y2]
      rfl
end
end Go.Proofs.YtcoahkmiebeeeaaGreatDoor

namespace Go.Proofs.YtcoahkmiebeeeaaGreatDoor
open Go.RowKit Go.Shelf
set_option linter.unusedVariables false

def KpC (U V : World) : Prop := ∀ (k : Nat) (cs : Array Value) (t : Nat), (t = 172 ∨ t = 47) → U.heap[k]? = some (Obj.cells cs t (0, 0)) → V.heap[k]? = some (Obj.cells cs t (0, 0))
theorem KpC.refl (U : World) : KpC U U := fun _ _ _ _ h => h
theorem KpC.trans {U V X : World} (h : KpC U V) (k : KpC V X) : KpC U X := fun i cs t ht hi => k i cs t ht (h i cs t ht hi)
theorem KeepN.kp {B : Nat} {U V : World} (h : KeepN B U V) : KpC U V := fun k cs t _ hk => h.obj hk
theorem Keep.kp {U V : World} (h : Keep noBlock U V) : KpC U V := fun k cs t _ hk => h.obj hk (fun h => h)
theorem KeepN.less {B B' : Nat} {U V : World} (h : KeepN B U V) (hB : B' ≤ B) : KeepN B' U V := ⟨h.os, h.tape, h.output, h.size, fun k o hk ho => h.block k o hk (ho.imp (fun q => by omega) (fun q => q))⟩
/-- These stay, and so does whatever is no cells, above l. -/
structure KpL (l : Nat) (U V : World) : Prop where
  size : U.heap.size ≤ V.heap.size
  cells : KpC U V
  objs : ∀ (k : Nat) (o : Obj), l < k → U.heap[k]? = some o → o.isCells = false → V.heap[k]? = some o
theorem KpL.trans {l : Nat} {U V X : World} (h : KpL l U V) (k : KpL l V X) : KpL l U X := ⟨Nat.le_trans h.size k.size, h.cells.trans k.cells, fun i o hi hu ho => k.objs i o hi (h.objs i o hi hu ho) ho⟩
theorem kpL_putObj {l : Nat} {U : World} {o : Obj} (o' : Obj) (hl : U.heap[l]? = some o) (hc : o.isCells = false) : KpL l U (U.putObj l o') := by
  refine ⟨(keepN_putObj o' (Nat.le_refl l) hl hc).size, fun k cs t _ hk => (keepN_putObj o' (Nat.le_refl l) hl hc).obj hk, fun k o2 hk ho _ => (World.putObj_heap_other (by omega)).trans ho⟩

theorem range_iterK {ι : Type} {n gf : Nat} {lb : Array Value} {g : Operand} {ps : Array Tmp} {assign body : Code} {Q : Exit → Act → World → Prop} {a : Act} {w : World} (hn : 3 ≤ n)
    (hg : a.eval g = .func (.func gf) #[] lb) (eg : ∀ args w, (callFunc gf args).run Tryz.prog w = .ok (.enter gf args) w)
    (R : ι → Array Value → ι → World → Prop) (E : ι → Prop) (i0 : ι) (I : ι → World → Prop)
    (hit : ∀ (l : Nat) (J : ι → World → Prop) (W : World), KeepN w.heap.size w W → l < W.heap.size → (∀ i V, J i V → I i V) → (∀ i X Y, J i X → Keep noBlock X Y → J i Y) → (∀ i X Y B, J i X → l < B → KeepN B X Y → J i Y) →
      (∀ i vs i' V, R i vs i' V → J i V → YieldAt Fence.wide (n - 1 - 1) Tryz.prog l vs V fun e V' => e = .returned (.bool true) ∧ J i' V' ∧ KpL l V V') → J i0 W →
      CallsIn Fence.wide (n - 1) Tryz.prog gf (#[.func (.yield l) #[] #[]] ++ lb) W fun e W' => (∃ v, e = .returned v) ∧ ∃ i, E i ∧ J i W')
    (hps : ∀ i vs i' V, R i vs i' V → vs.size = ps.size)
    (A : ι → Array Value → ι → Act → World → Prop)
    (hI : ∀ i U V, I i U → KeepN w.heap.size U V → I i V) (hA : ∀ i vs i' a' U V, A i vs i' a' U → KeepN w.heap.size U V → A i vs i' a' V) (h0 : I i0 w)
    (hassign : ∀ i vs i' V (K : Act → World → Prop), R i vs i' V → I i V → (∀ a' V', KeepsFrom w.heap.size V V' → KpC V V' → I i V' → A i vs i' a' V' → K a' V') →
      assign.wpIn (Fence.wide.inRound (w.heap.size + 1)) (n - 1 - 1) Tryz.prog (Exit.then K (fun _ _ _ => False)) { tmps := (ps.zip vs).foldl (fun t (p, v) => t.setIfInBounds p v) a.tmps, defers := [] } V)
    (hbody : ∀ i vs i' a' V, I i V → A i vs i' a' V → body.wpIn (Fence.wide.inRound (w.heap.size + 1)) (n - 1 - 1) Tryz.prog (goesOn w.heap.size (fun V' => I i' V' ∧ KpC V V') (fun _ _ => False) V) a' V)
    (hdone : ∀ i V, E i → I i V → V.heap[w.heap.size]? = some (.deferred (some [])) → Q .normal { a with defers := { target := .collected w.heap.size, args := #[] } :: a.defers } V) :
    (Code.rangeFunc g ps assign body).wpIn Fence.wide n Tryz.prog Q a w := by
  refine wpIn_rangeFunc fun fn hfn => ?_
  -- the loop's record
  obtain ⟨mk, hmk⟩ : ∃ mk : LoopState → Option Code → Obj, mk = fun st pe => .loop { state := st, pending := pe, fn, tmps := a.tmps, params := ps, assign, body, defers := w.heap.size } := ⟨_, rfl⟩
  have mkc : ∀ st pe, (mk st pe).isCells = false := fun st pe => by rw [hmk]; rfl
  obtain ⟨V1, hV1⟩ : ∃ V1, V1 = (w.alloc (.deferred (some []))).alloc (mk .ready none) := ⟨_, rfl⟩
  have hsz : (w.alloc (.deferred (some []))).heap.size = w.heap.size + 1 := World.size_alloc _ _
  have hrec : V1.heap[w.heap.size + 1]? = some (mk .ready none) := by rw [hV1, ← hsz]; exact World.alloc_heap_new _ _
  have hdef : V1.heap[w.heap.size]? = some (.deferred (some [])) := by rw [hV1]; exact alloc_far (World.alloc_heap_new w _) _
  have hK1 : KeepN w.heap.size w V1 := by rw [hV1]; exact (((Keep.refl noBlock w).alloc _).alloc _).toN _
  have hI1 : I i0 V1 := hI _ _ _ h0 hK1
  refine ⟨w.heap.size + 1, [{ target := .collected w.heap.size, args := #[] }], V1, { target := .fn (.func gf) lb, args := #[.func (.yield (w.heap.size + 1)) #[] #[]] }, V1, gf,
    #[.func (.yield (w.heap.size + 1)) #[] #[]] ++ lb, V1, ?_, ?_, fun _ _ => trivial, ?_, fun _ => by omega, ?_⟩
  · rw [hV1, hmk]; exact run_enterLoop_outer _ _ _ _ _
  · simp only [resolve, hg]
    simp [go_sem]
  · simp [invoke, go_sem, eg]
  · refine (hit (w.heap.size + 1)
      (fun i V => I i V ∧ V.heap[w.heap.size + 1]? = some (mk .ready none) ∧ V.heap[w.heap.size]? = some (.deferred (some [])))
      V1 hK1 (obj_lt hrec) (fun i V h => h.1) (fun i U V h hk => ⟨hI _ _ _ h.1 (hk.toN _), hk.obj h.2.1 (fun h => h), hk.obj h.2.2 (fun h => h)⟩)
      (fun i U V B h hB hk => ⟨hI _ _ _ h.1 (hk.less (by omega)), hk.block _ _ h.2.1 (.inl hB), hk.block _ _ h.2.2 (.inl (by omega))⟩) ?_ ⟨hI1, hrec, hdef⟩).mono ?_
    · rintro i vs i' V hR ⟨hi, hl, hd⟩
      have hy := run_yield (P := Tryz.prog) (args := vs) (by rw [hmk] at hl; exact hl) (by simp [hps i vs i' V hR])
      refine ⟨fn, _, assign, body, hy, roundIn_of_wpIn hfn (hassign i vs i' V _ hR hi fun a' V2 hkf hkp2 hi2 hax => ?_)⟩
      have hl2 := hkf.same _ _ (Nat.le_succ _) hl (mkc _ _)
      have hd2 := hkf.same _ _ (Nat.le_refl _) hd rfl
      have hlt : w.heap.size + 1 < V2.heap.size := obj_lt hl2
      have hbr := run_beginRound (P := Tryz.prog) (by rw [hmk] at hl2; exact hl2) rfl
      refine ⟨_, hbr, ?_⟩
      obtain ⟨V3, hV3⟩ : ∃ V3, V3 = V2.putObj (w.heap.size + 1) (mk .busy none) := ⟨_, rfl⟩
      have hl3 : V3.heap[w.heap.size + 1]? = some (mk .busy none) := by rw [hV3]; exact World.putObj_heap_same hlt
      have hd3 : V3.heap[w.heap.size]? = some (.deferred (some [])) := by rw [hV3]; exact (World.putObj_heap_other (by omega)).trans hd2
      have hk3 : KeepN w.heap.size V2 V3 := by rw [hV3]; exact keepN_putObj _ (Nat.le_succ _) hl2 (mkc _ _)
      have hi3 : I i V3 := hI _ _ _ hi2 hk3
      have hx3 : A i vs i' a' V3 := hA _ _ _ _ _ _ hax hk3
      have hb := hbody i vs i' a' V3 hi3 hx3
      rw [hV3, hmk] at hb
      refine wpIn_mono hb ?_
      -- however the round ends, the record is turned
      have fin : ∀ (j : Option Code) (V4 : World), KeepsFrom w.heap.size V3 V4 → (Instr.endRound (w.heap.size + 1) j).run Tryz.prog V4 = .ok (.bool j.isNone) (V4.putObj (w.heap.size + 1) (mk (if j.isNone then .ready else .done) j)) ∧
          V4.heap[w.heap.size + 1]? = some (mk .busy none) ∧ (V4.putObj (w.heap.size + 1) (mk (if j.isNone then .ready else .done) j)).heap[w.heap.size + 1]? = some (mk (if j.isNone then .ready else .done) j) ∧
          (V4.putObj (w.heap.size + 1) (mk (if j.isNone then .ready else .done) j)).heap[w.heap.size]? = some (.deferred (some [])) := by
        intro j V4 h4
        have hl4 := h4.same _ _ (Nat.le_succ _) hl3 (mkc _ _)
        have hr := run_endRound (P := Tryz.prog) j (by rw [hmk] at hl4; exact hl4)
        refine ⟨?_, hl4, World.putObj_heap_same (obj_lt hl4), (World.putObj_heap_other (by omega)).trans (h4.same _ _ (Nat.le_refl _) hd3 rfl)⟩
        rw [hmk]; exact hr
      intro e a4 V4 hp
      have hp' : goesOn w.heap.size (fun V' => I i' V' ∧ KpC V3 V') (fun _ _ => False) V3 e a4 V4 := by rw [hV3, hmk]; exact hp
      clear hp hb
      cases e with
      | normal =>
        obtain ⟨r1, r2, r3, r4⟩ := fin none V4 hp'.1
        have kA : KpL (w.heap.size + 1) V V2 := ⟨hkf.size, hkp2, fun k o hk => hkf.same k o (by omega)⟩
        have kB : KpL (w.heap.size + 1) V2 V3 := by rw [hV3]; exact kpL_putObj _ hl2 (mkc _ _)
        have kC : KpL (w.heap.size + 1) V3 V4 := ⟨hp'.1.size, hp'.2.2, fun k o hk => hp'.1.same k o (by omega)⟩
        exact ⟨_, _, r1, rfl, ⟨hI _ _ _ hp'.2.1 (keepN_putObj _ (Nat.le_succ _) r2 (mkc _ _)), r3, r4⟩, ((kA.trans kB).trans kC).trans (kpL_putObj _ r2 (mkc _ _))⟩
      | ret => exact hp'.2.elim
      | exit i => exact hp'.2.elim
      | goto t => exact hp'.elim
      | panic ch => exact hp'.elim
      | outgrown => exact hp'.elim
    · rintro e V ⟨⟨v, rfl⟩, i, hE, hi, hl, hd⟩
      have hr := run_endLoop (P := Tryz.prog) (by rw [hmk] at hl; exact hl) (by simp)
      exact ⟨none, _, hr, hdone i _ hE (hI _ _ _ hi (keepN_putObj _ (Nat.le_succ _) hl (mkc _ _))) ((World.putObj_heap_other (by omega)).trans hd)⟩

end Go.Proofs.YtcoahkmiebeeeaaGreatDoor

namespace Go.Proofs.YtcoahkmiebeeeaaGreatDoor
open Go.RowKit Go.Shelf

def U32 (fs : List Int) : Prop := ∀ i : Nat, 0 ≤ fs[i]?.getD 0 ∧ fs[i]?.getD 0 ≤ 4294967295
def fr (fs : List Int) (i : Nat) : Nat := (fs[i]?.getD 0).toNat
theorem fr_lt {fs : List Int} (h : U32 fs) (i : Nat) : fr fs i < 4294967296 := by have := h i; unfold fr; omega
theorem RowI.fr {w : World} {a : Option Addr} {cap gb off : Nat} {fs : List Int} (h : RowI w .u32 a cap gb off fs) (hu : U32 fs) (i : Nat) (hi : i < fs.length) : w.cell? ⟨gb, off + i, none⟩ = some (.int .u32 ((fr fs i : Nat) : Int)) := by
  rw [h.cells i hi]
  have := hu i
  unfold Go.Proofs.YtcoahkmiebeeeaaGreatDoor.fr
  congr 2
  omega

def IsMost (f c : Nat → Nat) (n s g : Nat) : Prop := (g = 0 ∧ s = 0 ∧ ∀ j, j < n → f j * savedN (c j) = 0) ∨ (s < n ∧ g = f s * savedN (c s) ∧ 0 < g)
def IsLeast (f c : Nat → Nat) (n s g : Nat) : Prop := (g = 18446744073709551615 ∧ s = 0 ∧ ∀ j, j < n → c j < 2) ∨ (s < n ∧ g = f s * savedN (c s - 1) ∧ 2 ≤ c s)

theorem gain_lt (f c x : Nat) (hf : f < 4294967296) (hc : c ≤ 4096) (h0 : c = 0 → f = 0) (hx : x = f * savedN c) : x < 9223372036854775808 := by
  by_cases h : c = 0
  · rw [hx, h0 h]; simp
  · have h1 := (saved_facts c (by omega) hc).2.1
    have : f * savedN c ≤ 4294967295 * 2147483647 := Nat.mul_le_mul (by omega) (by omega)
    omega

set_option maxRecDepth 100000 in
set_option maxHeartbeats 2000000 in
theorem mostGain_any (cb : Nat) (c : Nat → Nat) (a : Option Addr) (cap gb off : Nat) (fs : List Int) (w : World) (hA : IsA w cb 184 .i16 fs.length (fun i => ((c i : Nat) : Int))) (hR : RowI w .u32 a cap gb off fs) (hu : U32 fs) (hl : fs.length ≤ 256) (hc : ∀ i, i < fs.length → c i ≤ 4096) (h0 : ∀ i, i < fs.length → c i = 0 → fr fs i = 0) :
    Calls Tryz.prog 125 #[.slice (some ⟨cb, 0, none⟩) fs.length fs.length, .slice a fs.length cap] w fun e w' => ∃ s g, e = .returned (.tuple #[.int .i64 ((s : Nat) : Int), .int .u64 ((g : Nat) : Int)]) ∧ IsMost (fr fs) c fs.length s g ∧ w' = w := by
  have HH := (show Hid (IsA w cb 184 .i16 fs.length (fun i => ((c i : Nat) : Int)) ∧ RowI w .u32 a cap gb off fs ∧ U32 fs ∧ (∀ i, i < fs.length → c i ≤ 4096) ∧ (∀ i, i < fs.length → c i = 0 → fr fs i = 0)) from ⟨hA, hR, hu, hc, h0⟩)
  obtain ⟨n, hn⟩ : ∃ n, n = fs.length := ⟨_, rfl⟩
  rw [← hn] at hl ⊢
  have HN := (show Hid (n = fs.length) from hn)
  clear hA hR hu hc h0 hn
  go_enter Tryz.func125, Tryz.ntmps125
  go_wp2
  go_loop [4, 5, 11] (fun v4 v5 v11 => ∃ (i s g : Nat), v11 = .int .i64 (i : Int) ∧ v4 = .int .i64 (s : Int) ∧ v5 = .int .u64 (g : Int) ∧ i ≤ n ∧ g < 9223372036854775808 ∧ Hid (IsMost (fr fs) c i s g)) (fun _ _ v11 => n - (intOf v11).toNat)
  case atStart => exact ⟨0, 0, 0, rfl, rfl, rfl, Nat.zero_le _, by decide, .inl ⟨rfl, rfl, fun j hj => by omega⟩⟩
  case round =>
    obtain ⟨i, s, g, rfl, rfl, rfl, hi, hgb, HM⟩ := hrel
    by_cases hlt : i < n
    · obtain ⟨hA, hR, hu, hc, h0⟩ := HH.out
      have hix : i < fs.length := by have := HN.out; omega
      obtain rfl := hR.here hix
      have c0 := hR.fr hu i hix
      have c1 := hA.cell i hix
      have hci := hc i hix
      have hfi := fr_lt hu i
      have h0i := h0 i hix
      obtain ⟨x, hx⟩ : ∃ x, x = fr fs i * savedN (c i) := ⟨_, rfl⟩
      have hxb := gain_lt (fr fs i) (c i) x hfi hci h0i hx
      have hxI : ((fr fs i : Nat) : Int) * ((savedN (c i) : Nat) : Int) = (x : Int) := by rw [hx]; simp
      have HS := (show Hid (∀ w : World, _) from fun w => saved_any (c i) hci w)
      have HX := (show Hid (x = fr fs i * savedN (c i)) from hx)
      have hsb := saved_lt (c i) hci
      have hltI : (i : Int) < (n : Int) := by omega
      have hxbI : (x : Int) < 9223372036854775808 := by omega
      have hgbI : (g : Int) < 9223372036854775808 := by omega
      have hnI : (n : Int) ≤ 256 := by omega
      have hcI : ((c i : Nat) : Int) ≤ 4096 := by omega
      have hfI : ((fr fs i : Nat) : Int) < 4294967296 := by omega
      have hsI : ((savedN (c i) : Nat) : Int) < 8589934592 := by omega
      clear hA hR hu hc h0 h0i hx hci hfi hsb hxb
      by_cases hgt : g < x
      · have hgtI : (g : Int) < (x : Int) := by omega
        have HM2 := (show Hid (IsMost (fr fs) c (i + 1) i x) from .inr ⟨by omega, HX.out, by omega⟩)
        generalize fr fs i = fi at *
        generalize savedN (c i) = si at *
        generalize c i = ci at *
        go_wp2_with (go_at_call 134; refine (HS.out _).mono ?_; rintro e w' ⟨rfl, rfl⟩)
        go_round
        case rel => exact ⟨i + 1, i, x, by go_num, rfl, rfl, by omega, by omega, HM2⟩
        case measure => simp [intOf]; omega
      · have hgtI : ¬ (g : Int) < (x : Int) := by omega
        have HM2 := (show Hid (IsMost (fr fs) c (i + 1) s g) from by
          rcases HM.out with ⟨e1, e2, e3⟩ | ⟨e1, e2, e3⟩
          · refine .inl ⟨e1, e2, fun j hj => ?_⟩
            by_cases e : j = i
            · subst e; rw [← HX.out]; omega
            · exact e3 j (by omega)
          · exact .inr ⟨by omega, e2, e3⟩)
        generalize fr fs i = fi at *
        generalize savedN (c i) = si at *
        generalize c i = ci at *
        go_wp2_with (go_at_call 134; refine (HS.out _).mono ?_; rintro e w' ⟨rfl, rfl⟩)
        go_round
        case rel => exact ⟨i + 1, s, g, by go_num, rfl, rfl, by omega, by omega, HM2⟩
        case measure => simp [intOf]; omega
    · obtain rfl : i = n := by omega
      have hltI : ¬ (i : Int) < (i : Int) := by omega
      go_wp2
      go_ret2
      exact ⟨s, g, rfl, HM.out, rfl⟩

set_option maxRecDepth 100000 in
set_option maxHeartbeats 2000000 in
theorem leastLoss_any (cb : Nat) (c : Nat → Nat) (a : Option Addr) (cap gb off : Nat) (fs : List Int) (w : World) (hA : IsA w cb 184 .i16 fs.length (fun i => ((c i : Nat) : Int))) (hR : RowI w .u32 a cap gb off fs) (hu : U32 fs) (hl : fs.length ≤ 256) (hc : ∀ i, i < fs.length → c i ≤ 4096) :
    Calls Tryz.prog 126 #[.slice (some ⟨cb, 0, none⟩) fs.length fs.length, .slice a fs.length cap] w fun e w' => ∃ s g, e = .returned (.tuple #[.int .i64 ((s : Nat) : Int), .int .u64 ((g : Nat) : Int)]) ∧ IsLeast (fr fs) c fs.length s g ∧ g ≤ 18446744073709551615 ∧ w' = w := by
  have HH := (show Hid (IsA w cb 184 .i16 fs.length (fun i => ((c i : Nat) : Int)) ∧ RowI w .u32 a cap gb off fs ∧ U32 fs ∧ (∀ i, i < fs.length → c i ≤ 4096)) from ⟨hA, hR, hu, hc⟩)
  obtain ⟨n, hn⟩ : ∃ n, n = fs.length := ⟨_, rfl⟩
  rw [← hn] at hl ⊢
  have HN := (show Hid (n = fs.length) from hn)
  clear hA hR hu hc hn
  go_enter Tryz.func126, Tryz.ntmps126
  go_wp2
  go_loop [4, 5, 11] (fun v4 v5 v11 => ∃ (i s g : Nat), v11 = .int .i64 (i : Int) ∧ v4 = .int .i64 (s : Int) ∧ v5 = .int .u64 (g : Int) ∧ i ≤ n ∧ g ≤ 18446744073709551615 ∧ Hid (IsLeast (fr fs) c i s g)) (fun _ _ v11 => n - (intOf v11).toNat)
  case atStart => exact ⟨0, 0, 18446744073709551615, rfl, rfl, rfl, Nat.zero_le _, Nat.le_refl _, .inl ⟨rfl, rfl, fun j hj => by omega⟩⟩
  case round =>
    obtain ⟨i, s, g, rfl, rfl, rfl, hi, hgb, HM⟩ := hrel
    by_cases hlt : i < n
    · obtain ⟨hA, hR, hu, hc⟩ := HH.out
      have hix : i < fs.length := by have := HN.out; omega
      obtain rfl := hR.here hix
      have c0 := hR.fr hu i hix
      have c1 := hA.cell i hix
      have hci := hc i hix
      have hfi := fr_lt hu i
      have hltI : (i : Int) < (n : Int) := by omega
      have hgbI : (g : Int) ≤ 18446744073709551615 := by omega
      have hnI : (n : Int) ≤ 256 := by omega
      have hcI : ((c i : Nat) : Int) ≤ 4096 := by omega
      have hfI : ((fr fs i : Nat) : Int) < 4294967296 := by omega
      by_cases h2 : c i < 2
      · have h2I : ((c i : Nat) : Int) < 2 := by omega
        have HM2 := (show Hid (IsLeast (fr fs) c (i + 1) s g) from by
          rcases HM.out with ⟨e1, e2, e3⟩ | ⟨e1, e2, e3⟩
          · refine .inl ⟨e1, e2, fun j hj => ?_⟩
            by_cases e : j = i
            · subst e; exact h2
            · exact e3 j (by omega)
          · exact .inr ⟨by omega, e2, e3⟩)
        clear hA hR hu hc hci hfi
        generalize fr fs i = fi at *
        generalize c i = ci at *
        go_wp2_with fail
        go_round
        case rel => exact ⟨i + 1, s, g, by go_num, rfl, rfl, by omega, hgb, HM2⟩
        case measure => simp [intOf]; omega
      · have h2I : ¬ ((c i : Nat) : Int) < 2 := by omega
        obtain ⟨d, hd⟩ : ∃ d, c i = d + 1 := ⟨c i - 1, by omega⟩
        have hdI : ((c i : Nat) : Int) - 1 = (d : Int) := by omega
        obtain ⟨x, hx⟩ : ∃ x, x = fr fs i * savedN d := ⟨_, rfl⟩
        have hxb := gain_lt (fr fs i) d x hfi (by omega) (by omega) hx
        have hxI : ((fr fs i : Nat) : Int) * ((savedN d : Nat) : Int) = (x : Int) := by rw [hx]; simp
        have HS := (show Hid (∀ w : World, _) from fun w => saved_any d (by omega) w)
        have hsb := saved_lt d (by omega)
        have hsI : ((savedN d : Nat) : Int) < 8589934592 := by omega
        have hxbI : (x : Int) < 9223372036854775808 := by omega
        have HX := (show Hid (x = fr fs i * savedN (c i - 1)) from by rw [hd, Nat.add_sub_cancel]; exact hx)
        have hdb : (d : Int) ≤ 4096 := by omega
        by_cases hgt : x < g
        · have hgtI : (x : Int) < (g : Int) := by omega
          have HM2 := (show Hid (IsLeast (fr fs) c (i + 1) i x) from .inr ⟨by omega, HX.out, by omega⟩)
          clear hA hR hu hc hci hfi hx hxb hsb hd
          generalize fr fs i = fi at *
          generalize savedN d = si at *
          generalize c i = ci at *
          go_wp2_with (go_at_call 134; refine (HS.out _).mono ?_; rintro e w' ⟨rfl, rfl⟩)
          go_round
          case rel => exact ⟨i + 1, i, x, by go_num, rfl, rfl, by omega, by omega, HM2⟩
          case measure => simp [intOf]; omega
        · have hgtI : ¬ (x : Int) < (g : Int) := by omega
          have HM2 := (show Hid (IsLeast (fr fs) c (i + 1) s g) from by
            rcases HM.out with ⟨e1, e2, e3⟩ | ⟨e1, e2, e3⟩
            · omega
            · exact .inr ⟨by omega, e2, e3⟩)
          clear hA hR hu hc hci hfi hx hxb hsb hd
          generalize fr fs i = fi at *
          generalize savedN d = si at *
          generalize c i = ci at *
          go_wp2_with (go_at_call 134; refine (HS.out _).mono ?_; rintro e w' ⟨rfl, rfl⟩)
          go_round
          case rel => exact ⟨i + 1, s, g, by go_num, rfl, rfl, by omega, hgb, HM2⟩
          case measure => simp [intOf]; omega
    · obtain rfl : i = n := by omega
      have hltI : ¬ (i : Int) < (i : Int) := by omega
      go_wp2
      go_ret2
      exact ⟨s, g, rfl, HM.out, hgb, rfl⟩

end Go.Proofs.YtcoahkmiebeeeaaGreatDoor

namespace Go.Proofs.YtcoahkmiebeeeaaGreatDoor
open Go.RowKit Go.Shelf

def InvC (f c : Nat → Nat) (n : Nat) : Prop := ∀ i, i < n → (0 < f i → 1 ≤ c i) ∧ (f i = 0 → c i = 0) ∧ c i ≤ 4096
def usedC (f : Nat → Nat) (n : Nat) : Nat := sumN (fun i => if 0 < f i then 1 else 0) n
def cOf (cb : Nat) (w : World) (i : Nat) : Nat := match w.cell? ⟨cb, i, none⟩ with | some (.int _ x) => x.toNat | _ => 0
theorem cOf_eq {cb n : Nat} {c : Nat → Nat} {w : World} (h : IsA w cb 184 .i16 n (fun i => ((c i : Nat) : Int))) (i : Nat) (hi : i < n) : cOf cb w i = c i := by
  unfold cOf; rw [h.cell i hi]; simp
theorem potF_eq {cb n : Nat} {c f : Nat → Nat} {w : World} (h : IsA w cb 184 .i16 n (fun i => ((c i : Nat) : Int))) : potF f (cOf cb w) n = potF f c n :=
  sumN_congr _ _ n (fun i hi => by show f i * SP (cOf cb w i) = f i * SP (c i); rw [cOf_eq h i hi])
def farN (f : Nat → Nat) (cb n : Nat) (v6 : Value) (w : World) : Nat := (intOf v6).natAbs * (potMax + 1) + (potMax - potF f (cOf cb w) n)

theorem some_two (f c : Nat → Nat) (n S : Nat) (hI : InvC f c n) (hU : usedC f n ≤ S) (h : S < sumN c n) : ∃ j, j < n ∧ 2 ≤ c j := by
  refine Classical.byContradiction fun hno => ?_
  have : sumN c n ≤ usedC f n := sumN_mono _ _ n (fun i hi => by
    have h1 := hI i hi
    have h2 : ¬ 2 ≤ c i := fun h => hno ⟨i, hi, h⟩
    by_cases hf : 0 < f i
    · rw [if_pos hf]; omega
    · rw [if_neg hf, h1.2.1 (by omega)]; omega)
  omega
theorem some_there (f : Nat → Nat) (n : Nat) (h : 0 < usedC f n) : ∃ j, j < n ∧ 0 < f j := by
  refine Classical.byContradiction fun hno => ?_
  have : usedC f n ≤ n * 0 := sumN_le _ n 0 (fun i hi => by
    have h2 : ¬ 0 < f i := fun h => hno ⟨i, hi, h⟩
    rw [if_neg h2]; omega)
  omega
theorem most_there {f c : Nat → Nat} {n s g : Nat} (h : IsMost f c n s g) (hI : InvC f c n) (hU : 0 < usedC f n) : s < n ∧ g = f s * savedN (c s) ∧ 0 < g ∧ 0 < f s := by
  rcases h with ⟨_, _, h3⟩ | ⟨h1, h2, h3⟩
  · obtain ⟨j, hj, hf⟩ := some_there f n hU
    have h4 := hI j hj
    have h5 := (saved_facts (c j) (h4.1 hf) h4.2.2).1
    have := h3 j hj
    have h6 : 0 < f j * savedN (c j) := Nat.mul_pos hf h5
    omega
  · refine ⟨h1, h2, h3, ?_⟩
    rcases Nat.eq_zero_or_pos (f s) with e | e
    · rw [e, Nat.zero_mul] at h2; omega
    · exact e

theorem far_less {f : Nat → Nat} {cb n : Nat} {x y : Int} {w w' : World} (h : y.natAbs + 1 = x.natAbs) : farN f cb n (.int .i64 y) w' < farN f cb n (.int .i64 x) w := by
  unfold farN
  show y.natAbs * (potMax + 1) + _ < x.natAbs * (potMax + 1) + _
  rw [← h, Nat.succ_mul]
  omega
theorem far_same {f c c' : Nat → Nat} {cb n : Nat} {x : Int} {w w' : World} (h : IsA w cb 184 .i16 n (fun i => ((c i : Nat) : Int))) (h' : IsA w' cb 184 .i16 n (fun i => ((c' i : Nat) : Int))) (hp : potF f c n < potF f c' n) (hb : potF f c' n ≤ potMax) : farN f cb n (.int .i64 x) w' < farN f cb n (.int .i64 x) w := by
  unfold farN
  rw [potF_eq h, potF_eq h']
  omega
theorem InvC.up {f c : Nat → Nat} {n i : Nat} (h : InvC f c n) (hf : 0 < f i) (hb : c i + 1 ≤ 4096) : InvC f (fun j => if j = i then c i + 1 else c j) n := fun j hj => by
  dsimp only
  by_cases e : j = i
  · subst e; rw [if_pos rfl]; exact ⟨fun _ => by omega, fun e => by omega, hb⟩
  · rw [if_neg e]; exact h j hj
theorem InvC.down {f c : Nat → Nat} {n i : Nat} (h : InvC f c n) (hi : i < n) (h2 : 2 ≤ c i) : InvC f (fun j => if j = i then c i - 1 else c j) n := fun j hj => by
  dsimp only
  have := h i hi
  by_cases e : j = i
  · subst e; rw [if_pos rfl]; exact ⟨fun _ => by omega, fun e => by have := this.2.1 e; omega, by omega⟩
  · rw [if_neg e]; exact h j hj
theorem sum_up (c : Nat → Nat) (n i : Nat) (hi : i < n) : sumN (fun j => if j = i then c i + 1 else c j) n = sumN c n + 1 := by
  have := sumN_set c (fun j => if j = i then c i + 1 else c j) n i hi (fun k _ hk => by simp [hk])
  simp only [if_true] at this
  omega
theorem sum_down (c : Nat → Nat) (n i : Nat) (hi : i < n) (h2 : 2 ≤ c i) : sumN (fun j => if j = i then c i - 1 else c j) n + 1 = sumN c n := by
  have := sumN_set c (fun j => if j = i then c i - 1 else c j) n i hi (fun k _ hk => by simp [hk])
  simp only [if_true] at this
  omega
theorem isA_up {w : World} {cb n : Nat} {c : Nat → Nat} (h : IsA w cb 184 .i16 n (fun i => ((c i : Nat) : Int))) (i : Nat) (v : Int) (x : Nat) (hv : v = (x : Int)) : IsA (w.setCell ⟨cb, i, none⟩ (.int .i16 v)) cb 184 .i16 n (fun j => (((if j = i then x else c j) : Nat) : Int)) :=
  (h.set i v).congr (fun j _ => by split <;> first | exact hv | rfl)

set_option maxRecDepth 100000 in
set_option maxHeartbeats 4000000 in
theorem settle_any (cb S : Nat) (c0 : Nat → Nat) (a : Option Addr) (cap gb off : Nat) (fs : List Int) (w : World) (hA : IsA w cb 184 .i16 fs.length (fun i => ((c0 i : Nat) : Int))) (hR : RowI w .u32 a cap gb off fs) (hgb : fs ≠ [] → gb ≠ cb) (hu : U32 fs) (hl : fs.length ≤ 256) (hI : InvC (fr fs) c0 fs.length) (hU0 : 0 < usedC (fr fs) fs.length) (hUS : usedC (fr fs) fs.length ≤ S) (hS : S ≤ 4096) :
    Calls Tryz.prog 109 #[.slice (some ⟨cb, 0, none⟩) fs.length fs.length, .slice a fs.length cap, .int .i64 (S : Int)] w fun e w' => e = .returned (.tuple #[]) ∧ ∃ c : Nat → Nat, IsA w' cb 184 .i16 fs.length (fun i => ((c i : Nat) : Int)) ∧ InvC (fr fs) c fs.length ∧ sumN c fs.length = S ∧ Keep (fun k => k = cb) w w' := by
  have HH := (show Hid (RowI w .u32 a cap gb off fs ∧ (fs ≠ [] → gb ≠ cb) ∧ U32 fs ∧ 0 < usedC (fr fs) fs.length ∧ usedC (fr fs) fs.length ≤ S ∧ fs.length ≤ 256) from ⟨hR, hgb, hu, hU0, hUS, hl⟩)
  have HA := (show Hid (IsA w cb 184 .i16 fs.length (fun i => ((c0 i : Nat) : Int)) ∧ InvC (fr fs) c0 fs.length) from ⟨hA, hI⟩)
  obtain ⟨n, hn⟩ : ∃ n, n = fs.length := ⟨_, rfl⟩
  rw [← hn] at hl HA HH ⊢
  have HN := (show Hid (n = fs.length) from hn)
  have hSI : (S : Int) ≤ 4096 := by omega
  have hnI : (n : Int) ≤ 256 := by omega
  clear hA hR hgb hu hI hU0 hUS hn
  go_enter Tryz.func109, Tryz.ntmps109
  go_wp2_with fail
  go_loop [6, 16] (fun v6 v16 => ∃ i : Nat, v16 = .int .i64 (i : Int) ∧ v6 = .int .i64 ((S : Int) - ((sumN c0 i : Nat) : Int)) ∧ i ≤ n) (fun _ v16 => n - (intOf v16).toNat)
  case atStart => exact ⟨0, rfl, by simp [sumN], Nat.zero_le _⟩
  case round =>
    obtain ⟨i, rfl, rfl, hi⟩ := hrel
    have hsb : sumN c0 i ≤ i * 4096 := sumN_le c0 i 4096 (fun j hj => (HA.out.2 j (by omega)).2.2)
    by_cases hlt : i < n
    · have c1 := HA.out.1.cell i hlt
      have hci := (HA.out.2 i hlt).2.2
      have HSU := (show Hid (sumN c0 (i + 1) = sumN c0 i + c0 i) from rfl)
      have hltI : (i : Int) < (n : Int) := by omega
      have hcI : ((c0 i : Nat) : Int) ≤ 4096 := by omega
      have hsI : ((sumN c0 i : Nat) : Int) ≤ 1048576 := by omega
      generalize c0 i = ci at *
      generalize sumN c0 i = si at *
      clear hci hsb
      go_wp2_with fail
      go_round
      case rel => exact ⟨i + 1, by go_num, by rw [HSU.out]; congr 1; omega, by omega⟩
      case measure => simp [intOf]; omega
    · obtain rfl : i = n := by omega
      have hltI : ¬ (i : Int) < (i : Int) := by omega
      go_wp2_with fail
      go_loopw [6] (fun v6 wr => ∃ (sp : Int) (c : Nat → Nat), v6 = .int .i64 sp ∧ -1048576 ≤ sp ∧ sp ≤ 4096 ∧ Hid (IsA wr cb 184 .i16 i (fun i => ((c i : Nat) : Int)) ∧ InvC (fr fs) c i ∧ ((sumN c i : Nat) : Int) + sp = (S : Int) ∧ Keep (fun k => k = cb) w wr)) (fun v6 wr => farN (fr fs) cb i v6 wr)
      case atStart => exact ⟨_, c0, rfl, by omega, by omega, HA.out.1, HA.out.2, by omega, Keep.refl _ _⟩
      case round =>
        clear HA hsb
        obtain ⟨sp, c, rfl, hsp1, hsp2, HC⟩ := hrel
        obtain ⟨hA, hI, hsum, hK⟩ := HC.out
        obtain ⟨hR, hgb, hu, hU0, hUS, hl⟩ := HH.out
        have hR2 := hR.keep hK hgb
        have hn := HN.out
        have h1 := mostGain_any cb c a cap gb off fs wr (by rw [← hn]; exact hA) hR2 hu (by omega) (fun j hj => (hI j (by omega)).2.2) (fun j hj e => by
          have h3 := hI j (by omega)
          rcases Nat.eq_zero_or_pos (fr fs j) with e2 | e2
          · exact e2
          · have := h3.1 e2; omega)
        have h2 := leastLoss_any cb c a cap gb off fs wr (by rw [← hn]; exact hA) hR2 hu (by omega) (fun j hj => (hI j (by omega)).2.2)
        rw [← hn] at h1 h2
        have H1 := (show Hid (Calls Tryz.prog 125 _ wr _) from h1)
        have H2 := (show Hid (Calls Tryz.prog 126 _ wr _) from h2)
        clear h1 h2 hR hgb hu hR2 hn hA hI hsum hK
        go_wp2_with fail
        refine H1.out.mono ?_
        rintro e w1 ⟨to_, gain, rfl, hmost, rfl⟩
        go_wp2_with fail
        refine H2.out.mono ?_
        rintro e w1 ⟨from_, loss, rfl, hleast, hlossb, rfl⟩
        clear H1 H2
        obtain ⟨hA, hI, hsum, hK⟩ := HC.out
        obtain ⟨m1, m2, m3, m4⟩ := most_there hmost hI hU0
        have hgb2 : gain < 9223372036854775808 := gain_lt _ _ gain (fr_lt HH.out.2.2.1 to_) (hI to_ m1).2.2 (fun e => by have := (hI to_ m1).1 m4; omega) m2
        have hkk : ∀ (W : World) (j : Nat) (v : Value), Keep (fun k => k = cb) w W → Keep (fun k => k = cb) w (W.setCell ⟨cb, j, none⟩ v) := fun W j v hk => Keep.setCell (S := fun k => k = cb) (p := ⟨cb, j, none⟩) hk (fun _ => rfl) _
        by_cases hp : 0 < sp
        · have hge := sumN_ge c i to_ m1
          have hup := isA_up hA to_ (((c to_ : Nat) : Int) + 1) (c to_ + 1) (by omega)
          have HG := (show Hid (IsA (w1.setCell ⟨cb, to_, none⟩ (.int .i16 (((c to_ : Nat) : Int) + 1))) cb 184 .i16 i (fun j => (((if j = to_ then c to_ + 1 else c j) : Nat) : Int)) ∧ InvC (fr fs) (fun j => if j = to_ then c to_ + 1 else c j) i ∧ ((sumN (fun j => if j = to_ then c to_ + 1 else c j) i : Nat) : Int) + (sp - 1) = (S : Int) ∧ Keep (fun k => k = cb) w (w1.setCell ⟨cb, to_, none⟩ (.int .i16 (((c to_ : Nat) : Int) + 1)))) from
            ⟨hup, hI.up m4 (by omega), by rw [sum_up c i to_ m1]; omega, hkk _ _ _ hK⟩)
          have ct := hA.cell to_ m1
          have ft := hA.frozen to_
          have hcb : ((c to_ : Nat) : Int) ≤ 4096 := by omega
          have htI : (to_ : Int) < (i : Int) := by omega
          clear hA hI hsum hK m2 m3 m4 hmost hleast hkk hup HC hge
          generalize c to_ = x at *
          go_wp2_with fail
          go_roundw
          case rel => exact ⟨sp - 1, _, rfl, by omega, by omega, HG⟩
          case measure => exact far_less (by omega)
        · by_cases hq : sp < 0
          · obtain ⟨l1, l2, l3⟩ : from_ < i ∧ loss = fr fs from_ * savedN (c from_ - 1) ∧ 2 ≤ c from_ := by
              rcases hleast with ⟨_, _, h3⟩ | h
              · obtain ⟨j, hj, h4⟩ := some_two (fr fs) c i S hI hUS (by omega)
                have := h3 j hj; omega
              · exact h
            have hdn := isA_up hA from_ (((c from_ : Nat) : Int) - 1) (c from_ - 1) (by omega)
            have hsd := sum_down c i from_ l1 l3
            have HG := (show Hid (IsA (w1.setCell ⟨cb, from_, none⟩ (.int .i16 (((c from_ : Nat) : Int) - 1))) cb 184 .i16 i (fun j => (((if j = from_ then c from_ - 1 else c j) : Nat) : Int)) ∧ InvC (fr fs) (fun j => if j = from_ then c from_ - 1 else c j) i ∧ ((sumN (fun j => if j = from_ then c from_ - 1 else c j) i : Nat) : Int) + (sp + 1) = (S : Int) ∧ Keep (fun k => k = cb) w (w1.setCell ⟨cb, from_, none⟩ (.int .i16 (((c from_ : Nat) : Int) - 1)))) from
              ⟨hdn, hI.down l1 l3, by omega, hkk _ _ _ hK⟩)
            have ct := hA.cell from_ l1
            have ft := hA.frozen from_
            have hcb : ((c from_ : Nat) : Int) ≤ 4096 := by have := (hI from_ l1).2.2; omega
            have hcl : (2 : Int) ≤ ((c from_ : Nat) : Int) := by omega
            have htI : (from_ : Int) < (i : Int) := by omega
            clear hA hI hsum hK m2 m3 m4 hmost hleast hkk hdn HC hsd l2 l3
            generalize c from_ = x at *
            go_wp2_with fail
            go_roundw
            case rel => exact ⟨sp + 1, _, rfl, by omega, by omega, HG⟩
            case measure => exact far_less (by omega)
          · obtain rfl : sp = 0 := by omega
            have hgI : (gain : Int) < 9223372036854775808 := by omega
            have hlI : (loss : Int) ≤ 18446744073709551615 := by omega
            by_cases hgl : loss < gain
            · obtain ⟨l1, l2, l3⟩ : from_ < i ∧ loss = fr fs from_ * savedN (c from_ - 1) ∧ 2 ≤ c from_ := by
                rcases hleast with ⟨h1, _, _⟩ | h
                · omega
                · exact h
              have hne : to_ ≠ from_ := by
                rintro rfl
                have h5 := (saved_facts (c to_ - 1) (by omega) (by have := (hI to_ m1).2.2; omega)).2.2
                rw [show c to_ - 1 + 1 = c to_ from by omega] at h5
                have : fr fs to_ * savedN (c to_) ≤ fr fs to_ * savedN (c to_ - 1) := Nat.mul_le_mul_left _ h5
                omega
              have htwo := sumN_two c i to_ from_ m1 l1 hne
              have hup := isA_up hA to_ (((c to_ : Nat) : Int) + 1) (c to_ + 1) (by omega)
              have hI2 := hI.up (i := to_) m4 (by omega)
              have hdn := isA_up hup from_ (((c from_ : Nat) : Int) - 1) (c from_ - 1) (by omega)
              have l3' : 2 ≤ (fun j => if j = to_ then c to_ + 1 else c j) from_ := by dsimp only; rw [if_neg (fun h => hne h.symm)]; exact l3
              have hI3 := hI2.down l1 l3'
              have hs1 := sum_up c i to_ m1
              have hs2 := sum_down (fun j => if j = to_ then c to_ + 1 else c j) i from_ l1 l3'
              have efr : (if from_ = to_ then c to_ + 1 else c from_) = c from_ := if_neg (fun h => hne h.symm)
              simp only [efr] at hI3 hs2
              have hpm := pot_move (fr fs) c i to_ from_ m1 l1 hne l3 (by rw [← l2, ← m2]; exact hgl)
              have hpb := pot_le (fr fs) (fun k => if k = from_ then c from_ - 1 else if k = to_ then c to_ + 1 else c k) i (by omega) (fr_lt HH.out.2.2.1) (fun j hj => (hI3 j hj).2.2)
              have HG := (show Hid (IsA ((w1.setCell ⟨cb, to_, none⟩ (.int .i16 (((c to_ : Nat) : Int) + 1))).setCell ⟨cb, from_, none⟩ (.int .i16 (((c from_ : Nat) : Int) - 1))) cb 184 .i16 i (fun j => (((if j = from_ then c from_ - 1 else if j = to_ then c to_ + 1 else c j) : Nat) : Int)) ∧ InvC (fr fs) (fun j => if j = from_ then c from_ - 1 else if j = to_ then c to_ + 1 else c j) i ∧ ((sumN (fun j => if j = from_ then c from_ - 1 else if j = to_ then c to_ + 1 else c j) i : Nat) : Int) + 0 = (S : Int) ∧ Keep (fun k => k = cb) w ((w1.setCell ⟨cb, to_, none⟩ (.int .i16 (((c to_ : Nat) : Int) + 1))).setCell ⟨cb, from_, none⟩ (.int .i16 (((c from_ : Nat) : Int) - 1)))) from
                ⟨hdn, hI3, by omega, hkk _ _ _ (hkk _ _ _ hK)⟩)
              have HPT := (show Hid (IsA w1 cb 184 .i16 i (fun i => ((c i : Nat) : Int)) ∧ potF (fr fs) c i < potF (fr fs) (fun k => if k = from_ then c from_ - 1 else if k = to_ then c to_ + 1 else c k) i ∧ potF (fr fs) (fun k => if k = from_ then c from_ - 1 else if k = to_ then c to_ + 1 else c k) i ≤ potMax) from ⟨hA, hpm, hpb⟩)
              have ct := hA.cell to_ m1
              have ft := hA.frozen to_
              have cf := hA.cell from_ l1
              have ff := hA.frozen from_
              have hct : ((c to_ : Nat) : Int) ≤ 4096 := by have := (hI to_ m1).2.2; omega
              have hcf : ((c from_ : Nat) : Int) ≤ 4096 := by have := (hI from_ l1).2.2; omega
              have hcl : (2 : Int) ≤ ((c from_ : Nat) : Int) := by omega
              have htI : (to_ : Int) < (i : Int) := by omega
              have hfI : (from_ : Int) < (i : Int) := by omega
              have hne2 : from_ ≠ to_ := fun h => hne h.symm
              have hglI : (loss : Int) < (gain : Int) := by omega
              have hp0 : ¬ (0 : Int) < 0 := by omega
              clear hA hI hsum hK m2 m3 m4 hmost hleast hkk hup hdn hI2 hI3 hs1 hs2 efr hpm hpb HC l2 l3 l3' htwo hp hq
              go_wp2_with fail
              go_roundw
              case rel => exact ⟨0, _, rfl, by omega, by omega, HG⟩
              case measure => exact far_same HPT.out.1 HG.out.1 HPT.out.2.1 HPT.out.2.2
            · have hglI : ¬ (loss : Int) < (gain : Int) := by omega
              have hp0 : ¬ (0 : Int) < 0 := by omega
              clear hp hq hA hI hsum hK m2 m3 m4 hmost hleast hkk
              go_wp2_with fail
              refine bodyPost_ret (results_none rfl _ _ _) rfl ?_
              obtain ⟨hA, hI, hsum, hK⟩ := HC.out
              exact ⟨rfl, c, hA, hI, by omega, hK⟩

end Go.Proofs.YtcoahkmiebeeeaaGreatDoor

namespace Go.Proofs.YtcoahkmiebeeeaaGreatDoor
open Go.RowKit Go.Shelf

theorem usedN_le (f : Nat → Nat) (n : Nat) : usedC f n ≤ n := by
  have := sumN_le (fun i => if 0 < f i then 1 else 0) n 1 (fun i _ => by split <;> omega)
  unfold usedC; omega

set_option maxRecDepth 100000 in
set_option maxHeartbeats 1000000 in
theorem sumOf_any (a : Option Addr) (cap gb off : Nat) (fs : List Int) (w : World) (hR : RowI w .u32 a cap gb off fs) (hu : U32 fs) (hl : fs.length ≤ 256) :
    Calls Tryz.prog 107 #[.slice a fs.length cap] w fun e w' => e = .returned (.tuple #[.int .u64 ((sumN (fr fs) fs.length : Nat) : Int), .int .i64 ((usedC (fr fs) fs.length : Nat) : Int)]) ∧ w' = w := by
  have HH := (show Hid (RowI w .u32 a cap gb off fs ∧ U32 fs) from ⟨hR, hu⟩)
  obtain ⟨n, hn⟩ : ∃ n, n = fs.length := ⟨_, rfl⟩
  rw [← hn] at hl ⊢
  have HN := (show Hid (n = fs.length) from hn)
  have hnI : (n : Int) ≤ 256 := by omega
  clear hR hu hn
  go_enter Tryz.func107, Tryz.ntmps107
  go_wp2
  go_loop [2, 3, 8] (fun v2 v3 v8 => ∃ i : Nat, v8 = .int .i64 (i : Int) ∧ v2 = .int .u64 ((sumN (fr fs) i : Nat) : Int) ∧ v3 = .int .i64 ((usedC (fr fs) i : Nat) : Int) ∧ i ≤ n) (fun _ _ v8 => n - (intOf v8).toNat)
  case atStart => exact ⟨0, rfl, rfl, rfl, Nat.zero_le _⟩
  case round =>
    obtain ⟨i, rfl, rfl, rfl, hi⟩ := hrel
    have hsb : sumN (fr fs) i ≤ i * 4294967296 := sumN_le _ i _ (fun j _ => by have := fr_lt HH.out.2 j; omega)
    have hub := usedN_le (fr fs) i
    have hsI : ((sumN (fr fs) i : Nat) : Int) ≤ 1099511627776 := by omega
    have huI : ((usedC (fr fs) i : Nat) : Int) ≤ 256 := by omega
    by_cases hlt : i < n
    · have hix : i < fs.length := by have := HN.out; omega
      obtain rfl := HH.out.1.here hix
      have c0 := HH.out.1.fr HH.out.2 i hix
      have hfi := fr_lt HH.out.2 i
      have hltI : (i : Int) < (n : Int) := by omega
      have hfI : ((fr fs i : Nat) : Int) < 4294967296 := by omega
      have HS := (show Hid (sumN (fr fs) (i + 1) = sumN (fr fs) i + fr fs i ∧ usedC (fr fs) (i + 1) = usedC (fr fs) i + (if 0 < fr fs i then 1 else 0)) from ⟨rfl, rfl⟩)
      clear hsb hub
      generalize fr fs i = x at *
      generalize sumN (fr fs) i = si at *
      generalize usedC (fr fs) i = ui at *
      by_cases h0 : 0 < x
      · have h0I : 0 < (x : Int) := by omega
        go_wp2_with fail
        go_round
        case rel => exact ⟨i + 1, by go_num, by rw [HS.out.1]; go_num, by rw [HS.out.2, if_pos h0]; go_num, by omega⟩
        case measure => simp [intOf]; omega
      · have h0I : ¬ 0 < (x : Int) := by omega
        go_wp2_with fail
        go_round
        case rel => exact ⟨i + 1, by go_num, by rw [HS.out.1]; go_num, by rw [HS.out.2, if_neg h0]; go_num, by omega⟩
        case measure => simp [intOf]; omega
    · obtain rfl : i = n := by omega
      have hltI : ¬ (i : Int) < (i : Int) := by omega
      go_wp2
      go_ret2
      exact ⟨rfl, rfl⟩

def ableF (fs : List Int) (log : Int) : Bool := decide (fs.length ≤ 256 ∧ 5 ≤ log ∧ log ≤ 12 ∧ 1 ≤ usedC (fr fs) fs.length ∧ usedC (fr fs) fs.length ≤ 2 ^ log.toNat)

end Go.Proofs.YtcoahkmiebeeeaaGreatDoor

namespace Go.Proofs.YtcoahkmiebeeeaaGreatDoor
open Go.RowKit Go.Shelf

def partF (f : Nat → Nat) (T l i : Nat) : Nat := if 0 < f i then max (f i * 2 ^ l / T) 1 else 0
theorem part_le (f : Nat → Nat) (T l i : Nat) (hl : l ≤ 12) (hf : f i ≤ T) (_hT : 0 < T) : partF f T l i ≤ 4096 ∧ f i * 2 ^ l / T ≤ 4096 := by
  have h1 : f i * 2 ^ l / T ≤ 4096 := by
    have h2 : f i * 2 ^ l ≤ T * 4096 := Nat.mul_le_mul hf (Nat.pow_le_pow_right (n := 2) (j := 12) (by omega) hl)
    exact Nat.div_le_of_le_mul h2
  unfold partF
  refine ⟨?_, h1⟩
  split <;> omega
theorem part_inv (f : Nat → Nat) (T l n : Nat) (hl : l ≤ 12) (hf : ∀ i, i < n → f i ≤ T) (hT : 0 < T) : InvC f (partF f T l) n := fun i hi => by
  refine ⟨fun h => ?_, fun h => ?_, (part_le f T l i hl (hf i hi) hT).1⟩
  · unfold partF; rw [if_pos h]; omega
  · unfold partF; rw [if_neg (by omega)]
theorem run_make22 (n : Nat) (h : n ≤ 256) (w : World) : (Instr.makeSlice 114 (.int .i64 (n : Int)) (.int .i64 (n : Int))).run Tryz.prog w = .ok (.slice (some ⟨w.heap.size, 0, none⟩) n n) (w.alloc (.cells (madeCells #[.int .i16 0] n) 184)) :=
  run_make_row' 114 184 (.int .i16 0) 2 Tryz.underlying114 info42 rfl .i64 .i64 n (by omega) (by omega) w
theorem isA_new42 (w : World) (n : Nat) : IsA (w.alloc (.cells (madeCells #[.int .i16 0] n) 184)) w.heap.size 184 .i16 n (fun _ => 0) :=
  ⟨_, World.alloc_heap_new w _, size_madeCells _ _, fun i hi => by simp [madeCells, hi, Nat.mod_one]⟩

section
attribute [local go_sem] maxSem_eq
set_option maxRecDepth 100000 in
set_option maxHeartbeats 2000000 in
theorem wholeParts_any (a : Option Addr) (cap gb off : Nat) (fs : List Int) (l T : Nat) (w : World) (hR : RowI w .u32 a cap gb off fs) (hu : U32 fs) (hl : fs.length ≤ 256) (hl12 : l ≤ 12) (hT : T = sumN (fr fs) fs.length) (hT0 : 0 < T) :
    Calls Tryz.prog 108 #[.slice a fs.length cap, .int .u64 (T : Int), .int .i64 (l : Int)] w fun e w' => e = .returned (.slice (some ⟨w.heap.size, 0, none⟩) fs.length fs.length) ∧ IsA w' w.heap.size 184 .i16 fs.length (fun i => ((partF (fr fs) T l i : Nat) : Int)) ∧ Keep noBlock w w' := by
  have hTb : T ≤ 256 * 4294967296 := by
    rw [hT]
    exact Nat.le_trans (sumN_le _ _ 4294967296 (fun j _ => by have := fr_lt hu j; omega)) (Nat.mul_le_mul_right _ hl)
  have HH := (show Hid (RowI w .u32 a cap gb off fs ∧ U32 fs ∧ ∀ i, i < fs.length → fr fs i ≤ T) from ⟨hR, hu, fun i hi => by rw [hT]; exact sumN_ge _ _ i hi⟩)
  obtain ⟨n, hn⟩ : ∃ n, n = fs.length := ⟨_, rfl⟩
  rw [← hn] at hl ⊢
  have HN := (show Hid (n = fs.length) from hn)
  have hnI : (n : Int) ≤ 256 := by omega
  have hlI : (l : Int) ≤ 12 := by omega
  have hTI : (T : Int) ≤ 1099511627776 := by omega
  have hT0I : 0 < (T : Int) := by omega
  have hTnb : ((T : Int) == 0) = false := by rw [beq_eq_false_iff_ne]; omega
  have hmk := fun W => run_make22 n hl W
  clear hR hu hn hT
  go_enter Tryz.func108, Tryz.ntmps108
  go_wp2_with fail
  have hA0 := isA_new42 w n
  have hK0 : Keep noBlock w (w.alloc (.cells (madeCells #[.int .i16 0] n) 184)) := (Keep.refl _ w).alloc _
  generalize w.alloc (.cells (madeCells #[.int .i16 0] n) 184) = W1 at hA0 hK0 ⊢
  obtain ⟨cb, hcb⟩ : ∃ cb, cb = w.heap.size := ⟨_, rfl⟩
  rw [← hcb] at hA0 ⊢
  have HCB := (show Hid (cb = w.heap.size) from hcb)
  have HA0 := (show Hid (IsA W1 cb 184 .i16 n (fun _ => 0) ∧ Keep noBlock w W1) from ⟨hA0, hK0⟩)
  clear hcb hA0 hK0 hmk
  go_loopw [15] (fun v15 wr => ∃ i : Nat, v15 = .int .i64 (i : Int) ∧ i ≤ n ∧ Hid (IsA wr cb 184 .i16 n (fun j => (((if j < i then partF (fr fs) T l j else 0) : Nat) : Int)) ∧ Keep noBlock w wr)) (fun v15 _ => n - (intOf v15).toNat)
  case atStart => exact ⟨0, rfl, Nat.zero_le _, HA0.out.1.congr (fun j _ => by simp), HA0.out.2⟩
  case round =>
    clear HA0
    obtain ⟨i, rfl, hi, HC⟩ := hrel
    by_cases hlt : i < n
    · have hix : i < fs.length := by have := HN.out; omega
      obtain ⟨hR, hu, hfT⟩ := HH.out
      have hR2 := hR.keep HC.out.2 (fun _ h => h)
      obtain rfl := hR2.here hix
      have c0 := hR2.fr hu i hix
      have hfi := fr_lt hu i
      have hfTi := hfT i hix
      have hpl := part_le (fr fs) T l i hl12 hfTi hT0
      have hltI : (i : Int) < (n : Int) := by omega
      have hfI : ((fr fs i : Nat) : Int) < 4294967296 := by omega
      have hAc : ∀ (W : World) (v : Int), v = ((partF (fr fs) T l i : Nat) : Int) → IsA (wr.setCell ⟨cb, i, none⟩ (.int .i16 v)) cb 184 .i16 n (fun j => (((if j < i + 1 then partF (fr fs) T l j else 0) : Nat) : Int)) := fun W v hv => by
        refine (HC.out.1.set i v).congr (fun j _ => ?_)
        by_cases e : j = i
        · subst e; rw [if_pos rfl, if_pos (by omega)]; exact hv
        · rw [if_neg e]
          by_cases hj : j < i
          · rw [if_pos hj, if_pos (by omega)]
          · rw [if_neg hj, if_neg (by omega)]
      by_cases h0 : 0 < fr fs i
      · have h0I : 0 < ((fr fs i : Nat) : Int) := by omega
        obtain ⟨y, hy⟩ : ∃ y, y = fr fs i * 2 ^ l := ⟨_, rfl⟩
        obtain ⟨q, hq⟩ : ∃ q, q = y / T := ⟨_, rfl⟩
        obtain ⟨m, hm⟩ : ∃ m, m = max q 1 := ⟨_, rfl⟩
        have hyb : y ≤ 4294967296 * 4096 := by rw [hy]; exact Nat.mul_le_mul (by omega) (Nat.pow_le_pow_right (n := 2) (j := 12) (by omega) hl12)
        have hyI : ((fr fs i : Nat) : Int) * 2 ^ l = (y : Int) := by rw [hy]; simp
        have hqI : (y : Int) / (T : Int) = (q : Int) := by rw [hq]; simp
        have hq2 : q ≤ 4096 := by rw [hq, hy]; exact hpl.2
        have hmx := fun W => maxSem_run .u64 #[54, 54] 54 (q : Int) 1 (m : Int) (by omega) W
        have hpm : partF (fr fs) T l i = m := by unfold partF; rw [if_pos h0, hm, hq, hy]
        have hyB : (y : Int) ≤ 17592186044416 := by omega
        have hqB : (q : Int) ≤ 4096 := by omega
        have hmB : (m : Int) ≤ 4096 := by omega
        have ci := HC.out.1.cell i hlt
        have fi := HC.out.1.frozen i
        have HG := (show Hid (IsA (wr.setCell ⟨cb, i, none⟩ (.int .i16 (m : Int))) cb 184 .i16 n (fun j => (((if j < i + 1 then partF (fr fs) T l j else 0) : Nat) : Int)) ∧ Keep noBlock w (wr.setCell ⟨cb, i, none⟩ (.int .i16 (m : Int)))) from
          ⟨hAc wr _ (by rw [hpm]), HC.out.2.trans (Keep.setCell (S := fun k => k = cb) (p := ⟨cb, i, none⟩) (Keep.refl _ wr) (fun _ => rfl) _) (fun j hj e => by have := HCB.out; omega)⟩)
        clear hR hu hfT hR2 hfi hfTi hpl hAc hy hq hm hyb hq2 hpm HC
        generalize fr fs i = x at *
        go_wp2_with fail
        go_roundw
        case rel => exact ⟨i + 1, by go_num, by omega, HG⟩
        case measure => simp [intOf]; omega
      · have h0I : ¬ 0 < ((fr fs i : Nat) : Int) := by omega
        have HG := (show Hid (IsA wr cb 184 .i16 n (fun j => (((if j < i + 1 then partF (fr fs) T l j else 0) : Nat) : Int)) ∧ Keep noBlock w wr) from by
          refine ⟨HC.out.1.congr (fun j _ => ?_), HC.out.2⟩
          by_cases e : j = i
          · subst e
            rw [if_neg (by omega), if_pos (by omega)]
            have : partF (fr fs) T l j = 0 := by unfold partF; rw [if_neg h0]
            rw [this]
          · by_cases hj : j < i
            · rw [if_pos hj, if_pos (by omega)]
            · rw [if_neg hj, if_neg (by omega)])
        clear hR hu hfT hR2 hfi hfTi hpl hAc HC
        generalize fr fs i = x at *
        go_wp2_with fail
        go_roundw
        case rel => exact ⟨i + 1, by go_num, by omega, HG⟩
        case measure => simp [intOf]; omega
    · obtain rfl : i = n := by omega
      have hltI : ¬ (i : Int) < (i : Int) := by omega
      go_wp2
      go_ret
      rw [← HCB.out]
      exact ⟨rfl, HC.out.1.congr (fun j hj => by rw [if_pos hj]), HC.out.2⟩
end

def markF (f c : Nat → Nat) (T l i : Nat) : Int := if c i = 1 ∧ f i * 2 ^ l < T then -1 else ((c i : Nat) : Int)

set_option maxRecDepth 100000 in
set_option maxHeartbeats 2000000 in
theorem markRare_any (cb : Nat) (c : Nat → Nat) (a : Option Addr) (cap gb off : Nat) (fs : List Int) (l T : Nat) (w : World) (hA : IsA w cb 184 .i16 fs.length (fun i => ((c i : Nat) : Int))) (hR : RowI w .u32 a cap gb off fs) (hgb : fs ≠ [] → gb ≠ cb) (hu : U32 fs) (hl : fs.length ≤ 256) (hl12 : l ≤ 12) (hTb : T ≤ 1099511627776) (hc : ∀ i, i < fs.length → c i ≤ 4096) :
    Calls Tryz.prog 110 #[.slice (some ⟨cb, 0, none⟩) fs.length fs.length, .slice a fs.length cap, .int .u64 (T : Int), .int .i64 (l : Int)] w fun e w' => e = .returned (.tuple #[]) ∧ IsA w' cb 184 .i16 fs.length (markF (fr fs) c T l) ∧ Keep (fun k => k = cb) w w' := by
  have HH := (show Hid (RowI w .u32 a cap gb off fs ∧ (fs ≠ [] → gb ≠ cb) ∧ U32 fs ∧ ∀ i, i < fs.length → c i ≤ 4096) from ⟨hR, hgb, hu, hc⟩)
  have HA0 := (show Hid (IsA w cb 184 .i16 fs.length (fun i => ((c i : Nat) : Int))) from hA)
  obtain ⟨n, hn⟩ : ∃ n, n = fs.length := ⟨_, rfl⟩
  rw [← hn] at hl HA0 ⊢
  have HN := (show Hid (n = fs.length) from hn)
  have hnI : (n : Int) ≤ 256 := by omega
  have hlI : (l : Int) ≤ 12 := by omega
  have hTI : (T : Int) ≤ 1099511627776 := by omega
  clear hR hu hn hA hgb hc
  go_enter Tryz.func110, Tryz.ntmps110
  go_wp2_with fail
  go_loopw [12] (fun v12 wr => ∃ i : Nat, v12 = .int .i64 (i : Int) ∧ i ≤ n ∧ Hid (IsA wr cb 184 .i16 n (fun j => if j < i then markF (fr fs) c T l j else ((c j : Nat) : Int)) ∧ Keep (fun k => k = cb) w wr)) (fun v12 _ => n - (intOf v12).toNat)
  case atStart => exact ⟨0, rfl, Nat.zero_le _, HA0.out.congr (fun j _ => by simp), Keep.refl _ _⟩
  case round =>
    clear HA0
    obtain ⟨i, rfl, hi, HC⟩ := hrel
    by_cases hlt : i < n
    · have hix : i < fs.length := by have := HN.out; omega
      obtain ⟨hR, hgb, hu, hc⟩ := HH.out
      have hR2 := hR.keep HC.out.2 hgb
      obtain rfl := hR2.here hix
      have c0 := hR2.fr hu i hix
      have hfi := fr_lt hu i
      have hltI : (i : Int) < (n : Int) := by omega
      have hfI : ((fr fs i : Nat) : Int) < 4294967296 := by omega
      have ci := HC.out.1.cell i hlt
      rw [if_neg (by omega)] at ci
      have fi := HC.out.1.frozen i
      have hci := hc i hix
      have hcI : ((c i : Nat) : Int) ≤ 4096 := by omega
      obtain ⟨y, hy⟩ : ∃ y, y = fr fs i * 2 ^ l := ⟨_, rfl⟩
      have hyb : y ≤ 4294967296 * 4096 := by rw [hy]; exact Nat.mul_le_mul (by omega) (Nat.pow_le_pow_right (n := 2) (j := 12) (by omega) hl12)
      have hyI : ((fr fs i : Nat) : Int) * 2 ^ l = (y : Int) := by rw [hy]; simp
      have hyB : (y : Int) ≤ 17592186044416 := by omega
      by_cases hm : c i = 1 ∧ y < T
      · have hmk : markF (fr fs) c T l i = -1 := by unfold markF; rw [← hy, if_pos hm]
        have h1b : (((c i : Nat) : Int) == 1) = true := by rw [hm.1]; rfl
        have h2I : (y : Int) < (T : Int) := by omega
        have HG := (show Hid (IsA (wr.setCell ⟨cb, i, none⟩ (.int .i16 (-1))) cb 184 .i16 n (fun j => if j < i + 1 then markF (fr fs) c T l j else ((c j : Nat) : Int)) ∧ Keep (fun k => k = cb) w (wr.setCell ⟨cb, i, none⟩ (.int .i16 (-1)))) from by
          refine ⟨(HC.out.1.set i (-1)).congr (fun j _ => ?_), Keep.setCell (S := fun k => k = cb) (p := ⟨cb, i, none⟩) HC.out.2 (fun _ => rfl) _⟩
          by_cases e : j = i
          · subst e; rw [if_pos rfl, if_pos (by omega), hmk]
          · rw [if_neg e]
            by_cases hj : j < i
            · rw [if_pos hj, if_pos (by omega)]
            · rw [if_neg hj, if_neg (by omega)])
        clear hR hgb hu hc hR2 hfi hci hy hyb hm hmk HC
        generalize fr fs i = x at *
        generalize c i = cc at *
        go_wp2_with fail
        go_roundw
        case rel => exact ⟨i + 1, by go_num, by omega, HG⟩
        case measure => simp [intOf]; omega
      · have hmk : markF (fr fs) c T l i = ((c i : Nat) : Int) := by unfold markF; rw [← hy, if_neg hm]
        have HG := (show Hid (IsA wr cb 184 .i16 n (fun j => if j < i + 1 then markF (fr fs) c T l j else ((c j : Nat) : Int)) ∧ Keep (fun k => k = cb) w wr) from by
          refine ⟨HC.out.1.congr (fun j _ => ?_), HC.out.2⟩
          by_cases e : j = i
          · subst e; rw [if_neg (by omega), if_pos (by omega), hmk]
          · by_cases hj : j < i
            · rw [if_pos hj, if_pos (by omega)]
            · rw [if_neg hj, if_neg (by omega)])
        by_cases h1 : c i = 1
        · have h1b : (((c i : Nat) : Int) == 1) = true := by rw [h1]; rfl
          have h2I : ¬ (y : Int) < (T : Int) := by have : ¬ y < T := fun h => hm ⟨h1, h⟩; omega
          clear hR hgb hu hc hR2 hfi hci hy hyb hm hmk HC h1
          generalize fr fs i = x at *
          generalize c i = cc at *
          go_wp2_with fail
          go_roundw
          case rel => exact ⟨i + 1, by go_num, by omega, HG⟩
          case measure => simp [intOf]; omega
        · have h1b : (((c i : Nat) : Int) == 1) = false := by rw [beq_eq_false_iff_ne]; omega
          clear hR hgb hu hc hR2 hfi hci hy hyb hm hmk HC h1
          generalize fr fs i = x at *
          generalize c i = cc at *
          go_wp2_with fail
          go_roundw
          case rel => exact ⟨i + 1, by go_num, by omega, HG⟩
          case measure => simp [intOf]; omega
    · obtain rfl : i = n := by omega
      have hltI : ¬ (i : Int) < (i : Int) := by omega
      go_wp2
      go_end0
      exact ⟨rfl, HC.out.1.congr (fun j hj => by rw [if_pos hj]), HC.out.2⟩

end Go.Proofs.YtcoahkmiebeeeaaGreatDoor
