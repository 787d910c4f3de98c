/-
  RangesReads answers true.
-/
import Derived.Test.YtfhgbggcpoingaaRdsG
namespace Go.Proofs.Ytfhgbggcpoingaa
open Go.RowKit Go.Shelf
set_option linter.unusedVariables false

/-- A copy of the bytes, in new memory. -/
theorem mine_new (w : World) (a : Option Addr) (cap gb off : Nat) (bs : List Nat) (hB : Bytes w a cap gb off bs) (hl : bs.length ≤ 16384) :
    ∃ va vc vg w1, (Builtin.append_ #[22, 22] 22 #[.slice (some ⟨w.heap.size, 0, none⟩) 0 0, .slice a bs.length cap]).run Try.prog (w.alloc (.cells #[] 5)) = .ok (.slice va bs.length vc) w1 ∧ Bytes w1 va vc vg 0 bs ∧ Keep noBlock w w1 ∧ (0 < bs.length → va = some ⟨vg, 0, none⟩ ∧ w.heap.size ≤ vg ∧ vg < w1.heap.size ∧ Own8 w1 vg bs.length) := by
  have hown := World.ownsRow_made (e := 5) (size := 1) (base := 0) w #[] 0 (Nat.zero_le _) (Nat.zero_le _) rfl
  have ka := (Keep.refl noBlock w).alloc (.cells #[] 5)
  have hB1 := hB.keep ka (fun _ h => h)
  obtain ⟨v', w', hr, ho, hk, hn⟩ := run_append_all (w.alloc (.cells #[] 5)) 22 (.slice (some ⟨w.heap.size, 0, none⟩) 0 0) [] bs hown (by simp; omega) _ hB1.src
  rw [List.nil_append] at ho
  obtain ⟨va, vc, vg, rfl, hBv, hx⟩ := bytes_own ho hB.lt hB.len
  have hK : Keep noBlock w w' := ka.trans hk (fun i hi e => by
    have : w.heap.size = i := by simpa [Value.ownBlock] using e
    omega)
  refine ⟨va, vc, vg, w', hr, hBv, hK, fun hpos => ?_⟩
  rcases hx with ⟨_, e⟩ | ⟨rfl, cur, h1, h2, h3, h4⟩
  · rw [e] at hpos; simp at hpos
  · refine ⟨rfl, ?_, obj_lt h1, ⟨⟨cur, h1, fun j hj => ⟨bs[j]?.getD 0, hB.lt j, ?_⟩⟩⟩⟩
    · rcases hn with q | ⟨k, q, hk2⟩
      · have : vg = w.heap.size := by simpa [Value.ownBlock] using q
        omega
      · have : vg = k := by simpa [Value.ownBlock] using q
        have := ka.size
        omega
    · have := u8s_at bs j hj
      rw [← h3, List.getElem?_take, if_pos hj] at this
      simpa using this

/-- On the way: a copy that is turned, both decoders. -/
def Turng (w wr : World) (vg n db rb qb r2 : Nat) (d : Dec) : Prop := Own8 wr vg n ∧ IsD wr db rb d ∧ IsQ wr qb r2 d ∧ Keep noBlock w wr
theorem Turng.step {w wr : World} {vg n db rb qb r2 : Nat} {d : Dec} (h : Turng w wr vg n db rb qb r2 d) (hv : w.heap.size ≤ vg) (hr : vg ≠ rb) (h2 : vg ≠ r2) (j : Nat) (hj : j < n) :
    ∃ y z : Nat, wr.cell? ⟨vg, j, none⟩ = some (.int .u8 (y : Int)) ∧ wr.frozen? ⟨vg, j, none⟩ = false ∧ bits .xor .u8 (if IntKind.u8.signed = true then -1 else IntKind.u8.max) (y : Int) = (z : Int) ∧ Turng w (wr.setCell ⟨vg, j, none⟩ (.int .u8 (z : Int))) vg n db rb qb r2 d ∧ y < 256 := by
  obtain ⟨t1, t2, t3, t4⟩ := h
  obtain ⟨_, ho, _⟩ := t1.obj
  obtain ⟨_, _, _, hd, _⟩ := t2.obj
  obtain ⟨_, _, _, hq, _⟩ := t3.obj
  have d1 := ne_of_type ho hd (by decide)
  have d2 := ne_of_type ho hq (by decide)
  obtain ⟨y, z, c1, c2, c3, c4, c5⟩ := t1.step j hj
  have hk := (Keep.refl (fun k => k = vg) wr).setCell (p := ⟨vg, j, none⟩) (fun _ => rfl) (.int .u8 (z : Int))
  exact ⟨y, z, c1, c2, c3, ⟨c4, t2.keep hk (fun e => d1 e.symm) (fun e => hr e.symm), t3.keep hk (fun e => d2 e.symm) (fun e => h2 e.symm), t4.trans hk (fun i hi e => by omega)⟩, c5⟩

section
set_option maxRecDepth 100000 in
set_option maxHeartbeats 8000000 in
theorem reads_any (a0 : Option Addr) (cap0 gb0 off0 : Nat) (bs : List Nat) (a1 : Option Addr) (cap1 gb1 off1 : Nat) (ls : List Nat) (a2 : Option Addr) (cap2 gb2 off2 : Nat) (ts : List ActD) (w : World) (hB : Bytes w a0 cap0 gb0 off0 bs) (hR : Row16 w a1 cap1 gb1 off1 ls) (hA : Acts w a2 cap2 gb2 off2 ts) :
    Calls Try.prog 3 #[.slice a0 bs.length cap0, .slice a1 ls.length cap1, .slice a2 ts.length cap2] w fun e w' => e = .returned (.bool true) ∧ Keep noBlock w w' := by
  have hcap2 := hA.cap
  have hlen0 := hB.len
  have hlen1 := hR.len
  by_cases hbig : 16384 < bs.length ∨ 200 < ls.length ∨ 2000 < ts.length
  · have h0 : (16384 : Int) < (bs.length : Int) ∨ ¬ (16384 : Int) < (bs.length : Int) ∧ (200 : Int) < (ls.length : Int) ∨ ¬ (16384 : Int) < (bs.length : Int) ∧ ¬ (200 : Int) < (ls.length : Int) ∧ (2000 : Int) < (ts.length : Int) := by omega
    generalize bs.length = n0 at *
    generalize ls.length = n1 at *
    generalize ts.length = n2 at *
    clear hR hA hB hbig
    rcases h0 with h | ⟨h, h'⟩ | ⟨h, h', h''⟩
    all_goals
      go_enter Try.func3, Try.ntmps3
      go_wp2_with (go_at_call 8; refine (wakes_any _).mono ?_; rintro e w7 ⟨rfl, hK7⟩)
      go_ret
      exact ⟨rfl, hK7⟩
  have hI0 : ¬ (16384 : Int) < (bs.length : Int) := by omega
  have hI1 : ¬ (200 : Int) < (ls.length : Int) := by omega
  have hI2 : ¬ (2000 : Int) < (ts.length : Int) := by omega
  obtain ⟨va, vc, vg, w1, hrun, hBm, hKm, hpos⟩ := mine_new w a0 cap0 gb0 off0 bs hB (by omega)
  have hB1 := hB.keep hKm (fun _ h => h)
  by_cases hsh : bs.length < 5
  · have H1 := hid (newD_short va vc vg 0 bs w1 hBm hsh)
    have H2 := hid (newQ_short a0 cap0 gb0 off0 bs w1 hB1 hsh)
    have HK := hid hKm
    generalize bs.length = n0 at *
    generalize ls.length = n1 at *
    generalize ts.length = n2 at *
    clear hR hA hB hB1 hBm hKm hpos hbig hsh
    go_enter Try.func3, Try.ntmps3
    go_wp2_with (first | (at_builtin; refine wpList_append_run _ rfl _ _ 22 rfl _ _ _ _ rfl rfl hrun ?_) | (go_at_call 9; refine H1.out.mono ?_; rintro e w' ⟨rfl, hw⟩; obtain rfl := hw.symm) | (go_at_call 10; refine H2.out.mono ?_; rintro e w' ⟨rfl, hw⟩; obtain rfl := hw.symm) | (go_at_call 8; refine (wakes_any _).mono ?_; rintro e w7 ⟨rfl, hK7⟩))
    go_ret
    exact ⟨rfl, HK.out.trans' hK7⟩
  by_cases hz : bs[0]?.getD 0 = 0
  case neg =>
    have H1 := hid (newD_bad va vc vg 0 bs w1 hBm (by omega) hz)
    have H2 := hid (newQ_bad a0 cap0 gb0 off0 bs w1 hB1 (by omega) hz)
    have HK := hid hKm
    generalize bs.length = n0 at *
    generalize ls.length = n1 at *
    generalize ts.length = n2 at *
    clear hR hA hB hB1 hBm hKm hpos hbig hsh hz
    go_enter Try.func3, Try.ntmps3
    go_wp2_with (first | (at_builtin; refine wpList_append_run _ rfl _ _ 22 rfl _ _ _ _ rfl rfl hrun ?_) | (go_at_call 9; refine H1.out.mono ?_; rintro e w' ⟨rfl, hw⟩; obtain rfl := hw.symm) | (go_at_call 10; refine H2.out.mono ?_; rintro e w' ⟨rfl, hw⟩; obtain rfl := hw.symm) | (go_at_call 8; refine (wakes_any _).mono ?_; rintro e w7 ⟨rfl, hK7⟩))
    go_ret
    exact ⟨rfl, HK.out.trans' hK7⟩
  have hgb : gb0 < w.heap.size := hB.block (by rintro rfl; simp at hsh)
  obtain ⟨hva, hvg, hvg2, hown⟩ := hpos (by omega)
  subst hva
  have H1 := hid (newD_good _ vc vg 0 bs w1 hBm (by omega) (by omega) hz)
  have H2 := hid (fun (W : World) (hk : Keep noBlock w1 W) => newQ_good a0 cap0 gb0 off0 bs W (hB1.keep hk (fun _ h => h)) (by omega) hz)
  have HK := hid hKm
  have HC := hid (fun (W : World) (hk : Keep noBlock w W) => chances_any a1 cap1 gb1 off1 ls W (hR.keep hk (fun _ h => h)) (by omega))
  have hLlen : (ls ++ [1024]).length = ls.length + 1 := by simp
  have HA := (show Hid (Acts w a2 cap2 gb2 off2 ts ∧ ts.length ≤ 2000) from ⟨hA, by omega⟩)
  obtain ⟨L0, hL0⟩ : ∃ L0, L0 = ls ++ [1024] := ⟨_, rfl⟩
  rw [← hL0] at HC hLlen
  obtain ⟨m, hm⟩ : ∃ m, m = L0.length := ⟨_, rfl⟩
  rw [← hm] at HC hLlen
  have HM := (show Hid (m = L0.length ∧ 0 < m ∧ m ≤ 201) from ⟨hm, by omega, by omega⟩)
  have hmB : (m : Int) ≤ 201 := by omega
  have hmP : (0 : Int) < (m : Int) := by omega
  have HV := (show Hid (w.heap.size ≤ vg ∧ vg < w1.heap.size ∧ Own8 w1 vg bs.length ∧ gb0 < w.heap.size) from ⟨hvg, hvg2, hown, hgb⟩)
  obtain ⟨n0, hn0⟩ : ∃ n0, n0 = bs.length := ⟨_, rfl⟩
  obtain ⟨n1, hn1⟩ : ∃ n1, n1 = ls.length := ⟨_, rfl⟩
  obtain ⟨n2, hn2⟩ : ∃ n2, n2 = ts.length := ⟨_, rfl⟩
  have hvc : (bs.length : Int) ≤ (vc : Int) := by have := hBm.cap; omega
  rw [← hn0] at hrun H1 H2 HV hI0 hvc ⊢
  rw [← hn1] at HC hI1 ⊢
  rw [← hn2] at HA hI2 hcap2 ⊢
  have HN2 := hid hn2
  have hn2B : (n2 : Int) ≤ 2000 := by omega
  have hn0B : (n0 : Int) ≤ 16384 := by omega
  clear hR hA hB hB1 hBm hKm hpos hbig hsh hz hL0 hm hLlen hn0 hn1 hn2 hlen0 hlen1 hgb hvg hvg2 hown
  go_enter Try.func3, Try.ntmps3
  go_wp2_with (first | (at_builtin; refine wpList_append_run _ rfl _ _ 22 rfl _ _ _ _ rfl rfl hrun ?_))
  refine H1.out.mono ?_
  rintro e w2 ⟨db, rb, rfl, hdb, hrb, hrd, hD2, hK2⟩
  have hq2 := H2.out w2 hK2
  have HX := (show Hid (w1.heap.size ≤ db ∧ w1.heap.size ≤ rb ∧ rb < db ∧ IsD w2 db rb (newD bs) ∧ Keep noBlock w1 w2) from ⟨hdb, hrb, hrd, hD2, hK2⟩)
  clear hdb hrb hrd hD2 hK2 H1 H2 hrun
  go_wp2_with fail
  refine hq2.mono ?_
  clear hq2
  rintro e w3 ⟨qb, rfl, hqb, hQ3, hK3⟩
  have HY := (show Hid (w2.heap.size ≤ qb ∧ Keep noBlock w w3 ∧ vg ≠ rb ∧ vg ≠ gb0 ∧ rb ≠ qb ∧ w.heap.size ≤ db ∧ w.heap.size ≤ qb ∧ gb0 < w.heap.size ∧ w.heap.size ≤ vg ∧ rb < db ∧ db < w2.heap.size ∧ w2.heap.size ≤ w3.heap.size) from by
    obtain ⟨x1, x2, x3, x4, x5⟩ := HX.out
    obtain ⟨y1, y2, y3, y4⟩ := HV.out
    obtain ⟨_, _, _, ho, _⟩ := x4.obj
    have z1 := obj_lt ho
    have z2 := HK.out.size
    have z3 := x5.size
    exact ⟨hqb, (HK.out.trans' x5).trans' hK3, by omega, by omega, by omega, by omega, by omega, y4, y1, x3, z1, hK3.size⟩)
  have HT : Turng w w3 vg n0 db rb qb gb0 (newD bs) := by
    obtain ⟨x1, x2, x3, x4, x5⟩ := HX.out
    obtain ⟨y1, y2, y3, y4⟩ := HV.out
    have hk13 := x5.trans' hK3
    obtain ⟨cur, o1, o2⟩ := y3.obj
    exact ⟨⟨⟨cur, hk13.obj o1 (fun h => h), o2⟩⟩, x4.keep hK3 (fun h => h) (fun h => h), hQ3, HY.out.2.1⟩
  clear hqb hQ3 hK3 HX HV HK
  go_wp2_with fail
  go_loopw [12] (fun i wr => ∃ (j : Nat), j ≤ n0 ∧ i = .int .i64 j ∧ Turng w wr vg n0 db rb qb gb0 (newD bs) ∧ w3.heap.size ≤ wr.heap.size) (fun i _ => n0 - (intOf i).toNat)
  case atStart => exact ⟨0, Nat.zero_le _, rfl, HT, Nat.le_refl _⟩
  case round =>
    clear HT
    obtain ⟨j, hj, rfl, hT, hsz⟩ := hrel
    by_cases hlt : j < n0
    · have hltI : (j : Int) < (n0 : Int) := by omega
      obtain ⟨y, z, c1, c2, c3, c4, c5⟩ := hT.step HY.out.2.2.2.2.2.2.2.2.1 HY.out.2.2.1 HY.out.2.2.2.1 j hlt
      clear hT
      have HS := (show Hid (Turng w (wr.setCell ⟨vg, j, none⟩ (.int .u8 (z : Int))) vg n0 db rb qb gb0 (newD bs) ∧ w3.heap.size ≤ (wr.setCell ⟨vg, j, none⟩ (.int .u8 (z : Int))).heap.size) from ⟨c4, by simp [World.setCell]; exact hsz⟩)
      clear c4 hsz
      go_wp2_with fail
      go_roundw
      case rel => exact ⟨j + 1, by omega, by go_num, HS.out⟩
      case measure => simp [intOf]; omega
    · have HT := (show Hid (Turng w wr vg n0 db rb qb gb0 (newD bs) ∧ w3.heap.size ≤ wr.heap.size) from ⟨hT, hsz⟩)
      have hC := HC.out wr hT.2.2.2
      clear hT hsz
      go_wp2_with fail
      refine hC.mono ?_
      clear hC
      rintro e w5 ⟨g, c, rfl, hg, hc, hch, hK5⟩
      have HG := (show Hid (wr.heap.size ≤ g ∧ Chs w5 g L0 ∧ Keep noBlock wr w5) from ⟨hg, hch, hK5⟩)
      have hC2 := HC.out w5 (HT.out.1.2.2.2.trans' hK5)
      clear hg hch hK5
      have hcI : (m : Int) ≤ (c : Int) := by omega
      go_wp2_with fail
      refine hC2.mono ?_
      clear hC2
      rintro e w6 ⟨g2, c2, rfl, hg2, hc2, hch2, hK6⟩
      have hc2I : (m : Int) ≤ (c2 : Int) := by omega
      have HP : Pair w w6 db rb g qb gb0 g2 (newD bs, L0) := by
        obtain ⟨t1, t2⟩ := HT.out
        obtain ⟨u1, u2, u3, u4⟩ := t1
        obtain ⟨v1, v2, v3⟩ := HG.out
        obtain ⟨y1, y2, y3, y4, y5, y6, y7, y8, y9, y10, y11, y12⟩ := HY.out
        obtain ⟨_, og, _⟩ := v2.obj
        have q1 := obj_lt og
        have q2 := u4.size
        have q3 := v3.size
        have kk := v3.trans' hK6
        exact ⟨⟨u2.keep kk (fun h => h) (fun h => h), v2.keep hK6 (fun h => h), y6, by omega, by omega, u4.trans' kk⟩, u3.keep kk (fun h => h) (fun h => h), hch2, by omega, y5, by omega, y8, y7, by omega⟩
      clear hg2 hch2 hK6 HG HT
      go_wp2_with fail
      go_loopw [15] (fun i wr => ∃ (k : Nat), k ≤ n2 ∧ i = .int .i64 k ∧ Pair w wr db rb g qb gb0 g2 (runD (newD bs, L0) (ts.take k))) (fun i _ => n2 - (intOf i).toNat)
      case atStart => exact ⟨0, Nat.zero_le _, rfl, HP⟩
      case round =>
        clear HP
        obtain ⟨k, hk, rfl, hP⟩ := hrel
        by_cases hlt2 : k < n2
        · have hltI : (k : Int) < (n2 : Int) := by omega
          have hlt' : k < ts.length := by rw [← HN2.out]; exact hlt2
          have hstep := runD_take (newD bs, L0) ts k hlt'
          have hlen := runD_len (ts.take k) (newD bs, L0)
          have hAk := HA.out.1.keep hP.dec.keep
          obtain ⟨x0, x1, x2⟩ := hAk.cells k hlt'
          have hn := hAk.lt k hlt'
          obtain rfl : a2 = some ⟨gb2, off2, none⟩ := by
            rcases hAk.at_ with q | q
            · exact q
            · rw [q] at hlt'; simp at hlt'
          generalize runD (newD bs, L0) (ts.take k) = s at *
          generalize ts[k]?.getD actD0 = A at *
          have hsl : s.2.length = m := by rw [hlen]; exact HM.out.1.symm
          have HS := hid hstep
          have hlt3 := hP.ne
          have hP2 := hP.to ((Keep.refl noBlock wr).alloc (.cells #[.int .i64 A.at_, .int .u32 (A.n : Int), .int .i64 A.many] 36))
          have HLT := (show Hid (db < wr.heap.size ∧ g < wr.heap.size ∧ qb < wr.heap.size ∧ g2 < wr.heap.size) from hlt3.2.2.2.2.2.2.2)
          clear hstep hlen hAk hP hlt3 hlt'
          by_cases hmn : 0 < A.many
          · have HD := hid (fun (W : World) (hk : Keep noBlock _ W) => (hP2.to hk).direct A hmn)
            clear hP2 hsl
            generalize (dirD (bitsN A.many) s.1 0).2 = T at *
            obtain ⟨at_, n, many⟩ := A
            dsimp only at *
            have hmnI : (0 : Int) < many := hmn
            go_wp2_with fail
            have hx2 : (wr.alloc (.cells #[.int .i64 at_, .int .u32 (n : Int), .int .i64 many] 36)).cell? ⟨wr.heap.size, 2, none⟩ = some (.int .i64 many) := cell_of (alloc_new wr _) 2
            generalize wr.alloc (.cells #[.int .i64 at_, .int .u32 (n : Int), .int .i64 many] 36) = W at *
            generalize wr.heap.size = xb at *
            go_region_held3 (fun w' => w'.cell? ⟨xb, 2, none⟩ = some (.int .i64 many)) (go_keep) ((first | (go_at_call 12; refine (HD.out _ ((Keep.refl _ _).drew)).mono ?_; rintro e w7 ⟨rfl, hK7, HQ⟩; have hz2 := keep_cell hK7 (i := 2) (b := xb) (u := .int .i64 many) hx2 (fun q => by have h1 := HLT.out; unfold PairS at q; omega); clear hK7) | (go_at_call 13; refine HQ.out.mono ?_; rintro e w8 ⟨rfl, hK8, hP8⟩; have hz8 := keep_cell hK8 (i := 2) (b := xb) (u := .int .i64 many) hx2 (fun q => by have h1 := HLT.out; unfold PairS at q; omega); clear hK8)))
            all_goals
              go_wp2_with fail
              go_roundw
              case rel => exact ⟨k + 1, by omega, by go_num, by rw [HS.out]; exact hP8⟩
              case measure => simp [intOf]; omega
          · have HD := hid (fun (W : World) (hk : Keep noBlock _ W) => (hP2.to hk).bit A hmn hsl HM.out.2.1 (by have := HM.out.2.2; omega))
            have hsl2 := chD_len s A
            rw [hsl] at hsl2
            have HSL := hid hsl2
            clear hP2 hsl hsl2
            obtain ⟨r, s2, y1, y2, y3, y4, y5, y6, y7⟩ := arnd_parts m A.at_ (by omega) (by omega)
            generalize arndN m A.at_ = kk at *
            generalize bitI (oneD (ordD s.1) (chc s.2 A)) = bt at *
            generalize chD s A = s' at *
            obtain ⟨at_, n, many⟩ := A
            dsimp only at *
            have hmnI : ¬ (0 : Int) < many := hmn
            have hkI : (kk : Int) < (m : Int) := by omega
            have hm0 : ¬ m = 0 := by omega
            have hm0' : ¬ (m : Int) = 0 := by omega
            have hw4 : (s2 : Int).tmod (m : Int) = (kk : Int) := by rw [Int.tmod_eq_emod_of_nonneg (by omega)]; exact y3
            go_wp2_with fail
            generalize wr.alloc (.cells #[.int .i64 at_, .int .u32 (n : Int), .int .i64 many] 36) = W at *
            generalize wr.heap.size = xb at *
            refine wp_region_any (by kernel_rfl) ?_
            change wpAny _ _ _ _ _ _ _ (World.drew _)
            refine wpAny_take (i := 0) (v := ?_) rfl (by kernel_rfl) (by kernel_rfl) (by kernel_rfl) (fun _ _ _ h => h) (Or.inl ⟨by rfl, ?_⟩) ?_
            rotate_left 1
            · (intro w; go_simp; try with_reducible rfl)
            simp only [Act.put, List.getElem_toArray, List.getElem_cons_zero, List.setIfInBounds_toArray, List.set_cons_zero, List.set_cons_succ]
            refine wpAny_take (i := 1) (v := ?_) rfl (by kernel_rfl) (by kernel_rfl) (by kernel_rfl) (fun _ _ _ h => h) (Or.inl ⟨by rfl, ?_⟩) ?_
            rotate_left 1
            · (intro w; go_simp; try with_reducible rfl)
            simp only [Act.put, List.getElem_toArray, List.getElem_cons_zero, List.getElem_cons_succ, List.setIfInBounds_toArray, List.set_cons_zero, List.set_cons_succ]
            refine wpAny_take (i := 2) (v := ?_) rfl (by kernel_rfl) (by kernel_rfl) (by kernel_rfl) (fun _ _ _ h => h) (Or.inl ⟨by rfl, ?_⟩) ?_
            rotate_left 1
            · (intro w; go_simp; try with_reducible rfl)
            simp only [Act.put, List.getElem_toArray, List.getElem_cons_zero, List.getElem_cons_succ, List.setIfInBounds_toArray, List.set_cons_zero, List.set_cons_succ]
            refine wpAny_take (i := 3) (v := ?_) rfl (by kernel_rfl) (by kernel_rfl) (by kernel_rfl) (fun _ _ _ h => h) (Or.inl ⟨by rfl, ?_⟩) ?_
            rotate_left 1
            · (intro w; go_simp; try with_reducible rfl)
            simp only [Act.put, List.getElem_toArray, List.getElem_cons_zero, List.getElem_cons_succ, List.setIfInBounds_toArray, List.set_cons_zero, List.set_cons_succ]
            refine wpAny_take (i := 5) (v := ?_) rfl (by kernel_rfl) (by kernel_rfl) (by kernel_rfl) (fun _ _ _ h => h) (Or.inl ⟨by rfl, ?_⟩) ?_
            rotate_left 1
            · (intro w; go_simp; try with_reducible rfl)
            simp only [Act.put, List.getElem_toArray, List.getElem_cons_zero, List.getElem_cons_succ, List.setIfInBounds_toArray, List.set_cons_zero, List.set_cons_succ]
            refine wpAny_take (i := 6) (v := ?_) rfl (by kernel_rfl) (by kernel_rfl) (by kernel_rfl) (fun _ _ _ h => h) (Or.inl ⟨by rfl, ?_⟩) ?_
            rotate_left 1
            · (intro w; go_simp; try with_reducible rfl)
            simp only [Act.put, List.getElem_toArray, List.getElem_cons_zero, List.getElem_cons_succ, List.setIfInBounds_toArray, List.set_cons_zero, List.set_cons_succ]
            refine wpAny_take (i := 7) (v := ?_) rfl (by kernel_rfl) (by kernel_rfl) (by kernel_rfl) (fun _ _ _ h => h) (Or.inl ⟨by rfl, ?_⟩) ?_
            rotate_left 1
            · (intro w; go_simp; try with_reducible rfl)
            simp only [Act.put, List.getElem_toArray, List.getElem_cons_zero, List.getElem_cons_succ, List.setIfInBounds_toArray, List.set_cons_zero, List.set_cons_succ]
            refine wpAny_take (i := 8) (v := ?_) rfl (by kernel_rfl) (by kernel_rfl) (by kernel_rfl) (fun _ _ _ h => h) (Or.inl ⟨by rfl, ?_⟩) ?_
            rotate_left 1
            · (intro w; go_simp; try with_reducible rfl)
            simp only [Act.put, List.getElem_toArray, List.getElem_cons_zero, List.getElem_cons_succ, List.setIfInBounds_toArray, List.set_cons_zero, List.set_cons_succ]
            refine wpAny_ready (rs := [4]) (by kernel_rfl) (by simp) ?_
            refine AllReady.cons rfl (fun K hK => ?_) AllReady.nil
            go_simp
            go_wp2_with (go_at_call 14; refine (HD.out _ ((Keep.refl _ _).drew)).mono ?_; rintro e w7 ⟨rfl, HQ⟩)
            refine wpAny_ready (rs := [9]) (by kernel_rfl) (by simp) ?_
            refine AllReady.cons rfl (fun K hK => ?_) AllReady.nil
            go_simp
            go_wp2_with (go_at_call 15; refine HQ.out.mono ?_; rintro e w8 ⟨rfl, hP8⟩)
            have d1 := hP8.dec.chs.cell kk (by rw [HSL.out]; exact y4)
            have d2 := hP8.chs.cell kk (by rw [HSL.out]; exact y4)
            refine wpAny_take (i := 10) (v := ?_) rfl (by kernel_rfl) (by kernel_rfl) (by kernel_rfl) (fun _ _ _ h => h) (Or.inl ⟨by rfl, ?_⟩) ?_
            rotate_left 1
            · (intro w; go_simp; try with_reducible rfl)
            simp only [Act.put, List.getElem_toArray, List.getElem_cons_zero, List.getElem_cons_succ, List.setIfInBounds_toArray, List.set_cons_zero, List.set_cons_succ]
            refine wpAny_take (i := 11) (v := ?_) rfl (by kernel_rfl) (by kernel_rfl) (by kernel_rfl) (fun _ _ _ h => h) (Or.inl ⟨by rfl, ?_⟩) ?_
            rotate_left 1
            · (intro w; go_simp; try with_reducible rfl)
            simp only [Act.put, List.getElem_toArray, List.getElem_cons_zero, List.getElem_cons_succ, List.setIfInBounds_toArray, List.set_cons_zero, List.set_cons_succ]
            refine wpAny_take (i := 12) (v := ?_) rfl (by kernel_rfl) (by kernel_rfl) (by kernel_rfl) (fun _ _ _ h => h) (Or.inl ⟨by rfl, ?_⟩) ?_
            rotate_left 1
            · (intro w; go_simp; try with_reducible rfl)
            simp only [Act.put, List.getElem_toArray, List.getElem_cons_zero, List.getElem_cons_succ, List.setIfInBounds_toArray, List.set_cons_zero, List.set_cons_succ]
            refine wpAny_take (i := 13) (v := ?_) rfl (by kernel_rfl) (by kernel_rfl) (by kernel_rfl) (fun _ _ _ h => h) (Or.inl ⟨by rfl, ?_⟩) ?_
            rotate_left 1
            · (intro w; go_simp; try with_reducible rfl)
            simp only [Act.put, List.getElem_toArray, List.getElem_cons_zero, List.getElem_cons_succ, List.setIfInBounds_toArray, List.set_cons_zero, List.set_cons_succ]
            refine wpAny_take (i := 14) (v := ?_) rfl (by kernel_rfl) (by kernel_rfl) (by kernel_rfl) (fun _ _ _ h => h) (Or.inl ⟨by rfl, ?_⟩) ?_
            rotate_left 1
            · (intro w; go_simp; try with_reducible rfl)
            simp only [Act.put, List.getElem_toArray, List.getElem_cons_zero, List.getElem_cons_succ, List.setIfInBounds_toArray, List.set_cons_zero, List.set_cons_succ]
            refine wpAny_take (i := 16) (v := ?_) rfl (by kernel_rfl) (by kernel_rfl) (by kernel_rfl) (fun _ _ _ h => h) (Or.inl ⟨by rfl, ?_⟩) ?_
            rotate_left 1
            · (intro w; go_simp; try with_reducible rfl)
            simp only [Act.put, List.getElem_toArray, List.getElem_cons_zero, List.getElem_cons_succ, List.setIfInBounds_toArray, List.set_cons_zero, List.set_cons_succ]
            refine wpAny_take (i := 17) (v := ?_) rfl (by kernel_rfl) (by kernel_rfl) (by kernel_rfl) (fun _ _ _ h => h) (Or.inl ⟨by rfl, ?_⟩) ?_
            rotate_left 1
            · (intro w; go_simp; try with_reducible rfl)
            simp only [Act.put, List.getElem_toArray, List.getElem_cons_zero, List.getElem_cons_succ, List.setIfInBounds_toArray, List.set_cons_zero, List.set_cons_succ]
            refine wpAny_take (i := 18) (v := ?_) rfl (by kernel_rfl) (by kernel_rfl) (by kernel_rfl) (fun _ _ _ h => h) (Or.inl ⟨by rfl, ?_⟩) ?_
            rotate_left 1
            · (intro w; go_simp; try with_reducible rfl)
            simp only [Act.put, List.getElem_toArray, List.getElem_cons_zero, List.getElem_cons_succ, List.setIfInBounds_toArray, List.set_cons_zero, List.set_cons_succ]
            refine wpAny_ready (rs := [15, 19]) (by kernel_rfl) (by simp) ?_
            refine AllReady.cons rfl (fun K hK => ?_) (AllReady.cons rfl (fun K hK => ?_) AllReady.nil)
            · go_simp
              refine hK _ _ ?_
              clear hK K
              refine wpAny_ready (rs := [19]) (by kernel_rfl) (by simp) ?_
              refine AllReady.cons rfl (fun K hK => ?_) AllReady.nil
              go_simp
              refine hK _ _ ?_
              clear hK K
              refine wpAny_take (i := 20) (v := ?_) rfl (by kernel_rfl) (by kernel_rfl) (by kernel_rfl) (fun _ _ _ h => h) (Or.inl ⟨by rfl, ?_⟩) ?_
              rotate_left 1
              · (intro w; go_simp; try with_reducible rfl)
              simp only [Act.put, List.getElem_toArray, List.getElem_cons_zero, List.getElem_cons_succ, List.setIfInBounds_toArray, List.set_cons_zero, List.set_cons_succ]
              refine wpAny_take (i := 21) (v := ?_) rfl (by kernel_rfl) (by kernel_rfl) (by kernel_rfl) (fun _ _ _ h => h) (Or.inl ⟨by rfl, ?_⟩) ?_
              rotate_left 1
              · (intro w; go_simp; try with_reducible rfl)
              simp only [Act.put, List.getElem_toArray, List.getElem_cons_zero, List.getElem_cons_succ, List.setIfInBounds_toArray, List.set_cons_zero, List.set_cons_succ]
              refine wpAny_done (by kernel_rfl) ?_ _
              go_wp2_with fail
              go_roundw
              case rel => exact ⟨k + 1, by omega, by go_num, by rw [HS.out]; exact hP8⟩
              case measure => simp [intOf]; omega
            · go_simp
              refine hK _ _ ?_
              clear hK K
              refine wpAny_ready (rs := [15]) (by kernel_rfl) (by simp) ?_
              refine AllReady.cons rfl (fun K hK => ?_) AllReady.nil
              go_simp
              refine hK _ _ ?_
              clear hK K
              refine wpAny_take (i := 20) (v := ?_) rfl (by kernel_rfl) (by kernel_rfl) (by kernel_rfl) (fun _ _ _ h => h) (Or.inl ⟨by rfl, ?_⟩) ?_
              rotate_left 1
              · (intro w; go_simp; try with_reducible rfl)
              simp only [Act.put, List.getElem_toArray, List.getElem_cons_zero, List.getElem_cons_succ, List.setIfInBounds_toArray, List.set_cons_zero, List.set_cons_succ]
              refine wpAny_take (i := 21) (v := ?_) rfl (by kernel_rfl) (by kernel_rfl) (by kernel_rfl) (fun _ _ _ h => h) (Or.inl ⟨by rfl, ?_⟩) ?_
              rotate_left 1
              · (intro w; go_simp; try with_reducible rfl)
              simp only [Act.put, List.getElem_toArray, List.getElem_cons_zero, List.getElem_cons_succ, List.setIfInBounds_toArray, List.set_cons_zero, List.set_cons_succ]
              refine wpAny_done (by kernel_rfl) ?_ _
              go_wp2_with fail
              go_roundw
              case rel => exact ⟨k + 1, by omega, by go_num, by rw [HS.out]; exact hP8⟩
              case measure => simp [intOf]; omega
        · have HD := hid hP.done
          clear hP
          generalize endL (ordD (runD (newD bs, L0) (ts.take k)).1) = eL at *
          generalize endE (ordD (runD (newD bs, L0) (ts.take k)).1) = eE at *
          go_wp2_with (first | (go_at_call 16; refine HD.out.mono ?_; rintro e w7 ⟨rfl, HQ⟩) | (go_at_call 17; refine HQ.out.mono ?_; rintro e w8 ⟨rfl, hK8⟩) | (go_at_call 8; refine (wakes_any _).mono ?_; rintro e w9 ⟨rfl, hK9⟩))
          go_ret
          exact ⟨rfl, hK8.trans' hK9⟩
end

end Go.Proofs.Ytfhgbggcpoingaa
