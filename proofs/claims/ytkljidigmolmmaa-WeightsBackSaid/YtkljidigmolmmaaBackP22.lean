/-
  putFours: weights of four bits.
  descriptions: the descriptions of weights, of both kinds.
  Write of weights that make a code: a description of them.
  WeightsBack answers true: weights that are told are read as they were, whatever stands behind.
-/
import Derived.Test.YtkljidigmolmmaaBackP21
namespace Go.Proofs.Ytkljidigmolmmaa
open Go.RowKit Go.Shelf
set_option linter.unusedVariables false

/-- Byte j of the weights, where k of them are put. -/
def pfB (M : List Nat) (k j : Nat) : Nat := (if 2 * j < k then 16 * wt M (2 * j) else 0) + (if 2 * j + 1 < k then wt M (2 * j + 1) else 0)
/-- The bytes of a description. -/
def pfF (M : List Nat) (k j : Nat) : Nat := if j = 0 then M.length + 127 else pfB M k (j - 1)
theorem isA_owns {w : World} {tb N : Nat} {g : Nat → Nat} (h : IsA w tb 5 .u8 N (fun j => ((g j : Nat) : Int))) (hN : N ≤ 100000) : w.ownsRow 0 5 1 (.slice (some ⟨tb, 0, none⟩) N N) ((List.range N).map g).length (u8s ((List.range N).map g)) := by
  obtain ⟨cs, h1, h2, h3⟩ := h.obj
  have hl : ((List.range N).map g).length = N := by simp
  have := owns_mk (M := (List.range N).map g) (cap := N) h1 (by omega) (by unfold maxLen; omega) h2 (by
    rw [hl]
    refine List.ext_getElem? fun j => ?_
    by_cases hj : j < N
    · rw [List.getElem?_take, if_pos hj, Array.getElem?_toList, h3 j hj, u8s_at _ j (by omega), List.getElem?_map, List.getElem?_range hj]
      rfl
    · rw [List.getElem?_eq_none (by rw [List.length_take]; omega), List.getElem?_eq_none (by rw [u8s_length]; omega)])
  rw [hl] at this ⊢
  exact this
theorem or_low (p x : Nat) (hp : p < 16) (hx : x < 16) : bits .or .u8 ((16 * p : Nat) : Int) (x : Int) = ((16 * p + x : Nat) : Int) := by
  revert x; revert p; decide +kernel
theorem or_high (x : Nat) (hx : x < 16) : bits .or .u8 0 ((16 * x : Nat) : Int) = ((16 * x : Nat) : Int) := by
  revert x; decide +kernel
theorem pf_map (M : List Nat) (hle : ∀ i, i < M.length → wt M i ≤ 11) : (List.range M.length).map (fourW (((List.range (1 + (M.length + 1) / 2)).map (pfF M M.length)).drop 1)) = M := by
  refine List.ext_getElem? fun j => ?_
  by_cases hj : j < M.length
  · rw [List.getElem?_map, List.getElem?_range hj]
    have e : (((List.range (1 + (M.length + 1) / 2)).map (pfF M M.length)).drop 1)[j / 2]?.getD 0 = pfB M M.length (j / 2) := by
      rw [List.getElem?_drop, List.getElem?_map, List.getElem?_range (by omega)]
      show pfF M M.length (1 + j / 2) = _
      unfold pfF
      rw [if_neg (by omega), show 1 + j / 2 - 1 = j / 2 from by omega]
    have hw : M[j]? = some (wt M j) := by unfold wt; rw [List.getElem?_eq_getElem hj]; rfl
    rw [hw]
    show some (fourW _ j) = _
    congr 1
    unfold fourW
    rw [e]
    unfold pfB
    have h1 := hle j hj
    by_cases hp : j % 2 = 1
    · rw [if_pos hp, if_pos (by omega), if_pos (by omega), show 2 * (j / 2) + 1 = j from by omega]
      omega
    · rw [if_neg hp, if_pos (by omega), show 2 * (j / 2) = j from by omega]
      split
      · have := hle (j + 1) (by omega); omega
      · omega
  · rw [List.getElem?_eq_none (by simp; omega), List.getElem?_eq_none (by omega)]
theorem pfF_lt (M : List Nat) (k j : Nat) (hl : M.length ≤ 128) (hle : ∀ i, i < M.length → wt M i ≤ 11) : pfF M k j < 256 := by
  have hw : ∀ i, wt M i ≤ 11 := fun i => by
    by_cases hi : i < M.length
    · exact hle i hi
    · unfold wt; rw [List.getElem?_eq_none (by omega)]; simp
  unfold pfF
  split
  · omega
  · unfold pfB
    have h1 := hw (2 * (j - 1))
    have h2 := hw (2 * (j - 1) + 1)
    split <;> split <;> omega

section
set_option maxRecDepth 100000 in
set_option maxHeartbeats 2000000 in
theorem putFours_any (a : Option Addr) (cap gb off : Nat) (M : List Nat) (w : World) (hB : Bytes w a cap gb off M) (hl : M.length ≤ 128) (hle : ∀ i, i < M.length → wt M i ≤ 11) :
    Calls Try.prog 54 #[.slice a M.length cap] w fun e w' => ∃ v, e = .returned v ∧ w'.ownsRow 0 5 1 v ((List.range (1 + (M.length + 1) / 2)).map (pfF M M.length)).length (u8s ((List.range (1 + (M.length + 1) / 2)).map (pfF M M.length))) ∧ Keep noBlock w w' ∧ ∀ k, v.ownBlock = some k → w.heap.size ≤ k := by
  obtain ⟨N, hN⟩ : ∃ N, N = 1 + (M.length + 1) / 2 := ⟨_, rfl⟩
  rw [← hN]
  have hmk : ∀ W : World, _ := fun W => run_make_u8 N N (Nat.le_refl _) (by omega) W
  have HB := (show Hid (Bytes w a cap gb off M ∧ ∀ i, i < M.length → wt M i ≤ 11) from ⟨hB, hle⟩)
  obtain ⟨n, hn⟩ : ∃ n, n = M.length := ⟨_, rfl⟩
  have HN := (show Hid (n = M.length ∧ N = 1 + (n + 1) / 2) from ⟨hn, by omega⟩)
  rw [← hn] at hl hN
  have hnI : (n : Int) ≤ 128 := by omega
  have hq : ((n : Int) + 1) / 2 = (((n + 1) / 2 : Nat) : Int) := by omega
  obtain ⟨d, hd⟩ : ∃ d, d = (n + 1) / 2 := ⟨_, rfl⟩
  rw [← hd] at hq hN
  have hqT : ((n : Int) + 1).tdiv 2 = (d : Int) := by rw [Int.tdiv_eq_ediv_of_nonneg (by omega)]; exact hq
  have hN1 : 1 + (d : Int) = (N : Int) := by omega
  have hNp : (0 : Int) < (N : Int) := by omega
  have hNb : (N : Int) ≤ 100 := by omega
  have hdb : (d : Int) ≤ 65 := by omega
  obtain ⟨h, hh⟩ : ∃ h, h = n + 127 := ⟨_, rfl⟩
  have hhI : 127 + (n : Int) = (h : Int) := by omega
  have hh8 : (h : Int) < 256 := by omega
  obtain ⟨tb, htb⟩ : ∃ tb, tb = w.heap.size := ⟨_, rfl⟩
  have hk0 : Keep noBlock w (w.alloc (.cells (u8s (List.replicate N 0)).toArray 5)) := (Keep.refl _ w).alloc _
  have hA0 : IsA (w.alloc (.cells (u8s (List.replicate N 0)).toArray 5)) tb 5 .u8 N (fun _ => 0) := by
    rw [htb]
    refine ⟨_, World.alloc_heap_new w _, by simp [u8s], fun i hi => ?_⟩
    have := u8s_at (List.replicate N 0) i (by simpa using hi)
    rw [List.getElem?_toArray, this]
    simp [hi]
  have c0 := hA0.cell 0 (by omega)
  have f0 := hA0.frozen 0
  have HA := (show Hid (IsA (w.alloc (.cells ((u8s (List.replicate N 0)).set 0 (.int .u8 (h : Int))).toArray 5)) w.heap.size 5 .u8 N (fun j => ((pfF M 0 j : Nat) : Int)) ∧ Keep noBlock w (w.alloc (.cells ((u8s (List.replicate N 0)).set 0 (.int .u8 (h : Int))).toArray 5))) from by
    refine ⟨⟨_, World.alloc_heap_new w _, by simp [u8s], fun i hi => ?_⟩, (Keep.refl _ w).alloc _⟩
    rw [List.getElem?_toArray, List.getElem?_set]
    unfold pfF
    by_cases e : i = 0
    · rw [if_pos e.symm, if_pos (by simp [u8s]; omega), if_pos e, hh, hn]
    · rw [if_neg (fun q => e q.symm), u8s_at (List.replicate N 0) i (by simpa using hi), if_neg e]
      unfold pfB
      rw [if_neg (by omega), if_neg (by omega)]
      simp [hi])
  have HT := (show Hid (tb = w.heap.size) from htb)
  rw [← hn]
  rw [htb] at c0 f0
  clear hB hle hn hN hd hh hk0 hA0
  go_enter Try.func54, Try.ntmps54
  go_wp2
  rw [← htb]
  clear htb c0 f0
  go_loopw [20] (fun v20 wr => ∃ i : Nat, v20 = .int .i64 (i : Int) ∧ i ≤ n ∧ Hid (IsA wr tb 5 .u8 N (fun j => ((pfF M i j : Nat) : Int)) ∧ Keep noBlock w wr)) (fun v20 _ => n - (intOf v20).toNat)
  case atStart =>
    have q := HA.out
    rw [HT.out]
    exact ⟨0, rfl, Nat.zero_le _, q⟩
  case round =>
    clear HA
    obtain ⟨i, rfl, hi, HC⟩ := hrel
    by_cases hlt : i < n
    · have hltI : (i : Int) < (n : Int) := by omega
      have hix : i < M.length := by have := HN.out; omega
      obtain ⟨hA, hK⟩ := HC.out
      obtain rfl := HB.out.1.here hix
      have c1 := (HB.out.1.keep hK (fun _ h => h)).cells i hix
      have hx11 := HB.out.2 i hix
      have hxw : wt M i = M[i]?.getD 0 := rfl
      obtain ⟨d, hd⟩ : ∃ d, d = i / 2 := ⟨_, rfl⟩
      have hdI : (i : Int) / 2 = (d : Int) := by omega
      have hdT : (i : Int).tdiv 2 = (d : Int) := by rw [Int.tdiv_eq_ediv_of_nonneg (by omega)]; exact hdI
      have hdN : 1 + d < N := by have := HN.out; omega
      have hdNI : 1 + (d : Int) < (N : Int) := by omega
      have hd64 : (d : Int) ≤ 64 := by omega
      have c2 := hA.cell (1 + d) hdN
      have f2 := hA.frozen (1 + d)
      have e2 : pfF M i (1 + d) = pfB M i d := by unfold pfF; rw [if_neg (by omega), show 1 + d - 1 = d from by omega]
      rw [e2] at c2
      have hset := fun z : Nat => hA.set (1 + d) (z : Int)
      have hks : ∀ x : Value, Keep noBlock w (wr.setCell ⟨tb, 1 + d, none⟩ x) := fun x => hK.setCell (p := ⟨tb, 1 + d, none⟩) (fun h => by dsimp only at h; have := HT.out; omega) _
      have hcong : ∀ z : Nat, z = pfB M (i + 1) d → Hid (IsA (wr.setCell ⟨tb, 1 + d, none⟩ (.int .u8 (z : Int))) tb 5 .u8 N (fun j => ((pfF M (i + 1) j : Nat) : Int)) ∧ Keep noBlock w (wr.setCell ⟨tb, 1 + d, none⟩ (.int .u8 (z : Int)))) := fun z hz => by
        refine ⟨(hset z).congr (fun j hj => ?_), hks _⟩
        by_cases e : j = 1 + d
        · rw [if_pos e, e, hz]; unfold pfF; rw [if_neg (by omega), show 1 + d - 1 = d from by omega]
        · rw [if_neg e]
          unfold pfF
          by_cases e0 : j = 0
          · rw [if_pos e0, if_pos e0]
          · rw [if_neg e0, if_neg e0]
            unfold pfB
            congr 2
            · by_cases q : 2 * (j - 1) < i
              · rw [if_pos q, if_pos (by omega)]
              · rw [if_neg q, if_neg (by omega)]
            · by_cases q : 2 * (j - 1) + 1 < i
              · rw [if_pos q, if_pos (by omega)]
              · rw [if_neg q, if_neg (by omega)]
      obtain ⟨x, hx⟩ : ∃ x, x = M[i]?.getD 0 := ⟨_, rfl⟩
      rw [← hx] at c1 hxw
      rw [hxw] at hx11
      have hxI : (x : Int) ≤ 11 := by omega
      by_cases hp : i % 2 = 0
      · have hpI : (i : Int) % 2 = 0 := by omega
        have hpT : (i : Int).tmod 2 = 0 := by rw [Int.tmod_eq_emod_of_nonneg (by omega)]; exact hpI
        have e3 : pfB M i d = 0 := by unfold pfB; rw [if_neg (by omega), if_neg (by omega)]
        have e4 : 16 * x = pfB M (i + 1) d := by unfold pfB; rw [if_pos (by omega), if_neg (by omega), show 2 * d = i from by omega, hxw]; rfl
        rw [e3, show ((0 : Nat) : Int) = (0 : Int) from rfl] at c2
        have HE := hcong (16 * x) e4
        have hor := or_high x (by omega)
        obtain ⟨y, hy⟩ : ∃ y, y = 16 * x := ⟨_, rfl⟩
        rw [← hy] at HE hor
        have hsh : (x : Int) * 2 ^ 4 = (y : Int) := by omega
        have hsh2 : (x : Int) * 16 = (y : Int) := by omega
        have hyI : (y : Int) < 256 := by omega
        clear hA hK hcong hset hks e2 e3 e4 HC hd hx hy hxw hx11 hp hix
        go_wp2
        go_roundw
        case rel => exact ⟨i + 1, by go_num, by omega, HE.out⟩
        case measure => simp [intOf]; omega
      · have hpI : (i : Int) % 2 = 1 := by omega
        have hpT : (i : Int).tmod 2 = 1 := by rw [Int.tmod_eq_emod_of_nonneg (by omega)]; exact hpI
        have hpw := HB.out.2 (2 * d) (by omega)
        have e3 : pfB M i d = 16 * wt M (2 * d) := by unfold pfB; rw [if_pos (by omega), if_neg (by omega)]; rfl
        have e4 : 16 * wt M (2 * d) + x = pfB M (i + 1) d := by unfold pfB; rw [if_pos (by omega), if_pos (by omega), show 2 * d + 1 = i from by omega, hxw]
        rw [e3] at c2
        have HE := hcong _ e4
        have hor := or_low (wt M (2 * d)) x (by omega) (by omega)
        obtain ⟨y, hy⟩ : ∃ y, y = 16 * wt M (2 * d) := ⟨_, rfl⟩
        rw [← hy] at HE hor c2
        obtain ⟨z, hz⟩ : ∃ z, z = y + x := ⟨_, rfl⟩
        rw [← hz] at HE hor
        have hyI : (y : Int) < 256 := by omega
        have hzI : (z : Int) < 256 := by omega
        clear hA hK hcong hset hks e2 e3 e4 HC hd hx hy hxw hx11 hp hix hpw hz
        go_wp2
        go_roundw
        case rel => exact ⟨i + 1, by go_num, by omega, HE.out⟩
        case measure => simp [intOf]; omega
    · obtain rfl : i = n := by omega
      have hltI : ¬ (i : Int) < (i : Int) := by omega
      go_wp2
      go_ret
      obtain ⟨hA, hK⟩ := HC.out
      have q := isA_owns hA (by have := HN.out; omega)
      rw [show ((List.range N).map (pfF M i)).length = N from by simp] at q
      exact ⟨_, rfl, q, hK, fun k e => by simp [Value.ownBlock] at e; have := HT.out; omega⟩
end

end Go.Proofs.Ytkljidigmolmmaa

namespace Go.Proofs.Ytkljidigmolmmaa
open Go.RowKit Go.Shelf
set_option linter.unusedVariables false

attribute [local go_sem] Oper.semAt_some

set_option maxHeartbeats 1000000 in
theorem descriptions_in (F : Fence) (n : Nat) (h34 : F.fn 34) (hro : F.round = none) (a : Option Addr) (len cap : Nat) (w : World) :
    CallsIn F n Try.prog 34 #[.slice a len cap] w fun e w' => e = .returned (.func (.func 53) #[] #[.pointer (some ⟨w.heap.size, 0, none⟩)]) ∧ w' = w.alloc (.cells #[.slice a len cap] 22) := by
  refine callsIn_of_wp Try.func34 rfl h34 ?_ hro
  simp only [Try.ntmps34, List.size_toArray, List.length_cons, List.length_nil, Nat.reduceAdd, Nat.reduceSub, Array.replicate_succ, Array.replicate_zero, List.push_toArray, List.append_toArray, List.nil_append, List.cons_append]
  gi_wp2
  go_ret
  exact ⟨rfl, rfl⟩

/-- What descriptions hands over. -/
def dscR (ws : List Nat) (p : Bool) (vs : Array Value) (p' : Bool) (V : World) : Prop := p' = true ∧ ∃ v D, vs = #[v] ∧ V.ownsRow 0 5 1 v D.length (u8s D) ∧ Desc D ws

theorem roundIn_inside {n n' l l' : Nat} {P : Program} {f : FuncId} {tmps : Array Value} {assign body : Code} {w : World} {R : Ending → World → Prop} (h : RoundIn Fence.wide n P l f tmps assign body w R) : RoundIn (Fence.wide.inRound l') n' P l f tmps assign body w R :=
  ⟨h.1, fun c cs _ => h.2 c cs (room_wide _)⟩
theorem KeepN.cell {B : Nat} {X Y : World} (h : KeepN B X Y) {p : Addr} {v : Value} (hc : X.cell? p = some v) : Y.cell? p = some v := by
  unfold World.cell? at hc ⊢
  split at hc
  · rename_i c e t hp
    rw [h.obj hp]
    exact hc
  · cases hc
theorem RowI.keepN {B : Nat} {X Y : World} {k : IntKind} {a : Option Addr} {cap gb off : Nat} {xs : List Int} (h : RowI X k a cap gb off xs) (hk : KeepN B X Y) : RowI Y k a cap gb off xs :=
  ⟨h.at_, h.nil, fun j hj => hk.cell (h.cells j hj), h.le⟩

/-- What there is behind the first kind. -/
def Aft (l Bs yb N : Nat) (a : Option Addr) (cap : Nat) (J : Bool → World → Prop) (a' : Act) (V : World) : Prop := ∃ (u9 u10 u11 u12 u13 u14 u15 : Value), a' = ({ tmps := #[.func (.yield l) #[] #[], .pointer (some ⟨Bs, 0, none⟩), .pointer (some ⟨yb, 0, none⟩), undef, undef, undef, undef, .slice a N cap, .int .i64 (N : Int), u9, u10, u11, u12, u13, u14, u15, .bool false, undef, undef, undef, undef, undef, undef, undef, undef, undef, undef, undef, undef, undef, undef, undef, undef, undef, undef, undef, undef, undef], defers := [] } : Act) ∧ Hid (∃ p, J p V ∧ V.heap[yb]? = some (.cells #[.func (.yield l) #[] #[]] 27 (0, 0)) ∧ (N ≤ 128 → p = true))

set_option maxRecDepth 100000 in
set_option maxHeartbeats 4000000 in
theorem descriptions1_in (n : Nat) (hn : 4 ≤ n) (l Bs : Nat) (a : Option Addr) (cap gb off : Nat) (M : List Nat) (x m : Nat) (hT : Told M x m) (J : Bool → World → Prop)
    (hB : ∀ p W, J p W → BBox Bs a cap gb off M W) (hD : ∀ p X Y, J p X → Keep noBlock X Y → J p Y) (hDN : ∀ p X Y B, J p X → l < B → KeepN B X Y → J p Y)
    (hY : ∀ p vs p' V, dscR (M ++ [x]) p vs p' V → J p V → YieldAt Fence.wide (n - 1) Try.prog l vs V fun e W' => e = .returned (.bool true) ∧ J p' W' ∧ KpL l V W') (W : World) (hlW : l < W.heap.size) (p0 : Bool) (h0 : J p0 W) :
    CallsIn Fence.wide n Try.prog 53 #[.func (.yield l) #[] #[], .pointer (some ⟨Bs, 0, none⟩)] W fun e W' => (∃ v, e = .returned v) ∧ J true W' := by
  have HH := (show Hid (Told M x m ∧ (∀ p W, J p W → BBox Bs a cap gb off M W) ∧ (∀ p X Y, J p X → Keep noBlock X Y → J p Y) ∧ (∀ p X Y B, J p X → l < B → KeepN B X Y → J p Y)) from ⟨hT, hB, hD, hDN⟩)
  have HY := (show Hid (∀ p vs p' V, dscR (M ++ [x]) p vs p' V → J p V → _) from hY)
  have hk1 : Keep noBlock W (W.alloc (.cells #[.func (.yield l) #[] #[]] 27)) := (Keep.refl _ W).alloc _
  obtain ⟨N, hN⟩ : ∃ N, N = M.length := ⟨_, rfl⟩
  have HN := (show Hid (N = M.length ∧ 1 ≤ N ∧ N ≤ 255) from ⟨hN, by have := hT.len1; omega, by have := hT.len; omega⟩)
  have hj1 := hD _ _ _ h0 hk1
  obtain ⟨yb, hyb⟩ : ∃ yb, yb = W.heap.size := ⟨_, rfl⟩
  have HJ := (show Hid (J p0 (W.alloc (.cells #[.func (.yield l) #[] #[]] 27)) ∧ (W.alloc (.cells #[.func (.yield l) #[] #[]] 27)).heap[yb]? = some (.cells #[.func (.yield l) #[] #[]] 27 (0, 0)) ∧ l < yb) from ⟨hj1, by rw [hyb]; exact World.alloc_heap_new W _, by omega⟩)
  have c1 : (W.alloc (.cells #[.func (.yield l) #[] #[]] 27)).cell? ⟨Bs, 0, none⟩ = some (.slice a N cap) := by rw [hN]; exact cell_of (hB _ _ hj1).box 0
  have c2 : (W.alloc (.cells #[.func (.yield l) #[] #[]] 27)).cell? ⟨yb, 0, none⟩ = some (.func (.yield l) #[] #[]) := cell_of HJ.out.2.1 0
  have hNb : (N : Int) ≤ 255 := by have := HN.out; omega
  have hmx : Try.prog.follows .mixedOrders = true := by kernel_rfl
  clear hB hY hN hD hT h0 hDN hk1 hj1
  refine callsIn_of_wp_marks Try.func53 rfl trivial ?_ rfl
  simp only [Try.ntmps53, List.size_toArray, List.length_cons, List.length_nil, Nat.reduceAdd, Nat.reduceSub, Array.replicate_succ, Array.replicate_zero, List.push_toArray, List.append_toArray, List.nil_append, List.cons_append]
  gi_wp2
  rw [← hyb]
  generalize W.alloc (.cells #[.func (.yield l) #[] #[]] 27) = W1 at HJ c1 c2 ⊢
  clear hyb
  refine wpIn_mono (Q := (fun e a' V => e = Exit.normal ∧ Aft l Bs yb N a cap J a' V)) ?first ?rest
  case first =>
    by_cases hfew : N ≤ 128
    · have hfewI : (N : Int) ≤ 128 := by omega
      have hfewB : decide ((N : Int) ≤ 128) = true := decide_eq_true hfewI
      have HPf := (show Hid (∀ V, Keep noBlock W1 V → Calls Try.prog 54 #[.slice a N cap] V _) from fun V hk => by
        have := putFours_any a cap gb off M V ((HH.out.2.1 _ _ HJ.out.1).row.keep hk (fun _ h => h)) (by have := HN.out; omega) HH.out.1.le
        rw [← HN.out.1] at this
        exact this)
      have HDs := (show Hid (Desc ((List.range (1 + (N + 1) / 2)).map (pfF M N)) (M ++ [x])) from by
        have hn := HN.out
        refine desc_fours HH.out.1 _ (by omega) (by simp [← hn.1]) (by rw [List.getElem?_map, List.getElem?_range (by omega)]; show pfF M N 0 = _; unfold pfF; rw [if_pos rfl]) (fun j => ?_) (by rw [hn.1]; exact pf_map M HH.out.1.le)
        by_cases hj : j < 1 + (N + 1) / 2
        · rw [List.getElem?_map, List.getElem?_range hj]; exact pfF_lt M N j (by omega) HH.out.1.le
        · rw [List.getElem?_eq_none (by simp; omega)]; simp)
      refine wpIn_calm ?_
      gi_region_with_o (first
        | (refine ⟨trivial, (fun h => by cases h), ?_⟩; gi_at_call 54; refine (callsIn_wide.2 (HPf.out _ (Keep.refl noBlock W1).drew)).mono ?_; rintro e V2 ⟨v, rfl, hown, hK2, hnew⟩
           have hy2 := HY.out p0 #[v] true V2 ⟨rfl, v, _, rfl, hown, HDs.out⟩ (HH.out.2.2.1 _ _ _ HJ.out.1 ((Keep.refl noBlock W1).drew.trans' hK2))
           obtain ⟨fn, tmps, assign, body, hy, hR⟩ := hy2
           have HR := (show Hid (RoundIn Fence.wide (n - 1) Try.prog l fn tmps assign body V2 fun e W' => e = .returned (.bool true) ∧ Hid (J true W' ∧ KpL l V2 W')) from hR)
           have HK2 := (show Hid (Keep noBlock W1 V2) from (Keep.refl noBlock W1).drew.trans' hK2)
           have c3 : V2.cell? ⟨yb, 0, none⟩ = some (.func (.yield l) #[] #[]) := cell_of (HK2.out.obj HJ.out.2.1 (fun h => h)) 0
           clear hR hown hnew hK2)
        | (refine ⟨(fun h => by cases h), ?_⟩; refine HR.out.mono ?_; rintro e W2 ⟨rfl, HJ2⟩))
      all_goals
        refine ⟨rfl, _, _, _, _, _, _, _, rfl, ?_⟩
        exact ⟨true, HJ2.out.1, HJ2.out.2.cells _ _ _ (.inr rfl) (HK2.out.obj HJ.out.2.1 (fun h => h)), fun _ => rfl⟩
    · have hfewI : ¬ (N : Int) ≤ 128 := by omega
      have hfewB : decide ((N : Int) ≤ 128) = false := decide_eq_false hfewI
      refine wpIn_calm ?_
      gi_region_with_o (first | (refine ⟨trivial, ?_⟩) | (refine ⟨(fun _ h => by cases h), ?_⟩))
      all_goals
        refine ⟨rfl, _, _, _, _, _, _, _, rfl, ?_⟩
        exact ⟨p0, HH.out.2.2.1 _ _ _ HJ.out.1 (Keep.refl noBlock W1).drew, (Keep.refl noBlock W1).drew.obj HJ.out.2.1 (fun h => h), fun h => absurd h hfew⟩
  case rest =>
    rintro e a' V ⟨rfl, u9, u10, u11, u12, u13, u14, u15, rfl, HS⟩
    have HLy := (show Hid (l < yb) from HJ.out.2.2)
    clear c1 c2 HJ
    simp only [Exit.then]
    obtain ⟨p, hJp, hbx, hp⟩ := HS.out
    have c1 : V.cell? ⟨Bs, 0, none⟩ = some (.slice a N cap) := by rw [HN.out.1]; exact cell_of (HH.out.2.1 _ _ hJp).box 0
    by_cases h2 : N < 2
    · have h2I : (N : Int) < 2 := by omega
      have HP := (show Hid (J p V ∧ (N ≤ 128 → p = true)) from ⟨hJp, hp⟩)
      clear hJp hbx hp HS
      gi_wp2
      obtain ⟨q1, q3⟩ := HP.out
      rw [q3 (by omega)] at q1
      exact ⟨_, results_none rfl _ _ _, ⟨_, rfl⟩, q1⟩
    · have h2I : ¬ (N : Int) < 2 := by omega
      obtain ⟨tb, htb⟩ : ∃ tb, tb = V.heap.size := ⟨_, rfl⟩
      have hkV : Keep noBlock V (V.alloc (.cells #[.slice a N cap] 22)) := (Keep.refl _ V).alloc _
      have HV := (show Hid (J p (V.alloc (.cells #[.slice a N cap] 22)) ∧ (V.alloc (.cells #[.slice a N cap] 22)).heap[yb]? = some (.cells #[.func (.yield l) #[] #[]] 27 (0, 0)) ∧ (V.alloc (.cells #[.slice a N cap] 22)).heap[tb]? = some (.cells #[.slice a N cap] 22 (0, 0)) ∧ (V.alloc (.cells #[.slice a N cap] 22)).heap.size = tb + 1 ∧ l < tb) from
        ⟨HH.out.2.2.1 _ _ _ hJp hkV, hkV.obj hbx (fun h => h), by rw [htb]; exact World.alloc_heap_new V _, by rw [World.size_alloc, htb], by have := obj_lt hbx; have := HLy.out; omega⟩)
      clear hJp hbx hp HS hkV
      gi_wp2_with (refine ⟨trivial, (fun h => by cases h), ?_⟩; gi_at_call 55; refine (tables_in Fence.wide _ trivial rfl _ _ _ _).mono ?_; rintro e w' ⟨rfl, rfl⟩)
      rw [← htb]
      generalize V.alloc (.cells #[.slice a N cap] 22) = V1 at HV ⊢
      clear htb c1
      refine range_iterK (ι := Bool) (gf := 76) (by omega) rfl (enters_of Try.func76 (by kernel_rfl) rfl) (tabR M) (fun q => q = true) false (fun q U => ∃ p, J p U ∧ (q = true → p = true) ∧ U.heap[yb]? = some (.cells #[.func (.yield l) #[] #[]] 27 (0, 0)))
        (fun l2 J2 W hKW hl2 hJI hD2 hDN2 hY2 h0 => ?iter) (fun i vs i' U h => ?ps)
        (fun q vs q' a' U => ∃ (xs : List Int) (lg : Nat) (ca : Option Addr) (ccap cgb coff : Nat), RowI U .i16 ca ccap cgb coff xs ∧ Fit M xs lg ∧ q' = (q || decide (xs = sureL ∧ lg = 6)) ∧
          a' = { tmps := #[.func (.yield l) #[] #[], .pointer (some ⟨Bs, 0, none⟩), .pointer (some ⟨yb, 0, none⟩), .int .i64 (lg : Int), .slice ca xs.length ccap, undef, undef, .slice a N cap, .int .i64 (N : Int), u9, u10, u11, u12, u13, u14, u15, .bool false, .slice a N cap, .int .i64 (N : Int), .bool false, .slice a N cap,
            .func (.func 76) #[] #[.pointer (some ⟨tb, 0, none⟩)], .int .i64 (lg : Int), .slice ca xs.length ccap, undef, undef, undef, undef, undef, undef, undef, undef, undef, undef, undef, undef, undef, undef], defers := [] })
        (fun q U U' h hk => ?keepI) (fun q vs q' a' U U' h hk => ?keepA) ?start ?assign ?body ?done
      case iter =>
        obtain ⟨p', hJ', -, -⟩ := hJI _ _ h0
        refine (tables1_in (n - 1) (by omega) l2 tb a cap gb off M x m HH.out.1 J2 hD2 hY2 W ⟨by rw [← HN.out.1]; exact hKW.obj HV.out.2.2.1, (HH.out.2.1 _ _ hJ').row⟩ false h0).mono ?_
        rintro e W' ⟨h1, h2⟩
        exact ⟨h1, true, rfl, h2⟩
      case ps =>
        obtain ⟨_, _, _, _, _, _, rfl, _⟩ := h
        rfl
      case keepI =>
        obtain ⟨p', h1, h2, h3⟩ := h
        exact ⟨p', HH.out.2.2.2 _ _ _ _ h1 (by have := HV.out; omega) hk, h2, hk.obj h3⟩
      case keepA =>
        obtain ⟨xs, lg, ca, ccap, cgb, coff, h1, h2⟩ := h
        exact ⟨xs, lg, ca, ccap, cgb, coff, h1.keepN hk, h2⟩
      case start => exact ⟨p, HV.out.1, (fun h => by cases h), HV.out.2.1⟩
      case assign =>
        rintro q vs q' U K ⟨xs, lg, ca, ccap, cgb, coff, rfl, h1, h2, h3⟩ hi hK
        gi_wp2
        exact hK _ _ (KeepsFrom.refl _ _) (KpC.refl _) hi ⟨xs, lg, ca, ccap, cgb, coff, h1, h2, h3, rfl⟩
      case body =>
        rintro q vs q' a' U ⟨p', hJ', hq, hbx⟩ ⟨xs, lg, ca, ccap, cgb, coff, hR, hF, hq', rfl⟩
        have hbB := HH.out.2.1 _ _ hJ'
        have c1 : U.cell? ⟨Bs, 0, none⟩ = some (.slice a N cap) := by rw [HN.out.1]; exact cell_of hbB.box 0
        have HPS := (show Hid (Calls Try.prog 56 #[.slice a N cap, .slice ca xs.length ccap, .int .i64 (lg : Int)] U _) from by
          have := putByStates_any a cap gb off M x m ca ccap cgb coff xs lg U hbB.row hR HH.out.1 hF (by have := HN.out; omega)
          rw [← HN.out.1] at this
          exact this)
        have HU := (show Hid (J p' U ∧ (q = true → p' = true) ∧ U.heap[yb]? = some (.cells #[.func (.yield l) #[] #[]] 27 (0, 0)) ∧ q' = (q || decide (xs = sureL ∧ lg = 6))) from ⟨hJ', hq, hbx, hq'⟩)
        obtain ⟨xl, hxl⟩ : ∃ xl, xl = xs.length := ⟨_, rfl⟩
        rw [← hxl] at HPS ⊢
        clear hJ' hq hbx hR hF hq' hbB hxl
        gi_wp2_with fail
        refine ⟨trivial, (fun h => by cases h), ?_⟩
        refine (CallsIn.inRound _ (callsIn_wide.2 HPS.out)).mono ?_
        rintro e w1 ⟨hK1, (⟨v, D, rfl, hown, hDs, hnew⟩ | ⟨hns, rfl⟩)⟩
        · have c2 : w1.cell? ⟨yb, 0, none⟩ = some (.func (.yield l) #[] #[]) := cell_of (hK1.obj HU.out.2.2.1 (fun h => h)) 0
          have hy2 := HY.out p' #[v] true w1 ⟨rfl, v, D, rfl, hown, hDs⟩ (HH.out.2.2.1 _ _ _ HU.out.1 hK1)
          obtain ⟨fn, tmps, assign, body, hy, hR2⟩ := hy2
          have HK1 := (show Hid (Keep noBlock U w1) from hK1)
          clear hK1 hown hDs hnew HPS
          gi_wp2_with fail
          refine ⟨(fun h => by cases h), ?_⟩
          refine (roundIn_inside hR2).mono ?_
          rintro e W3 ⟨rfl, hJ3, hk3⟩
          have hk1 := HK1.out
          have hv := HV.out
          have HE := (show Hid (KeepsFrom V1.heap.size U W3 ∧ (∃ p, J p W3 ∧ (q' = true → p = true) ∧ W3.heap[yb]? = some (.cells #[.func (.yield l) #[] #[]] 27 (0, 0))) ∧ KpC U W3) from
            ⟨⟨Nat.le_trans hk1.size hk3.size, fun k o hk ho hc => hk3.objs k o (by omega) (hk1.obj ho (fun h => h)) hc⟩, ⟨true, hJ3, fun _ => rfl, hk3.cells _ _ _ (.inr rfl) (hk1.obj HU.out.2.2.1 (fun h => h))⟩, hk1.kp.trans hk3.cells⟩)
          clear hk3 hJ3 hR2 hk1 hv
          gi_wp2
          exact ⟨HE.out.1, HE.out.2.1, HE.out.2.2⟩
        · have HE := (show Hid (KeepsFrom V1.heap.size U w1 ∧ (∃ p, J p w1 ∧ (q' = true → p = true) ∧ w1.heap[yb]? = some (.cells #[.func (.yield l) #[] #[]] 27 (0, 0))) ∧ KpC U w1) from by
            obtain ⟨q1, q2, q3, q4⟩ := HU.out
            refine ⟨⟨hK1.size, fun k o hk ho hc => hK1.obj ho (fun h => h)⟩, ⟨p', HH.out.2.2.1 _ _ _ q1 hK1, fun h => q2 ?_, hK1.obj q3 (fun h => h)⟩, hK1.kp⟩
            rw [q4, decide_eq_false hns, Bool.or_false] at h
            exact h)
          clear hK1 hns HPS
          gi_wp2
          refine ⟨(fun _ h => by cases h), ?_⟩
          gi_wp2
          exact ⟨HE.out.1, HE.out.2.1, HE.out.2.2⟩
      case done =>
        rintro q U rfl ⟨p', h1, h2, h3⟩ hD
        rw [h2 rfl] at h1
        have HE := (show Hid (J true U ∧ U.heap[V1.heap.size]? = some (.deferred (some []))) from ⟨h1, hD⟩)
        clear h1 h2 h3 hD
        gi_wp2
        refine ⟨by simp, .inl ⟨_, _, rfl, run_takeDeferred HE.out.2, ?_⟩⟩
        exact ⟨_, results_none rfl _ _ _, ⟨_, rfl⟩, HH.out.2.2.2 _ _ _ V1.heap.size HE.out.1 (by have := HV.out; omega) (keepN_putObj _ (Nat.le_refl _) HE.out.2 rfl)⟩

end Go.Proofs.Ytkljidigmolmmaa

namespace Go.Proofs.Ytkljidigmolmmaa
open Go.RowKit Go.Shelf
set_option linter.unusedVariables false

attribute [local go_sem] Oper.semAt_some

theorem owns_keepN {B : Nat} {w w' : World} {base : Nat} {v : Value} {n : Nat} {ys : List Value} (h : w.ownsRow base 5 1 v n ys) (hk : KeepN B w w') : w'.ownsRow base 5 1 v n ys := by
  refine ⟨h.1, ?_⟩
  rcases h.2 with q | ⟨g, cap, cur, e, hb, hg, q⟩
  · exact .inl q
  · exact .inr ⟨g, cap, cur, e, hb, hk.obj hg, q⟩

set_option maxHeartbeats 1000000 in
theorem write_none (a : Option Addr) (cap gb off : Nat) (ws : List Nat) (w : World) (hB : Bytes w a cap gb off ws) (hc : codeB ws = false) :
    Calls Try.prog 14 #[.slice a ws.length cap] w fun e w' => e = .returned (.tuple #[.slice none 0 0, .int .i64 50]) ∧ w' = w := by
  have HM := (show Hid (Calls Try.prog 21 #[.slice a ws.length cap] w fun e w' => ∃ q : Int, e = .returned (.tuple #[.int .i64 q, .bool false]) ∧ w' = w) from by
    refine (makeCode_any a cap gb off ws w hB).mono ?_
    rintro e w' ⟨l, rfl, h, rfl⟩
    rw [hc]
    exact ⟨_, rfl, rfl⟩)
  clear hB hc
  generalize ws.length = n at *
  refine (callsIn_wide (n := 8)).1 ?_
  refine callsIn_of_wp_marks Try.func14 rfl trivial ?_ rfl
  simp only [Try.ntmps14, List.size_toArray, List.length_cons, List.length_nil, Nat.reduceAdd, Nat.reduceSub, Array.replicate_succ, Array.replicate_zero, List.push_toArray, List.append_toArray, List.nil_append, List.cons_append]
  gi_wp2_with (refine ⟨trivial, ?_⟩; gi_at_call 21; refine (callsIn_wide.2 HM.out).mono ?_; rintro e w' ⟨q, rfl, rfl⟩)
  exact ⟨_, by simp [results, Try.results14], rfl, rfl⟩

/-- What Write has, while it looks for the shortest description. -/
structure WrI (w : World) (ws : List Nat) (a : Option Addr) (k cap b : Nat) (p : Bool) (V : World) : Prop where
  best : ∃ ba bn bc, V.heap[b]? = some (.cells #[.slice ba bn bc] 22 (0, 0)) ∧ ((p = false ∧ ba = none ∧ bn = 0 ∧ bc = 0) ∨ (p = true ∧ ∃ D, bn = D.length ∧ V.ownsRow 0 5 1 (.slice ba bn bc) D.length (u8s D) ∧ Desc D ws))
  box : V.heap[b + 1]? = some (.cells #[.slice a k cap] 22 (0, 0))
  keep : Keep noBlock w V
theorem WrI.keepN {w : World} {ws : List Nat} {a : Option Addr} {k cap b : Nat} {p : Bool} {U V : World} {B : Nat} (h : WrI w ws a k cap b p U) (hk : KeepN B U V) (hB : w.heap.size ≤ B) : WrI w ws a k cap b p V := by
  obtain ⟨⟨ba, bn, bc, h1, h2⟩, h3, h4⟩ := h
  refine ⟨⟨ba, bn, bc, hk.obj h1, h2.imp (fun q => q) ?_⟩, hk.obj h3, h4.transN hk hB⟩
  rintro ⟨q1, D, q2, q3, q4⟩
  exact ⟨q1, D, q2, owns_keepN q3 hk, q4⟩

section
attribute [local go_sem] sliceSem_eq
set_option maxRecDepth 100000 in
set_option maxHeartbeats 4000000 in
theorem write_code (a : Option Addr) (cap gb off : Nat) (ws : List Nat) (m : Nat) (w : World) (hB : Bytes w a cap gb off ws) (hc : IsCode ws m) :
    Calls Try.prog 14 #[.slice a ws.length cap] w fun e w' => ∃ v D, e = .returned (.tuple #[v, .int .i64 0]) ∧ w'.ownsRow 0 5 1 v D.length (u8s D) ∧ Desc D ws ∧ Keep noBlock w w' := by
  have HM := (show Hid (Calls Try.prog 21 #[.slice a ws.length cap] w fun e w' => e = .returned (.tuple #[.int .i64 (m : Int), .bool true]) ∧ w = w') from by
    refine (makeCode_any a cap gb off ws w hB).mono ?_
    rintro e w' ⟨l, rfl, h, rfl⟩
    rw [hc.codeB.1] at h ⊢
    rw [h rfl, hc.codeM]
    exact ⟨rfl, rfl⟩)
  obtain ⟨M, x, hws, hT⟩ := hc.told
  have hl : ws.length = M.length + 1 := by rw [hws]; simp
  have htk : ws.take M.length = M := by rw [hws]; simp
  obtain ⟨hrun, hBM⟩ := hB.take M.length (by omega)
  rw [htk] at hrun hBM
  have hl1 := hT.len
  obtain ⟨n, hn⟩ : ∃ n, n = ws.length := ⟨_, rfl⟩
  obtain ⟨k, hk⟩ : ∃ k, k = M.length := ⟨_, rfl⟩
  rw [← hn] at HM hrun hl ⊢
  rw [← hk] at hrun hl hl1
  have hsub : (n : Int) - 1 = (k : Int) := by omega
  have hnI : (n : Int) ≤ 256 := by omega
  have hkI : (k : Int) ≤ 255 := by omega
  have HH := (show Hid (Told M x m ∧ ws = M ++ [x] ∧ Bytes w a cap gb off M ∧ k = M.length) from ⟨hT, hws, hBM, hk⟩)
  have heq := fun (w : World) (a : Option Addr) (n c n' c' : Nat) => Lib.run_eql_slice_nil (P := Try.prog) w 22 5 a n c n' c' Try.underlying22
  clear hB hc hT hws hl htk hBM hn hk hl1
  refine (callsIn_wide (n := 8)).1 ?_
  refine callsIn_of_wp_marks Try.func14 rfl trivial ?_ rfl
  simp only [Try.ntmps14, List.size_toArray, List.length_cons, List.length_nil, Nat.reduceAdd, Nat.reduceSub, Array.replicate_succ, Array.replicate_zero, List.push_toArray, List.append_toArray, List.nil_append, List.cons_append]
  gi_wp2_with (first | (refine ⟨trivial, ?_⟩; gi_at_call 21; refine (callsIn_wide.2 HM.out).mono ?_; rintro e w' ⟨rfl, rfl⟩) | (refine ⟨trivial, ?_⟩; gi_at_call 34; refine (descriptions_in Fence.wide _ trivial rfl _ _ _ _).mono ?_; rintro e w' ⟨rfl, rfl⟩))
  obtain ⟨b, hb⟩ : ∃ b, b = w.heap.size := ⟨_, rfl⟩
  have hI0 : WrI w ws a k cap b false ((w.alloc (.cells #[.slice none 0 0] 22)).alloc (.cells #[.slice a k cap] 22)) := by
    have o1 := World.alloc_heap_new w (.cells #[.slice none 0 0] 22)
    have o2 := World.alloc_heap_new (w.alloc (.cells #[.slice none 0 0] 22)) (.cells #[.slice a k cap] 22)
    simp only [World.size_alloc] at o1 o2
    rw [← hb] at o1 o2
    exact ⟨⟨none, 0, 0, alloc_far o1 _, .inl ⟨rfl, rfl, rfl, rfl⟩⟩, o2, ((Keep.refl _ w).alloc _).alloc _⟩
  have hsz : ((w.alloc (.cells #[.slice none 0 0] 22)).alloc (.cells #[.slice a k cap] 22)).heap.size = b + 2 := by simp only [World.size_alloc]; rw [hb]
  generalize (w.alloc (.cells #[.slice none 0 0] 22)).alloc (.cells #[.slice a k cap] 22) = W0 at hI0 hsz ⊢
  rw [← hb]
  have HBW := (show Hid (b = w.heap.size ∧ W0.heap.size = b + 2 ∧ WrI w ws a k cap b false W0) from ⟨hb, hsz, hI0⟩)
  clear hb hsz hI0 HM
  refine range_iterK (ι := Bool) (gf := 53) (by omega) rfl (enters_of Try.func53 (by kernel_rfl) rfl) (dscR ws) (fun q => q = true) false (fun q U => WrI w ws a k cap b q U)
    (fun l J W hKW hlW hJI hD hDN hY h0 => ?iter) (fun i vs i' U h => ?ps)
    (fun q vs q' a' U => q' = true ∧ ∃ (va : Option Addr) (vn vc : Nat) (D : List Nat), vn = D.length ∧ U.ownsRow 0 5 1 (.slice va vn vc) D.length (u8s D) ∧ Desc D ws ∧
      a' = { tmps := #[.slice a n cap, undef, .slice none 0 0, .int .i64 0, .int .i64 (m : Int), .bool true, .pointer (some ⟨b, 0, none⟩), .slice va vn vc, .tuple #[.int .i64 (m : Int), .bool true], .slice a n cap, .tuple #[.int .i64 (m : Int), .bool true], .int .i64 (m : Int), .bool true, .bool true, .bool false, .slice a n cap, .slice a n cap, .int .i64 (n : Int), .int .i64 (k : Int), .slice a k cap,
        .func (.func 53) #[] #[.pointer (some ⟨b + 1, 0, none⟩)], .slice va vn vc, undef, undef, undef, undef, undef, undef, undef, undef, undef, undef, undef], defers := [] })
    (fun q U U' h hk => h.keepN hk (by have := HBW.out; omega)) (fun q vs q' a' U U' h hk => ?keepA) HBW.out.2.2 ?assign ?body ?done
  case iter =>
    refine (descriptions1_in 7 (by omega) l (b + 1) a cap gb off M x m HH.out.1 J (fun p U hp => ?_) hD hDN ?_ W hlW false h0).mono ?_
    · have := hJI p U hp
      exact ⟨by rw [← HH.out.2.2.2]; exact this.box, HH.out.2.2.1.keep this.keep (fun _ h => h)⟩
    · rw [← HH.out.2.1]; exact hY
    · rintro e W' ⟨h1, h2⟩
      exact ⟨h1, true, rfl, h2⟩
  case ps =>
    obtain ⟨_, _, _, rfl, _⟩ := h
    rfl
  case keepA =>
    obtain ⟨h1, va, vn, vc, D, h2, h3, h4⟩ := h
    exact ⟨h1, va, vn, vc, D, h2, owns_keepN h3 hk, h4⟩
  case assign =>
    rintro q vs q' U K ⟨h1, v, D, rfl, h2, h3⟩ hi hK
    obtain ⟨va, vc, rfl⟩ := owns_form h2
    gi_wp2
    exact hK _ _ (KeepsFrom.refl _ _) (KpC.refl _) hi ⟨h1, va, _, vc, D, rfl, h2, h3, rfl⟩
  case body =>
    rintro q vs q' a' U hi ⟨rfl, va, vn, vc, D, hvn, hown, hDs, rfl⟩
    obtain ⟨⟨ba, bn, bc, h1, h2⟩, h3, h4⟩ := hi
    have c1 : U.cell? ⟨b, 0, none⟩ = some (.slice ba bn bc) := cell_of h1 0
    have f1 := frozen_of h1 0
    have hDl := hDs.len
    have hvI : (vn : Int) ≤ 129 := by omega
    have hks : Keep (fun j => j = b) U (U.setCell ⟨b, 0, none⟩ (.slice va vn vc)) := (Keep.refl (fun j => j = b) U).setCell (p := ⟨b, 0, none⟩) (fun _ => rfl) _
    have HN := (show Hid (WrI w ws a k cap b true (U.setCell ⟨b, 0, none⟩ (.slice va vn vc)) ∧ KeepsFrom W0.heap.size U (U.setCell ⟨b, 0, none⟩ (.slice va vn vc)) ∧ KpC U (U.setCell ⟨b, 0, none⟩ (.slice va vn vc))) from by
      have hbw := HBW.out
      refine ⟨⟨⟨va, vn, vc, (set_obj h1 0 _).trans (by simp), .inr ⟨rfl, D, hvn, owns_kept hown hks (fun g hg e => owns_ne hown h1 (by decide) (by rw [← e]; exact hg)), hDs⟩⟩, set_far h3 (by omega) _ _, h4.trans hks (fun i hi e => by omega)⟩, (KeepsOthers.setCell _ _ _).from _, fun i cs t ht hh => set_far hh (fun e => ?_) _ _⟩
      subst e
      rw [h1] at hh
      cases hh
      rcases ht with h | h <;> cases h)
    have HO := (show Hid (WrI w ws a k cap b q U) from ⟨⟨ba, bn, bc, h1, h2⟩, h3, h4⟩)
    rcases h2 with ⟨hq, rfl, rfl, rfl⟩ | ⟨hq, D2, hbn, hown2, hDs2⟩
    · have he := heq
      clear h1 h3 h4 hvn hown hDs hDl hks
      gi_wp2
      exact ⟨HN.out.2.1, HN.out.1, HN.out.2.2⟩
    · have hba : ∃ ad, ba = some ad := by
        cases ba with
        | none =>
          rcases hown2.2 with ⟨e, e0⟩ | ⟨g, cap', cur, e, _⟩
          · exact absurd (List.eq_nil_of_length_eq_zero e0) hDs2.ne
          · cases e
        | some ad => exact ⟨ad, rfl⟩
      obtain ⟨ad, rfl⟩ := hba
      have hbI : (bn : Int) ≤ 129 := by have := hDs2.len; omega
      subst hq
      clear h1 h3 h4 hvn hown hDs hDl hks hbn hown2 hDs2
      by_cases hlt : vn < bn
      · have hltI : (vn : Int) < (bn : Int) := by omega
        have hltB : decide (vn < bn) = true := decide_eq_true hlt
        gi_wp2
        exact ⟨HN.out.2.1, HN.out.1, HN.out.2.2⟩
      · have hltI : ¬ (vn : Int) < (bn : Int) := by omega
        have hltB : decide (vn < bn) = false := decide_eq_false hlt
        gi_wp2
        exact ⟨KeepsFrom.refl _ _, HO.out, KpC.refl _⟩
  case done =>
    rintro q U rfl hi hD
    obtain ⟨⟨ba, bn, bc, h1, h2⟩, h3, h4⟩ := hi
    obtain ⟨D, hbn, hown, hDs⟩ : ∃ D, bn = D.length ∧ U.ownsRow 0 5 1 (.slice ba bn bc) D.length (u8s D) ∧ Desc D ws := by
      rcases h2 with ⟨h, _⟩ | ⟨_, h⟩
      · cases h
      · exact h
    have c1 : U.cell? ⟨b, 0, none⟩ = some (.slice ba bn bc) := cell_of h1 0
    have HE := (show Hid (U.ownsRow 0 5 1 (.slice ba bn bc) D.length (u8s D) ∧ Desc D ws ∧ Keep noBlock w U ∧ U.heap[W0.heap.size]? = some (.deferred (some []))) from ⟨hown, hDs, h4, hD⟩)
    clear h1 h2 h3 h4 hown hDs hbn hD
    gi_wp2
    obtain ⟨hown, hDs, hK, hD⟩ := HE.out
    refine ⟨by simp, .inl ⟨_, _, rfl, run_takeDeferred hD, ?_⟩⟩
    have hkp : Keep (fun j => j = W0.heap.size) U (U.putObj W0.heap.size (.deferred none)) := (Keep.refl _ U).putObj _ _ (fun _ => rfl)
    refine ⟨.tuple #[.slice ba bn bc, .int .i64 0], by simp [results, Try.results14], _, D, rfl, owns_kept hown hkp (fun g hg e => ?_), hDs, hK.trans hkp (fun i hi e => by have := HBW.out; omega)⟩
    rcases hown.2 with ⟨e1, _⟩ | ⟨g2, cap2, cur, e1, _, hg2, _⟩
    · rw [e1] at hg; cases hg
    · rw [e1] at hg
      obtain rfl : g2 = g := by simpa [Value.ownBlock] using hg
      rw [e, hD] at hg2
      cases hg2
end

end Go.Proofs.Ytkljidigmolmmaa

namespace Go.Proofs.Ytkljidigmolmmaa
open Go.RowKit Go.Shelf
set_option linter.unusedVariables false

/-- append onto a row of one's own, from whatever slice of bytes, as long as slices may be. -/
theorem run_append_big (w : World) (ty : TypeId) (v : Value) (M bs : List Nat) (hown : w.ownsRow 0 5 1 v M.length (u8s M)) (hlen : M.length + bs.length ≤ 140737488355328) (sv : Value) (h : SrcB w sv bs) :
    ∃ v' w', (Builtin.append_ #[22, 22] ty #[v, sv]).run Try.prog w = .ok v' w' ∧ w'.ownsRow 0 5 1 v' (M ++ bs).length (u8s (M ++ bs)) ∧ Keep (fun k => v.ownBlock = some k) w w' := by
  obtain ⟨i0, hi, hz0, hz1, hz2⟩ := info_parts info5
  have happ : u8s (M ++ bs) = u8s M ++ u8s bs := by simp [u8s]
  rcases h with ⟨rfl, rfl⟩ | ⟨a, c, rfl, hc⟩
  · refine ⟨v, w, ?_, by simpa using hown, Keep.refl _ _⟩
    rcases hown.2 with ⟨rfl, h0⟩ | ⟨g, cap, cur, rfl, _, hg, hr1, hr2, _⟩
    · simp [Builtin.append_, run_underlying Try.underlying22, sizeOf, typeInfo, hi, Builtin.lenOf, go_sem]
    · have hcap : M.length ≤ cap := by omega
      simp [Builtin.append_, run_underlying Try.underlying22, sizeOf, typeInfo, hi, Builtin.lenOf, go_sem, hcap]
  · obtain ⟨v', w', hr, h2, h3, h4, h5⟩ := run_append_own_at (P := Try.prog) w 0 22 ty 5 i0 (.int .u8 0) 1 1 Try.underlying22 hi hz0 hz1 hz2 rfl (by decide) v M.length (u8s M) hown a bs.length c (u8s bs) (by simp [u8s_length]) hc (u8s_one bs) (by unfold maxLen; omega) (by omega) (Nat.zero_le _)
    exact ⟨v', w', hr, by rw [List.length_append, happ]; exact h2, (Keep.refl _ w).grown h3 (fun k e _ => e)⟩

set_option maxRecDepth 100000 in
set_option maxHeartbeats 4000000 in
theorem back_any (a1 : Option Addr) (cap1 gb1 off1 : Nat) (ws : List Nat) (a2 : Option Addr) (cap2 gb2 off2 : Nat) (bh : List Nat) (w : World) (hB1 : Bytes w a1 cap1 gb1 off1 ws) (hB2 : Bytes w a2 cap2 gb2 off2 bh) (hl : bh.length ≤ 140737488351232) :
    Calls Try.prog 5 #[.slice a1 ws.length cap1, .slice a2 bh.length cap2] w fun e w' => e = .returned (.bool true) ∧ Keep noBlock w w' := by
  have HB := (show Hid (∀ W, Keep noBlock w W → Calls Try.prog 15 #[.slice a1 ws.length cap1] W fun e w' => e = .returned (.int .i64 ((codeM ws : Nat) : Int)) ∧ W = w') from fun W hk => (bitsD_any a1 cap1 gb1 off1 ws W (hB1.keep hk (fun _ h => h))).mono (fun e w' h => ⟨h.1, h.2.symm⟩))
  cases hc : codeB ws with
  | false =>
    have HW := (show Hid (Calls Try.prog 14 #[.slice a1 ws.length cap1] w fun e w' => e = .returned (.tuple #[.slice none 0 0, .int .i64 50]) ∧ w = w') from (write_none a1 cap1 gb1 off1 ws w hB1 hc).mono (fun e w' h => ⟨h.1, h.2.symm⟩))
    rw [codeM_zero.2 hc, show (((0 : Nat) : Int)) = (0 : Int) from rfl] at HB
    generalize ws.length = n1 at *
    generalize bh.length = n2 at *
    clear hB1 hB2 hc hl
    go_enter Try.func5, Try.ntmps5
    go_wp2_with (first | (go_at_call 14; refine HW.out.mono ?_; rintro e w' ⟨rfl, rfl⟩) | (go_at_call 15; refine (HB.out _ (Keep.refl _ w)).mono ?_; rintro e w' ⟨rfl, rfl⟩) | (go_at_call 9; refine (wakes_any _).mono ?_; rintro e w7 ⟨rfl, hK7⟩))
    go_ret
    exact ⟨rfl, hK7⟩
  | true =>
    have hcode := codeM_is hc
    have hm1 := hcode.m1
    have HW := (show Hid (Calls Try.prog 14 #[.slice a1 ws.length cap1] w fun e w' => ∃ v D, e = .returned (.tuple #[v, .int .i64 0]) ∧ w'.ownsRow 0 5 1 v D.length (u8s D) ∧ Desc D ws ∧ Keep noBlock w w') from write_code a1 cap1 gb1 off1 ws _ w hB1 hcode)
    have hmI : (((codeM ws : Nat) : Int) == 0) = false := by rw [beq_eq_false_iff_ne]; omega
    generalize codeM ws = cm at *
    have HH := (show Hid (Bytes w a1 cap1 gb1 off1 ws ∧ Bytes w a2 cap2 gb2 off2 bh ∧ bh.length ≤ 140737488351232) from ⟨hB1, hB2, hl⟩)
    obtain ⟨n1, hn1⟩ : ∃ n1, n1 = ws.length := ⟨_, rfl⟩
    obtain ⟨n2, hn2⟩ : ∃ n2, n2 = bh.length := ⟨_, rfl⟩
    rw [← hn1] at HW HB ⊢
    rw [← hn2] at hl ⊢
    have HN := (show Hid (n1 = ws.length ∧ n2 = bh.length) from ⟨hn1, hn2⟩)
    have hn2I : (n2 : Int) ≤ 140737488351232 := by omega
    clear hB1 hB2 hc hcode hm1 hn1 hn2 hl
    go_enter Try.func5, Try.ntmps5
    go_wp2_with fail
    refine HW.out.mono ?_
    rintro e w1 ⟨v, D, rfl, hown, hDs, hK1⟩
    obtain ⟨va, vc, rfl⟩ := owns_form hown
    have hDl := hDs.len
    -- append([]byte{}, b...)
    have hk2 : Keep noBlock w1 (w1.alloc (.cells #[] 5)) := (Keep.refl _ w1).alloc _
    have hmade := World.ownsRow_made (e := 5) (size := 1) (base := 0) w1 #[] 0 (Nat.zero_le _) (Nat.zero_le _) rfl
    obtain ⟨v3, W3, hrun3, hown3, hK3, hm3⟩ := run_append_all (w1.alloc (.cells #[] 5)) 22 (.slice (some ⟨w1.heap.size, 0, none⟩) 0 0) [] D (by simpa [u8s] using hmade) (by simp; omega) (.slice va D.length vc) (srcB_owns (owns_kept hown hk2 (fun _ _ h => h)) hDs.lt (by omega))
    rw [List.nil_append] at hown3
    have hKw3 : Keep noBlock w W3 := (hK1.trans' hk2).trans hK3 (fun j hj e => by
      have : w1.heap.size = j := by simpa [Value.ownBlock] using e
      have := hK1.size
      omega)
    have hnew3 : ∀ j, v3.ownBlock = some j → w.heap.size ≤ j := fun j e => by
      have hs := hK1.size
      rcases hm3 with q | ⟨i, q, hi⟩
      · rw [q] at e
        have : w1.heap.size = j := by simpa [Value.ownBlock] using e
        omega
      · rw [q] at e; cases e
        rw [World.size_alloc] at hi
        omega
    -- append(.., behind...)
    obtain ⟨v4, W4, hrun4, hown4, hK4⟩ := run_append_big W3 22 v3 D bh hown3 (by have := HH.out.2.2; omega) (.slice a2 bh.length cap2) (HH.out.2.1.keep hKw3 (fun _ h => h)).src
    have hKw4 : Keep noBlock w W4 := hKw3.trans hK4 (fun j hj e => by have := hnew3 j e; omega)
    obtain ⟨xa, xc, xg, rfl, hBx, -⟩ := owns_bytes hown4 (fun j => by
      by_cases hj : j < D.length
      · rw [List.getElem?_append_left hj]; exact hDs.lt j
      · rw [List.getElem?_append_right (by omega)]; exact HH.out.2.1.lt _) (by rw [List.length_append]; have := HH.out.2.2; omega)
    have HR := (show Hid (Calls Try.prog 7 #[.slice xa (D ++ bh).length xc] W4 fun e w' => RAns 0 D.length ws W4 e w') from hDs.read bh xa xc xg 0 W4 hBx)
    obtain ⟨ln, hln⟩ : ∃ ln, ln = (D ++ bh).length := ⟨_, rfl⟩
    rw [← hln] at HR hrun4
    obtain ⟨dn, hdn⟩ : ∃ dn, dn = D.length := ⟨_, rfl⟩
    rw [← hdn] at HR hrun3 hDl ⊢
    rw [← HN.out.2] at hrun4
    have HK := (show Hid (Keep noBlock w w1 ∧ Keep noBlock w W4) from ⟨hK1, hKw4⟩)
    have hdI : (dn : Int) ≤ 129 := by omega
    clear hown hDs hK1 hk2 hmade hown3 hK3 hm3 hKw3 hnew3 hown4 hK4 hKw4 hBx hln hdn HW
    go_wp2_with fail
    refine (HB.out _ HK.out.1).mono ?_
    rintro e w' ⟨rfl, rfl⟩
    go_wp2_with (first | (at_builtin; refine wpList_append_run _ rfl _ _ 22 rfl _ _ _ _ rfl rfl hrun3 ?_) | (at_builtin; refine wpList_append_run _ rfl _ _ 22 rfl _ _ _ _ rfl rfl hrun4 ?_))
    refine HR.out.mono ?_
    rintro e w5 ⟨hK5, ya, yn, yc, rfl, hyn, hown5⟩
    have hc1 := run_conv (Src.of_owns (bs := ws) (by rw [← hyn]; exact hown5 : w5.ownsRow 0 5 1 (.slice ya yn yc) ws.length (u8s ws)))
    have hKw5 := HK.out.2.trans' hK5
    have hc2 := run_convB (HH.out.1.keep hKw5 (fun _ h => h)).src
    rw [← HN.out.1] at hc2
    generalize strOf ws = S1 at hc1 hc2
    rw [show (((0 : Nat) : Int)) = (0 : Int) from rfl]
    have HK5 := (show Hid (Keep noBlock w w5) from hKw5)
    clear hown5 hyn hK5 hKw5 hrun3 hrun4 HR
    go_wp2_with (go_at_call 9; refine (wakes_any _).mono ?_; rintro e w7 ⟨rfl, hK7⟩)
    go_ret
    exact ⟨rfl, HK5.out.trans' hK7⟩

end Go.Proofs.Ytkljidigmolmmaa
