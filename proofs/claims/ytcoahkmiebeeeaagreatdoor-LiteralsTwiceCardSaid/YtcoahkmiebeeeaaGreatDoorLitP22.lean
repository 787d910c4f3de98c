/-
  putFours: weights of four bits.
  descriptions: the descriptions of weights, of both kinds.
  Write of weights that make a code: a description of them.
  descriptions lie in new memory.
  Write of weights that make a code: the description lies in new memory.
  packAnew.
  allAlike.
-/
import Derived.Test.YtcoahkmiebeeeaaGreatDoorLitP4
import Derived.Test.YtcoahkmiebeeeaaGreatDoorLitP9
import Derived.Test.YtcoahkmiebeeeaaGreatDoorLitP14
import Derived.Test.YtcoahkmiebeeeaaGreatDoorLitP15
import Derived.Test.YtcoahkmiebeeeaaGreatDoorLitP18
import Derived.Test.YtcoahkmiebeeeaaGreatDoorLitP20
import Derived.Test.YtcoahkmiebeeeaaGreatDoorLitP21
namespace Go.Proofs.YtcoahkmiebeeeaaGreatDoor
open Go.RowKit Go.Shelf
set_option linter.unusedVariables false

def pfB (M : List Nat) (k j : Nat) : Nat := (if 2 * j < k then 16 * wt M (2 * j) else 0) + (if 2 * j + 1 < k then wt M (2 * j + 1) else 0)
def pfF (M : List Nat) (k j : Nat) : Nat := if j = 0 then M.length + 127 else pfB M k (j - 1)
theorem isA_owns {w : World} {tb N : Nat} {g : Nat → Nat} (h : IsA w tb 5 .u8 N (fun j => ((g j : Nat) : Int))) (hN : N ≤ 100000) : w.ownsRow 0 5 1 (.slice (some ⟨tb, 0, none⟩) N N) ((List.range N).map g).length (u8s ((List.range N).map g)) := by
  obtain ⟨cs, h1, h2, h3⟩ := h.obj
  have hl : ((List.range N).map g).length = N := by simp
  have := owns_mk (M := (List.range N).map g) (cap := N) h1 (by omega) (by unfold maxLen; omega) h2 (by
    rw [hl]
    refine List.ext_getElem? fun j => ?_
    by_cases hj : j < N
    · rw [List.getElem?_take, if_pos hj, Array.getElem?_toList, h3 j hj, u8s_at _ j (by omega), List.getElem?_map, List.getElem?_range hj]
      rfl
    · rw [List.getElem?_eq_none (by rw [List.length_take]; omega), List.getElem?_eq_none (by rw [u8s_length]; omega)])
  rw [hl] at this ⊢
  exact this
theorem or_low (p x : Nat) (hp : p < 16) (hx : x < 16) : bits .or .u8 ((16 * p : Nat) : Int) (x : Int) = ((16 * p + x : Nat) : Int) := by
  revert x; revert p; decide +kernel
theorem or_high (x : Nat) (hx : x < 16) : bits .or .u8 0 ((16 * x : Nat) : Int) = ((16 * x : Nat) : Int) := by
  revert x; decide +kernel
theorem pf_map (M : List Nat) (hle : ∀ i, i < M.length → wt M i ≤ 11) : (List.range M.length).map (fourW (((List.range (1 + (M.length + 1) / 2)).map (pfF M M.length)).drop 1)) = M := by
  refine List.ext_getElem? fun j => ?_
  by_cases hj : j < M.length
  · rw [List.getElem?_map, List.getElem?_range hj]
    have e : (((List.range (1 + (M.length + 1) / 2)).map (pfF M M.length)).drop 1)[j / 2]?.getD 0 = pfB M M.length (j / 2) := by
      rw [List.getElem?_drop, List.getElem?_map, List.getElem?_range (by omega)]
      show pfF M M.length (1 + j / 2) = _
      unfold pfF
      rw [if_neg (by omega), show 1 + j / 2 - 1 = j / 2 from by omega]
    have hw : M[j]? = some (wt M j) := by unfold wt; rw [List.getElem?_eq_getElem hj]; rfl
    rw [hw]
    show some (fourW _ j) = _
    congr 1
    unfold fourW
    rw [e]
    unfold pfB
    have h1 := hle j hj
    by_cases hp : j % 2 = 1
    · rw [if_pos hp, if_pos (by omega), if_pos (by omega), show 2 * (j / 2) + 1 = j from by omega]
      omega
    · rw [if_neg hp, if_pos (by omega), show 2 * (j / 2) = j from by omega]
      split
      · have := hle (j + 1) (by omega); omega
      · omega
  · rw [List.getElem?_eq_none (by simp; omega), List.getElem?_eq_none (by omega)]
theorem pfF_lt (M : List Nat) (k j : Nat) (hl : M.length ≤ 128) (hle : ∀ i, i < M.length → wt M i ≤ 11) : pfF M k j < 256 := by
  have hw : ∀ i, wt M i ≤ 11 := fun i => by
    by_cases hi : i < M.length
    · exact hle i hi
    · unfold wt; rw [List.getElem?_eq_none (by omega)]; simp
  unfold pfF
  split
  · omega
  · unfold pfB
    have h1 := hw (2 * (j - 1))
    have h2 := hw (2 * (j - 1) + 1)
    split <;> split <;> omega

section
set_option maxRecDepth 100000 in
set_option maxHeartbeats 2000000 in
theorem putFours_any (a : Option Addr) (cap gb off : Nat) (M : List Nat) (w : World) (hB : Bytes w a cap gb off M) (hl : M.length ≤ 128) (hle : ∀ i, i < M.length → wt M i ≤ 11) :
    Calls Tryz.prog 67 #[.slice a M.length cap] w fun e w' => ∃ v, e = .returned v ∧ w'.ownsRow 0 5 1 v ((List.range (1 + (M.length + 1) / 2)).map (pfF M M.length)).length (u8s ((List.range (1 + (M.length + 1) / 2)).map (pfF M M.length))) ∧ Keep noBlock w w' ∧ ∀ k, v.ownBlock = some k → w.heap.size ≤ k := by
  obtain ⟨N, hN⟩ : ∃ N, N = 1 + (M.length + 1) / 2 := ⟨_, rfl⟩
  rw [← hN]
  have hmk : ∀ W : World, _ := fun W => run_make_u8 N N (Nat.le_refl _) (by omega) W
  have HB := (show Hid (Bytes w a cap gb off M ∧ ∀ i, i < M.length → wt M i ≤ 11) from ⟨hB, hle⟩)
  obtain ⟨n, hn⟩ : ∃ n, n = M.length := ⟨_, rfl⟩
  have HN := (show Hid (n = M.length ∧ N = 1 + (n + 1) / 2) from ⟨hn, by omega⟩)
  rw [← hn] at hl hN
  have hnI : (n : Int) ≤ 128 := by omega
  have hq : ((n : Int) + 1) / 2 = (((n + 1) / 2 : Nat) : Int) := by omega
  obtain ⟨d, hd⟩ : ∃ d, d = (n + 1) / 2 := ⟨_, rfl⟩
  rw [← hd] at hq hN
  have hqT : ((n : Int) + 1).tdiv 2 = (d : Int) := by rw [Int.tdiv_eq_ediv_of_nonneg (by omega)]; exact hq
  have hN1 : 1 + (d : Int) = (N : Int) := by omega
  have hNp : (0 : Int) < (N : Int) := by omega
  have hNb : (N : Int) ≤ 100 := by omega
  have hdb : (d : Int) ≤ 65 := by omega
  obtain ⟨h, hh⟩ : ∃ h, h = n + 127 := ⟨_, rfl⟩
  have hhI : 127 + (n : Int) = (h : Int) := by omega
  have hh8 : (h : Int) < 256 := by omega
  obtain ⟨tb, htb⟩ : ∃ tb, tb = w.heap.size := ⟨_, rfl⟩
  have hk0 : Keep noBlock w (w.alloc (.cells (u8s (List.replicate N 0)).toArray 5)) := (Keep.refl _ w).alloc _
  have hA0 : IsA (w.alloc (.cells (u8s (List.replicate N 0)).toArray 5)) tb 5 .u8 N (fun _ => 0) := by
    rw [htb]
    refine ⟨_, World.alloc_heap_new w _, by simp [u8s], fun i hi => ?_⟩
    have := u8s_at (List.replicate N 0) i (by simpa using hi)
    rw [List.getElem?_toArray, this]
    simp [hi]
  have c0 := hA0.cell 0 (by omega)
  have f0 := hA0.frozen 0
  have HA := (show Hid (IsA (w.alloc (.cells ((u8s (List.replicate N 0)).set 0 (.int .u8 (h : Int))).toArray 5)) w.heap.size 5 .u8 N (fun j => ((pfF M 0 j : Nat) : Int)) ∧ Keep noBlock w (w.alloc (.cells ((u8s (List.replicate N 0)).set 0 (.int .u8 (h : Int))).toArray 5))) from by
    refine ⟨⟨_, World.alloc_heap_new w _, by simp [u8s], fun i hi => ?_⟩, (Keep.refl _ w).alloc _⟩
    rw [List.getElem?_toArray, List.getElem?_set]
    unfold pfF
    by_cases e : i = 0
    · rw [if_pos e.symm, if_pos (by simp [u8s]; omega), if_pos e, hh, hn]
    · rw [if_neg (fun q => e q.symm), u8s_at (List.replicate N 0) i (by simpa using hi), if_neg e]
      unfold pfB
      rw [if_neg (by omega), if_neg (by omega)]
      simp [hi])
  have HT := (show Hid (tb = w.heap.size) from htb)
  rw [← hn]
  rw [htb] at c0 f0
  clear hB hle hn hN hd hh hk0 hA0
  go_enter Tryz.func67, Tryz.ntmps67
  go_wp2
  rw [← htb]
  clear htb c0 f0
  go_loopw [20] (fun v20 wr => ∃ i : Nat, v20 = .int .i64 (i : Int) ∧ i ≤ n ∧ Hid (IsA wr tb 5 .u8 N (fun j => ((pfF M i j : Nat) : Int)) ∧ Keep noBlock w wr)) (fun v20 _ => n - (intOf v20).toNat)
  case atStart =>
    have q := HA.out
    rw [HT.out]
    exact ⟨0, rfl, Nat.zero_le _, q⟩
  case round =>
    clear HA
    obtain ⟨i, rfl, hi, HC⟩ := hrel
    by_cases hlt : i < n
    · have hltI : (i : Int) < (n : Int) := by omega
      have hix : i < M.length := by have := HN.out; omega
      obtain ⟨hA, hK⟩ := HC.out
      obtain rfl := HB.out.1.here hix
      have c1 := (HB.out.1.keep hK (fun _ h => h)).cells i hix
      have hx11 := HB.out.2 i hix
      have hxw : wt M i = M[i]?.getD 0 := rfl
      obtain ⟨d, hd⟩ : ∃ d, d = i / 2 := ⟨_, rfl⟩
      have hdI : (i : Int) / 2 = (d : Int) := by omega
      have hdT : (i : Int).tdiv 2 = (d : Int) := by rw [Int.tdiv_eq_ediv_of_nonneg (by omega)]; exact hdI
      have hdN : 1 + d < N := by have := HN.out; omega
      have hdNI : 1 + (d : Int) < (N : Int) := by omega
      have hd64 : (d : Int) ≤ 64 := by omega
      have c2 := hA.cell (1 + d) hdN
      have f2 := hA.frozen (1 + d)
      have e2 : pfF M i (1 + d) = pfB M i d := by unfold pfF; rw [if_neg (by omega), show 1 + d - 1 = d from by omega]
      rw [e2] at c2
      have hset := fun z : Nat => hA.set (1 + d) (z : Int)
      have hks : ∀ x : Value, Keep noBlock w (wr.setCell ⟨tb, 1 + d, none⟩ x) := fun x => hK.setCell (p := ⟨tb, 1 + d, none⟩) (fun h => by dsimp only at h; have := HT.out; omega) _
      have hcong : ∀ z : Nat, z = pfB M (i + 1) d → Hid (IsA (wr.setCell ⟨tb, 1 + d, none⟩ (.int .u8 (z : Int))) tb 5 .u8 N (fun j => ((pfF M (i + 1) j : Nat) : Int)) ∧ Keep noBlock w (wr.setCell ⟨tb, 1 + d, none⟩ (.int .u8 (z : Int)))) := fun z hz => by
        refine ⟨(hset z).congr (fun j hj => ?_), hks _⟩
        by_cases e : j = 1 + d
        · rw [if_pos e, e, hz]; unfold pfF; rw [if_neg (by omega), show 1 + d - 1 = d from by omega]
        · rw [if_neg e]
          unfold pfF
          by_cases e0 : j = 0
          · rw [if_pos e0, if_pos e0]
          · rw [if_neg e0, if_neg e0]
            unfold pfB
            congr 2
            · by_cases q : 2 * (j - 1) < i
              · rw [if_pos q, if_pos (by omega)]
              · rw [if_neg q, if_neg (by omega)]
            · by_cases q : 2 * (j - 1) + 1 < i
              · rw [if_pos q, if_pos (by omega)]
              · rw [if_neg q, if_neg (by omega)]
      obtain ⟨x, hx⟩ : ∃ x, x = M[i]?.getD 0 := ⟨_, rfl⟩
      rw [← hx] at c1 hxw
      rw [hxw] at hx11
      have hxI : (x : Int) ≤ 11 := by omega
      by_cases hp : i % 2 = 0
      · have hpI : (i : Int) % 2 = 0 := by omega
        have hpT : (i : Int).tmod 2 = 0 := by rw [Int.tmod_eq_emod_of_nonneg (by omega)]; exact hpI
        have e3 : pfB M i d = 0 := by unfold pfB; rw [if_neg (by omega), if_neg (by omega)]
        have e4 : 16 * x = pfB M (i + 1) d := by unfold pfB; rw [if_pos (by omega), if_neg (by omega), show 2 * d = i from by omega, hxw]; rfl
        rw [e3, show ((0 : Nat) : Int) = (0 : Int) from rfl] at c2
        have HE := hcong (16 * x) e4
        have hor := or_high x (by omega)
        obtain ⟨y, hy⟩ : ∃ y, y = 16 * x := ⟨_, rfl⟩
        rw [← hy] at HE hor
        have hsh : (x : Int) * 2 ^ 4 = (y : Int) := by omega
        have hsh2 : (x : Int) * 16 = (y : Int) := by omega
        have hyI : (y : Int) < 256 := by omega
        clear hA hK hcong hset hks e2 e3 e4 HC hd hx hy hxw hx11 hp hix
        go_wp2
        go_roundw
        case rel => exact ⟨i + 1, by go_num, by omega, HE.out⟩
        case measure => simp [intOf]; omega
      · have hpI : (i : Int) % 2 = 1 := by omega
        have hpT : (i : Int).tmod 2 = 1 := by rw [Int.tmod_eq_emod_of_nonneg (by omega)]; exact hpI
        have hpw := HB.out.2 (2 * d) (by omega)
        have e3 : pfB M i d = 16 * wt M (2 * d) := by unfold pfB; rw [if_pos (by omega), if_neg (by omega)]; rfl
        have e4 : 16 * wt M (2 * d) + x = pfB M (i + 1) d := by unfold pfB; rw [if_pos (by omega), if_pos (by omega), show 2 * d + 1 = i from by omega, hxw]
        rw [e3] at c2
        have HE := hcong _ e4
        have hor := or_low (wt M (2 * d)) x (by omega) (by omega)
        obtain ⟨y, hy⟩ : ∃ y, y = 16 * wt M (2 * d) := ⟨_, rfl⟩
        rw [← hy] at HE hor c2
        obtain ⟨z, hz⟩ : ∃ z, z = y + x := ⟨_, rfl⟩
        rw [← hz] at HE hor
        have hyI : (y : Int) < 256 := by omega
        have hzI : (z : Int) < 256 := by omega
        clear hA hK hcong hset hks e2 e3 e4 HC hd hx hy hxw hx11 hp hix hpw hz
        go_wp2
        go_roundw
        case rel => exact ⟨i + 1, by go_num, by omega, HE.out⟩
        case measure => simp [intOf]; omega
    · obtain rfl : i = n := by omega
      have hltI : ¬ (i : Int) < (i : Int) := by omega
      go_wp2
      go_ret
      obtain ⟨hA, hK⟩ := HC.out
      have q := isA_owns hA (by have := HN.out; omega)
      rw [show ((List.range N).map (pfF M i)).length = N from by simp] at q
      exact ⟨_, rfl, q, hK, fun k e => by simp [Value.ownBlock] at e; have := HT.out; omega⟩
end

end Go.Proofs.YtcoahkmiebeeeaaGreatDoor

namespace Go.Proofs.YtcoahkmiebeeeaaGreatDoor
open Go.RowKit Go.Shelf
set_option linter.unusedVariables false

attribute [local go_sem] Oper.semAt_some

set_option maxHeartbeats 1000000 in
theorem descriptions_in (F : Fence) (n : Nat) (h34 : F.fn 47) (hro : F.round = none) (a : Option Addr) (len cap : Nat) (w : World) :
    CallsIn F n Tryz.prog 47 #[.slice a len cap] w fun e w' => e = .returned (.func (.func 66) #[] #[.pointer (some ⟨w.heap.size, 0, none⟩)]) ∧ w' = w.alloc (.cells #[.slice a len cap] 22) := by
  refine callsIn_of_wp Tryz.func47 rfl h34 ?_ hro
  simp only [Tryz.ntmps47, List.size_toArray, List.length_cons, List.length_nil, Nat.reduceAdd, Nat.reduceSub, Array.replicate_succ, Array.replicate_zero, List.push_toArray, List.append_toArray, List.nil_append, List.cons_append]
  gi_wp2
  go_ret
  exact ⟨rfl, rfl⟩

theorem roundIn_inside {n n' l l' : Nat} {P : Program} {f : FuncId} {tmps : Array Value} {assign body : Code} {w : World} {R : Ending → World → Prop} (h : RoundIn Fence.wide n P l f tmps assign body w R) : RoundIn (Fence.wide.inRound l') n' P l f tmps assign body w R :=
  ⟨h.1, fun c cs _ => h.2 c cs (room_wide _)⟩
theorem KeepN.cell {B : Nat} {X Y : World} (h : KeepN B X Y) {p : Addr} {v : Value} (hc : X.cell? p = some v) : Y.cell? p = some v := by
  unfold World.cell? at hc ⊢
  split at hc
  · rename_i c e t hp
    rw [h.obj hp]
    exact hc
  · cases hc
theorem RowI.keepN {B : Nat} {X Y : World} {k : IntKind} {a : Option Addr} {cap gb off : Nat} {xs : List Int} (h : RowI X k a cap gb off xs) (hk : KeepN B X Y) : RowI Y k a cap gb off xs :=
  ⟨h.at_, h.nil, fun j hj => hk.cell (h.cells j hj), h.le⟩

def Aft (l Bs yb N : Nat) (a : Option Addr) (cap : Nat) (J : Bool → World → Prop) (a' : Act) (V : World) : Prop := ∃ (u9 u10 u11 u12 u13 u14 u15 : Value), a' = ({ tmps := #[.func (.yield l) #[] #[], .pointer (some ⟨Bs, 0, none⟩), .pointer (some ⟨yb, 0, none⟩), undef, undef, undef, undef, .slice a N cap, .int .i64 (N : Int), u9, u10, u11, u12, u13, u14, u15, .bool false, undef, undef, undef, undef, undef, undef, undef, undef, undef, undef, undef, undef, undef, undef, undef, undef, undef, undef, undef, undef, undef], defers := [] } : Act) ∧ Hid (∃ p, J p V ∧ V.heap[yb]? = some (.cells #[.func (.yield l) #[] #[]] 47 (0, 0)) ∧ (N ≤ 128 → p = true))

end Go.Proofs.YtcoahkmiebeeeaaGreatDoor

namespace Go.Proofs.YtcoahkmiebeeeaaGreatDoor
open Go.RowKit Go.Shelf
set_option linter.unusedVariables false

attribute [local go_sem] Oper.semAt_some

theorem owns_keepN {B : Nat} {w w' : World} {base : Nat} {v : Value} {n : Nat} {ys : List Value} (h : w.ownsRow base 5 1 v n ys) (hk : KeepN B w w') : w'.ownsRow base 5 1 v n ys := by
  refine ⟨h.1, ?_⟩
  rcases h.2 with q | ⟨g, cap, cur, e, hb, hg, q⟩
  · exact .inl q
  · exact .inr ⟨g, cap, cur, e, hb, hk.obj hg, q⟩

set_option maxHeartbeats 1000000 in
theorem write_none (a : Option Addr) (cap gb off : Nat) (ws : List Nat) (w : World) (hB : Bytes w a cap gb off ws) (hc : codeB ws = false) :
    Calls Tryz.prog 30 #[.slice a ws.length cap] w fun e w' => e = .returned (.tuple #[.slice none 0 0, .int .i64 50]) ∧ w' = w := by
  have HM := (show Hid (Calls Tryz.prog 40 #[.slice a ws.length cap] w fun e w' => ∃ q : Int, e = .returned (.tuple #[.int .i64 q, .bool false]) ∧ w' = w) from by
    refine (makeCode_any a cap gb off ws w hB).mono ?_
    rintro e w' ⟨l, rfl, h, rfl⟩
    rw [hc]
    exact ⟨_, rfl, rfl⟩)
  clear hB hc
  generalize ws.length = n at *
  refine (callsIn_wide (n := 8)).1 ?_
  refine callsIn_of_wp_marks Tryz.func30 rfl trivial ?_ rfl
  simp only [Tryz.ntmps30, List.size_toArray, List.length_cons, List.length_nil, Nat.reduceAdd, Nat.reduceSub, Array.replicate_succ, Array.replicate_zero, List.push_toArray, List.append_toArray, List.nil_append, List.cons_append]
  gi_wp2_with (refine ⟨trivial, ?_⟩; gi_at_call 40; refine (callsIn_wide.2 HM.out).mono ?_; rintro e w' ⟨q, rfl, rfl⟩)
  exact ⟨_, by simp [results, Tryz.results30], rfl, rfl⟩

/-- What Write has, while it looks for the shortest description. -/
structure WrI (w : World) (ws : List Nat) (a : Option Addr) (k cap b : Nat) (p : Bool) (V : World) : Prop where
  best : ∃ ba bn bc, V.heap[b]? = some (.cells #[.slice ba bn bc] 22 (0, 0)) ∧ ((p = false ∧ ba = none ∧ bn = 0 ∧ bc = 0) ∨ (p = true ∧ ∃ D, bn = D.length ∧ V.ownsRow 0 5 1 (.slice ba bn bc) D.length (u8s D) ∧ Desc D ws))
  box : V.heap[b + 1]? = some (.cells #[.slice a k cap] 22 (0, 0))
  keep : Keep noBlock w V
theorem WrI.keepN {w : World} {ws : List Nat} {a : Option Addr} {k cap b : Nat} {p : Bool} {U V : World} {B : Nat} (h : WrI w ws a k cap b p U) (hk : KeepN B U V) (hB : w.heap.size ≤ B) : WrI w ws a k cap b p V := by
  obtain ⟨⟨ba, bn, bc, h1, h2⟩, h3, h4⟩ := h
  refine ⟨⟨ba, bn, bc, hk.obj h1, h2.imp (fun q => q) ?_⟩, hk.obj h3, h4.transN hk hB⟩
  rintro ⟨q1, D, q2, q3, q4⟩
  exact ⟨q1, D, q2, owns_keepN q3 hk, q4⟩

section
attribute [local go_sem] sliceSem_eq
end

end Go.Proofs.YtcoahkmiebeeeaaGreatDoor

namespace Go.Proofs.YtcoahkmiebeeeaaGreatDoor
open Go.RowKit Go.Shelf
set_option linter.unusedVariables false

attribute [local go_sem] Oper.semAt_some

def dscRN (B : Nat) (ws : List Nat) (p : Bool) (vs : Array Value) (p' : Bool) (V : World) : Prop := p' = true ∧ ∃ v D, vs = #[v] ∧ V.ownsRow 0 5 1 v D.length (u8s D) ∧ Desc D ws ∧ ∀ k, v.ownBlock = some k → B ≤ k

set_option maxRecDepth 100000 in
set_option maxHeartbeats 4000000 in
theorem descriptions1N (B : Nat) (n : Nat) (hn : 4 ≤ n) (l Bs : Nat) (a : Option Addr) (cap gb off : Nat) (M : List Nat) (x m : Nat) (hT : Told M x m) (J : Bool → World → Prop)
    (hB : ∀ p W, J p W → BBox Bs a cap gb off M W) (hS : ∀ p W, J p W → B ≤ W.heap.size) (hD : ∀ p X Y, J p X → Keep noBlock X Y → J p Y) (hDN : ∀ p X Y B, J p X → l < B → KeepN B X Y → J p Y)
    (hY : ∀ p vs p' V, dscRN B (M ++ [x]) p vs p' V → J p V → YieldAt Fence.wide (n - 1) Tryz.prog l vs V fun e W' => e = .returned (.bool true) ∧ J p' W' ∧ KpL l V W') (W : World) (hlW : l < W.heap.size) (p0 : Bool) (h0 : J p0 W) :
    CallsIn Fence.wide n Tryz.prog 66 #[.func (.yield l) #[] #[], .pointer (some ⟨Bs, 0, none⟩)] W fun e W' => (∃ v, e = .returned v) ∧ J true W' := by
  have HS0 := hid hS
  clear hS
  have HH := (show Hid (Told M x m ∧ (∀ p W, J p W → BBox Bs a cap gb off M W) ∧ (∀ p X Y, J p X → Keep noBlock X Y → J p Y) ∧ (∀ p X Y B, J p X → l < B → KeepN B X Y → J p Y)) from ⟨hT, hB, hD, hDN⟩)
  have HY := (show Hid (∀ p vs p' V, dscRN B (M ++ [x]) p vs p' V → J p V → _) from hY)
  have hk1 : Keep noBlock W (W.alloc (.cells #[.func (.yield l) #[] #[]] 47)) := (Keep.refl _ W).alloc _
  obtain ⟨N, hN⟩ : ∃ N, N = M.length := ⟨_, rfl⟩
  have HN := (show Hid (N = M.length ∧ 1 ≤ N ∧ N ≤ 255) from ⟨hN, by have := hT.len1; omega, by have := hT.len; omega⟩)
  have hj1 := hD _ _ _ h0 hk1
  obtain ⟨yb, hyb⟩ : ∃ yb, yb = W.heap.size := ⟨_, rfl⟩
  have HJ := (show Hid (J p0 (W.alloc (.cells #[.func (.yield l) #[] #[]] 47)) ∧ (W.alloc (.cells #[.func (.yield l) #[] #[]] 47)).heap[yb]? = some (.cells #[.func (.yield l) #[] #[]] 47 (0, 0)) ∧ l < yb) from ⟨hj1, by rw [hyb]; exact World.alloc_heap_new W _, by omega⟩)
  have c1 : (W.alloc (.cells #[.func (.yield l) #[] #[]] 47)).cell? ⟨Bs, 0, none⟩ = some (.slice a N cap) := by rw [hN]; exact cell_of (hB _ _ hj1).box 0
  have c2 : (W.alloc (.cells #[.func (.yield l) #[] #[]] 47)).cell? ⟨yb, 0, none⟩ = some (.func (.yield l) #[] #[]) := cell_of HJ.out.2.1 0
  have hNb : (N : Int) ≤ 255 := by have := HN.out; omega
  have hmx : Tryz.prog.follows .mixedOrders = true := by kernel_rfl
  clear hB hY hN hD hT h0 hDN hk1 hj1
  refine callsIn_of_wp_marks Tryz.func66 rfl trivial ?_ rfl
  simp only [Tryz.ntmps66, List.size_toArray, List.length_cons, List.length_nil, Nat.reduceAdd, Nat.reduceSub, Array.replicate_succ, Array.replicate_zero, List.push_toArray, List.append_toArray, List.nil_append, List.cons_append]
  gi_wp2
  rw [← hyb]
  generalize W.alloc (.cells #[.func (.yield l) #[] #[]] 47) = W1 at HJ c1 c2 ⊢
  clear hyb
  refine wpIn_mono (Q := (fun e a' V => e = Exit.normal ∧ Aft l Bs yb N a cap J a' V)) ?first ?rest
  case first =>
    by_cases hfew : N ≤ 128
    · have hfewI : (N : Int) ≤ 128 := by omega
      have hfewB : decide ((N : Int) ≤ 128) = true := decide_eq_true hfewI
      have HPf := (show Hid (∀ V, Keep noBlock W1 V → Calls Tryz.prog 67 #[.slice a N cap] V _) from fun V hk => by
        have := putFours_any a cap gb off M V ((HH.out.2.1 _ _ HJ.out.1).row.keep hk (fun _ h => h)) (by have := HN.out; omega) HH.out.1.le
        rw [← HN.out.1] at this
        exact this)
      have HDs := (show Hid (Desc ((List.range (1 + (N + 1) / 2)).map (pfF M N)) (M ++ [x])) from by
        have hn := HN.out
        refine desc_fours HH.out.1 _ (by omega) (by simp [← hn.1]) (by rw [List.getElem?_map, List.getElem?_range (by omega)]; show pfF M N 0 = _; unfold pfF; rw [if_pos rfl]) (fun j => ?_) (by rw [hn.1]; exact pf_map M HH.out.1.le)
        by_cases hj : j < 1 + (N + 1) / 2
        · rw [List.getElem?_map, List.getElem?_range hj]; exact pfF_lt M N j (by omega) HH.out.1.le
        · rw [List.getElem?_eq_none (by simp; omega)]; simp)
      refine wpIn_calm ?_
      gi_region_with_o (first
        | (refine ⟨trivial, (fun h => by cases h), ?_⟩; gi_at_call 67; refine (callsIn_wide.2 (HPf.out _ (Keep.refl noBlock W1).drew)).mono ?_; rintro e V2 ⟨v, rfl, hown, hK2, hnew⟩
           have hy2 := HY.out p0 #[v] true V2 ⟨rfl, v, _, rfl, hown, HDs.out, fun k e => Nat.le_trans (HS0.out _ _ (HH.out.2.2.1 _ _ _ HJ.out.1 (Keep.refl noBlock W1).drew)) (hnew k e)⟩ (HH.out.2.2.1 _ _ _ HJ.out.1 ((Keep.refl noBlock W1).drew.trans' hK2))
           obtain ⟨fn, tmps, assign, body, hy, hR⟩ := hy2
           have HR := (show Hid (RoundIn Fence.wide (n - 1) Tryz.prog l fn tmps assign body V2 fun e W' => e = .returned (.bool true) ∧ Hid (J true W' ∧ KpL l V2 W')) from hR)
           have HK2 := (show Hid (Keep noBlock W1 V2) from (Keep.refl noBlock W1).drew.trans' hK2)
           have c3 : V2.cell? ⟨yb, 0, none⟩ = some (.func (.yield l) #[] #[]) := cell_of (HK2.out.obj HJ.out.2.1 (fun h => h)) 0
           clear hR hown hnew hK2)
        | (refine ⟨(fun h => by cases h), ?_⟩; refine HR.out.mono ?_; rintro e W2 ⟨rfl, HJ2⟩))
      all_goals
        refine ⟨rfl, _, _, _, _, _, _, _, rfl, ?_⟩
        exact ⟨true, HJ2.out.1, HJ2.out.2.cells _ _ _ (.inr rfl) (HK2.out.obj HJ.out.2.1 (fun h => h)), fun _ => rfl⟩
    · have hfewI : ¬ (N : Int) ≤ 128 := by omega
      have hfewB : decide ((N : Int) ≤ 128) = false := decide_eq_false hfewI
      refine wpIn_calm ?_
      gi_region_with_o (first | (refine ⟨trivial, ?_⟩) | (refine ⟨(fun _ h => by cases h), ?_⟩))
      all_goals
        refine ⟨rfl, _, _, _, _, _, _, _, rfl, ?_⟩
        exact ⟨p0, HH.out.2.2.1 _ _ _ HJ.out.1 (Keep.refl noBlock W1).drew, (Keep.refl noBlock W1).drew.obj HJ.out.2.1 (fun h => h), fun h => absurd h hfew⟩
  case rest =>
    rintro e a' V ⟨rfl, u9, u10, u11, u12, u13, u14, u15, rfl, HS⟩
    have HLy := (show Hid (l < yb) from HJ.out.2.2)
    clear c1 c2 HJ
    simp only [Exit.then]
    obtain ⟨p, hJp, hbx, hp⟩ := HS.out
    have c1 : V.cell? ⟨Bs, 0, none⟩ = some (.slice a N cap) := by rw [HN.out.1]; exact cell_of (HH.out.2.1 _ _ hJp).box 0
    by_cases h2 : N < 2
    · have h2I : (N : Int) < 2 := by omega
      have HP := (show Hid (J p V ∧ (N ≤ 128 → p = true)) from ⟨hJp, hp⟩)
      clear hJp hbx hp HS
      gi_wp2
      obtain ⟨q1, q3⟩ := HP.out
      rw [q3 (by omega)] at q1
      exact ⟨_, results_none rfl _ _ _, ⟨_, rfl⟩, q1⟩
    · have h2I : ¬ (N : Int) < 2 := by omega
      obtain ⟨tb, htb⟩ : ∃ tb, tb = V.heap.size := ⟨_, rfl⟩
      have hkV : Keep noBlock V (V.alloc (.cells #[.slice a N cap] 22)) := (Keep.refl _ V).alloc _
      have HV := (show Hid (J p (V.alloc (.cells #[.slice a N cap] 22)) ∧ (V.alloc (.cells #[.slice a N cap] 22)).heap[yb]? = some (.cells #[.func (.yield l) #[] #[]] 47 (0, 0)) ∧ (V.alloc (.cells #[.slice a N cap] 22)).heap[tb]? = some (.cells #[.slice a N cap] 22 (0, 0)) ∧ (V.alloc (.cells #[.slice a N cap] 22)).heap.size = tb + 1 ∧ l < tb) from
        ⟨HH.out.2.2.1 _ _ _ hJp hkV, hkV.obj hbx (fun h => h), by rw [htb]; exact World.alloc_heap_new V _, by rw [World.size_alloc, htb], by have := obj_lt hbx; have := HLy.out; omega⟩)
      clear hJp hbx hp HS hkV
      gi_wp2_with (refine ⟨trivial, (fun h => by cases h), ?_⟩; gi_at_call 68; refine (tables_in Fence.wide _ trivial rfl _ _ _ _).mono ?_; rintro e w' ⟨rfl, rfl⟩)
      rw [← htb]
      generalize V.alloc (.cells #[.slice a N cap] 22) = V1 at HV ⊢
      clear htb c1
      refine range_iterK (ι := Bool) (gf := 91) (by omega) rfl (enters_of Tryz.func91 (by kernel_rfl) rfl) (tabR M) (fun q => q = true) false (fun q U => ∃ p, J p U ∧ (q = true → p = true) ∧ U.heap[yb]? = some (.cells #[.func (.yield l) #[] #[]] 47 (0, 0)))
        (fun l2 J2 W hKW hl2 hJI hD2 hDN2 hY2 h0 => ?iter) (fun i vs i' U h => ?ps)
        (fun q vs q' a' U => ∃ (xs : List Int) (lg : Nat) (ca : Option Addr) (ccap cgb coff : Nat), RowI U .i16 ca ccap cgb coff xs ∧ Fit M xs lg ∧ q' = (q || decide (xs = sureL ∧ lg = 6)) ∧
          a' = { tmps := #[.func (.yield l) #[] #[], .pointer (some ⟨Bs, 0, none⟩), .pointer (some ⟨yb, 0, none⟩), .int .i64 (lg : Int), .slice ca xs.length ccap, undef, undef, .slice a N cap, .int .i64 (N : Int), u9, u10, u11, u12, u13, u14, u15, .bool false, .slice a N cap, .int .i64 (N : Int), .bool false, .slice a N cap,
            .func (.func 91) #[] #[.pointer (some ⟨tb, 0, none⟩)], .int .i64 (lg : Int), .slice ca xs.length ccap, undef, undef, undef, undef, undef, undef, undef, undef, undef, undef, undef, undef, undef, undef], defers := [] })
        (fun q U U' h hk => ?keepI) (fun q vs q' a' U U' h hk => ?keepA) ?start ?assign ?body ?done
      case iter =>
        obtain ⟨p', hJ', -, -⟩ := hJI _ _ h0
        refine (tables1_in (n - 1) (by omega) l2 tb a cap gb off M x m HH.out.1 J2 hD2 hY2 W ⟨by rw [← HN.out.1]; exact hKW.obj HV.out.2.2.1, (HH.out.2.1 _ _ hJ').row⟩ false h0).mono ?_
        rintro e W' ⟨h1, h2⟩
        exact ⟨h1, true, rfl, h2⟩
      case ps =>
        obtain ⟨_, _, _, _, _, _, rfl, _⟩ := h
        rfl
      case keepI =>
        obtain ⟨p', h1, h2, h3⟩ := h
        exact ⟨p', HH.out.2.2.2 _ _ _ _ h1 (by have := HV.out; omega) hk, h2, hk.obj h3⟩
      case keepA =>
        obtain ⟨xs, lg, ca, ccap, cgb, coff, h1, h2⟩ := h
        exact ⟨xs, lg, ca, ccap, cgb, coff, h1.keepN hk, h2⟩
      case start => exact ⟨p, HV.out.1, (fun h => by cases h), HV.out.2.1⟩
      case assign =>
        rintro q vs q' U K ⟨xs, lg, ca, ccap, cgb, coff, rfl, h1, h2, h3⟩ hi hK
        gi_wp2
        exact hK _ _ (KeepsFrom.refl _ _) (KpC.refl _) hi ⟨xs, lg, ca, ccap, cgb, coff, h1, h2, h3, rfl⟩
      case body =>
        rintro q vs q' a' U ⟨p', hJ', hq, hbx⟩ ⟨xs, lg, ca, ccap, cgb, coff, hR, hF, hq', rfl⟩
        have hbB := HH.out.2.1 _ _ hJ'
        have c1 : U.cell? ⟨Bs, 0, none⟩ = some (.slice a N cap) := by rw [HN.out.1]; exact cell_of hbB.box 0
        have HPS := (show Hid (Calls Tryz.prog 69 #[.slice a N cap, .slice ca xs.length ccap, .int .i64 (lg : Int)] U _) from by
          have := putByStates_any a cap gb off M x m ca ccap cgb coff xs lg U hbB.row hR HH.out.1 hF (by have := HN.out; omega)
          rw [← HN.out.1] at this
          exact this)
        have HU := (show Hid (J p' U ∧ (q = true → p' = true) ∧ U.heap[yb]? = some (.cells #[.func (.yield l) #[] #[]] 47 (0, 0)) ∧ q' = (q || decide (xs = sureL ∧ lg = 6))) from ⟨hJ', hq, hbx, hq'⟩)
        obtain ⟨xl, hxl⟩ : ∃ xl, xl = xs.length := ⟨_, rfl⟩
        rw [← hxl] at HPS ⊢
        clear hJ' hq hbx hR hF hq' hbB hxl
        gi_wp2_with fail
        refine ⟨trivial, (fun h => by cases h), ?_⟩
        refine (CallsIn.inRound _ (callsIn_wide.2 HPS.out)).mono ?_
        rintro e w1 ⟨hK1, (⟨v, D, rfl, hown, hDs, hnew⟩ | ⟨hns, rfl⟩)⟩
        · have c2 : w1.cell? ⟨yb, 0, none⟩ = some (.func (.yield l) #[] #[]) := cell_of (hK1.obj HU.out.2.2.1 (fun h => h)) 0
          have hy2 := HY.out p' #[v] true w1 ⟨rfl, v, D, rfl, hown, hDs, fun k e => Nat.le_trans (HS0.out _ _ HU.out.1) (hnew k e)⟩ (HH.out.2.2.1 _ _ _ HU.out.1 hK1)
          obtain ⟨fn, tmps, assign, body, hy, hR2⟩ := hy2
          have HK1 := (show Hid (Keep noBlock U w1) from hK1)
          clear hK1 hown hDs hnew HPS
          gi_wp2_with fail
          refine ⟨(fun h => by cases h), ?_⟩
          refine (roundIn_inside hR2).mono ?_
          rintro e W3 ⟨rfl, hJ3, hk3⟩
          have hk1 := HK1.out
          have hv := HV.out
          have HE := (show Hid (KeepsFrom V1.heap.size U W3 ∧ (∃ p, J p W3 ∧ (q' = true → p = true) ∧ W3.heap[yb]? = some (.cells #[.func (.yield l) #[] #[]] 47 (0, 0))) ∧ KpC U W3) from
            ⟨⟨Nat.le_trans hk1.size hk3.size, fun k o hk ho hc => hk3.objs k o (by omega) (hk1.obj ho (fun h => h)) hc⟩, ⟨true, hJ3, fun _ => rfl, hk3.cells _ _ _ (.inr rfl) (hk1.obj HU.out.2.2.1 (fun h => h))⟩, hk1.kp.trans hk3.cells⟩)
          clear hk3 hJ3 hR2 hk1 hv
          gi_wp2
          exact ⟨HE.out.1, HE.out.2.1, HE.out.2.2⟩
        · have HE := (show Hid (KeepsFrom V1.heap.size U w1 ∧ (∃ p, J p w1 ∧ (q' = true → p = true) ∧ w1.heap[yb]? = some (.cells #[.func (.yield l) #[] #[]] 47 (0, 0))) ∧ KpC U w1) from by
            obtain ⟨q1, q2, q3, q4⟩ := HU.out
            refine ⟨⟨hK1.size, fun k o hk ho hc => hK1.obj ho (fun h => h)⟩, ⟨p', HH.out.2.2.1 _ _ _ q1 hK1, fun h => q2 ?_, hK1.obj q3 (fun h => h)⟩, hK1.kp⟩
            rw [q4, decide_eq_false hns, Bool.or_false] at h
            exact h)
          clear hK1 hns HPS
          gi_wp2
          refine ⟨(fun _ h => by cases h), ?_⟩
          gi_wp2
          exact ⟨HE.out.1, HE.out.2.1, HE.out.2.2⟩
      case done =>
        rintro q U rfl ⟨p', h1, h2, h3⟩ hD
        rw [h2 rfl] at h1
        have HE := (show Hid (J true U ∧ U.heap[V1.heap.size]? = some (.deferred (some []))) from ⟨h1, hD⟩)
        clear h1 h2 h3 hD
        gi_wp2
        refine ⟨by simp, .inl ⟨_, _, rfl, run_takeDeferred HE.out.2, ?_⟩⟩
        exact ⟨_, results_none rfl _ _ _, ⟨_, rfl⟩, HH.out.2.2.2 _ _ _ V1.heap.size HE.out.1 (by have := HV.out; omega) (keepN_putObj _ (Nat.le_refl _) HE.out.2 rfl)⟩

end Go.Proofs.YtcoahkmiebeeeaaGreatDoor

namespace Go.Proofs.YtcoahkmiebeeeaaGreatDoor
open Go.RowKit Go.Shelf
set_option linter.unusedVariables false

attribute [local go_sem] Oper.semAt_some

/-- What Write has, while it looks for the shortest description. -/
structure WrJ (w : World) (ws : List Nat) (a : Option Addr) (k cap b : Nat) (p : Bool) (V : World) : Prop where
  best : ∃ ba bn bc, V.heap[b]? = some (.cells #[.slice ba bn bc] 22 (0, 0)) ∧ ((p = false ∧ ba = none ∧ bn = 0 ∧ bc = 0) ∨ (p = true ∧ ∃ D, bn = D.length ∧ V.ownsRow 0 5 1 (.slice ba bn bc) D.length (u8s D) ∧ Desc D ws ∧ ∀ k, (Value.slice ba bn bc).ownBlock = some k → w.heap.size ≤ k))
  box : V.heap[b + 1]? = some (.cells #[.slice a k cap] 22 (0, 0))
  keep : Keep noBlock w V
theorem WrJ.keepN {w : World} {ws : List Nat} {a : Option Addr} {k cap b : Nat} {p : Bool} {U V : World} {B : Nat} (h : WrJ w ws a k cap b p U) (hk : KeepN B U V) (hB : w.heap.size ≤ B) : WrJ w ws a k cap b p V := by
  obtain ⟨⟨ba, bn, bc, h1, h2⟩, h3, h4⟩ := h
  refine ⟨⟨ba, bn, bc, hk.obj h1, h2.imp (fun q => q) ?_⟩, hk.obj h3, h4.transN hk hB⟩
  rintro ⟨q1, D, q2, q3, q4⟩
  exact ⟨q1, D, q2, owns_keepN q3 hk, q4⟩

section
attribute [local go_sem] sliceSem_eq
set_option maxRecDepth 100000 in
set_option maxHeartbeats 4000000 in
theorem write_codeN (a : Option Addr) (cap gb off : Nat) (ws : List Nat) (m : Nat) (w : World) (hB : Bytes w a cap gb off ws) (hc : IsCode ws m) :
    Calls Tryz.prog 30 #[.slice a ws.length cap] w fun e w' => ∃ v D, e = .returned (.tuple #[v, .int .i64 0]) ∧ w'.ownsRow 0 5 1 v D.length (u8s D) ∧ Desc D ws ∧ Keep noBlock w w' ∧ ∀ k, v.ownBlock = some k → w.heap.size ≤ k := by
  have HM := (show Hid (Calls Tryz.prog 40 #[.slice a ws.length cap] w fun e w' => e = .returned (.tuple #[.int .i64 (m : Int), .bool true]) ∧ w = w') from by
    refine (makeCode_any a cap gb off ws w hB).mono ?_
    rintro e w' ⟨l, rfl, h, rfl⟩
    rw [hc.codeB.1] at h ⊢
    rw [h rfl, hc.codeM]
    exact ⟨rfl, rfl⟩)
  obtain ⟨M, x, hws, hT⟩ := hc.told
  have hl : ws.length = M.length + 1 := by rw [hws]; simp
  have htk : ws.take M.length = M := by rw [hws]; simp
  obtain ⟨hrun, hBM⟩ := hB.take M.length (by omega)
  rw [htk] at hrun hBM
  have hl1 := hT.len
  obtain ⟨n, hn⟩ : ∃ n, n = ws.length := ⟨_, rfl⟩
  obtain ⟨k, hk⟩ : ∃ k, k = M.length := ⟨_, rfl⟩
  rw [← hn] at HM hrun hl ⊢
  rw [← hk] at hrun hl hl1
  have hsub : (n : Int) - 1 = (k : Int) := by omega
  have hnI : (n : Int) ≤ 256 := by omega
  have hkI : (k : Int) ≤ 255 := by omega
  have HH := (show Hid (Told M x m ∧ ws = M ++ [x] ∧ Bytes w a cap gb off M ∧ k = M.length) from ⟨hT, hws, hBM, hk⟩)
  have heq := fun (w : World) (a : Option Addr) (n c n' c' : Nat) => Lib.run_eql_slice_nil (P := Tryz.prog) w 22 5 a n c n' c' Tryz.underlying22
  clear hB hc hT hws hl htk hBM hn hk hl1
  refine (callsIn_wide (n := 8)).1 ?_
  refine callsIn_of_wp_marks Tryz.func30 rfl trivial ?_ rfl
  simp only [Tryz.ntmps30, List.size_toArray, List.length_cons, List.length_nil, Nat.reduceAdd, Nat.reduceSub, Array.replicate_succ, Array.replicate_zero, List.push_toArray, List.append_toArray, List.nil_append, List.cons_append]
  gi_wp2_with (first | (refine ⟨trivial, ?_⟩; gi_at_call 40; refine (callsIn_wide.2 HM.out).mono ?_; rintro e w' ⟨rfl, rfl⟩) | (refine ⟨trivial, ?_⟩; gi_at_call 47; refine (descriptions_in Fence.wide _ trivial rfl _ _ _ _).mono ?_; rintro e w' ⟨rfl, rfl⟩))
  obtain ⟨b, hb⟩ : ∃ b, b = w.heap.size := ⟨_, rfl⟩
  have hI0 : WrJ w ws a k cap b false ((w.alloc (.cells #[.slice none 0 0] 22)).alloc (.cells #[.slice a k cap] 22)) := by
    have o1 := World.alloc_heap_new w (.cells #[.slice none 0 0] 22)
    have o2 := World.alloc_heap_new (w.alloc (.cells #[.slice none 0 0] 22)) (.cells #[.slice a k cap] 22)
    simp only [World.size_alloc] at o1 o2
    rw [← hb] at o1 o2
    exact ⟨⟨none, 0, 0, alloc_far o1 _, .inl ⟨rfl, rfl, rfl, rfl⟩⟩, o2, ((Keep.refl _ w).alloc _).alloc _⟩
  have hsz : ((w.alloc (.cells #[.slice none 0 0] 22)).alloc (.cells #[.slice a k cap] 22)).heap.size = b + 2 := by simp only [World.size_alloc]; rw [hb]
  generalize (w.alloc (.cells #[.slice none 0 0] 22)).alloc (.cells #[.slice a k cap] 22) = W0 at hI0 hsz ⊢
  rw [← hb]
  have HBW := (show Hid (b = w.heap.size ∧ W0.heap.size = b + 2 ∧ WrJ w ws a k cap b false W0) from ⟨hb, hsz, hI0⟩)
  clear hb hsz hI0 HM
  refine range_iterK (ι := Bool) (gf := 66) (by omega) rfl (enters_of Tryz.func66 (by kernel_rfl) rfl) (dscRN w.heap.size ws) (fun q => q = true) false (fun q U => WrJ w ws a k cap b q U)
    (fun l J W hKW hlW hJI hD hDN hY h0 => ?iter) (fun i vs i' U h => ?ps)
    (fun q vs q' a' U => q' = true ∧ ∃ (va : Option Addr) (vn vc : Nat) (D : List Nat), vn = D.length ∧ U.ownsRow 0 5 1 (.slice va vn vc) D.length (u8s D) ∧ (Desc D ws ∧ ∀ k, (Value.slice va vn vc).ownBlock = some k → w.heap.size ≤ k) ∧
      a' = { tmps := #[.slice a n cap, undef, .slice none 0 0, .int .i64 0, .int .i64 (m : Int), .bool true, .pointer (some ⟨b, 0, none⟩), .slice va vn vc, .tuple #[.int .i64 (m : Int), .bool true], .slice a n cap, .tuple #[.int .i64 (m : Int), .bool true], .int .i64 (m : Int), .bool true, .bool true, .bool false, .slice a n cap, .slice a n cap, .int .i64 (n : Int), .int .i64 (k : Int), .slice a k cap,
        .func (.func 66) #[] #[.pointer (some ⟨b + 1, 0, none⟩)], .slice va vn vc, undef, undef, undef, undef, undef, undef, undef, undef, undef, undef, undef], defers := [] })
    (fun q U U' h hk => h.keepN hk (by have := HBW.out; omega)) (fun q vs q' a' U U' h hk => ?keepA) HBW.out.2.2 ?assign ?body ?done
  case iter =>
    refine (descriptions1N w.heap.size 7 (by omega) l (b + 1) a cap gb off M x m HH.out.1 J (fun p U hp => ?_) (fun p U hp => (hJI p U hp).keep.size) hD hDN ?_ W hlW false h0).mono ?_
    · have := hJI p U hp
      exact ⟨by rw [← HH.out.2.2.2]; exact this.box, HH.out.2.2.1.keep this.keep (fun _ h => h)⟩
    · rw [← HH.out.2.1]; exact hY
    · rintro e W' ⟨h1, h2⟩
      exact ⟨h1, true, rfl, h2⟩
  case ps =>
    obtain ⟨_, _, _, rfl, _⟩ := h
    rfl
  case keepA =>
    obtain ⟨h1, va, vn, vc, D, h2, h3, h4⟩ := h
    exact ⟨h1, va, vn, vc, D, h2, owns_keepN h3 hk, h4⟩
  case assign =>
    rintro q vs q' U K ⟨h1, v, D, rfl, h2, h3⟩ hi hK
    obtain ⟨va, vc, rfl⟩ := owns_form h2
    gi_wp2
    exact hK _ _ (KeepsFrom.refl _ _) (KpC.refl _) hi ⟨h1, va, _, vc, D, rfl, h2, h3, rfl⟩
  case body =>
    rintro q vs q' a' U hi ⟨rfl, va, vn, vc, D, hvn, hown, ⟨hDs, hvf⟩, rfl⟩
    obtain ⟨⟨ba, bn, bc, h1, h2⟩, h3, h4⟩ := hi
    have c1 : U.cell? ⟨b, 0, none⟩ = some (.slice ba bn bc) := cell_of h1 0
    have f1 := frozen_of h1 0
    have hDl := hDs.len
    have hvI : (vn : Int) ≤ 129 := by omega
    have hks : Keep (fun j => j = b) U (U.setCell ⟨b, 0, none⟩ (.slice va vn vc)) := (Keep.refl (fun j => j = b) U).setCell (p := ⟨b, 0, none⟩) (fun _ => rfl) _
    have HN := (show Hid (WrJ w ws a k cap b true (U.setCell ⟨b, 0, none⟩ (.slice va vn vc)) ∧ KeepsFrom W0.heap.size U (U.setCell ⟨b, 0, none⟩ (.slice va vn vc)) ∧ KpC U (U.setCell ⟨b, 0, none⟩ (.slice va vn vc))) from by
      have hbw := HBW.out
      refine ⟨⟨⟨va, vn, vc, (set_obj h1 0 _).trans (by simp), .inr ⟨rfl, D, hvn, owns_kept hown hks (fun g hg e => owns_ne hown h1 (by decide) (by rw [← e]; exact hg)), hDs, hvf⟩⟩, set_far h3 (by omega) _ _, h4.trans hks (fun i hi e => by omega)⟩, (KeepsOthers.setCell _ _ _).from _, fun i cs t ht hh => set_far hh (fun e => ?_) _ _⟩
      subst e
      rw [h1] at hh
      cases hh
      rcases ht with h | h <;> cases h)
    have HO := (show Hid (WrJ w ws a k cap b q U) from ⟨⟨ba, bn, bc, h1, h2⟩, h3, h4⟩)
    rcases h2 with ⟨hq, rfl, rfl, rfl⟩ | ⟨hq, D2, hbn, hown2, hDs2, hbf2⟩
    · have he := heq
      clear h1 h3 h4 hvn hown hDs hDl hks hvf
      gi_wp2
      exact ⟨HN.out.2.1, HN.out.1, HN.out.2.2⟩
    · have hba : ∃ ad, ba = some ad := by
        cases ba with
        | none =>
          rcases hown2.2 with ⟨e, e0⟩ | ⟨g, cap', cur, e, _⟩
          · exact absurd (List.eq_nil_of_length_eq_zero e0) hDs2.ne
          · cases e
        | some ad => exact ⟨ad, rfl⟩
      obtain ⟨ad, rfl⟩ := hba
      have hbI : (bn : Int) ≤ 129 := by have := hDs2.len; omega
      subst hq
      clear h1 h3 h4 hvn hown hDs hDl hks hbn hown2 hDs2 hbf2 hvf
      by_cases hlt : vn < bn
      · have hltI : (vn : Int) < (bn : Int) := by omega
        have hltB : decide (vn < bn) = true := decide_eq_true hlt
        gi_wp2
        exact ⟨HN.out.2.1, HN.out.1, HN.out.2.2⟩
      · have hltI : ¬ (vn : Int) < (bn : Int) := by omega
        have hltB : decide (vn < bn) = false := decide_eq_false hlt
        gi_wp2
        exact ⟨KeepsFrom.refl _ _, HO.out, KpC.refl _⟩
  case done =>
    rintro q U rfl hi hD
    obtain ⟨⟨ba, bn, bc, h1, h2⟩, h3, h4⟩ := hi
    obtain ⟨D, hbn, hown, hDs, hbf⟩ : ∃ D, bn = D.length ∧ U.ownsRow 0 5 1 (.slice ba bn bc) D.length (u8s D) ∧ Desc D ws ∧ ∀ k, (Value.slice ba bn bc).ownBlock = some k → w.heap.size ≤ k := by
      rcases h2 with ⟨h, _⟩ | ⟨_, h⟩
      · cases h
      · exact h
    have c1 : U.cell? ⟨b, 0, none⟩ = some (.slice ba bn bc) := cell_of h1 0
    have HE := (show Hid (U.ownsRow 0 5 1 (.slice ba bn bc) D.length (u8s D) ∧ Desc D ws ∧ Keep noBlock w U ∧ U.heap[W0.heap.size]? = some (.deferred (some [])) ∧ ∀ k, (Value.slice ba bn bc).ownBlock = some k → w.heap.size ≤ k) from ⟨hown, hDs, h4, hD, hbf⟩)
    clear h1 h2 h3 h4 hown hDs hbn hD hbf
    gi_wp2
    obtain ⟨hown, hDs, hK, hD, hbf⟩ := HE.out
    refine ⟨by simp, .inl ⟨_, _, rfl, run_takeDeferred hD, ?_⟩⟩
    have hkp : Keep (fun j => j = W0.heap.size) U (U.putObj W0.heap.size (.deferred none)) := (Keep.refl _ U).putObj _ _ (fun _ => rfl)
    refine ⟨.tuple #[.slice ba bn bc, .int .i64 0], by simp [results, Tryz.results30], _, D, rfl, owns_kept hown hkp (fun g hg e => ?_), hDs, hK.trans hkp (fun i hi e => by have := HBW.out; omega), hbf⟩
    rcases hown.2 with ⟨e1, _⟩ | ⟨g2, cap2, cur, e1, _, hg2, _⟩
    · rw [e1] at hg; cases hg
    · rw [e1] at hg
      obtain rfl : g2 = g := by simpa [Value.ownBlock] using hg
      rw [e, hD] at hg2
      cases hg2
end

end Go.Proofs.YtcoahkmiebeeeaaGreatDoor

namespace Go.Proofs.YtcoahkmiebeeeaaGreatDoor
open Go.RowKit Go.Shelf
set_option linter.unusedVariables false

def Own (l own : List Nat) : Prop := (2 ≤ kindsN l ∧ kindsN l ≤ 2 ^ 11) ∧ ∃ P m, C5.IsOrder (C5.numOf (cntL l)) 256 P ∧ IsMax (C5.limitL (cntL l) P 11) m ∧ own = (ownN (C5.limitL (cntL l) P 11) m).take (endN (C5.limitL (cntL l) P 11) 256)
def rowsOf (l : List Nat) : Nat := rwN 2 (whN 2 l.length)
theorem rowsOf_is (l : List Nat) : (rowsOf l = 1 ∧ l.length < 1024) ∨ (rowsOf l = 4 ∧ 1024 ≤ l.length) := rw14 l.length
theorem packP_code {ws l b : List Nat} (h : packP ws l (rowsOf l) = some b) : codeB ws = true := by
  unfold packP at h
  split at h
  · rename_i hok
    have := okN_all hok 0 (by have := rowsOf_is l; omega)
    exact (packC_code this).1
  · cases h
theorem bodyP_len (ws l : List Nat) (hl : l.length ≤ 131072) : (bodyP ws l (rowsOf l)).length ≤ 300000 := by
  unfold bodyP
  rw [List.length_append]
  have h1 := lens_len ws l (eachN l.length (rowsOf l)) (rowsOf l) (rowsOf l)
  have h2 : (tailsN ws l (eachN l.length (rowsOf l)) (rowsOf l)).length ≤ rowsOf l * 65535 := tails_len (by
    intro i hi
    show (packV ws (pieceN l _ i)).length ≤ 65535
    have h8 := packV_len ws (pieceN l (eachN l.length (rowsOf l)) i)
    rw [pieceN_len] at h8
    have he4 : eachN l.length (rowsOf l) = (l.length + rowsOf l - 1) / rowsOf l := rfl
    rcases rowsOf_is l with ⟨e, hL1⟩ | ⟨e, hL1⟩
    · rw [e] at he4 h8 ⊢; omega
    · rw [e] at he4 h8 ⊢; omega)
  rcases rowsOf_is l with ⟨e, _⟩ | ⟨e, _⟩ <;> rw [e] at h1 h2 ⊢ <;> omega
theorem lens_lt (ws l : List Nat) (each n j : Nat) : ∀ q : Nat, (lensN ws l each n j)[q]?.getD 0 < 256 := by
  induction j with
  | zero => intro q; simp [lensN]
  | succ j ih =>
    refine lt_app ih ?_
    split
    · exact lt256 fun b hb => by simp [twoN] at hb; omega
    · intro q; simp
def AAns (l : List Nat) (w : World) (e : Ending) (w' : World) : Prop := Keep noBlock w w' ∧
  ((¬ (2 ≤ kindsN l ∧ kindsN l ≤ 2 ^ 11) ∧ e = .returned (.tuple #[.slice none 0 0, .slice none 0 0, .bool false])) ∨
   ∃ own body ok a1 n1 c1 g1 o1 a2 n2 c2 g2 o2, Own l own ∧ e = .returned (.tuple #[.slice a1 n1 c1, .slice a2 n2 c2, .bool ok]) ∧ n1 = body.length ∧ n2 = own.length ∧ Bytes w' a1 c1 g1 o1 body ∧ Bytes w' a2 c2 g2 o2 own ∧
     (ok = true → ∃ D b, Desc D own ∧ packP own l (rowsOf l) = some b ∧ body = D ++ b ∧ body.length < l.length) ∧
     (ok = false → ∀ b, packP own l (rowsOf l) = some b → l.length ≤ 129 + b.length))

theorem own_len {l own : List Nat} (h : Own l own) : own.length ≤ 256 := by
  obtain ⟨_, P, m, _, _, h⟩ := h
  rw [h, List.length_take]
  exact Nat.le_trans (Nat.min_le_left _ _) (endN_le _ 256)

set_option maxRecDepth 100000 in
set_option maxHeartbeats 2000000 in
theorem packAnew_any (a : Option Addr) (cap gb off : Nat) (l : List Nat) (w : World) (hF : Frm w) (hB : Bytes w a cap gb off l) (hl : l.length ≤ 131072) :
    Calls Tryz.prog 18 #[.slice a l.length cap] w fun e w' => AAns l w e w' := by
  have HW := hid (weightsOf_any a cap gb off l w hB hl)
  have HB := hid (And.intro hF (And.intro hB hl))
  obtain ⟨L, hL⟩ : ∃ L, L = l.length := ⟨_, rfl⟩
  have HL := hid hL
  rw [← hL] at HW hl ⊢
  have hlI : (L : Int) ≤ 131072 := by omega
  clear hB hL hF
  go_enter Tryz.func18, Tryz.ntmps18
  go_wp2_with fail
  refine HW.out.mono ?_
  rintro e w1 ⟨hk1, ⟨hf, rfl⟩ | ⟨P, m, g, n, hgd, hO, hM, hn, rfl, hBo⟩⟩
  · have HF := hid (And.intro hk1 hf)
    clear hk1 hf
    go_wp2_with fail
    refine bodyPost_ret (v := .tuple #[.slice none 0 0, .slice none 0 0, .bool false]) (by simp [results, Tryz.results18, go_sem]) rfl ?_
    exact ⟨HF.out.1, .inl ⟨HF.out.2, rfl⟩⟩
  · obtain ⟨own, hown⟩ : ∃ own, own = (ownN (C5.limitL (cntL l) P 11) m).take n := ⟨_, rfl⟩
    rw [← hown] at hBo
    have hnl : n = own.length := by
      rw [hown, List.length_take, ownN_len, C5.limitL_len, cntL_len, hn]
      exact (Nat.min_eq_left (endN_le _ 256)).symm
    have hOw : Own l own := ⟨hgd, P, m, hO, hM, by rw [hown, hn]⟩
    have hF1 := HB.out.1.keep hk1
    have H1 := hid (show Keep noBlock w w1 ∧ Own l own ∧ Bytes w1 (some ⟨g, 0, none⟩) 256 g 0 own ∧ n = own.length from ⟨hk1, hOw, hBo, hnl⟩)
    have hPk : ∀ W, Keep noBlock w1 W → Calls Tryz.prog 17 #[.slice a L cap, .slice (some ⟨g, 0, none⟩) n 256] W fun e w' => PAns (packP own l (rowsOf l)) L W e w' := fun W hW => by
      have := packL_any a cap gb off l (some ⟨g, 0, none⟩) 256 g 0 own W (hF1.keep hW) (HB.out.2.1.keep (hk1.trans' hW) (fun _ h => h)) (hBo.keep hW (fun _ h => h)) HB.out.2.2
      rw [← HL.out, ← hnl] at this
      have hr : rowsOf l = rwN 2 (whN 2 L) := by unfold rowsOf; rw [HL.out]
      rw [hr]
      exact this
    have HP := hid hPk
    have hn256 : n ≤ 256 := by rw [hnl]; exact own_len hOw
    cases hc : codeB own with
    | false =>
      have hWn := write_none _ _ _ _ own w1 hBo hc
      rw [← hnl] at hWn
      have HWn := hid hWn
      have hno : packP own l (rowsOf l) = none := by
        cases h : packP own l (rowsOf l) with
        | none => rfl
        | some b => rw [packP_code h] at hc; cases hc
      rw [hno] at HP
      have HNO := hid hno
      clear hk1 hgd hO hM hn hBo hown hOw hF1 hPk hWn hc hno HW hnl
      go_wp2_with fail
      refine HWn.out.mono ?_
      rintro e w2 ⟨rfl, rfl⟩
      go_wp2_with fail
      refine (HP.out _ (Keep.refl _ _)).mono ?_
      rintro e w3 ⟨hk3, rfl⟩
      obtain ⟨v', w4, hrun, ho4, hk4, hnw⟩ := run_append_all w3 22 (.slice none 0 0) [] [] (World.ownsRow_nil _ _ _ _) (by simp) (.slice none 0 0) (.inl ⟨rfl, rfl⟩)
      obtain ⟨a4, c4, rfl⟩ := owns_form ho4
      have H4 := hid (show Keep noBlock w w4 ∧ Bytes w4 (some ⟨g, 0, none⟩) 256 g 0 own ∧ n = own.length from by
        have hk34 : Keep noBlock w3 w4 := by
          have := (Keep.refl noBlock w3).trans hk4 (fun i hi e => by simp [Value.ownBlock] at e)
          exact this
        exact ⟨(H1.out.1.trans' hk3).trans' hk34, (H1.out.2.2.1.keep hk3 (fun _ h => h)).keep hk34 (fun _ h => h), H1.out.2.2.2⟩)
      obtain ⟨a5, c5, g5, he5, hB5, -⟩ := owns_bytes (M := []) ho4 (by simp) (by decide)
      cases he5
      have H5 := hid hB5
      clear hk3 ho4 hk4 hnw hB5
      simp only [List.append_nil, List.length_nil] at hrun
      go_wp2_with (at_builtin; refine wpList_append_run _ rfl _ _ 22 rfl _ _ _ _ rfl rfl hrun ?_)
      refine bodyPost_ret (v := .tuple #[.slice a4 0 c4, .slice (some ⟨g, 0, none⟩) n 256, .bool false]) (by simp [results, Tryz.results18, go_sem]) rfl ?_
      obtain ⟨q1, q2, q3⟩ := H4.out
      exact ⟨q1, .inr ⟨own, [], false, a4, 0, c4, g5, 0, some ⟨g, 0, none⟩, n, 256, g, 0, H1.out.2.1, rfl, rfl, q3, H5.out, q2, (fun h => by cases h), fun _ b hb => by rw [HNO.out] at hb; cases hb⟩⟩
    | true =>
      have hWn := write_codeN _ _ _ _ own _ w1 hBo (codeM_is hc)
      rw [← hnl] at hWn
      have HWn := hid hWn
      clear hk1 hgd hO hM hn hBo hown hOw hF1 hPk hWn hc HW hnl
      go_wp2_with fail
      refine HWn.out.mono ?_
      rintro e w2 ⟨v, D, rfl, hvo, hDs, hk2, hvf⟩
      obtain ⟨av, cv, rfl⟩ := owns_form hvo
      obtain ⟨dn, hdn⟩ : ∃ dn, dn = D.length := ⟨_, rfl⟩
      rw [← hdn] at hvo ⊢
      have hd129 : dn ≤ 129 := by rw [hdn]; exact hDs.len
      have H2 := hid (show Keep noBlock w1 w2 ∧ Desc D own ∧ w2.ownsRow 0 5 1 (.slice av dn cv) dn (u8s D) ∧ dn = D.length ∧ ∀ k, (Value.slice av dn cv).ownBlock = some k → w1.heap.size ≤ k from ⟨hk2, hDs, hvo, hdn, by rw [hdn]; exact hvf⟩)
      clear hvo hDs hk2 hvf hdn
      go_wp2_with fail
      refine (HP.out _ H2.out.1).mono ?_
      intro e w3 hP3
      cases hp : packP own l (rowsOf l) with
      | none =>
        rw [hp] at hP3
        obtain ⟨hk3, rfl⟩ := hP3
        obtain ⟨s1, s2, s3, s4, s5⟩ := H2.out
        have ho3 : w3.ownsRow 0 5 1 (.slice av dn cv) D.length (u8s D) := by
          rw [← s4]; exact owns_kept s3 hk3 (fun _ _ h => h)
        obtain ⟨v', w4, hrun, ho4, hk4, hnw⟩ := run_append_all w3 22 (.slice av dn cv) D [] ho3 (by simp; omega) (.slice none 0 0) (.inl ⟨rfl, rfl⟩)
        rw [List.append_nil] at ho4
        obtain ⟨a5, c5, g5, he5, hB5, -⟩ := owns_bytes ho4 s2.lt (by omega)
        subst he5
        rw [← s4] at hrun
        have hk14 : Keep noBlock w1 w4 := (s1.trans' hk3).trans hk4 (fun i hi e => by have := s5 i e; omega)
        have H4 := hid (show Keep noBlock w w4 ∧ Bytes w4 (some ⟨g, 0, none⟩) 256 g 0 own ∧ n = own.length ∧ Bytes w4 a5 c5 g5 0 D from ⟨H1.out.1.trans' hk14, H1.out.2.2.1.keep hk14 (fun _ h => h), H1.out.2.2.2, hB5⟩)
        have HNO := hid hp
        clear hp hk3 s1 s2 s3 s4 s5 ho3 ho4 hk4 hnw hB5 hk14
        go_wp2_with (at_builtin; refine wpList_append_run _ rfl _ _ 22 rfl _ _ _ _ rfl rfl hrun ?_)
        refine bodyPost_ret (v := .tuple #[.slice a5 dn c5, .slice (some ⟨g, 0, none⟩) n 256, .bool false]) (by simp [results, Tryz.results18, go_sem]) rfl ?_
        obtain ⟨q1, q2, q3, q4⟩ := H4.out
        exact ⟨q1, .inr ⟨own, D, false, a5, dn, c5, g5, 0, some ⟨g, 0, none⟩, n, 256, g, 0, H1.out.2.1, rfl, H2.out.2.2.2.1, q3, q4, q2, (fun h => by cases h), fun _ b hb => by rw [HNO.out] at hb; cases hb⟩⟩
      | some b =>
        rw [hp] at hP3
        obtain ⟨hk3, vb, rfl, hob⟩ := hP3
        obtain ⟨s1, s2, s3, s4, s5⟩ := H2.out
        have hbb : b = bodyP own l (rowsOf l) := by
          unfold packP at hp
          split at hp
          · cases hp; rfl
          · cases hp
        have hbl : b.length ≤ 300000 := by rw [hbb]; exact bodyP_len own l HB.out.2.2
        have hblt : ∀ q : Nat, b[q]?.getD 0 < 256 := by
          rw [hbb]
          exact lt_app (fun q => lens_lt own l _ _ _ q) (tails_lt own l _ _)
        obtain ⟨ab, cb, gb', heb, hBb, -⟩ := owns_bytes hob hblt (by omega)
        subst heb
        obtain ⟨bn, hbn⟩ : ∃ bn, bn = b.length := ⟨_, rfl⟩
        have ho3 : w3.ownsRow 0 5 1 (.slice av dn cv) D.length (u8s D) := by
          rw [← s4]; exact owns_kept s3 hk3 (fun _ _ h => h)
        obtain ⟨v', w4, hrun, ho4, hk4, hnw⟩ := run_append_all w3 22 (.slice av dn cv) D b ho3 (by omega) (.slice ab b.length cb) hBb.src
        obtain ⟨a5, c5, g5, he5, hB5, -⟩ := owns_bytes ho4 (lt_app s2.lt hblt) (by rw [List.length_append]; omega)
        subst he5
        obtain ⟨zn, hzn⟩ : ∃ zn, zn = (D ++ b).length := ⟨_, rfl⟩
        have hzl : zn = dn + bn := by rw [hzn, List.length_append, s4, hbn]
        rw [← hzn, ← hbn] at hrun
        rw [← hbn]
        have hk14 : Keep noBlock w1 w4 := (s1.trans' hk3).trans hk4 (fun i hi e => by have := s5 i e; omega)
        have H4 := hid (show Keep noBlock w w4 ∧ Bytes w4 (some ⟨g, 0, none⟩) 256 g 0 own ∧ n = own.length ∧ Bytes w4 a5 c5 g5 0 (D ++ b) ∧ zn = (D ++ b).length ∧ bn = b.length from ⟨H1.out.1.trans' hk14, H1.out.2.2.1.keep hk14 (fun _ h => h), H1.out.2.2.2, hB5, hzn, hbn⟩)
        have HNO := hid hp
        have hbnI : (bn : Int) ≤ 300000 := by omega
        clear hp hk3 s1 s2 s3 s4 s5 ho3 ho4 hk4 hnw hB5 hk14 hbb hblt hBb hob hbl hbn
        by_cases hlt : bn < L
        · rw [decide_eq_true hlt]
          by_cases hlz : zn < L
          · have hlzI : (zn : Int) < (L : Int) := by omega
            clear hzn hzl
            go_wp2_with (at_builtin; refine wpList_append_run _ rfl _ _ 22 rfl _ _ _ _ rfl rfl hrun ?_)
            refine bodyPost_ret (v := .tuple #[.slice a5 zn c5, .slice (some ⟨g, 0, none⟩) n 256, .bool true]) (by simp [results, Tryz.results18, go_sem]) rfl ?_
            obtain ⟨q1, q2, q3, q4, q5, q6⟩ := H4.out
            exact ⟨q1, .inr ⟨own, D ++ b, true, a5, zn, c5, g5, 0, some ⟨g, 0, none⟩, n, 256, g, 0, H1.out.2.1, rfl, q5, q3, q4, q2, fun _ => ⟨D, b, H2.out.2.1, HNO.out, rfl, by rw [← q5, ← HL.out]; exact hlz⟩, fun h => by cases h⟩⟩
          · have hlzI : ¬ (zn : Int) < (L : Int) := by omega
            have HZ := hid hzl
            clear hzn hzl
            go_wp2_with (at_builtin; refine wpList_append_run _ rfl _ _ 22 rfl _ _ _ _ rfl rfl hrun ?_)
            refine bodyPost_ret (v := .tuple #[.slice a5 zn c5, .slice (some ⟨g, 0, none⟩) n 256, .bool false]) (by simp [results, Tryz.results18, go_sem]) rfl ?_
            obtain ⟨q1, q2, q3, q4, q5, q6⟩ := H4.out
            exact ⟨q1, .inr ⟨own, D ++ b, false, a5, zn, c5, g5, 0, some ⟨g, 0, none⟩, n, 256, g, 0, H1.out.2.1, rfl, q5, q3, q4, q2, (fun h => by cases h), fun _ b' hb' => by
              rw [HNO.out] at hb'; cases hb'
              rw [← HL.out, ← q6]; have := HZ.out; omega⟩⟩
        · rw [decide_eq_false hlt]
          have HZ := hid hzl
          clear hzn hzl
          go_wp2_with (at_builtin; refine wpList_append_run _ rfl _ _ 22 rfl _ _ _ _ rfl rfl hrun ?_)
          refine bodyPost_ret (v := .tuple #[.slice a5 zn c5, .slice (some ⟨g, 0, none⟩) n 256, .bool false]) (by simp [results, Tryz.results18, go_sem]) rfl ?_
          obtain ⟨q1, q2, q3, q4, q5, q6⟩ := H4.out
          exact ⟨q1, .inr ⟨own, D ++ b, false, a5, zn, c5, g5, 0, some ⟨g, 0, none⟩, n, 256, g, 0, H1.out.2.1, rfl, q5, q3, q4, q2, (fun h => by cases h), fun _ b' hb' => by
            rw [HNO.out] at hb'; cases hb'
            rw [← HL.out, ← q6]; omega⟩⟩
end Go.Proofs.YtcoahkmiebeeeaaGreatDoor

namespace Go.Proofs.YtcoahkmiebeeeaaGreatDoor
open Go.RowKit Go.Shelf
set_option linter.unusedVariables false

def alikeN (l : List Nat) : Bool := decide (l ≠ [] ∧ ∀ j, j < l.length → l[j]?.getD 0 = l[0]?.getD 0)

set_option maxRecDepth 100000 in
set_option maxHeartbeats 1000000 in
theorem alike1_any (x B : Nat) (a : Option Addr) (cap gb off : Nat) (l : List Nat) (w : World) (ho : w.heap[B]? = some (.cells #[.slice a l.length cap] 22 (0, 0))) (hB : Bytes w a cap gb off l) (hne : l ≠ []) :
    Calls Tryz.prog 25 #[.int .u8 (x : Int), .pointer (some ⟨B, 0, none⟩)] w fun e w' => e = .returned (.bool (decide (x ≠ l[0]?.getD 0))) ∧ Keep noBlock w w' := by
  have hl : 0 < l.length := List.length_pos_iff.2 hne
  have c0 : w.cell? ⟨B, 0, none⟩ = some (.slice a l.length cap) := cell_of ho 0
  have c1 := hB.cells 0 hl
  obtain rfl : a = some ⟨gb, off, none⟩ := hB.at_.resolve_right hne
  obtain ⟨y, hy⟩ : ∃ y, y = l[0]?.getD 0 := ⟨_, rfl⟩
  rw [← hy, Nat.add_zero] at c1
  rw [← hy]
  obtain ⟨n, hn⟩ : ∃ n, n = l.length := ⟨_, rfl⟩
  rw [← hn] at c0 hl
  have hlI : (0 : Int) < (n : Int) := by omega
  clear ho hB hne hy hn
  by_cases h : x = y
  · subst h
    rw [decide_eq_false (by simp)]
    have e1 : ((x : Int) != (x : Int)) = false := by simp
    go_enter Tryz.func25, Tryz.ntmps25
    go_wp2_with fail
    go_ret
    exact ⟨rfl, Keep.refl _ _⟩
  · rw [decide_eq_true h]
    have e1 : ((x : Int) != (y : Int)) = true := by simp; omega
    go_enter Tryz.func25, Tryz.ntmps25
    go_wp2_with fail
    go_ret
    exact ⟨rfl, Keep.refl _ _⟩

set_option maxRecDepth 100000 in
set_option maxHeartbeats 2000000 in
theorem indexA_any (B : Nat) (a : Option Addr) (cap gb off : Nat) (l : List Nat) (w : World) (ho : w.heap[B]? = some (.cells #[.slice a l.length cap] 22 (0, 0))) (hB : Bytes w a cap gb off l) (hne : l ≠ []) (hl : l.length ≤ 131072) :
    Calls Tryz.prog 39 #[.slice a l.length cap, .func (.func 25) #[] #[.pointer (some ⟨B, 0, none⟩)]] w fun e w' => Keep noBlock w w' ∧ ((alikeN l = true ∧ e = .returned (.int .i64 (-1))) ∨ (alikeN l = false ∧ ∃ i : Nat, i < l.length ∧ e = .returned (.int .i64 (i : Int)))) := by
  obtain rfl : a = some ⟨gb, off, none⟩ := hB.at_.resolve_right hne
  have HH := hid (show Bytes w (some ⟨gb, off, none⟩) cap gb off l ∧ w.heap[B]? = some (.cells #[.slice (some ⟨gb, off, none⟩) l.length cap] 22 (0, 0)) ∧ l ≠ [] from ⟨hB, ho, hne⟩)
  obtain ⟨n, hn⟩ : ∃ n, n = l.length := ⟨_, rfl⟩
  have hnI : (n : Int) ≤ 131072 := by omega
  rw [← hn]
  have HN := hid hn
  clear ho hB hne hl hn
  go_enter Tryz.func39, Tryz.ntmps39
  go_wp2_with fail
  go_loopw [8] (fun v8 wr => ∃ i : Nat, v8 = .int .i64 (i : Int) ∧ i ≤ n ∧ Hid (Keep noBlock w wr ∧ ∀ j, j < i → l[j]?.getD 0 = l[0]?.getD 0)) (fun v8 _ => n - (intOf v8).toNat)
  case atStart => exact ⟨0, rfl, Nat.zero_le _, Keep.refl _ _, fun j hj => by omega⟩
  case round =>
    obtain ⟨i, rfl, hi, HC⟩ := hrel
    by_cases hlt : i < n
    · obtain ⟨hK, hno⟩ := HC.out
      have hBw := HH.out.1.keep hK (fun _ h => h)
      have c1 := hBw.cells i (by rw [← HN.out]; exact hlt)
      have hiI : (i : Int) < (n : Int) := by omega
      have hi0 : (0 : Int) ≤ (i : Int) := by omega
      obtain ⟨x, hx⟩ : ∃ x, x = l[i]?.getD 0 := ⟨_, rfl⟩
      rw [← hx] at c1
      have HF := hid (alike1_any x B (some ⟨gb, off, none⟩) cap gb off l wr (hK.obj HH.out.2.1 (fun h => h)) hBw HH.out.2.2)
      have HX := hid (And.intro hx (And.intro hK hno))
      clear hK hno hBw hx
      by_cases hxe : x = l[0]?.getD 0
      · rw [decide_eq_false (by simpa using hxe)] at HF
        have HXE := hid hxe
        clear hxe
        go_wp2_with fail
        refine HF.out.mono ?_
        rintro e w1 ⟨rfl, hK1⟩
        have HK1 := hid hK1
        clear hK1
        go_wp2_with fail
        obtain ⟨q1, q2, q3⟩ := HX.out
        refine ⟨⟨i + 1, by go_num, by omega, q2.trans' HK1.out, fun j hj => ?_⟩, ?_⟩
        · by_cases e : j = i
          · subst e; rw [← q1]; exact HXE.out
          · exact q3 j (by omega)
        · simp [intOf]; omega
      · rw [decide_eq_true hxe] at HF
        have HXE := hid hxe
        clear hxe
        go_wp2_with fail
        refine HF.out.mono ?_
        rintro e w1 ⟨rfl, hK1⟩
        have HK1 := hid hK1
        clear hK1
        go_wp2_with fail
        go_ret
        obtain ⟨q1, q2, q3⟩ := HX.out
        refine ⟨q2.trans' HK1.out, .inr ⟨decide_eq_false fun h => HXE.out (by rw [q1]; exact h.2 i (by rw [← HN.out]; exact hlt)), i, hlt, rfl⟩⟩
    · have hiI : ¬ (i : Int) < (n : Int) := by omega
      go_wp2_with fail
      go_ret
      obtain ⟨hK, hno⟩ := HC.out
      exact ⟨hK, .inl ⟨decide_eq_true ⟨HH.out.2.2, fun j hj => hno j (by rw [← HN.out] at hj; omega)⟩, rfl⟩⟩

set_option maxRecDepth 100000 in
set_option maxHeartbeats 1000000 in
theorem contains_any (B : Nat) (a : Option Addr) (cap gb off : Nat) (l : List Nat) (w : World) (ho : w.heap[B]? = some (.cells #[.slice a l.length cap] 22 (0, 0))) (hB : Bytes w a cap gb off l) (hne : l ≠ []) (hl : l.length ≤ 131072) :
    Calls Tryz.prog 24 #[.slice a l.length cap, .func (.func 25) #[] #[.pointer (some ⟨B, 0, none⟩)]] w fun e w' => Keep noBlock w w' ∧ e = .returned (.bool (!alikeN l)) := by
  have HI := hid (indexA_any B a cap gb off l w ho hB hne hl)
  generalize l.length = n at *
  clear ho hB hne hl
  cases ha : alikeN l with
  | true =>
    rw [ha] at HI
    go_enter Tryz.func24, Tryz.ntmps24
    go_wp2_with fail
    refine HI.out.mono ?_
    rintro e w1 ⟨hk1, ⟨_, rfl⟩ | ⟨h, _⟩⟩
    · go_wp2_with fail
      go_ret
      exact ⟨hk1, rfl⟩
    · cases h
  | false =>
    rw [ha] at HI
    go_enter Tryz.func24, Tryz.ntmps24
    go_wp2_with fail
    refine HI.out.mono ?_
    rintro e w1 ⟨hk1, ⟨h, _⟩ | ⟨_, i, hi, rfl⟩⟩
    · cases h
    · have hi0 : (0 : Int) ≤ (i : Int) := by omega
      go_wp2_with fail
      go_ret
      exact ⟨hk1, rfl⟩

set_option maxRecDepth 100000 in
set_option maxHeartbeats 1000000 in
theorem alike_any (a : Option Addr) (cap gb off : Nat) (l : List Nat) (w : World) (hB : Bytes w a cap gb off l) (hl : l.length ≤ 131072) :
    Calls Tryz.prog 16 #[.slice a l.length cap] w fun e w' => Keep noBlock w w' ∧ e = .returned (.bool (alikeN l)) := by
  by_cases hne : l = []
  · subst hne
    have ha : alikeN [] = false := by decide
    rw [ha, show ([] : List Nat).length = 0 from rfl]
    clear hB hl
    go_enter Tryz.func16, Tryz.ntmps16
    go_wp2_with fail
    go_ret
    exact ⟨(Keep.refl _ w).alloc _, rfl⟩
  · have hk := (Keep.refl noBlock w).alloc (.cells #[.slice a l.length cap] 22)
    have HC := hid (contains_any w.heap.size a cap gb off l _ (World.alloc_heap_new w (.cells #[.slice a l.length cap] 22)) (hB.keep hk (fun _ h => h)) hne hl)
    have hl0 : 0 < l.length := List.length_pos_iff.2 hne
    have HK := hid hk
    obtain ⟨n, hn⟩ : ∃ n, n = l.length := ⟨_, rfl⟩
    rw [← hn] at HC HK hl0 ⊢
    have hlI : (0 : Int) < (n : Int) := by omega
    generalize alikeN l = b at *
    clear hB hl hne hk hn
    go_enter Tryz.func16, Tryz.ntmps16
    go_wp2_with (go_at_call 24; refine HC.out.mono ?_; rintro e w1 ⟨hk1, rfl⟩; have HK1 := hid hk1; clear hk1)
    go_ret
    refine ⟨HK.out.trans' HK1.out, ?_⟩
    cases b <;> rfl
end Go.Proofs.YtcoahkmiebeeeaaGreatDoor
