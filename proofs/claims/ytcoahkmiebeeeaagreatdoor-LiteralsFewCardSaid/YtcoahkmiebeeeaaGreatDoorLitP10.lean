/-
  behind; a copy of bytes.
  The last weight, as the document finds it.
  The document's Bits.
  The document's whole.
  Read of a description: all counts.
  Read of a description, as Write gives it, whatever stands behind.
  readCount of any bits.
-/
import Derived.Test.YtcoahkmiebeeeaaGreatDoorLitP4
import Derived.Test.YtcoahkmiebeeeaaGreatDoorLitP5
import Derived.Test.YtcoahkmiebeeeaaGreatDoorLitP6
import Derived.Test.YtcoahkmiebeeeaaGreatDoorLitP8
import Derived.Test.YtcoahkmiebeeeaaGreatDoorLitP9
namespace Go.Proofs.YtcoahkmiebeeeaaGreatDoor
open Go.RowKit Go.Shelf
set_option linter.unusedVariables false

/-- How many bytes stand behind a head. -/
def behN (k size pk : Nat) : Nat := if k = 0 then size else if k = 1 then 1 else pk
set_option maxRecDepth 100000 in
set_option maxHeartbeats 1000000 in
theorem behind_any (k hb fr bt rw size pk : Nat) (w : World) :
    Calls Tryz.prog 11 #[headV k hb fr bt rw size pk] w fun e w' => e = .returned (.int .i64 ((behN k size pk : Nat) : Int)) ∧ Keep noBlock w w' := by
  unfold headV behN
  by_cases h0 : k = 0
  · subst h0
    rw [if_pos rfl]
    go_enter Tryz.func11, Tryz.ntmps11
    go_wp2
    go_ret
    exact ⟨rfl, (Keep.refl _ w).alloc _⟩
  · rw [if_neg h0]
    have g0 : ((k : Int) == 0) = false := by rw [beq_eq_false_iff_ne]; omega
    by_cases h1 : k = 1
    · subst h1
      rw [if_pos rfl]
      go_enter Tryz.func11, Tryz.ntmps11
      go_wp2
      go_ret
      exact ⟨rfl, (Keep.refl _ w).alloc _⟩
    · rw [if_neg h1]
      have g1 : ((k : Int) == 1) = false := by rw [beq_eq_false_iff_ne]; omega
      go_enter Tryz.func11, Tryz.ntmps11
      go_wp2
      go_ret
      exact ⟨rfl, (Keep.refl _ w).alloc _⟩

set_option maxRecDepth 100000 in
set_option maxHeartbeats 1000000 in
theorem cloneB_any (a : Option Addr) (cap gb off : Nat) (bs : List Nat) (w : World) (hB : Bytes w a cap gb off bs) (hlen : bs.length ≤ 140737488355327) :
    Calls Tryz.prog 14 #[.slice a bs.length cap] w fun e w' => Keep noBlock w w' ∧ ∃ a' n cap' g, e = .returned (.slice a' n cap') ∧ n = bs.length ∧ Bytes w' a' cap' g 0 bs := by
  obtain ⟨i0, hi, hz0, hz1, hz2⟩ := info_parts info5
  have hmax : bs.length ≤ maxLen := by unfold maxLen; omega
  have heq := fun (w : World) (a : Option Addr) (n c n' c' : Nat) => Lib.run_eql_slice_nil (P := Tryz.prog) w 22 5 a n c n' c' Tryz.underlying22
  cases a with
  | none =>
    have h1 := hB.nil rfl
    have h2 := hB.cap
    have h3 : bs.length = 0 := by omega
    have h4 : bs = [] := List.length_eq_zero_iff.1 h3
    rw [h3, h1]
    clear hB hmax h2 h3
    subst h4
    go_enter Tryz.func14, Tryz.ntmps14
    go_wp2
    go_ret
    exact ⟨Keep.refl _ _, none, 0, 0, 0, rfl, rfl, .inr rfl, fun _ => rfl, fun j hj => by simp at hj, fun j => by simp, Nat.le_refl _, by decide⟩
  | some ad =>
    have hown := World.ownsRow_made (e := 5) (size := 1) (base := 0) w #[] 0 (Nat.zero_le _) (Nat.zero_le _) rfl
    have hsr : SrcB (w.alloc (.cells #[] 5)) (.slice (some ad) bs.length cap) bs := hB.src.keep ((Keep.refl _ w).alloc _)
    have hc' : ∀ j u, (u8s bs)[j]? = some u → (w.alloc (.cells #[] 5)).cell? (ad.add j) = some u := by
      rcases hsr with ⟨h, _⟩ | ⟨a', c', h, hc⟩
      · cases h
      · cases h; exact hc
    have hlt := hB.lt
    clear hsr hB
    go_enter Tryz.func14, Tryz.ntmps14
    go_wp2_with (at_builtin; refine wpList_append_own _ rfl _ _ 22 rfl 0 5 i0 (.int .u8 0) 1 1 Tryz.underlying22 hi hz0 hz1 hz2 rfl (by decide) (.slice (some ⟨w.heap.size, 0, none⟩) 0 0) 0 [] rfl hown ad bs.length cap (u8s bs) rfl (by simp [u8s_length]) hc' (u8s_one bs) (by omega) (by omega) (by simp) ?_; intro v' w1 hown' hgrow hnil)
    go_ret
    rw [Nat.zero_add, List.nil_append] at hown'
    obtain ⟨a', cap', g, rfl, hB', -⟩ := owns_bytes (M := bs) hown' hlt (by omega)
    refine ⟨((Keep.refl _ w).alloc _).grown hgrow (fun k e hk => ?_), a', _, cap', g, rfl, rfl, hB'⟩
    have e' : w.heap.size = k := by simpa [Value.ownBlock] using e
    omega

end Go.Proofs.YtcoahkmiebeeeaaGreatDoor

namespace Go.Proofs.YtcoahkmiebeeeaaGreatDoor
open Go.RowKit Go.Shelf
set_option linter.unusedVariables false

theorem sumW_app (M : List Nat) (x : Nat) : ∀ n, n ≤ M.length → sumW (M ++ [x]) n = sumW M n := by
  intro n
  induction n with
  | zero => intro _; rfl
  | succ n ih => intro h; rw [sumW_succ, sumW_succ, ih (by omega), wt_app M x n (by omega)]
theorem onesW_app (M : List Nat) (x : Nat) : ∀ n, n ≤ M.length → onesW (M ++ [x]) n = onesW M n := by
  intro n
  induction n with
  | zero => intro _; rfl
  | succ n ih => intro h; rw [onesW_succ, onesW_succ, ih (by omega), wt_app M x n (by omega)]
theorem wt_end (M : List Nat) (x : Nat) : wt (M ++ [x]) M.length = x := by unfold wt; rw [List.getElem?_append_right (Nat.le_refl _), Nat.sub_self]; rfl
theorem sumW_end (M : List Nat) (x : Nat) : sumW (M ++ [x]) (M ++ [x]).length = sumW M M.length + shN x := by
  rw [List.length_append]
  show sumW (M ++ [x]) (M.length + 1) = _
  rw [sumW_succ, sumW_app M x _ (Nat.le_refl _), wt_end]
theorem ones_zero (M : List Nat) : ∀ n, sumW M n = 0 → onesW M n = 0 := by
  intro n
  induction n with
  | zero => intro _; rfl
  | succ n ih =>
    intro h
    rw [sumW_succ] at h
    rw [onesW_succ, ih (by omega)]
    have : shN (wt M n) = 0 := by omega
    split
    · rename_i e
      rw [e] at this; simp [shN] at this
    · rfl
theorem whole_long (M : List Nat) (h : 255 < M.length) : codeB (M ++ [lastW M]) = false := by
  refine decide_eq_false fun q => ?_
  have := q.2.1
  simp at this; omega
theorem whole_zero (M : List Nat) (h : sumW M M.length = 0) : codeB (M ++ [lastW M]) = false := by
  refine decide_eq_false fun q => ?_
  have h7 := q.2.2.2.2.2.2
  rw [List.length_append] at h7
  have h8 : 2 ≤ onesW (M ++ [lastW M]) (M.length + 1) := h7
  rw [onesW_succ, onesW_app M _ _ (Nat.le_refl _), ones_zero M _ h] at h8
  split at h8 <;> omega
theorem whole_big (M : List Nat) (h : 4096 ≤ sumW M M.length) : codeB (M ++ [lastW M]) = false := by
  refine decide_eq_false fun q => ?_
  have h6 := q.2.2.2.2.2.1
  have h5 := q.2.2.2.2.1
  rw [sumW_end] at h5 h6
  have : 2 ^ (lenN (sumW M M.length + shN (lastW M)) - 1) ≤ 2 ^ 11 := Nat.pow_le_pow_right (by omega) h6
  omega
theorem whole_hit (M : List Nat) (x : Nat) (hx : 1 ≤ x) (h : 2 ^ lenN (sumW M M.length) - sumW M M.length = 2 ^ (x - 1)) : lastW M = x := by
  unfold lastW
  rw [h, lenN_pow]; omega
theorem whole_miss (M : List Nat) (h0 : sumW M M.length ≠ 0) (h : ∀ x, 1 ≤ x → x ≤ 12 → 2 ^ lenN (sumW M M.length) - sumW M M.length ≠ 2 ^ (x - 1)) : codeB (M ++ [lastW M]) = false := by
  refine decide_eq_false fun q => ?_
  have h5 := q.2.2.2.2.1
  have h4 := q.2.2.2.1 M.length (by simp)
  rw [wt_end] at h4
  rw [sumW_end] at h5
  obtain ⟨s1, s2, s3⟩ := lenN_pos _ h0
  generalize hs : sumW M M.length = s at *
  generalize hL : lenN s = L at *
  have hD : 2 ^ L - s ≠ 0 := by omega
  have hlw : lastW M = lenN (2 ^ L - s) := by unfold lastW; rw [hs, hL]
  obtain ⟨d1, d2, d3⟩ := lenN_pos _ hD
  rw [← hlw] at d1 d2 d3
  have hsh : shN (lastW M) = 2 ^ (lastW M - 1) := if_neg (by omega)
  rw [hsh] at h5
  refine h (lastW M) d3 (by omega) ?_
  generalize hk : lenN (s + 2 ^ (lastW M - 1)) - 1 = k at h5
  have hp := Nat.two_pow_pos (lastW M - 1)
  have hle : 2 ^ k ≤ 2 ^ L := by omega
  have hgt : 2 ^ (L - 1) < 2 ^ k := by omega
  have k1 : L - 1 < k := (Nat.pow_lt_pow_iff_right (by omega)).1 hgt
  have k2 : k ≤ L := (Nat.pow_le_pow_iff_right (by omega)).1 hle
  have : k = L := by omega
  rw [this] at h5
  omega

end Go.Proofs.YtcoahkmiebeeeaaGreatDoor

namespace Go.Proofs.YtcoahkmiebeeeaaGreatDoor
open Go.RowKit Go.Shelf


end Go.Proofs.YtcoahkmiebeeeaaGreatDoor

namespace Go.Proofs.YtcoahkmiebeeeaaGreatDoor
open Go.RowKit Go.Shelf
set_option linter.unusedVariables false

theorem codeM_pos (ws : List Nat) : decide ((0 : Int) < ((codeM ws : Nat) : Int)) = codeB ws := by
  cases h : codeB ws with
  | false => rw [codeM_no h]; rfl
  | true =>
    have h0 : codeM ws ≠ 0 := fun e => by rw [codeM_zero.1 e] at h; cases h
    exact decide_eq_true (by omega)
theorem last_of {M : List Nat} {w w' : World} {v : Value} {y : Nat} {b : Bool} (hl : lastW M = y) (hb : b = codeB (M ++ [y])) (hk : Keep noBlock w w') (ho : w'.ownsRow 0 5 1 v (M ++ [y]).length (u8s (M ++ [y]))) (hn : ∀ k, v.ownBlock = some k → w.heap.size ≤ k) : Keep noBlock w w' ∧ LastPost M w (.returned (.tuple #[v, .bool b])) w' := by
  subst hl
  refine ⟨hk, ?_⟩
  cases h : codeB (M ++ [lastW M]) with
  | true => rw [h] at hb; subst hb; exact .inl ⟨h, v, rfl, ho, hn⟩
  | false => rw [h] at hb; subst hb; exact .inr ⟨h, v, rfl⟩
theorem last_no {M : List Nat} {w w' : World} {v : Value} (h : codeB (M ++ [lastW M]) = false) (hk : Keep noBlock w w') : Keep noBlock w w' ∧ LastPost M w (.returned (.tuple #[v, .bool false])) w' := ⟨hk, .inr ⟨h, v, rfl⟩⟩


end Go.Proofs.YtcoahkmiebeeeaaGreatDoor

namespace Go.Proofs.YtcoahkmiebeeeaaGreatDoor
open Go.RowKit Go.Shelf

def i16s (xs : List Int) : List Value := xs.map (fun x => Value.int .i16 x)
theorem i16s_length (xs : List Int) : (i16s xs).length = xs.length := by simp [i16s]
theorem i16s_one (xs : List Int) : ∀ u ∈ i16s xs, u.oneCell' = true := by
  intro u hu
  simp only [i16s, List.mem_map] at hu
  obtain ⟨b, _, rfl⟩ := hu
  rfl
theorem i16s_at (xs : List Int) (j : Nat) (hj : j < xs.length) : (i16s xs)[j]? = some (.int .i16 (xs[j]?.getD 0)) := by simp [i16s, hj]

set_option maxHeartbeats 1000000 in
/-- slices.Clone of counts: the same in memory of its own. -/
theorem clone65_any (ab n cap : Nat) (xs : List Int) (hn : n = xs.length) (hl : xs.length ≤ 4096) (w : World) (hlt : ab < w.heap.size) (h : ∀ j, j < xs.length → w.cell? ⟨ab, j, none⟩ = some (.int .i16 (xs[j]?.getD 0))) :
    Calls Tryz.prog 103 #[.slice (some ⟨ab, 0, none⟩) n cap] w fun e w' => ∃ g cap', e = .returned (.slice (some ⟨g, 0, none⟩) xs.length cap') ∧ w.heap.size ≤ g ∧ RowI w' .i16 (some ⟨g, 0, none⟩) cap' g 0 xs ∧ Keep noBlock w w' := by
  subst hn
  obtain ⟨i0, hi, hz0, hz1, hz2⟩ := info_parts info42
  have hmax : xs.length ≤ maxLen := by unfold maxLen; omega
  have hby : xs.length * 2 ≤ 140737488355328 := by omega
  have heq := fun (w : World) (a : Option Addr) (n c n' c' : Nat) => Lib.run_eql_slice_nil (P := Tryz.prog) w 114 184 a n c n' c' Tryz.underlying114
  have hown := World.ownsRow_made (e := 184) (size := 1) (base := w.heap.size) w #[] 0 (Nat.le_refl _) (Nat.zero_le _) rfl
  have hc' : ∀ j u, (i16s xs)[j]? = some u → (w.alloc (.cells #[] 184)).cell? ((⟨ab, 0, none⟩ : Addr).add j) = some u := fun j u hu => by
    have hj : j < xs.length := by rw [← i16s_length]; exact (List.getElem?_eq_some_iff.1 hu).1
    rw [add0]
    refine (World.cell?_of_block (Below.heap_alloc _ _ _ hlt)).trans ((h j hj).trans ?_)
    rw [← i16s_at xs j hj, hu]
  have HL := (show Hid ((i16s xs).length = xs.length * 1) from by rw [i16s_length]; exact (Nat.mul_one _).symm)
  clear h
  go_enter Tryz.func103, Tryz.ntmps103
  go_wp2_with (at_builtin; refine wpList_append_own _ rfl _ _ 114 rfl w.heap.size 184 i0 (.int .i16 0) 1 2 Tryz.underlying114 hi hz0 hz1 hz2 rfl (by decide) (.slice (some ⟨w.heap.size, 0, none⟩) 0 0) 0 [] rfl hown ⟨ab, 0, none⟩ xs.length cap (i16s xs) rfl HL.out hc' (i16s_one xs) (by omega) (by omega) (by simp) ?_; intro v' w1 hown' hgrow hnil)
  go_ret
  have hk : Keep noBlock w w1 := ((Keep.refl _ w).alloc _).grown hgrow (fun k e hk => by
    have e' : w.heap.size = k := by simpa [Value.ownBlock] using e
    omega)
  rw [List.nil_append, Nat.zero_add] at hown'
  rcases hown'.2 with ⟨e1, h0⟩ | ⟨g, cap', cur, e1, hb, hg, hr1, hr2, hr3, hr4⟩
  · have := hnil.1 e1
    cases this.1
  · subst e1
    refine ⟨g, cap', rfl, hb, ⟨.inl rfl, (fun e => by cases e), fun j hj => ?_, hr1⟩, hk⟩
    have q1 := hown'.cells (g := g) rfl _ _ (i16s_at xs j hj)
    rw [add0] at q1
    rw [Nat.zero_add]; exact q1

/-- What of a description is still to be read. -/
def Rest (bs : List Nat) (xs : List Int) (i R q E : Nat) : Bool → Prop
  | false => ∃ f, xs.length - i ≤ f ∧ Laid bs q (dsc f R (xs.drop i)) ∧ q + (dsc f R (xs.drop i)).length = E
  | true => xs.drop i ≠ [] ∧ ∃ f, xs.length - i ≤ f ∧ Laid bs q (zbits (zl (xs.drop i)) ++ dsc f R ((xs.drop i).drop (zl (xs.drop i)))) ∧ q + (zbits (zl (xs.drop i)) ++ dsc f R ((xs.drop i).drop (zl (xs.drop i)))).length = E
def boolN : Value → Nat
  | .bool true => 1
  | _ => 0
theorem getD_dropI (xs : List Int) (i j : Nat) : (xs.drop i)[j]?.getD 0 = xs[i + j]?.getD 0 := by rw [List.getElem?_drop]
theorem drop_consI (xs : List Int) (i : Nat) (h : i < xs.length) : xs.drop i = (xs[i]?.getD 0) :: xs.drop (i + 1) := by
  rw [List.drop_eq_getElem_cons h, List.getElem?_eq_getElem h]; rfl

set_option maxRecDepth 100000 in
set_option maxHeartbeats 4000000 in
theorem readCounts_any (rb g : Nat) (bs : List Nat) (p ms f : Nat) (xs : List Int) (w : World) (h : IsR w rb g bs p) (hrb : rb < w.heap.size) (hG : Good xs) (hL : Laid bs p (dsc f (tot xs) xs)) (hf : xs.length ≤ f) (hms : xs.length ≤ ms + 1) (hms2 : ms ≤ 255) :
    Calls Tryz.prog 76 #[.pointer (some ⟨rb, 0, none⟩), .int .i64 ((tot xs : Nat) : Int), .int .i64 (ms : Int)] w fun e w' => ∃ gc cap', e = .returned (.tuple #[.slice (some ⟨gc, 0, none⟩) xs.length cap', .int .i64 0]) ∧ w.heap.size ≤ gc ∧ RowI w' .i16 (some ⟨gc, 0, none⟩) cap' gc 0 xs ∧
      IsR w' rb g bs (p + (dsc f (tot xs) xs).length) ∧ Keep (fun k => k = rb) w w' := by
  have hA : IsA (w.alloc (.cells Tryz.zeroCells185 185)) w.heap.size 185 .i16 256 (fun _ => 0) := by rw [zero112]; exact isA_zeros w 185 .i16 256
  have hI1 := h.keep ((Keep.refl noBlock w).alloc (.cells Tryz.zeroCells185 185)) (fun h => h) (fun _ h => h)
  obtain ⟨E, hE⟩ : ∃ E, E = p + (dsc f (tot xs) xs).length := ⟨_, rfl⟩
  rw [← hE]
  have hlt := hG.le
  have HA := (show Hid (IsA (w.alloc (.cells Tryz.zeroCells185 185)) w.heap.size 185 .i16 256 (fun _ => 0) ∧ IsR (w.alloc (.cells Tryz.zeroCells185 185)) rb g bs p ∧ Keep (fun k => k = rb) w (w.alloc (.cells Tryz.zeroCells185 185)) ∧ Rest bs xs 0 (tot xs) p E false) from
    ⟨hA, hI1, (Keep.refl _ w).alloc _, f, by omega, hL, hE.symm⟩)
  have HH := (show Hid (Good xs ∧ xs.length ≤ 256 ∧ g < w.heap.size) from ⟨hG, by omega, h.lt⟩)
  obtain ⟨n, hn⟩ : ∃ n, n = xs.length := ⟨_, rfl⟩
  rw [← hn] at hms ⊢
  have HN := (show Hid (n = xs.length) from hn)
  obtain ⟨R0, hR0⟩ : ∃ R0, R0 = tot xs := ⟨_, rfl⟩
  rw [← hR0] at HA hlt ⊢
  have HR0 := (show Hid (R0 = tot xs) from hR0)
  clear hA hI1 hE h hG hL hf hn hR0
  go_enter Tryz.func76, Tryz.ntmps76
  go_wp2_with fail
  refine wp_scope_straight ?_
  go_wp2_with fail
  refine wp_label ?_
  go_wp2_with fail
  generalize w.alloc (.cells Tryz.zeroCells185 185) = W1 at HA ⊢
  obtain ⟨ab, hab⟩ : ∃ ab, ab = w.heap.size := ⟨_, rfl⟩
  rw [← hab] at HA hrb ⊢
  have HAB := (show Hid (ab = w.heap.size) from hab)
  clear hab
  go_loopw [1, 9, 10, 11] (fun v1 v9 v10 v11 wr => ∃ (i R q : Nat) (more : Bool), v1 = .int .i64 (R : Int) ∧ v9 = .int .i64 (i : Int) ∧ v10 = .int .i64 0 ∧ v11 = .bool more ∧ i ≤ n ∧
    Hid (R = tot (xs.drop i) ∧ IsA wr ab 185 .i16 256 (fun j => if j < i then xs[j]?.getD 0 else 0) ∧ IsR wr rb g bs q ∧ Keep (fun k => k = rb) w wr ∧ Rest bs xs i R q E more)) (fun _ v9 _ v11 _ => 2 * (n - (intOf v9).toNat) + boolN v11)
  case atStart =>
    obtain ⟨a1, a2, a3, a4⟩ := HA.out
    exact ⟨0, R0, p, false, rfl, rfl, rfl, rfl, Nat.zero_le _, HR0.out, a1.congr (fun _ _ => by simp), a2, a3, a4⟩
  case round =>
    clear HA
    obtain ⟨i, R, q, more, rfl, rfl, rfl, rfl, hi, HC⟩ := hrel
    cases more with
    | true =>
      obtain ⟨hR, hA, hI, hK, hne, f, hf, hL, hE⟩ := HC.out
      have hG := HH.out.1.drop i
      have hin : i < n := by
        rcases Nat.lt_or_ge i n with h | h
        · exact h
        · exact absurd (List.drop_eq_nil_of_le (by have := HN.out; omega)) hne
      have hpos := hG.pos hne
      rw [← hR] at hpos
      have hle := hG.le
      rw [← hR] at hle
      have hzl := hG.zl hne
      have hz0 := zl_zero (xs.drop i)
      have hn := HN.out
      rw [List.length_drop] at hzl
      have hRp : 0 < (R : Int) := by omega
      have hmsI : ¬ (ms : Int) < (i : Int) := by omega
      have hib : (i : Int) ≤ 256 := by omega
      by_cases h3 : 3 ≤ zl (xs.drop i)
      · obtain ⟨k, hk⟩ : ∃ k, zl (xs.drop i) = k + 3 := ⟨zl (xs.drop i) - 3, by omega⟩
        rw [hk, zbits_more, List.append_assoc] at hL hE
        have hnum : numAt bs q 2 = 3 := hL.left.num 2 (by omega)
        have hle2 := hL.left.le
        rw [low_length] at hle2
        have hR2 := hL.right
        rw [low_length] at hR2
        have hzd : zl (xs.drop (i + 3)) = k := by rw [← List.drop_drop, zl_drop _ 3 (by omega), hk]; omega
        have htd : tot (xs.drop (i + 3)) = tot (xs.drop i) := by rw [← List.drop_drop]; exact tot_zeros _ 3 (by omega)
        have HB := (show Hid (Calls Tryz.prog 75 #[.pointer (some ⟨rb, 0, none⟩), .int .i64 2] wr _) from bits_take_i rb g bs q 2 3 2 rfl (by omega) wr hI hle2 hnum)
        have HG2 := (show Hid (R = tot (xs.drop (i + 3)) ∧ IsA wr ab 185 .i16 256 (fun j => if j < i + 3 then xs[j]?.getD 0 else 0) ∧ Keep (fun k => k = rb) w wr ∧ Rest bs xs (i + 3) R (q + 2) E true ∧ i + 3 ≤ n) from by
          refine ⟨by rw [htd]; exact hR, hA.congr (fun j _ => ?_), hK, ⟨?_, f, by omega, ?_, ?_⟩, by omega⟩
          · by_cases hj : j < i
            · rw [if_pos hj, if_pos (by omega)]
            · rw [if_neg hj]
              by_cases hj3 : j < i + 3
              · rw [if_pos hj3]
                have := hz0 (j - i) (by omega)
                rw [getD_dropI, show i + (j - i) = j from by omega] at this
                exact this.symm
              · rw [if_neg hj3]
          · intro e
            have := congrArg List.length e
            rw [List.length_drop] at this
            simp at this
            omega
          · rw [hzd, List.drop_drop, show i + 3 + k = i + (k + 3) from by omega, ← List.drop_drop]; exact hR2
          · rw [hzd, List.drop_drop, show i + 3 + k = i + (k + 3) from by omega, ← List.drop_drop]
            rw [List.length_append, low_length] at hE
            omega)
        have hi3 : (i : Int) + 3 = ((i + 3 : Nat) : Int) := by omega
        obtain ⟨i3, hi3e⟩ : ∃ i3, i3 = i + 3 := ⟨_, rfl⟩
        rw [← hi3e] at hi3 HG2
        have hi3b : (i3 : Int) ≤ 256 := by omega
        have HI3 := (show Hid (i3 = i + 3) from hi3e)
        clear hR hA hI hK hne hf hL hE hG hpos hle hzl hz0 hn h3 hk hnum hle2 hR2 hzd htd HC hi3e
        go_wp2_with fail
        refine HB.out.mono ?_
        rintro e w1 ⟨rfl, hI1, hK1⟩
        have HI1 := (show Hid (IsR w1 rb g bs (q + 2) ∧ Keep (fun k => k = rb) wr w1) from ⟨hI1, hK1⟩)
        clear hI1 hK1
        rw [show ((3 : Nat) : Int) = (3 : Int) from rfl]
        go_wp2_with fail
        go_roundw
        case rel =>
          obtain ⟨g1, g2, g3, g4, g5⟩ := HG2.out
          obtain ⟨e1, e2⟩ := HI1.out
          exact ⟨i3, R, q + 2, true, rfl, rfl, rfl, rfl, g5, g1, g2.keep e2 (by omega), e1, g3.trans e2 (fun _ _ h => h), g4⟩
        case measure => have := HI3.out; have := HG2.out.2.2.2.2; simp [intOf, boolN]; omega
      · obtain ⟨k, hk⟩ : ∃ k, zl (xs.drop i) = k := ⟨_, rfl⟩
        rw [hk] at h3 hzl hz0
        rw [hk, zbits_few k (by omega)] at hL hE
        have hnum : numAt bs q 2 = k := by rw [hL.left.num 2 (by omega)]; exact Nat.mod_eq_of_lt (by omega)
        have hle2 := hL.left.le
        rw [low_length] at hle2
        have hR2 := hL.right
        rw [low_length, List.drop_drop] at hR2
        have htd : tot (xs.drop (i + k)) = tot (xs.drop i) := by rw [← List.drop_drop]; exact tot_zeros _ k (by omega)
        have HB := (show Hid (Calls Tryz.prog 75 #[.pointer (some ⟨rb, 0, none⟩), .int .i64 2] wr _) from bits_take_i rb g bs q 2 k 2 rfl (by omega) wr hI hle2 hnum)
        have HG2 := (show Hid (R = tot (xs.drop (i + k)) ∧ IsA wr ab 185 .i16 256 (fun j => if j < i + k then xs[j]?.getD 0 else 0) ∧ Keep (fun k => k = rb) w wr ∧ Rest bs xs (i + k) R (q + 2) E false ∧ i + k ≤ n) from by
          refine ⟨by rw [htd]; exact hR, hA.congr (fun j _ => ?_), hK, ⟨f, by omega, hR2, ?_⟩, by omega⟩
          · by_cases hj : j < i
            · rw [if_pos hj, if_pos (by omega)]
            · rw [if_neg hj]
              by_cases hj3 : j < i + k
              · rw [if_pos hj3]
                have := hz0 (j - i) (by omega)
                rw [getD_dropI, show i + (j - i) = j from by omega] at this
                exact this.symm
              · rw [if_neg hj3]
          · rw [List.length_append, low_length, List.drop_drop] at hE
            omega)
        have hi3 : (i : Int) + (k : Int) = ((i + k : Nat) : Int) := by omega
        obtain ⟨i3, hi3e⟩ : ∃ i3, i3 = i + k := ⟨_, rfl⟩
        rw [← hi3e] at hi3 HG2
        have hi3b : (i3 : Int) ≤ 256 := by omega
        have hk3 : ((k : Int) == 3) = false := by rw [beq_eq_false_iff_ne]; omega
        have hkb : (k : Int) < 3 := by omega
        have HI3 := (show Hid (i3 = i + k) from hi3e)
        clear hR hA hI hK hne hf hL hE hG hpos hle hzl hz0 hn h3 hk hnum hle2 hR2 htd HC hi3e
        go_wp2_with fail
        refine HB.out.mono ?_
        rintro e w1 ⟨rfl, hI1, hK1⟩
        have HI1 := (show Hid (IsR w1 rb g bs (q + 2) ∧ Keep (fun k => k = rb) wr w1) from ⟨hI1, hK1⟩)
        clear hI1 hK1
        go_wp2_with fail
        go_roundw
        case rel =>
          obtain ⟨g1, g2, g3, g4, g5⟩ := HG2.out
          obtain ⟨e1, e2⟩ := HI1.out
          exact ⟨i3, R, q + 2, false, rfl, rfl, rfl, rfl, g5, g1, g2.keep e2 (by omega), e1, g3.trans e2 (fun _ _ h => h), g4⟩
        case measure => have := HI3.out; have := HG2.out.2.2.2.2; simp [intOf, boolN]; omega
    | false =>
      by_cases hin : i < n
      · obtain ⟨hR, hA, hI, hK, f, hf, hL, hE⟩ := HC.out
        have hG := HH.out.1.drop i
        have hn := HN.out
        have hdc := drop_consI xs i (by omega)
        have hne : xs.drop i ≠ [] := by rw [hdc]; simp
        have hpos := hG.pos hne
        have hle := hG.le
        rw [← hR] at hpos hle
        have hb := HH.out.1.at_ i
        have hsh := tot_mem (xs.drop i) 0 hG.low
        rw [getD_dropI, Nat.add_zero, ← hR] at hsh
        obtain ⟨f, rfl⟩ : ∃ f', f = f' + 1 := ⟨f - 1, by omega⟩
        obtain ⟨c, hc⟩ : ∃ c, c = xs[i]?.getD 0 := ⟨_, rfl⟩
        rw [← hc] at hb hsh hdc
        obtain ⟨v, hv⟩ : ∃ v, v = (c + 1).toNat := ⟨_, rfl⟩
        have hcv : (v : Int) - 1 = c := by omega
        have hvR : v ≤ R + 1 := by unfold shareN at hsh; split at hsh <;> omega
        have hs0 := shareN_pos c hb.1
        have hsz := shareN_zero c
        have htt : R = (shareN c).toNat + tot (xs.drop (i + 1)) := by rw [hR, hdc]; rfl
        have hdd : dsc (f + 1) R (xs.drop i) = valBits R v ++ (if c = 0 then zbits (zl (xs.drop (i + 1))) ++ dsc f R ((xs.drop (i + 1)).drop (zl (xs.drop (i + 1)))) else dsc f (R - (shareN c).toNat) (xs.drop (i + 1))) := by rw [hv, hdc]; rfl
        rw [hdd] at hL hE
        have HB := (show Hid (Calls Tryz.prog 101 _ wr _) from readCount_any rb g bs q R v wr hI hL.left hpos hle hvR)
        rw [hcv] at HB
        obtain ⟨R2, hR2e⟩ : ∃ R2, R2 = R - (shareN c).toNat := ⟨_, rfl⟩
        have hsub : (R : Int) - shareN c = (R2 : Int) := by omega
        have hst := hA.set i c
        have HG2 := (show Hid (R2 = tot (xs.drop (i + 1)) ∧ IsA (wr.setCell ⟨ab, i, none⟩ (.int .i16 c)) ab 185 .i16 256 (fun j => if j < i + 1 then xs[j]?.getD 0 else 0) ∧ Keep (fun k => k = rb) w wr ∧ Rest bs xs (i + 1) R2 (q + (valBits R v).length) E (decide (c = 0)) ∧ IsA wr ab 185 .i16 256 (fun j => if j < i then xs[j]?.getD 0 else 0) ∧ c = xs[i]?.getD 0) from by
          refine ⟨by omega, hst.congr (fun j _ => ?_), hK, ?_, hA, hc⟩
          · by_cases e : j = i
            · subst e; rw [if_pos rfl, if_pos (by omega)]; exact hc
            · rw [if_neg e]
              by_cases hj : j < i
              · rw [if_pos hj, if_pos (by omega)]
              · rw [if_neg hj, if_neg (by omega)]
          · have hLr := hL.right
            rw [List.length_append] at hE
            by_cases hc0 : c = 0
            · rw [if_pos hc0] at hLr hE
              have hRR : R2 = R := by rw [hR2e, hsz.2 hc0]; simp
              rw [decide_eq_true hc0, hRR]
              refine ⟨?_, f, by omega, hLr, by omega⟩
              intro e
              rw [hdc, e, hc0] at hG
              exact hG.last (by simp) rfl
            · rw [if_neg hc0] at hLr hE
              rw [decide_eq_false hc0, hR2e]
              exact ⟨f, by omega, hLr, by omega⟩)
        have HSH := (show Hid (∀ w : World, _) from fun w => share_any c (by omega) (by omega) w)
        have hRp : 0 < (R : Int) := by omega
        have hmsI : ¬ (ms : Int) < (i : Int) := by omega
        have hib : (i : Int) < 256 := by omega
        have hRb : (R : Int) ≤ 4096 := by omega
        have hR2b : (R2 : Int) ≤ 4096 := by omega
        have hcb : -1 ≤ c := hb.1
        have hcb2 : c ≤ 4096 := hb.2
        have hgl := HH.out.2.2
        clear hR hA hI hK hf hL hE hG hpos hle hn HC hdc hne hsh hv hcv hvR htt hdd hR2e hst hb hc hsz
        generalize shareN c = sc at *
        go_wp2_with fail
        refine HB.out.mono ?_
        rintro e w1 ⟨rfl, hI1, hK1⟩
        have hA1 := HG2.out.2.2.2.2.1.keep hK1 (by omega)
        have fz := hA1.frozen i
        have cz := hA1.cell i (by omega)
        have HI1 := (show Hid (IsR w1 rb g bs (q + (valBits R v).length) ∧ Keep (fun k => k = rb) wr w1) from ⟨hI1, hK1⟩)
        have HG3 := (show Hid (IsA (w1.setCell ⟨ab, i, none⟩ (.int .i16 c)) ab 185 .i16 256 (fun j => if j < i + 1 then xs[j]?.getD 0 else 0) ∧ IsR (w1.setCell ⟨ab, i, none⟩ (.int .i16 c)) rb g bs (q + (valBits R v).length) ∧ Keep (fun k => k = rb) w (w1.setCell ⟨ab, i, none⟩ (.int .i16 c))) from by
          have kk : Keep (fun k => k = ab) w1 (w1.setCell ⟨ab, i, none⟩ (.int .i16 c)) := Keep.setCell (S := fun k => k = ab) (p := ⟨ab, i, none⟩) (Keep.refl _ w1) (fun _ => rfl) _
          have hab := HAB.out
          refine ⟨(hA1.set i c).congr (fun j _ => ?_), hI1.keep kk (by omega) (fun _ => by omega), (HG2.out.2.2.1.trans hK1 (fun _ _ h => h)).trans kk (fun j hj e => by omega)⟩
          by_cases e : j = i
          · subst e; rw [if_pos rfl, if_pos (by omega)]; exact HG2.out.2.2.2.2.2
          · rw [if_neg e]
            by_cases hj : j < i
            · rw [if_pos hj, if_pos (by omega)]
            · rw [if_neg hj, if_neg (by omega)])
        clear hI1 hK1 hA1
        by_cases hc0 : c = 0
        · have hd : decide (c = 0) = true := decide_eq_true hc0
          rw [hd] at HG2
          subst hc0
          go_wp2_with (go_at_call 102; refine (HSH.out _).mono ?_; rintro e w'' ⟨rfl, rfl⟩)
          go_roundw
          case rel =>
            obtain ⟨g1, g2, g3, g4, -⟩ := HG2.out
            obtain ⟨e1, e2, e3⟩ := HG3.out
            exact ⟨i + 1, R2, _, true, rfl, by go_num, rfl, rfl, by omega, g1, e1, e2, e3, g4⟩
          case measure => simp [intOf, boolN]; omega
        · have hd : decide (c = 0) = false := decide_eq_false hc0
          rw [hd] at HG2
          have hcb0 : (c == 0) = false := by simpa using hc0
          go_wp2_with (go_at_call 102; refine (HSH.out _).mono ?_; rintro e w'' ⟨rfl, rfl⟩)
          go_roundw
          case rel =>
            obtain ⟨g1, g2, g3, g4, -⟩ := HG2.out
            obtain ⟨e1, e2, e3⟩ := HG3.out
            exact ⟨i + 1, R2, _, false, rfl, by go_num, rfl, rfl, by omega, g1, e1, e2, e3, g4⟩
          case measure => simp [intOf, boolN]; omega
      · obtain rfl : i = n := by omega
        have HD := (show Hid (R = 0 ∧ IsA wr ab 185 .i16 256 (fun j => if j < i then xs[j]?.getD 0 else 0) ∧ IsR wr rb g bs E ∧ Keep (fun k => k = rb) w wr) from by
          obtain ⟨hR, hA, hI, hK, f, hf, hL, hE⟩ := HC.out
          have hd : xs.drop i = [] := List.drop_eq_nil_of_le (by have := HN.out; omega)
          rw [hd] at hR hL hE
          have h5 : dsc f R [] = [] := by cases f <;> rfl
          rw [h5] at hE
          have : q = E := by simpa using hE
          rw [this] at hI
          exact ⟨hR, hA, hI, hK⟩)
        obtain ⟨rfl, -⟩ := HD.out
        rw [show ((0 : Nat) : Int) = (0 : Int) from rfl]
        have hib : (i : Int) ≤ 256 := by have := HH.out.2.1; have := HN.out; omega
        clear HC
        go_wp2_with fail
        refine (clone65_any ab i 256 xs HN.out (by have := HH.out.2.1; omega) wr HD.out.2.1.lt (fun j hj => ?_)).mono ?_
        · rw [HD.out.2.1.cell j (by have := HH.out.2.1; omega), if_pos (by have := HN.out; omega)]
        · rintro e w3 ⟨gc, cap', rfl, hgc, hRow, hK3⟩
          rw [← HN.out]
          go_wp2_with fail
          simp only [Exit.noGoto]
          go_ret2
          have hk := HD.out.2.2.2
          refine ⟨gc, cap', rfl, by have := hk.size; omega, hRow, HD.out.2.2.1.keep hK3 (fun h => h) (fun _ h => h), hk.trans hK3 (fun _ _ h => h.elim)⟩

end Go.Proofs.YtcoahkmiebeeeaaGreatDoor

namespace Go.Proofs.YtcoahkmiebeeeaaGreatDoor
open Go.RowKit Go.Shelf

theorem left_i (rb g : Nat) (bs : List Nat) (p y : Nat) (hy : bs.length * 8 = p + y) (w : World) (h : IsR w rb g bs p) :
    Calls Tryz.prog 77 #[.pointer (some ⟨rb, 0, none⟩)] w fun e w' => e = .returned (.int .i64 (y : Int)) ∧ ∃ n, w' = w.drewN n := by
  have := left_any rb g bs p w h
  rw [show (bs.length : Int) * 8 - (p : Int) = (y : Int) from by omega] at this
  exact this

section
attribute [local go_sem] sliceSem_eq minSem_eq
set_option maxRecDepth 100000 in
set_option maxHeartbeats 4000000 in
theorem read_good (base : Nat) (v : Value) (bs : List Nat) (xs : List Int) (l ml ms : Nat) (w : World) (hown : w.ownsRow base 5 1 v bs.length (u8s bs)) (hbs : ∀ j : Nat, bs[j]?.getD 0 < 256) (hlen : bs.length ≤ 140737488355327) (hb : okT xs (l : Int) = true)
    (hL : Laid (bs.take 481) 0 (dscAll xs l)) (hml : l ≤ ml) (hml2 : ml ≤ 12) (hms : xs.length ≤ ms + 1) (hms2 : ms ≤ 255) :
    Calls Tryz.prog 54 #[v, .int .i64 (ml : Int), .int .i64 (ms : Int)] w fun e w' => ∃ gc cap', e = .returned (.tuple #[.slice (some ⟨gc, 0, none⟩) xs.length cap', .int .i64 (l : Int), .int .i64 ((((dscAll xs l).length + 7) / 8 : Nat) : Int), .int .i64 0]) ∧ w.heap.size ≤ gc ∧
      RowI w' .i16 (some ⟨gc, 0, none⟩) cap' gc 0 xs ∧ Keep noBlock w w' := by
  obtain ⟨hG, hT, hne, hxl, hl5, hl12⟩ := okT_good hb
  have hL4 := hL.left
  have hLr := hL.right
  have hle := hL.le
  rw [low_length] at hLr
  have hdl : (dscAll xs l).length = 4 + (dsc xs.length (2 ^ l) xs).length := by unfold dscAll; rw [List.length_append, low_length]
  obtain ⟨k, hk⟩ : ∃ k, k = min bs.length 481 := ⟨_, rfl⟩
  have htl : (bs.take 481).length = k := by rw [List.length_take, hk]; omega
  rw [htl] at hle
  have hbne : bs.length ≠ 0 := by
    intro e
    omega
  rcases hown.2 with ⟨_, h0⟩ | ⟨g, cap, cur, rfl, hg0, hg, hr1, hr2, hr3, hr4⟩
  · exact absurd h0 hbne
  have hmin := fun W => minSem_run .i64 #[3, 3] 3 (bs.length : Int) 481 (k : Int) (by omega) W
  have hsl := fun W => run_high (t := 22) Tryz.underlying22 info5 (some ⟨g, 0, none⟩) bs.length cap k (by omega) W
  have hsrc : Src w (.slice (some ⟨g, 0, none⟩) k cap) (bs.take 481) := by
    refine .inr ⟨⟨g, 0, none⟩, cap, by rw [htl], obj_lt hg, fun j u hu => ?_⟩
    refine hown.cells (g := g) rfl j u ?_
    have e : u8s (bs.take 481) = (u8s bs).take 481 := by simp [u8s, List.map_take]
    rw [e, List.getElem?_take] at hu
    split at hu
    · exact hu
    · cases hu
  have hlt : ∀ j : Nat, (bs.take 481)[j]?.getD 0 < 256 := fun j => by
    rw [List.getElem?_take]
    split
    · exact hbs j
    · simp
  have HN := (show Hid (∀ W, Src W (.slice (some ⟨g, 0, none⟩) k cap) (bs.take 481) → _) from fun W hs => new_any (.slice (some ⟨g, 0, none⟩) k cap) (bs.take 481) (by omega) hlt W hs)
  have hn4 : numAt (bs.take 481) 0 4 = l - 5 := by
    rw [hL4.num 4 (Nat.le_refl _)]; exact Nat.mod_eq_of_lt (by omega)
  have hLr2 : Laid (bs.take 481) 4 (dsc xs.length (tot xs) xs) := by rw [hT]; simpa using hLr
  have hdl2 : (dscAll xs l).length = 4 + (dsc xs.length (tot xs) xs).length := by rw [hT]; exact hdl
  obtain ⟨E, hE⟩ : ∃ E, E = (dscAll xs l).length := ⟨_, rfl⟩
  rw [← hE] at hdl2 hle ⊢
  obtain ⟨y, hy⟩ : ∃ y, k * 8 = E + y := ⟨k * 8 - E, by omega⟩
  obtain ⟨u, hu⟩ : ∃ u, u = (E + 7) / 8 := ⟨_, rfl⟩
  obtain ⟨z, hz⟩ : ∃ z, z = y / 8 := ⟨_, rfl⟩
  have hzI : (y : Int) / 8 = (z : Int) := by omega
  have huI : (k : Int) - (z : Int) = (u : Int) := by omega
  rw [← hu]
  have HF := (show Hid (numAt (bs.take 481) 0 4 = l - 5 ∧ Laid (bs.take 481) 4 (dsc xs.length (tot xs) xs) ∧ E = 4 + (dsc xs.length (tot xs) xs).length ∧ Good xs ∧ (bs.take 481).length = k ∧ k * 8 = E + y ∧ 2 ^ l = tot xs ∧ 4 ≤ 8 * (bs.take 481).length) from ⟨hn4, hLr2, hdl2, hG, htl, hy, hT.symm, by rw [htl]; omega⟩)
  have hl5' : (5 : Int) + ((l - 5 : Nat) : Int) = (l : Int) := by omega
  obtain ⟨l5, hl5e⟩ : ∃ l5, l5 = l - 5 := ⟨_, rfl⟩
  rw [← hl5e] at hl5' HF
  have hlm : ¬ (ml : Int) < (l : Int) := by omega
  have hp : (2 : Int) ^ l = ((tot xs : Nat) : Int) := by rw [hT]; simp
  have hTb := hG.le
  obtain ⟨T, hTe⟩ : ∃ T, T = tot xs := ⟨_, rfl⟩
  rw [← hTe] at hp hTb
  have hTI : (T : Int) ≤ 4096 := by omega
  have HTE := (show Hid (T = tot xs) from hTe)
  have hd : decide (5 ≤ (ml : Int) ∧ (ml : Int) ≤ 12) = true := decide_eq_true ⟨by omega, by omega⟩
  have HIL := (show Hid (∀ w : World, Calls Tryz.prog 73 #[.int .i64 (ml : Int)] w fun e w' => e = .returned (.bool true) ∧ w' = w) from fun w => by have := isLog_any (ml : Int) w; rwa [hd] at this)
  have hm0 : ¬ (ms : Int) < 0 := by omega
  have hm2 : ¬ (256 : Int) ≤ (ms : Int) := by omega
  have hkI : (k : Int) ≤ 481 := by omega
  have hzb : (z : Int) ≤ 481 := by omega
  have hyb : (y : Int) ≤ 4000 := by omega
  have hl5b : (l5 : Int) ≤ 7 := by omega
  have hlI : (l : Int) ≤ 12 := by omega
  have HMS := (show Hid (xs.length ≤ ms + 1 ∧ ms ≤ 255) from ⟨hms, hms2⟩)
  clear hL hL4 hLr hle hdl htl hbne hr1 hr2 hr3 hr4 hlt hn4 hLr2 hdl2 hE hy hu hz hG hT hTe hd hb hl5e hk hown hg hms hms2
  generalize bs.length = bl at *
  go_enter Tryz.func54, Tryz.ntmps54
  go_wp2_with (go_at_call 73; refine (HIL.out _).mono ?_; rintro e w' ⟨rfl, rfl⟩)
  refine (HN.out _ hsrc).mono ?_
  rintro e w1 ⟨rb, gg, rfl, hrb, hgg, hI1, hK1⟩
  have HI1 := (show Hid (IsR w1 rb gg (bs.take 481) 0 ∧ Keep noBlock w' w1 ∧ w'.heap.size ≤ rb ∧ w'.heap.size ≤ gg) from ⟨hI1, hK1, hrb, hgg⟩)
  clear hI1 hK1 hrb hgg hsrc
  go_wp2_with fail
  refine (bits_take_i rb gg (bs.take 481) 0 4 l5 _ rfl (by omega) w1 HI1.out.1 (by have := HF.out.2.2.2.2.2.2.2; omega) HF.out.1).mono ?_
  rintro e w2 ⟨rfl, hI2, hK2⟩
  rw [Nat.zero_add] at hI2
  have HI2 := (show Hid (IsR w2 rb gg (bs.take 481) 4 ∧ Keep (fun k => k = rb) w1 w2) from ⟨hI2, hK2⟩)
  clear hI2 hK2
  go_wp2_with fail
  rw [HTE.out]
  refine (readCounts_any rb gg (bs.take 481) 4 ms xs.length xs w2 HI2.out.1 (by obtain ⟨_, _, _, ho⟩ := HI2.out.1.obj; exact obj_lt ho) HF.out.2.2.2.1 HF.out.2.1 (Nat.le_refl _) HMS.out.1 HMS.out.2).mono ?_
  rintro e w3 ⟨gc, cap', rfl, hgc, hRow, hI3, hK3⟩
  rw [← HF.out.2.2.1] at hI3
  have HI3 := (show Hid (w2.heap.size ≤ gc ∧ RowI w3 .i16 (some ⟨gc, 0, none⟩) cap' gc 0 xs ∧ IsR w3 rb gg (bs.take 481) E ∧ Keep (fun k => k = rb) w2 w3) from ⟨hgc, hRow, hI3, hK3⟩)
  clear hgc hRow hI3 hK3
  go_wp2_with fail
  refine (left_i rb gg (bs.take 481) E y (by rw [HF.out.2.2.2.2.1]; exact HF.out.2.2.2.2.2.1) w3 HI3.out.2.2.1).mono ?_
  rintro e w4 ⟨rfl, nq, rfl⟩
  go_wp2_with fail
  obtain ⟨h1, h2, h3, h4⟩ := HI3.out
  obtain ⟨i1, i2, i3, i4⟩ := HI1.out
  have k1 : Keep noBlock w' w3 := (i2.trans HI2.out.2 (fun i hi e => by omega)).trans h4 (fun i hi e => by omega)
  have hz2 : w'.heap.size ≤ w2.heap.size := Nat.le_trans i2.size HI2.out.2.size
  exact bodyPost_ret (v := .tuple #[.slice (some ⟨gc, 0, none⟩) xs.length cap', .int .i64 (l : Int), .int .i64 (u : Int), .int .i64 0]) (by simp [results, Tryz.results54, go_sem]) rfl ⟨gc, cap', rfl, by omega, h2.keep (keep_drewN w3 nq) (fun _ h => h), k1.trans (keep_drewN w3 nq) (fun _ _ h => h)⟩
end

end Go.Proofs.YtcoahkmiebeeeaaGreatDoor

namespace Go.Proofs.YtcoahkmiebeeeaaGreatDoor
open Go.RowKit Go.Shelf
set_option linter.unusedVariables false

/-- The value that is read at bit p while R is left, and the next bit. -/
def valR (bs : List Nat) (p R : Nat) : Option (Nat × Nat) :=
  if 8 * bs.length < p + (valM R - 1) then none
  else if numAt bs p (valM R - 1) < valT R then some (numAt bs p (valM R - 1), p + (valM R - 1))
  else if 8 * bs.length < p + (valM R - 1) + 1 then none
  else if numAt bs (p + (valM R - 1)) 1 = 1 then some (numAt bs p (valM R - 1) + 2 ^ (valM R - 1) - valT R, p + (valM R - 1) + 1)
  else some (numAt bs p (valM R - 1), p + (valM R - 1) + 1)
theorem valR_le {bs : List Nat} {p R v p' : Nat} (hR1 : 1 ≤ R) (h : valR bs p R = some (v, p')) : v ≤ R + 1 := by
  have h1 := numAt_lt bs p (valM R - 1)
  obtain ⟨h2, h3, h4⟩ := val_half R hR1
  have h5 := valT_eq R
  unfold valR at h
  split at h
  · cases h
  split at h
  · cases h; omega
  split at h
  · cases h
  split at h
  · cases h; omega
  · cases h; omega
theorem valR_far {bs : List Nat} {p R v p' : Nat} (h : valR bs p R = some (v, p')) : p' ≤ 8 * bs.length ∧ p ≤ p' := by
  unfold valR at h
  split at h
  · cases h
  split at h
  · cases h; omega
  split at h
  · cases h
  split at h
  · cases h; omega
  · cases h; omega
/-- What readCount answers. -/
def CntPost (T : Option (Nat × Nat)) (rb g : Nat) (bs : List Nat) (w : World) (e : Ending) (w' : World) : Prop :=
  Keep (fun k => k = rb) w w' ∧ match T with
    | none => e = .returned (.tuple #[.int .i16 0, .int .i64 10])
    | some (v, p') => e = .returned (.tuple #[.int .i16 ((v : Int) - 1), .int .i64 0]) ∧ IsR w' rb g bs p'
theorem cnt_none {T : Option (Nat × Nat)} {rb g : Nat} {bs : List Nat} {w w' : World} (h : T = none) (hk : Keep (fun k => k = rb) w w') : CntPost T rb g bs w (.returned (.tuple #[.int .i16 0, .int .i64 10])) w' := by subst h; exact ⟨hk, rfl⟩
theorem cnt_some {T : Option (Nat × Nat)} {v p' : Nat} {rb g : Nat} {bs : List Nat} {w w' : World} (h : T = some (v, p')) (hk : Keep (fun k => k = rb) w w') (hi : IsR w' rb g bs p') : CntPost T rb g bs w (.returned (.tuple #[.int .i16 ((v : Int) - 1), .int .i64 0])) w' := by subst h; exact ⟨hk, rfl, hi⟩

theorem bits_few_i (rb g : Nat) (bs : List Nat) (p m : Nat) (mi : Int) (hmi : mi = (m : Int)) (hm : m ≤ 56) (w : World) (h : IsR w rb g bs p) (hp : 8 * bs.length < p + m) :
    Calls Tryz.prog 75 #[.pointer (some ⟨rb, 0, none⟩), .int .i64 mi] w fun e w' => e = .returned (.tuple #[.int .u64 0, .int .i64 10]) ∧ ∃ n, w' = w.drewN n := by
  subst hmi; exact bits_few rb g bs p m hm w h hp

set_option maxHeartbeats 2000000 in
theorem readCount_all (rb g : Nat) (bs : List Nat) (p R : Nat) (w : World) (h : IsR w rb g bs p) (hR1 : 1 ≤ R) (hR : R ≤ 4096) :
    Calls Tryz.prog 101 #[.pointer (some ⟨rb, 0, none⟩), .int .i64 (R : Int)] w fun e w' => CntPost (valR bs p R) rb g bs w e w' := by
  have HV := (show Hid (∀ w : World, _) from fun w => valueBits_any R hR w)
  have hm2 := valM_ge R hR1
  have hm13 := valM_le R hR
  have hT := valT_eq R
  have hH := val_half R hR1
  obtain ⟨k, hm⟩ : ∃ k, valM R = k + 1 := ⟨valM R - 1, by omega⟩
  have hm1 : valM R - 1 = k := by omega
  obtain ⟨T, hdef⟩ : ∃ T, T = valR bs p R := ⟨_, rfl⟩
  rw [← hdef]
  unfold valR at hdef
  rw [hm1] at hH hdef
  have hx := numAt_lt bs p k
  generalize valM R = m at *
  generalize valT R = t at *
  have hp : (2 : Nat) ^ m ≤ 2 ^ 13 := Nat.pow_le_pow_right (by omega) hm13
  have hk : (m : Int) - 1 = (k : Int) := by omega
  have hk12 : (k : Int) ≤ 12 := by omega
  have hpk : (2 : Int) ^ k = ((2 ^ k : Nat) : Int) := by simp
  obtain ⟨P, hP⟩ : ∃ P : Nat, P = 2 ^ k := ⟨_, rfl⟩
  rw [← hP] at hpk hH hx hdef
  have hPb : P ≤ 4096 := by omega
  have hPI : (P : Int) ≤ 4096 := by omega
  have htP : (t : Int) ≤ (P : Int) := by omega
  have HK := (show Hid (m = k + 1 ∧ k ≤ 12 ∧ P = 2 ^ k ∧ IsR w rb g bs p) from ⟨hm, by omega, hP, h⟩)
  have kq : ∀ q, Keep (fun k => k = rb) w (w.drewN q) := fun q => (keep_drewN w q).mono (fun _ _ h => h.elim)
  have HQ := (show Hid (∀ q, Keep (fun k => k = rb) w (w.drewN q)) from kq)
  have k2 : ∀ (W : World) q, Keep (fun k => k = rb) W (W.drewN q) := fun W q => (keep_drewN W q).mono (fun _ _ h => h.elim)
  have HQ2 := (show Hid (∀ (W : World) q, Keep (fun k => k = rb) W (W.drewN q)) from k2)
  by_cases c1 : 8 * bs.length < p + k
  · rw [if_pos c1] at hdef
    have HD := (show Hid (T = none ∧ 8 * bs.length < p + k) from ⟨hdef, c1⟩)
    clear hP hm h hT hH hp hm2 hm13 hm1 kq hdef hx k2 c1
    go_enter Tryz.func101, Tryz.ntmps101
    go_wp2_with (first | (go_at_call 121; refine (HV.out _).mono ?_; rintro e w' ⟨rfl, q, rfl⟩) | (go_at_call 75; refine (bits_few_i rb g bs p k _ rfl (by have := HK.out; omega) _ (HK.out.2.2.2.drewN _) HD.out.2).mono ?_; rintro e w' ⟨rfl, q2, rfl⟩))
    go_ret2
    exact cnt_none HD.out.1 (HQ.out _)
  · rw [if_neg c1] at hdef
    obtain ⟨x, hxe⟩ : ∃ x, numAt bs p k = x := ⟨_, rfl⟩
    rw [hxe] at hdef hx
    have hxI : (x : Int) < (P : Int) := by omega
    by_cases c2 : x < t
    · rw [if_pos c2] at hdef
      have g1 : ¬ (t : Int) ≤ (x : Int) := by omega
      have HD := (show Hid (T = some (x, p + k) ∧ p + k ≤ 8 * bs.length ∧ numAt bs p k = x) from ⟨hdef, by omega, hxe⟩)
      clear hP hm h hT hH hp hm2 hm13 hm1 kq hdef hx k2 c1 c2 hxe
      go_enter Tryz.func101, Tryz.ntmps101
      go_wp2_with (first | (go_at_call 121; refine (HV.out _).mono ?_; rintro e w' ⟨rfl, q, rfl⟩) | (go_at_call 75; refine (bits_take_i rb g bs p k x _ rfl (by have := HK.out; omega) _ (HK.out.2.2.2.drewN _) HD.out.2.1 HD.out.2.2).mono ?_; rintro e w' ⟨rfl, hI2, hK2⟩))
      go_ret2
      exact cnt_some HD.out.1 ((HQ.out q).trans hK2 (fun _ _ h => h)) hI2
    · rw [if_neg c2] at hdef
      have g1 : (t : Int) ≤ (x : Int) := by omega
      by_cases c3 : 8 * bs.length < p + k + 1
      · rw [if_pos c3] at hdef
        have HD := (show Hid (T = none ∧ p + k ≤ 8 * bs.length ∧ numAt bs p k = x ∧ 8 * bs.length < p + k + 1) from ⟨hdef, by omega, hxe, c3⟩)
        clear hP hm h hT hH hp hm2 hm13 hm1 kq hdef hx k2 c1 c2 hxe c3
        go_enter Tryz.func101, Tryz.ntmps101
        go_wp2_with (go_at_call 121; refine (HV.out _).mono ?_; rintro e w' ⟨rfl, q, rfl⟩)
        refine (bits_take_i rb g bs p k x _ rfl (by have := HK.out; omega) _ (HK.out.2.2.2.drewN _) HD.out.2.1 HD.out.2.2.1).mono ?_
        rintro e w1 ⟨rfl, hI1, hK1⟩
        go_wp2_with fail
        refine (bits_few_i rb g bs (p + k) 1 _ rfl (by omega) _ hI1 HD.out.2.2.2).mono ?_
        rintro e w2 ⟨rfl, q2, rfl⟩
        go_wp2_with fail
        go_ret2
        exact cnt_none HD.out.1 (((HQ.out q).trans hK1 (fun _ _ h => h)).trans (HQ2.out _ q2) (fun _ _ h => h))
      · rw [if_neg c3] at hdef
        have hb2 := numAt_lt bs (p + k) 1
        by_cases c4 : numAt bs (p + k) 1 = 1
        · rw [if_pos c4] at hdef
          obtain ⟨v, hv⟩ : ∃ v, v = x + P - t := ⟨_, rfl⟩
          rw [← hv] at hdef
          have g2 : (x : Int) + ((P : Int) - (t : Int)) = (v : Int) := by omega
          have g3 : (v : Int) ≤ 8192 := by omega
          have HD := (show Hid (T = some (v, p + k + 1) ∧ p + k ≤ 8 * bs.length ∧ numAt bs p k = x ∧ p + k + 1 ≤ 8 * bs.length ∧ numAt bs (p + k) 1 = 1) from ⟨hdef, by omega, hxe, by omega, c4⟩)
          clear hP hm h hT hH hp hm2 hm13 hm1 kq hdef hx k2 c1 c2 hxe c3 c4 hb2 hv
          go_enter Tryz.func101, Tryz.ntmps101
          go_wp2_with (go_at_call 121; refine (HV.out _).mono ?_; rintro e w' ⟨rfl, q, rfl⟩)
          refine (bits_take_i rb g bs p k x _ rfl (by have := HK.out; omega) _ (HK.out.2.2.2.drewN _) HD.out.2.1 HD.out.2.2.1).mono ?_
          rintro e w1 ⟨rfl, hI1, hK1⟩
          go_wp2_with fail
          refine (bits_take_i rb g bs (p + k) 1 1 _ rfl (by omega) _ hI1 HD.out.2.2.2.1 HD.out.2.2.2.2).mono ?_
          rintro e w2 ⟨rfl, hI2, hK2⟩
          go_wp2_with fail
          go_ret2
          exact cnt_some HD.out.1 (((HQ.out q).trans hK1 (fun _ _ h => h)).trans hK2 (fun _ _ h => h)) hI2
        · rw [if_neg c4] at hdef
          have c5 : numAt bs (p + k) 1 = 0 := by omega
          have HD := (show Hid (T = some (x, p + k + 1) ∧ p + k ≤ 8 * bs.length ∧ numAt bs p k = x ∧ p + k + 1 ≤ 8 * bs.length ∧ numAt bs (p + k) 1 = 0) from ⟨hdef, by omega, hxe, by omega, c5⟩)
          clear hP hm h hT hH hp hm2 hm13 hm1 kq hdef hx k2 c1 c2 hxe c3 c4 hb2 c5
          go_enter Tryz.func101, Tryz.ntmps101
          go_wp2_with (go_at_call 121; refine (HV.out _).mono ?_; rintro e w' ⟨rfl, q, rfl⟩)
          refine (bits_take_i rb g bs p k x _ rfl (by have := HK.out; omega) _ (HK.out.2.2.2.drewN _) HD.out.2.1 HD.out.2.2.1).mono ?_
          rintro e w1 ⟨rfl, hI1, hK1⟩
          go_wp2_with fail
          refine (bits_take_i rb g bs (p + k) 1 0 _ rfl (by omega) _ hI1 HD.out.2.2.2.1 HD.out.2.2.2.2).mono ?_
          rintro e w2 ⟨rfl, hI2, hK2⟩
          go_wp2_with fail
          go_ret2
          exact cnt_some HD.out.1 (((HQ.out q).trans hK1 (fun _ _ h => h)).trans hK2 (fun _ _ h => h)) hI2

end Go.Proofs.YtcoahkmiebeeeaaGreatDoor
