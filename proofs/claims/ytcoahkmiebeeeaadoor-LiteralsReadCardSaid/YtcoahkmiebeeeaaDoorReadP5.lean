/-
  Read of a description: one count.
  What was put into a tail, and what is read of it again from the end on.
  Bytes as a string.
  Slices of bytes: cut, copied, appended, made, as strings.
  What came in: slices of integers, as the rows hand them on.
  The statement 'for .. := range g': its body is asked for what the function hands over alone, told by a relation.
  How much shorter words get with one state more, as plain numbers; sums over symbols.
-/
import Derived.Laws.CopyRow
import Derived.Laws.IdiomCopy
import Derived.Deep.OwnRows
import Derived.WalkKit
import Derived.ProofKit
import Derived.OpenShut
import Derived.ChangeOld
import Derived.ChangeSame
import Derived.ChangeArms
import Derived.Below
import Derived.SizedLaws
import Derived.Deep.Slices
import Derived.Deep.Strs
import Derived.Deep.Matrix
import Derived.Lib.SmallJoins
import Derived.Test.YtcoahkmiebeeeaaDoorRows
import Derived.Test.YtcoahkmiebeeeaaDoorReadP4
namespace Go.Proofs.YtcoahkmiebeeeaaDoor
open Go.RowKit Go.Shelf

theorem bitL_low (x m k : Nat) (h : k < m) : bitL (low x m) k = bitOf x k := by
  unfold bitL low upto
  rw [List.getElem?_map, List.getElem?_range h]
  rfl
theorem numF_bitOf (x m : Nat) : numF (fun k => bitOf x k) m = x % 2 ^ m := by
  induction m with
  | zero => simp [numF, Nat.mod_one]
  | succ m ih =>
    simp only [numF]
    rw [ih, Nat.mod_pow_succ, bitOf, Nat.mul_comm]
/-- The bits B stand in the bytes from bit p on. -/
def Laid (bs : List Nat) (p : Nat) (B : List (Fin 2)) : Prop := p + B.length ≤ 8 * bs.length ∧ ∀ k, k < B.length → bitAt bs (p + k) = bitL B k
theorem Laid.left {bs : List Nat} {p : Nat} {A B : List (Fin 2)} (h : Laid bs p (A ++ B)) : Laid bs p A := by
  obtain ⟨h1, h2⟩ := h
  rw [List.length_append] at h1 h2
  exact ⟨by omega, fun k hk => by rw [h2 k (by omega), bitL_app _ _ _ hk]⟩
theorem Laid.right {bs : List Nat} {p : Nat} {A B : List (Fin 2)} (h : Laid bs p (A ++ B)) : Laid bs (p + A.length) B := by
  obtain ⟨h1, h2⟩ := h
  rw [List.length_append] at h1 h2
  exact ⟨by omega, fun k hk => by rw [Nat.add_assoc, h2 (A.length + k) (by omega), bitL_behind]⟩
/-- A beginning of a number, read. -/
theorem Laid.num {bs : List Nat} {p x m : Nat} (h : Laid bs p (low x m)) (k : Nat) (hk : k ≤ m) : numAt bs p k = x % 2 ^ k := by
  rw [numAt_numF, ← numF_bitOf]
  refine numF_congr _ _ _ (fun i hi => ?_)
  rw [h.2 i (by rw [low_length]; omega), bitL_low x m i (by omega)]
theorem Laid.one {bs : List Nat} {p x m : Nat} (h : Laid bs p (low x m)) (k : Nat) (hk : k < m) : numAt bs (p + k) 1 = x / 2 ^ k % 2 := by
  have h1 := h.2 k (by rw [low_length]; omega)
  rw [bitL_low x m k hk] at h1
  rw [numAt_numF]
  show numF (fun j => bitAt bs (p + k + j)) 1 = _
  simp only [numF, Nat.add_zero, h1]
  simp [bitOf]
theorem Laid.le {bs : List Nat} {p : Nat} {B : List (Fin 2)} (h : Laid bs p B) : p + B.length ≤ 8 * bs.length := h.1

theorem bits_take_i (rb g : Nat) (bs : List Nat) (p m x : Nat) (mi : Int) (hmi : mi = (m : Int)) (hm : m ≤ 56) (w : World) (h : IsR w rb g bs p) (hp : p + m ≤ 8 * bs.length) (hx : numAt bs p m = x) :
    Calls Tryd.prog 58 #[.pointer (some ⟨rb, 0, none⟩), .int .i64 mi] w fun e w' => e = .returned (.tuple #[.int .u64 (x : Int), .int .i64 0]) ∧ IsR w' rb g bs (p + m) ∧ Keep (fun k => k = rb) w w' := by
  subst hmi hx; exact bits_take rb g bs p m hm w h hp

set_option maxHeartbeats 2000000 in
theorem readCount_any (rb g : Nat) (bs : List Nat) (p R v : Nat) (w : World) (h : IsR w rb g bs p) (hL : Laid bs p (valBits R v)) (hR1 : 1 ≤ R) (hR : R ≤ 4096) (hv : v ≤ R + 1) :
    Calls Tryd.prog 75 #[.pointer (some ⟨rb, 0, none⟩), .int .i64 (R : Int)] w fun e w' => e = .returned (.tuple #[.int .i16 ((v : Int) - 1), .int .i64 0]) ∧ IsR w' rb g bs (p + (valBits R v).length) ∧ Keep (fun k => k = rb) w w' := by
  have HV := (show Hid (∀ w : World, _) from fun w => valueBits_any R hR w)
  have hm2 := valM_ge R hR1
  have hm13 := valM_le R hR
  have hT := valT_eq R
  have hH := val_half R hR1
  have hcs := valBits_cases R v
  have hp : (2 : Nat) ^ valM R ≤ 2 ^ 13 := Nat.pow_le_pow_right (by omega) hm13
  generalize valBits R v = B at hcs hL ⊢
  generalize valM R = m at *
  generalize valT R = t at *
  obtain ⟨k, hm⟩ : ∃ k, m = k + 1 := ⟨m - 1, by omega⟩
  have hm1 : m - 1 = k := by omega
  rw [hm1] at hH hcs
  have hk : (m : Int) - 1 = (k : Int) := by omega
  have hk12 : (k : Int) ≤ 12 := by omega
  have hpk : (2 : Int) ^ k = ((2 ^ k : Nat) : Int) := by simp
  obtain ⟨P, hP⟩ : ∃ P : Nat, P = 2 ^ k := ⟨_, rfl⟩
  rw [← hP] at hpk hcs hH
  have hPb : P ≤ 4096 := by omega
  have hPI : (P : Int) ≤ 4096 := by omega
  have htP : (t : Int) ≤ (P : Int) := by omega
  have hvv : (v : Int) ≤ 4097 := by omega
  have HK := (show Hid (m = k + 1 ∧ k ≤ 12 ∧ P = 2 ^ k ∧ IsR w rb g bs p ∧ Laid bs p B) from ⟨hm, by omega, hP, h, hL⟩)
  have kq : ∀ q, Keep (fun k => k = rb) w (w.drewN q) := fun q => (keep_drewN w q).mono (fun _ _ h => h.elim)
  rcases hcs with ⟨h1, e1⟩ | ⟨h1, h2, e1⟩ | ⟨h1, h2, e1⟩
  · have g1 : ¬ (t : Int) ≤ (v : Int) := by omega
    subst e1
    have hn : numAt bs p k = v := by rw [hL.num k (Nat.le_refl _), ← hP, Nat.mod_eq_of_lt (by omega)]
    have hle := hL.le
    rw [low_length] at hle ⊢
    have HN := (show Hid (numAt bs p k = v ∧ p + k ≤ 8 * bs.length) from ⟨hn, hle⟩)
    have HQ := (show Hid (∀ q, Keep (fun k => k = rb) w (w.drewN q)) from kq)
    clear hP hm h hT hH hp hm2 hm13 hn hle hL hm1 kq
    go_enter Tryd.func75, Tryd.ntmps75
    go_wp2_with (first | (go_at_call 82; refine (HV.out _).mono ?_; rintro e w' ⟨rfl, q, rfl⟩) | (go_at_call 58; refine (bits_take_i rb g bs p k v _ rfl (by have := HK.out; omega) _ (HK.out.2.2.2.1.drewN _) HN.out.2 HN.out.1).mono ?_; rintro e w' ⟨rfl, hI2, hK2⟩))
    go_ret2
    exact ⟨rfl, hI2, (HQ.out q).trans hK2 (fun _ _ h => h)⟩
  · have g1 : (t : Int) ≤ (v : Int) := by omega
    subst e1
    have hn : numAt bs p k = v := by rw [hL.num k (by omega), ← hP, Nat.mod_eq_of_lt (by omega)]
    have hn2 : numAt bs (p + k) 1 = 0 := by rw [hL.one k (by omega), ← hP, Nat.div_eq_of_lt (by omega)]
    have hle := hL.le
    rw [low_length] at hle ⊢
    have HN := (show Hid (numAt bs p k = v ∧ p + k ≤ 8 * bs.length ∧ numAt bs (p + k) 1 = 0 ∧ p + k + 1 ≤ 8 * bs.length ∧ p + k + 1 = p + m) from ⟨hn, by omega, hn2, by omega, by omega⟩)
    have HQ := (show Hid (∀ q, Keep (fun k => k = rb) w (w.drewN q)) from kq)
    clear hP hm h hT hH hp hm2 hm13 hn hle hL hm1 kq hn2
    go_enter Tryd.func75, Tryd.ntmps75
    go_wp2_with (go_at_call 82; refine (HV.out _).mono ?_; rintro e w' ⟨rfl, q, rfl⟩)
    refine (bits_take_i rb g bs p k v _ rfl (by have := HK.out; omega) _ (HK.out.2.2.2.1.drewN _) HN.out.2.1 HN.out.1).mono ?_
    rintro e w1 ⟨rfl, hI1, hK1⟩
    go_wp2_with fail
    refine (bits_take_i rb g bs (p + k) 1 0 _ rfl (by omega) _ hI1 HN.out.2.2.2.1 HN.out.2.2.1).mono ?_
    rintro e w2 ⟨rfl, hI2, hK2⟩
    go_wp2_with fail
    go_ret2
    rw [HN.out.2.2.2.2] at hI2
    exact ⟨rfl, hI2, ((HQ.out q).trans hK1 (fun _ _ h => h)).trans hK2 (fun _ _ h => h)⟩
  · obtain ⟨u, hu⟩ : ∃ u, v + t = u + P := ⟨v + t - P, by omega⟩
    have g1 : (t : Int) ≤ (u : Int) := by omega
    have g2 : (u : Int) + ((P : Int) - (t : Int)) = (v : Int) := by omega
    have huP : u < P := by omega
    have huI : (u : Int) ≤ 4096 := by omega
    subst e1
    have hn : numAt bs p k = u := by rw [hL.num k (by omega), ← hP, hu, Nat.add_mod_right, Nat.mod_eq_of_lt huP]
    have hn2 : numAt bs (p + k) 1 = 1 := by rw [hL.one k (by omega), ← hP, hu, Nat.add_div_right _ (by omega), Nat.div_eq_of_lt huP]
    have hle := hL.le
    rw [low_length] at hle ⊢
    have HN := (show Hid (numAt bs p k = u ∧ p + k ≤ 8 * bs.length ∧ numAt bs (p + k) 1 = 1 ∧ p + k + 1 ≤ 8 * bs.length ∧ p + k + 1 = p + m) from ⟨hn, by omega, hn2, by omega, by omega⟩)
    have HQ := (show Hid (∀ q, Keep (fun k => k = rb) w (w.drewN q)) from kq)
    clear hP hm h hT hH hp hm2 hm13 hn hle hL hm1 kq hn2 hu huP
    go_enter Tryd.func75, Tryd.ntmps75
    go_wp2_with (go_at_call 82; refine (HV.out _).mono ?_; rintro e w' ⟨rfl, q, rfl⟩)
    refine (bits_take_i rb g bs p k u _ rfl (by have := HK.out; omega) _ (HK.out.2.2.2.1.drewN _) HN.out.2.1 HN.out.1).mono ?_
    rintro e w1 ⟨rfl, hI1, hK1⟩
    go_wp2_with fail
    refine (bits_take_i rb g bs (p + k) 1 1 _ rfl (by omega) _ hI1 HN.out.2.2.2.1 HN.out.2.2.1).mono ?_
    rintro e w2 ⟨rfl, hI2, hK2⟩
    go_wp2_with fail
    go_ret2
    rw [HN.out.2.2.2.2] at hI2
    exact ⟨rfl, hI2, ((HQ.out q).trans hK1 (fun _ _ h => h)).trans hK2 (fun _ _ h => h)⟩

end Go.Proofs.YtcoahkmiebeeeaaDoor

namespace Go.Proofs.YtcoahkmiebeeeaaDoor.Tl
open Go.RowKit Go.Shelf
set_option linter.unusedVariables false

/-- What was put is read as it was put. -/
theorem num_back (A M : List (Fin 2)) (x m : Nat) (L : List (Fin 2)) (h : L = A ++ low x m ++ M) : numAt (pack L) A.length m = x % 2 ^ m := by
  rw [numAt_numF, ← numF_bitOf]
  refine numF_congr _ _ _ (fun i hi => ?_)
  rw [bitAt_pack, h, List.append_assoc, bitL_behind, bitL_app _ _ _ (by rw [low_length]; exact hi), bitL_low x m i hi]

/-- The last byte of bits with the mark behind them: the mark is its highest bit. -/
theorem last_byte (L : List (Fin 2)) : 2 ^ (L.length % 8) ≤ byteOf (L ++ [1]) (L.length / 8) ∧ byteOf (L ++ [1]) (L.length / 8) < 2 ^ (L.length % 8 + 1) := by
  have h2 : byteOf (L ++ [1]) (L.length / 8) = numF (fun i => bitL (L ++ [1]) (8 * (L.length / 8) + i)) (L.length % 8 + 1) :=
    numF_ext _ _ _ (by omega) (fun i h1 h2 => bitL_far _ _ (by simp; omega))
  have hlt := numF_lt (fun i => bitL (L ++ [1]) (8 * (L.length / 8) + i)) (fun _ => bitL_lt _ _) (L.length % 8 + 1)
  rw [← h2] at hlt
  refine ⟨?_, hlt⟩
  rw [h2]
  simp only [numF]
  rw [show 8 * (L.length / 8) + L.length % 8 = L.length from by omega, bitL_new L 1]
  have : ((1 : Fin 2).val) * 2 ^ (L.length % 8) = 2 ^ (L.length % 8) := by simp
  omega
theorem mark_last (L : List (Fin 2)) : (pack (L ++ [1]))[(pack (L ++ [1])).length - 1]?.getD 0 = byteOf (L ++ [1]) (L.length / 8) := by
  have hl : (pack (L ++ [1])).length = L.length / 8 + 1 := by rw [pack_length]; simp; omega
  rw [hl, Nat.add_sub_cancel]
  exact pack_at (L ++ [1]) _ (by simp; omega)
theorem mark_ne (L : List (Fin 2)) : (pack (L ++ [1]))[(pack (L ++ [1])).length - 1]?.getD 0 ≠ 0 := by
  rw [mark_last]
  have := (last_byte L).1
  have := Nat.two_pow_pos (L.length % 8)
  omega
/-- The tail is what was put. -/
theorem tailLen_mark (L : List (Fin 2)) : tailLen (pack (L ++ [1])) = L.length := by
  have hl : (pack (L ++ [1])).length = L.length / 8 + 1 := by rw [pack_length]; simp; omega
  have hb := last_byte L
  have hne := mark_ne L
  unfold tailLen
  rw [mark_last] at hne ⊢
  rw [hl, Nat.add_sub_cancel]
  unfold lenB
  rw [if_neg hne]
  have h1 := (Nat.log2_lt hne (k := L.length % 8 + 1)).2 hb.2
  have h2 := (Nat.le_log2 hne (k := L.length % 8)).2 hb.1
  omega

/-- New over a row of one's own that ends with a mark. -/
theorem new_own (v : Value) (bs : List Nat) (hlen : bs.length ≤ 140737488355326) (hbs : ∀ j : Nat, bs[j]?.getD 0 < 256) (h0 : bs[bs.length - 1]?.getD 0 ≠ 0) (w : World) (hown : w.ownsRow 0 5 1 v bs.length (u8s bs)) :
    Calls Tryd.prog 39 #[v] w fun e w' => ∃ rb g, e = .returned (.tuple #[.pointer (some ⟨rb, 0, none⟩), .int .i64 0]) ∧ w.heap.size ≤ rb ∧ w.heap.size ≤ g ∧ IsR w' rb g bs (tailLen bs) 0 ∧ Keep noBlock w w' := by
  have hpos : 0 < bs.length := by
    cases bs with
    | nil => simp at h0
    | cons x l => simp
  rcases hown.2 with ⟨rfl, e0⟩ | ⟨gb, cap, cur, rfl, _⟩
  · omega
  · obtain ⟨k, hk⟩ : ∃ k, bs.length = k + 1 := ⟨bs.length - 1, by omega⟩
    rw [hk]
    rw [show bs.length - 1 = k from by omega] at h0
    refine new_mark gb 0 cap k _ bs hk (by omega) hbs w rfl h0 (fun j hj => ?_)
    have := hown.cells (g := gb) rfl j _ (u8s_at bs j hj)
    rw [add0] at this
    rwa [Nat.zero_add]

/-- New of what Close gave: the reader stands behind all bits that were put. -/
theorem new_closed (v : Value) (L : List (Fin 2)) (hL : L.length < 1000000000000) (w : World) (hown : w.ownsRow 0 5 1 v (pack (L ++ [1])).length (u8s (pack (L ++ [1])))) :
    Calls Tryd.prog 39 #[v] w fun e w' => ∃ rb g, e = .returned (.tuple #[.pointer (some ⟨rb, 0, none⟩), .int .i64 0]) ∧ w.heap.size ≤ rb ∧ w.heap.size ≤ g ∧ IsR w' rb g (pack (L ++ [1])) L.length 0 ∧ Keep noBlock w w' := by
  have hpl : (pack (L ++ [1])).length ≤ 140737488355326 := by rw [pack_length]; simp; omega
  have := new_own v _ hpl (pack_lt _) (mark_ne L) w hown
  rw [tailLen_mark] at this
  exact this
/-- Bits(m) of a reader that has so many. -/
theorem bits_there (rb g : Nat) (bs : List Nat) (p m u x : Nat) (hm : m ≤ 56) (hu : u = p + m) (hx : numAt bs p m = x) (w : World) (h : IsR w rb g bs u 0) :
    Calls Tryd.prog 55 #[.pointer (some ⟨rb, 0, none⟩), .int .i64 (m : Int)] w fun e w' => e = .returned (.int .u64 (x : Int)) ∧ IsR w' rb g bs p 0 ∧ Keep (fun k => k = rb) w w' := by
  have := bits_read rb g bs p m 0 u m 0 0 (m : Int) w h hu (by omega) (.inl rfl) (by omega) (by omega)
  rw [Nat.pow_zero, Nat.mul_one, hx] at this
  exact this

end Go.Proofs.YtcoahkmiebeeeaaDoor.Tl

namespace Go.Proofs.YtcoahkmiebeeeaaDoor
open Go.RowKit Go.Shelf

/-- Bytes as a string. -/
def strOf (bs : List Nat) : ByteArray := (bs.map (fun b => ((b : Nat) : Int))).foldl (fun r n => r.push (UInt8.ofNat n.toNat)) ByteArray.empty
theorem run_conv {w : World} {v : Value} {bs : List Nat} (h : Src w v bs) : (convert 22 9 v).run Tryd.prog w = .ok (.string (strOf bs)) w := by
  rcases h with ⟨rfl, rfl⟩ | ⟨a, cap, rfl, _, hc⟩
  · rw [run_convert_bytes_string w 22 9 5 none 0 0 Tryd.underlying22 Tryd.underlying5 Tryd.underlying9]
    rfl
  · rw [run_convert_bytes_string w 22 9 5 (some a) bs.length cap Tryd.underlying22 Tryd.underlying5 Tryd.underlying9]
    refine run_bytesToString w a bs.length cap (bs.map (fun b => ((b : Nat) : Int))) ?_
    have := run_loadCells_list (P := Tryd.prog) w a (u8s bs) hc
    rw [u8s_length] at this
    rw [this]
    simp [u8s]

end Go.Proofs.YtcoahkmiebeeeaaDoor

namespace Go.Proofs.YtcoahkmiebeeeaaDoor
open Go.RowKit Go.Shelf
set_option linter.unusedVariables false

theorem size5 : (Tryd.prog.info? 5).map (·.size) = some 1 := by kernel_rfl
theorem lt_drop {bs : List Nat} (h : ∀ j : Nat, bs[j]?.getD 0 < 256) (k : Nat) : ∀ j : Nat, (bs.drop k)[j]?.getD 0 < 256 := fun j => by
  rw [List.getElem?_drop]; exact h _
theorem lt_take {bs : List Nat} (h : ∀ j : Nat, bs[j]?.getD 0 < 256) (k : Nat) : ∀ j : Nat, (bs.take k)[j]?.getD 0 < 256 := fun j => by
  rw [List.getElem?_take]; split
  · exact h _
  · simp
theorem lt256 {bs : List Nat} (h : ∀ b ∈ bs, b < 256) : ∀ j : Nat, bs[j]?.getD 0 < 256 := fun j => by
  by_cases hj : j < bs.length
  · rw [List.getElem?_eq_getElem hj]; exact h _ (List.getElem_mem _)
  · rw [List.getElem?_eq_none (by omega)]; simp
theorem lt_mem {bs : List Nat} (h : ∀ j : Nat, bs[j]?.getD 0 < 256) : ∀ b ∈ bs, b < 256 := fun b hb => by
  obtain ⟨j, hj, rfl⟩ := List.mem_iff_getElem.1 hb
  have := h j
  rwa [List.getElem?_eq_getElem hj] at this
theorem lt_app {a b : List Nat} (h1 : ∀ j : Nat, a[j]?.getD 0 < 256) (h2 : ∀ j : Nat, b[j]?.getD 0 < 256) : ∀ j : Nat, (a ++ b)[j]?.getD 0 < 256 :=
  lt256 (fun x hx => (List.mem_append.1 hx).elim (lt_mem h1 x) (lt_mem h2 x))
theorem u8s_app (a b : List Nat) : u8s (a ++ b) = u8s a ++ u8s b := by simp [u8s]
theorem u8s_take (a : List Nat) (k : Nat) : (u8s a).take k = u8s (a.take k) := by simp [u8s, List.map_take]
theorem u8s_drop (a : List Nat) (k : Nat) : (u8s a).drop k = u8s (a.drop k) := by simp [u8s, List.map_drop]
theorem u8s_inj {a b : List Nat} (h : u8s a = u8s b) : a = b := by
  unfold u8s at h
  refine List.map_inj_right ?_ |>.1 h
  intro x y e
  simp only [Value.int.injEq, true_and] at e
  omega
theorem keep_setRow {S : Nat → Prop} {a w : World} (h : Keep S a w) (g : Nat) (hg : g < a.heap.size → S g) (cs : Array Value) : Keep S a (w.setRow g cs) :=
  h.trans (T := fun k => k = g) ⟨rfl, rfl, rfl, by simp [World.setRow], fun k _ hk => setRow_other w g k cs hk⟩ (fun i hi e => by subst e; exact hg hi)

/-- The slice reads as the bytes bs. -/
structure Bytes (w : World) (a : Option Addr) (cap gb off : Nat) (bs : List Nat) : Prop where
  at_ : a = some ⟨gb, off, none⟩ ∨ bs = []
  nil : a = none → cap = 0
  cells : ∀ j, j < bs.length → w.cell? ⟨gb, off + j, none⟩ = some (.int .u8 ((bs[j]?.getD 0 : Nat) : Int))
  lt : ∀ j : Nat, bs[j]?.getD 0 < 256
  cap : bs.length ≤ cap
  len : bs.length < 2 ^ 48
theorem Bytes.block {w : World} {a : Option Addr} {cap gb off : Nat} {bs : List Nat} (h : Bytes w a cap gb off bs) (hb : bs ≠ []) : gb < w.heap.size :=
  World.block_lt_of_cell? w ⟨gb, off + 0, none⟩ (h.cells 0 (List.length_pos_iff.2 hb))
theorem Bytes.keep {w w' : World} {S : Nat → Prop} {a : Option Addr} {cap gb off : Nat} {bs : List Nat} (h : Bytes w a cap gb off bs) (hk : Keep S w w') (hS : bs ≠ [] → ¬ S gb) : Bytes w' a cap gb off bs :=
  ⟨h.at_, h.nil, fun j hj => by
    have hne : bs ≠ [] := by rintro rfl; simp at hj
    exact (World.cell?_of_block (hk.block gb (h.block hne) (hS hne))).trans (h.cells j hj), h.lt, h.cap, h.len⟩
/-- What append and copy read. -/
def SrcB (w : World) (v : Value) (bs : List Nat) : Prop := (v = .slice none 0 0 ∧ bs = []) ∨ ∃ a cap, v = .slice (some a) bs.length cap ∧ ∀ j u, (u8s bs)[j]? = some u → w.cell? (a.add j) = some u
theorem Bytes.src {w : World} {a : Option Addr} {cap gb off : Nat} {bs : List Nat} (h : Bytes w a cap gb off bs) : SrcB w (.slice a bs.length cap) bs := by
  cases a with
  | none =>
    have h1 := h.nil rfl
    have h2 := h.cap
    have : bs = [] := List.length_eq_zero_iff.1 (by omega)
    subst this
    exact .inl ⟨by rw [h1]; rfl, rfl⟩
  | some ad =>
    refine .inr ⟨ad, cap, rfl, fun j u hu => ?_⟩
    have hj : j < bs.length := by rw [← u8s_length]; exact (List.getElem?_eq_some_iff.1 hu).1
    rcases h.at_ with e | e
    · cases e
      rw [addO, h.cells j hj, ← u8s_at bs j hj, hu]
    · subst e; simp at hj


theorem run_low5 (a : Option Addr) (len cap k : Nat) (h1 : k ≤ len) (w : World) :
    (sliceSem 22 (.slice a len cap) (some (.int .i64 (k : Int))) none none).run Tryd.prog w = .ok (.slice (if cap = k then a else a.map (fun x => x.add k)) (len - k) (cap - k)) w := by
  obtain ⟨i0, hi, hz0, hz1, hz2⟩ := info_parts info5
  simp [sliceSem, Instr.slice, run_underlying Tryd.underlying22, Instr.sliceBounds, Instr.sliceBound, asIntOf, h1, sizeOf, typeInfo, hi, hz1]
theorem run_high5 (a : Option Addr) (len cap k : Nat) (h1 : k ≤ cap) (w : World) :
    (sliceSem 22 (.slice a len cap) none (some (.int .i64 (k : Int))) none).run Tryd.prog w = .ok (.slice a k cap) w := by
  obtain ⟨i0, hi, hz0, hz1, hz2⟩ := info_parts info5
  have e : (if cap = 0 then a else a.map (fun x => x.add 0)) = a := by
    split
    · rfl
    · cases a <;> simp [Addr.add]
  simp [sliceSem, Instr.slice, run_underlying Tryd.underlying22, Instr.sliceBounds, Instr.sliceBound, asIntOf, h1, sizeOf, typeInfo, hi, e]

theorem Bytes.drop {w : World} {a : Option Addr} {cap gb off : Nat} {bs : List Nat} (h : Bytes w a cap gb off bs) (k : Nat) (hk : k ≤ bs.length) :
    ∃ a' off', (∀ W, (sliceSem 22 (.slice a bs.length cap) (some (.int .i64 (k : Int))) none none).run Tryd.prog W = .ok (.slice a' (bs.drop k).length (cap - k)) W) ∧ Bytes w a' (cap - k) gb off' (bs.drop k) ∧ (bs.drop k ≠ [] → off' = off + k) := by
  have hc := h.cap
  have hl := h.len
  refine ⟨if cap = k then a else a.map (fun x => x.add k), if cap = k then off else off + k, fun W => by rw [run_low5 a bs.length cap k hk W, List.length_drop], ⟨?_, ?_, ?_, lt_drop h.lt k, by rw [List.length_drop]; omega, by rw [List.length_drop]; omega⟩, ?_⟩
  · rcases h.at_ with e | e
    · left
      subst e
      split
      · rfl
      · simp [addO]
    · right; rw [e]; simp
  · intro e
    split at e
    · have := h.nil e; omega
    · rw [Option.map_eq_none_iff] at e
      have := h.nil e; omega
  · intro j hj
    rw [List.length_drop] at hj
    have := h.cells (k + j) (by omega)
    rw [List.getElem?_drop, if_neg (by omega), Nat.add_assoc]
    exact this
  · intro hne
    have : 0 < (bs.drop k).length := List.length_pos_iff.2 hne
    rw [List.length_drop] at this
    rw [if_neg (by omega)]
theorem Bytes.take {w : World} {a : Option Addr} {cap gb off : Nat} {bs : List Nat} (h : Bytes w a cap gb off bs) (k : Nat) (hk : k ≤ bs.length) :
    (∀ W, (sliceSem 22 (.slice a bs.length cap) none (some (.int .i64 (k : Int))) none).run Tryd.prog W = .ok (.slice a (bs.take k).length cap) W) ∧ Bytes w a cap gb off (bs.take k) := by
  have hc := h.cap
  have hl := h.len
  have e : (bs.take k).length = k := by rw [List.length_take]; omega
  refine ⟨fun W => by rw [run_high5 a bs.length cap k (by omega) W, e], ⟨?_, h.nil, ?_, lt_take h.lt k, by omega, by omega⟩⟩
  · rcases h.at_ with e | e
    · exact .inl e
    · right; rw [e]; simp
  · intro j hj
    rw [e] at hj
    rw [List.getElem?_take, if_pos hj]
    exact h.cells j (by omega)

/-- copy into a row, from o on. -/
theorem run_copy_any (w : World) (ty : TypeId) (g o dl dc : Nat) (da : Option Addr) (v : Value) (bs : List Nat) (cur : Array Value) (t : Nat) (hv : SrcB w v bs) (ht : t = min bs.length dl)
    (hda : da = some ⟨g, o, none⟩ ∨ t = 0) (hg : w.heap[g]? = some (.cells cur 5 (0, 0))) (hfit : o + t ≤ cur.size) :
    (Builtin.copy_ #[22, 22] ty #[.slice da dl dc, v]).run Tryd.prog w = .ok (.int .i64 (t : Int)) (w.setRow g (cur.toList.take o ++ u8s (bs.take t) ++ cur.toList.drop (o + t)).toArray) := by
  by_cases h0 : t = 0
  · subst h0
    have e : (cur.toList.take o ++ u8s (bs.take 0) ++ cur.toList.drop (o + 0)).toArray = cur := by simp [u8s]
    rw [e, setRow_self w g cur 5 (0, 0) hg]
    have hmin : Nat.min bs.length dl = 0 := ht.symm
    rcases hv with ⟨rfl, rfl⟩ | ⟨a, cap, rfl, hc⟩
    · exact run_copy_none (P := Tryd.prog) w 22 22 ty 5 da none dl dc 0 0 Tryd.underlying22 size5 (by simp)
    · exact run_copy_none (P := Tryd.prog) w 22 22 ty 5 da (some a) dl dc bs.length cap Tryd.underlying22 size5 hmin
  · rcases hda with rfl | e
    · rcases hv with ⟨rfl, rfl⟩ | ⟨a, cap, rfl, hc⟩
      · simp at ht; omega
      · have hl : (bs.take t).length = t := by rw [List.length_take]; omega
        have := run_copy_row Tryd.prog w 22 22 ty 5 g o dl dc a bs.length cap cur 5 (u8s (bs.take t)) Tryd.underlying22 size5 hg (by rw [u8s_length, hl]; exact ht)
          (fun j u hu => hc j u (by
            rw [← u8s_take] at hu
            rw [List.getElem?_take] at hu
            split at hu
            · exact hu
            · cases hu)) (by rw [u8s_length, hl]; exact hfit) (u8s_one _)
        rw [u8s_length, hl] at this
        exact this
    · exact absurd e h0

/-- append onto a row of one's own, from whatever slice of bytes. -/
theorem run_append_all (w : World) (ty : TypeId) (v : Value) (M bs : List Nat) (hown : w.ownsRow 0 5 1 v M.length (u8s M)) (hlen : M.length + bs.length ≤ 1099511627776) (sv : Value) (h : SrcB w sv bs) :
    ∃ v' w', (Builtin.append_ #[22, 22] ty #[v, sv]).run Tryd.prog w = .ok v' w' ∧ w'.ownsRow 0 5 1 v' (M ++ bs).length (u8s (M ++ bs)) ∧ Keep (fun k => v.ownBlock = some k) w w' ∧ (v'.ownBlock = v.ownBlock ∨ ∃ k, v'.ownBlock = some k ∧ w.heap.size ≤ k) := by
  obtain ⟨i0, hi, hz0, hz1, hz2⟩ := info_parts info5
  have happ : u8s (M ++ bs) = u8s M ++ u8s bs := by simp [u8s]
  rcases h with ⟨rfl, rfl⟩ | ⟨a, c, rfl, hc⟩
  · refine ⟨v, w, ?_, by simpa using hown, Keep.refl _ _, .inl rfl⟩
    rcases hown.2 with ⟨rfl, h0⟩ | ⟨g, cap, cur, rfl, _, hg, hr1, hr2, _⟩
    · simp [Builtin.append_, run_underlying Tryd.underlying22, sizeOf, typeInfo, hi, Builtin.lenOf, go_sem]
    · have hcap : M.length ≤ cap := by omega
      simp [Builtin.append_, run_underlying Tryd.underlying22, sizeOf, typeInfo, hi, Builtin.lenOf, go_sem, hcap]
  · obtain ⟨v', w', hr, h2, h3, h4, h5⟩ := run_append_own_at (P := Tryd.prog) w 0 22 ty 5 i0 (.int .u8 0) 1 1 Tryd.underlying22 hi hz0 hz1 hz2 rfl (by decide) v M.length (u8s M) hown a bs.length c (u8s bs) (by simp [u8s_length]) hc (u8s_one bs) (by unfold maxLen; omega) (by omega) (Nat.zero_le _)
    refine ⟨v', w', hr, by rw [List.length_append, happ]; exact h2, (Keep.refl _ w).grown h3 (fun k e _ => e), ?_⟩
    rcases h5 with e | e
    · exact .inl e
    · exact .inr ⟨_, e, Nat.le_refl _⟩

theorem owns_kept {w w' : World} {S : Nat → Prop} {base : Nat} {v : Value} {n : Nat} {xs : List Value} (h : w.ownsRow base 5 1 v n xs) (hk : Keep S w w') (hS : ∀ g, v.ownBlock = some g → ¬ S g) : w'.ownsRow base 5 1 v n xs := by
  refine ⟨h.1, ?_⟩
  rcases h.2 with ⟨e, h0⟩ | ⟨g, cap, cur, rfl, hb, hg, hr⟩
  · exact .inl ⟨e, h0⟩
  · exact .inr ⟨g, cap, cur, rfl, hb, hk.obj hg (hS g rfl), hr⟩
/-- A row of one's own, as a slice of bytes. -/
theorem bytes_own {w : World} {v : Value} {M : List Nat} (h : w.ownsRow 0 5 1 v M.length (u8s M)) (hlt : ∀ j : Nat, M[j]?.getD 0 < 256) (hl : M.length < 2 ^ 48) : ∃ a cap g, v = .slice a M.length cap ∧ Bytes w a cap g 0 M ∧ (a = none ∧ M = [] ∨ a = some ⟨g, 0, none⟩ ∧ ∃ cur, w.heap[g]? = some (.cells cur 5 (0, 0)) ∧ cur.size = cap ∧ cur.toList.take M.length = u8s M ∧ cap ≤ maxLen) := by
  rcases h.2 with ⟨e, h0⟩ | ⟨g, cap, cur, e, hb, hg, h1, h2, h3, h4⟩
  · have : M = [] := List.length_eq_zero_iff.1 h0
    subst this
    exact ⟨none, 0, 0, e, ⟨.inr rfl, fun _ => rfl, fun j hj => by simp at hj, hlt, Nat.le_refl _, hl⟩, .inl ⟨rfl, rfl⟩⟩
  · subst e
    rw [Nat.mul_one] at h3 h4
    refine ⟨some ⟨g, 0, none⟩, cap, g, rfl, ⟨.inl rfl, (fun e => by cases e), fun j hj => ?_, hlt, h1, hl⟩, .inr ⟨rfl, cur, hg, h3, h4, h2⟩⟩
    have := h.cells (g := g) rfl j _ (u8s_at M j hj)
    rw [add0] at this
    rw [Nat.zero_add]; exact this
theorem owns_mk {w : World} {g cap : Nat} {cur : Array Value} {M : List Nat} (hg : w.heap[g]? = some (.cells cur 5 (0, 0))) (h1 : M.length ≤ cap) (h2 : cap ≤ maxLen) (h3 : cur.size = cap) (h4 : cur.toList.take M.length = u8s M) : w.ownsRow 0 5 1 (.slice (some ⟨g, 0, none⟩) M.length cap) M.length (u8s M) :=
  ⟨by rw [u8s_length, Nat.mul_one], .inr ⟨g, cap, cur, rfl, Nat.zero_le _, hg, h1, h2, by rw [h3, Nat.mul_one], by rw [Nat.mul_one]; exact h4⟩⟩

theorem made_u8 (n : Nat) : madeCells #[.int .u8 0] n = (u8s (List.replicate n 0)).toArray := by
  refine Array.ext (by simp [size_madeCells, u8s]) fun i h1 h2 => ?_
  simp [madeCells, u8s, Nat.mod_one]
/-- make of l bytes, room for c. -/
theorem run_make_u8 (l c : Nat) (hlc : l ≤ c) (hc : c ≤ 281474976710656) (w : World) :
    (Instr.makeSlice 22 (.int .i64 (l : Int)) (.int .i64 (c : Int))).run Tryd.prog w = .ok (.slice (some ⟨w.heap.size, 0, none⟩) l c) (w.alloc (.cells (u8s (List.replicate c 0)).toArray 5)) := by
  obtain ⟨i0, hi, hz0, hz1, hz2⟩ := info_parts info5
  have hr := run_make (P := Tryd.prog) w 22 5 i0 (.int .u8 0) Tryd.underlying22 hi hz0 .i64 .i64 (l : Int) (c : Int) (by omega) (by omega) (by rw [hz2]; omega) (by omega)
  simp only [Int.toNat_natCast, hz1, Nat.mul_one] at hr
  rw [show (Value.int .u8 0).cells = #[.int .u8 0] from rfl, made_u8] at hr
  exact hr

theorem SrcB.keep {w w' : World} {v : Value} {bs : List Nat} (h : SrcB w v bs) (hk : Keep noBlock w w') : SrcB w' v bs := by
  rcases h with h | ⟨a, cap, e, hc⟩
  · exact .inl h
  · exact .inr ⟨a, cap, e, fun j u hu => (World.cell?_of_block (hk.block _ (World.block_lt_of_cell? _ _ (hc j u hu)) (fun h => h))).trans (hc j u hu)⟩
theorem run_convB {w : World} {v : Value} {bs : List Nat} (h : SrcB w v bs) : (convert 22 9 v).run Tryd.prog w = .ok (.string (strOf bs)) w := by
  rcases h with ⟨rfl, rfl⟩ | ⟨a, cap, rfl, hc⟩
  · rw [run_convert_bytes_string w 22 9 5 none 0 0 Tryd.underlying22 Tryd.underlying5 Tryd.underlying9]
    rfl
  · rw [run_convert_bytes_string w 22 9 5 (some a) bs.length cap Tryd.underlying22 Tryd.underlying5 Tryd.underlying9]
    refine run_bytesToString w a bs.length cap (bs.map (fun b => ((b : Nat) : Int))) ?_
    have := run_loadCells_list (P := Tryd.prog) w a (u8s bs) hc
    rw [u8s_length] at this
    rw [this]
    simp [u8s]
/-- Bytes that were laid. -/
theorem bytes_new (w : World) (bs : List Nat) (vs : Array Value) (mk : Nat × Nat) (n : Nat) (hn : n = bs.length) (hv : vs = (u8s bs).toArray) (hl : ∀ j : Nat, bs[j]?.getD 0 < 256) (h48 : bs.length < 2 ^ 48) : Bytes (w.alloc (.cells vs 5 mk)) (some ⟨w.heap.size, 0, none⟩) n w.heap.size 0 bs := by
  subst hn; subst hv
  refine ⟨.inl rfl, (fun e => by cases e), fun j hj => ?_, hl, Nat.le_refl _, h48⟩
  have := World.alloc_heap_new w (.cells (u8s bs).toArray 5 mk)
  rw [Nat.zero_add]
  simp only [World.cell?, this]
  simpa using u8s_at bs j hj
/-- A row of one's own, as a slice of bytes. -/
theorem owns_bytes {w : World} {v : Value} {M : List Nat} (h : w.ownsRow 0 5 1 v M.length (u8s M)) (hM : ∀ j : Nat, M[j]?.getD 0 < 256) (hl : M.length < 2 ^ 48) : ∃ a cap g, v = .slice a M.length cap ∧ Bytes w a cap g 0 M ∧ ∀ k, v.ownBlock = some k → k = g := by
  obtain ⟨a, cap, g, e, hB, hc⟩ := bytes_own h hM hl
  refine ⟨a, cap, g, e, hB, fun k hk => ?_⟩
  subst e
  rcases hc with ⟨rfl, _⟩ | ⟨rfl, _⟩
  · cases hk
  · simpa [Value.ownBlock] using hk.symm

end Go.Proofs.YtcoahkmiebeeeaaDoor

namespace Go.Proofs.YtcoahkmiebeeeaaDoor
open Go.ChangeShapes Go.WideShapes Go.ChangeAt Go.RowKit
set_option linter.unusedVariables false

theorem own : ownKnob Tryd.prog.godebug = none := by kernel_rfl
theorem laidOut : laidOutB Tryd.prog = true := by kernel_rfl
theorem bytes5 : Tryd.prog.bytesOf 5 = 1 := by kernel_rfl
theorem getD_el (zs : List Int) (j : Nat) (h : j < zs.length) : zs.getD j 0 = zs[j] := by simp [List.getD, h]

/-- A slice of integers that came in, made of a row of cap cells. -/
theorem rowI_of {k : IntKind} {W : World} {x : Addr} {l cp : Nat} {zs : List Int} (hl : l ≤ cp) (hz : zs.length = cp) (hcell : ∀ i, i < cp → W.cell? (x.add i) = some (.int k (zs.getD i 0))) :
    ∃ (gb off : Nat), RowI W k (some x) cp gb off (zs.take l) ∧ (zs.take l).length = l := by
  have hbl : (zs.take l).length = l := by rw [List.length_take]; omega
  by_cases h0 : l = 0
  · subst h0
    exact ⟨0, 0, ⟨.inr (by simp), (fun e => by cases e), (fun j hj => by simp at hj), by rw [hbl]; omega⟩, hbl⟩
  · obtain ⟨b, off, spot⟩ := x
    have hc0 := hcell 0 (by omega)
    have hspot : spot = none := by simpa [Addr.add] using World.cell?_spot hc0
    subst hspot
    refine ⟨b, off, ⟨.inl rfl, (fun e => by cases e), fun j hj => ?_, by omega⟩, hbl⟩
    rw [hbl] at hj
    have h1 := hcell j (by omega)
    rw [addO] at h1
    rw [h1, List.getElem?_take, if_pos hj]
    simp [List.getD]

theorem row22_open {H : Type} {enc : TypeId × Value → H} {W : World} {a : Option Addr} {len cap fuel : Nat} {x : DataW H × List MemPlace} (h : DataW.trod enc Tryd.prog W 0 (fun _ => true) true fuel 22 [.slice a len cap] = some x) (hw : ∀ n ∈ x.1.weights Tryd.prog 22, n ≤ reachBytes) :
    ∃ (b off : Nat) (xs : List Int), xs.length = len ∧ RowI W .u8 a cap b off xs ∧ (∀ i : Nat, 0 ≤ xs[i]?.getD 0 ∧ xs[i]?.getD 0 ≤ 255) ∧ len * Tryd.prog.bytesOf 5 ≤ reachBytes := by
  rcases open_ints Tryd.underlying22 Tryd.underlying5 (by kernel_rfl) h with ⟨hcs, _⟩ | ⟨y, l, cp, zs, hcs, _, hl, hm, hz, hx, hcell, hwz⟩
  · simp at hcs
    obtain ⟨rfl, rfl, rfl⟩ := hcs
    exact ⟨0, 0, [], rfl, ⟨.inr rfl, (fun _ => rfl), (fun j hj => by simp at hj), Nat.le_refl _⟩, (fun i => by simp), by simp⟩
  · simp at hcs
    obtain ⟨rfl, rfl, rfl⟩ := hcs
    have hz' : zs.length = cap := by simpa using hz
    obtain ⟨b, off, hR, hlen⟩ := rowI_of (k := .u8) hl hz' (fun i hi => hcell i (by omega))
    refine ⟨b, off, zs.take len, hlen, hR, fun i => ?_, ?_⟩
    · by_cases hi : i < len
      · have hb := bounds_u8 (hwz (zs.getD i 0) (by rw [getD_el zs i (by omega)]; exact List.getElem_mem _))
        rw [List.getElem?_take, if_pos hi, List.getElem?_eq_getElem (by omega), Option.getD_some]
        rw [getD_el zs i (by omega)] at hb
        omega
      · rw [List.getElem?_eq_none (by omega)]; simp
    · have hx1 : x.1 = .slice (lits .u8 (zs.take len)) (lits .u8 (zs.drop len)) := by rw [hx]
      have h1 := hw (((lits (H := H) .u8 (zs.take len)).length + (lits (H := H) .u8 (zs.drop len)).length) * Tryd.prog.bytesOf 5) (by
        rw [hx1]
        simp only [DataW.weights, Tryd.underlying22]
        exact List.mem_cons_self)
      simp only [lits, List.length_map, List.length_take, List.length_drop] at h1
      refine Nat.le_trans (Nat.mul_le_mul_right _ ?_) h1
      omega

/-- A slice of bytes that came in. -/
theorem bytes_open {H : Type} {enc : TypeId × Value → H} {W : World} {a : Option Addr} {len cap fuel : Nat} {x : DataW H × List MemPlace} (h : DataW.trod enc Tryd.prog W 0 (fun _ => true) true fuel 22 [.slice a len cap] = some x) (hw : ∀ n ∈ x.1.weights Tryd.prog 22, n ≤ reachBytes) :
    ∃ (b off : Nat) (bs : List Nat), bs.length = len ∧ Bytes W a cap b off bs ∧ len ≤ 140737488351232 := by
  obtain ⟨b, off, xs, hl, hR, hb, hr⟩ := row22_open h hw
  have hlen : len ≤ 140737488351232 := by rw [bytes5, Nat.mul_one] at hr; exact hr
  refine ⟨b, off, xs.map Int.toNat, by simpa using hl, ⟨?_, hR.nil, fun j hj => ?_, fun j => ?_, ?_, ?_⟩, hlen⟩
  · rcases hR.at_ with e | e
    · exact .inl e
    · exact .inr (by rw [e]; rfl)
  · rw [List.length_map] at hj
    rw [hR.cells j hj]
    have := hb j
    rw [List.getElem?_eq_getElem hj] at this ⊢
    rw [List.getElem?_map, List.getElem?_eq_getElem hj]
    simp only [Option.getD_some, Option.map_some] at this ⊢
    rw [Int.toNat_of_nonneg this.1]
  · have := hb j
    rw [List.getElem?_map]
    cases hx : xs[j]? with
    | none => simp
    | some y => rw [hx] at this; simp only [Option.getD_some, Option.map_some] at this ⊢; omega
  · rw [List.length_map, hl]; have := hR.le; omega
  · rw [List.length_map, hl]; omega

end Go.Proofs.YtcoahkmiebeeeaaDoor

namespace Go.Proofs.YtcoahkmiebeeeaaDoor
open Go.RowKit Go.Shelf
set_option linter.unusedVariables false

/-- Whatever is cells, or lies below B, lies as it lay. -/
structure KeepN (B : Nat) (X Y : World) : Prop where
  os : Y.os = X.os
  tape : Y.tape = X.tape
  output : Y.output = X.output
  size : X.heap.size ≤ Y.heap.size
  block : ∀ k o, X.heap[k]? = some o → (k < B ∨ o.isCells = true) → Y.heap[k]? = some o
theorem KeepN.obj {B : Nat} {X Y : World} (h : KeepN B X Y) {b : Nat} {cs : Array Value} {t : TypeId} {fz : Nat × Nat} (hb : X.heap[b]? = some (.cells cs t fz)) : Y.heap[b]? = some (.cells cs t fz) := h.block b _ hb (.inr rfl)
theorem KeepN.refl (B : Nat) (X : World) : KeepN B X X := ⟨rfl, rfl, rfl, Nat.le_refl _, fun _ _ h _ => h⟩
theorem KeepN.trans {B : Nat} {X Y Z : World} (h : KeepN B X Y) (k : KeepN B Y Z) : KeepN B X Z :=
  ⟨k.os.trans h.os, k.tape.trans h.tape, k.output.trans h.output, Nat.le_trans h.size k.size, fun i o hi ho => k.block i o (h.block i o hi ho) ho⟩
theorem Keep.toN {X Y : World} (h : Keep noBlock X Y) (B : Nat) : KeepN B X Y := ⟨h.os, h.tape, h.output, h.size, fun k o hk _ => h.obj hk (fun h => h)⟩
theorem Keep.transN {w X Y : World} {S : Nat → Prop} {B : Nat} (h : Keep S w X) (k : KeepN B X Y) (hB : w.heap.size ≤ B) : Keep S w Y :=
  ⟨k.os.trans h.os, k.tape.trans h.tape, k.output.trans h.output, Nat.le_trans h.size k.size, fun i hi hs => by
    have e := h.block i hi hs
    rw [Array.getElem?_eq_getElem hi] at e ⊢
    exact k.block i _ e (.inl (by omega))⟩
theorem keepN_putObj {B l : Nat} {X : World} {o : Obj} (o' : Obj) (hB : B ≤ l) (hl : X.heap[l]? = some o) (hc : o.isCells = false) : KeepN B X (X.putObj l o') := by
  have hg := grownBy_putObj' X l o'
  refine ⟨hg.os, hg.tape, hg.output, hg.size, fun k o2 hk ho => (hg.block k (obj_lt hk) (fun e => ?_)).trans hk⟩
  cases e
  rw [hl] at hk; cases hk
  rcases ho with h | h
  · omega
  · rw [hc] at h; cases h

theorem range_iter {ι : Type} {n gf : Nat} {lb : Array Value} {g : Operand} {ps : Array Tmp} {assign body : Code} {Q : Exit → Act → World → Prop} {a : Act} {w : World} (hn : 3 ≤ n)
    (hg : a.eval g = .func (.func gf) #[] lb) (eg : ∀ args w, (callFunc gf args).run Tryd.prog w = .ok (.enter gf args) w)
    (R : ι → Array Value → ι → World → Prop) (E : ι → Prop) (i0 : ι) (I : ι → World → Prop)
    (hit : ∀ (l : Nat) (J : ι → World → Prop) (Jx : World → Prop) (W : World), KeepN w.heap.size w W → (∀ i V, J i V → I i V) → (∀ i X Y, J i X → Keep noBlock X Y → J i Y) →
      (∀ i vs i' V, R i vs i' V → J i V → YieldAt Fence.wide (n - 1 - 1) Tryd.prog l vs V fun e V' => (e = .returned (.bool true) ∧ J i' V') ∨ (e = .returned (.bool false) ∧ Jx V')) → J i0 W →
      CallsIn Fence.wide (n - 1) Tryd.prog gf (#[.func (.yield l) #[] #[]] ++ lb) W fun e W' => (∃ v, e = .returned v) ∧ ((∃ i, E i ∧ J i W') ∨ Jx W'))
    (hps : ∀ i vs i' V, R i vs i' V → vs.size = ps.size)
    (X : Code → World → Prop) (A : ι → Array Value → ι → Act → World → Prop)
    (hI : ∀ i U V, I i U → KeepN w.heap.size U V → I i V) (hX : ∀ c U V, X c U → KeepN w.heap.size U V → X c V) (hA : ∀ i vs i' a' U V, A i vs i' a' U → KeepN w.heap.size U V → A i vs i' a' V) (h0 : I i0 w)
    (hassign : ∀ i vs i' V (K : Act → World → Prop), R i vs i' V → I i V → (∀ a' V', KeepsFrom w.heap.size V V' → I i V' → A i vs i' a' V' → K a' V') →
      assign.wpIn (Fence.wide.inRound (w.heap.size + 1)) (n - 1 - 1) Tryd.prog (Exit.then K (fun _ _ _ => False)) { tmps := (ps.zip vs).foldl (fun t (p, v) => t.setIfInBounds p v) a.tmps, defers := [] } V)
    (hbody : ∀ i vs i' a' V, I i V → A i vs i' a' V → body.wpIn (Fence.wide.inRound (w.heap.size + 1)) (n - 1 - 1) Tryd.prog (goesOn w.heap.size (I i') X V) a' V)
    (hdone : ∀ i V, E i → I i V → V.heap[w.heap.size]? = some (.deferred (some [])) → Q .normal { a with defers := { target := .collected w.heap.size, args := #[] } :: a.defers } V)
    (hstop : ∀ j V, X j V → V.heap[w.heap.size]? = some (.deferred (some [])) → j.wpIn Fence.wide n Tryd.prog Q { a with defers := { target := .collected w.heap.size, args := #[] } :: a.defers } V) :
    (Code.rangeFunc g ps assign body).wpIn Fence.wide n Tryd.prog Q a w := by
  refine wpIn_rangeFunc fun fn hfn => ?_
  -- the loop's record
  obtain ⟨mk, hmk⟩ : ∃ mk : LoopState → Option Code → Obj, mk = fun st pe => .loop { state := st, pending := pe, fn, tmps := a.tmps, params := ps, assign, body, defers := w.heap.size } := ⟨_, rfl⟩
  have mkc : ∀ st pe, (mk st pe).isCells = false := fun st pe => by rw [hmk]; rfl
  obtain ⟨V1, hV1⟩ : ∃ V1, V1 = (w.alloc (.deferred (some []))).alloc (mk .ready none) := ⟨_, rfl⟩
  have hsz : (w.alloc (.deferred (some []))).heap.size = w.heap.size + 1 := World.size_alloc _ _
  have hrec : V1.heap[w.heap.size + 1]? = some (mk .ready none) := by rw [hV1, ← hsz]; exact World.alloc_heap_new _ _
  have hdef : V1.heap[w.heap.size]? = some (.deferred (some [])) := by rw [hV1]; exact alloc_far (World.alloc_heap_new w _) _
  have hK1 : KeepN w.heap.size w V1 := by rw [hV1]; exact (((Keep.refl noBlock w).alloc _).alloc _).toN _
  have hI1 : I i0 V1 := hI _ _ _ h0 hK1
  refine ⟨w.heap.size + 1, [{ target := .collected w.heap.size, args := #[] }], V1, { target := .fn (.func gf) lb, args := #[.func (.yield (w.heap.size + 1)) #[] #[]] }, V1, gf,
    #[.func (.yield (w.heap.size + 1)) #[] #[]] ++ lb, V1, ?_, ?_, fun _ _ => trivial, ?_, fun _ => by omega, ?_⟩
  · rw [hV1, hmk]; exact run_enterLoop_outer _ _ _ _ _
  · simp only [resolve, hg]
    simp [go_sem]
  · simp [invoke, go_sem, eg]
  · refine (hit (w.heap.size + 1)
      (fun i V => I i V ∧ V.heap[w.heap.size + 1]? = some (mk .ready none) ∧ V.heap[w.heap.size]? = some (.deferred (some [])))
      (fun V => ∃ j, X j V ∧ V.heap[w.heap.size + 1]? = some (mk .done (some j)) ∧ V.heap[w.heap.size]? = some (.deferred (some [])))
      V1 hK1 (fun i V h => h.1) (fun i U V h hk => ⟨hI _ _ _ h.1 (hk.toN _), hk.obj h.2.1 (fun h => h), hk.obj h.2.2 (fun h => h)⟩) ?_ ⟨hI1, hrec, hdef⟩).mono ?_
    · rintro i vs i' V hR ⟨hi, hl, hd⟩
      have hy := run_yield (P := Tryd.prog) (args := vs) (by rw [hmk] at hl; exact hl) (by simp [hps i vs i' V hR])
      refine ⟨fn, _, assign, body, hy, roundIn_of_wpIn hfn (hassign i vs i' V _ hR hi fun a' V2 hkf hi2 hax => ?_)⟩
      have hl2 := hkf.same _ _ (Nat.le_succ _) hl (mkc _ _)
      have hd2 := hkf.same _ _ (Nat.le_refl _) hd rfl
      have hlt : w.heap.size + 1 < V2.heap.size := obj_lt hl2
      have hbr := run_beginRound (P := Tryd.prog) (by rw [hmk] at hl2; exact hl2) rfl
      refine ⟨_, hbr, ?_⟩
      obtain ⟨V3, hV3⟩ : ∃ V3, V3 = V2.putObj (w.heap.size + 1) (mk .busy none) := ⟨_, rfl⟩
      have hl3 : V3.heap[w.heap.size + 1]? = some (mk .busy none) := by rw [hV3]; exact World.putObj_heap_same hlt
      have hd3 : V3.heap[w.heap.size]? = some (.deferred (some [])) := by rw [hV3]; exact (World.putObj_heap_other (by omega)).trans hd2
      have hk3 : KeepN w.heap.size V2 V3 := by rw [hV3]; exact keepN_putObj _ (Nat.le_succ _) hl2 (mkc _ _)
      have hi3 : I i V3 := hI _ _ _ hi2 hk3
      have hx3 : A i vs i' a' V3 := hA _ _ _ _ _ _ hax hk3
      have hb := hbody i vs i' a' V3 hi3 hx3
      rw [hV3, hmk] at hb
      refine wpIn_mono hb ?_
      -- however the round ends, the record is turned
      have fin : ∀ (j : Option Code) (V4 : World), KeepsFrom w.heap.size V3 V4 → (Instr.endRound (w.heap.size + 1) j).run Tryd.prog V4 = .ok (.bool j.isNone) (V4.putObj (w.heap.size + 1) (mk (if j.isNone then .ready else .done) j)) ∧
          V4.heap[w.heap.size + 1]? = some (mk .busy none) ∧ (V4.putObj (w.heap.size + 1) (mk (if j.isNone then .ready else .done) j)).heap[w.heap.size + 1]? = some (mk (if j.isNone then .ready else .done) j) ∧
          (V4.putObj (w.heap.size + 1) (mk (if j.isNone then .ready else .done) j)).heap[w.heap.size]? = some (.deferred (some [])) := by
        intro j V4 h4
        have hl4 := h4.same _ _ (Nat.le_succ _) hl3 (mkc _ _)
        have hr := run_endRound (P := Tryd.prog) j (by rw [hmk] at hl4; exact hl4)
        refine ⟨?_, hl4, World.putObj_heap_same (obj_lt hl4), (World.putObj_heap_other (by omega)).trans (h4.same _ _ (Nat.le_refl _) hd3 rfl)⟩
        rw [hmk]; exact hr
      intro e a4 V4 hp
      have hp' : goesOn w.heap.size (I i') X V3 e a4 V4 := by rw [hV3, hmk]; exact hp
      clear hp hb
      cases e with
      | normal =>
        obtain ⟨r1, r2, r3, r4⟩ := fin none V4 hp'.1
        exact ⟨_, _, r1, .inl ⟨rfl, hI _ _ _ hp'.2 (keepN_putObj _ (Nat.le_succ _) r2 (mkc _ _)), r3, r4⟩⟩
      | ret =>
        obtain ⟨r1, r2, r3, r4⟩ := fin (some .ret) V4 hp'.1
        exact ⟨_, _, r1, .inr ⟨rfl, .ret, hX _ _ _ hp'.2 (keepN_putObj _ (Nat.le_succ _) r2 (mkc _ _)), r3, r4⟩⟩
      | exit i =>
        obtain ⟨r1, r2, r3, r4⟩ := fin (some (.exit i)) V4 hp'.1
        exact ⟨_, _, r1, .inr ⟨rfl, .exit i, hX _ _ _ hp'.2 (keepN_putObj _ (Nat.le_succ _) r2 (mkc _ _)), r3, r4⟩⟩
      | goto t => exact hp'.elim
      | panic ch => exact hp'.elim
      | outgrown => exact hp'.elim
    · rintro e V ⟨⟨v, rfl⟩, (⟨i, hE, hi, hl, hd⟩ | ⟨j, hj, hl, hd⟩)⟩
      · have hr := run_endLoop (P := Tryd.prog) (by rw [hmk] at hl; exact hl) (by simp)
        exact ⟨none, _, hr, hdone i _ hE (hI _ _ _ hi (keepN_putObj _ (Nat.le_succ _) hl (mkc _ _))) ((World.putObj_heap_other (by omega)).trans hd)⟩
      · have hr := run_endLoop (P := Tryd.prog) (by rw [hmk] at hl; exact hl) (by simp)
        exact ⟨some j, _, hr, hstop j _ (hX _ _ _ hj (keepN_putObj _ (Nat.le_succ _) hl (mkc _ _))) ((World.putObj_heap_other (by omega)).trans hd)⟩

end Go.Proofs.YtcoahkmiebeeeaaDoor

namespace Go.Proofs.YtcoahkmiebeeeaaDoor
open Go.RowKit Go.Shelf

/-- The logarithm of (c + 1) / c, in parts. -/
def savedN (c : Nat) : Nat := ((15 * (2 * c + 1) * (2 * c + 1) - 4) * 2 ^ 32) / ((2 * c + 1) * (15 * (2 * c + 1) * (2 * c + 1) - 9))
def savedChk : Nat → Bool
  | 0 => true
  | n + 1 => (decide (1 ≤ savedN (n + 1)) && (decide (savedN (n + 1) < 2147483648) && decide (savedN (n + 2) ≤ savedN (n + 1)))) && savedChk n
theorem savedChk_all : savedChk 4096 = true := by decide +kernel
theorem savedChk_at (n c : Nat) (h : savedChk n = true) (h1 : 1 ≤ c) (h2 : c ≤ n) : 1 ≤ savedN c ∧ savedN c < 2147483648 ∧ savedN (c + 1) ≤ savedN c := by
  induction n with
  | zero => omega
  | succ n ih =>
    simp only [savedChk, Bool.and_eq_true, decide_eq_true_eq] at h
    by_cases e : c = n + 1
    · subst e; exact ⟨h.1.1, h.1.2.1, h.1.2.2⟩
    · exact ih h.2 (by omega)
theorem saved_facts (c : Nat) (h1 : 1 ≤ c) (h2 : c ≤ 4096) : 1 ≤ savedN c ∧ savedN c < 2147483648 ∧ savedN (c + 1) ≤ savedN c := savedChk_at 4096 c savedChk_all h1 h2
theorem saved_lt (c : Nat) (h2 : c ≤ 4096) : savedN c < 8589934592 := by
  by_cases h : c = 0
  · subst h; decide
  · have := (saved_facts c (by omega) h2).2.1; omega


/-- A sum over symbols. -/
def sumN (g : Nat → Nat) : Nat → Nat
  | 0 => 0
  | n + 1 => sumN g n + g n
theorem sumN_congr (g h : Nat → Nat) (n : Nat) (e : ∀ i, i < n → g i = h i) : sumN g n = sumN h n := by
  induction n with
  | zero => rfl
  | succ n ih => simp only [sumN]; rw [ih (fun i hi => e i (by omega)), e n (by omega)]
theorem sumN_set (g h : Nat → Nat) (n i : Nat) (hi : i < n) (e : ∀ k, k < n → k ≠ i → g k = h k) : sumN g n + h i = sumN h n + g i := by
  induction n with
  | zero => omega
  | succ n ih =>
    simp only [sumN]
    by_cases ei : i = n
    · subst ei
      rw [sumN_congr g h i (fun k hk => e k (by omega) (by omega))]; omega
    · have h1 := ih (by omega) (fun k hk hne => e k (by omega) hne)
      have h2 := e n (by omega) (fun h => ei h.symm)
      omega
theorem sumN_ge (g : Nat → Nat) (n i : Nat) (hi : i < n) : g i ≤ sumN g n := by
  induction n with
  | zero => omega
  | succ n ih =>
    simp only [sumN]
    by_cases e : i = n
    · subst e; omega
    · have := ih (by omega); omega
theorem sumN_two (g : Nat → Nat) (n i j : Nat) (hi : i < n) (hj : j < n) (hne : i ≠ j) : g i + g j ≤ sumN g n := by
  induction n with
  | zero => omega
  | succ n ih =>
    simp only [sumN]
    by_cases e : i = n
    · have := sumN_ge g n j (by omega); subst e; omega
    · by_cases e2 : j = n
      · have := sumN_ge g n i (by omega); subst e2; omega
      · have := ih (by omega) (by omega); omega
theorem sumN_le (g : Nat → Nat) (n B : Nat) (h : ∀ i, i < n → g i ≤ B) : sumN g n ≤ n * B := by
  induction n with
  | zero => simp [sumN]
  | succ n ih =>
    simp only [sumN]
    have h1 := ih (fun i hi => h i (by omega))
    have h2 := h n (by omega)
    rw [Nat.succ_mul]; omega
theorem sumN_mono (g h : Nat → Nat) (n : Nat) (e : ∀ i, i < n → g i ≤ h i) : sumN g n ≤ sumN h n := by
  induction n with
  | zero => simp [sumN]
  | succ n ih => simp only [sumN]; have := ih (fun i hi => e i (by omega)); have := e n (by omega); omega

/-- All that is saved by c states. -/
def SP : Nat → Nat
  | 0 => 0
  | c + 1 => SP c + savedN c
theorem SP_le (c : Nat) (h : c ≤ 4097) : SP c ≤ c * 8589934592 := by
  induction c with
  | zero => simp [SP]
  | succ c ih => have := ih (by omega); have := saved_lt c (by omega); simp only [SP]; omega
def potF (f c : Nat → Nat) (n : Nat) : Nat := sumN (fun i => f i * SP (c i)) n
/-- Above every sum. -/
def potMax : Nat := 256 * (4294967296 * (4097 * 8589934592))
theorem pot_le (f c : Nat → Nat) (n : Nat) (hn : n ≤ 256) (hf : ∀ i, f i < 4294967296) (hc : ∀ i, i < n → c i ≤ 4096) : potF f c n ≤ potMax := by
  have h1 := sumN_le (fun i => f i * SP (c i)) n (4294967296 * (4097 * 8589934592)) (fun i hi => by
    have h2 := SP_le (c i) (by have := hc i hi; omega)
    have h3 : SP (c i) ≤ 4097 * 8589934592 := Nat.le_trans h2 (Nat.mul_le_mul_right _ (by have := hc i hi; omega))
    exact Nat.mul_le_mul (by have := hf i; omega) h3)
  exact Nat.le_trans h1 (Nat.mul_le_mul_right _ hn)
/-- One state moved to where it saves more. -/
theorem pot_move (f c : Nat → Nat) (n i j : Nat) (hi : i < n) (hj : j < n) (hne : i ≠ j) (hcj : 2 ≤ c j) (hg : f j * savedN (c j - 1) < f i * savedN (c i)) :
    potF f c n < potF f (fun k => if k = j then c j - 1 else if k = i then c i + 1 else c k) n := by
  have h1 := sumN_set (fun k => f k * SP (c k)) (fun k => f k * SP (if k = i then c i + 1 else c k)) n i hi (fun k _ hk => by simp [hk])
  have h2 := sumN_set (fun k => f k * SP (if k = i then c i + 1 else c k)) (fun k => f k * SP (if k = j then c j - 1 else if k = i then c i + 1 else c k)) n j hj (fun k _ hk => by simp [hk])
  simp only [if_true] at h1 h2
  rw [if_neg (fun h => hne h.symm)] at h2
  have e1 : f i * SP (c i + 1) = f i * SP (c i) + f i * savedN (c i) := by simp only [SP]; rw [Nat.mul_add]
  have e2 : f j * SP (c j) = f j * SP (c j - 1) + f j * savedN (c j - 1) := by
    obtain ⟨d, hd⟩ : ∃ d, c j = d + 1 := ⟨c j - 1, by omega⟩
    rw [hd, Nat.add_sub_cancel]; simp only [SP]; rw [Nat.mul_add]
  show sumN (fun k => f k * SP (c k)) n < sumN (fun k => f k * SP (if k = j then c j - 1 else if k = i then c i + 1 else c k)) n
  omega

end Go.Proofs.YtcoahkmiebeeeaaDoor
