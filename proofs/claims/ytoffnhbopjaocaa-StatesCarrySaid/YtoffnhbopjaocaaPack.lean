/-
  Bits in bytes, as numbers: no program is named here.
-/
import Derived.Test.YtoffnhbopjaocaaRead
namespace Go.Proofs.Ytoffnhbopjaocaa

/-- The number whose bit i is f i, of m bits. -/
def numF (f : Nat → Nat) : Nat → Nat
  | 0 => 0
  | m + 1 => numF f m + f m * 2 ^ m
theorem numF_lt (f : Nat → Nat) (hf : ∀ i, f i < 2) (m : Nat) : numF f m < 2 ^ m := by
  induction m with
  | zero => simp [numF]
  | succ m ih =>
    have := hf m
    simp only [numF, Nat.pow_succ]
    have h2 : f m * 2 ^ m ≤ 1 * 2 ^ m := Nat.mul_le_mul_right _ (by omega)
    omega
theorem numF_congr (f g : Nat → Nat) (m : Nat) (h : ∀ i, i < m → f i = g i) : numF f m = numF g m := by
  induction m with
  | zero => rfl
  | succ m ih => simp only [numF]; rw [ih (fun i hi => h i (by omega)), h m (by omega)]
theorem numF_bit (f : Nat → Nat) (hf : ∀ i, f i < 2) (m i : Nat) (hi : i < m) : bitOf (numF f m) i = f i := by
  induction m with
  | zero => omega
  | succ m ih =>
    have hlt := numF_lt f hf m
    simp only [numF]
    by_cases h : i = m
    · subst h
      unfold bitOf
      rw [Nat.add_mul_div_right _ _ (Nat.two_pow_pos i), Nat.div_eq_of_lt hlt, Nat.zero_add]
      exact Nat.mod_eq_of_lt (hf i)
    · rw [← ih (by omega)]
      unfold bitOf
      have e : 2 ^ m = 2 ^ i * (2 * 2 ^ (m - i - 1)) := by
        rw [show 2 * 2 ^ (m - i - 1) = 2 ^ (m - i - 1 + 1) from by rw [Nat.pow_succ, Nat.mul_comm], ← Nat.pow_add]
        congr 1
        omega
      have e2 : f m * 2 ^ m = 2 ^ i * (2 * (f m * 2 ^ (m - i - 1))) := by
        rw [e, Nat.mul_left_comm, Nat.mul_left_comm (f m)]
      rw [e2, Nat.add_mul_div_left _ _ (Nat.two_pow_pos i)]
      omega
theorem numAt_numF (bs : List Nat) (p m : Nat) : numAt bs p m = numF (fun k => bitAt bs (p + k)) m := by
  induction m with
  | zero => rfl
  | succ m ih => simp only [numAt, numF]; rw [ih]
/-- Bits that are the same up to a place, and 0 behind: the number is the same. -/
theorem numF_ext (f : Nat → Nat) (a b : Nat) (h : a ≤ b) (hz : ∀ i, a ≤ i → i < b → f i = 0) : numF f b = numF f a := by
  induction b with
  | zero => rw [show a = 0 from by omega]
  | succ b ih =>
    by_cases e : a = b + 1
    · rw [e]
    · simp only [numF]
      rw [hz b (by omega) (by omega), ih (by omega) (fun i h1 h2 => hz i h1 (by omega))]
      omega

/-- Bit k of a row of bits; 0 beyond. -/
def bitL (L : List (Fin 2)) (k : Nat) : Nat := (L[k]?.getD 0).val
theorem bitL_lt (L : List (Fin 2)) (k : Nat) : bitL L k < 2 := (L[k]?.getD 0).isLt
theorem bitL_old (L : List (Fin 2)) (b : Fin 2) (k : Nat) (h : k < L.length) : bitL (L ++ [b]) k = bitL L k := by
  unfold bitL; rw [List.getElem?_append_left h]
theorem bitL_new (L : List (Fin 2)) (b : Fin 2) : bitL (L ++ [b]) L.length = b.val := by
  unfold bitL; simp
theorem bitL_far (L : List (Fin 2)) (k : Nat) (h : L.length ≤ k) : bitL L k = 0 := by
  unfold bitL; rw [List.getElem?_eq_none h]; rfl
theorem bitL_app (L M : List (Fin 2)) (k : Nat) (h : k < L.length) : bitL (L ++ M) k = bitL L k := by
  unfold bitL; rw [List.getElem?_append_left h]
theorem bitL_behind (L M : List (Fin 2)) (k : Nat) : bitL (L ++ M) (L.length + k) = bitL M k := by
  unfold bitL; rw [List.getElem?_append_right (by omega)]; congr 3; omega

/-- Byte j of a row of bits. -/
def byteOf (L : List (Fin 2)) (j : Nat) : Nat := numF (fun i => bitL L (8 * j + i)) 8
theorem byteOf_lt (L : List (Fin 2)) (j : Nat) : byteOf L j < 256 := numF_lt _ (fun _ => bitL_lt _ _) 8
/-- The bytes of a row of bits. -/
def pack (L : List (Fin 2)) : List Nat := (List.range ((L.length + 7) / 8)).map (byteOf L)
theorem pack_length (L : List (Fin 2)) : (pack L).length = (L.length + 7) / 8 := by simp [pack]
theorem pack_at (L : List (Fin 2)) (j : Nat) (h : j < (L.length + 7) / 8) : (pack L)[j]?.getD 0 = byteOf L j := by
  unfold pack
  rw [List.getElem?_map, List.getElem?_range h]
  rfl
theorem pack_lt (L : List (Fin 2)) (j : Nat) : (pack L)[j]?.getD 0 < 256 := by
  by_cases h : j < (L.length + 7) / 8
  · rw [pack_at L j h]; exact byteOf_lt L j
  · rw [List.getElem?_eq_none (by rw [pack_length]; omega)]; decide
/-- A bit of the bytes is the bit of the row. -/
theorem bitAt_pack (L : List (Fin 2)) (i : Nat) : bitAt (pack L) i = bitL L i := by
  unfold bitAt
  by_cases h : i / 8 < (L.length + 7) / 8
  · rw [pack_at L _ h]
    unfold byteOf
    rw [numF_bit _ (fun _ => bitL_lt _ _) 8 (i % 8) (by omega)]
    congr 1
    omega
  · rw [List.getElem?_eq_none (by rw [pack_length]; omega), bitL_far L i (by omega)]
    simp [bitOf]

theorem byteOf_old (L : List (Fin 2)) (b : Fin 2) (j : Nat) (h : j < L.length / 8) : byteOf (L ++ [b]) j = byteOf L j :=
  numF_congr _ _ _ (fun i hi => bitL_old L b _ (by omega))
theorem byteOf_last (L : List (Fin 2)) (b : Fin 2) : byteOf (L ++ [b]) (L.length / 8) = byteOf L (L.length / 8) ||| b.val * 2 ^ (L.length % 8) := by
  have h1 : byteOf L (L.length / 8) = numF (fun i => bitL L (8 * (L.length / 8) + i)) (L.length % 8) :=
    numF_ext _ _ _ (by omega) (fun i h1 h2 => bitL_far L _ (by omega))
  have h2 : byteOf (L ++ [b]) (L.length / 8) = numF (fun i => bitL (L ++ [b]) (8 * (L.length / 8) + i)) (L.length % 8 + 1) :=
    numF_ext _ _ _ (by omega) (fun i h1 h2 => bitL_far _ _ (by simp; omega))
  have h3 : numF (fun i => bitL (L ++ [b]) (8 * (L.length / 8) + i)) (L.length % 8) = numF (fun i => bitL L (8 * (L.length / 8) + i)) (L.length % 8) :=
    numF_congr _ _ _ (fun i hi => bitL_old L b _ (by omega))
  have h4 : bitL (L ++ [b]) (8 * (L.length / 8) + L.length % 8) = b.val := by
    rw [show 8 * (L.length / 8) + L.length % 8 = L.length from by omega]; exact bitL_new L b
  rw [h1, h2]
  simp only [numF]
  rw [h3, h4, Nat.or_comm, nat_join (L.length % 8) _ _ (Nat.mul_mod_left _ _) (numF_lt _ (fun _ => bitL_lt _ _) _)]
  omega
theorem byteOf_far (L : List (Fin 2)) (j : Nat) (h : L.length ≤ 8 * j) : byteOf L j = 0 :=
  numF_ext _ 0 8 (by omega) (fun i _ _ => bitL_far L _ (by omega))

/-- A bit at a byte's beginning. -/
theorem pack_new (L : List (Fin 2)) (b : Fin 2) (h : L.length % 8 = 0) : pack (L ++ [b]) = pack L ++ [b.val] := by
  have e : ((L ++ [b]).length + 7) / 8 = (L.length + 7) / 8 + 1 := by simp; omega
  have e2 : (L.length + 7) / 8 = L.length / 8 := by omega
  unfold pack
  rw [e, List.range_succ, List.map_append, e2]
  congr 1
  · exact List.map_congr_left (fun j hj => byteOf_old L b j (List.mem_range.1 hj))
  · simp only [List.map_cons, List.map_nil]
    rw [byteOf_last, byteOf_far L _ (by omega), h]
    simp
/-- A bit behind a byte that is begun. -/
theorem pack_old (L : List (Fin 2)) (b : Fin 2) (h : L.length % 8 ≠ 0) : pack (L ++ [b]) = (pack L).set (L.length / 8) ((pack L)[L.length / 8]?.getD 0 ||| b.val * 2 ^ (L.length % 8)) := by
  have e : ((L ++ [b]).length + 7) / 8 = (L.length + 7) / 8 := by simp; omega
  have hlt : L.length / 8 < (L.length + 7) / 8 := by omega
  rw [pack_at L _ hlt]
  apply List.ext_getElem
  · rw [List.length_set, pack_length, pack_length, e]
  · intro j h1 h2
    rw [List.getElem_set]
    simp only [pack, List.getElem_map, List.getElem_range]
    rw [pack_length, e] at h1
    by_cases hj : L.length / 8 = j
    · rw [if_pos hj, ← hj, byteOf_last]
    · rw [if_neg hj, byteOf_old L b j (by omega)]

end Go.Proofs.Ytoffnhbopjaocaa
