/-
  What an XXH64 tells, and a new one.
-/
import Derived.Test.YtoohkldhfkoocaaXobj
namespace Go.Proofs.Ytoohkldhfkoocaa
open Go.RowKit Go.Shelf
set_option linter.unusedVariables false

/-- One of the three last steps. -/
def shake (h s p : Nat) : Nat := (h ^^^ h / s) * p % 2 ^ 64
theorem shake_lt (h s p : Nat) : shake h s p < 2 ^ 64 := Nat.mod_lt _ (by decide)
theorem final_eq (h : Nat) : final h = (shake (shake h (2 ^ 33) p2) (2 ^ 29) p3) ^^^ (shake (shake h (2 ^ 33) p2) (2 ^ 29) p3) / 2 ^ 32 := rfl
theorem shake1 (h : Nat) (hh : h < 2 ^ 64) : IntKind.u64.wrap (bits .xor .u64 (h : Int) ((h : Int) / 8589934592) * 14029467366897019727) = ((shake h (2 ^ 33) p2 : Nat) : Int) := by
  rw [xorN h (h / 2 ^ 33) _ _ rfl (by simp) hh (Nat.lt_of_le_of_lt (Nat.div_le_self _ _) hh)]
  exact wrapN _ _ (by simp [p2])
theorem shake2 (h : Nat) (hh : h < 2 ^ 64) : IntKind.u64.wrap (bits .xor .u64 (h : Int) ((h : Int) / 536870912) * 1609587929392839161) = ((shake h (2 ^ 29) p3 : Nat) : Int) := by
  rw [xorN h (h / 2 ^ 29) _ _ rfl (by simp) hh (Nat.lt_of_le_of_lt (Nat.div_le_self _ _) hh)]
  exact wrapN _ _ (by simp [p3])
theorem shake3 (h : Nat) (hh : h < 2 ^ 64) : bits .xor .u64 (h : Int) ((h : Int) / 4294967296) = ((h ^^^ h / 2 ^ 32 : Nat) : Int) := 
  xorN h (h / 2 ^ 32) _ _ rfl (by simp) hh (Nat.lt_of_le_of_lt (Nat.div_le_self _ _) hh)

theorem IsX.drewN {w : World} {b : Nat} {bs : List Nat} (h : IsX w b bs) (n : Nat) : IsX (w.drewN n) b bs := h

set_option maxRecDepth 100000 in
set_option maxHeartbeats 2000000 in
theorem xval_any (b : Nat) (bs : List Nat) (w : World) (h : IsX w b bs) :
    Calls Try.prog 47 #[.pointer (some ⟨b, 0, none⟩)] w fun e w' => e = .returned (.int .u64 ((xxh bs : Nat) : Int)) ∧ ∃ n, w' = w.drewN n := by
  have hX := h
  obtain ⟨⟨cs, ho, ht⟩, h2, h3⟩ := h
  have hc : w.cell? ⟨b, 36, none⟩ = some (.int .u64 (bs.length : Int)) := (cell_of ho 36).trans ht.num
  have hxx : xxh bs = final (restOf ((beginOf bs + bs.length) % 2 ^ 64) bs (32 * (bs.length / 32)) (bs.length % 32)) := rfl
  have hbl := beginOf_lt bs
  have hrest : ∀ j, j < bs.length % 32 → w.cell? ⟨b, 4 + j, none⟩ = some (.int .u8 ((bs[32 * (bs.length / 32) + j]?.getD 0 : Nat) : Int)) := fun j hj => (cell_of ho _).trans (ht.rest j hj)
  have hsum : IntKind.u64.wrap (((beginOf bs : Nat) : Int) + (bs.length : Int)) = (((beginOf bs + bs.length) % 2 ^ 64 : Nat) : Int) := wrapN _ _ (by simp)
  have hm := Nat.mod_lt (beginOf bs + bs.length) (show 0 < 2 ^ 64 by decide)
  have hh : (beginOf bs + bs.length) % 2 ^ 64 < 2 ^ 64 := hm
  have hrl := restOf_lt _ hh bs (32 * (bs.length / 32)) (bs.length % 32)
  have HT := fun n => takeRest_any ((beginOf bs + bs.length) % 2 ^ 64) (bs.length % 32) 32 b 4 _ rfl hh bs (32 * (bs.length / 32)) (by omega) (by decide) (w.drewN n) hrest h2
  have HH := fun n => held_any b bs.length (w.drewN n) h3 hc
  have HB := fun n => begin_any b bs (w.drewN n) (hX.drewN n)
  clear hX ho ht h2 hrest hm hh
  generalize (beginOf bs + bs.length) % 2 ^ 64 = s at hsum hxx hrl HT
  generalize restOf s bs (32 * (bs.length / 32)) (bs.length % 32) = r at hxx hrl HT
  rw [hxx]
  clear hxx
  rw [final_eq]
  generalize beginOf bs = bo at hsum hbl HB
  obtain ⟨m, hm⟩ : ∃ m, bs.length % 32 = m := ⟨_, rfl⟩
  rw [hm] at HT HH
  have hm1 : (m : Int) ≤ 32 := by omega
  have hm0 : (0 : Int) ≤ (m : Int) := by omega
  clear hm
  generalize bs.length = n at hc h3 hsum HH
  have hs1 := shake1 r hrl
  have hl1 := shake_lt r (2 ^ 33) p2
  generalize shake r (2 ^ 33) p2 = r1 at hs1 hl1 ⊢
  have hs2 := shake2 r1 hl1
  have hl2 := shake_lt r1 (2 ^ 29) p3
  generalize shake r1 (2 ^ 29) p3 = r2 at hs2 hl2 ⊢
  have hs3 := shake3 r2 hl2
  generalize r2 ^^^ r2 / 2 ^ 32 = r3 at hs3 ⊢
  go_enter Try.func47, Try.ntmps47
  go_wp2_with fail
  go_quiet (first | (go_at_call 51; exact Calls.quiet_of (HB _)))
  go_wp2_with fail
  have HT2 := fun n => HT (nq + n)
  have HH2 := fun n => HH (nq + n)
  simp only [← World.drewN_drewN] at HT2 HH2
  have hW : Hid (∃ k, w.drewN nq = w.drewN k) := ⟨nq, rfl⟩
  clear HT HH HB hc
  generalize w.drewN nq = W2 at HT2 HH2 hW ⊢
  go_quiet (first | (go_at_call 48; exact Calls.quiet_of (HH2 _)) | (go_at_call 52; exact Calls.quiet_of (HT2 _)))
  go_wp2_with fail
  go_ret
  obtain ⟨k, rfl⟩ := hW.out
  exact ⟨rfl, k + nq, by rw [World.drewN_drewN]⟩

end Go.Proofs.Ytoohkldhfkoocaa
