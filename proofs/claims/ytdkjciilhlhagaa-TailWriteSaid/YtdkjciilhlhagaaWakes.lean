/-
  What the statements' own example comes to: true.
-/
import Derived.Test.YtdkjciilhlhagaaWrite
namespace Go.Proofs.Ytdkjciilhlhagaa
open Go.RowKit Go.Shelf
set_option linter.unusedVariables false

theorem bits_i (rb g : Nat) (bs : List Nat) (p t z u m a b r : Nat) (n : Int) (hr : numAt bs p t * 2 ^ z = r) (hu : u = p + t) (hmz : m = t + z) (hpz : z = 0 ∨ p = 0) (hn : (m : Int) = min (max n 0) 56) (hb : b = min (a + z) 1099511627776) (w : World) (h : IsR w rb g bs u a) :
    Calls Try.prog 10 #[.pointer (some ⟨rb, 0, none⟩), .int .i64 n] w fun e w' => e = .returned (.int .u64 (r : Int)) ∧ IsR w' rb g bs p b ∧ Keep (fun k => k = rb) w w' := by
  subst hr
  exact bits_read rb g bs p t z u m a b n w h hu hmz hpz hn hb
theorem left_i (rb g : Nat) (bs : List Nat) (u a : Nat) (r : Int) (hr : (u : Int) - a = r) (w : World) (h : IsR w rb g bs u a) :
    Calls Try.prog 12 #[.pointer (some ⟨rb, 0, none⟩)] w fun e w' => e = .returned (.int .i64 r) ∧ ∃ n, w' = w.drewN n := by
  subst hr
  exact left_any rb g bs u a w h
theorem put_i (wb : Nat) (v : Value) (L : List (Fin 2)) (x m : Nat) (xi mi : Int) (ex : xi = (x : Int)) (em : mi = (m : Int)) (hx : x < 18446744073709551616) (hm : m ≤ 56) (hL : L.length < 1000000000000) (w : World) (h : IsW w wb v L) :
    Calls Try.prog 13 #[.pointer (some ⟨wb, 0, none⟩), .int .u64 xi, .int .i64 mi] w fun e w' => e = .returned (.int .i64 0) ∧ ∃ v', IsW w' wb v' (L ++ low x m) ∧ Moves w.heap.size v v' ∧ Keep (fun k => k = wb ∨ v.ownBlock = some k) w w' := by
  subst ex; subst em
  exact put_any wb v L x m hx hm hL w h

/-- Bytes as a string. -/
def strOf (bs : List Nat) : ByteArray := (bs.map (fun b => ((b : Nat) : Int))).foldl (fun r n => r.push (UInt8.ofNat n.toNat)) ByteArray.empty
theorem run_conv {w : World} {v : Value} {bs : List Nat} (h : Src w v bs) : (convert 22 9 v).run Try.prog w = .ok (.string (strOf bs)) w := by
  rcases h with ⟨rfl, rfl⟩ | ⟨a, cap, rfl, _, hc⟩
  · rw [run_convert_bytes_string w 22 9 5 none 0 0 Try.underlying22 Try.underlying5 Try.underlying9]
    rfl
  · rw [run_convert_bytes_string w 22 9 5 (some a) bs.length cap Try.underlying22 Try.underlying5 Try.underlying9]
    refine run_bytesToString w a bs.length cap (bs.map (fun b => ((b : Nat) : Int))) ?_
    have := run_loadCells_list (P := Try.prog) w a (u8s bs) hc
    rw [u8s_length] at this
    rw [this]
    simp [u8s]

set_option maxHeartbeats 1000000 in
theorem wakes_any (w : World) : Calls Try.prog 9 #[] w fun e w' => e = .returned (.bool true) ∧ Keep noBlock w w' := by
  go_enter Try.func9, Try.ntmps9
  go_wp2_with fail
  have hW := isW_new w
  refine (put_i w.heap.size _ [] 2 2 2 2 rfl rfl (by decide) (by decide) (by decide) _ hW).mono ?_
  rintro e w1 ⟨rfl, v1, hW1, hM1, hK1⟩
  simp only [Value.ownBlock] at hK1
  have hMw : ∀ k, v1.ownBlock = some k → w.heap.size ≤ k := fun k e => by
    rcases hM1 with e2 | ⟨j, e2, hj⟩
    · rw [e2] at e; cases e
    · rw [e2] at e; cases e; simp at hj; omega
  have hKw1 : Keep noBlock w w1 := ((Keep.refl noBlock w).alloc _).trans hK1 (fun i hi e => by simp at e; omega)
  clear hW hK1 hM1
  go_wp2_with fail
  refine (put_i w.heap.size v1 ([] ++ low 2 2) 5 3 5 3 rfl rfl (by decide) (by decide) (by decide) _ hW1).mono ?_
  rintro e w2 ⟨rfl, v2, hW2, hM2, hK2⟩
  have hMw2 : ∀ k, v2.ownBlock = some k → w.heap.size ≤ k := fun k e => by
    have := hKw1.size
    rcases hM2 with e2 | ⟨j, e2, hj⟩
    · exact hMw k (by rw [← e2]; exact e)
    · rw [e2] at e; cases e; omega
  have hKw2 : Keep noBlock w w2 := hKw1.trans hK2 (fun i hi e => by
    rcases e with e | e
    · omega
    · have := hMw i e; omega)
  have hwlt := obj_lt hW2.obj
  clear hW1 hK2 hM2 hMw hKw1
  go_wp2_with fail
  refine (new_mark w2.heap.size 0 1 0 54 [54] rfl (by decide) (fun j => by rcases j with _ | j <;> simp) _ rfl (by decide) (fun j hj => by
    obtain rfl : j = 0 := by simp at hj; omega
    exact cell_of (World.alloc_heap_new w2 _) 0)).mono ?_
  rintro e w3 ⟨rb, g, rfl, hrb, hg, hR, hK3⟩
  rw [show tailLen [54] = 5 from by decide] at hR
  simp only [World.size_alloc] at hrb hg
  have hK23 : Keep noBlock w2 w3 := ((Keep.refl noBlock w2).alloc _).trans' hK3
  have hW3 := hW2.keep hK23 (fun h => h) (fun _ _ h => h)
  have hKw3 : Keep noBlock w w3 := hKw2.trans' hK23
  have hsz2 := hKw2.size
  have hv2lt : ∀ k, v2.ownBlock = some k → k < w2.heap.size := hW2.row_lt
  clear hK23 hK3 hW2 hKw2
  go_wp2_with fail
  refine (close_any w.heap.size v2 _ (by decide) _ hW3).mono ?_
  rintro e w4 ⟨v3, rfl, hown, hW4, hM4, hK4⟩
  have hR4 := hR.keep hK4 (by rintro (e | e); omega; exact absurd (hv2lt _ e) (by omega)) (fun _ => by rintro (e | e); omega; exact absurd (hv2lt _ e) (by omega))
  have hKw4 : Keep noBlock w w4 := hKw3.trans hK4 (fun i hi e => by
    rcases e with e | e
    · omega
    · have := hMw2 i e; omega)
  have hconv := run_conv (Src.of_owns hown)
  rw [show strOf (pack ([] ++ low 2 2 ++ low 5 3 ++ [1])) = ⟨#[54]⟩ from by decide] at hconv
  rw [show (pack ([] ++ low 2 2 ++ low 5 3 ++ [1])).length = 1 from by decide] at hown
  obtain ⟨sa, cap, rfl⟩ := owns_form hown
  clear hown hW4 hM4 hK4 hW3 hKw3 hR hv2lt hMw2
  go_wp2_with fail
  refine (bits_i rb g [54] 2 3 0 5 3 0 0 5 3 (by decide) rfl rfl (.inl rfl) (by decide) rfl _ hR4).mono ?_
  rintro e w5 ⟨rfl, hR5, hK5⟩
  have hKw5 : Keep noBlock w w5 := hKw4.trans hK5 (fun i hi e => by omega)
  clear hR4 hK5 hKw4 hconv
  go_wp2_with fail
  refine (bits_i rb g [54] 0 2 0 2 2 0 0 2 2 (by decide) rfl rfl (.inl rfl) (by decide) rfl _ hR5).mono ?_
  rintro e w6 ⟨rfl, hR6, hK6⟩
  have hKw6 : Keep noBlock w w6 := hKw5.trans hK6 (fun i hi e => by omega)
  clear hR5 hK6 hKw5
  go_wp2_with fail
  refine (left_i rb g [54] 0 0 0 rfl _ hR6).mono ?_
  rintro e w7 ⟨rfl, n7, rfl⟩
  go_wp2_with fail
  refine (bits_i rb g [54] 0 0 4 0 4 0 4 0 4 (by decide) rfl rfl (.inr rfl) (by decide) rfl _ (hR6.drewN n7)).mono ?_
  rintro e w8 ⟨rfl, hR8, hK8⟩
  have hKw8 : Keep noBlock w w8 := (hKw6.trans' (keep_drewN _ n7)).trans hK8 (fun i hi e => by omega)
  clear hR6 hK8 hKw6
  go_wp2_with fail
  refine (new_zero w8.heap.size 0 2 1 _ (by decide) (cell_of (World.alloc_heap_new w8 _) 1)).mono ?_
  rintro e w9 ⟨rfl, rfl⟩
  have hK89 : Keep noBlock w8 (w8.alloc (.cells #[.int .u8 1, .int .u8 0] 5)) := (Keep.refl noBlock w8).alloc _
  have hR9 := hR8.keep hK89 (fun h => h) (fun _ h => h)
  go_wp2_with fail
  refine (left_i rb g [54] 0 4 (-4) rfl _ hR9).mono ?_
  rintro e w10 ⟨rfl, n10, rfl⟩
  go_wp2_with fail
  go_ret
  exact ⟨rfl, (hKw8.trans' hK89).trans' (keep_drewN _ n10)⟩

end Go.Proofs.Ytdkjciilhlhagaa
