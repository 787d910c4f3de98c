/-
  What the statements' own example comes to: true.
-/
import Derived.Test.YtajhobjjkcnomaaWrite
namespace Go.Proofs.Ytajhobjjkcnomaa
open Go.RowKit Go.Shelf

theorem bits_take_i (rb g : Nat) (bs : List Nat) (p m : Nat) (mi : Int) (e : mi = (m : Int)) (r : Nat) (hr : numAt bs p m = r) (p' : Nat) (hp' : p + m = p') (hm : m ≤ 56) (w : World) (h : IsR w rb g bs p) (hp : p + m ≤ 8 * bs.length) :
    Calls Try.prog 10 #[.pointer (some ⟨rb, 0, none⟩), .int .i64 mi] w fun e w' => e = .returned (.tuple #[.int .u64 (r : Int), .int .i64 0]) ∧ IsR w' rb g bs p' ∧ Keep (fun k => k = rb) w w' := by
  subst e; subst hr; subst hp'
  exact bits_take rb g bs p m hm w h hp
theorem bits_few_i (rb g : Nat) (bs : List Nat) (p m : Nat) (mi : Int) (e : mi = (m : Int)) (hm : m ≤ 56) (w : World) (h : IsR w rb g bs p) (hp : 8 * bs.length < p + m) :
    Calls Try.prog 10 #[.pointer (some ⟨rb, 0, none⟩), .int .i64 mi] w fun e w' => e = .returned (.tuple #[.int .u64 0, .int .i64 10]) ∧ ∃ n, w' = w.drewN n := by
  subst e
  exact bits_few rb g bs p m hm w h hp
theorem alignR_i (rb g : Nat) (bs : List Nat) (p : Nat) (r : Nat) (hr : numAt bs p ((8 - p % 8) % 8) = r) (p' : Nat) (hp' : p + (8 - p % 8) % 8 = p') (w : World) (h : IsR w rb g bs p) :
    Calls Try.prog 8 #[.pointer (some ⟨rb, 0, none⟩)] w fun e w' => e = .returned (.tuple #[.int .u64 (r : Int), .int .i64 0]) ∧ IsR w' rb g bs p' ∧ Keep (fun k => k = rb) w w' := by
  subst hr; subst hp'
  exact alignR_any rb g bs p w h
theorem put_i (wb : Nat) (v : Value) (L : List (Fin 2)) (x m : Nat) (xi mi : Int) (ex : xi = (x : Int)) (em : mi = (m : Int)) (hx : x < 18446744073709551616) (hm : m ≤ 56) (hL : L.length < 1000000000000) (w : World) (h : IsW w wb v L) :
    Calls Try.prog 17 #[.pointer (some ⟨wb, 0, none⟩), .int .u64 xi, .int .i64 mi] w fun e w' => e = .returned (.int .i64 0) ∧ ∃ v', IsW w' wb v' (L ++ low x m) ∧ Moves w.heap.size v v' ∧ Keep (fun k => k = wb ∨ v.ownBlock = some k) w w' := by
  subst ex; subst em
  exact put_any wb v L x m hx hm hL w h

/-- Bytes as a string. -/
def strOf (bs : List Nat) : ByteArray := (bs.map (fun b => ((b : Nat) : Int))).foldl (fun r n => r.push (UInt8.ofNat n.toNat)) ByteArray.empty
theorem run_conv {w : World} {v : Value} {bs : List Nat} (h : Src w v bs) : (convert 22 9 v).run Try.prog w = .ok (.string (strOf bs)) w := by
  rcases h with ⟨rfl, rfl⟩ | ⟨a, cap, rfl, _, hc⟩
  · rw [run_convert_bytes_string w 22 9 5 none 0 0 Try.underlying22 Try.underlying5 Try.underlying9]
    rfl
  · rw [run_convert_bytes_string w 22 9 5 (some a) bs.length cap Try.underlying22 Try.underlying5 Try.underlying9]
    refine run_bytesToString w a bs.length cap (bs.map (fun b => ((b : Nat) : Int))) ?_
    have := run_loadCells_list (P := Try.prog) w a (u8s bs) hc
    rw [u8s_length] at this
    rw [this]
    simp [u8s]

/-- A new writer. -/
theorem isW_new (w : World) : IsW (w.alloc (.cells #[.slice none 0 0, .int .i64 0] 40)) w.heap.size (.slice none 0 0) [] :=
  ⟨World.alloc_heap_new w _, World.ownsRow_nil _ _ _ _⟩

set_option maxHeartbeats 1000000 in
theorem wakes_any (w : World) : Calls Try.prog 14 #[] w fun e w' => e = .returned (.bool true) ∧ Keep noBlock w w' := by
  have hsrc : Src (w.alloc (.cells #[.int .u8 180, .int .u8 1] 5)) (.slice (some ⟨w.heap.size, 0, none⟩) 2 2) [180, 1] :=
    .inr ⟨⟨w.heap.size, 0, none⟩, 2, rfl, by simp, World.news_of_block (World.alloc_heap_new w _)⟩
  go_enter Try.func14, Try.ntmps14
  go_wp2_with fail
  refine (new_any _ [180, 1] (by decide) (fun j => by rcases j with _ | _ | j <;> simp) _ hsrc).mono ?_
  rintro e w1 ⟨rb, g, rfl, hrb, hg, hR, hK⟩
  have hK1 : Keep noBlock w w1 := ((Keep.refl _ w).alloc _).trans hK (fun _ _ h => h.elim)
  simp only [World.size_alloc] at hrb hg
  clear hsrc hK
  go_wp2_with fail
  refine (bits_take_i rb g [180, 1] 0 3 3 rfl 4 (by decide) 3 rfl (by decide) _ hR (by decide)).mono ?_
  rintro e w2 ⟨rfl, hR2, hK2⟩
  have hK3 : Keep noBlock w w2 := hK1.trans hK2 (fun i hi e => by omega)
  clear hR hK1 hK2
  go_wp2_with fail
  refine (bits_take_i rb g [180, 1] 3 6 6 rfl 54 (by decide) 9 rfl (by decide) _ hR2 (by decide)).mono ?_
  rintro e w3 ⟨rfl, hR3, hK2⟩
  have hK4 : Keep noBlock w w3 := hK3.trans hK2 (fun i hi e => by omega)
  clear hR2 hK3 hK2
  go_wp2_with fail
  refine (alignR_i rb g [180, 1] 9 0 (by decide) 16 (by decide) _ hR3).mono ?_
  rintro e w4 ⟨rfl, hR4, hK2⟩
  have hK5 : Keep noBlock w w4 := hK4.trans hK2 (fun i hi e => by omega)
  clear hR3 hK4 hK2
  go_wp2_with fail
  refine (bits_few_i rb g [180, 1] 16 1 1 rfl (by decide) _ hR4 (by decide)).mono ?_
  rintro e w5 ⟨rfl, nq, rfl⟩
  have hK6 : Keep noBlock w (w4.drewN nq) := hK5.trans' (keep_drewN w4 nq)
  clear hR4 hK5
  generalize w4.drewN nq = w5 at hK6 ⊢
  go_wp2_with fail
  have hW := isW_new w5
  refine (put_i w5.heap.size _ [] 5 3 5 3 rfl rfl (by decide) (by decide) (by decide) _ hW).mono ?_
  rintro e w6 ⟨rfl, v1, hW1, hM1, hK1⟩
  simp only [Value.ownBlock] at hK1
  have hM : ∀ k, v1.ownBlock = some k → w5.heap.size ≤ k := fun k e => by
    rcases hM1 with e2 | ⟨j, e2, hj⟩
    · rw [e2] at e; cases e
    · rw [e2] at e; cases e; simp at hj; omega
  have h56 := hK6.size
  have hK7 : Keep noBlock w w6 := (hK6.alloc _).trans hK1 (fun i hi e => by simp at e; omega)
  clear hW hK1 hM1
  go_wp2_with fail
  refine (put_i w5.heap.size v1 ([] ++ low 5 3) 1 6 1 6 rfl rfl (by decide) (by decide) (by decide) _ hW1).mono ?_
  rintro e w7 ⟨rfl, v2, hW2, hM2, hK2⟩
  have hK8 : Keep noBlock w w7 := hK7.trans hK2 (fun i hi e => by
    rcases e with e | e
    · omega
    · have := hM i e; omega)
  clear hW1 hK2 hM2 hK7 hM hK6
  go_wp2_with fail
  refine (bytes_any w5.heap.size v2 _ (by decide) _ hW2).mono ?_
  rintro e w8 ⟨v3, rfl, hown, hK9⟩
  have hconv := run_conv (Src.of_owns hown)
  rw [show strOf (pack ([] ++ low 5 3 ++ low 1 6)) = ⟨#[13, 0]⟩ from by decide] at hconv
  rw [show (pack ([] ++ low 5 3 ++ low 1 6)).length = 2 from by decide] at hown
  obtain ⟨sa, cap, rfl⟩ := owns_form hown
  clear hown hW2
  go_wp2
  go_ret
  exact ⟨rfl, hK8.trans' hK9⟩

end Go.Proofs.Ytajhobjjkcnomaa
