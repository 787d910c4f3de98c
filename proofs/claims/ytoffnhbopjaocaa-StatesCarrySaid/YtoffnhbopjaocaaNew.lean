/-
  slices.Clone at bytes, and bits.New.
-/
import Derived.Test.YtoffnhbopjaocaaReader
import Derived.Deep.AppendLies
import Derived.WalkLawsBesides
namespace Go.Proofs.Ytoffnhbopjaocaa
open Go.RowKit Go.Shelf

theorem info5 : (Try.prog.info? 5).map (fun i => (i.zero, i.size, i.bytes)) = some (some (.int .u8 0), 1, 1) := by kernel_rfl

/-- Bytes as values. -/
def u8s (bs : List Nat) : List Value := bs.map (fun b => Value.int .u8 ((b : Nat) : Int))
theorem u8s_length (bs : List Nat) : (u8s bs).length = bs.length := by simp [u8s]
theorem u8s_one (bs : List Nat) : ∀ u ∈ u8s bs, u.oneCell' = true := by
  intro u hu
  simp only [u8s, List.mem_map] at hu
  obtain ⟨b, _, rfl⟩ := hu
  rfl
theorem u8s_at (bs : List Nat) (j : Nat) (hj : j < bs.length) : (u8s bs)[j]? = some (.int .u8 ((bs[j]?.getD 0 : Nat) : Int)) := by
  simp [u8s, hj]

theorem add0 (g j : Nat) : (⟨g, 0, none⟩ : Addr).add j = ⟨g, j, none⟩ := by unfold Addr.add; split <;> simp_all

/-- The slice v reads as the bytes bs. -/
def Src (w : World) (v : Value) (bs : List Nat) : Prop :=
  (v = .slice none 0 0 ∧ bs = []) ∨ ∃ a cap, v = .slice (some a) bs.length cap ∧ a.block < w.heap.size ∧ ∀ j u, (u8s bs)[j]? = some u → w.cell? (a.add j) = some u

theorem Src.of_owns {w : World} {base : Nat} {v : Value} {bs : List Nat} (h : w.ownsRow base 5 1 v bs.length (u8s bs)) : Src w v bs := by
  rcases h.2 with ⟨rfl, h0⟩ | ⟨g, cap, cur, rfl, hb, hg, hr⟩
  · exact .inl ⟨rfl, List.length_eq_zero_iff.1 h0⟩
  · exact .inr ⟨⟨g, 0, none⟩, cap, rfl, obj_lt hg, fun j u hu => h.cells (g := g) rfl j u hu⟩

theorem owns_form {w : World} {base e size n : Nat} {v : Value} {xs : List Value} (h : w.ownsRow base e size v n xs) : ∃ sa cap, v = .slice sa n cap := by
  rcases h.2 with ⟨rfl, rfl⟩ | ⟨g, cap, cur, rfl, _⟩
  · exact ⟨_, _, rfl⟩
  · exact ⟨_, _, rfl⟩

set_option maxHeartbeats 400000 in
/-- slices.Clone of a slice of bytes: the same bytes in memory of its own. -/
theorem clone_any (v : Value) (bs : List Nat) (hlen : bs.length ≤ 140737488355327) (w : World) (h : Src w v bs) :
    Calls Try.prog 53 #[v] w fun e w' => ∃ v', e = .returned v' ∧ w'.ownsRow w.heap.size 5 1 v' bs.length (u8s bs) ∧ Keep noBlock w w' ∧ (v' = .slice none 0 0 ↔ v = .slice none 0 0) := by
  obtain ⟨i0, hi, hz0, hz1, hz2⟩ := info_parts info5
  have hmax : bs.length ≤ maxLen := by unfold maxLen; omega
  have heq := fun (w : World) (a : Option Addr) (n c n' c' : Nat) => Lib.run_eql_slice_nil (P := Try.prog) w 23 5 a n c n' c' Try.underlying23
  rcases h with ⟨rfl, rfl⟩ | ⟨a, cap, rfl, ha, hc⟩
  · go_enter Try.func53, Try.ntmps53
    go_wp2
    go_ret
    exact ⟨_, rfl, World.ownsRow_nil _ _ _ _, Keep.refl _ _, by simp⟩
  · have hown := World.ownsRow_made (e := 5) (size := 1) (base := w.heap.size) w #[] 0 (Nat.le_refl _) (Nat.zero_le _) rfl
    have hc' : ∀ j u, (u8s bs)[j]? = some u → (w.alloc (.cells #[] 5)).cell? (a.add j) = some u := fun j u hu =>
      (World.cell?_of_block (Below.heap_alloc _ _ _ (by unfold Addr.add; split <;> exact ha))).trans (hc j u hu)
    go_enter Try.func53, Try.ntmps53
    go_wp2_with (at_builtin; refine wpList_append_own _ rfl _ _ 23 rfl w.heap.size 5 i0 (.int .u8 0) 1 1 Try.underlying23 hi hz0 hz1 hz2 rfl (by decide) (.slice (some ⟨w.heap.size, 0, none⟩) 0 0) 0 [] rfl hown a bs.length cap (u8s bs) rfl (by simp [u8s_length]) hc' (u8s_one bs) (by omega) (by omega) (by simp) ?_; intro v' w1 hown' hgrow hnil)
    go_ret
    refine ⟨v', rfl, by simpa using hown', ((Keep.refl _ w).alloc _).grown hgrow (fun k e hk => ?_), by rw [hnil]; simp⟩
    have e' : w.heap.size = k := by simpa [Value.ownBlock] using e
    omega

set_option maxHeartbeats 400000 in
/-- bits.New: a reader at bit 0 of the bytes, in memory of its own. -/
theorem new_any (v : Value) (bs : List Nat) (hlen : bs.length ≤ 140737488355327) (hbs : ∀ j : Nat, bs[j]?.getD 0 < 256) (w : World) (h : Src w v bs) :
    Calls Try.prog 42 #[v] w fun e w' => ∃ rb g, e = .returned (.pointer (some ⟨rb, 0, none⟩)) ∧ w.heap.size ≤ rb ∧ w.heap.size ≤ g ∧ IsR w' rb g bs 0 ∧ Keep noBlock w w' := by
  go_enter Try.func42, Try.ntmps42
  go_wp2_with (go_at_call 53; refine (clone_any v bs hlen _ h).mono ?_; rintro e w1 ⟨v', rfl, hown, hk, hn⟩; obtain ⟨sa, cap, rfl⟩ := owns_form hown)
  go_ret
  have hk2 : Keep noBlock w (w1.alloc (.cells #[.slice sa bs.length cap, .int .i64 0] 111)) := hk.alloc _
  have hsz := hk.size
  have hob := World.alloc_heap_new w1 (.cells #[.slice sa bs.length cap, .int .i64 0] 111)
  rcases (hown.alloc (.cells #[.slice sa bs.length cap, .int .i64 0] 111)).2 with ⟨e1, h0⟩ | ⟨g, cap', cur, e1, hb, hg, hr⟩
  · have hnil : bs = [] := List.length_eq_zero_iff.1 h0
    exact ⟨w1.heap.size, w1.heap.size, rfl, hsz, hsz, ⟨obj_lt hob, ⟨sa, cap, .inr hnil, hob⟩, fun j hj => by rw [h0] at hj; omega, by omega, hbs, Nat.zero_le _⟩, hk2⟩
  · simp only [Value.slice.injEq] at e1
    obtain ⟨rfl, _, rfl⟩ := e1
    refine ⟨w1.heap.size, g, rfl, hsz, hb, ⟨obj_lt hg, ⟨_, cap, .inl rfl, hob⟩, fun j hj => ?_, by omega, hbs, Nat.zero_le _⟩, hk2⟩
    have := (hown.alloc (.cells #[.slice (some ⟨g, 0, none⟩) bs.length cap, .int .i64 0] 111)).cells (g := g) rfl j _ (u8s_at bs j hj)
    rwa [add0] at this

end Go.Proofs.Ytoffnhbopjaocaa
