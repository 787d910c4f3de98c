/-
  Room in a window's ring; bytes that fill it.
-/
import Derived.Test.YtinhlkioeadfdaaDoorWin
import Derived.BigRegion
namespace Go.Proofs.YtinhlkioeadfdaaDoor
open Go.RowKit Go.Shelf
set_option linter.unusedVariables false

/-- The ring's block: the old one, or one that is new since w. -/
def Near (w : World) (v v' : Value) : Prop := v'.ownBlock = v.ownBlock ∨ ∃ k, v'.ownBlock = some k ∧ w.heap.size ≤ k
theorem Near.refl (w : World) (v : Value) : Near w v v := .inl rfl
theorem Near.trans {w w1 : World} {v v1 v2 : Value} (h1 : Near w v v1) (h2 : Near w1 v1 v2) (hs : w.heap.size ≤ w1.heap.size) : Near w v v2 := by
  rcases h2 with e | ⟨k, e, hk⟩
  · rcases h1 with e1 | ⟨k, e1, hk⟩
    · exact .inl (e.trans e1)
    · exact .inr ⟨k, e.trans e1, hk⟩
  · exact .inr ⟨k, e, by omega⟩

section
attribute [local go_sem] maxSem6_eq minSem6_eq
set_option maxHeartbeats 2000000 in
theorem grow_any (wb lb s o : Nat) (rv : Value) (R : List Nat) (n : Nat) (w : World) (h : IsR w wb lb s rv R o) (h1 : R.length ≤ n) (h2 : n ≤ s) :
    Calls Tryd.prog 77 #[.pointer (some ⟨wb, 0, none⟩), .int .i64 (n : Int)] w fun e w' => e = .returned (.tuple #[]) ∧ ∃ rv', IsR w' wb lb s rv' R o ∧ Near w rv rv' ∧ Keep (fun k => k = wb) w w' := by
  obtain ⟨a, cap, g, rfl, hB, hrow⟩ := h.form
  have c0 : w.cell? ⟨wb, 0, none⟩ = some (.int .i64 (s : Int)) := cell_of h.obj 0
  have c2 : w.cell? ⟨wb, 2, none⟩ = some (.slice a R.length cap) := cell_of h.obj 2
  by_cases hn : n ≤ cap
  · have hI : (n : Int) ≤ (cap : Int) := by omega
    go_enter Tryd.func77, Tryd.ntmps77
    go_wp2_with fail
    (try simp only [Exit.inBlock, Exit.then]); refine bodyPost_ret (results_none rfl _ _ _) rfl ?_
    exact ⟨rfl, _, h, Near.refl _ _, Keep.refl _ _⟩
  · have hI : ¬ (n : Int) ≤ (cap : Int) := by omega
    have hs2 := h.s2
    have hle := h.le
    obtain ⟨C2, hC2⟩ : ∃ C2 : Nat, C2 = 2 * cap := ⟨_, rfl⟩
    have hwr : IntKind.i64.wrap (2 * (cap : Int)) = (C2 : Int) := by rw [IntKind.wrap_i64]; omega
    obtain ⟨X, hX⟩ : ∃ X : Nat, X = max n C2 := ⟨_, rfl⟩
    obtain ⟨c, hc⟩ : ∃ c : Nat, c = min X s := ⟨_, rfl⟩
    have hlc : R.length ≤ c := by omega
    have hcs : c ≤ 16777216 := by omega
    have hmax := maxSem6_run #[3, 3] 3 (n : Int) (C2 : Int) (X : Int) (by omega)
    have hmin := minSem6_run #[3, 3] 3 (X : Int) (s : Int) (c : Int) (by omega)
    have hmk := run_make_u8 R.length c hlc (by omega)
    have hne : wb < w.heap.size := obj_lt h.obj
    have hcap2 : 2 * (cap : Int) < 9223372036854775808 := by omega
    have HH := (show Hid (IsR w wb lb s (.slice a R.length cap) R o ∧ Bytes w a cap g 0 R) from ⟨h, hB⟩)
    clear hB hrow h hX hc hC2 hcap2
    go_enter Tryd.func77, Tryd.ntmps77
    go_wp2_with fail
    go_region_held3 (fun w' => w'.cell? ⟨wb, 0, none⟩ = some (.int .i64 (s : Int)) ∧ w'.cell? ⟨wb, 2, none⟩ = some (.slice a R.length cap)) (go_keep) ((fail))
    obtain ⟨W1, hW1⟩ : ∃ W1, W1 = (w.alloc (.cells (u8s (List.replicate c 0)).toArray 5)).drew := ⟨_, rfl⟩
    rw [← hW1]
    have k1 : Keep noBlock w W1 := by rw [hW1]; exact ((Keep.refl noBlock w).alloc _).drew
    have r1 : W1.heap[w.heap.size]? = some (.cells (u8s (List.replicate c 0)).toArray 5 (0, 0)) := by rw [hW1]; exact alloc_new w _
    clear hW1 hmk
    have hcopy := run_copy_any W1 3 w.heap.size 0 R.length c (some ⟨w.heap.size, 0, none⟩) (.slice a R.length cap) R (u8s (List.replicate c 0)).toArray R.length (HH.out.2.keep k1 (fun _ h => h)).src (by omega) (.inl rfl) r1 (by simp [u8s]; omega)
    have k2 := keep_setRow k1 w.heap.size (fun h => absurd h (Nat.lt_irrefl _)) ((u8s (List.replicate c 0)).toArray.toList.take 0 ++ u8s (R.take R.length) ++ (u8s (List.replicate c 0)).toArray.toList.drop (0 + R.length)).toArray
    have r2 := setRow_heap W1 w.heap.size (u8s (List.replicate c 0)).toArray ((u8s (List.replicate c 0)).toArray.toList.take 0 ++ u8s (R.take R.length) ++ (u8s (List.replicate c 0)).toArray.toList.drop (0 + R.length)).toArray 5 (0, 0) r1
    have er : ((u8s (List.replicate c 0)).toArray.toList.take 0 ++ u8s (R.take R.length) ++ (u8s (List.replicate c 0)).toArray.toList.drop (0 + R.length)).toArray = (u8s (R ++ List.replicate (c - R.length) 0)).toArray := by simp [u8s]
    rw [er] at hcopy k2 r2
    clear er
    generalize W1.setRow w.heap.size (u8s (R ++ List.replicate (c - R.length) 0)).toArray = W2 at hcopy k2 r2
    have o2 := k2.obj HH.out.1.obj (fun h => h)
    have g2 : W1.cell? ⟨wb, 2, none⟩ = some (.slice a R.length cap) := cell_of (k1.obj HH.out.1.obj (fun h => h)) 2
    have d2 : W2.cell? ⟨wb, 2, none⟩ = some (.slice a R.length cap) := cell_of o2 2
    have f2 := frozen_of o2 2
    have HF := (show Hid (Keep noBlock w W2 ∧ W2.heap[w.heap.size]? = some (.cells (u8s (R ++ List.replicate (c - R.length) 0)).toArray 5 (0, 0)) ∧ W2.heap[wb]? = some (.cells #[.int .i64 (s : Int), .pointer (some ⟨lb, 0, none⟩), .slice a R.length cap, .int .i64 (o : Int)] 75 (0, 0))) from ⟨k2, r2, o2⟩)
    clear k1 r1 k2 r2 o2 c0 c2
    go_wp2_with fail
    go_end0
    obtain ⟨k2, r2, o2⟩ := HF.out
    have h := HH.out.1
    refine ⟨rfl, .slice (some ⟨w.heap.size, 0, none⟩) R.length c, ⟨(set_obj o2 2 _).trans (by simp), ?_, h.lt, h.s1, h.s2, h.le, h.o_, h.rd⟩, .inr ⟨_, rfl, Nat.le_refl _⟩, (k2.mono (T := fun k => k = wb) (fun _ _ h => h.elim)).setCell (p := ⟨wb, 2, none⟩) (fun _ => rfl) _⟩
    exact owns_mk (set_far r2 (by omega) 2 _) hlc (by unfold maxLen; omega) (by simp [u8s]; omega) (by simp [u8s])
end
end Go.Proofs.YtinhlkioeadfdaaDoor
