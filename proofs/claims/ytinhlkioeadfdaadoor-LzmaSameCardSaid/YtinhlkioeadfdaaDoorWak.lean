/-
  A window of a size; the statements' own example.
-/
import Derived.Test.YtinhlkioeadfdaaDoorCnk
namespace Go.Proofs.YtinhlkioeadfdaaDoor
open Go.RowKit Go.Shelf
set_option linter.unusedVariables false

theorem room_any (size : Nat) (h1 : 1 ≤ size) (h2 : size ≤ 16777216) (w : World) :
    Calls Tryd.prog 6 #[.int .i64 (size : Int)] w fun e w' => ∃ wb lb, e = .returned (.pointer (some ⟨wb, 0, none⟩)) ∧ w.heap.size ≤ wb ∧ IsW w' wb lb size (.slice none 0 0) [] ∧ Keep noBlock w w' := by
  have HL := hid (new_any 16777216 w)
  rw [show budget 16777216 = 16777216 from rfl] at HL
  go_enter Tryd.func6, Tryd.ntmps6
  go_wp2_with fail
  refine HL.out.mono ?_
  rintro e w1 ⟨rfl, l1, k1⟩
  have HN := hid (wnew_ok size w.heap.size 16777216 0 0 w1 h1 h2 l1 (by omega))
  have HK := hid k1
  clear l1 k1 HL
  go_wp2_with fail
  refine HN.out.mono ?_
  rintro e w2 ⟨wb, rfl, b1, b2, -, b3⟩
  have HF := (show Hid (w.heap.size ≤ wb ∧ IsW w2 wb w.heap.size size (.slice none 0 0) [] ∧ Keep noBlock w w2) from ⟨by have := HK.out.size; omega, b2, HK.out.trans b3 (fun i hi e => by have := HK.out.size; omega)⟩)
  clear b1 b2 b3 HN HK
  go_wp2_with fail
  go_ret
  exact ⟨wb, w.heap.size, rfl, HF.out.1, HF.out.2⟩

/-! The chapter's examples, reckoned by the kernel. -/
def even : Nat → Nat := fun _ => 1024
def ex6 : Option Out := chunkM (ckOf 0 9 1) (newS 3 0 2) even [] [0, 0, 0, 0, 0, 0]
theorem ex6_told : ex6.map (fun o => (o.told, o.win)) = some ([0], [0]) := by kernel_rfl
theorem ex5_none : (chunkM (ckOf 0 9 1) (newS 3 0 2) even [0] [0, 0, 0, 0, 0]).isNone = true := by kernel_rfl
theorem zeros_bytes (w : World) (n : Nat) (hn : n < 2 ^ 48) : Bytes (w.alloc (.cells (u8s (List.replicate n 0)).toArray 5)) (some ⟨w.heap.size, 0, none⟩) n w.heap.size 0 (List.replicate n 0) :=
  bytes_new w (List.replicate n 0) _ (0, 0) n (by simp) rfl (fun j => by rw [List.getElem?_replicate]; split <;> simp) (by simpa using hn)
/-- Six noughts tell one nought. -/
theorem six (sb wb lb : Nat) (w W : World) (hS : IsS w sb (newS 3 0 2) even) (hW : IsW w wb lb 9 (.slice none 0 0) []) (hWW : W = w.alloc (.cells (u8s (List.replicate 6 0)).toArray 5)) :
    Calls Tryd.prog 7 #[.pointer (some ⟨sb, 0, none⟩), .pointer (some ⟨wb, 0, none⟩), .int .i64 0, .slice (some ⟨w.heap.size, 0, none⟩) 6 6, .int .i64 1] W fun e w' => ∃ g off cap rv, e = .returned (.tuple #[.slice (some ⟨g, off, none⟩) 1 cap, .int .i64 0]) ∧ w'.cell? ⟨g, off, none⟩ = some (.int .u8 0) ∧ g < w'.heap.size ∧ w.heap.size ≤ g ∧ rv.ownBlock ≠ some g ∧ (∃ s c, IsS w' sb s c) ∧ IsW w' wb lb 9 rv [0] ∧ Near w (.slice none 0 0) rv ∧ Keep (fun k => k = sb ∨ k = wb) w w' := by
  subst hWW
  have ka : Keep noBlock w (w.alloc (.cells (u8s (List.replicate 6 0)).toArray 5)) := (Keep.refl noBlock w).alloc _
  have h := chunk_good sb wb lb 9 (.slice none 0 0) (newS 3 0 2) even [] 0 _ 6 w.heap.size 0 [0, 0, 0, 0, 0, 0] 1 _ (hS.keep ka (fun h => h)) (hW.keep ka (fun h => h) (fun _ _ h => h)) (zeros_bytes w 6 (by decide)) (by decide) (by decide) (by decide) (by decide) (by decide) ⟨by decide, rfl⟩
  have he := ex6_told
  unfold ex6 at he
  rw [show (([0, 0, 0, 0, 0, 0] : List Nat).length) = 6 from rfl, show (((1 : Nat) : Int)) = (1 : Int) from rfl] at h
  generalize chunkM (ckOf 0 9 1) (newS 3 0 2) even [] [0, 0, 0, 0, 0, 0] = R at *
  cases R with
  | none => cases he
  | some o =>
    simp only [Option.map_some, Option.some.injEq, Prod.mk.injEq] at he
    refine h.mono ?_
    rintro e w' ⟨a, cap, g, off, rv', rfl, q1, q2, q3, q4, q5, q6⟩
    rw [he.1] at q1 q2
    rw [he.2] at q4
    obtain ⟨q7, q8⟩ := q2 (by simp)
    rw [World.size_alloc] at q7
    have e := q1.at_.resolve_right (by simp)
    subst e
    have hc := q1.cells 0 (by simp)
    rw [Nat.add_zero] at hc
    refine ⟨g, off, cap, rv', by rw [he.1]; rfl, hc, q1.block (by simp), by omega, q8, ⟨_, _, q3⟩, q4, ?_, ?_⟩
    · rcases q5 with q | ⟨k, q, hk⟩
      · exact .inl q
      · rw [World.size_alloc] at hk
        exact .inr ⟨k, q, by omega⟩
    · refine (ka.mono (T := fun k => k = sb ∨ k = wb) (fun _ _ h => h.elim)).trans q6 ?_
      rintro i hi (e | e | e)
      · exact .inl e
      · exact .inr e
      · cases e
/-- Five noughts are no chunk. -/
theorem five (sb wb lb : Nat) (rv : Value) (w : World) (g : Nat) (hS : IsS w sb (newS 3 0 2) even) (hW : IsW w wb lb 9 rv [0]) (hB : Bytes w (some ⟨g, 0, none⟩) 5 g 0 (List.replicate 5 0)) :
    Calls Tryd.prog 7 #[.pointer (some ⟨sb, 0, none⟩), .pointer (some ⟨wb, 0, none⟩), .int .i64 0, .slice (some ⟨g, 0, none⟩) 5 5, .int .i64 1] w fun e w' => e = .returned (.tuple #[.slice none 0 0, .int .i64 11]) ∧ Keep (WS sb wb rv) w w' := by
  have h := chunk_good sb wb lb 9 rv (newS 3 0 2) even [0] 0 _ 5 g 0 [0, 0, 0, 0, 0] 1 _ hS hW hB (by decide) (by decide) (by decide) (by decide) (by decide) ⟨by decide, rfl⟩
  have he := ex5_none
  rw [show (([0, 0, 0, 0, 0] : List Nat).length) = 5 from rfl, show (((1 : Nat) : Int)) = (1 : Int) from rfl] at h
  generalize chunkM (ckOf 0 9 1) (newS 3 0 2) even [0] [0, 0, 0, 0, 0] = R at *
  cases R with
  | none => exact h
  | some o => cases he

/-- The window alone. -/
def RW (wb : Nat) (rv : Value) (k : Nat) : Prop := k = wb ∨ rv.ownBlock = some k
def z5 : Obj := .cells (u8s (List.replicate 5 0)).toArray 5
theorem five_A (wb lb : Nat) (rv : Value) (w3 w4 : World) (hW : IsW w3 wb lb 9 rv [0]) (s4 : IsS w4 w3.heap.size (newS 3 0 2) even) (k4 : Keep noBlock w3.drew w4) :
    Calls Tryd.prog 7 #[.pointer (some ⟨w3.heap.size, 0, none⟩), .pointer (some ⟨wb, 0, none⟩), .int .i64 0, .slice (some ⟨w4.heap.size, 0, none⟩) 5 5, .int .i64 1] (w4.alloc z5) fun e w5 => e = .returned (.tuple #[.slice none 0 0, .int .i64 11]) ∧ Keep (RW wb rv) w3 w5 := by
  have k3 : Keep noBlock w3 w4 := ((Keep.refl noBlock w3).drew).trans k4 (fun _ _ h => h)
  have ka : Keep noBlock w4 (w4.alloc z5) := (Keep.refl noBlock w4).alloc _
  refine (five w3.heap.size wb lb rv (w4.alloc z5) w4.heap.size (s4.keep ka (fun h => h)) ((hW.keep k3 (fun h => h) (fun _ _ h => h)).keep ka (fun h => h) (fun _ _ h => h)) (zeros_bytes w4 5 (by decide))).mono ?_
  rintro e w5 ⟨rfl, k5⟩
  refine ⟨rfl, ((k3.mono (T := RW wb rv) (fun _ _ h => h.elim)).trans ka (fun _ _ h => h.elim)).trans k5 ?_⟩
  rintro i hi (e | e | e)
  · omega
  · exact .inl e
  · exact .inr e
theorem five_B (wb lb : Nat) (rv : Value) (w3 w4 : World) (hW : IsW w3 wb lb 9 rv [0]) (s4 : IsS w4 (w3.heap.size + 1) (newS 3 0 2) even) (k4 : Keep noBlock (w3.drew.alloc z5) w4) :
    Calls Tryd.prog 7 #[.pointer (some ⟨w3.heap.size + 1, 0, none⟩), .pointer (some ⟨wb, 0, none⟩), .int .i64 0, .slice (some ⟨w3.heap.size, 0, none⟩) 5 5, .int .i64 1] w4 fun e w5 => e = .returned (.tuple #[.slice none 0 0, .int .i64 11]) ∧ Keep (RW wb rv) w3 w5 := by
  have ka : Keep noBlock w3 (w3.drew.alloc z5) := ((Keep.refl noBlock w3).drew).alloc _
  have k3 : Keep noBlock w3 w4 := ka.trans k4 (fun _ _ h => h)
  refine (five (w3.heap.size + 1) wb lb rv w4 w3.heap.size s4 (hW.keep k3 (fun h => h) (fun _ _ h => h)) ((zeros_bytes w3.drew 5 (by decide)).keep k4 (fun _ h => h))).mono ?_
  rintro e w5 ⟨rfl, k5⟩
  refine ⟨rfl, (k3.mono (T := RW wb rv) (fun _ _ h => h.elim)).trans k5 ?_⟩
  rintro i hi (e | e | e)
  · omega
  · exact .inl e
  · exact .inr e

set_option maxRecDepth 20000 in
set_option maxHeartbeats 8000000 in
theorem wakes_any (w : World) : Calls Tryd.prog 4 #[] w fun e w' => e = .returned (.bool true) ∧ Keep noBlock w w' := by
  have HN := hid new_state
  have HRo := hid (room_any 9 (by omega) (by omega))
  rw [show (((9 : Nat) : Int)) = (9 : Int) from rfl] at HRo
  have hm6 : ∀ W : World, (Instr.makeSlice 22 (.int .i64 6) (.int .i64 6)).run Tryd.prog W = .ok (.slice (some ⟨W.heap.size, 0, none⟩) 6 6) (W.alloc (.cells (u8s (List.replicate 6 0)).toArray 5)) := fun W => run_make_u8 6 6 (by omega) (by omega) W
  have hm5 : ∀ W : World, (Instr.makeSlice 22 (.int .i64 5) (.int .i64 5)).run Tryd.prog W = .ok (.slice (some ⟨W.heap.size, 0, none⟩) 5 5) (W.alloc z5) := fun W => run_make_u8 5 5 (by omega) (by omega) W
  go_enter Tryd.func4, Tryd.ntmps4
  go_wp2_with fail
  refine (HN.out _).mono ?_
  rintro e w1 ⟨rfl, s1, k1⟩
  have H1 := hid (And.intro s1 k1)
  clear s1 k1
  generalize hsb : w.heap.size = sb at *
  have HSB := hid hsb
  clear hsb
  go_wp2_with fail
  refine (HRo.out _).mono ?_
  rintro e w2 ⟨wb, lb, rfl, b1, b2, b3⟩
  have H2 := hid (And.intro b1 (And.intro b2 b3))
  clear b1 b2 b3
  go_wp2_with fail
  refine (six sb wb lb w2 _ (H1.out.1.keep H2.out.2.2 (fun h => h)) H2.out.2.1 rfl).mono ?_
  rintro e w3 ⟨g, off, cap, rv, rfl, c1, c2, c3, c4, c5, c6, c7, c8⟩
  have H3 := (show Hid ((∃ s c, IsS w3 sb s c) ∧ IsW w3 wb lb 9 rv [0] ∧ Keep noBlock w w3 ∧ w3.cell? ⟨g, off, none⟩ = some (.int .u8 0) ∧ g < w3.heap.size ∧ rv.ownBlock ≠ some g ∧ w.heap.size ≤ wb ∧ (∀ k, rv.ownBlock = some k → w.heap.size ≤ k) ∧ sb < wb ∧ g ≠ wb ∧ (∀ k, rv.ownBlock = some k → sb < k)) from by
    have hs := H1.out.2.size
    have hs2 := H2.out.2.2.size
    have hsb := HSB.out
    have h1 := H2.out.1
    have hlt := H1.out.1.block
    have hwb := H2.out.2.1.block
    have hr : ∀ k, rv.ownBlock = some k → w2.heap.size ≤ k := fun k hk => by
      rcases c7 with q | ⟨k', q, hk'⟩
      · rw [hk] at q; cases q
      · rw [hk] at q
        have : k = k' := by simpa using q
        omega
    refine ⟨c5, c6, (H1.out.2.trans H2.out.2.2 (fun _ _ h => h)).trans c8 ?_, c1, c2, c4, by omega, fun k hk => by have := hr k hk; omega, by omega, by omega, fun k hk => by have := hr k hk; omega⟩
    rintro i hi (e | e) <;> omega)
  clear c1 c2 c3 c4 c5 c6 c7 c8 H1 H2
  go_wp2_with fail
  go_region_with (first | (go_at_call 5; refine (HN.out _).mono ?_; rintro e w4 ⟨rfl, s4, k4⟩) | (go_at_call 7; first | (refine (five_A wb lb rv w3 w4 H3.out.2.1 s4 k4).mono ?_; rintro e w5 ⟨rfl, k5⟩; clear s4 k4) | (refine (five_B wb lb rv w3 w4 H3.out.2.1 (by have q := s4; simp at q; exact q) k4).mono ?_; rintro e w5 ⟨rfl, k5⟩; clear s4 k4)))
  all_goals
    have H5 := (show Hid ((∃ s c, IsS w5 sb s c) ∧ Keep noBlock w w5 ∧ w5.cell? ⟨g, off, none⟩ = some (.int .u8 0)) from by
      obtain ⟨⟨s, c, q1⟩, q2, q3, q4, q5, q6, q7, q8, q9, q10, q11⟩ := H3.out
      refine ⟨⟨s, c, q1.keep k5 ?_⟩, q3.trans k5 ?_, ?_⟩
      · rintro (e | e)
        · omega
        · have := q11 _ e; omega
      · rintro i hi (e | e)
        · omega
        · have := q8 _ e; omega
      · have hb := k5.block g q5 (by
          rintro (e | e)
          · exact q10 e
          · exact q6 e)
        rw [← q4]
        show World.cell? _ _ = World.cell? _ _
        unfold World.cell?
        dsimp only
        rw [hb])
    clear k5 H3
  all_goals
    go_wp2_with fail
    go_region_with (first | (go_at_call 5; refine (HN.out _).mono ?_; rintro e w6 ⟨rfl, s6, k6⟩) | (go_at_call 7; refine (chunk_arg _ wb 0 0 _ ⟨_, _, _, rfl⟩ (.inl (by decide)) _).mono ?_; rintro e w7 ⟨rfl, hw7⟩; have HW7 := hid hw7; clear hw7))
  all_goals
    have H7 := (show Hid ((∃ s c, IsS w7 sb s c) ∧ Keep noBlock w w7 ∧ w7.cell? ⟨g, off, none⟩ = some (.int .u8 0)) from by
      have k57 : Keep noBlock w5 w7 := by
        rw [HW7.out]
        first
          | exact ((Keep.refl noBlock w5).drew.trans k6 (fun _ _ h => h)).alloc _
          | exact ((Keep.refl noBlock w5).drew.alloc _).trans k6 (fun _ _ h => h)
          | exact ((Keep.refl noBlock w5).alloc _).drew.trans k6 (fun _ _ h => h)
      obtain ⟨⟨s, c, q1⟩, q2, q3⟩ := H5.out
      refine ⟨⟨s, c, q1.keep k57 (fun h => h)⟩, q2.trans k57 (fun _ _ h => h), ?_⟩
      have hg : g < w5.heap.size := by
        have q3' := q3
        unfold World.cell? at q3'
        dsimp only at q3'
        rcases Nat.lt_or_ge g w5.heap.size with h | h
        · exact h
        · rw [Array.getElem?_eq_none (by omega)] at q3'
          cases q3'
      have hb := k57.block g hg (fun h => h)
      rw [← q3]
      show World.cell? _ _ = World.cell? _ _
      unfold World.cell?
      dsimp only
      rw [hb])
    obtain ⟨⟨s7, c7, q7⟩, m7, y7⟩ := H7.out
    have HK7 := hid m7
    have HP := hid (props_any sb s7 c7 93 (by omega) w7 q7)
    rw [show propsE 93 = 0 from rfl, show (((93 : Nat) : Int)) = (93 : Int) from rfl, show (((0 : Nat) : Int)) = (0 : Int) from rfl] at HP
    clear H7 H5 HW7 s6 k6 m7 q7
    go_wp2_with fail
    refine HP.out.mono ?_
    rintro e w8 ⟨rfl, ⟨s8, c8, q8⟩, k8⟩
    have HK8 := (show Hid (Keep noBlock w w8) from HK7.out.trans k8 (fun i hi e => by have := HSB.out; omega))
    have HP8 := hid (props_any sb s8 c8 225 (by omega) w8 q8)
    rw [show propsE 225 = 11 from rfl, show (((225 : Nat) : Int)) = (225 : Int) from rfl, show (((11 : Nat) : Int)) = (11 : Int) from rfl] at HP8
    clear q8 k8 HP
    go_wp2_with fail
    refine HP8.out.mono ?_
    rintro e w9 ⟨rfl, ⟨s9, c9, q9⟩, k9⟩
    have HK9 := (show Hid (Keep noBlock w w9) from HK8.out.trans k9 (fun i hi e => by have := HSB.out; omega))
    have HP9 := hid (props_any sb s9 c9 13 (by omega) w9 q9)
    rw [show propsE 13 = 11 from rfl, show (((13 : Nat) : Int)) = (13 : Int) from rfl, show (((11 : Nat) : Int)) = (11 : Int) from rfl] at HP9
    clear q9 k9 HP8
    go_wp2_with fail
    refine HP9.out.mono ?_
    rintro e wa ⟨rfl, -, ka⟩
    have HKa := (show Hid (Keep noBlock w wa) from HK9.out.trans ka (fun i hi e => by have := HSB.out; omega))
    clear ka HP9
    go_wp2_with fail
    go_ret
    exact ⟨rfl, HKa.out⟩

end Go.Proofs.YtinhlkioeadfdaaDoor
