/-
  Chances: a slice that came in, a row of one's own; acts that came in.
-/
import Derived.Test.YtfhgbggcpoingaaByt
namespace Go.Proofs.Ytfhgbggcpoingaa
open Go.RowKit Go.Shelf
set_option linter.unusedVariables false

theorem info40 : (Try.prog.info? 40).map (fun i => (i.zero, i.size, i.bytes)) = some (some (.int .u16 0), 1, 2) := by kernel_rfl
def u16s (bs : List Nat) : List Value := bs.map (fun b => Value.int .u16 ((b : Nat) : Int))
theorem u16s_length (bs : List Nat) : (u16s bs).length = bs.length := by simp [u16s]
theorem u16s_one (bs : List Nat) : ∀ u ∈ u16s bs, u.oneCell' = true := by
  intro u hu
  simp only [u16s, List.mem_map] at hu
  obtain ⟨b, _, rfl⟩ := hu
  rfl
theorem u16s_at (bs : List Nat) (j : Nat) (hj : j < bs.length) : (u16s bs)[j]? = some (.int .u16 ((bs[j]?.getD 0 : Nat) : Int)) := by
  simp [u16s, hj]
/-- A slice of chances, as it lies. -/
structure Row16 (w : World) (a : Option Addr) (cap gb off : Nat) (bs : List Nat) : Prop where
  at_ : a = some ⟨gb, off, none⟩ ∨ bs = []
  nil : a = none → cap = 0
  cells : ∀ j, j < bs.length → w.cell? ⟨gb, off + j, none⟩ = some (.int .u16 ((bs[j]?.getD 0 : Nat) : Int))
  lt : ∀ j : Nat, bs[j]?.getD 0 < 65536
  cap : bs.length ≤ cap
  len : bs.length < 2 ^ 48
theorem Row16.block {w : World} {a : Option Addr} {cap gb off : Nat} {bs : List Nat} (h : Row16 w a cap gb off bs) (hb : bs ≠ []) : gb < w.heap.size :=
  World.block_lt_of_cell? w ⟨gb, off + 0, none⟩ (h.cells 0 (List.length_pos_iff.2 hb))
theorem Row16.keep {w w' : World} {S : Nat → Prop} {a : Option Addr} {cap gb off : Nat} {bs : List Nat} (h : Row16 w a cap gb off bs) (hk : Keep S w w') (hS : bs ≠ [] → ¬ S gb) : Row16 w' a cap gb off bs :=
  ⟨h.at_, h.nil, fun j hj => by
    have hne : bs ≠ [] := by rintro rfl; simp at hj
    exact (World.cell?_of_block (hk.block gb (h.block hne) (hS hne))).trans (h.cells j hj), h.lt, h.cap, h.len⟩
/-- A row of chances of one's own. -/
structure Chs (w : World) (g : Nat) (L : List Nat) : Prop where
  obj : ∃ cs, w.heap[g]? = some (.cells cs 40 (0, 0)) ∧ ∀ i, i < L.length → cs[i]? = some (.int .u16 ((L[i]?.getD 0 : Nat) : Int))
  lt : ∀ j : Nat, L[j]?.getD 0 < 65536
theorem Chs.keep {w w' : World} {S : Nat → Prop} {g : Nat} {L : List Nat} (h : Chs w g L) (hk : Keep S w w') (hS : ¬ S g) : Chs w' g L := by
  obtain ⟨cs, h1, h2⟩ := h.obj
  exact ⟨⟨cs, hk.obj h1 hS, h2⟩, h.lt⟩
theorem Chs.set {w : World} {g i c : Nat} {L : List Nat} {cs : Array Value} (h1 : w.heap[g]? = some (.cells (cs.setIfInBounds i (.int .u16 (c : Int))) 40 (0, 0))) (h2 : ∀ i, i < L.length → cs[i]? = some (.int .u16 ((L[i]?.getD 0 : Nat) : Int))) (hlt : ∀ j : Nat, L[j]?.getD 0 < 65536) (hc : c < 65536) : Chs w g (L.set i c) := by
  refine ⟨⟨_, h1, fun j hj => ?_⟩, fun j => ?_⟩
  · rw [List.length_set] at hj
    have hj2 := h2 j hj
    have hsz : j < cs.size := (Array.getElem?_eq_some_iff.1 hj2).1
    rw [Array.getElem?_setIfInBounds, List.getElem?_set]
    split
    · rename_i e
      subst e
      rw [if_pos hsz, if_pos hj]
      simp
    · exact hj2
  · rw [List.getElem?_set]
    split
    · split
      · simpa using hc
      · simp
    · exact hlt j
/-- What append reads. -/
def Src16 (w : World) (v : Value) (bs : List Nat) : Prop := (v = .slice none 0 0 ∧ bs = []) ∨ ∃ a cap, v = .slice (some a) bs.length cap ∧ ∀ j u, (u16s bs)[j]? = some u → w.cell? (a.add j) = some u
theorem Row16.src {w : World} {a : Option Addr} {cap gb off : Nat} {bs : List Nat} (h : Row16 w a cap gb off bs) : Src16 w (.slice a bs.length cap) bs := by
  cases a with
  | none =>
    have h1 := h.nil rfl
    have h2 := h.cap
    have : bs = [] := List.length_eq_zero_iff.1 (by omega)
    subst this
    exact .inl ⟨by rw [h1]; rfl, rfl⟩
  | some ad =>
    refine .inr ⟨ad, cap, rfl, fun j u hu => ?_⟩
    have hj : j < bs.length := by rw [← u16s_length]; exact (List.getElem?_eq_some_iff.1 hu).1
    rcases h.at_ with e | e
    · cases e
      rw [addO, h.cells j hj, ← u16s_at bs j hj, hu]
    · subst e; simp at hj
/-- append of chances onto a row of one's own. -/
theorem run_append16 (w : World) (ty : TypeId) (v : Value) (base : Nat) (M bs : List Nat) (hown : w.ownsRow base 40 1 v M.length (u16s M)) (hb : base ≤ w.heap.size) (hlen : M.length + bs.length ≤ 1000000) (sv : Value) (h : Src16 w sv bs) :
    ∃ v' w', (Builtin.append_ #[23, 23] ty #[v, sv]).run Try.prog w = .ok v' w' ∧ w'.ownsRow base 40 1 v' (M ++ bs).length (u16s (M ++ bs)) ∧ Keep (fun k => v.ownBlock = some k) w w' := by
  obtain ⟨i0, hi, hz0, hz1, hz2⟩ := info_parts info40
  have happ : u16s (M ++ bs) = u16s M ++ u16s bs := by simp [u16s]
  rcases h with ⟨rfl, rfl⟩ | ⟨a, c, rfl, hc⟩
  · refine ⟨v, w, ?_, by simpa using hown, Keep.refl _ _⟩
    rcases hown.2 with ⟨rfl, h0⟩ | ⟨g, cap, cur, rfl, _, hg, hr1, hr2, _⟩
    · simp [Builtin.append_, run_underlying Try.underlying23, sizeOf, typeInfo, hi, Builtin.lenOf, go_sem]
    · have hcap : M.length ≤ cap := by omega
      simp [Builtin.append_, run_underlying Try.underlying23, sizeOf, typeInfo, hi, Builtin.lenOf, go_sem, hcap]
  · obtain ⟨v', w', hr, h2, h3, h4, h5⟩ := run_append_own_at (P := Try.prog) w base 23 ty 40 i0 (.int .u16 0) 1 2 Try.underlying23 hi hz0 hz1 hz2 rfl (by decide) v M.length (u16s M) hown a bs.length c (u16s bs) (by simp [u16s_length]) hc (u16s_one bs) (by unfold maxLen; omega) (by omega) hb
    exact ⟨v', w', hr, by rw [List.length_append, happ]; exact h2, (Keep.refl _ w).grown h3 (fun k e _ => e)⟩
theorem owns16_kept {w w' : World} {S : Nat → Prop} {base : Nat} {v : Value} {n : Nat} {xs : List Value} (h : w.ownsRow base 40 1 v n xs) (hk : Keep S w w') (hS : ∀ g, v.ownBlock = some g → ¬ S g) : w'.ownsRow base 40 1 v n xs := by
  refine ⟨h.1, ?_⟩
  rcases h.2 with ⟨e, h0⟩ | ⟨g, cap, cur, rfl, hb, hg, hr⟩
  · exact .inl ⟨e, h0⟩
  · exact .inr ⟨g, cap, cur, rfl, hb, hk.obj hg (hS g rfl), hr⟩
theorem owns16_ge {w : World} {base n : Nat} {v : Value} {xs : List Value} (h : w.ownsRow base 40 1 v n xs) (g : Nat) (hg : v.ownBlock = some g) : base ≤ g := by
  rcases h.2 with ⟨rfl, _⟩ | ⟨g', cap, cur, rfl, hb, hr⟩
  · cases hg
  · have : g' = g := by simpa [Value.ownBlock] using hg
    omega
theorem owns16_chs {w : World} {base : Nat} {v : Value} {L : List Nat} (h : w.ownsRow base 40 1 v L.length (u16s L)) (hL : 0 < L.length) (hlt : ∀ j : Nat, L[j]?.getD 0 < 65536) : ∃ g c, v = .slice (some ⟨g, 0, none⟩) L.length c ∧ base ≤ g ∧ L.length ≤ c ∧ Chs w g L := by
  rcases h.2 with ⟨_, h0⟩ | ⟨g, cap, cur, rfl, hb, hg, h1, h2, h3, h4⟩
  · omega
  · rw [Nat.mul_one] at h3 h4
    refine ⟨g, cap, rfl, hb, h1, ⟨⟨cur, hg, fun i hi => ?_⟩, hlt⟩⟩
    have h5 := u16s_at L i hi
    rw [← h4, List.getElem?_take, if_pos hi] at h5
    simpa using h5

/-- An act. -/
structure ActD where
  at_ : Int
  n : Nat
  many : Int
def actD0 : ActD := ⟨0, 0, 0⟩
/-- Acts, as they lie. -/
structure Acts (w : World) (a : Option Addr) (cap gb off : Nat) (ts : List ActD) : Prop where
  at_ : a = some ⟨gb, off, none⟩ ∨ ts = []
  cells : ∀ j, j < ts.length → w.cell? ⟨gb, off + j * 3, none⟩ = some (.int .i64 (ts[j]?.getD actD0).at_) ∧ w.cell? ⟨gb, off + j * 3 + 1, none⟩ = some (.int .u32 ((ts[j]?.getD actD0).n : Int)) ∧ w.cell? ⟨gb, off + j * 3 + 2, none⟩ = some (.int .i64 (ts[j]?.getD actD0).many)
  lt : ∀ j, j < ts.length → (ts[j]?.getD actD0).n < 4294967296
  cap : ts.length ≤ cap
theorem Acts.block {w : World} {a : Option Addr} {cap gb off : Nat} {ts : List ActD} (h : Acts w a cap gb off ts) (hb : ts ≠ []) : gb < w.heap.size :=
  World.block_lt_of_cell? w ⟨gb, off + 0 * 3, none⟩ (h.cells 0 (List.length_pos_iff.2 hb)).1
theorem Acts.keep {w w' : World} {a : Option Addr} {cap gb off : Nat} {ts : List ActD} (h : Acts w a cap gb off ts) (hk : Keep noBlock w w') : Acts w' a cap gb off ts :=
  ⟨h.at_, fun j hj => by
    have hne : ts ≠ [] := by rintro rfl; simp at hj
    have hb := hk.block gb (h.block hne) (fun h => h)
    obtain ⟨h1, h2, h3⟩ := h.cells j hj
    exact ⟨(World.cell?_of_block hb).trans h1, (World.cell?_of_block hb).trans h2, (World.cell?_of_block hb).trans h3⟩, h.lt, h.cap⟩

section
set_option maxHeartbeats 1000000 in
/-- The chances to begin with. -/
theorem chances_any (a : Option Addr) (cap gb off : Nat) (bs : List Nat) (w : World) (hR : Row16 w a cap gb off bs) (hl : bs.length ≤ 200) :
    Calls Try.prog 11 #[.slice a bs.length cap] w fun e w' => ∃ g c, e = .returned (.slice (some ⟨g, 0, none⟩) (bs ++ [1024]).length c) ∧ w.heap.size ≤ g ∧ (bs ++ [1024]).length ≤ c ∧ Chs w' g (bs ++ [1024]) ∧ Keep noBlock w w' := by
  have hown := World.ownsRow_made (e := 40) (size := 1) (base := w.heap.size) w #[] 0 (Nat.le_refl _) (Nat.zero_le _) rfl
  have ka := (Keep.refl noBlock w).alloc (.cells #[] 40)
  have hsz : w.heap.size ≤ (w.alloc (.cells #[] 40)).heap.size := ka.size
  have hR1 := hR.keep ka (fun _ h => h)
  obtain ⟨v1, w1, hr1, ho1, hk1⟩ := run_append16 (w.alloc (.cells #[] 40)) 23 (.slice (some ⟨w.heap.size, 0, none⟩) 0 0) w.heap.size [] bs hown hsz (by simp; omega) _ hR1.src
  rw [List.nil_append] at ho1
  have k1 : Keep noBlock w w1 := ka.trans hk1 (fun i hi e => by
    have : w.heap.size = i := by simpa [Value.ownBlock] using e
    omega)
  have kb := (Keep.refl noBlock w1).alloc (.cells #[.int .u16 1024] 40)
  have ho1' := owns16_kept ho1 kb (fun _ _ h => h)
  have hs2 : Src16 (w1.alloc (.cells #[.int .u16 1024] 40)) (.slice (some ⟨w1.heap.size, 0, none⟩) 1 1) [1024] := .inr ⟨_, 1, rfl, fun j u hu => by
    have hj : j < 1 := by have := (List.getElem?_eq_some_iff.1 hu).1; rwa [u16s_length] at this
    obtain rfl : j = 0 := by omega
    rw [← hu, addO]
    exact cell_of (alloc_new w1 _) 0⟩
  obtain ⟨v2, w2, hr2, ho2, hk2⟩ := run_append16 (w1.alloc (.cells #[.int .u16 1024] 40)) 23 v1 w.heap.size bs [1024] ho1' (by have := k1.size; have := kb.size; omega) (by simp; omega) _ hs2
  have k2 : Keep noBlock w w2 := ((k1.alloc _).trans hk2 (fun i hi e => by
    have := owns16_ge ho1 i e
    omega))
  obtain ⟨g, c, rfl, hg, hc, hC⟩ := owns16_chs ho2 (by simp) (fun j => by
    rw [List.getElem?_append]
    split
    · exact hR.lt j
    · by_cases e : j - bs.length = 0
      · rw [e]; simp
      · rw [List.getElem?_eq_none (by simp; omega)]; simp)
  have HF := (show Hid (w.heap.size ≤ g ∧ (bs ++ [1024]).length ≤ c ∧ Chs w2 g (bs ++ [1024]) ∧ Keep noBlock w w2) from ⟨hg, hc, hC, k2⟩)
  obtain ⟨va, vc, rfl⟩ := owns_form ho1
  clear hown ka hsz hR1 ho1 hk1 k1 kb ho1' hs2 ho2 hk2 k2 hg hc hC hR
  generalize (bs ++ [1024]).length = nn at *
  generalize bs.length = n at *
  go_enter Try.func11, Try.ntmps11
  go_wp2_with (first | (at_builtin; refine wpList_append_run _ rfl _ _ 23 rfl _ _ _ _ rfl rfl hr1 ?_) | (at_builtin; refine wpList_append_run _ rfl _ _ 23 rfl _ _ _ _ rfl rfl hr2 ?_))
  go_ret
  exact ⟨g, c, rfl, HF.out⟩
end

end Go.Proofs.Ytfhgbggcpoingaa
