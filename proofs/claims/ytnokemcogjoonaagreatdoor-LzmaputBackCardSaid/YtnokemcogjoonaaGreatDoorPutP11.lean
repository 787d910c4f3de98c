/-
  A copy by a kept distance is written: which of them, its length; the distance is the newest then.
  An operation is written: a byte, a match, a repeat; the state's number, and the place.
-/
import Derived.Test.YtnokemcogjoonaaGreatDoorPutP10
namespace Go.Proofs.YtnokemcogjoonaaGreatDoor.Pt
open Go.RowKit Go.Shelf
set_option linter.unusedVariables false

theorem bitA_room {x : Ex} {L M : List Act} (h : Room x (L ++ M)) : Room x L ∧ Room (runA L x) M := ⟨h.left, h.right⟩
set_option maxRecDepth 20000 in
set_option maxHeartbeats 4000000 in
theorem putRepeat_0 (G : Wg) (s : Se) (x : Ex) (v : Value) (i p : Nat) (o : Opn) (w : World) (h : Wt G w s x v i) (hp : p < 16) (h2 : 2 ≤ o.len) (h3 : o.len ≤ 273) (hwh : o.which = 0) (hr : Room x ([bitA (404 + s.ph) 0] ++ ([bitA (200 + s.ph * 16 + p) 1] ++ lenA 13242 p o.len))) :
    Calls Tryz.prog 74 #[.pointer (some ⟨G.wb, 0, none⟩), opV o, .int .i64 (p : Int)] w fun e w' => e = .returned (.tuple #[]) ∧ ∃ v', Wrote w w' G.sb G.eb (takeR s 0) (runA ([bitA (404 + s.ph) 0] ++ ([bitA (200 + s.ph * 16 + p) 1] ++ lenA 13242 p o.len)) x) v v' := by
  unfold opV
  obtain ⟨hA, hG⟩ := h.box o
  rw [hwh, show (((0 : Nat)) : Int) = (0 : Int) from rfl] at hA hG ⊢
  generalize hob : w.heap.size = ob at *
  have HOB := hid hob
  clear hob
  obtain ⟨W0, hW0⟩ : ∃ W0, W0 = w.alloc (.cells #[.int .u8 (o.kind : Int), .int .i64 (o.len : Int), .int .u32 (o.far : Int), .int .i64 0] 152) := ⟨_, rfl⟩
  rw [← hW0] at hA hG
  obtain ⟨c0, -⟩ := hA.wt.cells
  obtain ⟨-, -, -, f3, -⟩ := hA.wt.pe.st.first
  have hph := hA.wt.pe.st.ok.ph
  obtain ⟨q, hq⟩ : ∃ q, q = s.ph := ⟨_, rfl⟩
  rw [← hq] at f3 hph hr ⊢
  have HQ := hid hq
  have hphI : (q : Int) < 12 := by omega
  have hphJ : (q : Int) < 256 := by omega
  have hwq : IntKind.i64.wrap (q : Int) = (q : Int) := wraps_i64 _ (by omega) (by omega)
  clear hq
  have HA := hid hA
  have HG := hid hG
  clear h hA hG
  have HX1 := hid (fun W (HP : Pe W G.sb G.eb s x v) => bit_any G.sb G.eb 404 12 12 q 0 s x v W HP hr.left.one (by omega) (by omega) (by omega) (by decide))
  unfold Writes at HX1
  rw [show (((0 : Nat)) : Int) = (0 : Int) from rfl] at HX1
  rw [runA_app]
  have HR := hid hr.right
  clear hr
  generalize runA [bitA (404 + q) 0] x = x1 at *
  go_enter Tryz.func74, Tryz.ntmps74
  go_wp2_with fail
  rw [HOB.out, ← hW0]
  clear hW0
  go_quiet (fail)
  go_wp2_with fail
  have hB := HA.out.kept (keep_drewN W0 nq)
  have hG := HG.out.keep (keep_drewN W0 nq)
  generalize W0.drewN nq = W1 at *
  clear HA HG c0 f3
  obtain ⟨d0, d1, -⟩ := hB.wt.cells
  have HB := hid hB
  have HG := hid hG
  clear hB hG
  go_quiet (fail)
  have hB := HB.out.kept (keep_drewN W1 nq)
  have hG := HG.out.keep (keep_drewN W1 nq)
  generalize W1.drewN nq = W2 at *
  clear HB HG d0 d1
  obtain ⟨d0, d1, -⟩ := hB.wt.cells
  obtain ⟨-, d2, -, d3⟩ := hB.cells
  rw [hwh, show (((0 : Nat)) : Int) = (0 : Int) from rfl] at d3
  have HX1 := hid (HX1.out W2 hB.wt.pe)
  have HB := hid hB
  have HG := hid hG
  clear hB hG
  go_wp2_with fail
  refine HX1.out.mono ?_
  rintro e w3 ⟨rfl, v3, hw3⟩
  have hB := HB.out.turn hw3
  have hG := HG.out.trans hw3
  clear hw3 HX1 HB HG d0 d1 d2 d3
  obtain ⟨V3, hV3⟩ : ∃ V, V = w3.drew := ⟨_, rfl⟩
  have hB := hB.kept ((Keep.refl noBlock w3).drew)
  have hG := hG.drew
  rw [← hV3] at hB hG
  obtain ⟨c0, c1, -⟩ := hB.wt.cells
  obtain ⟨o0, o1, o2, o3⟩ := hB.cells
  rw [hwh, show (((0 : Nat)) : Int) = (0 : Int) from rfl] at o3
  have HX := hid (bit_any G.sb G.eb (200 + q * 16) 16 16 p 1 s x1 v3 V3 hB.wt.pe HR.out.left.one (by omega) (by omega) (by omega) (by decide))
  unfold Writes at HX
  rw [show (((1 : Nat)) : Int) = (1 : Int) from rfl] at HX
  have HR3 := hid HR.out.right
  have HB := hid hB
  have HG := hid hG
  clear hB hG HR
  have HE3 := hid (runA_app [bitA (200 + q * 16 + p) 1] (lenA 13242 p o.len) x1)
  generalize runA [bitA (200 + q * 16 + p) 1] x1 = x2 at *
  have HR := HR3
  clear HR3
  go_wp2_with fail
  refine region_tail 11 mx (by kernel_rfl) ?_
  rw [← hV3]
  clear hV3
  simp only [List.take_succ_cons, List.take_zero, List.drop_succ_cons, List.drop_zero]
  repeat (quiet_step (fail))
  refine wpQuiet_nil ?_
  go_wp2_with fail
  refine HX.out.mono ?_
  rintro e w4 ⟨rfl, v4, hw⟩
  have hB := HB.out.turn hw
  have hG := HG.out.trans hw
  clear hw HX HB HG c0 c1 o0 o1 o2 o3
  obtain ⟨VL, hVL⟩ : ∃ V, V = w4.drew := ⟨_, rfl⟩
  have hB := hB.kept ((Keep.refl noBlock w4).drew)
  have hG := hG.drew
  rw [← hVL] at hB hG
  obtain ⟨c0, c1, -⟩ := hB.wt.cells
  obtain ⟨o0, o1, o2, o3⟩ := hB.cells
  have HX := hid (length_any G.sb G.eb 13242 p o.len s x2 v4 VL hB.wt.pe HR.out (by omega) (by omega) hp h2 h3)
  unfold Writes at HX
  have HB := hid hB
  have HG := hid hG
  clear hB hG HR
  generalize hxl : runA (lenA 13242 p o.len) x2 = xl at *
  have HXL := hid hxl
  clear hxl
  go_wp2_with fail
  refine region_tail 10 mx (by kernel_rfl) ?_
  rw [← hVL]
  clear hVL
  simp only [List.take_succ_cons, List.take_zero, List.drop_succ_cons, List.drop_zero]
  repeat (quiet_step (fail))
  refine wpQuiet_nil ?_
  go_wp2_with fail
  refine HX.out.mono ?_
  rintro e wl ⟨rfl, vl, hw⟩
  have hB := HB.out.turn hw
  have hG := HG.out.trans hw
  clear hw HX HB HG c0 c1 o0 o1 o2 o3
  obtain ⟨VA, hVA⟩ : ∃ V, V = wl.drew := ⟨_, rfl⟩
  have hB := hB.kept ((Keep.refl noBlock wl).drew)
  have hG := hG.drew
  rw [← hVA] at hB hG
  obtain ⟨a0, -⟩ := hB.wt.cells
  obtain ⟨-, -, -, a3⟩ := hB.cells
  rw [hwh, show (((0 : Nat)) : Int) = (0 : Int) from rfl] at a3
  have a4 := hB.wt.pe.st.first.2.2.2.2.1
  have hrk : s.r0 < 4294967296 := hB.wt.pe.st.ok.r0
  obtain ⟨VB, hVB⟩ : ∃ V, V = VA.drew := ⟨_, rfl⟩
  have hB := hB.kept ((Keep.refl noBlock VA).drew)
  have hG := hG.drew
  rw [← hVB] at hB hG
  obtain ⟨b0, -⟩ := hB.wt.cells
  obtain ⟨-, -, -, b3⟩ := hB.cells
  rw [hwh, show (((0 : Nat)) : Int) = (0 : Int) from rfl] at b3
  obtain ⟨VC, u1, u2⟩ := hB.wt.pe.shift 0 3 (by omega)
  rw [show (((0 : Nat) : Int)) = (0 : Int) from rfl] at u1
  have hB := hB.turn u2
  have hG := hG.trans u2
  obtain ⟨e0, -⟩ := hB.wt.cells
  have e4 := hB.wt.pe.st.first.2.2.2.2.1
  have ef := hB.wt.pe.st.first.2.2.2.2.2.2.2.2 4
  have HF := (show Hid (Wrote w (VC.setCell ⟨G.sb, 4, none⟩ (.int .u32 (s.r0 : Int))) G.sb G.eb (takeR s 0) xl v vl) from hG.trans (hB.wt.pe.r0 s.r0 hrk))
  clear hB hG u2 hrk
  have hw1 : IntKind.i64.wrap 1 = 1 := wraps_i64 _ (by omega) (by omega)
  have hw2 : IntKind.i64.wrap 2 = 2 := wraps_i64 _ (by omega) (by omega)
  have hw3 : IntKind.i64.wrap 3 = 3 := wraps_i64 _ (by omega) (by omega)
  have hw4 : IntKind.i64.wrap 4 = 4 := wraps_i64 _ (by omega) (by omega)
  go_wp2_with fail
  refine region_tail 10 mx (by kernel_rfl) ?_
  rw [← hVA]
  clear hVA
  simp only [List.take_succ_cons, List.take_zero, List.drop_succ_cons, List.drop_zero]
  repeat (quiet_step (fail))
  refine wpQuiet_nil ?_
  go_wp2_with fail
  refine region_tail 17 mx (by kernel_rfl) ?_
  rw [← hVB]
  clear hVB
  simp only [List.take_succ_cons, List.take_zero, List.drop_succ_cons, List.drop_zero]
  repeat (quiet_step (fail))
  refine wpQuiet_nil ?_
  refine wpList_copy_run _ rfl _ _ 206 rfl _ _ _ _ rfl rfl u1 ?_
  go_wp2_with fail
  go_end0
  refine ⟨rfl, vl, ?_⟩
  show Wrote w _ G.sb G.eb _ (runA ([bitA (200 + q * 16 + p) 1] ++ (lenA 13242 p o.len)) x1) v vl
  rw [HE3.out]
  exact HF.out

set_option maxRecDepth 20000 in
set_option maxHeartbeats 4000000 in
theorem putRepeat_1 (G : Wg) (s : Se) (x : Ex) (v : Value) (i p : Nat) (o : Opn) (w : World) (h : Wt G w s x v i) (hp : p < 16) (h2 : 2 ≤ o.len) (h3 : o.len ≤ 273) (hwh : o.which = 1) (hr : Room x ([bitA (404 + s.ph) 1] ++ ([bitA (416 + s.ph) 0] ++ lenA 13242 p o.len))) :
    Calls Tryz.prog 74 #[.pointer (some ⟨G.wb, 0, none⟩), opV o, .int .i64 (p : Int)] w fun e w' => e = .returned (.tuple #[]) ∧ ∃ v', Wrote w w' G.sb G.eb (takeR s 1) (runA ([bitA (404 + s.ph) 1] ++ ([bitA (416 + s.ph) 0] ++ lenA 13242 p o.len)) x) v v' := by
  unfold opV
  obtain ⟨hA, hG⟩ := h.box o
  rw [hwh, show (((1 : Nat)) : Int) = (1 : Int) from rfl] at hA hG ⊢
  generalize hob : w.heap.size = ob at *
  have HOB := hid hob
  clear hob
  obtain ⟨W0, hW0⟩ : ∃ W0, W0 = w.alloc (.cells #[.int .u8 (o.kind : Int), .int .i64 (o.len : Int), .int .u32 (o.far : Int), .int .i64 1] 152) := ⟨_, rfl⟩
  rw [← hW0] at hA hG
  obtain ⟨c0, -⟩ := hA.wt.cells
  obtain ⟨-, -, -, f3, -⟩ := hA.wt.pe.st.first
  have hph := hA.wt.pe.st.ok.ph
  obtain ⟨q, hq⟩ : ∃ q, q = s.ph := ⟨_, rfl⟩
  rw [← hq] at f3 hph hr ⊢
  have HQ := hid hq
  have hphI : (q : Int) < 12 := by omega
  have hphJ : (q : Int) < 256 := by omega
  have hwq : IntKind.i64.wrap (q : Int) = (q : Int) := wraps_i64 _ (by omega) (by omega)
  clear hq
  have HA := hid hA
  have HG := hid hG
  clear h hA hG
  have HX1 := hid (fun W (HP : Pe W G.sb G.eb s x v) => bit_any G.sb G.eb 404 12 12 q 1 s x v W HP hr.left.one (by omega) (by omega) (by omega) (by decide))
  unfold Writes at HX1
  rw [show (((1 : Nat)) : Int) = (1 : Int) from rfl] at HX1
  rw [runA_app]
  have HR := hid hr.right
  clear hr
  generalize runA [bitA (404 + q) 1] x = x1 at *
  go_enter Tryz.func74, Tryz.ntmps74
  go_wp2_with fail
  rw [HOB.out, ← hW0]
  clear hW0
  go_quiet (fail)
  go_wp2_with fail
  have hB := HA.out.kept (keep_drewN W0 nq)
  have hG := HG.out.keep (keep_drewN W0 nq)
  generalize W0.drewN nq = W1 at *
  clear HA HG c0 f3
  obtain ⟨d0, d1, -⟩ := hB.wt.cells
  have HB := hid hB
  have HG := hid hG
  clear hB hG
  go_quiet (fail)
  have hB := HB.out.kept (keep_drewN W1 nq)
  have hG := HG.out.keep (keep_drewN W1 nq)
  generalize W1.drewN nq = W2 at *
  clear HB HG d0 d1
  obtain ⟨d0, d1, -⟩ := hB.wt.cells
  obtain ⟨-, d2, -, d3⟩ := hB.cells
  rw [hwh, show (((1 : Nat)) : Int) = (1 : Int) from rfl] at d3
  have HX1 := hid (HX1.out W2 hB.wt.pe)
  have HB := hid hB
  have HG := hid hG
  clear hB hG
  go_wp2_with fail
  refine HX1.out.mono ?_
  rintro e w3 ⟨rfl, v3, hw3⟩
  have hB := HB.out.turn hw3
  have hG := HG.out.trans hw3
  clear hw3 HX1 HB HG d0 d1 d2 d3
  obtain ⟨c0, c1, -⟩ := hB.wt.cells
  obtain ⟨o0, o1, o2, o3⟩ := hB.cells
  rw [hwh, show (((1 : Nat)) : Int) = (1 : Int) from rfl] at o3
  have HX := hid (bit_any G.sb G.eb 416 12 12 q 0 s x1 v3 w3 hB.wt.pe HR.out.left.one (by omega) (by omega) (by omega) (by decide))
  unfold Writes at HX
  rw [show (((0 : Nat)) : Int) = (0 : Int) from rfl] at HX
  have HR3 := hid HR.out.right
  have HB := hid hB
  have HG := hid hG
  clear hB hG HR
  have HE3 := hid (runA_app [bitA (416 + q) 0] (lenA 13242 p o.len) x1)
  generalize runA [bitA (416 + q) 0] x1 = x2 at *
  have HR := HR3
  clear HR3
  go_wp2_with fail
  refine HX.out.mono ?_
  rintro e w4 ⟨rfl, v4, hw⟩
  have hB := HB.out.turn hw
  have hG := HG.out.trans hw
  clear hw HX HB HG c0 c1 o0 o1 o2 o3
  obtain ⟨VL, hVL⟩ : ∃ V, V = w4.drew := ⟨_, rfl⟩
  have hB := hB.kept ((Keep.refl noBlock w4).drew)
  have hG := hG.drew
  rw [← hVL] at hB hG
  obtain ⟨c0, c1, -⟩ := hB.wt.cells
  obtain ⟨o0, o1, o2, o3⟩ := hB.cells
  have HX := hid (length_any G.sb G.eb 13242 p o.len s x2 v4 VL hB.wt.pe HR.out (by omega) (by omega) hp h2 h3)
  unfold Writes at HX
  have HB := hid hB
  have HG := hid hG
  clear hB hG HR
  generalize hxl : runA (lenA 13242 p o.len) x2 = xl at *
  have HXL := hid hxl
  clear hxl
  go_wp2_with fail
  refine region_tail 10 mx (by kernel_rfl) ?_
  rw [← hVL]
  clear hVL
  simp only [List.take_succ_cons, List.take_zero, List.drop_succ_cons, List.drop_zero]
  repeat (quiet_step (fail))
  refine wpQuiet_nil ?_
  go_wp2_with fail
  refine HX.out.mono ?_
  rintro e wl ⟨rfl, vl, hw⟩
  have hB := HB.out.turn hw
  have hG := HG.out.trans hw
  clear hw HX HB HG c0 c1 o0 o1 o2 o3
  obtain ⟨VA, hVA⟩ : ∃ V, V = wl.drew := ⟨_, rfl⟩
  have hB := hB.kept ((Keep.refl noBlock wl).drew)
  have hG := hG.drew
  rw [← hVA] at hB hG
  obtain ⟨a0, -⟩ := hB.wt.cells
  obtain ⟨-, -, -, a3⟩ := hB.cells
  rw [hwh, show (((1 : Nat)) : Int) = (1 : Int) from rfl] at a3
  have a4 := hB.wt.pe.st.first.2.2.2.2.2.1
  have hrk : s.r1 < 4294967296 := hB.wt.pe.st.ok.r1
  obtain ⟨VB, hVB⟩ : ∃ V, V = VA.drew := ⟨_, rfl⟩
  have hB := hB.kept ((Keep.refl noBlock VA).drew)
  have hG := hG.drew
  rw [← hVB] at hB hG
  obtain ⟨b0, -⟩ := hB.wt.cells
  obtain ⟨-, -, -, b3⟩ := hB.cells
  rw [hwh, show (((1 : Nat)) : Int) = (1 : Int) from rfl] at b3
  obtain ⟨VC, u1, u2⟩ := hB.wt.pe.shift 1 3 (by omega)
  rw [show (((1 : Nat) : Int)) = (1 : Int) from rfl] at u1
  have hB := hB.turn u2
  have hG := hG.trans u2
  obtain ⟨e0, -⟩ := hB.wt.cells
  have e4 := hB.wt.pe.st.first.2.2.2.2.1
  have ef := hB.wt.pe.st.first.2.2.2.2.2.2.2.2 4
  have HF := (show Hid (Wrote w (VC.setCell ⟨G.sb, 4, none⟩ (.int .u32 (s.r1 : Int))) G.sb G.eb (takeR s 1) xl v vl) from hG.trans (hB.wt.pe.r0 s.r1 hrk))
  clear hB hG u2 hrk
  have hw1 : IntKind.i64.wrap 1 = 1 := wraps_i64 _ (by omega) (by omega)
  have hw2 : IntKind.i64.wrap 2 = 2 := wraps_i64 _ (by omega) (by omega)
  have hw3 : IntKind.i64.wrap 3 = 3 := wraps_i64 _ (by omega) (by omega)
  have hw4 : IntKind.i64.wrap 4 = 4 := wraps_i64 _ (by omega) (by omega)
  go_wp2_with fail
  refine region_tail 10 mx (by kernel_rfl) ?_
  rw [← hVA]
  clear hVA
  simp only [List.take_succ_cons, List.take_zero, List.drop_succ_cons, List.drop_zero]
  repeat (quiet_step (fail))
  refine wpQuiet_nil ?_
  go_wp2_with fail
  refine region_tail 17 mx (by kernel_rfl) ?_
  rw [← hVB]
  clear hVB
  simp only [List.take_succ_cons, List.take_zero, List.drop_succ_cons, List.drop_zero]
  repeat (quiet_step (fail))
  refine wpQuiet_nil ?_
  refine wpList_copy_run _ rfl _ _ 206 rfl _ _ _ _ rfl rfl u1 ?_
  go_wp2_with fail
  go_end0
  refine ⟨rfl, vl, ?_⟩
  show Wrote w _ G.sb G.eb _ (runA ([bitA (416 + q) 0] ++ (lenA 13242 p o.len)) x1) v vl
  rw [HE3.out]
  exact HF.out

set_option maxRecDepth 20000 in
set_option maxHeartbeats 4000000 in
theorem putRepeat_2 (G : Wg) (s : Se) (x : Ex) (v : Value) (i p : Nat) (o : Opn) (w : World) (h : Wt G w s x v i) (hp : p < 16) (h2 : 2 ≤ o.len) (h3 : o.len ≤ 273) (hwh : o.which = 2) (hr : Room x ([bitA (404 + s.ph) 1] ++ ([bitA (416 + s.ph) 1] ++ ([bitA (428 + s.ph) 0] ++ lenA 13242 p o.len)))) :
    Calls Tryz.prog 74 #[.pointer (some ⟨G.wb, 0, none⟩), opV o, .int .i64 (p : Int)] w fun e w' => e = .returned (.tuple #[]) ∧ ∃ v', Wrote w w' G.sb G.eb (takeR s 2) (runA ([bitA (404 + s.ph) 1] ++ ([bitA (416 + s.ph) 1] ++ ([bitA (428 + s.ph) 0] ++ lenA 13242 p o.len))) x) v v' := by
  unfold opV
  obtain ⟨hA, hG⟩ := h.box o
  rw [hwh, show (((2 : Nat)) : Int) = (2 : Int) from rfl] at hA hG ⊢
  generalize hob : w.heap.size = ob at *
  have HOB := hid hob
  clear hob
  obtain ⟨W0, hW0⟩ : ∃ W0, W0 = w.alloc (.cells #[.int .u8 (o.kind : Int), .int .i64 (o.len : Int), .int .u32 (o.far : Int), .int .i64 2] 152) := ⟨_, rfl⟩
  rw [← hW0] at hA hG
  obtain ⟨c0, -⟩ := hA.wt.cells
  obtain ⟨-, -, -, f3, -⟩ := hA.wt.pe.st.first
  have hph := hA.wt.pe.st.ok.ph
  obtain ⟨q, hq⟩ : ∃ q, q = s.ph := ⟨_, rfl⟩
  rw [← hq] at f3 hph hr ⊢
  have HQ := hid hq
  have hphI : (q : Int) < 12 := by omega
  have hphJ : (q : Int) < 256 := by omega
  have hwq : IntKind.i64.wrap (q : Int) = (q : Int) := wraps_i64 _ (by omega) (by omega)
  clear hq
  have HA := hid hA
  have HG := hid hG
  clear h hA hG
  have HX1 := hid (fun W (HP : Pe W G.sb G.eb s x v) => bit_any G.sb G.eb 404 12 12 q 1 s x v W HP hr.left.one (by omega) (by omega) (by omega) (by decide))
  unfold Writes at HX1
  rw [show (((1 : Nat)) : Int) = (1 : Int) from rfl] at HX1
  rw [runA_app]
  have HR := hid hr.right
  clear hr
  generalize runA [bitA (404 + q) 1] x = x1 at *
  go_enter Tryz.func74, Tryz.ntmps74
  go_wp2_with fail
  rw [HOB.out, ← hW0]
  clear hW0
  go_quiet (fail)
  go_wp2_with fail
  have hB := HA.out.kept (keep_drewN W0 nq)
  have hG := HG.out.keep (keep_drewN W0 nq)
  generalize W0.drewN nq = W1 at *
  clear HA HG c0 f3
  obtain ⟨d0, d1, -⟩ := hB.wt.cells
  have HB := hid hB
  have HG := hid hG
  clear hB hG
  go_quiet (fail)
  have hB := HB.out.kept (keep_drewN W1 nq)
  have hG := HG.out.keep (keep_drewN W1 nq)
  generalize W1.drewN nq = W2 at *
  clear HB HG d0 d1
  obtain ⟨d0, d1, -⟩ := hB.wt.cells
  obtain ⟨-, d2, -, d3⟩ := hB.cells
  rw [hwh, show (((2 : Nat)) : Int) = (2 : Int) from rfl] at d3
  have HX1 := hid (HX1.out W2 hB.wt.pe)
  have HB := hid hB
  have HG := hid hG
  clear hB hG
  go_wp2_with fail
  refine HX1.out.mono ?_
  rintro e w3 ⟨rfl, v3, hw3⟩
  have hB := HB.out.turn hw3
  have hG := HG.out.trans hw3
  clear hw3 HX1 HB HG d0 d1 d2 d3
  obtain ⟨c0, c1, -⟩ := hB.wt.cells
  obtain ⟨o0, o1, o2, o3⟩ := hB.cells
  rw [hwh, show (((2 : Nat)) : Int) = (2 : Int) from rfl] at o3
  have HX := hid (bit_any G.sb G.eb 416 12 12 q 1 s x1 v3 w3 hB.wt.pe HR.out.left.one (by omega) (by omega) (by omega) (by decide))
  unfold Writes at HX
  rw [show (((1 : Nat)) : Int) = (1 : Int) from rfl] at HX
  have HR3 := hid HR.out.right
  have HB := hid hB
  have HG := hid hG
  clear hB hG HR
  have HE3 := hid (runA_app [bitA (416 + q) 1] ([bitA (428 + q) 0] ++ (lenA 13242 p o.len)) x1)
  generalize runA [bitA (416 + q) 1] x1 = x2 at *
  have HR := HR3
  clear HR3
  go_wp2_with fail
  refine HX.out.mono ?_
  rintro e w4 ⟨rfl, v4, hw⟩
  have hB := HB.out.turn hw
  have hG := HG.out.trans hw
  clear hw HX HB HG c0 c1 o0 o1 o2 o3
  obtain ⟨V4, hV4⟩ : ∃ V, V = w4.drew := ⟨_, rfl⟩
  have hB := hB.kept ((Keep.refl noBlock w4).drew)
  have hG := hG.drew
  rw [← hV4] at hB hG
  obtain ⟨c0, c1, -⟩ := hB.wt.cells
  obtain ⟨o0, o1, o2, o3⟩ := hB.cells
  rw [hwh, show (((2 : Nat)) : Int) = (2 : Int) from rfl] at o3
  have HX := hid (bit_any G.sb G.eb 428 12 12 q 0 s x2 v4 V4 hB.wt.pe HR.out.left.one (by omega) (by omega) (by omega) (by decide))
  unfold Writes at HX
  rw [show (((0 : Nat)) : Int) = (0 : Int) from rfl] at HX
  have HR4 := hid HR.out.right
  have HB := hid hB
  have HG := hid hG
  clear hB hG HR
  have HE4 := hid (runA_app [bitA (428 + q) 0] (lenA 13242 p o.len) x2)
  generalize runA [bitA (428 + q) 0] x2 = x3 at *
  have HR := HR4
  clear HR4
  go_wp2_with fail
  refine region_tail 9 mx (by kernel_rfl) ?_
  rw [← hV4]
  clear hV4
  simp only [List.take_succ_cons, List.take_zero, List.drop_succ_cons, List.drop_zero]
  repeat (quiet_step (fail))
  refine wpQuiet_nil ?_
  go_wp2_with fail
  refine HX.out.mono ?_
  rintro e w5 ⟨rfl, v5, hw⟩
  have hB := HB.out.turn hw
  have hG := HG.out.trans hw
  clear hw HX HB HG c0 c1 o0 o1 o2 o3
  obtain ⟨VL, hVL⟩ : ∃ V, V = w5.drew := ⟨_, rfl⟩
  have hB := hB.kept ((Keep.refl noBlock w5).drew)
  have hG := hG.drew
  rw [← hVL] at hB hG
  obtain ⟨c0, c1, -⟩ := hB.wt.cells
  obtain ⟨o0, o1, o2, o3⟩ := hB.cells
  have HX := hid (length_any G.sb G.eb 13242 p o.len s x3 v5 VL hB.wt.pe HR.out (by omega) (by omega) hp h2 h3)
  unfold Writes at HX
  have HB := hid hB
  have HG := hid hG
  clear hB hG HR
  generalize hxl : runA (lenA 13242 p o.len) x3 = xl at *
  have HXL := hid hxl
  clear hxl
  go_wp2_with fail
  refine region_tail 10 mx (by kernel_rfl) ?_
  rw [← hVL]
  clear hVL
  simp only [List.take_succ_cons, List.take_zero, List.drop_succ_cons, List.drop_zero]
  repeat (quiet_step (fail))
  refine wpQuiet_nil ?_
  go_wp2_with fail
  refine HX.out.mono ?_
  rintro e wl ⟨rfl, vl, hw⟩
  have hB := HB.out.turn hw
  have hG := HG.out.trans hw
  clear hw HX HB HG c0 c1 o0 o1 o2 o3
  obtain ⟨VA, hVA⟩ : ∃ V, V = wl.drew := ⟨_, rfl⟩
  have hB := hB.kept ((Keep.refl noBlock wl).drew)
  have hG := hG.drew
  rw [← hVA] at hB hG
  obtain ⟨a0, -⟩ := hB.wt.cells
  obtain ⟨-, -, -, a3⟩ := hB.cells
  rw [hwh, show (((2 : Nat)) : Int) = (2 : Int) from rfl] at a3
  have a4 := hB.wt.pe.st.first.2.2.2.2.2.2.1
  have hrk : s.r2 < 4294967296 := hB.wt.pe.st.ok.r2
  obtain ⟨VB, hVB⟩ : ∃ V, V = VA.drew := ⟨_, rfl⟩
  have hB := hB.kept ((Keep.refl noBlock VA).drew)
  have hG := hG.drew
  rw [← hVB] at hB hG
  obtain ⟨b0, -⟩ := hB.wt.cells
  obtain ⟨-, -, -, b3⟩ := hB.cells
  rw [hwh, show (((2 : Nat)) : Int) = (2 : Int) from rfl] at b3
  obtain ⟨VC, u1, u2⟩ := hB.wt.pe.shift 2 3 (by omega)
  rw [show (((2 : Nat) : Int)) = (2 : Int) from rfl] at u1
  have hB := hB.turn u2
  have hG := hG.trans u2
  obtain ⟨e0, -⟩ := hB.wt.cells
  have e4 := hB.wt.pe.st.first.2.2.2.2.1
  have ef := hB.wt.pe.st.first.2.2.2.2.2.2.2.2 4
  have HF := (show Hid (Wrote w (VC.setCell ⟨G.sb, 4, none⟩ (.int .u32 (s.r2 : Int))) G.sb G.eb (takeR s 2) xl v vl) from hG.trans (hB.wt.pe.r0 s.r2 hrk))
  clear hB hG u2 hrk
  have hw1 : IntKind.i64.wrap 1 = 1 := wraps_i64 _ (by omega) (by omega)
  have hw2 : IntKind.i64.wrap 2 = 2 := wraps_i64 _ (by omega) (by omega)
  have hw3 : IntKind.i64.wrap 3 = 3 := wraps_i64 _ (by omega) (by omega)
  have hw4 : IntKind.i64.wrap 4 = 4 := wraps_i64 _ (by omega) (by omega)
  go_wp2_with fail
  refine region_tail 10 mx (by kernel_rfl) ?_
  rw [← hVA]
  clear hVA
  simp only [List.take_succ_cons, List.take_zero, List.drop_succ_cons, List.drop_zero]
  repeat (quiet_step (fail))
  refine wpQuiet_nil ?_
  go_wp2_with fail
  refine region_tail 17 mx (by kernel_rfl) ?_
  rw [← hVB]
  clear hVB
  simp only [List.take_succ_cons, List.take_zero, List.drop_succ_cons, List.drop_zero]
  repeat (quiet_step (fail))
  refine wpQuiet_nil ?_
  refine wpList_copy_run _ rfl _ _ 206 rfl _ _ _ _ rfl rfl u1 ?_
  go_wp2_with fail
  go_end0
  refine ⟨rfl, vl, ?_⟩
  show Wrote w _ G.sb G.eb _ (runA ([bitA (416 + q) 1] ++ ([bitA (428 + q) 0] ++ (lenA 13242 p o.len))) x1) v vl
  rw [HE3.out]
  rw [HE4.out]
  exact HF.out

set_option maxRecDepth 20000 in
set_option maxHeartbeats 4000000 in
theorem putRepeat_3 (G : Wg) (s : Se) (x : Ex) (v : Value) (i p : Nat) (o : Opn) (w : World) (h : Wt G w s x v i) (hp : p < 16) (h2 : 2 ≤ o.len) (h3 : o.len ≤ 273) (hwh : o.which = 3) (hr : Room x ([bitA (404 + s.ph) 1] ++ ([bitA (416 + s.ph) 1] ++ ([bitA (428 + s.ph) 1] ++ lenA 13242 p o.len)))) :
    Calls Tryz.prog 74 #[.pointer (some ⟨G.wb, 0, none⟩), opV o, .int .i64 (p : Int)] w fun e w' => e = .returned (.tuple #[]) ∧ ∃ v', Wrote w w' G.sb G.eb (takeR s 3) (runA ([bitA (404 + s.ph) 1] ++ ([bitA (416 + s.ph) 1] ++ ([bitA (428 + s.ph) 1] ++ lenA 13242 p o.len))) x) v v' := by
  unfold opV
  obtain ⟨hA, hG⟩ := h.box o
  rw [hwh, show (((3 : Nat)) : Int) = (3 : Int) from rfl] at hA hG ⊢
  generalize hob : w.heap.size = ob at *
  have HOB := hid hob
  clear hob
  obtain ⟨W0, hW0⟩ : ∃ W0, W0 = w.alloc (.cells #[.int .u8 (o.kind : Int), .int .i64 (o.len : Int), .int .u32 (o.far : Int), .int .i64 3] 152) := ⟨_, rfl⟩
  rw [← hW0] at hA hG
  obtain ⟨c0, -⟩ := hA.wt.cells
  obtain ⟨-, -, -, f3, -⟩ := hA.wt.pe.st.first
  have hph := hA.wt.pe.st.ok.ph
  obtain ⟨q, hq⟩ : ∃ q, q = s.ph := ⟨_, rfl⟩
  rw [← hq] at f3 hph hr ⊢
  have HQ := hid hq
  have hphI : (q : Int) < 12 := by omega
  have hphJ : (q : Int) < 256 := by omega
  have hwq : IntKind.i64.wrap (q : Int) = (q : Int) := wraps_i64 _ (by omega) (by omega)
  clear hq
  have HA := hid hA
  have HG := hid hG
  clear h hA hG
  have HX1 := hid (fun W (HP : Pe W G.sb G.eb s x v) => bit_any G.sb G.eb 404 12 12 q 1 s x v W HP hr.left.one (by omega) (by omega) (by omega) (by decide))
  unfold Writes at HX1
  rw [show (((1 : Nat)) : Int) = (1 : Int) from rfl] at HX1
  rw [runA_app]
  have HR := hid hr.right
  clear hr
  generalize runA [bitA (404 + q) 1] x = x1 at *
  go_enter Tryz.func74, Tryz.ntmps74
  go_wp2_with fail
  rw [HOB.out, ← hW0]
  clear hW0
  go_quiet (fail)
  go_wp2_with fail
  have hB := HA.out.kept (keep_drewN W0 nq)
  have hG := HG.out.keep (keep_drewN W0 nq)
  generalize W0.drewN nq = W1 at *
  clear HA HG c0 f3
  obtain ⟨d0, d1, -⟩ := hB.wt.cells
  have HB := hid hB
  have HG := hid hG
  clear hB hG
  go_quiet (fail)
  have hB := HB.out.kept (keep_drewN W1 nq)
  have hG := HG.out.keep (keep_drewN W1 nq)
  generalize W1.drewN nq = W2 at *
  clear HB HG d0 d1
  obtain ⟨d0, d1, -⟩ := hB.wt.cells
  obtain ⟨-, d2, -, d3⟩ := hB.cells
  rw [hwh, show (((3 : Nat)) : Int) = (3 : Int) from rfl] at d3
  have HX1 := hid (HX1.out W2 hB.wt.pe)
  have HB := hid hB
  have HG := hid hG
  clear hB hG
  go_wp2_with fail
  refine HX1.out.mono ?_
  rintro e w3 ⟨rfl, v3, hw3⟩
  have hB := HB.out.turn hw3
  have hG := HG.out.trans hw3
  clear hw3 HX1 HB HG d0 d1 d2 d3
  obtain ⟨c0, c1, -⟩ := hB.wt.cells
  obtain ⟨o0, o1, o2, o3⟩ := hB.cells
  rw [hwh, show (((3 : Nat)) : Int) = (3 : Int) from rfl] at o3
  have HX := hid (bit_any G.sb G.eb 416 12 12 q 1 s x1 v3 w3 hB.wt.pe HR.out.left.one (by omega) (by omega) (by omega) (by decide))
  unfold Writes at HX
  rw [show (((1 : Nat)) : Int) = (1 : Int) from rfl] at HX
  have HR3 := hid HR.out.right
  have HB := hid hB
  have HG := hid hG
  clear hB hG HR
  have HE3 := hid (runA_app [bitA (416 + q) 1] ([bitA (428 + q) 1] ++ (lenA 13242 p o.len)) x1)
  generalize runA [bitA (416 + q) 1] x1 = x2 at *
  have HR := HR3
  clear HR3
  go_wp2_with fail
  refine HX.out.mono ?_
  rintro e w4 ⟨rfl, v4, hw⟩
  have hB := HB.out.turn hw
  have hG := HG.out.trans hw
  clear hw HX HB HG c0 c1 o0 o1 o2 o3
  obtain ⟨V4, hV4⟩ : ∃ V, V = w4.drew := ⟨_, rfl⟩
  have hB := hB.kept ((Keep.refl noBlock w4).drew)
  have hG := hG.drew
  rw [← hV4] at hB hG
  obtain ⟨c0, c1, -⟩ := hB.wt.cells
  obtain ⟨o0, o1, o2, o3⟩ := hB.cells
  rw [hwh, show (((3 : Nat)) : Int) = (3 : Int) from rfl] at o3
  have HX := hid (bit_any G.sb G.eb 428 12 12 q 1 s x2 v4 V4 hB.wt.pe HR.out.left.one (by omega) (by omega) (by omega) (by decide))
  unfold Writes at HX
  rw [show (((1 : Nat)) : Int) = (1 : Int) from rfl] at HX
  have HR4 := hid HR.out.right
  have HB := hid hB
  have HG := hid hG
  clear hB hG HR
  have HE4 := hid (runA_app [bitA (428 + q) 1] (lenA 13242 p o.len) x2)
  generalize runA [bitA (428 + q) 1] x2 = x3 at *
  have HR := HR4
  clear HR4
  go_wp2_with fail
  refine region_tail 9 mx (by kernel_rfl) ?_
  rw [← hV4]
  clear hV4
  simp only [List.take_succ_cons, List.take_zero, List.drop_succ_cons, List.drop_zero]
  repeat (quiet_step (fail))
  refine wpQuiet_nil ?_
  go_wp2_with fail
  refine HX.out.mono ?_
  rintro e w5 ⟨rfl, v5, hw⟩
  have hB := HB.out.turn hw
  have hG := HG.out.trans hw
  clear hw HX HB HG c0 c1 o0 o1 o2 o3
  obtain ⟨VL, hVL⟩ : ∃ V, V = w5.drew := ⟨_, rfl⟩
  have hB := hB.kept ((Keep.refl noBlock w5).drew)
  have hG := hG.drew
  rw [← hVL] at hB hG
  obtain ⟨c0, c1, -⟩ := hB.wt.cells
  obtain ⟨o0, o1, o2, o3⟩ := hB.cells
  have HX := hid (length_any G.sb G.eb 13242 p o.len s x3 v5 VL hB.wt.pe HR.out (by omega) (by omega) hp h2 h3)
  unfold Writes at HX
  have HB := hid hB
  have HG := hid hG
  clear hB hG HR
  generalize hxl : runA (lenA 13242 p o.len) x3 = xl at *
  have HXL := hid hxl
  clear hxl
  go_wp2_with fail
  refine region_tail 10 mx (by kernel_rfl) ?_
  rw [← hVL]
  clear hVL
  simp only [List.take_succ_cons, List.take_zero, List.drop_succ_cons, List.drop_zero]
  repeat (quiet_step (fail))
  refine wpQuiet_nil ?_
  go_wp2_with fail
  refine HX.out.mono ?_
  rintro e wl ⟨rfl, vl, hw⟩
  have hB := HB.out.turn hw
  have hG := HG.out.trans hw
  clear hw HX HB HG c0 c1 o0 o1 o2 o3
  obtain ⟨VA, hVA⟩ : ∃ V, V = wl.drew := ⟨_, rfl⟩
  have hB := hB.kept ((Keep.refl noBlock wl).drew)
  have hG := hG.drew
  rw [← hVA] at hB hG
  obtain ⟨a0, -⟩ := hB.wt.cells
  obtain ⟨-, -, -, a3⟩ := hB.cells
  rw [hwh, show (((3 : Nat)) : Int) = (3 : Int) from rfl] at a3
  have a4 := hB.wt.pe.st.first.2.2.2.2.2.2.2.1
  have hrk : s.r3 < 4294967296 := hB.wt.pe.st.ok.r3
  obtain ⟨VB, hVB⟩ : ∃ V, V = VA.drew := ⟨_, rfl⟩
  have hB := hB.kept ((Keep.refl noBlock VA).drew)
  have hG := hG.drew
  rw [← hVB] at hB hG
  obtain ⟨b0, -⟩ := hB.wt.cells
  obtain ⟨-, -, -, b3⟩ := hB.cells
  rw [hwh, show (((3 : Nat)) : Int) = (3 : Int) from rfl] at b3
  obtain ⟨VC, u1, u2⟩ := hB.wt.pe.shift 3 3 (by omega)
  rw [show (((3 : Nat) : Int)) = (3 : Int) from rfl] at u1
  have hB := hB.turn u2
  have hG := hG.trans u2
  obtain ⟨e0, -⟩ := hB.wt.cells
  have e4 := hB.wt.pe.st.first.2.2.2.2.1
  have ef := hB.wt.pe.st.first.2.2.2.2.2.2.2.2 4
  have HF := (show Hid (Wrote w (VC.setCell ⟨G.sb, 4, none⟩ (.int .u32 (s.r3 : Int))) G.sb G.eb (takeR s 3) xl v vl) from hG.trans (hB.wt.pe.r0 s.r3 hrk))
  clear hB hG u2 hrk
  have hw1 : IntKind.i64.wrap 1 = 1 := wraps_i64 _ (by omega) (by omega)
  have hw2 : IntKind.i64.wrap 2 = 2 := wraps_i64 _ (by omega) (by omega)
  have hw3 : IntKind.i64.wrap 3 = 3 := wraps_i64 _ (by omega) (by omega)
  have hw4 : IntKind.i64.wrap 4 = 4 := wraps_i64 _ (by omega) (by omega)
  go_wp2_with fail
  refine region_tail 10 mx (by kernel_rfl) ?_
  rw [← hVA]
  clear hVA
  simp only [List.take_succ_cons, List.take_zero, List.drop_succ_cons, List.drop_zero]
  repeat (quiet_step (fail))
  refine wpQuiet_nil ?_
  go_wp2_with fail
  refine region_tail 17 mx (by kernel_rfl) ?_
  rw [← hVB]
  clear hVB
  simp only [List.take_succ_cons, List.take_zero, List.drop_succ_cons, List.drop_zero]
  repeat (quiet_step (fail))
  refine wpQuiet_nil ?_
  refine wpList_copy_run _ rfl _ _ 206 rfl _ _ _ _ rfl rfl u1 ?_
  go_wp2_with fail
  go_end0
  refine ⟨rfl, vl, ?_⟩
  show Wrote w _ G.sb G.eb _ (runA ([bitA (416 + q) 1] ++ ([bitA (428 + q) 1] ++ (lenA 13242 p o.len))) x1) v vl
  rw [HE3.out]
  rw [HE4.out]
  exact HF.out

theorem putRepeat_any (G : Wg) (s : Se) (x : Ex) (v : Value) (i p : Nat) (o : Opn) (w : World) (h : Wt G w s x v i) (hp : p < 16) (h2 : 2 ≤ o.len) (h3 : o.len ≤ 273) (hwh : o.which < 4) (hr : Room x (whichA s p o.which ++ lenA 13242 p o.len)) :
    Calls Tryz.prog 74 #[.pointer (some ⟨G.wb, 0, none⟩), opV o, .int .i64 (p : Int)] w fun e w' => e = .returned (.tuple #[]) ∧ ∃ v', Wrote w w' G.sb G.eb (takeR s o.which) (runA (whichA s p o.which ++ lenA 13242 p o.len) x) v v' := by
  rcases (show o.which = 0 ∨ o.which = 1 ∨ o.which = 2 ∨ o.which = 3 by omega) with e | e | e | e
  · have := putRepeat_0 G s x v i p o w h hp h2 h3 e (by rw [e] at hr; exact hr)
    rw [e]; exact this
  · have := putRepeat_1 G s x v i p o w h hp h2 h3 e (by rw [e] at hr; exact hr)
    rw [e]; exact this
  · have := putRepeat_2 G s x v i p o w h hp h2 h3 e (by rw [e] at hr; exact hr)
    rw [e]; exact this
  · have := putRepeat_3 G s x v i p o w h hp h2 h3 e (by rw [e] at hr; exact hr)
    rw [e]; exact this

end Go.Proofs.YtnokemcogjoonaaGreatDoor.Pt

namespace Go.Proofs.YtnokemcogjoonaaGreatDoor.Pt
open Go.RowKit Go.Shelf
set_option linter.unusedVariables false

/-- Behind operations. -/
structure Puts (G : Wg) (w w' : World) (s' : Se) (x' : Ex) (v v' : Value) (i' : Nat) : Prop where
  wt : Wt G w' s' x' v' i'
  near : Near w v v'
  kp : Keep (WS G v) w w'
theorem ws_near {G : Wg} {w : World} {v v1 : Value} (hn : Near w v v1) : ∀ i, i < w.heap.size → WS G v1 i → WS G v i := by
  rintro i hi (e | e)
  · exact .inl e
  · exact .inr (ps_near hn i hi e)
theorem Puts.refl {G : Wg} {w : World} {s : Se} {x : Ex} {v : Value} {i : Nat} (h : Wt G w s x v i) : Puts G w w s x v v i := ⟨h, Near.refl _ _, Keep.refl _ _⟩
theorem Puts.trans {G : Wg} {w w1 w2 : World} {s s2 : Se} {x x2 : Ex} {v v1 v2 : Value} {i i2 : Nat} (h : Puts G w w1 s x v v1 i) (k : Puts G w1 w2 s2 x2 v1 v2 i2) : Puts G w w2 s2 x2 v v2 i2 :=
  ⟨k.wt, h.near.trans k.near h.kp.size, h.kp.trans k.kp (ws_near h.near)⟩
theorem Wt.wrote {G : Wg} {w w' : World} {s s' : Se} {x x' : Ex} {v v' : Value} {i : Nat} (h : Wt G w s x v i) (hw : Wrote w w' G.sb G.eb s' x' v v') : Puts G w w' s' x' v v' i := ⟨h.turn hw, hw.near, hw.kp.mono (fun _ _ e => .inr e)⟩
theorem Puts.keep {G : Wg} {w w1 w2 : World} {s : Se} {x : Ex} {v v1 : Value} {i : Nat} (h : Puts G w w1 s x v v1 i) (k : Keep noBlock w1 w2) : Puts G w w2 s x v v1 i := ⟨h.wt.kept k, h.near, h.kp.trans k (fun _ _ h => h.elim)⟩
theorem Wt.move {G : Wg} {w : World} {s : Se} {x : Ex} {v : Value} {i : Nat} (h : Wt G w s x v i) (j : Nat) (h1 : i ≤ j) (h2 : j ≤ G.k.T.length) : Puts G w (w.setCell ⟨G.wb, 4, none⟩ (.int .i64 (j : Int))) s x v v j := by
  obtain ⟨n1, n2, n3⟩ := h.ws
  have hk : Keep (fun k => k = G.wb) w (w.setCell ⟨G.wb, 4, none⟩ (.int .i64 (j : Int))) := (Keep.refl (fun k => k = G.wb) w).setCell (p := ⟨G.wb, 4, none⟩) (fun _ => rfl) _
  have hf := h.fi
  exact ⟨⟨set_obj h.obj 4 _, h.pe.keep hk (fun e => n1 e.symm) (fun e => n2 e.symm) (fun g hg e => n3 (e ▸ hg)), h.tx.keep hk (fun _ e => h.t1 e), h.t1, h.t2, h.t3, h.t4, h.t0, h.tl, by omega, h2, h.pl⟩, Near.refl _ _, hk.mono (fun _ _ e => .inl e)⟩
theorem Pe.ph {w : World} {sb eb : Nat} {s : Se} {x : Ex} {v : Value} (h : Pe w sb eb s x v) (p : Nat) (hp : p < 12) : Wrote w (w.setCell ⟨sb, 3, none⟩ (.int .u8 (p : Int))) sb eb { s with ph := p } x v v := by
  obtain ⟨cs, ho, hc⟩ := h.st.obj
  have hk : Keep (fun k => k = sb) w (w.setCell ⟨sb, 3, none⟩ (.int .u8 (p : Int))) := (Keep.refl (fun k => k = sb) w).setCell (p := ⟨sb, 3, none⟩) (fun _ => rfl) _
  exact ⟨⟨⟨⟨_, set_obj ho 3 _, hc.ph p⟩, ⟨h.st.ok.lc, h.st.ok.pb, hp, h.st.ok.r0, h.st.ok.r1, h.st.ok.r2, h.st.ok.r3⟩, h.st.lt⟩, h.en.keep hk (fun e => h.ne e.symm) (fun g hg e => h.nv (e ▸ hg)), h.good⟩, Near.refl _ _, hk.mono (fun _ _ e => .inl e)⟩
theorem lowW_lt (k : Tk) (i b : Nat) (hb : b ≤ 4) : lowW k i b < 16 := by
  unfold lowW
  have h1 : 2 ^ b ≤ 2 ^ 4 := Nat.pow_le_pow_right (by decide) hb
  exact Nat.lt_of_lt_of_le (Nat.mod_lt _ (Nat.two_pow_pos b)) h1
theorem takeR_ph (s : Se) (k : Nat) : (takeR s k).ph = s.ph := by
  unfold takeR
  split <;> rfl
theorem takeR_ph2 (s : Se) (k p : Nat) : { takeR s k with ph := p } = ({ takeR s k with ph := p } : Se) := rfl
set_option maxRecDepth 20000 in
set_option maxHeartbeats 4000000 in
theorem put_0 (G : Wg) (s : Se) (x : Ex) (v : Value) (i : Nat) (o : Opn) (w : World) (h : Wt G w s x v i) (hkd : o.kind = 0) (hi : i < G.k.T.length) (h7 : 7 ≤ s.ph → s.r0 + 1 ≤ i) (hln : o.len = 1) (hr : Room x ([bitA (8 + s.ph * 16 + lowW G.k i s.pb) 0] ++ (litA G.k s i))) :
    Calls Tryz.prog 48 #[.pointer (some ⟨G.wb, 0, none⟩), opV o] w fun e w' => e = .returned (.tuple #[]) ∧ ∃ v', Puts G w w' { s with ph := behB s.ph } (runA ([bitA (8 + s.ph * 16 + lowW G.k i s.pb) 0] ++ (litA G.k s i)) x) v v' (i + o.len) := by
  have HLN := hid hln
  clear hln
  unfold opV
  obtain ⟨hA, hG⟩ := h.box o
  rw [hkd, show (((0 : Nat)) : Int) = (0 : Int) from rfl] at hA hG ⊢
  generalize hob : w.heap.size = ob at *
  have HOB := hid hob
  clear hob
  obtain ⟨W0, hW0⟩ : ∃ W0, W0 = w.alloc (.cells #[.int .u8 0, .int .i64 (o.len : Int), .int .u32 (o.far : Int), .int .i64 (o.which : Int)] 152) := ⟨_, rfl⟩
  rw [← hW0] at hA hG
  have hpb := h.pe.st.ok.pb
  have hp := lowW_lt G.k i s.pb hpb
  have HLo := hid (fun n : Nat => lowest_any G s x v i s.pb hpb (W0.drewN n) (hA.wt.kept (keep_drewN W0 n)))
  obtain ⟨c0, -⟩ := hA.wt.cells
  obtain ⟨-, -, f2, f3, -⟩ := hA.wt.pe.st.first
  have hph := hA.wt.pe.st.ok.ph
  have HH := hid h
  have HA := hid hA
  have HG := hid hG
  rw [runA_app]
  have hr1 := hr.left
  have HR := hid hr.right
  clear h hA hG hr
  generalize lowW G.k i s.pb = p at *
  obtain ⟨q, hq⟩ : ∃ q, q = s.ph := ⟨_, rfl⟩
  rw [← hq] at f3 hph hr1 HR ⊢
  have HQ := hid hq
  have hphI : (q : Int) < 12 := by omega
  have hphJ : (q : Int) < 256 := by omega
  have hwq : IntKind.i64.wrap (q : Int) = (q : Int) := wraps_i64 _ (by omega) (by omega)
  clear hq
  have HX1 := hid (fun W (HP : Pe W G.sb G.eb s x v) => bit_any G.sb G.eb (8 + q * 16) 16 16 p 0 s x v W HP hr1.one (by omega) (by omega) (by omega) (by decide))
  unfold Writes at HX1
  rw [show (((0 : Nat)) : Int) = (0 : Int) from rfl] at HX1
  clear hr1
  generalize runA [bitA (8 + q * 16 + p) 0] x = x1 at *
  go_enter Tryz.func48, Tryz.ntmps48
  go_wp2_with fail
  rw [HOB.out, ← hW0]
  clear hW0
  go_quiet (first | (go_at_call 70; refine Calls.quiet_of (HLo.out _)))
  go_wp2_with fail
  have hA := HA.out.kept (keep_drewN W0 nq)
  have hG := HG.out.keep (keep_drewN W0 nq)
  generalize W0.drewN nq = W1 at *
  clear HA HG HLo c0 f2 f3
  obtain ⟨c0, -⟩ := hA.wt.cells
  have HA := hid hA
  have HG := hid hG
  clear hA hG
  go_quiet (fail)
  have hA := HA.out.kept (keep_drewN W1 nq)
  have hG := HG.out.keep (keep_drewN W1 nq)
  generalize W1.drewN nq = W2 at *
  clear HA HG c0
  obtain ⟨c0, c1, -⟩ := hA.wt.cells
  obtain ⟨o0, o1, o2, o3⟩ := hA.cells
  rw [hkd, show (((0 : Nat)) : Int) = (0 : Int) from rfl] at o0
  have HX := hid (HX1.out W2 hA.wt.pe)
  have HA := hid hA
  have HG := hid hG
  clear hA hG HX1
  go_wp2_with fail
  refine HX.out.mono ?_
  rintro e w3 ⟨rfl, v3, hw⟩
  have hA := HA.out.turn hw
  have hG := HG.out.trans hw
  clear hw HX HA HG c0 c1 o0 o1 o2 o3
  have HX := hid (putByte_any G s x1 v3 i w3 hA.wt hi HR.out h7)
  clear HR h7
  have HA := hid hA
  have HG := hid hG
  clear hA hG
  generalize hxl : runA (litA G.k s i) x1 = xl at *
  have HXL := hid hxl
  clear hxl
  go_wp2_with fail
  refine HX.out.mono ?_
  rintro e w5 ⟨rfl, v5, hw⟩
  have hA := HA.out.turn hw
  have hG := HG.out.trans hw
  clear hw HX HA HG
  obtain ⟨V, hV⟩ : ∃ V, V = w5.drew := ⟨_, rfl⟩
  have hA := hA.kept ((Keep.refl noBlock w5).drew)
  have hG := hG.drew
  rw [← hV] at hA hG
  obtain ⟨c0, -⟩ := hA.wt.cells
  obtain ⟨o0, o1, o2, o3⟩ := hA.cells
  rw [hkd, show (((0 : Nat)) : Int) = (0 : Int) from rfl] at o0
  have f3 := (show V.cell? ⟨G.sb, 3, none⟩ = some (.int .u8 (q : Int)) from by rw [HQ.out]; exact hA.wt.pe.st.first.2.2.2.1)
  have ff := hA.wt.pe.st.first.2.2.2.2.2.2.2.2 3
  have HS := hid (behind_any q 0 hph (by omega))
  rw [show behK q 0 = behB q from rfl, show (((0 : Nat)) : Int) = (0 : Int) from rfl] at HS
  have hb12 : behB q < 12 := by have := behB_lt hph; omega
  have hP := hA.wt.pe.ph (behB q) hb12
  have hA := hA.turn hP
  have hG := hG.trans hP
  rw [HQ.out] at hb12
  obtain ⟨q', hq'⟩ : ∃ q', q' = behB q := ⟨_, rfl⟩
  rw [← hq'] at hA hG HS
  have HQ' := hid hq'
  clear hq' hP hb12
  generalize hV2 : V.setCell ⟨G.sb, 3, none⟩ (.int .u8 (q' : Int)) = V2 at *
  have HV2 := hid hV2
  clear hV2
  obtain ⟨V3, hV3⟩ : ∃ V3, V3 = V2.drew := ⟨_, rfl⟩
  have hA := hA.kept ((Keep.refl noBlock V2).drew)
  have hG := hG.drew
  rw [← hV3] at hA hG
  obtain ⟨-, -, -, -, d4, -, -, dd⟩ := hA.wt.cells
  obtain ⟨-, e1, -, -⟩ := hA.cells
  have df := dd 4
  have hil := hA.wt.tl
  obtain ⟨j, hj⟩ : ∃ j : Nat, j = i + o.len := ⟨_, rfl⟩
  have hjI : (i : Int) + (o.len : Int) = (j : Int) := by omega
  have hjw : IntKind.i64.wrap ((i : Int) + (o.len : Int)) = (j : Int) := by rw [hjI]; exact wraps_i64 _ (by omega) (by have := HLN.out; omega)
  have HM := (HH.out.wrote hG).trans (hA.wt.move j (by omega) (by have := HLN.out; omega))
  have HM := hid HM
  have HJ := hid hj
  clear hA hG dd hil hjI hj HH
  go_wp2_with fail
  refine region_tail 14 mx (by kernel_rfl) ?_
  rw [← hV]
  clear hV
  simp only [List.take_succ_cons, List.take_zero, List.drop_succ_cons, List.drop_zero]
  iterate 13 (quiet_step (fail))
  refine wpQuiet_step (fun K hK => ?_)
  go_simp
  refine ⟨_, HS.out _, hK _ ?_⟩
  clear hK K
  refine wpQuiet_nil ?_
  go_wp2_with fail
  rw [HV2.out]
  clear HV2 c0 o0 o1 o2 o3 f3 ff
  refine region_tail 7 mx (by kernel_rfl) ?_
  rw [← hV3]
  clear hV3
  simp only [List.take_succ_cons, List.take_zero, List.drop_succ_cons, List.drop_zero]
  repeat (quiet_step (fail))
  refine wpQuiet_nil ?_
  go_wp2_with fail
  go_end0
  refine ⟨rfl, v5, ?_⟩
  rw [HXL.out, ← HJ.out, ← HQ'.out]
  exact HM.out

set_option maxRecDepth 20000 in
set_option maxHeartbeats 4000000 in
theorem put_1 (G : Wg) (s : Se) (x : Ex) (v : Value) (i : Nat) (o : Opn) (w : World) (h : Wt G w s x v i) (hkd : o.kind = 1) (h2 : 2 ≤ o.len) (h3 : o.len ≤ 273) (hf : o.far < 65536) (hi : i + o.len ≤ G.k.T.length) (hr : Room x ([bitA (8 + s.ph * 16 + lowW G.k i s.pb) 1] ++ ([bitA (392 + s.ph) 0] ++ (lenA 12728 (lowW G.k i s.pb) o.len ++ distA o.len o.far)))) :
    Calls Tryz.prog 48 #[.pointer (some ⟨G.wb, 0, none⟩), opV o] w fun e w' => e = .returned (.tuple #[]) ∧ ∃ v', Puts G w w' { s with ph := behM s.ph, r0 := o.far, r1 := s.r0, r2 := s.r1, r3 := s.r2 } (runA ([bitA (8 + s.ph * 16 + lowW G.k i s.pb) 1] ++ ([bitA (392 + s.ph) 0] ++ (lenA 12728 (lowW G.k i s.pb) o.len ++ distA o.len o.far))) x) v v' (i + o.len) := by
  unfold opV
  obtain ⟨hA, hG⟩ := h.box o
  rw [hkd, show (((1 : Nat)) : Int) = (1 : Int) from rfl] at hA hG ⊢
  generalize hob : w.heap.size = ob at *
  have HOB := hid hob
  clear hob
  obtain ⟨W0, hW0⟩ : ∃ W0, W0 = w.alloc (.cells #[.int .u8 1, .int .i64 (o.len : Int), .int .u32 (o.far : Int), .int .i64 (o.which : Int)] 152) := ⟨_, rfl⟩
  rw [← hW0] at hA hG
  have hpb := h.pe.st.ok.pb
  have hp := lowW_lt G.k i s.pb hpb
  have HLo := hid (fun n : Nat => lowest_any G s x v i s.pb hpb (W0.drewN n) (hA.wt.kept (keep_drewN W0 n)))
  obtain ⟨c0, -⟩ := hA.wt.cells
  obtain ⟨-, -, f2, f3, -⟩ := hA.wt.pe.st.first
  have hph := hA.wt.pe.st.ok.ph
  have HH := hid h
  have HA := hid hA
  have HG := hid hG
  rw [runA_app]
  have hr1 := hr.left
  have HR := hid hr.right
  clear h hA hG hr
  generalize lowW G.k i s.pb = p at *
  obtain ⟨q, hq⟩ : ∃ q, q = s.ph := ⟨_, rfl⟩
  rw [← hq] at f3 hph hr1 HR ⊢
  have HQ := hid hq
  have hphI : (q : Int) < 12 := by omega
  have hphJ : (q : Int) < 256 := by omega
  have hwq : IntKind.i64.wrap (q : Int) = (q : Int) := wraps_i64 _ (by omega) (by omega)
  clear hq
  have HX1 := hid (fun W (HP : Pe W G.sb G.eb s x v) => bit_any G.sb G.eb (8 + q * 16) 16 16 p 1 s x v W HP hr1.one (by omega) (by omega) (by omega) (by decide))
  unfold Writes at HX1
  rw [show (((1 : Nat)) : Int) = (1 : Int) from rfl] at HX1
  clear hr1
  generalize runA [bitA (8 + q * 16 + p) 1] x = x1 at *
  go_enter Tryz.func48, Tryz.ntmps48
  go_wp2_with fail
  rw [HOB.out, ← hW0]
  clear hW0
  go_quiet (first | (go_at_call 70; refine Calls.quiet_of (HLo.out _)))
  go_wp2_with fail
  have hA := HA.out.kept (keep_drewN W0 nq)
  have hG := HG.out.keep (keep_drewN W0 nq)
  generalize W0.drewN nq = W1 at *
  clear HA HG HLo c0 f2 f3
  obtain ⟨c0, -⟩ := hA.wt.cells
  have HA := hid hA
  have HG := hid hG
  clear hA hG
  go_quiet (fail)
  have hA := HA.out.kept (keep_drewN W1 nq)
  have hG := HG.out.keep (keep_drewN W1 nq)
  generalize W1.drewN nq = W2 at *
  clear HA HG c0
  obtain ⟨c0, c1, -⟩ := hA.wt.cells
  obtain ⟨o0, o1, o2, o3⟩ := hA.cells
  rw [hkd, show (((1 : Nat)) : Int) = (1 : Int) from rfl] at o0
  have HX := hid (HX1.out W2 hA.wt.pe)
  have HA := hid hA
  have HG := hid hG
  clear hA hG HX1
  go_wp2_with fail
  refine HX.out.mono ?_
  rintro e w3 ⟨rfl, v3, hw⟩
  have hA := HA.out.turn hw
  have hG := HG.out.trans hw
  clear hw HX HA HG c0 c1 o0 o1 o2 o3
  obtain ⟨c0, c1, -⟩ := hA.wt.cells
  obtain ⟨o0, o1, o2, o3⟩ := hA.cells
  rw [hkd, show (((1 : Nat)) : Int) = (1 : Int) from rfl] at o0
  have HX := hid (bit_any G.sb G.eb 392 12 12 q 0 s x1 v3 w3 hA.wt.pe HR.out.left.one (by omega) (by omega) (by omega) (by decide))
  unfold Writes at HX
  rw [show (((0 : Nat)) : Int) = (0 : Int) from rfl] at HX
  have HR3 := hid HR.out.right
  have HE := hid (runA_app [bitA (392 + q) 0] (lenA 12728 p o.len ++ distA o.len o.far) x1)
  have HA := hid hA
  have HG := hid hG
  clear hA hG HR
  generalize runA [bitA (392 + q) 0] x1 = x2 at *
  go_wp2_with fail
  refine HX.out.mono ?_
  rintro e w4 ⟨rfl, v4, hw⟩
  have hA := HA.out.turn hw
  have hG := HG.out.trans hw
  clear hw HX HA HG c0 c1 o0 o1 o2 o3
  obtain ⟨o0, o1, o2, o3⟩ := hA.cells
  rw [hkd, show (((1 : Nat)) : Int) = (1 : Int) from rfl] at o0
  have HX := hid (putMatch_any G s x2 v4 i p o w4 hA.wt hp h2 h3 hf HR3.out)
  unfold opV at HX
  rw [hkd, show (((1 : Nat)) : Int) = (1 : Int) from rfl] at HX
  clear HR3
  have HA := hid hA
  have HG := hid hG
  clear hA hG
  generalize hxl : runA (lenA 12728 p o.len ++ distA o.len o.far) x2 = xl at *
  have HXL := hid hxl
  clear hxl
  go_wp2_with fail
  refine HX.out.mono ?_
  rintro e w5 ⟨rfl, v5, hw⟩
  have hA := HA.out.turn hw
  have hG := HG.out.trans hw
  clear hw HX HA HG
  clear o0 o1 o2 o3
  obtain ⟨V, hV⟩ : ∃ V, V = w5.drew := ⟨_, rfl⟩
  have hA := hA.kept ((Keep.refl noBlock w5).drew)
  have hG := hG.drew
  rw [← hV] at hA hG
  obtain ⟨c0, -⟩ := hA.wt.cells
  obtain ⟨o0, o1, o2, o3⟩ := hA.cells
  rw [hkd, show (((1 : Nat)) : Int) = (1 : Int) from rfl] at o0
  have f3 := (show V.cell? ⟨G.sb, 3, none⟩ = some (.int .u8 (q : Int)) from by rw [HQ.out]; exact hA.wt.pe.st.first.2.2.2.1)
  have ff := hA.wt.pe.st.first.2.2.2.2.2.2.2.2 3
  have HS := hid (behind_any q 1 hph (by omega))
  rw [show behK q 1 = behM q from rfl, show (((1 : Nat)) : Int) = (1 : Int) from rfl] at HS
  have hb12 : behM q < 12 := by unfold behM; split <;> omega
  have hP := hA.wt.pe.ph (behM q) hb12
  have hA := hA.turn hP
  have hG := hG.trans hP
  rw [HQ.out] at hb12
  obtain ⟨q', hq'⟩ : ∃ q', q' = behM q := ⟨_, rfl⟩
  rw [← hq'] at hA hG HS
  have HQ' := hid hq'
  clear hq' hP hb12
  generalize hV2 : V.setCell ⟨G.sb, 3, none⟩ (.int .u8 (q' : Int)) = V2 at *
  have HV2 := hid hV2
  clear hV2
  obtain ⟨V3, hV3⟩ : ∃ V3, V3 = V2.drew := ⟨_, rfl⟩
  have hA := hA.kept ((Keep.refl noBlock V2).drew)
  have hG := hG.drew
  rw [← hV3] at hA hG
  obtain ⟨-, -, -, -, d4, -, -, dd⟩ := hA.wt.cells
  obtain ⟨-, e1, -, -⟩ := hA.cells
  have df := dd 4
  have hil := hA.wt.tl
  obtain ⟨j, hj⟩ : ∃ j : Nat, j = i + o.len := ⟨_, rfl⟩
  have hjI : (i : Int) + (o.len : Int) = (j : Int) := by omega
  have hjw : IntKind.i64.wrap ((i : Int) + (o.len : Int)) = (j : Int) := by rw [hjI]; exact wraps_i64 _ (by omega) (by omega)
  have HM := (HH.out.wrote hG).trans (hA.wt.move j (by omega) (by omega))
  have HM := hid HM
  have HJ := hid hj
  clear hA hG dd hil hjI hj HH
  go_wp2_with fail
  refine region_tail 14 mx (by kernel_rfl) ?_
  rw [← hV]
  clear hV
  simp only [List.take_succ_cons, List.take_zero, List.drop_succ_cons, List.drop_zero]
  iterate 13 (quiet_step (fail))
  refine wpQuiet_step (fun K hK => ?_)
  go_simp
  refine ⟨_, HS.out _, hK _ ?_⟩
  clear hK K
  refine wpQuiet_nil ?_
  go_wp2_with fail
  rw [HV2.out]
  clear HV2 c0 o0 o1 o2 o3 f3 ff
  refine region_tail 7 mx (by kernel_rfl) ?_
  rw [← hV3]
  clear hV3
  simp only [List.take_succ_cons, List.take_zero, List.drop_succ_cons, List.drop_zero]
  repeat (quiet_step (fail))
  refine wpQuiet_nil ?_
  go_wp2_with fail
  go_end0
  refine ⟨rfl, v5, ?_⟩
  show Puts G w _ _ (runA ([bitA (392 + q) 0] ++ (lenA 12728 p o.len ++ distA o.len o.far)) x1) v v5 _
  rw [HE.out, ← HJ.out, ← HQ'.out]
  exact HM.out

set_option maxRecDepth 20000 in
set_option maxHeartbeats 4000000 in
theorem put_2 (G : Wg) (s : Se) (x : Ex) (v : Value) (i : Nat) (o : Opn) (w : World) (h : Wt G w s x v i) (hkd : o.kind = 2) (h2 : 2 ≤ o.len) (h3 : o.len ≤ 273) (hwh : o.which < 4) (hi : i + o.len ≤ G.k.T.length) (hr : Room x ([bitA (8 + s.ph * 16 + lowW G.k i s.pb) 1] ++ ([bitA (392 + s.ph) 1] ++ (whichA s (lowW G.k i s.pb) o.which ++ lenA 13242 (lowW G.k i s.pb) o.len)))) :
    Calls Tryz.prog 48 #[.pointer (some ⟨G.wb, 0, none⟩), opV o] w fun e w' => e = .returned (.tuple #[]) ∧ ∃ v', Puts G w w' { takeR s o.which with ph := behR s.ph } (runA ([bitA (8 + s.ph * 16 + lowW G.k i s.pb) 1] ++ ([bitA (392 + s.ph) 1] ++ (whichA s (lowW G.k i s.pb) o.which ++ lenA 13242 (lowW G.k i s.pb) o.len))) x) v v' (i + o.len) := by
  unfold opV
  obtain ⟨hA, hG⟩ := h.box o
  rw [hkd, show (((2 : Nat)) : Int) = (2 : Int) from rfl] at hA hG ⊢
  generalize hob : w.heap.size = ob at *
  have HOB := hid hob
  clear hob
  obtain ⟨W0, hW0⟩ : ∃ W0, W0 = w.alloc (.cells #[.int .u8 2, .int .i64 (o.len : Int), .int .u32 (o.far : Int), .int .i64 (o.which : Int)] 152) := ⟨_, rfl⟩
  rw [← hW0] at hA hG
  have hpb := h.pe.st.ok.pb
  have hp := lowW_lt G.k i s.pb hpb
  have HLo := hid (fun n : Nat => lowest_any G s x v i s.pb hpb (W0.drewN n) (hA.wt.kept (keep_drewN W0 n)))
  obtain ⟨c0, -⟩ := hA.wt.cells
  obtain ⟨-, -, f2, f3, -⟩ := hA.wt.pe.st.first
  have hph := hA.wt.pe.st.ok.ph
  have HH := hid h
  have HA := hid hA
  have HG := hid hG
  rw [runA_app]
  have hr1 := hr.left
  have HR := hid hr.right
  clear h hA hG hr
  generalize lowW G.k i s.pb = p at *
  obtain ⟨q, hq⟩ : ∃ q, q = s.ph := ⟨_, rfl⟩
  rw [← hq] at f3 hph hr1 HR ⊢
  have HQ := hid hq
  have hphI : (q : Int) < 12 := by omega
  have hphJ : (q : Int) < 256 := by omega
  have hwq : IntKind.i64.wrap (q : Int) = (q : Int) := wraps_i64 _ (by omega) (by omega)
  clear hq
  have HX1 := hid (fun W (HP : Pe W G.sb G.eb s x v) => bit_any G.sb G.eb (8 + q * 16) 16 16 p 1 s x v W HP hr1.one (by omega) (by omega) (by omega) (by decide))
  unfold Writes at HX1
  rw [show (((1 : Nat)) : Int) = (1 : Int) from rfl] at HX1
  clear hr1
  generalize runA [bitA (8 + q * 16 + p) 1] x = x1 at *
  go_enter Tryz.func48, Tryz.ntmps48
  go_wp2_with fail
  rw [HOB.out, ← hW0]
  clear hW0
  go_quiet (first | (go_at_call 70; refine Calls.quiet_of (HLo.out _)))
  go_wp2_with fail
  have hA := HA.out.kept (keep_drewN W0 nq)
  have hG := HG.out.keep (keep_drewN W0 nq)
  generalize W0.drewN nq = W1 at *
  clear HA HG HLo c0 f2 f3
  obtain ⟨c0, -⟩ := hA.wt.cells
  have HA := hid hA
  have HG := hid hG
  clear hA hG
  go_quiet (fail)
  have hA := HA.out.kept (keep_drewN W1 nq)
  have hG := HG.out.keep (keep_drewN W1 nq)
  generalize W1.drewN nq = W2 at *
  clear HA HG c0
  obtain ⟨c0, c1, -⟩ := hA.wt.cells
  obtain ⟨o0, o1, o2, o3⟩ := hA.cells
  rw [hkd, show (((2 : Nat)) : Int) = (2 : Int) from rfl] at o0
  have HX := hid (HX1.out W2 hA.wt.pe)
  have HA := hid hA
  have HG := hid hG
  clear hA hG HX1
  go_wp2_with fail
  refine HX.out.mono ?_
  rintro e w3 ⟨rfl, v3, hw⟩
  have hA := HA.out.turn hw
  have hG := HG.out.trans hw
  clear hw HX HA HG c0 c1 o0 o1 o2 o3
  obtain ⟨c0, c1, -⟩ := hA.wt.cells
  obtain ⟨o0, o1, o2, o3⟩ := hA.cells
  rw [hkd, show (((2 : Nat)) : Int) = (2 : Int) from rfl] at o0
  have HX := hid (bit_any G.sb G.eb 392 12 12 q 1 s x1 v3 w3 hA.wt.pe HR.out.left.one (by omega) (by omega) (by omega) (by decide))
  unfold Writes at HX
  rw [show (((1 : Nat)) : Int) = (1 : Int) from rfl] at HX
  have HR3 := hid HR.out.right
  have HE := hid (runA_app [bitA (392 + q) 1] (whichA s p o.which ++ lenA 13242 p o.len) x1)
  have HA := hid hA
  have HG := hid hG
  clear hA hG HR
  generalize runA [bitA (392 + q) 1] x1 = x2 at *
  go_wp2_with fail
  refine HX.out.mono ?_
  rintro e w4 ⟨rfl, v4, hw⟩
  have hA := HA.out.turn hw
  have hG := HG.out.trans hw
  clear hw HX HA HG c0 c1 o0 o1 o2 o3
  obtain ⟨o0, o1, o2, o3⟩ := hA.cells
  rw [hkd, show (((2 : Nat)) : Int) = (2 : Int) from rfl] at o0
  have HX := hid (putRepeat_any G s x2 v4 i p o w4 hA.wt hp h2 h3 hwh HR3.out)
  unfold opV at HX
  rw [hkd, show (((2 : Nat)) : Int) = (2 : Int) from rfl] at HX
  clear HR3
  have HA := hid hA
  have HG := hid hG
  clear hA hG
  generalize hxl : runA (whichA s p o.which ++ lenA 13242 p o.len) x2 = xl at *
  have HXL := hid hxl
  clear hxl
  go_wp2_with fail
  refine HX.out.mono ?_
  rintro e w5 ⟨rfl, v5, hw⟩
  have hA := HA.out.turn hw
  have hG := HG.out.trans hw
  clear hw HX HA HG
  clear o0 o1 o2 o3
  obtain ⟨V, hV⟩ : ∃ V, V = w5.drew := ⟨_, rfl⟩
  have hA := hA.kept ((Keep.refl noBlock w5).drew)
  have hG := hG.drew
  rw [← hV] at hA hG
  obtain ⟨c0, -⟩ := hA.wt.cells
  obtain ⟨o0, o1, o2, o3⟩ := hA.cells
  rw [hkd, show (((2 : Nat)) : Int) = (2 : Int) from rfl] at o0
  have f3 := (show V.cell? ⟨G.sb, 3, none⟩ = some (.int .u8 (q : Int)) from by rw [HQ.out]; rw [← takeR_ph s o.which]; exact hA.wt.pe.st.first.2.2.2.1)
  have ff := hA.wt.pe.st.first.2.2.2.2.2.2.2.2 3
  have HS := hid (behind_any q 2 hph (by omega))
  rw [show behK q 2 = behR q from rfl, show (((2 : Nat)) : Int) = (2 : Int) from rfl] at HS
  have hb12 : behR q < 12 := by unfold behR; split <;> omega
  have hP := hA.wt.pe.ph (behR q) hb12
  have hA := hA.turn hP
  have hG := hG.trans hP
  rw [HQ.out] at hb12
  obtain ⟨q', hq'⟩ : ∃ q', q' = behR q := ⟨_, rfl⟩
  rw [← hq'] at hA hG HS
  have HQ' := hid hq'
  clear hq' hP hb12
  generalize hV2 : V.setCell ⟨G.sb, 3, none⟩ (.int .u8 (q' : Int)) = V2 at *
  have HV2 := hid hV2
  clear hV2
  obtain ⟨V3, hV3⟩ : ∃ V3, V3 = V2.drew := ⟨_, rfl⟩
  have hA := hA.kept ((Keep.refl noBlock V2).drew)
  have hG := hG.drew
  rw [← hV3] at hA hG
  obtain ⟨-, -, -, -, d4, -, -, dd⟩ := hA.wt.cells
  obtain ⟨-, e1, -, -⟩ := hA.cells
  have df := dd 4
  have hil := hA.wt.tl
  obtain ⟨j, hj⟩ : ∃ j : Nat, j = i + o.len := ⟨_, rfl⟩
  have hjI : (i : Int) + (o.len : Int) = (j : Int) := by omega
  have hjw : IntKind.i64.wrap ((i : Int) + (o.len : Int)) = (j : Int) := by rw [hjI]; exact wraps_i64 _ (by omega) (by omega)
  have HM := (HH.out.wrote hG).trans (hA.wt.move j (by omega) (by omega))
  have HM := hid HM
  have HJ := hid hj
  clear hA hG dd hil hjI hj HH
  go_wp2_with fail
  refine region_tail 14 mx (by kernel_rfl) ?_
  rw [← hV]
  clear hV
  simp only [List.take_succ_cons, List.take_zero, List.drop_succ_cons, List.drop_zero]
  iterate 13 (quiet_step (fail))
  refine wpQuiet_step (fun K hK => ?_)
  go_simp
  refine ⟨_, HS.out _, hK _ ?_⟩
  clear hK K
  refine wpQuiet_nil ?_
  go_wp2_with fail
  rw [HV2.out]
  clear HV2 c0 o0 o1 o2 o3 f3 ff
  refine region_tail 7 mx (by kernel_rfl) ?_
  rw [← hV3]
  clear hV3
  simp only [List.take_succ_cons, List.take_zero, List.drop_succ_cons, List.drop_zero]
  repeat (quiet_step (fail))
  refine wpQuiet_nil ?_
  go_wp2_with fail
  go_end0
  refine ⟨rfl, v5, ?_⟩
  show Puts G w _ _ (runA ([bitA (392 + q) 1] ++ (whichA s p o.which ++ lenA 13242 p o.len)) x1) v v5 _
  rw [HE.out, ← HJ.out, ← HQ'.out]
  exact HM.out

theorem put_any (G : Wg) (s : Se) (x : Ex) (v : Value) (i : Nat) (o : Opn) (w : World) (h : Wt G w s x v i) (ho : okOp G.k s i o) (hr : Room x (opA G.k s i o)) :
    Calls Tryz.prog 48 #[.pointer (some ⟨G.wb, 0, none⟩), opV o] w fun e w' => e = .returned (.tuple #[]) ∧ ∃ v', Puts G w w' (opS o s) (runA (opA G.k s i o) x) v v' (i + o.len) := by
  unfold opA at hr ⊢
  unfold opS
  rcases ho with ⟨e, e1, e2, e3⟩ | ⟨e, e1, e2, e3, e4⟩ | ⟨e, e1, e2, e3, e4⟩
  · rw [if_pos e] at hr
    rw [if_pos e, if_pos e]
    exact put_0 G s x v i o w h e e2 e3 e1 hr
  · rw [if_neg (by omega), if_pos e] at hr
    rw [if_neg (show ¬ o.kind = 0 by omega), if_neg (show ¬ o.kind = 0 by omega), if_pos e, if_pos e]
    exact put_1 G s x v i o w h e e1 e2 e3 e4.1 hr
  · rw [if_neg (by omega), if_neg (by omega)] at hr
    rw [if_neg (show ¬ o.kind = 0 by omega), if_neg (show ¬ o.kind = 0 by omega), if_neg (show ¬ o.kind = 1 by omega), if_neg (show ¬ o.kind = 1 by omega)]
    exact put_2 G s x v i o w h e e1 e2 e3 e4.1 hr

end Go.Proofs.YtnokemcogjoonaaGreatDoor.Pt
