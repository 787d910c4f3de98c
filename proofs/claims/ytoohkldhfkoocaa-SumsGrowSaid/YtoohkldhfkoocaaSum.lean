/-
  The sums that grow: New, Add, Value; and the three numbers of bytes.
-/
import Derived.Test.YtoohkldhfkoocaaXin
namespace Go.Proofs.Ytoohkldhfkoocaa
open Go.RowKit Go.Shelf
set_option linter.unusedVariables false

def P32 : Nat := 3988292384
def M32 : Nat := 4294967295
def P64 : Nat := 14514072000185962306
def M64 : Nat := 18446744073709551615
def crc32 (bs : List Nat) : Nat := bytesIn P32 M32 bs ^^^ M32
def crc64 (bs : List Nat) : Nat := bytesIn P64 M64 bs ^^^ M64
/-- The number of a kind. -/
def sumOf (kind : Int) (bs : List Nat) : Nat := if kind = 1 then crc32 bs else if kind = 2 then crc64 bs else if kind = 3 then xxh bs else 0

theorem sumOf1 (bs : List Nat) : sumOf 1 bs = crc32 bs := by unfold sumOf; rw [if_pos rfl]
theorem sumOf2 (bs : List Nat) : sumOf 2 bs = crc64 bs := by unfold sumOf; rw [if_neg (by decide), if_pos rfl]
theorem sumOf3 (bs : List Nat) : sumOf 3 bs = xxh bs := by unfold sumOf; rw [if_neg (by decide), if_neg (by decide), if_pos rfl]

theorem newCRC_i (poly mask : Nat) (pi mi : Int) (ep : pi = (poly : Int)) (em : mi = (mask : Int)) (hp : poly < 2 ^ 64) (w : World) :
    Calls Try.prog 25 #[.int .u64 pi, .int .u64 mi] w fun e w' => e = .returned (.pointer (some ⟨w.heap.size, 0, none⟩)) ∧ IsC w' w.heap.size poly mask mask ∧ Keep noBlock w w' := by
  subst ep; subst em; exact newCRC_any poly mask hp w

def ptr (b : Nat) : Value := .pointer (some ⟨b, 0, none⟩)
/-- Block sb is a sum of a kind of the bytes bs, its inner object in block cb. -/
def SumCore (w : World) (sb cb : Nat) (kind : Int) (bs : List Nat) : Prop :=
  (kind = 1 ∧ w.heap[sb]? = some (.cells #[.iface 46 (.pointer (some ⟨cb, 0, none⟩))] 51 (0, 0)) ∧ IsC w cb P32 M32 (bytesIn P32 M32 bs)) ∨
  (kind = 2 ∧ w.heap[sb]? = some (.cells #[.iface 46 (.pointer (some ⟨cb, 0, none⟩))] 51 (0, 0)) ∧ IsC w cb P64 M64 (bytesIn P64 M64 bs)) ∨
  (kind = 3 ∧ w.heap[sb]? = some (.cells #[.iface 52 (.pointer (some ⟨cb, 0, none⟩))] 51 (0, 0)) ∧ IsX w cb bs) ∨
  ((kind ≠ 1 ∧ kind ≠ 2 ∧ kind ≠ 3) ∧ w.heap[sb]? = some (.cells #[.nilIface] 51 (0, 0)))
structure IsS (w : World) (sb cb : Nat) (kind : Int) (bs : List Nat) : Prop where
  core : SumCore w sb cb kind bs
  bytes : ∀ j : Nat, bs[j]?.getD 0 < 256
  len : bs.length < 2 ^ 61
  ne : sb ≠ cb

set_option maxRecDepth 100000 in
set_option maxHeartbeats 1000000 in
theorem new_any (kind : Int) (w : World) :
    Calls Try.prog 16 #[.int .i64 kind] w fun e w' => ∃ sb cb, e = .returned (.pointer (some ⟨sb, 0, none⟩)) ∧ w.heap.size ≤ sb ∧ w.heap.size ≤ cb ∧ IsS w' sb cb kind [] ∧ Keep noBlock w w' := by
  by_cases k1 : kind = 1
  · subst k1
    go_enter Try.func16, Try.ntmps16
    go_wp2_with fail
    refine (newCRC_i P32 M32 _ _ (by simp [P32]) (by simp [M32]) (by decide) _).mono ?_
    rintro e w1 ⟨rfl, hC, hK⟩
    have hsz := hK.size
    have hlt := hC.lt
    go_wp2_with fail
    go_ret
    refine ⟨w1.heap.size, w.heap.size, rfl, hsz, Nat.le_refl _, ⟨.inl ⟨rfl, World.alloc_heap_new w1 _, hC.keep ((Keep.refl noBlock _).alloc _) (fun h => h)⟩, fun j => by simp, by decide, by omega⟩, hK.alloc _⟩
  by_cases k2 : kind = 2
  · subst k2
    go_enter Try.func16, Try.ntmps16
    go_wp2_with fail
    refine (newCRC_i P64 M64 _ _ (by simp [P64]) (by simp [M64]) (by decide) _).mono ?_
    rintro e w1 ⟨rfl, hC, hK⟩
    have hsz := hK.size
    have hlt := hC.lt
    go_wp2_with fail
    go_ret
    refine ⟨w1.heap.size, w.heap.size, rfl, hsz, Nat.le_refl _, ⟨.inr (.inl ⟨rfl, World.alloc_heap_new w1 _, hC.keep ((Keep.refl noBlock _).alloc _) (fun h => h)⟩), fun j => by simp, by decide, by omega⟩, hK.alloc _⟩
  by_cases k3 : kind = 3
  · subst k3
    go_enter Try.func16, Try.ntmps16
    go_wp2_with fail
    refine (newX_any _).mono ?_
    rintro e w1 ⟨rfl, hC, hK⟩
    have hsz := hK.size
    have hlt := hC.lt
    go_wp2_with fail
    go_ret
    refine ⟨w1.heap.size, w.heap.size, rfl, hsz, Nat.le_refl _, ⟨.inr (.inr (.inl ⟨rfl, World.alloc_heap_new w1 _, hC.keep ((Keep.refl noBlock _).alloc _) (fun h => h)⟩)), fun j => by simp, by decide, by omega⟩, hK.alloc _⟩
  · have d1 : (kind == 1) = false := by simpa using k1
    have d2 : (kind == 2) = false := by simpa using k2
    have d3 : (kind == 3) = false := by simpa using k3
    have HKK : Hid (kind ≠ 1 ∧ kind ≠ 2 ∧ kind ≠ 3) := ⟨k1, k2, k3⟩
    clear k1 k2 k3
    go_enter Try.func16, Try.ntmps16
    go_wp2_with fail
    go_ret
    refine ⟨w.heap.size, w.heap.size + 1, rfl, Nat.le_refl _, by omega, ⟨.inr (.inr (.inr ⟨HKK.out, World.alloc_heap_new w _⟩)), fun j => by simp, by decide, by omega⟩, (Keep.refl _ w).alloc _⟩

theorem m46v (a : Addr) (w : World) : (method 178 46 (.pointer (some a)) "baler/sums.value").run Try.prog w = .ok (44, .pointer (some a)) w := by kernel_rfl
theorem m46a (a : Addr) (w : World) : (method 178 46 (.pointer (some a)) "baler/sums.add").run Try.prog w = .ok (43, .pointer (some a)) w := by kernel_rfl
theorem m52v (a : Addr) (w : World) : (method 178 52 (.pointer (some a)) "baler/sums.value").run Try.prog w = .ok (47, .pointer (some a)) w := by kernel_rfl
theorem m52a (a : Addr) (w : World) : (method 178 52 (.pointer (some a)) "baler/sums.add").run Try.prog w = .ok (45, .pointer (some a)) w := by kernel_rfl

set_option maxRecDepth 100000 in
set_option maxHeartbeats 1000000 in
theorem value_crc (sb cb poly mask x : Nat) (hm : mask < 2 ^ 64) (hx : x < 2 ^ 64) (w : World) (ho : w.heap[sb]? = some (.cells #[.iface 46 (.pointer (some ⟨cb, 0, none⟩))] 51 (0, 0))) (h : IsC w cb poly mask x) :
    Calls Try.prog 17 #[.pointer (some ⟨sb, 0, none⟩)] w fun e w' => e = .returned (.int .u64 ((x ^^^ mask : Nat) : Int)) ∧ ∃ n, w' = w.drewN n := by
  have hc : w.cell? ⟨sb, 0, none⟩ = some (.iface 46 (.pointer (some ⟨cb, 0, none⟩))) := cell_of ho 0
  have hmv := m46v ⟨cb, 0, none⟩
  go_enter Try.func17, Try.ntmps17
  go_wp2_with fail
  refine (crcValue_any cb poly mask x hm hx w h).mono ?_
  rintro e w' ⟨rfl, n, rfl⟩
  go_wp2_with fail
  go_ret
  exact ⟨rfl, n, rfl⟩

set_option maxRecDepth 100000 in
set_option maxHeartbeats 1000000 in
theorem value_xxh (sb cb : Nat) (bs : List Nat) (w : World) (ho : w.heap[sb]? = some (.cells #[.iface 52 (.pointer (some ⟨cb, 0, none⟩))] 51 (0, 0))) (h : IsX w cb bs) :
    Calls Try.prog 17 #[.pointer (some ⟨sb, 0, none⟩)] w fun e w' => e = .returned (.int .u64 ((xxh bs : Nat) : Int)) ∧ ∃ n, w' = w.drewN n := by
  have hc : w.cell? ⟨sb, 0, none⟩ = some (.iface 52 (.pointer (some ⟨cb, 0, none⟩))) := cell_of ho 0
  have hmv := m52v ⟨cb, 0, none⟩
  go_enter Try.func17, Try.ntmps17
  go_wp2_with fail
  refine (xval_any cb bs w h).mono ?_
  rintro e w' ⟨rfl, n, rfl⟩
  go_wp2_with fail
  go_ret
  exact ⟨rfl, n, rfl⟩

set_option maxRecDepth 100000 in
set_option maxHeartbeats 1000000 in
theorem value_none (sb : Nat) (w : World) (ho : w.heap[sb]? = some (.cells #[.nilIface] 51 (0, 0))) :
    Calls Try.prog 17 #[.pointer (some ⟨sb, 0, none⟩)] w fun e w' => e = .returned (.int .u64 0) ∧ ∃ n, w' = w.drewN n := by
  have hc : w.cell? ⟨sb, 0, none⟩ = some .nilIface := cell_of ho 0
  go_enter Try.func17, Try.ntmps17
  go_wp2_with fail
  go_ret
  exact ⟨rfl, 0, rfl⟩

theorem b64 {bs : List Nat} (h : ∀ j : Nat, bs[j]?.getD 0 < 256) : ∀ j : Nat, bs[j]?.getD 0 < 2 ^ 64 := fun j => Nat.lt_of_lt_of_le (h j) (by decide)
theorem b32 {bs : List Nat} (h : ∀ j : Nat, bs[j]?.getD 0 < 256) : ∀ j : Nat, bs[j]?.getD 0 < 2 ^ 32 := fun j => Nat.lt_of_lt_of_le (h j) (by decide)
theorem in32_lt {bs : List Nat} (h : ∀ j : Nat, bs[j]?.getD 0 < 256) : bytesIn P32 M32 bs < 2 ^ 32 := bytesIn_lt (by decide) bs (b32 h) M32 (by decide)
theorem in64_lt {bs : List Nat} (h : ∀ j : Nat, bs[j]?.getD 0 < 256) : bytesIn P64 M64 bs < 2 ^ 64 := bytesIn_lt (by decide) bs (b64 h) M64 (by decide)
theorem crc32_lt {bs : List Nat} (h : ∀ j : Nat, bs[j]?.getD 0 < 256) : crc32 bs < 2 ^ 32 := Nat.xor_lt_two_pow (in32_lt h) (by decide)

theorem value_any (sb cb : Nat) (kind : Int) (bs : List Nat) (w : World) (h : IsS w sb cb kind bs) :
    Calls Try.prog 17 #[.pointer (some ⟨sb, 0, none⟩)] w fun e w' => e = .returned (.int .u64 ((sumOf kind bs : Nat) : Int)) ∧ ∃ n, w' = w.drewN n := by
  have h32 := in32_lt h.bytes
  rcases h.core with ⟨rfl, ho, hi⟩ | ⟨rfl, ho, hi⟩ | ⟨rfl, ho, hi⟩ | ⟨⟨k1, k2, k3⟩, ho⟩
  · rw [sumOf1, crc32]
    exact value_crc sb cb P32 M32 _ (by decide) (Nat.lt_trans h32 (by decide)) w ho hi
  · rw [sumOf2, crc64]
    exact value_crc sb cb P64 M64 _ (by decide) (in64_lt h.bytes) w ho hi
  · rw [sumOf3]
    exact value_xxh sb cb bs w ho hi
  · have e0 : sumOf kind bs = 0 := by simp [sumOf, k1, k2, k3]
    rw [e0]
    exact value_none sb w ho

set_option maxRecDepth 100000 in
set_option maxHeartbeats 1000000 in
theorem add_crc (sb cb poly mask x : Nat) (hp : poly < 2 ^ 64) (hx : x < 2 ^ 64) (a : Option Addr) (cap gb off : Nat) (bs : List Nat) (hbs : ∀ j : Nat, bs[j]?.getD 0 < 256) (hfit : bs.length < 2 ^ 48) (w : World) (ho : w.heap[sb]? = some (.cells #[.iface 46 (.pointer (some ⟨cb, 0, none⟩))] 51 (0, 0))) (h : IsC w cb poly mask x)
    (ha : a = some ⟨gb, off, none⟩ ∨ bs = []) (hcs : ∀ j, j < bs.length → w.cell? ⟨gb, off + j, none⟩ = some (.int .u8 ((bs[j]?.getD 0 : Nat) : Int))) (hne : gb ≠ cb) :
    Calls Try.prog 19 #[.pointer (some ⟨sb, 0, none⟩), .slice a bs.length cap] w fun e w' => e = .returned (.tuple #[]) ∧ IsC w' cb poly mask (bytesIn poly x bs) ∧ Keep (fun k => k = cb) w w' := by
  have hc : w.cell? ⟨sb, 0, none⟩ = some (.iface 46 (.pointer (some ⟨cb, 0, none⟩))) := cell_of ho 0
  have hmv := m46a ⟨cb, 0, none⟩
  have HH := crcAdd_any cb poly mask x hp hx a cap gb off bs hbs hfit w h ha hcs hne
  clear ha hcs hbs
  go_enter Try.func19, Try.ntmps19
  go_wp2_with fail
  refine HH.mono ?_
  rintro e w' ⟨rfl, h1, h2⟩
  go_wp2_with fail
  go_end0
  exact ⟨rfl, h1, h2⟩

set_option maxRecDepth 100000 in
set_option maxHeartbeats 1000000 in
theorem add_xxh (sb cb : Nat) (L : List Nat) (a : Option Addr) (cap gb off : Nat) (bs : List Nat) (hbs : ∀ j : Nat, bs[j]?.getD 0 < 256) (hcap : bs.length ≤ cap) (hfit : L.length + bs.length < 2 ^ 62) (w : World) (ho : w.heap[sb]? = some (.cells #[.iface 52 (.pointer (some ⟨cb, 0, none⟩))] 51 (0, 0))) (h : IsX w cb L)
    (ha : a = some ⟨gb, off, none⟩ ∨ bs = []) (hcs : ∀ j, j < bs.length → w.cell? ⟨gb, off + j, none⟩ = some (.int .u8 ((bs[j]?.getD 0 : Nat) : Int))) (hne : gb ≠ cb) :
    Calls Try.prog 19 #[.pointer (some ⟨sb, 0, none⟩), .slice a bs.length cap] w fun e w' => e = .returned (.tuple #[]) ∧ IsX w' cb (L ++ bs) ∧ Keep (fun k => k = cb) w w' := by
  have hc : w.cell? ⟨sb, 0, none⟩ = some (.iface 52 (.pointer (some ⟨cb, 0, none⟩))) := cell_of ho 0
  have hmv := m52a ⟨cb, 0, none⟩
  have HH := xadd_any cb L a cap gb off bs hbs hcap hfit w h ha hcs hne
  clear ha hcs hbs hcap hfit
  go_enter Try.func19, Try.ntmps19
  go_wp2_with fail
  refine HH.mono ?_
  rintro e w' ⟨rfl, h1, h2⟩
  go_wp2_with fail
  go_end0
  exact ⟨rfl, h1, h2⟩

set_option maxRecDepth 100000 in
set_option maxHeartbeats 1000000 in
theorem add_none (sb : Nat) (v : Value) (w : World) (ho : w.heap[sb]? = some (.cells #[.nilIface] 51 (0, 0))) :
    Calls Try.prog 19 #[.pointer (some ⟨sb, 0, none⟩), v] w fun e w' => e = .returned (.tuple #[]) ∧ w' = w := by
  have hc : w.cell? ⟨sb, 0, none⟩ = some .nilIface := cell_of ho 0
  go_enter Try.func19, Try.ntmps19
  go_wp2_with fail
  refine bodyPost_ret (results_none rfl _ _ _) rfl ?_
  exact ⟨rfl, rfl⟩

set_option maxHeartbeats 1000000 in
theorem add_nil (v : Value) (w : World) :
    Calls Try.prog 19 #[.pointer none, v] w fun e w' => e = .returned (.tuple #[]) ∧ w' = w := by
  go_enter Try.func19, Try.ntmps19
  go_wp2_with fail
  refine bodyPost_ret (results_none rfl _ _ _) rfl ?_
  exact ⟨rfl, rfl⟩
set_option maxHeartbeats 1000000 in
theorem value_nil (w : World) :
    Calls Try.prog 17 #[.pointer none] w fun e w' => e = .returned (.int .u64 0) ∧ w' = w := by
  go_enter Try.func17, Try.ntmps17
  go_wp2_with fail
  go_ret
  exact ⟨rfl, rfl⟩

/-- A slice of bytes: where they lie, and what they are. -/
structure Bytes (w : World) (a : Option Addr) (cap gb off : Nat) (bs : List Nat) : Prop where
  at_ : a = some ⟨gb, off, none⟩ ∨ bs = []
  cells : ∀ j, j < bs.length → w.cell? ⟨gb, off + j, none⟩ = some (.int .u8 ((bs[j]?.getD 0 : Nat) : Int))
  lt : ∀ j : Nat, bs[j]?.getD 0 < 256
  cap : bs.length ≤ cap
  len : bs.length < 2 ^ 48
theorem Bytes.block {w : World} {a : Option Addr} {cap gb off : Nat} {bs : List Nat} (h : Bytes w a cap gb off bs) (hb : bs ≠ []) : gb < w.heap.size :=
  World.block_lt_of_cell? w ⟨gb, off + 0, none⟩ (h.cells 0 (List.length_pos_iff.2 hb))
theorem Bytes.keep {w w' : World} {S : Nat → Prop} {a : Option Addr} {cap gb off : Nat} {bs : List Nat} (h : Bytes w a cap gb off bs) (hk : Keep S w w') (hS : bs ≠ [] → ¬ S gb) : Bytes w' a cap gb off bs :=
  ⟨h.at_, fun j hj => by
    have hne : bs ≠ [] := by rintro rfl; simp at hj
    exact (World.cell?_of_block (hk.block gb (h.block hne) (hS hne))).trans (h.cells j hj), h.lt, h.cap, h.len⟩

theorem add_any (sb cb : Nat) (kind : Int) (L : List Nat) (a : Option Addr) (cap gb off : Nat) (bs : List Nat) (w : World) (h : IsS w sb cb kind L) (hb : Bytes w a cap gb off bs) (hl : L.length + bs.length < 2 ^ 61) (hne0 : bs ≠ [] → gb ≠ cb) :
    Calls Try.prog 19 #[.pointer (some ⟨sb, 0, none⟩), .slice a bs.length cap] w fun e w' => e = .returned (.tuple #[]) ∧ IsS w' sb cb kind (L ++ bs) ∧ Keep (fun k => k = cb) w w' := by
  obtain ⟨gb', off', hb', hne⟩ : ∃ gb' off', Bytes w a cap gb' off' bs ∧ gb' ≠ cb := by
    by_cases e : bs = []
    · subst e
      exact ⟨cb + 1, 0, ⟨.inr rfl, fun j hj => by simp at hj, hb.lt, hb.cap, hb.len⟩, by omega⟩
    · exact ⟨gb, off, hb, hne0 e⟩
  have hbl := app_lt h.bytes hb'.lt
  have hll : (L ++ bs).length < 2 ^ 61 := by rw [List.length_append]; exact hl
  have h32 := in32_lt h.bytes
  have hsne := h.ne
  rcases h.core with ⟨rfl, ho, hi⟩ | ⟨rfl, ho, hi⟩ | ⟨rfl, ho, hi⟩ | ⟨⟨k1, k2, k3⟩, ho⟩
  · refine (add_crc sb cb P32 M32 _ (by decide) (Nat.lt_trans h32 (by decide)) a cap gb' off' bs hb'.lt hb'.len w ho hi hb'.at_ hb'.cells hne).mono ?_
    rintro e w' ⟨rfl, h1, h2⟩
    rw [← bytesIn_append] at h1
    exact ⟨rfl, ⟨.inl ⟨rfl, h2.obj ho hsne, h1⟩, hbl, hll, hsne⟩, h2⟩
  · refine (add_crc sb cb P64 M64 _ (by decide) (in64_lt h.bytes) a cap gb' off' bs hb'.lt hb'.len w ho hi hb'.at_ hb'.cells hne).mono ?_
    rintro e w' ⟨rfl, h1, h2⟩
    rw [← bytesIn_append] at h1
    exact ⟨rfl, ⟨.inr (.inl ⟨rfl, h2.obj ho hsne, h1⟩), hbl, hll, hsne⟩, h2⟩
  · refine (add_xxh sb cb L a cap gb' off' bs hb'.lt hb'.cap (by omega) w ho hi hb'.at_ hb'.cells hne).mono ?_
    rintro e w' ⟨rfl, h1, h2⟩
    exact ⟨rfl, ⟨.inr (.inr (.inl ⟨rfl, h2.obj ho hsne, h1⟩)), hbl, hll, hsne⟩, h2⟩
  · refine (add_none sb _ w ho).mono ?_
    rintro e w' ⟨rfl, rfl⟩
    exact ⟨rfl, ⟨.inr (.inr (.inr ⟨⟨k1, k2, k3⟩, ho⟩)), hbl, hll, hsne⟩, Keep.refl _ _⟩

set_option maxRecDepth 100000 in
set_option maxHeartbeats 1000000 in
theorem whole_any (kind : Int) (a : Option Addr) (cap gb off : Nat) (bs : List Nat) (w : World) (hb : Bytes w a cap gb off bs) :
    Calls Try.prog 21 #[.int .i64 kind, .slice a bs.length cap] w fun e w' => e = .returned (.int .u64 ((sumOf kind bs : Nat) : Int)) ∧ Keep noBlock w w' := by
  have HB := (show Hid _ from hb)
  clear hb
  go_enter Try.func21, Try.ntmps21
  go_wp2_with fail
  refine (new_any kind w).mono ?_
  rintro e w1 ⟨sb, cb, rfl, hsb, hcb, hS, hK⟩
  go_wp2_with fail
  refine (add_any sb cb kind [] a cap gb off bs w1 hS (HB.out.keep hK (fun _ h => h)) (by have := HB.out.len; simp; omega) (fun hne => by have := HB.out.block hne; omega)).mono ?_
  rintro e w2 ⟨rfl, hS2, hK2⟩
  rw [List.nil_append] at hS2
  have hK3 : Keep noBlock w w2 := hK.trans hK2 (fun i hi e => by omega)
  clear hS hK hK2
  go_wp2_with fail
  refine (value_any sb cb kind bs w2 hS2).mono ?_
  rintro e w3 ⟨rfl, n, rfl⟩
  go_wp2_with fail
  go_ret
  exact ⟨rfl, hK3.trans' (keep_drewN _ _)⟩

theorem wrap_u32_nat (k : Nat) (hk : k < 2 ^ 32) : IntKind.u32.wrap (k : Int) = (k : Int) := by
  rw [IntKind.wrap_u32]; omega

set_option maxRecDepth 100000 in
set_option maxHeartbeats 1000000 in
theorem crc32_any (a : Option Addr) (cap gb off : Nat) (bs : List Nat) (w : World) (hb : Bytes w a cap gb off bs) :
    Calls Try.prog 10 #[.slice a bs.length cap] w fun e w' => e = .returned (.int .u32 ((crc32 bs : Nat) : Int)) ∧ Keep noBlock w w' := by
  have HW := whole_any 1 a cap gb off bs w hb
  have hlt := crc32_lt hb.lt
  rw [sumOf1] at HW
  clear hb
  generalize crc32 bs = r at HW hlt ⊢
  have hwr := wrap_u32_nat r hlt
  have hmod : (r : Int) % 4294967296 = (r : Int) := by omega
  go_enter Try.func10, Try.ntmps10
  go_wp2_with fail
  refine HW.mono ?_
  rintro e w1 ⟨rfl, hK⟩
  go_wp2_with fail
  go_ret
  exact ⟨rfl, hK⟩
set_option maxRecDepth 100000 in
set_option maxHeartbeats 1000000 in
theorem crc64_any (a : Option Addr) (cap gb off : Nat) (bs : List Nat) (w : World) (hb : Bytes w a cap gb off bs) :
    Calls Try.prog 12 #[.slice a bs.length cap] w fun e w' => e = .returned (.int .u64 ((crc64 bs : Nat) : Int)) ∧ Keep noBlock w w' := by
  have HW := whole_any 2 a cap gb off bs w hb
  rw [sumOf2] at HW
  clear hb
  go_enter Try.func12, Try.ntmps12
  go_wp2_with fail
  refine HW.mono ?_
  rintro e w1 ⟨rfl, hK⟩
  go_wp2_with fail
  go_ret
  exact ⟨rfl, hK⟩
set_option maxRecDepth 100000 in
set_option maxHeartbeats 1000000 in
theorem xxh_any (a : Option Addr) (cap gb off : Nat) (bs : List Nat) (w : World) (hb : Bytes w a cap gb off bs) :
    Calls Try.prog 14 #[.slice a bs.length cap] w fun e w' => e = .returned (.int .u64 ((xxh bs : Nat) : Int)) ∧ Keep noBlock w w' := by
  have HW := whole_any 3 a cap gb off bs w hb
  rw [sumOf3] at HW
  clear hb
  go_enter Try.func14, Try.ntmps14
  go_wp2_with fail
  refine HW.mono ?_
  rintro e w1 ⟨rfl, hK⟩
  go_wp2_with fail
  go_ret
  exact ⟨rfl, hK⟩

end Go.Proofs.Ytoohkldhfkoocaa
