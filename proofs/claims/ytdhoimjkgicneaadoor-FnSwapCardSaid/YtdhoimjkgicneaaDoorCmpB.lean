/- Tests of whole numbers; the table of signs, and what it answers; the specification's. -/
import Derived.Test.YtdhoimjkgicneaaDoorNumA
import Derived.Test.YtdhoimjkgicneaaDoorCmpA
namespace Go.Proofs.YtdhoimjkgicneaaDoor
open Go Go.RowKit

set_option maxHeartbeats 400000 in
theorem impl_wcmp (k a b : Int) (w : World) (h1 : 1 ≤ k) (h2 : k ≤ 6) (a1 : -32768 ≤ a) (a2 : a ≤ 32767) (b1 : -32768 ≤ b) (b2 : b ≤ 32767) :
    Calls Tryd.prog 23 #[.int .i64 k, .int .i16 a, .int .i16 b] w fun e w' => e = .returned (.bool (cmpB k (some (compare a b)))) ∧ Below w.heap.size w w' := by
  have o : Hid (FloatKind.f64.format.order (floatOfInt .f64 a) (floatOfInt .f64 b) = some (compare a b)) := order_int a b (by omega) (by omega)
  go_enter Tryd.func23, Tryd.ntmps23
  go_wp2_with fail
  refine (impl_rcmp k _ _ _ h1 h2).mono ?_
  rintro e w1 ⟨rfl, hb⟩
  have B : Hid (Below w.heap.size w w1) := hb
  clear hb
  rw [o.out]
  go_wp2
  go_ret
  exact ⟨rfl, B.out⟩

/-- The opposite of a test, and the test with its sides changed. -/
def flipZ (k : Int) : Int := if k = 1 then 5 else if k = 2 then 6 else if k = 3 then 4 else if k = 4 then 3 else if k = 5 then 1 else if k = 6 then 2 else 0
def swapZ (k : Int) : Int := if k = 1 then 6 else if k = 2 then 5 else if k = 3 then 3 else if k = 4 then 4 else if k = 5 then 2 else if k = 6 then 1 else 0

theorem sixOf {k : Int} (h1 : 1 ≤ k) (h2 : k ≤ 6) : k = 1 ∨ k = 2 ∨ k = 3 ∨ k = 4 ∨ k = 5 ∨ k = 6 := by omega
theorem flipZ_bd {k : Int} (h1 : 1 ≤ k) (h2 : k ≤ 6) : 1 ≤ flipZ k ∧ flipZ k ≤ 6 := by
  rcases sixOf h1 h2 with rfl | rfl | rfl | rfl | rfl | rfl <;> decide
theorem swapZ_bd {k : Int} (h1 : 1 ≤ k) (h2 : k ≤ 6) : 1 ≤ swapZ k ∧ swapZ k ≤ 6 := by
  rcases sixOf h1 h2 with rfl | rfl | rfl | rfl | rfl | rfl <;> decide
theorem swapZ_swapZ {k : Int} (h1 : 1 ≤ k) (h2 : k ≤ 6) : swapZ (swapZ k) = k := by
  rcases sixOf h1 h2 with rfl | rfl | rfl | rfl | rfl | rfl <;> decide
theorem flip_cmp {k : Int} (h1 : 1 ≤ k) (h2 : k ≤ 6) (o : Ordering) : (cmpB k (some o) == cmpB (flipZ k) (some o)) = false := by
  rcases sixOf h1 h2 with rfl | rfl | rfl | rfl | rfl | rfl <;> cases o <;> decide
theorem none_cmp {k : Int} (h1 : 1 ≤ k) (h2 : k ≤ 6) : cmpB k none = (k == 4) := by
  rcases sixOf h1 h2 with rfl | rfl | rfl | rfl | rfl | rfl <;> decide
theorem swap_cmp {k : Int} (h1 : 1 ≤ k) (h2 : k ≤ 6) (o : Option Ordering) : cmpB k o = cmpB (swapZ k) (o.map Ordering.swap) := by
  rcases sixOf h1 h2 with rfl | rfl | rfl | rfl | rfl | rfl <;> rcases o with _ | o <;> (try cases o) <;> decide

/-- The program's table of signs lies in memory as its text lays it. -/
structure CTab (w : World) : Prop where
  zk : 1 < w.heap.size
  c0 : ∀ k : Nat, 1 ≤ k → k ≤ 6 → ∃ s, w.cell? ⟨1, k * 3, none⟩ = some (.string s)
  c1 : ∀ k : Nat, 1 ≤ k → k ≤ 6 → w.cell? ⟨1, k * 3 + 1, none⟩ = some (.int .i64 (flipZ k))
  c2 : ∀ k : Nat, 1 ≤ k → k ≤ 6 → w.cell? ⟨1, k * 3 + 2, none⟩ = some (.int .i64 (swapZ k))

theorem CTab.below {w w' : World} {B : Nat} (T : CTab w) (h : Below B w w') (hB : w.heap.size ≤ B) : CTab w' := by
  have hc : ∀ (b o : Nat), b < w.heap.size → w'.cell? ⟨b, o, none⟩ = w.cell? ⟨b, o, none⟩ := fun b o hb => World.cell?_of_block (h.block b (by omega))
  have h1 := T.zk
  have h2 := h.size
  refine ⟨by omega, ?_, ?_, ?_⟩
  · intro k a b; rw [hc _ _ T.zk]; exact T.c0 k a b
  · intro k a b; rw [hc _ _ T.zk]; exact T.c1 k a b
  · intro k a b; rw [hc _ _ T.zk]; exact T.c2 k a b

theorem pastC {w : World} {a : Addr} {v : Value} (h : w.cell? a = some v) (hz : a.block < w.heap.size) (o : Obj) : (w.alloc o).cell? a = some v := by
  rw [← h]; exact World.cell?_of_block (w := w) (Below.heap_alloc _ _ _ hz)

set_option maxHeartbeats 400000 in
theorem impl_sign (k : Nat) (w : World) (T : CTab w) (h1 : 1 ≤ k) (h2 : k ≤ 6) :
    Calls Tryd.prog 73 #[.int .i64 k] w fun e w' => ∃ s, e = .returned (.agg #[.string s, .int .i64 (flipZ k), .int .i64 (swapZ k)]) ∧ Below w.heap.size w w' := by
  obtain ⟨s, c0⟩ := T.c0 k h1 h2
  have d0 := pastC c0 T.zk
  have d1 := pastC (T.c1 k h1 h2) T.zk
  have d2 := pastC (T.c2 k h1 h2) T.zk
  obtain ⟨f, hf⟩ : ∃ f, f = flipZ k := ⟨_, rfl⟩
  obtain ⟨g, hg⟩ : ∃ g, g = swapZ k := ⟨_, rfl⟩
  rw [← hf] at d1 ⊢
  rw [← hg] at d2 ⊢
  clear T c0 hf hg
  go_enter Tryd.func73, Tryd.ntmps73
  go_wp2_with fail
  refine (impl_cmpok k _ (by omega) (by omega)).mono ?_
  rintro e w1 ⟨rfl, rfl⟩
  go_wp2
  exact bodyPost_ret (v := .agg #[.string s, .int .i64 f, .int .i64 g]) (by simp [results, Tryd.results73, go_sem]) rfl ⟨s, rfl, (Below.refl _ _).alloc (Nat.le_refl _) _⟩

theorem fldF (s : ByteArray) (f g : Int) (w : World) : (Instr.field 95 (.agg #[.string s, .int .i64 f, .int .i64 g]) 1).run Tryd.prog w = .ok (.int .i64 f) w := by kernel_rfl
theorem fldS (s : ByteArray) (f g : Int) (w : World) : (Instr.field 95 (.agg #[.string s, .int .i64 f, .int .i64 g]) 2).run Tryd.prog w = .ok (.int .i64 g) w := by kernel_rfl

set_option maxHeartbeats 400000 in
theorem impl_flip (k : Int) (w : World) (T : CTab w) (h1 : 1 ≤ k) (h2 : k ≤ 6) :
    Calls Tryd.prog 21 #[.int .i64 k] w fun e w' => e = .returned (.int .i64 (flipZ k)) ∧ Below w.heap.size w w' := by
  obtain ⟨k, rfl⟩ : ∃ j : Nat, k = j := ⟨k.toNat, by omega⟩
  have f1 := fldF
  go_enter Tryd.func21, Tryd.ntmps21
  go_wp2_with fail
  refine (impl_sign k _ T (by omega) (by omega)).mono ?_
  rintro e w1 ⟨s, rfl, hb⟩
  have B : Hid (Below w.heap.size w w1) := hb
  clear hb
  go_wp2
  go_ret
  exact ⟨rfl, B.out⟩

set_option maxHeartbeats 400000 in
theorem impl_swap (k : Int) (w : World) (T : CTab w) (h1 : 1 ≤ k) (h2 : k ≤ 6) :
    Calls Tryd.prog 25 #[.int .i64 k] w fun e w' => e = .returned (.int .i64 (swapZ k)) ∧ Below w.heap.size w w' := by
  obtain ⟨k, rfl⟩ : ∃ j : Nat, k = j := ⟨k.toNat, by omega⟩
  have f1 := fldS
  go_enter Tryd.func25, Tryd.ntmps25
  go_wp2_with fail
  refine (impl_sign k _ T (by omega) (by omega)).mono ?_
  rintro e w1 ⟨s, rfl, hb⟩
  have B : Hid (Below w.heap.size w w1) := hb
  clear hb
  go_wp2
  go_ret
  exact ⟨rfl, B.out⟩

set_option maxHeartbeats 400000 in
theorem spec_flip (k : Int) (w : World) (h1 : 1 ≤ k) (h2 : k ≤ 6) :
    Calls Tryd.prog 22 #[.int .i64 k] w fun e w' => e = .returned (.int .i64 (flipZ k)) ∧ Below w.heap.size w w' := by
  rcases sixOf h1 h2 with rfl | rfl | rfl | rfl | rfl | rfl
  all_goals
    go_enter Tryd.func22, Tryd.ntmps22
    go_wp2
    go_ret
    exact ⟨rfl, (Below.refl _ _).alloc (Nat.le_refl _) _⟩

set_option maxHeartbeats 400000 in
theorem spec_swap (k : Int) (w : World) (h1 : 1 ≤ k) (h2 : k ≤ 6) :
    Calls Tryd.prog 26 #[.int .i64 k] w fun e w' => e = .returned (.int .i64 (swapZ k)) ∧ w' = w := by
  rcases sixOf h1 h2 with rfl | rfl | rfl | rfl | rfl | rfl
  all_goals
    go_enter Tryd.func26, Tryd.ntmps26
    go_wp2
    go_ret
    exact ⟨rfl, rfl⟩

set_option maxHeartbeats 800000 in
theorem draw_rcmp (v : Value) (w : World) (h : CodeAt v w) :
    Calls Tryd.prog 20 #[v] w fun e w' => ∃ (o : Int) (x y : Nat), e = .returned (.tuple #[.int .i64 o, .float .f64 x, .float .f64 y]) ∧ Below w.heap.size w w' := by
  go_enter Tryd.func20, Tryd.ntmps20
  go_wp2_with fail
  refine (open_any v w h).mono ?_
  rintro e w1 ⟨rfl, rd1, hb1⟩
  have hs1 := hb1.size
  clear h
  go_wp2_with fail
  refine (op_any w.heap.size 0 w1 rd1 (by omega)).mono ?_
  rintro e w2 ⟨o, rfl, rd2, mv2⟩
  clear rd1
  go_wp2_with fail
  refine (real_any w.heap.size (0 + 2) w2 rd2 (by omega)).mono ?_
  rintro e w3 ⟨x, rfl, rd3, mv3⟩
  clear rd2
  go_wp2_with fail
  refine (pick_any w.heap.size (0 + 2 + 12) 3 w3 rd3 (by omega) (by omega)).mono ?_
  rintro e w4 ⟨z, rfl, z0, -, -, rd4, mv4⟩
  have m4 := (mv2.trans mv3).trans mv4
  clear rd3 mv2 mv3 mv4
  cases hx : z == 0 with
  | true =>
    have B : Hid (Below w.heap.size w w4) := hb1.trans (m4.below hs1 (Nat.le_refl _))
    clear rd4 m4 hb1
    go_wp2
    go_ret3
    exact ⟨_, _, _, rfl, B.out⟩
  | false =>
    go_wp2_with fail
    refine (real_any w.heap.size (0 + 2 + 12 + 1) w4 rd4 (by omega)).mono ?_
    rintro e w5 ⟨y, rfl, rd5, mv5⟩
    have B : Hid (Below w.heap.size w w5) := hb1.trans ((m4.trans mv5).below hs1 (Nat.le_refl _))
    clear rd4 rd5 mv5 m4 hb1
    go_wp2
    go_ret3
    exact ⟨_, _, _, rfl, B.out⟩

end Go.Proofs.YtdhoimjkgicneaaDoor
