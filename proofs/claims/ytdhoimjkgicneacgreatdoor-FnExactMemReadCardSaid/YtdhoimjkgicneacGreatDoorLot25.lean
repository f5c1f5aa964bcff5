/- Texts of this proof laid together: FitC, RegH, ArgT. -/
import Derived.Test.YtdhoimjkgicneacGreatDoorLot13
import Derived.Test.YtdhoimjkgicneacGreatDoorLot24
import Derived.Test.YtdhoimjkgicneacGreatDoorLot7
/- What fits the cells of a memory. Of no one program. -/
namespace Go.Proofs.YtdhoimjkgicneacGreatDoor
open Go Go.RowKit

/-- What is written by a draw fits its cell. -/
theorem fit_u32 {k : Nat} (hk : k = 0 ∨ k = 1 ∨ k = 4 ∨ k = 133) (z : Int) : fitC k (.int .u32 (IntKind.u32.wrap z)) := by
  unfold fitC
  rw [if_pos hk]
  have : 0 ≤ IntKind.u32.wrap z ∧ IntKind.u32.wrap z < 4294967296 := by
    simp [IntKind.wrap, IntKind.bits, IntKind.signed]
    omega
  exact ⟨(IntKind.u32.wrap z).toNat, by omega, by rw [Int.toNat_of_nonneg this.1]⟩
theorem fit_u64 {z : Int} (h0 : 0 ≤ z) (h1 : z < 18446744073709551616) : fitC 2 (.int .u64 z) := by
  unfold fitC
  rw [if_neg (by omega), if_pos rfl]
  exact ⟨z.toNat, by omega, by rw [Int.toNat_of_nonneg h0]⟩
theorem wrap_u16 (z : Int) : 0 ≤ IntKind.u16.wrap z ∧ IntKind.u16.wrap z < 65536 := by
  simp [IntKind.wrap, IntKind.bits, IntKind.signed]
  omega
theorem fit_u16 (z : Int) : fitC 3 (.int .u16 (IntKind.u16.wrap z)) := by
  unfold fitC
  rw [if_neg (by omega), if_neg (by omega), if_pos rfl]
  exact ⟨(IntKind.u16.wrap z).toNat, by have := wrap_u16 z; omega, by rw [Int.toNat_of_nonneg (wrap_u16 z).1]⟩
theorem fit_tD {k : Nat} (hk : k < 16) (b : Bool) : fitC (5 + k * 2) (.bool b) := by
  unfold fitC
  rw [if_neg (by omega), if_neg (by omega), if_neg (by omega), if_pos (by omega), if_pos (by omega)]
  exact ⟨b, rfl⟩
theorem fit_tC {k : Nat} (hk : k < 16) (z : Int) : fitC (5 + k * 2 + 1) (.int .u16 (IntKind.u16.wrap z)) := by
  unfold fitC
  rw [if_neg (by omega), if_neg (by omega), if_neg (by omega), if_pos (by omega), if_neg (by omega)]
  exact ⟨(IntKind.u16.wrap z).toNat, by have := wrap_u16 z; omega, by rw [Int.toNat_of_nonneg (wrap_u16 z).1]⟩
theorem fit_cD {k : Nat} (hk : k < 16) (b : Bool) : fitC (37 + k * 3) (.bool b) := by
  unfold fitC
  rw [if_neg (by omega), if_neg (by omega), if_neg (by omega), if_neg (by omega), if_pos (by omega), if_neg (by omega)]
  exact ⟨b, rfl⟩
theorem fit_cL {k : Nat} (hk : k < 16) (b : Bool) : fitC (37 + k * 3 + 1) (.bool b) := by
  unfold fitC
  rw [if_neg (by omega), if_neg (by omega), if_neg (by omega), if_neg (by omega), if_pos (by omega), if_neg (by omega)]
  exact ⟨b, rfl⟩
theorem fit_cC {k : Nat} (hk : k < 16) (z : Int) : fitC (37 + k * 3 + 2) (.int .u16 (IntKind.u16.wrap z)) := by
  unfold fitC
  rw [if_neg (by omega), if_neg (by omega), if_neg (by omega), if_neg (by omega), if_pos (by omega), if_pos (by omega)]
  exact ⟨(IntKind.u16.wrap z).toNat, by have := wrap_u16 z; omega, by rw [Int.toNat_of_nonneg (wrap_u16 z).1]⟩
theorem fit_d {k : Nat} (hk : k < 32) {z : Int} (h1 : -32768 ≤ z) (h2 : z ≤ 32767) : fitC (85 + k) (.int .i16 z) := by
  unfold fitC
  rw [if_neg (by omega), if_neg (by omega), if_neg (by omega), if_neg (by omega), if_neg (by omega), if_pos (by omega)]
  exact ⟨z, h1, h2, rfl⟩
theorem fit_r {k : Nat} (hk : k < 16) {x : Nat} (h1 : x < 2 ^ 64) : fitC (117 + k) (.float .f64 x) := by
  unfold fitC
  rw [if_neg (by omega), if_neg (by omega), if_neg (by omega), if_neg (by omega), if_neg (by omega), if_neg (by omega), if_pos (by omega)]
  exact ⟨x, h1, rfl⟩
theorem fit_b {k : Nat} (hk : k = 134 ∨ k = 135) (b : Bool) : fitC k (.bool b) := by
  unfold fitC
  rw [if_neg (by omega), if_neg (by omega), if_neg (by omega), if_neg (by omega), if_neg (by omega), if_neg (by omega), if_neg (by omega)]
  exact ⟨b, rfl⟩

end Go.Proofs.YtdhoimjkgicneacGreatDoor

/- A region that draws its order, walked with a condition that is held: beside the memory's laws. -/

/- An operand that lies in a block of its own. -/
namespace Go.Proofs.YtdhoimjkgicneacGreatDoor
open Go Go.RowKit

theorem aArg : ∀ w, (isAgg 55).run Tryz.prog w = .ok true w := fun _ => by kernel_rfl
theorem sArg : ∀ w, (sizeOf 55).run Tryz.prog w = .ok 3 w := fun _ => by kernel_rfl

/-- Three cells of an operand. -/
structure ArgAt (b : Nat) (x y z : Value) (w : World) : Prop where
  lt : b < w.heap.size
  c0 : w.cell? ⟨b, 0, none⟩ = some x
  c1 : w.cell? ⟨b, 1, none⟩ = some y
  c2 : w.cell? ⟨b, 2, none⟩ = some z
  f0 : w.frozen? ⟨b, 0, none⟩ = false
  f1 : w.frozen? ⟨b, 1, none⟩ = false
  f2 : w.frozen? ⟨b, 2, none⟩ = false

theorem ArgAt.of_block {b : Nat} {x y z : Value} {w w' : World} (h : ArgAt b x y z w) (hb : w'.heap[b]? = w.heap[b]?) (hz : b < w'.heap.size) : ArgAt b x y z w' :=
  ⟨hz, (World.cell?_of_block (w := w) (a := ⟨b, 0, none⟩) hb).trans h.c0, (World.cell?_of_block (w := w) (a := ⟨b, 1, none⟩) hb).trans h.c1, (World.cell?_of_block (w := w) (a := ⟨b, 2, none⟩) hb).trans h.c2,
    (World.frozen?_of_block (w := w) (a := ⟨b, 0, none⟩) hb).trans h.f0, (World.frozen?_of_block (w := w) (a := ⟨b, 1, none⟩) hb).trans h.f1, (World.frozen?_of_block (w := w) (a := ⟨b, 2, none⟩) hb).trans h.f2⟩
theorem ArgAt.below {b B : Nat} {x y z : Value} {w w' : World} (h : ArgAt b x y z w) (hb : Below B w w') (hB : b < B) : ArgAt b x y z w' := h.of_block (hb.block b hB) (Nat.lt_of_lt_of_le h.lt hb.size)
theorem ArgAt.drew {b : Nat} {x y z : Value} {w : World} (h : ArgAt b x y z w) : ArgAt b x y z w.drew := h.of_block rfl h.lt
theorem ArgAt.alloc (x y z : Value) (w : World) (t : TypeId) : ArgAt w.heap.size x y z (w.alloc (.cells #[x, y, z] t)) := ⟨by simp, by simp, by simp, by simp, by simp, by simp, by simp⟩
theorem ArgAt.other {b c o : Nat} {x y z : Value} {w : World} {vs : List Value} (h : ArgAt b x y z w) (hn : b ≠ c) : ArgAt b x y z (w.setCells c o vs) :=
  ⟨by rw [setCells_size]; exact h.lt, by rw [World.cell?_setCells_out c vs o w ⟨b, 0, none⟩ (fun e => absurd e hn)]; exact h.c0, by rw [World.cell?_setCells_out c vs o w ⟨b, 1, none⟩ (fun e => absurd e hn)]; exact h.c1,
    by rw [World.cell?_setCells_out c vs o w ⟨b, 2, none⟩ (fun e => absurd e hn)]; exact h.c2, by rw [setCells_frozen]; exact h.f0, by rw [setCells_frozen]; exact h.f1, by rw [setCells_frozen]; exact h.f2⟩

theorem ArgAt.load {b : Nat} {x y z : Value} {w : World} (h : ArgAt b x y z w) : (Instr.loadAt 55 (.pointer (some ⟨b, 0, none⟩))).run Tryz.prog w = .ok (.agg #[x, y, z]) w := by
  have hl : (loadCells ⟨b, 0, none⟩ 3).run Tryz.prog w = .ok #[x, y, z] w := run_loadCells (P := Tryz.prog) (w := w) ⟨b, 0, none⟩ 3 (fun i => if i = 0 then x else if i = 1 then y else z) (fun j hj => by
    have hj : j = 0 ∨ j = 1 ∨ j = 2 := by omega
    rcases hj with rfl | rfl | rfl
    · simpa [Addr.add] using h.c0
    · simpa [Addr.add] using h.c1
    · simpa [Addr.add] using h.c2)
  simp only [Instr.loadAt, Instr.sureAddr, Sem.run_bind, Sem.run_pure, Result.andThen, loadVar, aArg, sArg, if_true, hl]

theorem ArgAt.store {b : Nat} {x y z x' y' z' : Value} {w : World} (h : ArgAt b x y z w) (h1 : x'.oneCell' = true) (h2 : y'.oneCell' = true) (h3 : z'.oneCell' = true) :
    (Instr.storeAt 55 (.pointer (some ⟨b, 0, none⟩)) (.agg #[x', y', z'])).run Tryz.prog w = .ok () (w.setCells b 0 [x', y', z']) := by
  have := run_storeCells_cells (P := Tryz.prog) b 0 [x', y', z'] 0 w (fun j hj => by
    have hj : j = 0 ∨ j = 1 ∨ j = 2 := by simp at hj; omega
    rcases hj with rfl | rfl | rfl
    · simp [h.c0]
    · simp [h.c1]
    · simp [h.c2]) (fun j hj => by
    have hj : j = 0 ∨ j = 1 ∨ j = 2 := by simp at hj; omega
    rcases hj with rfl | rfl | rfl
    · simpa using h.f0
    · simpa using h.f1
    · simpa using h.f2) (by simp [h1, h2, h3])
  simp only [Instr.storeAt, Instr.sureAddr, Sem.run_bind, Sem.run_pure, Result.andThen, storeVar, sArg, Value.cells]
  simpa using this
theorem ArgAt.stored {b : Nat} {x y z : Value} {w : World} (x' y' z' : Value) (h : ArgAt b x y z w) : ArgAt b x' y' z' (w.setCells b 0 [x', y', z']) := by
  have hc : ∀ j, j < 3 → ((w.setCells b 0 [x', y', z']).cell? ⟨b, j, none⟩) = [x', y', z'][j]? := fun j hj => by
    have := World.cell?_setCells_in b [x', y', z'] 0 w (fun j hj => by
      have hj : j = 0 ∨ j = 1 ∨ j = 2 := by simp at hj; omega
      rcases hj with rfl | rfl | rfl
      · simp [h.c0]
      · simp [h.c1]
      · simp [h.c2]) j (by simpa using hj)
    rw [Nat.zero_add] at this
    rw [this]
    simp
  exact ⟨by rw [setCells_size]; exact h.lt, hc 0 (by omega), hc 1 (by omega), hc 2 (by omega), by rw [setCells_frozen]; exact h.f0, by rw [setCells_frozen]; exact h.f1, by rw [setCells_frozen]; exact h.f2⟩

end Go.Proofs.YtdhoimjkgicneacGreatDoor
