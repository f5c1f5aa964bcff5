/- Texts of this proof laid together: MsD0, RegH, ArgT. -/
import Derived.Test.YtdhoimjkgicneaaGreatDoorLot11
import Derived.Test.YtdhoimjkgicneaaGreatDoorLot28
import Derived.Test.YtdhoimjkgicneaaGreatDoorLot1
/- Two memories side by side, and what is said of them. -/
namespace Go.Proofs.YtdhoimjkgicneaaGreatDoor
open Go Go.RowKit

theorem two_mems (a b : MemV) (w : World) (t1 t2 : TypeId) :
    MemAt w.heap.size a ((w.alloc (.cells a.row t1)).alloc (.cells b.row t2)) ∧ MemAt (w.heap.size + 1) b ((w.alloc (.cells a.row t1)).alloc (.cells b.row t2)) ∧ Below w.heap.size w ((w.alloc (.cells a.row t1)).alloc (.cells b.row t2)) := by
  have h1 : ∀ (w : World) (o : Obj), Below w.heap.size w (w.alloc o) := fun w o => (Below.refl _ _).alloc (Nat.le_refl _) _
  refine ⟨(MemAt.alloc a w t1).below (h1 _ _) (by simp), ?_, ((Below.refl w.heap.size w).alloc (Nat.le_refl _) _).alloc (by simp) _⟩
  have := MemAt.alloc b (w.alloc (.cells a.row t1)) t2
  simpa using this

/-- What is said of two memories. -/
def SameOf (a b : MemV) (w : World) (e : Ending) (w' : World) : Prop := ∃ q : Bool, e = .returned (.bool q) ∧ (q = true ↔ SameM a b) ∧ Below w.heap.size w w'

end Go.Proofs.YtdhoimjkgicneaaGreatDoor

/- A region that draws its order, walked with a condition that is held: beside the memory's laws. -/

/- An operand that lies in a block of its own. -/
namespace Go.Proofs.YtdhoimjkgicneaaGreatDoor
open Go Go.RowKit

theorem aArg : ∀ w, (isAgg 66).run Tryz.prog w = .ok true w := fun _ => by kernel_rfl
theorem sArg : ∀ w, (sizeOf 66).run Tryz.prog w = .ok 3 w := fun _ => by kernel_rfl

/-- Three cells of an operand. -/
structure ArgAt (b : Nat) (x y z : Value) (w : World) : Prop where
  lt : b < w.heap.size
  c0 : w.cell? ⟨b, 0, none⟩ = some x
  c1 : w.cell? ⟨b, 1, none⟩ = some y
  c2 : w.cell? ⟨b, 2, none⟩ = some z
  f0 : w.frozen? ⟨b, 0, none⟩ = false
  f1 : w.frozen? ⟨b, 1, none⟩ = false
  f2 : w.frozen? ⟨b, 2, none⟩ = false

theorem ArgAt.of_block {b : Nat} {x y z : Value} {w w' : World} (h : ArgAt b x y z w) (hb : w'.heap[b]? = w.heap[b]?) (hz : b < w'.heap.size) : ArgAt b x y z w' :=
  ⟨hz, (World.cell?_of_block (w := w) (a := ⟨b, 0, none⟩) hb).trans h.c0, (World.cell?_of_block (w := w) (a := ⟨b, 1, none⟩) hb).trans h.c1, (World.cell?_of_block (w := w) (a := ⟨b, 2, none⟩) hb).trans h.c2,
    (World.frozen?_of_block (w := w) (a := ⟨b, 0, none⟩) hb).trans h.f0, (World.frozen?_of_block (w := w) (a := ⟨b, 1, none⟩) hb).trans h.f1, (World.frozen?_of_block (w := w) (a := ⟨b, 2, none⟩) hb).trans h.f2⟩
theorem ArgAt.below {b B : Nat} {x y z : Value} {w w' : World} (h : ArgAt b x y z w) (hb : Below B w w') (hB : b < B) : ArgAt b x y z w' := h.of_block (hb.block b hB) (Nat.lt_of_lt_of_le h.lt hb.size)
theorem ArgAt.drew {b : Nat} {x y z : Value} {w : World} (h : ArgAt b x y z w) : ArgAt b x y z w.drew := h.of_block rfl h.lt
theorem ArgAt.alloc (x y z : Value) (w : World) (t : TypeId) : ArgAt w.heap.size x y z (w.alloc (.cells #[x, y, z] t)) := ⟨by simp, by simp, by simp, by simp, by simp, by simp, by simp⟩
theorem ArgAt.other {b c o : Nat} {x y z : Value} {w : World} {vs : List Value} (h : ArgAt b x y z w) (hn : b ≠ c) : ArgAt b x y z (w.setCells c o vs) :=
  ⟨by rw [setCells_size]; exact h.lt, by rw [World.cell?_setCells_out c vs o w ⟨b, 0, none⟩ (fun e => absurd e hn)]; exact h.c0, by rw [World.cell?_setCells_out c vs o w ⟨b, 1, none⟩ (fun e => absurd e hn)]; exact h.c1,
    by rw [World.cell?_setCells_out c vs o w ⟨b, 2, none⟩ (fun e => absurd e hn)]; exact h.c2, by rw [setCells_frozen]; exact h.f0, by rw [setCells_frozen]; exact h.f1, by rw [setCells_frozen]; exact h.f2⟩

theorem ArgAt.load {b : Nat} {x y z : Value} {w : World} (h : ArgAt b x y z w) : (Instr.loadAt 66 (.pointer (some ⟨b, 0, none⟩))).run Tryz.prog w = .ok (.agg #[x, y, z]) w := by
  have hl : (loadCells ⟨b, 0, none⟩ 3).run Tryz.prog w = .ok #[x, y, z] w := run_loadCells (P := Tryz.prog) (w := w) ⟨b, 0, none⟩ 3 (fun i => if i = 0 then x else if i = 1 then y else z) (fun j hj => by
    have hj : j = 0 ∨ j = 1 ∨ j = 2 := by omega
    rcases hj with rfl | rfl | rfl
    · simpa [Addr.add] using h.c0
    · simpa [Addr.add] using h.c1
    · simpa [Addr.add] using h.c2)
  simp only [Instr.loadAt, Instr.sureAddr, Sem.run_bind, Sem.run_pure, Result.andThen, loadVar, aArg, sArg, if_true, hl]

theorem ArgAt.store {b : Nat} {x y z x' y' z' : Value} {w : World} (h : ArgAt b x y z w) (h1 : x'.oneCell' = true) (h2 : y'.oneCell' = true) (h3 : z'.oneCell' = true) :
    (Instr.storeAt 66 (.pointer (some ⟨b, 0, none⟩)) (.agg #[x', y', z'])).run Tryz.prog w = .ok () (w.setCells b 0 [x', y', z']) := by
  have := run_storeCells_cells (P := Tryz.prog) b 0 [x', y', z'] 0 w (fun j hj => by
    have hj : j = 0 ∨ j = 1 ∨ j = 2 := by simp at hj; omega
    rcases hj with rfl | rfl | rfl
    · simp [h.c0]
    · simp [h.c1]
    · simp [h.c2]) (fun j hj => by
    have hj : j = 0 ∨ j = 1 ∨ j = 2 := by simp at hj; omega
    rcases hj with rfl | rfl | rfl
    · simpa using h.f0
    · simpa using h.f1
    · simpa using h.f2) (by simp [h1, h2, h3])
  simp only [Instr.storeAt, Instr.sureAddr, Sem.run_bind, Sem.run_pure, Result.andThen, storeVar, sArg, Value.cells]
  simpa using this
theorem ArgAt.stored {b : Nat} {x y z : Value} {w : World} (x' y' z' : Value) (h : ArgAt b x y z w) : ArgAt b x' y' z' (w.setCells b 0 [x', y', z']) := by
  have hc : ∀ j, j < 3 → ((w.setCells b 0 [x', y', z']).cell? ⟨b, j, none⟩) = [x', y', z'][j]? := fun j hj => by
    have := World.cell?_setCells_in b [x', y', z'] 0 w (fun j hj => by
      have hj : j = 0 ∨ j = 1 ∨ j = 2 := by simp at hj; omega
      rcases hj with rfl | rfl | rfl
      · simp [h.c0]
      · simp [h.c1]
      · simp [h.c2]) j (by simpa using hj)
    rw [Nat.zero_add] at this
    rw [this]
    simp
  exact ⟨by rw [setCells_size]; exact h.lt, hc 0 (by omega), hc 1 (by omega), hc 2 (by omega), by rw [setCells_frozen]; exact h.f0, by rw [setCells_frozen]; exact h.f1, by rw [setCells_frozen]; exact h.f2⟩

end Go.Proofs.YtdhoimjkgicneaaGreatDoor
