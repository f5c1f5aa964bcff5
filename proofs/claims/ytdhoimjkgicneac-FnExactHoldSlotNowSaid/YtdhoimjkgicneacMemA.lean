/- A memory of the controller as a row of 136 cells, field by field. Of no one program. -/
import Derived.WalkKit
import Derived.Below
import Derived.Laws.Cells
namespace Go.Proofs.Ytdhoimjkgicneac
open Go Go.RowKit

/-- A memory, field by field. -/
structure MemV where
  x : Nat
  y : Nat
  m : Nat
  s : Nat
  e : Nat
  tD : Nat → Bool
  tC : Nat → Nat
  cD : Nat → Bool
  cL : Nat → Bool
  cC : Nat → Nat
  d : Nat → Int
  r : Nat → Nat
  time : Nat
  ran : Bool
  fault : Bool

/-- Its fields fit their kinds. -/
structure MemV.Ok (v : MemV) : Prop where
  x : v.x < 4294967296
  y : v.y < 4294967296
  m : v.m < 18446744073709551616
  s : v.s < 65536
  e : v.e < 4294967296
  tC : ∀ i, v.tC i < 65536
  cC : ∀ i, v.cC i < 65536
  d1 : ∀ i, -32768 ≤ v.d i
  d2 : ∀ i, v.d i ≤ 32767
  r : ∀ i, v.r i < 2 ^ 64
  time : v.time < 4294967296

/-- Its cells. -/
def MemV.cell (v : MemV) (k : Nat) : Value :=
  if k = 0 then .int .u32 v.x else if k = 1 then .int .u32 v.y else if k = 2 then .int .u64 v.m else if k = 3 then .int .u16 v.s else if k = 4 then .int .u32 v.e
  else if k < 37 then (if (k - 5) % 2 = 0 then .bool (v.tD ((k - 5) / 2)) else .int .u16 (v.tC ((k - 5) / 2)))
  else if k < 85 then (if (k - 37) % 3 = 0 then .bool (v.cD ((k - 37) / 3)) else if (k - 37) % 3 = 1 then .bool (v.cL ((k - 37) / 3)) else .int .u16 (v.cC ((k - 37) / 3)))
  else if k < 117 then .int .i16 (v.d (k - 85))
  else if k < 133 then .float .f64 (v.r (k - 117))
  else if k = 133 then .int .u32 v.time else if k = 134 then .bool v.ran else .bool v.fault

def MemV.row (v : MemV) : Array Value := ((List.range 136).map v.cell).toArray

theorem MemV.row_size (v : MemV) : v.row.size = 136 := by simp [MemV.row]
theorem MemV.row_get (v : MemV) {k : Nat} (h : k < 136) : v.row[k]? = some (v.cell k) := by
  unfold MemV.row
  simp [h]

section
variable (v : MemV) (i : Nat)
theorem MemV.cell_x : v.cell 0 = .int .u32 v.x := rfl
theorem MemV.cell_y : v.cell 1 = .int .u32 v.y := rfl
theorem MemV.cell_m : v.cell 2 = .int .u64 v.m := rfl
theorem MemV.cell_s : v.cell 3 = .int .u16 v.s := rfl
theorem MemV.cell_e : v.cell 4 = .int .u32 v.e := rfl
theorem MemV.cell_time : v.cell 133 = .int .u32 v.time := rfl
theorem MemV.cell_ran : v.cell 134 = .bool v.ran := rfl
theorem MemV.cell_fault : v.cell 135 = .bool v.fault := rfl
theorem MemV.cell_tD (h : i < 16) : v.cell (5 + i * 2) = .bool (v.tD i) := by
  unfold MemV.cell
  rw [if_neg (by omega), if_neg (by omega), if_neg (by omega), if_neg (by omega), if_neg (by omega), if_pos (by omega), if_pos (by omega), show (5 + i * 2 - 5) / 2 = i by omega]
theorem MemV.cell_tC (h : i < 16) : v.cell (5 + i * 2 + 1) = .int .u16 (v.tC i) := by
  unfold MemV.cell
  rw [if_neg (by omega), if_neg (by omega), if_neg (by omega), if_neg (by omega), if_neg (by omega), if_pos (by omega), if_neg (by omega), show (5 + i * 2 + 1 - 5) / 2 = i by omega]
theorem MemV.cell_cD (h : i < 16) : v.cell (37 + i * 3) = .bool (v.cD i) := by
  unfold MemV.cell
  rw [if_neg (by omega), if_neg (by omega), if_neg (by omega), if_neg (by omega), if_neg (by omega), if_neg (by omega), if_pos (by omega), if_pos (by omega), show (37 + i * 3 - 37) / 3 = i by omega]
theorem MemV.cell_cL (h : i < 16) : v.cell (37 + i * 3 + 1) = .bool (v.cL i) := by
  unfold MemV.cell
  rw [if_neg (by omega), if_neg (by omega), if_neg (by omega), if_neg (by omega), if_neg (by omega), if_neg (by omega), if_pos (by omega), if_neg (by omega), if_pos (by omega), show (37 + i * 3 + 1 - 37) / 3 = i by omega]
theorem MemV.cell_cC (h : i < 16) : v.cell (37 + i * 3 + 2) = .int .u16 (v.cC i) := by
  unfold MemV.cell
  rw [if_neg (by omega), if_neg (by omega), if_neg (by omega), if_neg (by omega), if_neg (by omega), if_neg (by omega), if_pos (by omega), if_neg (by omega), if_neg (by omega), show (37 + i * 3 + 2 - 37) / 3 = i by omega]
theorem MemV.cell_d (h : i < 32) : v.cell (85 + i) = .int .i16 (v.d i) := by
  unfold MemV.cell
  rw [if_neg (by omega), if_neg (by omega), if_neg (by omega), if_neg (by omega), if_neg (by omega), if_neg (by omega), if_neg (by omega), if_pos (by omega), show 85 + i - 85 = i by omega]
theorem MemV.cell_r (h : i < 16) : v.cell (117 + i) = .float .f64 (v.r i) := by
  unfold MemV.cell
  rw [if_neg (by omega), if_neg (by omega), if_neg (by omega), if_neg (by omega), if_neg (by omega), if_neg (by omega), if_neg (by omega), if_neg (by omega), if_pos (by omega), show 117 + i - 117 = i by omega]
end

/-- Block b holds the memory v. -/
structure MemAt (b : Nat) (v : MemV) (w : World) : Prop where
  z : b < w.heap.size
  c : ∀ k, k < 136 → w.cell? ⟨b, k, none⟩ = some (v.cell k)
  f : ∀ k, k < 136 → w.frozen? ⟨b, k, none⟩ = false

theorem MemAt.alloc (v : MemV) (w : World) (t : TypeId) : MemAt w.heap.size v (w.alloc (.cells v.row t)) := by
  refine ⟨by simp, fun k hk => ?_, fun k hk => by simp⟩
  simp [hk, MemV.row]

theorem MemAt.of_block {b : Nat} {v : MemV} {w w' : World} (h : MemAt b v w) (hb : w'.heap[b]? = w.heap[b]?) (hz : b < w'.heap.size) : MemAt b v w' :=
  ⟨hz, fun k hk => (World.cell?_of_block (w := w) (a := ⟨b, k, none⟩) hb).trans (h.c k hk), fun k hk => (World.frozen?_of_block (w := w) (a := ⟨b, k, none⟩) hb).trans (h.f k hk)⟩

theorem MemAt.below {b B : Nat} {v : MemV} {w w' : World} (h : MemAt b v w) (hb : Below B w w') (hB : b < B) : MemAt b v w' :=
  h.of_block (hb.block b hB) (Nat.lt_of_lt_of_le h.z hb.size)

/-- The whole row read. -/
theorem MemAt.load {P : Program} {b : Nat} {v : MemV} {w : World} (h : MemAt b v w) : (loadCells ⟨b, 0, none⟩ 136).run P w = .ok v.row w :=
  run_loadCells (P := P) (w := w) ⟨b, 0, none⟩ 136 v.cell (fun j hj => by
    have := h.c j hj
    by_cases h0 : j = 0
    · subst h0; simpa [Addr.add] using this
    · simpa [Addr.add, h0] using this)

end Go.Proofs.Ytdhoimjkgicneac
