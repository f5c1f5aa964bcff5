/- Texts of this proof laid together: MemA, MemB, RowA. -/
import Derived.WalkKit
import Derived.Below
import Derived.Laws.Cells
import Derived.Test.YtdhoimjkgicneaaGreatDoorRows
import Derived.Deep.WholeRow
import Derived.Laws.IdiomCopy
import Derived.WalkSpells
import Derived.WalkLawsBesides
/- A memory of the controller as a row of 136 cells, field by field. Of no one program. -/
namespace Go.Proofs.YtdhoimjkgicneaaGreatDoor
open Go Go.RowKit

/-- A memory, field by field. -/
structure MemV where
  x : Nat
  y : Nat
  m : Nat
  s : Nat
  e : Nat
  tD : Nat → Bool
  tC : Nat → Nat
  cD : Nat → Bool
  cL : Nat → Bool
  cC : Nat → Nat
  d : Nat → Int
  r : Nat → Nat
  time : Nat
  ran : Bool
  fault : Bool

/-- Its fields fit their kinds. -/
structure MemV.Ok (v : MemV) : Prop where
  x : v.x < 4294967296
  y : v.y < 4294967296
  m : v.m < 18446744073709551616
  s : v.s < 65536
  e : v.e < 4294967296
  tC : ∀ i, v.tC i < 65536
  cC : ∀ i, v.cC i < 65536
  d1 : ∀ i, -32768 ≤ v.d i
  d2 : ∀ i, v.d i ≤ 32767
  r : ∀ i, v.r i < 2 ^ 64
  time : v.time < 4294967296

/-- Its cells. -/
def MemV.cell (v : MemV) (k : Nat) : Value :=
  if k = 0 then .int .u32 v.x else if k = 1 then .int .u32 v.y else if k = 2 then .int .u64 v.m else if k = 3 then .int .u16 v.s else if k = 4 then .int .u32 v.e
  else if k < 37 then (if (k - 5) % 2 = 0 then .bool (v.tD ((k - 5) / 2)) else .int .u16 (v.tC ((k - 5) / 2)))
  else if k < 85 then (if (k - 37) % 3 = 0 then .bool (v.cD ((k - 37) / 3)) else if (k - 37) % 3 = 1 then .bool (v.cL ((k - 37) / 3)) else .int .u16 (v.cC ((k - 37) / 3)))
  else if k < 117 then .int .i16 (v.d (k - 85))
  else if k < 133 then .float .f64 (v.r (k - 117))
  else if k = 133 then .int .u32 v.time else if k = 134 then .bool v.ran else .bool v.fault

def MemV.row (v : MemV) : Array Value := ((List.range 136).map v.cell).toArray

theorem MemV.row_size (v : MemV) : v.row.size = 136 := by simp [MemV.row]
theorem MemV.row_get (v : MemV) {k : Nat} (h : k < 136) : v.row[k]? = some (v.cell k) := by
  unfold MemV.row
  simp [h]

section
variable (v : MemV) (i : Nat)
theorem MemV.cell_x : v.cell 0 = .int .u32 v.x := rfl
theorem MemV.cell_y : v.cell 1 = .int .u32 v.y := rfl
theorem MemV.cell_m : v.cell 2 = .int .u64 v.m := rfl
theorem MemV.cell_s : v.cell 3 = .int .u16 v.s := rfl
theorem MemV.cell_e : v.cell 4 = .int .u32 v.e := rfl
theorem MemV.cell_time : v.cell 133 = .int .u32 v.time := rfl
theorem MemV.cell_ran : v.cell 134 = .bool v.ran := rfl
theorem MemV.cell_fault : v.cell 135 = .bool v.fault := rfl
theorem MemV.cell_tD (h : i < 16) : v.cell (5 + i * 2) = .bool (v.tD i) := by
  unfold MemV.cell
  rw [if_neg (by omega), if_neg (by omega), if_neg (by omega), if_neg (by omega), if_neg (by omega), if_pos (by omega), if_pos (by omega), show (5 + i * 2 - 5) / 2 = i by omega]
theorem MemV.cell_tC (h : i < 16) : v.cell (5 + i * 2 + 1) = .int .u16 (v.tC i) := by
  unfold MemV.cell
  rw [if_neg (by omega), if_neg (by omega), if_neg (by omega), if_neg (by omega), if_neg (by omega), if_pos (by omega), if_neg (by omega), show (5 + i * 2 + 1 - 5) / 2 = i by omega]
theorem MemV.cell_cD (h : i < 16) : v.cell (37 + i * 3) = .bool (v.cD i) := by
  unfold MemV.cell
  rw [if_neg (by omega), if_neg (by omega), if_neg (by omega), if_neg (by omega), if_neg (by omega), if_neg (by omega), if_pos (by omega), if_pos (by omega), show (37 + i * 3 - 37) / 3 = i by omega]
theorem MemV.cell_cL (h : i < 16) : v.cell (37 + i * 3 + 1) = .bool (v.cL i) := by
  unfold MemV.cell
  rw [if_neg (by omega), if_neg (by omega), if_neg (by omega), if_neg (by omega), if_neg (by omega), if_neg (by omega), if_pos (by omega), if_neg (by omega), if_pos (by omega), show (37 + i * 3 + 1 - 37) / 3 = i by omega]
theorem MemV.cell_cC (h : i < 16) : v.cell (37 + i * 3 + 2) = .int .u16 (v.cC i) := by
  unfold MemV.cell
  rw [if_neg (by omega), if_neg (by omega), if_neg (by omega), if_neg (by omega), if_neg (by omega), if_neg (by omega), if_pos (by omega), if_neg (by omega), if_neg (by omega), show (37 + i * 3 + 2 - 37) / 3 = i by omega]
theorem MemV.cell_d (h : i < 32) : v.cell (85 + i) = .int .i16 (v.d i) := by
  unfold MemV.cell
  rw [if_neg (by omega), if_neg (by omega), if_neg (by omega), if_neg (by omega), if_neg (by omega), if_neg (by omega), if_neg (by omega), if_pos (by omega), show 85 + i - 85 = i by omega]
theorem MemV.cell_r (h : i < 16) : v.cell (117 + i) = .float .f64 (v.r i) := by
  unfold MemV.cell
  rw [if_neg (by omega), if_neg (by omega), if_neg (by omega), if_neg (by omega), if_neg (by omega), if_neg (by omega), if_neg (by omega), if_neg (by omega), if_pos (by omega), show 117 + i - 117 = i by omega]
end

/-- Block b holds the memory v. -/
structure MemAt (b : Nat) (v : MemV) (w : World) : Prop where
  z : b < w.heap.size
  c : ∀ k, k < 136 → w.cell? ⟨b, k, none⟩ = some (v.cell k)
  f : ∀ k, k < 136 → w.frozen? ⟨b, k, none⟩ = false

theorem MemAt.alloc (v : MemV) (w : World) (t : TypeId) : MemAt w.heap.size v (w.alloc (.cells v.row t)) := by
  refine ⟨by simp, fun k hk => ?_, fun k hk => by simp⟩
  simp [hk, MemV.row]

theorem MemAt.of_block {b : Nat} {v : MemV} {w w' : World} (h : MemAt b v w) (hb : w'.heap[b]? = w.heap[b]?) (hz : b < w'.heap.size) : MemAt b v w' :=
  ⟨hz, fun k hk => (World.cell?_of_block (w := w) (a := ⟨b, k, none⟩) hb).trans (h.c k hk), fun k hk => (World.frozen?_of_block (w := w) (a := ⟨b, k, none⟩) hb).trans (h.f k hk)⟩

theorem MemAt.below {b B : Nat} {v : MemV} {w w' : World} (h : MemAt b v w) (hb : Below B w w') (hB : b < B) : MemAt b v w' :=
  h.of_block (hb.block b hB) (Nat.lt_of_lt_of_le h.z hb.size)

/-- The whole row read. -/
theorem MemAt.load {P : Program} {b : Nat} {v : MemV} {w : World} (h : MemAt b v w) : (loadCells ⟨b, 0, none⟩ 136).run P w = .ok v.row w :=
  run_loadCells (P := P) (w := w) ⟨b, 0, none⟩ 136 v.cell (fun j hj => by
    have := h.c j hj
    by_cases h0 : j = 0
    · subst h0; simpa [Addr.add] using this
    · simpa [Addr.add, h0] using this)

end Go.Proofs.YtdhoimjkgicneaaGreatDoor

/- A memory in the world: read and written whole, as the program's operations do it. -/
namespace Go.Proofs.YtdhoimjkgicneaaGreatDoor
open Go Go.RowKit

theorem iMem : (Tryz.prog.info? 37).map (·.size) = some 136 := by kernel_rfl
theorem aMem : ∀ w, (isAgg 37).run Tryz.prog w = .ok true w := fun _ => by kernel_rfl
theorem sMem : ∀ w, (sizeOf 37).run Tryz.prog w = .ok 136 w := fun _ => by kernel_rfl

/-- Nothing. -/
def mem0 : MemV := ⟨0, 0, 0, 0, 0, fun _ => false, fun _ => 0, fun _ => false, fun _ => false, fun _ => 0, fun _ => 0, fun _ => 0, 0, false, false⟩

theorem zMem : ∀ w, (zeroValue 37).run Tryz.prog w = .ok (.agg mem0.row) w :=
  (zero_of_info (P := Tryz.prog) (t := 37) (v := .agg mem0.row) (n := 136) (by kernel_rfl)).1

theorem load_mem {b : Nat} {v : MemV} {w : World} (h : MemAt b v w) : (Instr.loadAt 37 (.pointer (some ⟨b, 0, none⟩))).run Tryz.prog w = .ok (.agg v.row) w := by
  simp only [Instr.loadAt, Instr.sureAddr, Sem.run_bind, Sem.run_pure, Result.andThen, loadVar, aMem, sMem, if_true, h.load]

/-- A load, a store by hand: a whole row, where the walk stands still. -/
theorem op_load {o : Oper} {a : Act} {w : World} {K : Act → World → Prop} {Q : Exit → Act → World → Prop} {t : TypeId} {p : Operand} {u : Value} (ho : o.op = .load t p)
    (h : (Instr.loadAt t (a.eval p)).run Tryz.prog w = .ok u w) (hK : K (a.put o.dst u) w) : o.wp Tryz.prog a w K Q := by
  have e : (execOp a.eval o).run Tryz.prog w = .ok (.value u) w := by
    simp only [execOp, ho, Sem.run_bind, h, Result.andThen, Sem.run_pure]
  unfold Oper.wp
  rw [e]
  exact hK
theorem op_store {o : Oper} {a : Act} {w w' : World} {K : Act → World → Prop} {Q : Exit → Act → World → Prop} {t : TypeId} {p x : Operand} (ho : o.op = .store t p x)
    (h : (Instr.storeAt t (a.eval p) (a.eval x)).run Tryz.prog w = .ok () w') (hK : K (a.put o.dst undef) w') : o.wp Tryz.prog a w K Q := by
  have e : (execOp a.eval o).run Tryz.prog w = .ok .skip w' := by
    simp only [execOp, ho, Sem.run_bind, h, Result.andThen, Sem.run_pure]
  unfold Oper.wp
  rw [e]
  exact hK

theorem list_load {ops : Array Oper} {Q : Exit → Act → World → Prop} {rest : List Oper} {o : Oper} {a : Act} {w : World} {t : TypeId} {p : Operand} {u x : Value}
    (ho : o.op = .load t p) (hx : a.eval p = x) (hg : Region.wanted o (yielded ops a.tmps) = true)
    (h : (Instr.loadAt t x).run Tryz.prog w = .ok u w) (hK : wpList Tryz.prog ops Q rest (a.put o.dst u) w) : wpList Tryz.prog ops Q (o :: rest) a w := by
  rw [wpList, if_pos hg]
  subst hx
  exact .inl (op_load ho h hK)

theorem list_store {ops : Array Oper} {Q : Exit → Act → World → Prop} {rest : List Oper} {o : Oper} {a : Act} {w w' : World} {t : TypeId} {p y : Operand} {u x : Value}
    (ho : o.op = .store t p y) (hx : a.eval p = x) (hu : a.eval y = u) (hg : Region.wanted o (yielded ops a.tmps) = true)
    (h : (Instr.storeAt t x u).run Tryz.prog w = .ok () w') (hK : wpList Tryz.prog ops Q rest (a.put o.dst undef) w') : wpList Tryz.prog ops Q (o :: rest) a w := by
  rw [wpList, if_pos hg]
  subst hx hu
  exact .inl (op_store ho h hK)

/-- A memory that is handed back out of the cells of its result. -/
theorem ret_mem {fn : Func} {R : Ending → World → Prop} {a : Act} {w : World} {b c : Nat} {v : MemV} (hf : fn.results = #[.cell c 37]) (hc : a.tmps.getD c undef = .pointer (some ⟨b, 0, none⟩))
    (hd : a.defers = []) (h : MemAt b v w) (hR : R (.returned (.agg v.row)) w) : bodyPost Tryz.prog fn R .ret a w := by
  refine ⟨hd, .agg v.row, ?_, hR⟩
  have hl : (loadVar 37 ⟨b, 0, none⟩).run Tryz.prog w = .ok (.agg v.row) w := by
    have := load_mem h
    simpa only [Instr.loadAt, Instr.sureAddr, Sem.run_bind, Sem.run_pure, Result.andThen] using this
  have hc' : a.tmps[c]?.getD undef = .pointer (some ⟨b, 0, none⟩) := by simpa using hc
  simp [results, hf, hc', asAddr, hl]

theorem row_one (v : MemV) : ∀ u ∈ v.row.toList, u.oneCell' = true := by
  intro u hu
  simp only [MemV.row, List.mem_map, List.mem_range] at hu
  obtain ⟨k, -, rfl⟩ := hu
  unfold MemV.cell
  repeat' split
  all_goals rfl

theorem store_mem {b : Nat} {v : MemV} {w : World} (v' : MemV) (h : MemAt b v w) : (Instr.storeAt 37 (.pointer (some ⟨b, 0, none⟩)) (.agg v'.row)).run Tryz.prog w = .ok () (w.setCells b 0 v'.row.toList) := by
  have hl : v'.row.toList.length = 136 := by simp [MemV.row]
  have := run_storeCells_cells (P := Tryz.prog) b 0 v'.row.toList 0 w (fun j hj => by rw [show 0 + 0 + j = j by omega, h.c j (by omega)]; rfl) (fun j hj => by rw [show 0 + 0 + j = j by omega]; exact h.f j (by omega)) (row_one v')
  simp only [Instr.storeAt, Instr.sureAddr, Sem.run_bind, Sem.run_pure, Result.andThen, storeVar, sMem, Value.cells, v'.row_size]
  simpa using this

theorem setCells_size : ∀ (vs : List Value) (b o : Nat) (w : World), (w.setCells b o vs).heap.size = w.heap.size
  | [], _, _, _ => rfl
  | u :: r, b, o, w => by
    have : (w.setCells b o (u :: r)) = (w.setCell ⟨b, o, none⟩ u).setCells b (o + 1) r := rfl
    rw [this, setCells_size r b (o + 1)]
    simp

theorem setCells_frozen : ∀ (vs : List Value) (b o : Nat) (w : World) (a : Addr), (w.setCells b o vs).frozen? a = w.frozen? a
  | [], _, _, _, _ => rfl
  | u :: r, b, o, w, a => by
    have : (w.setCells b o (u :: r)) = (w.setCell ⟨b, o, none⟩ u).setCells b (o + 1) r := rfl
    rw [this, setCells_frozen r b (o + 1), World.frozen?_setCell]

theorem setCells_below : ∀ (vs : List Value) (b o : Nat) {B : Nat} {w w' : World}, Below B w w' → B ≤ b → Below B w (w'.setCells b o vs)
  | [], _, _, _, _, _, h, _ => h
  | u :: r, b, o, B, w, w', h, hB => by
    have : (w'.setCells b o (u :: r)) = (w'.setCell ⟨b, o, none⟩ u).setCells b (o + 1) r := rfl
    rw [this]
    exact setCells_below r b (o + 1) (h.setCell (p := ⟨b, o, none⟩) hB u) hB

theorem MemAt.stored {b : Nat} {v : MemV} {w : World} (v' : MemV) (h : MemAt b v w) : MemAt b v' (w.setCells b 0 v'.row.toList) := by
  have hl : v'.row.toList.length = 136 := by simp [MemV.row]
  refine ⟨by rw [setCells_size]; exact h.z, fun k hk => ?_, fun k hk => by rw [setCells_frozen]; exact h.f k hk⟩
  have := World.cell?_setCells_in b v'.row.toList 0 w (fun j hj => by rw [Nat.zero_add, h.c j (by omega)]; rfl) k (by omega)
  rw [Nat.zero_add] at this
  rw [this]
  simp [MemV.row]

theorem MemAt.other {b c o : Nat} {v : MemV} {w : World} {vs : List Value} (h : MemAt b v w) (hn : b ≠ c) : MemAt b v (w.setCells c o vs) :=
  ⟨by rw [setCells_size]; exact h.z, fun k hk => by rw [World.cell?_setCells_out c vs o w ⟨b, k, none⟩ (fun e => absurd e hn)]; exact h.c k hk, fun k hk => by rw [setCells_frozen]; exact h.f k hk⟩

/-- One cell that is written, a real number. -/
theorem store_float {b o z : Nat} {u : Value} {w : World} (hc : w.cell? ⟨b, o, none⟩ = some u) (hf : w.frozen? ⟨b, o, none⟩ = false) :
    (store ⟨b, o, none⟩ (.float .f64 z)).run Tryz.prog w = .ok () (w.setCell ⟨b, o, none⟩ (.float .f64 z)) := by
  rw [run_store Tryz.prog w _ _ _ rfl, hc]
  simp [hf]

end Go.Proofs.YtdhoimjkgicneaaGreatDoor

/- Rows of cells inside a block: read and written whole; the arrays of a memory as such rows. -/
namespace Go.Proofs.YtdhoimjkgicneaaGreatDoor
open Go Go.RowKit

/-- So many cells as a row. -/
def rowOf (f : Nat → Value) (n : Nat) : Array Value := ((List.range n).map f).toArray

theorem rowOf_size (f : Nat → Value) (n : Nat) : (rowOf f n).size = n := by simp [rowOf]
theorem rowOf_get (f : Nat → Value) {n k : Nat} (h : k < n) : (rowOf f n)[k]? = some (f k) := by simp [rowOf, h]
theorem rowOf_congr {f g : Nat → Value} {n : Nat} (h : ∀ k, k < n → f k = g k) : rowOf f n = rowOf g n := by
  unfold rowOf
  congr 1
  exact List.map_congr_left fun k hk => h k (by simpa using hk)
theorem rowOf_mem (v : MemV) : rowOf v.cell 136 = v.row := rfl

/-- Block b holds the cells f from o on. -/
structure RowAt (b o n : Nat) (f : Nat → Value) (w : World) : Prop where
  z : b < w.heap.size
  c : ∀ k, k < n → w.cell? ⟨b, o + k, none⟩ = some (f k)
  f : ∀ k, k < n → w.frozen? ⟨b, o + k, none⟩ = false

theorem RowAt.of_block {b o n : Nat} {f : Nat → Value} {w w' : World} (h : RowAt b o n f w) (hb : w'.heap[b]? = w.heap[b]?) (hz : b < w'.heap.size) : RowAt b o n f w' :=
  ⟨hz, fun k hk => (World.cell?_of_block (w := w) (a := ⟨b, o + k, none⟩) hb).trans (h.c k hk), fun k hk => (World.frozen?_of_block (w := w) (a := ⟨b, o + k, none⟩) hb).trans (h.f k hk)⟩
theorem RowAt.below {b o n B : Nat} {f : Nat → Value} {w w' : World} (h : RowAt b o n f w) (hb : Below B w w') (hB : b < B) : RowAt b o n f w' :=
  h.of_block (hb.block b hB) (Nat.lt_of_lt_of_le h.z hb.size)
theorem RowAt.alloc (f : Nat → Value) (n : Nat) (w : World) (t : TypeId) : RowAt w.heap.size 0 n f (w.alloc (.cells (rowOf f n) t)) := by
  refine ⟨by simp, fun k hk => ?_, fun k hk => by simp⟩
  simp [hk, rowOf]
theorem RowAt.congr {b o n : Nat} {f g : Nat → Value} {w : World} (h : RowAt b o n f w) (e : ∀ k, k < n → f k = g k) : RowAt b o n g w :=
  ⟨h.z, fun k hk => by rw [h.c k hk, e k hk], h.f⟩
theorem MemAt.sub {b : Nat} {v : MemV} {w : World} (h : MemAt b v w) {o n : Nat} (hn : o + n ≤ 136) : RowAt b o n (fun k => v.cell (o + k)) w :=
  ⟨h.z, fun k hk => h.c (o + k) (by omega), fun k hk => h.f (o + k) (by omega)⟩

section
variable {t : TypeId} {b o n : Nat} {f : Nat → Value} {w : World}
theorem load_row (ha : ∀ w, (isAgg t).run Tryz.prog w = .ok true w) (hs : ∀ w, (sizeOf t).run Tryz.prog w = .ok n w) (h : RowAt b o n f w) :
    (Instr.loadAt t (.pointer (some ⟨b, o, none⟩))).run Tryz.prog w = .ok (.agg (rowOf f n)) w := by
  have hl : (loadCells ⟨b, o, none⟩ n).run Tryz.prog w = .ok (rowOf f n) w := run_loadCells (P := Tryz.prog) (w := w) ⟨b, o, none⟩ n f (fun j hj => by
    have := h.c j hj
    have hadd : (⟨b, o, none⟩ : Addr).add j = ⟨b, o + j, none⟩ := by unfold Addr.add; split <;> simp_all
    rw [hadd]
    exact this)
  simp only [Instr.loadAt, Instr.sureAddr, Sem.run_bind, Sem.run_pure, Result.andThen, loadVar, ha, hs, if_true, hl]

theorem store_row (f' : Nat → Value) (hs : ∀ w, (sizeOf t).run Tryz.prog w = .ok n w) (h1 : ∀ k, k < n → (f' k).oneCell' = true) (h : RowAt b o n f w) :
    (Instr.storeAt t (.pointer (some ⟨b, o, none⟩)) (.agg (rowOf f' n))).run Tryz.prog w = .ok () (w.setCells b o (rowOf f' n).toList) := by
  have hl : (rowOf f' n).toList.length = n := by simp [rowOf]
  have hm : ∀ u ∈ (rowOf f' n).toList, u.oneCell' = true := by
    intro u hu
    simp only [rowOf, List.mem_map, List.mem_range] at hu
    obtain ⟨k, hk, rfl⟩ := hu
    exact h1 k hk
  have := run_storeCells_cells (P := Tryz.prog) b o (rowOf f' n).toList 0 w (fun j hj => by rw [show o + 0 + j = o + j by omega, h.c j (by omega)]; rfl) (fun j hj => by rw [show o + 0 + j = o + j by omega]; exact h.f j (by omega)) hm
  simp only [Instr.storeAt, Instr.sureAddr, Sem.run_bind, Sem.run_pure, Result.andThen, storeVar, hs, Value.cells, rowOf_size]
  simpa using this

theorem RowAt.stored (f' : Nat → Value) (h : RowAt b o n f w) : RowAt b o n f' (w.setCells b o (rowOf f' n).toList) := by
  have hl : (rowOf f' n).toList.length = n := by simp [rowOf]
  refine ⟨by rw [setCells_size]; exact h.z, fun k hk => ?_, fun k hk => by rw [setCells_frozen]; exact h.f k hk⟩
  have := World.cell?_setCells_in b (rowOf f' n).toList o w (fun j hj => by rw [h.c j (by omega)]; rfl) k (by omega)
  rw [this]
  simp [rowOf]

theorem RowAt.other {c q m : Nat} {vs : List Value} (h : RowAt b o m f w) (hn : b ≠ c) : RowAt b o m f (w.setCells c q vs) :=
  ⟨by rw [setCells_size]; exact h.z, fun k hk => by rw [World.cell?_setCells_out c vs q w ⟨b, o + k, none⟩ (fun e => absurd e hn)]; exact h.c k hk, fun k hk => by rw [setCells_frozen]; exact h.f k hk⟩
end

/-- A piece of a memory that is written. -/
theorem MemAt.putRow {b o n : Nat} {v v' : MemV} {f' : Nat → Value} {w : World} (h : MemAt b v w) (hn : o + n ≤ 136) (hu : ∀ k, k < n → v'.cell (o + k) = f' k) (ho : ∀ i, i < 136 → (i < o ∨ o + n ≤ i) → v'.cell i = v.cell i) :
    MemAt b v' (w.setCells b o (rowOf f' n).toList) := by
  have hl : (rowOf f' n).toList.length = n := by simp [rowOf]
  have hr := (h.sub hn).stored f'
  refine ⟨hr.z, fun k hk => ?_, fun k hk => by rw [setCells_frozen]; exact h.f k hk⟩
  by_cases hin : o ≤ k ∧ k < o + n
  · have := hr.c (k - o) (by omega)
    rw [show o + (k - o) = k by omega] at this
    rw [this, ← hu (k - o) (by omega), show o + (k - o) = k by omega]
  · rw [World.cell?_setCells_out b _ o w ⟨b, k, none⟩ (fun _ => by simp only [hl]; omega), h.c k hk, ho k hk (by omega)]

theorem RowAt.c0 {b n k : Nat} {f : Nat → Value} {w : World} (h : RowAt b 0 n f w) (hk : k < n) : w.cell? ⟨b, k, none⟩ = some (f k) := by
  have := h.c k hk
  rwa [Nat.zero_add] at this
theorem RowAt.f0 {b n k : Nat} {f : Nat → Value} {w : World} (h : RowAt b 0 n f w) (hk : k < n) : w.frozen? ⟨b, k, none⟩ = false := by
  have := h.f k hk
  rwa [Nat.zero_add] at this
theorem RowAt.put {b k n : Nat} {f f' : Nat → Value} {u : Value} {w : World} (h : RowAt b 0 n f w) (hk : k < n) (hu : f' k = u) (ho : ∀ i, i < n → i ≠ k → f' i = f i) :
    RowAt b 0 n f' (w.setCell ⟨b, k, none⟩ u) := by
  refine ⟨by simpa [World.setCell] using h.z, fun i hi => ?_, fun i hi => by rw [World.frozen?_setCell]; exact h.f i hi⟩
  rw [Nat.zero_add]
  by_cases e : i = k
  · subst e
    rw [World.cell?_setCell_same _ _ _ (h.c0 hi), hu]
  · rw [World.cell?_setCell_other _ _ _ _ (by intro hh; cases hh; exact e rfl), h.c0 hi, ho i hi e]
/-- One cell more of a row that is being copied. -/
theorem RowAt.more {b k m n : Nat} {f z : Nat → Value} {u : Value} {w : World} (h : RowAt b 0 n (fun j => if j < k then f j else z j) w) (hk : k < n) (hm : m = k + 1) (hu : f k = u) :
    RowAt b 0 n (fun j => if j < m then f j else z j) (w.setCell ⟨b, k, none⟩ u) := by
  subst hm
  refine h.put hk ?_ fun i _ hi => ?_
  · rw [if_pos (by omega), hu]
  · by_cases h1 : i < k
    · rw [if_pos h1, if_pos (by omega)]
    · rw [if_neg h1, if_neg (by omega)]
theorem RowAt.at_other {b o n c k : Nat} {f : Nat → Value} {u : Value} {w : World} (h : RowAt b o n f w) (hn : b ≠ c) : RowAt b o n f (w.setCell ⟨c, k, none⟩ u) :=
  h.of_block (Below.heap_setCell _ _ _ _ (by simp; omega)) (by simpa [World.setCell] using h.z)

/-- An array that is handed back out of the cells of its result. -/
theorem ret_row {fn : Func} {R : Ending → World → Prop} {a : Act} {w : World} {t : TypeId} {b c n : Nat} {f : Nat → Value} (ha : ∀ w, (isAgg t).run Tryz.prog w = .ok true w) (hs : ∀ w, (sizeOf t).run Tryz.prog w = .ok n w)
    (hf : fn.results = #[.cell c t]) (hc : a.tmps.getD c undef = .pointer (some ⟨b, 0, none⟩))
    (hd : a.defers = []) (h : RowAt b 0 n f w) (hR : R (.returned (.agg (rowOf f n))) w) : bodyPost Tryz.prog fn R .ret a w := by
  refine ⟨hd, .agg (rowOf f n), ?_, hR⟩
  have hl : (loadVar t ⟨b, 0, none⟩).run Tryz.prog w = .ok (.agg (rowOf f n)) w := by
    have := load_row ha hs h
    simpa only [Instr.loadAt, Instr.sureAddr, Sem.run_bind, Sem.run_pure, Result.andThen] using this
  have hc' : a.tmps[c]?.getD undef = .pointer (some ⟨b, 0, none⟩) := by simpa using hc
  simp [results, hf, hc', asAddr, hl]

/-- Three boxes: an array that came in, and two of nothing. -/
theorem three_rows (f z : Nat → Value) (n : Nat) (w : World) (t1 t2 t3 : TypeId) :
    RowAt w.heap.size 0 n f (((w.alloc (.cells (rowOf f n) t1)).alloc (.cells (rowOf z n) t2)).alloc (.cells (rowOf z n) t3)) ∧
    RowAt (w.heap.size + 1) 0 n z (((w.alloc (.cells (rowOf f n) t1)).alloc (.cells (rowOf z n) t2)).alloc (.cells (rowOf z n) t3)) ∧
    RowAt (w.heap.size + 1 + 1) 0 n z (((w.alloc (.cells (rowOf f n) t1)).alloc (.cells (rowOf z n) t2)).alloc (.cells (rowOf z n) t3)) ∧
    Below w.heap.size w (((w.alloc (.cells (rowOf f n) t1)).alloc (.cells (rowOf z n) t2)).alloc (.cells (rowOf z n) t3)) := by
  have h1 : ∀ (w : World) (o : Obj), Below w.heap.size w (w.alloc o) := fun w o => (Below.refl _ _).alloc (Nat.le_refl _) _
  refine ⟨?_, ?_, ?_, ?_⟩
  · exact ((RowAt.alloc f n w t1).below (h1 _ _) (by simp)).below (h1 _ _) (by simp; omega)
  · have := (RowAt.alloc z n (w.alloc (.cells (rowOf f n) t1)) t2).below (h1 _ (.cells (rowOf z n) t3)) (by simp)
    simpa using this
  · have := RowAt.alloc z n ((w.alloc (.cells (rowOf f n) t1)).alloc (.cells (rowOf z n) t2)) t3
    simpa using this
  · exact (((Below.refl w.heap.size w).alloc (Nat.le_refl _) _).alloc (by simp) _).alloc (by simp; omega) _

def zTimer (j : Nat) : Value := if j % 2 = 0 then .bool false else .int .u16 0
def zCounter (j : Nat) : Value := if j % 3 = 2 then .int .u16 0 else .bool false
def zInt (_ : Nat) : Value := .int .i16 0
def zReal (_ : Nat) : Value := .float .f64 0
def fTimer (D : Nat → Bool) (C : Nat → Nat) (j : Nat) : Value := if j % 2 = 0 then .bool (D (j / 2)) else .int .u16 (C (j / 2))
def fCounter (D L : Nat → Bool) (C : Nat → Nat) (j : Nat) : Value := if j % 3 = 0 then .bool (D (j / 3)) else if j % 3 = 1 then .bool (L (j / 3)) else .int .u16 (C (j / 3))
def fInt (D : Nat → Int) (j : Nat) : Value := .int .i16 (D j)
def fReal (R : Nat → Nat) (j : Nat) : Value := .float .f64 (R j)


theorem aTimer : ∀ w, (isAgg 28).run Tryz.prog w = .ok true w := fun _ => by kernel_rfl
theorem sTimer : ∀ w, (sizeOf 28).run Tryz.prog w = .ok 32 w := fun _ => by kernel_rfl
theorem aCounter : ∀ w, (isAgg 31).run Tryz.prog w = .ok true w := fun _ => by kernel_rfl
theorem sCounter : ∀ w, (sizeOf 31).run Tryz.prog w = .ok 48 w := fun _ => by kernel_rfl
theorem aInt : ∀ w, (isAgg 33).run Tryz.prog w = .ok true w := fun _ => by kernel_rfl
theorem sInt : ∀ w, (sizeOf 33).run Tryz.prog w = .ok 32 w := fun _ => by kernel_rfl
theorem aReal : ∀ w, (isAgg 35).run Tryz.prog w = .ok true w := fun _ => by kernel_rfl
theorem sReal : ∀ w, (sizeOf 35).run Tryz.prog w = .ok 16 w := fun _ => by kernel_rfl

theorem fTimer_one (D : Nat → Bool) (C : Nat → Nat) (j : Nat) : (fTimer D C j).oneCell' = true := by unfold fTimer; split <;> rfl
theorem fCounter_one (D L : Nat → Bool) (C : Nat → Nat) (j : Nat) : (fCounter D L C j).oneCell' = true := by unfold fCounter; split <;> (try split) <;> rfl

theorem fTimer_0 (D : Nat → Bool) (C : Nat → Nat) (k : Nat) : fTimer D C (k * 2) = .bool (D k) := by
  unfold fTimer
  rw [if_pos (by omega), show k * 2 / 2 = k by omega]
theorem fTimer_1 (D : Nat → Bool) (C : Nat → Nat) (k : Nat) : fTimer D C (k * 2 + 1) = .int .u16 (C k) := by
  unfold fTimer
  rw [if_neg (by omega), show (k * 2 + 1) / 2 = k by omega]
theorem fCounter_0 (D L : Nat → Bool) (C : Nat → Nat) (k : Nat) : fCounter D L C (k * 3) = .bool (D k) := by
  unfold fCounter
  rw [if_pos (by omega), show k * 3 / 3 = k by omega]
theorem fCounter_1 (D L : Nat → Bool) (C : Nat → Nat) (k : Nat) : fCounter D L C (k * 3 + 1) = .bool (L k) := by
  unfold fCounter
  rw [if_neg (by omega), if_pos (by omega), show (k * 3 + 1) / 3 = k by omega]
theorem fCounter_2 (D L : Nat → Bool) (C : Nat → Nat) (k : Nat) : fCounter D L C (k * 3 + 2) = .int .u16 (C k) := by
  unfold fCounter
  rw [if_neg (by omega), if_neg (by omega), show (k * 3 + 2) / 3 = k by omega]

theorem RowAt.moreRow {b k n N : Nat} {f z g : Nat → Value} {w : World} (h : RowAt b 0 N (fun j => if j < k then f j else z j) w) (hn : k + n ≤ N) (hg : ∀ i, i < n → g i = f (k + i)) :
    RowAt b 0 N (fun j => if j < k + n then f j else z j) (w.setCells b k (rowOf g n).toList) := by
  have hl : (rowOf g n).toList.length = n := by simp [rowOf]
  refine ⟨by rw [setCells_size]; exact h.z, fun i hi => ?_, fun i hi => by rw [setCells_frozen]; exact h.f i hi⟩
  rw [Nat.zero_add]
  by_cases hin : k ≤ i ∧ i < k + n
  · have := World.cell?_setCells_in b (rowOf g n).toList k w (fun j hj => by rw [h.c0 (by omega)]; rfl) (i - k) (by omega)
    rw [show k + (i - k) = i by omega] at this
    rw [this, if_pos (by omega)]
    have e : g (i - k) = f i := by
      rw [hg _ (by omega), show k + (i - k) = i by omega]
    simp [rowOf, e]
  · rw [World.cell?_setCells_out b _ k w ⟨b, i, none⟩ (fun _ => by simp only [hl]; omega), h.c0 hi]
    by_cases h1 : i < k
    · rw [if_pos h1, if_pos (by omega)]
    · rw [if_neg h1, if_neg (by omega)]

theorem RowAt.sub {b k n N : Nat} {f : Nat → Value} {w : World} (h : RowAt b 0 N f w) (hn : k + n ≤ N) : RowAt b k n (fun j => f (k + j)) w :=
  ⟨h.z, fun j hj => h.c0 (by omega), fun j hj => h.f0 (by omega)⟩

theorem RowAt.mem {b : Nat} {v : MemV} {w : World} (h : RowAt b 0 136 v.cell w) : MemAt b v w := ⟨h.z, fun _ hk => h.c0 hk, fun _ hk => h.f0 hk⟩
theorem MemAt.rowAt {b : Nat} {v : MemV} {w : World} (h : MemAt b v w) : RowAt b 0 136 v.cell w := ⟨h.z, fun k hk => by rw [Nat.zero_add]; exact h.c k hk, fun k hk => by rw [Nat.zero_add]; exact h.f k hk⟩
theorem MemAt.at_other {b c k : Nat} {v : MemV} {u : Value} {w : World} (h : MemAt b v w) (hn : b ≠ c) : MemAt b v (w.setCell ⟨c, k, none⟩ u) :=
  h.of_block (Below.heap_setCell _ _ _ _ (by simp; omega)) (by simpa [World.setCell] using h.z)

section
variable {v : MemV}
theorem cell_timer {k : Nat} (h : k < 32) : v.cell (5 + k) = fTimer v.tD v.tC k := by
  unfold fTimer
  by_cases hk : k % 2 = 0
  · have := v.cell_tD (k / 2) (by omega)
    rw [show 5 + k / 2 * 2 = 5 + k by omega] at this
    rw [if_pos hk, this]
  · have := v.cell_tC (k / 2) (by omega)
    rw [show 5 + k / 2 * 2 + 1 = 5 + k by omega] at this
    rw [if_neg hk, this]
theorem cell_counter {k : Nat} (h : k < 48) : v.cell (37 + k) = fCounter v.cD v.cL v.cC k := by
  unfold fCounter
  by_cases hk : k % 3 = 0
  · have := v.cell_cD (k / 3) (by omega)
    rw [show 37 + k / 3 * 3 = 37 + k by omega] at this
    rw [if_pos hk, this]
  by_cases hk1 : k % 3 = 1
  · have := v.cell_cL (k / 3) (by omega)
    rw [show 37 + k / 3 * 3 + 1 = 37 + k by omega] at this
    rw [if_neg hk, if_pos hk1, this]
  · have := v.cell_cC (k / 3) (by omega)
    rw [show 37 + k / 3 * 3 + 2 = 37 + k by omega] at this
    rw [if_neg hk, if_neg hk1, this]
theorem cell_int' {k : Nat} (h : k < 32) : v.cell (85 + k) = fInt v.d k := v.cell_d k h
theorem cell_real' {k : Nat} (h : k < 16) : v.cell (117 + k) = fReal v.r k := v.cell_r k h
end

theorem MemAt.timers {b : Nat} {v : MemV} {w : World} (h : MemAt b v w) : RowAt b 5 32 (fTimer v.tD v.tC) w := (h.sub (by omega)).congr fun _ hk => cell_timer hk
theorem MemAt.counters {b : Nat} {v : MemV} {w : World} (h : MemAt b v w) : RowAt b 37 48 (fCounter v.cD v.cL v.cC) w := (h.sub (by omega)).congr fun _ hk => cell_counter hk
theorem MemAt.ints {b : Nat} {v : MemV} {w : World} (h : MemAt b v w) : RowAt b 85 32 (fInt v.d) w := (h.sub (by omega)).congr fun _ hk => cell_int' hk
theorem MemAt.reals {b : Nat} {v : MemV} {w : World} (h : MemAt b v w) : RowAt b 117 16 (fReal v.r) w := (h.sub (by omega)).congr fun _ hk => cell_real' hk


end Go.Proofs.YtdhoimjkgicneaaGreatDoor
