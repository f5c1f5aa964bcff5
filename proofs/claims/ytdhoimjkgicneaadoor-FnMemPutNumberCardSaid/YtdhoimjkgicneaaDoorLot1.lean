/- Texts of this proof laid together: MemA, MemB. -/
import Derived.WalkKit
import Derived.Below
import Derived.Laws.Cells
import Derived.Test.YtdhoimjkgicneaaDoorRows
import Derived.Deep.WholeRow
import Derived.Laws.IdiomCopy
import Derived.WalkSpells
import Derived.WalkLawsBesides
/- A memory of the controller as a row of 136 cells, field by field. Of no one program. -/
namespace Go.Proofs.YtdhoimjkgicneaaDoor
open Go Go.RowKit

/-- A memory, field by field. -/
structure MemV where
  x : Nat
  y : Nat
  m : Nat
  s : Nat
  e : Nat
  tD : Nat → Bool
  tC : Nat → Nat
  cD : Nat → Bool
  cL : Nat → Bool
  cC : Nat → Nat
  d : Nat → Int
  r : Nat → Nat
  time : Nat
  ran : Bool
  fault : Bool

/-- Its fields fit their kinds. -/
structure MemV.Ok (v : MemV) : Prop where
  x : v.x < 4294967296
  y : v.y < 4294967296
  m : v.m < 18446744073709551616
  s : v.s < 65536
  e : v.e < 4294967296
  tC : ∀ i, v.tC i < 65536
  cC : ∀ i, v.cC i < 65536
  d1 : ∀ i, -32768 ≤ v.d i
  d2 : ∀ i, v.d i ≤ 32767
  r : ∀ i, v.r i < 2 ^ 64
  time : v.time < 4294967296

/-- Its cells. -/
def MemV.cell (v : MemV) (k : Nat) : Value :=
  if k = 0 then .int .u32 v.x else if k = 1 then .int .u32 v.y else if k = 2 then .int .u64 v.m else if k = 3 then .int .u16 v.s else if k = 4 then .int .u32 v.e
  else if k < 37 then (if (k - 5) % 2 = 0 then .bool (v.tD ((k - 5) / 2)) else .int .u16 (v.tC ((k - 5) / 2)))
  else if k < 85 then (if (k - 37) % 3 = 0 then .bool (v.cD ((k - 37) / 3)) else if (k - 37) % 3 = 1 then .bool (v.cL ((k - 37) / 3)) else .int .u16 (v.cC ((k - 37) / 3)))
  else if k < 117 then .int .i16 (v.d (k - 85))
  else if k < 133 then .float .f64 (v.r (k - 117))
  else if k = 133 then .int .u32 v.time else if k = 134 then .bool v.ran else .bool v.fault

def MemV.row (v : MemV) : Array Value := ((List.range 136).map v.cell).toArray

theorem MemV.row_size (v : MemV) : v.row.size = 136 := by simp [MemV.row]
theorem MemV.row_get (v : MemV) {k : Nat} (h : k < 136) : v.row[k]? = some (v.cell k) := by
  unfold MemV.row
  simp [h]

section
variable (v : MemV) (i : Nat)
theorem MemV.cell_x : v.cell 0 = .int .u32 v.x := rfl
theorem MemV.cell_y : v.cell 1 = .int .u32 v.y := rfl
theorem MemV.cell_m : v.cell 2 = .int .u64 v.m := rfl
theorem MemV.cell_s : v.cell 3 = .int .u16 v.s := rfl
theorem MemV.cell_e : v.cell 4 = .int .u32 v.e := rfl
theorem MemV.cell_time : v.cell 133 = .int .u32 v.time := rfl
theorem MemV.cell_ran : v.cell 134 = .bool v.ran := rfl
theorem MemV.cell_fault : v.cell 135 = .bool v.fault := rfl
theorem MemV.cell_tD (h : i < 16) : v.cell (5 + i * 2) = .bool (v.tD i) := by
  unfold MemV.cell
  rw [if_neg (by omega), if_neg (by omega), if_neg (by omega), if_neg (by omega), if_neg (by omega), if_pos (by omega), if_pos (by omega), show (5 + i * 2 - 5) / 2 = i by omega]
theorem MemV.cell_tC (h : i < 16) : v.cell (5 + i * 2 + 1) = .int .u16 (v.tC i) := by
  unfold MemV.cell
  rw [if_neg (by omega), if_neg (by omega), if_neg (by omega), if_neg (by omega), if_neg (by omega), if_pos (by omega), if_neg (by omega), show (5 + i * 2 + 1 - 5) / 2 = i by omega]
theorem MemV.cell_cD (h : i < 16) : v.cell (37 + i * 3) = .bool (v.cD i) := by
  unfold MemV.cell
  rw [if_neg (by omega), if_neg (by omega), if_neg (by omega), if_neg (by omega), if_neg (by omega), if_neg (by omega), if_pos (by omega), if_pos (by omega), show (37 + i * 3 - 37) / 3 = i by omega]
theorem MemV.cell_cL (h : i < 16) : v.cell (37 + i * 3 + 1) = .bool (v.cL i) := by
  unfold MemV.cell
  rw [if_neg (by omega), if_neg (by omega), if_neg (by omega), if_neg (by omega), if_neg (by omega), if_neg (by omega), if_pos (by omega), if_neg (by omega), if_pos (by omega), show (37 + i * 3 + 1 - 37) / 3 = i by omega]
theorem MemV.cell_cC (h : i < 16) : v.cell (37 + i * 3 + 2) = .int .u16 (v.cC i) := by
  unfold MemV.cell
  rw [if_neg (by omega), if_neg (by omega), if_neg (by omega), if_neg (by omega), if_neg (by omega), if_neg (by omega), if_pos (by omega), if_neg (by omega), if_neg (by omega), show (37 + i * 3 + 2 - 37) / 3 = i by omega]
theorem MemV.cell_d (h : i < 32) : v.cell (85 + i) = .int .i16 (v.d i) := by
  unfold MemV.cell
  rw [if_neg (by omega), if_neg (by omega), if_neg (by omega), if_neg (by omega), if_neg (by omega), if_neg (by omega), if_neg (by omega), if_pos (by omega), show 85 + i - 85 = i by omega]
theorem MemV.cell_r (h : i < 16) : v.cell (117 + i) = .float .f64 (v.r i) := by
  unfold MemV.cell
  rw [if_neg (by omega), if_neg (by omega), if_neg (by omega), if_neg (by omega), if_neg (by omega), if_neg (by omega), if_neg (by omega), if_neg (by omega), if_pos (by omega), show 117 + i - 117 = i by omega]
end

/-- Block b holds the memory v. -/
structure MemAt (b : Nat) (v : MemV) (w : World) : Prop where
  z : b < w.heap.size
  c : ∀ k, k < 136 → w.cell? ⟨b, k, none⟩ = some (v.cell k)
  f : ∀ k, k < 136 → w.frozen? ⟨b, k, none⟩ = false

theorem MemAt.alloc (v : MemV) (w : World) (t : TypeId) : MemAt w.heap.size v (w.alloc (.cells v.row t)) := by
  refine ⟨by simp, fun k hk => ?_, fun k hk => by simp⟩
  simp [hk, MemV.row]

theorem MemAt.of_block {b : Nat} {v : MemV} {w w' : World} (h : MemAt b v w) (hb : w'.heap[b]? = w.heap[b]?) (hz : b < w'.heap.size) : MemAt b v w' :=
  ⟨hz, fun k hk => (World.cell?_of_block (w := w) (a := ⟨b, k, none⟩) hb).trans (h.c k hk), fun k hk => (World.frozen?_of_block (w := w) (a := ⟨b, k, none⟩) hb).trans (h.f k hk)⟩

theorem MemAt.below {b B : Nat} {v : MemV} {w w' : World} (h : MemAt b v w) (hb : Below B w w') (hB : b < B) : MemAt b v w' :=
  h.of_block (hb.block b hB) (Nat.lt_of_lt_of_le h.z hb.size)

/-- The whole row read. -/
theorem MemAt.load {P : Program} {b : Nat} {v : MemV} {w : World} (h : MemAt b v w) : (loadCells ⟨b, 0, none⟩ 136).run P w = .ok v.row w :=
  run_loadCells (P := P) (w := w) ⟨b, 0, none⟩ 136 v.cell (fun j hj => by
    have := h.c j hj
    by_cases h0 : j = 0
    · subst h0; simpa [Addr.add] using this
    · simpa [Addr.add, h0] using this)

end Go.Proofs.YtdhoimjkgicneaaDoor

/- A memory in the world: read and written whole, as the program's operations do it. -/
namespace Go.Proofs.YtdhoimjkgicneaaDoor
open Go Go.RowKit

theorem iMem : (Tryd.prog.info? 61).map (·.size) = some 136 := by kernel_rfl
theorem aMem : ∀ w, (isAgg 61).run Tryd.prog w = .ok true w := fun _ => by kernel_rfl
theorem sMem : ∀ w, (sizeOf 61).run Tryd.prog w = .ok 136 w := fun _ => by kernel_rfl

/-- Nothing. -/
def mem0 : MemV := ⟨0, 0, 0, 0, 0, fun _ => false, fun _ => 0, fun _ => false, fun _ => false, fun _ => 0, fun _ => 0, fun _ => 0, 0, false, false⟩

theorem zMem : ∀ w, (zeroValue 61).run Tryd.prog w = .ok (.agg mem0.row) w :=
  (zero_of_info (P := Tryd.prog) (t := 61) (v := .agg mem0.row) (n := 136) (by kernel_rfl)).1

theorem load_mem {b : Nat} {v : MemV} {w : World} (h : MemAt b v w) : (Instr.loadAt 61 (.pointer (some ⟨b, 0, none⟩))).run Tryd.prog w = .ok (.agg v.row) w := by
  simp only [Instr.loadAt, Instr.sureAddr, Sem.run_bind, Sem.run_pure, Result.andThen, loadVar, aMem, sMem, if_true, h.load]

/-- A load, a store by hand: a whole row, where the walk stands still. -/
theorem op_load {o : Oper} {a : Act} {w : World} {K : Act → World → Prop} {Q : Exit → Act → World → Prop} {t : TypeId} {p : Operand} {u : Value} (ho : o.op = .load t p)
    (h : (Instr.loadAt t (a.eval p)).run Tryd.prog w = .ok u w) (hK : K (a.put o.dst u) w) : o.wp Tryd.prog a w K Q := by
  have e : (execOp a.eval o).run Tryd.prog w = .ok (.value u) w := by
    simp only [execOp, ho, Sem.run_bind, h, Result.andThen, Sem.run_pure]
  unfold Oper.wp
  rw [e]
  exact hK
theorem op_store {o : Oper} {a : Act} {w w' : World} {K : Act → World → Prop} {Q : Exit → Act → World → Prop} {t : TypeId} {p x : Operand} (ho : o.op = .store t p x)
    (h : (Instr.storeAt t (a.eval p) (a.eval x)).run Tryd.prog w = .ok () w') (hK : K (a.put o.dst undef) w') : o.wp Tryd.prog a w K Q := by
  have e : (execOp a.eval o).run Tryd.prog w = .ok .skip w' := by
    simp only [execOp, ho, Sem.run_bind, h, Result.andThen, Sem.run_pure]
  unfold Oper.wp
  rw [e]
  exact hK

theorem list_load {ops : Array Oper} {Q : Exit → Act → World → Prop} {rest : List Oper} {o : Oper} {a : Act} {w : World} {t : TypeId} {p : Operand} {u x : Value}
    (ho : o.op = .load t p) (hx : a.eval p = x) (hg : Region.wanted o (yielded ops a.tmps) = true)
    (h : (Instr.loadAt t x).run Tryd.prog w = .ok u w) (hK : wpList Tryd.prog ops Q rest (a.put o.dst u) w) : wpList Tryd.prog ops Q (o :: rest) a w := by
  rw [wpList, if_pos hg]
  subst hx
  exact .inl (op_load ho h hK)

theorem list_store {ops : Array Oper} {Q : Exit → Act → World → Prop} {rest : List Oper} {o : Oper} {a : Act} {w w' : World} {t : TypeId} {p y : Operand} {u x : Value}
    (ho : o.op = .store t p y) (hx : a.eval p = x) (hu : a.eval y = u) (hg : Region.wanted o (yielded ops a.tmps) = true)
    (h : (Instr.storeAt t x u).run Tryd.prog w = .ok () w') (hK : wpList Tryd.prog ops Q rest (a.put o.dst undef) w') : wpList Tryd.prog ops Q (o :: rest) a w := by
  rw [wpList, if_pos hg]
  subst hx hu
  exact .inl (op_store ho h hK)

/-- A memory that is handed back out of the cells of its result. -/
theorem ret_mem {fn : Func} {R : Ending → World → Prop} {a : Act} {w : World} {b c : Nat} {v : MemV} (hf : fn.results = #[.cell c 61]) (hc : a.tmps.getD c undef = .pointer (some ⟨b, 0, none⟩))
    (hd : a.defers = []) (h : MemAt b v w) (hR : R (.returned (.agg v.row)) w) : bodyPost Tryd.prog fn R .ret a w := by
  refine ⟨hd, .agg v.row, ?_, hR⟩
  have hl : (loadVar 61 ⟨b, 0, none⟩).run Tryd.prog w = .ok (.agg v.row) w := by
    have := load_mem h
    simpa only [Instr.loadAt, Instr.sureAddr, Sem.run_bind, Sem.run_pure, Result.andThen] using this
  have hc' : a.tmps[c]?.getD undef = .pointer (some ⟨b, 0, none⟩) := by simpa using hc
  simp [results, hf, hc', asAddr, hl]

theorem row_one (v : MemV) : ∀ u ∈ v.row.toList, u.oneCell' = true := by
  intro u hu
  simp only [MemV.row, List.mem_map, List.mem_range] at hu
  obtain ⟨k, -, rfl⟩ := hu
  unfold MemV.cell
  repeat' split
  all_goals rfl

theorem store_mem {b : Nat} {v : MemV} {w : World} (v' : MemV) (h : MemAt b v w) : (Instr.storeAt 61 (.pointer (some ⟨b, 0, none⟩)) (.agg v'.row)).run Tryd.prog w = .ok () (w.setCells b 0 v'.row.toList) := by
  have hl : v'.row.toList.length = 136 := by simp [MemV.row]
  have := run_storeCells_cells (P := Tryd.prog) b 0 v'.row.toList 0 w (fun j hj => by rw [show 0 + 0 + j = j by omega, h.c j (by omega)]; rfl) (fun j hj => by rw [show 0 + 0 + j = j by omega]; exact h.f j (by omega)) (row_one v')
  simp only [Instr.storeAt, Instr.sureAddr, Sem.run_bind, Sem.run_pure, Result.andThen, storeVar, sMem, Value.cells, v'.row_size]
  simpa using this

theorem setCells_size : ∀ (vs : List Value) (b o : Nat) (w : World), (w.setCells b o vs).heap.size = w.heap.size
  | [], _, _, _ => rfl
  | u :: r, b, o, w => by
    have : (w.setCells b o (u :: r)) = (w.setCell ⟨b, o, none⟩ u).setCells b (o + 1) r := rfl
    rw [this, setCells_size r b (o + 1)]
    simp

theorem setCells_frozen : ∀ (vs : List Value) (b o : Nat) (w : World) (a : Addr), (w.setCells b o vs).frozen? a = w.frozen? a
  | [], _, _, _, _ => rfl
  | u :: r, b, o, w, a => by
    have : (w.setCells b o (u :: r)) = (w.setCell ⟨b, o, none⟩ u).setCells b (o + 1) r := rfl
    rw [this, setCells_frozen r b (o + 1), World.frozen?_setCell]

theorem setCells_below : ∀ (vs : List Value) (b o : Nat) {B : Nat} {w w' : World}, Below B w w' → B ≤ b → Below B w (w'.setCells b o vs)
  | [], _, _, _, _, _, h, _ => h
  | u :: r, b, o, B, w, w', h, hB => by
    have : (w'.setCells b o (u :: r)) = (w'.setCell ⟨b, o, none⟩ u).setCells b (o + 1) r := rfl
    rw [this]
    exact setCells_below r b (o + 1) (h.setCell (p := ⟨b, o, none⟩) hB u) hB

theorem MemAt.stored {b : Nat} {v : MemV} {w : World} (v' : MemV) (h : MemAt b v w) : MemAt b v' (w.setCells b 0 v'.row.toList) := by
  have hl : v'.row.toList.length = 136 := by simp [MemV.row]
  refine ⟨by rw [setCells_size]; exact h.z, fun k hk => ?_, fun k hk => by rw [setCells_frozen]; exact h.f k hk⟩
  have := World.cell?_setCells_in b v'.row.toList 0 w (fun j hj => by rw [Nat.zero_add, h.c j (by omega)]; rfl) k (by omega)
  rw [Nat.zero_add] at this
  rw [this]
  simp [MemV.row]

theorem MemAt.other {b c o : Nat} {v : MemV} {w : World} {vs : List Value} (h : MemAt b v w) (hn : b ≠ c) : MemAt b v (w.setCells c o vs) :=
  ⟨by rw [setCells_size]; exact h.z, fun k hk => by rw [World.cell?_setCells_out c vs o w ⟨b, k, none⟩ (fun e => absurd e hn)]; exact h.c k hk, fun k hk => by rw [setCells_frozen]; exact h.f k hk⟩

/-- One cell that is written, a real number. -/
theorem store_float {b o z : Nat} {u : Value} {w : World} (hc : w.cell? ⟨b, o, none⟩ = some u) (hf : w.frozen? ⟨b, o, none⟩ = false) :
    (store ⟨b, o, none⟩ (.float .f64 z)).run Tryd.prog w = .ok () (w.setCell ⟨b, o, none⟩ (.float .f64 z)) := by
  rw [run_store Tryd.prog w _ _ _ rfl, hc]
  simp [hf]

end Go.Proofs.YtdhoimjkgicneaaDoor
