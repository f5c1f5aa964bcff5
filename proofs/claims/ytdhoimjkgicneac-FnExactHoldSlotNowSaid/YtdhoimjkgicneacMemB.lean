/- A memory in the world: read and written whole, as the program's operations do it. -/
import Derived.Test.YtdhoimjkgicneacMemA
import Derived.Test.YtdhoimjkgicneacRows
import Derived.Deep.WholeRow
import Derived.Laws.IdiomCopy
import Derived.WalkSpells
import Derived.WalkLawsBesides
namespace Go.Proofs.Ytdhoimjkgicneac
open Go Go.RowKit

theorem iMem : (Try.prog.info? 78).map (·.size) = some 136 := by kernel_rfl
theorem aMem : ∀ w, (isAgg 78).run Try.prog w = .ok true w := fun _ => by kernel_rfl
theorem sMem : ∀ w, (sizeOf 78).run Try.prog w = .ok 136 w := fun _ => by kernel_rfl

/-- Nothing. -/
def mem0 : MemV := ⟨0, 0, 0, 0, 0, fun _ => false, fun _ => 0, fun _ => false, fun _ => false, fun _ => 0, fun _ => 0, fun _ => 0, 0, false, false⟩

theorem zMem : ∀ w, (zeroValue 78).run Try.prog w = .ok (.agg mem0.row) w :=
  (zero_of_info (P := Try.prog) (t := 78) (v := .agg mem0.row) (n := 136) (by kernel_rfl)).1

theorem load_mem {b : Nat} {v : MemV} {w : World} (h : MemAt b v w) : (Instr.loadAt 78 (.pointer (some ⟨b, 0, none⟩))).run Try.prog w = .ok (.agg v.row) w := by
  simp only [Instr.loadAt, Instr.sureAddr, Sem.run_bind, Sem.run_pure, Result.andThen, loadVar, aMem, sMem, if_true, h.load]

/-- A load, a store by hand: a whole row, where the walk stands still. -/
theorem op_load {o : Oper} {a : Act} {w : World} {K : Act → World → Prop} {Q : Exit → Act → World → Prop} {t : TypeId} {p : Operand} {u : Value} (ho : o.op = .load t p)
    (h : (Instr.loadAt t (a.eval p)).run Try.prog w = .ok u w) (hK : K (a.put o.dst u) w) : o.wp Try.prog a w K Q := by
  have e : (execOp a.eval o).run Try.prog w = .ok (.value u) w := by
    simp only [execOp, ho, Sem.run_bind, h, Result.andThen, Sem.run_pure]
  unfold Oper.wp
  rw [e]
  exact hK
theorem op_store {o : Oper} {a : Act} {w w' : World} {K : Act → World → Prop} {Q : Exit → Act → World → Prop} {t : TypeId} {p x : Operand} (ho : o.op = .store t p x)
    (h : (Instr.storeAt t (a.eval p) (a.eval x)).run Try.prog w = .ok () w') (hK : K (a.put o.dst undef) w') : o.wp Try.prog a w K Q := by
  have e : (execOp a.eval o).run Try.prog w = .ok .skip w' := by
    simp only [execOp, ho, Sem.run_bind, h, Result.andThen, Sem.run_pure]
  unfold Oper.wp
  rw [e]
  exact hK

theorem list_load {ops : Array Oper} {Q : Exit → Act → World → Prop} {rest : List Oper} {o : Oper} {a : Act} {w : World} {t : TypeId} {p : Operand} {u x : Value}
    (ho : o.op = .load t p) (hx : a.eval p = x) (hg : Region.wanted o (yielded ops a.tmps) = true)
    (h : (Instr.loadAt t x).run Try.prog w = .ok u w) (hK : wpList Try.prog ops Q rest (a.put o.dst u) w) : wpList Try.prog ops Q (o :: rest) a w := by
  rw [wpList, if_pos hg]
  subst hx
  exact .inl (op_load ho h hK)

theorem list_store {ops : Array Oper} {Q : Exit → Act → World → Prop} {rest : List Oper} {o : Oper} {a : Act} {w w' : World} {t : TypeId} {p y : Operand} {u x : Value}
    (ho : o.op = .store t p y) (hx : a.eval p = x) (hu : a.eval y = u) (hg : Region.wanted o (yielded ops a.tmps) = true)
    (h : (Instr.storeAt t x u).run Try.prog w = .ok () w') (hK : wpList Try.prog ops Q rest (a.put o.dst undef) w') : wpList Try.prog ops Q (o :: rest) a w := by
  rw [wpList, if_pos hg]
  subst hx hu
  exact .inl (op_store ho h hK)

/-- A memory that is handed back out of the cells of its result. -/
theorem ret_mem {fn : Func} {R : Ending → World → Prop} {a : Act} {w : World} {b c : Nat} {v : MemV} (hf : fn.results = #[.cell c 78]) (hc : a.tmps.getD c undef = .pointer (some ⟨b, 0, none⟩))
    (hd : a.defers = []) (h : MemAt b v w) (hR : R (.returned (.agg v.row)) w) : bodyPost Try.prog fn R .ret a w := by
  refine ⟨hd, .agg v.row, ?_, hR⟩
  have hl : (loadVar 78 ⟨b, 0, none⟩).run Try.prog w = .ok (.agg v.row) w := by
    have := load_mem h
    simpa only [Instr.loadAt, Instr.sureAddr, Sem.run_bind, Sem.run_pure, Result.andThen] using this
  have hc' : a.tmps[c]?.getD undef = .pointer (some ⟨b, 0, none⟩) := by simpa using hc
  simp [results, hf, hc', asAddr, hl]

theorem row_one (v : MemV) : ∀ u ∈ v.row.toList, u.oneCell' = true := by
  intro u hu
  simp only [MemV.row, List.mem_map, List.mem_range] at hu
  obtain ⟨k, -, rfl⟩ := hu
  unfold MemV.cell
  repeat' split
  all_goals rfl

theorem store_mem {b : Nat} {v : MemV} {w : World} (v' : MemV) (h : MemAt b v w) : (Instr.storeAt 78 (.pointer (some ⟨b, 0, none⟩)) (.agg v'.row)).run Try.prog w = .ok () (w.setCells b 0 v'.row.toList) := by
  have hl : v'.row.toList.length = 136 := by simp [MemV.row]
  have := run_storeCells_cells (P := Try.prog) b 0 v'.row.toList 0 w (fun j hj => by rw [show 0 + 0 + j = j by omega, h.c j (by omega)]; rfl) (fun j hj => by rw [show 0 + 0 + j = j by omega]; exact h.f j (by omega)) (row_one v')
  simp only [Instr.storeAt, Instr.sureAddr, Sem.run_bind, Sem.run_pure, Result.andThen, storeVar, sMem, Value.cells, v'.row_size]
  simpa using this

theorem setCells_size : ∀ (vs : List Value) (b o : Nat) (w : World), (w.setCells b o vs).heap.size = w.heap.size
  | [], _, _, _ => rfl
  | u :: r, b, o, w => by
    have : (w.setCells b o (u :: r)) = (w.setCell ⟨b, o, none⟩ u).setCells b (o + 1) r := rfl
    rw [this, setCells_size r b (o + 1)]
    simp

theorem setCells_frozen : ∀ (vs : List Value) (b o : Nat) (w : World) (a : Addr), (w.setCells b o vs).frozen? a = w.frozen? a
  | [], _, _, _, _ => rfl
  | u :: r, b, o, w, a => by
    have : (w.setCells b o (u :: r)) = (w.setCell ⟨b, o, none⟩ u).setCells b (o + 1) r := rfl
    rw [this, setCells_frozen r b (o + 1), World.frozen?_setCell]

theorem setCells_below : ∀ (vs : List Value) (b o : Nat) {B : Nat} {w w' : World}, Below B w w' → B ≤ b → Below B w (w'.setCells b o vs)
  | [], _, _, _, _, _, h, _ => h
  | u :: r, b, o, B, w, w', h, hB => by
    have : (w'.setCells b o (u :: r)) = (w'.setCell ⟨b, o, none⟩ u).setCells b (o + 1) r := rfl
    rw [this]
    exact setCells_below r b (o + 1) (h.setCell (p := ⟨b, o, none⟩) hB u) hB

theorem MemAt.stored {b : Nat} {v : MemV} {w : World} (v' : MemV) (h : MemAt b v w) : MemAt b v' (w.setCells b 0 v'.row.toList) := by
  have hl : v'.row.toList.length = 136 := by simp [MemV.row]
  refine ⟨by rw [setCells_size]; exact h.z, fun k hk => ?_, fun k hk => by rw [setCells_frozen]; exact h.f k hk⟩
  have := World.cell?_setCells_in b v'.row.toList 0 w (fun j hj => by rw [Nat.zero_add, h.c j (by omega)]; rfl) k (by omega)
  rw [Nat.zero_add] at this
  rw [this]
  simp [MemV.row]

theorem MemAt.other {b c o : Nat} {v : MemV} {w : World} {vs : List Value} (h : MemAt b v w) (hn : b ≠ c) : MemAt b v (w.setCells c o vs) :=
  ⟨by rw [setCells_size]; exact h.z, fun k hk => by rw [World.cell?_setCells_out c vs o w ⟨b, k, none⟩ (fun e => absurd e hn)]; exact h.c k hk, fun k hk => by rw [setCells_frozen]; exact h.f k hk⟩

/-- One cell that is written, a real number. -/
theorem store_float {b o z : Nat} {u : Value} {w : World} (hc : w.cell? ⟨b, o, none⟩ = some u) (hf : w.frozen? ⟨b, o, none⟩ = false) :
    (store ⟨b, o, none⟩ (.float .f64 z)).run Try.prog w = .ok () (w.setCell ⟨b, o, none⟩ (.float .f64 z)) := by
  rw [run_store Try.prog w _ _ _ rfl, hc]
  simp [hf]

end Go.Proofs.Ytdhoimjkgicneac
