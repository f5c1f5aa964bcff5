/- Texts of this proof laid together: RegK, RegH, ArgT. -/
import Derived.OrdersHeld
import Derived.Tactics
import Derived.Test.YtdhoimjkgicneaaDoorRows
import Derived.WalkKit
import Derived.Test.YtdhoimjkgicneaaDoorLot1
import Derived.Test.YtdhoimjkgicneaaDoorLot9
/- A region that draws its order, walked with a condition that is held behind each of its operations: what yields its value in every world that meets it is taken first. -/
namespace Go.Proofs.YtdhoimjkgicneaaDoor
open Go Go.RowKit

section
variable {P : Program} {ops : Array Oper} {Q : Exit → Act → World → Prop} {md : Region.Mode} {S : World → Prop} {fuel : Nat} {ls : Array Bool} {a : Act} {w : World}

theorem held_any {i : Nat} {o : Oper} {v : Value} (hi : ops[i]? = some o) (hs : Region.noSelect ops = true) (hf : Region.free md ops ls i = true) (hr : (Region.ready md ops ls).contains i = true)
    (hg : Region.wanted o (yielded ops a.tmps) = true) (hQ : ∀ c a w, Q (.panic c) (a.put o.dst v) w → Q (.panic c) a w) (hv : ∀ w, S w → (execOp a.eval o).run P w = .ok (.value v) w) (hS : S w)
    (h : wpAnyH P md ops Q S fuel (ls.setIfInBounds i true) (a.put o.dst v) w) : wpAnyH P md ops Q S (fuel + 1) ls a w :=
  wpAnyH_take hi hs hf hr hQ (Or.inl ⟨hg, hv⟩) hS h

theorem held_load {i : Nat} {o : Oper} {t : TypeId} {p : Operand} {x v : Value} (hi : ops[i]? = some o) (ho : o.op = .load t p) (hx : a.eval p = x) (hs : Region.noSelect ops = true) (hf : Region.free md ops ls i = true) (hr : (Region.ready md ops ls).contains i = true)
    (hg : Region.wanted o (yielded ops a.tmps) = true) (hQ : ∀ c a w, Q (.panic c) (a.put o.dst v) w → Q (.panic c) a w) (hv : ∀ w, S w → (Instr.loadAt t x).run P w = .ok v w) (hS : S w)
    (h : wpAnyH P md ops Q S fuel (ls.setIfInBounds i true) (a.put o.dst v) w) : wpAnyH P md ops Q S (fuel + 1) ls a w := by
  refine held_any hi hs hf hr hg hQ (fun w hw => ?_) hS h
  subst hx
  simp only [execOp, ho, Sem.run_bind, hv w hw, Result.andThen, Sem.run_pure]

theorem op_is {i : Nat} {o : Oper} {K : Act → World → Prop} (hi : ops[i]? = some o) (hg : Region.wanted o (yielded ops a.tmps) = true) (h : o.wp P a w K Q) : wpOp P ops Q i K a w := by
  unfold wpOp
  simp only [hi, hg, if_true]
  exact .inl h

theorem held_one {i : Nat} (hr : Region.ready md ops ls = [i]) (h : wpOp P ops Q i (fun a' w' => S w' ∧ wpAnyH P md ops Q S fuel (ls.setIfInBounds i true) a' w') a w) : wpAnyH P md ops Q S (fuel + 1) ls a w :=
  wpAnyH_all hr (by simp) (fun j hj => by
    have : j = i := by simpa using hj
    subst this; exact h)
theorem held_two {i j : Nat} (hr : Region.ready md ops ls = [i, j]) (h : wpOp P ops Q i (fun a' w' => S w' ∧ wpAnyH P md ops Q S fuel (ls.setIfInBounds i true) a' w') a w)
    (g : wpOp P ops Q j (fun a' w' => S w' ∧ wpAnyH P md ops Q S fuel (ls.setIfInBounds j true) a' w') a w) : wpAnyH P md ops Q S (fuel + 1) ls a w :=
  wpAnyH_all hr (by simp) (fun k hk => by
    have : k = i ∨ k = j := by simpa using hk
    rcases this with rfl | rfl
    · exact h
    · exact g)

theorem held_call {i : Nat} {o : Oper} {f : FuncId} {args : Array Value} {K : Act → World → Prop} (hi : ops[i]? = some o) (hg : Region.wanted o (yielded ops a.tmps) = true)
    (he : (execOp a.eval o).run P w = .ok (.enter f args) w) (h : Calls P f args w fun e w' => ∃ u, e = .returned u ∧ K (a.put o.dst u) w') : wpOp P ops Q i K a w := by
  refine op_is hi hg ?_
  unfold Oper.wp
  rw [he]
  simp only [Oper.upon]
  exact h.mono fun e w' ⟨u, hu, hk⟩ => by subst hu; exact hk
theorem held_value {i : Nat} {o : Oper} {u : Value} {w' : World} {K : Act → World → Prop} (hi : ops[i]? = some o) (hg : Region.wanted o (yielded ops a.tmps) = true)
    (he : (execOp a.eval o).run P w = .ok (.value u) w') (h : K (a.put o.dst u) w') : wpOp P ops Q i K a w := by
  refine op_is hi hg ?_
  unfold Oper.wp
  rw [he]
  exact h
theorem held_store {i : Nat} {o : Oper} {t : TypeId} {p y : Operand} {x u : Value} {w' : World} {K : Act → World → Prop} (hi : ops[i]? = some o) (ho : o.op = .store t p y) (hx : a.eval p = x) (hu : a.eval y = u) (hg : Region.wanted o (yielded ops a.tmps) = true)
    (he : (Instr.storeAt t x u).run P w = .ok () w') (h : K (a.put o.dst undef) w') : wpOp P ops Q i K a w := by
  refine op_is hi hg ?_
  subst hx hu
  have e : (execOp a.eval o).run P w = .ok .skip w' := by
    simp only [execOp, ho, Sem.run_bind, he, Result.andThen, Sem.run_pure]
  unfold Oper.wp
  rw [e]
  exact h
end

end Go.Proofs.YtdhoimjkgicneaaDoor

/- A region that draws its order, walked with a condition that is held: beside the memory's laws. -/

/- An operand that lies in a block of its own. -/
namespace Go.Proofs.YtdhoimjkgicneaaDoor
open Go Go.RowKit

theorem aArg : ∀ w, (isAgg 24).run Tryd.prog w = .ok true w := fun _ => by kernel_rfl
theorem sArg : ∀ w, (sizeOf 24).run Tryd.prog w = .ok 3 w := fun _ => by kernel_rfl

/-- Three cells of an operand. -/
structure ArgAt (b : Nat) (x y z : Value) (w : World) : Prop where
  lt : b < w.heap.size
  c0 : w.cell? ⟨b, 0, none⟩ = some x
  c1 : w.cell? ⟨b, 1, none⟩ = some y
  c2 : w.cell? ⟨b, 2, none⟩ = some z
  f0 : w.frozen? ⟨b, 0, none⟩ = false
  f1 : w.frozen? ⟨b, 1, none⟩ = false
  f2 : w.frozen? ⟨b, 2, none⟩ = false

theorem ArgAt.of_block {b : Nat} {x y z : Value} {w w' : World} (h : ArgAt b x y z w) (hb : w'.heap[b]? = w.heap[b]?) (hz : b < w'.heap.size) : ArgAt b x y z w' :=
  ⟨hz, (World.cell?_of_block (w := w) (a := ⟨b, 0, none⟩) hb).trans h.c0, (World.cell?_of_block (w := w) (a := ⟨b, 1, none⟩) hb).trans h.c1, (World.cell?_of_block (w := w) (a := ⟨b, 2, none⟩) hb).trans h.c2,
    (World.frozen?_of_block (w := w) (a := ⟨b, 0, none⟩) hb).trans h.f0, (World.frozen?_of_block (w := w) (a := ⟨b, 1, none⟩) hb).trans h.f1, (World.frozen?_of_block (w := w) (a := ⟨b, 2, none⟩) hb).trans h.f2⟩
theorem ArgAt.below {b B : Nat} {x y z : Value} {w w' : World} (h : ArgAt b x y z w) (hb : Below B w w') (hB : b < B) : ArgAt b x y z w' := h.of_block (hb.block b hB) (Nat.lt_of_lt_of_le h.lt hb.size)
theorem ArgAt.moved {R b : Nat} {x y z : Value} {w w' : World} (h : ArgAt b x y z w) (mv : Moved R w w') (hn : b ≠ R) : ArgAt b x y z w' := h.of_block (mv.block b h.lt hn) (Nat.lt_of_lt_of_le h.lt mv.size)
theorem ArgAt.drew {b : Nat} {x y z : Value} {w : World} (h : ArgAt b x y z w) : ArgAt b x y z w.drew := h.of_block rfl h.lt
theorem ArgAt.alloc (x y z : Value) (w : World) (t : TypeId) : ArgAt w.heap.size x y z (w.alloc (.cells #[x, y, z] t)) := ⟨by simp, by simp, by simp, by simp, by simp, by simp, by simp⟩
theorem ArgAt.other {b c o : Nat} {x y z : Value} {w : World} {vs : List Value} (h : ArgAt b x y z w) (hn : b ≠ c) : ArgAt b x y z (w.setCells c o vs) :=
  ⟨by rw [setCells_size]; exact h.lt, by rw [World.cell?_setCells_out c vs o w ⟨b, 0, none⟩ (fun e => absurd e hn)]; exact h.c0, by rw [World.cell?_setCells_out c vs o w ⟨b, 1, none⟩ (fun e => absurd e hn)]; exact h.c1,
    by rw [World.cell?_setCells_out c vs o w ⟨b, 2, none⟩ (fun e => absurd e hn)]; exact h.c2, by rw [setCells_frozen]; exact h.f0, by rw [setCells_frozen]; exact h.f1, by rw [setCells_frozen]; exact h.f2⟩

theorem ArgAt.load {b : Nat} {x y z : Value} {w : World} (h : ArgAt b x y z w) : (Instr.loadAt 24 (.pointer (some ⟨b, 0, none⟩))).run Tryd.prog w = .ok (.agg #[x, y, z]) w := by
  have hl : (loadCells ⟨b, 0, none⟩ 3).run Tryd.prog w = .ok #[x, y, z] w := run_loadCells (P := Tryd.prog) (w := w) ⟨b, 0, none⟩ 3 (fun i => if i = 0 then x else if i = 1 then y else z) (fun j hj => by
    have hj : j = 0 ∨ j = 1 ∨ j = 2 := by omega
    rcases hj with rfl | rfl | rfl
    · simpa [Addr.add] using h.c0
    · simpa [Addr.add] using h.c1
    · simpa [Addr.add] using h.c2)
  simp only [Instr.loadAt, Instr.sureAddr, Sem.run_bind, Sem.run_pure, Result.andThen, loadVar, aArg, sArg, if_true, hl]

theorem ArgAt.store {b : Nat} {x y z x' y' z' : Value} {w : World} (h : ArgAt b x y z w) (h1 : x'.oneCell' = true) (h2 : y'.oneCell' = true) (h3 : z'.oneCell' = true) :
    (Instr.storeAt 24 (.pointer (some ⟨b, 0, none⟩)) (.agg #[x', y', z'])).run Tryd.prog w = .ok () (w.setCells b 0 [x', y', z']) := by
  have := run_storeCells_cells (P := Tryd.prog) b 0 [x', y', z'] 0 w (fun j hj => by
    have hj : j = 0 ∨ j = 1 ∨ j = 2 := by simp at hj; omega
    rcases hj with rfl | rfl | rfl
    · simp [h.c0]
    · simp [h.c1]
    · simp [h.c2]) (fun j hj => by
    have hj : j = 0 ∨ j = 1 ∨ j = 2 := by simp at hj; omega
    rcases hj with rfl | rfl | rfl
    · simpa using h.f0
    · simpa using h.f1
    · simpa using h.f2) (by simp [h1, h2, h3])
  simp only [Instr.storeAt, Instr.sureAddr, Sem.run_bind, Sem.run_pure, Result.andThen, storeVar, sArg, Value.cells]
  simpa using this
theorem ArgAt.stored {b : Nat} {x y z : Value} {w : World} (x' y' z' : Value) (h : ArgAt b x y z w) : ArgAt b x' y' z' (w.setCells b 0 [x', y', z']) := by
  have hc : ∀ j, j < 3 → ((w.setCells b 0 [x', y', z']).cell? ⟨b, j, none⟩) = [x', y', z'][j]? := fun j hj => by
    have := World.cell?_setCells_in b [x', y', z'] 0 w (fun j hj => by
      have hj : j = 0 ∨ j = 1 ∨ j = 2 := by simp at hj; omega
      rcases hj with rfl | rfl | rfl
      · simp [h.c0]
      · simp [h.c1]
      · simp [h.c2]) j (by simpa using hj)
    rw [Nat.zero_add] at this
    rw [this]
    simp
  exact ⟨by rw [setCells_size]; exact h.lt, hc 0 (by omega), hc 1 (by omega), hc 2 (by omega), by rw [setCells_frozen]; exact h.f0, by rw [setCells_frozen]; exact h.f1, by rw [setCells_frozen]; exact h.f2⟩

end Go.Proofs.YtdhoimjkgicneaaDoor
