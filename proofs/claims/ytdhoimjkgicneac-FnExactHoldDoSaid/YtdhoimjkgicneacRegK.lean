/- A region that draws its order, walked with a condition that is held behind each of its operations: what yields its value in every world that meets it is taken first. -/
import Derived.OrdersHeld
import Derived.Tactics
import Derived.Test.YtdhoimjkgicneacRows
import Derived.WalkKit
namespace Go.Proofs.Ytdhoimjkgicneac
open Go Go.RowKit

section
variable {P : Program} {ops : Array Oper} {Q : Exit → Act → World → Prop} {md : Region.Mode} {S : World → Prop} {fuel : Nat} {ls : Array Bool} {a : Act} {w : World}

theorem held_any {i : Nat} {o : Oper} {v : Value} (hi : ops[i]? = some o) (hs : Region.noSelect ops = true) (hf : Region.free md ops ls i = true) (hr : (Region.ready md ops ls).contains i = true)
    (hg : Region.wanted o (yielded ops a.tmps) = true) (hQ : ∀ c a w, Q (.panic c) (a.put o.dst v) w → Q (.panic c) a w) (hv : ∀ w, S w → (execOp a.eval o).run P w = .ok (.value v) w) (hS : S w)
    (h : wpAnyH P md ops Q S fuel (ls.setIfInBounds i true) (a.put o.dst v) w) : wpAnyH P md ops Q S (fuel + 1) ls a w :=
  wpAnyH_take hi hs hf hr hQ (Or.inl ⟨hg, hv⟩) hS h

theorem held_load {i : Nat} {o : Oper} {t : TypeId} {p : Operand} {x v : Value} (hi : ops[i]? = some o) (ho : o.op = .load t p) (hx : a.eval p = x) (hs : Region.noSelect ops = true) (hf : Region.free md ops ls i = true) (hr : (Region.ready md ops ls).contains i = true)
    (hg : Region.wanted o (yielded ops a.tmps) = true) (hQ : ∀ c a w, Q (.panic c) (a.put o.dst v) w → Q (.panic c) a w) (hv : ∀ w, S w → (Instr.loadAt t x).run P w = .ok v w) (hS : S w)
    (h : wpAnyH P md ops Q S fuel (ls.setIfInBounds i true) (a.put o.dst v) w) : wpAnyH P md ops Q S (fuel + 1) ls a w := by
  refine held_any hi hs hf hr hg hQ (fun w hw => ?_) hS h
  subst hx
  simp only [execOp, ho, Sem.run_bind, hv w hw, Result.andThen, Sem.run_pure]

theorem op_is {i : Nat} {o : Oper} {K : Act → World → Prop} (hi : ops[i]? = some o) (hg : Region.wanted o (yielded ops a.tmps) = true) (h : o.wp P a w K Q) : wpOp P ops Q i K a w := by
  unfold wpOp
  simp only [hi, hg, if_true]
  exact .inl h

theorem held_one {i : Nat} (hr : Region.ready md ops ls = [i]) (h : wpOp P ops Q i (fun a' w' => S w' ∧ wpAnyH P md ops Q S fuel (ls.setIfInBounds i true) a' w') a w) : wpAnyH P md ops Q S (fuel + 1) ls a w :=
  wpAnyH_all hr (by simp) (fun j hj => by
    have : j = i := by simpa using hj
    subst this; exact h)
theorem held_two {i j : Nat} (hr : Region.ready md ops ls = [i, j]) (h : wpOp P ops Q i (fun a' w' => S w' ∧ wpAnyH P md ops Q S fuel (ls.setIfInBounds i true) a' w') a w)
    (g : wpOp P ops Q j (fun a' w' => S w' ∧ wpAnyH P md ops Q S fuel (ls.setIfInBounds j true) a' w') a w) : wpAnyH P md ops Q S (fuel + 1) ls a w :=
  wpAnyH_all hr (by simp) (fun k hk => by
    have : k = i ∨ k = j := by simpa using hk
    rcases this with rfl | rfl
    · exact h
    · exact g)

theorem held_call {i : Nat} {o : Oper} {f : FuncId} {args : Array Value} {K : Act → World → Prop} (hi : ops[i]? = some o) (hg : Region.wanted o (yielded ops a.tmps) = true)
    (he : (execOp a.eval o).run P w = .ok (.enter f args) w) (h : Calls P f args w fun e w' => ∃ u, e = .returned u ∧ K (a.put o.dst u) w') : wpOp P ops Q i K a w := by
  refine op_is hi hg ?_
  unfold Oper.wp
  rw [he]
  simp only [Oper.upon]
  exact h.mono fun e w' ⟨u, hu, hk⟩ => by subst hu; exact hk
theorem held_value {i : Nat} {o : Oper} {u : Value} {w' : World} {K : Act → World → Prop} (hi : ops[i]? = some o) (hg : Region.wanted o (yielded ops a.tmps) = true)
    (he : (execOp a.eval o).run P w = .ok (.value u) w') (h : K (a.put o.dst u) w') : wpOp P ops Q i K a w := by
  refine op_is hi hg ?_
  unfold Oper.wp
  rw [he]
  exact h
theorem held_store {i : Nat} {o : Oper} {t : TypeId} {p y : Operand} {x u : Value} {w' : World} {K : Act → World → Prop} (hi : ops[i]? = some o) (ho : o.op = .store t p y) (hx : a.eval p = x) (hu : a.eval y = u) (hg : Region.wanted o (yielded ops a.tmps) = true)
    (he : (Instr.storeAt t x u).run P w = .ok () w') (h : K (a.put o.dst undef) w') : wpOp P ops Q i K a w := by
  refine op_is hi hg ?_
  subst hx hu
  have e : (execOp a.eval o).run P w = .ok .skip w' := by
    simp only [execOp, ho, Sem.run_bind, he, Result.andThen, Sem.run_pure]
  unfold Oper.wp
  rw [e]
  exact h
end

end Go.Proofs.Ytdhoimjkgicneac
