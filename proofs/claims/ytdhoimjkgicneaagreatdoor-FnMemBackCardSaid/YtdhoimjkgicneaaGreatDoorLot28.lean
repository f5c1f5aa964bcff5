/- Texts of this proof laid together: RegB, RegK, KepD0. -/
import Derived.Test.YtdhoimjkgicneaaGreatDoorLot1
import Derived.Deep.QuietTactic
import Derived.BigQuiet
import Derived.OrdersHeld
import Derived.Tactics
import Derived.Test.YtdhoimjkgicneaaGreatDoorRows
import Derived.WalkKit
import Derived.Deep.Cut
import Derived.Laws.Tables
import Derived.Deep.RegionHeld
import Derived.StillTailTactics
/- Laws of walks: a region that draws its order and leaves what was there, operation by operation; an operator on two values, given what it gives. -/
namespace Go.Proofs.YtdhoimjkgicneaaGreatDoor
open Go Go.RowKit

/-- A region that draws its order, whose operations and callees leave what was there. -/
theorem wp_region_belowM {P : Program} {id : Nat} {Q : Exit → Act → World → Prop} {a : Act} {w : World} {l : List Oper} (hm : P.follows .mixedOrders = true) (hB : Region.lexB .any l.toArray = true)
    (h : wpQuiet P l.toArray (Below w.heap.size w) (fun a' => ∀ w', Below w.heap.size w w' → Q .normal a' w') l a) : (Code.region id l.toArray true).wp P Q a w :=
  wp_region_quiet (C := Below w.heap.size w) hm hB (Below.refl w.heap.size w).drew (by simpa using h)

section
variable {ops : Array Oper} {C : World → Prop} {Q : Act → Prop} {rest : List Oper} {o : Oper} {a : Act}
theorem quiet_any {v : Value} (hg : Region.wanted o (yielded ops a.tmps) = true) (h : ∀ w, C w → (execOp a.eval o).run Tryz.prog w = .ok (.value v) w) (hK : wpQuiet Tryz.prog ops C Q rest (a.put o.dst v)) : wpQuiet Tryz.prog ops C Q (o :: rest) a := by
  rw [wpQuiet, if_pos hg]
  refine ⟨v, fun w hw => ?_, hK⟩
  unfold Oper.quietAt
  rw [h w hw]
  first | exact ⟨rfl, rfl⟩ | exact ⟨rfl, hw⟩ | simp [Oper.quietUpon, hw]
theorem quiet_load {t : TypeId} {p : Operand} {x v : Value} (ho : o.op = .load t p) (hx : a.eval p = x) (hg : Region.wanted o (yielded ops a.tmps) = true) (h : ∀ w, C w → (Instr.loadAt t x).run Tryz.prog w = .ok v w)
    (hK : wpQuiet Tryz.prog ops C Q rest (a.put o.dst v)) : wpQuiet Tryz.prog ops C Q (o :: rest) a := by
  refine quiet_any hg (fun w hw => ?_) hK
  subst hx
  simp only [execOp, ho, Sem.run_bind, h w hw, Result.andThen, Sem.run_pure]
theorem quiet_bin {op : BinOp} {t t2 : TypeId} {x y : Operand} {u1 u2 v : Value} (ho : o.op = .binOp op t x y t2) (hx : a.eval x = u1) (hy : a.eval y = u2) (hg : Region.wanted o (yielded ops a.tmps) = true)
    (h1 : ∀ w, (eqGuard op t x y u1 u2).run Tryz.prog w = .ok () w) (h2 : ∀ w, (binOp op t u1 u2).run Tryz.prog w = .ok v w) (hK : wpQuiet Tryz.prog ops C Q rest (a.put o.dst v)) : wpQuiet Tryz.prog ops C Q (o :: rest) a := by
  refine quiet_any hg (fun w _ => ?_) hK
  subst hx hy
  simp only [execOp, ho, Sem.run_bind, h1 w, h2 w, Result.andThen, Sem.run_pure]
end

theorem list_bin {ops : Array Oper} {Q : Exit → Act → World → Prop} {rest : List Oper} {o : Oper} {a : Act} {w : World} {op : BinOp} {t t2 : TypeId} {x y : Operand} {u1 u2 u : Value}
    (ho : o.op = .binOp op t x y t2) (hx : a.eval x = u1) (hy : a.eval y = u2) (hg : Region.wanted o (yielded ops a.tmps) = true)
    (h1 : (eqGuard op t x y u1 u2).run Tryz.prog w = .ok () w) (h2 : (binOp op t u1 u2).run Tryz.prog w = .ok u w) (hK : wpList Tryz.prog ops Q rest (a.put o.dst u) w) : wpList Tryz.prog ops Q (o :: rest) a w := by
  rw [wpList, if_pos hg]
  subst hx hy
  refine .inl ?_
  have e : (execOp a.eval o).run Tryz.prog w = .ok (.value u) w := by
    simp only [execOp, ho, Sem.run_bind, h1, h2, Result.andThen, Sem.run_pure]
  unfold Oper.wp
  rw [e]
  exact hK

end Go.Proofs.YtdhoimjkgicneaaGreatDoor

/- A region that draws its order, walked with a condition that is held behind each of its operations: what yields its value in every world that meets it is taken first. -/
namespace Go.Proofs.YtdhoimjkgicneaaGreatDoor
open Go Go.RowKit

section
variable {P : Program} {ops : Array Oper} {Q : Exit → Act → World → Prop} {md : Region.Mode} {S : World → Prop} {fuel : Nat} {ls : Array Bool} {a : Act} {w : World}

theorem held_any {i : Nat} {o : Oper} {v : Value} (hi : ops[i]? = some o) (hs : Region.noSelect ops = true) (hf : Region.free md ops ls i = true) (hr : (Region.ready md ops ls).contains i = true)
    (hg : Region.wanted o (yielded ops a.tmps) = true) (hQ : ∀ c a w, Q (.panic c) (a.put o.dst v) w → Q (.panic c) a w) (hv : ∀ w, S w → (execOp a.eval o).run P w = .ok (.value v) w) (hS : S w)
    (h : wpAnyH P md ops Q S fuel (ls.setIfInBounds i true) (a.put o.dst v) w) : wpAnyH P md ops Q S (fuel + 1) ls a w :=
  wpAnyH_take hi hs hf hr hQ (Or.inl ⟨hg, hv⟩) hS h

theorem held_load {i : Nat} {o : Oper} {t : TypeId} {p : Operand} {x v : Value} (hi : ops[i]? = some o) (ho : o.op = .load t p) (hx : a.eval p = x) (hs : Region.noSelect ops = true) (hf : Region.free md ops ls i = true) (hr : (Region.ready md ops ls).contains i = true)
    (hg : Region.wanted o (yielded ops a.tmps) = true) (hQ : ∀ c a w, Q (.panic c) (a.put o.dst v) w → Q (.panic c) a w) (hv : ∀ w, S w → (Instr.loadAt t x).run P w = .ok v w) (hS : S w)
    (h : wpAnyH P md ops Q S fuel (ls.setIfInBounds i true) (a.put o.dst v) w) : wpAnyH P md ops Q S (fuel + 1) ls a w := by
  refine held_any hi hs hf hr hg hQ (fun w hw => ?_) hS h
  subst hx
  simp only [execOp, ho, Sem.run_bind, hv w hw, Result.andThen, Sem.run_pure]

theorem op_is {i : Nat} {o : Oper} {K : Act → World → Prop} (hi : ops[i]? = some o) (hg : Region.wanted o (yielded ops a.tmps) = true) (h : o.wp P a w K Q) : wpOp P ops Q i K a w := by
  unfold wpOp
  simp only [hi, hg, if_true]
  exact .inl h

theorem held_one {i : Nat} (hr : Region.ready md ops ls = [i]) (h : wpOp P ops Q i (fun a' w' => S w' ∧ wpAnyH P md ops Q S fuel (ls.setIfInBounds i true) a' w') a w) : wpAnyH P md ops Q S (fuel + 1) ls a w :=
  wpAnyH_all hr (by simp) (fun j hj => by
    have : j = i := by simpa using hj
    subst this; exact h)
theorem held_two {i j : Nat} (hr : Region.ready md ops ls = [i, j]) (h : wpOp P ops Q i (fun a' w' => S w' ∧ wpAnyH P md ops Q S fuel (ls.setIfInBounds i true) a' w') a w)
    (g : wpOp P ops Q j (fun a' w' => S w' ∧ wpAnyH P md ops Q S fuel (ls.setIfInBounds j true) a' w') a w) : wpAnyH P md ops Q S (fuel + 1) ls a w :=
  wpAnyH_all hr (by simp) (fun k hk => by
    have : k = i ∨ k = j := by simpa using hk
    rcases this with rfl | rfl
    · exact h
    · exact g)

theorem held_call {i : Nat} {o : Oper} {f : FuncId} {args : Array Value} {K : Act → World → Prop} (hi : ops[i]? = some o) (hg : Region.wanted o (yielded ops a.tmps) = true)
    (he : (execOp a.eval o).run P w = .ok (.enter f args) w) (h : Calls P f args w fun e w' => ∃ u, e = .returned u ∧ K (a.put o.dst u) w') : wpOp P ops Q i K a w := by
  refine op_is hi hg ?_
  unfold Oper.wp
  rw [he]
  simp only [Oper.upon]
  exact h.mono fun e w' ⟨u, hu, hk⟩ => by subst hu; exact hk
theorem held_value {i : Nat} {o : Oper} {u : Value} {w' : World} {K : Act → World → Prop} (hi : ops[i]? = some o) (hg : Region.wanted o (yielded ops a.tmps) = true)
    (he : (execOp a.eval o).run P w = .ok (.value u) w') (h : K (a.put o.dst u) w') : wpOp P ops Q i K a w := by
  refine op_is hi hg ?_
  unfold Oper.wp
  rw [he]
  exact h
theorem held_store {i : Nat} {o : Oper} {t : TypeId} {p y : Operand} {x u : Value} {w' : World} {K : Act → World → Prop} (hi : ops[i]? = some o) (ho : o.op = .store t p y) (hx : a.eval p = x) (hu : a.eval y = u) (hg : Region.wanted o (yielded ops a.tmps) = true)
    (he : (Instr.storeAt t x u).run P w = .ok () w') (h : K (a.put o.dst undef) w') : wpOp P ops Q i K a w := by
  refine op_is hi hg ?_
  subst hx hu
  have e : (execOp a.eval o).run P w = .ok .skip w' := by
    simp only [execOp, ho, Sem.run_bind, he, Result.andThen, Sem.run_pure]
  unfold Oper.wp
  rw [e]
  exact h
end

end Go.Proofs.YtdhoimjkgicneaaGreatDoor

/- A memory built out of its parts. -/
namespace Go.Proofs.YtdhoimjkgicneaaGreatDoor
open Go Go.RowKit

theorem zMemK : Tryz.zeroCells37 = mem0.row := by kernel_rfl
attribute [local go_sem] zMemK

theorem fold_set : ∀ (l : List Value) (off s : Nat) (c : Array Value) (k : Nat), ((l.zipIdx s).foldl (fun cs (c, j) => cs.setIfInBounds (off + j) c) c)[k]? = if off + s ≤ k ∧ k < off + s + l.length ∧ k < c.size then l[k - (off + s)]? else c[k]?
  | [], off, s, c, k => by simp; intro h1 h2; omega
  | x :: l, off, s, c, k => by
    rw [List.zipIdx_cons, List.foldl_cons, fold_set l off (s + 1)]
    simp only [Array.size_setIfInBounds, List.length_cons]
    by_cases h1 : k = off + s
    · subst h1
      rw [if_neg (by omega)]
      by_cases h2 : off + s < c.size
      · rw [if_pos ⟨Nat.le_refl _, by omega, h2⟩]
        simp [h2]
      · rw [if_neg (by omega)]
        simp [h2]
    · by_cases h2 : off + (s + 1) ≤ k ∧ k < off + (s + 1) + l.length ∧ k < c.size
      · rw [if_pos h2, if_pos ⟨by omega, by omega, h2.2.2⟩, show k - (off + s) = k - (off + (s + 1)) + 1 by omega]
        simp
      · rw [if_neg h2, if_neg (by omega), Array.getElem?_setIfInBounds_ne (by omega)]

theorem fill_row {place : Nat → Option (Nat × Nat)} {f : Nat → Value} {N i off n : Nat} {u : Value} {g : Nat → Value} {rest : List (Nat × Value)} (hp : place i = some (off, n)) (hu : u.cells = rowOf g n) (hN : off + n ≤ N) :
    Instr.fill place (rowOf f N) ((i, u) :: rest) = Instr.fill place (rowOf (fun j => if off ≤ j ∧ j < off + n then g (j - off) else f j) N) rest := by
  rw [Instr.fill, hp]
  simp only [hu, rowOf_size]
  rw [if_neg (by simp; omega)]
  congr 1
  apply Array.ext_getElem?
  intro k
  rw [← Array.foldl_toList, Array.toList_zipIdx, fold_set]
  simp only [rowOf_size, Array.length_toList, Nat.add_zero]
  by_cases hk : k < N
  · by_cases h1 : off ≤ k ∧ k < off + n
    · rw [if_pos ⟨h1.1, h1.2, hk⟩, rowOf_get _ hk, if_pos h1, Array.getElem?_toList, rowOf_get _ (by omega)]
    · rw [if_neg (by omega), rowOf_get _ hk, rowOf_get _ hk, if_neg h1]
  · rw [if_neg (by omega)]
    simp [rowOf, hk]

/-- Where the fields of a memory lie. -/
def memPlaces : Array (Nat × Nat) := #[(0, 1), (1, 1), (2, 1), (3, 1), (4, 1), (5, 32), (37, 48), (85, 32), (117, 16), (133, 1), (134, 1), (135, 1)]

theorem built_mem (l : List (Nat × Value)) : Tryz.prog.built 37 l = Instr.fill (memPlaces[·]?) mem0.row l := by kernel_rfl

theorem list_build {ops : Array Oper} {Q : Exit → Act → World → Prop} {rest : List Oper} {o : Oper} {a : Act} {w : World} {t : TypeId} {parts : Array (Nat × Operand)} {cells : Array Value} {l : List (Nat × Value)}
    (hg : o.guard = none) (ho : o.op = .build t parts) (hl : (parts.map fun (i, x) => (i, a.eval x)).toList = l) (hb : Tryz.prog.built t l = some cells) (hK : wpList Tryz.prog ops Q rest (a.put o.dst (.agg cells)) w) : wpList Tryz.prog ops Q (o :: rest) a w := by
  rw [← hl] at hb
  refine wpList_build hg t parts ho (by rw [hb]; rfl) ?_
  rw [hb]
  exact hK

end Go.Proofs.YtdhoimjkgicneaaGreatDoor
