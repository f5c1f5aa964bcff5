/- Texts of this proof laid together: RegB, Close, CodeOf. -/
import Derived.Test.YtdhoimjkgicneaaDoorLot1
import Derived.Deep.QuietTactic
import Derived.BigQuiet
import Derived.ProofKit
import Derived.OpenVars
import Derived.OpenShut
import Derived.Test.YtdhoimjkgicneaaDoorLot3
/- Laws of walks: a region that draws its order and leaves what was there, operation by operation; an operator on two values, given what it gives. -/
namespace Go.Proofs.YtdhoimjkgicneaaDoor
open Go Go.RowKit

/-- A region that draws its order, whose operations and callees leave what was there. -/
theorem wp_region_belowM {P : Program} {id : Nat} {Q : Exit → Act → World → Prop} {a : Act} {w : World} {l : List Oper} (hm : P.follows .mixedOrders = true) (hB : Region.lexB .any l.toArray = true)
    (h : wpQuiet P l.toArray (Below w.heap.size w) (fun a' => ∀ w', Below w.heap.size w w' → Q .normal a' w') l a) : (Code.region id l.toArray true).wp P Q a w :=
  wp_region_quiet (C := Below w.heap.size w) hm hB (Below.refl w.heap.size w).drew (by simpa using h)

section
variable {ops : Array Oper} {C : World → Prop} {Q : Act → Prop} {rest : List Oper} {o : Oper} {a : Act}
theorem quiet_any {v : Value} (hg : Region.wanted o (yielded ops a.tmps) = true) (h : ∀ w, C w → (execOp a.eval o).run Tryd.prog w = .ok (.value v) w) (hK : wpQuiet Tryd.prog ops C Q rest (a.put o.dst v)) : wpQuiet Tryd.prog ops C Q (o :: rest) a := by
  rw [wpQuiet, if_pos hg]
  refine ⟨v, fun w hw => ?_, hK⟩
  unfold Oper.quietAt
  rw [h w hw]
  first | exact ⟨rfl, rfl⟩ | exact ⟨rfl, hw⟩ | simp [Oper.quietUpon, hw]
theorem quiet_load {t : TypeId} {p : Operand} {x v : Value} (ho : o.op = .load t p) (hx : a.eval p = x) (hg : Region.wanted o (yielded ops a.tmps) = true) (h : ∀ w, C w → (Instr.loadAt t x).run Tryd.prog w = .ok v w)
    (hK : wpQuiet Tryd.prog ops C Q rest (a.put o.dst v)) : wpQuiet Tryd.prog ops C Q (o :: rest) a := by
  refine quiet_any hg (fun w hw => ?_) hK
  subst hx
  simp only [execOp, ho, Sem.run_bind, h w hw, Result.andThen, Sem.run_pure]
theorem quiet_bin {op : BinOp} {t t2 : TypeId} {x y : Operand} {u1 u2 v : Value} (ho : o.op = .binOp op t x y t2) (hx : a.eval x = u1) (hy : a.eval y = u2) (hg : Region.wanted o (yielded ops a.tmps) = true)
    (h1 : ∀ w, (eqGuard op t x y u1 u2).run Tryd.prog w = .ok () w) (h2 : ∀ w, (binOp op t u1 u2).run Tryd.prog w = .ok v w) (hK : wpQuiet Tryd.prog ops C Q rest (a.put o.dst v)) : wpQuiet Tryd.prog ops C Q (o :: rest) a := by
  refine quiet_any hg (fun w _ => ?_) hK
  subst hx hy
  simp only [execOp, ho, Sem.run_bind, h1 w, h2 w, Result.andThen, Sem.run_pure]
end

theorem list_bin {ops : Array Oper} {Q : Exit → Act → World → Prop} {rest : List Oper} {o : Oper} {a : Act} {w : World} {op : BinOp} {t t2 : TypeId} {x y : Operand} {u1 u2 u : Value}
    (ho : o.op = .binOp op t x y t2) (hx : a.eval x = u1) (hy : a.eval y = u2) (hg : Region.wanted o (yielded ops a.tmps) = true)
    (h1 : (eqGuard op t x y u1 u2).run Tryd.prog w = .ok () w) (h2 : (binOp op t u1 u2).run Tryd.prog w = .ok u w) (hK : wpList Tryd.prog ops Q rest (a.put o.dst u) w) : wpList Tryd.prog ops Q (o :: rest) a w := by
  rw [wpList, if_pos hg]
  subst hx hy
  refine .inl ?_
  have e : (execOp a.eval o).run Tryd.prog w = .ok (.value u) w := by
    simp only [execOp, ho, Sem.run_bind, h1, h2, Result.andThen, Sem.run_pure]
  unfold Oper.wp
  rw [e]
  exact hK

end Go.Proofs.YtdhoimjkgicneaaDoor

/- How a law that answers true, and writes into nothing that was there, is closed: its arguments and the named variables read as they did. Of no one program. -/
namespace Go.Proofs.YtdhoimjkgicneaaDoor
open Go Go.ChangeShapes Go.WideShapes Go.ChangeAt Go.RowKit

theorem below_trodAll {H : Type} {enc : TypeId × Value → H} {P : Program} (hl : laidOutB P = true) {W W' : World} (hb : Below W.heap.size W W') :
    ∀ {ts : List TypeId} {vs : List Value} {ds : List (DataW H)} {ps : List MemPlace}, (ts.all fun t => P.readableRec t && decide (t < P.types.size)) = true → (∀ x ∈ ps, x.block < W.heap.size) →
      DataW.TrodAll enc P W 0 (fun _ => true) true ts vs ds ps → DataW.TrodAll enc P W' 0 (fun b => decide (b < W.heap.size)) true ts vs ds ps := by
  intro ts
  induction ts with
  | nil =>
    intro vs ds ps _ _ h
    obtain ⟨rfl, rfl, rfl⟩ := trodAll_nil h
    exact trodAll_mk0
  | cons t ts ih =>
    intro vs ds ps hrow hlt h
    obtain ⟨v0, vs0, d0, ds0, p0, q0, rfl, rfl, rfl, h0, r0⟩ := trodAll_cons h
    simp only [List.all_cons, Bool.and_eq_true, decide_eq_true_eq] at hrow
    exact trodAll_cons_mk (Below.trod hl hrow.1.1 hrow.1.2 h0 hb (fun x hx => hlt x (by simp [hx]))) (ih (by simpa using hrow.2) (fun x hx => hlt x (by simp [hx])) r0)

theorem close_true {H : Type} {enc : TypeId × Value → H} {P : Program} {f : Func} {s : ChangeSpec} {W W' : World} {args : Array Value} {ds gs : List (DataW H)} {before : List MemPlace} {tb : TypeId}
    (hl : laidOutB P = true) (hrow : (f.params.toList.all fun t => P.readableRec t && decide (t < P.types.size)) = true) (hv : varsRowed P s.vars = true)
    (hres : f.resultTypes = #[tb]) (hbool : P.underlying tb = some .bool)
    (hW : DataW.Whole enc P f.params.toList s.vars false W args.toList ds gs before)
    (hfn : s.fn H (ds ++ gs) = { results := [.lit (.bool true)], args := ds, vars := gs })
    (hb : Below W.heap.size W W') : s.post enc P f false true false false W args (.bool true) W' := by
  have hlt := hW.lt
  have hW' := hW
  obtain ⟨p, q, hA, hV, rfl, hfz, hnd⟩ := hW
  refine ⟨ds, gs, p ++ q, [], p, q, hW', ?_, ?_, ?_, hb.frame _, fun h => by cases h⟩
  · rw [hfn, hres]
    exact trodAll_cons_mk (shut_bool hbool _) trodAll_mk0
  · rw [hfn]
    exact below_trodAll hl hb hrow (fun x hx => hlt x (by simp [hx])) hA
  · rw [hfn]
    exact Below.trodVars hl hb hv hV

end Go.Proofs.YtdhoimjkgicneaaDoor

/- An argument that is a slice of bytes is one that the draws take. -/
namespace Go.Proofs.YtdhoimjkgicneaaDoor
open Go Go.ChangeShapes Go.WideShapes Go.ChangeAt Go.RowKit

theorem own : ownKnob Tryd.prog.godebug = none := by kernel_rfl
theorem laidOut : laidOutB Tryd.prog = true := by kernel_rfl
theorem cByte : Tryd.prog.cellsOf 5 = 1 := by kernel_rfl

/-- A slice of bytes that can be read is one that the draws take. -/
theorem code_of {H : Type} {enc : TypeId × Value → H} {W : World} {a : Option Addr} {len cap : Nat} {d : DataW H} {ps : List MemPlace}
    (h : DataW.Trod enc Tryd.prog W 0 (fun _ => true) true 22 (.slice a len cap) d ps) : CodeAt (.slice a len cap) W ∧ len ≤ 9223372036854775807 := by
  obtain ⟨fuel, hf⟩ := h
  rcases open_ints Tryd.underlying22 Tryd.underlying5 cByte hf with ⟨hcs, -⟩ | ⟨b, len', cap', zs, hcs, -, hl, hm, hz, -, hcell, hwz⟩
  · simp [Value.cells] at hcs
    obtain ⟨rfl, rfl, rfl⟩ := hcs
    exact ⟨Or.inr ⟨none, 0, rfl⟩, by omega⟩
  · simp [Value.cells] at hcs
    obtain ⟨rfl, rfl, rfl⟩ := hcs
    have hm' : cap ≤ 9223372036854775807 := hm
    have hzl : zs.length = cap := by simpa using hz
    refine ⟨?_, by omega⟩
    by_cases h0 : len = 0
    · subst h0; exact Or.inr ⟨some b, cap, rfl⟩
    · obtain ⟨bb, off, rfl, hc⟩ := ints_at hcell (by omega)
      refine Or.inl ⟨bb, off, len, cap, rfl, ?_, by omega, hl, hm', fun i hi => ?_⟩
      · have h1 := hc 0 (by omega)
        unfold World.cell? at h1
        cases hh : W.heap[bb]? with
        | none => simp [hh] at h1
        | some o => exact (Array.getElem?_eq_some_iff.1 hh).1
      · have hi' : i < zs.length := by omega
        have hw := hwz (zs.getD i 0) (by simp [List.getD, hi'])
        have hb := bounds_u8 hw
        refine ⟨(zs.getD i 0).toNat, by omega, ?_⟩
        rw [hc i hi']
        congr 2
        omega

end Go.Proofs.YtdhoimjkgicneaaDoor
