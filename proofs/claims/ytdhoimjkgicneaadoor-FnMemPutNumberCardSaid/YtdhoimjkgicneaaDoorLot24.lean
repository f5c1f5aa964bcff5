/- Texts of this proof laid together: DrC, RegK. -/
import Derived.Test.YtdhoimjkgicneaaDoorLot23
import Derived.Deep.RegionWith
import Derived.OrdersHeld
import Derived.Tactics
import Derived.Test.YtdhoimjkgicneaaDoorRows
import Derived.WalkKit
/- Drawn operands, some beyond how many there are. -/
namespace Go.Proofs.YtdhoimjkgicneaaDoor
open Go Go.RowKit

theorem Moved.drew2 {R : Nat} {w w' : World} (h : Moved R w.drew w') : Moved R w w' := ⟨h.os, h.tape, h.output, h.size, h.block⟩

set_option maxHeartbeats 4000000 in
theorem asks_any (R c : Nat) (w : World) (h : Rd R c w) (hc : c ≤ 700) :
    Calls Tryd.prog 89 #[.pointer (some ⟨R, 0, none⟩)] w fun e w' => ∃ k n p : Int, e = .returned (.agg #[.int .i64 k, .int .i64 n, .int .i64 p]) ∧ Rd R (c + 12) w' ∧ Moved R w w' := by
  have hR := h.size
  go_enter Tryd.func89, Tryd.ntmps89
  go_wp2_with fail
  refine (any_any R c _ (h.alloc _) (by omega)).mono ?_
  rintro e w1 ⟨k, n, p, rfl, rd1, mv1⟩
  have hR1 := rd1.size
  clear h
  go_wp2_with fail
  refine (pick_any R (c + 10) 8 _ (rd1.alloc _) (by omega) (by omega)).mono ?_
  rintro e w2 ⟨y, rfl, y0, -, -, rd2, mv2⟩
  obtain ⟨e0, e1, e2, g0, g1, g2, hz2, mv2'⟩ := boxM mv2 hR1
  obtain ⟨q0, q1, q2, f0, f1, f2, hz, mv3⟩ := boxM (mv1.trans mv2') hR
  have hs1 : w.heap.size < w1.heap.size := by have := mv1.size; simp at this; omega
  have MV : Hid (Moved R w w2) := mv3
  have RD : Hid (Rd R (c + 10 + 1) w2) := rd2
  have M2 : Hid (Moved R (w.alloc (.cells #[.int .i64 0, .int .i64 0, .int .i64 0] 24)) w2) := mv1.trans mv2'
  clear mv1 mv2 mv2' mv3 rd1 rd2
  cases hy : y == 0 with
  | true =>
    have hn1 : w1.heap.size ≠ R := by omega
    have rdn : Rd R (c + 10 + 1) w2.drew := RD.out.drew
    go_wp2_with fail
    go_region_with (go_at_call 115; refine (num_lit R (c + 10 + 1) _ _ _ (by simp) rdn (by omega) (by simp) (by simp) (by simp) 5 rfl).mono ?_; rintro e w3 ⟨z, rfl, rd3, mv3⟩; have e1' : w3.cell? ⟨w1.heap.size, 1, none⟩ = some (.int .i64 n) := (mv3.cell (p := ⟨w1.heap.size, 1, none⟩) hz2 hn1).trans e1; have g1' : w3.frozen? ⟨w1.heap.size, 1, none⟩ = false := (mv3.frozen (p := ⟨w1.heap.size, 1, none⟩) hz2 hn1).trans g1)
    all_goals
      have hn0 : w.heap.size ≠ R := by omega
      have c0 : w3.cell? ⟨w1.heap.size, 0, none⟩ = some (.int .i64 k) := (mv3.cell (p := ⟨w1.heap.size, 0, none⟩) hz2 hn1).trans e0
      have c2 : w3.cell? ⟨w1.heap.size, 2, none⟩ = some (.int .i64 p) := (mv3.cell (p := ⟨w1.heap.size, 2, none⟩) hz2 hn1).trans e2
      have d0 := (mv3.cell (p := ⟨w.heap.size, 0, none⟩) hz hn0).trans q0
      have d1 := (mv3.cell (p := ⟨w.heap.size, 1, none⟩) hz hn0).trans q1
      have d2 := (mv3.cell (p := ⟨w.heap.size, 2, none⟩) hz hn0).trans q2
      have h0 := (mv3.frozen (p := ⟨w.heap.size, 0, none⟩) hz hn0).trans f0
      have h1 := (mv3.frozen (p := ⟨w.heap.size, 1, none⟩) hz hn0).trans f1
      have h2 := (mv3.frozen (p := ⟨w.heap.size, 2, none⟩) hz hn0).trans f2
      have MV3 : Hid (Moved R w w3) := MV.out.trans mv3.drew2
      have RD3 : Hid (Rd R (c + 10 + 1 + 1) w3) := rd3
      clear mv3 rd3 rdn e0 e1 e2 g0 g1 g2 q0 q1 q2 f0 f1 f2
      go_wp2
      exact bodyPost_ret (v := .agg #[.int .i64 k, .int .i64 (wrap64 (n + z)), .int .i64 p]) (by simp [results, Tryd.results89, go_sem, d0, d1, d2]) rfl ⟨k, _, p, rfl, set3 (RD3.out.setCell (by show R < w1.heap.size; omega) _) (MV3.out.setCell (by show w.heap.size ≤ w1.heap.size; omega) _) hR (by omega) _ (Nat.le_refl _) _ _ _⟩
  | false =>
    go_wp2
    exact bodyPost_ret (v := .agg #[.int .i64 k, .int .i64 n, .int .i64 p]) (by simp [results, Tryd.results89, go_sem, q0, q1, q2]) rfl ⟨k, n, p, rfl, set3 RD.out MV.out hR (by omega) _ (Nat.le_refl _) _ _ _⟩

end Go.Proofs.YtdhoimjkgicneaaDoor

/- A region that draws its order, walked with a condition that is held behind each of its operations: what yields its value in every world that meets it is taken first. -/
namespace Go.Proofs.YtdhoimjkgicneaaDoor
open Go Go.RowKit

section
variable {P : Program} {ops : Array Oper} {Q : Exit → Act → World → Prop} {md : Region.Mode} {S : World → Prop} {fuel : Nat} {ls : Array Bool} {a : Act} {w : World}

theorem held_any {i : Nat} {o : Oper} {v : Value} (hi : ops[i]? = some o) (hs : Region.noSelect ops = true) (hf : Region.free md ops ls i = true) (hr : (Region.ready md ops ls).contains i = true)
    (hg : Region.wanted o (yielded ops a.tmps) = true) (hQ : ∀ c a w, Q (.panic c) (a.put o.dst v) w → Q (.panic c) a w) (hv : ∀ w, S w → (execOp a.eval o).run P w = .ok (.value v) w) (hS : S w)
    (h : wpAnyH P md ops Q S fuel (ls.setIfInBounds i true) (a.put o.dst v) w) : wpAnyH P md ops Q S (fuel + 1) ls a w :=
  wpAnyH_take hi hs hf hr hQ (Or.inl ⟨hg, hv⟩) hS h

theorem held_load {i : Nat} {o : Oper} {t : TypeId} {p : Operand} {x v : Value} (hi : ops[i]? = some o) (ho : o.op = .load t p) (hx : a.eval p = x) (hs : Region.noSelect ops = true) (hf : Region.free md ops ls i = true) (hr : (Region.ready md ops ls).contains i = true)
    (hg : Region.wanted o (yielded ops a.tmps) = true) (hQ : ∀ c a w, Q (.panic c) (a.put o.dst v) w → Q (.panic c) a w) (hv : ∀ w, S w → (Instr.loadAt t x).run P w = .ok v w) (hS : S w)
    (h : wpAnyH P md ops Q S fuel (ls.setIfInBounds i true) (a.put o.dst v) w) : wpAnyH P md ops Q S (fuel + 1) ls a w := by
  refine held_any hi hs hf hr hg hQ (fun w hw => ?_) hS h
  subst hx
  simp only [execOp, ho, Sem.run_bind, hv w hw, Result.andThen, Sem.run_pure]

theorem op_is {i : Nat} {o : Oper} {K : Act → World → Prop} (hi : ops[i]? = some o) (hg : Region.wanted o (yielded ops a.tmps) = true) (h : o.wp P a w K Q) : wpOp P ops Q i K a w := by
  unfold wpOp
  simp only [hi, hg, if_true]
  exact .inl h

theorem held_one {i : Nat} (hr : Region.ready md ops ls = [i]) (h : wpOp P ops Q i (fun a' w' => S w' ∧ wpAnyH P md ops Q S fuel (ls.setIfInBounds i true) a' w') a w) : wpAnyH P md ops Q S (fuel + 1) ls a w :=
  wpAnyH_all hr (by simp) (fun j hj => by
    have : j = i := by simpa using hj
    subst this; exact h)
theorem held_two {i j : Nat} (hr : Region.ready md ops ls = [i, j]) (h : wpOp P ops Q i (fun a' w' => S w' ∧ wpAnyH P md ops Q S fuel (ls.setIfInBounds i true) a' w') a w)
    (g : wpOp P ops Q j (fun a' w' => S w' ∧ wpAnyH P md ops Q S fuel (ls.setIfInBounds j true) a' w') a w) : wpAnyH P md ops Q S (fuel + 1) ls a w :=
  wpAnyH_all hr (by simp) (fun k hk => by
    have : k = i ∨ k = j := by simpa using hk
    rcases this with rfl | rfl
    · exact h
    · exact g)

theorem held_call {i : Nat} {o : Oper} {f : FuncId} {args : Array Value} {K : Act → World → Prop} (hi : ops[i]? = some o) (hg : Region.wanted o (yielded ops a.tmps) = true)
    (he : (execOp a.eval o).run P w = .ok (.enter f args) w) (h : Calls P f args w fun e w' => ∃ u, e = .returned u ∧ K (a.put o.dst u) w') : wpOp P ops Q i K a w := by
  refine op_is hi hg ?_
  unfold Oper.wp
  rw [he]
  simp only [Oper.upon]
  exact h.mono fun e w' ⟨u, hu, hk⟩ => by subst hu; exact hk
theorem held_value {i : Nat} {o : Oper} {u : Value} {w' : World} {K : Act → World → Prop} (hi : ops[i]? = some o) (hg : Region.wanted o (yielded ops a.tmps) = true)
    (he : (execOp a.eval o).run P w = .ok (.value u) w') (h : K (a.put o.dst u) w') : wpOp P ops Q i K a w := by
  refine op_is hi hg ?_
  unfold Oper.wp
  rw [he]
  exact h
theorem held_store {i : Nat} {o : Oper} {t : TypeId} {p y : Operand} {x u : Value} {w' : World} {K : Act → World → Prop} (hi : ops[i]? = some o) (ho : o.op = .store t p y) (hx : a.eval p = x) (hu : a.eval y = u) (hg : Region.wanted o (yielded ops a.tmps) = true)
    (he : (Instr.storeAt t x u).run P w = .ok () w') (h : K (a.put o.dst undef) w') : wpOp P ops Q i K a w := by
  refine op_is hi hg ?_
  subst hx hu
  have e : (execOp a.eval o).run P w = .ok .skip w' := by
    simp only [execOp, ho, Sem.run_bind, he, Result.andThen, Sem.run_pure]
  unfold Oper.wp
  rw [e]
  exact h
end

end Go.Proofs.YtdhoimjkgicneaaDoor
