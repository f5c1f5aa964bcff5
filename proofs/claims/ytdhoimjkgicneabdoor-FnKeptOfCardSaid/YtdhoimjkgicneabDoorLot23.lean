/- Texts of this proof laid together: KepF, DevA. -/
import Derived.Test.YtdhoimjkgicneabDoorLot22
import Derived.Laws.IdiomCopy
import Derived.Test.YtdhoimjkgicneabDoorLot11
import Derived.Test.YtdhoimjkgicneabDoorRows
import Derived.WalkKit
import Derived.WalkSpells
import Derived.WalkLawsBesides
/- What is kept of a memory, as the program says it. -/
namespace Go.Proofs.YtdhoimjkgicneabDoor
open Go Go.RowKit

attribute [local go_sem] zMemK

/-- All but the registers. -/
def noneV (v : MemV) : MemV := ⟨0, 0, v.m / 4294967296 * 4294967296, v.s, 0, v.tD, v.tC, v.cD, v.cL, v.cC, fun _ => 0, fun _ => 0, 0, false, false⟩

theorem none_built (v : MemV) {u1 u2 : Value} (h1 : u1 = .int .u16 v.s) (h2 : u2 = .int .u64 ((v.m / 4294967296 * 4294967296 : Nat) : Int)) :
    Tryd.prog.built 37 [(2, u2), (3, u1), (5, .agg (rowOf (fTimer v.tD v.tC) 32)), (6, .agg (rowOf (fCounter v.cD v.cL v.cC) 48))] = some (noneV v).row := by
  subst h1 h2
  rw [built_mem, ← rowOf_mem, ← rowOf_mem, fill_row (off := 2) (n := 1) (g := fun _ => .int .u64 ((v.m / 4294967296 * 4294967296 : Nat) : Int)) (by decide) rfl (by omega), fill_row (off := 3) (n := 1) (g := fun _ => .int .u16 v.s) (by decide) rfl (by omega),
    fill_row (off := 5) (n := 32) (g := fTimer v.tD v.tC) (by decide) rfl (by omega), fill_row (off := 37) (n := 48) (g := fCounter v.cD v.cL v.cC) (by decide) rfl (by omega), Instr.fill]
  congr 1

theorem none_put {v : MemV} {b : Nat} {w : World} (h : MemAt b (noneV v) w) : MemAt b (keptV v) (w.setCells b 101 (rowOf (fun j => .int .i16 (v.d (16 + j))) 16).toList) := by
  refine h.putRow (o := 101) (n := 16) (f' := fun j => .int .i16 (v.d (16 + j))) (by omega) (fun k hk => ?_) (fun i hi ho => ?_)
  · have := (keptV v).cell_d (16 + k) (by omega)
    rw [show 101 + k = 85 + (16 + k) by omega, this, kept_d, if_neg (by omega)]
  · refine cell_same _ _ hi (fun _ => rfl) (fun _ => rfl) (fun _ => rfl) (fun _ => rfl) (fun _ => rfl) (fun _ _ => ⟨rfl, rfl⟩) (fun _ _ => ⟨rfl, rfl, rfl⟩) (fun h1 h2 => ?_) (fun _ _ => rfl) (fun _ => rfl) (fun _ => rfl) (fun _ => rfl)
    rw [kept_d, if_pos (by omega)]
    rfl

theorem list_copy {v s u : Value} {w w' : World} {ops : Array Oper} {rest : List Oper} {o : Oper} {a : Act} {Q : Exit → Act → World → Prop} {t1 t2 : TypeId} (hgd : o.guard = none) (p x : Operand)
    (ho : o.op = .call { callee := .builtin .copy, args := #[p, x], argTypes := #[t1, t2] }) (hp : a.eval p = v) (hx : a.eval x = s)
    (hr : (Builtin.copy_ #[t1, t2] o.type #[v, s]).run Tryd.prog w = .ok u w') (hK : wpList Tryd.prog ops Q rest (a.put o.dst u) w') : wpList Tryd.prog ops Q (o :: rest) a w := by
  refine wpList_plain hgd fun K hK' => ?_
  unfold Oper.wp execOp
  simp only [ho, resolve, invoke, builtin, Sem.run_bind, Sem.run_pure, Result.andThen_ok, List.map_toArray, List.map_cons, List.map_nil, hp, hx, hr]
  exact hK' _ _ hK

theorem iI16 : (Tryd.prog.info? 32).map (·.size) = some 1 := by kernel_rfl

set_option maxRecDepth 100000 in
set_option maxHeartbeats 800000 in
theorem impl_kept (v : MemV) (w : World) (hv : v.Ok) :
    Calls Tryd.prog 10 #[.agg v.row] w fun e w' => e = .returned (.agg (keptV v).row) ∧ Below w.heap.size w w' := by
  obtain ⟨A1, O1, HB⟩ := boxes0 v w
  have HC : Hid (MemAt w.heap.size v _ ∧ MemAt (w.heap.size + 1) mem0 _ ∧ MemAt (w.heap.size + 1 + 1) (noneV v) _ ∧ Below w.heap.size w _) := HB (noneV v)
  clear HB
  have L0 := load_row aTimer sTimer A1.timers
  have L1 := load_row aCounter sCounter A1.counters
  have L2 := store_mem (noneV v) O1
  have c3 := A1.c 3 (by omega)
  rw [MemV.cell_s] at c3
  have c2 := A1.c 2 (by omega)
  rw [MemV.cell_m] at c2
  clear A1 O1
  obtain ⟨q, hq, q1⟩ : ∃ q : Nat, q = v.m / 4294967296 ∧ (v.m : Int) / 4294967296 = (q : Int) := ⟨_, rfl, by omega⟩
  have q2 : (q : Int) * 4294967296 % 18446744073709551616 = (q : Int) * 4294967296 := by have := hv.m; omega
  have q3 : IntKind.u64.wrap ((q : Int) * 4294967296) = (q : Int) * 4294967296 := by show (q : Int) * 4294967296 % 18446744073709551616 = _; exact q2
  have F := none_built v (u1 := .int .u16 v.s) (u2 := .int .u64 ((q : Int) * 4294967296)) rfl (by rw [hq]; simp)
  clear hq
  go_enter Tryd.func10, Tryd.ntmps10
  go_upto_region 2 with (first | refine list_load (t := 28) (x := .pointer (some ⟨w.heap.size, 5, none⟩)) (u := .agg (rowOf (fTimer v.tD v.tC) 32)) rfl rfl rfl L0 ?_ | refine list_load (t := 31) (x := .pointer (some ⟨w.heap.size, 37, none⟩)) (u := .agg (rowOf (fCounter v.cD v.cL v.cC) 48)) rfl rfl rfl L1 ?_ | refine list_build (t := 37) (cells := (noneV v).row) (l := [(2, .int .u64 ((q : Int) * 4294967296)), (3, .int .u16 v.s), (5, .agg (rowOf (fTimer v.tD v.tC) 32)), (6, .agg (rowOf (fCounter v.cD v.cL v.cC) 48))]) rfl rfl (by simp [Act.put, Act.eval]) F ?_ | refine list_store (t := 37) (x := .pointer (some ⟨w.heap.size + 1 + 1, 0, none⟩)) (u := .agg (noneV v).row) rfl rfl rfl rfl L2 ?_)
  clear L0 L1 L2 c2 c3 q1 q2 q3 F
  generalize (((w.alloc (.cells v.row 37)).alloc (.cells mem0.row 37)).alloc (.cells mem0.row 37)).setCells (w.heap.size + 1 + 1) 0 (noneV v).row.toList = w1 at HC ⊢
  simp only [Act.put]
  have CP : ∀ ty, (Builtin.copy_ #[66, 66] ty #[.slice (some ⟨w.heap.size + 1 + 1, 101, none⟩) 16 16, .slice (some ⟨w.heap.size, 101, none⟩) 16 16]).run Tryd.prog w1.drew = .ok (goInt (16 : Nat)) (w1.drew.setCells (w.heap.size + 1 + 1) 101 (rowOf (fun j => .int .i16 (v.d (16 + j))) 16).toList) := by
    intro ty
    have hl : (rowOf (fun j => Value.int .i16 (v.d (16 + j))) 16).toList.length = 16 := by simp [rowOf]
    have := run_copy_cells (P := Tryd.prog) w1.drew 66 66 ty 32 (w.heap.size + 1 + 1) 101 16 16 ⟨w.heap.size, 101, none⟩ 16 16 (rowOf (fun j => .int .i16 (v.d (16 + j))) 16).toList Tryd.underlying66 iI16 hl ?_ ?_ ?_ ?_
    · rw [hl] at this
      exact this
    · intro j u hj
      have hj16 : j < 16 := by have := (List.getElem?_eq_some_iff.1 hj).1; omega
      rw [Array.getElem?_toList, rowOf_get _ hj16] at hj
      rw [addr_add, show 101 + j = 85 + (16 + j) by omega, ← hj]
      have := HC.out.1.c (85 + (16 + j)) (by omega)
      rw [v.cell_d _ (by omega)] at this
      exact this
    · intro j hj
      rw [show w1.drew.cell? ⟨w.heap.size + 1 + 1, 101 + j, none⟩ = w1.cell? ⟨w.heap.size + 1 + 1, 101 + j, none⟩ from rfl, HC.out.2.2.1.c _ (by omega)]
      rfl
    · intro j hj
      exact HC.out.2.2.1.f _ (by omega)
    · intro u hu
      rw [Array.mem_toList_iff] at hu
      obtain ⟨i, hi, rfl⟩ := Array.mem_iff_getElem.1 hu
      simp [rowOf]
      rfl
  have HD : Hid (MemAt w.heap.size v w1.drew ∧ MemAt (w.heap.size + 1) mem0 w1.drew ∧ MemAt (w.heap.size + 1 + 1) (noneV v) w1.drew ∧ Below w.heap.size w w1.drew) := ⟨HC.out.1.below ((Below.refl w1.heap.size w1).drew) HC.out.1.z, HC.out.2.1.below ((Below.refl w1.heap.size w1).drew) HC.out.2.1.z, HC.out.2.2.1.below ((Below.refl w1.heap.size w1).drew) HC.out.2.2.1.z, HC.out.2.2.2.drew⟩
  have O2 := none_put HD.out.2.2.1
  have R2 := HD.out.2.1.other (c := w.heap.size + 1 + 1) (o := 101) (vs := (rowOf (fun j => Value.int .i16 (v.d (16 + j))) 16).toList) (by omega)
  have B2 := setCells_below (rowOf (fun j => Value.int .i16 (v.d (16 + j))) 16).toList (w.heap.size + 1 + 1) 101 HD.out.2.2.2 (by omega)
  have L9 := load_mem O2
  have L10 := store_mem (keptV v) R2
  have HR : Hid (MemAt (w.heap.size + 1) (keptV v) _ ∧ Below w.heap.size w _) := ⟨R2.stored (keptV v), setCells_below (keptV v).row.toList (w.heap.size + 1) 0 B2 (by omega)⟩
  clear HC HD O2 R2 B2
  refine wp_region_still_tail 4 (by kernel_rfl) (by kernel_rfl) ?_
  simp only [List.take_succ_cons, List.take_zero, List.drop_succ_cons, List.drop_zero]
  repeat still_step
  refine wpStill_nil ?_
  change wpList _ _ _ _ _ (World.drew _)
  refine list_copy rfl (.tmp 16) (.tmp 18) rfl rfl rfl (CP _) ?_
  clear CP
  simp only [Act.put]
  generalize w1.drew.setCells (w.heap.size + 1 + 1) 101 (rowOf (fun j => Value.int .i16 (v.d (16 + j))) 16).toList = w2 at L9 L10 HR ⊢
  go_wp2_with (first | (refine list_load (t := 37) (x := .pointer (some ⟨w.heap.size + 1 + 1, 0, none⟩)) (u := .agg (keptV v).row) rfl rfl rfl L9 ?_) | refine list_store (t := 37) (x := .pointer (some ⟨w.heap.size + 1, 0, none⟩)) (u := .agg (keptV v).row) rfl rfl rfl rfl L10 ?_)
  exact ret_mem (c := 2) rfl rfl rfl HR.out.1 ⟨rfl, HR.out.2⟩

end Go.Proofs.YtdhoimjkgicneabDoor

/- What the small functions on operands of the specification do. -/
namespace Go.Proofs.YtdhoimjkgicneabDoor
open Go Go.RowKit

set_option maxHeartbeats 1000000 in
theorem spec_size (k : Int) (w : World) :
    Calls Tryd.prog 65 #[.int .i64 k] w fun e w' => e = .returned (.int .i64 (sizeZ k)) ∧ w' = w := by
  rcases kcases k with rfl | rfl | rfl | rfl | rfl | rfl | rfl | rfl | rfl | rfl | rfl | rfl | rfl | h | h
  all_goals
    go_enter Tryd.func65, Tryd.ntmps65
    go_wp2
    go_ret
    first | exact ⟨rfl, rfl⟩ | (rw [sizeZ_out (by omega)]; exact ⟨rfl, rfl⟩)

end Go.Proofs.YtdhoimjkgicneabDoor
