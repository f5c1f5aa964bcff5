/- Bytes as an array; two such arrays compared. -/
import Derived.Test.YtdhoimjkgicneacKepF
import Derived.Test.YtdhoimjkgicneacKepG
import Derived.Test.YtdhoimjkgicneacMsA0
namespace Go.Proofs.Ytdhoimjkgicneac
open Go Go.RowKit

theorem eql_arr (f g : Nat → Int) (w : World) : ∃ b : Bool, (Op.equalIn 10000 129 (.agg (rowOf (fun i => .int .u8 (f i)) 134)) (.agg (rowOf (fun i => .int .u8 (g i)) 134))).run Try.prog w = .ok b w ∧ (b = true ↔ ∀ i, i < 134 → f i = g i) := by
  have e := run_equalIn_array (P := Try.prog) w 9999 (t := 129) (e := 5) (n := 134) (rowOf (fun i => .int .u8 (f i)) 134) (rowOf (fun i => .int .u8 (g i)) 134) Try.underlying129 (i := (Try.prog.info? 5).getD default) (by kernel_rfl)
  have hc : Try.prog.cellsOf 5 = 1 := by kernel_rfl
  rw [hc] at e
  obtain ⟨b, h1, h2⟩ := eqItems_iff (P := Try.prog) w 9999 5 1 (rowOf (fun i => .int .u8 (f i)) 134) (rowOf (fun i => .int .u8 (g i)) 134) (fun i => f i = g i) (List.range 134) (fun i hi => by
    have hi : i < 134 := by simpa using hi
    have c1 : (rowOf (fun i => (.int .u8 (f i) : Value)) 134)[i * 1]? = some (.int .u8 (f i)) := by rw [Nat.mul_one, rowOf_get _ hi]
    have c2 : (rowOf (fun i => (.int .u8 (g i) : Value)) 134)[i * 1]? = some (.int .u8 (g i)) := by rw [Nat.mul_one, rowOf_get _ hi]
    obtain ⟨x, y, b, g1, g2, g3, g4⟩ := eq_int (P := Try.prog) w (d := 9998) (t := 5) (by kernel_rfl) Try.underlying5 c1 c2
    refine ⟨x, y, b, g1, g2, g3, ?_⟩
    rw [g4, c1, c2]
    simp)
  exact ⟨b, e.trans h1, by rw [h2]; simp⟩

theorem eql_arr_all (f g : Nat → Int) (w0 : World) : ∃ b : Bool, (∀ w, (binOp .neq 129 (.agg (rowOf (fun i => .int .u8 (f i)) 134)) (.agg (rowOf (fun i => .int .u8 (g i)) 134))).run Try.prog w = .ok (.bool (!b)) w) ∧ (b = true ↔ ∀ i, i < 134 → f i = g i) := by
  obtain ⟨b, h1, h2⟩ := eql_arr f g w0
  refine ⟨b, fun w => ?_, h2⟩
  obtain ⟨b', g1, g2⟩ := eql_arr f g w
  have e : b = b' := by rw [Bool.eq_iff_iff, h2, g2]
  subst e
  rw [run_neq_struct, g1]
  rfl

/-- Bytes as cells. -/
def cellB (f : Nat → Nat) (i : Nat) : Value := .int .u8 ((f i : Nat) : Int)
theorem zArr : Try.zeroCells129 = rowOf (cellB fun _ => 0) 134 := by kernel_rfl
attribute [local go_sem] zArr
theorem aArr : ∀ w, (isAgg 129).run Try.prog w = .ok true w := fun _ => by kernel_rfl
theorem sArr : ∀ w, (sizeOf 129).run Try.prog w = .ok 134 w := fun _ => by kernel_rfl
theorem iU8 : (Try.prog.info? 5).map (·.size) = some 1 := by kernel_rfl

set_option maxRecDepth 100000 in
set_option maxHeartbeats 800000 in
theorem impl_array (v : Value) (xs : List Nat) (f : Nat → Nat) (w : World) (h : BytesAt v xs w) (hf : ∀ i x, xs[i]? = some x → f i = x) (hl : xs.length = 134) :
    Calls Try.prog 77 #[v] w fun e w' => e = .returned (.agg (rowOf (cellB f) 134)) ∧ Below w.heap.size w w' := by
  obtain ⟨aa, cap, rfl⟩ := h.len
  obtain ⟨b, off, rfl, hz, -⟩ := h.cellAt (i := 0) (by omega)
  rw [hl] at h ⊢
  have R1 := RowAt.alloc (cellB fun _ => 0) 134 w 129
  have R2 := RowAt.alloc (cellB fun _ => 0) 134 (w.alloc (.cells (rowOf (cellB fun _ => 0) 134) 129)) 129
  rw [show (w.alloc (.cells (rowOf (cellB fun _ => 0) 134) 129)).heap.size = w.heap.size + 1 by simp] at R2
  have b1 : Below w.heap.size w ((w.alloc (.cells (rowOf (cellB fun _ => 0) 134) 129)).alloc (.cells (rowOf (cellB fun _ => 0) 134) 129)) := ((Below.refl _ _).alloc (Nat.le_refl _) _).alloc (by simp) _
  have R1' := R1.below ((Below.refl (w.alloc (.cells (rowOf (cellB fun _ => 0) 134) 129)).heap.size _).alloc (Nat.le_refl _) (.cells (rowOf (cellB fun _ => 0) 134) 129)) (by simp)
  have hB := h.below b1 (Nat.le_refl _)
  go_enter Try.func77, Try.ntmps77
  go_upto_region 2 with fail
  generalize ((w.alloc (.cells (rowOf (cellB fun _ => 0) 134) 129)).alloc (.cells (rowOf (cellB fun _ => 0) 134) 129)) = w1 at R1' R2 b1 hB ⊢
  have CP : ∀ ty, (Builtin.copy_ #[22, 22] ty #[.slice (some ⟨w.heap.size + 1, 0, none⟩) 134 134, .slice (some ⟨b, off, none⟩) 134 cap]).run Try.prog w1 = .ok (goInt (134 : Nat)) (w1.setCells (w.heap.size + 1) 0 (rowOf (cellB f) 134).toList) := by
    intro ty
    have hl' : (rowOf (cellB f) 134).toList.length = 134 := by simp [rowOf]
    have := run_copy_cells (P := Try.prog) w1 22 22 ty 5 (w.heap.size + 1) 0 134 134 ⟨b, off, none⟩ 134 cap (rowOf (cellB f) 134).toList Try.underlying22 iU8 hl' ?_ ?_ ?_ ?_
    · rw [hl'] at this
      exact this
    · intro j u hj
      have hj2 : j < 134 := by have := (List.getElem?_eq_some_iff.1 hj).1; omega
      rw [Array.getElem?_toList, rowOf_get _ hj2] at hj
      obtain ⟨b', off', e, -, c0⟩ := hB.cellAt (i := j) (by omega)
      simp only [Option.some.injEq, Addr.mk.injEq] at e
      obtain ⟨rfl, rfl, -⟩ := e
      rw [addr_add, ← hj, c0]
      unfold cellB
      rw [hf j _ (List.getElem?_eq_getElem _)]
    · intro j hj
      rw [Nat.zero_add, R2.c0 (by omega)]
      rfl
    · intro j hj
      rw [Nat.zero_add]
      exact R2.f0 (by omega)
    · intro u hu
      rw [Array.mem_toList_iff] at hu
      obtain ⟨i, hi, rfl⟩ := Array.mem_iff_getElem.1 hu
      simp [rowOf]
      rfl
  have R3 := R2.stored (cellB f)
  have R4 := R1'.other (c := w.heap.size + 1) (q := 0) (vs := (rowOf (cellB f) 134).toList) (by omega)
  have B4 := setCells_below (rowOf (cellB f) 134).toList (w.heap.size + 1) 0 b1 (by omega)
  have L9 := load_row aArr sArr R3
  have L10 := store_row (cellB f) sArr (fun _ _ => rfl) R4
  have HR : Hid (RowAt w.heap.size 0 134 (cellB f) _ ∧ Below w.heap.size w _) := ⟨R4.stored (cellB f), setCells_below (rowOf (cellB f) 134).toList w.heap.size 0 B4 (by omega)⟩
  clear R1 R1' R2 R3 R4 B4 hB h b1
  go_upto_region 3 with (at_builtin; refine list_copy rfl (.tmp 4) (.tmp 5) rfl rfl rfl (CP _) ?_)
  clear CP
  generalize w1.setCells (w.heap.size + 1) 0 (rowOf (cellB f) 134).toList = w2 at L9 L10 HR ⊢
  go_wp2_with (first | (refine list_load (t := 129) (x := .pointer (some ⟨w.heap.size + 1, 0, none⟩)) (u := .agg (rowOf (cellB f) 134)) rfl rfl rfl L9 ?_) | refine list_store (t := 129) (x := .pointer (some ⟨w.heap.size, 0, none⟩)) (u := .agg (rowOf (cellB f) 134)) rfl rfl rfl rfl L10 ?_)
  exact ret_row (c := 2) aArr sArr rfl rfl rfl HR.out.1 ⟨rfl, HR.out.2⟩

end Go.Proofs.Ytdhoimjkgicneac
