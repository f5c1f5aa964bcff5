/- What is kept of a memory, as the specification says it: the walk. -/
import Derived.Test.YtdhoimjkgicneacKepE0
namespace Go.Proofs.Ytdhoimjkgicneac
open Go Go.RowKit
attribute [local go_sem] zMemK
set_option maxRecDepth 100000 in
set_option maxHeartbeats 800000 in
theorem spec_kept (v : MemV) (w : World) (hv : v.Ok) :
    Calls Try.prog 36 #[.agg v.row] w fun e w' => e = .returned (.agg (keptV v).row) ∧ Below w.heap.size w w' := by
  obtain ⟨A1, O1, HB⟩ := boxes0 v w
  have C1 : Copying v 0 w _ := ⟨(HB (midV v 0)).1, (HB (midV v 0)).2.1, (HB (midV v 0)).2.2.1, (HB (midV v 0)).2.2.2⟩
  clear HB
  have HC : Hid (Copying v 0 w _) := C1
  clear C1
  have L1 := load_row aCounter sCounter A1.counters
  have L2 := store_mem (midV v 0) O1
  have c3 := A1.c 3 (by omega)
  rw [MemV.cell_s] at c3
  have c2 := A1.c 2 (by omega)
  rw [MemV.cell_m] at c2
  clear A1 O1
  obtain ⟨q, hq, q1⟩ : ∃ q : Nat, q = v.m / 4294967296 ∧ (v.m : Int) / 4294967296 = (q : Int) := ⟨_, rfl, by omega⟩
  have q2 : (q : Int) * 4294967296 % 18446744073709551616 = (q : Int) * 4294967296 := by have := hv.m; omega
  have q3 : IntKind.u64.wrap ((q : Int) * 4294967296) = (q : Int) * 4294967296 := by show (q : Int) * 4294967296 % 18446744073709551616 = _; exact q2
  have F := mid_first v (u1 := .int .u16 v.s) (u2 := .int .u64 ((q : Int) * 4294967296)) rfl (by rw [hq]; simp)
  clear hq
  go_enter Try.func36, Try.ntmps36
  go_wp2_with (first | refine list_load (t := 76) (x := .pointer (some ⟨w.heap.size, 37, none⟩)) (u := .agg (rowOf (fCounter v.cD v.cL v.cC) 48)) rfl rfl rfl L1 ?_ | refine list_build (t := 78) (cells := (midV v 0).row) (l := [(3, .int .u16 v.s), (2, .int .u64 ((q : Int) * 4294967296)), (6, .agg (rowOf (fCounter v.cD v.cL v.cC) 48))]) rfl rfl (by simp [Act.put, Act.eval]) F ?_ | refine list_store (t := 78) (x := .pointer (some ⟨w.heap.size + 1 + 1, 0, none⟩)) (u := .agg (midV v 0).row) rfl rfl rfl rfl L2 ?_)
  clear L1 L2 c2 c3 q1 q2 q3 F
  generalize (((w.alloc (.cells v.row 78)).alloc (.cells mem0.row 78)).alloc (.cells mem0.row 78)).setCells (w.heap.size + 1 + 1) 0 (midV v 0).row.toList = w1 at HC ⊢
  go_loopw [4] (fun iv wr => ∃ k : Nat, k ≤ 16 ∧ iv = .int .i64 k ∧ Copying v k w wr) (fun iv _ => 16 - (intOf iv).toNat)
  case atStart => exact ⟨0, by omega, rfl, HC.out⟩
  case round =>
    clear HC
    obtain ⟨k, hk, rfl, M⟩ := hrel
    have HM : Hid (Copying v k w wr) := M
    clear M
    by_cases hlt : k < 16
    · have hlt' : (k : Int) < 16 := by omega
      obtain ⟨n, hn, n1, n2⟩ : ∃ n : Nat, 16 + k = n ∧ (16 : Int) + (k : Int) = (n : Int) ∧ (n : Int) < 32 := ⟨16 + k, rfl, by omega, by omega⟩
      have c0 := HM.out.A.c (5 + k * 2) (by omega)
      rw [v.cell_tD k hlt] at c0
      have c1 := HM.out.A.c (5 + k * 2 + 1) (by omega)
      rw [v.cell_tC k hlt] at c1
      have c2 := HM.out.A.c (85 + n) (by omega)
      rw [v.cell_d n (by omega)] at c2
      obtain ⟨u0, d0⟩ : ∃ u, wr.cell? ⟨w.heap.size + 1 + 1, 5 + k * 2, none⟩ = some u := ⟨_, HM.out.O.c _ (by omega)⟩
      obtain ⟨u1, d1⟩ : ∃ u, wr.cell? ⟨w.heap.size + 1 + 1, 5 + k * 2 + 1, none⟩ = some u := ⟨_, HM.out.O.c _ (by omega)⟩
      obtain ⟨u2, d2⟩ : ∃ u, wr.cell? ⟨w.heap.size + 1 + 1, 85 + n, none⟩ = some u := ⟨_, HM.out.O.c _ (by omega)⟩
      have f0 := HM.out.O.f (5 + k * 2) (by omega)
      have f1 := HM.out.O.f (5 + k * 2 + 1) (by omega)
      have f2 := HM.out.O.f (85 + n) (by omega)
      have HN : Hid (Copying v (k + 1) w (((wr.setCell ⟨w.heap.size + 1 + 1, 5 + k * 2, none⟩ (.bool (v.tD k))).setCell ⟨w.heap.size + 1 + 1, 5 + k * 2 + 1, none⟩ (.int .u16 (v.tC k))).setCell ⟨w.heap.size + 1 + 1, 85 + n, none⟩ (.int .i16 (v.d n)))) := by
        have H := HM.out
        rw [← hn]
        exact ⟨((H.A.at_other (by omega)).at_other (by omega)).at_other (by omega), ((H.R.at_other (by omega)).at_other (by omega)).at_other (by omega), mid_put hlt H.O, ((H.B.setCell (by show _ ≤ w.heap.size + 1 + 1; omega) _).setCell (by show _ ≤ w.heap.size + 1 + 1; omega) _).setCell (by show _ ≤ w.heap.size + 1 + 1; omega) _⟩
      clear HM hn
      go_wp2_with fail
      go_roundw
      case rel => exact ⟨k + 1, by omega, by go_num, HN.out⟩
      case measure => simp [intOf]; omega
    · obtain rfl : k = 16 := by omega
      have O := HM.out.O
      have L9 := load_mem O
      have L10 := store_mem (midV v 16) HM.out.R
      have R3 := HM.out.R.stored (midV v 16)
      have B3 := setCells_below (midV v 16).row.toList (w.heap.size + 1) 0 HM.out.B (by omega)
      have HR : Hid (MemAt (w.heap.size + 1) (midV v 16) _ ∧ Below w.heap.size w _) := ⟨R3, B3⟩
      clear R3 B3 O HM
      go_wp2_with (first | (refine list_load (t := 78) (x := .pointer (some ⟨w.heap.size + 1 + 1, 0, none⟩)) (u := .agg (midV v 16).row) rfl rfl rfl L9 ?_) | refine list_store (t := 78) (x := .pointer (some ⟨w.heap.size + 1, 0, none⟩)) (u := .agg (midV v 16).row) rfl rfl rfl rfl L10 ?_)
      exact ret_mem (c := 2) rfl rfl rfl HR.out.1 ⟨by rw [mid_last], HR.out.2⟩

end Go.Proofs.Ytdhoimjkgicneac
