/- Texts of this proof laid together: ArgA0, MsB. -/
import Derived.Test.YtdhoimjkgicneabDoorRows
import Derived.WalkKit
import Derived.WalkSpells
import Derived.WalkLawsBesides
import Derived.Laws.Externs
import Derived.Test.YtdhoimjkgicneabDoorLot15
import Derived.Test.YtdhoimjkgicneabDoorLot13
/- The words of the library on real numbers: the bits of a number, nan. -/
namespace Go.Proofs.YtdhoimjkgicneabDoor
open Go Go.RowKit

theorem from_bits (n : Int) (w : World) : (callFunc 78 #[.int .u64 n]).run Tryd.prog w = .ok (.value (.float .f64 n.toNat)) w := by
  rw [run_callFunc_extern (e := Extern.MathFloatBits.float64frombits) Tryd.func78 (by kernel_rfl) (by kernel_rfl) (by kernel_rfl) (by kernel_rfl)]
  rfl
theorem to_bits (n : Nat) (w : World) : (callFunc 63 #[.float .f64 n]).run Tryd.prog w = .ok (.value (.int .u64 n)) w := by
  rw [run_callFunc_extern (e := Extern.MathFloatBits.float64bits) Tryd.func63 (by kernel_rfl) (by kernel_rfl) (by kernel_rfl) (by kernel_rfl)]
  rfl

theorem lib_nan (w : World) : Calls Tryd.prog 62 #[] w fun e w' => e = .returned (.float .f64 9221120237041090561) ∧ w' = w := by
  have fb : ∀ w, (callFunc 78 #[.int .u64 9221120237041090561]).run Tryd.prog w = .ok (.value (.float .f64 9221120237041090561)) w := from_bits 9221120237041090561
  go_enter Tryd.func62, Tryd.ntmps62
  go_wp2
  go_ret
  exact ⟨rfl, rfl⟩

end Go.Proofs.YtdhoimjkgicneabDoor

/- The program's MemSame: the words of real numbers. -/
namespace Go.Proofs.YtdhoimjkgicneabDoor
open Go Go.RowKit

/-- Which word stands for a real number. -/
def canonW (x : Nat) : Nat := if (FloatKind.f64.format.order x x != some .eq) = true then 9221120237041090561 else x

theorem aWords : ∀ w, (isAgg 67).run Tryd.prog w = .ok true w := fun _ => by kernel_rfl
theorem sWords : ∀ w, (sizeOf 67).run Tryd.prog w = .ok 16 w := fun _ => by kernel_rfl
theorem index_real (r : Nat → Nat) (k : Nat) (hk : k < 16) (w : World) : (Instr.index 35 (.agg (rowOf (fReal r) 16)) (.int .i64 k)).run Tryd.prog w = .ok (.float .f64 (r k)) w := by
  have hp : (part 34 (rowOf (fReal r) 16) k).run Tryd.prog w = .ok (.float .f64 (r k)) w := part_one w (by kernel_rfl) (rowOf_get _ hk)
  have hs : (sizeOf 34).run Tryd.prog w = .ok 1 w := by kernel_rfl
  simp [Instr.index, asIntOf, run_underlying Tryd.underlying35, hk, hs, hp]

set_option maxRecDepth 100000 in
set_option maxHeartbeats 2000000 in
theorem real_bits (r : Nat → Nat) (w : World) :
    Calls Tryd.prog 28 #[.agg (rowOf (fReal r) 16)] w fun e w' => e = .returned (.agg (rowOf (fun i => .int .u64 (canonW (r i))) 16)) ∧ Below w.heap.size w w' := by
  obtain ⟨f, hf⟩ : ∃ f : Nat → Value, f = fun i => .int .u64 (canonW (r i)) := ⟨_, rfl⟩
  have f0 : ∀ k : Nat, f k = .int .u64 (canonW (r k)) := fun k => by rw [hf]
  have fo : ∀ k, (f k).oneCell' = true := fun k => by rw [hf]; rfl
  rw [← hf]
  clear hf
  obtain ⟨R0, R1, R2, RB⟩ := three_rows (fReal r) (fun _ => .int .u64 0) 16 w 35 67 67
  go_enter Tryd.func28, Tryd.ntmps28
  go_wp2_with (refine list_load (t := 35) rfl rfl rfl (load_row aReal sReal R0) ?_)
  go_loopw [7, 4, 5] (fun i a b wr => ∃ k : Nat, k ≤ 16 ∧ i = .int .i64 k ∧ RowAt (w.heap.size + 1) 0 16 (fun _ => .int .u64 0) wr ∧ RowAt (w.heap.size + 1 + 1) 0 16 (fun j => if j < k then f j else .int .u64 0) wr ∧ Below w.heap.size w wr) (fun i _ _ _ => 16 - (intOf i).toNat)
  case atStart => exact ⟨0, by omega, rfl, R1, R2, RB⟩
  case round =>
    clear R0 R1 R2 RB
    obtain ⟨k, hk, rfl, R1, R2, RB⟩ := hrel
    by_cases hlt : k < 16
    · have ix := index_real r k hlt
      have tb := to_bits
      have c0 := R2.c0 (k := k) (by omega)
      have e0 := R2.f0 (k := k) (by omega)
      have fk := f0 k
      have R1' := R1.at_other (c := w.heap.size + 1 + 1) (k := k) (u := f k) (by omega)
      have R2' := R2.more (m := k + 1) (u := f k) (by omega) (by omega) rfl
      have RB' := RB.setCell (p := ⟨w.heap.size + 1 + 1, k, none⟩) (by simp; omega) (f k)
      rw [fk] at R1' R2' RB'
      unfold canonW at R1' R2' RB'
      cases hx : FloatKind.f64.format.order (r k) (r k) != some .eq with
      | true =>
        rw [hx, if_pos rfl] at R1' R2' RB'
        go_wp2_with fail
        refine (lib_nan wr).mono ?_
        rintro e w1 ⟨rfl, rfl⟩
        go_wp2_with fail
        go_roundw
        case rel => exact ⟨k + 1, by omega, by go_num, R1', R2', RB'⟩
        case measure => simp [intOf]; omega
      | false =>
        rw [hx, if_neg (by decide)] at R1' R2' RB'
        go_wp2_with fail
        go_roundw
        case rel => exact ⟨k + 1, by omega, by go_num, R1', R2', RB'⟩
        case measure => simp [intOf]; omega
    · have e : k = 16 := by omega
      subst e
      have R2 : RowAt (w.heap.size + 1 + 1) 0 16 f wr := R2.congr (fun j hj => by rw [if_pos (by omega)])
      have R1' := R1.stored f
      have RB' := setCells_below (rowOf f 16).toList (w.heap.size + 1) 0 RB (by omega)
      go_wp2_with (first | refine list_load (t := 67) rfl rfl rfl (load_row aWords sWords R2) ?_ | refine list_store (t := 67) rfl rfl rfl rfl (store_row f sWords (fun k _ => fo k) R1) ?_)
      exact ret_row (c := 2) aWords sWords rfl rfl rfl R1' ⟨rfl, RB'⟩

end Go.Proofs.YtdhoimjkgicneabDoor
