/- Texts of this proof laid together: MsA, ArgA0. -/
import Derived.Test.YtdhoimjkgicneabLot23
import Derived.Test.YtdhoimjkgicneabRows
import Derived.WalkKit
import Derived.WalkSpells
import Derived.WalkLawsBesides
import Derived.Laws.Externs
/- Two arrays of one kind of numbers, compared. -/
namespace Go.Proofs.Ytdhoimjkgicneab
open Go Go.RowKit

/-- Two arrays of one kind of numbers. -/
theorem eql_words (f g : Nat → Int) (w : World) : ∃ b : Bool, (Op.equalIn 10000 107 (.agg (rowOf (fun i => .int .u64 (f i)) 16)) (.agg (rowOf (fun i => .int .u64 (g i)) 16))).run Try.prog w = .ok b w ∧ (b = true ↔ ∀ i, i < 16 → f i = g i) := by
  have e := run_equalIn_array (P := Try.prog) w 9999 (t := 107) (e := 44) (n := 16) (rowOf (fun i => .int .u64 (f i)) 16) (rowOf (fun i => .int .u64 (g i)) 16) Try.underlying107 (i := (Try.prog.info? 44).getD default) (by kernel_rfl)
  have hc : Try.prog.cellsOf 44 = 1 := by kernel_rfl
  rw [hc] at e
  obtain ⟨b, h1, h2⟩ := eqItems_iff (P := Try.prog) w 9999 44 1 (rowOf (fun i => .int .u64 (f i)) 16) (rowOf (fun i => .int .u64 (g i)) 16) (fun i => f i = g i) (List.range 16) (fun i hi => by
    have hi : i < 16 := by simpa using hi
    have c1 : (rowOf (fun i => (.int .u64 (f i) : Value)) 16)[i * 1]? = some (.int .u64 (f i)) := by rw [Nat.mul_one, rowOf_get _ hi]
    have c2 : (rowOf (fun i => (.int .u64 (g i) : Value)) 16)[i * 1]? = some (.int .u64 (g i)) := by rw [Nat.mul_one, rowOf_get _ hi]
    obtain ⟨x, y, b, g1, g2, g3, g4⟩ := eq_int (P := Try.prog) w (d := 9998) (t := 44) (by kernel_rfl) Try.underlying44 c1 c2
    refine ⟨x, y, b, g1, g2, g3, ?_⟩
    rw [g4, c1, c2]
    simp)
  exact ⟨b, e.trans h1, by rw [h2]; simp⟩

end Go.Proofs.Ytdhoimjkgicneab

/- The words of the library on real numbers: the bits of a number, nan. -/
namespace Go.Proofs.Ytdhoimjkgicneab
open Go Go.RowKit

theorem from_bits (n : Int) (w : World) : (callFunc 90 #[.int .u64 n]).run Try.prog w = .ok (.value (.float .f64 n.toNat)) w := by
  rw [run_callFunc_extern (e := Extern.MathFloatBits.float64frombits) Try.func90 (by kernel_rfl) (by kernel_rfl) (by kernel_rfl) (by kernel_rfl)]
  rfl
theorem to_bits (n : Nat) (w : World) : (callFunc 75 #[.float .f64 n]).run Try.prog w = .ok (.value (.int .u64 n)) w := by
  rw [run_callFunc_extern (e := Extern.MathFloatBits.float64bits) Try.func75 (by kernel_rfl) (by kernel_rfl) (by kernel_rfl) (by kernel_rfl)]
  rfl

theorem lib_nan (w : World) : Calls Try.prog 74 #[] w fun e w' => e = .returned (.float .f64 9221120237041090561) ∧ w' = w := by
  have fb : ∀ w, (callFunc 90 #[.int .u64 9221120237041090561]).run Try.prog w = .ok (.value (.float .f64 9221120237041090561)) w := from_bits 9221120237041090561
  go_enter Try.func74, Try.ntmps74
  go_wp2
  go_ret
  exact ⟨rfl, rfl⟩

end Go.Proofs.Ytdhoimjkgicneab
