/- Texts of this proof laid together: ArgA0, ArgA. -/
import Derived.Test.YtdhoimjkgicneacDoorRows
import Derived.WalkKit
import Derived.WalkSpells
import Derived.WalkLawsBesides
import Derived.Laws.Externs
import Derived.Test.YtdhoimjkgicneacDoorLot21
/- The words of the library on real numbers: the bits of a number, nan. -/
namespace Go.Proofs.YtdhoimjkgicneacDoor
open Go Go.RowKit

theorem from_bits (n : Int) (w : World) : (callFunc 68 #[.int .u64 n]).run Tryd.prog w = .ok (.value (.float .f64 n.toNat)) w := by
  rw [run_callFunc_extern (e := Extern.MathFloatBits.float64frombits) Tryd.func68 (by kernel_rfl) (by kernel_rfl) (by kernel_rfl) (by kernel_rfl)]
  rfl
theorem to_bits (n : Nat) (w : World) : (callFunc 85 #[.float .f64 n]).run Tryd.prog w = .ok (.value (.int .u64 n)) w := by
  rw [run_callFunc_extern (e := Extern.MathFloatBits.float64bits) Tryd.func85 (by kernel_rfl) (by kernel_rfl) (by kernel_rfl) (by kernel_rfl)]
  rfl

theorem lib_nan (w : World) : Calls Tryd.prog 46 #[] w fun e w' => e = .returned (.float .f64 9221120237041090561) ∧ w' = w := by
  have fb : ∀ w, (callFunc 68 #[.int .u64 9221120237041090561]).run Tryd.prog w = .ok (.value (.float .f64 9221120237041090561)) w := from_bits 9221120237041090561
  go_enter Tryd.func46, Tryd.ntmps46
  go_wp2
  go_ret
  exact ⟨rfl, rfl⟩

end Go.Proofs.YtdhoimjkgicneacDoor

/- The words of the library on real numbers that the program asks for: nan, the infinities, minus zero. -/
namespace Go.Proofs.YtdhoimjkgicneacDoor
open Go Go.RowKit

theorem lib_inf (w : World) : Calls Tryd.prog 47 #[.int .i64 1] w fun e w' => e = .returned (.float .f64 9218868437227405312) ∧ w' = w := by
  have fb : ∀ w, (callFunc 68 #[.int .u64 9218868437227405312]).run Tryd.prog w = .ok (.value (.float .f64 9218868437227405312)) w := from_bits 9218868437227405312
  go_enter Tryd.func47, Tryd.ntmps47
  go_wp2
  go_ret
  exact ⟨rfl, rfl⟩

theorem lib_neg_inf (w : World) : Calls Tryd.prog 47 #[.int .i64 (-1)] w fun e w' => e = .returned (.float .f64 18442240474082181120) ∧ w' = w := by
  have fb : ∀ w, (callFunc 68 #[.int .u64 18442240474082181120]).run Tryd.prog w = .ok (.value (.float .f64 18442240474082181120)) w := from_bits 18442240474082181120
  go_enter Tryd.func47, Tryd.ntmps47
  go_wp2
  go_ret
  exact ⟨rfl, rfl⟩

/-- The bits of an infinity, by a sign. -/
def infF (s : Int) : Nat := if 0 ≤ s then 9218868437227405312 else 18442240474082181120

theorem lib_infs (s : Int) (w : World) : Calls Tryd.prog 47 #[.int .i64 s] w fun e w' => e = .returned (.float .f64 (infF s)) ∧ w' = w := by
  have f1 : ∀ w, (callFunc 68 #[.int .u64 9218868437227405312]).run Tryd.prog w = .ok (.value (.float .f64 9218868437227405312)) w := from_bits 9218868437227405312
  have f2 : ∀ w, (callFunc 68 #[.int .u64 18442240474082181120]).run Tryd.prog w = .ok (.value (.float .f64 18442240474082181120)) w := from_bits 18442240474082181120
  by_cases h : 0 ≤ s
  · have e : infF s = 9218868437227405312 := by simp [infF, h]
    rw [e]
    go_enter Tryd.func47, Tryd.ntmps47
    go_wp2
    go_ret
    exact ⟨rfl, rfl⟩
  · have e : infF s = 18442240474082181120 := by simp [infF, h]
    rw [e]
    go_enter Tryd.func47, Tryd.ntmps47
    go_wp2
    go_ret
    exact ⟨rfl, rfl⟩

set_option maxRecDepth 100000 in
theorem lib_sign (w : World) : Calls Tryd.prog 69 #[.float .f64 0, .float .f64 13830554455654793216] w fun e w' => e = .returned (.float .f64 9223372036854775808) ∧ w' = w := by
  have tb0 : ∀ w, (callFunc 85 #[.float .f64 0]).run Tryd.prog w = .ok (.value (.int .u64 0)) w := to_bits 0
  have tb1 : ∀ w, (callFunc 85 #[.float .f64 13830554455654793216]).run Tryd.prog w = .ok (.value (.int .u64 13830554455654793216)) w := to_bits 13830554455654793216
  have fb : ∀ w, (callFunc 68 #[.int .u64 9223372036854775808]).run Tryd.prog w = .ok (.value (.float .f64 9223372036854775808)) w := from_bits 9223372036854775808
  have a1 : bits .andNot .u64 0 9223372036854775808 = 0 := by decide +kernel
  have a2 : bits .and .u64 13830554455654793216 9223372036854775808 = 9223372036854775808 := by decide +kernel
  have a3 : bits .or .u64 0 9223372036854775808 = 9223372036854775808 := by decide +kernel
  go_enter Tryd.func69, Tryd.ntmps69
  go_wp2
  go_ret
  exact ⟨rfl, rfl⟩

theorem impl_mzero (w : World) : Calls Tryd.prog 48 #[] w fun e w' => e = .returned (.float .f64 9223372036854775808) ∧ w' = w := by
  go_enter Tryd.func48, Tryd.ntmps48
  go_wp2_with (go_at_call 69; refine (lib_sign _).mono ?_; rintro e w' ⟨rfl, rfl⟩)
  go_ret
  exact ⟨rfl, rfl⟩

end Go.Proofs.YtdhoimjkgicneacDoor
