/- Texts of this proof laid together: FltW, RealZ, RealA. -/
import Derived.WalkLawsBesides
import Derived.Deep.Draws
import Derived.Test.YtdhoimjkgicneaaGreatDoorRows
import Derived.WalkKit
import Derived.WalkSpells
import Derived.Test.YtdhoimjkgicneaaGreatDoorLot4
/- What the operations on real numbers give in a walk, a nan's bits left open. Of no one program. -/
namespace Go.Proofs.YtdhoimjkgicneaaGreatDoor
open Go Ieee

/-- The bits that an operation on two real numbers gives; those of a nan are drawn. -/
def fGot (op : BinOp) (x y : Nat) (w : World) : Nat :=
  match floatBits op .f64 x y with
  | some r => r
  | none => (Question.nanBits .f64 x y).cut (w.tape w.drawn (.nanBits .f64 x y))

/-- How often it draws. -/
def fDrawn (op : BinOp) (x y : Nat) : Nat :=
  match floatBits op .f64 x y with
  | some _ => 0
  | none => 1

theorem drewN_zero (w : World) : w.drewN 0 = w := rfl

theorem run_any (P : Program) (op : BinOp) (h : op = .add ∨ op = .sub ∨ op = .mul ∨ op = .quo) (x y : Nat) (t : TypeId) (w : World) :
    (binOp op t (.float .f64 x) (.float .f64 y)).run P w = .ok (.float .f64 (fGot op x y w)) (w.drewN (fDrawn op x y)) := by
  unfold fGot fDrawn
  cases hf : floatBits op .f64 x y with
  | some r => exact run_float_arith w op t .f64 x y r hf
  | none =>
    rcases h with rfl | rfl | rfl | rfl
    all_goals
      simp only [floatBits] at hf
      simp [binOp, Op.floatArith, hf, Question.forced]
      rfl

theorem add_any (P : Program) (x y : Nat) : ∀ t w, (binOp .add t (.float .f64 x) (.float .f64 y)).run P w = .ok (.float .f64 (fGot .add x y w)) (w.drewN (fDrawn .add x y)) := run_any P _ (by simp) x y
theorem sub_any (P : Program) (x y : Nat) : ∀ t w, (binOp .sub t (.float .f64 x) (.float .f64 y)).run P w = .ok (.float .f64 (fGot .sub x y w)) (w.drewN (fDrawn .sub x y)) := run_any P _ (by simp) x y
theorem mul_any (P : Program) (x y : Nat) : ∀ t w, (binOp .mul t (.float .f64 x) (.float .f64 y)).run P w = .ok (.float .f64 (fGot .mul x y w)) (w.drewN (fDrawn .mul x y)) := run_any P _ (by simp) x y
theorem quo_any (P : Program) (x y : Nat) : ∀ t w, (binOp .quo t (.float .f64 x) (.float .f64 y)).run P w = .ok (.float .f64 (fGot .quo x y w)) (w.drewN (fDrawn .quo x y)) := run_any P _ (by simp) x y

/-- A sign that is turned. -/
def fNeg (x : Nat) : Nat := FloatKind.f64.encode (FloatKind.f64.decode x).opposite

end Go.Proofs.YtdhoimjkgicneaaGreatDoor

/- Nan and infinity, the specification's. -/
namespace Go.Proofs.YtdhoimjkgicneaaGreatDoor
open Go Go.RowKit

theorem nan_any (w : World) : Calls Tryz.prog 60 #[] w fun e w' => ∃ x : Nat, e = .returned (.float .f64 x) ∧ x = fGot .quo 0 0 w ∧ w' = w.drewN 1 := by
  have q := quo_any Tryz.prog 0 0
  have e1 : fDrawn .quo 0 0 = 1 := by decide +kernel
  rw [e1] at q
  go_enter Tryz.func60, Tryz.ntmps60
  go_wp2
  go_ret
  exact ⟨_, rfl, rfl, rfl⟩

theorem inf_any (w : World) : Calls Tryz.prog 61 #[] w fun e w' => e = .returned (.float .f64 9218868437227405312) ∧ w' = w := by
  have q : ∀ t w, (binOp .quo t (.float .f64 4607182418800017408) (.float .f64 0)).run Tryz.prog w = .ok (.float .f64 9218868437227405312) w := fun t w => run_float_arith w .quo t .f64 _ _ _ (by decide +kernel)
  go_enter Tryz.func61, Tryz.ntmps61
  go_wp2
  go_ret
  exact ⟨rfl, rfl⟩

end Go.Proofs.YtdhoimjkgicneaaGreatDoor

/- What drawn real numbers want. -/
namespace Go.Proofs.YtdhoimjkgicneaaGreatDoor
open Go Go.RowKit

end Go.Proofs.YtdhoimjkgicneaaGreatDoor
