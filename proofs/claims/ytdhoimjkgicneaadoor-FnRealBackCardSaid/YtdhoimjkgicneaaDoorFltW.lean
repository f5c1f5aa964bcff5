/- What the operations on real numbers give in a walk, a nan's bits left open. Of no one program. -/
import Derived.WalkLawsBesides
import Derived.Deep.Draws
namespace Go.Proofs.YtdhoimjkgicneaaDoor
open Go Ieee

/-- The bits that an operation on two real numbers gives; those of a nan are drawn. -/
def fGot (op : BinOp) (x y : Nat) (w : World) : Nat :=
  match floatBits op .f64 x y with
  | some r => r
  | none => (Question.nanBits .f64 x y).cut (w.tape w.drawn (.nanBits .f64 x y))

/-- How often it draws. -/
def fDrawn (op : BinOp) (x y : Nat) : Nat :=
  match floatBits op .f64 x y with
  | some _ => 0
  | none => 1

theorem drewN_zero (w : World) : w.drewN 0 = w := rfl

theorem run_any (P : Program) (op : BinOp) (h : op = .add ∨ op = .sub ∨ op = .mul ∨ op = .quo) (x y : Nat) (t : TypeId) (w : World) :
    (binOp op t (.float .f64 x) (.float .f64 y)).run P w = .ok (.float .f64 (fGot op x y w)) (w.drewN (fDrawn op x y)) := by
  unfold fGot fDrawn
  cases hf : floatBits op .f64 x y with
  | some r => exact run_float_arith w op t .f64 x y r hf
  | none =>
    rcases h with rfl | rfl | rfl | rfl
    all_goals
      simp only [floatBits] at hf
      simp [binOp, Op.floatArith, hf, Question.forced]
      rfl

theorem add_any (P : Program) (x y : Nat) : ∀ t w, (binOp .add t (.float .f64 x) (.float .f64 y)).run P w = .ok (.float .f64 (fGot .add x y w)) (w.drewN (fDrawn .add x y)) := run_any P _ (by simp) x y
theorem sub_any (P : Program) (x y : Nat) : ∀ t w, (binOp .sub t (.float .f64 x) (.float .f64 y)).run P w = .ok (.float .f64 (fGot .sub x y w)) (w.drewN (fDrawn .sub x y)) := run_any P _ (by simp) x y
theorem mul_any (P : Program) (x y : Nat) : ∀ t w, (binOp .mul t (.float .f64 x) (.float .f64 y)).run P w = .ok (.float .f64 (fGot .mul x y w)) (w.drewN (fDrawn .mul x y)) := run_any P _ (by simp) x y
theorem quo_any (P : Program) (x y : Nat) : ∀ t w, (binOp .quo t (.float .f64 x) (.float .f64 y)).run P w = .ok (.float .f64 (fGot .quo x y w)) (w.drewN (fDrawn .quo x y)) := run_any P _ (by simp) x y

/-- A sign that is turned. -/
def fNeg (x : Nat) : Nat := FloatKind.f64.encode (FloatKind.f64.decode x).opposite

end Go.Proofs.YtdhoimjkgicneaaDoor
