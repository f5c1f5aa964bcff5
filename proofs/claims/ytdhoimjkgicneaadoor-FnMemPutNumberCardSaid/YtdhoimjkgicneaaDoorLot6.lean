/- Texts of this proof laid together: NumA0, FltW. -/
import Derived.Test.YtdhoimjkgicneaaDoorLot4
import Derived.Test.YtdhoimjkgicneaaDoorLot5
import Derived.WalkLawsBesides
import Derived.Deep.Draws
/- A drawn whole number of sixteen bits. -/
namespace Go.Proofs.YtdhoimjkgicneaaDoor
open Go Go.RowKit

theorem wrap16 (z : Int) : IntKind.i16.wrap z = (z + 32768) % 65536 - 32768 := by
  simp [IntKind.wrap, IntKind.signed, IntKind.bits]
  omega

theorem i16_bd (z : Int) : -32768 ≤ IntKind.i16.wrap z ∧ IntKind.i16.wrap z ≤ 32767 := by
  rw [wrap16]
  omega

set_option maxHeartbeats 400000 in
theorem whole_any (R c : Nat) (w : World) (h : Rd R c w) (hc : c ≤ 900) :
    Calls Tryd.prog 71 #[.pointer (some ⟨R, 0, none⟩)] w fun e w' => ∃ z : Int, e = .returned (.int .i16 z) ∧ -32768 ≤ z ∧ z ≤ 32767 ∧ Rd R (c + 2) w' ∧ Moved R w w' := by
  go_enter Tryd.func71, Tryd.ntmps71
  go_wp2_with fail
  refine (pick_any R c 4 w h (by omega) (by omega)).mono ?_
  rintro e w1 ⟨x, rfl, x0, -, -, rd1, mv1⟩
  clear h
  cases hx : x == 0 with
  | true =>
    go_wp2_with fail
    refine (num_lit R (c + 1) _ _ _ (by simp) rd1 (by omega) (by simp) (by simp) (by simp) 10 rfl).mono ?_
    rintro e w2 ⟨z, rfl, rd2, mv2⟩
    have hb := i16_bd z
    clear rd1
    go_wp2
    go_ret
    exact ⟨_, rfl, hb.1, hb.2, rd2, mv1.trans mv2⟩
  | false =>
    go_wp2_with fail
    refine (pick_any R (c + 1) 65536 w1 rd1 (by omega) (by omega)).mono ?_
    rintro e w2 ⟨y, rfl, y0, y1, -, rd2, mv2⟩
    have hy : y < 65536 := y1 (by omega)
    clear rd1 y1
    go_wp2
    go_ret
    exact ⟨_, rfl, by omega, by omega, rd2, mv1.trans mv2⟩

end Go.Proofs.YtdhoimjkgicneaaDoor

/- What the operations on real numbers give in a walk, a nan's bits left open. Of no one program. -/
namespace Go.Proofs.YtdhoimjkgicneaaDoor
open Go Ieee

/-- The bits that an operation on two real numbers gives; those of a nan are drawn. -/
def fGot (op : BinOp) (x y : Nat) (w : World) : Nat :=
  match floatBits op .f64 x y with
  | some r => r
  | none => (Question.nanBits .f64 x y).cut (w.tape w.drawn (.nanBits .f64 x y))

/-- How often it draws. -/
def fDrawn (op : BinOp) (x y : Nat) : Nat :=
  match floatBits op .f64 x y with
  | some _ => 0
  | none => 1

theorem drewN_zero (w : World) : w.drewN 0 = w := rfl

theorem run_any (P : Program) (op : BinOp) (h : op = .add ∨ op = .sub ∨ op = .mul ∨ op = .quo) (x y : Nat) (t : TypeId) (w : World) :
    (binOp op t (.float .f64 x) (.float .f64 y)).run P w = .ok (.float .f64 (fGot op x y w)) (w.drewN (fDrawn op x y)) := by
  unfold fGot fDrawn
  cases hf : floatBits op .f64 x y with
  | some r => exact run_float_arith w op t .f64 x y r hf
  | none =>
    rcases h with rfl | rfl | rfl | rfl
    all_goals
      simp only [floatBits] at hf
      simp [binOp, Op.floatArith, hf, Question.forced]
      rfl

theorem add_any (P : Program) (x y : Nat) : ∀ t w, (binOp .add t (.float .f64 x) (.float .f64 y)).run P w = .ok (.float .f64 (fGot .add x y w)) (w.drewN (fDrawn .add x y)) := run_any P _ (by simp) x y
theorem sub_any (P : Program) (x y : Nat) : ∀ t w, (binOp .sub t (.float .f64 x) (.float .f64 y)).run P w = .ok (.float .f64 (fGot .sub x y w)) (w.drewN (fDrawn .sub x y)) := run_any P _ (by simp) x y
theorem mul_any (P : Program) (x y : Nat) : ∀ t w, (binOp .mul t (.float .f64 x) (.float .f64 y)).run P w = .ok (.float .f64 (fGot .mul x y w)) (w.drewN (fDrawn .mul x y)) := run_any P _ (by simp) x y
theorem quo_any (P : Program) (x y : Nat) : ∀ t w, (binOp .quo t (.float .f64 x) (.float .f64 y)).run P w = .ok (.float .f64 (fGot .quo x y w)) (w.drewN (fDrawn .quo x y)) := run_any P _ (by simp) x y

/-- A sign that is turned. -/
def fNeg (x : Nat) : Nat := FloatKind.f64.encode (FloatKind.f64.decode x).opposite

end Go.Proofs.YtdhoimjkgicneaaDoor
