/- Texts of this proof laid together: DrawO, NumA0, FltW. -/
import Derived.Test.YtdhoimjkgicneaaDoorLot2
import Derived.Test.YtdhoimjkgicneaaDoorLot3
import Derived.WalkLawsBesides
import Derived.Deep.Draws
/- How a drawn code is opened. -/
namespace Go.Proofs.YtdhoimjkgicneaaDoor
open Go Go.RowKit

theorem rd_new {w : World} {b off len cap : Nat} (hz : b < w.heap.size) (h1 : 1 ≤ len) (h2 : len ≤ 2000) (he : ∀ i, i < len → ∃ x : Nat, x ≤ 255 ∧ w.cell? ⟨b, off + i, none⟩ = some (.int .u8 x)) (t : TypeId) :
    Rd w.heap.size 0 (w.alloc (.cells #[.slice (some ⟨b, off, none⟩) len cap, .int .i64 0] t)) := by
  refine Or.inl ⟨b, off, len, cap, 0, Nat.le_refl _, by simp, hz, by simp, by simp, by simp, ?_, h1, h2⟩
  intro i hi
  obtain ⟨x, hx, ex⟩ := he i hi
  refine ⟨x, hx, ?_⟩
  rw [← ex]; exact World.cell?_of_block (w := w) (Below.heap_alloc _ _ _ hz)

theorem rd_no {w : World} {a : Option Addr} {cap : Nat} (t : TypeId) : Rd w.heap.size 0 (w.alloc (.cells #[.slice a 0 cap, .int .i64 0] t)) :=
  Or.inr ⟨0, Nat.le_refl _, by simp, ⟨a, cap, by simp⟩, by simp, by simp⟩

set_option maxHeartbeats 400000 in
theorem open_any (v : Value) (w : World) (h : CodeAt v w) :
    Calls Tryd.prog 56 #[v] w fun e w' => e = .returned (.pointer (some ⟨w.heap.size, 0, none⟩)) ∧ Rd w.heap.size 0 w' ∧ Below w.heap.size w w' := by
  rcases h with ⟨b, off, len, cap, rfl, hz, h1, h2, h3, he⟩ | ⟨a, cap, rfl⟩
  · by_cases hl : len ≤ 2000
    · go_enter Tryd.func56, Tryd.ntmps56
      go_wp2
      go_ret
      exact ⟨rfl, rd_new hz h1 hl he _, (Below.refl _ _).alloc (Nat.le_refl _) _⟩
    · go_enter Tryd.func56, Tryd.ntmps56
      go_wp2
      go_ret
      exact ⟨rfl, rd_new hz (by omega) (by omega) (fun i hi => he i (by omega)) _, (Below.refl _ _).alloc (Nat.le_refl _) _⟩
  · go_enter Tryd.func56, Tryd.ntmps56
    go_wp2
    go_ret
    exact ⟨rfl, rd_no _, (Below.refl _ _).alloc (Nat.le_refl _) _⟩

end Go.Proofs.YtdhoimjkgicneaaDoor

/- A drawn whole number of sixteen bits. -/
namespace Go.Proofs.YtdhoimjkgicneaaDoor
open Go Go.RowKit

theorem wrap16 (z : Int) : IntKind.i16.wrap z = (z + 32768) % 65536 - 32768 := by
  simp [IntKind.wrap, IntKind.signed, IntKind.bits]
  omega

theorem i16_bd (z : Int) : -32768 ≤ IntKind.i16.wrap z ∧ IntKind.i16.wrap z ≤ 32767 := by
  rw [wrap16]
  omega

set_option maxHeartbeats 400000 in
theorem whole_any (R c : Nat) (w : World) (h : Rd R c w) (hc : c ≤ 900) :
    Calls Tryd.prog 71 #[.pointer (some ⟨R, 0, none⟩)] w fun e w' => ∃ z : Int, e = .returned (.int .i16 z) ∧ -32768 ≤ z ∧ z ≤ 32767 ∧ Rd R (c + 2) w' ∧ Moved R w w' := by
  go_enter Tryd.func71, Tryd.ntmps71
  go_wp2_with fail
  refine (pick_any R c 4 w h (by omega) (by omega)).mono ?_
  rintro e w1 ⟨x, rfl, x0, -, -, rd1, mv1⟩
  clear h
  cases hx : x == 0 with
  | true =>
    go_wp2_with fail
    refine (num_lit R (c + 1) _ _ _ (by simp) rd1 (by omega) (by simp) (by simp) (by simp) 10 rfl).mono ?_
    rintro e w2 ⟨z, rfl, rd2, mv2⟩
    have hb := i16_bd z
    clear rd1
    go_wp2
    go_ret
    exact ⟨_, rfl, hb.1, hb.2, rd2, mv1.trans mv2⟩
  | false =>
    go_wp2_with fail
    refine (pick_any R (c + 1) 65536 w1 rd1 (by omega) (by omega)).mono ?_
    rintro e w2 ⟨y, rfl, y0, y1, -, rd2, mv2⟩
    have hy : y < 65536 := y1 (by omega)
    clear rd1 y1
    go_wp2
    go_ret
    exact ⟨_, rfl, by omega, by omega, rd2, mv1.trans mv2⟩

end Go.Proofs.YtdhoimjkgicneaaDoor

/- What the operations on real numbers give in a walk, a nan's bits left open. Of no one program. -/
namespace Go.Proofs.YtdhoimjkgicneaaDoor
open Go Ieee

/-- The bits that an operation on two real numbers gives; those of a nan are drawn. -/
def fGot (op : BinOp) (x y : Nat) (w : World) : Nat :=
  match floatBits op .f64 x y with
  | some r => r
  | none => (Question.nanBits .f64 x y).cut (w.tape w.drawn (.nanBits .f64 x y))

/-- How often it draws. -/
def fDrawn (op : BinOp) (x y : Nat) : Nat :=
  match floatBits op .f64 x y with
  | some _ => 0
  | none => 1

theorem drewN_zero (w : World) : w.drewN 0 = w := rfl

theorem run_any (P : Program) (op : BinOp) (h : op = .add ∨ op = .sub ∨ op = .mul ∨ op = .quo) (x y : Nat) (t : TypeId) (w : World) :
    (binOp op t (.float .f64 x) (.float .f64 y)).run P w = .ok (.float .f64 (fGot op x y w)) (w.drewN (fDrawn op x y)) := by
  unfold fGot fDrawn
  cases hf : floatBits op .f64 x y with
  | some r => exact run_float_arith w op t .f64 x y r hf
  | none =>
    rcases h with rfl | rfl | rfl | rfl
    all_goals
      simp only [floatBits] at hf
      simp [binOp, Op.floatArith, hf, Question.forced]
      rfl

theorem add_any (P : Program) (x y : Nat) : ∀ t w, (binOp .add t (.float .f64 x) (.float .f64 y)).run P w = .ok (.float .f64 (fGot .add x y w)) (w.drewN (fDrawn .add x y)) := run_any P _ (by simp) x y
theorem sub_any (P : Program) (x y : Nat) : ∀ t w, (binOp .sub t (.float .f64 x) (.float .f64 y)).run P w = .ok (.float .f64 (fGot .sub x y w)) (w.drewN (fDrawn .sub x y)) := run_any P _ (by simp) x y
theorem mul_any (P : Program) (x y : Nat) : ∀ t w, (binOp .mul t (.float .f64 x) (.float .f64 y)).run P w = .ok (.float .f64 (fGot .mul x y w)) (w.drewN (fDrawn .mul x y)) := run_any P _ (by simp) x y
theorem quo_any (P : Program) (x y : Nat) : ∀ t w, (binOp .quo t (.float .f64 x) (.float .f64 y)).run P w = .ok (.float .f64 (fGot .quo x y w)) (w.drewN (fDrawn .quo x y)) := run_any P _ (by simp) x y

/-- A sign that is turned. -/
def fNeg (x : Nat) : Nat := FloatKind.f64.encode (FloatKind.f64.decode x).opposite

end Go.Proofs.YtdhoimjkgicneaaDoor
