/- Tests of two numbers: the program's own, by its array of functions. -/
import Derived.Test.YtdhoimjkgicneaaDoorRealC
import Derived.Test.YtdhoimjkgicneaaDoorFltC
import Derived.Laws.EntriesVeiled
namespace Go.Proofs.YtdhoimjkgicneaaDoor
open Go Go.RowKit

/-- What a test answers, by how its sides stand to each other. -/
def cmpB (k : Int) (o : Option Ordering) : Bool :=
  if k = 1 then o == some .lt else if k = 2 then o == some .lt || o == some .eq else if k = 3 then o == some .eq else if k = 4 then o != some .eq else if k = 5 then o == some .gt || o == some .eq else if k = 6 then o == some .gt else false

set_option maxHeartbeats 400000 in
theorem impl_cmpok (k : Int) (w : World) (h1 : 1 ≤ k) (h2 : k ≤ 6) :
    Calls Tryd.prog 74 #[.int .i64 k] w fun e w' => e = .returned (.bool true) ∧ w' = w := by
  go_enter Tryd.func74, Tryd.ntmps74
  go_wp2
  go_ret
  exact ⟨rfl, rfl⟩

set_option maxHeartbeats 400000 in
theorem impl_tests (w : World) :
    Calls Tryd.prog 75 #[] w fun e w' => e = .returned (.agg #[.nilFunc, .func (.func 117) #[] #[], .func (.func 118) #[] #[], .func (.func 119) #[] #[], .func (.func 120) #[] #[], .func (.func 121) #[] #[], .func (.func 122) #[] #[]]) ∧ Below w.heap.size w w' := by
  go_enter Tryd.func75, Tryd.ntmps75
  go_wp2
  exact bodyPost_ret (v := .agg #[.nilFunc, .func (.func 117) #[] #[], .func (.func 118) #[] #[], .func (.func 119) #[] #[], .func (.func 120) #[] #[], .func (.func 121) #[] #[], .func (.func 122) #[] #[]]) (by simp [results, Tryd.results75, go_sem]) rfl ⟨rfl, (Below.refl _ _).alloc (Nat.le_refl _) _⟩

theorem ixf1 (w : World) : (Instr.index 100 (.agg #[.nilFunc, .func (.func 117) #[] #[], .func (.func 118) #[] #[], .func (.func 119) #[] #[], .func (.func 120) #[] #[], .func (.func 121) #[] #[], .func (.func 122) #[] #[]]) (.int .i64 1)).run Tryd.prog w = .ok (.func (.func 117) #[] #[]) w := by kernel_rfl
theorem ixf2 (w : World) : (Instr.index 100 (.agg #[.nilFunc, .func (.func 117) #[] #[], .func (.func 118) #[] #[], .func (.func 119) #[] #[], .func (.func 120) #[] #[], .func (.func 121) #[] #[], .func (.func 122) #[] #[]]) (.int .i64 2)).run Tryd.prog w = .ok (.func (.func 118) #[] #[]) w := by kernel_rfl
theorem ixf3 (w : World) : (Instr.index 100 (.agg #[.nilFunc, .func (.func 117) #[] #[], .func (.func 118) #[] #[], .func (.func 119) #[] #[], .func (.func 120) #[] #[], .func (.func 121) #[] #[], .func (.func 122) #[] #[]]) (.int .i64 3)).run Tryd.prog w = .ok (.func (.func 119) #[] #[]) w := by kernel_rfl
theorem ixf4 (w : World) : (Instr.index 100 (.agg #[.nilFunc, .func (.func 117) #[] #[], .func (.func 118) #[] #[], .func (.func 119) #[] #[], .func (.func 120) #[] #[], .func (.func 121) #[] #[], .func (.func 122) #[] #[]]) (.int .i64 4)).run Tryd.prog w = .ok (.func (.func 120) #[] #[]) w := by kernel_rfl
theorem ixf5 (w : World) : (Instr.index 100 (.agg #[.nilFunc, .func (.func 117) #[] #[], .func (.func 118) #[] #[], .func (.func 119) #[] #[], .func (.func 120) #[] #[], .func (.func 121) #[] #[], .func (.func 122) #[] #[]]) (.int .i64 5)).run Tryd.prog w = .ok (.func (.func 121) #[] #[]) w := by kernel_rfl
theorem ixf6 (w : World) : (Instr.index 100 (.agg #[.nilFunc, .func (.func 117) #[] #[], .func (.func 118) #[] #[], .func (.func 119) #[] #[], .func (.func 120) #[] #[], .func (.func 121) #[] #[], .func (.func 122) #[] #[]]) (.int .i64 6)).run Tryd.prog w = .ok (.func (.func 122) #[] #[]) w := by kernel_rfl

set_option maxRecDepth 100000 in
set_option maxHeartbeats 1000000 in
theorem impl_rcmp (k : Int) (x y : Nat) (w : World) (h1 : 1 ≤ k) (h2 : k ≤ 6) :
    Calls Tryd.prog 24 #[.int .i64 k, .float .f64 x, .float .f64 y] w fun e w' => e = .returned (.bool (cmpB k (FloatKind.f64.format.order x y))) ∧ Below w.heap.size w w' := by
  have hk : k = 1 ∨ k = 2 ∨ k = 3 ∨ k = 4 ∨ k = 5 ∨ k = 6 := by omega
  rcases hk with rfl | rfl | rfl | rfl | rfl | rfl
  all_goals
    go_enter Tryd.func24, Tryd.ntmps24
    go_wp2_with fail
    refine (impl_cmpok _ _ (by omega) (by omega)).mono ?_
    rintro e w1 ⟨rfl, rfl⟩
    go_wp2_with fail
    refine (impl_tests _).mono ?_
    rintro e w2 ⟨rfl, hb⟩
    have B : Hid (Below w1.heap.size w1 w2) := hb
    clear hb
    have i1 := ixf1
    have i2 := ixf2
    have i3 := ixf3
    have i4 := ixf4
    have i5 := ixf5
    have i6 := ixf6
    go_wp2
    go_ret
    exact ⟨rfl, B.out⟩

end Go.Proofs.YtdhoimjkgicneaaDoor
