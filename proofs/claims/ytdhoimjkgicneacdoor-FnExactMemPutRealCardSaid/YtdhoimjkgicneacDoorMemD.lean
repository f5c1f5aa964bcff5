/- The specification's MemBit. -/
import Derived.Test.YtdhoimjkgicneacDoorMemC
namespace Go.Proofs.YtdhoimjkgicneacDoor
open Go Go.RowKit

/-- A given bit. -/
def givenB (v : MemV) (k : Int) : Bool :=
  if k = 0 then true else if k = 2 then !v.ran else if k = 3 then v.fault else if k = 4 then decide (500 ≤ v.time % 1000) else false

section
variable (v : MemV)
theorem MemV.r0 : v.row[0]? = some (.int .u32 v.x) := v.row_get (by omega)
theorem MemV.r1 : v.row[1]? = some (.int .u32 v.y) := v.row_get (by omega)
theorem MemV.r2 : v.row[2]? = some (.int .u64 v.m) := v.row_get (by omega)
theorem MemV.r3 : v.row[3]? = some (.int .u16 v.s) := v.row_get (by omega)
theorem MemV.r4 : v.row[4]? = some (.int .u32 v.e) := v.row_get (by omega)
theorem MemV.r133 : v.row[133]? = some (.int .u32 v.time) := v.row_get (by omega)
theorem MemV.r134 : v.row[134]? = some (.bool v.ran) := v.row_get (by omega)
theorem MemV.r135 : v.row[135]? = some (.bool v.fault) := v.row_get (by omega)
end

theorem given0 (v : MemV) : givenB v 0 = true := rfl
theorem given2 (v : MemV) : givenB v 2 = !v.ran := rfl
theorem given3 (v : MemV) : givenB v 3 = v.fault := rfl
theorem given4 (v : MemV) : givenB v 4 = decide (500 ≤ v.time % 1000) := rfl
theorem given_no (v : MemV) {k : Int} (h : k ≠ 0 ∧ k ≠ 2 ∧ k ≠ 3 ∧ k ≠ 4) : givenB v k = false := by
  unfold givenB
  rw [if_neg h.1, if_neg h.2.1, if_neg h.2.2.1, if_neg h.2.2.2]

set_option maxHeartbeats 4000000 in
theorem spec_given (v : MemV) (k : Int) (w : World) (ht : v.time < 4294967296) :
    Calls Tryd.prog 71 #[.agg v.row, .int .i64 k] w fun e w' => e = .returned (.bool (givenB v k)) ∧ Below w.heap.size w w' := by
  have c1 := v.r133
  have c2 := v.r134
  have c3 := v.r135
  have hB : Below w.heap.size w (w.alloc (.cells v.row 45)) := (Below.refl _ _).alloc (Nat.le_refl _) _
  by_cases h0 : k = 0
  · subst h0
    go_enter Tryd.func71, Tryd.ntmps71
    go_wp2
    go_ret
    exact ⟨ret_bool rfl, hB⟩
  by_cases h2 : k = 2
  · subst h2
    go_enter Tryd.func71, Tryd.ntmps71
    go_wp2
    go_ret
    exact ⟨ret_bool rfl, hB⟩
  by_cases h3 : k = 3
  · subst h3
    go_enter Tryd.func71, Tryd.ntmps71
    go_wp2
    go_ret
    exact ⟨ret_bool rfl, hB⟩
  by_cases h4 : k = 4
  · subst h4
    go_enter Tryd.func71, Tryd.ntmps71
    go_wp2
    go_ret
    refine ⟨ret_bool ?_, hB⟩
    rw [given4, Bool.eq_iff_iff]
    simp
    omega
  rw [given_no v ⟨h0, h2, h3, h4⟩]
  go_enter Tryd.func71, Tryd.ntmps71
  go_wp2
  go_ret
  exact ⟨ret_bool rfl, hB⟩

end Go.Proofs.YtdhoimjkgicneacDoor
