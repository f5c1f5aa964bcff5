/- A store laid into a block; the bytes of a plan. -/
import Derived.Test.YtdhoimjkgicneacHolM
namespace Go.Proofs.Ytdhoimjkgicneac
open Go Go.RowKit

/-- A store that is laid into a block. -/
theorem box_stored {R : Nat} {r r' : Ro} {da db da' db' : Value} {w : World} (h : RomBox R 0 r da db w) :
    RomBox R 0 r' da' db' ((((((w.setCell ⟨R, 0, none⟩ (.int .u8 (r'.a.mark : Int))).setCell ⟨R, 1, none⟩ (.int .u8 (r'.a.turn : Int))).setCell ⟨R, 2, none⟩ da').setCell ⟨R, 3, none⟩ (.int .u8 (r'.b.mark : Int))).setCell ⟨R, 4, none⟩ (.int .u8 (r'.b.turn : Int))).setCell ⟨R, 5, none⟩ db') := by
  have c0 := h.c0
  have c1 := h.c1
  have c2 := h.c2
  have c3 := h.c3
  have c4 := h.c4
  have c5 := h.c5
  simp only [Nat.zero_add] at c1 c2 c3 c4 c5
  have e1 := (cell_set c0 (.int .u8 (r'.a.mark : Int)) 1).trans c1
  have e2 := (cell_set e1 (.int .u8 (r'.a.turn : Int)) 2).trans ((cell_set c0 _ 2).trans c2)
  have e3 := (cell_set e2 da' 3).trans ((cell_set e1 _ 3).trans ((cell_set c0 _ 3).trans c3))
  have e4 := (cell_set e3 (.int .u8 (r'.b.mark : Int)) 4).trans ((cell_set e2 _ 4).trans ((cell_set e1 _ 4).trans ((cell_set c0 _ 4).trans c4)))
  have e5 := (cell_set e4 (.int .u8 (r'.b.turn : Int)) 5).trans ((cell_set e3 _ 5).trans ((cell_set e2 _ 5).trans ((cell_set e1 _ 5).trans ((cell_set c0 _ 5).trans c5))))
  refine ⟨by simpa using h.z, ?_, ?_, ?_, ?_, ?_, ?_⟩
  · rw [cell_set e5, if_neg (by omega), cell_set e4, if_neg (by omega), cell_set e3, if_neg (by omega), cell_set e2, if_neg (by omega), cell_set e1, if_neg (by omega), cell_set c0, if_pos rfl]
  · rw [Nat.zero_add, cell_set e5, if_neg (by omega), cell_set e4, if_neg (by omega), cell_set e3, if_neg (by omega), cell_set e2, if_neg (by omega), cell_set e1, if_pos rfl]
  · rw [Nat.zero_add, cell_set e5, if_neg (by omega), cell_set e4, if_neg (by omega), cell_set e3, if_neg (by omega), cell_set e2, if_pos rfl]
  · rw [Nat.zero_add, cell_set e5, if_neg (by omega), cell_set e4, if_neg (by omega), cell_set e3, if_pos rfl]
  · rw [Nat.zero_add, cell_set e5, if_neg (by omega), cell_set e4, if_pos rfl]
  · rw [Nat.zero_add, cell_set e5, if_pos rfl]

theorem set6_below {R B : Nat} {w0 w : World} (h : Below B w0 w) (hB : B ≤ R) (v0 v1 v2 v3 v4 v5 : Value) :
    Below B w0 ((((((w.setCell ⟨R, 0, none⟩ v0).setCell ⟨R, 1, none⟩ v1).setCell ⟨R, 2, none⟩ v2).setCell ⟨R, 3, none⟩ v3).setCell ⟨R, 4, none⟩ v4).setCell ⟨R, 5, none⟩ v5) :=
  (((((h.setCell hB _).setCell hB _).setCell hB _).setCell hB _).setCell hB _).setCell hB _
theorem set6_own {R B : Nat} {w : World} {d : Value} {xs : List Nat} (h : Own B d xs w) (hB : d.ownBlock ≠ some R) (v0 v1 v2 v3 v4 v5 : Value) :
    Own B d xs ((((((w.setCell ⟨R, 0, none⟩ v0).setCell ⟨R, 1, none⟩ v1).setCell ⟨R, 2, none⟩ v2).setCell ⟨R, 3, none⟩ v3).setCell ⟨R, 4, none⟩ v4).setCell ⟨R, 5, none⟩ v5) :=
  (((((h.setCell hB _).setCell hB _).setCell hB _).setCell hB _).setCell hB _).setCell hB _

theorem plan_bytes (r : Ro) {xs : List Nat} (h : Few xs) : ∀ x ∈ r.plan xs, x.byte ≤ 255 := by
  intro x hx
  have ht : r.turnTo ≤ 2 := by
    unfold Ro.turnTo
    split
    · omega
    split
    · omega
    · omega
  simp only [Ro.plan, List.mem_append, List.mem_cons, List.not_mem_nil, or_false, puts, List.mem_map] at hx
  rcases hx with ((((rfl | rfl) | ⟨y, hy, rfl⟩) | (rfl | rfl)) | hx)
  · simp
  · simp
  · exact h.le y hy
  · show r.turnTo ≤ 255; omega
  · simp
  · unfold Ro.tail at hx
    split at hx
    · simp at hx; rw [hx]; simp
    · simp at hx

end Go.Proofs.Ytdhoimjkgicneac
