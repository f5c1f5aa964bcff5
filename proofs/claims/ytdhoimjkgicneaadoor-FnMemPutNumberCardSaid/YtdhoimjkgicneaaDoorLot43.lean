/- Texts of this proof laid together: PutN, PutC0. -/
import Derived.Test.YtdhoimjkgicneaaDoorLot19
import Derived.Test.YtdhoimjkgicneaaDoorLot33
import Derived.Test.YtdhoimjkgicneaaDoorRows
import Derived.WalkKit
/- A memory in which a number is put: it is there, and it can be put back. -/
namespace Go.Proofs.YtdhoimjkgicneaaDoor
open Go

theorem putW_none (v : MemV) {k n : Int} (z : Int) (h : k ≠ 9) : putW v k n z = v := by unfold putW; rw [if_neg h]
theorem putR_none (v : MemV) {k n : Int} (x : Nat) (h : k ≠ 10) : putR v k n x = v := by unfold putR; rw [if_neg h]

theorem putW_there (v : MemV) (n z : Int) : wholeZ (putW v 9 n z) 9 n = z := by
  show (if (atZ 9 n).toNat = (atZ 9 n).toNat then z else v.d (atZ 9 n).toNat) = z
  rw [if_pos rfl]
theorem putR_there (v : MemV) (n : Int) (x : Nat) : (putR v 10 n x).r (atZ 10 n).toNat = x := by
  show (if (atZ 10 n).toNat = (atZ 10 n).toNat then x else v.r (atZ 10 n).toNat) = x
  rw [if_pos rfl]

theorem putW_back (v : MemV) (n z : Int) : putW (putW v 9 n z) 9 n (wholeZ v 9 n) = v := by
  have e : (fun i => if i = (atZ 9 n).toNat then v.d (atZ 9 n).toNat else if i = (atZ 9 n).toNat then z else v.d i) = v.d := by
    funext i
    by_cases h : i = (atZ 9 n).toNat
    · rw [if_pos h, h]
    · rw [if_neg h, if_neg h]
  show ({ v with d := fun i => if i = (atZ 9 n).toNat then v.d (atZ 9 n).toNat else if i = (atZ 9 n).toNat then z else v.d i } : MemV) = v
  rw [e]
theorem putR_back (v : MemV) (n : Int) (x : Nat) : putR (putR v 10 n x) 10 n (v.r (atZ 10 n).toNat) = v := by
  have e : (fun i => if i = (atZ 10 n).toNat then v.r (atZ 10 n).toNat else if i = (atZ 10 n).toNat then x else v.r i) = v.r := by
    funext i
    by_cases h : i = (atZ 10 n).toNat
    · rw [if_pos h, h]
    · rw [if_neg h, if_neg h]
  show ({ v with r := fun i => if i = (atZ 10 n).toNat then v.r (atZ 10 n).toNat else if i = (atZ 10 n).toNat then x else v.r i } : MemV) = v
  rw [e]

end Go.Proofs.YtdhoimjkgicneaaDoor

/- A number of an operand, loaded. -/
namespace Go.Proofs.YtdhoimjkgicneaaDoor
open Go Go.RowKit

theorem load_int {b o : Nat} {x : Value} {w : World} (h : w.cell? ⟨b, o, none⟩ = some x) : (Instr.loadAt 3 (.pointer (some ⟨b, o, none⟩))).run Tryd.prog w = .ok x w := by
  have ha : (isAgg 3).run Tryd.prog w = .ok false w := by kernel_rfl
  simp only [Instr.loadAt, Instr.sureAddr, Sem.run_bind, Sem.run_pure, Result.andThen, loadVar, ha, if_false, Bool.false_eq_true]
  simp [go_sem, h]

end Go.Proofs.YtdhoimjkgicneaaDoor
