/- The laws' copies of an operand and of a memory, as their arguments come in. -/
import Derived.Test.YtdhoimjkgicneacDoorDevB
import Derived.Test.YtdhoimjkgicneacDoorMemU
import Derived.Test.YtdhoimjkgicneacDoorToMem
namespace Go.Proofs.YtdhoimjkgicneacDoor
open Go Go.RowKit

set_option maxHeartbeats 400000 in
theorem to_arg (k n p : Int) (w : World) :
    Calls Tryd.prog 8 #[.agg #[.int .i64 k, .int .i64 n, .int .i64 p]] w fun e w' => e = .returned (.agg #[.int .i64 k, .int .i64 n, .int .i64 p]) ∧ Below w.heap.size w w' := by
  go_enter Tryd.func8, Tryd.ntmps8
  go_wp2
  exact bodyPost_ret (v := .agg #[.int .i64 k, .int .i64 n, .int .i64 p]) (by simp [results, Tryd.results8, go_sem]) rfl
    ⟨rfl, (((Below.refl _ _).alloc (Nat.le_refl _) _).alloc (by simp) _).alloc (by simp; omega) _⟩

theorem argTypes : Tryd.prog.cellTypes Tryd.prog.depth 38 = some [3, 3, 3] := by kernel_rfl

set_option maxRecDepth 100000 in
/-- An argument of the laws' kind of operand. -/
theorem open_arg {W : World} {r : Reach} {base : Nat} {v : Value} (h : Value.okWide Tryd.prog W r base 38 v) : ∃ k n p : Int, v = .agg #[.int .i64 k, .int .i64 n, .int .i64 p] := by
  have h' : ∃ cs, v = .agg cs ∧ cs.size = Tryd.prog.cellsOf 38 ∧ Row.okWide Tryd.prog W r base 38 cs := by
    unfold Value.okWide at h
    rw [Tryd.underlying38] at h
    exact h
  obtain ⟨cs, rfl, hsz, ts, ht, -, hc⟩ := h'
  have hsz : cs.size = 3 := hsz.trans (by kernel_rfl)
  obtain rfl : [3, 3, 3] = ts := Option.some.inj (argTypes.symm.trans ht)
  have hk : ∀ i, i < 3 → ∃ z : Int, cs[i]? = some (.int .i64 z) := by
    intro i hi
    obtain ⟨u, hu, hok⟩ := hc i (cs.getD i undef) (by simp [Array.getD, hsz, hi])
    have e : u = 3 := by
      have hcase : i = 0 ∨ i = 1 ∨ i = 2 := by omega
      rcases hcase with rfl | rfl | rfl <;> simpa using hu.symm
    rw [e] at hok
    obtain ⟨z, hz, -⟩ := cell_int Tryd.underlying3 hok
    refine ⟨z, ?_⟩
    rw [← hz]
    simp [Array.getD, hsz, hi]
  obtain ⟨k, h0⟩ := hk 0 (by omega)
  obtain ⟨n, h1⟩ := hk 1 (by omega)
  obtain ⟨p, h2⟩ := hk 2 (by omega)
  refine ⟨k, n, p, ?_⟩
  congr 1
  apply Array.ext
  · simp [hsz]
  · intro i hi1 hi2
    have hcase : i = 0 ∨ i = 1 ∨ i = 2 := by omega
    rcases hcase with rfl | rfl | rfl
    · have := (Array.getElem?_eq_some_iff.1 h0).2; simpa using this
    · have := (Array.getElem?_eq_some_iff.1 h1).2; simpa using this
    · have := (Array.getElem?_eq_some_iff.1 h2).2; simpa using this

/-- Two boxes that came in: a memory and an operand. -/
theorem in_boxes (v : MemV) (k n p : Int) (w : World) (t1 t2 : TypeId) {w' : World} (hb : Below ((w.alloc (.cells v.row t1)).alloc (.cells #[.int .i64 k, .int .i64 n, .int .i64 p] t2)).heap.size ((w.alloc (.cells v.row t1)).alloc (.cells #[.int .i64 k, .int .i64 n, .int .i64 p] t2)) w') :
    MemAt w.heap.size v w' ∧ w'.cell? ⟨w.heap.size + 1, 0, none⟩ = some (.int .i64 k) ∧ w'.cell? ⟨w.heap.size + 1, 1, none⟩ = some (.int .i64 n) ∧ w'.cell? ⟨w.heap.size + 1, 2, none⟩ = some (.int .i64 p) ∧ Below w.heap.size w w' := by
  have h1 : ∀ (w : World) (o : Obj), Below w.heap.size w (w.alloc o) := fun w o => (Below.refl _ _).alloc (Nat.le_refl _) _
  refine ⟨((MemAt.alloc v w t1).below (h1 _ _) (by simp)).below hb (by simp; omega), ?_, ?_, ?_, (((Below.refl w.heap.size w).alloc (Nat.le_refl _) _).alloc (by simp) _).trans (hb.mono (by simp; omega))⟩
  · rw [hb.cell (p := ⟨w.heap.size + 1, 0, none⟩) (by simp)]; simp
  · rw [hb.cell (p := ⟨w.heap.size + 1, 1, none⟩) (by simp)]; simp
  · rw [hb.cell (p := ⟨w.heap.size + 1, 2, none⟩) (by simp)]; simp

end Go.Proofs.YtdhoimjkgicneacDoor
