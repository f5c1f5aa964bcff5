/- A drawn memory: that the draw ends, and hands back some memory. -/
import Derived.Test.YtelgefchnjiggaaDoorMemF0
import Derived.Test.YtelgefchnjiggaaDoorMemQ
import Derived.Test.YtelgefchnjiggaaDoorNumA
import Derived.Test.YtelgefchnjiggaaDoorRealD
namespace Go.Proofs.YtelgefchnjiggaaDoor
open Go Go.RowKit

/-- A reader, and two memories behind all that was there: nothing, for the answer, and some memory. -/
structure Dr (R c : Nat) (w wr : World) : Prop where
  rd : Rd R c wr
  mv : Moved R w wr
  m : MemSome (w.heap.size + 1) wr
  o : MemAt w.heap.size mem0 wr

theorem MemAt.moved {R b : Nat} {v : MemV} {w w' : World} (h : MemAt b v w) (mv : Moved R w w') (hn : b ≠ R) : MemAt b v w' :=
  h.of_block (mv.block b h.z hn) (Nat.lt_of_lt_of_le h.z mv.size)
theorem MemSome.moved {R b : Nat} {w w' : World} (h : MemSome b w) (mv : Moved R w w') (hn : b ≠ R) : MemSome b w' := by
  obtain ⟨v, hv, hA⟩ := h
  exact ⟨v, hv, hA.moved mv hn⟩

theorem Dr.call {R c c' : Nat} {w wr w2 : World} (h : Dr R c w wr) (hR : R < w.heap.size) (rd : Rd R c' w2) (mv : Moved R wr w2) : Dr R c' w w2 :=
  ⟨rd, h.mv.trans mv, h.m.moved mv (by omega), h.o.moved mv (by omega)⟩
theorem Dr.set {R c k : Nat} {w wr : World} {u : Value} (h : Dr R c w wr) (hR : R < w.heap.size) (hk : k < 136) (hu : fitC k u) : Dr R c w (wr.setCell ⟨w.heap.size + 1, k, none⟩ u) :=
  ⟨h.rd.setCell (by show R < w.heap.size + 1; omega) _, h.mv.setCell (by show w.heap.size ≤ w.heap.size + 1; omega) _, h.m.set hk hu,
    h.o.of_block (Below.heap_setCell _ _ _ _ (by simp)) (by simpa [World.setCell] using h.o.z)⟩
theorem Dr.mono {R c c' : Nat} {w wr : World} (h : Dr R c w wr) (hc : c ≤ c') : Dr R c' w wr := ⟨h.rd.mono hc, h.mv, h.m, h.o⟩

/-- What is written by a draw fits its cell. -/
theorem fit_u32 {k : Nat} (hk : k = 0 ∨ k = 1 ∨ k = 4 ∨ k = 133) (z : Int) : fitC k (.int .u32 (IntKind.u32.wrap z)) := by
  unfold fitC
  rw [if_pos hk]
  have : 0 ≤ IntKind.u32.wrap z ∧ IntKind.u32.wrap z < 4294967296 := by
    simp [IntKind.wrap, IntKind.bits, IntKind.signed]
    omega
  exact ⟨(IntKind.u32.wrap z).toNat, by omega, by rw [Int.toNat_of_nonneg this.1]⟩
theorem fit_u64 {z : Int} (h0 : 0 ≤ z) (h1 : z < 18446744073709551616) : fitC 2 (.int .u64 z) := by
  unfold fitC
  rw [if_neg (by omega), if_pos rfl]
  exact ⟨z.toNat, by omega, by rw [Int.toNat_of_nonneg h0]⟩
theorem wrap_u16 (z : Int) : 0 ≤ IntKind.u16.wrap z ∧ IntKind.u16.wrap z < 65536 := by
  simp [IntKind.wrap, IntKind.bits, IntKind.signed]
  omega
theorem fit_u16 (z : Int) : fitC 3 (.int .u16 (IntKind.u16.wrap z)) := by
  unfold fitC
  rw [if_neg (by omega), if_neg (by omega), if_pos rfl]
  exact ⟨(IntKind.u16.wrap z).toNat, by have := wrap_u16 z; omega, by rw [Int.toNat_of_nonneg (wrap_u16 z).1]⟩
theorem fit_tD {k : Nat} (hk : k < 16) (b : Bool) : fitC (5 + k * 2) (.bool b) := by
  unfold fitC
  rw [if_neg (by omega), if_neg (by omega), if_neg (by omega), if_pos (by omega), if_pos (by omega)]
  exact ⟨b, rfl⟩
theorem fit_tC {k : Nat} (hk : k < 16) (z : Int) : fitC (5 + k * 2 + 1) (.int .u16 (IntKind.u16.wrap z)) := by
  unfold fitC
  rw [if_neg (by omega), if_neg (by omega), if_neg (by omega), if_pos (by omega), if_neg (by omega)]
  exact ⟨(IntKind.u16.wrap z).toNat, by have := wrap_u16 z; omega, by rw [Int.toNat_of_nonneg (wrap_u16 z).1]⟩
theorem fit_cD {k : Nat} (hk : k < 16) (b : Bool) : fitC (37 + k * 3) (.bool b) := by
  unfold fitC
  rw [if_neg (by omega), if_neg (by omega), if_neg (by omega), if_neg (by omega), if_pos (by omega), if_neg (by omega)]
  exact ⟨b, rfl⟩
theorem fit_cL {k : Nat} (hk : k < 16) (b : Bool) : fitC (37 + k * 3 + 1) (.bool b) := by
  unfold fitC
  rw [if_neg (by omega), if_neg (by omega), if_neg (by omega), if_neg (by omega), if_pos (by omega), if_neg (by omega)]
  exact ⟨b, rfl⟩
theorem fit_cC {k : Nat} (hk : k < 16) (z : Int) : fitC (37 + k * 3 + 2) (.int .u16 (IntKind.u16.wrap z)) := by
  unfold fitC
  rw [if_neg (by omega), if_neg (by omega), if_neg (by omega), if_neg (by omega), if_pos (by omega), if_pos (by omega)]
  exact ⟨(IntKind.u16.wrap z).toNat, by have := wrap_u16 z; omega, by rw [Int.toNat_of_nonneg (wrap_u16 z).1]⟩
theorem fit_d {k : Nat} (hk : k < 32) {z : Int} (h1 : -32768 ≤ z) (h2 : z ≤ 32767) : fitC (85 + k) (.int .i16 z) := by
  unfold fitC
  rw [if_neg (by omega), if_neg (by omega), if_neg (by omega), if_neg (by omega), if_neg (by omega), if_pos (by omega)]
  exact ⟨z, h1, h2, rfl⟩
theorem fit_r {k : Nat} (hk : k < 16) {x : Nat} (h1 : x < 2 ^ 64) : fitC (117 + k) (.float .f64 x) := by
  unfold fitC
  rw [if_neg (by omega), if_neg (by omega), if_neg (by omega), if_neg (by omega), if_neg (by omega), if_neg (by omega), if_pos (by omega)]
  exact ⟨x, h1, rfl⟩
theorem fit_b {k : Nat} (hk : k = 134 ∨ k = 135) (b : Bool) : fitC k (.bool b) := by
  unfold fitC
  rw [if_neg (by omega), if_neg (by omega), if_neg (by omega), if_neg (by omega), if_neg (by omega), if_neg (by omega), if_neg (by omega)]
  exact ⟨b, rfl⟩

end Go.Proofs.YtelgefchnjiggaaDoor
