/- Texts of this proof laid together: DrawN, Ret, CodeA. -/
import Derived.Test.YtdhoimjkgicneaaDoorLot2
import Derived.Test.YtdhoimjkgicneaaDoorRows
import Derived.WalkKit
import Derived.WalkSpells
import Derived.WalkLawsBesides
import Derived.Deep.QuietTactic
import Derived.BigQuiet
/- Drawn numbers out of a list, and a box of three cells: of the reader alone. -/
namespace Go.Proofs.YtdhoimjkgicneaaDoor
open Go Go.RowKit

theorem ints_of {w : World} {cs : Array Value} {t : TypeId} (h : ∀ v ∈ cs.toList, ∃ z : Int, v = .int .i64 z) : ∀ i, i < cs.size → ∃ z : Int, (w.alloc (.cells cs t)).cell? ⟨w.heap.size, i, none⟩ = some (.int .i64 z) := by
  intro i hi
  obtain ⟨z, hz⟩ := h cs[i] (by simp)
  refine ⟨z, ?_⟩
  rw [← hz]
  simp [hi]

set_option maxHeartbeats 400000 in
theorem num_any (R c L len cap : Nat) (w : World) (h : Rd R c w) (hc : c ≤ 1000) (hL : L < w.heap.size) (hn : L ≠ R) (l1 : 1 ≤ len) (l2 : len ≤ 1000)
    (hl : ∀ i, i < len → ∃ z : Int, w.cell? ⟨L, i, none⟩ = some (.int .i64 z)) :
    Calls Tryd.prog 115 #[.pointer (some ⟨R, 0, none⟩), .slice (some ⟨L, 0, none⟩) len cap] w fun e w' => ∃ z : Int, e = .returned (.int .i64 z) ∧ Rd R (c + 1) w' ∧ Moved R w w' := by
  go_enter Tryd.func115, Tryd.ntmps115
  go_wp2_with fail
  refine (pick_any R c len w h (by omega) (by omega)).mono ?_
  rintro e w1 ⟨x, rfl, x0, x1, -, rd, mv⟩
  obtain ⟨i, rfl⟩ : ∃ i : Nat, x = i := ⟨x.toNat, by omega⟩
  have hi : i < len := by have := x1 (by omega); omega
  obtain ⟨z, hz⟩ := hl i hi
  have ez : w1.cell? ⟨L, i, none⟩ = some (.int .i64 z) := (mv.cell (p := ⟨L, i, none⟩) hL hn).trans hz
  clear x0 x1 hl hz h
  go_wp2
  go_ret
  exact ⟨z, rfl, rd, mv⟩

theorem num_lit (R c : Nat) (cs : Array Value) (w : World) (q : Nat) (hq : q = w.heap.size) (h : Rd R c w) (hc : c ≤ 1000) (hcs : ∀ v ∈ cs.toList, ∃ z : Int, v = .int .i64 z) (l1 : 1 ≤ cs.size) (l2 : cs.size ≤ 1000) (n : Nat) (hn : n = cs.size) :
    Calls Tryd.prog 115 #[.pointer (some ⟨R, 0, none⟩), .slice (some ⟨q, 0, none⟩) n n] (w.alloc (.cells cs 3)) fun e w' => ∃ z : Int, e = .returned (.int .i64 z) ∧ Rd R (c + 1) w' ∧ Moved R w w' := by
  subst hq hn
  have hs := h.size
  refine (num_any R c w.heap.size cs.size cs.size _ (h.alloc _) hc (by simp) (by omega) l1 l2 (ints_of hcs)).mono ?_
  rintro e w' ⟨z, rfl, rd, mv⟩
  exact ⟨z, rfl, rd, (Moved.alloc R w _).trans mv⟩

theorem boxM {R : Nat} {w w1 : World} {a b c : Value} {t : TypeId} (mv : Moved R (w.alloc (.cells #[a, b, c] t)) w1) (hR : R < w.heap.size) :
    w1.cell? ⟨w.heap.size, 0, none⟩ = some a ∧ w1.cell? ⟨w.heap.size, 1, none⟩ = some b ∧ w1.cell? ⟨w.heap.size, 2, none⟩ = some c ∧
    w1.frozen? ⟨w.heap.size, 0, none⟩ = false ∧ w1.frozen? ⟨w.heap.size, 1, none⟩ = false ∧ w1.frozen? ⟨w.heap.size, 2, none⟩ = false ∧ w.heap.size < w1.heap.size ∧ Moved R w w1 := by
  refine ⟨?_, ?_, ?_, ?_, ?_, ?_, ?_, (Moved.alloc R w _).trans mv⟩
  · rw [mv.cell (p := ⟨w.heap.size, 0, none⟩) (by simp) (by simp; omega)]; simp
  · rw [mv.cell (p := ⟨w.heap.size, 1, none⟩) (by simp) (by simp; omega)]; simp
  · rw [mv.cell (p := ⟨w.heap.size, 2, none⟩) (by simp) (by simp; omega)]; simp
  · rw [mv.frozen (p := ⟨w.heap.size, 0, none⟩) (by simp) (by simp; omega)]; simp
  · rw [mv.frozen (p := ⟨w.heap.size, 1, none⟩) (by simp) (by simp; omega)]; simp
  · rw [mv.frozen (p := ⟨w.heap.size, 2, none⟩) (by simp) (by simp; omega)]; simp
  · have := mv.size; simp at this; omega

theorem set3 {R c c' : Nat} {w w1 : World} (rd : Rd R c w1) (mv : Moved R w w1) (hR : R < w.heap.size) (hc : c ≤ c') (q : Nat) (hq : w.heap.size ≤ q) (a b d : Value) :
    Rd R c' (((w1.setCell ⟨q, 0, none⟩ a).setCell ⟨q, 1, none⟩ b).setCell ⟨q, 2, none⟩ d) ∧ Moved R w (((w1.setCell ⟨q, 0, none⟩ a).setCell ⟨q, 1, none⟩ b).setCell ⟨q, 2, none⟩ d) :=
  ⟨(((rd.mono hc).setCell (by show R < q; omega) _).setCell (by show R < q; omega) _).setCell (by show R < q; omega) _,
    ((mv.setCell (by show _ ≤ q; omega) _).setCell (by show _ ≤ q; omega) _).setCell (by show _ ≤ q; omega) _⟩

end Go.Proofs.YtdhoimjkgicneaaDoor

/- How a return is met. -/
namespace Go.Proofs.YtdhoimjkgicneaaDoor
open Go Go.RowKit

theorem ret_bool {a b : Bool} (h : a = b) : Ending.returned (.bool a) = .returned (.bool b) := by rw [h]
theorem ret_int {k : IntKind} {a b : Int} (h : a = b) : Ending.returned (.int k a) = .returned (.int k b) := by rw [h]
theorem ret_str {a b : ByteArray} (h : a = b) : Ending.returned (.string a) = .returned (.string b) := by rw [h]

end Go.Proofs.YtdhoimjkgicneaaDoor

/- A code: a slice of bytes as it comes in. -/
namespace Go.Proofs.YtdhoimjkgicneaaDoor
open Go Go.RowKit

/-- A value that is a slice of bytes, as it lies before the call. -/
def CodeAt (v : Value) (w : World) : Prop :=
  (∃ b off len cap : Nat, v = .slice (some ⟨b, off, none⟩) len cap ∧ b < w.heap.size ∧ 1 ≤ len ∧ len ≤ cap ∧ cap ≤ 9223372036854775807 ∧ ∀ i, i < len → ∃ x : Nat, x ≤ 255 ∧ w.cell? ⟨b, off + i, none⟩ = some (.int .u8 x)) ∨ (∃ (a : Option Addr) (cap : Nat), v = .slice a 0 cap)

theorem CodeAt.below {v : Value} {w w' : World} (h : CodeAt v w) (hb : Below w.heap.size w w') : CodeAt v w' := by
  rcases h with ⟨b, off, len, cap, rfl, hz, h1, h2, h3, he⟩ | ⟨a, cap, rfl⟩
  · refine Or.inl ⟨b, off, len, cap, rfl, Nat.lt_of_lt_of_le hz hb.size, h1, h2, h3, fun i hi => ?_⟩
    obtain ⟨x, hx, ex⟩ := he i hi
    exact ⟨x, hx, (hb.cell (p := ⟨b, off + i, none⟩) hz).trans ex⟩
  · exact Or.inr ⟨a, cap, rfl⟩

end Go.Proofs.YtdhoimjkgicneaaDoor
