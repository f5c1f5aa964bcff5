/- Drawn strings out of a list: of the reader alone. -/
import Derived.Test.YtdhoimjkgicneaaDoorDrawN
import Derived.Test.YtdhoimjkgicneaaDoorDev0
namespace Go.Proofs.YtdhoimjkgicneaaDoor
open Go Go.RowKit

/-- A short string. -/
def smallStr (v : Value) : Bool := match v with | .string s => decide (s.size ≤ 30) | _ => false

theorem strs_of {w : World} {cs : Array Value} {t : TypeId} (h : cs.toList.all smallStr = true) : ∀ i, i < cs.size → ∃ l : List UInt8, l.length ≤ 30 ∧ (w.alloc (.cells cs t)).cell? ⟨w.heap.size, i, none⟩ = some (.string ⟨l.toArray⟩) := by
  intro i hi
  have h1 := List.all_eq_true.1 h cs[i] (by simp)
  have h2 : ∃ l : List UInt8, l.length ≤ 30 ∧ cs[i] = .string ⟨l.toArray⟩ := by
    generalize cs[i] = v at h1
    match v, h1 with
    | .string s, h1 => exact ⟨s.data.toList, by rw [Array.length_toList]; exact of_decide_eq_true h1, rfl⟩
  obtain ⟨l, hl, e⟩ := h2
  exact ⟨l, hl, by rw [← e]; simp [hi]⟩

set_option maxHeartbeats 400000 in
theorem of_any (R c L len cap : Nat) (w : World) (h : Rd R c w) (hc : c ≤ 1000) (hL : L < w.heap.size) (hn : L ≠ R) (l1 : 1 ≤ len) (l2 : len ≤ 1000)
    (hl : ∀ i, i < len → ∃ l : List UInt8, l.length ≤ 30 ∧ w.cell? ⟨L, i, none⟩ = some (.string ⟨l.toArray⟩)) :
    Calls Tryd.prog 68 #[.pointer (some ⟨R, 0, none⟩), .slice (some ⟨L, 0, none⟩) len cap] w fun e w' => ∃ l : List UInt8, e = .returned (.string ⟨l.toArray⟩) ∧ l.length ≤ 30 ∧ Rd R (c + 1) w' ∧ Moved R w w' := by
  go_enter Tryd.func68, Tryd.ntmps68
  go_wp2_with fail
  refine (pick_any R c len w h (by omega) (by omega)).mono ?_
  rintro e w1 ⟨x, rfl, x0, x1, -, rd, mv⟩
  obtain ⟨i, rfl⟩ : ∃ i : Nat, x = i := ⟨x.toNat, by omega⟩
  have hi : i < len := by have := x1 (by omega); omega
  obtain ⟨l, hll, hz⟩ := hl i hi
  have ez : w1.cell? ⟨L, i, none⟩ = some (.string ⟨l.toArray⟩) := (mv.cell (p := ⟨L, i, none⟩) hL hn).trans hz
  clear x0 x1 hl hz h
  go_wp2
  go_ret
  exact ⟨l, rfl, hll, rd, mv⟩

theorem of_lit (R c : Nat) (cs : Array Value) (w : World) (q : Nat) (hq : q = w.heap.size) (h : Rd R c w) (hc : c ≤ 1000) (hcs : cs.toList.all smallStr = true) (l1 : 1 ≤ cs.size) (l2 : cs.size ≤ 1000) (n : Nat) (hn : n = cs.size) :
    Calls Tryd.prog 68 #[.pointer (some ⟨R, 0, none⟩), .slice (some ⟨q, 0, none⟩) n n] (w.alloc (.cells cs 9)) fun e w' => ∃ l : List UInt8, e = .returned (.string ⟨l.toArray⟩) ∧ l.length ≤ 30 ∧ Rd R (c + 1) w' ∧ Moved R w w' := by
  subst hq hn
  have hs := h.size
  refine (of_any R c w.heap.size cs.size cs.size _ (h.alloc _) hc (by simp) (by omega) l1 l2 (strs_of hcs)).mono ?_
  rintro e w' ⟨z, rfl, hz, rd, mv⟩
  exact ⟨z, rfl, hz, rd, (Moved.alloc R w _).trans mv⟩

end Go.Proofs.YtdhoimjkgicneaaDoor
