/- Texts of this proof laid together: CodeA, DrawO, NumA0. -/
import Derived.Test.YtdhoimjkgicneaaGreatDoorLot3
/- A code: a slice of bytes as it comes in. -/
namespace Go.Proofs.YtdhoimjkgicneaaGreatDoor
open Go Go.RowKit

/-- A value that is a slice of bytes, as it lies before the call. -/
def CodeAt (v : Value) (w : World) : Prop :=
  (∃ b off len cap : Nat, v = .slice (some ⟨b, off, none⟩) len cap ∧ b < w.heap.size ∧ 1 ≤ len ∧ len ≤ cap ∧ cap ≤ 9223372036854775807 ∧ ∀ i, i < len → ∃ x : Nat, x ≤ 255 ∧ w.cell? ⟨b, off + i, none⟩ = some (.int .u8 x)) ∨ (∃ (a : Option Addr) (cap : Nat), v = .slice a 0 cap)

theorem CodeAt.below {v : Value} {w w' : World} (h : CodeAt v w) (hb : Below w.heap.size w w') : CodeAt v w' := by
  rcases h with ⟨b, off, len, cap, rfl, hz, h1, h2, h3, he⟩ | ⟨a, cap, rfl⟩
  · refine Or.inl ⟨b, off, len, cap, rfl, Nat.lt_of_lt_of_le hz hb.size, h1, h2, h3, fun i hi => ?_⟩
    obtain ⟨x, hx, ex⟩ := he i hi
    exact ⟨x, hx, (hb.cell (p := ⟨b, off + i, none⟩) hz).trans ex⟩
  · exact Or.inr ⟨a, cap, rfl⟩

end Go.Proofs.YtdhoimjkgicneaaGreatDoor

/- How a drawn code is opened. -/
namespace Go.Proofs.YtdhoimjkgicneaaGreatDoor
open Go Go.RowKit

theorem rd_new {w : World} {b off len cap : Nat} (hz : b < w.heap.size) (h1 : 1 ≤ len) (h2 : len ≤ 2000) (he : ∀ i, i < len → ∃ x : Nat, x ≤ 255 ∧ w.cell? ⟨b, off + i, none⟩ = some (.int .u8 x)) (t : TypeId) :
    Rd w.heap.size 0 (w.alloc (.cells #[.slice (some ⟨b, off, none⟩) len cap, .int .i64 0] t)) := by
  refine Or.inl ⟨b, off, len, cap, 0, Nat.le_refl _, by simp, hz, by simp, by simp, by simp, ?_, h1, h2⟩
  intro i hi
  obtain ⟨x, hx, ex⟩ := he i hi
  refine ⟨x, hx, ?_⟩
  rw [← ex]; exact World.cell?_of_block (w := w) (Below.heap_alloc _ _ _ hz)

theorem rd_no {w : World} {a : Option Addr} {cap : Nat} (t : TypeId) : Rd w.heap.size 0 (w.alloc (.cells #[.slice a 0 cap, .int .i64 0] t)) :=
  Or.inr ⟨0, Nat.le_refl _, by simp, ⟨a, cap, by simp⟩, by simp, by simp⟩

set_option maxHeartbeats 400000 in
theorem open_any (v : Value) (w : World) (h : CodeAt v w) :
    Calls Tryz.prog 11 #[v] w fun e w' => e = .returned (.pointer (some ⟨w.heap.size, 0, none⟩)) ∧ Rd w.heap.size 0 w' ∧ Below w.heap.size w w' := by
  rcases h with ⟨b, off, len, cap, rfl, hz, h1, h2, h3, he⟩ | ⟨a, cap, rfl⟩
  · by_cases hl : len ≤ 2000
    · go_enter Tryz.func11, Tryz.ntmps11
      go_wp2
      go_ret
      exact ⟨rfl, rd_new hz h1 hl he _, (Below.refl _ _).alloc (Nat.le_refl _) _⟩
    · go_enter Tryz.func11, Tryz.ntmps11
      go_wp2
      go_ret
      exact ⟨rfl, rd_new hz (by omega) (by omega) (fun i hi => he i (by omega)) _, (Below.refl _ _).alloc (Nat.le_refl _) _⟩
  · go_enter Tryz.func11, Tryz.ntmps11
    go_wp2
    go_ret
    exact ⟨rfl, rd_no _, (Below.refl _ _).alloc (Nat.le_refl _) _⟩

end Go.Proofs.YtdhoimjkgicneaaGreatDoor

/- A drawn whole number of sixteen bits. -/
namespace Go.Proofs.YtdhoimjkgicneaaGreatDoor
open Go Go.RowKit

theorem wrap16 (z : Int) : IntKind.i16.wrap z = (z + 32768) % 65536 - 32768 := by
  simp [IntKind.wrap, IntKind.signed, IntKind.bits]
  omega

theorem i16_bd (z : Int) : -32768 ≤ IntKind.i16.wrap z ∧ IntKind.i16.wrap z ≤ 32767 := by
  rw [wrap16]
  omega

set_option maxHeartbeats 400000 in
theorem whole_any (R c : Nat) (w : World) (h : Rd R c w) (hc : c ≤ 900) :
    Calls Tryz.prog 27 #[.pointer (some ⟨R, 0, none⟩)] w fun e w' => ∃ z : Int, e = .returned (.int .i16 z) ∧ -32768 ≤ z ∧ z ≤ 32767 ∧ Rd R (c + 2) w' ∧ Moved R w w' := by
  go_enter Tryz.func27, Tryz.ntmps27
  go_wp2_with fail
  refine (pick_any R c 4 w h (by omega) (by omega)).mono ?_
  rintro e w1 ⟨x, rfl, x0, -, -, rd1, mv1⟩
  clear h
  cases hx : x == 0 with
  | true =>
    go_wp2_with fail
    refine (num_lit R (c + 1) _ _ _ (by simp) rd1 (by omega) (by simp) (by simp) (by simp) 10 rfl).mono ?_
    rintro e w2 ⟨z, rfl, rd2, mv2⟩
    have hb := i16_bd z
    clear rd1
    go_wp2
    go_ret
    exact ⟨_, rfl, hb.1, hb.2, rd2, mv1.trans mv2⟩
  | false =>
    go_wp2_with fail
    refine (pick_any R (c + 1) 65536 w1 rd1 (by omega) (by omega)).mono ?_
    rintro e w2 ⟨y, rfl, y0, y1, -, rd2, mv2⟩
    have hy : y < 65536 := y1 (by omega)
    clear rd1 y1
    go_wp2
    go_ret
    exact ⟨_, rfl, by omega, by omega, rd2, mv1.trans mv2⟩

end Go.Proofs.YtdhoimjkgicneaaGreatDoor
