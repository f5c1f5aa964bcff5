/- The program's copy of a slot. -/
import Derived.Test.YtdhoimjkgicneacHolB0
namespace Go.Proofs.Ytdhoimjkgicneac
open Go Go.RowKit

set_option maxHeartbeats 800000 in
/-- The program's copy of a slot. -/
theorem copy_any (m t : Int) (d : Value) (xs : List Nat) (w : World) (hd : BytesAt d xs w) (hl : xs.length ≤ 8000000) :
    Calls Try.prog 59 #[.agg #[.int .u8 m, .int .u8 t, d]] w fun e w' => ∃ d', e = .returned (.agg #[.int .u8 m, .int .u8 t, d']) ∧ Own w.heap.size d' xs w' ∧ Below w.heap.size w w' := by
  obtain ⟨ao, cap, rfl⟩ := hd.len
  go_enter Try.func59, Try.ntmps59
  go_wp2_with (at_builtin; refine list_app (ys := xs) (w.heap.size) rfl _ _ rfl rfl rfl (own_nil _ _) ?c1 ?c2 ?c3 ?c4)
  case c1 => exact hd.below (((Below.refl w.heap.size w).alloc (Nat.le_refl _) _).alloc (by simp) _) (Nat.le_refl _)
  case c2 => simpa using hl
  case c3 => simp; omega
  intro d' w1 ho hg ha
  have hs : w.heap.size + 2 ≤ w1.heap.size := by have := hg.size; simp at this; omega
  have k : ∀ (b o : Nat), b < w.heap.size + 2 → w1.cell? ⟨b, o, none⟩ = ((w.alloc (Obj.cells #[Value.int IntKind.u8 m, Value.int IntKind.u8 t, Value.slice ao xs.length cap] 30)).alloc (Obj.cells #[Value.int IntKind.u8 0, Value.int IntKind.u8 0, Value.slice none 0 0] 30)).cell? ⟨b, o, none⟩ := fun b o hb => grown_cell hg (by simp; omega) (by simp [Value.ownBlock])
  have z : ∀ (b o : Nat), b < w.heap.size + 2 → w1.frozen? ⟨b, o, none⟩ = ((w.alloc (Obj.cells #[Value.int IntKind.u8 m, Value.int IntKind.u8 t, Value.slice ao xs.length cap] 30)).alloc (Obj.cells #[Value.int IntKind.u8 0, Value.int IntKind.u8 0, Value.slice none 0 0] 30)).frozen? ⟨b, o, none⟩ := fun b o hb => grown_frozen hg (by simp; omega) (by simp [Value.ownBlock])
  have k0 : w1.cell? ⟨w.heap.size, 0, none⟩ = some (.int .u8 m) := by rw [k _ _ (by omega)]; simp
  have k1 : w1.cell? ⟨w.heap.size, 1, none⟩ = some (.int .u8 t) := by rw [k _ _ (by omega)]; simp
  have k2 : w1.cell? ⟨w.heap.size, 2, none⟩ = some (.slice ao xs.length cap) := by rw [k _ _ (by omega)]; simp
  have r0 : w1.cell? ⟨w.heap.size + 1, 0, none⟩ = some (.int .u8 0) := by rw [k _ _ (by omega)]; simp
  have r1 : w1.cell? ⟨w.heap.size + 1, 1, none⟩ = some (.int .u8 0) := by rw [k _ _ (by omega)]; simp
  have r2 : w1.cell? ⟨w.heap.size + 1, 2, none⟩ = some (.slice none 0 0) := by rw [k _ _ (by omega)]; simp
  have z2 : w1.frozen? ⟨w.heap.size, 2, none⟩ = false := by rw [z _ _ (by omega)]; simp
  have f0 : w1.frozen? ⟨w.heap.size + 1, 0, none⟩ = false := by rw [z _ _ (by omega)]; simp
  have f1 : w1.frozen? ⟨w.heap.size + 1, 1, none⟩ = false := by rw [z _ _ (by omega)]; simp
  have f2 : w1.frozen? ⟨w.heap.size + 1, 2, none⟩ = false := by rw [z _ _ (by omega)]; simp
  have H : Hid (Own w.heap.size d' xs w1 ∧ (d'.ownBlock = none ∨ d'.ownBlock = some (w.heap.size + 2)) ∧ Below w.heap.size w w1) := by
    refine ⟨ho, ?_, (((Below.refl w.heap.size w).alloc (Nat.le_refl _) _).alloc (by simp) _).trans (grown_below hg (by simp; omega) (by simp [Value.ownBlock]))⟩
    rcases ha with ha | ha
    · exact Or.inl ha
    · exact Or.inr ha
  obtain ⟨ao', cap', rfl⟩ := own_size ho
  clear ho hg ha k z hd
  go_wp2_with fail
  have hn : ∀ b, b < w.heap.size + 2 → (Value.slice ao' xs.length cap').ownBlock ≠ some b := by
    intro b hb
    rcases H.out.2.1 with h | h
    · rw [h]; simp
    · rw [h]; simp; omega
  exact bodyPost_ret (v := .agg #[.int .u8 m, .int .u8 t, .slice ao' xs.length cap']) (by simp [results, Try.results59, go_sem, r0, r1, r2]) rfl
    ⟨_, rfl, (((H.out.1.setCell (hn _ (by show w.heap.size < _; omega)) _).setCell (hn _ (by show w.heap.size + 1 < _; omega)) _).setCell (hn _ (by show w.heap.size + 1 < _; omega)) _).setCell (hn _ (by show w.heap.size + 1 < _; omega)) _, (((H.out.2.2.setCell (Nat.le_refl _) _).setCell (by show _ ≤ w.heap.size + 1; omega) _).setCell (by show _ ≤ w.heap.size + 1; omega) _).setCell (by show _ ≤ w.heap.size + 1; omega) _⟩

end Go.Proofs.Ytdhoimjkgicneac
