/- What the program's own table of kinds answers. -/
import Derived.Test.YtdhoimjkgicneaaDoorDevC
import Derived.Deep.RegionWith
namespace Go.Proofs.YtdhoimjkgicneaaDoor
open Go Go.RowKit

theorem box3w (w : World) (a b c : Value) (t : TypeId) {W w1 : World} (hb : Below W.heap.size W w1) (hW : W.heap = (w.alloc (.cells #[a, b, c] t)).heap) :
    w1.cell? ⟨w.heap.size, 0, none⟩ = some a ∧ w1.cell? ⟨w.heap.size, 1, none⟩ = some b ∧ w1.cell? ⟨w.heap.size, 2, none⟩ = some c ∧ w.heap.size < w1.heap.size := by
  have hz : w.heap.size < W.heap.size := by rw [hW]; simp
  have hc : ∀ i, w1.cell? ⟨w.heap.size, i, none⟩ = (w.alloc (.cells #[a, b, c] t)).cell? ⟨w.heap.size, i, none⟩ := fun i => by
    rw [hb.cell (p := ⟨w.heap.size, i, none⟩) hz]
    exact World.cell?_of_block (by rw [hW])
  refine ⟨?_, ?_, ?_, ?_⟩
  · rw [hc]; simp
  · rw [hc]; simp
  · rw [hc]; simp
  · have := hb.size; omega

theorem past {w : World} {a : Addr} {v : Value} (h : w.cell? a = some v) (hz : a.block < w.heap.size) (o : Obj) : (w.alloc o).cell? a = some v := by
  rw [← h]; exact World.cell?_of_block (w := w) (Below.heap_alloc _ _ _ hz)

set_option maxHeartbeats 400000 in
theorem kind_in (k : Nat) (w : World) (h1 : 1 ≤ k) (h2 : k ≤ 13) (s : ByteArray) (z : Int) (x y r : Bool) (hz : 3 < w.heap.size)
    (c0 : w.cell? ⟨3, k * 5, none⟩ = some (.string s)) (c1 : w.cell? ⟨3, k * 5 + 1, none⟩ = some (.int .i64 z))
    (c2 : w.cell? ⟨3, k * 5 + 2, none⟩ = some (.bool x)) (c3 : w.cell? ⟨3, k * 5 + 3, none⟩ = some (.bool y)) (c4 : w.cell? ⟨3, k * 5 + 4, none⟩ = some (.bool r)) :
    Calls Tryd.prog 112 #[.int .i64 k] w fun e w' => e = .returned (.agg #[.string s, .int .i64 z, .bool x, .bool y, .bool r]) ∧ Below w.heap.size w w' := by
  have d0 := past c0 hz
  have d1 := past c1 hz
  have d2 := past c2 hz
  have d3 := past c3 hz
  have d4 := past c4 hz
  clear c0 c1 c2 c3 c4
  go_enter Tryd.func112, Tryd.ntmps112
  go_wp2
  exact bodyPost_ret (v := .agg #[.string s, .int .i64 z, .bool x, .bool y, .bool r]) (by simp [results, Tryd.results112, go_sem]) rfl ⟨rfl, (Below.refl _ _).alloc (Nat.le_refl _) _⟩

set_option maxHeartbeats 400000 in
theorem kind_out (k : Int) (w : World) (h : k < 1 ∨ 13 < k) :
    Calls Tryd.prog 112 #[.int .i64 k] w fun e w' => e = .returned (.agg #[.string ⟨#[]⟩, .int .i64 0, .bool false, .bool false, .bool false]) ∧ Below w.heap.size w w' := by
  rcases h with h | h
  all_goals
    go_enter Tryd.func112, Tryd.ntmps112
    go_wp2
    exact bodyPost_ret (v := .agg #[.string ⟨#[]⟩, .int .i64 0, .bool false, .bool false, .bool false]) (by simp [results, Tryd.results112, go_sem]) rfl ⟨rfl, (Below.refl _ _).alloc (Nat.le_refl _) _⟩

end Go.Proofs.YtdhoimjkgicneaaDoor
