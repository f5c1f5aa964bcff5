/- Texts of this proof laid together: DevC, DevE, Dev1. -/
import Derived.Test.YtdhoimjkgicneacGreatDoorLot7
import Derived.Deep.RegionWith
import Derived.Test.YtdhoimjkgicneacGreatDoorLot1
/- What the specification's DevOk does at devices, and its words. -/
namespace Go.Proofs.YtdhoimjkgicneacGreatDoor
open Go Go.RowKit

set_option maxHeartbeats 400000 in
theorem spec_okdev (k n p : Int) (w : World) (hk : k < 11 ∨ 13 < k) :
    Calls Tryz.prog 83 #[.agg #[.int .i64 k, .int .i64 n, .int .i64 p]] w fun e w' => e = .returned (.bool (okB k n p)) ∧ Below w.heap.size w w' := by
  have hok : okB k n p = decide (0 ≤ n ∧ n < sizeZ k ∧ p = 0) := by unfold okB; rw [if_neg (by omega), if_neg (by omega), if_neg (by omega)]
  have HK : Hid (okB k n p = decide (0 ≤ n ∧ n < sizeZ k ∧ p = 0)) := hok
  clear hok
  have b1 : (k == 11) = false := by simp; omega
  have b2 : (k == 12) = false := by simp; omega
  have b3 : (k == 13) = false := by simp; omega
  clear hk
  by_cases h0 : 0 ≤ n
  · have hd : decide (0 ≤ n) = true := by simpa using h0
    by_cases h1 : n < sizeZ k
    · have hd1 : decide (n < sizeZ k) = true := by simpa using h1
      go_enter Tryz.func83, Tryz.ntmps83
      go_wp2
      go_quiet ((go_at_call 52; exact Calls.quiet_of_same (spec_size _ _)))
      go_wp2
      go_ret
      exact ⟨ret_bool (by rw [HK.out, Bool.eq_iff_iff]; simp; omega), below_drewN ((Below.refl _ _).alloc (Nat.le_refl _) _) _⟩
    · have hd1 : decide (n < sizeZ k) = false := by simpa using h1
      go_enter Tryz.func83, Tryz.ntmps83
      go_wp2
      go_quiet ((go_at_call 52; exact Calls.quiet_of_same (spec_size _ _)))
      go_wp2
      go_ret
      exact ⟨ret_bool (by rw [HK.out, Bool.eq_iff_iff]; simp; omega), below_drewN ((Below.refl _ _).alloc (Nat.le_refl _) _) _⟩
  · have hd : decide (0 ≤ n) = false := by simpa using h0
    go_enter Tryz.func83, Tryz.ntmps83
    go_wp2
    go_quiet ((go_at_call 52; exact Calls.quiet_of_same (spec_size _ _)))
    go_wp2
    go_ret
    exact ⟨ret_bool (by rw [HK.out, Bool.eq_iff_iff]; simp; omega), below_drewN ((Below.refl _ _).alloc (Nat.le_refl _) _) _⟩

theorem spec_ok (k n p : Int) (w : World) :
    Calls Tryz.prog 83 #[.agg #[.int .i64 k, .int .i64 n, .int .i64 p]] w fun e w' => e = .returned (.bool (okB k n p)) ∧ Below w.heap.size w w' := by
  by_cases h1 : k = 11
  · subst h1; exact spec_ok11 n p w
  by_cases h2 : k = 12
  · subst h2; exact spec_ok12 n p w
  by_cases h3 : k = 13
  · subst h3; exact spec_ok13 n p w
  exact spec_okdev k n p w (by omega)

end Go.Proofs.YtdhoimjkgicneacGreatDoor

/- What the program's own table of kinds answers. -/
namespace Go.Proofs.YtdhoimjkgicneacGreatDoor
open Go Go.RowKit

theorem box3w (w : World) (a b c : Value) (t : TypeId) {W w1 : World} (hb : Below W.heap.size W w1) (hW : W.heap = (w.alloc (.cells #[a, b, c] t)).heap) :
    w1.cell? ⟨w.heap.size, 0, none⟩ = some a ∧ w1.cell? ⟨w.heap.size, 1, none⟩ = some b ∧ w1.cell? ⟨w.heap.size, 2, none⟩ = some c ∧ w.heap.size < w1.heap.size := by
  have hz : w.heap.size < W.heap.size := by rw [hW]; simp
  have hc : ∀ i, w1.cell? ⟨w.heap.size, i, none⟩ = (w.alloc (.cells #[a, b, c] t)).cell? ⟨w.heap.size, i, none⟩ := fun i => by
    rw [hb.cell (p := ⟨w.heap.size, i, none⟩) hz]
    exact World.cell?_of_block (by rw [hW])
  refine ⟨?_, ?_, ?_, ?_⟩
  · rw [hc]; simp
  · rw [hc]; simp
  · rw [hc]; simp
  · have := hb.size; omega

theorem past {w : World} {a : Addr} {v : Value} (h : w.cell? a = some v) (hz : a.block < w.heap.size) (o : Obj) : (w.alloc o).cell? a = some v := by
  rw [← h]; exact World.cell?_of_block (w := w) (Below.heap_alloc _ _ _ hz)

set_option maxHeartbeats 400000 in
theorem kind_in (k : Nat) (w : World) (h1 : 1 ≤ k) (h2 : k ≤ 13) (s : ByteArray) (z : Int) (x y r : Bool) (hz : 5 < w.heap.size)
    (c0 : w.cell? ⟨5, k * 5, none⟩ = some (.string s)) (c1 : w.cell? ⟨5, k * 5 + 1, none⟩ = some (.int .i64 z))
    (c2 : w.cell? ⟨5, k * 5 + 2, none⟩ = some (.bool x)) (c3 : w.cell? ⟨5, k * 5 + 3, none⟩ = some (.bool y)) (c4 : w.cell? ⟨5, k * 5 + 4, none⟩ = some (.bool r)) :
    Calls Tryz.prog 110 #[.int .i64 k] w fun e w' => e = .returned (.agg #[.string s, .int .i64 z, .bool x, .bool y, .bool r]) ∧ Below w.heap.size w w' := by
  have d0 := past c0 hz
  have d1 := past c1 hz
  have d2 := past c2 hz
  have d3 := past c3 hz
  have d4 := past c4 hz
  clear c0 c1 c2 c3 c4
  go_enter Tryz.func110, Tryz.ntmps110
  go_wp2
  exact bodyPost_ret (v := .agg #[.string s, .int .i64 z, .bool x, .bool y, .bool r]) (by simp [results, Tryz.results110, go_sem]) rfl ⟨rfl, (Below.refl _ _).alloc (Nat.le_refl _) _⟩

set_option maxHeartbeats 400000 in
theorem kind_out (k : Int) (w : World) (h : k < 1 ∨ 13 < k) :
    Calls Tryz.prog 110 #[.int .i64 k] w fun e w' => e = .returned (.agg #[.string ⟨#[]⟩, .int .i64 0, .bool false, .bool false, .bool false]) ∧ Below w.heap.size w w' := by
  rcases h with h | h
  all_goals
    go_enter Tryz.func110, Tryz.ntmps110
    go_wp2
    exact bodyPost_ret (v := .agg #[.string ⟨#[]⟩, .int .i64 0, .bool false, .bool false, .bool false]) (by simp [results, Tryz.results110, go_sem]) rfl ⟨rfl, (Below.refl _ _).alloc (Nat.le_refl _) _⟩

end Go.Proofs.YtdhoimjkgicneacGreatDoor

/- Which kinds are bits, whole numbers and real numbers, apart from any program. -/
namespace Go.Proofs.YtdhoimjkgicneacGreatDoor
open Go
def bitB (k : Int) : Bool := decide (k = 1 ∨ k = 2 ∨ k = 3 ∨ k = 4 ∨ k = 6 ∨ k = 7 ∨ k = 8)
def wholeB (k : Int) : Bool := decide (k = 7 ∨ k = 8 ∨ k = 9 ∨ k = 11)
def realB (k : Int) : Bool := decide (k = 10 ∨ k = 12 ∨ k = 13)
theorem bitB_out {k : Int} (h : k < 1 ∨ 13 < k) : bitB k = false := by unfold bitB; simp; omega
theorem wholeB_out {k : Int} (h : k < 1 ∨ 13 < k) : wholeB k = false := by unfold wholeB; simp; omega
theorem realB_out {k : Int} (h : k < 1 ∨ 13 < k) : realB k = false := by unfold realB; simp; omega
end Go.Proofs.YtdhoimjkgicneacGreatDoor
