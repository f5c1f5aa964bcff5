/- The laws' marks over a store, and the marks held against. -/
import Derived.Test.YtdhoimjkgicneacHelE
namespace Go.Proofs.Ytdhoimjkgicneac
open Go Go.RowKit

set_option maxRecDepth 100000 in
set_option maxHeartbeats 800000 in
theorem mark_slot (base : Nat) (m t : Int) (d : Value) (xs : List Nat) (k : Nat) (w : World) (h : Own base d xs w) (hx : xs.length ≤ 100000000) (hk : k ≤ 100000000000) :
    Calls Try.prog 49 #[.agg #[.int .u8 m, .int .u8 t, d], .int .i64 k] w fun e w' => e = .returned (.int .i64 ((k + xs.length : Nat) : Int)) ∧ Own base d (marks k xs.length) w' ∧ Touch (fun b => d.ownBlock = some b) w w' := by
  have b0 : Below w.heap.size w (w.alloc (.cells #[.int .u8 m, .int .u8 t, d] 30)) := (Below.refl w.heap.size w).alloc (Nat.le_refl _) _
  have M := mark_bytesT base d xs k _ (h.below b0 (Nat.le_refl _)) hx hk
  have HB : Hid (Below w.heap.size w _) := b0
  obtain ⟨ad, cd, rfl⟩ := own_size h
  clear h b0
  obtain ⟨z, hz⟩ : ∃ z : Int, z = ((k + xs.length : Nat) : Int) := ⟨_, rfl⟩
  rw [← hz] at M ⊢
  clear hz
  go_enter Try.func49, Try.ntmps49
  go_wp2_with fail
  refine M.mono ?_
  rintro e w1 ⟨rfl, o1, t1⟩
  have H1 : Hid (Own base (.slice ad xs.length cd) (marks k xs.length) w1 ∧ Touch (fun b => (Value.slice ad xs.length cd).ownBlock = some b) w w1) := ⟨o1, (Touch.of_below HB.out).trans t1⟩
  clear o1 t1 M HB
  go_wp2_with fail
  go_ret
  exact ⟨rfl, H1.out.1, H1.out.2⟩

set_option maxRecDepth 100000 in
set_option maxHeartbeats 800000 in
theorem held_slot (m t : Int) (v : Value) (n k : Nat) (w : World) (h : BytesAt v (marks k n) w) (hx : n ≤ 100000000) (hk : k ≤ 100000000000) :
    Calls Try.prog 50 #[.agg #[.int .u8 m, .int .u8 t, v], .int .i64 k] w fun e w' => e = .returned (.int .i64 ((k + n : Nat) : Int)) ∧ Below w.heap.size w w' := by
  have b0 : Below w.heap.size w (w.alloc (.cells #[.int .u8 m, .int .u8 t, v] 30)) := (Below.refl w.heap.size w).alloc (Nat.le_refl _) _
  have M := held_bytes v n k _ (h.below b0 (Nat.le_refl _)) hx hk
  have HB : Hid (Below w.heap.size w _) := b0
  obtain ⟨ad, cd, rfl⟩ := h.len
  clear h b0
  obtain ⟨z, hz⟩ : ∃ z : Int, z = ((k + n : Nat) : Int) := ⟨_, rfl⟩
  have h0 : 0 ≤ z := by omega
  rw [← hz] at M ⊢
  clear hz
  go_enter Try.func50, Try.ntmps50
  go_wp2_with fail
  refine M.mono ?_
  rintro e w1 ⟨rfl, rfl⟩
  clear M
  have h0' : ¬ z < 0 := by omega
  go_wp2_with fail
  go_ret
  exact ⟨rfl, HB.out⟩

set_option maxRecDepth 100000 in
set_option maxHeartbeats 800000 in
theorem mark_rom (base : Nat) (m t m' t' : Int) (d d' : Value) (xs ys : List Nat) (k : Nat) (w : World) (h : Own base d xs w) (h' : Own base d' ys w) (hs : ∀ g, d.ownBlock = some g → d'.ownBlock ≠ some g) (hx : xs.length ≤ 100000000) (hy : ys.length ≤ 100000000) (hk : k ≤ 1000000000) :
    Calls Try.prog 17 #[.agg #[.int .u8 m, .int .u8 t, d, .int .u8 m', .int .u8 t', d'], .int .i64 k] w fun e w' => e = .returned (.int .i64 ((k + xs.length + ys.length : Nat) : Int)) ∧ Own base d (marks k xs.length) w' ∧ Own base d' (marks (k + xs.length) ys.length) w' ∧ Touch (fun b => d.ownBlock = some b ∨ d'.ownBlock = some b) w w' := by
  obtain ⟨W, hW⟩ : ∃ W, W = w.alloc (.cells #[.int .u8 m, .int .u8 t, d, .int .u8 m', .int .u8 t', d'] 32) := ⟨_, rfl⟩
  have b0 : Below w.heap.size w W := by rw [hW]; exact (Below.refl w.heap.size w).alloc (Nat.le_refl _) _
  have zW : W.heap.size = w.heap.size + 1 := by rw [hW]; simp
  have cW : ∀ k u, #[.int .u8 m, .int .u8 t, d, .int .u8 m', .int .u8 t', d'][k]? = some u → W.cell? ⟨w.heap.size, k, none⟩ = some u := fun k u hu => by rw [hW]; exact cell_lastH rfl hu
  have M := mark_slot base m t d xs k W (h.below b0 (Nat.le_refl _)) hx (by omega)
  have HD : Hid (Own base d' ys W ∧ (∀ g, d.ownBlock = some g → d'.ownBlock ≠ some g) ∧ Below w.heap.size w W ∧ d.ownBlock ≠ some w.heap.size) := ⟨h'.below b0 (Nat.le_refl _), hs, b0, fun e => by have := (World.ownsRow.lt h _ e).2; omega⟩
  obtain ⟨ad, cd, rfl⟩ := own_size h
  obtain ⟨ad', cd', rfl⟩ := own_size h'
  obtain ⟨z, hz⟩ : ∃ z, z = k + xs.length := ⟨_, rfl⟩
  have hz2 : z ≤ 100000000000 := by omega
  rw [← hz] at M ⊢
  obtain ⟨y, hy1⟩ : ∃ y : Int, y = ((z + ys.length : Nat) : Int) := ⟨_, rfl⟩
  rw [← hy1]
  have HY : Hid (y = ((z + ys.length : Nat) : Int)) := hy1
  clear h h' b0 hs hz hy1
  go_enter Try.func17, Try.ntmps17
  go_wp2_with fail
  rw [← hW]
  clear hW
  refine M.mono ?_
  rintro e w1 ⟨rfl, o1, t1⟩
  clear M
  have a3 := (t1.cell (a := ⟨w.heap.size, 3, none⟩) (by show w.heap.size < _; omega) HD.out.2.2.2).trans (cW 3 _ rfl)
  have a4 := (t1.cell (a := ⟨w.heap.size, 4, none⟩) (by show w.heap.size < _; omega) HD.out.2.2.2).trans (cW 4 _ rfl)
  have a5 := (t1.cell (a := ⟨w.heap.size, 5, none⟩) (by show w.heap.size < _; omega) HD.out.2.2.2).trans (cW 5 _ rfl)
  have o2 := HD.out.1.touch t1 fun g _ _ h2 h3 => HD.out.2.1 g h3 h2
  have M2 := mark_slot base m' t' _ ys z w1 o2 hy hz2
  rw [← HY.out] at M2
  have H1 : Hid (Own base (.slice ad xs.length cd) (marks k xs.length) w1 ∧ Touch (fun b => (Value.slice ad xs.length cd).ownBlock = some b) w w1) := ⟨o1, (Touch.of_below HD.out.2.2.1).trans t1⟩
  clear o1 o2 t1 cW zW
  go_wp2_with fail
  refine M2.mono ?_
  rintro e w2 ⟨rfl, o3, t3⟩
  have H2 : Hid (Own base (.slice ad xs.length cd) (marks k xs.length) w2 ∧ Own base (.slice ad' ys.length cd') (marks z ys.length) w2 ∧ Touch (fun b => (Value.slice ad xs.length cd).ownBlock = some b ∨ (Value.slice ad' ys.length cd').ownBlock = some b) w w2) := by
    refine ⟨H1.out.1.kept fun g hg => t3.block g (World.ownsRow.lt H1.out.1 g hg).2 (HD.out.2.1 g hg), o3, (H1.out.2.mono fun _ _ h => Or.inl h).trans (t3.mono fun _ _ h => Or.inr h)⟩
  clear o3 t3 M2 H1 a3 a4 a5
  go_wp2_with fail
  go_ret
  exact ⟨rfl, H2.out.1, H2.out.2.1, H2.out.2.2⟩

set_option maxRecDepth 100000 in
set_option maxHeartbeats 800000 in
theorem held_rom (m t m' t' : Int) (d d' : Value) (n n' k : Nat) (w : World) (h : BytesAt d (marks k n) w) (h' : BytesAt d' (marks (k + n) n') w) (hx : n ≤ 100000000) (hy : n' ≤ 100000000) (hk : k ≤ 1000000000) :
    Calls Try.prog 18 #[.agg #[.int .u8 m, .int .u8 t, d, .int .u8 m', .int .u8 t', d'], .int .i64 k] w fun e w' => e = .returned (.int .i64 ((k + n + n' : Nat) : Int)) ∧ Below w.heap.size w w' := by
  obtain ⟨W, hW⟩ : ∃ W, W = w.alloc (.cells #[.int .u8 m, .int .u8 t, d, .int .u8 m', .int .u8 t', d'] 32) := ⟨_, rfl⟩
  have b0 : Below w.heap.size w W := by rw [hW]; exact (Below.refl w.heap.size w).alloc (Nat.le_refl _) _
  have zW : W.heap.size = w.heap.size + 1 := by rw [hW]; simp
  have cW : ∀ k u, #[.int .u8 m, .int .u8 t, d, .int .u8 m', .int .u8 t', d'][k]? = some u → W.cell? ⟨w.heap.size, k, none⟩ = some u := fun k u hu => by rw [hW]; exact cell_lastH rfl hu
  have M := held_slot m t d n k W (h.below b0 (Nat.le_refl _)) hx (by omega)
  obtain ⟨z, hz⟩ : ∃ z, z = k + n := ⟨_, rfl⟩
  have hz2 : z ≤ 100000000000 := by omega
  have hz0 : ¬ ((z : Nat) : Int) < 0 := by omega
  rw [← hz] at M h' ⊢
  obtain ⟨y, hy1⟩ : ∃ y : Int, y = ((z + n' : Nat) : Int) := ⟨_, rfl⟩
  have hy0 : ¬ y < 0 := by omega
  rw [← hy1]
  have HY : Hid (y = ((z + n' : Nat) : Int)) := hy1
  have HD : Hid (BytesAt d' (marks z n') W ∧ Below w.heap.size w W) := ⟨h'.below b0 (Nat.le_refl _), b0⟩
  obtain ⟨ad, cd, rfl⟩ := h.len
  obtain ⟨ad', cd', rfl⟩ := h'.len
  clear h h' b0 hz hy1
  go_enter Try.func18, Try.ntmps18
  go_wp2_with fail
  rw [← hW]
  clear hW
  refine M.mono ?_
  rintro e w1 ⟨rfl, b1⟩
  clear M
  have a3 := (b1.cell (p := ⟨w.heap.size, 3, none⟩) (by show w.heap.size < _; omega)).trans (cW 3 _ rfl)
  have a4 := (b1.cell (p := ⟨w.heap.size, 4, none⟩) (by show w.heap.size < _; omega)).trans (cW 4 _ rfl)
  have a5 := (b1.cell (p := ⟨w.heap.size, 5, none⟩) (by show w.heap.size < _; omega)).trans (cW 5 _ rfl)
  have M2 := held_slot m' t' _ n' z w1 (HD.out.1.below b1 (Nat.le_refl _)) hy hz2
  rw [← HY.out] at M2
  have H1 : Hid (Below w.heap.size w w1) := HD.out.2.trans (b1.mono HD.out.2.size)
  clear b1 cW zW
  go_wp2_with fail
  refine M2.mono ?_
  rintro e w2 ⟨rfl, b2⟩
  have H2 : Hid (Below w.heap.size w w2) := H1.out.trans (b2.mono H1.out.size)
  clear b2 M2 H1 a3 a4 a5
  go_wp2_with fail
  go_ret
  exact ⟨rfl, H2.out⟩

end Go.Proofs.Ytdhoimjkgicneac
