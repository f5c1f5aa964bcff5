/- The laws' copy of a store, and its sameness. -/
import Derived.Test.YtdhoimjkgicneacHelC
namespace Go.Proofs.Ytdhoimjkgicneac
open Go Go.RowKit

set_option maxRecDepth 100000 in
set_option maxHeartbeats 1600000 in
/-- The copy of a store: both its slots own their bytes, each its own. -/
theorem to_rom (m t m' t' : Int) (d d' : Value) (xs ys : List Nat) (w : World) (h : ByteArg d xs w) (h' : ByteArg d' ys w) (hx : xs.length ≤ 100000000) (hy : ys.length ≤ 100000000) :
    Calls Try.prog 13 #[.agg #[.int .u8 m, .int .u8 t, d, .int .u8 m', .int .u8 t', d']] w fun e w' => ∃ oa ob, e = .returned (.agg #[.int .u8 m, .int .u8 t, oa, .int .u8 m', .int .u8 t', ob]) ∧ Own w.heap.size oa xs w' ∧ Own w.heap.size ob ys w' ∧ (∀ g, oa.ownBlock = some g → ob.ownBlock ≠ some g) ∧ Below w.heap.size w w' := by
  have HA : Hid (ByteArg d xs w ∧ ByteArg d' ys w) := ⟨h, h'⟩
  obtain ⟨ad, cd, rfl, -⟩ := h
  obtain ⟨ad', cd', rfl, -⟩ := h'
  obtain ⟨W, hW⟩ : ∃ W, W = (((w.alloc (.cells #[.int .u8 m, .int .u8 t, .slice ad xs.length cd, .int .u8 m', .int .u8 t', .slice ad' ys.length cd'] 26)).alloc (.cells #[.int .u8 0, .int .u8 0, .slice none 0 0, .int .u8 0, .int .u8 0, .slice none 0 0] 32)).alloc (.cells #[.int .u8 0, .int .u8 0, .slice none 0 0, .int .u8 0, .int .u8 0, .slice none 0 0] 32)) := ⟨_, rfl⟩
  have b0 : Below w.heap.size w W := by rw [hW]; exact (((Below.refl w.heap.size w).alloc (Nat.le_refl _) _).alloc (by simp) _).alloc (by simp; omega) _
  have hz : W.heap.size = w.heap.size + 3 := by rw [hW]; simp
  have ca : ∀ k u, #[.int .u8 m, .int .u8 t, .slice ad xs.length cd, .int .u8 m', .int .u8 t', .slice ad' ys.length cd'][k]? = some u → W.cell? ⟨w.heap.size, k, none⟩ = some u := fun k u hu => by rw [hW]; exact cell_pastH (by simp; omega) (cell_pastH (by simp) (cell_lastH rfl hu))
  have cb : ∀ k u, #[.int .u8 0, .int .u8 0, .slice none 0 0, .int .u8 0, .int .u8 0, (.slice none 0 0 : Value)][k]? = some u → W.cell? ⟨w.heap.size + 1, k, none⟩ = some u := fun k u hu => by rw [hW]; exact cell_pastH (by simp) (cell_lastH (by simp) hu)
  have cc : ∀ k u, #[.int .u8 0, .int .u8 0, .slice none 0 0, .int .u8 0, .int .u8 0, (.slice none 0 0 : Value)][k]? = some u → W.cell? ⟨w.heap.size + 1 + 1, k, none⟩ = some u := fun k u hu => by rw [hW]; exact cell_lastH (by simp) hu
  have fb : ∀ k, W.frozen? ⟨w.heap.size + 1, k, none⟩ = false := fun k => by rw [hW]; exact frozen_pastH (by simp) (frozen_lastH (by simp))
  have fc : ∀ k, W.frozen? ⟨w.heap.size + 1 + 1, k, none⟩ = false := fun k => by rw [hW]; exact frozen_lastH (by simp)
  go_enter Try.func13, Try.ntmps13
  go_wp2_with fail
  rw [← hW]
  refine (to_slot m t _ xs W (HA.out.1.below b0) hx).mono ?_
  rintro e w1 ⟨oa, rfl, own1, b1⟩
  clear hW
  have k1 : ∀ (b o : Nat), b < w.heap.size + 3 → w1.cell? ⟨b, o, none⟩ = W.cell? ⟨b, o, none⟩ := fun b o hb => b1.cell (p := ⟨b, o, none⟩) (by show b < _; rw [hz]; exact hb)
  have z1 : ∀ (b o : Nat), b < w.heap.size + 3 → w1.frozen? ⟨b, o, none⟩ = W.frozen? ⟨b, o, none⟩ := fun b o hb => World.frozen?_of_block (b1.block b (by rw [hz]; exact hb))
  have a3 : w1.cell? ⟨w.heap.size, 3, none⟩ = some (.int .u8 m') := (k1 _ _ (by omega)).trans (ca 3 _ rfl)
  have a4 : w1.cell? ⟨w.heap.size, 4, none⟩ = some (.int .u8 t') := (k1 _ _ (by omega)).trans (ca 4 _ rfl)
  have a5 : w1.cell? ⟨w.heap.size, 5, none⟩ = some (.slice ad' ys.length cd') := (k1 _ _ (by omega)).trans (ca 5 _ rfl)
  have s0 : w1.cell? ⟨w.heap.size + 1 + 1, 0, none⟩ = some (.int .u8 0) := (k1 _ _ (by omega)).trans (cc 0 _ rfl)
  have s1 : w1.cell? ⟨w.heap.size + 1 + 1, 1, none⟩ = some (.int .u8 0) := (k1 _ _ (by omega)).trans (cc 1 _ rfl)
  have s2 : w1.cell? ⟨w.heap.size + 1 + 1, 2, none⟩ = some (.slice none 0 0) := (k1 _ _ (by omega)).trans (cc 2 _ rfl)
  have f0 : w1.frozen? ⟨w.heap.size + 1 + 1, 0, none⟩ = false := (z1 _ _ (by omega)).trans (fc 0)
  have f1 : w1.frozen? ⟨w.heap.size + 1 + 1, 1, none⟩ = false := (z1 _ _ (by omega)).trans (fc 1)
  have f2 : w1.frozen? ⟨w.heap.size + 1 + 1, 2, none⟩ = false := (z1 _ _ (by omega)).trans (fc 2)
  obtain ⟨ao, co, rfl⟩ := own_size own1
  have hn : ∀ b, b < w.heap.size + 3 → (Value.slice ao xs.length co).ownBlock ≠ some b := fun b hb e => by have := (World.ownsRow.lt own1 b e).1; omega
  obtain ⟨w2, hw2⟩ : ∃ w2, w2 = ((w1.setCell ⟨w.heap.size + 1 + 1, 0, none⟩ (.int .u8 m)).setCell ⟨w.heap.size + 1 + 1, 1, none⟩ (.int .u8 t)).setCell ⟨w.heap.size + 1 + 1, 2, none⟩ (.slice ao xs.length co) := ⟨_, rfl⟩
  have own2 : Own (w.heap.size + 3) (.slice ao xs.length co) xs w2 := by
    rw [hw2]
    exact (((hz ▸ own1).setCell (hn _ (by show w.heap.size + 1 + 1 < _; omega)) _).setCell (hn _ (by show w.heap.size + 1 + 1 < _; omega)) _).setCell (hn _ (by show w.heap.size + 1 + 1 < _; omega)) _
  have b2 : Below w.heap.size w w2 := by
    rw [hw2]
    exact (((b0.trans (b1.mono b0.size)).setCell (by show _ ≤ w.heap.size + 1 + 1; omega) _).setCell (by show _ ≤ w.heap.size + 1 + 1; omega) _).setCell (by show _ ≤ w.heap.size + 1 + 1; omega) _
  have ho2 : ∀ b, b ≠ w.heap.size + 1 + 1 → w2.heap[b]? = w1.heap[b]? := fun b hb => by
    rw [hw2, Below.heap_setCell _ _ _ _ (by simpa using hb), Below.heap_setCell _ _ _ _ (by simpa using hb), Below.heap_setCell _ _ _ _ (by simpa using hb)]
  have hz2 : w.heap.size + 3 ≤ w2.heap.size := by rw [hw2]; have := b1.size; simp [World.setCell]; omega
  have HB2 : Hid (ByteArg (.slice ad' ys.length cd') ys w2) := HA.out.2.below b2
  have a3' : w2.cell? ⟨w.heap.size, 3, none⟩ = some (.int .u8 m') := (World.cell?_of_block (ho2 w.heap.size (by omega))).trans a3
  have a4' : w2.cell? ⟨w.heap.size, 4, none⟩ = some (.int .u8 t') := (World.cell?_of_block (ho2 w.heap.size (by omega))).trans a4
  have a5' : w2.cell? ⟨w.heap.size, 5, none⟩ = some (.slice ad' ys.length cd') := (World.cell?_of_block (ho2 w.heap.size (by omega))).trans a5
  have e0 : w2.cell? ⟨w.heap.size + 1 + 1, 0, none⟩ = some (.int .u8 m) := by rw [hw2]; simp [go_sem, s0]
  have e1 : w2.cell? ⟨w.heap.size + 1 + 1, 1, none⟩ = some (.int .u8 t) := by rw [hw2]; simp [go_sem, s1]
  have e2 : w2.cell? ⟨w.heap.size + 1 + 1, 2, none⟩ = some (.slice ao xs.length co) := by rw [hw2]; simp [go_sem, s2]
  have e3 : w2.cell? ⟨w.heap.size + 1 + 1, 3, none⟩ = some (.int .u8 0) := by rw [hw2]; simp [go_sem, (k1 (w.heap.size + 1 + 1) 3 (by omega)).trans (cc 3 _ rfl)]
  have e4 : w2.cell? ⟨w.heap.size + 1 + 1, 4, none⟩ = some (.int .u8 0) := by rw [hw2]; simp [go_sem, (k1 (w.heap.size + 1 + 1) 4 (by omega)).trans (cc 4 _ rfl)]
  have e5 : w2.cell? ⟨w.heap.size + 1 + 1, 5, none⟩ = some (.slice none 0 0) := by rw [hw2]; simp [go_sem, (k1 (w.heap.size + 1 + 1) 5 (by omega)).trans (cc 5 _ rfl)]
  have g2 : ∀ k, w2.frozen? ⟨w.heap.size + 1 + 1, k, none⟩ = false := fun k => by rw [hw2, World.frozen?_setCell, World.frozen?_setCell, World.frozen?_setCell]; exact (z1 _ _ (by omega)).trans (fc k)
  have h2 : ∀ k, w2.frozen? ⟨w.heap.size + 1, k, none⟩ = false := fun k => by rw [hw2, World.frozen?_setCell, World.frozen?_setCell, World.frozen?_setCell]; exact (z1 _ _ (by omega)).trans (fb k)
  have d2 : ∀ k u, #[.int .u8 0, .int .u8 0, .slice none 0 0, .int .u8 0, .int .u8 0, (.slice none 0 0 : Value)][k]? = some u → w2.cell? ⟨w.heap.size + 1, k, none⟩ = some u := fun k u hu => (World.cell?_of_block (ho2 (w.heap.size + 1) (by omega))).trans ((k1 _ _ (by omega)).trans (cb k u hu))
  have C2 := to_slot m' t' _ ys w2 HB2.out hy
  clear ca cb cc fb fc k1 z1 own1 b1 b0 hz ho2 a3 a4 a5
  have HW : Hid (w2 = ((w1.setCell ⟨w.heap.size + 1 + 1, 0, none⟩ (.int .u8 m)).setCell ⟨w.heap.size + 1 + 1, 1, none⟩ (.int .u8 t)).setCell ⟨w.heap.size + 1 + 1, 2, none⟩ (.slice ao xs.length co)) := hw2
  have l3 : (((w1.setCell ⟨w.heap.size + 1 + 1, 0, none⟩ (.int .u8 m)).setCell ⟨w.heap.size + 1 + 1, 1, none⟩ (.int .u8 t)).setCell ⟨w.heap.size + 1 + 1, 2, none⟩ (.slice ao xs.length co)).cell? ⟨w.heap.size, 3, none⟩ = some (.int .u8 m') := hw2 ▸ a3'
  have l4 : (((w1.setCell ⟨w.heap.size + 1 + 1, 0, none⟩ (.int .u8 m)).setCell ⟨w.heap.size + 1 + 1, 1, none⟩ (.int .u8 t)).setCell ⟨w.heap.size + 1 + 1, 2, none⟩ (.slice ao xs.length co)).cell? ⟨w.heap.size, 4, none⟩ = some (.int .u8 t') := hw2 ▸ a4'
  have l5 : (((w1.setCell ⟨w.heap.size + 1 + 1, 0, none⟩ (.int .u8 m)).setCell ⟨w.heap.size + 1 + 1, 1, none⟩ (.int .u8 t)).setCell ⟨w.heap.size + 1 + 1, 2, none⟩ (.slice ao xs.length co)).cell? ⟨w.heap.size, 5, none⟩ = some (.slice ad' ys.length cd') := hw2 ▸ a5'
  clear hw2
  go_wp2_with fail
  rw [← HW.out]
  clear HW l3 l4 l5 s0 s1 s2 f0 f1 f2 hn a3' a4' a5'
  refine C2.mono ?_
  rintro e w3 ⟨ob, rfl, own3, b3⟩
  have k3 : ∀ (b o : Nat), b < w.heap.size + 3 → w3.cell? ⟨b, o, none⟩ = w2.cell? ⟨b, o, none⟩ := fun b o hb => b3.cell (p := ⟨b, o, none⟩) (by show b < _; omega)
  have z3 : ∀ (b o : Nat), b < w.heap.size + 3 → w3.frozen? ⟨b, o, none⟩ = w2.frozen? ⟨b, o, none⟩ := fun b o hb => World.frozen?_of_block (b3.block b (by omega))
  have p0 := (k3 _ _ (by omega)).trans e0
  have p1 := (k3 _ _ (by omega)).trans e1
  have p2 := (k3 _ _ (by omega)).trans e2
  have p3 := (k3 _ _ (by omega)).trans e3
  have p4 := (k3 _ _ (by omega)).trans e4
  have p5 := (k3 _ _ (by omega)).trans e5
  have q0 := (k3 (w.heap.size + 1) 0 (by omega)).trans (d2 0 _ rfl)
  have q1 := (k3 (w.heap.size + 1) 1 (by omega)).trans (d2 1 _ rfl)
  have q2 := (k3 (w.heap.size + 1) 2 (by omega)).trans (d2 2 _ rfl)
  have q3 := (k3 (w.heap.size + 1) 3 (by omega)).trans (d2 3 _ rfl)
  have q4 := (k3 (w.heap.size + 1) 4 (by omega)).trans (d2 4 _ rfl)
  have q5 := (k3 (w.heap.size + 1) 5 (by omega)).trans (d2 5 _ rfl)
  have f3 := (z3 (w.heap.size + 1 + 1) 3 (by omega)).trans (g2 3)
  have f4 := (z3 (w.heap.size + 1 + 1) 4 (by omega)).trans (g2 4)
  have f5 := (z3 (w.heap.size + 1 + 1) 5 (by omega)).trans (g2 5)
  have h0 := (z3 (w.heap.size + 1) 0 (by omega)).trans (h2 0)
  have h1 := (z3 (w.heap.size + 1) 1 (by omega)).trans (h2 1)
  have h22 := (z3 (w.heap.size + 1) 2 (by omega)).trans (h2 2)
  have h3 := (z3 (w.heap.size + 1) 3 (by omega)).trans (h2 3)
  have h4 := (z3 (w.heap.size + 1) 4 (by omega)).trans (h2 4)
  have h5 := (z3 (w.heap.size + 1) 5 (by omega)).trans (h2 5)
  have HF : Hid (Own (w.heap.size + 3) (.slice ao xs.length co) xs w3 ∧ Own w2.heap.size ob ys w3 ∧ Below w.heap.size w w3 ∧ w.heap.size + 3 ≤ w2.heap.size ∧ (∀ g, (Value.slice ao xs.length co).ownBlock = some g → ob.ownBlock ≠ some g)) :=
    ⟨own2.below b3 (Nat.le_refl _), own3, b2.trans (b3.mono b2.size), hz2, fun g h1 h2 => by have := (World.ownsRow.lt own2 g h1).2; have := (World.ownsRow.lt own3 g h2).1; omega⟩
  clear own3 b3 k3 z3 C2 own2 b2 hz2 d2 g2 h2 e0 e1 e2 e3 e4 e5 HB2
  obtain ⟨ao', co', rfl⟩ := own_size HF.out.2.1
  go_wp2_with fail
  have hn : ∀ b, b < w.heap.size + 3 → (Value.slice ao xs.length co).ownBlock ≠ some b := fun b hb e => by have := (World.ownsRow.lt HF.out.1 b e).1; omega
  have hn' : ∀ b, b < w.heap.size + 3 → (Value.slice ao' ys.length co').ownBlock ≠ some b := fun b hb e => by have := (World.ownsRow.lt HF.out.2.1 b e).1; have := HF.out.2.2.2.1; omega
  exact bodyPost_ret (v := .agg #[.int .u8 m, .int .u8 t, .slice ao xs.length co, .int .u8 m', .int .u8 t', .slice ao' ys.length co']) (by simp [results, Try.results13, go_sem, q0, q1, q2, q3, q4, q5]) rfl
    ⟨_, _, rfl, (((((((((HF.out.1.setCell (hn _ (by show w.heap.size + 1 + 1 < _; omega)) _).setCell (hn _ (by show w.heap.size + 1 + 1 < _; omega)) _).setCell (hn _ (by show w.heap.size + 1 + 1 < _; omega)) _).setCell (hn _ (by show w.heap.size + 1 < _; omega)) _).setCell (hn _ (by show w.heap.size + 1 < _; omega)) _).setCell (hn _ (by show w.heap.size + 1 < _; omega)) _).setCell (hn _ (by show w.heap.size + 1 < _; omega)) _).setCell (hn _ (by show w.heap.size + 1 < _; omega)) _).setCell (hn _ (by show w.heap.size + 1 < _; omega)) _).mono (by omega), (((((((((HF.out.2.1.setCell (hn' _ (by show w.heap.size + 1 + 1 < _; omega)) _).setCell (hn' _ (by show w.heap.size + 1 + 1 < _; omega)) _).setCell (hn' _ (by show w.heap.size + 1 + 1 < _; omega)) _).setCell (hn' _ (by show w.heap.size + 1 < _; omega)) _).setCell (hn' _ (by show w.heap.size + 1 < _; omega)) _).setCell (hn' _ (by show w.heap.size + 1 < _; omega)) _).setCell (hn' _ (by show w.heap.size + 1 < _; omega)) _).setCell (hn' _ (by show w.heap.size + 1 < _; omega)) _).setCell (hn' _ (by show w.heap.size + 1 < _; omega)) _).mono (by have := HF.out.2.2.2.1; omega), HF.out.2.2.2.2, (((((((((HF.out.2.2.1.setCell (by show _ ≤ w.heap.size + 1 + 1; omega) _).setCell (by show _ ≤ w.heap.size + 1 + 1; omega) _).setCell (by show _ ≤ w.heap.size + 1 + 1; omega) _).setCell (by show _ ≤ w.heap.size + 1; omega) _).setCell (by show _ ≤ w.heap.size + 1; omega) _).setCell (by show _ ≤ w.heap.size + 1; omega) _).setCell (by show _ ≤ w.heap.size + 1; omega) _).setCell (by show _ ≤ w.heap.size + 1; omega) _).setCell (by show _ ≤ w.heap.size + 1; omega) _)⟩

set_option maxRecDepth 100000 in
set_option maxHeartbeats 800000 in
/-- Two stores that are the same. -/
theorem eq_rom (m t m' t' : Int) (d d' e e' : Value) (xs ys : List Nat) (w : World) (h1 : BytesAt d xs w) (h2 : BytesAt e ys w) (h3 : BytesAt d' xs w) (h4 : BytesAt e' ys w) (hx : xs.length ≤ 100000000) (hy : ys.length ≤ 100000000) :
    Calls Try.prog 16 #[.agg #[.int .u8 m, .int .u8 t, d, .int .u8 m', .int .u8 t', e], .agg #[.int .u8 m, .int .u8 t, d', .int .u8 m', .int .u8 t', e']] w fun r w' => r = .returned (.bool true) ∧ Below w.heap.size w w' := by
  obtain ⟨W, hW⟩ : ∃ W, W = ((w.alloc (.cells #[.int .u8 m, .int .u8 t, d, .int .u8 m', .int .u8 t', e] 32)).alloc (.cells #[.int .u8 m, .int .u8 t, d', .int .u8 m', .int .u8 t', e'] 32)) := ⟨_, rfl⟩
  have b0 : Below w.heap.size w W := by rw [hW]; exact ((Below.refl w.heap.size w).alloc (Nat.le_refl _) _).alloc (by simp) _
  have ca : ∀ k u, #[.int .u8 m, .int .u8 t, d, .int .u8 m', .int .u8 t', e][k]? = some u → W.cell? ⟨w.heap.size, k, none⟩ = some u := fun k u hu => by rw [hW]; exact cell_pastH (by simp) (cell_lastH rfl hu)
  have cb : ∀ k u, #[.int .u8 m, .int .u8 t, d', .int .u8 m', .int .u8 t', e'][k]? = some u → W.cell? ⟨w.heap.size + 1, k, none⟩ = some u := fun k u hu => by rw [hW]; exact cell_lastH (by simp) hu
  have hz : W.heap.size = w.heap.size + 2 := by rw [hW]; simp
  have H : Hid (BytesAt d xs w ∧ BytesAt e ys w ∧ BytesAt d' xs w ∧ BytesAt e' ys w) := ⟨h1, h2, h3, h4⟩
  obtain ⟨_, _, rfl⟩ := h1.len
  obtain ⟨_, _, rfl⟩ := h2.len
  obtain ⟨_, _, rfl⟩ := h3.len
  obtain ⟨_, _, rfl⟩ := h4.len
  clear h1 h2 h3 h4
  have E1 := eq_slot m t _ _ xs W (H.out.1.below b0 (Nat.le_refl _)) (H.out.2.2.1.below b0 (Nat.le_refl _)) hx
  go_enter Try.func16, Try.ntmps16
  go_wp2_with fail
  rw [← hW]
  clear hW
  refine E1.mono ?_
  rintro r w1 ⟨rfl, b1⟩
  have k1 : ∀ (b o : Nat), b < w.heap.size + 2 → w1.cell? ⟨b, o, none⟩ = W.cell? ⟨b, o, none⟩ := fun b o hb => b1.cell (p := ⟨b, o, none⟩) (by show b < _; rw [hz]; exact hb)
  have a3 := (k1 w.heap.size 3 (by omega)).trans (ca 3 _ rfl)
  have a4 := (k1 w.heap.size 4 (by omega)).trans (ca 4 _ rfl)
  have a5 := (k1 w.heap.size 5 (by omega)).trans (ca 5 _ rfl)
  have c3 := (k1 (w.heap.size + 1) 3 (by omega)).trans (cb 3 _ rfl)
  have c4 := (k1 (w.heap.size + 1) 4 (by omega)).trans (cb 4 _ rfl)
  have c5 := (k1 (w.heap.size + 1) 5 (by omega)).trans (cb 5 _ rfl)
  have B1 : Hid (Below w.heap.size w w1) := b0.trans (b1.mono b0.size)
  clear ca cb k1 b1 b0 hz E1
  have E2 := eq_slot m' t' _ _ ys w1 (H.out.2.1.below B1.out (Nat.le_refl _)) (H.out.2.2.2.below B1.out (Nat.le_refl _)) hy
  go_wp2_with fail
  refine E2.mono ?_
  rintro r w2 ⟨rfl, b2⟩
  have B2 : Hid (Below w.heap.size w w2) := B1.out.trans (b2.mono B1.out.size)
  clear b2 E2
  go_wp2_with fail
  go_ret
  exact ⟨rfl, B2.out⟩

end Go.Proofs.Ytdhoimjkgicneac
