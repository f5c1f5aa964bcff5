/- The laws' helpers over a store: its size, its copy, its sameness. -/
import Derived.Test.YtdhoimjkgicneacHelB
namespace Go.Proofs.Ytdhoimjkgicneac
open Go Go.RowKit

theorem wrap64h {z : Int} (h0 : -9223372036854775808 ≤ z) (h1 : z ≤ 9223372036854775807) : IntKind.i64.wrap z = z := by
  simp [IntKind.wrap, IntKind.signed, IntKind.bits]
  omega

/-- What is left of a count when something is taken off. -/
def leftZ (left : Int) (n : Nat) : Int := if left - n < 0 then -1 else left - n

set_option maxHeartbeats 400000 in
theorem sz_bytes (a : Option Addr) (n cap : Nat) (left : Int) (w : World) (hn : n ≤ 9223372036854775807) (h0 : 0 ≤ left) (h1 : left ≤ 1048576) :
    Calls Try.prog 78 #[.slice a n cap, .int .i64 left] w fun e w' => e = .returned (.int .i64 (leftZ left n)) ∧ w' = w := by
  unfold leftZ
  obtain ⟨z, hz⟩ : ∃ z, left - (n : Int) = z := ⟨_, rfl⟩
  have hw : IntKind.i64.wrap z = z := wrap64h (by omega) (by omega)
  rw [hz]
  by_cases h : z < 0
  · rw [if_pos h]
    go_enter Try.func78, Try.ntmps78
    go_wp2_with fail
    go_ret
    exact ⟨rfl, rfl⟩
  · rw [if_neg h]
    go_enter Try.func78, Try.ntmps78
    go_wp2_with fail
    go_ret
    exact ⟨rfl, rfl⟩

set_option maxHeartbeats 400000 in
theorem sz_slot (m t : Int) (a : Option Addr) (n cap : Nat) (left : Int) (w : World) (hn : n ≤ 9223372036854775807) (h0 : 0 ≤ left) (h1 : left ≤ 1048576) :
    Calls Try.prog 44 #[.agg #[.int .u8 m, .int .u8 t, .slice a n cap], .int .i64 left] w fun e w' => e = .returned (.int .i64 (leftZ left n)) ∧ Below w.heap.size w w' := by
  have S := fun w => sz_bytes a n cap left w hn h0 h1
  obtain ⟨z, hz⟩ : ∃ z, leftZ left n = z := ⟨_, rfl⟩
  have hneg : z < 0 → z = -1 := fun h => by rw [← hz] at h ⊢; unfold leftZ at h ⊢; split at h <;> simp_all
  rw [hz] at S ⊢
  clear hz
  by_cases h : z < 0
  · obtain rfl := hneg h
    go_enter Try.func44, Try.ntmps44
    go_wp2_with fail
    refine (S _).mono ?_
    rintro e w1 ⟨rfl, rfl⟩
    go_wp2_with fail
    go_ret
    exact ⟨rfl, (Below.refl _ _).alloc (Nat.le_refl _) _⟩
  · go_enter Try.func44, Try.ntmps44
    go_wp2_with fail
    refine (S _).mono ?_
    rintro e w1 ⟨rfl, rfl⟩
    go_wp2_with fail
    go_ret
    exact ⟨rfl, (Below.refl _ _).alloc (Nat.le_refl _) _⟩

theorem cell_lastH {w : World} {c : Array Value} {t : TypeId} {k s : Nat} {u : Value} (hs : s = w.heap.size) (h : c[k]? = some u) : (w.alloc (.cells c t)).cell? ⟨s, k, none⟩ = some u := by
  subst hs
  simp [h]
theorem cell_pastH {w : World} {o : Obj} {b k : Nat} {u : Value} (hb : b < w.heap.size) (h : w.cell? ⟨b, k, none⟩ = some u) : (w.alloc o).cell? ⟨b, k, none⟩ = some u := (((Below.refl w.heap.size w).alloc (Nat.le_refl _) o).cell (p := ⟨b, k, none⟩) hb).trans h
theorem frozen_lastH {w : World} {c : Array Value} {t : TypeId} {k s : Nat} (hs : s = w.heap.size) : (w.alloc (.cells c t)).frozen? ⟨s, k, none⟩ = false := by
  subst hs
  simp
theorem frozen_pastH {w : World} {o : Obj} {b k : Nat} (hb : b < w.heap.size) (h : w.frozen? ⟨b, k, none⟩ = false) : (w.alloc o).frozen? ⟨b, k, none⟩ = false := (World.frozen?_of_block (((Below.refl w.heap.size w).alloc (Nat.le_refl _) o).block b hb)).trans h

set_option maxRecDepth 100000 in
set_option maxHeartbeats 800000 in
/-- The copy of a slot. -/
theorem to_slot (m t : Int) (d : Value) (xs : List Nat) (w : World) (h : ByteArg d xs w) (hx : xs.length ≤ 100000000) :
    Calls Try.prog 47 #[.agg #[.int .u8 m, .int .u8 t, d]] w fun e w' => ∃ d', e = .returned (.agg #[.int .u8 m, .int .u8 t, d']) ∧ Own w.heap.size d' xs w' ∧ Below w.heap.size w w' := by
  have HA : Hid (ByteArg d xs w) := h
  obtain ⟨ad, cd, rfl, -⟩ := h
  go_enter Try.func47, Try.ntmps47
  go_wp2_with fail
  have b0 : Below w.heap.size w (((w.alloc (.cells #[.int .u8 m, .int .u8 t, .slice ad xs.length cd] 24)).alloc (.cells #[.int .u8 0, .int .u8 0, .slice none 0 0] 30)).alloc (.cells #[.int .u8 m, .int .u8 t, .slice none 0 0] 30)) := (((Below.refl w.heap.size w).alloc (Nat.le_refl _) _).alloc (by simp) _).alloc (by simp; omega) _
  refine (to_bytes _ xs (((w.alloc (.cells #[.int .u8 m, .int .u8 t, .slice ad xs.length cd] 24)).alloc (.cells #[.int .u8 0, .int .u8 0, .slice none 0 0] 30)).alloc (.cells #[.int .u8 m, .int .u8 t, .slice none 0 0] 30)) (HA.out.below b0) hx).mono ?_
  rintro e w1 ⟨o, rfl, own1, b1⟩
  have hz : (((w.alloc (.cells #[.int .u8 m, .int .u8 t, .slice ad xs.length cd] 24)).alloc (.cells #[.int .u8 0, .int .u8 0, .slice none 0 0] 30)).alloc (.cells #[.int .u8 m, .int .u8 t, .slice none 0 0] 30)).heap.size = w.heap.size + 3 := by simp
  have k : ∀ (b o : Nat), b < w.heap.size + 3 → w1.cell? ⟨b, o, none⟩ = (((w.alloc (.cells #[.int .u8 m, .int .u8 t, .slice ad xs.length cd] 24)).alloc (.cells #[.int .u8 0, .int .u8 0, .slice none 0 0] 30)).alloc (.cells #[.int .u8 m, .int .u8 t, .slice none 0 0] 30)).cell? ⟨b, o, none⟩ := fun b o hb => b1.cell (p := ⟨b, o, none⟩) (by show b < _; rw [hz]; exact hb)
  have z : ∀ (b o : Nat), b < w.heap.size + 3 → w1.frozen? ⟨b, o, none⟩ = (((w.alloc (.cells #[.int .u8 m, .int .u8 t, .slice ad xs.length cd] 24)).alloc (.cells #[.int .u8 0, .int .u8 0, .slice none 0 0] 30)).alloc (.cells #[.int .u8 m, .int .u8 t, .slice none 0 0] 30)).frozen? ⟨b, o, none⟩ := fun b o hb => World.frozen?_of_block (b1.block b (by rw [hz]; exact hb))
  have r0 : w1.cell? ⟨w.heap.size + 1, 0, none⟩ = some (.int .u8 0) := by rw [k _ _ (by omega)]; exact cell_pastH (by simp) (cell_lastH (by simp) rfl)
  have r1 : w1.cell? ⟨w.heap.size + 1, 1, none⟩ = some (.int .u8 0) := by rw [k _ _ (by omega)]; exact cell_pastH (by simp) (cell_lastH (by simp) rfl)
  have r2 : w1.cell? ⟨w.heap.size + 1, 2, none⟩ = some (.slice none 0 0) := by rw [k _ _ (by omega)]; exact cell_pastH (by simp) (cell_lastH (by simp) rfl)
  have s0 : w1.cell? ⟨w.heap.size + 1 + 1, 0, none⟩ = some (.int .u8 m) := by rw [k _ _ (by omega)]; exact cell_lastH (by simp) rfl
  have s1 : w1.cell? ⟨w.heap.size + 1 + 1, 1, none⟩ = some (.int .u8 t) := by rw [k _ _ (by omega)]; exact cell_lastH (by simp) rfl
  have s2 : w1.cell? ⟨w.heap.size + 1 + 1, 2, none⟩ = some (.slice none 0 0) := by rw [k _ _ (by omega)]; exact cell_lastH (by simp) rfl
  have f0 : w1.frozen? ⟨w.heap.size + 1, 0, none⟩ = false := by rw [z _ _ (by omega)]; exact frozen_pastH (by simp) (frozen_lastH (by simp))
  have f1 : w1.frozen? ⟨w.heap.size + 1, 1, none⟩ = false := by rw [z _ _ (by omega)]; exact frozen_pastH (by simp) (frozen_lastH (by simp))
  have f2 : w1.frozen? ⟨w.heap.size + 1, 2, none⟩ = false := by rw [z _ _ (by omega)]; exact frozen_pastH (by simp) (frozen_lastH (by simp))
  have g2 : w1.frozen? ⟨w.heap.size + 1 + 1, 2, none⟩ = false := by rw [z _ _ (by omega)]; exact frozen_lastH (by simp)
  have H1 : Hid (Own (w.heap.size + 3) o xs w1 ∧ Below w.heap.size w w1) := ⟨hz ▸ own1, b0.trans (b1.mono (by rw [hz]; omega))⟩
  clear own1 b1 k z b0 hz
  obtain ⟨ao, co, rfl⟩ := own_size H1.out.1
  go_wp2_with fail
  have hn : ∀ b, b < w.heap.size + 3 → (Value.slice ao xs.length co).ownBlock ≠ some b := fun b hb e => by have := (World.ownsRow.lt H1.out.1 b e).1; omega
  exact bodyPost_ret (v := .agg #[.int .u8 m, .int .u8 t, .slice ao xs.length co]) (by simp [results, Try.results47, go_sem, r0, r1, r2]) rfl
    ⟨_, rfl, (((((H1.out.1.setCell (hn _ (by show w.heap.size + 1 + 1 < _; omega)) _).setCell (hn _ (by show w.heap.size + 1 < _; omega)) _).setCell (hn _ (by show w.heap.size + 1 < _; omega)) _).setCell (hn _ (by show w.heap.size + 1 < _; omega)) _)).mono (by omega), (((H1.out.2.setCell (by show _ ≤ w.heap.size + 1 + 1; omega) _).setCell (by show _ ≤ w.heap.size + 1; omega) _).setCell (by show _ ≤ w.heap.size + 1; omega) _).setCell (by show _ ≤ w.heap.size + 1; omega) _⟩

set_option maxRecDepth 100000 in
set_option maxHeartbeats 800000 in
/-- Two slots that are the same. -/
theorem eq_slot (m t : Int) (d d' : Value) (xs : List Nat) (w : World) (h : BytesAt d xs w) (h' : BytesAt d' xs w) (hx : xs.length ≤ 100000000) :
    Calls Try.prog 48 #[.agg #[.int .u8 m, .int .u8 t, d], .agg #[.int .u8 m, .int .u8 t, d']] w fun e w' => e = .returned (.bool true) ∧ Below w.heap.size w w' := by
  have b0 : Below w.heap.size w ((w.alloc (.cells #[.int .u8 m, .int .u8 t, d] 30)).alloc (.cells #[.int .u8 m, .int .u8 t, d'] 30)) := ((Below.refl w.heap.size w).alloc (Nat.le_refl _) _).alloc (by simp) _
  have HE := eq_bytes d d' xs xs _ (h.below b0 (Nat.le_refl _)) (h'.below b0 (Nat.le_refl _)) hx
  obtain ⟨ad, cd, rfl⟩ := h.len
  obtain ⟨ad', cd', rfl⟩ := h'.len
  clear h h'
  have HB : Hid (Below w.heap.size w _) := b0
  clear b0
  go_enter Try.func48, Try.ntmps48
  go_wp2_with fail
  refine HE.mono ?_
  rintro e w1 ⟨q, rfl, hq, b1⟩
  obtain rfl : q = true := by simpa using hq
  have H1 : Hid (Below w.heap.size w w1) := HB.out.trans (b1.mono HB.out.size)
  clear b1 hq HE HB
  go_wp2_with fail
  go_ret
  exact ⟨rfl, H1.out⟩

set_option maxRecDepth 100000 in
set_option maxHeartbeats 800000 in
/-- What is left of a count when a store is taken off. -/
theorem sz_romZ (m t m' t' : Int) (a a' : Option Addr) (n cap n' cap' : Nat) (left : Int) (w : World) (hn : n ≤ 9223372036854775807) (hn' : n' ≤ 9223372036854775807) (h0 : 0 ≤ left) (h1 : left ≤ 1048576) :
    Calls Try.prog 11 #[.agg #[.int .u8 m, .int .u8 t, .slice a n cap, .int .u8 m', .int .u8 t', .slice a' n' cap'], .int .i64 left] w fun e w' => (∃ z : Int, e = .returned (.int .i64 z) ∧ (0 ≤ z → (n : Int) + n' + z = left)) ∧ Below w.heap.size w w' := by
  have b0 : Below w.heap.size w (w.alloc (.cells #[.int .u8 m, .int .u8 t, .slice a n cap, .int .u8 m', .int .u8 t', .slice a' n' cap'] 26)) := (Below.refl _ _).alloc (Nat.le_refl _) _
  have HB : Hid (Below w.heap.size w _) := b0
  have S := sz_slot m t a n cap left (w.alloc (.cells #[.int .u8 m, .int .u8 t, .slice a n cap, .int .u8 m', .int .u8 t', .slice a' n' cap'] 26)) hn h0 h1
  obtain ⟨z, hz⟩ : ∃ z, leftZ left n = z := ⟨_, rfl⟩
  have HZ : Hid ((z < 0 → z = -1) ∧ (0 ≤ z → z = left - n) ∧ z ≤ 1048576) := by
    rw [← hz]
    unfold leftZ
    split <;> refine ⟨fun _ => ?_, fun _ => ?_, ?_⟩ <;> omega
  rw [hz] at S
  clear hz b0
  go_enter Try.func11, Try.ntmps11
  go_wp2_with fail
  refine S.mono ?_
  rintro e w1 ⟨rfl, b1⟩
  have d3 : w1.cell? ⟨w.heap.size, 3, none⟩ = some (.int .u8 m') := (b1.cell (p := ⟨w.heap.size, 3, none⟩) (by show w.heap.size < _; simp)).trans (cell_lastH rfl rfl)
  have d4 : w1.cell? ⟨w.heap.size, 4, none⟩ = some (.int .u8 t') := (b1.cell (p := ⟨w.heap.size, 4, none⟩) (by show w.heap.size < _; simp)).trans (cell_lastH rfl rfl)
  have d5 : w1.cell? ⟨w.heap.size, 5, none⟩ = some (.slice a' n' cap') := (b1.cell (p := ⟨w.heap.size, 5, none⟩) (by show w.heap.size < _; simp)).trans (cell_lastH rfl rfl)
  have H1 : Hid (Below w.heap.size w w1) := HB.out.trans (b1.mono HB.out.size)
  clear b1 S HB
  by_cases h : z < 0
  · obtain rfl := HZ.out.1 h
    go_wp2_with fail
    go_ret
    exact ⟨⟨_, rfl, by omega⟩, H1.out⟩
  · have hz2 := HZ.out.2.1 (by omega)
    have S2 := sz_slot m' t' a' n' cap' z w1 hn' (by omega) HZ.out.2.2
    obtain ⟨y, hy⟩ : ∃ y, leftZ z n' = y := ⟨_, rfl⟩
    have HY : Hid ((y < 0 → y = -1) ∧ (0 ≤ y → (n : Int) + n' + y = left)) := by
      rw [← hy]
      unfold leftZ
      split <;> refine ⟨fun _ => ?_, fun _ => ?_⟩ <;> omega
    rw [hy] at S2
    clear hy hz2
    go_wp2_with fail
    refine S2.mono ?_
    rintro e w2 ⟨rfl, b2⟩
    have H2 : Hid (Below w.heap.size w w2) := H1.out.trans (b2.mono H1.out.size)
    clear b2 S2
    by_cases h' : y < 0
    · obtain rfl := HY.out.1 h'
      go_wp2_with fail
      go_ret
      exact ⟨⟨_, rfl, by omega⟩, H2.out⟩
    · go_wp2_with fail
      go_ret
      exact ⟨⟨_, rfl, HY.out.2⟩, H2.out⟩

theorem sz_rom (m t m' t' : Int) (a a' : Option Addr) (n cap n' cap' : Nat) (left : Int) (w : World) (hn : n ≤ 9223372036854775807) (hn' : n' ≤ 9223372036854775807) (h0 : 0 ≤ left) (h1 : left ≤ 1048576) :
    Calls Try.prog 11 #[.agg #[.int .u8 m, .int .u8 t, .slice a n cap, .int .u8 m', .int .u8 t', .slice a' n' cap'], .int .i64 left] w fun e w' => (∃ z : Int, e = .returned (.int .i64 z) ∧ (0 ≤ z → (n : Int) + n' ≤ left)) ∧ Below w.heap.size w w' :=
  (sz_romZ m t m' t' a a' n cap n' cap' left w hn hn' h0 h1).mono fun _ _ ⟨⟨z, h2, h3⟩, h4⟩ => ⟨⟨z, h2, fun h => by have := h3 h; omega⟩, h4⟩

end Go.Proofs.Ytdhoimjkgicneac
