/- What the specification's l1Guess does at a word and at the empty text. -/
import Derived.Test.YtdhoimjkgicneaaDoorReadA
import Derived.Test.YtdhoimjkgicneaaDoorDevD
namespace Go.Proofs.YtdhoimjkgicneaaDoor
open Go Go.RowKit

theorem box3c {w w1 : World} {a b c : Value} {t : TypeId} (hb : Below (w.alloc (.cells #[a, b, c] t)).heap.size (w.alloc (.cells #[a, b, c] t)) w1) :
    w1.cell? ⟨w.heap.size, 0, none⟩ = some a ∧ w1.cell? ⟨w.heap.size, 1, none⟩ = some b ∧ w1.cell? ⟨w.heap.size, 2, none⟩ = some c ∧
    w1.frozen? ⟨w.heap.size, 0, none⟩ = false ∧ w1.frozen? ⟨w.heap.size, 1, none⟩ = false ∧ w1.frozen? ⟨w.heap.size, 2, none⟩ = false ∧ w.heap.size < w1.heap.size ∧ Below w.heap.size w w1 := by
  obtain ⟨c0, c1, c2, hz, hb1⟩ := box3 hb
  refine ⟨c0, c1, c2, ?_, ?_, ?_, hz, hb1⟩
  · rw [hb.frozen (p := ⟨w.heap.size, 0, none⟩) (by simp)]; simp
  · rw [hb.frozen (p := ⟨w.heap.size, 1, none⟩) (by simp)]; simp
  · rw [hb.frozen (p := ⟨w.heap.size, 2, none⟩) (by simp)]; simp

set_option maxRecDepth 100000 in
set_option maxHeartbeats 400000 in
theorem guess_word0 (w : World) :
    Calls Tryd.prog 69 #[.string ⟨#[110, 97, 110]⟩] w fun e w' => e = .returned (.agg #[.int .i64 13, .int .i64 0, .int .i64 0]) ∧ Below w.heap.size w w' := by
  go_enter Tryd.func69, Tryd.ntmps69
  go_wp2
  go_loopw [3] (fun i wr => ∃ k : Nat, k ≤ 0 ∧ i = .int .i64 k ∧ Below (w.alloc (.cells #[.int .i64 0, .int .i64 0, .int .i64 0] 24)).heap.size (w.alloc (.cells #[.int .i64 0, .int .i64 0, .int .i64 0] 24)) wr) (fun i _ => 4 - (intOf i).toNat)
  case atStart => exact ⟨0, Nat.zero_le _, rfl, Below.refl _ _⟩
  case round =>
    obtain ⟨k, hk, rfl, hb⟩ := hrel
    have HB : Hid (Below (w.alloc (.cells #[.int .i64 0, .int .i64 0, .int .i64 0] 24)).heap.size (w.alloc (.cells #[.int .i64 0, .int .i64 0, .int .i64 0] 24)) wr) := hb
    have HZ : Hid ((w.alloc (.cells #[.int .i64 0, .int .i64 0, .int .i64 0] 24)).heap.size ≤ wr.heap.size) := hb.size
    obtain ⟨q0, q1, q2, f0, f1, f2, hz, hb1⟩ := box3c hb
    have HB1 : Hid (Below w.heap.size w wr) := hb1
    clear hb hb1
    have hk4 : k = 0 := by omega
    rcases hk4 with rfl
    · go_wp2_with (go_at_call 62; refine (spec_words _).mono ?_; rintro e w2 ⟨rfl, rfl⟩)
      exact bodyPost_ret (v := .agg #[.int .i64 13, .int .i64 0, .int .i64 0]) (by simp [results, Tryd.results69, go_sem, q0, q1, q2, hz]) rfl
        ⟨rfl, (((HB1.out.setCell (Nat.le_refl _) _).setCell (Nat.le_refl _) _).setCell (Nat.le_refl _) _).alloc (by simp; omega) _⟩

set_option maxRecDepth 100000 in
set_option maxHeartbeats 400000 in
theorem guess_word1 (w : World) :
    Calls Tryd.prog 69 #[.string ⟨#[105, 110, 102]⟩] w fun e w' => e = .returned (.agg #[.int .i64 13, .int .i64 1, .int .i64 0]) ∧ Below w.heap.size w w' := by
  go_enter Tryd.func69, Tryd.ntmps69
  go_wp2
  go_loopw [3] (fun i wr => ∃ k : Nat, k ≤ 1 ∧ i = .int .i64 k ∧ Below (w.alloc (.cells #[.int .i64 0, .int .i64 0, .int .i64 0] 24)).heap.size (w.alloc (.cells #[.int .i64 0, .int .i64 0, .int .i64 0] 24)) wr) (fun i _ => 4 - (intOf i).toNat)
  case atStart => exact ⟨0, Nat.zero_le _, rfl, Below.refl _ _⟩
  case round =>
    obtain ⟨k, hk, rfl, hb⟩ := hrel
    have HB : Hid (Below (w.alloc (.cells #[.int .i64 0, .int .i64 0, .int .i64 0] 24)).heap.size (w.alloc (.cells #[.int .i64 0, .int .i64 0, .int .i64 0] 24)) wr) := hb
    have HZ : Hid ((w.alloc (.cells #[.int .i64 0, .int .i64 0, .int .i64 0] 24)).heap.size ≤ wr.heap.size) := hb.size
    obtain ⟨q0, q1, q2, f0, f1, f2, hz, hb1⟩ := box3c hb
    have HB1 : Hid (Below w.heap.size w wr) := hb1
    clear hb hb1
    have hk4 : k = 0 ∨ k = 1 := by omega
    rcases hk4 with rfl | rfl
    · go_wp2_with (go_at_call 62; refine (spec_words _).mono ?_; rintro e w2 ⟨rfl, rfl⟩)
      go_roundw
      case rel => exact ⟨1, by omega, rfl, HB.out.alloc HZ.out _⟩
      case measure => simp [intOf]
    · go_wp2_with (go_at_call 62; refine (spec_words _).mono ?_; rintro e w2 ⟨rfl, rfl⟩)
      exact bodyPost_ret (v := .agg #[.int .i64 13, .int .i64 1, .int .i64 0]) (by simp [results, Tryd.results69, go_sem, q0, q1, q2, hz]) rfl
        ⟨rfl, (((HB1.out.setCell (Nat.le_refl _) _).setCell (Nat.le_refl _) _).setCell (Nat.le_refl _) _).alloc (by simp; omega) _⟩

set_option maxRecDepth 100000 in
set_option maxHeartbeats 400000 in
theorem guess_word2 (w : World) :
    Calls Tryd.prog 69 #[.string ⟨#[45, 105, 110, 102]⟩] w fun e w' => e = .returned (.agg #[.int .i64 13, .int .i64 2, .int .i64 0]) ∧ Below w.heap.size w w' := by
  go_enter Tryd.func69, Tryd.ntmps69
  go_wp2
  go_loopw [3] (fun i wr => ∃ k : Nat, k ≤ 2 ∧ i = .int .i64 k ∧ Below (w.alloc (.cells #[.int .i64 0, .int .i64 0, .int .i64 0] 24)).heap.size (w.alloc (.cells #[.int .i64 0, .int .i64 0, .int .i64 0] 24)) wr) (fun i _ => 4 - (intOf i).toNat)
  case atStart => exact ⟨0, Nat.zero_le _, rfl, Below.refl _ _⟩
  case round =>
    obtain ⟨k, hk, rfl, hb⟩ := hrel
    have HB : Hid (Below (w.alloc (.cells #[.int .i64 0, .int .i64 0, .int .i64 0] 24)).heap.size (w.alloc (.cells #[.int .i64 0, .int .i64 0, .int .i64 0] 24)) wr) := hb
    have HZ : Hid ((w.alloc (.cells #[.int .i64 0, .int .i64 0, .int .i64 0] 24)).heap.size ≤ wr.heap.size) := hb.size
    obtain ⟨q0, q1, q2, f0, f1, f2, hz, hb1⟩ := box3c hb
    have HB1 : Hid (Below w.heap.size w wr) := hb1
    clear hb hb1
    have hk4 : k = 0 ∨ k = 1 ∨ k = 2 := by omega
    rcases hk4 with rfl | rfl | rfl
    · go_wp2_with (go_at_call 62; refine (spec_words _).mono ?_; rintro e w2 ⟨rfl, rfl⟩)
      go_roundw
      case rel => exact ⟨1, by omega, rfl, HB.out.alloc HZ.out _⟩
      case measure => simp [intOf]
    · go_wp2_with (go_at_call 62; refine (spec_words _).mono ?_; rintro e w2 ⟨rfl, rfl⟩)
      go_roundw
      case rel => exact ⟨2, by omega, rfl, HB.out.alloc HZ.out _⟩
      case measure => simp [intOf]
    · go_wp2_with (go_at_call 62; refine (spec_words _).mono ?_; rintro e w2 ⟨rfl, rfl⟩)
      exact bodyPost_ret (v := .agg #[.int .i64 13, .int .i64 2, .int .i64 0]) (by simp [results, Tryd.results69, go_sem, q0, q1, q2, hz]) rfl
        ⟨rfl, (((HB1.out.setCell (Nat.le_refl _) _).setCell (Nat.le_refl _) _).setCell (Nat.le_refl _) _).alloc (by simp; omega) _⟩

set_option maxRecDepth 100000 in
set_option maxHeartbeats 400000 in
theorem guess_word3 (w : World) :
    Calls Tryd.prog 69 #[.string ⟨#[45, 48, 46, 48]⟩] w fun e w' => e = .returned (.agg #[.int .i64 13, .int .i64 3, .int .i64 0]) ∧ Below w.heap.size w w' := by
  go_enter Tryd.func69, Tryd.ntmps69
  go_wp2
  go_loopw [3] (fun i wr => ∃ k : Nat, k ≤ 3 ∧ i = .int .i64 k ∧ Below (w.alloc (.cells #[.int .i64 0, .int .i64 0, .int .i64 0] 24)).heap.size (w.alloc (.cells #[.int .i64 0, .int .i64 0, .int .i64 0] 24)) wr) (fun i _ => 4 - (intOf i).toNat)
  case atStart => exact ⟨0, Nat.zero_le _, rfl, Below.refl _ _⟩
  case round =>
    obtain ⟨k, hk, rfl, hb⟩ := hrel
    have HB : Hid (Below (w.alloc (.cells #[.int .i64 0, .int .i64 0, .int .i64 0] 24)).heap.size (w.alloc (.cells #[.int .i64 0, .int .i64 0, .int .i64 0] 24)) wr) := hb
    have HZ : Hid ((w.alloc (.cells #[.int .i64 0, .int .i64 0, .int .i64 0] 24)).heap.size ≤ wr.heap.size) := hb.size
    obtain ⟨q0, q1, q2, f0, f1, f2, hz, hb1⟩ := box3c hb
    have HB1 : Hid (Below w.heap.size w wr) := hb1
    clear hb hb1
    have hk4 : k = 0 ∨ k = 1 ∨ k = 2 ∨ k = 3 := by omega
    rcases hk4 with rfl | rfl | rfl | rfl
    · go_wp2_with (go_at_call 62; refine (spec_words _).mono ?_; rintro e w2 ⟨rfl, rfl⟩)
      go_roundw
      case rel => exact ⟨1, by omega, rfl, HB.out.alloc HZ.out _⟩
      case measure => simp [intOf]
    · go_wp2_with (go_at_call 62; refine (spec_words _).mono ?_; rintro e w2 ⟨rfl, rfl⟩)
      go_roundw
      case rel => exact ⟨2, by omega, rfl, HB.out.alloc HZ.out _⟩
      case measure => simp [intOf]
    · go_wp2_with (go_at_call 62; refine (spec_words _).mono ?_; rintro e w2 ⟨rfl, rfl⟩)
      go_roundw
      case rel => exact ⟨3, by omega, rfl, HB.out.alloc HZ.out _⟩
      case measure => simp [intOf]
    · go_wp2_with (go_at_call 62; refine (spec_words _).mono ?_; rintro e w2 ⟨rfl, rfl⟩)
      exact bodyPost_ret (v := .agg #[.int .i64 13, .int .i64 3, .int .i64 0]) (by simp [results, Tryd.results69, go_sem, q0, q1, q2, hz]) rfl
        ⟨rfl, (((HB1.out.setCell (Nat.le_refl _) _).setCell (Nat.le_refl _) _).setCell (Nat.le_refl _) _).alloc (by simp; omega) _⟩

end Go.Proofs.YtdhoimjkgicneaaDoor
