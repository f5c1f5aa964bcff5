/- What the specification's DevRead does. -/
import Derived.Test.YtdhoimjkgicneaaDoorReadG
namespace Go.Proofs.YtdhoimjkgicneaaDoor
open Go Go.RowKit

/-- What reading a text answers: the operand of which it is the text, or none. -/
def Reads (l : List UInt8) (e : Ending) : Prop :=
  (∃ k n p : Int, okB k n p = true ∧ textL k n p = l ∧ e = .returned (.tuple #[.agg #[.int .i64 k, .int .i64 n, .int .i64 p], .bool true])) ∨
  ((∀ k n p : Int, okB k n p = true → textL k n p ≠ l) ∧ e = .returned (.tuple #[.agg #[.int .i64 0, .int .i64 0, .int .i64 0], .bool false]))

theorem text_ok {k n p : Int} {l : List UInt8} (h : textL k n p = l) (hl : l ≠ []) : okB k n p = true := by
  cases hk : okB k n p with
  | true => rfl
  | false => exfalso; apply hl; rw [← h]; unfold textL; rw [if_pos hk]

theorem none_guess {l : List UInt8} {k n p : Int} (hg : guessP l = (k, n, p)) (h : textL k n p ≠ l) : ∀ k' n' p' : Int, okB k' n' p' = true → textL k' n' p' ≠ l := by
  intro k' n' p' h1 h2
  have h3 := (read_same h1 h2).1
  rw [hg] at h3
  cases h3
  exact h h2
theorem none_scan {l : List UInt8} {k n p : Int} (hg : scanP l = (k, n, p)) (h : okB k n p = false ∨ textL k n p ≠ l) : ∀ k' n' p' : Int, okB k' n' p' = true → textL k' n' p' ≠ l := by
  intro k' n' p' h1 h2
  have h3 := (read_same h1 h2).2
  rw [hg] at h3
  cases h3
  rcases h with h | h
  · rw [h1] at h; cases h
  · exact h h2

theorem kept3 {w1 w2 : World} {b : Nat} {x y z : Value} (hb : Below w1.heap.size w1 w2) (hz : b < w1.heap.size) (q0 : w1.cell? ⟨b, 0, none⟩ = some x) (q1 : w1.cell? ⟨b, 1, none⟩ = some y) (q2 : w1.cell? ⟨b, 2, none⟩ = some z)
    (f0 : w1.frozen? ⟨b, 0, none⟩ = false) (f1 : w1.frozen? ⟨b, 1, none⟩ = false) (f2 : w1.frozen? ⟨b, 2, none⟩ = false) :
    w2.cell? ⟨b, 0, none⟩ = some x ∧ w2.cell? ⟨b, 1, none⟩ = some y ∧ w2.cell? ⟨b, 2, none⟩ = some z ∧ w2.frozen? ⟨b, 0, none⟩ = false ∧ w2.frozen? ⟨b, 1, none⟩ = false ∧ w2.frozen? ⟨b, 2, none⟩ = false :=
  ⟨(hb.cell (p := ⟨b, 0, none⟩) hz).trans q0, (hb.cell (p := ⟨b, 1, none⟩) hz).trans q1, (hb.cell (p := ⟨b, 2, none⟩) hz).trans q2,
    (hb.frozen (p := ⟨b, 0, none⟩) hz).trans f0, (hb.frozen (p := ⟨b, 1, none⟩) hz).trans f1, (hb.frozen (p := ⟨b, 2, none⟩) hz).trans f2⟩

set_option maxRecDepth 100000 in
set_option maxHeartbeats 800000 in
theorem spec_read (s : ByteArray) (w : World) (hs : s.size ≤ 1000) :
    Calls Tryd.prog 18 #[.string s] w fun e w' => Reads s.data.toList e ∧ Below w.heap.size w w' := by
  go_enter Tryd.func18, Tryd.ntmps18
  go_wp2_with fail
  refine (guess_all s _ hs).mono ?_
  rintro e w1 ⟨k, n, p, rfl, hg, hb⟩
  obtain ⟨q0, q1, q2, f0, f1, f2, hz, hb1⟩ := box3b hb
  have HG : Hid (guessP s.data.toList = (k, n, p)) := hg
  have HB : Hid (Below w.heap.size w w1) := hb1
  clear hg hb hb1
  cases hn : s.toList.isEmpty with
  | true =>
    have HE : Hid (s.data.toList = []) := by
      rw [ByteArray.toList_eq] at hn
      exact List.isEmpty_iff.1 hn
    go_wp2
    refine bodyPost_ret (v := .tuple #[.agg #[.int .i64 0, .int .i64 0, .int .i64 0], .bool false]) (by simp [results, Tryd.results18, go_sem, q0, q1, q2, hz]) rfl ⟨Or.inr ⟨?_, rfl⟩, ?_⟩
    · intro k' n' p' h1 h2
      rw [HE.out] at h2
      exact textL_ne h1 h2
    · exact (((HB.out.setCell (Nat.le_refl _) _).setCell (Nat.le_refl _) _).setCell (Nat.le_refl _) _).alloc (by simp; omega) _
  | false =>
    have HE : Hid (s.data.toList ≠ []) := by
      intro e
      rw [ByteArray.toList_eq, e] at hn
      cases hn
    go_wp2_with fail
    refine (spec_text k n p _).mono ?_
    rintro e w2 ⟨rfl, hb2⟩
    obtain ⟨c0, c1, c2, hz2, hb3⟩ := box3 hb2
    obtain ⟨p0, p1, p2, g0, g1, g2⟩ := kept3 hb3 hz q0 q1 q2 f0 f1 f2
    have HB2 : Hid (Below w.heap.size w w2) := HB.out.trans (hb3.mono (by omega))
    have hz3 : w.heap.size < w2.heap.size := by omega
    clear hb2 hb3 q0 q1 q2 f0 f1 f2
    cases hc : (textL k n p == s.toList) with
    | true =>
      have HT : Hid (textL k n p = s.data.toList) := by
        rw [ByteArray.toList_eq] at hc
        exact beq_iff_eq.1 hc
      go_wp2
      exact bodyPost_ret (v := .tuple #[.agg #[.int .i64 k, .int .i64 n, .int .i64 p], .bool true]) (by simp [results, Tryd.results18, go_sem, p0, p1, p2]) rfl
        ⟨Or.inl ⟨k, n, p, text_ok HT.out HE.out, HT.out, rfl⟩, ((HB2.out.setCell (Nat.le_refl _) _).setCell (Nat.le_refl _) _).setCell (Nat.le_refl _) _⟩
    | false =>
      have HT : Hid (textL k n p ≠ s.data.toList) := by
        rw [ByteArray.toList_eq] at hc
        exact beq_eq_false_iff_ne.1 hc
      go_wp2
      exact bodyPost_ret (v := .tuple #[.agg #[.int .i64 0, .int .i64 0, .int .i64 0], .bool false]) (by simp [results, Tryd.results18, go_sem, p0, p1, p2]) rfl
        ⟨Or.inr ⟨none_guess HG.out HT.out, rfl⟩, ((HB2.out.setCell (Nat.le_refl _) _).setCell (Nat.le_refl _) _).setCell (Nat.le_refl _) _⟩

end Go.Proofs.YtdhoimjkgicneaaDoor
