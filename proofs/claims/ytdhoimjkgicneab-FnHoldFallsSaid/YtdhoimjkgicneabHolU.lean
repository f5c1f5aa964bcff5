/- What is kept, held against bytes. -/
import Derived.Test.YtdhoimjkgicneabHolE
namespace Go.Proofs.Ytdhoimjkgicneab
open Go Go.RowKit

theorem same_now {B : Nat} {r : Ro} {d : Value} {q q' : Bool} {ks : List Nat} {w : World} (h : (∃ xs, r.now = some xs ∧ q = true ∧ Own B d xs w) ∨ (r.now = none ∧ q = false ∧ d = .slice none 0 0)) (hn : r.now = if q' = true then some ks else none) (hf : Few ks) (he : q' = false → ks = []) :
    ∃ ys, Hid (BytesAt d ys w ∧ Few ys ∧ (q = q' ∧ ys = ks)) := by
  rcases h with ⟨xs, h1, rfl, h3⟩ | ⟨h1, rfl, rfl⟩
  · rw [hn] at h1
    cases q' with
    | true =>
      simp at h1
      subst h1
      exact ⟨ks, h3.at, hf, rfl, rfl⟩
    | false => simp at h1
  · rw [hn] at h1
    cases q' with
    | true => simp at h1
    | false =>
      have := he rfl
      subst this
      exact ⟨[], Or.inr ⟨rfl, rfl⟩, Few.nil, rfl, rfl⟩


/-- What is answered of a store, as bytes and whether there are any. -/
theorem now_bytes {B : Nat} {r : Ro} {u : Value} {w : World} (ok : RoOk r) (h : NowAt B r u w) : ∃ d q ks, u = .tuple #[d, .bool q] ∧ BytesAt d ks w ∧ Few ks ∧ (q = false → ks = []) ∧ r.now = if q = true then some ks else none := by
  obtain ⟨d, q, rfl, h | h⟩ := h
  · obtain ⟨xs, h1, rfl, h3⟩ := h
    refine ⟨d, true, xs, rfl, h3.at, ?_, by simp, by simpa using h1⟩
    unfold Ro.now at h1
    split at h1
    · injection h1 with h1; rw [← h1]; exact ok.ad
    split at h1
    · injection h1 with h1; rw [← h1]; exact ok.bd
    · cases h1
  · obtain ⟨h1, rfl, rfl⟩ := h
    exact ⟨_, false, [], rfl, Or.inr ⟨rfl, rfl⟩, Few.nil, fun _ => rfl, by simpa using h1⟩

end Go.Proofs.Ytdhoimjkgicneab
