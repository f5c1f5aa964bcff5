/- Bytes that are held or owned: one of them, one put. -/
import Derived.Test.YtdhoimjkgicneacHolB0
import Derived.Test.YtdhoimjkgicneacRegK
import Derived.Deep.RegionHeld
import Derived.StillTailTactics
import Derived.Deep.Cut
namespace Go.Proofs.Ytdhoimjkgicneac
open Go Go.RowKit

theorem BytesAt.cellAt {a : Option Addr} {n cap : Nat} {xs : List Nat} {w : World} (h : BytesAt (.slice a n cap) xs w) {i : Nat} (hi : i < xs.length) :
    ∃ b off, a = some ⟨b, off, none⟩ ∧ b < w.heap.size ∧ w.cell? ⟨b, off + i, none⟩ = some (.int .u8 (xs[i] : Nat)) := by
  rcases h with ⟨b, off, cap', e, hz, hc, he⟩ | ⟨rfl, e⟩
  · simp only [Value.slice.injEq] at e
    obtain ⟨rfl, -, -⟩ := e
    exact ⟨b, off, rfl, hz, he i _ (List.getElem?_eq_getElem hi)⟩
  · simp at hi

theorem own_cases {base : Nat} {v : Value} {xs : List Nat} {w : World} (h : Own base v xs w) : (v = .slice none 0 0 ∧ xs = []) ∨ ∃ g cap, v = .slice (some ⟨g, 0, none⟩) xs.length cap ∧ base ≤ g ∧ g < w.heap.size := by
  rcases h.2 with ⟨rfl, h0⟩ | ⟨g, cap, cur, rfl, hb, hg, -⟩
  · exact Or.inl ⟨rfl, List.eq_nil_of_length_eq_zero h0⟩
  · exact Or.inr ⟨g, cap, rfl, hb, (Array.getElem?_eq_some_iff.1 hg).1⟩

theorem bytesV_set (xs : List Nat) (i x : Nat) : (bytesV xs).set i (.int .u8 (x : Int)) = bytesV (xs.set i x) := by simp [bytesV]

theorem Own.put {base g cap n : Nat} {xs : List Nat} {w : World} (h : Own base (.slice (some ⟨g, 0, none⟩) n cap) xs w) (hn : n = xs.length) (i x : Nat) : Own base (.slice (some ⟨g, 0, none⟩) n cap) (xs.set i x) (w.setCell ⟨g, i, none⟩ (.int .u8 (x : Int))) := by
  subst hn
  unfold Own at h ⊢
  rw [← bytesV_set, List.length_set]
  exact (World.ownsRow.stored h i _).1

theorem Own.cellAt {base g cap n : Nat} {xs : List Nat} {w : World} (h : Own base (.slice (some ⟨g, 0, none⟩) n cap) xs w) (hn : n = xs.length) {i : Nat} (hi : i < xs.length) : w.cell? ⟨g, i, none⟩ = some (.int .u8 (xs[i] : Nat)) ∧ w.frozen? ⟨g, i, none⟩ = false := by
  subst hn
  refine ⟨?_, World.ownsRow.frozenAt h i⟩
  rw [World.ownsRow.cellAt h i (by omega), bytesV_get, List.getElem?_eq_getElem hi]
  rfl

end Go.Proofs.Ytdhoimjkgicneac
