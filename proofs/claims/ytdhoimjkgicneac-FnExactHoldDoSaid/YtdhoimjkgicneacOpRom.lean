/- An argument that is a store: its bytes and its slices. -/
import Derived.Test.YtdhoimjkgicneacHelB
import Derived.Test.YtdhoimjkgicneacCodeOf
import Derived.Test.YtdhoimjkgicneacCellK
import Derived.Deep.Strs
import Derived.ChangeSame
namespace Go.Proofs.Ytdhoimjkgicneac
open Go Go.ChangeShapes Go.WideShapes Go.ChangeAt Go.RowKit

set_option maxRecDepth 100000 in
theorem romTypes : Try.prog.cellTypes Try.prog.depth 26 = some [5, 5, 22, 5, 5, 22] := by kernel_rfl

set_option maxRecDepth 100000 in
theorem rom_cells {W : World} {r : Reach} {base : Nat} {v : Value} (h : Value.okWide Try.prog W r base 26 v) : ∃ (m t m' t' : Nat) (a a' : Option Addr) (n c n' c' : Nat), v = .agg #[.int .u8 (m : Int), .int .u8 (t : Int), .slice a n c, .int .u8 (m' : Int), .int .u8 (t' : Int), .slice a' n' c'] ∧ m ≤ 255 ∧ t ≤ 255 ∧ m' ≤ 255 ∧ t' ≤ 255 := by
  have h' : ∃ cs, v = .agg cs ∧ cs.size = Try.prog.cellsOf 26 ∧ Row.okWide Try.prog W r base 26 cs := by
    unfold Value.okWide at h
    rw [Try.underlying26] at h
    exact h
  obtain ⟨cs, rfl, hsz, ts, ht, -, hc⟩ := h'
  have hsz : cs.size = 6 := hsz.trans (by kernel_rfl)
  obtain rfl : [5, 5, 22, 5, 5, 22] = ts := Option.some.inj (romTypes.symm.trans ht)
  have hb : ∀ i, i < 6 → ∀ u, [5, 5, 22, 5, 5, 22][i]? = some u → Cell.okWide Try.prog W r base u (cs.getD i undef) := fun i hi u hu => by
    obtain ⟨u', hu', hok⟩ := hc i (cs.getD i undef) (by simp [Array.getD, hsz, hi])
    have hi' : i % 6 = i := Nat.mod_eq_of_lt hi
    have hu2 : [5, 5, 22, 5, 5, 22][i % 6]? = some u' := hu'
    rw [hi'] at hu2
    obtain rfl : u' = u := Option.some.inj (hu2.symm.trans hu)
    exact hok
  have num : ∀ i, i < 6 → [5, 5, 22, 5, 5, 22][i]? = some 5 → ∃ z : Nat, cs[i]? = some (.int .u8 (z : Int)) ∧ z ≤ 255 := fun i hi hu => by
    obtain ⟨z, hz, h1, h2⟩ := cell_int Try.underlying5 (hb i hi _ hu)
    have h1 : 0 ≤ z := h1
    have h2 : z ≤ 255 := h2
    refine ⟨z.toNat, ?_, by omega⟩
    rw [show ((z.toNat : Nat) : Int) = z by omega, ← hz]
    simp [Array.getD, hsz, hi]
  have sl : ∀ i, i < 6 → [5, 5, 22, 5, 5, 22][i]? = some 22 → ∃ a n c, cs[i]? = some (.slice a n c) := fun i hi hu => by
    have hv : Value.okWide Try.prog W r base 22 (cs.getD i undef) := by
      unfold Value.okWide
      rw [Try.underlying22]
      exact hb i hi _ hu
    obtain ⟨a, n, c, hz⟩ := okWide_slice Try.underlying22 hv
    refine ⟨a, n, c, ?_⟩
    rw [← hz]
    simp [Array.getD, hsz, hi]
  obtain ⟨m, e0, b0⟩ := num 0 (by omega) rfl
  obtain ⟨t, e1, b1⟩ := num 1 (by omega) rfl
  obtain ⟨a, n, c, e2⟩ := sl 2 (by omega) rfl
  obtain ⟨m', e3, b3⟩ := num 3 (by omega) rfl
  obtain ⟨t', e4, b4⟩ := num 4 (by omega) rfl
  obtain ⟨a', n', c', e5⟩ := sl 5 (by omega) rfl
  refine ⟨m, t, m', t', a, a', n, c, n', c', ?_, b0, b1, b3, b4⟩
  congr 1
  apply Array.ext_getElem?
  intro i
  have hcase : i = 0 ∨ i = 1 ∨ i = 2 ∨ i = 3 ∨ i = 4 ∨ i = 5 ∨ 6 ≤ i := by omega
  rcases hcase with rfl | rfl | rfl | rfl | rfl | rfl | h6
  · exact e0
  · exact e1
  · exact e2
  · exact e3
  · exact e4
  · exact e5
  · rw [Array.getElem?_eq_none (by omega), Array.getElem?_eq_none (by simpa using h6)]

set_option maxRecDepth 100000 in
theorem rom_codes {H : Type} {enc : TypeId × Value → H} {W : World} {m t m' t' : Value} {a a' : Option Addr} {n c n' c' : Nat} {d : DataW H} {ps : List MemPlace}
    (h : DataW.Trod enc Try.prog W 0 (fun _ => true) true 26 (.agg #[m, t, .slice a n c, m', t', .slice a' n' c']) d ps) : (CodeAt (.slice a n c) W ∧ n ≤ 9223372036854775807) ∧ CodeAt (.slice a' n' c') W ∧ n' ≤ 9223372036854775807 := by
  obtain ⟨fuel, hf⟩ := h
  have hl : (Value.agg #[m, t, .slice a n c, m', t', .slice a' n' c']).cells.toList = [m, t, .slice a n c, m', t', .slice a' n' c'] := rfl
  rw [hl] at hf
  obtain ⟨y0, y1, k, -, -, h0, h1⟩ := trod_struct2 Try.underlying26 hf
  have cS : Try.prog.cellsOf 24 = 3 := by kernel_rfl
  have cB : Try.prog.cellsOf 5 = 1 := by kernel_rfl
  have cL : Try.prog.cellsOf 22 = 1 := by kernel_rfl
  simp only [cS, List.drop_zero, List.take_succ_cons, List.take_zero, List.drop_succ_cons] at h0 h1
  obtain ⟨-, -, z2, k2, -, -, -, -, g2⟩ := Go.Deep.trod_struct3 Try.underlying24 h0
  obtain ⟨-, -, z3, k3, -, -, -, -, g3⟩ := Go.Deep.trod_struct3 Try.underlying24 h1
  simp only [cL, List.drop_zero, List.take_succ_cons, List.take_zero, List.drop_succ_cons] at g2 g3
  exact ⟨code_of (d := z2.1) (ps := z2.2) ⟨k2, g2⟩, code_of (d := z3.1) (ps := z3.2) ⟨k3, g3⟩⟩

end Go.Proofs.Ytdhoimjkgicneac
