/- Texts of this proof laid together: DevT, CodeA. -/
import Derived.Test.YtdhoimjkgicneacDoorLot16
import Derived.Test.YtdhoimjkgicneacDoorLot33
import Derived.Lib.LaidTab
import Derived.OpenShut
import Derived.Test.YtdhoimjkgicneacDoorLot8
/- The row's list of package variables gives what the walks ask of the tables. -/
namespace Go.Proofs.YtdhoimjkgicneacDoor
open Go Go.ChangeShapes Go.WideShapes Go.ChangeAt Go.RowKit

theorem gWords : Tryd.prog.globalNamed "loop.example/stilhold/impl.devWords" = some 1 := by kernel_rfl
theorem tWords : (Tryd.prog.globals[1]?).map (·.type) = some 108 := by kernel_rfl
theorem tPow : (Tryd.prog.globals[3]?).map (·.type) = some 122 := by kernel_rfl
theorem cPow : Tryd.prog.cellsOf 122 = 20 := by kernel_rfl
theorem cU64 : Tryd.prog.cellsOf 23 = 1 := by kernel_rfl

set_option maxRecDepth 100000 in
theorem tabs {W : World} (h : laidMetH Tryd.prog [("math/bits.deBruijn32tab", Rows.laid_math_bits_deBruijn32tab), ("math/bits.deBruijn64tab", Rows.laid_math_bits_deBruijn64tab), ("internal/strconv.uint64pow10", Rows.laid_internal_strconv_uint64pow10), ("loop.example/stilhold/impl.devKinds", Rows.laid_loop_example_stilhold_impl_devKinds), ("loop.example/stilhold/impl.devWords", Rows.laid_loop_example_stilhold_impl_devWords)] W) : Tabs W := by
  have h' : laidMet Tryd.prog [("math/bits.deBruijn32tab", Rows.laid_math_bits_deBruijn32tab), ("math/bits.deBruijn64tab", Rows.laid_math_bits_deBruijn64tab), ("internal/strconv.uint64pow10", Rows.laid_internal_strconv_uint64pow10), ("loop.example/stilhold/impl.devKinds", Rows.laid_loop_example_stilhold_impl_devKinds), ("loop.example/stilhold/impl.devWords", Rows.laid_loop_example_stilhold_impl_devWords)] W := h
  obtain ⟨ps, hV, -, -⟩ := h'
  obtain ⟨ga, ta, ca, fa, pa, qa, hga, hta, hva, hda, hV, -⟩ := hV
  obtain ⟨gb, tb, cb, fb, pb, qb, hgb, htb, hvb, hdb, hV, -⟩ := hV
  obtain ⟨gc, tc, cc, fc, pc, qc, hgc, htc, hvc, hdc, hV, -⟩ := hV
  obtain ⟨gd, td, cd, fd, pd, qd, hgd, htd, hvd, hdd, hV, -⟩ := hV
  obtain ⟨ge, te, ce, fe, pe, qe, hge, hte, hve, hde, hV, -⟩ := hV
  clear hV hda hdb hva hvb hta htb hga hgb
  obtain rfl := Option.some.inj (gPow.symm.trans hgc)
  obtain rfl := Option.some.inj (tPow.symm.trans htc)
  obtain rfl := Option.some.inj (gKinds.symm.trans hgd)
  obtain rfl := Option.some.inj (tKinds.symm.trans htd)
  obtain rfl := Option.some.inj (gWords.symm.trans hge)
  obtain rfl := Option.some.inj (tWords.symm.trans hte)
  have hpow : Lib.TabIs Tryd.prog W "internal/strconv.uint64pow10" .u64 Lib.pow10Tab := by
    have e := Lib.cells_of_tab (k := .u64) (zs := Lib.pow10Tab) Tryd.underlying122 Tryd.underlying23 cU64 cPow hdc
    unfold Lib.TabIs
    rw [hvc, ← e]
  have KT : KTab W := ktab_of hvd hdd
  have hwd : ∀ i : Nat, i < 4 → W.cell? ⟨1, i, none⟩ = some (.string ⟨(wordL i).toArray⟩) := by
    obtain ⟨xs, m, -, hx, hl, hlen, hf⟩ := DataW.trod_array Tryd.underlying108 hde
    simp only [cStr] at hf
    have hx1 := congrArg Prod.fst hx
    simp only [Rows.laid_loop_example_stilhold_impl_devWords, DataW.agg.injEq] at hx1
    intro i hi
    have hk := hf i hi
    have hxk : i < xs.length := by omega
    rw [List.getElem?_eq_getElem hxk] at hk
    have hD : (xs.map (·.1))[i]? = some (xs[i].1) := by simp [hxk]
    rw [← hx1] at hD
    obtain ⟨s, e0, e1, -⟩ := DataW.trod_string Tryd.underlying9 hk
    have ec : ce.toList[i]? = some (.string s) := by
      have := congrArg (·[0]?) e0
      simpa [List.getElem?_take, List.getElem?_drop] using this
    have e2 := World.var?_cell gWords hve i
    rw [e2, ← Array.getElem?_toList, ec]
    have e3 : xs[i].1 = .lit (.string s.data.toList) := by rw [e1]
    rw [e3] at hD
    have hcase : i = 0 ∨ i = 1 ∨ i = 2 ∨ i = 3 := by omega
    rcases hcase with rfl | rfl | rfl | rfl
    all_goals
      have h5 := Option.some.inj hD
      simp only [DataW.lit.injEq, Lit.string.injEq] at h5
      rw [str_of h5.symm]
      rfl
  exact ⟨KT.zk, size_of gWords hve, size_of gPow hvc, KT.k0, KT.k1, KT.k2, KT.k3, KT.k4, hwd, hpow⟩

end Go.Proofs.YtdhoimjkgicneacDoor

/- A code: a slice of bytes as it comes in. -/
namespace Go.Proofs.YtdhoimjkgicneacDoor
open Go Go.RowKit

/-- A value that is a slice of bytes, as it lies before the call. -/
def CodeAt (v : Value) (w : World) : Prop :=
  (∃ b off len cap : Nat, v = .slice (some ⟨b, off, none⟩) len cap ∧ b < w.heap.size ∧ 1 ≤ len ∧ len ≤ cap ∧ cap ≤ 9223372036854775807 ∧ ∀ i, i < len → ∃ x : Nat, x ≤ 255 ∧ w.cell? ⟨b, off + i, none⟩ = some (.int .u8 x)) ∨ (∃ (a : Option Addr) (cap : Nat), v = .slice a 0 cap)

theorem CodeAt.below {v : Value} {w w' : World} (h : CodeAt v w) (hb : Below w.heap.size w w') : CodeAt v w' := by
  rcases h with ⟨b, off, len, cap, rfl, hz, h1, h2, h3, he⟩ | ⟨a, cap, rfl⟩
  · refine Or.inl ⟨b, off, len, cap, rfl, Nat.lt_of_lt_of_le hz hb.size, h1, h2, h3, fun i hi => ?_⟩
    obtain ⟨x, hx, ex⟩ := he i hi
    exact ⟨x, hx, (hb.cell (p := ⟨b, off + i, none⟩) hz).trans ex⟩
  · exact Or.inr ⟨a, cap, rfl⟩

end Go.Proofs.YtdhoimjkgicneacDoor
