/- The row's list of package variables gives what the walks ask of the tables. -/
import Derived.Test.YtdhoimjkgicneabDoorDevF
import Derived.Test.YtdhoimjkgicneabDoorDevKT
import Derived.Test.YtdhoimjkgicneabDoorClose
import Derived.Lib.LaidTab
import Derived.OpenShut
namespace Go.Proofs.YtdhoimjkgicneabDoor
open Go Go.ChangeShapes Go.WideShapes Go.ChangeAt Go.RowKit

theorem gWords : Tryd.prog.globalNamed "loop.example/stilhold/impl.devWords" = some 0 := by kernel_rfl
theorem tWords : (Tryd.prog.globals[0]?).map (·.type) = some 78 := by kernel_rfl
theorem tPow : (Tryd.prog.globals[3]?).map (·.type) = some 140 := by kernel_rfl
theorem cPow : Tryd.prog.cellsOf 140 = 20 := by kernel_rfl
theorem cU64 : Tryd.prog.cellsOf 24 = 1 := by kernel_rfl

set_option maxRecDepth 100000 in
theorem tabs {W : World} (h : laidMetH Tryd.prog [("math/bits.deBruijn32tab", Rows.laid_math_bits_deBruijn32tab), ("math/bits.deBruijn64tab", Rows.laid_math_bits_deBruijn64tab), ("internal/strconv.uint64pow10", Rows.laid_internal_strconv_uint64pow10), ("loop.example/stilhold/impl.devKinds", Rows.laid_loop_example_stilhold_impl_devKinds), ("loop.example/stilhold/impl.devWords", Rows.laid_loop_example_stilhold_impl_devWords)] W) : Tabs W := by
  have h' : laidMet Tryd.prog [("math/bits.deBruijn32tab", Rows.laid_math_bits_deBruijn32tab), ("math/bits.deBruijn64tab", Rows.laid_math_bits_deBruijn64tab), ("internal/strconv.uint64pow10", Rows.laid_internal_strconv_uint64pow10), ("loop.example/stilhold/impl.devKinds", Rows.laid_loop_example_stilhold_impl_devKinds), ("loop.example/stilhold/impl.devWords", Rows.laid_loop_example_stilhold_impl_devWords)] W := h
  obtain ⟨ps, hV, -, -⟩ := h'
  obtain ⟨ga, ta, ca, fa, pa, qa, hga, hta, hva, hda, hV, -⟩ := hV
  obtain ⟨gb, tb, cb, fb, pb, qb, hgb, htb, hvb, hdb, hV, -⟩ := hV
  obtain ⟨gc, tc, cc, fc, pc, qc, hgc, htc, hvc, hdc, hV, -⟩ := hV
  obtain ⟨gd, td, cd, fd, pd, qd, hgd, htd, hvd, hdd, hV, -⟩ := hV
  obtain ⟨ge, te, ce, fe, pe, qe, hge, hte, hve, hde, hV, -⟩ := hV
  clear hV hda hdb hva hvb hta htb hga hgb
  obtain rfl := Option.some.inj (gPow.symm.trans hgc)
  obtain rfl := Option.some.inj (tPow.symm.trans htc)
  obtain rfl := Option.some.inj (gKinds.symm.trans hgd)
  obtain rfl := Option.some.inj (tKinds.symm.trans htd)
  obtain rfl := Option.some.inj (gWords.symm.trans hge)
  obtain rfl := Option.some.inj (tWords.symm.trans hte)
  have hpow : Lib.TabIs Tryd.prog W "internal/strconv.uint64pow10" .u64 Lib.pow10Tab := by
    have e := Lib.cells_of_tab (k := .u64) (zs := Lib.pow10Tab) Tryd.underlying140 Tryd.underlying24 cU64 cPow hdc
    unfold Lib.TabIs
    rw [hvc, ← e]
  have KT : KTab W := ktab_of hvd hdd
  have hwd : ∀ i : Nat, i < 4 → W.cell? ⟨0, i, none⟩ = some (.string ⟨(wordL i).toArray⟩) := by
    obtain ⟨xs, m, -, hx, hl, hlen, hf⟩ := DataW.trod_array Tryd.underlying78 hde
    simp only [cStr] at hf
    have hx1 := congrArg Prod.fst hx
    simp only [Rows.laid_loop_example_stilhold_impl_devWords, DataW.agg.injEq] at hx1
    intro i hi
    have hk := hf i hi
    have hxk : i < xs.length := by omega
    rw [List.getElem?_eq_getElem hxk] at hk
    have hD : (xs.map (·.1))[i]? = some (xs[i].1) := by simp [hxk]
    rw [← hx1] at hD
    obtain ⟨s, e0, e1, -⟩ := DataW.trod_string Tryd.underlying9 hk
    have ec : ce.toList[i]? = some (.string s) := by
      have := congrArg (·[0]?) e0
      simpa [List.getElem?_take, List.getElem?_drop] using this
    have e2 := World.var?_cell gWords hve i
    rw [e2, ← Array.getElem?_toList, ec]
    have e3 : xs[i].1 = .lit (.string s.data.toList) := by rw [e1]
    rw [e3] at hD
    have hcase : i = 0 ∨ i = 1 ∨ i = 2 ∨ i = 3 := by omega
    rcases hcase with rfl | rfl | rfl | rfl
    all_goals
      have h5 := Option.some.inj hD
      simp only [DataW.lit.injEq, Lit.string.injEq] at h5
      rw [str_of h5.symm]
      rfl
  exact ⟨KT.zk, size_of gWords hve, size_of gPow hvc, KT.k0, KT.k1, KT.k2, KT.k3, KT.k4, hwd, hpow⟩

end Go.Proofs.YtdhoimjkgicneabDoor
