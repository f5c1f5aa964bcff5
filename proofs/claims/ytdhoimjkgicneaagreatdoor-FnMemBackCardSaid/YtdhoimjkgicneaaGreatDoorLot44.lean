/- Texts of this proof laid together: ZT, CodeOf. -/
import Derived.Test.YtdhoimjkgicneaaGreatDoorLot24
import Derived.Test.YtdhoimjkgicneaaGreatDoorLot43
import Derived.Test.YtdhoimjkgicneaaGreatDoorLot21
import Derived.Test.YtdhoimjkgicneaaGreatDoorLot20
import Derived.Lib.LaidTab
import Derived.OpenShut
import Derived.Lay
import Derived.Test.YtdhoimjkgicneaaGreatDoorLot4
/- The row's list of package variables gives what the walks of a memory's text ask of the tables. -/
namespace Go.Proofs.YtdhoimjkgicneaaGreatDoor
open Go Go.ChangeShapes Go.WideShapes Go.ChangeAt Go.RowKit

theorem gWords : Tryz.prog.globalNamed "loop.example/stilhold/impl.devWords" = some 0 := by kernel_rfl
theorem tWords : (Tryz.prog.globals[0]?).map (·.type) = some 113 := by kernel_rfl
theorem tPow : (Tryz.prog.globals[2]?).map (·.type) = some 140 := by kernel_rfl
theorem cPow : Tryz.prog.cellsOf 140 = 20 := by kernel_rfl
theorem cU64 : Tryz.prog.cellsOf 24 = 1 := by kernel_rfl

theorem gSyn : Tryz.prog.globalNamed "strconv.ErrSyntax" = some 4 := by kernel_rfl
theorem gRan : Tryz.prog.globalNamed "strconv.ErrRange" = some 5 := by kernel_rfl
theorem tSyn : (Tryz.prog.globals[4]?).map (·.type) = some 78 := by kernel_rfl
theorem tRan : (Tryz.prog.globals[5]?).map (·.type) = some 78 := by kernel_rfl

theorem trod_ifaceR {P : Program} {H : Type} {enc : TypeId × Value → H} {w : World} {base : Nat} {spare : Nat → Bool} {held : Bool} {fuel : Nat} {t : TypeId} {ms : Array (String × TypeId)} {cs : List Value} {nm : String} {d : DataW H} {p : List MemPlace}
    (ht : P.underlying t = some (.interface ms)) (h : DataW.trod enc P w base spare held fuel t cs = some (.iface nm d, p)) : ∃ u v, cs = [.iface u v] := by
  cases fuel with
  | zero => simp [DataW.trod] at h
  | succ n =>
    unfold DataW.trod at h
    rw [ht] at h
    split at h <;> simp_all

theorem size_ofR {W : World} {n : String} {g : Nat} {cs : Array Value} (hg : Tryz.prog.globalNamed n = some g) (hv : W.var? Tryz.prog n = some cs) : g < W.heap.size := by
  unfold World.var? at hv
  simp only [hg, Option.bind_some] at hv
  cases hh : W.heap[g]? with
  | none => rw [hh] at hv; cases hv
  | some o => exact (Array.getElem?_eq_some_iff.1 hh).1

theorem iface_cell {W : World} {n : String} {g : Nat} {cs : Array Value} (hg : Tryz.prog.globalNamed n = some g) (hv : W.var? Tryz.prog n = some cs) (h : ∃ u v, cs.toList = [.iface u v]) : ∃ te pe, W.cell? ⟨g, 0, none⟩ = some (.iface te pe) := by
  obtain ⟨u, v, e⟩ := h
  refine ⟨u, v, ?_⟩
  have := World.var?_cell hg hv 0
  rw [this, ← Array.getElem?_toList, e]
  rfl

theorem iface_var {W : World} {n : String} {cs : Array Value} (hv : W.var? Tryz.prog n = some cs) (h : ∃ u v, cs.toList = [.iface u v]) : ∃ te pe, W.var? Tryz.prog n = some #[.iface te pe] := by
  obtain ⟨u, v, e⟩ := h
  refine ⟨u, v, ?_⟩
  rw [hv]
  congr 1
  cases cs
  simp_all

set_option maxRecDepth 100000 in
theorem tabsZ {W : World} (h : laidMetH Tryz.prog [("math/bits.deBruijn32tab", Rows.laid_math_bits_deBruijn32tab), ("math/bits.deBruijn64tab", Rows.laid_math_bits_deBruijn64tab), ("internal/strconv.uint64pow10", Rows.laid_internal_strconv_uint64pow10), ("unicode/utf8.acceptRanges", Rows.laid_unicode_utf8_acceptRanges), ("strconv.ErrRange", Rows.laid_strconv_ErrRange), ("strconv.ErrSyntax", Rows.laid_strconv_ErrSyntax), ("loop.example/stilhold/impl.devKinds", Rows.laid_loop_example_stilhold_impl_devKinds), ("loop.example/stilhold/impl.devWords", Rows.laid_loop_example_stilhold_impl_devWords), ("unicode/utf8.first", Rows.laid_unicode_utf8_first)] W) (hsh : W.ShapedOpen Tryz.prog) : Tabs W ∧ RTab W := by
  have h' : laidMet Tryz.prog [("math/bits.deBruijn32tab", Rows.laid_math_bits_deBruijn32tab), ("math/bits.deBruijn64tab", Rows.laid_math_bits_deBruijn64tab), ("internal/strconv.uint64pow10", Rows.laid_internal_strconv_uint64pow10), ("unicode/utf8.acceptRanges", Rows.laid_unicode_utf8_acceptRanges), ("strconv.ErrRange", Rows.laid_strconv_ErrRange), ("strconv.ErrSyntax", Rows.laid_strconv_ErrSyntax), ("loop.example/stilhold/impl.devKinds", Rows.laid_loop_example_stilhold_impl_devKinds), ("loop.example/stilhold/impl.devWords", Rows.laid_loop_example_stilhold_impl_devWords), ("unicode/utf8.first", Rows.laid_unicode_utf8_first)] W := h
  obtain ⟨ps, hV, -, -⟩ := h'
  obtain ⟨ga, ta, ca, fa, pa, qa, hga, hta, hva, hda, hV, -⟩ := hV
  obtain ⟨gb, tb, cb, fb, pb, qb, hgb, htb, hvb, hdb, hV, -⟩ := hV
  obtain ⟨gc, tc, cc, fc, pc, qc, hgc, htc, hvc, hdc, hV, -⟩ := hV
  obtain ⟨gd, td, cd, fd, pd, qd, hgd, htd, hvd, hdd, hV, -⟩ := hV
  obtain ⟨ge, te, ce, fe, pe, qe, hge, hte, hve, hde, hV, -⟩ := hV
  obtain ⟨gf, tf, cf, ff, pf, qf, hgf, htf, hvf, hdf, hV, -⟩ := hV
  obtain ⟨gg, tg, cg, fg, pg, qg, hgg, htg, hvg, hdg, hV, -⟩ := hV
  obtain ⟨gh, th, ch, fh, ph, qh, hgh, hth, hvh, hdh, hV, -⟩ := hV
  clear hV hda hdb hdd hva hvb hvd hta htb htd hga hgb hgd
  obtain rfl := Option.some.inj (gPow.symm.trans hgc)
  obtain rfl := Option.some.inj (tPow.symm.trans htc)
  obtain rfl := Option.some.inj (gRan.symm.trans hge)
  obtain rfl := Option.some.inj (tRan.symm.trans hte)
  obtain rfl := Option.some.inj (gSyn.symm.trans hgf)
  obtain rfl := Option.some.inj (tSyn.symm.trans htf)
  obtain rfl := Option.some.inj (gKinds.symm.trans hgg)
  obtain rfl := Option.some.inj (tKinds.symm.trans htg)
  obtain rfl := Option.some.inj (gWords.symm.trans hgh)
  obtain rfl := Option.some.inj (tWords.symm.trans hth)
  have hpow : Lib.TabIs Tryz.prog W "internal/strconv.uint64pow10" .u64 Lib.pow10Tab := by
    have e := Lib.cells_of_tab (k := .u64) (zs := Lib.pow10Tab) Tryz.underlying140 Tryz.underlying24 cU64 cPow hdc
    unfold Lib.TabIs
    rw [hvc, ← e]
  have KT : KTab W := ktab_of hvg hdg
  have hwd : ∀ i : Nat, i < 4 → W.cell? ⟨0, i, none⟩ = some (.string ⟨(wordL i).toArray⟩) := by
    obtain ⟨xs, m, -, hx, hl, hlen, hf⟩ := DataW.trod_array Tryz.underlying113 hdh
    simp only [cStr] at hf
    have hx1 := congrArg Prod.fst hx
    simp only [Rows.laid_loop_example_stilhold_impl_devWords, DataW.agg.injEq] at hx1
    intro i hi
    have hk := hf i hi
    have hxk : i < xs.length := by omega
    rw [List.getElem?_eq_getElem hxk] at hk
    have hD : (xs.map (·.1))[i]? = some (xs[i].1) := by simp [hxk]
    rw [← hx1] at hD
    obtain ⟨s, e0, e1, -⟩ := DataW.trod_string Tryz.underlying9 hk
    have ec : ch.toList[i]? = some (.string s) := by
      have := congrArg (·[0]?) e0
      simpa [List.getElem?_take, List.getElem?_drop] using this
    have e2 := World.var?_cell gWords hvh i
    rw [e2, ← Array.getElem?_toList, ec]
    have e3 : xs[i].1 = .lit (.string s.data.toList) := by rw [e1]
    rw [e3] at hD
    have hcase : i = 0 ∨ i = 1 ∨ i = 2 ∨ i = 3 := by omega
    rcases hcase with rfl | rfl | rfl | rfl
    all_goals
      have h5 := Option.some.inj hD
      simp only [DataW.lit.injEq, Lit.string.injEq] at h5
      rw [str_of h5.symm]
      rfl
  have hm : ∃ m, W.cell? ⟨3, 0, none⟩ = some (.int .i64 m) := Tryz.laysM145.s1_3 W hsh
  have hz : 3 < W.heap.size := by
    obtain ⟨m, hm⟩ := hm
    unfold World.cell? at hm
    cases hh : W.heap[3]? with
    | none => simp [hh] at hm
    | some o => exact (Array.getElem?_eq_some_iff.1 hh).1
  exact ⟨⟨KT.zk, size_of gWords hvh, size_of gPow hvc, KT.k0, KT.k1, KT.k2, KT.k3, KT.k4, hwd, hpow⟩,
    ⟨size_of gPow hvc, size_of gSyn hvf, size_of gRan hve, hz, hpow, iface_var hvf (trod_ifaceR Tryz.underlying78 hdf), iface_cell gRan hve (trod_ifaceR Tryz.underlying78 hde), hm⟩⟩

end Go.Proofs.YtdhoimjkgicneaaGreatDoor

/- An argument that is a slice of bytes is one that the draws take. -/
namespace Go.Proofs.YtdhoimjkgicneaaGreatDoor
open Go Go.ChangeShapes Go.WideShapes Go.ChangeAt Go.RowKit

theorem own : ownKnob Tryz.prog.godebug = none := by kernel_rfl
theorem laidOut : laidOutB Tryz.prog = true := by kernel_rfl
theorem cByte : Tryz.prog.cellsOf 5 = 1 := by kernel_rfl

/-- A slice of bytes that can be read is one that the draws take. -/
theorem code_of {H : Type} {enc : TypeId × Value → H} {W : World} {a : Option Addr} {len cap : Nat} {d : DataW H} {ps : List MemPlace}
    (h : DataW.Trod enc Tryz.prog W 0 (fun _ => true) true 22 (.slice a len cap) d ps) : CodeAt (.slice a len cap) W ∧ len ≤ 9223372036854775807 := by
  obtain ⟨fuel, hf⟩ := h
  rcases open_ints Tryz.underlying22 Tryz.underlying5 cByte hf with ⟨hcs, -⟩ | ⟨b, len', cap', zs, hcs, -, hl, hm, hz, -, hcell, hwz⟩
  · simp [Value.cells] at hcs
    obtain ⟨rfl, rfl, rfl⟩ := hcs
    exact ⟨Or.inr ⟨none, 0, rfl⟩, by omega⟩
  · simp [Value.cells] at hcs
    obtain ⟨rfl, rfl, rfl⟩ := hcs
    have hm' : cap ≤ 9223372036854775807 := hm
    have hzl : zs.length = cap := by simpa using hz
    refine ⟨?_, by omega⟩
    by_cases h0 : len = 0
    · subst h0; exact Or.inr ⟨some b, cap, rfl⟩
    · obtain ⟨bb, off, rfl, hc⟩ := ints_at hcell (by omega)
      refine Or.inl ⟨bb, off, len, cap, rfl, ?_, by omega, hl, hm', fun i hi => ?_⟩
      · have h1 := hc 0 (by omega)
        unfold World.cell? at h1
        cases hh : W.heap[bb]? with
        | none => simp [hh] at h1
        | some o => exact (Array.getElem?_eq_some_iff.1 hh).1
      · have hi' : i < zs.length := by omega
        have hw := hwz (zs.getD i 0) (by simp [List.getD, hi'])
        have hb := bounds_u8 hw
        refine ⟨(zs.getD i 0).toNat, by omega, ?_⟩
        rw [hc i hi']
        congr 2
        omega

end Go.Proofs.YtdhoimjkgicneaaGreatDoor
