/- Texts of this proof laid together: DevKT, ZT. -/
import Derived.Test.YtdhoimjkgicneacGreatDoorLot10
import Derived.Test.YtdhoimjkgicneacGreatDoorLot38
import Derived.Lib.LaidTab
import Derived.OpenShut
import Derived.Test.YtdhoimjkgicneacGreatDoorLot19
import Derived.Test.YtdhoimjkgicneacGreatDoorLot16
import Derived.Test.YtdhoimjkgicneacGreatDoorLot15
import Derived.Lay
/- The row's list of package variables gives what the walks ask of the table of kinds. -/
namespace Go.Proofs.YtdhoimjkgicneacGreatDoor
open Go Go.ChangeShapes Go.WideShapes Go.ChangeAt Go.RowKit

theorem cStr : Tryz.prog.cellsOf 9 = 1 := by kernel_rfl
theorem cInt : Tryz.prog.cellsOf 3 = 1 := by kernel_rfl
theorem cBool : Tryz.prog.cellsOf 4 = 1 := by kernel_rfl
theorem cKind : Tryz.prog.cellsOf 134 = 5 := by kernel_rfl
theorem cKinds : Tryz.prog.cellsOf 150 = 70 := by kernel_rfl
theorem gKinds : Tryz.prog.globalNamed "loop.example/stilhold/impl.devKinds" = some 5 := by kernel_rfl
theorem tKinds : (Tryz.prog.globals[5]?).map (·.type) = some 150 := by kernel_rfl

theorem str_of {s : ByteArray} {l : List UInt8} (h : s.data.toList = l) : s = ⟨l.toArray⟩ := by
  subst h; rfl

section
variable {H : Type} {enc : TypeId × Value → H} {w : World} {base : Nat} {spare : Nat → Bool} {held : Bool}

set_option maxRecDepth 100000 in
/-- The five cells of one row of the table of kinds. -/
theorem kind_cells {fuel : Nat} {cs : List Value} {l : List UInt8} {z : Int} {a b c : Bool} {p : List MemPlace}
    (h : DataW.trod enc Tryz.prog w base spare held fuel 134 cs = some (.agg [.lit (.string l), .lit (.int .i64 z), .lit (.bool a), .lit (.bool b), .lit (.bool c)], p)) :
    cs = [.string ⟨l.toArray⟩, .int .i64 z, .bool a, .bool b, .bool c] := by
  obtain ⟨xs, m, -, hx, hl, hlen, hf⟩ := DataW.trod_struct Tryz.underlying134 h
  rw [cKind] at hl
  have h0 := hf 0 _ rfl
  have h1 := hf 1 _ rfl
  have h2 := hf 2 _ rfl
  have h3 := hf 3 _ rfl
  have h4 := hf 4 _ rfl
  clear hf h
  match xs, hlen with
  | [y0, y1, y2, y3, y4], _ =>
    match cs, hl with
    | [c0, c1, c2, c3, c4], _ =>
      obtain ⟨s0, e0, rfl, -⟩ := DataW.trod_string Tryz.underlying9 h0
      obtain ⟨n1, e1, rfl, -⟩ := DataW.trod_int Tryz.underlying3 h1
      obtain ⟨b2, e2, rfl⟩ := DataW.trod_bool Tryz.underlying4 h2
      obtain ⟨b3, e3, rfl⟩ := DataW.trod_bool Tryz.underlying4 h3
      obtain ⟨b4, e4, rfl⟩ := DataW.trod_bool Tryz.underlying4 h4
      simp at hx
      simp [cStr] at e0
      simp [cInt] at e1
      simp [cBool] at e2 e3 e4
      obtain ⟨⟨x0, x1, x2, x3, x4⟩, -⟩ := hx
      subst e0 e1 e2 e3 e4 x1 x2 x3 x4
      rw [str_of x0.symm]

end

theorem size_of {W : World} {n : String} {g : Nat} {cs : Array Value} (hg : Tryz.prog.globalNamed n = some g) (hv : W.var? Tryz.prog n = some cs) : g < W.heap.size := by
  unfold World.var? at hv
  simp only [hg, Option.bind_some] at hv
  cases hh : W.heap[g]? with
  | none => rw [hh] at hv; cases hv
  | some o => exact (Array.getElem?_eq_some_iff.1 hh).1

set_option maxRecDepth 100000 in
theorem ktab_of {H : Type} {enc : TypeId × Value → H} {W : World} {base : Nat} {spare : Nat → Bool} {held : Bool} {fuel : Nat} {cd : Array Value} {pd : List MemPlace} (hvd : W.var? Tryz.prog "loop.example/stilhold/impl.devKinds" = some cd)
    (hdd : DataW.trod enc Tryz.prog W base spare held fuel 150 cd.toList = some (Rows.laid_loop_example_stilhold_impl_devKinds, pd)) : KTab W := by
  have hrow : ∀ k : Nat, 1 ≤ k → k ≤ 13 → (cd.toList.drop (k * 5)).take 5 = [.string ⟨(letterL k).toArray⟩, .int .i64 (sizeZ k), .bool (bitB k), .bool (wholeB k), .bool (realB k)] := by
    obtain ⟨xs, m, -, hx, hl, hlen, hf⟩ := DataW.trod_array Tryz.underlying150 hdd
    simp only [cKind] at hf
    have hx1 := congrArg Prod.fst hx
    simp only [Rows.laid_loop_example_stilhold_impl_devKinds, DataW.agg.injEq] at hx1
    intro k h1 h2
    have hk := hf k (by omega)
    have hxk : k < xs.length := by omega
    rw [List.getElem?_eq_getElem hxk] at hk
    have hD : (xs.map (·.1))[k]? = some (xs[k].1) := by simp [hxk]
    rw [← hx1] at hD
    rw [show xs[k] = (xs[k].1, xs[k].2) from rfl] at hk
    have hcase : k = 1 ∨ k = 2 ∨ k = 3 ∨ k = 4 ∨ k = 5 ∨ k = 6 ∨ k = 7 ∨ k = 8 ∨ k = 9 ∨ k = 10 ∨ k = 11 ∨ k = 12 ∨ k = 13 := by omega
    rcases hcase with rfl | rfl | rfl | rfl | rfl | rfl | rfl | rfl | rfl | rfl | rfl | rfl | rfl
    all_goals
      rw [← Option.some.inj hD] at hk
      exact kind_cells hk
  have hkc : ∀ k j : Nat, 1 ≤ k → k ≤ 13 → j < 5 → W.cell? ⟨5, k * 5 + j, none⟩ = ([.string ⟨(letterL k).toArray⟩, .int .i64 (sizeZ k), .bool (bitB k), .bool (wholeB k), .bool (realB k)] : List Value)[j]? := by
    intro k j h1 h2 h3
    have e := World.var?_cell gKinds hvd (k * 5 + j)
    rw [e, ← hrow k h1 h2]
    simp [List.getElem?_drop, h3]
  exact ⟨size_of gKinds hvd, fun k a b => hkc k 0 a b (by omega), fun k a b => hkc k 1 a b (by omega), fun k a b => hkc k 2 a b (by omega), fun k a b => hkc k 3 a b (by omega), fun k a b => hkc k 4 a b (by omega)⟩

end Go.Proofs.YtdhoimjkgicneacGreatDoor

/- The row's list of package variables gives what the walks of a memory's text ask of the tables. -/
namespace Go.Proofs.YtdhoimjkgicneacGreatDoor
open Go Go.ChangeShapes Go.WideShapes Go.ChangeAt Go.RowKit

theorem gWords : Tryz.prog.globalNamed "loop.example/stilhold/impl.devWords" = some 0 := by kernel_rfl
theorem tWords : (Tryz.prog.globals[0]?).map (·.type) = some 126 := by kernel_rfl
theorem tPow : (Tryz.prog.globals[6]?).map (·.type) = some 152 := by kernel_rfl
theorem cPow : Tryz.prog.cellsOf 152 = 20 := by kernel_rfl
theorem cU64 : Tryz.prog.cellsOf 23 = 1 := by kernel_rfl

theorem gSyn : Tryz.prog.globalNamed "strconv.ErrSyntax" = some 2 := by kernel_rfl
theorem gRan : Tryz.prog.globalNamed "strconv.ErrRange" = some 3 := by kernel_rfl
theorem tSyn : (Tryz.prog.globals[2]?).map (·.type) = some 70 := by kernel_rfl
theorem tRan : (Tryz.prog.globals[3]?).map (·.type) = some 70 := by kernel_rfl

theorem trod_ifaceR {P : Program} {H : Type} {enc : TypeId × Value → H} {w : World} {base : Nat} {spare : Nat → Bool} {held : Bool} {fuel : Nat} {t : TypeId} {ms : Array (String × TypeId)} {cs : List Value} {nm : String} {d : DataW H} {p : List MemPlace}
    (ht : P.underlying t = some (.interface ms)) (h : DataW.trod enc P w base spare held fuel t cs = some (.iface nm d, p)) : ∃ u v, cs = [.iface u v] := by
  cases fuel with
  | zero => simp [DataW.trod] at h
  | succ n =>
    unfold DataW.trod at h
    rw [ht] at h
    split at h <;> simp_all

theorem size_ofR {W : World} {n : String} {g : Nat} {cs : Array Value} (hg : Tryz.prog.globalNamed n = some g) (hv : W.var? Tryz.prog n = some cs) : g < W.heap.size := by
  unfold World.var? at hv
  simp only [hg, Option.bind_some] at hv
  cases hh : W.heap[g]? with
  | none => rw [hh] at hv; cases hv
  | some o => exact (Array.getElem?_eq_some_iff.1 hh).1

theorem iface_cell {W : World} {n : String} {g : Nat} {cs : Array Value} (hg : Tryz.prog.globalNamed n = some g) (hv : W.var? Tryz.prog n = some cs) (h : ∃ u v, cs.toList = [.iface u v]) : ∃ te pe, W.cell? ⟨g, 0, none⟩ = some (.iface te pe) := by
  obtain ⟨u, v, e⟩ := h
  refine ⟨u, v, ?_⟩
  have := World.var?_cell hg hv 0
  rw [this, ← Array.getElem?_toList, e]
  rfl

theorem iface_var {W : World} {n : String} {cs : Array Value} (hv : W.var? Tryz.prog n = some cs) (h : ∃ u v, cs.toList = [.iface u v]) : ∃ te pe, W.var? Tryz.prog n = some #[.iface te pe] := by
  obtain ⟨u, v, e⟩ := h
  refine ⟨u, v, ?_⟩
  rw [hv]
  congr 1
  cases cs
  simp_all

set_option maxRecDepth 100000 in
theorem tabsZ {W : World} (h : laidMetH Tryz.prog [("math/bits.deBruijn32tab", Rows.laid_math_bits_deBruijn32tab), ("math/bits.deBruijn64tab", Rows.laid_math_bits_deBruijn64tab), ("internal/strconv.uint64pow10", Rows.laid_internal_strconv_uint64pow10), ("unicode/utf8.acceptRanges", Rows.laid_unicode_utf8_acceptRanges), ("strconv.ErrRange", Rows.laid_strconv_ErrRange), ("strconv.ErrSyntax", Rows.laid_strconv_ErrSyntax), ("loop.example/stilhold/impl.devKinds", Rows.laid_loop_example_stilhold_impl_devKinds), ("loop.example/stilhold/impl.devWords", Rows.laid_loop_example_stilhold_impl_devWords), ("unicode/utf8.first", Rows.laid_unicode_utf8_first)] W) (hsh : W.ShapedOpen Tryz.prog) : Tabs W ∧ RTab W := by
  have h' : laidMet Tryz.prog [("math/bits.deBruijn32tab", Rows.laid_math_bits_deBruijn32tab), ("math/bits.deBruijn64tab", Rows.laid_math_bits_deBruijn64tab), ("internal/strconv.uint64pow10", Rows.laid_internal_strconv_uint64pow10), ("unicode/utf8.acceptRanges", Rows.laid_unicode_utf8_acceptRanges), ("strconv.ErrRange", Rows.laid_strconv_ErrRange), ("strconv.ErrSyntax", Rows.laid_strconv_ErrSyntax), ("loop.example/stilhold/impl.devKinds", Rows.laid_loop_example_stilhold_impl_devKinds), ("loop.example/stilhold/impl.devWords", Rows.laid_loop_example_stilhold_impl_devWords), ("unicode/utf8.first", Rows.laid_unicode_utf8_first)] W := h
  obtain ⟨ps, hV, -, -⟩ := h'
  obtain ⟨ga, ta, ca, fa, pa, qa, hga, hta, hva, hda, hV, -⟩ := hV
  obtain ⟨gb, tb, cb, fb, pb, qb, hgb, htb, hvb, hdb, hV, -⟩ := hV
  obtain ⟨gc, tc, cc, fc, pc, qc, hgc, htc, hvc, hdc, hV, -⟩ := hV
  obtain ⟨gd, td, cd, fd, pd, qd, hgd, htd, hvd, hdd, hV, -⟩ := hV
  obtain ⟨ge, te, ce, fe, pe, qe, hge, hte, hve, hde, hV, -⟩ := hV
  obtain ⟨gf, tf, cf, ff, pf, qf, hgf, htf, hvf, hdf, hV, -⟩ := hV
  obtain ⟨gg, tg, cg, fg, pg, qg, hgg, htg, hvg, hdg, hV, -⟩ := hV
  obtain ⟨gh, th, ch, fh, ph, qh, hgh, hth, hvh, hdh, hV, -⟩ := hV
  clear hV hda hdb hdd hva hvb hvd hta htb htd hga hgb hgd
  obtain rfl := Option.some.inj (gPow.symm.trans hgc)
  obtain rfl := Option.some.inj (tPow.symm.trans htc)
  obtain rfl := Option.some.inj (gRan.symm.trans hge)
  obtain rfl := Option.some.inj (tRan.symm.trans hte)
  obtain rfl := Option.some.inj (gSyn.symm.trans hgf)
  obtain rfl := Option.some.inj (tSyn.symm.trans htf)
  obtain rfl := Option.some.inj (gKinds.symm.trans hgg)
  obtain rfl := Option.some.inj (tKinds.symm.trans htg)
  obtain rfl := Option.some.inj (gWords.symm.trans hgh)
  obtain rfl := Option.some.inj (tWords.symm.trans hth)
  have hpow : Lib.TabIs Tryz.prog W "internal/strconv.uint64pow10" .u64 Lib.pow10Tab := by
    have e := Lib.cells_of_tab (k := .u64) (zs := Lib.pow10Tab) Tryz.underlying152 Tryz.underlying23 cU64 cPow hdc
    unfold Lib.TabIs
    rw [hvc, ← e]
  have KT : KTab W := ktab_of hvg hdg
  have hwd : ∀ i : Nat, i < 4 → W.cell? ⟨0, i, none⟩ = some (.string ⟨(wordL i).toArray⟩) := by
    obtain ⟨xs, m, -, hx, hl, hlen, hf⟩ := DataW.trod_array Tryz.underlying126 hdh
    simp only [cStr] at hf
    have hx1 := congrArg Prod.fst hx
    simp only [Rows.laid_loop_example_stilhold_impl_devWords, DataW.agg.injEq] at hx1
    intro i hi
    have hk := hf i hi
    have hxk : i < xs.length := by omega
    rw [List.getElem?_eq_getElem hxk] at hk
    have hD : (xs.map (·.1))[i]? = some (xs[i].1) := by simp [hxk]
    rw [← hx1] at hD
    obtain ⟨s, e0, e1, -⟩ := DataW.trod_string Tryz.underlying9 hk
    have ec : ch.toList[i]? = some (.string s) := by
      have := congrArg (·[0]?) e0
      simpa [List.getElem?_take, List.getElem?_drop] using this
    have e2 := World.var?_cell gWords hvh i
    rw [e2, ← Array.getElem?_toList, ec]
    have e3 : xs[i].1 = .lit (.string s.data.toList) := by rw [e1]
    rw [e3] at hD
    have hcase : i = 0 ∨ i = 1 ∨ i = 2 ∨ i = 3 := by omega
    rcases hcase with rfl | rfl | rfl | rfl
    all_goals
      have h5 := Option.some.inj hD
      simp only [DataW.lit.injEq, Lit.string.injEq] at h5
      rw [str_of h5.symm]
      rfl
  have hm : ∃ m, W.cell? ⟨1, 0, none⟩ = some (.int .i64 m) := Tryz.laysM145.s1_3 W hsh
  have hz : 1 < W.heap.size := by
    obtain ⟨m, hm⟩ := hm
    unfold World.cell? at hm
    cases hh : W.heap[1]? with
    | none => simp [hh] at hm
    | some o => exact (Array.getElem?_eq_some_iff.1 hh).1
  exact ⟨⟨KT.zk, size_of gWords hvh, size_of gPow hvc, KT.k0, KT.k1, KT.k2, KT.k3, KT.k4, hwd, hpow⟩,
    ⟨size_of gPow hvc, size_of gSyn hvf, size_of gRan hve, hz, hpow, iface_var hvf (trod_ifaceR Tryz.underlying70 hdf), iface_cell gRan hve (trod_ifaceR Tryz.underlying70 hde), hm⟩⟩

end Go.Proofs.YtdhoimjkgicneacGreatDoor
