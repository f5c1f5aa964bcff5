/- The row's list of package variables gives what the walks ask of the table of signs. -/
import Derived.Test.YtdhoimjkgicneaaDoorCmpB
import Derived.Test.YtdhoimjkgicneaaDoorClose
import Derived.Lib.LaidTab
import Derived.OpenShut
namespace Go.Proofs.YtdhoimjkgicneaaDoor
open Go Go.ChangeShapes Go.WideShapes Go.ChangeAt Go.RowKit

theorem cStrC : Tryd.prog.cellsOf 9 = 1 := by kernel_rfl
theorem cIntC : Tryd.prog.cellsOf 3 = 1 := by kernel_rfl
theorem cSign : Tryd.prog.cellsOf 95 = 3 := by kernel_rfl
theorem gSigns : Tryd.prog.globalNamed "loop.example/stilhold/impl.cmpSigns" = some 1 := by kernel_rfl
theorem tSigns : (Tryd.prog.globals[1]?).map (·.type) = some 133 := by kernel_rfl

section
variable {H : Type} {enc : TypeId × Value → H} {w : World} {base : Nat} {spare : Nat → Bool} {held : Bool}

set_option maxRecDepth 100000 in
/-- The three cells of one row of the table of signs. -/
theorem sign_cells {fuel : Nat} {cs : List Value} {l : List UInt8} {x y : Int} {p : List MemPlace}
    (h : DataW.trod enc Tryd.prog w base spare held fuel 95 cs = some (.agg [.lit (.string l), .lit (.int .i64 x), .lit (.int .i64 y)], p)) :
    ∃ s, cs = [.string s, .int .i64 x, .int .i64 y] := by
  obtain ⟨xs, m, -, hx, hl, hlen, hf⟩ := DataW.trod_struct Tryd.underlying95 h
  rw [cSign] at hl
  have h0 := hf 0 _ rfl
  have h1 := hf 1 _ rfl
  have h2 := hf 2 _ rfl
  clear hf h
  match xs, hlen with
  | [y0, y1, y2], _ =>
    match cs, hl with
    | [c0, c1, c2], _ =>
      obtain ⟨s0, e0, rfl, -⟩ := DataW.trod_string Tryd.underlying9 h0
      obtain ⟨n1, e1, rfl, -⟩ := DataW.trod_int Tryd.underlying3 h1
      obtain ⟨n2, e2, rfl, -⟩ := DataW.trod_int Tryd.underlying3 h2
      simp at hx
      simp [cStrC] at e0
      simp [cIntC] at e1 e2
      obtain ⟨⟨x0, x1, x2⟩, -⟩ := hx
      subst e0 e1 e2 x1 x2
      exact ⟨s0, rfl⟩

end

theorem size_ofC {W : World} {n : String} {g : Nat} {cs : Array Value} (hg : Tryd.prog.globalNamed n = some g) (hv : W.var? Tryd.prog n = some cs) : g < W.heap.size := by
  unfold World.var? at hv
  simp only [hg, Option.bind_some] at hv
  cases hh : W.heap[g]? with
  | none => rw [hh] at hv; cases hv
  | some o => exact (Array.getElem?_eq_some_iff.1 hh).1

set_option maxRecDepth 100000 in
theorem ctab {W : World} (h : laidMetH Tryd.prog [("loop.example/stilhold/impl.cmpSigns", Rows.laid_loop_example_stilhold_impl_cmpSigns)] W) : CTab W := by
  have h' : laidMet Tryd.prog [("loop.example/stilhold/impl.cmpSigns", Rows.laid_loop_example_stilhold_impl_cmpSigns)] W := h
  obtain ⟨ps, hV, -, -⟩ := h'
  obtain ⟨gd, td, cd, fd, pd, qd, hgd, htd, hvd, hdd, hV, -⟩ := hV
  obtain rfl := Option.some.inj (gSigns.symm.trans hgd)
  obtain rfl := Option.some.inj (tSigns.symm.trans htd)
  have hrow : ∀ k : Nat, 1 ≤ k → k ≤ 6 → ∃ s, (cd.toList.drop (k * 3)).take 3 = [.string s, .int .i64 (flipZ k), .int .i64 (swapZ k)] := by
    obtain ⟨xs, m, -, hx, hl, hlen, hf⟩ := DataW.trod_array Tryd.underlying133 hdd
    simp only [cSign] at hf
    have hx1 := congrArg Prod.fst hx
    simp only [Rows.laid_loop_example_stilhold_impl_cmpSigns, DataW.agg.injEq] at hx1
    intro k h1 h2
    have hk := hf k (by omega)
    have hxk : k < xs.length := by omega
    rw [List.getElem?_eq_getElem hxk] at hk
    have hD : (xs.map (·.1))[k]? = some (xs[k].1) := by simp [hxk]
    rw [← hx1] at hD
    rw [show xs[k] = (xs[k].1, xs[k].2) from rfl] at hk
    have hcase : k = 1 ∨ k = 2 ∨ k = 3 ∨ k = 4 ∨ k = 5 ∨ k = 6 := by omega
    rcases hcase with rfl | rfl | rfl | rfl | rfl | rfl
    all_goals
      rw [← Option.some.inj hD] at hk
      exact sign_cells hk
  have hkc : ∀ k : Nat, 1 ≤ k → k ≤ 6 → ∃ s, ∀ j : Nat, j < 3 → W.cell? ⟨1, k * 3 + j, none⟩ = ([.string s, .int .i64 (flipZ k), .int .i64 (swapZ k)] : List Value)[j]? := by
    intro k h1 h2
    obtain ⟨s, hs⟩ := hrow k h1 h2
    refine ⟨s, fun j h3 => ?_⟩
    have e := World.var?_cell gSigns hvd (k * 3 + j)
    rw [e, ← hs]
    simp [List.getElem?_drop, h3]
  refine ⟨size_ofC gSigns hvd, ?_, ?_, ?_⟩
  · intro k a b
    obtain ⟨s, hs⟩ := hkc k a b
    exact ⟨s, hs 0 (by omega)⟩
  · intro k a b
    obtain ⟨s, hs⟩ := hkc k a b
    exact hs 1 (by omega)
  · intro k a b
    obtain ⟨s, hs⟩ := hkc k a b
    exact hs 2 (by omega)

end Go.Proofs.YtdhoimjkgicneaaDoor
