/- The row's list of package variables gives what the walks ask of the table of kinds. -/
import Derived.Test.YtdhoimjkgicneaaDoorDevK
import Derived.Test.YtdhoimjkgicneaaDoorClose
import Derived.Lib.LaidTab
import Derived.OpenShut
namespace Go.Proofs.YtdhoimjkgicneaaDoor
open Go Go.ChangeShapes Go.WideShapes Go.ChangeAt Go.RowKit

theorem cStr : Tryd.prog.cellsOf 9 = 1 := by kernel_rfl
theorem cInt : Tryd.prog.cellsOf 3 = 1 := by kernel_rfl
theorem cBool : Tryd.prog.cellsOf 4 = 1 := by kernel_rfl
theorem cKind : Tryd.prog.cellsOf 127 = 5 := by kernel_rfl
theorem cKinds : Tryd.prog.cellsOf 164 = 70 := by kernel_rfl
theorem gKinds : Tryd.prog.globalNamed "loop.example/stilhold/impl.devKinds" = some 3 := by kernel_rfl
theorem tKinds : (Tryd.prog.globals[3]?).map (·.type) = some 164 := by kernel_rfl

theorem str_of {s : ByteArray} {l : List UInt8} (h : s.data.toList = l) : s = ⟨l.toArray⟩ := by
  subst h; rfl

section
variable {H : Type} {enc : TypeId × Value → H} {w : World} {base : Nat} {spare : Nat → Bool} {held : Bool}

set_option maxRecDepth 100000 in
/-- The five cells of one row of the table of kinds. -/
theorem kind_cells {fuel : Nat} {cs : List Value} {l : List UInt8} {z : Int} {a b c : Bool} {p : List MemPlace}
    (h : DataW.trod enc Tryd.prog w base spare held fuel 127 cs = some (.agg [.lit (.string l), .lit (.int .i64 z), .lit (.bool a), .lit (.bool b), .lit (.bool c)], p)) :
    cs = [.string ⟨l.toArray⟩, .int .i64 z, .bool a, .bool b, .bool c] := by
  obtain ⟨xs, m, -, hx, hl, hlen, hf⟩ := DataW.trod_struct Tryd.underlying127 h
  rw [cKind] at hl
  have h0 := hf 0 _ rfl
  have h1 := hf 1 _ rfl
  have h2 := hf 2 _ rfl
  have h3 := hf 3 _ rfl
  have h4 := hf 4 _ rfl
  clear hf h
  match xs, hlen with
  | [y0, y1, y2, y3, y4], _ =>
    match cs, hl with
    | [c0, c1, c2, c3, c4], _ =>
      obtain ⟨s0, e0, rfl, -⟩ := DataW.trod_string Tryd.underlying9 h0
      obtain ⟨n1, e1, rfl, -⟩ := DataW.trod_int Tryd.underlying3 h1
      obtain ⟨b2, e2, rfl⟩ := DataW.trod_bool Tryd.underlying4 h2
      obtain ⟨b3, e3, rfl⟩ := DataW.trod_bool Tryd.underlying4 h3
      obtain ⟨b4, e4, rfl⟩ := DataW.trod_bool Tryd.underlying4 h4
      simp at hx
      simp [cStr] at e0
      simp [cInt] at e1
      simp [cBool] at e2 e3 e4
      obtain ⟨⟨x0, x1, x2, x3, x4⟩, -⟩ := hx
      subst e0 e1 e2 e3 e4 x1 x2 x3 x4
      rw [str_of x0.symm]

end

theorem size_of {W : World} {n : String} {g : Nat} {cs : Array Value} (hg : Tryd.prog.globalNamed n = some g) (hv : W.var? Tryd.prog n = some cs) : g < W.heap.size := by
  unfold World.var? at hv
  simp only [hg, Option.bind_some] at hv
  cases hh : W.heap[g]? with
  | none => rw [hh] at hv; cases hv
  | some o => exact (Array.getElem?_eq_some_iff.1 hh).1

set_option maxRecDepth 100000 in
theorem ktab_of {H : Type} {enc : TypeId × Value → H} {W : World} {base : Nat} {spare : Nat → Bool} {held : Bool} {fuel : Nat} {cd : Array Value} {pd : List MemPlace} (hvd : W.var? Tryd.prog "loop.example/stilhold/impl.devKinds" = some cd)
    (hdd : DataW.trod enc Tryd.prog W base spare held fuel 164 cd.toList = some (Rows.laid_loop_example_stilhold_impl_devKinds, pd)) : KTab W := by
  have hrow : ∀ k : Nat, 1 ≤ k → k ≤ 13 → (cd.toList.drop (k * 5)).take 5 = [.string ⟨(letterL k).toArray⟩, .int .i64 (sizeZ k), .bool (bitB k), .bool (wholeB k), .bool (realB k)] := by
    obtain ⟨xs, m, -, hx, hl, hlen, hf⟩ := DataW.trod_array Tryd.underlying164 hdd
    simp only [cKind] at hf
    have hx1 := congrArg Prod.fst hx
    simp only [Rows.laid_loop_example_stilhold_impl_devKinds, DataW.agg.injEq] at hx1
    intro k h1 h2
    have hk := hf k (by omega)
    have hxk : k < xs.length := by omega
    rw [List.getElem?_eq_getElem hxk] at hk
    have hD : (xs.map (·.1))[k]? = some (xs[k].1) := by simp [hxk]
    rw [← hx1] at hD
    rw [show xs[k] = (xs[k].1, xs[k].2) from rfl] at hk
    have hcase : k = 1 ∨ k = 2 ∨ k = 3 ∨ k = 4 ∨ k = 5 ∨ k = 6 ∨ k = 7 ∨ k = 8 ∨ k = 9 ∨ k = 10 ∨ k = 11 ∨ k = 12 ∨ k = 13 := by omega
    rcases hcase with rfl | rfl | rfl | rfl | rfl | rfl | rfl | rfl | rfl | rfl | rfl | rfl | rfl
    all_goals
      rw [← Option.some.inj hD] at hk
      exact kind_cells hk
  have hkc : ∀ k j : Nat, 1 ≤ k → k ≤ 13 → j < 5 → W.cell? ⟨3, k * 5 + j, none⟩ = ([.string ⟨(letterL k).toArray⟩, .int .i64 (sizeZ k), .bool (bitB k), .bool (wholeB k), .bool (realB k)] : List Value)[j]? := by
    intro k j h1 h2 h3
    have e := World.var?_cell gKinds hvd (k * 5 + j)
    rw [e, ← hrow k h1 h2]
    simp [List.getElem?_drop, h3]
  exact ⟨size_of gKinds hvd, fun k a b => hkc k 0 a b (by omega), fun k a b => hkc k 1 a b (by omega), fun k a b => hkc k 2 a b (by omega), fun k a b => hkc k 3 a b (by omega), fun k a b => hkc k 4 a b (by omega)⟩

end Go.Proofs.YtdhoimjkgicneaaDoor
