/- An argument that is a slice of writes. -/
import Derived.Test.YtdhoimjkgicneacHelJ
import Derived.Test.YtdhoimjkgicneacCodeOf
import Derived.Test.YtdhoimjkgicneacCellK
import Derived.Deep.Strs
namespace Go.Proofs.Ytdhoimjkgicneac
open Go Go.ChangeShapes Go.WideShapes Go.ChangeAt Go.RowKit

set_option maxRecDepth 100000 in
/-- One write that can be read. -/
theorem write_of {H : Type} {enc : TypeId × Value → H} {W : World} {a : Addr} {n : Nat} {y : DataW H × List MemPlace}
    (h : (W.cells? 0 a 3).bind (DataW.trod enc Try.prog W 0 (fun _ => true) true n 28) = some y) :
    ∃ x : Wr, a = ⟨a.block, a.off, none⟩ ∧ a.block < W.heap.size ∧ W.cell? ⟨a.block, a.off, none⟩ = some (.int .i64 x.kind) ∧ W.cell? ⟨a.block, a.off + 1, none⟩ = some (.int .i64 x.slot) ∧ W.cell? ⟨a.block, a.off + 2, none⟩ = some (.int .u8 (x.byte : Int)) ∧ x.byte ≤ 255 := by
  rw [Option.bind_eq_some_iff] at h
  obtain ⟨cs, hcs, hy⟩ := h
  have hlt := World.cells?_block hcs (by omega)
  obtain ⟨-, hl, hc⟩ := World.cells?_some hcs
  obtain ⟨y0, y1, y2, k, -, hl2, h0, h1, h2⟩ := Go.Deep.trod_struct3 Try.underlying28 hy
  have cI : Try.prog.cellsOf 3 = 1 := by kernel_rfl
  have cB : Try.prog.cellsOf 5 = 1 := by kernel_rfl
  simp only [cI, cB, List.drop_zero] at h0 h1 h2
  obtain ⟨z0, e0, -, -⟩ := DataW.trod_int Try.underlying3 h0
  obtain ⟨z1, e1, -, -⟩ := DataW.trod_int Try.underlying3 h1
  obtain ⟨z2, e2, -, w2⟩ := DataW.trod_int Try.underlying5 h2
  match cs, hl with
  | [c0, c1, c2], _ =>
    simp at e0 e1 e2
    subst e0 e1 e2
    obtain ⟨b, off, spot⟩ := a
    have q0 := hc 0 (by omega)
    have hspot : spot = none := by simpa [Addr.add] using World.cell?_spot q0
    subst hspot
    have q1 := hc 1 (by omega)
    have q2 := hc 2 (by omega)
    rw [add_plain] at q0 q1 q2
    have hb := bounds_u8 w2
    refine ⟨⟨z0, z1, z2.toNat⟩, rfl, hlt, q0, q1, ?_, ?_⟩
    · rw [q2]
      show some (Value.int .u8 z2) = some (Value.int .u8 ((z2.toNat : Nat) : Int))
      rw [show ((z2.toNat : Nat) : Int) = z2 by omega]
    · show z2.toNat ≤ 255
      omega

set_option maxRecDepth 100000 in
theorem writes_of {H : Type} {enc : TypeId × Value → H} {W : World} {a : Option Addr} {len cap : Nat} {d : DataW H} {ps : List MemPlace}
    (h : DataW.Trod enc Try.prog W 0 (fun _ => true) true 40 (.slice a len cap) d ps) : ∃ ws : List Wr, ws.length = len ∧ WrArg (.slice a len cap) ws W ∧ (∀ x ∈ ws, x.byte ≤ 255) ∧ len ≤ 9223372036854775807 := by
  obtain ⟨fuel, hf⟩ := h
  have hl : (Value.slice a len cap).cells.toList = [.slice a len cap] := rfl
  rw [hl] at hf
  have c3 : Try.prog.cellsOf 28 = 3 := by kernel_rfl
  rcases DataW.trod_slice Try.underlying40 hf with ⟨h0, -⟩ | ⟨a', len', cap', elems, rest, n, -, h1, -, -, hlc, hm, hlen, hel, -, -⟩
  · simp only [List.cons.injEq, Value.slice.injEq, and_true] at h0
    obtain ⟨rfl, rfl, rfl⟩ := h0
    exact ⟨[], rfl, ⟨none, 0, rfl, fun h => by simp at h⟩, by simp, by omega⟩
  · simp only [List.cons.injEq, Value.slice.injEq, and_true] at h1
    obtain ⟨rfl, rfl, rfl⟩ := h1
    have hm' : cap ≤ 9223372036854775807 := hm
    have each : ∀ i : Nat, ∃ x : Wr, i < len → (a'.add (i * 3)) = ⟨(a'.add (i * 3)).block, (a'.add (i * 3)).off, none⟩ ∧ (a'.add (i * 3)).block < W.heap.size ∧ W.cell? ⟨(a'.add (i * 3)).block, (a'.add (i * 3)).off, none⟩ = some (.int .i64 x.kind) ∧ W.cell? ⟨(a'.add (i * 3)).block, (a'.add (i * 3)).off + 1, none⟩ = some (.int .i64 x.slot) ∧ W.cell? ⟨(a'.add (i * 3)).block, (a'.add (i * 3)).off + 2, none⟩ = some (.int .u8 (x.byte : Int)) ∧ x.byte ≤ 255 := fun i => by
      by_cases hi : i < len
      · have e := hel i hi
        rw [c3, List.getElem?_eq_getElem (by omega)] at e
        obtain ⟨x, hx⟩ := write_of e
        exact ⟨x, fun _ => hx⟩
      · exact ⟨⟨0, 0, 0⟩, fun h => absurd h hi⟩
    obtain ⟨f, hf'⟩ := Classical.axiomOfChoice each
    refine ⟨(List.range len).map f, by simp, ⟨some a', cap, by simp, fun h0 => ?_⟩, fun x hx => ?_, by omega⟩
    · have hp : 0 < len := by simpa using h0
      obtain ⟨b, off, spot⟩ := a'
      have hspot : spot = none := by simpa [Addr.add] using congrArg Addr.spot (hf' 0 hp).1
      subst hspot
      refine ⟨b, off, rfl, ?_, fun i x hx => ?_⟩
      · have := (hf' 0 hp).2.1
        rw [add_plain] at this
        exact this
      · have hi : i < len := by have := (List.getElem?_eq_some_iff.1 hx).1; simpa using this
        simp only [List.getElem?_map, List.getElem?_range hi, Option.map_some, Option.some.injEq] at hx
        subst hx
        obtain ⟨-, -, q0, q1, q2, -⟩ := hf' i hi
        rw [add_plain] at q0 q1 q2
        exact ⟨q0, q1, q2⟩
    · simp only [List.mem_map, List.mem_range] at hx
      obtain ⟨i, hi, rfl⟩ := hx
      exact (hf' i hi).2.2.2.2.2

set_option maxRecDepth 100000 in
theorem val_int {W : World} {r : Reach} {base : Nat} {v : Value} (h : Value.okWide Try.prog W r base 3 v) : ∃ z : Int, v = .int .i64 z := by
  unfold Value.okWide at h
  rw [Try.underlying3] at h
  obtain ⟨z, hz, -⟩ := cell_int Try.underlying3 h
  exact ⟨z, hz⟩

set_option maxRecDepth 100000 in
theorem writeTypes : Try.prog.cellTypes Try.prog.depth 28 = some [3, 3, 5] := by kernel_rfl

set_option maxRecDepth 100000 in
theorem write_cells {W : World} {r : Reach} {base : Nat} {v : Value} (h : Value.okWide Try.prog W r base 28 v) : ∃ (k s : Int) (b : Nat), v = .agg #[.int .i64 k, .int .i64 s, .int .u8 (b : Int)] ∧ b ≤ 255 := by
  have h' : ∃ cs, v = .agg cs ∧ cs.size = Try.prog.cellsOf 28 ∧ Row.okWide Try.prog W r base 28 cs := by
    unfold Value.okWide at h
    rw [Try.underlying28] at h
    exact h
  obtain ⟨cs, rfl, hsz, ts, ht, -, hc⟩ := h'
  have hsz : cs.size = 3 := hsz.trans (by kernel_rfl)
  obtain rfl : [3, 3, 5] = ts := Option.some.inj (writeTypes.symm.trans ht)
  have hb : ∀ i, i < 3 → ∀ u, [3, 3, 5][i]? = some u → Cell.okWide Try.prog W r base u (cs.getD i undef) := fun i hi u hu => by
    obtain ⟨u', hu', hok⟩ := hc i (cs.getD i undef) (by simp [Array.getD, hsz, hi])
    have hi' : i % 3 = i := Nat.mod_eq_of_lt hi
    have hu2 : [3, 3, 5][i % 3]? = some u' := hu'
    rw [hi'] at hu2
    obtain rfl : u' = u := Option.some.inj (hu2.symm.trans hu)
    exact hok
  obtain ⟨z0, e0, -⟩ := cell_int Try.underlying3 (hb 0 (by omega) _ rfl)
  obtain ⟨z1, e1, -⟩ := cell_int Try.underlying3 (hb 1 (by omega) _ rfl)
  obtain ⟨z2, e2, h1, h2⟩ := cell_int Try.underlying5 (hb 2 (by omega) _ rfl)
  have h1 : 0 ≤ z2 := h1
  have h2 : z2 ≤ 255 := h2
  refine ⟨z0, z1, z2.toNat, ?_, by omega⟩
  rw [show ((z2.toNat : Nat) : Int) = z2 by omega, ← e0, ← e1, ← e2]
  congr 1
  apply Array.ext_getElem?
  intro i
  have hcase : i = 0 ∨ i = 1 ∨ i = 2 ∨ 3 ≤ i := by omega
  rcases hcase with rfl | rfl | rfl | h3
  · simp [Array.getD, hsz]
  · simp [Array.getD, hsz]
  · simp [Array.getD, hsz]
  · rw [Array.getElem?_eq_none (by omega), Array.getElem?_eq_none (by simpa using h3)]

end Go.Proofs.Ytdhoimjkgicneac
