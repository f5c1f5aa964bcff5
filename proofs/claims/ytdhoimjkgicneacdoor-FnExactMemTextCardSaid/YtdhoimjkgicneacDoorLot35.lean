/- Texts of this proof laid together: CodeOf. -/
import Derived.Test.YtdhoimjkgicneacDoorLot34
import Derived.Test.YtdhoimjkgicneacDoorLot33
/- An argument that is a slice of bytes is one that the draws take. -/
namespace Go.Proofs.YtdhoimjkgicneacDoor
open Go Go.ChangeShapes Go.WideShapes Go.ChangeAt Go.RowKit

theorem own : ownKnob Tryd.prog.godebug = none := by kernel_rfl
theorem laidOut : laidOutB Tryd.prog = true := by kernel_rfl
theorem cByte : Tryd.prog.cellsOf 5 = 1 := by kernel_rfl

/-- A slice of bytes that can be read is one that the draws take. -/
theorem code_of {H : Type} {enc : TypeId × Value → H} {W : World} {a : Option Addr} {len cap : Nat} {d : DataW H} {ps : List MemPlace}
    (h : DataW.Trod enc Tryd.prog W 0 (fun _ => true) true 86 (.slice a len cap) d ps) : CodeAt (.slice a len cap) W ∧ len ≤ 9223372036854775807 := by
  obtain ⟨fuel, hf⟩ := h
  rcases open_ints Tryd.underlying86 Tryd.underlying5 cByte hf with ⟨hcs, -⟩ | ⟨b, len', cap', zs, hcs, -, hl, hm, hz, -, hcell, hwz⟩
  · simp [Value.cells] at hcs
    obtain ⟨rfl, rfl, rfl⟩ := hcs
    exact ⟨Or.inr ⟨none, 0, rfl⟩, by omega⟩
  · simp [Value.cells] at hcs
    obtain ⟨rfl, rfl, rfl⟩ := hcs
    have hm' : cap ≤ 9223372036854775807 := hm
    have hzl : zs.length = cap := by simpa using hz
    refine ⟨?_, by omega⟩
    by_cases h0 : len = 0
    · subst h0; exact Or.inr ⟨some b, cap, rfl⟩
    · obtain ⟨bb, off, rfl, hc⟩ := ints_at hcell (by omega)
      refine Or.inl ⟨bb, off, len, cap, rfl, ?_, by omega, hl, hm', fun i hi => ?_⟩
      · have h1 := hc 0 (by omega)
        unfold World.cell? at h1
        cases hh : W.heap[bb]? with
        | none => simp [hh] at h1
        | some o => exact (Array.getElem?_eq_some_iff.1 hh).1
      · have hi' : i < zs.length := by omega
        have hw := hwz (zs.getD i 0) (by simp [List.getD, hi'])
        have hb := bounds_u8 hw
        refine ⟨(zs.getD i 0).toNat, by omega, ?_⟩
        rw [hc i hi']
        congr 2
        omega

end Go.Proofs.YtdhoimjkgicneacDoor
