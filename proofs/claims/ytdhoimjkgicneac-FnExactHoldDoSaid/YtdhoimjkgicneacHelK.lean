/- A store in a box; what lies in memory while a law over a store that answers a store is checked. -/
import Derived.Test.YtdhoimjkgicneacHelJ
import Derived.Test.YtdhoimjkgicneacExH0
namespace Go.Proofs.Ytdhoimjkgicneac
open Go Go.RowKit

/-- A box. -/
def BoxI (B : Nat) (c : Array Value) (w : World) : Prop := B < w.heap.size ∧ ∀ k u, c[k]? = some u → w.cell? ⟨B, k, none⟩ = some u
theorem BoxI.below {B : Nat} {c : Array Value} {w w' : World} (h : BoxI B c w) (b : Below w.heap.size w w') : BoxI B c w' := ⟨Nat.lt_of_lt_of_le h.1 b.size, fun k u hu => (b.cell (p := ⟨B, k, none⟩) h.1).trans (h.2 k u hu)⟩
theorem BoxI.far {B l r : Nat} {c : Array Value} {w w' : World} (h : BoxI B c w) (t : Touch (within l r) w w') (hp : B < l ∨ r ≤ B) : BoxI B c w' :=
  ⟨Nat.lt_of_lt_of_le h.1 t.size, fun k u hu => (t.cell (a := ⟨B, k, none⟩) h.1 (fun h3 => by obtain ⟨h4, h5⟩ := h3; change l ≤ B at h4; change B < r at h5; omega)).trans (h.2 k u hu)⟩
theorem BoxI.new (c : Array Value) (t : TypeId) (w : World) : BoxI w.heap.size c (w.alloc (.cells c t)) := ⟨by simp, fun _ _ hu => cell_lastH rfl hu⟩
theorem BoxI.load {B : Nat} {c : Array Value} {w : World} (h : BoxI B c w) (hs : c.size = 6) : (Instr.loadAt 32 (.pointer (some ⟨B, 0, none⟩))).run Try.prog w = .ok (.agg c) w := load_romI hs h.2

/-- What lies in memory while the law is checked: the answer of the specification, the copies of the arguments, the answer of the program. -/
structure HyS (W : World) (i0 i1 i2 i3 i4 i5 i6 i7 k0 kg : Nat) (c0 cx cg : Array Value) (u1 u2 pa pb e1 g1 g2 : Value) (us vs xs ys gs hs : List Nat) (es : List Wr) (w : World) : Prop where
  bW : Below W.heap.size W w
  o1 : OwnI i0 i1 u1 us w
  o2 : OwnI i0 i1 u2 vs w
  b0 : BoxI k0 c0 w
  oa : OwnI i2 i3 pa xs w
  ob : OwnI i2 i3 pb ys w
  bx : BoxI i3 cx w
  oe : OwnWI i4 i5 e1 es w
  og : OwnI i6 i7 g1 gs w
  oh : OwnI i6 i7 g2 hs w
  bg : BoxI kg cg w
  le : W.heap.size ≤ i0 ∧ i0 ≤ i1 ∧ i1 ≤ i2 ∧ k0 < i2 ∧ i2 ≤ i3 ∧ i3 + 1 ≤ i4 ∧ i4 ≤ i5 ∧ i5 ≤ i6 ∧ i6 ≤ i7 ∧ (kg < i6 ∨ i7 ≤ kg) ∧ i5 ≤ kg ∧ i7 ≤ w.heap.size

section
variable {W : World} {i0 i1 i2 i3 i4 i5 i6 i7 k0 kg : Nat} {c0 cx cg : Array Value} {u1 u2 pa pb e1 g1 g2 : Value} {us vs xs ys gs hs : List Nat} {es : List Wr} {w w' : World}

theorem HyS.below (h : HyS W i0 i1 i2 i3 i4 i5 i6 i7 k0 kg c0 cx cg u1 u2 pa pb e1 g1 g2 us vs xs ys gs hs es w) (b : Below w.heap.size w w') : HyS W i0 i1 i2 i3 i4 i5 i6 i7 k0 kg c0 cx cg u1 u2 pa pb e1 g1 g2 us vs xs ys gs hs es w' := by
  obtain ⟨h1, h2, h3, h4, h5, h6, h7, h8, h9, h10, h11, h12⟩ := h
  have := b.size
  exact ⟨h1.trans (b.mono h1.size), h2.below b (by omega), h3.below b (by omega), h4.below b, h5.below b (by omega), h6.below b (by omega), h7.below b, h8.below b (by omega), h9.below b (by omega), h10.below b (by omega), h11.below b, by omega⟩
theorem HyS.rom {xs' ys' : List Nat} (h : HyS W i0 i1 i2 i3 i4 i5 i6 i7 k0 kg c0 cx cg u1 u2 pa pb e1 g1 g2 us vs xs ys gs hs es w) (b : Touch (within i2 i3) w w') (ha : OwnI i2 i3 pa xs' w') (hb : OwnI i2 i3 pb ys' w') : HyS W i0 i1 i2 i3 i4 i5 i6 i7 k0 kg c0 cx cg u1 u2 pa pb e1 g1 g2 us vs xs' ys' gs hs es w' := by
  obtain ⟨h1, h2, h3, h4, h5, h6, h7, h8, h9, h10, h11, h12⟩ := h
  have := b.size
  exact ⟨h1.trans (b.low h1.size (by omega)), h2.far b (by omega), h3.far b (by omega), h4.far b (by omega), ha, hb, h7.far b (by omega), h8.far b (by omega), h9.far b (by omega), h10.far b (by omega), h11.far b (by omega), by omega⟩
theorem HyS.writes {es' : List Wr} (h : HyS W i0 i1 i2 i3 i4 i5 i6 i7 k0 kg c0 cx cg u1 u2 pa pb e1 g1 g2 us vs xs ys gs hs es w) (b : Touch (within i4 i5) w w') (he : OwnWI i4 i5 e1 es' w') : HyS W i0 i1 i2 i3 i4 i5 i6 i7 k0 kg c0 cx cg u1 u2 pa pb e1 g1 g2 us vs xs ys gs hs es' w' := by
  obtain ⟨h1, h2, h3, h4, h5, h6, h7, h8, h9, h10, h11, h12⟩ := h
  have := b.size
  exact ⟨h1.trans (b.low h1.size (by omega)), h2.far b (by omega), h3.far b (by omega), h4.far b (by omega), h5.far b (by omega), h6.far b (by omega), h7.far b (by omega), he, h9.far b (by omega), h10.far b (by omega), h11.far b (by omega), by omega⟩
theorem HyS.answer {gs' hs' : List Nat} (h : HyS W i0 i1 i2 i3 i4 i5 i6 i7 k0 kg c0 cx cg u1 u2 pa pb e1 g1 g2 us vs xs ys gs hs es w) (b : Touch (within i6 i7) w w') (hg : OwnI i6 i7 g1 gs' w') (hh : OwnI i6 i7 g2 hs' w') : HyS W i0 i1 i2 i3 i4 i5 i6 i7 k0 kg c0 cx cg u1 u2 pa pb e1 g1 g2 us vs xs ys gs' hs' es w' := by
  obtain ⟨h1, h2, h3, h4, h5, h6, h7, h8, h9, h10, h11, h12⟩ := h
  have := b.size
  exact ⟨h1.trans (b.low h1.size (by omega)), h2.far b (by omega), h3.far b (by omega), h4.far b (by omega), h5.far b (by omega), h6.far b (by omega), h7.far b (by omega), h8.far b (by omega), hg, hh, h11.far b (by omega), by omega⟩
end

end Go.Proofs.Ytdhoimjkgicneac
