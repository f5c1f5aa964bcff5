/- A store laid into its box. -/
import Derived.Test.YtdhoimjkgicneacHelK
import Derived.Test.YtdhoimjkgicneacHolV
namespace Go.Proofs.Ytdhoimjkgicneac
open Go Go.RowKit

theorem romBox_box {k : Nat} {r : Ro} {da db : Value} {w : World} (h : RomBox k 0 r da db w) : BoxI k #[.int .u8 (r.a.mark : Int), .int .u8 (r.a.turn : Int), da, .int .u8 (r.b.mark : Int), .int .u8 (r.b.turn : Int), db] w := by
  refine ⟨h.z, fun i u hu => ?_⟩
  have c1 := h.c1
  have c2 := h.c2
  have c3 := h.c3
  have c4 := h.c4
  have c5 := h.c5
  simp only [Nat.zero_add] at c1 c2 c3 c4 c5
  match i, hu with
  | 0, hu => simp at hu; subst hu; exact h.c0
  | 1, hu => simp at hu; subst hu; exact c1
  | 2, hu => simp at hu; subst hu; exact c2
  | 3, hu => simp at hu; subst hu; exact c3
  | 4, hu => simp at hu; subst hu; exact c4
  | 5, hu => simp at hu; subst hu; exact c5
  | n + 6, hu => simp at hu

theorem set6_touch (k : Nat) (w : World) (v0 v1 v2 v3 v4 v5 : Value) : Touch (within k (k + 1)) w ((((((w.setCell ⟨k, 0, none⟩ v0).setCell ⟨k, 1, none⟩ v1).setCell ⟨k, 2, none⟩ v2).setCell ⟨k, 3, none⟩ v3).setCell ⟨k, 4, none⟩ v4).setCell ⟨k, 5, none⟩ v5) :=
  have h : within k (k + 1) k := ⟨Nat.le_refl _, Nat.lt_succ_self _⟩
  ((((((Touch.refl _ w).setCell h _).setCell h _).setCell h _).setCell h _).setCell h _).setCell h _

/-- A box that is new. -/
def NewBox (k : Nat) (w : World) : Prop := RomBox k 0 ⟨⟨0, 0, []⟩, ⟨0, 0, []⟩⟩ (.slice none 0 0) (.slice none 0 0) w ∧ ∀ i, w.frozen? ⟨k, i, none⟩ = false
theorem NewBox.below {k : Nat} {w w' : World} (h : NewBox k w) (b : Below w.heap.size w w') : NewBox k w' := ⟨h.1.below b h.1.z, fun i => (World.frozen?_of_block (b.block k h.1.z)).trans (h.2 i)⟩
theorem NewBox.new (w : World) : NewBox w.heap.size (w.alloc (.cells #[.int .u8 0, .int .u8 0, .slice none 0 0, .int .u8 0, .int .u8 0, .slice none 0 0] 32)) :=
  ⟨box_new ⟨⟨0, 0, []⟩, ⟨0, 0, []⟩⟩ (.slice none 0 0) (.slice none 0 0) w 32, fun i => by simp⟩

theorem NewBox.store {k : Nat} {w : World} (h : NewBox k w) (r' : Ro) (a1 a2 : Option Addr) (n1 k1 n2 k2 : Nat) :
    ∃ X, (Instr.storeAt 32 (.pointer (some ⟨k, 0, none⟩)) (.agg #[.int .u8 (r'.a.mark : Int), .int .u8 (r'.a.turn : Int), (.slice a1 n1 k1), .int .u8 (r'.b.mark : Int), .int .u8 (r'.b.turn : Int), (.slice a2 n2 k2)])).run Try.prog w = .ok () X ∧ BoxI k #[.int .u8 (r'.a.mark : Int), .int .u8 (r'.a.turn : Int), (.slice a1 n1 k1), .int .u8 (r'.b.mark : Int), .int .u8 (r'.b.turn : Int), (.slice a2 n2 k2)] X ∧ Touch (within k (k + 1)) w X := by
  refine ⟨_, ?_, romBox_box (box_stored (r' := r') (da' := .slice a1 n1 k1) (db' := .slice a2 n2 k2) h.1), set6_touch _ _ _ _ _ _ _ _⟩
  have c0 := h.1.c0
  have c1 := h.1.c1
  have c2 := h.1.c2
  have c3 := h.1.c3
  have c4 := h.1.c4
  have c5 := h.1.c5
  simp only [Nat.zero_add] at c1 c2 c3 c4 c5
  have f0 := h.2 0
  have f1 := h.2 1
  have f2 := h.2 2
  have f3 := h.2 3
  have f4 := h.2 4
  have f5 := h.2 5
  simp [go_sem, c0, c1, c2, c3, c4, c5, f0, f1, f2, f3, f4, f5]

end Go.Proofs.Ytdhoimjkgicneac
