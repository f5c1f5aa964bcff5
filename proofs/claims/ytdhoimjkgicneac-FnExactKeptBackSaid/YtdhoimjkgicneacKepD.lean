/- What is kept of a memory, as both sides say it. -/
import Derived.Test.YtdhoimjkgicneacKepB
import Derived.Laws.Tables
import Derived.Test.YtdhoimjkgicneacRegK
import Derived.Deep.RegionHeld
import Derived.StillTailTactics
namespace Go.Proofs.Ytdhoimjkgicneac
open Go Go.RowKit

theorem zMemK : Try.zeroCells78 = mem0.row := by kernel_rfl
attribute [local go_sem] zMemK

theorem fold_set : ∀ (l : List Value) (off s : Nat) (c : Array Value) (k : Nat), ((l.zipIdx s).foldl (fun cs (c, j) => cs.setIfInBounds (off + j) c) c)[k]? = if off + s ≤ k ∧ k < off + s + l.length ∧ k < c.size then l[k - (off + s)]? else c[k]?
  | [], off, s, c, k => by simp; intro h1 h2; omega
  | x :: l, off, s, c, k => by
    rw [List.zipIdx_cons, List.foldl_cons, fold_set l off (s + 1)]
    simp only [Array.size_setIfInBounds, List.length_cons]
    by_cases h1 : k = off + s
    · subst h1
      rw [if_neg (by omega)]
      by_cases h2 : off + s < c.size
      · rw [if_pos ⟨Nat.le_refl _, by omega, h2⟩]
        simp [h2]
      · rw [if_neg (by omega)]
        simp [h2]
    · by_cases h2 : off + (s + 1) ≤ k ∧ k < off + (s + 1) + l.length ∧ k < c.size
      · rw [if_pos h2, if_pos ⟨by omega, by omega, h2.2.2⟩, show k - (off + s) = k - (off + (s + 1)) + 1 by omega]
        simp
      · rw [if_neg h2, if_neg (by omega), Array.getElem?_setIfInBounds_ne (by omega)]

theorem fill_row {place : Nat → Option (Nat × Nat)} {f : Nat → Value} {N i off n : Nat} {u : Value} {g : Nat → Value} {rest : List (Nat × Value)} (hp : place i = some (off, n)) (hu : u.cells = rowOf g n) (hN : off + n ≤ N) :
    Instr.fill place (rowOf f N) ((i, u) :: rest) = Instr.fill place (rowOf (fun j => if off ≤ j ∧ j < off + n then g (j - off) else f j) N) rest := by
  rw [Instr.fill, hp]
  simp only [hu, rowOf_size]
  rw [if_neg (by simp; omega)]
  congr 1
  apply Array.ext_getElem?
  intro k
  rw [← Array.foldl_toList, Array.toList_zipIdx, fold_set]
  simp only [rowOf_size, Array.length_toList, Nat.add_zero]
  by_cases hk : k < N
  · by_cases h1 : off ≤ k ∧ k < off + n
    · rw [if_pos ⟨h1.1, h1.2, hk⟩, rowOf_get _ hk, if_pos h1, Array.getElem?_toList, rowOf_get _ (by omega)]
    · rw [if_neg (by omega), rowOf_get _ hk, rowOf_get _ hk, if_neg h1]
  · rw [if_neg (by omega)]
    simp [rowOf, hk]

/-- Where the fields of a memory lie. -/
def memPlaces : Array (Nat × Nat) := #[(0, 1), (1, 1), (2, 1), (3, 1), (4, 1), (5, 32), (37, 48), (85, 32), (117, 16), (133, 1), (134, 1), (135, 1)]

theorem built_mem (l : List (Nat × Value)) : Try.prog.built 78 l = Instr.fill (memPlaces[·]?) mem0.row l := by kernel_rfl

theorem list_build {ops : Array Oper} {Q : Exit → Act → World → Prop} {rest : List Oper} {o : Oper} {a : Act} {w : World} {t : TypeId} {parts : Array (Nat × Operand)} {cells : Array Value} {l : List (Nat × Value)}
    (hg : o.guard = none) (ho : o.op = .build t parts) (hl : (parts.map fun (i, x) => (i, a.eval x)).toList = l) (hb : Try.prog.built t l = some cells) (hK : wpList Try.prog ops Q rest (a.put o.dst (.agg cells)) w) : wpList Try.prog ops Q (o :: rest) a w := by
  rw [← hl] at hb
  refine wpList_build hg t parts ho (by rw [hb]; rfl) ?_
  rw [hb]
  exact hK

end Go.Proofs.Ytdhoimjkgicneac
