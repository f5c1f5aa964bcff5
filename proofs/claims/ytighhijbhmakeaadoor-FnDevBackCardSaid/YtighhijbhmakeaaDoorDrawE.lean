/- The draw of a text, from a code. -/
import Derived.Test.YtighhijbhmakeaaDoorDrawD
import Derived.Test.YtighhijbhmakeaaDoorDev2
namespace Go.Proofs.YtighhijbhmakeaaDoor
open Go Go.RowKit

/-- A short string. -/
def smallStr (v : Value) : Bool := match v with | .string s => decide (s.size ≤ 30) | _ => false

theorem strs_of {w : World} {cs : Array Value} {t : TypeId} (h : cs.toList.all smallStr = true) : ∀ i, i < cs.size → ∃ l : List UInt8, l.length ≤ 30 ∧ (w.alloc (.cells cs t)).cell? ⟨w.heap.size, i, none⟩ = some (.string ⟨l.toArray⟩) := by
  intro i hi
  have h1 := List.all_eq_true.1 h cs[i] (by simp)
  have h2 : ∃ l : List UInt8, l.length ≤ 30 ∧ cs[i] = .string ⟨l.toArray⟩ := by
    generalize cs[i] = v at h1
    match v, h1 with
    | .string s, h1 => exact ⟨s.data.toList, by rw [Array.length_toList]; exact of_decide_eq_true h1, rfl⟩
  obtain ⟨l, hl, e⟩ := h2
  exact ⟨l, hl, by rw [← e]; simp [hi]⟩

set_option maxHeartbeats 400000 in
theorem of_any (R c L len cap : Nat) (w : World) (h : Rd R c w) (hc : c ≤ 1000) (hL : L < w.heap.size) (hn : L ≠ R) (l1 : 1 ≤ len) (l2 : len ≤ 1000)
    (hl : ∀ i, i < len → ∃ l : List UInt8, l.length ≤ 30 ∧ w.cell? ⟨L, i, none⟩ = some (.string ⟨l.toArray⟩)) :
    Calls Tryd.prog 47 #[.pointer (some ⟨R, 0, none⟩), .slice (some ⟨L, 0, none⟩) len cap] w fun e w' => ∃ l : List UInt8, e = .returned (.string ⟨l.toArray⟩) ∧ l.length ≤ 30 ∧ Rd R (c + 1) w' ∧ Moved R w w' := by
  go_enter Tryd.func47, Tryd.ntmps47
  go_wp2_with fail
  refine (pick_any R c len w h (by omega) (by omega)).mono ?_
  rintro e w1 ⟨x, rfl, x0, x1, -, rd, mv⟩
  obtain ⟨i, rfl⟩ : ∃ i : Nat, x = i := ⟨x.toNat, by omega⟩
  have hi : i < len := by have := x1 (by omega); omega
  obtain ⟨l, hll, hz⟩ := hl i hi
  have ez : w1.cell? ⟨L, i, none⟩ = some (.string ⟨l.toArray⟩) := (mv.cell (p := ⟨L, i, none⟩) hL hn).trans hz
  clear x0 x1 hl hz h
  go_wp2
  go_ret
  exact ⟨l, rfl, hll, rd, mv⟩

theorem of_lit (R c : Nat) (cs : Array Value) (w : World) (q : Nat) (hq : q = w.heap.size) (h : Rd R c w) (hc : c ≤ 1000) (hcs : cs.toList.all smallStr = true) (l1 : 1 ≤ cs.size) (l2 : cs.size ≤ 1000) (n : Nat) (hn : n = cs.size) :
    Calls Tryd.prog 47 #[.pointer (some ⟨R, 0, none⟩), .slice (some ⟨q, 0, none⟩) n n] (w.alloc (.cells cs 9)) fun e w' => ∃ l : List UInt8, e = .returned (.string ⟨l.toArray⟩) ∧ l.length ≤ 30 ∧ Rd R (c + 1) w' ∧ Moved R w w' := by
  subst hq hn
  have hs := h.size
  refine (of_any R c w.heap.size cs.size cs.size _ (h.alloc _) hc (by simp) (by omega) l1 l2 (strs_of hcs)).mono ?_
  rintro e w' ⟨z, rfl, hz, rd, mv⟩
  exact ⟨z, rfl, hz, rd, (Moved.alloc R w _).trans mv⟩

set_option maxHeartbeats 1000000 in
theorem draw_text (v : Value) (w : World) (h : CodeAt v w) :
    Calls Tryd.prog 13 #[v] w fun e w' => ∃ l : List UInt8, e = .returned (.string ⟨l.toArray⟩) ∧ l.length ≤ 100 ∧ Below w.heap.size w w' := by
  go_enter Tryd.func13, Tryd.ntmps13
  go_wp2_with fail
  refine (open_any v w h).mono ?_
  rintro e w1 ⟨rfl, rd1, hb1⟩
  clear h
  go_wp2_with fail
  refine (any_any w.heap.size 0 w1 rd1 (by omega)).mono ?_
  rintro e w2 ⟨k, n, p, rfl, rd2, mv2⟩
  have b2 : Below w.heap.size w w2 := hb1.trans (mv2.below hb1.size (Nat.le_refl _))
  clear hb1 mv2 rd1
  go_wp2_with fail
  refine (spec_text k n p w2).mono ?_
  rintro e w3 ⟨rfl, hb3⟩
  have hlen := textL_len k n p
  generalize textL k n p = s at *
  have rd3 := rd2.below hb3
  have b3 : Below w.heap.size w w3 := b2.trans (hb3.mono b2.size)
  clear hb3 rd2 b2
  go_wp2_with fail
  refine (pick_any w.heap.size (0 + 10) 9 w3 rd3 (by omega) (by omega)).mono ?_
  rintro e w4 ⟨y, rfl, y0, -, -, rd4, mv4⟩
  have b4 : Below w.heap.size w w4 := b3.trans (mv4.below b3.size (Nat.le_refl _))
  have s4 : w.heap.size ≤ w4.heap.size := b4.size
  have B4 : Hid (Below w.heap.size w w4) := b4
  clear mv4 rd3 b3 b4
  cases h0 : y == 0 with
  | true =>
    go_wp2_with fail
    refine (of_lit w.heap.size (0 + 10 + 1) _ _ _ rfl rd4 (by omega) (by decide) (by decide) (by decide) 43 rfl).mono ?_
    rintro e w5 ⟨l, rfl, hl, rd5, mv5⟩
    have B5 : Hid (Below w.heap.size w w5) := B4.out.trans (mv5.below s4 (Nat.le_refl _))
    clear rd4 rd5 mv5
    go_wp2
    go_ret
    exact ⟨l, rfl, by omega, B5.out⟩
  | false =>
    cases h1 : y == 1 with
    | true =>
      go_wp2_with fail
      refine (of_lit w.heap.size (0 + 10 + 1) _ _ _ rfl rd4 (by omega) (by decide) (by decide) (by decide) 5 rfl).mono ?_
      rintro e w5 ⟨l, rfl, hl, rd5, mv5⟩
      have B5 : Hid (Below w.heap.size w w5) := B4.out.trans (mv5.below s4 (Nat.le_refl _))
      clear rd4 rd5 mv5
      go_wp2
      go_ret
      exact ⟨s ++ l, ret_str (str_cat _ _), by simp; omega, B5.out⟩
    | false =>
      cases h2 : y == 2 with
      | true =>
        go_wp2_with fail
        refine (of_lit w.heap.size (0 + 10 + 1) _ _ _ rfl rd4 (by omega) (by decide) (by decide) (by decide) 5 rfl).mono ?_
        rintro e w5 ⟨l, rfl, hl, rd5, mv5⟩
        have B5 : Hid (Below w.heap.size w w5) := B4.out.trans (mv5.below s4 (Nat.le_refl _))
        clear rd4 rd5 mv5
        go_wp2
        go_ret
        exact ⟨l ++ s, ret_str (str_cat _ _), by simp; omega, B5.out⟩
      | false =>
        clear rd4
        go_wp2
        go_ret
        exact ⟨s, rfl, by omega, B4.out⟩

end Go.Proofs.YtighhijbhmakeaaDoor
