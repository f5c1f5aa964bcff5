/- The draw of a text, from a code. -/
import Derived.Test.YtdhoimjkgicneaaDoorDrawD
import Derived.Test.YtdhoimjkgicneaaDoorDev2
import Derived.Test.YtdhoimjkgicneaaDoorDrawS
namespace Go.Proofs.YtdhoimjkgicneaaDoor
open Go Go.RowKit

set_option maxHeartbeats 1000000 in
theorem draw_text (v : Value) (w : World) (h : CodeAt v w) :
    Calls Tryd.prog 17 #[v] w fun e w' => ∃ l : List UInt8, e = .returned (.string ⟨l.toArray⟩) ∧ l.length ≤ 100 ∧ Below w.heap.size w w' := by
  go_enter Tryd.func17, Tryd.ntmps17
  go_wp2_with fail
  refine (open_any v w h).mono ?_
  rintro e w1 ⟨rfl, rd1, hb1⟩
  clear h
  go_wp2_with fail
  refine (any_any w.heap.size 0 w1 rd1 (by omega)).mono ?_
  rintro e w2 ⟨k, n, p, rfl, rd2, mv2⟩
  have b2 : Below w.heap.size w w2 := hb1.trans (mv2.below hb1.size (Nat.le_refl _))
  clear hb1 mv2 rd1
  go_wp2_with fail
  refine (spec_text k n p w2).mono ?_
  rintro e w3 ⟨rfl, hb3⟩
  have hlen := textL_len k n p
  generalize textL k n p = s at *
  have rd3 := rd2.below hb3
  have b3 : Below w.heap.size w w3 := b2.trans (hb3.mono b2.size)
  clear hb3 rd2 b2
  go_wp2_with fail
  refine (pick_any w.heap.size (0 + 10) 9 w3 rd3 (by omega) (by omega)).mono ?_
  rintro e w4 ⟨y, rfl, y0, -, -, rd4, mv4⟩
  have b4 : Below w.heap.size w w4 := b3.trans (mv4.below b3.size (Nat.le_refl _))
  have s4 : w.heap.size ≤ w4.heap.size := b4.size
  have B4 : Hid (Below w.heap.size w w4) := b4
  clear mv4 rd3 b3 b4
  cases h0 : y == 0 with
  | true =>
    go_wp2_with fail
    refine (of_lit w.heap.size (0 + 10 + 1) _ _ _ rfl rd4 (by omega) (by decide) (by decide) (by decide) 43 rfl).mono ?_
    rintro e w5 ⟨l, rfl, hl, rd5, mv5⟩
    have B5 : Hid (Below w.heap.size w w5) := B4.out.trans (mv5.below s4 (Nat.le_refl _))
    clear rd4 rd5 mv5
    go_wp2
    go_ret
    exact ⟨l, rfl, by omega, B5.out⟩
  | false =>
    cases h1 : y == 1 with
    | true =>
      go_wp2_with fail
      refine (of_lit w.heap.size (0 + 10 + 1) _ _ _ rfl rd4 (by omega) (by decide) (by decide) (by decide) 5 rfl).mono ?_
      rintro e w5 ⟨l, rfl, hl, rd5, mv5⟩
      have B5 : Hid (Below w.heap.size w w5) := B4.out.trans (mv5.below s4 (Nat.le_refl _))
      clear rd4 rd5 mv5
      go_wp2
      go_ret
      exact ⟨s ++ l, ret_str (str_cat _ _), by simp; omega, B5.out⟩
    | false =>
      cases h2 : y == 2 with
      | true =>
        go_wp2_with fail
        refine (of_lit w.heap.size (0 + 10 + 1) _ _ _ rfl rd4 (by omega) (by decide) (by decide) (by decide) 5 rfl).mono ?_
        rintro e w5 ⟨l, rfl, hl, rd5, mv5⟩
        have B5 : Hid (Below w.heap.size w w5) := B4.out.trans (mv5.below s4 (Nat.le_refl _))
        clear rd4 rd5 mv5
        go_wp2
        go_ret
        exact ⟨l ++ s, ret_str (str_cat _ _), by simp; omega, B5.out⟩
      | false =>
        clear rd4
        go_wp2
        go_ret
        exact ⟨s, rfl, by omega, B4.out⟩

end Go.Proofs.YtdhoimjkgicneaaDoor
