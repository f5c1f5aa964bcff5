/- The draws of a real number and of its text. -/
import Derived.Test.YtdhoimjkgicneaaDoorRealC
import Derived.Test.YtdhoimjkgicneaaDoorDrawS
import Derived.Test.YtdhoimjkgicneaaDoorTxtJ
namespace Go.Proofs.YtdhoimjkgicneaaDoor
open Go Go.RowKit

set_option maxHeartbeats 400000 in
theorem draw_rtext (v : Value) (w : World) (h : CodeAt v w) :
    Calls Tryd.prog 27 #[v] w fun e w' => ∃ x : Nat, e = .returned (.float .f64 x) ∧ Below w.heap.size w w' := by
  go_enter Tryd.func27, Tryd.ntmps27
  go_wp2_with fail
  refine (open_any v w h).mono ?_
  rintro e w1 ⟨rfl, rd1, hb1⟩
  have hs1 := hb1.size
  clear h
  go_wp2_with fail
  refine (real_any w.heap.size 0 w1 rd1 (by omega)).mono ?_
  rintro e w2 ⟨x, rfl, rd2, mv2⟩
  have B : Hid (Below w.heap.size w w2) := hb1.trans (mv2.below hs1 (Nat.le_refl _))
  clear rd1 rd2 mv2 hb1
  go_wp2
  go_ret
  exact ⟨x, rfl, B.out⟩

set_option maxHeartbeats 1000000 in
theorem draw_rread (v : Value) (w : World) (h : CodeAt v w) :
    Calls Tryd.prog 31 #[v] w fun e w' => ∃ l : List UInt8, e = .returned (.string ⟨l.toArray⟩) ∧ l.length ≤ 100 ∧ Below w.heap.size w w' := by
  go_enter Tryd.func31, Tryd.ntmps31
  go_wp2_with fail
  refine (open_any v w h).mono ?_
  rintro e w1 ⟨rfl, rd1, hb1⟩
  clear h
  go_wp2_with fail
  refine (real_any w.heap.size 0 w1 rd1 (by omega)).mono ?_
  rintro e w2 ⟨x, rfl, rd2, mv2⟩
  have b2 : Below w.heap.size w w2 := hb1.trans (mv2.below hb1.size (Nat.le_refl _))
  clear hb1 mv2 rd1
  go_wp2_with fail
  refine (spec_rtext x w2).mono ?_
  rintro e w3 ⟨s, rfl, hlen, hb3⟩
  have rd3 := rd2.below hb3
  have b3 : Below w.heap.size w w3 := b2.trans (hb3.mono b2.size)
  clear hb3 b2 rd2
  go_wp2_with fail
  refine (pick_any w.heap.size (0 + 12) 9 w3 rd3 (by omega) (by omega)).mono ?_
  rintro e w4 ⟨y, rfl, y0, -, -, rd4, mv4⟩
  have b4 : Below w.heap.size w w4 := b3.trans (mv4.below b3.size (Nat.le_refl _))
  clear rd3 mv4 b3
  by_cases h0 : y = 0
  · subst h0
    go_wp2_with fail
    refine (of_lit w.heap.size (0 + 12 + 1) _ _ _ (by simp) rd4 (by omega) (by decide +kernel) (by simp) (by simp) 28 rfl).mono ?_
    rintro e w5 ⟨l, rfl, hl, rd5, mv5⟩
    have B : Hid (Below w.heap.size w w5) := b4.trans (mv5.below b4.size (Nat.le_refl _))
    clear rd4 rd5 mv5 b4
    go_wp2
    go_ret
    exact ⟨l, rfl, by omega, B.out⟩
  · by_cases h1 : y = 1
    · subst h1
      go_wp2_with fail
      refine (of_lit w.heap.size (0 + 12 + 1) _ _ _ (by simp) rd4 (by omega) (by decide +kernel) (by simp) (by simp) 4 rfl).mono ?_
      rintro e w5 ⟨l, rfl, hl, rd5, mv5⟩
      have B : Hid (Below w.heap.size w w5) := b4.trans (mv5.below b4.size (Nat.le_refl _))
      clear rd4 rd5 mv5 b4
      go_wp2
      go_ret
      refine ⟨s ++ l, ret_strR (str_cat _ _), by simp; omega, B.out⟩
    · by_cases h2 : y = 2
      · subst h2
        go_wp2_with fail
        refine (of_lit w.heap.size (0 + 12 + 1) _ _ _ (by simp) rd4 (by omega) (by decide +kernel) (by simp) (by simp) 4 rfl).mono ?_
        rintro e w5 ⟨l, rfl, hl, rd5, mv5⟩
        have B : Hid (Below w.heap.size w w5) := b4.trans (mv5.below b4.size (Nat.le_refl _))
        clear rd4 rd5 mv5 b4
        go_wp2
        go_ret
        refine ⟨l ++ s, ret_strR (str_cat _ _), by simp; omega, B.out⟩
      · have n0 : (y == 0) = false := by simpa using h0
        have n1 : (y == 1) = false := by simpa using h1
        have n2 : (y == 2) = false := by simpa using h2
        have B : Hid (Below w.heap.size w w4) := b4
        clear rd4 b4 h0 h1 h2
        go_wp2
        go_ret
        exact ⟨s, rfl, by omega, B.out⟩

end Go.Proofs.YtdhoimjkgicneaaDoor
