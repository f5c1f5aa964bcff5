/- The law on tests with their sides changed, out of the contracts. -/
import Derived.Test.YtdhoimjkgicneaaDoorCmpC
namespace Go.Proofs.YtdhoimjkgicneaaDoor
open Go Go.RowKit

set_option maxHeartbeats 400000 in
theorem swap_long (a0 : Option Addr) (l0 c0 : Nat) (w : World) (h : 1048576 < l0) (m0 : l0 ≤ 9223372036854775807) :
    Calls Tryd.prog 5 #[.slice a0 l0 c0] w fun e w' => e = .returned (.bool true) ∧ Below w.heap.size w w' := by
  go_enter Tryd.func5, Tryd.ntmps5
  go_wp2
  go_ret
  exact ⟨rfl, Below.refl _ _⟩

set_option maxHeartbeats 2000000 in
theorem swap_short (a0 : Option Addr) (l0 c0 : Nat) (w : World) (T : CTab w) (h0 : l0 ≤ 1048576) (C0 : CodeAt (.slice a0 l0 c0) w) :
    Calls Tryd.prog 5 #[.slice a0 l0 c0] w fun e w' => e = .returned (.bool true) ∧ Below w.heap.size w w' := by
  have CC : Hid (CodeAt (.slice a0 l0 c0) w) := C0
  have TT : Hid (CTab w) := T
  clear C0 T
  go_enter Tryd.func5, Tryd.ntmps5
  go_wp2_with fail
  refine (draw_cmp _ w CC.out).mono ?_
  rintro e w1 ⟨o, a, b, rfl, a1, a2, b1, b2, hb⟩
  have B1 : Hid (Below w.heap.size w w1) := hb
  clear hb
  go_wp2_with fail
  refine (draw_rcmp _ w1 (CC.out.below B1.out)).mono ?_
  rintro e w2 ⟨o2, x, y, rfl, hb⟩
  have B2 : Hid (Below w.heap.size w w2) := B1.out.trans (hb.mono B1.out.size)
  clear hb
  go_wp2_with fail
  go_loopw [9] (fun i wr => ∃ k : Int, 1 ≤ k ∧ k ≤ 7 ∧ i = .int .i64 k ∧ Below w.heap.size w wr) (fun i _ => 7 - (intOf i).toNat)
  case atStart => exact ⟨1, by omega, by omega, rfl, B2.out⟩
  case round =>
    obtain ⟨k, k1, k7, rfl, hbr⟩ := hrel
    have BR : Hid (Below w.heap.size w wr) := hbr
    clear hbr
    by_cases hk : k ≤ 6
    · obtain ⟨f1, f6⟩ := swapZ_bd k1 hk
      have sw : Hid (∀ o, cmpB k o = cmpB (swapZ k) (o.map Ordering.swap)) := swap_cmp k1 hk
      have ss : Hid (swapZ (swapZ k) = k) := swapZ_swapZ k1 hk
      obtain ⟨f, hf⟩ : ∃ f, f = swapZ k := ⟨_, rfl⟩
      rw [← hf] at f1 f6 sw ss
      have HF : Hid (swapZ k = f) := hf.symm
      clear hf
      go_wp2_with fail
      refine (impl_swap k wr (TT.out.below BR.out (Nat.le_refl _)) k1 hk).mono ?_
      rintro e w3 ⟨rfl, hb⟩
      have B3 : Hid (Below w.heap.size w w3) := BR.out.trans (hb.mono BR.out.size)
      rw [HF.out]
      clear hb
      go_wp2_with fail
      refine (spec_swap k w3 k1 hk).mono ?_
      rintro e w4 ⟨rfl, rfl⟩
      rw [HF.out]
      go_wp2_with fail
      refine (impl_swap f w4 (TT.out.below B3.out (Nat.le_refl _)) f1 f6).mono ?_
      rintro e w5 ⟨rfl, hb⟩
      have B5 : Hid (Below w.heap.size w w5) := B3.out.trans (hb.mono B3.out.size)
      rw [ss.out]
      clear hb
      go_wp2_with fail
      refine (impl_wcmp k a b w5 k1 hk a1 a2 b1 b2).mono ?_
      rintro e w6 ⟨rfl, hb⟩
      have B6 : Hid (Below w.heap.size w w6) := B5.out.trans (hb.mono B5.out.size)
      clear hb
      have e1 : Hid (cmpB f (some (compare b a)) = cmpB k (some (compare a b))) := by
        show cmpB f (some (compare b a)) = cmpB k (some (compare a b))
        rw [sw.out (some (compare a b))]
        rw [show (compare b a) = (compare a b).swap from Std.OrientedCmp.eq_swap (cmp := (compare : Int → Int → Ordering))]
        rfl
      obtain ⟨p1, hp1⟩ : ∃ p, p = cmpB k (some (compare a b)) := ⟨_, rfl⟩
      rw [← hp1] at e1 ⊢
      clear hp1
      go_wp2_with fail
      refine (impl_wcmp f b a w6 f1 f6 b1 b2 a1 a2).mono ?_
      rintro e w7 ⟨rfl, hb⟩
      have B7 : Hid (Below w.heap.size w w7) := B6.out.trans (hb.mono B6.out.size)
      rw [e1.out]
      clear hb
      go_wp2_with fail
      refine (impl_rcmp k x y w7 k1 hk).mono ?_
      rintro e w8 ⟨rfl, hb⟩
      have B8 : Hid (Below w.heap.size w w8) := B7.out.trans (hb.mono B7.out.size)
      clear hb
      have e2 : Hid (cmpB f (FloatKind.f64.format.order y x) = cmpB k (FloatKind.f64.format.order x y)) := by
        show cmpB f (FloatKind.f64.format.order y x) = cmpB k (FloatKind.f64.format.order x y)
        rw [sw.out (FloatKind.f64.format.order x y)]
        exact congrArg (cmpB f) (order_swap x y)
      obtain ⟨p2, hp2⟩ : ∃ p, p = cmpB k (FloatKind.f64.format.order x y) := ⟨_, rfl⟩
      rw [← hp2] at e2 ⊢
      clear hp2
      go_wp2_with fail
      refine (impl_rcmp f y x w8 f1 f6).mono ?_
      rintro e w9 ⟨rfl, hb⟩
      have B9 : Hid (Below w.heap.size w w9) := B8.out.trans (hb.mono B8.out.size)
      rw [e2.out]
      clear hb
      go_wp2
      go_roundw
      case rel => exact ⟨k + 1, by omega, by omega, by go_num, B9.out⟩
      case measure => simp [intOf]; omega
    · have e : k = 7 := by omega
      subst e
      go_wp2
      go_ret
      exact ⟨rfl, BR.out⟩

end Go.Proofs.YtdhoimjkgicneaaDoor
