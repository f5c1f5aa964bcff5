/- The laws on tests that are turned round, out of the contracts. -/
import Derived.Test.YtdhoimjkgicneaaDoorCmpB
import Derived.Test.YtdhoimjkgicneaaDoorNumB
namespace Go.Proofs.YtdhoimjkgicneaaDoor
open Go Go.RowKit

theorem nan_order {x y : Nat} (h : (FloatKind.f64.format.order x x == some .eq) = false ∨ (FloatKind.f64.format.order y y == some .eq) = false) : FloatKind.f64.format.order x y = none := by
  rcases h with h | h
  · rcases order_self x with g | ⟨s, t, g⟩
    · have g' : FloatKind.f64.format.order x x = some .eq := g
      rw [g'] at h; cases h
    · exact order_nan_left g
  · rcases order_self y with g | ⟨s, t, g⟩
    · have g' : FloatKind.f64.format.order y y = some .eq := g
      rw [g'] at h; cases h
    · exact order_nan_right g

theorem num_order {x y : Nat} (h : (FloatKind.f64.format.order x x == some .eq) = true) (g : (FloatKind.f64.format.order y y == some .eq) = true) : ∃ o, FloatKind.f64.format.order x y = some o := by
  cases hn : FloatKind.f64.format.order x y with
  | some o => exact ⟨o, rfl⟩
  | none =>
    exfalso
    rcases order_none (x := x) (y := y) hn with e | e
    · have e' : FloatKind.f64.format.order x x = none := e
      rw [e'] at h; cases h
    · have e' : FloatKind.f64.format.order y y = none := e
      rw [e'] at g; cases g

set_option maxHeartbeats 400000 in
theorem flip_long (a0 : Option Addr) (l0 c0 : Nat) (w : World) (h : 1048576 < l0) (m0 : l0 ≤ 9223372036854775807) :
    Calls Tryd.prog 4 #[.slice a0 l0 c0] w fun e w' => e = .returned (.bool true) ∧ Below w.heap.size w w' := by
  go_enter Tryd.func4, Tryd.ntmps4
  go_wp2
  go_ret
  exact ⟨rfl, Below.refl _ _⟩

set_option maxHeartbeats 2000000 in
theorem flip_short (a0 : Option Addr) (l0 c0 : Nat) (w : World) (T : CTab w) (h0 : l0 ≤ 1048576) (C0 : CodeAt (.slice a0 l0 c0) w) :
    Calls Tryd.prog 4 #[.slice a0 l0 c0] w fun e w' => e = .returned (.bool true) ∧ Below w.heap.size w w' := by
  have CC : Hid (CodeAt (.slice a0 l0 c0) w) := C0
  have TT : Hid (CTab w) := T
  clear C0 T
  go_enter Tryd.func4, Tryd.ntmps4
  go_wp2_with fail
  refine (draw_cmp _ w CC.out).mono ?_
  rintro e w1 ⟨o, a, b, rfl, a1, a2, b1, b2, hb⟩
  have B1 : Hid (Below w.heap.size w w1) := hb
  clear hb
  go_wp2_with fail
  refine (draw_rcmp _ w1 (CC.out.below B1.out)).mono ?_
  rintro e w2 ⟨o2, x, y, rfl, hb⟩
  have B2 : Hid (Below w.heap.size w w2) := B1.out.trans (hb.mono B1.out.size)
  clear hb
  go_wp2_with fail
  go_loopw [9] (fun i wr => ∃ k : Int, 1 ≤ k ∧ k ≤ 7 ∧ i = .int .i64 k ∧ Below w.heap.size w wr) (fun i _ => 7 - (intOf i).toNat)
  case atStart => exact ⟨1, by omega, by omega, rfl, B2.out⟩
  case round =>
    obtain ⟨k, k1, k7, rfl, hbr⟩ := hrel
    have BR : Hid (Below w.heap.size w wr) := hbr
    clear hbr
    by_cases hk : k ≤ 6
    · obtain ⟨f1, f6⟩ := flipZ_bd k1 hk
      have fc : Hid (∀ o, (cmpB k (some o) == cmpB (flipZ k) (some o)) = false) := flip_cmp k1 hk
      have nc : Hid (cmpB k none = (k == 4)) := none_cmp k1 hk
      obtain ⟨f, hf⟩ : ∃ f, f = flipZ k := ⟨_, rfl⟩
      rw [← hf] at f1 f6 fc
      have HF : Hid (flipZ k = f) := hf.symm
      clear hf
      go_wp2_with fail
      refine (impl_flip k wr (TT.out.below BR.out (Nat.le_refl _)) k1 hk).mono ?_
      rintro e w3 ⟨rfl, hb⟩
      have B3 : Hid (Below w.heap.size w w3) := BR.out.trans (hb.mono BR.out.size)
      rw [HF.out]
      clear hb
      go_wp2_with fail
      refine (spec_flip k w3 k1 hk).mono ?_
      rintro e w4 ⟨rfl, hb⟩
      have B4 : Hid (Below w.heap.size w w4) := B3.out.trans (hb.mono B3.out.size)
      rw [HF.out]
      clear hb
      go_wp2_with fail
      refine (impl_wcmp k a b w4 k1 hk a1 a2 b1 b2).mono ?_
      rintro e w5 ⟨rfl, hb⟩
      have B5 : Hid (Below w.heap.size w w5) := B4.out.trans (hb.mono B4.out.size)
      clear hb
      go_wp2_with fail
      refine (impl_flip k w5 (TT.out.below B5.out (Nat.le_refl _)) k1 hk).mono ?_
      rintro e w6 ⟨rfl, hb⟩
      have B6 : Hid (Below w.heap.size w w6) := B5.out.trans (hb.mono B5.out.size)
      rw [HF.out]
      clear hb
      go_wp2_with fail
      refine (impl_wcmp f a b w6 f1 f6 a1 a2 b1 b2).mono ?_
      rintro e w7 ⟨rfl, hb⟩
      have B7 : Hid (Below w.heap.size w w7) := B6.out.trans (hb.mono B6.out.size)
      have g1 := fc.out (compare a b)
      obtain ⟨p1, hp1⟩ : ∃ p, p = cmpB k (some (compare a b)) := ⟨_, rfl⟩
      obtain ⟨p2, hp2⟩ : ∃ p, p = cmpB f (some (compare a b)) := ⟨_, rfl⟩
      rw [← hp1, ← hp2] at g1 ⊢
      clear hb hp1 hp2
      cases hx : FloatKind.f64.format.order x x == some .eq with
      | false =>
        have hn := nan_order (x := x) (y := y) (Or.inl hx)
        go_wp2_with fail
        refine (impl_rcmp k x y w7 k1 hk).mono ?_
        rintro e w8 ⟨rfl, hb⟩
        have B8 : Hid (Below w.heap.size w w8) := B7.out.trans (hb.mono B7.out.size)
        rw [hn, nc.out]
        clear hb
        go_wp2
        go_roundw
        case rel => exact ⟨k + 1, by omega, by omega, by go_num, B8.out⟩
        case measure => simp [intOf]; omega
      | true =>
        cases hy : FloatKind.f64.format.order y y == some .eq with
        | false =>
          have hn := nan_order (x := x) (y := y) (Or.inr hy)
          go_wp2_with fail
          refine (impl_rcmp k x y w7 k1 hk).mono ?_
          rintro e w8 ⟨rfl, hb⟩
          have B8 : Hid (Below w.heap.size w w8) := B7.out.trans (hb.mono B7.out.size)
          rw [hn, nc.out]
          clear hb
          go_wp2
          go_roundw
          case rel => exact ⟨k + 1, by omega, by omega, by go_num, B8.out⟩
          case measure => simp [intOf]; omega
        | true =>
          obtain ⟨od, hod⟩ := num_order hx hy
          have g2 := fc.out od
          obtain ⟨q1, hq1⟩ : ∃ p, p = cmpB k (some od) := ⟨_, rfl⟩
          obtain ⟨q2, hq2⟩ : ∃ p, p = cmpB f (some od) := ⟨_, rfl⟩
          rw [← hq1, ← hq2] at g2
          have Q1 : Hid (q1 = cmpB k (some od)) := hq1
          have Q2 : Hid (q2 = cmpB f (some od)) := hq2
          have OD : Hid (FloatKind.f64.format.order x y = some od) := hod
          clear hq1 hq2 hod
          go_wp2_with fail
          refine (impl_rcmp k x y w7 k1 hk).mono ?_
          rintro e w8 ⟨rfl, hb⟩
          have B8 : Hid (Below w.heap.size w w8) := B7.out.trans (hb.mono B7.out.size)
          rw [OD.out, ← Q1.out]
          clear hb
          go_wp2_with fail
          refine (impl_flip k w8 (TT.out.below B8.out (Nat.le_refl _)) k1 hk).mono ?_
          rintro e w9 ⟨rfl, hb⟩
          have B9 : Hid (Below w.heap.size w w9) := B8.out.trans (hb.mono B8.out.size)
          rw [HF.out]
          clear hb
          go_wp2_with fail
          refine (impl_rcmp f x y w9 f1 f6).mono ?_
          rintro e w10 ⟨rfl, hb⟩
          have B10 : Hid (Below w.heap.size w w10) := B9.out.trans (hb.mono B9.out.size)
          rw [OD.out, ← Q2.out]
          clear hb
          go_wp2
          go_roundw
          case rel => exact ⟨k + 1, by omega, by omega, by go_num, B10.out⟩
          case measure => simp [intOf]; omega
    · have e : k = 7 := by omega
      subst e
      go_wp2
      go_ret
      exact ⟨rfl, BR.out⟩

end Go.Proofs.YtdhoimjkgicneaaDoor
