/- Drawn words of 64 bits and drawn real numbers, with their bounds: the draw ends, answers some bits, 64 of them, and turns nothing but the reader. -/
import Derived.Test.YtelgefchnjiggaaDoorRealC
import Derived.Test.YtelgefchnjiggaaDoorFltG
namespace Go.Proofs.YtelgefchnjiggaaDoor
open Go Go.RowKit

set_option maxHeartbeats 400000 in
theorem word_all (R c : Nat) (w : World) (h : Rd R c w) (hc : c ≤ 900) :
    Calls Tryd.prog 116 #[.pointer (some ⟨R, 0, none⟩)] w fun e w' => ∃ z : Int, e = .returned (.int .u64 z) ∧ 0 ≤ z ∧ z < 18446744073709551616 ∧ Rd R (c + 8) w' ∧ Moved R w w' := by
  have wr64 : ∀ z : Int, 0 ≤ IntKind.u64.wrap z ∧ IntKind.u64.wrap z < 18446744073709551616 := by
    intro z
    rw [IntKind.wrap_u64]
    omega
  go_enter Tryd.func116, Tryd.ntmps116
  go_wp2
  go_loopw [3, 4] (fun x i wr => ∃ (z : Int) (k : Nat), k ≤ 8 ∧ x = .int .u64 z ∧ i = .int .i64 k ∧ 0 ≤ z ∧ z < 18446744073709551616 ∧ Rd R (c + k) wr ∧ Moved R w wr) (fun _ i _ => 8 - (intOf i).toNat)
  case atStart => exact ⟨0, 0, by omega, rfl, rfl, by omega, by omega, h, Moved.refl _ _⟩
  case round =>
    obtain ⟨z, k, hk, rfl, rfl, z0, z1, rd, mv⟩ := hrel
    have RD : Hid (Rd R (c + k) wr) := rd
    have MV : Hid (Moved R w wr) := mv
    have Z : Hid (0 ≤ z ∧ z < 18446744073709551616) := ⟨z0, z1⟩
    clear rd mv h z0 z1
    by_cases hlt : k < 8
    · go_wp2_with fail
      refine (pick_any R (c + k) 256 wr RD.out (by omega) (by omega)).mono ?_
      rintro e w2 ⟨x, rfl, x0, -, -, rd2, mv2⟩
      have RD2 : Hid (Rd R (c + k + 1) w2) := rd2
      have MV2 : Hid (Moved R w w2) := MV.out.trans mv2
      clear rd2 mv2
      go_wp2
      go_roundw
      case rel => exact ⟨_, k + 1, by omega, rfl, by go_num, (wr64 _).1, (wr64 _).2, RD2.out, MV2.out⟩
      case measure => simp [intOf]; omega
    · go_wp2
      go_ret
      have : k = 8 := by omega
      subst this
      exact ⟨_, rfl, Z.out.1, Z.out.2, RD.out, MV.out⟩

/-- What a draw of a real number leaves. -/
def DrawnB (R c : Nat) (w : World) (e : Ending) (w' : World) : Prop := ∃ x : Nat, e = .returned (.float .f64 x) ∧ x < 18446744073709551616 ∧ Rd R (c + 12) w' ∧ Moved R w w'

theorem drawnB_of {R c c' : Nat} {w w' : World} (x : Nat) (hx : x < 18446744073709551616) (rd : Rd R c' w') (mv : Moved R w w') (h : c' ≤ c + 12) : DrawnB R c w (.returned (.float .f64 x)) w' := ⟨x, rfl, hx, rd.mono h, mv⟩

theorem nan_all (w : World) : Calls Tryd.prog 80 #[] w fun e w' => ∃ y, e = .returned (.float .f64 y) ∧ y < 18446744073709551616 ∧ w' = w.drewN 1 := by
  refine (nan_any w).mono ?_
  rintro e w' ⟨x, he, hx, hw⟩
  exact ⟨x, he, by rw [hx]; exact got_lt _ _ _ _, hw⟩

set_option maxHeartbeats 2000000 in
theorem real_all (R c : Nat) (w : World) (h : Rd R c w) (hc : c ≤ 800) : Calls Tryd.prog 72 #[.pointer (some ⟨R, 0, none⟩)] w (DrawnB R c w) := by
  go_enter Tryd.func72, Tryd.ntmps72
  go_wp2_with fail
  refine (pick_any R c 16 w h (by omega) (by omega)).mono ?_
  rintro e w1 ⟨x, rfl, x0, x1, -, rd, mv⟩
  have hx : x < 16 := x1 (by omega)
  clear x1 h
  have neg : ∀ b, Op.unary .neg (.float .f64 b) = pure (.float .f64 (Op.negFloat .f64 b)) := fun _ => rfl
  have hxs : x = 0 ∨ x = 1 ∨ x = 2 ∨ x = 3 ∨ x = 4 ∨ x = 5 ∨ x = 6 ∨ x = 7 ∨ x = 8 ∨ x = 9 ∨ x = 10 ∨ x = 11 ∨ 12 ≤ x := by omega
  rcases hxs with rfl | rfl | rfl | rfl | rfl | rfl | rfl | rfl | rfl | rfl | rfl | rfl | h12
  · go_wp2_with fail
    refine (nan_all w1).mono ?_
    rintro e w2 ⟨y, rfl, hy, rfl⟩
    go_wp2
    go_ret
    exact drawnB_of _ (by first | decide | exact got_lt _ _ _ _ | exact foi_lt _ | exact neg_lt (by decide) | assumption) (rd.drewN 1) (mv.drewN 1) (by omega)
  · go_wp2_with fail
    refine (inf_any w1).mono ?_
    rintro e w2 ⟨rfl, rfl⟩
    go_wp2
    go_ret
    exact drawnB_of _ (by first | decide | exact got_lt _ _ _ _ | exact foi_lt _ | exact neg_lt (by decide) | assumption) rd mv (by omega)
  · go_wp2_with fail
    refine (inf_any w1).mono ?_
    rintro e w2 ⟨rfl, rfl⟩
    go_wp2
    go_ret
    exact drawnB_of _ (by first | decide | exact got_lt _ _ _ _ | exact foi_lt _ | exact neg_lt (by decide) | assumption) rd mv (by omega)
  · go_wp2
    go_ret
    exact drawnB_of _ (by first | decide | exact got_lt _ _ _ _ | exact foi_lt _ | exact neg_lt (by decide) | assumption) rd mv (by omega)
  · go_wp2
    go_ret
    exact drawnB_of _ (by first | decide | exact got_lt _ _ _ _ | exact foi_lt _ | exact neg_lt (by decide) | assumption) rd mv (by omega)
  · go_wp2_with fail
    refine (pick_any R (c + 1) 40 w1 rd (by omega) (by omega)).mono ?_
    rintro e w2 ⟨y, rfl, y0, y1, -, rd2, mv2⟩
    have hy : y < 40 := y1 (by omega)
    have q := mul_any Tryd.prog 1 (floatOfInt .f64 (1 + y))
    have MV : Hid (Moved R w w2) := mv.trans mv2
    have RD : Hid (Rd R (c + 1 + 1) w2) := rd2
    clear rd rd2 mv mv2 y1
    go_wp2
    go_ret
    exact drawnB_of _ (by first | decide | exact got_lt _ _ _ _ | exact foi_lt _ | exact neg_lt (by decide) | assumption) (RD.out.drewN _) (MV.out.drewN _) (by omega)
  · go_wp2
    go_ret
    exact drawnB_of _ (by first | decide | exact got_lt _ _ _ _ | exact foi_lt _ | exact neg_lt (by decide) | assumption) rd mv (by omega)
  · go_wp2
    go_ret
    exact drawnB_of _ (by first | decide | exact got_lt _ _ _ _ | exact foi_lt _ | exact neg_lt (by decide) | assumption) rd mv (by omega)
  · go_wp2_with fail
    refine (pick_any R (c + 1) 9 w1 rd (by omega) (by omega)).mono ?_
    rintro e w2 ⟨y, rfl, y0, y1, -, rd2, mv2⟩
    have hy : y < 9 := y1 (by omega)
    have q := mul_any Tryd.prog 1 (floatOfInt .f64 (y - 4))
    have q2 : ∀ b, _ := add_any Tryd.prog 4503599627370496
    have MV : Hid (Moved R w w2) := mv.trans mv2
    have RD : Hid (Rd R (c + 1 + 1) w2) := rd2
    clear rd rd2 mv mv2 y1
    go_wp2
    go_ret
    exact drawnB_of _ (by first | decide | exact got_lt _ _ _ _ | exact foi_lt _ | exact neg_lt (by decide) | assumption) (RD.out.drewN _) (MV.out.drewN _) (by omega)
  · go_wp2_with fail
    refine (word_any R (c + 1) w1 rd (by omega)).mono ?_
    rintro e w2 ⟨z, rfl, rd2, mv2⟩
    clear rd
    go_wp2_with fail
    refine (pick_any R (c + 1 + 8) 200 w2 rd2 (by omega) (by omega)).mono ?_
    rintro e w3 ⟨y, rfl, y0, y1, -, rd3, mv3⟩
    have hy : y < 200 := y1 (by omega)
    have q : ∀ a b, _ := quo_any Tryd.prog
    have MV : Hid (Moved R w w3) := (mv.trans mv2).trans mv3
    have RD : Hid (Rd R (c + 1 + 8 + 1) w3) := rd3
    clear rd2 rd3 mv mv2 mv3 y1
    go_wp2_with fail
    refine (pick_any R (c + 1 + 8 + 1) 100 _ (RD.out.drewN _) (by omega) (by omega)).mono ?_
    rintro e w4 ⟨u, rfl, u0, u1, -, rd4, mv4⟩
    have hu : u < 100 := u1 (by omega)
    have MV4 : Hid (Moved R w w4) := (MV.out.drewN _).trans mv4
    have RD4 : Hid (Rd R (c + 1 + 8 + 1 + 1) w4) := rd4
    clear rd4 mv4 u1 q
    go_wp2
    go_loopw [4, 5] (fun f i wr => ∃ (g : Nat) (k : Nat), k ≤ 100 ∧ f = .float .f64 g ∧ i = .int .i64 k ∧ g < 18446744073709551616 ∧ Rd R (c + 1 + 8 + 1 + 1) wr ∧ Moved R w wr) (fun _ i _ => (intOf i).toNat)
    case atStart => exact ⟨_, u.toNat, by omega, rfl, by rw [Int.toNat_of_nonneg u0], got_lt _ _ _ _, RD4.out, MV4.out⟩
    case round =>
      obtain ⟨g, k, hk, rfl, rfl, hg, rd, mv⟩ := hrel
      have RD : Hid (Rd R (c + 1 + 8 + 1 + 1) wr) := rd
      have MV : Hid (Moved R w wr) := mv
      clear rd mv
      by_cases hlt : 0 < k
      · have q := mul_any Tryd.prog g 4563638014722897556
        go_wp2
        go_roundw
        case rel => exact ⟨_, k - 1, by omega, rfl, by go_num, got_lt _ _ _ _, RD.out.drewN _, MV.out.drewN _⟩
        case measure => simp [intOf]; omega
      · go_wp2
        go_ret
        exact drawnB_of _ (by first | decide | exact got_lt _ _ _ _ | exact foi_lt _ | exact neg_lt (by decide) | assumption) RD.out MV.out (by omega)
  · go_wp2_with fail
    refine (num_lit R (c + 1) _ _ _ (by simp) rd (by omega) (by simp) (by simp) (by simp) 5 rfl).mono ?_
    rintro e w2 ⟨z, rfl, rd2, mv2⟩
    clear rd
    go_wp2_with fail
    refine (pick_any R (c + 1 + 1) 5 w2 rd2 (by omega) (by omega)).mono ?_
    rintro e w3 ⟨y, rfl, y0, y1, -, rd3, mv3⟩
    have hy : y < 5 := y1 (by omega)
    have q := mul_any Tryd.prog (floatOfInt .f64 (y - 2)) 4598175219545276416
    have q2 : ∀ b, _ := add_any Tryd.prog (floatOfInt .f64 z)
    have MV : Hid (Moved R w w3) := (mv.trans mv2).trans mv3
    have RD : Hid (Rd R (c + 1 + 1 + 1) w3) := rd3
    clear rd2 rd3 mv mv2 mv3 y1
    go_wp2
    go_ret
    exact drawnB_of _ (by first | decide | exact got_lt _ _ _ _ | exact foi_lt _ | exact neg_lt (by decide) | assumption) (RD.out.drewN _) (MV.out.drewN _) (by omega)
  · go_wp2_with fail
    refine (word_any R (c + 1) w1 rd (by omega)).mono ?_
    rintro e w2 ⟨z, rfl, rd2, mv2⟩
    have MV : Hid (Moved R w w2) := mv.trans mv2
    have RD : Hid (Rd R (c + 1 + 8) w2) := rd2
    clear rd rd2 mv mv2
    go_wp2
    go_ret
    exact drawnB_of _ (by first | decide | exact got_lt _ _ _ _ | exact foi_lt _ | exact neg_lt (by decide) | assumption) RD.out MV.out (by omega)
  · have n0 : (x == 0) = false := by simp; omega
    have n1 : (x == 1) = false := by simp; omega
    have n2 : (x == 2) = false := by simp; omega
    have n3 : (x == 3) = false := by simp; omega
    have n4 : (x == 4) = false := by simp; omega
    have n5 : (x == 5) = false := by simp; omega
    have n6 : (x == 6) = false := by simp; omega
    have n7 : (x == 7) = false := by simp; omega
    have n8 : (x == 8) = false := by simp; omega
    have n9 : (x == 9) = false := by simp; omega
    have n10 : (x == 10) = false := by simp; omega
    have n11 : (x == 11) = false := by simp; omega
    go_wp2_with fail
    refine (pick_any R (c + 1) 41 w1 rd (by omega) (by omega)).mono ?_
    rintro e w2 ⟨y, rfl, y0, y1, -, rd2, mv2⟩
    have hy : y < 41 := y1 (by omega)
    have q := mul_any Tryd.prog (floatOfInt .f64 (y - 20)) 4598175219545276416
    have MV : Hid (Moved R w w2) := mv.trans mv2
    have RD : Hid (Rd R (c + 1 + 1) w2) := rd2
    clear rd rd2 mv mv2 y1
    go_wp2
    go_ret
    exact drawnB_of _ (by first | decide | exact got_lt _ _ _ _ | exact foi_lt _ | exact neg_lt (by decide) | assumption) (RD.out.drewN _) (MV.out.drewN _) (by omega)

end Go.Proofs.YtelgefchnjiggaaDoor
