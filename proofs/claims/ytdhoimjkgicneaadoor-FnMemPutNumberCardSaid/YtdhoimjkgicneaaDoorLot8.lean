/- Texts of this proof laid together: RealB, RealC. -/
import Derived.Test.YtdhoimjkgicneaaDoorLot7
/- Drawn words of 64 bits, and drawn real numbers. -/
namespace Go.Proofs.YtdhoimjkgicneaaDoor
open Go Go.RowKit

set_option maxHeartbeats 400000 in
theorem word_any (R c : Nat) (w : World) (h : Rd R c w) (hc : c ≤ 900) :
    Calls Tryd.prog 116 #[.pointer (some ⟨R, 0, none⟩)] w fun e w' => ∃ z : Int, e = .returned (.int .u64 z) ∧ Rd R (c + 8) w' ∧ Moved R w w' := by
  go_enter Tryd.func116, Tryd.ntmps116
  go_wp2
  go_loopw [3, 4] (fun x i wr => ∃ (z : Int) (k : Nat), k ≤ 8 ∧ x = .int .u64 z ∧ i = .int .i64 k ∧ Rd R (c + k) wr ∧ Moved R w wr) (fun _ i _ => 8 - (intOf i).toNat)
  case atStart => exact ⟨0, 0, by omega, rfl, rfl, h, Moved.refl _ _⟩
  case round =>
    obtain ⟨z, k, hk, rfl, rfl, rd, mv⟩ := hrel
    have RD : Hid (Rd R (c + k) wr) := rd
    have MV : Hid (Moved R w wr) := mv
    clear rd mv h
    by_cases hlt : k < 8
    · go_wp2_with fail
      refine (pick_any R (c + k) 256 wr RD.out (by omega) (by omega)).mono ?_
      rintro e w2 ⟨x, rfl, x0, -, -, rd2, mv2⟩
      have RD2 : Hid (Rd R (c + k + 1) w2) := rd2
      have MV2 : Hid (Moved R w w2) := MV.out.trans mv2
      clear rd2 mv2
      go_wp2
      go_roundw
      case rel => exact ⟨_, k + 1, by omega, rfl, by go_num, RD2.out, MV2.out⟩
      case measure => simp [intOf]; omega
    · go_wp2
      go_ret
      have : k = 8 := by omega
      subst this
      exact ⟨_, rfl, RD.out, MV.out⟩

end Go.Proofs.YtdhoimjkgicneaaDoor

/- Drawn real numbers: the draw ends, answers some bits, and turns nothing but the reader. -/
namespace Go.Proofs.YtdhoimjkgicneaaDoor
open Go Go.RowKit

theorem Rd.drewN {R c : Nat} {w : World} (h : Rd R c w) (n : Nat) : Rd R c (w.drewN n) := by
  rcases h with ⟨b, off, len, cap, p, hp, h⟩ | ⟨p, hp, h⟩
  · exact Or.inl ⟨b, off, len, cap, p, hp, h.zR, h.lt, h.c0, h.c1, h.fr, h.el, h.l1, h.l2⟩
  · exact Or.inr ⟨p, hp, h.zR, h.c0, h.c1, h.fr⟩
theorem Moved.drewN {R : Nat} {w w1 : World} (h : Moved R w w1) (n : Nat) : Moved R w (w1.drewN n) := ⟨h.os, h.tape, h.output, h.size, h.block⟩

section
variable (R c : Nat) (w : World)

/-- What a draw of a real number leaves. -/
def Drawn (e : Ending) (w' : World) : Prop := ∃ x : Nat, e = .returned (.float .f64 x) ∧ Rd R (c + 12) w' ∧ Moved R w w'

theorem drawn_of {R c c' : Nat} {w w' : World} (x : Nat) (rd : Rd R c' w') (mv : Moved R w w') (h : c' ≤ c + 12) : Drawn R c w (.returned (.float .f64 x)) w' := ⟨x, rfl, rd.mono h, mv⟩

end

set_option maxHeartbeats 2000000 in
theorem real_any (R c : Nat) (w : World) (h : Rd R c w) (hc : c ≤ 800) : Calls Tryd.prog 72 #[.pointer (some ⟨R, 0, none⟩)] w (Drawn R c w) := by
  go_enter Tryd.func72, Tryd.ntmps72
  go_wp2_with fail
  refine (pick_any R c 16 w h (by omega) (by omega)).mono ?_
  rintro e w1 ⟨x, rfl, x0, x1, -, rd, mv⟩
  have hx : x < 16 := x1 (by omega)
  clear x1 h
  have neg : ∀ b, Op.unary .neg (.float .f64 b) = pure (.float .f64 (Op.negFloat .f64 b)) := fun _ => rfl
  have hxs : x = 0 ∨ x = 1 ∨ x = 2 ∨ x = 3 ∨ x = 4 ∨ x = 5 ∨ x = 6 ∨ x = 7 ∨ x = 8 ∨ x = 9 ∨ x = 10 ∨ x = 11 ∨ 12 ≤ x := by omega
  rcases hxs with rfl | rfl | rfl | rfl | rfl | rfl | rfl | rfl | rfl | rfl | rfl | rfl | h12
  · go_wp2_with fail
    refine (nan_any w1).mono ?_
    rintro e w2 ⟨y, rfl, -, rfl⟩
    go_wp2
    go_ret
    exact drawn_of _ (rd.drewN 1) (mv.drewN 1) (by omega)
  · go_wp2_with fail
    refine (inf_any w1).mono ?_
    rintro e w2 ⟨rfl, rfl⟩
    go_wp2
    go_ret
    exact drawn_of _ rd mv (by omega)
  · go_wp2_with fail
    refine (inf_any w1).mono ?_
    rintro e w2 ⟨rfl, rfl⟩
    go_wp2
    go_ret
    exact drawn_of _ rd mv (by omega)
  · go_wp2
    go_ret
    exact drawn_of _ rd mv (by omega)
  · go_wp2
    go_ret
    exact drawn_of _ rd mv (by omega)
  · go_wp2_with fail
    refine (pick_any R (c + 1) 40 w1 rd (by omega) (by omega)).mono ?_
    rintro e w2 ⟨y, rfl, y0, y1, -, rd2, mv2⟩
    have hy : y < 40 := y1 (by omega)
    have q := mul_any Tryd.prog 1 (floatOfInt .f64 (1 + y))
    have MV : Hid (Moved R w w2) := mv.trans mv2
    have RD : Hid (Rd R (c + 1 + 1) w2) := rd2
    clear rd rd2 mv mv2 y1
    go_wp2
    go_ret
    exact drawn_of _ (RD.out.drewN _) (MV.out.drewN _) (by omega)
  · go_wp2
    go_ret
    exact drawn_of _ rd mv (by omega)
  · go_wp2
    go_ret
    exact drawn_of _ rd mv (by omega)
  · go_wp2_with fail
    refine (pick_any R (c + 1) 9 w1 rd (by omega) (by omega)).mono ?_
    rintro e w2 ⟨y, rfl, y0, y1, -, rd2, mv2⟩
    have hy : y < 9 := y1 (by omega)
    have q := mul_any Tryd.prog 1 (floatOfInt .f64 (y - 4))
    have q2 : ∀ b, _ := add_any Tryd.prog 4503599627370496
    have MV : Hid (Moved R w w2) := mv.trans mv2
    have RD : Hid (Rd R (c + 1 + 1) w2) := rd2
    clear rd rd2 mv mv2 y1
    go_wp2
    go_ret
    exact drawn_of _ (RD.out.drewN _) (MV.out.drewN _) (by omega)
  · go_wp2_with fail
    refine (word_any R (c + 1) w1 rd (by omega)).mono ?_
    rintro e w2 ⟨z, rfl, rd2, mv2⟩
    clear rd
    go_wp2_with fail
    refine (pick_any R (c + 1 + 8) 200 w2 rd2 (by omega) (by omega)).mono ?_
    rintro e w3 ⟨y, rfl, y0, y1, -, rd3, mv3⟩
    have hy : y < 200 := y1 (by omega)
    have q : ∀ a b, _ := quo_any Tryd.prog
    have MV : Hid (Moved R w w3) := (mv.trans mv2).trans mv3
    have RD : Hid (Rd R (c + 1 + 8 + 1) w3) := rd3
    clear rd2 rd3 mv mv2 mv3 y1
    go_wp2_with fail
    refine (pick_any R (c + 1 + 8 + 1) 100 _ (RD.out.drewN _) (by omega) (by omega)).mono ?_
    rintro e w4 ⟨u, rfl, u0, u1, -, rd4, mv4⟩
    have hu : u < 100 := u1 (by omega)
    have MV4 : Hid (Moved R w w4) := (MV.out.drewN _).trans mv4
    have RD4 : Hid (Rd R (c + 1 + 8 + 1 + 1) w4) := rd4
    clear rd4 mv4 u1 q
    go_wp2
    go_loopw [4, 5] (fun f i wr => ∃ (g : Nat) (k : Nat), k ≤ 100 ∧ f = .float .f64 g ∧ i = .int .i64 k ∧ Rd R (c + 1 + 8 + 1 + 1) wr ∧ Moved R w wr) (fun _ i _ => (intOf i).toNat)
    case atStart => exact ⟨_, u.toNat, by omega, rfl, by rw [Int.toNat_of_nonneg u0], RD4.out, MV4.out⟩
    case round =>
      obtain ⟨g, k, hk, rfl, rfl, rd, mv⟩ := hrel
      have RD : Hid (Rd R (c + 1 + 8 + 1 + 1) wr) := rd
      have MV : Hid (Moved R w wr) := mv
      clear rd mv
      by_cases hlt : 0 < k
      · have q := mul_any Tryd.prog g 4563638014722897556
        go_wp2
        go_roundw
        case rel => exact ⟨_, k - 1, by omega, rfl, by go_num, RD.out.drewN _, MV.out.drewN _⟩
        case measure => simp [intOf]; omega
      · go_wp2
        go_ret
        exact drawn_of _ RD.out MV.out (by omega)
  · go_wp2_with fail
    refine (num_lit R (c + 1) _ _ _ (by simp) rd (by omega) (by simp) (by simp) (by simp) 5 rfl).mono ?_
    rintro e w2 ⟨z, rfl, rd2, mv2⟩
    clear rd
    go_wp2_with fail
    refine (pick_any R (c + 1 + 1) 5 w2 rd2 (by omega) (by omega)).mono ?_
    rintro e w3 ⟨y, rfl, y0, y1, -, rd3, mv3⟩
    have hy : y < 5 := y1 (by omega)
    have q := mul_any Tryd.prog (floatOfInt .f64 (y - 2)) 4598175219545276416
    have q2 : ∀ b, _ := add_any Tryd.prog (floatOfInt .f64 z)
    have MV : Hid (Moved R w w3) := (mv.trans mv2).trans mv3
    have RD : Hid (Rd R (c + 1 + 1 + 1) w3) := rd3
    clear rd2 rd3 mv mv2 mv3 y1
    go_wp2
    go_ret
    exact drawn_of _ (RD.out.drewN _) (MV.out.drewN _) (by omega)
  · go_wp2_with fail
    refine (word_any R (c + 1) w1 rd (by omega)).mono ?_
    rintro e w2 ⟨z, rfl, rd2, mv2⟩
    have MV : Hid (Moved R w w2) := mv.trans mv2
    have RD : Hid (Rd R (c + 1 + 8) w2) := rd2
    clear rd rd2 mv mv2
    go_wp2
    go_ret
    exact drawn_of _ RD.out MV.out (by omega)
  · have n0 : (x == 0) = false := by simp; omega
    have n1 : (x == 1) = false := by simp; omega
    have n2 : (x == 2) = false := by simp; omega
    have n3 : (x == 3) = false := by simp; omega
    have n4 : (x == 4) = false := by simp; omega
    have n5 : (x == 5) = false := by simp; omega
    have n6 : (x == 6) = false := by simp; omega
    have n7 : (x == 7) = false := by simp; omega
    have n8 : (x == 8) = false := by simp; omega
    have n9 : (x == 9) = false := by simp; omega
    have n10 : (x == 10) = false := by simp; omega
    have n11 : (x == 11) = false := by simp; omega
    go_wp2_with fail
    refine (pick_any R (c + 1) 41 w1 rd (by omega) (by omega)).mono ?_
    rintro e w2 ⟨y, rfl, y0, y1, -, rd2, mv2⟩
    have hy : y < 41 := y1 (by omega)
    have q := mul_any Tryd.prog (floatOfInt .f64 (y - 20)) 4598175219545276416
    have MV : Hid (Moved R w w2) := mv.trans mv2
    have RD : Hid (Rd R (c + 1 + 1) w2) := rd2
    clear rd rd2 mv mv2 y1
    go_wp2
    go_ret
    exact drawn_of _ (RD.out.drewN _) (MV.out.drewN _) (by omega)

end Go.Proofs.YtdhoimjkgicneaaDoor
