/- Texts of this proof laid together: RealZ, RealA, RealB. -/
import Derived.Test.YtdhoimjkgicneaaDoorRows
import Derived.WalkKit
import Derived.WalkSpells
import Derived.WalkLawsBesides
import Derived.Test.YtdhoimjkgicneaaDoorLot4
/- Nan and infinity, the specification's. -/
namespace Go.Proofs.YtdhoimjkgicneaaDoor
open Go Go.RowKit

theorem nan_any (w : World) : Calls Tryd.prog 80 #[] w fun e w' => ∃ x : Nat, e = .returned (.float .f64 x) ∧ x = fGot .quo 0 0 w ∧ w' = w.drewN 1 := by
  have q := quo_any Tryd.prog 0 0
  have e1 : fDrawn .quo 0 0 = 1 := by decide +kernel
  rw [e1] at q
  go_enter Tryd.func80, Tryd.ntmps80
  go_wp2
  go_ret
  exact ⟨_, rfl, rfl, rfl⟩

theorem inf_any (w : World) : Calls Tryd.prog 81 #[] w fun e w' => e = .returned (.float .f64 9218868437227405312) ∧ w' = w := by
  have q : ∀ t w, (binOp .quo t (.float .f64 4607182418800017408) (.float .f64 0)).run Tryd.prog w = .ok (.float .f64 9218868437227405312) w := fun t w => run_float_arith w .quo t .f64 _ _ _ (by decide +kernel)
  go_enter Tryd.func81, Tryd.ntmps81
  go_wp2
  go_ret
  exact ⟨rfl, rfl⟩

end Go.Proofs.YtdhoimjkgicneaaDoor

/- What drawn real numbers want. -/
namespace Go.Proofs.YtdhoimjkgicneaaDoor
open Go Go.RowKit

end Go.Proofs.YtdhoimjkgicneaaDoor

/- Drawn words of 64 bits, and drawn real numbers. -/
namespace Go.Proofs.YtdhoimjkgicneaaDoor
open Go Go.RowKit

set_option maxHeartbeats 400000 in
theorem word_any (R c : Nat) (w : World) (h : Rd R c w) (hc : c ≤ 900) :
    Calls Tryd.prog 116 #[.pointer (some ⟨R, 0, none⟩)] w fun e w' => ∃ z : Int, e = .returned (.int .u64 z) ∧ Rd R (c + 8) w' ∧ Moved R w w' := by
  go_enter Tryd.func116, Tryd.ntmps116
  go_wp2
  go_loopw [3, 4] (fun x i wr => ∃ (z : Int) (k : Nat), k ≤ 8 ∧ x = .int .u64 z ∧ i = .int .i64 k ∧ Rd R (c + k) wr ∧ Moved R w wr) (fun _ i _ => 8 - (intOf i).toNat)
  case atStart => exact ⟨0, 0, by omega, rfl, rfl, h, Moved.refl _ _⟩
  case round =>
    obtain ⟨z, k, hk, rfl, rfl, rd, mv⟩ := hrel
    have RD : Hid (Rd R (c + k) wr) := rd
    have MV : Hid (Moved R w wr) := mv
    clear rd mv h
    by_cases hlt : k < 8
    · go_wp2_with fail
      refine (pick_any R (c + k) 256 wr RD.out (by omega) (by omega)).mono ?_
      rintro e w2 ⟨x, rfl, x0, -, -, rd2, mv2⟩
      have RD2 : Hid (Rd R (c + k + 1) w2) := rd2
      have MV2 : Hid (Moved R w w2) := MV.out.trans mv2
      clear rd2 mv2
      go_wp2
      go_roundw
      case rel => exact ⟨_, k + 1, by omega, rfl, by go_num, RD2.out, MV2.out⟩
      case measure => simp [intOf]; omega
    · go_wp2
      go_ret
      have : k = 8 := by omega
      subst this
      exact ⟨_, rfl, RD.out, MV.out⟩

end Go.Proofs.YtdhoimjkgicneaaDoor
