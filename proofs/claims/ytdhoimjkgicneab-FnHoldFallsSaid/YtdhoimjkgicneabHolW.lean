/- Two answers of bytes, compared. -/
import Derived.Test.YtdhoimjkgicneabHolB
namespace Go.Proofs.Ytdhoimjkgicneab
open Go Go.RowKit

set_option maxHeartbeats 800000 in
theorem wh_same {a b : Value} {xs ys : List Nat} {w : World} (x y : Bool) (ha : BytesAt a xs w) (hb : BytesAt b ys w) (fx : Few xs) (fy : Few ys) {q : Bool} (hq : q = true ↔ x = y ∧ xs = ys) :
    Calls Try.prog 15 #[a, .bool x, b, .bool y] w fun e w' => e = .returned (.bool q) ∧ w' = w := by
  have q1 := str_run ha
  have q2 := str_run hb
  have HI : Hid (strOf xs = strOf ys ↔ xs = ys) := str_inj fx fy
  have HQ : Hid (q = true ↔ x = y ∧ xs = ys) := hq
  obtain ⟨aa, ca, rfl⟩ := ha.len
  obtain ⟨ab, cb, rfl⟩ := hb.len
  clear hq ha hb fx fy
  by_cases hxy : x = y
  · subst hxy
    have hx : (x == x) = true := by simp
    by_cases he : strOf xs = strOf ys
    · have E : Hid (q = true) := HQ.out.2 ⟨rfl, HI.out.1 he⟩
      rw [he] at q1
      clear HI HQ he
      go_enter Try.func15, Try.ntmps15
      go_wp2
      go_ret
      exact ⟨by rw [E.out]; rfl, rfl⟩
    · have E : Hid (q = false) := by
        cases hqq : q with
        | false => rfl
        | true => exact absurd (HI.out.2 (HQ.out.1 hqq).2) he
      have he' : ((strOf xs).toList == (strOf ys).toList) = false := by
        rw [ByteArray.toList_eq, ByteArray.toList_eq, beq_eq_false_iff_ne]
        intro e
        exact he (ByteArray.ext (Array.toList_inj.1 e))
      clear HI HQ
      go_enter Try.func15, Try.ntmps15
      go_wp2
      go_ret
      exact ⟨by rw [E.out]; rfl, rfl⟩
  · have E : Hid (q = false) := by
      cases hqq : q with
      | false => rfl
      | true => exact absurd (HQ.out.1 hqq).1 hxy
    have hx : (x == y) = false := by simpa using hxy
    clear HI HQ
    go_enter Try.func15, Try.ntmps15
    go_wp2
    go_ret
    exact ⟨by rw [E.out]; rfl, rfl⟩

end Go.Proofs.Ytdhoimjkgicneab
