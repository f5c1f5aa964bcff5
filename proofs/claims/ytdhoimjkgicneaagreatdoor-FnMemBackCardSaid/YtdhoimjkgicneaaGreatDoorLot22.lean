/- Texts of this proof laid together: TxtG, ArgA0, ArgA. -/
import Derived.Test.YtdhoimjkgicneaaGreatDoorLot9
import Derived.Lib.IndexMore
import Derived.Lib.AtoiTie
import Derived.Lib.ParseIntBTie
import Derived.Test.YtdhoimjkgicneaaGreatDoorRows
import Derived.WalkKit
import Derived.WalkSpells
import Derived.WalkLawsBesides
import Derived.Laws.Externs
import Derived.Test.YtdhoimjkgicneaaGreatDoorLot5
/- Reading the text of a real number by the library: where it is cut, and which numbers its two sides are. Of no one program. -/
namespace Go.Proofs.YtdhoimjkgicneaaGreatDoor
open Go

theorem digitVal_of {c : UInt8} (h : isDig c = true) : Lib.digitVal c = some (c.toNat - 48) := by
  unfold isDig at h
  unfold Lib.digitVal
  rw [if_pos (by simpa using h)]

theorem decFrom_dig : ∀ (l : List UInt8) (a : Nat), l.all isDig = true → Lib.decFrom a l = some (dval l a)
  | [], a, _ => rfl
  | c :: cs, a, h => by
    simp only [List.all_cons, Bool.and_eq_true] at h
    unfold Lib.decFrom
    rw [digitVal_of h.1]
    exact decFrom_dig cs _ h.2

theorem decNat_dd (n : Nat) : Lib.decNat (Lib.decDigits n) = some n := by
  unfold Lib.decNat
  obtain ⟨c, cs, e, -⟩ := dd_head n
  rw [if_neg (by rw [e]; simp), decFrom_dig _ _ (dd_all n), dval_dd]

theorem atoi_sgn (s : Bool) (n : Nat) : Lib.atoi (sgnL s ++ Lib.decDigits n) = some (if s then -(n : Int) else n) := by
  cases s
  · obtain ⟨c, cs, e, hd⟩ := dd_head n
    have h := decNat_dd n
    simp only [sgnL, Bool.false_eq_true, if_false, List.nil_append]
    rw [e] at h ⊢
    have h45 : (c == 45) = false := by
      rw [beq_eq_false_iff_ne]; rintro rfl; exact absurd hd (by decide)
    have h43 : (c == 43) = false := by
      rw [beq_eq_false_iff_ne]; rintro rfl; exact absurd hd (by decide)
    simp [Lib.atoi, h45, h43, h]
  · simp [sgnL, Lib.atoi, decNat_dd]

theorem itoa_sgn (e : Int) : Lib.itoa e = sgnL (decide (e < 0)) ++ Lib.decDigits e.natAbs := by
  unfold Lib.itoa
  by_cases h : e < 0
  · simp [h, sgnL]
  · rw [if_neg h]
    simp only [h, decide_false, sgnL, Bool.false_eq_true, if_false, List.nil_append]
    congr 1
    omega

theorem atoiAll_itoa {e : Int} (h : (Lib.itoa e).length ≤ 18) : Lib.atoiAll (Lib.itoa e) = .ok e := by
  rw [Lib.atoiAll_short _ h, itoa_sgn, atoi_sgn]
  simp only [Lib.NumEnd.ofOption]
  congr 1
  by_cases h : e < 0 <;> simp [h] <;> omega

theorem parse_sgn {s : Bool} {n : Nat} (h : (sgnL s ++ Lib.decDigits n).length ≤ 18) : Lib.parseIntB 64 (sgnL s ++ Lib.decDigits n) = .ok (if s then -(n : Int) else n) := by
  rw [Lib.parseIntB_64, Lib.atoiAll_short _ h, atoi_sgn]
  rfl

theorem no_star {l : List UInt8} (h : l.all isDig = true) (j : Nat) : l[j]? ≠ some 42 := by
  intro hj
  have := List.mem_of_getElem? hj
  have := List.all_eq_true.1 h _ this
  exact absurd this (by decide)

theorem sgn_no_star (s : Bool) (n j : Nat) : (sgnL s ++ Lib.decDigits n)[j]? ≠ some 42 := by
  cases s
  · exact no_star (dd_all n) j
  · cases j with
    | zero => simp [sgnL]
    | succ j => simpa [sgnL] using no_star (dd_all n) j

/-- Where a text is cut at its star. -/
theorem cut_at {a r : List UInt8} (ha : ∀ j : Nat, a[j]? ≠ some 42) : Lib.cut (a ++ ([42, 50, 94] ++ r)) [42, 50, 94] = (a, r, true) := by
  have hi : Lib.index (a ++ ([42, 50, 94] ++ r)) [42, 50, 94] = (a.length : Int) := by
    have occ : Lib.occAt (a ++ ([42, 50, 94] ++ r)) [42, 50, 94] a.length = true := by
      unfold Lib.occAt
      rw [List.drop_left]
      simp
    rcases Lib.index_spec (a ++ ([42, 50, 94] ++ r)) [42, 50, 94] with ⟨-, h2⟩ | ⟨i, h1, -, h3, h4⟩
    · have := h2 a.length (by simp)
      rw [occ] at this
      cases this
    · rw [h1]
      congr 1
      have hs := Lib.occAt_head rfl h3
      rcases Nat.lt_trichotomy i a.length with h | h | h
      · rw [List.getElem?_append_left h] at hs
        exact absurd hs (ha i)
      · exact h
      · have := h4 a.length h
        rw [occ] at this
        cases this
  unfold Lib.cut
  rw [hi, if_pos (by omega)]
  simp

theorem cut_fin (s : Bool) (n c : Nat) : Lib.cut (finL s n c) [42, 50, 94] = (sgnL s ++ Lib.decDigits n, Lib.itoa ((c : Int) - 1074), true) := by
  have e : finL s n c = (sgnL s ++ Lib.decDigits n) ++ ([42, 50, 94] ++ Lib.itoa ((c : Int) - 1074)) := by simp [finL]
  rw [e, cut_at (sgn_no_star s n)]

end Go.Proofs.YtdhoimjkgicneaaGreatDoor

/- The words of the library on real numbers: the bits of a number, nan. -/
namespace Go.Proofs.YtdhoimjkgicneaaGreatDoor
open Go Go.RowKit

theorem from_bits (n : Int) (w : World) : (callFunc 145 #[.int .u64 n]).run Tryz.prog w = .ok (.value (.float .f64 n.toNat)) w := by
  rw [run_callFunc_extern (e := Extern.MathFloatBits.float64frombits) Tryz.func145 (by kernel_rfl) (by kernel_rfl) (by kernel_rfl) (by kernel_rfl)]
  rfl
theorem to_bits (n : Nat) (w : World) : (callFunc 153 #[.float .f64 n]).run Tryz.prog w = .ok (.value (.int .u64 n)) w := by
  rw [run_callFunc_extern (e := Extern.MathFloatBits.float64bits) Tryz.func153 (by kernel_rfl) (by kernel_rfl) (by kernel_rfl) (by kernel_rfl)]
  rfl

theorem lib_nan (w : World) : Calls Tryz.prog 121 #[] w fun e w' => e = .returned (.float .f64 9221120237041090561) ∧ w' = w := by
  have fb : ∀ w, (callFunc 145 #[.int .u64 9221120237041090561]).run Tryz.prog w = .ok (.value (.float .f64 9221120237041090561)) w := from_bits 9221120237041090561
  go_enter Tryz.func121, Tryz.ntmps121
  go_wp2
  go_ret
  exact ⟨rfl, rfl⟩

end Go.Proofs.YtdhoimjkgicneaaGreatDoor

/- The words of the library on real numbers that the program asks for: nan, the infinities, minus zero. -/
namespace Go.Proofs.YtdhoimjkgicneaaGreatDoor
open Go Go.RowKit

theorem lib_inf (w : World) : Calls Tryz.prog 122 #[.int .i64 1] w fun e w' => e = .returned (.float .f64 9218868437227405312) ∧ w' = w := by
  have fb : ∀ w, (callFunc 145 #[.int .u64 9218868437227405312]).run Tryz.prog w = .ok (.value (.float .f64 9218868437227405312)) w := from_bits 9218868437227405312
  go_enter Tryz.func122, Tryz.ntmps122
  go_wp2
  go_ret
  exact ⟨rfl, rfl⟩

theorem lib_neg_inf (w : World) : Calls Tryz.prog 122 #[.int .i64 (-1)] w fun e w' => e = .returned (.float .f64 18442240474082181120) ∧ w' = w := by
  have fb : ∀ w, (callFunc 145 #[.int .u64 18442240474082181120]).run Tryz.prog w = .ok (.value (.float .f64 18442240474082181120)) w := from_bits 18442240474082181120
  go_enter Tryz.func122, Tryz.ntmps122
  go_wp2
  go_ret
  exact ⟨rfl, rfl⟩

/-- The bits of an infinity, by a sign. -/
def infF (s : Int) : Nat := if 0 ≤ s then 9218868437227405312 else 18442240474082181120

theorem lib_infs (s : Int) (w : World) : Calls Tryz.prog 122 #[.int .i64 s] w fun e w' => e = .returned (.float .f64 (infF s)) ∧ w' = w := by
  have f1 : ∀ w, (callFunc 145 #[.int .u64 9218868437227405312]).run Tryz.prog w = .ok (.value (.float .f64 9218868437227405312)) w := from_bits 9218868437227405312
  have f2 : ∀ w, (callFunc 145 #[.int .u64 18442240474082181120]).run Tryz.prog w = .ok (.value (.float .f64 18442240474082181120)) w := from_bits 18442240474082181120
  by_cases h : 0 ≤ s
  · have e : infF s = 9218868437227405312 := by simp [infF, h]
    rw [e]
    go_enter Tryz.func122, Tryz.ntmps122
    go_wp2
    go_ret
    exact ⟨rfl, rfl⟩
  · have e : infF s = 18442240474082181120 := by simp [infF, h]
    rw [e]
    go_enter Tryz.func122, Tryz.ntmps122
    go_wp2
    go_ret
    exact ⟨rfl, rfl⟩

set_option maxRecDepth 100000 in
theorem lib_sign (w : World) : Calls Tryz.prog 146 #[.float .f64 0, .float .f64 13830554455654793216] w fun e w' => e = .returned (.float .f64 9223372036854775808) ∧ w' = w := by
  have tb0 : ∀ w, (callFunc 153 #[.float .f64 0]).run Tryz.prog w = .ok (.value (.int .u64 0)) w := to_bits 0
  have tb1 : ∀ w, (callFunc 153 #[.float .f64 13830554455654793216]).run Tryz.prog w = .ok (.value (.int .u64 13830554455654793216)) w := to_bits 13830554455654793216
  have fb : ∀ w, (callFunc 145 #[.int .u64 9223372036854775808]).run Tryz.prog w = .ok (.value (.float .f64 9223372036854775808)) w := from_bits 9223372036854775808
  have a1 : bits .andNot .u64 0 9223372036854775808 = 0 := by decide +kernel
  have a2 : bits .and .u64 13830554455654793216 9223372036854775808 = 9223372036854775808 := by decide +kernel
  have a3 : bits .or .u64 0 9223372036854775808 = 9223372036854775808 := by decide +kernel
  go_enter Tryz.func146, Tryz.ntmps146
  go_wp2
  go_ret
  exact ⟨rfl, rfl⟩

theorem impl_mzero (w : World) : Calls Tryz.prog 123 #[] w fun e w' => e = .returned (.float .f64 9223372036854775808) ∧ w' = w := by
  go_enter Tryz.func123, Tryz.ntmps123
  go_wp2_with (go_at_call 146; refine (lib_sign _).mono ?_; rintro e w' ⟨rfl, rfl⟩)
  go_ret
  exact ⟨rfl, rfl⟩

end Go.Proofs.YtdhoimjkgicneaaGreatDoor
