/- Texts of this proof laid together: TxtZ, TxtX, MtB. -/
import Derived.Test.YtdhoimjkgicneaaDoorLot30
import Derived.WalkKit
import Derived.Below
import Derived.Test.YtdhoimjkgicneaaDoorLot4
import Derived.WalkSpells
import Derived.WalkLawsBesides
import Derived.Test.YtdhoimjkgicneaaDoorLot10
import Derived.Test.YtdhoimjkgicneaaDoorLot29
/- The text of a real number: what its walks lean on. Of no one program. -/
namespace Go.Proofs.YtdhoimjkgicneaaDoor
open Go Go.RowKit

theorem half_eq {a b c V : Nat} (h : a * 2 = b) (h2 : b * 2 ^ c = V) : a * 2 ^ (c + 1) = V := by rw [← h2, ← h, Nat.pow_succ', Nat.mul_assoc]
theorem dbl_eq {a b c W : Nat} (h : a = b * 2) (h2 : b = W * 2 ^ c) : a = W * 2 ^ (c + 1) := by rw [h, h2, Nat.pow_succ, Nat.mul_assoc]

theorem half_odd {N t m : Nat} (hev : N % 2 = 0) (ht : N * 2 ^ t = m) : N / 2 * 2 ^ (t + 1) = m := by
  rw [← ht, Nat.pow_succ', ← Nat.mul_assoc]
  congr 1
  omega

section
open Ieee

theorem num_zero : Num 0 false 0 0 := ⟨by decide +kernel, by decide, by decide, Or.inl rfl⟩
theorem num_max : Num 9218868437227405311 false 9007199254740991 2045 := ⟨by decide +kernel, by decide, by decide, Or.inr (by decide)⟩

theorem read_neg (x : Nat) : double.read (Op.negFloat .f64 x) = (double.read x).opposite := by
  have e : Op.negFloat .f64 x = x ^^^ 2 ^ 63 := rfl
  have h1 : (x ^^^ 2 ^ 63) % 9223372036854775808 = x % 9223372036854775808 := by
    rw [show (9223372036854775808 : Nat) = 2 ^ 63 from by decide +kernel, Nat.xor_mod_two_pow, Nat.mod_self, Nat.xor_zero]
  have h2 : ((x ^^^ 2 ^ 63) / 9223372036854775808 % 2 == 1) = !(x / 9223372036854775808 % 2 == 1) := by
    rw [show (9223372036854775808 : Nat) = 2 ^ 63 from by decide +kernel, Nat.xor_div_two_pow, Nat.div_self (Nat.two_pow_pos _)]
    obtain ⟨a, ha⟩ : ∃ a, x / 2 ^ 63 = a := ⟨_, rfl⟩
    rw [ha]
    have hx : (a ^^^ 1) % 2 = a % 2 ^^^ 1 % 2 := Nat.xor_mod_two_pow (n := 1)
    rw [hx]
    have : a % 2 = 0 ∨ a % 2 = 1 := by omega
    rcases this with h | h
    · rw [h]; rfl
    · rw [h]; rfl
  rw [e]
  simp only [Format.read, d_sw, d_bin, d_inf, h1, h2]
  split
  · rfl
  · split
    · rfl
    · split <;> rfl

theorem Num.neg {x m k : Nat} {s : Bool} (h : Num x s m k) : Num (Op.negFloat .f64 x) (!s) m k := ⟨by rw [read_neg, h.read]; rfl, h.m53, h.k45, h.norm⟩

theorem Num.self {x m k : Nat} {s : Bool} (h : Num x s m k) : FloatKind.f64.format.order x x = some .eq := ord_eq h.val h.val rfl

theorem inf_self {x : Nat} {s : Bool} (h : double.read x = .infinity s) : FloatKind.f64.format.order x x = some .eq := by
  show double.order x x = _
  simp [Format.order, h, Datum.order]
theorem inf_zero {x : Nat} {s : Bool} (h : double.read x = .infinity s) : FloatKind.f64.format.order x 0 = some (if s then .lt else .gt) := by
  show double.order x 0 = _
  simp only [Format.order, h, num_zero.read, Datum.order]
theorem inf_max {x : Nat} (h : double.read x = .infinity false) : FloatKind.f64.format.order x 9218868437227405311 = some .gt := by
  show double.order x _ = _
  simp only [Format.order, h, num_max.read, Datum.order]
  rfl

theorem Num.zero {x m k : Nat} {s : Bool} (h : Num x s m k) : FloatKind.f64.format.order x 0 = some (if m = 0 then .eq else if s then .lt else .gt) := by
  have e : FloatKind.f64.format.order x 0 = some (compare (sg s (m * 2 ^ k)) (sg false (0 * 2 ^ 0))) := order_val h.val num_zero.val
  rw [e]
  by_cases hm : m = 0
  · subst hm; cases s <;> simp [sg]
  · have hp : 0 < m * 2 ^ k := Nat.pos_of_ne_zero (Nat.mul_ne_zero hm (Nat.ne_of_gt (Nat.two_pow_pos _)))
    rw [if_neg hm]
    cases s
    · rw [cmp_gt.2 (by simp only [sg, Bool.false_eq_true, if_false]; omega)]; rfl
    · rw [cmp_lt.2 (by simp only [sg, Bool.false_eq_true, if_false, if_true]; omega)]; rfl

theorem Num.max {x m k : Nat} {s : Bool} (h : Num x s m k) : (FloatKind.f64.format.order x 9218868437227405311 == some .gt) = false := by
  obtain ⟨K, hK⟩ : ∃ K, K = 2045 := ⟨_, rfl⟩
  have hn : Num 9218868437227405311 false 9007199254740991 K := by rw [hK]; exact num_max
  have e : FloatKind.f64.format.order x 9218868437227405311 = some (compare (sg s (m * 2 ^ k)) (sg false (9007199254740991 * 2 ^ K))) := order_val h.val hn.val
  have hle : m * 2 ^ k ≤ 9007199254740991 * 2 ^ K := Nat.mul_le_mul (by have := h.m53; omega) (Nat.pow_le_pow_right (by omega) (by have := h.k45; omega))
  have hle2 : sg s (m * 2 ^ k) ≤ sg false (9007199254740991 * 2 ^ K) := by cases s <;> simp only [sg, Bool.false_eq_true, if_false, if_true] <;> omega
  rw [e]
  rcases Int.lt_or_eq_of_le hle2 with g | g
  · rw [cmp_lt.2 g]; rfl
  · rw [g]; simp

end

theorem ret_strR {a b : ByteArray} (h : a = b) : Ending.returned (.string a) = .returned (.string b) := by rw [h]

/-- What a text of a real number leaves. -/
def Wrote (x : Nat) (w : World) (e : Ending) (w' : World) : Prop := ∃ l, e = .returned (.string ⟨l.toArray⟩) ∧ Txt x l ∧ l.length ≤ 50 ∧ Below w.heap.size w w'

theorem itoa_nat (n : Nat) : Lib.itoa (n : Int) = Lib.decDigits n := by unfold Lib.itoa; rw [if_neg (by omega)]; rfl
theorem c_bound {V n c : Nat} (h : V = n * 2 ^ c) (hV : V < 2 ^ u98) (hn : n % 2 = 1) : c < 2098 := by
  have h1 : (2 : Nat) ^ c < 2 ^ u98 := by
    refine Nat.lt_of_le_of_lt ?_ hV
    rw [h]
    exact Nat.le_mul_of_pos_left _ (by omega)
  have := (Nat.pow_lt_pow_iff_right (a := 2) (by omega)).1 h1
  have := u98_eq
  omega
theorem itoa_len5 {n : Int} (h1 : -9999 ≤ n) (h2 : n ≤ 9999) : (Lib.itoa n).length ≤ 5 := by
  unfold Lib.itoa
  split
  · have := dd_len 3 n.natAbs (by omega)
    simp; omega
  · have := dd_len 3 n.toNat (by omega)
    omega

theorem div_one_zero {x k : Nat} {s : Bool} (h : Num x s 0 k) : Ieee.double.div 4607182418800017408 x = some (Ieee.double.word s 9218868437227405312) := by
  have r1 : Ieee.double.read 4607182418800017408 = .number false 4503599627370496 (-52) := by decide +kernel
  simp [Ieee.Format.div, r1, h.read, Ieee.Datum.quotient, Ieee.Format.write, d_inf]

theorem finL_bd {s : Bool} {n c : Nat} (h1 : n < 9007199254740992) (h2 : c < 2098) : (finL s n c).length ≤ 30 := by
  have hl1 := dd_len 15 n (by omega)
  have hl2 := itoa_len5 (n := (c : Int) - 1074) (by omega) (by omega)
  have := sgn_len s
  simp [finL]
  omega

theorem txt_minus {x : Nat} {l : List UInt8} (h : Ieee.double.read x = .infinity true ∨ ∃ m k, Num x true m k ∧ m ≠ 0) (hl : Txt (Op.negFloat .f64 x) l) : Txt x (45 :: l) := by
  rcases h with h | ⟨m, k, h, h0⟩
  · have hn : Ieee.double.read (Op.negFloat .f64 x) = .infinity false := by rw [read_neg, h]; rfl
    have h2 : Txt (Op.negFloat .f64 x) (sgnL false ++ [105, 110, 102]) := Or.inr (Or.inl ⟨false, hn, rfl⟩)
    rw [txt_fun hl h2]
    exact Or.inr (Or.inl ⟨true, h, rfl⟩)
  · have hn := h.neg
    rcases hl with ⟨⟨s', t, h1⟩, -⟩ | ⟨s', h1, -⟩ | ⟨s', k2, h1, -⟩ | ⟨s', m2, k2, n, c, h1, h2, h3, h4, rfl⟩
    · have := hn.read; rw [h1] at this; cases this
    · have := hn.read; rw [h1] at this; cases this
    · obtain ⟨-, e, -⟩ := num_read hn h1; exact absurd e h0
    · obtain ⟨e1, rfl, rfl⟩ := num_read hn h1
      have e2 : s' = false := e1.symm
      subst e2
      exact Or.inr (Or.inr (Or.inr ⟨true, m, k, n, c, h, h0, h3, h4, rfl⟩))

end Go.Proofs.YtdhoimjkgicneaaDoor

/- The specification's text of a real number: it is the text. -/
namespace Go.Proofs.YtdhoimjkgicneaaDoor
open Go Go.RowKit

/-- The text of a number, a short one. -/
def Wrote4 (x : Nat) (w : World) (e : Ending) (w' : World) : Prop := ∃ l : List UInt8, e = .returned (.string ⟨l.toArray⟩) ∧ Txt x l ∧ l.length ≤ 40 ∧ Below w.heap.size w w'

set_option maxHeartbeats 1000000 in
theorem specX_plain (g0 m0 k0 : Nat) (w : World) (h : Num g0 false m0 k0) (h0 : m0 ≠ 0) :
    Calls Tryd.prog 128 #[.float .f64 g0] w (Wrote4 g0 w) := by
  have hV := h.lt98
  obtain ⟨V, hVe⟩ : ∃ V, V = m0 * 2 ^ k0 := ⟨_, rfl⟩
  rw [← hVe] at hV
  have hmx := h.max
  have HV : Hid (V < 2 ^ u98) := hV
  have HE : Hid (V = m0 * 2 ^ k0) := hVe
  clear hV hVe
  have HN : Hid (Num g0 false m0 k0 ∧ m0 ≠ 0) := ⟨h, h0⟩
  go_enter Tryd.func128, Tryd.ntmps128
  go_wp2_with fail
  go_loop [0, 3] (fun x e => ∃ g m k j : Nat, x = .float .f64 g ∧ e = .int .i64 j ∧ Num g false m k ∧ m ≠ 0 ∧ m * 2 ^ k * 2 ^ j = V ∧ j ≤ 971) (fun _ e => 1000 - (intOf e).toNat)
  case atStart => exact ⟨g0, m0, k0, 0, rfl, rfl, h, h0, by rw [HE.out]; simp, by omega⟩
  case round =>
    obtain ⟨g, m, k, j, rfl, rfl, hn, hm, hj, hj9⟩ := hrel
    have ge := ge53 hn
    by_cases hb : 9007199254740992 * 2 ^ u74 ≤ m * 2 ^ k
    · obtain ⟨r, m', k', r1, r2, r3, r4⟩ := half_step hn hm hb
      have hjb := half_bound hj HV.out hb
      rw [show decide (9007199254740992 * 2 ^ u74 ≤ m * 2 ^ k) = true from by simpa using hb] at ge
      have q : ∀ t w, (binOp .quo t (.float .f64 g) (.float .f64 4611686018427387904)).run Tryd.prog w = .ok (.float .f64 r) w := fun t w => run_float_arith w .quo t .f64 _ _ _ r1
      have R2 : Hid (Num r false m' k' ∧ m' ≠ 0 ∧ m' * 2 ^ k' * 2 ^ (j + 1) = V) := ⟨r2, r3, half_eq r4 hj⟩
      clear r1 r2 r3 r4 hn hm hj hb h h0
      go_wp2
      go_round
      case rel => exact ⟨r, m', k', j + 1, rfl, by go_num, R2.out.1, R2.out.2.1, R2.out.2.2, by omega⟩
      case measure => simp [intOf]; omega
    · rw [show decide (9007199254740992 * 2 ^ u74 ≤ m * 2 ^ k) = false from by simpa using Nat.lt_of_not_le hb] at ge
      have LT : Hid (m * 2 ^ k < 9007199254740992 * 2 ^ u74) := Nat.lt_of_not_le hb
      obtain ⟨W1, hW⟩ : ∃ W, W = m * 2 ^ k := ⟨_, rfl⟩
      have hW0 : W1 ≠ 0 := by rw [hW]; exact Nat.mul_ne_zero hm (Nat.ne_of_gt (Nat.two_pow_pos _))
      rw [← hW] at hj LT
      have N1 : Hid (Num g false m k ∧ m ≠ 0 ∧ m * 2 ^ k = W1) := ⟨hn, hm, hW.symm⟩
      have J1 : Hid (W1 * 2 ^ j = V) := hj
      have Z1 : Hid (W1 ≠ 0) := hW0
      clear hn hm hj hW hW0 hb h h0
      go_wp2
      clear ge
      go_loop [0, 3] (fun x e => ∃ g m k i : Nat, x = .float .f64 g ∧ e = .int .i64 ((j : Int) - i) ∧ Num g false m k ∧ m ≠ 0 ∧ m * 2 ^ k = W1 * 2 ^ i ∧ m * 2 ^ k < 9007199254740992 * 2 ^ u74 ∧ i ≤ 1127) (fun _ e => (intOf e + 3000).toNat)
      case atStart => exact ⟨g, m, k, 0, rfl, by simp, N1.out.1, N1.out.2.1, by rw [N1.out.2.2]; simp, by rw [N1.out.2.2]; exact LT.out, by omega⟩
      case round =>
        obtain ⟨g, m, k, i, rfl, rfl, hn, hm, hi, hlt, hi9⟩ := hrel
        have lt := lt52 hn
        by_cases hb : m * 2 ^ k < 4503599627370496 * 2 ^ u74
        · obtain ⟨r, m', k', r1, r2, r3, r4⟩ := dbl_step hn hm hb
          rw [show decide (m * 2 ^ k < 4503599627370496 * 2 ^ u74) = true from by simpa using hb] at lt
          have hlt2 : m' * 2 ^ k' < 9007199254740992 * 2 ^ u74 := by rw [r4]; omega
          have hi2 := dbl_bound (dbl_eq r4 hi) Z1.out hlt2
          have q : ∀ t w, (binOp .mul t (.float .f64 g) (.float .f64 4611686018427387904)).run Tryd.prog w = .ok (.float .f64 r) w := fun t w => run_float_arith w .mul t .f64 _ _ _ r1
          have R2 : Hid (Num r false m' k' ∧ m' ≠ 0 ∧ m' * 2 ^ k' = W1 * 2 ^ (i + 1) ∧ m' * 2 ^ k' < 9007199254740992 * 2 ^ u74) := ⟨r2, r3, dbl_eq r4 hi, hlt2⟩
          clear r1 r2 r3 r4 hn hm hi hb hlt hlt2
          go_wp2
          go_round
          case rel => exact ⟨r, m', k', i + 1, rfl, by go_num, R2.out.1, R2.out.2.1, R2.out.2.2.1, R2.out.2.2.2, by omega⟩
          case measure => simp [intOf]; omega
        · rw [show decide (m * 2 ^ k < 4503599627370496 * 2 ^ u74) = false from by simpa using Nat.le_of_not_lt hb] at lt
          obtain ⟨v1, v2, v3⟩ := whole_step hn (Nat.le_of_not_lt hb) hlt
          have hm53 := hn.m53
          have cv : ∀ w, (convert 35 3 (.float .f64 g)).run Tryd.prog w = .ok (.int .i64 m) w := fun w => run_convert_float_int w _ _ .f64 .i64 g m (by kernel_rfl) Tryd.underlying3 v1
          have MW : Hid (m * 2 ^ u74 = W1 * 2 ^ i) := v2.symm.trans hi
          clear v1 v2 hn hm hi hb hlt
          go_wp2
          clear lt cv
          go_loop [4, 3] (fun n e => ∃ N t : Nat, n = .int .i64 N ∧ e = .int .i64 ((j : Int) - i + t) ∧ N ≠ 0 ∧ N * 2 ^ t = m ∧ t ≤ 53) (fun n _ => (intOf n).toNat)
          case atStart => exact ⟨m, 0, rfl, by simp, by omega, by simp, by omega⟩
          case round =>
            obtain ⟨N, t, rfl, rfl, hN, ht, ht9⟩ := hrel
            have hNm : N ≤ m := by rw [← ht]; exact Nat.le_mul_of_pos_right _ (Nat.two_pow_pos _)
            have ht53 := odd_bound ht hN hm53
            by_cases hev : N % 2 = 0
            · have ht2 : N / 2 * 2 ^ (t + 1) = m := half_odd hev ht
              have HT : Hid (N / 2 * 2 ^ (t + 1) = m) := ht2
              have he : ((N : Int) % 2 == 0) = true := by simp; omega
              clear ht ht2 HV HE N1 LT J1 Z1 MW HN
              go_wp2
              go_round
              case rel => exact ⟨N / 2, t + 1, by go_num, by go_num, by omega, HT.out, by omega⟩
              case measure => simp [intOf]; omega
            · have he : ((N : Int) % 2 == 0) = false := by simp; omega
              obtain ⟨c, hc1, hc2⟩ := parts_end J1.out MW.out ht (show N % 2 = 1 by omega)
              have HC : Hid (V = N * 2 ^ c ∧ (c : Int) - 1074 = (j : Int) - i + t) := ⟨hc1, hc2⟩
              clear ht hc1 hc2
              have HX : Hid (Txt g0 (finL false N c)) := Or.inr (Or.inr (Or.inr ⟨false, m0, k0, N, c, HN.out.1, HN.out.2, by omega, HE.out.symm.trans HC.out.1, rfl⟩))
              have hcb := c_bound HC.out.1 HV.out (show N % 2 = 1 by omega)
              clear HV
              have hc3 : (j : Int) - i + t = (c : Int) - 1074 := HC.out.2.symm
              have hl1 := dd_len 15 N (by omega)
              have hl2 := itoa_len5 (n := (c : Int) - 1074) (by omega) (by omega)
              go_wp2_with fail
              refine (spec_dec N _ (by omega) (by omega)).mono ?_
              rintro e w1 ⟨rfl, hb1⟩
              rw [itoa_nat]
              have B1 : Hid (Below w.heap.size w w1) := hb1
              clear hb1
              go_wp2_with fail
              refine (spec_dec ((c : Int) - 1074) w1 (by omega) (by omega)).mono ?_
              rintro e w2 ⟨rfl, hb2⟩
              have B2 : Hid (Below w.heap.size w w2) := B1.out.trans (hb2.mono B1.out.size)
              clear hb2
              go_wp2_with fail
              go_ret
              refine ⟨Lib.decDigits N ++ ([42, 50, 94] ++ Lib.itoa ((c : Int) - 1074)), ret_strR ?_, HX.out, by simp; omega, B2.out⟩
              rw [show (⟨#[42, 50, 94]⟩ : ByteArray) = ⟨([42, 50, 94] : List UInt8).toArray⟩ from rfl, str_cat, str_cat]
              simp

set_option maxHeartbeats 400000 in
theorem plainX_inf (x : Nat) (w : World) (h : Ieee.double.read x = .infinity false) : Calls Tryd.prog 128 #[.float .f64 x] w (Wrote4 x w) := by
  have h3 : (FloatKind.f64.format.order x 9218868437227405311 == some .gt) = true := by rw [inf_max h]; rfl
  have HX : Hid (Txt x [105, 110, 102]) := Or.inr (Or.inl ⟨false, h, rfl⟩)
  clear h
  go_enter Tryd.func128, Tryd.ntmps128
  go_wp2_with fail
  go_ret
  exact ⟨[105, 110, 102], rfl, HX.out, by decide, Below.refl _ _⟩

theorem plainX_any (x : Nat) (w : World) (h : Ieee.double.read x = .infinity false ∨ ∃ m k, Num x false m k ∧ m ≠ 0) : Calls Tryd.prog 128 #[.float .f64 x] w (Wrote4 x w) := by
  rcases h with h | ⟨m, k, h, h0⟩
  · exact plainX_inf x w h
  · exact specX_plain x m k w h h0

set_option maxHeartbeats 400000 in
theorem specX_rtext (x : Nat) (w : World) : Calls Tryd.prog 79 #[.float .f64 x] w (Wrote x w) := by
  have ng : Op.unary .neg (.float .f64 x) = pure (.float .f64 (Op.negFloat .f64 x)) := rfl
  by_cases hz : ∃ s k, Num x s 0 k
  · obtain ⟨s, k, h⟩ := hz
    have h1 : (FloatKind.f64.format.order x x != some .eq) = false := by rw [h.self]; rfl
    have h2 : (FloatKind.f64.format.order x 0 == some .eq) = true := by rw [h.zero]; rfl
    have hd := div_one_zero h
    obtain ⟨r, hr⟩ : ∃ r, r = Ieee.double.word s 9218868437227405312 := ⟨_, rfl⟩
    rw [← hr] at hd
    have q : ∀ t w, (binOp .quo t (.float .f64 4607182418800017408) (.float .f64 x)).run Tryd.prog w = .ok (.float .f64 r) w := fun t w => run_float_arith w .quo t .f64 _ _ _ hd
    have h3' : (FloatKind.f64.format.order r 0 == some .lt) = s := by rw [inf_zero (hr ▸ word_inf s)]; cases s <;> rfl
    have HX : Hid (Txt x (sgnL s ++ [48])) := Or.inr (Or.inr (Or.inl ⟨s, k, h, rfl⟩))
    clear h hr hd
    cases s with
    | true =>
      go_enter Tryd.func79, Tryd.ntmps79
      go_wp2_with fail
      go_ret
      exact ⟨[45, 48], rfl, HX.out, by decide, Below.refl _ _⟩
    | false =>
      go_enter Tryd.func79, Tryd.ntmps79
      go_wp2_with fail
      go_ret
      exact ⟨[48], rfl, HX.out, by decide, Below.refl _ _⟩
  · by_cases hn : ∃ s t, Ieee.double.read x = .nan s t
    · have h1 : (FloatKind.f64.format.order x x != some .eq) = true := by
        obtain ⟨s, t, h⟩ := hn
        have : FloatKind.f64.format.order x x = none := order_nan_left h
        rw [this]; rfl
      have HX : Hid (Txt x [110, 97, 110]) := Or.inl ⟨hn, rfl⟩
      clear hz hn
      go_enter Tryd.func79, Tryd.ntmps79
      go_wp2_with fail
      go_ret
      exact ⟨[110, 97, 110], rfl, HX.out, by decide, Below.refl _ _⟩
    · have hc : ∃ s, Ieee.double.read x = .infinity s ∨ ∃ m k, Num x s m k ∧ m ≠ 0 := by
        rcases read_cases x with ⟨s, m, k, h⟩ | ⟨s, h⟩ | h
        · refine ⟨s, Or.inr ⟨m, k, h, ?_⟩⟩
          intro h0
          subst h0
          exact hz ⟨s, k, h⟩
        · exact ⟨s, Or.inl h⟩
        · exact absurd h hn
      clear hz hn
      obtain ⟨s, h⟩ := hc
      have h1 : (FloatKind.f64.format.order x x != some .eq) = false := by
        rcases h with h | ⟨m, k, h, h0⟩
        · rw [inf_self h]; rfl
        · rw [h.self]; rfl
      have h2 : (FloatKind.f64.format.order x 0 == some .eq) = false := by
        rcases h with h | ⟨m, k, h, h0⟩
        · rw [inf_zero h]; cases s <;> rfl
        · rw [h.zero, if_neg h0]; cases s <;> rfl
      cases s with
      | false =>
        have h3 : (FloatKind.f64.format.order x 0 == some .lt) = false := by
          rcases h with h | ⟨m, k, h, h0⟩
          · rw [inf_zero h]; rfl
          · rw [h.zero, if_neg h0]; rfl
        have H : Hid (Ieee.double.read x = .infinity false ∨ ∃ m k, Num x false m k ∧ m ≠ 0) := h
        clear h
        go_enter Tryd.func79, Tryd.ntmps79
        go_wp2_with fail
        refine (plainX_any x w H.out).mono ?_
        rintro e w1 ⟨l, rfl, hx, hl, hb⟩
        have B : Hid (Below w.heap.size w w1) := hb
        have HX : Hid (Txt x l) := hx
        clear hb hx
        go_wp2_with fail
        go_ret
        exact ⟨l, rfl, HX.out, by omega, B.out⟩
      | true =>
        have h3 : (FloatKind.f64.format.order x 0 == some .lt) = true := by
          rcases h with h | ⟨m, k, h, h0⟩
          · rw [inf_zero h]; rfl
          · rw [h.zero, if_neg h0]; rfl
        have H : Hid (Ieee.double.read (Op.negFloat .f64 x) = .infinity false ∨ ∃ m k, Num (Op.negFloat .f64 x) false m k ∧ m ≠ 0) := by
          rcases h with h | ⟨m, k, h, h0⟩
          · exact Or.inl (by rw [read_neg, h]; rfl)
          · exact Or.inr ⟨m, k, h.neg, h0⟩
        have H2 : Hid (Ieee.double.read x = .infinity true ∨ ∃ m k, Num x true m k ∧ m ≠ 0) := h
        clear h
        go_enter Tryd.func79, Tryd.ntmps79
        go_wp2_with fail
        refine (plainX_any (Op.negFloat .f64 x) w H.out).mono ?_
        rintro e w1 ⟨l, rfl, hx, hl, hb⟩
        have B : Hid (Below w.heap.size w w1) := hb
        have HX : Hid (Txt x (45 :: l)) := txt_minus H2.out hx
        clear hb hx H2
        go_wp2_with fail
        go_ret
        refine ⟨45 :: l, ret_strR ?_, HX.out, by simp; omega, B.out⟩
        rw [show (⟨#[45]⟩ : ByteArray) = ⟨([45] : List UInt8).toArray⟩ from rfl, str_cat]
        rfl

end Go.Proofs.YtdhoimjkgicneaaDoor

/- What words make of a memory; read in their order they make the memory of whose text they are. Of no one program. -/
namespace Go.Proofs.YtdhoimjkgicneaaDoor
open Go

/-- Nothing. -/
def memZ : MemV := ⟨0, 0, 0, 0, 0, fun _ => false, fun _ => 0, fun _ => false, fun _ => false, fun _ => 0, fun _ => 0, fun _ => 0, 0, false, false⟩

def orV (m : MemV) (k n : Nat) : MemV :=
  if k = 1 then { m with x := m.x ||| 2 ^ n } else if k = 2 then { m with y := m.y ||| 2 ^ n } else if k = 3 then { m with m := m.m ||| 2 ^ n }
  else if k = 4 then { m with s := m.s ||| 2 ^ n } else if k = 5 then { m with e := m.e ||| 2 ^ n } else m
def timV (m : MemV) (n c : Nat) (d : Bool) : MemV := { m with tD := fun i => if i = n then d else m.tD i, tC := fun i => if i = n then c else m.tC i }
def cntV (m : MemV) (n c : Nat) (d l : Bool) : MemV := { m with cD := fun i => if i = n then d else m.cD i, cL := fun i => if i = n then l else m.cL i, cC := fun i => if i = n then c else m.cC i }
def intV (m : MemV) (n : Nat) (z : Int) : MemV := { m with d := fun i => if i = n then z else m.d i }
def reaV (m : MemV) (n x : Nat) : MemV := { m with r := fun i => if i = n then x else m.r i }

/-- What one word makes of a memory. -/
def Step (m : MemV) (w : Wd) (m' : MemV) : Prop :=
  if w.k ≤ 5 then m' = orV m w.k w.n
  else if w.k = 7 then m' = timV m w.n w.c w.d
  else if w.k = 8 then m' = cntV m w.n w.c w.d w.l
  else if w.k = 9 then m' = intV m w.n w.z
  else if w.k = 10 then ∃ x, Txt x w.t ∧ m' = reaV m w.n x
  else if w.k = 11 then m' = { m with time := w.c }
  else if w.k = 12 then m' = { m with ran := true }
  else m' = { m with fault := true }

def Steps : MemV → List Wd → MemV → Prop
  | m, [], m' => m' = m
  | m, w :: L, m' => ∃ m1, Step m w m1 ∧ Steps m1 L m'

theorem Steps.snoc : ∀ {L : List Wd} {m m1 m2 : MemV} {w : Wd}, Steps m L m1 → Step m1 w m2 → Steps m (L ++ [w]) m2
  | [], _, _, m2, _, h, g => ⟨m2, by cases h; exact g, rfl⟩
  | _ :: L, _, _, _, _, ⟨a, ha, h⟩, g => ⟨a, ha, Steps.snoc (L := L) h g⟩

/-- A place that just some words touch. -/
theorem slot {α : Type} (get : MemV → α) (P : α → Prop) (touch : Wd → Bool) : ∀ (L : List Wd) (m m' : MemV),
    (∀ w, w ∈ L → ∀ a b, Step a w b → (touch w = true → P (get b)) ∧ (touch w = false → get b = get a)) → Steps m L m' → (L.any touch = true → P (get m')) ∧ (L.any touch = false → get m' = get m)
  | [], m, m', _, h => by cases h; exact ⟨fun h => by simp at h, fun _ => rfl⟩
  | w :: L, m, m', hs, ⟨m1, h1, h2⟩ => by
    obtain ⟨i1, i2⟩ := slot get P touch L m1 m' (fun w hw => hs w (by simp [hw])) h2
    obtain ⟨s1, s2⟩ := hs w (by simp) m m1 h1
    refine ⟨fun h => ?_, fun h => ?_⟩
    · cases hL : L.any touch with
      | true => exact i1 hL
      | false =>
        rw [i2 hL]
        refine s1 ?_
        simpa [hL] using h
    · simp only [List.any_cons, Bool.or_eq_false_iff] at h
      rw [i2 h.2, s2 h.1]

theorem any_seg {n : Nat} {p : Nat → Bool} {f : Nat → Wd} {t : Wd → Bool} (i : Nat) (hi : i < n) (h : ∀ j, j < n → t (f j) = decide (j = i)) : (((List.range n).filter p).map f).any t = p i := by
  rw [Bool.eq_iff_iff]
  simp only [List.any_map, List.any_filter, List.any_eq_true, List.mem_range, Function.comp_apply, Bool.and_eq_true]
  constructor
  · rintro ⟨j, hj, h1, h2⟩
    rw [h j hj] at h2
    have : j = i := by simpa using h2
    rwa [this] at h1
  · intro hp
    exact ⟨i, hi, hp, by rw [h i hi]; simp⟩
theorem any_none {L : List Wd} {t : Wd → Bool} (h : ∀ w, w ∈ L → t w = false) : L.any t = false := by
  rw [Bool.eq_false_iff]
  intro g
  obtain ⟨w, hw, ht⟩ := List.any_eq_true.1 g
  rw [h w hw] at ht
  cases ht

section
variable {v : MemV} {tx : Nat → List UInt8}
theorem kind_bit {k : Nat} {w : Wd} (h : w ∈ bitW v k) : w.k = k := by
  simp only [bitW, List.mem_map] at h
  obtain ⟨n, -, rfl⟩ := h
  rfl
theorem kind_timer {w : Wd} (h : w ∈ timerW v) : w.k = 7 := by
  simp only [timerW, List.mem_map] at h
  obtain ⟨n, -, rfl⟩ := h
  rfl
theorem kind_counter {w : Wd} (h : w ∈ counterW v) : w.k = 8 := by
  simp only [counterW, List.mem_map] at h
  obtain ⟨n, -, rfl⟩ := h
  rfl
theorem kind_int {w : Wd} (h : w ∈ intW v) : w.k = 9 := by
  simp only [intW, List.mem_map] at h
  obtain ⟨n, -, rfl⟩ := h
  rfl
theorem kind_real {w : Wd} (h : w ∈ realW tx) : w.k = 10 := by
  simp only [realW, List.mem_map] at h
  obtain ⟨n, -, rfl⟩ := h
  rfl
theorem kind_time {w : Wd} (h : w ∈ timeW v) : w.k = 11 := by
  unfold timeW at h
  split at h
  · simp only [List.mem_singleton] at h; rw [h]
  · cases h
theorem kind_ran {w : Wd} (h : w ∈ ranW v) : w.k = 12 := by
  unfold ranW at h
  split at h
  · simp only [List.mem_singleton] at h; rw [h]
  · cases h
theorem kind_fault {w : Wd} (h : w ∈ faultW v) : w.k = 13 := by
  unfold faultW at h
  split at h
  · simp only [List.mem_singleton] at h; rw [h]
  · cases h

/-- Of one kind just its own words are touched. -/
theorem any_all (k : Nat) (t : Wd → Bool) (ht : ∀ w, w.k ≠ k → t w = false) :
    (allW v tx).any t = if k = 1 then (bitW v 1).any t else if k = 2 then (bitW v 2).any t else if k = 3 then (bitW v 3).any t else if k = 4 then (bitW v 4).any t else if k = 5 then (bitW v 5).any t
      else if k = 7 then (timerW v).any t else if k = 8 then (counterW v).any t else if k = 9 then (intW v).any t else if k = 10 then (realW tx).any t else if k = 11 then (timeW v).any t
      else if k = 12 then (ranW v).any t else if k = 13 then (faultW v).any t else false := by
  have b : ∀ j, j ≠ k → (bitW v j).any t = false := fun j hj => any_none fun w hw => ht w (by rw [kind_bit hw]; exact hj)
  have h7 : 7 ≠ k → (timerW v).any t = false := fun hj => any_none fun w hw => ht w (by rw [kind_timer hw]; exact hj)
  have h8 : 8 ≠ k → (counterW v).any t = false := fun hj => any_none fun w hw => ht w (by rw [kind_counter hw]; exact hj)
  have h9 : 9 ≠ k → (intW v).any t = false := fun hj => any_none fun w hw => ht w (by rw [kind_int hw]; exact hj)
  have h10 : 10 ≠ k → (realW tx).any t = false := fun hj => any_none fun w hw => ht w (by rw [kind_real hw]; exact hj)
  have h11 : 11 ≠ k → (timeW v).any t = false := fun hj => any_none fun w hw => ht w (by rw [kind_time hw]; exact hj)
  have h12 : 12 ≠ k → (ranW v).any t = false := fun hj => any_none fun w hw => ht w (by rw [kind_ran hw]; exact hj)
  have h13 : 13 ≠ k → (faultW v).any t = false := fun hj => any_none fun w hw => ht w (by rw [kind_fault hw]; exact hj)
  unfold allW bitsW
  simp only [List.any_append]
  by_cases c1 : k = 1
  · subst c1; simp [b, h7, h8, h9, h10, h11, h12, h13]
  by_cases c2 : k = 2
  · subst c2; simp [b, h7, h8, h9, h10, h11, h12, h13]
  by_cases c3 : k = 3
  · subst c3; simp [b, h7, h8, h9, h10, h11, h12, h13]
  by_cases c4 : k = 4
  · subst c4; simp [b, h7, h8, h9, h10, h11, h12, h13]
  by_cases c5 : k = 5
  · subst c5; simp [b, h7, h8, h9, h10, h11, h12, h13]
  by_cases c7 : k = 7
  · subst c7; simp [b, h8, h9, h10, h11, h12, h13]
  by_cases c8 : k = 8
  · subst c8; simp [b, h7, h9, h10, h11, h12, h13]
  by_cases c9 : k = 9
  · subst c9; simp [b, h7, h8, h10, h11, h12, h13]
  by_cases c10 : k = 10
  · subst c10; simp [b, h7, h8, h9, h11, h12, h13]
  by_cases c11 : k = 11
  · subst c11; simp [b, h7, h8, h9, h10, h12, h13]
  by_cases c12 : k = 12
  · subst c12; simp [b, h7, h8, h9, h10, h11, h13]
  by_cases c13 : k = 13
  · subst c13; simp [b, h7, h8, h9, h10, h11, h12]
  rw [b 1 (by omega), b 2 (by omega), b 3 (by omega), b 4 (by omega), b 5 (by omega), h7 (by omega), h8 (by omega), h9 (by omega), h10 (by omega), h11 (by omega), h12 (by omega), h13 (by omega)]
  simp [c1, c2, c3, c4, c5, c7, c8, c9, c10, c11, c12, c13]
end

/-- The word of bits of a memory. -/
theorem step_bit {a b : MemV} {w : Wd} {j i : Nat} (hj : j = 1 ∨ j = 2 ∨ j = 3 ∨ j = 4 ∨ j = 5) (hk : w.k = 1 ∨ w.k = 2 ∨ w.k = 3 ∨ w.k = 4 ∨ w.k = 5 ∨ w.k = 7 ∨ w.k = 8 ∨ w.k = 9 ∨ w.k = 10 ∨ w.k = 11 ∨ w.k = 12 ∨ w.k = 13) (h : Step a w b) :
    (decide (w.k = j ∧ w.n = i) = true → (wdN b j).testBit i = true) ∧ (decide (w.k = j ∧ w.n = i) = false → (wdN b j).testBit i = (wdN a j).testBit i) := by
  unfold Step at h
  by_cases h5 : w.k ≤ 5
  · rw [if_pos h5] at h
    subst h
    have e : wdN (orV a w.k w.n) j = if w.k = j then wdN a j ||| 2 ^ w.n else wdN a j := by
      have : w.k = 1 ∨ w.k = 2 ∨ w.k = 3 ∨ w.k = 4 ∨ w.k = 5 := by omega
      rcases this with e | e | e | e | e <;> rw [e] <;> rcases hj with rfl | rfl | rfl | rfl | rfl <;> rfl
    rw [e]
    constructor
    · intro g
      obtain ⟨g1, g2⟩ := of_decide_eq_true g
      rw [if_pos g1, Nat.testBit_or, Nat.testBit_two_pow, g2]
      simp
    · intro g
      have g := of_decide_eq_false g
      split
      · rename_i g1
        rw [Nat.testBit_or, Nat.testBit_two_pow]
        have : ¬ w.n = i := fun e => g ⟨g1, e⟩
        simp [this]
      · rfl
  · rw [if_neg h5] at h
    have e : wdN b j = wdN a j := by
      split at h
      · subst h; rfl
      split at h
      · subst h; rfl
      split at h
      · subst h; rfl
      split at h
      · obtain ⟨x, -, rfl⟩ := h; rfl
      split at h
      · subst h; rfl
      split at h
      · subst h; rfl
      · subst h; rfl
    rw [e]
    refine ⟨fun g => ?_, fun _ => rfl⟩
    have := (of_decide_eq_true g).1
    omega

theorem back_bit {v m : MemV} {tx : Nat → List UInt8} {j : Nat} (hj : j = 1 ∨ j = 2 ∨ j = 3 ∨ j = 4 ∨ j = 5) (hb : wdN v j < 2 ^ szN j) (h : Steps memZ (allW v tx) m) : wdN m j = wdN v j := by
  apply Nat.eq_of_testBit_eq
  intro i
  obtain ⟨s1, s2⟩ := slot (fun m => (wdN m j).testBit i) (fun b => b = true) (fun w => decide (w.k = j ∧ w.n = i)) (allW v tx) memZ m (fun w hw a b hs => step_bit hj (of_all hw).kind hs) h
  have e : (allW v tx).any (fun w => decide (w.k = j ∧ w.n = i)) = (bitW v j).any (fun w => decide (w.k = j ∧ w.n = i)) := by
    rw [any_all j _ (fun w hw => by simp [hw])]
    rcases hj with rfl | rfl | rfl | rfl | rfl <;> rfl
  have z : wdN memZ j = 0 := by rcases hj with rfl | rfl | rfl | rfl | rfl <;> rfl
  by_cases hi : i < szN j
  · have e2 : (bitW v j).any (fun w => decide (w.k = j ∧ w.n = i)) = (wdN v j).testBit i := any_seg i hi (fun n _ => by simp)
    rw [e, e2] at s1 s2
    cases ht : (wdN v j).testBit i with
    | true => exact s1 ht
    | false => rw [s2 ht, z]; simp
  · have e2 : (bitW v j).any (fun w => decide (w.k = j ∧ w.n = i)) = false := by
      refine any_none fun w hw => ?_
      simp only [bitW, List.mem_map, List.mem_filter, List.mem_range] at hw
      obtain ⟨n, ⟨h1, -⟩, rfl⟩ := hw
      simp only [decide_eq_false_iff_not]
      omega
    rw [e, e2] at s2
    rw [s2 rfl, z, Nat.testBit_lt_two_pow (x := wdN v j) (i := i) (Nat.lt_of_lt_of_le hb (Nat.pow_le_pow_right (by omega) (by omega)))]
    simp

end Go.Proofs.YtdhoimjkgicneaaDoor
