/- The specification's text of a real number: that it ends, in a short text. -/
import Derived.Test.YtdhoimjkgicneaaDoorTxtE
import Derived.Test.YtdhoimjkgicneaaDoorDevB
namespace Go.Proofs.YtdhoimjkgicneaaDoor
open Go Go.RowKit

/-- Some short text. -/
def Short (w : World) (e : Ending) (w' : World) : Prop := ∃ l : List UInt8, e = .returned (.string ⟨l.toArray⟩) ∧ l.length ≤ 40 ∧ Below w.heap.size w w'
def ShortR (w : World) (e : Ending) (w' : World) : Prop := ∃ l : List UInt8, e = .returned (.string ⟨l.toArray⟩) ∧ l.length ≤ 50 ∧ Below w.heap.size w w'

set_option maxHeartbeats 1000000 in
theorem spec_plain (g0 m0 k0 : Nat) (w : World) (h : Num g0 false m0 k0) (h0 : m0 ≠ 0) :
    Calls Tryd.prog 128 #[.float .f64 g0] w (Short w) := by
  have hV := h.lt98
  obtain ⟨V, hVe⟩ : ∃ V, V = m0 * 2 ^ k0 := ⟨_, rfl⟩
  rw [← hVe] at hV
  have hmx := h.max
  have HV : Hid (V < 2 ^ u98) := hV
  have HE : Hid (V = m0 * 2 ^ k0) := hVe
  clear hV hVe
  go_enter Tryd.func128, Tryd.ntmps128
  go_wp2_with fail
  go_loop [0, 3] (fun x e => ∃ g m k j : Nat, x = .float .f64 g ∧ e = .int .i64 j ∧ Num g false m k ∧ m ≠ 0 ∧ m * 2 ^ k * 2 ^ j = V ∧ j ≤ 971) (fun _ e => 1000 - (intOf e).toNat)
  case atStart => exact ⟨g0, m0, k0, 0, rfl, rfl, h, h0, by rw [HE.out]; simp, by omega⟩
  case round =>
    obtain ⟨g, m, k, j, rfl, rfl, hn, hm, hj, hj9⟩ := hrel
    have ge := ge53 hn
    by_cases hb : 9007199254740992 * 2 ^ u74 ≤ m * 2 ^ k
    · obtain ⟨r, m', k', r1, r2, r3, r4⟩ := half_step hn hm hb
      have hjb := half_bound hj HV.out hb
      rw [show decide (9007199254740992 * 2 ^ u74 ≤ m * 2 ^ k) = true from by simpa using hb] at ge
      have q : ∀ t w, (binOp .quo t (.float .f64 g) (.float .f64 4611686018427387904)).run Tryd.prog w = .ok (.float .f64 r) w := fun t w => run_float_arith w .quo t .f64 _ _ _ r1
      have R2 : Hid (Num r false m' k' ∧ m' ≠ 0 ∧ m' * 2 ^ k' * 2 ^ (j + 1) = V) := ⟨r2, r3, half_eq r4 hj⟩
      clear r1 r2 r3 r4 hn hm hj hb h h0
      go_wp2
      go_round
      case rel => exact ⟨r, m', k', j + 1, rfl, by go_num, R2.out.1, R2.out.2.1, R2.out.2.2, by omega⟩
      case measure => simp [intOf]; omega
    · rw [show decide (9007199254740992 * 2 ^ u74 ≤ m * 2 ^ k) = false from by simpa using Nat.lt_of_not_le hb] at ge
      have LT : Hid (m * 2 ^ k < 9007199254740992 * 2 ^ u74) := Nat.lt_of_not_le hb
      obtain ⟨W1, hW⟩ : ∃ W, W = m * 2 ^ k := ⟨_, rfl⟩
      have hW0 : W1 ≠ 0 := by rw [hW]; exact Nat.mul_ne_zero hm (Nat.ne_of_gt (Nat.two_pow_pos _))
      rw [← hW] at hj LT
      have N1 : Hid (Num g false m k ∧ m ≠ 0 ∧ m * 2 ^ k = W1) := ⟨hn, hm, hW.symm⟩
      have J1 : Hid (W1 * 2 ^ j = V) := hj
      have Z1 : Hid (W1 ≠ 0) := hW0
      clear hn hm hj hW hW0 hb h h0
      go_wp2
      clear ge
      go_loop [0, 3] (fun x e => ∃ g m k i : Nat, x = .float .f64 g ∧ e = .int .i64 ((j : Int) - i) ∧ Num g false m k ∧ m ≠ 0 ∧ m * 2 ^ k = W1 * 2 ^ i ∧ m * 2 ^ k < 9007199254740992 * 2 ^ u74 ∧ i ≤ 1127) (fun _ e => (intOf e + 3000).toNat)
      case atStart => exact ⟨g, m, k, 0, rfl, by simp, N1.out.1, N1.out.2.1, by rw [N1.out.2.2]; simp, by rw [N1.out.2.2]; exact LT.out, by omega⟩
      case round =>
        obtain ⟨g, m, k, i, rfl, rfl, hn, hm, hi, hlt, hi9⟩ := hrel
        have lt := lt52 hn
        by_cases hb : m * 2 ^ k < 4503599627370496 * 2 ^ u74
        · obtain ⟨r, m', k', r1, r2, r3, r4⟩ := dbl_step hn hm hb
          rw [show decide (m * 2 ^ k < 4503599627370496 * 2 ^ u74) = true from by simpa using hb] at lt
          have hlt2 : m' * 2 ^ k' < 9007199254740992 * 2 ^ u74 := by rw [r4]; omega
          have hi2 := dbl_bound (dbl_eq r4 hi) Z1.out hlt2
          have q : ∀ t w, (binOp .mul t (.float .f64 g) (.float .f64 4611686018427387904)).run Tryd.prog w = .ok (.float .f64 r) w := fun t w => run_float_arith w .mul t .f64 _ _ _ r1
          have R2 : Hid (Num r false m' k' ∧ m' ≠ 0 ∧ m' * 2 ^ k' = W1 * 2 ^ (i + 1) ∧ m' * 2 ^ k' < 9007199254740992 * 2 ^ u74) := ⟨r2, r3, dbl_eq r4 hi, hlt2⟩
          clear r1 r2 r3 r4 hn hm hi hb hlt hlt2
          go_wp2
          go_round
          case rel => exact ⟨r, m', k', i + 1, rfl, by go_num, R2.out.1, R2.out.2.1, R2.out.2.2.1, R2.out.2.2.2, by omega⟩
          case measure => simp [intOf]; omega
        · rw [show decide (m * 2 ^ k < 4503599627370496 * 2 ^ u74) = false from by simpa using Nat.le_of_not_lt hb] at lt
          obtain ⟨v1, v2, v3⟩ := whole_step hn (Nat.le_of_not_lt hb) hlt
          have hm53 := hn.m53
          have cv : ∀ w, (convert 35 3 (.float .f64 g)).run Tryd.prog w = .ok (.int .i64 m) w := fun w => run_convert_float_int w _ _ .f64 .i64 g m (by kernel_rfl) Tryd.underlying3 v1
          have MW : Hid (m * 2 ^ u74 = W1 * 2 ^ i) := v2.symm.trans hi
          clear v1 v2 hn hm hi hb hlt
          go_wp2
          clear lt cv
          go_loop [4, 3] (fun n e => ∃ N t : Nat, n = .int .i64 N ∧ e = .int .i64 ((j : Int) - i + t) ∧ N ≠ 0 ∧ N * 2 ^ t = m ∧ t ≤ 53) (fun n _ => (intOf n).toNat)
          case atStart => exact ⟨m, 0, rfl, by simp, by omega, by simp, by omega⟩
          case round =>
            obtain ⟨N, t, rfl, rfl, hN, ht, ht9⟩ := hrel
            have hNm : N ≤ m := by rw [← ht]; exact Nat.le_mul_of_pos_right _ (Nat.two_pow_pos _)
            have ht53 := odd_bound ht hN hm53
            by_cases hev : N % 2 = 0
            · have ht2 : N / 2 * 2 ^ (t + 1) = m := half_odd hev ht
              have HT : Hid (N / 2 * 2 ^ (t + 1) = m) := ht2
              have he : ((N : Int) % 2 == 0) = true := by simp; omega
              clear ht ht2 HV HE N1 LT J1 Z1 MW
              go_wp2
              go_round
              case rel => exact ⟨N / 2, t + 1, by go_num, by go_num, by omega, HT.out, by omega⟩
              case measure => simp [intOf]; omega
            · have he : ((N : Int) % 2 == 0) = false := by simp; omega
              obtain ⟨c, hc1, hc2⟩ := parts_end J1.out MW.out ht (show N % 2 = 1 by omega)
              have HC : Hid (V = N * 2 ^ c ∧ (c : Int) - 1074 = (j : Int) - i + t) := ⟨hc1, hc2⟩
              clear ht hc1 hc2
              have hcb := c_bound HC.out.1 HV.out (show N % 2 = 1 by omega)
              clear HV
              have hc3 : (j : Int) - i + t = (c : Int) - 1074 := HC.out.2.symm
              have hl1 := dd_len 15 N (by omega)
              have hl2 := itoa_len5 (n := (c : Int) - 1074) (by omega) (by omega)
              go_wp2_with fail
              refine (spec_dec N _ (by omega) (by omega)).mono ?_
              rintro e w1 ⟨rfl, hb1⟩
              rw [itoa_nat]
              have B1 : Hid (Below w.heap.size w w1) := hb1
              clear hb1
              go_wp2_with fail
              refine (spec_dec ((c : Int) - 1074) w1 (by omega) (by omega)).mono ?_
              rintro e w2 ⟨rfl, hb2⟩
              have B2 : Hid (Below w.heap.size w w2) := B1.out.trans (hb2.mono B1.out.size)
              clear hb2
              go_wp2_with fail
              go_ret
              refine ⟨Lib.decDigits N ++ ([42, 50, 94] ++ Lib.itoa ((c : Int) - 1074)), ret_strR ?_, by simp; omega, B2.out⟩
              rw [show (⟨#[42, 50, 94]⟩ : ByteArray) = ⟨([42, 50, 94] : List UInt8).toArray⟩ from rfl, str_cat, str_cat]
              simp

set_option maxHeartbeats 400000 in
theorem plain_inf (x : Nat) (w : World) (h : Ieee.double.read x = .infinity false) : Calls Tryd.prog 128 #[.float .f64 x] w (Short w) := by
  have h3 : (FloatKind.f64.format.order x 9218868437227405311 == some .gt) = true := by rw [inf_max h]; rfl
  clear h
  go_enter Tryd.func128, Tryd.ntmps128
  go_wp2_with fail
  go_ret
  exact ⟨[105, 110, 102], rfl, by decide, Below.refl _ _⟩

theorem plain_any (x : Nat) (w : World) (h : Ieee.double.read x = .infinity false ∨ ∃ m k, Num x false m k ∧ m ≠ 0) : Calls Tryd.prog 128 #[.float .f64 x] w (Short w) := by
  rcases h with h | ⟨m, k, h, h0⟩
  · exact plain_inf x w h
  · exact spec_plain x m k w h h0

set_option maxHeartbeats 400000 in
theorem spec_rtext (x : Nat) (w : World) : Calls Tryd.prog 79 #[.float .f64 x] w (ShortR w) := by
  have ng : Op.unary .neg (.float .f64 x) = pure (.float .f64 (Op.negFloat .f64 x)) := rfl
  by_cases hz : ∃ s k, Num x s 0 k
  · obtain ⟨s, k, h⟩ := hz
    have h1 : (FloatKind.f64.format.order x x != some .eq) = false := by rw [h.self]; rfl
    have h2 : (FloatKind.f64.format.order x 0 == some .eq) = true := by rw [h.zero]; rfl
    have hd := div_one_zero h
    obtain ⟨r, hr⟩ : ∃ r, r = Ieee.double.word s 9218868437227405312 := ⟨_, rfl⟩
    rw [← hr] at hd
    have q : ∀ t w, (binOp .quo t (.float .f64 4607182418800017408) (.float .f64 x)).run Tryd.prog w = .ok (.float .f64 r) w := fun t w => run_float_arith w .quo t .f64 _ _ _ hd
    clear h hr hd
    cases h3 : FloatKind.f64.format.order r 0 == some .lt with
    | true =>
      go_enter Tryd.func79, Tryd.ntmps79
      go_wp2_with fail
      go_ret
      exact ⟨[45, 48], rfl, by decide, Below.refl _ _⟩
    | false =>
      go_enter Tryd.func79, Tryd.ntmps79
      go_wp2_with fail
      go_ret
      exact ⟨[48], rfl, by decide, Below.refl _ _⟩
  · by_cases hn : ∃ s t, Ieee.double.read x = .nan s t
    · have h1 : (FloatKind.f64.format.order x x != some .eq) = true := by
        obtain ⟨s, t, h⟩ := hn
        have : FloatKind.f64.format.order x x = none := order_nan_left h
        rw [this]; rfl
      clear hz hn
      go_enter Tryd.func79, Tryd.ntmps79
      go_wp2_with fail
      go_ret
      exact ⟨[110, 97, 110], rfl, by decide, Below.refl _ _⟩
    · have hc : ∃ s, Ieee.double.read x = .infinity s ∨ ∃ m k, Num x s m k ∧ m ≠ 0 := by
        rcases read_cases x with ⟨s, m, k, h⟩ | ⟨s, h⟩ | h
        · refine ⟨s, Or.inr ⟨m, k, h, ?_⟩⟩
          intro h0
          subst h0
          exact hz ⟨s, k, h⟩
        · exact ⟨s, Or.inl h⟩
        · exact absurd h hn
      clear hz hn
      obtain ⟨s, h⟩ := hc
      have h1 : (FloatKind.f64.format.order x x != some .eq) = false := by
        rcases h with h | ⟨m, k, h, h0⟩
        · rw [inf_self h]; rfl
        · rw [h.self]; rfl
      have h2 : (FloatKind.f64.format.order x 0 == some .eq) = false := by
        rcases h with h | ⟨m, k, h, h0⟩
        · rw [inf_zero h]; cases s <;> rfl
        · rw [h.zero, if_neg h0]; cases s <;> rfl
      cases s with
      | false =>
        have h3 : (FloatKind.f64.format.order x 0 == some .lt) = false := by
          rcases h with h | ⟨m, k, h, h0⟩
          · rw [inf_zero h]; rfl
          · rw [h.zero, if_neg h0]; rfl
        have H : Hid (Ieee.double.read x = .infinity false ∨ ∃ m k, Num x false m k ∧ m ≠ 0) := h
        clear h
        go_enter Tryd.func79, Tryd.ntmps79
        go_wp2_with fail
        refine (plain_any x w H.out).mono ?_
        rintro e w1 ⟨l, rfl, hl, hb⟩
        have B : Hid (Below w.heap.size w w1) := hb
        clear hb
        go_wp2_with fail
        go_ret
        exact ⟨l, rfl, by omega, B.out⟩
      | true =>
        have h3 : (FloatKind.f64.format.order x 0 == some .lt) = true := by
          rcases h with h | ⟨m, k, h, h0⟩
          · rw [inf_zero h]; rfl
          · rw [h.zero, if_neg h0]; rfl
        have H : Hid (Ieee.double.read (Op.negFloat .f64 x) = .infinity false ∨ ∃ m k, Num (Op.negFloat .f64 x) false m k ∧ m ≠ 0) := by
          rcases h with h | ⟨m, k, h, h0⟩
          · exact Or.inl (by rw [read_neg, h]; rfl)
          · exact Or.inr ⟨m, k, h.neg, h0⟩
        clear h
        go_enter Tryd.func79, Tryd.ntmps79
        go_wp2_with fail
        refine (plain_any (Op.negFloat .f64 x) w H.out).mono ?_
        rintro e w1 ⟨l, rfl, hl, hb⟩
        have B : Hid (Below w.heap.size w w1) := hb
        clear hb
        go_wp2_with fail
        go_ret
        refine ⟨45 :: l, ret_strR ?_, by simp; omega, B.out⟩
        rw [show (⟨#[45]⟩ : ByteArray) = ⟨([45] : List UInt8).toArray⟩ from rfl, str_cat]
        rfl

end Go.Proofs.YtdhoimjkgicneaaDoor
