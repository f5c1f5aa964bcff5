/- Texts of this proof laid together: FltG, TxtF, TxtG. -/
import Derived.Test.YtdhoimjkgicneacGreatDoorLot3
import Derived.Test.YtdhoimjkgicneacGreatDoorLot14
import Derived.Test.YtdhoimjkgicneacGreatDoorLot16
import Derived.Lib.IndexMore
import Derived.Lib.AtoiTie
import Derived.Lib.ParseIntBTie
/- The bits that operations on real numbers give fit 64 bits; two words of 64 bits that are the same number are the same word, or both nan. Of no one program. -/
namespace Go.Proofs.YtdhoimjkgicneacGreatDoor
open Go Ieee

theorem word_lt (s : Bool) {r : Nat} (h : r < 9223372036854775808) : double.word s r < 18446744073709551616 := by
  unfold Format.word
  rw [d_sw]
  split <;> omega
theorem nearest_lt (s : Bool) (m : Nat) (p : Int) : double.nearest s m p < 18446744073709551616 := by
  unfold Format.nearest
  split
  · exact word_lt s (by omega)
  · rw [d_inf]
    refine word_lt s ?_
    have := Nat.min_le_right (((max (p + m.log2 - double.fractionBits) double.leastPlace) - double.leastPlace).toNat * double.binade + Toward.even.cut s (m <<< (p - (max (p + m.log2 - double.fractionBits) double.leastPlace)).toNat) ((max (p + m.log2 - double.fractionBits) double.leastPlace) - p).toNat) 9218868437227405312
    omega
theorem write_lt (d : Datum) : double.write d < 18446744073709551616 := by
  cases d with
  | number s m p => exact nearest_lt s m p
  | infinity s => exact word_lt s (by rw [d_inf]; omega)
  | nan s t =>
    refine word_lt s ?_
    rw [d_inf, d_bin]
    omega
theorem map_lt {o : Option Datum} {r : Nat} (h : o.map double.write = some r) : r < 18446744073709551616 := by
  cases o with
  | none => cases h
  | some d => cases h; exact write_lt d
theorem bits_lt {op : BinOp} {x y r : Nat} (h : floatBits op .f64 x y = some r) : r < 18446744073709551616 := by
  unfold floatBits at h
  split at h
  · exact map_lt h
  · exact map_lt h
  · exact map_lt h
  · exact map_lt h
  · cases h
theorem got_lt (op : BinOp) (x y : Nat) (w : World) : fGot op x y w < 18446744073709551616 := by
  unfold fGot
  split
  · rename_i h
    exact bits_lt h
  · simp only [Question.cut]
    generalize w.tape w.drawn (.nanBits .f64 x y) = t
    obtain ⟨c, hc⟩ : ∃ c, t / 2 % (2 ^ 52 - 1) = c := ⟨_, rfl⟩
    have hc2 : c ≤ 4503599627370494 := by rw [← hc]; exact Nat.le_of_lt_succ (Nat.mod_lt _ (by decide))
    rw [hc]
    have h2 : t % 2 = 0 ∨ t % 2 = 1 := by omega
    rcases h2 with h2 | h2 <;> rw [h2] <;> omega
theorem foi_lt (n : Int) : floatOfInt .f64 n < 18446744073709551616 := nearest_lt _ _ _
theorem neg_lt {x : Nat} (h : x < 18446744073709551616) : Op.negFloat .f64 x < 18446744073709551616 :=
  Nat.xor_lt_two_pow (n := 64) h (show 2 ^ (11 + 52) < 2 ^ 64 by decide)

theorem num_word {x : Nat} {s : Bool} {m k : Nat} (h : Num x s m k) (hx : x < 18446744073709551616) : x = if s then 9223372036854775808 + (if m < 4503599627370496 then m else k * 4503599627370496 + m) else (if m < 4503599627370496 then m else k * 4503599627370496 + m) := by
  have hr := h.read
  obtain ⟨q, hq⟩ : ∃ q, q = x % 9223372036854775808 := ⟨_, rfl⟩
  have hs : ∀ b : Bool, (x / 9223372036854775808 % 2 == 1) = b → x = if b then 9223372036854775808 + q else q := by
    intro b hb
    cases b
    · simp at hb; simp; omega
    · simp at hb; simp; omega
  simp only [Format.read, d_sw, d_bin, d_lp, d_inf, ← hq] at hr
  split at hr
  · obtain ⟨e1, e2, e3⟩ := Datum.number.inj hr
    have h2 := hs s e1
    have e : (if m < 4503599627370496 then m else k * 4503599627370496 + m) = q := by
      rw [if_pos (by omega)]
      omega
    rw [e]
    exact h2
  · split at hr
    · obtain ⟨e1, e2, e3⟩ := Datum.number.inj hr
      have h2 := hs s e1
      have e : (if m < 4503599627370496 then m else k * 4503599627370496 + m) = q := by
        rw [if_neg (by omega)]
        omega
      rw [e]
      exact h2
    · split at hr <;> cases hr

theorem num_eq {m k m' k' : Nat} (h : k = 0 ∨ 4503599627370496 ≤ m) (g : k' = 0 ∨ 4503599627370496 ≤ m') (hm : m < 9007199254740992) (hm' : m' < 9007199254740992) (e : m * 2 ^ k = m' * 2 ^ k') : m = m' ∧ k = k' := by
  have key : ∀ {m k m' k' : Nat}, (k' = 0 ∨ 4503599627370496 ≤ m') → m < 9007199254740992 → m * 2 ^ k = m' * 2 ^ k' → k < k' → False := by
    intro m k m' k' g hm e hlt
    have e2 : m * 2 ^ k = m' * 2 ^ (k' - k) * 2 ^ k := by rw [e, Nat.mul_assoc, ← Nat.pow_add]; congr 2; omega
    have e3 := Nat.eq_of_mul_eq_mul_right (Nat.two_pow_pos k) e2
    have h2 : 2 ≤ 2 ^ (k' - k) := by
      have : 2 ^ 1 ≤ 2 ^ (k' - k) := Nat.pow_le_pow_right (by omega) (by omega)
      simpa using this
    have : m' * 2 ≤ m := by rw [e3]; exact Nat.mul_le_mul_left _ h2
    omega
  rcases Nat.lt_trichotomy k k' with hl | hl | hl
  · exact absurd (key g hm e hl) id
  · subst hl
    exact ⟨Nat.eq_of_mul_eq_mul_right (Nat.two_pow_pos k) e, rfl⟩
  · exact absurd (key h hm' e.symm hl) id

theorem inf_word {x : Nat} {s : Bool} (h : double.read x = .infinity s) (hx : x < 18446744073709551616) : x = if s then 18442240474082181120 else 9218868437227405312 := by
  simp only [Format.read, d_sw, d_bin, d_inf] at h
  split at h
  · cases h
  split at h
  · cases h
  split at h
  · rename_i e
    have e1 := Datum.infinity.inj h
    cases s
    · simp at e1; simp; omega
    · simp at e1; simp; omega
  · cases h

/-- The same number in 64 bits is the same word, or both are nan. -/
theorem same_word {x y : Nat} (hx : x < 18446744073709551616) (hy : y < 18446744073709551616) (h : Same x y) : x = y ∨ ((∃ s t, double.read x = .nan s t) ∧ ∃ s t, double.read y = .nan s t) := by
  rcases h with h | ⟨s, a, b⟩ | ⟨s, m, k, m', k', a, b, e⟩
  · exact Or.inr h
  · exact Or.inl (by rw [inf_word a hx, inf_word b hy])
  · obtain ⟨rfl, rfl⟩ := num_eq a.norm b.norm a.m53 b.m53 e
    exact Or.inl (by rw [num_word a hx, num_word b hy])
theorem same_refl (x : Nat) : Same x x := by
  rcases read_cases x with ⟨s, m, k, h⟩ | ⟨s, h⟩ | h
  · exact Or.inr (Or.inr ⟨s, m, k, m, k, h, h, rfl⟩)
  · exact Or.inr (Or.inl ⟨s, h, h⟩)
  · exact Or.inl ⟨h, h⟩

end Go.Proofs.YtdhoimjkgicneacGreatDoor

/- The program's own reading of a real number: powers of two. -/
namespace Go.Proofs.YtdhoimjkgicneacGreatDoor
open Go Go.RowKit

/-- What the program's powers of two leave: some word; and which. -/
def TimesAny (w : World) (r : Ending) (w' : World) : Prop := ∃ z d, r = .returned (.float .f64 z) ∧ z < 18446744073709551616 ∧ w' = w.drewN d
def TimesFin (s : Bool) (n c : Nat) (w : World) (r : Ending) (w' : World) : Prop := ∃ z m k, r = .returned (.float .f64 z) ∧ (Num z s m k ∧ z < 18446744073709551616) ∧ m * 2 ^ k = n * 2 ^ c ∧ w' = w

set_option maxHeartbeats 400000 in
theorem times_any (x : Nat) (e : Int) (w : World) (hx : x < 18446744073709551616) (h1 : -1074 ≤ e) (h2 : e ≤ 1023) :
    Calls Tryz.prog 107 #[.float .f64 x, .int .i64 e] w (TimesAny w) := by
  go_enter Tryz.func107, Tryz.ntmps107
  go_wp2
  go_loopw [0, 1] (fun f i wr => ∃ (g : Nat) (k : Int) (d : Nat), f = .float .f64 g ∧ i = .int .i64 k ∧ -1074 ≤ k ∧ k ≤ 1023 ∧ g < 18446744073709551616 ∧ wr = w.drewN d) (fun _ i _ => (intOf i).toNat)
  case atStart => exact ⟨x, e, 0, rfl, rfl, h1, h2, hx, rfl⟩
  case round =>
    obtain ⟨g, k, d, rfl, rfl, k1, k2, hg, rfl⟩ := hrel
    by_cases hlt : 0 < k
    · have q := mul_any Tryz.prog g 4611686018427387904
      go_wp2
      go_roundw
      case rel => exact ⟨_, k - 1, _, rfl, by go_num, by omega, by omega, got_lt _ _ _ _, rfl⟩
      case measure => simp [intOf]; omega
    · go_wp2
      go_loopw [0, 1] (fun f i wr => ∃ (g : Nat) (k : Int) (d : Nat), f = .float .f64 g ∧ i = .int .i64 k ∧ -1074 ≤ k ∧ k ≤ 0 ∧ g < 18446744073709551616 ∧ wr = w.drewN d) (fun _ i _ => (-(intOf i)).toNat)
      case atStart => exact ⟨g, k, d, rfl, rfl, k1, by omega, hg, rfl⟩
      case round =>
        obtain ⟨g, k, d, rfl, rfl, k1, k2, hg, rfl⟩ := hrel
        by_cases hlt : k < 0
        · have q := quo_any Tryz.prog g 4611686018427387904
          go_wp2
          go_roundw
          case rel => exact ⟨_, k + 1, _, rfl, by go_num, by omega, by omega, got_lt _ _ _ _, rfl⟩
          case measure => simp [intOf]; omega
        · go_wp2
          go_ret
          exact ⟨_, _, rfl, hg, rfl⟩

theorem up_step {g m k n q : Nat} {s : Bool} (h : Num g s m k) (hv : m * 2 ^ k = n * 2 ^ q) (hb : n * 2 ^ (q + 1) < 2 ^ u98) :
    ∃ r m' k', floatBits .mul .f64 g 4611686018427387904 = some r ∧ Num r s m' k' ∧ m' * 2 ^ k' = n * 2 ^ (q + 1) := by
  have e : m * 2 ^ (k + 1) = n * 2 ^ (q + 1) := by rw [Nat.pow_succ, ← Nat.mul_assoc, hv, Nat.pow_succ, Nat.mul_assoc]
  obtain ⟨r, m', k', r1, r2, r3⟩ := mul_two h (by rw [e]; exact hb)
  exact ⟨r, m', k', r1, r2, by rw [r3, e]⟩

theorem down_step {g m k n q : Nat} {s : Bool} (h : Num g s m k) (hv : m * 2 ^ k = n * 2 ^ (q + 1)) (hn : n < 9007199254740992) :
    ∃ r m' k', floatBits .quo .f64 g 4611686018427387904 = some r ∧ Num r s m' k' ∧ m' * 2 ^ k' = n * 2 ^ q :=
  div_two h hv hn

theorem pow_bound {n c q : Nat} (h : n * 2 ^ c < 2 ^ u98) (hq : q ≤ c) : n * 2 ^ q < 2 ^ u98 :=
  Nat.lt_of_le_of_lt (Nat.mul_le_mul_left _ (Nat.pow_le_pow_right (by omega) hq)) h

set_option maxHeartbeats 800000 in
theorem times_fin (g0 m0 k0 n c : Nat) (s : Bool) (w : World) (h : Num g0 s m0 k0) (hg : g0 < 18446744073709551616) (hv : m0 * 2 ^ k0 = n * 2 ^ u74) (hn : n < 9007199254740992) (hc : n * 2 ^ c < 2 ^ u98) (hc2 : c < 2098) :
    Calls Tryz.prog 107 #[.float .f64 g0, .int .i64 ((c : Int) - 1074)] w (TimesFin s n c w) := by
  have HC : Hid (n * 2 ^ c < 2 ^ u98) := hc
  have H0 : Hid ((Num g0 s m0 k0 ∧ g0 < 18446744073709551616) ∧ m0 * 2 ^ k0 = n * 2 ^ u74) := ⟨⟨h, hg⟩, hv⟩
  have hu := u74_eq
  obtain ⟨u, hue⟩ : ∃ u, u = u74 := ⟨_, rfl⟩
  rw [← hue] at hu H0
  clear hc h hv hue hg
  go_enter Tryz.func107, Tryz.ntmps107
  go_wp2
  go_loop [0, 1] (fun f i => ∃ g m k q : Nat, f = .float .f64 g ∧ i = .int .i64 ((c : Int) - q) ∧ (Num g s m k ∧ g < 18446744073709551616) ∧ m * 2 ^ k = n * 2 ^ q ∧ u ≤ q ∧ (q ≤ c ∨ q = u)) (fun _ i => (intOf i).toNat)
  case atStart => exact ⟨g0, m0, k0, u, rfl, by rw [hu]; rfl, H0.out.1, H0.out.2, by omega, Or.inr rfl⟩
  case round =>
    obtain ⟨g, m, k, q, rfl, rfl, hN, hV, hq1, hq2⟩ := hrel
    by_cases hlt : q < c
    · obtain ⟨r, m', k', r1, r2, r3⟩ := up_step hN.1 hV (pow_bound HC.out (by omega))
      have f : ∀ t w, (binOp .mul t (.float .f64 g) (.float .f64 4611686018427387904)).run Tryz.prog w = .ok (.float .f64 r) w := fun t w => run_float_arith w .mul t .f64 _ _ _ r1
      have R : Hid ((Num r s m' k' ∧ r < 18446744073709551616) ∧ m' * 2 ^ k' = n * 2 ^ (q + 1)) := ⟨⟨r2, bits_lt r1⟩, r3⟩
      clear r1 r2 r3 hN hV
      go_wp2
      go_round
      case rel => exact ⟨r, m', k', q + 1, rfl, by go_num, R.out.1, R.out.2, by omega, by omega⟩
      case measure => simp [intOf]; omega
    · have R0 : Hid ((Num g s m k ∧ g < 18446744073709551616) ∧ m * 2 ^ k = n * 2 ^ q) := ⟨hN, hV⟩
      clear hN hV HC H0
      go_wp2
      go_loop [0, 1] (fun f i => ∃ g m k q : Nat, f = .float .f64 g ∧ i = .int .i64 ((c : Int) - q) ∧ (Num g s m k ∧ g < 18446744073709551616) ∧ m * 2 ^ k = n * 2 ^ q ∧ c ≤ q ∧ q ≤ 2098) (fun _ i => (-(intOf i)).toNat)
      case atStart => exact ⟨g, m, k, q, rfl, rfl, R0.out.1, R0.out.2, by omega, by omega⟩
      case round =>
        obtain ⟨g, m, k, q, rfl, rfl, hN, hV, hq1, hq2⟩ := hrel
        by_cases hlt : c < q
        · obtain ⟨p, hp⟩ : ∃ p, q = p + 1 := ⟨q - 1, by omega⟩
          rw [hp] at hV
          obtain ⟨r, m', k', r1, r2, r3⟩ := down_step hN.1 hV hn
          have f : ∀ t w, (binOp .quo t (.float .f64 g) (.float .f64 4611686018427387904)).run Tryz.prog w = .ok (.float .f64 r) w := fun t w => run_float_arith w .quo t .f64 _ _ _ r1
          have R : Hid ((Num r s m' k' ∧ r < 18446744073709551616) ∧ m' * 2 ^ k' = n * 2 ^ p) := ⟨⟨r2, bits_lt r1⟩, r3⟩
          clear r1 r2 r3 hN hV hn
          go_wp2
          go_round
          case rel => exact ⟨r, m', k', p, rfl, by go_num, R.out.1, R.out.2, by omega, by omega⟩
          case measure => simp [intOf]; omega
        · have e : q = c := by omega
          subst e
          have R1 : Hid ((Num g s m k ∧ g < 18446744073709551616) ∧ m * 2 ^ k = n * 2 ^ q) := ⟨hN, hV⟩
          clear hN hV
          go_wp2
          go_ret
          exact ⟨g, m, k, rfl, R1.out.1, R1.out.2, rfl⟩

end Go.Proofs.YtdhoimjkgicneacGreatDoor

/- Reading the text of a real number by the library: where it is cut, and which numbers its two sides are. Of no one program. -/
namespace Go.Proofs.YtdhoimjkgicneacGreatDoor
open Go

theorem digitVal_of {c : UInt8} (h : isDig c = true) : Lib.digitVal c = some (c.toNat - 48) := by
  unfold isDig at h
  unfold Lib.digitVal
  rw [if_pos (by simpa using h)]

theorem decFrom_dig : ∀ (l : List UInt8) (a : Nat), l.all isDig = true → Lib.decFrom a l = some (dval l a)
  | [], a, _ => rfl
  | c :: cs, a, h => by
    simp only [List.all_cons, Bool.and_eq_true] at h
    unfold Lib.decFrom
    rw [digitVal_of h.1]
    exact decFrom_dig cs _ h.2

theorem decNat_dd (n : Nat) : Lib.decNat (Lib.decDigits n) = some n := by
  unfold Lib.decNat
  obtain ⟨c, cs, e, -⟩ := dd_head n
  rw [if_neg (by rw [e]; simp), decFrom_dig _ _ (dd_all n), dval_dd]

theorem atoi_sgn (s : Bool) (n : Nat) : Lib.atoi (sgnL s ++ Lib.decDigits n) = some (if s then -(n : Int) else n) := by
  cases s
  · obtain ⟨c, cs, e, hd⟩ := dd_head n
    have h := decNat_dd n
    simp only [sgnL, Bool.false_eq_true, if_false, List.nil_append]
    rw [e] at h ⊢
    have h45 : (c == 45) = false := by
      rw [beq_eq_false_iff_ne]; rintro rfl; exact absurd hd (by decide)
    have h43 : (c == 43) = false := by
      rw [beq_eq_false_iff_ne]; rintro rfl; exact absurd hd (by decide)
    simp [Lib.atoi, h45, h43, h]
  · simp [sgnL, Lib.atoi, decNat_dd]

theorem itoa_sgn (e : Int) : Lib.itoa e = sgnL (decide (e < 0)) ++ Lib.decDigits e.natAbs := by
  unfold Lib.itoa
  by_cases h : e < 0
  · simp [h, sgnL]
  · rw [if_neg h]
    simp only [h, decide_false, sgnL, Bool.false_eq_true, if_false, List.nil_append]
    congr 1
    omega

theorem atoiAll_itoa {e : Int} (h : (Lib.itoa e).length ≤ 18) : Lib.atoiAll (Lib.itoa e) = .ok e := by
  rw [Lib.atoiAll_short _ h, itoa_sgn, atoi_sgn]
  simp only [Lib.NumEnd.ofOption]
  congr 1
  by_cases h : e < 0 <;> simp [h] <;> omega

theorem parse_sgn {s : Bool} {n : Nat} (h : (sgnL s ++ Lib.decDigits n).length ≤ 18) : Lib.parseIntB 64 (sgnL s ++ Lib.decDigits n) = .ok (if s then -(n : Int) else n) := by
  rw [Lib.parseIntB_64, Lib.atoiAll_short _ h, atoi_sgn]
  rfl

theorem no_star {l : List UInt8} (h : l.all isDig = true) (j : Nat) : l[j]? ≠ some 42 := by
  intro hj
  have := List.mem_of_getElem? hj
  have := List.all_eq_true.1 h _ this
  exact absurd this (by decide)

theorem sgn_no_star (s : Bool) (n j : Nat) : (sgnL s ++ Lib.decDigits n)[j]? ≠ some 42 := by
  cases s
  · exact no_star (dd_all n) j
  · cases j with
    | zero => simp [sgnL]
    | succ j => simpa [sgnL] using no_star (dd_all n) j

/-- Where a text is cut at its star. -/
theorem cut_at {a r : List UInt8} (ha : ∀ j : Nat, a[j]? ≠ some 42) : Lib.cut (a ++ ([42, 50, 94] ++ r)) [42, 50, 94] = (a, r, true) := by
  have hi : Lib.index (a ++ ([42, 50, 94] ++ r)) [42, 50, 94] = (a.length : Int) := by
    have occ : Lib.occAt (a ++ ([42, 50, 94] ++ r)) [42, 50, 94] a.length = true := by
      unfold Lib.occAt
      rw [List.drop_left]
      simp
    rcases Lib.index_spec (a ++ ([42, 50, 94] ++ r)) [42, 50, 94] with ⟨-, h2⟩ | ⟨i, h1, -, h3, h4⟩
    · have := h2 a.length (by simp)
      rw [occ] at this
      cases this
    · rw [h1]
      congr 1
      have hs := Lib.occAt_head rfl h3
      rcases Nat.lt_trichotomy i a.length with h | h | h
      · rw [List.getElem?_append_left h] at hs
        exact absurd hs (ha i)
      · exact h
      · have := h4 a.length h
        rw [occ] at this
        cases this
  unfold Lib.cut
  rw [hi, if_pos (by omega)]
  simp

theorem cut_fin (s : Bool) (n c : Nat) : Lib.cut (finL s n c) [42, 50, 94] = (sgnL s ++ Lib.decDigits n, Lib.itoa ((c : Int) - 1074), true) := by
  have e : finL s n c = (sgnL s ++ Lib.decDigits n) ++ ([42, 50, 94] ++ Lib.itoa ((c : Int) - 1074)) := by simp [finL]
  rw [e, cut_at (sgn_no_star s n)]

end Go.Proofs.YtdhoimjkgicneacGreatDoor
