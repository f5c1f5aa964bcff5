/- The text of any real number, the program's own; and the law's own sameness. -/
import Derived.Test.YtighhijbhmakeaaDoorTxtD
namespace Go.Proofs.YtighhijbhmakeaaDoor
open Go Go.RowKit

theorem div_one_zero {x k : Nat} {s : Bool} (h : Num x s 0 k) : Ieee.double.div 4607182418800017408 x = some (Ieee.double.word s 9218868437227405312) := by
  have r1 : Ieee.double.read 4607182418800017408 = .number false 4503599627370496 (-52) := by decide +kernel
  simp [Ieee.Format.div, r1, h.read, Ieee.Datum.quotient, Ieee.Format.write, d_inf]

set_option maxHeartbeats 400000 in
theorem text_zero (x k : Nat) (s : Bool) (w : World) (h : Num x s 0 k) : Calls Tryd.prog 24 #[.float .f64 x] w (Wrote x w) := by
  have h1 : (FloatKind.f64.format.order x x != some .eq) = false := by rw [h.self]; rfl
  have h2 : (FloatKind.f64.format.order x 0 == some .lt) = false := by rw [h.zero]; rfl
  have h3 := h.max
  have h4 : (FloatKind.f64.format.order x 0 == some .gt) = false := by rw [h.zero]; rfl
  have hd := div_one_zero h
  obtain ⟨r, hr⟩ : ∃ r, r = Ieee.double.word s 9218868437227405312 := ⟨_, rfl⟩
  have hi : Ieee.double.read r = .infinity s := by rw [hr]; exact word_inf s
  rw [← hr] at hd
  have q : ∀ t w, (binOp .quo t (.float .f64 4607182418800017408) (.float .f64 x)).run Tryd.prog w = .ok (.float .f64 r) w := fun t w => run_float_arith w .quo t .f64 _ _ _ hd
  have H : Hid (Num x s 0 k) := h
  clear h hr hd
  cases s with
  | false =>
    have h5 : (FloatKind.f64.format.order r 0 == some .lt) = false := by rw [inf_zero hi]; rfl
    clear hi
    go_enter Tryd.func24, Tryd.ntmps24
    go_wp2_with fail
    go_ret
    exact ⟨[48], rfl, Or.inr (Or.inr (Or.inl ⟨false, k, H.out, rfl⟩)), by decide, Below.refl _ _⟩
  | true =>
    have h5 : (FloatKind.f64.format.order r 0 == some .lt) = true := by rw [inf_zero hi]; rfl
    clear hi
    go_enter Tryd.func24, Tryd.ntmps24
    go_wp2_with fail
    go_ret
    exact ⟨[45, 48], rfl, Or.inr (Or.inr (Or.inl ⟨true, k, H.out, rfl⟩)), by decide, Below.refl _ _⟩

theorem finL_bd {s : Bool} {n c : Nat} (h1 : n < 9007199254740992) (h2 : c < 2098) : (finL s n c).length ≤ 30 := by
  have hl1 := dd_len 15 n (by omega)
  have hl2 := itoa_len5 (n := (c : Int) - 1074) (by omega) (by omega)
  have := sgn_len s
  simp [finL]
  omega

theorem text_nonneg (x : Nat) (w : World) (T : RTab w) (h : Ieee.double.read x = .infinity false ∨ ∃ m k, Num x false m k ∧ m ≠ 0) : Calls Tryd.prog 24 #[.float .f64 x] w (fun e w' => ∃ l, e = .returned (.string ⟨l.toArray⟩) ∧ Txt x l ∧ l.length ≤ 40 ∧ Below w.heap.size w w') := by
  rcases h with h | ⟨m, k, h, h0⟩
  · exact (text_inf x w h).mono fun e w' ⟨he, hw⟩ => ⟨[105, 110, 102], he, Or.inr (Or.inl ⟨false, h, rfl⟩), by decide, by rw [hw]; exact Below.refl _ _⟩
  · refine (text_pos x m k w T h h0).mono ?_
    rintro e w' ⟨n, c, he, n1, n2, hv, hb⟩
    have := finL_bd (s := false) n2 (c_bound hv h.lt98 n1)
    exact ⟨_, he, Or.inr (Or.inr (Or.inr ⟨false, m, k, n, c, h, h0, n1, hv, rfl⟩)), by omega, hb⟩

theorem txt_minus {x : Nat} {l : List UInt8} (h : Ieee.double.read x = .infinity true ∨ ∃ m k, Num x true m k ∧ m ≠ 0) (hl : Txt (Op.negFloat .f64 x) l) : Txt x (45 :: l) := by
  rcases h with h | ⟨m, k, h, h0⟩
  · have hn : Ieee.double.read (Op.negFloat .f64 x) = .infinity false := by rw [read_neg, h]; rfl
    have h2 : Txt (Op.negFloat .f64 x) (sgnL false ++ [105, 110, 102]) := Or.inr (Or.inl ⟨false, hn, rfl⟩)
    rw [txt_fun hl h2]
    exact Or.inr (Or.inl ⟨true, h, rfl⟩)
  · have hn := h.neg
    rcases hl with ⟨⟨s', t, h1⟩, -⟩ | ⟨s', h1, -⟩ | ⟨s', k2, h1, -⟩ | ⟨s', m2, k2, n, c, h1, h2, h3, h4, rfl⟩
    · have := hn.read; rw [h1] at this; cases this
    · have := hn.read; rw [h1] at this; cases this
    · obtain ⟨-, e, -⟩ := num_read hn h1; exact absurd e h0
    · obtain ⟨e1, rfl, rfl⟩ := num_read hn h1
      have e2 : s' = false := e1.symm
      subst e2
      exact Or.inr (Or.inr (Or.inr ⟨true, m, k, n, c, h, h0, h3, h4, rfl⟩))

set_option maxHeartbeats 400000 in
theorem text_minus (x : Nat) (w : World) (T : RTab w) (h : Ieee.double.read x = .infinity true ∨ ∃ m k, Num x true m k ∧ m ≠ 0) : Calls Tryd.prog 24 #[.float .f64 x] w (Wrote x w) := by
  have h1 : (FloatKind.f64.format.order x x != some .eq) = false := by
    rcases h with h | ⟨m, k, h, h0⟩
    · rw [inf_self h]; rfl
    · rw [h.self]; rfl
  have h2 : (FloatKind.f64.format.order x 0 == some .lt) = true := by
    rcases h with h | ⟨m, k, h, h0⟩
    · rw [inf_zero h]; rfl
    · rw [h.zero, if_neg h0]; rfl
  have hn : Hid (Ieee.double.read (Op.negFloat .f64 x) = .infinity false ∨ ∃ m k, Num (Op.negFloat .f64 x) false m k ∧ m ≠ 0) := by
    rcases h with h | ⟨m, k, h, h0⟩
    · exact Or.inl (by rw [read_neg, h]; rfl)
    · exact Or.inr ⟨m, k, h.neg, h0⟩
  have H : Hid (Ieee.double.read x = .infinity true ∨ ∃ m k, Num x true m k ∧ m ≠ 0) := h
  have ng : Op.unary .neg (.float .f64 x) = pure (.float .f64 (Op.negFloat .f64 x)) := rfl
  clear h
  go_enter Tryd.func24, Tryd.ntmps24
  go_wp2_with fail
  refine (text_nonneg (Op.negFloat .f64 x) w T hn.out).mono ?_
  rintro e w1 ⟨l, rfl, hl, hlen, hb⟩
  have HL : Hid (Txt (Op.negFloat .f64 x) l) := hl
  have B : Hid (Below w.heap.size w w1) := hb
  clear hl hb
  go_wp2_with fail
  go_ret
  refine ⟨45 :: l, ret_strR ?_, txt_minus H.out HL.out, by simp; omega, B.out⟩
  rw [show (⟨#[45]⟩ : ByteArray) = ⟨([45] : List UInt8).toArray⟩ from rfl, str_cat]
  rfl

theorem text_any (x : Nat) (w : World) (T : RTab w) : Calls Tryd.prog 24 #[.float .f64 x] w (Wrote x w) := by
  rcases read_cases x with ⟨s, m, k, h⟩ | ⟨s, h⟩ | h
  · by_cases h0 : m = 0
    · subst h0; exact text_zero x k s w h
    · cases s
      · exact (text_nonneg x w T (Or.inr ⟨m, k, h, h0⟩)).mono fun e w' ⟨l, a, b, c, d⟩ => ⟨l, a, b, by omega, d⟩
      · exact text_minus x w T (Or.inr ⟨m, k, h, h0⟩)
  · cases s
    · exact (text_nonneg x w T (Or.inl h)).mono fun e w' ⟨l, a, b, c, d⟩ => ⟨l, a, b, by omega, d⟩
    · exact text_minus x w T (Or.inl h)
  · exact text_nan x w h

end Go.Proofs.YtighhijbhmakeaaDoor
