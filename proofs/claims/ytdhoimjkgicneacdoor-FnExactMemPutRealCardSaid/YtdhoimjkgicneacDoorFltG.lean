/- The bits that operations on real numbers give fit 64 bits; two words of 64 bits that are the same number are the same word, or both nan. Of no one program. -/
import Derived.Test.YtdhoimjkgicneacDoorFltF
import Derived.Test.YtdhoimjkgicneacDoorFltW
import Derived.Test.YtdhoimjkgicneacDoorTxtA
namespace Go.Proofs.YtdhoimjkgicneacDoor
open Go Ieee

theorem word_lt (s : Bool) {r : Nat} (h : r < 9223372036854775808) : double.word s r < 18446744073709551616 := by
  unfold Format.word
  rw [d_sw]
  split <;> omega
theorem nearest_lt (s : Bool) (m : Nat) (p : Int) : double.nearest s m p < 18446744073709551616 := by
  unfold Format.nearest
  split
  · exact word_lt s (by omega)
  · rw [d_inf]
    refine word_lt s ?_
    have := Nat.min_le_right (((max (p + m.log2 - double.fractionBits) double.leastPlace) - double.leastPlace).toNat * double.binade + Toward.even.cut s (m <<< (p - (max (p + m.log2 - double.fractionBits) double.leastPlace)).toNat) ((max (p + m.log2 - double.fractionBits) double.leastPlace) - p).toNat) 9218868437227405312
    omega
theorem write_lt (d : Datum) : double.write d < 18446744073709551616 := by
  cases d with
  | number s m p => exact nearest_lt s m p
  | infinity s => exact word_lt s (by rw [d_inf]; omega)
  | nan s t =>
    refine word_lt s ?_
    rw [d_inf, d_bin]
    omega
theorem map_lt {o : Option Datum} {r : Nat} (h : o.map double.write = some r) : r < 18446744073709551616 := by
  cases o with
  | none => cases h
  | some d => cases h; exact write_lt d
theorem bits_lt {op : BinOp} {x y r : Nat} (h : floatBits op .f64 x y = some r) : r < 18446744073709551616 := by
  unfold floatBits at h
  split at h
  · exact map_lt h
  · exact map_lt h
  · exact map_lt h
  · exact map_lt h
  · cases h
theorem got_lt (op : BinOp) (x y : Nat) (w : World) : fGot op x y w < 18446744073709551616 := by
  unfold fGot
  split
  · rename_i h
    exact bits_lt h
  · simp only [Question.cut]
    generalize w.tape w.drawn (.nanBits .f64 x y) = t
    obtain ⟨c, hc⟩ : ∃ c, t / 2 % (2 ^ 52 - 1) = c := ⟨_, rfl⟩
    have hc2 : c ≤ 4503599627370494 := by rw [← hc]; exact Nat.le_of_lt_succ (Nat.mod_lt _ (by decide))
    rw [hc]
    have h2 : t % 2 = 0 ∨ t % 2 = 1 := by omega
    rcases h2 with h2 | h2 <;> rw [h2] <;> omega
theorem foi_lt (n : Int) : floatOfInt .f64 n < 18446744073709551616 := nearest_lt _ _ _
theorem neg_lt {x : Nat} (h : x < 18446744073709551616) : Op.negFloat .f64 x < 18446744073709551616 :=
  Nat.xor_lt_two_pow (n := 64) h (show 2 ^ (11 + 52) < 2 ^ 64 by decide)

theorem num_word {x : Nat} {s : Bool} {m k : Nat} (h : Num x s m k) (hx : x < 18446744073709551616) : x = if s then 9223372036854775808 + (if m < 4503599627370496 then m else k * 4503599627370496 + m) else (if m < 4503599627370496 then m else k * 4503599627370496 + m) := by
  have hr := h.read
  obtain ⟨q, hq⟩ : ∃ q, q = x % 9223372036854775808 := ⟨_, rfl⟩
  have hs : ∀ b : Bool, (x / 9223372036854775808 % 2 == 1) = b → x = if b then 9223372036854775808 + q else q := by
    intro b hb
    cases b
    · simp at hb; simp; omega
    · simp at hb; simp; omega
  simp only [Format.read, d_sw, d_bin, d_lp, d_inf, ← hq] at hr
  split at hr
  · obtain ⟨e1, e2, e3⟩ := Datum.number.inj hr
    have h2 := hs s e1
    have e : (if m < 4503599627370496 then m else k * 4503599627370496 + m) = q := by
      rw [if_pos (by omega)]
      omega
    rw [e]
    exact h2
  · split at hr
    · obtain ⟨e1, e2, e3⟩ := Datum.number.inj hr
      have h2 := hs s e1
      have e : (if m < 4503599627370496 then m else k * 4503599627370496 + m) = q := by
        rw [if_neg (by omega)]
        omega
      rw [e]
      exact h2
    · split at hr <;> cases hr

theorem num_eq {m k m' k' : Nat} (h : k = 0 ∨ 4503599627370496 ≤ m) (g : k' = 0 ∨ 4503599627370496 ≤ m') (hm : m < 9007199254740992) (hm' : m' < 9007199254740992) (e : m * 2 ^ k = m' * 2 ^ k') : m = m' ∧ k = k' := by
  have key : ∀ {m k m' k' : Nat}, (k' = 0 ∨ 4503599627370496 ≤ m') → m < 9007199254740992 → m * 2 ^ k = m' * 2 ^ k' → k < k' → False := by
    intro m k m' k' g hm e hlt
    have e2 : m * 2 ^ k = m' * 2 ^ (k' - k) * 2 ^ k := by rw [e, Nat.mul_assoc, ← Nat.pow_add]; congr 2; omega
    have e3 := Nat.eq_of_mul_eq_mul_right (Nat.two_pow_pos k) e2
    have h2 : 2 ≤ 2 ^ (k' - k) := by
      have : 2 ^ 1 ≤ 2 ^ (k' - k) := Nat.pow_le_pow_right (by omega) (by omega)
      simpa using this
    have : m' * 2 ≤ m := by rw [e3]; exact Nat.mul_le_mul_left _ h2
    omega
  rcases Nat.lt_trichotomy k k' with hl | hl | hl
  · exact absurd (key g hm e hl) id
  · subst hl
    exact ⟨Nat.eq_of_mul_eq_mul_right (Nat.two_pow_pos k) e, rfl⟩
  · exact absurd (key h hm' e.symm hl) id

theorem inf_word {x : Nat} {s : Bool} (h : double.read x = .infinity s) (hx : x < 18446744073709551616) : x = if s then 18442240474082181120 else 9218868437227405312 := by
  simp only [Format.read, d_sw, d_bin, d_inf] at h
  split at h
  · cases h
  split at h
  · cases h
  split at h
  · rename_i e
    have e1 := Datum.infinity.inj h
    cases s
    · simp at e1; simp; omega
    · simp at e1; simp; omega
  · cases h

/-- The same number in 64 bits is the same word, or both are nan. -/
theorem same_word {x y : Nat} (hx : x < 18446744073709551616) (hy : y < 18446744073709551616) (h : Same x y) : x = y ∨ ((∃ s t, double.read x = .nan s t) ∧ ∃ s t, double.read y = .nan s t) := by
  rcases h with h | ⟨s, a, b⟩ | ⟨s, m, k, m', k', a, b, e⟩
  · exact Or.inr h
  · exact Or.inl (by rw [inf_word a hx, inf_word b hy])
  · obtain ⟨rfl, rfl⟩ := num_eq a.norm b.norm a.m53 b.m53 e
    exact Or.inl (by rw [num_word a hx, num_word b hy])
theorem same_refl (x : Nat) : Same x x := by
  rcases read_cases x with ⟨s, m, k, h⟩ | ⟨s, h⟩ | h
  · exact Or.inr (Or.inr ⟨s, m, k, m, k, h, h, rfl⟩)
  · exact Or.inr (Or.inl ⟨s, h, h⟩)
  · exact Or.inl ⟨h, h⟩

end Go.Proofs.YtdhoimjkgicneacDoor
