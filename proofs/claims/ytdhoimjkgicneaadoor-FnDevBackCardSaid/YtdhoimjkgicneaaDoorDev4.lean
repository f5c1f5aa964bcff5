/- Each reader gives back the operand out of its text. Plain. -/
import Derived.Test.YtdhoimjkgicneaaDoorDev3
namespace Go.Proofs.YtdhoimjkgicneaaDoor
open Go

theorem all_take {l : List UInt8} (a : Nat) (h : l.all isDig = true) : (l.take a).all isDig = true := by
  rw [List.all_eq_true] at h ⊢
  intro x hx; exact h x (List.mem_of_mem_take hx)
theorem all_drop {l : List UInt8} (a : Nat) (h : l.all isDig = true) : (l.drop a).all isDig = true := by
  rw [List.all_eq_true] at h ⊢
  intro x hx; exact h x (List.mem_of_mem_drop hx)
theorem dval_split (l : List UInt8) (a : Nat) : dval (l.drop a) (dval (l.take a) 0) = dval l 0 := by
  rw [← dval_append, List.take_append_drop]

theorem pad_len (m p : Nat) (hm : m ≤ 999999999) (hp : p ≤ 6) : p < (padL (Lib.decDigits m) p).length ∧ (padL (Lib.decDigits m) p).length ≤ 10 := by
  have := dd_len 8 m (by omega)
  rw [padL]; simp; omega
theorem pad_val (m p : Nat) : dval (padL (Lib.decDigits m) p) 0 = m := by rw [padL, dval_pad, dval_dd]

theorem numP_int (s : Int) (m : Nat) (hm : m ≤ 999999999) : numP s (Lib.decDigits m) = ((11 : Int), s * (m : Int), (0 : Int)) := by
  have h1 := dd_len 8 m (by omega)
  have h2 := dd_pos m
  unfold numP
  rw [fnd_none (dd_all m)]
  simp only []
  rw [digitsZ, if_pos ⟨by omega, by omega, dd_all m⟩, dval_dd]

theorem numP_dec (s : Int) (m p : Nat) (hm : m ≤ 999999999) (hp : p ≤ 6) : numP s (decM m p) = ((12 : Int), s * (m : Int), (p : Int)) := by
  obtain ⟨h1, h2⟩ := pad_len m p hm hp
  have ha := pad_all m p
  have hv := pad_val m p
  unfold decM
  generalize padL (Lib.decDigits m) p = d at *
  have e : pointL d p = d.take (d.length - p) ++ 46 :: d.drop (d.length - p) := by simp [pointL]
  have hl : (d.take (d.length - p)).length = d.length - p := by simp
  unfold numP
  rw [e, fnd_some _ (all_take _ ha), hl]
  simp only []
  have e2 : (d.take (d.length - p) ++ 46 :: d.drop (d.length - p)).take (d.length - p) = d.take (d.length - p) := by
    rw [List.take_append_of_le_length (by omega), List.take_take, Nat.min_self]
  have e3 : (d.take (d.length - p) ++ 46 :: d.drop (d.length - p)).drop (d.length - p + 1) = d.drop (d.length - p) := by
    rw [List.drop_append, hl, List.drop_of_length_le (by omega)]
    simp
  rw [e2, e3, List.take_append_drop, digitsZ, if_pos ⟨by omega, by omega, ha⟩, hv]
  simp; omega

theorem scan_int (k s : Int) (m : Nat) (hm : m ≤ 999999999) (hk : k ≠ 12) : scanL k s 0 0 (Lib.decDigits m) = (k, (m : Int) * s, (0 : Int)) := by
  have := scan_digits k s [] (Lib.decDigits m) 0 0 (dd_all m) (by rw [dval_dd]; omega)
  rw [List.append_nil, dval_dd, if_neg hk] at this
  rw [this, scanL]; rfl

theorem scan_dec (s : Int) (m p : Nat) (hm : m ≤ 999999999) (hp : p ≤ 6) : scanL 11 s 0 0 (decM m p) = ((12 : Int), (m : Int) * s, (p : Int)) := by
  obtain ⟨h1, h2⟩ := pad_len m p hm hp
  have ha := pad_all m p
  have hv := pad_val m p
  unfold decM
  generalize padL (Lib.decDigits m) p = d at *
  have e : pointL d p = d.take (d.length - p) ++ 46 :: d.drop (d.length - p) := by simp [pointL]
  have hs := dval_split d (d.length - p)
  have hle := dval_le (d.drop (d.length - p)) (dval (d.take (d.length - p)) 0)
  rw [e, scan_digits 11 s _ _ 0 0 (all_take _ ha) (by omega), if_neg (by decide), scanL, if_pos ⟨rfl, rfl⟩]
  have h3 := scan_digits 12 s [] (d.drop (d.length - p)) (dval (d.take (d.length - p)) 0) 0 (all_drop _ ha) (by omega)
  rw [List.append_nil, hs, hv, if_pos rfl] at h3
  rw [h3, scanL]
  simp; omega

theorem head_dec (m p : Nat) (hm : m ≤ 999999999) (hp : p ≤ 6) : ∃ c cs, decM m p = c :: cs ∧ isDig c = true := by
  obtain ⟨h1, h2⟩ := pad_len m p hm hp
  have ha := pad_all m p
  unfold decM
  generalize padL (Lib.decDigits m) p = d at *
  obtain ⟨c, cs, e, hc⟩ := head_dig (all_take (d.length - p) ha) (by simp; omega)
  exact ⟨c, cs ++ 46 :: d.drop (d.length - p), by simp [pointL, e], hc⟩
theorem head_int (m : Nat) : ∃ c cs, Lib.decDigits m = c :: cs ∧ isDig c = true := head_dig (dd_all m) (dd_pos m)

theorem dec_not (m p : Nat) (hm : m ≤ 999999999) (hp : p ≤ 6) (h0 : 1 ≤ m) : decM m p ≠ [48, 46, 48] := by
  intro e
  have h := scan_dec 1 m p hm hp
  rw [e] at h
  have : scanL 11 1 0 0 [48, 46, 48] = (12, 0, 1) := by decide
  rw [this] at h
  have h2 := (Prod.mk.inj (Prod.mk.inj h).2).1
  omega
theorem int_not (m : Nat) : Lib.decDigits m ≠ [48, 46, 48] := by
  intro e
  have := dd_all m
  rw [e] at this
  revert this; decide

theorem read_both {k n p : Int} (h : okB k n p = true) : guessP (textL k n p) = (k, n, p) ∧ scanP (textL k n p) = (k, n, p) := by
  unfold textL
  rw [if_neg (by rw [h]; decide)]
  split
  · rename_i hk; subst hk
    obtain ⟨h1, h2, rfl⟩ := ok_int h
    by_cases h0 : 0 ≤ n
    · obtain ⟨m, rfl⟩ : ∃ m : Nat, n = m := ⟨n.toNat, by omega⟩
      rw [Lib.itoa_nonneg, guess_plus (head_int m), scan_plus (head_int m), numP_int 1 m (by omega), scan_int 11 1 m (by omega) (by decide)]
      simp
    · obtain ⟨m, rfl⟩ : ∃ m : Nat, n = -(m : Int) := ⟨n.natAbs, by omega⟩
      rw [Lib.itoa_neg m (by omega), guess_minus (head_int m) (int_not m), scan_minus (head_int m) (int_not m), numP_int (-1) m (by omega), scan_int 11 (-1) m (by omega) (by decide)]
      simp
  · split
    · rename_i hk; subst hk
      obtain ⟨h1, h2, h3, h4, -⟩ := ok_dec h
      obtain ⟨q, rfl⟩ : ∃ q : Nat, p = q := ⟨p.toNat, by omega⟩
      rw [show (q : Int).toNat = q from rfl]
      by_cases h0 : 0 ≤ n
      · obtain ⟨m, rfl⟩ : ∃ m : Nat, n = m := ⟨n.toNat, by omega⟩
        have e : decT (m : Int) q = decM m q := by unfold decT; rw [if_neg (by omega)]; simp
        have hh := head_dec m q (by omega) (by omega)
        rw [e, guess_plus hh, scan_plus hh, numP_dec 1 m q (by omega) (by omega), scan_dec 1 m q (by omega) (by omega)]
        simp
      · obtain ⟨m, rfl⟩ : ∃ m : Nat, n = -(m : Int) := ⟨n.natAbs, by omega⟩
        have e : decT (-(m : Int)) q = 45 :: decM m q := by unfold decT; rw [if_pos (by omega)]; simp
        have hh := head_dec m q (by omega) (by omega)
        have hn := dec_not m q (by omega) (by omega) (by omega)
        rw [e, guess_minus hh hn, scan_minus hh hn, numP_dec (-1) m q (by omega) (by omega), scan_dec (-1) m q (by omega) (by omega)]
        simp
    · split
      · rename_i hk; subst hk
        obtain ⟨h1, h2, rfl⟩ := ok_word h
        have h4 : n = 0 ∨ n = 1 ∨ n = 2 ∨ n = 3 := by omega
        rcases h4 with rfl | rfl | rfl | rfl <;> decide
      · obtain ⟨h1, h2, rfl⟩ := ok_dev h (by omega)
        obtain ⟨h3, h4⟩ := ok_kind h (by omega)
        have hz := sizeZ_bd k
        obtain ⟨m, rfl⟩ : ∃ m : Nat, n = m := ⟨n.toNat, by omega⟩
        have hm : m ≤ 64 := by omega
        rw [Lib.itoa_nonneg]
        have hd := numP_int 1 m (by omega)
        have hdz : digitsZ (Lib.decDigits m) = m := by
          have := dd_len 8 m (by omega)
          have := dd_pos m
          rw [digitsZ, if_pos ⟨by omega, by omega, dd_all m⟩, dval_dd]
        have hK : k = 1 ∨ k = 2 ∨ k = 3 ∨ k = 4 ∨ k = 5 ∨ k = 6 ∨ k = 7 ∨ k = 8 ∨ k = 9 ∨ k = 10 := by omega
        have key : ∀ (c : UInt8) (k : Int), letK (c :: Lib.decDigits m) = k → k ≠ 0 → k ≠ 12 → c ≠ 110 → c ≠ 105 → c ≠ 45 → guessP (c :: Lib.decDigits m) = (k, (m : Int), (0 : Int)) ∧ scanP (c :: Lib.decDigits m) = (k, (m : Int), (0 : Int)) := by
          intro c k hk h0 h12 a b e
          have w0 : c :: Lib.decDigits m ≠ wordL 0 := by rw [show wordL 0 = [110, 97, 110] by decide]; simp [a]
          have w1 : c :: Lib.decDigits m ≠ wordL 1 := by rw [show wordL 1 = [105, 110, 102] by decide]; simp [b]
          have w2 : c :: Lib.decDigits m ≠ wordL 2 := by rw [show wordL 2 = [45, 105, 110, 102] by decide]; simp [e]
          have w3 : c :: Lib.decDigits m ≠ wordL 3 := by rw [show wordL 3 = [45, 48, 46, 48] by decide]; simp [e]
          unfold guessP scanP
          rw [if_neg w0, if_neg w1, if_neg w2, if_neg w3, hk, if_pos h0, if_neg w0, if_neg w1, if_neg w2, if_neg w3, if_pos h0]
          simp only [List.drop_succ_cons, List.drop_zero]
          rw [hdz, scan_int k 1 m (by omega) h12]
          simp
        rcases hK with rfl | rfl | rfl | rfl | rfl | rfl | rfl | rfl | rfl | rfl
        · exact key 88 1 (by simp [letK]) (by decide) (by decide) (by decide) (by decide) (by decide)
        · exact key 89 2 (by simp [letK]) (by decide) (by decide) (by decide) (by decide) (by decide)
        · exact key 77 3 (by simp [letK]) (by decide) (by decide) (by decide) (by decide) (by decide)
        · exact key 83 4 (by simp [letK]) (by decide) (by decide) (by decide) (by decide) (by decide)
        · exact key 69 5 (by simp [letK]) (by decide) (by decide) (by decide) (by decide) (by decide)
        · exact key 71 6 (by simp [letK]) (by decide) (by decide) (by decide) (by decide) (by decide)
        · exact key 84 7 (by simp [letK]) (by decide) (by decide) (by decide) (by decide) (by decide)
        · exact key 67 8 (by simp [letK]) (by decide) (by decide) (by decide) (by decide) (by decide)
        · exact key 68 9 (by simp [letK]) (by decide) (by decide) (by decide) (by decide) (by decide)
        · exact key 82 10 (by simp [letK]) (by decide) (by decide) (by decide) (by decide) (by decide)

/-- A text that one reader's operand writes is read so by both. -/
theorem read_same {l : List UInt8} {k n p : Int} (h : okB k n p = true) (e : textL k n p = l) : guessP l = (k, n, p) ∧ scanP l = (k, n, p) := by
  subst e; exact read_both h

end Go.Proofs.YtdhoimjkgicneaaDoor
