/- Texts of this proof laid together: RealB, RealC, FltA. -/
import Derived.Test.YtdhoimjkgicneaaGreatDoorLot5
import Derived.Laws.FloatArith
/- Drawn words of 64 bits, and drawn real numbers. -/
namespace Go.Proofs.YtdhoimjkgicneaaGreatDoor
open Go Go.RowKit

set_option maxHeartbeats 400000 in
theorem word_any (R c : Nat) (w : World) (h : Rd R c w) (hc : c ≤ 900) :
    Calls Tryz.prog 25 #[.pointer (some ⟨R, 0, none⟩)] w fun e w' => ∃ z : Int, e = .returned (.int .u64 z) ∧ Rd R (c + 8) w' ∧ Moved R w w' := by
  go_enter Tryz.func25, Tryz.ntmps25
  go_wp2
  go_loopw [3, 4] (fun x i wr => ∃ (z : Int) (k : Nat), k ≤ 8 ∧ x = .int .u64 z ∧ i = .int .i64 k ∧ Rd R (c + k) wr ∧ Moved R w wr) (fun _ i _ => 8 - (intOf i).toNat)
  case atStart => exact ⟨0, 0, by omega, rfl, rfl, h, Moved.refl _ _⟩
  case round =>
    obtain ⟨z, k, hk, rfl, rfl, rd, mv⟩ := hrel
    have RD : Hid (Rd R (c + k) wr) := rd
    have MV : Hid (Moved R w wr) := mv
    clear rd mv h
    by_cases hlt : k < 8
    · go_wp2_with fail
      refine (pick_any R (c + k) 256 wr RD.out (by omega) (by omega)).mono ?_
      rintro e w2 ⟨x, rfl, x0, -, -, rd2, mv2⟩
      have RD2 : Hid (Rd R (c + k + 1) w2) := rd2
      have MV2 : Hid (Moved R w w2) := MV.out.trans mv2
      clear rd2 mv2
      go_wp2
      go_roundw
      case rel => exact ⟨_, k + 1, by omega, rfl, by go_num, RD2.out, MV2.out⟩
      case measure => simp [intOf]; omega
    · go_wp2
      go_ret
      have : k = 8 := by omega
      subst this
      exact ⟨_, rfl, RD.out, MV.out⟩

end Go.Proofs.YtdhoimjkgicneaaGreatDoor

/- Drawn real numbers: the draw ends, answers some bits, and turns nothing but the reader. -/
namespace Go.Proofs.YtdhoimjkgicneaaGreatDoor
open Go Go.RowKit

theorem Rd.drewN {R c : Nat} {w : World} (h : Rd R c w) (n : Nat) : Rd R c (w.drewN n) := by
  rcases h with ⟨b, off, len, cap, p, hp, h⟩ | ⟨p, hp, h⟩
  · exact Or.inl ⟨b, off, len, cap, p, hp, h.zR, h.lt, h.c0, h.c1, h.fr, h.el, h.l1, h.l2⟩
  · exact Or.inr ⟨p, hp, h.zR, h.c0, h.c1, h.fr⟩
theorem Moved.drewN {R : Nat} {w w1 : World} (h : Moved R w w1) (n : Nat) : Moved R w (w1.drewN n) := ⟨h.os, h.tape, h.output, h.size, h.block⟩

section
variable (R c : Nat) (w : World)

/-- What a draw of a real number leaves. -/
def Drawn (e : Ending) (w' : World) : Prop := ∃ x : Nat, e = .returned (.float .f64 x) ∧ Rd R (c + 12) w' ∧ Moved R w w'

theorem drawn_of {R c c' : Nat} {w w' : World} (x : Nat) (rd : Rd R c' w') (mv : Moved R w w') (h : c' ≤ c + 12) : Drawn R c w (.returned (.float .f64 x)) w' := ⟨x, rfl, rd.mono h, mv⟩

end

set_option maxHeartbeats 2000000 in
theorem real_any (R c : Nat) (w : World) (h : Rd R c w) (hc : c ≤ 800) : Calls Tryz.prog 28 #[.pointer (some ⟨R, 0, none⟩)] w (Drawn R c w) := by
  go_enter Tryz.func28, Tryz.ntmps28
  go_wp2_with fail
  refine (pick_any R c 16 w h (by omega) (by omega)).mono ?_
  rintro e w1 ⟨x, rfl, x0, x1, -, rd, mv⟩
  have hx : x < 16 := x1 (by omega)
  clear x1 h
  have neg : ∀ b, Op.unary .neg (.float .f64 b) = pure (.float .f64 (Op.negFloat .f64 b)) := fun _ => rfl
  have hxs : x = 0 ∨ x = 1 ∨ x = 2 ∨ x = 3 ∨ x = 4 ∨ x = 5 ∨ x = 6 ∨ x = 7 ∨ x = 8 ∨ x = 9 ∨ x = 10 ∨ x = 11 ∨ 12 ≤ x := by omega
  rcases hxs with rfl | rfl | rfl | rfl | rfl | rfl | rfl | rfl | rfl | rfl | rfl | rfl | h12
  · go_wp2_with fail
    refine (nan_any w1).mono ?_
    rintro e w2 ⟨y, rfl, -, rfl⟩
    go_wp2
    go_ret
    exact drawn_of _ (rd.drewN 1) (mv.drewN 1) (by omega)
  · go_wp2_with fail
    refine (inf_any w1).mono ?_
    rintro e w2 ⟨rfl, rfl⟩
    go_wp2
    go_ret
    exact drawn_of _ rd mv (by omega)
  · go_wp2_with fail
    refine (inf_any w1).mono ?_
    rintro e w2 ⟨rfl, rfl⟩
    go_wp2
    go_ret
    exact drawn_of _ rd mv (by omega)
  · go_wp2
    go_ret
    exact drawn_of _ rd mv (by omega)
  · go_wp2
    go_ret
    exact drawn_of _ rd mv (by omega)
  · go_wp2_with fail
    refine (pick_any R (c + 1) 40 w1 rd (by omega) (by omega)).mono ?_
    rintro e w2 ⟨y, rfl, y0, y1, -, rd2, mv2⟩
    have hy : y < 40 := y1 (by omega)
    have q := mul_any Tryz.prog 1 (floatOfInt .f64 (1 + y))
    have MV : Hid (Moved R w w2) := mv.trans mv2
    have RD : Hid (Rd R (c + 1 + 1) w2) := rd2
    clear rd rd2 mv mv2 y1
    go_wp2
    go_ret
    exact drawn_of _ (RD.out.drewN _) (MV.out.drewN _) (by omega)
  · go_wp2
    go_ret
    exact drawn_of _ rd mv (by omega)
  · go_wp2
    go_ret
    exact drawn_of _ rd mv (by omega)
  · go_wp2_with fail
    refine (pick_any R (c + 1) 9 w1 rd (by omega) (by omega)).mono ?_
    rintro e w2 ⟨y, rfl, y0, y1, -, rd2, mv2⟩
    have hy : y < 9 := y1 (by omega)
    have q := mul_any Tryz.prog 1 (floatOfInt .f64 (y - 4))
    have q2 : ∀ b, _ := add_any Tryz.prog 4503599627370496
    have MV : Hid (Moved R w w2) := mv.trans mv2
    have RD : Hid (Rd R (c + 1 + 1) w2) := rd2
    clear rd rd2 mv mv2 y1
    go_wp2
    go_ret
    exact drawn_of _ (RD.out.drewN _) (MV.out.drewN _) (by omega)
  · go_wp2_with fail
    refine (word_any R (c + 1) w1 rd (by omega)).mono ?_
    rintro e w2 ⟨z, rfl, rd2, mv2⟩
    clear rd
    go_wp2_with fail
    refine (pick_any R (c + 1 + 8) 200 w2 rd2 (by omega) (by omega)).mono ?_
    rintro e w3 ⟨y, rfl, y0, y1, -, rd3, mv3⟩
    have hy : y < 200 := y1 (by omega)
    have q : ∀ a b, _ := quo_any Tryz.prog
    have MV : Hid (Moved R w w3) := (mv.trans mv2).trans mv3
    have RD : Hid (Rd R (c + 1 + 8 + 1) w3) := rd3
    clear rd2 rd3 mv mv2 mv3 y1
    go_wp2_with fail
    refine (pick_any R (c + 1 + 8 + 1) 100 _ (RD.out.drewN _) (by omega) (by omega)).mono ?_
    rintro e w4 ⟨u, rfl, u0, u1, -, rd4, mv4⟩
    have hu : u < 100 := u1 (by omega)
    have MV4 : Hid (Moved R w w4) := (MV.out.drewN _).trans mv4
    have RD4 : Hid (Rd R (c + 1 + 8 + 1 + 1) w4) := rd4
    clear rd4 mv4 u1 q
    go_wp2
    go_loopw [4, 5] (fun f i wr => ∃ (g : Nat) (k : Nat), k ≤ 100 ∧ f = .float .f64 g ∧ i = .int .i64 k ∧ Rd R (c + 1 + 8 + 1 + 1) wr ∧ Moved R w wr) (fun _ i _ => (intOf i).toNat)
    case atStart => exact ⟨_, u.toNat, by omega, rfl, by rw [Int.toNat_of_nonneg u0], RD4.out, MV4.out⟩
    case round =>
      obtain ⟨g, k, hk, rfl, rfl, rd, mv⟩ := hrel
      have RD : Hid (Rd R (c + 1 + 8 + 1 + 1) wr) := rd
      have MV : Hid (Moved R w wr) := mv
      clear rd mv
      by_cases hlt : 0 < k
      · have q := mul_any Tryz.prog g 4563638014722897556
        go_wp2
        go_roundw
        case rel => exact ⟨_, k - 1, by omega, rfl, by go_num, RD.out.drewN _, MV.out.drewN _⟩
        case measure => simp [intOf]; omega
      · go_wp2
        go_ret
        exact drawn_of _ RD.out MV.out (by omega)
  · go_wp2_with fail
    refine (num_lit R (c + 1) _ _ _ (by simp) rd (by omega) (by simp) (by simp) (by simp) 5 rfl).mono ?_
    rintro e w2 ⟨z, rfl, rd2, mv2⟩
    clear rd
    go_wp2_with fail
    refine (pick_any R (c + 1 + 1) 5 w2 rd2 (by omega) (by omega)).mono ?_
    rintro e w3 ⟨y, rfl, y0, y1, -, rd3, mv3⟩
    have hy : y < 5 := y1 (by omega)
    have q := mul_any Tryz.prog (floatOfInt .f64 (y - 2)) 4598175219545276416
    have q2 : ∀ b, _ := add_any Tryz.prog (floatOfInt .f64 z)
    have MV : Hid (Moved R w w3) := (mv.trans mv2).trans mv3
    have RD : Hid (Rd R (c + 1 + 1 + 1) w3) := rd3
    clear rd2 rd3 mv mv2 mv3 y1
    go_wp2
    go_ret
    exact drawn_of _ (RD.out.drewN _) (MV.out.drewN _) (by omega)
  · go_wp2_with fail
    refine (word_any R (c + 1) w1 rd (by omega)).mono ?_
    rintro e w2 ⟨z, rfl, rd2, mv2⟩
    have MV : Hid (Moved R w w2) := mv.trans mv2
    have RD : Hid (Rd R (c + 1 + 8) w2) := rd2
    clear rd rd2 mv mv2
    go_wp2
    go_ret
    exact drawn_of _ RD.out MV.out (by omega)
  · have n0 : (x == 0) = false := by simp; omega
    have n1 : (x == 1) = false := by simp; omega
    have n2 : (x == 2) = false := by simp; omega
    have n3 : (x == 3) = false := by simp; omega
    have n4 : (x == 4) = false := by simp; omega
    have n5 : (x == 5) = false := by simp; omega
    have n6 : (x == 6) = false := by simp; omega
    have n7 : (x == 7) = false := by simp; omega
    have n8 : (x == 8) = false := by simp; omega
    have n9 : (x == 9) = false := by simp; omega
    have n10 : (x == 10) = false := by simp; omega
    have n11 : (x == 11) = false := by simp; omega
    go_wp2_with fail
    refine (pick_any R (c + 1) 41 w1 rd (by omega) (by omega)).mono ?_
    rintro e w2 ⟨y, rfl, y0, y1, -, rd2, mv2⟩
    have hy : y < 41 := y1 (by omega)
    have q := mul_any Tryz.prog (floatOfInt .f64 (y - 20)) 4598175219545276416
    have MV : Hid (Moved R w w2) := mv.trans mv2
    have RD : Hid (Rd R (c + 1 + 1) w2) := rd2
    clear rd rd2 mv mv2 y1
    go_wp2
    go_ret
    exact drawn_of _ (RD.out.drewN _) (MV.out.drewN _) (by omega)

end Go.Proofs.YtdhoimjkgicneaaGreatDoor

/- Floating-point words of 64 bits as whole numbers of the smallest step: what a word reads as, and that writing a number that has a word is exact. Of no one program. -/
namespace Go.Proofs.YtdhoimjkgicneaaGreatDoor
open Go Ieee

theorem d_sw : double.signWeight = 9223372036854775808 := by decide +kernel
theorem d_bin : double.binade = 4503599627370496 := by decide +kernel
theorem d_inf : double.infRung = 9218868437227405312 := by decide +kernel
theorem d_lp : double.leastPlace = -1074 := by decide +kernel
theorem d_fb : double.fractionBits = 52 := rfl

/-- Two numbers that no one should work out powers of. -/
def u74 : Nat := 1074
def u98 : Nat := 2098
theorem u74_eq : u74 = 1074 := rfl
theorem u98_eq : u98 = 2098 := rfl

/-- The word x is a number: its sign, its digits, its place counted from the smallest. -/
structure Num (x : Nat) (s : Bool) (m k : Nat) : Prop where
  read : double.read x = .number s m ((k : Int) - 1074)
  m53 : m < 9007199254740992
  k45 : k ≤ 2045
  norm : k = 0 ∨ 4503599627370496 ≤ m

theorem word_mod (s : Bool) (r : Nat) (h : r < 9223372036854775808) : double.word s r % 9223372036854775808 = r ∧ (double.word s r / 9223372036854775808 % 2 == 1) = s := by
  unfold Format.word
  rw [d_sw]
  cases s
  · simp; omega
  · simp; omega

theorem read_cases (x : Nat) : (∃ s m k, Num x s m k) ∨ (∃ s, double.read x = .infinity s) ∨ (∃ s t, double.read x = .nan s t) := by
  by_cases h1 : x % 9223372036854775808 < 4503599627370496
  · refine Or.inl ⟨x / 9223372036854775808 % 2 == 1, x % 9223372036854775808, 0, ?_, by omega, by omega, Or.inl rfl⟩
    simp [Format.read, d_sw, d_bin, d_lp, h1]
  · by_cases h2 : x % 9223372036854775808 < 9218868437227405312
    · refine Or.inl ⟨x / 9223372036854775808 % 2 == 1, 4503599627370496 + x % 9223372036854775808 % 4503599627370496, x % 9223372036854775808 / 4503599627370496 - 1, ?_, by omega, by omega, by omega⟩
      simp only [Format.read, d_sw, d_bin, d_lp, d_inf, h1, h2, if_true, if_false]
      congr 1 <;> omega
    · by_cases h3 : x % 9223372036854775808 = 9218868437227405312
      · exact Or.inr (Or.inl ⟨x / 9223372036854775808 % 2 == 1, by simp [Format.read, d_sw, d_bin, d_inf, h3]⟩)
      · exact Or.inr (Or.inr ⟨x / 9223372036854775808 % 2 == 1, x % 9223372036854775808 - 9218868437227405312, by simp [Format.read, d_sw, d_bin, d_inf, h1, h2, h3]⟩)

theorem word_num (s : Bool) (L a : Nat) (ha : a ≤ 9007199254740992) (hL : L = 0 ∨ 4503599627370496 ≤ a) (hf : L * 4503599627370496 + a < 9218868437227405312) :
    ∃ m k, Num (double.word s (L * 4503599627370496 + a)) s m k ∧ m * 2 ^ k = a * 2 ^ L := by
  obtain ⟨w1, w2⟩ := word_mod s (L * 4503599627370496 + a) (by omega)
  by_cases h1 : a < 4503599627370496
  · have hL0 : L = 0 := by omega
    subst hL0
    refine ⟨a, 0, ⟨?_, by omega, by omega, Or.inl rfl⟩, rfl⟩
    simp only [Format.read, d_sw, d_bin, d_lp, w1, w2]
    simp [h1]
  · by_cases h2 : a = 9007199254740992
    · subst h2
      refine ⟨4503599627370496, L + 1, ⟨?_, by omega, by omega, by omega⟩, by rw [Nat.pow_succ]; omega⟩
      simp only [Format.read, d_sw, d_bin, d_lp, d_inf, w1, w2]
      rw [if_neg (by omega), if_pos hf]
      have e1 : (L * 4503599627370496 + 9007199254740992) % 4503599627370496 = 0 := by omega
      have e2 : (L * 4503599627370496 + 9007199254740992) / 4503599627370496 = L + 2 := by omega
      rw [e1, e2]
      rw [show (-1074 : Int) + ((L + 2 - 1 : Nat) : Int) = ((L + 1 : Nat) : Int) - 1074 by omega]
    · refine ⟨a, L, ⟨?_, by omega, by omega, by omega⟩, rfl⟩
      simp only [Format.read, d_sw, d_bin, d_lp, d_inf, w1, w2]
      rw [if_neg (by omega), if_pos hf]
      have e1 : (L * 4503599627370496 + a) % 4503599627370496 = a - 4503599627370496 := by omega
      have e2 : (L * 4503599627370496 + a) / 4503599627370496 = L + 1 := by omega
      rw [e1, e2]
      rw [show 4503599627370496 + (a - 4503599627370496) = a by omega, show (-1074 : Int) + ((L + 1 - 1 : Nat) : Int) = (L : Int) - 1074 by omega]

theorem word_inf (s : Bool) : double.read (double.word s 9218868437227405312) = .infinity s := by
  obtain ⟨w1, w2⟩ := word_mod s 9218868437227405312 (by omega)
  simp only [Format.read, d_sw, d_bin, d_inf, w1, w2]
  simp

/-- Rounding to a whole number of steps, none or a few digits dropped. -/
theorem cut_div (s : Bool) (n d : Nat) (h : 2 ^ d ∣ n) : Toward.even.cut s n d = n / 2 ^ d := by
  by_cases h0 : n = 0
  · subst h0
    simp [Toward.cut]
  · have hd : d ≤ n.log2 := (Nat.le_log2 h0).2 (Nat.le_of_dvd (by omega) h)
    have hm : min d (n.log2 + 2) = d := by omega
    have hr : n % 2 ^ d = 0 := Nat.mod_eq_zero_of_dvd h
    have hp : 0 < 2 ^ d := Nat.two_pow_pos _
    have hg : ((2 : Nat) ^ d == 0) = false := by simp
    simp [Toward.cut, hm, Nat.shiftLeft_eq, hr]

/-- Writing a number that has a word is exact. -/
theorem near_exact (s : Bool) (M K C a j : Nat) (p : Int) (hp : p = (K : Int) - C - 1074) (hv : M * 2 ^ K = a * 2 ^ (j + C)) (ha : a < 9007199254740992) (hj : a * 2 ^ j < 2 ^ u98) :
    ∃ m k, Num (double.nearest s M p) s m k ∧ m * 2 ^ k = a * 2 ^ j := by
  by_cases h0 : M = 0
  · subst h0
    have ha0 : a = 0 := by
      rcases Nat.mul_eq_zero.1 (hv.symm.trans (Nat.zero_mul _)) with h | h
      · exact h
      · exact absurd h (Nat.ne_of_gt (Nat.two_pow_pos _))
    subst ha0
    have h1 : Num (double.word s 0) s 0 0 := by
      obtain ⟨w1, w2⟩ := word_mod s 0 (by omega)
      refine ⟨?_, by omega, by omega, Or.inl rfl⟩
      simp [Format.read, d_sw, d_bin, d_lp, w1, w2]
    refine ⟨0, 0, ?_, by simp⟩
    simpa [Format.nearest] using h1
  · have ha0 : a ≠ 0 := by
      intro h; subst h
      rcases Nat.mul_eq_zero.1 (hv.trans (Nat.zero_mul _)) with h | h
      · exact h0 h
      · exact absurd h (Nat.ne_of_gt (Nat.two_pow_pos _))
    have l1 := Nat.log2_self_le h0
    have l2 := Nat.lt_log2_self (n := M)
    have a1 := Nat.log2_self_le ha0
    have a2 : a.log2 < 53 := (Nat.log2_lt ha0).2 (by rw [show (2 : Nat) ^ 53 = 9007199254740992 from by decide +kernel]; exact ha)
    -- the two sides have the same number of digits
    have hlog : M.log2 + K = a.log2 + (j + C) := by
      have e1 : (M * 2 ^ K).log2 = M.log2 + K := by
        apply (Nat.log2_eq_iff (Nat.mul_ne_zero h0 (Nat.ne_of_gt (Nat.two_pow_pos _)))).2
        exact ⟨by rw [Nat.pow_add]; exact Nat.mul_le_mul_right _ l1, by rw [show M.log2 + K + 1 = M.log2 + 1 + K by omega, Nat.pow_add]; exact Nat.mul_lt_mul_of_pos_right l2 (Nat.two_pow_pos _)⟩
      have e2 : (a * 2 ^ (j + C)).log2 = a.log2 + (j + C) := by
        apply (Nat.log2_eq_iff (Nat.mul_ne_zero ha0 (Nat.ne_of_gt (Nat.two_pow_pos _)))).2
        exact ⟨by rw [Nat.pow_add 2 a.log2]; exact Nat.mul_le_mul_right _ a1, by rw [show a.log2 + (j + C) + 1 = a.log2 + 1 + (j + C) by omega, Nat.pow_add 2 (a.log2 + 1)]; exact Nat.mul_lt_mul_of_pos_right Nat.lt_log2_self (Nat.two_pow_pos _)⟩
      rw [← e1, ← e2, hv]
    -- the last digit that is kept
    have hT : ∃ L : Nat, L = K + M.log2 - 52 - C := ⟨_, rfl⟩
    obtain ⟨L, hL⟩ := hT
    have hjL : L ≤ j := by omega
    have hlast : max (p + (M.log2 : Int) - (52 : Nat)) (-1074) = (L : Int) - 1074 := by omega
    have hkept : ∃ b, Toward.even.cut s (M <<< (p - ((L : Int) - 1074)).toNat) ((L : Int) - 1074 - p).toNat = b ∧ b = a * 2 ^ (j - L) := by
      refine ⟨_, rfl, ?_⟩
      have t1 : (p - ((L : Int) - 1074)).toNat = K - (L + C) := by omega
      have t2 : ((L : Int) - 1074 - p).toNat = L + C - K := by omega
      rw [t1, t2, Nat.shiftLeft_eq]
      have hq : M * 2 ^ K = a * 2 ^ (j - L) * 2 ^ (L + C) := by
        rw [hv, Nat.mul_assoc, ← Nat.pow_add]; congr 2; omega
      by_cases hK : L + C ≤ K
      · rw [show L + C - K = 0 by omega, cut_div _ _ _ ⟨_, (Nat.one_mul _).symm⟩]
        have h3 : M * 2 ^ (K - (L + C)) * 2 ^ (L + C) = a * 2 ^ (j - L) * 2 ^ (L + C) := by
          rw [← hq, Nat.mul_assoc, ← Nat.pow_add]; congr 2; omega
        simpa using Nat.eq_of_mul_eq_mul_right (Nat.two_pow_pos _) h3
      · rw [show K - (L + C) = 0 by omega]
        have h3 : M * 2 ^ K = a * 2 ^ (j - L) * 2 ^ (L + C - K) * 2 ^ K := by
          rw [hq, Nat.mul_assoc (a * 2 ^ (j - L)), ← Nat.pow_add]; congr 2; omega
        have h4 : M = a * 2 ^ (j - L) * 2 ^ (L + C - K) := Nat.eq_of_mul_eq_mul_right (Nat.two_pow_pos _) h3
        rw [cut_div _ _ _ ⟨a * 2 ^ (j - L), by rw [Nat.pow_zero, Nat.mul_one, Nat.mul_comm]; exact h4⟩]
        rw [Nat.pow_zero, Nat.mul_one, h4, Nat.mul_div_cancel _ (Nat.two_pow_pos _)]
    obtain ⟨b, hb1, hb2⟩ := hkept
    have hbv : b * 2 ^ L = a * 2 ^ j := by rw [hb2, Nat.mul_assoc, ← Nat.pow_add]; congr 2; omega
    have hb53 : b < 2 ^ 53 := by
      have : b * 2 ^ L < 2 ^ 53 * 2 ^ L := by
        rw [hbv, ← Nat.pow_add]
        calc a * 2 ^ j < 2 ^ (a.log2 + 1) * 2 ^ j := Nat.mul_lt_mul_of_pos_right Nat.lt_log2_self (Nat.two_pow_pos _)
          _ = 2 ^ (a.log2 + 1 + j) := (Nat.pow_add 2 (a.log2 + 1) j).symm
          _ ≤ 2 ^ (53 + L) := Nat.pow_le_pow_right (by omega) (by omega)
      exact Nat.lt_of_mul_lt_mul_right this
    have hbL : L = 0 ∨ 4503599627370496 ≤ b := by
      by_cases hL0 : L = 0
      · exact Or.inl hL0
      · right
        have : 2 ^ 52 * 2 ^ L ≤ b * 2 ^ L := by
          rw [hbv, ← Nat.pow_add]
          calc 2 ^ (52 + L) ≤ 2 ^ (a.log2 + j) := Nat.pow_le_pow_right (by omega) (by omega)
            _ = 2 ^ a.log2 * 2 ^ j := Nat.pow_add 2 a.log2 j
            _ ≤ a * 2 ^ j := Nat.mul_le_mul_right _ a1
        exact Nat.le_of_mul_le_mul_right this (Nat.two_pow_pos _)
    have hL45 : L ≤ 2045 := by
      rcases hbL with h | h
      · omega
      · have h1 : (2 : Nat) ^ (52 + L) < 2 ^ u98 := by
          refine Nat.lt_of_le_of_lt ?_ hj
          rw [← hbv, Nat.pow_add]
          exact Nat.mul_le_mul_right _ h
        have := (Nat.pow_lt_pow_iff_right (a := 2) (by omega)).1 h1
        have := u98_eq
        omega
    have hf : L * 4503599627370496 + b < 9218868437227405312 := by
      have : b < 9007199254740992 := hb53
      omega
    obtain ⟨m, k, n1, n2⟩ := word_num s L b (Nat.le_of_lt hb53) hbL hf
    refine ⟨m, k, ?_, n2.trans hbv⟩
    have e : double.nearest s M p = double.word s (L * 4503599627370496 + b) := by
      simp only [Format.nearest, if_neg h0, d_fb, d_lp, d_bin, d_inf]
      rw [hlast, hb1]
      rw [show ((L : Int) - 1074 - -1074).toNat = L by omega, Nat.min_eq_left (Nat.le_of_lt hf)]
    rw [e]; exact n1

end Go.Proofs.YtdhoimjkgicneaaGreatDoor
