/- Texts of this proof laid together: MxB, TxtX, MxC. -/
import Derived.Test.YtdhoimjkgicneaaGreatDoorLot35
import Derived.Test.YtdhoimjkgicneaaGreatDoorLot13
import Derived.Test.YtdhoimjkgicneaaGreatDoorLot1
import Derived.Deep.Cut
import Derived.Test.YtdhoimjkgicneaaGreatDoorLot19
import Derived.Test.YtdhoimjkgicneaaGreatDoorLot5
import Derived.WalkSpells
import Derived.WalkLawsBesides
import Derived.Test.YtdhoimjkgicneaaGreatDoorLot28
import Derived.Deep.RegionHeld
/- The specification's words of a memory: a device, a mark, the bits of a kind. -/
namespace Go.Proofs.YtdhoimjkgicneaaGreatDoor
open Go Go.RowKit

theorem cat3 (a b c d : List UInt8) : (⟨a.toArray⟩ : ByteArray) ++ ⟨b.toArray⟩ ++ ⟨c.toArray⟩ ++ ⟨d.toArray⟩ = ⟨(a ++ (b ++ (c ++ d))).toArray⟩ := by
  rw [str_cat, str_cat, str_cat]
  simp

set_option maxHeartbeats 800000 in
theorem spec_dev (kd k : Nat) (tl : List UInt8) (w : World) (hk : k ≤ 100) (ht : tl.length ≤ 1000) :
    Calls Tryz.prog 50 #[.int .i64 kd, .int .i64 k, .string ⟨tl.toArray⟩] w fun e w' => e = .returned (.string ⟨(letterL kd ++ (Lib.decDigits k ++ (tl ++ [32]))).toArray⟩) ∧ Below w.heap.size w w' := by
  have l1 := letterL_len (kd : Int)
  have l2 := dd_len 2 k (by omega)
  have CD := fun w => spec_dec1 k w (by omega)
  have CL := fun w => spec_letter (kd : Int) w
  go_enter Tryz.func50, Tryz.ntmps50
  go_wp2_with fail
  refine (CL _).mono ?_
  rintro e w1 ⟨rfl, rfl⟩
  go_wp2_with fail
  refine (CD _).mono ?_
  rintro e w2 ⟨rfl, b2⟩
  have H2 : Hid (Below w1.heap.size w1 w2) := b2
  clear b2 CD CL
  go_wp2_with fail
  go_ret
  exact ⟨ret_str (cat3 _ _ _ [32]), H2.out⟩

theorem spec_mark (b : Bool) (s : ByteArray) (w : World) :
    Calls Tryz.prog 52 #[.bool b, .string s] w fun e w' => e = .returned (.string (if b then s else ⟨#[]⟩)) ∧ w' = w := by
  cases b with
  | true =>
    go_enter Tryz.func52, Tryz.ntmps52
    go_wp2_with fail
    go_ret
    exact ⟨rfl, rfl⟩
  | false =>
    go_enter Tryz.func52, Tryz.ntmps52
    go_wp2_with fail
    go_ret
    exact ⟨rfl, rfl⟩

theorem bitP_len (v : MemV) {k n : Nat} (hk : k ≤ 5) (hn : n ≤ 64) : (spL (bitP v k n)).length ≤ 400 := by
  have h : (spL (bitP v k n)).length ≤ n * (3 + 1) := seg_len (b := 3) fun i hi => by
    have l1 := letterL_len ((k : Nat) : Int)
    have l2 := dd_len2 (n := i) (by omega)
    simp only [Wd.text, Wd.tail, if_neg (show ¬ k = 11 by omega), if_neg (show ¬ k = 12 by omega), if_neg (show ¬ k = 13 by omega), if_pos hk]
    simp
    omega
  omega

theorem bit_word (k n : Nat) (h1 : 1 ≤ k) (h2 : k ≤ 5) : (⟨k, n, 0, false, false, 0, []⟩ : Wd).text = letterL k ++ (Lib.decDigits n ++ []) := by
  unfold Wd.text Wd.tail
  simp only
  rw [if_neg (by omega), if_neg (by omega), if_neg (by omega), if_pos h2]

set_option maxRecDepth 100000 in
set_option maxHeartbeats 1600000 in
theorem spec_bits (v : MemV) (kd : Nat) (w : World) (h1 : 1 ≤ kd) (h2 : kd ≤ 5) (hv : v.Ok) :
    Calls Tryz.prog 49 #[.agg v.row, .int .i64 kd] w fun e w' => e = .returned (.string ⟨(spL (bitW v kd)).toArray⟩) ∧ Below w.heap.size w w' := by
  obtain ⟨hs, hs1, hs2⟩ := size_kind h1 h2
  have HE : Hid (bitP v kd (szN kd) = bitW v kd) := bitP_all v kd
  obtain ⟨N, hN⟩ : ∃ N, N = szN kd := ⟨_, rfl⟩
  have CZ : ∀ w, Calls Tryz.prog 90 #[.int .i64 kd] w fun e w' => e = .returned (.int .i64 (N : Int)) ∧ w' = w := fun w => by
    have := spec_size (kd : Int) w
    rw [hs, ← hN] at this
    exact this
  have CB : ∀ (i : Nat) w, i < N → Calls Tryz.prog 91 #[.agg v.row, .agg #[.int .i64 kd, .int .i64 i, .int .i64 0]] w fun e w' => e = .returned (.bool ((wdN v kd).testBit i)) ∧ Below w.heap.size w w' := fun i w hi => by
    have := spec_membit v kd i 0 w hv
    rw [mbit_kind v h1 h2 (by omega)] at this
    exact this
  have CD : ∀ (i : Nat) w, i < N → Calls Tryz.prog 50 #[.int .i64 kd, .int .i64 i, .string ⟨#[]⟩] w fun e w' => e = .returned (.string ⟨(letterL kd ++ (Lib.decDigits i ++ ([] ++ [32]))).toArray⟩) ∧ Below w.heap.size w w' := fun i w hi => spec_dev kd i [] w (by omega) (by simp)
  rw [← hN] at hs1 hs2 HE
  have M0 : MemAt w.heap.size v (w.alloc (.cells v.row 37)) := MemAt.alloc v w 37
  have B0 : Below w.heap.size w (w.alloc (.cells v.row 37)) := (Below.refl _ _).alloc (Nat.le_refl _) _
  have HI : Hid (MemAt w.heap.size v (w.alloc (.cells v.row 37)) ∧ Below w.heap.size w (w.alloc (.cells v.row 37))) := ⟨M0, B0⟩
  have HX : Hid (1 ≤ kd ∧ kd ≤ 5) := ⟨h1, h2⟩
  clear hs hN M0 B0 hv h1 h2
  go_enter Tryz.func49, Tryz.ntmps49
  go_upto_region 1 with fail
  generalize w.alloc (.cells v.row 37) = w1 at HI ⊢
  go_wp2_with fail
  go_loopw [5, 6] (fun s iv wr => ∃ i : Nat, i ≤ N ∧ iv = .int .i64 i ∧ s = .string ⟨(spL (bitP v kd i)).toArray⟩ ∧ MemAt w.heap.size v wr ∧ Below w.heap.size w wr) (fun _ iv _ => N - (intOf iv).toNat)
  case atStart => exact ⟨0, by omega, rfl, rfl, HI.out.1, HI.out.2⟩
  case round =>
    clear HI
    obtain ⟨i, hi, rfl, rfl, hM, hB⟩ := hrel
    have HR : Hid (MemAt w.heap.size v wr ∧ Below w.heap.size w wr) := ⟨hM, hB⟩
    have LM := load_mem hM
    have hlen := bitP_len v (k := kd) (n := i) HX.out.2 (by omega)
    clear hM hB
    go_wp2_with fail
    refine (CZ wr).mono ?_
    rintro e w2 ⟨rfl, rfl⟩
    by_cases hin : i < N
    · have hin' : (i : Int) < (N : Int) := by omega
      have CB' := CB i w2 hin
      cases hb : (wdN v kd).testBit i with
      | true =>
        rw [hb] at CB'
        go_wp2_with (refine list_load (t := 37) rfl rfl rfl LM ?_)
        refine CB'.mono ?_
        rintro e w3 ⟨rfl, b3⟩
        obtain ⟨tw, htw⟩ : ∃ tw, tw = letterL kd ++ (Lib.decDigits i ++ ([] ++ [32])) := ⟨_, rfl⟩
        have CD' := CD i w3 hin
        rw [← htw] at CD'
        have H3 : Hid (MemAt w.heap.size v w3 ∧ Below w.heap.size w w3) := ⟨HR.out.1.below b3 HR.out.1.z, HR.out.2.trans (b3.mono HR.out.2.size)⟩
        have HW : Hid (spL (bitP v kd (i + 1)) = spL (bitP v kd i) ++ tw) := (show spL (bitP v kd (i + 1)) = spL (bitP v kd i) ++ tw by
          unfold bitP
          rw [seg_yes hb, spL_append, spL_one, bit_word kd i HX.out.1 HX.out.2, htw]
          simp)
        have l1 : tw.length ≤ 10 := by
          have l1 := letterL_len (kd : Int)
          have l2 := dd_len 2 i (by omega)
          rw [htw]
          simp
          omega
        clear b3 CB' LM HR hb htw
        go_wp2_with fail
        refine CD'.mono ?_
        rintro e w4 ⟨rfl, b4⟩
        have H4 : Hid (MemAt w.heap.size v w4 ∧ Below w.heap.size w w4) := ⟨H3.out.1.below b4 H3.out.1.z, H3.out.2.trans (b4.mono H3.out.2.size)⟩
        clear b4 H3 CD'
        go_wp2_with fail
        go_roundw
        case rel => exact ⟨i + 1, by omega, by go_num, by rw [HW.out, str_cat], H4.out.1, H4.out.2⟩
        case measure => simp [intOf]; omega
      | false =>
        rw [hb] at CB'
        go_wp2_with (refine list_load (t := 37) rfl rfl rfl LM ?_)
        refine CB'.mono ?_
        rintro e w3 ⟨rfl, b3⟩
        have H3 : Hid (MemAt w.heap.size v w3 ∧ Below w.heap.size w w3) := ⟨HR.out.1.below b3 HR.out.1.z, HR.out.2.trans (b3.mono HR.out.2.size)⟩
        have HW : Hid (bitP v kd (i + 1) = bitP v kd i) := seg_no hb
        clear b3 CB' LM HR hb
        go_wp2_with fail
        go_roundw
        case rel => exact ⟨i + 1, by omega, by go_num, by rw [HW.out], H3.out.1, H3.out.2⟩
        case measure => simp [intOf]; omega
    · obtain rfl : i = N := by omega
      go_wp2_with fail
      go_ret
      exact ⟨by rw [HE.out]; rfl, HR.out.2⟩

end Go.Proofs.YtdhoimjkgicneaaGreatDoor

/- The specification's text of a real number: it is the text. -/
namespace Go.Proofs.YtdhoimjkgicneaaGreatDoor
open Go Go.RowKit

/-- The text of a number, a short one. -/
def Wrote4 (x : Nat) (w : World) (e : Ending) (w' : World) : Prop := ∃ l : List UInt8, e = .returned (.string ⟨l.toArray⟩) ∧ Txt x l ∧ l.length ≤ 40 ∧ Below w.heap.size w w'

set_option maxHeartbeats 1000000 in
theorem specX_plain (g0 m0 k0 : Nat) (w : World) (h : Num g0 false m0 k0) (h0 : m0 ≠ 0) :
    Calls Tryz.prog 89 #[.float .f64 g0] w (Wrote4 g0 w) := by
  have hV := h.lt98
  obtain ⟨V, hVe⟩ : ∃ V, V = m0 * 2 ^ k0 := ⟨_, rfl⟩
  rw [← hVe] at hV
  have hmx := h.max
  have HV : Hid (V < 2 ^ u98) := hV
  have HE : Hid (V = m0 * 2 ^ k0) := hVe
  clear hV hVe
  have HN : Hid (Num g0 false m0 k0 ∧ m0 ≠ 0) := ⟨h, h0⟩
  go_enter Tryz.func89, Tryz.ntmps89
  go_wp2_with fail
  go_loop [0, 3] (fun x e => ∃ g m k j : Nat, x = .float .f64 g ∧ e = .int .i64 j ∧ Num g false m k ∧ m ≠ 0 ∧ m * 2 ^ k * 2 ^ j = V ∧ j ≤ 971) (fun _ e => 1000 - (intOf e).toNat)
  case atStart => exact ⟨g0, m0, k0, 0, rfl, rfl, h, h0, by rw [HE.out]; simp, by omega⟩
  case round =>
    obtain ⟨g, m, k, j, rfl, rfl, hn, hm, hj, hj9⟩ := hrel
    have ge := ge53 hn
    by_cases hb : 9007199254740992 * 2 ^ u74 ≤ m * 2 ^ k
    · obtain ⟨r, m', k', r1, r2, r3, r4⟩ := half_step hn hm hb
      have hjb := half_bound hj HV.out hb
      rw [show decide (9007199254740992 * 2 ^ u74 ≤ m * 2 ^ k) = true from by simpa using hb] at ge
      have q : ∀ t w, (binOp .quo t (.float .f64 g) (.float .f64 4611686018427387904)).run Tryz.prog w = .ok (.float .f64 r) w := fun t w => run_float_arith w .quo t .f64 _ _ _ r1
      have R2 : Hid (Num r false m' k' ∧ m' ≠ 0 ∧ m' * 2 ^ k' * 2 ^ (j + 1) = V) := ⟨r2, r3, half_eq r4 hj⟩
      clear r1 r2 r3 r4 hn hm hj hb h h0
      go_wp2
      go_round
      case rel => exact ⟨r, m', k', j + 1, rfl, by go_num, R2.out.1, R2.out.2.1, R2.out.2.2, by omega⟩
      case measure => simp [intOf]; omega
    · rw [show decide (9007199254740992 * 2 ^ u74 ≤ m * 2 ^ k) = false from by simpa using Nat.lt_of_not_le hb] at ge
      have LT : Hid (m * 2 ^ k < 9007199254740992 * 2 ^ u74) := Nat.lt_of_not_le hb
      obtain ⟨W1, hW⟩ : ∃ W, W = m * 2 ^ k := ⟨_, rfl⟩
      have hW0 : W1 ≠ 0 := by rw [hW]; exact Nat.mul_ne_zero hm (Nat.ne_of_gt (Nat.two_pow_pos _))
      rw [← hW] at hj LT
      have N1 : Hid (Num g false m k ∧ m ≠ 0 ∧ m * 2 ^ k = W1) := ⟨hn, hm, hW.symm⟩
      have J1 : Hid (W1 * 2 ^ j = V) := hj
      have Z1 : Hid (W1 ≠ 0) := hW0
      clear hn hm hj hW hW0 hb h h0
      go_wp2
      clear ge
      go_loop [0, 3] (fun x e => ∃ g m k i : Nat, x = .float .f64 g ∧ e = .int .i64 ((j : Int) - i) ∧ Num g false m k ∧ m ≠ 0 ∧ m * 2 ^ k = W1 * 2 ^ i ∧ m * 2 ^ k < 9007199254740992 * 2 ^ u74 ∧ i ≤ 1127) (fun _ e => (intOf e + 3000).toNat)
      case atStart => exact ⟨g, m, k, 0, rfl, by simp, N1.out.1, N1.out.2.1, by rw [N1.out.2.2]; simp, by rw [N1.out.2.2]; exact LT.out, by omega⟩
      case round =>
        obtain ⟨g, m, k, i, rfl, rfl, hn, hm, hi, hlt, hi9⟩ := hrel
        have lt := lt52 hn
        by_cases hb : m * 2 ^ k < 4503599627370496 * 2 ^ u74
        · obtain ⟨r, m', k', r1, r2, r3, r4⟩ := dbl_step hn hm hb
          rw [show decide (m * 2 ^ k < 4503599627370496 * 2 ^ u74) = true from by simpa using hb] at lt
          have hlt2 : m' * 2 ^ k' < 9007199254740992 * 2 ^ u74 := by rw [r4]; omega
          have hi2 := dbl_bound (dbl_eq r4 hi) Z1.out hlt2
          have q : ∀ t w, (binOp .mul t (.float .f64 g) (.float .f64 4611686018427387904)).run Tryz.prog w = .ok (.float .f64 r) w := fun t w => run_float_arith w .mul t .f64 _ _ _ r1
          have R2 : Hid (Num r false m' k' ∧ m' ≠ 0 ∧ m' * 2 ^ k' = W1 * 2 ^ (i + 1) ∧ m' * 2 ^ k' < 9007199254740992 * 2 ^ u74) := ⟨r2, r3, dbl_eq r4 hi, hlt2⟩
          clear r1 r2 r3 r4 hn hm hi hb hlt hlt2
          go_wp2
          go_round
          case rel => exact ⟨r, m', k', i + 1, rfl, by go_num, R2.out.1, R2.out.2.1, R2.out.2.2.1, R2.out.2.2.2, by omega⟩
          case measure => simp [intOf]; omega
        · rw [show decide (m * 2 ^ k < 4503599627370496 * 2 ^ u74) = false from by simpa using Nat.le_of_not_lt hb] at lt
          obtain ⟨v1, v2, v3⟩ := whole_step hn (Nat.le_of_not_lt hb) hlt
          have hm53 := hn.m53
          have cv : ∀ w, (convert 34 3 (.float .f64 g)).run Tryz.prog w = .ok (.int .i64 m) w := fun w => run_convert_float_int w _ _ .f64 .i64 g m (by kernel_rfl) Tryz.underlying3 v1
          have MW : Hid (m * 2 ^ u74 = W1 * 2 ^ i) := v2.symm.trans hi
          clear v1 v2 hn hm hi hb hlt
          go_wp2
          clear lt cv
          go_loop [4, 3] (fun n e => ∃ N t : Nat, n = .int .i64 N ∧ e = .int .i64 ((j : Int) - i + t) ∧ N ≠ 0 ∧ N * 2 ^ t = m ∧ t ≤ 53) (fun n _ => (intOf n).toNat)
          case atStart => exact ⟨m, 0, rfl, by simp, by omega, by simp, by omega⟩
          case round =>
            obtain ⟨N, t, rfl, rfl, hN, ht, ht9⟩ := hrel
            have hNm : N ≤ m := by rw [← ht]; exact Nat.le_mul_of_pos_right _ (Nat.two_pow_pos _)
            have ht53 := odd_bound ht hN hm53
            by_cases hev : N % 2 = 0
            · have ht2 : N / 2 * 2 ^ (t + 1) = m := half_odd hev ht
              have HT : Hid (N / 2 * 2 ^ (t + 1) = m) := ht2
              have he : ((N : Int) % 2 == 0) = true := by simp; omega
              clear ht ht2 HV HE N1 LT J1 Z1 MW HN
              go_wp2
              go_round
              case rel => exact ⟨N / 2, t + 1, by go_num, by go_num, by omega, HT.out, by omega⟩
              case measure => simp [intOf]; omega
            · have he : ((N : Int) % 2 == 0) = false := by simp; omega
              obtain ⟨c, hc1, hc2⟩ := parts_end J1.out MW.out ht (show N % 2 = 1 by omega)
              have HC : Hid (V = N * 2 ^ c ∧ (c : Int) - 1074 = (j : Int) - i + t) := ⟨hc1, hc2⟩
              clear ht hc1 hc2
              have HX : Hid (Txt g0 (finL false N c)) := Or.inr (Or.inr (Or.inr ⟨false, m0, k0, N, c, HN.out.1, HN.out.2, by omega, HE.out.symm.trans HC.out.1, rfl⟩))
              have hcb := c_bound HC.out.1 HV.out (show N % 2 = 1 by omega)
              clear HV
              have hc3 : (j : Int) - i + t = (c : Int) - 1074 := HC.out.2.symm
              have hl1 := dd_len 15 N (by omega)
              have hl2 := itoa_len5 (n := (c : Int) - 1074) (by omega) (by omega)
              go_wp2_with fail
              refine (spec_dec N _ (by omega) (by omega)).mono ?_
              rintro e w1 ⟨rfl, hb1⟩
              rw [itoa_nat]
              have B1 : Hid (Below w.heap.size w w1) := hb1
              clear hb1
              go_wp2_with fail
              refine (spec_dec ((c : Int) - 1074) w1 (by omega) (by omega)).mono ?_
              rintro e w2 ⟨rfl, hb2⟩
              have B2 : Hid (Below w.heap.size w w2) := B1.out.trans (hb2.mono B1.out.size)
              clear hb2
              go_wp2_with fail
              go_ret
              refine ⟨Lib.decDigits N ++ ([42, 50, 94] ++ Lib.itoa ((c : Int) - 1074)), ret_strR ?_, HX.out, by simp; omega, B2.out⟩
              rw [show (⟨#[42, 50, 94]⟩ : ByteArray) = ⟨([42, 50, 94] : List UInt8).toArray⟩ from rfl, str_cat, str_cat]
              simp

set_option maxHeartbeats 400000 in
theorem plainX_inf (x : Nat) (w : World) (h : Ieee.double.read x = .infinity false) : Calls Tryz.prog 89 #[.float .f64 x] w (Wrote4 x w) := by
  have h3 : (FloatKind.f64.format.order x 9218868437227405311 == some .gt) = true := by rw [inf_max h]; rfl
  have HX : Hid (Txt x [105, 110, 102]) := Or.inr (Or.inl ⟨false, h, rfl⟩)
  clear h
  go_enter Tryz.func89, Tryz.ntmps89
  go_wp2_with fail
  go_ret
  exact ⟨[105, 110, 102], rfl, HX.out, by decide, Below.refl _ _⟩

theorem plainX_any (x : Nat) (w : World) (h : Ieee.double.read x = .infinity false ∨ ∃ m k, Num x false m k ∧ m ≠ 0) : Calls Tryz.prog 89 #[.float .f64 x] w (Wrote4 x w) := by
  rcases h with h | ⟨m, k, h, h0⟩
  · exact plainX_inf x w h
  · exact specX_plain x m k w h h0

set_option maxHeartbeats 400000 in
theorem specX_rtext (x : Nat) (w : World) : Calls Tryz.prog 48 #[.float .f64 x] w (Wrote x w) := by
  have ng : Op.unary .neg (.float .f64 x) = pure (.float .f64 (Op.negFloat .f64 x)) := rfl
  by_cases hz : ∃ s k, Num x s 0 k
  · obtain ⟨s, k, h⟩ := hz
    have h1 : (FloatKind.f64.format.order x x != some .eq) = false := by rw [h.self]; rfl
    have h2 : (FloatKind.f64.format.order x 0 == some .eq) = true := by rw [h.zero]; rfl
    have hd := div_one_zero h
    obtain ⟨r, hr⟩ : ∃ r, r = Ieee.double.word s 9218868437227405312 := ⟨_, rfl⟩
    rw [← hr] at hd
    have q : ∀ t w, (binOp .quo t (.float .f64 4607182418800017408) (.float .f64 x)).run Tryz.prog w = .ok (.float .f64 r) w := fun t w => run_float_arith w .quo t .f64 _ _ _ hd
    have h3' : (FloatKind.f64.format.order r 0 == some .lt) = s := by rw [inf_zero (hr ▸ word_inf s)]; cases s <;> rfl
    have HX : Hid (Txt x (sgnL s ++ [48])) := Or.inr (Or.inr (Or.inl ⟨s, k, h, rfl⟩))
    clear h hr hd
    cases s with
    | true =>
      go_enter Tryz.func48, Tryz.ntmps48
      go_wp2_with fail
      go_ret
      exact ⟨[45, 48], rfl, HX.out, by decide, Below.refl _ _⟩
    | false =>
      go_enter Tryz.func48, Tryz.ntmps48
      go_wp2_with fail
      go_ret
      exact ⟨[48], rfl, HX.out, by decide, Below.refl _ _⟩
  · by_cases hn : ∃ s t, Ieee.double.read x = .nan s t
    · have h1 : (FloatKind.f64.format.order x x != some .eq) = true := by
        obtain ⟨s, t, h⟩ := hn
        have : FloatKind.f64.format.order x x = none := order_nan_left h
        rw [this]; rfl
      have HX : Hid (Txt x [110, 97, 110]) := Or.inl ⟨hn, rfl⟩
      clear hz hn
      go_enter Tryz.func48, Tryz.ntmps48
      go_wp2_with fail
      go_ret
      exact ⟨[110, 97, 110], rfl, HX.out, by decide, Below.refl _ _⟩
    · have hc : ∃ s, Ieee.double.read x = .infinity s ∨ ∃ m k, Num x s m k ∧ m ≠ 0 := by
        rcases read_cases x with ⟨s, m, k, h⟩ | ⟨s, h⟩ | h
        · refine ⟨s, Or.inr ⟨m, k, h, ?_⟩⟩
          intro h0
          subst h0
          exact hz ⟨s, k, h⟩
        · exact ⟨s, Or.inl h⟩
        · exact absurd h hn
      clear hz hn
      obtain ⟨s, h⟩ := hc
      have h1 : (FloatKind.f64.format.order x x != some .eq) = false := by
        rcases h with h | ⟨m, k, h, h0⟩
        · rw [inf_self h]; rfl
        · rw [h.self]; rfl
      have h2 : (FloatKind.f64.format.order x 0 == some .eq) = false := by
        rcases h with h | ⟨m, k, h, h0⟩
        · rw [inf_zero h]; cases s <;> rfl
        · rw [h.zero, if_neg h0]; cases s <;> rfl
      cases s with
      | false =>
        have h3 : (FloatKind.f64.format.order x 0 == some .lt) = false := by
          rcases h with h | ⟨m, k, h, h0⟩
          · rw [inf_zero h]; rfl
          · rw [h.zero, if_neg h0]; rfl
        have H : Hid (Ieee.double.read x = .infinity false ∨ ∃ m k, Num x false m k ∧ m ≠ 0) := h
        clear h
        go_enter Tryz.func48, Tryz.ntmps48
        go_wp2_with fail
        refine (plainX_any x w H.out).mono ?_
        rintro e w1 ⟨l, rfl, hx, hl, hb⟩
        have B : Hid (Below w.heap.size w w1) := hb
        have HX : Hid (Txt x l) := hx
        clear hb hx
        go_wp2_with fail
        go_ret
        exact ⟨l, rfl, HX.out, by omega, B.out⟩
      | true =>
        have h3 : (FloatKind.f64.format.order x 0 == some .lt) = true := by
          rcases h with h | ⟨m, k, h, h0⟩
          · rw [inf_zero h]; rfl
          · rw [h.zero, if_neg h0]; rfl
        have H : Hid (Ieee.double.read (Op.negFloat .f64 x) = .infinity false ∨ ∃ m k, Num (Op.negFloat .f64 x) false m k ∧ m ≠ 0) := by
          rcases h with h | ⟨m, k, h, h0⟩
          · exact Or.inl (by rw [read_neg, h]; rfl)
          · exact Or.inr ⟨m, k, h.neg, h0⟩
        have H2 : Hid (Ieee.double.read x = .infinity true ∨ ∃ m k, Num x true m k ∧ m ≠ 0) := h
        clear h
        go_enter Tryz.func48, Tryz.ntmps48
        go_wp2_with fail
        refine (plainX_any (Op.negFloat .f64 x) w H.out).mono ?_
        rintro e w1 ⟨l, rfl, hx, hl, hb⟩
        have B : Hid (Below w.heap.size w w1) := hb
        have HX : Hid (Txt x (45 :: l)) := txt_minus H2.out hx
        clear hb hx H2
        go_wp2_with fail
        go_ret
        refine ⟨45 :: l, ret_strR ?_, HX.out, by simp; omega, B.out⟩
        rw [show (⟨#[45]⟩ : ByteArray) = ⟨([45] : List UInt8).toArray⟩ from rfl, str_cat]
        rfl

end Go.Proofs.YtdhoimjkgicneaaGreatDoor

/- The specification's text of a memory. -/
namespace Go.Proofs.YtdhoimjkgicneaaGreatDoor
open Go Go.RowKit

theorem add_ba (a b : ByteArray) (w : World) (h : a.size + b.size ≤ 1000000) : (binOp .add 9 (.string a) (.string b)).run Tryz.prog w = .ok (.string (a ++ b)) w := by
  simp [go_sem]
  omega

section
variable {ops : Array Oper} {Q : Exit → Act → World → Prop} {md : Region.Mode} {S : World → Prop} {fuel : Nat} {ls : Array Bool} {a : Act} {w : World}
theorem held_add {i : Nat} {o : Oper} {p q : Operand} {x y : ByteArray} (hi : ops[i]? = some o) (ho : o.op = .binOp .add 9 p q 9) (hx : a.eval p = .string x) (hy : a.eval q = .string y) (hs : Region.noSelect ops = true) (hf : Region.free md ops ls i = true) (hr : (Region.ready md ops ls).contains i = true)
    (hg : Region.wanted o (yielded ops a.tmps) = true) (hQ : ∀ c a w, Q (.panic c) (a.put o.dst (.string (x ++ y))) w → Q (.panic c) a w) (hl : x.size + y.size ≤ 1000000) (hS : S w)
    (h : wpAnyH Tryz.prog md ops Q S fuel (ls.setIfInBounds i true) (a.put o.dst (.string (x ++ y))) w) : wpAnyH Tryz.prog md ops Q S (fuel + 1) ls a w := by
  refine held_any hi hs hf hr hg hQ (fun w _ => ?_) hS h
  have e : (eqGuard .add 9 p q (.string x) (.string y)).run Tryz.prog w = .ok () w := rfl
  simp only [execOp, ho, hx, hy, Sem.run_bind, e, add_ba x y w hl, Result.andThen, Sem.run_pure]
end

theorem ba_of (l : List UInt8) : ∃ b : ByteArray, b = ⟨l.toArray⟩ ∧ b.size = l.length := ⟨_, rfl, by simp [ByteArray.size]⟩

/-- What stands while the text is written. -/
def SX (v : MemV) (w : World) (s : Value) (L : List Wd) (wr : World) : Prop := s = .string ⟨(spL L).toArray⟩ ∧ MemAt w.heap.size v wr ∧ Below w.heap.size w wr
theorem SX.below {v : MemV} {w wr wr' : World} {s : Value} {L : List Wd} (h : SX v w s L wr) (b : Below wr.heap.size wr wr') : SX v w s L wr' :=
  ⟨h.1, h.2.1.below b h.2.1.z, h.2.2.trans (b.mono h.2.2.size)⟩
theorem SX.more {v : MemV} {w wr : World} {L : List Wd} {x : Wd} {so tw : ByteArray} {wr' : World} (h : SX v w (.string so) L wr) (b : Below wr.heap.size wr wr') (e : tw = ⟨(x.text ++ [32]).toArray⟩) : SX v w (.string (so ++ tw)) (L ++ [x]) wr' := by
  have h' := h.below b
  refine ⟨?_, h'.2.1, h'.2.2⟩
  have e1 : so = ⟨(spL L).toArray⟩ := by injection h.1
  rw [e, e1, str_cat, spL_append, spL_one]

theorem pre_len {v : MemV} {tx : Nat → List UInt8} (hv : v.Ok) (hl : ∀ i, i < 16 → (tx i).length ≤ 50) {L M : List Wd} (h : L ++ M = allW v tx) : (spL L).length ≤ 2400 := by
  have := all_len hv hl
  rw [← h, spL_append, List.length_append] at this
  omega

theorem timer_text (n c : Nat) (d : Bool) : (⟨7, n, c, d, false, 0, []⟩ : Wd).text = letterL 7 ++ (Lib.decDigits n ++ 61 :: countL c d false) := rfl
theorem counter_text (n c : Nat) (d l : Bool) : (⟨8, n, c, d, l, 0, []⟩ : Wd).text = letterL 8 ++ (Lib.decDigits n ++ 61 :: countL c d l) := rfl
theorem int_text (n : Nat) (z : Int) : (⟨9, n, 0, false, false, z, []⟩ : Wd).text = letterL 9 ++ (Lib.decDigits n ++ 61 :: Lib.itoa z) := rfl
theorem real_text (n : Nat) (t : List UInt8) : (⟨10, n, 0, false, false, 0, t⟩ : Wd).text = letterL 10 ++ (Lib.decDigits n ++ 61 :: t) := rfl

/-- The specification's device with a tail, as bytes. -/
theorem dev_ba (kd i : Nat) (tl : List UInt8) (x : Wd) (ta : ByteArray) (hi : i ≤ 100) (ht : tl.length ≤ 100) (hta : ta = ⟨tl.toArray⟩) (hx : x.text = letterL kd ++ (Lib.decDigits i ++ tl)) :
    ∃ tw : ByteArray, tw = ⟨(x.text ++ [32]).toArray⟩ ∧ tw.size ≤ 200 ∧ ∀ w, Calls Tryz.prog 50 #[.int .i64 kd, .int .i64 i, .string ta] w fun e w' => e = .returned (.string tw) ∧ Below w.heap.size w w' := by
  refine ⟨_, rfl, ?_, fun w => ?_⟩
  · have l1 := letterL_len (kd : Int)
    have l2 := dd_len 2 i (by omega)
    rw [hx]
    simp [ByteArray.size]
    omega
  · have := spec_dev kd i tl w hi (by omega)
    rw [hta, hx]
    simpa using this

theorem dec_ba (c : Nat) (hc : c < 4294967296) : ∃ de : ByteArray, de = ⟨(Lib.decDigits c).toArray⟩ ∧ de.size ≤ 10 ∧ ∀ w, Calls Tryz.prog 51 #[.int .i64 c] w fun e w' => e = .returned (.string de) ∧ Below w.heap.size w w' :=
  ⟨_, rfl, by have := dd_len10 hc; simpa [ByteArray.size] using this, fun w => spec_dec1 c w (by omega)⟩
theorem mark_ba (b : Bool) (s : ByteArray) : ∃ mk : ByteArray, mk = (if b then s else ⟨#[]⟩) ∧ mk.size ≤ s.size ∧ ∀ w, Calls Tryz.prog 52 #[.bool b, .string s] w fun e w' => e = .returned (.string mk) ∧ Below w.heap.size w w' :=
  ⟨_, rfl, by cases b; exact Nat.zero_le _; exact Nat.le_refl _, fun w => (spec_mark b s w).mono fun _ _ ⟨h1, h2⟩ => ⟨h1, by rw [h2]; exact Below.refl _ _⟩⟩

theorem count_ba (c : Nat) (d : Bool) (de mk : ByteArray) (h1 : de = ⟨(Lib.decDigits c).toArray⟩) (h2 : mk = (if d then ⟨#[33]⟩ else ⟨#[]⟩)) : (⟨#[61]⟩ : ByteArray) ++ de ++ mk = ⟨(61 :: countL c d false).toArray⟩ := by
  have e : mk = ⟨(markL d 33).toArray⟩ := by rw [h2]; cases d <;> rfl
  rw [h1, e, show (⟨#[61]⟩ : ByteArray) = ⟨([61] : List UInt8).toArray⟩ from rfl, str_cat, str_cat]
  simp [countL, markL]
theorem count_ba2 (c : Nat) (d l : Bool) (de mk ml : ByteArray) (h1 : de = ⟨(Lib.decDigits c).toArray⟩) (h2 : mk = (if d then ⟨#[33]⟩ else ⟨#[]⟩)) (h3 : ml = (if l then ⟨#[43]⟩ else ⟨#[]⟩)) : (⟨#[61]⟩ : ByteArray) ++ de ++ mk ++ ml = ⟨(61 :: countL c d l).toArray⟩ := by
  have e : mk = ⟨(markL d 33).toArray⟩ := by rw [h2]; cases d <;> rfl
  have e2 : ml = ⟨(markL l 43).toArray⟩ := by rw [h3]; cases l <;> rfl
  rw [h1, e, e2, show (⟨#[61]⟩ : ByteArray) = ⟨([61] : List UInt8).toArray⟩ from rfl, str_cat, str_cat, str_cat]
  simp [countL]

theorem wrapM {C : Nat} (h : C < 4294967296) : IntKind.i64.wrap (C : Int) = (C : Int) := by
  simp [IntKind.wrap, IntKind.signed, IntKind.bits]
  omega

theorem load_u16M {a : Addr} {v : Value} {w : World} (h : w.cell? a = some v) : (Instr.loadAt 25 (.pointer (some a))).run Tryz.prog w = .ok v w := by simp [go_sem, h]
theorem load_boolM {a : Addr} {v : Value} {w : World} (h : w.cell? a = some v) : (Instr.loadAt 4 (.pointer (some a))).run Tryz.prog w = .ok v w := by simp [go_sem, h]
theorem load_u32M {a : Addr} {v : Value} {w : World} (h : w.cell? a = some v) : (Instr.loadAt 23 (.pointer (some a))).run Tryz.prog w = .ok v w := by simp [go_sem, h]

theorem pre_timer (v : MemV) (tx : Nat → List UInt8) {i : Nat} (hi : i ≤ 16) : ∃ M, (bitsW v ++ timerP v i) ++ M = allW v tx := by
  obtain ⟨M, hM⟩ : ∃ M, timerP v 16 = timerP v i ++ M := seg_leN i 16 _ _ hi
  exact ⟨M ++ (counterW v ++ (intW v ++ (realW tx ++ (timeW v ++ (ranW v ++ faultW v))))), by unfold allW; rw [← timerP_all, hM]; simp⟩
theorem pre_counter (v : MemV) (tx : Nat → List UInt8) {i : Nat} (hi : i ≤ 16) : ∃ M, (bitsW v ++ timerW v ++ counterP v i) ++ M = allW v tx := by
  obtain ⟨M, hM⟩ : ∃ M, counterP v 16 = counterP v i ++ M := seg_leN i 16 _ _ hi
  exact ⟨M ++ (intW v ++ (realW tx ++ (timeW v ++ (ranW v ++ faultW v)))), by unfold allW; rw [← counterP_all, hM]; simp⟩
theorem pre_int (v : MemV) (tx : Nat → List UInt8) {i : Nat} (hi : i ≤ 32) : ∃ M, (bitsW v ++ timerW v ++ counterW v ++ intP v i) ++ M = allW v tx := by
  obtain ⟨M, hM⟩ : ∃ M, intP v 32 = intP v i ++ M := seg_leN i 32 _ _ hi
  exact ⟨M ++ (realW tx ++ (timeW v ++ (ranW v ++ faultW v))), by unfold allW; rw [← intP_all, hM]; simp⟩
theorem pre_real (v : MemV) (tx : Nat → List UInt8) {i : Nat} (hi : i ≤ 16) : ∃ M, (bitsW v ++ timerW v ++ counterW v ++ intW v ++ realP tx i) ++ M = allW v tx := by
  obtain ⟨M, hM⟩ : ∃ M, realP tx 16 = realP tx i ++ M := seg_leN i 16 _ _ hi
  exact ⟨M ++ (timeW v ++ (ranW v ++ faultW v)), by unfold allW; rw [← realP_all, hM]; simp⟩

theorem time_ba (v : MemV) (tb : Bool) (de m1 : ByteArray) (hb : tb = decide (0 < v.time)) (hde : de = ⟨(Lib.decDigits v.time).toArray⟩) (h : m1 = (if tb then (⟨#[116, 105, 109, 101, 61]⟩ : ByteArray) ++ de ++ ⟨#[32]⟩ else ⟨#[]⟩)) : m1 = ⟨(spL (timeW v)).toArray⟩ := by
  rw [h, hb, hde]
  by_cases h0 : v.time = 0
  · have e : timeW v = [] := by unfold timeW; rw [h0]; rfl
    rw [e, h0]
    rfl
  · have e : timeW v = [⟨11, 0, v.time, false, false, 0, []⟩] := by unfold timeW; rw [if_pos (by simpa using h0)]
    have h1 : decide (0 < v.time) = true := by simp; omega
    rw [e, h1, spL_one, if_pos rfl, show (⟨#[116, 105, 109, 101, 61]⟩ : ByteArray) = ⟨([116, 105, 109, 101, 61] : List UInt8).toArray⟩ from rfl, show (⟨#[32]⟩ : ByteArray) = ⟨([32] : List UInt8).toArray⟩ from rfl, str_cat, str_cat]
    rfl
theorem ran_ba (v : MemV) (m2 : ByteArray) (h : m2 = (if v.ran then ⟨#[114, 97, 110, 32]⟩ else ⟨#[]⟩)) : m2 = ⟨(spL (ranW v)).toArray⟩ := by
  rw [h]
  unfold ranW
  cases v.ran <;> rfl
theorem fault_ba (v : MemV) (m3 : ByteArray) (h : m3 = (if v.fault then ⟨#[102, 97, 117, 108, 116, 32]⟩ else ⟨#[]⟩)) : m3 = ⟨(spL (faultW v)).toArray⟩ := by
  rw [h]
  unfold faultW
  cases v.fault <;> rfl
theorem fin_ba (v : MemV) (tx : Nat → List UInt8) (so m1 m2 m3 : ByteArray) (h0 : so = ⟨(spL (bitsW v ++ timerW v ++ counterW v ++ intW v ++ realW tx)).toArray⟩) (h1 : m1 = ⟨(spL (timeW v)).toArray⟩) (h2 : m2 = ⟨(spL (ranW v)).toArray⟩) (h3 : m3 = ⟨(spL (faultW v)).toArray⟩) : so ++ m1 ++ m2 ++ m3 = ⟨(spL (allW v tx)).toArray⟩ := by
  rw [h0, h1, h2, h3, str_cat, str_cat, str_cat]
  unfold allW
  simp [spL_append]

end Go.Proofs.YtdhoimjkgicneaaGreatDoor
