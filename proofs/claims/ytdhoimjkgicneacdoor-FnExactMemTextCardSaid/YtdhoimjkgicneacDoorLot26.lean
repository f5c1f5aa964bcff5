/- Texts of this proof laid together: MxB, TxtX. -/
import Derived.Test.YtdhoimjkgicneacDoorLot12
import Derived.Test.YtdhoimjkgicneacDoorLot9
import Derived.Test.YtdhoimjkgicneacDoorLot10
import Derived.Deep.Cut
import Derived.Test.YtdhoimjkgicneacDoorLot21
import Derived.Test.YtdhoimjkgicneacDoorLot22
import Derived.WalkSpells
import Derived.WalkLawsBesides
/- The specification's words of a memory: a device, a mark, the bits of a kind. -/
namespace Go.Proofs.YtdhoimjkgicneacDoor
open Go Go.RowKit

theorem cat3 (a b c d : List UInt8) : (⟨a.toArray⟩ : ByteArray) ++ ⟨b.toArray⟩ ++ ⟨c.toArray⟩ ++ ⟨d.toArray⟩ = ⟨(a ++ (b ++ (c ++ d))).toArray⟩ := by
  rw [str_cat, str_cat, str_cat]
  simp

set_option maxHeartbeats 800000 in
theorem spec_dev (kd k : Nat) (tl : List UInt8) (w : World) (hk : k ≤ 100) (ht : tl.length ≤ 1000) :
    Calls Tryd.prog 29 #[.int .i64 kd, .int .i64 k, .string ⟨tl.toArray⟩] w fun e w' => e = .returned (.string ⟨(letterL kd ++ (Lib.decDigits k ++ (tl ++ [32]))).toArray⟩) ∧ Below w.heap.size w w' := by
  have l1 := letterL_len (kd : Int)
  have l2 := dd_len 2 k (by omega)
  have CD := fun w => spec_dec1 k w (by omega)
  have CL := fun w => spec_letter (kd : Int) w
  go_enter Tryd.func29, Tryd.ntmps29
  go_wp2_with fail
  refine (CL _).mono ?_
  rintro e w1 ⟨rfl, rfl⟩
  go_wp2_with fail
  refine (CD _).mono ?_
  rintro e w2 ⟨rfl, b2⟩
  have H2 : Hid (Below w1.heap.size w1 w2) := b2
  clear b2 CD CL
  go_wp2_with fail
  go_ret
  exact ⟨ret_str (cat3 _ _ _ [32]), H2.out⟩

theorem spec_mark (b : Bool) (s : ByteArray) (w : World) :
    Calls Tryd.prog 31 #[.bool b, .string s] w fun e w' => e = .returned (.string (if b then s else ⟨#[]⟩)) ∧ w' = w := by
  cases b with
  | true =>
    go_enter Tryd.func31, Tryd.ntmps31
    go_wp2_with fail
    go_ret
    exact ⟨rfl, rfl⟩
  | false =>
    go_enter Tryd.func31, Tryd.ntmps31
    go_wp2_with fail
    go_ret
    exact ⟨rfl, rfl⟩

theorem bitP_len (v : MemV) {k n : Nat} (hk : k ≤ 5) (hn : n ≤ 64) : (spL (bitP v k n)).length ≤ 400 := by
  have h : (spL (bitP v k n)).length ≤ n * (3 + 1) := seg_len (b := 3) fun i hi => by
    have l1 := letterL_len ((k : Nat) : Int)
    have l2 := dd_len2 (n := i) (by omega)
    simp only [Wd.text, Wd.tail, if_neg (show ¬ k = 11 by omega), if_neg (show ¬ k = 12 by omega), if_neg (show ¬ k = 13 by omega), if_pos hk]
    simp
    omega
  omega

theorem bit_word (k n : Nat) (h1 : 1 ≤ k) (h2 : k ≤ 5) : (⟨k, n, 0, false, false, 0, []⟩ : Wd).text = letterL k ++ (Lib.decDigits n ++ []) := by
  unfold Wd.text Wd.tail
  simp only
  rw [if_neg (by omega), if_neg (by omega), if_neg (by omega), if_pos h2]

set_option maxRecDepth 100000 in
set_option maxHeartbeats 1600000 in
theorem spec_bits (v : MemV) (kd : Nat) (w : World) (h1 : 1 ≤ kd) (h2 : kd ≤ 5) (hv : v.Ok) :
    Calls Tryd.prog 28 #[.agg v.row, .int .i64 kd] w fun e w' => e = .returned (.string ⟨(spL (bitW v kd)).toArray⟩) ∧ Below w.heap.size w w' := by
  obtain ⟨hs, hs1, hs2⟩ := size_kind h1 h2
  have HE : Hid (bitP v kd (szN kd) = bitW v kd) := bitP_all v kd
  obtain ⟨N, hN⟩ : ∃ N, N = szN kd := ⟨_, rfl⟩
  have CZ : ∀ w, Calls Tryd.prog 38 #[.int .i64 kd] w fun e w' => e = .returned (.int .i64 (N : Int)) ∧ w' = w := fun w => by
    have := spec_size (kd : Int) w
    rw [hs, ← hN] at this
    exact this
  have CB : ∀ (i : Nat) w, i < N → Calls Tryd.prog 51 #[.agg v.row, .agg #[.int .i64 kd, .int .i64 i, .int .i64 0]] w fun e w' => e = .returned (.bool ((wdN v kd).testBit i)) ∧ Below w.heap.size w w' := fun i w hi => by
    have := spec_membit v kd i 0 w hv
    rw [mbit_kind v h1 h2 (by omega)] at this
    exact this
  have CD : ∀ (i : Nat) w, i < N → Calls Tryd.prog 29 #[.int .i64 kd, .int .i64 i, .string ⟨#[]⟩] w fun e w' => e = .returned (.string ⟨(letterL kd ++ (Lib.decDigits i ++ ([] ++ [32]))).toArray⟩) ∧ Below w.heap.size w w' := fun i w hi => spec_dev kd i [] w (by omega) (by simp)
  rw [← hN] at hs1 hs2 HE
  have M0 : MemAt w.heap.size v (w.alloc (.cells v.row 45)) := MemAt.alloc v w 45
  have B0 : Below w.heap.size w (w.alloc (.cells v.row 45)) := (Below.refl _ _).alloc (Nat.le_refl _) _
  have HI : Hid (MemAt w.heap.size v (w.alloc (.cells v.row 45)) ∧ Below w.heap.size w (w.alloc (.cells v.row 45))) := ⟨M0, B0⟩
  have HX : Hid (1 ≤ kd ∧ kd ≤ 5) := ⟨h1, h2⟩
  clear hs hN M0 B0 hv h1 h2
  go_enter Tryd.func28, Tryd.ntmps28
  go_upto_region 1 with fail
  generalize w.alloc (.cells v.row 45) = w1 at HI ⊢
  go_wp2_with fail
  go_loopw [5, 6] (fun s iv wr => ∃ i : Nat, i ≤ N ∧ iv = .int .i64 i ∧ s = .string ⟨(spL (bitP v kd i)).toArray⟩ ∧ MemAt w.heap.size v wr ∧ Below w.heap.size w wr) (fun _ iv _ => N - (intOf iv).toNat)
  case atStart => exact ⟨0, by omega, rfl, rfl, HI.out.1, HI.out.2⟩
  case round =>
    clear HI
    obtain ⟨i, hi, rfl, rfl, hM, hB⟩ := hrel
    have HR : Hid (MemAt w.heap.size v wr ∧ Below w.heap.size w wr) := ⟨hM, hB⟩
    have LM := load_mem hM
    have hlen := bitP_len v (k := kd) (n := i) HX.out.2 (by omega)
    clear hM hB
    go_wp2_with fail
    refine (CZ wr).mono ?_
    rintro e w2 ⟨rfl, rfl⟩
    by_cases hin : i < N
    · have hin' : (i : Int) < (N : Int) := by omega
      have CB' := CB i w2 hin
      cases hb : (wdN v kd).testBit i with
      | true =>
        rw [hb] at CB'
        go_wp2_with (refine list_load (t := 45) rfl rfl rfl LM ?_)
        refine CB'.mono ?_
        rintro e w3 ⟨rfl, b3⟩
        obtain ⟨tw, htw⟩ : ∃ tw, tw = letterL kd ++ (Lib.decDigits i ++ ([] ++ [32])) := ⟨_, rfl⟩
        have CD' := CD i w3 hin
        rw [← htw] at CD'
        have H3 : Hid (MemAt w.heap.size v w3 ∧ Below w.heap.size w w3) := ⟨HR.out.1.below b3 HR.out.1.z, HR.out.2.trans (b3.mono HR.out.2.size)⟩
        have HW : Hid (spL (bitP v kd (i + 1)) = spL (bitP v kd i) ++ tw) := (show spL (bitP v kd (i + 1)) = spL (bitP v kd i) ++ tw by
          unfold bitP
          rw [seg_yes hb, spL_append, spL_one, bit_word kd i HX.out.1 HX.out.2, htw]
          simp)
        have l1 : tw.length ≤ 10 := by
          have l1 := letterL_len (kd : Int)
          have l2 := dd_len 2 i (by omega)
          rw [htw]
          simp
          omega
        clear b3 CB' LM HR hb htw
        go_wp2_with fail
        refine CD'.mono ?_
        rintro e w4 ⟨rfl, b4⟩
        have H4 : Hid (MemAt w.heap.size v w4 ∧ Below w.heap.size w w4) := ⟨H3.out.1.below b4 H3.out.1.z, H3.out.2.trans (b4.mono H3.out.2.size)⟩
        clear b4 H3 CD'
        go_wp2_with fail
        go_roundw
        case rel => exact ⟨i + 1, by omega, by go_num, by rw [HW.out, str_cat], H4.out.1, H4.out.2⟩
        case measure => simp [intOf]; omega
      | false =>
        rw [hb] at CB'
        go_wp2_with (refine list_load (t := 45) rfl rfl rfl LM ?_)
        refine CB'.mono ?_
        rintro e w3 ⟨rfl, b3⟩
        have H3 : Hid (MemAt w.heap.size v w3 ∧ Below w.heap.size w w3) := ⟨HR.out.1.below b3 HR.out.1.z, HR.out.2.trans (b3.mono HR.out.2.size)⟩
        have HW : Hid (bitP v kd (i + 1) = bitP v kd i) := seg_no hb
        clear b3 CB' LM HR hb
        go_wp2_with fail
        go_roundw
        case rel => exact ⟨i + 1, by omega, by go_num, by rw [HW.out], H3.out.1, H3.out.2⟩
        case measure => simp [intOf]; omega
    · obtain rfl : i = N := by omega
      go_wp2_with fail
      go_ret
      exact ⟨by rw [HE.out]; rfl, HR.out.2⟩

end Go.Proofs.YtdhoimjkgicneacDoor

/- The specification's text of a real number: it is the text. -/
namespace Go.Proofs.YtdhoimjkgicneacDoor
open Go Go.RowKit

/-- The text of a number, a short one. -/
def Wrote4 (x : Nat) (w : World) (e : Ending) (w' : World) : Prop := ∃ l : List UInt8, e = .returned (.string ⟨l.toArray⟩) ∧ Txt x l ∧ l.length ≤ 40 ∧ Below w.heap.size w w'

set_option maxHeartbeats 1000000 in
theorem specX_plain (g0 m0 k0 : Nat) (w : World) (h : Num g0 false m0 k0) (h0 : m0 ≠ 0) :
    Calls Tryd.prog 53 #[.float .f64 g0] w (Wrote4 g0 w) := by
  have hV := h.lt98
  obtain ⟨V, hVe⟩ : ∃ V, V = m0 * 2 ^ k0 := ⟨_, rfl⟩
  rw [← hVe] at hV
  have hmx := h.max
  have HV : Hid (V < 2 ^ u98) := hV
  have HE : Hid (V = m0 * 2 ^ k0) := hVe
  clear hV hVe
  have HN : Hid (Num g0 false m0 k0 ∧ m0 ≠ 0) := ⟨h, h0⟩
  go_enter Tryd.func53, Tryd.ntmps53
  go_wp2_with fail
  go_loop [0, 3] (fun x e => ∃ g m k j : Nat, x = .float .f64 g ∧ e = .int .i64 j ∧ Num g false m k ∧ m ≠ 0 ∧ m * 2 ^ k * 2 ^ j = V ∧ j ≤ 971) (fun _ e => 1000 - (intOf e).toNat)
  case atStart => exact ⟨g0, m0, k0, 0, rfl, rfl, h, h0, by rw [HE.out]; simp, by omega⟩
  case round =>
    obtain ⟨g, m, k, j, rfl, rfl, hn, hm, hj, hj9⟩ := hrel
    have ge := ge53 hn
    by_cases hb : 9007199254740992 * 2 ^ u74 ≤ m * 2 ^ k
    · obtain ⟨r, m', k', r1, r2, r3, r4⟩ := half_step hn hm hb
      have hjb := half_bound hj HV.out hb
      rw [show decide (9007199254740992 * 2 ^ u74 ≤ m * 2 ^ k) = true from by simpa using hb] at ge
      have q : ∀ t w, (binOp .quo t (.float .f64 g) (.float .f64 4611686018427387904)).run Tryd.prog w = .ok (.float .f64 r) w := fun t w => run_float_arith w .quo t .f64 _ _ _ r1
      have R2 : Hid (Num r false m' k' ∧ m' ≠ 0 ∧ m' * 2 ^ k' * 2 ^ (j + 1) = V) := ⟨r2, r3, half_eq r4 hj⟩
      clear r1 r2 r3 r4 hn hm hj hb h h0
      go_wp2
      go_round
      case rel => exact ⟨r, m', k', j + 1, rfl, by go_num, R2.out.1, R2.out.2.1, R2.out.2.2, by omega⟩
      case measure => simp [intOf]; omega
    · rw [show decide (9007199254740992 * 2 ^ u74 ≤ m * 2 ^ k) = false from by simpa using Nat.lt_of_not_le hb] at ge
      have LT : Hid (m * 2 ^ k < 9007199254740992 * 2 ^ u74) := Nat.lt_of_not_le hb
      obtain ⟨W1, hW⟩ : ∃ W, W = m * 2 ^ k := ⟨_, rfl⟩
      have hW0 : W1 ≠ 0 := by rw [hW]; exact Nat.mul_ne_zero hm (Nat.ne_of_gt (Nat.two_pow_pos _))
      rw [← hW] at hj LT
      have N1 : Hid (Num g false m k ∧ m ≠ 0 ∧ m * 2 ^ k = W1) := ⟨hn, hm, hW.symm⟩
      have J1 : Hid (W1 * 2 ^ j = V) := hj
      have Z1 : Hid (W1 ≠ 0) := hW0
      clear hn hm hj hW hW0 hb h h0
      go_wp2
      clear ge
      go_loop [0, 3] (fun x e => ∃ g m k i : Nat, x = .float .f64 g ∧ e = .int .i64 ((j : Int) - i) ∧ Num g false m k ∧ m ≠ 0 ∧ m * 2 ^ k = W1 * 2 ^ i ∧ m * 2 ^ k < 9007199254740992 * 2 ^ u74 ∧ i ≤ 1127) (fun _ e => (intOf e + 3000).toNat)
      case atStart => exact ⟨g, m, k, 0, rfl, by simp, N1.out.1, N1.out.2.1, by rw [N1.out.2.2]; simp, by rw [N1.out.2.2]; exact LT.out, by omega⟩
      case round =>
        obtain ⟨g, m, k, i, rfl, rfl, hn, hm, hi, hlt, hi9⟩ := hrel
        have lt := lt52 hn
        by_cases hb : m * 2 ^ k < 4503599627370496 * 2 ^ u74
        · obtain ⟨r, m', k', r1, r2, r3, r4⟩ := dbl_step hn hm hb
          rw [show decide (m * 2 ^ k < 4503599627370496 * 2 ^ u74) = true from by simpa using hb] at lt
          have hlt2 : m' * 2 ^ k' < 9007199254740992 * 2 ^ u74 := by rw [r4]; omega
          have hi2 := dbl_bound (dbl_eq r4 hi) Z1.out hlt2
          have q : ∀ t w, (binOp .mul t (.float .f64 g) (.float .f64 4611686018427387904)).run Tryd.prog w = .ok (.float .f64 r) w := fun t w => run_float_arith w .mul t .f64 _ _ _ r1
          have R2 : Hid (Num r false m' k' ∧ m' ≠ 0 ∧ m' * 2 ^ k' = W1 * 2 ^ (i + 1) ∧ m' * 2 ^ k' < 9007199254740992 * 2 ^ u74) := ⟨r2, r3, dbl_eq r4 hi, hlt2⟩
          clear r1 r2 r3 r4 hn hm hi hb hlt hlt2
          go_wp2
          go_round
          case rel => exact ⟨r, m', k', i + 1, rfl, by go_num, R2.out.1, R2.out.2.1, R2.out.2.2.1, R2.out.2.2.2, by omega⟩
          case measure => simp [intOf]; omega
        · rw [show decide (m * 2 ^ k < 4503599627370496 * 2 ^ u74) = false from by simpa using Nat.le_of_not_lt hb] at lt
          obtain ⟨v1, v2, v3⟩ := whole_step hn (Nat.le_of_not_lt hb) hlt
          have hm53 := hn.m53
          have cv : ∀ w, (convert 33 3 (.float .f64 g)).run Tryd.prog w = .ok (.int .i64 m) w := fun w => run_convert_float_int w _ _ .f64 .i64 g m (by kernel_rfl) Tryd.underlying3 v1
          have MW : Hid (m * 2 ^ u74 = W1 * 2 ^ i) := v2.symm.trans hi
          clear v1 v2 hn hm hi hb hlt
          go_wp2
          clear lt cv
          go_loop [4, 3] (fun n e => ∃ N t : Nat, n = .int .i64 N ∧ e = .int .i64 ((j : Int) - i + t) ∧ N ≠ 0 ∧ N * 2 ^ t = m ∧ t ≤ 53) (fun n _ => (intOf n).toNat)
          case atStart => exact ⟨m, 0, rfl, by simp, by omega, by simp, by omega⟩
          case round =>
            obtain ⟨N, t, rfl, rfl, hN, ht, ht9⟩ := hrel
            have hNm : N ≤ m := by rw [← ht]; exact Nat.le_mul_of_pos_right _ (Nat.two_pow_pos _)
            have ht53 := odd_bound ht hN hm53
            by_cases hev : N % 2 = 0
            · have ht2 : N / 2 * 2 ^ (t + 1) = m := half_odd hev ht
              have HT : Hid (N / 2 * 2 ^ (t + 1) = m) := ht2
              have he : ((N : Int) % 2 == 0) = true := by simp; omega
              clear ht ht2 HV HE N1 LT J1 Z1 MW HN
              go_wp2
              go_round
              case rel => exact ⟨N / 2, t + 1, by go_num, by go_num, by omega, HT.out, by omega⟩
              case measure => simp [intOf]; omega
            · have he : ((N : Int) % 2 == 0) = false := by simp; omega
              obtain ⟨c, hc1, hc2⟩ := parts_end J1.out MW.out ht (show N % 2 = 1 by omega)
              have HC : Hid (V = N * 2 ^ c ∧ (c : Int) - 1074 = (j : Int) - i + t) := ⟨hc1, hc2⟩
              clear ht hc1 hc2
              have HX : Hid (Txt g0 (finL false N c)) := Or.inr (Or.inr (Or.inr ⟨false, m0, k0, N, c, HN.out.1, HN.out.2, by omega, HE.out.symm.trans HC.out.1, rfl⟩))
              have hcb := c_bound HC.out.1 HV.out (show N % 2 = 1 by omega)
              clear HV
              have hc3 : (j : Int) - i + t = (c : Int) - 1074 := HC.out.2.symm
              have hl1 := dd_len 15 N (by omega)
              have hl2 := itoa_len5 (n := (c : Int) - 1074) (by omega) (by omega)
              go_wp2_with fail
              refine (spec_dec N _ (by omega) (by omega)).mono ?_
              rintro e w1 ⟨rfl, hb1⟩
              rw [itoa_nat]
              have B1 : Hid (Below w.heap.size w w1) := hb1
              clear hb1
              go_wp2_with fail
              refine (spec_dec ((c : Int) - 1074) w1 (by omega) (by omega)).mono ?_
              rintro e w2 ⟨rfl, hb2⟩
              have B2 : Hid (Below w.heap.size w w2) := B1.out.trans (hb2.mono B1.out.size)
              clear hb2
              go_wp2_with fail
              go_ret
              refine ⟨Lib.decDigits N ++ ([42, 50, 94] ++ Lib.itoa ((c : Int) - 1074)), ret_strR ?_, HX.out, by simp; omega, B2.out⟩
              rw [show (⟨#[42, 50, 94]⟩ : ByteArray) = ⟨([42, 50, 94] : List UInt8).toArray⟩ from rfl, str_cat, str_cat]
              simp

set_option maxHeartbeats 400000 in
theorem plainX_inf (x : Nat) (w : World) (h : Ieee.double.read x = .infinity false) : Calls Tryd.prog 53 #[.float .f64 x] w (Wrote4 x w) := by
  have h3 : (FloatKind.f64.format.order x 9218868437227405311 == some .gt) = true := by rw [inf_max h]; rfl
  have HX : Hid (Txt x [105, 110, 102]) := Or.inr (Or.inl ⟨false, h, rfl⟩)
  clear h
  go_enter Tryd.func53, Tryd.ntmps53
  go_wp2_with fail
  go_ret
  exact ⟨[105, 110, 102], rfl, HX.out, by decide, Below.refl _ _⟩

theorem plainX_any (x : Nat) (w : World) (h : Ieee.double.read x = .infinity false ∨ ∃ m k, Num x false m k ∧ m ≠ 0) : Calls Tryd.prog 53 #[.float .f64 x] w (Wrote4 x w) := by
  rcases h with h | ⟨m, k, h, h0⟩
  · exact plainX_inf x w h
  · exact specX_plain x m k w h h0

set_option maxHeartbeats 400000 in
theorem specX_rtext (x : Nat) (w : World) : Calls Tryd.prog 32 #[.float .f64 x] w (Wrote x w) := by
  have ng : Op.unary .neg (.float .f64 x) = pure (.float .f64 (Op.negFloat .f64 x)) := rfl
  by_cases hz : ∃ s k, Num x s 0 k
  · obtain ⟨s, k, h⟩ := hz
    have h1 : (FloatKind.f64.format.order x x != some .eq) = false := by rw [h.self]; rfl
    have h2 : (FloatKind.f64.format.order x 0 == some .eq) = true := by rw [h.zero]; rfl
    have hd := div_one_zero h
    obtain ⟨r, hr⟩ : ∃ r, r = Ieee.double.word s 9218868437227405312 := ⟨_, rfl⟩
    rw [← hr] at hd
    have q : ∀ t w, (binOp .quo t (.float .f64 4607182418800017408) (.float .f64 x)).run Tryd.prog w = .ok (.float .f64 r) w := fun t w => run_float_arith w .quo t .f64 _ _ _ hd
    have h3' : (FloatKind.f64.format.order r 0 == some .lt) = s := by rw [inf_zero (hr ▸ word_inf s)]; cases s <;> rfl
    have HX : Hid (Txt x (sgnL s ++ [48])) := Or.inr (Or.inr (Or.inl ⟨s, k, h, rfl⟩))
    clear h hr hd
    cases s with
    | true =>
      go_enter Tryd.func32, Tryd.ntmps32
      go_wp2_with fail
      go_ret
      exact ⟨[45, 48], rfl, HX.out, by decide, Below.refl _ _⟩
    | false =>
      go_enter Tryd.func32, Tryd.ntmps32
      go_wp2_with fail
      go_ret
      exact ⟨[48], rfl, HX.out, by decide, Below.refl _ _⟩
  · by_cases hn : ∃ s t, Ieee.double.read x = .nan s t
    · have h1 : (FloatKind.f64.format.order x x != some .eq) = true := by
        obtain ⟨s, t, h⟩ := hn
        have : FloatKind.f64.format.order x x = none := order_nan_left h
        rw [this]; rfl
      have HX : Hid (Txt x [110, 97, 110]) := Or.inl ⟨hn, rfl⟩
      clear hz hn
      go_enter Tryd.func32, Tryd.ntmps32
      go_wp2_with fail
      go_ret
      exact ⟨[110, 97, 110], rfl, HX.out, by decide, Below.refl _ _⟩
    · have hc : ∃ s, Ieee.double.read x = .infinity s ∨ ∃ m k, Num x s m k ∧ m ≠ 0 := by
        rcases read_cases x with ⟨s, m, k, h⟩ | ⟨s, h⟩ | h
        · refine ⟨s, Or.inr ⟨m, k, h, ?_⟩⟩
          intro h0
          subst h0
          exact hz ⟨s, k, h⟩
        · exact ⟨s, Or.inl h⟩
        · exact absurd h hn
      clear hz hn
      obtain ⟨s, h⟩ := hc
      have h1 : (FloatKind.f64.format.order x x != some .eq) = false := by
        rcases h with h | ⟨m, k, h, h0⟩
        · rw [inf_self h]; rfl
        · rw [h.self]; rfl
      have h2 : (FloatKind.f64.format.order x 0 == some .eq) = false := by
        rcases h with h | ⟨m, k, h, h0⟩
        · rw [inf_zero h]; cases s <;> rfl
        · rw [h.zero, if_neg h0]; cases s <;> rfl
      cases s with
      | false =>
        have h3 : (FloatKind.f64.format.order x 0 == some .lt) = false := by
          rcases h with h | ⟨m, k, h, h0⟩
          · rw [inf_zero h]; rfl
          · rw [h.zero, if_neg h0]; rfl
        have H : Hid (Ieee.double.read x = .infinity false ∨ ∃ m k, Num x false m k ∧ m ≠ 0) := h
        clear h
        go_enter Tryd.func32, Tryd.ntmps32
        go_wp2_with fail
        refine (plainX_any x w H.out).mono ?_
        rintro e w1 ⟨l, rfl, hx, hl, hb⟩
        have B : Hid (Below w.heap.size w w1) := hb
        have HX : Hid (Txt x l) := hx
        clear hb hx
        go_wp2_with fail
        go_ret
        exact ⟨l, rfl, HX.out, by omega, B.out⟩
      | true =>
        have h3 : (FloatKind.f64.format.order x 0 == some .lt) = true := by
          rcases h with h | ⟨m, k, h, h0⟩
          · rw [inf_zero h]; rfl
          · rw [h.zero, if_neg h0]; rfl
        have H : Hid (Ieee.double.read (Op.negFloat .f64 x) = .infinity false ∨ ∃ m k, Num (Op.negFloat .f64 x) false m k ∧ m ≠ 0) := by
          rcases h with h | ⟨m, k, h, h0⟩
          · exact Or.inl (by rw [read_neg, h]; rfl)
          · exact Or.inr ⟨m, k, h.neg, h0⟩
        have H2 : Hid (Ieee.double.read x = .infinity true ∨ ∃ m k, Num x true m k ∧ m ≠ 0) := h
        clear h
        go_enter Tryd.func32, Tryd.ntmps32
        go_wp2_with fail
        refine (plainX_any (Op.negFloat .f64 x) w H.out).mono ?_
        rintro e w1 ⟨l, rfl, hx, hl, hb⟩
        have B : Hid (Below w.heap.size w w1) := hb
        have HX : Hid (Txt x (45 :: l)) := txt_minus H2.out hx
        clear hb hx H2
        go_wp2_with fail
        go_ret
        refine ⟨45 :: l, ret_strR ?_, HX.out, by simp; omega, B.out⟩
        rw [show (⟨#[45]⟩ : ByteArray) = ⟨([45] : List UInt8).toArray⟩ from rfl, str_cat]
        rfl

end Go.Proofs.YtdhoimjkgicneacDoor
