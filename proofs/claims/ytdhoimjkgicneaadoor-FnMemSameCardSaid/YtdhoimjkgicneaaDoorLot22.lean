/- Texts of this proof laid together: ArgC, ArgR, ReaA. -/
import Derived.Test.YtdhoimjkgicneaaDoorLot21
import Derived.Test.YtdhoimjkgicneaaDoorLot16
import Derived.Test.YtdhoimjkgicneaaDoorLot15
import Derived.Deep.RegionWith
import Derived.Test.YtdhoimjkgicneaaDoorLot8
import Derived.Test.YtdhoimjkgicneaaDoorLot20
import Derived.Test.YtdhoimjkgicneaaDoorLot13
/- The real number of an operand: the program's own, and the specification's. -/
namespace Go.Proofs.YtdhoimjkgicneaaDoor
open Go Go.RowKit

/-- The program's bits of a word. -/
def wordF (n : Int) : Nat := if n = 0 then 9221120237041090561 else if n = 1 then 9218868437227405312 else if n = 2 then 18442240474082181120 else 9223372036854775808

set_option maxHeartbeats 400000 in
theorem impl_arg_no (k n p : Int) (w : World) (T : KTab w) (h : okB k n p = false) :
    Calls Tryd.prog 34 #[.agg #[.int .i64 k, .int .i64 n, .int .i64 p]] w fun e w' => e = .returned (.float .f64 0) ∧ Below w.heap.size w w' := by
  go_enter Tryd.func34, Tryd.ntmps34
  go_wp2_with fail
  refine (okK k n p _ (T.alloc _)).mono ?_
  rintro e w1 ⟨rfl, hb⟩
  obtain ⟨e0, e1, e2, z, b⟩ := box3 hb
  have B : Hid (Below w.heap.size w w1) := b
  clear hb b T
  go_wp2
  go_ret
  exact ⟨rfl, B.out⟩

set_option maxHeartbeats 400000 in
theorem impl_arg_other (k n p : Int) (w : World) (T : KTab w) (h : okB k n p = true) (h1 : k ≠ 12) (h2 : k ≠ 13) :
    Calls Tryd.prog 34 #[.agg #[.int .i64 k, .int .i64 n, .int .i64 p]] w fun e w' => e = .returned (.float .f64 0) ∧ Below w.heap.size w w' := by
  have b1 : (k == 12) = false := by simpa using h1
  have b2 : (k == 13) = false := by simpa using h2
  clear h1 h2
  go_enter Tryd.func34, Tryd.ntmps34
  go_wp2_with fail
  refine (okK k n p _ (T.alloc _)).mono ?_
  rintro e w1 ⟨rfl, hb⟩
  obtain ⟨e0, e1, e2, z, b⟩ := box3 hb
  have B : Hid (Below w.heap.size w w1) := b
  clear hb b T
  go_wp2
  go_ret
  exact ⟨rfl, B.out⟩

set_option maxHeartbeats 400000 in
theorem impl_arg_dec (n : Int) (p r : Nat) (w : World) (T : KTab w) (h : okB 12 n p = true) (hp : p ≤ 6) (hr : floatBits .quo .f64 (floatOfInt .f64 n) (floatOfInt .f64 (tenZ p)) = some r) :
    Calls Tryd.prog 34 #[.agg #[.int .i64 12, .int .i64 n, .int .i64 p]] w fun e w' => e = .returned (.float .f64 r) ∧ Below w.heap.size w w' := by
  have R : Hid (floatBits .quo .f64 (floatOfInt .f64 n) (floatOfInt .f64 (tenZ p)) = some r) := hr
  clear hr
  go_enter Tryd.func34, Tryd.ntmps34
  go_wp2_with fail
  refine (okK 12 n p _ (T.alloc _)).mono ?_
  rintro e w1 ⟨rfl, hb⟩
  obtain ⟨e0, e1, e2, z, b⟩ := box3 hb
  have B : Hid (Below w.heap.size w w1) := b
  clear hb b T
  go_wp2_with fail
  refine (impl_real_dec n p r _ hp R.out).mono ?_
  rintro e w2 ⟨rfl, rfl⟩
  go_wp2
  go_ret
  exact ⟨rfl, B.out⟩

theorem ix0 (a b c d : Nat) (w : World) : (Instr.index 110 (.agg #[.float .f64 a, .float .f64 b, .float .f64 c, .float .f64 d]) (.int .i64 0)).run Tryd.prog w = .ok (.float .f64 a) w := by kernel_rfl
theorem ix1 (a b c d : Nat) (w : World) : (Instr.index 110 (.agg #[.float .f64 a, .float .f64 b, .float .f64 c, .float .f64 d]) (.int .i64 1)).run Tryd.prog w = .ok (.float .f64 b) w := by kernel_rfl
theorem ix2 (a b c d : Nat) (w : World) : (Instr.index 110 (.agg #[.float .f64 a, .float .f64 b, .float .f64 c, .float .f64 d]) (.int .i64 2)).run Tryd.prog w = .ok (.float .f64 c) w := by kernel_rfl
theorem ix3 (a b c d : Nat) (w : World) : (Instr.index 110 (.agg #[.float .f64 a, .float .f64 b, .float .f64 c, .float .f64 d]) (.int .i64 3)).run Tryd.prog w = .ok (.float .f64 d) w := by kernel_rfl

set_option maxHeartbeats 800000 in
theorem impl_arg_word (n : Int) (w : World) (T : KTab w) (h : okB 13 n 0 = true) (h1 : 0 ≤ n) (h2 : n ≤ 3) :
    Calls Tryd.prog 34 #[.agg #[.int .i64 13, .int .i64 n, .int .i64 0]] w fun e w' => e = .returned (.float .f64 (wordF n)) ∧ Below w.heap.size w w' := by
  have hc : n = 0 ∨ n = 1 ∨ n = 2 ∨ n = 3 := by omega
  clear h1 h2
  rcases hc with rfl | rfl | rfl | rfl
  all_goals
    go_enter Tryd.func34, Tryd.ntmps34
    go_wp2_with fail
    refine (okK 13 _ 0 _ (T.alloc _)).mono ?_
    rintro e w1 ⟨rfl, hb⟩
    obtain ⟨e0, e1, e2, z, b⟩ := box3 hb
    have B : Hid (Below w.heap.size w w1) := b
    clear hb b T
    go_wp2_with fail
    have i0 := ix0
    have i1 := ix1
    have i2 := ix2
    have i3 := ix3
    go_quiet ((first | (go_at_call 85; exact Calls.quiet_of_same (lib_nan _)) | (go_at_call 86; exact Calls.quiet_of_same (lib_infs _ _)) | (go_at_call 87; exact Calls.quiet_of_same (impl_mzero _))))
    go_wp2
    go_ret
    exact ⟨rfl, below_drewN B.out _⟩

end Go.Proofs.YtdhoimjkgicneaaDoor

/- The real number of any operand, as the program and as the specification have it. -/
namespace Go.Proofs.YtdhoimjkgicneaaDoor
open Go Go.RowKit Ieee

theorem nan_of {x : Nat} (h : 9218868437227405312 < x % 9223372036854775808) : ∃ s t, double.read x = .nan s t := by
  have h1 : ¬ x % 9223372036854775808 < 4503599627370496 := by omega
  have h2 : ¬ x % 9223372036854775808 < 9218868437227405312 := by omega
  have h3 : ¬ x % 9223372036854775808 = 9218868437227405312 := by omega
  exact ⟨x / 9223372036854775808 % 2 == 1, x % 9223372036854775808 - 9218868437227405312, by simp [Format.read, d_sw, d_bin, d_inf, h1, h2, h3]⟩

/-- What nought by nought gives is a nan. -/
theorem nan_got (w : World) : FloatKind.f64.format.order (fGot .quo 0 0 w) (fGot .quo 0 0 w) = none := by
  have e : fGot .quo 0 0 w = (Question.nanBits .f64 0 0).cut (w.tape w.drawn (.nanBits .f64 0 0)) := by
    unfold fGot
    rw [show floatBits .quo .f64 0 0 = none from by decide +kernel]
  obtain ⟨t, ht⟩ : ∃ t, t = w.tape w.drawn (.nanBits .f64 0 0) := ⟨_, rfl⟩
  rw [e, ← ht]
  obtain ⟨s, u, h⟩ := nan_of (x := (Question.nanBits .f64 0 0).cut t) (by
    simp only [Question.cut]
    obtain ⟨c, hc⟩ : ∃ c, t / 2 % (2 ^ 52 - 1) = c := ⟨_, rfl⟩
    have hc2 : c ≤ 4503599627370494 := by rw [← hc]; exact Nat.le_of_lt_succ (Nat.mod_lt _ (by decide))
    rw [hc]
    have h2 : t % 2 = 0 ∨ t % 2 = 1 := by omega
    rcases h2 with h2 | h2 <;> rw [h2] <;> omega)
  exact order_nan_left h

/-- Both are nan, or they are one word that is none. -/
def SameF (x y : Nat) : Prop := (FloatKind.f64.format.order x x = none ∧ FloatKind.f64.format.order y y = none) ∨ (x = y ∧ FloatKind.f64.format.order x x = some .eq)

set_option maxHeartbeats 400000 in
theorem spec_word (n : Int) (w : World) (h1 : 0 ≤ n) (h2 : n ≤ 3) :
    Calls Tryd.prog 88 #[.int .i64 n] w fun e w' => ∃ y, e = .returned (.float .f64 y) ∧ SameF (wordF n) y ∧ ∃ d, w' = w.drewN d := by
  have neg : ∀ b, Op.unary .neg (.float .f64 b) = pure (.float .f64 (Op.negFloat .f64 b)) := fun _ => rfl
  have hc : n = 0 ∨ n = 1 ∨ n = 2 ∨ n = 3 := by omega
  clear h1 h2
  rcases hc with rfl | rfl | rfl | rfl
  · go_enter Tryd.func88, Tryd.ntmps88
    go_wp2_with fail
    refine (nan_any w).mono ?_
    rintro e w1 ⟨y, rfl, hy, rfl⟩
    have HY : Hid (y = fGot .quo 0 0 w) := hy
    clear hy
    go_wp2
    go_ret
    exact ⟨y, rfl, Or.inl ⟨by decide +kernel, by rw [HY.out]; exact nan_got w⟩, 1, rfl⟩
  · go_enter Tryd.func88, Tryd.ntmps88
    go_wp2_with fail
    refine (inf_any w).mono ?_
    rintro e w1 ⟨rfl, rfl⟩
    go_wp2
    go_ret
    exact ⟨_, rfl, Or.inr ⟨by decide +kernel, by decide +kernel⟩, 0, rfl⟩
  · go_enter Tryd.func88, Tryd.ntmps88
    go_wp2_with fail
    refine (inf_any w).mono ?_
    rintro e w1 ⟨rfl, rfl⟩
    go_wp2
    go_ret
    exact ⟨_, rfl, Or.inr ⟨by decide +kernel, by decide +kernel⟩, 0, rfl⟩
  · go_enter Tryd.func88, Tryd.ntmps88
    go_wp2
    go_ret
    exact ⟨_, rfl, Or.inr ⟨by decide +kernel, by decide +kernel⟩, 0, rfl⟩

set_option maxHeartbeats 400000 in
theorem spec_arg_no (k n p : Int) (w : World) (h : okB k n p = false) :
    Calls Tryd.prog 35 #[.agg #[.int .i64 k, .int .i64 n, .int .i64 p]] w fun e w' => e = .returned (.float .f64 0) ∧ Below w.heap.size w w' := by
  go_enter Tryd.func35, Tryd.ntmps35
  go_wp2_with fail
  refine (spec_ok k n p _).mono ?_
  rintro e w1 ⟨rfl, hb⟩
  obtain ⟨e0, e1, e2, z, b⟩ := box3 hb
  have B : Hid (Below w.heap.size w w1) := b
  clear hb b
  go_wp2
  go_ret
  exact ⟨rfl, B.out⟩

set_option maxHeartbeats 400000 in
theorem spec_arg_other (k n p : Int) (w : World) (h : okB k n p = true) (h1 : k ≠ 12) (h2 : k ≠ 13) :
    Calls Tryd.prog 35 #[.agg #[.int .i64 k, .int .i64 n, .int .i64 p]] w fun e w' => e = .returned (.float .f64 0) ∧ Below w.heap.size w w' := by
  have b1 : (k == 12) = false := by simpa using h1
  have b2 : (k == 13) = false := by simpa using h2
  have b3 : (k != 12) = true := by simpa using h1
  clear h1 h2
  go_enter Tryd.func35, Tryd.ntmps35
  go_wp2_with fail
  refine (spec_ok k n p _).mono ?_
  rintro e w1 ⟨rfl, hb⟩
  obtain ⟨e0, e1, e2, z, b⟩ := box3 hb
  have B : Hid (Below w.heap.size w w1) := b
  clear hb b
  go_wp2
  go_ret
  exact ⟨rfl, B.out⟩

set_option maxHeartbeats 400000 in
theorem spec_arg_word (n : Int) (w : World) (h : okB 13 n 0 = true) (h1 : 0 ≤ n) (h2 : n ≤ 3) :
    Calls Tryd.prog 35 #[.agg #[.int .i64 13, .int .i64 n, .int .i64 0]] w fun e w' => ∃ y, e = .returned (.float .f64 y) ∧ SameF (wordF n) y ∧ Below w.heap.size w w' := by
  go_enter Tryd.func35, Tryd.ntmps35
  go_wp2_with fail
  refine (spec_ok 13 n 0 _).mono ?_
  rintro e w1 ⟨rfl, hb⟩
  obtain ⟨e0, e1, e2, z, b⟩ := box3 hb
  have B : Hid (Below w.heap.size w w1) := b
  clear hb b
  go_wp2_with fail
  refine (spec_word n _ h1 h2).mono ?_
  rintro e w2 ⟨y, rfl, hy, d, rfl⟩
  have HY : Hid (SameF (wordF n) y) := hy
  clear hy
  go_wp2
  go_ret
  exact ⟨y, rfl, HY.out, below_drewN B.out _⟩

set_option maxHeartbeats 400000 in
theorem spec_arg_dec (n : Int) (p r : Nat) (w : World) (h : okB 12 n p = true) (hp : p ≤ 6) (hr : floatBits .quo .f64 (floatOfInt .f64 n) (floatOfInt .f64 (tenZ p)) = some r) :
    Calls Tryd.prog 35 #[.agg #[.int .i64 12, .int .i64 n, .int .i64 p]] w fun e w' => e = .returned (.float .f64 r) ∧ Below w.heap.size w w' := by
  have q : ∀ t w, (binOp .quo t (.float .f64 (floatOfInt .f64 n)) (.float .f64 (floatOfInt .f64 (tenZ p)))).run Tryd.prog w = .ok (.float .f64 r) w := fun t w => run_float_arith w .quo t .f64 _ _ _ hr
  clear hr
  go_enter Tryd.func35, Tryd.ntmps35
  go_wp2_with fail
  refine (spec_ok 12 n p _).mono ?_
  rintro e w1 ⟨rfl, hb⟩
  obtain ⟨e0, e1, e2, z, b⟩ := box3 hb
  have B : Hid (Below w.heap.size w w1) := b
  clear hb b
  go_wp2
  go_loop [3, 4] (fun t i => ∃ (k : Nat) (T : Int), k ≤ p ∧ t = .int .i64 T ∧ i = .int .i64 k ∧ T = tenZ k) (fun _ i => p - (intOf i).toNat)
  case atStart => exact ⟨0, 1, by omega, rfl, rfl, by simp [tenZ]⟩
  case round =>
    obtain ⟨k, T, hk, rfl, rfl, hT⟩ := hrel
    have hb := tenZ_bd k
    rw [← hT] at hb
    obtain ⟨t1, t2⟩ := hb
    by_cases hlt : k < p
    · have HT : Hid (T = tenZ k) := hT
      clear hT
      go_wp2
      go_round
      case rel => exact ⟨k + 1, T * 10, by omega, by go_num, by go_num, by rw [HT.out, tenZ_succ (by omega)]; simp⟩
      case measure => simp [intOf]; omega
    · have e : k = p := by omega
      subst e
      subst hT
      go_wp2
      go_ret
      exact ⟨rfl, B.out⟩

/-- The program's bits of an operand. -/
def argX (k n p : Int) : Nat :=
  if okB k n p = true then (if k = 12 then (floatBits .quo .f64 (floatOfInt .f64 n) (floatOfInt .f64 (tenZ p))).getD 0 else if k = 13 then wordF n else 0) else 0

theorem argX_dec {n p : Int} (h : okB 12 n p = true) : floatBits .quo .f64 (floatOfInt .f64 n) (floatOfInt .f64 (tenZ p)) = some (argX 12 n p) ∧ FloatKind.f64.format.order (argX 12 n p) (argX 12 n p) = some .eq := by
  obtain ⟨h1, h2, h3, h4, h5⟩ := ok_dec h
  obtain ⟨r, v, q1, q2, -⟩ := dec_close n p h1 h2 h3 h4
  have e : floatBits .quo .f64 (floatOfInt .f64 n) (floatOfInt .f64 (tenZ p)) = some r := q1
  have e2 : argX 12 n p = r := by
    unfold argX
    rw [if_pos h, if_pos rfl, e]
    rfl
  rw [e2]
  exact ⟨e, ord_eq q2 q2 rfl⟩

theorem impl_arg (k n p : Int) (w : World) (T : KTab w) :
    Calls Tryd.prog 34 #[.agg #[.int .i64 k, .int .i64 n, .int .i64 p]] w fun e w' => e = .returned (.float .f64 (argX k n p)) ∧ Below w.heap.size w w' := by
  cases h : okB k n p with
  | false =>
    rw [show argX k n p = 0 from by unfold argX; rw [h]; rfl]
    exact impl_arg_no k n p w T h
  | true =>
    by_cases h1 : k = 12
    · subst h1
      obtain ⟨o1, o2, o3, o4, -⟩ := ok_dec h
      obtain ⟨j, rfl⟩ : ∃ j : Nat, p = j := ⟨p.toNat, by omega⟩
      exact impl_arg_dec n j _ w T h (by omega) (argX_dec h).1
    · by_cases h2 : k = 13
      · subst h2
        obtain ⟨o1, o2, rfl⟩ := ok_word h
        rw [show argX 13 n 0 = wordF n from by unfold argX; rw [if_pos h, if_neg h1, if_pos rfl]]
        exact impl_arg_word n w T h o1 o2
      · rw [show argX k n p = 0 from by unfold argX; rw [if_pos h, if_neg h1, if_neg h2]]
        exact impl_arg_other k n p w T h h1 h2

theorem same_zero : SameF 0 0 := Or.inr ⟨rfl, by decide +kernel⟩

theorem spec_arg (k n p : Int) (w : World) :
    Calls Tryd.prog 35 #[.agg #[.int .i64 k, .int .i64 n, .int .i64 p]] w fun e w' => ∃ y, e = .returned (.float .f64 y) ∧ SameF (argX k n p) y ∧ Below w.heap.size w w' := by
  cases h : okB k n p with
  | false =>
    rw [show argX k n p = 0 from by unfold argX; rw [h]; rfl]
    exact (spec_arg_no k n p w h).mono fun e w' ⟨a, b⟩ => ⟨0, a, same_zero, b⟩
  | true =>
    by_cases h1 : k = 12
    · subst h1
      obtain ⟨o1, o2, o3, o4, -⟩ := ok_dec h
      obtain ⟨j, rfl⟩ : ∃ j : Nat, p = j := ⟨p.toNat, by omega⟩
      exact (spec_arg_dec n j _ w h (by omega) (argX_dec h).1).mono fun e w' ⟨a, b⟩ => ⟨_, a, Or.inr ⟨rfl, (argX_dec h).2⟩, b⟩
    · by_cases h2 : k = 13
      · subst h2
        obtain ⟨o1, o2, rfl⟩ := ok_word h
        rw [show argX 13 n 0 = wordF n from by unfold argX; rw [if_pos h, if_neg h1, if_pos rfl]]
        exact spec_arg_word n w h o1 o2
      · rw [show argX k n p = 0 from by unfold argX; rw [if_pos h, if_neg h1, if_neg h2]]
        exact (spec_arg_other k n p w h h1 h2).mono fun e w' ⟨a, b⟩ => ⟨0, a, same_zero, b⟩

end Go.Proofs.YtdhoimjkgicneaaDoor

/- MemReal, of the program and of the specification. -/
namespace Go.Proofs.YtdhoimjkgicneaaDoor
open Go Go.RowKit

/-- The bits of the real number that an operand asks a memory for, as the program has them. -/
def realX (v : MemV) (k n p : Int) : Nat := if k = 10 then v.r (atZ k n).toNat else argX k n p

set_option maxHeartbeats 4000000 in
theorem impl_memreal (v : MemV) (k n p : Int) (w : World) (T : KTab w) :
    Calls Tryd.prog 47 #[.agg v.row, .agg #[.int .i64 k, .int .i64 n, .int .i64 p]] w fun e w' => e = .returned (.float .f64 (realX v k n p)) ∧ Below w.heap.size w w' := by
  obtain ⟨hA, hC, hB⟩ := two_boxes v w _ #[.int .i64 k, .int .i64 n, .int .i64 p] 61 24 (Below.refl _ _)
  by_cases h1 : k = 10
  · subst h1
    obtain ⟨j, hj, hz, hc⟩ := place_nat 10 n p
    have e : realX v 10 n p = v.r j := by unfold realX; rw [if_pos rfl, hj]; rfl
    have h16 := atZ_lt (k := 10) (n := n) (s := 16) rfl (by omega)
    rw [hj] at h16
    rw [e]
    clear e hj hA hC hB
    have hlt : j < 16 := by omega
    go_enter Tryd.func47, Tryd.ntmps47
    go_wp2_with fail
    refine (hc _ ((T.alloc _).alloc _)).mono ?_
    rintro e w1 ⟨rfl, hB⟩
    obtain ⟨hA, hC, hB⟩ := two_boxes v w w1 _ _ _ hB
    have c0 := hA.c (117 + j) (by omega)
    rw [MemV.cell_r v j hlt] at c0
    go_wp2_with fail
    go_ret
    exact ⟨rfl, hB⟩
  · have e : realX v k n p = argX k n p := by unfold realX; rw [if_neg h1]
    rw [e]
    have h1 : (k == 10) = false := by simpa using h1
    clear hA hC hB e
    go_enter Tryd.func47, Tryd.ntmps47
    go_wp2_with fail
    refine (impl_arg k n p _ ((T.alloc _).alloc _)).mono ?_
    rintro e w1 ⟨rfl, hB⟩
    obtain ⟨hA, hC, hB⟩ := two_boxes v w w1 _ _ _ hB
    clear hA hC
    go_wp2_with fail
    go_ret
    exact ⟨rfl, hB⟩

end Go.Proofs.YtdhoimjkgicneaaDoor
