/- Texts of this proof laid together: ArgD, MemG, MemK. -/
import Derived.Test.YtdhoimjkgicneaaDoorLot22
import Derived.Test.YtdhoimjkgicneaaDoorLot12
import Derived.Test.YtdhoimjkgicneaaDoorLot20
/- Two real numbers that are the same to the law; the specification's real number of an operand. -/
namespace Go.Proofs.YtdhoimjkgicneaaDoor
open Go Go.RowKit Ieee

/-- One by nought is an infinity, of nought's sign. -/
theorem one_by_zero {x : Nat} (h : double.order x 0 = some .eq) : ∃ s k, Num x s 0 k ∧ double.div 4607182418800017408 x = some (double.word s 9218868437227405312) := by
  have v0 : Val 0 0 := by
    have := val_int 0 (by decide)
    rw [show floatOfInt .f64 0 = 0 from by decide +kernel] at this
    simpa using this
  rcases read_cases x with ⟨s, m, k, hx⟩ | ⟨s, hx⟩ | ⟨s, t, hx⟩
  · rw [order_val hx.val v0] at h
    have h1 := Int.compare_eq_eq.1 (Option.some.inj h)
    have h2 : m * 2 ^ k = 0 := by rw [← sg_abs s (m * 2 ^ k), h1]; rfl
    have hm : m = 0 := by
      rcases Nat.mul_eq_zero.1 h2 with h | h
      · exact h
      · exact absurd h (Nat.ne_of_gt (Nat.two_pow_pos _))
    subst hm
    refine ⟨s, k, hx, ?_⟩
    have r1 : double.read 4607182418800017408 = .number false 4503599627370496 (-52) := by decide +kernel
    simp [Format.div, r1, hx.read, Datum.quotient, Format.write, d_inf]
  · exfalso
    obtain ⟨s0, m0, k0, n0, -⟩ := v0
    simp only [Format.order, hx, n0.read, Datum.order] at h
    cases s <;> simp at h
  · rw [order_nan_left hx] at h
    cases h

set_option maxHeartbeats 400000 in
theorem wr_eq (x : Nat) (w : World) (h : FloatKind.f64.format.order x x = some .eq) :
    Calls Tryd.prog 30 #[.float .f64 x, .float .f64 x] w fun e w' => e = .returned (.bool true) ∧ w' = w := by
  cases hz : FloatKind.f64.format.order x 0 != some .eq with
  | true =>
    go_enter Tryd.func30, Tryd.ntmps30
    go_wp2
    go_ret
    exact ⟨rfl, rfl⟩
  | false =>
    obtain ⟨s, k, -, hd⟩ := one_by_zero (x := x) (by have h2 : FloatKind.f64.format.order x 0 = some .eq := by simpa using hz
                                                     exact h2)
    obtain ⟨r, hr⟩ : ∃ r, r = double.word s 9218868437227405312 := ⟨_, rfl⟩
    rw [← hr] at hd
    have q : ∀ t w, (binOp .quo t (.float .f64 4607182418800017408) (.float .f64 x)).run Tryd.prog w = .ok (.float .f64 r) w := fun t w => run_float_arith w .quo t .f64 _ _ _ hd
    clear hd hr
    go_enter Tryd.func30, Tryd.ntmps30
    go_wp2
    go_ret
    exact ⟨rfl, rfl⟩

set_option maxHeartbeats 400000 in
theorem wr_nan (x y : Nat) (w : World) (h : FloatKind.f64.format.order x x = none) (g : FloatKind.f64.format.order y y = none) :
    Calls Tryd.prog 30 #[.float .f64 x, .float .f64 y] w fun e w' => e = .returned (.bool true) ∧ w' = w := by
  go_enter Tryd.func30, Tryd.ntmps30
  go_wp2
  go_ret
  exact ⟨rfl, rfl⟩


theorem wr_same {x y : Nat} (w : World) (h : SameF x y) :
    Calls Tryd.prog 30 #[.float .f64 x, .float .f64 y] w fun e w' => e = .returned (.bool true) ∧ w' = w := by
  rcases h with ⟨h1, h2⟩ | ⟨rfl, h⟩
  · exact wr_nan x y w h1 h2
  · exact wr_eq x w h

end Go.Proofs.YtdhoimjkgicneaaDoor

/- The specification's MemWhole. -/
namespace Go.Proofs.YtdhoimjkgicneaaDoor
open Go Go.RowKit

/-- A count as a whole number. -/
def leastN (c : Nat) : Nat := if 32767 < c then 32767 else c
/-- The rest of a number that fits 16 bits. -/
def wrapZ (n : Int) : Int := (n + 32768) % 65536 - 32768

/-- The whole number of a memory that an operand asks for. -/
def wholeZ (v : MemV) (k n : Int) : Int :=
  if k = 7 then leastN (v.tC (atZ k n).toNat) else if k = 8 then leastN (v.cC (atZ k n).toNat) else if k = 9 then v.d (atZ k n).toNat else if k = 11 then wrapZ n else 0

set_option maxHeartbeats 4000000 in
theorem spec_least (c : Nat) (w : World) (hc : c < 65536) :
    Calls Tryd.prog 107 #[.int .u16 c] w fun e w' => e = .returned (.int .i16 (leastN c)) ∧ w' = w := by
  unfold leastN
  by_cases h : 32767 < c
  · rw [if_pos h]
    go_enter Tryd.func107, Tryd.ntmps107
    go_wp2
    go_ret
    exact ⟨rfl, rfl⟩
  · rw [if_neg h]
    go_enter Tryd.func107, Tryd.ntmps107
    go_wp2
    go_ret
    exact ⟨rfl, rfl⟩

set_option maxHeartbeats 4000000 in
theorem spec_memwhole7 (v : MemV) (n p : Int) (w : World) (hv : v.Ok) :
    Calls Tryd.prog 54 #[.agg v.row, .agg #[.int .i64 7, .int .i64 n, .int .i64 p]] w fun e w' => e = .returned (.int .i16 (wholeZ v 7 n)) ∧ Below w.heap.size w w' := by
  obtain ⟨j, hj, hz, hc⟩ := at_nat 7 n p
  have e : wholeZ v 7 n = leastN (v.tC j) := by unfold wholeZ; rw [hj]; rfl
  have h16 := atZ_lt (k := 7) (n := n) (s := 16) rfl (by omega)
  rw [hj] at h16
  rw [e]
  clear e hj
  have hlt : j < 16 := by omega
  have hb := hv.tC j
  go_enter Tryd.func54, Tryd.ntmps54
  go_wp2_with fail
  refine (hc _).mono ?_
  rintro e w1 ⟨rfl, hB⟩
  obtain ⟨hA, hC, hB⟩ := two_boxes v w w1 _ _ _ hB
  have c0 := hA.c (5 + j * 2 + 1) (by omega)
  rw [MemV.cell_tC v j hlt] at c0
  have d0 := hC 0 _ rfl
  go_wp2_with fail
  refine (spec_least _ _ hb).mono ?_
  rintro e w2 ⟨rfl, rfl⟩
  go_wp2_with fail
  go_ret
  exact ⟨rfl, hB⟩

set_option maxHeartbeats 4000000 in
theorem spec_memwhole8 (v : MemV) (n p : Int) (w : World) (hv : v.Ok) :
    Calls Tryd.prog 54 #[.agg v.row, .agg #[.int .i64 8, .int .i64 n, .int .i64 p]] w fun e w' => e = .returned (.int .i16 (wholeZ v 8 n)) ∧ Below w.heap.size w w' := by
  obtain ⟨j, hj, hz, hc⟩ := at_nat 8 n p
  have e : wholeZ v 8 n = leastN (v.cC j) := by unfold wholeZ; rw [hj]; rfl
  have h16 := atZ_lt (k := 8) (n := n) (s := 16) rfl (by omega)
  rw [hj] at h16
  rw [e]
  clear e hj
  have hlt : j < 16 := by omega
  have hb := hv.cC j
  go_enter Tryd.func54, Tryd.ntmps54
  go_wp2_with fail
  refine (hc _).mono ?_
  rintro e w1 ⟨rfl, hB⟩
  obtain ⟨hA, hC, hB⟩ := two_boxes v w w1 _ _ _ hB
  have c0 := hA.c (37 + j * 3 + 2) (by omega)
  rw [MemV.cell_cC v j hlt] at c0
  have d0 := hC 0 _ rfl
  go_wp2_with fail
  refine (spec_least _ _ hb).mono ?_
  rintro e w2 ⟨rfl, rfl⟩
  go_wp2_with fail
  go_ret
  exact ⟨rfl, hB⟩

set_option maxHeartbeats 4000000 in
theorem spec_memwhole9 (v : MemV) (n p : Int) (w : World) :
    Calls Tryd.prog 54 #[.agg v.row, .agg #[.int .i64 9, .int .i64 n, .int .i64 p]] w fun e w' => e = .returned (.int .i16 (wholeZ v 9 n)) ∧ Below w.heap.size w w' := by
  obtain ⟨j, hj, hz, hc⟩ := at_nat 9 n p
  have e : wholeZ v 9 n = v.d j := by unfold wholeZ; rw [hj]; rfl
  have h16 := atZ_lt (k := 9) (n := n) (s := 32) rfl (by omega)
  rw [hj] at h16
  rw [e]
  clear e hj
  have hlt : j < 32 := by omega
  go_enter Tryd.func54, Tryd.ntmps54
  go_wp2_with fail
  refine (hc _).mono ?_
  rintro e w1 ⟨rfl, hB⟩
  obtain ⟨hA, hC, hB⟩ := two_boxes v w w1 _ _ _ hB
  have c0 := hA.c (85 + j) (by omega)
  rw [MemV.cell_d v j hlt] at c0
  have d0 := hC 0 _ rfl
  go_wp2_with fail
  go_ret
  exact ⟨rfl, hB⟩

set_option maxHeartbeats 4000000 in
theorem spec_memwhole0 (v : MemV) (k n p : Int) (w : World) (h : k < 7 ∨ k = 10 ∨ 11 < k) :
    Calls Tryd.prog 54 #[.agg v.row, .agg #[.int .i64 k, .int .i64 n, .int .i64 p]] w fun e w' => e = .returned (.int .i16 (wholeZ v k n)) ∧ Below w.heap.size w w' := by
  obtain ⟨j, hj, hz, hc⟩ := at_nat k n p
  have e : wholeZ v k n = 0 := by
    unfold wholeZ
    rw [if_neg (by omega), if_neg (by omega), if_neg (by omega), if_neg (by omega)]
  rw [e]
  clear e hj
  go_enter Tryd.func54, Tryd.ntmps54
  go_wp2_with fail
  refine (hc _).mono ?_
  rintro e w1 ⟨rfl, hB⟩
  obtain ⟨hA, hC, hB⟩ := two_boxes v w w1 _ _ _ hB
  have d0 := hC 0 _ rfl
  have h7 : (k == 7) = false := by simp; omega
  have h8 : (k == 8) = false := by simp; omega
  have h9 : (k == 9) = false := by simp; omega
  have h11 : (k == 11) = false := by simp; omega
  go_wp2_with fail
  go_ret
  exact ⟨rfl, hB⟩

theorem wrapZ_tmod (n : Int) : wrapZ n = if n.tmod 65536 < -32768 then n.tmod 65536 + 65536 else if 32767 < n.tmod 65536 then n.tmod 65536 - 65536 else n.tmod 65536 := by
  have h := round_mod (n := n) (s := 65536) (by omega)
  have hb := tmod_bd n (s := 65536) (by omega)
  unfold wrapZ
  split at h <;> split <;> (try split) <;> omega

set_option maxHeartbeats 4000000 in
theorem spec_wrap (n : Int) (w : World) :
    Calls Tryd.prog 108 #[.int .i64 n] w fun e w' => e = .returned (.int .i16 (wrapZ n)) ∧ w' = w := by
  have hb := tmod_bd n (s := 65536) (by omega)
  have e := wrapZ_tmod n
  obtain ⟨m, hm⟩ : ∃ m, m = n.tmod 65536 := ⟨_, rfl⟩
  rw [← hm] at hb e
  rw [e]
  clear e
  have hm' := hm.symm
  clear hm
  by_cases h1 : m < -32768
  · rw [if_pos h1]
    go_enter Tryd.func108, Tryd.ntmps108
    go_wp2
    go_ret
    exact ⟨rfl, rfl⟩
  rw [if_neg h1]
  by_cases h2 : 32767 < m
  · rw [if_pos h2]
    go_enter Tryd.func108, Tryd.ntmps108
    go_wp2
    go_ret
    exact ⟨rfl, rfl⟩
  rw [if_neg h2]
  go_enter Tryd.func108, Tryd.ntmps108
  go_wp2
  go_ret
  exact ⟨rfl, rfl⟩

set_option maxHeartbeats 4000000 in
theorem spec_memwhole11 (v : MemV) (n p : Int) (w : World) :
    Calls Tryd.prog 54 #[.agg v.row, .agg #[.int .i64 11, .int .i64 n, .int .i64 p]] w fun e w' => e = .returned (.int .i16 (wholeZ v 11 n)) ∧ Below w.heap.size w w' := by
  obtain ⟨j, hj, hz, hc⟩ := at_nat 11 n p
  have e : wholeZ v 11 n = wrapZ n := by unfold wholeZ; rfl
  rw [e]
  clear e hj
  go_enter Tryd.func54, Tryd.ntmps54
  go_wp2_with fail
  refine (hc _).mono ?_
  rintro e w1 ⟨rfl, hB⟩
  obtain ⟨hA, hC, hB⟩ := two_boxes v w w1 _ _ _ hB
  have d0 := hC 0 _ rfl
  have d1 := hC 1 _ rfl
  go_wp2_with fail
  refine (spec_wrap _ _).mono ?_
  rintro e w2 ⟨rfl, rfl⟩
  go_wp2_with fail
  go_ret
  exact ⟨rfl, hB⟩

theorem spec_memwhole (v : MemV) (k n p : Int) (w : World) (hv : v.Ok) :
    Calls Tryd.prog 54 #[.agg v.row, .agg #[.int .i64 k, .int .i64 n, .int .i64 p]] w fun e w' => e = .returned (.int .i16 (wholeZ v k n)) ∧ Below w.heap.size w w' := by
  by_cases h : k < 7 ∨ k = 10 ∨ 11 < k
  · exact spec_memwhole0 v k n p w h
  have : k = 7 ∨ k = 8 ∨ k = 9 ∨ k = 11 := by omega
  rcases this with rfl | rfl | rfl | rfl
  · exact spec_memwhole7 v n p w hv
  · exact spec_memwhole8 v n p w hv
  · exact spec_memwhole9 v n p w
  · exact spec_memwhole11 v n p w

end Go.Proofs.YtdhoimjkgicneaaDoor

/- MemWhole, MemPutWhole and MemPutReal, of the program and of the specification. -/
namespace Go.Proofs.YtdhoimjkgicneaaDoor
open Go Go.RowKit

set_option maxHeartbeats 4000000 in
theorem impl_count (c : Nat) (w : World) (hc : c < 65536) :
    Calls Tryd.prog 96 #[.int .u16 c] w fun e w' => e = .returned (.int .i16 (leastN c)) ∧ w' = w := by
  unfold leastN
  by_cases h : 32767 < c
  · rw [if_pos h]
    go_enter Tryd.func96, Tryd.ntmps96
    go_wp2
    go_ret
    exact ⟨ret_int (by omega), rfl⟩
  · rw [if_neg h]
    go_enter Tryd.func96, Tryd.ntmps96
    go_wp2
    go_ret
    exact ⟨ret_int (by omega), rfl⟩

set_option maxHeartbeats 4000000 in
theorem impl_memwhole7 (v : MemV) (n p : Int) (w : World) (hv : v.Ok) (T : KTab w) :
    Calls Tryd.prog 43 #[.agg v.row, .agg #[.int .i64 7, .int .i64 n, .int .i64 p]] w fun e w' => e = .returned (.int .i16 (wholeZ v 7 n)) ∧ Below w.heap.size w w' := by
  obtain ⟨j, hj, hz, hc⟩ := place_nat 7 n p
  have e : wholeZ v 7 n = leastN (v.tC j) := by unfold wholeZ; rw [hj]; rfl
  have h16 := atZ_lt (k := 7) (n := n) (s := 16) rfl (by omega)
  rw [hj] at h16
  rw [e]
  clear e hj
  have hlt : j < 16 := by omega
  have hb := hv.tC j
  go_enter Tryd.func43, Tryd.ntmps43
  go_wp2_with fail
  refine (hc _ ((T.alloc _).alloc _)).mono ?_
  rintro e w1 ⟨rfl, hB⟩
  obtain ⟨hA, hC, hB⟩ := two_boxes v w w1 _ _ _ hB
  have c0 := hA.c (5 + j * 2 + 1) (by omega)
  rw [MemV.cell_tC v j hlt] at c0
  have d0 := hC 0 _ rfl
  go_wp2_with fail
  refine (impl_count _ _ hb).mono ?_
  rintro e w2 ⟨rfl, rfl⟩
  go_wp2_with fail
  go_ret
  exact ⟨rfl, hB⟩

set_option maxHeartbeats 4000000 in
theorem impl_memwhole8 (v : MemV) (n p : Int) (w : World) (hv : v.Ok) (T : KTab w) :
    Calls Tryd.prog 43 #[.agg v.row, .agg #[.int .i64 8, .int .i64 n, .int .i64 p]] w fun e w' => e = .returned (.int .i16 (wholeZ v 8 n)) ∧ Below w.heap.size w w' := by
  obtain ⟨j, hj, hz, hc⟩ := place_nat 8 n p
  have e : wholeZ v 8 n = leastN (v.cC j) := by unfold wholeZ; rw [hj]; rfl
  have h16 := atZ_lt (k := 8) (n := n) (s := 16) rfl (by omega)
  rw [hj] at h16
  rw [e]
  clear e hj
  have hlt : j < 16 := by omega
  have hb := hv.cC j
  go_enter Tryd.func43, Tryd.ntmps43
  go_wp2_with fail
  refine (hc _ ((T.alloc _).alloc _)).mono ?_
  rintro e w1 ⟨rfl, hB⟩
  obtain ⟨hA, hC, hB⟩ := two_boxes v w w1 _ _ _ hB
  have c0 := hA.c (37 + j * 3 + 2) (by omega)
  rw [MemV.cell_cC v j hlt] at c0
  have d0 := hC 0 _ rfl
  go_wp2_with fail
  refine (impl_count _ _ hb).mono ?_
  rintro e w2 ⟨rfl, rfl⟩
  go_wp2_with fail
  go_ret
  exact ⟨rfl, hB⟩

set_option maxHeartbeats 4000000 in
theorem impl_memwhole9 (v : MemV) (n p : Int) (w : World) (T : KTab w) :
    Calls Tryd.prog 43 #[.agg v.row, .agg #[.int .i64 9, .int .i64 n, .int .i64 p]] w fun e w' => e = .returned (.int .i16 (wholeZ v 9 n)) ∧ Below w.heap.size w w' := by
  obtain ⟨j, hj, hz, hc⟩ := place_nat 9 n p
  have e : wholeZ v 9 n = v.d j := by unfold wholeZ; rw [hj]; rfl
  have h16 := atZ_lt (k := 9) (n := n) (s := 32) rfl (by omega)
  rw [hj] at h16
  rw [e]
  clear e hj
  have hlt : j < 32 := by omega
  go_enter Tryd.func43, Tryd.ntmps43
  go_wp2_with fail
  refine (hc _ ((T.alloc _).alloc _)).mono ?_
  rintro e w1 ⟨rfl, hB⟩
  obtain ⟨hA, hC, hB⟩ := two_boxes v w w1 _ _ _ hB
  have c0 := hA.c (85 + j) (by omega)
  rw [MemV.cell_d v j hlt] at c0
  have d0 := hC 0 _ rfl
  go_wp2_with fail
  go_ret
  exact ⟨rfl, hB⟩

set_option maxHeartbeats 4000000 in
theorem impl_memwhole0 (v : MemV) (k n p : Int) (w : World) (T : KTab w) (h : k < 7 ∨ k = 10 ∨ 11 < k) :
    Calls Tryd.prog 43 #[.agg v.row, .agg #[.int .i64 k, .int .i64 n, .int .i64 p]] w fun e w' => e = .returned (.int .i16 (wholeZ v k n)) ∧ Below w.heap.size w w' := by
  obtain ⟨j, hj, hz, hc⟩ := place_nat k n p
  have e : wholeZ v k n = 0 := by
    unfold wholeZ
    rw [if_neg (by omega), if_neg (by omega), if_neg (by omega), if_neg (by omega)]
  rw [e]
  clear e hj
  go_enter Tryd.func43, Tryd.ntmps43
  go_wp2_with fail
  refine (hc _ ((T.alloc _).alloc _)).mono ?_
  rintro e w1 ⟨rfl, hB⟩
  obtain ⟨hA, hC, hB⟩ := two_boxes v w w1 _ _ _ hB
  have d0 := hC 0 _ rfl
  have h7 : (k == 7) = false := by simp; omega
  have h8 : (k == 8) = false := by simp; omega
  have h9 : (k == 9) = false := by simp; omega
  have h11 : (k == 11) = false := by simp; omega
  go_wp2_with fail
  go_ret
  exact ⟨rfl, hB⟩

theorem wrap_i16 (n : Int) : IntKind.i16.wrap n = wrapZ n := by
  unfold wrapZ
  simp [IntKind.wrap, IntKind.bits, IntKind.signed]
  omega

set_option maxHeartbeats 4000000 in
theorem impl_memwhole11 (v : MemV) (n p : Int) (w : World) (T : KTab w) :
    Calls Tryd.prog 43 #[.agg v.row, .agg #[.int .i64 11, .int .i64 n, .int .i64 p]] w fun e w' => e = .returned (.int .i16 (wholeZ v 11 n)) ∧ Below w.heap.size w w' := by
  obtain ⟨j, hj, hz, hc⟩ := place_nat 11 n p
  have e : wholeZ v 11 n = IntKind.i16.wrap n := by rw [wrap_i16]; unfold wholeZ; rfl
  rw [e]
  clear e hj
  go_enter Tryd.func43, Tryd.ntmps43
  go_wp2_with fail
  refine (hc _ ((T.alloc _).alloc _)).mono ?_
  rintro e w1 ⟨rfl, hB⟩
  obtain ⟨hA, hC, hB⟩ := two_boxes v w w1 _ _ _ hB
  have d0 := hC 0 _ rfl
  have d1 := hC 1 _ rfl
  go_wp2_with fail
  go_ret
  exact ⟨rfl, hB⟩

theorem impl_memwhole (v : MemV) (k n p : Int) (w : World) (hv : v.Ok) (T : KTab w) :
    Calls Tryd.prog 43 #[.agg v.row, .agg #[.int .i64 k, .int .i64 n, .int .i64 p]] w fun e w' => e = .returned (.int .i16 (wholeZ v k n)) ∧ Below w.heap.size w w' := by
  by_cases h : k < 7 ∨ k = 10 ∨ 11 < k
  · exact impl_memwhole0 v k n p w T h
  have : k = 7 ∨ k = 8 ∨ k = 9 ∨ k = 11 := by omega
  rcases this with rfl | rfl | rfl | rfl
  · exact impl_memwhole7 v n p w hv T
  · exact impl_memwhole8 v n p w hv T
  · exact impl_memwhole9 v n p w T
  · exact impl_memwhole11 v n p w T

end Go.Proofs.YtdhoimjkgicneaaDoor
