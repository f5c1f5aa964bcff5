/- Texts of this proof laid together: MemI, ArgA0, ArgA. -/
import Derived.Test.YtdhoimjkgicneaaDoorLot12
import Derived.Test.YtdhoimjkgicneaaDoorLot18
import Derived.Test.YtdhoimjkgicneaaDoorLot19
import Derived.Test.YtdhoimjkgicneaaDoorLot16
import Derived.Test.YtdhoimjkgicneaaDoorRows
import Derived.WalkKit
import Derived.WalkSpells
import Derived.WalkLawsBesides
import Derived.Laws.Externs
import Derived.Test.YtdhoimjkgicneaaDoorLot5
/- The program's own places, words and bits of a memory. -/
namespace Go.Proofs.YtdhoimjkgicneaaDoor
open Go Go.RowKit

set_option maxHeartbeats 4000000 in
theorem impl_place (k n p : Int) (w : World) (T : KTab w) :
    Calls Tryd.prog 91 #[.agg #[.int .i64 k, .int .i64 n, .int .i64 p]] w fun e w' => e = .returned (.int .i64 (atZ k n)) ∧ Below w.heap.size w w' := by
  by_cases h6 : k = 6
  · subst h6
    have e : atZ 6 n = if n.tmod 8 < 0 then n.tmod 8 + 8 else n.tmod 8 := round_mod (n := n) (s := 8) (by omega)
    rw [e]
    clear e
    have hb := tmod_bd n (s := 8) (by omega)
    go_enter Tryd.func91, Tryd.ntmps91
    go_wp2_with fail
    refine (sizeK 6 _ (T.alloc _)).mono ?_
    rintro e w1 ⟨rfl, hb1⟩
    obtain ⟨c0, c1, c2, hz, hB⟩ := box3 hb1
    go_wp2_with fail
    all_goals
      go_ret
      exact ⟨ret_int (by rfl), hB⟩
  · obtain ⟨s, hs⟩ : ∃ s, s = sizeZ k := ⟨_, rfl⟩
    have hs2 := sizeZ_bd k
    have hc : ∀ w, KTab w → Calls Tryd.prog 65 #[.int .i64 k] w fun e w' => e = .returned (.int .i64 s) ∧ Below w.heap.size w w' := fun w T => hs ▸ sizeK k w T
    rw [← hs] at hs2
    have ha : atZ k n = if s = 0 then 0 else n % s := by
      unfold atZ szR
      rw [if_neg h6, ← hs]
    rw [ha]
    clear ha hs
    by_cases h0 : s = 0
    · subst h0
      rw [if_pos rfl]
      go_enter Tryd.func91, Tryd.ntmps91
      go_wp2_with fail
      refine (hc _ (T.alloc _)).mono ?_
      rintro e w1 ⟨rfl, hb1⟩
      obtain ⟨c0, c1, c2, hz, hB⟩ := box3 hb1
      go_wp2_with fail
      all_goals
        go_ret
        exact ⟨ret_int (by rfl), hB⟩
    · rw [if_neg h0, round_mod (n := n) (s := s) (by omega)]
      have hb := tmod_bd n (s := s) (by omega)
      go_enter Tryd.func91, Tryd.ntmps91
      go_wp2_with fail
      refine (hc _ (T.alloc _)).mono ?_
      rintro e w1 ⟨rfl, hb1⟩
      obtain ⟨c0, c1, c2, hz, hB⟩ := box3 hb1
      go_wp2_with fail
      all_goals
        go_ret
        exact ⟨ret_int (by first | rfl | rw [if_pos (by assumption)] | rw [if_neg (by assumption)]), hB⟩

set_option maxHeartbeats 4000000 in
theorem impl_given (v : MemV) (k : Int) (w : World) (ht : v.time < 4294967296) :
    Calls Tryd.prog 92 #[.agg v.row, .int .i64 k] w fun e w' => e = .returned (.bool (givenB v k)) ∧ Below w.heap.size w w' := by
  have c1 := v.r133
  have c2 := v.r134
  have c3 := v.r135
  have hB : Below w.heap.size w (w.alloc (.cells v.row 61)) := (Below.refl _ _).alloc (Nat.le_refl _) _
  by_cases h0 : k = 0
  · subst h0
    go_enter Tryd.func92, Tryd.ntmps92
    go_wp2
    go_ret
    exact ⟨ret_bool rfl, hB⟩
  by_cases h2 : k = 2
  · subst h2
    go_enter Tryd.func92, Tryd.ntmps92
    go_wp2
    go_ret
    exact ⟨ret_bool rfl, hB⟩
  by_cases h3 : k = 3
  · subst h3
    go_enter Tryd.func92, Tryd.ntmps92
    go_wp2
    go_ret
    exact ⟨ret_bool rfl, hB⟩
  by_cases h4 : k = 4
  · subst h4
    go_enter Tryd.func92, Tryd.ntmps92
    go_wp2
    go_ret
    refine ⟨ret_bool ?_, hB⟩
    rw [given4, Bool.eq_iff_iff]
    simp
    omega
  rw [given_no v ⟨h0, h2, h3, h4⟩]
  go_enter Tryd.func92, Tryd.ntmps92
  go_wp2
  go_ret
  exact ⟨ret_bool rfl, hB⟩

/-- The word of a kind that is packed. -/
def wordN (v : MemV) (k : Int) : Nat := if k = 1 then v.x else if k = 2 then v.y else if k = 3 then v.m else if k = 4 then v.s else if k = 5 then v.e else 0

theorem wordN_lt (v : MemV) (k : Int) (hv : v.Ok) : wordN v k < 18446744073709551616 := by
  have h1 := hv.x
  have h2 := hv.y
  have h3 := hv.m
  have h4 := hv.s
  have h5 := hv.e
  unfold wordN
  repeat' split
  all_goals omega

set_option maxHeartbeats 4000000 in
theorem impl_word (v : MemV) (k : Int) (w : World) (hv : v.Ok) :
    Calls Tryd.prog 93 #[.agg v.row, .int .i64 k] w fun e w' => e = .returned (.int .u64 (wordN v k)) ∧ Below w.heap.size w w' := by
  have c0 := v.r0
  have c1 := v.r1
  have c2 := v.r2
  have c3 := v.r3
  have c4 := v.r4
  have b0 := hv.x
  have b1 := hv.y
  have b2 := hv.m
  have b3 := hv.s
  have b4 := hv.e
  have hB : Below w.heap.size w (w.alloc (.cells v.row 61)) := (Below.refl _ _).alloc (Nat.le_refl _) _
  by_cases h : k < 1 ∨ 5 < k
  · have e : wordN v k = 0 := by
      unfold wordN
      rw [if_neg (by omega), if_neg (by omega), if_neg (by omega), if_neg (by omega), if_neg (by omega)]
    rw [e]
    go_enter Tryd.func93, Tryd.ntmps93
    go_wp2
    go_ret
    exact ⟨ret_int rfl, hB⟩
  have : k = 1 ∨ k = 2 ∨ k = 3 ∨ k = 4 ∨ k = 5 := by omega
  rcases this with rfl | rfl | rfl | rfl | rfl
  all_goals
    go_enter Tryd.func93, Tryd.ntmps93
    go_wp2
    go_ret
    exact ⟨ret_int rfl, hB⟩

theorem place_nat (k n p : Int) : ∃ j : Nat, atZ k n = j ∧ j ≤ 63 ∧ ∀ w, KTab w → Calls Tryd.prog 91 #[.agg #[.int .i64 k, .int .i64 n, .int .i64 p]] w fun e w' => e = .returned (.int .i64 j) ∧ Below w.heap.size w w' := by
  have hz := atZ_bd k n
  obtain ⟨j, hj⟩ : ∃ j : Nat, atZ k n = j := ⟨(atZ k n).toNat, by omega⟩
  exact ⟨j, hj, by omega, fun w T => hj ▸ impl_place k n p w T⟩

theorem mbit_word (v : MemV) (k n : Int) (j : Nat) (hj : atZ k n = j) (h : k ≠ 6 ∧ k ≠ 7 ∧ k ≠ 8) : mbit v k n = (wordN v k / 2 ^ j % 2 == 1) := by
  unfold mbit wordN
  rw [hj]
  by_cases h1 : k = 1
  · rw [if_pos h1, if_pos h1]; rfl
  rw [if_neg h1, if_neg h1]
  by_cases h2 : k = 2
  · rw [if_pos h2, if_pos h2]; rfl
  rw [if_neg h2, if_neg h2]
  by_cases h3 : k = 3
  · rw [if_pos h3, if_pos h3]; rfl
  rw [if_neg h3, if_neg h3]
  by_cases h4 : k = 4
  · rw [if_pos h4, if_pos h4]; rfl
  rw [if_neg h4, if_neg h4]
  by_cases h5 : k = 5
  · rw [if_pos h5, if_pos h5]; rfl
  rw [if_neg h5, if_neg h5, if_neg h.1, if_neg h.2.1, if_neg h.2.2]
  simp

set_option maxRecDepth 100000 in
set_option maxHeartbeats 4000000 in
theorem impl_membit0 (v : MemV) (k n p : Int) (w : World) (hv : v.Ok) (T : KTab w) (h : k ≠ 6 ∧ k ≠ 7 ∧ k ≠ 8) :
    Calls Tryd.prog 39 #[.agg v.row, .agg #[.int .i64 k, .int .i64 n, .int .i64 p]] w fun e w' => e = .returned (.bool (mbit v k n)) ∧ Below w.heap.size w w' := by
  obtain ⟨j, hj, hz, hc⟩ := place_nat k n p
  rw [mbit_word v k n j hj h]
  clear hj
  have h6 : (k == 6) = false := by simp; omega
  have h7 : (k == 7) = false := by simp; omega
  have h8 : (k == 8) = false := by simp; omega
  have hx := wordN_lt v k hv
  obtain ⟨x, ex⟩ : ∃ x, x = wordN v k := ⟨_, rfl⟩
  have hw : ∀ w, Calls Tryd.prog 93 #[.agg v.row, .int .i64 k] w fun e w' => e = .returned (.int .u64 x) ∧ Below w.heap.size w w' := fun w => ex ▸ impl_word v k w hv
  rw [← ex] at hx ⊢
  clear ex
  obtain ⟨y, ey⟩ : ∃ y, y = x / 2 ^ j := ⟨_, rfl⟩
  have ey2 : (x : Int) / 2 ^ j = (y : Int) := by rw [ey, shr_bit]
  have hy : y < 18446744073709551616 := by rw [ey]; exact Nat.lt_of_le_of_lt (Nat.div_le_self _ _) hx
  have ha := and_one y hy
  rw [← ey]
  have HY : Hid ((x : Int) / 2 ^ j = (y : Int)) := ey2
  clear ey ey2
  go_enter Tryd.func39, Tryd.ntmps39
  go_wp2_with fail
  refine (hc _ ((T.alloc _).alloc _)).mono ?_
  rintro e w1 ⟨rfl, hB⟩
  obtain ⟨hA, hC, hB⟩ := two_boxes v w w1 _ _ _ hB
  have d0 := hC 0 _ rfl
  go_wp2_with (refine list_load (t := 61) rfl rfl rfl (load_mem hA) ?_)
  refine (hw _).mono ?_
  rintro e w2 ⟨rfl, hB2⟩
  have hB := hB.trans (hB2.mono hB.size)
  go_wp2_with fail
  go_ret
  refine ⟨ret_bool ?_, hB⟩
  rw [HY.out, ha]
  rw [Bool.eq_iff_iff]
  simp
  omega

set_option maxRecDepth 100000 in
set_option maxHeartbeats 4000000 in
theorem impl_membit6 (v : MemV) (n p : Int) (w : World) (hv : v.Ok) (T : KTab w) :
    Calls Tryd.prog 39 #[.agg v.row, .agg #[.int .i64 6, .int .i64 n, .int .i64 p]] w fun e w' => e = .returned (.bool (mbit v 6 n)) ∧ Below w.heap.size w w' := by
  obtain ⟨j, hj, hz, hc⟩ := place_nat 6 n p
  have e : mbit v 6 n = givenB v j := by unfold mbit; rw [hj]; rfl
  rw [e]
  clear e hj
  go_enter Tryd.func39, Tryd.ntmps39
  go_wp2_with fail
  refine (hc _ ((T.alloc _).alloc _)).mono ?_
  rintro e w1 ⟨rfl, hB⟩
  obtain ⟨hA, hC, hB⟩ := two_boxes v w w1 _ _ _ hB
  have d0 := hC 0 _ rfl
  go_wp2_with (refine list_load (t := 61) rfl rfl rfl (load_mem hA) ?_)
  refine (impl_given v j _ hv.time).mono ?_
  rintro e w2 ⟨rfl, hB2⟩
  have hB := hB.trans (hB2.mono hB.size)
  go_wp2_with fail
  go_ret
  exact ⟨rfl, hB⟩

set_option maxHeartbeats 4000000 in
theorem impl_membit7 (v : MemV) (n p : Int) (w : World) (T : KTab w) :
    Calls Tryd.prog 39 #[.agg v.row, .agg #[.int .i64 7, .int .i64 n, .int .i64 p]] w fun e w' => e = .returned (.bool (mbit v 7 n)) ∧ Below w.heap.size w w' := by
  obtain ⟨j, hj, hz, hc⟩ := place_nat 7 n p
  have e : mbit v 7 n = v.tD j := by unfold mbit; rw [hj]; rfl
  have h16 := atZ_lt (k := 7) (n := n) (s := 16) rfl (by omega)
  rw [hj] at h16
  rw [e]
  clear e hj
  have hlt : j < 16 := by omega
  go_enter Tryd.func39, Tryd.ntmps39
  go_wp2_with fail
  refine (hc _ ((T.alloc _).alloc _)).mono ?_
  rintro e w1 ⟨rfl, hB⟩
  obtain ⟨hA, hC, hB⟩ := two_boxes v w w1 _ _ _ hB
  have c0 := hA.c (5 + j * 2) (by omega)
  rw [MemV.cell_tD v j hlt] at c0
  have d0 := hC 0 _ rfl
  go_wp2_with fail
  go_ret
  exact ⟨rfl, hB⟩

set_option maxHeartbeats 4000000 in
theorem impl_membit8 (v : MemV) (n p : Int) (w : World) (T : KTab w) :
    Calls Tryd.prog 39 #[.agg v.row, .agg #[.int .i64 8, .int .i64 n, .int .i64 p]] w fun e w' => e = .returned (.bool (mbit v 8 n)) ∧ Below w.heap.size w w' := by
  obtain ⟨j, hj, hz, hc⟩ := place_nat 8 n p
  have e : mbit v 8 n = v.cD j := by unfold mbit; rw [hj]; rfl
  have h16 := atZ_lt (k := 8) (n := n) (s := 16) rfl (by omega)
  rw [hj] at h16
  rw [e]
  clear e hj
  have hlt : j < 16 := by omega
  go_enter Tryd.func39, Tryd.ntmps39
  go_wp2_with fail
  refine (hc _ ((T.alloc _).alloc _)).mono ?_
  rintro e w1 ⟨rfl, hB⟩
  obtain ⟨hA, hC, hB⟩ := two_boxes v w w1 _ _ _ hB
  have c0 := hA.c (37 + j * 3) (by omega)
  rw [MemV.cell_cD v j hlt] at c0
  have d0 := hC 0 _ rfl
  go_wp2_with fail
  go_ret
  exact ⟨rfl, hB⟩

theorem impl_membit (v : MemV) (k n p : Int) (w : World) (hv : v.Ok) (T : KTab w) :
    Calls Tryd.prog 39 #[.agg v.row, .agg #[.int .i64 k, .int .i64 n, .int .i64 p]] w fun e w' => e = .returned (.bool (mbit v k n)) ∧ Below w.heap.size w w' := by
  by_cases h : k ≠ 6 ∧ k ≠ 7 ∧ k ≠ 8
  · exact impl_membit0 v k n p w hv T h
  have : k = 6 ∨ k = 7 ∨ k = 8 := by omega
  rcases this with rfl | rfl | rfl
  · exact impl_membit6 v n p w hv T
  · exact impl_membit7 v n p w T
  · exact impl_membit8 v n p w T

end Go.Proofs.YtdhoimjkgicneaaDoor

/- The words of the library on real numbers: the bits of a number, nan. -/
namespace Go.Proofs.YtdhoimjkgicneaaDoor
open Go Go.RowKit

theorem from_bits (n : Int) (w : World) : (callFunc 130 #[.int .u64 n]).run Tryd.prog w = .ok (.value (.float .f64 n.toNat)) w := by
  rw [run_callFunc_extern (e := Extern.MathFloatBits.float64frombits) Tryd.func130 (by kernel_rfl) (by kernel_rfl) (by kernel_rfl) (by kernel_rfl)]
  rfl
theorem to_bits (n : Nat) (w : World) : (callFunc 133 #[.float .f64 n]).run Tryd.prog w = .ok (.value (.int .u64 n)) w := by
  rw [run_callFunc_extern (e := Extern.MathFloatBits.float64bits) Tryd.func133 (by kernel_rfl) (by kernel_rfl) (by kernel_rfl) (by kernel_rfl)]
  rfl

theorem lib_nan (w : World) : Calls Tryd.prog 85 #[] w fun e w' => e = .returned (.float .f64 9221120237041090561) ∧ w' = w := by
  have fb : ∀ w, (callFunc 130 #[.int .u64 9221120237041090561]).run Tryd.prog w = .ok (.value (.float .f64 9221120237041090561)) w := from_bits 9221120237041090561
  go_enter Tryd.func85, Tryd.ntmps85
  go_wp2
  go_ret
  exact ⟨rfl, rfl⟩

end Go.Proofs.YtdhoimjkgicneaaDoor

/- The words of the library on real numbers that the program asks for: nan, the infinities, minus zero. -/
namespace Go.Proofs.YtdhoimjkgicneaaDoor
open Go Go.RowKit

theorem lib_inf (w : World) : Calls Tryd.prog 86 #[.int .i64 1] w fun e w' => e = .returned (.float .f64 9218868437227405312) ∧ w' = w := by
  have fb : ∀ w, (callFunc 130 #[.int .u64 9218868437227405312]).run Tryd.prog w = .ok (.value (.float .f64 9218868437227405312)) w := from_bits 9218868437227405312
  go_enter Tryd.func86, Tryd.ntmps86
  go_wp2
  go_ret
  exact ⟨rfl, rfl⟩

theorem lib_neg_inf (w : World) : Calls Tryd.prog 86 #[.int .i64 (-1)] w fun e w' => e = .returned (.float .f64 18442240474082181120) ∧ w' = w := by
  have fb : ∀ w, (callFunc 130 #[.int .u64 18442240474082181120]).run Tryd.prog w = .ok (.value (.float .f64 18442240474082181120)) w := from_bits 18442240474082181120
  go_enter Tryd.func86, Tryd.ntmps86
  go_wp2
  go_ret
  exact ⟨rfl, rfl⟩

/-- The bits of an infinity, by a sign. -/
def infF (s : Int) : Nat := if 0 ≤ s then 9218868437227405312 else 18442240474082181120

theorem lib_infs (s : Int) (w : World) : Calls Tryd.prog 86 #[.int .i64 s] w fun e w' => e = .returned (.float .f64 (infF s)) ∧ w' = w := by
  have f1 : ∀ w, (callFunc 130 #[.int .u64 9218868437227405312]).run Tryd.prog w = .ok (.value (.float .f64 9218868437227405312)) w := from_bits 9218868437227405312
  have f2 : ∀ w, (callFunc 130 #[.int .u64 18442240474082181120]).run Tryd.prog w = .ok (.value (.float .f64 18442240474082181120)) w := from_bits 18442240474082181120
  by_cases h : 0 ≤ s
  · have e : infF s = 9218868437227405312 := by simp [infF, h]
    rw [e]
    go_enter Tryd.func86, Tryd.ntmps86
    go_wp2
    go_ret
    exact ⟨rfl, rfl⟩
  · have e : infF s = 18442240474082181120 := by simp [infF, h]
    rw [e]
    go_enter Tryd.func86, Tryd.ntmps86
    go_wp2
    go_ret
    exact ⟨rfl, rfl⟩

set_option maxRecDepth 100000 in
theorem lib_sign (w : World) : Calls Tryd.prog 131 #[.float .f64 0, .float .f64 13830554455654793216] w fun e w' => e = .returned (.float .f64 9223372036854775808) ∧ w' = w := by
  have tb0 : ∀ w, (callFunc 133 #[.float .f64 0]).run Tryd.prog w = .ok (.value (.int .u64 0)) w := to_bits 0
  have tb1 : ∀ w, (callFunc 133 #[.float .f64 13830554455654793216]).run Tryd.prog w = .ok (.value (.int .u64 13830554455654793216)) w := to_bits 13830554455654793216
  have fb : ∀ w, (callFunc 130 #[.int .u64 9223372036854775808]).run Tryd.prog w = .ok (.value (.float .f64 9223372036854775808)) w := from_bits 9223372036854775808
  have a1 : bits .andNot .u64 0 9223372036854775808 = 0 := by decide +kernel
  have a2 : bits .and .u64 13830554455654793216 9223372036854775808 = 9223372036854775808 := by decide +kernel
  have a3 : bits .or .u64 0 9223372036854775808 = 9223372036854775808 := by decide +kernel
  go_enter Tryd.func131, Tryd.ntmps131
  go_wp2
  go_ret
  exact ⟨rfl, rfl⟩

theorem impl_mzero (w : World) : Calls Tryd.prog 87 #[] w fun e w' => e = .returned (.float .f64 9223372036854775808) ∧ w' = w := by
  go_enter Tryd.func87, Tryd.ntmps87
  go_wp2_with (go_at_call 131; refine (lib_sign _).mono ?_; rintro e w' ⟨rfl, rfl⟩)
  go_ret
  exact ⟨rfl, rfl⟩

end Go.Proofs.YtdhoimjkgicneaaDoor
