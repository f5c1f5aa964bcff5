/- Texts of this proof laid together: ArgA0, ArgA, TxtH. -/
import Derived.Test.YtdhoimjkgicneacGreatDoorRows
import Derived.WalkKit
import Derived.WalkSpells
import Derived.WalkLawsBesides
import Derived.Laws.Externs
import Derived.Test.YtdhoimjkgicneacGreatDoorLot15
import Derived.Test.YtdhoimjkgicneacGreatDoorLot17
import Derived.WideLaws
import Derived.Lib.SmallJoins
/- The words of the library on real numbers: the bits of a number, nan. -/
namespace Go.Proofs.YtdhoimjkgicneacGreatDoor
open Go Go.RowKit

theorem from_bits (n : Int) (w : World) : (callFunc 128 #[.int .u64 n]).run Tryz.prog w = .ok (.value (.float .f64 n.toNat)) w := by
  rw [run_callFunc_extern (e := Extern.MathFloatBits.float64frombits) Tryz.func128 (by kernel_rfl) (by kernel_rfl) (by kernel_rfl) (by kernel_rfl)]
  rfl
theorem to_bits (n : Nat) (w : World) : (callFunc 144 #[.float .f64 n]).run Tryz.prog w = .ok (.value (.int .u64 n)) w := by
  rw [run_callFunc_extern (e := Extern.MathFloatBits.float64bits) Tryz.func144 (by kernel_rfl) (by kernel_rfl) (by kernel_rfl) (by kernel_rfl)]
  rfl

theorem lib_nan (w : World) : Calls Tryz.prog 103 #[] w fun e w' => e = .returned (.float .f64 9221120237041090561) ∧ w' = w := by
  have fb : ∀ w, (callFunc 128 #[.int .u64 9221120237041090561]).run Tryz.prog w = .ok (.value (.float .f64 9221120237041090561)) w := from_bits 9221120237041090561
  go_enter Tryz.func103, Tryz.ntmps103
  go_wp2
  go_ret
  exact ⟨rfl, rfl⟩

end Go.Proofs.YtdhoimjkgicneacGreatDoor

/- The words of the library on real numbers that the program asks for: nan, the infinities, minus zero. -/
namespace Go.Proofs.YtdhoimjkgicneacGreatDoor
open Go Go.RowKit

theorem lib_inf (w : World) : Calls Tryz.prog 104 #[.int .i64 1] w fun e w' => e = .returned (.float .f64 9218868437227405312) ∧ w' = w := by
  have fb : ∀ w, (callFunc 128 #[.int .u64 9218868437227405312]).run Tryz.prog w = .ok (.value (.float .f64 9218868437227405312)) w := from_bits 9218868437227405312
  go_enter Tryz.func104, Tryz.ntmps104
  go_wp2
  go_ret
  exact ⟨rfl, rfl⟩

theorem lib_neg_inf (w : World) : Calls Tryz.prog 104 #[.int .i64 (-1)] w fun e w' => e = .returned (.float .f64 18442240474082181120) ∧ w' = w := by
  have fb : ∀ w, (callFunc 128 #[.int .u64 18442240474082181120]).run Tryz.prog w = .ok (.value (.float .f64 18442240474082181120)) w := from_bits 18442240474082181120
  go_enter Tryz.func104, Tryz.ntmps104
  go_wp2
  go_ret
  exact ⟨rfl, rfl⟩

/-- The bits of an infinity, by a sign. -/
def infF (s : Int) : Nat := if 0 ≤ s then 9218868437227405312 else 18442240474082181120

theorem lib_infs (s : Int) (w : World) : Calls Tryz.prog 104 #[.int .i64 s] w fun e w' => e = .returned (.float .f64 (infF s)) ∧ w' = w := by
  have f1 : ∀ w, (callFunc 128 #[.int .u64 9218868437227405312]).run Tryz.prog w = .ok (.value (.float .f64 9218868437227405312)) w := from_bits 9218868437227405312
  have f2 : ∀ w, (callFunc 128 #[.int .u64 18442240474082181120]).run Tryz.prog w = .ok (.value (.float .f64 18442240474082181120)) w := from_bits 18442240474082181120
  by_cases h : 0 ≤ s
  · have e : infF s = 9218868437227405312 := by simp [infF, h]
    rw [e]
    go_enter Tryz.func104, Tryz.ntmps104
    go_wp2
    go_ret
    exact ⟨rfl, rfl⟩
  · have e : infF s = 18442240474082181120 := by simp [infF, h]
    rw [e]
    go_enter Tryz.func104, Tryz.ntmps104
    go_wp2
    go_ret
    exact ⟨rfl, rfl⟩

set_option maxRecDepth 100000 in
theorem lib_sign (w : World) : Calls Tryz.prog 129 #[.float .f64 0, .float .f64 13830554455654793216] w fun e w' => e = .returned (.float .f64 9223372036854775808) ∧ w' = w := by
  have tb0 : ∀ w, (callFunc 144 #[.float .f64 0]).run Tryz.prog w = .ok (.value (.int .u64 0)) w := to_bits 0
  have tb1 : ∀ w, (callFunc 144 #[.float .f64 13830554455654793216]).run Tryz.prog w = .ok (.value (.int .u64 13830554455654793216)) w := to_bits 13830554455654793216
  have fb : ∀ w, (callFunc 128 #[.int .u64 9223372036854775808]).run Tryz.prog w = .ok (.value (.float .f64 9223372036854775808)) w := from_bits 9223372036854775808
  have a1 : bits .andNot .u64 0 9223372036854775808 = 0 := by decide +kernel
  have a2 : bits .and .u64 13830554455654793216 9223372036854775808 = 9223372036854775808 := by decide +kernel
  have a3 : bits .or .u64 0 9223372036854775808 = 9223372036854775808 := by decide +kernel
  go_enter Tryz.func129, Tryz.ntmps129
  go_wp2
  go_ret
  exact ⟨rfl, rfl⟩

theorem impl_mzero (w : World) : Calls Tryz.prog 105 #[] w fun e w' => e = .returned (.float .f64 9223372036854775808) ∧ w' = w := by
  go_enter Tryz.func105, Tryz.ntmps105
  go_wp2_with (go_at_call 129; refine (lib_sign _).mono ?_; rintro e w' ⟨rfl, rfl⟩)
  go_ret
  exact ⟨rfl, rfl⟩

end Go.Proofs.YtdhoimjkgicneacGreatDoor

/- The program's own reading of a real number. -/
namespace Go.Proofs.YtdhoimjkgicneacGreatDoor
open Go Go.RowKit

/-- How the library's reading of a whole number ends: the number, or an error beside some number. -/
def NumOf (r : Lib.NumEnd Int) (w : World) (e : Ending) (w' : World) : Prop :=
  ((∃ v, r = .ok v ∧ e = .returned (.tuple #[.int .i64 v, .nilIface])) ∨ ((∀ v, r ≠ .ok v) ∧ ∃ v t p, e = .returned (.tuple #[.int .i64 v, .iface t (.pointer p)]))) ∧ Below w.heap.size w w'

theorem bytes_below {w w' : World} (h : w' = w ∨ ∃ t, w' = Lib.bytesWorld w 5 t) : Below w.heap.size w w' := by
  rcases h with rfl | ⟨t, rfl⟩
  · exact Below.refl _ _
  · exact Joins.below_bytesWorld _ _ _ _ (Nat.le_refl _)

theorem lib_atoi (s : ByteArray) (w : World) (hs : s.size ≤ 6000) (T : RTab w) : Calls Tryz.prog 106 #[.string s] w (NumOf (Lib.atoiAll s.data.toList) w) := by
  cases h : Lib.atoiAll s.data.toList
  · rename_i v
    exact (Tryz.strconv_Atoi_ok s (by omega) v h w).mono fun e w' ⟨he, hw⟩ => ⟨Or.inl ⟨v, rfl, he⟩, bytes_below hw⟩
  · obtain ⟨te, pe, hv⟩ := T.es
    refine (Any.strconv_Atoi_syntax_var Tryz.laysC172 s (by omega) h te pe w hv).mono ?_
    rintro e w' ⟨N, he, -, -, hb⟩
    exact ⟨Or.inr ⟨(fun v hv => by cases hv), _, _, _, he⟩, hb⟩
  · obtain ⟨te, pe, hv⟩ := T.er
    refine (Tryz.strconv_Atoi_range s (by omega) h (.iface te pe) w hv (Or.inr ⟨te, pe, rfl⟩)).mono ?_
    rintro e w' ⟨N, he, -, -, hb⟩
    exact ⟨Or.inr ⟨(fun v hv => by cases hv), _, _, _, he⟩, hb⟩

theorem lib_parse (s : ByteArray) (w : World) (hs : s.size ≤ 6000) (T : RTab w) : Calls Tryz.prog 34 #[.string s, .int .i64 10, .int .i64 64] w (NumOf (Lib.parseIntB 64 s.data.toList) w) := by
  cases h : Lib.parseIntB 64 s.data.toList
  · rename_i v
    exact (Tryz.strconv_ParseInt_10_at64_ok s (by omega) v h w).mono fun e w' ⟨he, hw⟩ => ⟨Or.inl ⟨v, rfl, he⟩, bytes_below hw⟩
  · obtain ⟨te, pe, hv⟩ := T.es
    refine (Any.strconv_ParseInt_10_at64_syntax_var Tryz.laysC174 s (by omega) h te pe w hv).mono ?_
    rintro e w' ⟨N, he, -, -, hb⟩
    exact ⟨Or.inr ⟨(fun v hv => by cases hv), _, _, _, he⟩, hb⟩
  · obtain ⟨te, pe, hv⟩ := T.er
    refine (Tryz.strconv_ParseInt_10_at64_range s (by omega) h (.iface te pe) w hv (Or.inr ⟨te, pe, rfl⟩)).mono ?_
    rintro e w' ⟨N, he, -, -, hb⟩
    exact ⟨Or.inr ⟨(fun v hv => by cases hv), _, _, _, he⟩, hb⟩

/-- What the program's scan of a text leaves: some word, and the very one if the text is one's. -/
def ScanOf (l : List UInt8) (w : World) (e : Ending) (w' : World) : Prop := ∃ z, e = .returned (.float .f64 z) ∧ ((∀ y, Txt y l → Same z y) ∧ z < 18446744073709551616) ∧ Below w.heap.size w w'

theorem scan_of {l : List UInt8} {w w' : World} {z : Nat} (h : Txt z l) (hz : z < 18446744073709551616) (hb : Below w.heap.size w w') : ScanOf l w (.returned (.float .f64 z)) w' := ⟨z, rfl, ⟨fun _ hy => txt_same h hy, hz⟩, hb⟩

theorem odd_le {m k n c : Nat} (ho : n % 2 = 1) (hv : m * 2 ^ k = n * 2 ^ c) (hm : m < 9007199254740992) : n < 9007199254740992 := by
  by_cases hk : k ≤ c
  · have e : m * 2 ^ k = n * 2 ^ (c - k) * 2 ^ k := by rw [hv, Nat.mul_assoc, ← Nat.pow_add]; congr 2; omega
    have e2 := Nat.eq_of_mul_eq_mul_right (Nat.two_pow_pos k) e
    have : n ≤ m := by rw [e2]; exact Nat.le_mul_of_pos_right _ (Nat.two_pow_pos _)
    omega
  · exfalso
    have e : m * 2 ^ (k - c) * 2 ^ c = n * 2 ^ c := by rw [← hv, Nat.mul_assoc, ← Nat.pow_add]; congr 2; omega
    have e2 := Nat.eq_of_mul_eq_mul_right (Nat.two_pow_pos c) e
    have : 2 ^ (k - c) = 2 * 2 ^ (k - c - 1) := by rw [← Nat.pow_succ']; congr 1; omega
    rw [this, Nat.mul_left_comm] at e2
    omega

/-- A text that some number other than nought has. -/
def FinT (l : List UInt8) (s : Bool) (n c : Nat) : Prop := l = finL s n c ∧ n % 2 = 1 ∧ n < 9007199254740992 ∧ n * 2 ^ c < 2 ^ u98 ∧ c < 2098

theorem fin_of {s : Bool} {m k n c : Nat} {x : Nat} (h : Num x s m k) (ho : n % 2 = 1) (hv : m * 2 ^ k = n * 2 ^ c) : FinT (finL s n c) s n c :=
  ⟨rfl, ho, odd_le ho hv h.m53, by rw [← hv]; exact h.lt98, c_bound hv h.lt98 ho⟩

theorem txt_fin {l : List UInt8} {s : Bool} {n c z m k : Nat} (h : FinT l s n c) (hz : Num z s m k) (hv : m * 2 ^ k = n * 2 ^ c) : Txt z l := by
  obtain ⟨rfl, h1, h2, h3, h4⟩ := h
  refine Or.inr (Or.inr (Or.inr ⟨s, m, k, n, c, hz, ?_, h1, hv, rfl⟩))
  intro h0
  subst h0
  rw [Nat.zero_mul] at hv
  rcases Nat.mul_eq_zero.1 hv.symm with h | h
  · omega
  · exact absurd h (Nat.ne_of_gt (Nat.two_pow_pos _))

set_option maxHeartbeats 400000 in
theorem scan_words (s : ByteArray) (w : World) (h : s = ⟨#[110, 97, 110]⟩ ∨ s = ⟨#[105, 110, 102]⟩ ∨ s = ⟨#[45, 105, 110, 102]⟩ ∨ s = ⟨#[45, 48]⟩) :
    Calls Tryz.prog 67 #[.string s] w (ScanOf s.data.toList w) := by
  rcases h with rfl | rfl | rfl | rfl
  · go_enter Tryz.func67, Tryz.ntmps67
    go_wp2_with (go_at_call 103; refine (lib_nan _).mono ?_; rintro e w' ⟨rfl, rfl⟩)
    go_ret
    exact scan_of (Or.inl ⟨⟨false, 2251799813685249, by decide +kernel⟩, rfl⟩) (by decide) (Below.refl _ _)
  · go_enter Tryz.func67, Tryz.ntmps67
    go_wp2_with (go_at_call 104; refine (lib_inf _).mono ?_; rintro e w' ⟨rfl, rfl⟩)
    go_ret
    exact scan_of (Or.inr (Or.inl ⟨false, by decide +kernel, rfl⟩)) (by decide) (Below.refl _ _)
  · go_enter Tryz.func67, Tryz.ntmps67
    go_wp2_with (go_at_call 104; refine (lib_neg_inf _).mono ?_; rintro e w' ⟨rfl, rfl⟩)
    go_ret
    exact scan_of (Or.inr (Or.inl ⟨true, by decide +kernel, rfl⟩)) (by decide) (Below.refl _ _)
  · go_enter Tryz.func67, Tryz.ntmps67
    go_wp2_with (go_at_call 105; refine (impl_mzero _).mono ?_; rintro e w' ⟨rfl, rfl⟩)
    go_ret
    exact scan_of (Or.inr (Or.inr (Or.inl ⟨true, 0, ⟨by decide +kernel, by decide, by decide, Or.inl rfl⟩, rfl⟩))) (by decide) (Below.refl _ _)

end Go.Proofs.YtdhoimjkgicneacGreatDoor
