/- The text of a real number: the program's own, where the library's table lies as its text lays it. -/
import Derived.Test.YtighhijbhmakeaaDoorTxtC
import Derived.Test.YtighhijbhmakeaaDoorShelfB
import Derived.WalkSmall
namespace Go.Proofs.YtighhijbhmakeaaDoor
open Go Go.RowKit

/-- The library's variables that the program comes to lie in memory as its text lays them. -/
structure RTab (w : World) : Prop where
  zp : 4 < w.heap.size
  ze : 6 < w.heap.size
  zr : 7 < w.heap.size
  zm : 5 < w.heap.size
  tab : Lib.TabIs Tryd.prog w "internal/strconv.uint64pow10" .u64 Lib.pow10Tab
  es : ∃ te pe, w.var? Tryd.prog "strconv.ErrSyntax" = some #[.iface te pe]
  er : ∃ te pe, w.cell? ⟨7, 0, none⟩ = some (.iface te pe)
  mx : ∃ m, w.cell? ⟨5, 0, none⟩ = some (.int .i64 m)

theorem gSynR : Tryd.prog.globalNamed "strconv.ErrSyntax" = some 6 := by kernel_rfl
theorem gPowR : Tryd.prog.globalNamed "internal/strconv.uint64pow10" = some 4 := by kernel_rfl

theorem RTab.below {w w' : World} {B : Nat} (T : RTab w) (hb : Below B w w') (hB : w.heap.size ≤ B) : RTab w' := by
  have h : ∀ k, k < w.heap.size → w'.heap[k]? = w.heap[k]? := fun k hk => hb.block k (by omega)
  have hs := hb.size
  have hc : ∀ (b o : Nat), b < w.heap.size → w'.cell? ⟨b, o, none⟩ = w.cell? ⟨b, o, none⟩ := fun b o hb => World.cell?_of_block (h b hb)
  have h1 := T.zp
  have h2 := T.ze
  have h3 := T.zr
  have h4 := T.zm
  refine ⟨by omega, by omega, by omega, by omega, ?_, ?_, ?_, ?_⟩
  · have ht := T.tab
    unfold Lib.TabIs World.var? at ht ⊢
    simp only [gPowR, Option.bind_some] at ht ⊢
    rw [h _ T.zp]
    exact ht
  · obtain ⟨te, pe, hv⟩ := T.es
    refine ⟨te, pe, ?_⟩
    unfold World.var? at hv ⊢
    simp only [gSynR, Option.bind_some] at hv ⊢
    rw [h _ T.ze]
    exact hv
  · rw [hc _ _ T.zr]; exact T.er
  · rw [hc _ _ T.zm]; exact T.mx

theorem RTab.drewN {w : World} (T : RTab w) (n : Nat) : RTab (w.drewN n) := T.below (below_drewN (Below.refl w.heap.size w) n) (Nat.le_refl _)

theorem grow_belowR (w : World) (k : Nat) (os : Array Obj) : Below w.heap.size w (Sort.grow (w.drewN k) os) :=
  ⟨rfl, rfl, rfl, by show w.heap.size ≤ (w.heap ++ os).size; simp, fun i hi => by show (w.heap ++ os)[i]? = w.heap[i]?; rw [Array.getElem?_append_left hi]⟩

theorem impl_itoaR (n : Int) (w : World) (h1 : -9223372036854775808 ≤ n) (h2 : n ≤ 9223372036854775807) (T : RTab w) :
    Calls Tryd.prog 36 #[.int .i64 n] w fun e w' => e = .returned (.string ⟨(Lib.itoa n).toArray⟩) ∧ Below w.heap.size w w' :=
  (Tryd.strconv_Itoa n h1 h2 w T.tab).mono fun e w' ⟨he, k, os, hw⟩ => ⟨he, by rw [hw]; exact grow_belowR w k os⟩
theorem impl_format (n : Int) (w : World) (h1 : -9223372036854775808 ≤ n) (h2 : n ≤ 9223372036854775807) (T : RTab w) :
    Calls Tryd.prog 56 #[.int .i64 n, .int .i64 10] w fun e w' => e = .returned (.string ⟨(Lib.itoa n).toArray⟩) ∧ Below w.heap.size w w' :=
  (Tryd.strconv_FormatInt_10 n h1 h2 w T.tab).mono fun e w' ⟨he, k, os, hw⟩ => ⟨he, by rw [hw]; exact grow_belowR w k os⟩

section
open Ieee

theorem num_zero : Num 0 false 0 0 := ⟨by decide +kernel, by decide, by decide, Or.inl rfl⟩
theorem num_max : Num 9218868437227405311 false 9007199254740991 2045 := ⟨by decide +kernel, by decide, by decide, Or.inr (by decide)⟩

theorem read_neg (x : Nat) : double.read (Op.negFloat .f64 x) = (double.read x).opposite := by
  have e : Op.negFloat .f64 x = x ^^^ 2 ^ 63 := rfl
  have h1 : (x ^^^ 2 ^ 63) % 9223372036854775808 = x % 9223372036854775808 := by
    rw [show (9223372036854775808 : Nat) = 2 ^ 63 from by decide +kernel, Nat.xor_mod_two_pow, Nat.mod_self, Nat.xor_zero]
  have h2 : ((x ^^^ 2 ^ 63) / 9223372036854775808 % 2 == 1) = !(x / 9223372036854775808 % 2 == 1) := by
    rw [show (9223372036854775808 : Nat) = 2 ^ 63 from by decide +kernel, Nat.xor_div_two_pow, Nat.div_self (Nat.two_pow_pos _)]
    obtain ⟨a, ha⟩ : ∃ a, x / 2 ^ 63 = a := ⟨_, rfl⟩
    rw [ha]
    have hx : (a ^^^ 1) % 2 = a % 2 ^^^ 1 % 2 := Nat.xor_mod_two_pow (n := 1)
    rw [hx]
    have : a % 2 = 0 ∨ a % 2 = 1 := by omega
    rcases this with h | h
    · rw [h]; rfl
    · rw [h]; rfl
  rw [e]
  simp only [Format.read, d_sw, d_bin, d_inf, h1, h2]
  split
  · rfl
  · split
    · rfl
    · split <;> rfl

theorem Num.neg {x m k : Nat} {s : Bool} (h : Num x s m k) : Num (Op.negFloat .f64 x) (!s) m k := ⟨by rw [read_neg, h.read]; rfl, h.m53, h.k45, h.norm⟩

theorem Num.self {x m k : Nat} {s : Bool} (h : Num x s m k) : FloatKind.f64.format.order x x = some .eq := ord_eq h.val h.val rfl

theorem inf_self {x : Nat} {s : Bool} (h : double.read x = .infinity s) : FloatKind.f64.format.order x x = some .eq := by
  show double.order x x = _
  simp [Format.order, h, Datum.order]
theorem inf_zero {x : Nat} {s : Bool} (h : double.read x = .infinity s) : FloatKind.f64.format.order x 0 = some (if s then .lt else .gt) := by
  show double.order x 0 = _
  simp only [Format.order, h, num_zero.read, Datum.order]
theorem inf_max {x : Nat} (h : double.read x = .infinity false) : FloatKind.f64.format.order x 9218868437227405311 = some .gt := by
  show double.order x _ = _
  simp only [Format.order, h, num_max.read, Datum.order]
  rfl

theorem Num.zero {x m k : Nat} {s : Bool} (h : Num x s m k) : FloatKind.f64.format.order x 0 = some (if m = 0 then .eq else if s then .lt else .gt) := by
  have e : FloatKind.f64.format.order x 0 = some (compare (sg s (m * 2 ^ k)) (sg false (0 * 2 ^ 0))) := order_val h.val num_zero.val
  rw [e]
  by_cases hm : m = 0
  · subst hm; cases s <;> simp [sg]
  · have hp : 0 < m * 2 ^ k := Nat.pos_of_ne_zero (Nat.mul_ne_zero hm (Nat.ne_of_gt (Nat.two_pow_pos _)))
    rw [if_neg hm]
    cases s
    · rw [cmp_gt.2 (by simp only [sg, Bool.false_eq_true, if_false]; omega)]; rfl
    · rw [cmp_lt.2 (by simp only [sg, Bool.false_eq_true, if_false, if_true]; omega)]; rfl

theorem Num.max {x m k : Nat} {s : Bool} (h : Num x s m k) : (FloatKind.f64.format.order x 9218868437227405311 == some .gt) = false := by
  obtain ⟨K, hK⟩ : ∃ K, K = 2045 := ⟨_, rfl⟩
  have hn : Num 9218868437227405311 false 9007199254740991 K := by rw [hK]; exact num_max
  have e : FloatKind.f64.format.order x 9218868437227405311 = some (compare (sg s (m * 2 ^ k)) (sg false (9007199254740991 * 2 ^ K))) := order_val h.val hn.val
  have hle : m * 2 ^ k ≤ 9007199254740991 * 2 ^ K := Nat.mul_le_mul (by have := h.m53; omega) (Nat.pow_le_pow_right (by omega) (by have := h.k45; omega))
  have hle2 : sg s (m * 2 ^ k) ≤ sg false (9007199254740991 * 2 ^ K) := by cases s <;> simp only [sg, Bool.false_eq_true, if_false, if_true] <;> omega
  rw [e]
  rcases Int.lt_or_eq_of_le hle2 with g | g
  · rw [cmp_lt.2 g]; rfl
  · rw [g]; simp

end

theorem ret_strR {a b : ByteArray} (h : a = b) : Ending.returned (.string a) = .returned (.string b) := by rw [h]

/-- What a text of a real number leaves. -/
def Wrote (x : Nat) (w : World) (e : Ending) (w' : World) : Prop := ∃ l, e = .returned (.string ⟨l.toArray⟩) ∧ Txt x l ∧ l.length ≤ 50 ∧ Below w.heap.size w w'

set_option maxHeartbeats 400000 in
theorem text_nan (x : Nat) (w : World) (h : ∃ s t, Ieee.double.read x = .nan s t) : Calls Tryd.prog 24 #[.float .f64 x] w (Wrote x w) := by
  have h1 : (FloatKind.f64.format.order x x != some .eq) = true := by
    obtain ⟨s, t, h⟩ := h
    have : FloatKind.f64.format.order x x = none := order_nan_left h
    rw [this]; rfl
  have H : Hid (∃ s t, Ieee.double.read x = .nan s t) := h
  clear h
  go_enter Tryd.func24, Tryd.ntmps24
  go_wp2_with fail
  go_ret
  exact ⟨[110, 97, 110], rfl, Or.inl ⟨H.out, rfl⟩, by decide, Below.refl _ _⟩

set_option maxHeartbeats 400000 in
theorem text_inf (x : Nat) (w : World) (h : Ieee.double.read x = .infinity false) : Calls Tryd.prog 24 #[.float .f64 x] w fun e w' => e = .returned (.string ⟨#[105, 110, 102]⟩) ∧ w' = w := by
  have h1 : (FloatKind.f64.format.order x x != some .eq) = false := by rw [inf_self h]; rfl
  have h2 : (FloatKind.f64.format.order x 0 == some .lt) = false := by rw [inf_zero h]; rfl
  have h3 : (FloatKind.f64.format.order x 9218868437227405311 == some .gt) = true := by rw [inf_max h]; rfl
  clear h
  go_enter Tryd.func24, Tryd.ntmps24
  go_wp2_with fail
  go_ret
  exact ⟨rfl, rfl⟩

theorem itoa_nat (n : Nat) : Lib.itoa (n : Int) = Lib.decDigits n := by unfold Lib.itoa; rw [if_neg (by omega)]; rfl
theorem c_bound {V n c : Nat} (h : V = n * 2 ^ c) (hV : V < 2 ^ u98) (hn : n % 2 = 1) : c < 2098 := by
  have h1 : (2 : Nat) ^ c < 2 ^ u98 := by
    refine Nat.lt_of_le_of_lt ?_ hV
    rw [h]
    exact Nat.le_mul_of_pos_left _ (by omega)
  have := (Nat.pow_lt_pow_iff_right (a := 2) (by omega)).1 h1
  have := u98_eq
  omega
theorem itoa_len5 {n : Int} (h1 : -9999 ≤ n) (h2 : n ≤ 9999) : (Lib.itoa n).length ≤ 5 := by
  unfold Lib.itoa
  split
  · have := dd_len 3 n.natAbs (by omega)
    simp; omega
  · have := dd_len 3 n.toNat (by omega)
    omega

set_option maxHeartbeats 800000 in
theorem text_pos (x m k : Nat) (w : World) (T : RTab w) (h : Num x false m k) (h0 : m ≠ 0) :
    Calls Tryd.prog 24 #[.float .f64 x] w fun e w' => ∃ n c, e = .returned (.string ⟨(finL false n c).toArray⟩) ∧ n % 2 = 1 ∧ n < 9007199254740992 ∧ m * 2 ^ k = n * 2 ^ c ∧ Below w.heap.size w w' := by
  have h1 : (FloatKind.f64.format.order x x != some .eq) = false := by rw [h.self]; rfl
  have h2 : (FloatKind.f64.format.order x 0 == some .lt) = false := by rw [h.zero, if_neg h0]; rfl
  have h3 := h.max
  have h4 : (FloatKind.f64.format.order x 0 == some .gt) = true := by rw [h.zero, if_neg h0]; rfl
  have H : Hid (Num x false m k) := h
  clear h
  go_enter Tryd.func24, Tryd.ntmps24
  go_wp2_with fail
  refine (impl_parts x m k w H.out h0).mono ?_
  rintro e w1 ⟨n, c, rfl, n1, n2, hv, rfl⟩
  have hc := c_bound hv H.out.lt98 n1
  have HV : Hid (m * 2 ^ k = n * 2 ^ c) := hv
  clear hv
  go_wp2_with fail
  refine (impl_format n w1 (by omega) (by omega) T).mono ?_
  rintro e w2 ⟨rfl, hb2⟩
  rw [itoa_nat]
  have B2 : Hid (Below w1.heap.size w1 w2) := hb2
  have T2 : Hid (RTab w2) := T.below hb2 (Nat.le_refl _)
  clear hb2
  have hl1 := dd_len 15 n (by omega)
  have hl2 := itoa_len5 (n := (c : Int) - 1074) (by omega) (by omega)
  go_wp2_with fail
  refine (impl_itoaR ((c : Int) - 1074) w2 (by omega) (by omega) T2.out).mono ?_
  rintro e w3 ⟨rfl, hb3⟩
  have B3 : Hid (Below w1.heap.size w1 w3) := B2.out.trans (hb3.mono B2.out.size)
  clear hb3
  go_wp2_with fail
  go_ret
  refine ⟨n, c, ret_strR ?_, n1, n2, HV.out, B3.out⟩
  rw [show (⟨#[42, 50, 94]⟩ : ByteArray) = ⟨([42, 50, 94] : List UInt8).toArray⟩ from rfl, str_cat, str_cat]
  simp [finL, sgnL]

end Go.Proofs.YtighhijbhmakeaaDoor
