/- Texts of this proof laid together: TxtD, TxtE, TxtF. -/
import Derived.Test.YtdhoimjkgicneaaGreatDoorLot20
import Derived.WalkSmall
import Derived.Test.YtdhoimjkgicneaaGreatDoorLot9
/- The text of a real number: the program's own, where the library's table lies as its text lays it. -/
namespace Go.Proofs.YtdhoimjkgicneaaGreatDoor
open Go Go.RowKit

/-- The library's variables that the program comes to lie in memory as its text lays them. -/
structure RTab (w : World) : Prop where
  zp : 2 < w.heap.size
  ze : 4 < w.heap.size
  zr : 5 < w.heap.size
  zm : 3 < w.heap.size
  tab : Lib.TabIs Tryz.prog w "internal/strconv.uint64pow10" .u64 Lib.pow10Tab
  es : ∃ te pe, w.var? Tryz.prog "strconv.ErrSyntax" = some #[.iface te pe]
  er : ∃ te pe, w.cell? ⟨5, 0, none⟩ = some (.iface te pe)
  mx : ∃ m, w.cell? ⟨3, 0, none⟩ = some (.int .i64 m)

theorem gSynR : Tryz.prog.globalNamed "strconv.ErrSyntax" = some 4 := by kernel_rfl
theorem gPowR : Tryz.prog.globalNamed "internal/strconv.uint64pow10" = some 2 := by kernel_rfl

theorem RTab.below {w w' : World} {B : Nat} (T : RTab w) (hb : Below B w w') (hB : w.heap.size ≤ B) : RTab w' := by
  have h : ∀ k, k < w.heap.size → w'.heap[k]? = w.heap[k]? := fun k hk => hb.block k (by omega)
  have hs := hb.size
  have hc : ∀ (b o : Nat), b < w.heap.size → w'.cell? ⟨b, o, none⟩ = w.cell? ⟨b, o, none⟩ := fun b o hb => World.cell?_of_block (h b hb)
  have h1 := T.zp
  have h2 := T.ze
  have h3 := T.zr
  have h4 := T.zm
  refine ⟨by omega, by omega, by omega, by omega, ?_, ?_, ?_, ?_⟩
  · have ht := T.tab
    unfold Lib.TabIs World.var? at ht ⊢
    simp only [gPowR, Option.bind_some] at ht ⊢
    rw [h _ T.zp]
    exact ht
  · obtain ⟨te, pe, hv⟩ := T.es
    refine ⟨te, pe, ?_⟩
    unfold World.var? at hv ⊢
    simp only [gSynR, Option.bind_some] at hv ⊢
    rw [h _ T.ze]
    exact hv
  · rw [hc _ _ T.zr]; exact T.er
  · rw [hc _ _ T.zm]; exact T.mx

theorem RTab.drewN {w : World} (T : RTab w) (n : Nat) : RTab (w.drewN n) := T.below (below_drewN (Below.refl w.heap.size w) n) (Nat.le_refl _)

theorem grow_belowR (w : World) (k : Nat) (os : Array Obj) : Below w.heap.size w (Sort.grow (w.drewN k) os) :=
  ⟨rfl, rfl, rfl, by show w.heap.size ≤ (w.heap ++ os).size; simp, fun i hi => by show (w.heap ++ os)[i]? = w.heap[i]?; rw [Array.getElem?_append_left hi]⟩

theorem impl_itoaR (n : Int) (w : World) (h1 : -9223372036854775808 ≤ n) (h2 : n ≤ 9223372036854775807) (T : RTab w) :
    Calls Tryz.prog 34 #[.int .i64 n] w fun e w' => e = .returned (.string ⟨(Lib.itoa n).toArray⟩) ∧ Below w.heap.size w w' :=
  (Tryz.strconv_Itoa n h1 h2 w T.tab).mono fun e w' ⟨he, k, os, hw⟩ => ⟨he, by rw [hw]; exact grow_belowR w k os⟩
theorem impl_format (n : Int) (w : World) (h1 : -9223372036854775808 ≤ n) (h2 : n ≤ 9223372036854775807) (T : RTab w) :
    Calls Tryz.prog 71 #[.int .i64 n, .int .i64 10] w fun e w' => e = .returned (.string ⟨(Lib.itoa n).toArray⟩) ∧ Below w.heap.size w w' :=
  (Tryz.strconv_FormatInt_10 n h1 h2 w T.tab).mono fun e w' ⟨he, k, os, hw⟩ => ⟨he, by rw [hw]; exact grow_belowR w k os⟩

set_option maxHeartbeats 400000 in
theorem text_nan (x : Nat) (w : World) (h : ∃ s t, Ieee.double.read x = .nan s t) : Calls Tryz.prog 35 #[.float .f64 x] w (Wrote x w) := by
  have h1 : (FloatKind.f64.format.order x x != some .eq) = true := by
    obtain ⟨s, t, h⟩ := h
    have : FloatKind.f64.format.order x x = none := order_nan_left h
    rw [this]; rfl
  have H : Hid (∃ s t, Ieee.double.read x = .nan s t) := h
  clear h
  go_enter Tryz.func35, Tryz.ntmps35
  go_wp2_with fail
  go_ret
  exact ⟨[110, 97, 110], rfl, Or.inl ⟨H.out, rfl⟩, by decide, Below.refl _ _⟩

set_option maxHeartbeats 400000 in
theorem text_inf (x : Nat) (w : World) (h : Ieee.double.read x = .infinity false) : Calls Tryz.prog 35 #[.float .f64 x] w fun e w' => e = .returned (.string ⟨#[105, 110, 102]⟩) ∧ w' = w := by
  have h1 : (FloatKind.f64.format.order x x != some .eq) = false := by rw [inf_self h]; rfl
  have h2 : (FloatKind.f64.format.order x 0 == some .lt) = false := by rw [inf_zero h]; rfl
  have h3 : (FloatKind.f64.format.order x 9218868437227405311 == some .gt) = true := by rw [inf_max h]; rfl
  clear h
  go_enter Tryz.func35, Tryz.ntmps35
  go_wp2_with fail
  go_ret
  exact ⟨rfl, rfl⟩

set_option maxHeartbeats 800000 in
theorem text_pos (x m k : Nat) (w : World) (T : RTab w) (h : Num x false m k) (h0 : m ≠ 0) :
    Calls Tryz.prog 35 #[.float .f64 x] w fun e w' => ∃ n c, e = .returned (.string ⟨(finL false n c).toArray⟩) ∧ n % 2 = 1 ∧ n < 9007199254740992 ∧ m * 2 ^ k = n * 2 ^ c ∧ Below w.heap.size w w' := by
  have h1 : (FloatKind.f64.format.order x x != some .eq) = false := by rw [h.self]; rfl
  have h2 : (FloatKind.f64.format.order x 0 == some .lt) = false := by rw [h.zero, if_neg h0]; rfl
  have h3 := h.max
  have h4 : (FloatKind.f64.format.order x 0 == some .gt) = true := by rw [h.zero, if_neg h0]; rfl
  have H : Hid (Num x false m k) := h
  clear h
  go_enter Tryz.func35, Tryz.ntmps35
  go_wp2_with fail
  refine (impl_parts x m k w H.out h0).mono ?_
  rintro e w1 ⟨n, c, rfl, n1, n2, hv, rfl⟩
  have hc := c_bound hv H.out.lt98 n1
  have HV : Hid (m * 2 ^ k = n * 2 ^ c) := hv
  clear hv
  go_wp2_with fail
  refine (impl_format n w1 (by omega) (by omega) T).mono ?_
  rintro e w2 ⟨rfl, hb2⟩
  rw [itoa_nat]
  have B2 : Hid (Below w1.heap.size w1 w2) := hb2
  have T2 : Hid (RTab w2) := T.below hb2 (Nat.le_refl _)
  clear hb2
  have hl1 := dd_len 15 n (by omega)
  have hl2 := itoa_len5 (n := (c : Int) - 1074) (by omega) (by omega)
  go_wp2_with fail
  refine (impl_itoaR ((c : Int) - 1074) w2 (by omega) (by omega) T2.out).mono ?_
  rintro e w3 ⟨rfl, hb3⟩
  have B3 : Hid (Below w1.heap.size w1 w3) := B2.out.trans (hb3.mono B2.out.size)
  clear hb3
  go_wp2_with fail
  go_ret
  refine ⟨n, c, ret_strR ?_, n1, n2, HV.out, B3.out⟩
  rw [show (⟨#[42, 50, 94]⟩ : ByteArray) = ⟨([42, 50, 94] : List UInt8).toArray⟩ from rfl, str_cat, str_cat]
  simp [finL, sgnL]

end Go.Proofs.YtdhoimjkgicneaaGreatDoor

/- The text of any real number, the program's own; and the law's own sameness. -/
namespace Go.Proofs.YtdhoimjkgicneaaGreatDoor
open Go Go.RowKit

set_option maxHeartbeats 400000 in
theorem text_zero (x k : Nat) (s : Bool) (w : World) (h : Num x s 0 k) : Calls Tryz.prog 35 #[.float .f64 x] w (Wrote x w) := by
  have h1 : (FloatKind.f64.format.order x x != some .eq) = false := by rw [h.self]; rfl
  have h2 : (FloatKind.f64.format.order x 0 == some .lt) = false := by rw [h.zero]; rfl
  have h3 := h.max
  have h4 : (FloatKind.f64.format.order x 0 == some .gt) = false := by rw [h.zero]; rfl
  have hd := div_one_zero h
  obtain ⟨r, hr⟩ : ∃ r, r = Ieee.double.word s 9218868437227405312 := ⟨_, rfl⟩
  have hi : Ieee.double.read r = .infinity s := by rw [hr]; exact word_inf s
  rw [← hr] at hd
  have q : ∀ t w, (binOp .quo t (.float .f64 4607182418800017408) (.float .f64 x)).run Tryz.prog w = .ok (.float .f64 r) w := fun t w => run_float_arith w .quo t .f64 _ _ _ hd
  have H : Hid (Num x s 0 k) := h
  clear h hr hd
  cases s with
  | false =>
    have h5 : (FloatKind.f64.format.order r 0 == some .lt) = false := by rw [inf_zero hi]; rfl
    clear hi
    go_enter Tryz.func35, Tryz.ntmps35
    go_wp2_with fail
    go_ret
    exact ⟨[48], rfl, Or.inr (Or.inr (Or.inl ⟨false, k, H.out, rfl⟩)), by decide, Below.refl _ _⟩
  | true =>
    have h5 : (FloatKind.f64.format.order r 0 == some .lt) = true := by rw [inf_zero hi]; rfl
    clear hi
    go_enter Tryz.func35, Tryz.ntmps35
    go_wp2_with fail
    go_ret
    exact ⟨[45, 48], rfl, Or.inr (Or.inr (Or.inl ⟨true, k, H.out, rfl⟩)), by decide, Below.refl _ _⟩

theorem text_nonneg (x : Nat) (w : World) (T : RTab w) (h : Ieee.double.read x = .infinity false ∨ ∃ m k, Num x false m k ∧ m ≠ 0) : Calls Tryz.prog 35 #[.float .f64 x] w (fun e w' => ∃ l, e = .returned (.string ⟨l.toArray⟩) ∧ Txt x l ∧ l.length ≤ 40 ∧ Below w.heap.size w w') := by
  rcases h with h | ⟨m, k, h, h0⟩
  · exact (text_inf x w h).mono fun e w' ⟨he, hw⟩ => ⟨[105, 110, 102], he, Or.inr (Or.inl ⟨false, h, rfl⟩), by decide, by rw [hw]; exact Below.refl _ _⟩
  · refine (text_pos x m k w T h h0).mono ?_
    rintro e w' ⟨n, c, he, n1, n2, hv, hb⟩
    have := finL_bd (s := false) n2 (c_bound hv h.lt98 n1)
    exact ⟨_, he, Or.inr (Or.inr (Or.inr ⟨false, m, k, n, c, h, h0, n1, hv, rfl⟩)), by omega, hb⟩

set_option maxHeartbeats 400000 in
theorem text_minus (x : Nat) (w : World) (T : RTab w) (h : Ieee.double.read x = .infinity true ∨ ∃ m k, Num x true m k ∧ m ≠ 0) : Calls Tryz.prog 35 #[.float .f64 x] w (Wrote x w) := by
  have h1 : (FloatKind.f64.format.order x x != some .eq) = false := by
    rcases h with h | ⟨m, k, h, h0⟩
    · rw [inf_self h]; rfl
    · rw [h.self]; rfl
  have h2 : (FloatKind.f64.format.order x 0 == some .lt) = true := by
    rcases h with h | ⟨m, k, h, h0⟩
    · rw [inf_zero h]; rfl
    · rw [h.zero, if_neg h0]; rfl
  have hn : Hid (Ieee.double.read (Op.negFloat .f64 x) = .infinity false ∨ ∃ m k, Num (Op.negFloat .f64 x) false m k ∧ m ≠ 0) := by
    rcases h with h | ⟨m, k, h, h0⟩
    · exact Or.inl (by rw [read_neg, h]; rfl)
    · exact Or.inr ⟨m, k, h.neg, h0⟩
  have H : Hid (Ieee.double.read x = .infinity true ∨ ∃ m k, Num x true m k ∧ m ≠ 0) := h
  have ng : Op.unary .neg (.float .f64 x) = pure (.float .f64 (Op.negFloat .f64 x)) := rfl
  clear h
  go_enter Tryz.func35, Tryz.ntmps35
  go_wp2_with fail
  refine (text_nonneg (Op.negFloat .f64 x) w T hn.out).mono ?_
  rintro e w1 ⟨l, rfl, hl, hlen, hb⟩
  have HL : Hid (Txt (Op.negFloat .f64 x) l) := hl
  have B : Hid (Below w.heap.size w w1) := hb
  clear hl hb
  go_wp2_with fail
  go_ret
  refine ⟨45 :: l, ret_strR ?_, txt_minus H.out HL.out, by simp; omega, B.out⟩
  rw [show (⟨#[45]⟩ : ByteArray) = ⟨([45] : List UInt8).toArray⟩ from rfl, str_cat]
  rfl

theorem text_any (x : Nat) (w : World) (T : RTab w) : Calls Tryz.prog 35 #[.float .f64 x] w (Wrote x w) := by
  rcases read_cases x with ⟨s, m, k, h⟩ | ⟨s, h⟩ | h
  · by_cases h0 : m = 0
    · subst h0; exact text_zero x k s w h
    · cases s
      · exact (text_nonneg x w T (Or.inr ⟨m, k, h, h0⟩)).mono fun e w' ⟨l, a, b, c, d⟩ => ⟨l, a, b, by omega, d⟩
      · exact text_minus x w T (Or.inr ⟨m, k, h, h0⟩)
  · cases s
    · exact (text_nonneg x w T (Or.inl h)).mono fun e w' ⟨l, a, b, c, d⟩ => ⟨l, a, b, by omega, d⟩
    · exact text_minus x w T (Or.inl h)
  · exact text_nan x w h

end Go.Proofs.YtdhoimjkgicneaaGreatDoor

/- The program's own reading of a real number: powers of two. -/
namespace Go.Proofs.YtdhoimjkgicneaaGreatDoor
open Go Go.RowKit

/-- What the program's powers of two leave: some word; and which. -/
def TimesAny (w : World) (r : Ending) (w' : World) : Prop := ∃ z d, r = .returned (.float .f64 z) ∧ z < 18446744073709551616 ∧ w' = w.drewN d
def TimesFin (s : Bool) (n c : Nat) (w : World) (r : Ending) (w' : World) : Prop := ∃ z m k, r = .returned (.float .f64 z) ∧ (Num z s m k ∧ z < 18446744073709551616) ∧ m * 2 ^ k = n * 2 ^ c ∧ w' = w

set_option maxHeartbeats 400000 in
theorem times_any (x : Nat) (e : Int) (w : World) (hx : x < 18446744073709551616) (h1 : -1074 ≤ e) (h2 : e ≤ 1023) :
    Calls Tryz.prog 125 #[.float .f64 x, .int .i64 e] w (TimesAny w) := by
  go_enter Tryz.func125, Tryz.ntmps125
  go_wp2
  go_loopw [0, 1] (fun f i wr => ∃ (g : Nat) (k : Int) (d : Nat), f = .float .f64 g ∧ i = .int .i64 k ∧ -1074 ≤ k ∧ k ≤ 1023 ∧ g < 18446744073709551616 ∧ wr = w.drewN d) (fun _ i _ => (intOf i).toNat)
  case atStart => exact ⟨x, e, 0, rfl, rfl, h1, h2, hx, rfl⟩
  case round =>
    obtain ⟨g, k, d, rfl, rfl, k1, k2, hg, rfl⟩ := hrel
    by_cases hlt : 0 < k
    · have q := mul_any Tryz.prog g 4611686018427387904
      go_wp2
      go_roundw
      case rel => exact ⟨_, k - 1, _, rfl, by go_num, by omega, by omega, got_lt _ _ _ _, rfl⟩
      case measure => simp [intOf]; omega
    · go_wp2
      go_loopw [0, 1] (fun f i wr => ∃ (g : Nat) (k : Int) (d : Nat), f = .float .f64 g ∧ i = .int .i64 k ∧ -1074 ≤ k ∧ k ≤ 0 ∧ g < 18446744073709551616 ∧ wr = w.drewN d) (fun _ i _ => (-(intOf i)).toNat)
      case atStart => exact ⟨g, k, d, rfl, rfl, k1, by omega, hg, rfl⟩
      case round =>
        obtain ⟨g, k, d, rfl, rfl, k1, k2, hg, rfl⟩ := hrel
        by_cases hlt : k < 0
        · have q := quo_any Tryz.prog g 4611686018427387904
          go_wp2
          go_roundw
          case rel => exact ⟨_, k + 1, _, rfl, by go_num, by omega, by omega, got_lt _ _ _ _, rfl⟩
          case measure => simp [intOf]; omega
        · go_wp2
          go_ret
          exact ⟨_, _, rfl, hg, rfl⟩

theorem up_step {g m k n q : Nat} {s : Bool} (h : Num g s m k) (hv : m * 2 ^ k = n * 2 ^ q) (hb : n * 2 ^ (q + 1) < 2 ^ u98) :
    ∃ r m' k', floatBits .mul .f64 g 4611686018427387904 = some r ∧ Num r s m' k' ∧ m' * 2 ^ k' = n * 2 ^ (q + 1) := by
  have e : m * 2 ^ (k + 1) = n * 2 ^ (q + 1) := by rw [Nat.pow_succ, ← Nat.mul_assoc, hv, Nat.pow_succ, Nat.mul_assoc]
  obtain ⟨r, m', k', r1, r2, r3⟩ := mul_two h (by rw [e]; exact hb)
  exact ⟨r, m', k', r1, r2, by rw [r3, e]⟩

theorem down_step {g m k n q : Nat} {s : Bool} (h : Num g s m k) (hv : m * 2 ^ k = n * 2 ^ (q + 1)) (hn : n < 9007199254740992) :
    ∃ r m' k', floatBits .quo .f64 g 4611686018427387904 = some r ∧ Num r s m' k' ∧ m' * 2 ^ k' = n * 2 ^ q :=
  div_two h hv hn

theorem pow_bound {n c q : Nat} (h : n * 2 ^ c < 2 ^ u98) (hq : q ≤ c) : n * 2 ^ q < 2 ^ u98 :=
  Nat.lt_of_le_of_lt (Nat.mul_le_mul_left _ (Nat.pow_le_pow_right (by omega) hq)) h

set_option maxHeartbeats 800000 in
theorem times_fin (g0 m0 k0 n c : Nat) (s : Bool) (w : World) (h : Num g0 s m0 k0) (hg : g0 < 18446744073709551616) (hv : m0 * 2 ^ k0 = n * 2 ^ u74) (hn : n < 9007199254740992) (hc : n * 2 ^ c < 2 ^ u98) (hc2 : c < 2098) :
    Calls Tryz.prog 125 #[.float .f64 g0, .int .i64 ((c : Int) - 1074)] w (TimesFin s n c w) := by
  have HC : Hid (n * 2 ^ c < 2 ^ u98) := hc
  have H0 : Hid ((Num g0 s m0 k0 ∧ g0 < 18446744073709551616) ∧ m0 * 2 ^ k0 = n * 2 ^ u74) := ⟨⟨h, hg⟩, hv⟩
  have hu := u74_eq
  obtain ⟨u, hue⟩ : ∃ u, u = u74 := ⟨_, rfl⟩
  rw [← hue] at hu H0
  clear hc h hv hue hg
  go_enter Tryz.func125, Tryz.ntmps125
  go_wp2
  go_loop [0, 1] (fun f i => ∃ g m k q : Nat, f = .float .f64 g ∧ i = .int .i64 ((c : Int) - q) ∧ (Num g s m k ∧ g < 18446744073709551616) ∧ m * 2 ^ k = n * 2 ^ q ∧ u ≤ q ∧ (q ≤ c ∨ q = u)) (fun _ i => (intOf i).toNat)
  case atStart => exact ⟨g0, m0, k0, u, rfl, by rw [hu]; rfl, H0.out.1, H0.out.2, by omega, Or.inr rfl⟩
  case round =>
    obtain ⟨g, m, k, q, rfl, rfl, hN, hV, hq1, hq2⟩ := hrel
    by_cases hlt : q < c
    · obtain ⟨r, m', k', r1, r2, r3⟩ := up_step hN.1 hV (pow_bound HC.out (by omega))
      have f : ∀ t w, (binOp .mul t (.float .f64 g) (.float .f64 4611686018427387904)).run Tryz.prog w = .ok (.float .f64 r) w := fun t w => run_float_arith w .mul t .f64 _ _ _ r1
      have R : Hid ((Num r s m' k' ∧ r < 18446744073709551616) ∧ m' * 2 ^ k' = n * 2 ^ (q + 1)) := ⟨⟨r2, bits_lt r1⟩, r3⟩
      clear r1 r2 r3 hN hV
      go_wp2
      go_round
      case rel => exact ⟨r, m', k', q + 1, rfl, by go_num, R.out.1, R.out.2, by omega, by omega⟩
      case measure => simp [intOf]; omega
    · have R0 : Hid ((Num g s m k ∧ g < 18446744073709551616) ∧ m * 2 ^ k = n * 2 ^ q) := ⟨hN, hV⟩
      clear hN hV HC H0
      go_wp2
      go_loop [0, 1] (fun f i => ∃ g m k q : Nat, f = .float .f64 g ∧ i = .int .i64 ((c : Int) - q) ∧ (Num g s m k ∧ g < 18446744073709551616) ∧ m * 2 ^ k = n * 2 ^ q ∧ c ≤ q ∧ q ≤ 2098) (fun _ i => (-(intOf i)).toNat)
      case atStart => exact ⟨g, m, k, q, rfl, rfl, R0.out.1, R0.out.2, by omega, by omega⟩
      case round =>
        obtain ⟨g, m, k, q, rfl, rfl, hN, hV, hq1, hq2⟩ := hrel
        by_cases hlt : c < q
        · obtain ⟨p, hp⟩ : ∃ p, q = p + 1 := ⟨q - 1, by omega⟩
          rw [hp] at hV
          obtain ⟨r, m', k', r1, r2, r3⟩ := down_step hN.1 hV hn
          have f : ∀ t w, (binOp .quo t (.float .f64 g) (.float .f64 4611686018427387904)).run Tryz.prog w = .ok (.float .f64 r) w := fun t w => run_float_arith w .quo t .f64 _ _ _ r1
          have R : Hid ((Num r s m' k' ∧ r < 18446744073709551616) ∧ m' * 2 ^ k' = n * 2 ^ p) := ⟨⟨r2, bits_lt r1⟩, r3⟩
          clear r1 r2 r3 hN hV hn
          go_wp2
          go_round
          case rel => exact ⟨r, m', k', p, rfl, by go_num, R.out.1, R.out.2, by omega, by omega⟩
          case measure => simp [intOf]; omega
        · have e : q = c := by omega
          subst e
          have R1 : Hid ((Num g s m k ∧ g < 18446744073709551616) ∧ m * 2 ^ k = n * 2 ^ q) := ⟨hN, hV⟩
          clear hN hV
          go_wp2
          go_ret
          exact ⟨g, m, k, rfl, R1.out.1, R1.out.2, rfl⟩

end Go.Proofs.YtdhoimjkgicneaaGreatDoor
