/- Texts of this proof laid together: ShelfB, TxtD, TxtE. -/
import Derived.Test.YtdhoimjkgicneacGreatDoorLot15
import Derived.WalkSmall
/- The contracts of the library that the texts lean on: they are in the text Shelf. -/

/- The text of a real number: the program's own, where the library's table lies as its text lays it. -/
namespace Go.Proofs.YtdhoimjkgicneacGreatDoor
open Go Go.RowKit

/-- The library's variables that the program comes to lie in memory as its text lays them. -/
structure RTab (w : World) : Prop where
  zp : 6 < w.heap.size
  ze : 2 < w.heap.size
  zr : 3 < w.heap.size
  zm : 1 < w.heap.size
  tab : Lib.TabIs Tryz.prog w "internal/strconv.uint64pow10" .u64 Lib.pow10Tab
  es : ∃ te pe, w.var? Tryz.prog "strconv.ErrSyntax" = some #[.iface te pe]
  er : ∃ te pe, w.cell? ⟨3, 0, none⟩ = some (.iface te pe)
  mx : ∃ m, w.cell? ⟨1, 0, none⟩ = some (.int .i64 m)

theorem gSynR : Tryz.prog.globalNamed "strconv.ErrSyntax" = some 2 := by kernel_rfl
theorem gPowR : Tryz.prog.globalNamed "internal/strconv.uint64pow10" = some 6 := by kernel_rfl

theorem RTab.below {w w' : World} {B : Nat} (T : RTab w) (hb : Below B w w') (hB : w.heap.size ≤ B) : RTab w' := by
  have h : ∀ k, k < w.heap.size → w'.heap[k]? = w.heap[k]? := fun k hk => hb.block k (by omega)
  have hs := hb.size
  have hc : ∀ (b o : Nat), b < w.heap.size → w'.cell? ⟨b, o, none⟩ = w.cell? ⟨b, o, none⟩ := fun b o hb => World.cell?_of_block (h b hb)
  have h1 := T.zp
  have h2 := T.ze
  have h3 := T.zr
  have h4 := T.zm
  refine ⟨by omega, by omega, by omega, by omega, ?_, ?_, ?_, ?_⟩
  · have ht := T.tab
    unfold Lib.TabIs World.var? at ht ⊢
    simp only [gPowR, Option.bind_some] at ht ⊢
    rw [h _ T.zp]
    exact ht
  · obtain ⟨te, pe, hv⟩ := T.es
    refine ⟨te, pe, ?_⟩
    unfold World.var? at hv ⊢
    simp only [gSynR, Option.bind_some] at hv ⊢
    rw [h _ T.ze]
    exact hv
  · rw [hc _ _ T.zr]; exact T.er
  · rw [hc _ _ T.zm]; exact T.mx

theorem RTab.drewN {w : World} (T : RTab w) (n : Nat) : RTab (w.drewN n) := T.below (below_drewN (Below.refl w.heap.size w) n) (Nat.le_refl _)

theorem grow_belowR (w : World) (k : Nat) (os : Array Obj) : Below w.heap.size w (Sort.grow (w.drewN k) os) :=
  ⟨rfl, rfl, rfl, by show w.heap.size ≤ (w.heap ++ os).size; simp, fun i hi => by show (w.heap ++ os)[i]? = w.heap[i]?; rw [Array.getElem?_append_left hi]⟩

theorem impl_itoaR (n : Int) (w : World) (h1 : -9223372036854775808 ≤ n) (h2 : n ≤ 9223372036854775807) (T : RTab w) :
    Calls Tryz.prog 76 #[.int .i64 n] w fun e w' => e = .returned (.string ⟨(Lib.itoa n).toArray⟩) ∧ Below w.heap.size w w' :=
  (Tryz.strconv_Itoa n h1 h2 w T.tab).mono fun e w' ⟨he, k, os, hw⟩ => ⟨he, by rw [hw]; exact grow_belowR w k os⟩
theorem impl_format (n : Int) (w : World) (h1 : -9223372036854775808 ≤ n) (h2 : n ≤ 9223372036854775807) (T : RTab w) :
    Calls Tryz.prog 109 #[.int .i64 n, .int .i64 10] w fun e w' => e = .returned (.string ⟨(Lib.itoa n).toArray⟩) ∧ Below w.heap.size w w' :=
  (Tryz.strconv_FormatInt_10 n h1 h2 w T.tab).mono fun e w' ⟨he, k, os, hw⟩ => ⟨he, by rw [hw]; exact grow_belowR w k os⟩

set_option maxHeartbeats 400000 in
theorem text_nan (x : Nat) (w : World) (h : ∃ s t, Ieee.double.read x = .nan s t) : Calls Tryz.prog 68 #[.float .f64 x] w (Wrote x w) := by
  have h1 : (FloatKind.f64.format.order x x != some .eq) = true := by
    obtain ⟨s, t, h⟩ := h
    have : FloatKind.f64.format.order x x = none := order_nan_left h
    rw [this]; rfl
  have H : Hid (∃ s t, Ieee.double.read x = .nan s t) := h
  clear h
  go_enter Tryz.func68, Tryz.ntmps68
  go_wp2_with fail
  go_ret
  exact ⟨[110, 97, 110], rfl, Or.inl ⟨H.out, rfl⟩, by decide, Below.refl _ _⟩

set_option maxHeartbeats 400000 in
theorem text_inf (x : Nat) (w : World) (h : Ieee.double.read x = .infinity false) : Calls Tryz.prog 68 #[.float .f64 x] w fun e w' => e = .returned (.string ⟨#[105, 110, 102]⟩) ∧ w' = w := by
  have h1 : (FloatKind.f64.format.order x x != some .eq) = false := by rw [inf_self h]; rfl
  have h2 : (FloatKind.f64.format.order x 0 == some .lt) = false := by rw [inf_zero h]; rfl
  have h3 : (FloatKind.f64.format.order x 9218868437227405311 == some .gt) = true := by rw [inf_max h]; rfl
  clear h
  go_enter Tryz.func68, Tryz.ntmps68
  go_wp2_with fail
  go_ret
  exact ⟨rfl, rfl⟩

set_option maxHeartbeats 800000 in
theorem text_pos (x m k : Nat) (w : World) (T : RTab w) (h : Num x false m k) (h0 : m ≠ 0) :
    Calls Tryz.prog 68 #[.float .f64 x] w fun e w' => ∃ n c, e = .returned (.string ⟨(finL false n c).toArray⟩) ∧ n % 2 = 1 ∧ n < 9007199254740992 ∧ m * 2 ^ k = n * 2 ^ c ∧ Below w.heap.size w w' := by
  have h1 : (FloatKind.f64.format.order x x != some .eq) = false := by rw [h.self]; rfl
  have h2 : (FloatKind.f64.format.order x 0 == some .lt) = false := by rw [h.zero, if_neg h0]; rfl
  have h3 := h.max
  have h4 : (FloatKind.f64.format.order x 0 == some .gt) = true := by rw [h.zero, if_neg h0]; rfl
  have H : Hid (Num x false m k) := h
  clear h
  go_enter Tryz.func68, Tryz.ntmps68
  go_wp2_with fail
  refine (impl_parts x m k w H.out h0).mono ?_
  rintro e w1 ⟨n, c, rfl, n1, n2, hv, rfl⟩
  have hc := c_bound hv H.out.lt98 n1
  have HV : Hid (m * 2 ^ k = n * 2 ^ c) := hv
  clear hv
  go_wp2_with fail
  refine (impl_format n w1 (by omega) (by omega) T).mono ?_
  rintro e w2 ⟨rfl, hb2⟩
  rw [itoa_nat]
  have B2 : Hid (Below w1.heap.size w1 w2) := hb2
  have T2 : Hid (RTab w2) := T.below hb2 (Nat.le_refl _)
  clear hb2
  have hl1 := dd_len 15 n (by omega)
  have hl2 := itoa_len5 (n := (c : Int) - 1074) (by omega) (by omega)
  go_wp2_with fail
  refine (impl_itoaR ((c : Int) - 1074) w2 (by omega) (by omega) T2.out).mono ?_
  rintro e w3 ⟨rfl, hb3⟩
  have B3 : Hid (Below w1.heap.size w1 w3) := B2.out.trans (hb3.mono B2.out.size)
  clear hb3
  go_wp2_with fail
  go_ret
  refine ⟨n, c, ret_strR ?_, n1, n2, HV.out, B3.out⟩
  rw [show (⟨#[42, 50, 94]⟩ : ByteArray) = ⟨([42, 50, 94] : List UInt8).toArray⟩ from rfl, str_cat, str_cat]
  simp [finL, sgnL]

end Go.Proofs.YtdhoimjkgicneacGreatDoor

/- The text of any real number, the program's own; and the law's own sameness. -/
namespace Go.Proofs.YtdhoimjkgicneacGreatDoor
open Go Go.RowKit

set_option maxHeartbeats 400000 in
theorem text_zero (x k : Nat) (s : Bool) (w : World) (h : Num x s 0 k) : Calls Tryz.prog 68 #[.float .f64 x] w (Wrote x w) := by
  have h1 : (FloatKind.f64.format.order x x != some .eq) = false := by rw [h.self]; rfl
  have h2 : (FloatKind.f64.format.order x 0 == some .lt) = false := by rw [h.zero]; rfl
  have h3 := h.max
  have h4 : (FloatKind.f64.format.order x 0 == some .gt) = false := by rw [h.zero]; rfl
  have hd := div_one_zero h
  obtain ⟨r, hr⟩ : ∃ r, r = Ieee.double.word s 9218868437227405312 := ⟨_, rfl⟩
  have hi : Ieee.double.read r = .infinity s := by rw [hr]; exact word_inf s
  rw [← hr] at hd
  have q : ∀ t w, (binOp .quo t (.float .f64 4607182418800017408) (.float .f64 x)).run Tryz.prog w = .ok (.float .f64 r) w := fun t w => run_float_arith w .quo t .f64 _ _ _ hd
  have H : Hid (Num x s 0 k) := h
  clear h hr hd
  cases s with
  | false =>
    have h5 : (FloatKind.f64.format.order r 0 == some .lt) = false := by rw [inf_zero hi]; rfl
    clear hi
    go_enter Tryz.func68, Tryz.ntmps68
    go_wp2_with fail
    go_ret
    exact ⟨[48], rfl, Or.inr (Or.inr (Or.inl ⟨false, k, H.out, rfl⟩)), by decide, Below.refl _ _⟩
  | true =>
    have h5 : (FloatKind.f64.format.order r 0 == some .lt) = true := by rw [inf_zero hi]; rfl
    clear hi
    go_enter Tryz.func68, Tryz.ntmps68
    go_wp2_with fail
    go_ret
    exact ⟨[45, 48], rfl, Or.inr (Or.inr (Or.inl ⟨true, k, H.out, rfl⟩)), by decide, Below.refl _ _⟩

theorem text_nonneg (x : Nat) (w : World) (T : RTab w) (h : Ieee.double.read x = .infinity false ∨ ∃ m k, Num x false m k ∧ m ≠ 0) : Calls Tryz.prog 68 #[.float .f64 x] w (fun e w' => ∃ l, e = .returned (.string ⟨l.toArray⟩) ∧ Txt x l ∧ l.length ≤ 40 ∧ Below w.heap.size w w') := by
  rcases h with h | ⟨m, k, h, h0⟩
  · exact (text_inf x w h).mono fun e w' ⟨he, hw⟩ => ⟨[105, 110, 102], he, Or.inr (Or.inl ⟨false, h, rfl⟩), by decide, by rw [hw]; exact Below.refl _ _⟩
  · refine (text_pos x m k w T h h0).mono ?_
    rintro e w' ⟨n, c, he, n1, n2, hv, hb⟩
    have := finL_bd (s := false) n2 (c_bound hv h.lt98 n1)
    exact ⟨_, he, Or.inr (Or.inr (Or.inr ⟨false, m, k, n, c, h, h0, n1, hv, rfl⟩)), by omega, hb⟩

set_option maxHeartbeats 400000 in
theorem text_minus (x : Nat) (w : World) (T : RTab w) (h : Ieee.double.read x = .infinity true ∨ ∃ m k, Num x true m k ∧ m ≠ 0) : Calls Tryz.prog 68 #[.float .f64 x] w (Wrote x w) := by
  have h1 : (FloatKind.f64.format.order x x != some .eq) = false := by
    rcases h with h | ⟨m, k, h, h0⟩
    · rw [inf_self h]; rfl
    · rw [h.self]; rfl
  have h2 : (FloatKind.f64.format.order x 0 == some .lt) = true := by
    rcases h with h | ⟨m, k, h, h0⟩
    · rw [inf_zero h]; rfl
    · rw [h.zero, if_neg h0]; rfl
  have hn : Hid (Ieee.double.read (Op.negFloat .f64 x) = .infinity false ∨ ∃ m k, Num (Op.negFloat .f64 x) false m k ∧ m ≠ 0) := by
    rcases h with h | ⟨m, k, h, h0⟩
    · exact Or.inl (by rw [read_neg, h]; rfl)
    · exact Or.inr ⟨m, k, h.neg, h0⟩
  have H : Hid (Ieee.double.read x = .infinity true ∨ ∃ m k, Num x true m k ∧ m ≠ 0) := h
  have ng : Op.unary .neg (.float .f64 x) = pure (.float .f64 (Op.negFloat .f64 x)) := rfl
  clear h
  go_enter Tryz.func68, Tryz.ntmps68
  go_wp2_with fail
  refine (text_nonneg (Op.negFloat .f64 x) w T hn.out).mono ?_
  rintro e w1 ⟨l, rfl, hl, hlen, hb⟩
  have HL : Hid (Txt (Op.negFloat .f64 x) l) := hl
  have B : Hid (Below w.heap.size w w1) := hb
  clear hl hb
  go_wp2_with fail
  go_ret
  refine ⟨45 :: l, ret_strR ?_, txt_minus H.out HL.out, by simp; omega, B.out⟩
  rw [show (⟨#[45]⟩ : ByteArray) = ⟨([45] : List UInt8).toArray⟩ from rfl, str_cat]
  rfl

theorem text_any (x : Nat) (w : World) (T : RTab w) : Calls Tryz.prog 68 #[.float .f64 x] w (Wrote x w) := by
  rcases read_cases x with ⟨s, m, k, h⟩ | ⟨s, h⟩ | h
  · by_cases h0 : m = 0
    · subst h0; exact text_zero x k s w h
    · cases s
      · exact (text_nonneg x w T (Or.inr ⟨m, k, h, h0⟩)).mono fun e w' ⟨l, a, b, c, d⟩ => ⟨l, a, b, by omega, d⟩
      · exact text_minus x w T (Or.inr ⟨m, k, h, h0⟩)
  · cases s
    · exact (text_nonneg x w T (Or.inl h)).mono fun e w' ⟨l, a, b, c, d⟩ => ⟨l, a, b, by omega, d⟩
    · exact text_minus x w T (Or.inl h)
  · exact text_nan x w h

end Go.Proofs.YtdhoimjkgicneacGreatDoor
