/- The text of a real number: the program's own, where the library's table lies as its text lays it. -/
import Derived.Test.YtdhoimjkgicneaaDoorTxtC
import Derived.Test.YtdhoimjkgicneaaDoorShelfB
import Derived.WalkSmall
namespace Go.Proofs.YtdhoimjkgicneaaDoor
open Go Go.RowKit

/-- The library's variables that the program comes to lie in memory as its text lays them. -/
structure RTab (w : World) : Prop where
  zp : 4 < w.heap.size
  ze : 6 < w.heap.size
  zr : 7 < w.heap.size
  zm : 5 < w.heap.size
  tab : Lib.TabIs Tryd.prog w "internal/strconv.uint64pow10" .u64 Lib.pow10Tab
  es : ∃ te pe, w.var? Tryd.prog "strconv.ErrSyntax" = some #[.iface te pe]
  er : ∃ te pe, w.cell? ⟨7, 0, none⟩ = some (.iface te pe)
  mx : ∃ m, w.cell? ⟨5, 0, none⟩ = some (.int .i64 m)

theorem gSynR : Tryd.prog.globalNamed "strconv.ErrSyntax" = some 6 := by kernel_rfl
theorem gPowR : Tryd.prog.globalNamed "internal/strconv.uint64pow10" = some 4 := by kernel_rfl

theorem RTab.below {w w' : World} {B : Nat} (T : RTab w) (hb : Below B w w') (hB : w.heap.size ≤ B) : RTab w' := by
  have h : ∀ k, k < w.heap.size → w'.heap[k]? = w.heap[k]? := fun k hk => hb.block k (by omega)
  have hs := hb.size
  have hc : ∀ (b o : Nat), b < w.heap.size → w'.cell? ⟨b, o, none⟩ = w.cell? ⟨b, o, none⟩ := fun b o hb => World.cell?_of_block (h b hb)
  have h1 := T.zp
  have h2 := T.ze
  have h3 := T.zr
  have h4 := T.zm
  refine ⟨by omega, by omega, by omega, by omega, ?_, ?_, ?_, ?_⟩
  · have ht := T.tab
    unfold Lib.TabIs World.var? at ht ⊢
    simp only [gPowR, Option.bind_some] at ht ⊢
    rw [h _ T.zp]
    exact ht
  · obtain ⟨te, pe, hv⟩ := T.es
    refine ⟨te, pe, ?_⟩
    unfold World.var? at hv ⊢
    simp only [gSynR, Option.bind_some] at hv ⊢
    rw [h _ T.ze]
    exact hv
  · rw [hc _ _ T.zr]; exact T.er
  · rw [hc _ _ T.zm]; exact T.mx

theorem RTab.drewN {w : World} (T : RTab w) (n : Nat) : RTab (w.drewN n) := T.below (below_drewN (Below.refl w.heap.size w) n) (Nat.le_refl _)

theorem grow_belowR (w : World) (k : Nat) (os : Array Obj) : Below w.heap.size w (Sort.grow (w.drewN k) os) :=
  ⟨rfl, rfl, rfl, by show w.heap.size ≤ (w.heap ++ os).size; simp, fun i hi => by show (w.heap ++ os)[i]? = w.heap[i]?; rw [Array.getElem?_append_left hi]⟩

theorem impl_itoaR (n : Int) (w : World) (h1 : -9223372036854775808 ≤ n) (h2 : n ≤ 9223372036854775807) (T : RTab w) :
    Calls Tryd.prog 57 #[.int .i64 n] w fun e w' => e = .returned (.string ⟨(Lib.itoa n).toArray⟩) ∧ Below w.heap.size w w' :=
  (Tryd.strconv_Itoa n h1 h2 w T.tab).mono fun e w' ⟨he, k, os, hw⟩ => ⟨he, by rw [hw]; exact grow_belowR w k os⟩
theorem impl_format (n : Int) (w : World) (h1 : -9223372036854775808 ≤ n) (h2 : n ≤ 9223372036854775807) (T : RTab w) :
    Calls Tryd.prog 77 #[.int .i64 n, .int .i64 10] w fun e w' => e = .returned (.string ⟨(Lib.itoa n).toArray⟩) ∧ Below w.heap.size w w' :=
  (Tryd.strconv_FormatInt_10 n h1 h2 w T.tab).mono fun e w' ⟨he, k, os, hw⟩ => ⟨he, by rw [hw]; exact grow_belowR w k os⟩

set_option maxHeartbeats 400000 in
theorem text_nan (x : Nat) (w : World) (h : ∃ s t, Ieee.double.read x = .nan s t) : Calls Tryd.prog 28 #[.float .f64 x] w (Wrote x w) := by
  have h1 : (FloatKind.f64.format.order x x != some .eq) = true := by
    obtain ⟨s, t, h⟩ := h
    have : FloatKind.f64.format.order x x = none := order_nan_left h
    rw [this]; rfl
  have H : Hid (∃ s t, Ieee.double.read x = .nan s t) := h
  clear h
  go_enter Tryd.func28, Tryd.ntmps28
  go_wp2_with fail
  go_ret
  exact ⟨[110, 97, 110], rfl, Or.inl ⟨H.out, rfl⟩, by decide, Below.refl _ _⟩

set_option maxHeartbeats 400000 in
theorem text_inf (x : Nat) (w : World) (h : Ieee.double.read x = .infinity false) : Calls Tryd.prog 28 #[.float .f64 x] w fun e w' => e = .returned (.string ⟨#[105, 110, 102]⟩) ∧ w' = w := by
  have h1 : (FloatKind.f64.format.order x x != some .eq) = false := by rw [inf_self h]; rfl
  have h2 : (FloatKind.f64.format.order x 0 == some .lt) = false := by rw [inf_zero h]; rfl
  have h3 : (FloatKind.f64.format.order x 9218868437227405311 == some .gt) = true := by rw [inf_max h]; rfl
  clear h
  go_enter Tryd.func28, Tryd.ntmps28
  go_wp2_with fail
  go_ret
  exact ⟨rfl, rfl⟩

set_option maxHeartbeats 800000 in
theorem text_pos (x m k : Nat) (w : World) (T : RTab w) (h : Num x false m k) (h0 : m ≠ 0) :
    Calls Tryd.prog 28 #[.float .f64 x] w fun e w' => ∃ n c, e = .returned (.string ⟨(finL false n c).toArray⟩) ∧ n % 2 = 1 ∧ n < 9007199254740992 ∧ m * 2 ^ k = n * 2 ^ c ∧ Below w.heap.size w w' := by
  have h1 : (FloatKind.f64.format.order x x != some .eq) = false := by rw [h.self]; rfl
  have h2 : (FloatKind.f64.format.order x 0 == some .lt) = false := by rw [h.zero, if_neg h0]; rfl
  have h3 := h.max
  have h4 : (FloatKind.f64.format.order x 0 == some .gt) = true := by rw [h.zero, if_neg h0]; rfl
  have H : Hid (Num x false m k) := h
  clear h
  go_enter Tryd.func28, Tryd.ntmps28
  go_wp2_with fail
  refine (impl_parts x m k w H.out h0).mono ?_
  rintro e w1 ⟨n, c, rfl, n1, n2, hv, rfl⟩
  have hc := c_bound hv H.out.lt98 n1
  have HV : Hid (m * 2 ^ k = n * 2 ^ c) := hv
  clear hv
  go_wp2_with fail
  refine (impl_format n w1 (by omega) (by omega) T).mono ?_
  rintro e w2 ⟨rfl, hb2⟩
  rw [itoa_nat]
  have B2 : Hid (Below w1.heap.size w1 w2) := hb2
  have T2 : Hid (RTab w2) := T.below hb2 (Nat.le_refl _)
  clear hb2
  have hl1 := dd_len 15 n (by omega)
  have hl2 := itoa_len5 (n := (c : Int) - 1074) (by omega) (by omega)
  go_wp2_with fail
  refine (impl_itoaR ((c : Int) - 1074) w2 (by omega) (by omega) T2.out).mono ?_
  rintro e w3 ⟨rfl, hb3⟩
  have B3 : Hid (Below w1.heap.size w1 w3) := B2.out.trans (hb3.mono B2.out.size)
  clear hb3
  go_wp2_with fail
  go_ret
  refine ⟨n, c, ret_strR ?_, n1, n2, HV.out, B3.out⟩
  rw [show (⟨#[42, 50, 94]⟩ : ByteArray) = ⟨([42, 50, 94] : List UInt8).toArray⟩ from rfl, str_cat, str_cat]
  simp [finL, sgnL]

end Go.Proofs.YtdhoimjkgicneaaDoor
