/- Texts of this proof laid together: TxtV, MyE, FmU. -/
import Derived.Test.YtdhoimjkgicneaaGreatDoorLot20
import Derived.Test.YtdhoimjkgicneaaGreatDoorLot37
import Derived.WalkSmall
import Derived.Test.YtdhoimjkgicneaaGreatDoorLot27
import Derived.Lib.Walk
import Derived.Lib.ItoaMem
import Derived.BigCall
import Derived.BigGuard
/- The text of a real number: the program's own, where the library's table of powers lies as its text lays it. -/
namespace Go.Proofs.YtdhoimjkgicneaaGreatDoor
open Go Go.RowKit

/-- The library's table of powers lies in memory as its text lays it. -/
structure PTab (w : World) : Prop where
  zp : 2 < w.heap.size
  tab : Lib.TabIs Tryz.prog w "internal/strconv.uint64pow10" .u64 Lib.pow10Tab

theorem gPowP : Tryz.prog.globalNamed "internal/strconv.uint64pow10" = some 2 := by kernel_rfl
theorem PTab.below {w w' : World} {B : Nat} (T : PTab w) (hb : Below B w w') (hB : w.heap.size ≤ B) : PTab w' := by
  have h : ∀ k, k < w.heap.size → w'.heap[k]? = w.heap[k]? := fun k hk => hb.block k (by omega)
  have hs := hb.size
  have h1 := T.zp
  refine ⟨by omega, ?_⟩
  have ht := T.tab
  unfold Lib.TabIs World.var? at ht ⊢
  simp only [gPowP, Option.bind_some] at ht ⊢
  rw [h _ T.zp]
  exact ht

theorem grow_belowP (w : World) (k : Nat) (os : Array Obj) : Below w.heap.size w (Sort.grow (w.drewN k) os) :=
  ⟨rfl, rfl, rfl, by show w.heap.size ≤ (w.heap ++ os).size; simp, fun i hi => by show (w.heap ++ os)[i]? = w.heap[i]?; rw [Array.getElem?_append_left hi]⟩

theorem impl_itoaP (n : Int) (w : World) (h1 : -9223372036854775808 ≤ n) (h2 : n ≤ 9223372036854775807) (T : PTab w) :
    Calls Tryz.prog 34 #[.int .i64 n] w fun e w' => e = .returned (.string ⟨(Lib.itoa n).toArray⟩) ∧ Below w.heap.size w w' :=
  (Tryz.strconv_Itoa n h1 h2 w T.tab).mono fun e w' ⟨he, k, os, hw⟩ => ⟨he, by rw [hw]; exact grow_belowP w k os⟩
theorem impl_formatP (n : Int) (w : World) (h1 : -9223372036854775808 ≤ n) (h2 : n ≤ 9223372036854775807) (T : PTab w) :
    Calls Tryz.prog 71 #[.int .i64 n, .int .i64 10] w fun e w' => e = .returned (.string ⟨(Lib.itoa n).toArray⟩) ∧ Below w.heap.size w w' :=
  (Tryz.strconv_FormatInt_10 n h1 h2 w T.tab).mono fun e w' ⟨he, k, os, hw⟩ => ⟨he, by rw [hw]; exact grow_belowP w k os⟩

set_option maxHeartbeats 400000 in
theorem text_nanP (x : Nat) (w : World) (h : ∃ s t, Ieee.double.read x = .nan s t) : Calls Tryz.prog 35 #[.float .f64 x] w (Wrote x w) := by
  have h1 : (FloatKind.f64.format.order x x != some .eq) = true := by
    obtain ⟨s, t, h⟩ := h
    have : FloatKind.f64.format.order x x = none := order_nan_left h
    rw [this]; rfl
  have H : Hid (∃ s t, Ieee.double.read x = .nan s t) := h
  clear h
  go_enter Tryz.func35, Tryz.ntmps35
  go_wp2_with fail
  go_ret
  exact ⟨[110, 97, 110], rfl, Or.inl ⟨H.out, rfl⟩, by decide, Below.refl _ _⟩

set_option maxHeartbeats 400000 in
theorem text_infP (x : Nat) (w : World) (h : Ieee.double.read x = .infinity false) : Calls Tryz.prog 35 #[.float .f64 x] w fun e w' => e = .returned (.string ⟨#[105, 110, 102]⟩) ∧ w' = w := by
  have h1 : (FloatKind.f64.format.order x x != some .eq) = false := by rw [inf_self h]; rfl
  have h2 : (FloatKind.f64.format.order x 0 == some .lt) = false := by rw [inf_zero h]; rfl
  have h3 : (FloatKind.f64.format.order x 9218868437227405311 == some .gt) = true := by rw [inf_max h]; rfl
  clear h
  go_enter Tryz.func35, Tryz.ntmps35
  go_wp2_with fail
  go_ret
  exact ⟨rfl, rfl⟩

set_option maxHeartbeats 800000 in
theorem text_posP (x m k : Nat) (w : World) (T : PTab w) (h : Num x false m k) (h0 : m ≠ 0) :
    Calls Tryz.prog 35 #[.float .f64 x] w fun e w' => ∃ n c, e = .returned (.string ⟨(finL false n c).toArray⟩) ∧ n % 2 = 1 ∧ n < 9007199254740992 ∧ m * 2 ^ k = n * 2 ^ c ∧ Below w.heap.size w w' := by
  have h1 : (FloatKind.f64.format.order x x != some .eq) = false := by rw [h.self]; rfl
  have h2 : (FloatKind.f64.format.order x 0 == some .lt) = false := by rw [h.zero, if_neg h0]; rfl
  have h3 := h.max
  have h4 : (FloatKind.f64.format.order x 0 == some .gt) = true := by rw [h.zero, if_neg h0]; rfl
  have H : Hid (Num x false m k) := h
  clear h
  go_enter Tryz.func35, Tryz.ntmps35
  go_wp2_with fail
  refine (impl_parts x m k w H.out h0).mono ?_
  rintro e w1 ⟨n, c, rfl, n1, n2, hv, rfl⟩
  have hc := c_bound hv H.out.lt98 n1
  have HV : Hid (m * 2 ^ k = n * 2 ^ c) := hv
  clear hv
  go_wp2_with fail
  refine (impl_formatP n w1 (by omega) (by omega) T).mono ?_
  rintro e w2 ⟨rfl, hb2⟩
  rw [itoa_nat]
  have B2 : Hid (Below w1.heap.size w1 w2) := hb2
  have T2 : Hid (PTab w2) := T.below hb2 (Nat.le_refl _)
  clear hb2
  have hl1 := dd_len 15 n (by omega)
  have hl2 := itoa_len5 (n := (c : Int) - 1074) (by omega) (by omega)
  go_wp2_with fail
  refine (impl_itoaP ((c : Int) - 1074) w2 (by omega) (by omega) T2.out).mono ?_
  rintro e w3 ⟨rfl, hb3⟩
  have B3 : Hid (Below w1.heap.size w1 w3) := B2.out.trans (hb3.mono B2.out.size)
  clear hb3
  go_wp2_with fail
  go_ret
  refine ⟨n, c, ret_strR ?_, n1, n2, HV.out, B3.out⟩
  rw [show (⟨#[42, 50, 94]⟩ : ByteArray) = ⟨([42, 50, 94] : List UInt8).toArray⟩ from rfl, str_cat, str_cat]
  simp [finL, sgnL]

set_option maxHeartbeats 400000 in
theorem text_zeroP (x k : Nat) (s : Bool) (w : World) (h : Num x s 0 k) : Calls Tryz.prog 35 #[.float .f64 x] w (Wrote x w) := by
  have h1 : (FloatKind.f64.format.order x x != some .eq) = false := by rw [h.self]; rfl
  have h2 : (FloatKind.f64.format.order x 0 == some .lt) = false := by rw [h.zero]; rfl
  have h3 := h.max
  have h4 : (FloatKind.f64.format.order x 0 == some .gt) = false := by rw [h.zero]; rfl
  have hd := div_one_zero h
  obtain ⟨r, hr⟩ : ∃ r, r = Ieee.double.word s 9218868437227405312 := ⟨_, rfl⟩
  have hi : Ieee.double.read r = .infinity s := by rw [hr]; exact word_inf s
  rw [← hr] at hd
  have q : ∀ t w, (binOp .quo t (.float .f64 4607182418800017408) (.float .f64 x)).run Tryz.prog w = .ok (.float .f64 r) w := fun t w => run_float_arith w .quo t .f64 _ _ _ hd
  have H : Hid (Num x s 0 k) := h
  clear h hr hd
  cases s with
  | false =>
    have h5 : (FloatKind.f64.format.order r 0 == some .lt) = false := by rw [inf_zero hi]; rfl
    clear hi
    go_enter Tryz.func35, Tryz.ntmps35
    go_wp2_with fail
    go_ret
    exact ⟨[48], rfl, Or.inr (Or.inr (Or.inl ⟨false, k, H.out, rfl⟩)), by decide, Below.refl _ _⟩
  | true =>
    have h5 : (FloatKind.f64.format.order r 0 == some .lt) = true := by rw [inf_zero hi]; rfl
    clear hi
    go_enter Tryz.func35, Tryz.ntmps35
    go_wp2_with fail
    go_ret
    exact ⟨[45, 48], rfl, Or.inr (Or.inr (Or.inl ⟨true, k, H.out, rfl⟩)), by decide, Below.refl _ _⟩

theorem text_nonnegP (x : Nat) (w : World) (T : PTab w) (h : Ieee.double.read x = .infinity false ∨ ∃ m k, Num x false m k ∧ m ≠ 0) : Calls Tryz.prog 35 #[.float .f64 x] w (fun e w' => ∃ l, e = .returned (.string ⟨l.toArray⟩) ∧ Txt x l ∧ l.length ≤ 40 ∧ Below w.heap.size w w') := by
  rcases h with h | ⟨m, k, h, h0⟩
  · exact (text_infP x w h).mono fun e w' ⟨he, hw⟩ => ⟨[105, 110, 102], he, Or.inr (Or.inl ⟨false, h, rfl⟩), by decide, by rw [hw]; exact Below.refl _ _⟩
  · refine (text_posP x m k w T h h0).mono ?_
    rintro e w' ⟨n, c, he, n1, n2, hv, hb⟩
    have := finL_bd (s := false) n2 (c_bound hv h.lt98 n1)
    exact ⟨_, he, Or.inr (Or.inr (Or.inr ⟨false, m, k, n, c, h, h0, n1, hv, rfl⟩)), by omega, hb⟩

set_option maxHeartbeats 400000 in
theorem text_minusP (x : Nat) (w : World) (T : PTab w) (h : Ieee.double.read x = .infinity true ∨ ∃ m k, Num x true m k ∧ m ≠ 0) : Calls Tryz.prog 35 #[.float .f64 x] w (Wrote x w) := by
  have h1 : (FloatKind.f64.format.order x x != some .eq) = false := by
    rcases h with h | ⟨m, k, h, h0⟩
    · rw [inf_self h]; rfl
    · rw [h.self]; rfl
  have h2 : (FloatKind.f64.format.order x 0 == some .lt) = true := by
    rcases h with h | ⟨m, k, h, h0⟩
    · rw [inf_zero h]; rfl
    · rw [h.zero, if_neg h0]; rfl
  have hn : Hid (Ieee.double.read (Op.negFloat .f64 x) = .infinity false ∨ ∃ m k, Num (Op.negFloat .f64 x) false m k ∧ m ≠ 0) := by
    rcases h with h | ⟨m, k, h, h0⟩
    · exact Or.inl (by rw [read_neg, h]; rfl)
    · exact Or.inr ⟨m, k, h.neg, h0⟩
  have H : Hid (Ieee.double.read x = .infinity true ∨ ∃ m k, Num x true m k ∧ m ≠ 0) := h
  have ng : Op.unary .neg (.float .f64 x) = pure (.float .f64 (Op.negFloat .f64 x)) := rfl
  clear h
  go_enter Tryz.func35, Tryz.ntmps35
  go_wp2_with fail
  refine (text_nonnegP (Op.negFloat .f64 x) w T hn.out).mono ?_
  rintro e w1 ⟨l, rfl, hl, hlen, hb⟩
  have HL : Hid (Txt (Op.negFloat .f64 x) l) := hl
  have B : Hid (Below w.heap.size w w1) := hb
  clear hl hb
  go_wp2_with fail
  go_ret
  refine ⟨45 :: l, ret_strR ?_, txt_minus H.out HL.out, by simp; omega, B.out⟩
  rw [show (⟨#[45]⟩ : ByteArray) = ⟨([45] : List UInt8).toArray⟩ from rfl, str_cat]
  rfl

theorem text_anyP (x : Nat) (w : World) (T : PTab w) : Calls Tryz.prog 35 #[.float .f64 x] w (Wrote x w) := by
  rcases read_cases x with ⟨s, m, k, h⟩ | ⟨s, h⟩ | h
  · by_cases h0 : m = 0
    · subst h0; exact text_zeroP x k s w h
    · cases s
      · exact (text_nonnegP x w T (Or.inr ⟨m, k, h, h0⟩)).mono fun e w' ⟨l, a, b, c, d⟩ => ⟨l, a, b, by omega, d⟩
      · exact text_minusP x w T (Or.inr ⟨m, k, h, h0⟩)
  · cases s
    · exact (text_nonnegP x w T (Or.inl h)).mono fun e w' ⟨l, a, b, c, d⟩ => ⟨l, a, b, by omega, d⟩
    · exact text_minusP x w T (Or.inl h)
  · exact text_nanP x w h

end Go.Proofs.YtdhoimjkgicneaaGreatDoor

/- The program's words of the registers of a memory. -/
namespace Go.Proofs.YtdhoimjkgicneaaGreatDoor
open Go Go.RowKit

theorem int_word (n : Nat) (z : Int) : (⟨9, n, 0, false, false, z, []⟩ : Wd).text = letterL 9 ++ (Lib.decDigits n ++ 61 :: Lib.itoa z) := rfl
theorem real_word (n : Nat) (t : List UInt8) : (⟨10, n, 0, false, false, 0, t⟩ : Wd).text = letterL 10 ++ (Lib.decDigits n ++ 61 :: t) := rfl
theorem tabs_p {w : World} (T : Tabs w) : PTab w := ⟨T.zp, T.tab⟩
set_option maxRecDepth 100000 in
set_option maxHeartbeats 6400000 in
theorem impl_numbers (v : MemV) (tx : Nat → List UInt8) (w : World) (hv : v.Ok) (ht : ∀ i, i < 16 → Txt (v.r i) (tx i)) (hl : ∀ i, i < 16 → (tx i).length ≤ 50) (T : Tabs w) :
    Calls Tryz.prog 14 #[.agg v.row] w fun e w' => ∃ o, e = .returned o ∧ OwnS (w.heap.size + 1) o ((intW v ++ realW tx).map Wd.text) w' ∧ Below w.heap.size w w' := by
  have H0 : Hid (WS v w (.slice none 0 0) (intP v 0) (w.alloc (.cells v.row 37))) := WS.first v w 37
  have TT : ∀ w', Below w.heap.size w w' → Tabs w' := fun w' hw' => T.below hw' (Nat.le_refl _)
  have hd : ∀ i, -32768 ≤ v.d i ∧ v.d i ≤ 32767 := fun i => ⟨hv.d1 i, hv.d2 i⟩
  have CR : ∀ i w, i < 16 → Tabs w → Calls Tryz.prog 35 #[.float .f64 (v.r i)] w fun e w' => e = .returned (.string ⟨(tx i).toArray⟩) ∧ Below w.heap.size w w' := fun i w hi T => (text_anyP (v.r i) w (tabs_p T)).mono fun _ _ h => by
    obtain ⟨l, h1, h2, h3, h4⟩ := h
    exact ⟨by rw [h1, txt_fun h2 (ht i hi)], h4⟩
  clear T hv ht
  go_enter Tryz.func14, Tryz.ntmps14
  go_upto_region 1 with fail
  generalize w.alloc (.cells v.row 37) = w1 at H0 ⊢
  have LT := load_intsM H0.out.2.1
  go_wp2_with (refine list_load (t := 33) (x := .pointer (some ⟨w.heap.size, 85, none⟩)) rfl rfl rfl LT ?_)
  clear LT
  go_loopw [3, 11] (fun s iv wr => ∃ i : Nat, i ≤ 32 ∧ iv = .int .i64 i ∧ WS v w s (intP v i) wr) (fun _ iv _ => 32 - (intOf iv).toNat)
  case atStart => exact ⟨0, by omega, rfl, H0.out⟩
  case round =>
    clear H0
    obtain ⟨i, hi, rfl, hS⟩ := hrel
    by_cases hin : i < 32
    · have hin' : (i : Int) < 32 := by omega
      have hcnt : ((intP v i).map Wd.text).length ≤ 400 := by
        have : (intP v i).length ≤ i := seg_count _ _ _
        rw [List.length_map]
        omega
      have IX := intI v.d hin wr
      obtain ⟨te, hte⟩ : ∃ te, te = (⟨9, i, 0, false, false, v.d i, []⟩ : Wd).text := ⟨_, rfl⟩
      have CN : ∀ w, Tabs w → Calls Tryz.prog 32 #[.int .i64 9, .int .i64 i, .string ⟨(Lib.itoa (v.d i)).toArray⟩] w fun e w' => e = .returned (.string ⟨te.toArray⟩) ∧ Below w.heap.size w w' := fun w T => by
        rw [hte, int_word]
        exact impl_named 9 i (Lib.itoa (v.d i)) w T (by omega) (by omega) (by show (i : Int) < 32; omega) (Nat.le_trans (itoa_len6 (hd i).1 (hd i).2) (by omega))
      have HX : Hid (te = (⟨9, i, 0, false, false, v.d i, []⟩ : Wd).text) := hte
      have CI := impl_itoa (v.d i) wr (by have := (hd i).1; omega) (by have := (hd i).2; omega) (TT wr hS.2.2)
      obtain ⟨z, hz⟩ : ∃ z, z = v.d i := ⟨_, rfl⟩
      have hz1 : -32768 ≤ z ∧ z ≤ 32767 := by rw [hz]; exact hd i
      have H1 : Hid (WS v w u3 (intP v i) wr) := hS
      have HZ : Hid (z = v.d i) := hz
      rw [← hz] at IX CN CI
      clear hS hte
      by_cases hb : z = 0
      · have HB : Hid (intP v (i + 1) = intP v i) := seg_no (by rw [← hz, hb]; rfl)
        subst hb
        clear hz CN CI
        go_wp2_with (refine list_indexM (t := 33) (u1 := .agg (rowOf (fInt v.d) 32)) (u2 := .int .i64 i) rfl rfl rfl rfl IX ?_)
        go_roundw
        case rel => exact ⟨i + 1, by omega, by go_num, by rw [HB.out]; exact H1.out⟩
        case measure => simp [intOf]; omega
      · have hb' : (z == 0) = false := by simpa using hb
        have HB : Hid (intP v (i + 1) = intP v i ++ [⟨9, i, 0, false, false, v.d i, []⟩]) := seg_yes (by rw [← hz]; simpa using hb)
        clear hz
        go_wp2_with (refine list_indexM (t := 33) (u1 := .agg (rowOf (fInt v.d) 32)) (u2 := .int .i64 i) rfl rfl rfl rfl IX ?_)
        refine CI.mono ?_
        rintro e w3 ⟨rfl, b3⟩
        have h3 := H1.out.below b3
        have CN' := CN w3 (TT w3 h3.2.2)
        have H4 : Hid (WS v w u3 (intP v i) w3) := h3
        clear b3 h3 CI IX H1 CN
        go_wp2_with fail
        refine CN'.mono ?_
        rintro e w5 ⟨rfl, b5⟩
        have hU := (H4.out.below b5).below ((Below.refl w5.heap.size w5).alloc (Nat.le_refl _) (.cells #[.string ⟨te.toArray⟩] 9))
        have HU : Hid (WS v w u3 (intP v i) (w5.alloc (.cells #[.string ⟨te.toArray⟩] 9))) := hU
        have hz5 : w.heap.size + 1 ≤ w5.heap.size := by have := H4.out.2.1.z; have := b5.size; omega
        clear b5 hU H4 CN'
        go_wp2_with (at_builtin; refine list_appS (w.heap.size + 1) (v := u3) (s := .slice (some ⟨w5.heap.size, 0, none⟩) 1 1) (xs := (intP v i).map Wd.text) (ys := [te]) rfl (.tmp 17) (.tmp 23) rfl rfl rfl HU.out.1 ?c1 (by simp only [List.length_singleton]; omega) (by simp; omega) ?_)
        case c1 => exact one_str te w5 9
        intro v6 w6 o6 g6
        have HN : Hid (WS v w v6 (intP v (i + 1)) w6) := by
          show WS v w v6 (intP v (i + 1)) w6
          rw [HB.out]
          exact HU.out.app o6 (by first | (rw [HX.out]; done) | (rw [HX.out]; simp)) g6
        clear o6 g6 HU hz5
        go_wp2_with fail
        go_roundw
        case rel => exact ⟨i + 1, by omega, by go_num, HN.out⟩
        case measure => simp [intOf]; omega
    · obtain rfl : i = 32 := by omega
      have H0 : Hid (WS v w u3 (intW v ++ realP tx 0) wr) := by
        show WS v w u3 (intW v ++ []) wr
        rw [List.append_nil]
        exact hS
      have LT := load_realsM hS.2.1
      clear hS hin hi
      go_wp2_with (refine list_load (t := 35) (x := .pointer (some ⟨w.heap.size, 117, none⟩)) rfl rfl rfl LT ?_)
      clear LT
      go_loopw [3, 28] (fun s iv wr => ∃ i : Nat, i ≤ 16 ∧ iv = .int .i64 i ∧ WS v w s (intW v ++ realP tx i) wr) (fun _ iv _ => 16 - (intOf iv).toNat)
      case atStart => exact ⟨0, by omega, rfl, H0.out⟩
      case round =>
        clear H0
        obtain ⟨i, hi, rfl, hS⟩ := hrel
        by_cases hin : i < 16
        · have hin' : (i : Int) < 16 := by omega
          have hcnt : ((intW v ++ realP tx i).map Wd.text).length ≤ 400 := by
            have h1 : (intW v).length ≤ 32 := seg_count _ _ _
            have h2 : (realP tx i).length ≤ i := seg_count _ _ _
            rw [List.length_map, List.length_append]
            omega
          have IX := realI v.r hin wr
          obtain ⟨te, hte⟩ : ∃ te, te = (⟨10, i, 0, false, false, 0, tx i⟩ : Wd).text := ⟨_, rfl⟩
          have CN : ∀ w, Tabs w → Calls Tryz.prog 32 #[.int .i64 10, .int .i64 i, .string ⟨(tx i).toArray⟩] w fun e w' => e = .returned (.string ⟨te.toArray⟩) ∧ Below w.heap.size w w' := fun w T => by
            rw [hte, real_word]
            exact impl_named 10 i (tx i) w T (by omega) (by omega) (by show (i : Int) < 16; omega) (Nat.le_trans (hl i hin) (by omega))
          have HX : Hid (te = (⟨10, i, 0, false, false, 0, tx i⟩ : Wd).text) := hte
          have CI := CR i wr hin (TT wr hS.2.2)
          have H1 : Hid (WS v w u3 (intW v ++ realP tx i) wr) := hS
          clear hS hte
          by_cases hb : tx i = [48]
          · have HB : Hid (realP tx (i + 1) = realP tx i) := seg_no (by rw [hb]; rfl)
            rw [hb] at CI
            clear hb CN
            go_wp2_with (refine list_indexM (t := 35) (u1 := .agg (rowOf (fReal v.r) 16)) (u2 := .int .i64 i) rfl rfl rfl rfl IX ?_)
            refine CI.mono ?_
            rintro e w3 ⟨rfl, b3⟩
            have h3 := H1.out.below b3
            have H4 : Hid (WS v w u3 (intW v ++ realP tx i) w3) := h3
            clear b3 h3 CI IX H1
            go_wp2_with fail
            go_roundw
            case rel => exact ⟨i + 1, by omega, by go_num, by rw [HB.out]; exact H4.out⟩
            case measure => simp [intOf]; omega
          · have HB : Hid (realP tx (i + 1) = realP tx i ++ [⟨10, i, 0, false, false, 0, tx i⟩]) := seg_yes (by simpa using hb)
            have hq : (tx i == [48]) = false := beq_eq_false_iff_ne.2 hb
            clear hb
            go_wp2_with (refine list_indexM (t := 35) (u1 := .agg (rowOf (fReal v.r) 16)) (u2 := .int .i64 i) rfl rfl rfl rfl IX ?_)
            refine CI.mono ?_
            rintro e w3 ⟨rfl, b3⟩
            have h3 := H1.out.below b3
            have CN' := CN w3 (TT w3 h3.2.2)
            have H4 : Hid (WS v w u3 (intW v ++ realP tx i) w3) := h3
            clear b3 h3 CI IX H1 CN
            go_wp2_with fail
            refine CN'.mono ?_
            rintro e w5 ⟨rfl, b5⟩
            have hU := (H4.out.below b5).below ((Below.refl w5.heap.size w5).alloc (Nat.le_refl _) (.cells #[.string ⟨te.toArray⟩] 9))
            have HU : Hid (WS v w u3 (intW v ++ realP tx i) (w5.alloc (.cells #[.string ⟨te.toArray⟩] 9))) := hU
            have hz5 : w.heap.size + 1 ≤ w5.heap.size := by have := H4.out.2.1.z; have := b5.size; omega
            clear b5 hU H4 CN'
            go_wp2_with (at_builtin; refine list_appS (w.heap.size + 1) (v := u3) (s := .slice (some ⟨w5.heap.size, 0, none⟩) 1 1) (xs := (intW v ++ realP tx i).map Wd.text) (ys := [te]) rfl (.tmp 36) (.tmp 40) rfl rfl rfl HU.out.1 ?c1 (by simp only [List.length_singleton]; omega) (by simp; omega) ?_)
            case c1 => exact one_str te w5 9
            intro v6 w6 o6 g6
            have HN : Hid (WS v w v6 (intW v ++ realP tx (i + 1)) w6) := by
              show WS v w v6 (intW v ++ realP tx (i + 1)) w6
              rw [HB.out, ← List.append_assoc]
              exact HU.out.app o6 (by first | (rw [HX.out]; done) | (rw [HX.out]; simp)) g6
            clear o6 g6 HU hz5
            go_wp2_with fail
            go_roundw
            case rel => exact ⟨i + 1, by omega, by go_num, HN.out⟩
            case measure => simp [intOf]; omega
        · obtain rfl : i = 16 := by omega
          have H5 : Hid (OwnS (w.heap.size + 1) u3 ((intW v ++ realW tx).map Wd.text) wr ∧ Below w.heap.size w wr) := ⟨hS.1, hS.2.2⟩
          clear hS
          go_wp2_with fail
          go_ret
          exact ⟨_, rfl, H5.out.1, H5.out.2⟩

end Go.Proofs.YtdhoimjkgicneaaGreatDoor

/- The library's FormatUint at base 10. -/
namespace Go.Proofs.YtdhoimjkgicneaaGreatDoor
open Go Go.RowKit Go.Sort

theorem holds_zero0 (w : World) (T : TypeId) (nd : Nat) (hs : nd ≤ 24) : Holds (fun (b : UInt8) => Value.int .u8 (b.toNat : Int)) (w.alloc (.cells Lib.zeros24 T)) w.heap.size 0 (Array.replicate nd (0 : UInt8)) := fun j hj => by
  have hj' : j < nd := by simpa using hj
  refine ⟨?_, World.frozen?_alloc_new _ _ _ _⟩
  rw [World.cell?_alloc_new, Lib.zeros24_at _ (by omega), getElem!_pos _ j hj]
  simp

set_option maxHeartbeats 6400000 in
set_option maxRecDepth 100000 in
theorem fmt_inner (u : Nat) (hu64 : u < 18446744073709551616) (w : World) (T : Tabs w) :
    Calls Tryz.prog 36 #[.int .u64 u, .int .i64 10] w fun e w' => e = .returned (.string ⟨(Lib.decDigits u).toArray⟩) ∧ Below w.heap.size w w' := by
  by_cases hs : u < 100
  · have hs' : (u : Int) < 100 := by omega
    have CS := Tryz.internal_strconv_small u hs w
    go_enter Tryz.func36, Tryz.ntmps36
    go_wp2_with fail
    refine CS.mono ?_
    rintro e w' ⟨rfl, rfl⟩
    go_wp2_with fail
    go_ret
    exact ⟨rfl, Below.refl _ _⟩
  · have hs' : ¬ (u : Int) < 100 := by omega
    have hu1 : 1 ≤ u := by omega
    have hnd20 : Lib.nDigits u ≤ 20 := by have := Lib.numDigits_eq u hu1 hu64; split at this <;> omega
    have hal : Tryz.prog.arrayLen 117 = 24 := by kernel_rfl
    have hsl1 : ∀ W, (Instr.sliceAt 117 (.pointer (some ⟨w.heap.size, 0, none⟩)) none (some (.int .i64 (Lib.nDigits u : Int))) none).run Tryz.prog W = .ok (.slice (some ⟨w.heap.size, 0, none⟩) (Lib.nDigits u) 24) W := fun W => by
      rw [run_sliceAt_array_h W 117 ⟨w.heap.size, 0, none⟩ (by kernel_rfl) .i64 (Lib.nDigits u : Int) (by omega) (by rw [hal]; omega)]
      go_simp
    have hH0 := holds_zero0 w 117 (Lib.nDigits u) (by omega)
    have hfmt := Tryz.internal_strconv_formatBase10 w.heap.size 0 24 u (Array.replicate (Lib.nDigits u) 0) (w.alloc (.cells Lib.zeros24 117)) hH0 (by rw [Array.size_replicate]; exact Lib.lt_pow_nDigits u) hu64 (by rw [Array.size_replicate]; omega)
    rw [Array.size_replicate] at hfmt
    have HH0 := Lib.hid hH0
    have CN := Tryz.internal_strconv_numDigits u hu1 hu64 (w.alloc (.cells Lib.zeros24 117)) (Lib.tabIs_alloc T.tab _)
    clear hH0 hal T
    go_enter Tryz.func36, Tryz.ntmps36
    go_wp2_with fail
    refine CN.mono ?_
    rintro e w' ⟨rfl, rfl⟩
    go_wp2_with fail
    refine hfmt.mono ?_
    rintro e w' ⟨rfl, k, v', dk, rfl, hF⟩
    have hcv : (convert 22 9 (.slice (some ⟨w.heap.size, 0, none⟩) (Lib.nDigits u) 24)).run Tryz.prog ((putRow (fun (b : UInt8) => Value.int .u8 (b.toNat : Int)) (w.alloc (.cells Lib.zeros24 117)) w.heap.size 0 dk).drewN k) = .ok (.string ⟨(Lib.decDigits u).toArray⟩) ((putRow (fun (b : UInt8) => Value.int .u8 (b.toNat : Int)) (w.alloc (.cells Lib.zeros24 117)) w.heap.size 0 dk).drewN k) := by
      have h := run_convert_bytes_back (P := Tryz.prog) ((putRow (fun (b : UInt8) => Value.int .u8 (b.toNat : Int)) (w.alloc (.cells Lib.zeros24 117)) w.heap.size 0 dk).drewN k) 22 9 5 ⟨w.heap.size, 0, none⟩ 24 (Lib.decDigits u) Tryz.underlying22 Tryz.underlying5 Tryz.underlying9 (fun j hj => by
        rw [Lib.row_is_numeral hF j hj, Lib.add_plain, World.cell?_drewN]
        exact cell?_putRow (fun (b : UInt8) => Value.int .u8 (b.toNat : Int)) _ w.heap.size 0 _ dk HH0.out (by rw [hF.size, Array.size_replicate]) j (by rw [hF.size]; rw [Lib.decDigits_length] at hj; exact hj))
      rw [Lib.decDigits_length] at h
      exact h
    have HB : Hid (Below w.heap.size w ((putRow (fun (b : UInt8) => Value.int .u8 (b.toNat : Int)) (w.alloc (.cells Lib.zeros24 117)) w.heap.size 0 dk).drewN k)) := by
      obtain ⟨os', _, e⟩ := putRow_grow_new (fun (b : UInt8) => Value.int .u8 (b.toNat : Int)) w #[.cells Lib.zeros24 117] w.heap.size 0 dk (Nat.le_refl _)
      show Below _ _ _
      rw [alloc_eq_grow, e]
      exact grow_below w k os'
    go_wp2_with fail
    go_ret
    exact ⟨rfl, HB.out⟩

set_option maxHeartbeats 400000 in
theorem impl_fmtu (u : Nat) (hu64 : u < 18446744073709551616) (w : World) (T : Tabs w) :
    Calls Tryz.prog 15 #[.int .u64 u, .int .i64 10] w fun e w' => e = .returned (.string ⟨(Lib.decDigits u).toArray⟩) ∧ Below w.heap.size w w' := by
  have C := fmt_inner u hu64 w T
  clear T
  go_enter Tryz.func15, Tryz.ntmps15
  go_wp2_with fail
  refine C.mono ?_
  rintro e w1 ⟨rfl, b1⟩
  have H1 : Hid (Below w.heap.size w w1) := b1
  clear b1 C
  go_wp2_with fail
  go_ret
  exact ⟨rfl, H1.out⟩

end Go.Proofs.YtdhoimjkgicneaaGreatDoor
