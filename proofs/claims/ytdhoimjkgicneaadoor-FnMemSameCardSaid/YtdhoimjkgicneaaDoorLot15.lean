/- Texts of this proof laid together: DrawB, DevC, DevC2. -/
import Derived.Test.YtdhoimjkgicneaaDoorLot3
import Derived.Test.YtdhoimjkgicneaaDoorLot11
/- Drawn numbers and operands: that each draw ends, answers, and turns nothing but the reader. -/
namespace Go.Proofs.YtdhoimjkgicneaaDoor
open Go Go.RowKit

set_option maxHeartbeats 400000 in
theorem arg_int (R c : Nat) (w : World) (h : Rd R c w) (hc : c ≤ 900) :
    Calls Tryd.prog 83 #[.pointer (some ⟨R, 0, none⟩), .int .i64 11] w fun e w' => ∃ k n p : Int, e = .returned (.agg #[.int .i64 k, .int .i64 n, .int .i64 p]) ∧ Rd R (c + 4) w' ∧ Moved R w w' := by
  have hR := h.size
  go_enter Tryd.func83, Tryd.ntmps83
  go_wp2_with fail
  refine (num_lit R c _ _ _ (by simp) (h.alloc _) (by omega) (by simp) (by simp) (by simp) 12 rfl).mono ?_
  rintro e w1 ⟨z, rfl, rd, mv⟩
  obtain ⟨q0, q1, q2, f0, f1, f2, hz, mv1⟩ := boxM mv hR
  have MV : Hid (Moved R w w1) := mv1
  have RD : Hid (Rd R (c + 1) w1) := rd
  clear mv mv1 rd h
  go_wp2
  exact bodyPost_ret (v := .agg #[.int .i64 11, .int .i64 z, .int .i64 0]) (by simp [results, Tryd.results83, go_sem, q0, q1, q2]) rfl ⟨11, z, 0, rfl, set3 RD.out MV.out hR (by omega) _ (Nat.le_refl _) _ _ _⟩

set_option maxHeartbeats 400000 in
theorem arg_dec (R c : Nat) (w : World) (h : Rd R c w) (hc : c ≤ 900) :
    Calls Tryd.prog 83 #[.pointer (some ⟨R, 0, none⟩), .int .i64 12] w fun e w' => ∃ k n p : Int, e = .returned (.agg #[.int .i64 k, .int .i64 n, .int .i64 p]) ∧ Rd R (c + 4) w' ∧ Moved R w w' := by
  have hR := h.size
  go_enter Tryd.func83, Tryd.ntmps83
  go_wp2_with fail
  refine (num_lit R c _ _ _ (by simp) (h.alloc _) (by omega) (by simp) (by simp) (by simp) 11 rfl).mono ?_
  rintro e w1 ⟨z, rfl, rd, mv⟩
  clear h
  go_wp2_with fail
  refine (pick_any R (c + 1) 6 w1 rd (by omega) (by omega)).mono ?_
  rintro e w2 ⟨x, rfl, x0, x1, -, rd2, mv2⟩
  have hx : x < 6 := x1 (by omega)
  obtain ⟨q0, q1, q2, f0, f1, f2, hz, mv1⟩ := boxM (mv.trans mv2) hR
  have MV : Hid (Moved R w w2) := mv1
  have RD : Hid (Rd R (c + 1 + 1) w2) := rd2
  clear mv mv1 rd mv2 rd2 x1
  go_wp2
  · exact bodyPost_ret (v := .agg #[.int .i64 12, .int .i64 z, .int .i64 1]) (by simp [results, Tryd.results83, go_sem, q0, q1, q2]) rfl ⟨12, z, 1, rfl, set3 RD.out MV.out hR (by omega) _ (Nat.le_refl _) _ _ _⟩
  · exact bodyPost_ret (v := .agg #[.int .i64 12, .int .i64 z, .int .i64 (1 + x)]) (by simp [results, Tryd.results83, go_sem, q0, q1, q2]) rfl ⟨12, z, _, rfl, set3 RD.out MV.out hR (by omega) _ (Nat.le_refl _) _ _ _⟩

set_option maxHeartbeats 400000 in
theorem arg_word (R c : Nat) (w : World) (h : Rd R c w) (hc : c ≤ 900) :
    Calls Tryd.prog 83 #[.pointer (some ⟨R, 0, none⟩), .int .i64 13] w fun e w' => ∃ k n p : Int, e = .returned (.agg #[.int .i64 k, .int .i64 n, .int .i64 p]) ∧ Rd R (c + 4) w' ∧ Moved R w w' := by
  have hR := h.size
  go_enter Tryd.func83, Tryd.ntmps83
  go_wp2_with fail
  refine (pick_any R c 4 _ (h.alloc _) (by omega) (by omega)).mono ?_
  rintro e w2 ⟨x, rfl, x0, x1, -, rd2, mv⟩
  obtain ⟨q0, q1, q2, f0, f1, f2, hz, mv1⟩ := boxM mv hR
  have MV : Hid (Moved R w w2) := mv1
  have RD : Hid (Rd R (c + 1) w2) := rd2
  clear mv mv1 rd2 x1 h
  go_wp2
  exact bodyPost_ret (v := .agg #[.int .i64 13, .int .i64 x, .int .i64 0]) (by simp [results, Tryd.results83, go_sem, q0, q1, q2]) rfl ⟨13, x, 0, rfl, set3 RD.out MV.out hR (by omega) _ (Nat.le_refl _) _ _ _⟩

set_option maxHeartbeats 800000 in
theorem arg_dev (R c : Nat) (k : Int) (w : World) (h : Rd R c w) (hc : c ≤ 900) (hk : k < 11 ∨ 13 < k) :
    Calls Tryd.prog 83 #[.pointer (some ⟨R, 0, none⟩), .int .i64 k] w fun e w' => ∃ k n p : Int, e = .returned (.agg #[.int .i64 k, .int .i64 n, .int .i64 p]) ∧ Rd R (c + 4) w' ∧ Moved R w w' := by
  have hR := h.size
  have hz := sizeZ_bd k
  have hz1 : sizeZ k ≤ 64 := hz.2
  have b1 : (k == 11) = false := by simp; omega
  have b2 : (k == 12) = false := by simp; omega
  have b3 : (k == 13) = false := by simp; omega
  clear hk hz
  go_enter Tryd.func83, Tryd.ntmps83
  go_wp2_with fail
  refine (pick_any R c 4 _ (h.alloc _) (by omega) (by omega)).mono ?_
  rintro e w1 ⟨x, rfl, x0, -, -, rd1, mv⟩
  clear h
  go_wp2_with fail
  refine (pick_any R (c + 1) 6 w1 rd1 (by omega) (by omega)).mono ?_
  rintro e w2 ⟨y, rfl, y0, -, -, rd2, mv2⟩
  clear rd1
  have mv2' := mv.trans mv2
  clear mv mv2
  cases hy : y == 0 with
  | false =>
    obtain ⟨q0, q1, q2, f0, f1, f2, hz, mv1⟩ := boxM mv2' hR
    have MV : Hid (Moved R w w2) := mv1
    have RD : Hid (Rd R (c + 1 + 1) w2) := rd2
    clear mv1 rd2 mv2'
    go_wp2_with (go_at_call 52; refine (spec_size k _).mono ?_; rintro e w' ⟨rfl, rfl⟩)
    · exact bodyPost_ret (v := .agg #[.int .i64 k, .int .i64 0, .int .i64 0]) (by simp [results, Tryd.results83, go_sem, q0, q1, q2]) rfl ⟨k, 0, 0, rfl, set3 RD.out MV.out hR (by omega) _ (Nat.le_refl _) _ _ _⟩
    · exact bodyPost_ret (v := .agg #[.int .i64 k, .int .i64 x, .int .i64 0]) (by simp [results, Tryd.results83, go_sem, q0, q1, q2]) rfl ⟨k, x, 0, rfl, set3 RD.out MV.out hR (by omega) _ (Nat.le_refl _) _ _ _⟩
  | true =>
    go_wp2_with (go_at_call 52; refine (spec_size k _).mono ?_; rintro e w' ⟨rfl, rfl⟩)
    refine (pick_any R (c + 1 + 1) (sizeZ k) _ rd2 (by omega) (by omega)).mono ?_
    rintro e w3 ⟨u, rfl, u0, -, -, rd3, mv3⟩
    obtain ⟨q0, q1, q2, f0, f1, f2, hz, mv1⟩ := boxM (mv2'.trans mv3) hR
    have MV : Hid (Moved R w w3) := mv1
    have RD : Hid (Rd R (c + 1 + 1 + 1) w3) := rd3
    clear mv1 rd2 mv2' rd3 mv3
    go_wp2_with (go_at_call 52; refine (spec_size k _).mono ?_; rintro e w' ⟨rfl, rfl⟩)
    · exact bodyPost_ret (v := .agg #[.int .i64 k, .int .i64 0, .int .i64 0]) (by simp [results, Tryd.results83, go_sem, q0, q1, q2]) rfl ⟨k, 0, 0, rfl, set3 RD.out MV.out hR (by omega) _ (Nat.le_refl _) _ _ _⟩
    · exact bodyPost_ret (v := .agg #[.int .i64 k, .int .i64 u, .int .i64 0]) (by simp [results, Tryd.results83, go_sem, q0, q1, q2]) rfl ⟨k, u, 0, rfl, set3 RD.out MV.out hR (by omega) _ (Nat.le_refl _) _ _ _⟩

theorem arg_any (R c : Nat) (k : Int) (w : World) (h : Rd R c w) (hc : c ≤ 900) :
    Calls Tryd.prog 83 #[.pointer (some ⟨R, 0, none⟩), .int .i64 k] w fun e w' => ∃ k n p : Int, e = .returned (.agg #[.int .i64 k, .int .i64 n, .int .i64 p]) ∧ Rd R (c + 4) w' ∧ Moved R w w' := by
  by_cases h1 : k = 11
  · subst h1; exact arg_int R c w h hc
  by_cases h2 : k = 12
  · subst h2; exact arg_dec R c w h hc
  by_cases h3 : k = 13
  · subst h3; exact arg_word R c w h hc
  exact arg_dev R c k w h hc (by omega)

end Go.Proofs.YtdhoimjkgicneaaDoor

/- What the specification's DevOk does at devices, and its words. -/
namespace Go.Proofs.YtdhoimjkgicneaaDoor
open Go Go.RowKit

set_option maxHeartbeats 400000 in
theorem spec_okdev (k n p : Int) (w : World) (hk : k < 11 ∨ 13 < k) :
    Calls Tryd.prog 36 #[.agg #[.int .i64 k, .int .i64 n, .int .i64 p]] w fun e w' => e = .returned (.bool (okB k n p)) ∧ Below w.heap.size w w' := by
  have hok : okB k n p = decide (0 ≤ n ∧ n < sizeZ k ∧ p = 0) := by unfold okB; rw [if_neg (by omega), if_neg (by omega), if_neg (by omega)]
  have HK : Hid (okB k n p = decide (0 ≤ n ∧ n < sizeZ k ∧ p = 0)) := hok
  clear hok
  have b1 : (k == 11) = false := by simp; omega
  have b2 : (k == 12) = false := by simp; omega
  have b3 : (k == 13) = false := by simp; omega
  clear hk
  by_cases h0 : 0 ≤ n
  · have hd : decide (0 ≤ n) = true := by simpa using h0
    by_cases h1 : n < sizeZ k
    · have hd1 : decide (n < sizeZ k) = true := by simpa using h1
      go_enter Tryd.func36, Tryd.ntmps36
      go_wp2
      go_quiet ((go_at_call 52; exact Calls.quiet_of_same (spec_size _ _)))
      go_wp2
      go_ret
      exact ⟨ret_bool (by rw [HK.out, Bool.eq_iff_iff]; simp; omega), below_drewN ((Below.refl _ _).alloc (Nat.le_refl _) _) _⟩
    · have hd1 : decide (n < sizeZ k) = false := by simpa using h1
      go_enter Tryd.func36, Tryd.ntmps36
      go_wp2
      go_quiet ((go_at_call 52; exact Calls.quiet_of_same (spec_size _ _)))
      go_wp2
      go_ret
      exact ⟨ret_bool (by rw [HK.out, Bool.eq_iff_iff]; simp; omega), below_drewN ((Below.refl _ _).alloc (Nat.le_refl _) _) _⟩
  · have hd : decide (0 ≤ n) = false := by simpa using h0
    go_enter Tryd.func36, Tryd.ntmps36
    go_wp2
    go_quiet ((go_at_call 52; exact Calls.quiet_of_same (spec_size _ _)))
    go_wp2
    go_ret
    exact ⟨ret_bool (by rw [HK.out, Bool.eq_iff_iff]; simp; omega), below_drewN ((Below.refl _ _).alloc (Nat.le_refl _) _) _⟩

theorem spec_ok (k n p : Int) (w : World) :
    Calls Tryd.prog 36 #[.agg #[.int .i64 k, .int .i64 n, .int .i64 p]] w fun e w' => e = .returned (.bool (okB k n p)) ∧ Below w.heap.size w w' := by
  by_cases h1 : k = 11
  · subst h1; exact spec_ok11 n p w
  by_cases h2 : k = 12
  · subst h2; exact spec_ok12 n p w
  by_cases h3 : k = 13
  · subst h3; exact spec_ok13 n p w
  exact spec_okdev k n p w (by omega)

end Go.Proofs.YtdhoimjkgicneaaDoor

/- The specification's words, and decimal numbers. -/
namespace Go.Proofs.YtdhoimjkgicneaaDoor
open Go Go.RowKit

set_option maxHeartbeats 400000 in
theorem spec_words (w : World) :
    Calls Tryd.prog 62 #[] w fun e w' => e = .returned (.slice (some ⟨w.heap.size, 0, none⟩) 4 4) ∧ w' = w.alloc (.cells #[.string ⟨#[110, 97, 110]⟩, .string ⟨#[105, 110, 102]⟩, .string ⟨#[45, 105, 110, 102]⟩, .string ⟨#[45, 48, 46, 48]⟩] 9) := by
  go_enter Tryd.func62, Tryd.ntmps62
  go_wp2
  go_ret
  exact ⟨rfl, rfl⟩

/-- The length of a string value. -/
def strSize : Value → Nat | .string s => s.size | _ => 0

set_option maxHeartbeats 400000 in
theorem spec_l1dec1 (m p : Nat) (w : World) (hm : m ≤ 999999999) (hp : p ≤ 6) :
    Calls Tryd.prog 61 #[.int .i64 m, .int .i64 p] w fun e w' => e = .returned (.string ⟨(decM m p).toArray⟩) ∧ Below w.heap.size w w' := by
  have hl : (Lib.decDigits m).length ≤ 19 := dd_len19 (by omega)
  go_enter Tryd.func61, Tryd.ntmps61
  go_wp2_with (go_at_call 60; refine (spec_dec1 m _ (by omega)).mono ?_; rintro e w' ⟨rfl, hb⟩)
  have HB : Hid (Below w.heap.size w w') := hb
  clear hb
  go_loop [5] (fun s => ∃ j : Nat, s = .string ⟨(List.replicate j 48 ++ Lib.decDigits m).toArray⟩ ∧ (j = 0 ∨ j + (Lib.decDigits m).length ≤ p + 1)) (fun s => p + 1 - (strSize s))
  case atStart => exact ⟨0, by simp, Or.inl rfl⟩
  case round =>
    obtain ⟨j, rfl, hj⟩ := hrel
    by_cases hlt : j + (Lib.decDigits m).length ≤ p
    · go_wp2
      go_round
      case rel =>
        refine ⟨j + 1, congrArg Value.string ((str_cat [48] _).trans ?_), Or.inr (by omega)⟩
        rw [List.replicate_succ]; rfl
      case measure =>
        have e : (⟨#[48]⟩ : ByteArray) ++ ⟨(List.replicate j 48 ++ Lib.decDigits m).toArray⟩ = ⟨(48 :: (List.replicate j 48 ++ Lib.decDigits m)).toArray⟩ := str_cat [48] _
        rw [e]
        simp only [strSize, str_size]
        simp; omega
    · have HL : Hid (padL (Lib.decDigits m) p = List.replicate j 48 ++ Lib.decDigits m) := by
        have e : p + 1 - (Lib.decDigits m).length = j := by omega
        show padL _ _ = _
        rw [padL, e]
      have l1 : p < (List.replicate j (48 : UInt8) ++ Lib.decDigits m).length := by simp; omega
      have l2 : (List.replicate j (48 : UInt8) ++ Lib.decDigits m).length ≤ 40 := by simp; omega
      clear hlt hj hl
      generalize List.replicate j (48 : UInt8) ++ Lib.decDigits m = L at *
      go_wp2
      go_quiet (fail)
      go_wp2
      go_ret
      refine ⟨ret_str ?_, below_drewN HB.out _⟩
      rw [point_eq, decM, HL.out]

set_option maxHeartbeats 400000 in
theorem spec_l1dec (n : Int) (p : Nat) (w : World) (h1 : -999999999 ≤ n) (h2 : n ≤ 999999999) (hp : p ≤ 6) :
    Calls Tryd.prog 61 #[.int .i64 n, .int .i64 p] w fun e w' => e = .returned (.string ⟨(decT n p).toArray⟩) ∧ Below w.heap.size w w' := by
  by_cases h0 : 0 ≤ n
  · obtain ⟨m, rfl⟩ : ∃ m : Nat, n = m := ⟨n.toNat, by omega⟩
    have e : decT (m : Int) p = decM m p := by unfold decT; rw [if_neg (by omega)]; simp
    rw [e]
    exact spec_l1dec1 m p w (by omega) hp
  · obtain ⟨m, rfl⟩ : ∃ m : Nat, n = -(m : Int) := ⟨n.natAbs, by omega⟩
    have e : decT (-(m : Int)) p = 45 :: decM m p := by unfold decT; rw [if_pos (by omega)]; simp
    rw [e]
    clear e
    have hl := decM_len (m := m) (p := p) (by omega) hp
    go_enter Tryd.func61, Tryd.ntmps61
    go_wp2_with fail
    refine (spec_l1dec1 m p w (by omega) hp).mono ?_
    rintro e w' ⟨rfl, hb⟩
    have HB : Hid (Below w.heap.size w w') := hb
    clear hb
    go_wp2
    go_ret
    exact ⟨ret_str (str_cat [45] _), HB.out⟩

end Go.Proofs.YtdhoimjkgicneaaDoor
