/- Texts of this proof laid together: ReadG, ReadH, DevG. -/
import Derived.Test.YtdhoimjkgicneacGreatDoorLot21
import Derived.Test.YtdhoimjkgicneacGreatDoorLot19
/- What the specification's l1Guess does at every text. -/
namespace Go.Proofs.YtdhoimjkgicneacGreatDoor
open Go Go.RowKit

set_option maxRecDepth 100000 in
set_option maxHeartbeats 400000 in
theorem guess_empty (w : World) :
    Calls Tryz.prog 45 #[.string ⟨#[]⟩] w fun e w' => e = .returned (.agg #[.int .i64 11, .int .i64 (-1), .int .i64 0]) ∧ Below w.heap.size w w' := by
  have hf : fndB ⟨#[]⟩ = -1 := rfl
  have hd : digB ⟨#[]⟩ = -1 := by decide
  have hsz : (⟨#[]⟩ : ByteArray).size ≤ 6000 := by decide
  go_enter Tryz.func45, Tryz.ntmps45
  go_wp2
  go_loopw [3] (fun i wr => ∃ k : Nat, k ≤ 4 ∧ i = .int .i64 k ∧ Below (w.alloc (.cells #[.int .i64 0, .int .i64 0, .int .i64 0] 55)).heap.size (w.alloc (.cells #[.int .i64 0, .int .i64 0, .int .i64 0] 55)) wr) (fun i _ => 4 - (intOf i).toNat)
  case atStart => exact ⟨0, Nat.zero_le _, rfl, Below.refl _ _⟩
  case round =>
    obtain ⟨k, hk, rfl, hb⟩ := hrel
    have HB : Hid (Below (w.alloc (.cells #[.int .i64 0, .int .i64 0, .int .i64 0] 55)).heap.size (w.alloc (.cells #[.int .i64 0, .int .i64 0, .int .i64 0] 55)) wr) := hb
    have HZ : Hid ((w.alloc (.cells #[.int .i64 0, .int .i64 0, .int .i64 0] 55)).heap.size ≤ wr.heap.size) := hb.size
    clear hb
    by_cases hlt : k < 4
    · have hk4 : k = 0 ∨ k = 1 ∨ k = 2 ∨ k = 3 := by omega
      rcases hk4 with rfl | rfl | rfl | rfl
      all_goals
        go_wp2_with (go_at_call 81; refine (spec_words _).mono ?_; rintro e w2 ⟨rfl, rfl⟩)
        go_roundw
        case rel => first | exact ⟨1, by omega, rfl, HB.out.alloc HZ.out _⟩ | exact ⟨2, by omega, rfl, HB.out.alloc HZ.out _⟩ | exact ⟨3, by omega, rfl, HB.out.alloc HZ.out _⟩ | exact ⟨4, by omega, rfl, HB.out.alloc HZ.out _⟩
        case measure => simp [intOf]
    · go_wp2
      go_loopw [4] (fun i wr2 => ∃ m : Nat, 1 ≤ m ∧ m ≤ 11 ∧ i = .int .i64 m ∧ Below (w.alloc (.cells #[.int .i64 0, .int .i64 0, .int .i64 0] 55)).heap.size (w.alloc (.cells #[.int .i64 0, .int .i64 0, .int .i64 0] 55)) wr2) (fun i _ => 11 - (intOf i).toNat)
      case atStart => exact ⟨1, by omega, by omega, rfl, HB.out⟩
      case round =>
        clear HB HZ
        obtain ⟨m, hm1, hm2, rfl, hb⟩ := hrel
        have HB : Hid (Below (w.alloc (.cells #[.int .i64 0, .int .i64 0, .int .i64 0] 55)).heap.size (w.alloc (.cells #[.int .i64 0, .int .i64 0, .int .i64 0] 55)) wr) := hb
        obtain ⟨q0, q1, q2, f0, f1, f2, hz, hb1⟩ := box3b hb
        have HB1 : Hid (Below w.heap.size w wr) := hb1
        clear hb hb1
        by_cases hlt : m ≤ 10
        · go_wp2
          go_quiet (fail)
          go_wp2
          go_roundw
          case rel => exact ⟨m + 1, by omega, by omega, by go_num, below_drewN HB.out _⟩
          case measure => simp [intOf]; omega
        · go_wp2_with (first
            | (go_at_call 18; refine (find_b _ _ hsz).mono ?_; rintro e w' ⟨rfl, rfl⟩)
            | (go_at_call 82; refine (digits_b _ _ hsz).mono ?_; rintro e w' ⟨rfl, rfl⟩))
          exact bodyPost_ret (v := .agg #[.int .i64 11, .int .i64 (-1), .int .i64 0]) (by simp [results, Tryz.results45, go_sem, q0, q1, q2]) rfl
            ⟨rfl, ((HB1.out.setCell (Nat.le_refl _) _).setCell (Nat.le_refl _) _).setCell (Nat.le_refl _) _⟩

theorem beq_word (s : ByteArray) (l : List UInt8) (h : s.data.toList ≠ l) : (s.toList == l) = false := by
  rw [ByteArray.toList_eq, beq_eq_false_iff_ne]; exact h

theorem str_lit {s : ByteArray} {l : List UInt8} (h : s.data.toList = l) : s = ⟨l.toArray⟩ := by subst h; rfl

theorem guess_all (s : ByteArray) (w : World) (hs : s.size ≤ 6000) :
    Calls Tryz.prog 45 #[.string s] w fun e w' => ∃ k n p : Int, e = .returned (.agg #[.int .i64 k, .int .i64 n, .int .i64 p]) ∧ guessP s.data.toList = (k, n, p) ∧ Below w.heap.size w w' := by
  by_cases h0 : s.data.toList = wordL 0
  · rw [str_lit h0]
    exact (guess_word0 w).mono fun e w' ⟨he, hb⟩ => ⟨13, 0, 0, he, by decide, hb⟩
  by_cases h1 : s.data.toList = wordL 1
  · rw [str_lit h1]
    exact (guess_word1 w).mono fun e w' ⟨he, hb⟩ => ⟨13, 1, 0, he, by decide, hb⟩
  by_cases h2 : s.data.toList = wordL 2
  · rw [str_lit h2]
    exact (guess_word2 w).mono fun e w' ⟨he, hb⟩ => ⟨13, 2, 0, he, by decide, hb⟩
  by_cases h3 : s.data.toList = wordL 3
  · rw [str_lit h3]
    exact (guess_word3 w).mono fun e w' ⟨he, hb⟩ => ⟨13, 3, 0, he, by decide, hb⟩
  by_cases hn : s.size = 0
  · have e0 : s.data.toList = [] := List.length_eq_zero_iff.1 (by rw [toList_len]; exact hn)
    rw [str_lit e0]
    exact (guess_empty w).mono fun e w' ⟨he, hb⟩ => ⟨11, -1, 0, he, by decide, hb⟩
  refine guess_num s w hs (beq_word s _ (by intro e; exact h0 (e.trans (by decide)))) (beq_word s _ (by intro e; exact h1 (e.trans (by decide)))) (beq_word s _ (by intro e; exact h2 (e.trans (by decide)))) (beq_word s _ (by intro e; exact h3 (e.trans (by decide)))) ?_ (by omega) (by omega) ?_ ?_ ?_
  · rw [ByteArray.toList_eq]
    cases he : s.data.toList with
    | nil => exfalso; apply hn; rw [← toList_len, he]; rfl
    | cons c cs => rfl
  · intro hk
    unfold guessP
    rw [if_neg h0, if_neg h1, if_neg h2, if_neg h3, if_pos hk]
  · intro hk hm
    unfold guessP
    rw [if_neg h0, if_neg h1, if_neg h2, if_neg h3, if_neg (by rw [hk]; simp), if_pos hm]
  · intro hk hm
    unfold guessP
    rw [if_neg h0, if_neg h1, if_neg h2, if_neg h3, if_neg (by rw [hk]; simp), if_neg hm]

end Go.Proofs.YtdhoimjkgicneacGreatDoor

/- What the specification's DevRead does. -/
namespace Go.Proofs.YtdhoimjkgicneacGreatDoor
open Go Go.RowKit

/-- What reading a text answers: the operand of which it is the text, or none. -/
def Reads (l : List UInt8) (e : Ending) : Prop :=
  (∃ k n p : Int, okB k n p = true ∧ textL k n p = l ∧ e = .returned (.tuple #[.agg #[.int .i64 k, .int .i64 n, .int .i64 p], .bool true])) ∨
  ((∀ k n p : Int, okB k n p = true → textL k n p ≠ l) ∧ e = .returned (.tuple #[.agg #[.int .i64 0, .int .i64 0, .int .i64 0], .bool false]))

theorem text_ok {k n p : Int} {l : List UInt8} (h : textL k n p = l) (hl : l ≠ []) : okB k n p = true := by
  cases hk : okB k n p with
  | true => rfl
  | false => exfalso; apply hl; rw [← h]; unfold textL; rw [if_pos hk]

theorem none_guess {l : List UInt8} {k n p : Int} (hg : guessP l = (k, n, p)) (h : textL k n p ≠ l) : ∀ k' n' p' : Int, okB k' n' p' = true → textL k' n' p' ≠ l := by
  intro k' n' p' h1 h2
  have h3 := (read_same h1 h2).1
  rw [hg] at h3
  cases h3
  exact h h2
theorem none_scan {l : List UInt8} {k n p : Int} (hg : scanP l = (k, n, p)) (h : okB k n p = false ∨ textL k n p ≠ l) : ∀ k' n' p' : Int, okB k' n' p' = true → textL k' n' p' ≠ l := by
  intro k' n' p' h1 h2
  have h3 := (read_same h1 h2).2
  rw [hg] at h3
  cases h3
  rcases h with h | h
  · rw [h1] at h; cases h
  · exact h h2

theorem kept3 {w1 w2 : World} {b : Nat} {x y z : Value} (hb : Below w1.heap.size w1 w2) (hz : b < w1.heap.size) (q0 : w1.cell? ⟨b, 0, none⟩ = some x) (q1 : w1.cell? ⟨b, 1, none⟩ = some y) (q2 : w1.cell? ⟨b, 2, none⟩ = some z)
    (f0 : w1.frozen? ⟨b, 0, none⟩ = false) (f1 : w1.frozen? ⟨b, 1, none⟩ = false) (f2 : w1.frozen? ⟨b, 2, none⟩ = false) :
    w2.cell? ⟨b, 0, none⟩ = some x ∧ w2.cell? ⟨b, 1, none⟩ = some y ∧ w2.cell? ⟨b, 2, none⟩ = some z ∧ w2.frozen? ⟨b, 0, none⟩ = false ∧ w2.frozen? ⟨b, 1, none⟩ = false ∧ w2.frozen? ⟨b, 2, none⟩ = false :=
  ⟨(hb.cell (p := ⟨b, 0, none⟩) hz).trans q0, (hb.cell (p := ⟨b, 1, none⟩) hz).trans q1, (hb.cell (p := ⟨b, 2, none⟩) hz).trans q2,
    (hb.frozen (p := ⟨b, 0, none⟩) hz).trans f0, (hb.frozen (p := ⟨b, 1, none⟩) hz).trans f1, (hb.frozen (p := ⟨b, 2, none⟩) hz).trans f2⟩

set_option maxRecDepth 100000 in
set_option maxHeartbeats 800000 in
theorem spec_read (s : ByteArray) (w : World) (hs : s.size ≤ 6000) :
    Calls Tryz.prog 20 #[.string s] w fun e w' => Reads s.data.toList e ∧ Below w.heap.size w w' := by
  go_enter Tryz.func20, Tryz.ntmps20
  go_wp2_with fail
  refine (guess_all s _ hs).mono ?_
  rintro e w1 ⟨k, n, p, rfl, hg, hb⟩
  obtain ⟨q0, q1, q2, f0, f1, f2, hz, hb1⟩ := box3b hb
  have HG : Hid (guessP s.data.toList = (k, n, p)) := hg
  have HB : Hid (Below w.heap.size w w1) := hb1
  clear hg hb hb1
  cases hn : s.toList.isEmpty with
  | true =>
    have HE : Hid (s.data.toList = []) := by
      rw [ByteArray.toList_eq] at hn
      exact List.isEmpty_iff.1 hn
    go_wp2
    refine bodyPost_ret (v := .tuple #[.agg #[.int .i64 0, .int .i64 0, .int .i64 0], .bool false]) (by simp [results, Tryz.results20, go_sem, q0, q1, q2, hz]) rfl ⟨Or.inr ⟨?_, rfl⟩, ?_⟩
    · intro k' n' p' h1 h2
      rw [HE.out] at h2
      exact textL_ne h1 h2
    · exact (((HB.out.setCell (Nat.le_refl _) _).setCell (Nat.le_refl _) _).setCell (Nat.le_refl _) _).alloc (by simp; omega) _
  | false =>
    have HE : Hid (s.data.toList ≠ []) := by
      intro e
      rw [ByteArray.toList_eq, e] at hn
      cases hn
    go_wp2_with fail
    refine (spec_text k n p _).mono ?_
    rintro e w2 ⟨rfl, hb2⟩
    obtain ⟨c0, c1, c2, hz2, hb3⟩ := box3 hb2
    obtain ⟨p0, p1, p2, g0, g1, g2⟩ := kept3 hb3 hz q0 q1 q2 f0 f1 f2
    have HB2 : Hid (Below w.heap.size w w2) := HB.out.trans (hb3.mono (by omega))
    have hz3 : w.heap.size < w2.heap.size := by omega
    clear hb2 hb3 q0 q1 q2 f0 f1 f2
    cases hc : (textL k n p == s.toList) with
    | true =>
      have HT : Hid (textL k n p = s.data.toList) := by
        rw [ByteArray.toList_eq] at hc
        exact beq_iff_eq.1 hc
      go_wp2
      exact bodyPost_ret (v := .tuple #[.agg #[.int .i64 k, .int .i64 n, .int .i64 p], .bool true]) (by simp [results, Tryz.results20, go_sem, p0, p1, p2]) rfl
        ⟨Or.inl ⟨k, n, p, text_ok HT.out HE.out, HT.out, rfl⟩, ((HB2.out.setCell (Nat.le_refl _) _).setCell (Nat.le_refl _) _).setCell (Nat.le_refl _) _⟩
    | false =>
      have HT : Hid (textL k n p ≠ s.data.toList) := by
        rw [ByteArray.toList_eq] at hc
        exact beq_eq_false_iff_ne.1 hc
      go_wp2
      exact bodyPost_ret (v := .tuple #[.agg #[.int .i64 0, .int .i64 0, .int .i64 0], .bool false]) (by simp [results, Tryz.results20, go_sem, p0, p1, p2]) rfl
        ⟨Or.inr ⟨none_guess HG.out HT.out, rfl⟩, ((HB2.out.setCell (Nat.le_refl _) _).setCell (Nat.le_refl _) _).setCell (Nat.le_refl _) _⟩

end Go.Proofs.YtdhoimjkgicneacGreatDoor

/- What the program writes of a decimal number. -/
namespace Go.Proofs.YtdhoimjkgicneacGreatDoor
open Go Go.RowKit

theorem point_eqS (s L : List UInt8) (p : Nat) : (⟨s.toArray⟩ : ByteArray) ++ (⟨L.toArray⟩ : ByteArray).extract 0 (L.length - p) ++ ⟨#[46]⟩ ++ (⟨L.toArray⟩ : ByteArray).extract (L.length - p) L.length = ⟨(s ++ pointL L p).toArray⟩ := by
  rw [ext_take, ext_take, show (⟨#[46]⟩ : ByteArray) = ⟨([46] : List UInt8).toArray⟩ from rfl, str_cat, str_cat, str_cat]
  simp [pointL]

theorem grow_below (w : World) (k : Nat) (os : Array Obj) : Below w.heap.size w (Sort.grow (w.drewN k) os) :=
  ⟨rfl, rfl, rfl, by show w.heap.size ≤ (w.heap ++ os).size; simp, fun i hi => by show (w.heap ++ os)[i]? = w.heap[i]?; rw [Array.getElem?_append_left hi]⟩

theorem impl_itoa (n : Int) (w : World) (h1 : -9223372036854775807 ≤ n) (h2 : n ≤ 9223372036854775807) (T : Tabs w) :
    Calls Tryz.prog 76 #[.int .i64 n] w fun e w' => e = .returned (.string ⟨(Lib.itoa n).toArray⟩) ∧ Below w.heap.size w w' :=
  (Tryz.strconv_Itoa n (by omega) (by omega) w T.tab).mono fun e w' ⟨he, k, os, hw⟩ => ⟨he, by rw [hw]; exact grow_below w k os⟩

theorem impl_itoaN (n : Nat) (w : World) (h2 : n ≤ 9223372036854775807) (T : Tabs w) :
    Calls Tryz.prog 76 #[.int .i64 n] w fun e w' => e = .returned (.string ⟨(Lib.decDigits n).toArray⟩) ∧ Below w.heap.size w w' := by
  have := impl_itoa n w (by omega) (by omega) T
  rwa [Lib.itoa_nonneg] at this

theorem repeatL_eq (c : Nat) : Lib.repeatL [48] c = List.replicate c 48 := by
  induction c with
  | zero => rfl
  | succ c ih => simp [Lib.repeatL, ih, List.replicate_succ]

theorem impl_zeros (c : Nat) (w : World) (h : c ≤ 100) :
    Calls Tryz.prog 126 #[.string ⟨#[48]⟩, .int .i64 c] w fun e w' => e = .returned (.string ⟨(List.replicate c 48).toArray⟩) ∧ Below w.heap.size w w' := by
  have := Tryz.strings_Repeat ⟨#[48]⟩ c w (by omega) (by show 1 * c ≤ _; omega)
  rwa [show (⟨#[48]⟩ : ByteArray).data.toList = [48] from rfl, repeatL_eq] at this

set_option maxHeartbeats 400000 in
theorem impl_dec0 (m p : Nat) (w : World) (hm : m ≤ 999999999) (hp : p ≤ 6) (T : Tabs w) :
    Calls Tryz.prog 101 #[.int .i64 m, .int .i64 p] w fun e w' => e = .returned (.string ⟨(decM m p).toArray⟩) ∧ Below w.heap.size w w' := by
  have hl : (Lib.decDigits m).length ≤ 19 := dd_len19 (by omega)
  go_enter Tryz.func101, Tryz.ntmps101
  go_wp2_with fail
  refine (impl_itoaN m w (by omega) T).mono ?_
  rintro e w1 ⟨rfl, hb⟩
  have HB : Hid (Below w.heap.size w w1) := hb
  have HZ : Hid (w.heap.size ≤ w1.heap.size) := hb.size
  clear hb
  by_cases hlt : (Lib.decDigits m).length ≤ p
  · go_wp2_with fail
    rw [show ((p : Int) + 1 - ((Lib.decDigits m).length : Int)) = ((p + 1 - (Lib.decDigits m).length : Nat) : Int) from by omega]
    refine (impl_zeros (p + 1 - (Lib.decDigits m).length) w1 (by omega)).mono ?_
    rintro e w2 ⟨rfl, hb⟩
    have HB2 : Hid (Below w.heap.size w w2) := HB.out.trans (hb.mono HZ.out)
    clear hb HB
    go_wp2
    rw [show (⟨Array.replicate (p + 1 - (Lib.decDigits m).length) 48⟩ : ByteArray) ++ ⟨(Lib.decDigits m).toArray⟩ = ⟨(padL (Lib.decDigits m) p).toArray⟩ from by
        rw [← List.toArray_replicate, str_cat]; rfl]
    rw [show (((p + 1 - (Lib.decDigits m).length : Nat) : Int) + ((Lib.decDigits m).length : Int) - (p : Int)) = (((padL (Lib.decDigits m) p).length : Nat) : Int) - (p : Int) from by
        rw [padL]; simp]
    have l1 : p < (padL (Lib.decDigits m) p).length := by rw [padL]; simp; omega
    have l2 : (padL (Lib.decDigits m) p).length ≤ 40 := by rw [padL]; simp; omega
    have HL : Hid (decM m p = pointL (padL (Lib.decDigits m) p) p) := rfl
    generalize padL (Lib.decDigits m) p = L at *
    go_quiet (fail)
    go_wp2
    go_ret
    refine ⟨ret_str ?_, below_drewN HB2.out _⟩
    rw [HL.out]
    exact point_eqS [] L p
  · go_wp2_with fail
    have l1 : p < (Lib.decDigits m).length := by omega
    have HL : Hid (decM m p = pointL (Lib.decDigits m) p) := by
      show decM m p = _
      rw [decM, padL, show p + 1 - (Lib.decDigits m).length = 0 from by omega]; rfl
    generalize Lib.decDigits m = L at *
    go_quiet (fail)
    go_wp2
    go_ret
    refine ⟨ret_str ?_, below_drewN HB.out _⟩
    rw [HL.out]
    exact point_eqS [] L p

set_option maxHeartbeats 400000 in
theorem impl_dec1 (m p : Nat) (w : World) (h0 : 0 < m) (hm : m ≤ 999999999) (hp : p ≤ 6) (T : Tabs w) :
    Calls Tryz.prog 101 #[.int .i64 (-(m : Int)), .int .i64 p] w fun e w' => e = .returned (.string ⟨(45 :: decM m p).toArray⟩) ∧ Below w.heap.size w w' := by
  have hl : (Lib.decDigits m).length ≤ 19 := dd_len19 (by omega)
  go_enter Tryz.func101, Tryz.ntmps101
  go_wp2_with fail
  refine (impl_itoaN m w (by omega) T).mono ?_
  rintro e w1 ⟨rfl, hb⟩
  have HB : Hid (Below w.heap.size w w1) := hb
  have HZ : Hid (w.heap.size ≤ w1.heap.size) := hb.size
  clear hb
  by_cases hlt : (Lib.decDigits m).length ≤ p
  · go_wp2_with fail
    rw [show ((p : Int) + 1 - ((Lib.decDigits m).length : Int)) = ((p + 1 - (Lib.decDigits m).length : Nat) : Int) from by omega]
    refine (impl_zeros (p + 1 - (Lib.decDigits m).length) w1 (by omega)).mono ?_
    rintro e w2 ⟨rfl, hb⟩
    have HB2 : Hid (Below w.heap.size w w2) := HB.out.trans (hb.mono HZ.out)
    clear hb HB
    go_wp2
    rw [show (⟨Array.replicate (p + 1 - (Lib.decDigits m).length) 48⟩ : ByteArray) ++ ⟨(Lib.decDigits m).toArray⟩ = ⟨(padL (Lib.decDigits m) p).toArray⟩ from by
        rw [← List.toArray_replicate, str_cat]; rfl]
    rw [show (((p + 1 - (Lib.decDigits m).length : Nat) : Int) + ((Lib.decDigits m).length : Int) - (p : Int)) = (((padL (Lib.decDigits m) p).length : Nat) : Int) - (p : Int) from by
        rw [padL]; simp]
    have l1 : p < (padL (Lib.decDigits m) p).length := by rw [padL]; simp; omega
    have l2 : (padL (Lib.decDigits m) p).length ≤ 40 := by rw [padL]; simp; omega
    have HL : Hid (45 :: decM m p = 45 :: pointL (padL (Lib.decDigits m) p) p) := rfl
    generalize padL (Lib.decDigits m) p = L at *
    go_quiet (fail)
    go_wp2
    go_ret
    refine ⟨ret_str ?_, below_drewN HB2.out _⟩
    rw [HL.out]
    exact point_eqS [45] L p
  · go_wp2_with fail
    have l1 : p < (Lib.decDigits m).length := by omega
    have HL : Hid (45 :: decM m p = 45 :: pointL (Lib.decDigits m) p) := by
      show 45 :: decM m p = _
      rw [decM, padL, show p + 1 - (Lib.decDigits m).length = 0 from by omega]; rfl
    generalize Lib.decDigits m = L at *
    go_quiet (fail)
    go_wp2
    go_ret
    refine ⟨ret_str ?_, below_drewN HB.out _⟩
    rw [HL.out]
    exact point_eqS [45] L p

theorem impl_dec (n : Int) (p : Nat) (w : World) (h1 : -999999999 ≤ n) (h2 : n ≤ 999999999) (hp : p ≤ 6) (T : Tabs w) :
    Calls Tryz.prog 101 #[.int .i64 n, .int .i64 p] w fun e w' => e = .returned (.string ⟨(decT n p).toArray⟩) ∧ Below w.heap.size w w' := by
  by_cases h0 : 0 ≤ n
  · obtain ⟨m, rfl⟩ : ∃ m : Nat, n = m := ⟨n.toNat, by omega⟩
    have e : decT (m : Int) p = decM m p := by unfold decT; rw [if_neg (by omega)]; simp
    rw [e]
    exact impl_dec0 m p w (by omega) hp T
  · obtain ⟨m, rfl⟩ : ∃ m : Nat, n = -(m : Int) := ⟨n.natAbs, by omega⟩
    have e : decT (-(m : Int)) p = 45 :: decM m p := by unfold decT; rw [if_pos (by omega)]; simp
    rw [e]
    exact impl_dec1 m p w (by omega) (by omega) hp T

end Go.Proofs.YtdhoimjkgicneacGreatDoor
