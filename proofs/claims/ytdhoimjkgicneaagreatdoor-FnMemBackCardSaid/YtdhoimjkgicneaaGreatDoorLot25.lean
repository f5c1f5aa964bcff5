/- Texts of this proof laid together: DevC2, DevD, ReadB. -/
import Derived.Test.YtdhoimjkgicneaaGreatDoorLot15
import Derived.Test.YtdhoimjkgicneaaGreatDoorLot16
import Derived.Deep.RegionWith
import Derived.Test.YtdhoimjkgicneaaGreatDoorLot24
import Derived.StillTailTactics
/- The specification's words, and decimal numbers. -/
namespace Go.Proofs.YtdhoimjkgicneaaGreatDoor
open Go Go.RowKit

set_option maxHeartbeats 400000 in
theorem spec_words (w : World) :
    Calls Tryz.prog 127 #[] w fun e w' => e = .returned (.slice (some ⟨w.heap.size, 0, none⟩) 4 4) ∧ w' = w.alloc (.cells #[.string ⟨#[110, 97, 110]⟩, .string ⟨#[105, 110, 102]⟩, .string ⟨#[45, 105, 110, 102]⟩, .string ⟨#[45, 48, 46, 48]⟩] 9) := by
  go_enter Tryz.func127, Tryz.ntmps127
  go_wp2
  go_ret
  exact ⟨rfl, rfl⟩

/-- The length of a string value. -/
def strSize : Value → Nat | .string s => s.size | _ => 0

set_option maxHeartbeats 400000 in
theorem spec_l1dec1 (m p : Nat) (w : World) (hm : m ≤ 999999999) (hp : p ≤ 6) :
    Calls Tryz.prog 130 #[.int .i64 m, .int .i64 p] w fun e w' => e = .returned (.string ⟨(decM m p).toArray⟩) ∧ Below w.heap.size w w' := by
  have hl : (Lib.decDigits m).length ≤ 19 := dd_len19 (by omega)
  go_enter Tryz.func130, Tryz.ntmps130
  go_wp2_with (go_at_call 51; refine (spec_dec1 m _ (by omega)).mono ?_; rintro e w' ⟨rfl, hb⟩)
  have HB : Hid (Below w.heap.size w w') := hb
  clear hb
  go_loop [5] (fun s => ∃ j : Nat, s = .string ⟨(List.replicate j 48 ++ Lib.decDigits m).toArray⟩ ∧ (j = 0 ∨ j + (Lib.decDigits m).length ≤ p + 1)) (fun s => p + 1 - (strSize s))
  case atStart => exact ⟨0, by simp, Or.inl rfl⟩
  case round =>
    obtain ⟨j, rfl, hj⟩ := hrel
    by_cases hlt : j + (Lib.decDigits m).length ≤ p
    · go_wp2
      go_round
      case rel =>
        refine ⟨j + 1, congrArg Value.string ((str_cat [48] _).trans ?_), Or.inr (by omega)⟩
        rw [List.replicate_succ]; rfl
      case measure =>
        have e : (⟨#[48]⟩ : ByteArray) ++ ⟨(List.replicate j 48 ++ Lib.decDigits m).toArray⟩ = ⟨(48 :: (List.replicate j 48 ++ Lib.decDigits m)).toArray⟩ := str_cat [48] _
        rw [e]
        simp only [strSize, str_size]
        simp; omega
    · have HL : Hid (padL (Lib.decDigits m) p = List.replicate j 48 ++ Lib.decDigits m) := by
        have e : p + 1 - (Lib.decDigits m).length = j := by omega
        show padL _ _ = _
        rw [padL, e]
      have l1 : p < (List.replicate j (48 : UInt8) ++ Lib.decDigits m).length := by simp; omega
      have l2 : (List.replicate j (48 : UInt8) ++ Lib.decDigits m).length ≤ 40 := by simp; omega
      clear hlt hj hl
      generalize List.replicate j (48 : UInt8) ++ Lib.decDigits m = L at *
      go_wp2
      go_quiet (fail)
      go_wp2
      go_ret
      refine ⟨ret_str ?_, below_drewN HB.out _⟩
      rw [point_eq, decM, HL.out]

set_option maxHeartbeats 400000 in
theorem spec_l1dec (n : Int) (p : Nat) (w : World) (h1 : -999999999 ≤ n) (h2 : n ≤ 999999999) (hp : p ≤ 6) :
    Calls Tryz.prog 130 #[.int .i64 n, .int .i64 p] w fun e w' => e = .returned (.string ⟨(decT n p).toArray⟩) ∧ Below w.heap.size w w' := by
  by_cases h0 : 0 ≤ n
  · obtain ⟨m, rfl⟩ : ∃ m : Nat, n = m := ⟨n.toNat, by omega⟩
    have e : decT (m : Int) p = decM m p := by unfold decT; rw [if_neg (by omega)]; simp
    rw [e]
    exact spec_l1dec1 m p w (by omega) hp
  · obtain ⟨m, rfl⟩ : ∃ m : Nat, n = -(m : Int) := ⟨n.natAbs, by omega⟩
    have e : decT (-(m : Int)) p = 45 :: decM m p := by unfold decT; rw [if_pos (by omega)]; simp
    rw [e]
    clear e
    have hl := decM_len (m := m) (p := p) (by omega) hp
    go_enter Tryz.func130, Tryz.ntmps130
    go_wp2_with fail
    refine (spec_l1dec1 m p w (by omega) hp).mono ?_
    rintro e w' ⟨rfl, hb⟩
    have HB : Hid (Below w.heap.size w w') := hb
    clear hb
    go_wp2
    go_ret
    exact ⟨ret_str (str_cat [45] _), HB.out⟩

end Go.Proofs.YtdhoimjkgicneaaGreatDoor

/- What the specification's DevText does. -/
namespace Go.Proofs.YtdhoimjkgicneaaGreatDoor
open Go Go.RowKit

set_option maxHeartbeats 400000 in
theorem spec_text_no (k n p : Int) (w : World) (hk : okB k n p = false) :
    Calls Tryz.prog 94 #[.agg #[.int .i64 k, .int .i64 n, .int .i64 p]] w fun e w' => e = .returned (.string ⟨(textL k n p).toArray⟩) ∧ Below w.heap.size w w' := by
  rw [text_no hk]
  go_enter Tryz.func94, Tryz.ntmps94
  go_wp2_with (go_at_call 129; refine (spec_ok k n p _).mono ?_; rintro e w1 ⟨rfl, hb⟩)
  go_ret
  exact ⟨rfl, (box3 hb).2.2.2.2⟩

set_option maxHeartbeats 400000 in
theorem spec_text_int (n p : Int) (w : World) (hk : okB 11 n p = true) :
    Calls Tryz.prog 94 #[.agg #[.int .i64 11, .int .i64 n, .int .i64 p]] w fun e w' => e = .returned (.string ⟨(textL 11 n p).toArray⟩) ∧ Below w.heap.size w w' := by
  rw [text_int hk]
  have hn : -32768 ≤ n ∧ n ≤ 32767 ∧ p = 0 := by simpa [okB] using hk
  obtain ⟨n1, n2, -⟩ := hn
  go_enter Tryz.func94, Tryz.ntmps94
  go_wp2_with fail
  refine (spec_ok 11 n p _).mono ?_
  rintro e w1 ⟨rfl, hb⟩
  obtain ⟨c0, c1, c2, hz, hb1⟩ := box3 hb
  have HB : Hid (Below w.heap.size w w1) := hb1
  clear hb hb1
  go_wp2_with (go_at_call 51; refine (spec_dec n _ (by omega) (by omega)).mono ?_; rintro e w2 ⟨rfl, hb⟩)
  go_ret
  exact ⟨rfl, HB.out.trans (hb.mono (by omega))⟩

set_option maxHeartbeats 400000 in
theorem spec_text_dec (n p : Int) (w : World) (hk : okB 12 n p = true) :
    Calls Tryz.prog 94 #[.agg #[.int .i64 12, .int .i64 n, .int .i64 p]] w fun e w' => e = .returned (.string ⟨(textL 12 n p).toArray⟩) ∧ Below w.heap.size w w' := by
  rw [text_dec hk]
  have hn : -999999999 ≤ n ∧ n ≤ 999999999 ∧ 1 ≤ p ∧ p ≤ 6 ∧ (p = 1 ∨ n.tmod 10 ≠ 0) := by unfold okB at hk; rw [if_neg (by decide), if_pos rfl] at hk; exact of_decide_eq_true hk
  obtain ⟨q, rfl⟩ : ∃ q : Nat, p = q := ⟨p.toNat, by omega⟩
  rw [show (q : Int).toNat = q from rfl]
  obtain ⟨n1, n2, n3, n4, -⟩ := hn
  go_enter Tryz.func94, Tryz.ntmps94
  go_wp2_with fail
  refine (spec_ok 12 n q _).mono ?_
  rintro e w1 ⟨rfl, hb⟩
  obtain ⟨c0, c1, c2, hz, hb1⟩ := box3 hb
  have HB : Hid (Below w.heap.size w w1) := hb1
  clear hb hb1
  go_wp2_with (go_at_call 130; refine (spec_l1dec n q _ (by omega) (by omega) (by omega)).mono ?_; rintro e w2 ⟨rfl, hb⟩)
  go_ret
  exact ⟨rfl, HB.out.trans (hb.mono (by omega))⟩

set_option maxHeartbeats 400000 in
theorem spec_text_word (n p : Int) (w : World) (hk : okB 13 n p = true) :
    Calls Tryz.prog 94 #[.agg #[.int .i64 13, .int .i64 n, .int .i64 p]] w fun e w' => e = .returned (.string ⟨(textL 13 n p).toArray⟩) ∧ Below w.heap.size w w' := by
  rw [text_word hk]
  have hn : 0 ≤ n ∧ n ≤ 3 ∧ p = 0 := by simpa [okB] using hk
  obtain ⟨h0, h3, -⟩ := hn
  have h4 : n = 0 ∨ n = 1 ∨ n = 2 ∨ n = 3 := by omega
  clear h0 h3
  rcases h4 with rfl | rfl | rfl | rfl
  all_goals
    go_enter Tryz.func94, Tryz.ntmps94
    go_wp2_with fail
    refine (spec_ok 13 _ p _).mono ?_
    rintro e w1 ⟨rfl, hb⟩
    obtain ⟨c0, c1, c2, hz, hb1⟩ := box3 hb
    have HB : Hid (Below w.heap.size w w1) := hb1
    clear hb hb1
    go_wp2
    go_region_with (go_at_call 127; refine (spec_words _).mono ?_; rintro e w2 ⟨rfl, rfl⟩)
    all_goals
      go_wp2
      go_ret
      exact ⟨rfl, (HB.out.alloc (by omega) _).drew⟩

set_option maxHeartbeats 400000 in
theorem spec_text_dev (k n p : Int) (w : World) (hk : okB k n p = true) (hK : k < 11 ∨ 13 < k) :
    Calls Tryz.prog 94 #[.agg #[.int .i64 k, .int .i64 n, .int .i64 p]] w fun e w' => e = .returned (.string ⟨(textL k n p).toArray⟩) ∧ Below w.heap.size w w' := by
  rw [text_dev hk hK]
  have hn : 0 ≤ n ∧ n < sizeZ k := by
    unfold okB at hk; rw [if_neg (by omega), if_neg (by omega), if_neg (by omega)] at hk
    have := of_decide_eq_true hk; omega
  have hz := sizeZ_bd k
  have b1 : (k == 11) = false := by simp; omega
  have b2 : (k == 12) = false := by simp; omega
  have b3 : (k == 13) = false := by simp; omega
  have n1 : 0 ≤ n := hn.1
  have n2 : n ≤ 64 := by omega
  have l1 := letterL_len k
  have l2 := itoa_len (n := n) (by omega) (by omega)
  clear hn hz hK
  go_enter Tryz.func94, Tryz.ntmps94
  go_wp2_with fail
  refine (spec_ok k n p _).mono ?_
  rintro e w1 ⟨rfl, hb⟩
  obtain ⟨c0, c1, c2, hz, hb1⟩ := box3 hb
  have HB : Hid (Below w.heap.size w w1) := hb1
  clear hb hb1
  go_wp2
  go_region_with (first | (go_at_call 92; refine (spec_letter k _).mono ?_; rintro e w2 ⟨rfl, rfl⟩) | (go_at_call 51; refine (spec_dec n _ (by omega) (by omega)).mono ?_; rintro e w2 ⟨rfl, hb⟩))
  all_goals
    go_wp2
    go_ret
    exact ⟨ret_str (str_cat _ _), HB.out.drew.trans (hb.mono (by show _ ≤ w1.heap.size; omega))⟩

theorem spec_text (k n p : Int) (w : World) :
    Calls Tryz.prog 94 #[.agg #[.int .i64 k, .int .i64 n, .int .i64 p]] w fun e w' => e = .returned (.string ⟨(textL k n p).toArray⟩) ∧ Below w.heap.size w w' := by
  cases hk : okB k n p with
  | false => exact spec_text_no k n p w hk
  | true =>
    by_cases h1 : k = 11
    · subst h1; exact spec_text_int n p w hk
    by_cases h2 : k = 12
    · subst h2; exact spec_text_dec n p w hk
    by_cases h3 : k = 13
    · subst h3; exact spec_text_word n p w hk
    exact spec_text_dev k n p w hk (by omega)

end Go.Proofs.YtdhoimjkgicneaaGreatDoor

/- What the specification's l1Guess does. -/
namespace Go.Proofs.YtdhoimjkgicneaaGreatDoor
open Go Go.RowKit

/-- The result's cells, where nothing but new blocks came. -/
theorem box3b {w w1 : World} {a b c : Value} {t : TypeId} (hb : Below (w.alloc (.cells #[a, b, c] t)).heap.size (w.alloc (.cells #[a, b, c] t)) w1) :
    w1.cell? ⟨w.heap.size, 0, none⟩ = some a ∧ w1.cell? ⟨w.heap.size, 1, none⟩ = some b ∧ w1.cell? ⟨w.heap.size, 2, none⟩ = some c ∧
    w1.frozen? ⟨w.heap.size, 0, none⟩ = false ∧ w1.frozen? ⟨w.heap.size, 1, none⟩ = false ∧ w1.frozen? ⟨w.heap.size, 2, none⟩ = false ∧ w.heap.size < w1.heap.size ∧ Below w.heap.size w w1 := by
  obtain ⟨c0, c1, c2, hz, hb1⟩ := box3 hb
  refine ⟨c0, c1, c2, ?_, ?_, ?_, hz, hb1⟩
  · rw [hb.frozen (p := ⟨w.heap.size, 0, none⟩) (by simp)]; simp
  · rw [hb.frozen (p := ⟨w.heap.size, 1, none⟩) (by simp)]; simp
  · rw [hb.frozen (p := ⟨w.heap.size, 2, none⟩) (by simp)]; simp

theorem letK_hit {l : List UInt8} {m : Nat} (h1 : 1 ≤ m) (h2 : m ≤ 10) (h : l.take 1 = letterL m) : letK l = m := by
  have hm : m = 1 ∨ m = 2 ∨ m = 3 ∨ m = 4 ∨ m = 5 ∨ m = 6 ∨ m = 7 ∨ m = 8 ∨ m = 9 ∨ m = 10 := by omega
  unfold letK
  rw [h]
  rcases hm with rfl | rfl | rfl | rfl | rfl | rfl | rfl | rfl | rfl | rfl <;> decide
theorem letK_none {l : List UInt8} (h : ∀ j : Nat, 1 ≤ j → j < 11 → l.take 1 ≠ letterL j) : letK l = 0 := by
  have a1 : l.take 1 ≠ [88] := by have e := h 1 (by omega) (by omega); rwa [show letterL ((1 : Nat) : Int) = [88] by decide] at e
  have a2 : l.take 1 ≠ [89] := by have e := h 2 (by omega) (by omega); rwa [show letterL ((2 : Nat) : Int) = [89] by decide] at e
  have a3 : l.take 1 ≠ [77] := by have e := h 3 (by omega) (by omega); rwa [show letterL ((3 : Nat) : Int) = [77] by decide] at e
  have a4 : l.take 1 ≠ [83] := by have e := h 4 (by omega) (by omega); rwa [show letterL ((4 : Nat) : Int) = [83] by decide] at e
  have a5 : l.take 1 ≠ [69] := by have e := h 5 (by omega) (by omega); rwa [show letterL ((5 : Nat) : Int) = [69] by decide] at e
  have a6 : l.take 1 ≠ [71] := by have e := h 6 (by omega) (by omega); rwa [show letterL ((6 : Nat) : Int) = [71] by decide] at e
  have a7 : l.take 1 ≠ [84] := by have e := h 7 (by omega) (by omega); rwa [show letterL ((7 : Nat) : Int) = [84] by decide] at e
  have a8 : l.take 1 ≠ [67] := by have e := h 8 (by omega) (by omega); rwa [show letterL ((8 : Nat) : Int) = [67] by decide] at e
  have a9 : l.take 1 ≠ [68] := by have e := h 9 (by omega) (by omega); rwa [show letterL ((9 : Nat) : Int) = [68] by decide] at e
  have a10 : l.take 1 ≠ [82] := by have e := h 10 (by omega) (by omega); rwa [show letterL ((10 : Nat) : Int) = [82] by decide] at e
  unfold letK
  rw [if_neg a1, if_neg a2, if_neg a3, if_neg a4, if_neg a5, if_neg a6, if_neg a7, if_neg a8, if_neg a9, if_neg a10]

theorem ext01 (s : ByteArray) : (s.extract 0 1).toList = s.data.toList.take 1 := by
  rw [ByteArray.toList_eq, Lib.extract_data]; simp

theorem ext_tail (s : ByteArray) (a : Nat) : (s.extract a s.size).data.toList = s.data.toList.drop a := by
  rw [Lib.extract_data, List.take_of_length_le (by rw [List.length_drop, toList_len]; omega)]
theorem ext_head (s : ByteArray) (a : Nat) : (s.extract 0 a).data.toList = s.data.toList.take a := by
  rw [Lib.extract_data]; simp

theorem digitsZ_bd (l : List UInt8) : -1 ≤ digitsZ l ∧ digitsZ l ≤ 100000000000000000 := by
  unfold digitsZ
  split
  · rename_i h
    have h1 := dval_bd l h.2.2
    have h2 : 10 ^ l.length ≤ 10 ^ 17 := Nat.pow_le_pow_right (by omega) h.2.1
    have h3 : dval l 0 < 10 ^ 17 := Nat.lt_of_lt_of_le h1 h2
    omega
  · omega
theorem fnd_lt : ∀ {l : List UInt8} {d : Nat}, fnd l = some d → d < l.length
  | [], d, h => by cases h
  | c :: cs, d, h => by
    rw [fnd] at h
    split at h
    · cases h; simp
    · cases hf : fnd cs with
      | none => rw [hf] at h; cases h
      | some e => rw [hf] at h; cases h; have := fnd_lt hf; simp; omega

theorem wrapi {x : Int} (h1 : -9223372036854775808 ≤ x) (h2 : x ≤ 9223372036854775807) : IntKind.i64.wrap x = x := by rw [IntKind.wrap_i64]; omega
theorem slice_from (t : ByteArray) (d : Nat) (h : d + 1 ≤ t.size) (wx : World) : (Instr.slice 9 (.string t) (some (.int .i64 ((d : Int) + 1))) none none).run Tryz.prog wx = .ok (.string (t.extract (d + 1) t.size)) wx := by
  rw [run_slice_string_l wx 9 t Tryz.underlying9 .i64 _ (by omega) (by omega), show ((d : Int) + 1).toNat = d + 1 by omega]
theorem slice_to (t : ByteArray) (d : Nat) (h : d ≤ t.size) (wx : World) : (Instr.slice 9 (.string t) none (some (.int .i64 (d : Int))) none).run Tryz.prog wx = .ok (.string (t.extract 0 d)) wx := by
  rw [run_slice_string_h wx 9 t Tryz.underlying9 .i64 _ (by omega) (by omega), show (d : Int).toNat = d by omega]

set_option maxRecDepth 100000 in
set_option maxHeartbeats 1000000 in
theorem guess_num (s : ByteArray) (w : World) (hs : s.size ≤ 6000) (h0 : (s.toList == [110, 97, 110]) = false) (h1 : (s.toList == [105, 110, 102]) = false) (h2 : (s.toList == [45, 105, 110, 102]) = false) (h3 : (s.toList == [45, 48, 46, 48]) = false)
    (hn : s.toList.isEmpty = false) (hn1 : 1 ≤ s.size) (hn2 : (1 : Int) ≤ (s.size : Int))
    (hlet : Hid (letK s.data.toList ≠ 0 → guessP s.data.toList = (letK s.data.toList, digitsZ (s.data.toList.drop 1), 0)))
    (hmin : Hid (letK s.data.toList = 0 → s.data.toList.take 1 = [45] → guessP s.data.toList = numP (-1) (s.data.toList.drop 1)))
    (hplus : Hid (letK s.data.toList = 0 → s.data.toList.take 1 ≠ [45] → guessP s.data.toList = numP 1 s.data.toList)) :
    Calls Tryz.prog 93 #[.string s] w fun e w' => ∃ k n p : Int, e = .returned (.agg #[.int .i64 k, .int .i64 n, .int .i64 p]) ∧ guessP s.data.toList = (k, n, p) ∧ Below w.heap.size w w' := by
  go_enter Tryz.func93, Tryz.ntmps93
  go_wp2
  go_loopw [3] (fun i wr => ∃ k : Nat, k ≤ 4 ∧ i = .int .i64 k ∧ Below (w.alloc (.cells #[.int .i64 0, .int .i64 0, .int .i64 0] 66)).heap.size (w.alloc (.cells #[.int .i64 0, .int .i64 0, .int .i64 0] 66)) wr) (fun i _ => 4 - (intOf i).toNat)
  case atStart => exact ⟨0, Nat.zero_le _, rfl, Below.refl _ _⟩
  case round =>
    obtain ⟨k, hk, rfl, hb⟩ := hrel
    have HB : Hid (Below (w.alloc (.cells #[.int .i64 0, .int .i64 0, .int .i64 0] 66)).heap.size (w.alloc (.cells #[.int .i64 0, .int .i64 0, .int .i64 0] 66)) wr) := hb
    have HZ : Hid ((w.alloc (.cells #[.int .i64 0, .int .i64 0, .int .i64 0] 66)).heap.size ≤ wr.heap.size) := hb.size
    clear hb
    by_cases hlt : k < 4
    · have hk4 : k = 0 ∨ k = 1 ∨ k = 2 ∨ k = 3 := by omega
      rcases hk4 with rfl | rfl | rfl | rfl
      all_goals
        go_wp2_with (go_at_call 127; refine (spec_words _).mono ?_; rintro e w2 ⟨rfl, rfl⟩)
        go_roundw
        case rel => first | exact ⟨1, by omega, rfl, HB.out.alloc HZ.out _⟩ | exact ⟨2, by omega, rfl, HB.out.alloc HZ.out _⟩ | exact ⟨3, by omega, rfl, HB.out.alloc HZ.out _⟩ | exact ⟨4, by omega, rfl, HB.out.alloc HZ.out _⟩
        case measure => simp [intOf]
    · go_wp2
      go_loopw [4] (fun i wr2 => ∃ m : Nat, 1 ≤ m ∧ m ≤ 11 ∧ i = .int .i64 m ∧ (∀ j : Nat, 1 ≤ j → j < m → s.data.toList.take 1 ≠ letterL j) ∧ Below (w.alloc (.cells #[.int .i64 0, .int .i64 0, .int .i64 0] 66)).heap.size (w.alloc (.cells #[.int .i64 0, .int .i64 0, .int .i64 0] 66)) wr2) (fun i _ => 11 - (intOf i).toNat)
      case atStart => exact ⟨1, by omega, by omega, rfl, fun j a b => by omega, HB.out⟩
      case round =>
        clear HB HZ
        obtain ⟨m, hm1, hm2, rfl, hne, hb⟩ := hrel
        have HB : Hid (Below (w.alloc (.cells #[.int .i64 0, .int .i64 0, .int .i64 0] 66)).heap.size (w.alloc (.cells #[.int .i64 0, .int .i64 0, .int .i64 0] 66)) wr) := hb
        obtain ⟨q0, q1, q2, f0, f1, f2, hz, hb1⟩ := box3b hb
        have HB1 : Hid (Below w.heap.size w wr) := hb1
        have HN : Hid (∀ j : Nat, 1 ≤ j → j < m → s.data.toList.take 1 ≠ letterL j) := hne
        clear hb hb1 hne
        by_cases hlt : m ≤ 10
        · cases hc : ((s.extract 0 1).toList == letterL (m : Int)) with
          | false =>
            go_wp2
            go_quiet ((go_at_call 92; exact Calls.quiet_of_same (spec_letter _ _)))
            go_wp2
            go_roundw
            case rel =>
              refine ⟨m + 1, by omega, by omega, by go_num, ?_, below_drewN HB.out _⟩
              intro j j1 j2
              by_cases e : j = m
              · subst e
                intro e2
                rw [ext01, e2] at hc
                simp at hc
              · exact HN.out j j1 (by omega)
            case measure => simp [intOf]; omega
          | true =>
            have HK : Hid (letK s.data.toList = m) := letK_hit hm1 hlt (by rw [ext01] at hc; simpa using hc)
            have hsz : (s.extract 1 s.size).size ≤ 6000 := by simp; omega
            go_wp2
            go_quiet ((go_at_call 92; exact Calls.quiet_of_same (spec_letter _ _)))
            go_wp2_with (go_at_call 128; refine (digits_b _ _ hsz).mono ?_; rintro e w' ⟨rfl, rfl⟩)
            have hr := hlet.out (by rw [HK.out]; omega)
            rw [HK.out] at hr
            exact bodyPost_ret (v := .agg #[.int .i64 m, .int .i64 (digB (s.extract 1 s.size)), .int .i64 0]) (by simp [results, Tryz.results93, go_sem, q0, q1, q2]) rfl
              ⟨m, _, 0, rfl, by rw [hr, digB, ext_tail], below_drewN (((HB1.out.setCell (Nat.le_refl _) _).setCell (Nat.le_refl _) _).setCell (Nat.le_refl _) _) _⟩
        · have HK : Hid (letK s.data.toList = 0) := letK_none (fun j a b => HN.out j a (by omega))
          have h00 : 0 < s.size := by omega
          cases hm : ((s[0].toNat : Int) == 45) with
          | true =>
            have HM : Hid (s.data.toList.take 1 = [45]) := by
              show List.take 1 _ = _
              rw [take_snoc s 0 h00]
              simp only [List.take_zero, List.nil_append]
              have : s[0] = 45 := by
                apply UInt8.toNat_inj.1
                simp at hm
                show s[0].toNat = 45
                omega
              rw [this]
            have hsz : (s.extract 1 s.size).size ≤ 6000 := by simp; omega
            have HT : Hid ((s.extract 1 s.size).data.toList = s.data.toList.drop 1) := ext_tail s 1
            go_wp2_with fail
            generalize s.extract 1 s.size = t at *
            refine (find_b t _ hsz).mono ?_
            rintro e w' ⟨rfl, rfl⟩
            have hbd : -1 ≤ digB t ∧ digB t ≤ 100000000000000000 := digitsZ_bd t.data.toList
            cases hf : fnd t.data.toList with
            | none =>
              have HR : Hid (guessP s.data.toList = (11, (-1) * digB t, 0)) := by
                show guessP _ = _
                rw [hmin.out HK.out HM.out, ← HT.out, numP, hf]; rfl
              have hfz : fndB t = -1 := by rw [fndB, fndZ, hf]
              clear hf
              go_wp2_with (go_at_call 128; refine (digits_b _ _ hsz).mono ?_; rintro e w' ⟨rfl, rfl⟩)
              exact bodyPost_ret (v := .agg #[.int .i64 11, .int .i64 (-digB t), .int .i64 0]) (by simp [results, Tryz.results93, go_sem, q0, q1, q2]) rfl
                ⟨11, _, 0, rfl, by rw [HR.out]; simp, ((HB1.out.setCell (Nat.le_refl _) _).setCell (Nat.le_refl _) _).setCell (Nat.le_refl _) _⟩
            | some d =>
              have hdl := fnd_lt hf
              rw [toList_len] at hdl
              have hsz2 : (t.extract 0 d ++ t.extract (d + 1) t.size).size ≤ 6000 := by simp; omega
              have HR : Hid (guessP s.data.toList = (12, (-1) * digB (t.extract 0 d ++ t.extract (d + 1) t.size), (t.size : Int) - d - 1)) := by
                show guessP _ = _
                rw [hmin.out HK.out HM.out, ← HT.out, numP, hf]
                simp only []
                rw [toList_len, digB, ByteArray.data_append, Array.toList_append, ext_head, ext_tail]
              have hbd2 : -1 ≤ digB (t.extract 0 d ++ t.extract (d + 1) t.size) ∧ digB (t.extract 0 d ++ t.extract (d + 1) t.size) ≤ 100000000000000000 := digitsZ_bd _
              have hfz : fndB t = d := by rw [fndB, fndZ, hf]
              have hd1 : (d : Int) < (t.size : Int) := by omega
              have hd2 : (d : Int) + 1 ≤ (t.size : Int) := by omega
              have hd0 : (0 : Int) ≤ (d : Int) + 1 := by omega
              clear hf hbd
              have hcat2 : ¬ 9223372036854775807 < min d t.size + (t.size - (d + 1)) := by omega
              have hcat3 : ¬ 9223372036854775807 < d + (t.size - (d + 1)) := by omega
              have hmn : min d t.size = d := by omega
              have hd3 : d ≤ t.size := by omega
              have hwr : IntKind.i64.wrap ((d : Int) + 1) = (d : Int) + 1 := wrapi (by omega) (by omega)
              have hwr2 : IntKind.i64.wrap ((t.size : Int) - (d : Int)) = (t.size : Int) - (d : Int) := wrapi (by omega) (by omega)
              have hwr3 : IntKind.i64.wrap ((t.size : Int) - (d : Int) - 1) = (t.size : Int) - (d : Int) - 1 := wrapi (by omega) (by omega)
              have hwr4 : IntKind.i64.wrap (-digB (t.extract 0 d ++ t.extract (d + 1) t.size)) = -digB (t.extract 0 d ++ t.extract (d + 1) t.size) := wrapi (by omega) (by omega)
              go_wp2_with fail
              refine wp_region_still_tail 16 (by kernel_rfl) (by kernel_rfl) ?_
              simp only [List.take_succ_cons, List.take_zero, List.drop_succ_cons, List.drop_zero]
              repeat still_step
              still_call (digits_b _ _ hsz2)
              repeat still_step
              refine wpStill_nil ?_
              change wpList _ _ _ _ _ (World.drew _)
              go_wp2
              exact bodyPost_ret (v := .agg #[.int .i64 12, .int .i64 (-digB (t.extract 0 d ++ t.extract (d + 1) t.size)), .int .i64 ((t.size : Int) - d - 1)]) (by simp [results, Tryz.results93, go_sem, q0, q1, q2]) rfl
                ⟨12, _, _, rfl, by rw [HR.out]; simp, (((HB1.out.setCell (Nat.le_refl _) _).setCell (Nat.le_refl _) _).setCell (Nat.le_refl _) _).drew⟩
          | false =>
            have HM : Hid (s.data.toList.take 1 ≠ [45]) := by
              show List.take 1 _ ≠ _
              rw [take_snoc s 0 h00]
              simp only [List.take_zero, List.nil_append]
              intro e
              have e2 := (List.cons.inj e).1
              rw [e2] at hm
              revert hm; decide
            have hsz : s.size ≤ 6000 := hs
            go_wp2_with fail
            refine (find_b s _ hsz).mono ?_
            rintro e w' ⟨rfl, rfl⟩
            have hbd : -1 ≤ digB s ∧ digB s ≤ 100000000000000000 := digitsZ_bd s.data.toList
            cases hf : fnd s.data.toList with
            | none =>
              have HR : Hid (guessP s.data.toList = (11, 1 * digB s, 0)) := by
                show guessP _ = _
                rw [hplus.out HK.out HM.out, numP, hf]; rfl
              have hfz : fndB s = -1 := by rw [fndB, fndZ, hf]
              clear hf
              go_wp2_with (go_at_call 128; refine (digits_b _ _ hsz).mono ?_; rintro e w' ⟨rfl, rfl⟩)
              exact bodyPost_ret (v := .agg #[.int .i64 11, .int .i64 (digB s), .int .i64 0]) (by simp [results, Tryz.results93, go_sem, q0, q1, q2]) rfl
                ⟨11, _, 0, rfl, by rw [HR.out]; simp, ((HB1.out.setCell (Nat.le_refl _) _).setCell (Nat.le_refl _) _).setCell (Nat.le_refl _) _⟩
            | some d =>
              have hdl := fnd_lt hf
              rw [toList_len] at hdl
              have hsz2 : (s.extract 0 d ++ s.extract (d + 1) s.size).size ≤ 6000 := by simp; omega
              have HR : Hid (guessP s.data.toList = (12, 1 * digB (s.extract 0 d ++ s.extract (d + 1) s.size), (s.size : Int) - d - 1)) := by
                show guessP _ = _
                rw [hplus.out HK.out HM.out, numP, hf]
                simp only []
                rw [toList_len, digB, ByteArray.data_append, Array.toList_append, ext_head, ext_tail]
              have hbd2 : -1 ≤ digB (s.extract 0 d ++ s.extract (d + 1) s.size) ∧ digB (s.extract 0 d ++ s.extract (d + 1) s.size) ≤ 100000000000000000 := digitsZ_bd _
              have hfz : fndB s = d := by rw [fndB, fndZ, hf]
              have hd1 : (d : Int) < (s.size : Int) := by omega
              have hd2 : (d : Int) + 1 ≤ (s.size : Int) := by omega
              have hd0 : (0 : Int) ≤ (d : Int) + 1 := by omega
              clear hf hbd
              have hcat2 : ¬ 9223372036854775807 < min d s.size + (s.size - (d + 1)) := by omega
              have hcat3 : ¬ 9223372036854775807 < d + (s.size - (d + 1)) := by omega
              have hmn : min d s.size = d := by omega
              have hd3 : d ≤ s.size := by omega
              have hwr : IntKind.i64.wrap ((d : Int) + 1) = (d : Int) + 1 := wrapi (by omega) (by omega)
              have hwr2 : IntKind.i64.wrap ((s.size : Int) - (d : Int)) = (s.size : Int) - (d : Int) := wrapi (by omega) (by omega)
              have hwr3 : IntKind.i64.wrap ((s.size : Int) - (d : Int) - 1) = (s.size : Int) - (d : Int) - 1 := wrapi (by omega) (by omega)
              have hwr4 : IntKind.i64.wrap (digB (s.extract 0 d ++ s.extract (d + 1) s.size)) = digB (s.extract 0 d ++ s.extract (d + 1) s.size) := wrapi (by omega) (by omega)
              go_wp2_with fail
              refine wp_region_still_tail 16 (by kernel_rfl) (by kernel_rfl) ?_
              simp only [List.take_succ_cons, List.take_zero, List.drop_succ_cons, List.drop_zero]
              repeat still_step
              still_call (digits_b _ _ hsz2)
              repeat still_step
              refine wpStill_nil ?_
              change wpList _ _ _ _ _ (World.drew _)
              go_wp2
              exact bodyPost_ret (v := .agg #[.int .i64 12, .int .i64 (digB (s.extract 0 d ++ s.extract (d + 1) s.size)), .int .i64 ((s.size : Int) - d - 1)]) (by simp [results, Tryz.results93, go_sem, q0, q1, q2]) rfl
                ⟨12, _, _, rfl, by rw [HR.out]; simp, (((HB1.out.setCell (Nat.le_refl _) _).setCell (Nat.le_refl _) _).setCell (Nat.le_refl _) _).drew⟩

end Go.Proofs.YtdhoimjkgicneaaGreatDoor
