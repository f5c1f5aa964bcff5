/- Texts of this proof laid together: TxtL, TxtM, TxtN. -/
import Derived.Test.YtdhoimjkgicneaaGreatDoorLot30
import Derived.Test.YtdhoimjkgicneaaGreatDoorLot23
import Derived.Test.YtdhoimjkgicneaaGreatDoorLot5
/- Reading whole numbers as they are written: the specification's, walked. -/
namespace Go.Proofs.YtdhoimjkgicneaaGreatDoor
open Go Go.RowKit

set_option maxHeartbeats 1000000 in
/-- A number without a sign. -/
theorem num_plain (s : ByteArray) (w : World) (hs : s.size ≤ 6000) (h45 : s.size = 0 ∨ s.data.toList.head? ≠ some 45) : Calls Tryz.prog 55 #[.string s] w (NumS s.data.toList w) := by
  have HL : Hid (s.data.toList.length = s.size) := toList_lenT s
  have hn : s.data.toList.head? ≠ some 45 := by
    rcases h45 with h | h
    · have : s.data.toList = [] := List.length_eq_zero_iff.1 (by rw [toList_lenT]; exact h)
      rw [this]; simp
    · exact h
  have NO : ¬ canonP false s.data.toList → NumS s.data.toList w (.returned (.tuple #[.int .i64 0, .bool false])) w := fun h => nums_no (neg := false) h (Or.inr hn)
  have YES : canonP false s.data.toList → NumS s.data.toList w (.returned (.tuple #[.int .i64 (dval s.data.toList 0 : Nat), .bool true])) w := fun h => nums_yes (neg := false) h
  by_cases h0 : s.size = 0
  · have e0 : ((s.size : Int) == 0) = true := by rw [beq_iff_eq]; omega
    have HN : Hid (¬ canonP false s.data.toList) := fun h => by have := h.1; have := HL.out; omega
    clear h45 hn
    go_enter Tryz.func55, Tryz.ntmps55
    go_wp2
    go_ret2
    exact NO HN.out
  · have hp : 0 < s.size := by omega
    have e0 : ((s.size : Int) == 0) = false := by rw [beq_eq_false_iff_ne]; omega
    have hd := head_getT s hp
    have e45 : ((s[0].toNat : Int) == 45) = false := by
      rw [beq_eq_false_iff_ne]
      intro h
      apply hn
      rw [hd]
      congr 1
      apply UInt8.toNat_inj.1
      show s[0].toNat = 45
      omega
    have H48 : Hid (((s[0].toNat : Int) == 48) = true ↔ s.data.toList.head? = some 48) := by
      show _ ↔ _
      rw [hd, beq_iff_eq, Option.some.injEq, ← UInt8.toNat_inj]
      show (s[0].toNat : Int) = 48 ↔ s[0].toNat = 48
      omega
    clear h45 hn hd h0
    by_cases h17 : 17 < s.size
    · have HN : Hid (¬ canonP false s.data.toList) := fun h => by have := h.2.1; have := HL.out; omega
      go_enter Tryz.func55, Tryz.ntmps55
      go_wp2
      go_ret2
      exact NO HN.out
    · cases hz : (s[0].toNat : Int) == 48 with
      | true =>
        by_cases h1 : 1 < s.size
        · have HN : Hid (¬ canonP false s.data.toList) := fun h => h.2.2.2 ⟨H48.out.1 hz, Or.inl (by have := HL.out; omega)⟩
          go_enter Tryz.func55, Tryz.ntmps55
          go_wp2
          go_ret2
          exact NO HN.out
        · have HH : Hid (¬ (s.data.toList.head? = some 48 ∧ (1 < s.data.toList.length ∨ false = true))) := by
            rintro ⟨-, h | h⟩
            · have := HL.out; omega
            · cases h
          clear H48
          go_enter Tryz.func55, Tryz.ntmps55
          go_wp2
          go_loop [5, 6] (fun n i => ∃ k : Nat, k ≤ s.size ∧ i = .int .i64 k ∧ n = .int .i64 (dval (s.data.toList.take k) 0 : Nat) ∧ (s.data.toList.take k).all isDig = true) (fun _ i => s.size - (intOf i).toNat)
          case atStart => exact ⟨0, Nat.zero_le _, rfl, rfl, rfl⟩
          case round =>
            obtain ⟨k, hk, rfl, rfl, ha⟩ := hrel
            have HA : Hid ((s.data.toList.take k).all isDig = true) := ha
            have hb : dval (s.data.toList.take k) 0 < 100000000000000000 := by
              refine Nat.lt_of_lt_of_le (dval_bdT _ ha 0) ?_
              rw [Nat.zero_add, Nat.one_mul, show (100000000000000000 : Nat) = 10 ^ 17 from by decide +kernel]
              exact Nat.pow_le_pow_right (by omega) (by rw [List.length_take]; omega)
            clear ha
            by_cases hlt : k < s.size
            · by_cases d1 : s[k].toNat < 48
              · have HD : Hid (s.data.toList.all isDig = false) := bad_dig s k hlt (by unfold isDig; simp; omega)
                go_wp2
                go_ret2
                exact NO (fun hc => by have := hc.2.2.1; rw [HD.out] at this; cases this)
              · by_cases d2 : 57 < s[k].toNat
                · have HD : Hid (s.data.toList.all isDig = false) := bad_dig s k hlt (by unfold isDig; simp; omega)
                  go_wp2
                  go_ret2
                  exact NO (fun hc => by have := hc.2.2.1; rw [HD.out] at this; cases this)
                · have HS : Hid (dval (s.data.toList.take (k + 1)) 0 = dval (s.data.toList.take k) 0 * 10 + (s[k].toNat - 48)) := by
                    show dval _ _ = _
                    rw [take_snocT s k hlt, dval_append]; rfl
                  have HT : Hid (s.data.toList.take (k + 1) = s.data.toList.take k ++ [s[k]]) := take_snocT s k hlt
                  go_wp2
                  go_round
                  case rel =>
                    refine ⟨k + 1, by omega, by go_num, ?_, ?_⟩
                    · rw [HS.out]; congr 1; omega
                    · rw [HT.out, List.all_append, HA.out]
                      simp [isDig]; omega
                  case measure => simp [intOf]; omega
            · have e : s.data.toList.take k = s.data.toList := List.take_of_length_le (by have := HL.out; omega)
              have ha2 : s.data.toList.all isDig = true := by rw [← e]; exact HA.out
              have HY : Hid (canonP false s.data.toList) := ⟨by have := HL.out; omega, by have := HL.out; omega, ha2, HH.out⟩
              rw [e] at hb ⊢
              clear e ha2
              go_wp2
              go_ret2
              exact YES HY.out
      | false =>
        have HH : Hid (¬ (s.data.toList.head? = some 48 ∧ (1 < s.data.toList.length ∨ false = true))) := by
          rintro ⟨h, -⟩
          rw [H48.out.2 h] at hz; cases hz
        clear H48
        go_enter Tryz.func55, Tryz.ntmps55
        go_wp2
        go_loop [5, 6] (fun n i => ∃ k : Nat, k ≤ s.size ∧ i = .int .i64 k ∧ n = .int .i64 (dval (s.data.toList.take k) 0 : Nat) ∧ (s.data.toList.take k).all isDig = true) (fun _ i => s.size - (intOf i).toNat)
        case atStart => exact ⟨0, Nat.zero_le _, rfl, rfl, rfl⟩
        case round =>
          obtain ⟨k, hk, rfl, rfl, ha⟩ := hrel
          have HA : Hid ((s.data.toList.take k).all isDig = true) := ha
          have hb : dval (s.data.toList.take k) 0 < 100000000000000000 := by
            refine Nat.lt_of_lt_of_le (dval_bdT _ ha 0) ?_
            rw [Nat.zero_add, Nat.one_mul, show (100000000000000000 : Nat) = 10 ^ 17 from by decide +kernel]
            exact Nat.pow_le_pow_right (by omega) (by rw [List.length_take]; omega)
          clear ha
          by_cases hlt : k < s.size
          · by_cases d1 : s[k].toNat < 48
            · have HD : Hid (s.data.toList.all isDig = false) := bad_dig s k hlt (by unfold isDig; simp; omega)
              go_wp2
              go_ret2
              exact NO (fun hc => by have := hc.2.2.1; rw [HD.out] at this; cases this)
            · by_cases d2 : 57 < s[k].toNat
              · have HD : Hid (s.data.toList.all isDig = false) := bad_dig s k hlt (by unfold isDig; simp; omega)
                go_wp2
                go_ret2
                exact NO (fun hc => by have := hc.2.2.1; rw [HD.out] at this; cases this)
              · have HS : Hid (dval (s.data.toList.take (k + 1)) 0 = dval (s.data.toList.take k) 0 * 10 + (s[k].toNat - 48)) := by
                  show dval _ _ = _
                  rw [take_snocT s k hlt, dval_append]; rfl
                have HT : Hid (s.data.toList.take (k + 1) = s.data.toList.take k ++ [s[k]]) := take_snocT s k hlt
                go_wp2
                go_round
                case rel =>
                  refine ⟨k + 1, by omega, by go_num, ?_, ?_⟩
                  · rw [HS.out]; congr 1; omega
                  · rw [HT.out, List.all_append, HA.out]
                    simp [isDig]; omega
                case measure => simp [intOf]; omega
          · have e : s.data.toList.take k = s.data.toList := List.take_of_length_le (by have := HL.out; omega)
            have ha2 : s.data.toList.all isDig = true := by rw [← e]; exact HA.out
            have HY : Hid (canonP false s.data.toList) := ⟨by have := HL.out; omega, by have := HL.out; omega, ha2, HH.out⟩
            rw [e] at hb ⊢
            clear e ha2
            go_wp2
            go_ret2
            exact YES HY.out

set_option maxHeartbeats 1000000 in
/-- A number behind its sign. -/
theorem num_minus (s t : ByteArray) (w : World) (hs : s.size ≤ 6000) (h1 : 1 ≤ s.size) (hm : ((s[0].toNat : Int) == 45) = true) (hx : s.extract 1 s.size = t) (hst : s.data.toList = 45 :: t.data.toList) : Calls Tryz.prog 55 #[.string s] w (NumS s.data.toList w) := by
  have HL : Hid (t.data.toList.length = t.size) := toList_lenT t
  have hts : t.size + 1 = s.size := by rw [← toList_lenT, ← toList_lenT, hst]; simp
  have e1 : s.data.toList = sgnL true ++ t.data.toList := hst
  rw [e1]
  have NO : ¬ canonP true t.data.toList → NumS (sgnL true ++ t.data.toList) w (.returned (.tuple #[.int .i64 0, .bool false])) w := fun h => nums_no h (Or.inl rfl)
  have YES : canonP true t.data.toList → NumS (sgnL true ++ t.data.toList) w (.returned (.tuple #[.int .i64 (-(dval t.data.toList 0 : Nat)), .bool true])) w := fun h => nums_yes (neg := true) h
  clear hst e1
  by_cases h0 : t.size = 0
  · have e0 : ((t.size : Int) == 0) = true := by rw [beq_iff_eq]; omega
    have HN : Hid (¬ canonP true t.data.toList) := fun h => by have := h.1; have := HL.out; omega
    go_enter Tryz.func55, Tryz.ntmps55
    go_wp2
    go_ret2
    exact NO HN.out
  · have hp : 0 < t.size := by omega
    have e0 : ((t.size : Int) == 0) = false := by rw [beq_eq_false_iff_ne]; omega
    have hd := head_getT t hp
    have H48 : Hid (((t[0].toNat : Int) == 48) = true ↔ t.data.toList.head? = some 48) := by
      show _ ↔ _
      rw [hd, beq_iff_eq, Option.some.injEq, ← UInt8.toNat_inj]
      show (t[0].toNat : Int) = 48 ↔ t[0].toNat = 48
      omega
    clear hd h0
    by_cases h17 : 17 < t.size
    · have HN : Hid (¬ canonP true t.data.toList) := fun h => by have := h.2.1; have := HL.out; omega
      go_enter Tryz.func55, Tryz.ntmps55
      go_wp2
      go_ret2
      exact NO HN.out
    · cases hz : (t[0].toNat : Int) == 48 with
      | true =>
        have HN : Hid (¬ canonP true t.data.toList) := fun h => h.2.2.2 ⟨H48.out.1 hz, Or.inr rfl⟩
        by_cases h1 : 1 < t.size
        · go_enter Tryz.func55, Tryz.ntmps55
          go_wp2
          go_ret2
          exact NO HN.out
        · go_enter Tryz.func55, Tryz.ntmps55
          go_wp2
          go_ret2
          exact NO HN.out
      | false =>
        have HH : Hid (¬ (t.data.toList.head? = some 48 ∧ (1 < t.data.toList.length ∨ true = true))) := by
          rintro ⟨h, -⟩
          rw [H48.out.2 h] at hz; cases hz
        clear H48
        go_enter Tryz.func55, Tryz.ntmps55
        go_wp2
        go_loop [5, 6] (fun n i => ∃ k : Nat, k ≤ t.size ∧ i = .int .i64 k ∧ n = .int .i64 (dval (t.data.toList.take k) 0 : Nat) ∧ (t.data.toList.take k).all isDig = true) (fun _ i => t.size - (intOf i).toNat)
        case atStart => exact ⟨0, Nat.zero_le _, rfl, rfl, rfl⟩
        case round =>
          obtain ⟨k, hk, rfl, rfl, ha⟩ := hrel
          have HA : Hid ((t.data.toList.take k).all isDig = true) := ha
          have hb : dval (t.data.toList.take k) 0 < 100000000000000000 := by
            refine Nat.lt_of_lt_of_le (dval_bdT _ ha 0) ?_
            rw [Nat.zero_add, Nat.one_mul, show (100000000000000000 : Nat) = 10 ^ 17 from by decide +kernel]
            exact Nat.pow_le_pow_right (by omega) (by rw [List.length_take]; omega)
          clear ha
          by_cases hlt : k < t.size
          · by_cases d1 : t[k].toNat < 48
            · have HD : Hid (t.data.toList.all isDig = false) := bad_dig t k hlt (by unfold isDig; simp; omega)
              go_wp2
              go_ret2
              exact NO (fun hc => by have := hc.2.2.1; rw [HD.out] at this; cases this)
            · by_cases d2 : 57 < t[k].toNat
              · have HD : Hid (t.data.toList.all isDig = false) := bad_dig t k hlt (by unfold isDig; simp; omega)
                go_wp2
                go_ret2
                exact NO (fun hc => by have := hc.2.2.1; rw [HD.out] at this; cases this)
              · have HS : Hid (dval (t.data.toList.take (k + 1)) 0 = dval (t.data.toList.take k) 0 * 10 + (t[k].toNat - 48)) := by
                  show dval _ _ = _
                  rw [take_snocT t k hlt, dval_append]; rfl
                have HT : Hid (t.data.toList.take (k + 1) = t.data.toList.take k ++ [t[k]]) := take_snocT t k hlt
                go_wp2
                go_round
                case rel =>
                  refine ⟨k + 1, by omega, by go_num, ?_, ?_⟩
                  · rw [HS.out]; congr 1; omega
                  · rw [HT.out, List.all_append, HA.out]
                    simp [isDig]; omega
                case measure => simp [intOf]; omega
          · have e : t.data.toList.take k = t.data.toList := List.take_of_length_le (by have := HL.out; omega)
            have ha2 : t.data.toList.all isDig = true := by rw [← e]; exact HA.out
            have HY : Hid (canonP true t.data.toList) := ⟨by have := HL.out; omega, by have := HL.out; omega, ha2, fun h => HH.out ⟨h.1, by simp⟩⟩
            rw [e] at hb ⊢
            clear e ha2
            go_wp2
            go_ret2
            exact YES HY.out

theorem num_all (s : ByteArray) (w : World) (hs : s.size ≤ 6000) : Calls Tryz.prog 55 #[.string s] w (NumS s.data.toList w) := by
  by_cases h : s.data.toList.head? = some 45
  · have hp : 0 < s.size := by
      apply Classical.byContradiction
      intro h0
      have : s.data.toList = [] := List.length_eq_zero_iff.1 (by rw [toList_lenT]; omega)
      rw [this] at h; cases h
    have hd := head_getT s hp
    rw [hd] at h
    have h45 : s[0] = 45 := Option.some.inj h
    refine num_minus s (s.extract 1 s.size) w hs hp (by rw [h45]; decide) rfl ?_
    have e : (s.extract 1 s.size).data.toList = s.data.toList.drop 1 := by
      have := ext_take s.data.toList 1 s.size
      have e2 : (⟨s.data.toList.toArray⟩ : ByteArray) = s := rfl
      rw [e2] at this
      rw [this, List.take_of_length_le (by rw [toList_lenT]; omega)]
    rw [e]
    cases hl : s.data.toList with
    | nil => have := toList_lenT s; rw [hl] at this; simp at this; omega
    | cons c cs =>
      have hh := head_getT s hp
      rw [hl, h45] at hh
      simp at hh
      simp [hh]
  · exact num_plain s w hs (Or.inr h)

end Go.Proofs.YtdhoimjkgicneaaGreatDoor

/- The specification's reading of a real number above nought: where its star is, and what is read on both sides. -/
namespace Go.Proofs.YtdhoimjkgicneaaGreatDoor
open Go Go.RowKit

/-- The place of the star. -/
def fndS : List UInt8 → Option Nat
  | [] => none
  | c :: cs => if c = 42 then some 0 else (fndS cs).map (· + 1)
def fndSZ (l : List UInt8) : Int := match fndS l with | none => -1 | some k => k

theorem fndS_at : ∀ {a r : List UInt8}, a.all isDig = true → fndS (a ++ 42 :: r) = some a.length
  | [], r, _ => by simp [fndS]
  | c :: cs, r, h => by
    simp only [List.all_cons, Bool.and_eq_true] at h
    have hc : c ≠ 42 := by rintro rfl; exact absurd h.1 (by decide)
    rw [List.cons_append, fndS, if_neg hc, fndS_at h.2]
    rfl

theorem fndS_lt : ∀ {l : List UInt8} {i : Nat}, fndS l = some i → i < l.length
  | [], i, h => by cases h
  | c :: cs, i, h => by
    rw [fndS] at h
    split at h
    · cases h; simp
    · cases hc : fndS cs with
      | none => rw [hc] at h; cases h
      | some d =>
        rw [hc] at h
        simp at h
        have := fndS_lt hc
        simp; omega

theorem drop_consT (s : ByteArray) (k : Nat) (h : k < s.size) : s.data.toList.drop k = s[k] :: s.data.toList.drop (k + 1) := by
  rw [List.drop_eq_getElem_cons (by rw [toList_lenT]; exact h)]; rfl

theorem ret_intT {k : IntKind} {a b : Int} (h : a = b) : Ending.returned (.int k a) = .returned (.int k b) := by rw [h]

set_option maxHeartbeats 400000 in
theorem find_star (s : ByteArray) (w : World) (hs : s.size ≤ 6000) :
    Calls Tryz.prog 54 #[.string s, .int .u8 42] w fun e w' => e = .returned (.int .i64 (fndSZ s.data.toList)) ∧ w' = w := by
  have HL : Hid (s.data.toList.length = s.size) := toList_lenT s
  go_enter Tryz.func54, Tryz.ntmps54
  go_wp2
  go_loop [5] (fun i => ∃ k : Nat, k ≤ s.size ∧ i = .int .i64 k ∧ fndS s.data.toList = (fndS (s.data.toList.drop k)).map (· + k)) (fun i => s.size - (intOf i).toNat)
  case atStart => exact ⟨0, Nat.zero_le _, rfl, by simp⟩
  case round =>
    obtain ⟨k, hk, rfl, hf⟩ := hrel
    have HF : Hid (fndS s.data.toList = (fndS (s.data.toList.drop k)).map (· + k)) := hf
    clear hf
    by_cases hlt : k < s.size
    · cases hc : (s[k].toNat : Int) == 42 with
      | true =>
        have HC : Hid (s[k] = 42) := by
          apply UInt8.toNat_inj.1
          simp at hc
          show s[k].toNat = 42
          omega
        go_wp2
        go_ret
        refine ⟨ret_intT ?_, rfl⟩
        rw [fndSZ, HF.out, drop_consT s k hlt, fndS, if_pos HC.out]
        simp
      | false =>
        have HC : Hid (s[k] ≠ 42) := by
          intro e; rw [e] at hc; revert hc; decide
        have HD : Hid (fndS s.data.toList = (fndS (s.data.toList.drop (k + 1))).map (· + (k + 1))) := by
          show fndS s.data.toList = _
          rw [HF.out, drop_consT s k hlt, fndS, if_neg HC.out]
          cases fndS (s.data.toList.drop (k + 1)) with
          | none => rfl
          | some d => simp; omega
        go_wp2
        go_round
        case rel => exact ⟨k + 1, by omega, by go_num, HD.out⟩
        case measure => simp [intOf]; omega
    · go_wp2
      go_ret
      refine ⟨ret_intT ?_, rfl⟩
      rw [fndSZ, HF.out, List.drop_of_length_le (by have := HL.out; omega)]
      rfl

/-- What the reading leaves: the number of the text, or nothing. -/
def L2Of (l : List UInt8) (w : World) (e : Ending) (w' : World) : Prop :=
  ((∃ z n c m k, e = .returned (.tuple #[.float .f64 z, .bool true]) ∧ FinT l false n c ∧ (Num z false m k ∧ z < 18446744073709551616) ∧ m * 2 ^ k = n * 2 ^ c) ∨ ((∃ z, e = .returned (.tuple #[.float .f64 z, .bool false])) ∧ ∀ n c, ¬ FinT l false n c)) ∧ w' = w

theorem l2_no {l : List UInt8} {w : World} {z : Nat} (h : ∀ n c, ¬ FinT l false n c) : L2Of l w (.returned (.tuple #[.float .f64 z, .bool false])) w := ⟨Or.inr ⟨⟨z, rfl⟩, h⟩, rfl⟩

/-- What a text of a number above nought looks like. -/
theorem fin_parts {l : List UInt8} {n c : Nat} (h : FinT l false n c) :
    fndS l = some (Lib.decDigits n).length ∧ l.take (Lib.decDigits n).length = Lib.itoa n ∧ (l.drop (Lib.decDigits n).length).take 3 = [42, 50, 94] ∧ l.drop ((Lib.decDigits n).length + 3) = Lib.itoa ((c : Int) - 1074) ∧ (Lib.decDigits n).length + 4 ≤ l.length := by
  obtain ⟨rfl, h1, h2, h3, h4⟩ := h
  have e : finL false n c = Lib.decDigits n ++ (42 :: ([50, 94] ++ Lib.itoa ((c : Int) - 1074))) := by simp [finL, sgnL]
  have hp := itoa_pos ((c : Int) - 1074)
  rw [e]
  refine ⟨fndS_at (dd_all n), ?_, ?_, ?_, ?_⟩
  · rw [List.take_left, itoa_nat]
  · rw [List.drop_left]; rfl
  · rw [← List.drop_drop, List.drop_left]; rfl
  · simp; omega

theorem ext_list (s : ByteArray) (a b : Nat) : (s.extract a b).data.toList = (s.data.toList.take b).drop a := by
  have := ext_take s.data.toList a b
  have e2 : (⟨s.data.toList.toArray⟩ : ByteArray) = s := rfl
  rw [e2] at this
  rw [this]

/-- The three pieces make up the text. -/
theorem pieces {l : List UInt8} {i : Nat} (h1 : (l.drop i).take 3 = [42, 50, 94]) : l = l.take i ++ ([42, 50, 94] ++ l.drop (i + 3)) := by
  rw [← h1, ← List.drop_drop, List.take_append_drop, List.take_append_drop]

theorem fin_make {l : List UInt8} {i : Nat} {v u : Int} (h1 : (l.drop i).take 3 = [42, 50, 94]) (h2 : l.take i = Lib.itoa v) (h3 : l.drop (i + 3) = Lib.itoa u) (hv : 0 ≤ v) (hu : -1074 ≤ u) :
    l = finL false v.toNat (u + 1074).toNat := by
  rw [pieces h1, h2, h3]
  simp only [finL, sgnL, Bool.false_eq_true, if_false, List.nil_append]
  congr 1
  · rw [← itoa_nat]; congr 1; omega
  · congr 2; omega

end Go.Proofs.YtdhoimjkgicneaaGreatDoor

/- The specification's reading of a real number above nought, walked. -/
namespace Go.Proofs.YtdhoimjkgicneaaGreatDoor
open Go Go.RowKit

theorem num_below_inf {g m k : Nat} (h : Num g false m k) : (FloatKind.f64.format.order g 9218868437227405312 == some .lt) = true := by
  have r : Ieee.double.read 9218868437227405312 = .infinity false := by decide +kernel
  have : FloatKind.f64.format.order g 9218868437227405312 = some .lt := by
    show Ieee.double.order g _ = _
    simp only [Ieee.Format.order, h.read, r, Ieee.Datum.order]
    rfl
  rw [this]; rfl
theorem inf_below_inf {g : Nat} (h : Ieee.double.read g = .infinity false) : (FloatKind.f64.format.order g 9218868437227405312 == some .lt) = false := by
  have r : Ieee.double.read 9218868437227405312 = .infinity false := by decide +kernel
  have : FloatKind.f64.format.order g 9218868437227405312 = some .eq := by
    show Ieee.double.order g _ = _
    simp [Ieee.Format.order, h, r, Ieee.Datum.order]
  rw [this]; rfl

/-- A number, or too great for one. -/
def NumInf (g n q : Nat) : Prop := (∃ m k, (Num g false m k ∧ g < 18446744073709551616) ∧ m * 2 ^ k = n * 2 ^ q) ∨ (Ieee.double.read g = .infinity false ∧ ¬ n * 2 ^ q < 2 ^ u98)

theorem numinf_step {g n q : Nat} (h : NumInf g n q) : ∃ r, floatBits .mul .f64 g 4611686018427387904 = some r ∧ NumInf r n (q + 1) := by
  rcases h with ⟨m, k, h, hv⟩ | ⟨h, hv⟩
  · by_cases hb : n * 2 ^ (q + 1) < 2 ^ u98
    · obtain ⟨r, m', k', r1, r2, r3⟩ := up_step h.1 hv hb
      exact ⟨r, r1, Or.inl ⟨m', k', ⟨r2, bits_lt r1⟩, r3⟩⟩
    · have e : m * 2 ^ (k + 1) = n * 2 ^ (q + 1) := by rw [Nat.pow_succ, ← Nat.mul_assoc, hv, Nat.pow_succ, Nat.mul_assoc]
      obtain ⟨r, r1, r2⟩ := mul_two_over h.1 (by rw [e]; exact hb)
      exact ⟨r, r1, Or.inr ⟨r2, hb⟩⟩
  · obtain ⟨r, r1, r2⟩ := mul_two_inf h
    refine ⟨r, r1, Or.inr ⟨r2, ?_⟩⟩
    intro hb
    apply hv
    exact pow_bound hb (by omega)

set_option maxHeartbeats 2000000 in
theorem l2_good (s : ByteArray) (w : World) (hs : s.size ≤ 6000) (i N c : Nat) (hf : fndSZ s.data.toList = i) (hi4 : i + 4 ≤ s.size) (hx : ((s.extract i (i + 3)).toList == [42, 50, 94]) = true)
    (hN1 : 1 ≤ N) (hN2 : N < 9007199254740992) (hN3 : N % 2 = 1) (hc : c ≤ 2097) (hA : (s.extract 0 i).data.toList = Lib.itoa N) (hB : (s.extract (i + 3) s.size).data.toList = Lib.itoa ((c : Int) - 1074))
    (hl : s.data.toList = finL false N c) :
    Calls Tryz.prog 131 #[.string s] w (L2Of s.data.toList w) := by
  have HF : Hid (fndSZ s.data.toList = i) := hf
  have HA : Hid ((s.extract 0 i).data.toList = Lib.itoa N) := hA
  have HB : Hid ((s.extract (i + 3) s.size).data.toList = Lib.itoa ((c : Int) - 1074)) := hB
  have HLl : Hid (s.data.toList = finL false N c) := hl
  obtain ⟨m0, k0, f1, f2⟩ := num_int (N : Int) (by omega)
  rw [show decide ((N : Int) < 0) = false from by simp] at f1
  have F0 : Hid (NumInf (floatOfInt .f64 N) N u74) := Or.inl ⟨m0, k0, ⟨f1, foi_lt _⟩, by simpa using f2⟩
  have hev : ((N : Int) % 2 == 0) = false := by simp; omega
  obtain ⟨u, hue⟩ : ∃ u, u = u74 := ⟨_, rfl⟩
  have hu : u = 1074 := by rw [hue]; exact u74_eq
  rw [← hue] at F0
  clear hf hA hB hl f1 f2 hue
  have i0 : decide ((i : Int) < 0) = false := by simp
  have i4 : decide ((s.size : Int) < (i : Int) + 4) = false := by simp; omega
  go_enter Tryz.func131, Tryz.ntmps131
  go_wp2_with fail
  refine (find_star s w hs).mono ?_
  rintro e w1 ⟨rfl, rfl⟩
  rw [HF.out]
  go_wp2_with fail
  refine (num_all (s.extract 0 i) w1 (by simp; omega)).mono ?_
  rintro e w2 ⟨hr, rfl⟩
  have hr2 : e = .returned (.tuple #[.int .i64 N, .bool true]) := by
    rcases hr with ⟨v, h1, h2, -⟩ | ⟨-, h2⟩
    · rw [HA.out] at h2
      rw [h1, itoa_inj h2]
    · exact absurd HA.out (h2 N (by omega))
  subst hr2
  clear hr
  go_wp2_with fail
  refine (num_all (s.extract (i + 3) s.size) w2 (by simp; omega)).mono ?_
  rintro e w3 ⟨hr, rfl⟩
  have hr2 : e = .returned (.tuple #[.int .i64 ((c : Int) - 1074), .bool true]) := by
    rcases hr with ⟨v, h1, h2, -⟩ | ⟨-, h2⟩
    · rw [HB.out] at h2
      rw [h1, itoa_inj h2]
    · exact absurd HB.out (h2 _ (by omega))
  subst hr2
  clear hr
  go_wp2_with fail
  go_loop [9, 10] (fun f i => ∃ g j : Nat, f = .float .f64 g ∧ i = .int .i64 j ∧ NumInf g N (u + j) ∧ (u + j ≤ c ∨ j = 0)) (fun _ i => 2000 - (intOf i).toNat)
  case atStart => exact ⟨_, 0, rfl, rfl, F0.out, Or.inr rfl⟩
  case round =>
    obtain ⟨g, j, rfl, rfl, hg, hj⟩ := hrel
    by_cases hlt : u + j < c
    · obtain ⟨r, r1, r2⟩ := numinf_step hg
      have f : ∀ t w, (binOp .mul t (.float .f64 g) (.float .f64 4611686018427387904)).run Tryz.prog w = .ok (.float .f64 r) w := fun t w => run_float_arith w .mul t .f64 _ _ _ r1
      have R : Hid (NumInf r N (u + (j + 1))) := r2
      clear r1 r2 hg
      go_wp2
      go_round
      case rel => exact ⟨r, j + 1, rfl, by go_num, R.out, by omega⟩
      case measure => simp [intOf]; omega
    · have R0 : Hid (NumInf g N (u + j)) := hg
      clear hg
      go_wp2_with fail
      go_loop [9, 11] (fun f i => ∃ g t : Nat, f = .float .f64 g ∧ i = .int .i64 (-(t : Int)) ∧ NumInf g N (u + j - t) ∧ (c ≤ u + j - t) ∧ t ≤ u + j) (fun _ i => (2000 + (intOf i)).toNat)
      case atStart => exact ⟨g, 0, rfl, by simp, R0.out, by omega, by omega⟩
      case round =>
        obtain ⟨g, t, rfl, rfl, hg, ht1, ht2⟩ := hrel
        by_cases hlt2 : c + t < u
        · have hj0 : j = 0 := by omega
          obtain ⟨p, hp⟩ : ∃ p, u + j - t = p + 1 := ⟨u + j - t - 1, by omega⟩
          have hfin : ∃ m k, (Num g false m k ∧ g < 18446744073709551616) ∧ m * 2 ^ k = N * 2 ^ (p + 1) := by
            rcases hg with h | ⟨-, h⟩
            · rw [hp] at h; exact h
            · exfalso
              apply h
              rw [hp]
              exact small_lt hN2 (by omega)
          obtain ⟨m, k, hn, hv⟩ := hfin
          obtain ⟨r, m', k', r1, r2, r3⟩ := down_step hn.1 hv hN2
          have f : ∀ t w, (binOp .quo t (.float .f64 g) (.float .f64 4611686018427387904)).run Tryz.prog w = .ok (.float .f64 r) w := fun t w => run_float_arith w .quo t .f64 _ _ _ r1
          have R : Hid (NumInf r N (u + j - (t + 1))) := by
            have e : u + j - (t + 1) = p := by omega
            show NumInf r N (u + j - (t + 1))
            rw [e]; exact Or.inl ⟨m', k', ⟨r2, bits_lt r1⟩, r3⟩
          clear r1 r2 r3 hn hv hg hp
          go_wp2
          go_round
          case rel => exact ⟨r, t + 1, rfl, by go_num, R.out, by omega, by omega⟩
          case measure => simp [intOf]; omega
        · have R1 : Hid (NumInf g N c) := by
            have e : u + j - t = c := by omega
            rw [e] at hg; exact hg
          clear hg
          go_wp2_with fail
          refine (inf_any _).mono ?_
          rintro e w4 ⟨rfl, rfl⟩
          rcases R1.out with ⟨m, k, hn, hv⟩ | ⟨hn, hv⟩
          · have hlt3 := num_below_inf hn.1
            have H : Hid ((Num g false m k ∧ g < 18446744073709551616) ∧ m * 2 ^ k = N * 2 ^ c) := ⟨hn, hv⟩
            clear hn hv
            go_wp2_with fail
            go_ret2
            exact ⟨Or.inl ⟨g, N, c, m, k, rfl, ⟨HLl.out, hN3, hN2, by rw [← H.out.2]; exact H.out.1.1.lt98, by omega⟩, H.out.1, H.out.2⟩, rfl⟩
          · have hlt3 := inf_below_inf hn
            have H : Hid (¬ N * 2 ^ c < 2 ^ u98) := hv
            clear hn hv
            go_wp2_with fail
            go_ret2
            refine l2_no ?_
            rintro n' c' ⟨e1, -, -, e4, -⟩
            rw [HLl.out] at e1
            obtain ⟨-, rfl, rfl⟩ := finL_inj e1
            exact H.out e4

end Go.Proofs.YtdhoimjkgicneaaGreatDoor
