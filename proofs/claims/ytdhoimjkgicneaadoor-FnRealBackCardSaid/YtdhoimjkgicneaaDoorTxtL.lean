/- Reading whole numbers as they are written: the specification's, walked. -/
import Derived.Test.YtdhoimjkgicneaaDoorTxtK
namespace Go.Proofs.YtdhoimjkgicneaaDoor
open Go Go.RowKit

set_option maxHeartbeats 1000000 in
/-- A number without a sign. -/
theorem num_plain (s : ByteArray) (w : World) (hs : s.size ≤ 1000) (h45 : s.size = 0 ∨ s.data.toList.head? ≠ some 45) : Calls Tryd.prog 129 #[.string s] w (NumS s.data.toList w) := by
  have HL : Hid (s.data.toList.length = s.size) := toList_lenT s
  have hn : s.data.toList.head? ≠ some 45 := by
    rcases h45 with h | h
    · have : s.data.toList = [] := List.length_eq_zero_iff.1 (by rw [toList_lenT]; exact h)
      rw [this]; simp
    · exact h
  have NO : ¬ canonP false s.data.toList → NumS s.data.toList w (.returned (.tuple #[.int .i64 0, .bool false])) w := fun h => nums_no (neg := false) h (Or.inr hn)
  have YES : canonP false s.data.toList → NumS s.data.toList w (.returned (.tuple #[.int .i64 (dval s.data.toList 0 : Nat), .bool true])) w := fun h => nums_yes (neg := false) h
  by_cases h0 : s.size = 0
  · have e0 : ((s.size : Int) == 0) = true := by rw [beq_iff_eq]; omega
    have HN : Hid (¬ canonP false s.data.toList) := fun h => by have := h.1; have := HL.out; omega
    clear h45 hn
    go_enter Tryd.func129, Tryd.ntmps129
    go_wp2
    go_ret2
    exact NO HN.out
  · have hp : 0 < s.size := by omega
    have e0 : ((s.size : Int) == 0) = false := by rw [beq_eq_false_iff_ne]; omega
    have hd := head_getT s hp
    have e45 : ((s[0].toNat : Int) == 45) = false := by
      rw [beq_eq_false_iff_ne]
      intro h
      apply hn
      rw [hd]
      congr 1
      apply UInt8.toNat_inj.1
      show s[0].toNat = 45
      omega
    have H48 : Hid (((s[0].toNat : Int) == 48) = true ↔ s.data.toList.head? = some 48) := by
      show _ ↔ _
      rw [hd, beq_iff_eq, Option.some.injEq, ← UInt8.toNat_inj]
      show (s[0].toNat : Int) = 48 ↔ s[0].toNat = 48
      omega
    clear h45 hn hd h0
    by_cases h17 : 17 < s.size
    · have HN : Hid (¬ canonP false s.data.toList) := fun h => by have := h.2.1; have := HL.out; omega
      go_enter Tryd.func129, Tryd.ntmps129
      go_wp2
      go_ret2
      exact NO HN.out
    · cases hz : (s[0].toNat : Int) == 48 with
      | true =>
        by_cases h1 : 1 < s.size
        · have HN : Hid (¬ canonP false s.data.toList) := fun h => h.2.2.2 ⟨H48.out.1 hz, Or.inl (by have := HL.out; omega)⟩
          go_enter Tryd.func129, Tryd.ntmps129
          go_wp2
          go_ret2
          exact NO HN.out
        · have HH : Hid (¬ (s.data.toList.head? = some 48 ∧ (1 < s.data.toList.length ∨ false = true))) := by
            rintro ⟨-, h | h⟩
            · have := HL.out; omega
            · cases h
          clear H48
          go_enter Tryd.func129, Tryd.ntmps129
          go_wp2
          go_loop [5, 6] (fun n i => ∃ k : Nat, k ≤ s.size ∧ i = .int .i64 k ∧ n = .int .i64 (dval (s.data.toList.take k) 0 : Nat) ∧ (s.data.toList.take k).all isDig = true) (fun _ i => s.size - (intOf i).toNat)
          case atStart => exact ⟨0, Nat.zero_le _, rfl, rfl, rfl⟩
          case round =>
            obtain ⟨k, hk, rfl, rfl, ha⟩ := hrel
            have HA : Hid ((s.data.toList.take k).all isDig = true) := ha
            have hb : dval (s.data.toList.take k) 0 < 100000000000000000 := by
              refine Nat.lt_of_lt_of_le (dval_bdT _ ha 0) ?_
              rw [Nat.zero_add, Nat.one_mul, show (100000000000000000 : Nat) = 10 ^ 17 from by decide +kernel]
              exact Nat.pow_le_pow_right (by omega) (by rw [List.length_take]; omega)
            clear ha
            by_cases hlt : k < s.size
            · by_cases d1 : s[k].toNat < 48
              · have HD : Hid (s.data.toList.all isDig = false) := bad_dig s k hlt (by unfold isDig; simp; omega)
                go_wp2
                go_ret2
                exact NO (fun hc => by have := hc.2.2.1; rw [HD.out] at this; cases this)
              · by_cases d2 : 57 < s[k].toNat
                · have HD : Hid (s.data.toList.all isDig = false) := bad_dig s k hlt (by unfold isDig; simp; omega)
                  go_wp2
                  go_ret2
                  exact NO (fun hc => by have := hc.2.2.1; rw [HD.out] at this; cases this)
                · have HS : Hid (dval (s.data.toList.take (k + 1)) 0 = dval (s.data.toList.take k) 0 * 10 + (s[k].toNat - 48)) := by
                    show dval _ _ = _
                    rw [take_snocT s k hlt, dval_append]; rfl
                  have HT : Hid (s.data.toList.take (k + 1) = s.data.toList.take k ++ [s[k]]) := take_snocT s k hlt
                  go_wp2
                  go_round
                  case rel =>
                    refine ⟨k + 1, by omega, by go_num, ?_, ?_⟩
                    · rw [HS.out]; congr 1; omega
                    · rw [HT.out, List.all_append, HA.out]
                      simp [isDig]; omega
                  case measure => simp [intOf]; omega
            · have e : s.data.toList.take k = s.data.toList := List.take_of_length_le (by have := HL.out; omega)
              have ha2 : s.data.toList.all isDig = true := by rw [← e]; exact HA.out
              have HY : Hid (canonP false s.data.toList) := ⟨by have := HL.out; omega, by have := HL.out; omega, ha2, HH.out⟩
              rw [e] at hb ⊢
              clear e ha2
              go_wp2
              go_ret2
              exact YES HY.out
      | false =>
        have HH : Hid (¬ (s.data.toList.head? = some 48 ∧ (1 < s.data.toList.length ∨ false = true))) := by
          rintro ⟨h, -⟩
          rw [H48.out.2 h] at hz; cases hz
        clear H48
        go_enter Tryd.func129, Tryd.ntmps129
        go_wp2
        go_loop [5, 6] (fun n i => ∃ k : Nat, k ≤ s.size ∧ i = .int .i64 k ∧ n = .int .i64 (dval (s.data.toList.take k) 0 : Nat) ∧ (s.data.toList.take k).all isDig = true) (fun _ i => s.size - (intOf i).toNat)
        case atStart => exact ⟨0, Nat.zero_le _, rfl, rfl, rfl⟩
        case round =>
          obtain ⟨k, hk, rfl, rfl, ha⟩ := hrel
          have HA : Hid ((s.data.toList.take k).all isDig = true) := ha
          have hb : dval (s.data.toList.take k) 0 < 100000000000000000 := by
            refine Nat.lt_of_lt_of_le (dval_bdT _ ha 0) ?_
            rw [Nat.zero_add, Nat.one_mul, show (100000000000000000 : Nat) = 10 ^ 17 from by decide +kernel]
            exact Nat.pow_le_pow_right (by omega) (by rw [List.length_take]; omega)
          clear ha
          by_cases hlt : k < s.size
          · by_cases d1 : s[k].toNat < 48
            · have HD : Hid (s.data.toList.all isDig = false) := bad_dig s k hlt (by unfold isDig; simp; omega)
              go_wp2
              go_ret2
              exact NO (fun hc => by have := hc.2.2.1; rw [HD.out] at this; cases this)
            · by_cases d2 : 57 < s[k].toNat
              · have HD : Hid (s.data.toList.all isDig = false) := bad_dig s k hlt (by unfold isDig; simp; omega)
                go_wp2
                go_ret2
                exact NO (fun hc => by have := hc.2.2.1; rw [HD.out] at this; cases this)
              · have HS : Hid (dval (s.data.toList.take (k + 1)) 0 = dval (s.data.toList.take k) 0 * 10 + (s[k].toNat - 48)) := by
                  show dval _ _ = _
                  rw [take_snocT s k hlt, dval_append]; rfl
                have HT : Hid (s.data.toList.take (k + 1) = s.data.toList.take k ++ [s[k]]) := take_snocT s k hlt
                go_wp2
                go_round
                case rel =>
                  refine ⟨k + 1, by omega, by go_num, ?_, ?_⟩
                  · rw [HS.out]; congr 1; omega
                  · rw [HT.out, List.all_append, HA.out]
                    simp [isDig]; omega
                case measure => simp [intOf]; omega
          · have e : s.data.toList.take k = s.data.toList := List.take_of_length_le (by have := HL.out; omega)
            have ha2 : s.data.toList.all isDig = true := by rw [← e]; exact HA.out
            have HY : Hid (canonP false s.data.toList) := ⟨by have := HL.out; omega, by have := HL.out; omega, ha2, HH.out⟩
            rw [e] at hb ⊢
            clear e ha2
            go_wp2
            go_ret2
            exact YES HY.out

set_option maxHeartbeats 1000000 in
/-- A number behind its sign. -/
theorem num_minus (s t : ByteArray) (w : World) (hs : s.size ≤ 1000) (h1 : 1 ≤ s.size) (hm : ((s[0].toNat : Int) == 45) = true) (hx : s.extract 1 s.size = t) (hst : s.data.toList = 45 :: t.data.toList) : Calls Tryd.prog 129 #[.string s] w (NumS s.data.toList w) := by
  have HL : Hid (t.data.toList.length = t.size) := toList_lenT t
  have hts : t.size + 1 = s.size := by rw [← toList_lenT, ← toList_lenT, hst]; simp
  have e1 : s.data.toList = sgnL true ++ t.data.toList := hst
  rw [e1]
  have NO : ¬ canonP true t.data.toList → NumS (sgnL true ++ t.data.toList) w (.returned (.tuple #[.int .i64 0, .bool false])) w := fun h => nums_no h (Or.inl rfl)
  have YES : canonP true t.data.toList → NumS (sgnL true ++ t.data.toList) w (.returned (.tuple #[.int .i64 (-(dval t.data.toList 0 : Nat)), .bool true])) w := fun h => nums_yes (neg := true) h
  clear hst e1
  by_cases h0 : t.size = 0
  · have e0 : ((t.size : Int) == 0) = true := by rw [beq_iff_eq]; omega
    have HN : Hid (¬ canonP true t.data.toList) := fun h => by have := h.1; have := HL.out; omega
    go_enter Tryd.func129, Tryd.ntmps129
    go_wp2
    go_ret2
    exact NO HN.out
  · have hp : 0 < t.size := by omega
    have e0 : ((t.size : Int) == 0) = false := by rw [beq_eq_false_iff_ne]; omega
    have hd := head_getT t hp
    have H48 : Hid (((t[0].toNat : Int) == 48) = true ↔ t.data.toList.head? = some 48) := by
      show _ ↔ _
      rw [hd, beq_iff_eq, Option.some.injEq, ← UInt8.toNat_inj]
      show (t[0].toNat : Int) = 48 ↔ t[0].toNat = 48
      omega
    clear hd h0
    by_cases h17 : 17 < t.size
    · have HN : Hid (¬ canonP true t.data.toList) := fun h => by have := h.2.1; have := HL.out; omega
      go_enter Tryd.func129, Tryd.ntmps129
      go_wp2
      go_ret2
      exact NO HN.out
    · cases hz : (t[0].toNat : Int) == 48 with
      | true =>
        have HN : Hid (¬ canonP true t.data.toList) := fun h => h.2.2.2 ⟨H48.out.1 hz, Or.inr rfl⟩
        by_cases h1 : 1 < t.size
        · go_enter Tryd.func129, Tryd.ntmps129
          go_wp2
          go_ret2
          exact NO HN.out
        · go_enter Tryd.func129, Tryd.ntmps129
          go_wp2
          go_ret2
          exact NO HN.out
      | false =>
        have HH : Hid (¬ (t.data.toList.head? = some 48 ∧ (1 < t.data.toList.length ∨ true = true))) := by
          rintro ⟨h, -⟩
          rw [H48.out.2 h] at hz; cases hz
        clear H48
        go_enter Tryd.func129, Tryd.ntmps129
        go_wp2
        go_loop [5, 6] (fun n i => ∃ k : Nat, k ≤ t.size ∧ i = .int .i64 k ∧ n = .int .i64 (dval (t.data.toList.take k) 0 : Nat) ∧ (t.data.toList.take k).all isDig = true) (fun _ i => t.size - (intOf i).toNat)
        case atStart => exact ⟨0, Nat.zero_le _, rfl, rfl, rfl⟩
        case round =>
          obtain ⟨k, hk, rfl, rfl, ha⟩ := hrel
          have HA : Hid ((t.data.toList.take k).all isDig = true) := ha
          have hb : dval (t.data.toList.take k) 0 < 100000000000000000 := by
            refine Nat.lt_of_lt_of_le (dval_bdT _ ha 0) ?_
            rw [Nat.zero_add, Nat.one_mul, show (100000000000000000 : Nat) = 10 ^ 17 from by decide +kernel]
            exact Nat.pow_le_pow_right (by omega) (by rw [List.length_take]; omega)
          clear ha
          by_cases hlt : k < t.size
          · by_cases d1 : t[k].toNat < 48
            · have HD : Hid (t.data.toList.all isDig = false) := bad_dig t k hlt (by unfold isDig; simp; omega)
              go_wp2
              go_ret2
              exact NO (fun hc => by have := hc.2.2.1; rw [HD.out] at this; cases this)
            · by_cases d2 : 57 < t[k].toNat
              · have HD : Hid (t.data.toList.all isDig = false) := bad_dig t k hlt (by unfold isDig; simp; omega)
                go_wp2
                go_ret2
                exact NO (fun hc => by have := hc.2.2.1; rw [HD.out] at this; cases this)
              · have HS : Hid (dval (t.data.toList.take (k + 1)) 0 = dval (t.data.toList.take k) 0 * 10 + (t[k].toNat - 48)) := by
                  show dval _ _ = _
                  rw [take_snocT t k hlt, dval_append]; rfl
                have HT : Hid (t.data.toList.take (k + 1) = t.data.toList.take k ++ [t[k]]) := take_snocT t k hlt
                go_wp2
                go_round
                case rel =>
                  refine ⟨k + 1, by omega, by go_num, ?_, ?_⟩
                  · rw [HS.out]; congr 1; omega
                  · rw [HT.out, List.all_append, HA.out]
                    simp [isDig]; omega
                case measure => simp [intOf]; omega
          · have e : t.data.toList.take k = t.data.toList := List.take_of_length_le (by have := HL.out; omega)
            have ha2 : t.data.toList.all isDig = true := by rw [← e]; exact HA.out
            have HY : Hid (canonP true t.data.toList) := ⟨by have := HL.out; omega, by have := HL.out; omega, ha2, fun h => HH.out ⟨h.1, by simp⟩⟩
            rw [e] at hb ⊢
            clear e ha2
            go_wp2
            go_ret2
            exact YES HY.out

theorem num_all (s : ByteArray) (w : World) (hs : s.size ≤ 1000) : Calls Tryd.prog 129 #[.string s] w (NumS s.data.toList w) := by
  by_cases h : s.data.toList.head? = some 45
  · have hp : 0 < s.size := by
      apply Classical.byContradiction
      intro h0
      have : s.data.toList = [] := List.length_eq_zero_iff.1 (by rw [toList_lenT]; omega)
      rw [this] at h; cases h
    have hd := head_getT s hp
    rw [hd] at h
    have h45 : s[0] = 45 := Option.some.inj h
    refine num_minus s (s.extract 1 s.size) w hs hp (by rw [h45]; decide) rfl ?_
    have e : (s.extract 1 s.size).data.toList = s.data.toList.drop 1 := by
      have := ext_take s.data.toList 1 s.size
      have e2 : (⟨s.data.toList.toArray⟩ : ByteArray) = s := rfl
      rw [e2] at this
      rw [this, List.take_of_length_le (by rw [toList_lenT]; omega)]
    rw [e]
    cases hl : s.data.toList with
    | nil => have := toList_lenT s; rw [hl] at this; simp at this; omega
    | cons c cs =>
      have hh := head_getT s hp
      rw [hl, h45] at hh
      simp at hh
      simp [hh]
  · exact num_plain s w hs (Or.inr h)

end Go.Proofs.YtdhoimjkgicneaaDoor
