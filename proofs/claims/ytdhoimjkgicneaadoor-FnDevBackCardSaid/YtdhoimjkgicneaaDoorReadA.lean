/- What the specification's small readers do. -/
import Derived.Test.YtdhoimjkgicneaaDoorDev4
import Derived.Test.YtdhoimjkgicneaaDoorDevB
namespace Go.Proofs.YtdhoimjkgicneaaDoor
open Go Go.RowKit

theorem take_snoc (s : ByteArray) (k : Nat) (h : k < s.size) : s.data.toList.take (k + 1) = s.data.toList.take k ++ [s[k]] := by
  rw [List.take_succ_eq_append_getElem (by simpa using h)]; rfl
theorem drop_cons (s : ByteArray) (k : Nat) (h : k < s.size) : s.data.toList.drop k = s[k] :: s.data.toList.drop (k + 1) := by
  rw [List.drop_eq_getElem_cons (by simpa using h)]; rfl
theorem toList_len (s : ByteArray) : s.data.toList.length = s.size := by rw [Array.length_toList]; rfl

theorem dval_snoc (l : List UInt8) (c : UInt8) : dval (l ++ [c]) 0 = dval l 0 * 10 + (c.toNat - 48) := by rw [dval_append]; rfl
theorem dval_bd : ∀ (l : List UInt8), l.all isDig = true → dval l 0 < 10 ^ l.length := by
  intro l
  suffices h : ∀ (l : List UInt8) (a : Nat), l.all isDig = true → dval l a < (a + 1) * 10 ^ l.length by
    intro h1; simpa using h l 0 h1
  intro l
  induction l with
  | nil => intro a _; simp [dval]
  | cons c cs ih =>
    intro a h
    simp only [List.all_cons, Bool.and_eq_true] at h
    have h1 := ih (a * 10 + (c.toNat - 48)) h.2
    have h2 : c.toNat ≤ 57 := by have := of_decide_eq_true h.1; omega
    have h3 : (a * 10 + (c.toNat - 48) + 1) * 10 ^ cs.length ≤ ((a + 1) * 10) * 10 ^ cs.length := Nat.mul_le_mul_right _ (by omega)
    simp only [dval, List.foldl_cons, List.length_cons] at h1 ⊢
    rw [Nat.pow_succ, Nat.mul_comm (10 ^ cs.length) 10, ← Nat.mul_assoc]
    omega

theorem digitsZ_bad (s : ByteArray) (k : Nat) (hk : k < s.size) (h : isDig s[k] = false) : digitsZ s.data.toList = -1 := by
  unfold digitsZ
  rw [if_neg]
  rintro ⟨-, -, ha⟩
  have := List.all_eq_true.1 ha s[k] (by
    have : s[k] ∈ s.data.toList := Array.getElem_mem_toList (by simpa using hk)
    exact this)
  rw [h] at this; cases this
theorem digitsZ_len (s : ByteArray) (h : s.size = 0 ∨ 17 < s.size) : digitsZ s.data.toList = -1 := by
  have hl := toList_len s
  unfold digitsZ
  rw [if_neg]
  rintro ⟨h1, h2, -⟩
  omega

set_option maxHeartbeats 400000 in
theorem digits_any (s : ByteArray) (w : World) (hs : s.size ≤ 1000) :
    Calls Tryd.prog 113 #[.string s] w fun e w' => e = .returned (.int .i64 (digitsZ s.data.toList)) ∧ w' = w := by
  have hlen := toList_len s
  by_cases h1 : 1 ≤ s.size ∧ s.size ≤ 17
  · obtain ⟨h1, h2⟩ := h1
    have h0 : ((s.size : Int) == 0) = false := by rw [beq_eq_false_iff_ne]; omega
    clear hs
    have HL : Hid (s.data.toList.length = s.size) := hlen
    clear hlen
    go_enter Tryd.func113, Tryd.ntmps113
    go_wp2
    go_loop [3, 4] (fun n i => ∃ k : Nat, k ≤ s.size ∧ i = .int .i64 k ∧ n = .int .i64 (dval (s.data.toList.take k) 0 : Nat) ∧ (s.data.toList.take k).all isDig = true) (fun _ i => s.size - (intOf i).toNat)
    case atStart => exact ⟨0, Nat.zero_le _, rfl, rfl, rfl⟩
    case round =>
      obtain ⟨k, hk, rfl, rfl, ha⟩ := hrel
      have HA : Hid ((s.data.toList.take k).all isDig = true) := ha
      have hb : dval (s.data.toList.take k) 0 < 10 ^ 17 := Nat.lt_of_lt_of_le (dval_bd _ ha) (Nat.pow_le_pow_right (by omega) (by have := HL.out; rw [List.length_take]; omega))
      have hb2 : dval (s.data.toList.take k) 0 < 100000000000000000 := hb
      clear ha hb
      by_cases hlt : k < s.size
      · by_cases d1 : s[k].toNat < 48
        · have HD : Hid (digitsZ s.data.toList = -1) := digitsZ_bad s k hlt (by unfold isDig; simp; omega)
          go_wp2
          go_ret
          exact ⟨ret_int HD.out.symm, rfl⟩
        · by_cases d2 : 57 < s[k].toNat
          · have HD : Hid (digitsZ s.data.toList = -1) := digitsZ_bad s k hlt (by unfold isDig; simp; omega)
            go_wp2
            go_ret
            exact ⟨ret_int HD.out.symm, rfl⟩
          · have HS : Hid (dval (s.data.toList.take (k + 1)) 0 = dval (s.data.toList.take k) 0 * 10 + (s[k].toNat - 48)) := by
              show dval _ _ = _
              rw [take_snoc s k hlt, dval_snoc]
            have HT : Hid (s.data.toList.take (k + 1) = s.data.toList.take k ++ [s[k]]) := take_snoc s k hlt
            go_wp2
            go_round
            case rel =>
              refine ⟨k + 1, by omega, by go_num, ?_, ?_⟩
              · rw [HS.out]; congr 1; omega
              · rw [HT.out, List.all_append, HA.out]
                simp [isDig]; omega
            case measure => simp [intOf]; omega
      · go_wp2
        go_ret
        have e : s.data.toList.take k = s.data.toList := List.take_of_length_le (by have := HL.out; omega)
        refine ⟨ret_int ?_, rfl⟩
        have ha := HA.out
        rw [e] at ha ⊢
        have := HL.out
        rw [digitsZ, if_pos ⟨by omega, by omega, ha⟩]
  · have HD : Hid (digitsZ s.data.toList = -1) := digitsZ_len s (by omega)
    clear hlen
    by_cases h2 : s.size = 0
    · have h0 : ((s.size : Int) == 0) = true := by rw [beq_iff_eq]; omega
      clear h1 h2
      go_enter Tryd.func113, Tryd.ntmps113
      go_wp2
      go_ret
      exact ⟨ret_int HD.out.symm, rfl⟩
    · have h0 : ((s.size : Int) == 0) = false := by rw [beq_eq_false_iff_ne]; omega
      have h3 : 17 < s.size := by omega
      clear h1 h2
      go_enter Tryd.func113, Tryd.ntmps113
      go_wp2
      go_ret
      exact ⟨ret_int HD.out.symm, rfl⟩

/-- Where the point is, as a number; -1 if there is none. -/
def fndZ (l : List UInt8) : Int := match fnd l with | none => -1 | some k => k

theorem fnd_drop (s : ByteArray) (k : Nat) (hk : k < s.size) (h : s[k] ≠ 46) (e : fnd s.data.toList = (fnd (s.data.toList.drop k)).map (· + k)) : fnd s.data.toList = (fnd (s.data.toList.drop (k + 1))).map (· + (k + 1)) := by
  rw [e, drop_cons s k hk, fnd, if_neg h]
  cases fnd (s.data.toList.drop (k + 1)) with
  | none => rfl
  | some d => simp; omega

set_option maxHeartbeats 400000 in
theorem find_any (s : ByteArray) (w : World) (hs : s.size ≤ 1000) :
    Calls Tryd.prog 114 #[.string s, .int .u8 46] w fun e w' => e = .returned (.int .i64 (fndZ s.data.toList)) ∧ w' = w := by
  have HL : Hid (s.data.toList.length = s.size) := toList_len s
  go_enter Tryd.func114, Tryd.ntmps114
  go_wp2
  go_loop [5] (fun i => ∃ k : Nat, k ≤ s.size ∧ i = .int .i64 k ∧ fnd s.data.toList = (fnd (s.data.toList.drop k)).map (· + k)) (fun i => s.size - (intOf i).toNat)
  case atStart => exact ⟨0, Nat.zero_le _, rfl, by simp⟩
  case round =>
    obtain ⟨k, hk, rfl, hf⟩ := hrel
    have HF : Hid (fnd s.data.toList = (fnd (s.data.toList.drop k)).map (· + k)) := hf
    clear hf
    by_cases hlt : k < s.size
    · cases hc : (s[k].toNat : Int) == 46 with
      | true =>
        have HC : Hid (s[k] = 46) := by
          apply UInt8.toNat_inj.1
          simp at hc
          show s[k].toNat = 46
          omega
        go_wp2
        go_ret
        refine ⟨ret_int ?_, rfl⟩
        rw [fndZ, HF.out, drop_cons s k hlt, fnd, if_pos HC.out]
        simp
      | false =>
        have HC : Hid (s[k] ≠ 46) := by
          intro e; rw [e] at hc; revert hc; decide
        go_wp2
        go_round
        case rel => exact ⟨k + 1, by omega, by go_num, fnd_drop s k hlt HC.out HF.out⟩
        case measure => simp [intOf]; omega
    · go_wp2
      go_ret
      refine ⟨ret_int ?_, rfl⟩
      rw [fndZ, HF.out, List.drop_of_length_le (by have := HL.out; omega)]
      rfl

/-- The two answers, under names that nothing lays open. -/
def digB (s : ByteArray) : Int := digitsZ s.data.toList
def fndB (s : ByteArray) : Int := fndZ s.data.toList
theorem digits_b (s : ByteArray) (w : World) (hs : s.size ≤ 1000) :
    Calls Tryd.prog 113 #[.string s] w fun e w' => e = .returned (.int .i64 (digB s)) ∧ w' = w := digits_any s w hs
theorem find_b (s : ByteArray) (w : World) (hs : s.size ≤ 1000) :
    Calls Tryd.prog 114 #[.string s, .int .u8 46] w fun e w' => e = .returned (.int .i64 (fndB s)) ∧ w' = w := find_any s w hs

end Go.Proofs.YtdhoimjkgicneaaDoor
