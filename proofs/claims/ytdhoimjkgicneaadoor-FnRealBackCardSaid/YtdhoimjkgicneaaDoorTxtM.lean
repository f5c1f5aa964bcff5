/- The specification's reading of a real number above nought: where its star is, and what is read on both sides. -/
import Derived.Test.YtdhoimjkgicneaaDoorTxtH
import Derived.Test.YtdhoimjkgicneaaDoorTxtL
namespace Go.Proofs.YtdhoimjkgicneaaDoor
open Go Go.RowKit

/-- The place of the star. -/
def fndS : List UInt8 → Option Nat
  | [] => none
  | c :: cs => if c = 42 then some 0 else (fndS cs).map (· + 1)
def fndSZ (l : List UInt8) : Int := match fndS l with | none => -1 | some k => k

theorem fndS_at : ∀ {a r : List UInt8}, a.all isDig = true → fndS (a ++ 42 :: r) = some a.length
  | [], r, _ => by simp [fndS]
  | c :: cs, r, h => by
    simp only [List.all_cons, Bool.and_eq_true] at h
    have hc : c ≠ 42 := by rintro rfl; exact absurd h.1 (by decide)
    rw [List.cons_append, fndS, if_neg hc, fndS_at h.2]
    rfl

theorem fndS_lt : ∀ {l : List UInt8} {i : Nat}, fndS l = some i → i < l.length
  | [], i, h => by cases h
  | c :: cs, i, h => by
    rw [fndS] at h
    split at h
    · cases h; simp
    · cases hc : fndS cs with
      | none => rw [hc] at h; cases h
      | some d =>
        rw [hc] at h
        simp at h
        have := fndS_lt hc
        simp; omega

theorem drop_consT (s : ByteArray) (k : Nat) (h : k < s.size) : s.data.toList.drop k = s[k] :: s.data.toList.drop (k + 1) := by
  rw [List.drop_eq_getElem_cons (by rw [toList_lenT]; exact h)]; rfl

theorem ret_intT {k : IntKind} {a b : Int} (h : a = b) : Ending.returned (.int k a) = .returned (.int k b) := by rw [h]

set_option maxHeartbeats 400000 in
theorem find_star (s : ByteArray) (w : World) (hs : s.size ≤ 1000) :
    Calls Tryd.prog 114 #[.string s, .int .u8 42] w fun e w' => e = .returned (.int .i64 (fndSZ s.data.toList)) ∧ w' = w := by
  have HL : Hid (s.data.toList.length = s.size) := toList_lenT s
  go_enter Tryd.func114, Tryd.ntmps114
  go_wp2
  go_loop [5] (fun i => ∃ k : Nat, k ≤ s.size ∧ i = .int .i64 k ∧ fndS s.data.toList = (fndS (s.data.toList.drop k)).map (· + k)) (fun i => s.size - (intOf i).toNat)
  case atStart => exact ⟨0, Nat.zero_le _, rfl, by simp⟩
  case round =>
    obtain ⟨k, hk, rfl, hf⟩ := hrel
    have HF : Hid (fndS s.data.toList = (fndS (s.data.toList.drop k)).map (· + k)) := hf
    clear hf
    by_cases hlt : k < s.size
    · cases hc : (s[k].toNat : Int) == 42 with
      | true =>
        have HC : Hid (s[k] = 42) := by
          apply UInt8.toNat_inj.1
          simp at hc
          show s[k].toNat = 42
          omega
        go_wp2
        go_ret
        refine ⟨ret_intT ?_, rfl⟩
        rw [fndSZ, HF.out, drop_consT s k hlt, fndS, if_pos HC.out]
        simp
      | false =>
        have HC : Hid (s[k] ≠ 42) := by
          intro e; rw [e] at hc; revert hc; decide
        have HD : Hid (fndS s.data.toList = (fndS (s.data.toList.drop (k + 1))).map (· + (k + 1))) := by
          show fndS s.data.toList = _
          rw [HF.out, drop_consT s k hlt, fndS, if_neg HC.out]
          cases fndS (s.data.toList.drop (k + 1)) with
          | none => rfl
          | some d => simp; omega
        go_wp2
        go_round
        case rel => exact ⟨k + 1, by omega, by go_num, HD.out⟩
        case measure => simp [intOf]; omega
    · go_wp2
      go_ret
      refine ⟨ret_intT ?_, rfl⟩
      rw [fndSZ, HF.out, List.drop_of_length_le (by have := HL.out; omega)]
      rfl

/-- What the reading leaves: the number of the text, or nothing. -/
def L2Of (l : List UInt8) (w : World) (e : Ending) (w' : World) : Prop :=
  ((∃ z n c m k, e = .returned (.tuple #[.float .f64 z, .bool true]) ∧ FinT l false n c ∧ Num z false m k ∧ m * 2 ^ k = n * 2 ^ c) ∨ ((∃ z, e = .returned (.tuple #[.float .f64 z, .bool false])) ∧ ∀ n c, ¬ FinT l false n c)) ∧ w' = w

theorem l2_no {l : List UInt8} {w : World} {z : Nat} (h : ∀ n c, ¬ FinT l false n c) : L2Of l w (.returned (.tuple #[.float .f64 z, .bool false])) w := ⟨Or.inr ⟨⟨z, rfl⟩, h⟩, rfl⟩

/-- What a text of a number above nought looks like. -/
theorem fin_parts {l : List UInt8} {n c : Nat} (h : FinT l false n c) :
    fndS l = some (Lib.decDigits n).length ∧ l.take (Lib.decDigits n).length = Lib.itoa n ∧ (l.drop (Lib.decDigits n).length).take 3 = [42, 50, 94] ∧ l.drop ((Lib.decDigits n).length + 3) = Lib.itoa ((c : Int) - 1074) ∧ (Lib.decDigits n).length + 4 ≤ l.length := by
  obtain ⟨rfl, h1, h2, h3, h4⟩ := h
  have e : finL false n c = Lib.decDigits n ++ (42 :: ([50, 94] ++ Lib.itoa ((c : Int) - 1074))) := by simp [finL, sgnL]
  have hp := itoa_pos ((c : Int) - 1074)
  rw [e]
  refine ⟨fndS_at (dd_all n), ?_, ?_, ?_, ?_⟩
  · rw [List.take_left, itoa_nat]
  · rw [List.drop_left]; rfl
  · rw [← List.drop_drop, List.drop_left]; rfl
  · simp; omega

theorem ext_list (s : ByteArray) (a b : Nat) : (s.extract a b).data.toList = (s.data.toList.take b).drop a := by
  have := ext_take s.data.toList a b
  have e2 : (⟨s.data.toList.toArray⟩ : ByteArray) = s := rfl
  rw [e2] at this
  rw [this]

/-- The three pieces make up the text. -/
theorem pieces {l : List UInt8} {i : Nat} (h1 : (l.drop i).take 3 = [42, 50, 94]) : l = l.take i ++ ([42, 50, 94] ++ l.drop (i + 3)) := by
  rw [← h1, ← List.drop_drop, List.take_append_drop, List.take_append_drop]

theorem fin_make {l : List UInt8} {i : Nat} {v u : Int} (h1 : (l.drop i).take 3 = [42, 50, 94]) (h2 : l.take i = Lib.itoa v) (h3 : l.drop (i + 3) = Lib.itoa u) (hv : 0 ≤ v) (hu : -1074 ≤ u) :
    l = finL false v.toNat (u + 1074).toNat := by
  rw [pieces h1, h2, h3]
  simp only [finL, sgnL, Bool.false_eq_true, if_false, List.nil_append]
  congr 1
  · rw [← itoa_nat]; congr 1; omega
  · congr 2; omega

end Go.Proofs.YtdhoimjkgicneaaDoor
