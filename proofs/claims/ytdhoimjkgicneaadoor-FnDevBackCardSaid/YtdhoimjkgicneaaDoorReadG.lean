/- What the specification's l1Guess does at every text. -/
import Derived.Test.YtdhoimjkgicneaaDoorReadB
import Derived.Test.YtdhoimjkgicneaaDoorReadW
namespace Go.Proofs.YtdhoimjkgicneaaDoor
open Go Go.RowKit

set_option maxRecDepth 100000 in
set_option maxHeartbeats 400000 in
theorem guess_empty (w : World) :
    Calls Tryd.prog 69 #[.string ⟨#[]⟩] w fun e w' => e = .returned (.agg #[.int .i64 11, .int .i64 (-1), .int .i64 0]) ∧ Below w.heap.size w w' := by
  have hf : fndB ⟨#[]⟩ = -1 := rfl
  have hd : digB ⟨#[]⟩ = -1 := by decide
  have hsz : (⟨#[]⟩ : ByteArray).size ≤ 1000 := by decide
  go_enter Tryd.func69, Tryd.ntmps69
  go_wp2
  go_loopw [3] (fun i wr => ∃ k : Nat, k ≤ 4 ∧ i = .int .i64 k ∧ Below (w.alloc (.cells #[.int .i64 0, .int .i64 0, .int .i64 0] 24)).heap.size (w.alloc (.cells #[.int .i64 0, .int .i64 0, .int .i64 0] 24)) wr) (fun i _ => 4 - (intOf i).toNat)
  case atStart => exact ⟨0, Nat.zero_le _, rfl, Below.refl _ _⟩
  case round =>
    obtain ⟨k, hk, rfl, hb⟩ := hrel
    have HB : Hid (Below (w.alloc (.cells #[.int .i64 0, .int .i64 0, .int .i64 0] 24)).heap.size (w.alloc (.cells #[.int .i64 0, .int .i64 0, .int .i64 0] 24)) wr) := hb
    have HZ : Hid ((w.alloc (.cells #[.int .i64 0, .int .i64 0, .int .i64 0] 24)).heap.size ≤ wr.heap.size) := hb.size
    clear hb
    by_cases hlt : k < 4
    · have hk4 : k = 0 ∨ k = 1 ∨ k = 2 ∨ k = 3 := by omega
      rcases hk4 with rfl | rfl | rfl | rfl
      all_goals
        go_wp2_with (go_at_call 62; refine (spec_words _).mono ?_; rintro e w2 ⟨rfl, rfl⟩)
        go_roundw
        case rel => first | exact ⟨1, by omega, rfl, HB.out.alloc HZ.out _⟩ | exact ⟨2, by omega, rfl, HB.out.alloc HZ.out _⟩ | exact ⟨3, by omega, rfl, HB.out.alloc HZ.out _⟩ | exact ⟨4, by omega, rfl, HB.out.alloc HZ.out _⟩
        case measure => simp [intOf]
    · go_wp2
      go_loopw [4] (fun i wr2 => ∃ m : Nat, 1 ≤ m ∧ m ≤ 11 ∧ i = .int .i64 m ∧ Below (w.alloc (.cells #[.int .i64 0, .int .i64 0, .int .i64 0] 24)).heap.size (w.alloc (.cells #[.int .i64 0, .int .i64 0, .int .i64 0] 24)) wr2) (fun i _ => 11 - (intOf i).toNat)
      case atStart => exact ⟨1, by omega, by omega, rfl, HB.out⟩
      case round =>
        clear HB HZ
        obtain ⟨m, hm1, hm2, rfl, hb⟩ := hrel
        have HB : Hid (Below (w.alloc (.cells #[.int .i64 0, .int .i64 0, .int .i64 0] 24)).heap.size (w.alloc (.cells #[.int .i64 0, .int .i64 0, .int .i64 0] 24)) wr) := hb
        obtain ⟨q0, q1, q2, f0, f1, f2, hz, hb1⟩ := box3b hb
        have HB1 : Hid (Below w.heap.size w wr) := hb1
        clear hb hb1
        by_cases hlt : m ≤ 10
        · go_wp2
          go_quiet (fail)
          go_wp2
          go_roundw
          case rel => exact ⟨m + 1, by omega, by omega, by go_num, below_drewN HB.out _⟩
          case measure => simp [intOf]; omega
        · go_wp2_with (first
            | (go_at_call 114; refine (find_b _ _ hsz).mono ?_; rintro e w' ⟨rfl, rfl⟩)
            | (go_at_call 113; refine (digits_b _ _ hsz).mono ?_; rintro e w' ⟨rfl, rfl⟩))
          exact bodyPost_ret (v := .agg #[.int .i64 11, .int .i64 (-1), .int .i64 0]) (by simp [results, Tryd.results69, go_sem, q0, q1, q2]) rfl
            ⟨rfl, ((HB1.out.setCell (Nat.le_refl _) _).setCell (Nat.le_refl _) _).setCell (Nat.le_refl _) _⟩

theorem beq_word (s : ByteArray) (l : List UInt8) (h : s.data.toList ≠ l) : (s.toList == l) = false := by
  rw [ByteArray.toList_eq, beq_eq_false_iff_ne]; exact h

theorem str_lit {s : ByteArray} {l : List UInt8} (h : s.data.toList = l) : s = ⟨l.toArray⟩ := by subst h; rfl

theorem guess_all (s : ByteArray) (w : World) (hs : s.size ≤ 1000) :
    Calls Tryd.prog 69 #[.string s] w fun e w' => ∃ k n p : Int, e = .returned (.agg #[.int .i64 k, .int .i64 n, .int .i64 p]) ∧ guessP s.data.toList = (k, n, p) ∧ Below w.heap.size w w' := by
  by_cases h0 : s.data.toList = wordL 0
  · rw [str_lit h0]
    exact (guess_word0 w).mono fun e w' ⟨he, hb⟩ => ⟨13, 0, 0, he, by decide, hb⟩
  by_cases h1 : s.data.toList = wordL 1
  · rw [str_lit h1]
    exact (guess_word1 w).mono fun e w' ⟨he, hb⟩ => ⟨13, 1, 0, he, by decide, hb⟩
  by_cases h2 : s.data.toList = wordL 2
  · rw [str_lit h2]
    exact (guess_word2 w).mono fun e w' ⟨he, hb⟩ => ⟨13, 2, 0, he, by decide, hb⟩
  by_cases h3 : s.data.toList = wordL 3
  · rw [str_lit h3]
    exact (guess_word3 w).mono fun e w' ⟨he, hb⟩ => ⟨13, 3, 0, he, by decide, hb⟩
  by_cases hn : s.size = 0
  · have e0 : s.data.toList = [] := List.length_eq_zero_iff.1 (by rw [toList_len]; exact hn)
    rw [str_lit e0]
    exact (guess_empty w).mono fun e w' ⟨he, hb⟩ => ⟨11, -1, 0, he, by decide, hb⟩
  refine guess_num s w hs (beq_word s _ (by intro e; exact h0 (e.trans (by decide)))) (beq_word s _ (by intro e; exact h1 (e.trans (by decide)))) (beq_word s _ (by intro e; exact h2 (e.trans (by decide)))) (beq_word s _ (by intro e; exact h3 (e.trans (by decide)))) ?_ (by omega) (by omega) ?_ ?_ ?_
  · rw [ByteArray.toList_eq]
    cases he : s.data.toList with
    | nil => exfalso; apply hn; rw [← toList_len, he]; rfl
    | cons c cs => rfl
  · intro hk
    unfold guessP
    rw [if_neg h0, if_neg h1, if_neg h2, if_neg h3, if_pos hk]
  · intro hk hm
    unfold guessP
    rw [if_neg h0, if_neg h1, if_neg h2, if_neg h3, if_neg (by rw [hk]; simp), if_pos hm]
  · intro hk hm
    unfold guessP
    rw [if_neg h0, if_neg h1, if_neg h2, if_neg h3, if_neg (by rw [hk]; simp), if_neg hm]

end Go.Proofs.YtdhoimjkgicneaaDoor
