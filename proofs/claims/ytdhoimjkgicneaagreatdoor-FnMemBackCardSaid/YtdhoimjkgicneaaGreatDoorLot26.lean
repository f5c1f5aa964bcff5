/- Texts of this proof laid together: ReadW, ReadG, ReadH. -/
import Derived.Test.YtdhoimjkgicneaaGreatDoorLot24
import Derived.Test.YtdhoimjkgicneaaGreatDoorLot25
/- What the specification's l1Guess does at a word and at the empty text. -/
namespace Go.Proofs.YtdhoimjkgicneaaGreatDoor
open Go Go.RowKit

theorem box3c {w w1 : World} {a b c : Value} {t : TypeId} (hb : Below (w.alloc (.cells #[a, b, c] t)).heap.size (w.alloc (.cells #[a, b, c] t)) w1) :
    w1.cell? ⟨w.heap.size, 0, none⟩ = some a ∧ w1.cell? ⟨w.heap.size, 1, none⟩ = some b ∧ w1.cell? ⟨w.heap.size, 2, none⟩ = some c ∧
    w1.frozen? ⟨w.heap.size, 0, none⟩ = false ∧ w1.frozen? ⟨w.heap.size, 1, none⟩ = false ∧ w1.frozen? ⟨w.heap.size, 2, none⟩ = false ∧ w.heap.size < w1.heap.size ∧ Below w.heap.size w w1 := by
  obtain ⟨c0, c1, c2, hz, hb1⟩ := box3 hb
  refine ⟨c0, c1, c2, ?_, ?_, ?_, hz, hb1⟩
  · rw [hb.frozen (p := ⟨w.heap.size, 0, none⟩) (by simp)]; simp
  · rw [hb.frozen (p := ⟨w.heap.size, 1, none⟩) (by simp)]; simp
  · rw [hb.frozen (p := ⟨w.heap.size, 2, none⟩) (by simp)]; simp

set_option maxRecDepth 100000 in
set_option maxHeartbeats 400000 in
theorem guess_word0 (w : World) :
    Calls Tryz.prog 93 #[.string ⟨#[110, 97, 110]⟩] w fun e w' => e = .returned (.agg #[.int .i64 13, .int .i64 0, .int .i64 0]) ∧ Below w.heap.size w w' := by
  go_enter Tryz.func93, Tryz.ntmps93
  go_wp2
  go_loopw [3] (fun i wr => ∃ k : Nat, k ≤ 0 ∧ i = .int .i64 k ∧ Below (w.alloc (.cells #[.int .i64 0, .int .i64 0, .int .i64 0] 66)).heap.size (w.alloc (.cells #[.int .i64 0, .int .i64 0, .int .i64 0] 66)) wr) (fun i _ => 4 - (intOf i).toNat)
  case atStart => exact ⟨0, Nat.zero_le _, rfl, Below.refl _ _⟩
  case round =>
    obtain ⟨k, hk, rfl, hb⟩ := hrel
    have HB : Hid (Below (w.alloc (.cells #[.int .i64 0, .int .i64 0, .int .i64 0] 66)).heap.size (w.alloc (.cells #[.int .i64 0, .int .i64 0, .int .i64 0] 66)) wr) := hb
    have HZ : Hid ((w.alloc (.cells #[.int .i64 0, .int .i64 0, .int .i64 0] 66)).heap.size ≤ wr.heap.size) := hb.size
    obtain ⟨q0, q1, q2, f0, f1, f2, hz, hb1⟩ := box3c hb
    have HB1 : Hid (Below w.heap.size w wr) := hb1
    clear hb hb1
    have hk4 : k = 0 := by omega
    rcases hk4 with rfl
    · go_wp2_with (go_at_call 127; refine (spec_words _).mono ?_; rintro e w2 ⟨rfl, rfl⟩)
      exact bodyPost_ret (v := .agg #[.int .i64 13, .int .i64 0, .int .i64 0]) (by simp [results, Tryz.results93, go_sem, q0, q1, q2, hz]) rfl
        ⟨rfl, (((HB1.out.setCell (Nat.le_refl _) _).setCell (Nat.le_refl _) _).setCell (Nat.le_refl _) _).alloc (by simp; omega) _⟩

set_option maxRecDepth 100000 in
set_option maxHeartbeats 400000 in
theorem guess_word1 (w : World) :
    Calls Tryz.prog 93 #[.string ⟨#[105, 110, 102]⟩] w fun e w' => e = .returned (.agg #[.int .i64 13, .int .i64 1, .int .i64 0]) ∧ Below w.heap.size w w' := by
  go_enter Tryz.func93, Tryz.ntmps93
  go_wp2
  go_loopw [3] (fun i wr => ∃ k : Nat, k ≤ 1 ∧ i = .int .i64 k ∧ Below (w.alloc (.cells #[.int .i64 0, .int .i64 0, .int .i64 0] 66)).heap.size (w.alloc (.cells #[.int .i64 0, .int .i64 0, .int .i64 0] 66)) wr) (fun i _ => 4 - (intOf i).toNat)
  case atStart => exact ⟨0, Nat.zero_le _, rfl, Below.refl _ _⟩
  case round =>
    obtain ⟨k, hk, rfl, hb⟩ := hrel
    have HB : Hid (Below (w.alloc (.cells #[.int .i64 0, .int .i64 0, .int .i64 0] 66)).heap.size (w.alloc (.cells #[.int .i64 0, .int .i64 0, .int .i64 0] 66)) wr) := hb
    have HZ : Hid ((w.alloc (.cells #[.int .i64 0, .int .i64 0, .int .i64 0] 66)).heap.size ≤ wr.heap.size) := hb.size
    obtain ⟨q0, q1, q2, f0, f1, f2, hz, hb1⟩ := box3c hb
    have HB1 : Hid (Below w.heap.size w wr) := hb1
    clear hb hb1
    have hk4 : k = 0 ∨ k = 1 := by omega
    rcases hk4 with rfl | rfl
    · go_wp2_with (go_at_call 127; refine (spec_words _).mono ?_; rintro e w2 ⟨rfl, rfl⟩)
      go_roundw
      case rel => exact ⟨1, by omega, rfl, HB.out.alloc HZ.out _⟩
      case measure => simp [intOf]
    · go_wp2_with (go_at_call 127; refine (spec_words _).mono ?_; rintro e w2 ⟨rfl, rfl⟩)
      exact bodyPost_ret (v := .agg #[.int .i64 13, .int .i64 1, .int .i64 0]) (by simp [results, Tryz.results93, go_sem, q0, q1, q2, hz]) rfl
        ⟨rfl, (((HB1.out.setCell (Nat.le_refl _) _).setCell (Nat.le_refl _) _).setCell (Nat.le_refl _) _).alloc (by simp; omega) _⟩

set_option maxRecDepth 100000 in
set_option maxHeartbeats 400000 in
theorem guess_word2 (w : World) :
    Calls Tryz.prog 93 #[.string ⟨#[45, 105, 110, 102]⟩] w fun e w' => e = .returned (.agg #[.int .i64 13, .int .i64 2, .int .i64 0]) ∧ Below w.heap.size w w' := by
  go_enter Tryz.func93, Tryz.ntmps93
  go_wp2
  go_loopw [3] (fun i wr => ∃ k : Nat, k ≤ 2 ∧ i = .int .i64 k ∧ Below (w.alloc (.cells #[.int .i64 0, .int .i64 0, .int .i64 0] 66)).heap.size (w.alloc (.cells #[.int .i64 0, .int .i64 0, .int .i64 0] 66)) wr) (fun i _ => 4 - (intOf i).toNat)
  case atStart => exact ⟨0, Nat.zero_le _, rfl, Below.refl _ _⟩
  case round =>
    obtain ⟨k, hk, rfl, hb⟩ := hrel
    have HB : Hid (Below (w.alloc (.cells #[.int .i64 0, .int .i64 0, .int .i64 0] 66)).heap.size (w.alloc (.cells #[.int .i64 0, .int .i64 0, .int .i64 0] 66)) wr) := hb
    have HZ : Hid ((w.alloc (.cells #[.int .i64 0, .int .i64 0, .int .i64 0] 66)).heap.size ≤ wr.heap.size) := hb.size
    obtain ⟨q0, q1, q2, f0, f1, f2, hz, hb1⟩ := box3c hb
    have HB1 : Hid (Below w.heap.size w wr) := hb1
    clear hb hb1
    have hk4 : k = 0 ∨ k = 1 ∨ k = 2 := by omega
    rcases hk4 with rfl | rfl | rfl
    · go_wp2_with (go_at_call 127; refine (spec_words _).mono ?_; rintro e w2 ⟨rfl, rfl⟩)
      go_roundw
      case rel => exact ⟨1, by omega, rfl, HB.out.alloc HZ.out _⟩
      case measure => simp [intOf]
    · go_wp2_with (go_at_call 127; refine (spec_words _).mono ?_; rintro e w2 ⟨rfl, rfl⟩)
      go_roundw
      case rel => exact ⟨2, by omega, rfl, HB.out.alloc HZ.out _⟩
      case measure => simp [intOf]
    · go_wp2_with (go_at_call 127; refine (spec_words _).mono ?_; rintro e w2 ⟨rfl, rfl⟩)
      exact bodyPost_ret (v := .agg #[.int .i64 13, .int .i64 2, .int .i64 0]) (by simp [results, Tryz.results93, go_sem, q0, q1, q2, hz]) rfl
        ⟨rfl, (((HB1.out.setCell (Nat.le_refl _) _).setCell (Nat.le_refl _) _).setCell (Nat.le_refl _) _).alloc (by simp; omega) _⟩

set_option maxRecDepth 100000 in
set_option maxHeartbeats 400000 in
theorem guess_word3 (w : World) :
    Calls Tryz.prog 93 #[.string ⟨#[45, 48, 46, 48]⟩] w fun e w' => e = .returned (.agg #[.int .i64 13, .int .i64 3, .int .i64 0]) ∧ Below w.heap.size w w' := by
  go_enter Tryz.func93, Tryz.ntmps93
  go_wp2
  go_loopw [3] (fun i wr => ∃ k : Nat, k ≤ 3 ∧ i = .int .i64 k ∧ Below (w.alloc (.cells #[.int .i64 0, .int .i64 0, .int .i64 0] 66)).heap.size (w.alloc (.cells #[.int .i64 0, .int .i64 0, .int .i64 0] 66)) wr) (fun i _ => 4 - (intOf i).toNat)
  case atStart => exact ⟨0, Nat.zero_le _, rfl, Below.refl _ _⟩
  case round =>
    obtain ⟨k, hk, rfl, hb⟩ := hrel
    have HB : Hid (Below (w.alloc (.cells #[.int .i64 0, .int .i64 0, .int .i64 0] 66)).heap.size (w.alloc (.cells #[.int .i64 0, .int .i64 0, .int .i64 0] 66)) wr) := hb
    have HZ : Hid ((w.alloc (.cells #[.int .i64 0, .int .i64 0, .int .i64 0] 66)).heap.size ≤ wr.heap.size) := hb.size
    obtain ⟨q0, q1, q2, f0, f1, f2, hz, hb1⟩ := box3c hb
    have HB1 : Hid (Below w.heap.size w wr) := hb1
    clear hb hb1
    have hk4 : k = 0 ∨ k = 1 ∨ k = 2 ∨ k = 3 := by omega
    rcases hk4 with rfl | rfl | rfl | rfl
    · go_wp2_with (go_at_call 127; refine (spec_words _).mono ?_; rintro e w2 ⟨rfl, rfl⟩)
      go_roundw
      case rel => exact ⟨1, by omega, rfl, HB.out.alloc HZ.out _⟩
      case measure => simp [intOf]
    · go_wp2_with (go_at_call 127; refine (spec_words _).mono ?_; rintro e w2 ⟨rfl, rfl⟩)
      go_roundw
      case rel => exact ⟨2, by omega, rfl, HB.out.alloc HZ.out _⟩
      case measure => simp [intOf]
    · go_wp2_with (go_at_call 127; refine (spec_words _).mono ?_; rintro e w2 ⟨rfl, rfl⟩)
      go_roundw
      case rel => exact ⟨3, by omega, rfl, HB.out.alloc HZ.out _⟩
      case measure => simp [intOf]
    · go_wp2_with (go_at_call 127; refine (spec_words _).mono ?_; rintro e w2 ⟨rfl, rfl⟩)
      exact bodyPost_ret (v := .agg #[.int .i64 13, .int .i64 3, .int .i64 0]) (by simp [results, Tryz.results93, go_sem, q0, q1, q2, hz]) rfl
        ⟨rfl, (((HB1.out.setCell (Nat.le_refl _) _).setCell (Nat.le_refl _) _).setCell (Nat.le_refl _) _).alloc (by simp; omega) _⟩

end Go.Proofs.YtdhoimjkgicneaaGreatDoor

/- What the specification's l1Guess does at every text. -/
namespace Go.Proofs.YtdhoimjkgicneaaGreatDoor
open Go Go.RowKit

set_option maxRecDepth 100000 in
set_option maxHeartbeats 400000 in
theorem guess_empty (w : World) :
    Calls Tryz.prog 93 #[.string ⟨#[]⟩] w fun e w' => e = .returned (.agg #[.int .i64 11, .int .i64 (-1), .int .i64 0]) ∧ Below w.heap.size w w' := by
  have hf : fndB ⟨#[]⟩ = -1 := rfl
  have hd : digB ⟨#[]⟩ = -1 := by decide
  have hsz : (⟨#[]⟩ : ByteArray).size ≤ 6000 := by decide
  go_enter Tryz.func93, Tryz.ntmps93
  go_wp2
  go_loopw [3] (fun i wr => ∃ k : Nat, k ≤ 4 ∧ i = .int .i64 k ∧ Below (w.alloc (.cells #[.int .i64 0, .int .i64 0, .int .i64 0] 66)).heap.size (w.alloc (.cells #[.int .i64 0, .int .i64 0, .int .i64 0] 66)) wr) (fun i _ => 4 - (intOf i).toNat)
  case atStart => exact ⟨0, Nat.zero_le _, rfl, Below.refl _ _⟩
  case round =>
    obtain ⟨k, hk, rfl, hb⟩ := hrel
    have HB : Hid (Below (w.alloc (.cells #[.int .i64 0, .int .i64 0, .int .i64 0] 66)).heap.size (w.alloc (.cells #[.int .i64 0, .int .i64 0, .int .i64 0] 66)) wr) := hb
    have HZ : Hid ((w.alloc (.cells #[.int .i64 0, .int .i64 0, .int .i64 0] 66)).heap.size ≤ wr.heap.size) := hb.size
    clear hb
    by_cases hlt : k < 4
    · have hk4 : k = 0 ∨ k = 1 ∨ k = 2 ∨ k = 3 := by omega
      rcases hk4 with rfl | rfl | rfl | rfl
      all_goals
        go_wp2_with (go_at_call 127; refine (spec_words _).mono ?_; rintro e w2 ⟨rfl, rfl⟩)
        go_roundw
        case rel => first | exact ⟨1, by omega, rfl, HB.out.alloc HZ.out _⟩ | exact ⟨2, by omega, rfl, HB.out.alloc HZ.out _⟩ | exact ⟨3, by omega, rfl, HB.out.alloc HZ.out _⟩ | exact ⟨4, by omega, rfl, HB.out.alloc HZ.out _⟩
        case measure => simp [intOf]
    · go_wp2
      go_loopw [4] (fun i wr2 => ∃ m : Nat, 1 ≤ m ∧ m ≤ 11 ∧ i = .int .i64 m ∧ Below (w.alloc (.cells #[.int .i64 0, .int .i64 0, .int .i64 0] 66)).heap.size (w.alloc (.cells #[.int .i64 0, .int .i64 0, .int .i64 0] 66)) wr2) (fun i _ => 11 - (intOf i).toNat)
      case atStart => exact ⟨1, by omega, by omega, rfl, HB.out⟩
      case round =>
        clear HB HZ
        obtain ⟨m, hm1, hm2, rfl, hb⟩ := hrel
        have HB : Hid (Below (w.alloc (.cells #[.int .i64 0, .int .i64 0, .int .i64 0] 66)).heap.size (w.alloc (.cells #[.int .i64 0, .int .i64 0, .int .i64 0] 66)) wr) := hb
        obtain ⟨q0, q1, q2, f0, f1, f2, hz, hb1⟩ := box3b hb
        have HB1 : Hid (Below w.heap.size w wr) := hb1
        clear hb hb1
        by_cases hlt : m ≤ 10
        · go_wp2
          go_quiet (fail)
          go_wp2
          go_roundw
          case rel => exact ⟨m + 1, by omega, by omega, by go_num, below_drewN HB.out _⟩
          case measure => simp [intOf]; omega
        · go_wp2_with (first
            | (go_at_call 54; refine (find_b _ _ hsz).mono ?_; rintro e w' ⟨rfl, rfl⟩)
            | (go_at_call 128; refine (digits_b _ _ hsz).mono ?_; rintro e w' ⟨rfl, rfl⟩))
          exact bodyPost_ret (v := .agg #[.int .i64 11, .int .i64 (-1), .int .i64 0]) (by simp [results, Tryz.results93, go_sem, q0, q1, q2]) rfl
            ⟨rfl, ((HB1.out.setCell (Nat.le_refl _) _).setCell (Nat.le_refl _) _).setCell (Nat.le_refl _) _⟩

theorem beq_word (s : ByteArray) (l : List UInt8) (h : s.data.toList ≠ l) : (s.toList == l) = false := by
  rw [ByteArray.toList_eq, beq_eq_false_iff_ne]; exact h

theorem str_lit {s : ByteArray} {l : List UInt8} (h : s.data.toList = l) : s = ⟨l.toArray⟩ := by subst h; rfl

theorem guess_all (s : ByteArray) (w : World) (hs : s.size ≤ 6000) :
    Calls Tryz.prog 93 #[.string s] w fun e w' => ∃ k n p : Int, e = .returned (.agg #[.int .i64 k, .int .i64 n, .int .i64 p]) ∧ guessP s.data.toList = (k, n, p) ∧ Below w.heap.size w w' := by
  by_cases h0 : s.data.toList = wordL 0
  · rw [str_lit h0]
    exact (guess_word0 w).mono fun e w' ⟨he, hb⟩ => ⟨13, 0, 0, he, by decide, hb⟩
  by_cases h1 : s.data.toList = wordL 1
  · rw [str_lit h1]
    exact (guess_word1 w).mono fun e w' ⟨he, hb⟩ => ⟨13, 1, 0, he, by decide, hb⟩
  by_cases h2 : s.data.toList = wordL 2
  · rw [str_lit h2]
    exact (guess_word2 w).mono fun e w' ⟨he, hb⟩ => ⟨13, 2, 0, he, by decide, hb⟩
  by_cases h3 : s.data.toList = wordL 3
  · rw [str_lit h3]
    exact (guess_word3 w).mono fun e w' ⟨he, hb⟩ => ⟨13, 3, 0, he, by decide, hb⟩
  by_cases hn : s.size = 0
  · have e0 : s.data.toList = [] := List.length_eq_zero_iff.1 (by rw [toList_len]; exact hn)
    rw [str_lit e0]
    exact (guess_empty w).mono fun e w' ⟨he, hb⟩ => ⟨11, -1, 0, he, by decide, hb⟩
  refine guess_num s w hs (beq_word s _ (by intro e; exact h0 (e.trans (by decide)))) (beq_word s _ (by intro e; exact h1 (e.trans (by decide)))) (beq_word s _ (by intro e; exact h2 (e.trans (by decide)))) (beq_word s _ (by intro e; exact h3 (e.trans (by decide)))) ?_ (by omega) (by omega) ?_ ?_ ?_
  · rw [ByteArray.toList_eq]
    cases he : s.data.toList with
    | nil => exfalso; apply hn; rw [← toList_len, he]; rfl
    | cons c cs => rfl
  · intro hk
    unfold guessP
    rw [if_neg h0, if_neg h1, if_neg h2, if_neg h3, if_pos hk]
  · intro hk hm
    unfold guessP
    rw [if_neg h0, if_neg h1, if_neg h2, if_neg h3, if_neg (by rw [hk]; simp), if_pos hm]
  · intro hk hm
    unfold guessP
    rw [if_neg h0, if_neg h1, if_neg h2, if_neg h3, if_neg (by rw [hk]; simp), if_neg hm]

end Go.Proofs.YtdhoimjkgicneaaGreatDoor

/- What the specification's DevRead does. -/
namespace Go.Proofs.YtdhoimjkgicneaaGreatDoor
open Go Go.RowKit

/-- What reading a text answers: the operand of which it is the text, or none. -/
def Reads (l : List UInt8) (e : Ending) : Prop :=
  (∃ k n p : Int, okB k n p = true ∧ textL k n p = l ∧ e = .returned (.tuple #[.agg #[.int .i64 k, .int .i64 n, .int .i64 p], .bool true])) ∨
  ((∀ k n p : Int, okB k n p = true → textL k n p ≠ l) ∧ e = .returned (.tuple #[.agg #[.int .i64 0, .int .i64 0, .int .i64 0], .bool false]))

theorem text_ok {k n p : Int} {l : List UInt8} (h : textL k n p = l) (hl : l ≠ []) : okB k n p = true := by
  cases hk : okB k n p with
  | true => rfl
  | false => exfalso; apply hl; rw [← h]; unfold textL; rw [if_pos hk]

theorem none_guess {l : List UInt8} {k n p : Int} (hg : guessP l = (k, n, p)) (h : textL k n p ≠ l) : ∀ k' n' p' : Int, okB k' n' p' = true → textL k' n' p' ≠ l := by
  intro k' n' p' h1 h2
  have h3 := (read_same h1 h2).1
  rw [hg] at h3
  cases h3
  exact h h2
theorem none_scan {l : List UInt8} {k n p : Int} (hg : scanP l = (k, n, p)) (h : okB k n p = false ∨ textL k n p ≠ l) : ∀ k' n' p' : Int, okB k' n' p' = true → textL k' n' p' ≠ l := by
  intro k' n' p' h1 h2
  have h3 := (read_same h1 h2).2
  rw [hg] at h3
  cases h3
  rcases h with h | h
  · rw [h1] at h; cases h
  · exact h h2

theorem kept3 {w1 w2 : World} {b : Nat} {x y z : Value} (hb : Below w1.heap.size w1 w2) (hz : b < w1.heap.size) (q0 : w1.cell? ⟨b, 0, none⟩ = some x) (q1 : w1.cell? ⟨b, 1, none⟩ = some y) (q2 : w1.cell? ⟨b, 2, none⟩ = some z)
    (f0 : w1.frozen? ⟨b, 0, none⟩ = false) (f1 : w1.frozen? ⟨b, 1, none⟩ = false) (f2 : w1.frozen? ⟨b, 2, none⟩ = false) :
    w2.cell? ⟨b, 0, none⟩ = some x ∧ w2.cell? ⟨b, 1, none⟩ = some y ∧ w2.cell? ⟨b, 2, none⟩ = some z ∧ w2.frozen? ⟨b, 0, none⟩ = false ∧ w2.frozen? ⟨b, 1, none⟩ = false ∧ w2.frozen? ⟨b, 2, none⟩ = false :=
  ⟨(hb.cell (p := ⟨b, 0, none⟩) hz).trans q0, (hb.cell (p := ⟨b, 1, none⟩) hz).trans q1, (hb.cell (p := ⟨b, 2, none⟩) hz).trans q2,
    (hb.frozen (p := ⟨b, 0, none⟩) hz).trans f0, (hb.frozen (p := ⟨b, 1, none⟩) hz).trans f1, (hb.frozen (p := ⟨b, 2, none⟩) hz).trans f2⟩

set_option maxRecDepth 100000 in
set_option maxHeartbeats 800000 in
theorem spec_read (s : ByteArray) (w : World) (hs : s.size ≤ 6000) :
    Calls Tryz.prog 56 #[.string s] w fun e w' => Reads s.data.toList e ∧ Below w.heap.size w w' := by
  go_enter Tryz.func56, Tryz.ntmps56
  go_wp2_with fail
  refine (guess_all s _ hs).mono ?_
  rintro e w1 ⟨k, n, p, rfl, hg, hb⟩
  obtain ⟨q0, q1, q2, f0, f1, f2, hz, hb1⟩ := box3b hb
  have HG : Hid (guessP s.data.toList = (k, n, p)) := hg
  have HB : Hid (Below w.heap.size w w1) := hb1
  clear hg hb hb1
  cases hn : s.toList.isEmpty with
  | true =>
    have HE : Hid (s.data.toList = []) := by
      rw [ByteArray.toList_eq] at hn
      exact List.isEmpty_iff.1 hn
    go_wp2
    refine bodyPost_ret (v := .tuple #[.agg #[.int .i64 0, .int .i64 0, .int .i64 0], .bool false]) (by simp [results, Tryz.results56, go_sem, q0, q1, q2, hz]) rfl ⟨Or.inr ⟨?_, rfl⟩, ?_⟩
    · intro k' n' p' h1 h2
      rw [HE.out] at h2
      exact textL_ne h1 h2
    · exact (((HB.out.setCell (Nat.le_refl _) _).setCell (Nat.le_refl _) _).setCell (Nat.le_refl _) _).alloc (by simp; omega) _
  | false =>
    have HE : Hid (s.data.toList ≠ []) := by
      intro e
      rw [ByteArray.toList_eq, e] at hn
      cases hn
    go_wp2_with fail
    refine (spec_text k n p _).mono ?_
    rintro e w2 ⟨rfl, hb2⟩
    obtain ⟨c0, c1, c2, hz2, hb3⟩ := box3 hb2
    obtain ⟨p0, p1, p2, g0, g1, g2⟩ := kept3 hb3 hz q0 q1 q2 f0 f1 f2
    have HB2 : Hid (Below w.heap.size w w2) := HB.out.trans (hb3.mono (by omega))
    have hz3 : w.heap.size < w2.heap.size := by omega
    clear hb2 hb3 q0 q1 q2 f0 f1 f2
    cases hc : (textL k n p == s.toList) with
    | true =>
      have HT : Hid (textL k n p = s.data.toList) := by
        rw [ByteArray.toList_eq] at hc
        exact beq_iff_eq.1 hc
      go_wp2
      exact bodyPost_ret (v := .tuple #[.agg #[.int .i64 k, .int .i64 n, .int .i64 p], .bool true]) (by simp [results, Tryz.results56, go_sem, p0, p1, p2]) rfl
        ⟨Or.inl ⟨k, n, p, text_ok HT.out HE.out, HT.out, rfl⟩, ((HB2.out.setCell (Nat.le_refl _) _).setCell (Nat.le_refl _) _).setCell (Nat.le_refl _) _⟩
    | false =>
      have HT : Hid (textL k n p ≠ s.data.toList) := by
        rw [ByteArray.toList_eq] at hc
        exact beq_eq_false_iff_ne.1 hc
      go_wp2
      exact bodyPost_ret (v := .tuple #[.agg #[.int .i64 0, .int .i64 0, .int .i64 0], .bool false]) (by simp [results, Tryz.results56, go_sem, p0, p1, p2]) rfl
        ⟨Or.inr ⟨none_guess HG.out HT.out, rfl⟩, ((HB2.out.setCell (Nat.le_refl _) _).setCell (Nat.le_refl _) _).setCell (Nat.le_refl _) _⟩

end Go.Proofs.YtdhoimjkgicneaaGreatDoor
