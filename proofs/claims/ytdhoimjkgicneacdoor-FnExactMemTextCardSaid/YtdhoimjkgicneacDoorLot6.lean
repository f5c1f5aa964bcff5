/- Texts of this proof laid together: MtB, MtC. -/
import Derived.Test.YtdhoimjkgicneacDoorLot5
/- What words make of a memory; read in their order they make the memory of whose text they are. Of no one program. -/
namespace Go.Proofs.YtdhoimjkgicneacDoor
open Go

/-- Nothing. -/
def memZ : MemV := ⟨0, 0, 0, 0, 0, fun _ => false, fun _ => 0, fun _ => false, fun _ => false, fun _ => 0, fun _ => 0, fun _ => 0, 0, false, false⟩

def orV (m : MemV) (k n : Nat) : MemV :=
  if k = 1 then { m with x := m.x ||| 2 ^ n } else if k = 2 then { m with y := m.y ||| 2 ^ n } else if k = 3 then { m with m := m.m ||| 2 ^ n }
  else if k = 4 then { m with s := m.s ||| 2 ^ n } else if k = 5 then { m with e := m.e ||| 2 ^ n } else m
def timV (m : MemV) (n c : Nat) (d : Bool) : MemV := { m with tD := fun i => if i = n then d else m.tD i, tC := fun i => if i = n then c else m.tC i }
def cntV (m : MemV) (n c : Nat) (d l : Bool) : MemV := { m with cD := fun i => if i = n then d else m.cD i, cL := fun i => if i = n then l else m.cL i, cC := fun i => if i = n then c else m.cC i }
def intV (m : MemV) (n : Nat) (z : Int) : MemV := { m with d := fun i => if i = n then z else m.d i }
def reaV (m : MemV) (n x : Nat) : MemV := { m with r := fun i => if i = n then x else m.r i }

/-- What one word makes of a memory. -/
def Step (m : MemV) (w : Wd) (m' : MemV) : Prop :=
  if w.k ≤ 5 then m' = orV m w.k w.n
  else if w.k = 7 then m' = timV m w.n w.c w.d
  else if w.k = 8 then m' = cntV m w.n w.c w.d w.l
  else if w.k = 9 then m' = intV m w.n w.z
  else if w.k = 10 then ∃ x, Txt x w.t ∧ m' = reaV m w.n x
  else if w.k = 11 then m' = { m with time := w.c }
  else if w.k = 12 then m' = { m with ran := true }
  else m' = { m with fault := true }

def Steps : MemV → List Wd → MemV → Prop
  | m, [], m' => m' = m
  | m, w :: L, m' => ∃ m1, Step m w m1 ∧ Steps m1 L m'

theorem Steps.snoc : ∀ {L : List Wd} {m m1 m2 : MemV} {w : Wd}, Steps m L m1 → Step m1 w m2 → Steps m (L ++ [w]) m2
  | [], _, _, m2, _, h, g => ⟨m2, by cases h; exact g, rfl⟩
  | _ :: L, _, _, _, _, ⟨a, ha, h⟩, g => ⟨a, ha, Steps.snoc (L := L) h g⟩

/-- A place that just some words touch. -/
theorem slot {α : Type} (get : MemV → α) (P : α → Prop) (touch : Wd → Bool) : ∀ (L : List Wd) (m m' : MemV),
    (∀ w, w ∈ L → ∀ a b, Step a w b → (touch w = true → P (get b)) ∧ (touch w = false → get b = get a)) → Steps m L m' → (L.any touch = true → P (get m')) ∧ (L.any touch = false → get m' = get m)
  | [], m, m', _, h => by cases h; exact ⟨fun h => by simp at h, fun _ => rfl⟩
  | w :: L, m, m', hs, ⟨m1, h1, h2⟩ => by
    obtain ⟨i1, i2⟩ := slot get P touch L m1 m' (fun w hw => hs w (by simp [hw])) h2
    obtain ⟨s1, s2⟩ := hs w (by simp) m m1 h1
    refine ⟨fun h => ?_, fun h => ?_⟩
    · cases hL : L.any touch with
      | true => exact i1 hL
      | false =>
        rw [i2 hL]
        refine s1 ?_
        simpa [hL] using h
    · simp only [List.any_cons, Bool.or_eq_false_iff] at h
      rw [i2 h.2, s2 h.1]

theorem any_seg {n : Nat} {p : Nat → Bool} {f : Nat → Wd} {t : Wd → Bool} (i : Nat) (hi : i < n) (h : ∀ j, j < n → t (f j) = decide (j = i)) : (((List.range n).filter p).map f).any t = p i := by
  rw [Bool.eq_iff_iff]
  simp only [List.any_map, List.any_filter, List.any_eq_true, List.mem_range, Function.comp_apply, Bool.and_eq_true]
  constructor
  · rintro ⟨j, hj, h1, h2⟩
    rw [h j hj] at h2
    have : j = i := by simpa using h2
    rwa [this] at h1
  · intro hp
    exact ⟨i, hi, hp, by rw [h i hi]; simp⟩
theorem any_none {L : List Wd} {t : Wd → Bool} (h : ∀ w, w ∈ L → t w = false) : L.any t = false := by
  rw [Bool.eq_false_iff]
  intro g
  obtain ⟨w, hw, ht⟩ := List.any_eq_true.1 g
  rw [h w hw] at ht
  cases ht

section
variable {v : MemV} {tx : Nat → List UInt8}
theorem kind_bit {k : Nat} {w : Wd} (h : w ∈ bitW v k) : w.k = k := by
  simp only [bitW, List.mem_map] at h
  obtain ⟨n, -, rfl⟩ := h
  rfl
theorem kind_timer {w : Wd} (h : w ∈ timerW v) : w.k = 7 := by
  simp only [timerW, List.mem_map] at h
  obtain ⟨n, -, rfl⟩ := h
  rfl
theorem kind_counter {w : Wd} (h : w ∈ counterW v) : w.k = 8 := by
  simp only [counterW, List.mem_map] at h
  obtain ⟨n, -, rfl⟩ := h
  rfl
theorem kind_int {w : Wd} (h : w ∈ intW v) : w.k = 9 := by
  simp only [intW, List.mem_map] at h
  obtain ⟨n, -, rfl⟩ := h
  rfl
theorem kind_real {w : Wd} (h : w ∈ realW tx) : w.k = 10 := by
  simp only [realW, List.mem_map] at h
  obtain ⟨n, -, rfl⟩ := h
  rfl
theorem kind_time {w : Wd} (h : w ∈ timeW v) : w.k = 11 := by
  unfold timeW at h
  split at h
  · simp only [List.mem_singleton] at h; rw [h]
  · cases h
theorem kind_ran {w : Wd} (h : w ∈ ranW v) : w.k = 12 := by
  unfold ranW at h
  split at h
  · simp only [List.mem_singleton] at h; rw [h]
  · cases h
theorem kind_fault {w : Wd} (h : w ∈ faultW v) : w.k = 13 := by
  unfold faultW at h
  split at h
  · simp only [List.mem_singleton] at h; rw [h]
  · cases h

/-- Of one kind just its own words are touched. -/
theorem any_all (k : Nat) (t : Wd → Bool) (ht : ∀ w, w.k ≠ k → t w = false) :
    (allW v tx).any t = if k = 1 then (bitW v 1).any t else if k = 2 then (bitW v 2).any t else if k = 3 then (bitW v 3).any t else if k = 4 then (bitW v 4).any t else if k = 5 then (bitW v 5).any t
      else if k = 7 then (timerW v).any t else if k = 8 then (counterW v).any t else if k = 9 then (intW v).any t else if k = 10 then (realW tx).any t else if k = 11 then (timeW v).any t
      else if k = 12 then (ranW v).any t else if k = 13 then (faultW v).any t else false := by
  have b : ∀ j, j ≠ k → (bitW v j).any t = false := fun j hj => any_none fun w hw => ht w (by rw [kind_bit hw]; exact hj)
  have h7 : 7 ≠ k → (timerW v).any t = false := fun hj => any_none fun w hw => ht w (by rw [kind_timer hw]; exact hj)
  have h8 : 8 ≠ k → (counterW v).any t = false := fun hj => any_none fun w hw => ht w (by rw [kind_counter hw]; exact hj)
  have h9 : 9 ≠ k → (intW v).any t = false := fun hj => any_none fun w hw => ht w (by rw [kind_int hw]; exact hj)
  have h10 : 10 ≠ k → (realW tx).any t = false := fun hj => any_none fun w hw => ht w (by rw [kind_real hw]; exact hj)
  have h11 : 11 ≠ k → (timeW v).any t = false := fun hj => any_none fun w hw => ht w (by rw [kind_time hw]; exact hj)
  have h12 : 12 ≠ k → (ranW v).any t = false := fun hj => any_none fun w hw => ht w (by rw [kind_ran hw]; exact hj)
  have h13 : 13 ≠ k → (faultW v).any t = false := fun hj => any_none fun w hw => ht w (by rw [kind_fault hw]; exact hj)
  unfold allW bitsW
  simp only [List.any_append]
  by_cases c1 : k = 1
  · subst c1; simp [b, h7, h8, h9, h10, h11, h12, h13]
  by_cases c2 : k = 2
  · subst c2; simp [b, h7, h8, h9, h10, h11, h12, h13]
  by_cases c3 : k = 3
  · subst c3; simp [b, h7, h8, h9, h10, h11, h12, h13]
  by_cases c4 : k = 4
  · subst c4; simp [b, h7, h8, h9, h10, h11, h12, h13]
  by_cases c5 : k = 5
  · subst c5; simp [b, h7, h8, h9, h10, h11, h12, h13]
  by_cases c7 : k = 7
  · subst c7; simp [b, h8, h9, h10, h11, h12, h13]
  by_cases c8 : k = 8
  · subst c8; simp [b, h7, h9, h10, h11, h12, h13]
  by_cases c9 : k = 9
  · subst c9; simp [b, h7, h8, h10, h11, h12, h13]
  by_cases c10 : k = 10
  · subst c10; simp [b, h7, h8, h9, h11, h12, h13]
  by_cases c11 : k = 11
  · subst c11; simp [b, h7, h8, h9, h10, h12, h13]
  by_cases c12 : k = 12
  · subst c12; simp [b, h7, h8, h9, h10, h11, h13]
  by_cases c13 : k = 13
  · subst c13; simp [b, h7, h8, h9, h10, h11, h12]
  rw [b 1 (by omega), b 2 (by omega), b 3 (by omega), b 4 (by omega), b 5 (by omega), h7 (by omega), h8 (by omega), h9 (by omega), h10 (by omega), h11 (by omega), h12 (by omega), h13 (by omega)]
  simp [c1, c2, c3, c4, c5, c7, c8, c9, c10, c11, c12, c13]
end

/-- The word of bits of a memory. -/
theorem step_bit {a b : MemV} {w : Wd} {j i : Nat} (hj : j = 1 ∨ j = 2 ∨ j = 3 ∨ j = 4 ∨ j = 5) (hk : w.k = 1 ∨ w.k = 2 ∨ w.k = 3 ∨ w.k = 4 ∨ w.k = 5 ∨ w.k = 7 ∨ w.k = 8 ∨ w.k = 9 ∨ w.k = 10 ∨ w.k = 11 ∨ w.k = 12 ∨ w.k = 13) (h : Step a w b) :
    (decide (w.k = j ∧ w.n = i) = true → (wdN b j).testBit i = true) ∧ (decide (w.k = j ∧ w.n = i) = false → (wdN b j).testBit i = (wdN a j).testBit i) := by
  unfold Step at h
  by_cases h5 : w.k ≤ 5
  · rw [if_pos h5] at h
    subst h
    have e : wdN (orV a w.k w.n) j = if w.k = j then wdN a j ||| 2 ^ w.n else wdN a j := by
      have : w.k = 1 ∨ w.k = 2 ∨ w.k = 3 ∨ w.k = 4 ∨ w.k = 5 := by omega
      rcases this with e | e | e | e | e <;> rw [e] <;> rcases hj with rfl | rfl | rfl | rfl | rfl <;> rfl
    rw [e]
    constructor
    · intro g
      obtain ⟨g1, g2⟩ := of_decide_eq_true g
      rw [if_pos g1, Nat.testBit_or, Nat.testBit_two_pow, g2]
      simp
    · intro g
      have g := of_decide_eq_false g
      split
      · rename_i g1
        rw [Nat.testBit_or, Nat.testBit_two_pow]
        have : ¬ w.n = i := fun e => g ⟨g1, e⟩
        simp [this]
      · rfl
  · rw [if_neg h5] at h
    have e : wdN b j = wdN a j := by
      split at h
      · subst h; rfl
      split at h
      · subst h; rfl
      split at h
      · subst h; rfl
      split at h
      · obtain ⟨x, -, rfl⟩ := h; rfl
      split at h
      · subst h; rfl
      split at h
      · subst h; rfl
      · subst h; rfl
    rw [e]
    refine ⟨fun g => ?_, fun _ => rfl⟩
    have := (of_decide_eq_true g).1
    omega

theorem back_bit {v m : MemV} {tx : Nat → List UInt8} {j : Nat} (hj : j = 1 ∨ j = 2 ∨ j = 3 ∨ j = 4 ∨ j = 5) (hb : wdN v j < 2 ^ szN j) (h : Steps memZ (allW v tx) m) : wdN m j = wdN v j := by
  apply Nat.eq_of_testBit_eq
  intro i
  obtain ⟨s1, s2⟩ := slot (fun m => (wdN m j).testBit i) (fun b => b = true) (fun w => decide (w.k = j ∧ w.n = i)) (allW v tx) memZ m (fun w hw a b hs => step_bit hj (of_all hw).kind hs) h
  have e : (allW v tx).any (fun w => decide (w.k = j ∧ w.n = i)) = (bitW v j).any (fun w => decide (w.k = j ∧ w.n = i)) := by
    rw [any_all j _ (fun w hw => by simp [hw])]
    rcases hj with rfl | rfl | rfl | rfl | rfl <;> rfl
  have z : wdN memZ j = 0 := by rcases hj with rfl | rfl | rfl | rfl | rfl <;> rfl
  by_cases hi : i < szN j
  · have e2 : (bitW v j).any (fun w => decide (w.k = j ∧ w.n = i)) = (wdN v j).testBit i := any_seg i hi (fun n _ => by simp)
    rw [e, e2] at s1 s2
    cases ht : (wdN v j).testBit i with
    | true => exact s1 ht
    | false => rw [s2 ht, z]; simp
  · have e2 : (bitW v j).any (fun w => decide (w.k = j ∧ w.n = i)) = false := by
      refine any_none fun w hw => ?_
      simp only [bitW, List.mem_map, List.mem_filter, List.mem_range] at hw
      obtain ⟨n, ⟨h1, -⟩, rfl⟩ := hw
      simp only [decide_eq_false_iff_not]
      omega
    rw [e, e2] at s2
    rw [s2 rfl, z, Nat.testBit_lt_two_pow (x := wdN v j) (i := i) (Nat.lt_of_lt_of_le hb (Nat.pow_le_pow_right (by omega) (by omega)))]
    simp

end Go.Proofs.YtdhoimjkgicneacDoor

/- The words of a memory's text, read in their order, make the memory. Of no one program. -/
namespace Go.Proofs.YtdhoimjkgicneacDoor
open Go

/-- What a word leaves of each place. -/
theorem step_tim {a b : MemV} {w : Wd} (i : Nat) (h : Step a w b) : (decide (w.k = 7 ∧ w.n = i) = true → (b.tD i, b.tC i) = (w.d, w.c)) ∧ (decide (w.k = 7 ∧ w.n = i) = false → (b.tD i, b.tC i) = (a.tD i, a.tC i)) := by
  unfold Step at h
  split at h
  · subst h
    refine ⟨fun g => ?_, fun _ => ?_⟩
    · have := (of_decide_eq_true g).1; omega
    · unfold orV; repeat' split
      all_goals rfl
  split at h
  · subst h
    refine ⟨fun g => ?_, fun g => ?_⟩
    · have := (of_decide_eq_true g).2
      simp [timV, this]
    · have g := of_decide_eq_false g
      have : ¬ i = w.n := fun e => g ⟨by assumption, e.symm⟩
      simp [timV, this]
  have h7 : ¬ w.k = 7 := by assumption
  refine ⟨fun g => absurd (of_decide_eq_true g).1 h7, fun _ => ?_⟩
  split at h
  · subst h; rfl
  split at h
  · subst h; rfl
  split at h
  · obtain ⟨x, -, rfl⟩ := h; rfl
  split at h
  · subst h; rfl
  split at h
  · subst h; rfl
  · subst h; rfl

theorem step_cnt {a b : MemV} {w : Wd} (i : Nat) (h : Step a w b) : (decide (w.k = 8 ∧ w.n = i) = true → (b.cD i, b.cL i, b.cC i) = (w.d, w.l, w.c)) ∧ (decide (w.k = 8 ∧ w.n = i) = false → (b.cD i, b.cL i, b.cC i) = (a.cD i, a.cL i, a.cC i)) := by
  unfold Step at h
  split at h
  · subst h
    refine ⟨fun g => ?_, fun _ => ?_⟩
    · have := (of_decide_eq_true g).1; omega
    · unfold orV; repeat' split
      all_goals rfl
  split at h
  · subst h
    refine ⟨fun g => ?_, fun _ => rfl⟩
    have := (of_decide_eq_true g).1; omega
  split at h
  · subst h
    refine ⟨fun g => ?_, fun g => ?_⟩
    · have := (of_decide_eq_true g).2
      simp [cntV, this]
    · have g := of_decide_eq_false g
      have : ¬ i = w.n := fun e => g ⟨by assumption, e.symm⟩
      simp [cntV, this]
  have h7 : ¬ w.k = 8 := by assumption
  refine ⟨fun g => absurd (of_decide_eq_true g).1 h7, fun _ => ?_⟩
  split at h
  · subst h; rfl
  split at h
  · obtain ⟨x, -, rfl⟩ := h; rfl
  split at h
  · subst h; rfl
  split at h
  · subst h; rfl
  · subst h; rfl

theorem step_int {a b : MemV} {w : Wd} (i : Nat) (h : Step a w b) : (decide (w.k = 9 ∧ w.n = i) = true → b.d i = w.z) ∧ (decide (w.k = 9 ∧ w.n = i) = false → b.d i = a.d i) := by
  unfold Step at h
  split at h
  · subst h
    refine ⟨fun g => ?_, fun _ => ?_⟩
    · have := (of_decide_eq_true g).1; omega
    · unfold orV; repeat' split
      all_goals rfl
  split at h
  · subst h
    refine ⟨fun g => ?_, fun _ => rfl⟩
    have := (of_decide_eq_true g).1; omega
  split at h
  · subst h
    refine ⟨fun g => ?_, fun _ => rfl⟩
    have := (of_decide_eq_true g).1; omega
  split at h
  · subst h
    refine ⟨fun g => ?_, fun g => ?_⟩
    · have := (of_decide_eq_true g).2
      simp [intV, this]
    · have g := of_decide_eq_false g
      have : ¬ i = w.n := fun e => g ⟨by assumption, e.symm⟩
      simp [intV, this]
  have h7 : ¬ w.k = 9 := by assumption
  refine ⟨fun g => absurd (of_decide_eq_true g).1 h7, fun _ => ?_⟩
  split at h
  · obtain ⟨x, -, rfl⟩ := h; rfl
  split at h
  · subst h; rfl
  split at h
  · subst h; rfl
  · subst h; rfl

theorem step_rea {a b : MemV} {w : Wd} (i : Nat) (h : Step a w b) : (decide (w.k = 10 ∧ w.n = i) = true → Txt (b.r i) w.t) ∧ (decide (w.k = 10 ∧ w.n = i) = false → b.r i = a.r i) := by
  unfold Step at h
  split at h
  · subst h
    refine ⟨fun g => ?_, fun _ => ?_⟩
    · have := (of_decide_eq_true g).1; omega
    · unfold orV; repeat' split
      all_goals rfl
  split at h
  · subst h
    refine ⟨fun g => ?_, fun _ => rfl⟩
    have := (of_decide_eq_true g).1; omega
  split at h
  · subst h
    refine ⟨fun g => ?_, fun _ => rfl⟩
    have := (of_decide_eq_true g).1; omega
  split at h
  · subst h
    refine ⟨fun g => ?_, fun _ => rfl⟩
    have := (of_decide_eq_true g).1; omega
  split at h
  · obtain ⟨x, hx, rfl⟩ := h
    refine ⟨fun g => ?_, fun g => ?_⟩
    · have := (of_decide_eq_true g).2
      simp [reaV, this, hx]
    · have g := of_decide_eq_false g
      have : ¬ i = w.n := fun e => g ⟨by assumption, e.symm⟩
      simp [reaV, this]
  have h7 : ¬ w.k = 10 := by assumption
  refine ⟨fun g => absurd (of_decide_eq_true g).1 h7, fun _ => ?_⟩
  split at h
  · subst h; rfl
  split at h
  · subst h; rfl
  · subst h; rfl

theorem step_time {a b : MemV} {w : Wd} (h : Step a w b) : (decide (w.k = 11) = true → b.time = w.c) ∧ (decide (w.k = 11) = false → b.time = a.time) := by
  unfold Step at h
  split at h
  · subst h
    refine ⟨fun g => ?_, fun _ => ?_⟩
    · have := of_decide_eq_true g; omega
    · unfold orV; repeat' split
      all_goals rfl
  split at h
  · subst h; exact ⟨fun g => by have := of_decide_eq_true g; omega, fun _ => rfl⟩
  split at h
  · subst h; exact ⟨fun g => by have := of_decide_eq_true g; omega, fun _ => rfl⟩
  split at h
  · subst h; exact ⟨fun g => by have := of_decide_eq_true g; omega, fun _ => rfl⟩
  split at h
  · obtain ⟨x, -, rfl⟩ := h; exact ⟨fun g => by have := of_decide_eq_true g; omega, fun _ => rfl⟩
  split at h
  · subst h; exact ⟨fun _ => rfl, fun g => absurd (by assumption) (of_decide_eq_false g)⟩
  have h7 : ¬ w.k = 11 := by assumption
  refine ⟨fun g => absurd (of_decide_eq_true g) h7, fun _ => ?_⟩
  split at h
  · subst h; rfl
  · subst h; rfl

theorem step_ran {a b : MemV} {w : Wd} (h : Step a w b) : (decide (w.k = 12) = true → b.ran = true) ∧ (decide (w.k = 12) = false → b.ran = a.ran) := by
  unfold Step at h
  split at h
  · subst h
    refine ⟨fun g => ?_, fun _ => ?_⟩
    · have := of_decide_eq_true g; omega
    · unfold orV; repeat' split
      all_goals rfl
  split at h
  · subst h; exact ⟨fun g => by have := of_decide_eq_true g; omega, fun _ => rfl⟩
  split at h
  · subst h; exact ⟨fun g => by have := of_decide_eq_true g; omega, fun _ => rfl⟩
  split at h
  · subst h; exact ⟨fun g => by have := of_decide_eq_true g; omega, fun _ => rfl⟩
  split at h
  · obtain ⟨x, -, rfl⟩ := h; exact ⟨fun g => by have := of_decide_eq_true g; omega, fun _ => rfl⟩
  split at h
  · subst h; exact ⟨fun g => by have := of_decide_eq_true g; omega, fun _ => rfl⟩
  split at h
  · subst h; exact ⟨fun _ => rfl, fun g => absurd (by assumption) (of_decide_eq_false g)⟩
  have h7 : ¬ w.k = 12 := by assumption
  subst h
  exact ⟨fun g => absurd (of_decide_eq_true g) h7, fun _ => rfl⟩

theorem step_fault {a b : MemV} {w : Wd} (hk : w.k ≤ 13) (h6 : w.k ≠ 6) (h : Step a w b) : (decide (w.k = 13) = true → b.fault = true) ∧ (decide (w.k = 13) = false → b.fault = a.fault) := by
  unfold Step at h
  split at h
  · subst h
    refine ⟨fun g => ?_, fun _ => ?_⟩
    · have := of_decide_eq_true g; omega
    · unfold orV; repeat' split
      all_goals rfl
  split at h
  · subst h; exact ⟨fun g => by have := of_decide_eq_true g; omega, fun _ => rfl⟩
  split at h
  · subst h; exact ⟨fun g => by have := of_decide_eq_true g; omega, fun _ => rfl⟩
  split at h
  · subst h; exact ⟨fun g => by have := of_decide_eq_true g; omega, fun _ => rfl⟩
  split at h
  · obtain ⟨x, -, rfl⟩ := h; exact ⟨fun g => by have := of_decide_eq_true g; omega, fun _ => rfl⟩
  split at h
  · subst h; exact ⟨fun g => by have := of_decide_eq_true g; omega, fun _ => rfl⟩
  split at h
  · subst h; exact ⟨fun g => by have := of_decide_eq_true g; omega, fun _ => rfl⟩
  have h7 : w.k = 13 := by omega
  subst h
  exact ⟨fun _ => rfl, fun g => absurd h7 (of_decide_eq_false g)⟩

theorem zero_num0 : Num 0 false 0 0 := ⟨by decide +kernel, by decide, by decide, Or.inl rfl⟩
theorem zero_txt {x : Nat} (h : Txt x [48]) : Same 0 x := txt_same (x := 0) (Or.inr (Or.inr (Or.inl ⟨false, 0, zero_num0, rfl⟩))) h

theorem back {v m : MemV} {tx : Nat → List UInt8} (hv : v.Ok) (ht : ∀ i, i < 16 → Txt (v.r i) (tx i)) (h : Steps memZ (allW v tx) m) : SameM m v := by
  have tim : ∀ i, i < 16 → (m.tD i, m.tC i) = (v.tD i, v.tC i) := by
    intro i hi
    obtain ⟨s1, s2⟩ := slot (fun m => (m.tD i, m.tC i)) (fun p => p = (v.tD i, v.tC i)) (fun w => decide (w.k = 7 ∧ w.n = i)) (allW v tx) memZ m
      (fun w hw a b hs => ⟨fun g => by
        obtain ⟨g1, g2⟩ := of_decide_eq_true g
        obtain ⟨-, e1, e2, -⟩ := (of_all hw).timer g1
        rw [(step_tim i hs).1 g, e1, e2, g2], (step_tim i hs).2⟩) h
    have e : (allW v tx).any (fun w => decide (w.k = 7 ∧ w.n = i)) = (v.tD i || v.tC i != 0) := by
      rw [any_all 7 _ (fun w hw => by simp [hw])]
      exact any_seg i hi (fun n _ => by simp)
    rw [e] at s1 s2
    cases hc : (v.tD i || v.tC i != 0) with
    | true => exact s1 hc
    | false =>
      rw [s2 hc]
      simp at hc
      simp [memZ, hc]
  have cnt : ∀ i, i < 16 → (m.cD i, m.cL i, m.cC i) = (v.cD i, v.cL i, v.cC i) := by
    intro i hi
    obtain ⟨s1, s2⟩ := slot (fun m => (m.cD i, m.cL i, m.cC i)) (fun p => p = (v.cD i, v.cL i, v.cC i)) (fun w => decide (w.k = 8 ∧ w.n = i)) (allW v tx) memZ m
      (fun w hw a b hs => ⟨fun g => by
        obtain ⟨g1, g2⟩ := of_decide_eq_true g
        obtain ⟨-, e1, e2, e3, -⟩ := (of_all hw).counter g1
        rw [(step_cnt i hs).1 g, e1, e2, e3, g2], (step_cnt i hs).2⟩) h
    have e : (allW v tx).any (fun w => decide (w.k = 8 ∧ w.n = i)) = (v.cD i || (v.cL i || v.cC i != 0)) := by
      rw [any_all 8 _ (fun w hw => by simp [hw])]
      exact any_seg i hi (fun n _ => by simp)
    rw [e] at s1 s2
    cases hc : (v.cD i || (v.cL i || v.cC i != 0)) with
    | true => exact s1 hc
    | false =>
      rw [s2 hc]
      simp at hc
      simp [memZ, hc]
  have int : ∀ i, i < 32 → m.d i = v.d i := by
    intro i hi
    obtain ⟨s1, s2⟩ := slot (fun m => m.d i) (fun p => p = v.d i) (fun w => decide (w.k = 9 ∧ w.n = i)) (allW v tx) memZ m
      (fun w hw a b hs => ⟨fun g => by
        obtain ⟨g1, g2⟩ := of_decide_eq_true g
        obtain ⟨-, e1, -⟩ := (of_all hw).int g1
        rw [(step_int i hs).1 g, e1, g2], (step_int i hs).2⟩) h
    have e : (allW v tx).any (fun w => decide (w.k = 9 ∧ w.n = i)) = (v.d i != 0) := by
      rw [any_all 9 _ (fun w hw => by simp [hw])]
      exact any_seg i hi (fun n _ => by simp)
    rw [e] at s1 s2
    cases hc : (v.d i != 0) with
    | true => exact s1 hc
    | false =>
      rw [s2 hc]
      simp at hc
      simp [memZ, hc]
  have rea : ∀ i, i < 16 → Same (m.r i) (v.r i) := by
    intro i hi
    obtain ⟨s1, s2⟩ := slot (fun m => m.r i) (fun p => Txt p (tx i)) (fun w => decide (w.k = 10 ∧ w.n = i)) (allW v tx) memZ m
      (fun w hw a b hs => ⟨fun g => by
        obtain ⟨g1, g2⟩ := of_decide_eq_true g
        obtain ⟨-, e1, -⟩ := (of_all hw).real g1
        have := (step_rea i hs).1 g
        rwa [e1, g2] at this, (step_rea i hs).2⟩) h
    have e : (allW v tx).any (fun w => decide (w.k = 10 ∧ w.n = i)) = (tx i != [48]) := by
      rw [any_all 10 _ (fun w hw => by simp [hw])]
      exact any_seg i hi (fun n _ => by simp)
    rw [e] at s1 s2
    cases hc : (tx i != [48]) with
    | true => exact txt_same (s1 hc) (ht i hi)
    | false =>
      have g : m.r i = 0 := s2 hc
      have hx := ht i hi
      have : tx i = [48] := by simpa using hc
      rw [this] at hx
      rw [g]
      exact zero_txt hx
  have tm : m.time = v.time := by
    obtain ⟨s1, s2⟩ := slot (fun m => m.time) (fun p => p = v.time) (fun w => decide (w.k = 11)) (allW v tx) memZ m
      (fun w hw a b hs => ⟨fun g => by rw [(step_time hs).1 g, ((of_all hw).time (of_decide_eq_true g)).1], (step_time hs).2⟩) h
    have e : (allW v tx).any (fun w => decide (w.k = 11)) = (v.time != 0) := by
      rw [any_all 11 _ (fun w hw => by simp [hw])]
      show (timeW v).any _ = _
      unfold timeW
      split <;> simp_all
    rw [e] at s1 s2
    cases hc : (v.time != 0) with
    | true => exact s1 hc
    | false =>
      have g : m.time = 0 := s2 hc
      simp at hc
      rw [g, hc]
  have rn : m.ran = v.ran := by
    obtain ⟨s1, s2⟩ := slot (fun m => m.ran) (fun p => p = true) (fun w => decide (w.k = 12)) (allW v tx) memZ m (fun w hw a b hs => step_ran hs) h
    have e : (allW v tx).any (fun w => decide (w.k = 12)) = v.ran := by
      rw [any_all 12 _ (fun w hw => by simp [hw])]
      show (ranW v).any _ = _
      unfold ranW
      split <;> simp_all
    rw [e] at s1 s2
    cases hc : v.ran with
    | true => exact s1 hc
    | false => exact s2 hc
  have ft : m.fault = v.fault := by
    obtain ⟨s1, s2⟩ := slot (fun m => m.fault) (fun p => p = true) (fun w => decide (w.k = 13)) (allW v tx) memZ m (fun w hw a b hs => step_fault (by have := (of_all hw).kind; omega) (by have := (of_all hw).kind; omega) hs) h
    have e : (allW v tx).any (fun w => decide (w.k = 13)) = v.fault := by
      rw [any_all 13 _ (fun w hw => by simp [hw])]
      show (faultW v).any _ = _
      unfold faultW
      split <;> simp_all
    rw [e] at s1 s2
    cases hc : v.fault with
    | true => exact s1 hc
    | false => exact s2 hc
  exact ⟨back_bit (j := 1) (by omega) hv.x h, back_bit (j := 2) (by omega) hv.y h, back_bit (j := 3) (by omega) hv.m h, back_bit (j := 4) (by omega) hv.s h, back_bit (j := 5) (by omega) hv.e h,
    fun i hi => congrArg Prod.fst (tim i hi), fun i hi => congrArg Prod.snd (tim i hi), fun i hi => congrArg Prod.fst (cnt i hi), fun i hi => congrArg (·.2.1) (cnt i hi), fun i hi => congrArg (·.2.2) (cnt i hi),
    int, rea, tm, rn, ft⟩

end Go.Proofs.YtdhoimjkgicneacDoor
