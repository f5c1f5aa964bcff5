/- What words make of a memory; read in their order they make the memory of whose text they are. Of no one program. -/
import Derived.Test.YtdhoimjkgicneabMtA
namespace Go.Proofs.Ytdhoimjkgicneab
open Go

/-- Nothing. -/
def memZ : MemV := ⟨0, 0, 0, 0, 0, fun _ => false, fun _ => 0, fun _ => false, fun _ => false, fun _ => 0, fun _ => 0, fun _ => 0, 0, false, false⟩

def orV (m : MemV) (k n : Nat) : MemV :=
  if k = 1 then { m with x := m.x ||| 2 ^ n } else if k = 2 then { m with y := m.y ||| 2 ^ n } else if k = 3 then { m with m := m.m ||| 2 ^ n }
  else if k = 4 then { m with s := m.s ||| 2 ^ n } else if k = 5 then { m with e := m.e ||| 2 ^ n } else m
def timV (m : MemV) (n c : Nat) (d : Bool) : MemV := { m with tD := fun i => if i = n then d else m.tD i, tC := fun i => if i = n then c else m.tC i }
def cntV (m : MemV) (n c : Nat) (d l : Bool) : MemV := { m with cD := fun i => if i = n then d else m.cD i, cL := fun i => if i = n then l else m.cL i, cC := fun i => if i = n then c else m.cC i }
def intV (m : MemV) (n : Nat) (z : Int) : MemV := { m with d := fun i => if i = n then z else m.d i }
def reaV (m : MemV) (n x : Nat) : MemV := { m with r := fun i => if i = n then x else m.r i }

/-- What one word makes of a memory. -/
def Step (m : MemV) (w : Wd) (m' : MemV) : Prop :=
  if w.k ≤ 5 then m' = orV m w.k w.n
  else if w.k = 7 then m' = timV m w.n w.c w.d
  else if w.k = 8 then m' = cntV m w.n w.c w.d w.l
  else if w.k = 9 then m' = intV m w.n w.z
  else if w.k = 10 then ∃ x, Txt x w.t ∧ m' = reaV m w.n x
  else if w.k = 11 then m' = { m with time := w.c }
  else if w.k = 12 then m' = { m with ran := true }
  else m' = { m with fault := true }

def Steps : MemV → List Wd → MemV → Prop
  | m, [], m' => m' = m
  | m, w :: L, m' => ∃ m1, Step m w m1 ∧ Steps m1 L m'

theorem Steps.snoc : ∀ {L : List Wd} {m m1 m2 : MemV} {w : Wd}, Steps m L m1 → Step m1 w m2 → Steps m (L ++ [w]) m2
  | [], _, _, m2, _, h, g => ⟨m2, by cases h; exact g, rfl⟩
  | _ :: L, _, _, _, _, ⟨a, ha, h⟩, g => ⟨a, ha, Steps.snoc (L := L) h g⟩

/-- A place that just some words touch. -/
theorem slot {α : Type} (get : MemV → α) (P : α → Prop) (touch : Wd → Bool) : ∀ (L : List Wd) (m m' : MemV),
    (∀ w, w ∈ L → ∀ a b, Step a w b → (touch w = true → P (get b)) ∧ (touch w = false → get b = get a)) → Steps m L m' → (L.any touch = true → P (get m')) ∧ (L.any touch = false → get m' = get m)
  | [], m, m', _, h => by cases h; exact ⟨fun h => by simp at h, fun _ => rfl⟩
  | w :: L, m, m', hs, ⟨m1, h1, h2⟩ => by
    obtain ⟨i1, i2⟩ := slot get P touch L m1 m' (fun w hw => hs w (by simp [hw])) h2
    obtain ⟨s1, s2⟩ := hs w (by simp) m m1 h1
    refine ⟨fun h => ?_, fun h => ?_⟩
    · cases hL : L.any touch with
      | true => exact i1 hL
      | false =>
        rw [i2 hL]
        refine s1 ?_
        simpa [hL] using h
    · simp only [List.any_cons, Bool.or_eq_false_iff] at h
      rw [i2 h.2, s2 h.1]

theorem any_seg {n : Nat} {p : Nat → Bool} {f : Nat → Wd} {t : Wd → Bool} (i : Nat) (hi : i < n) (h : ∀ j, j < n → t (f j) = decide (j = i)) : (((List.range n).filter p).map f).any t = p i := by
  rw [Bool.eq_iff_iff]
  simp only [List.any_map, List.any_filter, List.any_eq_true, List.mem_range, Function.comp_apply, Bool.and_eq_true]
  constructor
  · rintro ⟨j, hj, h1, h2⟩
    rw [h j hj] at h2
    have : j = i := by simpa using h2
    rwa [this] at h1
  · intro hp
    exact ⟨i, hi, hp, by rw [h i hi]; simp⟩
theorem any_none {L : List Wd} {t : Wd → Bool} (h : ∀ w, w ∈ L → t w = false) : L.any t = false := by
  rw [Bool.eq_false_iff]
  intro g
  obtain ⟨w, hw, ht⟩ := List.any_eq_true.1 g
  rw [h w hw] at ht
  cases ht

section
variable {v : MemV} {tx : Nat → List UInt8}
theorem kind_bit {k : Nat} {w : Wd} (h : w ∈ bitW v k) : w.k = k := by
  simp only [bitW, List.mem_map] at h
  obtain ⟨n, -, rfl⟩ := h
  rfl
theorem kind_timer {w : Wd} (h : w ∈ timerW v) : w.k = 7 := by
  simp only [timerW, List.mem_map] at h
  obtain ⟨n, -, rfl⟩ := h
  rfl
theorem kind_counter {w : Wd} (h : w ∈ counterW v) : w.k = 8 := by
  simp only [counterW, List.mem_map] at h
  obtain ⟨n, -, rfl⟩ := h
  rfl
theorem kind_int {w : Wd} (h : w ∈ intW v) : w.k = 9 := by
  simp only [intW, List.mem_map] at h
  obtain ⟨n, -, rfl⟩ := h
  rfl
theorem kind_real {w : Wd} (h : w ∈ realW tx) : w.k = 10 := by
  simp only [realW, List.mem_map] at h
  obtain ⟨n, -, rfl⟩ := h
  rfl
theorem kind_time {w : Wd} (h : w ∈ timeW v) : w.k = 11 := by
  unfold timeW at h
  split at h
  · simp only [List.mem_singleton] at h; rw [h]
  · cases h
theorem kind_ran {w : Wd} (h : w ∈ ranW v) : w.k = 12 := by
  unfold ranW at h
  split at h
  · simp only [List.mem_singleton] at h; rw [h]
  · cases h
theorem kind_fault {w : Wd} (h : w ∈ faultW v) : w.k = 13 := by
  unfold faultW at h
  split at h
  · simp only [List.mem_singleton] at h; rw [h]
  · cases h

/-- Of one kind just its own words are touched. -/
theorem any_all (k : Nat) (t : Wd → Bool) (ht : ∀ w, w.k ≠ k → t w = false) :
    (allW v tx).any t = if k = 1 then (bitW v 1).any t else if k = 2 then (bitW v 2).any t else if k = 3 then (bitW v 3).any t else if k = 4 then (bitW v 4).any t else if k = 5 then (bitW v 5).any t
      else if k = 7 then (timerW v).any t else if k = 8 then (counterW v).any t else if k = 9 then (intW v).any t else if k = 10 then (realW tx).any t else if k = 11 then (timeW v).any t
      else if k = 12 then (ranW v).any t else if k = 13 then (faultW v).any t else false := by
  have b : ∀ j, j ≠ k → (bitW v j).any t = false := fun j hj => any_none fun w hw => ht w (by rw [kind_bit hw]; exact hj)
  have h7 : 7 ≠ k → (timerW v).any t = false := fun hj => any_none fun w hw => ht w (by rw [kind_timer hw]; exact hj)
  have h8 : 8 ≠ k → (counterW v).any t = false := fun hj => any_none fun w hw => ht w (by rw [kind_counter hw]; exact hj)
  have h9 : 9 ≠ k → (intW v).any t = false := fun hj => any_none fun w hw => ht w (by rw [kind_int hw]; exact hj)
  have h10 : 10 ≠ k → (realW tx).any t = false := fun hj => any_none fun w hw => ht w (by rw [kind_real hw]; exact hj)
  have h11 : 11 ≠ k → (timeW v).any t = false := fun hj => any_none fun w hw => ht w (by rw [kind_time hw]; exact hj)
  have h12 : 12 ≠ k → (ranW v).any t = false := fun hj => any_none fun w hw => ht w (by rw [kind_ran hw]; exact hj)
  have h13 : 13 ≠ k → (faultW v).any t = false := fun hj => any_none fun w hw => ht w (by rw [kind_fault hw]; exact hj)
  unfold allW bitsW
  simp only [List.any_append]
  by_cases c1 : k = 1
  · subst c1; simp [b, h7, h8, h9, h10, h11, h12, h13]
  by_cases c2 : k = 2
  · subst c2; simp [b, h7, h8, h9, h10, h11, h12, h13]
  by_cases c3 : k = 3
  · subst c3; simp [b, h7, h8, h9, h10, h11, h12, h13]
  by_cases c4 : k = 4
  · subst c4; simp [b, h7, h8, h9, h10, h11, h12, h13]
  by_cases c5 : k = 5
  · subst c5; simp [b, h7, h8, h9, h10, h11, h12, h13]
  by_cases c7 : k = 7
  · subst c7; simp [b, h8, h9, h10, h11, h12, h13]
  by_cases c8 : k = 8
  · subst c8; simp [b, h7, h9, h10, h11, h12, h13]
  by_cases c9 : k = 9
  · subst c9; simp [b, h7, h8, h10, h11, h12, h13]
  by_cases c10 : k = 10
  · subst c10; simp [b, h7, h8, h9, h11, h12, h13]
  by_cases c11 : k = 11
  · subst c11; simp [b, h7, h8, h9, h10, h12, h13]
  by_cases c12 : k = 12
  · subst c12; simp [b, h7, h8, h9, h10, h11, h13]
  by_cases c13 : k = 13
  · subst c13; simp [b, h7, h8, h9, h10, h11, h12]
  rw [b 1 (by omega), b 2 (by omega), b 3 (by omega), b 4 (by omega), b 5 (by omega), h7 (by omega), h8 (by omega), h9 (by omega), h10 (by omega), h11 (by omega), h12 (by omega), h13 (by omega)]
  simp [c1, c2, c3, c4, c5, c7, c8, c9, c10, c11, c12, c13]
end

/-- The word of bits of a memory. -/
theorem step_bit {a b : MemV} {w : Wd} {j i : Nat} (hj : j = 1 ∨ j = 2 ∨ j = 3 ∨ j = 4 ∨ j = 5) (hk : w.k = 1 ∨ w.k = 2 ∨ w.k = 3 ∨ w.k = 4 ∨ w.k = 5 ∨ w.k = 7 ∨ w.k = 8 ∨ w.k = 9 ∨ w.k = 10 ∨ w.k = 11 ∨ w.k = 12 ∨ w.k = 13) (h : Step a w b) :
    (decide (w.k = j ∧ w.n = i) = true → (wdN b j).testBit i = true) ∧ (decide (w.k = j ∧ w.n = i) = false → (wdN b j).testBit i = (wdN a j).testBit i) := by
  unfold Step at h
  by_cases h5 : w.k ≤ 5
  · rw [if_pos h5] at h
    subst h
    have e : wdN (orV a w.k w.n) j = if w.k = j then wdN a j ||| 2 ^ w.n else wdN a j := by
      have : w.k = 1 ∨ w.k = 2 ∨ w.k = 3 ∨ w.k = 4 ∨ w.k = 5 := by omega
      rcases this with e | e | e | e | e <;> rw [e] <;> rcases hj with rfl | rfl | rfl | rfl | rfl <;> rfl
    rw [e]
    constructor
    · intro g
      obtain ⟨g1, g2⟩ := of_decide_eq_true g
      rw [if_pos g1, Nat.testBit_or, Nat.testBit_two_pow, g2]
      simp
    · intro g
      have g := of_decide_eq_false g
      split
      · rename_i g1
        rw [Nat.testBit_or, Nat.testBit_two_pow]
        have : ¬ w.n = i := fun e => g ⟨g1, e⟩
        simp [this]
      · rfl
  · rw [if_neg h5] at h
    have e : wdN b j = wdN a j := by
      split at h
      · subst h; rfl
      split at h
      · subst h; rfl
      split at h
      · subst h; rfl
      split at h
      · obtain ⟨x, -, rfl⟩ := h; rfl
      split at h
      · subst h; rfl
      split at h
      · subst h; rfl
      · subst h; rfl
    rw [e]
    refine ⟨fun g => ?_, fun _ => rfl⟩
    have := (of_decide_eq_true g).1
    omega

theorem back_bit {v m : MemV} {tx : Nat → List UInt8} {j : Nat} (hj : j = 1 ∨ j = 2 ∨ j = 3 ∨ j = 4 ∨ j = 5) (hb : wdN v j < 2 ^ szN j) (h : Steps memZ (allW v tx) m) : wdN m j = wdN v j := by
  apply Nat.eq_of_testBit_eq
  intro i
  obtain ⟨s1, s2⟩ := slot (fun m => (wdN m j).testBit i) (fun b => b = true) (fun w => decide (w.k = j ∧ w.n = i)) (allW v tx) memZ m (fun w hw a b hs => step_bit hj (of_all hw).kind hs) h
  have e : (allW v tx).any (fun w => decide (w.k = j ∧ w.n = i)) = (bitW v j).any (fun w => decide (w.k = j ∧ w.n = i)) := by
    rw [any_all j _ (fun w hw => by simp [hw])]
    rcases hj with rfl | rfl | rfl | rfl | rfl <;> rfl
  have z : wdN memZ j = 0 := by rcases hj with rfl | rfl | rfl | rfl | rfl <;> rfl
  by_cases hi : i < szN j
  · have e2 : (bitW v j).any (fun w => decide (w.k = j ∧ w.n = i)) = (wdN v j).testBit i := any_seg i hi (fun n _ => by simp)
    rw [e, e2] at s1 s2
    cases ht : (wdN v j).testBit i with
    | true => exact s1 ht
    | false => rw [s2 ht, z]; simp
  · have e2 : (bitW v j).any (fun w => decide (w.k = j ∧ w.n = i)) = false := by
      refine any_none fun w hw => ?_
      simp only [bitW, List.mem_map, List.mem_filter, List.mem_range] at hw
      obtain ⟨n, ⟨h1, -⟩, rfl⟩ := hw
      simp only [decide_eq_false_iff_not]
      omega
    rw [e, e2] at s2
    rw [s2 rfl, z, Nat.testBit_lt_two_pow (x := wdN v j) (i := i) (Nat.lt_of_lt_of_le hb (Nat.pow_le_pow_right (by omega) (by omega)))]
    simp

end Go.Proofs.Ytdhoimjkgicneab
