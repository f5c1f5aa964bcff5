/- The words of a memory's text, read in their order, make the memory. Of no one program. -/
import Derived.Test.YtdhoimjkgicneabMtB
namespace Go.Proofs.Ytdhoimjkgicneab
open Go

/-- What a word leaves of each place. -/
theorem step_tim {a b : MemV} {w : Wd} (i : Nat) (h : Step a w b) : (decide (w.k = 7 ∧ w.n = i) = true → (b.tD i, b.tC i) = (w.d, w.c)) ∧ (decide (w.k = 7 ∧ w.n = i) = false → (b.tD i, b.tC i) = (a.tD i, a.tC i)) := by
  unfold Step at h
  split at h
  · subst h
    refine ⟨fun g => ?_, fun _ => ?_⟩
    · have := (of_decide_eq_true g).1; omega
    · unfold orV; repeat' split
      all_goals rfl
  split at h
  · subst h
    refine ⟨fun g => ?_, fun g => ?_⟩
    · have := (of_decide_eq_true g).2
      simp [timV, this]
    · have g := of_decide_eq_false g
      have : ¬ i = w.n := fun e => g ⟨by assumption, e.symm⟩
      simp [timV, this]
  have h7 : ¬ w.k = 7 := by assumption
  refine ⟨fun g => absurd (of_decide_eq_true g).1 h7, fun _ => ?_⟩
  split at h
  · subst h; rfl
  split at h
  · subst h; rfl
  split at h
  · obtain ⟨x, -, rfl⟩ := h; rfl
  split at h
  · subst h; rfl
  split at h
  · subst h; rfl
  · subst h; rfl

theorem step_cnt {a b : MemV} {w : Wd} (i : Nat) (h : Step a w b) : (decide (w.k = 8 ∧ w.n = i) = true → (b.cD i, b.cL i, b.cC i) = (w.d, w.l, w.c)) ∧ (decide (w.k = 8 ∧ w.n = i) = false → (b.cD i, b.cL i, b.cC i) = (a.cD i, a.cL i, a.cC i)) := by
  unfold Step at h
  split at h
  · subst h
    refine ⟨fun g => ?_, fun _ => ?_⟩
    · have := (of_decide_eq_true g).1; omega
    · unfold orV; repeat' split
      all_goals rfl
  split at h
  · subst h
    refine ⟨fun g => ?_, fun _ => rfl⟩
    have := (of_decide_eq_true g).1; omega
  split at h
  · subst h
    refine ⟨fun g => ?_, fun g => ?_⟩
    · have := (of_decide_eq_true g).2
      simp [cntV, this]
    · have g := of_decide_eq_false g
      have : ¬ i = w.n := fun e => g ⟨by assumption, e.symm⟩
      simp [cntV, this]
  have h7 : ¬ w.k = 8 := by assumption
  refine ⟨fun g => absurd (of_decide_eq_true g).1 h7, fun _ => ?_⟩
  split at h
  · subst h; rfl
  split at h
  · obtain ⟨x, -, rfl⟩ := h; rfl
  split at h
  · subst h; rfl
  split at h
  · subst h; rfl
  · subst h; rfl

theorem step_int {a b : MemV} {w : Wd} (i : Nat) (h : Step a w b) : (decide (w.k = 9 ∧ w.n = i) = true → b.d i = w.z) ∧ (decide (w.k = 9 ∧ w.n = i) = false → b.d i = a.d i) := by
  unfold Step at h
  split at h
  · subst h
    refine ⟨fun g => ?_, fun _ => ?_⟩
    · have := (of_decide_eq_true g).1; omega
    · unfold orV; repeat' split
      all_goals rfl
  split at h
  · subst h
    refine ⟨fun g => ?_, fun _ => rfl⟩
    have := (of_decide_eq_true g).1; omega
  split at h
  · subst h
    refine ⟨fun g => ?_, fun _ => rfl⟩
    have := (of_decide_eq_true g).1; omega
  split at h
  · subst h
    refine ⟨fun g => ?_, fun g => ?_⟩
    · have := (of_decide_eq_true g).2
      simp [intV, this]
    · have g := of_decide_eq_false g
      have : ¬ i = w.n := fun e => g ⟨by assumption, e.symm⟩
      simp [intV, this]
  have h7 : ¬ w.k = 9 := by assumption
  refine ⟨fun g => absurd (of_decide_eq_true g).1 h7, fun _ => ?_⟩
  split at h
  · obtain ⟨x, -, rfl⟩ := h; rfl
  split at h
  · subst h; rfl
  split at h
  · subst h; rfl
  · subst h; rfl

theorem step_rea {a b : MemV} {w : Wd} (i : Nat) (h : Step a w b) : (decide (w.k = 10 ∧ w.n = i) = true → Txt (b.r i) w.t) ∧ (decide (w.k = 10 ∧ w.n = i) = false → b.r i = a.r i) := by
  unfold Step at h
  split at h
  · subst h
    refine ⟨fun g => ?_, fun _ => ?_⟩
    · have := (of_decide_eq_true g).1; omega
    · unfold orV; repeat' split
      all_goals rfl
  split at h
  · subst h
    refine ⟨fun g => ?_, fun _ => rfl⟩
    have := (of_decide_eq_true g).1; omega
  split at h
  · subst h
    refine ⟨fun g => ?_, fun _ => rfl⟩
    have := (of_decide_eq_true g).1; omega
  split at h
  · subst h
    refine ⟨fun g => ?_, fun _ => rfl⟩
    have := (of_decide_eq_true g).1; omega
  split at h
  · obtain ⟨x, hx, rfl⟩ := h
    refine ⟨fun g => ?_, fun g => ?_⟩
    · have := (of_decide_eq_true g).2
      simp [reaV, this, hx]
    · have g := of_decide_eq_false g
      have : ¬ i = w.n := fun e => g ⟨by assumption, e.symm⟩
      simp [reaV, this]
  have h7 : ¬ w.k = 10 := by assumption
  refine ⟨fun g => absurd (of_decide_eq_true g).1 h7, fun _ => ?_⟩
  split at h
  · subst h; rfl
  split at h
  · subst h; rfl
  · subst h; rfl

theorem step_time {a b : MemV} {w : Wd} (h : Step a w b) : (decide (w.k = 11) = true → b.time = w.c) ∧ (decide (w.k = 11) = false → b.time = a.time) := by
  unfold Step at h
  split at h
  · subst h
    refine ⟨fun g => ?_, fun _ => ?_⟩
    · have := of_decide_eq_true g; omega
    · unfold orV; repeat' split
      all_goals rfl
  split at h
  · subst h; exact ⟨fun g => by have := of_decide_eq_true g; omega, fun _ => rfl⟩
  split at h
  · subst h; exact ⟨fun g => by have := of_decide_eq_true g; omega, fun _ => rfl⟩
  split at h
  · subst h; exact ⟨fun g => by have := of_decide_eq_true g; omega, fun _ => rfl⟩
  split at h
  · obtain ⟨x, -, rfl⟩ := h; exact ⟨fun g => by have := of_decide_eq_true g; omega, fun _ => rfl⟩
  split at h
  · subst h; exact ⟨fun _ => rfl, fun g => absurd (by assumption) (of_decide_eq_false g)⟩
  have h7 : ¬ w.k = 11 := by assumption
  refine ⟨fun g => absurd (of_decide_eq_true g) h7, fun _ => ?_⟩
  split at h
  · subst h; rfl
  · subst h; rfl

theorem step_ran {a b : MemV} {w : Wd} (h : Step a w b) : (decide (w.k = 12) = true → b.ran = true) ∧ (decide (w.k = 12) = false → b.ran = a.ran) := by
  unfold Step at h
  split at h
  · subst h
    refine ⟨fun g => ?_, fun _ => ?_⟩
    · have := of_decide_eq_true g; omega
    · unfold orV; repeat' split
      all_goals rfl
  split at h
  · subst h; exact ⟨fun g => by have := of_decide_eq_true g; omega, fun _ => rfl⟩
  split at h
  · subst h; exact ⟨fun g => by have := of_decide_eq_true g; omega, fun _ => rfl⟩
  split at h
  · subst h; exact ⟨fun g => by have := of_decide_eq_true g; omega, fun _ => rfl⟩
  split at h
  · obtain ⟨x, -, rfl⟩ := h; exact ⟨fun g => by have := of_decide_eq_true g; omega, fun _ => rfl⟩
  split at h
  · subst h; exact ⟨fun g => by have := of_decide_eq_true g; omega, fun _ => rfl⟩
  split at h
  · subst h; exact ⟨fun _ => rfl, fun g => absurd (by assumption) (of_decide_eq_false g)⟩
  have h7 : ¬ w.k = 12 := by assumption
  subst h
  exact ⟨fun g => absurd (of_decide_eq_true g) h7, fun _ => rfl⟩

theorem step_fault {a b : MemV} {w : Wd} (hk : w.k ≤ 13) (h6 : w.k ≠ 6) (h : Step a w b) : (decide (w.k = 13) = true → b.fault = true) ∧ (decide (w.k = 13) = false → b.fault = a.fault) := by
  unfold Step at h
  split at h
  · subst h
    refine ⟨fun g => ?_, fun _ => ?_⟩
    · have := of_decide_eq_true g; omega
    · unfold orV; repeat' split
      all_goals rfl
  split at h
  · subst h; exact ⟨fun g => by have := of_decide_eq_true g; omega, fun _ => rfl⟩
  split at h
  · subst h; exact ⟨fun g => by have := of_decide_eq_true g; omega, fun _ => rfl⟩
  split at h
  · subst h; exact ⟨fun g => by have := of_decide_eq_true g; omega, fun _ => rfl⟩
  split at h
  · obtain ⟨x, -, rfl⟩ := h; exact ⟨fun g => by have := of_decide_eq_true g; omega, fun _ => rfl⟩
  split at h
  · subst h; exact ⟨fun g => by have := of_decide_eq_true g; omega, fun _ => rfl⟩
  split at h
  · subst h; exact ⟨fun g => by have := of_decide_eq_true g; omega, fun _ => rfl⟩
  have h7 : w.k = 13 := by omega
  subst h
  exact ⟨fun _ => rfl, fun g => absurd h7 (of_decide_eq_false g)⟩

theorem zero_num0 : Num 0 false 0 0 := ⟨by decide +kernel, by decide, by decide, Or.inl rfl⟩
theorem zero_txt {x : Nat} (h : Txt x [48]) : Same 0 x := txt_same (x := 0) (Or.inr (Or.inr (Or.inl ⟨false, 0, zero_num0, rfl⟩))) h

theorem back {v m : MemV} {tx : Nat → List UInt8} (hv : v.Ok) (ht : ∀ i, i < 16 → Txt (v.r i) (tx i)) (h : Steps memZ (allW v tx) m) : SameM m v := by
  have tim : ∀ i, i < 16 → (m.tD i, m.tC i) = (v.tD i, v.tC i) := by
    intro i hi
    obtain ⟨s1, s2⟩ := slot (fun m => (m.tD i, m.tC i)) (fun p => p = (v.tD i, v.tC i)) (fun w => decide (w.k = 7 ∧ w.n = i)) (allW v tx) memZ m
      (fun w hw a b hs => ⟨fun g => by
        obtain ⟨g1, g2⟩ := of_decide_eq_true g
        obtain ⟨-, e1, e2, -⟩ := (of_all hw).timer g1
        rw [(step_tim i hs).1 g, e1, e2, g2], (step_tim i hs).2⟩) h
    have e : (allW v tx).any (fun w => decide (w.k = 7 ∧ w.n = i)) = (v.tD i || v.tC i != 0) := by
      rw [any_all 7 _ (fun w hw => by simp [hw])]
      exact any_seg i hi (fun n _ => by simp)
    rw [e] at s1 s2
    cases hc : (v.tD i || v.tC i != 0) with
    | true => exact s1 hc
    | false =>
      rw [s2 hc]
      simp at hc
      simp [memZ, hc]
  have cnt : ∀ i, i < 16 → (m.cD i, m.cL i, m.cC i) = (v.cD i, v.cL i, v.cC i) := by
    intro i hi
    obtain ⟨s1, s2⟩ := slot (fun m => (m.cD i, m.cL i, m.cC i)) (fun p => p = (v.cD i, v.cL i, v.cC i)) (fun w => decide (w.k = 8 ∧ w.n = i)) (allW v tx) memZ m
      (fun w hw a b hs => ⟨fun g => by
        obtain ⟨g1, g2⟩ := of_decide_eq_true g
        obtain ⟨-, e1, e2, e3, -⟩ := (of_all hw).counter g1
        rw [(step_cnt i hs).1 g, e1, e2, e3, g2], (step_cnt i hs).2⟩) h
    have e : (allW v tx).any (fun w => decide (w.k = 8 ∧ w.n = i)) = (v.cD i || (v.cL i || v.cC i != 0)) := by
      rw [any_all 8 _ (fun w hw => by simp [hw])]
      exact any_seg i hi (fun n _ => by simp)
    rw [e] at s1 s2
    cases hc : (v.cD i || (v.cL i || v.cC i != 0)) with
    | true => exact s1 hc
    | false =>
      rw [s2 hc]
      simp at hc
      simp [memZ, hc]
  have int : ∀ i, i < 32 → m.d i = v.d i := by
    intro i hi
    obtain ⟨s1, s2⟩ := slot (fun m => m.d i) (fun p => p = v.d i) (fun w => decide (w.k = 9 ∧ w.n = i)) (allW v tx) memZ m
      (fun w hw a b hs => ⟨fun g => by
        obtain ⟨g1, g2⟩ := of_decide_eq_true g
        obtain ⟨-, e1, -⟩ := (of_all hw).int g1
        rw [(step_int i hs).1 g, e1, g2], (step_int i hs).2⟩) h
    have e : (allW v tx).any (fun w => decide (w.k = 9 ∧ w.n = i)) = (v.d i != 0) := by
      rw [any_all 9 _ (fun w hw => by simp [hw])]
      exact any_seg i hi (fun n _ => by simp)
    rw [e] at s1 s2
    cases hc : (v.d i != 0) with
    | true => exact s1 hc
    | false =>
      rw [s2 hc]
      simp at hc
      simp [memZ, hc]
  have rea : ∀ i, i < 16 → Same (m.r i) (v.r i) := by
    intro i hi
    obtain ⟨s1, s2⟩ := slot (fun m => m.r i) (fun p => Txt p (tx i)) (fun w => decide (w.k = 10 ∧ w.n = i)) (allW v tx) memZ m
      (fun w hw a b hs => ⟨fun g => by
        obtain ⟨g1, g2⟩ := of_decide_eq_true g
        obtain ⟨-, e1, -⟩ := (of_all hw).real g1
        have := (step_rea i hs).1 g
        rwa [e1, g2] at this, (step_rea i hs).2⟩) h
    have e : (allW v tx).any (fun w => decide (w.k = 10 ∧ w.n = i)) = (tx i != [48]) := by
      rw [any_all 10 _ (fun w hw => by simp [hw])]
      exact any_seg i hi (fun n _ => by simp)
    rw [e] at s1 s2
    cases hc : (tx i != [48]) with
    | true => exact txt_same (s1 hc) (ht i hi)
    | false =>
      have g : m.r i = 0 := s2 hc
      have hx := ht i hi
      have : tx i = [48] := by simpa using hc
      rw [this] at hx
      rw [g]
      exact zero_txt hx
  have tm : m.time = v.time := by
    obtain ⟨s1, s2⟩ := slot (fun m => m.time) (fun p => p = v.time) (fun w => decide (w.k = 11)) (allW v tx) memZ m
      (fun w hw a b hs => ⟨fun g => by rw [(step_time hs).1 g, ((of_all hw).time (of_decide_eq_true g)).1], (step_time hs).2⟩) h
    have e : (allW v tx).any (fun w => decide (w.k = 11)) = (v.time != 0) := by
      rw [any_all 11 _ (fun w hw => by simp [hw])]
      show (timeW v).any _ = _
      unfold timeW
      split <;> simp_all
    rw [e] at s1 s2
    cases hc : (v.time != 0) with
    | true => exact s1 hc
    | false =>
      have g : m.time = 0 := s2 hc
      simp at hc
      rw [g, hc]
  have rn : m.ran = v.ran := by
    obtain ⟨s1, s2⟩ := slot (fun m => m.ran) (fun p => p = true) (fun w => decide (w.k = 12)) (allW v tx) memZ m (fun w hw a b hs => step_ran hs) h
    have e : (allW v tx).any (fun w => decide (w.k = 12)) = v.ran := by
      rw [any_all 12 _ (fun w hw => by simp [hw])]
      show (ranW v).any _ = _
      unfold ranW
      split <;> simp_all
    rw [e] at s1 s2
    cases hc : v.ran with
    | true => exact s1 hc
    | false => exact s2 hc
  have ft : m.fault = v.fault := by
    obtain ⟨s1, s2⟩ := slot (fun m => m.fault) (fun p => p = true) (fun w => decide (w.k = 13)) (allW v tx) memZ m (fun w hw a b hs => step_fault (by have := (of_all hw).kind; omega) (by have := (of_all hw).kind; omega) hs) h
    have e : (allW v tx).any (fun w => decide (w.k = 13)) = v.fault := by
      rw [any_all 13 _ (fun w hw => by simp [hw])]
      show (faultW v).any _ = _
      unfold faultW
      split <;> simp_all
    rw [e] at s1 s2
    cases hc : v.fault with
    | true => exact s1 hc
    | false => exact s2 hc
  exact ⟨back_bit (j := 1) (by omega) hv.x h, back_bit (j := 2) (by omega) hv.y h, back_bit (j := 3) (by omega) hv.m h, back_bit (j := 4) (by omega) hv.s h, back_bit (j := 5) (by omega) hv.e h,
    fun i hi => congrArg Prod.fst (tim i hi), fun i hi => congrArg Prod.snd (tim i hi), fun i hi => congrArg Prod.fst (cnt i hi), fun i hi => congrArg (·.2.1) (cnt i hi), fun i hi => congrArg (·.2.2) (cnt i hi),
    int, rea, tm, rn, ft⟩

end Go.Proofs.Ytdhoimjkgicneab
