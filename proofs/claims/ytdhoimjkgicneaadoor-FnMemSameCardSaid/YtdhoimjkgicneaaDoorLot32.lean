/- Texts of this proof laid together: MtC, MtD, MsX. -/
import Derived.Test.YtdhoimjkgicneaaDoorLot31
import Derived.Test.YtdhoimjkgicneaaDoorLot29
import Derived.Test.YtdhoimjkgicneaaDoorLot28
import Derived.Test.YtdhoimjkgicneaaDoorLot9
import Derived.Test.YtdhoimjkgicneaaDoorLot24
import Derived.Deep.Cut
/- The words of a memory's text, read in their order, make the memory. Of no one program. -/
namespace Go.Proofs.YtdhoimjkgicneaaDoor
open Go

/-- What a word leaves of each place. -/
theorem step_tim {a b : MemV} {w : Wd} (i : Nat) (h : Step a w b) : (decide (w.k = 7 ∧ w.n = i) = true → (b.tD i, b.tC i) = (w.d, w.c)) ∧ (decide (w.k = 7 ∧ w.n = i) = false → (b.tD i, b.tC i) = (a.tD i, a.tC i)) := by
  unfold Step at h
  split at h
  · subst h
    refine ⟨fun g => ?_, fun _ => ?_⟩
    · have := (of_decide_eq_true g).1; omega
    · unfold orV; repeat' split
      all_goals rfl
  split at h
  · subst h
    refine ⟨fun g => ?_, fun g => ?_⟩
    · have := (of_decide_eq_true g).2
      simp [timV, this]
    · have g := of_decide_eq_false g
      have : ¬ i = w.n := fun e => g ⟨by assumption, e.symm⟩
      simp [timV, this]
  have h7 : ¬ w.k = 7 := by assumption
  refine ⟨fun g => absurd (of_decide_eq_true g).1 h7, fun _ => ?_⟩
  split at h
  · subst h; rfl
  split at h
  · subst h; rfl
  split at h
  · obtain ⟨x, -, rfl⟩ := h; rfl
  split at h
  · subst h; rfl
  split at h
  · subst h; rfl
  · subst h; rfl

theorem step_cnt {a b : MemV} {w : Wd} (i : Nat) (h : Step a w b) : (decide (w.k = 8 ∧ w.n = i) = true → (b.cD i, b.cL i, b.cC i) = (w.d, w.l, w.c)) ∧ (decide (w.k = 8 ∧ w.n = i) = false → (b.cD i, b.cL i, b.cC i) = (a.cD i, a.cL i, a.cC i)) := by
  unfold Step at h
  split at h
  · subst h
    refine ⟨fun g => ?_, fun _ => ?_⟩
    · have := (of_decide_eq_true g).1; omega
    · unfold orV; repeat' split
      all_goals rfl
  split at h
  · subst h
    refine ⟨fun g => ?_, fun _ => rfl⟩
    have := (of_decide_eq_true g).1; omega
  split at h
  · subst h
    refine ⟨fun g => ?_, fun g => ?_⟩
    · have := (of_decide_eq_true g).2
      simp [cntV, this]
    · have g := of_decide_eq_false g
      have : ¬ i = w.n := fun e => g ⟨by assumption, e.symm⟩
      simp [cntV, this]
  have h7 : ¬ w.k = 8 := by assumption
  refine ⟨fun g => absurd (of_decide_eq_true g).1 h7, fun _ => ?_⟩
  split at h
  · subst h; rfl
  split at h
  · obtain ⟨x, -, rfl⟩ := h; rfl
  split at h
  · subst h; rfl
  split at h
  · subst h; rfl
  · subst h; rfl

theorem step_int {a b : MemV} {w : Wd} (i : Nat) (h : Step a w b) : (decide (w.k = 9 ∧ w.n = i) = true → b.d i = w.z) ∧ (decide (w.k = 9 ∧ w.n = i) = false → b.d i = a.d i) := by
  unfold Step at h
  split at h
  · subst h
    refine ⟨fun g => ?_, fun _ => ?_⟩
    · have := (of_decide_eq_true g).1; omega
    · unfold orV; repeat' split
      all_goals rfl
  split at h
  · subst h
    refine ⟨fun g => ?_, fun _ => rfl⟩
    have := (of_decide_eq_true g).1; omega
  split at h
  · subst h
    refine ⟨fun g => ?_, fun _ => rfl⟩
    have := (of_decide_eq_true g).1; omega
  split at h
  · subst h
    refine ⟨fun g => ?_, fun g => ?_⟩
    · have := (of_decide_eq_true g).2
      simp [intV, this]
    · have g := of_decide_eq_false g
      have : ¬ i = w.n := fun e => g ⟨by assumption, e.symm⟩
      simp [intV, this]
  have h7 : ¬ w.k = 9 := by assumption
  refine ⟨fun g => absurd (of_decide_eq_true g).1 h7, fun _ => ?_⟩
  split at h
  · obtain ⟨x, -, rfl⟩ := h; rfl
  split at h
  · subst h; rfl
  split at h
  · subst h; rfl
  · subst h; rfl

theorem step_rea {a b : MemV} {w : Wd} (i : Nat) (h : Step a w b) : (decide (w.k = 10 ∧ w.n = i) = true → Txt (b.r i) w.t) ∧ (decide (w.k = 10 ∧ w.n = i) = false → b.r i = a.r i) := by
  unfold Step at h
  split at h
  · subst h
    refine ⟨fun g => ?_, fun _ => ?_⟩
    · have := (of_decide_eq_true g).1; omega
    · unfold orV; repeat' split
      all_goals rfl
  split at h
  · subst h
    refine ⟨fun g => ?_, fun _ => rfl⟩
    have := (of_decide_eq_true g).1; omega
  split at h
  · subst h
    refine ⟨fun g => ?_, fun _ => rfl⟩
    have := (of_decide_eq_true g).1; omega
  split at h
  · subst h
    refine ⟨fun g => ?_, fun _ => rfl⟩
    have := (of_decide_eq_true g).1; omega
  split at h
  · obtain ⟨x, hx, rfl⟩ := h
    refine ⟨fun g => ?_, fun g => ?_⟩
    · have := (of_decide_eq_true g).2
      simp [reaV, this, hx]
    · have g := of_decide_eq_false g
      have : ¬ i = w.n := fun e => g ⟨by assumption, e.symm⟩
      simp [reaV, this]
  have h7 : ¬ w.k = 10 := by assumption
  refine ⟨fun g => absurd (of_decide_eq_true g).1 h7, fun _ => ?_⟩
  split at h
  · subst h; rfl
  split at h
  · subst h; rfl
  · subst h; rfl

theorem step_time {a b : MemV} {w : Wd} (h : Step a w b) : (decide (w.k = 11) = true → b.time = w.c) ∧ (decide (w.k = 11) = false → b.time = a.time) := by
  unfold Step at h
  split at h
  · subst h
    refine ⟨fun g => ?_, fun _ => ?_⟩
    · have := of_decide_eq_true g; omega
    · unfold orV; repeat' split
      all_goals rfl
  split at h
  · subst h; exact ⟨fun g => by have := of_decide_eq_true g; omega, fun _ => rfl⟩
  split at h
  · subst h; exact ⟨fun g => by have := of_decide_eq_true g; omega, fun _ => rfl⟩
  split at h
  · subst h; exact ⟨fun g => by have := of_decide_eq_true g; omega, fun _ => rfl⟩
  split at h
  · obtain ⟨x, -, rfl⟩ := h; exact ⟨fun g => by have := of_decide_eq_true g; omega, fun _ => rfl⟩
  split at h
  · subst h; exact ⟨fun _ => rfl, fun g => absurd (by assumption) (of_decide_eq_false g)⟩
  have h7 : ¬ w.k = 11 := by assumption
  refine ⟨fun g => absurd (of_decide_eq_true g) h7, fun _ => ?_⟩
  split at h
  · subst h; rfl
  · subst h; rfl

theorem step_ran {a b : MemV} {w : Wd} (h : Step a w b) : (decide (w.k = 12) = true → b.ran = true) ∧ (decide (w.k = 12) = false → b.ran = a.ran) := by
  unfold Step at h
  split at h
  · subst h
    refine ⟨fun g => ?_, fun _ => ?_⟩
    · have := of_decide_eq_true g; omega
    · unfold orV; repeat' split
      all_goals rfl
  split at h
  · subst h; exact ⟨fun g => by have := of_decide_eq_true g; omega, fun _ => rfl⟩
  split at h
  · subst h; exact ⟨fun g => by have := of_decide_eq_true g; omega, fun _ => rfl⟩
  split at h
  · subst h; exact ⟨fun g => by have := of_decide_eq_true g; omega, fun _ => rfl⟩
  split at h
  · obtain ⟨x, -, rfl⟩ := h; exact ⟨fun g => by have := of_decide_eq_true g; omega, fun _ => rfl⟩
  split at h
  · subst h; exact ⟨fun g => by have := of_decide_eq_true g; omega, fun _ => rfl⟩
  split at h
  · subst h; exact ⟨fun _ => rfl, fun g => absurd (by assumption) (of_decide_eq_false g)⟩
  have h7 : ¬ w.k = 12 := by assumption
  subst h
  exact ⟨fun g => absurd (of_decide_eq_true g) h7, fun _ => rfl⟩

theorem step_fault {a b : MemV} {w : Wd} (hk : w.k ≤ 13) (h6 : w.k ≠ 6) (h : Step a w b) : (decide (w.k = 13) = true → b.fault = true) ∧ (decide (w.k = 13) = false → b.fault = a.fault) := by
  unfold Step at h
  split at h
  · subst h
    refine ⟨fun g => ?_, fun _ => ?_⟩
    · have := of_decide_eq_true g; omega
    · unfold orV; repeat' split
      all_goals rfl
  split at h
  · subst h; exact ⟨fun g => by have := of_decide_eq_true g; omega, fun _ => rfl⟩
  split at h
  · subst h; exact ⟨fun g => by have := of_decide_eq_true g; omega, fun _ => rfl⟩
  split at h
  · subst h; exact ⟨fun g => by have := of_decide_eq_true g; omega, fun _ => rfl⟩
  split at h
  · obtain ⟨x, -, rfl⟩ := h; exact ⟨fun g => by have := of_decide_eq_true g; omega, fun _ => rfl⟩
  split at h
  · subst h; exact ⟨fun g => by have := of_decide_eq_true g; omega, fun _ => rfl⟩
  split at h
  · subst h; exact ⟨fun g => by have := of_decide_eq_true g; omega, fun _ => rfl⟩
  have h7 : w.k = 13 := by omega
  subst h
  exact ⟨fun _ => rfl, fun g => absurd h7 (of_decide_eq_false g)⟩

theorem zero_num0 : Num 0 false 0 0 := ⟨by decide +kernel, by decide, by decide, Or.inl rfl⟩
theorem zero_txt {x : Nat} (h : Txt x [48]) : Same 0 x := txt_same (x := 0) (Or.inr (Or.inr (Or.inl ⟨false, 0, zero_num0, rfl⟩))) h

theorem back {v m : MemV} {tx : Nat → List UInt8} (hv : v.Ok) (ht : ∀ i, i < 16 → Txt (v.r i) (tx i)) (h : Steps memZ (allW v tx) m) : SameM m v := by
  have tim : ∀ i, i < 16 → (m.tD i, m.tC i) = (v.tD i, v.tC i) := by
    intro i hi
    obtain ⟨s1, s2⟩ := slot (fun m => (m.tD i, m.tC i)) (fun p => p = (v.tD i, v.tC i)) (fun w => decide (w.k = 7 ∧ w.n = i)) (allW v tx) memZ m
      (fun w hw a b hs => ⟨fun g => by
        obtain ⟨g1, g2⟩ := of_decide_eq_true g
        obtain ⟨-, e1, e2, -⟩ := (of_all hw).timer g1
        rw [(step_tim i hs).1 g, e1, e2, g2], (step_tim i hs).2⟩) h
    have e : (allW v tx).any (fun w => decide (w.k = 7 ∧ w.n = i)) = (v.tD i || v.tC i != 0) := by
      rw [any_all 7 _ (fun w hw => by simp [hw])]
      exact any_seg i hi (fun n _ => by simp)
    rw [e] at s1 s2
    cases hc : (v.tD i || v.tC i != 0) with
    | true => exact s1 hc
    | false =>
      rw [s2 hc]
      simp at hc
      simp [memZ, hc]
  have cnt : ∀ i, i < 16 → (m.cD i, m.cL i, m.cC i) = (v.cD i, v.cL i, v.cC i) := by
    intro i hi
    obtain ⟨s1, s2⟩ := slot (fun m => (m.cD i, m.cL i, m.cC i)) (fun p => p = (v.cD i, v.cL i, v.cC i)) (fun w => decide (w.k = 8 ∧ w.n = i)) (allW v tx) memZ m
      (fun w hw a b hs => ⟨fun g => by
        obtain ⟨g1, g2⟩ := of_decide_eq_true g
        obtain ⟨-, e1, e2, e3, -⟩ := (of_all hw).counter g1
        rw [(step_cnt i hs).1 g, e1, e2, e3, g2], (step_cnt i hs).2⟩) h
    have e : (allW v tx).any (fun w => decide (w.k = 8 ∧ w.n = i)) = (v.cD i || (v.cL i || v.cC i != 0)) := by
      rw [any_all 8 _ (fun w hw => by simp [hw])]
      exact any_seg i hi (fun n _ => by simp)
    rw [e] at s1 s2
    cases hc : (v.cD i || (v.cL i || v.cC i != 0)) with
    | true => exact s1 hc
    | false =>
      rw [s2 hc]
      simp at hc
      simp [memZ, hc]
  have int : ∀ i, i < 32 → m.d i = v.d i := by
    intro i hi
    obtain ⟨s1, s2⟩ := slot (fun m => m.d i) (fun p => p = v.d i) (fun w => decide (w.k = 9 ∧ w.n = i)) (allW v tx) memZ m
      (fun w hw a b hs => ⟨fun g => by
        obtain ⟨g1, g2⟩ := of_decide_eq_true g
        obtain ⟨-, e1, -⟩ := (of_all hw).int g1
        rw [(step_int i hs).1 g, e1, g2], (step_int i hs).2⟩) h
    have e : (allW v tx).any (fun w => decide (w.k = 9 ∧ w.n = i)) = (v.d i != 0) := by
      rw [any_all 9 _ (fun w hw => by simp [hw])]
      exact any_seg i hi (fun n _ => by simp)
    rw [e] at s1 s2
    cases hc : (v.d i != 0) with
    | true => exact s1 hc
    | false =>
      rw [s2 hc]
      simp at hc
      simp [memZ, hc]
  have rea : ∀ i, i < 16 → Same (m.r i) (v.r i) := by
    intro i hi
    obtain ⟨s1, s2⟩ := slot (fun m => m.r i) (fun p => Txt p (tx i)) (fun w => decide (w.k = 10 ∧ w.n = i)) (allW v tx) memZ m
      (fun w hw a b hs => ⟨fun g => by
        obtain ⟨g1, g2⟩ := of_decide_eq_true g
        obtain ⟨-, e1, -⟩ := (of_all hw).real g1
        have := (step_rea i hs).1 g
        rwa [e1, g2] at this, (step_rea i hs).2⟩) h
    have e : (allW v tx).any (fun w => decide (w.k = 10 ∧ w.n = i)) = (tx i != [48]) := by
      rw [any_all 10 _ (fun w hw => by simp [hw])]
      exact any_seg i hi (fun n _ => by simp)
    rw [e] at s1 s2
    cases hc : (tx i != [48]) with
    | true => exact txt_same (s1 hc) (ht i hi)
    | false =>
      have g : m.r i = 0 := s2 hc
      have hx := ht i hi
      have : tx i = [48] := by simpa using hc
      rw [this] at hx
      rw [g]
      exact zero_txt hx
  have tm : m.time = v.time := by
    obtain ⟨s1, s2⟩ := slot (fun m => m.time) (fun p => p = v.time) (fun w => decide (w.k = 11)) (allW v tx) memZ m
      (fun w hw a b hs => ⟨fun g => by rw [(step_time hs).1 g, ((of_all hw).time (of_decide_eq_true g)).1], (step_time hs).2⟩) h
    have e : (allW v tx).any (fun w => decide (w.k = 11)) = (v.time != 0) := by
      rw [any_all 11 _ (fun w hw => by simp [hw])]
      show (timeW v).any _ = _
      unfold timeW
      split <;> simp_all
    rw [e] at s1 s2
    cases hc : (v.time != 0) with
    | true => exact s1 hc
    | false =>
      have g : m.time = 0 := s2 hc
      simp at hc
      rw [g, hc]
  have rn : m.ran = v.ran := by
    obtain ⟨s1, s2⟩ := slot (fun m => m.ran) (fun p => p = true) (fun w => decide (w.k = 12)) (allW v tx) memZ m (fun w hw a b hs => step_ran hs) h
    have e : (allW v tx).any (fun w => decide (w.k = 12)) = v.ran := by
      rw [any_all 12 _ (fun w hw => by simp [hw])]
      show (ranW v).any _ = _
      unfold ranW
      split <;> simp_all
    rw [e] at s1 s2
    cases hc : v.ran with
    | true => exact s1 hc
    | false => exact s2 hc
  have ft : m.fault = v.fault := by
    obtain ⟨s1, s2⟩ := slot (fun m => m.fault) (fun p => p = true) (fun w => decide (w.k = 13)) (allW v tx) memZ m (fun w hw a b hs => step_fault (by have := (of_all hw).kind; omega) (by have := (of_all hw).kind; omega) hs) h
    have e : (allW v tx).any (fun w => decide (w.k = 13)) = v.fault := by
      rw [any_all 13 _ (fun w hw => by simp [hw])]
      show (faultW v).any _ = _
      unfold faultW
      split <;> simp_all
    rw [e] at s1 s2
    cases hc : v.fault with
    | true => exact s1 hc
    | false => exact s2 hc
  exact ⟨back_bit (j := 1) (by omega) hv.x h, back_bit (j := 2) (by omega) hv.y h, back_bit (j := 3) (by omega) hv.m h, back_bit (j := 4) (by omega) hv.s h, back_bit (j := 5) (by omega) hv.e h,
    fun i hi => congrArg Prod.fst (tim i hi), fun i hi => congrArg Prod.snd (tim i hi), fun i hi => congrArg Prod.fst (cnt i hi), fun i hi => congrArg (·.2.1) (cnt i hi), fun i hi => congrArg (·.2.2) (cnt i hi),
    int, rea, tm, rn, ft⟩

end Go.Proofs.YtdhoimjkgicneaaDoor

/- Unlike memories have unlike texts; how long a text is; its words hold no space. Of no one program. -/
namespace Go.Proofs.YtdhoimjkgicneaaDoor
open Go

/-- Digits ahead of what does not begin with one. -/
theorem split_dig : ∀ {a b r r' : List UInt8}, a.all isDig = true → b.all isDig = true → (∀ c cs, r = c :: cs → isDig c = false) → (∀ c cs, r' = c :: cs → isDig c = false) → a ++ r = b ++ r' → a = b ∧ r = r'
  | [], [], r, r', _, _, _, _, h => ⟨rfl, h⟩
  | [], y :: b, r, r', _, hb, hr, _, h => by
    simp only [List.all_cons, Bool.and_eq_true] at hb
    have := hr y (b ++ r') (by simpa using h)
    rw [hb.1] at this; cases this
  | x :: a, [], r, r', ha, _, _, hr, h => by
    simp only [List.all_cons, Bool.and_eq_true] at ha
    have := hr x (a ++ r) (by simpa using h.symm)
    rw [ha.1] at this; cases this
  | x :: a, y :: b, r, r', ha, hb, hr, hr', h => by
    simp only [List.cons_append, List.cons.injEq] at h
    simp only [List.all_cons, Bool.and_eq_true] at ha hb
    obtain ⟨e1, e2⟩ := split_dig ha.2 hb.2 hr hr' h.2
    exact ⟨by rw [h.1, e1], e2⟩

theorem dd_split {n m : Nat} {r r' : List UInt8} (hr : ∀ c cs, r = c :: cs → isDig c = false) (hr' : ∀ c cs, r' = c :: cs → isDig c = false) (h : Lib.decDigits n ++ r = Lib.decDigits m ++ r') : n = m ∧ r = r' := by
  obtain ⟨e1, e2⟩ := split_dig (dd_all n) (dd_all m) hr hr' h
  exact ⟨dd_inj e1, e2⟩

theorem marks_head (d l : Bool) : ∀ c cs, markL d 33 ++ markL l 43 = c :: cs → isDig c = false := by
  intro c cs h
  cases d <;> cases l <;> simp [markL] at h <;> obtain ⟨rfl, -⟩ := h <;> decide
theorem marks_inj {d l d' l' : Bool} (h : markL d 33 ++ markL l 43 = markL d' 33 ++ markL l' 43) : d = d' ∧ l = l' := by
  cases d <;> cases l <;> cases d' <;> cases l' <;> first | exact ⟨rfl, rfl⟩ | (revert h; decide)
theorem count_inj {c c' : Nat} {d l d' l' : Bool} (h : countL c d l = countL c' d' l') : c = c' ∧ d = d' ∧ l = l' := by
  obtain ⟨e1, e2⟩ := dd_split (marks_head d l) (marks_head d' l') h
  exact ⟨e1, marks_inj e2⟩
theorem tail_head (w : Wd) : ∀ c cs, w.tail = c :: cs → isDig c = false := by
  intro c cs h
  unfold Wd.tail at h
  split at h
  · cases h
  split at h
  · obtain ⟨rfl, -⟩ := List.cons.inj h; decide
  split at h
  · obtain ⟨rfl, -⟩ := List.cons.inj h; decide
  · obtain ⟨rfl, -⟩ := List.cons.inj h; decide

/-- The first sign of a word. -/
def headC (k : Nat) : UInt8 :=
  if k = 1 then 88 else if k = 2 then 89 else if k = 3 then 77 else if k = 4 then 83 else if k = 5 then 69 else if k = 7 then 84 else if k = 8 then 67 else if k = 9 then 68 else if k = 10 then 82
  else if k = 11 then 116 else if k = 12 then 114 else 102

def restC (w : Wd) : List UInt8 :=
  if w.k = 11 then [105, 109, 101, 61] ++ Lib.decDigits w.c else if w.k = 12 then [97, 110] else if w.k = 13 then [97, 117, 108, 116] else Lib.decDigits w.n ++ w.tail

def Kind (k : Nat) : Prop := k = 1 ∨ k = 2 ∨ k = 3 ∨ k = 4 ∨ k = 5 ∨ k = 7 ∨ k = 8 ∨ k = 9 ∨ k = 10 ∨ k = 11 ∨ k = 12 ∨ k = 13

theorem text_cons {w : Wd} (h : Kind w.k) : w.text = headC w.k :: restC w := by
  unfold Wd.text restC headC
  rcases h with e | e | e | e | e | e | e | e | e | e | e | e <;> rw [e] <;> rfl

theorem head_inj {k j : Nat} (h : Kind k) (g : Kind j) (e : headC k = headC j) : k = j := by
  rcases h with rfl | rfl | rfl | rfl | rfl | rfl | rfl | rfl | rfl | rfl | rfl | rfl <;> rcases g with rfl | rfl | rfl | rfl | rfl | rfl | rfl | rfl | rfl | rfl | rfl | rfl <;> first | rfl | (revert e; decide)

theorem wd_inj {v v' : MemV} {tx tx' : Nat → List UInt8} {w w' : Wd} (h : WdOf v tx w) (g : WdOf v' tx' w') (e : w.text = w'.text) : w = w' := by
  rw [text_cons h.kind, text_cons g.kind] at e
  obtain ⟨e1, e2⟩ := List.cons.inj e
  have hk := head_inj h.kind g.kind e1
  have H := h.kind
  clear e e1
  obtain ⟨k, n, c, d, l, z, t⟩ := w
  obtain ⟨k', n', c', d', l', z', t'⟩ := w'
  simp only at hk H
  subst hk
  by_cases h11 : k = 11
  · subst h11
    obtain ⟨-, rfl, rfl, rfl, rfl, rfl⟩ := h.time rfl
    obtain ⟨-, rfl, rfl, rfl, rfl, rfl⟩ := g.time rfl
    have e3 : ([105, 109, 101, 61] : List UInt8) ++ Lib.decDigits c = [105, 109, 101, 61] ++ Lib.decDigits c' := e2
    rw [dd_inj (List.append_cancel_left e3)]
  by_cases h12 : k = 12
  · subst h12
    rw [(h.ran rfl).2, (g.ran rfl).2]
  by_cases h13 : k = 13
  · subst h13
    rw [(h.fault rfl).2, (g.fault rfl).2]
  simp only [restC, if_neg h11, if_neg h12, if_neg h13] at e2
  obtain ⟨rfl, e3⟩ := dd_split (tail_head _) (tail_head _) e2
  by_cases h5 : k ≤ 5
  · obtain ⟨-, -, rfl, rfl, rfl, rfl, rfl⟩ := h.bit h5
    obtain ⟨-, -, rfl, rfl, rfl, rfl, rfl⟩ := g.bit h5
    rfl
  by_cases h7 : k = 7
  · subst h7
    obtain ⟨-, -, -, -, rfl, rfl⟩ := h.timer rfl
    obtain ⟨-, -, -, -, rfl, rfl⟩ := g.timer rfl
    obtain ⟨rfl, rfl, rfl⟩ := count_inj (List.cons.inj e3).2
    rfl
  by_cases h8 : k = 8
  · subst h8
    obtain ⟨-, -, -, -, rfl, rfl⟩ := h.counter rfl
    obtain ⟨-, -, -, -, rfl, rfl⟩ := g.counter rfl
    obtain ⟨rfl, rfl, rfl⟩ := count_inj (List.cons.inj e3).2
    rfl
  by_cases h9 : k = 9
  · subst h9
    obtain ⟨-, -, rfl, rfl, rfl, rfl⟩ := h.int rfl
    obtain ⟨-, -, rfl, rfl, rfl, rfl⟩ := g.int rfl
    have e4 : z = z' := itoa_inj (List.cons.inj e3).2
    rw [e4]
  have h10 : k = 10 := by omega
  subst h10
  obtain ⟨-, -, rfl, rfl, rfl, rfl⟩ := h.real rfl
  obtain ⟨-, -, rfl, rfl, rfl, rfl⟩ := g.real rfl
  have e4 : t = t' := (List.cons.inj e3).2
  rw [e4]

/-- No space stands in a word. -/
theorem dig_ns {l : List UInt8} (h : l.all isDig = true) : (32 : UInt8) ∉ l := by
  intro hm
  have := List.all_eq_true.1 h 32 hm
  revert this; decide
theorem dd_ns (n : Nat) : (32 : UInt8) ∉ Lib.decDigits n := dig_ns (dd_all n)
theorem itoa_ns (z : Int) : (32 : UInt8) ∉ Lib.itoa z := by
  unfold Lib.itoa
  split
  · simp [dd_ns]
  · exact dd_ns _
theorem sgn_ns (s : Bool) : (32 : UInt8) ∉ sgnL s := by cases s <;> decide
theorem txt_ns {x : Nat} {l : List UInt8} (h : Txt x l) : (32 : UInt8) ∉ l := by
  rcases h with ⟨-, rfl⟩ | ⟨s, -, rfl⟩ | ⟨s, k, -, rfl⟩ | ⟨s, m, k, n, c, -, -, -, -, rfl⟩
  · decide
  · simp [sgn_ns]
  · simp [sgn_ns]
  · simp [finL, sgn_ns, dd_ns, itoa_ns]
theorem count_ns (c : Nat) (d l : Bool) : (32 : UInt8) ∉ countL c d l := by
  unfold countL
  cases d <;> cases l <;> simp [markL, dd_ns]

theorem word_ns {v : MemV} {tx : Nat → List UInt8} {w : Wd} (ht : ∀ i, i < 16 → Txt (v.r i) (tx i)) (h : WdOf v tx w) : (32 : UInt8) ∉ w.text := by
  unfold Wd.text
  split
  · simp [dd_ns]
  split
  · decide
  split
  · decide
  have hl : (32 : UInt8) ∉ letterL w.k := by
    rcases h.kind with e | e | e | e | e | e | e | e | e | e | e | e <;> rw [e] <;> decide
  have ht : (32 : UInt8) ∉ w.tail := by
    unfold Wd.tail
    split
    · simp
    split
    · simp [count_ns]
    split
    · simp [itoa_ns]
    · have hk : w.k = 10 := by have := h.kind; omega
      obtain ⟨h1, h2, -⟩ := h.real hk
      rw [h2]
      simp [txt_ns (ht _ h1)]
  simp [hl, dd_ns, ht]
theorem word_ne {w : Wd} (h : Kind w.k) : w.text ≠ [] := by rw [text_cons h]; simp

/-- Words without spaces, joined by spaces, are the words. -/
theorem split_sp : ∀ {a b r r' : List UInt8}, (32 : UInt8) ∉ a → (32 : UInt8) ∉ b → a ++ 32 :: r = b ++ 32 :: r' → a = b ∧ r = r'
  | [], [], r, r', _, _, h => by simpa using h
  | [], y :: b, r, r', _, hb, h => by
    simp at h
    exact absurd (by rw [h.1]; simp) hb
  | x :: a, [], r, r', ha, _, h => by
    simp at h
    exact absurd (by rw [h.1]; simp) ha
  | x :: a, y :: b, r, r', ha, hb, h => by
    simp only [List.cons_append, List.cons.injEq] at h
    obtain ⟨e1, e2⟩ := split_sp (fun g => ha (by simp [g])) (fun g => hb (by simp [g])) h.2
    exact ⟨by rw [h.1, e1], e2⟩
theorem tail_cons (y : List UInt8) (r : List (List UInt8)) : Lib.joinTail [32] (y :: r) = 32 :: (y ++ Lib.joinTail [32] r) := by simp [Lib.joinTail]
theorem ns_of {a r : List UInt8} (h : a = r) (hr : (32 : UInt8) ∈ r) (ha : (32 : UInt8) ∉ a) : False := ha (h ▸ hr)
theorem join_inj : ∀ {a b : List (List UInt8)}, (∀ x ∈ a, (32 : UInt8) ∉ x ∧ x ≠ []) → (∀ x ∈ b, (32 : UInt8) ∉ x ∧ x ≠ []) → Lib.join a [32] = Lib.join b [32] → a = b
  | [], [], _, _, _ => rfl
  | [], y :: b, _, hb, h => by
    rw [Lib.join_nil, Lib.join_cons] at h
    have := (hb y (by simp)).2
    simp at h
    exact absurd h.1 this
  | x :: a, [], ha, _, h => by
    rw [Lib.join_nil, Lib.join_cons] at h
    have := (ha x (by simp)).2
    simp at h
    exact absurd h.1 this
  | x :: a, y :: b, ha, hb, h => by
    rw [Lib.join_cons, Lib.join_cons] at h
    have hx := (ha x (by simp)).1
    have hy := (hb y (by simp)).1
    cases a with
    | nil =>
      cases b with
      | nil => simpa [Lib.joinTail] using h
      | cons y2 b =>
        exfalso
        rw [tail_cons] at h
        simp only [Lib.joinTail, List.map_nil, List.flatten_nil, List.append_nil] at h
        exact ns_of h (by simp) hx
    | cons x2 a =>
      cases b with
      | nil =>
        exfalso
        rw [tail_cons] at h
        simp only [Lib.joinTail, List.map_nil, List.flatten_nil, List.append_nil] at h
        exact ns_of h.symm (by simp) hy
      | cons y2 b =>
        rw [tail_cons, tail_cons] at h
        obtain ⟨rfl, e⟩ := split_sp hx hy h
        have e2 : Lib.join (x2 :: a) [32] = Lib.join (y2 :: b) [32] := by rw [Lib.join_cons, Lib.join_cons]; exact e
        rw [join_inj (fun z hz => ha z (by simp at hz ⊢; exact Or.inr hz)) (fun z hz => hb z (by simp at hz ⊢; exact Or.inr hz)) e2]

theorem words_good {v : MemV} {tx : Nat → List UInt8} (ht : ∀ i, i < 16 → Txt (v.r i) (tx i)) : ∀ x ∈ (allW v tx).map Wd.text, (32 : UInt8) ∉ x ∧ x ≠ [] := by
  intro x hx
  obtain ⟨w, hw, rfl⟩ := List.mem_map.1 hx
  exact ⟨word_ns ht (of_all hw), word_ne (of_all hw).kind⟩

theorem map_inj : ∀ {a b : List Wd}, (∀ w ∈ a, ∀ w' ∈ b, w.text = w'.text → w = w') → a.map Wd.text = b.map Wd.text → a = b
  | [], [], _, _ => rfl
  | [], _ :: _, _, h => by cases h
  | _ :: _, [], _, h => by cases h
  | w :: a, w' :: b, g, h => by
    simp only [List.map_cons, List.cons.injEq] at h
    rw [g w (by simp) w' (by simp) h.1, map_inj (fun x hx y hy => g x (by simp [hx]) y (by simp [hy])) h.2]

theorem words_inj {a b : MemV} {tx ty : Nat → List UInt8} (ha : ∀ i, i < 16 → Txt (a.r i) (tx i)) (hb : ∀ i, i < 16 → Txt (b.r i) (ty i)) (h : textV a tx = textV b ty) : allW a tx = allW b ty :=
  map_inj (fun _ hw _ hw' e => wd_inj (of_all hw) (of_all hw') e) (join_inj (words_good ha) (words_good hb) h)

/-- Steps can be taken. -/
theorem steps_ex : ∀ (L : List Wd) (m : MemV), (∀ w ∈ L, w.k = 10 → ∃ x, Txt x w.t) → ∃ m', Steps m L m'
  | [], m, _ => ⟨m, rfl⟩
  | w :: L, m, h => by
    have : ∃ m1, Step m w m1 := by
      unfold Step
      repeat' split
      all_goals first | exact ⟨_, rfl⟩ | skip
      obtain ⟨x, hx⟩ := h w (by simp) (by assumption)
      exact ⟨_, x, hx, rfl⟩
    obtain ⟨m1, h1⟩ := this
    obtain ⟨m2, h2⟩ := steps_ex L m1 (fun w hw => h w (by simp [hw]))
    exact ⟨m2, m1, h1, h2⟩

theorem sameM_symm {a b : MemV} (h : SameM a b) : SameM b a := by
  have ss : ∀ {x y : Nat}, Same x y → Same y x := by
    intro x y h
    rcases h with ⟨a, b⟩ | ⟨s, a, b⟩ | ⟨s, m, k, m', k', a, b, e⟩
    · exact Or.inl ⟨b, a⟩
    · exact Or.inr (Or.inl ⟨s, b, a⟩)
    · exact Or.inr (Or.inr ⟨s, m', k', m, k, b, a, e.symm⟩)
  exact ⟨h.x.symm, h.y.symm, h.m.symm, h.s.symm, h.e.symm, fun i hi => (h.tD i hi).symm, fun i hi => (h.tC i hi).symm, fun i hi => (h.cD i hi).symm, fun i hi => (h.cL i hi).symm, fun i hi => (h.cC i hi).symm, fun i hi => (h.d i hi).symm, fun i hi => ss (h.r i hi), h.time.symm, h.ran.symm, h.fault.symm⟩
/-- Every word has a text. -/
theorem txt_ex (x : Nat) : ∃ l, Txt x l := by
  rcases read_cases x with ⟨s, m, k, h⟩ | ⟨s, h⟩ | h
  · by_cases h0 : m = 0
    · subst h0; exact ⟨_, Or.inr (Or.inr (Or.inl ⟨s, k, h, rfl⟩))⟩
    · have key : ∀ (j m k : Nat), m ≤ j → m ≠ 0 → ∃ n c, n % 2 = 1 ∧ m * 2 ^ k = n * 2 ^ c := by
        intro j
        induction j with
        | zero => intro m k h1 h2; omega
        | succ j ih =>
          intro m k h1 h2
          by_cases ho : m % 2 = 1
          · exact ⟨m, k, ho, rfl⟩
          · obtain ⟨n, c, e1, e2⟩ := ih (m / 2) (k + 1) (by omega) (by omega)
            refine ⟨n, c, e1, ?_⟩
            rw [← e2, Nat.pow_succ, Nat.mul_comm (2 ^ k) 2, ← Nat.mul_assoc, show m / 2 * 2 = m by omega]
      obtain ⟨n, c, e1, e2⟩ := key m m k (Nat.le_refl _) h0
      exact ⟨_, Or.inr (Or.inr (Or.inr ⟨s, m, k, n, c, h, h0, e1, e2, rfl⟩))⟩
  · exact ⟨_, Or.inr (Or.inl ⟨s, h, rfl⟩)⟩
  · exact ⟨_, Or.inl ⟨h, rfl⟩⟩
theorem txts_ex (r : Nat → Nat) : ∃ tx : Nat → List UInt8, ∀ i, Txt (r i) (tx i) := ⟨fun i => Classical.choose (txt_ex (r i)), fun i => Classical.choose_spec (txt_ex (r i))⟩
theorem text_ex (v : MemV) : ∃ l, TextOf v l := by
  obtain ⟨tx, h⟩ := txts_ex v.r
  exact ⟨_, tx, fun i _ => h i, rfl⟩
theorem sameM_trans {a b c : MemV} (h : SameM a b) (g : SameM b c) : SameM a c := by
  have tt : ∀ {x y z : Nat}, Same x y → Same y z → Same x z := by
    intro x y z h g
    obtain ⟨l, hl⟩ := txt_ex x
    exact txt_same hl (by
      have h2 := txt_of_same g (txt_of_same h hl)
      exact h2)
  exact ⟨h.x.trans g.x, h.y.trans g.y, h.m.trans g.m, h.s.trans g.s, h.e.trans g.e, fun i hi => (h.tD i hi).trans (g.tD i hi), fun i hi => (h.tC i hi).trans (g.tC i hi), fun i hi => (h.cD i hi).trans (g.cD i hi), fun i hi => (h.cL i hi).trans (g.cL i hi), fun i hi => (h.cC i hi).trans (g.cC i hi), fun i hi => (h.d i hi).trans (g.d i hi), fun i hi => tt (h.r i hi) (g.r i hi), h.time.trans g.time, h.ran.trans g.ran, h.fault.trans g.fault⟩

/-- Unlike memories have unlike texts. -/
theorem text_inj {a b : MemV} {l : List UInt8} (ha : a.Ok) (hb : b.Ok) (h : TextOf a l) (g : TextOf b l) : SameM a b := by
  obtain ⟨tx, hx, rfl⟩ := h
  obtain ⟨ty, hy, e⟩ := g
  have ew := words_inj hx hy e
  obtain ⟨m, hm⟩ := steps_ex (allW a tx) memZ (fun w hw hk => by
    obtain ⟨h1, h2, -⟩ := (of_all hw).real hk
    exact ⟨_, h2 ▸ hx _ h1⟩)
  have s1 := back ha hx hm
  rw [ew] at hm
  exact sameM_trans (sameM_symm s1) (back hb hy hm)

end Go.Proofs.YtdhoimjkgicneaaDoor

/- The specification's MemSame: it answers whether two memories are the same. -/
namespace Go.Proofs.YtdhoimjkgicneaaDoor
open Go Go.RowKit

theorem txt_iff {x y : Nat} {l l' : List UInt8} (h : Txt x l) (g : Txt y l') : l = l' ↔ Same x y :=
  ⟨fun e => txt_same h (e ▸ g), fun s => txt_fun (txt_of_same s h) g⟩

set_option maxHeartbeats 1000000 in
theorem spec_same3 {x y : Nat} {q : Bool} (hq : q = true ↔ Same x y) (w : World) :
    Calls Tryd.prog 103 #[.float .f64 x, .float .f64 y] w fun e w' => e = .returned (.bool q) ∧ Below w.heap.size w w' := by
  have HQ : Hid (q = true ↔ Same x y) := hq
  clear hq
  go_enter Tryd.func103, Tryd.ntmps103
  go_wp2_with fail
  refine (specX_rtext x w).mono ?_
  rintro e w1 ⟨l1, rfl, t1, -, b1⟩
  have H1 : Hid (Txt x l1 ∧ Below w.heap.size w w1) := ⟨t1, b1⟩
  clear t1 b1
  go_wp2_with fail
  refine (specX_rtext y w1).mono ?_
  rintro e w2 ⟨l2, rfl, t2, -, b2⟩
  have H2 : Hid (Txt y l2 ∧ Below w1.heap.size w1 w2) := ⟨t2, b2⟩
  clear t2 b2
  go_wp2_with fail
  go_ret
  refine ⟨ret_bool ?_, H1.out.2.trans (H2.out.2.mono H1.out.2.size)⟩
  rw [Bool.eq_iff_iff, HQ.out, ← txt_iff H1.out.1 H2.out.1]
  simp

theorem two_timer (a a' : Bool) (c c' : Nat) : ∃ q : Bool, (∀ w, (binOp .neq 53 (.agg #[.bool a, .int .u16 c]) (.agg #[.bool a', .int .u16 c'])).run Tryd.prog w = .ok (.bool (!q)) w) ∧ (q = true ↔ a = a' ∧ c = c') := by
  refine ⟨decide (a = a' ∧ c = c'), fun w => ?_, by simp⟩
  obtain ⟨b, h1, h2⟩ := eq_timer 9998 (fun j => if j = 0 then .bool a else .int .u16 c) (fun j => if j = 0 then .bool a' else .int .u16 c') w rfl rfl rfl rfl
  have e : b = decide (a = a' ∧ c = c') := by
    rw [Bool.eq_iff_iff, h2]
    constructor
    · intro h
      have g0 := h 0 (by omega)
      have g1 := h 1 (by omega)
      simp at g0 g1
      exact decide_eq_true ⟨g0, by omega⟩
    · intro h j _
      simp at h
      simp [h.1, h.2]
  rw [← e]
  have h1' : (Op.equalIn 10000 53 (.agg #[.bool a, .int .u16 c]) (.agg #[.bool a', .int .u16 c'])).run Tryd.prog w = .ok b w := h1
  rw [run_neq_struct, h1']
  rfl

theorem two_counter (a a' l l' : Bool) (c c' : Nat) : ∃ q : Bool, (∀ w, (binOp .neq 56 (.agg #[.bool a, .bool l, .int .u16 c]) (.agg #[.bool a', .bool l', .int .u16 c'])).run Tryd.prog w = .ok (.bool (!q)) w) ∧ (q = true ↔ a = a' ∧ l = l' ∧ c = c') := by
  refine ⟨decide (a = a' ∧ l = l' ∧ c = c'), fun w => ?_, by simp⟩
  obtain ⟨b, h1, h2⟩ := eq_counter 9998 (fun j => if j = 0 then .bool a else if j = 1 then .bool l else .int .u16 c) (fun j => if j = 0 then .bool a' else if j = 1 then .bool l' else .int .u16 c') w rfl rfl rfl rfl rfl rfl
  have e : b = decide (a = a' ∧ l = l' ∧ c = c') := by
    rw [Bool.eq_iff_iff, h2]
    constructor
    · intro h
      have g0 := h 0 (by omega)
      have g1 := h 1 (by omega)
      have g2 := h 2 (by omega)
      simp at g0 g1 g2
      exact decide_eq_true ⟨g0, g1, by omega⟩
    · intro h j _
      simp at h
      simp [h.1, h.2.1, h.2.2]
  rw [← e]
  have h1' : (Op.equalIn 10000 56 (.agg #[.bool a, .bool l, .int .u16 c]) (.agg #[.bool a', .bool l', .int .u16 c'])).run Tryd.prog w = .ok b w := h1
  rw [run_neq_struct, h1']
  rfl

/-- The walk of a region that draws its order, shut: what unfolds by itself stands still. -/
structure WQ (P : Program) (ops : Array Oper) (C : World → Prop) (Q : Act → Prop) (l : List Oper) (a : Act) : Prop where
  out : wpQuiet P ops C Q l a

theorem wq_region {P : Program} {id : Nat} {Q : Exit → Act → World → Prop} {a : Act} {w : World} {l : List Oper} (hm : P.follows .mixedOrders = true) (hB : Region.lexB .any l.toArray = true)
    (h : WQ P l.toArray (Below w.heap.size w) (fun a' => ∀ w', Below w.heap.size w w' → Q .normal a' w') l a) : (Code.region id l.toArray true).wp P Q a w := wp_region_belowM hm hB h.out
theorem wq_nil {P : Program} {ops : Array Oper} {C : World → Prop} {Q : Act → Prop} {a : Act} (h : Q a) : WQ P ops C Q [] a := ⟨wpQuiet_nil h⟩
theorem wq_step {P : Program} {ops : Array Oper} {C : World → Prop} {Q : Act → Prop} {rest : List Oper} {o : Oper} {a : Act}
    (h : ∀ K : Act → Prop, (∀ a', WQ P ops C Q rest a' → K a') → if Region.wanted o (yielded ops a.tmps) then o.quiet P a C K else K (a.put o.dst undef)) : WQ P ops C Q (o :: rest) a := ⟨wpQuiet_step fun K hK => h K fun a' g => hK a' g.out⟩
theorem wq_bin {ops : Array Oper} {C : World → Prop} {Q : Act → Prop} {rest : List Oper} {o : Oper} {a : Act} {op : BinOp} {t t2 : TypeId} {x y : Operand} {u1 u2 v : Value} (ho : o.op = .binOp op t x y t2) (hx : a.eval x = u1) (hy : a.eval y = u2)
    (hg : Region.wanted o (yielded ops a.tmps) = true) (h1 : ∀ w, (eqGuard op t x y u1 u2).run Tryd.prog w = .ok () w) (h2 : ∀ w, (binOp op t u1 u2).run Tryd.prog w = .ok v w) (hK : WQ Tryd.prog ops C Q rest (a.put o.dst v)) : WQ Tryd.prog ops C Q (o :: rest) a :=
  ⟨quiet_bin ho hx hy hg h1 h2 hK.out⟩

/-- The devices that stand sixteen times are the same, up to a place. -/
def Upto (a b : MemV) (k : Nat) : Prop := ∀ i, i < k → Same (a.r i) (b.r i) ∧ (a.tD i = b.tD i ∧ a.tC i = b.tC i) ∧ a.cD i = b.cD i ∧ a.cL i = b.cL i ∧ a.cC i = b.cC i
theorem Upto.next {a b : MemV} {k : Nat} (h : Upto a b k) (g : Same (a.r k) (b.r k) ∧ (a.tD k = b.tD k ∧ a.tC k = b.tC k) ∧ a.cD k = b.cD k ∧ a.cL k = b.cL k ∧ a.cC k = b.cC k) : Upto a b (k + 1) := by
  intro i hi
  by_cases e : i = k
  · subst e; exact g
  · exact h i (by omega)
theorem not_same {a b : MemV} {k : Nat} (hk : k < 16) (h : ¬ (Same (a.r k) (b.r k) ∧ (a.tD k = b.tD k ∧ a.tC k = b.tC k) ∧ a.cD k = b.cD k ∧ a.cL k = b.cL k ∧ a.cC k = b.cC k)) : ¬ SameM a b := fun s =>
  h ⟨s.r k hk, ⟨s.tD k hk, s.tC k hk⟩, s.cD k hk, s.cL k hk, s.cC k hk⟩

theorem cells_at {v : MemV} {q : Nat} {w : World} (k : Nat) (hk : k < 16) (h : MemAt q v w) :
    w.cell? ⟨q, 117 + k, none⟩ = some (.float .f64 (v.r k)) ∧ w.cell? ⟨q, 5 + k * 2, none⟩ = some (.bool (v.tD k)) ∧ w.cell? ⟨q, 5 + k * 2 + 1, none⟩ = some (.int .u16 (v.tC k)) ∧
    w.cell? ⟨q, 37 + k * 3, none⟩ = some (.bool (v.cD k)) ∧ w.cell? ⟨q, 37 + k * 3 + 1, none⟩ = some (.bool (v.cL k)) ∧ w.cell? ⟨q, 37 + k * 3 + 2, none⟩ = some (.int .u16 (v.cC k)) :=
  ⟨by rw [h.c _ (by omega), v.cell_r k hk], by rw [h.c _ (by omega), v.cell_tD k hk], by rw [h.c _ (by omega), v.cell_tC k hk], by rw [h.c _ (by omega), v.cell_cD k hk], by rw [h.c _ (by omega), v.cell_cL k hk], by rw [h.c _ (by omega), v.cell_cC k hk]⟩

theorem int_at {v : MemV} {q : Nat} {w : World} (k : Nat) (hk : k < 32) (h : MemAt q v w) : w.cell? ⟨q, 85 + k, none⟩ = some (.int .i16 (v.d k)) := by rw [h.c _ (by omega), v.cell_d k hk]
theorem ends_at {v : MemV} {q : Nat} {w : World} (h : MemAt q v w) :
    w.cell? ⟨q, 0, none⟩ = some (.int .u32 v.x) ∧ w.cell? ⟨q, 1, none⟩ = some (.int .u32 v.y) ∧ w.cell? ⟨q, 2, none⟩ = some (.int .u64 v.m) ∧ w.cell? ⟨q, 3, none⟩ = some (.int .u16 v.s) ∧ w.cell? ⟨q, 4, none⟩ = some (.int .u32 v.e) ∧
    w.cell? ⟨q, 133, none⟩ = some (.int .u32 v.time) ∧ w.cell? ⟨q, 134, none⟩ = some (.bool v.ran) ∧ w.cell? ⟨q, 135, none⟩ = some (.bool v.fault) :=
  ⟨h.c 0 (by omega), h.c 1 (by omega), h.c 2 (by omega), h.c 3 (by omega), h.c 4 (by omega), h.c 133 (by omega), h.c 134 (by omega), h.c 135 (by omega)⟩

set_option maxRecDepth 100000 in
set_option maxHeartbeats 2000000 in
theorem spec_same (a b : MemV) (w : World) : Calls Tryd.prog 51 #[.agg a.row, .agg b.row] w (SameOf a b w) := by
  obtain ⟨A, B, BW⟩ := two_mems a b w 61 61
  go_enter Tryd.func51, Tryd.ntmps51
  go_wp2_with fail
  generalize ((w.alloc (.cells a.row 61)).alloc (.cells b.row 61)) = w0 at A B BW ⊢
  go_loopw [5] (fun i wr => ∃ k : Nat, k ≤ 16 ∧ i = .int .i64 k ∧ MemAt w.heap.size a wr ∧ MemAt (w.heap.size + 1) b wr ∧ Below w.heap.size w wr ∧ Upto a b k) (fun i _ => 16 - (intOf i).toNat)
  case atStart => exact ⟨0, by omega, rfl, A, B, BW, fun i hi => by omega⟩
  case round =>
    clear A B BW
    obtain ⟨k, hk, rfl, A, B, BW, U⟩ := hrel
    have HU : Hid (Upto a b k) := U
    clear U
    by_cases hlt : k < 16
    · obtain ⟨q1, h1⟩ : ∃ q : Bool, q = true ↔ Same (a.r k) (b.r k) := by
        by_cases h : Same (a.r k) (b.r k)
        · exact ⟨true, by simp [h]⟩
        · exact ⟨false, by simp [h]⟩
      obtain ⟨q2, Q2, h2⟩ := two_timer (a.tD k) (b.tD k) (a.tC k) (b.tC k)
      obtain ⟨q3, Q3, h3⟩ := two_counter (a.cD k) (b.cD k) (a.cL k) (b.cL k) (a.cC k) (b.cC k)
      have S1 := fun w' => spec_same3 h1 w'
      have LA := fun w' (hw' : Below wr.heap.size wr w') => cells_at k hlt (A.below hw' A.z)
      have LB := fun w' (hw' : Below wr.heap.size wr w') => cells_at k hlt (B.below hw' B.z)
      have H1 : Hid (q1 = true ↔ Same (a.r k) (b.r k)) := h1
      have H2 : Hid (q2 = true ↔ _) := h2
      have H3 : Hid (q3 = true ↔ _) := h3
      clear h1 h2 h3
      cases q1 with
      | false =>
        go_wp2_with fail
        refine wq_region (by kernel_rfl) (by kernel_rfl) ?_
        refine wq_step (fun K hK => ?_)
        go_simp
        first | (refine ⟨_, fun _ _ => rfl, hK _ ?_⟩; clear hK K) | (refine hK _ ?_; clear hK K)
        refine wq_step (fun K hK => ?_)
        go_simp
        first | (refine ⟨_, fun _ _ => rfl, hK _ ?_⟩; clear hK K) | (refine hK _ ?_; clear hK K)
        refine wq_step (fun K hK => ?_)
        go_simp
        first | (refine ⟨_, fun _ _ => rfl, hK _ ?_⟩; clear hK K) | (refine hK _ ?_; clear hK K)
        refine wq_step (fun K hK => ?_)
        go_simp
        refine ⟨.float .f64 (a.r k), fun w' hw' => ?_, hK _ ?_⟩
        · obtain ⟨cr, ct0, ct1, cc0, cc1, cc2⟩ := LA w' hw'
          simp [cr]
        clear hK K
        refine wq_step (fun K hK => ?_)
        go_simp
        first | (refine ⟨_, fun _ _ => rfl, hK _ ?_⟩; clear hK K) | (refine hK _ ?_; clear hK K)
        refine wq_step (fun K hK => ?_)
        go_simp
        first | (refine ⟨_, fun _ _ => rfl, hK _ ?_⟩; clear hK K) | (refine hK _ ?_; clear hK K)
        refine wq_step (fun K hK => ?_)
        go_simp
        first | (refine ⟨_, fun _ _ => rfl, hK _ ?_⟩; clear hK K) | (refine hK _ ?_; clear hK K)
        refine wq_step (fun K hK => ?_)
        go_simp
        refine ⟨.float .f64 (b.r k), fun w' hw' => ?_, hK _ ?_⟩
        · obtain ⟨cr, ct0, ct1, cc0, cc1, cc2⟩ := LB w' hw'
          simp [cr]
        clear hK K
        refine wq_step (fun K hK => ?_)
        go_simp
        refine ⟨.bool false, fun w' hw' => (S1 w').mono fun e w'' ⟨he, hb⟩ => ⟨he, hw'.trans (hb.mono hw'.size)⟩, hK _ ?_⟩
        clear hK K
        refine wq_step (fun K hK => ?_)
        go_simp
        first | (refine ⟨_, fun _ _ => rfl, hK _ ?_⟩; clear hK K) | (refine hK _ ?_; clear hK K)
        refine wq_step (fun K hK => ?_)
        go_simp
        first | (refine ⟨_, fun _ _ => rfl, hK _ ?_⟩; clear hK K) | (refine hK _ ?_; clear hK K)
        refine wq_step (fun K hK => ?_)
        go_simp
        first | (refine ⟨_, fun _ _ => rfl, hK _ ?_⟩; clear hK K) | (refine hK _ ?_; clear hK K)
        refine wq_step (fun K hK => ?_)
        go_simp
        first | (refine ⟨_, fun _ _ => rfl, hK _ ?_⟩; clear hK K) | (refine hK _ ?_; clear hK K)
        refine wq_step (fun K hK => ?_)
        go_simp
        first | (refine ⟨_, fun _ _ => rfl, hK _ ?_⟩; clear hK K) | (refine hK _ ?_; clear hK K)
        refine wq_step (fun K hK => ?_)
        go_simp
        first | (refine ⟨_, fun _ _ => rfl, hK _ ?_⟩; clear hK K) | (refine hK _ ?_; clear hK K)
        refine wq_step (fun K hK => ?_)
        go_simp
        first | (refine ⟨_, fun _ _ => rfl, hK _ ?_⟩; clear hK K) | (refine hK _ ?_; clear hK K)
        refine wq_step (fun K hK => ?_)
        go_simp
        first | (refine ⟨_, fun _ _ => rfl, hK _ ?_⟩; clear hK K) | (refine hK _ ?_; clear hK K)
        refine wq_step (fun K hK => ?_)
        go_simp
        first | (refine ⟨_, fun _ _ => rfl, hK _ ?_⟩; clear hK K) | (refine hK _ ?_; clear hK K)
        refine wq_step (fun K hK => ?_)
        go_simp
        first | (refine ⟨_, fun _ _ => rfl, hK _ ?_⟩; clear hK K) | (refine hK _ ?_; clear hK K)
        refine wq_step (fun K hK => ?_)
        go_simp
        first | (refine ⟨_, fun _ _ => rfl, hK _ ?_⟩; clear hK K) | (refine hK _ ?_; clear hK K)
        refine wq_step (fun K hK => ?_)
        go_simp
        first | (refine ⟨_, fun _ _ => rfl, hK _ ?_⟩; clear hK K) | (refine hK _ ?_; clear hK K)
        refine wq_step (fun K hK => ?_)
        go_simp
        first | (refine ⟨_, fun _ _ => rfl, hK _ ?_⟩; clear hK K) | (refine hK _ ?_; clear hK K)
        refine wq_step (fun K hK => ?_)
        go_simp
        first | (refine ⟨_, fun _ _ => rfl, hK _ ?_⟩; clear hK K) | (refine hK _ ?_; clear hK K)
        refine wq_step (fun K hK => ?_)
        go_simp
        first | (refine ⟨_, fun _ _ => rfl, hK _ ?_⟩; clear hK K) | (refine hK _ ?_; clear hK K)
        refine wq_step (fun K hK => ?_)
        go_simp
        first | (refine ⟨_, fun _ _ => rfl, hK _ ?_⟩; clear hK K) | (refine hK _ ?_; clear hK K)
        refine wq_step (fun K hK => ?_)
        go_simp
        first | (refine ⟨_, fun _ _ => rfl, hK _ ?_⟩; clear hK K) | (refine hK _ ?_; clear hK K)
        refine wq_step (fun K hK => ?_)
        go_simp
        first | (refine ⟨_, fun _ _ => rfl, hK _ ?_⟩; clear hK K) | (refine hK _ ?_; clear hK K)
        refine wq_step (fun K hK => ?_)
        go_simp
        first | (refine ⟨_, fun _ _ => rfl, hK _ ?_⟩; clear hK K) | (refine hK _ ?_; clear hK K)
        refine wq_step (fun K hK => ?_)
        go_simp
        first | (refine ⟨_, fun _ _ => rfl, hK _ ?_⟩; clear hK K) | (refine hK _ ?_; clear hK K)
        refine wq_step (fun K hK => ?_)
        go_simp
        first | (refine ⟨_, fun _ _ => rfl, hK _ ?_⟩; clear hK K) | (refine hK _ ?_; clear hK K)
        refine wq_step (fun K hK => ?_)
        go_simp
        first | (refine ⟨_, fun _ _ => rfl, hK _ ?_⟩; clear hK K) | (refine hK _ ?_; clear hK K)
        refine wq_step (fun K hK => ?_)
        go_simp
        first | (refine ⟨_, fun _ _ => rfl, hK _ ?_⟩; clear hK K) | (refine hK _ ?_; clear hK K)
        refine wq_nil ?_
        intro w1 hw1
        have BW1 := BW.trans (hw1.mono BW.size)
        clear LA LB S1 A B BW Q2 Q3 hw1
        go_wp2_with fail
        go_ret
        exact ⟨false, rfl, ⟨fun h => by (cases h), fun h => absurd h (not_same hlt fun h => by have := H1.out.2 h.1; cases this)⟩, BW1⟩
      | true =>
        cases q2 with
        | false =>
          go_wp2_with fail
          refine wq_region (by kernel_rfl) (by kernel_rfl) ?_
          refine wq_step (fun K hK => ?_)
          go_simp
          first | (refine ⟨_, fun _ _ => rfl, hK _ ?_⟩; clear hK K) | (refine hK _ ?_; clear hK K)
          refine wq_step (fun K hK => ?_)
          go_simp
          first | (refine ⟨_, fun _ _ => rfl, hK _ ?_⟩; clear hK K) | (refine hK _ ?_; clear hK K)
          refine wq_step (fun K hK => ?_)
          go_simp
          first | (refine ⟨_, fun _ _ => rfl, hK _ ?_⟩; clear hK K) | (refine hK _ ?_; clear hK K)
          refine wq_step (fun K hK => ?_)
          go_simp
          refine ⟨.float .f64 (a.r k), fun w' hw' => ?_, hK _ ?_⟩
          · obtain ⟨cr, ct0, ct1, cc0, cc1, cc2⟩ := LA w' hw'
            simp [cr]
          clear hK K
          refine wq_step (fun K hK => ?_)
          go_simp
          first | (refine ⟨_, fun _ _ => rfl, hK _ ?_⟩; clear hK K) | (refine hK _ ?_; clear hK K)
          refine wq_step (fun K hK => ?_)
          go_simp
          first | (refine ⟨_, fun _ _ => rfl, hK _ ?_⟩; clear hK K) | (refine hK _ ?_; clear hK K)
          refine wq_step (fun K hK => ?_)
          go_simp
          first | (refine ⟨_, fun _ _ => rfl, hK _ ?_⟩; clear hK K) | (refine hK _ ?_; clear hK K)
          refine wq_step (fun K hK => ?_)
          go_simp
          refine ⟨.float .f64 (b.r k), fun w' hw' => ?_, hK _ ?_⟩
          · obtain ⟨cr, ct0, ct1, cc0, cc1, cc2⟩ := LB w' hw'
            simp [cr]
          clear hK K
          refine wq_step (fun K hK => ?_)
          go_simp
          refine ⟨.bool true, fun w' hw' => (S1 w').mono fun e w'' ⟨he, hb⟩ => ⟨he, hw'.trans (hb.mono hw'.size)⟩, hK _ ?_⟩
          clear hK K
          refine wq_step (fun K hK => ?_)
          go_simp
          first | (refine ⟨_, fun _ _ => rfl, hK _ ?_⟩; clear hK K) | (refine hK _ ?_; clear hK K)
          refine wq_step (fun K hK => ?_)
          go_simp
          first | (refine ⟨_, fun _ _ => rfl, hK _ ?_⟩; clear hK K) | (refine hK _ ?_; clear hK K)
          refine wq_step (fun K hK => ?_)
          go_simp
          first | (refine ⟨_, fun _ _ => rfl, hK _ ?_⟩; clear hK K) | (refine hK _ ?_; clear hK K)
          refine wq_step (fun K hK => ?_)
          go_simp
          first | (refine ⟨_, fun _ _ => rfl, hK _ ?_⟩; clear hK K) | (refine hK _ ?_; clear hK K)
          refine wq_step (fun K hK => ?_)
          go_simp
          first | (refine ⟨_, fun _ _ => rfl, hK _ ?_⟩; clear hK K) | (refine hK _ ?_; clear hK K)
          refine wq_step (fun K hK => ?_)
          go_simp
          refine ⟨.agg #[.bool (a.tD k), .int .u16 (a.tC k)], fun w' hw' => ?_, hK _ ?_⟩
          · obtain ⟨cr, ct0, ct1, cc0, cc1, cc2⟩ := LA w' hw'
            simp [ct0, ct1]
          clear hK K
          refine wq_step (fun K hK => ?_)
          go_simp
          first | (refine ⟨_, fun _ _ => rfl, hK _ ?_⟩; clear hK K) | (refine hK _ ?_; clear hK K)
          refine wq_step (fun K hK => ?_)
          go_simp
          first | (refine ⟨_, fun _ _ => rfl, hK _ ?_⟩; clear hK K) | (refine hK _ ?_; clear hK K)
          refine wq_step (fun K hK => ?_)
          go_simp
          first | (refine ⟨_, fun _ _ => rfl, hK _ ?_⟩; clear hK K) | (refine hK _ ?_; clear hK K)
          refine wq_step (fun K hK => ?_)
          go_simp
          refine ⟨.agg #[.bool (b.tD k), .int .u16 (b.tC k)], fun w' hw' => ?_, hK _ ?_⟩
          · obtain ⟨cr, ct0, ct1, cc0, cc1, cc2⟩ := LB w' hw'
            simp [ct0, ct1]
          clear hK K
          refine wq_bin (t := 53) rfl rfl rfl rfl (fun w => run_eqGuard_agg w _ _ _ _ _ _ (by kernel_rfl)) Q2 ?_
          go_simp
          refine wq_step (fun K hK => ?_)
          go_simp
          first | (refine ⟨_, fun _ _ => rfl, hK _ ?_⟩; clear hK K) | (refine hK _ ?_; clear hK K)
          refine wq_step (fun K hK => ?_)
          go_simp
          first | (refine ⟨_, fun _ _ => rfl, hK _ ?_⟩; clear hK K) | (refine hK _ ?_; clear hK K)
          refine wq_step (fun K hK => ?_)
          go_simp
          first | (refine ⟨_, fun _ _ => rfl, hK _ ?_⟩; clear hK K) | (refine hK _ ?_; clear hK K)
          refine wq_step (fun K hK => ?_)
          go_simp
          first | (refine ⟨_, fun _ _ => rfl, hK _ ?_⟩; clear hK K) | (refine hK _ ?_; clear hK K)
          refine wq_step (fun K hK => ?_)
          go_simp
          first | (refine ⟨_, fun _ _ => rfl, hK _ ?_⟩; clear hK K) | (refine hK _ ?_; clear hK K)
          refine wq_step (fun K hK => ?_)
          go_simp
          first | (refine ⟨_, fun _ _ => rfl, hK _ ?_⟩; clear hK K) | (refine hK _ ?_; clear hK K)
          refine wq_step (fun K hK => ?_)
          go_simp
          first | (refine ⟨_, fun _ _ => rfl, hK _ ?_⟩; clear hK K) | (refine hK _ ?_; clear hK K)
          refine wq_step (fun K hK => ?_)
          go_simp
          first | (refine ⟨_, fun _ _ => rfl, hK _ ?_⟩; clear hK K) | (refine hK _ ?_; clear hK K)
          refine wq_step (fun K hK => ?_)
          go_simp
          first | (refine ⟨_, fun _ _ => rfl, hK _ ?_⟩; clear hK K) | (refine hK _ ?_; clear hK K)
          refine wq_step (fun K hK => ?_)
          go_simp
          first | (refine ⟨_, fun _ _ => rfl, hK _ ?_⟩; clear hK K) | (refine hK _ ?_; clear hK K)
          refine wq_step (fun K hK => ?_)
          go_simp
          first | (refine ⟨_, fun _ _ => rfl, hK _ ?_⟩; clear hK K) | (refine hK _ ?_; clear hK K)
          refine wq_step (fun K hK => ?_)
          go_simp
          first | (refine ⟨_, fun _ _ => rfl, hK _ ?_⟩; clear hK K) | (refine hK _ ?_; clear hK K)
          refine wq_nil ?_
          intro w1 hw1
          have BW1 := BW.trans (hw1.mono BW.size)
          clear LA LB S1 A B BW Q2 Q3 hw1
          go_wp2_with fail
          go_ret
          exact ⟨false, rfl, ⟨fun h => by (cases h), fun h => absurd h (not_same hlt fun h => by have := H2.out.2 h.2.1; cases this)⟩, BW1⟩
        | true =>
          cases q3 with
          | false =>
            go_wp2_with fail
            refine wq_region (by kernel_rfl) (by kernel_rfl) ?_
            refine wq_step (fun K hK => ?_)
            go_simp
            first | (refine ⟨_, fun _ _ => rfl, hK _ ?_⟩; clear hK K) | (refine hK _ ?_; clear hK K)
            refine wq_step (fun K hK => ?_)
            go_simp
            first | (refine ⟨_, fun _ _ => rfl, hK _ ?_⟩; clear hK K) | (refine hK _ ?_; clear hK K)
            refine wq_step (fun K hK => ?_)
            go_simp
            first | (refine ⟨_, fun _ _ => rfl, hK _ ?_⟩; clear hK K) | (refine hK _ ?_; clear hK K)
            refine wq_step (fun K hK => ?_)
            go_simp
            refine ⟨.float .f64 (a.r k), fun w' hw' => ?_, hK _ ?_⟩
            · obtain ⟨cr, ct0, ct1, cc0, cc1, cc2⟩ := LA w' hw'
              simp [cr]
            clear hK K
            refine wq_step (fun K hK => ?_)
            go_simp
            first | (refine ⟨_, fun _ _ => rfl, hK _ ?_⟩; clear hK K) | (refine hK _ ?_; clear hK K)
            refine wq_step (fun K hK => ?_)
            go_simp
            first | (refine ⟨_, fun _ _ => rfl, hK _ ?_⟩; clear hK K) | (refine hK _ ?_; clear hK K)
            refine wq_step (fun K hK => ?_)
            go_simp
            first | (refine ⟨_, fun _ _ => rfl, hK _ ?_⟩; clear hK K) | (refine hK _ ?_; clear hK K)
            refine wq_step (fun K hK => ?_)
            go_simp
            refine ⟨.float .f64 (b.r k), fun w' hw' => ?_, hK _ ?_⟩
            · obtain ⟨cr, ct0, ct1, cc0, cc1, cc2⟩ := LB w' hw'
              simp [cr]
            clear hK K
            refine wq_step (fun K hK => ?_)
            go_simp
            refine ⟨.bool true, fun w' hw' => (S1 w').mono fun e w'' ⟨he, hb⟩ => ⟨he, hw'.trans (hb.mono hw'.size)⟩, hK _ ?_⟩
            clear hK K
            refine wq_step (fun K hK => ?_)
            go_simp
            first | (refine ⟨_, fun _ _ => rfl, hK _ ?_⟩; clear hK K) | (refine hK _ ?_; clear hK K)
            refine wq_step (fun K hK => ?_)
            go_simp
            first | (refine ⟨_, fun _ _ => rfl, hK _ ?_⟩; clear hK K) | (refine hK _ ?_; clear hK K)
            refine wq_step (fun K hK => ?_)
            go_simp
            first | (refine ⟨_, fun _ _ => rfl, hK _ ?_⟩; clear hK K) | (refine hK _ ?_; clear hK K)
            refine wq_step (fun K hK => ?_)
            go_simp
            first | (refine ⟨_, fun _ _ => rfl, hK _ ?_⟩; clear hK K) | (refine hK _ ?_; clear hK K)
            refine wq_step (fun K hK => ?_)
            go_simp
            first | (refine ⟨_, fun _ _ => rfl, hK _ ?_⟩; clear hK K) | (refine hK _ ?_; clear hK K)
            refine wq_step (fun K hK => ?_)
            go_simp
            refine ⟨.agg #[.bool (a.tD k), .int .u16 (a.tC k)], fun w' hw' => ?_, hK _ ?_⟩
            · obtain ⟨cr, ct0, ct1, cc0, cc1, cc2⟩ := LA w' hw'
              simp [ct0, ct1]
            clear hK K
            refine wq_step (fun K hK => ?_)
            go_simp
            first | (refine ⟨_, fun _ _ => rfl, hK _ ?_⟩; clear hK K) | (refine hK _ ?_; clear hK K)
            refine wq_step (fun K hK => ?_)
            go_simp
            first | (refine ⟨_, fun _ _ => rfl, hK _ ?_⟩; clear hK K) | (refine hK _ ?_; clear hK K)
            refine wq_step (fun K hK => ?_)
            go_simp
            first | (refine ⟨_, fun _ _ => rfl, hK _ ?_⟩; clear hK K) | (refine hK _ ?_; clear hK K)
            refine wq_step (fun K hK => ?_)
            go_simp
            refine ⟨.agg #[.bool (b.tD k), .int .u16 (b.tC k)], fun w' hw' => ?_, hK _ ?_⟩
            · obtain ⟨cr, ct0, ct1, cc0, cc1, cc2⟩ := LB w' hw'
              simp [ct0, ct1]
            clear hK K
            refine wq_bin (t := 53) rfl rfl rfl rfl (fun w => run_eqGuard_agg w _ _ _ _ _ _ (by kernel_rfl)) Q2 ?_
            go_simp
            refine wq_step (fun K hK => ?_)
            go_simp
            first | (refine ⟨_, fun _ _ => rfl, hK _ ?_⟩; clear hK K) | (refine hK _ ?_; clear hK K)
            refine wq_step (fun K hK => ?_)
            go_simp
            first | (refine ⟨_, fun _ _ => rfl, hK _ ?_⟩; clear hK K) | (refine hK _ ?_; clear hK K)
            refine wq_step (fun K hK => ?_)
            go_simp
            first | (refine ⟨_, fun _ _ => rfl, hK _ ?_⟩; clear hK K) | (refine hK _ ?_; clear hK K)
            refine wq_step (fun K hK => ?_)
            go_simp
            first | (refine ⟨_, fun _ _ => rfl, hK _ ?_⟩; clear hK K) | (refine hK _ ?_; clear hK K)
            refine wq_step (fun K hK => ?_)
            go_simp
            first | (refine ⟨_, fun _ _ => rfl, hK _ ?_⟩; clear hK K) | (refine hK _ ?_; clear hK K)
            refine wq_step (fun K hK => ?_)
            go_simp
            refine ⟨.agg #[.bool (a.cD k), .bool (a.cL k), .int .u16 (a.cC k)], fun w' hw' => ?_, hK _ ?_⟩
            · obtain ⟨cr, ct0, ct1, cc0, cc1, cc2⟩ := LA w' hw'
              simp [cc0, cc1, cc2]
            clear hK K
            refine wq_step (fun K hK => ?_)
            go_simp
            first | (refine ⟨_, fun _ _ => rfl, hK _ ?_⟩; clear hK K) | (refine hK _ ?_; clear hK K)
            refine wq_step (fun K hK => ?_)
            go_simp
            first | (refine ⟨_, fun _ _ => rfl, hK _ ?_⟩; clear hK K) | (refine hK _ ?_; clear hK K)
            refine wq_step (fun K hK => ?_)
            go_simp
            first | (refine ⟨_, fun _ _ => rfl, hK _ ?_⟩; clear hK K) | (refine hK _ ?_; clear hK K)
            refine wq_step (fun K hK => ?_)
            go_simp
            refine ⟨.agg #[.bool (b.cD k), .bool (b.cL k), .int .u16 (b.cC k)], fun w' hw' => ?_, hK _ ?_⟩
            · obtain ⟨cr, ct0, ct1, cc0, cc1, cc2⟩ := LB w' hw'
              simp [cc0, cc1, cc2]
            clear hK K
            refine wq_bin (t := 56) rfl rfl rfl rfl (fun w => run_eqGuard_agg w _ _ _ _ _ _ (by kernel_rfl)) Q3 ?_
            go_simp
            refine wq_step (fun K hK => ?_)
            go_simp
            first | (refine ⟨_, fun _ _ => rfl, hK _ ?_⟩; clear hK K) | (refine hK _ ?_; clear hK K)
            refine wq_nil ?_
            intro w1 hw1
            have BW1 := BW.trans (hw1.mono BW.size)
            clear LA LB S1 A B BW Q2 Q3 hw1
            go_wp2_with fail
            go_ret
            exact ⟨false, rfl, ⟨fun h => by (cases h), fun h => absurd h (not_same hlt fun h => by have := H3.out.2 h.2.2; cases this)⟩, BW1⟩
          | true =>
            go_wp2_with fail
            refine wq_region (by kernel_rfl) (by kernel_rfl) ?_
            refine wq_step (fun K hK => ?_)
            go_simp
            first | (refine ⟨_, fun _ _ => rfl, hK _ ?_⟩; clear hK K) | (refine hK _ ?_; clear hK K)
            refine wq_step (fun K hK => ?_)
            go_simp
            first | (refine ⟨_, fun _ _ => rfl, hK _ ?_⟩; clear hK K) | (refine hK _ ?_; clear hK K)
            refine wq_step (fun K hK => ?_)
            go_simp
            first | (refine ⟨_, fun _ _ => rfl, hK _ ?_⟩; clear hK K) | (refine hK _ ?_; clear hK K)
            refine wq_step (fun K hK => ?_)
            go_simp
            refine ⟨.float .f64 (a.r k), fun w' hw' => ?_, hK _ ?_⟩
            · obtain ⟨cr, ct0, ct1, cc0, cc1, cc2⟩ := LA w' hw'
              simp [cr]
            clear hK K
            refine wq_step (fun K hK => ?_)
            go_simp
            first | (refine ⟨_, fun _ _ => rfl, hK _ ?_⟩; clear hK K) | (refine hK _ ?_; clear hK K)
            refine wq_step (fun K hK => ?_)
            go_simp
            first | (refine ⟨_, fun _ _ => rfl, hK _ ?_⟩; clear hK K) | (refine hK _ ?_; clear hK K)
            refine wq_step (fun K hK => ?_)
            go_simp
            first | (refine ⟨_, fun _ _ => rfl, hK _ ?_⟩; clear hK K) | (refine hK _ ?_; clear hK K)
            refine wq_step (fun K hK => ?_)
            go_simp
            refine ⟨.float .f64 (b.r k), fun w' hw' => ?_, hK _ ?_⟩
            · obtain ⟨cr, ct0, ct1, cc0, cc1, cc2⟩ := LB w' hw'
              simp [cr]
            clear hK K
            refine wq_step (fun K hK => ?_)
            go_simp
            refine ⟨.bool true, fun w' hw' => (S1 w').mono fun e w'' ⟨he, hb⟩ => ⟨he, hw'.trans (hb.mono hw'.size)⟩, hK _ ?_⟩
            clear hK K
            refine wq_step (fun K hK => ?_)
            go_simp
            first | (refine ⟨_, fun _ _ => rfl, hK _ ?_⟩; clear hK K) | (refine hK _ ?_; clear hK K)
            refine wq_step (fun K hK => ?_)
            go_simp
            first | (refine ⟨_, fun _ _ => rfl, hK _ ?_⟩; clear hK K) | (refine hK _ ?_; clear hK K)
            refine wq_step (fun K hK => ?_)
            go_simp
            first | (refine ⟨_, fun _ _ => rfl, hK _ ?_⟩; clear hK K) | (refine hK _ ?_; clear hK K)
            refine wq_step (fun K hK => ?_)
            go_simp
            first | (refine ⟨_, fun _ _ => rfl, hK _ ?_⟩; clear hK K) | (refine hK _ ?_; clear hK K)
            refine wq_step (fun K hK => ?_)
            go_simp
            first | (refine ⟨_, fun _ _ => rfl, hK _ ?_⟩; clear hK K) | (refine hK _ ?_; clear hK K)
            refine wq_step (fun K hK => ?_)
            go_simp
            refine ⟨.agg #[.bool (a.tD k), .int .u16 (a.tC k)], fun w' hw' => ?_, hK _ ?_⟩
            · obtain ⟨cr, ct0, ct1, cc0, cc1, cc2⟩ := LA w' hw'
              simp [ct0, ct1]
            clear hK K
            refine wq_step (fun K hK => ?_)
            go_simp
            first | (refine ⟨_, fun _ _ => rfl, hK _ ?_⟩; clear hK K) | (refine hK _ ?_; clear hK K)
            refine wq_step (fun K hK => ?_)
            go_simp
            first | (refine ⟨_, fun _ _ => rfl, hK _ ?_⟩; clear hK K) | (refine hK _ ?_; clear hK K)
            refine wq_step (fun K hK => ?_)
            go_simp
            first | (refine ⟨_, fun _ _ => rfl, hK _ ?_⟩; clear hK K) | (refine hK _ ?_; clear hK K)
            refine wq_step (fun K hK => ?_)
            go_simp
            refine ⟨.agg #[.bool (b.tD k), .int .u16 (b.tC k)], fun w' hw' => ?_, hK _ ?_⟩
            · obtain ⟨cr, ct0, ct1, cc0, cc1, cc2⟩ := LB w' hw'
              simp [ct0, ct1]
            clear hK K
            refine wq_bin (t := 53) rfl rfl rfl rfl (fun w => run_eqGuard_agg w _ _ _ _ _ _ (by kernel_rfl)) Q2 ?_
            go_simp
            refine wq_step (fun K hK => ?_)
            go_simp
            first | (refine ⟨_, fun _ _ => rfl, hK _ ?_⟩; clear hK K) | (refine hK _ ?_; clear hK K)
            refine wq_step (fun K hK => ?_)
            go_simp
            first | (refine ⟨_, fun _ _ => rfl, hK _ ?_⟩; clear hK K) | (refine hK _ ?_; clear hK K)
            refine wq_step (fun K hK => ?_)
            go_simp
            first | (refine ⟨_, fun _ _ => rfl, hK _ ?_⟩; clear hK K) | (refine hK _ ?_; clear hK K)
            refine wq_step (fun K hK => ?_)
            go_simp
            first | (refine ⟨_, fun _ _ => rfl, hK _ ?_⟩; clear hK K) | (refine hK _ ?_; clear hK K)
            refine wq_step (fun K hK => ?_)
            go_simp
            first | (refine ⟨_, fun _ _ => rfl, hK _ ?_⟩; clear hK K) | (refine hK _ ?_; clear hK K)
            refine wq_step (fun K hK => ?_)
            go_simp
            refine ⟨.agg #[.bool (a.cD k), .bool (a.cL k), .int .u16 (a.cC k)], fun w' hw' => ?_, hK _ ?_⟩
            · obtain ⟨cr, ct0, ct1, cc0, cc1, cc2⟩ := LA w' hw'
              simp [cc0, cc1, cc2]
            clear hK K
            refine wq_step (fun K hK => ?_)
            go_simp
            first | (refine ⟨_, fun _ _ => rfl, hK _ ?_⟩; clear hK K) | (refine hK _ ?_; clear hK K)
            refine wq_step (fun K hK => ?_)
            go_simp
            first | (refine ⟨_, fun _ _ => rfl, hK _ ?_⟩; clear hK K) | (refine hK _ ?_; clear hK K)
            refine wq_step (fun K hK => ?_)
            go_simp
            first | (refine ⟨_, fun _ _ => rfl, hK _ ?_⟩; clear hK K) | (refine hK _ ?_; clear hK K)
            refine wq_step (fun K hK => ?_)
            go_simp
            refine ⟨.agg #[.bool (b.cD k), .bool (b.cL k), .int .u16 (b.cC k)], fun w' hw' => ?_, hK _ ?_⟩
            · obtain ⟨cr, ct0, ct1, cc0, cc1, cc2⟩ := LB w' hw'
              simp [cc0, cc1, cc2]
            clear hK K
            refine wq_bin (t := 56) rfl rfl rfl rfl (fun w => run_eqGuard_agg w _ _ _ _ _ _ (by kernel_rfl)) Q3 ?_
            go_simp
            refine wq_step (fun K hK => ?_)
            go_simp
            first | (refine ⟨_, fun _ _ => rfl, hK _ ?_⟩; clear hK K) | (refine hK _ ?_; clear hK K)
            refine wq_nil ?_
            intro w1 hw1
            have A1 := A.below hw1 A.z
            have B1 := B.below hw1 B.z
            have BW1 := BW.trans (hw1.mono BW.size)
            clear LA LB S1 A B BW Q2 Q3 hw1
            go_wp2_with fail
            go_roundw
            case rel => exact ⟨k + 1, by omega, by go_num, A1, B1, BW1, HU.out.next ⟨H1.out.1 (by trivial), H2.out.1 (by trivial), H3.out.1 (by trivial)⟩⟩
            case measure => simp [intOf]; omega
    · have e : k = 16 := by omega
      subst e
      go_wp2_with fail
      have e16 : ((16 : Nat) : Int) = 16 := rfl
      simp only [e16]
      go_loopw [6] (fun i wr => ∃ k : Nat, k ≤ 32 ∧ i = .int .i64 k ∧ MemAt w.heap.size a wr ∧ MemAt (w.heap.size + 1) b wr ∧ Below w.heap.size w wr ∧ ∀ i, i < k → a.d i = b.d i) (fun i _ => 32 - (intOf i).toNat)
      case atStart => exact ⟨0, by omega, rfl, A, B, BW, fun i hi => by omega⟩
      case round =>
        clear A B BW
        obtain ⟨k, hk, rfl, A, B, BW, V⟩ := hrel
        have HV : Hid (∀ i, i < k → a.d i = b.d i) := V
        clear V
        by_cases hlt : k < 32
        · have LA := fun w' (hw' : Below wr.heap.size wr w') => int_at k hlt (A.below hw' A.z)
          have LB := fun w' (hw' : Below wr.heap.size wr w') => int_at k hlt (B.below hw' B.z)
          by_cases hd : a.d k = b.d k
          · have HD : Hid (a.d k = b.d k) := hd
            clear hd
            go_wp2_with fail
            refine wq_region (by kernel_rfl) (by kernel_rfl) ?_
            refine wq_step (fun K hK => ?_)
            go_simp
            first | (refine ⟨_, fun _ _ => rfl, hK _ ?_⟩; clear hK K) | (refine hK _ ?_; clear hK K)
            refine wq_step (fun K hK => ?_)
            go_simp
            first | (refine ⟨_, fun _ _ => rfl, hK _ ?_⟩; clear hK K) | (refine hK _ ?_; clear hK K)
            refine wq_step (fun K hK => ?_)
            go_simp
            first | (refine ⟨_, fun _ _ => rfl, hK _ ?_⟩; clear hK K) | (refine hK _ ?_; clear hK K)
            refine wq_step (fun K hK => ?_)
            go_simp
            refine ⟨.int .i16 (a.d k), fun w' hw' => ?_, hK _ ?_⟩
            · have c := LA w' hw'
              simp [c]
            clear hK K
            refine wq_step (fun K hK => ?_)
            go_simp
            first | (refine ⟨_, fun _ _ => rfl, hK _ ?_⟩; clear hK K) | (refine hK _ ?_; clear hK K)
            refine wq_step (fun K hK => ?_)
            go_simp
            first | (refine ⟨_, fun _ _ => rfl, hK _ ?_⟩; clear hK K) | (refine hK _ ?_; clear hK K)
            refine wq_step (fun K hK => ?_)
            go_simp
            first | (refine ⟨_, fun _ _ => rfl, hK _ ?_⟩; clear hK K) | (refine hK _ ?_; clear hK K)
            refine wq_step (fun K hK => ?_)
            go_simp
            refine ⟨.int .i16 (b.d k), fun w' hw' => ?_, hK _ ?_⟩
            · have c := LB w' hw'
              simp [c]
            clear hK K
            refine wq_step (fun K hK => ?_)
            go_simp
            refine ⟨.bool false, fun _ _ => by simp [HD.out], hK _ ?_⟩
            clear hK K
            refine wq_nil ?_
            intro w1 hw1
            have A1 := A.below hw1 A.z
            have B1 := B.below hw1 B.z
            have BW1 := BW.trans (hw1.mono BW.size)
            clear LA LB A B BW hw1
            go_wp2_with fail
            go_roundw
            case rel =>
              refine ⟨k + 1, by omega, by go_num, A1, B1, BW1, fun i hi => ?_⟩
              by_cases e : i = k
              · rw [e]; exact HD.out
              · exact HV.out i (by omega)
            case measure => simp [intOf]; omega
          · have HD : Hid (¬ a.d k = b.d k) := hd
            clear hd
            go_wp2_with fail
            refine wq_region (by kernel_rfl) (by kernel_rfl) ?_
            refine wq_step (fun K hK => ?_)
            go_simp
            first | (refine ⟨_, fun _ _ => rfl, hK _ ?_⟩; clear hK K) | (refine hK _ ?_; clear hK K)
            refine wq_step (fun K hK => ?_)
            go_simp
            first | (refine ⟨_, fun _ _ => rfl, hK _ ?_⟩; clear hK K) | (refine hK _ ?_; clear hK K)
            refine wq_step (fun K hK => ?_)
            go_simp
            first | (refine ⟨_, fun _ _ => rfl, hK _ ?_⟩; clear hK K) | (refine hK _ ?_; clear hK K)
            refine wq_step (fun K hK => ?_)
            go_simp
            refine ⟨.int .i16 (a.d k), fun w' hw' => ?_, hK _ ?_⟩
            · have c := LA w' hw'
              simp [c]
            clear hK K
            refine wq_step (fun K hK => ?_)
            go_simp
            first | (refine ⟨_, fun _ _ => rfl, hK _ ?_⟩; clear hK K) | (refine hK _ ?_; clear hK K)
            refine wq_step (fun K hK => ?_)
            go_simp
            first | (refine ⟨_, fun _ _ => rfl, hK _ ?_⟩; clear hK K) | (refine hK _ ?_; clear hK K)
            refine wq_step (fun K hK => ?_)
            go_simp
            first | (refine ⟨_, fun _ _ => rfl, hK _ ?_⟩; clear hK K) | (refine hK _ ?_; clear hK K)
            refine wq_step (fun K hK => ?_)
            go_simp
            refine ⟨.int .i16 (b.d k), fun w' hw' => ?_, hK _ ?_⟩
            · have c := LB w' hw'
              simp [c]
            clear hK K
            refine wq_step (fun K hK => ?_)
            go_simp
            refine ⟨.bool true, fun _ _ => by simp [HD.out], hK _ ?_⟩
            clear hK K
            refine wq_nil ?_
            intro w1 hw1
            have BW1 := BW.trans (hw1.mono BW.size)
            clear LA LB A B BW hw1
            go_wp2_with fail
            go_ret
            exact ⟨false, rfl, ⟨fun h => by (cases h), fun h => absurd (h.d k hlt) HD.out⟩, BW1⟩
        · have e : k = 32 := by omega
          subst e
          obtain ⟨a0, a1, a2, a3, a4, a5, a6, a7⟩ := ends_at A
          obtain ⟨b0, b1, b2, b3, b4, b5, b6, b7⟩ := ends_at B
          have HB : Hid (Below w.heap.size w wr) := BW
          clear A B BW
          by_cases h0 : a.x = b.x
          · skip
            by_cases h1 : a.y = b.y
            · skip
              by_cases h2 : a.m = b.m
              · skip
                by_cases h3 : a.s = b.s
                · skip
                  by_cases h4 : a.e = b.e
                  · skip
                    by_cases h5 : a.time = b.time
                    · skip
                      by_cases h6 : a.ran = b.ran
                      · skip
                        by_cases h7 : a.fault = b.fault
                        · skip
                          go_wp2_with fail
                          go_ret
                          exact ⟨true, rfl, ⟨fun _ => ⟨h0, h1, h2, h3, h4, fun i hi => (HU.out i hi).2.1.1, fun i hi => (HU.out i hi).2.1.2, fun i hi => (HU.out i hi).2.2.1, fun i hi => (HU.out i hi).2.2.2.1, fun i hi => (HU.out i hi).2.2.2.2, HV.out, fun i hi => (HU.out i hi).1, h5, h6, h7⟩, fun _ => rfl⟩, HB.out⟩
                        · go_wp2_with fail
                          go_ret
                          exact ⟨a.fault == b.fault, rfl, ⟨fun h => absurd (by simpa using h) h7, fun h => absurd h.fault h7⟩, HB.out⟩
                      · go_wp2_with fail
                        go_ret
                        exact ⟨false, rfl, ⟨fun h => by (cases h), fun h => absurd h.ran h6⟩, HB.out⟩
                    · go_wp2_with fail
                      go_ret
                      exact ⟨false, rfl, ⟨fun h => by (cases h), fun h => absurd h.time h5⟩, HB.out⟩
                  · go_wp2_with fail
                    go_ret
                    exact ⟨false, rfl, ⟨fun h => by (cases h), fun h => absurd h.e h4⟩, HB.out⟩
                · go_wp2_with fail
                  go_ret
                  exact ⟨false, rfl, ⟨fun h => by (cases h), fun h => absurd h.s h3⟩, HB.out⟩
              · go_wp2_with fail
                go_ret
                exact ⟨false, rfl, ⟨fun h => by (cases h), fun h => absurd h.m h2⟩, HB.out⟩
            · go_wp2_with fail
              go_ret
              exact ⟨false, rfl, ⟨fun h => by (cases h), fun h => absurd h.y h1⟩, HB.out⟩
          · go_wp2_with fail
            go_ret
            exact ⟨false, rfl, ⟨fun h => by (cases h), fun h => absurd h.x h0⟩, HB.out⟩

end Go.Proofs.YtdhoimjkgicneaaDoor
