/- Texts of this proof laid together: MtA, MtB, MtC. -/
import Derived.Test.YtdhoimjkgicneaaGreatDoorLot1
import Derived.Test.YtdhoimjkgicneaaGreatDoorLot9
import Derived.Lib.Join
/- The text of a memory, word by word; and what words make a memory. Of no one program. -/
namespace Go.Proofs.YtdhoimjkgicneaaGreatDoor
open Go

/-- A word of the text of a memory: a bit (kinds 1 to 5), a timer (7), a counter (8), a whole register (9), a real one (10), the time (11), whether it ran (12), a fault (13). -/
structure Wd where
  k : Nat
  n : Nat
  c : Nat
  d : Bool
  l : Bool
  z : Int
  t : List UInt8

def markL (b : Bool) (c : UInt8) : List UInt8 := if b then [c] else []
def countL (c : Nat) (d l : Bool) : List UInt8 := Lib.decDigits c ++ (markL d 33 ++ markL l 43)

/-- What stands behind the device. -/
def Wd.tail (w : Wd) : List UInt8 :=
  if w.k ≤ 5 then [] else if w.k = 7 ∨ w.k = 8 then 61 :: countL w.c w.d w.l else if w.k = 9 then 61 :: Lib.itoa w.z else 61 :: w.t

def Wd.text (w : Wd) : List UInt8 :=
  if w.k = 11 then [116, 105, 109, 101, 61] ++ Lib.decDigits w.c else if w.k = 12 then [114, 97, 110] else if w.k = 13 then [102, 97, 117, 108, 116]
  else letterL w.k ++ (Lib.decDigits w.n ++ w.tail)

/-- The word of bits of a kind, and how many there are. -/
def wdN (v : MemV) (k : Nat) : Nat := if k = 1 then v.x else if k = 2 then v.y else if k = 3 then v.m else if k = 4 then v.s else if k = 5 then v.e else 0
def szN (k : Nat) : Nat := if k = 1 then 32 else if k = 2 then 32 else if k = 3 then 64 else if k = 4 then 16 else if k = 5 then 32 else 0

def bitW (v : MemV) (k : Nat) : List Wd := ((List.range (szN k)).filter fun n => (wdN v k).testBit n).map fun n => ⟨k, n, 0, false, false, 0, []⟩
def timerW (v : MemV) : List Wd := ((List.range 16).filter fun n => v.tD n || v.tC n != 0).map fun n => ⟨7, n, v.tC n, v.tD n, false, 0, []⟩
def counterW (v : MemV) : List Wd := ((List.range 16).filter fun n => v.cD n || (v.cL n || v.cC n != 0)).map fun n => ⟨8, n, v.cC n, v.cD n, v.cL n, 0, []⟩
def intW (v : MemV) : List Wd := ((List.range 32).filter fun n => v.d n != 0).map fun n => ⟨9, n, 0, false, false, v.d n, []⟩
def realW (tx : Nat → List UInt8) : List Wd := ((List.range 16).filter fun n => tx n != [48]).map fun n => ⟨10, n, 0, false, false, 0, tx n⟩
def timeW (v : MemV) : List Wd := if v.time != 0 then [⟨11, 0, v.time, false, false, 0, []⟩] else []
def ranW (v : MemV) : List Wd := if v.ran then [⟨12, 0, 0, false, false, 0, []⟩] else []
def faultW (v : MemV) : List Wd := if v.fault then [⟨13, 0, 0, false, false, 0, []⟩] else []

def bitsW (v : MemV) : List Wd := bitW v 1 ++ (bitW v 2 ++ (bitW v 3 ++ (bitW v 4 ++ bitW v 5)))
def allW (v : MemV) (tx : Nat → List UInt8) : List Wd := bitsW v ++ (timerW v ++ (counterW v ++ (intW v ++ (realW tx ++ (timeW v ++ (ranW v ++ faultW v))))))

def textV (v : MemV) (tx : Nat → List UInt8) : List UInt8 := Lib.join ((allW v tx).map Wd.text) [32]

/-- The memory has that text. -/
def TextOf (v : MemV) (l : List UInt8) : Prop := ∃ tx : Nat → List UInt8, (∀ i, i < 16 → Txt (v.r i) (tx i)) ∧ l = textV v tx

/-- Two memories are one, real numbers as values. -/
structure SameM (a b : MemV) : Prop where
  x : a.x = b.x
  y : a.y = b.y
  m : a.m = b.m
  s : a.s = b.s
  e : a.e = b.e
  tD : ∀ i, i < 16 → a.tD i = b.tD i
  tC : ∀ i, i < 16 → a.tC i = b.tC i
  cD : ∀ i, i < 16 → a.cD i = b.cD i
  cL : ∀ i, i < 16 → a.cL i = b.cL i
  cC : ∀ i, i < 16 → a.cC i = b.cC i
  d : ∀ i, i < 32 → a.d i = b.d i
  r : ∀ i, i < 16 → Same (a.r i) (b.r i)
  time : a.time = b.time
  ran : a.ran = b.ran
  fault : a.fault = b.fault

theorem filter_range_congr {n : Nat} {p q : Nat → Bool} (h : ∀ i, i < n → p i = q i) : (List.range n).filter p = (List.range n).filter q :=
  List.filter_congr fun i hi => h i (by simpa using hi)
theorem seg_congr {n : Nat} {p q : Nat → Bool} {f g : Nat → Wd} (h : ∀ i, i < n → p i = q i) (hf : ∀ i, i < n → f i = g i) : ((List.range n).filter p).map f = ((List.range n).filter q).map g := by
  rw [filter_range_congr h]
  refine List.map_congr_left fun i hi => hf i ?_
  have := (List.mem_filter.1 hi).1
  simpa using this

theorem text_same {a b : MemV} {l : List UInt8} (h : SameM a b) (t : TextOf a l) : TextOf b l := by
  obtain ⟨tx, ht, rfl⟩ := t
  refine ⟨tx, fun i hi => txt_of_same (h.r i hi) (ht i hi), ?_⟩
  have e1 : ∀ k, bitW a k = bitW b k := by
    intro k
    have : wdN a k = wdN b k := by simp only [wdN, h.x, h.y, h.m, h.s, h.e]
    unfold bitW
    rw [this]
  have e2 : timerW a = timerW b := seg_congr (fun i hi => by rw [h.tD i hi, h.tC i hi]) (fun i hi => by rw [h.tD i hi, h.tC i hi])
  have e3 : counterW a = counterW b := seg_congr (fun i hi => by rw [h.cD i hi, h.cL i hi, h.cC i hi]) (fun i hi => by rw [h.cD i hi, h.cL i hi, h.cC i hi])
  have e4 : intW a = intW b := seg_congr (fun i hi => by rw [h.d i hi]) (fun i hi => by rw [h.d i hi])
  have e5 : timeW a = timeW b := by unfold timeW; rw [h.time]
  have e6 : ranW a = ranW b := by unfold ranW; rw [h.ran]
  have e7 : faultW a = faultW b := by unfold faultW; rw [h.fault]
  unfold textV allW bitsW
  rw [e1, e1, e1, e1, e1, e2, e3, e4, e5, e6, e7]

theorem text_fun {v : MemV} {l l' : List UInt8} (h : TextOf v l) (g : TextOf v l') : l = l' := by
  obtain ⟨tx, ht, rfl⟩ := h
  obtain ⟨ty, hy, rfl⟩ := g
  have e : realW tx = realW ty := seg_congr (fun i hi => by rw [txt_fun (ht i hi) (hy i hi)]) (fun i hi => by rw [txt_fun (ht i hi) (hy i hi)])
  unfold textV allW
  rw [e]

/-- What a word says of the memory of whose text it is. -/
structure WdOf (v : MemV) (tx : Nat → List UInt8) (w : Wd) : Prop where
  kind : w.k = 1 ∨ w.k = 2 ∨ w.k = 3 ∨ w.k = 4 ∨ w.k = 5 ∨ w.k = 7 ∨ w.k = 8 ∨ w.k = 9 ∨ w.k = 10 ∨ w.k = 11 ∨ w.k = 12 ∨ w.k = 13
  bit : w.k ≤ 5 → w.n < szN w.k ∧ (wdN v w.k).testBit w.n = true ∧ w.c = 0 ∧ w.d = false ∧ w.l = false ∧ w.z = 0 ∧ w.t = []
  timer : w.k = 7 → w.n < 16 ∧ w.c = v.tC w.n ∧ w.d = v.tD w.n ∧ w.l = false ∧ w.z = 0 ∧ w.t = []
  counter : w.k = 8 → w.n < 16 ∧ w.c = v.cC w.n ∧ w.d = v.cD w.n ∧ w.l = v.cL w.n ∧ w.z = 0 ∧ w.t = []
  int : w.k = 9 → w.n < 32 ∧ w.z = v.d w.n ∧ w.c = 0 ∧ w.d = false ∧ w.l = false ∧ w.t = []
  real : w.k = 10 → w.n < 16 ∧ w.t = tx w.n ∧ w.c = 0 ∧ w.d = false ∧ w.l = false ∧ w.z = 0
  time : w.k = 11 → w.c = v.time ∧ w.n = 0 ∧ w.d = false ∧ w.l = false ∧ w.z = 0 ∧ w.t = []
  ran : w.k = 12 → v.ran = true ∧ w = ⟨12, 0, 0, false, false, 0, []⟩
  fault : w.k = 13 → v.fault = true ∧ w = ⟨13, 0, 0, false, false, 0, []⟩

theorem of_bit {v : MemV} {tx : Nat → List UInt8} {w : Wd} {k : Nat} (hk : k = 1 ∨ k = 2 ∨ k = 3 ∨ k = 4 ∨ k = 5) (h : w ∈ bitW v k) : WdOf v tx w := by
  simp only [bitW, List.mem_map, List.mem_filter, List.mem_range] at h
  obtain ⟨n, ⟨h1, h2⟩, rfl⟩ := h
  refine ⟨?_, fun _ => ⟨h1, h2, rfl, rfl, rfl, rfl, rfl⟩, fun h => ?_, fun h => ?_, fun h => ?_, fun h => ?_, fun h => ?_, fun h => ?_, fun h => ?_⟩
  · simp only; omega
  all_goals (simp only at h; omega)

theorem of_all {v : MemV} {tx : Nat → List UInt8} {w : Wd} (h : w ∈ allW v tx) : WdOf v tx w := by
  simp only [allW, bitsW, List.mem_append] at h
  rcases h with (h | h | h | h | h) | h | h | h | h | h | h | h
  · exact of_bit (by omega) h
  · exact of_bit (by omega) h
  · exact of_bit (by omega) h
  · exact of_bit (by omega) h
  · exact of_bit (by omega) h
  · simp only [timerW, List.mem_map, List.mem_filter, List.mem_range] at h
    obtain ⟨n, ⟨h1, h2⟩, rfl⟩ := h
    refine ⟨by simp, fun h => ?_, fun _ => ⟨h1, rfl, rfl, rfl, rfl, rfl⟩, fun h => ?_, fun h => ?_, fun h => ?_, fun h => ?_, fun h => ?_, fun h => ?_⟩
    all_goals (simp only at h; omega)
  · simp only [counterW, List.mem_map, List.mem_filter, List.mem_range] at h
    obtain ⟨n, ⟨h1, h2⟩, rfl⟩ := h
    refine ⟨by simp, fun h => ?_, fun h => ?_, fun _ => ⟨h1, rfl, rfl, rfl, rfl, rfl⟩, fun h => ?_, fun h => ?_, fun h => ?_, fun h => ?_, fun h => ?_⟩
    all_goals (simp only at h; omega)
  · simp only [intW, List.mem_map, List.mem_filter, List.mem_range] at h
    obtain ⟨n, ⟨h1, h2⟩, rfl⟩ := h
    refine ⟨by simp, fun h => ?_, fun h => ?_, fun h => ?_, fun _ => ⟨h1, rfl, rfl, rfl, rfl, rfl⟩, fun h => ?_, fun h => ?_, fun h => ?_, fun h => ?_⟩
    all_goals (simp only at h; omega)
  · simp only [realW, List.mem_map, List.mem_filter, List.mem_range] at h
    obtain ⟨n, ⟨h1, h2⟩, rfl⟩ := h
    refine ⟨by simp, fun h => ?_, fun h => ?_, fun h => ?_, fun h => ?_, fun _ => ⟨h1, rfl, rfl, rfl, rfl, rfl⟩, fun h => ?_, fun h => ?_, fun h => ?_⟩
    all_goals (simp only at h; omega)
  · unfold timeW at h
    split at h
    · simp only [List.mem_singleton] at h
      subst h
      refine ⟨by simp, fun h => ?_, fun h => ?_, fun h => ?_, fun h => ?_, fun h => ?_, fun _ => ⟨rfl, rfl, rfl, rfl, rfl, rfl⟩, fun h => ?_, fun h => ?_⟩
      all_goals (simp only at h; omega)
    · cases h
  · unfold ranW at h
    split at h
    · rename_i hr
      simp only [List.mem_singleton] at h
      subst h
      refine ⟨by simp, fun h => ?_, fun h => ?_, fun h => ?_, fun h => ?_, fun h => ?_, fun h => ?_, fun _ => ⟨hr, rfl⟩, fun h => ?_⟩
      all_goals (simp only at h; omega)
    · cases h
  · unfold faultW at h
    split at h
    · rename_i hr
      simp only [List.mem_singleton] at h
      subst h
      refine ⟨by simp, fun h => ?_, fun h => ?_, fun h => ?_, fun h => ?_, fun h => ?_, fun h => ?_, fun h => ?_, fun _ => ⟨hr, rfl⟩⟩
      all_goals (simp only at h; omega)
    · cases h

end Go.Proofs.YtdhoimjkgicneaaGreatDoor

/- What words make of a memory; read in their order they make the memory of whose text they are. Of no one program. -/
namespace Go.Proofs.YtdhoimjkgicneaaGreatDoor
open Go

/-- Nothing. -/
def memZ : MemV := ⟨0, 0, 0, 0, 0, fun _ => false, fun _ => 0, fun _ => false, fun _ => false, fun _ => 0, fun _ => 0, fun _ => 0, 0, false, false⟩

def orV (m : MemV) (k n : Nat) : MemV :=
  if k = 1 then { m with x := m.x ||| 2 ^ n } else if k = 2 then { m with y := m.y ||| 2 ^ n } else if k = 3 then { m with m := m.m ||| 2 ^ n }
  else if k = 4 then { m with s := m.s ||| 2 ^ n } else if k = 5 then { m with e := m.e ||| 2 ^ n } else m
def timV (m : MemV) (n c : Nat) (d : Bool) : MemV := { m with tD := fun i => if i = n then d else m.tD i, tC := fun i => if i = n then c else m.tC i }
def cntV (m : MemV) (n c : Nat) (d l : Bool) : MemV := { m with cD := fun i => if i = n then d else m.cD i, cL := fun i => if i = n then l else m.cL i, cC := fun i => if i = n then c else m.cC i }
def intV (m : MemV) (n : Nat) (z : Int) : MemV := { m with d := fun i => if i = n then z else m.d i }
def reaV (m : MemV) (n x : Nat) : MemV := { m with r := fun i => if i = n then x else m.r i }

/-- What one word makes of a memory. -/
def Step (m : MemV) (w : Wd) (m' : MemV) : Prop :=
  if w.k ≤ 5 then m' = orV m w.k w.n
  else if w.k = 7 then m' = timV m w.n w.c w.d
  else if w.k = 8 then m' = cntV m w.n w.c w.d w.l
  else if w.k = 9 then m' = intV m w.n w.z
  else if w.k = 10 then ∃ x, Txt x w.t ∧ m' = reaV m w.n x
  else if w.k = 11 then m' = { m with time := w.c }
  else if w.k = 12 then m' = { m with ran := true }
  else m' = { m with fault := true }

def Steps : MemV → List Wd → MemV → Prop
  | m, [], m' => m' = m
  | m, w :: L, m' => ∃ m1, Step m w m1 ∧ Steps m1 L m'

theorem Steps.snoc : ∀ {L : List Wd} {m m1 m2 : MemV} {w : Wd}, Steps m L m1 → Step m1 w m2 → Steps m (L ++ [w]) m2
  | [], _, _, m2, _, h, g => ⟨m2, by cases h; exact g, rfl⟩
  | _ :: L, _, _, _, _, ⟨a, ha, h⟩, g => ⟨a, ha, Steps.snoc (L := L) h g⟩

/-- A place that just some words touch. -/
theorem slot {α : Type} (get : MemV → α) (P : α → Prop) (touch : Wd → Bool) : ∀ (L : List Wd) (m m' : MemV),
    (∀ w, w ∈ L → ∀ a b, Step a w b → (touch w = true → P (get b)) ∧ (touch w = false → get b = get a)) → Steps m L m' → (L.any touch = true → P (get m')) ∧ (L.any touch = false → get m' = get m)
  | [], m, m', _, h => by cases h; exact ⟨fun h => by simp at h, fun _ => rfl⟩
  | w :: L, m, m', hs, ⟨m1, h1, h2⟩ => by
    obtain ⟨i1, i2⟩ := slot get P touch L m1 m' (fun w hw => hs w (by simp [hw])) h2
    obtain ⟨s1, s2⟩ := hs w (by simp) m m1 h1
    refine ⟨fun h => ?_, fun h => ?_⟩
    · cases hL : L.any touch with
      | true => exact i1 hL
      | false =>
        rw [i2 hL]
        refine s1 ?_
        simpa [hL] using h
    · simp only [List.any_cons, Bool.or_eq_false_iff] at h
      rw [i2 h.2, s2 h.1]

theorem any_seg {n : Nat} {p : Nat → Bool} {f : Nat → Wd} {t : Wd → Bool} (i : Nat) (hi : i < n) (h : ∀ j, j < n → t (f j) = decide (j = i)) : (((List.range n).filter p).map f).any t = p i := by
  rw [Bool.eq_iff_iff]
  simp only [List.any_map, List.any_filter, List.any_eq_true, List.mem_range, Function.comp_apply, Bool.and_eq_true]
  constructor
  · rintro ⟨j, hj, h1, h2⟩
    rw [h j hj] at h2
    have : j = i := by simpa using h2
    rwa [this] at h1
  · intro hp
    exact ⟨i, hi, hp, by rw [h i hi]; simp⟩
theorem any_none {L : List Wd} {t : Wd → Bool} (h : ∀ w, w ∈ L → t w = false) : L.any t = false := by
  rw [Bool.eq_false_iff]
  intro g
  obtain ⟨w, hw, ht⟩ := List.any_eq_true.1 g
  rw [h w hw] at ht
  cases ht

section
variable {v : MemV} {tx : Nat → List UInt8}
theorem kind_bit {k : Nat} {w : Wd} (h : w ∈ bitW v k) : w.k = k := by
  simp only [bitW, List.mem_map] at h
  obtain ⟨n, -, rfl⟩ := h
  rfl
theorem kind_timer {w : Wd} (h : w ∈ timerW v) : w.k = 7 := by
  simp only [timerW, List.mem_map] at h
  obtain ⟨n, -, rfl⟩ := h
  rfl
theorem kind_counter {w : Wd} (h : w ∈ counterW v) : w.k = 8 := by
  simp only [counterW, List.mem_map] at h
  obtain ⟨n, -, rfl⟩ := h
  rfl
theorem kind_int {w : Wd} (h : w ∈ intW v) : w.k = 9 := by
  simp only [intW, List.mem_map] at h
  obtain ⟨n, -, rfl⟩ := h
  rfl
theorem kind_real {w : Wd} (h : w ∈ realW tx) : w.k = 10 := by
  simp only [realW, List.mem_map] at h
  obtain ⟨n, -, rfl⟩ := h
  rfl
theorem kind_time {w : Wd} (h : w ∈ timeW v) : w.k = 11 := by
  unfold timeW at h
  split at h
  · simp only [List.mem_singleton] at h; rw [h]
  · cases h
theorem kind_ran {w : Wd} (h : w ∈ ranW v) : w.k = 12 := by
  unfold ranW at h
  split at h
  · simp only [List.mem_singleton] at h; rw [h]
  · cases h
theorem kind_fault {w : Wd} (h : w ∈ faultW v) : w.k = 13 := by
  unfold faultW at h
  split at h
  · simp only [List.mem_singleton] at h; rw [h]
  · cases h

/-- Of one kind just its own words are touched. -/
theorem any_all (k : Nat) (t : Wd → Bool) (ht : ∀ w, w.k ≠ k → t w = false) :
    (allW v tx).any t = if k = 1 then (bitW v 1).any t else if k = 2 then (bitW v 2).any t else if k = 3 then (bitW v 3).any t else if k = 4 then (bitW v 4).any t else if k = 5 then (bitW v 5).any t
      else if k = 7 then (timerW v).any t else if k = 8 then (counterW v).any t else if k = 9 then (intW v).any t else if k = 10 then (realW tx).any t else if k = 11 then (timeW v).any t
      else if k = 12 then (ranW v).any t else if k = 13 then (faultW v).any t else false := by
  have b : ∀ j, j ≠ k → (bitW v j).any t = false := fun j hj => any_none fun w hw => ht w (by rw [kind_bit hw]; exact hj)
  have h7 : 7 ≠ k → (timerW v).any t = false := fun hj => any_none fun w hw => ht w (by rw [kind_timer hw]; exact hj)
  have h8 : 8 ≠ k → (counterW v).any t = false := fun hj => any_none fun w hw => ht w (by rw [kind_counter hw]; exact hj)
  have h9 : 9 ≠ k → (intW v).any t = false := fun hj => any_none fun w hw => ht w (by rw [kind_int hw]; exact hj)
  have h10 : 10 ≠ k → (realW tx).any t = false := fun hj => any_none fun w hw => ht w (by rw [kind_real hw]; exact hj)
  have h11 : 11 ≠ k → (timeW v).any t = false := fun hj => any_none fun w hw => ht w (by rw [kind_time hw]; exact hj)
  have h12 : 12 ≠ k → (ranW v).any t = false := fun hj => any_none fun w hw => ht w (by rw [kind_ran hw]; exact hj)
  have h13 : 13 ≠ k → (faultW v).any t = false := fun hj => any_none fun w hw => ht w (by rw [kind_fault hw]; exact hj)
  unfold allW bitsW
  simp only [List.any_append]
  by_cases c1 : k = 1
  · subst c1; simp [b, h7, h8, h9, h10, h11, h12, h13]
  by_cases c2 : k = 2
  · subst c2; simp [b, h7, h8, h9, h10, h11, h12, h13]
  by_cases c3 : k = 3
  · subst c3; simp [b, h7, h8, h9, h10, h11, h12, h13]
  by_cases c4 : k = 4
  · subst c4; simp [b, h7, h8, h9, h10, h11, h12, h13]
  by_cases c5 : k = 5
  · subst c5; simp [b, h7, h8, h9, h10, h11, h12, h13]
  by_cases c7 : k = 7
  · subst c7; simp [b, h8, h9, h10, h11, h12, h13]
  by_cases c8 : k = 8
  · subst c8; simp [b, h7, h9, h10, h11, h12, h13]
  by_cases c9 : k = 9
  · subst c9; simp [b, h7, h8, h10, h11, h12, h13]
  by_cases c10 : k = 10
  · subst c10; simp [b, h7, h8, h9, h11, h12, h13]
  by_cases c11 : k = 11
  · subst c11; simp [b, h7, h8, h9, h10, h12, h13]
  by_cases c12 : k = 12
  · subst c12; simp [b, h7, h8, h9, h10, h11, h13]
  by_cases c13 : k = 13
  · subst c13; simp [b, h7, h8, h9, h10, h11, h12]
  rw [b 1 (by omega), b 2 (by omega), b 3 (by omega), b 4 (by omega), b 5 (by omega), h7 (by omega), h8 (by omega), h9 (by omega), h10 (by omega), h11 (by omega), h12 (by omega), h13 (by omega)]
  simp [c1, c2, c3, c4, c5, c7, c8, c9, c10, c11, c12, c13]
end

/-- The word of bits of a memory. -/
theorem step_bit {a b : MemV} {w : Wd} {j i : Nat} (hj : j = 1 ∨ j = 2 ∨ j = 3 ∨ j = 4 ∨ j = 5) (hk : w.k = 1 ∨ w.k = 2 ∨ w.k = 3 ∨ w.k = 4 ∨ w.k = 5 ∨ w.k = 7 ∨ w.k = 8 ∨ w.k = 9 ∨ w.k = 10 ∨ w.k = 11 ∨ w.k = 12 ∨ w.k = 13) (h : Step a w b) :
    (decide (w.k = j ∧ w.n = i) = true → (wdN b j).testBit i = true) ∧ (decide (w.k = j ∧ w.n = i) = false → (wdN b j).testBit i = (wdN a j).testBit i) := by
  unfold Step at h
  by_cases h5 : w.k ≤ 5
  · rw [if_pos h5] at h
    subst h
    have e : wdN (orV a w.k w.n) j = if w.k = j then wdN a j ||| 2 ^ w.n else wdN a j := by
      have : w.k = 1 ∨ w.k = 2 ∨ w.k = 3 ∨ w.k = 4 ∨ w.k = 5 := by omega
      rcases this with e | e | e | e | e <;> rw [e] <;> rcases hj with rfl | rfl | rfl | rfl | rfl <;> rfl
    rw [e]
    constructor
    · intro g
      obtain ⟨g1, g2⟩ := of_decide_eq_true g
      rw [if_pos g1, Nat.testBit_or, Nat.testBit_two_pow, g2]
      simp
    · intro g
      have g := of_decide_eq_false g
      split
      · rename_i g1
        rw [Nat.testBit_or, Nat.testBit_two_pow]
        have : ¬ w.n = i := fun e => g ⟨g1, e⟩
        simp [this]
      · rfl
  · rw [if_neg h5] at h
    have e : wdN b j = wdN a j := by
      split at h
      · subst h; rfl
      split at h
      · subst h; rfl
      split at h
      · subst h; rfl
      split at h
      · obtain ⟨x, -, rfl⟩ := h; rfl
      split at h
      · subst h; rfl
      split at h
      · subst h; rfl
      · subst h; rfl
    rw [e]
    refine ⟨fun g => ?_, fun _ => rfl⟩
    have := (of_decide_eq_true g).1
    omega

theorem back_bit {v m : MemV} {tx : Nat → List UInt8} {j : Nat} (hj : j = 1 ∨ j = 2 ∨ j = 3 ∨ j = 4 ∨ j = 5) (hb : wdN v j < 2 ^ szN j) (h : Steps memZ (allW v tx) m) : wdN m j = wdN v j := by
  apply Nat.eq_of_testBit_eq
  intro i
  obtain ⟨s1, s2⟩ := slot (fun m => (wdN m j).testBit i) (fun b => b = true) (fun w => decide (w.k = j ∧ w.n = i)) (allW v tx) memZ m (fun w hw a b hs => step_bit hj (of_all hw).kind hs) h
  have e : (allW v tx).any (fun w => decide (w.k = j ∧ w.n = i)) = (bitW v j).any (fun w => decide (w.k = j ∧ w.n = i)) := by
    rw [any_all j _ (fun w hw => by simp [hw])]
    rcases hj with rfl | rfl | rfl | rfl | rfl <;> rfl
  have z : wdN memZ j = 0 := by rcases hj with rfl | rfl | rfl | rfl | rfl <;> rfl
  by_cases hi : i < szN j
  · have e2 : (bitW v j).any (fun w => decide (w.k = j ∧ w.n = i)) = (wdN v j).testBit i := any_seg i hi (fun n _ => by simp)
    rw [e, e2] at s1 s2
    cases ht : (wdN v j).testBit i with
    | true => exact s1 ht
    | false => rw [s2 ht, z]; simp
  · have e2 : (bitW v j).any (fun w => decide (w.k = j ∧ w.n = i)) = false := by
      refine any_none fun w hw => ?_
      simp only [bitW, List.mem_map, List.mem_filter, List.mem_range] at hw
      obtain ⟨n, ⟨h1, -⟩, rfl⟩ := hw
      simp only [decide_eq_false_iff_not]
      omega
    rw [e, e2] at s2
    rw [s2 rfl, z, Nat.testBit_lt_two_pow (x := wdN v j) (i := i) (Nat.lt_of_lt_of_le hb (Nat.pow_le_pow_right (by omega) (by omega)))]
    simp

end Go.Proofs.YtdhoimjkgicneaaGreatDoor

/- The words of a memory's text, read in their order, make the memory. Of no one program. -/
namespace Go.Proofs.YtdhoimjkgicneaaGreatDoor
open Go

/-- What a word leaves of each place. -/
theorem step_tim {a b : MemV} {w : Wd} (i : Nat) (h : Step a w b) : (decide (w.k = 7 ∧ w.n = i) = true → (b.tD i, b.tC i) = (w.d, w.c)) ∧ (decide (w.k = 7 ∧ w.n = i) = false → (b.tD i, b.tC i) = (a.tD i, a.tC i)) := by
  unfold Step at h
  split at h
  · subst h
    refine ⟨fun g => ?_, fun _ => ?_⟩
    · have := (of_decide_eq_true g).1; omega
    · unfold orV; repeat' split
      all_goals rfl
  split at h
  · subst h
    refine ⟨fun g => ?_, fun g => ?_⟩
    · have := (of_decide_eq_true g).2
      simp [timV, this]
    · have g := of_decide_eq_false g
      have : ¬ i = w.n := fun e => g ⟨by assumption, e.symm⟩
      simp [timV, this]
  have h7 : ¬ w.k = 7 := by assumption
  refine ⟨fun g => absurd (of_decide_eq_true g).1 h7, fun _ => ?_⟩
  split at h
  · subst h; rfl
  split at h
  · subst h; rfl
  split at h
  · obtain ⟨x, -, rfl⟩ := h; rfl
  split at h
  · subst h; rfl
  split at h
  · subst h; rfl
  · subst h; rfl

theorem step_cnt {a b : MemV} {w : Wd} (i : Nat) (h : Step a w b) : (decide (w.k = 8 ∧ w.n = i) = true → (b.cD i, b.cL i, b.cC i) = (w.d, w.l, w.c)) ∧ (decide (w.k = 8 ∧ w.n = i) = false → (b.cD i, b.cL i, b.cC i) = (a.cD i, a.cL i, a.cC i)) := by
  unfold Step at h
  split at h
  · subst h
    refine ⟨fun g => ?_, fun _ => ?_⟩
    · have := (of_decide_eq_true g).1; omega
    · unfold orV; repeat' split
      all_goals rfl
  split at h
  · subst h
    refine ⟨fun g => ?_, fun _ => rfl⟩
    have := (of_decide_eq_true g).1; omega
  split at h
  · subst h
    refine ⟨fun g => ?_, fun g => ?_⟩
    · have := (of_decide_eq_true g).2
      simp [cntV, this]
    · have g := of_decide_eq_false g
      have : ¬ i = w.n := fun e => g ⟨by assumption, e.symm⟩
      simp [cntV, this]
  have h7 : ¬ w.k = 8 := by assumption
  refine ⟨fun g => absurd (of_decide_eq_true g).1 h7, fun _ => ?_⟩
  split at h
  · subst h; rfl
  split at h
  · obtain ⟨x, -, rfl⟩ := h; rfl
  split at h
  · subst h; rfl
  split at h
  · subst h; rfl
  · subst h; rfl

theorem step_int {a b : MemV} {w : Wd} (i : Nat) (h : Step a w b) : (decide (w.k = 9 ∧ w.n = i) = true → b.d i = w.z) ∧ (decide (w.k = 9 ∧ w.n = i) = false → b.d i = a.d i) := by
  unfold Step at h
  split at h
  · subst h
    refine ⟨fun g => ?_, fun _ => ?_⟩
    · have := (of_decide_eq_true g).1; omega
    · unfold orV; repeat' split
      all_goals rfl
  split at h
  · subst h
    refine ⟨fun g => ?_, fun _ => rfl⟩
    have := (of_decide_eq_true g).1; omega
  split at h
  · subst h
    refine ⟨fun g => ?_, fun _ => rfl⟩
    have := (of_decide_eq_true g).1; omega
  split at h
  · subst h
    refine ⟨fun g => ?_, fun g => ?_⟩
    · have := (of_decide_eq_true g).2
      simp [intV, this]
    · have g := of_decide_eq_false g
      have : ¬ i = w.n := fun e => g ⟨by assumption, e.symm⟩
      simp [intV, this]
  have h7 : ¬ w.k = 9 := by assumption
  refine ⟨fun g => absurd (of_decide_eq_true g).1 h7, fun _ => ?_⟩
  split at h
  · obtain ⟨x, -, rfl⟩ := h; rfl
  split at h
  · subst h; rfl
  split at h
  · subst h; rfl
  · subst h; rfl

theorem step_rea {a b : MemV} {w : Wd} (i : Nat) (h : Step a w b) : (decide (w.k = 10 ∧ w.n = i) = true → Txt (b.r i) w.t) ∧ (decide (w.k = 10 ∧ w.n = i) = false → b.r i = a.r i) := by
  unfold Step at h
  split at h
  · subst h
    refine ⟨fun g => ?_, fun _ => ?_⟩
    · have := (of_decide_eq_true g).1; omega
    · unfold orV; repeat' split
      all_goals rfl
  split at h
  · subst h
    refine ⟨fun g => ?_, fun _ => rfl⟩
    have := (of_decide_eq_true g).1; omega
  split at h
  · subst h
    refine ⟨fun g => ?_, fun _ => rfl⟩
    have := (of_decide_eq_true g).1; omega
  split at h
  · subst h
    refine ⟨fun g => ?_, fun _ => rfl⟩
    have := (of_decide_eq_true g).1; omega
  split at h
  · obtain ⟨x, hx, rfl⟩ := h
    refine ⟨fun g => ?_, fun g => ?_⟩
    · have := (of_decide_eq_true g).2
      simp [reaV, this, hx]
    · have g := of_decide_eq_false g
      have : ¬ i = w.n := fun e => g ⟨by assumption, e.symm⟩
      simp [reaV, this]
  have h7 : ¬ w.k = 10 := by assumption
  refine ⟨fun g => absurd (of_decide_eq_true g).1 h7, fun _ => ?_⟩
  split at h
  · subst h; rfl
  split at h
  · subst h; rfl
  · subst h; rfl

theorem step_time {a b : MemV} {w : Wd} (h : Step a w b) : (decide (w.k = 11) = true → b.time = w.c) ∧ (decide (w.k = 11) = false → b.time = a.time) := by
  unfold Step at h
  split at h
  · subst h
    refine ⟨fun g => ?_, fun _ => ?_⟩
    · have := of_decide_eq_true g; omega
    · unfold orV; repeat' split
      all_goals rfl
  split at h
  · subst h; exact ⟨fun g => by have := of_decide_eq_true g; omega, fun _ => rfl⟩
  split at h
  · subst h; exact ⟨fun g => by have := of_decide_eq_true g; omega, fun _ => rfl⟩
  split at h
  · subst h; exact ⟨fun g => by have := of_decide_eq_true g; omega, fun _ => rfl⟩
  split at h
  · obtain ⟨x, -, rfl⟩ := h; exact ⟨fun g => by have := of_decide_eq_true g; omega, fun _ => rfl⟩
  split at h
  · subst h; exact ⟨fun _ => rfl, fun g => absurd (by assumption) (of_decide_eq_false g)⟩
  have h7 : ¬ w.k = 11 := by assumption
  refine ⟨fun g => absurd (of_decide_eq_true g) h7, fun _ => ?_⟩
  split at h
  · subst h; rfl
  · subst h; rfl

theorem step_ran {a b : MemV} {w : Wd} (h : Step a w b) : (decide (w.k = 12) = true → b.ran = true) ∧ (decide (w.k = 12) = false → b.ran = a.ran) := by
  unfold Step at h
  split at h
  · subst h
    refine ⟨fun g => ?_, fun _ => ?_⟩
    · have := of_decide_eq_true g; omega
    · unfold orV; repeat' split
      all_goals rfl
  split at h
  · subst h; exact ⟨fun g => by have := of_decide_eq_true g; omega, fun _ => rfl⟩
  split at h
  · subst h; exact ⟨fun g => by have := of_decide_eq_true g; omega, fun _ => rfl⟩
  split at h
  · subst h; exact ⟨fun g => by have := of_decide_eq_true g; omega, fun _ => rfl⟩
  split at h
  · obtain ⟨x, -, rfl⟩ := h; exact ⟨fun g => by have := of_decide_eq_true g; omega, fun _ => rfl⟩
  split at h
  · subst h; exact ⟨fun g => by have := of_decide_eq_true g; omega, fun _ => rfl⟩
  split at h
  · subst h; exact ⟨fun _ => rfl, fun g => absurd (by assumption) (of_decide_eq_false g)⟩
  have h7 : ¬ w.k = 12 := by assumption
  subst h
  exact ⟨fun g => absurd (of_decide_eq_true g) h7, fun _ => rfl⟩

theorem step_fault {a b : MemV} {w : Wd} (hk : w.k ≤ 13) (h6 : w.k ≠ 6) (h : Step a w b) : (decide (w.k = 13) = true → b.fault = true) ∧ (decide (w.k = 13) = false → b.fault = a.fault) := by
  unfold Step at h
  split at h
  · subst h
    refine ⟨fun g => ?_, fun _ => ?_⟩
    · have := of_decide_eq_true g; omega
    · unfold orV; repeat' split
      all_goals rfl
  split at h
  · subst h; exact ⟨fun g => by have := of_decide_eq_true g; omega, fun _ => rfl⟩
  split at h
  · subst h; exact ⟨fun g => by have := of_decide_eq_true g; omega, fun _ => rfl⟩
  split at h
  · subst h; exact ⟨fun g => by have := of_decide_eq_true g; omega, fun _ => rfl⟩
  split at h
  · obtain ⟨x, -, rfl⟩ := h; exact ⟨fun g => by have := of_decide_eq_true g; omega, fun _ => rfl⟩
  split at h
  · subst h; exact ⟨fun g => by have := of_decide_eq_true g; omega, fun _ => rfl⟩
  split at h
  · subst h; exact ⟨fun g => by have := of_decide_eq_true g; omega, fun _ => rfl⟩
  have h7 : w.k = 13 := by omega
  subst h
  exact ⟨fun _ => rfl, fun g => absurd h7 (of_decide_eq_false g)⟩

theorem zero_num0 : Num 0 false 0 0 := ⟨by decide +kernel, by decide, by decide, Or.inl rfl⟩
theorem zero_txt {x : Nat} (h : Txt x [48]) : Same 0 x := txt_same (x := 0) (Or.inr (Or.inr (Or.inl ⟨false, 0, zero_num0, rfl⟩))) h

theorem back {v m : MemV} {tx : Nat → List UInt8} (hv : v.Ok) (ht : ∀ i, i < 16 → Txt (v.r i) (tx i)) (h : Steps memZ (allW v tx) m) : SameM m v := by
  have tim : ∀ i, i < 16 → (m.tD i, m.tC i) = (v.tD i, v.tC i) := by
    intro i hi
    obtain ⟨s1, s2⟩ := slot (fun m => (m.tD i, m.tC i)) (fun p => p = (v.tD i, v.tC i)) (fun w => decide (w.k = 7 ∧ w.n = i)) (allW v tx) memZ m
      (fun w hw a b hs => ⟨fun g => by
        obtain ⟨g1, g2⟩ := of_decide_eq_true g
        obtain ⟨-, e1, e2, -⟩ := (of_all hw).timer g1
        rw [(step_tim i hs).1 g, e1, e2, g2], (step_tim i hs).2⟩) h
    have e : (allW v tx).any (fun w => decide (w.k = 7 ∧ w.n = i)) = (v.tD i || v.tC i != 0) := by
      rw [any_all 7 _ (fun w hw => by simp [hw])]
      exact any_seg i hi (fun n _ => by simp)
    rw [e] at s1 s2
    cases hc : (v.tD i || v.tC i != 0) with
    | true => exact s1 hc
    | false =>
      rw [s2 hc]
      simp at hc
      simp [memZ, hc]
  have cnt : ∀ i, i < 16 → (m.cD i, m.cL i, m.cC i) = (v.cD i, v.cL i, v.cC i) := by
    intro i hi
    obtain ⟨s1, s2⟩ := slot (fun m => (m.cD i, m.cL i, m.cC i)) (fun p => p = (v.cD i, v.cL i, v.cC i)) (fun w => decide (w.k = 8 ∧ w.n = i)) (allW v tx) memZ m
      (fun w hw a b hs => ⟨fun g => by
        obtain ⟨g1, g2⟩ := of_decide_eq_true g
        obtain ⟨-, e1, e2, e3, -⟩ := (of_all hw).counter g1
        rw [(step_cnt i hs).1 g, e1, e2, e3, g2], (step_cnt i hs).2⟩) h
    have e : (allW v tx).any (fun w => decide (w.k = 8 ∧ w.n = i)) = (v.cD i || (v.cL i || v.cC i != 0)) := by
      rw [any_all 8 _ (fun w hw => by simp [hw])]
      exact any_seg i hi (fun n _ => by simp)
    rw [e] at s1 s2
    cases hc : (v.cD i || (v.cL i || v.cC i != 0)) with
    | true => exact s1 hc
    | false =>
      rw [s2 hc]
      simp at hc
      simp [memZ, hc]
  have int : ∀ i, i < 32 → m.d i = v.d i := by
    intro i hi
    obtain ⟨s1, s2⟩ := slot (fun m => m.d i) (fun p => p = v.d i) (fun w => decide (w.k = 9 ∧ w.n = i)) (allW v tx) memZ m
      (fun w hw a b hs => ⟨fun g => by
        obtain ⟨g1, g2⟩ := of_decide_eq_true g
        obtain ⟨-, e1, -⟩ := (of_all hw).int g1
        rw [(step_int i hs).1 g, e1, g2], (step_int i hs).2⟩) h
    have e : (allW v tx).any (fun w => decide (w.k = 9 ∧ w.n = i)) = (v.d i != 0) := by
      rw [any_all 9 _ (fun w hw => by simp [hw])]
      exact any_seg i hi (fun n _ => by simp)
    rw [e] at s1 s2
    cases hc : (v.d i != 0) with
    | true => exact s1 hc
    | false =>
      rw [s2 hc]
      simp at hc
      simp [memZ, hc]
  have rea : ∀ i, i < 16 → Same (m.r i) (v.r i) := by
    intro i hi
    obtain ⟨s1, s2⟩ := slot (fun m => m.r i) (fun p => Txt p (tx i)) (fun w => decide (w.k = 10 ∧ w.n = i)) (allW v tx) memZ m
      (fun w hw a b hs => ⟨fun g => by
        obtain ⟨g1, g2⟩ := of_decide_eq_true g
        obtain ⟨-, e1, -⟩ := (of_all hw).real g1
        have := (step_rea i hs).1 g
        rwa [e1, g2] at this, (step_rea i hs).2⟩) h
    have e : (allW v tx).any (fun w => decide (w.k = 10 ∧ w.n = i)) = (tx i != [48]) := by
      rw [any_all 10 _ (fun w hw => by simp [hw])]
      exact any_seg i hi (fun n _ => by simp)
    rw [e] at s1 s2
    cases hc : (tx i != [48]) with
    | true => exact txt_same (s1 hc) (ht i hi)
    | false =>
      have g : m.r i = 0 := s2 hc
      have hx := ht i hi
      have : tx i = [48] := by simpa using hc
      rw [this] at hx
      rw [g]
      exact zero_txt hx
  have tm : m.time = v.time := by
    obtain ⟨s1, s2⟩ := slot (fun m => m.time) (fun p => p = v.time) (fun w => decide (w.k = 11)) (allW v tx) memZ m
      (fun w hw a b hs => ⟨fun g => by rw [(step_time hs).1 g, ((of_all hw).time (of_decide_eq_true g)).1], (step_time hs).2⟩) h
    have e : (allW v tx).any (fun w => decide (w.k = 11)) = (v.time != 0) := by
      rw [any_all 11 _ (fun w hw => by simp [hw])]
      show (timeW v).any _ = _
      unfold timeW
      split <;> simp_all
    rw [e] at s1 s2
    cases hc : (v.time != 0) with
    | true => exact s1 hc
    | false =>
      have g : m.time = 0 := s2 hc
      simp at hc
      rw [g, hc]
  have rn : m.ran = v.ran := by
    obtain ⟨s1, s2⟩ := slot (fun m => m.ran) (fun p => p = true) (fun w => decide (w.k = 12)) (allW v tx) memZ m (fun w hw a b hs => step_ran hs) h
    have e : (allW v tx).any (fun w => decide (w.k = 12)) = v.ran := by
      rw [any_all 12 _ (fun w hw => by simp [hw])]
      show (ranW v).any _ = _
      unfold ranW
      split <;> simp_all
    rw [e] at s1 s2
    cases hc : v.ran with
    | true => exact s1 hc
    | false => exact s2 hc
  have ft : m.fault = v.fault := by
    obtain ⟨s1, s2⟩ := slot (fun m => m.fault) (fun p => p = true) (fun w => decide (w.k = 13)) (allW v tx) memZ m (fun w hw a b hs => step_fault (by have := (of_all hw).kind; omega) (by have := (of_all hw).kind; omega) hs) h
    have e : (allW v tx).any (fun w => decide (w.k = 13)) = v.fault := by
      rw [any_all 13 _ (fun w hw => by simp [hw])]
      show (faultW v).any _ = _
      unfold faultW
      split <;> simp_all
    rw [e] at s1 s2
    cases hc : v.fault with
    | true => exact s1 hc
    | false => exact s2 hc
  exact ⟨back_bit (j := 1) (by omega) hv.x h, back_bit (j := 2) (by omega) hv.y h, back_bit (j := 3) (by omega) hv.m h, back_bit (j := 4) (by omega) hv.s h, back_bit (j := 5) (by omega) hv.e h,
    fun i hi => congrArg Prod.fst (tim i hi), fun i hi => congrArg Prod.snd (tim i hi), fun i hi => congrArg Prod.fst (cnt i hi), fun i hi => congrArg (·.2.1) (cnt i hi), fun i hi => congrArg (·.2.2) (cnt i hi),
    int, rea, tm, rn, ft⟩

end Go.Proofs.YtdhoimjkgicneaaGreatDoor
