/- The text of a memory, word by word; and what words make a memory. Of no one program. -/
import Derived.Test.YtdhoimjkgicneacDoorMemA
import Derived.Test.YtdhoimjkgicneacDoorTxtA
import Derived.Lib.Join
namespace Go.Proofs.YtdhoimjkgicneacDoor
open Go

/-- A word of the text of a memory: a bit (kinds 1 to 5), a timer (7), a counter (8), a whole register (9), a real one (10), the time (11), whether it ran (12), a fault (13). -/
structure Wd where
  k : Nat
  n : Nat
  c : Nat
  d : Bool
  l : Bool
  z : Int
  t : List UInt8

def markL (b : Bool) (c : UInt8) : List UInt8 := if b then [c] else []
def countL (c : Nat) (d l : Bool) : List UInt8 := Lib.decDigits c ++ (markL d 33 ++ markL l 43)

/-- What stands behind the device. -/
def Wd.tail (w : Wd) : List UInt8 :=
  if w.k ≤ 5 then [] else if w.k = 7 ∨ w.k = 8 then 61 :: countL w.c w.d w.l else if w.k = 9 then 61 :: Lib.itoa w.z else 61 :: w.t

def Wd.text (w : Wd) : List UInt8 :=
  if w.k = 11 then [116, 105, 109, 101, 61] ++ Lib.decDigits w.c else if w.k = 12 then [114, 97, 110] else if w.k = 13 then [102, 97, 117, 108, 116]
  else letterL w.k ++ (Lib.decDigits w.n ++ w.tail)

/-- The word of bits of a kind, and how many there are. -/
def wdN (v : MemV) (k : Nat) : Nat := if k = 1 then v.x else if k = 2 then v.y else if k = 3 then v.m else if k = 4 then v.s else if k = 5 then v.e else 0
def szN (k : Nat) : Nat := if k = 1 then 32 else if k = 2 then 32 else if k = 3 then 64 else if k = 4 then 16 else if k = 5 then 32 else 0

def bitW (v : MemV) (k : Nat) : List Wd := ((List.range (szN k)).filter fun n => (wdN v k).testBit n).map fun n => ⟨k, n, 0, false, false, 0, []⟩
def timerW (v : MemV) : List Wd := ((List.range 16).filter fun n => v.tD n || v.tC n != 0).map fun n => ⟨7, n, v.tC n, v.tD n, false, 0, []⟩
def counterW (v : MemV) : List Wd := ((List.range 16).filter fun n => v.cD n || (v.cL n || v.cC n != 0)).map fun n => ⟨8, n, v.cC n, v.cD n, v.cL n, 0, []⟩
def intW (v : MemV) : List Wd := ((List.range 32).filter fun n => v.d n != 0).map fun n => ⟨9, n, 0, false, false, v.d n, []⟩
def realW (tx : Nat → List UInt8) : List Wd := ((List.range 16).filter fun n => tx n != [48]).map fun n => ⟨10, n, 0, false, false, 0, tx n⟩
def timeW (v : MemV) : List Wd := if v.time != 0 then [⟨11, 0, v.time, false, false, 0, []⟩] else []
def ranW (v : MemV) : List Wd := if v.ran then [⟨12, 0, 0, false, false, 0, []⟩] else []
def faultW (v : MemV) : List Wd := if v.fault then [⟨13, 0, 0, false, false, 0, []⟩] else []

def bitsW (v : MemV) : List Wd := bitW v 1 ++ (bitW v 2 ++ (bitW v 3 ++ (bitW v 4 ++ bitW v 5)))
def allW (v : MemV) (tx : Nat → List UInt8) : List Wd := bitsW v ++ (timerW v ++ (counterW v ++ (intW v ++ (realW tx ++ (timeW v ++ (ranW v ++ faultW v))))))

def textV (v : MemV) (tx : Nat → List UInt8) : List UInt8 := Lib.join ((allW v tx).map Wd.text) [32]

/-- The memory has that text. -/
def TextOf (v : MemV) (l : List UInt8) : Prop := ∃ tx : Nat → List UInt8, (∀ i, i < 16 → Txt (v.r i) (tx i)) ∧ l = textV v tx

/-- Two memories are one, real numbers as values. -/
structure SameM (a b : MemV) : Prop where
  x : a.x = b.x
  y : a.y = b.y
  m : a.m = b.m
  s : a.s = b.s
  e : a.e = b.e
  tD : ∀ i, i < 16 → a.tD i = b.tD i
  tC : ∀ i, i < 16 → a.tC i = b.tC i
  cD : ∀ i, i < 16 → a.cD i = b.cD i
  cL : ∀ i, i < 16 → a.cL i = b.cL i
  cC : ∀ i, i < 16 → a.cC i = b.cC i
  d : ∀ i, i < 32 → a.d i = b.d i
  r : ∀ i, i < 16 → Same (a.r i) (b.r i)
  time : a.time = b.time
  ran : a.ran = b.ran
  fault : a.fault = b.fault

theorem filter_range_congr {n : Nat} {p q : Nat → Bool} (h : ∀ i, i < n → p i = q i) : (List.range n).filter p = (List.range n).filter q :=
  List.filter_congr fun i hi => h i (by simpa using hi)
theorem seg_congr {n : Nat} {p q : Nat → Bool} {f g : Nat → Wd} (h : ∀ i, i < n → p i = q i) (hf : ∀ i, i < n → f i = g i) : ((List.range n).filter p).map f = ((List.range n).filter q).map g := by
  rw [filter_range_congr h]
  refine List.map_congr_left fun i hi => hf i ?_
  have := (List.mem_filter.1 hi).1
  simpa using this

theorem text_same {a b : MemV} {l : List UInt8} (h : SameM a b) (t : TextOf a l) : TextOf b l := by
  obtain ⟨tx, ht, rfl⟩ := t
  refine ⟨tx, fun i hi => txt_of_same (h.r i hi) (ht i hi), ?_⟩
  have e1 : ∀ k, bitW a k = bitW b k := by
    intro k
    have : wdN a k = wdN b k := by simp only [wdN, h.x, h.y, h.m, h.s, h.e]
    unfold bitW
    rw [this]
  have e2 : timerW a = timerW b := seg_congr (fun i hi => by rw [h.tD i hi, h.tC i hi]) (fun i hi => by rw [h.tD i hi, h.tC i hi])
  have e3 : counterW a = counterW b := seg_congr (fun i hi => by rw [h.cD i hi, h.cL i hi, h.cC i hi]) (fun i hi => by rw [h.cD i hi, h.cL i hi, h.cC i hi])
  have e4 : intW a = intW b := seg_congr (fun i hi => by rw [h.d i hi]) (fun i hi => by rw [h.d i hi])
  have e5 : timeW a = timeW b := by unfold timeW; rw [h.time]
  have e6 : ranW a = ranW b := by unfold ranW; rw [h.ran]
  have e7 : faultW a = faultW b := by unfold faultW; rw [h.fault]
  unfold textV allW bitsW
  rw [e1, e1, e1, e1, e1, e2, e3, e4, e5, e6, e7]

theorem text_fun {v : MemV} {l l' : List UInt8} (h : TextOf v l) (g : TextOf v l') : l = l' := by
  obtain ⟨tx, ht, rfl⟩ := h
  obtain ⟨ty, hy, rfl⟩ := g
  have e : realW tx = realW ty := seg_congr (fun i hi => by rw [txt_fun (ht i hi) (hy i hi)]) (fun i hi => by rw [txt_fun (ht i hi) (hy i hi)])
  unfold textV allW
  rw [e]

/-- What a word says of the memory of whose text it is. -/
structure WdOf (v : MemV) (tx : Nat → List UInt8) (w : Wd) : Prop where
  kind : w.k = 1 ∨ w.k = 2 ∨ w.k = 3 ∨ w.k = 4 ∨ w.k = 5 ∨ w.k = 7 ∨ w.k = 8 ∨ w.k = 9 ∨ w.k = 10 ∨ w.k = 11 ∨ w.k = 12 ∨ w.k = 13
  bit : w.k ≤ 5 → w.n < szN w.k ∧ (wdN v w.k).testBit w.n = true ∧ w.c = 0 ∧ w.d = false ∧ w.l = false ∧ w.z = 0 ∧ w.t = []
  timer : w.k = 7 → w.n < 16 ∧ w.c = v.tC w.n ∧ w.d = v.tD w.n ∧ w.l = false ∧ w.z = 0 ∧ w.t = []
  counter : w.k = 8 → w.n < 16 ∧ w.c = v.cC w.n ∧ w.d = v.cD w.n ∧ w.l = v.cL w.n ∧ w.z = 0 ∧ w.t = []
  int : w.k = 9 → w.n < 32 ∧ w.z = v.d w.n ∧ w.c = 0 ∧ w.d = false ∧ w.l = false ∧ w.t = []
  real : w.k = 10 → w.n < 16 ∧ w.t = tx w.n ∧ w.c = 0 ∧ w.d = false ∧ w.l = false ∧ w.z = 0
  time : w.k = 11 → w.c = v.time ∧ w.n = 0 ∧ w.d = false ∧ w.l = false ∧ w.z = 0 ∧ w.t = []
  ran : w.k = 12 → v.ran = true ∧ w = ⟨12, 0, 0, false, false, 0, []⟩
  fault : w.k = 13 → v.fault = true ∧ w = ⟨13, 0, 0, false, false, 0, []⟩

theorem of_bit {v : MemV} {tx : Nat → List UInt8} {w : Wd} {k : Nat} (hk : k = 1 ∨ k = 2 ∨ k = 3 ∨ k = 4 ∨ k = 5) (h : w ∈ bitW v k) : WdOf v tx w := by
  simp only [bitW, List.mem_map, List.mem_filter, List.mem_range] at h
  obtain ⟨n, ⟨h1, h2⟩, rfl⟩ := h
  refine ⟨?_, fun _ => ⟨h1, h2, rfl, rfl, rfl, rfl, rfl⟩, fun h => ?_, fun h => ?_, fun h => ?_, fun h => ?_, fun h => ?_, fun h => ?_, fun h => ?_⟩
  · simp only; omega
  all_goals (simp only at h; omega)

theorem of_all {v : MemV} {tx : Nat → List UInt8} {w : Wd} (h : w ∈ allW v tx) : WdOf v tx w := by
  simp only [allW, bitsW, List.mem_append] at h
  rcases h with (h | h | h | h | h) | h | h | h | h | h | h | h
  · exact of_bit (by omega) h
  · exact of_bit (by omega) h
  · exact of_bit (by omega) h
  · exact of_bit (by omega) h
  · exact of_bit (by omega) h
  · simp only [timerW, List.mem_map, List.mem_filter, List.mem_range] at h
    obtain ⟨n, ⟨h1, h2⟩, rfl⟩ := h
    refine ⟨by simp, fun h => ?_, fun _ => ⟨h1, rfl, rfl, rfl, rfl, rfl⟩, fun h => ?_, fun h => ?_, fun h => ?_, fun h => ?_, fun h => ?_, fun h => ?_⟩
    all_goals (simp only at h; omega)
  · simp only [counterW, List.mem_map, List.mem_filter, List.mem_range] at h
    obtain ⟨n, ⟨h1, h2⟩, rfl⟩ := h
    refine ⟨by simp, fun h => ?_, fun h => ?_, fun _ => ⟨h1, rfl, rfl, rfl, rfl, rfl⟩, fun h => ?_, fun h => ?_, fun h => ?_, fun h => ?_, fun h => ?_⟩
    all_goals (simp only at h; omega)
  · simp only [intW, List.mem_map, List.mem_filter, List.mem_range] at h
    obtain ⟨n, ⟨h1, h2⟩, rfl⟩ := h
    refine ⟨by simp, fun h => ?_, fun h => ?_, fun h => ?_, fun _ => ⟨h1, rfl, rfl, rfl, rfl, rfl⟩, fun h => ?_, fun h => ?_, fun h => ?_, fun h => ?_⟩
    all_goals (simp only at h; omega)
  · simp only [realW, List.mem_map, List.mem_filter, List.mem_range] at h
    obtain ⟨n, ⟨h1, h2⟩, rfl⟩ := h
    refine ⟨by simp, fun h => ?_, fun h => ?_, fun h => ?_, fun h => ?_, fun _ => ⟨h1, rfl, rfl, rfl, rfl, rfl⟩, fun h => ?_, fun h => ?_, fun h => ?_⟩
    all_goals (simp only at h; omega)
  · unfold timeW at h
    split at h
    · simp only [List.mem_singleton] at h
      subst h
      refine ⟨by simp, fun h => ?_, fun h => ?_, fun h => ?_, fun h => ?_, fun h => ?_, fun _ => ⟨rfl, rfl, rfl, rfl, rfl, rfl⟩, fun h => ?_, fun h => ?_⟩
      all_goals (simp only at h; omega)
    · cases h
  · unfold ranW at h
    split at h
    · rename_i hr
      simp only [List.mem_singleton] at h
      subst h
      refine ⟨by simp, fun h => ?_, fun h => ?_, fun h => ?_, fun h => ?_, fun h => ?_, fun h => ?_, fun _ => ⟨hr, rfl⟩, fun h => ?_⟩
      all_goals (simp only at h; omega)
    · cases h
  · unfold faultW at h
    split at h
    · rename_i hr
      simp only [List.mem_singleton] at h
      subst h
      refine ⟨by simp, fun h => ?_, fun h => ?_, fun h => ?_, fun h => ?_, fun h => ?_, fun h => ?_, fun h => ?_, fun _ => ⟨hr, rfl⟩⟩
      all_goals (simp only at h; omega)
    · cases h

end Go.Proofs.YtdhoimjkgicneacDoor
