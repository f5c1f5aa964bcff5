/- Texts of this proof laid together: MtA, MsD0, MsD. -/
import Derived.Test.YtdhoimjkgicneaaDoorLot1
import Derived.Test.YtdhoimjkgicneaaDoorLot8
import Derived.Lib.Join
import Derived.Test.YtdhoimjkgicneaaDoorLot24
import Derived.Test.YtdhoimjkgicneaaDoorLot28
import Derived.Deep.Cut
/- The text of a memory, word by word; and what words make a memory. Of no one program. -/
namespace Go.Proofs.YtdhoimjkgicneaaDoor
open Go

/-- A word of the text of a memory: a bit (kinds 1 to 5), a timer (7), a counter (8), a whole register (9), a real one (10), the time (11), whether it ran (12), a fault (13). -/
structure Wd where
  k : Nat
  n : Nat
  c : Nat
  d : Bool
  l : Bool
  z : Int
  t : List UInt8

def markL (b : Bool) (c : UInt8) : List UInt8 := if b then [c] else []
def countL (c : Nat) (d l : Bool) : List UInt8 := Lib.decDigits c ++ (markL d 33 ++ markL l 43)

/-- What stands behind the device. -/
def Wd.tail (w : Wd) : List UInt8 :=
  if w.k ≤ 5 then [] else if w.k = 7 ∨ w.k = 8 then 61 :: countL w.c w.d w.l else if w.k = 9 then 61 :: Lib.itoa w.z else 61 :: w.t

def Wd.text (w : Wd) : List UInt8 :=
  if w.k = 11 then [116, 105, 109, 101, 61] ++ Lib.decDigits w.c else if w.k = 12 then [114, 97, 110] else if w.k = 13 then [102, 97, 117, 108, 116]
  else letterL w.k ++ (Lib.decDigits w.n ++ w.tail)

/-- The word of bits of a kind, and how many there are. -/
def wdN (v : MemV) (k : Nat) : Nat := if k = 1 then v.x else if k = 2 then v.y else if k = 3 then v.m else if k = 4 then v.s else if k = 5 then v.e else 0
def szN (k : Nat) : Nat := if k = 1 then 32 else if k = 2 then 32 else if k = 3 then 64 else if k = 4 then 16 else if k = 5 then 32 else 0

def bitW (v : MemV) (k : Nat) : List Wd := ((List.range (szN k)).filter fun n => (wdN v k).testBit n).map fun n => ⟨k, n, 0, false, false, 0, []⟩
def timerW (v : MemV) : List Wd := ((List.range 16).filter fun n => v.tD n || v.tC n != 0).map fun n => ⟨7, n, v.tC n, v.tD n, false, 0, []⟩
def counterW (v : MemV) : List Wd := ((List.range 16).filter fun n => v.cD n || (v.cL n || v.cC n != 0)).map fun n => ⟨8, n, v.cC n, v.cD n, v.cL n, 0, []⟩
def intW (v : MemV) : List Wd := ((List.range 32).filter fun n => v.d n != 0).map fun n => ⟨9, n, 0, false, false, v.d n, []⟩
def realW (tx : Nat → List UInt8) : List Wd := ((List.range 16).filter fun n => tx n != [48]).map fun n => ⟨10, n, 0, false, false, 0, tx n⟩
def timeW (v : MemV) : List Wd := if v.time != 0 then [⟨11, 0, v.time, false, false, 0, []⟩] else []
def ranW (v : MemV) : List Wd := if v.ran then [⟨12, 0, 0, false, false, 0, []⟩] else []
def faultW (v : MemV) : List Wd := if v.fault then [⟨13, 0, 0, false, false, 0, []⟩] else []

def bitsW (v : MemV) : List Wd := bitW v 1 ++ (bitW v 2 ++ (bitW v 3 ++ (bitW v 4 ++ bitW v 5)))
def allW (v : MemV) (tx : Nat → List UInt8) : List Wd := bitsW v ++ (timerW v ++ (counterW v ++ (intW v ++ (realW tx ++ (timeW v ++ (ranW v ++ faultW v))))))

def textV (v : MemV) (tx : Nat → List UInt8) : List UInt8 := Lib.join ((allW v tx).map Wd.text) [32]

/-- The memory has that text. -/
def TextOf (v : MemV) (l : List UInt8) : Prop := ∃ tx : Nat → List UInt8, (∀ i, i < 16 → Txt (v.r i) (tx i)) ∧ l = textV v tx

/-- Two memories are one, real numbers as values. -/
structure SameM (a b : MemV) : Prop where
  x : a.x = b.x
  y : a.y = b.y
  m : a.m = b.m
  s : a.s = b.s
  e : a.e = b.e
  tD : ∀ i, i < 16 → a.tD i = b.tD i
  tC : ∀ i, i < 16 → a.tC i = b.tC i
  cD : ∀ i, i < 16 → a.cD i = b.cD i
  cL : ∀ i, i < 16 → a.cL i = b.cL i
  cC : ∀ i, i < 16 → a.cC i = b.cC i
  d : ∀ i, i < 32 → a.d i = b.d i
  r : ∀ i, i < 16 → Same (a.r i) (b.r i)
  time : a.time = b.time
  ran : a.ran = b.ran
  fault : a.fault = b.fault

theorem filter_range_congr {n : Nat} {p q : Nat → Bool} (h : ∀ i, i < n → p i = q i) : (List.range n).filter p = (List.range n).filter q :=
  List.filter_congr fun i hi => h i (by simpa using hi)
theorem seg_congr {n : Nat} {p q : Nat → Bool} {f g : Nat → Wd} (h : ∀ i, i < n → p i = q i) (hf : ∀ i, i < n → f i = g i) : ((List.range n).filter p).map f = ((List.range n).filter q).map g := by
  rw [filter_range_congr h]
  refine List.map_congr_left fun i hi => hf i ?_
  have := (List.mem_filter.1 hi).1
  simpa using this

theorem text_same {a b : MemV} {l : List UInt8} (h : SameM a b) (t : TextOf a l) : TextOf b l := by
  obtain ⟨tx, ht, rfl⟩ := t
  refine ⟨tx, fun i hi => txt_of_same (h.r i hi) (ht i hi), ?_⟩
  have e1 : ∀ k, bitW a k = bitW b k := by
    intro k
    have : wdN a k = wdN b k := by simp only [wdN, h.x, h.y, h.m, h.s, h.e]
    unfold bitW
    rw [this]
  have e2 : timerW a = timerW b := seg_congr (fun i hi => by rw [h.tD i hi, h.tC i hi]) (fun i hi => by rw [h.tD i hi, h.tC i hi])
  have e3 : counterW a = counterW b := seg_congr (fun i hi => by rw [h.cD i hi, h.cL i hi, h.cC i hi]) (fun i hi => by rw [h.cD i hi, h.cL i hi, h.cC i hi])
  have e4 : intW a = intW b := seg_congr (fun i hi => by rw [h.d i hi]) (fun i hi => by rw [h.d i hi])
  have e5 : timeW a = timeW b := by unfold timeW; rw [h.time]
  have e6 : ranW a = ranW b := by unfold ranW; rw [h.ran]
  have e7 : faultW a = faultW b := by unfold faultW; rw [h.fault]
  unfold textV allW bitsW
  rw [e1, e1, e1, e1, e1, e2, e3, e4, e5, e6, e7]

theorem text_fun {v : MemV} {l l' : List UInt8} (h : TextOf v l) (g : TextOf v l') : l = l' := by
  obtain ⟨tx, ht, rfl⟩ := h
  obtain ⟨ty, hy, rfl⟩ := g
  have e : realW tx = realW ty := seg_congr (fun i hi => by rw [txt_fun (ht i hi) (hy i hi)]) (fun i hi => by rw [txt_fun (ht i hi) (hy i hi)])
  unfold textV allW
  rw [e]

/-- What a word says of the memory of whose text it is. -/
structure WdOf (v : MemV) (tx : Nat → List UInt8) (w : Wd) : Prop where
  kind : w.k = 1 ∨ w.k = 2 ∨ w.k = 3 ∨ w.k = 4 ∨ w.k = 5 ∨ w.k = 7 ∨ w.k = 8 ∨ w.k = 9 ∨ w.k = 10 ∨ w.k = 11 ∨ w.k = 12 ∨ w.k = 13
  bit : w.k ≤ 5 → w.n < szN w.k ∧ (wdN v w.k).testBit w.n = true ∧ w.c = 0 ∧ w.d = false ∧ w.l = false ∧ w.z = 0 ∧ w.t = []
  timer : w.k = 7 → w.n < 16 ∧ w.c = v.tC w.n ∧ w.d = v.tD w.n ∧ w.l = false ∧ w.z = 0 ∧ w.t = []
  counter : w.k = 8 → w.n < 16 ∧ w.c = v.cC w.n ∧ w.d = v.cD w.n ∧ w.l = v.cL w.n ∧ w.z = 0 ∧ w.t = []
  int : w.k = 9 → w.n < 32 ∧ w.z = v.d w.n ∧ w.c = 0 ∧ w.d = false ∧ w.l = false ∧ w.t = []
  real : w.k = 10 → w.n < 16 ∧ w.t = tx w.n ∧ w.c = 0 ∧ w.d = false ∧ w.l = false ∧ w.z = 0
  time : w.k = 11 → w.c = v.time ∧ w.n = 0 ∧ w.d = false ∧ w.l = false ∧ w.z = 0 ∧ w.t = []
  ran : w.k = 12 → v.ran = true ∧ w = ⟨12, 0, 0, false, false, 0, []⟩
  fault : w.k = 13 → v.fault = true ∧ w = ⟨13, 0, 0, false, false, 0, []⟩

theorem of_bit {v : MemV} {tx : Nat → List UInt8} {w : Wd} {k : Nat} (hk : k = 1 ∨ k = 2 ∨ k = 3 ∨ k = 4 ∨ k = 5) (h : w ∈ bitW v k) : WdOf v tx w := by
  simp only [bitW, List.mem_map, List.mem_filter, List.mem_range] at h
  obtain ⟨n, ⟨h1, h2⟩, rfl⟩ := h
  refine ⟨?_, fun _ => ⟨h1, h2, rfl, rfl, rfl, rfl, rfl⟩, fun h => ?_, fun h => ?_, fun h => ?_, fun h => ?_, fun h => ?_, fun h => ?_, fun h => ?_⟩
  · simp only; omega
  all_goals (simp only at h; omega)

theorem of_all {v : MemV} {tx : Nat → List UInt8} {w : Wd} (h : w ∈ allW v tx) : WdOf v tx w := by
  simp only [allW, bitsW, List.mem_append] at h
  rcases h with (h | h | h | h | h) | h | h | h | h | h | h | h
  · exact of_bit (by omega) h
  · exact of_bit (by omega) h
  · exact of_bit (by omega) h
  · exact of_bit (by omega) h
  · exact of_bit (by omega) h
  · simp only [timerW, List.mem_map, List.mem_filter, List.mem_range] at h
    obtain ⟨n, ⟨h1, h2⟩, rfl⟩ := h
    refine ⟨by simp, fun h => ?_, fun _ => ⟨h1, rfl, rfl, rfl, rfl, rfl⟩, fun h => ?_, fun h => ?_, fun h => ?_, fun h => ?_, fun h => ?_, fun h => ?_⟩
    all_goals (simp only at h; omega)
  · simp only [counterW, List.mem_map, List.mem_filter, List.mem_range] at h
    obtain ⟨n, ⟨h1, h2⟩, rfl⟩ := h
    refine ⟨by simp, fun h => ?_, fun h => ?_, fun _ => ⟨h1, rfl, rfl, rfl, rfl, rfl⟩, fun h => ?_, fun h => ?_, fun h => ?_, fun h => ?_, fun h => ?_⟩
    all_goals (simp only at h; omega)
  · simp only [intW, List.mem_map, List.mem_filter, List.mem_range] at h
    obtain ⟨n, ⟨h1, h2⟩, rfl⟩ := h
    refine ⟨by simp, fun h => ?_, fun h => ?_, fun h => ?_, fun _ => ⟨h1, rfl, rfl, rfl, rfl, rfl⟩, fun h => ?_, fun h => ?_, fun h => ?_, fun h => ?_⟩
    all_goals (simp only at h; omega)
  · simp only [realW, List.mem_map, List.mem_filter, List.mem_range] at h
    obtain ⟨n, ⟨h1, h2⟩, rfl⟩ := h
    refine ⟨by simp, fun h => ?_, fun h => ?_, fun h => ?_, fun h => ?_, fun _ => ⟨h1, rfl, rfl, rfl, rfl, rfl⟩, fun h => ?_, fun h => ?_, fun h => ?_⟩
    all_goals (simp only at h; omega)
  · unfold timeW at h
    split at h
    · simp only [List.mem_singleton] at h
      subst h
      refine ⟨by simp, fun h => ?_, fun h => ?_, fun h => ?_, fun h => ?_, fun h => ?_, fun _ => ⟨rfl, rfl, rfl, rfl, rfl, rfl⟩, fun h => ?_, fun h => ?_⟩
      all_goals (simp only at h; omega)
    · cases h
  · unfold ranW at h
    split at h
    · rename_i hr
      simp only [List.mem_singleton] at h
      subst h
      refine ⟨by simp, fun h => ?_, fun h => ?_, fun h => ?_, fun h => ?_, fun h => ?_, fun h => ?_, fun _ => ⟨hr, rfl⟩, fun h => ?_⟩
      all_goals (simp only at h; omega)
    · cases h
  · unfold faultW at h
    split at h
    · rename_i hr
      simp only [List.mem_singleton] at h
      subst h
      refine ⟨by simp, fun h => ?_, fun h => ?_, fun h => ?_, fun h => ?_, fun h => ?_, fun h => ?_, fun h => ?_, fun _ => ⟨hr, rfl⟩⟩
      all_goals (simp only at h; omega)
    · cases h

end Go.Proofs.YtdhoimjkgicneaaDoor

/- Two memories side by side, and what is said of them. -/
namespace Go.Proofs.YtdhoimjkgicneaaDoor
open Go Go.RowKit

theorem two_mems (a b : MemV) (w : World) (t1 t2 : TypeId) :
    MemAt w.heap.size a ((w.alloc (.cells a.row t1)).alloc (.cells b.row t2)) ∧ MemAt (w.heap.size + 1) b ((w.alloc (.cells a.row t1)).alloc (.cells b.row t2)) ∧ Below w.heap.size w ((w.alloc (.cells a.row t1)).alloc (.cells b.row t2)) := by
  have h1 : ∀ (w : World) (o : Obj), Below w.heap.size w (w.alloc o) := fun w o => (Below.refl _ _).alloc (Nat.le_refl _) _
  refine ⟨(MemAt.alloc a w t1).below (h1 _ _) (by simp), ?_, ((Below.refl w.heap.size w).alloc (Nat.le_refl _) _).alloc (by simp) _⟩
  have := MemAt.alloc b (w.alloc (.cells a.row t1)) t2
  simpa using this

/-- What is said of two memories. -/
def SameOf (a b : MemV) (w : World) (e : Ending) (w' : World) : Prop := ∃ q : Bool, e = .returned (.bool q) ∧ (q = true ↔ SameM a b) ∧ Below w.heap.size w w'

end Go.Proofs.YtdhoimjkgicneaaDoor

/- The program's MemSame: two memories are one. -/
namespace Go.Proofs.YtdhoimjkgicneaaDoor
open Go Go.RowKit Ieee

theorem ord_nan {x : Nat} (h : (FloatKind.f64.format.order x x != some .eq) = true) : ∃ s t, double.read x = .nan s t := by
  rcases read_cases x with ⟨s, m, k, g⟩ | ⟨s, g⟩ | g
  · exfalso
    have e : FloatKind.f64.format.order x x = some .eq := by
      show double.order x x = _
      simp [Format.order, g.read, Datum.order]
    rw [e] at h; cases h
  · exfalso
    have e : FloatKind.f64.format.order x x = some .eq := by
      show double.order x x = _
      simp [Format.order, g, Datum.order]
    rw [e] at h; cases h
  · exact g
theorem nan_ord {x : Nat} (h : ∃ s t, double.read x = .nan s t) : (FloatKind.f64.format.order x x != some .eq) = true := by
  obtain ⟨s, t, h⟩ := h
  have e : FloatKind.f64.format.order x x = none := by
    show double.order x x = _
    simp [Format.order, h, Datum.order]
  rw [e]; rfl

theorem canon_same {x y : Nat} (hx : x < 18446744073709551616) (hy : y < 18446744073709551616) : canonW x = canonW y ↔ Same x y := by
  have hn : (FloatKind.f64.format.order 9221120237041090561 9221120237041090561 != some .eq) = true := by decide +kernel
  unfold canonW
  constructor
  · intro h
    split at h
    · rename_i h1
      split at h
      · rename_i h2
        exact Or.inl ⟨ord_nan h1, ord_nan h2⟩
      · rename_i h2
        rw [← h, hn] at h2
        exact absurd rfl h2
    · rename_i h1
      split at h
      · rw [h, hn] at h1
        exact absurd rfl h1
      · rw [h]; exact same_refl y
  · intro h
    rcases same_word hx hy h with rfl | ⟨h1, h2⟩
    · rfl
    · rw [if_pos (nan_ord h1), if_pos (nan_ord h2)]

/-- Cell by cell, real numbers apart. -/
theorem same_cells {a b : MemV} : (∀ j, j < 136 → ({ a with r := fun _ => 0 } : MemV).cell j = ({ b with r := fun _ => 0 } : MemV).cell j) ∧ (∀ i, i < 16 → Same (a.r i) (b.r i)) ↔ SameM a b := by
  constructor
  · rintro ⟨h, hr⟩
    have nat : ∀ {k : IntKind} {x y : Nat}, Value.int k (x : Int) = .int k (y : Int) → x = y := by
      intro k x y e
      have := (Value.int.inj e).2
      omega
    refine ⟨nat (h 0 (by omega)), nat (h 1 (by omega)), nat (h 2 (by omega)), nat (h 3 (by omega)), nat (h 4 (by omega)), fun i hi => ?_, fun i hi => ?_, fun i hi => ?_, fun i hi => ?_, fun i hi => ?_, fun i hi => ?_, hr, nat (h 133 (by omega)), Value.bool.inj (h 134 (by omega)), Value.bool.inj (h 135 (by omega))⟩
    · have := h (5 + i * 2) (by omega)
      rw [MemV.cell_tD _ i hi, MemV.cell_tD _ i hi] at this
      exact Value.bool.inj this
    · have := h (5 + i * 2 + 1) (by omega)
      rw [MemV.cell_tC _ i hi, MemV.cell_tC _ i hi] at this
      exact nat this
    · have := h (37 + i * 3) (by omega)
      rw [MemV.cell_cD _ i hi, MemV.cell_cD _ i hi] at this
      exact Value.bool.inj this
    · have := h (37 + i * 3 + 1) (by omega)
      rw [MemV.cell_cL _ i hi, MemV.cell_cL _ i hi] at this
      exact Value.bool.inj this
    · have := h (37 + i * 3 + 2) (by omega)
      rw [MemV.cell_cC _ i hi, MemV.cell_cC _ i hi] at this
      exact nat this
    · have := h (85 + i) (by omega)
      rw [MemV.cell_d _ i hi, MemV.cell_d _ i hi] at this
      exact (Value.int.inj this).2
  · intro h
    refine ⟨fun j hj => ?_, h.r⟩
    unfold MemV.cell
    simp only [h.x, h.y, h.m, h.s, h.e, h.time, h.ran, h.fault]
    by_cases h37 : j < 37
    · by_cases h5 : j < 5
      · have : j = 0 ∨ j = 1 ∨ j = 2 ∨ j = 3 ∨ j = 4 := by omega
        rcases this with rfl | rfl | rfl | rfl | rfl <;> rfl
      · rw [h.tD ((j - 5) / 2) (by omega), h.tC ((j - 5) / 2) (by omega)]
        simp only [h37, if_true]
    by_cases h85 : j < 85
    · rw [h.cD ((j - 37) / 3) (by omega), h.cL ((j - 37) / 3) (by omega), h.cC ((j - 37) / 3) (by omega)]
      simp only [h37, h85, if_true, if_false]
    by_cases h117 : j < 117
    · rw [h.d (j - 85) (by omega)]
      simp only [h37, h85, h117, if_true, if_false]
    · simp only [h37, h85, h117, if_false]

theorem eql_words_all (f g : Nat → Int) (w0 : World) : ∃ b : Bool, (∀ w, (binOp .neq 114 (.agg (rowOf (fun i => .int .u64 (f i)) 16)) (.agg (rowOf (fun i => .int .u64 (g i)) 16))).run Tryd.prog w = .ok (.bool (!b)) w) ∧ (b = true ↔ ∀ i, i < 16 → f i = g i) := by
  obtain ⟨b, h1, h2⟩ := eql_words f g w0
  refine ⟨b, fun w => ?_, h2⟩
  obtain ⟨b', g1, g2⟩ := eql_words f g w
  have e : b' = b := by rw [Bool.eq_iff_iff, g2, h2]
  subst e
  rw [run_neq_struct, g1]
  rfl

/-- Two memories that came in. -/
theorem zReals : ∀ w, (zeroValue 59).run Tryd.prog w = .ok (.agg (rowOf (fReal fun _ => 0) 16)) w := fun _ => by kernel_rfl

theorem cell_noreal (a : MemV) : ∀ i, i < 136 → (i < 117 ∨ 117 + 16 ≤ i) → ({ a with r := fun _ => 0 } : MemV).cell i = a.cell i := by
  intro i hi h
  unfold MemV.cell
  by_cases h133 : i < 133
  · have h117 : i < 117 := by omega
    simp only [h117, if_true]
  · simp only [h133, if_false]

set_option maxRecDepth 100000 in
set_option maxHeartbeats 2000000 in
theorem impl_same (a b : MemV) (ha : a.Ok) (hb : b.Ok) (w : World) : Calls Tryd.prog 41 #[.agg a.row, .agg b.row] w (SameOf a b w) := by
  obtain ⟨A, B, BW⟩ := two_mems a b w 61 61
  go_enter Tryd.func41, Tryd.ntmps41
  go_wp2_with fail
  generalize ((w.alloc (.cells a.row 61)).alloc (.cells b.row 61)) = w0 at A B BW ⊢
  obtain ⟨q1, Q1, Q2⟩ := eql_words_all (fun i => canonW (a.r i)) (fun i => canonW (b.r i)) w0
  refine wp_region_belowM (by kernel_rfl) (by kernel_rfl) ?_
  quiet_step (exact fun _ => rfl)
  refine quiet_load (t := 59) (v := .agg (rowOf (fReal a.r) 16)) rfl rfl rfl (fun w' hw' => load_row aReal sReal (A.below hw' A.z).reals) ?_
  refine wpQuiet_step (fun K hK => ?_)
  go_simp
  refine ⟨.agg (rowOf (fun i => .int .u64 (canonW (a.r i))) 16), fun w' hw' => (real_bits a.r w').mono fun e w'' ⟨he, hb⟩ => ⟨he, hw'.trans (hb.mono hw'.size)⟩, hK _ ?_⟩
  clear hK K
  quiet_step (exact fun _ => rfl)
  refine quiet_load (t := 59) (v := .agg (rowOf (fReal b.r) 16)) rfl rfl rfl (fun w' hw' => load_row aReal sReal (B.below hw' B.z).reals) ?_
  refine wpQuiet_step (fun K hK => ?_)
  go_simp
  refine ⟨.agg (rowOf (fun i => .int .u64 (canonW (b.r i))) 16), fun w' hw' => (real_bits b.r w').mono fun e w'' ⟨he, hb⟩ => ⟨he, hw'.trans (hb.mono hw'.size)⟩, hK _ ?_⟩
  clear hK K
  refine quiet_bin (t := 114) rfl rfl rfl rfl (fun w => run_eqGuard_agg w _ _ _ _ _ _ (by kernel_rfl)) Q1 ?_
  refine wpQuiet_nil ?_
  intro w1 hw1
  have A1 := A.below hw1 A.z
  have B1 := B.below hw1 B.z
  have BW1 := BW.trans (hw1.mono BW.size)
  have QR : q1 = true ↔ ∀ i, i < 16 → Same (a.r i) (b.r i) := by
    rw [Q2]
    constructor
    · intro h i hi
      have := h i hi
      exact (canon_same (ha.r i) (hb.r i)).1 (by omega)
    · intro h i hi
      have := (canon_same (ha.r i) (hb.r i)).2 (h i hi)
      omega
  clear A B BW Q1 Q2 hw1
  cases q1 with
  | false =>
    have S : Hid (¬ SameM a b) := fun h => by have := QR.2 h.r; cases this
    clear QR
    go_wp2_with fail
    go_ret
    exact ⟨false, rfl, ⟨fun h => by (cases h), fun h => absurd h S.out⟩, BW1⟩
  | true =>
    have A2 := A1.putRow (o := 117) (n := 16) (v' := { a with r := fun _ => 0 }) (f' := fReal fun _ => 0) (by omega) (fun k hk => MemV.cell_r _ k hk) (cell_noreal a)
    have B2 := B1.other (c := w.heap.size) (o := 117) (vs := (rowOf (fReal fun _ => 0) 16).toList) (by omega)
    have A3 := A2.other (c := w.heap.size + 1) (o := 117) (vs := (rowOf (fReal fun _ => 0) 16).toList) (by omega)
    have B3 := B2.putRow (o := 117) (n := 16) (v' := { b with r := fun _ => 0 }) (f' := fReal fun _ => 0) (by omega) (fun k hk => MemV.cell_r _ k hk) (cell_noreal b)
    have BW3 := setCells_below (rowOf (fReal fun _ => 0) 16).toList (w.heap.size + 1) 117 (setCells_below (rowOf (fReal fun _ => 0) 16).toList w.heap.size 117 BW1 (by omega)) (by omega)
    have L1 := store_row (fReal fun _ => 0) sReal (fun k _ => rfl) A1.reals
    have L2 := store_row (fReal fun _ => 0) sReal (fun k _ => rfl) B2.reals
    have QS : Hid (∀ i, i < 16 → Same (a.r i) (b.r i)) := QR.1 rfl
    obtain ⟨z, hz⟩ : ∃ z : Array Value, z = rowOf (fReal fun _ => 0) 16 := ⟨_, rfl⟩
    have zr : ∀ w, (zeroValue 59).run Tryd.prog w = .ok (.agg z) w := hz ▸ zReals
    rw [← hz] at L1 L2 A3 B3 BW3
    clear A1 B1 A2 B2 QR BW1 hz
    go_upto_region 3 with fail
    go_upto_region 4 with (first | (refine list_store (t := 59) (x := .pointer (some ⟨w.heap.size, 117, none⟩)) (u := .agg z) rfl rfl rfl rfl L1 ?_) | (refine list_store (t := 59) (x := .pointer (some ⟨w.heap.size + 1, 117, none⟩)) (u := .agg z) rfl rfl rfl rfl L2 ?_))
    clear L1 L2 zr
    generalize ((w1.setCells w.heap.size 117 z.toList).setCells (w.heap.size + 1) 117 z.toList) = w3 at A3 B3 BW3 ⊢
    obtain ⟨q, E1, E2⟩ := eql_mem { a with r := fun _ => 0 } { b with r := fun _ => 0 } w3 (fun _ => rfl) (fun _ => rfl)
    have E3 : q = true ↔ SameM a b := by
      rw [E2, ← same_cells]
      exact ⟨fun h => ⟨h, QS.out⟩, fun h => h.1⟩
    obtain ⟨ra, hra⟩ : ∃ ra : Array Value, ra = ({ a with r := fun _ => 0 } : MemV).row := ⟨_, rfl⟩
    obtain ⟨rb, hrb⟩ : ∃ rb : Array Value, rb = ({ b with r := fun _ => 0 } : MemV).row := ⟨_, rfl⟩
    have L3 : (Instr.loadAt 61 (.pointer (some ⟨w.heap.size, 0, none⟩))).run Tryd.prog w3 = .ok (.agg ra) w3 := hra ▸ load_mem A3
    have L4 : (Instr.loadAt 61 (.pointer (some ⟨w.heap.size + 1, 0, none⟩))).run Tryd.prog w3 = .ok (.agg rb) w3 := hrb ▸ load_mem B3
    have L5 : (binOp .eql 61 (.agg ra) (.agg rb)).run Tryd.prog w3 = .ok (.bool q) w3 := by
      rw [hra, hrb, run_eql_struct, E1]
      rfl
    have HS : Hid (SameOf a b w (.returned (.bool q)) w3) := ⟨q, rfl, E3, BW3⟩
    clear E1 E2 E3 A3 B3 BW3 hra hrb QS ha hb
    go_wp2_with (first | (refine list_load (t := 61) (x := .pointer (some ⟨w.heap.size, 0, none⟩)) rfl rfl rfl L3 ?_) | (refine list_load (t := 61) (x := .pointer (some ⟨w.heap.size + 1, 0, none⟩)) rfl rfl rfl L4 ?_) | (refine list_bin (t := 61) rfl rfl rfl rfl (run_eqGuard_agg _ _ _ _ _ _ _ (by kernel_rfl)) L5 ?_))
    go_ret
    exact HS.out

end Go.Proofs.YtdhoimjkgicneaaDoor
