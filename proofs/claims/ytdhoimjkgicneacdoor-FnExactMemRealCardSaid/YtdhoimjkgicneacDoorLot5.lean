/- Texts of this proof laid together: MemR, MemT. -/
import Derived.Test.YtdhoimjkgicneacDoorLot4
import Derived.WideShapes
import Derived.Test.YtdhoimjkgicneacDoorLot2
/- An argument of the laws' kind of memory: a memory, field by field. -/
namespace Go.Proofs.YtdhoimjkgicneacDoor
open Go Go.RowKit

section
variable {P : Program} {W : World} {r : Reach} {base : Nat} {t : TypeId} {v : Value}
theorem cell_int {k : IntKind} (ht : P.underlying t = some (.int k)) (h : Cell.okWide P W r base t v) : ∃ n, v = .int k n ∧ k.has n := by
  unfold Cell.okWide at h
  rw [ht] at h
  simp only [Cell.ok, ht] at h
  split at h <;> simp_all
theorem cell_bool (ht : P.underlying t = some .bool) (h : Cell.okWide P W r base t v) : ∃ b, v = .bool b := by
  unfold Cell.okWide at h
  rw [ht] at h
  simp only [Cell.ok, ht] at h
  split at h <;> simp_all
theorem cell_float {k : FloatKind} (ht : P.underlying t = some (.float k)) (h : Cell.okWide P W r base t v) : ∃ n, v = .float k n ∧ k.has n := by
  unfold Cell.okWide at h
  rw [ht] at h
  simp only [Cell.ok, ht] at h
  split at h <;> simp_all
end

/-- The type of each cell of a memory. -/
def kindT (k : Nat) : TypeId :=
  if k = 0 then 22 else if k = 1 then 22 else if k = 2 then 23 else if k = 3 then 24 else if k = 4 then 22
  else if k < 37 then (if (k - 5) % 2 = 0 then 4 else 24)
  else if k < 85 then (if (k - 37) % 3 = 0 then 4 else if (k - 37) % 3 = 1 then 4 else 24)
  else if k < 117 then 31 else if k < 133 then 33 else if k = 133 then 22 else 4

set_option maxRecDepth 100000 in
theorem memTypes : Tryd.prog.cellTypes Tryd.prog.depth 36 = some ((List.range 136).map kindT) := by kernel_rfl

def natAt (cs : Array Value) (i : Nat) : Nat := (intOf (cs.getD i undef)).toNat
def boolAt (cs : Array Value) (i : Nat) : Bool := match cs.getD i undef with | .bool b => b | _ => false
def wordAt (cs : Array Value) (i : Nat) : Nat := match cs.getD i undef with | .float _ b => b | _ => 0

/-- A row as a memory. -/
def memOf (cs : Array Value) : MemV :=
  ⟨natAt cs 0, natAt cs 1, natAt cs 2, natAt cs 3, natAt cs 4, fun i => boolAt cs (5 + i * 2), fun i => if i < 16 then natAt cs (5 + i * 2 + 1) else 0,
    fun i => boolAt cs (37 + i * 3), fun i => boolAt cs (37 + i * 3 + 1), fun i => if i < 16 then natAt cs (37 + i * 3 + 2) else 0,
    fun i => if i < 32 then intOf (cs.getD (85 + i) undef) else 0, fun i => if i < 16 then wordAt cs (117 + i) else 0, natAt cs 133, boolAt cs 134, boolAt cs 135⟩

section
variable {cs : Array Value} {W : World} {r : Reach} {base : Nat}
set_option maxRecDepth 100000 in
theorem got_u32 {i : Nat} (e : kindT i = 22) (hi : i < 136) (h : ∀ i, i < 136 → Cell.okWide Tryd.prog W r base (kindT i) (cs.getD i undef)) : cs.getD i undef = .int .u32 (natAt cs i) ∧ natAt cs i < 4294967296 := by
  have := h i hi
  rw [e] at this
  obtain ⟨n, hn, h1, h2⟩ := cell_int Tryd.underlying22 this
  have h1 : 0 ≤ n := h1
  have h2 : n ≤ 4294967295 := h2
  unfold natAt
  rw [hn]
  simp only [intOf]
  refine ⟨?_, by omega⟩
  rw [show ((n.toNat : Nat) : Int) = n by omega]
set_option maxRecDepth 100000 in
theorem got_u64 {i : Nat} (e : kindT i = 23) (hi : i < 136) (h : ∀ i, i < 136 → Cell.okWide Tryd.prog W r base (kindT i) (cs.getD i undef)) : cs.getD i undef = .int .u64 (natAt cs i) ∧ natAt cs i < 18446744073709551616 := by
  have := h i hi
  rw [e] at this
  obtain ⟨n, hn, h1, h2⟩ := cell_int Tryd.underlying23 this
  have h1 : 0 ≤ n := h1
  have h2 : n ≤ 18446744073709551615 := h2
  unfold natAt
  rw [hn]
  simp only [intOf]
  refine ⟨?_, by omega⟩
  rw [show ((n.toNat : Nat) : Int) = n by omega]
set_option maxRecDepth 100000 in
theorem got_u16 {i : Nat} (e : kindT i = 24) (hi : i < 136) (h : ∀ i, i < 136 → Cell.okWide Tryd.prog W r base (kindT i) (cs.getD i undef)) : cs.getD i undef = .int .u16 (natAt cs i) ∧ natAt cs i < 65536 := by
  have := h i hi
  rw [e] at this
  obtain ⟨n, hn, h1, h2⟩ := cell_int Tryd.underlying24 this
  have h1 : 0 ≤ n := h1
  have h2 : n ≤ 65535 := h2
  unfold natAt
  rw [hn]
  simp only [intOf]
  refine ⟨?_, by omega⟩
  rw [show ((n.toNat : Nat) : Int) = n by omega]
set_option maxRecDepth 100000 in
theorem got_i16 {i : Nat} (e : kindT i = 31) (hi : i < 136) (h : ∀ i, i < 136 → Cell.okWide Tryd.prog W r base (kindT i) (cs.getD i undef)) : cs.getD i undef = .int .i16 (intOf (cs.getD i undef)) ∧ -32768 ≤ intOf (cs.getD i undef) ∧ intOf (cs.getD i undef) ≤ 32767 := by
  have := h i hi
  rw [e] at this
  obtain ⟨n, hn, h1, h2⟩ := cell_int Tryd.underlying31 this
  rw [hn]
  exact ⟨rfl, h1, h2⟩
set_option maxRecDepth 100000 in
theorem got_bool {i : Nat} (e : kindT i = 4) (hi : i < 136) (h : ∀ i, i < 136 → Cell.okWide Tryd.prog W r base (kindT i) (cs.getD i undef)) : cs.getD i undef = .bool (boolAt cs i) := by
  have := h i hi
  rw [e] at this
  obtain ⟨n, hn⟩ := cell_bool Tryd.underlying4 this
  unfold boolAt
  rw [hn]
set_option maxRecDepth 100000 in
theorem got_f64 {i : Nat} (e : kindT i = 33) (hi : i < 136) (h : ∀ i, i < 136 → Cell.okWide Tryd.prog W r base (kindT i) (cs.getD i undef)) : cs.getD i undef = .float .f64 (wordAt cs i) ∧ wordAt cs i < 2 ^ 64 := by
  have := h i hi
  rw [e] at this
  obtain ⟨n, hn, h1⟩ := cell_float Tryd.underlying33 this
  unfold wordAt
  rw [hn]
  exact ⟨rfl, h1⟩

theorem kind_tC {i : Nat} (hi : i < 16) : kindT (5 + i * 2 + 1) = 24 := by
  unfold kindT
  rw [if_neg (by omega), if_neg (by omega), if_neg (by omega), if_neg (by omega), if_neg (by omega), if_pos (by omega), if_neg (by omega)]
theorem kind_cC {i : Nat} (hi : i < 16) : kindT (37 + i * 3 + 2) = 24 := by
  unfold kindT
  rw [if_neg (by omega), if_neg (by omega), if_neg (by omega), if_neg (by omega), if_neg (by omega), if_neg (by omega), if_pos (by omega), if_neg (by omega), if_neg (by omega)]
theorem kind_d {i : Nat} (hi : i < 32) : kindT (85 + i) = 31 := by
  unfold kindT
  rw [if_neg (by omega), if_neg (by omega), if_neg (by omega), if_neg (by omega), if_neg (by omega), if_neg (by omega), if_neg (by omega), if_pos (by omega)]
theorem kind_r {i : Nat} (hi : i < 16) : kindT (117 + i) = 33 := by
  unfold kindT
  rw [if_neg (by omega), if_neg (by omega), if_neg (by omega), if_neg (by omega), if_neg (by omega), if_neg (by omega), if_neg (by omega), if_neg (by omega), if_pos (by omega)]

set_option maxRecDepth 100000 in
theorem memOf_ok (h : ∀ i, i < 136 → Cell.okWide Tryd.prog W r base (kindT i) (cs.getD i undef)) : (memOf cs).Ok := by
  refine ⟨(got_u32 rfl (by omega) h).2, (got_u32 rfl (by omega) h).2, (got_u64 rfl (by omega) h).2, (got_u16 rfl (by omega) h).2, (got_u32 rfl (by omega) h).2, fun i => ?_, fun i => ?_, fun i => ?_, fun i => ?_, fun i => ?_, (got_u32 rfl (by omega) h).2⟩
  · simp only [memOf]
    split
    · exact (got_u16 (kind_tC ‹_›) (by omega) h).2
    · omega
  · simp only [memOf]
    split
    · exact (got_u16 (kind_cC ‹_›) (by omega) h).2
    · omega
  · simp only [memOf]
    split
    · exact (got_i16 (kind_d ‹_›) (by omega) h).2.1
    · omega
  · simp only [memOf]
    split
    · exact (got_i16 (kind_d ‹_›) (by omega) h).2.2
    · omega
  · simp only [memOf]
    split
    · exact (got_f64 (kind_r ‹_›) (by omega) h).2
    · exact Nat.two_pow_pos 64

set_option maxRecDepth 100000 in
theorem memOf_cell (h : ∀ i, i < 136 → Cell.okWide Tryd.prog W r base (kindT i) (cs.getD i undef)) {k : Nat} (hk : k < 136) : cs.getD k undef = (memOf cs).cell k := by
  unfold MemV.cell
  split
  · subst k; exact (got_u32 rfl (by omega) h).1
  split
  · subst k; exact (got_u32 rfl (by omega) h).1
  split
  · subst k; exact (got_u64 rfl (by omega) h).1
  split
  · subst k; exact (got_u16 rfl (by omega) h).1
  split
  · subst k; exact (got_u32 rfl (by omega) h).1
  split
  · have e : kindT k = if (k - 5) % 2 = 0 then 4 else 24 := by
      unfold kindT
      rw [if_neg (by omega), if_neg (by omega), if_neg (by omega), if_neg (by omega), if_neg (by omega), if_pos (by omega)]
    split
    · rw [if_pos (by assumption)] at e
      simp only [memOf]
      rw [show 5 + (k - 5) / 2 * 2 = k by omega]
      exact got_bool e (by omega) h
    · rw [if_neg (by assumption)] at e
      simp only [memOf]
      rw [if_pos (by omega), show 5 + (k - 5) / 2 * 2 + 1 = k by omega]
      exact (got_u16 e (by omega) h).1
  split
  · have e : kindT k = if (k - 37) % 3 = 0 then 4 else if (k - 37) % 3 = 1 then 4 else 24 := by
      unfold kindT
      rw [if_neg (by omega), if_neg (by omega), if_neg (by omega), if_neg (by omega), if_neg (by omega), if_neg (by omega), if_pos (by omega)]
    split
    · rw [if_pos (by assumption)] at e
      simp only [memOf]
      rw [show 37 + (k - 37) / 3 * 3 = k by omega]
      exact got_bool e (by omega) h
    rw [if_neg (by assumption)] at e
    split
    · rw [if_pos (by assumption)] at e
      simp only [memOf]
      rw [show 37 + (k - 37) / 3 * 3 + 1 = k by omega]
      exact got_bool e (by omega) h
    · rw [if_neg (by assumption)] at e
      simp only [memOf]
      rw [if_pos (by omega), show 37 + (k - 37) / 3 * 3 + 2 = k by omega]
      exact (got_u16 e (by omega) h).1
  split
  · simp only [memOf]
    rw [if_pos (by omega), show 85 + (k - 85) = k by omega]
    have e : kindT k = 31 := by
      have := kind_d (i := k - 85) (by omega)
      rwa [show 85 + (k - 85) = k by omega] at this
    exact (got_i16 e (by omega) h).1
  split
  · simp only [memOf]
    rw [if_pos (by omega), show 117 + (k - 117) = k by omega]
    have e : kindT k = 33 := by
      have := kind_r (i := k - 117) (by omega)
      rwa [show 117 + (k - 117) = k by omega] at this
    exact (got_f64 e (by omega) h).1
  split
  · subst k; exact (got_u32 rfl (by omega) h).1
  split
  · subst k; exact got_bool rfl (by omega) h
  · have : k = 135 := by omega
    subst k; exact got_bool rfl (by omega) h
end

set_option maxRecDepth 100000 in
/-- An argument of the laws' kind of memory. -/
theorem open_mem {W : World} {r : Reach} {base : Nat} {v : Value} (h : Value.okWide Tryd.prog W r base 36 v) : ∃ m : MemV, m.Ok ∧ v = .agg m.row := by
  have h' : ∃ cs, v = .agg cs ∧ cs.size = Tryd.prog.cellsOf 36 ∧ Row.okWide Tryd.prog W r base 36 cs := by
    unfold Value.okWide at h
    rw [Tryd.underlying36] at h
    exact h
  obtain ⟨cs, rfl, hsz, ts, ht, -, hc⟩ := h'
  have hsz : cs.size = 136 := hsz.trans (by kernel_rfl)
  obtain rfl : (List.range 136).map kindT = ts := Option.some.inj (memTypes.symm.trans ht)
  have hk : ∀ i, i < 136 → Cell.okWide Tryd.prog W r base (kindT i) (cs.getD i undef) := by
    intro i hi
    obtain ⟨u, hu, hok⟩ := hc i (cs.getD i undef) (by simp [Array.getD, hsz, hi])
    have e : u = kindT i := by
      rw [show ((List.range 136).map kindT).length = 136 by simp, Nat.mod_eq_of_lt hi] at hu
      simpa [hi] using hu.symm
    rwa [e] at hok
  refine ⟨memOf cs, memOf_ok hk, ?_⟩
  congr 1
  apply Array.ext
  · rw [hsz, MemV.row_size]
  · intro i h1 h2
    have := memOf_cell hk (k := i) (by omega)
    simp only [MemV.row, List.getElem_toArray, List.getElem_map, List.getElem_range]
    rw [← this]
    simp [Array.getD, h1]

end Go.Proofs.YtdhoimjkgicneacDoor

/- The laws' copies of the arrays of a memory. -/
namespace Go.Proofs.YtdhoimjkgicneacDoor
open Go Go.RowKit

set_option maxHeartbeats 400000 in
theorem to_timer (a : Bool) (c : Nat) (w : World) :
    Calls Tryd.prog 41 #[.agg #[.bool a, .int .u16 c]] w fun e w' => e = .returned (.agg #[.bool a, .int .u16 c]) ∧ Below w.heap.size w w' := by
  go_enter Tryd.func41, Tryd.ntmps41
  go_wp2
  exact bodyPost_ret (v := .agg #[.bool a, .int .u16 c]) (by simp [results, Tryd.results41, go_sem]) rfl
    ⟨rfl, (((Below.refl _ _).alloc (Nat.le_refl _) _).alloc (by simp) _).alloc (by simp; omega) _⟩

set_option maxHeartbeats 400000 in
theorem to_counter (a b : Bool) (c : Nat) (w : World) :
    Calls Tryd.prog 42 #[.agg #[.bool a, .bool b, .int .u16 c]] w fun e w' => e = .returned (.agg #[.bool a, .bool b, .int .u16 c]) ∧ Below w.heap.size w w' := by
  go_enter Tryd.func42, Tryd.ntmps42
  go_wp2
  exact bodyPost_ret (v := .agg #[.bool a, .bool b, .int .u16 c]) (by simp [results, Tryd.results42, go_sem]) rfl
    ⟨rfl, (((Below.refl _ _).alloc (Nat.le_refl _) _).alloc (by simp) _).alloc (by simp; omega) _⟩

set_option maxRecDepth 100000 in
set_option maxHeartbeats 2000000 in
theorem to_timers (D : Nat → Bool) (C : Nat → Nat) (w : World) :
    Calls Tryd.prog 18 #[.agg (rowOf (fTimer D C) 32)] w fun e w' => e = .returned (.agg (rowOf (fTimer D C) 32)) ∧ Below w.heap.size w w' := by
  obtain ⟨f, hf⟩ : ∃ f, f = fTimer D C := ⟨_, rfl⟩
  have f0 : ∀ k : Nat, f (k * 2) = .bool (D k) := fun k => by rw [hf]; exact fTimer_0 D C k
  have f1 : ∀ k : Nat, f (k * 2 + 1) = .int .u16 (C k) := fun k => by rw [hf]; exact fTimer_1 D C k
  have fo : ∀ k, (f k).oneCell' = true := fun k => by rw [hf]; exact fTimer_one D C k
  rw [← hf]
  clear hf
  obtain ⟨R0, R1, R2, RB⟩ := three_rows f zTimer 32 w 27 41 41
  go_enter Tryd.func18, Tryd.ntmps18
  go_wp2_with fail
  go_loopw [4] (fun i wr => ∃ k : Nat, k ≤ 16 ∧ i = .int .i64 k ∧ RowAt w.heap.size 0 32 f wr ∧ RowAt (w.heap.size + 1) 0 32 zTimer wr ∧ RowAt (w.heap.size + 1 + 1) 0 32 (fun j => if j < k * 2 then f j else zTimer j) wr ∧ Below w.heap.size w wr) (fun i _ => 16 - (intOf i).toNat)
  case atStart => exact ⟨0, by omega, rfl, R0, R1, R2, RB⟩
  case round =>
    clear R0 R1 R2 RB
    obtain ⟨k, hk, rfl, R0, R1, R2, RB⟩ := hrel
    by_cases hlt : k < 16
    · have c0 := R0.c0 (k := k * 2) (by omega)
      rw [f0] at c0
      have c1 := R0.c0 (k := k * 2 + 1) (by omega)
      rw [f1] at c1
      go_wp2_with fail
      refine (to_timer (D k) (C k) wr).mono ?_
      rintro e w1 ⟨rfl, hB⟩
      clear c0 c1
      have R0 := R0.below hB R0.z
      have R1 := R1.below hB R1.z
      have R2 := R2.below hB R2.z
      have RB := RB.trans (hB.mono RB.size)
      clear hB
      have c0 := R2.c0 (k := k * 2) (by omega)
      have e0 := R2.f0 (k := k * 2) (by omega)
      have c1 := R2.c0 (k := k * 2 + 1) (by omega)
      have e1 := R2.f0 (k := k * 2 + 1) (by omega)
      go_wp2_with fail
      go_roundw
      case rel => exact ⟨k + 1, by omega, by go_num, ((R0.at_other (by omega)).at_other (by omega)), ((R1.at_other (by omega)).at_other (by omega)), ((R2.more (m := k * 2 + 1) (by omega) (by omega) (f0 k)).more (m := (k + 1) * 2) (by omega) (by omega) (f1 k)), ((RB.setCell (by simp; omega) _).setCell (by simp; omega) _)⟩
      case measure => simp [intOf]; omega
    · have e : k = 16 := by omega
      subst e
      have R2 : RowAt (w.heap.size + 1 + 1) 0 32 f wr := R2.congr (fun j hj => by rw [if_pos (by omega)])
      have R1' := R1.stored f
      have RB' := setCells_below (rowOf f 32).toList (w.heap.size + 1) 0 RB (by omega)
      go_wp2_with (first | refine list_load (t := 41) rfl rfl rfl (load_row aTimer sTimer R2) ?_ | refine list_store (t := 41) rfl rfl rfl rfl (store_row f sTimer (fun k _ => fo k) R1) ?_)
      exact ret_row (c := 2) aTimer sTimer rfl rfl rfl R1' ⟨rfl, RB'⟩

set_option maxRecDepth 100000 in
set_option maxHeartbeats 2000000 in
theorem to_counters (D L : Nat → Bool) (C : Nat → Nat) (w : World) :
    Calls Tryd.prog 19 #[.agg (rowOf (fCounter D L C) 48)] w fun e w' => e = .returned (.agg (rowOf (fCounter D L C) 48)) ∧ Below w.heap.size w w' := by
  obtain ⟨f, hf⟩ : ∃ f, f = fCounter D L C := ⟨_, rfl⟩
  have f0 : ∀ k : Nat, f (k * 3) = .bool (D k) := fun k => by rw [hf]; exact fCounter_0 D L C k
  have f1 : ∀ k : Nat, f (k * 3 + 1) = .bool (L k) := fun k => by rw [hf]; exact fCounter_1 D L C k
  have f2 : ∀ k : Nat, f (k * 3 + 2) = .int .u16 (C k) := fun k => by rw [hf]; exact fCounter_2 D L C k
  have fo : ∀ k, (f k).oneCell' = true := fun k => by rw [hf]; exact fCounter_one D L C k
  rw [← hf]
  clear hf
  obtain ⟨R0, R1, R2, RB⟩ := three_rows f zCounter 48 w 30 43 43
  go_enter Tryd.func19, Tryd.ntmps19
  go_wp2_with fail
  go_loopw [4] (fun i wr => ∃ k : Nat, k ≤ 16 ∧ i = .int .i64 k ∧ RowAt w.heap.size 0 48 f wr ∧ RowAt (w.heap.size + 1) 0 48 zCounter wr ∧ RowAt (w.heap.size + 1 + 1) 0 48 (fun j => if j < k * 3 then f j else zCounter j) wr ∧ Below w.heap.size w wr) (fun i _ => 16 - (intOf i).toNat)
  case atStart => exact ⟨0, by omega, rfl, R0, R1, R2, RB⟩
  case round =>
    clear R0 R1 R2 RB
    obtain ⟨k, hk, rfl, R0, R1, R2, RB⟩ := hrel
    by_cases hlt : k < 16
    · have c0 := R0.c0 (k := k * 3) (by omega)
      rw [f0] at c0
      have c1 := R0.c0 (k := k * 3 + 1) (by omega)
      rw [f1] at c1
      have c2 := R0.c0 (k := k * 3 + 2) (by omega)
      rw [f2] at c2
      go_wp2_with fail
      refine (to_counter (D k) (L k) (C k) wr).mono ?_
      rintro e w1 ⟨rfl, hB⟩
      clear c0 c1 c2
      have R0 := R0.below hB R0.z
      have R1 := R1.below hB R1.z
      have R2 := R2.below hB R2.z
      have RB := RB.trans (hB.mono RB.size)
      clear hB
      have c0 := R2.c0 (k := k * 3) (by omega)
      have e0 := R2.f0 (k := k * 3) (by omega)
      have c1 := R2.c0 (k := k * 3 + 1) (by omega)
      have e1 := R2.f0 (k := k * 3 + 1) (by omega)
      have c2 := R2.c0 (k := k * 3 + 2) (by omega)
      have e2 := R2.f0 (k := k * 3 + 2) (by omega)
      go_wp2_with fail
      go_roundw
      case rel => exact ⟨k + 1, by omega, by go_num, (((R0.at_other (by omega)).at_other (by omega)).at_other (by omega)), (((R1.at_other (by omega)).at_other (by omega)).at_other (by omega)), (((R2.more (m := k * 3 + 1) (by omega) (by omega) (f0 k)).more (m := k * 3 + 1 + 1) (by omega) (by omega) (f1 k)).more (m := (k + 1) * 3) (by omega) (by omega) (f2 k)), (((RB.setCell (by simp; omega) _).setCell (by simp; omega) _).setCell (by simp; omega) _)⟩
      case measure => simp [intOf]; omega
    · have e : k = 16 := by omega
      subst e
      have R2 : RowAt (w.heap.size + 1 + 1) 0 48 f wr := R2.congr (fun j hj => by rw [if_pos (by omega)])
      have R1' := R1.stored f
      have RB' := setCells_below (rowOf f 48).toList (w.heap.size + 1) 0 RB (by omega)
      go_wp2_with (first | refine list_load (t := 43) rfl rfl rfl (load_row aCounter sCounter R2) ?_ | refine list_store (t := 43) rfl rfl rfl rfl (store_row f sCounter (fun k _ => fo k) R1) ?_)
      exact ret_row (c := 2) aCounter sCounter rfl rfl rfl R1' ⟨rfl, RB'⟩

set_option maxRecDepth 100000 in
set_option maxHeartbeats 2000000 in
theorem to_ints (D : Nat → Int) (w : World) :
    Calls Tryd.prog 20 #[.agg (rowOf (fInt D) 32)] w fun e w' => e = .returned (.agg (rowOf (fInt D) 32)) ∧ Below w.heap.size w w' := by
  obtain ⟨f, hf⟩ : ∃ f, f = fInt D := ⟨_, rfl⟩
  have f0 : ∀ k : Nat, f (k) = .int .i16 (D k) := fun k => by rw [hf]; rfl
  have fo : ∀ k, (f k).oneCell' = true := fun k => by rw [hf]; rfl
  rw [← hf]
  clear hf
  obtain ⟨R0, R1, R2, RB⟩ := three_rows f zInt 32 w 32 32 32
  go_enter Tryd.func20, Tryd.ntmps20
  go_wp2_with fail
  go_loopw [4] (fun i wr => ∃ k : Nat, k ≤ 32 ∧ i = .int .i64 k ∧ RowAt w.heap.size 0 32 f wr ∧ RowAt (w.heap.size + 1) 0 32 zInt wr ∧ RowAt (w.heap.size + 1 + 1) 0 32 (fun j => if j < k then f j else zInt j) wr ∧ Below w.heap.size w wr) (fun i _ => 32 - (intOf i).toNat)
  case atStart => exact ⟨0, by omega, rfl, R0, R1, R2, RB⟩
  case round =>
    clear R0 R1 R2 RB
    obtain ⟨k, hk, rfl, R0, R1, R2, RB⟩ := hrel
    by_cases hlt : k < 32
    · have c0 := R0.c0 (k := k) (by omega)
      rw [f0] at c0
      have d0 := R2.c0 (k := k) (by omega)
      have e0 := R2.f0 (k := k) (by omega)
      go_wp2_with fail
      go_roundw
      case rel => exact ⟨k + 1, by omega, by go_num, (R0.at_other (by omega)), (R1.at_other (by omega)), (R2.more (m := k + 1) (by omega) (by omega) (f0 k)), (RB.setCell (by simp; omega) _)⟩
      case measure => simp [intOf]; omega
    · have e : k = 32 := by omega
      subst e
      have R2 : RowAt (w.heap.size + 1 + 1) 0 32 f wr := R2.congr (fun j hj => by rw [if_pos (by omega)])
      have R1' := R1.stored f
      have RB' := setCells_below (rowOf f 32).toList (w.heap.size + 1) 0 RB (by omega)
      go_wp2_with (first | refine list_load (t := 32) rfl rfl rfl (load_row aInt sInt R2) ?_ | refine list_store (t := 32) rfl rfl rfl rfl (store_row f sInt (fun k _ => fo k) R1) ?_)
      exact ret_row (c := 2) aInt sInt rfl rfl rfl R1' ⟨rfl, RB'⟩

set_option maxRecDepth 100000 in
set_option maxHeartbeats 2000000 in
theorem to_reals (R : Nat → Nat) (w : World) :
    Calls Tryd.prog 21 #[.agg (rowOf (fReal R) 16)] w fun e w' => e = .returned (.agg (rowOf (fReal R) 16)) ∧ Below w.heap.size w w' := by
  obtain ⟨f, hf⟩ : ∃ f, f = fReal R := ⟨_, rfl⟩
  have f0 : ∀ k : Nat, f (k) = .float .f64 (R k) := fun k => by rw [hf]; rfl
  have fo : ∀ k, (f k).oneCell' = true := fun k => by rw [hf]; rfl
  rw [← hf]
  clear hf
  obtain ⟨R0, R1, R2, RB⟩ := three_rows f zReal 16 w 34 34 34
  go_enter Tryd.func21, Tryd.ntmps21
  go_wp2_with fail
  go_loopw [4] (fun i wr => ∃ k : Nat, k ≤ 16 ∧ i = .int .i64 k ∧ RowAt w.heap.size 0 16 f wr ∧ RowAt (w.heap.size + 1) 0 16 zReal wr ∧ RowAt (w.heap.size + 1 + 1) 0 16 (fun j => if j < k then f j else zReal j) wr ∧ Below w.heap.size w wr) (fun i _ => 16 - (intOf i).toNat)
  case atStart => exact ⟨0, by omega, rfl, R0, R1, R2, RB⟩
  case round =>
    clear R0 R1 R2 RB
    obtain ⟨k, hk, rfl, R0, R1, R2, RB⟩ := hrel
    by_cases hlt : k < 16
    · have c0 := R0.c0 (k := k) (by omega)
      rw [f0] at c0
      have d0 := R2.c0 (k := k) (by omega)
      have e0 := R2.f0 (k := k) (by omega)
      have s0 := store_float (z := R k) d0 e0
      go_wp2_with fail
      go_roundw
      case rel => exact ⟨k + 1, by omega, by go_num, (R0.at_other (by omega)), (R1.at_other (by omega)), (R2.more (m := k + 1) (by omega) (by omega) (f0 k)), (RB.setCell (by simp; omega) _)⟩
      case measure => simp [intOf]; omega
    · have e : k = 16 := by omega
      subst e
      have R2 : RowAt (w.heap.size + 1 + 1) 0 16 f wr := R2.congr (fun j hj => by rw [if_pos (by omega)])
      have R1' := R1.stored f
      have RB' := setCells_below (rowOf f 16).toList (w.heap.size + 1) 0 RB (by omega)
      go_wp2_with (first | refine list_load (t := 34) rfl rfl rfl (load_row aReal sReal R2) ?_ | refine list_store (t := 34) rfl rfl rfl rfl (store_row f sReal (fun k _ => fo k) R1) ?_)
      exact ret_row (c := 2) aReal sReal rfl rfl rfl R1' ⟨rfl, RB'⟩

end Go.Proofs.YtdhoimjkgicneacDoor
