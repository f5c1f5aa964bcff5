/- Texts of this proof laid together: CellK, MemR. -/
import Derived.Test.YtdhoimjkgicneacDoorRows
import Derived.WideShapes
import Derived.WalkKit
import Derived.Test.YtdhoimjkgicneacDoorLot13
/- A cell of an argument: a number, a truth value, a number of chapter 2. -/
namespace Go.Proofs.YtdhoimjkgicneacDoor
open Go Go.RowKit

section
variable {P : Program} {W : World} {r : Reach} {base : Nat} {t : TypeId} {v : Value}
theorem cell_int {k : IntKind} (ht : P.underlying t = some (.int k)) (h : Cell.okWide P W r base t v) : ∃ n, v = .int k n ∧ k.has n := by
  unfold Cell.okWide at h
  rw [ht] at h
  simp only [Cell.ok, ht] at h
  split at h <;> simp_all
theorem cell_bool (ht : P.underlying t = some .bool) (h : Cell.okWide P W r base t v) : ∃ b, v = .bool b := by
  unfold Cell.okWide at h
  rw [ht] at h
  simp only [Cell.ok, ht] at h
  split at h <;> simp_all
theorem cell_float {k : FloatKind} (ht : P.underlying t = some (.float k)) (h : Cell.okWide P W r base t v) : ∃ n, v = .float k n ∧ k.has n := by
  unfold Cell.okWide at h
  rw [ht] at h
  simp only [Cell.ok, ht] at h
  split at h <;> simp_all
end

end Go.Proofs.YtdhoimjkgicneacDoor

/- An argument of the laws' kind of memory: a memory, field by field. -/
namespace Go.Proofs.YtdhoimjkgicneacDoor
open Go Go.RowKit

/-- The type of each cell of a memory. -/
def kindT (k : Nat) : TypeId :=
  if k = 0 then 22 else if k = 1 then 22 else if k = 2 then 23 else if k = 3 then 24 else if k = 4 then 22
  else if k < 37 then (if (k - 5) % 2 = 0 then 4 else 24)
  else if k < 85 then (if (k - 37) % 3 = 0 then 4 else if (k - 37) % 3 = 1 then 4 else 24)
  else if k < 117 then 31 else if k < 133 then 33 else if k = 133 then 22 else 4

set_option maxRecDepth 100000 in
theorem memTypes : Tryd.prog.cellTypes Tryd.prog.depth 36 = some ((List.range 136).map kindT) := by kernel_rfl

def natAt (cs : Array Value) (i : Nat) : Nat := (intOf (cs.getD i undef)).toNat
def boolAt (cs : Array Value) (i : Nat) : Bool := match cs.getD i undef with | .bool b => b | _ => false
def wordAt (cs : Array Value) (i : Nat) : Nat := match cs.getD i undef with | .float _ b => b | _ => 0

/-- A row as a memory. -/
def memOf (cs : Array Value) : MemV :=
  ⟨natAt cs 0, natAt cs 1, natAt cs 2, natAt cs 3, natAt cs 4, fun i => boolAt cs (5 + i * 2), fun i => if i < 16 then natAt cs (5 + i * 2 + 1) else 0,
    fun i => boolAt cs (37 + i * 3), fun i => boolAt cs (37 + i * 3 + 1), fun i => if i < 16 then natAt cs (37 + i * 3 + 2) else 0,
    fun i => if i < 32 then intOf (cs.getD (85 + i) undef) else 0, fun i => if i < 16 then wordAt cs (117 + i) else 0, natAt cs 133, boolAt cs 134, boolAt cs 135⟩

section
variable {cs : Array Value} {W : World} {r : Reach} {base : Nat}
set_option maxRecDepth 100000 in
theorem got_u32 {i : Nat} (e : kindT i = 22) (hi : i < 136) (h : ∀ i, i < 136 → Cell.okWide Tryd.prog W r base (kindT i) (cs.getD i undef)) : cs.getD i undef = .int .u32 (natAt cs i) ∧ natAt cs i < 4294967296 := by
  have := h i hi
  rw [e] at this
  obtain ⟨n, hn, h1, h2⟩ := cell_int Tryd.underlying22 this
  have h1 : 0 ≤ n := h1
  have h2 : n ≤ 4294967295 := h2
  unfold natAt
  rw [hn]
  simp only [intOf]
  refine ⟨?_, by omega⟩
  rw [show ((n.toNat : Nat) : Int) = n by omega]
set_option maxRecDepth 100000 in
theorem got_u64 {i : Nat} (e : kindT i = 23) (hi : i < 136) (h : ∀ i, i < 136 → Cell.okWide Tryd.prog W r base (kindT i) (cs.getD i undef)) : cs.getD i undef = .int .u64 (natAt cs i) ∧ natAt cs i < 18446744073709551616 := by
  have := h i hi
  rw [e] at this
  obtain ⟨n, hn, h1, h2⟩ := cell_int Tryd.underlying23 this
  have h1 : 0 ≤ n := h1
  have h2 : n ≤ 18446744073709551615 := h2
  unfold natAt
  rw [hn]
  simp only [intOf]
  refine ⟨?_, by omega⟩
  rw [show ((n.toNat : Nat) : Int) = n by omega]
set_option maxRecDepth 100000 in
theorem got_u16 {i : Nat} (e : kindT i = 24) (hi : i < 136) (h : ∀ i, i < 136 → Cell.okWide Tryd.prog W r base (kindT i) (cs.getD i undef)) : cs.getD i undef = .int .u16 (natAt cs i) ∧ natAt cs i < 65536 := by
  have := h i hi
  rw [e] at this
  obtain ⟨n, hn, h1, h2⟩ := cell_int Tryd.underlying24 this
  have h1 : 0 ≤ n := h1
  have h2 : n ≤ 65535 := h2
  unfold natAt
  rw [hn]
  simp only [intOf]
  refine ⟨?_, by omega⟩
  rw [show ((n.toNat : Nat) : Int) = n by omega]
set_option maxRecDepth 100000 in
theorem got_i16 {i : Nat} (e : kindT i = 31) (hi : i < 136) (h : ∀ i, i < 136 → Cell.okWide Tryd.prog W r base (kindT i) (cs.getD i undef)) : cs.getD i undef = .int .i16 (intOf (cs.getD i undef)) ∧ -32768 ≤ intOf (cs.getD i undef) ∧ intOf (cs.getD i undef) ≤ 32767 := by
  have := h i hi
  rw [e] at this
  obtain ⟨n, hn, h1, h2⟩ := cell_int Tryd.underlying31 this
  rw [hn]
  exact ⟨rfl, h1, h2⟩
set_option maxRecDepth 100000 in
theorem got_bool {i : Nat} (e : kindT i = 4) (hi : i < 136) (h : ∀ i, i < 136 → Cell.okWide Tryd.prog W r base (kindT i) (cs.getD i undef)) : cs.getD i undef = .bool (boolAt cs i) := by
  have := h i hi
  rw [e] at this
  obtain ⟨n, hn⟩ := cell_bool Tryd.underlying4 this
  unfold boolAt
  rw [hn]
set_option maxRecDepth 100000 in
theorem got_f64 {i : Nat} (e : kindT i = 33) (hi : i < 136) (h : ∀ i, i < 136 → Cell.okWide Tryd.prog W r base (kindT i) (cs.getD i undef)) : cs.getD i undef = .float .f64 (wordAt cs i) ∧ wordAt cs i < 2 ^ 64 := by
  have := h i hi
  rw [e] at this
  obtain ⟨n, hn, h1⟩ := cell_float Tryd.underlying33 this
  unfold wordAt
  rw [hn]
  exact ⟨rfl, h1⟩

theorem kind_tC {i : Nat} (hi : i < 16) : kindT (5 + i * 2 + 1) = 24 := by
  unfold kindT
  rw [if_neg (by omega), if_neg (by omega), if_neg (by omega), if_neg (by omega), if_neg (by omega), if_pos (by omega), if_neg (by omega)]
theorem kind_cC {i : Nat} (hi : i < 16) : kindT (37 + i * 3 + 2) = 24 := by
  unfold kindT
  rw [if_neg (by omega), if_neg (by omega), if_neg (by omega), if_neg (by omega), if_neg (by omega), if_neg (by omega), if_pos (by omega), if_neg (by omega), if_neg (by omega)]
theorem kind_d {i : Nat} (hi : i < 32) : kindT (85 + i) = 31 := by
  unfold kindT
  rw [if_neg (by omega), if_neg (by omega), if_neg (by omega), if_neg (by omega), if_neg (by omega), if_neg (by omega), if_neg (by omega), if_pos (by omega)]
theorem kind_r {i : Nat} (hi : i < 16) : kindT (117 + i) = 33 := by
  unfold kindT
  rw [if_neg (by omega), if_neg (by omega), if_neg (by omega), if_neg (by omega), if_neg (by omega), if_neg (by omega), if_neg (by omega), if_neg (by omega), if_pos (by omega)]

set_option maxRecDepth 100000 in
theorem memOf_ok (h : ∀ i, i < 136 → Cell.okWide Tryd.prog W r base (kindT i) (cs.getD i undef)) : (memOf cs).Ok := by
  refine ⟨(got_u32 rfl (by omega) h).2, (got_u32 rfl (by omega) h).2, (got_u64 rfl (by omega) h).2, (got_u16 rfl (by omega) h).2, (got_u32 rfl (by omega) h).2, fun i => ?_, fun i => ?_, fun i => ?_, fun i => ?_, fun i => ?_, (got_u32 rfl (by omega) h).2⟩
  · simp only [memOf]
    split
    · exact (got_u16 (kind_tC ‹_›) (by omega) h).2
    · omega
  · simp only [memOf]
    split
    · exact (got_u16 (kind_cC ‹_›) (by omega) h).2
    · omega
  · simp only [memOf]
    split
    · exact (got_i16 (kind_d ‹_›) (by omega) h).2.1
    · omega
  · simp only [memOf]
    split
    · exact (got_i16 (kind_d ‹_›) (by omega) h).2.2
    · omega
  · simp only [memOf]
    split
    · exact (got_f64 (kind_r ‹_›) (by omega) h).2
    · exact Nat.two_pow_pos 64

set_option maxRecDepth 100000 in
theorem memOf_cell (h : ∀ i, i < 136 → Cell.okWide Tryd.prog W r base (kindT i) (cs.getD i undef)) {k : Nat} (hk : k < 136) : cs.getD k undef = (memOf cs).cell k := by
  unfold MemV.cell
  split
  · subst k; exact (got_u32 rfl (by omega) h).1
  split
  · subst k; exact (got_u32 rfl (by omega) h).1
  split
  · subst k; exact (got_u64 rfl (by omega) h).1
  split
  · subst k; exact (got_u16 rfl (by omega) h).1
  split
  · subst k; exact (got_u32 rfl (by omega) h).1
  split
  · have e : kindT k = if (k - 5) % 2 = 0 then 4 else 24 := by
      unfold kindT
      rw [if_neg (by omega), if_neg (by omega), if_neg (by omega), if_neg (by omega), if_neg (by omega), if_pos (by omega)]
    split
    · rw [if_pos (by assumption)] at e
      simp only [memOf]
      rw [show 5 + (k - 5) / 2 * 2 = k by omega]
      exact got_bool e (by omega) h
    · rw [if_neg (by assumption)] at e
      simp only [memOf]
      rw [if_pos (by omega), show 5 + (k - 5) / 2 * 2 + 1 = k by omega]
      exact (got_u16 e (by omega) h).1
  split
  · have e : kindT k = if (k - 37) % 3 = 0 then 4 else if (k - 37) % 3 = 1 then 4 else 24 := by
      unfold kindT
      rw [if_neg (by omega), if_neg (by omega), if_neg (by omega), if_neg (by omega), if_neg (by omega), if_neg (by omega), if_pos (by omega)]
    split
    · rw [if_pos (by assumption)] at e
      simp only [memOf]
      rw [show 37 + (k - 37) / 3 * 3 = k by omega]
      exact got_bool e (by omega) h
    rw [if_neg (by assumption)] at e
    split
    · rw [if_pos (by assumption)] at e
      simp only [memOf]
      rw [show 37 + (k - 37) / 3 * 3 + 1 = k by omega]
      exact got_bool e (by omega) h
    · rw [if_neg (by assumption)] at e
      simp only [memOf]
      rw [if_pos (by omega), show 37 + (k - 37) / 3 * 3 + 2 = k by omega]
      exact (got_u16 e (by omega) h).1
  split
  · simp only [memOf]
    rw [if_pos (by omega), show 85 + (k - 85) = k by omega]
    have e : kindT k = 31 := by
      have := kind_d (i := k - 85) (by omega)
      rwa [show 85 + (k - 85) = k by omega] at this
    exact (got_i16 e (by omega) h).1
  split
  · simp only [memOf]
    rw [if_pos (by omega), show 117 + (k - 117) = k by omega]
    have e : kindT k = 33 := by
      have := kind_r (i := k - 117) (by omega)
      rwa [show 117 + (k - 117) = k by omega] at this
    exact (got_f64 e (by omega) h).1
  split
  · subst k; exact (got_u32 rfl (by omega) h).1
  split
  · subst k; exact got_bool rfl (by omega) h
  · have : k = 135 := by omega
    subst k; exact got_bool rfl (by omega) h
end

set_option maxRecDepth 100000 in
/-- An argument of the laws' kind of memory. -/
theorem open_mem {W : World} {r : Reach} {base : Nat} {v : Value} (h : Value.okWide Tryd.prog W r base 36 v) : ∃ m : MemV, m.Ok ∧ v = .agg m.row := by
  have h' : ∃ cs, v = .agg cs ∧ cs.size = Tryd.prog.cellsOf 36 ∧ Row.okWide Tryd.prog W r base 36 cs := by
    unfold Value.okWide at h
    rw [Tryd.underlying36] at h
    exact h
  obtain ⟨cs, rfl, hsz, ts, ht, -, hc⟩ := h'
  have hsz : cs.size = 136 := hsz.trans (by kernel_rfl)
  obtain rfl : (List.range 136).map kindT = ts := Option.some.inj (memTypes.symm.trans ht)
  have hk : ∀ i, i < 136 → Cell.okWide Tryd.prog W r base (kindT i) (cs.getD i undef) := by
    intro i hi
    obtain ⟨u, hu, hok⟩ := hc i (cs.getD i undef) (by simp [Array.getD, hsz, hi])
    have e : u = kindT i := by
      rw [show ((List.range 136).map kindT).length = 136 by simp, Nat.mod_eq_of_lt hi] at hu
      simpa [hi] using hu.symm
    rwa [e] at hok
  refine ⟨memOf cs, memOf_ok hk, ?_⟩
  congr 1
  apply Array.ext
  · rw [hsz, MemV.row_size]
  · intro i h1 h2
    have := memOf_cell hk (k := i) (by omega)
    simp only [MemV.row, List.getElem_toArray, List.getElem_map, List.getElem_range]
    rw [← this]
    simp [Array.getD, h1]

end Go.Proofs.YtdhoimjkgicneacDoor
