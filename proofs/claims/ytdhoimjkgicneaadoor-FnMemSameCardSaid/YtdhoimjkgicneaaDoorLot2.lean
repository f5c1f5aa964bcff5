/- Texts of this proof laid together: MemZ, MemQ, DrawA. -/
import Derived.Test.YtdhoimjkgicneaaDoorLot1
import Derived.Test.YtdhoimjkgicneaaDoorRows
import Derived.WalkKit
import Derived.WalkSpells
import Derived.WalkLawsBesides
import Derived.Deep.QuietTactic
import Derived.BigQuiet
/- A cell of a memory put; a memory of nothing as the program names it. -/
namespace Go.Proofs.YtdhoimjkgicneaaDoor
open Go Go.RowKit

theorem MemAt.put {b k : Nat} {v v' : MemV} {u : Value} {w : World} (h : MemAt b v w) (hk : k < 136) (hu : v'.cell k = u) (ho : ∀ i, i < 136 → i ≠ k → v'.cell i = v.cell i) :
    MemAt b v' (w.setCell ⟨b, k, none⟩ u) := by
  refine ⟨by simpa [World.setCell] using h.z, fun i hi => ?_, fun i hi => by rw [World.frozen?_setCell]; exact h.f i hi⟩
  by_cases e : i = k
  · subst e
    rw [World.cell?_setCell_same _ _ _ (h.c i hi), hu]
  · rw [World.cell?_setCell_other _ _ _ _ (by intro hh; cases hh; exact e rfl), h.c i hi, ho i hi e]

theorem zero_row : Tryd.zeroCells61 = mem0.row := by kernel_rfl

end Go.Proofs.YtdhoimjkgicneaaDoor

/- A memory with one cell written, whichever it is. Of no one program. -/
namespace Go.Proofs.YtdhoimjkgicneaaDoor
open Go Go.RowKit

def natU (u : Value) : Nat := match u with | .int _ n => n.toNat | _ => 0
def intU (u : Value) : Int := match u with | .int _ n => n | _ => 0
def boolU (u : Value) : Bool := match u with | .bool b => b | _ => false
def wordU (u : Value) : Nat := match u with | .float _ n => n | _ => 0

/-- The memory with cell k written. -/
def MemV.upd (v : MemV) (k : Nat) (u : Value) : MemV :=
  ⟨if k = 0 then natU u else v.x, if k = 1 then natU u else v.y, if k = 2 then natU u else v.m, if k = 3 then natU u else v.s, if k = 4 then natU u else v.e,
    fun i => if k = 5 + i * 2 ∧ i < 16 then boolU u else v.tD i, fun i => if k = 5 + i * 2 + 1 ∧ i < 16 then natU u else v.tC i,
    fun i => if k = 37 + i * 3 ∧ i < 16 then boolU u else v.cD i, fun i => if k = 37 + i * 3 + 1 ∧ i < 16 then boolU u else v.cL i, fun i => if k = 37 + i * 3 + 2 ∧ i < 16 then natU u else v.cC i,
    fun i => if k = 85 + i ∧ i < 32 then intU u else v.d i, fun i => if k = 117 + i ∧ i < 16 then wordU u else v.r i, if k = 133 then natU u else v.time, if k = 134 then boolU u else v.ran, if k = 135 then boolU u else v.fault⟩

/-- What fits cell k. -/
def fitC (k : Nat) (u : Value) : Prop :=
  if k = 0 ∨ k = 1 ∨ k = 4 ∨ k = 133 then ∃ n : Nat, n < 4294967296 ∧ u = .int .u32 n
  else if k = 2 then ∃ n : Nat, n < 18446744073709551616 ∧ u = .int .u64 n
  else if k = 3 then ∃ n : Nat, n < 65536 ∧ u = .int .u16 n
  else if k < 37 then (if (k - 5) % 2 = 0 then ∃ b, u = .bool b else ∃ n : Nat, n < 65536 ∧ u = .int .u16 n)
  else if k < 85 then (if (k - 37) % 3 = 2 then ∃ n : Nat, n < 65536 ∧ u = .int .u16 n else ∃ b, u = .bool b)
  else if k < 117 then ∃ z : Int, -32768 ≤ z ∧ z ≤ 32767 ∧ u = .int .i16 z
  else if k < 133 then ∃ n : Nat, n < 2 ^ 64 ∧ u = .float .f64 n
  else ∃ b, u = .bool b

theorem fit_nat {k : Nat} {u : Value} (h : fitC k u) (hk : k < 136) : (k = 0 ∨ k = 1 ∨ k = 4 ∨ k = 133 → natU u < 4294967296) ∧ (k = 2 → natU u < 18446744073709551616) ∧ (k = 3 → natU u < 65536) ∧
    (∀ i, i < 16 → k = 5 + i * 2 + 1 ∨ k = 37 + i * 3 + 2 → natU u < 65536) ∧ (∀ i, i < 32 → k = 85 + i → -32768 ≤ intU u ∧ intU u ≤ 32767) ∧ (∀ i, i < 16 → k = 117 + i → wordU u < 2 ^ 64) := by
  unfold fitC at h
  have key : ∀ n : Nat, ((n : Int).toNat) = n := by intro n; omega
  refine ⟨fun e => ?_, fun e => ?_, fun e => ?_, fun i hi e => ?_, fun i hi e => ?_, fun i hi e => ?_⟩
  · rw [if_pos e] at h
    obtain ⟨n, hn, rfl⟩ := h
    simpa [natU] using hn
  · rw [if_neg (by omega), if_pos e] at h
    obtain ⟨n, hn, rfl⟩ := h
    simpa [natU] using hn
  · rw [if_neg (by omega), if_neg (by omega), if_pos e] at h
    obtain ⟨n, hn, rfl⟩ := h
    simpa [natU] using hn
  · rw [if_neg (by omega), if_neg (by omega), if_neg (by omega)] at h
    by_cases h37 : k < 37
    · rw [if_pos h37, if_neg (by omega)] at h
      obtain ⟨n, hn, rfl⟩ := h
      simpa [natU] using hn
    · rw [if_neg h37, if_pos (by omega), if_pos (by omega)] at h
      obtain ⟨n, hn, rfl⟩ := h
      simpa [natU] using hn
  · rw [if_neg (by omega), if_neg (by omega), if_neg (by omega), if_neg (by omega), if_neg (by omega), if_pos (by omega)] at h
    obtain ⟨z, h1, h2, rfl⟩ := h
    exact ⟨h1, h2⟩
  · rw [if_neg (by omega), if_neg (by omega), if_neg (by omega), if_neg (by omega), if_neg (by omega), if_neg (by omega), if_pos (by omega)] at h
    obtain ⟨n, hn, rfl⟩ := h
    exact hn

theorem upd_ok {v : MemV} {k : Nat} {u : Value} (hv : v.Ok) (hk : k < 136) (h : fitC k u) : (v.upd k u).Ok := by
  obtain ⟨f1, f2, f3, f4, f5, f6⟩ := fit_nat h hk
  refine ⟨?_, ?_, ?_, ?_, ?_, fun i => ?_, fun i => ?_, fun i => ?_, fun i => ?_, fun i => ?_, ?_⟩
  · simp only [MemV.upd]; split
    · exact f1 (by omega)
    · exact hv.x
  · simp only [MemV.upd]; split
    · exact f1 (by omega)
    · exact hv.y
  · simp only [MemV.upd]; split
    · exact f2 (by omega)
    · exact hv.m
  · simp only [MemV.upd]; split
    · exact f3 (by omega)
    · exact hv.s
  · simp only [MemV.upd]; split
    · exact f1 (by omega)
    · exact hv.e
  · simp only [MemV.upd]; split
    · rename_i g; exact f4 i g.2 (Or.inl g.1)
    · exact hv.tC i
  · simp only [MemV.upd]; split
    · rename_i g; exact f4 i g.2 (Or.inr g.1)
    · exact hv.cC i
  · simp only [MemV.upd]; split
    · rename_i g; exact (f5 i g.2 g.1).1
    · exact hv.d1 i
  · simp only [MemV.upd]; split
    · rename_i g; exact (f5 i g.2 g.1).2
    · exact hv.d2 i
  · simp only [MemV.upd]; split
    · rename_i g; exact f6 i g.2 g.1
    · exact hv.r i
  · simp only [MemV.upd]; split
    · exact f1 (by omega)
    · exact hv.time

theorem upd_other (v : MemV) {k j : Nat} (u : Value) (hj : j < 136) (hn : j ≠ k) : (v.upd k u).cell j = v.cell j := by
  unfold MemV.cell
  by_cases c0 : j = 0
  · subst c0; simp only [if_true, MemV.upd, if_neg (show ¬ k = 0 by omega)]
  by_cases c1 : j = 1
  · subst c1; simp [MemV.upd, show ¬ k = 1 by omega]
  by_cases c2 : j = 2
  · subst c2; simp [MemV.upd, show ¬ k = 2 by omega]
  by_cases c3 : j = 3
  · subst c3; simp [MemV.upd, show ¬ k = 3 by omega]
  by_cases c4 : j = 4
  · subst c4; simp [MemV.upd, show ¬ k = 4 by omega]
  rw [if_neg c0, if_neg c1, if_neg c2, if_neg c3, if_neg c4, if_neg c0, if_neg c1, if_neg c2, if_neg c3, if_neg c4]
  by_cases c37 : j < 37
  · rw [if_pos c37, if_pos c37]
    simp only [MemV.upd]
    split
    · rw [if_neg (by omega)]
    · rw [if_neg (by omega)]
  rw [if_neg c37, if_neg c37]
  by_cases c85 : j < 85
  · rw [if_pos c85, if_pos c85]
    simp only [MemV.upd]
    split
    · rw [if_neg (by omega)]
    split
    · rw [if_neg (by omega)]
    · rw [if_neg (by omega)]
  rw [if_neg c85, if_neg c85]
  by_cases c117 : j < 117
  · rw [if_pos c117, if_pos c117]
    simp only [MemV.upd]
    rw [if_neg (by omega)]
  rw [if_neg c117, if_neg c117]
  by_cases c133 : j < 133
  · rw [if_pos c133, if_pos c133]
    simp only [MemV.upd]
    rw [if_neg (by omega)]
  rw [if_neg c133, if_neg c133]
  simp only [MemV.upd]
  by_cases e1 : j = 133
  · rw [if_pos e1, if_pos e1, if_neg (by omega)]
  rw [if_neg e1, if_neg e1]
  by_cases e2 : j = 134
  · rw [if_pos e2, if_pos e2, if_neg (by omega)]
  rw [if_neg e2, if_neg e2, if_neg (by omega)]

theorem upd_same (v : MemV) {k : Nat} {u : Value} (hk : k < 136) (h : fitC k u) : (v.upd k u).cell k = u := by
  unfold fitC at h
  unfold MemV.cell
  by_cases c0 : k = 0
  · subst c0
    simp only [true_or, if_true] at h
    obtain ⟨n, hn, rfl⟩ := h
    simp [MemV.upd, natU]
  by_cases c1 : k = 1
  · subst c1
    rw [if_pos (by omega)] at h
    obtain ⟨n, hn, rfl⟩ := h
    simp [MemV.upd, natU]
  by_cases c2 : k = 2
  · subst c2
    rw [if_neg (by omega), if_pos rfl] at h
    obtain ⟨n, hn, rfl⟩ := h
    simp [MemV.upd, natU]
  by_cases c3 : k = 3
  · subst c3
    rw [if_neg (by omega), if_neg (by omega), if_pos rfl] at h
    obtain ⟨n, hn, rfl⟩ := h
    simp [MemV.upd, natU]
  by_cases c4 : k = 4
  · subst c4
    rw [if_pos (by omega)] at h
    obtain ⟨n, hn, rfl⟩ := h
    simp [MemV.upd, natU]
  rw [if_neg c0, if_neg c1, if_neg c2, if_neg c3, if_neg c4]
  by_cases c133 : k = 133
  · subst c133
    rw [if_pos (by omega)] at h
    obtain ⟨n, hn, rfl⟩ := h
    simp [MemV.upd, natU]
  rw [if_neg (by omega), if_neg c2, if_neg c3] at h
  by_cases c37 : k < 37
  · rw [if_pos c37] at h ⊢
    split at h
    · obtain ⟨b, rfl⟩ := h
      rw [if_pos (by assumption)]
      simp only [MemV.upd]
      rw [if_pos (by omega)]
      rfl
    · obtain ⟨n, hn, rfl⟩ := h
      rw [if_neg (by assumption)]
      simp only [MemV.upd]
      rw [if_pos (by omega)]
      simp [natU]
  rw [if_neg c37] at h ⊢
  by_cases c85 : k < 85
  · rw [if_pos c85] at h ⊢
    split at h
    · obtain ⟨n, hn, rfl⟩ := h
      rw [if_neg (by omega), if_neg (by omega)]
      simp only [MemV.upd]
      rw [if_pos (by omega)]
      simp [natU]
    · obtain ⟨b, rfl⟩ := h
      split
      · simp only [MemV.upd]
        rw [if_pos (by omega)]
        rfl
      · rw [if_pos (by omega)]
        simp only [MemV.upd]
        rw [if_pos (by omega)]
        rfl
  rw [if_neg c85] at h ⊢
  by_cases c117 : k < 117
  · rw [if_pos c117] at h ⊢
    obtain ⟨z, h1, h2, rfl⟩ := h
    simp only [MemV.upd]
    rw [if_pos (by omega)]
    rfl
  rw [if_neg c117] at h ⊢
  by_cases c133' : k < 133
  · rw [if_pos c133'] at h ⊢
    obtain ⟨n, hn, rfl⟩ := h
    simp only [MemV.upd]
    rw [if_pos (by omega)]
    rfl
  rw [if_neg c133'] at h ⊢
  obtain ⟨b, rfl⟩ := h
  rw [if_neg c133]
  by_cases e2 : k = 134
  · subst e2
    simp [MemV.upd, boolU]
  · have e3 : k = 135 := by omega
    subst e3
    simp [MemV.upd, boolU]

/-- Some memory lies in block b. -/
def MemSome (b : Nat) (w : World) : Prop := ∃ v : MemV, v.Ok ∧ MemAt b v w

theorem MemSome.set {b k : Nat} {u : Value} {w : World} (h : MemSome b w) (hk : k < 136) (hu : fitC k u) : MemSome b (w.setCell ⟨b, k, none⟩ u) := by
  obtain ⟨v, hv, hA⟩ := h
  refine ⟨v.upd k u, upd_ok hv hk hu, by simpa [World.setCell] using hA.z, fun i hi => ?_, fun i hi => by rw [World.frozen?_setCell]; exact hA.f i hi⟩
  by_cases e : i = k
  · subst e
    rw [World.cell?_setCell_same _ _ _ (hA.c i hi), upd_same v hk hu]
  · rw [World.cell?_setCell_other _ _ _ _ (by intro hh; cases hh; exact e rfl), hA.c i hi, upd_other v u hi e]
theorem MemSome.below {b B : Nat} {w w' : World} (h : MemSome b w) (hb : Below B w w') (hB : b < B) : MemSome b w' := by
  obtain ⟨v, hv, hA⟩ := h
  exact ⟨v, hv, hA.below hb hB⟩
theorem MemSome.z {b : Nat} {w : World} (h : MemSome b w) : b < w.heap.size := by
  obtain ⟨v, hv, hA⟩ := h
  exact hA.z
theorem MemSome.c {b k : Nat} {w : World} (h : MemSome b w) (hk : k < 136) : ∃ u, w.cell? ⟨b, k, none⟩ = some u := by
  obtain ⟨v, hv, hA⟩ := h
  exact ⟨_, hA.c k hk⟩
theorem MemSome.f {b k : Nat} {w : World} (h : MemSome b w) (hk : k < 136) : w.frozen? ⟨b, k, none⟩ = false := by
  obtain ⟨v, hv, hA⟩ := h
  exact hA.f k hk

end Go.Proofs.YtdhoimjkgicneaaDoor

/- The reader of a drawn code: what one pick does. -/
namespace Go.Proofs.YtdhoimjkgicneaaDoor
open Go Go.RowKit

/-- Block R is a reader over len bytes in block b, at place p. -/
structure RdAt (R b off len cap p : Nat) (w : World) : Prop where
  zR : R < w.heap.size
  lt : b < R
  c0 : w.cell? ⟨R, 0, none⟩ = some (.slice (some ⟨b, off, none⟩) len cap)
  c1 : w.cell? ⟨R, 1, none⟩ = some (.int .i64 p)
  fr : w.frozen? ⟨R, 1, none⟩ = false
  el : ∀ i, i < len → ∃ x : Nat, x ≤ 255 ∧ w.cell? ⟨b, off + i, none⟩ = some (.int .u8 x)
  l1 : 1 ≤ len
  l2 : len ≤ 2000

/-- Block R is a reader over no bytes, at place p. -/
structure RdNo (R p : Nat) (w : World) : Prop where
  zR : R < w.heap.size
  c0 : ∃ (a : Option Addr) (cap : Nat), w.cell? ⟨R, 0, none⟩ = some (.slice a 0 cap)
  c1 : w.cell? ⟨R, 1, none⟩ = some (.int .i64 p)
  fr : w.frozen? ⟨R, 1, none⟩ = false

/-- Block R is a reader that has picked at most c times. -/
def Rd (R c : Nat) (w : World) : Prop := (∃ b off len cap p, p ≤ c ∧ RdAt R b off len cap p w) ∨ (∃ p, p ≤ c ∧ RdNo R p w)

/-- Nothing that was there has turned, but block R. -/
structure Moved (R : Nat) (w w' : World) : Prop where
  os : w'.os = w.os
  tape : w'.tape = w.tape
  output : w'.output = w.output
  size : w.heap.size ≤ w'.heap.size
  block : ∀ i, i < w.heap.size → i ≠ R → w'.heap[i]? = w.heap[i]?

theorem Moved.refl (R : Nat) (w : World) : Moved R w w := ⟨rfl, rfl, rfl, Nat.le_refl _, fun _ _ _ => rfl⟩
theorem Moved.trans {R : Nat} {a b c : World} (h : Moved R a b) (k : Moved R b c) : Moved R a c :=
  ⟨k.os.trans h.os, k.tape.trans h.tape, k.output.trans h.output, Nat.le_trans h.size k.size, fun i hi hn => (k.block i (Nat.lt_of_lt_of_le hi h.size) hn).trans (h.block i hi hn)⟩
theorem Moved.of_below {R : Nat} {w w' : World} {B : Nat} (h : Below B w w') (hB : w.heap.size ≤ B) : Moved R w w' :=
  ⟨h.os, h.tape, h.output, h.size, fun i hi _ => h.block i (Nat.lt_of_lt_of_le hi hB)⟩
theorem Moved.cell {R : Nat} {w w' : World} (h : Moved R w w') {p : Addr} (hp : p.block < w.heap.size) (hn : p.block ≠ R) : w'.cell? p = w.cell? p := World.cell?_of_block (w := w) (h.block p.block hp hn)
theorem Moved.frozen {R : Nat} {w w' : World} (h : Moved R w w') {p : Addr} (hp : p.block < w.heap.size) (hn : p.block ≠ R) : w'.frozen? p = w.frozen? p := World.frozen?_of_block (w := w) (h.block p.block hp hn)
theorem Moved.below {R : Nat} {w w' : World} (h : Moved R w w') {B : Nat} (h1 : B ≤ w.heap.size) (h2 : B ≤ R) : Below B w w' :=
  ⟨h.os, h.tape, h.output, h.size, fun i hi => h.block i (by omega) (by omega)⟩

set_option maxHeartbeats 400000 in
/-- A pick where the place is within the bytes. -/
theorem pick_in (R b off len cap p : Nat) (n : Int) (w : World) (h : RdAt R b off len cap p w) (hp : p < len) (hn : 1 ≤ n) (hn2 : n ≤ 1000000) :
    Calls Tryd.prog 67 #[.pointer (some ⟨R, 0, none⟩), .int .i64 n] w fun e w' => ∃ x : Int, e = .returned (.int .i64 x) ∧ 0 ≤ x ∧ x < n ∧ w' = w.setCell ⟨R, 1, none⟩ (.int .i64 ((p : Int) + 1)) := by
  have c0 := h.c0
  have c1 := h.c1
  have fr := h.fr
  have l2 := h.l2
  have ne : b ≠ R := Nat.ne_of_lt h.lt
  obtain ⟨x, hx, ex⟩ := h.el p hp
  have hl0 : ((len : Int) == 0) = false := by simp; omega
  have hx0 := Int.emod_nonneg (x : Int) (b := n) (by omega)
  have hx1 := Int.emod_lt_of_pos (x : Int) (b := n) (by omega)
  have X0 : Hid (0 ≤ (x : Int) % n) := hx0
  have X1 : Hid ((x : Int) % n < n) := hx1
  clear h hx0 hx1
  go_enter Tryd.func67, Tryd.ntmps67
  go_wp2
  go_ret
  exact ⟨_, rfl, X0.out, X1.out, rfl⟩

set_option maxHeartbeats 400000 in
/-- A pick out of no choice, or out of no bytes. -/
theorem pick_none (R p : Nat) (n : Int) (w : World) (c1 : w.cell? ⟨R, 1, none⟩ = some (.int .i64 p)) (hp : p ≤ 1000000) (fr : w.frozen? ⟨R, 1, none⟩ = false) (hn : n < 1)
    (a : Option Addr) (len cap : Nat) (_c0 : w.cell? ⟨R, 0, none⟩ = some (.slice a len cap)) :
    Calls Tryd.prog 67 #[.pointer (some ⟨R, 0, none⟩), .int .i64 n] w fun e w' => e = .returned (.int .i64 0) ∧ w' = w.setCell ⟨R, 1, none⟩ (.int .i64 ((p : Int) + 1)) := by
  go_enter Tryd.func67, Tryd.ntmps67
  go_wp2
  go_ret
  exact ⟨rfl, rfl⟩

set_option maxHeartbeats 400000 in
theorem pick_empty (R p : Nat) (n : Int) (w : World) (c1 : w.cell? ⟨R, 1, none⟩ = some (.int .i64 p)) (hp : p ≤ 1000000) (fr : w.frozen? ⟨R, 1, none⟩ = false) (hn : 1 ≤ n)
    (a : Option Addr) (cap : Nat) (c0 : w.cell? ⟨R, 0, none⟩ = some (.slice a 0 cap)) :
    Calls Tryd.prog 67 #[.pointer (some ⟨R, 0, none⟩), .int .i64 n] w fun e w' => e = .returned (.int .i64 0) ∧ w' = w.setCell ⟨R, 1, none⟩ (.int .i64 ((p : Int) + 1)) := by
  go_enter Tryd.func67, Tryd.ntmps67
  go_wp2
  go_ret
  exact ⟨rfl, rfl⟩

theorem i64_xor_nat (a b : Nat) (ha : a < 4611686018427387904) (hb : b < 4611686018427387904) : bits .xor .i64 (a : Int) (b : Int) = ((a ^^^ b : Nat) : Int) := by
  have hx : a ^^^ b < 2 ^ 62 := Nat.xor_lt_two_pow (by omega) (by omega)
  show IntKind.i64.wrap ((BitVec.ofInt 64 (a : Int) ^^^ BitVec.ofInt 64 (b : Int)).toNat : Int) = _
  rw [BitVec.toNat_xor, ofInt_u64 a (by omega), ofInt_u64 b (by omega), IntKind.wrap_i64]
  omega

theorem xor_mod (X n : Int) (h0 : 0 ≤ X) (h1 : X ≤ 1000000000) (hn : 1 ≤ n) : 0 ≤ (bits .xor .i64 X (X / 64)).tmod n ∧ (bits .xor .i64 X (X / 64)).tmod n < n := by
  obtain ⟨A, rfl⟩ := Int.eq_ofNat_of_zero_le h0
  have e : ((A : Int) / 64) = ((A / 64 : Nat) : Int) := by omega
  rw [e, i64_xor_nat A (A / 64) (by omega) (by omega)]
  exact ⟨Int.tmod_nonneg _ (by omega), Int.tmod_lt_of_pos _ (by omega)⟩

set_option maxHeartbeats 1000000 in
/-- A pick past the bytes. -/
theorem pick_past (R b off len cap p : Nat) (n : Int) (w : World) (h : RdAt R b off len cap p w) (hp : len ≤ p) (hp2 : p ≤ 1000000) (hn : 1 ≤ n) (hn2 : n ≤ 1000000) :
    Calls Tryd.prog 67 #[.pointer (some ⟨R, 0, none⟩), .int .i64 n] w fun e w' => ∃ (x : Int) (k : Nat), e = .returned (.int .i64 x) ∧ 0 ≤ x ∧ x < n ∧ w' = (w.setCell ⟨R, 1, none⟩ (.int .i64 ((p : Int) + 1))).drewN k := by
  have c0 := h.c0
  have c1 := h.c1
  have fr := h.fr
  have l1 := h.l1
  have l2 := h.l2
  have ne : b ≠ R := Nat.ne_of_lt h.lt
  obtain ⟨x, hx, ex⟩ := h.el (p % len) (Nat.mod_lt _ (by omega))
  obtain ⟨y, hy, ey⟩ := h.el ((p * 7 + 3) % len) (Nat.mod_lt _ (by omega))
  have hl0 : ((len : Int) == 0) = false := by simp; omega
  have q0 : 0 ≤ (p : Int) / (len : Int) := Int.ediv_nonneg (by omega) (by omega)
  have q1 : (p : Int) / (len : Int) ≤ 1000000 := Int.le_trans (Int.ediv_le_self _ (by omega)) (by omega)
  have i0 : 0 ≤ (p : Int) % (len : Int) := Int.emod_nonneg _ (by omega)
  have i1 : (p : Int) % (len : Int) < (len : Int) := Int.emod_lt_of_pos _ (by omega)
  have j0 : 0 ≤ ((p : Int) * 7 + 3) % (len : Int) := Int.emod_nonneg _ (by omega)
  have j1 : ((p : Int) * 7 + 3) % (len : Int) < (len : Int) := Int.emod_lt_of_pos _ (by omega)
  clear h
  go_enter Tryd.func67, Tryd.ntmps67
  go_wp2
  go_quiet (fail)
  go_wp2
  go_ret
  have hm := xor_mod ((x : Int) * 131 + (y : Int) * 1117 + (p : Int) * 29 + (p : Int) / (len : Int) * 53) n (by omega) (by omega) hn
  exact ⟨_, nq, rfl, hm.1, hm.2, rfl⟩

theorem moved_set (R : Nat) (v : Value) (w : World) (k : Nat) : Moved R w ((w.setCell ⟨R, 1, none⟩ v).drewN k) :=
  ⟨rfl, rfl, rfl, by show _ ≤ (w.setCell _ v).heap.size; simp, fun i _ hn => Below.heap_setCell w ⟨R, 1, none⟩ v i hn⟩

theorem RdAt.step {R b off len cap p : Nat} {w : World} (h : RdAt R b off len cap p w) (k : Nat) : RdAt R b off len cap (p + 1) ((w.setCell ⟨R, 1, none⟩ (.int .i64 ((p : Int) + 1))).drewN k) where
  zR := by show _ < (w.setCell _ _).heap.size; simpa using h.zR
  lt := h.lt
  c0 := by
    show (w.setCell _ _).cell? _ = _
    rw [World.cell?_setCell_other _ _ _ _ (by simp)]; exact h.c0
  c1 := by
    show (w.setCell _ _).cell? _ = _
    rw [World.cell?_setCell_same _ _ _ h.c1]; rfl
  fr := by
    show (w.setCell _ _).frozen? _ = _
    simpa using h.fr
  el := fun i hi => by
    obtain ⟨x, hx, ex⟩ := h.el i hi
    refine ⟨x, hx, ?_⟩
    show (w.setCell _ _).cell? _ = _
    rw [World.cell?_setCell_other _ _ _ _ (by intro e; injection e with e1; have := h.lt; omega)]; exact ex
  l1 := h.l1
  l2 := h.l2

theorem RdNo.step {R p : Nat} {w : World} (h : RdNo R p w) (k : Nat) : RdNo R (p + 1) ((w.setCell ⟨R, 1, none⟩ (.int .i64 ((p : Int) + 1))).drewN k) where
  zR := by show _ < (w.setCell _ _).heap.size; simpa using h.zR
  c0 := by
    obtain ⟨a, cap, e⟩ := h.c0
    refine ⟨a, cap, ?_⟩
    show (w.setCell _ _).cell? _ = _
    rw [World.cell?_setCell_other _ _ _ _ (by simp)]; exact e
  c1 := by
    show (w.setCell _ _).cell? _ = _
    rw [World.cell?_setCell_same _ _ _ h.c1]; rfl
  fr := by
    show (w.setCell _ _).frozen? _ = _
    simpa using h.fr

/-- What a pick answers, and what it leaves. -/
theorem pick_any (R c : Nat) (n : Int) (w : World) (h : Rd R c w) (hc : c ≤ 1000000) (hn : n ≤ 1000000) :
    Calls Tryd.prog 67 #[.pointer (some ⟨R, 0, none⟩), .int .i64 n] w fun e w' => ∃ x : Int, e = .returned (.int .i64 x) ∧ 0 ≤ x ∧ (1 ≤ n → x < n) ∧ (n < 1 → x = 0) ∧ Rd R (c + 1) w' ∧ Moved R w w' := by
  rcases h with ⟨b, off, len, cap, p, hp, h⟩ | ⟨p, hp, h⟩
  · by_cases h1 : n < 1
    · refine (pick_none R p n w h.c1 (by omega) h.fr h1 _ _ _ h.c0).mono ?_
      rintro e w' ⟨rfl, rfl⟩
      exact ⟨0, rfl, Int.le_refl _, by omega, fun _ => rfl, Or.inl ⟨b, off, len, cap, p + 1, by omega, h.step 0⟩, moved_set R _ w 0⟩
    · by_cases h2 : p < len
      · refine (pick_in R b off len cap p n w h h2 (by omega) hn).mono ?_
        rintro e w' ⟨x, rfl, hx0, hx1, rfl⟩
        exact ⟨x, rfl, hx0, fun _ => hx1, by omega, Or.inl ⟨b, off, len, cap, p + 1, by omega, h.step 0⟩, moved_set R _ w 0⟩
      · refine (pick_past R b off len cap p n w h (by omega) (by omega) (by omega) hn).mono ?_
        rintro e w' ⟨x, k, rfl, hx0, hx1, rfl⟩
        exact ⟨x, rfl, hx0, fun _ => hx1, by omega, Or.inl ⟨b, off, len, cap, p + 1, by omega, h.step k⟩, moved_set R _ w k⟩
  · obtain ⟨a, cap, e0⟩ := h.c0
    by_cases h1 : n < 1
    · refine (pick_none R p n w h.c1 (by omega) h.fr h1 _ _ _ e0).mono ?_
      rintro e w' ⟨rfl, rfl⟩
      exact ⟨0, rfl, Int.le_refl _, by omega, fun _ => rfl, Or.inr ⟨p + 1, by omega, h.step 0⟩, moved_set R _ w 0⟩
    · refine (pick_empty R p n w h.c1 (by omega) h.fr (by omega) _ _ e0).mono ?_
      rintro e w' ⟨rfl, rfl⟩
      exact ⟨0, rfl, Int.le_refl _, by omega, fun _ => rfl, Or.inr ⟨p + 1, by omega, h.step 0⟩, moved_set R _ w 0⟩

/-- A reader stays one where nothing of it turns. -/
theorem Rd.of_blocks {R c : Nat} {w w' : World} (h : Rd R c w) (hb : ∀ i, i < w.heap.size → w'.heap[i]? = w.heap[i]?) (hs : w.heap.size ≤ w'.heap.size) : Rd R c w' := by
  have hc : ∀ (b o : Nat), b < w.heap.size → w'.cell? ⟨b, o, none⟩ = w.cell? ⟨b, o, none⟩ := fun b o hk => World.cell?_of_block (hb b hk)
  have hf : ∀ (b o : Nat), b < w.heap.size → w'.frozen? ⟨b, o, none⟩ = w.frozen? ⟨b, o, none⟩ := fun b o hk => World.frozen?_of_block (hb b hk)
  rcases h with ⟨b, off, len, cap, p, hp, h⟩ | ⟨p, hp, h⟩
  · refine Or.inl ⟨b, off, len, cap, p, hp, ?_⟩
    have h1 := h.zR
    have h2 := h.lt
    refine ⟨by omega, h.lt, by rw [hc _ _ h.zR]; exact h.c0, by rw [hc _ _ h.zR]; exact h.c1, by rw [hf _ _ h.zR]; exact h.fr, ?_, h.l1, h.l2⟩
    intro i hi
    obtain ⟨x, hx, ex⟩ := h.el i hi
    exact ⟨x, hx, by rw [hc _ _ (by omega)]; exact ex⟩
  · refine Or.inr ⟨p, hp, ?_⟩
    have h1 := h.zR
    obtain ⟨a, cap, e0⟩ := h.c0
    exact ⟨by omega, ⟨a, cap, by rw [hc _ _ h.zR]; exact e0⟩, by rw [hc _ _ h.zR]; exact h.c1, by rw [hf _ _ h.zR]; exact h.fr⟩

theorem Rd.mono {R c c' : Nat} {w : World} (h : Rd R c w) (hc : c ≤ c') : Rd R c' w := by
  rcases h with ⟨b, off, len, cap, p, hp, h⟩ | ⟨p, hp, h⟩
  · exact Or.inl ⟨b, off, len, cap, p, by omega, h⟩
  · exact Or.inr ⟨p, by omega, h⟩
theorem Rd.size {R c : Nat} {w : World} (h : Rd R c w) : R < w.heap.size := by
  rcases h with ⟨b, off, len, cap, p, hp, h⟩ | ⟨p, hp, h⟩
  · exact h.zR
  · exact h.zR
theorem Rd.below {R c : Nat} {w w' : World} (h : Rd R c w) (hb : Below w.heap.size w w') : Rd R c w' := h.of_blocks (fun i hi => hb.block i hi) hb.size
theorem Rd.alloc {R c : Nat} {w : World} (h : Rd R c w) (o : Obj) : Rd R c (w.alloc o) := h.below ((Below.refl _ w).alloc (Nat.le_refl _) o)
theorem Rd.drew {R c : Nat} {w : World} (h : Rd R c w) : Rd R c w.drew := h.of_blocks (fun _ _ => rfl) (Nat.le_refl _)
theorem Rd.setCell {R c : Nat} {w : World} (h : Rd R c w) {a : Addr} (ha : R < a.block) (v : Value) : Rd R c (w.setCell a v) := by
  have hc : ∀ (b o : Nat), b ≤ R → (w.setCell a v).cell? ⟨b, o, none⟩ = w.cell? ⟨b, o, none⟩ := fun b o hk => World.cell?_of_block (Below.heap_setCell w a v b (by omega))
  rcases h with ⟨b, off, len, cap, p, hp, h⟩ | ⟨p, hp, h⟩
  · refine Or.inl ⟨b, off, len, cap, p, hp, ?_⟩
    have h1 := h.zR
    have h2 := h.lt
    refine ⟨by simpa using h.zR, h.lt, by rw [hc _ _ (Nat.le_refl _)]; exact h.c0, by rw [hc _ _ (Nat.le_refl _)]; exact h.c1, by simpa using h.fr, ?_, h.l1, h.l2⟩
    intro i hi
    obtain ⟨x, hx, ex⟩ := h.el i hi
    exact ⟨x, hx, by rw [hc _ _ (by omega)]; exact ex⟩
  · refine Or.inr ⟨p, hp, ?_⟩
    obtain ⟨x, cap, e0⟩ := h.c0
    exact ⟨by simpa using h.zR, ⟨x, cap, by rw [hc _ _ (Nat.le_refl _)]; exact e0⟩, by rw [hc _ _ (Nat.le_refl _)]; exact h.c1, by simpa using h.fr⟩
theorem Moved.setCell {R : Nat} {w w' : World} (h : Moved R w w') {a : Addr} (ha : w.heap.size ≤ a.block) (v : Value) : Moved R w (w'.setCell a v) :=
  ⟨h.os, h.tape, h.output, by simpa using h.size, fun i hi hn => (Below.heap_setCell w' a v i (by omega)).trans (h.block i hi hn)⟩
theorem Moved.drew {R : Nat} {w w' : World} (h : Moved R w w') : Moved R w w'.drew := ⟨h.os, h.tape, h.output, h.size, h.block⟩
theorem Moved.alloc' {R : Nat} {w w' : World} (h : Moved R w w') (o : Obj) : Moved R w (w'.alloc o) := h.trans (Moved.of_below ((Below.refl w'.heap.size w').alloc (Nat.le_refl _) o) (Nat.le_refl _))
theorem Moved.alloc (R : Nat) (w : World) (o : Obj) : Moved R w (w.alloc o) := Moved.of_below ((Below.refl w.heap.size w).alloc (Nat.le_refl _) o) (Nat.le_refl _)

end Go.Proofs.YtdhoimjkgicneaaDoor
