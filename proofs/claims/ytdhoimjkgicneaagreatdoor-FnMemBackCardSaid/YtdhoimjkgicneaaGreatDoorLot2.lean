/- Texts of this proof laid together: MemZ, MemQ, FitC. -/
import Derived.Test.YtdhoimjkgicneaaGreatDoorLot1
/- A cell of a memory put; a memory of nothing as the program names it. -/
namespace Go.Proofs.YtdhoimjkgicneaaGreatDoor
open Go Go.RowKit

theorem MemAt.put {b k : Nat} {v v' : MemV} {u : Value} {w : World} (h : MemAt b v w) (hk : k < 136) (hu : v'.cell k = u) (ho : ∀ i, i < 136 → i ≠ k → v'.cell i = v.cell i) :
    MemAt b v' (w.setCell ⟨b, k, none⟩ u) := by
  refine ⟨by simpa [World.setCell] using h.z, fun i hi => ?_, fun i hi => by rw [World.frozen?_setCell]; exact h.f i hi⟩
  by_cases e : i = k
  · subst e
    rw [World.cell?_setCell_same _ _ _ (h.c i hi), hu]
  · rw [World.cell?_setCell_other _ _ _ _ (by intro hh; cases hh; exact e rfl), h.c i hi, ho i hi e]

theorem zero_row : Tryz.zeroCells37 = mem0.row := by kernel_rfl

end Go.Proofs.YtdhoimjkgicneaaGreatDoor

/- A memory with one cell written, whichever it is. Of no one program. -/
namespace Go.Proofs.YtdhoimjkgicneaaGreatDoor
open Go Go.RowKit

def natU (u : Value) : Nat := match u with | .int _ n => n.toNat | _ => 0
def intU (u : Value) : Int := match u with | .int _ n => n | _ => 0
def boolU (u : Value) : Bool := match u with | .bool b => b | _ => false
def wordU (u : Value) : Nat := match u with | .float _ n => n | _ => 0

/-- The memory with cell k written. -/
def MemV.upd (v : MemV) (k : Nat) (u : Value) : MemV :=
  ⟨if k = 0 then natU u else v.x, if k = 1 then natU u else v.y, if k = 2 then natU u else v.m, if k = 3 then natU u else v.s, if k = 4 then natU u else v.e,
    fun i => if k = 5 + i * 2 ∧ i < 16 then boolU u else v.tD i, fun i => if k = 5 + i * 2 + 1 ∧ i < 16 then natU u else v.tC i,
    fun i => if k = 37 + i * 3 ∧ i < 16 then boolU u else v.cD i, fun i => if k = 37 + i * 3 + 1 ∧ i < 16 then boolU u else v.cL i, fun i => if k = 37 + i * 3 + 2 ∧ i < 16 then natU u else v.cC i,
    fun i => if k = 85 + i ∧ i < 32 then intU u else v.d i, fun i => if k = 117 + i ∧ i < 16 then wordU u else v.r i, if k = 133 then natU u else v.time, if k = 134 then boolU u else v.ran, if k = 135 then boolU u else v.fault⟩

/-- What fits cell k. -/
def fitC (k : Nat) (u : Value) : Prop :=
  if k = 0 ∨ k = 1 ∨ k = 4 ∨ k = 133 then ∃ n : Nat, n < 4294967296 ∧ u = .int .u32 n
  else if k = 2 then ∃ n : Nat, n < 18446744073709551616 ∧ u = .int .u64 n
  else if k = 3 then ∃ n : Nat, n < 65536 ∧ u = .int .u16 n
  else if k < 37 then (if (k - 5) % 2 = 0 then ∃ b, u = .bool b else ∃ n : Nat, n < 65536 ∧ u = .int .u16 n)
  else if k < 85 then (if (k - 37) % 3 = 2 then ∃ n : Nat, n < 65536 ∧ u = .int .u16 n else ∃ b, u = .bool b)
  else if k < 117 then ∃ z : Int, -32768 ≤ z ∧ z ≤ 32767 ∧ u = .int .i16 z
  else if k < 133 then ∃ n : Nat, n < 2 ^ 64 ∧ u = .float .f64 n
  else ∃ b, u = .bool b

theorem fit_nat {k : Nat} {u : Value} (h : fitC k u) (hk : k < 136) : (k = 0 ∨ k = 1 ∨ k = 4 ∨ k = 133 → natU u < 4294967296) ∧ (k = 2 → natU u < 18446744073709551616) ∧ (k = 3 → natU u < 65536) ∧
    (∀ i, i < 16 → k = 5 + i * 2 + 1 ∨ k = 37 + i * 3 + 2 → natU u < 65536) ∧ (∀ i, i < 32 → k = 85 + i → -32768 ≤ intU u ∧ intU u ≤ 32767) ∧ (∀ i, i < 16 → k = 117 + i → wordU u < 2 ^ 64) := by
  unfold fitC at h
  have key : ∀ n : Nat, ((n : Int).toNat) = n := by intro n; omega
  refine ⟨fun e => ?_, fun e => ?_, fun e => ?_, fun i hi e => ?_, fun i hi e => ?_, fun i hi e => ?_⟩
  · rw [if_pos e] at h
    obtain ⟨n, hn, rfl⟩ := h
    simpa [natU] using hn
  · rw [if_neg (by omega), if_pos e] at h
    obtain ⟨n, hn, rfl⟩ := h
    simpa [natU] using hn
  · rw [if_neg (by omega), if_neg (by omega), if_pos e] at h
    obtain ⟨n, hn, rfl⟩ := h
    simpa [natU] using hn
  · rw [if_neg (by omega), if_neg (by omega), if_neg (by omega)] at h
    by_cases h37 : k < 37
    · rw [if_pos h37, if_neg (by omega)] at h
      obtain ⟨n, hn, rfl⟩ := h
      simpa [natU] using hn
    · rw [if_neg h37, if_pos (by omega), if_pos (by omega)] at h
      obtain ⟨n, hn, rfl⟩ := h
      simpa [natU] using hn
  · rw [if_neg (by omega), if_neg (by omega), if_neg (by omega), if_neg (by omega), if_neg (by omega), if_pos (by omega)] at h
    obtain ⟨z, h1, h2, rfl⟩ := h
    exact ⟨h1, h2⟩
  · rw [if_neg (by omega), if_neg (by omega), if_neg (by omega), if_neg (by omega), if_neg (by omega), if_neg (by omega), if_pos (by omega)] at h
    obtain ⟨n, hn, rfl⟩ := h
    exact hn

theorem upd_ok {v : MemV} {k : Nat} {u : Value} (hv : v.Ok) (hk : k < 136) (h : fitC k u) : (v.upd k u).Ok := by
  obtain ⟨f1, f2, f3, f4, f5, f6⟩ := fit_nat h hk
  refine ⟨?_, ?_, ?_, ?_, ?_, fun i => ?_, fun i => ?_, fun i => ?_, fun i => ?_, fun i => ?_, ?_⟩
  · simp only [MemV.upd]; split
    · exact f1 (by omega)
    · exact hv.x
  · simp only [MemV.upd]; split
    · exact f1 (by omega)
    · exact hv.y
  · simp only [MemV.upd]; split
    · exact f2 (by omega)
    · exact hv.m
  · simp only [MemV.upd]; split
    · exact f3 (by omega)
    · exact hv.s
  · simp only [MemV.upd]; split
    · exact f1 (by omega)
    · exact hv.e
  · simp only [MemV.upd]; split
    · rename_i g; exact f4 i g.2 (Or.inl g.1)
    · exact hv.tC i
  · simp only [MemV.upd]; split
    · rename_i g; exact f4 i g.2 (Or.inr g.1)
    · exact hv.cC i
  · simp only [MemV.upd]; split
    · rename_i g; exact (f5 i g.2 g.1).1
    · exact hv.d1 i
  · simp only [MemV.upd]; split
    · rename_i g; exact (f5 i g.2 g.1).2
    · exact hv.d2 i
  · simp only [MemV.upd]; split
    · rename_i g; exact f6 i g.2 g.1
    · exact hv.r i
  · simp only [MemV.upd]; split
    · exact f1 (by omega)
    · exact hv.time

theorem upd_other (v : MemV) {k j : Nat} (u : Value) (hj : j < 136) (hn : j ≠ k) : (v.upd k u).cell j = v.cell j := by
  unfold MemV.cell
  by_cases c0 : j = 0
  · subst c0; simp only [if_true, MemV.upd, if_neg (show ¬ k = 0 by omega)]
  by_cases c1 : j = 1
  · subst c1; simp [MemV.upd, show ¬ k = 1 by omega]
  by_cases c2 : j = 2
  · subst c2; simp [MemV.upd, show ¬ k = 2 by omega]
  by_cases c3 : j = 3
  · subst c3; simp [MemV.upd, show ¬ k = 3 by omega]
  by_cases c4 : j = 4
  · subst c4; simp [MemV.upd, show ¬ k = 4 by omega]
  rw [if_neg c0, if_neg c1, if_neg c2, if_neg c3, if_neg c4, if_neg c0, if_neg c1, if_neg c2, if_neg c3, if_neg c4]
  by_cases c37 : j < 37
  · rw [if_pos c37, if_pos c37]
    simp only [MemV.upd]
    split
    · rw [if_neg (by omega)]
    · rw [if_neg (by omega)]
  rw [if_neg c37, if_neg c37]
  by_cases c85 : j < 85
  · rw [if_pos c85, if_pos c85]
    simp only [MemV.upd]
    split
    · rw [if_neg (by omega)]
    split
    · rw [if_neg (by omega)]
    · rw [if_neg (by omega)]
  rw [if_neg c85, if_neg c85]
  by_cases c117 : j < 117
  · rw [if_pos c117, if_pos c117]
    simp only [MemV.upd]
    rw [if_neg (by omega)]
  rw [if_neg c117, if_neg c117]
  by_cases c133 : j < 133
  · rw [if_pos c133, if_pos c133]
    simp only [MemV.upd]
    rw [if_neg (by omega)]
  rw [if_neg c133, if_neg c133]
  simp only [MemV.upd]
  by_cases e1 : j = 133
  · rw [if_pos e1, if_pos e1, if_neg (by omega)]
  rw [if_neg e1, if_neg e1]
  by_cases e2 : j = 134
  · rw [if_pos e2, if_pos e2, if_neg (by omega)]
  rw [if_neg e2, if_neg e2, if_neg (by omega)]

theorem upd_same (v : MemV) {k : Nat} {u : Value} (hk : k < 136) (h : fitC k u) : (v.upd k u).cell k = u := by
  unfold fitC at h
  unfold MemV.cell
  by_cases c0 : k = 0
  · subst c0
    simp only [true_or, if_true] at h
    obtain ⟨n, hn, rfl⟩ := h
    simp [MemV.upd, natU]
  by_cases c1 : k = 1
  · subst c1
    rw [if_pos (by omega)] at h
    obtain ⟨n, hn, rfl⟩ := h
    simp [MemV.upd, natU]
  by_cases c2 : k = 2
  · subst c2
    rw [if_neg (by omega), if_pos rfl] at h
    obtain ⟨n, hn, rfl⟩ := h
    simp [MemV.upd, natU]
  by_cases c3 : k = 3
  · subst c3
    rw [if_neg (by omega), if_neg (by omega), if_pos rfl] at h
    obtain ⟨n, hn, rfl⟩ := h
    simp [MemV.upd, natU]
  by_cases c4 : k = 4
  · subst c4
    rw [if_pos (by omega)] at h
    obtain ⟨n, hn, rfl⟩ := h
    simp [MemV.upd, natU]
  rw [if_neg c0, if_neg c1, if_neg c2, if_neg c3, if_neg c4]
  by_cases c133 : k = 133
  · subst c133
    rw [if_pos (by omega)] at h
    obtain ⟨n, hn, rfl⟩ := h
    simp [MemV.upd, natU]
  rw [if_neg (by omega), if_neg c2, if_neg c3] at h
  by_cases c37 : k < 37
  · rw [if_pos c37] at h ⊢
    split at h
    · obtain ⟨b, rfl⟩ := h
      rw [if_pos (by assumption)]
      simp only [MemV.upd]
      rw [if_pos (by omega)]
      rfl
    · obtain ⟨n, hn, rfl⟩ := h
      rw [if_neg (by assumption)]
      simp only [MemV.upd]
      rw [if_pos (by omega)]
      simp [natU]
  rw [if_neg c37] at h ⊢
  by_cases c85 : k < 85
  · rw [if_pos c85] at h ⊢
    split at h
    · obtain ⟨n, hn, rfl⟩ := h
      rw [if_neg (by omega), if_neg (by omega)]
      simp only [MemV.upd]
      rw [if_pos (by omega)]
      simp [natU]
    · obtain ⟨b, rfl⟩ := h
      split
      · simp only [MemV.upd]
        rw [if_pos (by omega)]
        rfl
      · rw [if_pos (by omega)]
        simp only [MemV.upd]
        rw [if_pos (by omega)]
        rfl
  rw [if_neg c85] at h ⊢
  by_cases c117 : k < 117
  · rw [if_pos c117] at h ⊢
    obtain ⟨z, h1, h2, rfl⟩ := h
    simp only [MemV.upd]
    rw [if_pos (by omega)]
    rfl
  rw [if_neg c117] at h ⊢
  by_cases c133' : k < 133
  · rw [if_pos c133'] at h ⊢
    obtain ⟨n, hn, rfl⟩ := h
    simp only [MemV.upd]
    rw [if_pos (by omega)]
    rfl
  rw [if_neg c133'] at h ⊢
  obtain ⟨b, rfl⟩ := h
  rw [if_neg c133]
  by_cases e2 : k = 134
  · subst e2
    simp [MemV.upd, boolU]
  · have e3 : k = 135 := by omega
    subst e3
    simp [MemV.upd, boolU]

/-- Some memory lies in block b. -/
def MemSome (b : Nat) (w : World) : Prop := ∃ v : MemV, v.Ok ∧ MemAt b v w

theorem MemSome.set {b k : Nat} {u : Value} {w : World} (h : MemSome b w) (hk : k < 136) (hu : fitC k u) : MemSome b (w.setCell ⟨b, k, none⟩ u) := by
  obtain ⟨v, hv, hA⟩ := h
  refine ⟨v.upd k u, upd_ok hv hk hu, by simpa [World.setCell] using hA.z, fun i hi => ?_, fun i hi => by rw [World.frozen?_setCell]; exact hA.f i hi⟩
  by_cases e : i = k
  · subst e
    rw [World.cell?_setCell_same _ _ _ (hA.c i hi), upd_same v hk hu]
  · rw [World.cell?_setCell_other _ _ _ _ (by intro hh; cases hh; exact e rfl), hA.c i hi, upd_other v u hi e]
theorem MemSome.below {b B : Nat} {w w' : World} (h : MemSome b w) (hb : Below B w w') (hB : b < B) : MemSome b w' := by
  obtain ⟨v, hv, hA⟩ := h
  exact ⟨v, hv, hA.below hb hB⟩
theorem MemSome.z {b : Nat} {w : World} (h : MemSome b w) : b < w.heap.size := by
  obtain ⟨v, hv, hA⟩ := h
  exact hA.z
theorem MemSome.c {b k : Nat} {w : World} (h : MemSome b w) (hk : k < 136) : ∃ u, w.cell? ⟨b, k, none⟩ = some u := by
  obtain ⟨v, hv, hA⟩ := h
  exact ⟨_, hA.c k hk⟩
theorem MemSome.f {b k : Nat} {w : World} (h : MemSome b w) (hk : k < 136) : w.frozen? ⟨b, k, none⟩ = false := by
  obtain ⟨v, hv, hA⟩ := h
  exact hA.f k hk

end Go.Proofs.YtdhoimjkgicneaaGreatDoor

/- What fits the cells of a memory. Of no one program. -/
namespace Go.Proofs.YtdhoimjkgicneaaGreatDoor
open Go Go.RowKit

/-- What is written by a draw fits its cell. -/
theorem fit_u32 {k : Nat} (hk : k = 0 ∨ k = 1 ∨ k = 4 ∨ k = 133) (z : Int) : fitC k (.int .u32 (IntKind.u32.wrap z)) := by
  unfold fitC
  rw [if_pos hk]
  have : 0 ≤ IntKind.u32.wrap z ∧ IntKind.u32.wrap z < 4294967296 := by
    simp [IntKind.wrap, IntKind.bits, IntKind.signed]
    omega
  exact ⟨(IntKind.u32.wrap z).toNat, by omega, by rw [Int.toNat_of_nonneg this.1]⟩
theorem fit_u64 {z : Int} (h0 : 0 ≤ z) (h1 : z < 18446744073709551616) : fitC 2 (.int .u64 z) := by
  unfold fitC
  rw [if_neg (by omega), if_pos rfl]
  exact ⟨z.toNat, by omega, by rw [Int.toNat_of_nonneg h0]⟩
theorem wrap_u16 (z : Int) : 0 ≤ IntKind.u16.wrap z ∧ IntKind.u16.wrap z < 65536 := by
  simp [IntKind.wrap, IntKind.bits, IntKind.signed]
  omega
theorem fit_u16 (z : Int) : fitC 3 (.int .u16 (IntKind.u16.wrap z)) := by
  unfold fitC
  rw [if_neg (by omega), if_neg (by omega), if_pos rfl]
  exact ⟨(IntKind.u16.wrap z).toNat, by have := wrap_u16 z; omega, by rw [Int.toNat_of_nonneg (wrap_u16 z).1]⟩
theorem fit_tD {k : Nat} (hk : k < 16) (b : Bool) : fitC (5 + k * 2) (.bool b) := by
  unfold fitC
  rw [if_neg (by omega), if_neg (by omega), if_neg (by omega), if_pos (by omega), if_pos (by omega)]
  exact ⟨b, rfl⟩
theorem fit_tC {k : Nat} (hk : k < 16) (z : Int) : fitC (5 + k * 2 + 1) (.int .u16 (IntKind.u16.wrap z)) := by
  unfold fitC
  rw [if_neg (by omega), if_neg (by omega), if_neg (by omega), if_pos (by omega), if_neg (by omega)]
  exact ⟨(IntKind.u16.wrap z).toNat, by have := wrap_u16 z; omega, by rw [Int.toNat_of_nonneg (wrap_u16 z).1]⟩
theorem fit_cD {k : Nat} (hk : k < 16) (b : Bool) : fitC (37 + k * 3) (.bool b) := by
  unfold fitC
  rw [if_neg (by omega), if_neg (by omega), if_neg (by omega), if_neg (by omega), if_pos (by omega), if_neg (by omega)]
  exact ⟨b, rfl⟩
theorem fit_cL {k : Nat} (hk : k < 16) (b : Bool) : fitC (37 + k * 3 + 1) (.bool b) := by
  unfold fitC
  rw [if_neg (by omega), if_neg (by omega), if_neg (by omega), if_neg (by omega), if_pos (by omega), if_neg (by omega)]
  exact ⟨b, rfl⟩
theorem fit_cC {k : Nat} (hk : k < 16) (z : Int) : fitC (37 + k * 3 + 2) (.int .u16 (IntKind.u16.wrap z)) := by
  unfold fitC
  rw [if_neg (by omega), if_neg (by omega), if_neg (by omega), if_neg (by omega), if_pos (by omega), if_pos (by omega)]
  exact ⟨(IntKind.u16.wrap z).toNat, by have := wrap_u16 z; omega, by rw [Int.toNat_of_nonneg (wrap_u16 z).1]⟩
theorem fit_d {k : Nat} (hk : k < 32) {z : Int} (h1 : -32768 ≤ z) (h2 : z ≤ 32767) : fitC (85 + k) (.int .i16 z) := by
  unfold fitC
  rw [if_neg (by omega), if_neg (by omega), if_neg (by omega), if_neg (by omega), if_neg (by omega), if_pos (by omega)]
  exact ⟨z, h1, h2, rfl⟩
theorem fit_r {k : Nat} (hk : k < 16) {x : Nat} (h1 : x < 2 ^ 64) : fitC (117 + k) (.float .f64 x) := by
  unfold fitC
  rw [if_neg (by omega), if_neg (by omega), if_neg (by omega), if_neg (by omega), if_neg (by omega), if_neg (by omega), if_pos (by omega)]
  exact ⟨x, h1, rfl⟩
theorem fit_b {k : Nat} (hk : k = 134 ∨ k = 135) (b : Bool) : fitC k (.bool b) := by
  unfold fitC
  rw [if_neg (by omega), if_neg (by omega), if_neg (by omega), if_neg (by omega), if_neg (by omega), if_neg (by omega), if_neg (by omega)]
  exact ⟨b, rfl⟩

end Go.Proofs.YtdhoimjkgicneaaGreatDoor
