/- What is kept of a memory, as the specification says it. -/
import Derived.Test.YtdhoimjkgicneacKepD
namespace Go.Proofs.Ytdhoimjkgicneac
open Go Go.RowKit

attribute [local go_sem] zMemK

theorem cell_same (a b : MemV) {k : Nat} (hk : k < 136) (h0 : k = 0 → a.x = b.x) (h1 : k = 1 → a.y = b.y) (h2 : k = 2 → a.m = b.m) (h3 : k = 3 → a.s = b.s) (h4 : k = 4 → a.e = b.e)
    (hT : 5 ≤ k → k < 37 → a.tD ((k - 5) / 2) = b.tD ((k - 5) / 2) ∧ a.tC ((k - 5) / 2) = b.tC ((k - 5) / 2))
    (hC : 37 ≤ k → k < 85 → a.cD ((k - 37) / 3) = b.cD ((k - 37) / 3) ∧ a.cL ((k - 37) / 3) = b.cL ((k - 37) / 3) ∧ a.cC ((k - 37) / 3) = b.cC ((k - 37) / 3))
    (hD : 85 ≤ k → k < 117 → a.d (k - 85) = b.d (k - 85)) (hR : 117 ≤ k → k < 133 → a.r (k - 117) = b.r (k - 117)) (h5 : k = 133 → a.time = b.time) (h6 : k = 134 → a.ran = b.ran) (h7 : k = 135 → a.fault = b.fault) : a.cell k = b.cell k := by
  unfold MemV.cell
  by_cases k0 : k = 0
  · rw [if_pos k0, if_pos k0, h0 k0]
  rw [if_neg k0, if_neg k0]
  by_cases k1 : k = 1
  · rw [if_pos k1, if_pos k1, h1 k1]
  rw [if_neg k1, if_neg k1]
  by_cases k2 : k = 2
  · rw [if_pos k2, if_pos k2, h2 k2]
  rw [if_neg k2, if_neg k2]
  by_cases k3 : k = 3
  · rw [if_pos k3, if_pos k3, h3 k3]
  rw [if_neg k3, if_neg k3]
  by_cases k4 : k = 4
  · rw [if_pos k4, if_pos k4, h4 k4]
  rw [if_neg k4, if_neg k4]
  by_cases k5 : k < 37
  · rw [if_pos k5, if_pos k5, (hT (by omega) k5).1, (hT (by omega) k5).2]
  rw [if_neg k5, if_neg k5]
  by_cases k6 : k < 85
  · rw [if_pos k6, if_pos k6, (hC (by omega) k6).1, (hC (by omega) k6).2.1, (hC (by omega) k6).2.2]
  rw [if_neg k6, if_neg k6]
  by_cases k7 : k < 117
  · rw [if_pos k7, if_pos k7, hD (by omega) k7]
  rw [if_neg k7, if_neg k7]
  by_cases k8 : k < 133
  · rw [if_pos k8, if_pos k8, hR (by omega) k8]
  rw [if_neg k8, if_neg k8]
  by_cases k9 : k = 133
  · rw [if_pos k9, if_pos k9, h5 k9]
  rw [if_neg k9, if_neg k9]
  by_cases k10 : k = 134
  · rw [if_pos k10, if_pos k10, h6 k10]
  rw [if_neg k10, if_neg k10, h7 (by omega)]

/-- While the specification copies: k timers and k registers are there. -/
def midV (v : MemV) (k : Nat) : MemV := ⟨0, 0, v.m / 4294967296 * 4294967296, v.s, 0, fun i => if i < k then v.tD i else false, fun i => if i < k then v.tC i else 0, v.cD, v.cL, v.cC, fun i => if i < 16 then 0 else if i < 16 + k then v.d i else 0, fun _ => 0, 0, false, false⟩

theorem mid_first (v : MemV) {u1 u2 : Value} (h1 : u1 = .int .u16 v.s) (h2 : u2 = .int .u64 ((v.m / 4294967296 * 4294967296 : Nat) : Int)) :
    Try.prog.built 78 [(3, u1), (2, u2), (6, .agg (rowOf (fCounter v.cD v.cL v.cC) 48))] = some (midV v 0).row := by
  subst h1 h2
  rw [built_mem, ← rowOf_mem, ← rowOf_mem, fill_row (off := 3) (n := 1) (g := fun _ => .int .u16 v.s) (by decide) rfl (by omega), fill_row (off := 2) (n := 1) (g := fun _ => .int .u64 ((v.m / 4294967296 * 4294967296 : Nat) : Int)) (by decide) rfl (by omega),
    fill_row (off := 37) (n := 48) (g := fCounter v.cD v.cL v.cC) (by decide) rfl (by omega), Instr.fill]
  congr 1

theorem mid_next (v : MemV) {k j : Nat} (hk : k < 16) (hj : j < 136) : (midV v (k + 1)).cell j = if j = 85 + (16 + k) then .int .i16 (v.d (16 + k)) else if j = 5 + k * 2 + 1 then .int .u16 (v.tC k) else if j = 5 + k * 2 then .bool (v.tD k) else (midV v k).cell j := by
  by_cases c1 : j = 85 + (16 + k)
  · rw [if_pos c1, c1, MemV.cell_d _ _ (by omega)]
    show Value.int .i16 (if 16 + k < 16 then 0 else if 16 + k < 16 + (k + 1) then v.d (16 + k) else 0) = _
    rw [if_neg (by omega), if_pos (by omega)]
  rw [if_neg c1]
  by_cases c2 : j = 5 + k * 2 + 1
  · rw [if_pos c2, c2, MemV.cell_tC _ _ hk]
    show Value.int .u16 ((if k < k + 1 then v.tC k else 0 : Nat) : Int) = _
    rw [if_pos (by omega)]
  rw [if_neg c2]
  by_cases c3 : j = 5 + k * 2
  · rw [if_pos c3, c3, MemV.cell_tD _ _ hk]
    show Value.bool (if k < k + 1 then v.tD k else false) = _
    rw [if_pos (by omega)]
  rw [if_neg c3]
  refine cell_same _ _ hj (fun _ => rfl) (fun _ => rfl) (fun _ => rfl) (fun _ => rfl) (fun _ => rfl) (fun h1 h2 => ?_) (fun _ _ => ⟨rfl, rfl, rfl⟩) (fun h1 h2 => ?_) (fun _ _ => rfl) (fun _ => rfl) (fun _ => rfl) (fun _ => rfl)
  · show (if (j - 5) / 2 < k + 1 then _ else _) = (if (j - 5) / 2 < k then _ else _) ∧ (if (j - 5) / 2 < k + 1 then _ else _) = (if (j - 5) / 2 < k then _ else _)
    by_cases h : (j - 5) / 2 < k
    · rw [if_pos h, if_pos h, if_pos (by omega), if_pos (by omega)]
      exact ⟨rfl, rfl⟩
    · rw [if_neg h, if_neg h, if_neg (by omega), if_neg (by omega)]
      exact ⟨rfl, rfl⟩
  · show (if j - 85 < 16 then _ else if j - 85 < 16 + (k + 1) then _ else _) = if j - 85 < 16 then _ else if j - 85 < 16 + k then _ else _
    by_cases h : j - 85 < 16
    · rw [if_pos h, if_pos h]
    · rw [if_neg h, if_neg h]
      by_cases h' : j - 85 < 16 + k
      · rw [if_pos h', if_pos (by omega)]
      · rw [if_neg h', if_neg (by omega)]

theorem mid_last (v : MemV) : (midV v 16).row = (keptV v).row := by
  have e : (List.range 136).map (midV v 16).cell = (List.range 136).map (keptV v).cell := List.map_congr_left fun k hk => by
    have hk := List.mem_range.1 hk
    refine cell_same _ _ hk (fun _ => rfl) (fun _ => rfl) (fun _ => rfl) (fun _ => rfl) (fun _ => rfl) (fun h1 h2 => ?_) (fun _ _ => ⟨rfl, rfl, rfl⟩) (fun h1 h2 => ?_) (fun _ _ => rfl) (fun _ => rfl) (fun _ => rfl) (fun _ => rfl)
    · show (if (k - 5) / 2 < 16 then _ else _) = _ ∧ (if (k - 5) / 2 < 16 then _ else _) = _
      rw [if_pos (by omega), if_pos (by omega)]
      exact ⟨rfl, rfl⟩
    · show (if k - 85 < 16 then _ else if k - 85 < 16 + 16 then _ else _) = if k - 85 < 16 then _ else _
      by_cases h : k - 85 < 16
      · rw [if_pos h, if_pos h]
      · rw [if_neg h, if_neg h, if_pos (by omega)]
  unfold MemV.row
  rw [e]

/-- Three cells are put. -/
theorem mid_put {v : MemV} {b k : Nat} {w : World} (hk : k < 16) (h : MemAt b (midV v k) w) :
    MemAt b (midV v (k + 1)) (((w.setCell ⟨b, 5 + k * 2, none⟩ (.bool (v.tD k))).setCell ⟨b, 5 + k * 2 + 1, none⟩ (.int .u16 (v.tC k))).setCell ⟨b, 85 + (16 + k), none⟩ (.int .i16 (v.d (16 + k)))) := by
  have h1 := h.rowAt.put (k := 5 + k * 2) (f' := fun j => if j = 5 + k * 2 then .bool (v.tD k) else (midV v k).cell j) (u := .bool (v.tD k)) (by omega) (if_pos rfl) (fun i _ hn => if_neg hn)
  have h2 := h1.put (k := 5 + k * 2 + 1) (f' := fun j => if j = 5 + k * 2 + 1 then .int .u16 (v.tC k) else if j = 5 + k * 2 then .bool (v.tD k) else (midV v k).cell j) (u := .int .u16 (v.tC k)) (by omega) (if_pos rfl) (fun i _ hn => if_neg hn)
  have h3 := h2.put (k := 85 + (16 + k)) (f' := fun j => if j = 85 + (16 + k) then .int .i16 (v.d (16 + k)) else if j = 5 + k * 2 + 1 then .int .u16 (v.tC k) else if j = 5 + k * 2 then .bool (v.tD k) else (midV v k).cell j) (u := .int .i16 (v.d (16 + k))) (by omega) (if_pos rfl) (fun i _ hn => if_neg hn)
  exact (h3.congr fun j hj => (mid_next v hk hj).symm).mem

/-- What is there while the specification copies. -/
structure Copying (v : MemV) (k : Nat) (w wr : World) : Prop where
  A : MemAt w.heap.size v wr
  R : MemAt (w.heap.size + 1) mem0 wr
  O : MemAt (w.heap.size + 1 + 1) (midV v k) wr
  B : Below w.heap.size w wr

theorem boxes0 (v : MemV) (w : World) : MemAt w.heap.size v ((w.alloc (.cells v.row 78)).alloc (.cells mem0.row 78)) ∧ MemAt (w.heap.size + 1 + 1) mem0 (((w.alloc (.cells v.row 78)).alloc (.cells mem0.row 78)).alloc (.cells mem0.row 78)) ∧ ∀ x : MemV,
    MemAt w.heap.size v ((((w.alloc (.cells v.row 78)).alloc (.cells mem0.row 78)).alloc (.cells mem0.row 78)).setCells (w.heap.size + 1 + 1) 0 x.row.toList) ∧
    MemAt (w.heap.size + 1) mem0 ((((w.alloc (.cells v.row 78)).alloc (.cells mem0.row 78)).alloc (.cells mem0.row 78)).setCells (w.heap.size + 1 + 1) 0 x.row.toList) ∧
    MemAt (w.heap.size + 1 + 1) x ((((w.alloc (.cells v.row 78)).alloc (.cells mem0.row 78)).alloc (.cells mem0.row 78)).setCells (w.heap.size + 1 + 1) 0 x.row.toList) ∧
    Below w.heap.size w ((((w.alloc (.cells v.row 78)).alloc (.cells mem0.row 78)).alloc (.cells mem0.row 78)).setCells (w.heap.size + 1 + 1) 0 x.row.toList) := by
  have h1 : ∀ (w : World) (o : Obj), Below w.heap.size w (w.alloc o) := fun w o => (Below.refl _ _).alloc (Nat.le_refl _) _
  have A1 := (MemAt.alloc v w 78).below (h1 _ (.cells mem0.row 78)) (by simp)
  have A2 := A1.below (h1 _ (.cells mem0.row 78)) (by simp; omega)
  have R1 := MemAt.alloc mem0 (w.alloc (.cells v.row 78)) 78
  rw [show (w.alloc (.cells v.row 78)).heap.size = w.heap.size + 1 by simp] at R1
  have R2 := R1.below (h1 _ (.cells mem0.row 78)) (by simp)
  have O2 := MemAt.alloc mem0 ((w.alloc (.cells v.row 78)).alloc (.cells mem0.row 78)) 78
  rw [show ((w.alloc (.cells v.row 78)).alloc (.cells mem0.row 78)).heap.size = w.heap.size + 1 + 1 by simp] at O2
  refine ⟨A1, O2, fun x => ⟨A2.other (by omega), R2.other (by omega), O2.stored x, setCells_below _ _ _ ((((Below.refl w.heap.size w).alloc (Nat.le_refl _) _).alloc (by simp) _).alloc (by simp; omega) _) (by omega)⟩⟩

end Go.Proofs.Ytdhoimjkgicneac
