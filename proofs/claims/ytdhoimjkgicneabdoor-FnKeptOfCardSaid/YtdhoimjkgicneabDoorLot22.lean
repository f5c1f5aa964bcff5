/- Texts of this proof laid together: KepE0, KepE. -/
import Derived.Test.YtdhoimjkgicneabDoorLot21
/- What is kept of a memory, as the specification says it. -/
namespace Go.Proofs.YtdhoimjkgicneabDoor
open Go Go.RowKit

attribute [local go_sem] zMemK

theorem cell_same (a b : MemV) {k : Nat} (hk : k < 136) (h0 : k = 0 → a.x = b.x) (h1 : k = 1 → a.y = b.y) (h2 : k = 2 → a.m = b.m) (h3 : k = 3 → a.s = b.s) (h4 : k = 4 → a.e = b.e)
    (hT : 5 ≤ k → k < 37 → a.tD ((k - 5) / 2) = b.tD ((k - 5) / 2) ∧ a.tC ((k - 5) / 2) = b.tC ((k - 5) / 2))
    (hC : 37 ≤ k → k < 85 → a.cD ((k - 37) / 3) = b.cD ((k - 37) / 3) ∧ a.cL ((k - 37) / 3) = b.cL ((k - 37) / 3) ∧ a.cC ((k - 37) / 3) = b.cC ((k - 37) / 3))
    (hD : 85 ≤ k → k < 117 → a.d (k - 85) = b.d (k - 85)) (hR : 117 ≤ k → k < 133 → a.r (k - 117) = b.r (k - 117)) (h5 : k = 133 → a.time = b.time) (h6 : k = 134 → a.ran = b.ran) (h7 : k = 135 → a.fault = b.fault) : a.cell k = b.cell k := by
  unfold MemV.cell
  by_cases k0 : k = 0
  · rw [if_pos k0, if_pos k0, h0 k0]
  rw [if_neg k0, if_neg k0]
  by_cases k1 : k = 1
  · rw [if_pos k1, if_pos k1, h1 k1]
  rw [if_neg k1, if_neg k1]
  by_cases k2 : k = 2
  · rw [if_pos k2, if_pos k2, h2 k2]
  rw [if_neg k2, if_neg k2]
  by_cases k3 : k = 3
  · rw [if_pos k3, if_pos k3, h3 k3]
  rw [if_neg k3, if_neg k3]
  by_cases k4 : k = 4
  · rw [if_pos k4, if_pos k4, h4 k4]
  rw [if_neg k4, if_neg k4]
  by_cases k5 : k < 37
  · rw [if_pos k5, if_pos k5, (hT (by omega) k5).1, (hT (by omega) k5).2]
  rw [if_neg k5, if_neg k5]
  by_cases k6 : k < 85
  · rw [if_pos k6, if_pos k6, (hC (by omega) k6).1, (hC (by omega) k6).2.1, (hC (by omega) k6).2.2]
  rw [if_neg k6, if_neg k6]
  by_cases k7 : k < 117
  · rw [if_pos k7, if_pos k7, hD (by omega) k7]
  rw [if_neg k7, if_neg k7]
  by_cases k8 : k < 133
  · rw [if_pos k8, if_pos k8, hR (by omega) k8]
  rw [if_neg k8, if_neg k8]
  by_cases k9 : k = 133
  · rw [if_pos k9, if_pos k9, h5 k9]
  rw [if_neg k9, if_neg k9]
  by_cases k10 : k = 134
  · rw [if_pos k10, if_pos k10, h6 k10]
  rw [if_neg k10, if_neg k10, h7 (by omega)]

/-- While the specification copies: k timers and k registers are there. -/
def midV (v : MemV) (k : Nat) : MemV := ⟨0, 0, v.m / 4294967296 * 4294967296, v.s, 0, fun i => if i < k then v.tD i else false, fun i => if i < k then v.tC i else 0, v.cD, v.cL, v.cC, fun i => if i < 16 then 0 else if i < 16 + k then v.d i else 0, fun _ => 0, 0, false, false⟩

theorem mid_first (v : MemV) {u1 u2 : Value} (h1 : u1 = .int .u16 v.s) (h2 : u2 = .int .u64 ((v.m / 4294967296 * 4294967296 : Nat) : Int)) :
    Tryd.prog.built 37 [(3, u1), (2, u2), (6, .agg (rowOf (fCounter v.cD v.cL v.cC) 48))] = some (midV v 0).row := by
  subst h1 h2
  rw [built_mem, ← rowOf_mem, ← rowOf_mem, fill_row (off := 3) (n := 1) (g := fun _ => .int .u16 v.s) (by decide) rfl (by omega), fill_row (off := 2) (n := 1) (g := fun _ => .int .u64 ((v.m / 4294967296 * 4294967296 : Nat) : Int)) (by decide) rfl (by omega),
    fill_row (off := 37) (n := 48) (g := fCounter v.cD v.cL v.cC) (by decide) rfl (by omega), Instr.fill]
  congr 1

theorem mid_next (v : MemV) {k j : Nat} (hk : k < 16) (hj : j < 136) : (midV v (k + 1)).cell j = if j = 85 + (16 + k) then .int .i16 (v.d (16 + k)) else if j = 5 + k * 2 + 1 then .int .u16 (v.tC k) else if j = 5 + k * 2 then .bool (v.tD k) else (midV v k).cell j := by
  by_cases c1 : j = 85 + (16 + k)
  · rw [if_pos c1, c1, MemV.cell_d _ _ (by omega)]
    show Value.int .i16 (if 16 + k < 16 then 0 else if 16 + k < 16 + (k + 1) then v.d (16 + k) else 0) = _
    rw [if_neg (by omega), if_pos (by omega)]
  rw [if_neg c1]
  by_cases c2 : j = 5 + k * 2 + 1
  · rw [if_pos c2, c2, MemV.cell_tC _ _ hk]
    show Value.int .u16 ((if k < k + 1 then v.tC k else 0 : Nat) : Int) = _
    rw [if_pos (by omega)]
  rw [if_neg c2]
  by_cases c3 : j = 5 + k * 2
  · rw [if_pos c3, c3, MemV.cell_tD _ _ hk]
    show Value.bool (if k < k + 1 then v.tD k else false) = _
    rw [if_pos (by omega)]
  rw [if_neg c3]
  refine cell_same _ _ hj (fun _ => rfl) (fun _ => rfl) (fun _ => rfl) (fun _ => rfl) (fun _ => rfl) (fun h1 h2 => ?_) (fun _ _ => ⟨rfl, rfl, rfl⟩) (fun h1 h2 => ?_) (fun _ _ => rfl) (fun _ => rfl) (fun _ => rfl) (fun _ => rfl)
  · show (if (j - 5) / 2 < k + 1 then _ else _) = (if (j - 5) / 2 < k then _ else _) ∧ (if (j - 5) / 2 < k + 1 then _ else _) = (if (j - 5) / 2 < k then _ else _)
    by_cases h : (j - 5) / 2 < k
    · rw [if_pos h, if_pos h, if_pos (by omega), if_pos (by omega)]
      exact ⟨rfl, rfl⟩
    · rw [if_neg h, if_neg h, if_neg (by omega), if_neg (by omega)]
      exact ⟨rfl, rfl⟩
  · show (if j - 85 < 16 then _ else if j - 85 < 16 + (k + 1) then _ else _) = if j - 85 < 16 then _ else if j - 85 < 16 + k then _ else _
    by_cases h : j - 85 < 16
    · rw [if_pos h, if_pos h]
    · rw [if_neg h, if_neg h]
      by_cases h' : j - 85 < 16 + k
      · rw [if_pos h', if_pos (by omega)]
      · rw [if_neg h', if_neg (by omega)]

theorem mid_last (v : MemV) : (midV v 16).row = (keptV v).row := by
  have e : (List.range 136).map (midV v 16).cell = (List.range 136).map (keptV v).cell := List.map_congr_left fun k hk => by
    have hk := List.mem_range.1 hk
    refine cell_same _ _ hk (fun _ => rfl) (fun _ => rfl) (fun _ => rfl) (fun _ => rfl) (fun _ => rfl) (fun h1 h2 => ?_) (fun _ _ => ⟨rfl, rfl, rfl⟩) (fun h1 h2 => ?_) (fun _ _ => rfl) (fun _ => rfl) (fun _ => rfl) (fun _ => rfl)
    · show (if (k - 5) / 2 < 16 then _ else _) = _ ∧ (if (k - 5) / 2 < 16 then _ else _) = _
      rw [if_pos (by omega), if_pos (by omega)]
      exact ⟨rfl, rfl⟩
    · show (if k - 85 < 16 then _ else if k - 85 < 16 + 16 then _ else _) = if k - 85 < 16 then _ else _
      by_cases h : k - 85 < 16
      · rw [if_pos h, if_pos h]
      · rw [if_neg h, if_neg h, if_pos (by omega)]
  unfold MemV.row
  rw [e]

/-- Three cells are put. -/
theorem mid_put {v : MemV} {b k : Nat} {w : World} (hk : k < 16) (h : MemAt b (midV v k) w) :
    MemAt b (midV v (k + 1)) (((w.setCell ⟨b, 5 + k * 2, none⟩ (.bool (v.tD k))).setCell ⟨b, 5 + k * 2 + 1, none⟩ (.int .u16 (v.tC k))).setCell ⟨b, 85 + (16 + k), none⟩ (.int .i16 (v.d (16 + k)))) := by
  have h1 := h.rowAt.put (k := 5 + k * 2) (f' := fun j => if j = 5 + k * 2 then .bool (v.tD k) else (midV v k).cell j) (u := .bool (v.tD k)) (by omega) (if_pos rfl) (fun i _ hn => if_neg hn)
  have h2 := h1.put (k := 5 + k * 2 + 1) (f' := fun j => if j = 5 + k * 2 + 1 then .int .u16 (v.tC k) else if j = 5 + k * 2 then .bool (v.tD k) else (midV v k).cell j) (u := .int .u16 (v.tC k)) (by omega) (if_pos rfl) (fun i _ hn => if_neg hn)
  have h3 := h2.put (k := 85 + (16 + k)) (f' := fun j => if j = 85 + (16 + k) then .int .i16 (v.d (16 + k)) else if j = 5 + k * 2 + 1 then .int .u16 (v.tC k) else if j = 5 + k * 2 then .bool (v.tD k) else (midV v k).cell j) (u := .int .i16 (v.d (16 + k))) (by omega) (if_pos rfl) (fun i _ hn => if_neg hn)
  exact (h3.congr fun j hj => (mid_next v hk hj).symm).mem

/-- What is there while the specification copies. -/
structure Copying (v : MemV) (k : Nat) (w wr : World) : Prop where
  A : MemAt w.heap.size v wr
  R : MemAt (w.heap.size + 1) mem0 wr
  O : MemAt (w.heap.size + 1 + 1) (midV v k) wr
  B : Below w.heap.size w wr

theorem boxes0 (v : MemV) (w : World) : MemAt w.heap.size v ((w.alloc (.cells v.row 37)).alloc (.cells mem0.row 37)) ∧ MemAt (w.heap.size + 1 + 1) mem0 (((w.alloc (.cells v.row 37)).alloc (.cells mem0.row 37)).alloc (.cells mem0.row 37)) ∧ ∀ x : MemV,
    MemAt w.heap.size v ((((w.alloc (.cells v.row 37)).alloc (.cells mem0.row 37)).alloc (.cells mem0.row 37)).setCells (w.heap.size + 1 + 1) 0 x.row.toList) ∧
    MemAt (w.heap.size + 1) mem0 ((((w.alloc (.cells v.row 37)).alloc (.cells mem0.row 37)).alloc (.cells mem0.row 37)).setCells (w.heap.size + 1 + 1) 0 x.row.toList) ∧
    MemAt (w.heap.size + 1 + 1) x ((((w.alloc (.cells v.row 37)).alloc (.cells mem0.row 37)).alloc (.cells mem0.row 37)).setCells (w.heap.size + 1 + 1) 0 x.row.toList) ∧
    Below w.heap.size w ((((w.alloc (.cells v.row 37)).alloc (.cells mem0.row 37)).alloc (.cells mem0.row 37)).setCells (w.heap.size + 1 + 1) 0 x.row.toList) := by
  have h1 : ∀ (w : World) (o : Obj), Below w.heap.size w (w.alloc o) := fun w o => (Below.refl _ _).alloc (Nat.le_refl _) _
  have A1 := (MemAt.alloc v w 37).below (h1 _ (.cells mem0.row 37)) (by simp)
  have A2 := A1.below (h1 _ (.cells mem0.row 37)) (by simp; omega)
  have R1 := MemAt.alloc mem0 (w.alloc (.cells v.row 37)) 37
  rw [show (w.alloc (.cells v.row 37)).heap.size = w.heap.size + 1 by simp] at R1
  have R2 := R1.below (h1 _ (.cells mem0.row 37)) (by simp)
  have O2 := MemAt.alloc mem0 ((w.alloc (.cells v.row 37)).alloc (.cells mem0.row 37)) 37
  rw [show ((w.alloc (.cells v.row 37)).alloc (.cells mem0.row 37)).heap.size = w.heap.size + 1 + 1 by simp] at O2
  refine ⟨A1, O2, fun x => ⟨A2.other (by omega), R2.other (by omega), O2.stored x, setCells_below _ _ _ ((((Below.refl w.heap.size w).alloc (Nat.le_refl _) _).alloc (by simp) _).alloc (by simp; omega) _) (by omega)⟩⟩

end Go.Proofs.YtdhoimjkgicneabDoor

/- What is kept of a memory, as the specification says it: the walk. -/
namespace Go.Proofs.YtdhoimjkgicneabDoor
open Go Go.RowKit
attribute [local go_sem] zMemK
set_option maxRecDepth 100000 in
set_option maxHeartbeats 800000 in
theorem spec_kept (v : MemV) (w : World) (hv : v.Ok) :
    Calls Tryd.prog 12 #[.agg v.row] w fun e w' => e = .returned (.agg (keptV v).row) ∧ Below w.heap.size w w' := by
  obtain ⟨A1, O1, HB⟩ := boxes0 v w
  have C1 : Copying v 0 w _ := ⟨(HB (midV v 0)).1, (HB (midV v 0)).2.1, (HB (midV v 0)).2.2.1, (HB (midV v 0)).2.2.2⟩
  clear HB
  have HC : Hid (Copying v 0 w _) := C1
  clear C1
  have L1 := load_row aCounter sCounter A1.counters
  have L2 := store_mem (midV v 0) O1
  have c3 := A1.c 3 (by omega)
  rw [MemV.cell_s] at c3
  have c2 := A1.c 2 (by omega)
  rw [MemV.cell_m] at c2
  clear A1 O1
  obtain ⟨q, hq, q1⟩ : ∃ q : Nat, q = v.m / 4294967296 ∧ (v.m : Int) / 4294967296 = (q : Int) := ⟨_, rfl, by omega⟩
  have q2 : (q : Int) * 4294967296 % 18446744073709551616 = (q : Int) * 4294967296 := by have := hv.m; omega
  have q3 : IntKind.u64.wrap ((q : Int) * 4294967296) = (q : Int) * 4294967296 := by show (q : Int) * 4294967296 % 18446744073709551616 = _; exact q2
  have F := mid_first v (u1 := .int .u16 v.s) (u2 := .int .u64 ((q : Int) * 4294967296)) rfl (by rw [hq]; simp)
  clear hq
  go_enter Tryd.func12, Tryd.ntmps12
  go_wp2_with (first | refine list_load (t := 31) (x := .pointer (some ⟨w.heap.size, 37, none⟩)) (u := .agg (rowOf (fCounter v.cD v.cL v.cC) 48)) rfl rfl rfl L1 ?_ | refine list_build (t := 37) (cells := (midV v 0).row) (l := [(3, .int .u16 v.s), (2, .int .u64 ((q : Int) * 4294967296)), (6, .agg (rowOf (fCounter v.cD v.cL v.cC) 48))]) rfl rfl (by simp [Act.put, Act.eval]) F ?_ | refine list_store (t := 37) (x := .pointer (some ⟨w.heap.size + 1 + 1, 0, none⟩)) (u := .agg (midV v 0).row) rfl rfl rfl rfl L2 ?_)
  clear L1 L2 c2 c3 q1 q2 q3 F
  generalize (((w.alloc (.cells v.row 37)).alloc (.cells mem0.row 37)).alloc (.cells mem0.row 37)).setCells (w.heap.size + 1 + 1) 0 (midV v 0).row.toList = w1 at HC ⊢
  go_loopw [4] (fun iv wr => ∃ k : Nat, k ≤ 16 ∧ iv = .int .i64 k ∧ Copying v k w wr) (fun iv _ => 16 - (intOf iv).toNat)
  case atStart => exact ⟨0, by omega, rfl, HC.out⟩
  case round =>
    clear HC
    obtain ⟨k, hk, rfl, M⟩ := hrel
    have HM : Hid (Copying v k w wr) := M
    clear M
    by_cases hlt : k < 16
    · have hlt' : (k : Int) < 16 := by omega
      obtain ⟨n, hn, n1, n2⟩ : ∃ n : Nat, 16 + k = n ∧ (16 : Int) + (k : Int) = (n : Int) ∧ (n : Int) < 32 := ⟨16 + k, rfl, by omega, by omega⟩
      have c0 := HM.out.A.c (5 + k * 2) (by omega)
      rw [v.cell_tD k hlt] at c0
      have c1 := HM.out.A.c (5 + k * 2 + 1) (by omega)
      rw [v.cell_tC k hlt] at c1
      have c2 := HM.out.A.c (85 + n) (by omega)
      rw [v.cell_d n (by omega)] at c2
      obtain ⟨u0, d0⟩ : ∃ u, wr.cell? ⟨w.heap.size + 1 + 1, 5 + k * 2, none⟩ = some u := ⟨_, HM.out.O.c _ (by omega)⟩
      obtain ⟨u1, d1⟩ : ∃ u, wr.cell? ⟨w.heap.size + 1 + 1, 5 + k * 2 + 1, none⟩ = some u := ⟨_, HM.out.O.c _ (by omega)⟩
      obtain ⟨u2, d2⟩ : ∃ u, wr.cell? ⟨w.heap.size + 1 + 1, 85 + n, none⟩ = some u := ⟨_, HM.out.O.c _ (by omega)⟩
      have f0 := HM.out.O.f (5 + k * 2) (by omega)
      have f1 := HM.out.O.f (5 + k * 2 + 1) (by omega)
      have f2 := HM.out.O.f (85 + n) (by omega)
      have HN : Hid (Copying v (k + 1) w (((wr.setCell ⟨w.heap.size + 1 + 1, 5 + k * 2, none⟩ (.bool (v.tD k))).setCell ⟨w.heap.size + 1 + 1, 5 + k * 2 + 1, none⟩ (.int .u16 (v.tC k))).setCell ⟨w.heap.size + 1 + 1, 85 + n, none⟩ (.int .i16 (v.d n)))) := by
        have H := HM.out
        rw [← hn]
        exact ⟨((H.A.at_other (by omega)).at_other (by omega)).at_other (by omega), ((H.R.at_other (by omega)).at_other (by omega)).at_other (by omega), mid_put hlt H.O, ((H.B.setCell (by show _ ≤ w.heap.size + 1 + 1; omega) _).setCell (by show _ ≤ w.heap.size + 1 + 1; omega) _).setCell (by show _ ≤ w.heap.size + 1 + 1; omega) _⟩
      clear HM hn
      go_wp2_with fail
      go_roundw
      case rel => exact ⟨k + 1, by omega, by go_num, HN.out⟩
      case measure => simp [intOf]; omega
    · obtain rfl : k = 16 := by omega
      have O := HM.out.O
      have L9 := load_mem O
      have L10 := store_mem (midV v 16) HM.out.R
      have R3 := HM.out.R.stored (midV v 16)
      have B3 := setCells_below (midV v 16).row.toList (w.heap.size + 1) 0 HM.out.B (by omega)
      have HR : Hid (MemAt (w.heap.size + 1) (midV v 16) _ ∧ Below w.heap.size w _) := ⟨R3, B3⟩
      clear R3 B3 O HM
      go_wp2_with (first | (refine list_load (t := 37) (x := .pointer (some ⟨w.heap.size + 1 + 1, 0, none⟩)) (u := .agg (midV v 16).row) rfl rfl rfl L9 ?_) | refine list_store (t := 37) (x := .pointer (some ⟨w.heap.size + 1, 0, none⟩)) (u := .agg (midV v 16).row) rfl rfl rfl rfl L10 ?_)
      exact ret_mem (c := 2) rfl rfl rfl HR.out.1 ⟨by rw [mid_last], HR.out.2⟩

end Go.Proofs.YtdhoimjkgicneabDoor
