/- Texts of this proof laid together: RegH, DrD. -/
import Derived.Test.YtdhoimjkgicneaaDoorLot24
import Derived.Test.YtdhoimjkgicneaaDoorLot1
import Derived.Test.YtdhoimjkgicneaaDoorLot20
import Derived.Deep.RegionHeld
/- A region that draws its order, walked with a condition that is held: beside the memory's laws. -/

/- Drawn memories with drawn operands. -/
namespace Go.Proofs.YtdhoimjkgicneaaDoor
open Go Go.RowKit

theorem aArg : ∀ w, (isAgg 24).run Tryd.prog w = .ok true w := fun _ => by kernel_rfl
theorem sArg : ∀ w, (sizeOf 24).run Tryd.prog w = .ok 3 w := fun _ => by kernel_rfl

/-- Three cells of an operand. -/
structure ArgAt (b : Nat) (x y z : Value) (w : World) : Prop where
  lt : b < w.heap.size
  c0 : w.cell? ⟨b, 0, none⟩ = some x
  c1 : w.cell? ⟨b, 1, none⟩ = some y
  c2 : w.cell? ⟨b, 2, none⟩ = some z
  f0 : w.frozen? ⟨b, 0, none⟩ = false
  f1 : w.frozen? ⟨b, 1, none⟩ = false
  f2 : w.frozen? ⟨b, 2, none⟩ = false

theorem ArgAt.of_block {b : Nat} {x y z : Value} {w w' : World} (h : ArgAt b x y z w) (hb : w'.heap[b]? = w.heap[b]?) (hz : b < w'.heap.size) : ArgAt b x y z w' :=
  ⟨hz, (World.cell?_of_block (w := w) (a := ⟨b, 0, none⟩) hb).trans h.c0, (World.cell?_of_block (w := w) (a := ⟨b, 1, none⟩) hb).trans h.c1, (World.cell?_of_block (w := w) (a := ⟨b, 2, none⟩) hb).trans h.c2,
    (World.frozen?_of_block (w := w) (a := ⟨b, 0, none⟩) hb).trans h.f0, (World.frozen?_of_block (w := w) (a := ⟨b, 1, none⟩) hb).trans h.f1, (World.frozen?_of_block (w := w) (a := ⟨b, 2, none⟩) hb).trans h.f2⟩
theorem ArgAt.below {b B : Nat} {x y z : Value} {w w' : World} (h : ArgAt b x y z w) (hb : Below B w w') (hB : b < B) : ArgAt b x y z w' := h.of_block (hb.block b hB) (Nat.lt_of_lt_of_le h.lt hb.size)
theorem ArgAt.moved {R b : Nat} {x y z : Value} {w w' : World} (h : ArgAt b x y z w) (mv : Moved R w w') (hn : b ≠ R) : ArgAt b x y z w' := h.of_block (mv.block b h.lt hn) (Nat.lt_of_lt_of_le h.lt mv.size)
theorem ArgAt.drew {b : Nat} {x y z : Value} {w : World} (h : ArgAt b x y z w) : ArgAt b x y z w.drew := h.of_block rfl h.lt
theorem ArgAt.alloc (x y z : Value) (w : World) (t : TypeId) : ArgAt w.heap.size x y z (w.alloc (.cells #[x, y, z] t)) := ⟨by simp, by simp, by simp, by simp, by simp, by simp, by simp⟩
theorem ArgAt.other {b c o : Nat} {x y z : Value} {w : World} {vs : List Value} (h : ArgAt b x y z w) (hn : b ≠ c) : ArgAt b x y z (w.setCells c o vs) :=
  ⟨by rw [setCells_size]; exact h.lt, by rw [World.cell?_setCells_out c vs o w ⟨b, 0, none⟩ (fun e => absurd e hn)]; exact h.c0, by rw [World.cell?_setCells_out c vs o w ⟨b, 1, none⟩ (fun e => absurd e hn)]; exact h.c1,
    by rw [World.cell?_setCells_out c vs o w ⟨b, 2, none⟩ (fun e => absurd e hn)]; exact h.c2, by rw [setCells_frozen]; exact h.f0, by rw [setCells_frozen]; exact h.f1, by rw [setCells_frozen]; exact h.f2⟩

theorem ArgAt.load {b : Nat} {x y z : Value} {w : World} (h : ArgAt b x y z w) : (Instr.loadAt 24 (.pointer (some ⟨b, 0, none⟩))).run Tryd.prog w = .ok (.agg #[x, y, z]) w := by
  have hl : (loadCells ⟨b, 0, none⟩ 3).run Tryd.prog w = .ok #[x, y, z] w := run_loadCells (P := Tryd.prog) (w := w) ⟨b, 0, none⟩ 3 (fun i => if i = 0 then x else if i = 1 then y else z) (fun j hj => by
    have hj : j = 0 ∨ j = 1 ∨ j = 2 := by omega
    rcases hj with rfl | rfl | rfl
    · simpa [Addr.add] using h.c0
    · simpa [Addr.add] using h.c1
    · simpa [Addr.add] using h.c2)
  simp only [Instr.loadAt, Instr.sureAddr, Sem.run_bind, Sem.run_pure, Result.andThen, loadVar, aArg, sArg, if_true, hl]

theorem ArgAt.store {b : Nat} {x y z x' y' z' : Value} {w : World} (h : ArgAt b x y z w) (h1 : x'.oneCell' = true) (h2 : y'.oneCell' = true) (h3 : z'.oneCell' = true) :
    (Instr.storeAt 24 (.pointer (some ⟨b, 0, none⟩)) (.agg #[x', y', z'])).run Tryd.prog w = .ok () (w.setCells b 0 [x', y', z']) := by
  have := run_storeCells_cells (P := Tryd.prog) b 0 [x', y', z'] 0 w (fun j hj => by
    have hj : j = 0 ∨ j = 1 ∨ j = 2 := by simp at hj; omega
    rcases hj with rfl | rfl | rfl
    · simp [h.c0]
    · simp [h.c1]
    · simp [h.c2]) (fun j hj => by
    have hj : j = 0 ∨ j = 1 ∨ j = 2 := by simp at hj; omega
    rcases hj with rfl | rfl | rfl
    · simpa using h.f0
    · simpa using h.f1
    · simpa using h.f2) (by simp [h1, h2, h3])
  simp only [Instr.storeAt, Instr.sureAddr, Sem.run_bind, Sem.run_pure, Result.andThen, storeVar, sArg, Value.cells]
  simpa using this
theorem ArgAt.stored {b : Nat} {x y z : Value} {w : World} (x' y' z' : Value) (h : ArgAt b x y z w) : ArgAt b x' y' z' (w.setCells b 0 [x', y', z']) := by
  have hc : ∀ j, j < 3 → ((w.setCells b 0 [x', y', z']).cell? ⟨b, j, none⟩) = [x', y', z'][j]? := fun j hj => by
    have := World.cell?_setCells_in b [x', y', z'] 0 w (fun j hj => by
      have hj : j = 0 ∨ j = 1 ∨ j = 2 := by simp at hj; omega
      rcases hj with rfl | rfl | rfl
      · simp [h.c0]
      · simp [h.c1]
      · simp [h.c2]) j (by simpa using hj)
    rw [Nat.zero_add] at this
    rw [this]
    simp
  exact ⟨by rw [setCells_size]; exact h.lt, hc 0 (by omega), hc 1 (by omega), hc 2 (by omega), by rw [setCells_frozen]; exact h.f0, by rw [setCells_frozen]; exact h.f1, by rw [setCells_frozen]; exact h.f2⟩

/-- A memory and an operand that are handed back out of the cells of their results. -/
theorem ret_pair {fn : Func} {R : Ending → World → Prop} {a : Act} {w : World} {b d c c' : Nat} {v : MemV} {x y z : Value} (hf : fn.results = #[.cell c 61, .cell c' 24]) (hc : a.tmps.getD c undef = .pointer (some ⟨b, 0, none⟩)) (hc' : a.tmps.getD c' undef = .pointer (some ⟨d, 0, none⟩))
    (hd : a.defers = []) (h : MemAt b v w) (g : ArgAt d x y z w) (hR : R (.returned (.tuple #[.agg v.row, .agg #[x, y, z]])) w) : bodyPost Tryd.prog fn R .ret a w := by
  refine ⟨hd, .tuple #[.agg v.row, .agg #[x, y, z]], ?_, hR⟩
  have hl : (loadVar 61 ⟨b, 0, none⟩).run Tryd.prog w = .ok (.agg v.row) w := by
    have := load_mem h
    simpa only [Instr.loadAt, Instr.sureAddr, Sem.run_bind, Sem.run_pure, Result.andThen] using this
  have hl' : (loadVar 24 ⟨d, 0, none⟩).run Tryd.prog w = .ok (.agg #[x, y, z]) w := by
    have := g.load
    simpa only [Instr.loadAt, Instr.sureAddr, Sem.run_bind, Sem.run_pure, Result.andThen] using this
  have e1 : a.tmps[c]?.getD undef = .pointer (some ⟨b, 0, none⟩) := by simpa using hc
  have e2 : a.tmps[c']?.getD undef = .pointer (some ⟨d, 0, none⟩) := by simpa using hc'
  simp [results, hf, e1, e2, asAddr, hl, hl']
theorem ret_three {fn : Func} {R : Ending → World → Prop} {a : Act} {w : World} {b d c c' c'' : Nat} {v : MemV} {x y z u : Value} (hf : fn.results = #[.cell c 61, .cell c' 24, .tmp c'']) (hc : a.tmps.getD c undef = .pointer (some ⟨b, 0, none⟩)) (hc' : a.tmps.getD c' undef = .pointer (some ⟨d, 0, none⟩)) (hu : a.tmps.getD c'' undef = u)
    (hd : a.defers = []) (h : MemAt b v w) (g : ArgAt d x y z w) (hR : R (.returned (.tuple #[.agg v.row, .agg #[x, y, z], u])) w) : bodyPost Tryd.prog fn R .ret a w := by
  refine ⟨hd, .tuple #[.agg v.row, .agg #[x, y, z], u], ?_, hR⟩
  have hl : (loadVar 61 ⟨b, 0, none⟩).run Tryd.prog w = .ok (.agg v.row) w := by
    have := load_mem h
    simpa only [Instr.loadAt, Instr.sureAddr, Sem.run_bind, Sem.run_pure, Result.andThen] using this
  have hl' : (loadVar 24 ⟨d, 0, none⟩).run Tryd.prog w = .ok (.agg #[x, y, z]) w := by
    have := g.load
    simpa only [Instr.loadAt, Instr.sureAddr, Sem.run_bind, Sem.run_pure, Result.andThen] using this
  have e1 : a.tmps[c]?.getD undef = .pointer (some ⟨b, 0, none⟩) := by simpa using hc
  have e2 : a.tmps[c']?.getD undef = .pointer (some ⟨d, 0, none⟩) := by simpa using hc'
  have e3 : a.tmps[c'']?.getD undef = u := by simpa using hu
  simp [results, hf, e1, e2, e3, asAddr, hl, hl']

/-- The two results' cells of nothing, and what comes behind. -/
structure Dz (R c : Nat) (w wr : World) : Prop where
  rd : Rd R c wr
  b : Below w.heap.size w wr
  m : MemAt w.heap.size mem0 wr
  g : ArgAt (w.heap.size + 1) (.int .i64 0) (.int .i64 0) (.int .i64 0) wr
  zR : w.heap.size + 1 < R

theorem Dz.call {R c c' : Nat} {w wr w2 : World} (h : Dz R c w wr) (rd : Rd R c' w2) (mv : Moved R wr w2) : Dz R c' w w2 := by
  have hz := h.zR
  exact ⟨rd, h.b.trans (mv.below h.b.size (by omega)), h.m.moved mv (by omega), h.g.moved mv (by omega), h.zR⟩
theorem Dz.alloc {R c : Nat} {w wr : World} (h : Dz R c w wr) (o : Obj) : Dz R c w (wr.alloc o) := h.call (h.rd.alloc o) (Moved.alloc R wr o)
theorem Dz.drew {R c : Nat} {w wr : World} (h : Dz R c w wr) : Dz R c w wr.drew := h.call h.rd.drew (Moved.refl R wr).drew

theorem dz_open {w w1 : World} {t1 t2 : TypeId} (rd : Rd ((w.alloc (.cells Tryd.zeroCells61 t1)).alloc (.cells #[.int .i64 0, .int .i64 0, .int .i64 0] t2)).heap.size 0 w1)
    (hb : Below ((w.alloc (.cells Tryd.zeroCells61 t1)).alloc (.cells #[.int .i64 0, .int .i64 0, .int .i64 0] t2)).heap.size ((w.alloc (.cells Tryd.zeroCells61 t1)).alloc (.cells #[.int .i64 0, .int .i64 0, .int .i64 0] t2)) w1) : Dz (w.heap.size + 1 + 1) 0 w w1 := by
  rw [zero_row] at rd hb
  have h1 : ∀ (w : World) (o : Obj), Below w.heap.size w (w.alloc o) := fun w o => (Below.refl _ _).alloc (Nat.le_refl _) _
  have e : ((w.alloc (.cells mem0.row t1)).alloc (.cells #[.int .i64 0, .int .i64 0, .int .i64 0] t2)).heap.size = w.heap.size + 1 + 1 := by simp
  have g := ArgAt.alloc (.int .i64 0) (.int .i64 0) (.int .i64 0) (w.alloc (.cells mem0.row t1)) t2
  have e2 : (w.alloc (.cells mem0.row t1)).heap.size = w.heap.size + 1 := by simp
  rw [e2] at g
  refine ⟨by rw [e] at rd; exact rd, (((Below.refl w.heap.size w).alloc (Nat.le_refl _) _).alloc (by simp) _).trans (hb.mono (by simp; omega)), ((MemAt.alloc mem0 w t1).below (h1 _ _) (by simp)).below hb (by simp; omega), g.below hb (by simp), by omega⟩

set_option maxRecDepth 100000 in
set_option maxHeartbeats 2000000 in
theorem draw_bit (v : Value) (w : World) (h : CodeAt v w) :
    Calls Tryd.prog 42 #[v] w fun e w' => ∃ (m : MemV) (k n p : Int), m.Ok ∧ e = .returned (.tuple #[.agg m.row, .agg #[.int .i64 k, .int .i64 n, .int .i64 p]]) ∧ Below w.heap.size w w' := by
  have h' : CodeAt v ((w.alloc (.cells Tryd.zeroCells61 61)).alloc (.cells #[.int .i64 0, .int .i64 0, .int .i64 0] 24)) := (h.below ((Below.refl w.heap.size w).alloc (Nat.le_refl _) _)).below ((Below.refl _ _).alloc (Nat.le_refl _) _)
  go_enter Tryd.func42, Tryd.ntmps42
  go_wp2_with fail
  refine (open_any v _ h').mono ?_
  rintro e w1 ⟨rfl, rd1, hb1⟩
  have D1 : Hid (Dz (w.heap.size + 1 + 1) 0 w w1) := dz_open rd1 hb1
  rw [show ((w.alloc (.cells Tryd.zeroCells61 61)).alloc (.cells #[.int .i64 0, .int .i64 0, .int .i64 0] 24)).heap.size = w.heap.size + 1 + 1 from by simp]
  clear rd1 hb1 h h'
  go_wp2_with fail
  refine (asks_any (w.heap.size + 1 + 1) 0 w1 D1.out.rd (by omega)).mono ?_
  rintro e w2 ⟨k, n, p, rfl, rd2, mv2⟩
  have D2 : Hid (Dz (w.heap.size + 1 + 1) 12 w w2) := D1.out.call rd2 mv2
  clear rd2 mv2 D1
  go_wp2_with fail
  have hz2 := D2.out.rd.size
  have A2 := (ArgAt.alloc (.int .i64 k) (.int .i64 n) (.int .i64 p) w2 24).drew
  have D3 : Hid (Dz (w.heap.size + 1 + 1) 12 w (w2.alloc (.cells #[.int .i64 k, .int .i64 n, .int .i64 p] 24)).drew) := (D2.out.alloc _).drew
  clear D2
  generalize (w2.alloc (.cells #[.int .i64 k, .int .i64 n, .int .i64 p] 24)) = w2a at A2 D3 ⊢
  generalize w2.heap.size = q2 at A2 hz2 ⊢
  refine wp_region_held (S := ArgAt q2 (.int .i64 k) (.int .i64 n) (.int .i64 p)) (by kernel_rfl) ?_
  refine held_any (fuel := 4) (i := 0) (v := .pointer (some ⟨w.heap.size + 1 + 1, 0, none⟩)) rfl (by kernel_rfl) (by kernel_rfl) (by kernel_rfl) rfl (fun _ _ _ h => h) (fun _ _ => rfl) A2 ?_
  go_simp
  refine held_load (fuel := 3) (i := 2) (t := 24) (v := .agg #[.int .i64 k, .int .i64 n, .int .i64 p]) rfl rfl rfl (by kernel_rfl) (by kernel_rfl) (by kernel_rfl) rfl (fun _ _ _ h => h) (fun w' hw' => hw'.load) A2 ?_
  go_simp
  refine wpAnyH_ready (rs := [1]) (by kernel_rfl) (by simp) ?_
  refine AllReadyH.cons rfl (fun K hK => ?_) AllReadyH.nil
  go_simp
  refine (draw_mem (w.heap.size + 1 + 1) 12 _ D3.out.rd (by omega)).mono ?_
  rintro e w3 ⟨m, hm, rfl, rd3, mv3⟩
  have A3 := A2.moved mv3 (by omega)
  have D4 : Hid (Dz (w.heap.size + 1 + 1) 212 w w3) := D3.out.call rd3 mv3
  clear rd3 mv3 D3 A2
  refine hK.out _ _ A3 (fun _ => ?_)
  clear hK K
  go_simp
  refine wpAnyH_ready (rs := [3]) (by kernel_rfl) (by simp) ?_
  refine AllReadyH.cons rfl (fun K hK => ?_) AllReadyH.nil
  rw [if_pos (by rfl)]
  have A4 := A3.other (c := w.heap.size) (o := 0) (vs := m.row.toList) (by omega)
  have M4 := D4.out.m.stored m
  have G4 := D4.out.g.other (c := w.heap.size) (o := 0) (vs := m.row.toList) (by omega)
  have B4 := setCells_below m.row.toList w.heap.size 0 D4.out.b (Nat.le_refl _)
  refine op_store rfl (store_mem m D4.out.m) ?_
  refine hK.out _ _ A4 (fun _ => ?_)
  clear hK K
  go_simp
  generalize w3.setCells w.heap.size 0 m.row.toList = w4 at A4 M4 G4 B4 ⊢
  have L5 := G4.store (x' := .int .i64 k) (y' := .int .i64 n) (z' := .int .i64 p) rfl rfl rfl
  refine wpAnyH_ready (rs := [4]) (by kernel_rfl) (by simp) ?_
  refine AllReadyH.cons rfl (fun K hK => ?_) AllReadyH.nil
  rw [if_pos (by rfl)]
  have A5 := A4.other (c := w.heap.size + 1) (o := 0) (vs := [.int .i64 k, .int .i64 n, .int .i64 p]) (by omega)
  have M5 := M4.other (c := w.heap.size + 1) (o := 0) (vs := [.int .i64 k, .int .i64 n, .int .i64 p]) (by omega)
  have G5 := G4.stored (.int .i64 k) (.int .i64 n) (.int .i64 p)
  have B5 := setCells_below [.int .i64 k, .int .i64 n, .int .i64 p] (w.heap.size + 1) 0 B4 (by omega)
  refine op_store rfl L5 ?_
  refine hK.out _ _ A5 (fun _ => ?_)
  clear hK K
  go_simp
  refine wpAnyH_done (by kernel_rfl) ?_ _
  go_wp2_with fail
  exact ret_pair (c := 2) (c' := 3) rfl rfl rfl rfl M5 G5 ⟨m, k, n, p, hm, rfl, B5⟩

end Go.Proofs.YtdhoimjkgicneaaDoor
