/- Texts of this proof laid together: DrawD, DrC, DrD. -/
import Derived.Test.YtdhoimjkgicneaaDoorLot16
import Derived.Test.YtdhoimjkgicneaaDoorLot4
import Derived.Deep.RegionWith
import Derived.Test.YtdhoimjkgicneaaDoorLot13
import Derived.Test.YtdhoimjkgicneaaDoorLot14
import Derived.Deep.RegionHeld
/- The draws of an operand and of a text, from a code. -/
namespace Go.Proofs.YtdhoimjkgicneaaDoor
open Go Go.RowKit

set_option maxHeartbeats 800000 in
theorem any_any (R c : Nat) (w : World) (h : Rd R c w) (hc : c ≤ 800) :
    Calls Tryd.prog 55 #[.pointer (some ⟨R, 0, none⟩)] w fun e w' => ∃ k n p : Int, e = .returned (.agg #[.int .i64 k, .int .i64 n, .int .i64 p]) ∧ Rd R (c + 10) w' ∧ Moved R w w' := by
  have hR := h.size
  go_enter Tryd.func55, Tryd.ntmps55
  go_wp2_with fail
  refine (pick_any R c 13 _ (h.alloc _) (by omega) (by omega)).mono ?_
  rintro e w1 ⟨x, rfl, x0, x1, -, rd1, mv1⟩
  have hx : x < 13 := x1 (by omega)
  clear x1 h
  go_wp2_with fail
  refine (arg_any R (c + 1) (1 + x) w1 rd1 (by omega)).mono ?_
  rintro e w2 ⟨k, n, p, rfl, rd2, mv2⟩
  have hR2 : R < w2.heap.size := rd2.size
  have M2 := mv1.trans mv2
  clear mv1 mv2 rd1
  go_wp2_with fail
  refine (pick_any R (c + 1 + 4) 20 _ (rd2.alloc _) (by omega) (by omega)).mono ?_
  rintro e w3 ⟨y, rfl, y0, -, -, rd3, mv3⟩
  clear rd2
  cases hy : y == 0 with
  | true =>
    obtain ⟨e0, e1, e2, g0, g1, g2, hz3, mv3'⟩ := boxM mv3 hR2
    go_wp2_with fail
    refine (spoilt_any R (c + 1 + 4 + 1) k n p _ rd3 (by omega)).mono ?_
    rintro e w4 ⟨k', n', p', rfl, rd4, mv4⟩
    obtain ⟨q0, q1, q2, f0, f1, f2, hz, mv5⟩ := boxM (M2.trans (mv3'.trans mv4)) hR
    have MV : Hid (Moved R w w4) := mv5
    have RD : Hid (Rd R (c + 1 + 4 + 1 + 2) w4) := rd4
    clear mv3 mv3' mv4 mv5 rd3 rd4 M2 e0 e1 e2 g0 g1 g2
    go_wp2
    exact bodyPost_ret (v := .agg #[.int .i64 k', .int .i64 n', .int .i64 p']) (by simp [results, Tryd.results55, go_sem, q0, q1, q2]) rfl ⟨k', n', p', rfl, set3 RD.out MV.out hR (by omega) _ (Nat.le_refl _) _ _ _⟩
  | false =>
    obtain ⟨e0, e1, e2, g0, g1, g2, hz3, mv3'⟩ := boxM mv3 hR2
    obtain ⟨q0, q1, q2, f0, f1, f2, hz, mv5⟩ := boxM (M2.trans mv3') hR
    have MV : Hid (Moved R w w3) := mv5
    have RD : Hid (Rd R (c + 1 + 4 + 1) w3) := rd3
    clear mv3 mv3' mv5 rd3 M2
    go_wp2
    exact bodyPost_ret (v := .agg #[.int .i64 k, .int .i64 n, .int .i64 p]) (by simp [results, Tryd.results55, go_sem, q0, q1, q2]) rfl ⟨k, n, p, rfl, set3 RD.out MV.out hR (by omega) _ (Nat.le_refl _) _ _ _⟩

set_option maxHeartbeats 400000 in
theorem draw_arg (v : Value) (w : World) (h : CodeAt v w) :
    Calls Tryd.prog 12 #[v] w fun e w' => ∃ k n p : Int, e = .returned (.agg #[.int .i64 k, .int .i64 n, .int .i64 p]) ∧ Below w.heap.size w w' := by
  have h' := h.below ((Below.refl w.heap.size w).alloc (Nat.le_refl _) (.cells #[.int .i64 0, .int .i64 0, .int .i64 0] 24))
  go_enter Tryd.func12, Tryd.ntmps12
  go_wp2_with fail
  refine (open_any v _ h').mono ?_
  rintro e w1 ⟨rfl, rd1, hb1⟩
  rw [show (w.alloc (.cells #[.int .i64 0, .int .i64 0, .int .i64 0] 24)).heap.size = w.heap.size + 1 from by simp] at rd1 hb1 ⊢
  go_wp2_with fail
  refine (any_any (w.heap.size + 1) 0 w1 rd1 (by omega)).mono ?_
  rintro e w2 ⟨k, n, p, rfl, rd2, mv2⟩
  have hs1 := hb1.size
  simp at hs1
  have hb2 : Below (w.heap.size + 1) (w.alloc (.cells #[.int .i64 0, .int .i64 0, .int .i64 0] 24)) w2 := hb1.trans (mv2.below (by omega) (Nat.le_refl _))
  have hb3 : Below (w.alloc (.cells #[.int .i64 0, .int .i64 0, .int .i64 0] 24)).heap.size (w.alloc (.cells #[.int .i64 0, .int .i64 0, .int .i64 0] 24)) w2 := by simpa using hb2
  obtain ⟨q0, q1, q2, hz, hb4⟩ := box3 hb3
  have f0 : w2.frozen? ⟨w.heap.size, 0, none⟩ = false := by rw [hb3.frozen (p := ⟨w.heap.size, 0, none⟩) (by simp)]; simp
  have f1 : w2.frozen? ⟨w.heap.size, 1, none⟩ = false := by rw [hb3.frozen (p := ⟨w.heap.size, 1, none⟩) (by simp)]; simp
  have f2 : w2.frozen? ⟨w.heap.size, 2, none⟩ = false := by rw [hb3.frozen (p := ⟨w.heap.size, 2, none⟩) (by simp)]; simp
  have HB : Hid (Below w.heap.size w w2) := hb4
  clear hb1 hb2 hb3 hb4 rd1 rd2 mv2 h h' hs1
  go_wp2
  exact bodyPost_ret (v := .agg #[.int .i64 k, .int .i64 n, .int .i64 p]) (by simp [results, Tryd.results12, go_sem, q0, q1, q2]) rfl ⟨k, n, p, rfl, ((HB.out.setCell (Nat.le_refl _) _).setCell (Nat.le_refl _) _).setCell (Nat.le_refl _) _⟩

end Go.Proofs.YtdhoimjkgicneaaDoor

/- Drawn operands, some beyond how many there are. -/
namespace Go.Proofs.YtdhoimjkgicneaaDoor
open Go Go.RowKit

theorem Moved.drew2 {R : Nat} {w w' : World} (h : Moved R w.drew w') : Moved R w w' := ⟨h.os, h.tape, h.output, h.size, h.block⟩

set_option maxHeartbeats 4000000 in
theorem asks_any (R c : Nat) (w : World) (h : Rd R c w) (hc : c ≤ 700) :
    Calls Tryd.prog 89 #[.pointer (some ⟨R, 0, none⟩)] w fun e w' => ∃ k n p : Int, e = .returned (.agg #[.int .i64 k, .int .i64 n, .int .i64 p]) ∧ Rd R (c + 12) w' ∧ Moved R w w' := by
  have hR := h.size
  go_enter Tryd.func89, Tryd.ntmps89
  go_wp2_with fail
  refine (any_any R c _ (h.alloc _) (by omega)).mono ?_
  rintro e w1 ⟨k, n, p, rfl, rd1, mv1⟩
  have hR1 := rd1.size
  clear h
  go_wp2_with fail
  refine (pick_any R (c + 10) 8 _ (rd1.alloc _) (by omega) (by omega)).mono ?_
  rintro e w2 ⟨y, rfl, y0, -, -, rd2, mv2⟩
  obtain ⟨e0, e1, e2, g0, g1, g2, hz2, mv2'⟩ := boxM mv2 hR1
  obtain ⟨q0, q1, q2, f0, f1, f2, hz, mv3⟩ := boxM (mv1.trans mv2') hR
  have hs1 : w.heap.size < w1.heap.size := by have := mv1.size; simp at this; omega
  have MV : Hid (Moved R w w2) := mv3
  have RD : Hid (Rd R (c + 10 + 1) w2) := rd2
  have M2 : Hid (Moved R (w.alloc (.cells #[.int .i64 0, .int .i64 0, .int .i64 0] 24)) w2) := mv1.trans mv2'
  clear mv1 mv2 mv2' mv3 rd1 rd2
  cases hy : y == 0 with
  | true =>
    have hn1 : w1.heap.size ≠ R := by omega
    have rdn : Rd R (c + 10 + 1) w2.drew := RD.out.drew
    go_wp2_with fail
    go_region_with (go_at_call 115; refine (num_lit R (c + 10 + 1) _ _ _ (by simp) rdn (by omega) (by simp) (by simp) (by simp) 5 rfl).mono ?_; rintro e w3 ⟨z, rfl, rd3, mv3⟩; have e1' : w3.cell? ⟨w1.heap.size, 1, none⟩ = some (.int .i64 n) := (mv3.cell (p := ⟨w1.heap.size, 1, none⟩) hz2 hn1).trans e1; have g1' : w3.frozen? ⟨w1.heap.size, 1, none⟩ = false := (mv3.frozen (p := ⟨w1.heap.size, 1, none⟩) hz2 hn1).trans g1)
    all_goals
      have hn0 : w.heap.size ≠ R := by omega
      have c0 : w3.cell? ⟨w1.heap.size, 0, none⟩ = some (.int .i64 k) := (mv3.cell (p := ⟨w1.heap.size, 0, none⟩) hz2 hn1).trans e0
      have c2 : w3.cell? ⟨w1.heap.size, 2, none⟩ = some (.int .i64 p) := (mv3.cell (p := ⟨w1.heap.size, 2, none⟩) hz2 hn1).trans e2
      have d0 := (mv3.cell (p := ⟨w.heap.size, 0, none⟩) hz hn0).trans q0
      have d1 := (mv3.cell (p := ⟨w.heap.size, 1, none⟩) hz hn0).trans q1
      have d2 := (mv3.cell (p := ⟨w.heap.size, 2, none⟩) hz hn0).trans q2
      have h0 := (mv3.frozen (p := ⟨w.heap.size, 0, none⟩) hz hn0).trans f0
      have h1 := (mv3.frozen (p := ⟨w.heap.size, 1, none⟩) hz hn0).trans f1
      have h2 := (mv3.frozen (p := ⟨w.heap.size, 2, none⟩) hz hn0).trans f2
      have MV3 : Hid (Moved R w w3) := MV.out.trans mv3.drew2
      have RD3 : Hid (Rd R (c + 10 + 1 + 1) w3) := rd3
      clear mv3 rd3 rdn e0 e1 e2 g0 g1 g2 q0 q1 q2 f0 f1 f2
      go_wp2
      exact bodyPost_ret (v := .agg #[.int .i64 k, .int .i64 (wrap64 (n + z)), .int .i64 p]) (by simp [results, Tryd.results89, go_sem, d0, d1, d2]) rfl ⟨k, _, p, rfl, set3 (RD3.out.setCell (by show R < w1.heap.size; omega) _) (MV3.out.setCell (by show w.heap.size ≤ w1.heap.size; omega) _) hR (by omega) _ (Nat.le_refl _) _ _ _⟩
  | false =>
    go_wp2
    exact bodyPost_ret (v := .agg #[.int .i64 k, .int .i64 n, .int .i64 p]) (by simp [results, Tryd.results89, go_sem, q0, q1, q2]) rfl ⟨k, n, p, rfl, set3 RD.out MV.out hR (by omega) _ (Nat.le_refl _) _ _ _⟩

end Go.Proofs.YtdhoimjkgicneaaDoor

/- Drawn memories with drawn operands. -/
namespace Go.Proofs.YtdhoimjkgicneaaDoor
open Go Go.RowKit

/-- A memory and an operand that are handed back out of the cells of their results. -/
theorem ret_pair {fn : Func} {R : Ending → World → Prop} {a : Act} {w : World} {b d c c' : Nat} {v : MemV} {x y z : Value} (hf : fn.results = #[.cell c 61, .cell c' 24]) (hc : a.tmps.getD c undef = .pointer (some ⟨b, 0, none⟩)) (hc' : a.tmps.getD c' undef = .pointer (some ⟨d, 0, none⟩))
    (hd : a.defers = []) (h : MemAt b v w) (g : ArgAt d x y z w) (hR : R (.returned (.tuple #[.agg v.row, .agg #[x, y, z]])) w) : bodyPost Tryd.prog fn R .ret a w := by
  refine ⟨hd, .tuple #[.agg v.row, .agg #[x, y, z]], ?_, hR⟩
  have hl : (loadVar 61 ⟨b, 0, none⟩).run Tryd.prog w = .ok (.agg v.row) w := by
    have := load_mem h
    simpa only [Instr.loadAt, Instr.sureAddr, Sem.run_bind, Sem.run_pure, Result.andThen] using this
  have hl' : (loadVar 24 ⟨d, 0, none⟩).run Tryd.prog w = .ok (.agg #[x, y, z]) w := by
    have := g.load
    simpa only [Instr.loadAt, Instr.sureAddr, Sem.run_bind, Sem.run_pure, Result.andThen] using this
  have e1 : a.tmps[c]?.getD undef = .pointer (some ⟨b, 0, none⟩) := by simpa using hc
  have e2 : a.tmps[c']?.getD undef = .pointer (some ⟨d, 0, none⟩) := by simpa using hc'
  simp [results, hf, e1, e2, asAddr, hl, hl']
theorem ret_three {fn : Func} {R : Ending → World → Prop} {a : Act} {w : World} {b d c c' c'' : Nat} {v : MemV} {x y z u : Value} (hf : fn.results = #[.cell c 61, .cell c' 24, .tmp c'']) (hc : a.tmps.getD c undef = .pointer (some ⟨b, 0, none⟩)) (hc' : a.tmps.getD c' undef = .pointer (some ⟨d, 0, none⟩)) (hu : a.tmps.getD c'' undef = u)
    (hd : a.defers = []) (h : MemAt b v w) (g : ArgAt d x y z w) (hR : R (.returned (.tuple #[.agg v.row, .agg #[x, y, z], u])) w) : bodyPost Tryd.prog fn R .ret a w := by
  refine ⟨hd, .tuple #[.agg v.row, .agg #[x, y, z], u], ?_, hR⟩
  have hl : (loadVar 61 ⟨b, 0, none⟩).run Tryd.prog w = .ok (.agg v.row) w := by
    have := load_mem h
    simpa only [Instr.loadAt, Instr.sureAddr, Sem.run_bind, Sem.run_pure, Result.andThen] using this
  have hl' : (loadVar 24 ⟨d, 0, none⟩).run Tryd.prog w = .ok (.agg #[x, y, z]) w := by
    have := g.load
    simpa only [Instr.loadAt, Instr.sureAddr, Sem.run_bind, Sem.run_pure, Result.andThen] using this
  have e1 : a.tmps[c]?.getD undef = .pointer (some ⟨b, 0, none⟩) := by simpa using hc
  have e2 : a.tmps[c']?.getD undef = .pointer (some ⟨d, 0, none⟩) := by simpa using hc'
  have e3 : a.tmps[c'']?.getD undef = u := by simpa using hu
  simp [results, hf, e1, e2, e3, asAddr, hl, hl']

/-- The two results' cells of nothing, and what comes behind. -/
structure Dz (R c : Nat) (w wr : World) : Prop where
  rd : Rd R c wr
  b : Below w.heap.size w wr
  m : MemAt w.heap.size mem0 wr
  g : ArgAt (w.heap.size + 1) (.int .i64 0) (.int .i64 0) (.int .i64 0) wr
  zR : w.heap.size + 1 < R

theorem Dz.call {R c c' : Nat} {w wr w2 : World} (h : Dz R c w wr) (rd : Rd R c' w2) (mv : Moved R wr w2) : Dz R c' w w2 := by
  have hz := h.zR
  exact ⟨rd, h.b.trans (mv.below h.b.size (by omega)), h.m.moved mv (by omega), h.g.moved mv (by omega), h.zR⟩
theorem Dz.alloc {R c : Nat} {w wr : World} (h : Dz R c w wr) (o : Obj) : Dz R c w (wr.alloc o) := h.call (h.rd.alloc o) (Moved.alloc R wr o)
theorem Dz.drew {R c : Nat} {w wr : World} (h : Dz R c w wr) : Dz R c w wr.drew := h.call h.rd.drew (Moved.refl R wr).drew

theorem dz_open {w w1 : World} {t1 t2 : TypeId} (rd : Rd ((w.alloc (.cells Tryd.zeroCells61 t1)).alloc (.cells #[.int .i64 0, .int .i64 0, .int .i64 0] t2)).heap.size 0 w1)
    (hb : Below ((w.alloc (.cells Tryd.zeroCells61 t1)).alloc (.cells #[.int .i64 0, .int .i64 0, .int .i64 0] t2)).heap.size ((w.alloc (.cells Tryd.zeroCells61 t1)).alloc (.cells #[.int .i64 0, .int .i64 0, .int .i64 0] t2)) w1) : Dz (w.heap.size + 1 + 1) 0 w w1 := by
  rw [zero_row] at rd hb
  have h1 : ∀ (w : World) (o : Obj), Below w.heap.size w (w.alloc o) := fun w o => (Below.refl _ _).alloc (Nat.le_refl _) _
  have e : ((w.alloc (.cells mem0.row t1)).alloc (.cells #[.int .i64 0, .int .i64 0, .int .i64 0] t2)).heap.size = w.heap.size + 1 + 1 := by simp
  have g := ArgAt.alloc (.int .i64 0) (.int .i64 0) (.int .i64 0) (w.alloc (.cells mem0.row t1)) t2
  have e2 : (w.alloc (.cells mem0.row t1)).heap.size = w.heap.size + 1 := by simp
  rw [e2] at g
  refine ⟨by rw [e] at rd; exact rd, (((Below.refl w.heap.size w).alloc (Nat.le_refl _) _).alloc (by simp) _).trans (hb.mono (by simp; omega)), ((MemAt.alloc mem0 w t1).below (h1 _ _) (by simp)).below hb (by simp; omega), g.below hb (by simp), by omega⟩

set_option maxRecDepth 100000 in
set_option maxHeartbeats 2000000 in
theorem draw_bit (v : Value) (w : World) (h : CodeAt v w) :
    Calls Tryd.prog 42 #[v] w fun e w' => ∃ (m : MemV) (k n p : Int), m.Ok ∧ e = .returned (.tuple #[.agg m.row, .agg #[.int .i64 k, .int .i64 n, .int .i64 p]]) ∧ Below w.heap.size w w' := by
  have h' : CodeAt v ((w.alloc (.cells Tryd.zeroCells61 61)).alloc (.cells #[.int .i64 0, .int .i64 0, .int .i64 0] 24)) := (h.below ((Below.refl w.heap.size w).alloc (Nat.le_refl _) _)).below ((Below.refl _ _).alloc (Nat.le_refl _) _)
  go_enter Tryd.func42, Tryd.ntmps42
  go_wp2_with fail
  refine (open_any v _ h').mono ?_
  rintro e w1 ⟨rfl, rd1, hb1⟩
  have D1 : Hid (Dz (w.heap.size + 1 + 1) 0 w w1) := dz_open rd1 hb1
  rw [show ((w.alloc (.cells Tryd.zeroCells61 61)).alloc (.cells #[.int .i64 0, .int .i64 0, .int .i64 0] 24)).heap.size = w.heap.size + 1 + 1 from by simp]
  clear rd1 hb1 h h'
  go_wp2_with fail
  refine (asks_any (w.heap.size + 1 + 1) 0 w1 D1.out.rd (by omega)).mono ?_
  rintro e w2 ⟨k, n, p, rfl, rd2, mv2⟩
  have D2 : Hid (Dz (w.heap.size + 1 + 1) 12 w w2) := D1.out.call rd2 mv2
  clear rd2 mv2 D1
  go_wp2_with fail
  have hz2 := D2.out.rd.size
  have A2 := (ArgAt.alloc (.int .i64 k) (.int .i64 n) (.int .i64 p) w2 24).drew
  have D3 : Hid (Dz (w.heap.size + 1 + 1) 12 w (w2.alloc (.cells #[.int .i64 k, .int .i64 n, .int .i64 p] 24)).drew) := (D2.out.alloc _).drew
  clear D2
  generalize (w2.alloc (.cells #[.int .i64 k, .int .i64 n, .int .i64 p] 24)) = w2a at A2 D3 ⊢
  generalize w2.heap.size = q2 at A2 hz2 ⊢
  refine wp_region_held (S := ArgAt q2 (.int .i64 k) (.int .i64 n) (.int .i64 p)) (by kernel_rfl) ?_
  refine held_any (fuel := 4) (i := 0) (v := .pointer (some ⟨w.heap.size + 1 + 1, 0, none⟩)) rfl (by kernel_rfl) (by kernel_rfl) (by kernel_rfl) rfl (fun _ _ _ h => h) (fun _ _ => rfl) A2 ?_
  go_simp
  refine held_load (fuel := 3) (i := 2) (t := 24) (v := .agg #[.int .i64 k, .int .i64 n, .int .i64 p]) rfl rfl rfl (by kernel_rfl) (by kernel_rfl) (by kernel_rfl) rfl (fun _ _ _ h => h) (fun w' hw' => hw'.load) A2 ?_
  go_simp
  refine wpAnyH_ready (rs := [1]) (by kernel_rfl) (by simp) ?_
  refine AllReadyH.cons rfl (fun K hK => ?_) AllReadyH.nil
  go_simp
  refine (draw_mem (w.heap.size + 1 + 1) 12 _ D3.out.rd (by omega)).mono ?_
  rintro e w3 ⟨m, hm, rfl, rd3, mv3⟩
  have A3 := A2.moved mv3 (by omega)
  have D4 : Hid (Dz (w.heap.size + 1 + 1) 212 w w3) := D3.out.call rd3 mv3
  clear rd3 mv3 D3 A2
  refine hK.out _ _ A3 (fun _ => ?_)
  clear hK K
  go_simp
  refine wpAnyH_ready (rs := [3]) (by kernel_rfl) (by simp) ?_
  refine AllReadyH.cons rfl (fun K hK => ?_) AllReadyH.nil
  rw [if_pos (by rfl)]
  have A4 := A3.other (c := w.heap.size) (o := 0) (vs := m.row.toList) (by omega)
  have M4 := D4.out.m.stored m
  have G4 := D4.out.g.other (c := w.heap.size) (o := 0) (vs := m.row.toList) (by omega)
  have B4 := setCells_below m.row.toList w.heap.size 0 D4.out.b (Nat.le_refl _)
  refine op_store rfl (store_mem m D4.out.m) ?_
  refine hK.out _ _ A4 (fun _ => ?_)
  clear hK K
  go_simp
  generalize w3.setCells w.heap.size 0 m.row.toList = w4 at A4 M4 G4 B4 ⊢
  have L5 := G4.store (x' := .int .i64 k) (y' := .int .i64 n) (z' := .int .i64 p) rfl rfl rfl
  refine wpAnyH_ready (rs := [4]) (by kernel_rfl) (by simp) ?_
  refine AllReadyH.cons rfl (fun K hK => ?_) AllReadyH.nil
  rw [if_pos (by rfl)]
  have A5 := A4.other (c := w.heap.size + 1) (o := 0) (vs := [.int .i64 k, .int .i64 n, .int .i64 p]) (by omega)
  have M5 := M4.other (c := w.heap.size + 1) (o := 0) (vs := [.int .i64 k, .int .i64 n, .int .i64 p]) (by omega)
  have G5 := G4.stored (.int .i64 k) (.int .i64 n) (.int .i64 p)
  have B5 := setCells_below [.int .i64 k, .int .i64 n, .int .i64 p] (w.heap.size + 1) 0 B4 (by omega)
  refine op_store rfl L5 ?_
  refine hK.out _ _ A5 (fun _ => ?_)
  clear hK K
  go_simp
  refine wpAnyH_done (by kernel_rfl) ?_ _
  go_wp2_with fail
  exact ret_pair (c := 2) (c' := 3) rfl rfl rfl rfl M5 G5 ⟨m, k, n, p, hm, rfl, B5⟩

end Go.Proofs.YtdhoimjkgicneaaDoor
