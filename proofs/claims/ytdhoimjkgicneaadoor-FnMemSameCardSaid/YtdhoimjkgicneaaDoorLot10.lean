/- Texts of this proof laid together: DrB0, DevA, DevB0. -/
import Derived.Test.YtdhoimjkgicneaaDoorLot9
import Derived.Test.YtdhoimjkgicneaaDoorLot7
import Derived.Test.YtdhoimjkgicneaaDoorRows
import Derived.WalkKit
import Derived.WalkSpells
import Derived.WalkLawsBesides
import Derived.Test.YtdhoimjkgicneaaDoorLot3
import Derived.Deep.QuietTactic
import Derived.BigQuiet
/- A drawn memory: the draw ends, and hands back some memory. -/
namespace Go.Proofs.YtdhoimjkgicneaaDoor
open Go Go.RowKit

theorem mem0_ok : mem0.Ok := ⟨by decide, by decide, by decide, by decide, by decide, fun _ => (by decide : 0 < 65536), fun _ => (by decide : 0 < 65536), fun _ => (by decide : (-32768 : Int) ≤ 0), fun _ => (by decide : (0 : Int) ≤ 32767), fun _ => Nat.two_pow_pos 64, by decide⟩

/-- What is behind two memories of nothing. -/
theorem draw_boxes (R c : Nat) (w : World) (t1 t2 : TypeId) (h : Rd R c w) :
    MemAt (w.heap.size + 1) mem0 ((w.alloc (.cells Tryd.zeroCells61 t1)).alloc (.cells Tryd.zeroCells61 t2)) ∧
    Dr R c w (((w.alloc (.cells Tryd.zeroCells61 t1)).alloc (.cells Tryd.zeroCells61 t2)).setCells (w.heap.size + 1) 0 mem0.row.toList) := by
  rw [zero_row]
  have h1 : ∀ (w : World) (o : Obj), Below w.heap.size w (w.alloc o) := fun w o => (Below.refl _ _).alloc (Nat.le_refl _) _
  have hR := h.size
  have a0 : MemAt w.heap.size mem0 ((w.alloc (.cells mem0.row t1)).alloc (.cells mem0.row t2)) := (MemAt.alloc mem0 w t1).below (h1 _ _) (by simp)
  have a1 : MemAt (w.heap.size + 1) mem0 ((w.alloc (.cells mem0.row t1)).alloc (.cells mem0.row t2)) := by
    have := MemAt.alloc mem0 (w.alloc (.cells mem0.row t1)) t2
    simpa using this
  have b0 : Below w.heap.size w ((w.alloc (.cells mem0.row t1)).alloc (.cells mem0.row t2)) := ((Below.refl w.heap.size w).alloc (Nat.le_refl _) _).alloc (by simp) _
  have b1 := setCells_below mem0.row.toList (w.heap.size + 1) 0 b0 (by omega)
  exact ⟨a1, h.below b1, Moved.of_below b1 (Nat.le_refl _), ⟨mem0, mem0_ok, a1.stored mem0⟩, a0.other (by omega)⟩

theorem Rd.setCells : ∀ (vs : List Value) {R c b o : Nat} {w : World}, Rd R c w → R < b → Rd R c (w.setCells b o vs)
  | [], _, _, _, _, _, h, _ => h
  | u :: r, R, c, b, o, w, h, hb => by
    have : (w.setCells b o (u :: r)) = (w.setCell ⟨b, o, none⟩ u).setCells b (o + 1) r := rfl
    rw [this]
    exact Rd.setCells r (h.setCell (a := ⟨b, o, none⟩) hb u) hb
theorem Moved.setCells : ∀ (vs : List Value) {R b o : Nat} {w w' : World}, Moved R w w' → w.heap.size ≤ b → Moved R w (w'.setCells b o vs)
  | [], _, _, _, _, _, h, _ => h
  | u :: r, R, b, o, w, w', h, hb => by
    have : (w'.setCells b o (u :: r)) = (w'.setCell ⟨b, o, none⟩ u).setCells b (o + 1) r := rfl
    rw [this]
    exact Moved.setCells r (h.setCell (a := ⟨b, o, none⟩) hb u) hb

/-- What is left behind a draw of a memory. -/
def DrawnM (R c : Nat) (w : World) (e : Ending) (w' : World) : Prop := ∃ v : MemV, v.Ok ∧ e = .returned (.agg v.row) ∧ Rd R (c + 200) w' ∧ Moved R w w'

theorem drawnM_of {R c c' : Nat} {w wr : World} {v : MemV} (D : Dr R c' w wr) (hR : R < w.heap.size) (hv : v.Ok) (hc : c' ≤ c + 200) : DrawnM R c w (.returned (.agg v.row)) (wr.setCells w.heap.size 0 v.row.toList) :=
  ⟨v, hv, rfl, Rd.setCells _ (D.rd.mono hc) hR, Moved.setCells _ D.mv (Nat.le_refl _)⟩

set_option maxRecDepth 100000 in
set_option maxHeartbeats 4000000 in
theorem draw_mem (R c : Nat) (w : World) (h : Rd R c w) (hc : c ≤ 300) :
    Calls Tryd.prog 90 #[.pointer (some ⟨R, 0, none⟩)] w (DrawnM R c w) := by
  obtain ⟨a1, D0⟩ := draw_boxes R c w 61 61 h
  have hR := h.size
  have DH : Hid (Dr R c w _) := D0
  clear D0 h
  go_enter Tryd.func90, Tryd.ntmps90
  go_wp2_with (refine list_store (t := 61) rfl rfl rfl rfl (store_mem mem0 a1) ?_)
  clear a1
  refine (pick_any R (c) 16 _ DH.out.rd (by omega) (by omega)).mono ?_
  rintro e w1 ⟨x, rfl, x0, x1, -, rd, mv⟩
  have x2 : x < 16 := x1 (by omega)
  have DH : Hid (Dr R (c + 1) w w1) := DH.out.call hR rd mv
  clear rd mv x1
  cases hx : x == 0 with
  | true =>
    obtain ⟨v, hv, hA⟩ := DH.out.m
    have O := DH.out.o
    have hR3 := O.stored v
    have hD : DrawnM R c w _ _ := drawnM_of DH.out hR hv (show c + 1 ≤ c + 200 by omega)
    go_wp2_with (first | refine list_load (t := 61) rfl rfl rfl (load_mem hA) ?_ | refine list_store (t := 61) rfl rfl rfl rfl (store_mem v O) ?_)
    exact ret_mem (c := 2) rfl rfl rfl hR3 hD
  | false =>
    go_wp2_with fail
    refine (word_all R (c + 1) _ DH.out.rd (by omega)).mono ?_
    rintro e w2 ⟨z, rfl, z0, z1, rd, mv⟩
    have DH : Hid (Dr R (c + 1 + 8) w w2) := DH.out.call hR rd mv
    clear rd mv
    obtain ⟨u0, hu0⟩ := DH.out.m.c (k := 0) (by omega)
    have hf0 := DH.out.m.f (k := 0) (by omega)
    have DH : Hid (Dr R (c + 1 + 8) w (w2.setCell ⟨w.heap.size + 1, 0, none⟩ (.int .u32 (IntKind.u32.wrap z)))) := (DH.out.set hR (k := 0) (by omega) (fit_u32 (by omega) z))
    go_wp2_with fail
    clear hu0 hf0 u0 z0 z1
    refine (word_all R (c + 1 + 8) _ DH.out.rd (by omega)).mono ?_
    rintro e w3 ⟨z, rfl, z0, z1, rd, mv⟩
    have DH : Hid (Dr R (c + 1 + 8 + 8) w w3) := DH.out.call hR rd mv
    clear rd mv
    obtain ⟨u0, hu0⟩ := DH.out.m.c (k := 1) (by omega)
    have hf0 := DH.out.m.f (k := 1) (by omega)
    have DH : Hid (Dr R (c + 1 + 8 + 8) w (w3.setCell ⟨w.heap.size + 1, 1, none⟩ (.int .u32 (IntKind.u32.wrap z)))) := (DH.out.set hR (k := 1) (by omega) (fit_u32 (by omega) z))
    go_wp2_with fail
    clear hu0 hf0 u0 z0 z1
    refine (word_all R (c + 1 + 8 + 8) _ DH.out.rd (by omega)).mono ?_
    rintro e w4 ⟨z, rfl, z0, z1, rd, mv⟩
    have DH : Hid (Dr R (c + 1 + 8 + 8 + 8) w w4) := DH.out.call hR rd mv
    clear rd mv
    obtain ⟨u0, hu0⟩ := DH.out.m.c (k := 2) (by omega)
    have hf0 := DH.out.m.f (k := 2) (by omega)
    have DH : Hid (Dr R (c + 1 + 8 + 8 + 8) w (w4.setCell ⟨w.heap.size + 1, 2, none⟩ (.int .u64 z))) := (DH.out.set hR (k := 2) (by omega) (fit_u64 z0 z1))
    go_wp2_with fail
    clear hu0 hf0 u0 z0 z1
    refine (word_all R (c + 1 + 8 + 8 + 8) _ DH.out.rd (by omega)).mono ?_
    rintro e w5 ⟨z, rfl, z0, z1, rd, mv⟩
    have DH : Hid (Dr R (c + 1 + 8 + 8 + 8 + 8) w w5) := DH.out.call hR rd mv
    clear rd mv
    obtain ⟨u0, hu0⟩ := DH.out.m.c (k := 3) (by omega)
    have hf0 := DH.out.m.f (k := 3) (by omega)
    have DH : Hid (Dr R (c + 1 + 8 + 8 + 8 + 8) w (w5.setCell ⟨w.heap.size + 1, 3, none⟩ (.int .u16 (IntKind.u16.wrap z)))) := (DH.out.set hR (k := 3) (by omega) (fit_u16 z))
    go_wp2_with fail
    clear hu0 hf0 u0 z0 z1
    refine (word_all R (c + 1 + 8 + 8 + 8 + 8) _ DH.out.rd (by omega)).mono ?_
    rintro e w6 ⟨z, rfl, z0, z1, rd, mv⟩
    have DH : Hid (Dr R (c + 1 + 8 + 8 + 8 + 8 + 8) w w6) := DH.out.call hR rd mv
    clear rd mv
    obtain ⟨u0, hu0⟩ := DH.out.m.c (k := 4) (by omega)
    have hf0 := DH.out.m.f (k := 4) (by omega)
    have DH : Hid (Dr R (c + 1 + 8 + 8 + 8 + 8 + 8) w (w6.setCell ⟨w.heap.size + 1, 4, none⟩ (.int .u32 (IntKind.u32.wrap z)))) := (DH.out.set hR (k := 4) (by omega) (fit_u32 (by omega) z))
    go_wp2_with fail
    clear hu0 hf0 u0 z0 z1
    go_loopw [4, 5] (fun i j wr => ∃ k : Nat, k ≤ 4 ∧ i = .int .i64 k ∧ Dr R (c + 41 + 25 * k) w wr) (fun i _ _ => 4 - (intOf i).toNat)
    case atStart => exact ⟨0, by omega, rfl, DH.out⟩
    case round =>
      clear DH
      obtain ⟨k, hk, rfl, D⟩ := hrel
      have DH : Hid (Dr R (c + 41 + 25 * k) w wr) := D
      clear D
      by_cases hlt : k < 4
      · go_wp2_with fail
        refine (pick_any R (c + 41 + 25 * k) 4 _ DH.out.rd (by omega) (by omega)).mono ?_
        rintro e v1 ⟨y, rfl, y0, y1, -, rd, mv⟩
        have y2 : y < 4 := y1 (by omega)
        have DH : Hid (Dr R (c + 41 + 25 * k + 1) w v1) := DH.out.call hR rd mv
        clear rd mv y1
        by_cases h3 : k = 3
        · subst h3
          go_wp2_with fail
          clear y0 y2
          refine (pick_any R (c + 41 + 25 * 3 + 1) 16 _ DH.out.rd (by omega) (by omega)).mono ?_
          rintro e v2 ⟨y, rfl, y0, y1, -, rd, mv⟩
          have y2 : y < 16 := y1 (by omega)
          have DH : Hid (Dr R (c + 41 + 25 * 3 + 1 + 1) w v2) := DH.out.call hR rd mv
          clear rd mv y1
          obtain ⟨j, rfl⟩ : ∃ j : Nat, y = j := ⟨y.toNat, by omega⟩
          have hj : j < 16 := by omega
          go_wp2_with fail
          refine (pick_any R (c + 41 + 25 * 3 + 1 + 1) 2 _ DH.out.rd (by omega) (by omega)).mono ?_
          rintro e v3 ⟨p, rfl, p0, p1, -, rd, mv⟩
          have p2 : p < 2 := p1 (by omega)
          have DH : Hid (Dr R (c + 41 + 25 * 3 + 1 + 1 + 1) w v3) := DH.out.call hR rd mv
          clear rd mv p1
          go_wp2_with fail
          refine (num_lit R (c + 41 + 25 * 3 + 1 + 1 + 1) _ _ _ (by simp) DH.out.rd (by omega) (by simp) (by simp) (by simp) 7 rfl).mono ?_
          rintro e v4 ⟨z, rfl, rd, mv⟩
          have DH : Hid (Dr R (c + 41 + 25 * 3 + 1 + 1 + 1 + 1) w v4) := DH.out.call hR rd mv
          clear rd mv
          obtain ⟨u0, hu0⟩ := DH.out.m.c (k := 5 + j * 2) (by omega)
          have hf0 := DH.out.m.f (k := 5 + j * 2) (by omega)
          obtain ⟨u1, hu1⟩ := DH.out.m.c (k := 5 + j * 2 + 1) (by omega)
          have hf1 := DH.out.m.f (k := 5 + j * 2 + 1) (by omega)
          have DH : Hid (Dr R (c + 41 + 25 * 3 + 1 + 1 + 1 + 1) w ((v4.setCell ⟨w.heap.size + 1, 5 + j * 2, none⟩ (.bool (p == 1))).setCell ⟨w.heap.size + 1, 5 + j * 2 + 1, none⟩ (.int .u16 (IntKind.u16.wrap z)))) := ((DH.out.set hR (k := 5 + j * 2) (by omega) (fit_tD hj _)).set hR (k := 5 + j * 2 + 1) (by omega) (fit_tC hj z))
          go_wp2_with fail
          clear hu0 hf0 u0 hu1 hf1 u1
          refine (pick_any R (c + 41 + 25 * 3 + 1 + 1 + 1 + 1) 2 _ DH.out.rd (by omega) (by omega)).mono ?_
          rintro e v5 ⟨q, rfl, q0, q1, -, rd, mv⟩
          have q2 : q < 2 := q1 (by omega)
          have DH : Hid (Dr R (c + 41 + 25 * 3 + 1 + 1 + 1 + 1 + 1) w v5) := DH.out.call hR rd mv
          clear rd mv q1
          go_wp2_with fail
          refine (pick_any R (c + 41 + 25 * 3 + 1 + 1 + 1 + 1 + 1) 2 _ DH.out.rd (by omega) (by omega)).mono ?_
          rintro e v6 ⟨o, rfl, o0, o1, -, rd, mv⟩
          have o2 : o < 2 := o1 (by omega)
          have DH : Hid (Dr R (c + 41 + 25 * 3 + 1 + 1 + 1 + 1 + 1 + 1) w v6) := DH.out.call hR rd mv
          clear rd mv o1
          go_wp2_with fail
          refine (num_lit R (c + 41 + 25 * 3 + 1 + 1 + 1 + 1 + 1 + 1) _ _ _ (by simp) DH.out.rd (by omega) (by simp) (by simp) (by simp) 7 rfl).mono ?_
          rintro e v7 ⟨z, rfl, rd, mv⟩
          have DH : Hid (Dr R (c + 41 + 25 * 3 + 1 + 1 + 1 + 1 + 1 + 1 + 1) w v7) := DH.out.call hR rd mv
          clear rd mv
          obtain ⟨u0, hu0⟩ := DH.out.m.c (k := 37 + j * 3) (by omega)
          have hf0 := DH.out.m.f (k := 37 + j * 3) (by omega)
          obtain ⟨u1, hu1⟩ := DH.out.m.c (k := 37 + j * 3 + 1) (by omega)
          have hf1 := DH.out.m.f (k := 37 + j * 3 + 1) (by omega)
          obtain ⟨u2, hu2⟩ := DH.out.m.c (k := 37 + j * 3 + 2) (by omega)
          have hf2 := DH.out.m.f (k := 37 + j * 3 + 2) (by omega)
          have DH : Hid (Dr R (c + 41 + 25 * 3 + 1 + 1 + 1 + 1 + 1 + 1 + 1) w (((v7.setCell ⟨w.heap.size + 1, 37 + j * 3, none⟩ (.bool (q == 1))).setCell ⟨w.heap.size + 1, 37 + j * 3 + 1, none⟩ (.bool (o == 1))).setCell ⟨w.heap.size + 1, 37 + j * 3 + 2, none⟩ (.int .u16 (IntKind.u16.wrap z)))) := (((DH.out.set hR (k := 37 + j * 3) (by omega) (fit_cD hj _)).set hR (k := 37 + j * 3 + 1) (by omega) (fit_cL hj _)).set hR (k := 37 + j * 3 + 2) (by omega) (fit_cC hj z))
          go_wp2_with fail
          clear hu0 hf0 u0 hu1 hf1 u1 hu2 hf2 u2
          refine (whole_any R (c + 41 + 25 * 3 + 1 + 1 + 1 + 1 + 1 + 1 + 1) _ DH.out.rd (by omega)).mono ?_
          rintro e v8 ⟨z, rfl, z0, z1, rd, mv⟩
          have DH : Hid (Dr R (c + 41 + 25 * 3 + 1 + 1 + 1 + 1 + 1 + 1 + 1 + 2) w v8) := DH.out.call hR rd mv
          clear rd mv
          obtain ⟨u0, hu0⟩ := DH.out.m.c (k := 85 + j) (by omega)
          have hf0 := DH.out.m.f (k := 85 + j) (by omega)
          have DH : Hid (Dr R (c + 41 + 25 * 3 + 1 + 1 + 1 + 1 + 1 + 1 + 1 + 2) w (v8.setCell ⟨w.heap.size + 1, 85 + j, none⟩ (.int .i16 z))) := (DH.out.set hR (k := 85 + j) (by omega) (fit_d (by omega) z0 z1))
          go_wp2_with fail
          clear hu0 hf0 u0 z0 z1
          refine (real_all R (c + 41 + 25 * 3 + 1 + 1 + 1 + 1 + 1 + 1 + 1 + 2) _ DH.out.rd (by omega)).mono ?_
          rintro e v9 ⟨z, rfl, z1, rd, mv⟩
          have DH : Hid (Dr R (c + 41 + 25 * 3 + 1 + 1 + 1 + 1 + 1 + 1 + 1 + 2 + 12) w v9) := DH.out.call hR rd mv
          clear rd mv
          obtain ⟨u0, hu0⟩ := DH.out.m.c (k := 117 + j) (by omega)
          have hf0 := DH.out.m.f (k := 117 + j) (by omega)
          have s0 := store_float (z := z) hu0 hf0
          have DH : Hid (Dr R (c + 41 + 25 * 3 + 1 + 1 + 1 + 1 + 1 + 1 + 1 + 2 + 12) w (v9.setCell ⟨w.heap.size + 1, 117 + j, none⟩ (.float .f64 z))) := (DH.out.set hR (k := 117 + j) (by omega) (fit_r hj z1))
          clear z1
          go_wp2_with fail
          go_roundw
          case rel => exact ⟨4, by omega, by go_num, DH.out.mono (by omega)⟩
          case measure => simp [intOf]
        · have y3 : y < 16 := by omega
          have hk3 : ((k : Int) == 3) = false := by simp; omega
          obtain ⟨j, rfl⟩ : ∃ j : Nat, y = j := ⟨y.toNat, by omega⟩
          have hj : j < 16 := by omega
          go_wp2_with fail
          refine (pick_any R (c + 41 + 25 * k + 1) 2 _ DH.out.rd (by omega) (by omega)).mono ?_
          rintro e v3 ⟨p, rfl, p0, p1, -, rd, mv⟩
          have p2 : p < 2 := p1 (by omega)
          have DH : Hid (Dr R (c + 41 + 25 * k + 1 + 1) w v3) := DH.out.call hR rd mv
          clear rd mv p1
          go_wp2_with fail
          refine (num_lit R (c + 41 + 25 * k + 1 + 1) _ _ _ (by simp) DH.out.rd (by omega) (by simp) (by simp) (by simp) 7 rfl).mono ?_
          rintro e v4 ⟨z, rfl, rd, mv⟩
          have DH : Hid (Dr R (c + 41 + 25 * k + 1 + 1 + 1) w v4) := DH.out.call hR rd mv
          clear rd mv
          obtain ⟨u0, hu0⟩ := DH.out.m.c (k := 5 + j * 2) (by omega)
          have hf0 := DH.out.m.f (k := 5 + j * 2) (by omega)
          obtain ⟨u1, hu1⟩ := DH.out.m.c (k := 5 + j * 2 + 1) (by omega)
          have hf1 := DH.out.m.f (k := 5 + j * 2 + 1) (by omega)
          have DH : Hid (Dr R (c + 41 + 25 * k + 1 + 1 + 1) w ((v4.setCell ⟨w.heap.size + 1, 5 + j * 2, none⟩ (.bool (p == 1))).setCell ⟨w.heap.size + 1, 5 + j * 2 + 1, none⟩ (.int .u16 (IntKind.u16.wrap z)))) := ((DH.out.set hR (k := 5 + j * 2) (by omega) (fit_tD hj _)).set hR (k := 5 + j * 2 + 1) (by omega) (fit_tC hj z))
          go_wp2_with fail
          clear hu0 hf0 u0 hu1 hf1 u1
          refine (pick_any R (c + 41 + 25 * k + 1 + 1 + 1) 2 _ DH.out.rd (by omega) (by omega)).mono ?_
          rintro e v5 ⟨q, rfl, q0, q1, -, rd, mv⟩
          have q2 : q < 2 := q1 (by omega)
          have DH : Hid (Dr R (c + 41 + 25 * k + 1 + 1 + 1 + 1) w v5) := DH.out.call hR rd mv
          clear rd mv q1
          go_wp2_with fail
          refine (pick_any R (c + 41 + 25 * k + 1 + 1 + 1 + 1) 2 _ DH.out.rd (by omega) (by omega)).mono ?_
          rintro e v6 ⟨o, rfl, o0, o1, -, rd, mv⟩
          have o2 : o < 2 := o1 (by omega)
          have DH : Hid (Dr R (c + 41 + 25 * k + 1 + 1 + 1 + 1 + 1) w v6) := DH.out.call hR rd mv
          clear rd mv o1
          go_wp2_with fail
          refine (num_lit R (c + 41 + 25 * k + 1 + 1 + 1 + 1 + 1) _ _ _ (by simp) DH.out.rd (by omega) (by simp) (by simp) (by simp) 7 rfl).mono ?_
          rintro e v7 ⟨z, rfl, rd, mv⟩
          have DH : Hid (Dr R (c + 41 + 25 * k + 1 + 1 + 1 + 1 + 1 + 1) w v7) := DH.out.call hR rd mv
          clear rd mv
          obtain ⟨u0, hu0⟩ := DH.out.m.c (k := 37 + j * 3) (by omega)
          have hf0 := DH.out.m.f (k := 37 + j * 3) (by omega)
          obtain ⟨u1, hu1⟩ := DH.out.m.c (k := 37 + j * 3 + 1) (by omega)
          have hf1 := DH.out.m.f (k := 37 + j * 3 + 1) (by omega)
          obtain ⟨u2, hu2⟩ := DH.out.m.c (k := 37 + j * 3 + 2) (by omega)
          have hf2 := DH.out.m.f (k := 37 + j * 3 + 2) (by omega)
          have DH : Hid (Dr R (c + 41 + 25 * k + 1 + 1 + 1 + 1 + 1 + 1) w (((v7.setCell ⟨w.heap.size + 1, 37 + j * 3, none⟩ (.bool (q == 1))).setCell ⟨w.heap.size + 1, 37 + j * 3 + 1, none⟩ (.bool (o == 1))).setCell ⟨w.heap.size + 1, 37 + j * 3 + 2, none⟩ (.int .u16 (IntKind.u16.wrap z)))) := (((DH.out.set hR (k := 37 + j * 3) (by omega) (fit_cD hj _)).set hR (k := 37 + j * 3 + 1) (by omega) (fit_cL hj _)).set hR (k := 37 + j * 3 + 2) (by omega) (fit_cC hj z))
          go_wp2_with fail
          clear hu0 hf0 u0 hu1 hf1 u1 hu2 hf2 u2
          refine (whole_any R (c + 41 + 25 * k + 1 + 1 + 1 + 1 + 1 + 1) _ DH.out.rd (by omega)).mono ?_
          rintro e v8 ⟨z, rfl, z0, z1, rd, mv⟩
          have DH : Hid (Dr R (c + 41 + 25 * k + 1 + 1 + 1 + 1 + 1 + 1 + 2) w v8) := DH.out.call hR rd mv
          clear rd mv
          obtain ⟨u0, hu0⟩ := DH.out.m.c (k := 85 + j) (by omega)
          have hf0 := DH.out.m.f (k := 85 + j) (by omega)
          have DH : Hid (Dr R (c + 41 + 25 * k + 1 + 1 + 1 + 1 + 1 + 1 + 2) w (v8.setCell ⟨w.heap.size + 1, 85 + j, none⟩ (.int .i16 z))) := (DH.out.set hR (k := 85 + j) (by omega) (fit_d (by omega) z0 z1))
          go_wp2_with fail
          clear hu0 hf0 u0 z0 z1
          refine (real_all R (c + 41 + 25 * k + 1 + 1 + 1 + 1 + 1 + 1 + 2) _ DH.out.rd (by omega)).mono ?_
          rintro e v9 ⟨z, rfl, z1, rd, mv⟩
          have DH : Hid (Dr R (c + 41 + 25 * k + 1 + 1 + 1 + 1 + 1 + 1 + 2 + 12) w v9) := DH.out.call hR rd mv
          clear rd mv
          obtain ⟨u0, hu0⟩ := DH.out.m.c (k := 117 + j) (by omega)
          have hf0 := DH.out.m.f (k := 117 + j) (by omega)
          have s0 := store_float (z := z) hu0 hf0
          have DH : Hid (Dr R (c + 41 + 25 * k + 1 + 1 + 1 + 1 + 1 + 1 + 2 + 12) w (v9.setCell ⟨w.heap.size + 1, 117 + j, none⟩ (.float .f64 z))) := (DH.out.set hR (k := 117 + j) (by omega) (fit_r hj z1))
          clear z1
          go_wp2_with fail
          go_roundw
          case rel => exact ⟨k + 1, by omega, by go_num, DH.out.mono (by omega)⟩
          case measure => simp [intOf]; omega
      · have e : k = 4 := by omega
        subst e
        go_wp2_with fail
        refine (pick_any R (c + 41 + 25 * 4) 32 _ DH.out.rd (by omega) (by omega)).mono ?_
        rintro e v1 ⟨y, rfl, y0, y1, -, rd, mv⟩
        have y2 : y < 32 := y1 (by omega)
        have DH : Hid (Dr R (c + 41 + 25 * 4 + 1) w v1) := DH.out.call hR rd mv
        clear rd mv y1
        obtain ⟨j, rfl⟩ : ∃ j : Nat, y = j := ⟨y.toNat, by omega⟩
        have hj : j < 32 := by omega
        go_wp2_with fail
        refine (whole_any R (c + 41 + 25 * 4 + 1) _ DH.out.rd (by omega)).mono ?_
        rintro e v2 ⟨z, rfl, z0, z1, rd, mv⟩
        have DH : Hid (Dr R (c + 41 + 25 * 4 + 1 + 2) w v2) := DH.out.call hR rd mv
        clear rd mv
        obtain ⟨u0, hu0⟩ := DH.out.m.c (k := 85 + j) (by omega)
        have hf0 := DH.out.m.f (k := 85 + j) (by omega)
        have DH : Hid (Dr R (c + 41 + 25 * 4 + 1 + 2) w (v2.setCell ⟨w.heap.size + 1, 85 + j, none⟩ (.int .i16 z))) := (DH.out.set hR (k := 85 + j) (by omega) (fit_d hj z0 z1))
        go_wp2_with fail
        clear hu0 hf0 u0 z0 z1 hj y0 y2
        refine (pick_any R (c + 41 + 25 * 4 + 1 + 2) 16 _ DH.out.rd (by omega) (by omega)).mono ?_
        rintro e v3 ⟨o, rfl, o0, o1, -, rd, mv⟩
        have o2 : o < 16 := o1 (by omega)
        have DH : Hid (Dr R (c + 41 + 25 * 4 + 1 + 2 + 1) w v3) := DH.out.call hR rd mv
        clear rd mv o1
        obtain ⟨i, rfl⟩ : ∃ i : Nat, o = i := ⟨o.toNat, by omega⟩
        have hi : i < 16 := by omega
        go_wp2_with fail
        refine (real_all R (c + 41 + 25 * 4 + 1 + 2 + 1) _ DH.out.rd (by omega)).mono ?_
        rintro e v4 ⟨z, rfl, z1, rd, mv⟩
        have DH : Hid (Dr R (c + 41 + 25 * 4 + 1 + 2 + 1 + 12) w v4) := DH.out.call hR rd mv
        clear rd mv
        obtain ⟨u0, hu0⟩ := DH.out.m.c (k := 117 + i) (by omega)
        have hf0 := DH.out.m.f (k := 117 + i) (by omega)
        have s0 := store_float (z := z) hu0 hf0
        have DH : Hid (Dr R (c + 41 + 25 * 4 + 1 + 2 + 1 + 12) w (v4.setCell ⟨w.heap.size + 1, 117 + i, none⟩ (.float .f64 z))) := (DH.out.set hR (k := 117 + i) (by omega) (fit_r hi z1))
        clear z1
        go_wp2_with fail
        clear hu0 hf0 u0 s0
        refine (num_lit R (c + 41 + 25 * 4 + 1 + 2 + 1 + 12) _ _ _ (by simp) DH.out.rd (by omega) (by simp) (by simp) (by simp) 8 rfl).mono ?_
        rintro e v5 ⟨z, rfl, rd, mv⟩
        have DH : Hid (Dr R (c + 41 + 25 * 4 + 1 + 2 + 1 + 12 + 1) w v5) := DH.out.call hR rd mv
        clear rd mv
        obtain ⟨u0, hu0⟩ := DH.out.m.c (k := 133) (by omega)
        have hf0 := DH.out.m.f (k := 133) (by omega)
        have DH : Hid (Dr R (c + 41 + 25 * 4 + 1 + 2 + 1 + 12 + 1) w (v5.setCell ⟨w.heap.size + 1, 133, none⟩ (.int .u32 (IntKind.u32.wrap z)))) := (DH.out.set hR (k := 133) (by omega) (fit_u32 (by omega) z))
        go_wp2_with fail
        clear hu0 hf0 u0
        refine (pick_any R (c + 41 + 25 * 4 + 1 + 2 + 1 + 12 + 1) 3 _ DH.out.rd (by omega) (by omega)).mono ?_
        rintro e v6 ⟨p, rfl, p0, p1, -, rd, mv⟩
        have p2 : p < 3 := p1 (by omega)
        have DH : Hid (Dr R (c + 41 + 25 * 4 + 1 + 2 + 1 + 12 + 1 + 1) w v6) := DH.out.call hR rd mv
        clear rd mv p1
        obtain ⟨u0, hu0⟩ := DH.out.m.c (k := 134) (by omega)
        have hf0 := DH.out.m.f (k := 134) (by omega)
        have DH : Hid (Dr R (c + 41 + 25 * 4 + 1 + 2 + 1 + 12 + 1 + 1) w (v6.setCell ⟨w.heap.size + 1, 134, none⟩ (.bool (decide (0 < p))))) := (DH.out.set hR (k := 134) (by omega) (fit_b (by omega) _))
        go_wp2_with fail
        clear hu0 hf0 u0
        refine (pick_any R (c + 41 + 25 * 4 + 1 + 2 + 1 + 12 + 1 + 1) 4 _ DH.out.rd (by omega) (by omega)).mono ?_
        rintro e v7 ⟨q, rfl, q0, q1, -, rd, mv⟩
        have q2 : q < 4 := q1 (by omega)
        have DH : Hid (Dr R (c + 41 + 25 * 4 + 1 + 2 + 1 + 12 + 1 + 1 + 1) w v7) := DH.out.call hR rd mv
        clear rd mv q1
        obtain ⟨u0, hu0⟩ := DH.out.m.c (k := 135) (by omega)
        have hf0 := DH.out.m.f (k := 135) (by omega)
        have DH : Hid (Dr R (c + 41 + 25 * 4 + 1 + 2 + 1 + 12 + 1 + 1 + 1) w (v7.setCell ⟨w.heap.size + 1, 135, none⟩ (.bool (q == 0)))) := (DH.out.set hR (k := 135) (by omega) (fit_b (by omega) _))
        obtain ⟨v, hv, hA⟩ := DH.out.m
        have O := DH.out.o
        have hR3 := O.stored v
        have hD : DrawnM R c w _ _ := drawnM_of DH.out hR hv (show c + 41 + 25 * 4 + 1 + 2 + 1 + 12 + 1 + 1 + 1 ≤ c + 200 by omega)
        go_wp2_with (first | refine list_load (t := 61) rfl rfl rfl (load_mem hA) ?_ | refine list_store (t := 61) rfl rfl rfl rfl (store_mem v O) ?_)
        exact ret_mem (c := 2) rfl rfl rfl hR3 hD

end Go.Proofs.YtdhoimjkgicneaaDoor

/- What the small functions on operands of the specification do. -/
namespace Go.Proofs.YtdhoimjkgicneaaDoor
open Go Go.RowKit

set_option maxHeartbeats 1000000 in
theorem spec_size (k : Int) (w : World) :
    Calls Tryd.prog 52 #[.int .i64 k] w fun e w' => e = .returned (.int .i64 (sizeZ k)) ∧ w' = w := by
  rcases kcases k with rfl | rfl | rfl | rfl | rfl | rfl | rfl | rfl | rfl | rfl | rfl | rfl | rfl | h | h
  all_goals
    go_enter Tryd.func52, Tryd.ntmps52
    go_wp2
    go_ret
    first | exact ⟨rfl, rfl⟩ | (rw [sizeZ_out (by omega)]; exact ⟨rfl, rfl⟩)

end Go.Proofs.YtdhoimjkgicneaaDoor

/- How a return is met; the decimal text of a whole number, as the specification writes it. -/
namespace Go.Proofs.YtdhoimjkgicneaaDoor
open Go Go.RowKit

theorem conv1 (w : World) (c : Int) (h0 : 0 ≤ c) (h1 : c ≤ 255) :
    (convert 22 9 (.slice (some ⟨w.heap.size, 0, none⟩) 1 1)).run Tryd.prog (w.alloc (.cells #[.int .u8 c] 5)) = .ok (.string ⟨#[UInt8.ofNat c.toNat]⟩) (w.alloc (.cells #[.int .u8 c] 5)) := by
  refine run_convert_bytes_back (P := Tryd.prog) (w.alloc (.cells #[.int .u8 c] 5)) 22 9 5 ⟨w.heap.size, 0, none⟩ 1 [UInt8.ofNat c.toNat] Tryd.underlying22 Tryd.underlying5 Tryd.underlying9 ?_
  intro j hj
  obtain rfl : j = 0 := by simp at hj; omega
  have hc : ((UInt8.ofNat c.toNat).toNat : Int) = c := by simp [UInt8.toNat_ofNat']; omega
  simp only [List.getElem_cons_zero]
  rw [hc]
  simp [Addr.add_lit]

set_option maxRecDepth 100000 in
set_option maxHeartbeats 400000 in
theorem spec_dec1 (n : Nat) (w : World) (h2 : n ≤ 9223372036854775807) :
    Calls Tryd.prog 60 #[.int .i64 n] w fun e w' => e = .returned (.string ⟨(Lib.decDigits n).toArray⟩) ∧ Below w.heap.size w w' := by
    go_enter Tryd.func60, Tryd.ntmps60
    go_wp2
    go_loopw [0, 3] (fun a b wr => ∃ (m : Nat) (acc : List UInt8), m ≤ n ∧ a = .int .i64 m ∧ b = .string ⟨acc.toArray⟩ ∧ Lib.decDigits m ++ acc = Lib.decDigits n ∧ Below w.heap.size w wr) (fun a _ _ => (intOf a).toNat)
    case atStart => exact ⟨n, [], Nat.le_refl _, rfl, rfl, by simp, Below.refl _ _⟩
    case round =>
      obtain ⟨m, acc, hm, rfl, rfl, hd, hb⟩ := hrel
      have hl : acc.length ≤ 19 := by
        have h1 := congrArg List.length hd
        have h3 := dd_len19 h2
        simp at h1; omega
      have HD : Hid (Lib.decDigits m ++ acc = Lib.decDigits n) := hd
      have HB : Hid (Below w.heap.size w wr) := hb
      have HZ : Hid (w.heap.size ≤ wr.heap.size) := hb.size
      clear hd hb
      by_cases hlt : 9 < m
      · have hcv := conv1 wr (48 + (m : Int) % 10) (by omega) (by omega)
        go_wp2
        go_roundw
        case rel =>
          refine ⟨m / 10, (48 + UInt8.ofNat (m % 10)) :: acc, by omega, by go_num, ?_, ?_, HB.out.alloc HZ.out _⟩
          · exact congrArg Value.string (str_cat [_] _)
          · rw [← HD.out, dd_ge hlt]; simp
        case measure => simp [intOf]; omega
      · have hcv := conv1 wr (48 + (m : Int)) (by omega) (by omega)
        go_wp2
        go_ret
        refine ⟨ret_str ?_, HB.out.alloc HZ.out _⟩
        rw [← HD.out, dd_lt (by omega)]
        exact str_cat [_] _

set_option maxHeartbeats 400000 in
theorem spec_dec (n : Int) (w : World) (h1 : -9223372036854775807 ≤ n) (h2 : n ≤ 9223372036854775807) :
    Calls Tryd.prog 60 #[.int .i64 n] w fun e w' => e = .returned (.string ⟨(Lib.itoa n).toArray⟩) ∧ Below w.heap.size w w' := by
  by_cases h0 : 0 ≤ n
  · obtain ⟨m, rfl⟩ : ∃ m : Nat, n = m := ⟨n.toNat, by omega⟩
    rw [Lib.itoa_nonneg]
    exact spec_dec1 m w (by omega)
  · obtain ⟨m, rfl⟩ : ∃ m : Nat, n = -(m : Int) := ⟨n.natAbs, by omega⟩
    rw [Lib.itoa_neg m (by omega)]
    have hm : m ≤ 9223372036854775807 := by omega
    have hl := dd_len19 hm
    go_enter Tryd.func60, Tryd.ntmps60
    go_wp2_with fail
    refine (spec_dec1 m w hm).mono ?_
    rintro e w' ⟨rfl, hb⟩
    have HB : Hid (Below w.heap.size w w') := hb
    clear hb
    go_wp2
    go_ret
    exact ⟨ret_str (str_cat [45] _), HB.out⟩

end Go.Proofs.YtdhoimjkgicneaaDoor
