/- Texts of this proof laid together: DrA0, DrB0, DrawS. -/
import Derived.Test.YtdhoimjkgicneaaGreatDoorLot2
import Derived.Test.YtdhoimjkgicneaaGreatDoorLot4
import Derived.Test.YtdhoimjkgicneaaGreatDoorLot9
import Derived.Test.YtdhoimjkgicneaaGreatDoorLot3
import Derived.Test.YtdhoimjkgicneaaGreatDoorLot8
/- A drawn memory: that the draw ends, and hands back some memory. -/
namespace Go.Proofs.YtdhoimjkgicneaaGreatDoor
open Go Go.RowKit

/-- A reader, and two memories behind all that was there: nothing, for the answer, and some memory. -/
structure Dr (R c : Nat) (w wr : World) : Prop where
  rd : Rd R c wr
  mv : Moved R w wr
  m : MemSome (w.heap.size + 1) wr
  o : MemAt w.heap.size mem0 wr

theorem MemAt.moved {R b : Nat} {v : MemV} {w w' : World} (h : MemAt b v w) (mv : Moved R w w') (hn : b ≠ R) : MemAt b v w' :=
  h.of_block (mv.block b h.z hn) (Nat.lt_of_lt_of_le h.z mv.size)
theorem MemSome.moved {R b : Nat} {w w' : World} (h : MemSome b w) (mv : Moved R w w') (hn : b ≠ R) : MemSome b w' := by
  obtain ⟨v, hv, hA⟩ := h
  exact ⟨v, hv, hA.moved mv hn⟩

theorem Dr.call {R c c' : Nat} {w wr w2 : World} (h : Dr R c w wr) (hR : R < w.heap.size) (rd : Rd R c' w2) (mv : Moved R wr w2) : Dr R c' w w2 :=
  ⟨rd, h.mv.trans mv, h.m.moved mv (by omega), h.o.moved mv (by omega)⟩
theorem Dr.set {R c k : Nat} {w wr : World} {u : Value} (h : Dr R c w wr) (hR : R < w.heap.size) (hk : k < 136) (hu : fitC k u) : Dr R c w (wr.setCell ⟨w.heap.size + 1, k, none⟩ u) :=
  ⟨h.rd.setCell (by show R < w.heap.size + 1; omega) _, h.mv.setCell (by show w.heap.size ≤ w.heap.size + 1; omega) _, h.m.set hk hu,
    h.o.of_block (Below.heap_setCell _ _ _ _ (by simp)) (by simpa [World.setCell] using h.o.z)⟩
theorem Dr.mono {R c c' : Nat} {w wr : World} (h : Dr R c w wr) (hc : c ≤ c') : Dr R c' w wr := ⟨h.rd.mono hc, h.mv, h.m, h.o⟩

end Go.Proofs.YtdhoimjkgicneaaGreatDoor

/- A drawn memory: the draw ends, and hands back some memory. -/
namespace Go.Proofs.YtdhoimjkgicneaaGreatDoor
open Go Go.RowKit

theorem mem0_ok : mem0.Ok := ⟨by decide, by decide, by decide, by decide, by decide, fun _ => (by decide : 0 < 65536), fun _ => (by decide : 0 < 65536), fun _ => (by decide : (-32768 : Int) ≤ 0), fun _ => (by decide : (0 : Int) ≤ 32767), fun _ => Nat.two_pow_pos 64, by decide⟩

/-- What is behind two memories of nothing. -/
theorem draw_boxes (R c : Nat) (w : World) (t1 t2 : TypeId) (h : Rd R c w) :
    MemAt (w.heap.size + 1) mem0 ((w.alloc (.cells Tryz.zeroCells37 t1)).alloc (.cells Tryz.zeroCells37 t2)) ∧
    Dr R c w (((w.alloc (.cells Tryz.zeroCells37 t1)).alloc (.cells Tryz.zeroCells37 t2)).setCells (w.heap.size + 1) 0 mem0.row.toList) := by
  rw [zero_row]
  have h1 : ∀ (w : World) (o : Obj), Below w.heap.size w (w.alloc o) := fun w o => (Below.refl _ _).alloc (Nat.le_refl _) _
  have hR := h.size
  have a0 : MemAt w.heap.size mem0 ((w.alloc (.cells mem0.row t1)).alloc (.cells mem0.row t2)) := (MemAt.alloc mem0 w t1).below (h1 _ _) (by simp)
  have a1 : MemAt (w.heap.size + 1) mem0 ((w.alloc (.cells mem0.row t1)).alloc (.cells mem0.row t2)) := by
    have := MemAt.alloc mem0 (w.alloc (.cells mem0.row t1)) t2
    simpa using this
  have b0 : Below w.heap.size w ((w.alloc (.cells mem0.row t1)).alloc (.cells mem0.row t2)) := ((Below.refl w.heap.size w).alloc (Nat.le_refl _) _).alloc (by simp) _
  have b1 := setCells_below mem0.row.toList (w.heap.size + 1) 0 b0 (by omega)
  exact ⟨a1, h.below b1, Moved.of_below b1 (Nat.le_refl _), ⟨mem0, mem0_ok, a1.stored mem0⟩, a0.other (by omega)⟩

theorem Rd.setCells : ∀ (vs : List Value) {R c b o : Nat} {w : World}, Rd R c w → R < b → Rd R c (w.setCells b o vs)
  | [], _, _, _, _, _, h, _ => h
  | u :: r, R, c, b, o, w, h, hb => by
    have : (w.setCells b o (u :: r)) = (w.setCell ⟨b, o, none⟩ u).setCells b (o + 1) r := rfl
    rw [this]
    exact Rd.setCells r (h.setCell (a := ⟨b, o, none⟩) hb u) hb
theorem Moved.setCells : ∀ (vs : List Value) {R b o : Nat} {w w' : World}, Moved R w w' → w.heap.size ≤ b → Moved R w (w'.setCells b o vs)
  | [], _, _, _, _, _, h, _ => h
  | u :: r, R, b, o, w, w', h, hb => by
    have : (w'.setCells b o (u :: r)) = (w'.setCell ⟨b, o, none⟩ u).setCells b (o + 1) r := rfl
    rw [this]
    exact Moved.setCells r (h.setCell (a := ⟨b, o, none⟩) hb u) hb

/-- What is left behind a draw of a memory. -/
def DrawnM (R c : Nat) (w : World) (e : Ending) (w' : World) : Prop := ∃ v : MemV, v.Ok ∧ e = .returned (.agg v.row) ∧ Rd R (c + 200) w' ∧ Moved R w w'

theorem drawnM_of {R c c' : Nat} {w wr : World} {v : MemV} (D : Dr R c' w wr) (hR : R < w.heap.size) (hv : v.Ok) (hc : c' ≤ c + 200) : DrawnM R c w (.returned (.agg v.row)) (wr.setCells w.heap.size 0 v.row.toList) :=
  ⟨v, hv, rfl, Rd.setCells _ (D.rd.mono hc) hR, Moved.setCells _ D.mv (Nat.le_refl _)⟩

set_option maxRecDepth 100000 in
set_option maxHeartbeats 4000000 in
theorem draw_mem (R c : Nat) (w : World) (h : Rd R c w) (hc : c ≤ 300) :
    Calls Tryz.prog 10 #[.pointer (some ⟨R, 0, none⟩)] w (DrawnM R c w) := by
  obtain ⟨a1, D0⟩ := draw_boxes R c w 37 37 h
  have hR := h.size
  have DH : Hid (Dr R c w _) := D0
  clear D0 h
  go_enter Tryz.func10, Tryz.ntmps10
  go_wp2_with (refine list_store (t := 37) rfl rfl rfl rfl (store_mem mem0 a1) ?_)
  clear a1
  refine (pick_any R (c) 16 _ DH.out.rd (by omega) (by omega)).mono ?_
  rintro e w1 ⟨x, rfl, x0, x1, -, rd, mv⟩
  have x2 : x < 16 := x1 (by omega)
  have DH : Hid (Dr R (c + 1) w w1) := DH.out.call hR rd mv
  clear rd mv x1
  cases hx : x == 0 with
  | true =>
    obtain ⟨v, hv, hA⟩ := DH.out.m
    have O := DH.out.o
    have hR3 := O.stored v
    have hD : DrawnM R c w _ _ := drawnM_of DH.out hR hv (show c + 1 ≤ c + 200 by omega)
    go_wp2_with (first | refine list_load (t := 37) rfl rfl rfl (load_mem hA) ?_ | refine list_store (t := 37) rfl rfl rfl rfl (store_mem v O) ?_)
    exact ret_mem (c := 2) rfl rfl rfl hR3 hD
  | false =>
    go_wp2_with fail
    refine (word_all R (c + 1) _ DH.out.rd (by omega)).mono ?_
    rintro e w2 ⟨z, rfl, z0, z1, rd, mv⟩
    have DH : Hid (Dr R (c + 1 + 8) w w2) := DH.out.call hR rd mv
    clear rd mv
    obtain ⟨u0, hu0⟩ := DH.out.m.c (k := 0) (by omega)
    have hf0 := DH.out.m.f (k := 0) (by omega)
    have DH : Hid (Dr R (c + 1 + 8) w (w2.setCell ⟨w.heap.size + 1, 0, none⟩ (.int .u32 (IntKind.u32.wrap z)))) := (DH.out.set hR (k := 0) (by omega) (fit_u32 (by omega) z))
    go_wp2_with fail
    clear hu0 hf0 u0 z0 z1
    refine (word_all R (c + 1 + 8) _ DH.out.rd (by omega)).mono ?_
    rintro e w3 ⟨z, rfl, z0, z1, rd, mv⟩
    have DH : Hid (Dr R (c + 1 + 8 + 8) w w3) := DH.out.call hR rd mv
    clear rd mv
    obtain ⟨u0, hu0⟩ := DH.out.m.c (k := 1) (by omega)
    have hf0 := DH.out.m.f (k := 1) (by omega)
    have DH : Hid (Dr R (c + 1 + 8 + 8) w (w3.setCell ⟨w.heap.size + 1, 1, none⟩ (.int .u32 (IntKind.u32.wrap z)))) := (DH.out.set hR (k := 1) (by omega) (fit_u32 (by omega) z))
    go_wp2_with fail
    clear hu0 hf0 u0 z0 z1
    refine (word_all R (c + 1 + 8 + 8) _ DH.out.rd (by omega)).mono ?_
    rintro e w4 ⟨z, rfl, z0, z1, rd, mv⟩
    have DH : Hid (Dr R (c + 1 + 8 + 8 + 8) w w4) := DH.out.call hR rd mv
    clear rd mv
    obtain ⟨u0, hu0⟩ := DH.out.m.c (k := 2) (by omega)
    have hf0 := DH.out.m.f (k := 2) (by omega)
    have DH : Hid (Dr R (c + 1 + 8 + 8 + 8) w (w4.setCell ⟨w.heap.size + 1, 2, none⟩ (.int .u64 z))) := (DH.out.set hR (k := 2) (by omega) (fit_u64 z0 z1))
    go_wp2_with fail
    clear hu0 hf0 u0 z0 z1
    refine (word_all R (c + 1 + 8 + 8 + 8) _ DH.out.rd (by omega)).mono ?_
    rintro e w5 ⟨z, rfl, z0, z1, rd, mv⟩
    have DH : Hid (Dr R (c + 1 + 8 + 8 + 8 + 8) w w5) := DH.out.call hR rd mv
    clear rd mv
    obtain ⟨u0, hu0⟩ := DH.out.m.c (k := 3) (by omega)
    have hf0 := DH.out.m.f (k := 3) (by omega)
    have DH : Hid (Dr R (c + 1 + 8 + 8 + 8 + 8) w (w5.setCell ⟨w.heap.size + 1, 3, none⟩ (.int .u16 (IntKind.u16.wrap z)))) := (DH.out.set hR (k := 3) (by omega) (fit_u16 z))
    go_wp2_with fail
    clear hu0 hf0 u0 z0 z1
    refine (word_all R (c + 1 + 8 + 8 + 8 + 8) _ DH.out.rd (by omega)).mono ?_
    rintro e w6 ⟨z, rfl, z0, z1, rd, mv⟩
    have DH : Hid (Dr R (c + 1 + 8 + 8 + 8 + 8 + 8) w w6) := DH.out.call hR rd mv
    clear rd mv
    obtain ⟨u0, hu0⟩ := DH.out.m.c (k := 4) (by omega)
    have hf0 := DH.out.m.f (k := 4) (by omega)
    have DH : Hid (Dr R (c + 1 + 8 + 8 + 8 + 8 + 8) w (w6.setCell ⟨w.heap.size + 1, 4, none⟩ (.int .u32 (IntKind.u32.wrap z)))) := (DH.out.set hR (k := 4) (by omega) (fit_u32 (by omega) z))
    go_wp2_with fail
    clear hu0 hf0 u0 z0 z1
    go_loopw [4, 5] (fun i j wr => ∃ k : Nat, k ≤ 4 ∧ i = .int .i64 k ∧ Dr R (c + 41 + 25 * k) w wr) (fun i _ _ => 4 - (intOf i).toNat)
    case atStart => exact ⟨0, by omega, rfl, DH.out⟩
    case round =>
      clear DH
      obtain ⟨k, hk, rfl, D⟩ := hrel
      have DH : Hid (Dr R (c + 41 + 25 * k) w wr) := D
      clear D
      by_cases hlt : k < 4
      · go_wp2_with fail
        refine (pick_any R (c + 41 + 25 * k) 4 _ DH.out.rd (by omega) (by omega)).mono ?_
        rintro e v1 ⟨y, rfl, y0, y1, -, rd, mv⟩
        have y2 : y < 4 := y1 (by omega)
        have DH : Hid (Dr R (c + 41 + 25 * k + 1) w v1) := DH.out.call hR rd mv
        clear rd mv y1
        by_cases h3 : k = 3
        · subst h3
          go_wp2_with fail
          clear y0 y2
          refine (pick_any R (c + 41 + 25 * 3 + 1) 16 _ DH.out.rd (by omega) (by omega)).mono ?_
          rintro e v2 ⟨y, rfl, y0, y1, -, rd, mv⟩
          have y2 : y < 16 := y1 (by omega)
          have DH : Hid (Dr R (c + 41 + 25 * 3 + 1 + 1) w v2) := DH.out.call hR rd mv
          clear rd mv y1
          obtain ⟨j, rfl⟩ : ∃ j : Nat, y = j := ⟨y.toNat, by omega⟩
          have hj : j < 16 := by omega
          go_wp2_with fail
          refine (pick_any R (c + 41 + 25 * 3 + 1 + 1) 2 _ DH.out.rd (by omega) (by omega)).mono ?_
          rintro e v3 ⟨p, rfl, p0, p1, -, rd, mv⟩
          have p2 : p < 2 := p1 (by omega)
          have DH : Hid (Dr R (c + 41 + 25 * 3 + 1 + 1 + 1) w v3) := DH.out.call hR rd mv
          clear rd mv p1
          go_wp2_with fail
          refine (num_lit R (c + 41 + 25 * 3 + 1 + 1 + 1) _ _ _ (by simp) DH.out.rd (by omega) (by simp) (by simp) (by simp) 7 rfl).mono ?_
          rintro e v4 ⟨z, rfl, rd, mv⟩
          have DH : Hid (Dr R (c + 41 + 25 * 3 + 1 + 1 + 1 + 1) w v4) := DH.out.call hR rd mv
          clear rd mv
          obtain ⟨u0, hu0⟩ := DH.out.m.c (k := 5 + j * 2) (by omega)
          have hf0 := DH.out.m.f (k := 5 + j * 2) (by omega)
          obtain ⟨u1, hu1⟩ := DH.out.m.c (k := 5 + j * 2 + 1) (by omega)
          have hf1 := DH.out.m.f (k := 5 + j * 2 + 1) (by omega)
          have DH : Hid (Dr R (c + 41 + 25 * 3 + 1 + 1 + 1 + 1) w ((v4.setCell ⟨w.heap.size + 1, 5 + j * 2, none⟩ (.bool (p == 1))).setCell ⟨w.heap.size + 1, 5 + j * 2 + 1, none⟩ (.int .u16 (IntKind.u16.wrap z)))) := ((DH.out.set hR (k := 5 + j * 2) (by omega) (fit_tD hj _)).set hR (k := 5 + j * 2 + 1) (by omega) (fit_tC hj z))
          go_wp2_with fail
          clear hu0 hf0 u0 hu1 hf1 u1
          refine (pick_any R (c + 41 + 25 * 3 + 1 + 1 + 1 + 1) 2 _ DH.out.rd (by omega) (by omega)).mono ?_
          rintro e v5 ⟨q, rfl, q0, q1, -, rd, mv⟩
          have q2 : q < 2 := q1 (by omega)
          have DH : Hid (Dr R (c + 41 + 25 * 3 + 1 + 1 + 1 + 1 + 1) w v5) := DH.out.call hR rd mv
          clear rd mv q1
          go_wp2_with fail
          refine (pick_any R (c + 41 + 25 * 3 + 1 + 1 + 1 + 1 + 1) 2 _ DH.out.rd (by omega) (by omega)).mono ?_
          rintro e v6 ⟨o, rfl, o0, o1, -, rd, mv⟩
          have o2 : o < 2 := o1 (by omega)
          have DH : Hid (Dr R (c + 41 + 25 * 3 + 1 + 1 + 1 + 1 + 1 + 1) w v6) := DH.out.call hR rd mv
          clear rd mv o1
          go_wp2_with fail
          refine (num_lit R (c + 41 + 25 * 3 + 1 + 1 + 1 + 1 + 1 + 1) _ _ _ (by simp) DH.out.rd (by omega) (by simp) (by simp) (by simp) 7 rfl).mono ?_
          rintro e v7 ⟨z, rfl, rd, mv⟩
          have DH : Hid (Dr R (c + 41 + 25 * 3 + 1 + 1 + 1 + 1 + 1 + 1 + 1) w v7) := DH.out.call hR rd mv
          clear rd mv
          obtain ⟨u0, hu0⟩ := DH.out.m.c (k := 37 + j * 3) (by omega)
          have hf0 := DH.out.m.f (k := 37 + j * 3) (by omega)
          obtain ⟨u1, hu1⟩ := DH.out.m.c (k := 37 + j * 3 + 1) (by omega)
          have hf1 := DH.out.m.f (k := 37 + j * 3 + 1) (by omega)
          obtain ⟨u2, hu2⟩ := DH.out.m.c (k := 37 + j * 3 + 2) (by omega)
          have hf2 := DH.out.m.f (k := 37 + j * 3 + 2) (by omega)
          have DH : Hid (Dr R (c + 41 + 25 * 3 + 1 + 1 + 1 + 1 + 1 + 1 + 1) w (((v7.setCell ⟨w.heap.size + 1, 37 + j * 3, none⟩ (.bool (q == 1))).setCell ⟨w.heap.size + 1, 37 + j * 3 + 1, none⟩ (.bool (o == 1))).setCell ⟨w.heap.size + 1, 37 + j * 3 + 2, none⟩ (.int .u16 (IntKind.u16.wrap z)))) := (((DH.out.set hR (k := 37 + j * 3) (by omega) (fit_cD hj _)).set hR (k := 37 + j * 3 + 1) (by omega) (fit_cL hj _)).set hR (k := 37 + j * 3 + 2) (by omega) (fit_cC hj z))
          go_wp2_with fail
          clear hu0 hf0 u0 hu1 hf1 u1 hu2 hf2 u2
          refine (whole_any R (c + 41 + 25 * 3 + 1 + 1 + 1 + 1 + 1 + 1 + 1) _ DH.out.rd (by omega)).mono ?_
          rintro e v8 ⟨z, rfl, z0, z1, rd, mv⟩
          have DH : Hid (Dr R (c + 41 + 25 * 3 + 1 + 1 + 1 + 1 + 1 + 1 + 1 + 2) w v8) := DH.out.call hR rd mv
          clear rd mv
          obtain ⟨u0, hu0⟩ := DH.out.m.c (k := 85 + j) (by omega)
          have hf0 := DH.out.m.f (k := 85 + j) (by omega)
          have DH : Hid (Dr R (c + 41 + 25 * 3 + 1 + 1 + 1 + 1 + 1 + 1 + 1 + 2) w (v8.setCell ⟨w.heap.size + 1, 85 + j, none⟩ (.int .i16 z))) := (DH.out.set hR (k := 85 + j) (by omega) (fit_d (by omega) z0 z1))
          go_wp2_with fail
          clear hu0 hf0 u0 z0 z1
          refine (real_all R (c + 41 + 25 * 3 + 1 + 1 + 1 + 1 + 1 + 1 + 1 + 2) _ DH.out.rd (by omega)).mono ?_
          rintro e v9 ⟨z, rfl, z1, rd, mv⟩
          have DH : Hid (Dr R (c + 41 + 25 * 3 + 1 + 1 + 1 + 1 + 1 + 1 + 1 + 2 + 12) w v9) := DH.out.call hR rd mv
          clear rd mv
          obtain ⟨u0, hu0⟩ := DH.out.m.c (k := 117 + j) (by omega)
          have hf0 := DH.out.m.f (k := 117 + j) (by omega)
          have s0 := store_float (z := z) hu0 hf0
          have DH : Hid (Dr R (c + 41 + 25 * 3 + 1 + 1 + 1 + 1 + 1 + 1 + 1 + 2 + 12) w (v9.setCell ⟨w.heap.size + 1, 117 + j, none⟩ (.float .f64 z))) := (DH.out.set hR (k := 117 + j) (by omega) (fit_r hj z1))
          clear z1
          go_wp2_with fail
          go_roundw
          case rel => exact ⟨4, by omega, by go_num, DH.out.mono (by omega)⟩
          case measure => simp [intOf]
        · have y3 : y < 16 := by omega
          have hk3 : ((k : Int) == 3) = false := by simp; omega
          obtain ⟨j, rfl⟩ : ∃ j : Nat, y = j := ⟨y.toNat, by omega⟩
          have hj : j < 16 := by omega
          go_wp2_with fail
          refine (pick_any R (c + 41 + 25 * k + 1) 2 _ DH.out.rd (by omega) (by omega)).mono ?_
          rintro e v3 ⟨p, rfl, p0, p1, -, rd, mv⟩
          have p2 : p < 2 := p1 (by omega)
          have DH : Hid (Dr R (c + 41 + 25 * k + 1 + 1) w v3) := DH.out.call hR rd mv
          clear rd mv p1
          go_wp2_with fail
          refine (num_lit R (c + 41 + 25 * k + 1 + 1) _ _ _ (by simp) DH.out.rd (by omega) (by simp) (by simp) (by simp) 7 rfl).mono ?_
          rintro e v4 ⟨z, rfl, rd, mv⟩
          have DH : Hid (Dr R (c + 41 + 25 * k + 1 + 1 + 1) w v4) := DH.out.call hR rd mv
          clear rd mv
          obtain ⟨u0, hu0⟩ := DH.out.m.c (k := 5 + j * 2) (by omega)
          have hf0 := DH.out.m.f (k := 5 + j * 2) (by omega)
          obtain ⟨u1, hu1⟩ := DH.out.m.c (k := 5 + j * 2 + 1) (by omega)
          have hf1 := DH.out.m.f (k := 5 + j * 2 + 1) (by omega)
          have DH : Hid (Dr R (c + 41 + 25 * k + 1 + 1 + 1) w ((v4.setCell ⟨w.heap.size + 1, 5 + j * 2, none⟩ (.bool (p == 1))).setCell ⟨w.heap.size + 1, 5 + j * 2 + 1, none⟩ (.int .u16 (IntKind.u16.wrap z)))) := ((DH.out.set hR (k := 5 + j * 2) (by omega) (fit_tD hj _)).set hR (k := 5 + j * 2 + 1) (by omega) (fit_tC hj z))
          go_wp2_with fail
          clear hu0 hf0 u0 hu1 hf1 u1
          refine (pick_any R (c + 41 + 25 * k + 1 + 1 + 1) 2 _ DH.out.rd (by omega) (by omega)).mono ?_
          rintro e v5 ⟨q, rfl, q0, q1, -, rd, mv⟩
          have q2 : q < 2 := q1 (by omega)
          have DH : Hid (Dr R (c + 41 + 25 * k + 1 + 1 + 1 + 1) w v5) := DH.out.call hR rd mv
          clear rd mv q1
          go_wp2_with fail
          refine (pick_any R (c + 41 + 25 * k + 1 + 1 + 1 + 1) 2 _ DH.out.rd (by omega) (by omega)).mono ?_
          rintro e v6 ⟨o, rfl, o0, o1, -, rd, mv⟩
          have o2 : o < 2 := o1 (by omega)
          have DH : Hid (Dr R (c + 41 + 25 * k + 1 + 1 + 1 + 1 + 1) w v6) := DH.out.call hR rd mv
          clear rd mv o1
          go_wp2_with fail
          refine (num_lit R (c + 41 + 25 * k + 1 + 1 + 1 + 1 + 1) _ _ _ (by simp) DH.out.rd (by omega) (by simp) (by simp) (by simp) 7 rfl).mono ?_
          rintro e v7 ⟨z, rfl, rd, mv⟩
          have DH : Hid (Dr R (c + 41 + 25 * k + 1 + 1 + 1 + 1 + 1 + 1) w v7) := DH.out.call hR rd mv
          clear rd mv
          obtain ⟨u0, hu0⟩ := DH.out.m.c (k := 37 + j * 3) (by omega)
          have hf0 := DH.out.m.f (k := 37 + j * 3) (by omega)
          obtain ⟨u1, hu1⟩ := DH.out.m.c (k := 37 + j * 3 + 1) (by omega)
          have hf1 := DH.out.m.f (k := 37 + j * 3 + 1) (by omega)
          obtain ⟨u2, hu2⟩ := DH.out.m.c (k := 37 + j * 3 + 2) (by omega)
          have hf2 := DH.out.m.f (k := 37 + j * 3 + 2) (by omega)
          have DH : Hid (Dr R (c + 41 + 25 * k + 1 + 1 + 1 + 1 + 1 + 1) w (((v7.setCell ⟨w.heap.size + 1, 37 + j * 3, none⟩ (.bool (q == 1))).setCell ⟨w.heap.size + 1, 37 + j * 3 + 1, none⟩ (.bool (o == 1))).setCell ⟨w.heap.size + 1, 37 + j * 3 + 2, none⟩ (.int .u16 (IntKind.u16.wrap z)))) := (((DH.out.set hR (k := 37 + j * 3) (by omega) (fit_cD hj _)).set hR (k := 37 + j * 3 + 1) (by omega) (fit_cL hj _)).set hR (k := 37 + j * 3 + 2) (by omega) (fit_cC hj z))
          go_wp2_with fail
          clear hu0 hf0 u0 hu1 hf1 u1 hu2 hf2 u2
          refine (whole_any R (c + 41 + 25 * k + 1 + 1 + 1 + 1 + 1 + 1) _ DH.out.rd (by omega)).mono ?_
          rintro e v8 ⟨z, rfl, z0, z1, rd, mv⟩
          have DH : Hid (Dr R (c + 41 + 25 * k + 1 + 1 + 1 + 1 + 1 + 1 + 2) w v8) := DH.out.call hR rd mv
          clear rd mv
          obtain ⟨u0, hu0⟩ := DH.out.m.c (k := 85 + j) (by omega)
          have hf0 := DH.out.m.f (k := 85 + j) (by omega)
          have DH : Hid (Dr R (c + 41 + 25 * k + 1 + 1 + 1 + 1 + 1 + 1 + 2) w (v8.setCell ⟨w.heap.size + 1, 85 + j, none⟩ (.int .i16 z))) := (DH.out.set hR (k := 85 + j) (by omega) (fit_d (by omega) z0 z1))
          go_wp2_with fail
          clear hu0 hf0 u0 z0 z1
          refine (real_all R (c + 41 + 25 * k + 1 + 1 + 1 + 1 + 1 + 1 + 2) _ DH.out.rd (by omega)).mono ?_
          rintro e v9 ⟨z, rfl, z1, rd, mv⟩
          have DH : Hid (Dr R (c + 41 + 25 * k + 1 + 1 + 1 + 1 + 1 + 1 + 2 + 12) w v9) := DH.out.call hR rd mv
          clear rd mv
          obtain ⟨u0, hu0⟩ := DH.out.m.c (k := 117 + j) (by omega)
          have hf0 := DH.out.m.f (k := 117 + j) (by omega)
          have s0 := store_float (z := z) hu0 hf0
          have DH : Hid (Dr R (c + 41 + 25 * k + 1 + 1 + 1 + 1 + 1 + 1 + 2 + 12) w (v9.setCell ⟨w.heap.size + 1, 117 + j, none⟩ (.float .f64 z))) := (DH.out.set hR (k := 117 + j) (by omega) (fit_r hj z1))
          clear z1
          go_wp2_with fail
          go_roundw
          case rel => exact ⟨k + 1, by omega, by go_num, DH.out.mono (by omega)⟩
          case measure => simp [intOf]; omega
      · have e : k = 4 := by omega
        subst e
        go_wp2_with fail
        refine (pick_any R (c + 41 + 25 * 4) 32 _ DH.out.rd (by omega) (by omega)).mono ?_
        rintro e v1 ⟨y, rfl, y0, y1, -, rd, mv⟩
        have y2 : y < 32 := y1 (by omega)
        have DH : Hid (Dr R (c + 41 + 25 * 4 + 1) w v1) := DH.out.call hR rd mv
        clear rd mv y1
        obtain ⟨j, rfl⟩ : ∃ j : Nat, y = j := ⟨y.toNat, by omega⟩
        have hj : j < 32 := by omega
        go_wp2_with fail
        refine (whole_any R (c + 41 + 25 * 4 + 1) _ DH.out.rd (by omega)).mono ?_
        rintro e v2 ⟨z, rfl, z0, z1, rd, mv⟩
        have DH : Hid (Dr R (c + 41 + 25 * 4 + 1 + 2) w v2) := DH.out.call hR rd mv
        clear rd mv
        obtain ⟨u0, hu0⟩ := DH.out.m.c (k := 85 + j) (by omega)
        have hf0 := DH.out.m.f (k := 85 + j) (by omega)
        have DH : Hid (Dr R (c + 41 + 25 * 4 + 1 + 2) w (v2.setCell ⟨w.heap.size + 1, 85 + j, none⟩ (.int .i16 z))) := (DH.out.set hR (k := 85 + j) (by omega) (fit_d hj z0 z1))
        go_wp2_with fail
        clear hu0 hf0 u0 z0 z1 hj y0 y2
        refine (pick_any R (c + 41 + 25 * 4 + 1 + 2) 16 _ DH.out.rd (by omega) (by omega)).mono ?_
        rintro e v3 ⟨o, rfl, o0, o1, -, rd, mv⟩
        have o2 : o < 16 := o1 (by omega)
        have DH : Hid (Dr R (c + 41 + 25 * 4 + 1 + 2 + 1) w v3) := DH.out.call hR rd mv
        clear rd mv o1
        obtain ⟨i, rfl⟩ : ∃ i : Nat, o = i := ⟨o.toNat, by omega⟩
        have hi : i < 16 := by omega
        go_wp2_with fail
        refine (real_all R (c + 41 + 25 * 4 + 1 + 2 + 1) _ DH.out.rd (by omega)).mono ?_
        rintro e v4 ⟨z, rfl, z1, rd, mv⟩
        have DH : Hid (Dr R (c + 41 + 25 * 4 + 1 + 2 + 1 + 12) w v4) := DH.out.call hR rd mv
        clear rd mv
        obtain ⟨u0, hu0⟩ := DH.out.m.c (k := 117 + i) (by omega)
        have hf0 := DH.out.m.f (k := 117 + i) (by omega)
        have s0 := store_float (z := z) hu0 hf0
        have DH : Hid (Dr R (c + 41 + 25 * 4 + 1 + 2 + 1 + 12) w (v4.setCell ⟨w.heap.size + 1, 117 + i, none⟩ (.float .f64 z))) := (DH.out.set hR (k := 117 + i) (by omega) (fit_r hi z1))
        clear z1
        go_wp2_with fail
        clear hu0 hf0 u0 s0
        refine (num_lit R (c + 41 + 25 * 4 + 1 + 2 + 1 + 12) _ _ _ (by simp) DH.out.rd (by omega) (by simp) (by simp) (by simp) 8 rfl).mono ?_
        rintro e v5 ⟨z, rfl, rd, mv⟩
        have DH : Hid (Dr R (c + 41 + 25 * 4 + 1 + 2 + 1 + 12 + 1) w v5) := DH.out.call hR rd mv
        clear rd mv
        obtain ⟨u0, hu0⟩ := DH.out.m.c (k := 133) (by omega)
        have hf0 := DH.out.m.f (k := 133) (by omega)
        have DH : Hid (Dr R (c + 41 + 25 * 4 + 1 + 2 + 1 + 12 + 1) w (v5.setCell ⟨w.heap.size + 1, 133, none⟩ (.int .u32 (IntKind.u32.wrap z)))) := (DH.out.set hR (k := 133) (by omega) (fit_u32 (by omega) z))
        go_wp2_with fail
        clear hu0 hf0 u0
        refine (pick_any R (c + 41 + 25 * 4 + 1 + 2 + 1 + 12 + 1) 3 _ DH.out.rd (by omega) (by omega)).mono ?_
        rintro e v6 ⟨p, rfl, p0, p1, -, rd, mv⟩
        have p2 : p < 3 := p1 (by omega)
        have DH : Hid (Dr R (c + 41 + 25 * 4 + 1 + 2 + 1 + 12 + 1 + 1) w v6) := DH.out.call hR rd mv
        clear rd mv p1
        obtain ⟨u0, hu0⟩ := DH.out.m.c (k := 134) (by omega)
        have hf0 := DH.out.m.f (k := 134) (by omega)
        have DH : Hid (Dr R (c + 41 + 25 * 4 + 1 + 2 + 1 + 12 + 1 + 1) w (v6.setCell ⟨w.heap.size + 1, 134, none⟩ (.bool (decide (0 < p))))) := (DH.out.set hR (k := 134) (by omega) (fit_b (by omega) _))
        go_wp2_with fail
        clear hu0 hf0 u0
        refine (pick_any R (c + 41 + 25 * 4 + 1 + 2 + 1 + 12 + 1 + 1) 4 _ DH.out.rd (by omega) (by omega)).mono ?_
        rintro e v7 ⟨q, rfl, q0, q1, -, rd, mv⟩
        have q2 : q < 4 := q1 (by omega)
        have DH : Hid (Dr R (c + 41 + 25 * 4 + 1 + 2 + 1 + 12 + 1 + 1 + 1) w v7) := DH.out.call hR rd mv
        clear rd mv q1
        obtain ⟨u0, hu0⟩ := DH.out.m.c (k := 135) (by omega)
        have hf0 := DH.out.m.f (k := 135) (by omega)
        have DH : Hid (Dr R (c + 41 + 25 * 4 + 1 + 2 + 1 + 12 + 1 + 1 + 1) w (v7.setCell ⟨w.heap.size + 1, 135, none⟩ (.bool (q == 0)))) := (DH.out.set hR (k := 135) (by omega) (fit_b (by omega) _))
        obtain ⟨v, hv, hA⟩ := DH.out.m
        have O := DH.out.o
        have hR3 := O.stored v
        have hD : DrawnM R c w _ _ := drawnM_of DH.out hR hv (show c + 41 + 25 * 4 + 1 + 2 + 1 + 12 + 1 + 1 + 1 ≤ c + 200 by omega)
        go_wp2_with (first | refine list_load (t := 37) rfl rfl rfl (load_mem hA) ?_ | refine list_store (t := 37) rfl rfl rfl rfl (store_mem v O) ?_)
        exact ret_mem (c := 2) rfl rfl rfl hR3 hD

end Go.Proofs.YtdhoimjkgicneaaGreatDoor

/- Drawn strings out of a list: of the reader alone. -/
namespace Go.Proofs.YtdhoimjkgicneaaGreatDoor
open Go Go.RowKit

/-- A short string. -/
def smallStr (v : Value) : Bool := match v with | .string s => decide (s.size ≤ 30) | _ => false

theorem strs_of {w : World} {cs : Array Value} {t : TypeId} (h : cs.toList.all smallStr = true) : ∀ i, i < cs.size → ∃ l : List UInt8, l.length ≤ 30 ∧ (w.alloc (.cells cs t)).cell? ⟨w.heap.size, i, none⟩ = some (.string ⟨l.toArray⟩) := by
  intro i hi
  have h1 := List.all_eq_true.1 h cs[i] (by simp)
  have h2 : ∃ l : List UInt8, l.length ≤ 30 ∧ cs[i] = .string ⟨l.toArray⟩ := by
    generalize cs[i] = v at h1
    match v, h1 with
    | .string s, h1 => exact ⟨s.data.toList, by rw [Array.length_toList]; exact of_decide_eq_true h1, rfl⟩
  obtain ⟨l, hl, e⟩ := h2
  exact ⟨l, hl, by rw [← e]; simp [hi]⟩

set_option maxHeartbeats 400000 in
theorem of_any (R c L len cap : Nat) (w : World) (h : Rd R c w) (hc : c ≤ 1000) (hL : L < w.heap.size) (hn : L ≠ R) (l1 : 1 ≤ len) (l2 : len ≤ 1000)
    (hl : ∀ i, i < len → ∃ l : List UInt8, l.length ≤ 30 ∧ w.cell? ⟨L, i, none⟩ = some (.string ⟨l.toArray⟩)) :
    Calls Tryz.prog 22 #[.pointer (some ⟨R, 0, none⟩), .slice (some ⟨L, 0, none⟩) len cap] w fun e w' => ∃ l : List UInt8, e = .returned (.string ⟨l.toArray⟩) ∧ l.length ≤ 30 ∧ Rd R (c + 1) w' ∧ Moved R w w' := by
  go_enter Tryz.func22, Tryz.ntmps22
  go_wp2_with fail
  refine (pick_any R c len w h (by omega) (by omega)).mono ?_
  rintro e w1 ⟨x, rfl, x0, x1, -, rd, mv⟩
  obtain ⟨i, rfl⟩ : ∃ i : Nat, x = i := ⟨x.toNat, by omega⟩
  have hi : i < len := by have := x1 (by omega); omega
  obtain ⟨l, hll, hz⟩ := hl i hi
  have ez : w1.cell? ⟨L, i, none⟩ = some (.string ⟨l.toArray⟩) := (mv.cell (p := ⟨L, i, none⟩) hL hn).trans hz
  clear x0 x1 hl hz h
  go_wp2
  go_ret
  exact ⟨l, rfl, hll, rd, mv⟩

theorem of_lit (R c : Nat) (cs : Array Value) (w : World) (q : Nat) (hq : q = w.heap.size) (h : Rd R c w) (hc : c ≤ 1000) (hcs : cs.toList.all smallStr = true) (l1 : 1 ≤ cs.size) (l2 : cs.size ≤ 1000) (n : Nat) (hn : n = cs.size) :
    Calls Tryz.prog 22 #[.pointer (some ⟨R, 0, none⟩), .slice (some ⟨q, 0, none⟩) n n] (w.alloc (.cells cs 9)) fun e w' => ∃ l : List UInt8, e = .returned (.string ⟨l.toArray⟩) ∧ l.length ≤ 30 ∧ Rd R (c + 1) w' ∧ Moved R w w' := by
  subst hq hn
  have hs := h.size
  refine (of_any R c w.heap.size cs.size cs.size _ (h.alloc _) hc (by simp) (by omega) l1 l2 (strs_of hcs)).mono ?_
  rintro e w' ⟨z, rfl, hz, rd, mv⟩
  exact ⟨z, rfl, hz, rd, (Moved.alloc R w _).trans mv⟩

end Go.Proofs.YtdhoimjkgicneaaGreatDoor
