/- Texts of this proof laid together: DrA0, DrB0. -/
import Derived.Test.YtdhoimjkgicneaaDoorLot2
import Derived.Test.YtdhoimjkgicneaaDoorLot3
import Derived.Test.YtdhoimjkgicneaaDoorLot6
import Derived.Test.YtdhoimjkgicneaaDoorLot13
/- A drawn memory: that the draw ends, and hands back some memory. -/
namespace Go.Proofs.YtdhoimjkgicneaaDoor
open Go Go.RowKit

/-- A reader, and two memories behind all that was there: nothing, for the answer, and some memory. -/
structure Dr (R c : Nat) (w wr : World) : Prop where
  rd : Rd R c wr
  mv : Moved R w wr
  m : MemSome (w.heap.size + 1) wr
  o : MemAt w.heap.size mem0 wr

theorem MemAt.moved {R b : Nat} {v : MemV} {w w' : World} (h : MemAt b v w) (mv : Moved R w w') (hn : b ≠ R) : MemAt b v w' :=
  h.of_block (mv.block b h.z hn) (Nat.lt_of_lt_of_le h.z mv.size)
theorem MemSome.moved {R b : Nat} {w w' : World} (h : MemSome b w) (mv : Moved R w w') (hn : b ≠ R) : MemSome b w' := by
  obtain ⟨v, hv, hA⟩ := h
  exact ⟨v, hv, hA.moved mv hn⟩

theorem Dr.call {R c c' : Nat} {w wr w2 : World} (h : Dr R c w wr) (hR : R < w.heap.size) (rd : Rd R c' w2) (mv : Moved R wr w2) : Dr R c' w w2 :=
  ⟨rd, h.mv.trans mv, h.m.moved mv (by omega), h.o.moved mv (by omega)⟩
theorem Dr.set {R c k : Nat} {w wr : World} {u : Value} (h : Dr R c w wr) (hR : R < w.heap.size) (hk : k < 136) (hu : fitC k u) : Dr R c w (wr.setCell ⟨w.heap.size + 1, k, none⟩ u) :=
  ⟨h.rd.setCell (by show R < w.heap.size + 1; omega) _, h.mv.setCell (by show w.heap.size ≤ w.heap.size + 1; omega) _, h.m.set hk hu,
    h.o.of_block (Below.heap_setCell _ _ _ _ (by simp)) (by simpa [World.setCell] using h.o.z)⟩
theorem Dr.mono {R c c' : Nat} {w wr : World} (h : Dr R c w wr) (hc : c ≤ c') : Dr R c' w wr := ⟨h.rd.mono hc, h.mv, h.m, h.o⟩

/-- What is written by a draw fits its cell. -/
theorem fit_u32 {k : Nat} (hk : k = 0 ∨ k = 1 ∨ k = 4 ∨ k = 133) (z : Int) : fitC k (.int .u32 (IntKind.u32.wrap z)) := by
  unfold fitC
  rw [if_pos hk]
  have : 0 ≤ IntKind.u32.wrap z ∧ IntKind.u32.wrap z < 4294967296 := by
    simp [IntKind.wrap, IntKind.bits, IntKind.signed]
    omega
  exact ⟨(IntKind.u32.wrap z).toNat, by omega, by rw [Int.toNat_of_nonneg this.1]⟩
theorem fit_u64 {z : Int} (h0 : 0 ≤ z) (h1 : z < 18446744073709551616) : fitC 2 (.int .u64 z) := by
  unfold fitC
  rw [if_neg (by omega), if_pos rfl]
  exact ⟨z.toNat, by omega, by rw [Int.toNat_of_nonneg h0]⟩
theorem wrap_u16 (z : Int) : 0 ≤ IntKind.u16.wrap z ∧ IntKind.u16.wrap z < 65536 := by
  simp [IntKind.wrap, IntKind.bits, IntKind.signed]
  omega
theorem fit_u16 (z : Int) : fitC 3 (.int .u16 (IntKind.u16.wrap z)) := by
  unfold fitC
  rw [if_neg (by omega), if_neg (by omega), if_pos rfl]
  exact ⟨(IntKind.u16.wrap z).toNat, by have := wrap_u16 z; omega, by rw [Int.toNat_of_nonneg (wrap_u16 z).1]⟩
theorem fit_tD {k : Nat} (hk : k < 16) (b : Bool) : fitC (5 + k * 2) (.bool b) := by
  unfold fitC
  rw [if_neg (by omega), if_neg (by omega), if_neg (by omega), if_pos (by omega), if_pos (by omega)]
  exact ⟨b, rfl⟩
theorem fit_tC {k : Nat} (hk : k < 16) (z : Int) : fitC (5 + k * 2 + 1) (.int .u16 (IntKind.u16.wrap z)) := by
  unfold fitC
  rw [if_neg (by omega), if_neg (by omega), if_neg (by omega), if_pos (by omega), if_neg (by omega)]
  exact ⟨(IntKind.u16.wrap z).toNat, by have := wrap_u16 z; omega, by rw [Int.toNat_of_nonneg (wrap_u16 z).1]⟩
theorem fit_cD {k : Nat} (hk : k < 16) (b : Bool) : fitC (37 + k * 3) (.bool b) := by
  unfold fitC
  rw [if_neg (by omega), if_neg (by omega), if_neg (by omega), if_neg (by omega), if_pos (by omega), if_neg (by omega)]
  exact ⟨b, rfl⟩
theorem fit_cL {k : Nat} (hk : k < 16) (b : Bool) : fitC (37 + k * 3 + 1) (.bool b) := by
  unfold fitC
  rw [if_neg (by omega), if_neg (by omega), if_neg (by omega), if_neg (by omega), if_pos (by omega), if_neg (by omega)]
  exact ⟨b, rfl⟩
theorem fit_cC {k : Nat} (hk : k < 16) (z : Int) : fitC (37 + k * 3 + 2) (.int .u16 (IntKind.u16.wrap z)) := by
  unfold fitC
  rw [if_neg (by omega), if_neg (by omega), if_neg (by omega), if_neg (by omega), if_pos (by omega), if_pos (by omega)]
  exact ⟨(IntKind.u16.wrap z).toNat, by have := wrap_u16 z; omega, by rw [Int.toNat_of_nonneg (wrap_u16 z).1]⟩
theorem fit_d {k : Nat} (hk : k < 32) {z : Int} (h1 : -32768 ≤ z) (h2 : z ≤ 32767) : fitC (85 + k) (.int .i16 z) := by
  unfold fitC
  rw [if_neg (by omega), if_neg (by omega), if_neg (by omega), if_neg (by omega), if_neg (by omega), if_pos (by omega)]
  exact ⟨z, h1, h2, rfl⟩
theorem fit_r {k : Nat} (hk : k < 16) {x : Nat} (h1 : x < 2 ^ 64) : fitC (117 + k) (.float .f64 x) := by
  unfold fitC
  rw [if_neg (by omega), if_neg (by omega), if_neg (by omega), if_neg (by omega), if_neg (by omega), if_neg (by omega), if_pos (by omega)]
  exact ⟨x, h1, rfl⟩
theorem fit_b {k : Nat} (hk : k = 134 ∨ k = 135) (b : Bool) : fitC k (.bool b) := by
  unfold fitC
  rw [if_neg (by omega), if_neg (by omega), if_neg (by omega), if_neg (by omega), if_neg (by omega), if_neg (by omega), if_neg (by omega)]
  exact ⟨b, rfl⟩

end Go.Proofs.YtdhoimjkgicneaaDoor

/- A drawn memory: the draw ends, and hands back some memory. -/
namespace Go.Proofs.YtdhoimjkgicneaaDoor
open Go Go.RowKit

theorem mem0_ok : mem0.Ok := ⟨by decide, by decide, by decide, by decide, by decide, fun _ => (by decide : 0 < 65536), fun _ => (by decide : 0 < 65536), fun _ => (by decide : (-32768 : Int) ≤ 0), fun _ => (by decide : (0 : Int) ≤ 32767), fun _ => Nat.two_pow_pos 64, by decide⟩

/-- What is behind two memories of nothing. -/
theorem draw_boxes (R c : Nat) (w : World) (t1 t2 : TypeId) (h : Rd R c w) :
    MemAt (w.heap.size + 1) mem0 ((w.alloc (.cells Tryd.zeroCells61 t1)).alloc (.cells Tryd.zeroCells61 t2)) ∧
    Dr R c w (((w.alloc (.cells Tryd.zeroCells61 t1)).alloc (.cells Tryd.zeroCells61 t2)).setCells (w.heap.size + 1) 0 mem0.row.toList) := by
  rw [zero_row]
  have h1 : ∀ (w : World) (o : Obj), Below w.heap.size w (w.alloc o) := fun w o => (Below.refl _ _).alloc (Nat.le_refl _) _
  have hR := h.size
  have a0 : MemAt w.heap.size mem0 ((w.alloc (.cells mem0.row t1)).alloc (.cells mem0.row t2)) := (MemAt.alloc mem0 w t1).below (h1 _ _) (by simp)
  have a1 : MemAt (w.heap.size + 1) mem0 ((w.alloc (.cells mem0.row t1)).alloc (.cells mem0.row t2)) := by
    have := MemAt.alloc mem0 (w.alloc (.cells mem0.row t1)) t2
    simpa using this
  have b0 : Below w.heap.size w ((w.alloc (.cells mem0.row t1)).alloc (.cells mem0.row t2)) := ((Below.refl w.heap.size w).alloc (Nat.le_refl _) _).alloc (by simp) _
  have b1 := setCells_below mem0.row.toList (w.heap.size + 1) 0 b0 (by omega)
  exact ⟨a1, h.below b1, Moved.of_below b1 (Nat.le_refl _), ⟨mem0, mem0_ok, a1.stored mem0⟩, a0.other (by omega)⟩

theorem Rd.setCells : ∀ (vs : List Value) {R c b o : Nat} {w : World}, Rd R c w → R < b → Rd R c (w.setCells b o vs)
  | [], _, _, _, _, _, h, _ => h
  | u :: r, R, c, b, o, w, h, hb => by
    have : (w.setCells b o (u :: r)) = (w.setCell ⟨b, o, none⟩ u).setCells b (o + 1) r := rfl
    rw [this]
    exact Rd.setCells r (h.setCell (a := ⟨b, o, none⟩) hb u) hb
theorem Moved.setCells : ∀ (vs : List Value) {R b o : Nat} {w w' : World}, Moved R w w' → w.heap.size ≤ b → Moved R w (w'.setCells b o vs)
  | [], _, _, _, _, _, h, _ => h
  | u :: r, R, b, o, w, w', h, hb => by
    have : (w'.setCells b o (u :: r)) = (w'.setCell ⟨b, o, none⟩ u).setCells b (o + 1) r := rfl
    rw [this]
    exact Moved.setCells r (h.setCell (a := ⟨b, o, none⟩) hb u) hb

/-- What is left behind a draw of a memory. -/
def DrawnM (R c : Nat) (w : World) (e : Ending) (w' : World) : Prop := ∃ v : MemV, v.Ok ∧ e = .returned (.agg v.row) ∧ Rd R (c + 200) w' ∧ Moved R w w'

theorem drawnM_of {R c c' : Nat} {w wr : World} {v : MemV} (D : Dr R c' w wr) (hR : R < w.heap.size) (hv : v.Ok) (hc : c' ≤ c + 200) : DrawnM R c w (.returned (.agg v.row)) (wr.setCells w.heap.size 0 v.row.toList) :=
  ⟨v, hv, rfl, Rd.setCells _ (D.rd.mono hc) hR, Moved.setCells _ D.mv (Nat.le_refl _)⟩

set_option maxRecDepth 100000 in
set_option maxHeartbeats 4000000 in
theorem draw_mem (R c : Nat) (w : World) (h : Rd R c w) (hc : c ≤ 300) :
    Calls Tryd.prog 90 #[.pointer (some ⟨R, 0, none⟩)] w (DrawnM R c w) := by
  obtain ⟨a1, D0⟩ := draw_boxes R c w 61 61 h
  have hR := h.size
  have DH : Hid (Dr R c w _) := D0
  clear D0 h
  go_enter Tryd.func90, Tryd.ntmps90
  go_wp2_with (refine list_store (t := 61) rfl rfl rfl rfl (store_mem mem0 a1) ?_)
  clear a1
  refine (pick_any R (c) 16 _ DH.out.rd (by omega) (by omega)).mono ?_
  rintro e w1 ⟨x, rfl, x0, x1, -, rd, mv⟩
  have x2 : x < 16 := x1 (by omega)
  have DH : Hid (Dr R (c + 1) w w1) := DH.out.call hR rd mv
  clear rd mv x1
  cases hx : x == 0 with
  | true =>
    obtain ⟨v, hv, hA⟩ := DH.out.m
    have O := DH.out.o
    have hR3 := O.stored v
    have hD : DrawnM R c w _ _ := drawnM_of DH.out hR hv (show c + 1 ≤ c + 200 by omega)
    go_wp2_with (first | refine list_load (t := 61) rfl rfl rfl (load_mem hA) ?_ | refine list_store (t := 61) rfl rfl rfl rfl (store_mem v O) ?_)
    exact ret_mem (c := 2) rfl rfl rfl hR3 hD
  | false =>
    go_wp2_with fail
    refine (word_all R (c + 1) _ DH.out.rd (by omega)).mono ?_
    rintro e w2 ⟨z, rfl, z0, z1, rd, mv⟩
    have DH : Hid (Dr R (c + 1 + 8) w w2) := DH.out.call hR rd mv
    clear rd mv
    obtain ⟨u0, hu0⟩ := DH.out.m.c (k := 0) (by omega)
    have hf0 := DH.out.m.f (k := 0) (by omega)
    have DH : Hid (Dr R (c + 1 + 8) w (w2.setCell ⟨w.heap.size + 1, 0, none⟩ (.int .u32 (IntKind.u32.wrap z)))) := (DH.out.set hR (k := 0) (by omega) (fit_u32 (by omega) z))
    go_wp2_with fail
    clear hu0 hf0 u0 z0 z1
    refine (word_all R (c + 1 + 8) _ DH.out.rd (by omega)).mono ?_
    rintro e w3 ⟨z, rfl, z0, z1, rd, mv⟩
    have DH : Hid (Dr R (c + 1 + 8 + 8) w w3) := DH.out.call hR rd mv
    clear rd mv
    obtain ⟨u0, hu0⟩ := DH.out.m.c (k := 1) (by omega)
    have hf0 := DH.out.m.f (k := 1) (by omega)
    have DH : Hid (Dr R (c + 1 + 8 + 8) w (w3.setCell ⟨w.heap.size + 1, 1, none⟩ (.int .u32 (IntKind.u32.wrap z)))) := (DH.out.set hR (k := 1) (by omega) (fit_u32 (by omega) z))
    go_wp2_with fail
    clear hu0 hf0 u0 z0 z1
    refine (word_all R (c + 1 + 8 + 8) _ DH.out.rd (by omega)).mono ?_
    rintro e w4 ⟨z, rfl, z0, z1, rd, mv⟩
    have DH : Hid (Dr R (c + 1 + 8 + 8 + 8) w w4) := DH.out.call hR rd mv
    clear rd mv
    obtain ⟨u0, hu0⟩ := DH.out.m.c (k := 2) (by omega)
    have hf0 := DH.out.m.f (k := 2) (by omega)
    have DH : Hid (Dr R (c + 1 + 8 + 8 + 8) w (w4.setCell ⟨w.heap.size + 1, 2, none⟩ (.int .u64 z))) := (DH.out.set hR (k := 2) (by omega) (fit_u64 z0 z1))
    go_wp2_with fail
    clear hu0 hf0 u0 z0 z1
    refine (word_all R (c + 1 + 8 + 8 + 8) _ DH.out.rd (by omega)).mono ?_
    rintro e w5 ⟨z, rfl, z0, z1, rd, mv⟩
    have DH : Hid (Dr R (c + 1 + 8 + 8 + 8 + 8) w w5) := DH.out.call hR rd mv
    clear rd mv
    obtain ⟨u0, hu0⟩ := DH.out.m.c (k := 3) (by omega)
    have hf0 := DH.out.m.f (k := 3) (by omega)
    have DH : Hid (Dr R (c + 1 + 8 + 8 + 8 + 8) w (w5.setCell ⟨w.heap.size + 1, 3, none⟩ (.int .u16 (IntKind.u16.wrap z)))) := (DH.out.set hR (k := 3) (by omega) (fit_u16 z))
    go_wp2_with fail
    clear hu0 hf0 u0 z0 z1
    refine (word_all R (c + 1 + 8 + 8 + 8 + 8) _ DH.out.rd (by omega)).mono ?_
    rintro e w6 ⟨z, rfl, z0, z1, rd, mv⟩
    have DH : Hid (Dr R (c + 1 + 8 + 8 + 8 + 8 + 8) w w6) := DH.out.call hR rd mv
    clear rd mv
    obtain ⟨u0, hu0⟩ := DH.out.m.c (k := 4) (by omega)
    have hf0 := DH.out.m.f (k := 4) (by omega)
    have DH : Hid (Dr R (c + 1 + 8 + 8 + 8 + 8 + 8) w (w6.setCell ⟨w.heap.size + 1, 4, none⟩ (.int .u32 (IntKind.u32.wrap z)))) := (DH.out.set hR (k := 4) (by omega) (fit_u32 (by omega) z))
    go_wp2_with fail
    clear hu0 hf0 u0 z0 z1
    go_loopw [4, 5] (fun i j wr => ∃ k : Nat, k ≤ 4 ∧ i = .int .i64 k ∧ Dr R (c + 41 + 25 * k) w wr) (fun i _ _ => 4 - (intOf i).toNat)
    case atStart => exact ⟨0, by omega, rfl, DH.out⟩
    case round =>
      clear DH
      obtain ⟨k, hk, rfl, D⟩ := hrel
      have DH : Hid (Dr R (c + 41 + 25 * k) w wr) := D
      clear D
      by_cases hlt : k < 4
      · go_wp2_with fail
        refine (pick_any R (c + 41 + 25 * k) 4 _ DH.out.rd (by omega) (by omega)).mono ?_
        rintro e v1 ⟨y, rfl, y0, y1, -, rd, mv⟩
        have y2 : y < 4 := y1 (by omega)
        have DH : Hid (Dr R (c + 41 + 25 * k + 1) w v1) := DH.out.call hR rd mv
        clear rd mv y1
        by_cases h3 : k = 3
        · subst h3
          go_wp2_with fail
          clear y0 y2
          refine (pick_any R (c + 41 + 25 * 3 + 1) 16 _ DH.out.rd (by omega) (by omega)).mono ?_
          rintro e v2 ⟨y, rfl, y0, y1, -, rd, mv⟩
          have y2 : y < 16 := y1 (by omega)
          have DH : Hid (Dr R (c + 41 + 25 * 3 + 1 + 1) w v2) := DH.out.call hR rd mv
          clear rd mv y1
          obtain ⟨j, rfl⟩ : ∃ j : Nat, y = j := ⟨y.toNat, by omega⟩
          have hj : j < 16 := by omega
          go_wp2_with fail
          refine (pick_any R (c + 41 + 25 * 3 + 1 + 1) 2 _ DH.out.rd (by omega) (by omega)).mono ?_
          rintro e v3 ⟨p, rfl, p0, p1, -, rd, mv⟩
          have p2 : p < 2 := p1 (by omega)
          have DH : Hid (Dr R (c + 41 + 25 * 3 + 1 + 1 + 1) w v3) := DH.out.call hR rd mv
          clear rd mv p1
          go_wp2_with fail
          refine (num_lit R (c + 41 + 25 * 3 + 1 + 1 + 1) _ _ _ (by simp) DH.out.rd (by omega) (by simp) (by simp) (by simp) 7 rfl).mono ?_
          rintro e v4 ⟨z, rfl, rd, mv⟩
          have DH : Hid (Dr R (c + 41 + 25 * 3 + 1 + 1 + 1 + 1) w v4) := DH.out.call hR rd mv
          clear rd mv
          obtain ⟨u0, hu0⟩ := DH.out.m.c (k := 5 + j * 2) (by omega)
          have hf0 := DH.out.m.f (k := 5 + j * 2) (by omega)
          obtain ⟨u1, hu1⟩ := DH.out.m.c (k := 5 + j * 2 + 1) (by omega)
          have hf1 := DH.out.m.f (k := 5 + j * 2 + 1) (by omega)
          have DH : Hid (Dr R (c + 41 + 25 * 3 + 1 + 1 + 1 + 1) w ((v4.setCell ⟨w.heap.size + 1, 5 + j * 2, none⟩ (.bool (p == 1))).setCell ⟨w.heap.size + 1, 5 + j * 2 + 1, none⟩ (.int .u16 (IntKind.u16.wrap z)))) := ((DH.out.set hR (k := 5 + j * 2) (by omega) (fit_tD hj _)).set hR (k := 5 + j * 2 + 1) (by omega) (fit_tC hj z))
          go_wp2_with fail
          clear hu0 hf0 u0 hu1 hf1 u1
          refine (pick_any R (c + 41 + 25 * 3 + 1 + 1 + 1 + 1) 2 _ DH.out.rd (by omega) (by omega)).mono ?_
          rintro e v5 ⟨q, rfl, q0, q1, -, rd, mv⟩
          have q2 : q < 2 := q1 (by omega)
          have DH : Hid (Dr R (c + 41 + 25 * 3 + 1 + 1 + 1 + 1 + 1) w v5) := DH.out.call hR rd mv
          clear rd mv q1
          go_wp2_with fail
          refine (pick_any R (c + 41 + 25 * 3 + 1 + 1 + 1 + 1 + 1) 2 _ DH.out.rd (by omega) (by omega)).mono ?_
          rintro e v6 ⟨o, rfl, o0, o1, -, rd, mv⟩
          have o2 : o < 2 := o1 (by omega)
          have DH : Hid (Dr R (c + 41 + 25 * 3 + 1 + 1 + 1 + 1 + 1 + 1) w v6) := DH.out.call hR rd mv
          clear rd mv o1
          go_wp2_with fail
          refine (num_lit R (c + 41 + 25 * 3 + 1 + 1 + 1 + 1 + 1 + 1) _ _ _ (by simp) DH.out.rd (by omega) (by simp) (by simp) (by simp) 7 rfl).mono ?_
          rintro e v7 ⟨z, rfl, rd, mv⟩
          have DH : Hid (Dr R (c + 41 + 25 * 3 + 1 + 1 + 1 + 1 + 1 + 1 + 1) w v7) := DH.out.call hR rd mv
          clear rd mv
          obtain ⟨u0, hu0⟩ := DH.out.m.c (k := 37 + j * 3) (by omega)
          have hf0 := DH.out.m.f (k := 37 + j * 3) (by omega)
          obtain ⟨u1, hu1⟩ := DH.out.m.c (k := 37 + j * 3 + 1) (by omega)
          have hf1 := DH.out.m.f (k := 37 + j * 3 + 1) (by omega)
          obtain ⟨u2, hu2⟩ := DH.out.m.c (k := 37 + j * 3 + 2) (by omega)
          have hf2 := DH.out.m.f (k := 37 + j * 3 + 2) (by omega)
          have DH : Hid (Dr R (c + 41 + 25 * 3 + 1 + 1 + 1 + 1 + 1 + 1 + 1) w (((v7.setCell ⟨w.heap.size + 1, 37 + j * 3, none⟩ (.bool (q == 1))).setCell ⟨w.heap.size + 1, 37 + j * 3 + 1, none⟩ (.bool (o == 1))).setCell ⟨w.heap.size + 1, 37 + j * 3 + 2, none⟩ (.int .u16 (IntKind.u16.wrap z)))) := (((DH.out.set hR (k := 37 + j * 3) (by omega) (fit_cD hj _)).set hR (k := 37 + j * 3 + 1) (by omega) (fit_cL hj _)).set hR (k := 37 + j * 3 + 2) (by omega) (fit_cC hj z))
          go_wp2_with fail
          clear hu0 hf0 u0 hu1 hf1 u1 hu2 hf2 u2
          refine (whole_any R (c + 41 + 25 * 3 + 1 + 1 + 1 + 1 + 1 + 1 + 1) _ DH.out.rd (by omega)).mono ?_
          rintro e v8 ⟨z, rfl, z0, z1, rd, mv⟩
          have DH : Hid (Dr R (c + 41 + 25 * 3 + 1 + 1 + 1 + 1 + 1 + 1 + 1 + 2) w v8) := DH.out.call hR rd mv
          clear rd mv
          obtain ⟨u0, hu0⟩ := DH.out.m.c (k := 85 + j) (by omega)
          have hf0 := DH.out.m.f (k := 85 + j) (by omega)
          have DH : Hid (Dr R (c + 41 + 25 * 3 + 1 + 1 + 1 + 1 + 1 + 1 + 1 + 2) w (v8.setCell ⟨w.heap.size + 1, 85 + j, none⟩ (.int .i16 z))) := (DH.out.set hR (k := 85 + j) (by omega) (fit_d (by omega) z0 z1))
          go_wp2_with fail
          clear hu0 hf0 u0 z0 z1
          refine (real_all R (c + 41 + 25 * 3 + 1 + 1 + 1 + 1 + 1 + 1 + 1 + 2) _ DH.out.rd (by omega)).mono ?_
          rintro e v9 ⟨z, rfl, z1, rd, mv⟩
          have DH : Hid (Dr R (c + 41 + 25 * 3 + 1 + 1 + 1 + 1 + 1 + 1 + 1 + 2 + 12) w v9) := DH.out.call hR rd mv
          clear rd mv
          obtain ⟨u0, hu0⟩ := DH.out.m.c (k := 117 + j) (by omega)
          have hf0 := DH.out.m.f (k := 117 + j) (by omega)
          have s0 := store_float (z := z) hu0 hf0
          have DH : Hid (Dr R (c + 41 + 25 * 3 + 1 + 1 + 1 + 1 + 1 + 1 + 1 + 2 + 12) w (v9.setCell ⟨w.heap.size + 1, 117 + j, none⟩ (.float .f64 z))) := (DH.out.set hR (k := 117 + j) (by omega) (fit_r hj z1))
          clear z1
          go_wp2_with fail
          go_roundw
          case rel => exact ⟨4, by omega, by go_num, DH.out.mono (by omega)⟩
          case measure => simp [intOf]
        · have y3 : y < 16 := by omega
          have hk3 : ((k : Int) == 3) = false := by simp; omega
          obtain ⟨j, rfl⟩ : ∃ j : Nat, y = j := ⟨y.toNat, by omega⟩
          have hj : j < 16 := by omega
          go_wp2_with fail
          refine (pick_any R (c + 41 + 25 * k + 1) 2 _ DH.out.rd (by omega) (by omega)).mono ?_
          rintro e v3 ⟨p, rfl, p0, p1, -, rd, mv⟩
          have p2 : p < 2 := p1 (by omega)
          have DH : Hid (Dr R (c + 41 + 25 * k + 1 + 1) w v3) := DH.out.call hR rd mv
          clear rd mv p1
          go_wp2_with fail
          refine (num_lit R (c + 41 + 25 * k + 1 + 1) _ _ _ (by simp) DH.out.rd (by omega) (by simp) (by simp) (by simp) 7 rfl).mono ?_
          rintro e v4 ⟨z, rfl, rd, mv⟩
          have DH : Hid (Dr R (c + 41 + 25 * k + 1 + 1 + 1) w v4) := DH.out.call hR rd mv
          clear rd mv
          obtain ⟨u0, hu0⟩ := DH.out.m.c (k := 5 + j * 2) (by omega)
          have hf0 := DH.out.m.f (k := 5 + j * 2) (by omega)
          obtain ⟨u1, hu1⟩ := DH.out.m.c (k := 5 + j * 2 + 1) (by omega)
          have hf1 := DH.out.m.f (k := 5 + j * 2 + 1) (by omega)
          have DH : Hid (Dr R (c + 41 + 25 * k + 1 + 1 + 1) w ((v4.setCell ⟨w.heap.size + 1, 5 + j * 2, none⟩ (.bool (p == 1))).setCell ⟨w.heap.size + 1, 5 + j * 2 + 1, none⟩ (.int .u16 (IntKind.u16.wrap z)))) := ((DH.out.set hR (k := 5 + j * 2) (by omega) (fit_tD hj _)).set hR (k := 5 + j * 2 + 1) (by omega) (fit_tC hj z))
          go_wp2_with fail
          clear hu0 hf0 u0 hu1 hf1 u1
          refine (pick_any R (c + 41 + 25 * k + 1 + 1 + 1) 2 _ DH.out.rd (by omega) (by omega)).mono ?_
          rintro e v5 ⟨q, rfl, q0, q1, -, rd, mv⟩
          have q2 : q < 2 := q1 (by omega)
          have DH : Hid (Dr R (c + 41 + 25 * k + 1 + 1 + 1 + 1) w v5) := DH.out.call hR rd mv
          clear rd mv q1
          go_wp2_with fail
          refine (pick_any R (c + 41 + 25 * k + 1 + 1 + 1 + 1) 2 _ DH.out.rd (by omega) (by omega)).mono ?_
          rintro e v6 ⟨o, rfl, o0, o1, -, rd, mv⟩
          have o2 : o < 2 := o1 (by omega)
          have DH : Hid (Dr R (c + 41 + 25 * k + 1 + 1 + 1 + 1 + 1) w v6) := DH.out.call hR rd mv
          clear rd mv o1
          go_wp2_with fail
          refine (num_lit R (c + 41 + 25 * k + 1 + 1 + 1 + 1 + 1) _ _ _ (by simp) DH.out.rd (by omega) (by simp) (by simp) (by simp) 7 rfl).mono ?_
          rintro e v7 ⟨z, rfl, rd, mv⟩
          have DH : Hid (Dr R (c + 41 + 25 * k + 1 + 1 + 1 + 1 + 1 + 1) w v7) := DH.out.call hR rd mv
          clear rd mv
          obtain ⟨u0, hu0⟩ := DH.out.m.c (k := 37 + j * 3) (by omega)
          have hf0 := DH.out.m.f (k := 37 + j * 3) (by omega)
          obtain ⟨u1, hu1⟩ := DH.out.m.c (k := 37 + j * 3 + 1) (by omega)
          have hf1 := DH.out.m.f (k := 37 + j * 3 + 1) (by omega)
          obtain ⟨u2, hu2⟩ := DH.out.m.c (k := 37 + j * 3 + 2) (by omega)
          have hf2 := DH.out.m.f (k := 37 + j * 3 + 2) (by omega)
          have DH : Hid (Dr R (c + 41 + 25 * k + 1 + 1 + 1 + 1 + 1 + 1) w (((v7.setCell ⟨w.heap.size + 1, 37 + j * 3, none⟩ (.bool (q == 1))).setCell ⟨w.heap.size + 1, 37 + j * 3 + 1, none⟩ (.bool (o == 1))).setCell ⟨w.heap.size + 1, 37 + j * 3 + 2, none⟩ (.int .u16 (IntKind.u16.wrap z)))) := (((DH.out.set hR (k := 37 + j * 3) (by omega) (fit_cD hj _)).set hR (k := 37 + j * 3 + 1) (by omega) (fit_cL hj _)).set hR (k := 37 + j * 3 + 2) (by omega) (fit_cC hj z))
          go_wp2_with fail
          clear hu0 hf0 u0 hu1 hf1 u1 hu2 hf2 u2
          refine (whole_any R (c + 41 + 25 * k + 1 + 1 + 1 + 1 + 1 + 1) _ DH.out.rd (by omega)).mono ?_
          rintro e v8 ⟨z, rfl, z0, z1, rd, mv⟩
          have DH : Hid (Dr R (c + 41 + 25 * k + 1 + 1 + 1 + 1 + 1 + 1 + 2) w v8) := DH.out.call hR rd mv
          clear rd mv
          obtain ⟨u0, hu0⟩ := DH.out.m.c (k := 85 + j) (by omega)
          have hf0 := DH.out.m.f (k := 85 + j) (by omega)
          have DH : Hid (Dr R (c + 41 + 25 * k + 1 + 1 + 1 + 1 + 1 + 1 + 2) w (v8.setCell ⟨w.heap.size + 1, 85 + j, none⟩ (.int .i16 z))) := (DH.out.set hR (k := 85 + j) (by omega) (fit_d (by omega) z0 z1))
          go_wp2_with fail
          clear hu0 hf0 u0 z0 z1
          refine (real_all R (c + 41 + 25 * k + 1 + 1 + 1 + 1 + 1 + 1 + 2) _ DH.out.rd (by omega)).mono ?_
          rintro e v9 ⟨z, rfl, z1, rd, mv⟩
          have DH : Hid (Dr R (c + 41 + 25 * k + 1 + 1 + 1 + 1 + 1 + 1 + 2 + 12) w v9) := DH.out.call hR rd mv
          clear rd mv
          obtain ⟨u0, hu0⟩ := DH.out.m.c (k := 117 + j) (by omega)
          have hf0 := DH.out.m.f (k := 117 + j) (by omega)
          have s0 := store_float (z := z) hu0 hf0
          have DH : Hid (Dr R (c + 41 + 25 * k + 1 + 1 + 1 + 1 + 1 + 1 + 2 + 12) w (v9.setCell ⟨w.heap.size + 1, 117 + j, none⟩ (.float .f64 z))) := (DH.out.set hR (k := 117 + j) (by omega) (fit_r hj z1))
          clear z1
          go_wp2_with fail
          go_roundw
          case rel => exact ⟨k + 1, by omega, by go_num, DH.out.mono (by omega)⟩
          case measure => simp [intOf]; omega
      · have e : k = 4 := by omega
        subst e
        go_wp2_with fail
        refine (pick_any R (c + 41 + 25 * 4) 32 _ DH.out.rd (by omega) (by omega)).mono ?_
        rintro e v1 ⟨y, rfl, y0, y1, -, rd, mv⟩
        have y2 : y < 32 := y1 (by omega)
        have DH : Hid (Dr R (c + 41 + 25 * 4 + 1) w v1) := DH.out.call hR rd mv
        clear rd mv y1
        obtain ⟨j, rfl⟩ : ∃ j : Nat, y = j := ⟨y.toNat, by omega⟩
        have hj : j < 32 := by omega
        go_wp2_with fail
        refine (whole_any R (c + 41 + 25 * 4 + 1) _ DH.out.rd (by omega)).mono ?_
        rintro e v2 ⟨z, rfl, z0, z1, rd, mv⟩
        have DH : Hid (Dr R (c + 41 + 25 * 4 + 1 + 2) w v2) := DH.out.call hR rd mv
        clear rd mv
        obtain ⟨u0, hu0⟩ := DH.out.m.c (k := 85 + j) (by omega)
        have hf0 := DH.out.m.f (k := 85 + j) (by omega)
        have DH : Hid (Dr R (c + 41 + 25 * 4 + 1 + 2) w (v2.setCell ⟨w.heap.size + 1, 85 + j, none⟩ (.int .i16 z))) := (DH.out.set hR (k := 85 + j) (by omega) (fit_d hj z0 z1))
        go_wp2_with fail
        clear hu0 hf0 u0 z0 z1 hj y0 y2
        refine (pick_any R (c + 41 + 25 * 4 + 1 + 2) 16 _ DH.out.rd (by omega) (by omega)).mono ?_
        rintro e v3 ⟨o, rfl, o0, o1, -, rd, mv⟩
        have o2 : o < 16 := o1 (by omega)
        have DH : Hid (Dr R (c + 41 + 25 * 4 + 1 + 2 + 1) w v3) := DH.out.call hR rd mv
        clear rd mv o1
        obtain ⟨i, rfl⟩ : ∃ i : Nat, o = i := ⟨o.toNat, by omega⟩
        have hi : i < 16 := by omega
        go_wp2_with fail
        refine (real_all R (c + 41 + 25 * 4 + 1 + 2 + 1) _ DH.out.rd (by omega)).mono ?_
        rintro e v4 ⟨z, rfl, z1, rd, mv⟩
        have DH : Hid (Dr R (c + 41 + 25 * 4 + 1 + 2 + 1 + 12) w v4) := DH.out.call hR rd mv
        clear rd mv
        obtain ⟨u0, hu0⟩ := DH.out.m.c (k := 117 + i) (by omega)
        have hf0 := DH.out.m.f (k := 117 + i) (by omega)
        have s0 := store_float (z := z) hu0 hf0
        have DH : Hid (Dr R (c + 41 + 25 * 4 + 1 + 2 + 1 + 12) w (v4.setCell ⟨w.heap.size + 1, 117 + i, none⟩ (.float .f64 z))) := (DH.out.set hR (k := 117 + i) (by omega) (fit_r hi z1))
        clear z1
        go_wp2_with fail
        clear hu0 hf0 u0 s0
        refine (num_lit R (c + 41 + 25 * 4 + 1 + 2 + 1 + 12) _ _ _ (by simp) DH.out.rd (by omega) (by simp) (by simp) (by simp) 8 rfl).mono ?_
        rintro e v5 ⟨z, rfl, rd, mv⟩
        have DH : Hid (Dr R (c + 41 + 25 * 4 + 1 + 2 + 1 + 12 + 1) w v5) := DH.out.call hR rd mv
        clear rd mv
        obtain ⟨u0, hu0⟩ := DH.out.m.c (k := 133) (by omega)
        have hf0 := DH.out.m.f (k := 133) (by omega)
        have DH : Hid (Dr R (c + 41 + 25 * 4 + 1 + 2 + 1 + 12 + 1) w (v5.setCell ⟨w.heap.size + 1, 133, none⟩ (.int .u32 (IntKind.u32.wrap z)))) := (DH.out.set hR (k := 133) (by omega) (fit_u32 (by omega) z))
        go_wp2_with fail
        clear hu0 hf0 u0
        refine (pick_any R (c + 41 + 25 * 4 + 1 + 2 + 1 + 12 + 1) 3 _ DH.out.rd (by omega) (by omega)).mono ?_
        rintro e v6 ⟨p, rfl, p0, p1, -, rd, mv⟩
        have p2 : p < 3 := p1 (by omega)
        have DH : Hid (Dr R (c + 41 + 25 * 4 + 1 + 2 + 1 + 12 + 1 + 1) w v6) := DH.out.call hR rd mv
        clear rd mv p1
        obtain ⟨u0, hu0⟩ := DH.out.m.c (k := 134) (by omega)
        have hf0 := DH.out.m.f (k := 134) (by omega)
        have DH : Hid (Dr R (c + 41 + 25 * 4 + 1 + 2 + 1 + 12 + 1 + 1) w (v6.setCell ⟨w.heap.size + 1, 134, none⟩ (.bool (decide (0 < p))))) := (DH.out.set hR (k := 134) (by omega) (fit_b (by omega) _))
        go_wp2_with fail
        clear hu0 hf0 u0
        refine (pick_any R (c + 41 + 25 * 4 + 1 + 2 + 1 + 12 + 1 + 1) 4 _ DH.out.rd (by omega) (by omega)).mono ?_
        rintro e v7 ⟨q, rfl, q0, q1, -, rd, mv⟩
        have q2 : q < 4 := q1 (by omega)
        have DH : Hid (Dr R (c + 41 + 25 * 4 + 1 + 2 + 1 + 12 + 1 + 1 + 1) w v7) := DH.out.call hR rd mv
        clear rd mv q1
        obtain ⟨u0, hu0⟩ := DH.out.m.c (k := 135) (by omega)
        have hf0 := DH.out.m.f (k := 135) (by omega)
        have DH : Hid (Dr R (c + 41 + 25 * 4 + 1 + 2 + 1 + 12 + 1 + 1 + 1) w (v7.setCell ⟨w.heap.size + 1, 135, none⟩ (.bool (q == 0)))) := (DH.out.set hR (k := 135) (by omega) (fit_b (by omega) _))
        obtain ⟨v, hv, hA⟩ := DH.out.m
        have O := DH.out.o
        have hR3 := O.stored v
        have hD : DrawnM R c w _ _ := drawnM_of DH.out hR hv (show c + 41 + 25 * 4 + 1 + 2 + 1 + 12 + 1 + 1 + 1 ≤ c + 200 by omega)
        go_wp2_with (first | refine list_load (t := 61) rfl rfl rfl (load_mem hA) ?_ | refine list_store (t := 61) rfl rfl rfl rfl (store_mem v O) ?_)
        exact ret_mem (c := 2) rfl rfl rfl hR3 hD

end Go.Proofs.YtdhoimjkgicneaaDoor
