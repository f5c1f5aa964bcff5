/- Drawn slots and stores. -/
import Derived.Test.YtdhoimjkgicneabHolX
import Derived.Test.YtdhoimjkgicneabHolO
import Derived.Test.YtdhoimjkgicneabHolT
namespace Go.Proofs.Ytdhoimjkgicneab
open Go Go.RowKit

set_option maxRecDepth 100000 in
set_option maxHeartbeats 2000000 in
theorem slot_draw (R c : Nat) (w : World) (h : Rd R c w) (hc : c ≤ 800) :
    Calls Try.prog 62 #[.pointer (some ⟨R, 0, none⟩)] w fun e w' => ∃ (s : Sl) (d : Value), e = .returned (slV s d) ∧ s.mark ≤ 255 ∧ s.turn ≤ 255 ∧ Few s.data ∧ Own w.heap.size d s.data w' ∧ Rd R (c + 16) w' ∧ Moved R w w' := by
  have hR := h.size
  have HD : Hid (Rd R c w) := h
  clear h
  go_enter Try.func62, Try.ntmps62
  go_wp2_with fail
  refine (num_lit R c _ (w.alloc (.cells #[.int .u8 0, .int .u8 0, .slice none 0 0] 24)) (w.heap.size + 1) (by simp) (HD.out.alloc _) (by omega) (by simp) (by simp) (by simp) 5 rfl).mono ?_
  rintro e w1 ⟨z1, rfl, rd1, mv1⟩
  obtain ⟨q0, q1, q2, f0, f1, f2, zz, mw1⟩ := boxM mv1 hR
  obtain ⟨y1, hy1, hy1', hy1''⟩ := byte_of z1
  have H1 : Hid (Rd R (c + 1) w1 ∧ Moved R w w1) := ⟨rd1, mw1⟩
  clear rd1 mv1 mw1
  go_wp2_with fail
  refine (num_lit R (c + 1) _ w1 w1.heap.size rfl H1.out.1 (by omega) (by simp) (by simp) (by simp) 6 rfl).mono ?_
  rintro e w2 ⟨z2, rfl, rd2, mv2⟩
  obtain ⟨y2, hy2, hy2', hy2''⟩ := byte_of z2
  have k0 := (mv2.cell (p := ⟨w.heap.size, 0, none⟩) zz (by show w.heap.size ≠ R; omega)).trans q0
  have k1 := (mv2.cell (p := ⟨w.heap.size, 1, none⟩) zz (by show w.heap.size ≠ R; omega)).trans q1
  have k2 := (mv2.cell (p := ⟨w.heap.size, 2, none⟩) zz (by show w.heap.size ≠ R; omega)).trans q2
  have g0 := (mv2.frozen (p := ⟨w.heap.size, 0, none⟩) zz (by show w.heap.size ≠ R; omega)).trans f0
  have g1 := (mv2.frozen (p := ⟨w.heap.size, 1, none⟩) zz (by show w.heap.size ≠ R; omega)).trans f1
  have g2 := (mv2.frozen (p := ⟨w.heap.size, 2, none⟩) zz (by show w.heap.size ≠ R; omega)).trans f2
  have z2' : w.heap.size < w2.heap.size := by have := mv2.size; omega
  have H2 : Hid (Rd R (c + 2) w2 ∧ Moved R w w2) := ⟨rd2, H1.out.2.trans mv2⟩
  clear rd2 mv2 q0 q1 q2 f0 f1 f2 H1
  go_wp2_with fail
  refine (data_draw R (c + 2) w2 H2.out.1 (by omega)).mono ?_
  rintro e w3 ⟨dv, xs, rfl, o3, few, rd3, mv3⟩
  have r0 := (mv3.cell (p := ⟨w.heap.size, 0, none⟩) z2' (by show w.heap.size ≠ R; omega)).trans k0
  have r1 := (mv3.cell (p := ⟨w.heap.size, 1, none⟩) z2' (by show w.heap.size ≠ R; omega)).trans k1
  have r2 := (mv3.cell (p := ⟨w.heap.size, 2, none⟩) z2' (by show w.heap.size ≠ R; omega)).trans k2
  have p0 := (mv3.frozen (p := ⟨w.heap.size, 0, none⟩) z2' (by show w.heap.size ≠ R; omega)).trans g0
  have p1 := (mv3.frozen (p := ⟨w.heap.size, 1, none⟩) z2' (by show w.heap.size ≠ R; omega)).trans g1
  have p2 := (mv3.frozen (p := ⟨w.heap.size, 2, none⟩) z2' (by show w.heap.size ≠ R; omega)).trans g2
  have H3 : Hid (Few xs ∧ Own w2.heap.size dv xs w3 ∧ Rd R (c + 16) w3 ∧ Moved R w w3) := ⟨few, o3, rd3.mono (by omega), H2.out.2.trans mv3⟩
  obtain ⟨ad, cd, rfl⟩ := own_size o3
  clear rd3 mv3 few o3 H2 k0 k1 k2 g0 g1 g2
  go_wp2_with fail
  obtain ⟨few, o3, rd3, mv3⟩ := H3.out
  have nd : (Value.slice ad xs.length cd).ownBlock ≠ some w.heap.size := fun e => by have := (World.ownsRow.lt o3 _ e).1; omega
  refine bodyPost_ret (v := .agg #[.int .u8 (y1 : Int), .int .u8 (y2 : Int), .slice ad xs.length cd]) (by simp [results, Try.results62, go_sem, r0, r1, r2]) rfl ?_
  obtain ⟨s1, s2⟩ := set3 rd3 mv3 hR (Nat.le_refl _) w.heap.size (Nat.le_refl _) (.int .u8 (y1 : Int)) (.int .u8 (y2 : Int)) (.slice ad xs.length cd)
  exact ⟨⟨y1, y2, xs⟩, _, rfl, hy1'', hy2'', few, (((o3.mono (by omega)).setCell nd _).setCell nd _).setCell nd _, s1, s2⟩

end Go.Proofs.Ytdhoimjkgicneab
