/- Texts of this proof laid together: DrP, PutP. -/
import Derived.Test.YtdhoimjkgicneaaDoorLot25
import Derived.Deep.Cut
import Derived.Test.YtdhoimjkgicneaaDoorLot18
/- A drawn memory with an operand and a bit to put. -/
namespace Go.Proofs.YtdhoimjkgicneaaDoor
open Go Go.RowKit

theorem Dz.put {R c q : Nat} {w wr : World} (h : Dz R c w wr) (hq : R < q) (x y z : Value) : Dz R c w (wr.setCells q 0 [x, y, z]) := by
  have hz := h.zR
  exact ⟨((h.rd.setCell (a := ⟨q, 0, none⟩) hq x).setCell (a := ⟨q, 1, none⟩) hq y).setCell (a := ⟨q, 2, none⟩) hq z, setCells_below _ _ _ h.b (by omega), h.m.other (by omega), h.g.other (by omega), h.zR⟩

set_option maxRecDepth 100000 in
set_option maxHeartbeats 2000000 in
theorem draw_put (v : Value) (w : World) (h : CodeAt v w) :
    Calls Tryd.prog 38 #[v] w fun e w' => ∃ (m : MemV) (k n p : Int) (b : Bool), m.Ok ∧ e = .returned (.tuple #[.agg m.row, .agg #[.int .i64 k, .int .i64 n, .int .i64 p], .bool b]) ∧ Below w.heap.size w w' := by
  have h' : CodeAt v ((w.alloc (.cells Tryd.zeroCells61 61)).alloc (.cells #[.int .i64 0, .int .i64 0, .int .i64 0] 24)) := (h.below ((Below.refl w.heap.size w).alloc (Nat.le_refl _) _)).below ((Below.refl _ _).alloc (Nat.le_refl _) _)
  go_enter Tryd.func38, Tryd.ntmps38
  go_wp2_with fail
  refine (open_any v _ h').mono ?_
  rintro e w1 ⟨rfl, rd1, hb1⟩
  have D1 : Hid (Dz (w.heap.size + 1 + 1) 0 w w1) := dz_open rd1 hb1
  rw [show ((w.alloc (.cells Tryd.zeroCells61 61)).alloc (.cells #[.int .i64 0, .int .i64 0, .int .i64 0] 24)).heap.size = w.heap.size + 1 + 1 from by simp]
  clear rd1 hb1 h h'
  go_wp2_with fail
  refine (pick_any (w.heap.size + 1 + 1) 0 2 w1 D1.out.rd (by omega) (by omega)).mono ?_
  rintro e w2 ⟨x, rfl, -, -, -, rd2, mv2⟩
  have D2 : Hid (Dz (w.heap.size + 1 + 1) 1 w w2) := D1.out.call rd2 mv2
  clear rd2 mv2 D1
  go_wp2_with fail
  generalize (x == 1) = b
  refine (asks_any (w.heap.size + 1 + 1) 1 w2 D2.out.rd (by omega)).mono ?_
  rintro e w3 ⟨k, n, p, rfl, rd3, mv3⟩
  have D3 : Hid (Dz (w.heap.size + 1 + 1) 13 w w3) := D2.out.call rd3 mv3
  clear rd3 mv3 D2
  go_wp2_with fail
  have hz3 := D3.out.rd.size
  have A3 := ArgAt.alloc (.int .i64 k) (.int .i64 n) (.int .i64 p) w3 24
  have D4 : Hid (Dz (w.heap.size + 1 + 1) 13 w (w3.alloc (.cells #[.int .i64 k, .int .i64 n, .int .i64 p] 24))) := D3.out.alloc _
  clear D3
  generalize (w3.alloc (.cells #[.int .i64 k, .int .i64 n, .int .i64 p] 24)) = w4 at A3 D4 ⊢
  generalize w3.heap.size = q at A3 hz3 ⊢
  refine (pick_any (w.heap.size + 1 + 1) 13 2 w4 D4.out.rd (by omega) (by omega)).mono ?_
  rintro e w5 ⟨y, rfl, -, -, -, rd5, mv5⟩
  have A5 := A3.moved mv5 (by omega)
  have D5 : Hid (Dz (w.heap.size + 1 + 1) 14 w w5) := D4.out.call rd5 mv5
  clear rd5 mv5 D4 A3
  cases hy : y == 0 with
  | true =>
    go_wp2_with fail
    refine (pick_any (w.heap.size + 1 + 1) 14 4 w5 D5.out.rd (by omega) (by omega)).mono ?_
    rintro e w6 ⟨z, rfl, z0, z1, -, rd6, mv6⟩
    have A6 := A5.moved mv6 (by omega)
    have D6 : Hid (Dz (w.heap.size + 1 + 1) 15 w w6) := D5.out.call rd6 mv6
    clear rd6 mv6 D5 A5
    go_wp2_with fail
    refine (arg_any (w.heap.size + 1 + 1) 15 _ w6 D6.out.rd (by omega)).mono ?_
    rintro e w7 ⟨k', n', p', rfl, rd7, mv7⟩
    have A7 := A6.moved mv7 (by omega)
    have D7 : Hid (Dz (w.heap.size + 1 + 1) 19 w w7) := D6.out.call rd7 mv7
    clear rd7 mv7 D6 A6 z0 z1
    have L7 := A7.store (x' := .int .i64 k') (y' := .int .i64 n') (z' := .int .i64 p') rfl rfl rfl
    have A8 := A7.stored (.int .i64 k') (.int .i64 n') (.int .i64 p')
    have D8 : Hid (Dz (w.heap.size + 1 + 1) 19 w (w7.setCells q 0 [.int .i64 k', .int .i64 n', .int .i64 p'])) := D7.out.put hz3 _ _ _
    clear A7 D7
    go_upto_region 6 with (refine list_store (t := 24) (x := .pointer (some ⟨q, 0, none⟩)) (u := .agg #[.int .i64 k', .int .i64 n', .int .i64 p']) rfl rfl rfl rfl L7 ?_)
    simp only [Act.put]
    clear L7
    generalize w7.setCells q 0 [.int .i64 k', .int .i64 n', .int .i64 p'] = w8 at A8 D8 ⊢
    go_wp2_with fail
    have A2 := A8.drew
    have D3 : Hid (Dz (w.heap.size + 1 + 1) 19 w w8.drew) := D8.out.drew
    clear D8 A8
    refine wp_region_held (S := ArgAt q (.int .i64 k') (.int .i64 n') (.int .i64 p')) (by kernel_rfl) ?_
    refine held_any (fuel := 6) (i := 0) (v := .pointer (some ⟨w.heap.size + 1 + 1, 0, none⟩)) rfl (by kernel_rfl) (by kernel_rfl) (by kernel_rfl) rfl (fun _ _ _ h => h) (fun _ _ => rfl) A2 ?_
    go_simp
    refine held_load (fuel := 5) (i := 2) (t := 24) (v := .agg #[.int .i64 k', .int .i64 n', .int .i64 p']) rfl rfl rfl (by kernel_rfl) (by kernel_rfl) (by kernel_rfl) rfl (fun _ _ _ h => h) (fun w' hw' => hw'.load) A2 ?_
    go_simp
    refine held_any (fuel := 4) (i := 3) (v := .bool b) rfl (by kernel_rfl) (by kernel_rfl) (by kernel_rfl) rfl (fun _ _ _ h => h) (fun _ _ => rfl) A2 ?_
    go_simp
    refine wpAnyH_ready (rs := [1]) (by kernel_rfl) (by simp) ?_
    refine AllReadyH.cons rfl (fun K hK => ?_) AllReadyH.nil
    go_simp
    refine (draw_mem (w.heap.size + 1 + 1) 19 _ D3.out.rd (by omega)).mono ?_
    rintro e w13 ⟨m, hm, rfl, rd3, mv3⟩
    have A13 := A2.moved mv3 (by omega)
    have D14 : Hid (Dz (w.heap.size + 1 + 1) (19 + 200) w w13) := D3.out.call rd3 mv3
    clear rd3 mv3 D3 A2
    refine hK.out _ _ A13 (fun _ => ?_)
    clear hK K
    go_simp
    refine wpAnyH_ready (rs := [4]) (by kernel_rfl) (by simp) ?_
    refine AllReadyH.cons rfl (fun K hK => ?_) AllReadyH.nil
    rw [if_pos (by rfl)]
    have A4 := A13.other (c := w.heap.size) (o := 0) (vs := m.row.toList) (by omega)
    have M4 := D14.out.m.stored m
    have G4 := D14.out.g.other (c := w.heap.size) (o := 0) (vs := m.row.toList) (by omega)
    have B4 := setCells_below m.row.toList w.heap.size 0 D14.out.b (Nat.le_refl _)
    refine op_store rfl (store_mem m D14.out.m) ?_
    refine hK.out _ _ A4 (fun _ => ?_)
    clear hK K
    go_simp
    generalize w13.setCells w.heap.size 0 m.row.toList = w14 at A4 M4 G4 B4 ⊢
    have L5 := G4.store (x' := .int .i64 k') (y' := .int .i64 n') (z' := .int .i64 p') rfl rfl rfl
    refine wpAnyH_ready (rs := [5]) (by kernel_rfl) (by simp) ?_
    refine AllReadyH.cons rfl (fun K hK => ?_) AllReadyH.nil
    rw [if_pos (by rfl)]
    have A5 := A4.other (c := w.heap.size + 1) (o := 0) (vs := [.int .i64 k', .int .i64 n', .int .i64 p']) (by omega)
    have M5 := M4.other (c := w.heap.size + 1) (o := 0) (vs := [.int .i64 k', .int .i64 n', .int .i64 p']) (by omega)
    have G5 := G4.stored (.int .i64 k') (.int .i64 n') (.int .i64 p')
    have B5 := setCells_below [.int .i64 k', .int .i64 n', .int .i64 p'] (w.heap.size + 1) 0 B4 (by omega)
    refine op_store rfl L5 ?_
    refine hK.out _ _ A5 (fun _ => ?_)
    clear hK K L5 M4 G4 B4 A4
    go_simp
    generalize w14.setCells (w.heap.size + 1) 0 [.int .i64 k', .int .i64 n', .int .i64 p'] = w15 at A5 M5 G5 B5 ⊢
    refine wpAnyH_ready (rs := [6]) (by kernel_rfl) (by simp) ?_
    refine AllReadyH.cons rfl (fun K hK => ?_) AllReadyH.nil
    go_simp
    refine hK.out _ _ A5 (fun _ => ?_)
    clear hK K
    go_simp
    refine wpAnyH_done (by kernel_rfl) ?_ _
    go_wp2_with fail
    exact ret_three (c := 2) (c' := 3) (c'' := 4) rfl rfl rfl rfl rfl M5 G5 ⟨m, k', n', p', _, hm, rfl, B5⟩
  | false =>
    go_wp2_with fail
    have A2 := A5.drew
    have D3 : Hid (Dz (w.heap.size + 1 + 1) 14 w w5.drew) := D5.out.drew
    clear D5 A5
    refine wp_region_held (S := ArgAt q (.int .i64 k) (.int .i64 n) (.int .i64 p)) (by kernel_rfl) ?_
    refine held_any (fuel := 6) (i := 0) (v := .pointer (some ⟨w.heap.size + 1 + 1, 0, none⟩)) rfl (by kernel_rfl) (by kernel_rfl) (by kernel_rfl) rfl (fun _ _ _ h => h) (fun _ _ => rfl) A2 ?_
    go_simp
    refine held_load (fuel := 5) (i := 2) (t := 24) (v := .agg #[.int .i64 k, .int .i64 n, .int .i64 p]) rfl rfl rfl (by kernel_rfl) (by kernel_rfl) (by kernel_rfl) rfl (fun _ _ _ h => h) (fun w' hw' => hw'.load) A2 ?_
    go_simp
    refine held_any (fuel := 4) (i := 3) (v := .bool b) rfl (by kernel_rfl) (by kernel_rfl) (by kernel_rfl) rfl (fun _ _ _ h => h) (fun _ _ => rfl) A2 ?_
    go_simp
    refine wpAnyH_ready (rs := [1]) (by kernel_rfl) (by simp) ?_
    refine AllReadyH.cons rfl (fun K hK => ?_) AllReadyH.nil
    go_simp
    refine (draw_mem (w.heap.size + 1 + 1) 14 _ D3.out.rd (by omega)).mono ?_
    rintro e w13 ⟨m, hm, rfl, rd3, mv3⟩
    have A13 := A2.moved mv3 (by omega)
    have D14 : Hid (Dz (w.heap.size + 1 + 1) (14 + 200) w w13) := D3.out.call rd3 mv3
    clear rd3 mv3 D3 A2
    refine hK.out _ _ A13 (fun _ => ?_)
    clear hK K
    go_simp
    refine wpAnyH_ready (rs := [4]) (by kernel_rfl) (by simp) ?_
    refine AllReadyH.cons rfl (fun K hK => ?_) AllReadyH.nil
    rw [if_pos (by rfl)]
    have A4 := A13.other (c := w.heap.size) (o := 0) (vs := m.row.toList) (by omega)
    have M4 := D14.out.m.stored m
    have G4 := D14.out.g.other (c := w.heap.size) (o := 0) (vs := m.row.toList) (by omega)
    have B4 := setCells_below m.row.toList w.heap.size 0 D14.out.b (Nat.le_refl _)
    refine op_store rfl (store_mem m D14.out.m) ?_
    refine hK.out _ _ A4 (fun _ => ?_)
    clear hK K
    go_simp
    generalize w13.setCells w.heap.size 0 m.row.toList = w14 at A4 M4 G4 B4 ⊢
    have L5 := G4.store (x' := .int .i64 k) (y' := .int .i64 n) (z' := .int .i64 p) rfl rfl rfl
    refine wpAnyH_ready (rs := [5]) (by kernel_rfl) (by simp) ?_
    refine AllReadyH.cons rfl (fun K hK => ?_) AllReadyH.nil
    rw [if_pos (by rfl)]
    have A5 := A4.other (c := w.heap.size + 1) (o := 0) (vs := [.int .i64 k, .int .i64 n, .int .i64 p]) (by omega)
    have M5 := M4.other (c := w.heap.size + 1) (o := 0) (vs := [.int .i64 k, .int .i64 n, .int .i64 p]) (by omega)
    have G5 := G4.stored (.int .i64 k) (.int .i64 n) (.int .i64 p)
    have B5 := setCells_below [.int .i64 k, .int .i64 n, .int .i64 p] (w.heap.size + 1) 0 B4 (by omega)
    refine op_store rfl L5 ?_
    refine hK.out _ _ A5 (fun _ => ?_)
    clear hK K L5 M4 G4 B4 A4
    go_simp
    generalize w14.setCells (w.heap.size + 1) 0 [.int .i64 k, .int .i64 n, .int .i64 p] = w15 at A5 M5 G5 B5 ⊢
    refine wpAnyH_ready (rs := [6]) (by kernel_rfl) (by simp) ?_
    refine AllReadyH.cons rfl (fun K hK => ?_) AllReadyH.nil
    go_simp
    refine hK.out _ _ A5 (fun _ => ?_)
    clear hK K
    go_simp
    refine wpAnyH_done (by kernel_rfl) ?_ _
    go_wp2_with fail
    exact ret_three (c := 2) (c' := 3) (c'' := 4) rfl rfl rfl rfl rfl M5 G5 ⟨m, k, n, p, _, hm, rfl, B5⟩

end Go.Proofs.YtdhoimjkgicneaaDoor

/- A bit that is put: it is there, the others stand, and it can be put back. Of no one program's text. -/
namespace Go.Proofs.YtdhoimjkgicneaaDoor
open Go

theorem add_bit {y k : Nat} (h : y / 2 ^ k % 2 = 0) : (y + 2 ^ k) / 2 ^ k % 2 = 1 ∧ ∀ j, j ≠ k → (y + 2 ^ k) / 2 ^ j % 2 = y / 2 ^ j % 2 := by
  have hp : 0 < 2 ^ k := Nat.two_pow_pos k
  have e1 : (y + 2 ^ k) / 2 ^ k = y / 2 ^ k + 1 := Nat.add_div_right _ hp
  refine ⟨by rw [e1]; omega, fun j hj => ?_⟩
  rcases Nat.lt_or_gt_of_ne hj with hlt | hgt
  · have e2 : 2 ^ k = 2 ^ j * (2 * 2 ^ (k - 1 - j)) := by rw [← Nat.pow_succ', ← Nat.pow_add, show j + (k - 1 - j + 1) = k by omega]
    rw [e2, Nat.add_mul_div_left _ _ (Nat.two_pow_pos j)]
    omega
  · have e3 : 2 ^ j = 2 ^ k * (2 * 2 ^ (j - 1 - k)) := by rw [← Nat.pow_succ', ← Nat.pow_add, show k + (j - 1 - k + 1) = j by omega]
    rw [e3, ← Nat.div_div_eq_div_mul, ← Nat.div_div_eq_div_mul (m := y), e1, ← Nat.div_div_eq_div_mul, ← Nat.div_div_eq_div_mul (m := y / 2 ^ k), show (y / 2 ^ k + 1) / 2 = y / 2 ^ k / 2 by omega]

theorem turn_bit (x k : Nat) (b : Bool) : (turnN x k b / 2 ^ k % 2 == 1) = b ∧ (∀ j, j ≠ k → turnN x k b / 2 ^ j % 2 = x / 2 ^ j % 2) ∧ turnN (turnN x k b) k (x / 2 ^ k % 2 == 1) = x := by
  by_cases hb : (x / 2 ^ k % 2 == 1) = b
  · have e : turnN x k b = x := by unfold turnN; rw [if_pos hb]
    rw [e]
    exact ⟨hb, fun _ _ => rfl, by unfold turnN; rw [if_pos rfl]⟩
  · cases b with
    | true =>
      have h0 : x / 2 ^ k % 2 = 0 := by simp at hb; omega
      have e : turnN x k true = x + 2 ^ k := by unfold turnN; rw [if_neg hb, if_pos rfl]
      obtain ⟨h1, h2⟩ := add_bit h0
      rw [e]
      refine ⟨by rw [h1]; rfl, h2, ?_⟩
      unfold turnN
      rw [h1, h0, if_neg (by decide), if_neg (by decide)]
      omega
    | false =>
      have h0 : x / 2 ^ k % 2 = 1 := by simp at hb; omega
      have hle := turn_le h0
      have e : turnN x k false = x - 2 ^ k := by unfold turnN; rw [if_neg hb, if_neg (by decide)]
      obtain ⟨y, rfl⟩ : ∃ y, x = y + 2 ^ k := ⟨x - 2 ^ k, by omega⟩
      have hy : y / 2 ^ k % 2 = 0 := by
        have := Nat.add_div_right y (Nat.two_pow_pos k)
        rw [this] at h0
        omega
      obtain ⟨h1, h2⟩ := add_bit hy
      rw [e, Nat.add_sub_cancel]
      refine ⟨by rw [hy]; rfl, fun j hj => (h2 j hj).symm, ?_⟩
      unfold turnN
      rw [hy, h0, if_neg (by decide), if_pos (by decide)]

end Go.Proofs.YtdhoimjkgicneaaDoor
