/- A drawn store and drawn bytes. -/
import Derived.Test.YtdhoimjkgicneabHolZ
import Derived.Test.YtdhoimjkgicneabDrawO
namespace Go.Proofs.Ytdhoimjkgicneab
open Go Go.RowKit

theorem set6_block {Q B : Nat} {w : World} (hB : B ≠ Q) (v0 v1 v2 v3 v4 v5 : Value) :
    ((((((w.setCell ⟨Q, 0, none⟩ v0).setCell ⟨Q, 1, none⟩ v1).setCell ⟨Q, 2, none⟩ v2).setCell ⟨Q, 3, none⟩ v3).setCell ⟨Q, 4, none⟩ v4).setCell ⟨Q, 5, none⟩ v5).heap[B]? = w.heap[B]? :=
  (Below.heap_setCell _ ⟨Q, 5, none⟩ _ B hB).trans ((Below.heap_setCell _ ⟨Q, 4, none⟩ _ B hB).trans ((Below.heap_setCell _ ⟨Q, 3, none⟩ _ B hB).trans ((Below.heap_setCell _ ⟨Q, 2, none⟩ _ B hB).trans ((Below.heap_setCell _ ⟨Q, 1, none⟩ _ B hB).trans (Below.heap_setCell _ ⟨Q, 0, none⟩ _ B hB)))))

set_option maxRecDepth 100000 in
set_option maxHeartbeats 2000000 in
theorem draw_hplan (v : Value) (w : World) (h : CodeAt v w) :
    Calls Try.prog 9 #[v] w fun e w' => ∃ (r : Ro) (da db dv : Value) (xs : List Nat), e = .returned (.tuple #[romV r da db, dv]) ∧ RoOk r ∧ BytesAt da r.a.data w' ∧ BytesAt db r.b.data w' ∧ BytesAt dv xs w' ∧ Few xs ∧ Below w.heap.size w w' := by
  go_enter Try.func9, Try.ntmps9
  go_wp2_with fail
  have b0 : Below w.heap.size w (w.alloc (.cells #[.int .u8 0, .int .u8 0, .slice none 0 0, .int .u8 0, .int .u8 0, .slice none 0 0] 26)) := (Below.refl _ _).alloc (Nat.le_refl _) _
  refine (open_any v _ (h.below b0)).mono ?_
  rintro e w1 ⟨rfl, rd1, b1⟩
  have e0 : (w.alloc (.cells #[.int .u8 0, .int .u8 0, .slice none 0 0, .int .u8 0, .int .u8 0, .slice none 0 0] 26)).heap.size = w.heap.size + 1 := by simp
  rw [e0] at rd1 b1
  have rc : ∀ j, j < 6 → (w1.cell? ⟨w.heap.size, j, none⟩).isSome = true := fun j hj => by
    rw [b1.cell (p := ⟨w.heap.size, j, none⟩) (by show w.heap.size < _; omega)]
    match j, hj with
    | 0, _ => simp
    | 1, _ => simp
    | 2, _ => simp
    | 3, _ => simp
    | 4, _ => simp
    | 5, _ => simp
  have rf : ∀ j, w1.frozen? ⟨w.heap.size, j, none⟩ = false := fun j => by
    rw [b1.frozen (p := ⟨w.heap.size, j, none⟩) (by show w.heap.size < _; omega)]; simp
  have H1 : Hid (Rd (w.heap.size + 1) 0 w1 ∧ Below w.heap.size w w1 ∧ (∀ j, j < 6 → (w1.cell? ⟨w.heap.size, j, none⟩).isSome = true) ∧ ∀ j, w1.frozen? ⟨w.heap.size, j, none⟩ = false) := ⟨rd1, b0.trans (b1.mono (by omega)), rc, rf⟩
  have z1 : w.heap.size + 1 < w1.heap.size := rd1.size
  clear rd1 b1 b0 rc rf h
  go_wp2_with fail
  refine (draw_rom (w.heap.size + 1) 0 w1 H1.out.1 (by omega)).mono ?_
  rintro e w2 ⟨r, da, db, rfl, ok, oa, ob, rd2, mv2⟩
  have z2 : w1.heap.size ≤ w2.heap.size := mv2.size
  have H2 : Hid (RoOk r ∧ Own w1.heap.size da r.a.data w2 ∧ Own w1.heap.size db r.b.data w2 ∧ Rd (w.heap.size + 1) 90 w2 ∧ Moved (w.heap.size + 1) w1 w2) := ⟨ok, oa, ob, rd2, mv2⟩
  obtain ⟨aa, ca, rfl⟩ := own_size oa
  obtain ⟨ab, cb, rfl⟩ := own_size ob
  clear ok oa ob rd2 mv2
  simp only [romV]
  go_wp2_with fail
  have hS : RomBox w2.heap.size 0 r (.slice aa r.a.data.length ca) (.slice ab r.b.data.length cb) (w2.alloc (.cells #[.int .u8 (r.a.mark : Int), .int .u8 (r.a.turn : Int), .slice aa r.a.data.length ca, .int .u8 (r.b.mark : Int), .int .u8 (r.b.turn : Int), .slice ab r.b.data.length cb] 26)).drew := (box_new r _ _ w2 _).of_block rfl
  have HR : Hid (Rd (w.heap.size + 1) 90 (w2.alloc (.cells #[.int .u8 (r.a.mark : Int), .int .u8 (r.a.turn : Int), .slice aa r.a.data.length ca, .int .u8 (r.b.mark : Int), .int .u8 (r.b.turn : Int), .slice ab r.b.data.length cb] 26)).drew) := (H2.out.2.2.2.1.alloc _).drew
  have HM : Hid (Moved (w.heap.size + 1) w1 (w2.alloc (.cells #[.int .u8 (r.a.mark : Int), .int .u8 (r.a.turn : Int), .slice aa r.a.data.length ca, .int .u8 (r.b.mark : Int), .int .u8 (r.b.turn : Int), .slice ab r.b.data.length cb] 26)).drew) := (H2.out.2.2.2.2.alloc' _).drew
  have HA : Hid (Own w1.heap.size (.slice aa r.a.data.length ca) r.a.data (w2.alloc (.cells #[.int .u8 (r.a.mark : Int), .int .u8 (r.a.turn : Int), .slice aa r.a.data.length ca, .int .u8 (r.b.mark : Int), .int .u8 (r.b.turn : Int), .slice ab r.b.data.length cb] 26)).drew ∧ Own w1.heap.size (.slice ab r.b.data.length cb) r.b.data (w2.alloc (.cells #[.int .u8 (r.a.mark : Int), .int .u8 (r.a.turn : Int), .slice aa r.a.data.length ca, .int .u8 (r.b.mark : Int), .int .u8 (r.b.turn : Int), .slice ab r.b.data.length cb] 26)).drew) := ⟨World.ownsRow.drew (World.ownsRow.alloc H2.out.2.1 _), World.ownsRow.drew (World.ownsRow.alloc H2.out.2.2.1 _)⟩
  refine wp_region_held (S := RomBox w2.heap.size 0 r (.slice aa r.a.data.length ca) (.slice ab r.b.data.length cb)) (by kernel_rfl) ?_
  refine held_load (fuel := 4) (i := 0) (t := 26) (v := romV r (.slice aa r.a.data.length ca) (.slice ab r.b.data.length cb)) rfl rfl rfl (by kernel_rfl) (by kernel_rfl) (by kernel_rfl) rfl (fun _ _ _ h => h) (fun w' hw' => load_rom hw') hS ?_
  go_simp
  refine held_any (fuel := 3) (i := 1) (v := .pointer (some ⟨w.heap.size + 1, 0, none⟩)) rfl (by kernel_rfl) (by kernel_rfl) (by kernel_rfl) rfl (fun _ _ _ h => h) (fun _ _ => rfl) hS ?_
  go_simp
  refine wpAnyH_ready (rs := [2]) (by kernel_rfl) (by simp) ?_
  refine AllReadyH.cons rfl (fun K hK => ?_) AllReadyH.nil
  go_simp
  refine (data_draw (w.heap.size + 1) 90 _ HR.out (by omega)).mono ?_
  rintro e w3 ⟨dv, xs, rfl, o3, few, rd3, mv3⟩
  have hS3 : RomBox w2.heap.size 0 r (.slice aa r.a.data.length ca) (.slice ab r.b.data.length cb) w3 := hS.moved mv3 (by omega)
  have mv13 : Moved (w.heap.size + 1) w1 w3 := HM.out.trans mv3
  have rc2 : ∀ j, j < 6 → ∃ v, w3.cell? ⟨w.heap.size, j, none⟩ = some v := fun j hj => by
    rw [mv13.cell (p := ⟨w.heap.size, j, none⟩) (by show w.heap.size < _; omega) (by show w.heap.size ≠ _; omega)]
    exact Option.isSome_iff_exists.1 (H1.out.2.2.1 j hj)
  have rf2 : ∀ j, w3.frozen? ⟨w.heap.size, j, none⟩ = false := fun j => (mv13.frozen (p := ⟨w.heap.size, j, none⟩) (by show w.heap.size < _; omega) (by show w.heap.size ≠ _; omega)).trans (H1.out.2.2.2 j)
  obtain ⟨v0, r0⟩ := rc2 0 (by omega)
  obtain ⟨v1, r1⟩ := rc2 1 (by omega)
  obtain ⟨v2, r2⟩ := rc2 2 (by omega)
  obtain ⟨v3, r3⟩ := rc2 3 (by omega)
  obtain ⟨v4, r4⟩ := rc2 4 (by omega)
  obtain ⟨v5, r5⟩ := rc2 5 (by omega)
  have f0 := rf2 0
  have f1 := rf2 1
  have f2 := rf2 2
  have f3 := rf2 3
  have f4 := rf2 4
  have f5 := rf2 5
  have H3 : Hid (RoOk r ∧ Own w1.heap.size (.slice aa r.a.data.length ca) r.a.data w3 ∧ Own w1.heap.size (.slice ab r.b.data.length cb) r.b.data w3 ∧ Own w1.heap.size dv xs w3 ∧ Few xs ∧ Below w.heap.size w w3) := by
    refine ⟨H2.out.1, HA.out.1.moved mv3 (by omega), HA.out.2.moved mv3 (by omega), o3.mono ?_, few, H1.out.2.1.trans (mv13.below (by omega) (by omega))⟩
    show w1.heap.size ≤ (w2.alloc (.cells #[.int .u8 (r.a.mark : Int), .int .u8 (r.a.turn : Int), .slice aa r.a.data.length ca, .int .u8 (r.b.mark : Int), .int .u8 (r.b.turn : Int), .slice ab r.b.data.length cb] 26)).heap.size
    simp; omega
  obtain ⟨ad, cd, rfl⟩ := own_size o3
  refine hK.out _ _ hS3 (fun _ => ?_)
  clear hK K o3 few rd3 mv3 mv13 rc2 rf2 H1 H2 HR HM HA
  simp only [romV]
  go_simp
  refine wpAnyH_ready (rs := [3]) (by kernel_rfl) (by simp) ?_
  refine AllReadyH.cons rfl (fun K hK => ?_) AllReadyH.nil
  go_simp
  have hS4 : RomBox w2.heap.size 0 r (.slice aa r.a.data.length ca) (.slice ab r.b.data.length cb) ((((((w3.setCell ⟨w.heap.size, 0, none⟩ (.int .u8 (r.a.mark : Int))).setCell ⟨w.heap.size, 1, none⟩ (.int .u8 (r.a.turn : Int))).setCell ⟨w.heap.size, 2, none⟩ (.slice aa r.a.data.length ca)).setCell ⟨w.heap.size, 3, none⟩ (.int .u8 (r.b.mark : Int))).setCell ⟨w.heap.size, 4, none⟩ (.int .u8 (r.b.turn : Int))).setCell ⟨w.heap.size, 5, none⟩ (.slice ab r.b.data.length cb)) := hS3.of_block (set6_block (by omega) _ _ _ _ _ _)
  refine hK.out _ _ hS4 (fun _ => ?_)
  clear hK K
  go_simp
  refine held_any (fuel := 0) (i := 4) (v := .slice ad xs.length cd) rfl (by kernel_rfl) (by kernel_rfl) (by kernel_rfl) rfl (fun _ _ _ h => h) (fun _ _ => rfl) hS4 ?_
  go_simp
  refine wpAnyH_done (by kernel_rfl) ?_ _
  clear hS hS3 hS4
  go_wp2_with fail
  obtain ⟨ok, oa, ob, od, few, bl⟩ := H3.out
  refine bodyPost_ret (v := .tuple #[romV r (.slice aa r.a.data.length ca) (.slice ab r.b.data.length cb), .slice ad xs.length cd]) (by simp [results, Try.results9, go_sem, romV, r0, r1, r2, r3, r4, r5]) rfl ?_
  exact ⟨r, _, _, _, xs, rfl, ok, (set6_own oa (fun e => by have := (World.ownsRow.lt oa _ e).1; omega) _ _ _ _ _ _).at, (set6_own ob (fun e => by have := (World.ownsRow.lt ob _ e).1; omega) _ _ _ _ _ _).at, (set6_own od (fun e => by have := (World.ownsRow.lt od _ e).1; omega) _ _ _ _ _ _).at, few, set6_below bl (Nat.le_refl _) _ _ _ _ _ _⟩

end Go.Proofs.Ytdhoimjkgicneab
