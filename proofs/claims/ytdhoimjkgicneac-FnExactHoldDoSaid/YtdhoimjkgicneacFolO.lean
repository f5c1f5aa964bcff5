/- The program's HoldDo. -/
import Derived.Test.YtdhoimjkgicneacHolM
import Derived.Test.YtdhoimjkgicneacHolV
import Derived.Test.YtdhoimjkgicneacHolN
namespace Go.Proofs.Ytdhoimjkgicneac
open Go Go.RowKit

set_option maxRecDepth 100000 in
set_option maxHeartbeats 2000000 in
theorem do_sep (v : Value) (r : Ro) (x : Wr) (w : World) (h : RomAt v r w) (hx : x.byte ≤ 255) :
    Calls Try.prog 15 #[v, wrV x] w fun e w' => ∃ da db, e = .returned (romV (r.write x) da db) ∧ Own w.heap.size da (r.write x).a.data w' ∧ Own w.heap.size db (r.write x).b.data w' ∧ RoOk (r.write x) ∧ (∀ k, da.ownBlock = some k → db.ownBlock ≠ some k) ∧ Below w.heap.size w w' := by
  have HR : Hid (RomAt v r w) := h
  obtain ⟨ok, da, db, rfl, ha, hb'⟩ := h
  obtain ⟨aa, ca, rfl⟩ := ha.len
  obtain ⟨ab, cb, rfl⟩ := hb'.len
  clear ha hb' ok
  simp only [romV, wrV] at HR ⊢
  have b0 : Below w.heap.size w ((((w.alloc (.cells #[.int .u8 (r.a.mark : Int), .int .u8 (r.a.turn : Int), .slice aa r.a.data.length ca, .int .u8 (r.b.mark : Int), .int .u8 (r.b.turn : Int), .slice ab r.b.data.length cb] 32)).alloc (.cells #[.int .i64 x.kind, .int .i64 x.slot, .int .u8 (x.byte : Int)] 35)).alloc (.cells #[.int .u8 0, .int .u8 0, .slice none 0 0, .int .u8 0, .int .u8 0, .slice none 0 0] 32)).alloc (.cells #[.int .i64 x.kind, .int .i64 x.slot, .int .u8 (x.byte : Int)] 35)) := ((((Below.refl w.heap.size w).alloc (Nat.le_refl _) _).alloc (by simp) _).alloc (by simp; omega) _).alloc (by simp; omega) _
  have HW : Hid (WritesAt (.slice (some ⟨w.heap.size + 1 + 1 + 1, 0, none⟩) 1 1) [x] ((((w.alloc (.cells #[.int .u8 (r.a.mark : Int), .int .u8 (r.a.turn : Int), .slice aa r.a.data.length ca, .int .u8 (r.b.mark : Int), .int .u8 (r.b.turn : Int), .slice ab r.b.data.length cb] 32)).alloc (.cells #[.int .i64 x.kind, .int .i64 x.slot, .int .u8 (x.byte : Int)] 35)).alloc (.cells #[.int .u8 0, .int .u8 0, .slice none 0 0, .int .u8 0, .int .u8 0, .slice none 0 0] 32)).alloc (.cells #[.int .i64 x.kind, .int .i64 x.slot, .int .u8 (x.byte : Int)] 35))) := by
    refine Or.inl ⟨w.heap.size + 1 + 1 + 1, 0, 1, rfl, by simp, by simp, fun i y hy => ?_⟩
    match i, hy with
    | 0, hy =>
      simp at hy
      subst hy
      exact ⟨by simp [go_sem], by simp [go_sem], by simp [go_sem]⟩
  have HP : Hid (r.play ([x].take (1 : Int).toNat) = r.write x) := (show _ = _ from rfl)
  go_enter Try.func15, Try.ntmps15
  go_wp2_with fail
  refine (play_sep _ _ r [x] 1 _ (HR.out.below b0 (Nat.le_refl _)) HW.out (by simpa using hx) (by simp)).mono ?_
  rintro e w5 ⟨g1, g2, rfl, o1, o2, ok2, nn2, b5⟩
  rw [HP.out] at o1 o2 ok2 ⊢
  have e0 : ((((w.alloc (.cells #[.int .u8 (r.a.mark : Int), .int .u8 (r.a.turn : Int), .slice aa r.a.data.length ca, .int .u8 (r.b.mark : Int), .int .u8 (r.b.turn : Int), .slice ab r.b.data.length cb] 32)).alloc (.cells #[.int .i64 x.kind, .int .i64 x.slot, .int .u8 (x.byte : Int)] 35)).alloc (.cells #[.int .u8 0, .int .u8 0, .slice none 0 0, .int .u8 0, .int .u8 0, .slice none 0 0] 32)).alloc (.cells #[.int .i64 x.kind, .int .i64 x.slot, .int .u8 (x.byte : Int)] 35)).heap.size = w.heap.size + 4 := by simp
  rw [e0] at o1 o2 b5
  have rc : ∀ j, j < 6 → ∃ v, w5.cell? ⟨w.heap.size + 1 + 1, j, none⟩ = some v := fun j hj => by
    rw [b5.cell (p := ⟨w.heap.size + 1 + 1, j, none⟩) (by show w.heap.size + 1 + 1 < _; omega)]
    match j, hj with
    | 0, _ => exact ⟨_, by simp [go_sem]; rfl⟩
    | 1, _ => exact ⟨_, by simp [go_sem]; rfl⟩
    | 2, _ => exact ⟨_, by simp [go_sem]; rfl⟩
    | 3, _ => exact ⟨_, by simp [go_sem]; rfl⟩
    | 4, _ => exact ⟨_, by simp [go_sem]; rfl⟩
    | 5, _ => exact ⟨_, by simp [go_sem]; rfl⟩
  have rf : ∀ j, w5.frozen? ⟨w.heap.size + 1 + 1, j, none⟩ = false := fun j => by
    rw [b5.frozen (p := ⟨w.heap.size + 1 + 1, j, none⟩) (by show w.heap.size + 1 + 1 < _; omega)]; simp [go_sem]
  obtain ⟨v0, r0⟩ := rc 0 (by omega)
  obtain ⟨v1, r1⟩ := rc 1 (by omega)
  obtain ⟨v2, r2⟩ := rc 2 (by omega)
  obtain ⟨v3, r3⟩ := rc 3 (by omega)
  obtain ⟨v4, r4⟩ := rc 4 (by omega)
  obtain ⟨v5, r5⟩ := rc 5 (by omega)
  have f0 := rf 0
  have f1 := rf 1
  have f2 := rf 2
  have f3 := rf 3
  have f4 := rf 4
  have f5 := rf 5
  obtain ⟨r', hr'⟩ : ∃ r', r' = r.write x := ⟨_, rfl⟩
  have HE : Hid (r.write x = r') := hr'.symm
  rw [← hr'] at o1 o2 ok2 ⊢
  have H5 : Hid (Own (w.heap.size + 4) g1 r'.a.data w5 ∧ Own (w.heap.size + 4) g2 r'.b.data w5 ∧ RoOk r' ∧ Below w.heap.size w w5 ∧ (∀ k, g1.ownBlock = some k → g2.ownBlock ≠ some k)) := ⟨o1, o2, ok2, b0.trans (b5.mono (by omega)), nn2⟩
  obtain ⟨a1, k1, rfl⟩ := own_size o1
  obtain ⟨a2, k2, rfl⟩ := own_size o2
  clear rc rf o1 o2 ok2 nn2 b5 b0 e0 hr' HP
  simp only [romV]
  go_wp2_with fail
  obtain ⟨x1, x2, x3, x4, x5⟩ := H5.out
  refine bodyPost_ret (v := romV r' (.slice a1 r'.a.data.length k1) (.slice a2 r'.b.data.length k2)) (by simp [results, Try.results15, go_sem, romV, r0, r1, r2, r3, r4, r5]) rfl ?_
  rw [HE.out]
  exact ⟨_, _, rfl, set6_own (x1.mono (by omega)) (fun e => by have := (World.ownsRow.lt x1 _ e).1; omega) _ _ _ _ _ _, set6_own (x2.mono (by omega)) (fun e => by have := (World.ownsRow.lt x2 _ e).1; omega) _ _ _ _ _ _, x3, x5, set6_below x4 (by omega) _ _ _ _ _ _⟩

theorem do_impl (v : Value) (r : Ro) (x : Wr) (w : World) (h : RomAt v r w) (hx : x.byte ≤ 255) :
    Calls Try.prog 15 #[v, wrV x] w fun e w' => ∃ da db, e = .returned (romV (r.write x) da db) ∧ Own w.heap.size da (r.write x).a.data w' ∧ Own w.heap.size db (r.write x).b.data w' ∧ RoOk (r.write x) ∧ Below w.heap.size w w' :=
  (do_sep v r x w h hx).mono fun _ _ ⟨da, db, h1, h2, h3, h4, _, h6⟩ => ⟨da, db, h1, h2, h3, h4, h6⟩

end Go.Proofs.Ytdhoimjkgicneac
