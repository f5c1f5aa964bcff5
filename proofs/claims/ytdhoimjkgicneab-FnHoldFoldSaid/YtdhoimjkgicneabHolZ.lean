/- Drawn stores. -/
import Derived.Test.YtdhoimjkgicneabHolY
namespace Go.Proofs.Ytdhoimjkgicneab
open Go Go.RowKit

theorem load_rom {B : Nat} {r : Ro} {da db : Value} {w : World} (h : RomBox B 0 r da db w) :
    (Instr.loadAt 26 (.pointer (some ⟨B, 0, none⟩))).run Try.prog w = .ok (romV r da db) w := by
  obtain ⟨z, c0, c1, c2, c3, c4, c5⟩ := h
  simp only [Nat.zero_add] at c1 c2 c3 c4 c5
  simp [go_sem, c0, c1, c2, c3, c4, c5, romV]

theorem RomBox.six {B : Nat} {r : Ro} {da db : Value} {w : World} (h : RomBox B 0 r da db w) :
    w.cell? ⟨B, 0, none⟩ = some (.int .u8 (r.a.mark : Int)) ∧ w.cell? ⟨B, 1, none⟩ = some (.int .u8 (r.a.turn : Int)) ∧ w.cell? ⟨B, 2, none⟩ = some da ∧ w.cell? ⟨B, 3, none⟩ = some (.int .u8 (r.b.mark : Int)) ∧ w.cell? ⟨B, 4, none⟩ = some (.int .u8 (r.b.turn : Int)) ∧ w.cell? ⟨B, 5, none⟩ = some db := by
  obtain ⟨z, c0, c1, c2, c3, c4, c5⟩ := h
  simp only [Nat.zero_add] at c1 c2 c3 c4 c5
  exact ⟨c0, c1, c2, c3, c4, c5⟩

theorem RomBox.moved {R B : Nat} {r : Ro} {da db : Value} {w w' : World} (h : RomBox B 0 r da db w) (hm : Moved R w w') (hR : B ≠ R) : RomBox B 0 r da db w' := h.of_block (hm.block B h.z hR)

/-- What holds while a store is played. -/
structure RomD (R c V : Nat) (w0 : World) (r : Ro) (da db : Value) (wr : World) : Prop where
  box : RomBox V 0 r da db wr
  fr : ∀ j, wr.frozen? ⟨V, j, none⟩ = false
  oa : Own (V + 1) da r.a.data wr
  ob : Own (V + 1) db r.b.data wr
  ok : RoOk r
  rd : Rd R c wr
  mv : Moved R w0 wr
  rc : ∀ j, j < 6 → (wr.cell? ⟨w0.heap.size, j, none⟩).isSome = true
  rf : ∀ j, wr.frozen? ⟨w0.heap.size, j, none⟩ = false
  hV : w0.heap.size < V
  hR : R < w0.heap.size

theorem RomD.moved {R c c' V : Nat} {w0 : World} {r : Ro} {da db : Value} {wr w' : World} (h : RomD R c V w0 r da db wr) (hm : Moved R wr w') (hr : Rd R c' w') : RomD R c' V w0 r da db w' := by
  have hV := h.hV
  have hR := h.hR
  have z0 : w0.heap.size < wr.heap.size := by have := h.box.z; omega
  exact ⟨h.box.moved hm (by omega), fun j => (hm.frozen (p := ⟨V, j, none⟩) h.box.z (by show V ≠ R; omega)).trans (h.fr j), h.oa.moved hm (by omega), h.ob.moved hm (by omega), h.ok, hr, h.mv.trans hm,
    fun j hj => by rw [hm.cell (p := ⟨w0.heap.size, j, none⟩) z0 (by show w0.heap.size ≠ R; omega)]; exact h.rc j hj, fun j => (hm.frozen (p := ⟨w0.heap.size, j, none⟩) z0 (by show w0.heap.size ≠ R; omega)).trans (h.rf j), h.hV, h.hR⟩
theorem RomD.below {R c V : Nat} {w0 : World} {r : Ro} {da db : Value} {wr w' : World} (h : RomD R c V w0 r da db wr) (hb : Below wr.heap.size wr w') : RomD R c V w0 r da db w' :=
  h.moved (Moved.of_below hb (Nat.le_refl _)) (h.rd.below hb)
theorem RomD.rom {R c V : Nat} {w0 : World} {r : Ro} {da db : Value} {wr : World} (h : RomD R c V w0 r da db wr) : RomAt (romV r da db) r wr := ⟨h.ok, da, db, rfl, h.oa.at, h.ob.at⟩

def RomRel (R c V : Nat) (w0 : World) (iv : Value) (wr : World) : Prop := ∃ (i : Nat) (r : Ro) (da db : Value), i ≤ 5 ∧ iv = .int .i64 (i : Int) ∧ RomD R (c + 2 + 16 * (5 - i)) V w0 r da db wr

theorem set6_rd {R Q c : Nat} {w : World} (h : Rd R c w) (hQ : R < Q) (v0 v1 v2 v3 v4 v5 : Value) :
    Rd R c ((((((w.setCell ⟨Q, 0, none⟩ v0).setCell ⟨Q, 1, none⟩ v1).setCell ⟨Q, 2, none⟩ v2).setCell ⟨Q, 3, none⟩ v3).setCell ⟨Q, 4, none⟩ v4).setCell ⟨Q, 5, none⟩ v5) :=
  (((((h.setCell hQ _).setCell hQ _).setCell hQ _).setCell hQ _).setCell hQ _).setCell hQ _
theorem set6_moved {R Q : Nat} {w0 w : World} (h : Moved R w0 w) (hQ : w0.heap.size ≤ Q) (v0 v1 v2 v3 v4 v5 : Value) :
    Moved R w0 ((((((w.setCell ⟨Q, 0, none⟩ v0).setCell ⟨Q, 1, none⟩ v1).setCell ⟨Q, 2, none⟩ v2).setCell ⟨Q, 3, none⟩ v3).setCell ⟨Q, 4, none⟩ v4).setCell ⟨Q, 5, none⟩ v5) :=
  (((((h.setCell hQ _).setCell hQ _).setCell hQ _).setCell hQ _).setCell hQ _).setCell hQ _

/-- A plan's writes, or none. -/
theorem plan_writes {B : Nat} {r : Ro} {xs : List Nat} {u : Value} {q : Bool} {w : World} (hf : Few xs) (h : (xs.length ≤ 20100 ∧ q = true ∧ OwnW B u (r.plan xs) w) ∨ (¬ xs.length ≤ 20100 ∧ q = false ∧ u = .slice none 0 0)) :
    ∃ ws, OwnW B u ws w ∧ (∀ x ∈ ws, x.byte ≤ 255) ∧ ws.length ≤ 30000 := by
  rcases h with ⟨h1, -, h3⟩ | ⟨-, -, rfl⟩
  · refine ⟨r.plan xs, h3, plan_bytes r hf, ?_⟩
    rw [plan_len, now_tail]
    split <;> omega
  · exact ⟨[], World.ownsRow_nil w B 42 3, by simp, by simp⟩

theorem OwnW.moved {R base : Nat} {w w' : World} {v : Value} {ws : List Wr} (h : OwnW base v ws w) (hm : Moved R w w') (hR : R < base) : OwnW base v ws w' :=
  h.kept fun g hg => hm.block g (h.lt hg).2 (by have := (h.lt hg).1; omega)

set_option maxRecDepth 100000 in
set_option maxHeartbeats 3000000 in
theorem draw_rom (R c : Nat) (w : World) (h : Rd R c w) (hc : c ≤ 500) :
    Calls Try.prog 32 #[.pointer (some ⟨R, 0, none⟩)] w fun e w' => ∃ (r : Ro) (da db : Value), e = .returned (romV r da db) ∧ RoOk r ∧ Own w.heap.size da r.a.data w' ∧ Own w.heap.size db r.b.data w' ∧ Rd R (c + 90) w' ∧ Moved R w w' := by
  have hR := h.size
  have HD : Hid (Rd R c w) := h
  clear h
  go_enter Try.func32, Try.ntmps32
  go_wp2_with fail
  refine (pick_any R c 3 _ (HD.out.alloc _) (by omega) (by omega)).mono ?_
  rintro e w1 ⟨y, rfl, y0, y1, -, rd, mv⟩
  have rcell : ∀ j, j < 6 → (w1.cell? ⟨w.heap.size, j, none⟩).isSome = true := fun j hj => by
    rw [mv.cell (p := ⟨w.heap.size, j, none⟩) (by simp) (by show w.heap.size ≠ R; omega)]
    match j, hj with
    | 0, _ => simp
    | 1, _ => simp
    | 2, _ => simp
    | 3, _ => simp
    | 4, _ => simp
    | 5, _ => simp
  have rfro : ∀ j, w1.frozen? ⟨w.heap.size, j, none⟩ = false := fun j => by
    rw [mv.frozen (p := ⟨w.heap.size, j, none⟩) (by simp) (by show w.heap.size ≠ R; omega)]; simp
  have H1 : Hid (Rd R (c + 1) w1 ∧ Moved R w w1 ∧ (∀ j, j < 6 → (w1.cell? ⟨w.heap.size, j, none⟩).isSome = true) ∧ ∀ j, w1.frozen? ⟨w.heap.size, j, none⟩ = false) := ⟨rd, (Moved.alloc R w _).trans mv, rcell, rfro⟩
  have z1 : w.heap.size < w1.heap.size := by have := mv.size; simp at this; omega
  clear rd mv rcell rfro y1
  by_cases hy : y = 0
  · subst hy
    go_wp2_with fail
    refine (slot_draw R (c + 1) w1 H1.out.1 (by omega)).mono ?_
    rintro e w2 ⟨s1, d1, rfl, m1, t1, few1, o1, rd2, mv2⟩
    have H2 : Hid (Own w1.heap.size d1 s1.data w2 ∧ Rd R (c + 17) w2 ∧ Moved R w1 w2) := ⟨o1, rd2.mono (by omega), mv2⟩
    clear o1 rd2 mv2
    simp only [slV]
    go_wp2_with fail
    refine (slot_draw R (c + 17) w2 H2.out.2.1 (by omega)).mono ?_
    rintro e w3 ⟨s2, d2, rfl, m2, t2, few2, o2, rd3, mv3⟩
    have z2 : w1.heap.size ≤ w2.heap.size := H2.out.2.2.size
    have mv13 : Moved R w1 w3 := H2.out.2.2.trans mv3
    have rc2 : ∀ j, j < 6 → ∃ v, w3.cell? ⟨w.heap.size, j, none⟩ = some v := fun j hj => by
      rw [mv13.cell (p := ⟨w.heap.size, j, none⟩) z1 (by show w.heap.size ≠ R; omega)]
      exact Option.isSome_iff_exists.1 (H1.out.2.2.1 j hj)
    have rf2 : ∀ j, w3.frozen? ⟨w.heap.size, j, none⟩ = false := fun j => (mv13.frozen (p := ⟨w.heap.size, j, none⟩) z1 (by show w.heap.size ≠ R; omega)).trans (H1.out.2.2.2 j)
    obtain ⟨v0, r0⟩ := rc2 0 (by omega)
    obtain ⟨v1, r1⟩ := rc2 1 (by omega)
    obtain ⟨v2, r2⟩ := rc2 2 (by omega)
    obtain ⟨v3, r3⟩ := rc2 3 (by omega)
    obtain ⟨v4, r4⟩ := rc2 4 (by omega)
    obtain ⟨v5, r5⟩ := rc2 5 (by omega)
    have f0 := rf2 0
    have f1 := rf2 1
    have f2 := rf2 2
    have f3 := rf2 3
    have f4 := rf2 4
    have f5 := rf2 5
    have H3 : Hid (Own w1.heap.size d1 s1.data w3 ∧ Own w1.heap.size d2 s2.data w3 ∧ Rd R (c + 90) w3 ∧ Moved R w w3) := ⟨H2.out.1.moved mv3 (by omega), o2.mono (by omega), rd3.mono (by omega), H1.out.2.1.trans mv13⟩
    obtain ⟨a1, k1, rfl⟩ := own_size H3.out.1
    obtain ⟨a2, k2, rfl⟩ := own_size o2
    clear rc2 rf2 mv13 mv3 rd3 o2 H2
    simp only [slV]
    go_wp2_with fail
    obtain ⟨x1, x2, x3, x4⟩ := H3.out
    refine bodyPost_ret (v := romV ⟨s1, s2⟩ (.slice a1 s1.data.length k1) (.slice a2 s2.data.length k2)) (by simp [results, Try.results32, go_sem, romV, r0, r1, r2, r3, r4, r5]) rfl ?_
    exact ⟨⟨s1, s2⟩, _, _, rfl, ⟨m1, t1, few1, m2, t2, few2⟩, set6_own (x1.mono (by omega)) (fun e => by have := (World.ownsRow.lt x1 _ e).1; omega) _ _ _ _ _ _, set6_own (x2.mono (by omega)) (fun e => by have := (World.ownsRow.lt x2 _ e).1; omega) _ _ _ _ _ _, set6_rd x3 hR _ _ _ _ _ _, set6_moved x4 (Nat.le_refl _) _ _ _ _ _ _⟩
  · have hy' : (y == 0) = false := by simpa using hy
    go_wp2_with fail
    refine (pick_any R (c + 1) 6 _ (H1.out.1.alloc _) (by omega) (by omega)).mono ?_
    rintro e w2 ⟨p, rfl, p0, p1, -, rd, mv⟩
    have p2 : p < 6 := p1 (by omega)
    obtain ⟨j, rfl⟩ : ∃ j : Nat, p = j := ⟨p.toNat, by omega⟩
    have I0 : Hid (RomRel R c w1.heap.size w (.int .i64 (j : Int)) w2) := by
      refine ⟨j, ⟨⟨0, 0, []⟩, ⟨0, 0, []⟩⟩, .slice none 0 0, .slice none 0 0, by omega, rfl, ⟨?_, fun i => ?_, own_nil _ _, own_nil _ _, ⟨by simp, by simp, Few.nil, by simp, by simp, Few.nil⟩, rd.mono (by omega), H1.out.2.1.trans ((Moved.alloc R w1 _).trans mv), fun i hi => ?_, fun i => ?_, z1, hR⟩⟩
      · exact RomBox.moved ⟨by simp, by simp, by simp, by simp, by simp, by simp, by simp⟩ mv (by omega)
      · rw [mv.frozen (p := ⟨w1.heap.size, i, none⟩) (by simp) (by show w1.heap.size ≠ R; omega)]; simp
      · rw [mv.cell (p := ⟨w.heap.size, i, none⟩) (by simp; omega) (by show w.heap.size ≠ R; omega), World.cell?_alloc_past _ _ _ z1]; exact H1.out.2.2.1 i hi
      · rw [mv.frozen (p := ⟨w.heap.size, i, none⟩) (by simp; omega) (by show w.heap.size ≠ R; omega), World.frozen?_alloc_past _ _ _ z1]; exact H1.out.2.2.2 i
    clear rd mv p1
    go_wp2_with fail
    go_loopw [4] (fun iv wr => RomRel R c w1.heap.size w iv wr) (fun iv _ => (intOf iv).toNat)
    case atStart => exact I0.out
    case round =>
      clear I0 H1
      obtain ⟨i, r, da, db, hi, rfl, hD⟩ := hrel
      have HQ : Hid (RomD R (c + 2 + 16 * (5 - i)) w1.heap.size w r da db wr) := hD
      obtain ⟨aa, ca, rfl⟩ := own_size hD.oa
      obtain ⟨ab, cb, rfl⟩ := own_size hD.ob
      have zv : w1.heap.size < wr.heap.size := hD.box.z
      clear hD
      by_cases hi0 : 0 < i
      · have hi0' : (0 : Int) < (i : Int) := by omega
        have hS : RomBox w1.heap.size 0 r (.slice aa r.a.data.length ca) (.slice ab r.b.data.length cb) wr.drew := HQ.out.box.of_block rfl
        have HQ0 : Hid (RomD R (c + 2 + 16 * (5 - i)) w1.heap.size w r (.slice aa r.a.data.length ca) (.slice ab r.b.data.length cb) wr.drew) := HQ.out.below (Below.refl _ _).drew
        go_wp2_with fail
        refine wp_region_held (S := RomBox w1.heap.size 0 r (.slice aa r.a.data.length ca) (.slice ab r.b.data.length cb)) (by kernel_rfl) ?_
        refine held_load (fuel := 8) (i := 0) (t := 26) (v := romV r (.slice aa r.a.data.length ca) (.slice ab r.b.data.length cb)) rfl rfl rfl (by kernel_rfl) (by kernel_rfl) (by kernel_rfl) rfl (fun _ _ _ h => h) (fun w' hw' => load_rom hw') hS ?_
        go_simp
        refine held_any (fuel := 7) (i := 1) (v := .pointer (some ⟨R, 0, none⟩)) rfl (by kernel_rfl) (by kernel_rfl) (by kernel_rfl) rfl (fun _ _ _ h => h) (fun _ _ => rfl) hS ?_
        go_simp
        refine wpAnyH_ready (rs := [2]) (by kernel_rfl) (by simp) ?_
        refine AllReadyH.cons rfl (fun K hK => ?_) AllReadyH.nil
        go_simp
        refine (data_draw R _ _ HQ0.out.rd (by omega)).mono ?_
        rintro e w3 ⟨dv, xs, rfl, o3, few, rd3, mv3⟩
        have HQ3 : Hid (RomD R (c + 2 + 16 * (5 - i) + 14) w1.heap.size w r (.slice aa r.a.data.length ca) (.slice ab r.b.data.length cb) w3) := HQ0.out.moved mv3 rd3
        refine hK.out _ _ HQ3.out.box (fun _ => ?_)
        clear hK K
        go_simp
        refine wpAnyH_ready (rs := [3]) (by kernel_rfl) (by simp) ?_
        refine AllReadyH.cons rfl (fun K hK => ?_) AllReadyH.nil
        go_simp
        refine (plan_spec _ dv r xs w3 HQ3.out.rom o3.at few).mono ?_
        rintro e w4 ⟨u, rfl, ⟨pv, pq, rfl, hp⟩, b4⟩
        obtain ⟨ws, hw, hby, hwl⟩ := plan_writes few hp
        have HQ4 : Hid (RomD R (c + 2 + 16 * (5 - i) + 14) w1.heap.size w r (.slice aa r.a.data.length ca) (.slice ab r.b.data.length cb) w4 ∧ OwnW w3.heap.size pv ws w4 ∧ (∀ x ∈ ws, x.byte ≤ 255)) := ⟨HQ3.out.below b4, hw, hby⟩
        obtain ⟨ap, cp, rfl⟩ := ownW_size hw
        have z34 : wr.heap.size ≤ w3.heap.size := mv3.size
        have hS4 := HQ4.out.1.box
        refine hK.out _ _ hS4 (fun _ => ?_)
        clear hK K hp b4 hw hby o3 rd3 mv3
        go_simp
        refine held_any (fuel := 4) (i := 4) (v := .tuple #[.slice ap ws.length cp, .bool pq]) rfl (by kernel_rfl) (by kernel_rfl) (by kernel_rfl) rfl (fun _ _ _ h => h) (fun _ _ => rfl) hS4 ?_
        go_simp
        refine held_any (fuel := 3) (i := 5) (v := .slice ap ws.length cp) rfl (by kernel_rfl) (by kernel_rfl) (by kernel_rfl) rfl (fun _ _ _ h => h) (fun _ _ => rfl) hS4 ?_
        go_simp
        refine held_any (fuel := 2) (i := 6) (v := .bool pq) rfl (by kernel_rfl) (by kernel_rfl) (by kernel_rfl) rfl (fun _ _ _ h => h) (fun _ _ => rfl) hS4 ?_
        go_simp
        refine held_any (fuel := 1) (i := 7) (v := .slice ap ws.length cp) rfl (by kernel_rfl) (by kernel_rfl) (by kernel_rfl) rfl (fun _ _ _ h => h) (fun _ _ => rfl) hS4 ?_
        go_simp
        refine held_any (fuel := 0) (i := 8) (v := .bool pq) rfl (by kernel_rfl) (by kernel_rfl) (by kernel_rfl) rfl (fun _ _ _ h => h) (fun _ _ => rfl) hS4 ?_
        go_simp
        refine wpAnyH_done (by kernel_rfl) ?_ _
        clear hS hS4 HQ HQ0 HQ3
        go_wp2_with fail
        refine (pick_any R _ 2 w4 HQ4.out.1.rd (by omega) (by omega)).mono ?_
        rintro e w5 ⟨x, rfl, x0, x1, -, rd5, mv5⟩
        have HQ5 : Hid (RomD R (c + 2 + 16 * (5 - i) + 15) w1.heap.size w r (.slice aa r.a.data.length ca) (.slice ab r.b.data.length cb) w5 ∧ OwnW w3.heap.size (.slice ap ws.length cp) ws w5 ∧ (∀ x ∈ ws, x.byte ≤ 255)) := ⟨HQ4.out.1.moved mv5 rd5, HQ4.out.2.1.moved mv5 (by omega), HQ4.out.2.2⟩
        clear rd5 mv5 HQ4 x1
        by_cases hx : x = 0
        · subst hx
          by_cases hn : 0 < ws.length
          · have hn' : (0 : Int) < (ws.length : Int) := by omega
            go_wp2_with fail
            refine (pick_any R _ (ws.length : Int) w5 HQ5.out.1.rd (by omega) (by omega)).mono ?_
            rintro e w6 ⟨n, rfl, n0, n1, -, rd6, mv6⟩
            have HN : Hid (RomD R (c + 2 + 16 * (5 - i) + 16) w1.heap.size w r (.slice aa r.a.data.length ca) (.slice ab r.b.data.length cb) w6 ∧ OwnW w3.heap.size (.slice ap ws.length cp) ws w6 ∧ (∀ x ∈ ws, x.byte ≤ 255)) := ⟨HQ5.out.1.moved mv6 rd6, HQ5.out.2.1.moved mv6 (by omega), HQ5.out.2.2⟩
            clear rd6 mv6 HQ5 n1
            obtain ⟨q0, q1, q2, q3, q4, q5⟩ := HN.out.1.box.six
            go_wp2_with fail
            refine (play_spec _ _ r ws n w6 HN.out.1.rom HN.out.2.1.at HN.out.2.2 (by omega)).mono ?_
            rintro e w7 ⟨g1, g2, rfl, o1, o2, ok2, b7⟩
            obtain ⟨r2, hr2⟩ : ∃ r2, r2 = r.play (ws.take (n : Int).toNat) := ⟨_, rfl⟩
            rw [← hr2] at o1 o2 ok2 ⊢
            clear hr2
            have HQ7 : Hid (RomD R (c + 2 + 16 * (5 - i) + 16) w1.heap.size w r (.slice aa r.a.data.length ca) (.slice ab r.b.data.length cb) w7) := HN.out.1.below b7
            have zn : w1.heap.size < w6.heap.size := HN.out.1.box.z
            obtain ⟨a1, k1, rfl⟩ := own_size o1
            obtain ⟨a2, k2, rfl⟩ := own_size o2
            have HV : Hid (RomRel R c w1.heap.size w (.int .i64 ((i : Int) - 1)) ((((((w7.setCell ⟨w1.heap.size, 0, none⟩ (.int .u8 (r2.a.mark : Int))).setCell ⟨w1.heap.size, 1, none⟩ (.int .u8 (r2.a.turn : Int))).setCell ⟨w1.heap.size, 2, none⟩ (.slice a1 r2.a.data.length k1)).setCell ⟨w1.heap.size, 3, none⟩ (.int .u8 (r2.b.mark : Int))).setCell ⟨w1.heap.size, 4, none⟩ (.int .u8 (r2.b.turn : Int))).setCell ⟨w1.heap.size, 5, none⟩ (.slice a2 r2.b.data.length k2))) := by
              refine ⟨i - 1, r2, _, _, by omega, by have e : ((i - 1 : Nat) : Int) = (i : Int) - 1 := by omega
                                                    rw [e], ⟨box_stored HQ7.out.box, fun j => by simpa using HQ7.out.fr j, set6_own (o1.mono (by omega)) (fun e => by have := (World.ownsRow.lt o1 _ e).1; omega) _ _ _ _ _ _, set6_own (o2.mono (by omega)) (fun e => by have := (World.ownsRow.lt o2 _ e).1; omega) _ _ _ _ _ _, ok2, (set6_rd HQ7.out.rd (by omega) _ _ _ _ _ _).mono (by omega), set6_moved HQ7.out.mv (by omega) _ _ _ _ _ _, fun j hj => ?_, fun j => by simpa using HQ7.out.rf j, z1, hR⟩⟩
              have e1 : ∀ (w' : World) (o : Nat) (vv : Value), ((w'.setCell ⟨w1.heap.size, o, none⟩ vv).cell? ⟨w.heap.size, j, none⟩) = w'.cell? ⟨w.heap.size, j, none⟩ := fun w' o vv => World.cell?_setCell_other _ _ _ _ (by intro e; injection e with e1; omega)
              rw [e1, e1, e1, e1, e1, e1]
              exact HQ7.out.rc j hj
            obtain ⟨u0, u1, u2, u3, u4, u5⟩ := HQ7.out.box.six
            have f0 := HQ7.out.fr 0
            have f1 := HQ7.out.fr 1
            have f2 := HQ7.out.fr 2
            have f3 := HQ7.out.fr 3
            have f4 := HQ7.out.fr 4
            have f5 := HQ7.out.fr 5
            clear o1 o2 ok2 b7 q0 q1 q2 q3 q4 q5
            simp only [romV]
            go_wp2_with fail
            go_roundw
            case rel => exact HV.out
            case measure => simp [intOf]; omega
          · have hn' : ¬ (0 : Int) < (ws.length : Int) := by omega
            have HN : Hid (RomD R (c + 2 + 16 * (5 - i) + 16) w1.heap.size w r (.slice aa r.a.data.length ca) (.slice ab r.b.data.length cb) w5 ∧ OwnW w3.heap.size (.slice ap ws.length cp) ws w5 ∧ (∀ x ∈ ws, x.byte ≤ 255)) := ⟨HQ5.out.1.moved (Moved.refl _ _) (HQ5.out.1.rd.mono (by omega)), HQ5.out.2.1, HQ5.out.2.2⟩
            clear HQ5
            obtain ⟨q0, q1, q2, q3, q4, q5⟩ := HN.out.1.box.six
            go_wp2_with fail
            refine (play_spec _ _ r ws (ws.length : Int) w5 HN.out.1.rom HN.out.2.1.at HN.out.2.2 (by omega)).mono ?_
            rintro e w7 ⟨g1, g2, rfl, o1, o2, ok2, b7⟩
            obtain ⟨r2, hr2⟩ : ∃ r2, r2 = r.play (ws.take ((ws.length : Int) : Int).toNat) := ⟨_, rfl⟩
            rw [← hr2] at o1 o2 ok2 ⊢
            clear hr2
            have HQ7 : Hid (RomD R (c + 2 + 16 * (5 - i) + 16) w1.heap.size w r (.slice aa r.a.data.length ca) (.slice ab r.b.data.length cb) w7) := HN.out.1.below b7
            have zn : w1.heap.size < w5.heap.size := HN.out.1.box.z
            obtain ⟨a1, k1, rfl⟩ := own_size o1
            obtain ⟨a2, k2, rfl⟩ := own_size o2
            have HV : Hid (RomRel R c w1.heap.size w (.int .i64 ((i : Int) - 1)) ((((((w7.setCell ⟨w1.heap.size, 0, none⟩ (.int .u8 (r2.a.mark : Int))).setCell ⟨w1.heap.size, 1, none⟩ (.int .u8 (r2.a.turn : Int))).setCell ⟨w1.heap.size, 2, none⟩ (.slice a1 r2.a.data.length k1)).setCell ⟨w1.heap.size, 3, none⟩ (.int .u8 (r2.b.mark : Int))).setCell ⟨w1.heap.size, 4, none⟩ (.int .u8 (r2.b.turn : Int))).setCell ⟨w1.heap.size, 5, none⟩ (.slice a2 r2.b.data.length k2))) := by
              refine ⟨i - 1, r2, _, _, by omega, by have e : ((i - 1 : Nat) : Int) = (i : Int) - 1 := by omega
                                                    rw [e], ⟨box_stored HQ7.out.box, fun j => by simpa using HQ7.out.fr j, set6_own (o1.mono (by omega)) (fun e => by have := (World.ownsRow.lt o1 _ e).1; omega) _ _ _ _ _ _, set6_own (o2.mono (by omega)) (fun e => by have := (World.ownsRow.lt o2 _ e).1; omega) _ _ _ _ _ _, ok2, (set6_rd HQ7.out.rd (by omega) _ _ _ _ _ _).mono (by omega), set6_moved HQ7.out.mv (by omega) _ _ _ _ _ _, fun j hj => ?_, fun j => by simpa using HQ7.out.rf j, z1, hR⟩⟩
              have e1 : ∀ (w' : World) (o : Nat) (vv : Value), ((w'.setCell ⟨w1.heap.size, o, none⟩ vv).cell? ⟨w.heap.size, j, none⟩) = w'.cell? ⟨w.heap.size, j, none⟩ := fun w' o vv => World.cell?_setCell_other _ _ _ _ (by intro e; injection e with e1; omega)
              rw [e1, e1, e1, e1, e1, e1]
              exact HQ7.out.rc j hj
            obtain ⟨u0, u1, u2, u3, u4, u5⟩ := HQ7.out.box.six
            have f0 := HQ7.out.fr 0
            have f1 := HQ7.out.fr 1
            have f2 := HQ7.out.fr 2
            have f3 := HQ7.out.fr 3
            have f4 := HQ7.out.fr 4
            have f5 := HQ7.out.fr 5
            clear o1 o2 ok2 b7 q0 q1 q2 q3 q4 q5
            simp only [romV]
            go_wp2_with fail
            go_roundw
            case rel => exact HV.out
            case measure => simp [intOf]; omega
        · have hx' : (x == 0) = false := by simpa using hx
          have HN : Hid (RomD R (c + 2 + 16 * (5 - i) + 16) w1.heap.size w r (.slice aa r.a.data.length ca) (.slice ab r.b.data.length cb) w5 ∧ OwnW w3.heap.size (.slice ap ws.length cp) ws w5 ∧ (∀ x ∈ ws, x.byte ≤ 255)) := ⟨HQ5.out.1.moved (Moved.refl _ _) (HQ5.out.1.rd.mono (by omega)), HQ5.out.2.1, HQ5.out.2.2⟩
          clear HQ5
          obtain ⟨q0, q1, q2, q3, q4, q5⟩ := HN.out.1.box.six
          go_wp2_with fail
          refine (play_spec _ _ r ws (ws.length : Int) w5 HN.out.1.rom HN.out.2.1.at HN.out.2.2 (by omega)).mono ?_
          rintro e w7 ⟨g1, g2, rfl, o1, o2, ok2, b7⟩
          obtain ⟨r2, hr2⟩ : ∃ r2, r2 = r.play (ws.take ((ws.length : Int) : Int).toNat) := ⟨_, rfl⟩
          rw [← hr2] at o1 o2 ok2 ⊢
          clear hr2
          have HQ7 : Hid (RomD R (c + 2 + 16 * (5 - i) + 16) w1.heap.size w r (.slice aa r.a.data.length ca) (.slice ab r.b.data.length cb) w7) := HN.out.1.below b7
          have zn : w1.heap.size < w5.heap.size := HN.out.1.box.z
          obtain ⟨a1, k1, rfl⟩ := own_size o1
          obtain ⟨a2, k2, rfl⟩ := own_size o2
          have HV : Hid (RomRel R c w1.heap.size w (.int .i64 ((i : Int) - 1)) ((((((w7.setCell ⟨w1.heap.size, 0, none⟩ (.int .u8 (r2.a.mark : Int))).setCell ⟨w1.heap.size, 1, none⟩ (.int .u8 (r2.a.turn : Int))).setCell ⟨w1.heap.size, 2, none⟩ (.slice a1 r2.a.data.length k1)).setCell ⟨w1.heap.size, 3, none⟩ (.int .u8 (r2.b.mark : Int))).setCell ⟨w1.heap.size, 4, none⟩ (.int .u8 (r2.b.turn : Int))).setCell ⟨w1.heap.size, 5, none⟩ (.slice a2 r2.b.data.length k2))) := by
            refine ⟨i - 1, r2, _, _, by omega, by have e : ((i - 1 : Nat) : Int) = (i : Int) - 1 := by omega
                                                  rw [e], ⟨box_stored HQ7.out.box, fun j => by simpa using HQ7.out.fr j, set6_own (o1.mono (by omega)) (fun e => by have := (World.ownsRow.lt o1 _ e).1; omega) _ _ _ _ _ _, set6_own (o2.mono (by omega)) (fun e => by have := (World.ownsRow.lt o2 _ e).1; omega) _ _ _ _ _ _, ok2, (set6_rd HQ7.out.rd (by omega) _ _ _ _ _ _).mono (by omega), set6_moved HQ7.out.mv (by omega) _ _ _ _ _ _, fun j hj => ?_, fun j => by simpa using HQ7.out.rf j, z1, hR⟩⟩
            have e1 : ∀ (w' : World) (o : Nat) (vv : Value), ((w'.setCell ⟨w1.heap.size, o, none⟩ vv).cell? ⟨w.heap.size, j, none⟩) = w'.cell? ⟨w.heap.size, j, none⟩ := fun w' o vv => World.cell?_setCell_other _ _ _ _ (by intro e; injection e with e1; omega)
            rw [e1, e1, e1, e1, e1, e1]
            exact HQ7.out.rc j hj
          obtain ⟨u0, u1, u2, u3, u4, u5⟩ := HQ7.out.box.six
          have f0 := HQ7.out.fr 0
          have f1 := HQ7.out.fr 1
          have f2 := HQ7.out.fr 2
          have f3 := HQ7.out.fr 3
          have f4 := HQ7.out.fr 4
          have f5 := HQ7.out.fr 5
          clear o1 o2 ok2 b7 q0 q1 q2 q3 q4 q5
          simp only [romV]
          go_wp2_with fail
          go_roundw
          case rel => exact HV.out
          case measure => simp [intOf]; omega
      · have hi0' : ¬ (0 : Int) < (i : Int) := by omega
        obtain ⟨q0, q1, q2, q3, q4, q5⟩ := HQ.out.box.six
        obtain ⟨v0, r0⟩ := Option.isSome_iff_exists.1 (HQ.out.rc 0 (by omega))
        obtain ⟨v1, r1⟩ := Option.isSome_iff_exists.1 (HQ.out.rc 1 (by omega))
        obtain ⟨v2, r2⟩ := Option.isSome_iff_exists.1 (HQ.out.rc 2 (by omega))
        obtain ⟨v3, r3⟩ := Option.isSome_iff_exists.1 (HQ.out.rc 3 (by omega))
        obtain ⟨v4, r4⟩ := Option.isSome_iff_exists.1 (HQ.out.rc 4 (by omega))
        obtain ⟨v5, r5⟩ := Option.isSome_iff_exists.1 (HQ.out.rc 5 (by omega))
        have f0 := HQ.out.rf 0
        have f1 := HQ.out.rf 1
        have f2 := HQ.out.rf 2
        have f3 := HQ.out.rf 3
        have f4 := HQ.out.rf 4
        have f5 := HQ.out.rf 5
        have hne : ¬ w1.heap.size = w.heap.size := by omega
        go_wp2_with fail
        refine bodyPost_ret (v := romV r (.slice aa r.a.data.length ca) (.slice ab r.b.data.length cb)) (by simp [results, Try.results32, go_sem, romV, r0, r1, r2, r3, r4, r5]) rfl ?_
        exact ⟨r, _, _, rfl, HQ.out.ok, set6_own (HQ.out.oa.mono (by omega)) (fun e => by have := (World.ownsRow.lt HQ.out.oa _ e).1; omega) _ _ _ _ _ _, set6_own (HQ.out.ob.mono (by omega)) (fun e => by have := (World.ownsRow.lt HQ.out.ob _ e).1; omega) _ _ _ _ _ _, (set6_rd HQ.out.rd hR _ _ _ _ _ _).mono (by omega), set6_moved HQ.out.mv (Nat.le_refl _) _ _ _ _ _ _⟩

end Go.Proofs.Ytdhoimjkgicneab
