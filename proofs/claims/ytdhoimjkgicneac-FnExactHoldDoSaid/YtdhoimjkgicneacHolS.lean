/- The specification's HoldPlay. -/
import Derived.Test.YtdhoimjkgicneacHolQ
import Derived.Test.YtdhoimjkgicneacHolV
namespace Go.Proofs.Ytdhoimjkgicneac
open Go Go.RowKit

/-- A store in a block of its own, its bytes in blocks of their own. -/
structure RmAt (base B : Nat) (r : Ro) (da db : Value) (w : World) : Prop where
  box : RomBox B 0 r da db w
  fr : ∀ i, w.frozen? ⟨B, i, none⟩ = false
  oa : Own base da r.a.data w
  ob : Own base db r.b.data w
  na : da.ownBlock ≠ some B
  nb : db.ownBlock ≠ some B
  nn : ∀ k, da.ownBlock = some k → db.ownBlock ≠ some k

set_option maxRecDepth 100000 in
set_option maxHeartbeats 1600000 in
theorem rom_spec (v : Value) (r : Ro) (w : World) (h : RomAt v r w) :
    Calls Try.prog 45 #[v] w fun e w' => ∃ da db, e = .returned (romV r da db) ∧ Own w.heap.size da r.a.data w' ∧ Own w.heap.size db r.b.data w' ∧ (∀ k, da.ownBlock = some k → db.ownBlock ≠ some k) ∧ Below w.heap.size w w' := by
  obtain ⟨ok, da, db, rfl, ha, hb⟩ := h
  have l1 := ok.ad.len
  have l2 := ok.bd.len
  have HA : Hid (BytesAt da r.a.data w) := ha
  have HB : Hid (BytesAt db r.b.data w) := hb
  obtain ⟨aa, ca, rfl⟩ := ha.len
  obtain ⟨ab, cb, rfl⟩ := hb.len
  clear ok ha hb
  simp only [romV]
  go_enter Try.func45, Try.ntmps45
  go_wp2_with fail
  have b0 : Below w.heap.size w ((w.alloc (.cells #[.int .u8 (r.a.mark : Int), .int .u8 (r.a.turn : Int), .slice aa r.a.data.length ca, .int .u8 (r.b.mark : Int), .int .u8 (r.b.turn : Int), .slice ab r.b.data.length cb] 32)).alloc (.cells #[.int .u8 0, .int .u8 0, .slice none 0 0, .int .u8 0, .int .u8 0, .slice none 0 0] 32)) :=
    ((Below.refl w.heap.size w).alloc (Nat.le_refl _) _).alloc (by simp) _
  refine (copy_spec _ r.a.data _ (HA.out.below b0 (Nat.le_refl _)) (by omega)).mono ?_
  rintro e w1 ⟨d1, rfl, o1, b1⟩
  have e0 : ((w.alloc (.cells #[.int .u8 (r.a.mark : Int), .int .u8 (r.a.turn : Int), .slice aa r.a.data.length ca, .int .u8 (r.b.mark : Int), .int .u8 (r.b.turn : Int), .slice ab r.b.data.length cb] 32)).alloc (.cells #[.int .u8 0, .int .u8 0, .slice none 0 0, .int .u8 0, .int .u8 0, .slice none 0 0] 32)).heap.size = w.heap.size + 2 := by simp
  rw [e0] at o1 b1
  have s1 : w.heap.size + 2 ≤ w1.heap.size := by have := b1.size; omega
  have kk : ∀ (q o : Nat), q < w.heap.size + 2 → w1.cell? ⟨q, o, none⟩ = _ := fun q o h2 => b1.cell (p := ⟨q, o, none⟩) h2
  have zz : ∀ (q o : Nat), q < w.heap.size + 2 → w1.frozen? ⟨q, o, none⟩ = _ := fun q o h2 => b1.frozen (p := ⟨q, o, none⟩) h2
  have c0 : w1.cell? ⟨w.heap.size, 0, none⟩ = some (.int .u8 (r.a.mark : Int)) := by rw [kk _ _ (by omega)]; simp [go_sem]
  have c1 : w1.cell? ⟨w.heap.size, 1, none⟩ = some (.int .u8 (r.a.turn : Int)) := by rw [kk _ _ (by omega)]; simp [go_sem]
  have c2 : w1.cell? ⟨w.heap.size, 2, none⟩ = some (.slice aa r.a.data.length ca) := by rw [kk _ _ (by omega)]; simp [go_sem]
  have c3 : w1.cell? ⟨w.heap.size, 3, none⟩ = some (.int .u8 (r.b.mark : Int)) := by rw [kk _ _ (by omega)]; simp [go_sem]
  have c4 : w1.cell? ⟨w.heap.size, 4, none⟩ = some (.int .u8 (r.b.turn : Int)) := by rw [kk _ _ (by omega)]; simp [go_sem]
  have c5 : w1.cell? ⟨w.heap.size, 5, none⟩ = some (.slice ab r.b.data.length cb) := by rw [kk _ _ (by omega)]; simp [go_sem]
  have rr : ∀ i, i < 6 → (w1.cell? ⟨w.heap.size + 1, i, none⟩).isSome = true := by
    intro i hi
    rw [kk _ _ (by omega)]
    match i, hi with
    | 0, _ => simp
    | 1, _ => simp
    | 2, _ => simp
    | 3, _ => simp
    | 4, _ => simp
    | 5, _ => simp
  have z2 : w1.frozen? ⟨w.heap.size, 2, none⟩ = false := by rw [zz _ _ (by omega)]; simp [go_sem]
  have z5 : w1.frozen? ⟨w.heap.size, 5, none⟩ = false := by rw [zz _ _ (by omega)]; simp [go_sem]
  have zr : ∀ i, w1.frozen? ⟨w.heap.size + 1, i, none⟩ = false := fun i => by rw [zz _ _ (by omega)]; simp
  have H1 : Hid (Own (w.heap.size + 2) d1 r.a.data w1 ∧ Below w.heap.size w w1 ∧ (∀ i, i < 6 → (w1.cell? ⟨w.heap.size + 1, i, none⟩).isSome = true) ∧ ∀ i, w1.frozen? ⟨w.heap.size + 1, i, none⟩ = false) := ⟨o1, b0.trans (b1.mono (by omega)), rr, zr⟩
  obtain ⟨a1, k1, rfl⟩ := own_size o1
  clear o1 b1 b0 e0 kk zz rr zr
  go_wp2_with fail
  obtain ⟨ws, hws⟩ : ∃ ws, ws = w1.setCell ⟨w.heap.size, 2, none⟩ (.slice a1 r.a.data.length k1) := ⟨_, rfl⟩
  rw [← hws]
  have n1 : ∀ q, q < w.heap.size + 2 → (Value.slice a1 r.a.data.length k1).ownBlock ≠ some q := fun q hq e => by have := (World.ownsRow.lt H1.out.1 q e).1; omega
  have bs : Below w.heap.size w ws := by rw [hws]; exact H1.out.2.1.setCell (Nat.le_refl _) _
  have os : Own (w.heap.size + 2) (.slice a1 r.a.data.length k1) r.a.data ws := by rw [hws]; exact H1.out.1.setCell (n1 _ (by show w.heap.size < _; omega)) _
  have es : ws.heap.size = w1.heap.size := by rw [hws]; simp
  have d0 : ws.cell? ⟨w.heap.size, 0, none⟩ = some (.int .u8 (r.a.mark : Int)) := by rw [hws, cell_set c2]; exact c0
  have d1 : ws.cell? ⟨w.heap.size, 1, none⟩ = some (.int .u8 (r.a.turn : Int)) := by rw [hws, cell_set c2]; exact c1
  have d2 : ws.cell? ⟨w.heap.size, 2, none⟩ = some (.slice a1 r.a.data.length k1) := by rw [hws, cell_set c2]; rfl
  have d3 : ws.cell? ⟨w.heap.size, 3, none⟩ = some (.int .u8 (r.b.mark : Int)) := by rw [hws, cell_set c2]; exact c3
  have d4 : ws.cell? ⟨w.heap.size, 4, none⟩ = some (.int .u8 (r.b.turn : Int)) := by rw [hws, cell_set c2]; exact c4
  have d5 : ws.cell? ⟨w.heap.size, 5, none⟩ = some (.slice ab r.b.data.length cb) := by rw [hws, cell_set c2]; exact c5
  have y5 : ws.frozen? ⟨w.heap.size, 5, none⟩ = false := by rw [hws]; simpa using z5
  have rc : ∀ i, i < 6 → (ws.cell? ⟨w.heap.size + 1, i, none⟩).isSome = true := fun i hi => by
    rw [hws, World.cell?_setCell_other _ _ _ _ (by simp)]
    exact H1.out.2.2.1 i hi
  have rf : ∀ i, ws.frozen? ⟨w.heap.size + 1, i, none⟩ = false := fun i => by rw [hws]; simpa using H1.out.2.2.2 i
  refine (copy_spec _ r.b.data ws (HB.out.below bs (Nat.le_refl _)) (by omega)).mono ?_
  rintro e w2 ⟨g2, rfl, o2, b2⟩
  have kk : ∀ (q o : Nat), q < w.heap.size + 2 → w2.cell? ⟨q, o, none⟩ = ws.cell? ⟨q, o, none⟩ := fun q o h2 => b2.cell (p := ⟨q, o, none⟩) (by show q < _; omega)
  have zz : ∀ (q o : Nat), q < w.heap.size + 2 → w2.frozen? ⟨q, o, none⟩ = ws.frozen? ⟨q, o, none⟩ := fun q o h2 => b2.frozen (p := ⟨q, o, none⟩) (by show q < _; omega)
  have x0 := (kk w.heap.size 0 (by omega)).trans d0
  have x1 := (kk w.heap.size 1 (by omega)).trans d1
  have x2 := (kk w.heap.size 2 (by omega)).trans d2
  have x3 := (kk w.heap.size 3 (by omega)).trans d3
  have x4 := (kk w.heap.size 4 (by omega)).trans d4
  have x5 := (kk w.heap.size 5 (by omega)).trans d5
  have y5' := (zz w.heap.size 5 (by omega)).trans y5
  have rc2 : ∀ i, i < 6 → ∃ v, w2.cell? ⟨w.heap.size + 1, i, none⟩ = some v := fun i hi => by
    rw [kk _ _ (by omega)]; exact Option.isSome_iff_exists.1 (rc i hi)
  have rf2 : ∀ i, w2.frozen? ⟨w.heap.size + 1, i, none⟩ = false := fun i => (zz _ _ (by omega)).trans (rf i)
  obtain ⟨v0, r0⟩ := rc2 0 (by omega)
  obtain ⟨v1, r1⟩ := rc2 1 (by omega)
  obtain ⟨v2, r2⟩ := rc2 2 (by omega)
  obtain ⟨v3, r3⟩ := rc2 3 (by omega)
  obtain ⟨v4, r4⟩ := rc2 4 (by omega)
  obtain ⟨v5, r5⟩ := rc2 5 (by omega)
  have f0 := rf2 0
  have f1 := rf2 1
  have f2 := rf2 2
  have f3 := rf2 3
  have f4 := rf2 4
  have f5 := rf2 5
  have H2 : Hid (Own (w.heap.size + 2) (.slice a1 r.a.data.length k1) r.a.data w2 ∧ Own (w.heap.size + 2) g2 r.b.data w2 ∧ (∀ k, (Value.slice a1 r.a.data.length k1).ownBlock = some k → g2.ownBlock ≠ some k) ∧ Below w.heap.size w w2) := by
    refine ⟨os.below b2 (Nat.le_refl _), o2.mono (by omega), fun k h1 h2 => ?_, bs.trans (b2.mono (by omega))⟩
    have := own_lt os h1
    have := (World.ownsRow.lt o2 k h2).1
    omega
  obtain ⟨a2, k2, rfl⟩ := own_size o2
  clear o2 b2 kk zz rc rf rc2 rf2 bs os d0 d1 d2 d3 d4 d5 c0 c1 c2 c3 c4 c5 H1 y5 z2 z5 hws es
  go_wp2_with fail
  have n2 : ∀ q, q < w.heap.size + 2 → (Value.slice a2 r.b.data.length k2).ownBlock ≠ some q := fun q hq e => by have := (World.ownsRow.lt H2.out.2.1 q e).1; omega
  have u0 : w.heap.size < w.heap.size + 2 := by omega
  have u1 : w.heap.size + 1 < w.heap.size + 2 := by omega
  have t1 : w.heap.size ≤ w.heap.size + 1 := by omega
  obtain ⟨q1, q2, q3, q4⟩ := H2.out
  refine bodyPost_ret (v := romV r (.slice a1 r.a.data.length k1) (.slice a2 r.b.data.length k2)) (by simp [results, Try.results45, go_sem, romV, r0, r1, r2, r3, r4, r5]) rfl ?_
  exact ⟨.slice a1 r.a.data.length k1, .slice a2 r.b.data.length k2, rfl,
    (((((((q1.mono (by omega)).setCell (n1 _ u0) _).setCell (n1 _ u1) _).setCell (n1 _ u1) _).setCell (n1 _ u1) _).setCell (n1 _ u1) _).setCell (n1 _ u1) _).setCell (n1 _ u1) _,
    (((((((q2.mono (by omega)).setCell (n2 _ u0) _).setCell (n2 _ u1) _).setCell (n2 _ u1) _).setCell (n2 _ u1) _).setCell (n2 _ u1) _).setCell (n2 _ u1) _).setCell (n2 _ u1) _, q3,
    ((((((q4.setCell (Nat.le_refl _) _).setCell t1 _).setCell t1 _).setCell t1 _).setCell t1 _).setCell t1 _).setCell t1 _⟩

end Go.Proofs.Ytdhoimjkgicneac
