/- The specification's HoldPlay: write by write. -/
import Derived.Test.YtdhoimjkgicneacHolS
namespace Go.Proofs.Ytdhoimjkgicneac
open Go Go.RowKit

theorem load_write {B o : Nat} {x y z : Value} {w : World} (h0 : w.cell? ⟨B, o, none⟩ = some x) (h1 : w.cell? ⟨B, o + 1, none⟩ = some y) (h2 : w.cell? ⟨B, o + 2, none⟩ = some z) :
    (Instr.loadAt 35 (.pointer (some ⟨B, o, none⟩))).run Try.prog w = .ok (.agg #[x, y, z]) w := by
  simp [go_sem, h0, h1, h2]

theorem op_load {o : Oper} {a : Act} {w : World} {K : Act → World → Prop} {Q : Exit → Act → World → Prop} {t : TypeId} {p : Operand} {u : Value} (ho : o.op = .load t p) (he : (Instr.loadAt t (a.eval p)).run Try.prog w = .ok u w) (h : K (a.put o.dst u) w) : o.wp Try.prog a w K Q := by
  have e : (execOp a.eval o).run Try.prog w = .ok (.value u) w := by
    simp only [execOp, ho, Sem.run_bind, he, Result.andThen, Sem.run_pure]
  unfold Oper.wp
  rw [e]
  exact h

theorem RmAt.cells {base B : Nat} {r : Ro} {da db : Value} {w : World} (h : RmAt base B r da db w) :
    w.cell? ⟨B, 0, none⟩ = some (.int .u8 (r.a.mark : Int)) ∧ w.cell? ⟨B, 1, none⟩ = some (.int .u8 (r.a.turn : Int)) ∧ w.cell? ⟨B, 2, none⟩ = some da ∧ w.cell? ⟨B, 3, none⟩ = some (.int .u8 (r.b.mark : Int)) ∧ w.cell? ⟨B, 4, none⟩ = some (.int .u8 (r.b.turn : Int)) ∧ w.cell? ⟨B, 5, none⟩ = some db := by
  obtain ⟨z, c0, c1, c2, c3, c4, c5⟩ := h.box
  simp only [Nat.zero_add] at c1 c2 c3 c4 c5
  exact ⟨c0, c1, c2, c3, c4, c5⟩

theorem set3_cells {B i : Nat} {u0 u1 u2 v0 v1 v2 : Value} {w : World} (h0 : w.cell? ⟨B, i, none⟩ = some u0) (h1 : w.cell? ⟨B, i + 1, none⟩ = some u1) (h2 : w.cell? ⟨B, i + 2, none⟩ = some u2) (j : Nat) :
    (((w.setCell ⟨B, i, none⟩ v0).setCell ⟨B, i + 1, none⟩ v1).setCell ⟨B, i + 2, none⟩ v2).cell? ⟨B, j, none⟩ = if j = i + 2 then some v2 else if j = i + 1 then some v1 else if j = i then some v0 else w.cell? ⟨B, j, none⟩ := by
  have e1 : (w.setCell ⟨B, i, none⟩ v0).cell? ⟨B, i + 1, none⟩ = some u1 := by rw [cell_set h0, if_neg (by omega)]; exact h1
  have e2 : ((w.setCell ⟨B, i, none⟩ v0).setCell ⟨B, i + 1, none⟩ v1).cell? ⟨B, i + 2, none⟩ = some u2 := by rw [cell_set e1, if_neg (by omega), cell_set h0, if_neg (by omega)]; exact h2
  rw [cell_set e2, cell_set e1, cell_set h0]

theorem RmAt.putA {base B : Nat} {r : Ro} {da db d' : Value} {s' : Sl} {w w1 : World} (h : RmAt base B r da db w) (ho : Own base d' s'.data w1) (hg : w.grownBy w1 da.ownBlock) (hd : d'.ownBlock = da.ownBlock ∨ d'.ownBlock = none ∨ ∃ k, w.heap.size ≤ k ∧ d'.ownBlock = some k) :
    RmAt base B ⟨s', r.b⟩ d' db (((w1.setCell ⟨B, 0, none⟩ (.int .u8 (s'.mark : Int))).setCell ⟨B, 1, none⟩ (.int .u8 (s'.turn : Int))).setCell ⟨B, 2, none⟩ d') := by
  have z := h.box.z
  have hB : some B ≠ da.ownBlock := fun e => h.na e.symm
  obtain ⟨q0, q1, q2, q3, q4, q5⟩ := h.cells
  have cell : ∀ i v, w.cell? ⟨B, i, none⟩ = some v → w1.cell? ⟨B, i, none⟩ = some v := fun i v hv => (grown_cell hg z hB).trans hv
  have own : Own base db r.b.data w1 := h.ob.kept fun k hk => hg.block k (own_lt h.ob hk) (fun e => h.nn k e.symm hk)
  have nd : d'.ownBlock ≠ some B := by
    rcases hd with e | e | ⟨k, hk, e⟩
    · rw [e]; exact h.na
    · rw [e]; simp
    · rw [e]; simp; omega
  have nx : ∀ k, d'.ownBlock = some k → db.ownBlock ≠ some k := by
    intro k hk hb
    rcases hd with e | e | ⟨k', hk', e⟩
    · exact h.nn k (e ▸ hk) hb
    · rw [e] at hk; simp at hk
    · have := own_lt h.ob hb
      rw [e] at hk
      simp at hk
      omega
  have C := set3_cells (v0 := .int .u8 (s'.mark : Int)) (v1 := .int .u8 (s'.turn : Int)) (v2 := d') (cell 0 _ q0) (cell 1 _ q1) (cell 2 _ q2)
  refine ⟨⟨by have := hg.size; simp; omega, ?_, ?_, ?_, ?_, ?_, ?_⟩, fun i => ?_, ((ho.setCell nd _).setCell nd _).setCell nd _, ((own.setCell h.nb _).setCell h.nb _).setCell h.nb _, nd, h.nb, nx⟩
  · rw [C 0]; rfl
  · rw [Nat.zero_add, C 1]; rfl
  · rw [Nat.zero_add, C 2]; rfl
  · rw [Nat.zero_add, C 3]; exact cell 3 _ q3
  · rw [Nat.zero_add, C 4]; exact cell 4 _ q4
  · rw [Nat.zero_add, C 5]; exact cell 5 _ q5
  · have e : w1.frozen? ⟨B, i, none⟩ = false := (grown_frozen hg z hB).trans (h.fr i)
    simpa using e

theorem RmAt.putB {base B : Nat} {r : Ro} {da db d' : Value} {s' : Sl} {w w1 : World} (h : RmAt base B r da db w) (ho : Own base d' s'.data w1) (hg : w.grownBy w1 db.ownBlock) (hd : d'.ownBlock = db.ownBlock ∨ d'.ownBlock = none ∨ ∃ k, w.heap.size ≤ k ∧ d'.ownBlock = some k) :
    RmAt base B ⟨r.a, s'⟩ da d' (((w1.setCell ⟨B, 3, none⟩ (.int .u8 (s'.mark : Int))).setCell ⟨B, 4, none⟩ (.int .u8 (s'.turn : Int))).setCell ⟨B, 5, none⟩ d') := by
  have z := h.box.z
  have hB : some B ≠ db.ownBlock := fun e => h.nb e.symm
  obtain ⟨q0, q1, q2, q3, q4, q5⟩ := h.cells
  have cell : ∀ i v, w.cell? ⟨B, i, none⟩ = some v → w1.cell? ⟨B, i, none⟩ = some v := fun i v hv => (grown_cell hg z hB).trans hv
  have own : Own base da r.a.data w1 := h.oa.kept fun k hk => hg.block k (own_lt h.oa hk) (fun e => h.nn k hk e.symm)
  have nd : d'.ownBlock ≠ some B := by
    rcases hd with e | e | ⟨k, hk, e⟩
    · rw [e]; exact h.nb
    · rw [e]; simp
    · rw [e]; simp; omega
  have nx : ∀ k, d'.ownBlock = some k → da.ownBlock ≠ some k := by
    intro k hk hb
    rcases hd with e | e | ⟨k', hk', e⟩
    · exact h.nn k hb (e ▸ hk)
    · rw [e] at hk; simp at hk
    · have := own_lt h.oa hb
      rw [e] at hk
      simp at hk
      omega
  have C := set3_cells (v0 := .int .u8 (s'.mark : Int)) (v1 := .int .u8 (s'.turn : Int)) (v2 := d') (cell 3 _ q3) (cell 4 _ q4) (cell 5 _ q5)
  refine ⟨⟨by have := hg.size; simp; omega, ?_, ?_, ?_, ?_, ?_, ?_⟩, fun i => ?_, ((own.setCell h.na _).setCell h.na _).setCell h.na _, ((ho.setCell nd _).setCell nd _).setCell nd _, h.na, nd, fun k h1 h2 => nx k h2 h1⟩
  · rw [C 0]; exact cell 0 _ q0
  · rw [Nat.zero_add, C 1]; exact cell 1 _ q1
  · rw [Nat.zero_add, C 2]; exact cell 2 _ q2
  · rw [Nat.zero_add, C 3]; rfl
  · rw [Nat.zero_add, C 4]; rfl
  · rw [Nat.zero_add, C 5]; rfl
  · have e : w1.frozen? ⟨B, i, none⟩ = false := (grown_frozen hg z hB).trans (h.fr i)
    simpa using e

theorem grown_undrew {w w' : World} {row : Option Nat} (h : w.drew.grownBy w' row) : w.grownBy w' row := ⟨h.os, h.tape, h.output, h.size, h.block⟩

/-- What holds ahead of write k. -/
def PlRel (B : Nat) (w0 : World) (r : Ro) (ws : List Wr) (m : Nat) (i : Value) (wr : World) : Prop := ∃ (k : Nat) (da db : Value), k ≤ m ∧ i = .int .i64 (k : Int) ∧ RmAt (B + 2) B (r.play (ws.take k)) da db wr ∧ RoOk (r.play (ws.take k)) ∧ (∀ i, i < 6 → (wr.cell? ⟨B + 1, i, none⟩).isSome = true) ∧ (∀ i, wr.frozen? ⟨B + 1, i, none⟩ = false) ∧ Below B w0 wr

theorem play_take (r : Ro) {ws : List Wr} {k : Nat} {x : Wr} (hx : ws[k]? = some x) : r.play (ws.take (k + 1)) = (r.play (ws.take k)).write x := by
  rw [List.take_add_one, hx]
  simp [Ro.play]

set_option maxRecDepth 100000 in
set_option maxHeartbeats 3000000 in
theorem play_spec (v u : Value) (r : Ro) (ws : List Wr) (n : Int) (w : World) (h : RomAt v r w) (hu : WritesAt u ws w) (hb : ∀ x ∈ ws, x.byte ≤ 255) (hl : ws.length ≤ 2000000) :
    Calls Try.prog 20 #[v, u, .int .i64 n] w fun e w' => ∃ da db, e = .returned (romV (r.play (ws.take n.toNat)) da db) ∧ Own w.heap.size da (r.play (ws.take n.toNat)).a.data w' ∧ Own w.heap.size db (r.play (ws.take n.toNat)).b.data w' ∧ RoOk (r.play (ws.take n.toNat)) ∧ Below w.heap.size w w' := by
  have HR : Hid (RomAt v r w) := h
  have HU : Hid (WritesAt u ws w) := hu
  obtain ⟨ok, da, db, rfl, ha, hb'⟩ := h
  obtain ⟨aa, ca, rfl⟩ := ha.len
  obtain ⟨ab, cb, rfl⟩ := hb'.len
  obtain ⟨au, cu, rfl⟩ := hu.len
  have HB : Hid (∀ x ∈ ws, x.byte ≤ 255) := hb
  clear ha hb' hb hu ok
  simp only [romV] at HR ⊢
  go_enter Try.func20, Try.ntmps20
  go_wp2_with fail
  have b0 : Below w.heap.size w ((w.alloc (.cells #[.int .u8 (r.a.mark : Int), .int .u8 (r.a.turn : Int), .slice aa r.a.data.length ca, .int .u8 (r.b.mark : Int), .int .u8 (r.b.turn : Int), .slice ab r.b.data.length cb] 32)).alloc (.cells #[.int .u8 0, .int .u8 0, .slice none 0 0, .int .u8 0, .int .u8 0, .slice none 0 0] 32)) :=
    ((Below.refl w.heap.size w).alloc (Nat.le_refl _) _).alloc (by simp) _
  refine (rom_spec _ r _ (HR.out.below b0 (Nat.le_refl _))).mono ?_
  rintro e w1 ⟨d1, d2, rfl, o1, o2, nn, b1⟩
  have e0 : ((w.alloc (.cells #[.int .u8 (r.a.mark : Int), .int .u8 (r.a.turn : Int), .slice aa r.a.data.length ca, .int .u8 (r.b.mark : Int), .int .u8 (r.b.turn : Int), .slice ab r.b.data.length cb] 32)).alloc (.cells #[.int .u8 0, .int .u8 0, .slice none 0 0, .int .u8 0, .int .u8 0, .slice none 0 0] 32)).heap.size = w.heap.size + 2 := by simp
  rw [e0] at o1 o2 b1
  have kk : ∀ (q o : Nat), q < w.heap.size + 2 → w1.cell? ⟨q, o, none⟩ = _ := fun q o h2 => b1.cell (p := ⟨q, o, none⟩) h2
  have zz : ∀ (q o : Nat), q < w.heap.size + 2 → w1.frozen? ⟨q, o, none⟩ = _ := fun q o h2 => b1.frozen (p := ⟨q, o, none⟩) h2
  have c0 : w1.cell? ⟨w.heap.size, 0, none⟩ = some (.int .u8 (r.a.mark : Int)) := by rw [kk _ _ (by omega)]; simp [go_sem]
  have c1 : w1.cell? ⟨w.heap.size, 1, none⟩ = some (.int .u8 (r.a.turn : Int)) := by rw [kk _ _ (by omega)]; simp [go_sem]
  have c2 : w1.cell? ⟨w.heap.size, 2, none⟩ = some (.slice aa r.a.data.length ca) := by rw [kk _ _ (by omega)]; simp [go_sem]
  have c3 : w1.cell? ⟨w.heap.size, 3, none⟩ = some (.int .u8 (r.b.mark : Int)) := by rw [kk _ _ (by omega)]; simp [go_sem]
  have c4 : w1.cell? ⟨w.heap.size, 4, none⟩ = some (.int .u8 (r.b.turn : Int)) := by rw [kk _ _ (by omega)]; simp [go_sem]
  have c5 : w1.cell? ⟨w.heap.size, 5, none⟩ = some (.slice ab r.b.data.length cb) := by rw [kk _ _ (by omega)]; simp [go_sem]
  have zb : ∀ i, w1.frozen? ⟨w.heap.size, i, none⟩ = false := fun i => by rw [zz _ _ (by omega)]; simp [go_sem]
  have rr : ∀ i, i < 6 → (w1.cell? ⟨w.heap.size + 1, i, none⟩).isSome = true := by
    intro i hi
    rw [kk _ _ (by omega)]
    match i, hi with
    | 0, _ => simp
    | 1, _ => simp
    | 2, _ => simp
    | 3, _ => simp
    | 4, _ => simp
    | 5, _ => simp
  have zr : ∀ i, w1.frozen? ⟨w.heap.size + 1, i, none⟩ = false := fun i => by rw [zz _ _ (by omega)]; simp
  have z0 := zb 0
  have z1 := zb 1
  have z2 := zb 2
  have z3 := zb 3
  have z4 := zb 4
  have z5 := zb 5
  have hz1 : w.heap.size < w1.heap.size := by have := b1.size; omega
  have n1 : ∀ q, q < w.heap.size + 2 → d1.ownBlock ≠ some q := fun q hq e => by have := (World.ownsRow.lt o1 q e).1; omega
  have n2 : ∀ q, q < w.heap.size + 2 → d2.ownBlock ≠ some q := fun q hq e => by have := (World.ownsRow.lt o2 q e).1; omega
  have bx : RomBox w.heap.size 0 r (.slice aa r.a.data.length ca) (.slice ab r.b.data.length cb) w1 := ⟨hz1, c0, by simpa using c1, by simpa using c2, by simpa using c3, by simpa using c4, by simpa using c5⟩
  have I0 : Hid (PlRel w.heap.size w r ws (min n.toNat ws.length) (.int .i64 0) ((((((w1.setCell ⟨w.heap.size, 0, none⟩ (.int .u8 (r.a.mark : Int))).setCell ⟨w.heap.size, 1, none⟩ (.int .u8 (r.a.turn : Int))).setCell ⟨w.heap.size, 2, none⟩ d1).setCell ⟨w.heap.size, 3, none⟩ (.int .u8 (r.b.mark : Int))).setCell ⟨w.heap.size, 4, none⟩ (.int .u8 (r.b.turn : Int))).setCell ⟨w.heap.size, 5, none⟩ d2)) := by
    refine ⟨0, d1, d2, by omega, rfl, ⟨box_stored bx, fun i => by simpa using zb i, set6_own o1 (n1 _ (by omega)) _ _ _ _ _ _, set6_own o2 (n2 _ (by omega)) _ _ _ _ _ _, n1 _ (by omega), n2 _ (by omega), nn⟩, HR.out.1, fun i hi => ?_, fun i => by simpa using zr i, set6_below (b0.trans (b1.mono (by omega))) (Nat.le_refl _) _ _ _ _ _ _⟩
    have e1 : ∀ (w' : World) (o : Nat) (vv : Value), ((w'.setCell ⟨w.heap.size, o, none⟩ vv).cell? ⟨w.heap.size + 1, i, none⟩) = w'.cell? ⟨w.heap.size + 1, i, none⟩ := fun w' o vv => World.cell?_setCell_other _ _ _ _ (by simp)
    rw [e1, e1, e1, e1, e1, e1]
    exact rr i hi
  obtain ⟨a1, k1, rfl⟩ := own_size o1
  obtain ⟨a2, k2, rfl⟩ := own_size o2
  clear o1 o2 b1 b0 e0 kk zz rr zr zb n1 n2 bx nn
  simp only [romV]
  go_wp2_with fail
  go_loopw [7] (fun i wr => PlRel w.heap.size w r ws (min n.toNat ws.length) i wr) (fun i _ => min n.toNat ws.length - (intOf i).toNat)
  case atStart => exact I0.out
  case round =>
    clear I0 c0 c1 c2 c3 c4 c5 z0 z1 z2 z3 z4 z5
    obtain ⟨k, da, db, hk, rfl, hm, hok, hrc, hrf, hbl⟩ := hrel
    have HG : Hid ((∀ i, i < 6 → (wr.cell? ⟨w.heap.size + 1, i, none⟩).isSome = true) ∧ (∀ i, wr.frozen? ⟨w.heap.size + 1, i, none⟩ = false) ∧ Below w.heap.size w wr) := ⟨hrc, hrf, hbl⟩
    by_cases hkn : k < min n.toNat ws.length
    · have hkw : k < ws.length := by omega
      have hkn' : (k : Int) < n := by omega
      obtain ⟨x, hx⟩ : ∃ x, ws[k]? = some x := ⟨_, List.getElem?_eq_getElem hkw⟩
      have hw2 := WritesIn.below HU.out hbl
      rcases hw2 with ⟨bb, off, cap', e, hb', hc', he⟩ | ⟨rfl, -⟩
      rotate_left
      · simp at hkw
      injection e with e1 e2 e3
      subst e1 e3
      obtain ⟨p0, p1, p2⟩ := he k x hx
      have HX : Hid (r.play (ws.take (k + 1)) = (r.play (ws.take k)).write x ∧ x.byte ≤ 255) := ⟨play_take r hx, HB.out x (List.mem_of_getElem? hx)⟩
      have hzr : w.heap.size + 1 < wr.heap.size := by
        have := hrc 0 (by omega)
        obtain ⟨v, hv⟩ := Option.isSome_iff_exists.1 this
        exact World.block_lt_of_cell? wr _ hv
      clear he hx e2 hrc hrf hbl
      obtain ⟨r', hr'⟩ : ∃ r', r' = r.play (ws.take k) := ⟨_, rfl⟩
      rw [← hr'] at hm hok HX
      clear hr'
      obtain ⟨q0, q1, q2, q3, q4, q5⟩ := hm.cells
      have HM : Hid (RmAt (w.heap.size + 2) w.heap.size r' da db wr ∧ RoOk r') := ⟨hm, hok⟩
      obtain ⟨xa, ya, rfl⟩ := own_size hm.oa
      obtain ⟨xb, yb, rfl⟩ := own_size hm.ob
      clear hm hok
      obtain ⟨kd, sl, bt⟩ := x
      simp only at p0 p1 p2 HX
      have hS : wr.drew.cell? ⟨bb, off + k * 3, none⟩ = some (.int .i64 kd) ∧ wr.drew.cell? ⟨bb, off + k * 3 + 1, none⟩ = some (.int .i64 sl) ∧ wr.drew.cell? ⟨bb, off + k * 3 + 2, none⟩ = some (.int .u8 (bt : Int)) := ⟨p0, p1, p2⟩
      have t0 : (0 : Int) ≤ (k : Int) ∧ (k : Int) < (ws.length : Int) := by omega
      by_cases hs0 : sl = 0
      · subst hs0
        go_wp2_with fail
        refine wp_region_held (S := fun w' => w'.cell? ⟨bb, off + k * 3, none⟩ = some (.int .i64 kd) ∧ w'.cell? ⟨bb, off + k * 3 + 1, none⟩ = some (.int .i64 0) ∧ w'.cell? ⟨bb, off + k * 3 + 2, none⟩ = some (.int .u8 (bt : Int))) (by kernel_rfl) ?_
        refine held_any (fuel := 8) (i := 0) (v := .pointer (some ⟨w.heap.size, 0, none⟩)) rfl (by kernel_rfl) (by kernel_rfl) (by kernel_rfl) rfl (fun _ _ _ h => h) (fun _ _ => by simp [go_sem]) hS ?_
        go_simp
        refine held_any (fuel := 7) (i := 2) (v := .slice (some ⟨bb, off, none⟩) ws.length cu) rfl (by kernel_rfl) (by kernel_rfl) (by kernel_rfl) rfl (fun _ _ _ h => h) (fun _ _ => rfl) hS ?_
        go_simp
        refine held_any (fuel := 6) (i := 3) (v := .int .i64 (k : Int)) rfl (by kernel_rfl) (by kernel_rfl) (by kernel_rfl) rfl (fun _ _ _ h => h) (fun _ _ => rfl) hS ?_
        go_simp
        refine held_any (fuel := 5) (i := 4) (v := .pointer (some ⟨bb, off + k * 3, none⟩)) rfl (by kernel_rfl) (by kernel_rfl) (by kernel_rfl) rfl (fun _ _ _ h => h) (fun _ _ => by go_simp) hS ?_
        go_simp
        refine held_load (fuel := 4) (i := 5) (t := 35) (v := .agg #[.int .i64 kd, .int .i64 0, .int .u8 (bt : Int)]) rfl rfl rfl (by kernel_rfl) (by kernel_rfl) (by kernel_rfl) rfl (fun _ _ _ h => h) (fun w' hw' => load_write hw'.1 hw'.2.1 hw'.2.2) hS ?_
        go_simp
        refine wpAnyH_ready (rs := [1]) (by kernel_rfl) (by simp) ?_
        refine AllReadyH.cons rfl (fun K hK => ?_) AllReadyH.nil
        rw [if_pos (by rfl)]
        refine op_load rfl (load_slot (B := w.heap.size) (o := 0) q0 q1 q2) ?_
        refine hK.out _ _ hS (fun _ => ?_)
        clear hK K
        go_simp
        refine wpAnyH_ready (rs := [6]) (by kernel_rfl) (by simp) ?_
        refine AllReadyH.cons rfl (fun K hK => ?_) AllReadyH.nil
        go_simp
        refine (add_spec (w.heap.size + 2) r'.a ⟨kd, 0, bt⟩ (.slice xa r'.a.data.length ya) wr.drew (World.ownsRow.drew HM.out.1.oa) (by show _ ≤ wr.heap.size; omega) HM.out.2.ad.len).mono ?_
        rintro e w2 ⟨d', rfl, o2, g2, a2'⟩
        obtain ⟨s', hs'⟩ : ∃ s', s' = r'.a.into ⟨kd, 0, bt⟩ := ⟨_, rfl⟩
        have HW : Hid (r.play (ws.take (k + 1)) = ⟨s', r'.b⟩) := (show r.play (ws.take (k + 1)) = ⟨s', r'.b⟩ by rw [HX.out.1, hs']; rfl)
        have hok2 : RoOk ⟨s', r'.b⟩ := by have := HM.out.2.write (x := ⟨kd, 0, bt⟩) HX.out.2; rw [hs']; exact this
        rw [← hs'] at o2 ⊢
        clear hs'
        have rowb : ∀ q, (Value.slice xa r'.a.data.length ya).ownBlock = some q → w.heap.size + 2 ≤ q := fun q e => (World.ownsRow.lt HM.out.1.oa q e).1
        have nrow : ∀ q, q < w.heap.size + 2 → some q ≠ (Value.slice xa r'.a.data.length ya).ownBlock := fun q hq e => by have := rowb q e.symm; omega
        have kk : ∀ (q o : Nat), q < w.heap.size + 2 → w2.cell? ⟨q, o, none⟩ = wr.cell? ⟨q, o, none⟩ := fun q o h2 => grown_cell g2 (by show q < wr.heap.size; omega) (nrow q h2)
        have zz : ∀ (q o : Nat), q < w.heap.size + 2 → w2.frozen? ⟨q, o, none⟩ = wr.frozen? ⟨q, o, none⟩ := fun q o h2 => grown_frozen g2 (by show q < wr.heap.size; omega) (nrow q h2)
        have hS2 : w2.cell? ⟨bb, off + k * 3, none⟩ = some (.int .i64 kd) ∧ w2.cell? ⟨bb, off + k * 3 + 1, none⟩ = some (.int .i64 0) ∧ w2.cell? ⟨bb, off + k * 3 + 2, none⟩ = some (.int .u8 (bt : Int)) := ⟨(kk _ _ (by omega)).trans p0, (kk _ _ (by omega)).trans p1, (kk _ _ (by omega)).trans p2⟩
        have b0 := (kk w.heap.size 0 (by omega)).trans q0
        have b1 := (kk w.heap.size 1 (by omega)).trans q1
        have b2 := (kk w.heap.size 2 (by omega)).trans q2
        have f0 := (zz w.heap.size 0 (by omega)).trans (HM.out.1.fr 0)
        have f1 := (zz w.heap.size 1 (by omega)).trans (HM.out.1.fr 1)
        have f2 := (zz w.heap.size 2 (by omega)).trans (HM.out.1.fr 2)
        obtain ⟨w3, hw3⟩ : ∃ w3, w3 = ((w2.setCell ⟨w.heap.size, 0, none⟩ (.int .u8 (s'.mark : Int))).setCell ⟨w.heap.size, 1, none⟩ (.int .u8 (s'.turn : Int))).setCell ⟨w.heap.size, 2, none⟩ d' := ⟨_, rfl⟩
        have other : ∀ (q o : Nat), q ≠ w.heap.size → w3.cell? ⟨q, o, none⟩ = w2.cell? ⟨q, o, none⟩ := fun q o hq => by rw [hw3, World.cell?_setCell_other _ _ _ _ (by intro e; injection e with e1; exact hq e1.symm), World.cell?_setCell_other _ _ _ _ (by intro e; injection e with e1; exact hq e1.symm), World.cell?_setCell_other _ _ _ _ (by intro e; injection e with e1; exact hq e1.symm)]
        have hS3 : w3.cell? ⟨bb, off + k * 3, none⟩ = some (.int .i64 kd) ∧ w3.cell? ⟨bb, off + k * 3 + 1, none⟩ = some (.int .i64 0) ∧ w3.cell? ⟨bb, off + k * 3 + 2, none⟩ = some (.int .u8 (bt : Int)) := ⟨(other _ _ (by omega)).trans hS2.1, (other _ _ (by omega)).trans hS2.2.1, (other _ _ (by omega)).trans hS2.2.2⟩
        have HN : Hid (PlRel w.heap.size w r ws (min n.toNat ws.length) (.int .i64 ((k : Int) + 1)) w3) := by
          refine ⟨k + 1, d', .slice xb r'.b.data.length yb, by omega, by go_num, ?_, ?_, fun i hi => ?_, fun i => ?_, ?_⟩
          · rw [HW.out, hw3]; exact HM.out.1.putA o2 (grown_undrew g2) a2'
          · rw [HW.out]; exact hok2
          · rw [other _ _ (by omega), kk _ _ (by omega)]; exact HG.out.1 i hi
          · have e : w2.frozen? ⟨w.heap.size + 1, i, none⟩ = false := (zz _ _ (by omega)).trans (HG.out.2.1 i)
            rw [hw3]; simpa using e
          · rw [hw3]
            have bb2 : Below w.heap.size w w2 := HG.out.2.2.trans (grown_below (grown_undrew g2) (by omega) (fun q e => by have := rowb q e; omega))
            exact ((bb2.setCell (Nat.le_refl _) _).setCell (Nat.le_refl _) _).setCell (Nat.le_refl _) _
        obtain ⟨a', c', rfl⟩ := own_size o2
        simp only [slV]
        refine hK.out _ _ hS2 (fun _ => ?_)
        clear hK K o2 g2 a2' kk zz other nrow rowb hok2
        go_simp
        refine held_any (fuel := 1) (i := 7) (v := .pointer (some ⟨w.heap.size, 0, none⟩)) rfl (by kernel_rfl) (by kernel_rfl) (by kernel_rfl) rfl (fun _ _ _ h => h) (fun _ _ => by simp [go_sem]) hS2 ?_
        go_simp
        refine wpAnyH_ready (rs := [8]) (by kernel_rfl) (by simp) ?_
        refine AllReadyH.cons rfl (fun K hK => ?_) AllReadyH.nil
        go_simp
        rw [← hw3]
        refine hK.out _ _ hS3 (fun _ => ?_)
        clear hK K hw3 b0 b1 b2 f0 f1 f2
        go_simp
        refine wpAnyH_done (by kernel_rfl) ?_ _
        obtain ⟨g0, g1, g2⟩ := hS3
        clear hS hS2 p0 p1 p2 q0 q1 q2 q3 q4 q5
        go_wp2_with fail
        go_roundw
        case rel => exact HN.out
        case measure => simp [intOf]; omega
      · by_cases hs1 : sl = 1
        · subst hs1
          go_wp2_with fail
          refine wp_region_held (S := fun w' => w'.cell? ⟨bb, off + k * 3, none⟩ = some (.int .i64 kd) ∧ w'.cell? ⟨bb, off + k * 3 + 1, none⟩ = some (.int .i64 1) ∧ w'.cell? ⟨bb, off + k * 3 + 2, none⟩ = some (.int .u8 (bt : Int))) (by kernel_rfl) ?_
          refine held_any (fuel := 8) (i := 0) (v := .pointer (some ⟨w.heap.size, 3, none⟩)) rfl (by kernel_rfl) (by kernel_rfl) (by kernel_rfl) rfl (fun _ _ _ h => h) (fun _ _ => by simp [go_sem]) hS ?_
          go_simp
          refine held_any (fuel := 7) (i := 2) (v := .slice (some ⟨bb, off, none⟩) ws.length cu) rfl (by kernel_rfl) (by kernel_rfl) (by kernel_rfl) rfl (fun _ _ _ h => h) (fun _ _ => rfl) hS ?_
          go_simp
          refine held_any (fuel := 6) (i := 3) (v := .int .i64 (k : Int)) rfl (by kernel_rfl) (by kernel_rfl) (by kernel_rfl) rfl (fun _ _ _ h => h) (fun _ _ => rfl) hS ?_
          go_simp
          refine held_any (fuel := 5) (i := 4) (v := .pointer (some ⟨bb, off + k * 3, none⟩)) rfl (by kernel_rfl) (by kernel_rfl) (by kernel_rfl) rfl (fun _ _ _ h => h) (fun _ _ => by go_simp) hS ?_
          go_simp
          refine held_load (fuel := 4) (i := 5) (t := 35) (v := .agg #[.int .i64 kd, .int .i64 1, .int .u8 (bt : Int)]) rfl rfl rfl (by kernel_rfl) (by kernel_rfl) (by kernel_rfl) rfl (fun _ _ _ h => h) (fun w' hw' => load_write hw'.1 hw'.2.1 hw'.2.2) hS ?_
          go_simp
          refine wpAnyH_ready (rs := [1]) (by kernel_rfl) (by simp) ?_
          refine AllReadyH.cons rfl (fun K hK => ?_) AllReadyH.nil
          rw [if_pos (by rfl)]
          refine op_load rfl (load_slot (B := w.heap.size) (o := 3) q3 q4 q5) ?_
          refine hK.out _ _ hS (fun _ => ?_)
          clear hK K
          go_simp
          refine wpAnyH_ready (rs := [6]) (by kernel_rfl) (by simp) ?_
          refine AllReadyH.cons rfl (fun K hK => ?_) AllReadyH.nil
          go_simp
          refine (add_spec (w.heap.size + 2) r'.b ⟨kd, 1, bt⟩ (.slice xb r'.b.data.length yb) wr.drew (World.ownsRow.drew HM.out.1.ob) (by show _ ≤ wr.heap.size; omega) HM.out.2.bd.len).mono ?_
          rintro e w2 ⟨d', rfl, o2, g2, a2'⟩
          obtain ⟨s', hs'⟩ : ∃ s', s' = r'.b.into ⟨kd, 1, bt⟩ := ⟨_, rfl⟩
          have HW : Hid (r.play (ws.take (k + 1)) = ⟨r'.a, s'⟩) := (show r.play (ws.take (k + 1)) = ⟨r'.a, s'⟩ by rw [HX.out.1, hs']; rfl)
          have hok2 : RoOk ⟨r'.a, s'⟩ := by have := HM.out.2.write (x := ⟨kd, 1, bt⟩) HX.out.2; rw [hs']; exact this
          rw [← hs'] at o2 ⊢
          clear hs'
          have rowb : ∀ q, (Value.slice xb r'.b.data.length yb).ownBlock = some q → w.heap.size + 2 ≤ q := fun q e => (World.ownsRow.lt HM.out.1.ob q e).1
          have nrow : ∀ q, q < w.heap.size + 2 → some q ≠ (Value.slice xb r'.b.data.length yb).ownBlock := fun q hq e => by have := rowb q e.symm; omega
          have kk : ∀ (q o : Nat), q < w.heap.size + 2 → w2.cell? ⟨q, o, none⟩ = wr.cell? ⟨q, o, none⟩ := fun q o h2 => grown_cell g2 (by show q < wr.heap.size; omega) (nrow q h2)
          have zz : ∀ (q o : Nat), q < w.heap.size + 2 → w2.frozen? ⟨q, o, none⟩ = wr.frozen? ⟨q, o, none⟩ := fun q o h2 => grown_frozen g2 (by show q < wr.heap.size; omega) (nrow q h2)
          have hS2 : w2.cell? ⟨bb, off + k * 3, none⟩ = some (.int .i64 kd) ∧ w2.cell? ⟨bb, off + k * 3 + 1, none⟩ = some (.int .i64 1) ∧ w2.cell? ⟨bb, off + k * 3 + 2, none⟩ = some (.int .u8 (bt : Int)) := ⟨(kk _ _ (by omega)).trans p0, (kk _ _ (by omega)).trans p1, (kk _ _ (by omega)).trans p2⟩
          have b0 := (kk w.heap.size 3 (by omega)).trans q3
          have b1 := (kk w.heap.size 4 (by omega)).trans q4
          have b2 := (kk w.heap.size 5 (by omega)).trans q5
          have f0 := (zz w.heap.size 3 (by omega)).trans (HM.out.1.fr 3)
          have f1 := (zz w.heap.size 4 (by omega)).trans (HM.out.1.fr 4)
          have f2 := (zz w.heap.size 5 (by omega)).trans (HM.out.1.fr 5)
          obtain ⟨w3, hw3⟩ : ∃ w3, w3 = ((w2.setCell ⟨w.heap.size, 3, none⟩ (.int .u8 (s'.mark : Int))).setCell ⟨w.heap.size, 4, none⟩ (.int .u8 (s'.turn : Int))).setCell ⟨w.heap.size, 5, none⟩ d' := ⟨_, rfl⟩
          have other : ∀ (q o : Nat), q ≠ w.heap.size → w3.cell? ⟨q, o, none⟩ = w2.cell? ⟨q, o, none⟩ := fun q o hq => by rw [hw3, World.cell?_setCell_other _ _ _ _ (by intro e; injection e with e1; exact hq e1.symm), World.cell?_setCell_other _ _ _ _ (by intro e; injection e with e1; exact hq e1.symm), World.cell?_setCell_other _ _ _ _ (by intro e; injection e with e1; exact hq e1.symm)]
          have hS3 : w3.cell? ⟨bb, off + k * 3, none⟩ = some (.int .i64 kd) ∧ w3.cell? ⟨bb, off + k * 3 + 1, none⟩ = some (.int .i64 1) ∧ w3.cell? ⟨bb, off + k * 3 + 2, none⟩ = some (.int .u8 (bt : Int)) := ⟨(other _ _ (by omega)).trans hS2.1, (other _ _ (by omega)).trans hS2.2.1, (other _ _ (by omega)).trans hS2.2.2⟩
          have HN : Hid (PlRel w.heap.size w r ws (min n.toNat ws.length) (.int .i64 ((k : Int) + 1)) w3) := by
            refine ⟨k + 1, .slice xa r'.a.data.length ya, d', by omega, by go_num, ?_, ?_, fun i hi => ?_, fun i => ?_, ?_⟩
            · rw [HW.out, hw3]; exact HM.out.1.putB o2 (grown_undrew g2) a2'
            · rw [HW.out]; exact hok2
            · rw [other _ _ (by omega), kk _ _ (by omega)]; exact HG.out.1 i hi
            · have e : w2.frozen? ⟨w.heap.size + 1, i, none⟩ = false := (zz _ _ (by omega)).trans (HG.out.2.1 i)
              rw [hw3]; simpa using e
            · rw [hw3]
              have bb2 : Below w.heap.size w w2 := HG.out.2.2.trans (grown_below (grown_undrew g2) (by omega) (fun q e => by have := rowb q e; omega))
              exact ((bb2.setCell (Nat.le_refl _) _).setCell (Nat.le_refl _) _).setCell (Nat.le_refl _) _
          obtain ⟨a', c', rfl⟩ := own_size o2
          simp only [slV]
          refine hK.out _ _ hS2 (fun _ => ?_)
          clear hK K o2 g2 a2' kk zz other nrow rowb hok2
          go_simp
          refine held_any (fuel := 1) (i := 7) (v := .pointer (some ⟨w.heap.size, 3, none⟩)) rfl (by kernel_rfl) (by kernel_rfl) (by kernel_rfl) rfl (fun _ _ _ h => h) (fun _ _ => by simp [go_sem]) hS2 ?_
          go_simp
          refine wpAnyH_ready (rs := [8]) (by kernel_rfl) (by simp) ?_
          refine AllReadyH.cons rfl (fun K hK => ?_) AllReadyH.nil
          go_simp
          rw [← hw3]
          refine hK.out _ _ hS3 (fun _ => ?_)
          clear hK K hw3 b0 b1 b2 f0 f1 f2
          go_simp
          refine wpAnyH_done (by kernel_rfl) ?_ _
          obtain ⟨g0, g1, g2⟩ := hS3
          clear hS hS2 p0 p1 p2 q0 q1 q2 q3 q4 q5
          go_wp2_with fail
          go_roundw
          case rel => exact HN.out
          case measure => simp [intOf]; omega
        · have hs0' : (sl == 0) = false := by simpa using hs0
          have hs1' : (sl == 1) = false := by simpa using hs1
          have HN : Hid (PlRel w.heap.size w r ws (min n.toNat ws.length) (.int .i64 ((k : Int) + 1)) wr) := by
            refine ⟨k + 1, .slice xa r'.a.data.length ya, .slice xb r'.b.data.length yb, by omega, by go_num, ?_, ?_, HG.out.1, HG.out.2.1, HG.out.2.2⟩
            · rw [HX.out.1, write_slot hs0 hs1]; exact HM.out.1
            · rw [HX.out.1, write_slot hs0 hs1]; exact HM.out.2
          clear hs0 hs1 q0 q1 q2 q3 q4 q5 hS
          go_wp2_with fail
          go_roundw
          case rel => exact HN.out
          case measure => simp [intOf]; omega
    · have ek : k = min n.toNat ws.length := by omega
      have HT : Hid (r.play (ws.take n.toNat) = r.play (ws.take k)) := congrArg r.play (take_min (by omega))
      obtain ⟨r', hr'⟩ : ∃ r', r' = r.play (ws.take k) := ⟨_, rfl⟩
      rw [← hr'] at hm hok HT
      clear hr'
      have hkn' : ¬ ((k : Int) < n ∧ (k : Int) < (ws.length : Int)) := by omega
      have hzr : w.heap.size + 1 < wr.heap.size := by
        have := hrc 0 (by omega)
        obtain ⟨v, hv⟩ := Option.isSome_iff_exists.1 this
        exact World.block_lt_of_cell? wr _ hv
      obtain ⟨q0, q1, q2, q3, q4, q5⟩ := hm.cells
      have HM : Hid (RmAt (w.heap.size + 2) w.heap.size r' da db wr ∧ RoOk r') := ⟨hm, hok⟩
      obtain ⟨xa, ya, rfl⟩ := own_size hm.oa
      obtain ⟨xb, yb, rfl⟩ := own_size hm.ob
      obtain ⟨v0, r0⟩ := Option.isSome_iff_exists.1 (hrc 0 (by omega))
      obtain ⟨v1, r1⟩ := Option.isSome_iff_exists.1 (hrc 1 (by omega))
      obtain ⟨v2, r2⟩ := Option.isSome_iff_exists.1 (hrc 2 (by omega))
      obtain ⟨v3, r3⟩ := Option.isSome_iff_exists.1 (hrc 3 (by omega))
      obtain ⟨v4, r4⟩ := Option.isSome_iff_exists.1 (hrc 4 (by omega))
      obtain ⟨v5, r5⟩ := Option.isSome_iff_exists.1 (hrc 5 (by omega))
      have f0 := hrf 0
      have f1 := hrf 1
      have f2 := hrf 2
      have f3 := hrf 3
      have f4 := hrf 4
      have f5 := hrf 5
      clear hm hok hrc hrf hbl
      have FIN : Hid (∀ (W : World), W = ((((((wr.setCell ⟨w.heap.size + 1, 0, none⟩ (.int .u8 (r'.a.mark : Int))).setCell ⟨w.heap.size + 1, 1, none⟩ (.int .u8 (r'.a.turn : Int))).setCell ⟨w.heap.size + 1, 2, none⟩ (.slice xa r'.a.data.length ya)).setCell ⟨w.heap.size + 1, 3, none⟩ (.int .u8 (r'.b.mark : Int))).setCell ⟨w.heap.size + 1, 4, none⟩ (.int .u8 (r'.b.turn : Int))).setCell ⟨w.heap.size + 1, 5, none⟩ (.slice xb r'.b.data.length yb)) →
          Own w.heap.size (.slice xa r'.a.data.length ya) r'.a.data W ∧ Own w.heap.size (.slice xb r'.b.data.length yb) r'.b.data W ∧ RoOk r' ∧ Below w.heap.size w W) := by
        intro W hW
        rw [hW]
        exact ⟨set6_own (HM.out.1.oa.mono (by omega)) (fun e => by have := (World.ownsRow.lt HM.out.1.oa _ e).1; omega) _ _ _ _ _ _, set6_own (HM.out.1.ob.mono (by omega)) (fun e => by have := (World.ownsRow.lt HM.out.1.ob _ e).1; omega) _ _ _ _ _ _, HM.out.2, set6_below HG.out.2.2 (by omega) _ _ _ _ _ _⟩
      by_cases hkn2 : (k : Int) < n
      · have hkl : ¬ (k : Int) < (ws.length : Int) := by omega
        go_wp2_with fail
        refine bodyPost_ret (v := romV r' (.slice xa r'.a.data.length ya) (.slice xb r'.b.data.length yb)) (by simp [results, Try.results20, go_sem, romV, r0, r1, r2, r3, r4, r5]) rfl ?_
        rw [HT.out]
        exact ⟨_, _, rfl, FIN.out _ rfl⟩
      · go_wp2_with fail
        refine bodyPost_ret (v := romV r' (.slice xa r'.a.data.length ya) (.slice xb r'.b.data.length yb)) (by simp [results, Try.results20, go_sem, romV, r0, r1, r2, r3, r4, r5]) rfl ?_
        rw [HT.out]
        exact ⟨_, _, rfl, FIN.out _ rfl⟩

end Go.Proofs.Ytdhoimjkgicneac
