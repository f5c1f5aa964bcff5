/- A drawn store, drawn writes, and how many of them. -/
import Derived.Test.YtdhoimjkgicneabTopD
namespace Go.Proofs.Ytdhoimjkgicneab
open Go Go.RowKit

set_option maxRecDepth 100000 in
set_option maxHeartbeats 2000000 in
theorem write_draw (R c : Nat) (w : World) (h : Rd R c w) (hc : c ≤ 900) :
    Calls Try.prog 45 #[.pointer (some ⟨R, 0, none⟩)] w fun e w' => ∃ x : Wr, e = .returned (wrV x) ∧ x.byte ≤ 255 ∧ Rd R (c + 3) w' ∧ Moved R w w' := by
  have hR := h.size
  have HD : Hid (Rd R c w) := h
  clear h
  go_enter Try.func45, Try.ntmps45
  go_wp2_with fail
  refine (pick_any R c 6 _ (HD.out.alloc _) (by omega) (by omega)).mono ?_
  rintro e w1 ⟨y, rfl, y0, y1, -, rd1, mv1⟩
  obtain ⟨q0, q1, q2, f0, f1, f2, zz, mw1⟩ := boxM mv1 hR
  have H1 : Hid (Rd R (c + 1) w1 ∧ Moved R w w1) := ⟨rd1, mw1⟩
  clear rd1 mv1 mw1 y1
  go_wp2_with fail
  refine (num_lit R (c + 1) _ w1 w1.heap.size rfl H1.out.1 (by omega) (by simp) (by simp) (by simp) 6 rfl).mono ?_
  rintro e w2 ⟨z2, rfl, rd2, mv2⟩
  have k0 := (mv2.cell (p := ⟨w.heap.size, 0, none⟩) zz (by show w.heap.size ≠ R; omega)).trans q0
  have k1 := (mv2.cell (p := ⟨w.heap.size, 1, none⟩) zz (by show w.heap.size ≠ R; omega)).trans q1
  have k2 := (mv2.cell (p := ⟨w.heap.size, 2, none⟩) zz (by show w.heap.size ≠ R; omega)).trans q2
  have g0 := (mv2.frozen (p := ⟨w.heap.size, 0, none⟩) zz (by show w.heap.size ≠ R; omega)).trans f0
  have g1 := (mv2.frozen (p := ⟨w.heap.size, 1, none⟩) zz (by show w.heap.size ≠ R; omega)).trans f1
  have g2 := (mv2.frozen (p := ⟨w.heap.size, 2, none⟩) zz (by show w.heap.size ≠ R; omega)).trans f2
  have z2' : w.heap.size < w2.heap.size := by have := mv2.size; omega
  have H2 : Hid (Rd R (c + 2) w2 ∧ Moved R w w2) := ⟨rd2, H1.out.2.trans mv2⟩
  clear rd2 mv2 q0 q1 q2 f0 f1 f2 H1
  go_wp2_with fail
  refine (num_lit R (c + 2) _ w2 w2.heap.size rfl H2.out.1 (by omega) (by simp) (by simp) (by simp) 5 rfl).mono ?_
  rintro e w3 ⟨z3, rfl, rd3, mv3⟩
  obtain ⟨y3, hy3, hy3', hy3''⟩ := byte_of z3
  have r0 := (mv3.cell (p := ⟨w.heap.size, 0, none⟩) z2' (by show w.heap.size ≠ R; omega)).trans k0
  have r1 := (mv3.cell (p := ⟨w.heap.size, 1, none⟩) z2' (by show w.heap.size ≠ R; omega)).trans k1
  have r2 := (mv3.cell (p := ⟨w.heap.size, 2, none⟩) z2' (by show w.heap.size ≠ R; omega)).trans k2
  have p0 := (mv3.frozen (p := ⟨w.heap.size, 0, none⟩) z2' (by show w.heap.size ≠ R; omega)).trans g0
  have p1 := (mv3.frozen (p := ⟨w.heap.size, 1, none⟩) z2' (by show w.heap.size ≠ R; omega)).trans g1
  have p2 := (mv3.frozen (p := ⟨w.heap.size, 2, none⟩) z2' (by show w.heap.size ≠ R; omega)).trans g2
  have H3 : Hid (Rd R (c + 3) w3 ∧ Moved R w w3) := ⟨rd3, H2.out.2.trans mv3⟩
  clear rd3 mv3 H2 k0 k1 k2 g0 g1 g2
  go_wp2_with fail
  obtain ⟨rd3, mv3⟩ := H3.out
  refine bodyPost_ret (v := .agg #[.int .i64 y, .int .i64 z2, .int .u8 (y3 : Int)]) (by simp [results, Try.results45, go_sem, r0, r1, r2]) rfl ?_
  obtain ⟨s1, s2⟩ := set3 rd3 mv3 hR (Nat.le_refl _) w.heap.size (Nat.le_refl _) (.int .i64 y) (.int .i64 z2) (.int .u8 (y3 : Int))
  exact ⟨⟨y, z2, y3⟩, rfl, hy3'', s1, s2⟩

/-- What lies there while writes are drawn. -/
structure FoD (Q R c V : Nat) (w1 : World) (r : Ro) (da db : Value) (wr : World) : Prop where
  box : RomBox V 0 r da db wr
  oa : Own w1.heap.size da r.a.data wr
  ob : Own w1.heap.size db r.b.data wr
  ok : RoOk r
  rd : Rd R c wr
  mv : Moved R w1 wr
  rc : ∀ j, j < 6 → (wr.cell? ⟨Q, j, none⟩).isSome = true
  rf : ∀ j, wr.frozen? ⟨Q, j, none⟩ = false
  hQ : Q < R
  hR : R < w1.heap.size
  hV : w1.heap.size ≤ V

theorem FoD.moved {Q R c c' V : Nat} {w1 : World} {r : Ro} {da db : Value} {wr w' : World} (h : FoD Q R c V w1 r da db wr) (hm : Moved R wr w') (hr : Rd R c' w') : FoD Q R c' V w1 r da db w' := by
  have hV := h.hV
  have hR := h.hR
  have hQ := h.hQ
  have z0 : Q < wr.heap.size := by have := h.box.z; omega
  exact ⟨h.box.moved hm (by omega), h.oa.moved hm (by omega), h.ob.moved hm (by omega), h.ok, hr, h.mv.trans hm,
    fun j hj => by rw [hm.cell (p := ⟨Q, j, none⟩) z0 (by show Q ≠ R; omega)]; exact h.rc j hj, fun j => (hm.frozen (p := ⟨Q, j, none⟩) z0 (by show Q ≠ R; omega)).trans (h.rf j), h.hQ, h.hR, h.hV⟩
theorem FoD.below {Q R c V : Nat} {w1 : World} {r : Ro} {da db : Value} {wr w' : World} (h : FoD Q R c V w1 r da db wr) (hb : Below wr.heap.size wr w') : FoD Q R c V w1 r da db w' :=
  h.moved (Moved.of_below hb (Nat.le_refl _)) (h.rd.below hb)
theorem FoD.rom {Q R c V : Nat} {w1 : World} {r : Ro} {da db : Value} {wr : World} (h : FoD Q R c V w1 r da db wr) : RomAt (romV r da db) r wr := ⟨h.ok, da, db, rfl, h.oa.at, h.ob.at⟩
theorem FoD.grown {Q R c V : Nat} {w1 : World} {r : Ro} {da db : Value} {wr w' : World} {row : Option Nat} (h : FoD Q R c V w1 r da db wr) (hg : wr.grownBy w' row) (hrow : ∀ k, row = some k → V < k ∧ da.ownBlock ≠ some k ∧ db.ownBlock ≠ some k) : FoD Q R c V w1 r da db w' := by
  have hV := h.hV
  have hR := h.hR
  have hQ := h.hQ
  have z0 : Q < wr.heap.size := by have := h.box.z; omega
  have ne : ∀ k, k ≤ V → some k ≠ row := fun k hk e => by have := (hrow k e.symm).1; omega
  exact ⟨h.box.of_block (hg.block V h.box.z (ne V (Nat.le_refl _))), h.oa.kept fun k hk => hg.block k (own_lt h.oa hk) (fun e => (hrow k e.symm).2.1 hk), h.ob.kept fun k hk => hg.block k (own_lt h.ob hk) (fun e => (hrow k e.symm).2.2 hk), h.ok,
    h.rd.grown hg (fun k hk => by have := (hrow k hk).1; omega), h.mv.grown hg (fun k hk => by have := (hrow k hk).1; omega),
    fun j hj => by rw [grown_cell hg (p := ⟨Q, j, none⟩) z0 (ne Q (by omega))]; exact h.rc j hj, fun j => (grown_frozen hg (p := ⟨Q, j, none⟩) z0 (ne Q (by omega))).trans (h.rf j), h.hQ, h.hR, h.hV⟩

/-- What is answered. -/
def PlayD (w : World) (e : Ending) (w' : World) : Prop := ∃ (r : Ro) (da db pv : Value) (ws : List Wr) (n : Int), e = .returned (.tuple #[romV r da db, pv, .int .i64 n]) ∧ RoOk r ∧ BytesAt da r.a.data w' ∧ BytesAt db r.b.data w' ∧ WritesAt pv ws w' ∧ (∀ x ∈ ws, x.byte ≤ 255) ∧ ws.length ≤ 30000 ∧ -1 ≤ n ∧ n ≤ 40000 ∧ Below w.heap.size w w'

/-- The store's cells laid into the result. -/
theorem FoD.done {R c V : Nat} {w w1 : World} {r : Ro} {da db pv : Value} {ws : List Wr} {wr : World} {B : Nat} (h : FoD w.heap.size R c V w1 r da db wr) (hp : OwnW B pv ws wr) (hB : w.heap.size < B) (hb : Below w.heap.size w w1) :
    BytesAt da r.a.data ((((((wr.setCell ⟨w.heap.size, 0, none⟩ (.int .u8 (r.a.mark : Int))).setCell ⟨w.heap.size, 1, none⟩ (.int .u8 (r.a.turn : Int))).setCell ⟨w.heap.size, 2, none⟩ da).setCell ⟨w.heap.size, 3, none⟩ (.int .u8 (r.b.mark : Int))).setCell ⟨w.heap.size, 4, none⟩ (.int .u8 (r.b.turn : Int))).setCell ⟨w.heap.size, 5, none⟩ db) ∧
    BytesAt db r.b.data ((((((wr.setCell ⟨w.heap.size, 0, none⟩ (.int .u8 (r.a.mark : Int))).setCell ⟨w.heap.size, 1, none⟩ (.int .u8 (r.a.turn : Int))).setCell ⟨w.heap.size, 2, none⟩ da).setCell ⟨w.heap.size, 3, none⟩ (.int .u8 (r.b.mark : Int))).setCell ⟨w.heap.size, 4, none⟩ (.int .u8 (r.b.turn : Int))).setCell ⟨w.heap.size, 5, none⟩ db) ∧
    WritesAt pv ws ((((((wr.setCell ⟨w.heap.size, 0, none⟩ (.int .u8 (r.a.mark : Int))).setCell ⟨w.heap.size, 1, none⟩ (.int .u8 (r.a.turn : Int))).setCell ⟨w.heap.size, 2, none⟩ da).setCell ⟨w.heap.size, 3, none⟩ (.int .u8 (r.b.mark : Int))).setCell ⟨w.heap.size, 4, none⟩ (.int .u8 (r.b.turn : Int))).setCell ⟨w.heap.size, 5, none⟩ db) ∧
    Below w.heap.size w ((((((wr.setCell ⟨w.heap.size, 0, none⟩ (.int .u8 (r.a.mark : Int))).setCell ⟨w.heap.size, 1, none⟩ (.int .u8 (r.a.turn : Int))).setCell ⟨w.heap.size, 2, none⟩ da).setCell ⟨w.heap.size, 3, none⟩ (.int .u8 (r.b.mark : Int))).setCell ⟨w.heap.size, 4, none⟩ (.int .u8 (r.b.turn : Int))).setCell ⟨w.heap.size, 5, none⟩ db) := by
  have hQ := h.hQ
  have hR := h.hR
  refine ⟨(set6_own h.oa (fun e => by have := (World.ownsRow.lt h.oa _ e).1; omega) _ _ _ _ _ _).at, (set6_own h.ob (fun e => by have := (World.ownsRow.lt h.ob _ e).1; omega) _ _ _ _ _ _).at, OwnW.at (base := B) (hp.kept fun g hg => set6_block (by have := (hp.lt hg).1; omega) _ _ _ _ _ _), set6_below (hb.trans (h.mv.below (by omega) (by omega))) (Nat.le_refl _) _ _ _ _ _ _⟩

def WrRel (Q R c V : Nat) (w1 : World) (r : Ro) (da db : Value) (B : Nat) (ov iv : Value) (wr : World) : Prop := ∃ (i : Nat) (ws : List Wr), i ≤ 11 ∧ iv = .int .i64 (i : Int) ∧ ws.length + i ≤ 11 ∧ (∀ x ∈ ws, x.byte ≤ 255) ∧ B ≤ wr.heap.size ∧ OwnW B ov ws wr ∧ FoD Q R (c + 3 * (11 - i)) V w1 r da db wr

set_option maxRecDepth 100000 in
set_option maxHeartbeats 4000000 in
theorem draw_hplay (v : Value) (w : World) (h : CodeAt v w) :
    Calls Try.prog 19 #[v] w fun e w' => PlayD w e w' := by
  go_enter Try.func19, Try.ntmps19
  go_wp2_with fail
  have b0 : Below w.heap.size w (w.alloc (.cells #[.int .u8 0, .int .u8 0, .slice none 0 0, .int .u8 0, .int .u8 0, .slice none 0 0] 26)) := (Below.refl _ _).alloc (Nat.le_refl _) _
  refine (open_any v _ (h.below b0)).mono ?_
  rintro e w1 ⟨rfl, rd1, b1⟩
  have e0 : (w.alloc (.cells #[.int .u8 0, .int .u8 0, .slice none 0 0, .int .u8 0, .int .u8 0, .slice none 0 0] 26)).heap.size = w.heap.size + 1 := by simp
  rw [e0] at rd1 b1
  have rc : ∀ j, j < 6 → (w1.cell? ⟨w.heap.size, j, none⟩).isSome = true := fun j hj => by
    rw [b1.cell (p := ⟨w.heap.size, j, none⟩) (by show w.heap.size < _; omega)]
    match j, hj with
    | 0, _ => simp
    | 1, _ => simp
    | 2, _ => simp
    | 3, _ => simp
    | 4, _ => simp
    | 5, _ => simp
  have rf : ∀ j, w1.frozen? ⟨w.heap.size, j, none⟩ = false := fun j => by
    rw [b1.frozen (p := ⟨w.heap.size, j, none⟩) (by show w.heap.size < _; omega)]; simp
  have H1 : Hid (Rd (w.heap.size + 1) 0 w1 ∧ Below w.heap.size w w1 ∧ (∀ j, j < 6 → (w1.cell? ⟨w.heap.size, j, none⟩).isSome = true) ∧ ∀ j, w1.frozen? ⟨w.heap.size, j, none⟩ = false) := ⟨rd1, b0.trans (b1.mono (by omega)), rc, rf⟩
  have z1 : w.heap.size + 1 < w1.heap.size := rd1.size
  clear rd1 b1 b0 rc rf h
  go_wp2_with fail
  refine (draw_rom (w.heap.size + 1) 0 w1 H1.out.1 (by omega)).mono ?_
  rintro e w2 ⟨r, da, db, rfl, ok, oa, ob, rd2, mv2⟩
  have z2 : w1.heap.size ≤ w2.heap.size := mv2.size
  obtain ⟨aa, ca, rfl⟩ := own_size oa
  obtain ⟨ab, cb, rfl⟩ := own_size ob
  have H2 : Hid (FoD w.heap.size (w.heap.size + 1) 90 w2.heap.size w1 r (.slice aa r.a.data.length ca) (.slice ab r.b.data.length cb) (w2.alloc (.cells #[.int .u8 (r.a.mark : Int), .int .u8 (r.a.turn : Int), .slice aa r.a.data.length ca, .int .u8 (r.b.mark : Int), .int .u8 (r.b.turn : Int), .slice ab r.b.data.length cb] 26))) := by
    have mvA := mv2.alloc' (.cells #[.int .u8 (r.a.mark : Int), .int .u8 (r.a.turn : Int), .slice aa r.a.data.length ca, .int .u8 (r.b.mark : Int), .int .u8 (r.b.turn : Int), .slice ab r.b.data.length cb] 26)
    refine ⟨box_new r _ _ w2 _, World.ownsRow.alloc oa _, World.ownsRow.alloc ob _, ok, rd2.alloc _, mvA, fun j hj => ?_, fun j => ?_, by omega, z1, z2⟩
    · rw [mvA.cell (p := ⟨w.heap.size, j, none⟩) (by show w.heap.size < _; omega) (by show w.heap.size ≠ _; omega)]; exact H1.out.2.2.1 j hj
    · exact (mvA.frozen (p := ⟨w.heap.size, j, none⟩) (by show w.heap.size < _; omega) (by show w.heap.size ≠ _; omega)).trans (H1.out.2.2.2 j)
  clear ok oa ob rd2 mv2
  simp only [romV]
  go_wp2_with fail
  refine (pick_any _ _ 3 _ H2.out.rd (by omega) (by omega)).mono ?_
  rintro e w3 ⟨y, rfl, y0, y1, -, rd3, mv3⟩
  have H3 : Hid (FoD w.heap.size (w.heap.size + 1) 91 w2.heap.size w1 r (.slice aa r.a.data.length ca) (.slice ab r.b.data.length cb) w3) := H2.out.moved mv3 rd3
  clear rd3 mv3 y1 H2
  by_cases hy : y = 0
  · subst hy
    go_wp2_with fail
    have s3 : w2.heap.size < w3.heap.size := H3.out.box.z
    have H4 : Hid (FoD w.heap.size (w.heap.size + 1) 91 w2.heap.size w1 r (.slice aa r.a.data.length ca) (.slice ab r.b.data.length cb) (w3.alloc (.cells #[] 42))) := H3.out.below ((Below.refl _ _).alloc (Nat.le_refl _) _)
    refine (pick_any _ _ 12 _ H4.out.rd (by omega) (by omega)).mono ?_
    rintro e w5 ⟨p, rfl, p0, p1, -, rd5, mv5⟩
    have p2 : p < 12 := p1 (by omega)
    obtain ⟨j, rfl⟩ : ∃ j : Nat, p = j := ⟨p.toNat, by omega⟩
    have I0 : Hid (WrRel w.heap.size (w.heap.size + 1) 92 w2.heap.size w1 r (.slice aa r.a.data.length ca) (.slice ab r.b.data.length cb) w3.heap.size (.slice (some ⟨w3.heap.size, 0, none⟩) 0 0) (.int .i64 (j : Int)) w5) := by
      refine ⟨j, [], by omega, rfl, by simp; omega, by simp, by have := mv5.size; simp at this; omega, ?_, H4.out.moved mv5 (rd5.mono (by omega))⟩
      exact OwnW.moved (R := w.heap.size + 1) (World.ownsRow_made w3 #[] 0 (Nat.le_refl _) (by decide) rfl) mv5 (by omega)
    clear rd5 mv5 p1 H4
    go_wp2_with fail
    go_loopw [7, 8] (fun ov iv wr => WrRel w.heap.size (w.heap.size + 1) 92 w2.heap.size w1 r (.slice aa r.a.data.length ca) (.slice ab r.b.data.length cb) w3.heap.size ov iv wr) (fun _ iv _ => (intOf iv).toNat)
    case atStart => exact I0.out
    case round =>
      clear I0
      obtain ⟨i, ws, hi, rfl, hwi, hby, szB, own, fd⟩ := hrel
      have HI : Hid ((∀ x ∈ ws, x.byte ≤ 255) ∧ OwnW w3.heap.size u7 ws wr ∧ FoD w.heap.size (w.heap.size + 1) (92 + 3 * (11 - i)) w2.heap.size w1 r (.slice aa r.a.data.length ca) (.slice ab r.b.data.length cb) wr) := ⟨hby, own, fd⟩
      have sv : w2.heap.size < wr.heap.size := fd.box.z
      obtain ⟨a7, c7, e7⟩ := ownW_size own
      subst e7
      clear hby own fd
      by_cases hi0 : 0 < i
      · have hi0' : (0 : Int) < (i : Int) := by omega
        go_wp2_with fail
        refine (write_draw _ _ wr HI.out.2.2.rd (by omega)).mono ?_
        rintro e w6 ⟨x, rfl, hxb, rd6, mv6⟩
        have H6 : Hid (OwnW w3.heap.size (.slice a7 ws.length c7) ws w6 ∧ FoD w.heap.size (w.heap.size + 1) (92 + 3 * (11 - i) + 3) w2.heap.size w1 r (.slice aa r.a.data.length ca) (.slice ab r.b.data.length cb) w6) := ⟨HI.out.2.1.moved mv6 (by omega), HI.out.2.2.moved mv6 rd6⟩
        have s6 : w2.heap.size < w6.heap.size := H6.out.2.box.z
        have s36 : w3.heap.size ≤ w6.heap.size := by have := mv6.size; omega
        clear rd6 mv6
        simp only [wrV]
        go_wp2_with (at_builtin; refine list_appW w3.heap.size (xs := ws) (ys := [x]) rfl (.tmp 25) (.tmp 28) rfl rfl w6.heap.size _ rfl (World.ownsRow.alloc H6.out.1 _) (new_cells rfl) (by simp; omega) (by simp; omega) ?_)
        intro v8 w8 o8 g8
        have HN : Hid (WrRel w.heap.size (w.heap.size + 1) 92 w2.heap.size w1 r (.slice aa r.a.data.length ca) (.slice ab r.b.data.length cb) w3.heap.size v8 (.int .i64 ((i : Int) - 1)) w8) := by
          refine ⟨i - 1, ws ++ [x], by omega, by have e : ((i - 1 : Nat) : Int) = (i : Int) - 1 := by omega
                                                 rw [e], by simp; omega, ?_, by have := g8.size; simp at this; omega, o8, ?_⟩
          · intro y hy
            simp at hy
            rcases hy with hy | rfl
            · exact HI.out.1 y hy
            · exact hxb
          · have fd8 := FoD.below H6.out.2 ((Below.refl _ _).alloc (Nat.le_refl _) (.cells #[.int .i64 x.kind, .int .i64 x.slot, .int .u8 (x.byte : Int)] 42))
            have fd9 := fd8.grown g8 (fun q hq => by
              have h1 := (H6.out.1.lt hq).1
              refine ⟨by omega, fun e => ?_, fun e => ?_⟩
              · have := own_lt H3.out.oa e; omega
              · have := own_lt H3.out.ob e; omega)
            have e3 : 92 + 3 * (11 - i) + 3 = 92 + 3 * (11 - (i - 1)) := by omega
            rw [e3] at fd9
            exact fd9
        clear o8 g8
        go_wp2_with fail
        go_roundw
        case rel => exact HN.out
        case measure => simp [intOf]; omega
      · have hi0' : ¬ (0 : Int) < (i : Int) := by omega
        have hS : RomBox w2.heap.size 0 r (.slice aa r.a.data.length ca) (.slice ab r.b.data.length cb) wr.drew := HI.out.2.2.box.of_block rfl
        have HF0 : Hid (FoD w.heap.size (w.heap.size + 1) (92 + 3 * (11 - i)) w2.heap.size w1 r (.slice aa r.a.data.length ca) (.slice ab r.b.data.length cb) wr.drew) := HI.out.2.2.below (Below.refl _ _).drew
        go_wp2_with fail
        refine wp_region_held (S := RomBox w2.heap.size 0 r (.slice aa r.a.data.length ca) (.slice ab r.b.data.length cb)) (by kernel_rfl) ?_
        refine held_load (fuel := 7) (i := 0) (t := 26) (v := romV r (.slice aa r.a.data.length ca) (.slice ab r.b.data.length cb)) rfl rfl rfl (by kernel_rfl) (by kernel_rfl) (by kernel_rfl) rfl (fun _ _ _ h => h) (fun w' hw' => load_rom hw') hS ?_
        go_simp
        refine held_any (fuel := 6) (i := 1) (v := .slice a7 ws.length c7) rfl (by kernel_rfl) (by kernel_rfl) (by kernel_rfl) rfl (fun _ _ _ h => h) (fun _ _ => rfl) hS ?_
        go_simp
        refine held_any (fuel := 5) (i := 2) (v := .pointer (some ⟨w.heap.size + 1, 0, none⟩)) rfl (by kernel_rfl) (by kernel_rfl) (by kernel_rfl) rfl (fun _ _ _ h => h) (fun _ _ => rfl) hS ?_
        go_simp
        refine wpAnyH_ready (rs := [3]) (by kernel_rfl) (by simp) ?_
        refine AllReadyH.cons rfl (fun K hK => ?_) AllReadyH.nil
        go_simp
        refine (pick_any _ _ 15 _ HF0.out.rd (by omega) (by omega)).mono ?_
        rintro e w6 ⟨n, rfl, n0, n1, -, rd6, mv6⟩
        have n2 : n < 15 := n1 (by omega)
        have HF6 : Hid (FoD w.heap.size (w.heap.size + 1) (92 + 3 * (11 - i) + 1) w2.heap.size w1 r (.slice aa r.a.data.length ca) (.slice ab r.b.data.length cb) w6 ∧ OwnW w3.heap.size (.slice a7 ws.length c7) ws w6) := ⟨HF0.out.moved mv6 rd6, OwnW.moved (R := w.heap.size + 1) (World.ownsRow.drew HI.out.2.1) mv6 (by have := H3.out.box.z; omega)⟩
        clear rd6 mv6 n1
        have hS6 := HF6.out.1.box
        refine hK.out _ _ hS6 (fun _ => ?_)
        clear hK K
        simp only [romV]
        go_simp
        have nw : IntKind.i64.wrap (n - 1) = n - 1 := by rw [IntKind.wrap_i64]; omega
        refine held_any (fuel := 3) (i := 4) (v := .int .i64 (n - 1)) rfl (by kernel_rfl) (by kernel_rfl) (by kernel_rfl) rfl (fun _ _ _ h => h) (fun _ _ => by go_simp) hS6 ?_
        go_simp
        obtain ⟨v0, r0⟩ := Option.isSome_iff_exists.1 (HF6.out.1.rc 0 (by omega))
        obtain ⟨v1, r1⟩ := Option.isSome_iff_exists.1 (HF6.out.1.rc 1 (by omega))
        obtain ⟨v2, r2⟩ := Option.isSome_iff_exists.1 (HF6.out.1.rc 2 (by omega))
        obtain ⟨v3, r3⟩ := Option.isSome_iff_exists.1 (HF6.out.1.rc 3 (by omega))
        obtain ⟨v4, r4⟩ := Option.isSome_iff_exists.1 (HF6.out.1.rc 4 (by omega))
        obtain ⟨v5, r5⟩ := Option.isSome_iff_exists.1 (HF6.out.1.rc 5 (by omega))
        have f0 := HF6.out.1.rf 0
        have f1 := HF6.out.1.rf 1
        have f2 := HF6.out.1.rf 2
        have f3 := HF6.out.1.rf 3
        have f4 := HF6.out.1.rf 4
        have f5 := HF6.out.1.rf 5
        refine wpAnyH_ready (rs := [5]) (by kernel_rfl) (by simp) ?_
        refine AllReadyH.cons rfl (fun K hK => ?_) AllReadyH.nil
        go_simp
        have hS7 : RomBox w2.heap.size 0 r (.slice aa r.a.data.length ca) (.slice ab r.b.data.length cb) ((((((w6.setCell ⟨w.heap.size, 0, none⟩ (.int .u8 (r.a.mark : Int))).setCell ⟨w.heap.size, 1, none⟩ (.int .u8 (r.a.turn : Int))).setCell ⟨w.heap.size, 2, none⟩ (.slice aa r.a.data.length ca)).setCell ⟨w.heap.size, 3, none⟩ (.int .u8 (r.b.mark : Int))).setCell ⟨w.heap.size, 4, none⟩ (.int .u8 (r.b.turn : Int))).setCell ⟨w.heap.size, 5, none⟩ (.slice ab r.b.data.length cb)) := hS6.of_block (set6_block (by omega) _ _ _ _ _ _)
        refine hK.out _ _ hS7 (fun _ => ?_)
        clear hK K
        go_simp
        refine held_any (fuel := 1) (i := 6) (v := .slice a7 ws.length c7) rfl (by kernel_rfl) (by kernel_rfl) (by kernel_rfl) rfl (fun _ _ _ h => h) (fun _ _ => rfl) hS7 ?_
        go_simp
        refine held_any (fuel := 0) (i := 7) (v := .int .i64 (n - 1)) rfl (by kernel_rfl) (by kernel_rfl) (by kernel_rfl) rfl (fun _ _ _ h => h) (fun _ _ => rfl) hS7 ?_
        go_simp
        refine wpAnyH_done (by kernel_rfl) ?_ _
        clear hS hS6 hS7 nw
        go_wp2_with fail
        obtain ⟨x1, x2, x3, x4⟩ := HF6.out.1.done HF6.out.2 (by have := H3.out.box.z; omega) H1.out.2.1
        refine bodyPost_ret (v := .tuple #[romV r (.slice aa r.a.data.length ca) (.slice ab r.b.data.length cb), .slice a7 ws.length c7, .int .i64 (n - 1)]) (by simp [results, Try.results19, go_sem, romV, r0, r1, r2, r3, r4, r5]) rfl ?_
        exact ⟨r, _, _, _, ws, n - 1, rfl, HF6.out.1.ok, x1, x2, x3, HI.out.1, by omega, by omega, by omega, x4⟩
  · have hy' : (y == 0) = false := by simpa using hy
    have hS : RomBox w2.heap.size 0 r (.slice aa r.a.data.length ca) (.slice ab r.b.data.length cb) w3.drew := H3.out.box.of_block rfl
    have HF0 : Hid (FoD w.heap.size (w.heap.size + 1) 91 w2.heap.size w1 r (.slice aa r.a.data.length ca) (.slice ab r.b.data.length cb) w3.drew) := H3.out.below (Below.refl _ _).drew
    go_wp2_with fail
    refine wp_region_held (S := RomBox w2.heap.size 0 r (.slice aa r.a.data.length ca) (.slice ab r.b.data.length cb)) (by kernel_rfl) ?_
    refine held_load (fuel := 8) (i := 0) (t := 26) (v := romV r (.slice aa r.a.data.length ca) (.slice ab r.b.data.length cb)) rfl rfl rfl (by kernel_rfl) (by kernel_rfl) (by kernel_rfl) rfl (fun _ _ _ h => h) (fun w' hw' => load_rom hw') hS ?_
    go_simp
    refine held_any (fuel := 7) (i := 1) (v := .pointer (some ⟨w.heap.size + 1, 0, none⟩)) rfl (by kernel_rfl) (by kernel_rfl) (by kernel_rfl) rfl (fun _ _ _ h => h) (fun _ _ => rfl) hS ?_
    go_simp
    refine wpAnyH_ready (rs := [2]) (by kernel_rfl) (by simp) ?_
    refine AllReadyH.cons rfl (fun K hK => ?_) AllReadyH.nil
    go_simp
    refine (data_draw _ _ _ HF0.out.rd (by omega)).mono ?_
    rintro e w4 ⟨dv, xs, rfl, o4, few, rd4, mv4⟩
    have HF4 : Hid (FoD w.heap.size (w.heap.size + 1) (91 + 14) w2.heap.size w1 r (.slice aa r.a.data.length ca) (.slice ab r.b.data.length cb) w4) := HF0.out.moved mv4 rd4
    refine hK.out _ _ HF4.out.box (fun _ => ?_)
    clear hK K
    go_simp
    refine wpAnyH_ready (rs := [3]) (by kernel_rfl) (by simp) ?_
    refine AllReadyH.cons rfl (fun K hK => ?_) AllReadyH.nil
    go_simp
    refine (plan_spec _ dv r xs w4 HF4.out.rom o4.at few).mono ?_
    rintro e w5 ⟨u, rfl, ⟨pv, pq, rfl, hp⟩, b5⟩
    obtain ⟨ws, hw, hby, hwl⟩ := plan_writes few hp
    have s4 : w2.heap.size < w4.heap.size := HF4.out.box.z
    have HF5 : Hid (FoD w.heap.size (w.heap.size + 1) (91 + 14) w2.heap.size w1 r (.slice aa r.a.data.length ca) (.slice ab r.b.data.length cb) w5 ∧ OwnW w4.heap.size pv ws w5 ∧ (∀ x ∈ ws, x.byte ≤ 255)) := ⟨HF4.out.below b5, hw, hby⟩
    obtain ⟨ap, cp, rfl⟩ := ownW_size hw
    have hS5 := HF5.out.1.box
    refine hK.out _ _ hS5 (fun _ => ?_)
    clear hK K hp b5 hw hby o4 rd4 mv4
    go_simp
    refine held_any (fuel := 4) (i := 4) (v := .tuple #[.slice ap ws.length cp, .bool pq]) rfl (by kernel_rfl) (by kernel_rfl) (by kernel_rfl) rfl (fun _ _ _ h => h) (fun _ _ => rfl) hS5 ?_
    go_simp
    refine held_any (fuel := 3) (i := 5) (v := .slice ap ws.length cp) rfl (by kernel_rfl) (by kernel_rfl) (by kernel_rfl) rfl (fun _ _ _ h => h) (fun _ _ => rfl) hS5 ?_
    go_simp
    refine held_any (fuel := 2) (i := 6) (v := .bool pq) rfl (by kernel_rfl) (by kernel_rfl) (by kernel_rfl) rfl (fun _ _ _ h => h) (fun _ _ => rfl) hS5 ?_
    go_simp
    refine held_any (fuel := 1) (i := 7) (v := .slice ap ws.length cp) rfl (by kernel_rfl) (by kernel_rfl) (by kernel_rfl) rfl (fun _ _ _ h => h) (fun _ _ => rfl) hS5 ?_
    go_simp
    refine held_any (fuel := 0) (i := 8) (v := .bool pq) rfl (by kernel_rfl) (by kernel_rfl) (by kernel_rfl) rfl (fun _ _ _ h => h) (fun _ _ => rfl) hS5 ?_
    go_simp
    refine wpAnyH_done (by kernel_rfl) ?_ _
    clear hS hS5 HF0 HF4
    have hT : RomBox w2.heap.size 0 r (.slice aa r.a.data.length ca) (.slice ab r.b.data.length cb) w5.drew := HF5.out.1.box.of_block rfl
    have HG0 : Hid (FoD w.heap.size (w.heap.size + 1) (91 + 14) w2.heap.size w1 r (.slice aa r.a.data.length ca) (.slice ab r.b.data.length cb) w5.drew) := HF5.out.1.below (Below.refl _ _).drew
    go_wp2_with fail
    refine wp_region_held (S := RomBox w2.heap.size 0 r (.slice aa r.a.data.length ca) (.slice ab r.b.data.length cb)) (by kernel_rfl) ?_
    refine held_load (fuel := 9) (i := 0) (t := 26) (v := romV r (.slice aa r.a.data.length ca) (.slice ab r.b.data.length cb)) rfl rfl rfl (by kernel_rfl) (by kernel_rfl) (by kernel_rfl) rfl (fun _ _ _ h => h) (fun w' hw' => load_rom hw') hT ?_
    go_simp
    refine held_any (fuel := 8) (i := 1) (v := .slice ap ws.length cp) rfl (by kernel_rfl) (by kernel_rfl) (by kernel_rfl) rfl (fun _ _ _ h => h) (fun _ _ => rfl) hT ?_
    go_simp
    refine held_any (fuel := 7) (i := 2) (v := .pointer (some ⟨w.heap.size + 1, 0, none⟩)) rfl (by kernel_rfl) (by kernel_rfl) (by kernel_rfl) rfl (fun _ _ _ h => h) (fun _ _ => rfl) hT ?_
    go_simp
    refine held_any (fuel := 6) (i := 3) (v := .slice ap ws.length cp) rfl (by kernel_rfl) (by kernel_rfl) (by kernel_rfl) rfl (fun _ _ _ h => h) (fun _ _ => rfl) hT ?_
    go_simp
    refine held_any (fuel := 5) (i := 4) (v := .int .i64 (ws.length : Int)) rfl (by kernel_rfl) (by kernel_rfl) (by kernel_rfl) rfl (fun _ _ _ h => h) (fun _ _ => by go_simp) hT ?_
    go_simp
    have nw : IntKind.i64.wrap ((ws.length : Int) + 2) = (ws.length : Int) + 2 := by rw [IntKind.wrap_i64]; omega
    refine held_any (fuel := 4) (i := 5) (v := .int .i64 ((ws.length : Int) + 2)) rfl (by kernel_rfl) (by kernel_rfl) (by kernel_rfl) rfl (fun _ _ _ h => h) (fun _ _ => by go_simp) hT ?_
    go_simp
    refine wpAnyH_ready (rs := [6]) (by kernel_rfl) (by simp) ?_
    refine AllReadyH.cons rfl (fun K hK => ?_) AllReadyH.nil
    go_simp
    refine (pick_any _ _ ((ws.length : Int) + 2) _ HG0.out.rd (by omega) (by omega)).mono ?_
    rintro e w6 ⟨n, rfl, n0, n1, -, rd6, mv6⟩
    have n2 : n < (ws.length : Int) + 2 := n1 (by omega)
    have HF6 : Hid (FoD w.heap.size (w.heap.size + 1) (91 + 14 + 1) w2.heap.size w1 r (.slice aa r.a.data.length ca) (.slice ab r.b.data.length cb) w6 ∧ OwnW w4.heap.size (.slice ap ws.length cp) ws w6) := ⟨HG0.out.moved mv6 rd6, OwnW.moved (R := w.heap.size + 1) (World.ownsRow.drew HF5.out.2.1) mv6 (by omega)⟩
    clear rd6 mv6 n1 nw
    have hS6 := HF6.out.1.box
    refine hK.out _ _ hS6 (fun _ => ?_)
    clear hK K
    simp only [romV]
    go_simp
    obtain ⟨v0, r0⟩ := Option.isSome_iff_exists.1 (HF6.out.1.rc 0 (by omega))
    obtain ⟨v1, r1⟩ := Option.isSome_iff_exists.1 (HF6.out.1.rc 1 (by omega))
    obtain ⟨v2, r2⟩ := Option.isSome_iff_exists.1 (HF6.out.1.rc 2 (by omega))
    obtain ⟨v3, r3⟩ := Option.isSome_iff_exists.1 (HF6.out.1.rc 3 (by omega))
    obtain ⟨v4, r4⟩ := Option.isSome_iff_exists.1 (HF6.out.1.rc 4 (by omega))
    obtain ⟨v5, r5⟩ := Option.isSome_iff_exists.1 (HF6.out.1.rc 5 (by omega))
    have f0 := HF6.out.1.rf 0
    have f1 := HF6.out.1.rf 1
    have f2 := HF6.out.1.rf 2
    have f3 := HF6.out.1.rf 3
    have f4 := HF6.out.1.rf 4
    have f5 := HF6.out.1.rf 5
    refine wpAnyH_ready (rs := [7]) (by kernel_rfl) (by simp) ?_
    refine AllReadyH.cons rfl (fun K hK => ?_) AllReadyH.nil
    go_simp
    have hS7 : RomBox w2.heap.size 0 r (.slice aa r.a.data.length ca) (.slice ab r.b.data.length cb) ((((((w6.setCell ⟨w.heap.size, 0, none⟩ (.int .u8 (r.a.mark : Int))).setCell ⟨w.heap.size, 1, none⟩ (.int .u8 (r.a.turn : Int))).setCell ⟨w.heap.size, 2, none⟩ (.slice aa r.a.data.length ca)).setCell ⟨w.heap.size, 3, none⟩ (.int .u8 (r.b.mark : Int))).setCell ⟨w.heap.size, 4, none⟩ (.int .u8 (r.b.turn : Int))).setCell ⟨w.heap.size, 5, none⟩ (.slice ab r.b.data.length cb)) := hS6.of_block (set6_block (by omega) _ _ _ _ _ _)
    refine hK.out _ _ hS7 (fun _ => ?_)
    clear hK K
    go_simp
    refine held_any (fuel := 1) (i := 8) (v := .slice ap ws.length cp) rfl (by kernel_rfl) (by kernel_rfl) (by kernel_rfl) rfl (fun _ _ _ h => h) (fun _ _ => rfl) hS7 ?_
    go_simp
    refine held_any (fuel := 0) (i := 9) (v := .int .i64 n) rfl (by kernel_rfl) (by kernel_rfl) (by kernel_rfl) rfl (fun _ _ _ h => h) (fun _ _ => rfl) hS7 ?_
    go_simp
    refine wpAnyH_done (by kernel_rfl) ?_ _
    clear hT hS6 hS7
    go_wp2_with fail
    obtain ⟨x1, x2, x3, x4⟩ := HF6.out.1.done HF6.out.2 (by omega) H1.out.2.1
    refine bodyPost_ret (v := .tuple #[romV r (.slice aa r.a.data.length ca) (.slice ab r.b.data.length cb), .slice ap ws.length cp, .int .i64 n]) (by simp [results, Try.results19, go_sem, romV, r0, r1, r2, r3, r4, r5]) rfl ?_
    exact ⟨r, _, _, _, ws, n, rfl, HF6.out.1.ok, x1, x2, x3, HF5.out.2.2, by omega, by omega, by omega, x4⟩

end Go.Proofs.Ytdhoimjkgicneab
