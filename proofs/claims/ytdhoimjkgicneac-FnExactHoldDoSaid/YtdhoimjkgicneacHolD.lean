/- Which slot counts, and what a store keeps: of the program and of the specification. -/
import Derived.Test.YtdhoimjkgicneacHolC
namespace Go.Proofs.Ytdhoimjkgicneac
open Go Go.RowKit

/-- A store's cells from a place of a block on. -/
structure RomBox (B o : Nat) (r : Ro) (da db : Value) (w : World) : Prop where
  z : B < w.heap.size
  c0 : w.cell? ⟨B, o, none⟩ = some (.int .u8 (r.a.mark : Int))
  c1 : w.cell? ⟨B, o + 1, none⟩ = some (.int .u8 (r.a.turn : Int))
  c2 : w.cell? ⟨B, o + 2, none⟩ = some da
  c3 : w.cell? ⟨B, o + 3, none⟩ = some (.int .u8 (r.b.mark : Int))
  c4 : w.cell? ⟨B, o + 4, none⟩ = some (.int .u8 (r.b.turn : Int))
  c5 : w.cell? ⟨B, o + 5, none⟩ = some db

theorem RomBox.of_block {B o : Nat} {r : Ro} {da db : Value} {w w' : World} (h : RomBox B o r da db w) (hb : w'.heap[B]? = w.heap[B]?) : RomBox B o r da db w' := by
  have k : ∀ i, w'.cell? ⟨B, i, none⟩ = w.cell? ⟨B, i, none⟩ := fun i => World.cell?_of_block hb
  refine ⟨?_, (k _).trans h.c0, (k _).trans h.c1, (k _).trans h.c2, (k _).trans h.c3, (k _).trans h.c4, (k _).trans h.c5⟩
  have hz := h.z
  rw [Array.getElem?_eq_getElem hz] at hb
  exact (Array.getElem?_eq_some_iff.1 hb).1
theorem RomBox.below {B o C : Nat} {r : Ro} {da db : Value} {w w' : World} (h : RomBox B o r da db w) (hb : Below C w w') (hC : B < C) : RomBox B o r da db w' := h.of_block (hb.block B hC)

theorem box_new (r : Ro) (da db : Value) (w : World) (t : TypeId) : RomBox w.heap.size 0 r da db (w.alloc (.cells #[.int .u8 (r.a.mark : Int), .int .u8 (r.a.turn : Int), da, .int .u8 (r.b.mark : Int), .int .u8 (r.b.turn : Int), db] t)) :=
  ⟨by simp, by simp, by simp, by simp, by simp, by simp, by simp⟩

/-- A region that draws its order, whose operations and callees leave what was there. -/
theorem wp_region_belowH {P : Program} {id : Nat} {Q : Exit → Act → World → Prop} {a : Act} {w : World} {l : List Oper} (hm : P.follows .mixedOrders = true) (hB : Region.lexB .any l.toArray = true)
    (h : wpQuiet P l.toArray (Below w.heap.size w) (fun a' => ∀ w', Below w.heap.size w w' → Q .normal a' w') l a) : (Code.region id l.toArray true).wp P Q a w :=
  wp_region_quiet (C := Below w.heap.size w) hm hB (Below.refl w.heap.size w).drew (by simpa using h)

theorem below_drewN {B : Nat} {w w' : World} (h : Below B w w') (n : Nat) : Below B w (w'.drewN n) := ⟨h.os, h.tape, h.output, h.size, h.block⟩

theorem good_turn {s : Sl} (h : s.good = true) : s.turn ≤ 2 := by simp [Sl.good] at h; exact h.1.2

theorem slot_both {r : Ro} (ga : r.a.good = true) (gb : r.b.good = true) : r.slotNow = if r.b.turn = (r.a.turn + 1) % 3 then 1 else 0 := by
  simp [Ro.slotNow, ga, gb]
theorem slot_a {r : Ro} (ga : r.a.good = true) (gb : r.b.good = false) : r.slotNow = 0 := by simp [Ro.slotNow, ga, gb]
theorem slot_b {r : Ro} (ga : r.a.good = false) (gb : r.b.good = true) : r.slotNow = 1 := by simp [Ro.slotNow, ga, gb]
theorem slot_no {r : Ro} (ga : r.a.good = false) (gb : r.b.good = false) : r.slotNow = -1 := by simp [Ro.slotNow, ga, gb]

set_option maxHeartbeats 1600000 in
theorem slot_spec (v : Value) (r : Ro) (w : World) (h : RomAt v r w) :
    Calls Try.prog 25 #[v] w fun e w' => e = .returned (.int .i64 r.slotNow) ∧ Below w.heap.size w w' := by
  obtain ⟨ok, da, db, rfl, ha, hb⟩ := h
  obtain ⟨aa, ca, rfl⟩ := ha.len
  obtain ⟨ab, cb, rfl⟩ := hb.len
  have l1 := ok.ad.len
  have l2 := ok.bd.len
  have t1 := ok.at'
  have t2 := ok.bt
  clear ha hb ok
  simp only [romV]
  go_enter Try.func25, Try.ntmps25
  go_wp2_with fail
  refine (good_spec r.a aa ca _ (by omega)).mono ?_
  rintro e w1 ⟨rfl, b1⟩
  have X1 : Hid (RomBox w.heap.size 0 r (.slice aa r.a.data.length ca) (.slice ab r.b.data.length cb) w1) := (box_new r _ _ w _).below b1 (by simp)
  have B1 : Hid (Below w.heap.size w w1) := ((Below.refl _ _).alloc (Nat.le_refl _) _).trans (b1.mono (by simp))
  have s1 : w.heap.size < w1.heap.size := X1.out.z
  have c3 := X1.out.c3
  have c4 := X1.out.c4
  have c5 := X1.out.c5
  simp only [Nat.zero_add] at c3 c4 c5
  clear b1
  go_wp2_with fail
  refine (good_spec r.b ab cb w1 (by omega)).mono ?_
  rintro e w2 ⟨rfl, b2⟩
  have B2 : Hid (Below w.heap.size w w2) := B1.out.trans (b2.mono (by omega))
  have X2 : Hid (RomBox w.heap.size 0 r (.slice aa r.a.data.length ca) (.slice ab r.b.data.length cb) w2) := X1.out.below b2 s1
  clear c3 c4 c5 b2
  have c1 := X2.out.c1
  have c4 := X2.out.c4
  simp only [Nat.zero_add] at c1 c4
  cases ga : r.a.good with
  | true =>
    cases gb : r.b.good with
    | true =>
      have u1 := good_turn ga
      have e := slot_both ga gb
      by_cases h : r.b.turn = (r.a.turn + 1) % 3
      · rw [if_pos h] at e
        have E : Hid (r.slotNow = 1) := e
        have h' : ((r.b.turn : Int) == ((r.a.turn : Int) + 1) % 3) = true := by simp; omega
        clear h e
        go_wp2
        go_ret
        exact ⟨by rw [E.out]; rfl, B2.out⟩
      · rw [if_neg h] at e
        have E : Hid (r.slotNow = 0) := e
        have h' : ((r.b.turn : Int) == ((r.a.turn : Int) + 1) % 3) = false := by simp; omega
        clear h e
        go_wp2
        go_ret
        exact ⟨by rw [E.out]; rfl, B2.out⟩
    | false =>
      have E : Hid (r.slotNow = 0) := slot_a ga gb
      go_wp2
      go_ret
      exact ⟨by rw [E.out]; rfl, B2.out⟩
  | false =>
    cases gb : r.b.good with
    | true =>
      have E : Hid (r.slotNow = 1) := slot_b ga gb
      go_wp2
      go_ret
      exact ⟨by rw [E.out]; rfl, B2.out⟩
    | false =>
      have E : Hid (r.slotNow = -1) := slot_no ga gb
      go_wp2
      go_ret
      exact ⟨by rw [E.out]; rfl, B2.out⟩

set_option maxHeartbeats 1600000 in
theorem slot_impl (v : Value) (r : Ro) (w : World) (h : RomAt v r w) :
    Calls Try.prog 26 #[v] w fun e w' => e = .returned (.int .i64 r.slotNow) ∧ Below w.heap.size w w' := by
  obtain ⟨ok, da, db, rfl, ha, hb⟩ := h
  obtain ⟨aa, ca, rfl⟩ := ha.len
  obtain ⟨ab, cb, rfl⟩ := hb.len
  have l1 := ok.ad.len
  have l2 := ok.bd.len
  have t1 := ok.at'
  have t2 := ok.bt
  clear ha hb ok
  simp only [romV]
  go_enter Try.func26, Try.ntmps26
  go_wp2_with fail
  obtain ⟨w0, hw0⟩ : ∃ w0, w0 = w.alloc (.cells #[.int .u8 (r.a.mark : Int), .int .u8 (r.a.turn : Int), .slice aa r.a.data.length ca, .int .u8 (r.b.mark : Int), .int .u8 (r.b.turn : Int), .slice ab r.b.data.length cb] 32) := ⟨_, rfl⟩
  have X0 : RomBox w.heap.size 0 r (.slice aa r.a.data.length ca) (.slice ab r.b.data.length cb) w0 := by rw [hw0]; exact box_new r _ _ w _
  have B0 : Below w.heap.size w w0 := by rw [hw0]; exact (Below.refl _ _).alloc (Nat.le_refl _) _
  rw [← hw0]
  have LX : ∀ w', Below w0.heap.size w0 w' → RomBox w.heap.size 0 r (.slice aa r.a.data.length ca) (.slice ab r.b.data.length cb) w' := fun w' hw' => X0.below hw' X0.z
  have GA : ∀ w', Below w0.heap.size w0 w' → Calls Try.prog 56 #[.agg #[.int .u8 (r.a.mark : Int), .int .u8 (r.a.turn : Int), .slice aa r.a.data.length ca]] w' fun e w'' => e = .returned (.bool r.a.good) ∧ Below w0.heap.size w0 w'' := fun w' hw' =>
    (good_impl r.a aa ca w' (by omega)).mono fun e w'' ⟨he, hb⟩ => ⟨he, hw'.trans (hb.mono hw'.size)⟩
  have GB : ∀ w', Below w0.heap.size w0 w' → Calls Try.prog 56 #[.agg #[.int .u8 (r.b.mark : Int), .int .u8 (r.b.turn : Int), .slice ab r.b.data.length cb]] w' fun e w'' => e = .returned (.bool r.b.good) ∧ Below w0.heap.size w0 w'' := fun w' hw' =>
    (good_impl r.b ab cb w' (by omega)).mono fun e w'' ⟨he, hb⟩ => ⟨he, hw'.trans (hb.mono hw'.size)⟩
  clear hw0
  refine wp_region_belowH (by kernel_rfl) (by kernel_rfl) ?_
  quiet_step (exact fun _ => rfl)
  refine wpQuiet_step (fun K hK => ?_)
  go_simp
  refine ⟨.agg #[.int .u8 (r.a.mark : Int), .int .u8 (r.a.turn : Int), .slice aa r.a.data.length ca], fun w' hw' => ?_, hK _ ?_⟩
  · have X := LX w' hw'
    have c0 := X.c0
    have c1 := X.c1
    have c2 := X.c2
    simp only [Nat.zero_add] at c1 c2
    simp [c0, c1, c2]
  clear hK K
  refine wpQuiet_step (fun K hK => ?_)
  go_simp
  refine ⟨.bool r.a.good, fun w' hw' => ?_, hK _ ?_⟩
  · exact GA w' hw'
  clear hK K
  quiet_step (exact fun _ => rfl)
  refine wpQuiet_step (fun K hK => ?_)
  go_simp
  refine ⟨.agg #[.int .u8 (r.b.mark : Int), .int .u8 (r.b.turn : Int), .slice ab r.b.data.length cb], fun w' hw' => ?_, hK _ ?_⟩
  · have X := LX w' hw'
    have c3 := X.c3
    have c4 := X.c4
    have c5 := X.c5
    simp only [Nat.zero_add] at c3 c4 c5
    simp [c3, c4, c5]
  clear hK K
  refine wpQuiet_step (fun K hK => ?_)
  go_simp
  refine ⟨.bool r.b.good, fun w' hw' => ?_, hK _ ?_⟩
  · exact GB w' hw'
  clear hK K
  quiet_step (exact fun _ => rfl)
  quiet_step (exact fun _ => rfl)
  refine wpQuiet_nil ?_
  intro w1 hb1
  have B2 : Hid (Below w.heap.size w w1) := B0.trans (hb1.mono B0.size)
  have X1 := LX w1 hb1
  have c1 := X1.c1
  have c4 := X1.c4
  simp only [Nat.zero_add] at c1 c4
  clear LX GA GB hb1 X1 X0 B0 l1 l2
  cases ga : r.a.good with
  | true =>
    cases gb : r.b.good with
    | true =>
      have u1 := good_turn ga
      have e := slot_both ga gb
      by_cases h : r.b.turn = (r.a.turn + 1) % 3
      · rw [if_pos h] at e
        have E : Hid (r.slotNow = 1) := e
        have h' : ((r.b.turn : Int) == (((r.a.turn + 1) % 3 : Nat) : Int)) = true := by simp; omega
        clear h e
        go_wp2_with fail
        go_quiet ((go_at_call 57; exact Calls.quiet_of_same (next_any r.a.turn _ u1)))
        go_wp2
        go_ret
        exact ⟨by rw [E.out]; rfl, below_drewN B2.out _⟩
      · rw [if_neg h] at e
        have E : Hid (r.slotNow = 0) := e
        have h' : ((r.b.turn : Int) == (((r.a.turn + 1) % 3 : Nat) : Int)) = false := by simp; omega
        clear h e
        go_wp2_with fail
        go_quiet ((go_at_call 57; exact Calls.quiet_of_same (next_any r.a.turn _ u1)))
        go_wp2
        go_ret
        exact ⟨by rw [E.out]; rfl, below_drewN B2.out _⟩
    | false =>
      have E : Hid (r.slotNow = 0) := slot_a ga gb
      go_wp2_with fail
      go_quiet (fail)
      go_wp2
      go_ret
      exact ⟨by rw [E.out]; rfl, below_drewN B2.out _⟩
  | false =>
    cases gb : r.b.good with
    | true =>
      have E : Hid (r.slotNow = 1) := slot_b ga gb
      go_wp2_with fail
      go_quiet (fail)
      go_wp2
      go_ret
      exact ⟨by rw [E.out]; rfl, below_drewN B2.out _⟩
    | false =>
      have E : Hid (r.slotNow = -1) := slot_no ga gb
      go_wp2_with fail
      go_quiet (fail)
      go_wp2
      go_ret
      exact ⟨by rw [E.out]; rfl, below_drewN B2.out _⟩

end Go.Proofs.Ytdhoimjkgicneac
