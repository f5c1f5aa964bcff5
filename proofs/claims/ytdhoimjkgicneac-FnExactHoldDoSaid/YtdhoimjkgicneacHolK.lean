/- The program's HoldPlay: the store is opened, written, and handed back. -/
import Derived.Test.YtdhoimjkgicneacHolJ
namespace Go.Proofs.Ytdhoimjkgicneac
open Go Go.RowKit

theorem load_slot {B o : Nat} {x y z : Value} {w : World} (h0 : w.cell? ⟨B, o, none⟩ = some x) (h1 : w.cell? ⟨B, o + 1, none⟩ = some y) (h2 : w.cell? ⟨B, o + 2, none⟩ = some z) :
    (Instr.loadAt 30 (.pointer (some ⟨B, o, none⟩))).run Try.prog w = .ok (.agg #[x, y, z]) w := by
  simp [go_sem, h0, h1, h2]

set_option maxRecDepth 100000 in
set_option maxHeartbeats 1600000 in
theorem hold_open (v : Value) (r : Ro) (w : World) (h : RomAt v r w) :
    Calls Try.prog 52 #[v] w fun e w' => ∃ S da db, e = .returned (.pointer (some ⟨S, 0, none⟩)) ∧ StAt w.heap.size S 0 r da db w' ∧ Below w.heap.size w w' := by
  obtain ⟨ok, da, db, rfl, ha, hb⟩ := h
  have l1 := ok.ad.len
  have l2 := ok.bd.len
  have HA : Hid (BytesAt da r.a.data w) := ha
  have HB : Hid (BytesAt db r.b.data w) := hb
  obtain ⟨aa, ca, rfl⟩ := ha.len
  obtain ⟨ab, cb, rfl⟩ := hb.len
  clear ok ha hb
  simp only [romV]
  go_enter Try.func52, Try.ntmps52
  go_wp2_with fail
  obtain ⟨w0, hw0⟩ : ∃ w0, w0 = w.alloc (.cells #[.int .u8 (r.a.mark : Int), .int .u8 (r.a.turn : Int), .slice aa r.a.data.length ca, .int .u8 (r.b.mark : Int), .int .u8 (r.b.turn : Int), .slice ab r.b.data.length cb] 32) := ⟨_, rfl⟩
  have X0 : RomBox w.heap.size 0 r (.slice aa r.a.data.length ca) (.slice ab r.b.data.length cb) w0 := by rw [hw0]; exact box_new r _ _ w _
  have B0 : Below w.heap.size w w0 := by rw [hw0]; exact (Below.refl _ _).alloc (Nat.le_refl _) _
  rw [← hw0]
  clear hw0
  have LX : ∀ w', Below w0.heap.size w0 w' → RomBox w.heap.size 0 r (.slice aa r.a.data.length ca) (.slice ab r.b.data.length cb) w' := fun w' hw' => X0.below hw' X0.z
  have hS : Below w0.heap.size w0 w0.drew := (Below.refl _ _).drew
  refine wp_region_held (S := Below w0.heap.size w0) (by kernel_rfl) ?_
  refine held_any (fuel := 9) (i := 0) (v := .pointer (some ⟨w.heap.size, 0, none⟩)) rfl (by kernel_rfl) (by kernel_rfl) (by kernel_rfl) rfl (fun _ _ _ h => h) (fun _ _ => by simp [go_sem]) hS ?_
  go_simp
  refine held_load (fuel := 8) (i := 1) (t := 30) (v := .agg #[.int .u8 (r.a.mark : Int), .int .u8 (r.a.turn : Int), .slice aa r.a.data.length ca]) rfl rfl rfl (by kernel_rfl) (by kernel_rfl) (by kernel_rfl) rfl (fun _ _ _ h => h) (fun w' hw' => load_slot (LX w' hw').c0 (LX w' hw').c1 (LX w' hw').c2) hS ?_
  go_simp
  refine held_any (fuel := 7) (i := 3) (v := .pointer (some ⟨w.heap.size, 3, none⟩)) rfl (by kernel_rfl) (by kernel_rfl) (by kernel_rfl) rfl (fun _ _ _ h => h) (fun _ _ => by simp [go_sem]) hS ?_
  go_simp
  refine held_load (fuel := 6) (i := 4) (t := 30) (v := .agg #[.int .u8 (r.b.mark : Int), .int .u8 (r.b.turn : Int), .slice ab r.b.data.length cb]) rfl rfl rfl (by kernel_rfl) (by kernel_rfl) (by kernel_rfl) rfl (fun _ _ _ h => h) (fun w' hw' => load_slot (LX w' hw').c3 (LX w' hw').c4 (LX w' hw').c5) hS ?_
  go_simp
  refine wpAnyH_ready (rs := [2]) (by kernel_rfl) (by simp) ?_
  refine AllReadyH.cons rfl (fun K hK => ?_) AllReadyH.nil
  go_simp
  refine (copy_any _ _ _ r.a.data _ (HA.out.below (B0.trans (hS.mono B0.size)) (Nat.le_refl _)) (by omega)).mono ?_
  rintro e w1 ⟨d1, rfl, o1, b1⟩
  have hS1 : Below w0.heap.size w0 w1 := hS.trans (b1.mono hS.size)
  refine hK.out _ _ hS1 (fun _ => ?_)
  clear hK K
  go_simp
  refine wpAnyH_ready (rs := [5]) (by kernel_rfl) (by simp) ?_
  refine AllReadyH.cons rfl (fun K hK => ?_) AllReadyH.nil
  go_simp
  refine (copy_any _ _ _ r.b.data w1 (HB.out.below (B0.trans (hS1.mono B0.size)) (Nat.le_refl _)) (by omega)).mono ?_
  rintro e w2 ⟨d2, rfl, o2, b2⟩
  have hS2 : Below w0.heap.size w0 w2 := hS1.trans (b2.mono hS1.size)
  have H2 : Hid (Own w.heap.size d1 r.a.data w2 ∧ Own w.heap.size d2 r.b.data w2 ∧ Below w.heap.size w w2 ∧ ∀ k, d1.ownBlock = some k → d2.ownBlock ≠ some k) := by
    have s0 := B0.size
    have s1 := hS1.size
    have s2 := hS.size
    refine ⟨(o1.below b2 (Nat.le_refl _)).mono (Nat.le_trans s0 s2), o2.mono (by omega), B0.trans (hS2.mono s0), fun k h1 h2 => ?_⟩
    have := own_lt o1 h1
    have := (World.ownsRow.lt o2 k h2).1
    omega
  obtain ⟨a1, c1, rfl⟩ := own_size o1
  obtain ⟨a2, c2, rfl⟩ := own_size o2
  refine hK.out _ _ hS2 (fun _ => ?_)
  clear hK K o1 o2 b1 b2
  go_simp
  refine held_any (fuel := 3) (i := 6) (v := .agg #[.int .u8 (r.a.mark : Int), .int .u8 (r.a.turn : Int), .slice a1 r.a.data.length c1, .int .u8 (r.b.mark : Int), .int .u8 (r.b.turn : Int), .slice a2 r.b.data.length c2]) rfl (by kernel_rfl) (by kernel_rfl) (by kernel_rfl) rfl (fun _ _ _ h => h) (fun _ _ => by simp [go_sem]) hS2 ?_
  go_simp
  refine held_any (fuel := 2) (i := 7) (v := .agg #[.int .i32 0, .int .u32 0, .int .u8 (r.a.mark : Int), .int .u8 (r.a.turn : Int), .slice a1 r.a.data.length c1, .int .u8 (r.b.mark : Int), .int .u8 (r.b.turn : Int), .slice a2 r.b.data.length c2]) rfl (by kernel_rfl) (by kernel_rfl) (by kernel_rfl) rfl (fun _ _ _ h => h) (fun _ _ => by simp [go_sem]) hS2 ?_
  go_simp
  refine wpAnyH_ready (rs := [8]) (by kernel_rfl) (by simp) ?_
  refine AllReadyH.cons rfl (fun K hK => ?_) AllReadyH.nil
  go_simp
  have hS3 : Below w0.heap.size w0 (w2.alloc (.cells #[.int .i32 0, .int .u32 0, .int .u8 (r.a.mark : Int), .int .u8 (r.a.turn : Int), .slice a1 r.a.data.length c1, .int .u8 (r.b.mark : Int), .int .u8 (r.b.turn : Int), .slice a2 r.b.data.length c2] 104)) := hS2.alloc hS2.size _
  refine hK.out _ _ hS3 (fun _ => ?_)
  clear hK K
  go_simp
  refine held_any (fuel := 0) (i := 9) (v := .pointer (some ⟨w2.heap.size, 0, none⟩)) rfl (by kernel_rfl) (by kernel_rfl) (by kernel_rfl) rfl (fun _ _ _ h => h) (fun _ _ => rfl) hS3 ?_
  go_simp
  refine wpAnyH_done (by kernel_rfl) ?_ _
  have H3 : Hid (StAt w.heap.size w2.heap.size 0 r (.slice a1 r.a.data.length c1) (.slice a2 r.b.data.length c2) (w2.alloc (.cells #[.int .i32 0, .int .u32 0, .int .u8 (r.a.mark : Int), .int .u8 (r.a.turn : Int), .slice a1 r.a.data.length c1, .int .u8 (r.b.mark : Int), .int .u8 (r.b.turn : Int), .slice a2 r.b.data.length c2] 104)) ∧ Below w.heap.size w (w2.alloc (.cells #[.int .i32 0, .int .u32 0, .int .u8 (r.a.mark : Int), .int .u8 (r.a.turn : Int), .slice a1 r.a.data.length c1, .int .u8 (r.b.mark : Int), .int .u8 (r.b.turn : Int), .slice a2 r.b.data.length c2] 104))) := by
    obtain ⟨h1, h2, h3, h4⟩ := H2.out
    refine ⟨⟨h3.size, ⟨by simp, by simp, by simp, by simp, by simp, by simp, by simp⟩, by simp, fun i => by simp, World.ownsRow.alloc h1 _, World.ownsRow.alloc h2 _, fun e => ?_, fun e => ?_, h4⟩, h3.alloc h3.size _⟩
    · have := own_lt h1 e; omega
    · have := own_lt h2 e; omega
  clear H2 hS hS1 hS2 hS3 LX X0 B0 HA HB
  go_wp2_with fail
  go_ret
  exact ⟨_, _, _, rfl, H3.out.1, H3.out.2⟩

/-- A value that is a store whose bytes lie in its own blocks. -/
theorem StAt.rom {base S : Nat} {g : Int} {r : Ro} {da db : Value} {w : World} (h : StAt base S g r da db w) (ok : RoOk r) : RomAt (romV r da db) r w := ⟨ok, da, db, rfl, h.oa.at, h.ob.at⟩

theorem ok_play {ws : List Wr} : ∀ {r : Ro}, RoOk r → (∀ x ∈ ws, x.byte ≤ 255) → RoOk (r.play ws) := by
  induction ws with
  | nil => intro r h _; exact h
  | cons x ws ih => intro r h hb; exact ih (h.write (hb x (by simp))) (fun y hy => hb y (by simp [hy]))

/-- A slice that holds writes. -/
def WritesAt (v : Value) (ws : List Wr) (w : World) : Prop := WritesIn w.heap.size v ws w

theorem WritesIn.take {B : Nat} {a : Option Addr} {cap : Nat} {ws : List Wr} {w : World} (h : WritesIn B (.slice a ws.length cap) ws w) {k : Nat} (hk : k ≤ ws.length) : WritesIn B (.slice a k cap) (ws.take k) w := by
  rcases h with ⟨b, off, cap', e, hz, hc, he⟩ | ⟨rfl, a', cap', e⟩
  · injection e with e1 _ e3
    subst e1 e3
    refine Or.inl ⟨b, off, cap, by simp [Nat.min_eq_left hk], hz, by simp; omega, fun i x hx => ?_⟩
    rw [List.getElem?_take] at hx
    split at hx
    · exact he i x hx
    · cases hx
  · simp only [List.length_nil, Nat.le_zero_eq] at hk
    subst hk
    exact Or.inr ⟨rfl, a, cap, rfl⟩
theorem WritesIn.mono {B B' : Nat} {v : Value} {ws : List Wr} {w : World} (h : WritesIn B v ws w) (hB : B ≤ B') : WritesIn B' v ws w := by
  rcases h with ⟨b, off, cap, rfl, hz, hc, he⟩ | h
  · exact Or.inl ⟨b, off, cap, rfl, by omega, hc, he⟩
  · exact Or.inr h
theorem WritesIn.cap {B : Nat} {a : Option Addr} {n cap : Nat} {ws : List Wr} {w : World} (h : WritesIn B (.slice a n cap) ws w) (hn : n = ws.length) : ws.length ≤ cap := by
  rcases h with ⟨b, off, cap', e, hz, hc, he⟩ | ⟨rfl, a', cap', e⟩
  · injection e with e1 _ e3
    omega
  · simp
theorem take_min {ws : List Wr} {n m : Nat} (h : m = min n ws.length) : ws.take n = ws.take m := by
  rw [h, ← List.take_take, List.take_of_length_le (l := ws) (Nat.le_refl _)]

set_option maxRecDepth 100000 in
set_option maxHeartbeats 3200000 in
theorem play_sep (v u : Value) (r : Ro) (ws : List Wr) (n : Int) (w : World) (h : RomAt v r w) (hu : WritesAt u ws w) (hb : ∀ x ∈ ws, x.byte ≤ 255) (hl : ws.length ≤ 2000000) :
    Calls Try.prog 22 #[v, u, .int .i64 n] w fun e w' => ∃ da db, e = .returned (romV (r.play (ws.take n.toNat)) da db) ∧ Own w.heap.size da (r.play (ws.take n.toNat)).a.data w' ∧ Own w.heap.size db (r.play (ws.take n.toNat)).b.data w' ∧ RoOk (r.play (ws.take n.toNat)) ∧ (∀ k, da.ownBlock = some k → db.ownBlock ≠ some k) ∧ Below w.heap.size w w' := by
  have HR : Hid (RomAt v r w) := h
  have HU : Hid (WritesAt u ws w) := hu
  obtain ⟨ok, da, db, rfl, ha, hb'⟩ := h
  obtain ⟨aa, ca, rfl⟩ := ha.len
  obtain ⟨ab, cb, rfl⟩ := hb'.len
  obtain ⟨au, cu, rfl⟩ := hu.len
  have HB : Hid (∀ x ∈ ws, x.byte ≤ 255) := hb
  clear ha hb' hb hu ok
  simp only [romV] at HR ⊢
  go_enter Try.func22, Try.ntmps22
  go_wp2_with fail
  have b0 : Below w.heap.size w ((w.alloc (.cells #[.int .u8 (r.a.mark : Int), .int .u8 (r.a.turn : Int), .slice aa r.a.data.length ca, .int .u8 (r.b.mark : Int), .int .u8 (r.b.turn : Int), .slice ab r.b.data.length cb] 32)).alloc (.cells #[.int .u8 0, .int .u8 0, .slice none 0 0, .int .u8 0, .int .u8 0, .slice none 0 0] 32)) :=
    ((Below.refl w.heap.size w).alloc (Nat.le_refl _) _).alloc (by simp) _
  have HU' : Hid (WritesIn w.heap.size (.slice au ws.length cu) ws ((w.alloc (.cells #[.int .u8 (r.a.mark : Int), .int .u8 (r.a.turn : Int), .slice aa r.a.data.length ca, .int .u8 (r.b.mark : Int), .int .u8 (r.b.turn : Int), .slice ab r.b.data.length cb] 32)).alloc (.cells #[.int .u8 0, .int .u8 0, .slice none 0 0, .int .u8 0, .int .u8 0, .slice none 0 0] 32))) := WritesIn.below HU.out b0
  refine (hold_open _ r _ (HR.out.below b0 (Nat.le_refl _))).mono ?_
  rintro e w1 ⟨S, d1, d2, rfl, st1, b1⟩
  have e0 : ((w.alloc (.cells #[.int .u8 (r.a.mark : Int), .int .u8 (r.a.turn : Int), .slice aa r.a.data.length ca, .int .u8 (r.b.mark : Int), .int .u8 (r.b.turn : Int), .slice ab r.b.data.length cb] 32)).alloc (.cells #[.int .u8 0, .int .u8 0, .slice none 0 0, .int .u8 0, .int .u8 0, .slice none 0 0] 32)).heap.size = w.heap.size + 2 := by simp
  rw [e0] at st1 b1
  have H1 : Hid (StAt (w.heap.size + 2) S 0 r d1 d2 w1 ∧ Below w.heap.size w w1 ∧ WritesIn w.heap.size (.slice au ws.length cu) ws w1 ∧ RoOk r ∧
      (∀ i, i < 6 → (w1.cell? ⟨w.heap.size + 1, i, none⟩).isSome = true) ∧ ∀ i, w1.frozen? ⟨w.heap.size + 1, i, none⟩ = false) := by
    refine ⟨st1, b0.trans (b1.mono (by omega)), HU'.out.below (b1.mono (by omega)), HR.out.1, fun i hi => ?_, fun i => ?_⟩
    · rw [b1.cell (p := ⟨w.heap.size + 1, i, none⟩) (by show w.heap.size + 1 < _; omega)]
      match i, hi with
      | 0, _ => simp
      | 1, _ => simp
      | 2, _ => simp
      | 3, _ => simp
      | 4, _ => simp
      | 5, _ => simp
    · rw [b1.frozen (p := ⟨w.heap.size + 1, i, none⟩) (by show w.heap.size + 1 < _; omega)]
      simp
  have hcu : ws.length ≤ cu := HU.out.cap rfl
  clear st1 b1 b0 e0 HU' HU HR
  by_cases hn0 : n < 0
  · go_wp2_with fail
    refine (play_any (ws := ws.take 0) H1.out.1 H1.out.2.2.2.1 ((H1.out.2.2.1.take (by omega)).mono (by omega)) (fun x hx => HB.out x (List.mem_of_mem_take hx)) (by simp only [List.length_take]; omega)).mono ?_
    rintro e w2 ⟨rfl, d3, d4, st2, b2⟩
    have H2 : Hid (StAt (w.heap.size + 2) S 0 (r.play (ws.take 0)) d3 d4 w2 ∧ Below w.heap.size w w2) := ⟨st2, H1.out.2.1.trans (b2.mono (by omega))⟩
    obtain ⟨q2, q3, q4, q5, q6, q7⟩ := st2.cells
    obtain ⟨a3, c3, rfl⟩ := own_size st2.oa
    obtain ⟨a4, c4, rfl⟩ := own_size st2.ob
    have hS := st2.bS
    have hne : ¬ S = w.heap.size + 1 := by omega
    have rc : ∀ i, i < 6 → ∃ v, w2.cell? ⟨w.heap.size + 1, i, none⟩ = some v := fun i hi => by
      rw [b2.cell (p := ⟨w.heap.size + 1, i, none⟩) (by show w.heap.size + 1 < _; omega)]
      exact Option.isSome_iff_exists.1 (H1.out.2.2.2.2.1 i hi)
    have rf : ∀ i, w2.frozen? ⟨w.heap.size + 1, i, none⟩ = false := fun i => (b2.frozen (p := ⟨w.heap.size + 1, i, none⟩) (by show w.heap.size + 1 < _; omega)).trans (H1.out.2.2.2.2.2 i)
    obtain ⟨v0, r0⟩ := rc 0 (by omega)
    obtain ⟨v1, r1⟩ := rc 1 (by omega)
    obtain ⟨v2, r2⟩ := rc 2 (by omega)
    obtain ⟨v3, r3⟩ := rc 3 (by omega)
    obtain ⟨v4, r4⟩ := rc 4 (by omega)
    obtain ⟨v5, r5⟩ := rc 5 (by omega)
    have f0 := rf 0
    have f1 := rf 1
    have f2 := rf 2
    have f3 := rf 3
    have f4 := rf 4
    have f5 := rf 5
    have HO : Hid (RoOk (r.play (ws.take 0))) := ok_play H1.out.2.2.2.1 (fun x hx => HB.out x (List.mem_of_mem_take hx))
    clear rc rf st2 b2 H1
    obtain ⟨r', hr'⟩ : ∃ r', r' = r.play (ws.take 0) := ⟨_, rfl⟩
    have HT : Hid (r.play (ws.take n.toNat) = r') := (congrArg r.play (take_min (m := 0) (by omega))).trans hr'.symm
    rw [← hr'] at H2 HO q2 q3 q4 q5 q6 q7
    clear hr'
    go_wp2_with fail
    go_region
    go_wp2_with fail
    have hE : Hid (Below w.heap.size w ((((((w2.setCell ⟨w.heap.size + 1, 0, none⟩ (.int .u8 (r'.a.mark : Int))).setCell ⟨w.heap.size + 1, 1, none⟩ (.int .u8 (r'.a.turn : Int))).setCell ⟨w.heap.size + 1, 2, none⟩ (.slice a3 r'.a.data.length c3)).setCell ⟨w.heap.size + 1, 3, none⟩ (.int .u8 (r'.b.mark : Int))).setCell ⟨w.heap.size + 1, 4, none⟩ (.int .u8 (r'.b.turn : Int))).setCell ⟨w.heap.size + 1, 5, none⟩ (.slice a4 r'.b.data.length c4)).drew) :=
      ((((((H2.out.2.setCell (by show _ ≤ w.heap.size + 1; omega) _).setCell (by show _ ≤ w.heap.size + 1; omega) _).setCell (by show _ ≤ w.heap.size + 1; omega) _).setCell (by show _ ≤ w.heap.size + 1; omega) _).setCell (by show _ ≤ w.heap.size + 1; omega) _).setCell (by show _ ≤ w.heap.size + 1; omega) _).drew
    have ka : (Value.slice a3 r'.a.data.length c3).ownBlock ≠ some (w.heap.size + 1) := fun e => by have := (World.ownsRow.lt H2.out.1.oa _ e).1; omega
    have kb : (Value.slice a4 r'.b.data.length c4).ownBlock ≠ some (w.heap.size + 1) := fun e => by have := (World.ownsRow.lt H2.out.1.ob _ e).1; omega
    refine bodyPost_ret (v := romV r' (.slice a3 r'.a.data.length c3) (.slice a4 r'.b.data.length c4)) (by simp [results, Try.results22, go_sem, romV, r0, r1, r2, r3, r4, r5]) rfl ?_
    rw [HT.out]
    exact ⟨.slice a3 r'.a.data.length c3, .slice a4 r'.b.data.length c4, rfl, World.ownsRow.drew (((((((H2.out.1.oa.mono (by omega)).setCell ka _).setCell ka _).setCell ka _).setCell ka _).setCell ka _).setCell ka _), World.ownsRow.drew (((((((H2.out.1.ob.mono (by omega)).setCell kb _).setCell kb _).setCell kb _).setCell kb _).setCell kb _).setCell kb _), HO.out, H2.out.1.nn, hE.out⟩
  · by_cases hn1 : n ≤ ws.length
    · go_wp2_with fail
      refine (play_any (ws := ws.take n.toNat) H1.out.1 H1.out.2.2.2.1 ((H1.out.2.2.1.take (by omega)).mono (by omega)) (fun x hx => HB.out x (List.mem_of_mem_take hx)) (by simp only [List.length_take]; omega)).mono ?_
      rintro e w2 ⟨rfl, d3, d4, st2, b2⟩
      have H2 : Hid (StAt (w.heap.size + 2) S 0 (r.play (ws.take n.toNat)) d3 d4 w2 ∧ Below w.heap.size w w2) := ⟨st2, H1.out.2.1.trans (b2.mono (by omega))⟩
      obtain ⟨q2, q3, q4, q5, q6, q7⟩ := st2.cells
      obtain ⟨a3, c3, rfl⟩ := own_size st2.oa
      obtain ⟨a4, c4, rfl⟩ := own_size st2.ob
      have hS := st2.bS
      have hne : ¬ S = w.heap.size + 1 := by omega
      have rc : ∀ i, i < 6 → ∃ v, w2.cell? ⟨w.heap.size + 1, i, none⟩ = some v := fun i hi => by
        rw [b2.cell (p := ⟨w.heap.size + 1, i, none⟩) (by show w.heap.size + 1 < _; omega)]
        exact Option.isSome_iff_exists.1 (H1.out.2.2.2.2.1 i hi)
      have rf : ∀ i, w2.frozen? ⟨w.heap.size + 1, i, none⟩ = false := fun i => (b2.frozen (p := ⟨w.heap.size + 1, i, none⟩) (by show w.heap.size + 1 < _; omega)).trans (H1.out.2.2.2.2.2 i)
      obtain ⟨v0, r0⟩ := rc 0 (by omega)
      obtain ⟨v1, r1⟩ := rc 1 (by omega)
      obtain ⟨v2, r2⟩ := rc 2 (by omega)
      obtain ⟨v3, r3⟩ := rc 3 (by omega)
      obtain ⟨v4, r4⟩ := rc 4 (by omega)
      obtain ⟨v5, r5⟩ := rc 5 (by omega)
      have f0 := rf 0
      have f1 := rf 1
      have f2 := rf 2
      have f3 := rf 3
      have f4 := rf 4
      have f5 := rf 5
      have HO : Hid (RoOk (r.play (ws.take n.toNat))) := ok_play H1.out.2.2.2.1 (fun x hx => HB.out x (List.mem_of_mem_take hx))
      clear rc rf st2 b2 H1
      obtain ⟨r', hr'⟩ : ∃ r', r' = r.play (ws.take n.toNat) := ⟨_, rfl⟩
      have HT : Hid (r.play (ws.take n.toNat) = r') := (congrArg r.play (take_min (m := n.toNat) (by omega))).trans hr'.symm
      rw [← hr'] at H2 HO q2 q3 q4 q5 q6 q7
      clear hr'
      go_wp2_with fail
      go_region
      go_wp2_with fail
      have hE : Hid (Below w.heap.size w ((((((w2.setCell ⟨w.heap.size + 1, 0, none⟩ (.int .u8 (r'.a.mark : Int))).setCell ⟨w.heap.size + 1, 1, none⟩ (.int .u8 (r'.a.turn : Int))).setCell ⟨w.heap.size + 1, 2, none⟩ (.slice a3 r'.a.data.length c3)).setCell ⟨w.heap.size + 1, 3, none⟩ (.int .u8 (r'.b.mark : Int))).setCell ⟨w.heap.size + 1, 4, none⟩ (.int .u8 (r'.b.turn : Int))).setCell ⟨w.heap.size + 1, 5, none⟩ (.slice a4 r'.b.data.length c4)).drew) :=
        ((((((H2.out.2.setCell (by show _ ≤ w.heap.size + 1; omega) _).setCell (by show _ ≤ w.heap.size + 1; omega) _).setCell (by show _ ≤ w.heap.size + 1; omega) _).setCell (by show _ ≤ w.heap.size + 1; omega) _).setCell (by show _ ≤ w.heap.size + 1; omega) _).setCell (by show _ ≤ w.heap.size + 1; omega) _).drew
      have ka : (Value.slice a3 r'.a.data.length c3).ownBlock ≠ some (w.heap.size + 1) := fun e => by have := (World.ownsRow.lt H2.out.1.oa _ e).1; omega
      have kb : (Value.slice a4 r'.b.data.length c4).ownBlock ≠ some (w.heap.size + 1) := fun e => by have := (World.ownsRow.lt H2.out.1.ob _ e).1; omega
      refine bodyPost_ret (v := romV r' (.slice a3 r'.a.data.length c3) (.slice a4 r'.b.data.length c4)) (by simp [results, Try.results22, go_sem, romV, r0, r1, r2, r3, r4, r5]) rfl ?_
      rw [HT.out]
      exact ⟨.slice a3 r'.a.data.length c3, .slice a4 r'.b.data.length c4, rfl, World.ownsRow.drew (((((((H2.out.1.oa.mono (by omega)).setCell ka _).setCell ka _).setCell ka _).setCell ka _).setCell ka _).setCell ka _), World.ownsRow.drew (((((((H2.out.1.ob.mono (by omega)).setCell kb _).setCell kb _).setCell kb _).setCell kb _).setCell kb _).setCell kb _), HO.out, H2.out.1.nn, hE.out⟩
    · go_wp2_with fail
      refine (play_any (ws := ws.take ws.length) H1.out.1 H1.out.2.2.2.1 ((H1.out.2.2.1.take (by omega)).mono (by omega)) (fun x hx => HB.out x (List.mem_of_mem_take hx)) (by simp only [List.length_take]; omega)).mono ?_
      rintro e w2 ⟨rfl, d3, d4, st2, b2⟩
      have H2 : Hid (StAt (w.heap.size + 2) S 0 (r.play (ws.take ws.length)) d3 d4 w2 ∧ Below w.heap.size w w2) := ⟨st2, H1.out.2.1.trans (b2.mono (by omega))⟩
      obtain ⟨q2, q3, q4, q5, q6, q7⟩ := st2.cells
      obtain ⟨a3, c3, rfl⟩ := own_size st2.oa
      obtain ⟨a4, c4, rfl⟩ := own_size st2.ob
      have hS := st2.bS
      have hne : ¬ S = w.heap.size + 1 := by omega
      have rc : ∀ i, i < 6 → ∃ v, w2.cell? ⟨w.heap.size + 1, i, none⟩ = some v := fun i hi => by
        rw [b2.cell (p := ⟨w.heap.size + 1, i, none⟩) (by show w.heap.size + 1 < _; omega)]
        exact Option.isSome_iff_exists.1 (H1.out.2.2.2.2.1 i hi)
      have rf : ∀ i, w2.frozen? ⟨w.heap.size + 1, i, none⟩ = false := fun i => (b2.frozen (p := ⟨w.heap.size + 1, i, none⟩) (by show w.heap.size + 1 < _; omega)).trans (H1.out.2.2.2.2.2 i)
      obtain ⟨v0, r0⟩ := rc 0 (by omega)
      obtain ⟨v1, r1⟩ := rc 1 (by omega)
      obtain ⟨v2, r2⟩ := rc 2 (by omega)
      obtain ⟨v3, r3⟩ := rc 3 (by omega)
      obtain ⟨v4, r4⟩ := rc 4 (by omega)
      obtain ⟨v5, r5⟩ := rc 5 (by omega)
      have f0 := rf 0
      have f1 := rf 1
      have f2 := rf 2
      have f3 := rf 3
      have f4 := rf 4
      have f5 := rf 5
      have HO : Hid (RoOk (r.play (ws.take ws.length))) := ok_play H1.out.2.2.2.1 (fun x hx => HB.out x (List.mem_of_mem_take hx))
      clear rc rf st2 b2 H1
      obtain ⟨r', hr'⟩ : ∃ r', r' = r.play (ws.take ws.length) := ⟨_, rfl⟩
      have HT : Hid (r.play (ws.take n.toNat) = r') := (congrArg r.play (take_min (m := ws.length) (by omega))).trans hr'.symm
      rw [← hr'] at H2 HO q2 q3 q4 q5 q6 q7
      clear hr'
      go_wp2_with fail
      go_region
      go_wp2_with fail
      have hE : Hid (Below w.heap.size w ((((((w2.setCell ⟨w.heap.size + 1, 0, none⟩ (.int .u8 (r'.a.mark : Int))).setCell ⟨w.heap.size + 1, 1, none⟩ (.int .u8 (r'.a.turn : Int))).setCell ⟨w.heap.size + 1, 2, none⟩ (.slice a3 r'.a.data.length c3)).setCell ⟨w.heap.size + 1, 3, none⟩ (.int .u8 (r'.b.mark : Int))).setCell ⟨w.heap.size + 1, 4, none⟩ (.int .u8 (r'.b.turn : Int))).setCell ⟨w.heap.size + 1, 5, none⟩ (.slice a4 r'.b.data.length c4)).drew) :=
        ((((((H2.out.2.setCell (by show _ ≤ w.heap.size + 1; omega) _).setCell (by show _ ≤ w.heap.size + 1; omega) _).setCell (by show _ ≤ w.heap.size + 1; omega) _).setCell (by show _ ≤ w.heap.size + 1; omega) _).setCell (by show _ ≤ w.heap.size + 1; omega) _).setCell (by show _ ≤ w.heap.size + 1; omega) _).drew
      have ka : (Value.slice a3 r'.a.data.length c3).ownBlock ≠ some (w.heap.size + 1) := fun e => by have := (World.ownsRow.lt H2.out.1.oa _ e).1; omega
      have kb : (Value.slice a4 r'.b.data.length c4).ownBlock ≠ some (w.heap.size + 1) := fun e => by have := (World.ownsRow.lt H2.out.1.ob _ e).1; omega
      refine bodyPost_ret (v := romV r' (.slice a3 r'.a.data.length c3) (.slice a4 r'.b.data.length c4)) (by simp [results, Try.results22, go_sem, romV, r0, r1, r2, r3, r4, r5]) rfl ?_
      rw [HT.out]
      exact ⟨.slice a3 r'.a.data.length c3, .slice a4 r'.b.data.length c4, rfl, World.ownsRow.drew (((((((H2.out.1.oa.mono (by omega)).setCell ka _).setCell ka _).setCell ka _).setCell ka _).setCell ka _).setCell ka _), World.ownsRow.drew (((((((H2.out.1.ob.mono (by omega)).setCell kb _).setCell kb _).setCell kb _).setCell kb _).setCell kb _).setCell kb _), HO.out, H2.out.1.nn, hE.out⟩

theorem play_impl (v u : Value) (r : Ro) (ws : List Wr) (n : Int) (w : World) (h : RomAt v r w) (hu : WritesAt u ws w) (hb : ∀ x ∈ ws, x.byte ≤ 255) (hl : ws.length ≤ 2000000) :
    Calls Try.prog 22 #[v, u, .int .i64 n] w fun e w' => ∃ da db, e = .returned (romV (r.play (ws.take n.toNat)) da db) ∧ Own w.heap.size da (r.play (ws.take n.toNat)).a.data w' ∧ Own w.heap.size db (r.play (ws.take n.toNat)).b.data w' ∧ RoOk (r.play (ws.take n.toNat)) ∧ Below w.heap.size w w' :=
  (play_sep v u r ws n w h hu hb hl).mono fun _ _ ⟨da, db, h1, h2, h3, h4, _, h6⟩ => ⟨da, db, h1, h2, h3, h4, h6⟩

end Go.Proofs.Ytdhoimjkgicneac
