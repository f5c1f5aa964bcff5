/- At every store and bytes the program's HoldPlan answers as the specification's: the law, walked. -/
import Derived.Test.YtdhoimjkgicneacExH0
import Derived.Test.YtdhoimjkgicneacHelI
import Derived.Test.YtdhoimjkgicneacHolN
import Derived.Test.YtdhoimjkgicneacHolO
namespace Go.Proofs.Ytdhoimjkgicneac
open Go Go.RowKit

theorem plan_own {B : Nat} {r : Ro} {xs : List Nat} {v : Value} {w : World} (h : PlanAt B r xs v w) : ∃ u, v = .tuple #[u, .bool (decide (xs.length ≤ 20100))] ∧ OwnWI B w.heap.size u (if xs.length ≤ 20100 then r.plan xs else []) w := by
  obtain ⟨u, q, rfl, ⟨h1, rfl, h2⟩ | ⟨h1, rfl, rfl⟩⟩ := h
  · exact ⟨u, by simp [h1], by rw [if_pos h1]; exact OwnWI.of h2⟩
  · exact ⟨.slice none 0 0, by simp [h1], by rw [if_neg h1]; exact OwnWI.of (ownW_nil _ _)⟩
theorem plan_max (r : Ro) (xs : List Nat) : (if xs.length ≤ 20100 then r.plan xs else []).length ≤ 30000 := by
  split
  · have : r.tail.length ≤ 1 := by unfold Ro.tail; split <;> simp
    simp [Ro.plan, puts_len]
    omega
  · simp

/-- What lies in memory while the law is checked. -/
structure HpS (W : World) (i0 i1 i2 i3 j0 j1 : Nat) (u0 pa pb e1 g0 : Value) (ps gs : List Wr) (xs ys zs : List Nat) (w : World) : Prop where
  bW : Below W.heap.size W w
  o0 : OwnWI i0 i1 u0 ps w
  oa : OwnI i1 i2 pa xs w
  ob : OwnI i1 i2 pb ys w
  oe : OwnI i3 j0 e1 zs w
  og : OwnWI j0 j1 g0 gs w
  le : W.heap.size ≤ i0 ∧ i0 ≤ i1 ∧ i1 ≤ i2 ∧ i2 + 1 = i3 ∧ i3 ≤ j0 ∧ j0 ≤ j1 ∧ j1 ≤ w.heap.size

theorem HpS.below {W : World} {i0 i1 i2 i3 j0 j1 : Nat} {u0 pa pb e1 g0 : Value} {ps gs : List Wr} {xs ys zs : List Nat} {w w' : World} (h : HpS W i0 i1 i2 i3 j0 j1 u0 pa pb e1 g0 ps gs xs ys zs w) (b : Below w.heap.size w w') : HpS W i0 i1 i2 i3 j0 j1 u0 pa pb e1 g0 ps gs xs ys zs w' := by
  obtain ⟨h1, h2, h3, h4, h5, h6, h7⟩ := h
  have := b.size
  exact ⟨h1.trans (b.mono h1.size), h2.below b (by omega), h3.below b (by omega), h4.below b (by omega), h5.below b (by omega), h6.below b (by omega), by omega⟩
theorem HpS.rom {W : World} {i0 i1 i2 i3 j0 j1 : Nat} {u0 pa pb e1 g0 : Value} {ps gs : List Wr} {xs ys zs xs' ys' : List Nat} {w w' : World} (h : HpS W i0 i1 i2 i3 j0 j1 u0 pa pb e1 g0 ps gs xs ys zs w) (b : Touch (within i1 i2) w w') (ha : OwnI i1 i2 pa xs' w') (hb : OwnI i1 i2 pb ys' w') : HpS W i0 i1 i2 i3 j0 j1 u0 pa pb e1 g0 ps gs xs' ys' zs w' := by
  obtain ⟨h1, h2, h3, h4, h5, h6, h7⟩ := h
  have := b.size
  exact ⟨h1.trans (b.low h1.size (by omega)), h2.far b (by omega), ha, hb, h5.far b (by omega), h6.far b (by omega), by omega⟩
theorem HpS.bytes {W : World} {i0 i1 i2 i3 j0 j1 : Nat} {u0 pa pb e1 g0 : Value} {ps gs : List Wr} {xs ys zs zs' : List Nat} {w w' : World} (h : HpS W i0 i1 i2 i3 j0 j1 u0 pa pb e1 g0 ps gs xs ys zs w) (b : Touch (within i3 j0) w w') (he : OwnI i3 j0 e1 zs' w') : HpS W i0 i1 i2 i3 j0 j1 u0 pa pb e1 g0 ps gs xs ys zs' w' := by
  obtain ⟨h1, h2, h3, h4, h5, h6, h7⟩ := h
  have := b.size
  exact ⟨h1.trans (b.low h1.size (by omega)), h2.far b (by omega), h3.far b (by omega), h4.far b (by omega), he, h6.far b (by omega), by omega⟩
theorem HpS.writes {W : World} {i0 i1 i2 i3 j0 j1 : Nat} {u0 pa pb e1 g0 : Value} {ps gs gs' : List Wr} {xs ys zs : List Nat} {w w' : World} (h : HpS W i0 i1 i2 i3 j0 j1 u0 pa pb e1 g0 ps gs xs ys zs w) (b : Touch (within j0 j1) w w') (hg : OwnWI j0 j1 g0 gs' w') : HpS W i0 i1 i2 i3 j0 j1 u0 pa pb e1 g0 ps gs' xs ys zs w' := by
  obtain ⟨h1, h2, h3, h4, h5, h6, h7⟩ := h
  have := b.size
  exact ⟨h1.trans (b.low h1.size (by omega)), h2.far b (by omega), h3.far b (by omega), h4.far b (by omega), h5.far b (by omega), hg, by omega⟩

set_option maxRecDepth 100000 in
set_option maxHeartbeats 3200000 in
theorem law_args (m t m' t' : Nat) (d d' f : Value) (xs ys zs : List Nat) (w : World) (hm : m ≤ 255) (ht : t ≤ 255) (hm' : m' ≤ 255) (ht' : t' ≤ 255) (hx : ∀ x ∈ xs, x ≤ 255) (hy : ∀ x ∈ ys, x ≤ 255) (hzs : ∀ x ∈ zs, x ≤ 255) (h : ByteArg d xs w) (h' : ByteArg d' ys w) (hf : ByteArg f zs w) (lx : xs.length ≤ 9223372036854775807) (ly : ys.length ≤ 9223372036854775807) :
    Calls Try.prog 7 #[.agg #[.int .u8 (m : Int), .int .u8 (t : Int), d, .int .u8 (m' : Int), .int .u8 (t' : Int), d'], f] w fun e w' => e = .returned (.bool true) ∧ Below w.heap.size w w' := by
  have HA : Hid (ByteArg d xs w ∧ ByteArg d' ys w ∧ ByteArg f zs w) := ⟨h, h', hf⟩
  obtain ⟨ad, cd, rfl, -⟩ := h
  obtain ⟨ad', cd', rfl, -⟩ := h'
  obtain ⟨af, cf, rfl, -⟩ := hf
  obtain ⟨W, hW⟩ : ∃ W, W = w.alloc (.cells #[.int .u8 (m : Int), .int .u8 (t : Int), .slice ad xs.length cd, .int .u8 (m' : Int), .int .u8 (t' : Int), .slice ad' ys.length cd'] 26) := ⟨_, rfl⟩
  have b0 : Below w.heap.size w W := by rw [hW]; exact (Below.refl w.heap.size w).alloc (Nat.le_refl _) _
  have hz : W.heap.size = w.heap.size + 1 := by rw [hW]; simp
  have LB : ∀ w', Below W.heap.size W w' → (Instr.loadAt 26 (.pointer (some ⟨w.heap.size, 0, none⟩))).run Try.prog w' = .ok (.agg #[.int .u8 (m : Int), .int .u8 (t : Int), .slice ad xs.length cd, .int .u8 (m' : Int), .int .u8 (t' : Int), .slice ad' ys.length cd']) w' := fun w' hw' => load_romL rfl fun k u hu => (hw'.cell (p := ⟨w.heap.size, k, none⟩) (by show w.heap.size < _; omega)).trans (by rw [hW]; exact cell_lastH rfl hu)
  have S := sz_rom m t m' t' ad ad' xs.length cd ys.length cd' 1048576 W lx ly (by omega) (by omega)
  have L0 := LB W (Below.refl _ _)
  rw [hW] at L0
  by_cases hbig : zs.length > 1048576
  · have hbig' : (1048576 : Int) < (zs.length : Int) := by omega
    go_enter Try.func7, Try.ntmps7
    go_wp2_with fail
    go_ret
    exact ⟨rfl, hW ▸ b0⟩
  have hbig' : ¬ (1048576 : Int) < (zs.length : Int) := by omega
  go_enter Try.func7, Try.ntmps7
  go_wp2_with (refine list_loadH (t := 26) (x := .pointer (some ⟨w.heap.size, 0, none⟩)) rfl rfl rfl L0 ?_)
  rw [← hW]
  clear hW L0
  refine S.mono ?_
  rintro e w1 ⟨⟨z, rfl, hzl⟩, b1⟩
  clear S
  have HB : Hid (Below w.heap.size w W ∧ W.heap.size = w.heap.size + 1) := ⟨b0, hz⟩
  clear b0 hz
  by_cases hneg : z < 0
  · go_wp2_with fail
    go_ret
    exact ⟨rfl, HB.out.1.trans (b1.mono HB.out.1.size)⟩
  have hl := hzl (by omega)
  have TR : ∀ w', Below W.heap.size W w' → Calls Try.prog 13 #[.agg #[.int .u8 (m : Int), .int .u8 (t : Int), .slice ad xs.length cd, .int .u8 (m' : Int), .int .u8 (t' : Int), .slice ad' ys.length cd']] w' fun e w'' => ∃ oa ob, e = .returned (.agg #[.int .u8 (m : Int), .int .u8 (t : Int), oa, .int .u8 (m' : Int), .int .u8 (t' : Int), ob]) ∧ Own w'.heap.size oa xs w'' ∧ Own w'.heap.size ob ys w'' ∧ (∀ g, oa.ownBlock = some g → ob.ownBlock ≠ some g) ∧ Below w'.heap.size w' w'' := fun w' hw' => to_rom m t m' t' _ _ xs ys w' (HA.out.1.below (HB.out.1.trans (hw'.mono HB.out.1.size))) (HA.out.2.1.below (HB.out.1.trans (hw'.mono HB.out.1.size))) (by omega) (by omega)
  have TB : ∀ w', Below W.heap.size W w' → Calls Try.prog 33 #[.slice af zs.length cf] w' fun e w'' => ∃ o, e = .returned o ∧ Own w'.heap.size o zs w'' ∧ Below w'.heap.size w' w'' := fun w' hw' => to_bytes _ zs w' (HA.out.2.2.below (HB.out.1.trans (hw'.mono HB.out.1.size))) (by omega)
  have RA : ∀ {oa ob w'}, BytesAt oa xs w' → BytesAt ob ys w' → RomAt (.agg #[.int .u8 (m : Int), .int .u8 (t : Int), oa, .int .u8 (m' : Int), .int .u8 (t' : Int), ob]) ⟨⟨m, t, xs⟩, ⟨m', t', ys⟩⟩ w' := fun ha hb => rom_at hm ht hm' ht' hx hy (by omega) (by omega) ha hb
  have ER : ∀ {d e d' e' w'}, BytesAt d xs w' → BytesAt e ys w' → BytesAt d' xs w' → BytesAt e' ys w' → Calls Try.prog 16 #[.agg #[.int .u8 (m : Int), .int .u8 (t : Int), d, .int .u8 (m' : Int), .int .u8 (t' : Int), e], .agg #[.int .u8 (m : Int), .int .u8 (t : Int), d', .int .u8 (m' : Int), .int .u8 (t' : Int), e']] w' fun r w'' => r = .returned (.bool true) ∧ Below w'.heap.size w' w'' := fun h1 h2 h3 h4 => eq_rom m t m' t' _ _ _ _ xs ys _ h1 h2 h3 h4 (by omega) (by omega)
  have EZ : ∀ {a b w'}, BytesAt a zs w' → BytesAt b zs w' → Calls Try.prog 29 #[a, b] w' fun e w'' => e = .returned (.bool true) ∧ Below w'.heap.size w' w'' := fun h1 h2 => (eq_bytes _ _ zs zs _ h1 h2 (by omega)).mono fun _ _ ⟨q, h3, h4, h5⟩ => ⟨by rw [h3, show q = true by simpa using h4], h5⟩
  have MR : ∀ {lo hi oa ob w'}, OwnI lo hi oa xs w' → OwnI lo hi ob ys w' → (∀ g, oa.ownBlock = some g → ob.ownBlock ≠ some g) → Calls Try.prog 17 #[.agg #[.int .u8 (m : Int), .int .u8 (t : Int), oa, .int .u8 (m' : Int), .int .u8 (t' : Int), ob], .int .i64 1] w' fun e w'' => ∃ (k : Nat) (xs' ys' : List Nat), e = .returned (.int .i64 (k : Int)) ∧ k ≤ 100000000 ∧ OwnI lo hi oa xs' w'' ∧ OwnI lo hi ob ys' w'' ∧ Touch (within lo hi) w' w'' := fun h1 h2 h3 => (mark_romI _ _ m t m' t' _ _ xs ys 1 _ h1 h2 h3 (by omega) (by omega) (by omega)).mono fun _ _ ⟨h4, h6, h7, h5⟩ => ⟨_, _, _, h4, by omega, h6, h7, h5⟩
  have MZ : ∀ {lo hi a w'} (k : Nat), k ≤ 100000000 → OwnI lo hi a zs w' → Calls Try.prog 30 #[a, .int .i64 (k : Int)] w' fun e w'' => ∃ (k' : Nat) (zs' : List Nat), e = .returned (.int .i64 (k' : Int)) ∧ OwnI lo hi a zs' w'' ∧ Touch (within lo hi) w' w'' := fun k hk h1 => (mark_bytesI _ _ _ zs k _ h1 (by omega) (by omega)).mono fun _ _ ⟨h2, h3, h4⟩ => ⟨_, _, h2, h3, h4⟩
  obtain ⟨r, hr⟩ : ∃ r : Ro, r = ⟨⟨m, t, xs⟩, ⟨m', t', ys⟩⟩ := ⟨_, rfl⟩
  rw [← hr] at RA
  have few : Few zs := ⟨hzs, by omega⟩
  clear hx hy hzs hzl hl lx ly hr
  have PS : ∀ v d w', RomAt v r w' → BytesAt d zs w' → Calls Try.prog 32 #[v, d] w' fun e w'' => ∃ u, e = .returned (.tuple #[u, .bool (decide (zs.length ≤ 20100))]) ∧ OwnWI w'.heap.size w''.heap.size u (if zs.length ≤ 20100 then r.plan zs else []) w'' ∧ Below w'.heap.size w' w'' := fun v d w' hv hd => (plan_spec v d r zs w' hv hd few).mono fun _ _ ⟨u, h1, h2, h3⟩ => by
    obtain ⟨d, rfl, h4⟩ := plan_own h2
    exact ⟨d, h1, h4, h3⟩
  have PI : ∀ v d w', RomAt v r w' → BytesAt d zs w' → Calls Try.prog 34 #[v, d] w' fun e w'' => ∃ u, e = .returned (.tuple #[u, .bool (decide (zs.length ≤ 20100))]) ∧ OwnWI w'.heap.size w''.heap.size u (if zs.length ≤ 20100 then r.plan zs else []) w'' ∧ Below w'.heap.size w' w'' := fun v d w' hv hd => (plan_impl v d r zs w' hv hd few).mono fun _ _ ⟨u, h1, h2, h3⟩ => by
    obtain ⟨d, rfl, h4⟩ := plan_own h2
    exact ⟨d, h1, h4, h3⟩
  have hk0 := plan_max r zs
  obtain ⟨ps, hps⟩ : ∃ ps, ps = (if zs.length ≤ 20100 then r.plan zs else []) := ⟨_, rfl⟩
  obtain ⟨q, hq⟩ : ∃ q, q = decide (zs.length ≤ 20100) := ⟨_, rfl⟩
  simp only [← hps, ← hq] at PS PI hk0
  clear hps hq few
  have EW : ∀ {a b w'}, WritesAt a ps w' → WritesAt b ps w' → Calls Try.prog 23 #[a, b] w' fun e w'' => e = .returned (.bool true) ∧ Below w'.heap.size w' w'' := fun h1 h2 => eq_writes _ _ ps _ h1 h2 (by omega)
  obtain ⟨n, hn⟩ : ∃ n : Int, n = ((1 + 3 * ps.length : Nat) : Int) := ⟨_, rfl⟩
  have hn0 : ¬ n < 0 := by omega
  have MW : ∀ {lo hi a w'}, OwnWI lo hi a ps w' → Calls Try.prog 24 #[a, .int .i64 1] w' fun e w'' => e = .returned (.int .i64 n) ∧ OwnWI lo hi a (marksW 1 ps.length) w'' ∧ Touch (within lo hi) w' w'' := fun h1 => by rw [hn]; exact mark_writesI _ _ _ ps 1 _ h1 (by omega) (by omega)
  have EH : ∀ {a w'}, WritesAt a (marksW 1 ps.length) w' → Calls Try.prog 35 #[a, .int .i64 1] w' fun e w'' => e = .returned (.int .i64 n) ∧ w'' = w' := fun h1 => by rw [hn]; exact held_writes _ ps.length 1 _ h1 (by omega) (by omega)
  clear hk0 hn hbig hbig'
  have H1 : Hid (Below W.heap.size W w1) := b1
  have L1 := LB w1 b1
  clear b1
  go_wp2_with (refine list_loadH (t := 26) (x := .pointer (some ⟨w.heap.size, 0, none⟩)) rfl rfl rfl L1 ?_)
  clear L1
  refine (TR w1 H1.out).mono ?_
  rintro e w2 ⟨oa, ob, rfl, o1, o2, -, b2⟩
  have H2 : Hid (Below W.heap.size W w2 ∧ RomAt (.agg #[.int .u8 (m : Int), .int .u8 (t : Int), oa, .int .u8 (m' : Int), .int .u8 (t' : Int), ob]) r w2) := ⟨H1.out.trans (b2.mono H1.out.size), RA o1.at o2.at⟩
  obtain ⟨_, _, rfl⟩ := own_size o1
  obtain ⟨_, _, rfl⟩ := own_size o2
  clear o1 o2 b2 H1
  have B2 := TB w2 H2.out.1
  go_wp2_with fail
  refine B2.mono ?_
  rintro e w3 ⟨f3, rfl, o3, b3⟩
  have C3 := PS _ _ w3 (H2.out.2.below b3 (Nat.le_refl _)) o3.at
  have H3 : Hid (Below W.heap.size W w3) := H2.out.1.trans (b3.mono H2.out.1.size)
  obtain ⟨_, _, rfl⟩ := own_size o3
  clear o3 b3 B2 H2
  go_wp2_with fail
  refine C3.mono ?_
  rintro e w4 ⟨u0, rfl, o4, b4⟩
  have H4 : Hid (Below W.heap.size W w4 ∧ OwnWI w3.heap.size w4.heap.size u0 ps w4 ∧ W.heap.size ≤ w3.heap.size ∧ w3.heap.size ≤ w4.heap.size) := ⟨H3.out.trans (b4.mono H3.out.size), o4, H3.out.size, b4.size⟩
  obtain ⟨au, cu, rfl⟩ := WritesIn.len o4.at
  clear o4 b4 C3 H3
  have L1 := LB w4 H4.out.1
  go_wp2_with (refine list_loadH (t := 26) (x := .pointer (some ⟨w.heap.size, 0, none⟩)) rfl rfl rfl L1 ?_)
  clear L1
  refine (TR w4 H4.out.1).mono ?_
  rintro e w5 ⟨pa, pb, rfl, o1, o2, s12, b5⟩
  obtain ⟨V, hV⟩ : ∃ V, V = w5.alloc (.cells #[.int .u8 (m : Int), .int .u8 (t : Int), pa, .int .u8 (m' : Int), .int .u8 (t' : Int), pb] 32) := ⟨_, rfl⟩
  have bV : Below w5.heap.size w5 V := by rw [hV]; exact (Below.refl w5.heap.size w5).alloc (Nat.le_refl _) _
  have zV : w5.heap.size + 1 = V.heap.size := by rw [hV]; simp
  have LV : ∀ w', Below V.heap.size V w' → (Instr.loadAt 32 (.pointer (some ⟨w5.heap.size, 0, none⟩))).run Try.prog w' = .ok (.agg #[.int .u8 (m : Int), .int .u8 (t : Int), pa, .int .u8 (m' : Int), .int .u8 (t' : Int), pb]) w' := fun w' hw' => load_romI rfl fun k u hu => (hw'.cell (p := ⟨w5.heap.size, k, none⟩) (by show w5.heap.size < _; rw [hV]; simp)).trans (by rw [hV]; exact cell_lastH rfl hu)
  have b45 := b5.trans (bV.mono b5.size)
  have H5 : Hid (Below W.heap.size W V ∧ OwnWI w3.heap.size w4.heap.size (.slice au ps.length cu) ps V ∧ OwnI w4.heap.size w5.heap.size pa xs V ∧ OwnI w4.heap.size w5.heap.size pb ys V ∧ (∀ g, pa.ownBlock = some g → pb.ownBlock ≠ some g) ∧ (W.heap.size ≤ w3.heap.size ∧ w3.heap.size ≤ w4.heap.size ∧ w4.heap.size ≤ w5.heap.size ∧ w5.heap.size + 1 = V.heap.size)) :=
    ⟨H4.out.1.trans (b45.mono H4.out.1.size), H4.out.2.1.below b45 (Nat.le_refl _), (OwnI.of o1).below bV (Nat.le_refl _), (OwnI.of o2).below bV (Nat.le_refl _), s12, H4.out.2.2.1, H4.out.2.2.2, b5.size, zV⟩
  have B5 := TB V H5.out.1
  obtain ⟨ap, cp, rfl⟩ := own_size o1
  obtain ⟨bp, cq, rfl⟩ := own_size o2
  clear o1 o2 b5 b45 H4 bV s12 zV
  go_wp2_with fail
  rw [← hV]
  clear hV
  refine B5.mono ?_
  rintro e w6 ⟨e1, rfl, o6, b6⟩
  have H6 : Hid (Below V.heap.size V w6 ∧ OwnI V.heap.size w6.heap.size e1 zs w6) := ⟨b6, OwnI.of o6⟩
  obtain ⟨ae, ce, rfl⟩ := own_size o6
  have C6 := PI _ _ w6 (RA (H5.out.2.2.1.below b6 (by have := H5.out.2.2.2.2.2; omega)).at (H5.out.2.2.2.1.below b6 (by have := H5.out.2.2.2.2.2; omega)).at) o6.at
  have L6 := LV w6 b6
  clear o6 b6 B5
  go_wp2_with (refine list_loadH (t := 32) (x := .pointer (some ⟨w5.heap.size, 0, none⟩)) rfl rfl rfl L6 ?_)
  clear L6
  refine C6.mono ?_
  rintro e w7 ⟨g0, rfl, o7, b7⟩
  have H7 : Hid (HpS W w3.heap.size w4.heap.size w5.heap.size V.heap.size w6.heap.size w7.heap.size (.slice au ps.length cu) (.slice ap xs.length cp) (.slice bp ys.length cq) (.slice ae zs.length ce) g0 ps ps xs ys zs w7 ∧ Below V.heap.size V w7) := by
    obtain ⟨h1, h2, h3, h4, h5, h6⟩ := H5.out
    have s6 := H6.out.1.size
    have s7 := b7.size
    have bb := H6.out.1.trans (b7.mono s6)
    exact ⟨⟨h1.trans (bb.mono h1.size), h2.below bb (by omega), h3.below bb (by omega), h4.below bb (by omega), H6.out.2.below b7 (Nat.le_refl _), o7, by omega⟩, bb⟩
  obtain ⟨ag, cg, rfl⟩ := WritesIn.len o7.at
  have S12 : Hid (∀ g, Value.ownBlock (.slice ap xs.length cp) = some g → Value.ownBlock (.slice bp ys.length cq) ≠ some g) := H5.out.2.2.2.2.1
  clear b7 C6 o7 H5 H6
  have E7 := EW H7.out.1.og.at H7.out.1.o0.at
  go_wp2_with fail
  refine E7.mono ?_
  rintro e w8 ⟨rfl, b8⟩
  have H8 : Hid (HpS W w3.heap.size w4.heap.size w5.heap.size V.heap.size w6.heap.size w7.heap.size (.slice au ps.length cu) (.slice ap xs.length cp) (.slice bp ys.length cq) (.slice ae zs.length ce) (.slice ag ps.length cg) ps ps xs ys zs w8 ∧ Below V.heap.size V w8) := ⟨H7.out.1.below b8, H7.out.2.trans (b8.mono H7.out.2.size)⟩
  clear b8 E7 H7
  go_wp2_with fail
  have hD : Below w8.heap.size w8 w8.drew := (Below.refl w8.heap.size w8).drew
  have hH : Hid (HpS W w3.heap.size w4.heap.size w5.heap.size V.heap.size w6.heap.size w7.heap.size (.slice au ps.length cu) (.slice ap xs.length cp) (.slice bp ys.length cq) (.slice ae zs.length ce) (.slice ag ps.length cg) ps ps xs ys zs w8.drew) := H8.out.1.below hD
  have hS : Below V.heap.size V w8.drew := H8.out.2.drew
  refine wp_region_held (S := fun w' => Below V.heap.size V w' ∧ Below W.heap.size W w') (by kernel_rfl) ?_
  have hS0 : Below V.heap.size V w8.drew ∧ Below W.heap.size W w8.drew := ⟨hS, hH.out.bW⟩
  refine held_load (fuel := 4) (i := 0) (t := 32) (v := .agg #[.int .u8 (m : Int), .int .u8 (t : Int), .slice ap xs.length cp, .int .u8 (m' : Int), .int .u8 (t' : Int), .slice bp ys.length cq]) rfl rfl rfl (by kernel_rfl) (by kernel_rfl) (by kernel_rfl) rfl (fun _ _ _ h => h) (fun w' hw' => LV w' hw'.1) hS0 ?_
  go_simp
  refine held_load (fuel := 3) (i := 1) (t := 26) (v := .agg #[.int .u8 (m : Int), .int .u8 (t : Int), .slice ad xs.length cd, .int .u8 (m' : Int), .int .u8 (t' : Int), .slice ad' ys.length cd']) rfl rfl rfl (by kernel_rfl) (by kernel_rfl) (by kernel_rfl) rfl (fun _ _ _ h => h) (fun w' hw' => LB w' hw'.2) hS0 ?_
  go_simp
  refine wpAnyH_ready (rs := [2]) (by kernel_rfl) (by simp) ?_
  refine AllReadyH.cons rfl (fun K hK => ?_) AllReadyH.nil
  go_simp
  refine (TR _ hS0.2).mono ?_
  rintro e w9 ⟨qa, qb, rfl, o1, o2, -, b9⟩
  have h9 := hH.out.below b9
  have hS9 : Below V.heap.size V w9 ∧ Below W.heap.size W w9 := ⟨hS.trans (b9.mono hS.size), h9.bW⟩
  have CE := ER h9.oa.at h9.ob.at o1.at o2.at
  refine hK.out _ _ hS9 (fun _ => ?_)
  have H9 : Hid (HpS W w3.heap.size w4.heap.size w5.heap.size V.heap.size w6.heap.size w7.heap.size (.slice au ps.length cu) (.slice ap xs.length cp) (.slice bp ys.length cq) (.slice ae zs.length ce) (.slice ag ps.length cg) ps ps xs ys zs w9) := h9
  clear hK K o1 o2 h9 b9 hH hS0 hS hD H8
  go_simp
  refine wpAnyH_ready (rs := [3]) (by kernel_rfl) (by simp) ?_
  refine AllReadyH.cons rfl (fun K hK => ?_) AllReadyH.nil
  go_simp
  refine CE.mono ?_
  rintro e w10 ⟨rfl, b10⟩
  have h10 := H9.out.below b10
  have hS10 : Below V.heap.size V w10 ∧ Below W.heap.size W w10 := ⟨hS9.1.trans (b10.mono hS9.1.size), h10.bW⟩
  have H10 : Hid (HpS W w3.heap.size w4.heap.size w5.heap.size V.heap.size w6.heap.size w7.heap.size (.slice au ps.length cu) (.slice ap xs.length cp) (.slice bp ys.length cq) (.slice ae zs.length ce) (.slice ag ps.length cg) ps ps xs ys zs w10 ∧ Below V.heap.size V w10) := ⟨h10, hS10.1⟩
  refine hK.out _ _ hS10 (fun _ => ?_)
  clear hK K b10 h10 CE hS9 H9
  go_simp
  refine held_any (fuel := 0) (i := 4) (v := .bool false) rfl (by kernel_rfl) (by kernel_rfl) (by kernel_rfl) rfl (fun _ _ _ h => h) (fun _ _ => by go_simp) hS10 ?_
  go_simp
  refine wpAnyH_done (by kernel_rfl) ?_ _
  clear hS10
  have B10 := TB w10 H10.out.1.bW
  go_wp2_with fail
  refine B10.mono ?_
  rintro e w11 ⟨f11, rfl, o11, b11⟩
  have H11 : Hid (HpS W w3.heap.size w4.heap.size w5.heap.size V.heap.size w6.heap.size w7.heap.size (.slice au ps.length cu) (.slice ap xs.length cp) (.slice bp ys.length cq) (.slice ae zs.length ce) (.slice ag ps.length cg) ps ps xs ys zs w11 ∧ Below V.heap.size V w11) := ⟨H10.out.1.below b11, H10.out.2.trans (b11.mono H10.out.2.size)⟩
  have E11 := EZ H11.out.1.oe.at o11.at
  obtain ⟨_, _, rfl⟩ := own_size o11
  clear o11 b11 B10 H10
  go_wp2_with fail
  refine E11.mono ?_
  rintro e w12 ⟨rfl, b12⟩
  have H12 : Hid (HpS W w3.heap.size w4.heap.size w5.heap.size V.heap.size w6.heap.size w7.heap.size (.slice au ps.length cu) (.slice ap xs.length cp) (.slice bp ys.length cq) (.slice ae zs.length ce) (.slice ag ps.length cg) ps ps xs ys zs w12 ∧ Below V.heap.size V w12) := ⟨H11.out.1.below b12, H11.out.2.trans (b12.mono H11.out.2.size)⟩
  clear b12 E11 H11
  have L12 := LV w12 H12.out.2
  have M12 := MR H12.out.1.oa H12.out.1.ob S12.out
  go_wp2_with (refine list_loadH (t := 32) (x := .pointer (some ⟨w5.heap.size, 0, none⟩)) rfl rfl rfl L12 ?_)
  clear L12
  refine M12.mono ?_
  rintro e w13 ⟨k13, xs', ys', rfl, hk13, oa13, ob13, t13⟩
  have H13 : Hid (HpS W w3.heap.size w4.heap.size w5.heap.size V.heap.size w6.heap.size w7.heap.size (.slice au ps.length cu) (.slice ap xs.length cp) (.slice bp ys.length cq) (.slice ae zs.length ce) (.slice ag ps.length cg) ps ps xs' ys' zs w13) := H12.out.1.rom t13 oa13 ob13
  clear oa13 ob13 t13 M12 H12 LV
  have M13 := MZ k13 hk13 H13.out.oe
  go_wp2_with fail
  refine M13.mono ?_
  rintro e w14 ⟨k14, zs', rfl, oe14, t14⟩
  have H14 : Hid (HpS W w3.heap.size w4.heap.size w5.heap.size V.heap.size w6.heap.size w7.heap.size (.slice au ps.length cu) (.slice ap xs.length cp) (.slice bp ys.length cq) (.slice ae zs.length ce) (.slice ag ps.length cg) ps ps xs' ys' zs' w14) := H13.out.bytes t14 oe14
  have hk14 : ¬ (k14 : Int) < 0 := by omega
  clear oe14 t14 M13 H13
  have E14 := EW H14.out.og.at H14.out.o0.at
  go_wp2_with fail
  refine E14.mono ?_
  rintro e w15 ⟨rfl, b15⟩
  have H15 : Hid (HpS W w3.heap.size w4.heap.size w5.heap.size V.heap.size w6.heap.size w7.heap.size (.slice au ps.length cu) (.slice ap xs.length cp) (.slice bp ys.length cq) (.slice ae zs.length ce) (.slice ag ps.length cg) ps ps xs' ys' zs' w15) := H14.out.below b15
  clear b15 E14 H14
  have M15 := MW H15.out.og
  go_wp2_with fail
  refine M15.mono ?_
  rintro e w16 ⟨rfl, og16, t16⟩
  have H16 : Hid (HpS W w3.heap.size w4.heap.size w5.heap.size V.heap.size w6.heap.size w7.heap.size (.slice au ps.length cu) (.slice ap xs.length cp) (.slice bp ys.length cq) (.slice ae zs.length ce) (.slice ag ps.length cg) ps (marksW 1 ps.length) xs' ys' zs' w16) := H15.out.writes t16 og16
  clear og16 t16 M15 H15
  have E16 := EH H16.out.og.at
  go_wp2_with fail
  refine E16.mono ?_
  rintro e w17 ⟨rfl, rfl⟩
  clear E16
  have L17 := LB w17 H16.out.bW
  go_wp2_with (refine list_loadH (t := 26) (x := .pointer (some ⟨w.heap.size, 0, none⟩)) rfl rfl rfl L17 ?_)
  clear L17
  refine (TR w17 H16.out.bW).mono ?_
  rintro e w18 ⟨ra, rb, rfl, o1, o2, -, b18⟩
  have H18 : Hid (HpS W w3.heap.size w4.heap.size w5.heap.size V.heap.size w6.heap.size w7.heap.size (.slice au ps.length cu) (.slice ap xs.length cp) (.slice bp ys.length cq) (.slice ae zs.length ce) (.slice ag ps.length cg) ps (marksW 1 ps.length) xs' ys' zs' w18 ∧ RomAt (.agg #[.int .u8 (m : Int), .int .u8 (t : Int), ra, .int .u8 (m' : Int), .int .u8 (t' : Int), rb]) r w18) := ⟨H16.out.below b18, RA o1.at o2.at⟩
  obtain ⟨_, _, rfl⟩ := own_size o1
  obtain ⟨_, _, rfl⟩ := own_size o2
  clear o1 o2 b18 H16
  have B18 := TB w18 H18.out.1.bW
  go_wp2_with fail
  refine B18.mono ?_
  rintro e w19 ⟨f19, rfl, o19, b19⟩
  have C19 := PI _ _ w19 (H18.out.2.below b19 (Nat.le_refl _)) o19.at
  have H19 : Hid (HpS W w3.heap.size w4.heap.size w5.heap.size V.heap.size w6.heap.size w7.heap.size (.slice au ps.length cu) (.slice ap xs.length cp) (.slice bp ys.length cq) (.slice ae zs.length ce) (.slice ag ps.length cg) ps (marksW 1 ps.length) xs' ys' zs' w19) := H18.out.1.below b19
  obtain ⟨_, _, rfl⟩ := own_size o19
  clear o19 b19 B18 H18
  go_wp2_with fail
  refine C19.mono ?_
  rintro e w20 ⟨h0, rfl, o20, b20⟩
  have H20 : Hid (HpS W w3.heap.size w4.heap.size w5.heap.size V.heap.size w6.heap.size w7.heap.size (.slice au ps.length cu) (.slice ap xs.length cp) (.slice bp ys.length cq) (.slice ae zs.length ce) (.slice ag ps.length cg) ps (marksW 1 ps.length) xs' ys' zs' w20) := H19.out.below b20
  have E20 := EW o20.at H20.out.o0.at
  obtain ⟨_, _, rfl⟩ := WritesIn.len o20.at
  clear b20 C19 H19 o20
  go_wp2_with fail
  refine E20.mono ?_
  rintro e w21 ⟨rfl, b21⟩
  have H21 : Hid (HpS W w3.heap.size w4.heap.size w5.heap.size V.heap.size w6.heap.size w7.heap.size (.slice au ps.length cu) (.slice ap xs.length cp) (.slice bp ys.length cq) (.slice ae zs.length ce) (.slice ag ps.length cg) ps (marksW 1 ps.length) xs' ys' zs' w21) := H20.out.below b21
  clear b21 E20 H20
  have E21 := EH H21.out.og.at
  go_wp2_with fail
  refine E21.mono ?_
  rintro e w22 ⟨rfl, rfl⟩
  clear E21
  go_wp2_with fail
  go_ret
  exact ⟨rfl, HB.out.1.trans (H21.out.bW.mono HB.out.1.size)⟩

theorem law (m t m' t' : Nat) (a a' : Option Addr) (n c n' c' : Nat) (b : Option Addr) (l k : Nat) (w : World) (hm : m ≤ 255) (ht : t ≤ 255) (hm' : m' ≤ 255) (ht' : t' ≤ 255) (C : CodeAt (.slice a n c) w) (D : CodeAt (.slice a' n' c') w) (hn : n ≤ 9223372036854775807) (hn' : n' ≤ 9223372036854775807) (F : CodeAt (.slice b l k) w) (_hl : l ≤ 9223372036854775807) :
    Calls Try.prog 7 #[.agg #[.int .u8 (m : Int), .int .u8 (t : Int), .slice a n c, .int .u8 (m' : Int), .int .u8 (t' : Int), .slice a' n' c'], .slice b l k] w fun e w' => e = .returned (.bool true) ∧ Below w.heap.size w w' := by
  obtain ⟨xs, A, hx⟩ := code_bytes C
  obtain ⟨ys, B, hy⟩ := code_bytes D
  obtain ⟨zs, G, hz⟩ := code_bytes F
  have lx : xs.length = n := by
    obtain ⟨a, cap, e, -⟩ := A
    simp only [Value.slice.injEq] at e
    omega
  have ly : ys.length = n' := by
    obtain ⟨a, cap, e, -⟩ := B
    simp only [Value.slice.injEq] at e
    omega
  exact law_args m t m' t' _ _ _ xs ys zs w hm ht hm' ht' hx hy hz A B G (by omega) (by omega)

end Go.Proofs.Ytdhoimjkgicneac
