/- At every store, writes and number the program's HoldPlay answers as the specification's: the law, walked. -/
import Derived.Test.YtdhoimjkgicneacHelK
import Derived.Test.YtdhoimjkgicneacHolK
import Derived.Test.YtdhoimjkgicneacHolT
namespace Go.Proofs.Ytdhoimjkgicneac
open Go Go.RowKit

set_option maxRecDepth 100000 in
set_option maxHeartbeats 6400000 in
theorem law_args (m t m' t' : Nat) (d d' f : Value) (xs ys : List Nat) (ws : List Wr) (nn : Int) (w : World) (hm : m ≤ 255) (ht : t ≤ 255) (hm' : m' ≤ 255) (ht' : t' ≤ 255) (hx : ∀ x ∈ xs, x ≤ 255) (hy : ∀ x ∈ ys, x ≤ 255) (hws : ∀ x ∈ ws, x.byte ≤ 255) (h : ByteArg d xs w) (h' : ByteArg d' ys w) (hf : WrArg f ws w) (lx : xs.length ≤ 9223372036854775807) (ly : ys.length ≤ 9223372036854775807) (lw : ws.length ≤ 9223372036854775807) :
    Calls Try.prog 4 #[.agg #[.int .u8 (m : Int), .int .u8 (t : Int), d, .int .u8 (m' : Int), .int .u8 (t' : Int), d'], f, .int .i64 nn] w fun e w' => e = .returned (.bool true) ∧ Below w.heap.size w w' := by
  have HA : Hid (ByteArg d xs w ∧ ByteArg d' ys w ∧ WrArg f ws w) := ⟨h, h', hf⟩
  obtain ⟨ad, cd, rfl, -⟩ := h
  obtain ⟨ad', cd', rfl, -⟩ := h'
  obtain ⟨af, cf, rfl, -⟩ := hf
  obtain ⟨W, hW⟩ : ∃ W, W = w.alloc (.cells #[.int .u8 (m : Int), .int .u8 (t : Int), .slice ad xs.length cd, .int .u8 (m' : Int), .int .u8 (t' : Int), .slice ad' ys.length cd'] 26) := ⟨_, rfl⟩
  have b0 : Below w.heap.size w W := by rw [hW]; exact (Below.refl w.heap.size w).alloc (Nat.le_refl _) _
  have hz : W.heap.size = w.heap.size + 1 := by rw [hW]; simp
  have LB : ∀ w', Below W.heap.size W w' → (Instr.loadAt 26 (.pointer (some ⟨w.heap.size, 0, none⟩))).run Try.prog w' = .ok (.agg #[.int .u8 (m : Int), .int .u8 (t : Int), .slice ad xs.length cd, .int .u8 (m' : Int), .int .u8 (t' : Int), .slice ad' ys.length cd']) w' := fun w' hw' => load_romL rfl fun k u hu => (hw'.cell (p := ⟨w.heap.size, k, none⟩) (by show w.heap.size < _; omega)).trans (by rw [hW]; exact cell_lastH rfl hu)
  have S := sz_romZ m t m' t' ad ad' xs.length cd ys.length cd' 1048576 W lx ly (by omega) (by omega)
  have L0 := LB W (Below.refl _ _)
  rw [hW] at L0
  go_enter Try.func4, Try.ntmps4
  go_wp2_with (refine list_loadH (t := 26) (x := .pointer (some ⟨w.heap.size, 0, none⟩)) rfl rfl rfl L0 ?_)
  rw [← hW]
  clear hW L0
  refine S.mono ?_
  rintro e w1 ⟨⟨z, rfl, hzl⟩, b1⟩
  clear S
  have HB : Hid (Below w.heap.size w W ∧ W.heap.size = w.heap.size + 1) := ⟨b0, hz⟩
  clear b0 hz
  by_cases hneg : z < 0
  · go_wp2_with fail
    go_ret
    exact ⟨rfl, HB.out.1.trans (b1.mono HB.out.1.size)⟩
  have hl := hzl (by omega)
  have hzb : z ≤ 1048576 := by omega
  have S2 := sz_writes af ws.length cf z w1 lw (by omega) hzb
  obtain ⟨y, hy1⟩ : ∃ y, leftZ z ws.length = y := ⟨_, rfl⟩
  have HY : Hid ((y < 0 → y = -1) ∧ (0 ≤ y → (ws.length : Int) ≤ z)) := by
    rw [← hy1]
    unfold leftZ
    split <;> refine ⟨fun _ => ?_, fun _ => ?_⟩ <;> omega
  rw [hy1] at S2
  clear hy1
  go_wp2_with fail
  refine S2.mono ?_
  rintro e w1' ⟨rfl, rfl⟩
  clear S2
  by_cases hneg2 : y < 0
  · go_wp2_with fail
    go_ret
    exact ⟨rfl, HB.out.1.trans (b1.mono HB.out.1.size)⟩
  have hl2 := HY.out.2 (by omega)
  have TR : ∀ w', Below W.heap.size W w' → Calls Try.prog 13 #[.agg #[.int .u8 (m : Int), .int .u8 (t : Int), .slice ad xs.length cd, .int .u8 (m' : Int), .int .u8 (t' : Int), .slice ad' ys.length cd']] w' fun e w'' => ∃ oa ob, e = .returned (.agg #[.int .u8 (m : Int), .int .u8 (t : Int), oa, .int .u8 (m' : Int), .int .u8 (t' : Int), ob]) ∧ Own w'.heap.size oa xs w'' ∧ Own w'.heap.size ob ys w'' ∧ (∀ g, oa.ownBlock = some g → ob.ownBlock ≠ some g) ∧ Below w'.heap.size w' w'' := fun w' hw' => to_rom m t m' t' _ _ xs ys w' (HA.out.1.below (HB.out.1.trans (hw'.mono HB.out.1.size))) (HA.out.2.1.below (HB.out.1.trans (hw'.mono HB.out.1.size))) (by omega) (by omega)
  have TW : ∀ w', Below W.heap.size W w' → Calls Try.prog 21 #[.slice af ws.length cf] w' fun e w'' => ∃ o, e = .returned o ∧ OwnW w'.heap.size o ws w'' ∧ Below w'.heap.size w' w'' := fun w' hw' => to_writes _ ws w' (HA.out.2.2.below (HB.out.1.trans (hw'.mono HB.out.1.size))) (by omega)
  have RA : ∀ {oa ob w'}, BytesAt oa xs w' → BytesAt ob ys w' → RomAt (.agg #[.int .u8 (m : Int), .int .u8 (t : Int), oa, .int .u8 (m' : Int), .int .u8 (t' : Int), ob]) ⟨⟨m, t, xs⟩, ⟨m', t', ys⟩⟩ w' := fun ha hb => rom_at hm ht hm' ht' hx hy (by omega) (by omega) ha hb
  have ER : ∀ {d e d' e' w'}, BytesAt d xs w' → BytesAt e ys w' → BytesAt d' xs w' → BytesAt e' ys w' → Calls Try.prog 16 #[.agg #[.int .u8 (m : Int), .int .u8 (t : Int), d, .int .u8 (m' : Int), .int .u8 (t' : Int), e], .agg #[.int .u8 (m : Int), .int .u8 (t : Int), d', .int .u8 (m' : Int), .int .u8 (t' : Int), e']] w' fun r w'' => r = .returned (.bool true) ∧ Below w'.heap.size w' w'' := fun h1 h2 h3 h4 => eq_rom m t m' t' _ _ _ _ xs ys _ h1 h2 h3 h4 (by omega) (by omega)
  have EW : ∀ {a b w'}, WritesAt a ws w' → WritesAt b ws w' → Calls Try.prog 23 #[a, b] w' fun e w'' => e = .returned (.bool true) ∧ Below w'.heap.size w' w'' := fun h1 h2 => eq_writes _ _ ws _ h1 h2 (by omega)
  have MR : ∀ {lo hi oa ob w'}, OwnI lo hi oa xs w' → OwnI lo hi ob ys w' → (∀ g, oa.ownBlock = some g → ob.ownBlock ≠ some g) → Calls Try.prog 17 #[.agg #[.int .u8 (m : Int), .int .u8 (t : Int), oa, .int .u8 (m' : Int), .int .u8 (t' : Int), ob], .int .i64 1] w' fun e w'' => ∃ (k : Nat) (xs' ys' : List Nat), e = .returned (.int .i64 (k : Int)) ∧ k ≤ 100000000 ∧ OwnI lo hi oa xs' w'' ∧ OwnI lo hi ob ys' w'' ∧ Touch (within lo hi) w' w'' := fun h1 h2 h3 => (mark_romI _ _ m t m' t' _ _ xs ys 1 _ h1 h2 h3 (by omega) (by omega) (by omega)).mono fun _ _ ⟨h4, h6, h7, h5⟩ => ⟨_, _, _, h4, by omega, h6, h7, h5⟩
  have MW : ∀ {lo hi a w'} (k : Nat), k ≤ 100000000 → OwnWI lo hi a ws w' → Calls Try.prog 24 #[a, .int .i64 (k : Int)] w' fun e w'' => ∃ (k' : Nat) (ws' : List Wr), e = .returned (.int .i64 (k' : Int)) ∧ OwnWI lo hi a ws' w'' ∧ Touch (within lo hi) w' w'' := fun k hk h1 => (mark_writesI _ _ _ ws k _ h1 (by omega) (by omega)).mono fun _ _ ⟨h2, h3, h4⟩ => ⟨_, _, h2, h3, h4⟩
  obtain ⟨r, hr⟩ : ∃ r : Ro, r = ⟨⟨m, t, xs⟩, ⟨m', t', ys⟩⟩ := ⟨_, rfl⟩
  rw [← hr] at RA
  have ok : RoOk r := by rw [hr]; exact ⟨hm, ht, ⟨hx, by show xs.length ≤ _; omega⟩, hm', ht', ⟨hy, by show ys.length ≤ _; omega⟩⟩
  have ok' : RoOk (r.play (ws.take nn.toNat)) := ok_play ok fun x hx => hws x (List.mem_of_mem_take hx)
  have PS : ∀ v u w', RomAt v r w' → WritesAt u ws w' → Calls Try.prog 20 #[v, u, .int .i64 nn] w' fun e w'' => ∃ da db, e = .returned (romV (r.play (ws.take nn.toNat)) da db) ∧ Own w'.heap.size da (r.play (ws.take nn.toNat)).a.data w'' ∧ Own w'.heap.size db (r.play (ws.take nn.toNat)).b.data w'' ∧ Below w'.heap.size w' w'' := fun v u w' hv hu => (play_spec v u r ws nn w' hv hu hws (by omega)).mono fun _ _ ⟨da, db, h1, h2, h3, _, h5⟩ => ⟨da, db, h1, h2, h3, h5⟩
  have PI : ∀ v u w', RomAt v r w' → WritesAt u ws w' → Calls Try.prog 22 #[v, u, .int .i64 nn] w' fun e w'' => ∃ da db, e = .returned (romV (r.play (ws.take nn.toNat)) da db) ∧ Own w'.heap.size da (r.play (ws.take nn.toNat)).a.data w'' ∧ Own w'.heap.size db (r.play (ws.take nn.toNat)).b.data w'' ∧ (∀ k, da.ownBlock = some k → db.ownBlock ≠ some k) ∧ Below w'.heap.size w' w'' := fun v u w' hv hu => (play_sep v u r ws nn w' hv hu hws (by omega)).mono fun _ _ ⟨da, db, h1, h2, h3, _, h5, h6⟩ => ⟨da, db, h1, h2, h3, h5, h6⟩
  clear hx hy hws hzl hl lx ly hr ok lw hl2 HY hzb
  obtain ⟨r', hr'⟩ : ∃ r', r' = r.play (ws.take nn.toNat) := ⟨_, rfl⟩
  rw [← hr'] at ok'
  simp only [← hr'] at PS PI
  clear hr'
  have ra1 := ok'.ad.len
  have rb1 := ok'.bd.len
  have ER' : ∀ {d e d' e' w'}, BytesAt d r'.a.data w' → BytesAt e r'.b.data w' → BytesAt d' r'.a.data w' → BytesAt e' r'.b.data w' → Calls Try.prog 16 #[.agg #[.int .u8 (r'.a.mark : Int), .int .u8 (r'.a.turn : Int), d, .int .u8 (r'.b.mark : Int), .int .u8 (r'.b.turn : Int), e], .agg #[.int .u8 (r'.a.mark : Int), .int .u8 (r'.a.turn : Int), d', .int .u8 (r'.b.mark : Int), .int .u8 (r'.b.turn : Int), e']] w' fun r w'' => r = .returned (.bool true) ∧ Below w'.heap.size w' w'' := fun h1 h2 h3 h4 => eq_rom r'.a.mark r'.a.turn r'.b.mark r'.b.turn _ _ _ _ r'.a.data r'.b.data _ h1 h2 h3 h4 (by omega) (by omega)
  obtain ⟨n, hn⟩ : ∃ n : Int, n = ((1 + r'.a.data.length + r'.b.data.length : Nat) : Int) := ⟨_, rfl⟩
  have hn0 : ¬ n < 0 := by omega
  have MG : ∀ {lo hi oa ob w'}, OwnI lo hi oa r'.a.data w' → OwnI lo hi ob r'.b.data w' → (∀ g, oa.ownBlock = some g → ob.ownBlock ≠ some g) → Calls Try.prog 17 #[.agg #[.int .u8 (r'.a.mark : Int), .int .u8 (r'.a.turn : Int), oa, .int .u8 (r'.b.mark : Int), .int .u8 (r'.b.turn : Int), ob], .int .i64 1] w' fun e w'' => e = .returned (.int .i64 n) ∧ OwnI lo hi oa (marks 1 r'.a.data.length) w'' ∧ OwnI lo hi ob (marks (1 + r'.a.data.length) r'.b.data.length) w'' ∧ Touch (within lo hi) w' w'' := fun h1 h2 h3 => by rw [hn]; exact mark_romI _ _ r'.a.mark r'.a.turn r'.b.mark r'.b.turn _ _ r'.a.data r'.b.data 1 _ h1 h2 h3 (by omega) (by omega) (by omega)
  have EG : ∀ {oa ob w'}, BytesAt oa (marks 1 r'.a.data.length) w' → BytesAt ob (marks (1 + r'.a.data.length) r'.b.data.length) w' → Calls Try.prog 18 #[.agg #[.int .u8 (r'.a.mark : Int), .int .u8 (r'.a.turn : Int), oa, .int .u8 (r'.b.mark : Int), .int .u8 (r'.b.turn : Int), ob], .int .i64 1] w' fun e w'' => e = .returned (.int .i64 n) ∧ Below w'.heap.size w' w'' := fun h1 h2 => by rw [hn]; exact held_rom r'.a.mark r'.a.turn r'.b.mark r'.b.turn _ _ r'.a.data.length r'.b.data.length 1 _ h1 h2 (by omega) (by omega) (by omega)
  clear hn ra1 rb1 ok'
  have H1 : Hid (Below W.heap.size W w1') := b1
  have L1 := LB w1' b1
  clear b1
  go_wp2_with (refine list_loadH (t := 26) (x := .pointer (some ⟨w.heap.size, 0, none⟩)) rfl rfl rfl L1 ?_)
  clear L1
  refine (TR w1' H1.out).mono ?_
  rintro e w2 ⟨oa, ob, rfl, o1, o2, -, b2⟩
  have H2 : Hid (Below W.heap.size W w2 ∧ RomAt (.agg #[.int .u8 (m : Int), .int .u8 (t : Int), oa, .int .u8 (m' : Int), .int .u8 (t' : Int), ob]) r w2) := ⟨H1.out.trans (b2.mono H1.out.size), RA o1.at o2.at⟩
  obtain ⟨_, _, rfl⟩ := own_size o1
  obtain ⟨_, _, rfl⟩ := own_size o2
  clear o1 o2 b2 H1
  have B2 := TW w2 H2.out.1
  go_wp2_with fail
  refine B2.mono ?_
  rintro e w3 ⟨f3, rfl, o3, b3⟩
  have C3 := PS _ _ w3 (H2.out.2.below b3 (Nat.le_refl _)) o3.at
  have H3 : Hid (Below W.heap.size W w3) := H2.out.1.trans (b3.mono H2.out.1.size)
  obtain ⟨_, _, rfl⟩ := ownW_size o3
  clear o3 b3 B2 H2
  go_wp2_with fail
  refine C3.mono ?_
  rintro e w4 ⟨u1, u2, rfl, o1, o2, b4⟩
  obtain ⟨a1, c1, rfl⟩ := own_size o1
  obtain ⟨a2, c2, rfl⟩ := own_size o2
  obtain ⟨W5, hW5⟩ : ∃ W5, W5 = w4.alloc (.cells #[.int .u8 (r'.a.mark : Int), .int .u8 (r'.a.turn : Int), (.slice a1 r'.a.data.length c1), .int .u8 (r'.b.mark : Int), .int .u8 (r'.b.turn : Int), (.slice a2 r'.b.data.length c2)] 32) := ⟨_, rfl⟩
  have bW5 : Below w4.heap.size w4 W5 := by rw [hW5]; exact (Below.refl w4.heap.size w4).alloc (Nat.le_refl _) _
  have H5 : Hid (Below W.heap.size W W5 ∧ OwnI w3.heap.size w4.heap.size (.slice a1 r'.a.data.length c1) r'.a.data W5 ∧ OwnI w3.heap.size w4.heap.size (.slice a2 r'.b.data.length c2) r'.b.data W5 ∧ BoxI w4.heap.size (#[.int .u8 (r'.a.mark : Int), .int .u8 (r'.a.turn : Int), (.slice a1 r'.a.data.length c1), .int .u8 (r'.b.mark : Int), .int .u8 (r'.b.turn : Int), (.slice a2 r'.b.data.length c2)]) W5 ∧ W.heap.size ≤ w3.heap.size ∧ w3.heap.size ≤ w4.heap.size ∧ w4.heap.size + 1 = W5.heap.size) := by
    have bb := H3.out.trans (b4.mono H3.out.size)
    exact ⟨bb.trans (bW5.mono bb.size), (OwnI.of o1).below bW5 (Nat.le_refl _), (OwnI.of o2).below bW5 (Nat.le_refl _), by rw [hW5]; exact BoxI.new _ _ _, H3.out.size, b4.size, by rw [hW5]; simp⟩
  clear o1 o2 b4 C3 H3 bW5
  simp only [romV]
  have L5 := LB W5 H5.out.1
  rw [hW5] at L5
  go_wp2_with (refine list_loadH (t := 26) (x := .pointer (some ⟨w.heap.size, 0, none⟩)) rfl rfl rfl L5 ?_)
  rw [← hW5]
  clear hW5 L5
  refine (TR W5 H5.out.1).mono ?_
  rintro e w6 ⟨pa, pb, rfl, o1, o2, s12, b6⟩
  obtain ⟨ap, cp, rfl⟩ := own_size o1
  obtain ⟨bp, cq, rfl⟩ := own_size o2
  obtain ⟨V, hV⟩ : ∃ V, V = w6.alloc (.cells #[.int .u8 (m : Int), .int .u8 (t : Int), (.slice ap xs.length cp), .int .u8 (m' : Int), .int .u8 (t' : Int), (.slice bp ys.length cq)] 32) := ⟨_, rfl⟩
  have bV : Below w6.heap.size w6 V := by rw [hV]; exact (Below.refl w6.heap.size w6).alloc (Nat.le_refl _) _
  have H6 : Hid (Below W.heap.size W V ∧ OwnI w3.heap.size w4.heap.size (.slice a1 r'.a.data.length c1) r'.a.data V ∧ OwnI w3.heap.size w4.heap.size (.slice a2 r'.b.data.length c2) r'.b.data V ∧ BoxI w4.heap.size (#[.int .u8 (r'.a.mark : Int), .int .u8 (r'.a.turn : Int), (.slice a1 r'.a.data.length c1), .int .u8 (r'.b.mark : Int), .int .u8 (r'.b.turn : Int), (.slice a2 r'.b.data.length c2)]) V ∧ OwnI W5.heap.size w6.heap.size (.slice ap xs.length cp) xs V ∧ OwnI W5.heap.size w6.heap.size (.slice bp ys.length cq) ys V ∧ BoxI w6.heap.size (#[.int .u8 (m : Int), .int .u8 (t : Int), (.slice ap xs.length cp), .int .u8 (m' : Int), .int .u8 (t' : Int), (.slice bp ys.length cq)]) V ∧ (W.heap.size ≤ w3.heap.size ∧ w3.heap.size ≤ w4.heap.size ∧ w4.heap.size + 1 = W5.heap.size ∧ W5.heap.size ≤ w6.heap.size ∧ w6.heap.size + 1 = V.heap.size)) := by
    obtain ⟨h1, h2, h3, h4, h5, h6, h7⟩ := H5.out
    have bb := b6.trans (bV.mono b6.size)
    exact ⟨h1.trans (bb.mono h1.size), h2.below bb (by omega), h3.below bb (by omega), h4.below bb, (OwnI.of o1).below bV (Nat.le_refl _), (OwnI.of o2).below bV (Nat.le_refl _), by rw [hV]; exact BoxI.new _ _ _, h5, h6, h7, b6.size, by rw [hV]; simp⟩
  have S12 : Hid (∀ g, Value.ownBlock (.slice ap xs.length cp) = some g → Value.ownBlock (.slice bp ys.length cq) ≠ some g) := s12
  have B6 := TW V H6.out.1
  clear o1 o2 b6 H5 bV s12
  go_wp2_with fail
  rw [← hV]
  clear hV
  refine B6.mono ?_
  rintro e w7 ⟨e1, rfl, o7, b7⟩
  obtain ⟨ae, ce, rfl⟩ := ownW_size o7
  have H7 : Hid (Below V.heap.size V w7 ∧ OwnWI V.heap.size w7.heap.size (.slice ae ws.length ce) ws w7) := ⟨b7, OwnWI.of o7⟩
  have C7 := PI _ _ w7 (RA (H6.out.2.2.2.2.1.below b7 (by have := H6.out.2.2.2.2.2.2.2; omega)).at (H6.out.2.2.2.2.2.1.below b7 (by have := H6.out.2.2.2.2.2.2.2; omega)).at) o7.at
  have L7 := (H6.out.2.2.2.2.2.2.1.below b7).load rfl
  clear o7 b7 B6
  go_wp2_with (refine list_loadH (t := 32) (x := .pointer (some ⟨w6.heap.size, 0, none⟩)) rfl rfl rfl L7 ?_)
  clear L7
  refine C7.mono ?_
  rintro e w8 ⟨g1, g2, rfl, o1, o2, s34, b8⟩
  obtain ⟨a3, c3, rfl⟩ := own_size o1
  obtain ⟨a4, c4, rfl⟩ := own_size o2
  obtain ⟨X, hX⟩ : ∃ X, X = w8.alloc (.cells #[.int .u8 (r'.a.mark : Int), .int .u8 (r'.a.turn : Int), (.slice a3 r'.a.data.length c3), .int .u8 (r'.b.mark : Int), .int .u8 (r'.b.turn : Int), (.slice a4 r'.b.data.length c4)] 32) := ⟨_, rfl⟩
  have bX : Below w8.heap.size w8 X := by rw [hX]; exact (Below.refl w8.heap.size w8).alloc (Nat.le_refl _) _
  have H8 : Hid (HyS W w3.heap.size w4.heap.size W5.heap.size w6.heap.size V.heap.size w7.heap.size w7.heap.size w8.heap.size w4.heap.size w8.heap.size (#[.int .u8 (r'.a.mark : Int), .int .u8 (r'.a.turn : Int), (.slice a1 r'.a.data.length c1), .int .u8 (r'.b.mark : Int), .int .u8 (r'.b.turn : Int), (.slice a2 r'.b.data.length c2)]) (#[.int .u8 (m : Int), .int .u8 (t : Int), (.slice ap xs.length cp), .int .u8 (m' : Int), .int .u8 (t' : Int), (.slice bp ys.length cq)]) (#[.int .u8 (r'.a.mark : Int), .int .u8 (r'.a.turn : Int), (.slice a3 r'.a.data.length c3), .int .u8 (r'.b.mark : Int), .int .u8 (r'.b.turn : Int), (.slice a4 r'.b.data.length c4)]) (.slice a1 r'.a.data.length c1) (.slice a2 r'.b.data.length c2) (.slice ap xs.length cp) (.slice bp ys.length cq) (.slice ae ws.length ce) (.slice a3 r'.a.data.length c3) (.slice a4 r'.b.data.length c4) r'.a.data r'.b.data xs ys (r'.a.data) (r'.b.data) ws X) := by
    obtain ⟨h1, h2, h3, h4, h5, h6, h7, h8⟩ := H6.out
    obtain ⟨i1, i2⟩ := H7.out
    have s7 := i1.size
    have s8 := b8.size
    have sX := bX.size
    have b78 := b8.trans (bX.mono b8.size)
    have bb := i1.trans (b78.mono i1.size)
    exact ⟨h1.trans (bb.mono h1.size), h2.below bb (by omega), h3.below bb (by omega), h4.below bb, h5.below bb (by omega), h6.below bb (by omega), h7.below bb, i2.below b78 (Nat.le_refl _), (OwnI.of o1).below bX (Nat.le_refl _), (OwnI.of o2).below bX (Nat.le_refl _), by rw [hX]; exact BoxI.new _ _ _, by omega⟩
  have S34 : Hid (∀ g, Value.ownBlock (.slice a3 r'.a.data.length c3) = some g → Value.ownBlock (.slice a4 r'.b.data.length c4) ≠ some g) := s34
  clear b8 C7 o1 o2 H6 H7 s34 bX
  simp only [romV]
  have E8 := ER' H8.out.og.at H8.out.oh.at H8.out.o1.at H8.out.o2.at
  have L8 := H8.out.bg.load rfl
  have K8 := H8.out.b0.load rfl
  rw [hX] at L8 K8
  go_wp2_with (refine list_loadH (t := 32) (x := .pointer (some ⟨w8.heap.size, 0, none⟩)) rfl rfl rfl L8 ?_; refine list_loadH (t := 32) (x := .pointer (some ⟨w4.heap.size, 0, none⟩)) rfl rfl rfl K8 ?_)
  rw [← hX]
  clear hX L8 K8
  refine E8.mono ?_
  rintro e w9 ⟨rfl, b9⟩
  have H9 : Hid (HyS W w3.heap.size w4.heap.size W5.heap.size w6.heap.size V.heap.size w7.heap.size w7.heap.size w8.heap.size w4.heap.size w8.heap.size (#[.int .u8 (r'.a.mark : Int), .int .u8 (r'.a.turn : Int), (.slice a1 r'.a.data.length c1), .int .u8 (r'.b.mark : Int), .int .u8 (r'.b.turn : Int), (.slice a2 r'.b.data.length c2)]) (#[.int .u8 (m : Int), .int .u8 (t : Int), (.slice ap xs.length cp), .int .u8 (m' : Int), .int .u8 (t' : Int), (.slice bp ys.length cq)]) (#[.int .u8 (r'.a.mark : Int), .int .u8 (r'.a.turn : Int), (.slice a3 r'.a.data.length c3), .int .u8 (r'.b.mark : Int), .int .u8 (r'.b.turn : Int), (.slice a4 r'.b.data.length c4)]) (.slice a1 r'.a.data.length c1) (.slice a2 r'.b.data.length c2) (.slice ap xs.length cp) (.slice bp ys.length cq) (.slice ae ws.length ce) (.slice a3 r'.a.data.length c3) (.slice a4 r'.b.data.length c4) r'.a.data r'.b.data xs ys (r'.a.data) (r'.b.data) ws w9) := H8.out.below b9
  clear b9 E8 H8
  go_wp2_with fail
  have hH : Hid (HyS W w3.heap.size w4.heap.size W5.heap.size w6.heap.size V.heap.size w7.heap.size w7.heap.size w8.heap.size w4.heap.size w8.heap.size (#[.int .u8 (r'.a.mark : Int), .int .u8 (r'.a.turn : Int), (.slice a1 r'.a.data.length c1), .int .u8 (r'.b.mark : Int), .int .u8 (r'.b.turn : Int), (.slice a2 r'.b.data.length c2)]) (#[.int .u8 (m : Int), .int .u8 (t : Int), (.slice ap xs.length cp), .int .u8 (m' : Int), .int .u8 (t' : Int), (.slice bp ys.length cq)]) (#[.int .u8 (r'.a.mark : Int), .int .u8 (r'.a.turn : Int), (.slice a3 r'.a.data.length c3), .int .u8 (r'.b.mark : Int), .int .u8 (r'.b.turn : Int), (.slice a4 r'.b.data.length c4)]) (.slice a1 r'.a.data.length c1) (.slice a2 r'.b.data.length c2) (.slice ap xs.length cp) (.slice bp ys.length cq) (.slice ae ws.length ce) (.slice a3 r'.a.data.length c3) (.slice a4 r'.b.data.length c4) r'.a.data r'.b.data xs ys (r'.a.data) (r'.b.data) ws w9.drew) := H9.out.below (Below.refl w9.heap.size w9).drew
  have hS0 : BoxI w6.heap.size (#[.int .u8 (m : Int), .int .u8 (t : Int), (.slice ap xs.length cp), .int .u8 (m' : Int), .int .u8 (t' : Int), (.slice bp ys.length cq)]) w9.drew ∧ Below W.heap.size W w9.drew := ⟨hH.out.bx, hH.out.bW⟩
  refine wp_region_held (S := fun w' => BoxI w6.heap.size (#[.int .u8 (m : Int), .int .u8 (t : Int), (.slice ap xs.length cp), .int .u8 (m' : Int), .int .u8 (t' : Int), (.slice bp ys.length cq)]) w' ∧ Below W.heap.size W w') (by kernel_rfl) ?_
  refine held_load (fuel := 4) (i := 0) (t := 32) (v := .agg (#[.int .u8 (m : Int), .int .u8 (t : Int), (.slice ap xs.length cp), .int .u8 (m' : Int), .int .u8 (t' : Int), (.slice bp ys.length cq)])) rfl rfl rfl (by kernel_rfl) (by kernel_rfl) (by kernel_rfl) rfl (fun _ _ _ h => h) (fun w' hw' => hw'.1.load rfl) hS0 ?_
  go_simp
  refine held_load (fuel := 3) (i := 1) (t := 26) (v := .agg #[.int .u8 (m : Int), .int .u8 (t : Int), .slice ad xs.length cd, .int .u8 (m' : Int), .int .u8 (t' : Int), .slice ad' ys.length cd']) rfl rfl rfl (by kernel_rfl) (by kernel_rfl) (by kernel_rfl) rfl (fun _ _ _ h => h) (fun w' hw' => LB w' hw'.2) hS0 ?_
  go_simp
  refine wpAnyH_ready (rs := [2]) (by kernel_rfl) (by simp) ?_
  refine AllReadyH.cons rfl (fun K hK => ?_) AllReadyH.nil
  go_simp
  refine (TR _ hS0.2).mono ?_
  rintro e w10 ⟨qa, qb, rfl, o1, o2, -, b10⟩
  have h10 := hH.out.below b10
  have hS10 : BoxI w6.heap.size (#[.int .u8 (m : Int), .int .u8 (t : Int), (.slice ap xs.length cp), .int .u8 (m' : Int), .int .u8 (t' : Int), (.slice bp ys.length cq)]) w10 ∧ Below W.heap.size W w10 := ⟨h10.bx, h10.bW⟩
  have CE := ER h10.oa.at h10.ob.at o1.at o2.at
  refine hK.out _ _ hS10 (fun _ => ?_)
  have H10 : Hid (HyS W w3.heap.size w4.heap.size W5.heap.size w6.heap.size V.heap.size w7.heap.size w7.heap.size w8.heap.size w4.heap.size w8.heap.size (#[.int .u8 (r'.a.mark : Int), .int .u8 (r'.a.turn : Int), (.slice a1 r'.a.data.length c1), .int .u8 (r'.b.mark : Int), .int .u8 (r'.b.turn : Int), (.slice a2 r'.b.data.length c2)]) (#[.int .u8 (m : Int), .int .u8 (t : Int), (.slice ap xs.length cp), .int .u8 (m' : Int), .int .u8 (t' : Int), (.slice bp ys.length cq)]) (#[.int .u8 (r'.a.mark : Int), .int .u8 (r'.a.turn : Int), (.slice a3 r'.a.data.length c3), .int .u8 (r'.b.mark : Int), .int .u8 (r'.b.turn : Int), (.slice a4 r'.b.data.length c4)]) (.slice a1 r'.a.data.length c1) (.slice a2 r'.b.data.length c2) (.slice ap xs.length cp) (.slice bp ys.length cq) (.slice ae ws.length ce) (.slice a3 r'.a.data.length c3) (.slice a4 r'.b.data.length c4) r'.a.data r'.b.data xs ys (r'.a.data) (r'.b.data) ws w10) := h10
  clear hK K o1 o2 h10 b10 hH hS0 H9
  go_simp
  refine wpAnyH_ready (rs := [3]) (by kernel_rfl) (by simp) ?_
  refine AllReadyH.cons rfl (fun K hK => ?_) AllReadyH.nil
  go_simp
  refine CE.mono ?_
  rintro e w11 ⟨rfl, b11⟩
  have h11 := H10.out.below b11
  have hS11 : BoxI w6.heap.size (#[.int .u8 (m : Int), .int .u8 (t : Int), (.slice ap xs.length cp), .int .u8 (m' : Int), .int .u8 (t' : Int), (.slice bp ys.length cq)]) w11 ∧ Below W.heap.size W w11 := ⟨h11.bx, h11.bW⟩
  have H11 : Hid (HyS W w3.heap.size w4.heap.size W5.heap.size w6.heap.size V.heap.size w7.heap.size w7.heap.size w8.heap.size w4.heap.size w8.heap.size (#[.int .u8 (r'.a.mark : Int), .int .u8 (r'.a.turn : Int), (.slice a1 r'.a.data.length c1), .int .u8 (r'.b.mark : Int), .int .u8 (r'.b.turn : Int), (.slice a2 r'.b.data.length c2)]) (#[.int .u8 (m : Int), .int .u8 (t : Int), (.slice ap xs.length cp), .int .u8 (m' : Int), .int .u8 (t' : Int), (.slice bp ys.length cq)]) (#[.int .u8 (r'.a.mark : Int), .int .u8 (r'.a.turn : Int), (.slice a3 r'.a.data.length c3), .int .u8 (r'.b.mark : Int), .int .u8 (r'.b.turn : Int), (.slice a4 r'.b.data.length c4)]) (.slice a1 r'.a.data.length c1) (.slice a2 r'.b.data.length c2) (.slice ap xs.length cp) (.slice bp ys.length cq) (.slice ae ws.length ce) (.slice a3 r'.a.data.length c3) (.slice a4 r'.b.data.length c4) r'.a.data r'.b.data xs ys (r'.a.data) (r'.b.data) ws w11) := h11
  refine hK.out _ _ hS11 (fun _ => ?_)
  clear hK K b11 h11 CE hS10 H10
  go_simp
  refine held_any (fuel := 0) (i := 4) (v := .bool false) rfl (by kernel_rfl) (by kernel_rfl) (by kernel_rfl) rfl (fun _ _ _ h => h) (fun _ _ => by go_simp) hS11 ?_
  go_simp
  refine wpAnyH_done (by kernel_rfl) ?_ _
  clear hS11
  have B11 := TW w11 H11.out.bW
  go_wp2_with fail
  refine B11.mono ?_
  rintro e w12 ⟨f12, rfl, o12, b12⟩
  have H12 : Hid (HyS W w3.heap.size w4.heap.size W5.heap.size w6.heap.size V.heap.size w7.heap.size w7.heap.size w8.heap.size w4.heap.size w8.heap.size (#[.int .u8 (r'.a.mark : Int), .int .u8 (r'.a.turn : Int), (.slice a1 r'.a.data.length c1), .int .u8 (r'.b.mark : Int), .int .u8 (r'.b.turn : Int), (.slice a2 r'.b.data.length c2)]) (#[.int .u8 (m : Int), .int .u8 (t : Int), (.slice ap xs.length cp), .int .u8 (m' : Int), .int .u8 (t' : Int), (.slice bp ys.length cq)]) (#[.int .u8 (r'.a.mark : Int), .int .u8 (r'.a.turn : Int), (.slice a3 r'.a.data.length c3), .int .u8 (r'.b.mark : Int), .int .u8 (r'.b.turn : Int), (.slice a4 r'.b.data.length c4)]) (.slice a1 r'.a.data.length c1) (.slice a2 r'.b.data.length c2) (.slice ap xs.length cp) (.slice bp ys.length cq) (.slice ae ws.length ce) (.slice a3 r'.a.data.length c3) (.slice a4 r'.b.data.length c4) r'.a.data r'.b.data xs ys (r'.a.data) (r'.b.data) ws w12) := H11.out.below b12
  have E12 := EW H12.out.oe.at o12.at
  obtain ⟨_, _, rfl⟩ := ownW_size o12
  clear o12 b12 B11 H11
  go_wp2_with fail
  refine E12.mono ?_
  rintro e w13 ⟨rfl, b13⟩
  have H13 : Hid (HyS W w3.heap.size w4.heap.size W5.heap.size w6.heap.size V.heap.size w7.heap.size w7.heap.size w8.heap.size w4.heap.size w8.heap.size (#[.int .u8 (r'.a.mark : Int), .int .u8 (r'.a.turn : Int), (.slice a1 r'.a.data.length c1), .int .u8 (r'.b.mark : Int), .int .u8 (r'.b.turn : Int), (.slice a2 r'.b.data.length c2)]) (#[.int .u8 (m : Int), .int .u8 (t : Int), (.slice ap xs.length cp), .int .u8 (m' : Int), .int .u8 (t' : Int), (.slice bp ys.length cq)]) (#[.int .u8 (r'.a.mark : Int), .int .u8 (r'.a.turn : Int), (.slice a3 r'.a.data.length c3), .int .u8 (r'.b.mark : Int), .int .u8 (r'.b.turn : Int), (.slice a4 r'.b.data.length c4)]) (.slice a1 r'.a.data.length c1) (.slice a2 r'.b.data.length c2) (.slice ap xs.length cp) (.slice bp ys.length cq) (.slice ae ws.length ce) (.slice a3 r'.a.data.length c3) (.slice a4 r'.b.data.length c4) r'.a.data r'.b.data xs ys (r'.a.data) (r'.b.data) ws w13) := H12.out.below b13
  clear b13 E12 H12
  have L13 := H13.out.bx.load rfl
  have M13 := MR H13.out.oa H13.out.ob S12.out
  go_wp2_with (refine list_loadH (t := 32) (x := .pointer (some ⟨w6.heap.size, 0, none⟩)) rfl rfl rfl L13 ?_)
  clear L13
  refine M13.mono ?_
  rintro e w14 ⟨k14, xs', ys', rfl, hk14, oa14, ob14, t14⟩
  have H14 : Hid (HyS W w3.heap.size w4.heap.size W5.heap.size w6.heap.size V.heap.size w7.heap.size w7.heap.size w8.heap.size w4.heap.size w8.heap.size (#[.int .u8 (r'.a.mark : Int), .int .u8 (r'.a.turn : Int), (.slice a1 r'.a.data.length c1), .int .u8 (r'.b.mark : Int), .int .u8 (r'.b.turn : Int), (.slice a2 r'.b.data.length c2)]) (#[.int .u8 (m : Int), .int .u8 (t : Int), (.slice ap xs.length cp), .int .u8 (m' : Int), .int .u8 (t' : Int), (.slice bp ys.length cq)]) (#[.int .u8 (r'.a.mark : Int), .int .u8 (r'.a.turn : Int), (.slice a3 r'.a.data.length c3), .int .u8 (r'.b.mark : Int), .int .u8 (r'.b.turn : Int), (.slice a4 r'.b.data.length c4)]) (.slice a1 r'.a.data.length c1) (.slice a2 r'.b.data.length c2) (.slice ap xs.length cp) (.slice bp ys.length cq) (.slice ae ws.length ce) (.slice a3 r'.a.data.length c3) (.slice a4 r'.b.data.length c4) r'.a.data r'.b.data xs' ys' (r'.a.data) (r'.b.data) ws w14) := H13.out.rom t14 oa14 ob14
  clear oa14 ob14 t14 M13 H13
  have M14 := MW k14 hk14 H14.out.oe
  go_wp2_with fail
  refine M14.mono ?_
  rintro e w15 ⟨k15, ws', rfl, oe15, t15⟩
  have H15 : Hid (HyS W w3.heap.size w4.heap.size W5.heap.size w6.heap.size V.heap.size w7.heap.size w7.heap.size w8.heap.size w4.heap.size w8.heap.size (#[.int .u8 (r'.a.mark : Int), .int .u8 (r'.a.turn : Int), (.slice a1 r'.a.data.length c1), .int .u8 (r'.b.mark : Int), .int .u8 (r'.b.turn : Int), (.slice a2 r'.b.data.length c2)]) (#[.int .u8 (m : Int), .int .u8 (t : Int), (.slice ap xs.length cp), .int .u8 (m' : Int), .int .u8 (t' : Int), (.slice bp ys.length cq)]) (#[.int .u8 (r'.a.mark : Int), .int .u8 (r'.a.turn : Int), (.slice a3 r'.a.data.length c3), .int .u8 (r'.b.mark : Int), .int .u8 (r'.b.turn : Int), (.slice a4 r'.b.data.length c4)]) (.slice a1 r'.a.data.length c1) (.slice a2 r'.b.data.length c2) (.slice ap xs.length cp) (.slice bp ys.length cq) (.slice ae ws.length ce) (.slice a3 r'.a.data.length c3) (.slice a4 r'.b.data.length c4) r'.a.data r'.b.data xs' ys' (r'.a.data) (r'.b.data) ws' w15) := H14.out.writes t15 oe15
  have hk15 : ¬ (k15 : Int) < 0 := by omega
  clear oe15 t15 M14 H14
  have E15 := ER' H15.out.og.at H15.out.oh.at H15.out.o1.at H15.out.o2.at
  have L15 := H15.out.bg.load rfl
  have K15 := H15.out.b0.load rfl
  go_wp2_with (refine list_loadH (t := 32) (x := .pointer (some ⟨w8.heap.size, 0, none⟩)) rfl rfl rfl L15 ?_; refine list_loadH (t := 32) (x := .pointer (some ⟨w4.heap.size, 0, none⟩)) rfl rfl rfl K15 ?_)
  clear L15 K15
  refine E15.mono ?_
  rintro e w16 ⟨rfl, b16⟩
  have H16 : Hid (HyS W w3.heap.size w4.heap.size W5.heap.size w6.heap.size V.heap.size w7.heap.size w7.heap.size w8.heap.size w4.heap.size w8.heap.size (#[.int .u8 (r'.a.mark : Int), .int .u8 (r'.a.turn : Int), (.slice a1 r'.a.data.length c1), .int .u8 (r'.b.mark : Int), .int .u8 (r'.b.turn : Int), (.slice a2 r'.b.data.length c2)]) (#[.int .u8 (m : Int), .int .u8 (t : Int), (.slice ap xs.length cp), .int .u8 (m' : Int), .int .u8 (t' : Int), (.slice bp ys.length cq)]) (#[.int .u8 (r'.a.mark : Int), .int .u8 (r'.a.turn : Int), (.slice a3 r'.a.data.length c3), .int .u8 (r'.b.mark : Int), .int .u8 (r'.b.turn : Int), (.slice a4 r'.b.data.length c4)]) (.slice a1 r'.a.data.length c1) (.slice a2 r'.b.data.length c2) (.slice ap xs.length cp) (.slice bp ys.length cq) (.slice ae ws.length ce) (.slice a3 r'.a.data.length c3) (.slice a4 r'.b.data.length c4) r'.a.data r'.b.data xs' ys' (r'.a.data) (r'.b.data) ws' w16) := H15.out.below b16
  clear b16 E15 H15
  have M16 := MG H16.out.og H16.out.oh S34.out
  have L16 := H16.out.bg.load rfl
  go_wp2_with (refine list_loadH (t := 32) (x := .pointer (some ⟨w8.heap.size, 0, none⟩)) rfl rfl rfl L16 ?_)
  clear L16
  refine M16.mono ?_
  rintro e w17 ⟨rfl, og17, oh17, t17⟩
  have H17 : Hid (HyS W w3.heap.size w4.heap.size W5.heap.size w6.heap.size V.heap.size w7.heap.size w7.heap.size w8.heap.size w4.heap.size w8.heap.size (#[.int .u8 (r'.a.mark : Int), .int .u8 (r'.a.turn : Int), (.slice a1 r'.a.data.length c1), .int .u8 (r'.b.mark : Int), .int .u8 (r'.b.turn : Int), (.slice a2 r'.b.data.length c2)]) (#[.int .u8 (m : Int), .int .u8 (t : Int), (.slice ap xs.length cp), .int .u8 (m' : Int), .int .u8 (t' : Int), (.slice bp ys.length cq)]) (#[.int .u8 (r'.a.mark : Int), .int .u8 (r'.a.turn : Int), (.slice a3 r'.a.data.length c3), .int .u8 (r'.b.mark : Int), .int .u8 (r'.b.turn : Int), (.slice a4 r'.b.data.length c4)]) (.slice a1 r'.a.data.length c1) (.slice a2 r'.b.data.length c2) (.slice ap xs.length cp) (.slice bp ys.length cq) (.slice ae ws.length ce) (.slice a3 r'.a.data.length c3) (.slice a4 r'.b.data.length c4) r'.a.data r'.b.data xs' ys' (marks 1 r'.a.data.length) (marks (1 + r'.a.data.length) r'.b.data.length) ws' w17) := H16.out.answer t17 og17 oh17
  clear og17 oh17 t17 M16 H16
  have E17 := EG H17.out.og.at H17.out.oh.at
  have L17 := H17.out.bg.load rfl
  go_wp2_with (refine list_loadH (t := 32) (x := .pointer (some ⟨w8.heap.size, 0, none⟩)) rfl rfl rfl L17 ?_)
  clear L17
  refine E17.mono ?_
  rintro e w18 ⟨rfl, b18⟩
  have H18 : Hid (HyS W w3.heap.size w4.heap.size W5.heap.size w6.heap.size V.heap.size w7.heap.size w7.heap.size w8.heap.size w4.heap.size w8.heap.size (#[.int .u8 (r'.a.mark : Int), .int .u8 (r'.a.turn : Int), (.slice a1 r'.a.data.length c1), .int .u8 (r'.b.mark : Int), .int .u8 (r'.b.turn : Int), (.slice a2 r'.b.data.length c2)]) (#[.int .u8 (m : Int), .int .u8 (t : Int), (.slice ap xs.length cp), .int .u8 (m' : Int), .int .u8 (t' : Int), (.slice bp ys.length cq)]) (#[.int .u8 (r'.a.mark : Int), .int .u8 (r'.a.turn : Int), (.slice a3 r'.a.data.length c3), .int .u8 (r'.b.mark : Int), .int .u8 (r'.b.turn : Int), (.slice a4 r'.b.data.length c4)]) (.slice a1 r'.a.data.length c1) (.slice a2 r'.b.data.length c2) (.slice ap xs.length cp) (.slice bp ys.length cq) (.slice ae ws.length ce) (.slice a3 r'.a.data.length c3) (.slice a4 r'.b.data.length c4) r'.a.data r'.b.data xs' ys' (marks 1 r'.a.data.length) (marks (1 + r'.a.data.length) r'.b.data.length) ws' w18) := H17.out.below b18
  clear b18 E17 H17
  have L18 := LB w18 H18.out.bW
  go_wp2_with (refine list_loadH (t := 26) (x := .pointer (some ⟨w.heap.size, 0, none⟩)) rfl rfl rfl L18 ?_)
  clear L18
  refine (TR w18 H18.out.bW).mono ?_
  rintro e w19 ⟨ra, rb, rfl, o1, o2, -, b19⟩
  have H19 : Hid (HyS W w3.heap.size w4.heap.size W5.heap.size w6.heap.size V.heap.size w7.heap.size w7.heap.size w8.heap.size w4.heap.size w8.heap.size (#[.int .u8 (r'.a.mark : Int), .int .u8 (r'.a.turn : Int), (.slice a1 r'.a.data.length c1), .int .u8 (r'.b.mark : Int), .int .u8 (r'.b.turn : Int), (.slice a2 r'.b.data.length c2)]) (#[.int .u8 (m : Int), .int .u8 (t : Int), (.slice ap xs.length cp), .int .u8 (m' : Int), .int .u8 (t' : Int), (.slice bp ys.length cq)]) (#[.int .u8 (r'.a.mark : Int), .int .u8 (r'.a.turn : Int), (.slice a3 r'.a.data.length c3), .int .u8 (r'.b.mark : Int), .int .u8 (r'.b.turn : Int), (.slice a4 r'.b.data.length c4)]) (.slice a1 r'.a.data.length c1) (.slice a2 r'.b.data.length c2) (.slice ap xs.length cp) (.slice bp ys.length cq) (.slice ae ws.length ce) (.slice a3 r'.a.data.length c3) (.slice a4 r'.b.data.length c4) r'.a.data r'.b.data xs' ys' (marks 1 r'.a.data.length) (marks (1 + r'.a.data.length) r'.b.data.length) ws' w19 ∧ RomAt (.agg #[.int .u8 (m : Int), .int .u8 (t : Int), ra, .int .u8 (m' : Int), .int .u8 (t' : Int), rb]) r w19) := ⟨H18.out.below b19, RA o1.at o2.at⟩
  obtain ⟨_, _, rfl⟩ := own_size o1
  obtain ⟨_, _, rfl⟩ := own_size o2
  clear o1 o2 b19 H18
  have B19 := TW w19 H19.out.1.bW
  go_wp2_with fail
  refine B19.mono ?_
  rintro e w20 ⟨f20, rfl, o20, b20⟩
  have C20 := PI _ _ w20 (H19.out.2.below b20 (Nat.le_refl _)) o20.at
  have H20 : Hid (HyS W w3.heap.size w4.heap.size W5.heap.size w6.heap.size V.heap.size w7.heap.size w7.heap.size w8.heap.size w4.heap.size w8.heap.size (#[.int .u8 (r'.a.mark : Int), .int .u8 (r'.a.turn : Int), (.slice a1 r'.a.data.length c1), .int .u8 (r'.b.mark : Int), .int .u8 (r'.b.turn : Int), (.slice a2 r'.b.data.length c2)]) (#[.int .u8 (m : Int), .int .u8 (t : Int), (.slice ap xs.length cp), .int .u8 (m' : Int), .int .u8 (t' : Int), (.slice bp ys.length cq)]) (#[.int .u8 (r'.a.mark : Int), .int .u8 (r'.a.turn : Int), (.slice a3 r'.a.data.length c3), .int .u8 (r'.b.mark : Int), .int .u8 (r'.b.turn : Int), (.slice a4 r'.b.data.length c4)]) (.slice a1 r'.a.data.length c1) (.slice a2 r'.b.data.length c2) (.slice ap xs.length cp) (.slice bp ys.length cq) (.slice ae ws.length ce) (.slice a3 r'.a.data.length c3) (.slice a4 r'.b.data.length c4) r'.a.data r'.b.data xs' ys' (marks 1 r'.a.data.length) (marks (1 + r'.a.data.length) r'.b.data.length) ws' w20) := H19.out.1.below b20
  obtain ⟨_, _, rfl⟩ := ownW_size o20
  clear o20 b20 B19 H19
  go_wp2_with fail
  refine C20.mono ?_
  rintro e w21 ⟨h1, h2, rfl, o1, o2, -, b21⟩
  obtain ⟨a5, c5, rfl⟩ := own_size o1
  obtain ⟨a6, c6, rfl⟩ := own_size o2
  obtain ⟨Y, hY⟩ : ∃ Y, Y = w21.alloc (.cells #[.int .u8 (r'.a.mark : Int), .int .u8 (r'.a.turn : Int), (.slice a5 r'.a.data.length c5), .int .u8 (r'.b.mark : Int), .int .u8 (r'.b.turn : Int), (.slice a6 r'.b.data.length c6)] 32) := ⟨_, rfl⟩
  have bY : Below w21.heap.size w21 Y := by rw [hY]; exact (Below.refl w21.heap.size w21).alloc (Nat.le_refl _) _
  have H21 : Hid (HyS W w3.heap.size w4.heap.size W5.heap.size w6.heap.size V.heap.size w7.heap.size w7.heap.size w8.heap.size w4.heap.size w8.heap.size (#[.int .u8 (r'.a.mark : Int), .int .u8 (r'.a.turn : Int), (.slice a1 r'.a.data.length c1), .int .u8 (r'.b.mark : Int), .int .u8 (r'.b.turn : Int), (.slice a2 r'.b.data.length c2)]) (#[.int .u8 (m : Int), .int .u8 (t : Int), (.slice ap xs.length cp), .int .u8 (m' : Int), .int .u8 (t' : Int), (.slice bp ys.length cq)]) (#[.int .u8 (r'.a.mark : Int), .int .u8 (r'.a.turn : Int), (.slice a3 r'.a.data.length c3), .int .u8 (r'.b.mark : Int), .int .u8 (r'.b.turn : Int), (.slice a4 r'.b.data.length c4)]) (.slice a1 r'.a.data.length c1) (.slice a2 r'.b.data.length c2) (.slice ap xs.length cp) (.slice bp ys.length cq) (.slice ae ws.length ce) (.slice a3 r'.a.data.length c3) (.slice a4 r'.b.data.length c4) r'.a.data r'.b.data xs' ys' (marks 1 r'.a.data.length) (marks (1 + r'.a.data.length) r'.b.data.length) ws' Y) := H20.out.below (b21.trans (bY.mono b21.size))
  have E21 := ER' (o1.at.below bY (Nat.le_refl _)) (o2.at.below bY (Nat.le_refl _)) H21.out.o1.at H21.out.o2.at
  have L21 := (show BoxI w21.heap.size (#[.int .u8 (r'.a.mark : Int), .int .u8 (r'.a.turn : Int), (.slice a5 r'.a.data.length c5), .int .u8 (r'.b.mark : Int), .int .u8 (r'.b.turn : Int), (.slice a6 r'.b.data.length c6)]) Y by rw [hY]; exact BoxI.new _ _ _).load rfl
  have K21 := H21.out.b0.load rfl
  rw [hY] at L21 K21
  clear b21 C20 H20 o1 o2 bY
  simp only [romV]
  go_wp2_with (refine list_loadH (t := 32) (x := .pointer (some ⟨w21.heap.size, 0, none⟩)) rfl rfl rfl L21 ?_; refine list_loadH (t := 32) (x := .pointer (some ⟨w4.heap.size, 0, none⟩)) rfl rfl rfl K21 ?_)
  rw [← hY]
  clear hY L21 K21
  refine E21.mono ?_
  rintro e w22 ⟨rfl, b22⟩
  have H22 : Hid (HyS W w3.heap.size w4.heap.size W5.heap.size w6.heap.size V.heap.size w7.heap.size w7.heap.size w8.heap.size w4.heap.size w8.heap.size (#[.int .u8 (r'.a.mark : Int), .int .u8 (r'.a.turn : Int), (.slice a1 r'.a.data.length c1), .int .u8 (r'.b.mark : Int), .int .u8 (r'.b.turn : Int), (.slice a2 r'.b.data.length c2)]) (#[.int .u8 (m : Int), .int .u8 (t : Int), (.slice ap xs.length cp), .int .u8 (m' : Int), .int .u8 (t' : Int), (.slice bp ys.length cq)]) (#[.int .u8 (r'.a.mark : Int), .int .u8 (r'.a.turn : Int), (.slice a3 r'.a.data.length c3), .int .u8 (r'.b.mark : Int), .int .u8 (r'.b.turn : Int), (.slice a4 r'.b.data.length c4)]) (.slice a1 r'.a.data.length c1) (.slice a2 r'.b.data.length c2) (.slice ap xs.length cp) (.slice bp ys.length cq) (.slice ae ws.length ce) (.slice a3 r'.a.data.length c3) (.slice a4 r'.b.data.length c4) r'.a.data r'.b.data xs' ys' (marks 1 r'.a.data.length) (marks (1 + r'.a.data.length) r'.b.data.length) ws' w22) := H21.out.below b22
  clear b22 E21 H21
  have E22 := EG H22.out.og.at H22.out.oh.at
  have L22 := H22.out.bg.load rfl
  go_wp2_with (refine list_loadH (t := 32) (x := .pointer (some ⟨w8.heap.size, 0, none⟩)) rfl rfl rfl L22 ?_)
  clear L22
  refine E22.mono ?_
  rintro e w23 ⟨rfl, b23⟩
  have H23 : Hid (Below W.heap.size W w23) := (H22.out.below b23).bW
  clear b23 E22 H22
  go_wp2_with fail
  go_ret
  exact ⟨rfl, HB.out.1.trans (H23.out.mono HB.out.1.size)⟩

theorem law (m t m' t' : Nat) (a a' : Option Addr) (n c n' c' : Nat) (b : Option Addr) (l k : Nat) (z : Int) (w : World) (hm : m ≤ 255) (ht : t ≤ 255) (hm' : m' ≤ 255) (ht' : t' ≤ 255) (C : CodeAt (.slice a n c) w) (D : CodeAt (.slice a' n' c') w) (hn : n ≤ 9223372036854775807) (hn' : n' ≤ 9223372036854775807) (ws : List Wr) (el : ws.length = l) (F : WrArg (.slice b l k) ws w) (hw : ∀ x ∈ ws, x.byte ≤ 255) (hl : l ≤ 9223372036854775807) :
    Calls Try.prog 4 #[.agg #[.int .u8 (m : Int), .int .u8 (t : Int), .slice a n c, .int .u8 (m' : Int), .int .u8 (t' : Int), .slice a' n' c'], .slice b l k, .int .i64 z] w fun e w' => e = .returned (.bool true) ∧ Below w.heap.size w w' := by
  obtain ⟨xs, A, hx⟩ := code_bytes C
  obtain ⟨ys, B, hy⟩ := code_bytes D
  have lx : xs.length = n := by
    obtain ⟨a, cap, e, -⟩ := A
    simp only [Value.slice.injEq] at e
    omega
  have ly : ys.length = n' := by
    obtain ⟨a, cap, e, -⟩ := B
    simp only [Value.slice.injEq] at e
    omega
  exact law_args m t m' t' _ _ _ xs ys ws z w hm ht hm' ht' hx hy hw A B F (by omega) (by omega) (by omega)

end Go.Proofs.Ytdhoimjkgicneac
