/- At every store and write the program's HoldDo answers as the specification's: the law, walked. -/
import Derived.Test.YtdhoimjkgicneacHelL
import Derived.Test.YtdhoimjkgicneacIntB
import Derived.Test.YtdhoimjkgicneacFolO
import Derived.Deep.CutRange
namespace Go.Proofs.Ytdhoimjkgicneac
open Go Go.RowKit

theorem op_storeH {o : Oper} {a : Act} {w w' : World} {K : Act → World → Prop} {Q : Exit → Act → World → Prop} {t : TypeId} {p y : Operand} (ho : o.op = .store t p y)
    (h : (Instr.storeAt t (a.eval p) (a.eval y)).run Try.prog w = .ok () w') (hK : K (a.put o.dst undef) w') : o.wp Try.prog a w K Q := by
  have e : (execOp a.eval o).run Try.prog w = .ok .skip w' := by
    simp only [execOp, ho, Sem.run_bind, h, Result.andThen, Sem.run_pure]
  unfold Oper.wp
  rw [e]
  exact hK

set_option maxRecDepth 100000 in
set_option maxHeartbeats 12800000 in
theorem law_args (m t m' t' : Nat) (d d' : Value) (xs ys : List Nat) (kd sl : Int) (bt : Nat) (w : World) (hm : m ≤ 255) (ht : t ≤ 255) (hm' : m' ≤ 255) (ht' : t' ≤ 255) (hx : ∀ x ∈ xs, x ≤ 255) (hy : ∀ x ∈ ys, x ≤ 255) (hbt : bt ≤ 255) (h : ByteArg d xs w) (h' : ByteArg d' ys w) (lx : xs.length ≤ 9223372036854775807) (ly : ys.length ≤ 9223372036854775807) :
    Calls Try.prog 3 #[.agg #[.int .u8 (m : Int), .int .u8 (t : Int), d, .int .u8 (m' : Int), .int .u8 (t' : Int), d'], .agg #[.int .i64 kd, .int .i64 sl, .int .u8 (bt : Int)]] w fun e w' => e = .returned (.bool true) ∧ Below w.heap.size w w' := by
  have HA : Hid (ByteArg d xs w ∧ ByteArg d' ys w) := ⟨h, h'⟩
  obtain ⟨ad, cd, rfl, -⟩ := h
  obtain ⟨ad', cd', rfl, -⟩ := h'
  obtain ⟨W, hW⟩ : ∃ W, W = (w.alloc (.cells #[.int .u8 (m : Int), .int .u8 (t : Int), .slice ad xs.length cd, .int .u8 (m' : Int), .int .u8 (t' : Int), .slice ad' ys.length cd'] 26)).alloc (.cells #[.int .i64 kd, .int .i64 sl, .int .u8 (bt : Int)] 28) := ⟨_, rfl⟩
  have b0 : Below w.heap.size w W := by rw [hW]; exact ((Below.refl w.heap.size w).alloc (Nat.le_refl _) _).alloc (by simp) _
  have hz : W.heap.size = w.heap.size + 2 := by rw [hW]; simp
  have LB : ∀ w', Below W.heap.size W w' → (Instr.loadAt 26 (.pointer (some ⟨w.heap.size, 0, none⟩))).run Try.prog w' = .ok (.agg #[.int .u8 (m : Int), .int .u8 (t : Int), .slice ad xs.length cd, .int .u8 (m' : Int), .int .u8 (t' : Int), .slice ad' ys.length cd']) w' := fun w' hw' => load_romL rfl fun k u hu => (hw'.cell (p := ⟨w.heap.size, k, none⟩) (by show w.heap.size < _; omega)).trans (by rw [hW]; exact cell_pastH (by simp) (cell_lastH rfl hu))
  have cw : ∀ k u, #[.int .i64 kd, .int .i64 sl, .int .u8 (bt : Int)][k]? = some u → W.cell? ⟨w.heap.size + 1, k, none⟩ = some u := fun k u hu => by rw [hW]; exact cell_lastH (by simp) hu
  have LW : ∀ w', Below W.heap.size W w' → (Instr.loadAt 28 (.pointer (some ⟨w.heap.size + 1, 0, none⟩))).run Try.prog w' = .ok (.agg #[.int .i64 kd, .int .i64 sl, .int .u8 (bt : Int)]) w' := fun w' hw' => load_writeL (o := 0) ((hw'.cell (p := ⟨w.heap.size + 1, 0, none⟩) (by show w.heap.size + 1 < _; omega)).trans (cw 0 _ rfl)) ((hw'.cell (p := ⟨w.heap.size + 1, 1, none⟩) (by show w.heap.size + 1 < _; omega)).trans (cw 1 _ rfl)) ((hw'.cell (p := ⟨w.heap.size + 1, 2, none⟩) (by show w.heap.size + 1 < _; omega)).trans (cw 2 _ rfl))
  clear cw
  have S := sz_rom m t m' t' ad ad' xs.length cd ys.length cd' 1048576 W lx ly (by omega) (by omega)
  have L0 := LB W (Below.refl _ _)
  rw [hW] at L0
  go_enter Try.func3, Try.ntmps3
  go_wp2_with (refine list_loadH (t := 26) (x := .pointer (some ⟨w.heap.size, 0, none⟩)) rfl rfl rfl L0 ?_)
  rw [← hW]
  clear hW L0
  refine S.mono ?_
  rintro e w1 ⟨⟨z, rfl, hzl⟩, b1⟩
  clear S
  have HB : Hid (Below w.heap.size w W ∧ W.heap.size = w.heap.size + 2) := ⟨b0, hz⟩
  clear b0 hz
  by_cases hneg : z < 0
  · go_wp2_with fail
    go_ret
    exact ⟨rfl, HB.out.1.trans (b1.mono HB.out.1.size)⟩
  have hl := hzl (by omega)
  have TR : ∀ w', Below W.heap.size W w' → Calls Try.prog 13 #[.agg #[.int .u8 (m : Int), .int .u8 (t : Int), .slice ad xs.length cd, .int .u8 (m' : Int), .int .u8 (t' : Int), .slice ad' ys.length cd']] w' fun e w'' => ∃ oa ob, e = .returned (.agg #[.int .u8 (m : Int), .int .u8 (t : Int), oa, .int .u8 (m' : Int), .int .u8 (t' : Int), ob]) ∧ Own w'.heap.size oa xs w'' ∧ Own w'.heap.size ob ys w'' ∧ (∀ g, oa.ownBlock = some g → ob.ownBlock ≠ some g) ∧ Below w'.heap.size w' w'' := fun w' hw' => to_rom m t m' t' _ _ xs ys w' (HA.out.1.below (HB.out.1.trans (hw'.mono HB.out.1.size))) (HA.out.2.below (HB.out.1.trans (hw'.mono HB.out.1.size))) (by omega) (by omega)
  have RA : ∀ {oa ob w'}, BytesAt oa xs w' → BytesAt ob ys w' → RomAt (.agg #[.int .u8 (m : Int), .int .u8 (t : Int), oa, .int .u8 (m' : Int), .int .u8 (t' : Int), ob]) ⟨⟨m, t, xs⟩, ⟨m', t', ys⟩⟩ w' := fun ha hb => rom_at hm ht hm' ht' hx hy (by omega) (by omega) ha hb
  have ER : ∀ {d e d' e' w'}, BytesAt d xs w' → BytesAt e ys w' → BytesAt d' xs w' → BytesAt e' ys w' → Calls Try.prog 16 #[.agg #[.int .u8 (m : Int), .int .u8 (t : Int), d, .int .u8 (m' : Int), .int .u8 (t' : Int), e], .agg #[.int .u8 (m : Int), .int .u8 (t : Int), d', .int .u8 (m' : Int), .int .u8 (t' : Int), e']] w' fun r w'' => r = .returned (.bool true) ∧ Below w'.heap.size w' w'' := fun h1 h2 h3 h4 => eq_rom m t m' t' _ _ _ _ xs ys _ h1 h2 h3 h4 (by omega) (by omega)
  have MR : ∀ {lo hi oa ob w'}, OwnI lo hi oa xs w' → OwnI lo hi ob ys w' → (∀ g, oa.ownBlock = some g → ob.ownBlock ≠ some g) → Calls Try.prog 17 #[.agg #[.int .u8 (m : Int), .int .u8 (t : Int), oa, .int .u8 (m' : Int), .int .u8 (t' : Int), ob], .int .i64 1] w' fun e w'' => ∃ (k : Nat) (xs' ys' : List Nat), e = .returned (.int .i64 (k : Int)) ∧ k ≤ 100000000 ∧ OwnI lo hi oa xs' w'' ∧ OwnI lo hi ob ys' w'' ∧ Touch (within lo hi) w' w'' := fun h1 h2 h3 => (mark_romI _ _ m t m' t' _ _ xs ys 1 _ h1 h2 h3 (by omega) (by omega) (by omega)).mono fun _ _ ⟨h4, h6, h7, h5⟩ => ⟨_, _, _, h4, by omega, h6, h7, h5⟩
  obtain ⟨r, hr⟩ : ∃ r : Ro, r = ⟨⟨m, t, xs⟩, ⟨m', t', ys⟩⟩ := ⟨_, rfl⟩
  rw [← hr] at RA
  have ok : RoOk r := by rw [hr]; exact ⟨hm, ht, ⟨hx, by show xs.length ≤ _; omega⟩, hm', ht', ⟨hy, by show ys.length ≤ _; omega⟩⟩
  have ok' : RoOk (r.write ⟨kd, sl, bt⟩) := ok.write hbt
  have DS : ∀ v w', RomAt v r w' → Calls Try.prog 12 #[v, .agg #[.int .i64 kd, .int .i64 sl, .int .u8 (bt : Int)]] w' fun e w'' => ∃ da db, e = .returned (romV (r.write ⟨kd, sl, bt⟩) da db) ∧ Own w'.heap.size da (r.write ⟨kd, sl, bt⟩).a.data w'' ∧ Own w'.heap.size db (r.write ⟨kd, sl, bt⟩).b.data w'' ∧ True ∧ Below w'.heap.size w' w'' := fun v w' hv => (do_spec v r ⟨kd, sl, bt⟩ w' hv).mono fun _ _ ⟨da, db, h1, h2, h3, h5⟩ => ⟨da, db, h1, h2, h3, trivial, h5⟩
  have DI : ∀ v w', RomAt v r w' → Calls Try.prog 15 #[v, .agg #[.int .i64 kd, .int .i64 sl, .int .u8 (bt : Int)]] w' fun e w'' => ∃ da db, e = .returned (romV (r.write ⟨kd, sl, bt⟩) da db) ∧ Own w'.heap.size da (r.write ⟨kd, sl, bt⟩).a.data w'' ∧ Own w'.heap.size db (r.write ⟨kd, sl, bt⟩).b.data w'' ∧ (∀ k, da.ownBlock = some k → db.ownBlock ≠ some k) ∧ Below w'.heap.size w' w'' := fun v w' hv => (do_sep v r ⟨kd, sl, bt⟩ w' hv hbt).mono fun _ _ ⟨da, db, h1, h2, h3, _, h5, h6⟩ => ⟨da, db, h1, h2, h3, h5, h6⟩
  clear hx hy hzl hl lx ly hr ok hbt
  obtain ⟨r', hr'⟩ : ∃ r', r' = r.write ⟨kd, sl, bt⟩ := ⟨_, rfl⟩
  rw [← hr'] at ok'
  simp only [← hr'] at DS DI
  clear hr'
  have ra1 := ok'.ad.len
  have rb1 := ok'.bd.len
  have ER' : ∀ {d e d' e' w'}, BytesAt d r'.a.data w' → BytesAt e r'.b.data w' → BytesAt d' r'.a.data w' → BytesAt e' r'.b.data w' → Calls Try.prog 16 #[.agg #[.int .u8 (r'.a.mark : Int), .int .u8 (r'.a.turn : Int), d, .int .u8 (r'.b.mark : Int), .int .u8 (r'.b.turn : Int), e], .agg #[.int .u8 (r'.a.mark : Int), .int .u8 (r'.a.turn : Int), d', .int .u8 (r'.b.mark : Int), .int .u8 (r'.b.turn : Int), e']] w' fun r w'' => r = .returned (.bool true) ∧ Below w'.heap.size w' w'' := fun h1 h2 h3 h4 => eq_rom r'.a.mark r'.a.turn r'.b.mark r'.b.turn _ _ _ _ r'.a.data r'.b.data _ h1 h2 h3 h4 (by omega) (by omega)
  obtain ⟨n, hn⟩ : ∃ n : Int, n = ((1 + r'.a.data.length + r'.b.data.length : Nat) : Int) := ⟨_, rfl⟩
  have hn0 : ¬ n < 0 := by omega
  have MG : ∀ {lo hi oa ob w'}, OwnI lo hi oa r'.a.data w' → OwnI lo hi ob r'.b.data w' → (∀ g, oa.ownBlock = some g → ob.ownBlock ≠ some g) → Calls Try.prog 17 #[.agg #[.int .u8 (r'.a.mark : Int), .int .u8 (r'.a.turn : Int), oa, .int .u8 (r'.b.mark : Int), .int .u8 (r'.b.turn : Int), ob], .int .i64 1] w' fun e w'' => e = .returned (.int .i64 n) ∧ OwnI lo hi oa (marks 1 r'.a.data.length) w'' ∧ OwnI lo hi ob (marks (1 + r'.a.data.length) r'.b.data.length) w'' ∧ Touch (within lo hi) w' w'' := fun h1 h2 h3 => by rw [hn]; exact mark_romI _ _ r'.a.mark r'.a.turn r'.b.mark r'.b.turn _ _ r'.a.data r'.b.data 1 _ h1 h2 h3 (by omega) (by omega) (by omega)
  have EG : ∀ {oa ob w'}, BytesAt oa (marks 1 r'.a.data.length) w' → BytesAt ob (marks (1 + r'.a.data.length) r'.b.data.length) w' → Calls Try.prog 18 #[.agg #[.int .u8 (r'.a.mark : Int), .int .u8 (r'.a.turn : Int), oa, .int .u8 (r'.b.mark : Int), .int .u8 (r'.b.turn : Int), ob], .int .i64 1] w' fun e w'' => e = .returned (.int .i64 n) ∧ Below w'.heap.size w' w'' := fun h1 h2 => by rw [hn]; exact held_rom r'.a.mark r'.a.turn r'.b.mark r'.b.turn _ _ r'.a.data.length r'.b.data.length 1 _ h1 h2 (by omega) (by omega) (by omega)
  clear hn ra1 rb1 ok'
  have H1 : Hid (Below W.heap.size W w1) := b1
  clear b1
  go_upto_region 5 with fail
  go_cut [6] from 13 to 22 (fun s wx => ∃ (i0 i1 k c1 c2 : Nat) (a1 a2 : Option Addr), s = .pointer (some ⟨k, 0, none⟩) ∧ BoxI k (#[.int .u8 (r'.a.mark : Int), .int .u8 (r'.a.turn : Int), (.slice a1 r'.a.data.length c1), .int .u8 (r'.b.mark : Int), .int .u8 (r'.b.turn : Int), (.slice a2 r'.b.data.length c2)]) wx ∧ OwnI i0 i1 (.slice a1 r'.a.data.length c1) r'.a.data wx ∧ OwnI i0 i1 (.slice a2 r'.b.data.length c2) r'.b.data wx ∧ (∀ g, Value.ownBlock (.slice a1 r'.a.data.length c1) = some g → Value.ownBlock (.slice a2 r'.b.data.length c2) ≠ some g ∨ True) ∧ Below w1.heap.size w1 wx ∧ (w1.heap.size ≤ i0 ∧ i0 ≤ i1 ∧ i1 ≤ wx.heap.size ∧ w1.heap.size ≤ k ∧ (k < i0 ∨ i1 ≤ k)))
  case first =>
    obtain ⟨u, hu⟩ : ∃ u, u = w1.drew := ⟨_, rfl⟩
    have hW0 : Below W.heap.size W w1 := H1.out
    have hsu : Below w1.heap.size w1 u := by rw [hu]; exact (Below.refl _ _).drew
    refine wp_region_held (S := Below w1.heap.size w1) (by kernel_rfl) ?_
    change wpAnyH _ _ _ _ _ _ _ _ (World.drew _)
    rw [← hu]
    clear hu
    refine held_load (fuel := 6) (i := 0) (t := 26) (v := .agg #[.int .u8 (m : Int), .int .u8 (t : Int), .slice ad xs.length cd, .int .u8 (m' : Int), .int .u8 (t' : Int), .slice ad' ys.length cd']) rfl rfl rfl (by kernel_rfl) (by kernel_rfl) (by kernel_rfl) rfl (fun _ _ _ h => h) (fun w' hw' => LB w' (hW0.trans (hw'.mono hW0.size))) hsu ?_
    go_simp
    refine held_load (fuel := 5) (i := 2) (t := 28) (v := .agg #[.int .i64 kd, .int .i64 sl, .int .u8 (bt : Int)]) rfl rfl rfl (by kernel_rfl) (by kernel_rfl) (by kernel_rfl) rfl (fun _ _ _ h => h) (fun w' hw' => LW w' (hW0.trans (hw'.mono hW0.size))) hsu ?_
    go_simp
    refine wpAnyH_ready (rs := [1, 5]) (by kernel_rfl) (by simp) ?_
    refine AllReadyH.cons rfl (fun K hK => ?_) ?_
    · skip
      go_simp
      refine (TR u (hW0.trans (hsu.mono hW0.size))).mono ?_
      rintro e v0 ⟨oa, ob, rfl, o1, o2, -, bb⟩
      have hsv0 := hsu.trans (bb.mono hsu.size)
      have hRv0 := RA o1.at o2.at
      obtain ⟨_, _, rfl⟩ := own_size o1
      obtain ⟨_, _, rfl⟩ := own_size o2
      clear o1 o2 bb
      refine hK.out _ _ hsv0 (fun _ => ?_)
      clear hK K
      go_simp
      refine wpAnyH_ready (rs := [3, 5]) (by kernel_rfl) (by simp) ?_
      refine AllReadyH.cons rfl (fun K hK => ?_) ?_
      · skip
        go_simp
        refine (to_write kd sl bt v0).mono ?_
        rintro e v1 ⟨rfl, bb⟩
        have hsv1 := hsv0.trans (bb.mono hsv0.size)
        have hRv1 := hRv0.below bb (Nat.le_refl _)
        clear bb
        refine hK.out _ _ hsv1 (fun _ => ?_)
        clear hK K
        go_simp
        refine wpAnyH_ready (rs := [4, 5]) (by kernel_rfl) (by simp) ?_
        refine AllReadyH.cons rfl (fun K hK => ?_) ?_
        · skip
          go_simp
          refine (DS _ v1 hRv1).mono ?_
          rintro e v2 ⟨u1, u2, rfl, o1, o2, s12, bb⟩
          have hsv2 := hsv1.trans (bb.mono hsv1.size)
          obtain ⟨a1, c1, rfl⟩ := own_size o1
          obtain ⟨a2, c2, rfl⟩ := own_size o2
          obtain ⟨j0, hj0⟩ : ∃ j, j = v1.heap.size := ⟨_, rfl⟩
          obtain ⟨j1, hj1⟩ : ∃ j, j = v2.heap.size := ⟨_, rfl⟩
          have HJ : Hid (w1.heap.size ≤ j0 ∧ j0 ≤ j1) := by rw [hj0, hj1]; exact ⟨hsv1.size, bb.size⟩
          have hOv2 : OwnI j0 j1 (.slice a1 r'.a.data.length c1) r'.a.data v2 ∧ OwnI j0 j1 (.slice a2 r'.b.data.length c2) r'.b.data v2 ∧ j1 ≤ v2.heap.size := by rw [hj0, hj1]; exact ⟨OwnI.of o1, OwnI.of o2, Nat.le_refl _⟩
          have HK1 : Hid (v2.heap.size = j1) := hj1.symm
          clear o1 o2 bb hj0 hj1
          refine hK.out _ _ hsv2 (fun _ => ?_)
          clear hK K
          simp only [romV]
          go_simp
          refine wpAnyH_ready (rs := [5]) (by kernel_rfl) (by simp) ?_
          refine AllReadyH.cons rfl (fun K hK => ?_) AllReadyH.nil
          obtain ⟨v3, hv3⟩ : ∃ v, v = v2.alloc (.cells #[.int .u8 0, .int .u8 0, .slice none 0 0, .int .u8 0, .int .u8 0, .slice none 0 0] 32) := ⟨_, rfl⟩
          have bb : Below v2.heap.size v2 v3 := by rw [hv3]; exact (Below.refl _ _).alloc (Nat.le_refl _) _
          have hsv3 := hsv2.trans (bb.mono hsv2.size)
          have hZ' : NewBox v2.heap.size v3 := by rw [hv3]; exact NewBox.new _
          go_simp
          rw [← hv3]
          clear hv3
          have HKs : Hid (w1.heap.size ≤ v2.heap.size) := hsv2.size
          have HK' : Hid (v2.heap.size < j0 ∨ j1 ≤ v2.heap.size) := Or.inr (by rw [← HK1.out]; exact Nat.le_refl _)
          obtain ⟨k, hk⟩ : ∃ k, k = v2.heap.size := ⟨_, rfl⟩
          rw [← hk] at hZ' HKs HK' ⊢
          have hOv3 : OwnI j0 j1 (.slice a1 r'.a.data.length c1) r'.a.data v3 ∧ OwnI j0 j1 (.slice a2 r'.b.data.length c2) r'.b.data v3 ∧ j1 ≤ v3.heap.size := ⟨hOv2.1.below bb hOv2.2.2, hOv2.2.1.below bb hOv2.2.2, Nat.le_trans hOv2.2.2 bb.size⟩
          have hZv3 : NewBox k v3 := hZ'
          have HK : Hid (k < j0 ∨ j1 ≤ k) := HK'.out
          clear HK' HK1
          clear bb hZ' hk
          refine hK.out _ _ hsv3 (fun _ => ?_)
          clear hK K
          try go_simp
          refine wpAnyH_ready (rs := [6]) (by kernel_rfl) (by simp) ?_
          refine AllReadyH.cons rfl (fun K hK => ?_) AllReadyH.nil
          obtain ⟨v4, hst, hbx, htx⟩ := hZv3.store r' a1 a2 r'.a.data.length c1 r'.b.data.length c2
          have hjk := HKs.out
          have hks := hZv3.1.z
          have bb : Below w1.heap.size v3 v4 := htx.low hsv3.size hjk
          have hsv4 := hsv3.trans bb
          rw [if_pos (by rfl)]
          refine op_storeH rfl hst ?_
          refine hK.out _ _ hsv4 (fun _ => ?_)
          clear hK K
          go_simp
          refine wpAnyH_done (by kernel_rfl) ?_ _
          go_wp2_with fail
          go_meet
          case rel =>
            have hx := HK.out
            have hj := HJ.out
            have hz := htx.size
            have h12 := hOv3.2.2
            exact ⟨j0, j1, k, c1, c2, a1, a2, rfl, hbx, hOv3.1.far htx (by omega), hOv3.2.1.far htx (by omega), fun g hg => Or.inr trivial, hsv4, hj.1, hj.2, by omega, hjk, hx⟩
        refine AllReadyH.cons rfl (fun K hK => ?_) AllReadyH.nil
        obtain ⟨v5, hv5⟩ : ∃ v, v = v1.alloc (.cells #[.int .u8 0, .int .u8 0, .slice none 0 0, .int .u8 0, .int .u8 0, .slice none 0 0] 32) := ⟨_, rfl⟩
        have bb : Below v1.heap.size v1 v5 := by rw [hv5]; exact (Below.refl _ _).alloc (Nat.le_refl _) _
        have hsv5 := hsv1.trans (bb.mono hsv1.size)
        have hZ' : NewBox v1.heap.size v5 := by rw [hv5]; exact NewBox.new _
        go_simp
        rw [← hv5]
        clear hv5
        have HKs : Hid (w1.heap.size ≤ v1.heap.size) := hsv1.size
        obtain ⟨k, hk⟩ : ∃ k, k = v1.heap.size := ⟨_, rfl⟩
        rw [← hk] at hZ' HKs ⊢
        have hRv5 := hRv1.below bb (Nat.le_refl _)
        have hZv5 : NewBox k v5 := hZ'
        clear bb hZ' hk
        refine hK.out _ _ hsv5 (fun _ => ?_)
        clear hK K
        try go_simp
        refine wpAnyH_ready (rs := [4]) (by kernel_rfl) (by simp) ?_
        refine AllReadyH.cons rfl (fun K hK => ?_) AllReadyH.nil
        go_simp
        refine (DS _ v5 hRv5).mono ?_
        rintro e v6 ⟨u1, u2, rfl, o1, o2, s12, bb⟩
        have hsv6 := hsv5.trans (bb.mono hsv5.size)
        obtain ⟨a1, c1, rfl⟩ := own_size o1
        obtain ⟨a2, c2, rfl⟩ := own_size o2
        obtain ⟨j0, hj0⟩ : ∃ j, j = v5.heap.size := ⟨_, rfl⟩
        obtain ⟨j1, hj1⟩ : ∃ j, j = v6.heap.size := ⟨_, rfl⟩
        have HJ : Hid (w1.heap.size ≤ j0 ∧ j0 ≤ j1) := by rw [hj0, hj1]; exact ⟨hsv5.size, bb.size⟩
        have hOv6 : OwnI j0 j1 (.slice a1 r'.a.data.length c1) r'.a.data v6 ∧ OwnI j0 j1 (.slice a2 r'.b.data.length c2) r'.b.data v6 ∧ j1 ≤ v6.heap.size := by rw [hj0, hj1]; exact ⟨OwnI.of o1, OwnI.of o2, Nat.le_refl _⟩
        have HK : Hid (k < j0 ∨ j1 ≤ k) := Or.inl (by rw [hj0]; exact hZv5.1.z)
        have hZv6 : NewBox k v6 := hZv5.below bb
        clear o1 o2 bb hj0 hj1
        refine hK.out _ _ hsv6 (fun _ => ?_)
        clear hK K
        simp only [romV]
        go_simp
        refine wpAnyH_ready (rs := [6]) (by kernel_rfl) (by simp) ?_
        refine AllReadyH.cons rfl (fun K hK => ?_) AllReadyH.nil
        obtain ⟨v7, hst, hbx, htx⟩ := hZv6.store r' a1 a2 r'.a.data.length c1 r'.b.data.length c2
        have hjk := HKs.out
        have hks := hZv6.1.z
        have bb : Below w1.heap.size v6 v7 := htx.low hsv6.size hjk
        have hsv7 := hsv6.trans bb
        rw [if_pos (by rfl)]
        refine op_storeH rfl hst ?_
        refine hK.out _ _ hsv7 (fun _ => ?_)
        clear hK K
        go_simp
        refine wpAnyH_done (by kernel_rfl) ?_ _
        go_wp2_with fail
        go_meet
        case rel =>
          have hx := HK.out
          have hj := HJ.out
          have hz := htx.size
          have h12 := hOv6.2.2
          exact ⟨j0, j1, k, c1, c2, a1, a2, rfl, hbx, hOv6.1.far htx (by omega), hOv6.2.1.far htx (by omega), fun g hg => Or.inr trivial, hsv7, hj.1, hj.2, by omega, hjk, hx⟩
      refine AllReadyH.cons rfl (fun K hK => ?_) AllReadyH.nil
      obtain ⟨v8, hv8⟩ : ∃ v, v = v0.alloc (.cells #[.int .u8 0, .int .u8 0, .slice none 0 0, .int .u8 0, .int .u8 0, .slice none 0 0] 32) := ⟨_, rfl⟩
      have bb : Below v0.heap.size v0 v8 := by rw [hv8]; exact (Below.refl _ _).alloc (Nat.le_refl _) _
      have hsv8 := hsv0.trans (bb.mono hsv0.size)
      have hZ' : NewBox v0.heap.size v8 := by rw [hv8]; exact NewBox.new _
      go_simp
      rw [← hv8]
      clear hv8
      have HKs : Hid (w1.heap.size ≤ v0.heap.size) := hsv0.size
      obtain ⟨k, hk⟩ : ∃ k, k = v0.heap.size := ⟨_, rfl⟩
      rw [← hk] at hZ' HKs ⊢
      have hRv8 := hRv0.below bb (Nat.le_refl _)
      have hZv8 : NewBox k v8 := hZ'
      clear bb hZ' hk
      refine hK.out _ _ hsv8 (fun _ => ?_)
      clear hK K
      try go_simp
      refine wpAnyH_ready (rs := [3]) (by kernel_rfl) (by simp) ?_
      refine AllReadyH.cons rfl (fun K hK => ?_) AllReadyH.nil
      go_simp
      refine (to_write kd sl bt v8).mono ?_
      rintro e v9 ⟨rfl, bb⟩
      have hsv9 := hsv8.trans (bb.mono hsv8.size)
      have hRv9 := hRv8.below bb (Nat.le_refl _)
      have hZv9 : NewBox k v9 := hZv8.below bb
      clear bb
      refine hK.out _ _ hsv9 (fun _ => ?_)
      clear hK K
      go_simp
      refine wpAnyH_ready (rs := [4]) (by kernel_rfl) (by simp) ?_
      refine AllReadyH.cons rfl (fun K hK => ?_) AllReadyH.nil
      go_simp
      refine (DS _ v9 hRv9).mono ?_
      rintro e v10 ⟨u1, u2, rfl, o1, o2, s12, bb⟩
      have hsv10 := hsv9.trans (bb.mono hsv9.size)
      obtain ⟨a1, c1, rfl⟩ := own_size o1
      obtain ⟨a2, c2, rfl⟩ := own_size o2
      obtain ⟨j0, hj0⟩ : ∃ j, j = v9.heap.size := ⟨_, rfl⟩
      obtain ⟨j1, hj1⟩ : ∃ j, j = v10.heap.size := ⟨_, rfl⟩
      have HJ : Hid (w1.heap.size ≤ j0 ∧ j0 ≤ j1) := by rw [hj0, hj1]; exact ⟨hsv9.size, bb.size⟩
      have hOv10 : OwnI j0 j1 (.slice a1 r'.a.data.length c1) r'.a.data v10 ∧ OwnI j0 j1 (.slice a2 r'.b.data.length c2) r'.b.data v10 ∧ j1 ≤ v10.heap.size := by rw [hj0, hj1]; exact ⟨OwnI.of o1, OwnI.of o2, Nat.le_refl _⟩
      have HK : Hid (k < j0 ∨ j1 ≤ k) := Or.inl (by rw [hj0]; exact hZv9.1.z)
      have hZv10 : NewBox k v10 := hZv9.below bb
      clear o1 o2 bb hj0 hj1
      refine hK.out _ _ hsv10 (fun _ => ?_)
      clear hK K
      simp only [romV]
      go_simp
      refine wpAnyH_ready (rs := [6]) (by kernel_rfl) (by simp) ?_
      refine AllReadyH.cons rfl (fun K hK => ?_) AllReadyH.nil
      obtain ⟨v11, hst, hbx, htx⟩ := hZv10.store r' a1 a2 r'.a.data.length c1 r'.b.data.length c2
      have hjk := HKs.out
      have hks := hZv10.1.z
      have bb : Below w1.heap.size v10 v11 := htx.low hsv10.size hjk
      have hsv11 := hsv10.trans bb
      rw [if_pos (by rfl)]
      refine op_storeH rfl hst ?_
      refine hK.out _ _ hsv11 (fun _ => ?_)
      clear hK K
      go_simp
      refine wpAnyH_done (by kernel_rfl) ?_ _
      go_wp2_with fail
      go_meet
      case rel =>
        have hx := HK.out
        have hj := HJ.out
        have hz := htx.size
        have h12 := hOv10.2.2
        exact ⟨j0, j1, k, c1, c2, a1, a2, rfl, hbx, hOv10.1.far htx (by omega), hOv10.2.1.far htx (by omega), fun g hg => Or.inr trivial, hsv11, hj.1, hj.2, by omega, hjk, hx⟩
    refine AllReadyH.cons rfl (fun K hK => ?_) AllReadyH.nil
    obtain ⟨v12, hv12⟩ : ∃ v, v = u.alloc (.cells #[.int .u8 0, .int .u8 0, .slice none 0 0, .int .u8 0, .int .u8 0, .slice none 0 0] 32) := ⟨_, rfl⟩
    have bb : Below u.heap.size u v12 := by rw [hv12]; exact (Below.refl _ _).alloc (Nat.le_refl _) _
    have hsv12 := hsu.trans (bb.mono hsu.size)
    have hZ' : NewBox u.heap.size v12 := by rw [hv12]; exact NewBox.new _
    go_simp
    rw [← hv12]
    clear hv12
    have HKs : Hid (w1.heap.size ≤ u.heap.size) := hsu.size
    obtain ⟨k, hk⟩ : ∃ k, k = u.heap.size := ⟨_, rfl⟩
    rw [← hk] at hZ' HKs ⊢
    have hZv12 : NewBox k v12 := hZ'
    clear bb hZ' hk
    refine hK.out _ _ hsv12 (fun _ => ?_)
    clear hK K
    try go_simp
    refine wpAnyH_ready (rs := [1]) (by kernel_rfl) (by simp) ?_
    refine AllReadyH.cons rfl (fun K hK => ?_) AllReadyH.nil
    go_simp
    refine (TR v12 (hW0.trans (hsv12.mono hW0.size))).mono ?_
    rintro e v13 ⟨oa, ob, rfl, o1, o2, -, bb⟩
    have hsv13 := hsv12.trans (bb.mono hsv12.size)
    have hRv13 := RA o1.at o2.at
    obtain ⟨_, _, rfl⟩ := own_size o1
    obtain ⟨_, _, rfl⟩ := own_size o2
    have hZv13 : NewBox k v13 := hZv12.below bb
    clear o1 o2 bb
    refine hK.out _ _ hsv13 (fun _ => ?_)
    clear hK K
    go_simp
    refine wpAnyH_ready (rs := [3]) (by kernel_rfl) (by simp) ?_
    refine AllReadyH.cons rfl (fun K hK => ?_) AllReadyH.nil
    go_simp
    refine (to_write kd sl bt v13).mono ?_
    rintro e v14 ⟨rfl, bb⟩
    have hsv14 := hsv13.trans (bb.mono hsv13.size)
    have hRv14 := hRv13.below bb (Nat.le_refl _)
    have hZv14 : NewBox k v14 := hZv13.below bb
    clear bb
    refine hK.out _ _ hsv14 (fun _ => ?_)
    clear hK K
    go_simp
    refine wpAnyH_ready (rs := [4]) (by kernel_rfl) (by simp) ?_
    refine AllReadyH.cons rfl (fun K hK => ?_) AllReadyH.nil
    go_simp
    refine (DS _ v14 hRv14).mono ?_
    rintro e v15 ⟨u1, u2, rfl, o1, o2, s12, bb⟩
    have hsv15 := hsv14.trans (bb.mono hsv14.size)
    obtain ⟨a1, c1, rfl⟩ := own_size o1
    obtain ⟨a2, c2, rfl⟩ := own_size o2
    obtain ⟨j0, hj0⟩ : ∃ j, j = v14.heap.size := ⟨_, rfl⟩
    obtain ⟨j1, hj1⟩ : ∃ j, j = v15.heap.size := ⟨_, rfl⟩
    have HJ : Hid (w1.heap.size ≤ j0 ∧ j0 ≤ j1) := by rw [hj0, hj1]; exact ⟨hsv14.size, bb.size⟩
    have hOv15 : OwnI j0 j1 (.slice a1 r'.a.data.length c1) r'.a.data v15 ∧ OwnI j0 j1 (.slice a2 r'.b.data.length c2) r'.b.data v15 ∧ j1 ≤ v15.heap.size := by rw [hj0, hj1]; exact ⟨OwnI.of o1, OwnI.of o2, Nat.le_refl _⟩
    have HK : Hid (k < j0 ∨ j1 ≤ k) := Or.inl (by rw [hj0]; exact hZv14.1.z)
    have hZv15 : NewBox k v15 := hZv14.below bb
    clear o1 o2 bb hj0 hj1
    refine hK.out _ _ hsv15 (fun _ => ?_)
    clear hK K
    simp only [romV]
    go_simp
    refine wpAnyH_ready (rs := [6]) (by kernel_rfl) (by simp) ?_
    refine AllReadyH.cons rfl (fun K hK => ?_) AllReadyH.nil
    obtain ⟨v16, hst, hbx, htx⟩ := hZv15.store r' a1 a2 r'.a.data.length c1 r'.b.data.length c2
    have hjk := HKs.out
    have hks := hZv15.1.z
    have bb : Below w1.heap.size v15 v16 := htx.low hsv15.size hjk
    have hsv16 := hsv15.trans bb
    rw [if_pos (by rfl)]
    refine op_storeH rfl hst ?_
    refine hK.out _ _ hsv16 (fun _ => ?_)
    clear hK K
    go_simp
    refine wpAnyH_done (by kernel_rfl) ?_ _
    go_wp2_with fail
    go_meet
    case rel =>
      have hx := HK.out
      have hj := HJ.out
      have hz := htx.size
      have h12 := hOv15.2.2
      exact ⟨j0, j1, k, c1, c2, a1, a2, rfl, hbx, hOv15.1.far htx (by omega), hOv15.2.1.far htx (by omega), fun g hg => Or.inr trivial, hsv16, hj.1, hj.2, by omega, hjk, hx⟩
  case rest =>
  obtain ⟨i0, i1, k0, c1, c2, a1, a2, rfl, bx0, o1, o2, -, bc, le0⟩ := hcut
  obtain ⟨w4, rfl⟩ : ∃ v, v = wc := ⟨_, rfl⟩
  have H4 : Hid (Below W.heap.size W w4 ∧ BoxI k0 (#[.int .u8 (r'.a.mark : Int), .int .u8 (r'.a.turn : Int), (.slice a1 r'.a.data.length c1), .int .u8 (r'.b.mark : Int), .int .u8 (r'.b.turn : Int), (.slice a2 r'.b.data.length c2)]) w4 ∧ OwnI i0 i1 (.slice a1 r'.a.data.length c1) r'.a.data w4 ∧ OwnI i0 i1 (.slice a2 r'.b.data.length c2) r'.b.data w4 ∧ (W.heap.size ≤ i0 ∧ i0 ≤ i1 ∧ i1 ≤ w4.heap.size)) := ⟨H1.out.trans (bc.mono H1.out.size), bx0, o1, o2, by have := H1.out.size; omega⟩
  clear bx0 o1 o2 bc le0 H1
  have L4 := LB w4 H4.out.1
  go_wp2_with (refine list_loadH (t := 26) (x := .pointer (some ⟨w.heap.size, 0, none⟩)) rfl rfl rfl L4 ?_)
  clear L4
  refine (TR w4 H4.out.1).mono ?_
  rintro e w6 ⟨pa, pb, rfl, o1, o2, s12, b6⟩
  obtain ⟨ap, cp, rfl⟩ := own_size o1
  obtain ⟨bp, cq, rfl⟩ := own_size o2
  obtain ⟨V, hV⟩ : ∃ V, V = w6.alloc (.cells #[.int .u8 (m : Int), .int .u8 (t : Int), (.slice ap xs.length cp), .int .u8 (m' : Int), .int .u8 (t' : Int), (.slice bp ys.length cq)] 32) := ⟨_, rfl⟩
  have bV : Below w6.heap.size w6 V := by rw [hV]; exact (Below.refl w6.heap.size w6).alloc (Nat.le_refl _) _
  have H6 : Hid (Below W.heap.size W V ∧ BoxI k0 (#[.int .u8 (r'.a.mark : Int), .int .u8 (r'.a.turn : Int), (.slice a1 r'.a.data.length c1), .int .u8 (r'.b.mark : Int), .int .u8 (r'.b.turn : Int), (.slice a2 r'.b.data.length c2)]) V ∧ OwnI i0 i1 (.slice a1 r'.a.data.length c1) r'.a.data V ∧ OwnI i0 i1 (.slice a2 r'.b.data.length c2) r'.b.data V ∧ OwnI w4.heap.size w6.heap.size (.slice ap xs.length cp) xs V ∧ OwnI w4.heap.size w6.heap.size (.slice bp ys.length cq) ys V ∧ BoxI w6.heap.size (#[.int .u8 (m : Int), .int .u8 (t : Int), (.slice ap xs.length cp), .int .u8 (m' : Int), .int .u8 (t' : Int), (.slice bp ys.length cq)]) V ∧ (W.heap.size ≤ i0 ∧ i0 ≤ i1 ∧ i1 ≤ w4.heap.size ∧ k0 < w4.heap.size ∧ w4.heap.size ≤ w6.heap.size ∧ w6.heap.size + 1 = V.heap.size)) := by
    obtain ⟨h1, h2, h3, h4, h5⟩ := H4.out
    have bb := b6.trans (bV.mono b6.size)
    exact ⟨h1.trans (bb.mono h1.size), h2.below bb, h3.below bb (by omega), h4.below bb (by omega), (OwnI.of o1).below bV (Nat.le_refl _), (OwnI.of o2).below bV (Nat.le_refl _), by rw [hV]; exact BoxI.new _ _ _, h5.1, h5.2.1, h5.2.2, h2.1, b6.size, by rw [hV]; simp⟩
  have S12 : Hid (∀ g, Value.ownBlock (.slice ap xs.length cp) = some g → Value.ownBlock (.slice bp ys.length cq) ≠ some g) := s12
  clear o1 o2 b6 H4 bV s12
  go_upto_region 7 with fail
  rw [← hV]
  clear hV
  go_cut [8] from 13 to 28 (fun s wx => ∃ (i0 i1 k c1 c2 : Nat) (a1 a2 : Option Addr), s = .pointer (some ⟨k, 0, none⟩) ∧ BoxI k (#[.int .u8 (r'.a.mark : Int), .int .u8 (r'.a.turn : Int), (.slice a1 r'.a.data.length c1), .int .u8 (r'.b.mark : Int), .int .u8 (r'.b.turn : Int), (.slice a2 r'.b.data.length c2)]) wx ∧ OwnI i0 i1 (.slice a1 r'.a.data.length c1) r'.a.data wx ∧ OwnI i0 i1 (.slice a2 r'.b.data.length c2) r'.b.data wx ∧ (∀ g, Value.ownBlock (.slice a1 r'.a.data.length c1) = some g → Value.ownBlock (.slice a2 r'.b.data.length c2) ≠ some g ∨ False) ∧ Below V.heap.size V wx ∧ (V.heap.size ≤ i0 ∧ i0 ≤ i1 ∧ i1 ≤ wx.heap.size ∧ V.heap.size ≤ k ∧ (k < i0 ∨ i1 ≤ k)))
  case first =>
    obtain ⟨u, hu⟩ : ∃ u, u = V.drew := ⟨_, rfl⟩
    have hW0 : Below W.heap.size W V := H6.out.1
    have hsu : Below V.heap.size V u := by rw [hu]; exact (Below.refl _ _).drew
    refine wp_region_held (S := Below V.heap.size V) (by kernel_rfl) ?_
    change wpAnyH _ _ _ _ _ _ _ _ (World.drew _)
    rw [← hu]
    clear hu
    have hRu := RA (H6.out.2.2.2.2.1.below hsu (by have := H6.out.2.2.2.2.2.2.2; omega)).at (H6.out.2.2.2.2.2.1.below hsu (by have := H6.out.2.2.2.2.2.2.2; omega)).at
    refine held_load (fuel := 5) (i := 0) (t := 32) (v := .agg (#[.int .u8 (m : Int), .int .u8 (t : Int), (.slice ap xs.length cp), .int .u8 (m' : Int), .int .u8 (t' : Int), (.slice bp ys.length cq)])) rfl rfl rfl (by kernel_rfl) (by kernel_rfl) (by kernel_rfl) rfl (fun _ _ _ h => h) (fun w' hw' => (H6.out.2.2.2.2.2.2.1.below hw').load rfl) hsu ?_
    go_simp
    refine held_load (fuel := 4) (i := 1) (t := 28) (v := .agg #[.int .i64 kd, .int .i64 sl, .int .u8 (bt : Int)]) rfl rfl rfl (by kernel_rfl) (by kernel_rfl) (by kernel_rfl) rfl (fun _ _ _ h => h) (fun w' hw' => LW w' (hW0.trans (hw'.mono hW0.size))) hsu ?_
    go_simp
    refine wpAnyH_ready (rs := [2, 4]) (by kernel_rfl) (by simp) ?_
    refine AllReadyH.cons rfl (fun K hK => ?_) ?_
    · skip
      go_simp
      refine (to_write kd sl bt u).mono ?_
      rintro e v17 ⟨rfl, bb⟩
      have hsv17 := hsu.trans (bb.mono hsu.size)
      have hRv17 := hRu.below bb (Nat.le_refl _)
      clear bb
      refine hK.out _ _ hsv17 (fun _ => ?_)
      clear hK K
      go_simp
      refine wpAnyH_ready (rs := [3, 4]) (by kernel_rfl) (by simp) ?_
      refine AllReadyH.cons rfl (fun K hK => ?_) ?_
      · skip
        go_simp
        refine (DI _ v17 hRv17).mono ?_
        rintro e v18 ⟨u1, u2, rfl, o1, o2, s12, bb⟩
        have hsv18 := hsv17.trans (bb.mono hsv17.size)
        obtain ⟨a1, c1, rfl⟩ := own_size o1
        obtain ⟨a2, c2, rfl⟩ := own_size o2
        obtain ⟨j0, hj0⟩ : ∃ j, j = v17.heap.size := ⟨_, rfl⟩
        obtain ⟨j1, hj1⟩ : ∃ j, j = v18.heap.size := ⟨_, rfl⟩
        have HJ : Hid (V.heap.size ≤ j0 ∧ j0 ≤ j1) := by rw [hj0, hj1]; exact ⟨hsv17.size, bb.size⟩
        have hOv18 : OwnI j0 j1 (.slice a1 r'.a.data.length c1) r'.a.data v18 ∧ OwnI j0 j1 (.slice a2 r'.b.data.length c2) r'.b.data v18 ∧ j1 ≤ v18.heap.size := by rw [hj0, hj1]; exact ⟨OwnI.of o1, OwnI.of o2, Nat.le_refl _⟩
        have HK1 : Hid (v18.heap.size = j1) := hj1.symm
        clear o1 o2 bb hj0 hj1
        refine hK.out _ _ hsv18 (fun _ => ?_)
        clear hK K
        simp only [romV]
        go_simp
        refine wpAnyH_ready (rs := [4]) (by kernel_rfl) (by simp) ?_
        refine AllReadyH.cons rfl (fun K hK => ?_) AllReadyH.nil
        obtain ⟨v19, hv19⟩ : ∃ v, v = v18.alloc (.cells #[.int .u8 0, .int .u8 0, .slice none 0 0, .int .u8 0, .int .u8 0, .slice none 0 0] 32) := ⟨_, rfl⟩
        have bb : Below v18.heap.size v18 v19 := by rw [hv19]; exact (Below.refl _ _).alloc (Nat.le_refl _) _
        have hsv19 := hsv18.trans (bb.mono hsv18.size)
        have hZ' : NewBox v18.heap.size v19 := by rw [hv19]; exact NewBox.new _
        go_simp
        rw [← hv19]
        clear hv19
        have HKs : Hid (V.heap.size ≤ v18.heap.size) := hsv18.size
        have HK' : Hid (v18.heap.size < j0 ∨ j1 ≤ v18.heap.size) := Or.inr (by rw [← HK1.out]; exact Nat.le_refl _)
        obtain ⟨k, hk⟩ : ∃ k, k = v18.heap.size := ⟨_, rfl⟩
        rw [← hk] at hZ' HKs HK' ⊢
        have hOv19 : OwnI j0 j1 (.slice a1 r'.a.data.length c1) r'.a.data v19 ∧ OwnI j0 j1 (.slice a2 r'.b.data.length c2) r'.b.data v19 ∧ j1 ≤ v19.heap.size := ⟨hOv18.1.below bb hOv18.2.2, hOv18.2.1.below bb hOv18.2.2, Nat.le_trans hOv18.2.2 bb.size⟩
        have hZv19 : NewBox k v19 := hZ'
        have HK : Hid (k < j0 ∨ j1 ≤ k) := HK'.out
        clear HK' HK1
        clear bb hZ' hk
        refine hK.out _ _ hsv19 (fun _ => ?_)
        clear hK K
        try go_simp
        refine wpAnyH_ready (rs := [5]) (by kernel_rfl) (by simp) ?_
        refine AllReadyH.cons rfl (fun K hK => ?_) AllReadyH.nil
        obtain ⟨v20, hst, hbx, htx⟩ := hZv19.store r' a1 a2 r'.a.data.length c1 r'.b.data.length c2
        have hjk := HKs.out
        have hks := hZv19.1.z
        have bb : Below V.heap.size v19 v20 := htx.low hsv19.size hjk
        have hsv20 := hsv19.trans bb
        rw [if_pos (by rfl)]
        refine op_storeH rfl hst ?_
        refine hK.out _ _ hsv20 (fun _ => ?_)
        clear hK K
        go_simp
        refine wpAnyH_done (by kernel_rfl) ?_ _
        go_wp2_with fail
        go_meet
        case rel =>
          have hx := HK.out
          have hj := HJ.out
          have hz := htx.size
          have h12 := hOv19.2.2
          exact ⟨j0, j1, k, c1, c2, a1, a2, rfl, hbx, hOv19.1.far htx (by omega), hOv19.2.1.far htx (by omega), fun g hg => Or.inl (s12 g hg), hsv20, hj.1, hj.2, by omega, hjk, hx⟩
      refine AllReadyH.cons rfl (fun K hK => ?_) AllReadyH.nil
      obtain ⟨v21, hv21⟩ : ∃ v, v = v17.alloc (.cells #[.int .u8 0, .int .u8 0, .slice none 0 0, .int .u8 0, .int .u8 0, .slice none 0 0] 32) := ⟨_, rfl⟩
      have bb : Below v17.heap.size v17 v21 := by rw [hv21]; exact (Below.refl _ _).alloc (Nat.le_refl _) _
      have hsv21 := hsv17.trans (bb.mono hsv17.size)
      have hZ' : NewBox v17.heap.size v21 := by rw [hv21]; exact NewBox.new _
      go_simp
      rw [← hv21]
      clear hv21
      have HKs : Hid (V.heap.size ≤ v17.heap.size) := hsv17.size
      obtain ⟨k, hk⟩ : ∃ k, k = v17.heap.size := ⟨_, rfl⟩
      rw [← hk] at hZ' HKs ⊢
      have hRv21 := hRv17.below bb (Nat.le_refl _)
      have hZv21 : NewBox k v21 := hZ'
      clear bb hZ' hk
      refine hK.out _ _ hsv21 (fun _ => ?_)
      clear hK K
      try go_simp
      refine wpAnyH_ready (rs := [3]) (by kernel_rfl) (by simp) ?_
      refine AllReadyH.cons rfl (fun K hK => ?_) AllReadyH.nil
      go_simp
      refine (DI _ v21 hRv21).mono ?_
      rintro e v22 ⟨u1, u2, rfl, o1, o2, s12, bb⟩
      have hsv22 := hsv21.trans (bb.mono hsv21.size)
      obtain ⟨a1, c1, rfl⟩ := own_size o1
      obtain ⟨a2, c2, rfl⟩ := own_size o2
      obtain ⟨j0, hj0⟩ : ∃ j, j = v21.heap.size := ⟨_, rfl⟩
      obtain ⟨j1, hj1⟩ : ∃ j, j = v22.heap.size := ⟨_, rfl⟩
      have HJ : Hid (V.heap.size ≤ j0 ∧ j0 ≤ j1) := by rw [hj0, hj1]; exact ⟨hsv21.size, bb.size⟩
      have hOv22 : OwnI j0 j1 (.slice a1 r'.a.data.length c1) r'.a.data v22 ∧ OwnI j0 j1 (.slice a2 r'.b.data.length c2) r'.b.data v22 ∧ j1 ≤ v22.heap.size := by rw [hj0, hj1]; exact ⟨OwnI.of o1, OwnI.of o2, Nat.le_refl _⟩
      have HK : Hid (k < j0 ∨ j1 ≤ k) := Or.inl (by rw [hj0]; exact hZv21.1.z)
      have hZv22 : NewBox k v22 := hZv21.below bb
      clear o1 o2 bb hj0 hj1
      refine hK.out _ _ hsv22 (fun _ => ?_)
      clear hK K
      simp only [romV]
      go_simp
      refine wpAnyH_ready (rs := [5]) (by kernel_rfl) (by simp) ?_
      refine AllReadyH.cons rfl (fun K hK => ?_) AllReadyH.nil
      obtain ⟨v23, hst, hbx, htx⟩ := hZv22.store r' a1 a2 r'.a.data.length c1 r'.b.data.length c2
      have hjk := HKs.out
      have hks := hZv22.1.z
      have bb : Below V.heap.size v22 v23 := htx.low hsv22.size hjk
      have hsv23 := hsv22.trans bb
      rw [if_pos (by rfl)]
      refine op_storeH rfl hst ?_
      refine hK.out _ _ hsv23 (fun _ => ?_)
      clear hK K
      go_simp
      refine wpAnyH_done (by kernel_rfl) ?_ _
      go_wp2_with fail
      go_meet
      case rel =>
        have hx := HK.out
        have hj := HJ.out
        have hz := htx.size
        have h12 := hOv22.2.2
        exact ⟨j0, j1, k, c1, c2, a1, a2, rfl, hbx, hOv22.1.far htx (by omega), hOv22.2.1.far htx (by omega), fun g hg => Or.inl (s12 g hg), hsv23, hj.1, hj.2, by omega, hjk, hx⟩
    refine AllReadyH.cons rfl (fun K hK => ?_) AllReadyH.nil
    obtain ⟨v24, hv24⟩ : ∃ v, v = u.alloc (.cells #[.int .u8 0, .int .u8 0, .slice none 0 0, .int .u8 0, .int .u8 0, .slice none 0 0] 32) := ⟨_, rfl⟩
    have bb : Below u.heap.size u v24 := by rw [hv24]; exact (Below.refl _ _).alloc (Nat.le_refl _) _
    have hsv24 := hsu.trans (bb.mono hsu.size)
    have hZ' : NewBox u.heap.size v24 := by rw [hv24]; exact NewBox.new _
    go_simp
    rw [← hv24]
    clear hv24
    have HKs : Hid (V.heap.size ≤ u.heap.size) := hsu.size
    obtain ⟨k, hk⟩ : ∃ k, k = u.heap.size := ⟨_, rfl⟩
    rw [← hk] at hZ' HKs ⊢
    have hRv24 := hRu.below bb (Nat.le_refl _)
    have hZv24 : NewBox k v24 := hZ'
    clear bb hZ' hk
    refine hK.out _ _ hsv24 (fun _ => ?_)
    clear hK K
    try go_simp
    refine wpAnyH_ready (rs := [2]) (by kernel_rfl) (by simp) ?_
    refine AllReadyH.cons rfl (fun K hK => ?_) AllReadyH.nil
    go_simp
    refine (to_write kd sl bt v24).mono ?_
    rintro e v25 ⟨rfl, bb⟩
    have hsv25 := hsv24.trans (bb.mono hsv24.size)
    have hRv25 := hRv24.below bb (Nat.le_refl _)
    have hZv25 : NewBox k v25 := hZv24.below bb
    clear bb
    refine hK.out _ _ hsv25 (fun _ => ?_)
    clear hK K
    go_simp
    refine wpAnyH_ready (rs := [3]) (by kernel_rfl) (by simp) ?_
    refine AllReadyH.cons rfl (fun K hK => ?_) AllReadyH.nil
    go_simp
    refine (DI _ v25 hRv25).mono ?_
    rintro e v26 ⟨u1, u2, rfl, o1, o2, s12, bb⟩
    have hsv26 := hsv25.trans (bb.mono hsv25.size)
    obtain ⟨a1, c1, rfl⟩ := own_size o1
    obtain ⟨a2, c2, rfl⟩ := own_size o2
    obtain ⟨j0, hj0⟩ : ∃ j, j = v25.heap.size := ⟨_, rfl⟩
    obtain ⟨j1, hj1⟩ : ∃ j, j = v26.heap.size := ⟨_, rfl⟩
    have HJ : Hid (V.heap.size ≤ j0 ∧ j0 ≤ j1) := by rw [hj0, hj1]; exact ⟨hsv25.size, bb.size⟩
    have hOv26 : OwnI j0 j1 (.slice a1 r'.a.data.length c1) r'.a.data v26 ∧ OwnI j0 j1 (.slice a2 r'.b.data.length c2) r'.b.data v26 ∧ j1 ≤ v26.heap.size := by rw [hj0, hj1]; exact ⟨OwnI.of o1, OwnI.of o2, Nat.le_refl _⟩
    have HK : Hid (k < j0 ∨ j1 ≤ k) := Or.inl (by rw [hj0]; exact hZv25.1.z)
    have hZv26 : NewBox k v26 := hZv25.below bb
    clear o1 o2 bb hj0 hj1
    refine hK.out _ _ hsv26 (fun _ => ?_)
    clear hK K
    simp only [romV]
    go_simp
    refine wpAnyH_ready (rs := [5]) (by kernel_rfl) (by simp) ?_
    refine AllReadyH.cons rfl (fun K hK => ?_) AllReadyH.nil
    obtain ⟨v27, hst, hbx, htx⟩ := hZv26.store r' a1 a2 r'.a.data.length c1 r'.b.data.length c2
    have hjk := HKs.out
    have hks := hZv26.1.z
    have bb : Below V.heap.size v26 v27 := htx.low hsv26.size hjk
    have hsv27 := hsv26.trans bb
    rw [if_pos (by rfl)]
    refine op_storeH rfl hst ?_
    refine hK.out _ _ hsv27 (fun _ => ?_)
    clear hK K
    go_simp
    refine wpAnyH_done (by kernel_rfl) ?_ _
    go_wp2_with fail
    go_meet
    case rel =>
      have hx := HK.out
      have hj := HJ.out
      have hz := htx.size
      have h12 := hOv26.2.2
      exact ⟨j0, j1, k, c1, c2, a1, a2, rfl, hbx, hOv26.1.far htx (by omega), hOv26.2.1.far htx (by omega), fun g hg => Or.inl (s12 g hg), hsv27, hj.1, hj.2, by omega, hjk, hx⟩
  case rest =>
  obtain ⟨i6, i7, kg, c3, c4, a3, a4, rfl, bxg, o3, o4, s34, bc, le7⟩ := hcut
  obtain ⟨X, rfl⟩ : ∃ v, v = wc := ⟨_, rfl⟩
  have H8 : Hid (HyS W i0 i1 w4.heap.size w6.heap.size V.heap.size V.heap.size i6 i7 k0 kg (#[.int .u8 (r'.a.mark : Int), .int .u8 (r'.a.turn : Int), (.slice a1 r'.a.data.length c1), .int .u8 (r'.b.mark : Int), .int .u8 (r'.b.turn : Int), (.slice a2 r'.b.data.length c2)]) (#[.int .u8 (m : Int), .int .u8 (t : Int), (.slice ap xs.length cp), .int .u8 (m' : Int), .int .u8 (t' : Int), (.slice bp ys.length cq)]) (#[.int .u8 (r'.a.mark : Int), .int .u8 (r'.a.turn : Int), (.slice a3 r'.a.data.length c3), .int .u8 (r'.b.mark : Int), .int .u8 (r'.b.turn : Int), (.slice a4 r'.b.data.length c4)]) (.slice a1 r'.a.data.length c1) (.slice a2 r'.b.data.length c2) (.slice ap xs.length cp) (.slice bp ys.length cq) (.slice none 0 0) (.slice a3 r'.a.data.length c3) (.slice a4 r'.b.data.length c4) r'.a.data r'.b.data xs ys (r'.a.data) (r'.b.data) [] X) := by
    obtain ⟨h1, h2, h3, h4, h5, h6, h7, h8⟩ := H6.out
    exact ⟨h1.trans (bc.mono h1.size), h3.below bc (by omega), h4.below bc (by omega), h2.below bc, h5.below bc (by omega), h6.below bc (by omega), h7.below bc, ⟨ownW_nil _ _, fun g hg => by simp [Value.ownBlock] at hg⟩, o3, o4, bxg, by omega⟩
  have S34 : Hid (∀ g, Value.ownBlock (.slice a3 r'.a.data.length c3) = some g → Value.ownBlock (.slice a4 r'.b.data.length c4) ≠ some g) := fun g hg => (s34 g hg).resolve_right id
  clear bc bxg o3 o4 s34 le7 H6
  have E8 := ER' H8.out.og.at H8.out.oh.at H8.out.o1.at H8.out.o2.at
  have L8 := H8.out.bg.load rfl
  have K8 := H8.out.b0.load rfl
  go_wp2_with (refine list_loadH (t := 32) (x := .pointer (some ⟨kg, 0, none⟩)) rfl rfl rfl L8 ?_; refine list_loadH (t := 32) (x := .pointer (some ⟨k0, 0, none⟩)) rfl rfl rfl K8 ?_)
  clear L8 K8
  refine E8.mono ?_
  rintro e w9 ⟨rfl, b9⟩
  have H9 : Hid (HyS W i0 i1 w4.heap.size w6.heap.size V.heap.size V.heap.size i6 i7 k0 kg (#[.int .u8 (r'.a.mark : Int), .int .u8 (r'.a.turn : Int), (.slice a1 r'.a.data.length c1), .int .u8 (r'.b.mark : Int), .int .u8 (r'.b.turn : Int), (.slice a2 r'.b.data.length c2)]) (#[.int .u8 (m : Int), .int .u8 (t : Int), (.slice ap xs.length cp), .int .u8 (m' : Int), .int .u8 (t' : Int), (.slice bp ys.length cq)]) (#[.int .u8 (r'.a.mark : Int), .int .u8 (r'.a.turn : Int), (.slice a3 r'.a.data.length c3), .int .u8 (r'.b.mark : Int), .int .u8 (r'.b.turn : Int), (.slice a4 r'.b.data.length c4)]) (.slice a1 r'.a.data.length c1) (.slice a2 r'.b.data.length c2) (.slice ap xs.length cp) (.slice bp ys.length cq) (.slice none 0 0) (.slice a3 r'.a.data.length c3) (.slice a4 r'.b.data.length c4) r'.a.data r'.b.data xs ys (r'.a.data) (r'.b.data) [] w9) := H8.out.below b9
  clear b9 E8 H8
  go_wp2_with fail
  have hH : Hid (HyS W i0 i1 w4.heap.size w6.heap.size V.heap.size V.heap.size i6 i7 k0 kg (#[.int .u8 (r'.a.mark : Int), .int .u8 (r'.a.turn : Int), (.slice a1 r'.a.data.length c1), .int .u8 (r'.b.mark : Int), .int .u8 (r'.b.turn : Int), (.slice a2 r'.b.data.length c2)]) (#[.int .u8 (m : Int), .int .u8 (t : Int), (.slice ap xs.length cp), .int .u8 (m' : Int), .int .u8 (t' : Int), (.slice bp ys.length cq)]) (#[.int .u8 (r'.a.mark : Int), .int .u8 (r'.a.turn : Int), (.slice a3 r'.a.data.length c3), .int .u8 (r'.b.mark : Int), .int .u8 (r'.b.turn : Int), (.slice a4 r'.b.data.length c4)]) (.slice a1 r'.a.data.length c1) (.slice a2 r'.b.data.length c2) (.slice ap xs.length cp) (.slice bp ys.length cq) (.slice none 0 0) (.slice a3 r'.a.data.length c3) (.slice a4 r'.b.data.length c4) r'.a.data r'.b.data xs ys (r'.a.data) (r'.b.data) [] w9.drew) := H9.out.below (Below.refl w9.heap.size w9).drew
  have hS0 : BoxI w6.heap.size (#[.int .u8 (m : Int), .int .u8 (t : Int), (.slice ap xs.length cp), .int .u8 (m' : Int), .int .u8 (t' : Int), (.slice bp ys.length cq)]) w9.drew ∧ Below W.heap.size W w9.drew := ⟨hH.out.bx, hH.out.bW⟩
  refine wp_region_held (S := fun w' => BoxI w6.heap.size (#[.int .u8 (m : Int), .int .u8 (t : Int), (.slice ap xs.length cp), .int .u8 (m' : Int), .int .u8 (t' : Int), (.slice bp ys.length cq)]) w' ∧ Below W.heap.size W w') (by kernel_rfl) ?_
  refine held_load (fuel := 4) (i := 0) (t := 32) (v := .agg (#[.int .u8 (m : Int), .int .u8 (t : Int), (.slice ap xs.length cp), .int .u8 (m' : Int), .int .u8 (t' : Int), (.slice bp ys.length cq)])) rfl rfl rfl (by kernel_rfl) (by kernel_rfl) (by kernel_rfl) rfl (fun _ _ _ h => h) (fun w' hw' => hw'.1.load rfl) hS0 ?_
  go_simp
  refine held_load (fuel := 3) (i := 1) (t := 26) (v := .agg #[.int .u8 (m : Int), .int .u8 (t : Int), .slice ad xs.length cd, .int .u8 (m' : Int), .int .u8 (t' : Int), .slice ad' ys.length cd']) rfl rfl rfl (by kernel_rfl) (by kernel_rfl) (by kernel_rfl) rfl (fun _ _ _ h => h) (fun w' hw' => LB w' hw'.2) hS0 ?_
  go_simp
  refine wpAnyH_ready (rs := [2]) (by kernel_rfl) (by simp) ?_
  refine AllReadyH.cons rfl (fun K hK => ?_) AllReadyH.nil
  go_simp
  refine (TR _ hS0.2).mono ?_
  rintro e w10 ⟨qa, qb, rfl, o1, o2, -, b10⟩
  have h10 := hH.out.below b10
  have hS10 : BoxI w6.heap.size (#[.int .u8 (m : Int), .int .u8 (t : Int), (.slice ap xs.length cp), .int .u8 (m' : Int), .int .u8 (t' : Int), (.slice bp ys.length cq)]) w10 ∧ Below W.heap.size W w10 := ⟨h10.bx, h10.bW⟩
  have CE := ER h10.oa.at h10.ob.at o1.at o2.at
  refine hK.out _ _ hS10 (fun _ => ?_)
  have H10 : Hid (HyS W i0 i1 w4.heap.size w6.heap.size V.heap.size V.heap.size i6 i7 k0 kg (#[.int .u8 (r'.a.mark : Int), .int .u8 (r'.a.turn : Int), (.slice a1 r'.a.data.length c1), .int .u8 (r'.b.mark : Int), .int .u8 (r'.b.turn : Int), (.slice a2 r'.b.data.length c2)]) (#[.int .u8 (m : Int), .int .u8 (t : Int), (.slice ap xs.length cp), .int .u8 (m' : Int), .int .u8 (t' : Int), (.slice bp ys.length cq)]) (#[.int .u8 (r'.a.mark : Int), .int .u8 (r'.a.turn : Int), (.slice a3 r'.a.data.length c3), .int .u8 (r'.b.mark : Int), .int .u8 (r'.b.turn : Int), (.slice a4 r'.b.data.length c4)]) (.slice a1 r'.a.data.length c1) (.slice a2 r'.b.data.length c2) (.slice ap xs.length cp) (.slice bp ys.length cq) (.slice none 0 0) (.slice a3 r'.a.data.length c3) (.slice a4 r'.b.data.length c4) r'.a.data r'.b.data xs ys (r'.a.data) (r'.b.data) [] w10) := h10
  clear hK K o1 o2 h10 b10 hH hS0 H9
  go_simp
  refine wpAnyH_ready (rs := [3]) (by kernel_rfl) (by simp) ?_
  refine AllReadyH.cons rfl (fun K hK => ?_) AllReadyH.nil
  go_simp
  refine CE.mono ?_
  rintro e w11 ⟨rfl, b11⟩
  have h11 := H10.out.below b11
  have hS11 : BoxI w6.heap.size (#[.int .u8 (m : Int), .int .u8 (t : Int), (.slice ap xs.length cp), .int .u8 (m' : Int), .int .u8 (t' : Int), (.slice bp ys.length cq)]) w11 ∧ Below W.heap.size W w11 := ⟨h11.bx, h11.bW⟩
  have H11 : Hid (HyS W i0 i1 w4.heap.size w6.heap.size V.heap.size V.heap.size i6 i7 k0 kg (#[.int .u8 (r'.a.mark : Int), .int .u8 (r'.a.turn : Int), (.slice a1 r'.a.data.length c1), .int .u8 (r'.b.mark : Int), .int .u8 (r'.b.turn : Int), (.slice a2 r'.b.data.length c2)]) (#[.int .u8 (m : Int), .int .u8 (t : Int), (.slice ap xs.length cp), .int .u8 (m' : Int), .int .u8 (t' : Int), (.slice bp ys.length cq)]) (#[.int .u8 (r'.a.mark : Int), .int .u8 (r'.a.turn : Int), (.slice a3 r'.a.data.length c3), .int .u8 (r'.b.mark : Int), .int .u8 (r'.b.turn : Int), (.slice a4 r'.b.data.length c4)]) (.slice a1 r'.a.data.length c1) (.slice a2 r'.b.data.length c2) (.slice ap xs.length cp) (.slice bp ys.length cq) (.slice none 0 0) (.slice a3 r'.a.data.length c3) (.slice a4 r'.b.data.length c4) r'.a.data r'.b.data xs ys (r'.a.data) (r'.b.data) [] w11) := h11
  refine hK.out _ _ hS11 (fun _ => ?_)
  clear hK K b11 h11 CE hS10 H10
  go_simp
  refine held_any (fuel := 0) (i := 4) (v := .bool false) rfl (by kernel_rfl) (by kernel_rfl) (by kernel_rfl) rfl (fun _ _ _ h => h) (fun _ _ => by go_simp) hS11 ?_
  go_simp
  refine wpAnyH_done (by kernel_rfl) ?_ _
  clear hS11
  have L13 := H11.out.bx.load rfl
  have M13 := MR H11.out.oa H11.out.ob S12.out
  go_wp2_with (refine list_loadH (t := 32) (x := .pointer (some ⟨w6.heap.size, 0, none⟩)) rfl rfl rfl L13 ?_)
  clear L13
  refine M13.mono ?_
  rintro e w14 ⟨k14, xs', ys', rfl, hk14, oa14, ob14, t14⟩
  have H14 : Hid (HyS W i0 i1 w4.heap.size w6.heap.size V.heap.size V.heap.size i6 i7 k0 kg (#[.int .u8 (r'.a.mark : Int), .int .u8 (r'.a.turn : Int), (.slice a1 r'.a.data.length c1), .int .u8 (r'.b.mark : Int), .int .u8 (r'.b.turn : Int), (.slice a2 r'.b.data.length c2)]) (#[.int .u8 (m : Int), .int .u8 (t : Int), (.slice ap xs.length cp), .int .u8 (m' : Int), .int .u8 (t' : Int), (.slice bp ys.length cq)]) (#[.int .u8 (r'.a.mark : Int), .int .u8 (r'.a.turn : Int), (.slice a3 r'.a.data.length c3), .int .u8 (r'.b.mark : Int), .int .u8 (r'.b.turn : Int), (.slice a4 r'.b.data.length c4)]) (.slice a1 r'.a.data.length c1) (.slice a2 r'.b.data.length c2) (.slice ap xs.length cp) (.slice bp ys.length cq) (.slice none 0 0) (.slice a3 r'.a.data.length c3) (.slice a4 r'.b.data.length c4) r'.a.data r'.b.data xs' ys' (r'.a.data) (r'.b.data) [] w14) := H11.out.rom t14 oa14 ob14
  have hk15 : ¬ (k14 : Int) < 0 := by omega
  clear oa14 ob14 t14 M13 H11 hk14
  have E15 := ER' H14.out.og.at H14.out.oh.at H14.out.o1.at H14.out.o2.at
  have L15 := H14.out.bg.load rfl
  have K15 := H14.out.b0.load rfl
  go_wp2_with (refine list_loadH (t := 32) (x := .pointer (some ⟨kg, 0, none⟩)) rfl rfl rfl L15 ?_; refine list_loadH (t := 32) (x := .pointer (some ⟨k0, 0, none⟩)) rfl rfl rfl K15 ?_)
  clear L15 K15
  refine E15.mono ?_
  rintro e w16 ⟨rfl, b16⟩
  have H16 : Hid (HyS W i0 i1 w4.heap.size w6.heap.size V.heap.size V.heap.size i6 i7 k0 kg (#[.int .u8 (r'.a.mark : Int), .int .u8 (r'.a.turn : Int), (.slice a1 r'.a.data.length c1), .int .u8 (r'.b.mark : Int), .int .u8 (r'.b.turn : Int), (.slice a2 r'.b.data.length c2)]) (#[.int .u8 (m : Int), .int .u8 (t : Int), (.slice ap xs.length cp), .int .u8 (m' : Int), .int .u8 (t' : Int), (.slice bp ys.length cq)]) (#[.int .u8 (r'.a.mark : Int), .int .u8 (r'.a.turn : Int), (.slice a3 r'.a.data.length c3), .int .u8 (r'.b.mark : Int), .int .u8 (r'.b.turn : Int), (.slice a4 r'.b.data.length c4)]) (.slice a1 r'.a.data.length c1) (.slice a2 r'.b.data.length c2) (.slice ap xs.length cp) (.slice bp ys.length cq) (.slice none 0 0) (.slice a3 r'.a.data.length c3) (.slice a4 r'.b.data.length c4) r'.a.data r'.b.data xs' ys' (r'.a.data) (r'.b.data) [] w16) := H14.out.below b16
  clear b16 E15 H14
  have M16 := MG H16.out.og H16.out.oh S34.out
  have L16 := H16.out.bg.load rfl
  go_wp2_with (refine list_loadH (t := 32) (x := .pointer (some ⟨kg, 0, none⟩)) rfl rfl rfl L16 ?_)
  clear L16
  refine M16.mono ?_
  rintro e w17 ⟨rfl, og17, oh17, t17⟩
  have H17 : Hid (HyS W i0 i1 w4.heap.size w6.heap.size V.heap.size V.heap.size i6 i7 k0 kg (#[.int .u8 (r'.a.mark : Int), .int .u8 (r'.a.turn : Int), (.slice a1 r'.a.data.length c1), .int .u8 (r'.b.mark : Int), .int .u8 (r'.b.turn : Int), (.slice a2 r'.b.data.length c2)]) (#[.int .u8 (m : Int), .int .u8 (t : Int), (.slice ap xs.length cp), .int .u8 (m' : Int), .int .u8 (t' : Int), (.slice bp ys.length cq)]) (#[.int .u8 (r'.a.mark : Int), .int .u8 (r'.a.turn : Int), (.slice a3 r'.a.data.length c3), .int .u8 (r'.b.mark : Int), .int .u8 (r'.b.turn : Int), (.slice a4 r'.b.data.length c4)]) (.slice a1 r'.a.data.length c1) (.slice a2 r'.b.data.length c2) (.slice ap xs.length cp) (.slice bp ys.length cq) (.slice none 0 0) (.slice a3 r'.a.data.length c3) (.slice a4 r'.b.data.length c4) r'.a.data r'.b.data xs' ys' (marks 1 r'.a.data.length) (marks (1 + r'.a.data.length) r'.b.data.length) [] w17) := H16.out.answer t17 og17 oh17
  clear og17 oh17 t17 M16 H16
  have E17 := EG H17.out.og.at H17.out.oh.at
  have L17 := H17.out.bg.load rfl
  go_wp2_with (refine list_loadH (t := 32) (x := .pointer (some ⟨kg, 0, none⟩)) rfl rfl rfl L17 ?_)
  clear L17
  refine E17.mono ?_
  rintro e w18 ⟨rfl, b18⟩
  have H18 : Hid (HyS W i0 i1 w4.heap.size w6.heap.size V.heap.size V.heap.size i6 i7 k0 kg (#[.int .u8 (r'.a.mark : Int), .int .u8 (r'.a.turn : Int), (.slice a1 r'.a.data.length c1), .int .u8 (r'.b.mark : Int), .int .u8 (r'.b.turn : Int), (.slice a2 r'.b.data.length c2)]) (#[.int .u8 (m : Int), .int .u8 (t : Int), (.slice ap xs.length cp), .int .u8 (m' : Int), .int .u8 (t' : Int), (.slice bp ys.length cq)]) (#[.int .u8 (r'.a.mark : Int), .int .u8 (r'.a.turn : Int), (.slice a3 r'.a.data.length c3), .int .u8 (r'.b.mark : Int), .int .u8 (r'.b.turn : Int), (.slice a4 r'.b.data.length c4)]) (.slice a1 r'.a.data.length c1) (.slice a2 r'.b.data.length c2) (.slice ap xs.length cp) (.slice bp ys.length cq) (.slice none 0 0) (.slice a3 r'.a.data.length c3) (.slice a4 r'.b.data.length c4) r'.a.data r'.b.data xs' ys' (marks 1 r'.a.data.length) (marks (1 + r'.a.data.length) r'.b.data.length) [] w18) := H17.out.below b18
  clear b18 E17 H17
  go_upto_region 24 with fail
  go_cut [12] from 13 to 64 (fun s wx => ∃ (i0 i1 k c1 c2 : Nat) (a1 a2 : Option Addr), s = .pointer (some ⟨k, 0, none⟩) ∧ BoxI k (#[.int .u8 (r'.a.mark : Int), .int .u8 (r'.a.turn : Int), (.slice a1 r'.a.data.length c1), .int .u8 (r'.b.mark : Int), .int .u8 (r'.b.turn : Int), (.slice a2 r'.b.data.length c2)]) wx ∧ OwnI i0 i1 (.slice a1 r'.a.data.length c1) r'.a.data wx ∧ OwnI i0 i1 (.slice a2 r'.b.data.length c2) r'.b.data wx ∧ (∀ g, Value.ownBlock (.slice a1 r'.a.data.length c1) = some g → Value.ownBlock (.slice a2 r'.b.data.length c2) ≠ some g ∨ True) ∧ Below w18.heap.size w18 wx ∧ (w18.heap.size ≤ i0 ∧ i0 ≤ i1 ∧ i1 ≤ wx.heap.size ∧ w18.heap.size ≤ k ∧ (k < i0 ∨ i1 ≤ k)))
  case first =>
    obtain ⟨u, hu⟩ : ∃ u, u = w18.drew := ⟨_, rfl⟩
    have hW0 : Below W.heap.size W w18 := H18.out.bW
    have hsu : Below w18.heap.size w18 u := by rw [hu]; exact (Below.refl _ _).drew
    refine wp_region_held (S := Below w18.heap.size w18) (by kernel_rfl) ?_
    change wpAnyH _ _ _ _ _ _ _ _ (World.drew _)
    rw [← hu]
    clear hu
    refine held_load (fuel := 6) (i := 0) (t := 26) (v := .agg #[.int .u8 (m : Int), .int .u8 (t : Int), .slice ad xs.length cd, .int .u8 (m' : Int), .int .u8 (t' : Int), .slice ad' ys.length cd']) rfl rfl rfl (by kernel_rfl) (by kernel_rfl) (by kernel_rfl) rfl (fun _ _ _ h => h) (fun w' hw' => LB w' (hW0.trans (hw'.mono hW0.size))) hsu ?_
    go_simp
    refine held_load (fuel := 5) (i := 2) (t := 28) (v := .agg #[.int .i64 kd, .int .i64 sl, .int .u8 (bt : Int)]) rfl rfl rfl (by kernel_rfl) (by kernel_rfl) (by kernel_rfl) rfl (fun _ _ _ h => h) (fun w' hw' => LW w' (hW0.trans (hw'.mono hW0.size))) hsu ?_
    go_simp
    refine wpAnyH_ready (rs := [1, 5]) (by kernel_rfl) (by simp) ?_
    refine AllReadyH.cons rfl (fun K hK => ?_) ?_
    · skip
      go_simp
      refine (TR u (hW0.trans (hsu.mono hW0.size))).mono ?_
      rintro e v28 ⟨oa, ob, rfl, o1, o2, -, bb⟩
      have hsv28 := hsu.trans (bb.mono hsu.size)
      have hRv28 := RA o1.at o2.at
      obtain ⟨_, _, rfl⟩ := own_size o1
      obtain ⟨_, _, rfl⟩ := own_size o2
      clear o1 o2 bb
      refine hK.out _ _ hsv28 (fun _ => ?_)
      clear hK K
      go_simp
      refine wpAnyH_ready (rs := [3, 5]) (by kernel_rfl) (by simp) ?_
      refine AllReadyH.cons rfl (fun K hK => ?_) ?_
      · skip
        go_simp
        refine (to_write kd sl bt v28).mono ?_
        rintro e v29 ⟨rfl, bb⟩
        have hsv29 := hsv28.trans (bb.mono hsv28.size)
        have hRv29 := hRv28.below bb (Nat.le_refl _)
        clear bb
        refine hK.out _ _ hsv29 (fun _ => ?_)
        clear hK K
        go_simp
        refine wpAnyH_ready (rs := [4, 5]) (by kernel_rfl) (by simp) ?_
        refine AllReadyH.cons rfl (fun K hK => ?_) ?_
        · skip
          go_simp
          refine (DI _ v29 hRv29).mono ?_
          rintro e v30 ⟨u1, u2, rfl, o1, o2, s12, bb⟩
          have hsv30 := hsv29.trans (bb.mono hsv29.size)
          obtain ⟨a1, c1, rfl⟩ := own_size o1
          obtain ⟨a2, c2, rfl⟩ := own_size o2
          obtain ⟨j0, hj0⟩ : ∃ j, j = v29.heap.size := ⟨_, rfl⟩
          obtain ⟨j1, hj1⟩ : ∃ j, j = v30.heap.size := ⟨_, rfl⟩
          have HJ : Hid (w18.heap.size ≤ j0 ∧ j0 ≤ j1) := by rw [hj0, hj1]; exact ⟨hsv29.size, bb.size⟩
          have hOv30 : OwnI j0 j1 (.slice a1 r'.a.data.length c1) r'.a.data v30 ∧ OwnI j0 j1 (.slice a2 r'.b.data.length c2) r'.b.data v30 ∧ j1 ≤ v30.heap.size := by rw [hj0, hj1]; exact ⟨OwnI.of o1, OwnI.of o2, Nat.le_refl _⟩
          have HK1 : Hid (v30.heap.size = j1) := hj1.symm
          clear o1 o2 bb hj0 hj1
          refine hK.out _ _ hsv30 (fun _ => ?_)
          clear hK K
          simp only [romV]
          go_simp
          refine wpAnyH_ready (rs := [5]) (by kernel_rfl) (by simp) ?_
          refine AllReadyH.cons rfl (fun K hK => ?_) AllReadyH.nil
          obtain ⟨v31, hv31⟩ : ∃ v, v = v30.alloc (.cells #[.int .u8 0, .int .u8 0, .slice none 0 0, .int .u8 0, .int .u8 0, .slice none 0 0] 32) := ⟨_, rfl⟩
          have bb : Below v30.heap.size v30 v31 := by rw [hv31]; exact (Below.refl _ _).alloc (Nat.le_refl _) _
          have hsv31 := hsv30.trans (bb.mono hsv30.size)
          have hZ' : NewBox v30.heap.size v31 := by rw [hv31]; exact NewBox.new _
          go_simp
          rw [← hv31]
          clear hv31
          have HKs : Hid (w18.heap.size ≤ v30.heap.size) := hsv30.size
          have HK' : Hid (v30.heap.size < j0 ∨ j1 ≤ v30.heap.size) := Or.inr (by rw [← HK1.out]; exact Nat.le_refl _)
          obtain ⟨k, hk⟩ : ∃ k, k = v30.heap.size := ⟨_, rfl⟩
          rw [← hk] at hZ' HKs HK' ⊢
          have hOv31 : OwnI j0 j1 (.slice a1 r'.a.data.length c1) r'.a.data v31 ∧ OwnI j0 j1 (.slice a2 r'.b.data.length c2) r'.b.data v31 ∧ j1 ≤ v31.heap.size := ⟨hOv30.1.below bb hOv30.2.2, hOv30.2.1.below bb hOv30.2.2, Nat.le_trans hOv30.2.2 bb.size⟩
          have hZv31 : NewBox k v31 := hZ'
          have HK : Hid (k < j0 ∨ j1 ≤ k) := HK'.out
          clear HK' HK1
          clear bb hZ' hk
          refine hK.out _ _ hsv31 (fun _ => ?_)
          clear hK K
          try go_simp
          refine wpAnyH_ready (rs := [6]) (by kernel_rfl) (by simp) ?_
          refine AllReadyH.cons rfl (fun K hK => ?_) AllReadyH.nil
          obtain ⟨v32, hst, hbx, htx⟩ := hZv31.store r' a1 a2 r'.a.data.length c1 r'.b.data.length c2
          have hjk := HKs.out
          have hks := hZv31.1.z
          have bb : Below w18.heap.size v31 v32 := htx.low hsv31.size hjk
          have hsv32 := hsv31.trans bb
          rw [if_pos (by rfl)]
          refine op_storeH rfl hst ?_
          refine hK.out _ _ hsv32 (fun _ => ?_)
          clear hK K
          go_simp
          refine wpAnyH_done (by kernel_rfl) ?_ _
          go_wp2_with fail
          go_meet
          case rel =>
            have hx := HK.out
            have hj := HJ.out
            have hz := htx.size
            have h12 := hOv31.2.2
            exact ⟨j0, j1, k, c1, c2, a1, a2, rfl, hbx, hOv31.1.far htx (by omega), hOv31.2.1.far htx (by omega), fun g hg => Or.inr trivial, hsv32, hj.1, hj.2, by omega, hjk, hx⟩
        refine AllReadyH.cons rfl (fun K hK => ?_) AllReadyH.nil
        obtain ⟨v33, hv33⟩ : ∃ v, v = v29.alloc (.cells #[.int .u8 0, .int .u8 0, .slice none 0 0, .int .u8 0, .int .u8 0, .slice none 0 0] 32) := ⟨_, rfl⟩
        have bb : Below v29.heap.size v29 v33 := by rw [hv33]; exact (Below.refl _ _).alloc (Nat.le_refl _) _
        have hsv33 := hsv29.trans (bb.mono hsv29.size)
        have hZ' : NewBox v29.heap.size v33 := by rw [hv33]; exact NewBox.new _
        go_simp
        rw [← hv33]
        clear hv33
        have HKs : Hid (w18.heap.size ≤ v29.heap.size) := hsv29.size
        obtain ⟨k, hk⟩ : ∃ k, k = v29.heap.size := ⟨_, rfl⟩
        rw [← hk] at hZ' HKs ⊢
        have hRv33 := hRv29.below bb (Nat.le_refl _)
        have hZv33 : NewBox k v33 := hZ'
        clear bb hZ' hk
        refine hK.out _ _ hsv33 (fun _ => ?_)
        clear hK K
        try go_simp
        refine wpAnyH_ready (rs := [4]) (by kernel_rfl) (by simp) ?_
        refine AllReadyH.cons rfl (fun K hK => ?_) AllReadyH.nil
        go_simp
        refine (DI _ v33 hRv33).mono ?_
        rintro e v34 ⟨u1, u2, rfl, o1, o2, s12, bb⟩
        have hsv34 := hsv33.trans (bb.mono hsv33.size)
        obtain ⟨a1, c1, rfl⟩ := own_size o1
        obtain ⟨a2, c2, rfl⟩ := own_size o2
        obtain ⟨j0, hj0⟩ : ∃ j, j = v33.heap.size := ⟨_, rfl⟩
        obtain ⟨j1, hj1⟩ : ∃ j, j = v34.heap.size := ⟨_, rfl⟩
        have HJ : Hid (w18.heap.size ≤ j0 ∧ j0 ≤ j1) := by rw [hj0, hj1]; exact ⟨hsv33.size, bb.size⟩
        have hOv34 : OwnI j0 j1 (.slice a1 r'.a.data.length c1) r'.a.data v34 ∧ OwnI j0 j1 (.slice a2 r'.b.data.length c2) r'.b.data v34 ∧ j1 ≤ v34.heap.size := by rw [hj0, hj1]; exact ⟨OwnI.of o1, OwnI.of o2, Nat.le_refl _⟩
        have HK : Hid (k < j0 ∨ j1 ≤ k) := Or.inl (by rw [hj0]; exact hZv33.1.z)
        have hZv34 : NewBox k v34 := hZv33.below bb
        clear o1 o2 bb hj0 hj1
        refine hK.out _ _ hsv34 (fun _ => ?_)
        clear hK K
        simp only [romV]
        go_simp
        refine wpAnyH_ready (rs := [6]) (by kernel_rfl) (by simp) ?_
        refine AllReadyH.cons rfl (fun K hK => ?_) AllReadyH.nil
        obtain ⟨v35, hst, hbx, htx⟩ := hZv34.store r' a1 a2 r'.a.data.length c1 r'.b.data.length c2
        have hjk := HKs.out
        have hks := hZv34.1.z
        have bb : Below w18.heap.size v34 v35 := htx.low hsv34.size hjk
        have hsv35 := hsv34.trans bb
        rw [if_pos (by rfl)]
        refine op_storeH rfl hst ?_
        refine hK.out _ _ hsv35 (fun _ => ?_)
        clear hK K
        go_simp
        refine wpAnyH_done (by kernel_rfl) ?_ _
        go_wp2_with fail
        go_meet
        case rel =>
          have hx := HK.out
          have hj := HJ.out
          have hz := htx.size
          have h12 := hOv34.2.2
          exact ⟨j0, j1, k, c1, c2, a1, a2, rfl, hbx, hOv34.1.far htx (by omega), hOv34.2.1.far htx (by omega), fun g hg => Or.inr trivial, hsv35, hj.1, hj.2, by omega, hjk, hx⟩
      refine AllReadyH.cons rfl (fun K hK => ?_) AllReadyH.nil
      obtain ⟨v36, hv36⟩ : ∃ v, v = v28.alloc (.cells #[.int .u8 0, .int .u8 0, .slice none 0 0, .int .u8 0, .int .u8 0, .slice none 0 0] 32) := ⟨_, rfl⟩
      have bb : Below v28.heap.size v28 v36 := by rw [hv36]; exact (Below.refl _ _).alloc (Nat.le_refl _) _
      have hsv36 := hsv28.trans (bb.mono hsv28.size)
      have hZ' : NewBox v28.heap.size v36 := by rw [hv36]; exact NewBox.new _
      go_simp
      rw [← hv36]
      clear hv36
      have HKs : Hid (w18.heap.size ≤ v28.heap.size) := hsv28.size
      obtain ⟨k, hk⟩ : ∃ k, k = v28.heap.size := ⟨_, rfl⟩
      rw [← hk] at hZ' HKs ⊢
      have hRv36 := hRv28.below bb (Nat.le_refl _)
      have hZv36 : NewBox k v36 := hZ'
      clear bb hZ' hk
      refine hK.out _ _ hsv36 (fun _ => ?_)
      clear hK K
      try go_simp
      refine wpAnyH_ready (rs := [3]) (by kernel_rfl) (by simp) ?_
      refine AllReadyH.cons rfl (fun K hK => ?_) AllReadyH.nil
      go_simp
      refine (to_write kd sl bt v36).mono ?_
      rintro e v37 ⟨rfl, bb⟩
      have hsv37 := hsv36.trans (bb.mono hsv36.size)
      have hRv37 := hRv36.below bb (Nat.le_refl _)
      have hZv37 : NewBox k v37 := hZv36.below bb
      clear bb
      refine hK.out _ _ hsv37 (fun _ => ?_)
      clear hK K
      go_simp
      refine wpAnyH_ready (rs := [4]) (by kernel_rfl) (by simp) ?_
      refine AllReadyH.cons rfl (fun K hK => ?_) AllReadyH.nil
      go_simp
      refine (DI _ v37 hRv37).mono ?_
      rintro e v38 ⟨u1, u2, rfl, o1, o2, s12, bb⟩
      have hsv38 := hsv37.trans (bb.mono hsv37.size)
      obtain ⟨a1, c1, rfl⟩ := own_size o1
      obtain ⟨a2, c2, rfl⟩ := own_size o2
      obtain ⟨j0, hj0⟩ : ∃ j, j = v37.heap.size := ⟨_, rfl⟩
      obtain ⟨j1, hj1⟩ : ∃ j, j = v38.heap.size := ⟨_, rfl⟩
      have HJ : Hid (w18.heap.size ≤ j0 ∧ j0 ≤ j1) := by rw [hj0, hj1]; exact ⟨hsv37.size, bb.size⟩
      have hOv38 : OwnI j0 j1 (.slice a1 r'.a.data.length c1) r'.a.data v38 ∧ OwnI j0 j1 (.slice a2 r'.b.data.length c2) r'.b.data v38 ∧ j1 ≤ v38.heap.size := by rw [hj0, hj1]; exact ⟨OwnI.of o1, OwnI.of o2, Nat.le_refl _⟩
      have HK : Hid (k < j0 ∨ j1 ≤ k) := Or.inl (by rw [hj0]; exact hZv37.1.z)
      have hZv38 : NewBox k v38 := hZv37.below bb
      clear o1 o2 bb hj0 hj1
      refine hK.out _ _ hsv38 (fun _ => ?_)
      clear hK K
      simp only [romV]
      go_simp
      refine wpAnyH_ready (rs := [6]) (by kernel_rfl) (by simp) ?_
      refine AllReadyH.cons rfl (fun K hK => ?_) AllReadyH.nil
      obtain ⟨v39, hst, hbx, htx⟩ := hZv38.store r' a1 a2 r'.a.data.length c1 r'.b.data.length c2
      have hjk := HKs.out
      have hks := hZv38.1.z
      have bb : Below w18.heap.size v38 v39 := htx.low hsv38.size hjk
      have hsv39 := hsv38.trans bb
      rw [if_pos (by rfl)]
      refine op_storeH rfl hst ?_
      refine hK.out _ _ hsv39 (fun _ => ?_)
      clear hK K
      go_simp
      refine wpAnyH_done (by kernel_rfl) ?_ _
      go_wp2_with fail
      go_meet
      case rel =>
        have hx := HK.out
        have hj := HJ.out
        have hz := htx.size
        have h12 := hOv38.2.2
        exact ⟨j0, j1, k, c1, c2, a1, a2, rfl, hbx, hOv38.1.far htx (by omega), hOv38.2.1.far htx (by omega), fun g hg => Or.inr trivial, hsv39, hj.1, hj.2, by omega, hjk, hx⟩
    refine AllReadyH.cons rfl (fun K hK => ?_) AllReadyH.nil
    obtain ⟨v40, hv40⟩ : ∃ v, v = u.alloc (.cells #[.int .u8 0, .int .u8 0, .slice none 0 0, .int .u8 0, .int .u8 0, .slice none 0 0] 32) := ⟨_, rfl⟩
    have bb : Below u.heap.size u v40 := by rw [hv40]; exact (Below.refl _ _).alloc (Nat.le_refl _) _
    have hsv40 := hsu.trans (bb.mono hsu.size)
    have hZ' : NewBox u.heap.size v40 := by rw [hv40]; exact NewBox.new _
    go_simp
    rw [← hv40]
    clear hv40
    have HKs : Hid (w18.heap.size ≤ u.heap.size) := hsu.size
    obtain ⟨k, hk⟩ : ∃ k, k = u.heap.size := ⟨_, rfl⟩
    rw [← hk] at hZ' HKs ⊢
    have hZv40 : NewBox k v40 := hZ'
    clear bb hZ' hk
    refine hK.out _ _ hsv40 (fun _ => ?_)
    clear hK K
    try go_simp
    refine wpAnyH_ready (rs := [1]) (by kernel_rfl) (by simp) ?_
    refine AllReadyH.cons rfl (fun K hK => ?_) AllReadyH.nil
    go_simp
    refine (TR v40 (hW0.trans (hsv40.mono hW0.size))).mono ?_
    rintro e v41 ⟨oa, ob, rfl, o1, o2, -, bb⟩
    have hsv41 := hsv40.trans (bb.mono hsv40.size)
    have hRv41 := RA o1.at o2.at
    obtain ⟨_, _, rfl⟩ := own_size o1
    obtain ⟨_, _, rfl⟩ := own_size o2
    have hZv41 : NewBox k v41 := hZv40.below bb
    clear o1 o2 bb
    refine hK.out _ _ hsv41 (fun _ => ?_)
    clear hK K
    go_simp
    refine wpAnyH_ready (rs := [3]) (by kernel_rfl) (by simp) ?_
    refine AllReadyH.cons rfl (fun K hK => ?_) AllReadyH.nil
    go_simp
    refine (to_write kd sl bt v41).mono ?_
    rintro e v42 ⟨rfl, bb⟩
    have hsv42 := hsv41.trans (bb.mono hsv41.size)
    have hRv42 := hRv41.below bb (Nat.le_refl _)
    have hZv42 : NewBox k v42 := hZv41.below bb
    clear bb
    refine hK.out _ _ hsv42 (fun _ => ?_)
    clear hK K
    go_simp
    refine wpAnyH_ready (rs := [4]) (by kernel_rfl) (by simp) ?_
    refine AllReadyH.cons rfl (fun K hK => ?_) AllReadyH.nil
    go_simp
    refine (DI _ v42 hRv42).mono ?_
    rintro e v43 ⟨u1, u2, rfl, o1, o2, s12, bb⟩
    have hsv43 := hsv42.trans (bb.mono hsv42.size)
    obtain ⟨a1, c1, rfl⟩ := own_size o1
    obtain ⟨a2, c2, rfl⟩ := own_size o2
    obtain ⟨j0, hj0⟩ : ∃ j, j = v42.heap.size := ⟨_, rfl⟩
    obtain ⟨j1, hj1⟩ : ∃ j, j = v43.heap.size := ⟨_, rfl⟩
    have HJ : Hid (w18.heap.size ≤ j0 ∧ j0 ≤ j1) := by rw [hj0, hj1]; exact ⟨hsv42.size, bb.size⟩
    have hOv43 : OwnI j0 j1 (.slice a1 r'.a.data.length c1) r'.a.data v43 ∧ OwnI j0 j1 (.slice a2 r'.b.data.length c2) r'.b.data v43 ∧ j1 ≤ v43.heap.size := by rw [hj0, hj1]; exact ⟨OwnI.of o1, OwnI.of o2, Nat.le_refl _⟩
    have HK : Hid (k < j0 ∨ j1 ≤ k) := Or.inl (by rw [hj0]; exact hZv42.1.z)
    have hZv43 : NewBox k v43 := hZv42.below bb
    clear o1 o2 bb hj0 hj1
    refine hK.out _ _ hsv43 (fun _ => ?_)
    clear hK K
    simp only [romV]
    go_simp
    refine wpAnyH_ready (rs := [6]) (by kernel_rfl) (by simp) ?_
    refine AllReadyH.cons rfl (fun K hK => ?_) AllReadyH.nil
    obtain ⟨v44, hst, hbx, htx⟩ := hZv43.store r' a1 a2 r'.a.data.length c1 r'.b.data.length c2
    have hjk := HKs.out
    have hks := hZv43.1.z
    have bb : Below w18.heap.size v43 v44 := htx.low hsv43.size hjk
    have hsv44 := hsv43.trans bb
    rw [if_pos (by rfl)]
    refine op_storeH rfl hst ?_
    refine hK.out _ _ hsv44 (fun _ => ?_)
    clear hK K
    go_simp
    refine wpAnyH_done (by kernel_rfl) ?_ _
    go_wp2_with fail
    go_meet
    case rel =>
      have hx := HK.out
      have hj := HJ.out
      have hz := htx.size
      have h12 := hOv43.2.2
      exact ⟨j0, j1, k, c1, c2, a1, a2, rfl, hbx, hOv43.1.far htx (by omega), hOv43.2.1.far htx (by omega), fun g hg => Or.inr trivial, hsv44, hj.1, hj.2, by omega, hjk, hx⟩
  case rest =>
  obtain ⟨i8, i9, kh, c5, c6, a5, a6, rfl, bxh, o5, o6, -, bc, -⟩ := hcut
  obtain ⟨Y, rfl⟩ : ∃ v, v = wc := ⟨_, rfl⟩
  have H21 : Hid (HyS W i0 i1 w4.heap.size w6.heap.size V.heap.size V.heap.size i6 i7 k0 kg (#[.int .u8 (r'.a.mark : Int), .int .u8 (r'.a.turn : Int), (.slice a1 r'.a.data.length c1), .int .u8 (r'.b.mark : Int), .int .u8 (r'.b.turn : Int), (.slice a2 r'.b.data.length c2)]) (#[.int .u8 (m : Int), .int .u8 (t : Int), (.slice ap xs.length cp), .int .u8 (m' : Int), .int .u8 (t' : Int), (.slice bp ys.length cq)]) (#[.int .u8 (r'.a.mark : Int), .int .u8 (r'.a.turn : Int), (.slice a3 r'.a.data.length c3), .int .u8 (r'.b.mark : Int), .int .u8 (r'.b.turn : Int), (.slice a4 r'.b.data.length c4)]) (.slice a1 r'.a.data.length c1) (.slice a2 r'.b.data.length c2) (.slice ap xs.length cp) (.slice bp ys.length cq) (.slice none 0 0) (.slice a3 r'.a.data.length c3) (.slice a4 r'.b.data.length c4) r'.a.data r'.b.data xs' ys' (marks 1 r'.a.data.length) (marks (1 + r'.a.data.length) r'.b.data.length) [] Y) := H18.out.below bc
  have E21 := ER' o5.at o6.at H21.out.o1.at H21.out.o2.at
  have L21 := bxh.load rfl
  have K21 := H21.out.b0.load rfl
  clear bc bxh o5 o6 H18
  go_wp2_with (refine list_loadH (t := 32) (x := .pointer (some ⟨kh, 0, none⟩)) rfl rfl rfl L21 ?_; refine list_loadH (t := 32) (x := .pointer (some ⟨k0, 0, none⟩)) rfl rfl rfl K21 ?_)
  clear L21 K21
  refine E21.mono ?_
  rintro e w22 ⟨rfl, b22⟩
  have H22 : Hid (HyS W i0 i1 w4.heap.size w6.heap.size V.heap.size V.heap.size i6 i7 k0 kg (#[.int .u8 (r'.a.mark : Int), .int .u8 (r'.a.turn : Int), (.slice a1 r'.a.data.length c1), .int .u8 (r'.b.mark : Int), .int .u8 (r'.b.turn : Int), (.slice a2 r'.b.data.length c2)]) (#[.int .u8 (m : Int), .int .u8 (t : Int), (.slice ap xs.length cp), .int .u8 (m' : Int), .int .u8 (t' : Int), (.slice bp ys.length cq)]) (#[.int .u8 (r'.a.mark : Int), .int .u8 (r'.a.turn : Int), (.slice a3 r'.a.data.length c3), .int .u8 (r'.b.mark : Int), .int .u8 (r'.b.turn : Int), (.slice a4 r'.b.data.length c4)]) (.slice a1 r'.a.data.length c1) (.slice a2 r'.b.data.length c2) (.slice ap xs.length cp) (.slice bp ys.length cq) (.slice none 0 0) (.slice a3 r'.a.data.length c3) (.slice a4 r'.b.data.length c4) r'.a.data r'.b.data xs' ys' (marks 1 r'.a.data.length) (marks (1 + r'.a.data.length) r'.b.data.length) [] w22) := H21.out.below b22
  clear b22 E21 H21
  have E22 := EG H22.out.og.at H22.out.oh.at
  have L22 := H22.out.bg.load rfl
  go_wp2_with (refine list_loadH (t := 32) (x := .pointer (some ⟨kg, 0, none⟩)) rfl rfl rfl L22 ?_)
  clear L22
  refine E22.mono ?_
  rintro e w23 ⟨rfl, b23⟩
  have H23 : Hid (Below W.heap.size W w23) := (H22.out.below b23).bW
  clear b23 E22 H22
  go_wp2_with fail
  go_ret
  exact ⟨rfl, HB.out.1.trans (H23.out.mono HB.out.1.size)⟩

theorem law (m t m' t' : Nat) (a a' : Option Addr) (n c n' c' : Nat) (k s : Int) (b : Nat) (w : World) (hm : m ≤ 255) (ht : t ≤ 255) (hm' : m' ≤ 255) (ht' : t' ≤ 255) (C : CodeAt (.slice a n c) w) (D : CodeAt (.slice a' n' c') w) (hn : n ≤ 9223372036854775807) (hn' : n' ≤ 9223372036854775807) (hb : b ≤ 255) :
    Calls Try.prog 3 #[.agg #[.int .u8 (m : Int), .int .u8 (t : Int), .slice a n c, .int .u8 (m' : Int), .int .u8 (t' : Int), .slice a' n' c'], .agg #[.int .i64 k, .int .i64 s, .int .u8 (b : Int)]] w fun e w' => e = .returned (.bool true) ∧ Below w.heap.size w w' := by
  obtain ⟨xs, A, hx⟩ := code_bytes C
  obtain ⟨ys, B, hy⟩ := code_bytes D
  have lx : xs.length = n := by
    obtain ⟨a, cap, e, -⟩ := A
    simp only [Value.slice.injEq] at e
    omega
  have ly : ys.length = n' := by
    obtain ⟨a, cap, e, -⟩ := B
    simp only [Value.slice.injEq] at e
    omega
  exact law_args m t m' t' _ _ xs ys k s b w hm ht hm' ht' hx hy hb A B (by omega) (by omega)

end Go.Proofs.Ytdhoimjkgicneac
