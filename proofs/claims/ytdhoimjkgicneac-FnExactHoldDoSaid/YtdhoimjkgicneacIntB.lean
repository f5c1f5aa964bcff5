/- The specification's write into a slot, whatever it is; its HoldDo. -/
import Derived.Test.YtdhoimjkgicneacIntA
import Derived.Test.YtdhoimjkgicneacHelF
namespace Go.Proofs.Ytdhoimjkgicneac
open Go Go.RowKit

set_option maxRecDepth 100000 in
set_option maxHeartbeats 800000 in
theorem into_all (s : Sl) (x : Wr) (d : Value) (w : World) (hd : BytesAt d s.data w) :
    Calls Try.prog 46 #[slV s d, wrV x] w fun e w' => (∃ d', e = .returned (slV (s.into x) d') ∧ ((d' = d ∧ (s.into x).data = s.data) ∨ Own w.heap.size d' (s.into x).data w')) ∧ Below w.heap.size w w' := by
  by_cases hk : x.kind = 4
  · obtain ⟨m, t, xs⟩ := s
    obtain ⟨k, sl, b⟩ := x
    simp only at hk
    subst hk
    simp only [slV, wrV]
    by_cases hn : xs.length < 20100
    · have e : (Sl.mk m t xs).into ⟨4, sl, b⟩ = ⟨m, t, xs ++ [b]⟩ := by simp [Sl.into, hn]
      rw [e]
      exact (into_put m t xs sl b d w hd hn).mono fun _ _ ⟨d', h1, h2, h3⟩ => ⟨⟨d', h1, Or.inr h2⟩, h3⟩
    · have e : (Sl.mk m t xs).into ⟨4, sl, b⟩ = ⟨m, t, xs⟩ := by simp [Sl.into, hn]
      rw [e]
      have hn' : ¬ (xs.length : Int) < 20100 := by omega
      obtain ⟨ad, cd, rfl⟩ := hd.len
      clear hd e
      have HB : Hid (Below w.heap.size w (((w.alloc (.cells #[.int .u8 (m : Int), .int .u8 (t : Int), .slice ad xs.length cd] 30)).alloc (.cells #[.int .i64 4, .int .i64 sl, .int .u8 (b : Int)] 35)).alloc (.cells #[.int .u8 (m : Int), .int .u8 (t : Int), .slice ad xs.length cd] 30))) := (((Below.refl w.heap.size w).alloc (Nat.le_refl _) _).alloc (by simp) _).alloc (by simp; omega) _
      go_enter Try.func46, Try.ntmps46
      go_wp2_with fail
      refine bodyPost_ret (v := .agg #[.int .u8 (m : Int), .int .u8 (t : Int), .slice ad xs.length cd]) (by simp [results, Try.results46, go_sem]) rfl ?_
      exact ⟨⟨_, rfl, Or.inl (by first | exact ⟨rfl, rfl⟩ | exact rfl)⟩, HB.out⟩
  · obtain ⟨ad, cd, rfl⟩ := hd.len
    refine (into_spec s x ad s.data.length cd w hk).mono ?_
    rintro e w' ⟨⟨d', h1, h2⟩, h3⟩
    refine ⟨⟨d', h1, ?_⟩, h3⟩
    rcases h2 with ⟨rfl, h4⟩ | ⟨rfl, h4⟩
    · exact Or.inl ⟨rfl, h4⟩
    · rw [h4]
      exact Or.inr (own_nil _ _)

set_option maxRecDepth 100000 in
set_option maxHeartbeats 3200000 in
theorem do_spec (v : Value) (r : Ro) (x : Wr) (w : World) (h : RomAt v r w) :
    Calls Try.prog 12 #[v, wrV x] w fun e w' => ∃ da db, e = .returned (romV (r.write x) da db) ∧ Own w.heap.size da (r.write x).a.data w' ∧ Own w.heap.size db (r.write x).b.data w' ∧ Below w.heap.size w w' := by
  have HR : Hid (RomAt v r w) := h
  obtain ⟨ok, da, db, rfl, ha, hb'⟩ := h
  obtain ⟨aa, ca, rfl⟩ := ha.len
  obtain ⟨ab, cb, rfl⟩ := hb'.len
  clear ha hb' ok
  obtain ⟨kd, sl, bt⟩ := x
  simp only [romV, wrV] at HR ⊢
  obtain ⟨U, hU⟩ : ∃ U, U = ((w.alloc (.cells #[.int .u8 (r.a.mark : Int), .int .u8 (r.a.turn : Int), .slice aa r.a.data.length ca, .int .u8 (r.b.mark : Int), .int .u8 (r.b.turn : Int), .slice ab r.b.data.length cb] 32)).alloc (.cells #[.int .i64 kd, .int .i64 sl, .int .u8 (bt : Int)] 35)).alloc (.cells #[.int .u8 0, .int .u8 0, .slice none 0 0, .int .u8 0, .int .u8 0, .slice none 0 0] 32) := ⟨_, rfl⟩
  have b0 : Below w.heap.size w U := by rw [hU]; exact (((Below.refl w.heap.size w).alloc (Nat.le_refl _) _).alloc (by simp) _).alloc (by simp; omega) _
  have zU : U.heap.size = w.heap.size + 3 := by rw [hU]; simp
  have ca0 : ∀ k u, #[.int .u8 (r.a.mark : Int), .int .u8 (r.a.turn : Int), .slice aa r.a.data.length ca, .int .u8 (r.b.mark : Int), .int .u8 (r.b.turn : Int), .slice ab r.b.data.length cb][k]? = some u → U.cell? ⟨w.heap.size, k, none⟩ = some u := fun k u hu => by rw [hU]; exact cell_pastH (by simp; omega) (cell_pastH (by simp) (cell_lastH rfl hu))
  have cb0 : ∀ k u, #[.int .i64 kd, .int .i64 sl, .int .u8 (bt : Int)][k]? = some u → U.cell? ⟨w.heap.size + 1, k, none⟩ = some u := fun k u hu => by rw [hU]; exact cell_pastH (by simp) (cell_lastH (by simp) hu)
  have cc0 : ∀ k u, #[.int .u8 0, .int .u8 0, .slice none 0 0, .int .u8 0, .int .u8 0, (.slice none 0 0 : Value)][k]? = some u → U.cell? ⟨w.heap.size + 1 + 1, k, none⟩ = some u := fun k u hu => by rw [hU]; exact cell_lastH (by simp) hu
  have fa : ∀ k, U.frozen? ⟨w.heap.size, k, none⟩ = false := fun k => by rw [hU]; exact frozen_pastH (by simp; omega) (frozen_pastH (by simp) (frozen_lastH rfl))
  have fc : ∀ k, U.frozen? ⟨w.heap.size + 1 + 1, k, none⟩ = false := fun k => by rw [hU]; exact frozen_lastH (by simp)
  have C := rom_spec _ r U (HR.out.below b0 (Nat.le_refl _))
  simp only [romV] at C
  go_enter Try.func12, Try.ntmps12
  go_wp2_with fail
  rw [← hU]
  clear hU
  refine C.mono ?_
  rintro e w1 ⟨d1, d2, rfl, o1, o2, s12, b1⟩
  clear C HR
  rw [zU] at o1 o2 b1
  have kk : ∀ (q o : Nat), q < w.heap.size + 3 → w1.cell? ⟨q, o, none⟩ = U.cell? ⟨q, o, none⟩ := fun q o h2 => b1.cell (p := ⟨q, o, none⟩) h2
  have zz : ∀ (q o : Nat), q < w.heap.size + 3 → w1.frozen? ⟨q, o, none⟩ = U.frozen? ⟨q, o, none⟩ := fun q o h2 => b1.frozen (p := ⟨q, o, none⟩) h2
  have p0 := (kk w.heap.size 0 (by omega)).trans (ca0 0 _ rfl)
  have p1 := (kk w.heap.size 1 (by omega)).trans (ca0 1 _ rfl)
  have p2 := (kk w.heap.size 2 (by omega)).trans (ca0 2 _ rfl)
  have p3 := (kk w.heap.size 3 (by omega)).trans (ca0 3 _ rfl)
  have p4 := (kk w.heap.size 4 (by omega)).trans (ca0 4 _ rfl)
  have p5 := (kk w.heap.size 5 (by omega)).trans (ca0 5 _ rfl)
  have y0 := (zz w.heap.size 0 (by omega)).trans (fa 0)
  have y1 := (zz w.heap.size 1 (by omega)).trans (fa 1)
  have y2 := (zz w.heap.size 2 (by omega)).trans (fa 2)
  have y3 := (zz w.heap.size 3 (by omega)).trans (fa 3)
  have y4 := (zz w.heap.size 4 (by omega)).trans (fa 4)
  have y5 := (zz w.heap.size 5 (by omega)).trans (fa 5)
  obtain ⟨a1, c1, rfl⟩ := own_size o1
  obtain ⟨a2, c2, rfl⟩ := own_size o2
  have n1 : ∀ q, q < w.heap.size + 3 → (Value.slice a1 r.a.data.length c1).ownBlock ≠ some q := fun q hq e => by have := (World.ownsRow.lt o1 q e).1; omega
  have n2 : ∀ q, q < w.heap.size + 3 → (Value.slice a2 r.b.data.length c2).ownBlock ≠ some q := fun q hq e => by have := (World.ownsRow.lt o2 q e).1; omega
  obtain ⟨V, hV⟩ : ∃ V, V = (((((w1.setCell ⟨w.heap.size, 0, none⟩ (.int .u8 (r.a.mark : Int))).setCell ⟨w.heap.size, 1, none⟩ (.int .u8 (r.a.turn : Int))).setCell ⟨w.heap.size, 2, none⟩ (.slice a1 r.a.data.length c1)).setCell ⟨w.heap.size, 3, none⟩ (.int .u8 (r.b.mark : Int))).setCell ⟨w.heap.size, 4, none⟩ (.int .u8 (r.b.turn : Int))).setCell ⟨w.heap.size, 5, none⟩ (.slice a2 r.b.data.length c2) := ⟨_, rfl⟩
  have sV : V.heap.size = w1.heap.size := by rw [hV]; simp
  have oV1 : Own (w.heap.size + 3) (.slice a1 r.a.data.length c1) r.a.data V := by rw [hV]; exact set6_own o1 (n1 _ (by omega)) _ _ _ _ _ _
  have oV2 : Own (w.heap.size + 3) (.slice a2 r.b.data.length c2) r.b.data V := by rw [hV]; exact set6_own o2 (n2 _ (by omega)) _ _ _ _ _ _
  have bV : Below w.heap.size w V := by rw [hV]; exact set6_below (b0.trans (b1.mono (by omega))) (Nat.le_refl _) _ _ _ _ _ _
  have v0 : V.cell? ⟨w.heap.size, 0, none⟩ = some (.int .u8 (r.a.mark : Int)) := by rw [hV]; simp [go_sem, p0]
  have v1 : V.cell? ⟨w.heap.size, 1, none⟩ = some (.int .u8 (r.a.turn : Int)) := by rw [hV]; simp [go_sem, p1]
  have v2 : V.cell? ⟨w.heap.size, 2, none⟩ = some (.slice a1 r.a.data.length c1) := by rw [hV]; simp [go_sem, p2]
  have v3 : V.cell? ⟨w.heap.size, 3, none⟩ = some (.int .u8 (r.b.mark : Int)) := by rw [hV]; simp [go_sem, p3]
  have v4 : V.cell? ⟨w.heap.size, 4, none⟩ = some (.int .u8 (r.b.turn : Int)) := by rw [hV]; simp [go_sem, p4]
  have v5 : V.cell? ⟨w.heap.size, 5, none⟩ = some (.slice a2 r.b.data.length c2) := by rw [hV]; simp [go_sem, p5]
  have oth : ∀ (q o : Nat), q ≠ w.heap.size → V.cell? ⟨q, o, none⟩ = w1.cell? ⟨q, o, none⟩ := fun q o hq => by
    have : ∀ j : Nat, (⟨w.heap.size, j, none⟩ : Addr) ≠ ⟨q, o, none⟩ := fun j e => by injection e with e1; exact hq e1.symm
    rw [hV, World.cell?_setCell_other _ _ _ _ (this _), World.cell?_setCell_other _ _ _ _ (this _), World.cell?_setCell_other _ _ _ _ (this _), World.cell?_setCell_other _ _ _ _ (this _), World.cell?_setCell_other _ _ _ _ (this _), World.cell?_setCell_other _ _ _ _ (this _)]
  have fV : ∀ (q o : Nat), V.frozen? ⟨q, o, none⟩ = w1.frozen? ⟨q, o, none⟩ := fun q o => by rw [hV]; simp
  have x0 := (oth (w.heap.size + 1) 0 (by omega)).trans ((kk _ _ (by omega)).trans (cb0 0 _ rfl))
  have x1 := (oth (w.heap.size + 1) 1 (by omega)).trans ((kk _ _ (by omega)).trans (cb0 1 _ rfl))
  have x2 := (oth (w.heap.size + 1) 2 (by omega)).trans ((kk _ _ (by omega)).trans (cb0 2 _ rfl))
  have rc : ∀ k u, #[.int .u8 0, .int .u8 0, .slice none 0 0, .int .u8 0, .int .u8 0, (.slice none 0 0 : Value)][k]? = some u → V.cell? ⟨w.heap.size + 1 + 1, k, none⟩ = some u := fun k u hu => (oth (w.heap.size + 1 + 1) k (by omega)).trans ((kk _ _ (by omega)).trans (cc0 k u hu))
  have ga : ∀ k, V.frozen? ⟨w.heap.size, k, none⟩ = false := fun k => (fV _ _).trans ((zz _ _ (by omega)).trans (fa k))
  have gc : ∀ k, V.frozen? ⟨w.heap.size + 1 + 1, k, none⟩ = false := fun k => (fV _ _).trans ((zz _ _ (by omega)).trans (fc k))
  have HV : Hid (Own (w.heap.size + 3) (.slice a1 r.a.data.length c1) r.a.data V ∧ Own (w.heap.size + 3) (.slice a2 r.b.data.length c2) r.b.data V ∧ Below w.heap.size w V ∧ w.heap.size + 3 ≤ V.heap.size ∧ (∀ k u, #[.int .u8 0, .int .u8 0, .slice none 0 0, .int .u8 0, .int .u8 0, (.slice none 0 0 : Value)][k]? = some u → V.cell? ⟨w.heap.size + 1 + 1, k, none⟩ = some u) ∧ (∀ k, V.frozen? ⟨w.heap.size, k, none⟩ = false) ∧ (∀ k, V.frozen? ⟨w.heap.size + 1 + 1, k, none⟩ = false)) := ⟨oV1, oV2, bV, by rw [sV]; have := b1.size; omega, rc, ga, gc⟩
  clear oV1 oV2 bV sV oth fV rc ga gc kk zz o1 o2 b1 b0 zU ca0 cb0 cc0 fa fc n1 n2
  obtain ⟨t0, t1, t2, t3, t4, t5⟩ : V.cell? ⟨w.heap.size, 0, none⟩ = some (.int .u8 (r.a.mark : Int)) ∧ V.cell? ⟨w.heap.size, 1, none⟩ = some (.int .u8 (r.a.turn : Int)) ∧ V.cell? ⟨w.heap.size, 2, none⟩ = some (.slice a1 r.a.data.length c1) ∧ V.cell? ⟨w.heap.size, 3, none⟩ = some (.int .u8 (r.b.mark : Int)) ∧ V.cell? ⟨w.heap.size, 4, none⟩ = some (.int .u8 (r.b.turn : Int)) ∧ V.cell? ⟨w.heap.size, 5, none⟩ = some (.slice a2 r.b.data.length c2) := ⟨v0, v1, v2, v3, v4, v5⟩
  by_cases hs0 : sl = 0
  · subst hs0
    have I := into_all r.a ⟨kd, 0, bt⟩ (.slice a1 r.a.data.length c1) V HV.out.1.at
    simp only [slV, wrV] at I
    go_upto_region 2 with fail
    rw [← hV]
    clear hV p0 p1 p2 p3 p4 p5 y0 y1 y2 y3 y4 y5
    go_wp2_with fail
    refine I.mono ?_
    rintro e w2 ⟨⟨d', rfl, hd'⟩, b2⟩
    clear I
    obtain ⟨s', hs'⟩ : ∃ s', s' = r.a.into ⟨kd, 0, bt⟩ := ⟨_, rfl⟩
    have HE : Hid (r.write ⟨kd, 0, bt⟩ = ⟨s', r.b⟩) := (show r.write ⟨kd, 0, bt⟩ = ⟨s', r.b⟩ by rw [hs']; simp [Ro.write])
    rw [← hs'] at hd' ⊢
    clear hs'
    have s3 := HV.out.2.2.2.1
    have kk : ∀ (q o : Nat), q < w.heap.size + 3 → w2.cell? ⟨q, o, none⟩ = V.cell? ⟨q, o, none⟩ := fun q o h2 => b2.cell (p := ⟨q, o, none⟩) (by show q < _; omega)
    have zz : ∀ (q o : Nat), q < w.heap.size + 3 → w2.frozen? ⟨q, o, none⟩ = V.frozen? ⟨q, o, none⟩ := fun q o h2 => b2.frozen (p := ⟨q, o, none⟩) (by show q < _; omega)
    have od : Own (w.heap.size + 3) d' s'.data w2 := by
      rcases hd' with ⟨rfl, h2⟩ | h2
      · rw [h2]; exact HV.out.1.below b2 (Nat.le_refl _)
      · exact h2.mono s3
    have oo : Own (w.heap.size + 3) (.slice a2 r.b.data.length c2) r.b.data w2 := HV.out.2.1.below b2 (Nat.le_refl _)
    have u0 := (kk w.heap.size 0 (by omega)).trans t0
    have u1 := (kk w.heap.size 1 (by omega)).trans t1
    have u2 := (kk w.heap.size 2 (by omega)).trans t2
    have u3 := (kk w.heap.size 3 (by omega)).trans t3
    have u4 := (kk w.heap.size 4 (by omega)).trans t4
    have u5 := (kk w.heap.size 5 (by omega)).trans t5
    have e0 := (kk (w.heap.size + 1) 0 (by omega)).trans x0
    have e1 := (kk (w.heap.size + 1) 1 (by omega)).trans x1
    have e2 := (kk (w.heap.size + 1) 2 (by omega)).trans x2
    have r0 := (kk (w.heap.size + 1 + 1) 0 (by omega)).trans (HV.out.2.2.2.2.1 0 _ rfl)
    have r1 := (kk (w.heap.size + 1 + 1) 1 (by omega)).trans (HV.out.2.2.2.2.1 1 _ rfl)
    have r2 := (kk (w.heap.size + 1 + 1) 2 (by omega)).trans (HV.out.2.2.2.2.1 2 _ rfl)
    have r3 := (kk (w.heap.size + 1 + 1) 3 (by omega)).trans (HV.out.2.2.2.2.1 3 _ rfl)
    have r4 := (kk (w.heap.size + 1 + 1) 4 (by omega)).trans (HV.out.2.2.2.2.1 4 _ rfl)
    have r5 := (kk (w.heap.size + 1 + 1) 5 (by omega)).trans (HV.out.2.2.2.2.1 5 _ rfl)
    have z0 := (zz w.heap.size 0 (by omega)).trans (HV.out.2.2.2.2.2.1 0)
    have z1 := (zz w.heap.size 1 (by omega)).trans (HV.out.2.2.2.2.2.1 1)
    have z2 := (zz w.heap.size 2 (by omega)).trans (HV.out.2.2.2.2.2.1 2)
    have f0 := (zz (w.heap.size + 1 + 1) 0 (by omega)).trans (HV.out.2.2.2.2.2.2 0)
    have f1 := (zz (w.heap.size + 1 + 1) 1 (by omega)).trans (HV.out.2.2.2.2.2.2 1)
    have f2 := (zz (w.heap.size + 1 + 1) 2 (by omega)).trans (HV.out.2.2.2.2.2.2 2)
    have f3 := (zz (w.heap.size + 1 + 1) 3 (by omega)).trans (HV.out.2.2.2.2.2.2 3)
    have f4 := (zz (w.heap.size + 1 + 1) 4 (by omega)).trans (HV.out.2.2.2.2.2.2 4)
    have f5 := (zz (w.heap.size + 1 + 1) 5 (by omega)).trans (HV.out.2.2.2.2.2.2 5)
    obtain ⟨a3, c3, rfl⟩ := own_size od
    have H2 : Hid (Own (w.heap.size + 3) (.slice a3 s'.data.length c3) s'.data w2 ∧ Own (w.heap.size + 3) (.slice a2 r.b.data.length c2) r.b.data w2 ∧ Below w.heap.size w w2) := ⟨od, oo, HV.out.2.2.1.trans (b2.mono HV.out.2.2.1.size)⟩
    clear od oo b2 kk zz hd' HV t0 t1 t2 t3 t4 t5 x0 x1 x2
    go_wp2_with fail
    have o5 := H2.out.1
    have o6 := H2.out.2.1
    have n5 : ∀ q, q < w.heap.size + 3 → (Value.slice a3 s'.data.length c3).ownBlock ≠ some q := fun q hq e => by have := (World.ownsRow.lt o5 q e).1; omega
    have n6 : ∀ q, q < w.heap.size + 3 → (Value.slice a2 r.b.data.length c2).ownBlock ≠ some q := fun q hq e => by have := (World.ownsRow.lt o6 q e).1; omega
    have h0 : w.heap.size < w.heap.size + 3 := by omega
    have h2 : w.heap.size + 1 + 1 < w.heap.size + 3 := by omega
    refine bodyPost_ret (v := .agg #[.int .u8 (s'.mark : Int), .int .u8 (s'.turn : Int), (.slice a3 s'.data.length c3), .int .u8 (r.b.mark : Int), .int .u8 (r.b.turn : Int), (.slice a2 r.b.data.length c2)]) (by simp [results, Try.results12, go_sem, r0, r1, r2, r3, r4, r5]) rfl ?_
    rw [HE.out]
    exact ⟨_, _, rfl, set6_own ((((o5.setCell (n5 _ h0) _).setCell (n5 _ h0) _).setCell (n5 _ h0) _).mono (by omega)) (n5 _ h2) _ _ _ _ _ _, set6_own ((((o6.setCell (n6 _ h0) _).setCell (n6 _ h0) _).setCell (n6 _ h0) _).mono (by omega)) (n6 _ h2) _ _ _ _ _ _, set6_below (((H2.out.2.2.setCell (Nat.le_refl _) _).setCell (Nat.le_refl _) _).setCell (Nat.le_refl _) _) (by omega) _ _ _ _ _ _⟩
  have q0 : (sl == 0) = false := by simpa using hs0
  by_cases hs1 : sl = 1
  · subst hs1
    have I := into_all r.b ⟨kd, 1, bt⟩ (.slice a2 r.b.data.length c2) V HV.out.2.1.at
    simp only [slV, wrV] at I
    go_upto_region 2 with fail
    rw [← hV]
    clear hV p0 p1 p2 p3 p4 p5 y0 y1 y2 y3 y4 y5
    go_wp2_with fail
    refine I.mono ?_
    rintro e w2 ⟨⟨d', rfl, hd'⟩, b2⟩
    clear I
    obtain ⟨s', hs'⟩ : ∃ s', s' = r.b.into ⟨kd, 1, bt⟩ := ⟨_, rfl⟩
    have HE : Hid (r.write ⟨kd, 1, bt⟩ = ⟨r.a, s'⟩) := (show r.write ⟨kd, 1, bt⟩ = ⟨r.a, s'⟩ by rw [hs']; simp [Ro.write])
    rw [← hs'] at hd' ⊢
    clear hs'
    have s3 := HV.out.2.2.2.1
    have kk : ∀ (q o : Nat), q < w.heap.size + 3 → w2.cell? ⟨q, o, none⟩ = V.cell? ⟨q, o, none⟩ := fun q o h2 => b2.cell (p := ⟨q, o, none⟩) (by show q < _; omega)
    have zz : ∀ (q o : Nat), q < w.heap.size + 3 → w2.frozen? ⟨q, o, none⟩ = V.frozen? ⟨q, o, none⟩ := fun q o h2 => b2.frozen (p := ⟨q, o, none⟩) (by show q < _; omega)
    have od : Own (w.heap.size + 3) d' s'.data w2 := by
      rcases hd' with ⟨rfl, h2⟩ | h2
      · rw [h2]; exact HV.out.2.1.below b2 (Nat.le_refl _)
      · exact h2.mono s3
    have oo : Own (w.heap.size + 3) (.slice a1 r.a.data.length c1) r.a.data w2 := HV.out.1.below b2 (Nat.le_refl _)
    have u0 := (kk w.heap.size 0 (by omega)).trans t0
    have u1 := (kk w.heap.size 1 (by omega)).trans t1
    have u2 := (kk w.heap.size 2 (by omega)).trans t2
    have u3 := (kk w.heap.size 3 (by omega)).trans t3
    have u4 := (kk w.heap.size 4 (by omega)).trans t4
    have u5 := (kk w.heap.size 5 (by omega)).trans t5
    have e0 := (kk (w.heap.size + 1) 0 (by omega)).trans x0
    have e1 := (kk (w.heap.size + 1) 1 (by omega)).trans x1
    have e2 := (kk (w.heap.size + 1) 2 (by omega)).trans x2
    have r0 := (kk (w.heap.size + 1 + 1) 0 (by omega)).trans (HV.out.2.2.2.2.1 0 _ rfl)
    have r1 := (kk (w.heap.size + 1 + 1) 1 (by omega)).trans (HV.out.2.2.2.2.1 1 _ rfl)
    have r2 := (kk (w.heap.size + 1 + 1) 2 (by omega)).trans (HV.out.2.2.2.2.1 2 _ rfl)
    have r3 := (kk (w.heap.size + 1 + 1) 3 (by omega)).trans (HV.out.2.2.2.2.1 3 _ rfl)
    have r4 := (kk (w.heap.size + 1 + 1) 4 (by omega)).trans (HV.out.2.2.2.2.1 4 _ rfl)
    have r5 := (kk (w.heap.size + 1 + 1) 5 (by omega)).trans (HV.out.2.2.2.2.1 5 _ rfl)
    have z0 := (zz w.heap.size 3 (by omega)).trans (HV.out.2.2.2.2.2.1 3)
    have z1 := (zz w.heap.size 4 (by omega)).trans (HV.out.2.2.2.2.2.1 4)
    have z2 := (zz w.heap.size 5 (by omega)).trans (HV.out.2.2.2.2.2.1 5)
    have f0 := (zz (w.heap.size + 1 + 1) 0 (by omega)).trans (HV.out.2.2.2.2.2.2 0)
    have f1 := (zz (w.heap.size + 1 + 1) 1 (by omega)).trans (HV.out.2.2.2.2.2.2 1)
    have f2 := (zz (w.heap.size + 1 + 1) 2 (by omega)).trans (HV.out.2.2.2.2.2.2 2)
    have f3 := (zz (w.heap.size + 1 + 1) 3 (by omega)).trans (HV.out.2.2.2.2.2.2 3)
    have f4 := (zz (w.heap.size + 1 + 1) 4 (by omega)).trans (HV.out.2.2.2.2.2.2 4)
    have f5 := (zz (w.heap.size + 1 + 1) 5 (by omega)).trans (HV.out.2.2.2.2.2.2 5)
    obtain ⟨a3, c3, rfl⟩ := own_size od
    have H2 : Hid (Own (w.heap.size + 3) (.slice a3 s'.data.length c3) s'.data w2 ∧ Own (w.heap.size + 3) (.slice a1 r.a.data.length c1) r.a.data w2 ∧ Below w.heap.size w w2) := ⟨od, oo, HV.out.2.2.1.trans (b2.mono HV.out.2.2.1.size)⟩
    clear od oo b2 kk zz hd' HV t0 t1 t2 t3 t4 t5 x0 x1 x2
    go_wp2_with fail
    have o5 := H2.out.1
    have o6 := H2.out.2.1
    have n5 : ∀ q, q < w.heap.size + 3 → (Value.slice a3 s'.data.length c3).ownBlock ≠ some q := fun q hq e => by have := (World.ownsRow.lt o5 q e).1; omega
    have n6 : ∀ q, q < w.heap.size + 3 → (Value.slice a1 r.a.data.length c1).ownBlock ≠ some q := fun q hq e => by have := (World.ownsRow.lt o6 q e).1; omega
    have h0 : w.heap.size < w.heap.size + 3 := by omega
    have h2 : w.heap.size + 1 + 1 < w.heap.size + 3 := by omega
    refine bodyPost_ret (v := .agg #[.int .u8 (r.a.mark : Int), .int .u8 (r.a.turn : Int), (.slice a1 r.a.data.length c1), .int .u8 (s'.mark : Int), .int .u8 (s'.turn : Int), (.slice a3 s'.data.length c3)]) (by simp [results, Try.results12, go_sem, r0, r1, r2, r3, r4, r5]) rfl ?_
    rw [HE.out]
    exact ⟨_, _, rfl, set6_own ((((o6.setCell (n6 _ h0) _).setCell (n6 _ h0) _).setCell (n6 _ h0) _).mono (by omega)) (n6 _ h2) _ _ _ _ _ _, set6_own ((((o5.setCell (n5 _ h0) _).setCell (n5 _ h0) _).setCell (n5 _ h0) _).mono (by omega)) (n5 _ h2) _ _ _ _ _ _, set6_below (((H2.out.2.2.setCell (Nat.le_refl _) _).setCell (Nat.le_refl _) _).setCell (Nat.le_refl _) _) (by omega) _ _ _ _ _ _⟩
  have q1 : (sl == 1) = false := by simpa using hs1
  have HE : Hid (r.write ⟨kd, sl, bt⟩ = r) := (show r.write ⟨kd, sl, bt⟩ = r by simp [Ro.write, hs0, hs1])
  have s3 := HV.out.2.2.2.1
  have r0 := HV.out.2.2.2.2.1 0 _ rfl
  have r1 := HV.out.2.2.2.2.1 1 _ rfl
  have r2 := HV.out.2.2.2.2.1 2 _ rfl
  have r3 := HV.out.2.2.2.2.1 3 _ rfl
  have r4 := HV.out.2.2.2.2.1 4 _ rfl
  have r5 := HV.out.2.2.2.2.1 5 _ rfl
  have f0 := HV.out.2.2.2.2.2.2 0
  have f1 := HV.out.2.2.2.2.2.2 1
  have f2 := HV.out.2.2.2.2.2.2 2
  have f3 := HV.out.2.2.2.2.2.2 3
  have f4 := HV.out.2.2.2.2.2.2 4
  have f5 := HV.out.2.2.2.2.2.2 5
  have H2 : Hid (Own (w.heap.size + 3) (.slice a1 r.a.data.length c1) r.a.data V ∧ Own (w.heap.size + 3) (.slice a2 r.b.data.length c2) r.b.data V ∧ Below w.heap.size w V) := ⟨HV.out.1, HV.out.2.1, HV.out.2.2.1⟩
  go_upto_region 2 with fail
  rw [← hV]
  clear hV p0 p1 p2 p3 p4 p5 y0 y1 y2 y3 y4 y5 HV
  go_wp2_with fail
  have o5 := H2.out.1
  have o6 := H2.out.2.1
  have n5 : ∀ q, q < w.heap.size + 3 → (Value.slice a1 r.a.data.length c1).ownBlock ≠ some q := fun q hq e => by have := (World.ownsRow.lt o5 q e).1; omega
  have n6 : ∀ q, q < w.heap.size + 3 → (Value.slice a2 r.b.data.length c2).ownBlock ≠ some q := fun q hq e => by have := (World.ownsRow.lt o6 q e).1; omega
  have h2 : w.heap.size + 1 + 1 < w.heap.size + 3 := by omega
  refine bodyPost_ret (v := .agg #[.int .u8 (r.a.mark : Int), .int .u8 (r.a.turn : Int), (.slice a1 r.a.data.length c1), .int .u8 (r.b.mark : Int), .int .u8 (r.b.turn : Int), (.slice a2 r.b.data.length c2)]) (by simp [results, Try.results12, go_sem, r0, r1, r2, r3, r4, r5]) rfl ?_
  rw [HE.out]
  exact ⟨_, _, rfl, set6_own (o5.mono (by omega)) (n5 _ h2) _ _ _ _ _ _, set6_own (o6.mono (by omega)) (n6 _ h2) _ _ _ _ _ _, set6_below H2.out.2.2 (by omega) _ _ _ _ _ _⟩

end Go.Proofs.Ytdhoimjkgicneac
