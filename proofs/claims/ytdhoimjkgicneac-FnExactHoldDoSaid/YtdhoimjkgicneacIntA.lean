/- The specification's write into a slot, whatever it is; its HoldDo. -/
import Derived.Test.YtdhoimjkgicneacHolS
import Derived.Test.YtdhoimjkgicneacHolT
import Derived.Test.YtdhoimjkgicneacHelC
namespace Go.Proofs.Ytdhoimjkgicneac
open Go Go.RowKit

set_option maxRecDepth 100000 in
set_option maxHeartbeats 3200000 in
/-- A byte put behind a slot's bytes, in new memory. -/
theorem into_put (m t : Nat) (xs : List Nat) (sl : Int) (b : Nat) (d : Value) (w : World) (hd : BytesAt d xs w) (hn : xs.length < 20100) :
    Calls Try.prog 46 #[.agg #[.int .u8 (m : Int), .int .u8 (t : Int), d], .agg #[.int .i64 4, .int .i64 sl, .int .u8 (b : Int)]] w fun e w' => ∃ d', e = .returned (.agg #[.int .u8 (m : Int), .int .u8 (t : Int), d']) ∧ Own w.heap.size d' (xs ++ [b]) w' ∧ Below w.heap.size w w' := by
  have hn' : (xs.length : Int) < 20100 := by omega
  have HD : Hid (BytesAt d xs w) := hd
  obtain ⟨ad, cd, rfl⟩ := hd.len
  clear hd
  obtain ⟨U, hU⟩ : ∃ U, U = ((w.alloc (.cells #[.int .u8 (m : Int), .int .u8 (t : Int), .slice ad xs.length cd] 30)).alloc (.cells #[.int .i64 4, .int .i64 sl, .int .u8 (b : Int)] 35)).alloc (.cells #[.int .u8 0, .int .u8 0, .slice none 0 0] 30) := ⟨_, rfl⟩
  have b0 : Below w.heap.size w U := by rw [hU]; exact (((Below.refl w.heap.size w).alloc (Nat.le_refl _) _).alloc (by simp) _).alloc (by simp; omega) _
  have zU : U.heap.size = w.heap.size + 3 := by rw [hU]; simp
  have ca : ∀ k u, #[.int .u8 (m : Int), .int .u8 (t : Int), .slice ad xs.length cd][k]? = some u → U.cell? ⟨w.heap.size, k, none⟩ = some u := fun k u hu => by rw [hU]; exact cell_pastH (by simp; omega) (cell_pastH (by simp) (cell_lastH rfl hu))
  have cb : ∀ k u, #[.int .i64 4, .int .i64 sl, .int .u8 (b : Int)][k]? = some u → U.cell? ⟨w.heap.size + 1, k, none⟩ = some u := fun k u hu => by rw [hU]; exact cell_pastH (by simp) (cell_lastH (by simp) hu)
  have cc : ∀ k u, #[.int .u8 0, .int .u8 0, (.slice none 0 0 : Value)][k]? = some u → U.cell? ⟨w.heap.size + 1 + 1, k, none⟩ = some u := fun k u hu => by rw [hU]; exact cell_lastH (by simp) hu
  have fa : ∀ k, U.frozen? ⟨w.heap.size, k, none⟩ = false := fun k => by rw [hU]; exact frozen_pastH (by simp; omega) (frozen_pastH (by simp) (frozen_lastH rfl))
  have fc : ∀ k, U.frozen? ⟨w.heap.size + 1 + 1, k, none⟩ = false := fun k => by rw [hU]; exact frozen_lastH (by simp)
  have HU : Hid (Below w.heap.size w U ∧ U.heap.size = w.heap.size + 3 ∧ (∀ k u, #[.int .u8 (m : Int), .int .u8 (t : Int), .slice ad xs.length cd][k]? = some u → U.cell? ⟨w.heap.size, k, none⟩ = some u) ∧ (∀ k u, #[.int .u8 0, .int .u8 0, (.slice none 0 0 : Value)][k]? = some u → U.cell? ⟨w.heap.size + 1 + 1, k, none⟩ = some u) ∧ (∀ k, U.frozen? ⟨w.heap.size, k, none⟩ = false) ∧ (∀ k, U.frozen? ⟨w.heap.size + 1 + 1, k, none⟩ = false)) := ⟨b0, zU, ca, cc, fa, fc⟩
  have CS : ∀ v, Below U.heap.size U v → Calls Try.prog 58 #[.slice ad xs.length cd] v fun e w' => ∃ d', e = .returned d' ∧ Own v.heap.size d' xs w' ∧ Below v.heap.size v w' := fun v hv => copy_spec _ xs v (HD.out.below (HU.out.1.trans (hv.mono HU.out.1.size)) (Nat.le_refl _)) (by omega)
  have cb2 := cb 2 _ rfl
  clear b0 ca cb cc fa fc zU
  go_enter Try.func46, Try.ntmps46
  go_wp2_with fail
  rw [← hU]
  clear hU
  have hS : U.drew.cell? ⟨w.heap.size + 1, 2, none⟩ = some (.int .u8 (b : Int)) := cb2
  have hB : Below U.heap.size U U.drew := (Below.refl _ _).drew
  refine wp_region_held (S := fun w' => w'.cell? ⟨w.heap.size + 1, 2, none⟩ = some (.int .u8 (b : Int))) (by kernel_rfl) ?_
  refine held_any (fuel := 8) (i := 0) (v := .pointer (some ⟨w.heap.size, 2, none⟩)) rfl (by kernel_rfl) (by kernel_rfl) (by kernel_rfl) rfl (fun _ _ _ h => h) (fun _ _ => by simp [go_sem]) hS ?_
  go_simp
  refine held_any (fuel := 7) (i := 3) (v := .pointer (some ⟨w.heap.size + 1, 2, none⟩)) rfl (by kernel_rfl) (by kernel_rfl) (by kernel_rfl) rfl (fun _ _ _ h => h) (fun _ _ => by simp [go_sem]) hS ?_
  go_simp
  refine held_load (fuel := 6) (i := 4) (t := 5) (v := .int .u8 (b : Int)) rfl rfl rfl (by kernel_rfl) (by kernel_rfl) (by kernel_rfl) rfl (fun _ _ _ h => h) (fun w' hw' => load_byte hw') hS ?_
  go_simp
  have KK : ∀ v, Below U.heap.size U v → ∀ (q o : Nat), q < w.heap.size + 3 → v.cell? ⟨q, o, none⟩ = U.cell? ⟨q, o, none⟩ := fun v hv q o hq => hv.cell (p := ⟨q, o, none⟩) (by show q < _; rw [HU.out.2.1]; exact hq)
  have ZZ : ∀ v, Below U.heap.size U v → ∀ (q o : Nat), q < w.heap.size + 3 → v.frozen? ⟨q, o, none⟩ = U.frozen? ⟨q, o, none⟩ := fun v hv q o hq => World.frozen?_of_block (hv.block q (by rw [HU.out.2.1]; exact hq))
  have LD : ∀ v, Below U.heap.size U v → (Instr.loadAt 22 (.pointer (some ⟨w.heap.size, 2, none⟩))).run Try.prog v = .ok (.slice ad xs.length cd) v := fun v hv => by
    have := (KK v hv w.heap.size 2 (by omega)).trans (HU.out.2.2.1 2 _ rfl)
    simp [go_sem, this]

  obtain ⟨u, hu⟩ : ∃ u, u = U.drew := ⟨_, rfl⟩
  rw [← hu] at hS hB ⊢
  clear hu
  have hSu := hS
  have hBu := hB
  clear hS hB
  refine wpAnyH_ready (rs := [1, 5]) (by kernel_rfl) (by simp) ?_
  refine AllReadyH.cons rfl (fun K hK => ?_) ?_
  · skip
    rw [if_pos (by rfl)]
    refine op_load rfl (LD u hBu) ?_
    refine hK.out _ _ hSu (fun _ => ?_)
    clear hK K
    go_simp
    refine wpAnyH_ready (rs := [2, 5]) (by kernel_rfl) (by simp) ?_
    refine AllReadyH.cons rfl (fun K hK => ?_) ?_
    · skip
      go_simp
      refine (CS u hBu).mono ?_
      rintro e v1 ⟨d1, rfl, od, bb⟩
      have hBv1 : Below U.heap.size U v1 := hBu.trans (bb.mono hBu.size)
      have hSv1 : v1.cell? ⟨w.heap.size + 1, 2, none⟩ = some (.int .u8 (b : Int)) := (KK v1 hBv1 _ _ (by omega)).trans cb2
      have hO : Own U.heap.size d1 xs v1 := od.mono hBu.size
      obtain ⟨ax, cx, rfl⟩ := own_size od
      clear od bb
      refine hK.out _ _ hSv1 (fun _ => ?_)
      clear hK K
      go_simp
      refine wpAnyH_ready (rs := [5]) (by kernel_rfl) (by simp) ?_
      refine AllReadyH.cons rfl (fun K hK => ?_) AllReadyH.nil
      obtain ⟨v2, hv2⟩ : ∃ v, v = v1.alloc (.cells #[.int .u8 (b : Int)] 5) := ⟨_, rfl⟩
      have bb : Below v1.heap.size v1 v2 := by rw [hv2]; exact (Below.refl _ _).alloc (Nat.le_refl _) _
      have hBv2 : Below U.heap.size U v2 := hBv1.trans (bb.mono hBv1.size)
      have hSv2 : v2.cell? ⟨w.heap.size + 1, 2, none⟩ = some (.int .u8 (b : Int)) := (KK v2 hBv2 _ _ (by omega)).trans cb2
      have hLv2 : BytesAt (.slice (some ⟨v1.heap.size, 0, none⟩) 1 1) [b] v2 := by rw [hv2]; exact (bytes_one b v1 5 1).resolve_right (by simp)
      go_simp
      rw [← hv2]
      clear hv2
      replace hO := hO.below bb (Nat.le_refl _)
      clear bb
      refine hK.out _ _ hSv2 (fun _ => ?_)
      clear hK K
      go_simp
      refine wpAnyH_ready (rs := [6]) (by kernel_rfl) (by simp) ?_
      refine AllReadyH.cons rfl (fun K hK => ?_) AllReadyH.nil
      rw [if_pos (by rfl)]
      refine op_app U.heap.size (v := .slice ax xs.length cx) (s := .slice (some ⟨v1.heap.size, 0, none⟩) 1 1) (xs := xs) (ys := [b]) (.tmp 28) (.tmp 31) rfl rfl rfl hO hLv2 (by simp; omega) hBv2.size ?_
      intro d2 v3 o6 g6 _
      have hBv3 : Below U.heap.size U v3 := hBv2.trans (grown_below g6 hBv2.size (fun g hg => (World.ownsRow.lt hO g hg).1))
      have hSv3 : v3.cell? ⟨w.heap.size + 1, 2, none⟩ = some (.int .u8 (b : Int)) := (KK v3 hBv3 _ _ (by omega)).trans cb2
      have H6 : Hid (Own U.heap.size d2 (xs ++ [b]) v3 ∧ Below U.heap.size U v3) := ⟨o6, hBv3⟩
      refine hK.out _ _ hSv3 (fun _ => ?_)
      obtain ⟨az, cz, rfl⟩ := own_size o6
      have hlen : (xs ++ [b]).length = xs.length + 1 := by simp
      rw [hlen] at H6
      clear hlen
      clear hK K o6 g6 hO
      go_simp
      refine held_any (fuel := 1) (i := 7) (v := .pointer (some ⟨w.heap.size, 2, none⟩)) rfl (by kernel_rfl) (by kernel_rfl) (by kernel_rfl) rfl (fun _ _ _ h => h) (fun _ _ => by simp [go_sem]) hSv3 ?_
      go_simp
      refine wpAnyH_ready (rs := [8]) (by kernel_rfl) (by simp) ?_
      refine AllReadyH.cons rfl (fun K hK => ?_) AllReadyH.nil
      have k0 := (KK v3 hBv3 w.heap.size 0 (by omega)).trans (HU.out.2.2.1 0 _ rfl)
      have k1 := (KK v3 hBv3 w.heap.size 1 (by omega)).trans (HU.out.2.2.1 1 _ rfl)
      have k2 := (KK v3 hBv3 w.heap.size 2 (by omega)).trans (HU.out.2.2.1 2 _ rfl)
      have r0 := (KK v3 hBv3 (w.heap.size + 1 + 1) 0 (by omega)).trans (HU.out.2.2.2.1 0 _ rfl)
      have r1 := (KK v3 hBv3 (w.heap.size + 1 + 1) 1 (by omega)).trans (HU.out.2.2.2.1 1 _ rfl)
      have r2 := (KK v3 hBv3 (w.heap.size + 1 + 1) 2 (by omega)).trans (HU.out.2.2.2.1 2 _ rfl)
      have z2 := (ZZ v3 hBv3 w.heap.size 2 (by omega)).trans (HU.out.2.2.2.2.1 2)
      have f0 := (ZZ v3 hBv3 (w.heap.size + 1 + 1) 0 (by omega)).trans (HU.out.2.2.2.2.2 0)
      have f1 := (ZZ v3 hBv3 (w.heap.size + 1 + 1) 1 (by omega)).trans (HU.out.2.2.2.2.2 1)
      have f2 := (ZZ v3 hBv3 (w.heap.size + 1 + 1) 2 (by omega)).trans (HU.out.2.2.2.2.2 2)
      have hS9 : (v3.setCell ⟨w.heap.size, 2, none⟩ (.slice az (xs.length + 1) cz)).cell? ⟨w.heap.size + 1, 2, none⟩ = some (.int .u8 (b : Int)) := (World.cell?_setCell_other _ _ _ _ (by simp)).trans hSv3
      clear KK ZZ LD CS
      go_simp
      refine hK.out _ _ hS9 (fun _ => ?_)
      clear hK K hS9
      go_simp
      refine wpAnyH_done (by kernel_rfl) ?_ _
      go_wp2_with fail
      have o5 := H6.out.1
      have s3 := HU.out.2.1
      have n5 : ∀ q, q < w.heap.size + 3 → (Value.slice az (xs.length + 1) cz).ownBlock ≠ some q := fun q hq e => by have := (World.ownsRow.lt o5 q e).1; omega
      have bF := HU.out.1.trans (H6.out.2.mono HU.out.1.size)
      refine bodyPost_ret (v := .agg #[.int .u8 (m : Int), .int .u8 (t : Int), .slice az (xs.length + 1) cz]) (by simp [results, Try.results46, go_sem, r0, r1, r2]) rfl ?_
      exact ⟨_, rfl, ((((o5.setCell (n5 _ (by show w.heap.size < _; omega)) _).setCell (n5 _ (by show w.heap.size + 1 + 1 < _; omega)) _).setCell (n5 _ (by show w.heap.size + 1 + 1 < _; omega)) _).setCell (n5 _ (by show w.heap.size + 1 + 1 < _; omega)) _).mono (by omega), (((bF.setCell (Nat.le_refl _) _).setCell (by show _ ≤ w.heap.size + 1 + 1; omega) _).setCell (by show _ ≤ w.heap.size + 1 + 1; omega) _).setCell (by show _ ≤ w.heap.size + 1 + 1; omega) _⟩
    refine AllReadyH.cons rfl (fun K hK => ?_) AllReadyH.nil
    obtain ⟨v5, hv5⟩ : ∃ v, v = u.alloc (.cells #[.int .u8 (b : Int)] 5) := ⟨_, rfl⟩
    have bb : Below u.heap.size u v5 := by rw [hv5]; exact (Below.refl _ _).alloc (Nat.le_refl _) _
    have hBv5 : Below U.heap.size U v5 := hBu.trans (bb.mono hBu.size)
    have hSv5 : v5.cell? ⟨w.heap.size + 1, 2, none⟩ = some (.int .u8 (b : Int)) := (KK v5 hBv5 _ _ (by omega)).trans cb2
    have hLv5 : BytesAt (.slice (some ⟨u.heap.size, 0, none⟩) 1 1) [b] v5 := by rw [hv5]; exact (bytes_one b u 5 1).resolve_right (by simp)
    go_simp
    rw [← hv5]
    clear hv5
    clear bb
    refine hK.out _ _ hSv5 (fun _ => ?_)
    clear hK K
    go_simp
    refine wpAnyH_ready (rs := [2]) (by kernel_rfl) (by simp) ?_
    refine AllReadyH.cons rfl (fun K hK => ?_) AllReadyH.nil
    go_simp
    refine (CS v5 hBv5).mono ?_
    rintro e v6 ⟨d1, rfl, od, bb⟩
    have hBv6 : Below U.heap.size U v6 := hBv5.trans (bb.mono hBv5.size)
    have hSv6 : v6.cell? ⟨w.heap.size + 1, 2, none⟩ = some (.int .u8 (b : Int)) := (KK v6 hBv6 _ _ (by omega)).trans cb2
    have hO : Own U.heap.size d1 xs v6 := od.mono hBv5.size
    obtain ⟨ax, cx, rfl⟩ := own_size od
    have hLv6 : BytesAt (.slice (some ⟨u.heap.size, 0, none⟩) 1 1) [b] v6 := hLv5.below bb (Nat.le_refl _)
    clear od bb
    refine hK.out _ _ hSv6 (fun _ => ?_)
    clear hK K
    go_simp
    refine wpAnyH_ready (rs := [6]) (by kernel_rfl) (by simp) ?_
    refine AllReadyH.cons rfl (fun K hK => ?_) AllReadyH.nil
    rw [if_pos (by rfl)]
    refine op_app U.heap.size (v := .slice ax xs.length cx) (s := .slice (some ⟨u.heap.size, 0, none⟩) 1 1) (xs := xs) (ys := [b]) (.tmp 28) (.tmp 31) rfl rfl rfl hO hLv6 (by simp; omega) hBv6.size ?_
    intro d2 v7 o6 g6 _
    have hBv7 : Below U.heap.size U v7 := hBv6.trans (grown_below g6 hBv6.size (fun g hg => (World.ownsRow.lt hO g hg).1))
    have hSv7 : v7.cell? ⟨w.heap.size + 1, 2, none⟩ = some (.int .u8 (b : Int)) := (KK v7 hBv7 _ _ (by omega)).trans cb2
    have H6 : Hid (Own U.heap.size d2 (xs ++ [b]) v7 ∧ Below U.heap.size U v7) := ⟨o6, hBv7⟩
    refine hK.out _ _ hSv7 (fun _ => ?_)
    obtain ⟨az, cz, rfl⟩ := own_size o6
    have hlen : (xs ++ [b]).length = xs.length + 1 := by simp
    rw [hlen] at H6
    clear hlen
    clear hK K o6 g6 hO
    go_simp
    refine held_any (fuel := 1) (i := 7) (v := .pointer (some ⟨w.heap.size, 2, none⟩)) rfl (by kernel_rfl) (by kernel_rfl) (by kernel_rfl) rfl (fun _ _ _ h => h) (fun _ _ => by simp [go_sem]) hSv7 ?_
    go_simp
    refine wpAnyH_ready (rs := [8]) (by kernel_rfl) (by simp) ?_
    refine AllReadyH.cons rfl (fun K hK => ?_) AllReadyH.nil
    have k0 := (KK v7 hBv7 w.heap.size 0 (by omega)).trans (HU.out.2.2.1 0 _ rfl)
    have k1 := (KK v7 hBv7 w.heap.size 1 (by omega)).trans (HU.out.2.2.1 1 _ rfl)
    have k2 := (KK v7 hBv7 w.heap.size 2 (by omega)).trans (HU.out.2.2.1 2 _ rfl)
    have r0 := (KK v7 hBv7 (w.heap.size + 1 + 1) 0 (by omega)).trans (HU.out.2.2.2.1 0 _ rfl)
    have r1 := (KK v7 hBv7 (w.heap.size + 1 + 1) 1 (by omega)).trans (HU.out.2.2.2.1 1 _ rfl)
    have r2 := (KK v7 hBv7 (w.heap.size + 1 + 1) 2 (by omega)).trans (HU.out.2.2.2.1 2 _ rfl)
    have z2 := (ZZ v7 hBv7 w.heap.size 2 (by omega)).trans (HU.out.2.2.2.2.1 2)
    have f0 := (ZZ v7 hBv7 (w.heap.size + 1 + 1) 0 (by omega)).trans (HU.out.2.2.2.2.2 0)
    have f1 := (ZZ v7 hBv7 (w.heap.size + 1 + 1) 1 (by omega)).trans (HU.out.2.2.2.2.2 1)
    have f2 := (ZZ v7 hBv7 (w.heap.size + 1 + 1) 2 (by omega)).trans (HU.out.2.2.2.2.2 2)
    have hS9 : (v7.setCell ⟨w.heap.size, 2, none⟩ (.slice az (xs.length + 1) cz)).cell? ⟨w.heap.size + 1, 2, none⟩ = some (.int .u8 (b : Int)) := (World.cell?_setCell_other _ _ _ _ (by simp)).trans hSv7
    clear KK ZZ LD CS
    go_simp
    refine hK.out _ _ hS9 (fun _ => ?_)
    clear hK K hS9
    go_simp
    refine wpAnyH_done (by kernel_rfl) ?_ _
    go_wp2_with fail
    have o5 := H6.out.1
    have s3 := HU.out.2.1
    have n5 : ∀ q, q < w.heap.size + 3 → (Value.slice az (xs.length + 1) cz).ownBlock ≠ some q := fun q hq e => by have := (World.ownsRow.lt o5 q e).1; omega
    have bF := HU.out.1.trans (H6.out.2.mono HU.out.1.size)
    refine bodyPost_ret (v := .agg #[.int .u8 (m : Int), .int .u8 (t : Int), .slice az (xs.length + 1) cz]) (by simp [results, Try.results46, go_sem, r0, r1, r2]) rfl ?_
    exact ⟨_, rfl, ((((o5.setCell (n5 _ (by show w.heap.size < _; omega)) _).setCell (n5 _ (by show w.heap.size + 1 + 1 < _; omega)) _).setCell (n5 _ (by show w.heap.size + 1 + 1 < _; omega)) _).setCell (n5 _ (by show w.heap.size + 1 + 1 < _; omega)) _).mono (by omega), (((bF.setCell (Nat.le_refl _) _).setCell (by show _ ≤ w.heap.size + 1 + 1; omega) _).setCell (by show _ ≤ w.heap.size + 1 + 1; omega) _).setCell (by show _ ≤ w.heap.size + 1 + 1; omega) _⟩
  refine AllReadyH.cons rfl (fun K hK => ?_) AllReadyH.nil
  obtain ⟨v9, hv9⟩ : ∃ v, v = u.alloc (.cells #[.int .u8 (b : Int)] 5) := ⟨_, rfl⟩
  have bb : Below u.heap.size u v9 := by rw [hv9]; exact (Below.refl _ _).alloc (Nat.le_refl _) _
  have hBv9 : Below U.heap.size U v9 := hBu.trans (bb.mono hBu.size)
  have hSv9 : v9.cell? ⟨w.heap.size + 1, 2, none⟩ = some (.int .u8 (b : Int)) := (KK v9 hBv9 _ _ (by omega)).trans cb2
  have hLv9 : BytesAt (.slice (some ⟨u.heap.size, 0, none⟩) 1 1) [b] v9 := by rw [hv9]; exact (bytes_one b u 5 1).resolve_right (by simp)
  go_simp
  rw [← hv9]
  clear hv9
  clear bb
  refine hK.out _ _ hSv9 (fun _ => ?_)
  clear hK K
  go_simp
  refine wpAnyH_ready (rs := [1]) (by kernel_rfl) (by simp) ?_
  refine AllReadyH.cons rfl (fun K hK => ?_) AllReadyH.nil
  rw [if_pos (by rfl)]
  refine op_load rfl (LD v9 hBv9) ?_
  refine hK.out _ _ hSv9 (fun _ => ?_)
  clear hK K
  go_simp
  refine wpAnyH_ready (rs := [2]) (by kernel_rfl) (by simp) ?_
  refine AllReadyH.cons rfl (fun K hK => ?_) AllReadyH.nil
  go_simp
  refine (CS v9 hBv9).mono ?_
  rintro e v11 ⟨d1, rfl, od, bb⟩
  have hBv11 : Below U.heap.size U v11 := hBv9.trans (bb.mono hBv9.size)
  have hSv11 : v11.cell? ⟨w.heap.size + 1, 2, none⟩ = some (.int .u8 (b : Int)) := (KK v11 hBv11 _ _ (by omega)).trans cb2
  have hO : Own U.heap.size d1 xs v11 := od.mono hBv9.size
  obtain ⟨ax, cx, rfl⟩ := own_size od
  have hLv11 : BytesAt (.slice (some ⟨u.heap.size, 0, none⟩) 1 1) [b] v11 := hLv9.below bb (Nat.le_refl _)
  clear od bb
  refine hK.out _ _ hSv11 (fun _ => ?_)
  clear hK K
  go_simp
  refine wpAnyH_ready (rs := [6]) (by kernel_rfl) (by simp) ?_
  refine AllReadyH.cons rfl (fun K hK => ?_) AllReadyH.nil
  rw [if_pos (by rfl)]
  refine op_app U.heap.size (v := .slice ax xs.length cx) (s := .slice (some ⟨u.heap.size, 0, none⟩) 1 1) (xs := xs) (ys := [b]) (.tmp 28) (.tmp 31) rfl rfl rfl hO hLv11 (by simp; omega) hBv11.size ?_
  intro d2 v12 o6 g6 _
  have hBv12 : Below U.heap.size U v12 := hBv11.trans (grown_below g6 hBv11.size (fun g hg => (World.ownsRow.lt hO g hg).1))
  have hSv12 : v12.cell? ⟨w.heap.size + 1, 2, none⟩ = some (.int .u8 (b : Int)) := (KK v12 hBv12 _ _ (by omega)).trans cb2
  have H6 : Hid (Own U.heap.size d2 (xs ++ [b]) v12 ∧ Below U.heap.size U v12) := ⟨o6, hBv12⟩
  refine hK.out _ _ hSv12 (fun _ => ?_)
  obtain ⟨az, cz, rfl⟩ := own_size o6
  have hlen : (xs ++ [b]).length = xs.length + 1 := by simp
  rw [hlen] at H6
  clear hlen
  clear hK K o6 g6 hO
  go_simp
  refine held_any (fuel := 1) (i := 7) (v := .pointer (some ⟨w.heap.size, 2, none⟩)) rfl (by kernel_rfl) (by kernel_rfl) (by kernel_rfl) rfl (fun _ _ _ h => h) (fun _ _ => by simp [go_sem]) hSv12 ?_
  go_simp
  refine wpAnyH_ready (rs := [8]) (by kernel_rfl) (by simp) ?_
  refine AllReadyH.cons rfl (fun K hK => ?_) AllReadyH.nil
  have k0 := (KK v12 hBv12 w.heap.size 0 (by omega)).trans (HU.out.2.2.1 0 _ rfl)
  have k1 := (KK v12 hBv12 w.heap.size 1 (by omega)).trans (HU.out.2.2.1 1 _ rfl)
  have k2 := (KK v12 hBv12 w.heap.size 2 (by omega)).trans (HU.out.2.2.1 2 _ rfl)
  have r0 := (KK v12 hBv12 (w.heap.size + 1 + 1) 0 (by omega)).trans (HU.out.2.2.2.1 0 _ rfl)
  have r1 := (KK v12 hBv12 (w.heap.size + 1 + 1) 1 (by omega)).trans (HU.out.2.2.2.1 1 _ rfl)
  have r2 := (KK v12 hBv12 (w.heap.size + 1 + 1) 2 (by omega)).trans (HU.out.2.2.2.1 2 _ rfl)
  have z2 := (ZZ v12 hBv12 w.heap.size 2 (by omega)).trans (HU.out.2.2.2.2.1 2)
  have f0 := (ZZ v12 hBv12 (w.heap.size + 1 + 1) 0 (by omega)).trans (HU.out.2.2.2.2.2 0)
  have f1 := (ZZ v12 hBv12 (w.heap.size + 1 + 1) 1 (by omega)).trans (HU.out.2.2.2.2.2 1)
  have f2 := (ZZ v12 hBv12 (w.heap.size + 1 + 1) 2 (by omega)).trans (HU.out.2.2.2.2.2 2)
  have hS9 : (v12.setCell ⟨w.heap.size, 2, none⟩ (.slice az (xs.length + 1) cz)).cell? ⟨w.heap.size + 1, 2, none⟩ = some (.int .u8 (b : Int)) := (World.cell?_setCell_other _ _ _ _ (by simp)).trans hSv12
  clear KK ZZ LD CS
  go_simp
  refine hK.out _ _ hS9 (fun _ => ?_)
  clear hK K hS9
  go_simp
  refine wpAnyH_done (by kernel_rfl) ?_ _
  go_wp2_with fail
  have o5 := H6.out.1
  have s3 := HU.out.2.1
  have n5 : ∀ q, q < w.heap.size + 3 → (Value.slice az (xs.length + 1) cz).ownBlock ≠ some q := fun q hq e => by have := (World.ownsRow.lt o5 q e).1; omega
  have bF := HU.out.1.trans (H6.out.2.mono HU.out.1.size)
  refine bodyPost_ret (v := .agg #[.int .u8 (m : Int), .int .u8 (t : Int), .slice az (xs.length + 1) cz]) (by simp [results, Try.results46, go_sem, r0, r1, r2]) rfl ?_
  exact ⟨_, rfl, ((((o5.setCell (n5 _ (by show w.heap.size < _; omega)) _).setCell (n5 _ (by show w.heap.size + 1 + 1 < _; omega)) _).setCell (n5 _ (by show w.heap.size + 1 + 1 < _; omega)) _).setCell (n5 _ (by show w.heap.size + 1 + 1 < _; omega)) _).mono (by omega), (((bF.setCell (Nat.le_refl _) _).setCell (by show _ ≤ w.heap.size + 1 + 1; omega) _).setCell (by show _ ≤ w.heap.size + 1 + 1; omega) _).setCell (by show _ ≤ w.heap.size + 1 + 1; omega) _⟩

end Go.Proofs.Ytdhoimjkgicneac
