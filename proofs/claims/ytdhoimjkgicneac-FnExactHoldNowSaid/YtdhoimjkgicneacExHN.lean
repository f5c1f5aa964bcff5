/- At every store the program's HoldNow answers as the specification's: the law, walked. -/
import Derived.Test.YtdhoimjkgicneacExH0
import Derived.Test.YtdhoimjkgicneacHelG
namespace Go.Proofs.Ytdhoimjkgicneac
open Go Go.RowKit

set_option maxRecDepth 100000 in
set_option maxHeartbeats 3200000 in
theorem law_args (m t m' t' : Nat) (d d' : Value) (xs ys : List Nat) (w : World) (hm : m ≤ 255) (ht : t ≤ 255) (hm' : m' ≤ 255) (ht' : t' ≤ 255) (hx : ∀ x ∈ xs, x ≤ 255) (hy : ∀ x ∈ ys, x ≤ 255) (h : ByteArg d xs w) (h' : ByteArg d' ys w) (lx : xs.length ≤ 9223372036854775807) (ly : ys.length ≤ 9223372036854775807) :
    Calls Try.prog 6 #[.agg #[.int .u8 (m : Int), .int .u8 (t : Int), d, .int .u8 (m' : Int), .int .u8 (t' : Int), d']] w fun e w' => e = .returned (.bool true) ∧ Below w.heap.size w w' := by
  have HA : Hid (ByteArg d xs w ∧ ByteArg d' ys w) := ⟨h, h'⟩
  obtain ⟨ad, cd, rfl, -⟩ := h
  obtain ⟨ad', cd', rfl, -⟩ := h'
  obtain ⟨W, hW⟩ : ∃ W, W = w.alloc (.cells #[.int .u8 (m : Int), .int .u8 (t : Int), .slice ad xs.length cd, .int .u8 (m' : Int), .int .u8 (t' : Int), .slice ad' ys.length cd'] 26) := ⟨_, rfl⟩
  have b0 : Below w.heap.size w W := by rw [hW]; exact (Below.refl w.heap.size w).alloc (Nat.le_refl _) _
  have hz : W.heap.size = w.heap.size + 1 := by rw [hW]; simp
  have LB : ∀ w', Below W.heap.size W w' → (Instr.loadAt 26 (.pointer (some ⟨w.heap.size, 0, none⟩))).run Try.prog w' = .ok (.agg #[.int .u8 (m : Int), .int .u8 (t : Int), .slice ad xs.length cd, .int .u8 (m' : Int), .int .u8 (t' : Int), .slice ad' ys.length cd']) w' := fun w' hw' => load_romL rfl fun k u hu => (hw'.cell (p := ⟨w.heap.size, k, none⟩) (by show w.heap.size < _; omega)).trans (by rw [hW]; exact cell_lastH rfl hu)
  have S := sz_rom m t m' t' ad ad' xs.length cd ys.length cd' 1048576 W lx ly (by omega) (by omega)
  have L0 := LB W (Below.refl _ _)
  rw [hW] at L0
  go_enter Try.func6, Try.ntmps6
  go_wp2_with (refine list_loadH (t := 26) (x := .pointer (some ⟨w.heap.size, 0, none⟩)) rfl rfl rfl L0 ?_)
  rw [← hW]
  clear hW L0
  refine S.mono ?_
  rintro e w1 ⟨⟨z, rfl, hzl⟩, b1⟩
  clear S
  have HB : Hid (Below w.heap.size w W ∧ W.heap.size = w.heap.size + 1) := ⟨b0, hz⟩
  clear b0 hz
  by_cases hneg : z < 0
  · go_wp2_with fail
    go_ret
    exact ⟨rfl, HB.out.1.trans (b1.mono HB.out.1.size)⟩
  · have hl := hzl (by omega)
    have TR : ∀ w', Below W.heap.size W w' → Calls Try.prog 13 #[.agg #[.int .u8 (m : Int), .int .u8 (t : Int), .slice ad xs.length cd, .int .u8 (m' : Int), .int .u8 (t' : Int), .slice ad' ys.length cd']] w' fun e w'' => ∃ oa ob, e = .returned (.agg #[.int .u8 (m : Int), .int .u8 (t : Int), oa, .int .u8 (m' : Int), .int .u8 (t' : Int), ob]) ∧ Own w'.heap.size oa xs w'' ∧ Own w'.heap.size ob ys w'' ∧ (∀ g, oa.ownBlock = some g → ob.ownBlock ≠ some g) ∧ Below w'.heap.size w' w'' := fun w' hw' => to_rom m t m' t' _ _ xs ys w' (HA.out.1.below (HB.out.1.trans (hw'.mono HB.out.1.size))) (HA.out.2.below (HB.out.1.trans (hw'.mono HB.out.1.size))) (by omega) (by omega)
    have RA : ∀ {oa ob w'}, BytesAt oa xs w' → BytesAt ob ys w' → RomAt (.agg #[.int .u8 (m : Int), .int .u8 (t : Int), oa, .int .u8 (m' : Int), .int .u8 (t' : Int), ob]) ⟨⟨m, t, xs⟩, ⟨m', t', ys⟩⟩ w' := fun ha hb => rom_at hm ht hm' ht' hx hy (by omega) (by omega) ha hb
    have ER : ∀ {d e d' e' w'}, BytesAt d xs w' → BytesAt e ys w' → BytesAt d' xs w' → BytesAt e' ys w' → Calls Try.prog 16 #[.agg #[.int .u8 (m : Int), .int .u8 (t : Int), d, .int .u8 (m' : Int), .int .u8 (t' : Int), e], .agg #[.int .u8 (m : Int), .int .u8 (t : Int), d', .int .u8 (m' : Int), .int .u8 (t' : Int), e']] w' fun r w'' => r = .returned (.bool true) ∧ Below w'.heap.size w' w'' := fun h1 h2 h3 h4 => eq_rom m t m' t' _ _ _ _ xs ys _ h1 h2 h3 h4 (by omega) (by omega)
    have MR : ∀ {lo hi oa ob w'}, OwnI lo hi oa xs w' → OwnI lo hi ob ys w' → (∀ g, oa.ownBlock = some g → ob.ownBlock ≠ some g) → Calls Try.prog 17 #[.agg #[.int .u8 (m : Int), .int .u8 (t : Int), oa, .int .u8 (m' : Int), .int .u8 (t' : Int), ob], .int .i64 1] w' fun e w'' => ∃ k : Nat, e = .returned (.int .i64 (k : Int)) ∧ Touch (within lo hi) w' w'' := fun h1 h2 h3 => (mark_romI _ _ m t m' t' _ _ xs ys 1 _ h1 h2 h3 (by omega) (by omega) (by omega)).mono fun _ _ ⟨h4, _, _, h5⟩ => ⟨_, h4, h5⟩
    obtain ⟨r, hr⟩ : ∃ r : Ro, r = ⟨⟨m, t, xs⟩, ⟨m', t', ys⟩⟩ := ⟨_, rfl⟩
    rw [← hr] at RA
    have ok : RoOk r := by rw [hr]; exact ⟨hm, ht, ⟨hx, by show xs.length ≤ _; omega⟩, hm', ht', ⟨hy, by show ys.length ≤ _; omega⟩⟩
    have hk0 : (r.now.getD []).length ≤ 2000000 := now_len ok
    clear hx hy hzl hl lx ly hr ok
    have NS : ∀ v w', RomAt v r w' → Calls Try.prog 27 #[v] w' fun e w'' => ∃ d, e = .returned (.tuple #[d, .bool r.now.isSome]) ∧ OwnI w'.heap.size w''.heap.size d (r.now.getD []) w'' ∧ Below w'.heap.size w' w'' := fun v w' hv => (now_spec v r w' hv).mono fun _ _ ⟨u, h1, h2, h3⟩ => by
      obtain ⟨d, rfl, h4⟩ := now_own h2
      exact ⟨d, h1, h4, h3⟩
    have NI : ∀ v w', RomAt v r w' → Calls Try.prog 28 #[v] w' fun e w'' => ∃ d, e = .returned (.tuple #[d, .bool r.now.isSome]) ∧ OwnI w'.heap.size w''.heap.size d (r.now.getD []) w'' ∧ Below w'.heap.size w' w'' := fun v w' hv => (now_impl v r w' hv).mono fun _ _ ⟨u, h1, h2, h3⟩ => by
      obtain ⟨d, rfl, h4⟩ := now_own h2
      exact ⟨d, h1, h4, h3⟩
    obtain ⟨ks, hks⟩ : ∃ ks, ks = r.now.getD [] := ⟨_, rfl⟩
    obtain ⟨q, hq⟩ : ∃ q, q = r.now.isSome := ⟨_, rfl⟩
    simp only [← hks, ← hq] at NS NI hk0
    clear hks hq
    have EB : ∀ {a b w'}, BytesAt a ks w' → BytesAt b ks w' → Calls Try.prog 29 #[a, b] w' fun e w'' => e = .returned (.bool true) ∧ Below w'.heap.size w' w'' := fun h1 h2 => (eq_bytes _ _ ks ks _ h1 h2 (by omega)).mono fun _ _ ⟨q, h3, h4, h5⟩ => ⟨by rw [h3, show q = true by simpa using h4], h5⟩
    obtain ⟨n, hn⟩ : ∃ n : Int, n = ((1 + ks.length : Nat) : Int) := ⟨_, rfl⟩
    have hn0 : ¬ n < 0 := by omega
    have MB : ∀ {lo hi a w'}, OwnI lo hi a ks w' → Calls Try.prog 30 #[a, .int .i64 1] w' fun e w'' => e = .returned (.int .i64 n) ∧ OwnI lo hi a (marks 1 ks.length) w'' ∧ Touch (within lo hi) w' w'' := fun h1 => by rw [hn]; exact mark_bytesI _ _ _ ks 1 _ h1 (by omega) (by omega)
    have EH : ∀ {a w'}, BytesAt a (marks 1 ks.length) w' → Calls Try.prog 31 #[a, .int .i64 1] w' fun e w'' => e = .returned (.int .i64 n) ∧ w'' = w' := fun h1 => by rw [hn]; exact held_bytes _ ks.length 1 _ h1 (by omega) (by omega)
    clear hk0 hn
    have H1 : Hid (Below W.heap.size W w1) := b1
    have L1 := LB w1 b1
    clear b1
    go_wp2_with (refine list_loadH (t := 26) (x := .pointer (some ⟨w.heap.size, 0, none⟩)) rfl rfl rfl L1 ?_)
    clear L1
    refine (TR w1 H1.out).mono ?_
    rintro e w2 ⟨oa, ob, rfl, o1, o2, -, b2⟩
    have C1 := NS _ w2 (RA o1.at o2.at)
    have H2 : Hid (Below W.heap.size W w2) := H1.out.trans (b2.mono H1.out.size)
    clear o1 o2 b2 H1
    go_wp2_with fail
    refine C1.mono ?_
    rintro e w3 ⟨d0, rfl, o0, b3⟩
    have H3 : Hid (Below W.heap.size W w3 ∧ OwnI w2.heap.size w3.heap.size d0 ks w3 ∧ W.heap.size ≤ w2.heap.size ∧ w2.heap.size ≤ w3.heap.size) := ⟨H2.out.trans (b3.mono H2.out.size), o0, H2.out.size, b3.size⟩
    obtain ⟨a0, c0, rfl⟩ := o0.at.len
    clear o0 b3 C1 H2
    have L1 := LB w3 H3.out.1
    go_wp2_with (refine list_loadH (t := 26) (x := .pointer (some ⟨w.heap.size, 0, none⟩)) rfl rfl rfl L1 ?_)
    clear L1
    refine (TR w3 H3.out.1).mono ?_
    rintro e w4 ⟨pa, pb, rfl, o1, o2, s12, b4⟩
    obtain ⟨V, hV⟩ : ∃ V, V = w4.alloc (.cells #[.int .u8 (m : Int), .int .u8 (t : Int), pa, .int .u8 (m' : Int), .int .u8 (t' : Int), pb] 32) := ⟨_, rfl⟩
    have bV : Below w4.heap.size w4 V := by rw [hV]; exact (Below.refl w4.heap.size w4).alloc (Nat.le_refl _) _
    have H4 : Hid (Below W.heap.size W V ∧ OwnI w3.heap.size w4.heap.size pa xs V ∧ OwnI w3.heap.size w4.heap.size pb ys V ∧ (∀ g, pa.ownBlock = some g → pb.ownBlock ≠ some g) ∧ OwnI w2.heap.size w3.heap.size (.slice a0 ks.length c0) ks V ∧ W.heap.size ≤ w2.heap.size ∧ w2.heap.size ≤ w3.heap.size ∧ w3.heap.size ≤ w4.heap.size ∧ w4.heap.size + 1 = V.heap.size) := by
      have b43 := b4.trans (bV.mono b4.size)
      refine ⟨H3.out.1.trans (b43.mono H3.out.1.size), (OwnI.of o1).below bV (Nat.le_refl _), (OwnI.of o2).below bV (Nat.le_refl _), s12, H3.out.2.1.below b43 (Nat.le_refl _), H3.out.2.2.1, H3.out.2.2.2, b4.size, by rw [hV]; simp⟩
    have LV : ∀ w', Below V.heap.size V w' → (Instr.loadAt 32 (.pointer (some ⟨w4.heap.size, 0, none⟩))).run Try.prog w' = .ok (.agg #[.int .u8 (m : Int), .int .u8 (t : Int), pa, .int .u8 (m' : Int), .int .u8 (t' : Int), pb]) w' := fun w' hw' => load_romI rfl fun k u hu => (hw'.cell (p := ⟨w4.heap.size, k, none⟩) (by show w4.heap.size < _; rw [hV]; simp)).trans (by rw [hV]; exact cell_lastH rfl hu)
    have C2 := NI _ V (RA H4.out.2.1.at H4.out.2.2.1.at)
    have L2 := LV V (Below.refl _ _)
    rw [hV] at L2
    obtain ⟨_, _, rfl⟩ := own_size o1
    obtain ⟨_, _, rfl⟩ := own_size o2
    clear o1 o2 b4 H3 bV s12
    go_wp2_with (refine list_loadH (t := 32) (x := .pointer (some ⟨w4.heap.size, 0, none⟩)) rfl rfl rfl L2 ?_)
    rw [← hV]
    clear hV L2
    refine C2.mono ?_
    rintro e w5 ⟨g0, rfl, o5, b5⟩
    have H5 : Hid (Below V.heap.size V w5 ∧ OwnI V.heap.size w5.heap.size g0 ks w5) := ⟨b5, o5⟩
    obtain ⟨a5, c5, rfl⟩ := o5.at.len
    have E5 := EB o5.at (H4.out.2.2.2.2.1.below b5 (by have := H4.out.2.2.2.2.2; omega)).at
    clear b5 C2 o5
    go_wp2_with fail
    refine E5.mono ?_
    rintro e w6 ⟨rfl, b6⟩
    have H6 : Hid (Below V.heap.size V w6 ∧ OwnI V.heap.size w5.heap.size (.slice a5 ks.length c5) ks w6 ∧ V.heap.size ≤ w5.heap.size ∧ w5.heap.size ≤ w6.heap.size) := ⟨H5.out.1.trans (b6.mono H5.out.1.size), H5.out.2.below b6 (Nat.le_refl _), H5.out.1.size, b6.size⟩
    clear b6 E5 H5
    go_wp2_with fail
    have hS : Below V.heap.size V w6.drew := H6.out.1.drew
    have hT : OwnI V.heap.size w5.heap.size (.slice a5 ks.length c5) ks w6.drew := H6.out.2.1.below (Below.refl w5.heap.size w6).drew (Nat.le_refl _)
    refine wp_region_held (S := Below V.heap.size V) (by kernel_rfl) ?_
    refine held_load (fuel := 4) (i := 0) (t := 32) (v := .agg #[.int .u8 (m : Int), .int .u8 (t : Int), _, .int .u8 (m' : Int), .int .u8 (t' : Int), _]) rfl rfl rfl (by kernel_rfl) (by kernel_rfl) (by kernel_rfl) rfl (fun _ _ _ h => h) (fun w' hw' => LV w' hw') hS ?_
    go_simp
    refine held_load (fuel := 3) (i := 1) (t := 26) (v := .agg #[.int .u8 (m : Int), .int .u8 (t : Int), .slice ad xs.length cd, .int .u8 (m' : Int), .int .u8 (t' : Int), .slice ad' ys.length cd']) rfl rfl rfl (by kernel_rfl) (by kernel_rfl) (by kernel_rfl) rfl (fun _ _ _ h => h) (fun w' hw' => LB w' (H4.out.1.trans (hw'.mono H4.out.1.size))) hS ?_
    go_simp
    refine wpAnyH_ready (rs := [2]) (by kernel_rfl) (by simp) ?_
    refine AllReadyH.cons rfl (fun K hK => ?_) AllReadyH.nil
    go_simp
    refine (TR _ (H4.out.1.trans (hS.mono H4.out.1.size))).mono ?_
    rintro e w7 ⟨qa, qb, rfl, o1, o2, -, b7⟩
    have hS7 := hS.trans (b7.mono hS.size)
    have hT7 : OwnI V.heap.size w5.heap.size (.slice a5 ks.length c5) ks w7 := hT.below b7 H6.out.2.2.2
    have CE := ER (H4.out.2.1.below hS7 (by have := H4.out.2.2.2.2.2; omega)).at (H4.out.2.2.1.below hS7 (by have := H4.out.2.2.2.2.2; omega)).at o1.at o2.at
    refine hK.out _ _ hS7 (fun _ => ?_)
    clear hK K o1 o2
    go_simp
    refine wpAnyH_ready (rs := [3]) (by kernel_rfl) (by simp) ?_
    refine AllReadyH.cons rfl (fun K hK => ?_) AllReadyH.nil
    go_simp
    refine CE.mono ?_
    rintro e w8 ⟨rfl, b8⟩
    have hS8 := hS7.trans (b8.mono hS7.size)
    have hT8 : OwnI V.heap.size w5.heap.size (.slice a5 ks.length c5) ks w8 := hT7.below b8 (Nat.le_trans H6.out.2.2.2 b7.size)
    have hZ : Hid (Below V.heap.size V w8 ∧ OwnI V.heap.size w5.heap.size (.slice a5 ks.length c5) ks w8 ∧ V.heap.size ≤ w5.heap.size ∧ w5.heap.size ≤ w8.heap.size) := ⟨hS8, hT8, H6.out.2.2.1, Nat.le_trans (Nat.le_trans H6.out.2.2.2 b7.size) b8.size⟩
    refine hK.out _ _ hS8 (fun _ => ?_)
    clear hK K b8 b7 CE hS hT hS7 hT7 hT8 H6
    go_simp
    refine held_any (fuel := 0) (i := 4) (v := .bool false) rfl (by kernel_rfl) (by kernel_rfl) (by kernel_rfl) rfl (fun _ _ _ h => h) (fun _ _ => by go_simp) hS8 ?_
    go_simp
    refine wpAnyH_done (by kernel_rfl) ?_ _
    clear hS8
    have L8 := LV w8 hZ.out.1
    have M8 := MR (H4.out.2.1.below hZ.out.1 (by have := H4.out.2.2.2.2.2; omega)) (H4.out.2.2.1.below hZ.out.1 (by have := H4.out.2.2.2.2.2; omega)) H4.out.2.2.2.1
    go_wp2_with (refine list_loadH (t := 32) (x := .pointer (some ⟨w4.heap.size, 0, none⟩)) rfl rfl rfl L8 ?_)
    clear L8
    refine M8.mono ?_
    rintro e w9 ⟨k9, rfl, t9⟩
    have hk9 : ¬ (k9 : Int) < 0 := by omega
    have H9 : Hid (Below W.heap.size W w9 ∧ OwnI w2.heap.size w3.heap.size (.slice a0 ks.length c0) ks w9 ∧ OwnI V.heap.size w5.heap.size (.slice a5 ks.length c5) ks w9 ∧ W.heap.size ≤ w2.heap.size ∧ w2.heap.size ≤ w3.heap.size ∧ w3.heap.size ≤ V.heap.size ∧ V.heap.size ≤ w5.heap.size ∧ w5.heap.size ≤ w9.heap.size) := by
      obtain ⟨h1, h2, h3, h4, h5, h6, h7, h8, h9⟩ := H4.out
      obtain ⟨i1, i2, i3, i4⟩ := hZ.out
      have hh := h1.trans (i1.mono h1.size)
      have := t9.size
      exact ⟨hh.trans (t9.low (by omega) (by omega)), (h5.below i1 (by omega)).far t9 (by omega), i2.far t9 (by omega), h6, h7, by omega, i3, by omega⟩
    clear t9 M8 hZ H4 LV
    have E9 := EB H9.out.2.2.1.at H9.out.2.1.at
    go_wp2_with fail
    refine E9.mono ?_
    rintro e w10 ⟨rfl, b10⟩
    have H10 : Hid (Below W.heap.size W w10 ∧ OwnI w2.heap.size w3.heap.size (.slice a0 ks.length c0) ks w10 ∧ OwnI V.heap.size w5.heap.size (.slice a5 ks.length c5) ks w10 ∧ W.heap.size ≤ w2.heap.size ∧ w2.heap.size ≤ w3.heap.size ∧ w3.heap.size ≤ V.heap.size ∧ V.heap.size ≤ w5.heap.size ∧ w5.heap.size ≤ w10.heap.size) := by
      obtain ⟨h1, h2, h3, h4, h5, h6, h7, h8⟩ := H9.out
      have := b10.size
      exact ⟨h1.trans (b10.mono h1.size), h2.below b10 (by omega), h3.below b10 (by omega), h4, h5, h6, h7, by omega⟩
    clear E9 b10 H9
    have M10 := MB H10.out.2.2.1
    go_wp2_with fail
    refine M10.mono ?_
    rintro e w11 ⟨rfl, o11, t11⟩
    have H11 : Hid (Below W.heap.size W w11 ∧ OwnI w2.heap.size w3.heap.size (.slice a0 ks.length c0) ks w11 ∧ OwnI V.heap.size w5.heap.size (.slice a5 ks.length c5) (marks 1 ks.length) w11 ∧ W.heap.size ≤ w2.heap.size ∧ w2.heap.size ≤ w3.heap.size ∧ w3.heap.size ≤ V.heap.size ∧ V.heap.size ≤ w5.heap.size ∧ w5.heap.size ≤ w11.heap.size) := by
      obtain ⟨h1, h2, h3, h4, h5, h6, h7, h8⟩ := H10.out
      have := t11.size
      have := h1.size
      exact ⟨h1.trans (t11.low (by omega) (by omega)), h2.far t11 (by omega), o11, h4, h5, h6, h7, by omega⟩
    clear M10 o11 t11 H10
    have E11 := EH H11.out.2.2.1.at
    go_wp2_with fail
    refine E11.mono ?_
    rintro e w12 ⟨rfl, rfl⟩
    clear E11
    have L12 := LB w12 H11.out.1
    go_wp2_with (refine list_loadH (t := 26) (x := .pointer (some ⟨w.heap.size, 0, none⟩)) rfl rfl rfl L12 ?_)
    clear L12
    refine (TR w12 H11.out.1).mono ?_
    rintro e w13 ⟨ra, rb, rfl, o1, o2, -, b13⟩
    have C13 := NI _ w13 (RA o1.at o2.at)
    clear o1 o2
    have H13 : Hid (Below W.heap.size W w13 ∧ OwnI w2.heap.size w3.heap.size (.slice a0 ks.length c0) ks w13 ∧ OwnI V.heap.size w5.heap.size (.slice a5 ks.length c5) (marks 1 ks.length) w13 ∧ w3.heap.size ≤ w13.heap.size ∧ w5.heap.size ≤ w13.heap.size) := by
      obtain ⟨h1, h2, h3, h4, h5, h6, h7, h8⟩ := H11.out
      have := b13.size
      exact ⟨h1.trans (b13.mono h1.size), h2.below b13 (by omega), h3.below b13 (by omega), by omega, by omega⟩
    clear b13 H11
    go_wp2_with fail
    refine C13.mono ?_
    rintro e w14 ⟨h0, rfl, o14, b14⟩
    obtain ⟨a14, c14, rfl⟩ := o14.at.len
    have E14 := EB o14.at (H13.out.2.1.below b14 H13.out.2.2.2.1).at
    have H14 : Hid (Below W.heap.size W w14 ∧ OwnI V.heap.size w5.heap.size (.slice a5 ks.length c5) (marks 1 ks.length) w14 ∧ w5.heap.size ≤ w14.heap.size) := by
      obtain ⟨h1, h2, h3, h4, h5⟩ := H13.out
      have := b14.size
      exact ⟨h1.trans (b14.mono h1.size), h3.below b14 (by omega), by omega⟩
    clear b14 C13 H13 o14
    go_wp2_with fail
    refine E14.mono ?_
    rintro e w15 ⟨rfl, b15⟩
    have E15 := EH (H14.out.2.1.below b15 H14.out.2.2).at
    have H15 : Hid (Below W.heap.size W w15) := H14.out.1.trans (b15.mono H14.out.1.size)
    clear b15 H14 E14
    go_wp2_with fail
    refine E15.mono ?_
    rintro e w16 ⟨rfl, rfl⟩
    clear E15
    go_wp2_with fail
    go_ret
    exact ⟨rfl, HB.out.1.trans (H15.out.mono HB.out.1.size)⟩

theorem law (m t m' t' : Nat) (a a' : Option Addr) (n c n' c' : Nat) (w : World) (hm : m ≤ 255) (ht : t ≤ 255) (hm' : m' ≤ 255) (ht' : t' ≤ 255) (C : CodeAt (.slice a n c) w) (D : CodeAt (.slice a' n' c') w) (hn : n ≤ 9223372036854775807) (hn' : n' ≤ 9223372036854775807) :
    Calls Try.prog 6 #[.agg #[.int .u8 (m : Int), .int .u8 (t : Int), .slice a n c, .int .u8 (m' : Int), .int .u8 (t' : Int), .slice a' n' c']] w fun e w' => e = .returned (.bool true) ∧ Below w.heap.size w w' := by
  obtain ⟨xs, A, hx⟩ := code_bytes C
  obtain ⟨ys, B, hy⟩ := code_bytes D
  have lx : xs.length = n := by
    obtain ⟨a, cap, e, -⟩ := A
    simp only [Value.slice.injEq] at e
    omega
  have ly : ys.length = n' := by
    obtain ⟨a, cap, e, -⟩ := B
    simp only [Value.slice.injEq] at e
    omega
  exact law_args m t m' t' _ _ xs ys w hm ht hm' ht' hx hy A B (by omega) (by omega)

end Go.Proofs.Ytdhoimjkgicneac
