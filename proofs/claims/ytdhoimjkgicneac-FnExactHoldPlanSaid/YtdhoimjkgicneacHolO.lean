/- The specification's HoldPlan. -/
import Derived.Test.YtdhoimjkgicneacHolN
namespace Go.Proofs.Ytdhoimjkgicneac
open Go Go.RowKit

set_option maxRecDepth 100000 in
set_option maxHeartbeats 4000000 in
theorem plan_spec (v d : Value) (r : Ro) (xs : List Nat) (w : World) (h : RomAt v r w) (hd : BytesAt d xs w) (hf : Few xs) :
    Calls Try.prog 32 #[v, d] w fun e w' => ∃ u, e = .returned u ∧ PlanAt w.heap.size r xs u w' ∧ Below w.heap.size w w' := by
  have HR : Hid (RomAt v r w) := h
  have HD : Hid (BytesAt d xs w) := hd
  have hfl := hf.len
  obtain ⟨ok, da, db, rfl, ha, hb⟩ := h
  have at1 := ok.at'
  have bt1 := ok.bt
  obtain ⟨aa, ca, rfl⟩ := ha.len
  obtain ⟨ab, cb, rfl⟩ := hb.len
  obtain ⟨ad, cd, rfl⟩ := hd.len
  clear ha hb hd ok hf
  simp only [romV] at HR ⊢
  by_cases hlen : xs.length ≤ 20100
  · have hlen' : (xs.length : Int) ≤ 20100 := by omega
    have b0 : Below w.heap.size w (w.alloc (.cells #[.int .u8 (r.a.mark : Int), .int .u8 (r.a.turn : Int), .slice aa r.a.data.length ca, .int .u8 (r.b.mark : Int), .int .u8 (r.b.turn : Int), .slice ab r.b.data.length cb] 32)) := (Below.refl _ _).alloc (Nat.le_refl _) _
    go_enter Try.func32, Try.ntmps32
    go_wp2_with fail
    refine (slot_spec _ r _ (HR.out.below b0 (Nat.le_refl _))).mono ?_
    rintro e w1 ⟨rfl, b1⟩
    have X1 : Hid (RomBox w.heap.size 0 r (.slice aa r.a.data.length ca) (.slice ab r.b.data.length cb) w1) := (box_new r _ _ w _).below b1 (by simp)
    have B1 : Hid (Below w.heap.size w w1) := b0.trans (b1.mono (by simp))
    have s1 : w.heap.size < w1.heap.size := X1.out.z
    have c1 := X1.out.c1
    have c4 := X1.out.c4
    simp only [Nat.zero_add] at c1 c4
    clear b0 b1
    rcases slot_cases r with ⟨h, g⟩ | ⟨h, g⟩ | ⟨h, g, -⟩
    · skip
      have tg := good_turn g
      obtain ⟨tt, htt⟩ : ∃ tt : Nat, tt = (r.a.turn + 1) % 3 := ⟨_, rfl⟩
      have HT : Hid (((r.a.turn : Int) + 1) % 3 = (tt : Int)) := (show _ = _ by omega)
      have EP : Hid (r.plan xs = pre 1 ++ puts 1 xs ++ [⟨2, 1, tt⟩, ⟨1, 1, 165⟩] ++ [⟨1, 0, 0⟩]) := (show r.plan xs = _ by simp [Ro.plan, Ro.tail, Ro.to, Ro.turnTo, h, pre, htt])
      rw [h]
      clear h htt g
      go_wp2_with fail
      have H4 : Hid (OwnW w.heap.size (.slice (some ⟨w1.heap.size, 0, none⟩) 2 2) (pre 1 ++ puts 1 (xs.take 0)) (w1.alloc (.cells #[.int .i64 1, .int .i64 1, .int .u8 0, .int .i64 3, .int .i64 1, .int .u8 0] 35)) ∧ Below w.heap.size w (w1.alloc (.cells #[.int .i64 1, .int .i64 1, .int .u8 0, .int .i64 3, .int .i64 1, .int .u8 0] 35))) := ⟨World.ownsRow_lit w1 #[.int .i64 1, .int .i64 1, .int .u8 0, .int .i64 3, .int .i64 1, .int .u8 0] 2 (by omega) (by decide) rfl, B1.out.alloc (by omega) _⟩
      clear B1 X1 c1 c4
      go_loopw [9, 10] (fun v i wr => ∃ k : Nat, k ≤ xs.length ∧ i = .int .i64 k ∧ OwnW w.heap.size v (pre 1 ++ puts 1 (xs.take k)) wr ∧ Below w.heap.size w wr) (fun _ i _ => xs.length - (intOf i).toNat)
      case atStart => exact ⟨0, by omega, rfl, H4.out.1, H4.out.2⟩
      case round =>
        clear H4
        obtain ⟨k, hk, rfl, o, b⟩ := hrel
        have H5 : Hid (OwnW w.heap.size u9 (pre 1 ++ puts 1 (xs.take k)) wr ∧ Below w.heap.size w wr) := ⟨o, b⟩
        have s5 : w.heap.size ≤ wr.heap.size := b.size
        clear o b
        by_cases hkl : k < xs.length
        · obtain ⟨bb, off, x, rfl, hx, cx⟩ := HD.out.get H5.out.2 hkl
          have HX : Hid (xs[k]? = some x) := hx
          clear hx
          have hn5 : (pre 1 ++ puts 1 (xs.take k)).length + 1 ≤ 8000000 := by simp [pre, puts]; omega
          go_wp2_with (at_builtin; refine list_appW w.heap.size (xs := pre 1 ++ puts 1 (xs.take k)) (ys := [⟨4, 1, x⟩]) rfl (.tmp 41) (.tmp 48) rfl rfl wr.heap.size _ rfl (World.ownsRow.alloc H5.out.1 _) (new_cells rfl) hn5 (by simp; omega) ?_)
          intro v6 w6 o6 g6
          have H6 : Hid (OwnW w.heap.size v6 (pre 1 ++ puts 1 (xs.take (k + 1))) w6 ∧ Below w.heap.size w w6) := by
            refine ⟨by rw [plan_take 1 xs HX.out]; exact o6, (H5.out.2.alloc s5 _).trans (grown_below g6 (by simp; omega) ?_)⟩
            intro g hg
            exact (H5.out.1.lt hg).1
          clear o6 g6 cx
          go_wp2_with fail
          go_roundw
          case rel => exact ⟨k + 1, by omega, by go_num, H6.out.1, H6.out.2⟩
          case measure => simp [intOf]; omega
        · have ek : k = xs.length := by omega
          subst ek
          have H5' : Hid (OwnW w.heap.size u9 (pre 1 ++ puts 1 xs) wr ∧ Below w.heap.size w wr) := by
            have := H5.out
            rw [List.take_length] at this
            exact this
          clear H5
          have hn5 : (pre 1 ++ puts 1 xs).length + 2 ≤ 8000000 := by simp [pre, puts]; omega
          go_wp2_with (at_builtin; refine list_appW w.heap.size (xs := pre 1 ++ puts 1 xs) (ys := [⟨2, 1, tt⟩, ⟨1, 1, 165⟩]) rfl (.tmp 50) (.tmp 56) rfl rfl wr.heap.size _ rfl (World.ownsRow.alloc H5'.out.1 _) (new_cells (by simp [writesV, HT.out])) hn5 (by simp; omega) ?_)
          intro v6 w6 o6 g6
          have H6 : Hid (OwnW w.heap.size v6 (pre 1 ++ puts 1 xs ++ [⟨2, 1, tt⟩, ⟨1, 1, 165⟩]) w6 ∧ Below w.heap.size w w6) := by
            refine ⟨o6, (H5'.out.2.alloc s5 _).trans (grown_below g6 (by simp; omega) ?_)⟩
            intro g hg
            exact (H5'.out.1.lt hg).1
          have s6 : w.heap.size ≤ w6.heap.size := H6.out.2.size
          clear o6 g6
          have hn6 : (pre 1 ++ puts 1 xs ++ ([⟨2, 1, tt⟩, ⟨1, 1, 165⟩] : List Wr)).length + 1 ≤ 8000000 := by simp [pre, puts]; omega
          go_wp2_with (at_builtin; refine list_appW w.heap.size (xs := pre 1 ++ puts 1 xs ++ [⟨2, 1, tt⟩, ⟨1, 1, 165⟩]) (ys := [⟨1, 0, 0⟩]) rfl (.tmp 60) (.tmp 63) rfl rfl w6.heap.size _ rfl (World.ownsRow.alloc H6.out.1 _) (new_cells rfl) hn6 (by simp; omega) ?_)
          intro v7 w7 o7 g7
          have H7 : Hid (OwnW w.heap.size v7 (r.plan xs) w7 ∧ Below w.heap.size w w7) := by
            refine ⟨by rw [EP.out]; simp only [List.append_assoc, List.cons_append, List.nil_append]; exact o7, (H6.out.2.alloc s6 _).trans (grown_below g7 (by simp; omega) ?_)⟩
            intro g hg
            exact (H6.out.1.lt hg).1
          clear o7 g7
          go_wp2_with fail
          go_ret2
          exact ⟨_, rfl, ⟨_, _, rfl, Or.inl ⟨hlen, rfl, H7.out.1⟩⟩, H7.out.2⟩
    · skip
      have tg := good_turn g
      obtain ⟨tt, htt⟩ : ∃ tt : Nat, tt = (r.b.turn + 1) % 3 := ⟨_, rfl⟩
      have HT : Hid (((r.b.turn : Int) + 1) % 3 = (tt : Int)) := (show _ = _ by omega)
      have EP : Hid (r.plan xs = pre 0 ++ puts 0 xs ++ [⟨2, 0, tt⟩, ⟨1, 0, 165⟩] ++ [⟨1, 1, 0⟩]) := (show r.plan xs = _ by simp [Ro.plan, Ro.tail, Ro.to, Ro.turnTo, h, pre, htt])
      rw [h]
      clear h htt g
      go_wp2_with fail
      have H4 : Hid (OwnW w.heap.size (.slice (some ⟨w1.heap.size, 0, none⟩) 2 2) (pre 0 ++ puts 0 (xs.take 0)) (w1.alloc (.cells #[.int .i64 1, .int .i64 0, .int .u8 0, .int .i64 3, .int .i64 0, .int .u8 0] 35)) ∧ Below w.heap.size w (w1.alloc (.cells #[.int .i64 1, .int .i64 0, .int .u8 0, .int .i64 3, .int .i64 0, .int .u8 0] 35))) := ⟨World.ownsRow_lit w1 #[.int .i64 1, .int .i64 0, .int .u8 0, .int .i64 3, .int .i64 0, .int .u8 0] 2 (by omega) (by decide) rfl, B1.out.alloc (by omega) _⟩
      clear B1 X1 c1 c4
      go_loopw [9, 10] (fun v i wr => ∃ k : Nat, k ≤ xs.length ∧ i = .int .i64 k ∧ OwnW w.heap.size v (pre 0 ++ puts 0 (xs.take k)) wr ∧ Below w.heap.size w wr) (fun _ i _ => xs.length - (intOf i).toNat)
      case atStart => exact ⟨0, by omega, rfl, H4.out.1, H4.out.2⟩
      case round =>
        clear H4
        obtain ⟨k, hk, rfl, o, b⟩ := hrel
        have H5 : Hid (OwnW w.heap.size u9 (pre 0 ++ puts 0 (xs.take k)) wr ∧ Below w.heap.size w wr) := ⟨o, b⟩
        have s5 : w.heap.size ≤ wr.heap.size := b.size
        clear o b
        by_cases hkl : k < xs.length
        · obtain ⟨bb, off, x, rfl, hx, cx⟩ := HD.out.get H5.out.2 hkl
          have HX : Hid (xs[k]? = some x) := hx
          clear hx
          have hn5 : (pre 0 ++ puts 0 (xs.take k)).length + 1 ≤ 8000000 := by simp [pre, puts]; omega
          go_wp2_with (at_builtin; refine list_appW w.heap.size (xs := pre 0 ++ puts 0 (xs.take k)) (ys := [⟨4, 0, x⟩]) rfl (.tmp 41) (.tmp 48) rfl rfl wr.heap.size _ rfl (World.ownsRow.alloc H5.out.1 _) (new_cells rfl) hn5 (by simp; omega) ?_)
          intro v6 w6 o6 g6
          have H6 : Hid (OwnW w.heap.size v6 (pre 0 ++ puts 0 (xs.take (k + 1))) w6 ∧ Below w.heap.size w w6) := by
            refine ⟨by rw [plan_take 0 xs HX.out]; exact o6, (H5.out.2.alloc s5 _).trans (grown_below g6 (by simp; omega) ?_)⟩
            intro g hg
            exact (H5.out.1.lt hg).1
          clear o6 g6 cx
          go_wp2_with fail
          go_roundw
          case rel => exact ⟨k + 1, by omega, by go_num, H6.out.1, H6.out.2⟩
          case measure => simp [intOf]; omega
        · have ek : k = xs.length := by omega
          subst ek
          have H5' : Hid (OwnW w.heap.size u9 (pre 0 ++ puts 0 xs) wr ∧ Below w.heap.size w wr) := by
            have := H5.out
            rw [List.take_length] at this
            exact this
          clear H5
          have hn5 : (pre 0 ++ puts 0 xs).length + 2 ≤ 8000000 := by simp [pre, puts]; omega
          go_wp2_with (at_builtin; refine list_appW w.heap.size (xs := pre 0 ++ puts 0 xs) (ys := [⟨2, 0, tt⟩, ⟨1, 0, 165⟩]) rfl (.tmp 50) (.tmp 56) rfl rfl wr.heap.size _ rfl (World.ownsRow.alloc H5'.out.1 _) (new_cells (by simp [writesV, HT.out])) hn5 (by simp; omega) ?_)
          intro v6 w6 o6 g6
          have H6 : Hid (OwnW w.heap.size v6 (pre 0 ++ puts 0 xs ++ [⟨2, 0, tt⟩, ⟨1, 0, 165⟩]) w6 ∧ Below w.heap.size w w6) := by
            refine ⟨o6, (H5'.out.2.alloc s5 _).trans (grown_below g6 (by simp; omega) ?_)⟩
            intro g hg
            exact (H5'.out.1.lt hg).1
          have s6 : w.heap.size ≤ w6.heap.size := H6.out.2.size
          clear o6 g6
          have hn6 : (pre 0 ++ puts 0 xs ++ ([⟨2, 0, tt⟩, ⟨1, 0, 165⟩] : List Wr)).length + 1 ≤ 8000000 := by simp [pre, puts]; omega
          go_wp2_with (at_builtin; refine list_appW w.heap.size (xs := pre 0 ++ puts 0 xs ++ [⟨2, 0, tt⟩, ⟨1, 0, 165⟩]) (ys := [⟨1, 1, 0⟩]) rfl (.tmp 60) (.tmp 63) rfl rfl w6.heap.size _ rfl (World.ownsRow.alloc H6.out.1 _) (new_cells rfl) hn6 (by simp; omega) ?_)
          intro v7 w7 o7 g7
          have H7 : Hid (OwnW w.heap.size v7 (r.plan xs) w7 ∧ Below w.heap.size w w7) := by
            refine ⟨by rw [EP.out]; simp only [List.append_assoc, List.cons_append, List.nil_append]; exact o7, (H6.out.2.alloc s6 _).trans (grown_below g7 (by simp; omega) ?_)⟩
            intro g hg
            exact (H6.out.1.lt hg).1
          clear o7 g7
          go_wp2_with fail
          go_ret2
          exact ⟨_, rfl, ⟨_, _, rfl, Or.inl ⟨hlen, rfl, H7.out.1⟩⟩, H7.out.2⟩
    · skip
      have EP : Hid (r.plan xs = pre 0 ++ puts 0 xs ++ [⟨2, 0, 0⟩, ⟨1, 0, 165⟩]) := (show r.plan xs = _ by simp [Ro.plan, Ro.tail, Ro.to, Ro.turnTo, h, pre])
      rw [h]
      clear h g
      go_wp2_with fail
      have H4 : Hid (OwnW w.heap.size (.slice (some ⟨w1.heap.size, 0, none⟩) 2 2) (pre 0 ++ puts 0 (xs.take 0)) (w1.alloc (.cells #[.int .i64 1, .int .i64 0, .int .u8 0, .int .i64 3, .int .i64 0, .int .u8 0] 35)) ∧ Below w.heap.size w (w1.alloc (.cells #[.int .i64 1, .int .i64 0, .int .u8 0, .int .i64 3, .int .i64 0, .int .u8 0] 35))) := ⟨World.ownsRow_lit w1 #[.int .i64 1, .int .i64 0, .int .u8 0, .int .i64 3, .int .i64 0, .int .u8 0] 2 (by omega) (by decide) rfl, B1.out.alloc (by omega) _⟩
      clear B1 X1 c1 c4
      go_loopw [9, 10] (fun v i wr => ∃ k : Nat, k ≤ xs.length ∧ i = .int .i64 k ∧ OwnW w.heap.size v (pre 0 ++ puts 0 (xs.take k)) wr ∧ Below w.heap.size w wr) (fun _ i _ => xs.length - (intOf i).toNat)
      case atStart => exact ⟨0, by omega, rfl, H4.out.1, H4.out.2⟩
      case round =>
        clear H4
        obtain ⟨k, hk, rfl, o, b⟩ := hrel
        have H5 : Hid (OwnW w.heap.size u9 (pre 0 ++ puts 0 (xs.take k)) wr ∧ Below w.heap.size w wr) := ⟨o, b⟩
        have s5 : w.heap.size ≤ wr.heap.size := b.size
        clear o b
        by_cases hkl : k < xs.length
        · obtain ⟨bb, off, x, rfl, hx, cx⟩ := HD.out.get H5.out.2 hkl
          have HX : Hid (xs[k]? = some x) := hx
          clear hx
          have hn5 : (pre 0 ++ puts 0 (xs.take k)).length + 1 ≤ 8000000 := by simp [pre, puts]; omega
          go_wp2_with (at_builtin; refine list_appW w.heap.size (xs := pre 0 ++ puts 0 (xs.take k)) (ys := [⟨4, 0, x⟩]) rfl (.tmp 41) (.tmp 48) rfl rfl wr.heap.size _ rfl (World.ownsRow.alloc H5.out.1 _) (new_cells rfl) hn5 (by simp; omega) ?_)
          intro v6 w6 o6 g6
          have H6 : Hid (OwnW w.heap.size v6 (pre 0 ++ puts 0 (xs.take (k + 1))) w6 ∧ Below w.heap.size w w6) := by
            refine ⟨by rw [plan_take 0 xs HX.out]; exact o6, (H5.out.2.alloc s5 _).trans (grown_below g6 (by simp; omega) ?_)⟩
            intro g hg
            exact (H5.out.1.lt hg).1
          clear o6 g6 cx
          go_wp2_with fail
          go_roundw
          case rel => exact ⟨k + 1, by omega, by go_num, H6.out.1, H6.out.2⟩
          case measure => simp [intOf]; omega
        · have ek : k = xs.length := by omega
          subst ek
          have H5' : Hid (OwnW w.heap.size u9 (pre 0 ++ puts 0 xs) wr ∧ Below w.heap.size w wr) := by
            have := H5.out
            rw [List.take_length] at this
            exact this
          clear H5
          have hn5 : (pre 0 ++ puts 0 xs).length + 2 ≤ 8000000 := by simp [pre, puts]; omega
          go_wp2_with (at_builtin; refine list_appW w.heap.size (xs := pre 0 ++ puts 0 xs) (ys := [⟨2, 0, 0⟩, ⟨1, 0, 165⟩]) rfl (.tmp 50) (.tmp 56) rfl rfl wr.heap.size _ rfl (World.ownsRow.alloc H5'.out.1 _) (new_cells rfl) hn5 (by simp; omega) ?_)
          intro v6 w6 o6 g6
          have H6 : Hid (OwnW w.heap.size v6 (pre 0 ++ puts 0 xs ++ [⟨2, 0, 0⟩, ⟨1, 0, 165⟩]) w6 ∧ Below w.heap.size w w6) := by
            refine ⟨o6, (H5'.out.2.alloc s5 _).trans (grown_below g6 (by simp; omega) ?_)⟩
            intro g hg
            exact (H5'.out.1.lt hg).1
          have s6 : w.heap.size ≤ w6.heap.size := H6.out.2.size
          clear o6 g6
          go_wp2_with fail
          go_ret2
          exact ⟨_, rfl, ⟨_, _, rfl, Or.inl ⟨hlen, rfl, by rw [EP.out]; exact H6.out.1⟩⟩, H6.out.2⟩
  · have hlen' : (20100 : Int) < (xs.length : Int) := by omega
    have b0 : Hid (Below w.heap.size w (w.alloc (.cells #[.int .u8 (r.a.mark : Int), .int .u8 (r.a.turn : Int), .slice aa r.a.data.length ca, .int .u8 (r.b.mark : Int), .int .u8 (r.b.turn : Int), .slice ab r.b.data.length cb] 32))) := (Below.refl _ _).alloc (Nat.le_refl _) _
    go_enter Try.func32, Try.ntmps32
    go_wp2_with fail
    go_ret2
    exact ⟨_, rfl, ⟨_, _, rfl, Or.inr ⟨hlen, rfl, rfl⟩⟩, b0.out⟩

end Go.Proofs.Ytdhoimjkgicneac
