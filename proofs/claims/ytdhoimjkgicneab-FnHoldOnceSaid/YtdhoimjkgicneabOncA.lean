/- The law on a whole plan, out of the contracts. -/
import Derived.Test.YtdhoimjkgicneabTopD
namespace Go.Proofs.Ytdhoimjkgicneab
open Go Go.RowKit

set_option maxRecDepth 100000 in
set_option maxHeartbeats 4000000 in
theorem once_short (a0 : Option Addr) (l0 c0 : Nat) (w : World) (h0 : l0 ≤ 1048576) (C0 : CodeAt (.slice a0 l0 c0) w) :
    Calls Try.prog 5 #[.slice a0 l0 c0] w fun e w' => e = .returned (.bool true) ∧ Below w.heap.size w w' := by
  go_enter Try.func5, Try.ntmps5
  go_wp2_with fail
  refine (draw_hplan _ w C0).mono ?_
  rintro e w1 ⟨r, da, db, dv, xs, rfl, ok, ba, bb, bd, few, b1⟩
  have H1 : Hid (RoOk r ∧ BytesAt da r.a.data w1 ∧ BytesAt db r.b.data w1 ∧ BytesAt dv xs w1 ∧ Few xs ∧ Below w.heap.size w w1) := ⟨ok, ba, bb, bd, few, b1⟩
  have s1 : w.heap.size ≤ w1.heap.size := b1.size
  have hfl := few.len
  obtain ⟨aa, ca, rfl⟩ := ba.len
  obtain ⟨ab, cb, rfl⟩ := bb.len
  obtain ⟨ad, cd, rfl⟩ := bd.len
  clear ok ba bb bd few b1 C0
  simp only [romV]
  go_wp2_with fail
  have b2 : Below w1.heap.size w1 (w1.alloc (.cells #[.int .u8 (r.a.mark : Int), .int .u8 (r.a.turn : Int), .slice aa r.a.data.length ca, .int .u8 (r.b.mark : Int), .int .u8 (r.b.turn : Int), .slice ab r.b.data.length cb] 26)) := (Below.refl _ _).alloc (Nat.le_refl _) _
  have HR2 : Hid (RomAt (.agg #[.int .u8 (r.a.mark : Int), .int .u8 (r.a.turn : Int), .slice aa r.a.data.length ca, .int .u8 (r.b.mark : Int), .int .u8 (r.b.turn : Int), .slice ab r.b.data.length cb]) r (w1.alloc (.cells #[.int .u8 (r.a.mark : Int), .int .u8 (r.a.turn : Int), .slice aa r.a.data.length ca, .int .u8 (r.b.mark : Int), .int .u8 (r.b.turn : Int), .slice ab r.b.data.length cb] 26))) := RomAt.below (w := w1) ⟨H1.out.1, _, _, rfl, H1.out.2.1, H1.out.2.2.1⟩ b2 (Nat.le_refl _)
  refine (slot_spec _ r _ HR2.out).mono ?_
  rintro e w3 ⟨rfl, b3⟩
  have e1 : (w1.alloc (.cells #[.int .u8 (r.a.mark : Int), .int .u8 (r.a.turn : Int), .slice aa r.a.data.length ca, .int .u8 (r.b.mark : Int), .int .u8 (r.b.turn : Int), .slice ab r.b.data.length cb] 26)).heap.size = w1.heap.size + 1 := by simp
  rw [e1] at b3
  have X3 : Hid (RomBox w1.heap.size 0 r (.slice aa r.a.data.length ca) (.slice ab r.b.data.length cb) w3) := (box_new r _ _ w1 _).below b3 (by omega)
  have HK : Hid (RomAt (.agg #[.int .u8 (r.a.mark : Int), .int .u8 (r.a.turn : Int), .slice aa r.a.data.length ca, .int .u8 (r.b.mark : Int), .int .u8 (r.b.turn : Int), .slice ab r.b.data.length cb]) r w3 ∧ BytesAt (.slice ad xs.length cd) xs w3 ∧ Below w.heap.size w w3) := by
    have b13 : Below w1.heap.size w1 w3 := b2.trans (b3.mono (by omega))
    exact ⟨HR2.out.below b3 (by simp), H1.out.2.2.2.1.below b13 (Nat.le_refl _), H1.out.2.2.2.2.2.trans (b13.mono s1)⟩
  obtain ⟨c0', c1', c2', c3', c4', c5'⟩ := X3.out.six
  have s3 : w1.heap.size < w3.heap.size := X3.out.z
  clear b2 b3 HR2 e1
  go_wp2_with fail
  refine (plan_impl _ _ r xs w3 HK.out.1 HK.out.2.1 H1.out.2.2.2.2.1).mono ?_
  rintro e w4 ⟨u, rfl, ⟨pv, pq, rfl, hp⟩, b4⟩
  have X4 : Hid (RomBox w1.heap.size 0 r (.slice aa r.a.data.length ca) (.slice ab r.b.data.length cb) w4) := X3.out.below b4 s3
  have H4 : Hid (Below w3.heap.size w3 w4) := b4
  obtain ⟨d0, d1, d2, d3, d4, d5⟩ := X4.out.six
  have s4 : w3.heap.size ≤ w4.heap.size := b4.size
  clear b4 c0' c1' c2' c3' c4' c5' X3
  by_cases hlen : xs.length ≤ 20100
  · rcases hp with ⟨-, rfl, hp⟩ | ⟨hl, -, -⟩
    rotate_left
    · exact absurd hlen hl
    have HP : Hid (OwnW w3.heap.size pv (r.plan xs) w4) := hp
    obtain ⟨ap, cp, rfl⟩ := ownW_size hp
    have hL : (r.plan xs).length ≤ 30000 := by rw [plan_len, now_tail]; split <;> omega
    have hlen' : (xs.length : Int) ≤ 20100 := by omega
    have HO := once r xs hlen
    have HO' : Hid (r.play ((r.plan xs).take ((r.plan xs).length : Int).toNat) = r.play (r.plan xs)) := (show _ = _ by rw [Int.toNat_natCast, List.take_length])
    clear hp
    go_wp2_with fail
    refine (play_impl _ _ r (r.plan xs) ((r.plan xs).length : Int) w4 (HK.out.1.below H4.out (Nat.le_refl _)) HP.out.at (plan_bytes r H1.out.2.2.2.2.1) (by omega)).mono ?_
    rintro e w5 ⟨g1, g2, rfl, o1, o2, ok2, b5⟩
    rw [HO'.out] at o1 o2 ok2 ⊢
    obtain ⟨r2, hr2⟩ : ∃ r2, r2 = r.play (r.plan xs) := ⟨_, rfl⟩
    have HE : Hid (r.play (r.plan xs) = r2) := hr2.symm
    rw [← hr2] at o1 o2 ok2 HO ⊢
    clear hr2
    have X5 : Hid (RomBox w1.heap.size 0 r (.slice aa r.a.data.length ca) (.slice ab r.b.data.length cb) w5) := X4.out.below b5 (by omega)
    have s5 : w4.heap.size ≤ w5.heap.size := b5.size
    have H5 : Hid (Own w4.heap.size g1 r2.a.data w5 ∧ Own w4.heap.size g2 r2.b.data w5 ∧ RoOk r2 ∧ Below w4.heap.size w4 w5) := ⟨o1, o2, ok2, b5⟩
    obtain ⟨a1, k1, rfl⟩ := own_size o1
    obtain ⟨a2, k2, rfl⟩ := own_size o2
    clear o1 o2 ok2 b5 d0 d1 d2 d3 d4 d5
    simp only [romV]
    go_wp2_with fail
    have b6 : Below w5.heap.size w5 (w5.alloc (.cells #[.int .u8 (r2.a.mark : Int), .int .u8 (r2.a.turn : Int), .slice a1 r2.a.data.length k1, .int .u8 (r2.b.mark : Int), .int .u8 (r2.b.turn : Int), .slice a2 r2.b.data.length k2] 26)) := (Below.refl _ _).alloc (Nat.le_refl _) _
    have HR6 : Hid (RomAt (.agg #[.int .u8 (r2.a.mark : Int), .int .u8 (r2.a.turn : Int), .slice a1 r2.a.data.length k1, .int .u8 (r2.b.mark : Int), .int .u8 (r2.b.turn : Int), .slice a2 r2.b.data.length k2]) r2 (w5.alloc (.cells #[.int .u8 (r2.a.mark : Int), .int .u8 (r2.a.turn : Int), .slice a1 r2.a.data.length k1, .int .u8 (r2.b.mark : Int), .int .u8 (r2.b.turn : Int), .slice a2 r2.b.data.length k2] 26))) := RomAt.below (w := w5) ⟨H5.out.2.2.1, _, _, rfl, H5.out.1.at, H5.out.2.1.at⟩ b6 (Nat.le_refl _)
    refine (slot_impl _ r2 _ HR6.out).mono ?_
    rintro e w7 ⟨rfl, b7⟩
    have e1 : (w5.alloc (.cells #[.int .u8 (r2.a.mark : Int), .int .u8 (r2.a.turn : Int), .slice a1 r2.a.data.length k1, .int .u8 (r2.b.mark : Int), .int .u8 (r2.b.turn : Int), .slice a2 r2.b.data.length k2] 26)).heap.size = w5.heap.size + 1 := by simp
    rw [e1] at b7
    have Y7 : Hid (RomBox w5.heap.size 0 r2 (.slice a1 r2.a.data.length k1) (.slice a2 r2.b.data.length k2) w7) := (box_new r2 _ _ w5 _).below b7 (by omega)
    have b57 : Below w5.heap.size w5 w7 := b6.trans (b7.mono (by omega))
    have X7 : Hid (RomBox w1.heap.size 0 r (.slice aa r.a.data.length ca) (.slice ab r.b.data.length cb) w7) := X5.out.below b57 (by omega)
    have H7 : Hid (Below w4.heap.size w4 w7) := H5.out.2.2.2.trans (b57.mono s5)
    obtain ⟨d0, d1, d2, d3, d4, d5⟩ := X7.out.six
    have s7 : w5.heap.size < w7.heap.size := Y7.out.z
    clear b6 b7 b57 e1 HR6
    go_wp2_with fail
    have H47 : Below w3.heap.size w3 w7 := H4.out.trans (H7.out.mono s4)
    refine (play_spec _ _ r (r.plan xs) ((r.plan xs).length : Int) w7 (HK.out.1.below H47 (Nat.le_refl _)) ((WritesIn.below HP.out.at H7.out).mono H7.out.size) (plan_bytes r H1.out.2.2.2.2.1) (by omega)).mono ?_
    rintro e w8 ⟨g3, g4, rfl, o3, o4, ok3, b8⟩
    rw [HO'.out, HE.out] at o3 o4 ok3 ⊢
    have HR8 : Hid (RomAt (romV r2 g3 g4) r2 w8) := ⟨ok3, _, _, rfl, o3.at, o4.at⟩
    have Y8 : Hid (RomBox w5.heap.size 0 r2 (.slice a1 r2.a.data.length k1) (.slice a2 r2.b.data.length k2) w8) := Y7.out.below b8 s7
    have X8 : Hid (RomBox w1.heap.size 0 r (.slice aa r.a.data.length ca) (.slice ab r.b.data.length cb) w8) := X7.out.below b8 (by omega)
    have HB8 : Hid (Below w.heap.size w w8) := (HK.out.2.2.trans (H47.mono (by omega))).trans (b8.mono (by omega))
    have s8 : w7.heap.size ≤ w8.heap.size := b8.size
    clear o3 o4 ok3 b8 d0 d1 d2 d3 d4 d5 H47
    go_wp2_with fail
    refine (slot_spec _ r2 w8 HR8.out).mono ?_
    rintro e w9 ⟨rfl, b9⟩
    have HB9 : Hid (Below w.heap.size w w9) := HB8.out.trans (b9.mono (by omega))
    obtain ⟨p0, p1, p2, p3, p4, p5⟩ := (Y8.out.below b9 (by omega)).six
    obtain ⟨d0, d1, d2, d3, d4, d5⟩ := (X8.out.below b9 (by omega)).six
    clear b9 HB8 Y8 X8 HR8 X7 Y7 X5 X4 H7 H5 H4 HE HO'
    rcases HO with ⟨e1, e2, e3, e4⟩ | ⟨e1, e2, e3, e4⟩ | ⟨e1, e2, e3, e4⟩
    · rw [e1, e2]
      rw [e3] at p3
      rw [e4] at p0
      clear e1 e2 e3 e4
      go_wp2_with fail
      go_ret
      exact ⟨rfl, HB9.out⟩
    · rw [e1, e2]
      rw [e3] at p0
      rw [e4] at p3
      clear e1 e2 e3 e4
      go_wp2_with fail
      go_ret
      exact ⟨rfl, HB9.out⟩
    · rw [e1, e2]
      rw [e3] at p0
      rw [e4] at p3
      clear e1 e2 e3 e4
      have t1 : ((r.b.mark : Int) == (r.b.mark : Int)) = true := by simp
      go_wp2_with fail
      go_ret
      exact ⟨rfl, HB9.out⟩
  · rcases hp with ⟨hl, -, -⟩ | ⟨-, rfl, rfl⟩
    · exact absurd hl hlen
    have hlen' : (20100 : Int) < (xs.length : Int) := by omega
    have HF : Hid (Below w.heap.size w w4) := HK.out.2.2.trans (H4.out.mono (by omega))
    go_wp2_with fail
    go_ret
    exact ⟨rfl, HF.out⟩

set_option maxHeartbeats 400000 in
theorem once_long (a0 : Option Addr) (l0 c0 : Nat) (w : World) (h : 1048576 < l0) (m0 : l0 ≤ 9223372036854775807) :
    Calls Try.prog 5 #[.slice a0 l0 c0] w fun e w' => e = .returned (.bool true) ∧ Below w.heap.size w w' := by
  go_enter Try.func5, Try.ntmps5
  go_wp2
  go_ret
  exact ⟨rfl, Below.refl _ _⟩

theorem law (a0 : Option Addr) (l0 c0 : Nat) (w : World) (C0 : CodeAt (.slice a0 l0 c0) w) (m0 : l0 ≤ 9223372036854775807) :
    Calls Try.prog 5 #[.slice a0 l0 c0] w fun e w' => e = .returned (.bool true) ∧ Below w.heap.size w w' := by
  by_cases h : 1048576 < l0
  · exact once_long a0 l0 c0 w h m0
  · exact once_short a0 l0 c0 w (by omega) C0

end Go.Proofs.Ytdhoimjkgicneab
