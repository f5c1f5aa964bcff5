/- The law on a plan that is cut, out of the contracts. -/
import Derived.Test.YtdhoimjkgicneabTopD
import Derived.Test.YtdhoimjkgicneabHolU
import Derived.Test.YtdhoimjkgicneabHolW
namespace Go.Proofs.Ytdhoimjkgicneab
open Go Go.RowKit

/-- What lies there while the cuts are tried. -/
structure TopAt (V : Nat) (w0 : World) (r : Ro) (xs ks : List Nat) (q : Bool) (da db dv ov pv : Value) (wr : World) : Prop where
  box : RomBox V 0 r da db wr
  rom : RomAt (romV r da db) r wr
  dat : BytesAt dv xs wr
  old : BytesAt ov ks wr
  pln : WritesAt pv (r.plan xs) wr
  bel : Below w0.heap.size w0 wr

theorem TopAt.below {V : Nat} {w0 : World} {r : Ro} {xs ks : List Nat} {q : Bool} {da db dv ov pv : Value} {wr w' : World} (h : TopAt V w0 r xs ks q da db dv ov pv wr) (hb : Below wr.heap.size wr w') : TopAt V w0 r xs ks q da db dv ov pv w' :=
  ⟨h.box.below hb h.box.z, h.rom.below hb (Nat.le_refl _), h.dat.below hb (Nat.le_refl _), h.old.below hb (Nat.le_refl _), (WritesIn.below h.pln hb).mono hb.size, h.bel.trans (hb.mono h.bel.size)⟩

def TopRel (L : Nat) (T : World → Prop) (iv : Value) (wr : World) : Prop := ∃ n : Nat, iv = .int .i64 (n : Int) ∧ n ≤ L + 1 ∧ T wr

set_option maxRecDepth 100000 in
set_option maxHeartbeats 4000000 in
theorem top_short (a0 : Option Addr) (l0 c0 : Nat) (w : World) (h0 : l0 ≤ 1048576) (C0 : CodeAt (.slice a0 l0 c0) w) :
    Calls Try.prog 3 #[.slice a0 l0 c0] w fun e w' => e = .returned (.bool true) ∧ Below w.heap.size w w' := by
  go_enter Try.func3, Try.ntmps3
  go_wp2_with fail
  refine (draw_hplan _ w C0).mono ?_
  rintro e w1 ⟨r, da, db, dv, xs, rfl, ok, ba, bb, bd, few, b1⟩
  have H1 : Hid (RoOk r ∧ BytesAt da r.a.data w1 ∧ BytesAt db r.b.data w1 ∧ BytesAt dv xs w1 ∧ Few xs ∧ Below w.heap.size w w1) := ⟨ok, ba, bb, bd, few, b1⟩
  have s1 : w.heap.size ≤ w1.heap.size := b1.size
  have hfl := few.len
  obtain ⟨aa, ca, rfl⟩ := ba.len
  obtain ⟨ab, cb, rfl⟩ := bb.len
  obtain ⟨ad, cd, rfl⟩ := bd.len
  clear ok ba bb bd few b1 C0
  simp only [romV]
  go_wp2_with fail
  have b2 : Below w1.heap.size w1 (w1.alloc (.cells #[.int .u8 (r.a.mark : Int), .int .u8 (r.a.turn : Int), .slice aa r.a.data.length ca, .int .u8 (r.b.mark : Int), .int .u8 (r.b.turn : Int), .slice ab r.b.data.length cb] 26)) := (Below.refl _ _).alloc (Nat.le_refl _) _
  have HR2 : Hid (RomAt (.agg #[.int .u8 (r.a.mark : Int), .int .u8 (r.a.turn : Int), .slice aa r.a.data.length ca, .int .u8 (r.b.mark : Int), .int .u8 (r.b.turn : Int), .slice ab r.b.data.length cb]) r (w1.alloc (.cells #[.int .u8 (r.a.mark : Int), .int .u8 (r.a.turn : Int), .slice aa r.a.data.length ca, .int .u8 (r.b.mark : Int), .int .u8 (r.b.turn : Int), .slice ab r.b.data.length cb] 26))) := RomAt.below (w := w1) ⟨H1.out.1, _, _, rfl, H1.out.2.1, H1.out.2.2.1⟩ b2 (Nat.le_refl _)
  refine (now_spec _ r _ HR2.out).mono ?_
  rintro e w3 ⟨u, rfl, hnow, b3⟩
  obtain ⟨ov, q, ks, rfl, bo, fk, hqk, hrn⟩ := now_bytes H1.out.1 hnow
  have e1 : (w1.alloc (.cells #[.int .u8 (r.a.mark : Int), .int .u8 (r.a.turn : Int), .slice aa r.a.data.length ca, .int .u8 (r.b.mark : Int), .int .u8 (r.b.turn : Int), .slice ab r.b.data.length cb] 26)).heap.size = w1.heap.size + 1 := by simp
  rw [e1] at b3
  have X3 : Hid (RomBox w1.heap.size 0 r (.slice aa r.a.data.length ca) (.slice ab r.b.data.length cb) w3) := (box_new r _ _ w1 _).below b3 (by omega)
  have HK : Hid (BytesAt ov ks w3 ∧ Few ks ∧ (q = false → ks = []) ∧ (r.now = if q = true then some ks else none) ∧ RomAt (.agg #[.int .u8 (r.a.mark : Int), .int .u8 (r.a.turn : Int), .slice aa r.a.data.length ca, .int .u8 (r.b.mark : Int), .int .u8 (r.b.turn : Int), .slice ab r.b.data.length cb]) r w3 ∧ BytesAt (.slice ad xs.length cd) xs w3 ∧ Below w.heap.size w w3) := by
    have b13 : Below w1.heap.size w1 w3 := b2.trans (b3.mono (by omega))
    exact ⟨bo, fk, hqk, hrn, HR2.out.below b3 (by simp), H1.out.2.2.2.1.below b13 (Nat.le_refl _), H1.out.2.2.2.2.2.trans (b13.mono s1)⟩
  obtain ⟨c0', c1', c2', c3', c4', c5'⟩ := X3.out.six
  have s3 : w1.heap.size < w3.heap.size := X3.out.z
  clear bo fk hqk hrn hnow b2 b3 HR2 e1
  go_wp2_with fail
  refine (plan_impl _ _ r xs w3 HK.out.2.2.2.2.1 HK.out.2.2.2.2.2.1 H1.out.2.2.2.2.1).mono ?_
  rintro e w4 ⟨u, rfl, ⟨pv, pq, rfl, hp⟩, b4⟩
  have X4 : Hid (RomBox w1.heap.size 0 r (.slice aa r.a.data.length ca) (.slice ab r.b.data.length cb) w4) := X3.out.below b4 s3
  have H4 : Hid (Below w3.heap.size w3 w4) := b4
  obtain ⟨d0, d1, d2, d3, d4, d5⟩ := X4.out.six
  clear b4 c0' c1' c2' c3' c4' c5'
  by_cases hlen : xs.length ≤ 20100
  · rcases hp with ⟨-, rfl, hp⟩ | ⟨hl, -, -⟩
    rotate_left
    · exact absurd hlen hl
    have HP : Hid (OwnW w3.heap.size pv (r.plan xs) w4) := hp
    obtain ⟨ap, cp, rfl⟩ := ownW_size hp
    clear hp
    go_wp2_with fail
    refine (plan_spec _ _ r xs w4 (HK.out.2.2.2.2.1.below H4.out (Nat.le_refl _)) (HK.out.2.2.2.2.2.1.below H4.out (Nat.le_refl _)) H1.out.2.2.2.2.1).mono ?_
    rintro e w5 ⟨u, rfl, ⟨sv, sq, rfl, hsp⟩, b5⟩
    rcases hsp with ⟨-, rfl, -⟩ | ⟨hl, -, -⟩
    rotate_left
    · exact absurd hlen hl
    have HT : Hid (TopAt w1.heap.size w r xs ks q (.slice aa r.a.data.length ca) (.slice ab r.b.data.length cb) (.slice ad xs.length cd) ov (.slice ap (r.plan xs).length cp) w5) := by
      have b35 : Below w3.heap.size w3 w5 := H4.out.trans (b5.mono H4.out.size)
      exact ⟨X3.out.below b35 s3, HK.out.2.2.2.2.1.below b35 (Nat.le_refl _), HK.out.2.2.2.2.2.1.below b35 (Nat.le_refl _), HK.out.1.below b35 (Nat.le_refl _), (WritesIn.below HP.out.at b5).mono b5.size, HK.out.2.2.2.2.2.2.trans (b35.mono (by omega))⟩
    have hlen' : (xs.length : Int) ≤ 20100 := by omega
    have HL : Hid ((r.plan xs).length = xs.length + 4 + if r.now = none then 0 else 1) := by
      show _ = _
      rw [plan_len, now_tail]
    clear b5 d0 d1 d2 d3 d4 d5 X3 X4 H4 HP
    go_wp2_with fail
    have hL1 : xs.length + 4 ≤ (r.plan xs).length := by rw [HL.out]; omega
    have hL2 : (r.plan xs).length ≤ xs.length + 5 := by rw [HL.out]; split <;> omega
    go_loopw [11] (fun iv wr => TopRel (r.plan xs).length (fun wz => TopAt w1.heap.size w r xs ks q (.slice aa r.a.data.length ca) (.slice ab r.b.data.length cb) (.slice ad xs.length cd) ov (.slice ap (r.plan xs).length cp) wz) iv wr) (fun iv _ => (r.plan xs).length + 1 - (intOf iv).toNat)
    case atStart => exact ⟨0, rfl, by omega, HT.out⟩
    case round =>
      clear HT
      obtain ⟨n, rfl, hn, hT⟩ := hrel
      have HW : Hid (TopAt w1.heap.size w r xs ks q (.slice aa r.a.data.length ca) (.slice ab r.b.data.length cb) (.slice ad xs.length cd) ov (.slice ap (r.plan xs).length cp) wr) := hT
      clear hT
      by_cases hnL : n ≤ (r.plan xs).length
      · have hnL' : (n : Int) ≤ ((r.plan xs).length : Int) := by omega
        by_cases h300 : 300 < n
        · have h300' : (300 : Int) < (n : Int) := by omega
          by_cases hsk : n < (r.plan xs).length - 3
          · have hsk' : (n : Int) < ((r.plan xs).length : Int) - 3 := by omega
            obtain ⟨q0, q1, q2, q3, q4, q5⟩ := HW.out.box.six
            go_wp2_with fail
            refine (play_impl _ _ r (r.plan xs) (((r.plan xs).length : Int) - 3) wr HW.out.rom HW.out.pln (plan_bytes r H1.out.2.2.2.2.1) (by omega)).mono ?_
            rintro e w6 ⟨g1, g2, rfl, o1, o2, ok2, b6⟩
            have hm : ((((r.plan xs).length : Int) - 3) : Int).toNat = ((r.plan xs).length - 3) := by omega
            have HON : Hid ((((r.plan xs).length - 3) < xs.length + 4 → (r.play ((r.plan xs).take ((((r.plan xs).length : Int) - 3) : Int).toNat)).now = r.now) ∧ (xs.length + 4 ≤ ((r.plan xs).length - 3) → (r.play ((r.plan xs).take ((((r.plan xs).length : Int) - 3) : Int).toNat)).now = some xs)) := by
              rw [hm]; exact old_or_new r xs hlen _
            clear hm
            obtain ⟨r2, hr2⟩ : ∃ r2, r2 = r.play ((r.plan xs).take ((((r.plan xs).length : Int) - 3) : Int).toNat) := ⟨_, rfl⟩
            rw [← hr2] at HON o1 o2 ok2 ⊢
            clear hr2
            have HR6 : Hid (RomAt (romV r2 g1 g2) r2 w6) := ⟨ok2, _, _, rfl, o1.at, o2.at⟩
            have HT6 : Hid (TopAt w1.heap.size w r xs ks q (.slice aa r.a.data.length ca) (.slice ab r.b.data.length cb) (.slice ad xs.length cd) ov (.slice ap (r.plan xs).length cp) w6) := HW.out.below b6
            have HO2 : Hid (RoOk r2) := ok2
            clear o1 o2 ok2 b6 q0 q1 q2 q3 q4 q5
            go_wp2_with fail
            refine (now_impl _ r2 w6 HR6.out).mono ?_
            rintro e w7 ⟨u, rfl, ⟨nv, nq, rfl, hnow⟩, b7⟩
            have HT7 : Hid (TopAt w1.heap.size w r xs ks q (.slice aa r.a.data.length ca) (.slice ab r.b.data.length cb) (.slice ad xs.length cd) ov (.slice ap (r.plan xs).length cp) w7) := HT6.out.below b7
            by_cases hlt : ((r.plan xs).length - 3) < xs.length + 4
            · have HE : Hid (r2.now = if q = true then some ks else none) := (HON.out.1 hlt).trans HK.out.2.2.2.1
              obtain ⟨ys, HY⟩ : ∃ ys, Hid (BytesAt nv ys w7 ∧ Few ys ∧ (nq = q ∧ ys = ks)) := same_now hnow HE.out HK.out.2.1 HK.out.2.2.1
              have hlt' : (((r.plan xs).length : Int) - 3) < (xs.length : Int) + 4 := by omega
              clear hnow b7 HE HON HR6 HT6
              go_wp2_with fail
              refine (wh_same (q := true) _ _ HY.out.1 HT7.out.old HY.out.2.1 HK.out.2.1 ⟨fun _ => HY.out.2.2, fun _ => rfl⟩).mono ?_
              rintro e w8 ⟨rfl, rfl⟩
              go_wp2_with fail
              go_roundw
              case rel => exact ⟨((r.plan xs).length - 3) + 1, by go_num, by omega, HT7.out⟩
              case measure => simp [intOf]; omega
            · exact absurd (show ((r.plan xs).length - 3) < xs.length + 4 by omega) hlt
          · have hsk' : ¬ (n : Int) < ((r.plan xs).length : Int) - 3 := by omega
            obtain ⟨q0, q1, q2, q3, q4, q5⟩ := HW.out.box.six
            go_wp2_with fail
            refine (play_impl _ _ r (r.plan xs) (n : Int) wr HW.out.rom HW.out.pln (plan_bytes r H1.out.2.2.2.2.1) (by omega)).mono ?_
            rintro e w6 ⟨g1, g2, rfl, o1, o2, ok2, b6⟩
            have hm : ((n : Int) : Int).toNat = n := by omega
            have HON : Hid ((n < xs.length + 4 → (r.play ((r.plan xs).take ((n : Int) : Int).toNat)).now = r.now) ∧ (xs.length + 4 ≤ n → (r.play ((r.plan xs).take ((n : Int) : Int).toNat)).now = some xs)) := by
              rw [hm]; exact old_or_new r xs hlen _
            clear hm
            obtain ⟨r2, hr2⟩ : ∃ r2, r2 = r.play ((r.plan xs).take ((n : Int) : Int).toNat) := ⟨_, rfl⟩
            rw [← hr2] at HON o1 o2 ok2 ⊢
            clear hr2
            have HR6 : Hid (RomAt (romV r2 g1 g2) r2 w6) := ⟨ok2, _, _, rfl, o1.at, o2.at⟩
            have HT6 : Hid (TopAt w1.heap.size w r xs ks q (.slice aa r.a.data.length ca) (.slice ab r.b.data.length cb) (.slice ad xs.length cd) ov (.slice ap (r.plan xs).length cp) w6) := HW.out.below b6
            have HO2 : Hid (RoOk r2) := ok2
            clear o1 o2 ok2 b6 q0 q1 q2 q3 q4 q5
            go_wp2_with fail
            refine (now_impl _ r2 w6 HR6.out).mono ?_
            rintro e w7 ⟨u, rfl, ⟨nv, nq, rfl, hnow⟩, b7⟩
            have HT7 : Hid (TopAt w1.heap.size w r xs ks q (.slice aa r.a.data.length ca) (.slice ab r.b.data.length cb) (.slice ad xs.length cd) ov (.slice ap (r.plan xs).length cp) w7) := HT6.out.below b7
            by_cases hlt : n < xs.length + 4
            · have HE : Hid (r2.now = if q = true then some ks else none) := (HON.out.1 hlt).trans HK.out.2.2.2.1
              obtain ⟨ys, HY⟩ : ∃ ys, Hid (BytesAt nv ys w7 ∧ Few ys ∧ (nq = q ∧ ys = ks)) := same_now hnow HE.out HK.out.2.1 HK.out.2.2.1
              have hlt' : (n : Int) < (xs.length : Int) + 4 := by omega
              clear hnow b7 HE HON HR6 HT6
              go_wp2_with fail
              refine (wh_same (q := true) _ _ HY.out.1 HT7.out.old HY.out.2.1 HK.out.2.1 ⟨fun _ => HY.out.2.2, fun _ => rfl⟩).mono ?_
              rintro e w8 ⟨rfl, rfl⟩
              go_wp2_with fail
              go_roundw
              case rel => exact ⟨n + 1, by go_num, by omega, HT7.out⟩
              case measure => simp [intOf]; omega
            · have HE : Hid (r2.now = if true = true then some xs else none) := (HON.out.2 (by omega)).trans (by simp)
              obtain ⟨ys, HY⟩ : ∃ ys, Hid (BytesAt nv ys w7 ∧ Few ys ∧ (nq = true ∧ ys = xs)) := same_now hnow HE.out H1.out.2.2.2.2.1 (by simp)
              have hlt' : ¬ (n : Int) < (xs.length : Int) + 4 := by omega
              have hge' : (xs.length : Int) + 4 ≤ (n : Int) := by omega
              clear hnow b7 HE HON HR6 HT6
              go_wp2_with fail
              refine (wh_same (q := true) _ _ HY.out.1 HT7.out.dat HY.out.2.1 H1.out.2.2.2.2.1 ⟨fun _ => HY.out.2.2, fun _ => rfl⟩).mono ?_
              rintro e w8 ⟨rfl, rfl⟩
              go_wp2_with fail
              go_roundw
              case rel => exact ⟨n + 1, by go_num, by omega, HT7.out⟩
              case measure => simp [intOf]; omega
        · have h300' : ¬ (300 : Int) < (n : Int) := by omega
          obtain ⟨q0, q1, q2, q3, q4, q5⟩ := HW.out.box.six
          go_wp2_with fail
          refine (play_impl _ _ r (r.plan xs) (n : Int) wr HW.out.rom HW.out.pln (plan_bytes r H1.out.2.2.2.2.1) (by omega)).mono ?_
          rintro e w6 ⟨g1, g2, rfl, o1, o2, ok2, b6⟩
          have hm : ((n : Int) : Int).toNat = n := by omega
          have HON : Hid ((n < xs.length + 4 → (r.play ((r.plan xs).take ((n : Int) : Int).toNat)).now = r.now) ∧ (xs.length + 4 ≤ n → (r.play ((r.plan xs).take ((n : Int) : Int).toNat)).now = some xs)) := by
            rw [hm]; exact old_or_new r xs hlen _
          clear hm
          obtain ⟨r2, hr2⟩ : ∃ r2, r2 = r.play ((r.plan xs).take ((n : Int) : Int).toNat) := ⟨_, rfl⟩
          rw [← hr2] at HON o1 o2 ok2 ⊢
          clear hr2
          have HR6 : Hid (RomAt (romV r2 g1 g2) r2 w6) := ⟨ok2, _, _, rfl, o1.at, o2.at⟩
          have HT6 : Hid (TopAt w1.heap.size w r xs ks q (.slice aa r.a.data.length ca) (.slice ab r.b.data.length cb) (.slice ad xs.length cd) ov (.slice ap (r.plan xs).length cp) w6) := HW.out.below b6
          have HO2 : Hid (RoOk r2) := ok2
          clear o1 o2 ok2 b6 q0 q1 q2 q3 q4 q5
          go_wp2_with fail
          refine (now_impl _ r2 w6 HR6.out).mono ?_
          rintro e w7 ⟨u, rfl, ⟨nv, nq, rfl, hnow⟩, b7⟩
          have HT7 : Hid (TopAt w1.heap.size w r xs ks q (.slice aa r.a.data.length ca) (.slice ab r.b.data.length cb) (.slice ad xs.length cd) ov (.slice ap (r.plan xs).length cp) w7) := HT6.out.below b7
          by_cases hlt : n < xs.length + 4
          · have HE : Hid (r2.now = if q = true then some ks else none) := (HON.out.1 hlt).trans HK.out.2.2.2.1
            obtain ⟨ys, HY⟩ : ∃ ys, Hid (BytesAt nv ys w7 ∧ Few ys ∧ (nq = q ∧ ys = ks)) := same_now hnow HE.out HK.out.2.1 HK.out.2.2.1
            have hlt' : (n : Int) < (xs.length : Int) + 4 := by omega
            clear hnow b7 HE HON HR6 HT6
            go_wp2_with fail
            refine (wh_same (q := true) _ _ HY.out.1 HT7.out.old HY.out.2.1 HK.out.2.1 ⟨fun _ => HY.out.2.2, fun _ => rfl⟩).mono ?_
            rintro e w8 ⟨rfl, rfl⟩
            go_wp2_with fail
            go_roundw
            case rel => exact ⟨n + 1, by go_num, by omega, HT7.out⟩
            case measure => simp [intOf]; omega
          · have HE : Hid (r2.now = if true = true then some xs else none) := (HON.out.2 (by omega)).trans (by simp)
            obtain ⟨ys, HY⟩ : ∃ ys, Hid (BytesAt nv ys w7 ∧ Few ys ∧ (nq = true ∧ ys = xs)) := same_now hnow HE.out H1.out.2.2.2.2.1 (by simp)
            have hlt' : ¬ (n : Int) < (xs.length : Int) + 4 := by omega
            have hge' : (xs.length : Int) + 4 ≤ (n : Int) := by omega
            clear hnow b7 HE HON HR6 HT6
            go_wp2_with fail
            refine (wh_same (q := true) _ _ HY.out.1 HT7.out.dat HY.out.2.1 H1.out.2.2.2.2.1 ⟨fun _ => HY.out.2.2, fun _ => rfl⟩).mono ?_
            rintro e w8 ⟨rfl, rfl⟩
            go_wp2_with fail
            go_roundw
            case rel => exact ⟨n + 1, by go_num, by omega, HT7.out⟩
            case measure => simp [intOf]; omega
      · have hnL' : ¬ (n : Int) ≤ ((r.plan xs).length : Int) := by omega
        cases hq : q with
        | true =>
          have hl5 : ((r.plan xs).length : Int) = (xs.length : Int) + 5 := by
            have e := HK.out.2.2.2.1
            rw [hq] at e
            simp only [if_true] at e
            have := HL.out
            rw [e] at this
            simp only [reduceCtorEq, if_false] at this
            omega
          have t1 : (((r.plan xs).length : Int) == (xs.length : Int) + 4) = false := by simp; omega
          have t2 : (((r.plan xs).length : Int) == (xs.length : Int) + 5) = true := by simp; omega
          have HB : Hid (Below w.heap.size w wr) := HW.out.bel
          clear hl5 HW HL HK
          go_wp2_with fail
          go_ret
          exact ⟨rfl, HB.out⟩
        | false =>
          have hl4 : ((r.plan xs).length : Int) = (xs.length : Int) + 4 := by
            have e := HK.out.2.2.2.1
            rw [hq] at e
            simp only [Bool.false_eq_true, if_false] at e
            have := HL.out
            rw [e] at this
            simp only [if_true] at this
            omega
          have t1 : (((r.plan xs).length : Int) == (xs.length : Int) + 4) = true := by simp; omega
          have HB : Hid (Below w.heap.size w wr) := HW.out.bel
          clear hl4 HW HL HK
          go_wp2_with fail
          go_ret
          exact ⟨rfl, HB.out⟩
  · rcases hp with ⟨hl, -, -⟩ | ⟨-, rfl, rfl⟩
    · exact absurd hl hlen
    have hlen' : (20100 : Int) < (xs.length : Int) := by omega
    go_wp2_with fail
    refine (plan_spec _ _ r xs w4 (HK.out.2.2.2.2.1.below H4.out (Nat.le_refl _)) (HK.out.2.2.2.2.2.1.below H4.out (Nat.le_refl _)) H1.out.2.2.2.2.1).mono ?_
    rintro e w5 ⟨u, rfl, ⟨sv, sq, rfl, hsp⟩, b5⟩
    rcases hsp with ⟨hl, -, -⟩ | ⟨-, rfl, rfl⟩
    · exact absurd hl hlen
    have HF : Hid (Below w.heap.size w w5) := (HK.out.2.2.2.2.2.2.trans (H4.out.mono (by omega))).trans (b5.mono (by have := H4.out.size; omega))
    clear b5
    go_wp2_with fail
    go_ret
    exact ⟨rfl, HF.out⟩

end Go.Proofs.Ytdhoimjkgicneab
