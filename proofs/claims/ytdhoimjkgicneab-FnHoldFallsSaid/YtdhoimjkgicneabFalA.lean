/- The law on many falls, out of the contracts. -/
import Derived.Test.YtdhoimjkgicneabHolN
import Derived.Test.YtdhoimjkgicneabHolV
import Derived.Test.YtdhoimjkgicneabHolE
import Derived.Test.YtdhoimjkgicneabHolW
import Derived.Test.YtdhoimjkgicneabHolU
import Derived.Test.YtdhoimjkgicneabDrawO
namespace Go.Proofs.Ytdhoimjkgicneab
open Go Go.RowKit

/-- What holds between two plans: block R is the store, kv what is kept last. -/
structure FalAt (R : Nat) (w0 : World) (r : Ro) (ks : List Nat) (q : Bool) (kv : Value) (wr : World) : Prop where
  rom : ∃ da db, RomBox R 0 r da db wr ∧ BytesAt da r.a.data wr ∧ BytesAt db r.b.data wr
  ok : RoOk r
  kept : Own (R + 1) kv ks wr
  emp : q = false → ks = []
  few : Few ks
  now : r.now = if q = true then some ks else none
  fr : ∀ i, wr.frozen? ⟨R, i, none⟩ = false
  lo : w0.heap.size ≤ R
  bel : Below w0.heap.size w0 wr

theorem FalAt.below {R : Nat} {w0 : World} {r : Ro} {ks : List Nat} {q : Bool} {kv : Value} {wr w' : World} (h : FalAt R w0 r ks q kv wr) (hb : Below wr.heap.size wr w') : FalAt R w0 r ks q kv w' := by
  obtain ⟨da, db, h1, h2, h3⟩ := h.rom
  exact ⟨⟨da, db, h1.below hb h1.z, h2.below hb (Nat.le_refl _), h3.below hb (Nat.le_refl _)⟩, h.ok, h.kept.below hb (Nat.le_refl _), h.emp, h.few, h.now, fun i => (hb.frozen (p := ⟨R, i, none⟩) h1.z).trans (h.fr i), h.lo, h.bel.trans (hb.mono h.bel.size)⟩

def FalRel (R : Nat) (w0 : World) (i kv hv : Value) (wr : World) : Prop := ∃ (k : Nat) (r : Ro) (ks : List Nat) (q : Bool), i = .int .i64 ((2 * k : Nat) : Int) ∧ k ≤ 60 ∧ hv = .bool q ∧ FalAt R w0 r ks q kv wr

/-- The bytes that are gathered. -/
def InRel (m : Nat) (w0 : World) (dv kk : Value) (wz : World) : Prop := ∃ (j : Nat) (xs : List Nat), j ≤ m ∧ kk = .int .i64 (j : Int) ∧ xs.length = j ∧ Few xs ∧ Own w0.heap.size dv xs wz ∧ Below w0.heap.size w0 wz

theorem wrap_in {z : Int} (h1 : -9223372036854775808 ≤ z) (h2 : z ≤ 9223372036854775807) : IntKind.i64.wrap z = z := by rw [IntKind.wrap_i64]; omega

/-- A byte of a code. -/
theorem CodeAt.get {a : Option Addr} {l cap : Nat} {w w' : World} (h : CodeAt (.slice a l cap) w) (hb : Below w.heap.size w w') {i : Nat} (hi : i < l) : ∃ b off x : Nat, a = some ⟨b, off, none⟩ ∧ b < w.heap.size ∧ x ≤ 255 ∧ w'.cell? ⟨b, off + i, none⟩ = some (.int .u8 (x : Int)) := by
  rcases h with ⟨b, off, len, cap', e, hz, h1, h2, h3, he⟩ | ⟨a', cap', e⟩
  · injection e with e1 e2 e3
    obtain ⟨x, hx, ex⟩ := he i (by omega)
    exact ⟨b, off, x, e1, hz, hx, (hb.cell (p := ⟨b, off + i, none⟩) hz).trans ex⟩
  · injection e with e1 e2 e3
    omega

set_option maxRecDepth 100000 in
set_option maxHeartbeats 4000000 in
theorem falls_short (a0 : Option Addr) (l0 c0 : Nat) (w : World) (h0 : l0 ≤ 1048576) (C0 : CodeAt (.slice a0 l0 c0) w) :
    Calls Try.prog 4 #[.slice a0 l0 c0] w fun e w' => e = .returned (.bool true) ∧ Below w.heap.size w w' := by
  have XC : Hid (CodeAt (.slice a0 l0 c0) w) := C0
  clear C0
  go_enter Try.func4, Try.ntmps4
  go_wp2_with fail
  have I0 : Hid (FalRel w.heap.size w (.int .i64 0) (.slice (some ⟨w.heap.size + 1, 0, none⟩) 0 0) (.bool false) ((w.alloc (.cells #[.int .u8 0, .int .u8 0, .slice none 0 0, .int .u8 0, .int .u8 0, .slice none 0 0] 26)).alloc (.cells #[] 5))) := by
    refine ⟨0, ⟨⟨0, 0, []⟩, ⟨0, 0, []⟩⟩, [], false, rfl, by omega, rfl, ⟨⟨.slice none 0 0, .slice none 0 0, ⟨by simp; omega, by simp, by simp, by simp, by simp, by simp, by simp⟩, Or.inr ⟨rfl, rfl⟩, Or.inr ⟨rfl, rfl⟩⟩, ⟨by simp, by simp, Few.nil, by simp, by simp, Few.nil⟩, ?_, fun _ => rfl, Few.nil, by simp [Ro.now, Ro.slotNow, Sl.good], fun i => by simp, Nat.le_refl _, ((Below.refl w.heap.size w).alloc (Nat.le_refl _) _).alloc (by simp) _⟩⟩
    have e : (w.alloc (.cells #[.int .u8 0, .int .u8 0, .slice none 0 0, .int .u8 0, .int .u8 0, .slice none 0 0] 26)).heap.size = w.heap.size + 1 := by simp
    have := World.ownsRow_made (base := w.heap.size + 1) (e := 5) (size := 1) (w.alloc (.cells #[.int .u8 0, .int .u8 0, .slice none 0 0, .int .u8 0, .int .u8 0, .slice none 0 0] 26)) #[] 0 (by rw [e]; exact Nat.le_refl _) (by decide) rfl
    rw [e] at this
    exact this
  go_loopw [6, 4, 5] (fun i kv hv wr => FalRel w.heap.size w i kv hv wr) (fun i _ _ _ => 122 - (intOf i).toNat)
  case atStart => exact I0.out
  case round =>
    clear I0
    rename World => wx
    obtain ⟨k, r, ks, q, rfl, hk, rfl, hF⟩ := hrel
    have HF : Hid (FalAt w.heap.size w r ks q u4 wx) := hF
    have zr : w.heap.size < wx.heap.size := by obtain ⟨_, _, h, _⟩ := hF.rom; exact h.z
    clear hF
    by_cases hlt : 2 * k + 1 < l0
    · by_cases hk6 : k < 60
      · obtain ⟨b, off, x0, rfl, hb0, hx0, cx0⟩ := XC.out.get HF.out.bel (i := 2 * k) (by omega)
        obtain ⟨b', off', x1, e, hb1, hx1, cx1⟩ := XC.out.get HF.out.bel (i := 2 * k + 1) hlt
        injection e with e
        injection e with e1 e2
        subst e1 e2
        go_wp2_with fail
        have hm0 : x0 % 9 ≤ 8 := by omega
        have I1 : Hid (InRel (x0 % 9) wx (.slice (some ⟨wx.heap.size, 0, none⟩) 0 0) (.int .i64 0) (wx.alloc (.cells #[] 5))) :=
          ⟨0, [], by omega, rfl, rfl, Few.nil, World.ownsRow_made wx #[] 0 (Nat.le_refl _) (by decide) rfl, (Below.refl _ _).alloc (Nat.le_refl _) _⟩
        go_loopw [7, 8] (fun dv kk wz => InRel (x0 % 9) wx dv kk wz) (fun _ kk _ => 9 - (intOf kk).toNat)
        case atStart => exact I1.out
        case round =>
          clear I1
          rename World => wz
          obtain ⟨j, xs, hj, rfl, hxl, few, own, bel⟩ := hrel
          have HI : Hid (Few xs ∧ Own wx.heap.size u7 xs wz ∧ Below wx.heap.size wx wz) := ⟨few, own, bel⟩
          clear few own bel
          have cy0 : wz.cell? ⟨b, off + 2 * k, none⟩ = some (.int .u8 (x0 : Int)) := (HI.out.2.2.cell (p := ⟨b, off + 2 * k, none⟩) (by show b < _; omega)).trans cx0
          have cy1 : wz.cell? ⟨b, off + (2 * k + 1), none⟩ = some (.int .u8 (x1 : Int)) := (HI.out.2.2.cell (p := ⟨b, off + (2 * k + 1), none⟩) (by show b < _; omega)).trans cx1
          by_cases hjm : j < x0 % 9
          · have hjm' : (j : Int) < (x0 : Int) % 9 := by omega
            go_wp2_with fail
            have pj : (j : Int) * (x1 : Int) ≤ 8 * 255 := by
              have h1 : (j * x1) ≤ 8 * 255 := Nat.mul_le_mul (by omega) (by omega)
              have h2 : ((j * x1 : Nat) : Int) = (j : Int) * (x1 : Int) := by simp
              omega
            have pj0 : 0 ≤ (j : Int) * (x1 : Int) := by
              have h2 : ((j * x1 : Nat) : Int) = (j : Int) * (x1 : Int) := by simp
              omega
            obtain ⟨y, hy, hy2⟩ : ∃ y : Nat, ((x0 : Int) + (j : Int) * (x1 : Int)) % 256 = (y : Int) ∧ y ≤ 255 := ⟨(((x0 : Int) + (j : Int) * (x1 : Int)) % 256).toNat, by omega, by omega⟩
            have hyw : IntKind.u8.wrap ((x0 : Int) + (j : Int) * (x1 : Int)) = (y : Int) := by rw [← hy]; rfl
            have t0 : (0 : Int) ≤ 2 * (k : Int) ∧ 2 * (k : Int) < (l0 : Int) := by omega
            have t1 : (0 : Int) ≤ 2 * (k : Int) + 1 ∧ 2 * (k : Int) + 1 < (l0 : Int) := by omega
            have t2 : (0 : Int) ≤ 2 * (k : Int) + 1 := by omega
            have n0 : (2 * (k : Int)).toNat = 2 * k := by omega
            have n1 : (2 * (k : Int) + 1).toNat = 2 * k + 1 := by omega
            have e1 : IntKind.i64.wrap (x0 : Int) = (x0 : Int) := wrap_in (by omega) (by omega)
            have e2 : IntKind.i64.wrap (x1 : Int) = (x1 : Int) := wrap_in (by omega) (by omega)
            have e3 : IntKind.i64.wrap (2 * (k : Int) + 1) = 2 * (k : Int) + 1 := wrap_in (by omega) (by omega)
            have e4 : IntKind.i64.wrap ((j : Int) * (x1 : Int)) = (j : Int) * (x1 : Int) := wrap_in (by omega) (by omega)
            have e5 : IntKind.i64.wrap ((x0 : Int) + (j : Int) * (x1 : Int)) = (x0 : Int) + (j : Int) * (x1 : Int) := wrap_in (by omega) (by omega)
            have hS : wz.drew.cell? ⟨b, off + 2 * k, none⟩ = some (.int .u8 (x0 : Int)) ∧ wz.drew.cell? ⟨b, off + (2 * k + 1), none⟩ = some (.int .u8 (x1 : Int)) := ⟨cy0, cy1⟩
            refine wp_region_held (S := fun w' => w'.cell? ⟨b, off + 2 * k, none⟩ = some (.int .u8 (x0 : Int)) ∧ w'.cell? ⟨b, off + (2 * k + 1), none⟩ = some (.int .u8 (x1 : Int))) (by kernel_rfl) ?_
            refine held_any (fuel := 18) (i := 0) (v := u7) rfl (by kernel_rfl) (by kernel_rfl) (by kernel_rfl) rfl (fun _ _ _ h => h) (fun _ _ => rfl) hS ?_
            go_simp
            refine held_any (fuel := 17) (i := 1) (v := .slice (some ⟨b, off, none⟩) l0 c0) rfl (by kernel_rfl) (by kernel_rfl) (by kernel_rfl) rfl (fun _ _ _ h => h) (fun _ _ => rfl) hS ?_
            go_simp
            refine held_any (fuel := 16) (i := 2) (v := .int .i64 (2 * (k : Int))) rfl (by kernel_rfl) (by kernel_rfl) (by kernel_rfl) rfl (fun _ _ _ h => h) (fun _ _ => rfl) hS ?_
            go_simp
            refine held_any (fuel := 15) (i := 3) (v := .pointer (some ⟨b, off + 2 * k, none⟩)) rfl (by kernel_rfl) (by kernel_rfl) (by kernel_rfl) rfl (fun _ _ _ h => h) (fun _ _ => by go_simp) hS ?_
            go_simp
            refine held_load (fuel := 14) (i := 4) (t := 5) (v := .int .u8 (x0 : Int)) rfl rfl rfl (by kernel_rfl) (by kernel_rfl) (by kernel_rfl) rfl (fun _ _ _ h => h) (fun w' hw' => load_byte hw'.1) hS ?_
            go_simp
            refine held_any (fuel := 13) (i := 5) (v := .int .i64 (x0 : Int)) rfl (by kernel_rfl) (by kernel_rfl) (by kernel_rfl) rfl (fun _ _ _ h => h) (fun _ _ => by go_simp) hS ?_
            go_simp
            refine held_any (fuel := 12) (i := 6) (v := .int .i64 (j : Int)) rfl (by kernel_rfl) (by kernel_rfl) (by kernel_rfl) rfl (fun _ _ _ h => h) (fun _ _ => rfl) hS ?_
            go_simp
            refine held_any (fuel := 11) (i := 7) (v := .slice (some ⟨b, off, none⟩) l0 c0) rfl (by kernel_rfl) (by kernel_rfl) (by kernel_rfl) rfl (fun _ _ _ h => h) (fun _ _ => rfl) hS ?_
            go_simp
            refine held_any (fuel := 10) (i := 8) (v := .int .i64 (2 * (k : Int))) rfl (by kernel_rfl) (by kernel_rfl) (by kernel_rfl) rfl (fun _ _ _ h => h) (fun _ _ => rfl) hS ?_
            go_simp
            refine held_any (fuel := 9) (i := 9) (v := .int .i64 (2 * (k : Int) + 1)) rfl (by kernel_rfl) (by kernel_rfl) (by kernel_rfl) rfl (fun _ _ _ h => h) (fun _ _ => by go_simp) hS ?_
            go_simp
            refine held_any (fuel := 8) (i := 10) (v := .pointer (some ⟨b, off + (2 * k + 1), none⟩)) rfl (by kernel_rfl) (by kernel_rfl) (by kernel_rfl) rfl (fun _ _ _ h => h) (fun _ _ => by go_simp) hS ?_
            go_simp
            refine held_load (fuel := 7) (i := 11) (t := 5) (v := .int .u8 (x1 : Int)) rfl rfl rfl (by kernel_rfl) (by kernel_rfl) (by kernel_rfl) rfl (fun _ _ _ h => h) (fun w' hw' => load_byte hw'.2) hS ?_
            go_simp
            refine held_any (fuel := 6) (i := 12) (v := .int .i64 (x1 : Int)) rfl (by kernel_rfl) (by kernel_rfl) (by kernel_rfl) rfl (fun _ _ _ h => h) (fun _ _ => by go_simp) hS ?_
            go_simp
            refine held_any (fuel := 5) (i := 13) (v := .int .i64 ((j : Int) * (x1 : Int))) rfl (by kernel_rfl) (by kernel_rfl) (by kernel_rfl) rfl (fun _ _ _ h => h) (fun _ _ => by go_simp) hS ?_
            go_simp
            refine held_any (fuel := 4) (i := 14) (v := .int .i64 ((x0 : Int) + (j : Int) * (x1 : Int))) rfl (by kernel_rfl) (by kernel_rfl) (by kernel_rfl) rfl (fun _ _ _ h => h) (fun _ _ => by go_simp) hS ?_
            go_simp
            refine held_any (fuel := 3) (i := 15) (v := .int .u8 (y : Int)) rfl (by kernel_rfl) (by kernel_rfl) (by kernel_rfl) rfl (fun _ _ _ h => h) (fun _ _ => by go_simp) hS ?_
            go_simp
            have hSa : (wz.drew.alloc (.cells #[.int .u8 (y : Int)] 5)).cell? ⟨b, off + 2 * k, none⟩ = some (.int .u8 (x0 : Int)) ∧ (wz.drew.alloc (.cells #[.int .u8 (y : Int)] 5)).cell? ⟨b, off + (2 * k + 1), none⟩ = some (.int .u8 (x1 : Int)) :=
              ⟨(World.cell?_alloc_past (w := wz.drew) _ _ _ (World.block_lt_of_cell? wz _ cy0)).trans cy0, (World.cell?_alloc_past (w := wz.drew) _ _ _ (World.block_lt_of_cell? wz _ cy1)).trans cy1⟩
            refine wpAnyH_ready (rs := [16]) (by kernel_rfl) (by simp) ?_
            refine AllReadyH.cons rfl (fun K hK => ?_) AllReadyH.nil
            go_simp
            refine hK.out _ _ hSa (fun _ => ?_)
            clear hK K
            go_simp
            refine wpAnyH_ready (rs := [17]) (by kernel_rfl) (by simp) ?_
            refine AllReadyH.cons rfl (fun K hK => ?_) AllReadyH.nil
            rw [if_pos (by rfl)]
            refine op_app wx.heap.size (v := u7) (s := .slice (some ⟨wz.heap.size, 0, none⟩) 1 1) (xs := xs) (ys := [y]) (.tmp 41) (.tmp 57) rfl rfl rfl (World.ownsRow.alloc (World.ownsRow.drew HI.out.2.1) _) ((bytes_one y wz.drew 5 1).resolve_right (by simp)) (by have := HI.out.1.len; simp; omega) (by have := HI.out.2.2.size; simp; omega) ?_
            intro v' w' o' g' a'
            have HN : Hid (InRel (x0 % 9) wx v' (.int .i64 ((j : Int) + 1)) w') := by
              refine ⟨j + 1, xs ++ [y], by omega, by simp, by simp [hxl], HI.out.1.snoc hy2 (by omega), o', ?_⟩
              have b1 : Below wx.heap.size wx (wz.drew.alloc (.cells #[.int .u8 (y : Int)] 5)) := HI.out.2.2.drew.alloc HI.out.2.2.size _
              exact b1.trans (grown_below g' b1.size (fun g hg => (World.ownsRow.lt HI.out.2.1 g hg).1))
            have hS1 : w'.cell? ⟨b, off + 2 * k, none⟩ = some (.int .u8 (x0 : Int)) ∧ w'.cell? ⟨b, off + (2 * k + 1), none⟩ = some (.int .u8 (x1 : Int)) := by
              have b1 := HN.out
              obtain ⟨_, _, _, _, _, _, _, b1⟩ := b1
              exact ⟨(b1.cell (p := ⟨b, off + 2 * k, none⟩) (by show b < _; omega)).trans cx0, (b1.cell (p := ⟨b, off + (2 * k + 1), none⟩) (by show b < _; omega)).trans cx1⟩
            refine hK.out _ _ hS1 (fun _ => ?_)
            clear hK K o' g' a'
            go_simp
            refine held_any (fuel := 0) (i := 18) (v := v') rfl (by kernel_rfl) (by kernel_rfl) (by kernel_rfl) rfl (fun _ _ _ h => h) (fun _ _ => rfl) hS1 ?_
            go_simp
            refine wpAnyH_done (by kernel_rfl) ?_ _
            go_wp2_with fail
            go_roundw
            case rel => exact HN.out
            case measure => simp [intOf]; omega
          · have hjm' : ¬ (j : Int) < (x0 : Int) % 9 := by omega
            subst hxl
            have HF2 : Hid (FalAt w.heap.size w r ks q u4 wz) := HF.out.below HI.out.2.2
            obtain ⟨da, db, bx, ba, bb⟩ := HF2.out.rom
            have HR : Hid (RomAt (romV r da db) r wz) := ⟨HF2.out.ok, da, db, rfl, ba, bb⟩
            obtain ⟨aa, ca, rfl⟩ := ba.len
            obtain ⟨ab, cb, rfl⟩ := bb.len
            simp only [romV] at HR
            have HX : Hid (RomBox w.heap.size 0 r (.slice aa r.a.data.length ca) (.slice ab r.b.data.length cb) wz) := bx
            have d0 := bx.c0
            have d1 := bx.c1
            have d2 := bx.c2
            have d3 := bx.c3
            have d4 := bx.c4
            have d5 := bx.c5
            simp only [Nat.zero_add] at d1 d2 d3 d4 d5
            clear bx ba bb
            go_wp2_with fail
            refine (plan_impl _ u7 r xs wz HR.out HI.out.2.1.at HI.out.1).mono ?_
            rintro e w1 ⟨u, rfl, ⟨pv, pq, rfl, hp⟩, b1⟩
            rcases hp with ⟨hl, rfl, hp⟩ | ⟨hl, -, -⟩
            rotate_left
            · omega
            have zw : w.heap.size < wz.heap.size := HX.out.z
            have H1 : Hid (OwnW wz.heap.size pv (r.plan xs) w1 ∧ Below wz.heap.size wz w1) := ⟨hp, b1⟩
            have HR1 : Hid (RomAt (.agg #[.int .u8 (r.a.mark : Int), .int .u8 (r.a.turn : Int), .slice aa r.a.data.length ca, .int .u8 (r.b.mark : Int), .int .u8 (r.b.turn : Int), .slice ab r.b.data.length cb]) r w1) := HR.out.below b1 (Nat.le_refl _)
            have HX1 : Hid (RomBox w.heap.size 0 r (.slice aa r.a.data.length ca) (.slice ab r.b.data.length cb) w1) := HX.out.below b1 zw
            have f0 := HX1.out.c0
            have f1 := HX1.out.c1
            have f2 := HX1.out.c2
            have f3 := HX1.out.c3
            have f4 := HX1.out.c4
            have f5 := HX1.out.c5
            simp only [Nat.zero_add] at f1 f2 f3 f4 f5
            have cz1 : w1.cell? ⟨b, off + (2 * k + 1), none⟩ = some (.int .u8 (x1 : Int)) := (b1.cell (p := ⟨b, off + (2 * k + 1), none⟩) (by show b < _; omega)).trans cy1
            obtain ⟨ap, cp, rfl⟩ := ownW_size hp
            have sz1 : wz.heap.size ≤ w1.heap.size := b1.size
            clear hp b1 d0 d1 d2 d3 d4 d5 HX HR
            go_wp2_with fail
            refine (play_impl _ _ r (r.plan xs) ((x1 : Int) % 18) w1 HR1.out H1.out.1.at (plan_bytes r HI.out.1) (by rw [plan_len, now_tail]; split <;> omega)).mono ?_
            rintro e w2 ⟨g1, g2, rfl, o1, o2, ok2, b2⟩
            have HN : Hid ((((x1 : Int) % 18).toNat < xs.length + 4 → (r.play ((r.plan xs).take ((x1 : Int) % 18).toNat)).now = r.now) ∧ (xs.length + 4 ≤ ((x1 : Int) % 18).toNat → (r.play ((r.plan xs).take ((x1 : Int) % 18).toNat)).now = some xs)) := old_or_new r xs (by omega) _
            obtain ⟨r2, hr2⟩ : ∃ r2, r2 = r.play ((r.plan xs).take ((x1 : Int) % 18).toNat) := ⟨_, rfl⟩
            rw [← hr2] at HN o1 o2 ok2 ⊢
            clear hr2
            obtain ⟨a1, c1, rfl⟩ := own_size o1
            obtain ⟨a2, c2, rfl⟩ := own_size o2
            have HO : Hid (Own w1.heap.size (.slice a1 r2.a.data.length c1) r2.a.data w2 ∧ Own w1.heap.size (.slice a2 r2.b.data.length c2) r2.b.data w2 ∧ RoOk r2 ∧ Below w1.heap.size w1 w2) := ⟨o1, o2, ok2, b2⟩
            have z1 : w.heap.size < w1.heap.size := HX1.out.z
            have HX2 : Hid (RomBox w.heap.size 0 r (.slice aa r.a.data.length ca) (.slice ab r.b.data.length cb) w2) := HX1.out.below b2 z1
            have k0 := HX2.out.c0
            have k1 := HX2.out.c1
            have k2 := HX2.out.c2
            have k3 := HX2.out.c3
            have k4 := HX2.out.c4
            have k5 := HX2.out.c5
            simp only [Nat.zero_add] at k1 k2 k3 k4 k5
            have fr : ∀ i, w2.frozen? ⟨w.heap.size, i, none⟩ = false := fun i => (b2.frozen (p := ⟨w.heap.size, i, none⟩) z1).trans ((H1.out.2.frozen (p := ⟨w.heap.size, i, none⟩) zw).trans (HF2.out.fr i))
            have p0 := fr 0
            have p1 := fr 1
            have p2 := fr 2
            have p3 := fr 3
            have p4 := fr 4
            have p5 := fr 5
            clear o1 o2 ok2 b2 f0 f1 f2 f3 f4 f5
            simp only [romV]
            have HR3 : Hid (RomAt (.agg #[.int .u8 (r2.a.mark : Int), .int .u8 (r2.a.turn : Int), .slice a1 r2.a.data.length c1, .int .u8 (r2.b.mark : Int), .int .u8 (r2.b.turn : Int), .slice a2 r2.b.data.length c2]) r2 ((((((w2.setCell ⟨w.heap.size, 0, none⟩ (.int .u8 (r2.a.mark : Int))).setCell ⟨w.heap.size, 1, none⟩ (.int .u8 (r2.a.turn : Int))).setCell ⟨w.heap.size, 2, none⟩ (.slice a1 r2.a.data.length c1)).setCell ⟨w.heap.size, 3, none⟩ (.int .u8 (r2.b.mark : Int))).setCell ⟨w.heap.size, 4, none⟩ (.int .u8 (r2.b.turn : Int))).setCell ⟨w.heap.size, 5, none⟩ (.slice a2 r2.b.data.length c2))) :=
              ⟨HO.out.2.2.1, _, _, rfl, (set6_own HO.out.1 (fun e => by have := (World.ownsRow.lt HO.out.1 _ e).1; omega) _ _ _ _ _ _).at, (set6_own HO.out.2.1 (fun e => by have := (World.ownsRow.lt HO.out.2.1 _ e).1; omega) _ _ _ _ _ _).at⟩
            obtain ⟨a7, c7, rfl⟩ := own_size HI.out.2.1
            have HM : Hid (∀ (ks' : List Nat) (q' : Bool) (kv : Value), Own (w.heap.size + 1) kv ks' wz → (q' = false → ks' = []) → Few ks' → r2.now = (if q' = true then some ks' else none) → FalAt w.heap.size w r2 ks' q' kv ((((((w2.setCell ⟨w.heap.size, 0, none⟩ (.int .u8 (r2.a.mark : Int))).setCell ⟨w.heap.size, 1, none⟩ (.int .u8 (r2.a.turn : Int))).setCell ⟨w.heap.size, 2, none⟩ (.slice a1 r2.a.data.length c1)).setCell ⟨w.heap.size, 3, none⟩ (.int .u8 (r2.b.mark : Int))).setCell ⟨w.heap.size, 4, none⟩ (.int .u8 (r2.b.turn : Int))).setCell ⟨w.heap.size, 5, none⟩ (.slice a2 r2.b.data.length c2))) := by
              intro ks' q' kv hkv he hf hw
              have kv2 := (hkv.below H1.out.2 (Nat.le_refl _)).below HO.out.2.2.2 (Nat.le_refl _)
              have ba := HF2.out.bel.size
              refine ⟨⟨_, _, box_stored HX2.out, (set6_own HO.out.1 (fun e => by have := (World.ownsRow.lt HO.out.1 _ e).1; omega) _ _ _ _ _ _).at, (set6_own HO.out.2.1 (fun e => by have := (World.ownsRow.lt HO.out.2.1 _ e).1; omega) _ _ _ _ _ _).at⟩, HO.out.2.2.1, set6_own kv2 (fun e => by have := (World.ownsRow.lt kv2 _ e).1; omega) _ _ _ _ _ _, he, hf, hw, fun i => by simpa using fr i, Nat.le_refl _, ?_⟩
              exact set6_below ((HF2.out.bel.trans (H1.out.2.mono (by omega))).trans (HO.out.2.2.2.mono (by omega))) (Nat.le_refl _) _ _ _ _ _ _
            by_cases hn : xs.length + 4 ≤ ((x1 : Int) % 18).toNat
            · skip
              have HE : Hid (r2.now = if true = true then some xs else none) := (HN.out.2 hn).trans (by simp)
              have hn' : (xs.length : Int) + 4 ≤ (x1 : Int) % 18 := by omega
              have HA3 := HM.out xs true (.slice a7 xs.length c7) (HI.out.2.1.mono (by omega)) (by simp) HI.out.1 HE.out
              have HG : Hid (FalAt w.heap.size w r2 xs true (.slice a7 xs.length c7) ((((((w2.setCell ⟨w.heap.size, 0, none⟩ (.int .u8 (r2.a.mark : Int))).setCell ⟨w.heap.size, 1, none⟩ (.int .u8 (r2.a.turn : Int))).setCell ⟨w.heap.size, 2, none⟩ (.slice a1 r2.a.data.length c1)).setCell ⟨w.heap.size, 3, none⟩ (.int .u8 (r2.b.mark : Int))).setCell ⟨w.heap.size, 4, none⟩ (.int .u8 (r2.b.turn : Int))).setCell ⟨w.heap.size, 5, none⟩ (.slice a2 r2.b.data.length c2))) := HA3
              clear HN HM HA3
              go_wp2_with fail
              refine (now_impl _ r2 _ HR3.out).mono ?_
              rintro e w4 ⟨u, rfl, ⟨nv, nq, rfl, hnow⟩, b4⟩
              have HA4 : Hid (FalAt w.heap.size w r2 xs true (.slice a7 xs.length c7) w4) := FalAt.below HG.out b4
              obtain ⟨ys, HY⟩ : ∃ ys, Hid (BytesAt nv ys w4 ∧ Few ys ∧ (nq = true ∧ ys = xs)) := same_now hnow HE.out HA4.out.few HA4.out.emp
              clear hnow b4 HE
              go_wp2_with fail
              refine (wh_same (q := true) _ _ HY.out.1 HA4.out.kept.at HY.out.2.1 HA4.out.few ⟨fun _ => HY.out.2.2, fun _ => rfl⟩).mono ?_
              rintro e w5 ⟨rfl, rfl⟩
              go_wp2_with fail
              go_roundw
              case rel => exact ⟨k + 1, r2, xs, true, by go_num, by omega, rfl, HA4.out⟩
              case measure => simp [intOf]; omega
            · skip
              have HE : Hid (r2.now = if q = true then some ks else none) := (HN.out.1 (by omega)).trans HF2.out.now
              have hn' : ¬ (xs.length : Int) + 4 ≤ (x1 : Int) % 18 := by omega
              have HA3 := HM.out ks q u4 HF2.out.kept HF2.out.emp HF2.out.few HE.out
              have HG : Hid (FalAt w.heap.size w r2 ks q u4 ((((((w2.setCell ⟨w.heap.size, 0, none⟩ (.int .u8 (r2.a.mark : Int))).setCell ⟨w.heap.size, 1, none⟩ (.int .u8 (r2.a.turn : Int))).setCell ⟨w.heap.size, 2, none⟩ (.slice a1 r2.a.data.length c1)).setCell ⟨w.heap.size, 3, none⟩ (.int .u8 (r2.b.mark : Int))).setCell ⟨w.heap.size, 4, none⟩ (.int .u8 (r2.b.turn : Int))).setCell ⟨w.heap.size, 5, none⟩ (.slice a2 r2.b.data.length c2))) := HA3
              clear HN HM HA3
              go_wp2_with fail
              refine (now_impl _ r2 _ HR3.out).mono ?_
              rintro e w4 ⟨u, rfl, ⟨nv, nq, rfl, hnow⟩, b4⟩
              have HA4 : Hid (FalAt w.heap.size w r2 ks q u4 w4) := FalAt.below HG.out b4
              obtain ⟨ys, HY⟩ : ∃ ys, Hid (BytesAt nv ys w4 ∧ Few ys ∧ (nq = q ∧ ys = ks)) := same_now hnow HE.out HA4.out.few HA4.out.emp
              clear hnow b4 HE
              go_wp2_with fail
              refine (wh_same (q := true) _ _ HY.out.1 HA4.out.kept.at HY.out.2.1 HA4.out.few ⟨fun _ => HY.out.2.2, fun _ => rfl⟩).mono ?_
              rintro e w5 ⟨rfl, rfl⟩
              go_wp2_with fail
              go_roundw
              case rel => exact ⟨k + 1, r2, ks, q, by go_num, by omega, rfl, HA4.out⟩
              case measure => simp [intOf]; omega
      · go_wp2_with fail
        go_ret
        exact ⟨rfl, HF.out.bel⟩
    · go_wp2_with fail
      go_ret
      exact ⟨rfl, HF.out.bel⟩

end Go.Proofs.Ytdhoimjkgicneab
