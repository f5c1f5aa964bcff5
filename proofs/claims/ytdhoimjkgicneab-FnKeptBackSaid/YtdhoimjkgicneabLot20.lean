/- Texts of this proof laid together: KepC, HelA0. -/
import Derived.Test.YtdhoimjkgicneabLot18
import Derived.StillTailTactics
import Derived.Test.YtdhoimjkgicneabLot16
import Derived.Deep.RegionHeld
import Derived.Deep.Cut
/- What the specification writes of a memory. -/
namespace Go.Proofs.Ytdhoimjkgicneab
open Go Go.RowKit

set_option maxHeartbeats 400000 in
theorem spec_flags (a b : Bool) (w : World) : Calls Try.prog 77 #[.bool a, .bool b] w fun e w' => e = .returned (.int .u64 (bit2 a b : Nat)) ∧ w' = w := by
  cases a <;> cases b
  all_goals
    go_enter Try.func77, Try.ntmps77
    go_wp2_with fail
    go_ret
    exact ⟨rfl, rfl⟩

theorem Making.drew {v : MemV} {n : Nat} {w wr : World} {o : Value} (h : Making v n w wr o) : Making v n w wr.drew o :=
  ⟨World.ownsRow.drew h.own, h.b.drew, h.m.below ((Below.refl wr.heap.size wr).drew) h.m.z⟩

theorem le1 (v : MemV) {n x : Nat} (hx : x < 256) (h : keptByte v n = x) : pre v n ++ le 1 x = pre v (n + 1) := by
  rw [← pre_succ, h]
  show _ ++ [x % 256] = _
  rw [Nat.mod_eq_of_lt hx]

set_option maxRecDepth 100000 in
set_option maxHeartbeats 1600000 in
theorem spec_make (v : MemV) (w : World) (hv : v.Ok) :
    Calls Try.prog 53 #[.agg v.row] w fun e w' => ∃ o, e = .returned o ∧ Own w.heap.size o (pre v 134) w' ∧ Below w.heap.size w w' := by
  have M : Making v 0 w (w.alloc (.cells v.row 57)) (.slice none 0 0) := ⟨own_nil _ _, (Below.refl _ _).alloc (Nat.le_refl _) _, MemAt.alloc v w _⟩
  obtain ⟨q, hq, q1, q2⟩ : ∃ q : Nat, v.m / 4294967296 = q ∧ (v.m : Int) / 4294967296 = (q : Int) ∧ q < 18446744073709551616 := ⟨_, rfl, by omega, by have := hv.m; omega⟩
  have HM : Hid (Making v 0 w (w.alloc (.cells v.row 57)) (.slice none 0 0)) := M
  have c2 := M.m.c 2 (by omega)
  rw [MemV.cell_m] at c2
  clear M
  go_enter Try.func53, Try.ntmps53
  go_wp2_with fail
  refine (spec_put (w.heap.size + 1) 4 q (.slice none 0 0) (pre v 0) _ HM.out.own q2 (by omega) (by simp [pre_len]) HM.out.m.z).mono ?_
  rintro e w2 ⟨o2, rfl, P2⟩
  have M := HM.out.next P2 (by rw [← hq]; exact le4 v)
  clear P2 HM c2 q1 q2 hq
  have HM : Hid (Making v 4 w w2 o2) := M
  have c3 := M.m.c 3 (by omega)
  rw [MemV.cell_s] at c3
  clear M
  obtain ⟨s, hs, q1, q2, q3⟩ : ∃ s : Nat, v.s = s ∧ (s : Int) % 18446744073709551616 = (s : Int) ∧ IntKind.u64.wrap (s : Int) = (s : Int) ∧ s < 18446744073709551616 := ⟨_, rfl, by have := hv.s; omega, by show (v.s : Int) % 18446744073709551616 = _; have := hv.s; omega, by have := hv.s; omega⟩
  rw [hs] at c3
  go_wp2_with fail
  refine (spec_put (w.heap.size + 1) 2 s o2 (pre v 4) w2 HM.out.own q3 (by omega) (by simp [pre_len]) HM.out.m.z).mono ?_
  rintro e w3 ⟨o3, rfl, P3⟩
  have M := HM.out.next P3 (by rw [← hs]; exact le2 v (kb_4 v) (kb_5 v))
  clear P3 HM c3 q1 q2 q3 hs
  have HM : Hid (Making v 6 w w3 o3) := M
  clear M
  go_wp2_with fail
  go_loopw [3, 4] (fun ov iv wr => ∃ k : Nat, k ≤ 16 ∧ iv = .int .i64 k ∧ Making v (6 + k * 3) w wr ov) (fun _ iv _ => 16 - (intOf iv).toNat)
  case atStart => exact ⟨0, by omega, rfl, HM.out⟩
  case round =>
    clear HM
    obtain ⟨k, hk, rfl, M⟩ := hrel
    have HM : Hid (Making v (6 + k * 3) w wr u3) := M
    clear M
    by_cases hlt : k < 16
    · have hlt' : (k : Int) < 16 := by omega
      have d0 := HM.out.m.c (5 + k * 2) (by omega)
      rw [v.cell_tD k hlt] at d0
      have y0 : bit2 (v.tD k) false = bit1 (v.tD k) := by unfold bit2; rfl
      have y1 := bit1_le (v.tD k)
      go_wp2_with fail
      refine (spec_flags (v.tD k) false _).mono ?_
      rintro e w5 ⟨rfl, rfl⟩
      rw [y0]
      go_wp2_with fail
      refine (spec_put (w.heap.size + 1) 1 (bit1 (v.tD k)) u3 (pre v (6 + k * 3)) _ HM.out.own (by omega) (by omega) (by simp [pre_len]; omega) HM.out.m.z).mono ?_
      rintro e w5 ⟨o5, rfl, P5⟩
      have M5 := HM.out.next P5 (le1 v (by omega) (kb_t0 v k hlt))
      clear P5 HM d0 y0 y1
      have HM : Hid (Making v (6 + k * 3 + 1) w w5 o5) := M5
      have d1 := M5.m.c (5 + k * 2 + 1) (by omega)
      rw [v.cell_tC k hlt] at d1
      clear M5
      obtain ⟨s, hs, q1, q2, q3⟩ : ∃ s : Nat, v.tC k = s ∧ (s : Int) % 18446744073709551616 = (s : Int) ∧ IntKind.u64.wrap (s : Int) = (s : Int) ∧ s < 18446744073709551616 := ⟨_, rfl, by have := hv.tC k; omega, by show (v.tC k : Int) % 18446744073709551616 = _; have := hv.tC k; omega, by have := hv.tC k; omega⟩
      rw [hs] at d1
      go_wp2_with fail
      refine (spec_put (w.heap.size + 1) 2 s o5 (pre v (6 + k * 3 + 1)) w5 HM.out.own q3 (by omega) (by simp [pre_len]; omega) HM.out.m.z).mono ?_
      rintro e w6 ⟨o6, rfl, P6⟩
      have M6 := HM.out.next P6 (by rw [← hs]; exact le2 v (kb_t1 v k hlt) (kb_t2 v k hlt))
      clear P6 HM d1 hs q1 q2 q3
      have HM : Hid (Making v (6 + k * 3 + 1 + 2) w w6 o6) := M6
      clear M6
      go_wp2_with fail
      go_roundw
      case rel => exact ⟨k + 1, by omega, by go_num, by rw [show 6 + (k + 1) * 3 = 6 + k * 3 + 1 + 2 by omega]; exact HM.out⟩
      case measure => simp [intOf]; omega
    · obtain rfl : k = 16 := by omega
      go_wp2_with fail
      rw [show ((16 : Nat) : Int) = 16 from rfl]
      go_loopw [3, 5] (fun ov iv wr => ∃ k : Nat, k ≤ 16 ∧ iv = .int .i64 k ∧ Making v (54 + k * 3) w wr ov) (fun _ iv _ => 16 - (intOf iv).toNat)
      case atStart => exact ⟨0, by omega, rfl, HM.out⟩
      case round =>
        clear HM
        obtain ⟨k, hk, rfl, M⟩ := hrel
        have HM : Hid (Making v (54 + k * 3) w wr u3) := M
        clear M
        by_cases hlt : k < 16
        · have hlt' : (k : Int) < 16 := by omega
          have d0 := HM.out.m.c (37 + k * 3) (by omega)
          rw [v.cell_cD k hlt] at d0
          have d1 := HM.out.m.c (37 + k * 3 + 1) (by omega)
          rw [v.cell_cL k hlt] at d1
          have y1 := bit2_le (v.cD k) (v.cL k)
          go_wp2_with fail
          refine wp_region_still_tail 12 (by kernel_rfl) (by kernel_rfl) ?_
          simp only [List.take_succ_cons, List.take_zero, List.drop_succ_cons, List.drop_zero]
          repeat still_step
          still_call (spec_flags (v.cD k) (v.cL k) _)
          repeat still_step
          refine wpStill_nil ?_
          change wpList _ _ _ _ _ (World.drew _)
          have HD : Hid (Making v (54 + k * 3) w wr.drew u3) := HM.out.drew
          clear HM d0 d1
          go_wp2_with fail
          refine (spec_put (w.heap.size + 1) 1 (bit2 (v.cD k) (v.cL k)) u3 (pre v (54 + k * 3)) _ HD.out.own (by omega) (by omega) (by simp [pre_len]; omega) HD.out.m.z).mono ?_
          rintro e w5 ⟨o5, rfl, P5⟩
          have M5 := HD.out.next P5 (le1 v (by omega) (kb_c0 v k hlt))
          clear P5 HD y1
          have HM : Hid (Making v (54 + k * 3 + 1) w w5 o5) := M5
          have d1 := M5.m.c (37 + k * 3 + 2) (by omega)
          rw [v.cell_cC k hlt] at d1
          clear M5
          obtain ⟨s, hs, q1, q2, q3⟩ : ∃ s : Nat, v.cC k = s ∧ (s : Int) % 18446744073709551616 = (s : Int) ∧ IntKind.u64.wrap (s : Int) = (s : Int) ∧ s < 18446744073709551616 := ⟨_, rfl, by have := hv.cC k; omega, by show (v.cC k : Int) % 18446744073709551616 = _; have := hv.cC k; omega, by have := hv.cC k; omega⟩
          rw [hs] at d1
          go_wp2_with fail
          refine (spec_put (w.heap.size + 1) 2 s o5 (pre v (54 + k * 3 + 1)) w5 HM.out.own q3 (by omega) (by simp [pre_len]; omega) HM.out.m.z).mono ?_
          rintro e w6 ⟨o6, rfl, P6⟩
          have M6 := HM.out.next P6 (by rw [← hs]; exact le2 v (kb_c1 v k hlt) (kb_c2 v k hlt))
          clear P6 HM d1 hs q1 q2 q3
          have HM : Hid (Making v (54 + k * 3 + 1 + 2) w w6 o6) := M6
          clear M6
          go_wp2_with fail
          go_roundw
          case rel => exact ⟨k + 1, by omega, by go_num, by rw [show 54 + (k + 1) * 3 = 54 + k * 3 + 1 + 2 by omega]; exact HM.out⟩
          case measure => simp [intOf]; omega
        · obtain rfl : k = 16 := by omega
          go_wp2_with fail
          rw [show ((16 : Nat) : Int) = 16 from rfl]
          go_loopw [3, 6] (fun ov iv wr => ∃ k : Nat, k ≤ 16 ∧ iv = .int .i64 k ∧ Making v (102 + k * 2) w wr ov) (fun _ iv _ => 16 - (intOf iv).toNat)
          case atStart => exact ⟨0, by omega, rfl, HM.out⟩
          case round =>
            clear HM
            obtain ⟨k, hk, rfl, M⟩ := hrel
            have HM : Hid (Making v (102 + k * 2) w wr u3) := M
            clear M
            by_cases hlt : k < 16
            · have hlt' : (k : Int) < 16 := by omega
              obtain ⟨n, hn, n1, n2⟩ : ∃ n : Nat, 16 + k = n ∧ (16 : Int) + (k : Int) = (n : Int) ∧ (n : Int) < 32 := ⟨16 + k, rfl, by omega, by omega⟩
              have c3 : wr.cell? ⟨w.heap.size, 85 + n, none⟩ = some (.int .i16 (v.d n)) := by
                have := HM.out.m.c (85 + n) (by omega)
                rwa [v.cell_d _ (by omega)] at this
              have hz : v.d (16 + k) = v.d n := by rw [hn]
              obtain ⟨z, hz2⟩ : ∃ z, v.d n = z := ⟨_, rfl⟩
              have z1 : -32768 ≤ z := hz2 ▸ hv.d1 _
              have z2 : z ≤ 32767 := hz2 ▸ hv.d2 _
              rw [hz2] at c3 hz
              clear hn hz2
              obtain ⟨t, y, hy, y1, y2, y3, y4, y5⟩ : ∃ t y : Nat, unsg z = y ∧ z + 65536 = (t : Int) ∧ (t : Int) % 18446744073709551616 = (t : Int) ∧ IntKind.u64.wrap (t : Int) = (t : Int) ∧ (t : Int) % 65536 = (y : Int) ∧ y < 18446744073709551616 :=
                ⟨(z + 65536).toNat, unsg z, rfl, by omega, by omega, by show (((z + 65536).toNat : Nat) : Int) % 18446744073709551616 = _; omega, by unfold unsg; omega, by have := unsg_lt z; omega⟩
              go_wp2_with fail
              refine (spec_put (w.heap.size + 1) 2 y u3 (pre v (102 + k * 2)) wr HM.out.own y5 (by omega) (by simp [pre_len]; omega) HM.out.m.z).mono ?_
              rintro e w6 ⟨o6, rfl, P6⟩
              have M6 := HM.out.next P6 (le2 v (by rw [kb_d0, hz, hy]) (by rw [kb_d1, hz, hy]))
              clear P6 HM c3 y1 y2 y3 y4 hy hz n1 n2
              have HM : Hid (Making v (102 + k * 2 + 2) w w6 o6) := M6
              clear M6
              go_wp2_with fail
              go_roundw
              case rel => exact ⟨k + 1, by omega, by go_num, by rw [show 102 + (k + 1) * 2 = 102 + k * 2 + 2 by omega]; exact HM.out⟩
              case measure => simp [intOf]; omega
            · obtain rfl : k = 16 := by omega
              go_wp2_with fail
              go_ret
              exact ⟨_, rfl, HM.out.own.mono (by omega), HM.out.b⟩

end Go.Proofs.Ytdhoimjkgicneab

/- Bytes that are held or owned: one of them, one put. -/
namespace Go.Proofs.Ytdhoimjkgicneab
open Go Go.RowKit

theorem BytesAt.cellAt {a : Option Addr} {n cap : Nat} {xs : List Nat} {w : World} (h : BytesAt (.slice a n cap) xs w) {i : Nat} (hi : i < xs.length) :
    ∃ b off, a = some ⟨b, off, none⟩ ∧ b < w.heap.size ∧ w.cell? ⟨b, off + i, none⟩ = some (.int .u8 (xs[i] : Nat)) := by
  rcases h with ⟨b, off, cap', e, hz, hc, he⟩ | ⟨rfl, e⟩
  · simp only [Value.slice.injEq] at e
    obtain ⟨rfl, -, -⟩ := e
    exact ⟨b, off, rfl, hz, he i _ (List.getElem?_eq_getElem hi)⟩
  · simp at hi

theorem own_cases {base : Nat} {v : Value} {xs : List Nat} {w : World} (h : Own base v xs w) : (v = .slice none 0 0 ∧ xs = []) ∨ ∃ g cap, v = .slice (some ⟨g, 0, none⟩) xs.length cap ∧ base ≤ g ∧ g < w.heap.size := by
  rcases h.2 with ⟨rfl, h0⟩ | ⟨g, cap, cur, rfl, hb, hg, -⟩
  · exact Or.inl ⟨rfl, List.eq_nil_of_length_eq_zero h0⟩
  · exact Or.inr ⟨g, cap, rfl, hb, (Array.getElem?_eq_some_iff.1 hg).1⟩

theorem bytesV_set (xs : List Nat) (i x : Nat) : (bytesV xs).set i (.int .u8 (x : Int)) = bytesV (xs.set i x) := by simp [bytesV]

theorem Own.put {base g cap n : Nat} {xs : List Nat} {w : World} (h : Own base (.slice (some ⟨g, 0, none⟩) n cap) xs w) (hn : n = xs.length) (i x : Nat) : Own base (.slice (some ⟨g, 0, none⟩) n cap) (xs.set i x) (w.setCell ⟨g, i, none⟩ (.int .u8 (x : Int))) := by
  subst hn
  unfold Own at h ⊢
  rw [← bytesV_set, List.length_set]
  exact (World.ownsRow.stored h i _).1

theorem Own.cellAt {base g cap n : Nat} {xs : List Nat} {w : World} (h : Own base (.slice (some ⟨g, 0, none⟩) n cap) xs w) (hn : n = xs.length) {i : Nat} (hi : i < xs.length) : w.cell? ⟨g, i, none⟩ = some (.int .u8 (xs[i] : Nat)) ∧ w.frozen? ⟨g, i, none⟩ = false := by
  subst hn
  refine ⟨?_, World.ownsRow.frozenAt h i⟩
  rw [World.ownsRow.cellAt h i (by omega), bytesV_get, List.getElem?_eq_getElem hi]
  rfl

end Go.Proofs.Ytdhoimjkgicneab
