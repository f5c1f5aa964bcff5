/- Texts of this proof laid together: KepL, KepM. -/
import Derived.Test.YtdhoimjkgicneabLot25
/- What was kept, read by the specification: numbers. -/
namespace Go.Proofs.Ytdhoimjkgicneab
open Go Go.RowKit

theorem num_cons (g : Nat → Nat) : ∀ m, num g (m + 1) = g 0 + 256 * num (fun i => g (i + 1)) m
  | 0 => by simp [num]
  | m + 1 => by
    rw [num, num_cons g m, num, Nat.mul_add, ← Nat.add_assoc, Nat.pow_succ]
    congr 1
    rw [Nat.mul_comm (256 ^ m) 256, ← Nat.mul_assoc, Nat.mul_comm _ 256, Nat.mul_assoc]

/-- Bytes at a place in memory, all of them. -/
def Bytes134 (b off : Nat) (f : Nat → Nat) (w : World) : Prop := ∀ j, j < 134 → w.cell? ⟨b, off + j, none⟩ = some (.int .u8 ((f j : Nat) : Int))

set_option maxRecDepth 100000 in
set_option maxHeartbeats 800000 in
theorem spec_get (b off cap s n : Nat) (f : Nat → Nat) (w : World) (hc : Bytes134 b off f w) (hfb : ∀ k, f k ≤ 255) (hs : s + n ≤ 134) (hn : n ≤ 4) :
    Calls Try.prog 55 #[.slice (some ⟨b, off, none⟩) 134 cap, .int .i64 s, .int .i64 n] w fun e w' => e = .returned (.int .u64 (num (fun i => f (s + i)) n : Nat)) ∧ w' = w := by
  have HC : Hid (Bytes134 b off f w) := hc
  clear hc
  go_enter Try.func55, Try.ntmps55
  go_wp2_with fail
  go_loopw [7, 8] (fun vv iv wr => ∃ k : Nat, k ≤ n ∧ iv = .int .i64 ((k : Int) - 1) ∧ vv = .int .u64 ((num (fun i => f (s + k + i)) (n - k) : Nat) : Int) ∧ wr = w) (fun _ iv _ => (intOf iv + 1).toNat)
  case atStart => exact ⟨n, Nat.le_refl _, rfl, by rw [Nat.sub_self]; rfl, rfl⟩
  case round =>
    obtain ⟨k, hk, rfl, rfl, rfl⟩ := hrel
    obtain ⟨a, ha⟩ : ∃ a, a = num (fun i => f (s + k + i)) (n - k) := ⟨_, rfl⟩
    have a1 : a < 256 ^ (n - k) := ha ▸ num_lt (fun _ => hfb _) _
    by_cases h0 : 0 < k
    · obtain ⟨m, rfl⟩ : ∃ m, k = m + 1 := ⟨k - 1, by omega⟩
      have a2 : a < 16777216 := Nat.lt_of_lt_of_le a1 (Nat.le_trans (Nat.pow_le_pow_right (by omega) (show n - (m + 1) ≤ 3 by omega)) (by decide))
      have m1 : ((m + 1 : Nat) : Int) - 1 = (m : Int) := by omega
      rw [m1, ← ha]
      have m2 : (0 : Int) ≤ (m : Int) := by omega
      obtain ⟨j, hj, j1, j2⟩ : ∃ j : Nat, j = s + m ∧ (s : Int) + (m : Int) = (j : Int) ∧ (j : Int) < 134 := ⟨s + m, rfl, by omega, by omega⟩
      have c0 := HC.out j (by omega)
      obtain ⟨y, hy⟩ : ∃ y, y = f j := ⟨_, rfl⟩
      have y0 : y ≤ 255 := hy ▸ hfb _
      rw [← hy] at c0
      have y1 : IntKind.u64.wrap (y : Int) = (y : Int) := by show (y : Int) % 18446744073709551616 = _; omega
      have y2 : (y : Int) % 18446744073709551616 = (y : Int) := by omega
      obtain ⟨p, p1, p2, p3⟩ : ∃ p : Nat, p = a * 256 ∧ (a : Int) * 256 % 18446744073709551616 = (p : Int) ∧ IntKind.u64.wrap ((a : Int) * 256) = (p : Int) := ⟨a * 256, rfl, by omega, by show (a : Int) * 256 % 18446744073709551616 = _; omega⟩
      obtain ⟨c, c1, c2, c3⟩ : ∃ c : Nat, c = p + y ∧ ((p : Int) + (y : Int)) % 18446744073709551616 = (c : Int) ∧ IntKind.u64.wrap ((p : Int) + (y : Int)) = (c : Int) := ⟨p + y, rfl, by omega, by show ((p : Int) + (y : Int)) % 18446744073709551616 = _; omega⟩
      have HN : Hid (num (fun i => f (s + m + i)) (n - m) = c) := by
        show _ = _
        rw [show n - m = n - (m + 1) + 1 by omega, num_cons, c1, p1, hy, hj, ha, Nat.add_zero, Nat.add_comm, Nat.mul_comm 256]
        congr 3
        funext i
        rw [show s + m + (i + 1) = s + (m + 1) + i by omega]
      clear ha a1 hy hj c1 p1
      go_wp2_with fail
      go_roundw
      case rel => exact ⟨m, by omega, rfl, by rw [HN.out], trivial⟩
      case measure => simp [intOf]
    · obtain rfl : k = 0 := by omega
      have HN : Hid (num (fun i => f (s + i)) n = a) := by
        rw [ha]
        simp [Hid]
      rw [← ha]
      clear ha a1
      go_wp2_with fail
      go_ret
      exact ⟨by rw [HN.out]; rfl, rfl⟩

set_option maxHeartbeats 400000 in
theorem spec_wrap (y : Nat) (hy : y < 65536) (w : World) : Calls Try.prog 56 #[.int .i64 y] w fun e w' => e = .returned (.int .i16 (sgn y)) ∧ w' = w := by
  have y0 : Int.tmod (y : Int) 65536 = (y : Int) := by rw [Int.tmod_eq_emod_of_nonneg (by omega)]; omega
  have y1 : (y : Int) % 65536 = (y : Int) := by omega
  have y2 : ¬ (y : Int) < -32768 := by omega
  by_cases h : y < 32768
  · have h1 : ¬ (32767 : Int) < (y : Int) := by omega
    have h2 : IntKind.i16.wrap (y : Int) = sgn y := by rw [wrap16k]; unfold sgn; rw [if_pos h]; omega
    have h3 : ((y : Int) + 32768) % 65536 - 32768 = sgn y := by rw [← h2, wrap16k]
    go_enter Try.func56, Try.ntmps56
    go_wp2_with fail
    go_ret
    exact ⟨rfl, rfl⟩
  · have h1 : (32767 : Int) < (y : Int) := by omega
    obtain ⟨z, hz⟩ : ∃ z : Int, (y : Int) - 65536 = z := ⟨_, rfl⟩
    have h2 : IntKind.i16.wrap z = sgn y := by rw [wrap16k]; unfold sgn; rw [if_neg h]; omega
    have h3 : (z + 32768) % 65536 - 32768 = sgn y := by rw [← h2, wrap16k]
    have z1 : -9223372036854775808 ≤ z := by omega
    have z2 : z ≤ 9223372036854775807 := by omega
    go_enter Try.func56, Try.ntmps56
    go_wp2_with fail
    go_ret
    exact ⟨rfl, rfl⟩

end Go.Proofs.Ytdhoimjkgicneab

/- What was kept, read by the specification: its answer. -/
namespace Go.Proofs.Ytdhoimjkgicneab
open Go Go.RowKit

attribute [local go_sem] zMemK

theorem ms_built (m s : Nat) {u1 u2 : Value} (h1 : u1 = .int .u64 m) (h2 : u2 = .int .u16 s) : Try.prog.built 57 [(2, u1), (3, u2)] = some (msV m s).row := by
  subst h1 h2
  rw [built_mem, ← rowOf_mem, ← rowOf_mem, fill_row (off := 2) (n := 1) (g := fun _ => .int .u64 m) (by decide) rfl (by omega), fill_row (off := 3) (n := 1) (g := fun _ => .int .u16 s) (by decide) rfl (by omega), Instr.fill]
  congr 1

theorem ms_scan (f : Nat → Nat) : (msV (scanV f).m (scanV f).s).row = (scanQ f 0 0 0 0 0 16).row := by
  have e : (List.range 136).map (msV (scanV f).m (scanV f).s).cell = (List.range 136).map (scanQ f 0 0 0 0 0 16).cell := List.map_congr_left fun k hk => by
    have hk := List.mem_range.1 hk
    refine cell_same _ _ hk (fun _ => rfl) (fun _ => rfl) (fun _ => rfl) (fun _ => rfl) (fun _ => rfl) (fun h1 h2 => ⟨rfl, rfl⟩) (fun _ _ => ⟨rfl, rfl, rfl⟩) (fun h1 h2 => ?_) (fun _ _ => rfl) (fun _ => rfl) (fun _ => rfl) (fun _ => rfl)
    show (0 : Int) = (if k - 85 < 16 then 0 else if k - 85 < 16 then (scanV f).d (k - 85) else 0)
    by_cases h : k - 85 < 16
    · rw [if_pos h]
    · rw [if_neg h, if_neg h]
  unfold MemV.row
  rw [e]

theorem wrap64k {z : Int} (h0 : 0 ≤ z) (h1 : z < 1000000) : IntKind.i64.wrap z = z := by
  simp [IntKind.wrap, IntKind.signed, IntKind.bits]
  omega

/-- While the specification reads. -/
structure Back (f : Nat → Nat) (k : Nat) (p off : Nat) (w wr : World) : Prop where
  m : MemAt (w.heap.size + 1) (scanQ f k k k k k (16 + k)) wr
  r : MemAt w.heap.size mem0 wr
  b : Below w.heap.size w wr
  d : Bytes134 p off f wr
  g : ∀ i, i < k → f (6 + i * 3) ≤ 1 ∧ f (54 + i * 3) ≤ 3

set_option maxRecDepth 100000 in
set_option maxHeartbeats 1600000 in
theorem spec_back (v : Value) (xs : List Nat) (f : Nat → Nat) (w : World) (h : BytesAt v xs w) (hf : ∀ i x, xs[i]? = some x → f i = x) (hfb : ∀ k, f k ≤ 255) (_hl2 : xs.length ≤ 100000000) (t : Bool) (ht : t = true ↔ xs.length = 134 ∧ Flags f) :
    Calls Try.prog 27 #[v] w fun e w' => e = .returned (.tuple #[.agg (if t then (scanV f).row else mem0.row), .bool t]) ∧ Below w.heap.size w w' := by
  have M0 := MemAt.alloc mem0 w 57
  have B0 : Below w.heap.size w (w.alloc (.cells mem0.row 57)) := (Below.refl _ _).alloc (Nat.le_refl _) _
  obtain ⟨aa, cap, rfl⟩ := h.len
  by_cases hl : xs.length = 134
  · obtain ⟨b, off, rfl, hz, -⟩ := h.cellAt (i := 0) (by omega)
    have D0 : ∀ w', Below w.heap.size w w' → Bytes134 b off f w' := fun w' hw' j hj => by
      obtain ⟨b', off', e, -, c0⟩ := h.cellAt (i := j) (by omega)
      simp only [Option.some.injEq, Addr.mk.injEq] at e
      obtain ⟨rfl, rfl, -⟩ := e
      rw [hw'.cell (p := ⟨b, off + j, none⟩) hz, c0, hf j _ (List.getElem?_eq_getElem _)]
    rw [hl]
    clear h
    go_enter Try.func27, Try.ntmps27
    go_upto_region 1 with fail
    have HM : Hid (MemAt w.heap.size mem0 (w.alloc (.cells mem0.row 57)) ∧ Below w.heap.size w (w.alloc (.cells mem0.row 57))) := ⟨M0, B0⟩
    have hs0 : (w.alloc (.cells mem0.row 57)).heap.size = w.heap.size + 1 := by simp
    have HS0 : Hid ((w.alloc (.cells mem0.row 57)).heap.size = w.heap.size + 1) := hs0
    clear M0 B0 hs0
    generalize w.alloc (.cells mem0.row 57) = w1 at HM HS0 ⊢
    go_wp2_with fail
    refine (spec_get b off cap 0 4 f w1 (D0 _ HM.out.2) hfb (by omega) (by omega)).mono ?_
    rintro e w2 ⟨rfl, rfl⟩
    obtain ⟨M, hM⟩ : ∃ M, M = num (fun i => f (0 + i)) 4 := ⟨_, rfl⟩
    have M1 : M < 4294967296 := by rw [hM]; exact num_lt (fun _ => hfb _) 4
    have M2 : M * 4294967296 = (scanV f).m := by rw [hM, num4, scan_m]
    rw [← hM]
    obtain ⟨m4, hm4⟩ : ∃ m4, (scanV f).m = m4 := ⟨_, rfl⟩
    have HM4 : Hid ((scanV f).m = m4) := hm4
    have i3 : IntKind.u64.wrap ((M : Int) * 4294967296) = (m4 : Int) := by show (M : Int) * 4294967296 % 18446744073709551616 = _; rw [← hm4, ← M2]; omega
    have i4 : (M : Int) * 4294967296 % 18446744073709551616 = (m4 : Int) := i3
    clear hM M2 hm4
    go_wp2_with fail
    refine (spec_get b off cap 4 2 f w2 (D0 _ HM.out.2) hfb (by omega) (by omega)).mono ?_
    rintro e w3 ⟨rfl, rfl⟩
    obtain ⟨s4, hs4⟩ : ∃ s4, s4 = num (fun i => f (4 + i)) 2 := ⟨_, rfl⟩
    have s1 : s4 < 65536 := by rw [hs4]; exact num_lt (fun _ => hfb _) 2
    have s2 : Hid (s4 = (scanV f).s) := by rw [hs4, num2, scan_s]; simp [Hid]
    have s3 : IntKind.u16.wrap (s4 : Int) = (s4 : Int) := by show (s4 : Int) % 65536 = _; omega
    have s5 : (s4 : Int) % 65536 = (s4 : Int) := by omega
    rw [← hs4]
    clear hs4
    have F := ms_built m4 s4 (u1 := .int .u64 m4) (u2 := .int .u16 s4) rfl rfl
    have m2 := MemAt.alloc mem0 w3 57
    rw [HS0.out] at m2
    have L2 := store_mem (msV m4 s4) m2
    have HB : Hid (Back f 0 b off w ((w3.alloc (.cells mem0.row 57)).setCells (w.heap.size + 1) 0 (msV m4 s4).row.toList)) := by
      have b1 : Below w.heap.size w ((w3.alloc (.cells mem0.row 57)).setCells (w.heap.size + 1) 0 (msV m4 s4).row.toList) := setCells_below _ _ _ (HM.out.2.alloc HM.out.2.size _) (by omega)
      refine ⟨?_, ?_, b1, D0 _ b1, fun i hi => by omega⟩
      · have e : (msV m4 s4).row = (scanQ f 0 0 0 0 0 (16 + 0)).row := by rw [← HM4.out, s2.out]; exact ms_scan f
        rw [e]
        exact m2.stored (scanQ f 0 0 0 0 0 (16 + 0))
      · exact (HM.out.1.below ((Below.refl w3.heap.size w3).alloc (Nat.le_refl _) _) HM.out.1.z).other (by omega)
    have hw3 : Hid (w3.heap.size = w.heap.size + 1) := HS0
    have L3 : (Instr.storeAt 57 (.pointer (some ⟨w3.heap.size, 0, none⟩)) (.agg (msV m4 s4).row)).run Try.prog (w3.alloc (.cells mem0.row 57)) = .ok () ((w3.alloc (.cells mem0.row 57)).setCells (w.heap.size + 1) 0 (msV m4 s4).row.toList) := by rw [hw3.out]; exact L2
    clear L2 m2 HM s2
    go_upto_region 4 with (first | refine list_build (t := 57) (cells := (msV m4 s4).row) (l := [(2, .int .u64 m4), (3, .int .u16 s4)]) rfl rfl (by simp [Act.put, Act.eval]) F ?_ | refine list_store (t := 57) (x := .pointer (some ⟨w3.heap.size, 0, none⟩)) (u := .agg (msV m4 s4).row) rfl rfl rfl rfl L3 ?_)
    try simp only [Act.put]
    rw [hw3.out]
    clear L3 F i3 i4 s3 s5
    generalize (w3.alloc (.cells mem0.row 57)).setCells (w.heap.size + 1) 0 (msV m4 s4).row.toList = w4 at HB ⊢
    have HD : Hid (∀ w', Below w.heap.size w w' → Bytes134 b off f w') := D0
    clear D0
    go_wp2_with fail
    go_loopw [5] (fun iv wr => ∃ k : Nat, k ≤ 16 ∧ iv = .int .i64 k ∧ Back f k b off w wr) (fun iv _ => 16 - (intOf iv).toNat)
    case atStart => exact ⟨0, by omega, rfl, HB.out⟩
    case round =>
      clear HB
      obtain ⟨k, hk, rfl, B⟩ := hrel
      have HB : Hid (Back f k b off w wr) := B
      clear B
      by_cases hlt : k < 16
      · have hlt' : (k : Int) < 16 := by omega
        obtain ⟨p, hp, p1, p2⟩ : ∃ p : Nat, p = 6 + k * 3 ∧ (6 : Int) + 3 * (k : Int) = (p : Int) ∧ (p : Int) < 134 := ⟨6 + k * 3, rfl, by omega, by omega⟩
        obtain ⟨q, hq, q1, q2⟩ : ∃ q : Nat, q = 54 + k * 3 ∧ (54 : Int) + 3 * (k : Int) = (q : Int) ∧ (q : Int) < 134 := ⟨54 + k * 3, rfl, by omega, by omega⟩
        have HP : Hid (p = 6 + k * 3 ∧ q = 54 + k * 3) := ⟨hp, hq⟩
        have c1 := HB.out.d p (by omega)
        have c2 := HB.out.d q (by omega)
        clear hp hq
        obtain ⟨x, hx⟩ : ∃ x, f p = x := ⟨_, rfl⟩
        obtain ⟨y, hy⟩ : ∃ y, f q = y := ⟨_, rfl⟩
        have HX : Hid (f p = x ∧ f q = y) := ⟨hx, hy⟩
        rw [hx] at c1
        rw [hy] at c2
        clear hx hy
        by_cases hok : x ≤ 1 ∧ y ≤ 3
        · have o1 : ¬ (1 : Int) < (x : Int) := by omega
          have o2 : ¬ (3 : Int) < (y : Int) := by omega
          obtain ⟨t1, b1, T1⟩ : ∃ t1 : Bool, ((x : Int) == 1) = t1 ∧ Hid ((scanV f).tD k = t1) := by
            refine ⟨_, rfl, ?_⟩
            show _ = _
            rw [scan_tD, ← HP.out.1, HX.out.1]
            have : x = 0 ∨ x = 1 := by omega
            rcases this with rfl | rfl <;> rfl
          obtain ⟨r1, r2, t2, t3, q3, q4, b2, b3, T2, T3⟩ : ∃ (r1 r2 : Nat) (t2 t3 : Bool), (y : Int) % 2 = (r1 : Int) ∧ (y : Int) / 2 = (r2 : Int) ∧ ((r1 : Int) == 1) = t2 ∧ ((r2 : Int) == 1) = t3 ∧ Hid ((scanV f).cD k = t2) ∧ Hid ((scanV f).cL k = t3) := by
            refine ⟨y % 2, y / 2, _, _, by omega, by omega, rfl, rfl, ?_, ?_⟩
            · show _ = _
              rw [scan_cD, ← HP.out.2, HX.out.2]
              have : y = 0 ∨ y = 1 ∨ y = 2 ∨ y = 3 := by omega
              rcases this with rfl | rfl | rfl | rfl <;> rfl
            · show _ = _
              rw [scan_cL, ← HP.out.2, HX.out.2]
              have : y = 0 ∨ y = 1 ∨ y = 2 ∨ y = 3 := by omega
              rcases this with rfl | rfl | rfl | rfl <;> rfl
          obtain ⟨p', p3, HP'⟩ : ∃ p' : Nat, (p : Int) + 1 = (p' : Int) ∧ Hid (p' = p + 1) := ⟨p + 1, by omega, rfl⟩
          obtain ⟨q', q5, HQ'⟩ : ∃ q' : Nat, (q : Int) + 1 = (q' : Int) ∧ Hid (q' = q + 1) := ⟨q + 1, by omega, rfl⟩
          have p4 : IntKind.i64.wrap (p' : Int) = (p' : Int) := wrap64k (by omega) (by omega)
          have q6 : IntKind.i64.wrap (q' : Int) = (q' : Int) := wrap64k (by omega) (by omega)
          obtain ⟨tc, hc⟩ : ∃ tc, tc = num (fun i => f (p' + i)) 2 := ⟨_, rfl⟩
          have TC : Hid ((scanV f).tC k = tc) := by
            show _ = _
            rw [hc, num2, scan_tC, HP'.out, HP.out.1]
          have tc1 : tc < 65536 := by rw [hc]; exact num_lt (fun _ => hfb _) 2
          have C1 : ∀ w', Bytes134 b off f w' → Calls Try.prog 55 #[.slice (some ⟨b, off, none⟩) 134 cap, .int .i64 p', .int .i64 2] w' fun e w'' => e = .returned (.int .u64 (tc : Int)) ∧ w'' = w' := fun w' hw' => hc ▸ spec_get b off cap p' 2 f w' hw' hfb (by have := HP'.out; have := HP.out.1; omega) (by omega)
          clear hc
          obtain ⟨cc, hc⟩ : ∃ cc, cc = num (fun i => f (q' + i)) 2 := ⟨_, rfl⟩
          have CC : Hid ((scanV f).cC k = cc) := by
            show _ = _
            rw [hc, num2, scan_cC, HQ'.out, HP.out.2]
          have cc1 : cc < 65536 := by rw [hc]; exact num_lt (fun _ => hfb _) 2
          have C2 : ∀ w', Bytes134 b off f w' → Calls Try.prog 55 #[.slice (some ⟨b, off, none⟩) 134 cap, .int .i64 q', .int .i64 2] w' fun e w'' => e = .returned (.int .u64 (cc : Int)) ∧ w'' = w' := fun w' hw' => hc ▸ spec_get b off cap q' 2 f w' hw' hfb (by have := HQ'.out; have := HP.out.2; omega) (by omega)
          clear hc
          have w1 : IntKind.u16.wrap (tc : Int) = (tc : Int) := by show (tc : Int) % 65536 = _; omega
          have w2 : (tc : Int) % 65536 = (tc : Int) := by omega
          have w5 : IntKind.u16.wrap (cc : Int) = (cc : Int) := by show (cc : Int) % 65536 = _; omega
          have w6 : (cc : Int) % 65536 = (cc : Int) := by omega
          have CD := C1 wr.drew HB.out.d
          go_upto_region 11 with fail
          refine wp_region_still_tail 14 (by kernel_rfl) (by kernel_rfl) ?_
          simp only [List.take_succ_cons, List.take_zero, List.drop_succ_cons, List.drop_zero]
          repeat still_step
          still_call CD
          repeat still_step
          refine wpStill_nil ?_
          change wpList _ _ _ _ _ (World.drew _)
          have HBd : Hid (Back f k b off w wr.drew) := ⟨HB.out.m.below ((Below.refl wr.heap.size wr).drew) HB.out.m.z, HB.out.r.below ((Below.refl wr.heap.size wr).drew) HB.out.r.z, HB.out.b.drew, HB.out.d, HB.out.g⟩
          clear HB c1 c2 CD C1
          generalize World.drew wr = wd at HBd ⊢
          obtain ⟨u1, d1⟩ : ∃ u, wd.cell? ⟨w.heap.size + 1, 5 + k * 2, none⟩ = some u := ⟨_, HBd.out.m.c _ (by omega)⟩
          obtain ⟨u2, d2⟩ : ∃ u, wd.cell? ⟨w.heap.size + 1, 5 + k * 2 + 1, none⟩ = some u := ⟨_, HBd.out.m.c _ (by omega)⟩
          have e1 := HBd.out.m.f (5 + k * 2) (by omega)
          have e2 := HBd.out.m.f (5 + k * 2 + 1) (by omega)
          have m1 := put_tD HBd.out.m hlt
          rw [T1.out] at m1
          have m2 := put_tC m1 hlt
          rw [TC.out] at m2
          have bB := (HBd.out.b.setCell (p := ⟨w.heap.size + 1, 5 + k * 2, none⟩) (by show _ ≤ w.heap.size + 1; omega) (.bool t1)).setCell (p := ⟨w.heap.size + 1, 5 + k * 2 + 1, none⟩) (by show _ ≤ w.heap.size + 1; omega) (.int .u16 (tc : Int))
          have H2 : Hid (MemAt (w.heap.size + 1) (scanQ f (k + 1) (k + 1) k k k (16 + k)) ((wd.setCell ⟨w.heap.size + 1, 5 + k * 2, none⟩ (.bool t1)).setCell ⟨w.heap.size + 1, 5 + k * 2 + 1, none⟩ (.int .u16 (tc : Int))) ∧ MemAt w.heap.size mem0 ((wd.setCell ⟨w.heap.size + 1, 5 + k * 2, none⟩ (.bool t1)).setCell ⟨w.heap.size + 1, 5 + k * 2 + 1, none⟩ (.int .u16 (tc : Int))) ∧ Below w.heap.size w ((wd.setCell ⟨w.heap.size + 1, 5 + k * 2, none⟩ (.bool t1)).setCell ⟨w.heap.size + 1, 5 + k * 2 + 1, none⟩ (.int .u16 (tc : Int)))) := ⟨m2, (HBd.out.r.at_other (by omega)).at_other (by omega), bB⟩
          have HG : Hid (∀ i, i < k → f (6 + i * 3) ≤ 1 ∧ f (54 + i * 3) ≤ 3) := HBd.out.g
          clear HBd m1 m2 bB
          go_upto_region 12 with fail
          try simp only [Act.put]
          clear d1 d2 e1 e2
          generalize (wd.setCell ⟨w.heap.size + 1, 5 + k * 2, none⟩ (.bool t1)).setCell ⟨w.heap.size + 1, 5 + k * 2 + 1, none⟩ (.int .u16 (tc : Int)) = wf at H2 ⊢
          have c2 := HD.out wf H2.out.2.2 q (by omega)
          rw [HX.out.2] at c2
          have CD := C2 wf.drew (HD.out wf H2.out.2.2)
          refine wp_region_still_tail 21 (by kernel_rfl) (by kernel_rfl) ?_
          simp only [List.take_succ_cons, List.take_zero, List.drop_succ_cons, List.drop_zero]
          repeat still_step
          still_call CD
          repeat still_step
          refine wpStill_nil ?_
          change wpList _ _ _ _ _ (World.drew _)
          have H3 : Hid (MemAt (w.heap.size + 1) (scanQ f (k + 1) (k + 1) k k k (16 + k)) wf.drew ∧ MemAt w.heap.size mem0 wf.drew ∧ Below w.heap.size w wf.drew) := ⟨H2.out.1.below ((Below.refl wf.heap.size wf).drew) H2.out.1.z, H2.out.2.1.below ((Below.refl wf.heap.size wf).drew) H2.out.2.1.z, H2.out.2.2.drew⟩
          clear H2 c2 CD C2
          generalize World.drew wf = wg at H3 ⊢
          obtain ⟨u1, d1⟩ : ∃ u, wg.cell? ⟨w.heap.size + 1, 37 + k * 3, none⟩ = some u := ⟨_, H3.out.1.c _ (by omega)⟩
          obtain ⟨u2, d2⟩ : ∃ u, wg.cell? ⟨w.heap.size + 1, 37 + k * 3 + 1, none⟩ = some u := ⟨_, H3.out.1.c _ (by omega)⟩
          obtain ⟨u3, d3⟩ : ∃ u, wg.cell? ⟨w.heap.size + 1, 37 + k * 3 + 2, none⟩ = some u := ⟨_, H3.out.1.c _ (by omega)⟩
          have e1 := H3.out.1.f (37 + k * 3) (by omega)
          have e2 := H3.out.1.f (37 + k * 3 + 1) (by omega)
          have e3 := H3.out.1.f (37 + k * 3 + 2) (by omega)
          have m1 := put_cD H3.out.1 hlt
          rw [T2.out] at m1
          have m2 := put_cL m1 hlt
          rw [T3.out] at m2
          have m3 := put_cC m2 hlt
          rw [CC.out] at m3
          have bB := ((H3.out.2.2.setCell (p := ⟨w.heap.size + 1, 37 + k * 3, none⟩) (by show _ ≤ w.heap.size + 1; omega) (.bool t2)).setCell (p := ⟨w.heap.size + 1, 37 + k * 3 + 1, none⟩) (by show _ ≤ w.heap.size + 1; omega) (.bool t3)).setCell (p := ⟨w.heap.size + 1, 37 + k * 3 + 2, none⟩) (by show _ ≤ w.heap.size + 1; omega) (.int .u16 (cc : Int))
          have H4 : Hid (MemAt (w.heap.size + 1) (scanQ f (k + 1) (k + 1) (k + 1) (k + 1) (k + 1) (16 + k)) (((wg.setCell ⟨w.heap.size + 1, 37 + k * 3, none⟩ (.bool t2)).setCell ⟨w.heap.size + 1, 37 + k * 3 + 1, none⟩ (.bool t3)).setCell ⟨w.heap.size + 1, 37 + k * 3 + 2, none⟩ (.int .u16 (cc : Int))) ∧ MemAt w.heap.size mem0 (((wg.setCell ⟨w.heap.size + 1, 37 + k * 3, none⟩ (.bool t2)).setCell ⟨w.heap.size + 1, 37 + k * 3 + 1, none⟩ (.bool t3)).setCell ⟨w.heap.size + 1, 37 + k * 3 + 2, none⟩ (.int .u16 (cc : Int))) ∧ Below w.heap.size w (((wg.setCell ⟨w.heap.size + 1, 37 + k * 3, none⟩ (.bool t2)).setCell ⟨w.heap.size + 1, 37 + k * 3 + 1, none⟩ (.bool t3)).setCell ⟨w.heap.size + 1, 37 + k * 3 + 2, none⟩ (.int .u16 (cc : Int)))) := ⟨m3, ((H3.out.2.1.at_other (by omega)).at_other (by omega)).at_other (by omega), bB⟩
          clear H3 m1 m2 m3 bB
          obtain ⟨wh, hwh⟩ : ∃ wh, wh = (((wg.setCell ⟨w.heap.size + 1, 37 + k * 3, none⟩ (.bool t2)).setCell ⟨w.heap.size + 1, 37 + k * 3 + 1, none⟩ (.bool t3)).setCell ⟨w.heap.size + 1, 37 + k * 3 + 2, none⟩ (.int .u16 (cc : Int))) := ⟨_, rfl⟩
          rw [← hwh] at H4
          have HW : Hid (wh = (((wg.setCell ⟨w.heap.size + 1, 37 + k * 3, none⟩ (.bool t2)).setCell ⟨w.heap.size + 1, 37 + k * 3 + 1, none⟩ (.bool t3)).setCell ⟨w.heap.size + 1, 37 + k * 3 + 2, none⟩ (.int .u16 (cc : Int)))) := hwh
          clear hwh
          obtain ⟨n, hn, n1, n2⟩ : ∃ n : Nat, n = 16 + k ∧ (16 : Int) + (k : Int) = (n : Int) ∧ (n : Int) < 32 := ⟨16 + k, rfl, by omega, by omega⟩
          obtain ⟨s, hs, s1, s2⟩ : ∃ s : Nat, s = 102 + k * 2 ∧ (102 : Int) + 2 * (k : Int) = (s : Int) ∧ IntKind.i64.wrap (s : Int) = (s : Int) := ⟨102 + k * 2, rfl, by omega, wrap64k (by omega) (by omega)⟩
          have n3 : IntKind.i64.wrap (n : Int) = (n : Int) := wrap64k (by omega) (by omega)
          obtain ⟨y, hy⟩ : ∃ y, y = num (fun i => f (s + i)) 2 := ⟨_, rfl⟩
          have y1 : y < 65536 := by rw [hy]; exact num_lt (fun _ => hfb _) 2
          have y2 : Hid ((scanV f).d n = sgn y) := by
            show _ = _
            rw [scan_d, if_neg (by omega), hy, num2, hs, show n - 16 = k by omega]
            rfl
          have y3 : IntKind.i64.wrap (y : Int) = (y : Int) := wrap64k (by omega) (by omega)
          have C3 : Calls Try.prog 55 #[.slice (some ⟨b, off, none⟩) 134 cap, .int .i64 s, .int .i64 2] wh fun e w'' => e = .returned (.int .u64 (y : Int)) ∧ w'' = wh := hy ▸ spec_get b off cap s 2 f wh (HD.out wh H4.out.2.2) hfb (by omega) (by omega)
          have HN : Hid (n = 16 + k) := hn
          rw [← hn] at H4
          clear hy hs hn
          go_wp2_with fail
          rw [← HW.out]
          clear HW d1 d2 d3 e1 e2 e3
          refine C3.mono ?_
          rintro e wi ⟨rfl, rfl⟩
          go_wp2_with fail
          refine (spec_wrap y y1 wi).mono ?_
          rintro e wj ⟨rfl, rfl⟩
          obtain ⟨z, hz⟩ : ∃ z, sgn y = z := ⟨_, rfl⟩
          obtain ⟨u1, d1⟩ : ∃ u, wj.cell? ⟨w.heap.size + 1, 85 + n, none⟩ = some u := ⟨_, H4.out.1.c _ (by omega)⟩
          have e1 := H4.out.1.f (85 + n) (by omega)
          have HF : Hid (Back f (k + 1) b off w (wj.setCell ⟨w.heap.size + 1, 85 + n, none⟩ (.int .i16 z))) := by
            have m1 := put_d H4.out.1 (by have := HN.out; omega) (by have := HN.out; omega)
            rw [y2.out, hz, show n + 1 = 16 + (k + 1) by have := HN.out; omega] at m1
            have b1 := H4.out.2.2.setCell (p := ⟨w.heap.size + 1, 85 + n, none⟩) (by show _ ≤ w.heap.size + 1; omega) (.int .i16 z)
            refine ⟨m1, H4.out.2.1.at_other (by omega), b1, HD.out _ b1, fun i hi => ?_⟩
            by_cases hik : i < k
            · exact HG.out i hik
            · obtain rfl : i = k := by omega
              rw [← HP.out.1, ← HP.out.2, HX.out.1, HX.out.2]
              exact hok
          rw [hz]
          clear H4 y2 hz C3
          go_wp2_with fail
          go_roundw
          case rel => exact ⟨k + 1, by omega, by go_num, HF.out⟩
          case measure => simp [intOf]; omega
        · obtain rfl : t = false := by
            cases t
            · rfl
            · have := (ht.1 rfl).2 k hlt
              rw [← HP.out.1, ← HP.out.2, HX.out.1, HX.out.2] at this
              exact absurd this hok
          have L10 := store_mem mem0 HB.out.r
          have HF : Hid (MemAt w.heap.size mem0 _ ∧ Below w.heap.size w _) := ⟨HB.out.r.stored mem0, setCells_below mem0.row.toList w.heap.size 0 HB.out.b (Nat.le_refl _)⟩
          clear HB ht
          by_cases hx1 : x ≤ 1
          · have o1 : ¬ (1 : Int) < (x : Int) := by omega
            have o2 : (3 : Int) < (y : Int) := by omega
            go_wp2_with (first | refine list_build (t := 57) (cells := mem0.row) (l := []) rfl rfl (by simp) built_none ?_ | refine list_store (t := 57) (x := .pointer (some ⟨w.heap.size, 0, none⟩)) (u := .agg mem0.row) rfl rfl rfl rfl L10 ?_)
            exact ret_mb (c := 2) (c' := 3) rfl rfl rfl rfl HF.out.1 ⟨rfl, HF.out.2⟩
          · have o1 : (1 : Int) < (x : Int) := by omega
            go_wp2_with (first | refine list_build (t := 57) (cells := mem0.row) (l := []) rfl rfl (by simp) built_none ?_ | refine list_store (t := 57) (x := .pointer (some ⟨w.heap.size, 0, none⟩)) (u := .agg mem0.row) rfl rfl rfl rfl L10 ?_)
            exact ret_mb (c := 2) (c' := 3) rfl rfl rfl rfl HF.out.1 ⟨rfl, HF.out.2⟩
      · obtain rfl : k = 16 := by omega
        obtain rfl : t = true := ht.2 ⟨hl, fun i hi => HB.out.g i hi⟩
        have L9 := load_mem HB.out.m
        have L10 := store_mem (scanQ f 16 16 16 16 16 (16 + 16)) HB.out.r
        have HF : Hid (MemAt w.heap.size (scanQ f 16 16 16 16 16 (16 + 16)) _ ∧ Below w.heap.size w _) := ⟨HB.out.r.stored (scanQ f 16 16 16 16 16 (16 + 16)), setCells_below (scanQ f 16 16 16 16 16 (16 + 16)).row.toList w.heap.size 0 HB.out.b (Nat.le_refl _)⟩
        clear HB ht
        go_wp2_with (first | (refine list_load (t := 57) (x := .pointer (some ⟨w.heap.size + 1, 0, none⟩)) (u := .agg (scanQ f 16 16 16 16 16 (16 + 16)).row) rfl rfl rfl L9 ?_) | refine list_store (t := 57) (x := .pointer (some ⟨w.heap.size, 0, none⟩)) (u := .agg (scanQ f 16 16 16 16 16 (16 + 16)).row) rfl rfl rfl rfl L10 ?_)
        exact ret_mb (c := 2) (c' := 3) rfl rfl rfl rfl HF.out.1 ⟨by rw [show (16 + 16 : Nat) = 32 from rfl, scan_last], HF.out.2⟩
  · obtain rfl : t = false := by
      cases t
      · rfl
      · exact absurd (ht.1 rfl).1 hl
    obtain ⟨n, hn⟩ : ∃ n, n = xs.length := ⟨_, rfl⟩
    rw [← hn] at hl _hl2 ⊢
    have hne : ¬ (n : Int) = 134 := by omega
    have hne2 : ((n : Int) == 134) = false := by simpa using hne
    clear h hn ht
    go_enter Try.func27, Try.ntmps27
    go_upto_region 1 with fail
    have L10 := store_mem mem0 M0
    have HF : Hid (MemAt w.heap.size mem0 _ ∧ Below w.heap.size w _) := ⟨M0.stored mem0, setCells_below mem0.row.toList w.heap.size 0 B0 (Nat.le_refl _)⟩
    clear M0 B0
    generalize w.alloc (.cells mem0.row 57) = w1 at HF L10 ⊢
    go_wp2_with (first | refine list_build (t := 57) (cells := mem0.row) (l := []) rfl rfl (by simp) built_none ?_ | refine list_store (t := 57) (x := .pointer (some ⟨w.heap.size, 0, none⟩)) (u := .agg mem0.row) rfl rfl rfl rfl L10 ?_)
    exact ret_mb (c := 2) (c' := 3) rfl rfl rfl rfl HF.out.1 ⟨rfl, HF.out.2⟩

end Go.Proofs.Ytdhoimjkgicneab
