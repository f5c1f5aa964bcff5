/- Texts of this proof laid together: KepJ, KepK. -/
import Derived.Test.YtdhoimjkgicneabLot24
/- Bytes read as a memory by the program: the walk. -/
namespace Go.Proofs.Ytdhoimjkgicneab
open Go Go.RowKit

attribute [local go_sem] zMemK

/-- While the program reads: what is left of the bytes from place j on, the memory at its box, the answer's box. -/
structure Reading (xs : List Nat) (j : Nat) (m : MemV) (w wr : World) (v : Value) : Prop where
  d : BytesAt v (xs.drop j) w
  m : MemAt (w.heap.size + 1) m wr
  r : MemAt w.heap.size mem0 wr
  b : Below w.heap.size w wr

theorem Reading.at {xs : List Nat} {j : Nat} {m : MemV} {w wr : World} {v : Value} (h : Reading xs j m w wr v) : BytesAt v (xs.drop j) wr := h.d.below h.b (Nat.le_refl _)

theorem Reading.cut {xs : List Nat} {j l : Nat} {m : MemV} {w wr w' : World} {v : Value} (h : Reading xs j m w wr v) (hl : j + l ≤ xs.length) (hb : Below wr.heap.size wr w') : Reading xs (j + l) m w w' (cutV l v) := by
  refine ⟨?_, h.m.below hb h.m.z, h.r.below hb h.r.z, h.b.trans (hb.mono h.b.size)⟩
  have := cut_at h.d l (by simp; omega)
  rwa [List.drop_drop] at this

theorem Reading.put {xs : List Nat} {j k : Nat} {m m' : MemV} {w wr : World} {v u : Value} (h : Reading xs j m w wr v) (hm : MemAt (w.heap.size + 1) m' (wr.setCell ⟨w.heap.size + 1, k, none⟩ u)) : Reading xs j m' w (wr.setCell ⟨w.heap.size + 1, k, none⟩ u) v :=
  ⟨h.d, hm, h.r.at_other (by omega), h.b.setCell (by show _ ≤ w.heap.size + 1; omega) _⟩

/-- The slice itself, and its first byte. -/
theorem Reading.head {xs : List Nat} {j : Nat} {m : MemV} {w wr : World} {v : Value} {f : Nat → Nat} (h : Reading xs j m w wr v) (hf : ∀ i x, xs[i]? = some x → f i = x) (hj : j < xs.length) :
    ∃ b off cap : Nat, v = .slice (some ⟨b, off, none⟩) (xs.length - j) cap ∧ xs.length - j ≤ cap ∧ wr.cell? ⟨b, off, none⟩ = some (.int .u8 ((f j : Nat) : Int)) := by
  rcases h.at with ⟨b, off, cap, rfl, hz, hc, he⟩ | ⟨e, -⟩
  · rw [List.length_drop] at hc ⊢
    refine ⟨b, off, cap, rfl, hc, ?_⟩
    have hx : (xs.drop j)[0]? = some (xs[j]'hj) := by rw [List.getElem?_drop, Nat.add_zero, List.getElem?_eq_getElem hj]
    have := he 0 _ hx
    rw [Nat.add_zero] at this
    rw [this, hf j _ (List.getElem?_eq_getElem hj)]
  · have := congrArg List.length e
    simp at this
    omega

theorem drop_f {xs : List Nat} {f : Nat → Nat} (hf : ∀ i x, xs[i]? = some x → f i = x) (j : Nat) : ∀ i x, (xs.drop j)[i]? = some x → f (j + i) = x := fun i x hx => hf _ _ (by rwa [List.getElem?_drop] at hx)

theorem load_u8 {a : Addr} {v : Value} {w : World} (h : w.cell? a = some v) : (Instr.loadAt 5 (.pointer (some a))).run Try.prog w = .ok v w := by simp [go_sem, h]

theorem wrap16k (z : Int) : IntKind.i16.wrap z = (z + 32768) % 65536 - 32768 := by
  simp [IntKind.wrap, IntKind.signed, IntKind.bits]
  omega

set_option maxRecDepth 100000 in
set_option maxHeartbeats 3000000 in
theorem impl_scan (v : Value) (xs : List Nat) (f : Nat → Nat) (w : World) (h : BytesAt v xs w) (hf : ∀ i x, xs[i]? = some x → f i = x) (hfb : ∀ k, f k ≤ 255) (hl : xs.length = 134) :
    Calls Try.prog 50 #[v] w fun e w' => e = .returned (.agg (scanV f).row) ∧ Below w.heap.size w w' := by
  have A1 : Reading xs 0 mem0 w ((w.alloc (.cells mem0.row 57)).alloc (.cells mem0.row 57)) v := by
    have h1 : ∀ (w : World) (o : Obj), Below w.heap.size w (w.alloc o) := fun w o => (Below.refl _ _).alloc (Nat.le_refl _) _
    have m2 := MemAt.alloc mem0 (w.alloc (.cells mem0.row 57)) 57
    rw [show (w.alloc (.cells mem0.row 57)).heap.size = w.heap.size + 1 by simp] at m2
    exact ⟨by rw [List.drop_zero]; exact h, m2, (MemAt.alloc mem0 w 57).below (h1 _ _) (by simp), ((Below.refl w.heap.size w).alloc (Nat.le_refl _) _).alloc (by simp) _⟩
  clear h
  go_enter Try.func50, Try.ntmps50
  go_upto_region 2 with fail
  generalize ((w.alloc (.cells mem0.row 57)).alloc (.cells mem0.row 57)) = w1 at A1 ⊢
  have HR : Hid (Reading xs 0 mem0 w w1 v) := A1
  clear A1
  go_wp2_with fail
  refine (in4 v (xs.drop 0) w1 (fun i => f (0 + i)) HR.out.at (drop_f hf 0) (fun _ => hfb _) (by simp; omega) (by simp; omega)).mono ?_
  rintro e w2 ⟨rfl, b2⟩
  have R2 := HR.out.cut (l := 4) (by omega) b2
  clear HR b2
  obtain ⟨M, hM⟩ : ∃ M, M = num (fun i => f (0 + i)) 4 := ⟨_, rfl⟩
  have M1 : M < 4294967296 := by rw [hM]; exact num_lt (fun _ => hfb _) 4
  have M2 : M * 4294967296 = (scanV f).m := by rw [hM, num4, scan_m]
  rw [← hM]
  clear hM
  have i1 : IntKind.u64.wrap (M : Int) = (M : Int) := by show (M : Int) % 18446744073709551616 = _; omega
  have i2 : (M : Int) % 18446744073709551616 = (M : Int) := by omega
  have i3 : IntKind.u64.wrap ((M : Int) * 4294967296) = ((scanV f).m : Int) := by show (M : Int) * 4294967296 % 18446744073709551616 = _; rw [← M2]; omega
  have i4 : (M : Int) * 4294967296 % 18446744073709551616 = ((scanV f).m : Int) := i3
  obtain ⟨u0, c0⟩ : ∃ u, w2.cell? ⟨w.heap.size + 1, 2, none⟩ = some u := ⟨_, R2.m.c _ (by omega)⟩
  have f0 := R2.m.f 2 (by omega)
  have HR : Hid (Reading xs 4 (msV (scanV f).m 0) w (w2.setCell ⟨w.heap.size + 1, 2, none⟩ (.int .u64 (scanV f).m)) (cutV 4 v)) := R2.put (put_m _ R2.m)
  clear R2 M1 M2
  generalize cutV 4 v = v4 at HR ⊢
  obtain ⟨m4, hm4⟩ : ∃ m4, (scanV f).m = m4 := ⟨_, rfl⟩
  have HM4 : Hid ((scanV f).m = m4) := hm4
  rw [hm4] at HR i3 i4
  clear hm4
  go_wp2_with fail
  refine (in2 v4 (xs.drop 4) _ (fun i => f (4 + i)) HR.out.at (drop_f hf 4) (fun _ => hfb _) (by simp; omega) (by simp; omega)).mono ?_
  rintro e w3 ⟨rfl, b3⟩
  have R3 := HR.out.cut (l := 2) (by omega) b3
  clear HR b3 i1 i2 i3 i4 c0 f0
  rw [show num (fun i => f (4 + i)) 2 = (scanV f).s by rw [num2, scan_s]]
  obtain ⟨u1, c1⟩ : ∃ u, w3.cell? ⟨w.heap.size + 1, 3, none⟩ = some u := ⟨_, R3.m.c _ (by omega)⟩
  have f1 := R3.m.f 3 (by omega)
  have HR : Hid (Reading xs 6 (scanQ f 0 0 0 0 0 16) w (w3.setCell ⟨w.heap.size + 1, 3, none⟩ (.int .u16 (scanV f).s)) (cutV 2 v4)) := R3.put (put_s f (by rw [HM4.out]; exact R3.m))
  clear R3 HM4
  generalize cutV 2 v4 = v6 at HR ⊢
  generalize (scanV f).s = s6 at HR ⊢
  go_wp2_with fail
  clear c1 f1
  generalize w3.setCell ⟨w.heap.size + 1, 3, none⟩ (.int .u16 (s6 : Int)) = w4 at HR ⊢
  go_loopw [0, 24] (fun dv iv wr => ∃ k : Nat, k ≤ 16 ∧ iv = .int .i64 k ∧ Reading xs (6 + k * 3) (scanQ f k k 0 0 0 16) w wr dv) (fun _ iv _ => 16 - (intOf iv).toNat)
  case atStart => exact ⟨0, by omega, rfl, HR.out⟩
  case round =>
    clear HR
    obtain ⟨k, hk, rfl, R⟩ := hrel
    by_cases hlt : k < 16
    · have hlt' : (k : Int) < 16 := by omega
      obtain ⟨b, off, cap, rfl, hcap, x0⟩ := R.head hf (by omega)
      obtain ⟨n, hn⟩ : ∃ n, n = xs.length - (6 + k * 3) := ⟨_, rfl⟩
      have n1 : 3 ≤ n := by omega
      have e1 : cutV 1 (.slice (some ⟨b, off, none⟩) n cap) = .slice (some ⟨b, off + 1, none⟩) (n - 1) (cap - 1) := by rw [cutV_slice, if_neg (by omega)]
      rw [← hn] at R hcap ⊢
      clear hn
      have n2 : (0 : Int) < (n : Int) := by omega
      have n3 : (1 : Int) ≤ (n : Int) := by omega
      have n4 : ¬ cap = 1 := by omega
      obtain ⟨x, hx⟩ : ∃ x, x = f (6 + k * 3) := ⟨_, rfl⟩
      have hx255 : x ≤ 255 := hx ▸ hfb _
      have a1 := and_one x hx255
      rw [← hx] at x0
      obtain ⟨t, ht⟩ : ∃ t : Bool, (scanV f).tD k = t := ⟨_, rfl⟩
      obtain ⟨u1, c1⟩ : ∃ u, wr.cell? ⟨w.heap.size + 1, 5 + k * 2, none⟩ = some u := ⟨_, R.m.c _ (by omega)⟩
      have f1 := R.m.f (5 + k * 2) (by omega)
      have R1 := R.put (put_tD R.m hlt)
      rw [ht] at R1
      have R2 := R1.cut (l := 1) (by omega) (Below.refl _ _)
      rw [e1] at R2
      have HR : Hid (Reading xs (6 + k * 3 + 1) (scanQ f (k + 1) k 0 0 0 16) w (wr.setCell ⟨w.heap.size + 1, 5 + k * 2, none⟩ (.bool t)) (.slice (some ⟨b, off + 1, none⟩) (n - 1) (cap - 1))) := R2
      have hb : bits .and .u8 (x : Int) 1 = 0 ∧ t = false ∨ bits .and .u8 (x : Int) 1 = 1 ∧ t = true := by
        rw [scan_tD, ← hx] at ht
        rcases Nat.mod_two_eq_zero_or_one x with h | h
        · exact Or.inl ⟨by rw [a1, h]; rfl, by rw [← ht]; simp [h]⟩
        · exact Or.inr ⟨by rw [a1, h]; rfl, by rw [← ht]; simp [h]⟩
      clear R R1 R2 e1 hx hx255 ht a1
      rcases hb with ⟨a2, rfl⟩ | ⟨a2, rfl⟩
      all_goals
        go_wp2_with fail
        refine (in2 _ (xs.drop (6 + k * 3 + 1)) _ (fun i => f (6 + k * 3 + 1 + i)) HR.out.at (drop_f hf _) (fun _ => hfb _) (by simp; omega) (by simp; omega)).mono ?_
        rintro e w5 ⟨rfl, b5⟩
        have R3 := HR.out.cut (l := 2) (by omega) b5
        clear HR b5 c1 f1 a2 x0
        rw [show num (fun i => f (6 + k * 3 + 1 + i)) 2 = (scanV f).tC k by rw [num2, scan_tC]]
        obtain ⟨u2, c2⟩ : ∃ u, w5.cell? ⟨w.heap.size + 1, 5 + k * 2 + 1, none⟩ = some u := ⟨_, R3.m.c _ (by omega)⟩
        have f2 := R3.m.f (5 + k * 2 + 1) (by omega)
        generalize cutV 2 (.slice (some ⟨b, off + 1, none⟩) (n - 1) (cap - 1)) = v9 at R3 ⊢
        have HR : Hid (Reading xs (6 + k * 3 + 1 + 2) (scanQ f (k + 1) (k + 1) 0 0 0 16) w (w5.setCell ⟨w.heap.size + 1, 5 + k * 2 + 1, none⟩ (.int .u16 ((scanV f).tC k))) v9) := R3.put (put_tC R3.m hlt)
        clear R3
        generalize (scanV f).tC k = tc at HR ⊢
        go_wp2_with fail
        go_roundw
        case rel => exact ⟨k + 1, by omega, by go_num, by rw [show 6 + (k + 1) * 3 = 6 + k * 3 + 1 + 2 by omega]; exact HR.out⟩
        case measure => simp [intOf]; omega
    · obtain rfl : k = 16 := by omega
      have HR : Hid (Reading xs 54 (scanQ f 16 16 0 0 0 16) w wr u0) := R
      clear R
      go_wp2_with fail
      try rw [show ((16 : Nat) : Int) = 16 from rfl]
      go_loopw [0, 47] (fun dv iv wr => ∃ k : Nat, k ≤ 16 ∧ iv = .int .i64 k ∧ Reading xs (54 + k * 3) (scanQ f 16 16 k k k 16) w wr dv) (fun _ iv _ => 16 - (intOf iv).toNat)
      case atStart => exact ⟨0, by omega, rfl, HR.out⟩
      case round =>
        clear HR
        obtain ⟨k, hk, rfl, R⟩ := hrel
        by_cases hlt : k < 16
        · have hlt' : (k : Int) < 16 := by omega
          obtain ⟨b, off, cap, rfl, hcap, x0⟩ := R.head hf (by omega)
          obtain ⟨n, hn⟩ : ∃ n, n = xs.length - (54 + k * 3) := ⟨_, rfl⟩
          have n1 : 3 ≤ n := by omega
          have e1 : cutV 1 (.slice (some ⟨b, off, none⟩) n cap) = .slice (some ⟨b, off + 1, none⟩) (n - 1) (cap - 1) := by rw [cutV_slice, if_neg (by omega)]
          rw [← hn] at R hcap ⊢
          clear hn
          have n2 : (0 : Int) < (n : Int) := by omega
          have n3 : (1 : Int) ≤ (n : Int) := by omega
          have n4 : ¬ cap = 1 := by omega
          obtain ⟨x, hx⟩ : ∃ x, x = f (54 + k * 3) := ⟨_, rfl⟩
          have hx255 : x ≤ 255 := hx ▸ hfb _
          have a1 := and_one x hx255
          have a2 := and_two x hx255
          rw [← hx] at x0
          obtain ⟨t1, ht1⟩ : ∃ t : Bool, (scanV f).cD k = t := ⟨_, rfl⟩
          obtain ⟨t2, ht2⟩ : ∃ t : Bool, (scanV f).cL k = t := ⟨_, rfl⟩
          obtain ⟨v1, c1⟩ : ∃ u, wr.drew.cell? ⟨w.heap.size + 1, 37 + k * 3, none⟩ = some u := ⟨_, R.m.c _ (by omega)⟩
          have f1 : wr.drew.frozen? ⟨w.heap.size + 1, 37 + k * 3, none⟩ = false := R.m.f (37 + k * 3) (by omega)
          have R0 : Reading xs (54 + k * 3) (scanQ f 16 16 k k k 16) w wr.drew (.slice (some ⟨b, off, none⟩) n cap) := ⟨R.d, R.m.below ((Below.refl wr.heap.size wr).drew) R.m.z, R.r.below ((Below.refl wr.heap.size wr).drew) R.r.z, R.b.drew⟩
          have R1 := R0.put (put_cD R0.m hlt)
          rw [ht1] at R1
          obtain ⟨v2, c2⟩ : ∃ u, (wr.setCell ⟨w.heap.size + 1, 37 + k * 3, none⟩ (.bool t1)).cell? ⟨w.heap.size + 1, 37 + k * 3 + 1, none⟩ = some u := ⟨_, R1.m.c (37 + k * 3 + 1) (by omega)⟩
          have f2 : (wr.setCell ⟨w.heap.size + 1, 37 + k * 3, none⟩ (.bool t1)).frozen? ⟨w.heap.size + 1, 37 + k * 3 + 1, none⟩ = false := R1.m.f (37 + k * 3 + 1) (by omega)
          have R2 := R1.put (put_cL R1.m hlt)
          rw [ht2] at R2
          have hS := R0.b
          have hS1 := R1.b
          have hS2 := R2.b
          have XX : ∀ w', Below w.heap.size w w' → w'.cell? ⟨b, off, none⟩ = some (.int .u8 (x : Int)) := fun w' hw' => by
            have hb : b < w.heap.size := by
              rcases R.d with ⟨b', off', cap', e, hz, -, -⟩ | ⟨-, e⟩
              · simp only [Value.slice.injEq, Option.some.injEq, Addr.mk.injEq] at e
                obtain ⟨⟨rfl, -, -⟩, -, -⟩ := e
                exact hz
              · simp at e
            rw [hw'.cell (p := ⟨b, off, none⟩) hb, ← R.b.cell (p := ⟨b, off, none⟩) hb]
            exact x0
          have R3 := R2.cut (l := 1) (by omega) (Below.refl _ _)
          rw [e1] at R3
          have HR : Hid (Reading xs (54 + k * 3 + 1) (scanQ f 16 16 (k + 1) (k + 1) k 16) w ((wr.drew.setCell ⟨w.heap.size + 1, 37 + k * 3, none⟩ (.bool t1)).setCell ⟨w.heap.size + 1, 37 + k * 3 + 1, none⟩ (.bool t2)) (.slice (some ⟨b, off + 1, none⟩) (n - 1) (cap - 1))) := R3
          have hb : (bits .and .u8 (x : Int) 1 = 0 ∧ t1 = false ∨ bits .and .u8 (x : Int) 1 = 1 ∧ t1 = true) ∧ (bits .and .u8 (x : Int) 2 = 0 ∧ t2 = false ∨ bits .and .u8 (x : Int) 2 = 2 ∧ t2 = true) := by
            rw [scan_cD, ← hx] at ht1
            rw [scan_cL, ← hx] at ht2
            constructor
            · rcases Nat.mod_two_eq_zero_or_one x with h | h
              · exact Or.inl ⟨by rw [a1, h]; rfl, by rw [← ht1]; simp [h]⟩
              · exact Or.inr ⟨by rw [a1, h]; rfl, by rw [← ht1]; simp [h]⟩
            · rcases Nat.mod_two_eq_zero_or_one (x / 2) with h | h
              · exact Or.inl ⟨by rw [a2, h]; rfl, by rw [← ht2]; simp [h]⟩
              · exact Or.inr ⟨by rw [a2, h]; rfl, by rw [← ht2]; simp [h]⟩
          clear R R0 R1 R2 R3 e1 hx hx255 ht1 ht2 a1 a2 x0
          obtain ⟨A1, A2, b1, b2, b3, b4⟩ : ∃ A1 A2 : Int, bits .and .u8 (x : Int) 1 = A1 ∧ bits .and .u8 (x : Int) 2 = A2 ∧ (A1 != 0) = t1 ∧ (A2 != 0) = t2 := by
            refine ⟨_, _, rfl, rfl, ?_, ?_⟩
            · rcases hb.1 with ⟨h, rfl⟩ | ⟨h, rfl⟩ <;> rw [h] <;> rfl
            · rcases hb.2 with ⟨h, rfl⟩ | ⟨h, rfl⟩ <;> rw [h] <;> rfl
          clear hb
          have n5 : ¬ n = 0 := by omega
          go_wp2_with fail
          · skip
            refine wp_region_held (S := Below w.heap.size w) (by kernel_rfl) ?_
            refine held_any (fuel := 19) (i := 0) (v := .int .i64 k) rfl (by kernel_rfl) (by kernel_rfl) (by kernel_rfl) rfl (fun _ _ _ h => h) (fun _ _ => rfl) hS ?_
            go_simp
            refine held_any (fuel := 18) (i := 1) (v := .int .i64 k) rfl (by kernel_rfl) (by kernel_rfl) (by kernel_rfl) rfl (fun _ _ _ h => h) (fun _ _ => rfl) hS ?_
            go_simp
            refine held_any (fuel := 17) (i := 2) (v := .slice (some ⟨b, off, none⟩) n cap) rfl (by kernel_rfl) (by kernel_rfl) (by kernel_rfl) rfl (fun _ _ _ h => h) (fun _ _ => rfl) hS ?_
            go_simp
            refine held_any (fuel := 16) (i := 3) (v := .pointer (some ⟨b, off, none⟩)) rfl (by kernel_rfl) (by kernel_rfl) (by kernel_rfl) rfl (fun _ _ _ h => h) (fun _ _ => by go_simp) hS ?_
            go_simp
            refine held_load (fuel := 15) (i := 4) (t := 5) (v := .int .u8 (x : Int)) rfl rfl rfl (by kernel_rfl) (by kernel_rfl) (by kernel_rfl) rfl (fun _ _ _ h => h) (fun w' hw' => load_u8 (XX w' hw')) hS ?_
            go_simp
            refine held_any (fuel := 14) (i := 5) (v := .int .u8 A1) rfl (by kernel_rfl) (by kernel_rfl) (by kernel_rfl) rfl (fun _ _ _ h => h) (fun _ _ => by go_simp) hS ?_
            go_simp
            refine held_any (fuel := 13) (i := 6) (v := .bool t1) rfl (by kernel_rfl) (by kernel_rfl) (by kernel_rfl) rfl (fun _ _ _ h => h) (fun _ _ => by go_simp) hS ?_
            go_simp
            refine held_any (fuel := 12) (i := 7) (v := .slice (some ⟨b, off, none⟩) n cap) rfl (by kernel_rfl) (by kernel_rfl) (by kernel_rfl) rfl (fun _ _ _ h => h) (fun _ _ => rfl) hS ?_
            go_simp
            refine held_any (fuel := 11) (i := 8) (v := .pointer (some ⟨b, off, none⟩)) rfl (by kernel_rfl) (by kernel_rfl) (by kernel_rfl) rfl (fun _ _ _ h => h) (fun _ _ => by go_simp) hS ?_
            go_simp
            refine held_load (fuel := 10) (i := 9) (t := 5) (v := .int .u8 (x : Int)) rfl rfl rfl (by kernel_rfl) (by kernel_rfl) (by kernel_rfl) rfl (fun _ _ _ h => h) (fun w' hw' => load_u8 (XX w' hw')) hS ?_
            go_simp
            refine held_any (fuel := 9) (i := 10) (v := .int .u8 A2) rfl (by kernel_rfl) (by kernel_rfl) (by kernel_rfl) rfl (fun _ _ _ h => h) (fun _ _ => by go_simp) hS ?_
            go_simp
            refine held_any (fuel := 8) (i := 11) (v := .bool t2) rfl (by kernel_rfl) (by kernel_rfl) (by kernel_rfl) rfl (fun _ _ _ h => h) (fun _ _ => by go_simp) hS ?_
            go_simp
            refine held_any (fuel := 7) (i := 12) (v := .pointer (some ⟨w.heap.size + 1, 37, none⟩)) rfl (by kernel_rfl) (by kernel_rfl) (by kernel_rfl) rfl (fun _ _ _ h => h) (fun _ _ => by go_simp) hS ?_
            go_simp
            refine held_any (fuel := 6) (i := 13) (v := .pointer (some ⟨w.heap.size + 1, 37 + k * 3, none⟩)) rfl (by kernel_rfl) (by kernel_rfl) (by kernel_rfl) rfl (fun _ _ _ h => h) (fun _ _ => by go_simp) hS ?_
            go_simp
            refine held_any (fuel := 5) (i := 14) (v := .pointer (some ⟨w.heap.size + 1, 37 + k * 3, none⟩)) rfl (by kernel_rfl) (by kernel_rfl) (by kernel_rfl) rfl (fun _ _ _ h => h) (fun _ _ => by go_simp) hS ?_
            go_simp
            refine held_any (fuel := 4) (i := 16) (v := .pointer (some ⟨w.heap.size + 1, 37, none⟩)) rfl (by kernel_rfl) (by kernel_rfl) (by kernel_rfl) rfl (fun _ _ _ h => h) (fun _ _ => by go_simp) hS ?_
            go_simp
            refine wpAnyH_ready (rs := [15]) (by kernel_rfl) (by simp) ?_
            refine AllReadyH.cons rfl (fun K hK => ?_) AllReadyH.nil
            go_simp
            refine hK.out _ _ hS1 (fun _ => ?_)
            clear hK K
            try go_simp
            refine held_any (fuel := 2) (i := 17) (v := .pointer (some ⟨w.heap.size + 1, 37 + k * 3, none⟩)) rfl (by kernel_rfl) (by kernel_rfl) (by kernel_rfl) rfl (fun _ _ _ h => h) (fun _ _ => by go_simp) hS1 ?_
            go_simp
            refine held_any (fuel := 1) (i := 18) (v := .pointer (some ⟨w.heap.size + 1, 37 + k * 3 + 1, none⟩)) rfl (by kernel_rfl) (by kernel_rfl) (by kernel_rfl) rfl (fun _ _ _ h => h) (fun _ _ => by go_simp) hS1 ?_
            go_simp
            refine wpAnyH_ready (rs := [19]) (by kernel_rfl) (by simp) ?_
            refine AllReadyH.cons rfl (fun K hK => ?_) AllReadyH.nil
            go_simp
            refine hK.out _ _ hS2 (fun _ => ?_)
            clear hK K
            try go_simp
            refine wpAnyH_done (by kernel_rfl) ?_ _
            clear c1 f1 c2 f2 b1 b2 b3 b4 XX hS hS1 hS2
            have HR : Hid (Reading xs (54 + k * 3 + 1) (scanQ f 16 16 (k + 1) (k + 1) k 16) w (((wr.setCell ⟨w.heap.size + 1, 37 + k * 3, none⟩ (.bool t1)).setCell ⟨w.heap.size + 1, 37 + k * 3 + 1, none⟩ (.bool t2)).drew) (.slice (some ⟨b, off + 1, none⟩) (n - 1) (cap - 1))) := HR
            generalize ((wr.setCell ⟨w.heap.size + 1, 37 + k * 3, none⟩ (.bool t1)).setCell ⟨w.heap.size + 1, 37 + k * 3 + 1, none⟩ (.bool t2)).drew = wd at HR ⊢
            go_wp2_with fail
            refine (in2 _ (xs.drop (54 + k * 3 + 1)) _ (fun i => f (54 + k * 3 + 1 + i)) HR.out.at (drop_f hf _) (fun _ => hfb _) (by simp; omega) (by simp; omega)).mono ?_
            rintro e w5 ⟨rfl, b5⟩
            have R3 := HR.out.cut (l := 2) (by omega) b5
            clear HR b5
            rw [show num (fun i => f (54 + k * 3 + 1 + i)) 2 = (scanV f).cC k by rw [num2, scan_cC]]
            obtain ⟨u2, c2⟩ : ∃ u, w5.cell? ⟨w.heap.size + 1, 37 + k * 3 + 2, none⟩ = some u := ⟨_, R3.m.c _ (by omega)⟩
            have f2 := R3.m.f (37 + k * 3 + 2) (by omega)
            generalize cutV 2 (.slice (some ⟨b, off + 1, none⟩) (n - 1) (cap - 1)) = v9 at R3 ⊢
            have HR : Hid (Reading xs (54 + k * 3 + 1 + 2) (scanQ f 16 16 (k + 1) (k + 1) (k + 1) 16) w (w5.setCell ⟨w.heap.size + 1, 37 + k * 3 + 2, none⟩ (.int .u16 ((scanV f).cC k))) v9) := R3.put (put_cC R3.m hlt)
            clear R3
            generalize (scanV f).cC k = tc at HR ⊢
            go_wp2_with fail
            go_roundw
            case rel => exact ⟨k + 1, by omega, by go_num, by rw [show 54 + (k + 1) * 3 = 54 + k * 3 + 1 + 2 by omega]; exact HR.out⟩
            case measure => simp [intOf]; omega
        · obtain rfl : k = 16 := by omega
          have HR : Hid (Reading xs 102 (scanQ f 16 16 16 16 16 16) w wr u0) := R
          clear R
          go_wp2_with fail
          try rw [show ((16 : Nat) : Int) = 16 from rfl]
          go_loopw [0, 7] (fun dv iv wr => ∃ k : Nat, k ≤ 16 ∧ iv = .int .i64 ((16 + k : Nat) : Int) ∧ Reading xs (102 + k * 2) (scanQ f 16 16 16 16 16 (16 + k)) w wr dv) (fun _ iv _ => 32 - (intOf iv).toNat)
          case atStart => exact ⟨0, by omega, rfl, HR.out⟩
          case round =>
            clear HR
            obtain ⟨k, hk, rfl, R⟩ := hrel
            have HR : Hid (Reading xs (102 + k * 2) (scanQ f 16 16 16 16 16 (16 + k)) w wr u0) := R
            obtain ⟨c, hc⟩ : ∃ c, c = 16 + k := ⟨_, rfl⟩
            rw [← hc] at HR ⊢
            have HC : Hid (c = 16 + k) := hc
            clear R hc
            by_cases hlt : k < 16
            · have hlt' : (c : Int) < 32 := by have := HC.out; omega
              go_wp2_with fail
              refine (in2 _ (xs.drop (102 + k * 2)) _ (fun i => f (102 + k * 2 + i)) HR.out.at (drop_f hf _) (fun _ => hfb _) (by simp; omega) (by simp; omega)).mono ?_
              rintro e w5 ⟨rfl, b5⟩
              have R3 := HR.out.cut (l := 2) (by omega) b5
              clear HR b5
              obtain ⟨y, hy⟩ : ∃ y, y = num (fun i => f (102 + k * 2 + i)) 2 := ⟨_, rfl⟩
              have y1 : y < 65536 := by rw [hy]; exact num_lt (fun _ => hfb _) 2
              have y2 : (scanV f).d c = sgn y := by rw [scan_d, if_neg (by have := HC.out; omega), hy, num2, show c - 16 = k by have := HC.out; omega]; rfl
              rw [← hy]
              clear hy
              have y3 : IntKind.i16.wrap (y : Int) = (scanV f).d c := by
                rw [y2]
                unfold sgn
                have : IntKind.i16.wrap (y : Int) = ((y : Int) + 32768) % 65536 - 32768 := wrap16k _
                rw [this]
                split <;> omega
              obtain ⟨u2, c2⟩ : ∃ u, w5.cell? ⟨w.heap.size + 1, 85 + c, none⟩ = some u := ⟨_, R3.m.c _ (by omega)⟩
              have f2 := R3.m.f (85 + c) (by omega)
              generalize cutV 2 u0 = v9 at R3 ⊢
              have HR : Hid (Reading xs (102 + k * 2 + 2) (scanQ f 16 16 16 16 16 (c + 1)) w (w5.setCell ⟨w.heap.size + 1, 85 + c, none⟩ (.int .i16 ((scanV f).d c))) v9) := R3.put (put_d R3.m (by have := HC.out; omega) (by have := HC.out; omega))
              clear R3 y2
              generalize (scanV f).d c = z at HR y3
              have y4 : ((y : Int) + 32768) % 65536 - 32768 = z := by rw [← y3]; exact (wrap16k _).symm
              go_wp2_with fail
              go_roundw
              case rel =>
                refine ⟨k + 1, by omega, ?_, by rw [show 102 + (k + 1) * 2 = 102 + k * 2 + 2 by omega, show 16 + (k + 1) = c + 1 by have := HC.out; omega]; exact HR.out⟩
                rw [show ((16 + (k + 1) : Nat) : Int) = (c : Int) + 1 by have := HC.out; omega]
              case measure => simp [intOf]; omega
            · obtain rfl : k = 16 := by omega
              obtain rfl : c = 32 := HC.out
              have L9 := load_mem HR.out.m
              have L10 := store_mem (scanQ f 16 16 16 16 16 32) HR.out.r
              have HF : Hid (MemAt w.heap.size (scanQ f 16 16 16 16 16 32) _ ∧ Below w.heap.size w _) := ⟨HR.out.r.stored (scanQ f 16 16 16 16 16 32), setCells_below (scanQ f 16 16 16 16 16 32).row.toList w.heap.size 0 HR.out.b (Nat.le_refl _)⟩
              clear HR
              go_wp2_with (first | (refine list_load (t := 57) (x := .pointer (some ⟨w.heap.size + 1, 0, none⟩)) (u := .agg (scanQ f 16 16 16 16 16 32).row) rfl rfl rfl L9 ?_) | refine list_store (t := 57) (x := .pointer (some ⟨w.heap.size, 0, none⟩)) (u := .agg (scanQ f 16 16 16 16 16 32).row) rfl rfl rfl rfl L10 ?_)
              exact ret_mem (c := 2) rfl rfl rfl HF.out.1 ⟨by rw [scan_last], HF.out.2⟩

end Go.Proofs.Ytdhoimjkgicneab

/- What was kept, read by the program: its answer. -/
namespace Go.Proofs.Ytdhoimjkgicneab
open Go Go.RowKit

attribute [local go_sem] zMemK

theorem ret_mb {fn : Func} {R : Ending → World → Prop} {a : Act} {w : World} {b c c' : Nat} {v : MemV} {t : Bool} (hf : fn.results = #[.cell c 57, .tmp c']) (hc : a.tmps.getD c undef = .pointer (some ⟨b, 0, none⟩)) (hc' : a.tmps.getD c' undef = .bool t)
    (hd : a.defers = []) (h : MemAt b v w) (hR : R (.returned (.tuple #[.agg v.row, .bool t])) w) : bodyPost Try.prog fn R .ret a w := by
  refine ⟨hd, .tuple #[.agg v.row, .bool t], ?_, hR⟩
  have hl : (loadVar 57 ⟨b, 0, none⟩).run Try.prog w = .ok (.agg v.row) w := by
    have := load_mem h
    simpa only [Instr.loadAt, Instr.sureAddr, Sem.run_bind, Sem.run_pure, Result.andThen] using this
  have e1 : a.tmps[c]?.getD undef = .pointer (some ⟨b, 0, none⟩) := by simpa using hc
  have e2 : a.tmps[c']?.getD undef = .bool t := by simpa using hc'
  simp [results, hf, e1, e2, asAddr, hl]

theorem built_none : Try.prog.built 57 [] = some mem0.row := by rw [built_mem]; rfl

set_option maxRecDepth 100000 in
set_option maxHeartbeats 1600000 in
theorem impl_back (v : Value) (xs : List Nat) (f : Nat → Nat) (w : World) (h : BytesAt v xs w) (hf : ∀ i x, xs[i]? = some x → f i = x) (hfb : ∀ k, f k ≤ 255) (hl2 : xs.length ≤ 100000000) (t : Bool) (ht : t = true ↔ xs.length = 134 ∧ Flags f) :
    Calls Try.prog 23 #[v] w fun e w' => e = .returned (.tuple #[.agg (if t then (scanV f).row else mem0.row), .bool t]) ∧ Below w.heap.size w w' := by
  have M0 := MemAt.alloc mem0 w 57
  have B0 : Below w.heap.size w (w.alloc (.cells mem0.row 57)) := (Below.refl _ _).alloc (Nat.le_refl _) _
  obtain ⟨aa, cap, rfl⟩ := h.len
  obtain ⟨n, hn⟩ : ∃ n, n = xs.length := ⟨_, rfl⟩
  have H : Hid (BytesAt (.slice aa n cap) xs w ∧ n = xs.length) := ⟨by rw [hn]; exact h, hn⟩
  rw [← hn] at hl2 ⊢
  by_cases hl : xs.length = 134
  · obtain rfl : n = 134 := hn.trans hl
    clear h hn
    go_enter Try.func23, Try.ntmps23
    go_upto_region 1 with fail
    have HM : Hid (MemAt w.heap.size mem0 _ ∧ Below w.heap.size w _) := ⟨M0, B0⟩
    clear M0 B0
    generalize w.alloc (.cells mem0.row 57) = w1 at HM ⊢
    go_wp2_with fail
    refine (impl_scan _ xs f w1 (H.out.1.below HM.out.2 (Nat.le_refl _)) hf hfb hl).mono ?_
    rintro e w2 ⟨rfl, b2⟩
    obtain ⟨r, hr⟩ : ∃ r, r = scanV f := ⟨_, rfl⟩
    have rok : r.Ok := hr ▸ scanV_ok hfb
    have hpre := scan_make hfb
    have HR0 : Hid (r = scanV f) := hr
    rw [← hr] at hpre ⊢
    clear hr
    have m2 := MemAt.alloc mem0 w2 57
    have m3 := m2.stored r
    have b3 : Below w2.heap.size w2 ((w2.alloc (.cells mem0.row 57)).setCells w2.heap.size 0 r.row.toList) := setCells_below _ _ _ ((Below.refl _ _).alloc (Nat.le_refl _) _) (Nat.le_refl _)
    have b13 := b2.trans (b3.mono b2.size)
    have H3 : Hid (MemAt w2.heap.size r _ ∧ MemAt w.heap.size mem0 _ ∧ Below w.heap.size w _) := ⟨m3, HM.out.1.below b13 HM.out.1.z, HM.out.2.trans (b13.mono HM.out.2.size)⟩
    have L1 := store_mem r m2
    have L2 := load_mem H3.out.1
    clear m2 m3 b3 b13 b2 HM
    go_upto_region 4 with (refine list_store (t := 57) (x := .pointer (some ⟨w2.heap.size, 0, none⟩)) (u := .agg r.row) rfl rfl rfl rfl L1 ?_)
    simp only [Act.put]
    clear L1
    generalize (w2.alloc (.cells mem0.row 57)).setCells w2.heap.size 0 r.row.toList = w3 at H3 L2 ⊢
    generalize w2.heap.size = q at H3 L2 ⊢
    go_wp2_with (refine list_load (t := 57) (x := .pointer (some ⟨q, 0, none⟩)) (u := .agg r.row) rfl rfl rfl L2 ?_)
    clear L2
    refine (impl_make r w3 rok).mono ?_
    rintro e w4 ⟨o, rfl, own4, b4⟩
    have H4 : Hid (Own w3.heap.size o (pre r 134) w4 ∧ Below w3.heap.size w3 w4) := ⟨own4, b4⟩
    clear own4 b4
    go_wp2_with fail
    refine (impl_array o (pre r 134) (keptByte r) w4 H4.out.1.at (fun i x hx => by
      have hi : i < 134 := by have := (List.getElem?_eq_some_iff.1 hx).1; rwa [pre_len] at this
      rw [pre_get r hi] at hx
      exact Option.some.inj hx) (pre_len r 134)).mono ?_
    rintro e w5 ⟨rfl, b5⟩
    have H5 : Hid (Below w3.heap.size w3 w5) := H4.out.2.trans (b5.mono H4.out.2.size)
    clear b5 H4
    go_wp2_with fail
    refine (impl_array _ xs f w5 (H.out.1.below (H3.out.2.2.trans (H5.out.mono H3.out.2.2.size)) (Nat.le_refl _)) hf hl).mono ?_
    rintro e w6 ⟨rfl, b6⟩
    have H6 : Hid (Below w3.heap.size w3 w6) := H5.out.trans (b6.mono H5.out.size)
    clear b6 H5
    obtain ⟨q2, Q1, Q2⟩ := eql_arr_all (fun i => ((keptByte r i : Nat) : Int)) (fun i => ((f i : Nat) : Int)) w6
    have hq : q2 = t := by
      rw [Bool.eq_iff_iff, ht, Q2, ← hpre]
      constructor
      · exact fun h => ⟨hl, fun k hk => by have := h k hk; omega⟩
      · exact fun h k hk => by rw [h.2 k hk]
    subst hq
    have Q1' : ∀ w, (binOp .neq 105 (.agg (rowOf (cellB (keptByte r)) 134)) (.agg (rowOf (cellB f) 134))).run Try.prog w = .ok (.bool (!q2)) w := Q1
    clear Q1 Q2 hpre ht
    have M6 := H3.out.2.1.below H6.out H3.out.2.1.z
    have R6 := H3.out.1.below H6.out H3.out.1.z
    have B6 := H3.out.2.2.trans (H6.out.mono H3.out.2.2.size)
    clear H3 H6
    cases q2 with
    | true =>
      have L9 := load_mem R6
      have L10 := store_mem r M6
      have HF : Hid (MemAt w.heap.size r _ ∧ Below w.heap.size w _) := ⟨M6.stored r, setCells_below r.row.toList w.heap.size 0 B6 (Nat.le_refl _)⟩
      clear M6 R6 B6
      go_wp2_with (first | (refine list_bin (t := 105) rfl rfl rfl rfl (run_eqGuard_agg _ _ _ _ _ _ _ (by kernel_rfl)) (Q1' _) ?_) | (refine list_load (t := 57) (x := .pointer (some ⟨q, 0, none⟩)) (u := .agg r.row) rfl rfl rfl L9 ?_) | refine list_store (t := 57) (x := .pointer (some ⟨w.heap.size, 0, none⟩)) (u := .agg r.row) rfl rfl rfl rfl L10 ?_)
      exact ret_mb (c := 2) (c' := 3) rfl rfl rfl rfl HF.out.1 ⟨by rw [HR0.out], HF.out.2⟩
    | false =>
      have L10 := store_mem mem0 M6
      have HF : Hid (MemAt w.heap.size mem0 _ ∧ Below w.heap.size w _) := ⟨M6.stored mem0, setCells_below mem0.row.toList w.heap.size 0 B6 (Nat.le_refl _)⟩
      clear M6 R6 B6
      go_wp2_with (first | (refine list_bin (t := 105) rfl rfl rfl rfl (run_eqGuard_agg _ _ _ _ _ _ _ (by kernel_rfl)) (Q1' _) ?_) | refine list_build (t := 57) (cells := mem0.row) (l := []) rfl rfl (by simp) built_none ?_ | refine list_store (t := 57) (x := .pointer (some ⟨w.heap.size, 0, none⟩)) (u := .agg mem0.row) rfl rfl rfl rfl L10 ?_)
      exact ret_mb (c := 2) (c' := 3) rfl rfl rfl rfl HF.out.1 ⟨rfl, HF.out.2⟩
  · obtain rfl : t = false := by
      cases t
      · rfl
      · exact absurd (ht.1 rfl).1 hl
    have hne : ¬ (n : Int) = 134 := by omega
    have hne2 : ((n : Int) == 134) = false := by simpa using hne
    clear h hn ht
    go_enter Try.func23, Try.ntmps23
    go_upto_region 1 with fail
    have L10 := store_mem mem0 M0
    have HF : Hid (MemAt w.heap.size mem0 _ ∧ Below w.heap.size w _) := ⟨M0.stored mem0, setCells_below mem0.row.toList w.heap.size 0 B0 (Nat.le_refl _)⟩
    clear M0 B0
    generalize w.alloc (.cells mem0.row 57) = w1 at HF L10 ⊢
    go_wp2_with (first | refine list_build (t := 57) (cells := mem0.row) (l := []) rfl rfl (by simp) built_none ?_ | refine list_store (t := 57) (x := .pointer (some ⟨w.heap.size, 0, none⟩)) (u := .agg mem0.row) rfl rfl rfl rfl L10 ?_)
    exact ret_mb (c := 2) (c' := 3) rfl rfl rfl rfl HF.out.1 ⟨rfl, HF.out.2⟩

end Go.Proofs.Ytdhoimjkgicneab
