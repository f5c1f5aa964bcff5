/- The specification's reading of a real number above nought, walked. -/
import Derived.Test.YtdhoimjkgicneaaDoorTxtM
import Derived.Test.YtdhoimjkgicneaaDoorRealA
namespace Go.Proofs.YtdhoimjkgicneaaDoor
open Go Go.RowKit

theorem num_below_inf {g m k : Nat} (h : Num g false m k) : (FloatKind.f64.format.order g 9218868437227405312 == some .lt) = true := by
  have r : Ieee.double.read 9218868437227405312 = .infinity false := by decide +kernel
  have : FloatKind.f64.format.order g 9218868437227405312 = some .lt := by
    show Ieee.double.order g _ = _
    simp only [Ieee.Format.order, h.read, r, Ieee.Datum.order]
    rfl
  rw [this]; rfl
theorem inf_below_inf {g : Nat} (h : Ieee.double.read g = .infinity false) : (FloatKind.f64.format.order g 9218868437227405312 == some .lt) = false := by
  have r : Ieee.double.read 9218868437227405312 = .infinity false := by decide +kernel
  have : FloatKind.f64.format.order g 9218868437227405312 = some .eq := by
    show Ieee.double.order g _ = _
    simp [Ieee.Format.order, h, r, Ieee.Datum.order]
  rw [this]; rfl

/-- A number, or too great for one. -/
def NumInf (g n q : Nat) : Prop := (∃ m k, Num g false m k ∧ m * 2 ^ k = n * 2 ^ q) ∨ (Ieee.double.read g = .infinity false ∧ ¬ n * 2 ^ q < 2 ^ u98)

theorem numinf_step {g n q : Nat} (h : NumInf g n q) : ∃ r, floatBits .mul .f64 g 4611686018427387904 = some r ∧ NumInf r n (q + 1) := by
  rcases h with ⟨m, k, h, hv⟩ | ⟨h, hv⟩
  · by_cases hb : n * 2 ^ (q + 1) < 2 ^ u98
    · obtain ⟨r, m', k', r1, r2, r3⟩ := up_step h hv hb
      exact ⟨r, r1, Or.inl ⟨m', k', r2, r3⟩⟩
    · have e : m * 2 ^ (k + 1) = n * 2 ^ (q + 1) := by rw [Nat.pow_succ, ← Nat.mul_assoc, hv, Nat.pow_succ, Nat.mul_assoc]
      obtain ⟨r, r1, r2⟩ := mul_two_over h (by rw [e]; exact hb)
      exact ⟨r, r1, Or.inr ⟨r2, hb⟩⟩
  · obtain ⟨r, r1, r2⟩ := mul_two_inf h
    refine ⟨r, r1, Or.inr ⟨r2, ?_⟩⟩
    intro hb
    apply hv
    exact pow_bound hb (by omega)

set_option maxHeartbeats 2000000 in
theorem l2_good (s : ByteArray) (w : World) (hs : s.size ≤ 1000) (i N c : Nat) (hf : fndSZ s.data.toList = i) (hi4 : i + 4 ≤ s.size) (hx : ((s.extract i (i + 3)).toList == [42, 50, 94]) = true)
    (hN1 : 1 ≤ N) (hN2 : N < 9007199254740992) (hN3 : N % 2 = 1) (hc : c ≤ 2097) (hA : (s.extract 0 i).data.toList = Lib.itoa N) (hB : (s.extract (i + 3) s.size).data.toList = Lib.itoa ((c : Int) - 1074))
    (hl : s.data.toList = finL false N c) :
    Calls Tryd.prog 82 #[.string s] w (L2Of s.data.toList w) := by
  have HF : Hid (fndSZ s.data.toList = i) := hf
  have HA : Hid ((s.extract 0 i).data.toList = Lib.itoa N) := hA
  have HB : Hid ((s.extract (i + 3) s.size).data.toList = Lib.itoa ((c : Int) - 1074)) := hB
  have HLl : Hid (s.data.toList = finL false N c) := hl
  obtain ⟨m0, k0, f1, f2⟩ := num_int (N : Int) (by omega)
  rw [show decide ((N : Int) < 0) = false from by simp] at f1
  have F0 : Hid (NumInf (floatOfInt .f64 N) N u74) := Or.inl ⟨m0, k0, f1, by simpa using f2⟩
  have hev : ((N : Int) % 2 == 0) = false := by simp; omega
  obtain ⟨u, hue⟩ : ∃ u, u = u74 := ⟨_, rfl⟩
  have hu : u = 1074 := by rw [hue]; exact u74_eq
  rw [← hue] at F0
  clear hf hA hB hl f1 f2 hue
  have i0 : decide ((i : Int) < 0) = false := by simp
  have i4 : decide ((s.size : Int) < (i : Int) + 4) = false := by simp; omega
  go_enter Tryd.func82, Tryd.ntmps82
  go_wp2_with fail
  refine (find_star s w hs).mono ?_
  rintro e w1 ⟨rfl, rfl⟩
  rw [HF.out]
  go_wp2_with fail
  refine (num_all (s.extract 0 i) w1 (by simp; omega)).mono ?_
  rintro e w2 ⟨hr, rfl⟩
  have hr2 : e = .returned (.tuple #[.int .i64 N, .bool true]) := by
    rcases hr with ⟨v, h1, h2, -⟩ | ⟨-, h2⟩
    · rw [HA.out] at h2
      rw [h1, itoa_inj h2]
    · exact absurd HA.out (h2 N (by omega))
  subst hr2
  clear hr
  go_wp2_with fail
  refine (num_all (s.extract (i + 3) s.size) w2 (by simp; omega)).mono ?_
  rintro e w3 ⟨hr, rfl⟩
  have hr2 : e = .returned (.tuple #[.int .i64 ((c : Int) - 1074), .bool true]) := by
    rcases hr with ⟨v, h1, h2, -⟩ | ⟨-, h2⟩
    · rw [HB.out] at h2
      rw [h1, itoa_inj h2]
    · exact absurd HB.out (h2 _ (by omega))
  subst hr2
  clear hr
  go_wp2_with fail
  go_loop [9, 10] (fun f i => ∃ g j : Nat, f = .float .f64 g ∧ i = .int .i64 j ∧ NumInf g N (u + j) ∧ (u + j ≤ c ∨ j = 0)) (fun _ i => 2000 - (intOf i).toNat)
  case atStart => exact ⟨_, 0, rfl, rfl, F0.out, Or.inr rfl⟩
  case round =>
    obtain ⟨g, j, rfl, rfl, hg, hj⟩ := hrel
    by_cases hlt : u + j < c
    · obtain ⟨r, r1, r2⟩ := numinf_step hg
      have f : ∀ t w, (binOp .mul t (.float .f64 g) (.float .f64 4611686018427387904)).run Tryd.prog w = .ok (.float .f64 r) w := fun t w => run_float_arith w .mul t .f64 _ _ _ r1
      have R : Hid (NumInf r N (u + (j + 1))) := r2
      clear r1 r2 hg
      go_wp2
      go_round
      case rel => exact ⟨r, j + 1, rfl, by go_num, R.out, by omega⟩
      case measure => simp [intOf]; omega
    · have R0 : Hid (NumInf g N (u + j)) := hg
      clear hg
      go_wp2_with fail
      go_loop [9, 11] (fun f i => ∃ g t : Nat, f = .float .f64 g ∧ i = .int .i64 (-(t : Int)) ∧ NumInf g N (u + j - t) ∧ (c ≤ u + j - t) ∧ t ≤ u + j) (fun _ i => (2000 + (intOf i)).toNat)
      case atStart => exact ⟨g, 0, rfl, by simp, R0.out, by omega, by omega⟩
      case round =>
        obtain ⟨g, t, rfl, rfl, hg, ht1, ht2⟩ := hrel
        by_cases hlt2 : c + t < u
        · have hj0 : j = 0 := by omega
          obtain ⟨p, hp⟩ : ∃ p, u + j - t = p + 1 := ⟨u + j - t - 1, by omega⟩
          have hfin : ∃ m k, Num g false m k ∧ m * 2 ^ k = N * 2 ^ (p + 1) := by
            rcases hg with h | ⟨-, h⟩
            · rw [hp] at h; exact h
            · exfalso
              apply h
              rw [hp]
              exact small_lt hN2 (by omega)
          obtain ⟨m, k, hn, hv⟩ := hfin
          obtain ⟨r, m', k', r1, r2, r3⟩ := down_step hn hv hN2
          have f : ∀ t w, (binOp .quo t (.float .f64 g) (.float .f64 4611686018427387904)).run Tryd.prog w = .ok (.float .f64 r) w := fun t w => run_float_arith w .quo t .f64 _ _ _ r1
          have R : Hid (NumInf r N (u + j - (t + 1))) := by
            have e : u + j - (t + 1) = p := by omega
            show NumInf r N (u + j - (t + 1))
            rw [e]; exact Or.inl ⟨m', k', r2, r3⟩
          clear r1 r2 r3 hn hv hg hp
          go_wp2
          go_round
          case rel => exact ⟨r, t + 1, rfl, by go_num, R.out, by omega, by omega⟩
          case measure => simp [intOf]; omega
        · have R1 : Hid (NumInf g N c) := by
            have e : u + j - t = c := by omega
            rw [e] at hg; exact hg
          clear hg
          go_wp2_with fail
          refine (inf_any _).mono ?_
          rintro e w4 ⟨rfl, rfl⟩
          rcases R1.out with ⟨m, k, hn, hv⟩ | ⟨hn, hv⟩
          · have hlt3 := num_below_inf hn
            have H : Hid (Num g false m k ∧ m * 2 ^ k = N * 2 ^ c) := ⟨hn, hv⟩
            clear hn hv
            go_wp2_with fail
            go_ret2
            exact ⟨Or.inl ⟨g, N, c, m, k, rfl, ⟨HLl.out, hN3, hN2, by rw [← H.out.2]; exact H.out.1.lt98, by omega⟩, H.out.1, H.out.2⟩, rfl⟩
          · have hlt3 := inf_below_inf hn
            have H : Hid (¬ N * 2 ^ c < 2 ^ u98) := hv
            clear hn hv
            go_wp2_with fail
            go_ret2
            refine l2_no ?_
            rintro n' c' ⟨e1, -, -, e4, -⟩
            rw [HLl.out] at e1
            obtain ⟨-, rfl, rfl⟩ := finL_inj e1
            exact H.out e4

end Go.Proofs.YtdhoimjkgicneaaDoor
