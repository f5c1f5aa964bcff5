/- The program's own reading of a real number: powers of two. -/
import Derived.Test.YtdhoimjkgicneaaDoorTxtE
namespace Go.Proofs.YtdhoimjkgicneaaDoor
open Go Go.RowKit

/-- What the program's powers of two leave: some word; and which. -/
def TimesAny (w : World) (r : Ending) (w' : World) : Prop := ∃ z d, r = .returned (.float .f64 z) ∧ w' = w.drewN d
def TimesFin (s : Bool) (n c : Nat) (w : World) (r : Ending) (w' : World) : Prop := ∃ z m k, r = .returned (.float .f64 z) ∧ Num z s m k ∧ m * 2 ^ k = n * 2 ^ c ∧ w' = w

set_option maxHeartbeats 400000 in
theorem times_any (x : Nat) (e : Int) (w : World) (h1 : -1074 ≤ e) (h2 : e ≤ 1023) :
    Calls Tryd.prog 127 #[.float .f64 x, .int .i64 e] w (TimesAny w) := by
  go_enter Tryd.func127, Tryd.ntmps127
  go_wp2
  go_loopw [0, 1] (fun f i wr => ∃ (g : Nat) (k : Int) (d : Nat), f = .float .f64 g ∧ i = .int .i64 k ∧ -1074 ≤ k ∧ k ≤ 1023 ∧ wr = w.drewN d) (fun _ i _ => (intOf i).toNat)
  case atStart => exact ⟨x, e, 0, rfl, rfl, h1, h2, rfl⟩
  case round =>
    obtain ⟨g, k, d, rfl, rfl, k1, k2, rfl⟩ := hrel
    by_cases hlt : 0 < k
    · have q := mul_any Tryd.prog g 4611686018427387904
      go_wp2
      go_roundw
      case rel => exact ⟨_, k - 1, _, rfl, by go_num, by omega, by omega, rfl⟩
      case measure => simp [intOf]; omega
    · go_wp2
      go_loopw [0, 1] (fun f i wr => ∃ (g : Nat) (k : Int) (d : Nat), f = .float .f64 g ∧ i = .int .i64 k ∧ -1074 ≤ k ∧ k ≤ 0 ∧ wr = w.drewN d) (fun _ i _ => (-(intOf i)).toNat)
      case atStart => exact ⟨g, k, d, rfl, rfl, k1, by omega, rfl⟩
      case round =>
        obtain ⟨g, k, d, rfl, rfl, k1, k2, rfl⟩ := hrel
        by_cases hlt : k < 0
        · have q := quo_any Tryd.prog g 4611686018427387904
          go_wp2
          go_roundw
          case rel => exact ⟨_, k + 1, _, rfl, by go_num, by omega, by omega, rfl⟩
          case measure => simp [intOf]; omega
        · go_wp2
          go_ret
          exact ⟨_, _, rfl, rfl⟩

theorem up_step {g m k n q : Nat} {s : Bool} (h : Num g s m k) (hv : m * 2 ^ k = n * 2 ^ q) (hb : n * 2 ^ (q + 1) < 2 ^ u98) :
    ∃ r m' k', floatBits .mul .f64 g 4611686018427387904 = some r ∧ Num r s m' k' ∧ m' * 2 ^ k' = n * 2 ^ (q + 1) := by
  have e : m * 2 ^ (k + 1) = n * 2 ^ (q + 1) := by rw [Nat.pow_succ, ← Nat.mul_assoc, hv, Nat.pow_succ, Nat.mul_assoc]
  obtain ⟨r, m', k', r1, r2, r3⟩ := mul_two h (by rw [e]; exact hb)
  exact ⟨r, m', k', r1, r2, by rw [r3, e]⟩

theorem down_step {g m k n q : Nat} {s : Bool} (h : Num g s m k) (hv : m * 2 ^ k = n * 2 ^ (q + 1)) (hn : n < 9007199254740992) :
    ∃ r m' k', floatBits .quo .f64 g 4611686018427387904 = some r ∧ Num r s m' k' ∧ m' * 2 ^ k' = n * 2 ^ q :=
  div_two h hv hn

theorem pow_bound {n c q : Nat} (h : n * 2 ^ c < 2 ^ u98) (hq : q ≤ c) : n * 2 ^ q < 2 ^ u98 :=
  Nat.lt_of_le_of_lt (Nat.mul_le_mul_left _ (Nat.pow_le_pow_right (by omega) hq)) h

set_option maxHeartbeats 800000 in
theorem times_fin (g0 m0 k0 n c : Nat) (s : Bool) (w : World) (h : Num g0 s m0 k0) (hv : m0 * 2 ^ k0 = n * 2 ^ u74) (hn : n < 9007199254740992) (hc : n * 2 ^ c < 2 ^ u98) (hc2 : c < 2098) :
    Calls Tryd.prog 127 #[.float .f64 g0, .int .i64 ((c : Int) - 1074)] w (TimesFin s n c w) := by
  have HC : Hid (n * 2 ^ c < 2 ^ u98) := hc
  have H0 : Hid (Num g0 s m0 k0 ∧ m0 * 2 ^ k0 = n * 2 ^ u74) := ⟨h, hv⟩
  have hu := u74_eq
  obtain ⟨u, hue⟩ : ∃ u, u = u74 := ⟨_, rfl⟩
  rw [← hue] at hu H0
  clear hc h hv hue
  go_enter Tryd.func127, Tryd.ntmps127
  go_wp2
  go_loop [0, 1] (fun f i => ∃ g m k q : Nat, f = .float .f64 g ∧ i = .int .i64 ((c : Int) - q) ∧ Num g s m k ∧ m * 2 ^ k = n * 2 ^ q ∧ u ≤ q ∧ (q ≤ c ∨ q = u)) (fun _ i => (intOf i).toNat)
  case atStart => exact ⟨g0, m0, k0, u, rfl, by rw [hu]; rfl, H0.out.1, H0.out.2, by omega, Or.inr rfl⟩
  case round =>
    obtain ⟨g, m, k, q, rfl, rfl, hN, hV, hq1, hq2⟩ := hrel
    by_cases hlt : q < c
    · obtain ⟨r, m', k', r1, r2, r3⟩ := up_step hN hV (pow_bound HC.out (by omega))
      have f : ∀ t w, (binOp .mul t (.float .f64 g) (.float .f64 4611686018427387904)).run Tryd.prog w = .ok (.float .f64 r) w := fun t w => run_float_arith w .mul t .f64 _ _ _ r1
      have R : Hid (Num r s m' k' ∧ m' * 2 ^ k' = n * 2 ^ (q + 1)) := ⟨r2, r3⟩
      clear r1 r2 r3 hN hV
      go_wp2
      go_round
      case rel => exact ⟨r, m', k', q + 1, rfl, by go_num, R.out.1, R.out.2, by omega, by omega⟩
      case measure => simp [intOf]; omega
    · have R0 : Hid (Num g s m k ∧ m * 2 ^ k = n * 2 ^ q) := ⟨hN, hV⟩
      clear hN hV HC H0
      go_wp2
      go_loop [0, 1] (fun f i => ∃ g m k q : Nat, f = .float .f64 g ∧ i = .int .i64 ((c : Int) - q) ∧ Num g s m k ∧ m * 2 ^ k = n * 2 ^ q ∧ c ≤ q ∧ q ≤ 2098) (fun _ i => (-(intOf i)).toNat)
      case atStart => exact ⟨g, m, k, q, rfl, rfl, R0.out.1, R0.out.2, by omega, by omega⟩
      case round =>
        obtain ⟨g, m, k, q, rfl, rfl, hN, hV, hq1, hq2⟩ := hrel
        by_cases hlt : c < q
        · obtain ⟨p, hp⟩ : ∃ p, q = p + 1 := ⟨q - 1, by omega⟩
          rw [hp] at hV
          obtain ⟨r, m', k', r1, r2, r3⟩ := down_step hN hV hn
          have f : ∀ t w, (binOp .quo t (.float .f64 g) (.float .f64 4611686018427387904)).run Tryd.prog w = .ok (.float .f64 r) w := fun t w => run_float_arith w .quo t .f64 _ _ _ r1
          have R : Hid (Num r s m' k' ∧ m' * 2 ^ k' = n * 2 ^ p) := ⟨r2, r3⟩
          clear r1 r2 r3 hN hV hn
          go_wp2
          go_round
          case rel => exact ⟨r, m', k', p, rfl, by go_num, R.out.1, R.out.2, by omega, by omega⟩
          case measure => simp [intOf]; omega
        · have e : q = c := by omega
          subst e
          have R1 : Hid (Num g s m k ∧ m * 2 ^ k = n * 2 ^ q) := ⟨hN, hV⟩
          clear hN hV
          go_wp2
          go_ret
          exact ⟨g, m, k, rfl, R1.out.1, R1.out.2, rfl⟩

end Go.Proofs.YtdhoimjkgicneaaDoor
