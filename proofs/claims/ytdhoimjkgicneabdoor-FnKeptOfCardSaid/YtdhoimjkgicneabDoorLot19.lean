/- Texts of this proof laid together: KepP, HolP. -/
import Derived.Test.YtdhoimjkgicneabDoorLot1
import Derived.WalkKit
/- What is kept of a memory, as a memory and as 134 bytes; bytes read as a memory. Of no one program. -/
namespace Go.Proofs.YtdhoimjkgicneabDoor
open Go Go.RowKit

/-- What is kept of a memory. -/
def keptV (v : MemV) : MemV := ⟨0, 0, v.m / 4294967296 * 4294967296, v.s, 0, v.tD, v.tC, v.cD, v.cL, v.cC, fun i => if i < 16 then 0 else v.d i, fun _ => 0, 0, false, false⟩

theorem kept_m (v : MemV) : (keptV v).m = v.m / 4294967296 * 4294967296 := rfl
theorem kept_d (v : MemV) (i : Nat) : (keptV v).d i = if i < 16 then 0 else v.d i := rfl

theorem keptV_ok {v : MemV} (h : v.Ok) : (keptV v).Ok := by
  refine ⟨by show 0 < _; decide, by show 0 < _; decide, ?_, h.s, by show 0 < _; decide, h.tC, h.cC, fun i => ?_, fun i => ?_, fun i => by show 0 < _; decide, by show 0 < _; decide⟩
  · rw [kept_m]
    have := h.m
    omega
  · rw [kept_d]
    have := h.d1 i
    split <;> omega
  · rw [kept_d]
    have := h.d2 i
    split <;> omega

theorem keptV_twice (v : MemV) : keptV (keptV v) = keptV v := by
  have e1 : v.m / 4294967296 * 4294967296 / 4294967296 * 4294967296 = v.m / 4294967296 * 4294967296 := by omega
  have e2 : (fun i => if i < 16 then (0 : Int) else if i < 16 then 0 else v.d i) = fun i => if i < 16 then 0 else v.d i := by
    funext i; split <;> rfl
  show (⟨_, _, _, _, _, _, _, _, _, _, _, _, _, _, _⟩ : MemV) = ⟨_, _, _, _, _, _, _, _, _, _, _, _, _, _, _⟩
  exact (MemV.mk.injEq ..).mpr ⟨rfl, rfl, e1, rfl, rfl, rfl, rfl, rfl, rfl, rfl, e2, rfl, rfl, rfl, rfl⟩

def bit1 (a : Bool) : Nat := if a then 1 else 0
def bit2 (a b : Bool) : Nat := bit1 a + 2 * bit1 b
theorem bit1_le (a : Bool) : bit1 a ≤ 1 := by cases a <;> decide
theorem bit2_le (a b : Bool) : bit2 a b ≤ 3 := by cases a <;> cases b <;> decide

/-- A register as a number without a sign. -/
def unsg (z : Int) : Nat := (z % 65536).toNat
theorem unsg_lt (z : Int) : unsg z < 65536 := by unfold unsg; omega

/-- Its bytes. -/
def keptByte (v : MemV) (k : Nat) : Nat :=
  if k = 0 then v.m / 4294967296 % 256 else if k = 1 then v.m / 4294967296 / 256 % 256 else if k = 2 then v.m / 4294967296 / 256 / 256 % 256 else if k = 3 then v.m / 4294967296 / 256 / 256 / 256 % 256
  else if k = 4 then v.s % 256 else if k = 5 then v.s / 256 % 256
  else if k < 54 then (if (k - 6) % 3 = 0 then bit1 (v.tD ((k - 6) / 3)) else if (k - 6) % 3 = 1 then v.tC ((k - 6) / 3) % 256 else v.tC ((k - 6) / 3) / 256 % 256)
  else if k < 102 then (if (k - 54) % 3 = 0 then bit2 (v.cD ((k - 54) / 3)) (v.cL ((k - 54) / 3)) else if (k - 54) % 3 = 1 then v.cC ((k - 54) / 3) % 256 else v.cC ((k - 54) / 3) / 256 % 256)
  else (if (k - 102) % 2 = 0 then unsg (v.d (16 + (k - 102) / 2)) % 256 else unsg (v.d (16 + (k - 102) / 2)) / 256 % 256)

theorem keptByte_le (v : MemV) (k : Nat) : keptByte v k ≤ 255 := by
  unfold keptByte
  have h1 := bit1_le (v.tD ((k - 6) / 3))
  have h2 := bit2_le (v.cD ((k - 54) / 3)) (v.cL ((k - 54) / 3))
  repeat' split
  all_goals omega

section
variable (v : MemV) (i : Nat)
theorem kb_t0 (h : i < 16) : keptByte v (6 + i * 3) = bit1 (v.tD i) := by
  unfold keptByte
  rw [if_neg (by omega), if_neg (by omega), if_neg (by omega), if_neg (by omega), if_neg (by omega), if_neg (by omega), if_pos (by omega), if_pos (by omega), show (6 + i * 3 - 6) / 3 = i by omega]
theorem kb_t1 (h : i < 16) : keptByte v (6 + i * 3 + 1) = v.tC i % 256 := by
  unfold keptByte
  rw [if_neg (by omega), if_neg (by omega), if_neg (by omega), if_neg (by omega), if_neg (by omega), if_neg (by omega), if_pos (by omega), if_neg (by omega), if_pos (by omega), show (6 + i * 3 + 1 - 6) / 3 = i by omega]
theorem kb_t2 (h : i < 16) : keptByte v (6 + i * 3 + 2) = v.tC i / 256 % 256 := by
  unfold keptByte
  rw [if_neg (by omega), if_neg (by omega), if_neg (by omega), if_neg (by omega), if_neg (by omega), if_neg (by omega), if_pos (by omega), if_neg (by omega), if_neg (by omega), show (6 + i * 3 + 2 - 6) / 3 = i by omega]
theorem kb_c0 (h : i < 16) : keptByte v (54 + i * 3) = bit2 (v.cD i) (v.cL i) := by
  unfold keptByte
  rw [if_neg (by omega), if_neg (by omega), if_neg (by omega), if_neg (by omega), if_neg (by omega), if_neg (by omega), if_neg (by omega), if_pos (by omega), if_pos (by omega), show (54 + i * 3 - 54) / 3 = i by omega]
theorem kb_c1 (h : i < 16) : keptByte v (54 + i * 3 + 1) = v.cC i % 256 := by
  unfold keptByte
  rw [if_neg (by omega), if_neg (by omega), if_neg (by omega), if_neg (by omega), if_neg (by omega), if_neg (by omega), if_neg (by omega), if_pos (by omega), if_neg (by omega), if_pos (by omega), show (54 + i * 3 + 1 - 54) / 3 = i by omega]
theorem kb_c2 (h : i < 16) : keptByte v (54 + i * 3 + 2) = v.cC i / 256 % 256 := by
  unfold keptByte
  rw [if_neg (by omega), if_neg (by omega), if_neg (by omega), if_neg (by omega), if_neg (by omega), if_neg (by omega), if_neg (by omega), if_pos (by omega), if_neg (by omega), if_neg (by omega), show (54 + i * 3 + 2 - 54) / 3 = i by omega]
theorem kb_0 : keptByte v 0 = v.m / 4294967296 % 256 := by unfold keptByte; rw [if_pos rfl]
theorem kb_1 : keptByte v 1 = v.m / 4294967296 / 256 % 256 := by unfold keptByte; rw [if_neg (by decide), if_pos rfl]
theorem kb_2 : keptByte v 2 = v.m / 4294967296 / 256 / 256 % 256 := by unfold keptByte; rw [if_neg (by decide), if_neg (by decide), if_pos rfl]
theorem kb_3 : keptByte v 3 = v.m / 4294967296 / 256 / 256 / 256 % 256 := by unfold keptByte; rw [if_neg (by decide), if_neg (by decide), if_neg (by decide), if_pos rfl]
theorem kb_4 : keptByte v 4 = v.s % 256 := by unfold keptByte; rw [if_neg (by decide), if_neg (by decide), if_neg (by decide), if_neg (by decide), if_pos rfl]
theorem kb_5 : keptByte v 5 = v.s / 256 % 256 := by unfold keptByte; rw [if_neg (by decide), if_neg (by decide), if_neg (by decide), if_neg (by decide), if_neg (by decide), if_pos rfl]
theorem kb_d0 : keptByte v (102 + i * 2) = unsg (v.d (16 + i)) % 256 := by
  unfold keptByte
  rw [if_neg (by omega), if_neg (by omega), if_neg (by omega), if_neg (by omega), if_neg (by omega), if_neg (by omega), if_neg (by omega), if_neg (by omega), if_pos (by omega), show 16 + (102 + i * 2 - 102) / 2 = 16 + i by omega]
theorem kb_d1 : keptByte v (102 + i * 2 + 1) = unsg (v.d (16 + i)) / 256 % 256 := by
  unfold keptByte
  rw [if_neg (by omega), if_neg (by omega), if_neg (by omega), if_neg (by omega), if_neg (by omega), if_neg (by omega), if_neg (by omega), if_neg (by omega), if_neg (by omega), show 16 + (102 + i * 2 + 1 - 102) / 2 = 16 + i by omega]
end

/-- The first of its bytes. -/
def pre (v : MemV) (n : Nat) : List Nat := (List.range n).map (keptByte v)
theorem pre_len (v : MemV) (n : Nat) : (pre v n).length = n := by simp [pre]
theorem pre_succ (v : MemV) (n : Nat) : pre v n ++ [keptByte v n] = pre v (n + 1) := by simp [pre, List.range_succ]
theorem pre_le (v : MemV) (n : Nat) : ∀ x ∈ pre v n, x ≤ 255 := by
  intro x hx
  simp only [pre, List.mem_map] at hx
  obtain ⟨k, -, rfl⟩ := hx
  exact keptByte_le v k
theorem pre_get (v : MemV) {n k : Nat} (h : k < n) : (pre v n)[k]? = some (keptByte v k) := by simp [pre, h]
theorem pre_two (v : MemV) (n : Nat) {x y : Nat} (hx : keptByte v n = x) (hy : keptByte v (n + 1) = y) : pre v n ++ [x, y] = pre v (n + 2) := by
  rw [← hx, ← hy, ← pre_succ v (n + 1), ← pre_succ v n]; simp

/-- A number of sixteen bits with a sign. -/
def sgn (n : Nat) : Int := if n < 32768 then (n : Int) else (n : Int) - 65536

/-- Bytes read. -/
def scanV (f : Nat → Nat) : MemV :=
  ⟨0, 0, (f 0 + 256 * f 1 + 65536 * f 2 + 16777216 * f 3) * 4294967296, f 4 + 256 * f 5, 0, fun i => decide (f (6 + i * 3) % 2 = 1), fun i => f (6 + i * 3 + 1) + 256 * f (6 + i * 3 + 2),
    fun i => decide (f (54 + i * 3) % 2 = 1), fun i => decide (f (54 + i * 3) / 2 % 2 = 1), fun i => f (54 + i * 3 + 1) + 256 * f (54 + i * 3 + 2),
    fun i => if i < 16 then 0 else sgn (f (102 + (i - 16) * 2) + 256 * f (102 + (i - 16) * 2 + 1)), fun _ => 0, 0, false, false⟩

section
variable (f : Nat → Nat) (i : Nat)
theorem scan_m : (scanV f).m = (f 0 + 256 * f 1 + 65536 * f 2 + 16777216 * f 3) * 4294967296 := rfl
theorem scan_s : (scanV f).s = f 4 + 256 * f 5 := rfl
theorem scan_tD : (scanV f).tD i = decide (f (6 + i * 3) % 2 = 1) := rfl
theorem scan_tC : (scanV f).tC i = f (6 + i * 3 + 1) + 256 * f (6 + i * 3 + 2) := rfl
theorem scan_cD : (scanV f).cD i = decide (f (54 + i * 3) % 2 = 1) := rfl
theorem scan_cL : (scanV f).cL i = decide (f (54 + i * 3) / 2 % 2 = 1) := rfl
theorem scan_cC : (scanV f).cC i = f (54 + i * 3 + 1) + 256 * f (54 + i * 3 + 2) := rfl
theorem scan_d : (scanV f).d i = if i < 16 then 0 else sgn (f (102 + (i - 16) * 2) + 256 * f (102 + (i - 16) * 2 + 1)) := rfl
end

theorem sgn_bd {n : Nat} (h : n < 65536) : -32768 ≤ sgn n ∧ sgn n ≤ 32767 := by unfold sgn; split <;> omega
theorem unsg_sgn {n : Nat} (h : n < 65536) : unsg (sgn n) = n := by unfold unsg sgn; split <;> omega
theorem sgn_unsg {z : Int} (h1 : -32768 ≤ z) (h2 : z ≤ 32767) : sgn (unsg z) = z := by unfold unsg sgn; split <;> omega

theorem scanV_ok {f : Nat → Nat} (h : ∀ k, f k ≤ 255) : (scanV f).Ok := by
  have b2 : ∀ i j, f i + 256 * f j < 65536 := fun i j => by have := h i; have := h j; omega
  refine ⟨by show 0 < _; decide, by show 0 < _; decide, ?_, b2 _ _, by show 0 < _; decide, fun i => b2 _ _, fun i => b2 _ _, fun i => ?_, fun i => ?_, fun i => by show 0 < _; decide, by show 0 < _; decide⟩
  · rw [scan_m]
    have := h 0; have := h 1; have := h 2; have := h 3
    omega
  · rw [scan_d]
    split
    · omega
    · exact (sgn_bd (b2 _ _)).1
  · rw [scan_d]
    split
    · omega
    · exact (sgn_bd (b2 _ _)).2

/-- No first byte is too large. -/
def Flags (f : Nat → Nat) : Prop := ∀ i, i < 16 → f (6 + i * 3) ≤ 1 ∧ f (54 + i * 3) ≤ 3

theorem bit1_dec (n : Nat) : bit1 (decide (n % 2 = 1)) = n % 2 := by unfold bit1; by_cases h : n % 2 = 1 <;> simp [h]; omega
theorem bit2_dec (n : Nat) : bit2 (decide (n % 2 = 1)) (decide (n / 2 % 2 = 1)) = n % 4 := by
  unfold bit2
  rw [bit1_dec, show bit1 (decide (n / 2 % 2 = 1)) = n / 2 % 2 from bit1_dec (n / 2)]
  omega

/-- What was read is written as it was, where no first byte is too large. -/
theorem scan_make {f : Nat → Nat} (h : ∀ k, f k ≤ 255) : (∀ k, k < 134 → keptByte (scanV f) k = f k) ↔ Flags f := by
  have t0 : ∀ i, i < 16 → keptByte (scanV f) (6 + i * 3) = f (6 + i * 3) % 2 := fun i hi => by rw [kb_t0 _ i hi, scan_tD]; exact bit1_dec _
  have c0 : ∀ i, i < 16 → keptByte (scanV f) (54 + i * 3) = f (54 + i * 3) % 4 := fun i hi => by rw [kb_c0 _ i hi, scan_cD, scan_cL]; exact bit2_dec _
  constructor
  · intro hk i hi
    have h1 := hk (6 + i * 3) (by omega)
    have h2 := hk (54 + i * 3) (by omega)
    rw [t0 i hi] at h1
    rw [c0 i hi] at h2
    omega
  · intro hF k hk
    have hm : (scanV f).m / 4294967296 = f 0 + 256 * f 1 + 65536 * f 2 + 16777216 * f 3 := by
      rw [scan_m]
      omega
    have b0 := h 0; have b1 := h 1; have b2 := h 2; have b3 := h 3; have b4 := h 4; have b5 := h 5
    by_cases k0 : k = 0
    · subst k0; rw [kb_0, hm]; omega
    by_cases k1 : k = 1
    · subst k1; rw [kb_1, hm]; omega
    by_cases k2 : k = 2
    · subst k2; rw [kb_2, hm]; omega
    by_cases k3 : k = 3
    · subst k3; rw [kb_3, hm]; omega
    by_cases k4 : k = 4
    · subst k4; rw [kb_4, scan_s]; omega
    by_cases k5 : k = 5
    · subst k5; rw [kb_5, scan_s]; omega
    by_cases k6 : k < 54
    · obtain ⟨i, j, hi, hj, rfl⟩ : ∃ i j, i < 16 ∧ j < 3 ∧ k = 6 + i * 3 + j := ⟨(k - 6) / 3, (k - 6) % 3, by omega, by omega, by omega⟩
      have hj : j = 0 ∨ j = 1 ∨ j = 2 := by omega
      have x1 := h (6 + i * 3 + 1); have x2 := h (6 + i * 3 + 2)
      rcases hj with rfl | rfl | rfl
      · rw [Nat.add_zero, t0 i hi]; have := (hF i hi).1; omega
      · rw [kb_t1 _ i hi, scan_tC]; omega
      · rw [kb_t2 _ i hi, scan_tC]; omega
    by_cases k7 : k < 102
    · obtain ⟨i, j, hi, hj, rfl⟩ : ∃ i j, i < 16 ∧ j < 3 ∧ k = 54 + i * 3 + j := ⟨(k - 54) / 3, (k - 54) % 3, by omega, by omega, by omega⟩
      have hj : j = 0 ∨ j = 1 ∨ j = 2 := by omega
      have x1 := h (54 + i * 3 + 1); have x2 := h (54 + i * 3 + 2)
      rcases hj with rfl | rfl | rfl
      · rw [Nat.add_zero, c0 i hi]; have := (hF i hi).2; omega
      · rw [kb_c1 _ i hi, scan_cC]; omega
      · rw [kb_c2 _ i hi, scan_cC]; omega
    · obtain ⟨i, j, hi, hj, rfl⟩ : ∃ i j, i < 16 ∧ j < 2 ∧ k = 102 + i * 2 + j := ⟨(k - 102) / 2, (k - 102) % 2, by omega, by omega, by omega⟩
      have x1 := h (102 + i * 2); have x2 := h (102 + i * 2 + 1)
      have hd : unsg ((scanV f).d (16 + i)) = f (102 + i * 2) + 256 * f (102 + i * 2 + 1) := by
        rw [scan_d, if_neg (by omega), show 16 + i - 16 = i by omega, unsg_sgn (by omega)]
      have hj : j = 0 ∨ j = 1 := by omega
      rcases hj with rfl | rfl
      · rw [Nat.add_zero, kb_d0, hd]; omega
      · rw [kb_d1, hd]; omega

/-- What was written is read as what is kept. -/
theorem make_scan {v : MemV} (hv : v.Ok) {f : Nat → Nat} (hf : ∀ k, k < 134 → f k = keptByte v k) {k : Nat} (hk : k < 136) : (scanV f).cell k = (keptV v).cell k := by
  have e0 : (scanV f).m = (keptV v).m := by
    have h0 := hf 0 (by omega)
    have h1 := hf 1 (by omega)
    have h2 := hf 2 (by omega)
    have h3 := hf 3 (by omega)
    rw [kb_0] at h0
    rw [kb_1] at h1
    rw [kb_2] at h2
    rw [kb_3] at h3
    have := hv.m
    rw [scan_m, h0, h1, h2, h3, kept_m]
    omega
  have e1 : (scanV f).s = v.s := by
    have h0 := hf 4 (by omega)
    have h1 := hf 5 (by omega)
    rw [kb_4] at h0
    rw [kb_5] at h1
    rw [scan_s]
    have := hv.s
    omega
  have e2 : ∀ i, i < 16 → (scanV f).tD i = v.tD i := fun i hi => by
    rw [scan_tD, hf _ (by omega), kb_t0 v i hi]
    cases v.tD i <;> rfl
  have e3 : ∀ i, i < 16 → (scanV f).tC i = v.tC i := fun i hi => by
    rw [scan_tC, hf _ (by omega), hf _ (by omega), kb_t1 v i hi, kb_t2 v i hi]
    have := hv.tC i
    omega
  have e4 : ∀ i, i < 16 → (scanV f).cD i = v.cD i := fun i hi => by
    rw [scan_cD, hf _ (by omega), kb_c0 v i hi]
    cases v.cD i <;> cases v.cL i <;> rfl
  have e5 : ∀ i, i < 16 → (scanV f).cL i = v.cL i := fun i hi => by
    rw [scan_cL, hf _ (by omega), kb_c0 v i hi]
    cases v.cD i <;> cases v.cL i <;> rfl
  have e6 : ∀ i, i < 16 → (scanV f).cC i = v.cC i := fun i hi => by
    rw [scan_cC, hf _ (by omega), hf _ (by omega), kb_c1 v i hi, kb_c2 v i hi]
    have := hv.cC i
    omega
  have e7 : ∀ i, i < 32 → (scanV f).d i = (keptV v).d i := fun i hi => by
    rw [scan_d, kept_d]
    by_cases h : i < 16
    · rw [if_pos h, if_pos h]
    · rw [if_neg h, if_neg h, hf _ (by omega), hf _ (by omega), kb_d0, kb_d1, show 16 + (i - 16) = i by omega, show unsg (v.d i) % 256 + 256 * (unsg (v.d i) / 256 % 256) = unsg (v.d i) by have := unsg_lt (v.d i); omega]
      exact sgn_unsg (hv.d1 i) (hv.d2 i)
  unfold MemV.cell
  by_cases k0 : k = 0
  · rw [if_pos k0, if_pos k0]; rfl
  rw [if_neg k0, if_neg k0]
  by_cases k1 : k = 1
  · rw [if_pos k1, if_pos k1]; rfl
  rw [if_neg k1, if_neg k1]
  by_cases k2 : k = 2
  · rw [if_pos k2, if_pos k2, e0]
  rw [if_neg k2, if_neg k2]
  by_cases k3 : k = 3
  · rw [if_pos k3, if_pos k3, e1]; rfl
  rw [if_neg k3, if_neg k3]
  by_cases k4 : k = 4
  · rw [if_pos k4, if_pos k4]; rfl
  rw [if_neg k4, if_neg k4]
  by_cases k5 : k < 37
  · rw [if_pos k5, if_pos k5, e2 _ (by omega), e3 _ (by omega)]; rfl
  rw [if_neg k5, if_neg k5]
  by_cases k6 : k < 85
  · rw [if_pos k6, if_pos k6, e4 _ (by omega), e5 _ (by omega), e6 _ (by omega)]; rfl
  rw [if_neg k6, if_neg k6]
  by_cases k7 : k < 117
  · rw [if_pos k7, if_pos k7, e7 _ (by omega)]
  rw [if_neg k7, if_neg k7]
  by_cases k8 : k < 133
  · rw [if_pos k8, if_pos k8]; rfl
  rw [if_neg k8, if_neg k8]
  have a1 : (scanV f).time = (keptV v).time := rfl
  have a2 : (scanV f).ran = (keptV v).ran := rfl
  have a3 : (scanV f).fault = (keptV v).fault := rfl
  rw [a1, a2, a3]

theorem make_scan_row {v : MemV} (hv : v.Ok) {f : Nat → Nat} (hf : ∀ k, k < 134 → f k = keptByte v k) : (scanV f).row = (keptV v).row := by
  have e : (List.range 136).map (scanV f).cell = (List.range 136).map (keptV v).cell := List.map_congr_left fun k hk => make_scan hv hf (List.mem_range.1 hk)
  unfold MemV.row
  rw [e]

end Go.Proofs.YtdhoimjkgicneabDoor

/- A store of two slots, its writes and a plan of them, as plain things: what a plan cut behind any number of writes keeps. -/
namespace Go.Proofs.YtdhoimjkgicneabDoor

/-- A slot. -/
structure Sl where
  mark : Nat
  turn : Nat
  data : List Nat

/-- A store. -/
structure Ro where
  a : Sl
  b : Sl

/-- What is written at once. -/
structure Wr where
  kind : Int
  slot : Int
  byte : Nat

def Sl.into (s : Sl) (w : Wr) : Sl :=
  if w.kind = 1 then { s with mark := w.byte } else if w.kind = 2 then { s with turn := w.byte } else if w.kind = 3 then { s with data := [] }
  else if w.kind = 4 then (if s.data.length < 20100 then { s with data := s.data ++ [w.byte] } else s) else s

def Ro.write (r : Ro) (w : Wr) : Ro := if w.slot = 0 then { r with a := r.a.into w } else if w.slot = 1 then { r with b := r.b.into w } else r

def Ro.play (r : Ro) (ws : List Wr) : Ro := ws.foldl Ro.write r

def Sl.good (s : Sl) : Bool := decide (s.mark = 165) && decide (s.turn ≤ 2) && decide (s.data.length ≤ 20100)

def Ro.slotNow (r : Ro) : Int := if r.a.good = true ∧ r.b.good = true ∧ r.b.turn = (r.a.turn + 1) % 3 then 1 else if r.a.good = true then 0 else if r.b.good = true then 1 else -1

def Ro.now (r : Ro) : Option (List Nat) := if r.slotNow = 0 then some r.a.data else if r.slotNow = 1 then some r.b.data else none

/-- The slot that is to be written, its turn, and the last write. -/
def Ro.to (r : Ro) : Int := if r.slotNow = 0 then 1 else 0
def Ro.turnTo (r : Ro) : Nat := if r.slotNow = 0 then (r.a.turn + 1) % 3 else if r.slotNow = 1 then (r.b.turn + 1) % 3 else 0
def puts (t : Int) (data : List Nat) : List Wr := data.map fun x => ⟨4, t, x⟩
def Ro.tail (r : Ro) : List Wr := if 0 ≤ r.slotNow then [⟨1, r.slotNow, 0⟩] else []
def Ro.plan (r : Ro) (data : List Nat) : List Wr := [⟨1, r.to, 0⟩, ⟨3, r.to, 0⟩] ++ puts r.to data ++ [⟨2, r.to, r.turnTo⟩, ⟨1, r.to, 165⟩] ++ r.tail

theorem Ro.play_append (r : Ro) (u v : List Wr) : r.play (u ++ v) = (r.play u).play v := by simp [Ro.play]
theorem Ro.play_cons (r : Ro) (w : Wr) (v : List Wr) : r.play (w :: v) = (r.write w).play v := rfl
theorem Ro.play_nil (r : Ro) : r.play [] = r := rfl

theorem puts_a (data : List Nat) : ∀ (m t : Nat) (d : List Nat) (B : Sl), d.length + data.length ≤ 20100 → (Ro.mk ⟨m, t, d⟩ B).play (puts 0 data) = ⟨⟨m, t, d ++ data⟩, B⟩ := by
  induction data with
  | nil => intro m t d B _; simp [puts, Ro.play]
  | cons x xs ih =>
    intro m t d B h
    simp only [List.length_cons] at h
    have e : puts 0 (x :: xs) = ⟨4, 0, x⟩ :: puts 0 xs := rfl
    have e2 : (Ro.mk ⟨m, t, d⟩ B).write ⟨4, 0, x⟩ = ⟨⟨m, t, d ++ [x]⟩, B⟩ := by simp [Ro.write, Sl.into, show d.length < 20100 by omega]
    rw [e, Ro.play_cons, e2, ih m t (d ++ [x]) B (by simp; omega)]
    simp

theorem puts_b (data : List Nat) : ∀ (m t : Nat) (d : List Nat) (A : Sl), d.length + data.length ≤ 20100 → (Ro.mk A ⟨m, t, d⟩).play (puts 1 data) = ⟨A, ⟨m, t, d ++ data⟩⟩ := by
  induction data with
  | nil => intro m t d A _; simp [puts, Ro.play]
  | cons x xs ih =>
    intro m t d A h
    simp only [List.length_cons] at h
    have e : puts 1 (x :: xs) = ⟨4, 1, x⟩ :: puts 1 xs := rfl
    have e2 : (Ro.mk A ⟨m, t, d⟩).write ⟨4, 1, x⟩ = ⟨A, ⟨m, t, d ++ [x]⟩⟩ := by simp [Ro.write, Sl.into, show d.length < 20100 by omega]
    rw [e, Ro.play_cons, e2, ih m t (d ++ [x]) A (by simp; omega)]
    simp

theorem puts_take (t : Int) (data : List Nat) (n : Nat) : (puts t data).take n = puts t (data.take n) := by simp [puts, List.map_take]
theorem puts_len (t : Int) (data : List Nat) : (puts t data).length = data.length := by simp [puts]

/-- A slot while a plan is written into it. -/
def half (s : Sl) (turn : Nat) (data : List Nat) (n : Nat) : Sl :=
  if n = 0 then s else if n = 1 then { s with mark := 0 } else if n ≤ data.length + 2 then ⟨0, s.turn, data.take (n - 2)⟩ else if n = data.length + 3 then ⟨0, turn, data⟩ else ⟨165, turn, data⟩

theorem frame_take (t : Int) (turn : Nat) (data : List Nat) (tl : List Wr) (n : Nat) :
    (([⟨1, t, 0⟩, ⟨3, t, 0⟩] ++ puts t data ++ [⟨2, t, turn⟩, ⟨1, t, 165⟩] ++ tl : List Wr)).take n =
      if n = 0 then [] else if n = 1 then [⟨1, t, 0⟩] else if n ≤ data.length + 2 then [⟨1, t, 0⟩, ⟨3, t, 0⟩] ++ puts t (data.take (n - 2))
      else if n = data.length + 3 then [⟨1, t, 0⟩, ⟨3, t, 0⟩] ++ puts t data ++ [⟨2, t, turn⟩]
      else [⟨1, t, 0⟩, ⟨3, t, 0⟩] ++ puts t data ++ [⟨2, t, turn⟩, ⟨1, t, 165⟩] ++ tl.take (n - (data.length + 4)) := by
  split
  · subst_vars; simp
  split
  · subst_vars; simp
  split
  · rename_i h0 h1 h2
    obtain ⟨k, rfl⟩ : ∃ k, n = k + 2 := ⟨n - 2, by omega⟩
    simp only [List.cons_append, List.nil_append, List.append_assoc, List.take_succ_cons]
    rw [List.take_append_of_le_length (by rw [puts_len]; omega), puts_take]
    simp
  split
  · subst_vars
    simp [puts_len, List.take_append, List.take_of_length_le]
  · rename_i h0 h1 h2 h3
    obtain ⟨k, rfl⟩ : ∃ k, n = k + (data.length + 4) := ⟨n - (data.length + 4), by omega⟩
    rw [List.take_append]
    congr 1
    · exact List.take_of_length_le (by simp [puts_len])
    · simp [puts_len]

theorem play_half_a (A B : Sl) (turn : Nat) (data tl : _) (n : Nat) (hd : data.length ≤ 20100) :
    (Ro.mk A B).play (([⟨1, 0, 0⟩, ⟨3, 0, 0⟩] ++ puts 0 data ++ [⟨2, 0, turn⟩, ⟨1, 0, 165⟩] ++ tl : List Wr).take n) = (Ro.mk (half A turn data n) B).play (tl.take (n - (data.length + 4))) := by
  rw [frame_take]
  have c2 : (Ro.mk A B).play [⟨1, 0, 0⟩, ⟨3, 0, 0⟩] = ⟨⟨0, A.turn, []⟩, B⟩ := by simp [Ro.play, Ro.write, Sl.into]
  have c3 : ∀ xs : List Nat, xs.length ≤ 20100 → (Ro.mk A B).play ([⟨1, 0, 0⟩, ⟨3, 0, 0⟩] ++ puts 0 xs) = ⟨⟨0, A.turn, xs⟩, B⟩ := by
    intro xs h
    rw [Ro.play_append, c2, puts_a _ _ _ _ _ (by simpa using h)]; simp
  unfold half
  split
  · subst_vars; simp [Ro.play]
  split
  · subst_vars; simp [Ro.play, Ro.write, Sl.into]
  split
  · rename_i h0 h1 h2
    rw [c3 _ (by simp; omega), show n - (data.length + 4) = 0 by omega]; rfl
  split
  · rw [Ro.play_append, c3 _ hd, show n - (data.length + 4) = 0 by omega]; simp [Ro.play, Ro.write, Sl.into]
  · rw [Ro.play_append, Ro.play_append, c3 _ hd]
    congr 1

theorem play_half_b (A B : Sl) (turn : Nat) (data tl : _) (n : Nat) (hd : data.length ≤ 20100) :
    (Ro.mk A B).play (([⟨1, 1, 0⟩, ⟨3, 1, 0⟩] ++ puts 1 data ++ [⟨2, 1, turn⟩, ⟨1, 1, 165⟩] ++ tl : List Wr).take n) = (Ro.mk A (half B turn data n)).play (tl.take (n - (data.length + 4))) := by
  rw [frame_take]
  have c2 : (Ro.mk A B).play [⟨1, 1, 0⟩, ⟨3, 1, 0⟩] = ⟨A, ⟨0, B.turn, []⟩⟩ := by simp [Ro.play, Ro.write, Sl.into]
  have c3 : ∀ xs : List Nat, xs.length ≤ 20100 → (Ro.mk A B).play ([⟨1, 1, 0⟩, ⟨3, 1, 0⟩] ++ puts 1 xs) = ⟨A, ⟨0, B.turn, xs⟩⟩ := by
    intro xs h
    rw [Ro.play_append, c2, puts_b _ _ _ _ _ (by simpa using h)]; simp
  unfold half
  split
  · subst_vars; simp [Ro.play]
  split
  · subst_vars; simp [Ro.play, Ro.write, Sl.into]
  split
  · rename_i h0 h1 h2
    rw [c3 _ (by simp; omega), show n - (data.length + 4) = 0 by omega]; rfl
  split
  · rw [Ro.play_append, c3 _ hd, show n - (data.length + 4) = 0 by omega]; simp [Ro.play, Ro.write, Sl.into]
  · rw [Ro.play_append, Ro.play_append, c3 _ hd]
    congr 1

theorem half_bad (s : Sl) (turn : Nat) (data : List Nat) (n : Nat) (h0 : n ≠ 0) (h1 : n < data.length + 4) : (half s turn data n).good = false := by
  unfold half Sl.good
  split
  · contradiction
  split
  · simp
  split
  · simp
  split
  · simp
  · omega
theorem half_whole (s : Sl) (turn : Nat) (data : List Nat) (n : Nat) (h1 : data.length + 4 ≤ n) : half s turn data n = ⟨165, turn, data⟩ := by
  unfold half
  split
  · omega
  split
  · omega
  split
  · omega
  split
  · omega
  · rfl
theorem half_none (s : Sl) (turn : Nat) (data : List Nat) : half s turn data 0 = s := rfl

theorem plan_len (r : Ro) (data : List Nat) : (r.plan data).length = data.length + 4 + r.tail.length := by
  simp [Ro.plan, puts_len]; omega

/-- Old or new. -/
theorem old_or_new (r : Ro) (data : List Nat) (hd : data.length ≤ 20100) (n : Nat) :
    (n < data.length + 4 → (r.play ((r.plan data).take n)).now = r.now) ∧ (data.length + 4 ≤ n → (r.play ((r.plan data).take n)).now = some data) := by
  obtain ⟨A, B⟩ := r
  have hgood : ∀ t : Nat, t ≤ 2 → (Sl.mk 165 t data).good = true := by intro t ht; simp [Sl.good, hd, ht]
  have hbad : ∀ (t : Nat) (d : List Nat), (Sl.mk 0 t d).good = false := by intro t d; simp [Sl.good]
  have hgt : ∀ s : Sl, s.good = true → s.turn ≤ 2 := by intro s hs; simp [Sl.good] at hs; exact hs.1.2
  by_cases ga : A.good = true
  · by_cases gb : B.good = true
    · by_cases gt : B.turn = (A.turn + 1) % 3
      · -- B counts
        have e1 : (Ro.mk A B).slotNow = 1 := by simp [Ro.slotNow, ga, gb, gt]
        have ep : (Ro.mk A B).plan data = [⟨1, 0, 0⟩, ⟨3, 0, 0⟩] ++ puts 0 data ++ [⟨2, 0, (B.turn + 1) % 3⟩, ⟨1, 0, 165⟩] ++ [⟨1, 1, 0⟩] := by simp [Ro.plan, Ro.to, Ro.turnTo, Ro.tail, e1]
        rw [ep, play_half_a _ _ _ _ _ _ hd]
        have en : (Ro.mk A B).now = some B.data := by simp [Ro.now, e1]
        rw [en]
        refine ⟨fun h => ?_, fun h => ?_⟩
        · rw [show n - (data.length + 4) = 0 by omega, List.take_zero, Ro.play_nil]
          by_cases h0 : n = 0
          · subst h0; rw [half_none]; exact en
          · have := half_bad A ((B.turn + 1) % 3) data n h0 h
            simp [Ro.now, Ro.slotNow, this, gb]
        · rw [half_whole _ _ _ _ h]
          have := hgt B gb
          have h1 := hgood ((B.turn + 1) % 3) (by omega)
          by_cases h5 : n - (data.length + 4) = 0
          · rw [h5, List.take_zero, Ro.play_nil]
            have hne : B.turn ≠ (B.turn + 1 + 1) % 3 := by omega
            have e2 : (Ro.mk ⟨165, (B.turn + 1) % 3, data⟩ B).slotNow = 0 := by simp [Ro.slotNow, h1, gb, hne]
            simp [Ro.now, e2]
          · obtain ⟨k, hk⟩ : ∃ k, n - (data.length + 4) = k + 1 := ⟨n - (data.length + 4) - 1, by omega⟩
            rw [hk]
            have e2 : (Ro.mk ⟨165, (B.turn + 1) % 3, data⟩ ⟨0, B.turn, B.data⟩).slotNow = 0 := by simp [Ro.slotNow, h1, hbad]
            simp [Ro.play, Ro.write, Sl.into, Ro.now, e2]
      · have e1 : (Ro.mk A B).slotNow = 0 := by simp [Ro.slotNow, ga, gt]
        have ep : (Ro.mk A B).plan data = [⟨1, 1, 0⟩, ⟨3, 1, 0⟩] ++ puts 1 data ++ [⟨2, 1, (A.turn + 1) % 3⟩, ⟨1, 1, 165⟩] ++ [⟨1, 0, 0⟩] := by simp [Ro.plan, Ro.to, Ro.turnTo, Ro.tail, e1]
        rw [ep, play_half_b _ _ _ _ _ _ hd]
        have en : (Ro.mk A B).now = some A.data := by simp [Ro.now, e1]
        rw [en]
        refine ⟨fun h => ?_, fun h => ?_⟩
        · rw [show n - (data.length + 4) = 0 by omega, List.take_zero, Ro.play_nil]
          by_cases h0 : n = 0
          · subst h0; rw [half_none]; exact en
          · have := half_bad B ((A.turn + 1) % 3) data n h0 h
            simp [Ro.now, Ro.slotNow, this, ga]
        · rw [half_whole _ _ _ _ h]
          have := hgt A ga
          have h1 := hgood ((A.turn + 1) % 3) (by omega)
          by_cases h5 : n - (data.length + 4) = 0
          · rw [h5, List.take_zero, Ro.play_nil]
            have e2 : (Ro.mk A ⟨165, (A.turn + 1) % 3, data⟩).slotNow = 1 := by simp [Ro.slotNow, h1, ga]
            simp [Ro.now, e2]
          · obtain ⟨k, hk⟩ : ∃ k, n - (data.length + 4) = k + 1 := ⟨n - (data.length + 4) - 1, by omega⟩
            rw [hk]
            have e2 : (Ro.mk ⟨0, A.turn, A.data⟩ ⟨165, (A.turn + 1) % 3, data⟩).slotNow = 1 := by simp [Ro.slotNow, h1, hbad]
            simp [Ro.play, Ro.write, Sl.into, Ro.now, e2]
    · have gb' : B.good = false := by simpa using gb
      have e1 : (Ro.mk A B).slotNow = 0 := by simp [Ro.slotNow, ga, gb']
      have ep : (Ro.mk A B).plan data = [⟨1, 1, 0⟩, ⟨3, 1, 0⟩] ++ puts 1 data ++ [⟨2, 1, (A.turn + 1) % 3⟩, ⟨1, 1, 165⟩] ++ [⟨1, 0, 0⟩] := by simp [Ro.plan, Ro.to, Ro.turnTo, Ro.tail, e1]
      rw [ep, play_half_b _ _ _ _ _ _ hd]
      have en : (Ro.mk A B).now = some A.data := by simp [Ro.now, e1]
      rw [en]
      refine ⟨fun h => ?_, fun h => ?_⟩
      · rw [show n - (data.length + 4) = 0 by omega, List.take_zero, Ro.play_nil]
        by_cases h0 : n = 0
        · subst h0; rw [half_none]; exact en
        · have := half_bad B ((A.turn + 1) % 3) data n h0 h
          simp [Ro.now, Ro.slotNow, this, ga]
      · rw [half_whole _ _ _ _ h]
        have := hgt A ga
        have h1 := hgood ((A.turn + 1) % 3) (by omega)
        by_cases h5 : n - (data.length + 4) = 0
        · rw [h5, List.take_zero, Ro.play_nil]
          have e2 : (Ro.mk A ⟨165, (A.turn + 1) % 3, data⟩).slotNow = 1 := by simp [Ro.slotNow, h1, ga]
          simp [Ro.now, e2]
        · obtain ⟨k, hk⟩ : ∃ k, n - (data.length + 4) = k + 1 := ⟨n - (data.length + 4) - 1, by omega⟩
          rw [hk]
          have e2 : (Ro.mk ⟨0, A.turn, A.data⟩ ⟨165, (A.turn + 1) % 3, data⟩).slotNow = 1 := by simp [Ro.slotNow, h1, hbad]
          simp [Ro.play, Ro.write, Sl.into, Ro.now, e2]
  · have ga' : A.good = false := by simpa using ga
    by_cases gb : B.good = true
    · have e1 : (Ro.mk A B).slotNow = 1 := by simp [Ro.slotNow, ga', gb]
      have ep : (Ro.mk A B).plan data = [⟨1, 0, 0⟩, ⟨3, 0, 0⟩] ++ puts 0 data ++ [⟨2, 0, (B.turn + 1) % 3⟩, ⟨1, 0, 165⟩] ++ [⟨1, 1, 0⟩] := by simp [Ro.plan, Ro.to, Ro.turnTo, Ro.tail, e1]
      rw [ep, play_half_a _ _ _ _ _ _ hd]
      have en : (Ro.mk A B).now = some B.data := by simp [Ro.now, e1]
      rw [en]
      refine ⟨fun h => ?_, fun h => ?_⟩
      · rw [show n - (data.length + 4) = 0 by omega, List.take_zero, Ro.play_nil]
        by_cases h0 : n = 0
        · subst h0; rw [half_none]; exact en
        · have := half_bad A ((B.turn + 1) % 3) data n h0 h
          simp [Ro.now, Ro.slotNow, this, gb]
      · rw [half_whole _ _ _ _ h]
        have := hgt B gb
        have h1 := hgood ((B.turn + 1) % 3) (by omega)
        by_cases h5 : n - (data.length + 4) = 0
        · rw [h5, List.take_zero, Ro.play_nil]
          have hne : B.turn ≠ (B.turn + 1 + 1) % 3 := by omega
          have e2 : (Ro.mk ⟨165, (B.turn + 1) % 3, data⟩ B).slotNow = 0 := by simp [Ro.slotNow, h1, gb, hne]
          simp [Ro.now, e2]
        · obtain ⟨k, hk⟩ : ∃ k, n - (data.length + 4) = k + 1 := ⟨n - (data.length + 4) - 1, by omega⟩
          rw [hk]
          have e2 : (Ro.mk ⟨165, (B.turn + 1) % 3, data⟩ ⟨0, B.turn, B.data⟩).slotNow = 0 := by simp [Ro.slotNow, h1, hbad]
          simp [Ro.play, Ro.write, Sl.into, Ro.now, e2]
    · have gb' : B.good = false := by simpa using gb
      have e1 : (Ro.mk A B).slotNow = -1 := by simp [Ro.slotNow, ga', gb']
      have ep : (Ro.mk A B).plan data = [⟨1, 0, 0⟩, ⟨3, 0, 0⟩] ++ puts 0 data ++ [⟨2, 0, 0⟩, ⟨1, 0, 165⟩] ++ [] := by simp [Ro.plan, Ro.to, Ro.turnTo, Ro.tail, e1]
      rw [ep, play_half_a _ _ _ _ _ _ hd]
      have en : (Ro.mk A B).now = none := by simp [Ro.now, e1]
      rw [en, List.take_nil, Ro.play_nil]
      refine ⟨fun h => ?_, fun h => ?_⟩
      · by_cases h0 : n = 0
        · subst h0; rw [half_none]; exact en
        · have := half_bad A 0 data n h0 h
          simp [Ro.now, Ro.slotNow, this, gb']
      · rw [half_whole _ _ _ _ h]
        have h1 := hgood 0 (by omega)
        have e2 : (Ro.mk ⟨165, 0, data⟩ B).slotNow = 0 := by simp [Ro.slotNow, h1, gb']
        simp [Ro.now, e2]

theorem now_tail (r : Ro) : r.tail.length = if r.now = none then 0 else 1 := by
  unfold Ro.tail Ro.now
  have : r.slotNow = 0 ∨ r.slotNow = 1 ∨ r.slotNow = -1 := by unfold Ro.slotNow; split; simp; split; simp; split <;> simp
  rcases this with h | h | h <;> simp [h]

theorem slot_cases (r : Ro) : (r.slotNow = 0 ∧ r.a.good = true) ∨ (r.slotNow = 1 ∧ r.b.good = true) ∨ (r.slotNow = -1 ∧ r.a.good = false ∧ r.b.good = false) := by
  unfold Ro.slotNow
  cases r.a.good <;> cases r.b.good <;> simp <;> omega

/-- What is there behind a whole plan. -/
theorem play_whole (r : Ro) (data : List Nat) (hd : data.length ≤ 20100) :
    r.play (r.plan data) = if r.slotNow = 0 then ⟨⟨0, r.a.turn, r.a.data⟩, ⟨165, (r.a.turn + 1) % 3, data⟩⟩ else if r.slotNow = 1 then ⟨⟨165, (r.b.turn + 1) % 3, data⟩, ⟨0, r.b.turn, r.b.data⟩⟩ else ⟨⟨165, 0, data⟩, r.b⟩ := by
  obtain ⟨A, B⟩ := r
  have hn : ∀ (r : Ro), (r.plan data).take (data.length + 5) = r.plan data := fun r => List.take_of_length_le (by rw [plan_len, now_tail]; split <;> omega)
  rw [← hn]
  rcases slot_cases ⟨A, B⟩ with ⟨h, -⟩ | ⟨h, -⟩ | ⟨h, -, -⟩
  · have ep : (Ro.mk A B).plan data = [⟨1, 1, 0⟩, ⟨3, 1, 0⟩] ++ puts 1 data ++ [⟨2, 1, (A.turn + 1) % 3⟩, ⟨1, 1, 165⟩] ++ [⟨1, 0, 0⟩] := by simp [Ro.plan, Ro.to, Ro.turnTo, Ro.tail, h]
    rw [ep, play_half_b _ _ _ _ _ _ hd, half_whole _ _ _ _ (by omega), show data.length + 5 - (data.length + 4) = 1 by omega]
    simp [h, Ro.play, Ro.write, Sl.into]
  · have ep : (Ro.mk A B).plan data = [⟨1, 0, 0⟩, ⟨3, 0, 0⟩] ++ puts 0 data ++ [⟨2, 0, (B.turn + 1) % 3⟩, ⟨1, 0, 165⟩] ++ [⟨1, 1, 0⟩] := by simp [Ro.plan, Ro.to, Ro.turnTo, Ro.tail, h]
    rw [ep, play_half_a _ _ _ _ _ _ hd, half_whole _ _ _ _ (by omega), show data.length + 5 - (data.length + 4) = 1 by omega]
    simp [h, Ro.play, Ro.write, Sl.into]
  · have ep : (Ro.mk A B).plan data = [⟨1, 0, 0⟩, ⟨3, 0, 0⟩] ++ puts 0 data ++ [⟨2, 0, 0⟩, ⟨1, 0, 165⟩] ++ [] := by simp [Ro.plan, Ro.to, Ro.turnTo, Ro.tail, h]
    rw [ep, play_half_a _ _ _ _ _ _ hd, half_whole _ _ _ _ (by omega)]
    simp [h, Ro.play]

/-- Behind a whole plan the slot that was written counts, and the one that counted has no mark. -/
theorem once (r : Ro) (data : List Nat) (hd : data.length ≤ 20100) :
    (r.slotNow = 0 ∧ (r.play (r.plan data)).slotNow = 1 ∧ (r.play (r.plan data)).b.mark = 165 ∧ (r.play (r.plan data)).a.mark = 0) ∨
    (r.slotNow = 1 ∧ (r.play (r.plan data)).slotNow = 0 ∧ (r.play (r.plan data)).a.mark = 165 ∧ (r.play (r.plan data)).b.mark = 0) ∨
    (r.slotNow = -1 ∧ (r.play (r.plan data)).slotNow = 0 ∧ (r.play (r.plan data)).a.mark = 165 ∧ (r.play (r.plan data)).b.mark = r.b.mark) := by
  have hgt : ∀ s : Sl, s.good = true → s.turn ≤ 2 := by intro s hs; simp [Sl.good] at hs; exact hs.1.2
  have hgood : ∀ t : Nat, t ≤ 2 → (Sl.mk 165 t data).good = true := by intro t ht; simp [Sl.good, hd, ht]
  have hbad : ∀ (t : Nat) (d : List Nat), (Sl.mk 0 t d).good = false := by intro t d; simp [Sl.good]
  rcases slot_cases r with ⟨h, g⟩ | ⟨h, g⟩ | ⟨h, ga, gb⟩
  · have e : r.play (r.plan data) = ⟨⟨0, r.a.turn, r.a.data⟩, ⟨165, (r.a.turn + 1) % 3, data⟩⟩ := by rw [play_whole r data hd, h]; rfl
    rw [e]
    exact Or.inl ⟨h, by simp [Ro.slotNow, hbad, hgood ((r.a.turn + 1) % 3) (by have := hgt _ g; omega)], rfl, rfl⟩
  · have e : r.play (r.plan data) = ⟨⟨165, (r.b.turn + 1) % 3, data⟩, ⟨0, r.b.turn, r.b.data⟩⟩ := by rw [play_whole r data hd, h]; rfl
    rw [e]
    exact Or.inr (Or.inl ⟨h, by simp [Ro.slotNow, hbad, hgood ((r.b.turn + 1) % 3) (by have := hgt _ g; omega)], rfl, rfl⟩)
  · have e : r.play (r.plan data) = ⟨⟨165, 0, data⟩, r.b⟩ := by rw [play_whole r data hd, h]; rfl
    rw [e]
    exact Or.inr (Or.inr ⟨h, by simp [Ro.slotNow, gb, hgood 0 (by omega)], rfl, rfl⟩)

end Go.Proofs.YtdhoimjkgicneabDoor
